/- sched: New; a schedule made since w. -/
import Derived.Test.YtbpnbnbglfiglaaSchB
namespace Go.Proofs.Ytbpnbnbglfiglaa.sch
open Go Go.RowKit

/-- The numbers l lie from a on. -/
def Sl (w : World) (a : Option Addr) (l : List Int) : Prop := ∀ (i : Nat) x, l[i]? = some x → ∃ b o, a = some ⟨b, o, none⟩ ∧ b < w.heap.size ∧ w.cell? ⟨b, o + i, none⟩ = some (.int .i64 x)

theorem Sl.turn {w w' : World} {a : Option Addr} {l : List Int} (h : Sl w a l) (t : Turn (fun j => w.heap.size ≤ j) w w') : Sl w' a l := fun i x hx => by
  obtain ⟨b, o, e, hb, hc⟩ := h i x hx
  exact ⟨b, o, e, Nat.lt_of_lt_of_le hb t.size, (Turn.cell (p := ⟨b, o + i, none⟩) t hb (Nat.not_le_of_lt hb)).trans hc⟩
theorem Sl.of_ints {w : World} {a : Option Addr} {n c : Nat} {l : List Int} (h : Ints w (.slice a n c) l) : Sl w a l := fun i x hx => by
  have hi : i < l.length := (List.getElem?_eq_some_iff.1 hx).1
  obtain ⟨g, c', e, hc⟩ := h.cell i hi
  injection e with e
  refine ⟨g, 0, e, own_lt h (by rw [e]; rfl), by rw [Nat.zero_add]; exact hc i x hx⟩

/-- The schedule, all of whose blocks were made since w. -/
structure Nw (w : World) (s q : Nat) (r : Option Nat) (v : Value) (a : Ab) (V : World) : Prop where
  sc : Sc V s q r v a
  ns : w.heap.size ≤ s
  nq : w.heap.size ≤ q
  nr : ∀ b, r = some b → w.heap.size ≤ b
  nv : ∀ b, v.ownBlock = some b → w.heap.size ≤ b
  turn : Turn (fun j => w.heap.size ≤ j) w V

section
variable {w V V' : World} {s q : Nat} {r r' : Option Nat} {v : Value} {a a' : Ab}
theorem Nw.ends (h : Nw w s q r v a V) : Below w.heap.size w V := h.turn.below (Nat.le_refl _) (fun _ hj e => by omega)
theorem Nw.below (h : Nw w s q r v a V) (hb : Below V.heap.size V V') : Nw w s q r v a V' :=
  ⟨h.sc.below hb, h.ns, h.nq, h.nr, h.nv, h.turn.trans (Turn.of_below hb (F := fun j => V.heap.size ≤ j) (fun _ _ e => e)) (fun j h1 h2 => absurd h2 (by have := h.turn.size; omega))⟩
theorem Nw.drew (h : Nw w s q r v a V) : Nw w s q r v a V.drew := ⟨h.sc.drew, h.ns, h.nq, h.nr, h.nv, h.turn.drew⟩
theorem Nw.drewN (h : Nw w s q r v a V) (n : Nat) : Nw w s q r v a (V.drewN n) := ⟨h.sc.drewN n, h.ns, h.nq, h.nr, h.nv, h.turn.drewN n⟩
/-- Another block turns, made since w, that is none of it. -/
theorem Nw.other {F : Nat → Prop} (h : Nw w s q r v a V) (t : Turn F V V') (hF : ∀ j, F j → w.heap.size ≤ j) (h1 : ¬ F s) (h2 : ¬ F q) (h3 : ∀ b, r = some b → ¬ F b) (h4 : ∀ b, v.ownBlock = some b → ¬ F b) : Nw w s q r v a V' :=
  ⟨h.sc.turn t h1 h2 h3 h4, h.ns, h.nq, h.nr, h.nv, h.turn.trans t (fun j _ e => hF j e)⟩
/-- Its own blocks turn. -/
theorem Nw.did (h : Nw w s q r v a V) (k : Sc V' s q r' v a') (n : ∀ g, r' = some g → r = some g ∨ V.heap.size ≤ g) (t : Turn (fun j => v.ownBlock = some j ∨ j = s ∨ j = q ∨ r = some j) V V') : Nw w s q r' v a' V' :=
  ⟨k, h.ns, h.nq, fun b hb => by
    rcases n b hb with e | e
    · exact h.nr b e
    · exact Nat.le_trans h.turn.size e, h.nv, h.turn.trans t (fun j _ e => by
    rcases e with e | e | e | e
    · exact h.nv j e
    · rw [e]; exact h.ns
    · rw [e]; exact h.nq
    · exact h.nr j e)⟩
end

/-- Of a later world: of an earlier one too. -/
theorem Nw.since {w w1 W : World} {s q : Nat} {r : Option Nat} {v : Value} {a : Ab} (h : Nw w1 s q r v a W) (t : Turn (fun j => w.heap.size ≤ j) w w1) : Nw w s q r v a W :=
  ⟨h.sc, Nat.le_trans t.size h.ns, Nat.le_trans t.size h.nq, fun b hb => Nat.le_trans t.size (h.nr b hb), fun b hb => Nat.le_trans t.size (h.nv b hb), t.trans h.turn (fun _ _ e => Nat.le_trans t.size e)⟩

/-- A pace more. -/
theorem Nw.pushP {w wr w2 : World} {s q : Nat} {r : Option Nat} {v : Value} {a : Ab} (h : Nw w s q r v a wr) {g cp : Nat} {n : Nat} {o : Obj} (p : Int) (hn : a.P.length = n) (hown : w2.ownsRow 0 3 1 (.slice (some ⟨g, 0, none⟩) (n + 1) cp) (n + 1) (a.P.map (Value.int .i64) ++ [.int .i64 (bnd p)]))
    (hg : (wr.alloc o).grownBy w2 v.ownBlock) (hat : v.ownBlock = some g ∨ g = (wr.alloc o).heap.size) : Nw w s q r (.slice (some ⟨g, 0, none⟩) (n + 1) cp) (pushed a p) (w2.setCell ⟨s, 1, none⟩ (.slice (some ⟨g, 0, none⟩) (n + 1) cp)) := by
  subst hn
  have T2 : Turn (fun j => v.ownBlock = some j) wr w2 := ((Turn.refl _ wr).alloc _).grown hg (fun j e _ => e)
  have T3 : Turn (fun j => j = s) w2 (w2.setCell ⟨s, 1, none⟩ (.slice (some ⟨g, 0, none⟩) (a.P.length + 1) cp)) := (Turn.refl (fun j => j = s) w2).put (fun _ => rfl) 1 _
  have hs2 := h.sc.own.turn T2 h.sc.vs
  have hgs : g ≠ s := fun e => own_ne hown hs2 (by decide) (by rw [e]; rfl)
  have e1 : (pushed a p).P = a.P ++ [bnd p] := rfl
  refine ⟨⟨?_, ?_, ?_⟩, h.ns, h.nq, h.nr, fun b hb => ?_, ?_⟩
  · have := hs2.put 1 (.slice (some ⟨g, 0, none⟩) (a.P.length + 1) cp)
    simpa [pushed] using this
  · have := own_turn hown T3 (fun b hb e => hgs (by injection hb with hb; rw [← e]; exact hb))
    unfold Ints
    rw [e1, List.length_append, List.map_append]
    exact this
  · exact (h.sc.qs.turn T2 h.sc.vq (fun b hb e => h.sc.vr b e hb)).turn T3 (fun e => h.sc.sq e.symm) (fun b hb e => h.sc.sr (by rw [hb, e]))
  · injection hb with hb
    subst hb
    rcases hat with e | e
    · exact h.nv g e
    · rw [e]; exact Nat.le_trans h.turn.size (by simp)
  · exact (h.turn.trans T2 (fun j _ e => h.nv j e)).trans T3 (fun j _ e => by rw [e]; exact h.ns)

theorem take_snoc {l : List Int} {j : Nat} {p : Int} (h : l[j]? = some p) : l.take (j + 1) = l.take j ++ [p] := by
  obtain ⟨hj, e⟩ := List.getElem?_eq_some_iff.1 h
  rw [List.take_succ_eq_append_getElem hj, e]

def NewPost (w : World) (l : List Int) (en : Ending) (w' : World) : Prop := ∃ s q r v, en = .returned (.pointer (some ⟨s, 0, none⟩)) ∧ Nw w s q r v (made l) w'

set_option maxRecDepth 100000 in
set_option maxHeartbeats 4000000 in
theorem new_calls (w : World) (a : Option Addr) (n c : Nat) (l : List Int) (hl : l.length = n) (hn : n ≤ 10) (hS : Sl w a l) :
    Calls Try.prog 7 #[.slice a n c] w (NewPost w l) := by
  obtain ⟨i0, z0, hi0, hz0, hz1, hz2, hz3⟩ := Try.zeroInt
  have HI0 := Lib.hid hi0
  have HZ0 := Lib.hid hz0
  have HS := Lib.hid hS
  have HL := Lib.hid hl
  clear hi0 hz0 hS hl
  go_enter Try.func7, Try.ntmps7
  go_wp2_with (first
    | (go_at_call 22; refine (qs_new w).mono ?_; rintro en w1 ⟨rfl, q1, g1⟩
       have Q1 := Lib.hid q1
       have G1 := Lib.hid g1
       clear q1 g1)
    | fail)
  go_name_world W hW
  obtain ⟨q, hq⟩ : ∃ q, q = w.heap.size := ⟨_, rfl⟩
  obtain ⟨s, hs⟩ : ∃ s, s = w1.heap.size := ⟨_, rfl⟩
  have hN : Nw w s q none (.slice none 0 0) (made []) W := by
    have hQ : Qs w1 q none [] 0 := by rw [hq]; exact Q1.out
    refine ⟨⟨?_, World.ownsRow_nil W 0 _ 1, ?_⟩, by rw [hs]; exact G1.out.size, by rw [hq]; exact Nat.le_refl _, fun b hb => (by cases hb), fun b hb => (by cases hb), ?_⟩
    · rw [← hW, hs, hq]; exact Has.made _ _ _
    · rw [← hW]
      refine hQ.turn ((Turn.refl (fun _ => False) w1).alloc _) (fun e => e) (fun _ _ e => e)
    · rw [← hW]
      exact ((Turn.refl (fun j => w.heap.size ≤ j) w).grown G1.out (fun j e _ => by cases e)).alloc _
  rw [← hs]
  have HN := Lib.hid hN
  clear hW hN hq hs Q1 G1
  go_loopw [11] (fun i wr => ∃ (j : Nat) (r : Option Nat) (v : Value), i = .int .i64 j ∧ j ≤ n ∧ Hid (Nw w s q r v (made (l.take j)) wr)) (fun i _ => n - (intOf i).toNat)
  case atStart => exact ⟨0, none, _, rfl, Nat.zero_le _, HN⟩
  case round =>
    clear HN
    obtain ⟨j, r, v, rfl, hj, HN⟩ := hrel
    by_cases hj1 : j < n
    · have h1 : (j : Int) < (n : Int) := by omega
      have h0 : (0 : Int) ≤ (j : Int) := by omega
      have hjl : j < l.length := by rw [HL.out]; exact hj1
      obtain ⟨p, hp⟩ : ∃ p, l[j]? = some p := ⟨_, List.getElem?_eq_getElem hjl⟩
      obtain ⟨b, o, ea, hb, hc⟩ := (HS.out.turn HN.out.turn) j p hp
      subst ea
      have HP := Lib.hid hp
      clear hb hp hjl
      have c1 : wr.cell? ⟨s, 1, none⟩ = some v := HN.out.sc.c1
      have tl : (l.take j).length = j := by rw [List.length_take, HL.out]; omega
      obtain ⟨m1, m2, m3⟩ := made_inv (l.take j) (by rw [tl]; omega)
      have hPl : (made (l.take j)).P.length = j := by rw [m2, List.length_map, tl]
      have HPL := Lib.hid hPl
      have hI := Lib.hid m1
      have HSeg : Hid (wr.ownsRow 0 3 1 v j ((made (l.take j)).P.map (Value.int .i64))) := by
        have := HN.out.sc.pac
        unfold Ints at this
        rw [hPl] at this
        exact Lib.hid this
      clear m1 m2 m3 hPl
      have HB := fun V => Lib.hid (bounded_calls p V)
      go_wp2_with fail
      have hpb := bnd_range p
      obtain ⟨bp, hbp⟩ : ∃ bp, bp = bnd p := ⟨_, rfl⟩
      rw [← hbp] at HB
      have HBP := Lib.hid hbp
      have hj10 : j + 1 ≤ 10 := by omega
      have c1a : (wr.alloc (.cells #[.int .i64 bp] 3)).cell? ⟨s, 1, none⟩ = some v := (HN.out.sc.own.alloc _).cell 1
      clear hpb hbp
      go_region_law (first
        | (refine step_call rfl 23 Try.f23 Try.func23 (by kernel_rfl) (by kernel_rfl) _ _ rfl #[.int .i64 p] (by first | (simp [Act.eval]; done) | (simp [Act.eval, Act.put]; done)) (HB _).out ?_
           rintro en w4 ⟨rfl, rfl⟩
           refine ⟨_, rfl, ?_⟩)
        | (refine step_append_lies _ rfl (.tmp 20) (.tmp 23) 22 rfl 0 3 i0 z0 1 8 Try.underlying22 HI0.out HZ0.out hz1 hz3 hz2 (by decide) v j _ (by simp [Act.eval]) (by first | exact (HSeg.out.alloc _).drew | exact HSeg.out.drew.alloc _) ⟨wr.heap.size, 0, none⟩ 1 1 [.int .i64 bp] (by simp [Act.eval]) rfl (by exact World.news_of_block (heap_alloc_new _ _)) (by simp [Value.oneCell']) (by decide) (by unfold maxLen; omega) (by omega) (Nat.zero_le _) _ rfl ?_
           intro g cp w2 hown hg hat hlt
           have hso : ∀ o', Has (wr.alloc o').drew s 43 _ := fun o' => (HN.out.sc.own.alloc o').drew
           have hs2 : Has w2 s 43 _ := (hso _).grown hg (fun e => HN.out.sc.vs e.symm)
           have c2 : w2.cell? ⟨s, 1, none⟩ = some v := hs2.cell 1
           have f2 : w2.frozen? ⟨s, 1, none⟩ = false := hs2.free 1
           have HOWN := Lib.hid hown
           have HG : Hid (World.grownBy (wr.alloc (.cells #[.int .i64 bp] 3)) w2 v.ownBlock) := Lib.hid ⟨hg.os, hg.tape, hg.output, hg.size, hg.block⟩
           have HAT := Lib.hid hat
           clear hown hg hat hlt hso hs2))
      all_goals
        have H5 := HN.out.pushP p HPL.out (by rw [← HBP.out]; exact HOWN.out) HG.out HAT.out
        have HM : Hid (await (pushed (made (l.take j)) p) j = made (l.take (j + 1))) := Lib.hid (by
          rw [take_snoc HP.out, made_snoc]
          unfold push
          rw [HPL.out])
        have hIp := hI.out.pushed p (by rw [HPL.out]; omega)
        have hlen : (pushed (made (l.take j)) p).P.length = j + 1 := by unfold pushed; simp [HPL.out]
        have hb : Hid (j < (pushed (made (l.take j)) p).P.length ∧ 0 ≤ (pushed (made (l.take j)) p).T ∧ (pushed (made (l.take j)) p).T ≤ 1000000000000000 ∧ pace (pushed (made (l.take j)) p).P j ≤ 1048576 ∧ 0 ≤ (pushed (made (l.take j)) p).n ∧ (pushed (made (l.take j)) p).n ≤ 1000000000 ∧ (pushed (made (l.take j)) p).S.length < 1000000) := Lib.hid (by
          have h1 := hIp.t0
          have h2 := hIp.tk
          have h3 := hIp.n0
          have h4 := hIp.nk
          have h5 := hIp.small
          have h6 := (hIp.pace _ (pace_mem (show j < (pushed (made (l.take j)) p).P.length by omega))).2
          rw [tl] at h2 h4 h5
          exact ⟨by omega, h1, by omega, h6, h3, by omega, by omega⟩)
        replace H5 := Lib.hid H5
        clear hIp hlen HSeg HN HOWN HG HAT c1 c1a c2 f2 hI HB
        go_wp2_with (first
          | (go_at_call 24
             refine (await_calls H5.out.sc j hb.out.1 hb.out.2.1 hb.out.2.2.1 hb.out.2.2.2.1 hb.out.2.2.2.2.1 hb.out.2.2.2.2.2.1 hb.out.2.2.2.2.2.2).mono ?_
             rw [HM.out]
             rintro en w6 ⟨rfl, r', h6, n6, t6⟩
             have H6 := Lib.hid (H5.out.did h6 n6 (t6.more (fun j _ e => e.elim (fun e => .inr (.inr (.inl e))) (fun e => .inr (.inr (.inr e))))))
             clear h6 n6 t6)
          | fail)
        refine ⟨⟨j + 1, r', _, by rw [Int.natCast_add]; rfl, by omega, H6⟩, ?_⟩
        show n - ((j : Int) + 1).toNat < n - ((j : Int)).toNat
        omega
    · obtain rfl : j = n := by omega
      have e : l.take j = l := by rw [List.take_of_length_le]; rw [HL.out]; exact Nat.le_refl _
      rw [e] at HN
      clear HS
      go_wp2_with fail
      go_ret
      exact ⟨s, q, r, v, rfl, HN.out⟩
end Go.Proofs.Ytbpnbnbglfiglaa.sch
