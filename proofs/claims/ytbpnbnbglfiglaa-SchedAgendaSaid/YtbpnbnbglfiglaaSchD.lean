/- sched: Picks; calls on a schedule made since w. -/
import Derived.Test.YtbpnbnbglfiglaaSchC
namespace Go.Proofs.Ytbpnbnbglfiglaa.sch
open Go Go.RowKit

/-- The next m turns. -/
def turns : Nat → Ab → List Int × Ab
  | 0, a => ([], a)
  | m + 1, a => match a.S with
    | [] => ([], a)
    | x :: t => (x.2.1 :: (turns m (next a x t x.2.1.toNat)).1, (turns m (next a x t x.2.1.toNat)).2)

theorem turns_nil {a : Ab} (e : a.S = []) : ∀ m, turns m a = ([], a)
  | 0 => rfl
  | m + 1 => by unfold turns; rw [e]
theorem turns_cons {a : Ab} {x : Th} {t : List Th} {i : Nat} (e : a.S = x :: t) (hi : x.2.1 = (i : Int)) (m : Nat) : turns (m + 1) a = ((i : Int) :: (turns m (next a x t i)).1, (turns m (next a x t i)).2) := by
  rw [turns, e]
  show (x.2.1 :: _, _) = _
  rw [hi]
  rfl
theorem turns_inv : ∀ (m : Nat) {k : Int} {a : Ab}, Inv k a.P.length a → Inv (k + 2 * m) a.P.length (turns m a).2 ∧ (turns m a).2.P = a.P
  | 0, k, a, h => ⟨by simpa [turns] using h, rfl⟩
  | m + 1, k, a, h => by
    cases e : a.S with
    | nil => rw [turns_nil e]; exact ⟨h.more (by omega), rfl⟩
    | cons x t =>
      obtain ⟨i, h1, h2, h3, h4, h5, h6, h7, h8⟩ := h.next e
      rw [turns_cons e h1]
      rw [← h7] at h6
      obtain ⟨k1, k2⟩ := turns_inv m h6
      rw [h7] at k1 k2
      refine ⟨?_, k2⟩
      rw [show k + 2 * ((m + 1 : Nat) : Int) = k + 2 + 2 * (m : Int) by omega]
      exact k1

section
variable {w V : World} {s q : Nat} {r : Option Nat} {v : Value} {a : Ab} {k : Int}

theorem Nw.next_some (h : Nw w s q r v a V) (hI : Inv k a.P.length a) (hk : k ≤ 900000) {x : Th} {t : List Th} (e : a.S = x :: t) {i : Nat} (hi : x.2.1 = (i : Int)) (hil : i < a.P.length) :
    Calls Try.prog 27 #[.pointer (some ⟨s, 0, none⟩)] V fun en w' => en = .returned (.tuple #[.int .i64 i, .bool true]) ∧ ∃ r', Nw w s q r' v (next a x t i) w' ∧ (∀ g, r' = some g → r = some g ∨ V.heap.size ≤ g) ∧ Turn (fun j => j = s ∨ j = q ∨ r = some j) V w' := by
  refine (sch.next_some h.sc hI hk e hi hil).mono ?_
  rintro en w' ⟨rfl, r', h1, h2, h3⟩
  exact ⟨rfl, r', h.did h1 h2 (h3.more (fun _ _ e => .inr e)), h2, h3⟩

theorem Nw.next_none (h : Nw w s q r v a V) (e : a.S = []) :
    Calls Try.prog 27 #[.pointer (some ⟨s, 0, none⟩)] V fun en w' => en = .returned (.tuple #[.int .i64 0, .bool false]) ∧ ∃ r', Nw w s q r' v a w' ∧ (∀ g, r' = some g → r = some g ∨ V.heap.size ≤ g) ∧ Turn (fun j => j = s ∨ j = q ∨ r = some j) V w' := by
  refine (sch.next_none h.sc e).mono ?_
  rintro en w' ⟨rfl, r', h1, h2, h3⟩
  exact ⟨rfl, r', h.did h1 h2 (h3.more (fun _ _ e => .inr e)), h2, h3⟩

theorem Nw.set_in (h : Nw w s q r v a V) (hI : Inv k a.P.length a) (hk : k ≤ 900000) (i : Nat) (hi : i < a.P.length) (p : Int) :
    Calls Try.prog 10 #[.pointer (some ⟨s, 0, none⟩), .int .i64 i, .int .i64 p] V fun en w' => en = .returned (.int .i64 0) ∧ ∃ r', Nw w s q r' v (setP a i p) w' ∧ (∀ g, r' = some g → r = some g ∨ V.heap.size ≤ g) ∧ Turn (fun j => v.ownBlock = some j ∨ j = q ∨ r = some j) V w' := by
  refine (sch.set_in h.sc hI hk i hi p).mono ?_
  rintro en w' ⟨rfl, r', h1, h2, h3⟩
  exact ⟨rfl, r', h.did h1 h2 (h3.more (fun _ _ e => e.elim .inl (fun e => .inr (.inr e)))), h2, h3⟩

/-- Within Picks: behind j turns. -/
structure Pk (w V : World) (s q : Nat) (r0 : Option Nat) (v : Value) (m : Nat) (a : Ab) (k : Int) (j : Nat) (r : Option Nat) (u : Value) (A : List Int) (a' : Ab) (wr : World) : Prop where
  eq1 : (turns m a).1 = A ++ (turns (m - j) a').1
  eq2 : (turns m a).2 = (turns (m - j) a').2
  inv : Inv (k + 2 * j) a'.P.length a'
  nw : Nw w s q r v a' wr
  ints : Ints wr u A
  len : A.length = j
  new : ∀ b, u.ownBlock = some b → V.heap.size ≤ b
  turn : Turn (fun j => v.ownBlock = some j ∨ j = s ∨ j = q ∨ r0 = some j) V wr
  rr : ∀ g, r = some g → r0 = some g ∨ V.heap.size ≤ g
  vlt : ∀ b, v.ownBlock = some b → b < V.heap.size
  wV : w.heap.size ≤ V.heap.size

theorem Sc.us {u : Value} {A : List Int} (h : Sc V s q r v a) (hu : Ints V u A) : u.ownBlock ≠ some s ∧ u.ownBlock ≠ some q ∧ ∀ b, r = some b → u.ownBlock ≠ some b := by
  refine ⟨own_ne hu h.own (by decide), ?_, fun b hb => ?_⟩
  · obtain ⟨cs, e⟩ := qs_box h.qs
    exact own_ne hu e (by decide)
  · obtain ⟨cs, e⟩ := qs_row h.qs b hb
    exact own_ne hu e (by decide)

def PicksPost (w V : World) (s q : Nat) (r : Option Nat) (v : Value) (L : List Int) (a : Ab) (en : Ending) (w' : World) : Prop :=
  ∃ u r', en = .returned u ∧ Nw w s q r' v a w' ∧ Ints w' u L ∧ (∀ b, u.ownBlock = some b → V.heap.size ≤ b) ∧ (∀ g, r' = some g → r = some g ∨ V.heap.size ≤ g) ∧ Turn (fun j => v.ownBlock = some j ∨ j = s ∨ j = q ∨ r = some j) V w'

set_option maxRecDepth 100000 in
set_option maxHeartbeats 4000000 in
theorem Nw.picks (h : Nw w s q r v a V) (hI : Inv k a.P.length a) (n : Int) (hk : k + 2 * n.toNat ≤ 900000) (hn : n ≤ 1000) (hk0 : 0 ≤ k) :
    Calls Try.prog 21 #[.pointer (some ⟨s, 0, none⟩), .int .i64 n] V (PicksPost w V s q r v (turns n.toNat a).1 (turns n.toNat a).2) := by
  obtain ⟨i0, z0, hi0, hz0, hz1, hz2, hz3⟩ := Try.zeroInt
  have HI0 := Lib.hid hi0
  have HZ0 := Lib.hid hz0
  obtain ⟨m, hm⟩ : ∃ m, m = n.toNat := ⟨_, rfl⟩
  rw [← hm] at hk ⊢
  have HM := Lib.hid hm
  clear hm
  have H0 : Hid (Pk w V s q r v m a k 0 r (.slice none 0 0) [] a V) := Lib.hid ⟨rfl, rfl, by simpa using hI, h, World.ownsRow_nil V 0 _ 1, rfl, fun b hb => (by cases hb), Turn.refl _ _, fun g hg => .inl hg, fun b hb => own_lt h.sc.pac hb, h.turn.size⟩
  clear hi0 hz0 h hI
  go_enter Try.func21, Try.ntmps21
  go_wp2_with fail
  go_loopw [5, 9] (fun u i wr => ∃ (j : Nat) (r' : Option Nat) (u' : Value) (A : List Int) (a' : Ab), u' = u ∧ i = .int .i64 j ∧ j ≤ m ∧ Hid (Pk w V s q r v m a k j r' u' A a' wr)) (fun _ i _ => m - (intOf i).toNat)
  case atStart => exact ⟨0, r, _, [], a, rfl, rfl, Nat.zero_le _, H0⟩
  case round =>
    clear H0
    obtain ⟨j, r', u, A, a', rfl, rfl, hj, HP⟩ := hrel
    by_cases hj1 : (j : Int) < n
    · have hjm : j < m := by have := HM.out; omega
      cases e : a'.S with
      | nil =>
        have HN := Lib.hid (HP.out.nw.next_none e)
        have HE := Lib.hid e
        clear e
        go_wp2_with (first
          | (go_at_call 27; refine HN.out.mono ?_; rintro en w2 ⟨rfl, r2, n2, rr2, t2⟩
             have hus := HP.out.nw.sc.us HP.out.ints
             have H2 : Hid (PicksPost w V s q r v (turns m a).1 (turns m a).2 (.returned u) w2) := Lib.hid (by
               rw [HP.out.eq1, HP.out.eq2, turns_nil HE.out, List.append_nil]
               refine ⟨u, r2, rfl, n2, HP.out.ints.turn t2 (fun b hb e => ?_), HP.out.new, fun g hg => ?_, HP.out.turn.trans t2 (fun b hb e => ?_)⟩
               · rcases e with e | e | e
                 · exact hus.1 (by rw [hb, e])
                 · exact hus.2.1 (by rw [hb, e])
                 · exact hus.2.2 b e hb
               · rcases rr2 g hg with e | e
                 · exact HP.out.rr g e
                 · exact .inr (Nat.le_trans HP.out.turn.size e)
               · rcases e with e | e | e
                 · exact .inr (.inl e)
                 · exact .inr (.inr (.inl e))
                 · rcases HP.out.rr b e with e | e
                   · exact .inr (.inr (.inr e))
                   · omega)
             clear n2 rr2 t2 hus)
          | fail)
        go_ret
        exact H2.out
      | cons x t =>
        obtain ⟨i, i1, i2, i3, i4, i5, i6, i7, i8⟩ := HP.out.inv.next e
        have HN := Lib.hid (HP.out.nw.next_some HP.out.inv (by omega) e i1 i2)
        have HE := Lib.hid (And.intro (turns_cons e i1 (m - j - 1)) (And.intro i6 i7))
        clear e i1 i2 i3 i4 i5 i6 i7 i8
        have hj10 : (A.length : Int) + 1 ≤ 2000 := by have := HP.out.len; omega
        go_wp2_with (first
          | (go_at_call 27; refine HN.out.mono ?_; rintro en w2 ⟨rfl, r2, n2, rr2, t2⟩
             have hus := HP.out.nw.sc.us HP.out.ints
             have N2 := Lib.hid (And.intro n2 rr2)
             have T2 := Lib.hid t2
             have hown0 : Ints w2 u A := HP.out.ints.turn t2 (fun b hb e => by
               rcases e with e | e | e
               · exact hus.1 (by rw [hb, e])
               · exact hus.2.1 (by rw [hb, e])
               · exact hus.2.2 b e hb)
             have HO := Lib.hid hown0
             clear n2 rr2 t2 hus hown0)
          | (at_builtin; refine wpList_append_lies _ rfl (.tmp 18) (.tmp 20) 22 rfl 0 3 i0 z0 1 8 Try.underlying22 HI0.out HZ0.out hz1 hz3 hz2 (by decide) u A.length _ rfl (by exact (HO.out.alloc _)) ⟨w2.heap.size, 0, none⟩ 1 1 [.int .i64 i] rfl rfl (by exact World.news_of_block (Has.made _ _ _)) (by intro u hu; rw [List.mem_singleton.1 hu]; rfl) (by decide) (by unfold maxLen; omega) (by omega) (Nat.zero_le _) _ rfl ?_)
          | fail)
        intro g cap w3 hown hg hat hlt
        have H3 : Hid (Pk w V s q r v m a k (j + 1) r2 (.slice (some ⟨g, 0, none⟩) (A.length + 1) cap) (A ++ [(i : Int)]) (next a' x t i) w3) := Lib.hid (by
          have hsz := HP.out.turn.size
          have hsz2 := T2.out.size
          have t3 : Turn (fun j => u.ownBlock = some j) w2 w3 := ((Turn.refl _ w2).alloc _).grown hg (fun j e _ => e)
          have hus := N2.out.1.sc.us HO.out
          have em : m - j = m - j - 1 + 1 := by omega
          refine ⟨?_, ?_, ?_, ?_, ?_, by rw [List.length_append, HP.out.len]; rfl, ?_, ?_, ?_, HP.out.vlt, HP.out.wV⟩
          · rw [HP.out.eq1, em, HE.out.1, List.append_assoc, show m - (j + 1) = m - j - 1 by omega]; rfl
          · rw [HP.out.eq2, em, HE.out.1, show m - (j + 1) = m - j - 1 by omega]
          · have h6 := HE.out.2.1
            rw [← HE.out.2.2] at h6
            rw [show k + 2 * ((j + 1 : Nat) : Int) = k + 2 * (j : Int) + 2 by omega]
            exact h6
          · refine N2.out.1.other t3 (fun b hb => Nat.le_trans HP.out.wV (HP.out.new b hb)) hus.1 hus.2.1 hus.2.2 (fun b hb e => ?_)
            · have h1 := HP.out.new b e
              have h2 := HP.out.vlt b hb
              omega
          · unfold Ints
            rw [List.length_append, List.map_append]
            exact hown
          · intro b hb
            obtain rfl : g = b := by injection hb with hb
            rcases hat with e | e
            · exact HP.out.new g e
            · omega
          · refine (HP.out.turn.trans T2.out (fun b hb e => ?_)).trans t3 (fun b hb e => ?_)
            · rcases e with e | e | e
              · exact .inr (.inl e)
              · exact .inr (.inr (.inl e))
              · rcases HP.out.rr b e with e | e
                · exact .inr (.inr (.inr e))
                · omega
            · have := HP.out.new b e
              omega
          · intro g hg
            rcases N2.out.2 g hg with e | e
            · exact HP.out.rr g e
            · exact .inr (Nat.le_trans hsz e))
        clear hown hg hat hlt HP HN HE N2 T2 HO
        go_wp2_with fail
        refine ⟨⟨j + 1, r2, _, _, _, rfl, by rw [Int.natCast_add]; rfl, by omega, H3⟩, ?_⟩
        show m - ((j : Int) + 1).toNat < m - ((j : Int)).toNat
        omega
    · have hjm : j = m := by have := HM.out; omega
      have H2 : Hid (PicksPost w V s q r v (turns m a).1 (turns m a).2 (.returned u) wr) := Lib.hid (by
        rw [HP.out.eq1, HP.out.eq2, hjm, Nat.sub_self]
        refine ⟨u, r', rfl, HP.out.nw, ?_, HP.out.new, HP.out.rr, HP.out.turn⟩
        show Ints wr u (A ++ [])
        rw [List.append_nil]
        exact HP.out.ints)
      clear hjm
      go_wp2_with fail
      go_ret
      exact H2.out
end
end Go.Proofs.Ytbpnbnbglfiglaa.sch
