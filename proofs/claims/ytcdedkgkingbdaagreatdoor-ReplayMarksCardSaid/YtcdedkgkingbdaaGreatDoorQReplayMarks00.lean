/- Texts laid into one: TowGI, RepO, RepQ. -/
import Derived.Test.YtcdedkgkingbdaaGreatDoorQ037
import Derived.Test.YtcdedkgkingbdaaGreatDoorQ043
import Derived.Test.YtcdedkgkingbdaaGreatDoorQ044
section
/- tower: numbers that grow, in new memory (out of TowU). -/
namespace Go.Proofs.YtcdedkgkingbdaaGreatDoor.tow
open Go Go.RowKit

/-- Numbers that grow, in new memory. -/
structure GrowI (w : World) (B : Nat) (v : Value) (O : List Int) (wr : World) : Prop where
  own : Ints wr v O
  new : ∀ b, v.ownBlock = some b → B ≤ b
  low : w.heap.size ≤ B
  big : B ≤ wr.heap.size
  turn : Turn (fun j => w.heap.size ≤ j) w wr
theorem GrowI.more {w wr w' : World} {B : Nat} {v : Value} {O : List Int} (h : GrowI w B v O wr) (t : Turn (fun j => wr.heap.size ≤ j) wr w') : GrowI w B v O w' :=
  ⟨own_turn h.own t (fun _ hb => Nat.not_le_of_lt (own_lt h.own hb)), h.new, h.low, Nat.le_trans h.big t.size, h.turn.trans t (fun _ _ e => Nat.le_trans h.turn.size e)⟩
theorem GrowI.push {w wr w' : World} {B : Nat} {v : Value} {O : List Int} (h : GrowI w B v O wr) (x : Int) {g cap : Nat} (hown : w'.ownsRow 0 3 1 (.slice (some ⟨g, 0, none⟩) (O.length + 1) cap) (O.length + 1) (O.map (Value.int .i64) ++ [.int .i64 x])) (hg : wr.grownBy w' v.ownBlock) (hat : v.ownBlock = some g ∨ g = wr.heap.size) :
    GrowI w B (.slice (some ⟨g, 0, none⟩) (O.length + 1) cap) (O ++ [x]) w' := by
  refine ⟨?_, ?_, h.low, Nat.le_trans h.big hg.size, h.turn.grown hg (fun j e _ => Nat.le_trans h.low (h.new j e))⟩
  · unfold Ints
    rw [List.length_append]
    have e : (O ++ [x]).map (Value.int .i64) = O.map (Value.int .i64) ++ [.int .i64 x] := by simp
    rw [e]
    exact hown
  · intro b hb
    injection hb with hb
    obtain rfl : g = b := hb
    rcases hat with k | k
    · exact h.new _ k
    · rw [k]; exact h.big
end Go.Proofs.YtcdedkgkingbdaaGreatDoor.tow
end

section
/- replay's laws: the document's marks. -/
namespace Go.Proofs.YtcdedkgkingbdaaGreatDoor.rep
open Go Go.RowKit Go.Maps Go.Proofs.YtcdedkgkingbdaaGreatDoor.object Go.Proofs.YtcdedkgkingbdaaGreatDoor.prn Go.Proofs.YtcdedkgkingbdaaGreatDoor.tws Go.Proofs.YtcdedkgkingbdaaGreatDoor.tow

/-- The floor, and of the first t fourth versions those above it. -/
def mk4 (fl t : Nat) : List Int := (fl : Int) :: ((List.range t).filter (fun s => decide (fl < 4 * (s + 1)))).map (fun s => ((4 * (s + 1) : Nat) : Int))
theorem mk4_zero (fl : Nat) : mk4 fl 0 = [(fl : Int)] := rfl
theorem mk4_put {fl t : Nat} (h : fl < 4 * (t + 1)) : mk4 fl (t + 1) = mk4 fl t ++ [((4 * (t + 1) : Nat) : Int)] := by
  unfold mk4
  rw [List.range_succ, List.filter_append, List.map_append, List.filter_cons_of_pos (by simpa using h)]
  rfl
theorem mk4_pass {fl t : Nat} (h : ¬ fl < 4 * (t + 1)) : mk4 fl (t + 1) = mk4 fl t := by
  unfold mk4
  rw [List.range_succ, List.filter_append, List.map_append, List.filter_cons_of_neg (by simpa using h)]
  simp
theorem mk4_mem (fl t : Nat) (x : Int) : x ∈ mk4 fl t ↔ x = fl ∨ ∃ s, s < t ∧ fl < 4 * (s + 1) ∧ x = ((4 * (s + 1) : Nat) : Int) := by
  unfold mk4
  rw [List.mem_cons, List.mem_map]
  constructor
  · rintro (h | ⟨s, hs, rfl⟩)
    · exact .inl h
    · rw [List.mem_filter, List.mem_range] at hs
      exact .inr ⟨s, hs.1, by simpa using hs.2, rfl⟩
  · rintro (h | ⟨s, h1, h2, rfl⟩)
    · exact .inl h
    · exact .inr ⟨s, by rw [List.mem_filter, List.mem_range]; exact ⟨h1, by simpa using h2⟩, rfl⟩
theorem mk4_sorted (fl : Nat) : ∀ t, (mk4 fl t).Pairwise (· < ·)
  | 0 => by rw [mk4_zero]; simp
  | t + 1 => by
    by_cases h : fl < 4 * (t + 1)
    · rw [mk4_put h]
      refine List.pairwise_append.2 ⟨mk4_sorted fl t, by simp, fun x hx y hy => ?_⟩
      rw [List.mem_singleton.1 hy]
      rcases (mk4_mem fl t x).1 hx with rfl | ⟨s, h1, h2, rfl⟩ <;> omega
    · rw [mk4_pass h]; exact mk4_sorted fl t
theorem mk4_len (fl : Nat) : ∀ t, (mk4 fl t).length ≤ t + 1
  | 0 => by rw [mk4_zero]; simp
  | t + 1 => by
    have := mk4_len fl t
    by_cases h : fl < 4 * (t + 1)
    · rw [mk4_put h, List.length_append, List.length_singleton]; omega
    · rw [mk4_pass h]; omega
/-- Lists that rise, of the same members, are the same. -/
theorem rise_same : ∀ {A B : List Int}, A.Pairwise (· < ·) → B.Pairwise (· < ·) → (∀ x, x ∈ A ↔ x ∈ B) → A = B
  | [], [], _, _, _ => rfl
  | [], y :: B, _, _, h => absurd ((h y).2 (by simp)) (by simp)
  | x :: A, [], _, _, h => absurd ((h x).1 (by simp)) (by simp)
  | x :: A, y :: B, hA, hB, h => by
    obtain ⟨a1, a2⟩ := List.pairwise_cons.1 hA
    obtain ⟨b1, b2⟩ := List.pairwise_cons.1 hB
    have e : x = y := by
      rcases List.mem_cons.1 ((h x).1 (by simp)) with e | e
      · exact e
      · rcases List.mem_cons.1 ((h y).2 (by simp)) with e' | e'
        · exact e'.symm
        · have := b1 x e; have := a1 y e'; omega
    subst e
    rw [rise_same a2 b2 fun z => ?_]
    constructor
    · intro hz
      rcases List.mem_cons.1 ((h z).1 (List.mem_cons_of_mem _ hz)) with e | e
      · have := a1 z hz; omega
      · exact e
    · intro hz
      rcases List.mem_cons.1 ((h z).2 (List.mem_cons_of_mem _ hz)) with e | e
      · have := b1 z hz; omega
      · exact e
theorem marks_mk4 {k : Int} {C : List Cm} {fl : Nat} {l : List (Int × ByteArray)} (h : Marks k C fl l) (hs : l.Pairwise (fun x y => x.1 < y.1)) (hfl : fl ≤ C.length) : l.map (·.1) = mk4 fl (C.length / 4) := by
  refine rise_same (List.pairwise_map.2 hs) (mk4_sorted _ _) fun x => ?_
  rw [List.mem_map, mk4_mem]
  constructor
  · rintro ⟨z, hz, rfl⟩
    obtain ⟨v, h1, h2, rfl⟩ := (h z).1 hz
    rcases h1 with rfl | ⟨h1, h3⟩
    · exact .inl rfl
    · refine .inr ⟨v / 4 - 1, by omega, by omega, ?_⟩
      show (v : Int) = _
      omega
  · rintro (rfl | ⟨s, h1, h2, rfl⟩)
    · exact ⟨_, (h _).2 ⟨fl, .inl rfl, hfl, rfl⟩, rfl⟩
    · exact ⟨_, (h _).2 ⟨4 * (s + 1), .inr ⟨h2, by omega⟩, by omega, rfl⟩, rfl⟩

set_option maxRecDepth 100000 in
set_option maxHeartbeats 4000000 in
theorem rmarks_calls (kd : Int) (a : Option Addr) (n c fl : Nat) (w : World) (hn : n ≤ 1000) (hf : fl ≤ 1000) :
    Calls Tryz.prog 20 #[.agg #[.int .i64 kd, .slice a n c, .int .i64 fl]] w (tws.IntsPost w (mk4 fl (n / 4))) := by
  obtain ⟨i0, z0, hi0, hz0, hz1, hz2, hz3⟩ := tow.zeroInt
  have HI0 := Lib.hid hi0
  have HZ0 := Lib.hid hz0
  have HZ1 := Lib.hid hz1
  have HZ2 := Lib.hid hz2
  have HZ3 := Lib.hid hz3
  have HN := Lib.hid (And.intro hn hf)
  clear hi0 hz0 hz1 hz2 hz3 hn hf
  go_enter Tryz.func20, Tryz.ntmps20
  go_wp2_with fail
  go_name_world W0 hW0
  have D0 : Hid (GrowI w (w.heap.size + 1) (.slice (some ⟨w.heap.size + 1, 0, none⟩) 1 1) (mk4 fl 0) W0 ∧ Has W0 w.heap.size 29 #[.int .i64 kd, .slice a n c, .int .i64 fl]) := by
    have t : Turn (fun j => w.heap.size ≤ j) w W0 := by rw [← hW0]; exact ((Turn.refl _ w).alloc _).alloc _
    have h1 : Has W0 w.heap.size 29 #[.int .i64 kd, .slice a n c, .int .i64 fl] := by rw [← hW0]; exact (made_at _ _ rfl).alloc _
    have h2 : Has W0 (w.heap.size + 1) 3 #[.int .i64 fl] := by rw [← hW0]; exact made_at _ _ (by simp)
    refine Lib.hid ⟨⟨⟨rfl, .inr ⟨_, 1, #[.int .i64 fl], rfl, Nat.zero_le _, h2, Nat.le_refl _, by decide, rfl, rfl⟩⟩, fun b hb => by injection hb with hb; obtain rfl : w.heap.size + 1 = b := hb; exact Nat.le_refl _, by omega, by rw [← hW0]; simp, t⟩, h1⟩
  clear hW0
  go_loopw [3, 4] (fun o i wr => ∃ t : Nat, i = .int .i64 ((4 * (t + 1) : Nat) : Int) ∧ t ≤ n / 4 ∧ Hid (GrowI w (w.heap.size + 1) o (mk4 fl t) wr ∧ Has wr w.heap.size 29 #[.int .i64 kd, .slice a n c, .int .i64 fl])) (fun _ i _ => n + 8 - (intOf i).toNat)
  case atStart => exact ⟨0, rfl, Nat.zero_le _, D0⟩
  case round =>
    clear D0
    obtain ⟨t, ht, htn, HD⟩ := hrel
    obtain ⟨v, hv⟩ : ∃ v : Nat, v = 4 * (t + 1) := ⟨_, rfl⟩
    rw [← hv] at ht
    subst ht
    have HV := Lib.hid hv
    have c1 : wr.cell? ⟨w.heap.size, 1, none⟩ = some (.slice a n c) := HD.out.2.cell 1
    have c2 : wr.cell? ⟨w.heap.size, 2, none⟩ = some (.int .i64 fl) := HD.out.2.cell 2
    obtain ⟨o, ho⟩ : ∃ o, o = u3 := ⟨_, rfl⟩
    rw [← ho] at HD ⊢
    clear ho
    by_cases hvn : v ≤ n
    · have hvi : (v : Int) ≤ (n : Int) := by omega
      have i1 : IntKind.i64.wrap ((v : Int) + 4) = (v : Int) + 4 := IntWalk.i64_in _ ⟨by omega, by have := HN.out; omega⟩
      have HT : Hid ((v : Int) + 4 = ((4 * (t + 1 + 1) : Nat) : Int) ∧ t + 1 ≤ n / 4) := Lib.hid ⟨by omega, by omega⟩
      clear hv htn
      by_cases hvf : fl < v
      · have hfi : (fl : Int) < (v : Int) := by omega
        have HQ : Hid (mk4 fl (t + 1) = mk4 fl t ++ [(v : Int)]) := Lib.hid (by rw [HV.out]; exact mk4_put (by rw [← HV.out]; exact hvf))
        have HO : Hid ((mk4 fl t).length ≤ 1000) := Lib.hid (by have := mk4_len fl t; have := HT.out.2; have := HN.out; omega)
        obtain ⟨O, hOO⟩ : ∃ O, O = mk4 fl t := ⟨_, rfl⟩
        rw [← hOO] at HQ HO HD
        clear hOO
        go_wp2_with (at_builtin
                     refine wpList_append_lies _ rfl (.tmp 19) (.tmp 21) 44 rfl 0 3 i0 z0 1 8 Tryz.underlying44 HI0.out HZ0.out HZ1.out HZ3.out HZ2.out (by decide) _ O.length _ rfl (by exact (HD.out.1.more ((Turn.refl _ _).alloc _)).own) ⟨wr.heap.size, 0, none⟩ 1 1 [.int .i64 v] rfl rfl (by exact World.news_of_block (made_at _ _ (by simp))) (by intro u hu; rw [List.mem_singleton.1 hu]; rfl) (by decide) (by unfold maxLen; have := HO.out; omega) (by have := HO.out; omega) (Nat.zero_le _) _ rfl ?_
                     intro g3 cap3 w3 hown hg hat hlt
                     have G3 := Lib.hid (show _ ∧ _ from ⟨(HD.out.1.more ((Turn.refl _ _).alloc _)).push v hown hg hat, (HD.out.2.alloc _).grown hg (fun e => by have := HD.out.1.new _ e.symm; omega)⟩)
                     clear hown hg hat hlt HD)
        refine ⟨⟨t + 1, by rw [HT.out.1], HT.out.2, Lib.hid (by rw [HQ.out]; exact G3.out)⟩, ?_⟩
        show n + 8 - ((v : Int) + 4).toNat < n + 8 - ((v : Int)).toNat
        omega
      · have hfi : ¬ (fl : Int) < (v : Int) := by omega
        have HQ : Hid (mk4 fl (t + 1) = mk4 fl t) := Lib.hid (mk4_pass (by rw [← HV.out]; exact hvf))
        go_wp2_with fail
        refine ⟨⟨t + 1, by rw [HT.out.1], HT.out.2, by rw [HQ.out]; exact HD⟩, ?_⟩
        show n + 8 - ((v : Int) + 4).toNat < n + 8 - ((v : Int)).toNat
        omega
    · have hvi : ¬ (v : Int) ≤ (n : Int) := by omega
      have HE : Hid (t = n / 4) := Lib.hid (by omega)
      clear hv htn
      go_wp2_with fail
      go_ret
      obtain ⟨g1, g2⟩ := HD.out
      rw [HE.out] at g1
      exact ⟨o, rfl, g1.own, fun b hb => by have := g1.new b hb; omega, g1.turn.below (Nat.le_refl _) (fun j hj e => by omega)⟩
end Go.Proofs.YtcdedkgkingbdaaGreatDoor.rep
end

section
/- replay's laws: a text of so many letters. -/
namespace Go.Proofs.YtcdedkgkingbdaaGreatDoor.rep
open Go Go.RowKit Go.Maps Go.Proofs.YtcdedkgkingbdaaGreatDoor.object Go.Proofs.YtcdedkgkingbdaaGreatDoor.prn Go.Proofs.YtcdedkgkingbdaaGreatDoor.tws

def xS : ByteArray := ⟨#[120]⟩
def cx : Cm := ⟨insO xS, 0⟩
theorem act_x {s : ByteArray} (h : s.size ≤ 100) : ∃ t, (Ob.doc s).act (insO xS) = (.doc t, 0, ⟨#[]⟩) ∧ t.size = s.size + 1 := by
  refine ⟨s.extract 0 0 ++ xS ++ s.extract 0 s.size, ?_, ?_⟩
  · show (if (1 : Int) = 1 then (Ob.doc s).did (insO xS) else _) = _
    rw [if_pos rfl]
    have e : text.doV s (insO xS).t = (s.extract 0 0 ++ xS ++ s.extract 0 s.size, ⟨#[]⟩, 0) := by
      show text.doT s 1 0 xS 0 = _
      unfold text.doT
      rw [if_pos (by decide), if_pos rfl]
      have : text.insT s (0 : Int).toNat xS = (s.extract 0 0 ++ xS ++ s.extract 0 s.size, 0) := by
        unfold text.insT
        rw [if_neg (by simp), if_neg (by have : xS.size = 1 := rfl; omega)]
        rfl
      rw [this]
    show (Ob.doc (text.doV s (insO xS).t).1, (text.doV s (insO xS).t).2.2, (text.doV s (insO xS).t).2.1) = _
    rw [e]
  · have : xS.size = 1 := rfl
    simp only [ByteArray.size_append, ByteArray.size_extract]
    omega
theorem fold_x {n : Nat} (hn : n ≤ 50) : ∀ v, v ≤ n → ∃ s, fold 1 (List.replicate n cx) v = .doc s ∧ s.size = v
  | 0, _ => ⟨⟨#[]⟩, by rw [fold_zero]; rfl, rfl⟩
  | v + 1, h => by
    obtain ⟨s, e, hs⟩ := fold_x hn v (by omega)
    obtain ⟨t, h1, h2⟩ := act_x (s := s) (by omega)
    refine ⟨t, ?_, by omega⟩
    rw [fold_succ (c := cx) (by rw [List.getElem?_replicate, if_pos (by omega)]), e]
    show ((Ob.doc s).act (insO xS)).1 = _
    rw [h1]
theorem act_ok_x {n : Nat} (hn : n ≤ 50) : ((fold 1 (List.replicate n cx) (List.replicate n cx).length).act (insO xS)).2.1 = 0 := by
  rw [List.length_replicate]
  obtain ⟨s, e, hs⟩ := fold_x hn n (Nat.le_refl _)
  obtain ⟨t, h1, _⟩ := act_x (s := s) (by omega)
  rw [e, h1]
theorem good_x : OpO.Good (insO xS) := ins_good (act_ok_x (n := 0) (by decide))
theorem snoc_x (n : Nat) : List.replicate n cx ++ [cx] = List.replicate (n + 1) cx := by rw [List.replicate_succ', ]
theorem save_x {n v : Nat} (hn : n ≤ 50) (hv : v ≤ n) : (fold 1 (List.replicate n cx) v).save.size = 1 + v := by
  obtain ⟨s, e, hs⟩ := fold_x hn v hv
  rw [e]
  show (text.encT s).size = _
  have h1 : (enc s.size).length = 1 := by
    unfold enc
    rw [show s.size / 128 = 0 by omega, hi_zero]
    rfl
  have h2 : (text.encT s).size = (enc s.size ++ s.data.toList).length := by
    unfold text.encT
    rfl
  rw [h2, List.length_append, h1]
  show 1 + s.size = _
  omega
end Go.Proofs.YtcdedkgkingbdaaGreatDoor.rep
end

