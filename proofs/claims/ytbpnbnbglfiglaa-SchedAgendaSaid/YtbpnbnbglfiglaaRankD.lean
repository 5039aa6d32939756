/- rank's things: Pop, Push; container/heap's Pop, Push, Init over them. -/
import Derived.Test.YtbpnbnbglfiglaaRankC
namespace Go.Proofs.Ytbpnbnbglfiglaa
open Go.RowKit

theorem Lie.take {w : World} {g cap : Nat} {l : List Th} (h : Lie w g cap l) (m : Nat) : Lie w g cap (l.take m) := by
  obtain ⟨cs, hh, tl, e, r⟩ := h
  refine ⟨cs, hh, cellsThs (l.drop m) ++ tl, ?_, r⟩
  rw [e, ← List.append_assoc]
  congr 1
  rw [cellsThs, cellsThs, cellsThs, ← List.flatMap_append, List.take_append_drop]

theorem popped {w : World} {q g cap : Nat} {l : List Th} {n : Int} (h : Qa w q g cap l n) (m : Nat) (hm : m ≤ l.length) (o : Obj) :
    Qa ((w.setCell ⟨q, 0, none⟩ (.slice (some ⟨g, 0, none⟩) m cap)).alloc o) q g cap (l.take m) n := by
  refine ⟨?_, ?_⟩
  · have e : (l.take m).length = m := by rw [List.length_take]; omega
    rw [e]
    exact (h.own.put 0 (.slice (some ⟨g, 0, none⟩) m cap)).alloc o
  · have k := h.lie.take m
    obtain ⟨cs, hh, r⟩ := k
    exact ⟨cs, (hh.far (p := ⟨q, 0, none⟩) h.ne _).alloc o, r⟩

set_option maxRecDepth 100000 in
set_option maxHeartbeats 400000 in
theorem tpop_calls (q g cap : Nat) (l : List Th) (n : Int) (w : World) (h : Qa w q g cap l n) (h0 : 0 < l.length) (hl : l.length ≤ 1000000) (hcap : l.length ≤ cap) :
    Calls Try.prog 89 #[.pointer (some ⟨q, 0, none⟩)] w fun en w' => (∃ v, en = .returned v) ∧ Qa w' q g cap (l.take (l.length - 1)) n ∧ w.grownBy w' (some q) := by
  obtain ⟨m, em⟩ : ∃ m, l.length = m + 1 := ⟨l.length - 1, by omega⟩
  obtain ⟨i1, i2, i3⟩ := h.lie.cell m (by omega)
  have c0 := h.own.cell 0
  have f0 := h.own.free 0
  change w.cell? ⟨q, 0, none⟩ = some (.slice (some ⟨g, 0, none⟩) l.length cap) at c0
  have hne := h.ne
  have hgq : ¬ g = q := hne
  have hq := h.own.lt
  have hg := h.lie.lt
  have H := Lib.hid h
  have EM := Lib.hid em
  rw [em] at c0
  have hm1 : ((m + 1 : Nat) : Int) - 1 = (m : Int) := by omega
  have hm2 : (m : Int) ≤ 1000000 := by omega
  have hm3 : (m : Int) < ((m + 1 : Nat) : Int) := by omega
  have hm4 : (0 : Int) ≤ (m : Int) := by omega
  have hm5 : (m : Int) ≤ (cap : Int) := by omega
  generalize hx : at_ l m = x at *
  obtain ⟨x1, x2, x3⟩ := x
  clear h em hx hne
  go_enter Try.func89, Try.ntmps89
  go_wp2_with fail
  go_ret
  have e : l.length - 1 = m := by rw [EM.out]; omega
  rw [e]
  refine ⟨⟨_, rfl⟩, popped H.out m (by rw [EM.out]; omega) _, ?_⟩
  exact grown_alloc (grown_own (grown_refl w _) _ _) _

theorem at_take {l : List Th} {m k : Nat} (hk : k < m) (hm : m ≤ l.length) : at_ (l.take m) k = at_ l k := by
  rw [at_eq (by rw [List.length_take]; omega), at_eq (by omega), List.getElem_take]

theorem HeapFrom.take {i0 m : Nat} {l : List Th} (h : HeapFrom i0 m l) (hm : m ≤ l.length) : HeapFrom i0 m (l.take m) := fun k h0 hk hi => by
  rw [at_take hk hm, at_take (by omega) hm]
  exact h k h0 hk hi

theorem sinks_of_swap {m : Nat} {l : List Th} (h : HeapFrom 0 l.length l) (hm : m + 1 = l.length) : Sinks 0 m 0 (swap l 0 m) :=
  Sinks.start fun k h0 hk hi => by
    rw [at_swap l 0 m k (by omega) (by omega), at_swap l 0 m _ (by omega) (by omega), if_neg (by omega), if_neg (by omega), if_neg (by omega), if_neg (by omega)]
    exact h k h0 (by omega) (Nat.zero_le _)

theorem drop_last {l : List Th} {m : Nat} (hm : m + 1 = l.length) : l.drop m = [at_ l m] := by
  rw [List.drop_eq_getElem_cons (by omega), at_eq (by omega), List.drop_eq_nil_of_le (by omega)]

theorem popped_perm {l l2 : List Th} {m : Nat} (hm : m + 1 = l.length) (hp : l2.Perm (swap l 0 m)) (hd : l2.drop m = (swap l 0 m).drop m) : (l2.take m).Perm l.tail := by
  have e1 : (swap l 0 m).drop m = [at_ l 0] := by
    rw [drop_last (by rw [swap_length]; exact hm), at_swap l 0 m m (by omega) (by omega), if_pos rfl]
  have h1 : (l2.take m ++ [at_ l 0]).Perm l := by
    rw [← e1, ← hd, List.take_append_drop]
    exact hp.trans (swap_perm l 0 m (by omega) (by omega))
  cases l with
  | nil => simp at hm
  | cons x t =>
    have e : at_ (x :: t) 0 = x := rfl
    rw [e] at h1
    exact ((List.perm_append_singleton x (l2.take m)).symm.trans h1).cons_inv

end Go.Proofs.Ytbpnbnbglfiglaa
