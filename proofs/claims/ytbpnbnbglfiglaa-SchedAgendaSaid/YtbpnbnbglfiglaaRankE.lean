/- container/heap's Pop over rank's things. -/
import Derived.Test.YtbpnbnbglfiglaaRankD
namespace Go.Proofs.Ytbpnbnbglfiglaa
open Go.RowKit

theorem Lie.room {w : World} {g cap : Nat} {l : List Th} (h : Lie w g cap l) : l.length ≤ cap := by
  obtain ⟨cs, hh, tl, e, hz, _⟩ := h
  have h1 := congrArg List.length e
  rw [List.length_append, cellsThs_length, Array.length_toList, hz] at h1
  omega

/-- The things are l, a heap: what a call leaves of them in their blocks. -/
def PopPost (w : World) (q g cap : Nat) (l : List Th) (n : Int) (en : Ending) (w' : World) : Prop :=
  (∃ v, en = .returned v) ∧ ∃ l', Qa w' q g cap l' n ∧ l'.Perm l.tail ∧ HeapFrom 0 l'.length l' ∧ Turn (fun k => k = q ∨ k = g) w w'

set_option maxRecDepth 100000 in
set_option maxHeartbeats 400000 in
theorem hpop_calls (q g cap : Nat) (l : List Th) (n : Int) (w : World) (h : Qa w q g cap l n) (hh : HeapFrom 0 l.length l) (h0 : 0 < l.length) (hl : l.length ≤ 1000000) :
    Calls Try.prog 44 #[ifc q] w fun en w' => PopPost w q g cap l n en w' := by
  obtain ⟨m, em⟩ : ∃ m, l.length = m + 1 := ⟨l.length - 1, by omega⟩
  have c0 := h.own.cell 0
  change w.cell? ⟨q, 0, none⟩ = some (.slice (some ⟨g, 0, none⟩) l.length cap) at c0
  rw [em] at c0
  have ml := fun x => method_len x ⟨q, 0, none⟩ _ w c0
  have hm1 : ((m + 1 : Nat) : Int) - 1 = (m : Int) := by omega
  have hm2 : (m : Int) ≤ 1000000 := by omega
  have hm4 : (0 : Int) ≤ (m : Int) := by omega
  have hm5 : m + 1 ≤ 1000000 := by omega
  have H := Lib.hid h
  have HH := Lib.hid hh
  have EM := Lib.hid em
  clear h hh em h0 hl
  go_enter Try.func44, Try.ntmps44
  go_wp2_with fail
  refine (len_calls _ _ _ _ (by unfold maxLen; omega)).mono ?_
  rintro en w1 ⟨rfl, rfl⟩
  have ms := fun x => method_swap x ⟨q, 0, none⟩ _ w c0
  go_wp2_with fail
  have hs := swap_calls g l cap 0 m w H.out.lie (by rw [EM.out]; omega) (by rw [EM.out]; omega)
  rw [EM.out] at hs
  refine hs.mono ?_
  rintro en w1 ⟨rfl, h1, g1⟩
  have Q1 := Lib.hid (H.out.turn g1 h1 (swap_length ..))
  have G1 := Lib.hid (Turn.of_grown g1 (.inr rfl) : Turn (fun k => k = q ∨ k = g) w w1)
  have S1 := Lib.hid (sinks_of_swap HH.out EM.out.symm)
  clear h1 g1 hs ms ml c0
  go_wp2_with fail
  have hd := down_calls q g cap 0 m (swap l 0 m) n w1 Q1.out S1.out (by rw [swap_length, EM.out]; omega) (by rw [swap_length, EM.out]; omega) (by omega)
  refine hd.mono ?_
  rintro en w2 ⟨b, l2, rfl, s2, hf⟩
  have S2 := Lib.hid s2
  have F2 := Lib.hid hf
  have L2 : Hid (l2.length = m + 1) := by show _ = _; rw [s2.perm.length_eq, swap_length]; exact EM.out
  have G2 := Lib.hid (G1.out.trans (Turn.of_grown s2.grown rfl : Turn (fun k => k = g) w1 w2) (fun _ _ e => .inr e))
  clear s2 hf hd S1 Q1 G1
  go_wp2_with fail
  refine (tpop_calls q g cap l2 n w2 S2.out.qa (by rw [L2.out]; omega) (by rw [L2.out]; omega) S2.out.qa.lie.room).mono ?_
  rintro en w3 ⟨⟨v, rfl⟩, q3, g3⟩
  have e : l2.length - 1 = m := by rw [L2.out]; omega
  rw [e] at q3
  have Q3 := Lib.hid q3
  have G3 := Lib.hid (G2.out.trans (Turn.of_grown g3 rfl : Turn (fun k => k = q) w2 w3) (fun _ _ e => .inl e))
  clear q3 g3 e
  go_wp2_with fail
  go_ret
  refine ⟨⟨_, rfl⟩, l2.take m, Q3.out, popped_perm EM.out.symm S2.out.perm S2.out.drop, ?_, G3.out⟩
  have e : (l2.take m).length = m := by rw [List.length_take, L2.out]; omega
  rw [e]
  exact F2.out.take (by rw [L2.out]; omega)

end Go.Proofs.Ytbpnbnbglfiglaa
