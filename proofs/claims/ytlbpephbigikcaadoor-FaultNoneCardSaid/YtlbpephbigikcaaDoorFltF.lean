/- fault: slices.Contains over steps' names, Within. -/
import Derived.Test.YtlbpephbigikcaaDoorFltE
namespace Go.Proofs.YtlbpephbigikcaaDoor.flt
open Go Go.RowKit Go.Extern.Stop Go.Stop Go.Extern

/-- Is one of the steps of that name? -/
def within (L : List Sp) (s : ByteArray) : Bool := L.any fun x => decide (x.s = s)

def IndexPost (w : World) (L : List Sp) (s : ByteArray) (en : Ending) (w' : World) : Prop :=
  ∃ z : Int, en = .returned (.int .i64 z) ∧ (within L s = true → 0 ≤ z) ∧ (within L s = false → z < 0) ∧ w = w'

set_option maxHeartbeats 1000000 in
theorem index_calls (L : List Sp) (v : Value) (s : ByteArray) (w : World) (h : Seg w 9 1 v L.length (names L)) : Calls Tryd.prog 43 #[v, .string s] w (IndexPost w L s) := by
  obtain ⟨a, c, rfl, hc1, hc2⟩ := h.slice
  have hlen : (L.length : Int) ≤ 9223372036854775807 := by unfold maxLen at hc2; omega
  have H := Lib.hid h
  clear h
  go_enter Tryd.func43, Tryd.ntmps43
  go_wp2_with fail
  go_loopw [8] (fun x wr => ∃ i : Nat, x = .int .i64 i ∧ i ≤ L.length ∧ wr = w ∧ Hid (∀ (j : Nat) y, j < i → L[j]? = some y → ¬ y.s = s)) (fun x _ => L.length - (intOf x).toNat)
  case atStart => exact ⟨0, rfl, by omega, rfl, Lib.hid fun j y hj => by omega⟩
  case round =>
    obtain ⟨i, rfl, hi, rfl, HN⟩ := hrel
    by_cases hlt : i < L.length
    · obtain ⟨g, off, c', e, hg, _, _, hcells⟩ := H.out.cells (by omega)
      injection e with e1 e2 e3
      subst e1
      obtain ⟨y, hy⟩ : ∃ y, L[i]? = some y := ⟨_, List.getElem?_eq_getElem hlt⟩
      have c0 : wr.cell? ⟨g, off + i, none⟩ = some (.string y.s) := hcells i _ (by unfold names; rw [List.getElem?_map, hy]; rfl)
      have hi2 : (i : Int) < (L.length : Int) := by omega
      have HY := Lib.hid hy
      obtain ⟨t, ht⟩ : ∃ t, t = y.s := ⟨_, rfl⟩
      rw [← ht] at c0
      have HTT := Lib.hid ht
      clear ht hy hcells hg hc1 hc2
      by_cases hst : s = t
      · have HST := Lib.hid hst
        have HS2 : Hid (within L s = true) := Lib.hid (by
          unfold within
          rw [List.any_eq_true]
          exact ⟨y, List.mem_of_getElem? HY.out, by rw [← HTT.out, ← hst]; exact decide_eq_true rfl⟩)
        subst hst
        have hne : (s.toList == s.toList) = true := by simp
        go_wp2_with fail
        go_ret
        refine ⟨_, rfl, fun _ => by omega, fun (e : within L s = false) => ?_, rfl⟩
        rw [HS2.out] at e; cases e
      · have HST := Lib.hid hst
        have hne : (s.toList == t.toList) = false := by
          rw [beq_eq_false_iff_ne]
          intro e
          rw [ByteArray.toList_eq, ByteArray.toList_eq] at e
          exact hst (ByteArray.ext (Array.toList_inj.1 e))
        clear hst
        go_wp2_with fail
        refine ⟨⟨i + 1, by rw [Int.natCast_add]; rfl, by omega, trivial, Lib.hid fun j z hj hz => ?_⟩, ?_⟩
        · rcases Nat.lt_or_ge j i with h | h
          · exact HN.out j z h hz
          · obtain rfl : j = i := by omega
            have e := HY.out.symm.trans hz
            injection e with e
            rw [← e, ← HTT.out]
            exact fun e => HST.out e.symm
        · show L.length - ((i : Int) + 1).toNat < L.length - ((i : Int)).toNat
          omega
    · have hi2 : ¬ (i : Int) < (L.length : Int) := by omega
      have HS2 : Hid (within L s = false) := Lib.hid (by
        unfold within
        rw [List.any_eq_false]
        intro y hy
        obtain ⟨j, hj, e⟩ := List.getElem_of_mem hy
        have := HN.out j y (by omega) (by rw [List.getElem?_eq_getElem hj, e])
        exact fun h => this (of_decide_eq_true h))
      go_wp2_with fail
      go_ret
      refine ⟨_, rfl, fun (e : within L s = true) => ?_, fun _ => by decide, rfl⟩
      rw [HS2.out] at e; cases e

theorem contains_calls (L : List Sp) (v : Value) (s : ByteArray) (w : World) (h : Seg w 9 1 v L.length (names L)) : Calls Tryd.prog 35 #[v, .string s] w fun en w' => en = .returned (.bool (within L s)) ∧ w = w' := by
  have H := Lib.hid h
  clear h
  go_enter Tryd.func35, Tryd.ntmps35
  go_wp2_with (first
    | (go_at_call 43; refine (index_calls L v s _ H.out).mono ?_; rintro en w1 ⟨z, rfl, h1, h2, rfl⟩)
    | fail)
  go_ret
  refine ⟨?_, rfl⟩
  cases hb : within L s with
  | true => exact ret_bool (decide_eq_true (h1 hb))
  | false => exact ret_bool (decide_eq_false (by have := h2 hb; omega))

theorem within_calls (B : Nat) (L : List Sp) (n : Int) (s : ByteArray) (w : World) (hT : Et B w) (hE : Er B w L n) (hl : L.length ≤ 1000000) : Calls Tryd.prog 22 #[ev L n, .string s] w fun en w' => en = .returned (.bool (within L s)) ∧ Below B w w' := by
  have HT := Lib.hid hT
  have HE := Lib.hid hE
  clear hT hE
  go_enter Tryd.func22, Tryd.ntmps22
  go_wp2_with (first
    | (go_at_call 16; refine (where_calls B L n _ HT.out HE.out hl).mono ?_; rintro en w1 ⟨v, rfl, hS, hO, b1⟩)
    | (go_at_call 35; refine (contains_calls L v s _ hS).mono ?_; rintro en w2 ⟨rfl, rfl⟩)
    | fail)
  go_ret
  exact ⟨rfl, b1⟩
end Go.Proofs.YtlbpephbigikcaaDoor.flt
