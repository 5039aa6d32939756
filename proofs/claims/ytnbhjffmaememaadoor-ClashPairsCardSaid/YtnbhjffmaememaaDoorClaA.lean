/- clash: under, Is. -/
import Derived.Test.YtnbhjffmaememaaDoorDigM
import Derived.Test.YtnbhjffmaememaaDoorDigI
import Derived.Test.YtnbhjffmaememaaDoorAny
import Derived.StillTailTactics
namespace Go.Proofs.YtnbhjffmaememaaDoor.clash
open Go Go.RowKit Go.Proofs.YtnbhjffmaememaaDoor.dig

/-- The text under the Node of two sums. -/
def underS (a b : List UInt8) : ByteArray := ⟨(1 :: (a ++ b)).toArray⟩
theorem underS_of (a b : List UInt8) : (⟨#[1]⟩ ++ (⟨a.toArray⟩ : ByteArray) ++ (⟨b.toArray⟩ : ByteArray) : ByteArray) = underS a b := by
  apply ByteArray.ext
  simp [underS, ByteArray.data_append]

set_option maxRecDepth 100000 in
set_option maxHeartbeats 1000000 in
theorem under_calls (a b : List UInt8) (w : World) (ha : a.length = 32) (hb : b.length = 32) :
    Calls Tryd.prog 126 #[.agg (cellsOf a), .agg (cellsOf b)] w fun en w' => en = .returned (.string (underS a b)) ∧ Below w.heap.size w w' := by
  have HA := Lib.hid ha
  have HB := Lib.hid hb
  clear ha hb
  obtain ⟨sa, hsa⟩ : ∃ sa : ByteArray, sa = ⟨a.toArray⟩ := ⟨_, rfl⟩
  obtain ⟨sb, hsb⟩ : ∃ sb : ByteArray, sb = ⟨b.toArray⟩ := ⟨_, rfl⟩
  have za : sa.size = 32 := by rw [hsa]; simpa [ByteArray.size] using HA.out
  have zb : sb.size = 32 := by rw [hsb]; simpa [ByteArray.size] using HB.out
  have HU : Hid ((⟨#[1]⟩ : ByteArray) ++ sa ++ sb = underS a b) := Lib.hid (by rw [hsa, hsb]; exact underS_of a b)
  have HSA := Lib.hid hsa
  have HSB := Lib.hid hsb
  clear hsa hsb
  go_enter Tryd.func126, Tryd.ntmps126
  go_wp2_with fail
  go_name_world W hW
  have B0 : Below w.heap.size w W := by rw [← hW]; exact ((Below.refl _ _).alloc (Nat.le_refl _) _).alloc (by simp) _
  have PA : Has W w.heap.size 29 (cellsOf a) := by rw [← hW]; exact Has.alloc (made_at _ _ rfl) _
  have PB : Has W (w.heap.size + 1) 29 (cellsOf b) := by rw [← hW]; exact made_at _ _ (by simp)
  clear hW
  have ca := run_str_arr (P := Tryd.prog) 31 9 5 Tryd.underlying31 Tryd.underlying5 Tryd.underlying9 _ _ a 32 W.drew PA.drew
  have cb := run_str_arr (P := Tryd.prog) 31 9 5 Tryd.underlying31 Tryd.underlying5 Tryd.underlying9 _ _ b 32 W.drew PB.drew
  rw [HA.out, ← HSA.out] at ca
  rw [HB.out, ← HSB.out] at cb
  have hul := Tryd.underlying29
  have BB := Lib.hid B0.drew
  clear PA PB B0
  have e1 : (⟨#[1]⟩ : ByteArray).size = 1 := rfl
  have e2 : ((⟨#[1]⟩ : ByteArray) ++ sa).size = 33 := by rw [ByteArray.size_append, za]; rfl
  refine wp_region_still_lit (by kernel_rfl) (by kernel_rfl) ?_
  repeat still_step
  refine wpStill_nil ?_
  clear ca cb hul e1 e2
  go_wp2_with fail
  go_ret
  rw [HU.out]
  exact ⟨rfl, BB.out⟩

theorem run_equal_sum' (xs ys : List UInt8) (hx : xs.length = 32) (hy : ys.length = 32) (w : World) : (Op.equalIn 10000 29 (.agg (cellsOf xs)) (.agg (cellsOf ys))).run Tryd.prog w = .ok (xs == ys) w := by
  have := run_equalIn_bytes (P := Tryd.prog) 9998 (t := 29) (e := 5) 32 Tryd.underlying29 Tryd.underlying5 (by kernel_rfl) xs ys hx hy w
  simpa using this

/-- Are two texts a clash? -/
def clashB (s t : ByteArray) : Bool := decide (s ≠ t) && (sum s.data.toList == sum t.data.toList)
theorem clashB_self (s : ByteArray) : clashB s s = false := by simp [clashB]

/-- What lasts while a pair is looked at. -/
structure PairS (w : World) (g : Nat) (s t : ByteArray) (V : World) : Prop where
  rk : Rk V
  own : Has V g 76 #[.string s, .string t]
  bel : Below w.heap.size w V
theorem PairS.below {w V V' : World} {g : Nat} {s t : ByteArray} (h : PairS w g s t V) (b : Below V.heap.size V V') : PairS w g s t V' :=
  ⟨h.rk.below b, h.own.below b h.own.lt, h.bel.trans (b.mono h.bel.size)⟩

set_option maxRecDepth 100000 in
set_option maxHeartbeats 1000000 in
theorem is_calls (s t : ByteArray) (w : World) (hR : Rk w) (hs : s.size < 1000000) (ht : t.size < 1000000) :
    Calls Tryd.prog 54 #[.agg #[.string s, .string t]] w fun en w' => en = .returned (.bool (clashB s t)) ∧ Below w.heap.size w w' := by
  have HR := Lib.hid hR
  clear hR
  by_cases he : s = t
  · subst he
    rw [clashB_self]
    go_enter Tryd.func54, Tryd.ntmps54
    go_wp2_with fail
    go_name_world W hW
    have P0 : Hid (PairS w w.heap.size s s W) := by
      have b0 : Below w.heap.size w W := by rw [← hW]; exact (Below.refl _ _).alloc (Nat.le_refl _) _
      exact Lib.hid ⟨HR.out.below b0, by rw [← hW]; exact made_at _ _ rfl, b0⟩
    clear hW HR
    have c0 : W.cell? ⟨w.heap.size, 0, none⟩ = some (.string s) := P0.out.own.cell 0
    have c1 : W.cell? ⟨w.heap.size, 1, none⟩ = some (.string s) := P0.out.own.cell 1
    go_quiet (fail)
    go_wp2_with fail
    go_ret
    exact ⟨rfl, ⟨P0.out.bel.os, P0.out.bel.tape, P0.out.bel.output, P0.out.bel.size, P0.out.bel.block⟩⟩
  · have hq : clashB s t = (sum s.data.toList == sum t.data.toList) := by simp [clashB, he]
    rw [hq]
    have hne : ¬ s.toList = t.toList := fun e => he (by
      rw [ByteArray.toList_eq, ByteArray.toList_eq] at e
      apply ByteArray.ext
      exact Array.toList_inj.1 e)
    have HQ := Lib.hid hq
    clear hq
    go_enter Tryd.func54, Tryd.ntmps54
    go_wp2_with fail
    go_name_world W hW
    have P0 : Hid (PairS w w.heap.size s t W) := by
      have b0 : Below w.heap.size w W := by rw [← hW]; exact (Below.refl _ _).alloc (Nat.le_refl _) _
      exact Lib.hid ⟨HR.out.below b0, by rw [← hW]; exact made_at _ _ rfl, b0⟩
    clear hW HR
    refine wp_region_S (S := PairS w w.heap.size s t) (by kernel_rfl) (P0.out.below (Below.refl _ _).drew) ?_
    refine AnyS.pure 0 (some 3) (v := .pointer (some ⟨w.heap.size, 0, none⟩)) rfl rfl (by kernel_rfl) (by kernel_rfl) (by kernel_rfl) (fun _ _ _ h => h) (by kernel_rfl) (fun V _ => by go_simp) ?_
    refine AnyS.pure 1 (some 4) (v := .string s) rfl rfl (by kernel_rfl) (by kernel_rfl) (by kernel_rfl) (fun _ _ _ h => h) (by kernel_rfl) (fun V hV => by have c0 := hV.own.cell 0; have c1 := hV.own.cell 1; simp at c0 c1; go_simp) ?_
    refine AnyS.pure 2 (some 5) (v := .pointer (some ⟨w.heap.size, 1, none⟩)) rfl rfl (by kernel_rfl) (by kernel_rfl) (by kernel_rfl) (fun _ _ _ h => h) (by kernel_rfl) (fun V _ => by go_simp) ?_
    refine AnyS.pure 3 (some 6) (v := .string t) rfl rfl (by kernel_rfl) (by kernel_rfl) (by kernel_rfl) (fun _ _ _ h => h) (by kernel_rfl) (fun V hV => by have c0 := hV.own.cell 0; have c1 := hV.own.cell 1; simp at c0 c1; go_simp) ?_
    refine AnyS.pure 4 (some 7) (v := .bool true) rfl rfl (by kernel_rfl) (by kernel_rfl) (by kernel_rfl) (fun _ _ _ h => h) (by kernel_rfl) (fun V _ => by go_simp) ?_
    refine AnyS.pure 5 (some 8) rfl rfl (by kernel_rfl) (by kernel_rfl) (by kernel_rfl) (fun _ _ _ h => h) (by kernel_rfl) (fun _ _ => rfl) ?_
    refine AnyS.pure 6 (some 9) (v := .pointer (some ⟨w.heap.size, 0, none⟩)) rfl rfl (by kernel_rfl) (by kernel_rfl) (by kernel_rfl) (fun _ _ _ h => h) (by kernel_rfl) (fun V _ => by go_simp) ?_
    refine AnyS.pure 7 (some 10) (v := .string s) rfl rfl (by kernel_rfl) (by kernel_rfl) (by kernel_rfl) (fun _ _ _ h => h) (by kernel_rfl) (fun V hV => by have c0 := hV.own.cell 0; have c1 := hV.own.cell 1; simp at c0 c1; go_simp) ?_
    refine AnyS.pure 9 (some 12) (v := .pointer (some ⟨w.heap.size, 1, none⟩)) rfl rfl (by kernel_rfl) (by kernel_rfl) (by kernel_rfl) (fun _ _ _ h => h) (by kernel_rfl) (fun V _ => by go_simp) ?_
    refine AnyS.pure 10 (some 13) (v := .string t) rfl rfl (by kernel_rfl) (by kernel_rfl) (by kernel_rfl) (fun _ _ _ h => h) (by kernel_rfl) (fun V hV => by have c0 := hV.own.cell 0; have c1 := hV.own.cell 1; simp at c0 c1; go_simp) ?_
    refine AnyS.call 8 (some 11) (.agg (cellsOf (sum s.data.toList))) rfl rfl (by kernel_rfl) (by kernel_rfl) (by kernel_rfl) (fun _ _ _ h => h) (by kernel_rfl) 23 Tryd.f23 Tryd.func23 (by kernel_rfl) (by kernel_rfl) _ _ rfl #[.string s] (by first | (simp [Act.eval]; done) | (simp [Act.eval, Act.put]; done)) (fun V hV => (of_calls s V hV.rk (by omega)).mono (fun _ _ h => ⟨h.1, hV.below h.2⟩)) ?_
    simp only [Act.put, List.setIfInBounds_toArray, List.set_cons_zero, List.set_cons_succ]
    refine AnyS.call 11 (some 14) (.agg (cellsOf (sum t.data.toList))) rfl rfl (by kernel_rfl) (by kernel_rfl) (by kernel_rfl) (fun _ _ _ h => h) (by kernel_rfl) 23 Tryd.f23 Tryd.func23 (by kernel_rfl) (by kernel_rfl) _ _ rfl #[.string t] (by first | (simp [Act.eval]; done) | (simp [Act.eval, Act.put]; done)) (fun V hV => (of_calls t V hV.rk (by omega)).mono (fun _ _ h => ⟨h.1, hV.below h.2⟩)) ?_
    simp only [Act.put, List.setIfInBounds_toArray, List.set_cons_zero, List.set_cons_succ]
    refine AnyS.pure 12 (some 15) (v := .bool (sum s.data.toList == sum t.data.toList)) rfl rfl (by kernel_rfl) (by kernel_rfl) (by kernel_rfl) (fun _ _ _ h => h) (by kernel_rfl) (fun V _ => by have he := run_equal_sum' (sum s.data.toList) (sum t.data.toList) (sum_length _) (sum_length _) V; go_simp) ?_
    refine AnyS.pure 13 (some 16) (v := .bool (sum s.data.toList == sum t.data.toList)) rfl rfl (by kernel_rfl) (by kernel_rfl) (by kernel_rfl) (fun _ _ _ h => h) (by kernel_rfl) (fun V _ => by go_simp) ?_
    refine AnyS.pure 14 (some 2) rfl rfl (by kernel_rfl) (by kernel_rfl) (by kernel_rfl) (fun _ _ _ h => h) (by kernel_rfl) (fun _ _ => rfl) ?_
    refine AnyS.done (by kernel_rfl) (fun V hV => ?_) _
    have HB := Lib.hid hV.bel
    clear hV P0
    go_wp2_with fail
    go_ret
    exact ⟨rfl, HB.out⟩
end Go.Proofs.YtnbhjffmaememaaDoor.clash
