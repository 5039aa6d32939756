/- Texts laid into one: Wf, TreeQ. -/
import Derived.Test.YthbncejbcegmgaaDoorY000
import Derived.ProofKit
import Derived.Test.YthbncejbcegmgaaDoorY002
import Derived.Test.YthbncejbcegmgaaDoorRows
import Derived.LaidMore
import Derived.Stop.LaidErr
section
/- Integers that fit. Of no program. -/
namespace Go.Proofs.YthbncejbcegmgaaDoor
open Go.ChangeShapes Go.WideShapes Go.ChangeAt Go.RowKit

theorem wf_i64 {y : Int} (h : (Lit.int .i64 y).wf = true) : -9223372036854775808 ≤ y ∧ y ≤ 9223372036854775807 := by
  have m0 : IntKind.i64.min = -9223372036854775808 := by decide
  have m1 : IntKind.i64.max = 9223372036854775807 := by decide
  have h' : (decide (IntKind.i64.min ≤ y) && decide (y ≤ IntKind.i64.max)) = true := h
  rw [m0, m1] at h'
  simpa using h'
end Go.Proofs.YthbncejbcegmgaaDoor
end

section
/- tree: what the row's list gives; the world that the program's own initialisers leave meets the rows' condition (of the rows that list digest's rounds and both tables of trailing zeros). -/
namespace Go.Proofs.YthbncejbcegmgaaDoor.tree
open Go Go.ChangeShapes Go.WideShapes Go.ChangeAt Go.RowKit Go.Proofs.YthbncejbcegmgaaDoor.dig

theorem gTab : Tryd.prog.globalNamed "math/bits.deBruijn64tab" = some 1 := by kernel_rfl
theorem gTabType : (Tryd.prog.globals[1]?).map (·.type) = some 135 := by kernel_rfl
theorem cellsTab : Tryd.prog.cellsOf 135 = 64 := by kernel_rfl
theorem cellsU8 : Tryd.prog.cellsOf 5 = 1 := by kernel_rfl
theorem rt_of_laid {W : World} {rest : List (String × DataW Unit)} (h : laidMet Tryd.prog (("math/bits.deBruijn32tab", Rows.laid_math_bits_deBruijn32tab) :: ("math/bits.deBruijn64tab", Rows.laid_math_bits_deBruijn64tab) :: ("hindsight/digest.rounds", Rows.laid_hindsight_digest_rounds) :: rest) W) : Rt W.heap.size W := by
  have ht : Lib.TabIs Tryd.prog W "math/bits.deBruijn64tab" .u8 (Lib.deBruijn64tab.map (Int.ofNat ·)) := Lib.tabIs_of_head (rest := ("hindsight/digest.rounds", Rows.laid_hindsight_digest_rounds) :: rest) gTab gTabType Tryd.underlying135 Tryd.underlying5 cellsU8 cellsTab h.tail
  have hk : Rk W := rk_of_laid (rest := rest) h.tail.tail
  have tz : ∀ (i x : Nat), Lib.deBruijn64tab[i]? = some x → W.cell? ⟨1, i, none⟩ = some (.int .u8 (x : Int)) := fun i x hx => by
    have hi : i < Lib.deBruijn64tab.length := (List.getElem?_eq_some_iff.1 hx).1
    have := ht.cell gTab i (by rw [List.length_map]; exact hi)
    rw [this]
    have e : (Lib.deBruijn64tab.map (Int.ofNat ·)).getD i 0 = (x : Int) := by
      rw [List.getD_eq_getElem?_getD, List.getElem?_map, hx]
      rfl
    rw [e]
  refine ⟨hk, tz, ⟨hk.lt, ?_⟩, Nat.le_refl _⟩
  have h0 := tz 0 0 rfl
  unfold World.cell? at h0
  rcases Nat.lt_or_ge 1 W.heap.size with k | k
  · exact k
  · simp [Array.getElem?_eq_none k] at h0

theorem door_met (os : Os) (args : Array Value) : laidMetH Tryd.prog [("math/bits.deBruijn32tab", Rows.laid_math_bits_deBruijn32tab), ("math/bits.deBruijn64tab", Rows.laid_math_bits_deBruijn64tab), ("hindsight/digest.rounds", Rows.laid_hindsight_digest_rounds)] ((World.doorLaid Tryd.prog 31 os).forCall (fun _ _ => 0) ⟨#[], args, []⟩).memory :=
  laidMetH_of_parts3 (fuel := 8) (laidMet_of_run' 8 (by kernel_rfl) (by kernel_rfl)) (by kernel_rfl) (by kernel_rfl)
theorem door_shaped (os : Os) (args : Array Value) : ((World.doorLaid Tryd.prog 31 os).forCall (fun _ _ => 0) ⟨#[], args, []⟩).Shaped Tryd.prog :=
  World.shaped_of_RefB (by kernel_rfl) (by kernel_rfl)
end Go.Proofs.YthbncejbcegmgaaDoor.tree
end

