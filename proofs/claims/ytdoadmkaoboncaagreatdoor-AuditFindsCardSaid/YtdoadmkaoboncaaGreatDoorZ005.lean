/- Texts laid into one: Wf, Ints. -/
import Derived.Test.YtdoadmkaoboncaaGreatDoorBase
import Derived.ProofKit
import Derived.ChangeSlices
import Derived.OpenShut
import Derived.Deep.MidRow
import Derived.Deep.SlicePairs
import Derived.ChangeOld
section
/- Integers that fit. Of no program. -/
namespace Go.Proofs.YtdoadmkaoboncaaGreatDoor
open Go.ChangeShapes Go.WideShapes Go.ChangeAt Go.RowKit

theorem wf_i64 {y : Int} (h : (Lit.int .i64 y).wf = true) : -9223372036854775808 ≤ y ∧ y ≤ 9223372036854775807 := by
  have m0 : IntKind.i64.min = -9223372036854775808 := by decide
  have m1 : IntKind.i64.max = 9223372036854775807 := by decide
  have h' : (decide (IntKind.i64.min ≤ y) && decide (y ≤ IntKind.i64.max)) = true := h
  rw [m0, m1] at h'
  simpa using h'
end Go.Proofs.YtdoadmkaoboncaaGreatDoor
end

section
/- A slice of numbers that is handed in: what a law may read of it. -/
namespace Go.Proofs.YtdoadmkaoboncaaGreatDoor
open Go.ChangeShapes Go.WideShapes Go.ChangeAt Go.RowKit

/-- The numbers T lie from a on. -/
def ArgI (w : World) (a : Option Addr) (len cap : Nat) (T : Nat → Int) : Prop :=
  len ≤ cap ∧ cap ≤ maxLen ∧ ∀ i, i < len → ∃ b o, a = some ⟨b, o, none⟩ ∧ b < w.heap.size ∧ w.cell? ⟨b, o + i, none⟩ = some (.int .i64 (T i)) ∧ -9223372036854775808 ≤ T i ∧ T i ≤ 9223372036854775807

theorem openedI {H : Type} {enc : TypeId × Value → H} {w : World} {spare : Nat → Bool} {held : Bool} {a : Option Addr} {len cap : Nat} {d : DataW H} {p : List MemPlace} (h : DataW.Trod enc Tryz.prog w 0 spare held 53 (.slice a len cap) d p) : ∃ T, ArgI w a len cap T := by
  obtain ⟨fuel, h⟩ := h
  rcases open_ints Tryz.underlying53 Tryz.underlying3 (by kernel_rfl) h with ⟨hn, _⟩ | ⟨g, l, c, zs, hn, _, hlc, hcm, hm, _, hall, hwf⟩
  · simp [Value.cells] at hn
    obtain ⟨rfl, rfl, rfl⟩ := hn
    exact ⟨fun _ => 0, Nat.le_refl _, Nat.zero_le _, fun i hi => absurd hi (Nat.not_lt_zero _)⟩
  · simp [Value.cells] at hn
    obtain ⟨rfl, rfl, rfl⟩ := hn
    refine ⟨fun i => zs.getD i 0, hlc, hcm, fun i hi => ?_⟩
    have hi' : i < zs.length := by rw [hm]; split <;> omega
    have h0 := hall i hi'
    have hs : g.spot = none := by
      have h00 := hall 0 (by omega)
      simpa [Addr.add] using World.cell?_spot h00
    obtain ⟨gb, go, gs⟩ := g
    obtain rfl : gs = none := hs
    have e0 : (⟨gb, go, none⟩ : Addr).add i = ⟨gb, go + i, none⟩ := Addr.add_mid _ _ _
    rw [e0] at h0
    have hw : (Lit.int .i64 (zs.getD i 0)).wf = true := hwf _ (by
      have : zs.getD i 0 = zs[i] := by simp [hi']
      rw [this]; exact List.getElem_mem hi')
    have hb : gb < w.heap.size := by
      rcases Nat.lt_or_ge gb w.heap.size with k | k
      · exact k
      · unfold World.cell? at h0
        simp [Array.getElem?_eq_none k] at h0
    exact ⟨gb, go, rfl, hb, h0, (wf_i64 hw).1, (wf_i64 hw).2⟩

end Go.Proofs.YtdoadmkaoboncaaGreatDoor
end

