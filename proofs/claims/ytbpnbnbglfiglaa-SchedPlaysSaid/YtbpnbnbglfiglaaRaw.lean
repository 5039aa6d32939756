/- A slice that is handed in, as cells that read. Of no program. -/
import Derived.Test.YtbpnbnbglfiglaaBase
import Derived.ProofKit
import Derived.OpenShut
import Derived.Deep.MidRow
import Derived.Deep.SlicePairs
import Derived.ChangeOld
namespace Go.Proofs.Ytbpnbnbglfiglaa
open Go Go.ChangeShapes Go.WideShapes Go.ChangeAt Go.RowKit Go.Maps

/-- The elements of a slice that is handed in, as cells that read. -/
theorem opened_raw {H : Type} {enc : TypeId × Value → H} {P : Program} {w : World} {spare : Nat → Bool} {held : Bool} {t e : TypeId} {n0 : Nat}
    (ht : P.underlying t = some (.slice e)) (hC : P.cellsOf e = n0) (h0 : 0 < n0)
    {a : Option Addr} {len cap : Nat} {d : DataW H} {p : List MemPlace} (h : DataW.Trod enc P w 0 spare held t (.slice a len cap) d p) :
    len ≤ cap ∧ cap ≤ maxLen ∧ ∀ i, i < len → ∃ b o, a = some ⟨b, o, none⟩ ∧ b < w.heap.size ∧ ∃ (cs : List Value) (n : Nat) (y : DataW H × List MemPlace), cs.length = n0 ∧ DataW.trod enc P w 0 spare held n e cs = some y ∧
      ∀ j v, cs[j]? = some v → w.cell? ⟨b, o + i * n0 + j, none⟩ = some v := by
  obtain ⟨fuel, h⟩ := h
  rcases Go.Deep.open_slice ht h with ⟨hn, _⟩ | ⟨g, l, c, m, n, D, Pl, hn, _, hlc, hcm, hm, _, hall⟩
  · simp [Value.cells] at hn
    obtain ⟨rfl, rfl, rfl⟩ := hn
    exact ⟨Nat.le_refl _, Nat.zero_le _, fun i hi => absurd hi (Nat.not_lt_zero _)⟩
  · simp [Value.cells] at hn
    obtain ⟨rfl, rfl, rfl⟩ := hn
    refine ⟨hlc, hcm, fun i hi => ?_⟩
    obtain ⟨cs, hc, hd⟩ := hall i (by rw [hm]; split <;> omega)
    rw [hC] at hc
    obtain ⟨_, hcl, hat⟩ := World.cells?_some hc
    obtain ⟨gb, go, gs⟩ := g
    have hcell : ∀ j, j < n0 → ∃ v, cs[j]? = some v ∧ w.cell? (((⟨gb, go, gs⟩ : Addr).add (i * n0)).add j) = some v := fun j hj => by
      have hv : cs[j]? = some (cs[j]'(by omega)) := List.getElem?_eq_getElem (by omega)
      exact ⟨_, hv, by rw [hat j hj, hv]⟩
    have hs : gs = none := by
      obtain ⟨cs0, hc0, _⟩ := hall 0 (by rw [hm]; split <;> omega)
      rw [hC, Nat.zero_mul] at hc0
      obtain ⟨_, hcl0, hat0⟩ := World.cells?_some hc0
      have hv : cs0[0]? = some (cs0[0]'(by omega)) := List.getElem?_eq_getElem (by omega)
      have h1 := World.cell?_spot ((hat0 0 h0).trans hv)
      simpa [Addr.add] using h1
    subst hs
    have hb : gb < w.heap.size := by
      obtain ⟨v, _, hv⟩ := hcell 0 h0
      rw [Addr.add_mid, Addr.add_mid] at hv
      rcases Nat.lt_or_ge gb w.heap.size with k | k
      · exact k
      · unfold World.cell? at hv
        simp [Array.getElem?_eq_none k] at hv
    refine ⟨gb, go, rfl, hb, cs, _, _, hcl, hd, fun j v hj => ?_⟩
    have hjl : j < cs.length := (List.getElem?_eq_some_iff.1 hj).1
    obtain ⟨v', hv', hw⟩ := hcell j (by omega)
    rw [hj] at hv'
    injection hv' with hv'
    subst hv'
    rw [Addr.add_mid, Addr.add_mid] at hw
    exact hw
end Go.Proofs.Ytbpnbnbglfiglaa
