/- A slice of structs that is handed in: what stands in the cells of its elements. Of no program. -/
import Derived.Test.YtiogjmlkogeibaaDoorBase
import Derived.Deep.Slices
import Derived.Deep.Fields
import Derived.ChangeSame
import Derived.ChangeSlices
import Derived.ProofKit
import Derived.OpenShut
import Derived.Deep.MidRow
import Derived.ChangeOld
namespace Go.Proofs.YtiogjmlkogeibaaDoor
open Go.ChangeShapes Go.WideShapes Go.ChangeAt Go.RowKit

theorem opened_rows {H : Type} {enc : TypeId × Value → H} {P : Program} {w : World} {spare : Nat → Bool} {held : Bool} {t e : TypeId} {fs : Array Field}
    (ht : P.underlying t = some (.slice e)) (he : P.underlying e = some (.struct fs)) (hone : Go.Deep.oneCellFields P fs = true) (hC : P.cellsOf e = fs.size) (h0 : 0 < fs.size)
    {a : Option Addr} {len cap : Nat} {d : DataW H} {p : List MemPlace} (h : DataW.Trod enc P w 0 spare held t (.slice a len cap) d p) :
    len ≤ cap ∧ cap ≤ maxLen ∧ ∀ i, i < len → ∃ b o, a = some ⟨b, o, none⟩ ∧ b < w.heap.size ∧
      ∀ (j : Nat) (f : Field), fs[j]? = some f → ∃ (v : Value) (n : Nat) (y : DataW H × List MemPlace), w.cell? ⟨b, o + i * fs.size + j, none⟩ = some v ∧ DataW.trod enc P w 0 spare held n f.type [v] = some y := by
  obtain ⟨fuel, h⟩ := h
  rcases Go.Deep.open_slice ht h with ⟨hn, _⟩ | ⟨g, l, c, m, n, D, Pl, hn, _, hlc, hcm, hm, _, hall⟩
  · simp [Value.cells] at hn
    obtain ⟨rfl, rfl, rfl⟩ := hn
    exact ⟨Nat.le_refl _, Nat.zero_le _, fun i hi => absurd hi (Nat.not_lt_zero _)⟩
  · simp [Value.cells] at hn
    obtain ⟨rfl, rfl, rfl⟩ := hn
    refine ⟨hlc, hcm, fun i hi => ?_⟩
    obtain ⟨cs, hc, hd⟩ := hall i (by rw [hm]; split <;> omega)
    rw [hC] at hc
    obtain ⟨_, hcl, hat⟩ := World.cells?_some hc
    obtain ⟨ys, k, _, _, hlen, hyl, hf⟩ := DataW.trod_struct he hd
    obtain ⟨gb, go, gs⟩ := g
    have hcell : ∀ j, j < fs.size → ∃ v, cs[j]? = some v ∧ w.cell? (((⟨gb, go, gs⟩ : Addr).add (i * fs.size)).add j) = some v := fun j hj => by
      have hv : cs[j]? = some (cs[j]'(by omega)) := List.getElem?_eq_getElem (by omega)
      exact ⟨_, hv, by rw [hat j hj, hv]⟩
    have hs : gs = none := by
      obtain ⟨cs0, hc0, _⟩ := hall 0 (by rw [hm]; split <;> omega)
      rw [hC, Nat.zero_mul] at hc0
      obtain ⟨_, hcl0, hat0⟩ := World.cells?_some hc0
      have hv : cs0[0]? = some (cs0[0]'(by omega)) := List.getElem?_eq_getElem (by omega)
      have h1 := World.cell?_spot ((hat0 0 h0).trans hv)
      simpa [Addr.add] using h1
    subst hs
    have hb : gb < w.heap.size := by
      obtain ⟨v, _, hv⟩ := hcell 0 h0
      rw [Addr.add_mid, Addr.add_mid] at hv
      rcases Nat.lt_or_ge gb w.heap.size with k | k
      · exact k
      · unfold World.cell? at hv
        simp [Array.getElem?_eq_none k] at hv
    refine ⟨gb, go, rfl, hb, fun j f hj => ?_⟩
    have hjl : j < fs.size := (Array.getElem?_eq_some_iff.1 hj).1
    obtain ⟨v, hv, hw⟩ := hcell j hjl
    rw [Addr.add_mid, Addr.add_mid] at hw
    obtain ⟨ho, hk⟩ := Go.Deep.hone_of hone j f hj
    have h1 := hf j f hj
    rw [ho, hk] at h1
    have hjc : j < cs.length := by omega
    have e1 : (cs.drop j).take 1 = [v] := by
      rw [List.drop_eq_getElem_cons hjc]
      have : cs[j] = v := by rw [List.getElem?_eq_getElem hjc] at hv; injection hv
      rw [this]; rfl
    rw [e1] at h1
    have hys : ys[j]? = some (ys[j]'(by omega)) := List.getElem?_eq_getElem (by omega)
    exact ⟨v, _, _, hw, h1.trans hys⟩

/-- A struct that is handed in by value: what stands in its fields (any number of one-cell fields). -/
theorem opened_agg {H : Type} {enc : TypeId × Value → H} {P : Program} {w W : World} {spare : Nat → Bool} {held : Bool} {r : Reach} {b0 : Nat} {e : TypeId} {fs : Array Field}
    (he : P.underlying e = some (.struct fs)) (hone : Go.Deep.oneCellFields P fs = true) (hC : P.cellsOf e = fs.size)
    {v : Value} {d : DataW H} {p : List MemPlace} (hw : Value.okWide P W r b0 e v) (h : DataW.Trod enc P w 0 spare held e v d p) :
    ∃ cs : Array Value, v = .agg cs ∧ cs.size = fs.size ∧ ∀ (j : Nat) (f : Field), fs[j]? = some f → ∃ (u : Value) (n : Nat) (y : DataW H × List MemPlace), cs[j]? = some u ∧ DataW.trod enc P w 0 spare held n f.type [u] = some y := by
  obtain ⟨cs, rfl, hz⟩ := okWide_struct he hw
  obtain ⟨fuel, h⟩ := h
  rw [hC] at hz
  refine ⟨cs, rfl, hz, fun j f hj => ?_⟩
  obtain ⟨ys, k, _, _, hlen, hyl, hf⟩ := DataW.trod_struct he h
  have hjl : j < fs.size := (Array.getElem?_eq_some_iff.1 hj).1
  obtain ⟨ho, hk⟩ := Go.Deep.hone_of hone j f hj
  have h1 := hf j f hj
  rw [ho, hk] at h1
  have hjc : j < cs.toList.length := by simp; omega
  have hv : cs[j]? = some (cs.toList[j]'hjc) := by simp [hz ▸ hjl]
  have e1 : ((Value.agg cs).cells.toList.drop j).take 1 = [cs.toList[j]'hjc] := by
    show (cs.toList.drop j).take 1 = _
    rw [List.drop_eq_getElem_cons hjc]
    rfl
  rw [e1] at h1
  have hys : ys[j]? = some (ys[j]'(by omega)) := List.getElem?_eq_getElem (by omega)
  exact ⟨_, _, _, hv, h1.trans hys⟩

end Go.Proofs.YtiogjmlkogeibaaDoor
