/- Slice literals of sums, and what appends one sum to sums that are owned. -/
import Derived.Test.YtigojpjmncclaaaSumA
import Derived.Great.BuildSlice
namespace Go.Proofs.Ytigojpjmncclaaa
open Go.RowKit

theorem Try.zeroSum : ∃ i z, Try.prog.info? 25 = some i ∧ i.zero = some z ∧ i.size = 32 ∧ z.cells.size = 32 ∧ i.bytes = 32 := by
  obtain ⟨i, hi⟩ : ∃ i, Try.prog.info? 25 = some i := by
    have := Try.infoSum
    cases h : Try.prog.info? 25 with
    | none => rw [h] at this; cases this
    | some i => exact ⟨i, rfl⟩
  have h2 : (Try.prog.info? 25).map (fun i => (i.zero.map (fun z => z.cells.size), i.size, i.bytes)) = some (some 32, 32, 32) := by kernel_rfl
  rw [hi] at h2
  simp at h2
  obtain ⟨⟨z, hz, hz2⟩, h3, h4⟩ := h2
  exact ⟨i, z, hi, hz, h3, hz2, h4⟩

theorem run_build_sums (L : List (List UInt8)) (h32 : ∀ x ∈ L, x.length = 32) (hpos : 0 < L.length) (hsm : L.length ≤ 1000) (w : World) (parts : Array (Nat × Value))
    (hp : parts.toList = ((L.map fun x => Value.agg (cellsOf x)).zipIdx 0).map fun x => (x.2, x.1)) :
    (Instr.buildSlice 42 L.length parts).run Try.prog w = .ok (.slice (some ⟨w.heap.size, 0, none⟩) L.length L.length) (w.alloc (.cells (cellsOf L.flatten) 25)) := by
  obtain ⟨i, z, hi, hz, h1, h2, _⟩ := Try.zeroSum
  refine run_buildSlice w 42 25 L.length parts _ i z Try.underlying42 hi hz (by rw [h1]; omega) (by rw [h1]; omega) ?_
  rw [hp, h1]
  have := Great.fill_whole (s := 32) (by omega) (L.map fun x => Value.agg (cellsOf x)) ((Array.range (L.length * 32)).map (z.cells[· % z.cells.size]!)) (by
    intro v hv
    obtain ⟨x, hx, rfl⟩ := List.mem_map.1 hv
    show (cellsOf x).size = 32
    rw [cellsOf_size, h32 x hx]) (by simp)
  rw [this]
  congr 1
  have e : ((L.map fun x => Value.agg (cellsOf x)).flatMap fun v => v.cells.toList) = L.flatten.map byteV := by
    clear this hp hpos hsm
    induction L with
    | nil => rfl
    | cons x L ih =>
      rw [List.map_cons, List.flatMap_cons, List.flatten_cons, List.map_append, ih (fun y hy => h32 y (by simp [hy]))]
      rfl
  rw [e]
  rfl

end Go.Proofs.Ytigojpjmncclaaa
