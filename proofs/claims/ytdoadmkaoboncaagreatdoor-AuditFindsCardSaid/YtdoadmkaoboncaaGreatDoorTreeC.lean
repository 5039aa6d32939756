/- tree: row.at, root. -/
import Derived.Test.YtdoadmkaoboncaaGreatDoorTreeB
import Derived.Test.YtdoadmkaoboncaaGreatDoorSums
import Derived.Deep.MidRow
import Derived.StillTailTactics
namespace Go.Proofs.YtdoadmkaoboncaaGreatDoor.dig
open Go Go.RowKit


set_option maxRecDepth 100000 in
set_option maxHeartbeats 1000000 in
theorem at_calls (R o k g m : Nat) (v : Value) (xs : List Value) (x : List UInt8) (w : World) (c0 : w.cell? ⟨R, o, none⟩ = some (.int .i64 g)) (c1 : w.cell? ⟨R, o + 1, none⟩ = some v)
    (hs : Seg w 38 32 v m xs) (hg : g ≤ k) (hk : k - g < m) (hm : m ≤ 1000000) (hkm : k ≤ 1000000) (hx : ∀ r, r < 32 → xs[(k - g) * 32 + r]? = (cellsOf x)[r]?) (hl : x.length = 32) :
    Calls Tryz.prog 96 #[.pointer (some ⟨R, o, none⟩), .int .i64 k] w fun en w' => en = .returned (.agg (cellsOf x)) ∧ Below w.heap.size w w' := by
  obtain ⟨g', off, c, rfl, hlt, hc1, hc2, hcell⟩ := hs.cells (by omega)
  have hR : R < w.heap.size := by
    unfold World.cell? at c0
    rcases Nat.lt_or_ge R w.heap.size with h | h
    · exact h
    · simp [Array.getElem?_eq_none h] at c0
  have hcm : (c : Int) ≤ 9223372036854775807 := by unfold maxLen at hc2; omega
  have hr : w.rangeAt g' (off + (k - g) * 32) (x.map byteV) := fun j u hj => by
    rw [Nat.add_assoc]
    have hj32 : j < 32 := by
      have := (List.getElem?_eq_some_iff.1 hj).1
      simp at this
      omega
    refine hcell _ u ?_
    rw [hx j hj32]
    rw [List.getElem?_map] at hj
    simpa [cellsOf] using hj
  obtain ⟨d, hd⟩ : ∃ d, d = k - g := ⟨_, rfl⟩
  have hd1 : (k : Int) - (g : Int) = (d : Int) := by omega
  have hdm : (d : Int) < (m : Int) := by omega
  have hd0 : (0 : Int) ≤ (d : Int) := by omega
  rw [← hd] at hr
  have HL := Lib.hid hl
  have HR := Lib.hid hr
  clear hs hcell hx hl hd hr
  go_enter Tryz.func96, Tryz.ntmps96
  go_wp2_with fail
  go_name_world W hW
  have B0 : Below w.heap.size w W := by rw [← hW]; exact (Below.refl _ _).alloc (Nat.le_refl _) _
  have Z0 : Has W w.heap.size 38 (cellsOf (List.replicate 32 0)) := by rw [← hW]; exact made_at _ _ rfl
  have d0 : W.cell? ⟨R, o, none⟩ = some (.int .i64 g) := by rw [← c0]; unfold World.cell?; rw [B0.block R hR]
  have d1 : W.cell? ⟨R, o + 1, none⟩ = some (.slice (some ⟨g', off, none⟩) m c) := by rw [← c1]; unfold World.cell?; rw [B0.block R hR]
  have dr : W.rangeAt g' (off + d * 32) (x.map byteV) := fun j u hj => by rw [← HR.out j u hj]; unfold World.cell?; rw [B0.block g' hlt]
  clear hW c0 c1 HR
  obtain ⟨V, hV⟩ : ∃ V, V = W.drew := ⟨_, rfl⟩
  refine still_tail_at V hV 12 (by kernel_rfl) (by kernel_rfl) ?_
  have BV : Hid (Below w.heap.size w V ∧ Has V w.heap.size 38 (cellsOf (List.replicate 32 0))) := by rw [hV]; exact Lib.hid ⟨B0.drew, Z0⟩
  have c0 : V.cell? ⟨R, o, none⟩ = some (.int .i64 g) := by rw [hV]; exact d0
  have c1 : V.cell? ⟨R, o + 1, none⟩ = some (.slice (some ⟨g', off, none⟩) m c) := by rw [hV]; exact d1
  have hl : (Instr.loadAt 38 (.pointer (some ⟨g', off + d * 32, none⟩))).run Tryz.prog V = .ok (.agg (cellsOf x)) V :=
    run_loadAt_mid V g' (off + d * 32) 38 (x.map byteV) _ (by rw [hV]; exact dr) Tryz.underlying38 rfl (by rw [List.length_map, HL.out]; kernel_rfl)
  clear hV d0 d1 dr B0 Z0
  simp only [List.take_succ_cons, List.take_zero, List.drop_succ_cons, List.drop_zero]
  have i0 : IntKind.i64.wrap (d : Int) = (d : Int) := IntWalk.i64_in _ ⟨by omega, by omega⟩
  have j0 : (0 : Int) ≤ (d : Int) ∧ (d : Int) < (m : Int) := ⟨hd0, hdm⟩
  repeat still_step
  refine still_load hl ?_
  refine wpStill_nil ?_
  clear hl c0 c1
  go_wp2_with (first
    | (refine wpList_store_arr (o := ⟨none, _, _, _, _, _⟩) rfl 38 _ _ rfl w.heap.size x (List.replicate 32 0) rfl rfl _ BV.out.2 32 (by kernel_rfl) (by simp) HL.out ?_; intro W6 HW6 TW6)
    | fail)
  exact bodyPost_ret (v := .agg (cellsOf x)) (results_cell_row rfl _ _ w.heap.size 38 _ _ _ rfl HW6 Tryz.underlying38 rfl (by rw [cellsOf_size, HL.out]; kernel_rfl)) rfl
    ⟨rfl, BV.out.1.trans (TW6.below BV.out.1.size (fun j hj e => by omega))⟩
end Go.Proofs.YtdoadmkaoboncaaGreatDoor.dig
