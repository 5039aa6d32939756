/- A sum out of a text ([32]byte): what the law's Sum, the Reader's Sum give. -/
import Derived.Test.YtigojpjmncclaaaWireU
import Derived.Test.YtigojpjmncclaaaReg
namespace Go.Proofs.Ytigojpjmncclaaa
open Go.RowKit

/-- 32 bytes 0. -/
def zeros : List UInt8 := List.replicate 32 0

/-- A sum's bytes out of a text: its first 32, zeros behind them. -/
def sum32 (s : ByteArray) : List UInt8 := over zeros s.data.toList

theorem zeros_length : zeros.length = 32 := by simp [zeros]
theorem sum32_length (s : ByteArray) : (sum32 s).length = 32 := by rw [sum32, over_length, zeros_length]

theorem made_zeros (w : World) : Has (w.alloc (.cells #[.int .u8 0, .int .u8 0, .int .u8 0, .int .u8 0, .int .u8 0, .int .u8 0, .int .u8 0, .int .u8 0, .int .u8 0, .int .u8 0, .int .u8 0, .int .u8 0, .int .u8 0, .int .u8 0, .int .u8 0, .int .u8 0, .int .u8 0, .int .u8 0, .int .u8 0, .int .u8 0, .int .u8 0, .int .u8 0, .int .u8 0, .int .u8 0, .int .u8 0, .int .u8 0, .int .u8 0, .int .u8 0, .int .u8 0, .int .u8 0, .int .u8 0, .int .u8 0] 25)) w.heap.size 25 (cellsOf zeros) := Has.made _ _ _
theorem made_zeros_at (w : World) (g : Nat) (hg : g = w.heap.size) : Has (w.alloc (.cells #[.int .u8 0, .int .u8 0, .int .u8 0, .int .u8 0, .int .u8 0, .int .u8 0, .int .u8 0, .int .u8 0, .int .u8 0, .int .u8 0, .int .u8 0, .int .u8 0, .int .u8 0, .int .u8 0, .int .u8 0, .int .u8 0, .int .u8 0, .int .u8 0, .int .u8 0, .int .u8 0, .int .u8 0, .int .u8 0, .int .u8 0, .int .u8 0, .int .u8 0, .int .u8 0, .int .u8 0, .int .u8 0, .int .u8 0, .int .u8 0, .int .u8 0, .int .u8 0] 25)) g 25 (cellsOf zeros) := hg ▸ made_zeros w

theorem Try.infoSum : (Try.prog.info? 25).map (·.size) = some 32 := by kernel_rfl
theorem Try.infoB1 : (Try.prog.info? 5).map (·.size) = some 1 := by kernel_rfl

set_option maxRecDepth 100000 in
set_option maxHeartbeats 400000 in
theorem lsum_any (s : ByteArray) (w : World) :
    Calls Try.prog 8 #[.string s] w fun en w' => en = .returned (.agg (cellsOf (sum32 s))) ∧ Below w.heap.size w w' := by
  go_enter Try.func8, Try.ntmps8
  go_wp2_with ((with_reducible refine at_op 6 ?_); refine wpList_copy_str (o := ⟨some 6, _, _, _, _, _⟩) rfl (.tmp 4) (.tmp 5) 27 9 rfl 5 Try.underlying27 Try.infoB1 (w.heap.size + 1) 32 s zeros rfl rfl 25 (by exact made_zeros_at _ _ (by simp)) ?_)
  intro w1 h1 t1
  have h0 : Has w1 w.heap.size 25 (cellsOf zeros) := ((made_zeros_at w _ rfl).alloc _).turn t1 (by omega)
  have t0 : Turn (fun k => w.heap.size ≤ k) w w1 := (((Turn.refl _ w).alloc _).alloc _).trans t1 (fun j hj e => by omega)
  have H1 := Lib.hid h1
  have H0 := Lib.hid h0
  clear h1 h0 t1
  go_wp2_with (first | ((with_reducible refine at_op 7 ?_); refine wpList_load_arr (o := ⟨some 7, _, _, _, _, _⟩) rfl 25 (.tmp 3) rfl (w.heap.size + 1) rfl 25 (sum32 s) 5 32 H1.out Try.underlying25 Try.infoSum (sum32_length s) ?_) | ((with_reducible refine at_store (.tmp 2) ?_); refine wpList_store_arr (o := ⟨none, _, _, _, _, _⟩) rfl 25 (.tmp 2) (.tmp 7) rfl w.heap.size (sum32 s) zeros rfl rfl 25 H0.out 32 Try.infoSum zeros_length (sum32_length s) ?_))
  intro w2 h2 t2
  have B2 : Below w.heap.size w w2 := (t0.trans t2 (fun j hj e => by omega)).below (Nat.le_refl _) (fun j hj e => by omega)
  have H2 := Lib.hid h2
  clear h2 t2 t0 H0 H1
  go_wp2_with fail
  exact bodyPost_ret (v := .agg (cellsOf (sum32 s))) (results_cell_row rfl _ _ w.heap.size 25 _ _ _ rfl H2.out Try.underlying25 rfl (by rw [Try.infoSum, cellsOf_size, sum32_length])) rfl ⟨rfl, B2⟩

end Go.Proofs.Ytigojpjmncclaaa
