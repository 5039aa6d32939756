/- What the Reader's Sum gives. -/
import Derived.Test.YtigojpjmncclaaaSumA
import Derived.Lib.ItoaWalk
namespace Go.Proofs.Ytigojpjmncclaaa
open Go.RowKit

/-- The sum that is taken, what stays, the error's number. -/
def SumPost (b : Nat) (w : World) (r : ByteArray × ByteArray × Int) (en : Ending) (w' : World) : Prop :=
  en = .returned (.agg (cellsOf (sum32 r.1))) ∧ Rd w' b r.2.1 r.2.2 ∧ w.grownBy w' (some b)

set_option maxRecDepth 100000 in
set_option maxHeartbeats 400000 in
theorem rsum_any (b : Nat) (s : ByteArray) (e : Int) (w : World) (hs : s.size ≤ maxLen) (h : Rd w b s e) :
    Calls Try.prog 24 #[.pointer (some ⟨b, 0, none⟩)] w fun en w' => SumPost b w (takeN 32 s e) en w' := by
  have hbl := h.lt
  have H := Lib.hid h
  clear h
  generalize ht : takeN 32 s e = t
  have HT := Lib.hid ht
  clear ht
  go_enter Try.func24, Try.ntmps24
  go_wp2_with fail
  go_name_world W hW
  have hb : Rd W b s e := by rw [← hW]; exact (H.out.alloc _).alloc _
  have hz0 : Has W w.heap.size 25 (cellsOf zeros) := by rw [← hW]; exact (made_zeros_at w _ rfl).alloc _
  have hz1 : Has W (w.heap.size + 1) 25 (cellsOf zeros) := by rw [← hW]; exact made_zeros_at _ _ (by simp)
  have hT : Turn (fun k => w.heap.size ≤ k) w W := by rw [← hW]; exact ((Turn.refl _ w).alloc _).alloc _
  have HB := Lib.hid hb
  have HZ0 := Lib.hid hz0
  have HZ1 := Lib.hid hz1
  clear hb hz0 hz1 hW H
  have HC : Hid (∀ w', w'.heap = W.heap → Calls Try.prog 30 #[.pointer (some ⟨b, 0, none⟩), .int .i64 32] w' fun en w'' => TakePost b w' t en w'') := fun w' hw' => by
    have := take_any b 32 s e w' hs (HB.out.keep (by rw [hw'])) (by omega)
    rw [HT.out] at this
    exact this
  go_region_law (first
    | (refine step_call rfl 30 Try.f30 Try.func30 (by kernel_rfl) (by kernel_rfl) _ _ rfl #[.pointer (some ⟨b, 0, none⟩), .int .i64 32] (by simp [Act.eval, Act.put]) (by exact HC.out _ rfl) ?_; rintro en w1 ⟨rfl, h1, g1⟩; have z1 := Lib.hid (HZ1.out.drew.grown g1 (by simp; omega)); have z0 := Lib.hid (HZ0.out.drew.grown g1 (by simp; omega)); have H1 := Lib.hid h1; clear h1; refine ⟨_, rfl, ?_⟩)
    | (refine step_copy_str rfl (.tmp 4) (.tmp 6) 27 9 rfl 5 Try.underlying27 Try.infoB1 (w.heap.size + 1) 32 t.1 zeros (by simp [Act.eval, zeros_length]) (by simp [Act.eval]) 25 z1.out ?_; intro w2 h2 t2; have K1 := Lib.hid h2; have K0 := Lib.hid (z0.out.turn t2 (by omega)); have HR := Lib.hid (H1.out.turn t2 (by omega)); clear h2))
  have TW : Turn (fun k => k = b ∨ w.heap.size ≤ k) w w2 := ((hT.drew.more (fun _ _ h => .inr h)).grown g1 (fun j hj _ => .inl (by injection hj with hj; exact hj.symm))).trans t2 (fun j hj e => .inr (by omega))
  clear g1 t2 hT z1 z0 H1 HC HZ0 HZ1 HB
  go_wp2_with (first | ((with_reducible refine at_op 8 ?_); refine wpList_load_arr (o := ⟨some 8, _, _, _, _, _⟩) rfl 25 (.tmp 3) rfl (w.heap.size + 1) rfl 25 (sum32 t.1) 5 32 K1.out Try.underlying25 Try.infoSum (sum32_length t.1) ?_) | ((with_reducible refine at_store (.tmp 2) ?_); refine wpList_store_arr (o := ⟨none, _, _, _, _, _⟩) rfl 25 (.tmp 2) (.tmp 8) rfl w.heap.size (sum32 t.1) zeros rfl rfl 25 K0.out 32 Try.infoSum zeros_length (sum32_length t.1) ?_))
  intro w3 h3 t3
  have TX := TW.trans t3 (fun j hj e => .inr (by omega))
  have H3 := Lib.hid h3
  have HR3 := Lib.hid (HR.out.turn t3 (by omega))
  clear h3 t3 TW K1 K0 HR
  go_wp2_with fail
  refine bodyPost_ret (v := .agg (cellsOf (sum32 t.1))) (results_cell_row rfl _ _ w.heap.size 25 _ _ _ rfl H3.out Try.underlying25 rfl (by rw [Try.infoSum, cellsOf_size, sum32_length])) rfl ⟨rfl, HR3.out, ?_⟩
  exact ⟨TX.os, TX.tape, TX.output, TX.size, fun k hk hne => TX.block k hk (fun h => by
    rcases h with h | h
    · exact hne (by rw [h])
    · omega)⟩

end Go.Proofs.Ytigojpjmncclaaa
