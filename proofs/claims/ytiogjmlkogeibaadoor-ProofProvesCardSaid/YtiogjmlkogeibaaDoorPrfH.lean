/- proof: elder, of an elder head over some leaves. -/
import Derived.Test.YtiogjmlkogeibaaDoorPrfG
namespace Go.Proofs.YtiogjmlkogeibaaDoor.prf
open Go Go.RowKit Go.Proofs.YtiogjmlkogeibaaDoor.dig

set_option maxRecDepth 100000 in
set_option maxHeartbeats 2000000 in
theorem elder_more {old root t1 t2 : List UInt8} {tb : Bool} (ho : old.length = 32) (hr : root.length = 32) (ht1 : t1.length = 32) (ht2 : t2.length = 32) (m n : Int) (hm : m ≠ 0) (hmn : m ≠ n) (a : Option Addr) (l c : Nat) (w : World)
    (hb : ∀ V, Below w.heap.size w V → Calls Tryd.prog 37 #[.agg (headC m old), .int .i64 0, .int .i64 n, .slice a l c] V (BothPost V (t1, t2, tb))) :
    Calls Tryd.prog 23 #[.agg (headC m old), .agg (headC n root), .slice a l c] w fun en w' => en = .returned (.bool (tb && (t1 == old) && (t2 == root))) ∧ Below w.heap.size w w' := by
  have HO := Lib.hid ho
  have HRT := Lib.hid hr
  have HT1 := Lib.hid ht1
  have HT2 := Lib.hid ht2
  have HB := Lib.hid hb
  have q1 : ∀ w, (binOp .eql 27 (.agg (cellsOf t1)) (.agg (cellsOf old))).run Tryd.prog w = .ok (.bool (t1 == old)) w := run_eql_sum t1 old ht1 ho
  have q2 : ∀ w, (binOp .eql 27 (.agg (cellsOf t2)) (.agg (cellsOf root))).run Tryd.prog w = .ok (.bool (t2 == root)) w := run_eql_sum t2 root ht2 hr
  obtain ⟨b1, hb1⟩ : ∃ b, (t1 == old) = b := ⟨_, rfl⟩
  obtain ⟨b2, hb2⟩ : ∃ b, (t2 == root) = b := ⟨_, rfl⟩
  rw [hb1] at q1
  rw [hb2] at q2
  rw [hb1, hb2]
  have n0 : (m == n) = false := by rw [beq_eq_false_iff_ne]; exact hmn
  have n1 : (m == 0) = false := by rw [beq_eq_false_iff_ne]; exact hm
  clear ho hr ht1 ht2 hb hb1 hb2
  have key : tb = false ∨ (tb = true ∧ b1 = false) ∨ (tb = true ∧ b1 = true) := by cases tb <;> cases b1 <;> simp
  rcases key with rfl | ⟨rfl, rfl⟩ | ⟨rfl, rfl⟩
  all_goals
    have c0 : ∀ A, ((w.alloc (.cells (headC m old) 33)).alloc A).cell? ⟨w.heap.size, 0, none⟩ = some (.int .i64 m) := fun A => Has.num ((made_at _ _ rfl).alloc A)
    have c1 : ∀ A, ((w.alloc A).alloc (.cells (headC n root) 33)).cell? ⟨w.heap.size + 1, 0, none⟩ = some (.int .i64 n) := fun A => Has.num (made_at _ _ (by simp))
    go_enter Tryd.func23, Tryd.ntmps23
    go_wp2_with (first
      | ((with_reducible refine at_op 38 ?_); refine wpList_load_row (o := ⟨some 38, _, _, _, _, _⟩) rfl 33 _ rfl w.heap.size rfl 33 (headC m old) (0, 0) _ ((made_at _ _ rfl).alloc _) Tryd.underlying33 rfl (by rw [headC_size, HO.out]; kernel_rfl) ?_)
      | fail)
    refine callsName (fun W hW => ?_)
    have B0 : Hid (Below w.heap.size w W ∧ Has W w.heap.size 33 (headC m old) ∧ Has W (w.heap.size + 1) 33 (headC n root)) := by rw [← hW]; exact Lib.hid ⟨((Below.refl _ _).alloc (Nat.le_refl _) _).alloc (by simp) _, (made_at _ _ rfl).alloc _, made_at _ _ (by simp)⟩
    clear hW c0 c1
    refine (HB.out W B0.out.1).mono ?_
    rintro en w1 ⟨rfl, b1'⟩
    have B1 : Hid (Below w.heap.size w w1 ∧ Has w1 w.heap.size 33 (headC m old) ∧ Has w1 (w.heap.size + 1) 33 (headC n root)) := Lib.hid ⟨B0.out.1.trans (b1'.mono B0.out.1.size), B0.out.2.1.below b1' B0.out.2.1.lt, B0.out.2.2.below b1' B0.out.2.2.lt⟩
    clear B0 b1' HB
    go_wp2_with (first
      | ((with_reducible refine at_store (.tmp 7) ?_); refine wpList_store_arr (o := ⟨none, _, _, _, _, _⟩) rfl 27 _ _ rfl w1.heap.size t1 Z rfl rfl _ ((made_at _ _ rfl).alloc _) 32 (by kernel_rfl) Z_len HT1.out ?_; intro W2 HW2 TW2
         (have B2 : Hid (Below w.heap.size w W2 ∧ Has W2 w.heap.size 33 (headC m old) ∧ Has W2 (w.heap.size + 1) 33 (headC n root) ∧ Has W2 w1.heap.size 27 (cellsOf t1) ∧ Has W2 (w1.heap.size + 1) 27 (cellsOf Z)) := Lib.hid (by
           have b2 : Below w1.heap.size w1 W2 := (((Below.refl _ _).alloc (Nat.le_refl _) _).alloc (by simp) _).trans (TW2.below (by simp; omega) (fun j hj e => by omega))
           exact ⟨B1.out.1.trans (b2.mono B1.out.1.size), B1.out.2.1.below b2 B1.out.2.1.lt, B1.out.2.2.below b2 B1.out.2.2.lt, HW2, (made_at _ _ (by simp)).turn TW2 (by omega)⟩))
         (clear TW2 HW2))
      | ((with_reducible refine at_store (.tmp 8) ?_); refine wpList_store_arr (o := ⟨none, _, _, _, _, _⟩) rfl 27 _ _ rfl (w1.heap.size + 1) t2 Z rfl rfl _ B2.out.2.2.2.2 32 (by kernel_rfl) Z_len HT2.out ?_; intro W3 HW3 TW3
         (have B3 : Hid (Below w.heap.size w W3 ∧ Has W3 w.heap.size 33 (headC m old) ∧ Has W3 (w.heap.size + 1) 33 (headC n root) ∧ Has W3 w1.heap.size 27 (cellsOf t1) ∧ Has W3 (w1.heap.size + 1) 27 (cellsOf t2)) := Lib.hid (by
           have l1 := B1.out.2.2.lt
           have l2 := B1.out.2.1.lt
           have l3 := B2.out.2.2.2.1.lt
           exact ⟨B2.out.1.trans (TW3.below B2.out.1.size (fun j hj e => by omega)), B2.out.2.1.turn TW3 (by omega), B2.out.2.2.1.turn TW3 (by omega), B2.out.2.2.2.1.turn TW3 (by omega), HW3⟩))
         (clear TW3 HW3 B2))
      | ((with_reducible refine at_opg 48 ?_); refine wpList_load_if (by rfl) 27 _ rfl (.pointer (some ⟨w1.heap.size, 0, none⟩)) rfl (Has.load_sum B3.out.2.2.2.1 HT1.out) ?_)
      | ((with_reducible refine at_opg 50 ?_); refine wpList_load_if (by rfl) 27 _ rfl (.pointer (some ⟨w.heap.size, 1, none⟩)) rfl (Has.load_root B3.out.2.1 HO.out) ?_)
      | ((with_reducible refine at_opg 54 ?_); refine wpList_load_if (by rfl) 27 _ rfl (.pointer (some ⟨w1.heap.size + 1, 0, none⟩)) rfl (Has.load_sum B3.out.2.2.2.2 HT2.out) ?_)
      | ((with_reducible refine at_opg 56 ?_); refine wpList_load_if (by rfl) 27 _ rfl (.pointer (some ⟨w.heap.size + 1, 1, none⟩)) rfl (Has.load_root B3.out.2.2.1 HRT.out) ?_)
      | fail)
    go_ret
    exact ⟨rfl, B3.out.1⟩
end Go.Proofs.YtiogjmlkogeibaaDoor.prf
