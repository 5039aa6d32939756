/- proof: bothRoots, where there is an outermost sum. -/
import Derived.Test.YtiogjmlkogeibaaDoorPrfB
namespace Go.Proofs.YtiogjmlkogeibaaDoor.prf
open Go Go.RowKit Go.Proofs.YtiogjmlkogeibaaDoor.dig


/-- What bothRoots answers. -/
def BothPost (w : World) (t : List UInt8 × List UInt8 × Bool) (en : Ending) (w' : World) : Prop :=
  en = .returned (.tuple #[.agg (cellsOf t.1), .agg (cellsOf t.2.1), .bool t.2.2]) ∧ Below w.heap.size w w'

set_option maxRecDepth 100000 in
set_option maxHeartbeats 2000000 in
theorem both_whole {o : List UInt8} (ho : o.length = 32) (N f n : Nat) (hN : N = f + n) (hn : n ≤ 1000000) (_hf : f ≤ 1000000) (hf0 : f ≠ 0) (s : List UInt8) (r : List (List UInt8)) (a : Option Addr) (c : Nat) (w : World) (hS : Sms w (.slice a (s :: r).length c) (s :: r)) :
    Calls Tryd.prog 37 #[.agg (headC N o), .int .i64 f, .int .i64 n, .slice a (s :: r).length c] w (BothPost w (s, s, r.isEmpty)) := by
  have HO := Lib.hid ho
  have HS := Lib.hid hS
  have hsl : s.length = 32 := hS.2 s (by simp)
  have HL := Lib.hid hsl
  obtain ⟨q, hq⟩ : ∃ q, q = (s :: r).length := ⟨_, rfl⟩
  rw [← hq]
  have HSP : ∀ V, Hid (Sms V (.slice a (s :: r).length c) (s :: r) → Calls Tryd.prog 34 #[.slice a q c] V fun en w' => en = .returned (.tuple #[.slice a r.length c, .agg (cellsOf s), .bool true]) ∧ Below V.heap.size V w') := fun V => Lib.hid (by rw [hq]; exact split_some)
  have e1 : (N : Int) - (f : Int) = (n : Int) := by omega
  have e2 : (n : Int) ≤ 1000000 := by omega
  have e3 : ((f : Int) == 0) = false := by rw [beq_eq_false_iff_ne]; omega
  obtain ⟨e, he⟩ : ∃ e, ((r.length : Int) == 0) = e := ⟨_, rfl⟩
  have HE : Hid (r.isEmpty = e) := Lib.hid (by rw [← he, isEmpty_len])
  clear hN hn hf0 ho hS hsl hq
  have c0 : ∀ A B, (((w.alloc (.cells (headC N o) 33)).alloc A).alloc B).cell? ⟨w.heap.size, 0, none⟩ = some (.int .i64 N) := fun A B => Has.num (((made_at _ _ rfl).alloc A).alloc B)
  go_enter Tryd.func37, Tryd.ntmps37
  go_wp2_with fail
  refine callsName (fun W hW => ?_)
  have B0 : Hid (Bo w N o Z Z W) := by rw [← hW]; exact Lib.hid (Bo.made w N o)
  clear hW c0
  refine ((HSP W).out (HS.out.below B0.out.bel)).mono ?_
  rintro en w1 ⟨rfl, b1⟩
  have B1 := Lib.hid (B0.out.below b1)
  clear B0 b1
  go_wp2_with (first
    | ((with_reducible refine at_store (.tmp 12) ?_); refine wpList_store_arr (o := ⟨none, _, _, _, _, _⟩) rfl 27 _ _ rfl (w1.heap.size) s Z rfl rfl _ (made_at _ _ rfl) 32 (by kernel_rfl) Z_len HL.out ?_; intro W2 HW2 TW2
       (have B2 : Hid (Bo w N o Z Z W2 ∧ Has W2 w1.heap.size 27 (cellsOf s)) := Lib.hid ⟨B1.out.below (((Below.refl _ w1).alloc (Nat.le_refl _) _).trans (TW2.below (by simp) (fun j hj e => by omega))), HW2⟩)
       (have G2 : Hid (w.heap.size + 1 + 1 < w1.heap.size) := Lib.hid (by have := B1.out.r2.lt; omega))
       (clear TW2 HW2 B1))
    | fail)
  obtain ⟨V, hV⟩ : ∃ V, V = W2.drew := ⟨_, rfl⟩
  refine wp_region_held (fun V => V.rangeAt w1.heap.size 0 (s.map byteV)) V hV (by kernel_rfl) ?_
  have BV : Hid (Bo w N o Z Z V ∧ Has V w1.heap.size 27 (cellsOf s)) := by rw [hV]; exact Lib.hid ⟨B2.out.1.drew, B2.out.2.drew⟩
  clear hV B2
  have hS : V.rangeAt w1.heap.size 0 (s.map byteV) := Has.range BV.out.2
  refine held_take 0 (some 45) (v := .agg (cellsOf s)) rfl rfl (by kernel_rfl) (by kernel_rfl) (by kernel_rfl) (fun _ _ _ h => h) (.inl ⟨by kernel_rfl, fun V hV => by exact exec_load 27 (.tmp 12) rfl (.pointer (some ⟨w1.heap.size, 0, none⟩)) rfl (run_loadAt_mid V w1.heap.size 0 27 (s.map byteV) _ (hV) Tryd.underlying27 rfl (by rw [List.length_map, HL.out]; kernel_rfl))⟩) hS ?_
  refine held_take 1 (some 46) (v := .agg (cellsOf s)) rfl rfl (by kernel_rfl) (by kernel_rfl) (by kernel_rfl) (fun _ _ _ h => h) (.inl ⟨by kernel_rfl, fun V hV => by exact exec_load 27 (.tmp 12) rfl (.pointer (some ⟨w1.heap.size, 0, none⟩)) rfl (run_loadAt_mid V w1.heap.size 0 27 (s.map byteV) _ (hV) Tryd.underlying27 rfl (by rw [List.length_map, HL.out]; kernel_rfl))⟩) hS ?_
  refine held_take 2 (some 47) (v := .slice a r.length c) rfl rfl (by kernel_rfl) (by kernel_rfl) (by kernel_rfl) (fun _ _ _ h => h) (.inl ⟨by kernel_rfl, fun V hV => by go_simp⟩) hS ?_
  refine held_take 3 (some 48) (v := .int .i64 (r.length : Nat)) rfl rfl (by kernel_rfl) (by kernel_rfl) (by kernel_rfl) (fun _ _ _ h => h) (.inl ⟨by kernel_rfl, fun V hV => by go_simp⟩) hS ?_
  refine held_take 4 (some 49) (v := .bool e) rfl rfl (by kernel_rfl) (by kernel_rfl) (by kernel_rfl) (fun _ _ _ h => h) (.inl ⟨by kernel_rfl, fun V hV => by go_simp⟩) hS ?_
  simp only [Act.put, List.setIfInBounds_toArray]
  refine held_one (i := 5) (by kernel_rfl) ?_
  refine wpOp_wp rfl (by kernel_rfl) ?_
  refine wp_store_row 27 _ _ rfl (w.heap.size + 1) (cellsOf s) rfl rfl 27 (cellsOf Z) BV.out.1.r1 (by rw [cellsOf_size, HL.out]; kernel_rfl) (by rw [cellsOf_size, cellsOf_size, HL.out, Z_len]) (cellsOf_one _) ?_
  have HW3 : Has (V.setRow (w.heap.size + 1) (cellsOf s)) (w.heap.size + 1) 27 (cellsOf s) := BV.out.1.r1.row _
  have TW3 : Turn (fun k => k = w.heap.size + 1) V (V.setRow (w.heap.size + 1) (cellsOf s)) := turn_row _ _ _
  have B3 : Hid (Bo w N o s Z (V.setRow (w.heap.size + 1) (cellsOf s)) ∧ Has (V.setRow (w.heap.size + 1) (cellsOf s)) w1.heap.size 27 (cellsOf s)) := Lib.hid ⟨BV.out.1.st1 HW3 TW3, BV.out.2.turn TW3 (by have := G2.out; omega)⟩
  clear HW3 TW3 BV
  generalize V.setRow (w.heap.size + 1) (cellsOf s) = W3 at *
  have hS3 : W3.rangeAt w1.heap.size 0 (s.map byteV) := Has.range B3.out.2
  refine ⟨hS3, ?_⟩
  simp only [Act.put]
  refine held_one (i := 6) (by kernel_rfl) ?_
  refine wpOp_wp rfl (by kernel_rfl) ?_
  refine wp_store_row 27 _ _ rfl (w.heap.size + 1 + 1) (cellsOf s) rfl rfl 27 (cellsOf Z) B3.out.1.r2 (by rw [cellsOf_size, HL.out]; kernel_rfl) (by rw [cellsOf_size, cellsOf_size, HL.out, Z_len]) (cellsOf_one _) ?_
  have HW4 : Has (W3.setRow (w.heap.size + 1 + 1) (cellsOf s)) (w.heap.size + 1 + 1) 27 (cellsOf s) := B3.out.1.r2.row _
  have TW4 : Turn (fun k => k = w.heap.size + 1 + 1) W3 (W3.setRow (w.heap.size + 1 + 1) (cellsOf s)) := turn_row _ _ _
  have B4 : Hid (Bo w N o s s (W3.setRow (w.heap.size + 1 + 1) (cellsOf s)) ∧ Has (W3.setRow (w.heap.size + 1 + 1) (cellsOf s)) w1.heap.size 27 (cellsOf s)) := Lib.hid ⟨B3.out.1.st2 HW4 TW4, B3.out.2.turn TW4 (by have := G2.out; omega)⟩
  clear HW4 TW4 B3
  generalize W3.setRow (w.heap.size + 1 + 1) (cellsOf s) = W4 at *
  have hS4 : W4.rangeAt w1.heap.size 0 (s.map byteV) := Has.range B4.out.2
  refine ⟨hS4, ?_⟩
  simp only [Act.put]
  refine held_take 7 (some 10) (v := .bool e) rfl rfl (by kernel_rfl) (by kernel_rfl) (by kernel_rfl) (fun _ _ _ h => h) (.inl ⟨by kernel_rfl, fun V hV => by go_simp⟩) hS4 ?_
  simp only [Act.put]
  refine wpAnyH_done (by kernel_rfl) ?_ _
  go_wp2_with fail
  rw [HE.out]
  exact bodyPost_ret (B4.out.1.ret rfl HL.out HL.out rfl rfl rfl) rfl ⟨rfl, B4.out.1.bel⟩
end Go.Proofs.YtiogjmlkogeibaaDoor.prf
