/- proof: bothRoots, the upper half. -/
import Derived.Test.YtiogjmlkogeibaaDoorPrfC
namespace Go.Proofs.YtiogjmlkogeibaaDoor.prf
open Go Go.RowKit Go.Proofs.YtiogjmlkogeibaaDoor.dig



set_option maxRecDepth 100000 in
set_option maxHeartbeats 4000000 in
theorem both_upper {o : List UInt8} (ho : o.length = 32) (N f n m k : Nat) (hk : k = half n) (hN : N = f + m) (hn : n ≤ 1000000) (hf : f ≤ 1000000) (hmn : m ≠ n) (hm : m ≤ n) (h2 : 2 ≤ n) (hmk : ¬ m ≤ k) (s : List UInt8) (r : List (List UInt8)) (a : Option Addr) (c : Nat) (t1 t2 : List UInt8) (tb : Bool) (ht1 : t1.length = 32) (ht2 : t2.length = 32) (w : World) (hR : Rk w) (hS : Sms w (.slice a (s :: r).length c) (s :: r))
    (ih : ∀ V, Rk V → Sms V (.slice a r.length c) r → Calls Tryd.prog 37 #[.agg (headC N o), .int .i64 ((f + k : Nat) : Int), .int .i64 ((n - k : Nat) : Int), .slice a r.length c] V (BothPost V (t1, t2, tb))) :
    Calls Tryd.prog 37 #[.agg (headC N o), .int .i64 f, .int .i64 n, .slice a (s :: r).length c] w (BothPost w (nodeS s t1, nodeS s t2, tb)) := by
  have HO := Lib.hid ho
  have HS := Lib.hid hS
  have hsl : s.length = 32 := hS.2 s (by simp)
  have HL := Lib.hid hsl
  obtain ⟨q, hq⟩ : ∃ q, q = (s :: r).length := ⟨_, rfl⟩
  rw [← hq]
  have HSP : ∀ V, Hid (Sms V (.slice a (s :: r).length c) (s :: r) → Calls Tryd.prog 34 #[.slice a q c] V fun en w' => en = .returned (.tuple #[.slice a r.length c, .agg (cellsOf s), .bool true]) ∧ Below V.heap.size V w') := fun V => Lib.hid (by rw [hq]; exact split_some)
  have HR0 := Lib.hid hR
  have h1 := half_lt h2
  have h0 := half_pos n
  rw [← hk] at h1 h0
  have HH : ∀ V, Hid (Calls Tryd.prog 35 #[.int .i64 n] V fun en w' => en = .returned (.int .i64 k) ∧ V = w') := fun V => Lib.hid (by rw [hk]; exact half_calls n V h2 (by omega))
  have e1 : (N : Int) - (f : Int) = (m : Int) := by omega
  have e2 : (n : Int) ≤ 1000000 := by omega
  have e3 : (m : Int) ≤ 1000000 := by omega
  have e4 : ((m : Int) == (n : Int)) = false := by rw [beq_eq_false_iff_ne]; omega
  have e5 : ¬ (m : Int) = (n : Int) := by omega
  have e6 : (f : Int) ≤ 1000000 := by omega
  have e7 : (k : Int) ≤ 1000000 := by omega
  have e8 : ¬ (m : Int) ≤ (k : Int) := by omega
  have e9 : (f : Int) + (k : Int) = ((f + k : Nat) : Int) := by omega
  have e10 : (n : Int) - (k : Int) = ((n - k : Nat) : Int) := by omega
  have e11 : f + k ≤ 2000000 := by omega
  have e12 : n - k ≤ 1000000 := by omega
  obtain ⟨f', hf'⟩ : ∃ f', f' = f + k := ⟨_, rfl⟩
  obtain ⟨n', hn'⟩ : ∃ n', n' = n - k := ⟨_, rfl⟩
  rw [← hf'] at ih e9 e11
  rw [← hn'] at ih e10 e12
  have e13 : (f' : Int) ≤ 2000000 := by omega
  have e14 : (n' : Int) ≤ 1000000 := by omega
  have IH := Lib.hid ih
  have HT1 := Lib.hid ht1
  have HT2 := Lib.hid ht2
  have HX1 : Hid ((nodeS s t1).length = 32) := Lib.hid (nodeS_length _ _)
  have HX2 : Hid ((nodeS s t2).length = 32) := Lib.hid (nodeS_length _ _)
  obtain ⟨x1, hx1⟩ : ∃ x1, x1 = nodeS s t1 := ⟨_, rfl⟩
  rw [← hx1] at HX1 ⊢
  obtain ⟨x2, hx2⟩ : ∃ x2, x2 = nodeS s t2 := ⟨_, rfl⟩
  rw [← hx2] at HX2 ⊢
  have HX2E := Lib.hid hx2.symm
  have HX1E := Lib.hid hx1.symm
  clear hN hn hf hmn hm hmk ho hS hsl hq hR hk h2 h1 h0 ih ht1 ht2 hx2 hx1 hf' hn' e11 e12
  have c0 : ∀ A B, (((w.alloc (.cells (headC N o) 33)).alloc A).alloc B).cell? ⟨w.heap.size, 0, none⟩ = some (.int .i64 N) := fun A B => Has.num (((made_at _ _ rfl).alloc A).alloc B)
  go_enter Tryd.func37, Tryd.ntmps37
  go_wp2_with fail
  refine callsName (fun W hW => ?_)
  have B0 : Hid (Bo w N o Z Z W) := by rw [← hW]; exact Lib.hid (Bo.made w N o)
  clear hW c0
  refine ((HSP W).out (HS.out.below B0.out.bel)).mono ?_
  rintro en w1 ⟨rfl, b1⟩
  have B1 := Lib.hid (B0.out.below b1)
  clear B0 b1
  go_wp2_with (first
    | ((with_reducible refine at_store (.tmp 12) ?_); refine wpList_store_arr (o := ⟨none, _, _, _, _, _⟩) rfl 27 _ _ rfl (w1.heap.size) s Z rfl rfl _ (made_at _ _ rfl) 32 (by kernel_rfl) Z_len HL.out ?_; intro W2 HW2 TW2
       (have B2 : Hid (Bo w N o Z Z W2 ∧ Has W2 w1.heap.size 27 (cellsOf s)) := Lib.hid ⟨B1.out.below (((Below.refl _ w1).alloc (Nat.le_refl _) _).trans (TW2.below (by simp) (fun j hj e => by omega))), HW2⟩)
       (have G2 : Hid (w.heap.size + 1 + 1 < w1.heap.size) := Lib.hid (by have := B1.out.r2.lt; omega))
       (clear TW2 HW2 B1))
    | fail)
  refine (HH W2).out.mono ?_
  rintro en w' ⟨rfl, rfl⟩
  go_wp2_with (first
    | ((with_reducible refine at_op 70 ?_); refine wpList_load_row (o := ⟨some 70, _, _, _, _, _⟩) rfl 33 _ rfl w.heap.size rfl 33 (headC N o) (0, 0) _ B2.out.1.hd Tryd.underlying33 rfl (by rw [headC_size, HO.out]; kernel_rfl) ?_)
    | fail)
  refine (IH.out W2 (HR0.out.below B2.out.1.bel) (HS.out.below B2.out.1.bel).cons.1).mono ?_
  rintro en w3 ⟨rfl, b3⟩
  have B3 : Hid (Bo w N o Z Z w3 ∧ Has w3 w1.heap.size 27 (cellsOf s)) := Lib.hid ⟨B2.out.1.below b3, B2.out.2.below b3 B2.out.2.lt⟩
  clear B2 b3
  go_wp2_with (first
    | ((with_reducible refine at_store (.tmp 8) ?_); refine wpList_store_arr (o := ⟨none, _, _, _, _, _⟩) rfl 27 _ _ rfl (w.heap.size + 1) t1 Z rfl rfl _ B3.out.1.r1 32 (by kernel_rfl) Z_len HT1.out ?_; intro W4 HW4 TW4
       (have B4 : Hid (Bo w N o t1 Z W4 ∧ Has W4 w1.heap.size 27 (cellsOf s)) := Lib.hid ⟨B3.out.1.st1 HW4 TW4, B3.out.2.turn TW4 (by have := G2.out; omega)⟩)
       (clear TW4 HW4 B3))
    | ((with_reducible refine at_store (.tmp 9) ?_); refine wpList_store_arr (o := ⟨none, _, _, _, _, _⟩) rfl 27 _ _ rfl (w.heap.size + 1 + 1) t2 Z rfl rfl _ B4.out.1.r2 32 (by kernel_rfl) Z_len HT2.out ?_; intro W5 HW5 TW5
       (have B5 : Hid (Bo w N o t1 t2 W5 ∧ Has W5 w1.heap.size 27 (cellsOf s)) := Lib.hid ⟨B4.out.1.st2 HW5 TW5, B4.out.2.turn TW5 (by have := G2.out; omega)⟩)
       (clear TW5 HW5 B4))
    | fail)
  have C1 : Hid (∀ V, (Bo w N o t1 t2 V ∧ Has V w1.heap.size 27 (cellsOf s)) → Calls Tryd.prog 20 #[.agg (cellsOf s), .agg (cellsOf t1)] V fun en w' => en = .returned (.agg (cellsOf x1)) ∧ (Bo w N o t1 t2 w' ∧ Has w' w1.heap.size 27 (cellsOf s))) := Lib.hid fun V hV =>
    (node_calls s t1 V (HR0.out.below hV.1.bel) HL.out HT1.out).mono (fun _ _ p => ⟨by rw [p.1, HX1E.out], hV.1.below p.2, hV.2.below p.2 hV.2.lt⟩)
  have C2 : Hid (∀ V, (Bo w N o t1 t2 V ∧ Has V w1.heap.size 27 (cellsOf s)) → Calls Tryd.prog 20 #[.agg (cellsOf s), .agg (cellsOf t2)] V fun en w' => en = .returned (.agg (cellsOf x2)) ∧ (Bo w N o t1 t2 w' ∧ Has w' w1.heap.size 27 (cellsOf s))) := Lib.hid fun V hV =>
    (node_calls s t2 V (HR0.out.below hV.1.bel) HL.out HT2.out).mono (fun _ _ p => ⟨by rw [p.1, HX2E.out], hV.1.below p.2, hV.2.below p.2 hV.2.lt⟩)
  refine wp_region_any (by kernel_rfl) ?_
  refine any_take 6 (some 88) (v := .bool tb) rfl rfl (by kernel_rfl) (by kernel_rfl) (by kernel_rfl) (fun _ _ _ h => h) (by kernel_rfl) (fun V => by go_simp) ?_
  simp only [Act.put, List.setIfInBounds_toArray, List.set_cons_zero, List.set_cons_succ]
  refine AnyL.any (S := fun V => Bo w N o t1 t2 V ∧ Has V w1.heap.size 27 (cellsOf s)) (Wr := [7, 8]) _ _ _ _ ⟨B5.out.1.drew, B5.out.2.drew⟩ ?_
  refine AnyL.pure 0 (some 82) (v := .agg (cellsOf s)) rfl rfl (by kernel_rfl) (by kernel_rfl) (by kernel_rfl) (fun _ _ _ h => h) (by kernel_rfl) (by kernel_rfl) (fun V hV => by exact exec_load 27 (.tmp 12) rfl (.pointer (some ⟨w1.heap.size, 0, none⟩)) rfl (run_loadAt_mid V (w1.heap.size) 0 27 (s.map byteV) _ (Has.range hV.2) Tryd.underlying27 rfl (by rw [List.length_map, HL.out]; kernel_rfl))) ?_
  refine AnyL.pure 1 (some 83) (v := .agg (cellsOf t1)) rfl rfl (by kernel_rfl) (by kernel_rfl) (by kernel_rfl) (fun _ _ _ h => h) (by kernel_rfl) (by kernel_rfl) (fun V hV => by exact exec_load 27 (.tmp 8) rfl (.pointer (some ⟨w.heap.size + 1, 0, none⟩)) rfl (run_loadAt_mid V (w.heap.size + 1) 0 27 (t1.map byteV) _ (Has.range hV.1.r1) Tryd.underlying27 rfl (by rw [List.length_map, HT1.out]; kernel_rfl))) ?_
  refine AnyL.pure 3 (some 85) (v := .agg (cellsOf s)) rfl rfl (by kernel_rfl) (by kernel_rfl) (by kernel_rfl) (fun _ _ _ h => h) (by kernel_rfl) (by kernel_rfl) (fun V hV => by exact exec_load 27 (.tmp 12) rfl (.pointer (some ⟨w1.heap.size, 0, none⟩)) rfl (run_loadAt_mid V (w1.heap.size) 0 27 (s.map byteV) _ (Has.range hV.2) Tryd.underlying27 rfl (by rw [List.length_map, HL.out]; kernel_rfl))) ?_
  refine AnyL.pure 4 (some 86) (v := .agg (cellsOf t2)) rfl rfl (by kernel_rfl) (by kernel_rfl) (by kernel_rfl) (fun _ _ _ h => h) (by kernel_rfl) (by kernel_rfl) (fun V hV => by exact exec_load 27 (.tmp 9) rfl (.pointer (some ⟨w.heap.size + 1 + 1, 0, none⟩)) rfl (run_loadAt_mid V (w.heap.size + 1 + 1) 0 27 (t2.map byteV) _ (Has.range hV.1.r2) Tryd.underlying27 rfl (by rw [List.length_map, HT2.out]; kernel_rfl))) ?_
  simp only [Act.put, List.setIfInBounds_toArray, List.set_cons_zero, List.set_cons_succ]
  refine AnyL.call 2 (some 84) (.agg (cellsOf x1)) rfl rfl (by kernel_rfl) (by kernel_rfl) (by kernel_rfl) (fun _ _ _ h => h) (by kernel_rfl) (by kernel_rfl) 20 Tryd.f20 Tryd.func20 (by kernel_rfl) (by kernel_rfl) _ _ rfl #[.agg (cellsOf s), .agg (cellsOf t1)] (by first | (simp [Act.eval]; done) | (simp [Act.eval, Act.put]; done)) (fun V hV => C1.out V hV) ?_
  simp only [Act.put, List.setIfInBounds_toArray, List.set_cons_zero, List.set_cons_succ]
  refine AnyL.call 5 (some 87) (.agg (cellsOf x2)) rfl rfl (by kernel_rfl) (by kernel_rfl) (by kernel_rfl) (fun _ _ _ h => h) (by kernel_rfl) (by kernel_rfl) 20 Tryd.f20 Tryd.func20 (by kernel_rfl) (by kernel_rfl) _ _ rfl #[.agg (cellsOf s), .agg (cellsOf t2)] (by first | (simp [Act.eval]; done) | (simp [Act.eval, Act.put]; done)) (fun V hV => C2.out V hV) ?_
  simp only [Act.put, List.setIfInBounds_toArray, List.set_cons_zero, List.set_cons_succ]
  refine AnyL.late (i := 7) (by kernel_rfl) (by decide) ?_
  intro V hV
  have B6 := Lib.hid hV
  clear hV B5 IH C1 C2
  refine wpOp_wp rfl (by kernel_rfl) ?_
  refine wp_store_row 27 _ _ rfl (w.heap.size + 1) (cellsOf x1) rfl rfl 27 (cellsOf t1) B6.out.1.r1 (by rw [cellsOf_size, HX1.out]; kernel_rfl) (by rw [cellsOf_size, cellsOf_size, HX1.out, HT1.out]) (cellsOf_one _) ?_
  have HW6 : Has (V.setRow (w.heap.size + 1) (cellsOf x1)) (w.heap.size + 1) 27 (cellsOf x1) := B6.out.1.r1.row _
  have TW6 : Turn (fun k => k = w.heap.size + 1) V (V.setRow (w.heap.size + 1) (cellsOf x1)) := turn_row _ _ _
  have B7 := Lib.hid (B6.out.1.st1 HW6 TW6)
  clear HW6 TW6 B6
  generalize V.setRow (w.heap.size + 1) (cellsOf x1) = W6 at *
  simp only [Act.put]
  refine any_one (i := 8) (by kernel_rfl) ?_
  refine wpOp_wp rfl (by kernel_rfl) ?_
  refine wp_store_row 27 _ _ rfl (w.heap.size + 1 + 1) (cellsOf x2) rfl rfl 27 (cellsOf t2) B7.out.r2 (by rw [cellsOf_size, HX2.out]; kernel_rfl) (by rw [cellsOf_size, cellsOf_size, HX2.out, HT2.out]) (cellsOf_one _) ?_
  have HW7 : Has (W6.setRow (w.heap.size + 1 + 1) (cellsOf x2)) (w.heap.size + 1 + 1) 27 (cellsOf x2) := B7.out.r2.row _
  have TW7 : Turn (fun k => k = w.heap.size + 1 + 1) W6 (W6.setRow (w.heap.size + 1 + 1) (cellsOf x2)) := turn_row _ _ _
  have B8 := Lib.hid (B7.out.st2 HW7 TW7)
  clear HW7 TW7 B7
  generalize W6.setRow (w.heap.size + 1 + 1) (cellsOf x2) = W7 at *
  simp only [Act.put]
  refine any_take 9 (some 10) (v := .bool tb) rfl rfl (by kernel_rfl) (by kernel_rfl) (by kernel_rfl) (fun _ _ _ h => h) (by kernel_rfl) (fun V => by go_simp) ?_
  simp only [Act.put]
  refine wpAny_done (by kernel_rfl) ?_ _
  go_wp2_with fail
  exact bodyPost_ret (B8.out.ret rfl HX1.out HX2.out rfl rfl rfl) rfl ⟨rfl, B8.out.bel⟩
end Go.Proofs.YtiogjmlkogeibaaDoor.prf
