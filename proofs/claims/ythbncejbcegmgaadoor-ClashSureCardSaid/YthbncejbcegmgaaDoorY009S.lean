/- Texts laid into one: PrfE, PrfF, PrfG, PrfH, PrfI, PrfJ. -/
import Derived.Test.YthbncejbcegmgaaDoorY008S
import Derived.Test.YthbncejbcegmgaaDoorY002
import Derived.Test.YthbncejbcegmgaaDoorY004
import Derived.Test.YthbncejbcegmgaaDoorY006
section
/- proof: bothRoots, the upper half. -/
namespace Go.Proofs.YthbncejbcegmgaaDoor.prf
open Go Go.RowKit Go.Proofs.YthbncejbcegmgaaDoor.dig



set_option maxRecDepth 100000 in
set_option maxHeartbeats 4000000 in
theorem both_upper {o : List UInt8} (ho : o.length = 32) (N f n m k : Nat) (hk : k = half n) (hN : N = f + m) (hn : n ≤ 1000000) (hf : f ≤ 1000000) (hmn : m ≠ n) (hm : m ≤ n) (h2 : 2 ≤ n) (hmk : ¬ m ≤ k) (s : List UInt8) (r : List (List UInt8)) (a : Option Addr) (c : Nat) (t1 t2 : List UInt8) (tb : Bool) (ht1 : t1.length = 32) (ht2 : t2.length = 32) (w : World) (hR : Rk w) (hS : Sms w (.slice a (s :: r).length c) (s :: r))
    (ih : ∀ V, Rk V → Sms V (.slice a r.length c) r → Calls Tryd.prog 63 #[.agg (headC N o), .int .i64 ((f + k : Nat) : Int), .int .i64 ((n - k : Nat) : Int), .slice a r.length c] V (BothPost V (t1, t2, tb))) :
    Calls Tryd.prog 63 #[.agg (headC N o), .int .i64 f, .int .i64 n, .slice a (s :: r).length c] w (BothPost w (nodeS s t1, nodeS s t2, tb)) := by
  have HO := Lib.hid ho
  have HS := Lib.hid hS
  have hsl : s.length = 32 := hS.2 s (by simp)
  have HL := Lib.hid hsl
  obtain ⟨q, hq⟩ : ∃ q, q = (s :: r).length := ⟨_, rfl⟩
  rw [← hq]
  have HSP : ∀ V, Hid (Sms V (.slice a (s :: r).length c) (s :: r) → Calls Tryd.prog 62 #[.slice a q c] V fun en w' => en = .returned (.tuple #[.slice a r.length c, .agg (cellsOf s), .bool true]) ∧ Below V.heap.size V w') := fun V => Lib.hid (by rw [hq]; exact split_some)
  have HR0 := Lib.hid hR
  have h1 := half_lt h2
  have h0 := half_pos n
  rw [← hk] at h1 h0
  have HH : ∀ V, Hid (Calls Tryd.prog 61 #[.int .i64 n] V fun en w' => en = .returned (.int .i64 k) ∧ V = w') := fun V => Lib.hid (by rw [hk]; exact half_calls n V h2 (by omega))
  have e1 : (N : Int) - (f : Int) = (m : Int) := by omega
  have e2 : (n : Int) ≤ 1000000 := by omega
  have e3 : (m : Int) ≤ 1000000 := by omega
  have e4 : ((m : Int) == (n : Int)) = false := by rw [beq_eq_false_iff_ne]; omega
  have e5 : ¬ (m : Int) = (n : Int) := by omega
  have e6 : (f : Int) ≤ 1000000 := by omega
  have e7 : (k : Int) ≤ 1000000 := by omega
  have e8 : ¬ (m : Int) ≤ (k : Int) := by omega
  have e9 : (f : Int) + (k : Int) = ((f + k : Nat) : Int) := by omega
  have e10 : (n : Int) - (k : Int) = ((n - k : Nat) : Int) := by omega
  have e11 : f + k ≤ 2000000 := by omega
  have e12 : n - k ≤ 1000000 := by omega
  obtain ⟨f', hf'⟩ : ∃ f', f' = f + k := ⟨_, rfl⟩
  obtain ⟨n', hn'⟩ : ∃ n', n' = n - k := ⟨_, rfl⟩
  rw [← hf'] at ih e9 e11
  rw [← hn'] at ih e10 e12
  have e13 : (f' : Int) ≤ 2000000 := by omega
  have e14 : (n' : Int) ≤ 1000000 := by omega
  have IH := Lib.hid ih
  have HT1 := Lib.hid ht1
  have HT2 := Lib.hid ht2
  have HX1 : Hid ((nodeS s t1).length = 32) := Lib.hid (nodeS_length _ _)
  have HX2 : Hid ((nodeS s t2).length = 32) := Lib.hid (nodeS_length _ _)
  obtain ⟨x1, hx1⟩ : ∃ x1, x1 = nodeS s t1 := ⟨_, rfl⟩
  rw [← hx1] at HX1 ⊢
  obtain ⟨x2, hx2⟩ : ∃ x2, x2 = nodeS s t2 := ⟨_, rfl⟩
  rw [← hx2] at HX2 ⊢
  have HX2E := Lib.hid hx2.symm
  have HX1E := Lib.hid hx1.symm
  clear hN hn hf hmn hm hmk ho hS hsl hq hR hk h2 h1 h0 ih ht1 ht2 hx2 hx1 hf' hn' e11 e12
  have c0 : ∀ A B, (((w.alloc (.cells (headC N o) 38)).alloc A).alloc B).cell? ⟨w.heap.size, 0, none⟩ = some (.int .i64 N) := fun A B => Has.num (((made_at _ _ rfl).alloc A).alloc B)
  go_enter Tryd.func63, Tryd.ntmps63
  go_wp2_with fail
  refine callsName (fun W hW => ?_)
  have B0 : Hid (Bo w N o Z Z W) := by rw [← hW]; exact Lib.hid (Bo.made w N o)
  clear hW c0
  refine ((HSP W).out (HS.out.below B0.out.bel)).mono ?_
  rintro en w1 ⟨rfl, b1⟩
  have B1 := Lib.hid (B0.out.below b1)
  clear B0 b1
  go_wp2_with (first
    | ((with_reducible refine at_store (.tmp 12) ?_); refine wpList_store_arr (o := ⟨none, _, _, _, _, _⟩) rfl 33 _ _ rfl (w1.heap.size) s Z rfl rfl _ (made_at _ _ rfl) 32 (by kernel_rfl) Z_len HL.out ?_; intro W2 HW2 TW2
       (have B2 : Hid (Bo w N o Z Z W2 ∧ Has W2 w1.heap.size 33 (cellsOf s)) := Lib.hid ⟨B1.out.below (((Below.refl _ w1).alloc (Nat.le_refl _) _).trans (TW2.below (by simp) (fun j hj e => by omega))), HW2⟩)
       (have G2 : Hid (w.heap.size + 1 + 1 < w1.heap.size) := Lib.hid (by have := B1.out.r2.lt; omega))
       (clear TW2 HW2 B1))
    | fail)
  refine (HH W2).out.mono ?_
  rintro en w' ⟨rfl, rfl⟩
  go_wp2_with (first
    | ((with_reducible refine at_op 70 ?_); refine wpList_load_row (o := ⟨some 70, _, _, _, _, _⟩) rfl 38 _ rfl w.heap.size rfl 38 (headC N o) (0, 0) _ B2.out.1.hd Tryd.underlying38 rfl (by rw [headC_size, HO.out]; kernel_rfl) ?_)
    | fail)
  refine (IH.out W2 (HR0.out.below B2.out.1.bel) (HS.out.below B2.out.1.bel).cons.1).mono ?_
  rintro en w3 ⟨rfl, b3⟩
  have B3 : Hid (Bo w N o Z Z w3 ∧ Has w3 w1.heap.size 33 (cellsOf s)) := Lib.hid ⟨B2.out.1.below b3, B2.out.2.below b3 B2.out.2.lt⟩
  clear B2 b3
  go_wp2_with (first
    | ((with_reducible refine at_store (.tmp 8) ?_); refine wpList_store_arr (o := ⟨none, _, _, _, _, _⟩) rfl 33 _ _ rfl (w.heap.size + 1) t1 Z rfl rfl _ B3.out.1.r1 32 (by kernel_rfl) Z_len HT1.out ?_; intro W4 HW4 TW4
       (have B4 : Hid (Bo w N o t1 Z W4 ∧ Has W4 w1.heap.size 33 (cellsOf s)) := Lib.hid ⟨B3.out.1.st1 HW4 TW4, B3.out.2.turn TW4 (by have := G2.out; omega)⟩)
       (clear TW4 HW4 B3))
    | ((with_reducible refine at_store (.tmp 9) ?_); refine wpList_store_arr (o := ⟨none, _, _, _, _, _⟩) rfl 33 _ _ rfl (w.heap.size + 1 + 1) t2 Z rfl rfl _ B4.out.1.r2 32 (by kernel_rfl) Z_len HT2.out ?_; intro W5 HW5 TW5
       (have B5 : Hid (Bo w N o t1 t2 W5 ∧ Has W5 w1.heap.size 33 (cellsOf s)) := Lib.hid ⟨B4.out.1.st2 HW5 TW5, B4.out.2.turn TW5 (by have := G2.out; omega)⟩)
       (clear TW5 HW5 B4))
    | fail)
  have C1 : Hid (∀ V, (Bo w N o t1 t2 V ∧ Has V w1.heap.size 33 (cellsOf s)) → Calls Tryd.prog 57 #[.agg (cellsOf s), .agg (cellsOf t1)] V fun en w' => en = .returned (.agg (cellsOf x1)) ∧ (Bo w N o t1 t2 w' ∧ Has w' w1.heap.size 33 (cellsOf s))) := Lib.hid fun V hV =>
    (node_calls s t1 V (HR0.out.below hV.1.bel) HL.out HT1.out).mono (fun _ _ p => ⟨by rw [p.1, HX1E.out], hV.1.below p.2, hV.2.below p.2 hV.2.lt⟩)
  have C2 : Hid (∀ V, (Bo w N o t1 t2 V ∧ Has V w1.heap.size 33 (cellsOf s)) → Calls Tryd.prog 57 #[.agg (cellsOf s), .agg (cellsOf t2)] V fun en w' => en = .returned (.agg (cellsOf x2)) ∧ (Bo w N o t1 t2 w' ∧ Has w' w1.heap.size 33 (cellsOf s))) := Lib.hid fun V hV =>
    (node_calls s t2 V (HR0.out.below hV.1.bel) HL.out HT2.out).mono (fun _ _ p => ⟨by rw [p.1, HX2E.out], hV.1.below p.2, hV.2.below p.2 hV.2.lt⟩)
  refine wp_region_any (by kernel_rfl) ?_
  refine any_take 6 (some 88) (v := .bool tb) rfl rfl (by kernel_rfl) (by kernel_rfl) (by kernel_rfl) (fun _ _ _ h => h) (by kernel_rfl) (fun V => by go_simp) ?_
  simp only [Act.put, List.setIfInBounds_toArray, List.set_cons_zero, List.set_cons_succ]
  refine AnyL.any (S := fun V => Bo w N o t1 t2 V ∧ Has V w1.heap.size 33 (cellsOf s)) (Wr := [7, 8]) _ _ _ _ ⟨B5.out.1.drew, B5.out.2.drew⟩ ?_
  refine AnyL.pure 0 (some 82) (v := .agg (cellsOf s)) rfl rfl (by kernel_rfl) (by kernel_rfl) (by kernel_rfl) (fun _ _ _ h => h) (by kernel_rfl) (by kernel_rfl) (fun V hV => by exact exec_load 33 (.tmp 12) rfl (.pointer (some ⟨w1.heap.size, 0, none⟩)) rfl (run_loadAt_mid V (w1.heap.size) 0 33 (s.map byteV) _ (Has.range hV.2) Tryd.underlying33 rfl (by rw [List.length_map, HL.out]; kernel_rfl))) ?_
  refine AnyL.pure 1 (some 83) (v := .agg (cellsOf t1)) rfl rfl (by kernel_rfl) (by kernel_rfl) (by kernel_rfl) (fun _ _ _ h => h) (by kernel_rfl) (by kernel_rfl) (fun V hV => by exact exec_load 33 (.tmp 8) rfl (.pointer (some ⟨w.heap.size + 1, 0, none⟩)) rfl (run_loadAt_mid V (w.heap.size + 1) 0 33 (t1.map byteV) _ (Has.range hV.1.r1) Tryd.underlying33 rfl (by rw [List.length_map, HT1.out]; kernel_rfl))) ?_
  refine AnyL.pure 3 (some 85) (v := .agg (cellsOf s)) rfl rfl (by kernel_rfl) (by kernel_rfl) (by kernel_rfl) (fun _ _ _ h => h) (by kernel_rfl) (by kernel_rfl) (fun V hV => by exact exec_load 33 (.tmp 12) rfl (.pointer (some ⟨w1.heap.size, 0, none⟩)) rfl (run_loadAt_mid V (w1.heap.size) 0 33 (s.map byteV) _ (Has.range hV.2) Tryd.underlying33 rfl (by rw [List.length_map, HL.out]; kernel_rfl))) ?_
  refine AnyL.pure 4 (some 86) (v := .agg (cellsOf t2)) rfl rfl (by kernel_rfl) (by kernel_rfl) (by kernel_rfl) (fun _ _ _ h => h) (by kernel_rfl) (by kernel_rfl) (fun V hV => by exact exec_load 33 (.tmp 9) rfl (.pointer (some ⟨w.heap.size + 1 + 1, 0, none⟩)) rfl (run_loadAt_mid V (w.heap.size + 1 + 1) 0 33 (t2.map byteV) _ (Has.range hV.1.r2) Tryd.underlying33 rfl (by rw [List.length_map, HT2.out]; kernel_rfl))) ?_
  simp only [Act.put, List.setIfInBounds_toArray, List.set_cons_zero, List.set_cons_succ]
  refine AnyL.call 2 (some 84) (.agg (cellsOf x1)) rfl rfl (by kernel_rfl) (by kernel_rfl) (by kernel_rfl) (fun _ _ _ h => h) (by kernel_rfl) (by kernel_rfl) 57 Tryd.f57 Tryd.func57 (by kernel_rfl) (by kernel_rfl) _ _ rfl #[.agg (cellsOf s), .agg (cellsOf t1)] (by first | (simp [Act.eval]; done) | (simp [Act.eval, Act.put]; done)) (fun V hV => C1.out V hV) ?_
  simp only [Act.put, List.setIfInBounds_toArray, List.set_cons_zero, List.set_cons_succ]
  refine AnyL.call 5 (some 87) (.agg (cellsOf x2)) rfl rfl (by kernel_rfl) (by kernel_rfl) (by kernel_rfl) (fun _ _ _ h => h) (by kernel_rfl) (by kernel_rfl) 57 Tryd.f57 Tryd.func57 (by kernel_rfl) (by kernel_rfl) _ _ rfl #[.agg (cellsOf s), .agg (cellsOf t2)] (by first | (simp [Act.eval]; done) | (simp [Act.eval, Act.put]; done)) (fun V hV => C2.out V hV) ?_
  simp only [Act.put, List.setIfInBounds_toArray, List.set_cons_zero, List.set_cons_succ]
  refine AnyL.late (i := 7) (by kernel_rfl) (by decide) ?_
  intro V hV
  have B6 := Lib.hid hV
  clear hV B5 IH C1 C2
  refine wpOp_wp rfl (by kernel_rfl) ?_
  refine wp_store_row 33 _ _ rfl (w.heap.size + 1) (cellsOf x1) rfl rfl 33 (cellsOf t1) B6.out.1.r1 (by rw [cellsOf_size, HX1.out]; kernel_rfl) (by rw [cellsOf_size, cellsOf_size, HX1.out, HT1.out]) (cellsOf_one _) ?_
  have HW6 : Has (V.setRow (w.heap.size + 1) (cellsOf x1)) (w.heap.size + 1) 33 (cellsOf x1) := B6.out.1.r1.row _
  have TW6 : Turn (fun k => k = w.heap.size + 1) V (V.setRow (w.heap.size + 1) (cellsOf x1)) := turn_row _ _ _
  have B7 := Lib.hid (B6.out.1.st1 HW6 TW6)
  clear HW6 TW6 B6
  generalize V.setRow (w.heap.size + 1) (cellsOf x1) = W6 at *
  simp only [Act.put]
  refine any_one (i := 8) (by kernel_rfl) ?_
  refine wpOp_wp rfl (by kernel_rfl) ?_
  refine wp_store_row 33 _ _ rfl (w.heap.size + 1 + 1) (cellsOf x2) rfl rfl 33 (cellsOf t2) B7.out.r2 (by rw [cellsOf_size, HX2.out]; kernel_rfl) (by rw [cellsOf_size, cellsOf_size, HX2.out, HT2.out]) (cellsOf_one _) ?_
  have HW7 : Has (W6.setRow (w.heap.size + 1 + 1) (cellsOf x2)) (w.heap.size + 1 + 1) 33 (cellsOf x2) := B7.out.r2.row _
  have TW7 : Turn (fun k => k = w.heap.size + 1 + 1) W6 (W6.setRow (w.heap.size + 1 + 1) (cellsOf x2)) := turn_row _ _ _
  have B8 := Lib.hid (B7.out.st2 HW7 TW7)
  clear HW7 TW7 B7
  generalize W6.setRow (w.heap.size + 1 + 1) (cellsOf x2) = W7 at *
  simp only [Act.put]
  refine any_take 9 (some 10) (v := .bool tb) rfl rfl (by kernel_rfl) (by kernel_rfl) (by kernel_rfl) (fun _ _ _ h => h) (by kernel_rfl) (fun V => by go_simp) ?_
  simp only [Act.put]
  refine wpAny_done (by kernel_rfl) ?_ _
  go_wp2_with fail
  exact bodyPost_ret (B8.out.ret rfl HX1.out HX2.out rfl rfl rfl) rfl ⟨rfl, B8.out.bel⟩
end Go.Proofs.YthbncejbcegmgaaDoor.prf
end

section
/- proof: bothRoots whole. -/
namespace Go.Proofs.YthbncejbcegmgaaDoor.prf
open Go Go.RowKit Go.Proofs.YthbncejbcegmgaaDoor.dig

theorem both_calls {o : List UInt8} (ho : o.length = 32) : ∀ (r : List (List UInt8)) (N f m n : Nat) (a : Option Addr) (c : Nat) (w : World), Rk w → Sms w (.slice a r.length c) r → N = f + m → 1 ≤ m → m ≤ n → n ≤ 1000000 → f + n ≤ 1000000 →
    Calls Tryd.prog 63 #[.agg (headC N o), .int .i64 f, .int .i64 n, .slice a r.length c] w (BothPost w (both Z o r (decide (f = 0)) m n)) := by
  intro r
  induction r with
  | nil =>
    intro N f m n a c w hR hS hN hm0 hm hn hf
    by_cases h : m = n ∧ f = 0
    · obtain ⟨rfl, rfl⟩ := h
      have e : both Z o [] (decide ((0 : Nat) = 0)) m m = (o, o, true) := both_known Z o [] m
      rw [e]
      obtain rfl : N = m := by omega
      exact both_first ho N hn a 0 c w true rfl
    · rw [both_nil _ _ _ (fun e => h ⟨e.1, of_decide_eq_true e.2⟩)]
      exact both_none o N f n m hN hn (by omega) hm h a c w
  | cons s r ih =>
    intro N f m n a c w hR hS hN hm0 hm hn hf
    by_cases h : m = n
    · subst h
      by_cases h0 : f = 0
      · subst h0
        have e : both Z o (s :: r) (decide ((0 : Nat) = 0)) m m = (o, o, false) := both_known Z o (s :: r) m
        rw [e]
        obtain rfl : N = m := by omega
        exact both_first ho N hn a _ c w false (isEmpty_len (s :: r))
      · rw [decide_eq_false h0, both_all]
        exact both_whole ho N f m hN hn (by omega) h0 s r a c w hS
    · have h2 : 2 ≤ n := by omega
      have h1 := half_lt h2
      have hl := fun x (hx : x ∈ r) => hS.2 x (by simp [hx])
      by_cases hk : m ≤ half n
      · obtain ⟨l1, l2⟩ := both_len Z_len ho r (decide (f = 0)) m (half n) hl
        rw [both_left _ _ _ _ _ h hk]
        exact both_lower ho N f n m (half n) rfl hN hn (by omega) h hm h2 hk s r a c _ _ _ l1 l2 w hR hS (fun V hR' hS' => ih N f m (half n) a c V hR' hS' hN hm0 hk (by omega) (by omega))
      · obtain ⟨l1, l2⟩ := both_len Z_len ho r false (m - half n) (n - half n) hl
        rw [both_right _ _ _ _ _ h hk]
        exact both_upper ho N f n m (half n) rfl hN hn (by omega) h hm h2 hk s r a c _ _ _ l1 l2 w hR hS (fun V hR' hS' => by
          have h0 := half_pos n
          have := ih N (f + half n) (m - half n) (n - half n) a c V hR' hS' (by omega) (by omega) (by omega) (by omega) (by omega)
          rwa [decide_eq_false (by omega)] at this)
end Go.Proofs.YthbncejbcegmgaaDoor.prf
end

section
/- proof: elder. -/
namespace Go.Proofs.YthbncejbcegmgaaDoor.prf
open Go Go.RowKit Go.Proofs.YthbncejbcegmgaaDoor.dig

theorem Has.load_sum {w : World} {g : Nat} {o : List UInt8} (h : Has w g 33 (cellsOf o)) (ho : o.length = 32) : (Instr.loadAt 33 (.pointer (some ⟨g, 0, none⟩))).run Tryd.prog w = .ok (.agg (cellsOf o)) w :=
  run_loadAt_mid w g 0 33 (o.map byteV) _ (Has.range h) Tryd.underlying33 rfl (by rw [List.length_map, ho]; kernel_rfl)

set_option maxRecDepth 100000 in
set_option maxHeartbeats 1000000 in
theorem elder_same {old root : List UInt8} (ho : old.length = 32) (hr : root.length = 32) (n : Int) (a : Option Addr) (l c : Nat) (w : World) (e : Bool) (he : ((l : Int) == 0) = e) :
    Calls Tryd.prog 42 #[.agg (headC n old), .agg (headC n root), .slice a l c] w fun en w' => en = .returned (.bool (e && (old == root))) ∧ Below w.heap.size w w' := by
  have HO := Lib.hid ho
  have HRT := Lib.hid hr
  have hq : ∀ w, (binOp .eql 33 (.agg (cellsOf old)) (.agg (cellsOf root))).run Tryd.prog w = .ok (.bool (old == root)) w := run_eql_sum old root ho hr
  clear ho hr
  have c0 : ∀ A, ((w.alloc (.cells (headC n old) 38)).alloc A).cell? ⟨w.heap.size, 0, none⟩ = some (.int .i64 n) := fun A => Has.num ((made_at _ _ rfl).alloc A)
  have c1 : ∀ A, ((w.alloc A).alloc (.cells (headC n root) 38)).cell? ⟨w.heap.size + 1, 0, none⟩ = some (.int .i64 n) := fun A => Has.num (made_at _ _ (by simp))
  cases e
  · go_enter Tryd.func42, Tryd.ntmps42
    go_wp2_with fail
    go_ret
    exact ⟨rfl, ((Below.refl _ _).alloc (Nat.le_refl _) _).alloc (by simp) _⟩
  · go_enter Tryd.func42, Tryd.ntmps42
    go_wp2_with (first
      | ((with_reducible refine at_opg 20 ?_); refine wpList_load_if (by kernel_rfl) 33 _ rfl (.pointer (some ⟨w.heap.size, 1, none⟩)) rfl (Has.load_root ((made_at _ _ rfl).alloc _) HO.out) ?_)
      | ((with_reducible refine at_opg 22 ?_); refine wpList_load_if (by kernel_rfl) 33 _ rfl (.pointer (some ⟨w.heap.size + 1, 1, none⟩)) rfl (Has.load_root (made_at _ _ (by simp)) HRT.out) ?_)
      | fail)
    go_ret
    exact ⟨rfl, ((Below.refl _ _).alloc (Nat.le_refl _) _).alloc (by simp) _⟩

set_option maxRecDepth 100000 in
set_option maxHeartbeats 2000000 in
theorem elder_zero {old root : List UInt8} (ho : old.length = 32) (n : Int) (hn : n ≠ 0) (a : Option Addr) (l c : Nat) (w : World) (hR : Rk w) (e : Bool) (he : ((l : Int) == 0) = e) :
    Calls Tryd.prog 42 #[.agg (headC 0 old), .agg (headC n root), .slice a l c] w fun en w' => en = .returned (.bool (e && (old == sum []))) ∧ Below w.heap.size w w' := by
  have HO := Lib.hid ho
  have HR := Lib.hid hR
  have n0 : ((0 : Int) == n) = false := by rw [beq_eq_false_iff_ne]; omega
  have n1 : ¬ (0 : Int) = n := by omega
  have hq : ∀ w, (binOp .eql 33 (.agg (cellsOf old)) (.agg (cellsOf (sum [])))).run Tryd.prog w = .ok (.bool (old == sum [])) w := run_eql_sum old (sum []) ho (sum_length _)
  obtain ⟨z, hz⟩ : ∃ z, z = sum [] := ⟨_, rfl⟩
  have HZ := Lib.hid hz
  rw [← hz] at hq ⊢
  clear ho hR hn hz
  have c0 : ∀ A, ((w.alloc (.cells (headC 0 old) 38)).alloc A).cell? ⟨w.heap.size, 0, none⟩ = some (.int .i64 0) := fun A => Has.num ((made_at _ _ rfl).alloc A)
  have c1 : ∀ A, ((w.alloc A).alloc (.cells (headC n root) 38)).cell? ⟨w.heap.size + 1, 0, none⟩ = some (.int .i64 n) := fun A => Has.num (made_at _ _ (by simp))
  go_enter Tryd.func42, Tryd.ntmps42
  go_wp2_with fail
  go_name_world W hW
  have B0 : Hid (Below w.heap.size w W ∧ Has W w.heap.size 38 (headC 0 old)) := by rw [← hW]; exact Lib.hid ⟨((Below.refl _ _).alloc (Nat.le_refl _) _).alloc (by simp) _, (made_at _ _ rfl).alloc _⟩
  clear hW c0 c1
  have C : Hid (∀ V, (Below w.heap.size w V ∧ Has V w.heap.size 38 (headC 0 old)) → Calls Tryd.prog 22 #[.string ⟨#[]⟩] V fun en w' => en = .returned (.agg (cellsOf z)) ∧ (Below w.heap.size w w' ∧ Has w' w.heap.size 38 (headC 0 old))) := Lib.hid fun V hV =>
    (dig.of_calls ⟨#[]⟩ V (HR.out.below hV.1) (by decide)).mono fun _ _ p => ⟨by rw [p.1, HZ.out], hV.1.trans (p.2.mono hV.1.size), hV.2.below p.2 hV.2.lt⟩
  cases e
  · refine wp_region_S (S := fun V => Below w.heap.size w V ∧ Has V w.heap.size 38 (headC 0 old)) (by kernel_rfl) ⟨B0.out.1.drew, B0.out.2.drew⟩ ?_
    refine AnyS.pure 0 (some 28) rfl rfl (by kernel_rfl) (by kernel_rfl) (by kernel_rfl) (fun _ _ _ h => h) (by kernel_rfl) (fun _ _ => rfl) ?_
    refine AnyS.pure 1 (some 29) (v := .int .i64 l) rfl rfl (by kernel_rfl) (by kernel_rfl) (by kernel_rfl) (fun _ _ _ h => h) (by kernel_rfl) (fun V _ => by go_simp) ?_
    refine AnyS.pure 2 (some 30) (v := .bool false) rfl rfl (by kernel_rfl) (by kernel_rfl) (by kernel_rfl) (fun _ _ _ h => h) (by kernel_rfl) (fun V _ => by go_simp) ?_
    refine AnyS.pure 3 (some 31) rfl rfl (by kernel_rfl) (by kernel_rfl) (by kernel_rfl) (fun _ _ _ h => h) (by kernel_rfl) (fun _ _ => rfl) ?_
    refine AnyS.skip 4 (some 32) rfl rfl (by kernel_rfl) (by kernel_rfl) (by kernel_rfl) (fun _ _ _ h => h) (by kernel_rfl) ?_
    refine AnyS.skip 5 (some 33) rfl rfl (by kernel_rfl) (by kernel_rfl) (by kernel_rfl) (fun _ _ _ h => h) (by kernel_rfl) ?_
    refine AnyS.skip 6 (some 34) rfl rfl (by kernel_rfl) (by kernel_rfl) (by kernel_rfl) (fun _ _ _ h => h) (by kernel_rfl) ?_
    refine AnyS.skip 7 (some 35) rfl rfl (by kernel_rfl) (by kernel_rfl) (by kernel_rfl) (fun _ _ _ h => h) (by kernel_rfl) ?_
    simp only [Act.put, List.setIfInBounds_toArray, List.set_cons_zero, List.set_cons_succ]
    refine AnyS.pure 8 (some 36) (v := .bool false) rfl rfl (by kernel_rfl) (by kernel_rfl) (by kernel_rfl) (fun _ _ _ h => h) (by kernel_rfl) (fun V _ => by go_simp) ?_
    refine AnyS.pure 9 (some 6) rfl rfl (by kernel_rfl) (by kernel_rfl) (by kernel_rfl) (fun _ _ _ h => h) (by kernel_rfl) (fun _ _ => rfl) ?_
    simp only [Act.put]
    refine AnyS.done (by kernel_rfl) (fun V hV => ?_) _
    have HV := Lib.hid hV
    clear hV B0 C
    go_wp2_with fail
    go_ret
    exact ⟨rfl, HV.out.1⟩
  · refine wp_region_S (S := fun V => Below w.heap.size w V ∧ Has V w.heap.size 38 (headC 0 old)) (by kernel_rfl) ⟨B0.out.1.drew, B0.out.2.drew⟩ ?_
    refine AnyS.pure 0 (some 28) rfl rfl (by kernel_rfl) (by kernel_rfl) (by kernel_rfl) (fun _ _ _ h => h) (by kernel_rfl) (fun _ _ => rfl) ?_
    refine AnyS.pure 1 (some 29) (v := .int .i64 l) rfl rfl (by kernel_rfl) (by kernel_rfl) (by kernel_rfl) (fun _ _ _ h => h) (by kernel_rfl) (fun V _ => by go_simp) ?_
    refine AnyS.pure 2 (some 30) (v := .bool true) rfl rfl (by kernel_rfl) (by kernel_rfl) (by kernel_rfl) (fun _ _ _ h => h) (by kernel_rfl) (fun V _ => by go_simp) ?_
    refine AnyS.pure 3 (some 31) rfl rfl (by kernel_rfl) (by kernel_rfl) (by kernel_rfl) (fun _ _ _ h => h) (by kernel_rfl) (fun _ _ => rfl) ?_
    refine AnyS.pure 4 (some 32) (v := .pointer (some ⟨w.heap.size, 1, none⟩)) rfl rfl (by kernel_rfl) (by kernel_rfl) (by kernel_rfl) (fun _ _ _ h => h) (by kernel_rfl) (fun V _ => by go_simp) ?_
    refine AnyS.pure 5 (some 33) (v := .agg (cellsOf old)) rfl rfl (by kernel_rfl) (by kernel_rfl) (by kernel_rfl) (fun _ _ _ h => h) (by kernel_rfl) (fun V hV => by exact exec_load 33 (.tmp 32) rfl (.pointer (some ⟨w.heap.size, 1, none⟩)) rfl (Has.load_root hV.2 HO.out)) ?_
    refine AnyS.call 6 (some 34) (.agg (cellsOf z)) rfl rfl (by kernel_rfl) (by kernel_rfl) (by kernel_rfl) (fun _ _ _ h => h) (by kernel_rfl) 22 Tryd.f22 Tryd.func22 (by kernel_rfl) (by kernel_rfl) _ _ rfl #[.string ⟨#[]⟩] (by first | (simp [Act.eval]; done) | (simp [Act.eval, Act.put]; done)) (fun V hV => C.out V hV) ?_
    simp only [Act.put, List.setIfInBounds_toArray, List.set_cons_zero, List.set_cons_succ]
    refine AnyS.pure 7 (some 35) (v := .bool (old == z)) rfl rfl (by kernel_rfl) (by kernel_rfl) (by kernel_rfl) (fun _ _ _ h => h) (by kernel_rfl) (fun V _ => by go_simp) ?_
    refine AnyS.pure 8 (some 36) (v := .bool (old == z)) rfl rfl (by kernel_rfl) (by kernel_rfl) (by kernel_rfl) (fun _ _ _ h => h) (by kernel_rfl) (fun V _ => by go_simp) ?_
    refine AnyS.pure 9 (some 6) rfl rfl (by kernel_rfl) (by kernel_rfl) (by kernel_rfl) (fun _ _ _ h => h) (by kernel_rfl) (fun _ _ => rfl) ?_
    refine AnyS.done (by kernel_rfl) (fun V hV => ?_) _
    have HV := Lib.hid hV
    clear hV B0 C
    go_wp2_with fail
    go_ret
    exact ⟨rfl, HV.out.1⟩
end Go.Proofs.YthbncejbcegmgaaDoor.prf
end

section
/- proof: elder, of an elder head over some leaves. -/
namespace Go.Proofs.YthbncejbcegmgaaDoor.prf
open Go Go.RowKit Go.Proofs.YthbncejbcegmgaaDoor.dig

set_option maxRecDepth 100000 in
set_option maxHeartbeats 2000000 in
theorem elder_more {old root t1 t2 : List UInt8} {tb : Bool} (ho : old.length = 32) (hr : root.length = 32) (ht1 : t1.length = 32) (ht2 : t2.length = 32) (m n : Int) (hm : m ≠ 0) (hmn : m ≠ n) (a : Option Addr) (l c : Nat) (w : World)
    (hb : ∀ V, Below w.heap.size w V → Calls Tryd.prog 63 #[.agg (headC m old), .int .i64 0, .int .i64 n, .slice a l c] V (BothPost V (t1, t2, tb))) :
    Calls Tryd.prog 42 #[.agg (headC m old), .agg (headC n root), .slice a l c] w fun en w' => en = .returned (.bool (tb && (t1 == old) && (t2 == root))) ∧ Below w.heap.size w w' := by
  have HO := Lib.hid ho
  have HRT := Lib.hid hr
  have HT1 := Lib.hid ht1
  have HT2 := Lib.hid ht2
  have HB := Lib.hid hb
  have q1 : ∀ w, (binOp .eql 33 (.agg (cellsOf t1)) (.agg (cellsOf old))).run Tryd.prog w = .ok (.bool (t1 == old)) w := run_eql_sum t1 old ht1 ho
  have q2 : ∀ w, (binOp .eql 33 (.agg (cellsOf t2)) (.agg (cellsOf root))).run Tryd.prog w = .ok (.bool (t2 == root)) w := run_eql_sum t2 root ht2 hr
  obtain ⟨b1, hb1⟩ : ∃ b, (t1 == old) = b := ⟨_, rfl⟩
  obtain ⟨b2, hb2⟩ : ∃ b, (t2 == root) = b := ⟨_, rfl⟩
  rw [hb1] at q1
  rw [hb2] at q2
  rw [hb1, hb2]
  have n0 : (m == n) = false := by rw [beq_eq_false_iff_ne]; exact hmn
  have n1 : (m == 0) = false := by rw [beq_eq_false_iff_ne]; exact hm
  clear ho hr ht1 ht2 hb hb1 hb2
  have key : tb = false ∨ (tb = true ∧ b1 = false) ∨ (tb = true ∧ b1 = true) := by cases tb <;> cases b1 <;> simp
  rcases key with rfl | ⟨rfl, rfl⟩ | ⟨rfl, rfl⟩
  all_goals
    have c0 : ∀ A, ((w.alloc (.cells (headC m old) 38)).alloc A).cell? ⟨w.heap.size, 0, none⟩ = some (.int .i64 m) := fun A => Has.num ((made_at _ _ rfl).alloc A)
    have c1 : ∀ A, ((w.alloc A).alloc (.cells (headC n root) 38)).cell? ⟨w.heap.size + 1, 0, none⟩ = some (.int .i64 n) := fun A => Has.num (made_at _ _ (by simp))
    go_enter Tryd.func42, Tryd.ntmps42
    go_wp2_with (first
      | ((with_reducible refine at_op 38 ?_); refine wpList_load_row (o := ⟨some 38, _, _, _, _, _⟩) rfl 38 _ rfl w.heap.size rfl 38 (headC m old) (0, 0) _ ((made_at _ _ rfl).alloc _) Tryd.underlying38 rfl (by rw [headC_size, HO.out]; kernel_rfl) ?_)
      | fail)
    refine callsName (fun W hW => ?_)
    have B0 : Hid (Below w.heap.size w W ∧ Has W w.heap.size 38 (headC m old) ∧ Has W (w.heap.size + 1) 38 (headC n root)) := by rw [← hW]; exact Lib.hid ⟨((Below.refl _ _).alloc (Nat.le_refl _) _).alloc (by simp) _, (made_at _ _ rfl).alloc _, made_at _ _ (by simp)⟩
    clear hW c0 c1
    refine (HB.out W B0.out.1).mono ?_
    rintro en w1 ⟨rfl, b1'⟩
    have B1 : Hid (Below w.heap.size w w1 ∧ Has w1 w.heap.size 38 (headC m old) ∧ Has w1 (w.heap.size + 1) 38 (headC n root)) := Lib.hid ⟨B0.out.1.trans (b1'.mono B0.out.1.size), B0.out.2.1.below b1' B0.out.2.1.lt, B0.out.2.2.below b1' B0.out.2.2.lt⟩
    clear B0 b1' HB
    go_wp2_with (first
      | ((with_reducible refine at_store (.tmp 7) ?_); refine wpList_store_arr (o := ⟨none, _, _, _, _, _⟩) rfl 33 _ _ rfl w1.heap.size t1 Z rfl rfl _ ((made_at _ _ rfl).alloc _) 32 (by kernel_rfl) Z_len HT1.out ?_; intro W2 HW2 TW2
         (have B2 : Hid (Below w.heap.size w W2 ∧ Has W2 w.heap.size 38 (headC m old) ∧ Has W2 (w.heap.size + 1) 38 (headC n root) ∧ Has W2 w1.heap.size 33 (cellsOf t1) ∧ Has W2 (w1.heap.size + 1) 33 (cellsOf Z)) := Lib.hid (by
           have b2 : Below w1.heap.size w1 W2 := (((Below.refl _ _).alloc (Nat.le_refl _) _).alloc (by simp) _).trans (TW2.below (by simp; omega) (fun j hj e => by omega))
           exact ⟨B1.out.1.trans (b2.mono B1.out.1.size), B1.out.2.1.below b2 B1.out.2.1.lt, B1.out.2.2.below b2 B1.out.2.2.lt, HW2, (made_at _ _ (by simp)).turn TW2 (by omega)⟩))
         (clear TW2 HW2))
      | ((with_reducible refine at_store (.tmp 8) ?_); refine wpList_store_arr (o := ⟨none, _, _, _, _, _⟩) rfl 33 _ _ rfl (w1.heap.size + 1) t2 Z rfl rfl _ B2.out.2.2.2.2 32 (by kernel_rfl) Z_len HT2.out ?_; intro W3 HW3 TW3
         (have B3 : Hid (Below w.heap.size w W3 ∧ Has W3 w.heap.size 38 (headC m old) ∧ Has W3 (w.heap.size + 1) 38 (headC n root) ∧ Has W3 w1.heap.size 33 (cellsOf t1) ∧ Has W3 (w1.heap.size + 1) 33 (cellsOf t2)) := Lib.hid (by
           have l1 := B1.out.2.2.lt
           have l2 := B1.out.2.1.lt
           have l3 := B2.out.2.2.2.1.lt
           exact ⟨B2.out.1.trans (TW3.below B2.out.1.size (fun j hj e => by omega)), B2.out.2.1.turn TW3 (by omega), B2.out.2.2.1.turn TW3 (by omega), B2.out.2.2.2.1.turn TW3 (by omega), HW3⟩))
         (clear TW3 HW3 B2))
      | ((with_reducible refine at_opg 48 ?_); refine wpList_load_if (by rfl) 33 _ rfl (.pointer (some ⟨w1.heap.size, 0, none⟩)) rfl (Has.load_sum B3.out.2.2.2.1 HT1.out) ?_)
      | ((with_reducible refine at_opg 50 ?_); refine wpList_load_if (by rfl) 33 _ rfl (.pointer (some ⟨w.heap.size, 1, none⟩)) rfl (Has.load_root B3.out.2.1 HO.out) ?_)
      | ((with_reducible refine at_opg 54 ?_); refine wpList_load_if (by rfl) 33 _ rfl (.pointer (some ⟨w1.heap.size + 1, 0, none⟩)) rfl (Has.load_sum B3.out.2.2.2.2 HT2.out) ?_)
      | ((with_reducible refine at_opg 56 ?_); refine wpList_load_if (by rfl) 33 _ rfl (.pointer (some ⟨w.heap.size + 1, 1, none⟩)) rfl (Has.load_root B3.out.2.2.1 HRT.out) ?_)
      | fail)
    go_ret
    exact ⟨rfl, B3.out.1⟩
end Go.Proofs.YthbncejbcegmgaaDoor.prf
end

section
/- proof: Inclusion; what an error of one step is. -/
namespace Go.Proofs.YthbncejbcegmgaaDoor.prf
open Go Go.RowKit Go.Proofs.YthbncejbcegmgaaDoor.dig

theorem run_neq_sum (xs ys : List UInt8) (hx : xs.length = 32) (hy : ys.length = 32) (w : World) : (binOp .neq 33 (.agg (cellsOf xs)) (.agg (cellsOf ys))).run Tryd.prog w = .ok (.bool (!(xs == ys))) w := by
  simp only [binOp]
  have := run_equalIn_bytes (P := Tryd.prog) 9998 (t := 33) (e := 5) 32 Tryd.underlying33 Tryd.underlying5 (by kernel_rfl) xs ys hx hy w
  simp [Op.equal, Op.maxDepth, this]

/-- No error, or a number with one step around it. -/
def IsErr (w : World) (v : Value) (s : ByteArray) (a E : Int) : Prop :=
  (E = 0 ∧ v = .nilIface) ∨ (E ≠ 0 ∧ ∃ b, v = flt.ev [⟨b, s, a⟩] E ∧ flt.Er w.heap.size w [⟨b, s, a⟩] E)
theorem IsErr.below {w w' : World} {v : Value} {s : ByteArray} {a E : Int} (h : IsErr w v s a E) (b : Below w.heap.size w w') : IsErr w' v s a E :=
  h.imp id fun ⟨h1, x, h2, h3⟩ => ⟨h1, x, h2, (h3.below b (Nat.le_refl _)).more b.size⟩
theorem IsErr.ok (w : World) (s : ByteArray) (a : Int) : IsErr w .nilIface s a 0 := .inl ⟨rfl, rfl⟩
/-- What makes an error answers one. -/
def ErrPost (w : World) (s : ByteArray) (a E : Int) (en : Ending) (w' : World) : Prop := ∃ v, en = .returned v ∧ IsErr w' v s a E ∧ Below w.heap.size w w'
theorem in_post (s : ByteArray) (a E : Int) (hE : E ≠ 0) (w : World) : Calls Tryd.prog 39 #[.string s, .int .i64 a, flt.ev [] E] w (ErrPost w s a E) := by
  refine (flt.in_calls [] E s a w hE).mono ?_
  rintro en w' ⟨rfl, rfl⟩
  refine ⟨_, rfl, .inr ⟨hE, _, rfl, ⟨⟨Has.made _ _ _, by simp⟩, trivial⟩⟩, (Below.refl _ _).alloc (Nat.le_refl _) _⟩

set_option maxRecDepth 100000 in
set_option maxHeartbeats 1000000 in
theorem incl_out (leaf : ByteArray) (i n : Int) (root : List UInt8) (h : i < 0 ∨ n ≤ i) (v : Value) (w : World) : Calls Tryd.prog 18 #[.string leaf, .int .i64 i, .agg (headC n root), v] w (ErrPost w ⟨#[108, 101, 97, 102]⟩ i 6) := by
  have c0 : (w.alloc (.cells (headC n root) 38)).cell? ⟨w.heap.size, 0, none⟩ = some (.int .i64 n) := Has.num (made_at _ _ rfl)
  have HI := fun V => Lib.hid (in_post ⟨#[108, 101, 97, 102]⟩ i 6 (by decide) V)
  by_cases h0 : i < 0
  · clear h
    go_enter Tryd.func18, Tryd.ntmps18
    go_wp2_with fail
    refine (HI _).out.mono ?_
    rintro en w1 ⟨v, rfl, he, b⟩
    go_wp2_with fail
    go_ret
    exact ⟨v, rfl, he, ((Below.refl _ _).alloc (Nat.le_refl _) _).trans (b.mono (by simp))⟩
  · have h1 : n ≤ i := h.resolve_left h0
    clear h
    go_enter Tryd.func18, Tryd.ntmps18
    go_wp2_with fail
    refine (HI _).out.mono ?_
    rintro en w1 ⟨v, rfl, he, b⟩
    go_wp2_with fail
    go_ret
    exact ⟨v, rfl, he, ((Below.refl _ _).alloc (Nat.le_refl _) _).trans (b.mono (by simp))⟩

/-- What lasts while Inclusion reckons. -/
structure Ic (w : World) (n : Int) (root : List UInt8) (V : World) : Prop where
  bel : Below w.heap.size w V
  hd : Has V w.heap.size 38 (headC n root)
theorem Ic.below {w V V' : World} {n : Int} {root : List UInt8} (h : Ic w n root V) (b : Below V.heap.size V V') : Ic w n root V' := ⟨h.bel.trans (b.mono h.bel.size), h.hd.below b h.hd.lt⟩
theorem Ic.drew {w V : World} {n : Int} {root : List UInt8} (h : Ic w n root V) : Ic w n root V.drew := h.below (Below.refl _ _).drew

set_option maxRecDepth 100000 in
set_option maxHeartbeats 4000000 in
theorem incl_in {leaf : ByteArray} {root lf u1 : List UInt8} {ub : Bool} (hr : root.length = 32) (h1 : u1.length = 32) (i n : Nat) (hi : i < n) (_hn : n ≤ 1000000) (a : Option Addr) (l c : Nat) (w : World)
    (hl : ∀ V, Below w.heap.size w V → Calls Tryd.prog 32 #[.string leaf] V fun en w' => en = .returned (.agg (cellsOf lf)) ∧ Below V.heap.size V w')
    (hc : ∀ V, Below w.heap.size w V → Calls Tryd.prog 40 #[.agg (cellsOf lf), .int .i64 i, .int .i64 n, .slice a l c] V fun en w' => en = .returned (.tuple #[.agg (cellsOf u1), .bool ub]) ∧ Below V.heap.size V w') :
    Calls Tryd.prog 18 #[.string leaf, .int .i64 i, .agg (headC n root), .slice a l c] w (ErrPost w ⟨#[108, 101, 97, 102]⟩ i (if ub = true ∧ u1 = root then 0 else 12)) := by
  have HR := Lib.hid hr
  have H1 := Lib.hid h1
  have HL := Lib.hid hl
  have HC := Lib.hid hc
  obtain ⟨b1, hb1⟩ : ∃ b, (u1 == root) = b := ⟨_, rfl⟩
  have q1 : ∀ w, (binOp .neq 33 (.agg (cellsOf u1)) (.agg (cellsOf root))).run Tryd.prog w = .ok (.bool (!b1)) w := fun w => by rw [run_neq_sum u1 root h1 hr w, hb1]
  obtain ⟨E, hE⟩ : ∃ E : Int, E = if ub = true ∧ u1 = root then 0 else 12 := ⟨_, rfl⟩
  rw [← hE]
  have key : (ub = false ∧ E = 12) ∨ (ub = true ∧ b1 = false ∧ E = 12) ∨ (ub = true ∧ b1 = true ∧ E = 0) := by
    cases ub
    · exact .inl ⟨rfl, by rw [hE, if_neg (by simp)]⟩
    · cases b1
      · exact .inr (.inl ⟨rfl, rfl, by rw [hE, if_neg (fun e => by rw [e.2] at hb1; simp at hb1)]⟩)
      · exact .inr (.inr ⟨rfl, rfl, by rw [hE, if_pos ⟨rfl, by simpa using hb1⟩]⟩)
  have HI := fun V => Lib.hid (in_post ⟨#[108, 101, 97, 102]⟩ i 12 (by decide) V)
  have KEY := Lib.hid key
  have i0 : (0 : Int) ≤ (i : Int) := by omega
  have i1 : (i : Int) < (n : Int) := by omega
  clear hr h1 hl hc hb1 hE key hi
  have c0 : (w.alloc (.cells (headC n root) 38)).cell? ⟨w.heap.size, 0, none⟩ = some (.int .i64 n) := Has.num (made_at _ _ rfl)
  go_enter Tryd.func18, Tryd.ntmps18
  go_wp2_with fail
  go_name_world W hW
  have B0 : Hid (Ic w n root W) := by rw [← hW]; exact Lib.hid ⟨(Below.refl _ _).alloc (Nat.le_refl _) _, made_at _ _ rfl⟩
  clear hW c0
  obtain ⟨V0, hV0⟩ : ∃ V, V = W.drew := ⟨_, rfl⟩
  refine wp_region_held (fun V => Ic w n root V) V0 hV0 (by kernel_rfl) ?_
  have S0 : Ic w n root V0 := by rw [hV0]; exact B0.out.drew
  clear hV0 B0
  refine held_take 0 (some 23) (v := .string leaf) rfl rfl (by kernel_rfl) (by kernel_rfl) (by kernel_rfl) (fun _ _ _ h => h) (.inl ⟨by kernel_rfl, fun V hV => by go_simp⟩) S0 ?_
  refine held_take 2 (some 25) (v := .int .i64 i) rfl rfl (by kernel_rfl) (by kernel_rfl) (by kernel_rfl) (fun _ _ _ h => h) (.inl ⟨by kernel_rfl, fun V hV => by go_simp⟩) S0 ?_
  refine held_take 3 (some 26) (v := .pointer (some ⟨w.heap.size, 0, none⟩)) rfl rfl (by kernel_rfl) (by kernel_rfl) (by kernel_rfl) (fun _ _ _ h => h) (.inl ⟨by kernel_rfl, fun V hV => by go_simp⟩) S0 ?_
  refine held_take 4 (some 27) (v := .int .i64 n) rfl rfl (by kernel_rfl) (by kernel_rfl) (by kernel_rfl) (fun _ _ _ h => h) (.inl ⟨by kernel_rfl, fun V hV => by have c0 := Has.num hV.hd; go_simp⟩) S0 ?_
  refine held_take 5 (some 28) (v := .slice a l c) rfl rfl (by kernel_rfl) (by kernel_rfl) (by kernel_rfl) (fun _ _ _ h => h) (.inl ⟨by kernel_rfl, fun V hV => by go_simp⟩) S0 ?_
  simp only [Act.put, List.setIfInBounds_toArray, List.set_cons_zero, List.set_cons_succ]
  refine held_two (i := 1) (j := 10) (by kernel_rfl) ?_ ?_
  · refine wpOp_call (some 24) rfl rfl (by kernel_rfl) 32 Tryd.f32 Tryd.func32 (by kernel_rfl) (by kernel_rfl) _ _ rfl #[.string leaf] (by first | (simp [Act.eval]; done) | (simp [Act.eval, Act.put]; done)) (HL.out V0 S0.bel) ?_
    rintro en V1 ⟨rfl, b⟩
    have S1 := S0.below b
    clear b
    refine ⟨_, rfl, S1, ?_⟩
    simp only [Act.put, List.setIfInBounds_toArray, List.set_cons_zero, List.set_cons_succ]
    refine held_two (i := 6) (j := 10) (by kernel_rfl) ?_ ?_
    · refine wpOp_call (some 29) rfl rfl (by kernel_rfl) 40 Tryd.f40 Tryd.func40 (by kernel_rfl) (by kernel_rfl) _ _ rfl #[.agg (cellsOf lf), .int .i64 i, .int .i64 n, .slice a l c] (by first | (simp [Act.eval]; done) | (simp [Act.eval, Act.put]; done)) (HC.out V1 S1.bel) ?_
      rintro en V2 ⟨rfl, b⟩
      have S2 := S1.below b
      clear b
      refine ⟨_, rfl, S2, ?_⟩
      simp only [Act.put, List.setIfInBounds_toArray, List.set_cons_zero, List.set_cons_succ]
      refine held_take 7 (some 22) (v := .tuple #[.agg (cellsOf u1), .bool ub]) rfl rfl (by kernel_rfl) (by kernel_rfl) (by kernel_rfl) (fun _ _ _ h => h) (.inl ⟨by kernel_rfl, fun V hV => by go_simp⟩) S2 ?_
      refine held_take 8 (some 30) (v := .agg (cellsOf u1)) rfl rfl (by kernel_rfl) (by kernel_rfl) (by kernel_rfl) (fun _ _ _ h => h) (.inl ⟨by kernel_rfl, fun V hV => by go_simp⟩) S2 ?_
      refine held_take 9 (some 31) (v := .bool ub) rfl rfl (by kernel_rfl) (by kernel_rfl) (by kernel_rfl) (fun _ _ _ h => h) (.inl ⟨by kernel_rfl, fun V hV => by go_simp⟩) S2 ?_
      simp only [Act.put, List.setIfInBounds_toArray, List.set_cons_zero, List.set_cons_succ]
      refine held_one (i := 10) (by kernel_rfl) ?_
      refine wpOp_value (some 9) (v := .pointer (some ⟨V2.heap.size, 0, none⟩)) (w' := V2.alloc (.cells (cellsOf Z) 33)) rfl rfl (by kernel_rfl) (by go_simp; rfl) ?_
      have S3 : Ic w n root (V2.alloc (.cells (cellsOf Z) 33)) := S2.below ((Below.refl _ _).alloc (Nat.le_refl _) _)
      have G3 : Has (V2.alloc (.cells (cellsOf Z) 33)) V2.heap.size 33 (cellsOf Z) := made_at _ _ rfl
      have L3 : w.heap.size < V2.heap.size := S2.hd.lt
      generalize V2.alloc (.cells (cellsOf Z) 33) = V3 at *
      generalize V2.heap.size = g at *
      refine ⟨S3, ?_⟩
      simp only [Act.put, List.setIfInBounds_toArray, List.set_cons_zero, List.set_cons_succ]
      refine held_one (i := 11) (by kernel_rfl) ?_
      refine wpOp_wp rfl (by kernel_rfl) ?_
      refine wp_store_row 33 _ _ rfl g (cellsOf u1) rfl rfl 33 (cellsOf Z) G3 (by rw [cellsOf_size, H1.out]; kernel_rfl) (by rw [cellsOf_size, cellsOf_size, H1.out, Z_len]) (cellsOf_one _) ?_
      have HW : Has (V3.setRow g (cellsOf u1)) g 33 (cellsOf u1) := G3.row _
      have TW : Turn (fun k => k = g) V3 (V3.setRow g (cellsOf u1)) := turn_row _ _ _
      have SW : Ic w n root (V3.setRow g (cellsOf u1)) := ⟨S3.bel.trans (TW.below S3.bel.size (fun j hj e => by have := L3; omega)), S3.hd.turn TW (by have := L3; omega)⟩
      clear TW
      generalize V3.setRow g (cellsOf u1) = W9 at *
      refine ⟨SW, ?_⟩
      simp only [Act.put]
      refine held_take 12 (some 10) (v := .bool ub) rfl rfl (by kernel_rfl) (by kernel_rfl) (by kernel_rfl) (fun _ _ _ h => h) (.inl ⟨by kernel_rfl, fun V hV => by go_simp⟩) SW ?_
      simp only [Act.put]
      refine wpAnyH_done (by kernel_rfl) ?_ _
      have HSW := Lib.hid SW
      have HHW := Lib.hid HW
      clear SW HW
      rcases KEY.out with ⟨rfl, rfl⟩ | ⟨rfl, rfl, rfl⟩ | ⟨rfl, rfl, rfl⟩
      · go_wp2_with fail
        refine (HI _).out.mono ?_
        rintro en w1 ⟨v, rfl, he, b⟩
        go_wp2_with fail
        go_ret
        exact ⟨v, rfl, he, HSW.out.bel.trans (b.mono HSW.out.bel.size)⟩
      · go_wp2_with (first
          | ((with_reducible refine at_opg 35 ?_); refine wpList_load_if (by kernel_rfl) 33 _ rfl (.pointer (some ⟨g, 0, none⟩)) rfl (Has.load_sum HHW.out H1.out) ?_)
          | ((with_reducible refine at_opg 37 ?_); refine wpList_load_if (by kernel_rfl) 33 _ rfl (.pointer (some ⟨w.heap.size, 1, none⟩)) rfl (Has.load_root HSW.out.hd HR.out) ?_)
          | fail)
        refine (HI _).out.mono ?_
        rintro en w1 ⟨v, rfl, he, b⟩
        go_wp2_with fail
        go_ret
        exact ⟨v, rfl, he, HSW.out.bel.trans (b.mono HSW.out.bel.size)⟩
      · go_wp2_with (first
          | ((with_reducible refine at_opg 35 ?_); refine wpList_load_if (by kernel_rfl) 33 _ rfl (.pointer (some ⟨g, 0, none⟩)) rfl (Has.load_sum HHW.out H1.out) ?_)
          | ((with_reducible refine at_opg 37 ?_); refine wpList_load_if (by kernel_rfl) 33 _ rfl (.pointer (some ⟨w.heap.size, 1, none⟩)) rfl (Has.load_root HSW.out.hd HR.out) ?_)
          | fail)
        go_ret
        exact ⟨_, rfl, IsErr.ok _ _ _, HSW.out.bel⟩
    · refine wpOp_value (some 9) (v := .pointer (some ⟨V1.heap.size, 0, none⟩)) (w' := V1.alloc (.cells (cellsOf Z) 33)) rfl rfl (by kernel_rfl) (by go_simp; rfl) ?_
      have S2 : Ic w n root (V1.alloc (.cells (cellsOf Z) 33)) := S1.below ((Below.refl _ _).alloc (Nat.le_refl _) _)
      have G2 : Has (V1.alloc (.cells (cellsOf Z) 33)) V1.heap.size 33 (cellsOf Z) := made_at _ _ rfl
      have L2 : w.heap.size < V1.heap.size := S1.hd.lt
      generalize V1.alloc (.cells (cellsOf Z) 33) = V2 at *
      generalize V1.heap.size = g at *
      refine ⟨S2, ?_⟩
      simp only [Act.put, List.setIfInBounds_toArray, List.set_cons_zero, List.set_cons_succ]
      refine held_one (i := 6) (by kernel_rfl) ?_
      refine wpOp_call (some 29) rfl rfl (by kernel_rfl) 40 Tryd.f40 Tryd.func40 (by kernel_rfl) (by kernel_rfl) _ _ rfl #[.agg (cellsOf lf), .int .i64 i, .int .i64 n, .slice a l c] (by first | (simp [Act.eval]; done) | (simp [Act.eval, Act.put]; done)) (HC.out V2 S2.bel) ?_
      rintro en V3 ⟨rfl, b⟩
      have S3 := S2.below b
      have G3 : Has V3 g 33 (cellsOf Z) := G2.below b G2.lt
      clear b
      refine ⟨_, rfl, S3, ?_⟩
      simp only [Act.put, List.setIfInBounds_toArray, List.set_cons_zero, List.set_cons_succ]
      refine held_take 7 (some 22) (v := .tuple #[.agg (cellsOf u1), .bool ub]) rfl rfl (by kernel_rfl) (by kernel_rfl) (by kernel_rfl) (fun _ _ _ h => h) (.inl ⟨by kernel_rfl, fun V hV => by go_simp⟩) S3 ?_
      refine held_take 8 (some 30) (v := .agg (cellsOf u1)) rfl rfl (by kernel_rfl) (by kernel_rfl) (by kernel_rfl) (fun _ _ _ h => h) (.inl ⟨by kernel_rfl, fun V hV => by go_simp⟩) S3 ?_
      refine held_take 9 (some 31) (v := .bool ub) rfl rfl (by kernel_rfl) (by kernel_rfl) (by kernel_rfl) (fun _ _ _ h => h) (.inl ⟨by kernel_rfl, fun V hV => by go_simp⟩) S3 ?_
      simp only [Act.put, List.setIfInBounds_toArray, List.set_cons_zero, List.set_cons_succ]
      refine held_one (i := 11) (by kernel_rfl) ?_
      refine wpOp_wp rfl (by kernel_rfl) ?_
      refine wp_store_row 33 _ _ rfl g (cellsOf u1) rfl rfl 33 (cellsOf Z) G3 (by rw [cellsOf_size, H1.out]; kernel_rfl) (by rw [cellsOf_size, cellsOf_size, H1.out, Z_len]) (cellsOf_one _) ?_
      have HW : Has (V3.setRow g (cellsOf u1)) g 33 (cellsOf u1) := G3.row _
      have TW : Turn (fun k => k = g) V3 (V3.setRow g (cellsOf u1)) := turn_row _ _ _
      have SW : Ic w n root (V3.setRow g (cellsOf u1)) := ⟨S3.bel.trans (TW.below S3.bel.size (fun j hj e => by have := L2; omega)), S3.hd.turn TW (by have := L2; omega)⟩
      clear TW
      generalize V3.setRow g (cellsOf u1) = W9 at *
      refine ⟨SW, ?_⟩
      simp only [Act.put]
      refine held_take 12 (some 10) (v := .bool ub) rfl rfl (by kernel_rfl) (by kernel_rfl) (by kernel_rfl) (fun _ _ _ h => h) (.inl ⟨by kernel_rfl, fun V hV => by go_simp⟩) SW ?_
      simp only [Act.put]
      refine wpAnyH_done (by kernel_rfl) ?_ _
      have HSW := Lib.hid SW
      have HHW := Lib.hid HW
      clear SW HW
      rcases KEY.out with ⟨rfl, rfl⟩ | ⟨rfl, rfl, rfl⟩ | ⟨rfl, rfl, rfl⟩
      · go_wp2_with fail
        refine (HI _).out.mono ?_
        rintro en w1 ⟨v, rfl, he, b⟩
        go_wp2_with fail
        go_ret
        exact ⟨v, rfl, he, HSW.out.bel.trans (b.mono HSW.out.bel.size)⟩
      · go_wp2_with (first
          | ((with_reducible refine at_opg 35 ?_); refine wpList_load_if (by kernel_rfl) 33 _ rfl (.pointer (some ⟨g, 0, none⟩)) rfl (Has.load_sum HHW.out H1.out) ?_)
          | ((with_reducible refine at_opg 37 ?_); refine wpList_load_if (by kernel_rfl) 33 _ rfl (.pointer (some ⟨w.heap.size, 1, none⟩)) rfl (Has.load_root HSW.out.hd HR.out) ?_)
          | fail)
        refine (HI _).out.mono ?_
        rintro en w1 ⟨v, rfl, he, b⟩
        go_wp2_with fail
        go_ret
        exact ⟨v, rfl, he, HSW.out.bel.trans (b.mono HSW.out.bel.size)⟩
      · go_wp2_with (first
          | ((with_reducible refine at_opg 35 ?_); refine wpList_load_if (by kernel_rfl) 33 _ rfl (.pointer (some ⟨g, 0, none⟩)) rfl (Has.load_sum HHW.out H1.out) ?_)
          | ((with_reducible refine at_opg 37 ?_); refine wpList_load_if (by kernel_rfl) 33 _ rfl (.pointer (some ⟨w.heap.size, 1, none⟩)) rfl (Has.load_root HSW.out.hd HR.out) ?_)
          | fail)
        go_ret
        exact ⟨_, rfl, IsErr.ok _ _ _, HSW.out.bel⟩
  · refine wpOp_value (some 9) (v := .pointer (some ⟨V0.heap.size, 0, none⟩)) (w' := V0.alloc (.cells (cellsOf Z) 33)) rfl rfl (by kernel_rfl) (by go_simp; rfl) ?_
    have S1 : Ic w n root (V0.alloc (.cells (cellsOf Z) 33)) := S0.below ((Below.refl _ _).alloc (Nat.le_refl _) _)
    have G1 : Has (V0.alloc (.cells (cellsOf Z) 33)) V0.heap.size 33 (cellsOf Z) := made_at _ _ rfl
    have L1 : w.heap.size < V0.heap.size := S0.hd.lt
    generalize V0.alloc (.cells (cellsOf Z) 33) = V1 at *
    generalize V0.heap.size = g at *
    refine ⟨S1, ?_⟩
    simp only [Act.put, List.setIfInBounds_toArray, List.set_cons_zero, List.set_cons_succ]
    refine held_one (i := 1) (by kernel_rfl) ?_
    refine wpOp_call (some 24) rfl rfl (by kernel_rfl) 32 Tryd.f32 Tryd.func32 (by kernel_rfl) (by kernel_rfl) _ _ rfl #[.string leaf] (by first | (simp [Act.eval]; done) | (simp [Act.eval, Act.put]; done)) (HL.out V1 S1.bel) ?_
    rintro en V2 ⟨rfl, b⟩
    have S2 := S1.below b
    have G2 : Has V2 g 33 (cellsOf Z) := G1.below b G1.lt
    clear b
    refine ⟨_, rfl, S2, ?_⟩
    simp only [Act.put, List.setIfInBounds_toArray, List.set_cons_zero, List.set_cons_succ]
    refine held_one (i := 6) (by kernel_rfl) ?_
    refine wpOp_call (some 29) rfl rfl (by kernel_rfl) 40 Tryd.f40 Tryd.func40 (by kernel_rfl) (by kernel_rfl) _ _ rfl #[.agg (cellsOf lf), .int .i64 i, .int .i64 n, .slice a l c] (by first | (simp [Act.eval]; done) | (simp [Act.eval, Act.put]; done)) (HC.out V2 S2.bel) ?_
    rintro en V3 ⟨rfl, b⟩
    have S3 := S2.below b
    have G3 : Has V3 g 33 (cellsOf Z) := G2.below b G2.lt
    clear b
    refine ⟨_, rfl, S3, ?_⟩
    simp only [Act.put, List.setIfInBounds_toArray, List.set_cons_zero, List.set_cons_succ]
    refine held_take 7 (some 22) (v := .tuple #[.agg (cellsOf u1), .bool ub]) rfl rfl (by kernel_rfl) (by kernel_rfl) (by kernel_rfl) (fun _ _ _ h => h) (.inl ⟨by kernel_rfl, fun V hV => by go_simp⟩) S3 ?_
    refine held_take 8 (some 30) (v := .agg (cellsOf u1)) rfl rfl (by kernel_rfl) (by kernel_rfl) (by kernel_rfl) (fun _ _ _ h => h) (.inl ⟨by kernel_rfl, fun V hV => by go_simp⟩) S3 ?_
    refine held_take 9 (some 31) (v := .bool ub) rfl rfl (by kernel_rfl) (by kernel_rfl) (by kernel_rfl) (fun _ _ _ h => h) (.inl ⟨by kernel_rfl, fun V hV => by go_simp⟩) S3 ?_
    simp only [Act.put, List.setIfInBounds_toArray, List.set_cons_zero, List.set_cons_succ]
    refine held_one (i := 11) (by kernel_rfl) ?_
    refine wpOp_wp rfl (by kernel_rfl) ?_
    refine wp_store_row 33 _ _ rfl g (cellsOf u1) rfl rfl 33 (cellsOf Z) G3 (by rw [cellsOf_size, H1.out]; kernel_rfl) (by rw [cellsOf_size, cellsOf_size, H1.out, Z_len]) (cellsOf_one _) ?_
    have HW : Has (V3.setRow g (cellsOf u1)) g 33 (cellsOf u1) := G3.row _
    have TW : Turn (fun k => k = g) V3 (V3.setRow g (cellsOf u1)) := turn_row _ _ _
    have SW : Ic w n root (V3.setRow g (cellsOf u1)) := ⟨S3.bel.trans (TW.below S3.bel.size (fun j hj e => by have := L1; omega)), S3.hd.turn TW (by have := L1; omega)⟩
    clear TW
    generalize V3.setRow g (cellsOf u1) = W9 at *
    refine ⟨SW, ?_⟩
    simp only [Act.put]
    refine held_take 12 (some 10) (v := .bool ub) rfl rfl (by kernel_rfl) (by kernel_rfl) (by kernel_rfl) (fun _ _ _ h => h) (.inl ⟨by kernel_rfl, fun V hV => by go_simp⟩) SW ?_
    simp only [Act.put]
    refine wpAnyH_done (by kernel_rfl) ?_ _
    have HSW := Lib.hid SW
    have HHW := Lib.hid HW
    clear SW HW
    rcases KEY.out with ⟨rfl, rfl⟩ | ⟨rfl, rfl, rfl⟩ | ⟨rfl, rfl, rfl⟩
    · go_wp2_with fail
      refine (HI _).out.mono ?_
      rintro en w1 ⟨v, rfl, he, b⟩
      go_wp2_with fail
      go_ret
      exact ⟨v, rfl, he, HSW.out.bel.trans (b.mono HSW.out.bel.size)⟩
    · go_wp2_with (first
        | ((with_reducible refine at_opg 35 ?_); refine wpList_load_if (by kernel_rfl) 33 _ rfl (.pointer (some ⟨g, 0, none⟩)) rfl (Has.load_sum HHW.out H1.out) ?_)
        | ((with_reducible refine at_opg 37 ?_); refine wpList_load_if (by kernel_rfl) 33 _ rfl (.pointer (some ⟨w.heap.size, 1, none⟩)) rfl (Has.load_root HSW.out.hd HR.out) ?_)
        | fail)
      refine (HI _).out.mono ?_
      rintro en w1 ⟨v, rfl, he, b⟩
      go_wp2_with fail
      go_ret
      exact ⟨v, rfl, he, HSW.out.bel.trans (b.mono HSW.out.bel.size)⟩
    · go_wp2_with (first
        | ((with_reducible refine at_opg 35 ?_); refine wpList_load_if (by kernel_rfl) 33 _ rfl (.pointer (some ⟨g, 0, none⟩)) rfl (Has.load_sum HHW.out H1.out) ?_)
        | ((with_reducible refine at_opg 37 ?_); refine wpList_load_if (by kernel_rfl) 33 _ rfl (.pointer (some ⟨w.heap.size, 1, none⟩)) rfl (Has.load_root HSW.out.hd HR.out) ?_)
        | fail)
      go_ret
      exact ⟨_, rfl, IsErr.ok _ _ _, HSW.out.bel⟩
end Go.Proofs.YthbncejbcegmgaaDoor.prf
end

section
/- proof: Inclusion, elder, Consistency whole. -/
namespace Go.Proofs.YthbncejbcegmgaaDoor.prf
open Go Go.RowKit Go.Proofs.YthbncejbcegmgaaDoor.dig

theorem incl_calls (leaf : ByteArray) (i n : Int) (root : List UInt8) (hr : root.length = 32) (hn : n ≤ 1000000) (r : List (List UInt8)) (a : Option Addr) (c : Nat) (w : World) (hR : Rk w) (hS : Sms w (.slice a r.length c) r) (hl : leaf.size < 1000000000000000000) :
    Calls Tryd.prog 18 #[.string leaf, .int .i64 i, .agg (headC n root), .slice a r.length c] w (ErrPost w ⟨#[108, 101, 97, 102]⟩ i (inclE leaf.data.toList i n root r)) := by
  by_cases h : i < 0 ∨ n ≤ i
  · unfold inclE
    rw [if_pos h]
    exact incl_out leaf i n root h _ w
  · unfold inclE
    rw [if_neg h]
    have hi : i = (i.toNat : Int) := by omega
    have hn' : n = (n.toNat : Int) := by omega
    obtain ⟨j, hj⟩ : ∃ j, j = i.toNat := ⟨_, rfl⟩
    obtain ⟨k, hk⟩ : ∃ k, k = n.toNat := ⟨_, rfl⟩
    rw [← hj] at hi ⊢
    rw [← hk] at hn' ⊢
    subst hi hn'
    have hjk : j < k := by omega
    exact incl_in hr (up_len Z_len (leafS_length _) r j k) j k hjk (by omega) a _ c w (fun V b => leaf_calls leaf V (hR.below b) hl)
      (fun V b => rootOf_calls (leafS_length _) r j k a c V (hR.below b) (hS.below b) hjk (by omega))

theorem elder_calls {old root : List UInt8} (ho : old.length = 32) (hr : root.length = 32) (m n : Nat) (hm : m ≤ n) (hn : n ≤ 1000000) (r : List (List UInt8)) (a : Option Addr) (c : Nat) (w : World) (hR : Rk w) (hS : Sms w (.slice a r.length c) r) :
    Calls Tryd.prog 42 #[.agg (headC m old), .agg (headC n root), .slice a r.length c] w fun en w' => en = .returned (.bool (elderB m old n root r)) ∧ Below w.heap.size w w' := by
  unfold elderB
  by_cases h : m = n
  · subst h
    rw [if_pos rfl]
    exact elder_same ho hr m a _ c w _ (isEmpty_len r)
  · rw [if_neg h]
    by_cases h0 : m = 0
    · subst h0
      rw [if_pos rfl]
      exact elder_zero ho n (by omega) a _ c w hR _ (isEmpty_len r)
    · rw [if_neg h0]
      obtain ⟨l1, l2⟩ := both_len Z_len ho r true m n hS.2
      exact elder_more ho hr l1 l2 m n (by omega) (by omega) a _ c w (fun V b => both_calls ho r m 0 m n a c V (hR.below b) (hS.below b) (by omega) (by omega) hm hn (by omega))

set_option maxRecDepth 100000 in
set_option maxHeartbeats 1000000 in
theorem cons_out (m n : Int) (old root : List UInt8) (h : m < 0 ∨ n < m) (v : Value) (w : World) : Calls Tryd.prog 20 #[.agg (headC m old), .agg (headC n root), v] w (ErrPost w ⟨#[112, 114, 101, 102, 105, 120]⟩ m 6) := by
  have c0 : ∀ A, ((w.alloc (.cells (headC m old) 38)).alloc A).cell? ⟨w.heap.size, 0, none⟩ = some (.int .i64 m) := fun A => Has.num ((made_at _ _ rfl).alloc A)
  have c1 : ∀ A, ((w.alloc A).alloc (.cells (headC n root) 38)).cell? ⟨w.heap.size + 1, 0, none⟩ = some (.int .i64 n) := fun A => Has.num (made_at _ _ (by simp))
  have HI := fun V => Lib.hid (in_post ⟨#[112, 114, 101, 102, 105, 120]⟩ m 6 (by decide) V)
  by_cases h0 : m < 0
  · clear h
    go_enter Tryd.func20, Tryd.ntmps20
    go_wp2_with fail
    refine (HI _).out.mono ?_
    rintro en w1 ⟨v, rfl, he, b⟩
    go_wp2_with fail
    go_ret
    exact ⟨v, rfl, he, (((Below.refl _ _).alloc (Nat.le_refl _) _).alloc (by simp) _).trans (b.mono (by simp; omega))⟩
  · have h1 : n < m := h.resolve_left h0
    clear h
    go_enter Tryd.func20, Tryd.ntmps20
    go_wp2_with fail
    refine (HI _).out.mono ?_
    rintro en w1 ⟨v, rfl, he, b⟩
    go_wp2_with fail
    go_ret
    exact ⟨v, rfl, he, (((Below.refl _ _).alloc (Nat.le_refl _) _).alloc (by simp) _).trans (b.mono (by simp; omega))⟩

set_option maxRecDepth 100000 in
set_option maxHeartbeats 1000000 in
theorem cons_in {m n : Int} {old root : List UInt8} (ho : old.length = 32) (hr : root.length = 32) (h0 : 0 ≤ m) (h1 : m ≤ n) (v : Value) (w : World) (e : Bool)
    (hc : ∀ V, Below w.heap.size w V → Calls Tryd.prog 42 #[.agg (headC m old), .agg (headC n root), v] V fun en w' => en = .returned (.bool e) ∧ Below V.heap.size V w') :
    Calls Tryd.prog 20 #[.agg (headC m old), .agg (headC n root), v] w (ErrPost w ⟨#[112, 114, 101, 102, 105, 120]⟩ m (if e = true then 0 else 12)) := by
  have HO := Lib.hid ho
  have HRT := Lib.hid hr
  have HC := Lib.hid hc
  clear ho hr hc
  have c0 : ∀ A, ((w.alloc (.cells (headC m old) 38)).alloc A).cell? ⟨w.heap.size, 0, none⟩ = some (.int .i64 m) := fun A => Has.num ((made_at _ _ rfl).alloc A)
  have c1 : ∀ A, ((w.alloc A).alloc (.cells (headC n root) 38)).cell? ⟨w.heap.size + 1, 0, none⟩ = some (.int .i64 n) := fun A => Has.num (made_at _ _ (by simp))
  have HI := fun V => Lib.hid (in_post ⟨#[112, 114, 101, 102, 105, 120]⟩ m 12 (by decide) V)
  cases e
  all_goals
    go_enter Tryd.func20, Tryd.ntmps20
    go_wp2_with (first
      | ((with_reducible refine at_op 21 ?_); refine wpList_load_row (o := ⟨some 21, _, _, _, _, _⟩) rfl 38 _ rfl w.heap.size rfl 38 (headC m old) (0, 0) _ ((made_at _ _ rfl).alloc _) Tryd.underlying38 rfl (by rw [headC_size, HO.out]; kernel_rfl) ?_)
      | ((with_reducible refine at_op 22 ?_); refine wpList_load_row (o := ⟨some 22, _, _, _, _, _⟩) rfl 38 _ rfl (w.heap.size + 1) rfl 38 (headC n root) (0, 0) _ (made_at _ _ (by simp)) Tryd.underlying38 rfl (by rw [headC_size, HRT.out]; kernel_rfl) ?_)
      | fail)
    refine callsName (fun W hW => ?_)
    have B0 : Hid (Below w.heap.size w W ∧ Has W w.heap.size 38 (headC m old)) := by rw [← hW]; exact Lib.hid ⟨((Below.refl _ _).alloc (Nat.le_refl _) _).alloc (by simp) _, (made_at _ _ rfl).alloc _⟩
    clear hW c0 c1
    refine (HC.out W B0.out.1).mono ?_
    rintro en w1 ⟨rfl, b⟩
    have B1 : Hid (Below w.heap.size w w1 ∧ Has w1 w.heap.size 38 (headC m old)) := Lib.hid ⟨B0.out.1.trans (b.mono B0.out.1.size), B0.out.2.below b B0.out.2.lt⟩
    clear b B0 HC
    have c0 := Has.num B1.out.2
  · go_wp2_with fail
    refine (HI _).out.mono ?_
    rintro en w2 ⟨v, rfl, he, b⟩
    go_wp2_with fail
    go_ret
    exact ⟨v, rfl, he, B1.out.1.trans (b.mono B1.out.1.size)⟩
  · go_wp2_with fail
    go_ret
    exact ⟨_, rfl, IsErr.ok _ _ _, B1.out.1⟩

theorem cons_calls {old root : List UInt8} (ho : old.length = 32) (hr : root.length = 32) (m n : Int) (hn : n ≤ 1000000) (r : List (List UInt8)) (a : Option Addr) (c : Nat) (w : World) (hR : Rk w) (hS : Sms w (.slice a r.length c) r) :
    Calls Tryd.prog 20 #[.agg (headC m old), .agg (headC n root), .slice a r.length c] w (ErrPost w ⟨#[112, 114, 101, 102, 105, 120]⟩ m (consE m old n root r)) := by
  unfold consE
  by_cases h : m < 0 ∨ n < m
  · rw [if_pos h]; exact cons_out m n old root h _ w
  · rw [if_neg h]
    have hm : m = (m.toNat : Int) := by omega
    have hn' : n = (n.toNat : Int) := by omega
    obtain ⟨j, hj⟩ : ∃ j, j = m.toNat := ⟨_, rfl⟩
    obtain ⟨k, hk⟩ : ∃ k, k = n.toNat := ⟨_, rfl⟩
    rw [← hj] at hm ⊢
    rw [← hk] at hn' ⊢
    subst hm hn'
    exact cons_in ho hr (by omega) (by omega) _ w _ (fun V b => elder_calls ho hr j k (by omega) (by omega) r a c V (hR.below b) (hS.below b))
end Go.Proofs.YthbncejbcegmgaaDoor.prf
end

