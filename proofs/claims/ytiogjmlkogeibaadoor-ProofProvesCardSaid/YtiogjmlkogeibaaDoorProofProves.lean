/- ProofProves: for every proof, leaf, two numbers, old and new root the law answers true, and its arguments read afterwards as they did. Conditions: the row lists two package-level variables (digest's table of rounds, errors.errorType); the card ties them to the program's own text. -/
import Derived.Test.YtiogjmlkogeibaaDoorPrfU
import Derived.Test.YtiogjmlkogeibaaDoorPrfY
import Derived.Test.YtiogjmlkogeibaaDoorHeldK
import Derived.Test.YtiogjmlkogeibaaDoorCards
import Derived.Test.YtiogjmlkogeibaaDoorTie
import Derived.ProofKit
import Derived.OpenShut
import Derived.ShutString
import Derived.SevenTiedAt
namespace Go.Proofs.YtiogjmlkogeibaaDoor.proofProves
open Go Go.ChangeShapes Go.WideShapes Go.ChangeAt Go.RowKit Go.Proofs.YtiogjmlkogeibaaDoor.dig Go.Proofs.YtiogjmlkogeibaaDoor.prf
open Go.ChangeMaps (open_string shut_string)

set_option maxRecDepth 100000 in
theorem openedS0 {H : Type} {enc : TypeId × Value → H} {w W : World} {spare : Nat → Bool} {held : Bool} {r : Reach} {b0 : Nat} {v : Value} {d : DataW H} {p : List MemPlace}
    (hw : Value.okWide Tryd.prog W r b0 48 v) (h : DataW.Trod enc Tryd.prog w 0 spare held 48 v d p) : ∃ q : PrA, Sms w q.v q.r ∧ v = q.val := opened_proof hw h

structure Pv (w W : World) (K I N : Int) (u : Value) (r : List (List UInt8)) : Prop where
  bel : Below w.heap.size w W
  hb : Has W w.heap.size 48 (prC K I N u)
  hs : Sms W u r
theorem Pv.below {w W W' : World} {K I N : Int} {u : Value} {r : List (List UInt8)} (h : Pv w W K I N u r) (b : Below W.heap.size W W') : Pv w W' K I N u r :=
  ⟨h.bel.trans (b.mono h.bel.size), h.hb.below b h.hb.lt, h.hs.below b⟩
structure Qv (w W : World) (K I N : Int) (u : Value) (r : List (List UInt8)) (m n : Int) (x y : List UInt8) (g1 g2 : Nat) : Prop where
  pv : Pv w W K I N u r
  h1 : Has W g1 33 (headC m x)
  h2 : Has W g2 33 (headC n y)
theorem Qv.below {w W W' : World} {K I N m n : Int} {u : Value} {r : List (List UInt8)} {x y : List UInt8} {g1 g2 : Nat} (h : Qv w W K I N u r m n x y g1 g2) (b : Below W.heap.size W W') : Qv w W' K I N u r m n x y g1 g2 :=
  ⟨h.pv.below b, h.h1.below b h.h1.lt, h.h2.below b h.h2.lt⟩

theorem few_val (n : Int) (w : World) : Calls Tryd.prog 8 #[.int .i64 n] w fun en w' => en = .returned (.int .i64 (min (max n (-3)) 300)) ∧ w = w' := by
  go_enter Tryd.func8, Tryd.ntmps8
  go_wp2_with fail
  go_ret
  exact ⟨rfl, rfl⟩

set_option maxRecDepth 100000 in
theorem pth_arg : pth proofB 4 = ⟨#[112, 114, 111, 111, 102, 47, 97, 114, 103]⟩ := by kernel_rfl

set_option maxRecDepth 100000 in
set_option maxHeartbeats 8000000 in
theorem walk (p : PrA) (lf : ByteArray) (m0 n0 : Int) (old0 root0 : ByteArray) (w : World) (hp : Sms w p.v p.r) (hlf : lf.size ≤ maxLen) (_hm0 : (Lit.int .i64 m0).wf = true) (_hn0 : (Lit.int .i64 n0).wf = true) (_ho : old0.size ≤ maxLen) (_hr : root0.size ≤ maxLen) (hL : Lw w) :
    Calls Tryd.prog 5 #[p.val, .string lf, .int .i64 m0, .int .i64 n0, .string old0, .string root0] w fun en w' => en = .returned (.bool true) ∧ Below w.heap.size w w' := by
  obtain ⟨K, I0, N0, v, r⟩ := p
  show Calls Tryd.prog 5 #[.agg (prC K I0 N0 v), .string lf, .int .i64 m0, .int .i64 n0, .string old0, .string root0] w _
  have HP := Lib.hid hp
  have HL := Lib.hid hL
  have HLF := Lib.hid hlf
  clear hp hL hlf
  go_enter Tryd.func5, Tryd.ntmps5
  go_wp2_with fail
  refine callsName (fun W hW => ?_)
  have B0 : Hid (Below w.heap.size w W ∧ Has W w.heap.size 48 (prC K I0 N0 v)) := by rw [← hW]; exact Lib.hid ⟨(Below.refl _ _).alloc (Nat.le_refl _) _, made_at _ _ rfl⟩
  clear hW
  refine (awake_any W (HL.out.below B0.out.1)).mono ?_
  rintro en w1 ⟨rfl, b1⟩
  have B1 : Hid (Below w.heap.size w w1 ∧ Has w1 w.heap.size 48 (prC K I0 N0 v)) := Lib.hid ⟨B0.out.1.trans (b1.mono B0.out.1.size), B0.out.2.below b1 B0.out.2.lt⟩
  clear b1 B0
  go_wp2_with fail
  refine (cut_any lf 20 w1 (by decide) HLF.out).mono ?_
  rintro en w' ⟨rfl, rfl⟩
  obtain ⟨leaf, hleaf, hls⟩ := cut_size lf 20
  rw [hleaf]
  have HLS : Hid (leaf.size ≤ 20) := Lib.hid hls
  clear hleaf hls
  obtain ⟨m, hm⟩ : ∃ m : Int, m = min (max m0 (-3)) 300 := ⟨_, rfl⟩
  obtain ⟨n, hn⟩ : ∃ n : Int, n = min (max n0 (-3)) 300 := ⟨_, rfl⟩
  obtain ⟨I, hI⟩ : ∃ I : Int, I = min (max I0 (-3)) 300 := ⟨_, rfl⟩
  obtain ⟨N, hN⟩ : ∃ N : Int, N = min (max N0 (-3)) 300 := ⟨_, rfl⟩
  have FM : Hid (∀ V, Calls Tryd.prog 8 #[.int .i64 m0] V fun en w' => en = .returned (.int .i64 m) ∧ V = w') := Lib.hid fun V => by rw [hm]; exact few_val m0 V
  have FN : Hid (∀ V, Calls Tryd.prog 8 #[.int .i64 n0] V fun en w' => en = .returned (.int .i64 n) ∧ V = w') := Lib.hid fun V => by rw [hn]; exact few_val n0 V
  have FI : Hid (∀ V, Calls Tryd.prog 8 #[.int .i64 I0] V fun en w' => en = .returned (.int .i64 I) ∧ V = w') := Lib.hid fun V => by rw [hI]; exact few_val I0 V
  have FNN : Hid (∀ V, Calls Tryd.prog 8 #[.int .i64 N0] V fun en w' => en = .returned (.int .i64 N) ∧ V = w') := Lib.hid fun V => by rw [hN]; exact few_val N0 V
  have HB : Hid (m ≤ 300 ∧ n ≤ 300 ∧ I ≤ 300 ∧ N ≤ 300) := Lib.hid (by omega)
  clear hm hn hI hN
  go_wp2_with fail
  obtain ⟨V0, hV0⟩ : ∃ V, V = w1.drew := ⟨_, rfl⟩
  refine wp_region_heldK 13 (fun V => Pv w V K I0 N0 v r) V0 hV0 (by kernel_rfl) ?_
  have S0 : Pv w V0 K I0 N0 v r := by rw [hV0]; exact ⟨B1.out.1.drew, B1.out.2.drew, HP.out.below B1.out.1.drew⟩
  clear hV0 B1
  refine heldK_take 0 (some 20) (v := .int .i64 m0) rfl rfl (by kernel_rfl) (by kernel_rfl) (by kernel_rfl) (by kernel_rfl) (by kernel_rfl) (by decide) (fun _ _ _ h => h) (.inl ⟨by kernel_rfl, fun V hV => by go_simp⟩) S0 ?_
  refine heldK_take 2 (some 22) (v := .int .i64 n0) rfl rfl (by kernel_rfl) (by kernel_rfl) (by kernel_rfl) (by kernel_rfl) (by kernel_rfl) (by decide) (fun _ _ _ h => h) (.inl ⟨by kernel_rfl, fun V hV => by go_simp⟩) S0 ?_
  refine heldK_take 4 (some 24) (v := .pointer (some ⟨w.heap.size, 1, none⟩)) rfl rfl (by kernel_rfl) (by kernel_rfl) (by kernel_rfl) (by kernel_rfl) (by kernel_rfl) (by decide) (fun _ _ _ h => h) (.inl ⟨by kernel_rfl, fun V hV => by go_simp⟩) S0 ?_
  refine heldK_take 5 (some 25) (v := .int .i64 I0) rfl rfl (by kernel_rfl) (by kernel_rfl) (by kernel_rfl) (by kernel_rfl) (by kernel_rfl) (by decide) (fun _ _ _ h => h) (.inl ⟨by kernel_rfl, fun V hV => by (have c1 : V.cell? ⟨w.heap.size, 1, none⟩ = some (.int .i64 I0) := Has.cell (show Pv w V K I0 N0 v r from hV).hb 1); go_simp⟩) S0 ?_
  refine heldK_take 7 (some 27) (v := .pointer (some ⟨w.heap.size, 2, none⟩)) rfl rfl (by kernel_rfl) (by kernel_rfl) (by kernel_rfl) (by kernel_rfl) (by kernel_rfl) (by decide) (fun _ _ _ h => h) (.inl ⟨by kernel_rfl, fun V hV => by go_simp⟩) S0 ?_
  refine heldK_take 8 (some 28) (v := .int .i64 N0) rfl rfl (by kernel_rfl) (by kernel_rfl) (by kernel_rfl) (by kernel_rfl) (by kernel_rfl) (by decide) (fun _ _ _ h => h) (.inl ⟨by kernel_rfl, fun V hV => by (have c1 : V.cell? ⟨w.heap.size, 2, none⟩ = some (.int .i64 N0) := Has.cell (show Pv w V K I0 N0 v r from hV).hb 2); go_simp⟩) S0 ?_
  simp only [Act.put, List.setIfInBounds_toArray, List.set_cons_zero, List.set_cons_succ]
  refine heldK_one (i := 1) (by kernel_rfl) ?_
  refine wpOp_call (some 21) rfl rfl (by kernel_rfl) 8 Tryd.f8 Tryd.func8 (by kernel_rfl) (by kernel_rfl) _ _ rfl #[.int .i64 m0] (by first | (simp [Act.eval]; done) | (simp [Act.eval, Act.put]; done)) (FM.out V0) ?_
  rintro en V1 ⟨rfl, rfl⟩
  refine ⟨_, rfl, S0, ?_⟩
  simp only [Act.put, List.setIfInBounds_toArray, List.set_cons_zero, List.set_cons_succ]
  refine heldK_one (i := 3) (by kernel_rfl) ?_
  refine wpOp_call (some 23) rfl rfl (by kernel_rfl) 8 Tryd.f8 Tryd.func8 (by kernel_rfl) (by kernel_rfl) _ _ rfl #[.int .i64 n0] (by first | (simp [Act.eval]; done) | (simp [Act.eval, Act.put]; done)) (FN.out V0) ?_
  rintro en V1 ⟨rfl, rfl⟩
  refine ⟨_, rfl, S0, ?_⟩
  simp only [Act.put, List.setIfInBounds_toArray, List.set_cons_zero, List.set_cons_succ]
  refine heldK_one (i := 6) (by kernel_rfl) ?_
  refine wpOp_call (some 26) rfl rfl (by kernel_rfl) 8 Tryd.f8 Tryd.func8 (by kernel_rfl) (by kernel_rfl) _ _ rfl #[.int .i64 I0] (by first | (simp [Act.eval]; done) | (simp [Act.eval, Act.put]; done)) (FI.out V0) ?_
  rintro en V1 ⟨rfl, rfl⟩
  refine ⟨_, rfl, S0, ?_⟩
  simp only [Act.put, List.setIfInBounds_toArray, List.set_cons_zero, List.set_cons_succ]
  refine heldK_one (i := 9) (by kernel_rfl) ?_
  refine wpOp_call (some 29) rfl rfl (by kernel_rfl) 8 Tryd.f8 Tryd.func8 (by kernel_rfl) (by kernel_rfl) _ _ rfl #[.int .i64 N0] (by first | (simp [Act.eval]; done) | (simp [Act.eval, Act.put]; done)) (FNN.out V0) ?_
  rintro en V1 ⟨rfl, rfl⟩
  refine ⟨_, rfl, S0, ?_⟩
  simp only [Act.put, List.setIfInBounds_toArray, List.set_cons_zero, List.set_cons_succ]
  refine heldK_take 10 (some 2) (v := .int .i64 m) rfl rfl (by kernel_rfl) (by kernel_rfl) (by kernel_rfl) (by kernel_rfl) (by kernel_rfl) (by decide) (fun _ _ _ h => h) (.inl ⟨by kernel_rfl, fun V hV => by go_simp⟩) S0 ?_
  refine heldK_take 11 (some 3) (v := .int .i64 n) rfl rfl (by kernel_rfl) (by kernel_rfl) (by kernel_rfl) (by kernel_rfl) (by kernel_rfl) (by decide) (fun _ _ _ h => h) (.inl ⟨by kernel_rfl, fun V hV => by go_simp⟩) S0 ?_
  refine heldK_take 12 (some 30) (v := .pointer (some ⟨w.heap.size, 1, none⟩)) rfl rfl (by kernel_rfl) (by kernel_rfl) (by kernel_rfl) (by kernel_rfl) (by kernel_rfl) (by decide) (fun _ _ _ h => h) (.inl ⟨by kernel_rfl, fun V hV => by go_simp⟩) S0 ?_
  simp only [Act.put, List.setIfInBounds_toArray, List.set_cons_zero, List.set_cons_succ]
  have f1 : V0.frozen? ⟨w.heap.size, 1, none⟩ = false := S0.hb.free 1
  have f2 : V0.frozen? ⟨w.heap.size, 2, none⟩ = false := S0.hb.free 2
  have k1 : V0.cell? ⟨w.heap.size, 1, none⟩ = some (.int .i64 I0) := S0.hb.cell 1
  have k2 : V0.cell? ⟨w.heap.size, 2, none⟩ = some (.int .i64 N0) := S0.hb.cell 2
  refine heldK_at (by kernel_rfl) ?_
  refine wpOp_skip (w' := V0.setCell ⟨w.heap.size, 1, none⟩ (.int .i64 I)) rfl rfl (by kernel_rfl) (by go_simp) ?_
  refine heldK_past (i := 14) (by kernel_rfl) (by kernel_rfl) ?_
  refine wpOp_value (some 31) (v := .pointer (some ⟨w.heap.size, 2, none⟩)) (w' := V0.setCell ⟨w.heap.size, 1, none⟩ (.int .i64 I)) rfl rfl (by kernel_rfl) (by go_simp) ?_
  simp only [Act.put, List.setIfInBounds_toArray, List.set_cons_zero, List.set_cons_succ]
  refine heldK_past (i := 15) (by kernel_rfl) (by kernel_rfl) ?_
  refine wpOp_skip (w' := (V0.setCell ⟨w.heap.size, 1, none⟩ (.int .i64 I)).setCell ⟨w.heap.size, 2, none⟩ (.int .i64 N)) rfl rfl (by kernel_rfl) (by go_simp) ?_
  refine heldK_done (by kernel_rfl) ?_ _
  obtain ⟨W4, hW4⟩ : ∃ W4, W4 = (V0.setCell ⟨w.heap.size, 1, none⟩ (.int .i64 I)).setCell ⟨w.heap.size, 2, none⟩ (.int .i64 N) := ⟨_, rfl⟩
  have K4 : Hid (Pv w W4 K I N v r) := by
    rw [hW4]
    have b4 := (S0.bel.setCell (p := ⟨w.heap.size, 1, none⟩) (Nat.le_refl _) (.int .i64 I)).setCell (p := ⟨w.heap.size, 2, none⟩) (Nat.le_refl _) (.int .i64 N)
    exact Lib.hid ⟨b4, by simpa using (S0.hb.put 1 (.int .i64 I)).put 2 (.int .i64 N), HP.out.below b4⟩
  rw [← hW4]
  clear hW4 S0 f1 f2 k1 k2 FM FN FI FNN
  obtain ⟨a, c, rfl, hlc, hcm⟩ := HP.out.slice
  generalize hl : r.length = l at *
  have c3 : W4.cell? ⟨w.heap.size, 3, none⟩ = some (.slice a l c) := K4.out.hb.cell 3
  have f3 : W4.frozen? ⟨w.heap.size, 3, none⟩ = false := K4.out.hb.free 3
  obtain ⟨x, hx⟩ : ∃ x, x = pad old0.data.toList := ⟨_, rfl⟩
  obtain ⟨y, hy⟩ : ∃ y, y = pad root0.data.toList := ⟨_, rfl⟩
  have HX : Hid (x.length = 32) := Lib.hid (by rw [hx]; exact pad_len _)
  have HY : Hid (y.length = 32) := Lib.hid (by rw [hy]; exact pad_len _)
  have CX : Hid (∀ V, Calls Tryd.prog 9 #[.string old0] V fun en w' => en = .returned (.agg (cellsOf x)) ∧ Below V.heap.size V w') := Lib.hid fun V => by rw [hx]; exact lsum_calls old0 V
  have CY : Hid (∀ V, Calls Tryd.prog 9 #[.string root0] V fun en w' => en = .returned (.agg (cellsOf y)) ∧ Below V.heap.size V w') := Lib.hid fun V => by rw [hy]; exact lsum_calls root0 V
  clear hx hy
  by_cases h10 : (10 : Int) < (l : Int)
  · have ha : ∃ g off, a = some ⟨g, off, none⟩ := by
      obtain ⟨⟨a', c', h1, _, _, h4⟩, _⟩ := HP.out
      simp only [Value.slice.injEq] at h1
      obtain ⟨rfl, hl2, rfl⟩ := h1
      obtain ⟨g, off, e, _⟩ := h4 0 _ (List.getElem?_eq_getElem (by rw [List.length_reverse]; omega))
      exact ⟨g, off, e⟩
    obtain ⟨g, off, rfl⟩ := ha
    have d1 : (10 : Int) ≤ (c : Int) := by omega
    have d2 : (c : Int) ≤ 9223372036854775807 := by unfold maxLen at hcm; omega
    go_wp2_with fail
    obtain ⟨r5, hr5⟩ : ∃ r5, r5 = r.drop (l - 10) := ⟨_, rfl⟩
    obtain ⟨u5, hu5⟩ : ∃ u5, u5 = Value.slice (some ⟨g, off, none⟩) 10 c := ⟨_, rfl⟩
    obtain ⟨W5, hW5⟩ : ∃ W5, W5 = W4.setCell ⟨w.heap.size, 3, none⟩ (.slice (some ⟨g, off, none⟩) 10 c) := ⟨_, rfl⟩
    rw [← hW5]
    have K5 : Hid (Pv w W5 K I N u5 r5) := by
      rw [hW5, hu5, hr5]
      have b5 := K4.out.bel.setCell (p := ⟨w.heap.size, 3, none⟩) (Nat.le_refl _) (.slice (some ⟨g, off, none⟩) 10 c)
      exact Lib.hid ⟨b5, by simpa using K4.out.hb.put 3 (.slice (some ⟨g, off, none⟩) 10 c), (Sms.front HP.out (by omega)).below b5⟩
    have U5 : Hid (∃ a c, u5 = Value.slice a r5.length c) := Lib.hid ⟨some ⟨g, off, none⟩, c, by rw [hu5, hr5, List.length_drop, hl, show l - (l - 10) = 10 by omega]⟩
    clear hW5 hu5 hr5 d1 d2 K4 c3 f3 HP hlc hcm h10 hl
    refine (CX.out W5).mono ?_
    rintro en w6 ⟨rfl, b6⟩
    have K6 := Lib.hid (K5.out.below b6)
    clear b6 K5 CX
    go_wp2_with (first
      | ((with_reducible refine at_op 43 ?_); refine wpList_head (o := ⟨some 43, _, _, _, _, _⟩) rfl _ _ rfl m x rfl rfl HX.out ?_)
      | fail)
    refine (CY.out w6).mono ?_
    rintro en w7 ⟨rfl, b7⟩
    have K7 := Lib.hid (K6.out.below b7)
    clear b7 K6 CY
    have LW : Hid (w.heap.size < w7.heap.size) := Lib.hid K7.out.hb.lt
    go_wp2_with (first
      | ((with_reducible refine at_op 47 ?_); refine wpList_head (o := ⟨some 47, _, _, _, _, _⟩) rfl _ _ rfl n y rfl rfl HY.out ?_)
      | ((with_reducible refine at_store (.tmp 13) ?_); refine wpList_store_head (o := ⟨none, _, _, _, _, _⟩) rfl _ _ rfl w7.heap.size m 0 x Z rfl rfl ((made_at _ _ rfl).alloc _) HX.out Z_len ?_; intro W8 HW8 TW8
         (have K8 : Hid (Pv w W8 K I N u5 r5 ∧ Sms w7 u5 r5 ∧ Below w7.heap.size w7 W8 ∧ Has W8 w7.heap.size 33 (headC m x) ∧ Has W8 (w7.heap.size + 1) 33 (headC 0 Z)) := Lib.hid (by
           have b8 : Below w7.heap.size w7 W8 := (((Below.refl _ _).alloc (Nat.le_refl _) _).alloc (by simp) _).trans (TW8.below (by simp; omega) (fun j hj e => by omega))
           exact ⟨K7.out.below b8, K7.out.hs, b8, HW8, (made_at _ _ (by simp)).turn TW8 (by omega)⟩))
         (clear TW8 HW8 K7))
      | ((with_reducible refine at_store (.tmp 14) ?_); refine wpList_store_head (o := ⟨none, _, _, _, _, _⟩) rfl _ _ rfl (w7.heap.size + 1) n 0 y Z rfl rfl K8.out.2.2.2.2 HY.out Z_len ?_; intro W9 HW9 TW9
         (have Q9 : Hid (Qv w W9 K I N u5 r5 m n x y w7.heap.size (w7.heap.size + 1)) := Lib.hid (by
           have h8 := K8.out.2.2.2.2.lt
           have hs := K8.out.1.hb.lt
           exact ⟨⟨K8.out.1.bel.trans (TW9.below K8.out.1.bel.size (fun j hj e => by have := LW.out; omega)), K8.out.1.hb.turn TW9 (by have := LW.out; omega), K8.out.2.1.below (K8.out.2.2.1.trans (TW9.below K8.out.2.2.1.size (fun j hj e => by omega)))⟩, K8.out.2.2.2.1.turn TW9 (by omega), HW9⟩))
         (clear TW9 HW9 K8))
      | ((with_reducible refine at_op 48 ?_); refine wpList_load_row (o := ⟨some 48, _, _, _, _, _⟩) rfl 48 _ rfl w.heap.size rfl 48 (prC K I N u5) (0, 0) _ Q9.out.pv.hb Tryd.underlying48 rfl (by kernel_rfl) ?_)
      | ((with_reducible refine at_op 50 ?_); refine wpList_load_row (o := ⟨some 50, _, _, _, _, _⟩) rfl 33 _ rfl w7.heap.size rfl 33 (headC m x) (0, 0) _ Q9.out.h1 Tryd.underlying33 rfl (by rw [headC_size, HX.out]; kernel_rfl) ?_)
      | ((with_reducible refine at_op 51 ?_); refine wpList_load_row (o := ⟨some 51, _, _, _, _, _⟩) rfl 33 _ rfl (w7.heap.size + 1) rfl 33 (headC n y) (0, 0) _ Q9.out.h2 Tryd.underlying33 rfl (by rw [headC_size, HY.out]; kernel_rfl) ?_)
      | fail)
    generalize w7.heap.size = g1 at *
    clear LW
    by_cases k1 : K = 1 ∧ N = n
    · obtain ⟨hK, hN⟩ := k1
      subst hK; subst hN
      obtain ⟨E, hE⟩ : ∃ E, E = inclE leaf.data.toList I N y r5 := ⟨_, rfl⟩
      have HE : Hid (0 ≤ E ∧ E ≤ 20) := Lib.hid (by rw [hE]; constructor <;> (unfold inclE; split <;> (try split) <;> omega))
      have CI : Hid (∀ V, Pv w V 1 I N u5 r5 → Calls Tryd.prog 11 #[.string leaf, .int .i64 I, .agg (headC N y), u5] V (ErrPost V leafB I E)) := Lib.hid (by
        obtain ⟨a, c, hu⟩ := U5.out
        intro V hV
        rw [hu, hE]
        have h2 := hV.hs
        rw [hu] at h2
        exact incl_calls leaf I N y HY.out (by have := HB.out; omega) r5 a c V (HL.out.below hV.bel).rk h2 (by have := HLS.out; omega))
      clear hE
      obtain ⟨t, ht⟩ : ∃ t, t = pth leafB E := ⟨_, rfl⟩
      have PH : Hid (∀ V v, Lw V → IsErr V v leafB I E → Calls Tryd.prog 19 #[v] V fun en w' => en = .returned (.string t) ∧ Below V.heap.size V w') := Lib.hid fun V v h h2 => by rw [ht]; exact path_err h.et h2 HE.out.1 HE.out.2 (by decide)
      clear ht
      refine (proves_leaf HY.out leaf I N m u5 W9 E (fun V b => CI.out V (Q9.out.pv.below b))).mono ?_
      rintro en w10 ⟨e, rfl, he, b⟩
      have K10 : Hid (Qv w w10 1 I N u5 r5 m N x y g1 (g1 + 1) ∧ IsErr w10 e leafB I E) := Lib.hid ⟨Q9.out.below b, he⟩
      clear he b Q9
      have c0 : w10.cell? ⟨w.heap.size, 0, none⟩ = some (.int .i64 1) := K10.out.1.pv.hb.cell 0
      have c1 : w10.cell? ⟨w.heap.size, 1, none⟩ = some (.int .i64 I) := K10.out.1.pv.hb.cell 1
      have c2 : w10.cell? ⟨w.heap.size, 2, none⟩ = some (.int .i64 N) := K10.out.1.pv.hb.cell 2
      go_wp2_with fail
      clear c0 c1 c2
      obtain ⟨V0, hV0⟩ : ∃ V, V = w10.drew := ⟨_, rfl⟩
      have QV : ∀ V, (Qv w V 1 I N u5 r5 m N x y g1 (g1 + 1) ∧ IsErr V e leafB I E) → Qv w V 1 I N u5 r5 m N x y g1 (g1 + 1) := fun V h => h.1
      refine prf.wp_region_held (fun V => Qv w V 1 I N u5 r5 m N x y g1 (g1 + 1) ∧ IsErr V e leafB I E) V0 hV0 (by kernel_rfl) ?_
      have S0 : Qv w V0 1 I N u5 r5 m N x y g1 (g1 + 1) ∧ IsErr V0 e leafB I E := by rw [hV0]; exact ⟨K10.out.1.below (Below.refl _ _).drew, K10.out.2.below (Below.refl _ _).drew⟩
      clear hV0 K10
      refine held_take 0 (some 63) (v := e) rfl rfl (by kernel_rfl) (by kernel_rfl) (by kernel_rfl) (fun _ _ _ h => h) (.inl ⟨by kernel_rfl, fun V hV => by go_simp⟩) S0 ?_
      refine held_take 2 (some 65) (v := .string leaf) rfl rfl (by kernel_rfl) (by kernel_rfl) (by kernel_rfl) (fun _ _ _ h => h) (.inl ⟨by kernel_rfl, fun V hV => by go_simp⟩) S0 ?_
      refine held_take 3 (some 66) (v := .pointer (some ⟨w.heap.size, 1, none⟩)) rfl rfl (by kernel_rfl) (by kernel_rfl) (by kernel_rfl) (fun _ _ _ h => h) (.inl ⟨by kernel_rfl, fun V hV => by go_simp⟩) S0 ?_
      refine held_take 4 (some 67) (v := .int .i64 I) rfl rfl (by kernel_rfl) (by kernel_rfl) (by kernel_rfl) (fun _ _ _ h => h) (.inl ⟨by kernel_rfl, fun V hV => by (have c1 : V.cell? ⟨w.heap.size, 1, none⟩ = some (.int .i64 I) := Has.cell (QV V hV).pv.hb 1); go_simp⟩) S0 ?_
      refine held_take 5 (some 68) (v := .agg (headC N y)) rfl rfl (by kernel_rfl) (by kernel_rfl) (by kernel_rfl) (fun _ _ _ h => h) (.inl ⟨by kernel_rfl, fun V hV => by exact exec_load 33 (.tmp 14) rfl (.pointer (some ⟨g1 + 1, 0, none⟩)) rfl (Has.load_hd (QV V hV).h2 HY.out)⟩) S0 ?_
      refine held_take 6 (some 69) (v := .pointer (some ⟨w.heap.size, 3, none⟩)) rfl rfl (by kernel_rfl) (by kernel_rfl) (by kernel_rfl) (fun _ _ _ h => h) (.inl ⟨by kernel_rfl, fun V hV => by go_simp⟩) S0 ?_
      refine held_take 7 (some 70) (v := u5) rfl rfl (by kernel_rfl) (by kernel_rfl) (by kernel_rfl) (fun _ _ _ h => h) (.inl ⟨by kernel_rfl, fun V hV => by (have c1 : V.cell? ⟨w.heap.size, 3, none⟩ = some (u5) := Has.cell (QV V hV).pv.hb 3); go_simp⟩) S0 ?_
      simp only [Act.put, List.setIfInBounds_toArray, List.set_cons_zero, List.set_cons_succ]
      refine held_one (i := 1) (by kernel_rfl) ?_
      refine wpOp_call (some 64) rfl rfl (by kernel_rfl) 19 Tryd.f19 Tryd.func19 (by kernel_rfl) (by kernel_rfl) _ _ rfl #[e] (by first | (simp [Act.eval]; done) | (simp [Act.eval, Act.put]; done)) (PH.out V0 e (HL.out.below S0.1.pv.bel) S0.2) ?_
      rintro en V1 ⟨rfl, b⟩
      have S1 : Qv w V1 1 I N u5 r5 m N x y g1 (g1 + 1) ∧ IsErr V1 e leafB I E := ⟨S0.1.below b, S0.2.below b⟩
      clear b S0
      refine ⟨_, rfl, S1, ?_⟩
      simp only [Act.put, List.setIfInBounds_toArray, List.set_cons_zero, List.set_cons_succ]
      refine held_one (i := 8) (by kernel_rfl) ?_
      refine wpOp_call (some 71) rfl rfl (by kernel_rfl) 11 Tryd.f11 Tryd.func11 (by kernel_rfl) (by kernel_rfl) _ _ rfl #[.string leaf, .int .i64 I, .agg (headC N y), u5] (by first | (simp [Act.eval]; done) | (simp [Act.eval, Act.put]; done)) (CI.out V1 S1.1.pv) ?_
      rintro en V2 ⟨e2, rfl, he2, b⟩
      have S2 : Qv w V2 1 I N u5 r5 m N x y g1 (g1 + 1) ∧ IsErr V2 e leafB I E := ⟨S1.1.below b, S1.2.below b⟩
      clear b S1
      refine ⟨_, rfl, S2, ?_⟩
      simp only [Act.put, List.setIfInBounds_toArray, List.set_cons_zero, List.set_cons_succ]
      refine held_one (i := 9) (by kernel_rfl) ?_
      refine wpOp_call (some 72) rfl rfl (by kernel_rfl) 19 Tryd.f19 Tryd.func19 (by kernel_rfl) (by kernel_rfl) _ _ rfl #[e2] (by first | (simp [Act.eval]; done) | (simp [Act.eval, Act.put]; done)) (PH.out V2 e2 (HL.out.below S2.1.pv.bel) he2) ?_
      rintro en V3 ⟨rfl, b⟩
      have S3 : Qv w V3 1 I N u5 r5 m N x y g1 (g1 + 1) ∧ IsErr V3 e leafB I E := ⟨S2.1.below b, S2.2.below b⟩
      clear b S2 he2
      refine ⟨_, rfl, S3, ?_⟩
      simp only [Act.put, List.setIfInBounds_toArray, List.set_cons_zero, List.set_cons_succ]
      refine held_take 10 (some 73) (v := .bool true) rfl rfl (by kernel_rfl) (by kernel_rfl) (by kernel_rfl) (fun _ _ _ h => h) (.inl ⟨by kernel_rfl, fun V hV => by go_simp⟩) S3 ?_
      refine held_take 11 (some 12) (v := .bool true) rfl rfl (by kernel_rfl) (by kernel_rfl) (by kernel_rfl) (fun _ _ _ h => h) (.inl ⟨by kernel_rfl, fun V hV => by go_simp⟩) S3 ?_
      simp only [Act.put, List.setIfInBounds_toArray, List.set_cons_zero, List.set_cons_succ]
      refine wpAnyH_done (by kernel_rfl) ?_ _
      have HS3 := Lib.hid S3.1.pv.bel
      clear S3 QV
      go_wp2_with fail
      go_ret
      exact ⟨rfl, HS3.out⟩
    by_cases k2 : K = 2 ∧ N = n ∧ I = m
    · obtain ⟨hK, hN, hI⟩ := k2
      subst hK; subst hN; subst hI
      obtain ⟨E, hE⟩ : ∃ E, E = consE I x N y r5 := ⟨_, rfl⟩
      have HE : Hid (0 ≤ E ∧ E ≤ 20) := Lib.hid (by rw [hE]; constructor <;> (unfold consE; split <;> (try split) <;> omega))
      have CI : Hid (∀ V, Pv w V 2 I N u5 r5 → Calls Tryd.prog 12 #[.agg (headC I x), .agg (headC N y), u5] V (ErrPost V prefixB I E)) := Lib.hid (by
        obtain ⟨a, c, hu⟩ := U5.out
        intro V hV
        rw [hu, hE]
        have h2 := hV.hs
        rw [hu] at h2
        exact cons_calls HX.out HY.out I N (by have := HB.out; omega) r5 a c V (HL.out.below hV.bel).rk h2)
      clear hE
      obtain ⟨t, ht⟩ : ∃ t, t = pth prefixB E := ⟨_, rfl⟩
      have PH : Hid (∀ V v, Lw V → IsErr V v prefixB I E → Calls Tryd.prog 19 #[v] V fun en w' => en = .returned (.string t) ∧ Below V.heap.size V w') := Lib.hid fun V v h h2 => by rw [ht]; exact path_err h.et h2 HE.out.1 HE.out.2 (by decide)
      clear ht
      refine (proves_prefix HX.out HY.out leaf I N u5 W9 E (fun V b => CI.out V (Q9.out.pv.below b))).mono ?_
      rintro en w10 ⟨e, rfl, he, b⟩
      have K10 : Hid (Qv w w10 2 I N u5 r5 I N x y g1 (g1 + 1) ∧ IsErr w10 e prefixB I E) := Lib.hid ⟨Q9.out.below b, he⟩
      clear he b Q9
      have c0 : w10.cell? ⟨w.heap.size, 0, none⟩ = some (.int .i64 2) := K10.out.1.pv.hb.cell 0
      have c1 : w10.cell? ⟨w.heap.size, 1, none⟩ = some (.int .i64 I) := K10.out.1.pv.hb.cell 1
      have c2 : w10.cell? ⟨w.heap.size, 2, none⟩ = some (.int .i64 N) := K10.out.1.pv.hb.cell 2
      go_wp2_with fail
      clear c0 c1 c2
      obtain ⟨V0, hV0⟩ : ∃ V, V = w10.drew := ⟨_, rfl⟩
      have QV : ∀ V, (Qv w V 2 I N u5 r5 I N x y g1 (g1 + 1) ∧ IsErr V e prefixB I E) → Qv w V 2 I N u5 r5 I N x y g1 (g1 + 1) := fun V h => h.1
      refine prf.wp_region_held (fun V => Qv w V 2 I N u5 r5 I N x y g1 (g1 + 1) ∧ IsErr V e prefixB I E) V0 hV0 (by kernel_rfl) ?_
      have S0 : Qv w V0 2 I N u5 r5 I N x y g1 (g1 + 1) ∧ IsErr V0 e prefixB I E := by rw [hV0]; exact ⟨K10.out.1.below (Below.refl _ _).drew, K10.out.2.below (Below.refl _ _).drew⟩
      clear hV0 K10
      refine held_take 0 (some 90) (v := e) rfl rfl (by kernel_rfl) (by kernel_rfl) (by kernel_rfl) (fun _ _ _ h => h) (.inl ⟨by kernel_rfl, fun V hV => by go_simp⟩) S0 ?_
      refine held_take 2 (some 92) (v := .agg (headC I x)) rfl rfl (by kernel_rfl) (by kernel_rfl) (by kernel_rfl) (fun _ _ _ h => h) (.inl ⟨by kernel_rfl, fun V hV => by exact exec_load 33 (.tmp 13) rfl (.pointer (some ⟨g1, 0, none⟩)) rfl (Has.load_hd (QV V hV).h1 HX.out)⟩) S0 ?_
      refine held_take 3 (some 93) (v := .agg (headC N y)) rfl rfl (by kernel_rfl) (by kernel_rfl) (by kernel_rfl) (fun _ _ _ h => h) (.inl ⟨by kernel_rfl, fun V hV => by exact exec_load 33 (.tmp 14) rfl (.pointer (some ⟨g1 + 1, 0, none⟩)) rfl (Has.load_hd (QV V hV).h2 HY.out)⟩) S0 ?_
      refine held_take 4 (some 94) (v := .pointer (some ⟨w.heap.size, 3, none⟩)) rfl rfl (by kernel_rfl) (by kernel_rfl) (by kernel_rfl) (fun _ _ _ h => h) (.inl ⟨by kernel_rfl, fun V hV => by go_simp⟩) S0 ?_
      refine held_take 5 (some 95) (v := u5) rfl rfl (by kernel_rfl) (by kernel_rfl) (by kernel_rfl) (fun _ _ _ h => h) (.inl ⟨by kernel_rfl, fun V hV => by (have c1 : V.cell? ⟨w.heap.size, 3, none⟩ = some (u5) := Has.cell (QV V hV).pv.hb 3); go_simp⟩) S0 ?_
      simp only [Act.put, List.setIfInBounds_toArray, List.set_cons_zero, List.set_cons_succ]
      refine held_one (i := 1) (by kernel_rfl) ?_
      refine wpOp_call (some 91) rfl rfl (by kernel_rfl) 19 Tryd.f19 Tryd.func19 (by kernel_rfl) (by kernel_rfl) _ _ rfl #[e] (by first | (simp [Act.eval]; done) | (simp [Act.eval, Act.put]; done)) (PH.out V0 e (HL.out.below S0.1.pv.bel) S0.2) ?_
      rintro en V1 ⟨rfl, b⟩
      have S1 : Qv w V1 2 I N u5 r5 I N x y g1 (g1 + 1) ∧ IsErr V1 e prefixB I E := ⟨S0.1.below b, S0.2.below b⟩
      clear b S0
      refine ⟨_, rfl, S1, ?_⟩
      simp only [Act.put, List.setIfInBounds_toArray, List.set_cons_zero, List.set_cons_succ]
      refine held_one (i := 6) (by kernel_rfl) ?_
      refine wpOp_call (some 96) rfl rfl (by kernel_rfl) 12 Tryd.f12 Tryd.func12 (by kernel_rfl) (by kernel_rfl) _ _ rfl #[.agg (headC I x), .agg (headC N y), u5] (by first | (simp [Act.eval]; done) | (simp [Act.eval, Act.put]; done)) (CI.out V1 S1.1.pv) ?_
      rintro en V2 ⟨e2, rfl, he2, b⟩
      have S2 : Qv w V2 2 I N u5 r5 I N x y g1 (g1 + 1) ∧ IsErr V2 e prefixB I E := ⟨S1.1.below b, S1.2.below b⟩
      clear b S1
      refine ⟨_, rfl, S2, ?_⟩
      simp only [Act.put, List.setIfInBounds_toArray, List.set_cons_zero, List.set_cons_succ]
      refine held_one (i := 7) (by kernel_rfl) ?_
      refine wpOp_call (some 97) rfl rfl (by kernel_rfl) 19 Tryd.f19 Tryd.func19 (by kernel_rfl) (by kernel_rfl) _ _ rfl #[e2] (by first | (simp [Act.eval]; done) | (simp [Act.eval, Act.put]; done)) (PH.out V2 e2 (HL.out.below S2.1.pv.bel) he2) ?_
      rintro en V3 ⟨rfl, b⟩
      have S3 : Qv w V3 2 I N u5 r5 I N x y g1 (g1 + 1) ∧ IsErr V3 e prefixB I E := ⟨S2.1.below b, S2.2.below b⟩
      clear b S2 he2
      refine ⟨_, rfl, S3, ?_⟩
      simp only [Act.put, List.setIfInBounds_toArray, List.set_cons_zero, List.set_cons_succ]
      refine held_take 8 (some 98) (v := .bool true) rfl rfl (by kernel_rfl) (by kernel_rfl) (by kernel_rfl) (fun _ _ _ h => h) (.inl ⟨by kernel_rfl, fun V hV => by go_simp⟩) S3 ?_
      refine held_take 9 (some 12) (v := .bool true) rfl rfl (by kernel_rfl) (by kernel_rfl) (by kernel_rfl) (fun _ _ _ h => h) (.inl ⟨by kernel_rfl, fun V hV => by go_simp⟩) S3 ?_
      simp only [Act.put, List.setIfInBounds_toArray, List.set_cons_zero, List.set_cons_succ]
      refine wpAnyH_done (by kernel_rfl) ?_ _
      have HS3 := Lib.hid S3.1.pv.bel
      clear S3 QV
      go_wp2_with fail
      go_ret
      exact ⟨rfl, HS3.out⟩
    have hk : kindOf K I N m n = 0 := by unfold kindOf; rw [if_neg k1, if_neg k2]
    have key : (K = 1 ∧ (N == n) = false) ∨ (K = 2 ∧ (N == n) = false) ∨ (K = 2 ∧ N = n ∧ (I == m) = false) ∨ ((K == 1) = false ∧ (K == 2) = false) := by
      by_cases h1 : K = 1
      · exact .inl ⟨h1, by simpa using fun h => k1 ⟨h1, h⟩⟩
      · by_cases h3 : K = 2
        · by_cases h2 : N = n
          · exact .inr (.inr (.inl ⟨h3, h2, by simpa using fun h => k2 ⟨h3, h2, h⟩⟩))
          · exact .inr (.inl ⟨h3, by simpa using h2⟩)
        · exact .inr (.inr (.inr ⟨by simpa using h1, by simpa using h3⟩))
    clear k1 k2
    obtain ⟨t, ht⟩ : ∃ t : ByteArray, t = ⟨#[112, 114, 111, 111, 102, 47, 97, 114, 103]⟩ := ⟨_, rfl⟩
    have PH : Hid (∀ V v, Lw V → IsErr V v proofB N 4 → Calls Tryd.prog 19 #[v] V fun en w' => en = .returned (.string ⟨#[112, 114, 111, 111, 102, 47, 97, 114, 103]⟩) ∧ Below V.heap.size V w') := Lib.hid fun V v h h2 => by have h3 := path_err h.et h2 (by decide) (by decide) (by decide); rwa [pth_arg] at h3
    clear ht t
    refine (proves_none leaf K I N m n hk u5 W9).mono ?_
    rintro en w10 ⟨e, rfl, he, b⟩
    have K10 : Hid (Qv w w10 K I N u5 r5 m n x y g1 (g1 + 1) ∧ IsErr w10 e proofB N 4) := Lib.hid ⟨Q9.out.below b, he⟩
    clear he b Q9 hk
    have c0 : w10.cell? ⟨w.heap.size, 0, none⟩ = some (.int .i64 K) := K10.out.1.pv.hb.cell 0
    have c1 : w10.cell? ⟨w.heap.size, 1, none⟩ = some (.int .i64 I) := K10.out.1.pv.hb.cell 1
    have c2 : w10.cell? ⟨w.heap.size, 2, none⟩ = some (.int .i64 N) := K10.out.1.pv.hb.cell 2
    rcases key with ⟨hK, h1⟩ | ⟨hK, h1⟩ | ⟨hK, h2, h1⟩ | ⟨h1, h2⟩
    · subst hK
      go_wp2_with fail
      refine (PH.out w10 e (HL.out.below K10.out.1.pv.bel) K10.out.2).mono ?_
      rintro en w11 ⟨rfl, b⟩
      have B11 := Lib.hid (K10.out.1.pv.bel.trans (b.mono K10.out.1.pv.bel.size))
      clear b K10 c0 c1 c2
      go_wp2_with fail
      go_ret
      exact ⟨rfl, B11.out⟩
    · subst hK
      go_wp2_with fail
      refine (PH.out w10 e (HL.out.below K10.out.1.pv.bel) K10.out.2).mono ?_
      rintro en w11 ⟨rfl, b⟩
      have B11 := Lib.hid (K10.out.1.pv.bel.trans (b.mono K10.out.1.pv.bel.size))
      clear b K10 c0 c1 c2
      go_wp2_with fail
      go_ret
      exact ⟨rfl, B11.out⟩
    · subst hK; subst h2
      go_wp2_with fail
      refine (PH.out w10 e (HL.out.below K10.out.1.pv.bel) K10.out.2).mono ?_
      rintro en w11 ⟨rfl, b⟩
      have B11 := Lib.hid (K10.out.1.pv.bel.trans (b.mono K10.out.1.pv.bel.size))
      clear b K10 c0 c1 c2
      go_wp2_with fail
      go_ret
      exact ⟨rfl, B11.out⟩
    · skip
      go_wp2_with fail
      refine (PH.out w10 e (HL.out.below K10.out.1.pv.bel) K10.out.2).mono ?_
      rintro en w11 ⟨rfl, b⟩
      have B11 := Lib.hid (K10.out.1.pv.bel.trans (b.mono K10.out.1.pv.bel.size))
      clear b K10 c0 c1 c2
      go_wp2_with fail
      go_ret
      exact ⟨rfl, B11.out⟩
  · go_wp2_with fail
    obtain ⟨r5, hr5⟩ : ∃ r5, r5 = r := ⟨_, rfl⟩
    obtain ⟨u5, hu5⟩ : ∃ u5, u5 = Value.slice a l c := ⟨_, rfl⟩
    obtain ⟨W5, hW5⟩ : ∃ W5, W5 = W4 := ⟨_, rfl⟩
    rw [← hW5]
    have K5 : Hid (Pv w W5 K I N u5 r5) := by
      rw [hW5, hu5, hr5]
      exact K4
    have U5 : Hid (∃ a c, u5 = Value.slice a r5.length c) := Lib.hid ⟨a, c, by rw [hu5, hr5, hl]⟩
    clear hW5 hu5 hr5 K4 c3 f3 HP hlc hcm h10 hl
    refine (CX.out W5).mono ?_
    rintro en w6 ⟨rfl, b6⟩
    have K6 := Lib.hid (K5.out.below b6)
    clear b6 K5 CX
    go_wp2_with (first
      | ((with_reducible refine at_op 43 ?_); refine wpList_head (o := ⟨some 43, _, _, _, _, _⟩) rfl _ _ rfl m x rfl rfl HX.out ?_)
      | fail)
    refine (CY.out w6).mono ?_
    rintro en w7 ⟨rfl, b7⟩
    have K7 := Lib.hid (K6.out.below b7)
    clear b7 K6 CY
    have LW : Hid (w.heap.size < w7.heap.size) := Lib.hid K7.out.hb.lt
    go_wp2_with (first
      | ((with_reducible refine at_op 47 ?_); refine wpList_head (o := ⟨some 47, _, _, _, _, _⟩) rfl _ _ rfl n y rfl rfl HY.out ?_)
      | ((with_reducible refine at_store (.tmp 13) ?_); refine wpList_store_head (o := ⟨none, _, _, _, _, _⟩) rfl _ _ rfl w7.heap.size m 0 x Z rfl rfl ((made_at _ _ rfl).alloc _) HX.out Z_len ?_; intro W8 HW8 TW8
         (have K8 : Hid (Pv w W8 K I N u5 r5 ∧ Sms w7 u5 r5 ∧ Below w7.heap.size w7 W8 ∧ Has W8 w7.heap.size 33 (headC m x) ∧ Has W8 (w7.heap.size + 1) 33 (headC 0 Z)) := Lib.hid (by
           have b8 : Below w7.heap.size w7 W8 := (((Below.refl _ _).alloc (Nat.le_refl _) _).alloc (by simp) _).trans (TW8.below (by simp; omega) (fun j hj e => by omega))
           exact ⟨K7.out.below b8, K7.out.hs, b8, HW8, (made_at _ _ (by simp)).turn TW8 (by omega)⟩))
         (clear TW8 HW8 K7))
      | ((with_reducible refine at_store (.tmp 14) ?_); refine wpList_store_head (o := ⟨none, _, _, _, _, _⟩) rfl _ _ rfl (w7.heap.size + 1) n 0 y Z rfl rfl K8.out.2.2.2.2 HY.out Z_len ?_; intro W9 HW9 TW9
         (have Q9 : Hid (Qv w W9 K I N u5 r5 m n x y w7.heap.size (w7.heap.size + 1)) := Lib.hid (by
           have h8 := K8.out.2.2.2.2.lt
           have hs := K8.out.1.hb.lt
           exact ⟨⟨K8.out.1.bel.trans (TW9.below K8.out.1.bel.size (fun j hj e => by have := LW.out; omega)), K8.out.1.hb.turn TW9 (by have := LW.out; omega), K8.out.2.1.below (K8.out.2.2.1.trans (TW9.below K8.out.2.2.1.size (fun j hj e => by omega)))⟩, K8.out.2.2.2.1.turn TW9 (by omega), HW9⟩))
         (clear TW9 HW9 K8))
      | ((with_reducible refine at_op 48 ?_); refine wpList_load_row (o := ⟨some 48, _, _, _, _, _⟩) rfl 48 _ rfl w.heap.size rfl 48 (prC K I N u5) (0, 0) _ Q9.out.pv.hb Tryd.underlying48 rfl (by kernel_rfl) ?_)
      | ((with_reducible refine at_op 50 ?_); refine wpList_load_row (o := ⟨some 50, _, _, _, _, _⟩) rfl 33 _ rfl w7.heap.size rfl 33 (headC m x) (0, 0) _ Q9.out.h1 Tryd.underlying33 rfl (by rw [headC_size, HX.out]; kernel_rfl) ?_)
      | ((with_reducible refine at_op 51 ?_); refine wpList_load_row (o := ⟨some 51, _, _, _, _, _⟩) rfl 33 _ rfl (w7.heap.size + 1) rfl 33 (headC n y) (0, 0) _ Q9.out.h2 Tryd.underlying33 rfl (by rw [headC_size, HY.out]; kernel_rfl) ?_)
      | fail)
    generalize w7.heap.size = g1 at *
    clear LW
    by_cases k1 : K = 1 ∧ N = n
    · obtain ⟨hK, hN⟩ := k1
      subst hK; subst hN
      obtain ⟨E, hE⟩ : ∃ E, E = inclE leaf.data.toList I N y r5 := ⟨_, rfl⟩
      have HE : Hid (0 ≤ E ∧ E ≤ 20) := Lib.hid (by rw [hE]; constructor <;> (unfold inclE; split <;> (try split) <;> omega))
      have CI : Hid (∀ V, Pv w V 1 I N u5 r5 → Calls Tryd.prog 11 #[.string leaf, .int .i64 I, .agg (headC N y), u5] V (ErrPost V leafB I E)) := Lib.hid (by
        obtain ⟨a, c, hu⟩ := U5.out
        intro V hV
        rw [hu, hE]
        have h2 := hV.hs
        rw [hu] at h2
        exact incl_calls leaf I N y HY.out (by have := HB.out; omega) r5 a c V (HL.out.below hV.bel).rk h2 (by have := HLS.out; omega))
      clear hE
      obtain ⟨t, ht⟩ : ∃ t, t = pth leafB E := ⟨_, rfl⟩
      have PH : Hid (∀ V v, Lw V → IsErr V v leafB I E → Calls Tryd.prog 19 #[v] V fun en w' => en = .returned (.string t) ∧ Below V.heap.size V w') := Lib.hid fun V v h h2 => by rw [ht]; exact path_err h.et h2 HE.out.1 HE.out.2 (by decide)
      clear ht
      refine (proves_leaf HY.out leaf I N m u5 W9 E (fun V b => CI.out V (Q9.out.pv.below b))).mono ?_
      rintro en w10 ⟨e, rfl, he, b⟩
      have K10 : Hid (Qv w w10 1 I N u5 r5 m N x y g1 (g1 + 1) ∧ IsErr w10 e leafB I E) := Lib.hid ⟨Q9.out.below b, he⟩
      clear he b Q9
      have c0 : w10.cell? ⟨w.heap.size, 0, none⟩ = some (.int .i64 1) := K10.out.1.pv.hb.cell 0
      have c1 : w10.cell? ⟨w.heap.size, 1, none⟩ = some (.int .i64 I) := K10.out.1.pv.hb.cell 1
      have c2 : w10.cell? ⟨w.heap.size, 2, none⟩ = some (.int .i64 N) := K10.out.1.pv.hb.cell 2
      go_wp2_with fail
      clear c0 c1 c2
      obtain ⟨V0, hV0⟩ : ∃ V, V = w10.drew := ⟨_, rfl⟩
      have QV : ∀ V, (Qv w V 1 I N u5 r5 m N x y g1 (g1 + 1) ∧ IsErr V e leafB I E) → Qv w V 1 I N u5 r5 m N x y g1 (g1 + 1) := fun V h => h.1
      refine prf.wp_region_held (fun V => Qv w V 1 I N u5 r5 m N x y g1 (g1 + 1) ∧ IsErr V e leafB I E) V0 hV0 (by kernel_rfl) ?_
      have S0 : Qv w V0 1 I N u5 r5 m N x y g1 (g1 + 1) ∧ IsErr V0 e leafB I E := by rw [hV0]; exact ⟨K10.out.1.below (Below.refl _ _).drew, K10.out.2.below (Below.refl _ _).drew⟩
      clear hV0 K10
      refine held_take 0 (some 63) (v := e) rfl rfl (by kernel_rfl) (by kernel_rfl) (by kernel_rfl) (fun _ _ _ h => h) (.inl ⟨by kernel_rfl, fun V hV => by go_simp⟩) S0 ?_
      refine held_take 2 (some 65) (v := .string leaf) rfl rfl (by kernel_rfl) (by kernel_rfl) (by kernel_rfl) (fun _ _ _ h => h) (.inl ⟨by kernel_rfl, fun V hV => by go_simp⟩) S0 ?_
      refine held_take 3 (some 66) (v := .pointer (some ⟨w.heap.size, 1, none⟩)) rfl rfl (by kernel_rfl) (by kernel_rfl) (by kernel_rfl) (fun _ _ _ h => h) (.inl ⟨by kernel_rfl, fun V hV => by go_simp⟩) S0 ?_
      refine held_take 4 (some 67) (v := .int .i64 I) rfl rfl (by kernel_rfl) (by kernel_rfl) (by kernel_rfl) (fun _ _ _ h => h) (.inl ⟨by kernel_rfl, fun V hV => by (have c1 : V.cell? ⟨w.heap.size, 1, none⟩ = some (.int .i64 I) := Has.cell (QV V hV).pv.hb 1); go_simp⟩) S0 ?_
      refine held_take 5 (some 68) (v := .agg (headC N y)) rfl rfl (by kernel_rfl) (by kernel_rfl) (by kernel_rfl) (fun _ _ _ h => h) (.inl ⟨by kernel_rfl, fun V hV => by exact exec_load 33 (.tmp 14) rfl (.pointer (some ⟨g1 + 1, 0, none⟩)) rfl (Has.load_hd (QV V hV).h2 HY.out)⟩) S0 ?_
      refine held_take 6 (some 69) (v := .pointer (some ⟨w.heap.size, 3, none⟩)) rfl rfl (by kernel_rfl) (by kernel_rfl) (by kernel_rfl) (fun _ _ _ h => h) (.inl ⟨by kernel_rfl, fun V hV => by go_simp⟩) S0 ?_
      refine held_take 7 (some 70) (v := u5) rfl rfl (by kernel_rfl) (by kernel_rfl) (by kernel_rfl) (fun _ _ _ h => h) (.inl ⟨by kernel_rfl, fun V hV => by (have c1 : V.cell? ⟨w.heap.size, 3, none⟩ = some (u5) := Has.cell (QV V hV).pv.hb 3); go_simp⟩) S0 ?_
      simp only [Act.put, List.setIfInBounds_toArray, List.set_cons_zero, List.set_cons_succ]
      refine held_one (i := 1) (by kernel_rfl) ?_
      refine wpOp_call (some 64) rfl rfl (by kernel_rfl) 19 Tryd.f19 Tryd.func19 (by kernel_rfl) (by kernel_rfl) _ _ rfl #[e] (by first | (simp [Act.eval]; done) | (simp [Act.eval, Act.put]; done)) (PH.out V0 e (HL.out.below S0.1.pv.bel) S0.2) ?_
      rintro en V1 ⟨rfl, b⟩
      have S1 : Qv w V1 1 I N u5 r5 m N x y g1 (g1 + 1) ∧ IsErr V1 e leafB I E := ⟨S0.1.below b, S0.2.below b⟩
      clear b S0
      refine ⟨_, rfl, S1, ?_⟩
      simp only [Act.put, List.setIfInBounds_toArray, List.set_cons_zero, List.set_cons_succ]
      refine held_one (i := 8) (by kernel_rfl) ?_
      refine wpOp_call (some 71) rfl rfl (by kernel_rfl) 11 Tryd.f11 Tryd.func11 (by kernel_rfl) (by kernel_rfl) _ _ rfl #[.string leaf, .int .i64 I, .agg (headC N y), u5] (by first | (simp [Act.eval]; done) | (simp [Act.eval, Act.put]; done)) (CI.out V1 S1.1.pv) ?_
      rintro en V2 ⟨e2, rfl, he2, b⟩
      have S2 : Qv w V2 1 I N u5 r5 m N x y g1 (g1 + 1) ∧ IsErr V2 e leafB I E := ⟨S1.1.below b, S1.2.below b⟩
      clear b S1
      refine ⟨_, rfl, S2, ?_⟩
      simp only [Act.put, List.setIfInBounds_toArray, List.set_cons_zero, List.set_cons_succ]
      refine held_one (i := 9) (by kernel_rfl) ?_
      refine wpOp_call (some 72) rfl rfl (by kernel_rfl) 19 Tryd.f19 Tryd.func19 (by kernel_rfl) (by kernel_rfl) _ _ rfl #[e2] (by first | (simp [Act.eval]; done) | (simp [Act.eval, Act.put]; done)) (PH.out V2 e2 (HL.out.below S2.1.pv.bel) he2) ?_
      rintro en V3 ⟨rfl, b⟩
      have S3 : Qv w V3 1 I N u5 r5 m N x y g1 (g1 + 1) ∧ IsErr V3 e leafB I E := ⟨S2.1.below b, S2.2.below b⟩
      clear b S2 he2
      refine ⟨_, rfl, S3, ?_⟩
      simp only [Act.put, List.setIfInBounds_toArray, List.set_cons_zero, List.set_cons_succ]
      refine held_take 10 (some 73) (v := .bool true) rfl rfl (by kernel_rfl) (by kernel_rfl) (by kernel_rfl) (fun _ _ _ h => h) (.inl ⟨by kernel_rfl, fun V hV => by go_simp⟩) S3 ?_
      refine held_take 11 (some 12) (v := .bool true) rfl rfl (by kernel_rfl) (by kernel_rfl) (by kernel_rfl) (fun _ _ _ h => h) (.inl ⟨by kernel_rfl, fun V hV => by go_simp⟩) S3 ?_
      simp only [Act.put, List.setIfInBounds_toArray, List.set_cons_zero, List.set_cons_succ]
      refine wpAnyH_done (by kernel_rfl) ?_ _
      have HS3 := Lib.hid S3.1.pv.bel
      clear S3 QV
      go_wp2_with fail
      go_ret
      exact ⟨rfl, HS3.out⟩
    by_cases k2 : K = 2 ∧ N = n ∧ I = m
    · obtain ⟨hK, hN, hI⟩ := k2
      subst hK; subst hN; subst hI
      obtain ⟨E, hE⟩ : ∃ E, E = consE I x N y r5 := ⟨_, rfl⟩
      have HE : Hid (0 ≤ E ∧ E ≤ 20) := Lib.hid (by rw [hE]; constructor <;> (unfold consE; split <;> (try split) <;> omega))
      have CI : Hid (∀ V, Pv w V 2 I N u5 r5 → Calls Tryd.prog 12 #[.agg (headC I x), .agg (headC N y), u5] V (ErrPost V prefixB I E)) := Lib.hid (by
        obtain ⟨a, c, hu⟩ := U5.out
        intro V hV
        rw [hu, hE]
        have h2 := hV.hs
        rw [hu] at h2
        exact cons_calls HX.out HY.out I N (by have := HB.out; omega) r5 a c V (HL.out.below hV.bel).rk h2)
      clear hE
      obtain ⟨t, ht⟩ : ∃ t, t = pth prefixB E := ⟨_, rfl⟩
      have PH : Hid (∀ V v, Lw V → IsErr V v prefixB I E → Calls Tryd.prog 19 #[v] V fun en w' => en = .returned (.string t) ∧ Below V.heap.size V w') := Lib.hid fun V v h h2 => by rw [ht]; exact path_err h.et h2 HE.out.1 HE.out.2 (by decide)
      clear ht
      refine (proves_prefix HX.out HY.out leaf I N u5 W9 E (fun V b => CI.out V (Q9.out.pv.below b))).mono ?_
      rintro en w10 ⟨e, rfl, he, b⟩
      have K10 : Hid (Qv w w10 2 I N u5 r5 I N x y g1 (g1 + 1) ∧ IsErr w10 e prefixB I E) := Lib.hid ⟨Q9.out.below b, he⟩
      clear he b Q9
      have c0 : w10.cell? ⟨w.heap.size, 0, none⟩ = some (.int .i64 2) := K10.out.1.pv.hb.cell 0
      have c1 : w10.cell? ⟨w.heap.size, 1, none⟩ = some (.int .i64 I) := K10.out.1.pv.hb.cell 1
      have c2 : w10.cell? ⟨w.heap.size, 2, none⟩ = some (.int .i64 N) := K10.out.1.pv.hb.cell 2
      go_wp2_with fail
      clear c0 c1 c2
      obtain ⟨V0, hV0⟩ : ∃ V, V = w10.drew := ⟨_, rfl⟩
      have QV : ∀ V, (Qv w V 2 I N u5 r5 I N x y g1 (g1 + 1) ∧ IsErr V e prefixB I E) → Qv w V 2 I N u5 r5 I N x y g1 (g1 + 1) := fun V h => h.1
      refine prf.wp_region_held (fun V => Qv w V 2 I N u5 r5 I N x y g1 (g1 + 1) ∧ IsErr V e prefixB I E) V0 hV0 (by kernel_rfl) ?_
      have S0 : Qv w V0 2 I N u5 r5 I N x y g1 (g1 + 1) ∧ IsErr V0 e prefixB I E := by rw [hV0]; exact ⟨K10.out.1.below (Below.refl _ _).drew, K10.out.2.below (Below.refl _ _).drew⟩
      clear hV0 K10
      refine held_take 0 (some 90) (v := e) rfl rfl (by kernel_rfl) (by kernel_rfl) (by kernel_rfl) (fun _ _ _ h => h) (.inl ⟨by kernel_rfl, fun V hV => by go_simp⟩) S0 ?_
      refine held_take 2 (some 92) (v := .agg (headC I x)) rfl rfl (by kernel_rfl) (by kernel_rfl) (by kernel_rfl) (fun _ _ _ h => h) (.inl ⟨by kernel_rfl, fun V hV => by exact exec_load 33 (.tmp 13) rfl (.pointer (some ⟨g1, 0, none⟩)) rfl (Has.load_hd (QV V hV).h1 HX.out)⟩) S0 ?_
      refine held_take 3 (some 93) (v := .agg (headC N y)) rfl rfl (by kernel_rfl) (by kernel_rfl) (by kernel_rfl) (fun _ _ _ h => h) (.inl ⟨by kernel_rfl, fun V hV => by exact exec_load 33 (.tmp 14) rfl (.pointer (some ⟨g1 + 1, 0, none⟩)) rfl (Has.load_hd (QV V hV).h2 HY.out)⟩) S0 ?_
      refine held_take 4 (some 94) (v := .pointer (some ⟨w.heap.size, 3, none⟩)) rfl rfl (by kernel_rfl) (by kernel_rfl) (by kernel_rfl) (fun _ _ _ h => h) (.inl ⟨by kernel_rfl, fun V hV => by go_simp⟩) S0 ?_
      refine held_take 5 (some 95) (v := u5) rfl rfl (by kernel_rfl) (by kernel_rfl) (by kernel_rfl) (fun _ _ _ h => h) (.inl ⟨by kernel_rfl, fun V hV => by (have c1 : V.cell? ⟨w.heap.size, 3, none⟩ = some (u5) := Has.cell (QV V hV).pv.hb 3); go_simp⟩) S0 ?_
      simp only [Act.put, List.setIfInBounds_toArray, List.set_cons_zero, List.set_cons_succ]
      refine held_one (i := 1) (by kernel_rfl) ?_
      refine wpOp_call (some 91) rfl rfl (by kernel_rfl) 19 Tryd.f19 Tryd.func19 (by kernel_rfl) (by kernel_rfl) _ _ rfl #[e] (by first | (simp [Act.eval]; done) | (simp [Act.eval, Act.put]; done)) (PH.out V0 e (HL.out.below S0.1.pv.bel) S0.2) ?_
      rintro en V1 ⟨rfl, b⟩
      have S1 : Qv w V1 2 I N u5 r5 I N x y g1 (g1 + 1) ∧ IsErr V1 e prefixB I E := ⟨S0.1.below b, S0.2.below b⟩
      clear b S0
      refine ⟨_, rfl, S1, ?_⟩
      simp only [Act.put, List.setIfInBounds_toArray, List.set_cons_zero, List.set_cons_succ]
      refine held_one (i := 6) (by kernel_rfl) ?_
      refine wpOp_call (some 96) rfl rfl (by kernel_rfl) 12 Tryd.f12 Tryd.func12 (by kernel_rfl) (by kernel_rfl) _ _ rfl #[.agg (headC I x), .agg (headC N y), u5] (by first | (simp [Act.eval]; done) | (simp [Act.eval, Act.put]; done)) (CI.out V1 S1.1.pv) ?_
      rintro en V2 ⟨e2, rfl, he2, b⟩
      have S2 : Qv w V2 2 I N u5 r5 I N x y g1 (g1 + 1) ∧ IsErr V2 e prefixB I E := ⟨S1.1.below b, S1.2.below b⟩
      clear b S1
      refine ⟨_, rfl, S2, ?_⟩
      simp only [Act.put, List.setIfInBounds_toArray, List.set_cons_zero, List.set_cons_succ]
      refine held_one (i := 7) (by kernel_rfl) ?_
      refine wpOp_call (some 97) rfl rfl (by kernel_rfl) 19 Tryd.f19 Tryd.func19 (by kernel_rfl) (by kernel_rfl) _ _ rfl #[e2] (by first | (simp [Act.eval]; done) | (simp [Act.eval, Act.put]; done)) (PH.out V2 e2 (HL.out.below S2.1.pv.bel) he2) ?_
      rintro en V3 ⟨rfl, b⟩
      have S3 : Qv w V3 2 I N u5 r5 I N x y g1 (g1 + 1) ∧ IsErr V3 e prefixB I E := ⟨S2.1.below b, S2.2.below b⟩
      clear b S2 he2
      refine ⟨_, rfl, S3, ?_⟩
      simp only [Act.put, List.setIfInBounds_toArray, List.set_cons_zero, List.set_cons_succ]
      refine held_take 8 (some 98) (v := .bool true) rfl rfl (by kernel_rfl) (by kernel_rfl) (by kernel_rfl) (fun _ _ _ h => h) (.inl ⟨by kernel_rfl, fun V hV => by go_simp⟩) S3 ?_
      refine held_take 9 (some 12) (v := .bool true) rfl rfl (by kernel_rfl) (by kernel_rfl) (by kernel_rfl) (fun _ _ _ h => h) (.inl ⟨by kernel_rfl, fun V hV => by go_simp⟩) S3 ?_
      simp only [Act.put, List.setIfInBounds_toArray, List.set_cons_zero, List.set_cons_succ]
      refine wpAnyH_done (by kernel_rfl) ?_ _
      have HS3 := Lib.hid S3.1.pv.bel
      clear S3 QV
      go_wp2_with fail
      go_ret
      exact ⟨rfl, HS3.out⟩
    have hk : kindOf K I N m n = 0 := by unfold kindOf; rw [if_neg k1, if_neg k2]
    have key : (K = 1 ∧ (N == n) = false) ∨ (K = 2 ∧ (N == n) = false) ∨ (K = 2 ∧ N = n ∧ (I == m) = false) ∨ ((K == 1) = false ∧ (K == 2) = false) := by
      by_cases h1 : K = 1
      · exact .inl ⟨h1, by simpa using fun h => k1 ⟨h1, h⟩⟩
      · by_cases h3 : K = 2
        · by_cases h2 : N = n
          · exact .inr (.inr (.inl ⟨h3, h2, by simpa using fun h => k2 ⟨h3, h2, h⟩⟩))
          · exact .inr (.inl ⟨h3, by simpa using h2⟩)
        · exact .inr (.inr (.inr ⟨by simpa using h1, by simpa using h3⟩))
    clear k1 k2
    obtain ⟨t, ht⟩ : ∃ t : ByteArray, t = ⟨#[112, 114, 111, 111, 102, 47, 97, 114, 103]⟩ := ⟨_, rfl⟩
    have PH : Hid (∀ V v, Lw V → IsErr V v proofB N 4 → Calls Tryd.prog 19 #[v] V fun en w' => en = .returned (.string ⟨#[112, 114, 111, 111, 102, 47, 97, 114, 103]⟩) ∧ Below V.heap.size V w') := Lib.hid fun V v h h2 => by have h3 := path_err h.et h2 (by decide) (by decide) (by decide); rwa [pth_arg] at h3
    clear ht t
    refine (proves_none leaf K I N m n hk u5 W9).mono ?_
    rintro en w10 ⟨e, rfl, he, b⟩
    have K10 : Hid (Qv w w10 K I N u5 r5 m n x y g1 (g1 + 1) ∧ IsErr w10 e proofB N 4) := Lib.hid ⟨Q9.out.below b, he⟩
    clear he b Q9 hk
    have c0 : w10.cell? ⟨w.heap.size, 0, none⟩ = some (.int .i64 K) := K10.out.1.pv.hb.cell 0
    have c1 : w10.cell? ⟨w.heap.size, 1, none⟩ = some (.int .i64 I) := K10.out.1.pv.hb.cell 1
    have c2 : w10.cell? ⟨w.heap.size, 2, none⟩ = some (.int .i64 N) := K10.out.1.pv.hb.cell 2
    rcases key with ⟨hK, h1⟩ | ⟨hK, h1⟩ | ⟨hK, h2, h1⟩ | ⟨h1, h2⟩
    · subst hK
      go_wp2_with fail
      refine (PH.out w10 e (HL.out.below K10.out.1.pv.bel) K10.out.2).mono ?_
      rintro en w11 ⟨rfl, b⟩
      have B11 := Lib.hid (K10.out.1.pv.bel.trans (b.mono K10.out.1.pv.bel.size))
      clear b K10 c0 c1 c2
      go_wp2_with fail
      go_ret
      exact ⟨rfl, B11.out⟩
    · subst hK
      go_wp2_with fail
      refine (PH.out w10 e (HL.out.below K10.out.1.pv.bel) K10.out.2).mono ?_
      rintro en w11 ⟨rfl, b⟩
      have B11 := Lib.hid (K10.out.1.pv.bel.trans (b.mono K10.out.1.pv.bel.size))
      clear b K10 c0 c1 c2
      go_wp2_with fail
      go_ret
      exact ⟨rfl, B11.out⟩
    · subst hK; subst h2
      go_wp2_with fail
      refine (PH.out w10 e (HL.out.below K10.out.1.pv.bel) K10.out.2).mono ?_
      rintro en w11 ⟨rfl, b⟩
      have B11 := Lib.hid (K10.out.1.pv.bel.trans (b.mono K10.out.1.pv.bel.size))
      clear b K10 c0 c1 c2
      go_wp2_with fail
      go_ret
      exact ⟨rfl, B11.out⟩
    · skip
      go_wp2_with fail
      refine (PH.out w10 e (HL.out.below K10.out.1.pv.bel) K10.out.2).mono ?_
      rintro en w11 ⟨rfl, b⟩
      have B11 := Lib.hid (K10.out.1.pv.bel.trans (b.mono K10.out.1.pv.bel.size))
      clear b K10 c0 c1 c2
      go_wp2_with fail
      go_ret
      exact ⟨rfl, B11.out⟩
theorem own : ownKnob Tryd.prog.godebug = none := by kernel_rfl
theorem laidOut : laidOutB Tryd.prog = true := by kernel_rfl

set_option maxRecDepth 100000 in
theorem lifted (os : Os) (started : os.Started) (H : Type) (enc : TypeId × Value → H) :
    ReturnsInHanded {} Tryd.checked os 5 .any (fun w args => (Rows.proofProvesSpec.pre enc Tryd.prog Tryd.f5 [] false w args ∧ laidMetH Tryd.prog Rows.proofProvesRow.laid w) ∧ sizedMet enc Tryd.prog Tryd.f5 (OpenSpec.ofChange Rows.proofProvesSpec) false w args)
      (Rows.proofProvesSpec.post enc Tryd.prog Tryd.f5 false true false false) := by
  refine returnsInHanded_of_change_and (C := Tryd.checked) (X := fun w _ => laidMetH Tryd.prog Rows.proofProvesRow.laid w) (fun _ _ _ hh h => h.of_heap hh) own started (by kernel_rfl) Tryd.func5
    (ChangeSpec.witness_shaped (enc := enc) (C := Tryd.checked) (os := os) (X := fun w _ => laidMetH Tryd.prog Rows.proofProvesRow.laid w) false (World.doorLaid Tryd.prog 31 os) #[.agg #[.int .i64 0, .int .i64 0, .int .i64 0, .slice none 0 0], .string ByteArray.empty, .int .i64 0, .int .i64 0, .string ByteArray.empty, .string ByteArray.empty] 8 rfl (door_shaped os _) (by kernel_rfl) (by kernel_rfl) (by kernel_rfl) (door_met os _)) ?_
  intro W base args ds gs before hval0 hW _ _ hL _
  have hval : ∀ (j : Nat) t v, Tryd.f5.params[j]? = some t → args[j]? = some v → Value.okWide Tryd.prog W .any base t v := hval0
  have hW' := hW
  obtain ⟨p, q, hA0, hV, rfl, _, _⟩ := hW
  have hA : DataW.TrodAll enc Tryd.prog W 0 (fun _ => true) true Tryd.f5.params.toList args.toList ds p := hA0
  rw [Tryd.params5] at hA hval
  obtain ⟨v0, vs0, d0, ds0, p0, q0, hargs, rfl, rfl, h0, r0⟩ := trodAll_cons hA
  obtain ⟨v1, vs1, d1, ds1, p1, q1, rfl, rfl, rfl, h1, r1⟩ := trodAll_cons r0
  obtain ⟨v2, vs2, d2, ds2, p2, q2, rfl, rfl, rfl, h2, r2⟩ := trodAll_cons r1
  obtain ⟨v3, vs3, d3, ds3, p3, q3, rfl, rfl, rfl, h3, r3⟩ := trodAll_cons r2
  obtain ⟨v4, vs4, d4, ds4, p4, q4, rfl, rfl, rfl, h4, r4⟩ := trodAll_cons r3
  obtain ⟨v5, vs5, d5, ds5, p5, q5, rfl, rfl, rfl, h5, r5⟩ := trodAll_cons r4
  obtain ⟨rfl, rfl, rfl⟩ := trodAll_nil r5
  obtain rfl : args = #[v0, v1, v2, v3, v4, v5] := by cases args; simp_all
  obtain ⟨rfl, rfl⟩ := trodVars_none hV
  obtain ⟨a0, w0, rfl⟩ := openedS0 (hval 0 48 v0 rfl rfl) h0
  have k0 := h0
  have lt0 : ∀ x ∈ p0, x.block < W.heap.size := by obtain ⟨m, hm⟩ := k0; exact DataW.trod_lt m _ _ _ hm
  obtain ⟨a1, rfl, rfl, rfl, w1⟩ := open_string Tryd.underlying9 (hval 1 9 v1 rfl rfl) h1
  obtain ⟨a2, rfl, rfl, rfl, w2⟩ := open_int Tryd.underlying3 (hval 2 3 v2 rfl rfl) h2
  obtain ⟨a3, rfl, rfl, rfl, w3⟩ := open_int Tryd.underlying3 (hval 3 3 v3 rfl rfl) h3
  obtain ⟨a4, rfl, rfl, rfl, w4⟩ := open_string Tryd.underlying9 (hval 4 9 v4 rfl rfl) h4
  obtain ⟨a5, rfl, rfl, rfl, w5⟩ := open_string Tryd.underlying9 (hval 5 9 v5 rfl rfl) h5
  clear hA0 hval0
  refine (walk a0 a1 a2 a3 a4 a5 W w0 w1 w2 w3 w4 w5 (lw_of_laid hL)).mono fun e W' ⟨he, bel⟩ => ?_
  subst he
  exact ⟨_, rfl, _, _, _, [], _, [], hW', trodAll_mk1 (shut_bool Tryd.underlying4 _), (trodAll_cons_mk (Below.trod laidOut (by kernel_rfl) (of_decide_eq_true (by kernel_rfl)) k0 bel lt0) (trodAll_cons_mk (shut_string Tryd.underlying9 w1) (trodAll_cons_mk (shut_int Tryd.underlying3 w2) (trodAll_cons_mk (shut_int Tryd.underlying3 w3) (trodAll_cons_mk (shut_string Tryd.underlying9 w4) (trodAll_cons_mk (shut_string Tryd.underlying9 w5) trodAll_mk0)))))), rfl, bel.frame _, fun h => by cases h⟩

theorem over : Rows.proofProvesRow.holds Tryd.pinned (OpenSpec.ofChange Rows.proofProvesSpec) :=
  OpenClaim.holds_of_wide 5 Tryd.f5 rfl rfl rfl rfl rfl rfl rfl ⟨rfl, rfl, rfl, rfl, rfl⟩ rfl rfl rfl rfl rfl (by kernel_rfl) Tryd.func5 (by kernel_rfl)
    (of_decide_eq_true (by kernel_rfl)) (by unfold Func.isWrapper; first | (rw [if_pos (by decide +kernel)]; kernel_rfl) | (rw [if_neg (by decide +kernel)]; exact ⟨rfl, rfl⟩))
    (fun os started H enc _ => lifted os started H enc)

theorem plain (f : FuncId) (fn : Func) (hf : Tryd.pinned.checked.prog.funcNamed "hindsight/hindsightlaw10.ProofProves" = some f) (hfn : Tryd.pinned.checked.prog.funcs[f]? = some fn) :
    (true : Bool) = Tryd.pinned.checked.prog.looks [] ∧ ∀ (j : Nat) t, fn.params[j]? = some t → Tryd.pinned.checked.prog.wantsStandIn t = false := by
  obtain rfl : f = 5 := Option.some.inj ((show Tryd.prog.funcNamed "hindsight/hindsightlaw10.ProofProves" = some 5 by kernel_rfl).symm.trans hf) |>.symm
  obtain rfl : fn = Tryd.f5 := (Option.some.inj (Tryd.func5.symm.trans hfn)).symm
  refine ⟨by kernel_rfl, fun j t ht => ?_⟩
  rw [Tryd.params5] at ht
  have hm := Array.mem_of_getElem? ht
  simp only [List.mem_toArray, List.mem_cons, List.not_mem_nil, or_false] at hm
  rcases hm with rfl | rfl | rfl | rfl | rfl | rfl
  · exact (show Tryd.prog.wantsStandIn 48 = false by kernel_rfl)
  · exact (show Tryd.prog.wantsStandIn 9 = false by kernel_rfl)
  · exact (show Tryd.prog.wantsStandIn 3 = false by kernel_rfl)
  · exact (show Tryd.prog.wantsStandIn 3 = false by kernel_rfl)
  · exact (show Tryd.prog.wantsStandIn 9 = false by kernel_rfl)
  · exact (show Tryd.prog.wantsStandIn 9 = false by kernel_rfl)

theorem card : Rows.ProofProvesCardSaid :=
  Claim7.holds_tied_plain_at .later [] _ _ _ _ over (fun _ h => by cases h) (by kernel_rfl) (fun _ h => by cases h) proofProves_row_tie rfl ⟨rfl, rfl⟩ (by kernel_rfl) rfl plain (by kernel_rfl)

theorem proved : Rows.ProofProvesCardSaid := card
end Go.Proofs.YtiogjmlkogeibaaDoor.proofProves
