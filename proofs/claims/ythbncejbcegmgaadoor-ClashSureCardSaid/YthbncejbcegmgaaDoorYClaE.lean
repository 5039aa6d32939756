/- clash: the laws' awake. (The region's script is written by tools/example-clashawake-writer.py.) -/
import Derived.Test.YthbncejbcegmgaaDoorY013
namespace Go.Proofs.YthbncejbcegmgaaDoor.clash
open Go Go.RowKit Go.Proofs.YthbncejbcegmgaaDoor.dig

theorem half_two' : half 2 = 1 := by unfold half; decide +kernel
theorem turnsL_two : turnsL 0 2 = [true] := by
  rw [turnsL, dif_pos (by decide), half_two', if_pos (by decide), turnsL_one]
theorem textN_first (T : Nat → Bool) (c : List UInt8) (S : Nat → List UInt8) (h : T 0 = true) : textN T c S 0 = underS c (S 0) := by
  unfold textN
  rw [if_pos h]
  rfl
theorem leafT_a : leafT ⟨#[97]⟩ = ⟨#[0, 97]⟩ := rfl
theorem unlike_ab : clashB ⟨#[97]⟩ ⟨#[98]⟩ = false := by decide +kernel

/-- What lasts while the answers are held against each other. -/
structure AwC (w : World) (g1 g4 gl off : Nat) (A B : List UInt8) (l : List Value) (V : World) : Prop where
  rk : Rk V
  s1 : Has V g1 33 (cellsOf B)
  s4 : Has V g4 33 (cellsOf A)
  rg : ∀ j u, l[j]? = some u → V.cell? ⟨gl, off + j, none⟩ = some u
  lt : gl < V.heap.size
  bel : Below w.heap.size w V
theorem AwC.c0 {w : World} {g1 g4 gl off : Nat} {A B : List UInt8} {x y : Value} {V : World} (h : AwC w g1 g4 gl off A B [x, y] V) : V.cell? ⟨gl, off, none⟩ = some x := h.rg 0 x rfl
theorem AwC.c1 {w : World} {g1 g4 gl off : Nat} {A B : List UInt8} {x y : Value} {V : World} (h : AwC w g1 g4 gl off A B [x, y] V) : V.cell? ⟨gl, off + 1, none⟩ = some y := h.rg 1 y rfl
theorem AwC.below {w : World} {g1 g4 gl off : Nat} {A B : List UInt8} {l : List Value} {V V' : World} (h : AwC w g1 g4 gl off A B l V) (bb : Below V.heap.size V V') : AwC w g1 g4 gl off A B l V' :=
  ⟨h.rk.below bb, h.s1.below bb h.s1.lt, h.s4.below bb h.s4.lt, fun j u hj => by rw [← h.rg j u hj]; unfold World.cell?; rw [bb.block gl h.lt], Nat.lt_of_lt_of_le h.lt bb.size, h.bel.trans (bb.mono h.bel.size)⟩

set_option maxRecDepth 100000 in
set_option maxHeartbeats 2000000 in
theorem clawake_calls (w : World) (hR : Rk w) : Calls Tryd.prog 6 #[] w fun en w' => en = .returned (.bool true) ∧ Below w.heap.size w w' := by
  have HR := Lib.hid hR
  obtain ⟨A, hA⟩ : ∃ A, A = leafS ((⟨#[97]⟩ : ByteArray).data.toList) := ⟨_, rfl⟩
  obtain ⟨B, hB⟩ : ∃ B, B = leafS ((⟨#[98]⟩ : ByteArray).data.toList) := ⟨_, rfl⟩
  have HL : Hid (A.length = 32 ∧ B.length = 32) := Lib.hid ⟨hA ▸ leafS_length _, hB ▸ leafS_length _⟩
  have HA := Lib.hid hA
  have HB := Lib.hid hB
  clear hR hA hB
  go_enter Tryd.func6, Tryd.ntmps6
  go_wp2_with fail
  refine (leaf_calls ⟨#[98]⟩ w HR.out (by decide)).mono ?_
  rw [← HB.out]
  rintro en w1 ⟨rfl, b1⟩
  have T1 : Hid (Rk w1 ∧ Below w.heap.size w w1) := Lib.hid ⟨HR.out.below b1, b1⟩
  clear b1 HR
  obtain ⟨i0, z0, hi0, hz0, hz1, hz2, hz3⟩ := sumInfo
  have HI0 := Lib.hid hi0
  have HZ0 := Lib.hid hz0
  clear hi0 hz0
  go_wp2_with (first
    | ((with_reducible refine at_store (.tmp 1) ?_); refine wpList_store_arr (o := ⟨none, _, _, _, _, _⟩) rfl 33 _ _ rfl w1.heap.size B (List.replicate 32 0) rfl rfl _ (made_at _ _ rfl) 32 (by kernel_rfl) (by simp) HL.out.2 ?_; intro W2 HW2 TW2;
       (have T2 : Hid (Rk W2 ∧ Below w.heap.size w W2 ∧ Has W2 w1.heap.size 33 (cellsOf B)) := (by
         have bb : Below w1.heap.size w1 W2 := ((Below.refl _ _).alloc (Nat.le_refl _) _).trans (TW2.below (by simp) (fun j hj e => by omega))
         exact Lib.hid ⟨T1.out.1.below bb, T1.out.2.trans (bb.mono T1.out.2.size), HW2⟩));
       clear T1 HW2 TW2)
    | ((with_reducible refine at_op 7 ?_); refine wpList_load_arr (o := ⟨some 7, _, _, _, _, _⟩) rfl 33 _ rfl w1.heap.size rfl 33 B 5 32 T2.out.2.2 Tryd.underlying33 (by kernel_rfl) HL.out.2 ?_)
    | ((with_reducible refine at_op 8 ?_); refine wpList_build_one (o := ⟨some 8, _, _, _, _, _⟩) rfl 26 33 _ rfl i0 z0 Tryd.underlying26 HI0.out HZ0.out (cellsOf B) rfl (by rw [hz1, cellsOf_size, HL.out.2]) (by rw [cellsOf_size, HL.out.2]; decide) (by rw [cellsOf_size, HL.out.2]; decide) W2.heap.size rfl ?_; intro W3 HW3 BW3;
       (have T3 : Hid (Rk W3 ∧ Below w.heap.size w W3 ∧ Has W3 w1.heap.size 33 (cellsOf B) ∧ Has W3 W2.heap.size 33 (cellsOf B)) := Lib.hid ⟨T2.out.1.below BW3, T2.out.2.1.trans (BW3.mono T2.out.2.1.size), T2.out.2.2.below BW3 T2.out.2.2.lt, HW3⟩);
       clear T2 HW3 BW3)
    | fail)
  clear HI0 HZ0 hz1 hz2 hz3
  obtain ⟨X, hX⟩ : ∃ X, X = textN (fun k => (turnsL 0 2).getD ([B].length - 1 - k) false) (sum (leafT ⟨#[97]⟩).data.toList) (fun k => [B].getD k []) := ⟨_, rfl⟩
  have hX0 : X 0 = underS A B := by
    rw [hX, textN_first _ _ _ (by rw [turnsL_two]; rfl), HA.out, leafT_a]
    rfl
  have hwl : wayL 1 X ⟨#[97]⟩ = [.string (underS A B), .string ⟨#[0, 97]⟩] := by
    unfold wayL
    rw [leafT_a, ← hX0]
    rfl
  have hw := way_calls ⟨#[97]⟩ 0 2 (.slice (some ⟨W2.heap.size, 0, none⟩) 1 1) [B] W3 T3.out.1 (by decide) (by decide) (by decide) (by rw [turnsL_two]; rfl)
    (by
      have := Seg.of_has (size := 32) (n := 1) T3.out.2.2.2 (by rw [cellsOf_size, HL.out.2]) (by decide)
      simpa [sumsC, cellsOf] using this) (fun x hx => by simp at hx; rw [hx]; exact HL.out.2)
  rw [← hX] at hw
  refine Calls.mono hw ?_
  rintro en w4 ⟨v, rfl, s4, lo4, b4⟩
  have s5 : Seg w4 9 1 v 2 [.string (underS A B), .string ⟨#[0, 97]⟩] := hwl ▸ s4
  obtain ⟨gl, off, c, rfl, hgl, hc1, hc2, hcell⟩ := s5.cells (by decide)
  have T5 : Hid (Rk w4 ∧ Below w.heap.size w w4 ∧ Has w4 w1.heap.size 33 (cellsOf B) ∧ (∀ j u, ([.string (underS A B), .string ⟨#[0, 97]⟩] : List Value)[j]? = some u → w4.cell? ⟨gl, off + j, none⟩ = some u) ∧ gl < w4.heap.size) :=
    Lib.hid ⟨T3.out.1.below b4, T3.out.2.1.trans (b4.mono T3.out.2.1.size), T3.out.2.2.1.below b4 T3.out.2.2.1.lt, hcell, hgl⟩
  obtain ⟨g1, hg1⟩ : ∃ g1, g1 = w1.heap.size := ⟨_, rfl⟩
  rw [← hg1] at T5 ⊢
  have hc3 : (c : Int) ≤ 9223372036854775807 := by unfold maxLen at hc2; omega
  have hc4 : (2 : Int) ≤ (c : Int) := by omega
  clear T3 s4 s5 lo4 b4 hcell hgl hw hX hX0 hwl hc1 hc2 hg1
  go_wp2_with fail
  refine (leaf_calls ⟨#[97]⟩ w4 T5.out.1 (by decide)).mono ?_
  rw [← HA.out]
  rintro en w5 ⟨rfl, b5⟩
  have T6 : Hid (AwC w g1 g1 gl off B B [.string (underS A B), .string ⟨#[0, 97]⟩] w5) :=
    Lib.hid (AwC.below (V := w4) ⟨T5.out.1, T5.out.2.2.1, T5.out.2.2.1, T5.out.2.2.2.1, T5.out.2.2.2.2, T5.out.2.1⟩ b5)
  clear T5 b5
  go_wp2_with (first
    | ((with_reducible refine at_store (.tmp 4) ?_); refine wpList_store_arr (o := ⟨none, _, _, _, _, _⟩) rfl 33 _ _ rfl w5.heap.size A (List.replicate 32 0) rfl rfl _ (made_at _ _ rfl) 32 (by kernel_rfl) (by simp) HL.out.1 ?_; intro W6 HW6 TW6;
       (have T7 : Hid (AwC w g1 w5.heap.size gl off A B [.string (underS A B), .string ⟨#[0, 97]⟩] W6) := (by
         have bb : Below w5.heap.size w5 W6 := ((Below.refl _ _).alloc (Nat.le_refl _) _).trans (TW6.below (by simp) (fun j hj e => by omega))
         have h := T6.out.below bb
         exact Lib.hid ⟨h.rk, h.s1, HW6, h.rg, h.lt, h.bel⟩));
       clear T6 HW6 TW6)
    | fail)
  obtain ⟨g4, hg4⟩ : ∃ g4, g4 = w5.heap.size := ⟨_, rfl⟩
  rw [← hg4] at T7 ⊢
  clear hg4
  obtain ⟨sa, hsa⟩ : ∃ sa : ByteArray, sa = ⟨A.toArray⟩ := ⟨_, rfl⟩
  obtain ⟨sb, hsb⟩ : ∃ sb : ByteArray, sb = ⟨B.toArray⟩ := ⟨_, rfl⟩
  obtain ⟨U, hU⟩ : ∃ U, U = underS A B := ⟨_, rfl⟩
  rw [← hU] at T7
  have HU : Hid ((⟨#[1]⟩ : ByteArray) ++ sa ++ sb = U) := Lib.hid (by rw [hsa, hsb, hU]; exact underS_of A B)
  have za : sa.size = 32 := by rw [hsa]; simpa [ByteArray.size] using HL.out.1
  have zb : sb.size = 32 := by rw [hsb]; simpa [ByteArray.size] using HL.out.2
  have z1 : ((⟨#[1]⟩ : ByteArray) ++ sa).size = 33 := by rw [ByteArray.size_append, za]; rfl
  have HSA := Lib.hid hsa
  have HSB := Lib.hid hsb
  have hul := Tryd.underlying33
  clear hsa hsb hU
  refine wp_region_S (S := AwC w g1 g4 gl off A B [.string U, .string ⟨#[0, 97]⟩]) (by kernel_rfl) (T7.out.below (Below.refl _ _).drew) ?_
  clear T7
  -- region
  refine AnyS.pure 0 (some 13) rfl rfl (by kernel_rfl) (by kernel_rfl) (by kernel_rfl) (fun _ _ _ h => h) (by kernel_rfl) (fun _ _ => rfl) ?_
  refine AnyS.pure 1 (some 14) rfl rfl (by kernel_rfl) (by kernel_rfl) (by kernel_rfl) (fun _ _ _ h => h) (by kernel_rfl) (fun _ _ => rfl) ?_
  refine AnyS.pure 2 (some 15) rfl rfl (by kernel_rfl) (by kernel_rfl) (by kernel_rfl) (fun _ _ _ h => h) (by kernel_rfl) (fun _ _ => rfl) ?_
  refine AnyS.pure 3 (some 16) (v := .int .i64 2) rfl rfl (by kernel_rfl) (by kernel_rfl) (by kernel_rfl) (fun _ _ _ h => h) (by kernel_rfl) (fun V _ => by go_simp) ?_
  refine AnyS.pure 4 (some 17) (v := .bool true) rfl rfl (by kernel_rfl) (by kernel_rfl) (by kernel_rfl) (fun _ _ _ h => h) (by kernel_rfl) (fun V _ => by go_simp) ?_
  simp only [Act.put, List.setIfInBounds_toArray, List.set_cons_zero, List.set_cons_succ]
  refine AnyS.pure 5 (some 18) (v := .bool true) rfl rfl (by kernel_rfl) (by kernel_rfl) (by kernel_rfl) (fun _ _ _ h => h) (by kernel_rfl) (fun V _ => by go_simp) ?_
  refine AnyS.pure 6 (some 19) rfl rfl (by kernel_rfl) (by kernel_rfl) (by kernel_rfl) (fun _ _ _ h => h) (by kernel_rfl) (fun _ _ => rfl) ?_
  refine AnyS.pure 7 (some 20) rfl rfl (by kernel_rfl) (by kernel_rfl) (by kernel_rfl) (fun _ _ _ h => h) (by kernel_rfl) (fun _ _ => rfl) ?_
  refine AnyS.pure 8 (some 21) (v := .pointer (some ⟨gl, off + 1, none⟩)) rfl rfl (by kernel_rfl) (by kernel_rfl) (by kernel_rfl) (fun _ _ _ h => h) (by kernel_rfl) (fun V _ => by go_simp) ?_
  simp only [Act.put, List.setIfInBounds_toArray, List.set_cons_zero, List.set_cons_succ]
  refine AnyS.pure 9 (some 22) (v := .string ⟨#[0, 97]⟩) rfl rfl (by kernel_rfl) (by kernel_rfl) (by kernel_rfl) (fun _ _ _ h => h) (by kernel_rfl) (fun V hV => by have c0 := hV.c0; have c1 := hV.c1; go_simp) ?_
  refine AnyS.pure 10 (some 23) (v := .bool true) rfl rfl (by kernel_rfl) (by kernel_rfl) (by kernel_rfl) (fun _ _ _ h => h) (by kernel_rfl) (fun V _ => by go_simp) ?_
  refine AnyS.pure 11 (some 24) (v := .bool true) rfl rfl (by kernel_rfl) (by kernel_rfl) (by kernel_rfl) (fun _ _ _ h => h) (by kernel_rfl) (fun V _ => by go_simp) ?_
  refine AnyS.pure 12 (some 25) rfl rfl (by kernel_rfl) (by kernel_rfl) (by kernel_rfl) (fun _ _ _ h => h) (by kernel_rfl) (fun _ _ => rfl) ?_
  simp only [Act.put, List.setIfInBounds_toArray, List.set_cons_zero, List.set_cons_succ]
  refine AnyS.pure 13 (some 26) rfl rfl (by kernel_rfl) (by kernel_rfl) (by kernel_rfl) (fun _ _ _ h => h) (by kernel_rfl) (fun _ _ => rfl) ?_
  refine AnyS.pure 14 (some 27) (v := .pointer (some ⟨gl, off, none⟩)) rfl rfl (by kernel_rfl) (by kernel_rfl) (by kernel_rfl) (fun _ _ _ h => h) (by kernel_rfl) (fun V _ => by go_simp) ?_
  refine AnyS.pure 15 (some 28) (v := .string U) rfl rfl (by kernel_rfl) (by kernel_rfl) (by kernel_rfl) (fun _ _ _ h => h) (by kernel_rfl) (fun V hV => by have c0 := hV.c0; have c1 := hV.c1; go_simp) ?_
  refine AnyS.pure 16 (some 29) (v := .slice (some ⟨g4, 0, none⟩) 32 32) rfl rfl (by kernel_rfl) (by kernel_rfl) (by kernel_rfl) (fun _ _ _ h => h) (by kernel_rfl) (fun V _ => by go_simp) ?_
  simp only [Act.put, List.setIfInBounds_toArray, List.set_cons_zero, List.set_cons_succ]
  refine AnyS.pure 17 (some 30) (v := .string sa) rfl rfl (by kernel_rfl) (by kernel_rfl) (by kernel_rfl) (fun _ _ _ h => h) (by kernel_rfl) (fun V hV => by have ht := run_str_arr (P := Tryd.prog) 74 9 5 Tryd.underlying74 Tryd.underlying5 Tryd.underlying9 g4 _ A 32 V hV.s4; rw [HL.out.1, ← HSA.out] at ht; go_simp) ?_
  refine AnyS.pure 18 (some 31) (v := .string (⟨#[1]⟩ ++ sa)) rfl rfl (by kernel_rfl) (by kernel_rfl) (by kernel_rfl) (fun _ _ _ h => h) (by kernel_rfl) (fun V _ => by have e1 : (⟨#[1]⟩ : ByteArray).size = 1 := rfl; have za' := za; go_simp) ?_
  refine AnyS.pure 19 (some 32) (v := .slice (some ⟨g1, 0, none⟩) 32 32) rfl rfl (by kernel_rfl) (by kernel_rfl) (by kernel_rfl) (fun _ _ _ h => h) (by kernel_rfl) (fun V _ => by go_simp) ?_
  refine AnyS.pure 20 (some 33) (v := .string sb) rfl rfl (by kernel_rfl) (by kernel_rfl) (by kernel_rfl) (fun _ _ _ h => h) (by kernel_rfl) (fun V hV => by have ht := run_str_arr (P := Tryd.prog) 74 9 5 Tryd.underlying74 Tryd.underlying5 Tryd.underlying9 g1 _ B 32 V hV.s1; rw [HL.out.2, ← HSB.out] at ht; go_simp) ?_
  simp only [Act.put, List.setIfInBounds_toArray, List.set_cons_zero, List.set_cons_succ]
  refine AnyS.pure 21 (some 34) (v := .string U) rfl rfl (by kernel_rfl) (by kernel_rfl) (by kernel_rfl) (fun _ _ _ h => h) (by kernel_rfl) (fun V _ => by have e1 := z1; have e2 := zb; have e3 := HU.out; go_simp) ?_
  refine AnyS.pure 22 (some 35) (v := .bool true) rfl rfl (by kernel_rfl) (by kernel_rfl) (by kernel_rfl) (fun _ _ _ h => h) (by kernel_rfl) (fun V _ => by go_simp) ?_
  simp only [Act.put, List.setIfInBounds_toArray, List.set_cons_zero, List.set_cons_succ]
  refine AnyS.pure 23 (some 36) (v := .bool true) rfl rfl (by kernel_rfl) (by kernel_rfl) (by kernel_rfl) (fun _ _ _ h => h) (by kernel_rfl) (fun V _ => by go_simp) ?_
  refine AnyS.pure 24 (some 37) rfl rfl (by kernel_rfl) (by kernel_rfl) (by kernel_rfl) (fun _ _ _ h => h) (by kernel_rfl) (fun _ _ => rfl) ?_
  refine AnyS.pure 25 (some 38) (v := .agg #[.string ⟨#[97]⟩, .string ⟨#[98]⟩]) rfl rfl (by kernel_rfl) (by kernel_rfl) (by kernel_rfl) (fun _ _ _ h => h) (by kernel_rfl) (fun V _ => by go_simp) ?_
  refine AnyS.call 26 (some 39) (.bool false) rfl rfl (by kernel_rfl) (by kernel_rfl) (by kernel_rfl) (fun _ _ _ h => h) (by kernel_rfl) 16 Tryd.f16 Tryd.func16 (by kernel_rfl) (by kernel_rfl) _ _ rfl #[.agg #[.string ⟨#[97]⟩, .string ⟨#[98]⟩]] (by first | (simp [Act.eval]; done) | (simp [Act.eval, Act.put]; done)) (fun V hV => (is_calls ⟨#[97]⟩ ⟨#[98]⟩ V hV.rk (by decide) (by decide)).mono (fun _ _ h => ⟨by rw [h.1, unlike_ab], hV.below h.2⟩)) ?_
  simp only [Act.put, List.setIfInBounds_toArray, List.set_cons_zero, List.set_cons_succ]
  refine AnyS.pure 27 (some 40) (v := .bool true) rfl rfl (by kernel_rfl) (by kernel_rfl) (by kernel_rfl) (fun _ _ _ h => h) (by kernel_rfl) (fun V _ => by go_simp) ?_
  simp only [Act.put, List.setIfInBounds_toArray, List.set_cons_zero, List.set_cons_succ]
  refine AnyS.pure 28 (some 41) (v := .bool true) rfl rfl (by kernel_rfl) (by kernel_rfl) (by kernel_rfl) (fun _ _ _ h => h) (by kernel_rfl) (fun V _ => by go_simp) ?_
  refine AnyS.pure 29 (some 42) rfl rfl (by kernel_rfl) (by kernel_rfl) (by kernel_rfl) (fun _ _ _ h => h) (by kernel_rfl) (fun _ _ => rfl) ?_
  refine AnyS.pure 30 (some 43) (v := .agg #[.string ⟨#[]⟩, .string ⟨#[]⟩]) rfl rfl (by kernel_rfl) (by kernel_rfl) (by kernel_rfl) (fun _ _ _ h => h) (by kernel_rfl) (fun V _ => by go_simp) ?_
  refine AnyS.call 31 (some 44) (.bool false) rfl rfl (by kernel_rfl) (by kernel_rfl) (by kernel_rfl) (fun _ _ _ h => h) (by kernel_rfl) 16 Tryd.f16 Tryd.func16 (by kernel_rfl) (by kernel_rfl) _ _ rfl #[.agg #[.string ⟨#[]⟩, .string ⟨#[]⟩]] (by first | (simp [Act.eval]; done) | (simp [Act.eval, Act.put]; done)) (fun V hV => (is_calls ⟨#[]⟩ ⟨#[]⟩ V hV.rk (by decide) (by decide)).mono (fun _ _ h => ⟨by rw [h.1, clashB_self], hV.below h.2⟩)) ?_
  simp only [Act.put, List.setIfInBounds_toArray, List.set_cons_zero, List.set_cons_succ]
  refine AnyS.pure 32 (some 45) (v := .bool true) rfl rfl (by kernel_rfl) (by kernel_rfl) (by kernel_rfl) (fun _ _ _ h => h) (by kernel_rfl) (fun V _ => by go_simp) ?_
  simp only [Act.put, List.setIfInBounds_toArray, List.set_cons_zero, List.set_cons_succ]
  refine AnyS.pure 33 (some 46) (v := .bool true) rfl rfl (by kernel_rfl) (by kernel_rfl) (by kernel_rfl) (fun _ _ _ h => h) (by kernel_rfl) (fun V _ => by go_simp) ?_
  refine AnyS.pure 34 (some 0) rfl rfl (by kernel_rfl) (by kernel_rfl) (by kernel_rfl) (fun _ _ _ h => h) (by kernel_rfl) (fun _ _ => rfl) ?_
  refine AnyS.done (by kernel_rfl) (fun V hV => ?_) _
  have HB2 := Lib.hid hV.bel
  clear hV
  go_wp2_with fail
  go_ret
  exact ⟨rfl, HB2.out⟩
end Go.Proofs.YthbncejbcegmgaaDoor.clash
