/- tree's laws: awake. (The region's script is written by tools/example-treeawake-writer.py.) -/
import Derived.Test.YtplidcgoclebcaaDoorTreeI
import Derived.Test.YtplidcgoclebcaaDoorDigM
import Derived.Test.YtplidcgoclebcaaDoorAny
namespace Go.Proofs.YtplidcgoclebcaaDoor.dig
open Go Go.RowKit

/-- The sums of the leaves of some texts. -/
def leafF (L : List ByteArray) (i : Nat) : List UInt8 := leafS ((L[i]?).getD ByteArray.empty).data.toList
theorem leafF_len (L : List ByteArray) (i : Nat) : (leafF L i).length = 32 := leafS_length _
theorem leafF_at (L : List ByteArray) (i : Nat) (s : ByteArray) (h : L[i]? = some s) : leafF L i = leafS s.data.toList := by unfold leafF; rw [h]; rfl
theorem half_three : half 3 = 2 := by unfold half; decide +kernel
theorem half_two : half 2 = 1 := by unfold half; decide +kernel
theorem rt_three (f : Nat → List UInt8) : rtAll f 3 = nodeS (nodeS (f 0) (f 1)) (f 2) := by
  unfold rtAll
  rw [if_neg (by decide), rt_two f 0 (by decide), half_three, rt_two f 0 (by decide), half_two, rt_one, rt_one, rt_one]
theorem path_three (f : Nat → List UInt8) : path f 2 0 3 = [nodeS (f 0) (f 1)] := by
  rw [path, dif_pos (by decide), half_three, if_neg (by decide), show 3 - 2 = 1 from rfl, path, dif_neg (by decide), rt_two f 0 (by decide), half_two, rt_one, show 2 - 1 = 1 from rfl, rt_one]
  rfl

theorem run_equal_sum (xs ys : List UInt8) (hx : xs.length = 32) (hy : ys.length = 32) (w : World) : (Op.equalIn 10000 32 (.agg (cellsOf xs)) (.agg (cellsOf ys))).run Tryd.prog w = .ok (xs == ys) w := by
  have := run_equalIn_bytes (P := Tryd.prog) 9998 (t := 32) (e := 5) 32 Tryd.underlying32 Tryd.underlying5 (by kernel_rfl) xs ys hx hy w
  simpa using this
theorem run_equal_same (xs : List UInt8) (hx : xs.length = 32) (w : World) : (Op.equalIn 10000 32 (.agg (cellsOf xs)) (.agg (cellsOf xs))).run Tryd.prog w = .ok true w := by
  rw [run_equal_sum xs xs hx hx w]
  simp

/-- Below all that a turn reaches nothing turns. -/
theorem turn_below {F : Nat → Prop} {w w1 w' : World} {B : Nat} (b : Below B w w1) (t : Turn F w1 w') (hB : B ≤ w1.heap.size) (hF : ∀ k, F k → B ≤ k) : Below B w w' :=
  b.trans (t.below hB (fun j hj hf => by have := hF j hf; omega))

/-- What lasts while the answers are held against each other. -/
structure AwS (B : Nat) (FF : Nat → Prop) (w : World) (b : Nat) (L : List ByteArray) (g2 g3 gl off : Nat) (AB R : List UInt8) (V : World) : Prop where
  tr : Tr B FF V b 3 0 (leafF L)
  s2 : Has V g2 32 (cellsOf AB)
  s3 : Has V g3 32 (cellsOf R)
  rg : V.rangeAt gl off (AB.map byteV)
  lt : gl < V.heap.size
  bel : Below w.heap.size w V
theorem AwS.below {B : Nat} {FF : Nat → Prop} {w : World} {b : Nat} {L : List ByteArray} {g2 g3 gl off : Nat} {AB R : List UInt8} {V V' : World} (h : AwS B FF w b L g2 g3 gl off AB R V) (bb : Below V.heap.size V V') : AwS B FF w b L g2 g3 gl off AB R V' :=
  ⟨h.tr.below bb, h.s2.below bb h.s2.lt, h.s3.below bb h.s3.lt, fun j u hj => by rw [← h.rg j u hj]; unfold World.cell?; rw [bb.block gl h.lt], Nat.lt_of_lt_of_le h.lt bb.size, h.bel.trans (bb.mono h.bel.size)⟩

set_option maxRecDepth 100000 in
set_option maxHeartbeats 2000000 in
theorem tawake_calls (B : Nat) (w : World) (hR : Rt B w) : Calls Tryd.prog 8 #[] w fun en w' => en = .returned (.bool true) ∧ Below w.heap.size w w' := by
  obtain ⟨L, hLL⟩ : ∃ L : List ByteArray, L = [⟨#[97]⟩, ⟨#[98]⟩, ⟨#[99]⟩] := ⟨_, rfl⟩
  have HLL := Lib.hid hLL
  have HR := Lib.hid hR
  have hl3 : L.length = 3 := by rw [hLL]; rfl
  have hl0 : leafF L 0 = leafS ([97] : List UInt8) := by rw [hLL]; rfl
  have hl1 : leafF L 1 = leafS ([98] : List UInt8) := by rw [hLL]; rfl
  have hl2 : leafF L 2 = leafS ([99] : List UInt8) := by rw [hLL]; rfl
  have H0 := Lib.hid hl0
  have H1 := Lib.hid hl1
  have H2 := Lib.hid hl2
  have H3 := Lib.hid hl3
  clear hR hLL hl0 hl1 hl2 hl3
  go_enter Tryd.func8, Tryd.ntmps8
  go_wp2_with fail
  refine (tnew_calls B (leafF L) w HR.out (leafF_len L)).mono ?_
  rintro en w1 ⟨b, rfl, hb, t1, b1⟩
  have T1 : Hid (Tr B (fun k => k = b) w1 b 0 0 (leafF L) ∧ Below w.heap.size w w1 ∧ w.heap.size ≤ b) := Lib.hid ⟨t1, b1, hb⟩
  clear t1 b1 hb HR
  go_wp2_with fail
  refine callsName (fun W hW => ?_)
  have T2 : Hid (Tr B (fun k => k = b) W b 0 0 (leafF L) ∧ Below w.heap.size w W ∧ w.heap.size ≤ b ∧ Strs W (.slice (some ⟨w1.heap.size, 0, none⟩) L.length 3) L ∧ b < w1.heap.size ∧ b < W.heap.size) := by
    rw [← hW]
    refine Lib.hid ⟨T1.out.1.alloc _, T1.out.2.1.alloc T1.out.2.1.size _, T1.out.2.2, ?_, T1.out.1.lt, (T1.out.1.alloc _).lt⟩
    rw [HLL.out]
    refine ⟨Seg.of_has (n := 3) (size := 1) (made_at _ _ rfl) rfl (by decide), fun s hs => ?_⟩
    simp at hs
    rcases hs with rfl | rfl | rfl <;> decide
  have hA := T2.out.1.append_calls (some ⟨w1.heap.size, 0, none⟩) 3 L T2.out.2.2.2.1 (fun x hx e => by
    have e2 : w1.heap.size = x := by simpa [Value.ownBlock] using hx
    have := T2.out.2.2.2.2.1
    omega) (fun i s hs => by rw [Nat.zero_add]; exact leafF_at L i s hs) (by rw [H3.out]; decide)
  rw [H3.out] at hA
  have HA := Lib.hid hA
  clear hW T1 hA
  refine HA.out.mono ?_
  rintro en w2 ⟨rfl, t2, u2⟩
  have T3 : Hid (Tr B (fun k => k = b ∨ W.heap.size ≤ k) w2 b 3 0 (leafF L) ∧ Below w.heap.size w w2 ∧ w.heap.size ≤ b) :=
    Lib.hid ⟨t2, turn_below T2.out.2.1 u2 T2.out.2.1.size (fun k e => by rw [e]; exact T2.out.2.2.1), T2.out.2.2.1⟩
  clear t2 u2 T2 HA
  generalize (fun k => k = b ∨ W.heap.size ≤ k) = FF at *
  go_wp2_with fail
  refine (leaf_calls ⟨#[97]⟩ w2 T3.out.1.rt.rk (by decide)).mono ?_
  rintro en w3 ⟨rfl, b3⟩
  have T4 : Hid (Tr B FF w3 b 3 0 (leafF L) ∧ Below w.heap.size w w3 ∧ w.heap.size ≤ b) := Lib.hid ⟨T3.out.1.below b3, T3.out.2.1.trans (b3.mono T3.out.2.1.size), T3.out.2.2⟩
  clear b3 T3
  go_wp2_with fail
  refine (leaf_calls ⟨#[98]⟩ w3 T4.out.1.rt.rk (by decide)).mono ?_
  rintro en w4 ⟨rfl, b4⟩
  have T5 : Hid (Tr B FF w4 b 3 0 (leafF L) ∧ Below w.heap.size w w4 ∧ w.heap.size ≤ b) := Lib.hid ⟨T4.out.1.below b4, T4.out.2.1.trans (b4.mono T4.out.2.1.size), T4.out.2.2⟩
  clear b4 T4
  go_wp2_with fail
  obtain ⟨AB, hAB⟩ : ∃ AB, AB = nodeS (leafS [97]) (leafS [98]) := ⟨_, rfl⟩
  obtain ⟨LC, hLC⟩ : ∃ LC, LC = leafS [99] := ⟨_, rfl⟩
  obtain ⟨R, hR⟩ : ∃ R, R = nodeS AB LC := ⟨_, rfl⟩
  have HAB := Lib.hid hAB
  have HLC : Hid (leafS (⟨#[99]⟩ : ByteArray).data.toList = LC) := Lib.hid (by rw [hLC])
  have HRN : Hid (nodeS AB LC = R) := Lib.hid hR.symm
  have HL : Hid (R.length = 32 ∧ AB.length = 32) := Lib.hid ⟨by rw [hR]; exact nodeS_length _ _, by rw [hAB]; exact nodeS_length _ _⟩
  have HC : Hid (LC.length = 32) := Lib.hid (by rw [hLC]; exact leafS_length _)
  have HRT : Hid (rtAll (leafF L) 3 = R ∧ path (leafF L) 2 0 3 = [AB]) := Lib.hid ⟨by rw [rt_three, H0.out, H1.out, H2.out, hR, hAB, hLC], by rw [path_three, H0.out, H1.out, hAB]⟩
  clear hAB hLC hR H0 H1 H2 H3
  refine (node_calls (leafS [97]) (leafS [98]) w4 T5.out.1.rt.rk (leafS_length _) (leafS_length _)).mono ?_
  rw [← HAB.out]
  rintro en w5 ⟨rfl, b5⟩
  have T6 : Hid (Tr B FF w5 b 3 0 (leafF L) ∧ Below w.heap.size w w5 ∧ w.heap.size ≤ b) := Lib.hid ⟨T5.out.1.below b5, T5.out.2.1.trans (b5.mono T5.out.2.1.size), T5.out.2.2⟩
  clear b5 T5
  have hab32 : (cellsOf AB).size = 32 := by rw [cellsOf_size, HL.out.2]
  have hr32 : (cellsOf R).size = 32 := by rw [cellsOf_size, HL.out.1]
  have HAB32 := Lib.hid hab32
  have HR32 := Lib.hid hr32
  clear hab32 hr32
  go_wp2_with (first
    | (refine wpList_store_cells (o := ⟨none, _, _, _, _, _⟩) rfl 32 _ _ rfl w5.heap.size (cellsOf AB) _ rfl rfl _ (made_at _ _ rfl) (HAB32.out.symm ▸ (by kernel_rfl)) (HAB32.out.symm ▸ rfl) (cellsOf_one _) ?_; intro W6 HW6 TW6;
       (have T7 : Hid (Tr B FF W6 b 3 0 (leafF L) ∧ Below w.heap.size w W6 ∧ w.heap.size ≤ b ∧ Has W6 w5.heap.size 32 (cellsOf AB)) := (by
         have bb : Below w5.heap.size w5 W6 := ((Below.refl _ _).alloc (Nat.le_refl _) _).trans (TW6.below (by simp) (fun j hj e => by omega))
         exact Lib.hid ⟨T6.out.1.below bb, T6.out.2.1.trans (bb.mono T6.out.2.1.size), T6.out.2.2, HW6⟩));
       clear T6 HW6 TW6)
    | fail)
  obtain ⟨g2, hg2⟩ : ∃ g2, g2 = w5.heap.size := ⟨_, rfl⟩
  rw [← hg2] at T7 ⊢
  clear hg2
  refine (T7.out.1.root (by decide) 3 (Nat.le_refl _) (Nat.zero_le _)).mono ?_
  rw [HRT.out.1]
  rintro en w6 ⟨rfl, b6⟩
  have T8 : Hid (Tr B FF w6 b 3 0 (leafF L) ∧ Below w.heap.size w w6 ∧ w.heap.size ≤ b ∧ Has w6 g2 32 (cellsOf AB)) := Lib.hid ⟨T7.out.1.below b6, T7.out.2.1.trans (b6.mono T7.out.2.1.size), T7.out.2.2.1, T7.out.2.2.2.below b6 T7.out.2.2.2.lt⟩
  clear b6 T7
  go_wp2_with (first
    | (refine wpList_store_cells (o := ⟨none, _, _, _, _, _⟩) rfl 32 _ _ rfl w6.heap.size (cellsOf R) _ rfl rfl _ (made_at _ _ rfl) (HR32.out.symm ▸ (by kernel_rfl)) (HR32.out.symm ▸ rfl) (cellsOf_one _) ?_; intro W7 HW7 TW7;
       (have T9 : Hid (Tr B FF W7 b 3 0 (leafF L) ∧ Below w.heap.size w W7 ∧ w.heap.size ≤ b ∧ Has W7 g2 32 (cellsOf AB) ∧ Has W7 w6.heap.size 32 (cellsOf R)) := (by
         have bb : Below w6.heap.size w6 W7 := ((Below.refl _ _).alloc (Nat.le_refl _) _).trans (TW7.below (by simp) (fun j hj e => by omega))
         exact Lib.hid ⟨T8.out.1.below bb, T8.out.2.1.trans (bb.mono T8.out.2.1.size), T8.out.2.2.1, T8.out.2.2.2.below bb T8.out.2.2.2.lt, HW7⟩));
       clear T8 HW7 TW7)
    | fail)
  obtain ⟨g3, hg3⟩ : ∃ g3, g3 = w6.heap.size := ⟨_, rfl⟩
  rw [← hg3] at T9 ⊢
  clear hg3
  have hin := T9.out.1.inclusion (by decide) 2 3 (Nat.le_refl _) (by decide) (Nat.zero_le _)
  rw [HRT.out.2] at hin
  have HIN := Lib.hid hin
  clear hin
  refine HIN.out.mono ?_
  rintro en w7 ⟨v, rfl, s7, lo7, b7⟩
  obtain ⟨gl, off, c, rfl, hgl, hc1, hc2, hcell⟩ := s7.cells (by simp)
  have hc3 : (c : Int) ≤ 9223372036854775807 := by unfold maxLen at hc2; omega
  have hr7 : w7.rangeAt gl off (AB.map byteV) := fun j u hj => hcell j u (by simpa [sumsC] using hj)
  have TA : Hid (Tr B FF w7 b 3 0 (leafF L) ∧ Has w7 g2 32 (cellsOf AB) ∧ Has w7 g3 32 (cellsOf R) ∧ w7.rangeAt gl off (AB.map byteV) ∧ gl < w7.heap.size ∧ Below w.heap.size w w7) :=
    Lib.hid ⟨T9.out.1.below b7, T9.out.2.2.2.1.below b7 T9.out.2.2.2.1.lt, T9.out.2.2.2.2.below b7 T9.out.2.2.2.2.lt, hr7, hgl, T9.out.2.1.trans (b7.mono T9.out.2.1.size)⟩
  clear T9 s7 lo7 b7 HIN hcell hr7 hgl hc2 HRT
  have hc4 : (1 : Int) ≤ (c : Int) := by simp at hc1; omega
  clear hc1
  go_wp2_with fail
  have hA0 : Hid (AwS B FF w b L g2 g3 gl off AB R w7) := Lib.hid ⟨TA.out.1, TA.out.2.1, TA.out.2.2.1, TA.out.2.2.2.1, TA.out.2.2.2.2.1, TA.out.2.2.2.2.2⟩
  clear TA
  refine wp_region_S (S := AwS B FF w b L g2 g3 gl off AB R) (by kernel_rfl) (hA0.out.below (Below.refl _ _).drew) ?_
  clear hA0
  refine AnyS.pure 0 (some 26) rfl rfl (by kernel_rfl) (by kernel_rfl) (by kernel_rfl) (fun _ _ _ h => h) (by kernel_rfl) (fun _ _ => rfl) ?_
  refine AnyS.pure 1 (some 27) (v := .bool true) rfl rfl (by kernel_rfl) (by kernel_rfl) (by kernel_rfl) (fun _ _ _ h => h) (by kernel_rfl) (fun V _ => by go_simp) ?_
  refine AnyS.pure 2 (some 28) rfl rfl (by kernel_rfl) (by kernel_rfl) (by kernel_rfl) (fun _ _ _ h => h) (by kernel_rfl) (fun _ _ => rfl) ?_
  refine AnyS.pure 3 (some 29) rfl rfl (by kernel_rfl) (by kernel_rfl) (by kernel_rfl) (fun _ _ _ h => h) (by kernel_rfl) (fun _ _ => rfl) ?_
  refine AnyS.pure 4 (some 30) (v := .bool true) rfl rfl (by kernel_rfl) (by kernel_rfl) (by kernel_rfl) (fun _ _ _ h => h) (by kernel_rfl) (fun V _ => by go_simp) ?_
  refine AnyS.pure 5 (some 31) (v := .bool true) rfl rfl (by kernel_rfl) (by kernel_rfl) (by kernel_rfl) (fun _ _ _ h => h) (by kernel_rfl) (fun V _ => by go_simp) ?_
  refine AnyS.pure 6 (some 32) rfl rfl (by kernel_rfl) (by kernel_rfl) (by kernel_rfl) (fun _ _ _ h => h) (by kernel_rfl) (fun _ _ => rfl) ?_
  simp only [Act.put, List.setIfInBounds_toArray, List.set_cons_zero, List.set_cons_succ]
  refine AnyS.pure 7 (some 33) (v := .agg (cellsOf R)) rfl rfl (by kernel_rfl) (by kernel_rfl) (by kernel_rfl) (fun _ _ _ h => h) (by kernel_rfl) (fun V hV => exec_load 32 (.tmp 3) rfl (.pointer (some ⟨g3, 0, none⟩)) (by kernel_rfl) (run_loadAt_mid V g3 0 32 (R.map byteV) _ (Has.range hV.s3) Tryd.underlying32 rfl (by rw [List.length_map, HL.out.1]; kernel_rfl))) ?_
  refine AnyS.pure 8 (some 34) (v := .agg (cellsOf AB)) rfl rfl (by kernel_rfl) (by kernel_rfl) (by kernel_rfl) (fun _ _ _ h => h) (by kernel_rfl) (fun V hV => exec_load 32 (.tmp 2) rfl (.pointer (some ⟨g2, 0, none⟩)) (by kernel_rfl) (run_loadAt_mid V g2 0 32 (AB.map byteV) _ (Has.range hV.s2) Tryd.underlying32 rfl (by rw [List.length_map, HL.out.2]; kernel_rfl))) ?_
  refine AnyS.call 9 (some 35) (.agg (cellsOf LC)) rfl rfl (by kernel_rfl) (by kernel_rfl) (by kernel_rfl) (fun _ _ _ h => h) (by kernel_rfl) 36 Tryd.f36 Tryd.func36 (by kernel_rfl) (by kernel_rfl) _ _ rfl #[.string ⟨#[99]⟩] (by first | (simp [Act.eval]; done) | (simp [Act.eval, Act.put]; done)) (fun V hV => (leaf_calls ⟨#[99]⟩ V hV.tr.rt.rk (by decide)).mono (fun _ _ h => ⟨by rw [h.1, HLC.out], hV.below h.2⟩)) ?_
  simp only [Act.put, List.setIfInBounds_toArray, List.set_cons_zero, List.set_cons_succ]
  refine AnyS.call 10 (some 36) (.agg (cellsOf R)) rfl rfl (by kernel_rfl) (by kernel_rfl) (by kernel_rfl) (fun _ _ _ h => h) (by kernel_rfl) 35 Tryd.f35 Tryd.func35 (by kernel_rfl) (by kernel_rfl) _ _ rfl #[.agg (cellsOf AB), .agg (cellsOf LC)] (by first | (simp [Act.eval]; done) | (simp [Act.eval, Act.put]; done)) (fun V hV => (node_calls AB LC V hV.tr.rt.rk HL.out.2 HC.out).mono (fun _ _ h => ⟨by rw [h.1, HRN.out], hV.below h.2⟩)) ?_
  simp only [Act.put, List.setIfInBounds_toArray, List.set_cons_zero, List.set_cons_succ]
  refine AnyS.pure 11 (some 37) (v := .bool true) rfl rfl (by kernel_rfl) (by kernel_rfl) (by kernel_rfl) (fun _ _ _ h => h) (by kernel_rfl) (fun V _ => by have he := run_equal_same R HL.out.1 V; go_simp) ?_
  refine AnyS.pure 12 (some 38) (v := .bool true) rfl rfl (by kernel_rfl) (by kernel_rfl) (by kernel_rfl) (fun _ _ _ h => h) (by kernel_rfl) (fun V _ => by go_simp) ?_
  refine AnyS.pure 13 (some 39) rfl rfl (by kernel_rfl) (by kernel_rfl) (by kernel_rfl) (fun _ _ _ h => h) (by kernel_rfl) (fun _ _ => rfl) ?_
  simp only [Act.put, List.setIfInBounds_toArray, List.set_cons_zero, List.set_cons_succ]
  refine AnyS.pure 14 (some 40) rfl rfl (by kernel_rfl) (by kernel_rfl) (by kernel_rfl) (fun _ _ _ h => h) (by kernel_rfl) (fun _ _ => rfl) ?_
  refine AnyS.pure 15 (some 41) (v := .int .i64 1) rfl rfl (by kernel_rfl) (by kernel_rfl) (by kernel_rfl) (fun _ _ _ h => h) (by kernel_rfl) (fun V _ => by go_simp) ?_
  refine AnyS.pure 16 (some 42) (v := .bool true) rfl rfl (by kernel_rfl) (by kernel_rfl) (by kernel_rfl) (fun _ _ _ h => h) (by kernel_rfl) (fun V _ => by go_simp) ?_
  refine AnyS.pure 17 (some 43) (v := .bool true) rfl rfl (by kernel_rfl) (by kernel_rfl) (by kernel_rfl) (fun _ _ _ h => h) (by kernel_rfl) (fun V _ => by go_simp) ?_
  refine AnyS.pure 18 (some 44) rfl rfl (by kernel_rfl) (by kernel_rfl) (by kernel_rfl) (fun _ _ _ h => h) (by kernel_rfl) (fun _ _ => rfl) ?_
  refine AnyS.pure 19 (some 45) rfl rfl (by kernel_rfl) (by kernel_rfl) (by kernel_rfl) (fun _ _ _ h => h) (by kernel_rfl) (fun _ _ => rfl) ?_
  refine AnyS.pure 20 (some 46) (v := .pointer (some ⟨gl, off, none⟩)) rfl rfl (by kernel_rfl) (by kernel_rfl) (by kernel_rfl) (fun _ _ _ h => h) (by kernel_rfl) (fun V _ => by go_simp) ?_
  simp only [Act.put, List.setIfInBounds_toArray, List.set_cons_zero, List.set_cons_succ]
  refine AnyS.pure 21 (some 47) (v := .agg (cellsOf AB)) rfl rfl (by kernel_rfl) (by kernel_rfl) (by kernel_rfl) (fun _ _ _ h => h) (by kernel_rfl) (fun V hV => exec_load 32 (.tmp 46) rfl (.pointer (some ⟨gl, off, none⟩)) (by kernel_rfl) (run_loadAt_mid V gl off 32 (AB.map byteV) _ (hV.rg) Tryd.underlying32 rfl (by rw [List.length_map, HL.out.2]; kernel_rfl))) ?_
  refine AnyS.pure 22 (some 48) (v := .agg (cellsOf AB)) rfl rfl (by kernel_rfl) (by kernel_rfl) (by kernel_rfl) (fun _ _ _ h => h) (by kernel_rfl) (fun V hV => exec_load 32 (.tmp 2) rfl (.pointer (some ⟨g2, 0, none⟩)) (by kernel_rfl) (run_loadAt_mid V g2 0 32 (AB.map byteV) _ (Has.range hV.s2) Tryd.underlying32 rfl (by rw [List.length_map, HL.out.2]; kernel_rfl))) ?_
  simp only [Act.put, List.setIfInBounds_toArray, List.set_cons_zero, List.set_cons_succ]
  refine AnyS.pure 23 (some 49) (v := .bool true) rfl rfl (by kernel_rfl) (by kernel_rfl) (by kernel_rfl) (fun _ _ _ h => h) (by kernel_rfl) (fun V _ => by have he := run_equal_same AB HL.out.2 V; go_simp) ?_
  refine AnyS.pure 24 (some 50) (v := .bool true) rfl rfl (by kernel_rfl) (by kernel_rfl) (by kernel_rfl) (fun _ _ _ h => h) (by kernel_rfl) (fun V _ => by go_simp) ?_
  refine AnyS.pure 25 (some 51) rfl rfl (by kernel_rfl) (by kernel_rfl) (by kernel_rfl) (fun _ _ _ h => h) (by kernel_rfl) (fun _ _ => rfl) ?_
  refine AnyS.pure 26 (some 52) rfl rfl (by kernel_rfl) (by kernel_rfl) (by kernel_rfl) (fun _ _ _ h => h) (by kernel_rfl) (fun _ _ => rfl) ?_
  refine AnyS.call 27 (some 53) (.int .i64 3) rfl rfl (by kernel_rfl) (by kernel_rfl) (by kernel_rfl) (fun _ _ _ h => h) (by kernel_rfl) 16 Tryd.f16 Tryd.func16 (by kernel_rfl) (by kernel_rfl) _ _ rfl #[.pointer (some ⟨b, 0, none⟩)] (by first | (simp [Act.eval]; done) | (simp [Act.eval, Act.put]; done)) (fun V hV => hV.tr.len_calls.mono (fun _ _ h => ⟨h.1, h.2 ▸ hV⟩)) ?_
  simp only [Act.put, List.setIfInBounds_toArray, List.set_cons_zero, List.set_cons_succ]
  refine AnyS.pure 28 (some 54) (v := .bool true) rfl rfl (by kernel_rfl) (by kernel_rfl) (by kernel_rfl) (fun _ _ _ h => h) (by kernel_rfl) (fun V _ => by go_simp) ?_
  refine AnyS.pure 29 (some 55) (v := .bool true) rfl rfl (by kernel_rfl) (by kernel_rfl) (by kernel_rfl) (fun _ _ _ h => h) (by kernel_rfl) (fun V _ => by go_simp) ?_
  refine AnyS.pure 30 (some 0) rfl rfl (by kernel_rfl) (by kernel_rfl) (by kernel_rfl) (fun _ _ _ h => h) (by kernel_rfl) (fun _ _ => rfl) ?_
  refine AnyS.done (by kernel_rfl) (fun V hV => ?_) _
  have HB := Lib.hid hV.bel
  clear hV
  go_wp2_with fail
  go_ret
  exact ⟨rfl, HB.out⟩
end Go.Proofs.YtplidcgoclebcaaDoor.dig
