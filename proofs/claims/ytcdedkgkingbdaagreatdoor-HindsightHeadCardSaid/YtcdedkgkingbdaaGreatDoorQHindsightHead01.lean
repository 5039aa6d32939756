/- Texts laid into one: PrfI, PrfJ, PrfY, HeadQ. -/
import Derived.Test.YtcdedkgkingbdaaGreatDoorQHindsightHead00
import Derived.Test.YtcdedkgkingbdaaGreatDoorQ012
import Derived.Test.YtcdedkgkingbdaaGreatDoorQ013
section
/- proof: Inclusion; what an error of one step is. -/
namespace Go.Proofs.YtcdedkgkingbdaaGreatDoor.prf
open Go Go.RowKit Go.Proofs.YtcdedkgkingbdaaGreatDoor.dig

theorem run_neq_sum (xs ys : List UInt8) (hx : xs.length = 32) (hy : ys.length = 32) (w : World) : (binOp .neq 84 (.agg (cellsOf xs)) (.agg (cellsOf ys))).run Tryz.prog w = .ok (.bool (!(xs == ys))) w := by
  simp only [binOp]
  have := run_equalIn_bytes (P := Tryz.prog) 9998 (t := 84) (e := 5) 32 Tryz.underlying84 Tryz.underlying5 (by kernel_rfl) xs ys hx hy w
  simp [Op.equal, Op.maxDepth, this]

/-- No error, or a number with one step around it. -/
def IsErr (w : World) (v : Value) (s : ByteArray) (a E : Int) : Prop :=
  (E = 0 ∧ v = .nilIface) ∨ (E ≠ 0 ∧ ∃ b, v = flt.ev [⟨b, s, a⟩] E ∧ flt.Er w.heap.size w [⟨b, s, a⟩] E)
theorem IsErr.below {w w' : World} {v : Value} {s : ByteArray} {a E : Int} (h : IsErr w v s a E) (b : Below w.heap.size w w') : IsErr w' v s a E :=
  h.imp id fun ⟨h1, x, h2, h3⟩ => ⟨h1, x, h2, (h3.below b (Nat.le_refl _)).more b.size⟩
theorem IsErr.ok (w : World) (s : ByteArray) (a : Int) : IsErr w .nilIface s a 0 := .inl ⟨rfl, rfl⟩
/-- What makes an error answers one. -/
def ErrPost (w : World) (s : ByteArray) (a E : Int) (en : Ending) (w' : World) : Prop := ∃ v, en = .returned v ∧ IsErr w' v s a E ∧ Below w.heap.size w w'
theorem in_post (s : ByteArray) (a E : Int) (hE : E ≠ 0) (w : World) : Calls Tryz.prog 57 #[.string s, .int .i64 a, flt.ev [] E] w (ErrPost w s a E) := by
  refine (flt.in_calls [] E s a w hE).mono ?_
  rintro en w' ⟨rfl, rfl⟩
  refine ⟨_, rfl, .inr ⟨hE, _, rfl, ⟨⟨Has.made _ _ _, by simp⟩, trivial⟩⟩, (Below.refl _ _).alloc (Nat.le_refl _) _⟩

set_option maxRecDepth 100000 in
set_option maxHeartbeats 1000000 in
theorem incl_out (leaf : ByteArray) (i n : Int) (root : List UInt8) (h : i < 0 ∨ n ≤ i) (v : Value) (w : World) : Calls Tryz.prog 81 #[.string leaf, .int .i64 i, .agg (headC n root), v] w (ErrPost w ⟨#[108, 101, 97, 102]⟩ i 6) := by
  have c0 : (w.alloc (.cells (headC n root) 86)).cell? ⟨w.heap.size, 0, none⟩ = some (.int .i64 n) := Has.num (made_at _ _ rfl)
  have HI := fun V => Lib.hid (in_post ⟨#[108, 101, 97, 102]⟩ i 6 (by decide) V)
  by_cases h0 : i < 0
  · clear h
    go_enter Tryz.func81, Tryz.ntmps81
    go_wp2_with fail
    refine (HI _).out.mono ?_
    rintro en w1 ⟨v, rfl, he, b⟩
    go_wp2_with fail
    go_ret
    exact ⟨v, rfl, he, ((Below.refl _ _).alloc (Nat.le_refl _) _).trans (b.mono (by simp))⟩
  · have h1 : n ≤ i := h.resolve_left h0
    clear h
    go_enter Tryz.func81, Tryz.ntmps81
    go_wp2_with fail
    refine (HI _).out.mono ?_
    rintro en w1 ⟨v, rfl, he, b⟩
    go_wp2_with fail
    go_ret
    exact ⟨v, rfl, he, ((Below.refl _ _).alloc (Nat.le_refl _) _).trans (b.mono (by simp))⟩

/-- What lasts while Inclusion reckons. -/
structure Ic (w : World) (n : Int) (root : List UInt8) (V : World) : Prop where
  bel : Below w.heap.size w V
  hd : Has V w.heap.size 86 (headC n root)
theorem Ic.below {w V V' : World} {n : Int} {root : List UInt8} (h : Ic w n root V) (b : Below V.heap.size V V') : Ic w n root V' := ⟨h.bel.trans (b.mono h.bel.size), h.hd.below b h.hd.lt⟩
theorem Ic.drew {w V : World} {n : Int} {root : List UInt8} (h : Ic w n root V) : Ic w n root V.drew := h.below (Below.refl _ _).drew

set_option maxRecDepth 100000 in
set_option maxHeartbeats 4000000 in
theorem incl_in {leaf : ByteArray} {root lf u1 : List UInt8} {ub : Bool} (hr : root.length = 32) (h1 : u1.length = 32) (i n : Nat) (hi : i < n) (_hn : n ≤ 1000000) (a : Option Addr) (l c : Nat) (w : World)
    (hl : ∀ V, Below w.heap.size w V → Calls Tryz.prog 70 #[.string leaf] V fun en w' => en = .returned (.agg (cellsOf lf)) ∧ Below V.heap.size V w')
    (hc : ∀ V, Below w.heap.size w V → Calls Tryz.prog 124 #[.agg (cellsOf lf), .int .i64 i, .int .i64 n, .slice a l c] V fun en w' => en = .returned (.tuple #[.agg (cellsOf u1), .bool ub]) ∧ Below V.heap.size V w') :
    Calls Tryz.prog 81 #[.string leaf, .int .i64 i, .agg (headC n root), .slice a l c] w (ErrPost w ⟨#[108, 101, 97, 102]⟩ i (if ub = true ∧ u1 = root then 0 else 12)) := by
  have HR := Lib.hid hr
  have H1 := Lib.hid h1
  have HL := Lib.hid hl
  have HC := Lib.hid hc
  obtain ⟨b1, hb1⟩ : ∃ b, (u1 == root) = b := ⟨_, rfl⟩
  have q1 : ∀ w, (binOp .neq 84 (.agg (cellsOf u1)) (.agg (cellsOf root))).run Tryz.prog w = .ok (.bool (!b1)) w := fun w => by rw [run_neq_sum u1 root h1 hr w, hb1]
  obtain ⟨E, hE⟩ : ∃ E : Int, E = if ub = true ∧ u1 = root then 0 else 12 := ⟨_, rfl⟩
  rw [← hE]
  have key : (ub = false ∧ E = 12) ∨ (ub = true ∧ b1 = false ∧ E = 12) ∨ (ub = true ∧ b1 = true ∧ E = 0) := by
    cases ub
    · exact .inl ⟨rfl, by rw [hE, if_neg (by simp)]⟩
    · cases b1
      · exact .inr (.inl ⟨rfl, rfl, by rw [hE, if_neg (fun e => by rw [e.2] at hb1; simp at hb1)]⟩)
      · exact .inr (.inr ⟨rfl, rfl, by rw [hE, if_pos ⟨rfl, by simpa using hb1⟩]⟩)
  have HI := fun V => Lib.hid (in_post ⟨#[108, 101, 97, 102]⟩ i 12 (by decide) V)
  have KEY := Lib.hid key
  have i0 : (0 : Int) ≤ (i : Int) := by omega
  have i1 : (i : Int) < (n : Int) := by omega
  clear hr h1 hl hc hb1 hE key hi
  have c0 : (w.alloc (.cells (headC n root) 86)).cell? ⟨w.heap.size, 0, none⟩ = some (.int .i64 n) := Has.num (made_at _ _ rfl)
  go_enter Tryz.func81, Tryz.ntmps81
  go_wp2_with fail
  go_name_world W hW
  have B0 : Hid (Ic w n root W) := by rw [← hW]; exact Lib.hid ⟨(Below.refl _ _).alloc (Nat.le_refl _) _, made_at _ _ rfl⟩
  clear hW c0
  obtain ⟨V0, hV0⟩ : ∃ V, V = W.drew := ⟨_, rfl⟩
  refine wp_region_held (fun V => Ic w n root V) V0 hV0 (by kernel_rfl) ?_
  have S0 : Ic w n root V0 := by rw [hV0]; exact B0.out.drew
  clear hV0 B0
  refine held_take 0 (some 23) (v := .string leaf) rfl rfl (by kernel_rfl) (by kernel_rfl) (by kernel_rfl) (fun _ _ _ h => h) (.inl ⟨by kernel_rfl, fun V hV => by go_simp⟩) S0 ?_
  refine held_take 2 (some 25) (v := .int .i64 i) rfl rfl (by kernel_rfl) (by kernel_rfl) (by kernel_rfl) (fun _ _ _ h => h) (.inl ⟨by kernel_rfl, fun V hV => by go_simp⟩) S0 ?_
  refine held_take 3 (some 26) (v := .pointer (some ⟨w.heap.size, 0, none⟩)) rfl rfl (by kernel_rfl) (by kernel_rfl) (by kernel_rfl) (fun _ _ _ h => h) (.inl ⟨by kernel_rfl, fun V hV => by go_simp⟩) S0 ?_
  refine held_take 4 (some 27) (v := .int .i64 n) rfl rfl (by kernel_rfl) (by kernel_rfl) (by kernel_rfl) (fun _ _ _ h => h) (.inl ⟨by kernel_rfl, fun V hV => by have c0 := Has.num hV.hd; go_simp⟩) S0 ?_
  refine held_take 5 (some 28) (v := .slice a l c) rfl rfl (by kernel_rfl) (by kernel_rfl) (by kernel_rfl) (fun _ _ _ h => h) (.inl ⟨by kernel_rfl, fun V hV => by go_simp⟩) S0 ?_
  simp only [Act.put, List.setIfInBounds_toArray, List.set_cons_zero, List.set_cons_succ]
  refine held_two (i := 1) (j := 10) (by kernel_rfl) ?_ ?_
  · refine wpOp_call (some 24) rfl rfl (by kernel_rfl) 70 Tryz.f70 Tryz.func70 (by kernel_rfl) (by kernel_rfl) _ _ rfl #[.string leaf] (by first | (simp [Act.eval]; done) | (simp [Act.eval, Act.put]; done)) (HL.out V0 S0.bel) ?_
    rintro en V1 ⟨rfl, b⟩
    have S1 := S0.below b
    clear b
    refine ⟨_, rfl, S1, ?_⟩
    simp only [Act.put, List.setIfInBounds_toArray, List.set_cons_zero, List.set_cons_succ]
    refine held_two (i := 6) (j := 10) (by kernel_rfl) ?_ ?_
    · refine wpOp_call (some 29) rfl rfl (by kernel_rfl) 124 Tryz.f124 Tryz.func124 (by kernel_rfl) (by kernel_rfl) _ _ rfl #[.agg (cellsOf lf), .int .i64 i, .int .i64 n, .slice a l c] (by first | (simp [Act.eval]; done) | (simp [Act.eval, Act.put]; done)) (HC.out V1 S1.bel) ?_
      rintro en V2 ⟨rfl, b⟩
      have S2 := S1.below b
      clear b
      refine ⟨_, rfl, S2, ?_⟩
      simp only [Act.put, List.setIfInBounds_toArray, List.set_cons_zero, List.set_cons_succ]
      refine held_take 7 (some 22) (v := .tuple #[.agg (cellsOf u1), .bool ub]) rfl rfl (by kernel_rfl) (by kernel_rfl) (by kernel_rfl) (fun _ _ _ h => h) (.inl ⟨by kernel_rfl, fun V hV => by go_simp⟩) S2 ?_
      refine held_take 8 (some 30) (v := .agg (cellsOf u1)) rfl rfl (by kernel_rfl) (by kernel_rfl) (by kernel_rfl) (fun _ _ _ h => h) (.inl ⟨by kernel_rfl, fun V hV => by go_simp⟩) S2 ?_
      refine held_take 9 (some 31) (v := .bool ub) rfl rfl (by kernel_rfl) (by kernel_rfl) (by kernel_rfl) (fun _ _ _ h => h) (.inl ⟨by kernel_rfl, fun V hV => by go_simp⟩) S2 ?_
      simp only [Act.put, List.setIfInBounds_toArray, List.set_cons_zero, List.set_cons_succ]
      refine held_one (i := 10) (by kernel_rfl) ?_
      refine wpOp_value (some 9) (v := .pointer (some ⟨V2.heap.size, 0, none⟩)) (w' := V2.alloc (.cells (cellsOf Z) 84)) rfl rfl (by kernel_rfl) (by go_simp; rfl) ?_
      have S3 : Ic w n root (V2.alloc (.cells (cellsOf Z) 84)) := S2.below ((Below.refl _ _).alloc (Nat.le_refl _) _)
      have G3 : Has (V2.alloc (.cells (cellsOf Z) 84)) V2.heap.size 84 (cellsOf Z) := made_at _ _ rfl
      have L3 : w.heap.size < V2.heap.size := S2.hd.lt
      generalize V2.alloc (.cells (cellsOf Z) 84) = V3 at *
      generalize V2.heap.size = g at *
      refine ⟨S3, ?_⟩
      simp only [Act.put, List.setIfInBounds_toArray, List.set_cons_zero, List.set_cons_succ]
      refine held_one (i := 11) (by kernel_rfl) ?_
      refine wpOp_wp rfl (by kernel_rfl) ?_
      refine wp_store_row 84 _ _ rfl g (cellsOf u1) rfl rfl 84 (cellsOf Z) G3 (by rw [cellsOf_size, H1.out]; kernel_rfl) (by rw [cellsOf_size, cellsOf_size, H1.out, Z_len]) (cellsOf_one _) ?_
      have HW : Has (V3.setRow g (cellsOf u1)) g 84 (cellsOf u1) := G3.row _
      have TW : Turn (fun k => k = g) V3 (V3.setRow g (cellsOf u1)) := turn_row _ _ _
      have SW : Ic w n root (V3.setRow g (cellsOf u1)) := ⟨S3.bel.trans (TW.below S3.bel.size (fun j hj e => by have := L3; omega)), S3.hd.turn TW (by have := L3; omega)⟩
      clear TW
      generalize V3.setRow g (cellsOf u1) = W9 at *
      refine ⟨SW, ?_⟩
      simp only [Act.put]
      refine held_take 12 (some 10) (v := .bool ub) rfl rfl (by kernel_rfl) (by kernel_rfl) (by kernel_rfl) (fun _ _ _ h => h) (.inl ⟨by kernel_rfl, fun V hV => by go_simp⟩) SW ?_
      simp only [Act.put]
      refine wpAnyH_done (by kernel_rfl) ?_ _
      have HSW := Lib.hid SW
      have HHW := Lib.hid HW
      clear SW HW
      rcases KEY.out with ⟨rfl, rfl⟩ | ⟨rfl, rfl, rfl⟩ | ⟨rfl, rfl, rfl⟩
      · go_wp2_with fail
        refine (HI _).out.mono ?_
        rintro en w1 ⟨v, rfl, he, b⟩
        go_wp2_with fail
        go_ret
        exact ⟨v, rfl, he, HSW.out.bel.trans (b.mono HSW.out.bel.size)⟩
      · go_wp2_with (first
          | ((with_reducible refine at_opg 35 ?_); refine wpList_load_if (by kernel_rfl) 84 _ rfl (.pointer (some ⟨g, 0, none⟩)) rfl (Has.load_sum HHW.out H1.out) ?_)
          | ((with_reducible refine at_opg 37 ?_); refine wpList_load_if (by kernel_rfl) 84 _ rfl (.pointer (some ⟨w.heap.size, 1, none⟩)) rfl (Has.load_root HSW.out.hd HR.out) ?_)
          | fail)
        refine (HI _).out.mono ?_
        rintro en w1 ⟨v, rfl, he, b⟩
        go_wp2_with fail
        go_ret
        exact ⟨v, rfl, he, HSW.out.bel.trans (b.mono HSW.out.bel.size)⟩
      · go_wp2_with (first
          | ((with_reducible refine at_opg 35 ?_); refine wpList_load_if (by kernel_rfl) 84 _ rfl (.pointer (some ⟨g, 0, none⟩)) rfl (Has.load_sum HHW.out H1.out) ?_)
          | ((with_reducible refine at_opg 37 ?_); refine wpList_load_if (by kernel_rfl) 84 _ rfl (.pointer (some ⟨w.heap.size, 1, none⟩)) rfl (Has.load_root HSW.out.hd HR.out) ?_)
          | fail)
        go_ret
        exact ⟨_, rfl, IsErr.ok _ _ _, HSW.out.bel⟩
    · refine wpOp_value (some 9) (v := .pointer (some ⟨V1.heap.size, 0, none⟩)) (w' := V1.alloc (.cells (cellsOf Z) 84)) rfl rfl (by kernel_rfl) (by go_simp; rfl) ?_
      have S2 : Ic w n root (V1.alloc (.cells (cellsOf Z) 84)) := S1.below ((Below.refl _ _).alloc (Nat.le_refl _) _)
      have G2 : Has (V1.alloc (.cells (cellsOf Z) 84)) V1.heap.size 84 (cellsOf Z) := made_at _ _ rfl
      have L2 : w.heap.size < V1.heap.size := S1.hd.lt
      generalize V1.alloc (.cells (cellsOf Z) 84) = V2 at *
      generalize V1.heap.size = g at *
      refine ⟨S2, ?_⟩
      simp only [Act.put, List.setIfInBounds_toArray, List.set_cons_zero, List.set_cons_succ]
      refine held_one (i := 6) (by kernel_rfl) ?_
      refine wpOp_call (some 29) rfl rfl (by kernel_rfl) 124 Tryz.f124 Tryz.func124 (by kernel_rfl) (by kernel_rfl) _ _ rfl #[.agg (cellsOf lf), .int .i64 i, .int .i64 n, .slice a l c] (by first | (simp [Act.eval]; done) | (simp [Act.eval, Act.put]; done)) (HC.out V2 S2.bel) ?_
      rintro en V3 ⟨rfl, b⟩
      have S3 := S2.below b
      have G3 : Has V3 g 84 (cellsOf Z) := G2.below b G2.lt
      clear b
      refine ⟨_, rfl, S3, ?_⟩
      simp only [Act.put, List.setIfInBounds_toArray, List.set_cons_zero, List.set_cons_succ]
      refine held_take 7 (some 22) (v := .tuple #[.agg (cellsOf u1), .bool ub]) rfl rfl (by kernel_rfl) (by kernel_rfl) (by kernel_rfl) (fun _ _ _ h => h) (.inl ⟨by kernel_rfl, fun V hV => by go_simp⟩) S3 ?_
      refine held_take 8 (some 30) (v := .agg (cellsOf u1)) rfl rfl (by kernel_rfl) (by kernel_rfl) (by kernel_rfl) (fun _ _ _ h => h) (.inl ⟨by kernel_rfl, fun V hV => by go_simp⟩) S3 ?_
      refine held_take 9 (some 31) (v := .bool ub) rfl rfl (by kernel_rfl) (by kernel_rfl) (by kernel_rfl) (fun _ _ _ h => h) (.inl ⟨by kernel_rfl, fun V hV => by go_simp⟩) S3 ?_
      simp only [Act.put, List.setIfInBounds_toArray, List.set_cons_zero, List.set_cons_succ]
      refine held_one (i := 11) (by kernel_rfl) ?_
      refine wpOp_wp rfl (by kernel_rfl) ?_
      refine wp_store_row 84 _ _ rfl g (cellsOf u1) rfl rfl 84 (cellsOf Z) G3 (by rw [cellsOf_size, H1.out]; kernel_rfl) (by rw [cellsOf_size, cellsOf_size, H1.out, Z_len]) (cellsOf_one _) ?_
      have HW : Has (V3.setRow g (cellsOf u1)) g 84 (cellsOf u1) := G3.row _
      have TW : Turn (fun k => k = g) V3 (V3.setRow g (cellsOf u1)) := turn_row _ _ _
      have SW : Ic w n root (V3.setRow g (cellsOf u1)) := ⟨S3.bel.trans (TW.below S3.bel.size (fun j hj e => by have := L2; omega)), S3.hd.turn TW (by have := L2; omega)⟩
      clear TW
      generalize V3.setRow g (cellsOf u1) = W9 at *
      refine ⟨SW, ?_⟩
      simp only [Act.put]
      refine held_take 12 (some 10) (v := .bool ub) rfl rfl (by kernel_rfl) (by kernel_rfl) (by kernel_rfl) (fun _ _ _ h => h) (.inl ⟨by kernel_rfl, fun V hV => by go_simp⟩) SW ?_
      simp only [Act.put]
      refine wpAnyH_done (by kernel_rfl) ?_ _
      have HSW := Lib.hid SW
      have HHW := Lib.hid HW
      clear SW HW
      rcases KEY.out with ⟨rfl, rfl⟩ | ⟨rfl, rfl, rfl⟩ | ⟨rfl, rfl, rfl⟩
      · go_wp2_with fail
        refine (HI _).out.mono ?_
        rintro en w1 ⟨v, rfl, he, b⟩
        go_wp2_with fail
        go_ret
        exact ⟨v, rfl, he, HSW.out.bel.trans (b.mono HSW.out.bel.size)⟩
      · go_wp2_with (first
          | ((with_reducible refine at_opg 35 ?_); refine wpList_load_if (by kernel_rfl) 84 _ rfl (.pointer (some ⟨g, 0, none⟩)) rfl (Has.load_sum HHW.out H1.out) ?_)
          | ((with_reducible refine at_opg 37 ?_); refine wpList_load_if (by kernel_rfl) 84 _ rfl (.pointer (some ⟨w.heap.size, 1, none⟩)) rfl (Has.load_root HSW.out.hd HR.out) ?_)
          | fail)
        refine (HI _).out.mono ?_
        rintro en w1 ⟨v, rfl, he, b⟩
        go_wp2_with fail
        go_ret
        exact ⟨v, rfl, he, HSW.out.bel.trans (b.mono HSW.out.bel.size)⟩
      · go_wp2_with (first
          | ((with_reducible refine at_opg 35 ?_); refine wpList_load_if (by kernel_rfl) 84 _ rfl (.pointer (some ⟨g, 0, none⟩)) rfl (Has.load_sum HHW.out H1.out) ?_)
          | ((with_reducible refine at_opg 37 ?_); refine wpList_load_if (by kernel_rfl) 84 _ rfl (.pointer (some ⟨w.heap.size, 1, none⟩)) rfl (Has.load_root HSW.out.hd HR.out) ?_)
          | fail)
        go_ret
        exact ⟨_, rfl, IsErr.ok _ _ _, HSW.out.bel⟩
  · refine wpOp_value (some 9) (v := .pointer (some ⟨V0.heap.size, 0, none⟩)) (w' := V0.alloc (.cells (cellsOf Z) 84)) rfl rfl (by kernel_rfl) (by go_simp; rfl) ?_
    have S1 : Ic w n root (V0.alloc (.cells (cellsOf Z) 84)) := S0.below ((Below.refl _ _).alloc (Nat.le_refl _) _)
    have G1 : Has (V0.alloc (.cells (cellsOf Z) 84)) V0.heap.size 84 (cellsOf Z) := made_at _ _ rfl
    have L1 : w.heap.size < V0.heap.size := S0.hd.lt
    generalize V0.alloc (.cells (cellsOf Z) 84) = V1 at *
    generalize V0.heap.size = g at *
    refine ⟨S1, ?_⟩
    simp only [Act.put, List.setIfInBounds_toArray, List.set_cons_zero, List.set_cons_succ]
    refine held_one (i := 1) (by kernel_rfl) ?_
    refine wpOp_call (some 24) rfl rfl (by kernel_rfl) 70 Tryz.f70 Tryz.func70 (by kernel_rfl) (by kernel_rfl) _ _ rfl #[.string leaf] (by first | (simp [Act.eval]; done) | (simp [Act.eval, Act.put]; done)) (HL.out V1 S1.bel) ?_
    rintro en V2 ⟨rfl, b⟩
    have S2 := S1.below b
    have G2 : Has V2 g 84 (cellsOf Z) := G1.below b G1.lt
    clear b
    refine ⟨_, rfl, S2, ?_⟩
    simp only [Act.put, List.setIfInBounds_toArray, List.set_cons_zero, List.set_cons_succ]
    refine held_one (i := 6) (by kernel_rfl) ?_
    refine wpOp_call (some 29) rfl rfl (by kernel_rfl) 124 Tryz.f124 Tryz.func124 (by kernel_rfl) (by kernel_rfl) _ _ rfl #[.agg (cellsOf lf), .int .i64 i, .int .i64 n, .slice a l c] (by first | (simp [Act.eval]; done) | (simp [Act.eval, Act.put]; done)) (HC.out V2 S2.bel) ?_
    rintro en V3 ⟨rfl, b⟩
    have S3 := S2.below b
    have G3 : Has V3 g 84 (cellsOf Z) := G2.below b G2.lt
    clear b
    refine ⟨_, rfl, S3, ?_⟩
    simp only [Act.put, List.setIfInBounds_toArray, List.set_cons_zero, List.set_cons_succ]
    refine held_take 7 (some 22) (v := .tuple #[.agg (cellsOf u1), .bool ub]) rfl rfl (by kernel_rfl) (by kernel_rfl) (by kernel_rfl) (fun _ _ _ h => h) (.inl ⟨by kernel_rfl, fun V hV => by go_simp⟩) S3 ?_
    refine held_take 8 (some 30) (v := .agg (cellsOf u1)) rfl rfl (by kernel_rfl) (by kernel_rfl) (by kernel_rfl) (fun _ _ _ h => h) (.inl ⟨by kernel_rfl, fun V hV => by go_simp⟩) S3 ?_
    refine held_take 9 (some 31) (v := .bool ub) rfl rfl (by kernel_rfl) (by kernel_rfl) (by kernel_rfl) (fun _ _ _ h => h) (.inl ⟨by kernel_rfl, fun V hV => by go_simp⟩) S3 ?_
    simp only [Act.put, List.setIfInBounds_toArray, List.set_cons_zero, List.set_cons_succ]
    refine held_one (i := 11) (by kernel_rfl) ?_
    refine wpOp_wp rfl (by kernel_rfl) ?_
    refine wp_store_row 84 _ _ rfl g (cellsOf u1) rfl rfl 84 (cellsOf Z) G3 (by rw [cellsOf_size, H1.out]; kernel_rfl) (by rw [cellsOf_size, cellsOf_size, H1.out, Z_len]) (cellsOf_one _) ?_
    have HW : Has (V3.setRow g (cellsOf u1)) g 84 (cellsOf u1) := G3.row _
    have TW : Turn (fun k => k = g) V3 (V3.setRow g (cellsOf u1)) := turn_row _ _ _
    have SW : Ic w n root (V3.setRow g (cellsOf u1)) := ⟨S3.bel.trans (TW.below S3.bel.size (fun j hj e => by have := L1; omega)), S3.hd.turn TW (by have := L1; omega)⟩
    clear TW
    generalize V3.setRow g (cellsOf u1) = W9 at *
    refine ⟨SW, ?_⟩
    simp only [Act.put]
    refine held_take 12 (some 10) (v := .bool ub) rfl rfl (by kernel_rfl) (by kernel_rfl) (by kernel_rfl) (fun _ _ _ h => h) (.inl ⟨by kernel_rfl, fun V hV => by go_simp⟩) SW ?_
    simp only [Act.put]
    refine wpAnyH_done (by kernel_rfl) ?_ _
    have HSW := Lib.hid SW
    have HHW := Lib.hid HW
    clear SW HW
    rcases KEY.out with ⟨rfl, rfl⟩ | ⟨rfl, rfl, rfl⟩ | ⟨rfl, rfl, rfl⟩
    · go_wp2_with fail
      refine (HI _).out.mono ?_
      rintro en w1 ⟨v, rfl, he, b⟩
      go_wp2_with fail
      go_ret
      exact ⟨v, rfl, he, HSW.out.bel.trans (b.mono HSW.out.bel.size)⟩
    · go_wp2_with (first
        | ((with_reducible refine at_opg 35 ?_); refine wpList_load_if (by kernel_rfl) 84 _ rfl (.pointer (some ⟨g, 0, none⟩)) rfl (Has.load_sum HHW.out H1.out) ?_)
        | ((with_reducible refine at_opg 37 ?_); refine wpList_load_if (by kernel_rfl) 84 _ rfl (.pointer (some ⟨w.heap.size, 1, none⟩)) rfl (Has.load_root HSW.out.hd HR.out) ?_)
        | fail)
      refine (HI _).out.mono ?_
      rintro en w1 ⟨v, rfl, he, b⟩
      go_wp2_with fail
      go_ret
      exact ⟨v, rfl, he, HSW.out.bel.trans (b.mono HSW.out.bel.size)⟩
    · go_wp2_with (first
        | ((with_reducible refine at_opg 35 ?_); refine wpList_load_if (by kernel_rfl) 84 _ rfl (.pointer (some ⟨g, 0, none⟩)) rfl (Has.load_sum HHW.out H1.out) ?_)
        | ((with_reducible refine at_opg 37 ?_); refine wpList_load_if (by kernel_rfl) 84 _ rfl (.pointer (some ⟨w.heap.size, 1, none⟩)) rfl (Has.load_root HSW.out.hd HR.out) ?_)
        | fail)
      go_ret
      exact ⟨_, rfl, IsErr.ok _ _ _, HSW.out.bel⟩
end Go.Proofs.YtcdedkgkingbdaaGreatDoor.prf
end

section
/- proof: Inclusion, elder, Consistency whole. -/
namespace Go.Proofs.YtcdedkgkingbdaaGreatDoor.prf
open Go Go.RowKit Go.Proofs.YtcdedkgkingbdaaGreatDoor.dig

theorem incl_calls (leaf : ByteArray) (i n : Int) (root : List UInt8) (hr : root.length = 32) (hn : n ≤ 1000000) (r : List (List UInt8)) (a : Option Addr) (c : Nat) (w : World) (hR : Rk w) (hS : Sms w (.slice a r.length c) r) (hl : leaf.size < 1000000000000000000) :
    Calls Tryz.prog 81 #[.string leaf, .int .i64 i, .agg (headC n root), .slice a r.length c] w (ErrPost w ⟨#[108, 101, 97, 102]⟩ i (inclE leaf.data.toList i n root r)) := by
  by_cases h : i < 0 ∨ n ≤ i
  · unfold inclE
    rw [if_pos h]
    exact incl_out leaf i n root h _ w
  · unfold inclE
    rw [if_neg h]
    have hi : i = (i.toNat : Int) := by omega
    have hn' : n = (n.toNat : Int) := by omega
    obtain ⟨j, hj⟩ : ∃ j, j = i.toNat := ⟨_, rfl⟩
    obtain ⟨k, hk⟩ : ∃ k, k = n.toNat := ⟨_, rfl⟩
    rw [← hj] at hi ⊢
    rw [← hk] at hn' ⊢
    subst hi hn'
    have hjk : j < k := by omega
    exact incl_in hr (up_len Z_len (leafS_length _) r j k) j k hjk (by omega) a _ c w (fun V b => leaf_calls leaf V (hR.below b) hl)
      (fun V b => rootOf_calls (leafS_length _) r j k a c V (hR.below b) (hS.below b) hjk (by omega))

end Go.Proofs.YtcdedkgkingbdaaGreatDoor.prf
end

section
/- proof: Proves. -/
namespace Go.Proofs.YtcdedkgkingbdaaGreatDoor.prf
open Go Go.RowKit Go.Proofs.YtcdedkgkingbdaaGreatDoor.dig

def leafB : ByteArray := ⟨#[108, 101, 97, 102]⟩
set_option maxRecDepth 100000 in
set_option maxHeartbeats 2000000 in
theorem proves_leaf {old root : List UInt8} (hr : root.length = 32) (leaf : ByteArray) (I N m : Int) (v : Value) (w : World) (E : Int)
    (hc : ∀ V, Below w.heap.size w V → Calls Tryz.prog 81 #[.string leaf, .int .i64 I, .agg (headC N root), v] V (ErrPost V leafB I E)) :
    Calls Tryz.prog 36 #[.agg (prC 1 I N v), .string leaf, .agg (headC m old), .agg (headC N root)] w (ErrPost w leafB I E) := by
  have HR := Lib.hid hr
  have HC := Lib.hid hc
  clear hr hc
  have p0 : ∀ A B, (((w.alloc (.cells (prC 1 I N v) 93)).alloc A).alloc B).cell? ⟨w.heap.size, 0, none⟩ = some (.int .i64 1) := fun A B => (((made_at _ _ rfl).alloc A).alloc B).cell 0
  have p1 : ∀ A B, (((w.alloc (.cells (prC 1 I N v) 93)).alloc A).alloc B).cell? ⟨w.heap.size, 1, none⟩ = some (.int .i64 I) := fun A B => (((made_at _ _ rfl).alloc A).alloc B).cell 1
  have p2 : ∀ A B, (((w.alloc (.cells (prC 1 I N v) 93)).alloc A).alloc B).cell? ⟨w.heap.size, 2, none⟩ = some (.int .i64 N) := fun A B => (((made_at _ _ rfl).alloc A).alloc B).cell 2
  have p3 : ∀ A B, (((w.alloc (.cells (prC 1 I N v) 93)).alloc A).alloc B).cell? ⟨w.heap.size, 3, none⟩ = some v := fun A B => (((made_at _ _ rfl).alloc A).alloc B).cell 3
  have n0 : ∀ A B, (((w.alloc A).alloc B).alloc (.cells (headC N root) 86)).cell? ⟨w.heap.size + 1 + 1, 0, none⟩ = some (.int .i64 N) := fun A B => Has.num (made_at _ _ (by simp))
  go_enter Tryz.func36, Tryz.ntmps36
  go_wp2_with (first
    | ((with_reducible refine at_op 23 ?_); refine wpList_load_row (o := ⟨some 23, _, _, _, _, _⟩) rfl 86 _ rfl (w.heap.size + 1 + 1) rfl 86 (headC N root) (0, 0) _ (made_at _ _ (by simp)) Tryz.underlying86 rfl (by rw [headC_size, HR.out]; kernel_rfl) ?_)
    | fail)
  have bw : ∀ A B C, Below w.heap.size w (((w.alloc A).alloc B).alloc C) := fun A B C => (((Below.refl _ _).alloc (Nat.le_refl _) _).alloc (by simp) _).alloc (by simp; omega) _
  refine (HC.out _ (bw _ _ _)).mono ?_
  rintro en w1 ⟨e, rfl, he, b⟩
  have B1 : Hid (Below w.heap.size w w1) := Lib.hid ((bw _ _ _).trans (b.mono (bw _ _ _).size))
  have HE := Lib.hid he
  clear b he bw p0 p1 p2 p3 n0
  go_wp2_with fail
  go_ret
  exact ⟨e, rfl, HE.out, B1.out⟩

end Go.Proofs.YtcdedkgkingbdaaGreatDoor.prf
end

section
/- proof: heads compared. -/
namespace Go.Proofs.YtcdedkgkingbdaaGreatDoor.prf
open Go Go.RowKit Go.Proofs.YtcdedkgkingbdaaGreatDoor.dig

end Go.Proofs.YtcdedkgkingbdaaGreatDoor.prf
end

