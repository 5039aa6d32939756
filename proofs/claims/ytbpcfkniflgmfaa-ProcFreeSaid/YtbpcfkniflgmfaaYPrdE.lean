/- The document's wish. -/
import Derived.Test.YtbpcfkniflgmfaaYPrdD
namespace Go.Proofs.Ytbpcfkniflgmfaa.prc
open Go Go.RowKit

theorem strInfo : ∃ i z, Try.prog.info? 9 = some i ∧ i.zero = some z ∧ i.size = 1 ∧ z.cells.size = 1 ∧ i.bytes = 16 := by
  have h2 : (Try.prog.info? 9).map (fun i => (i.zero.map (fun z => z.cells.size), i.size, i.bytes)) = some (some 1, 1, 16) := by kernel_rfl
  obtain ⟨i, hi, e⟩ := Option.map_eq_some_iff.1 h2
  simp at e
  obtain ⟨⟨z, hz, hz2⟩, h3, h4⟩ := e
  exact ⟨i, z, hi, hz, h3, hz2, h4⟩

set_option maxRecDepth 100000 in
set_option maxHeartbeats 4000000 in
theorem Dw.wish_full {W : World} {s v p : Value} {P L : Nat} {A : Ab} {O : Nat → ByteArray} (h : Dw W s v p P L A O) (hF : Fit P A) {i : Nat} (hi : i < P) (hP : P ≤ 64) (x : Pc) (hx : x = A.X i) (o : ByteArray) (hfull : L ≤ x.at_) :
    Calls Try.prog 73 #[.agg #[s, v, p], .int .i64 i, .agg #[.int .i64 x.next, .int .i64 x.at_, .int .i64 i, .int .i64 x.seq, .string x.body, .string o]] W (DePost P L (put { A with W := up A.W i (some (mine A i)) } i { x with next := 0 }) (up O i o) ⟨true, true, 0⟩ W) := by
  obtain ⟨i0, z0, hi0, hz0, hz1, hz2, hz3⟩ := strInfo
  have HI0 := Lib.hid hi0
  have HZ0 := Lib.hid hz0
  obtain ⟨gs, os, cs, rfl⟩ := h.ts
  obtain ⟨gv, ov, cv, rfl⟩ := h.tw
  obtain ⟨gp, op, cp, rfl⟩ := h.tp
  have hrt : mine A i = ⟨i, x.seq, x.body⟩ := by unfold mine; rw [hx]
  have hfit := hF.mine i hi
  rw [hrt] at hfit
  obtain ⟨t, ht⟩ : ∃ t, t = tx ⟨i, x.seq, x.body⟩ := ⟨_, rfl⟩
  have HTX : ∀ V, Hid (Calls Try.prog 91 #[.agg #[.int .i64 i, .int .i64 x.seq, .string x.body]] V fun en w' => en = .returned (.string t) ∧ Below V.heap.size V w') := fun V => Lib.hid (by rw [ht]; exact rtext_calls ⟨i, x.seq, x.body⟩ V hfit)
  have H := Lib.hid h
  have HI := Lib.hid (And.intro hi hP)
  have hiP : (i : Int) < (P : Int) := by omega
  have h0i : (0 : Int) ≤ (i : Int) := by omega
  have hge : (L : Int) ≤ (x.at_ : Int) := by omega
  have HXX := Lib.hid (And.intro hx (And.intro ht hrt))
  clear h hi hP hrt hfit hF ht hfull hx hi0 hz0
  go_enter Try.func73, Try.ntmps73
  go_wp2_with (first
    | (at_builtin; refine wpList_append_all _ rfl (.tmp 9) (.tmp 11) 28 rfl 9 i0 z0 1 16 Try.underlying28 HI0.out HZ0.out hz1 hz3 hz2 (by decide) (.slice (some ⟨W.heap.size + 1 + 1 + 1 + 1, 0, none⟩) 0 0) 0 [] rfl (Seg.empty (made_at _ _ (by simp))) ⟨_, _, _, rfl⟩ (.slice (some ⟨gv, ov, none⟩) P cv) P (rowS A.W P) rfl (((((H.out.wish.alloc _).alloc _).alloc _).alloc _).alloc _) ⟨_, _, _, rfl⟩ (one_rowS A.W P) (by have := HI.out.2; unfold maxLen; omega) (by have := HI.out.2; omega) ?_)
    | fail)
  intro r w2 th sg gr nw
  obtain ⟨g2, o2, cc, rfl⟩ := th
  have F0 := Lib.hid (Fx.start (i := i) (n := x.next) (a := x.at_) (q := x.seq) (b := x.body) (o := o) H.out)
  have b2 := Below.grown ((Below.refl _ ((((W.alloc (.cells #[.slice (some ⟨gs, os, none⟩) L cs, .slice (some ⟨gv, ov, none⟩) P cv, .slice (some ⟨gp, op, none⟩) P cp] 31)).alloc (.cells #[.int .i64 x.next, .int .i64 x.at_, .int .i64 i, .int .i64 x.seq, .string x.body, .string o] 40)).alloc (.cells #[.slice none 0 0, .slice none 0 0, .slice none 0 0] 31)).alloc (.cells #[.bool false, .bool false, .int .i64 0] 89))).alloc (Nat.le_refl _) _) gr (by simp) (fun k e => by have := own_of e; simp; omega)
  have F2 := Lib.hid (F0.out.below b2)
  have N2 : Hid (W.heap.size + 1 + 1 + 1 < g2) := Lib.hid (by
    rcases nw g2 rfl with e | e
    · have := own_of e; omega
    · rw [e]; simp <;> omega)
  have S2 := Lib.hid sg
  have l2 := F2.out.k1.cell 2
  have l3 := F2.out.k1.cell 3
  have l4 := F2.out.k1.cell 4
  have zl := F2.out.zlt
  clear sg gr nw b2 F0
  go_wp2_with (first
    | (go_at_call 91
       refine (HTX _).out.mono ?_; rintro en w4 ⟨rfl, b4⟩
       have F4 := Lib.hid (F2.out.below b4)
       have S4 := Lib.hid (S2.out.below b4 (fun b hb => S2.out.lt hb))
       have c4 : w4.cell? ⟨g2, o2 + i, none⟩ = some (.string (txo (A.W i))) := by
         obtain ⟨g', o', c', e, _, _, _, hc⟩ := S4.out.cells (by have := HI.out.1; omega)
         injection e with e1 e2 e3
         injection e1 with e1
         injection e1 with e1 e4
         subst e1 e4
         exact hc i _ (rowS_at A.W HI.out.1)
       have f4 : w4.frozen? ⟨g2, o2 + i, none⟩ = false := S4.out.free (o2 + i)
       have y0 := F4.out.k0.cell 0
       have y1 := F4.out.k0.cell 1
       have y2 := F4.out.k0.cell 2
       have yf := F4.out.k0.free 1
       have l0 := F4.out.k1.cell 0
       have l1 := F4.out.k1.cell 1
       have l2 := F4.out.k1.cell 2
       have l3 := F4.out.k1.cell 3
       have l4 := F4.out.k1.cell 4
       have l5 := F4.out.k1.cell 5
       have lf := F4.out.k1.free 0
       have zl := F4.out.zlt
       have ng0 : W.heap.size < g2 := by have := N2.out; omega
       have ng1 : W.heap.size + 1 < g2 := by have := N2.out; omega
       have c00 : ((((w4.setCell ⟨g2, o2 + i, none⟩ (.string t)).setCell ⟨W.heap.size, 1, none⟩ (.slice (some ⟨g2, o2, none⟩) P cc)).setCell ⟨W.heap.size + 1, 0, none⟩ (.int .i64 2)).setCell ⟨W.heap.size + 1, 0, none⟩ (.int .i64 0)).cell? ⟨W.heap.size + 1, 0, none⟩ = some (.int .i64 0) := (((F4.out.wished S4.out N2.out HI.out.1 ⟨i, x.seq, x.body⟩ HXX.out.2.1).put 0 (.int .i64 2) (n' := 2) rfl).put 0 (.int .i64 0) (n' := 0) rfl).k1.cell 0
       clear b4)
    | (go_at_call 75
       have F5 := Lib.hid ((((F4.out.wished S4.out N2.out HI.out.1 ⟨i, x.seq, x.body⟩ HXX.out.2.1).put 0 (.int .i64 2) (n' := 2) rfl).put 0 (.int .i64 0) (n' := 0) rfl))
       refine (F5.out.d.set' HI.out.1 HI.out.2 ⟨0, x.at_, x.seq, x.body, x.offer⟩ o (fun e => by cases e) rfl rfl rfl).mono ?_
       rintro en w5 ⟨s5, v5, p5, rfl, d5, b5⟩
       obtain ⟨gs5, os5, cs5, rfl⟩ := d5.ts
       obtain ⟨gv5, ov5, cv5, rfl⟩ := d5.tw
       obtain ⟨gp5, op5, cp5, rfl⟩ := d5.tp
       have D5 := Lib.hid d5
       have F6 := Lib.hid (F5.out.below b5)
       have n0 := F6.out.k2.cell 0
       have n1 := F6.out.k2.cell 1
       have n2 := F6.out.k2.cell 2
       have nf0 := F6.out.k2.free 0
       have nf1 := F6.out.k2.free 1
       have nf2 := F6.out.k2.free 2
       have e0 := F6.out.k3.cell 0
       have e1 := F6.out.k3.cell 1
       have e2 := F6.out.k3.cell 2
       have ef0 := F6.out.k3.free 0
       have ef1 := F6.out.k3.free 1
       have ef2 := F6.out.k3.free 2
       have zl6 := F6.out.zlt
       clear d5 b5)
    | fail)
  obtain ⟨d, b, h1, h2⟩ := D5.out.ended2 F6.out.w F6.out.k2 F6.out.k3 (by omega) (by omega) (by omega) (.bool true) (.bool true) (.int .i64 0)
  rw [HXX.out.2.2]
  exact bodyPost_ret (res_two rfl _ _ (W.heap.size + 1 + 1) (W.heap.size + 1 + 1 + 1) _ _ _ _ _ _ rfl rfl h1 h2) rfl ⟨_, _, _, rfl, d, b⟩

set_option maxRecDepth 100000 in
set_option maxHeartbeats 4000000 in
theorem Dw.wish_more {W : World} {s v p : Value} {P L : Nat} {A : Ab} {O : Nat → ByteArray} (h : Dw W s v p P L A O) (hF : Fit P A) {i : Nat} (hi : i < P) (hP : P ≤ 64) (x : Pc) (hx : x = A.X i) (o : ByteArray) (hfull : ¬ L ≤ x.at_) :
    Calls Try.prog 73 #[.agg #[s, v, p], .int .i64 i, .agg #[.int .i64 x.next, .int .i64 x.at_, .int .i64 i, .int .i64 x.seq, .string x.body, .string o]] W (DePost P L (put { A with W := up A.W i (some (mine A i)) } i { x with next := 2 }) (up O i o) nope W) := by
  obtain ⟨i0, z0, hi0, hz0, hz1, hz2, hz3⟩ := strInfo
  have HI0 := Lib.hid hi0
  have HZ0 := Lib.hid hz0
  obtain ⟨gs, os, cs, rfl⟩ := h.ts
  obtain ⟨gv, ov, cv, rfl⟩ := h.tw
  obtain ⟨gp, op, cp, rfl⟩ := h.tp
  have hrt : mine A i = ⟨i, x.seq, x.body⟩ := by unfold mine; rw [hx]
  have hfit := hF.mine i hi
  rw [hrt] at hfit
  obtain ⟨t, ht⟩ : ∃ t, t = tx ⟨i, x.seq, x.body⟩ := ⟨_, rfl⟩
  have HTX : ∀ V, Hid (Calls Try.prog 91 #[.agg #[.int .i64 i, .int .i64 x.seq, .string x.body]] V fun en w' => en = .returned (.string t) ∧ Below V.heap.size V w') := fun V => Lib.hid (by rw [ht]; exact rtext_calls ⟨i, x.seq, x.body⟩ V hfit)
  have H := Lib.hid h
  have HI := Lib.hid (And.intro hi hP)
  have hiP : (i : Int) < (P : Int) := by omega
  have h0i : (0 : Int) ≤ (i : Int) := by omega
  have hge : ¬ (L : Int) ≤ (x.at_ : Int) := by omega
  have HXX := Lib.hid (And.intro hx (And.intro ht hrt))
  clear h hi hP hrt hfit hF ht hfull hx hi0 hz0
  go_enter Try.func73, Try.ntmps73
  go_wp2_with (first
    | (at_builtin; refine wpList_append_all _ rfl (.tmp 9) (.tmp 11) 28 rfl 9 i0 z0 1 16 Try.underlying28 HI0.out HZ0.out hz1 hz3 hz2 (by decide) (.slice (some ⟨W.heap.size + 1 + 1 + 1 + 1, 0, none⟩) 0 0) 0 [] rfl (Seg.empty (made_at _ _ (by simp))) ⟨_, _, _, rfl⟩ (.slice (some ⟨gv, ov, none⟩) P cv) P (rowS A.W P) rfl (((((H.out.wish.alloc _).alloc _).alloc _).alloc _).alloc _) ⟨_, _, _, rfl⟩ (one_rowS A.W P) (by have := HI.out.2; unfold maxLen; omega) (by have := HI.out.2; omega) ?_)
    | fail)
  intro r w2 th sg gr nw
  obtain ⟨g2, o2, cc, rfl⟩ := th
  have F0 := Lib.hid (Fx.start (i := i) (n := x.next) (a := x.at_) (q := x.seq) (b := x.body) (o := o) H.out)
  have b2 := Below.grown ((Below.refl _ ((((W.alloc (.cells #[.slice (some ⟨gs, os, none⟩) L cs, .slice (some ⟨gv, ov, none⟩) P cv, .slice (some ⟨gp, op, none⟩) P cp] 31)).alloc (.cells #[.int .i64 x.next, .int .i64 x.at_, .int .i64 i, .int .i64 x.seq, .string x.body, .string o] 40)).alloc (.cells #[.slice none 0 0, .slice none 0 0, .slice none 0 0] 31)).alloc (.cells #[.bool false, .bool false, .int .i64 0] 89))).alloc (Nat.le_refl _) _) gr (by simp) (fun k e => by have := own_of e; simp; omega)
  have F2 := Lib.hid (F0.out.below b2)
  have N2 : Hid (W.heap.size + 1 + 1 + 1 < g2) := Lib.hid (by
    rcases nw g2 rfl with e | e
    · have := own_of e; omega
    · rw [e]; simp <;> omega)
  have S2 := Lib.hid sg
  have l2 := F2.out.k1.cell 2
  have l3 := F2.out.k1.cell 3
  have l4 := F2.out.k1.cell 4
  have zl := F2.out.zlt
  clear sg gr nw b2 F0
  go_wp2_with (first
    | (go_at_call 91
       refine (HTX _).out.mono ?_; rintro en w4 ⟨rfl, b4⟩
       have F4 := Lib.hid (F2.out.below b4)
       have S4 := Lib.hid (S2.out.below b4 (fun b hb => S2.out.lt hb))
       have c4 : w4.cell? ⟨g2, o2 + i, none⟩ = some (.string (txo (A.W i))) := by
         obtain ⟨g', o', c', e, _, _, _, hc⟩ := S4.out.cells (by have := HI.out.1; omega)
         injection e with e1 e2 e3
         injection e1 with e1
         injection e1 with e1 e4
         subst e1 e4
         exact hc i _ (rowS_at A.W HI.out.1)
       have f4 : w4.frozen? ⟨g2, o2 + i, none⟩ = false := S4.out.free (o2 + i)
       have y0 := F4.out.k0.cell 0
       have y1 := F4.out.k0.cell 1
       have y2 := F4.out.k0.cell 2
       have yf := F4.out.k0.free 1
       have l0 := F4.out.k1.cell 0
       have l1 := F4.out.k1.cell 1
       have l2 := F4.out.k1.cell 2
       have l3 := F4.out.k1.cell 3
       have l4 := F4.out.k1.cell 4
       have l5 := F4.out.k1.cell 5
       have lf := F4.out.k1.free 0
       have zl := F4.out.zlt
       have ng0 : W.heap.size < g2 := by have := N2.out; omega
       have ng1 : W.heap.size + 1 < g2 := by have := N2.out; omega
       clear b4)
    | (go_at_call 75
       have F5 := Lib.hid (((F4.out.wished S4.out N2.out HI.out.1 ⟨i, x.seq, x.body⟩ HXX.out.2.1).put 0 (.int .i64 2) (n' := 2) rfl))
       refine (F5.out.d.set' HI.out.1 HI.out.2 ⟨2, x.at_, x.seq, x.body, x.offer⟩ o (fun e => by cases e) rfl rfl rfl).mono ?_
       rintro en w5 ⟨s5, v5, p5, rfl, d5, b5⟩
       obtain ⟨gs5, os5, cs5, rfl⟩ := d5.ts
       obtain ⟨gv5, ov5, cv5, rfl⟩ := d5.tw
       obtain ⟨gp5, op5, cp5, rfl⟩ := d5.tp
       have D5 := Lib.hid d5
       have F6 := Lib.hid (F5.out.below b5)
       have n0 := F6.out.k2.cell 0
       have n1 := F6.out.k2.cell 1
       have n2 := F6.out.k2.cell 2
       have nf0 := F6.out.k2.free 0
       have nf1 := F6.out.k2.free 1
       have nf2 := F6.out.k2.free 2
       have e0 := F6.out.k3.cell 0
       have e1 := F6.out.k3.cell 1
       have e2 := F6.out.k3.cell 2
       have ef0 := F6.out.k3.free 0
       have ef1 := F6.out.k3.free 1
       have ef2 := F6.out.k3.free 2
       have zl6 := F6.out.zlt
       clear d5 b5)
    | fail)
  obtain ⟨d, b, h1, h2⟩ := D5.out.ended2 F6.out.w F6.out.k2 F6.out.k3 (by omega) (by omega) (by omega) (.bool false) (.bool false) (.int .i64 0)
  rw [HXX.out.2.2]
  exact bodyPost_ret (res_two rfl _ _ (W.heap.size + 1 + 1) (W.heap.size + 1 + 1 + 1) _ _ _ _ _ _ rfl rfl h1 h2) rfl ⟨_, _, _, rfl, d, b⟩

theorem Dw.wishes {W : World} {s v p : Value} {P L : Nat} {A : Ab} {O : Nat → ByteArray} (h : Dw W s v p P L A O) (hF : Fit P A) {i : Nat} (hi : i < P) (hP : P ≤ 64) (x : Pc) (hx : x = A.X i) (o : ByteArray) :
    Calls Try.prog 73 #[.agg #[s, v, p], .int .i64 i, .agg #[.int .i64 x.next, .int .i64 x.at_, .int .i64 i, .int .i64 x.seq, .string x.body, .string o]] W (DePost P L (prc.wishes L A i).1 (up O i o) (prc.wishes L A i).2 W) := by
  unfold prc.wishes
  by_cases e2 : L ≤ (A.X i).at_
  · rw [if_pos e2]
    have := h.wish_full hF hi hP x hx o (by rw [hx]; exact e2)
    rw [hx] at this ⊢
    exact this
  · rw [if_neg e2]
    have := h.wish_more hF hi hP x hx o (by rw [hx]; exact e2)
    rw [hx] at this ⊢
    exact this
end Go.Proofs.Ytbpcfkniflgmfaa.prc
