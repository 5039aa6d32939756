/- The document's sees. -/
import Derived.Test.YtbpcfkniflgmfaaY013
import Derived.IntWalk
namespace Go.Proofs.Ytbpcfkniflgmfaa.prc
open Go Go.RowKit

def enV (e : En) : Value := .agg #[.bool e.done, .bool e.full, .int .i64 e.slot]

theorem res_two {fn : Func} {t u : Tmp} (h : fn.results = #[.cell t 31, .cell u 89]) (tmps : Array Value) (w : World) (g k : Nat) (a b c : Value) (d f : Bool) (n : Int) (hx : tmps.getD t undef = .pointer (some ⟨g, 0, none⟩)) (hy : tmps.getD u undef = .pointer (some ⟨k, 0, none⟩))
    (hE : Has w g 31 #[a, b, c]) (hF : Has w k 89 #[.bool d, .bool f, .int .i64 n]) :
    (results fn tmps).run Try.prog w = .ok (.tuple #[.agg #[a, b, c], .agg #[.bool d, .bool f, .int .i64 n]]) w := by
  have c0 : w.cell? ⟨g, 0, none⟩ = some a := hE.cell 0
  have c1 : w.cell? ⟨g, 1, none⟩ = some b := hE.cell 1
  have c2 : w.cell? ⟨g, 2, none⟩ = some c := hE.cell 2
  have d0 : w.cell? ⟨k, 0, none⟩ = some (.bool d) := hF.cell 0
  have d1 : w.cell? ⟨k, 1, none⟩ = some (.bool f) := hF.cell 1
  have d2 : w.cell? ⟨k, 2, none⟩ = some (.int .i64 n) := hF.cell 2
  rw [Array.getD_eq_getD_getElem?] at hx hy
  simp [results, h, hx, hy, go_sem, c0, c1, c2, d0, d1, d2]

def DePost (P L : Nat) (A : Ab) (O : Nat → ByteArray) (e : En) (W : World) (en : Ending) (W' : World) : Prop :=
  ∃ s v p, en = .returned (.tuple #[.agg #[s, v, p], enV e]) ∧ Dw W' s v p P L A O ∧ Below W.heap.size W W'

/-- The document's world and end, laid into the blocks of two results. -/
theorem Dw.ended2 {W w5 : World} {s v p : Value} {P L : Nat} {A : Ab} {O : Nat → ByteArray} {z y : Nat} {a b c a2 b2 c2 : Value} (d : Dw w5 s v p P L A O) (hb : Below W.heap.size W w5) (hn : Has w5 z 31 #[a, b, c]) (hy : Has w5 y 89 #[a2, b2, c2]) (hz : W.heap.size ≤ z) (hz2 : W.heap.size ≤ y) (hzy : z ≠ y) (e0 e1 e2 : Value) :
    Dw ((((((w5.setCell ⟨z, 0, none⟩ s).setCell ⟨z, 1, none⟩ v).setCell ⟨z, 2, none⟩ p).setCell ⟨y, 0, none⟩ e0).setCell ⟨y, 1, none⟩ e1).setCell ⟨y, 2, none⟩ e2) s v p P L A O ∧
    Below W.heap.size W ((((((w5.setCell ⟨z, 0, none⟩ s).setCell ⟨z, 1, none⟩ v).setCell ⟨z, 2, none⟩ p).setCell ⟨y, 0, none⟩ e0).setCell ⟨y, 1, none⟩ e1).setCell ⟨y, 2, none⟩ e2) ∧
    Has ((((((w5.setCell ⟨z, 0, none⟩ s).setCell ⟨z, 1, none⟩ v).setCell ⟨z, 2, none⟩ p).setCell ⟨y, 0, none⟩ e0).setCell ⟨y, 1, none⟩ e1).setCell ⟨y, 2, none⟩ e2) z 31 #[s, v, p] ∧
    Has ((((((w5.setCell ⟨z, 0, none⟩ s).setCell ⟨z, 1, none⟩ v).setCell ⟨z, 2, none⟩ p).setCell ⟨y, 0, none⟩ e0).setCell ⟨y, 1, none⟩ e1).setCell ⟨y, 2, none⟩ e2) y 89 #[e0, e1, e2] := by
  obtain ⟨d1, b1⟩ := d.ended hb hn hz
  have h1 := has_three s v p hn
  have h2 : Has (((w5.setCell ⟨z, 0, none⟩ s).setCell ⟨z, 1, none⟩ v).setCell ⟨z, 2, none⟩ p) y 89 #[a2, b2, c2] := ((hy.far (by show y ≠ z; exact fun e => hzy e.symm) _).far (by show y ≠ z; exact fun e => hzy e.symm) _).far (by show y ≠ z; exact fun e => hzy e.symm) _
  have h3 := has_three e0 e1 e2 h2
  have t : Turn (fun j => j = y) (((w5.setCell ⟨z, 0, none⟩ s).setCell ⟨z, 1, none⟩ v).setCell ⟨z, 2, none⟩ p) ((((((w5.setCell ⟨z, 0, none⟩ s).setCell ⟨z, 1, none⟩ v).setCell ⟨z, 2, none⟩ p).setCell ⟨y, 0, none⟩ e0).setCell ⟨y, 1, none⟩ e1).setCell ⟨y, 2, none⟩ e2) := (((Turn.refl (fun j => j = y) _).put (fun _ => rfl) 0 _).put (fun _ => rfl) 1 _).put (fun _ => rfl) 2 _
  refine ⟨d1.turn t (fun b hb e => d1.slots.ne h2 (by decide) (by rw [hb, e])) (fun b hb e => d1.wish.ne h2 (by decide) (by rw [hb, e])) (fun b hb e => d1.procs.ne h2 (by decide) (by rw [hb, e])), ((b1.setCell (by exact hz2) _).setCell (by exact hz2) _).setCell (by exact hz2) _, ((h1.far (by show z ≠ y; exact hzy) _).far (by show z ≠ y; exact hzy) _).far (by show z ≠ y; exact hzy) _, h3⟩

theorem below4 (W : World) (a b c d : Obj) : Below W.heap.size W ((((W.alloc a).alloc b).alloc c).alloc d) := (below3 W a b c).alloc (by simp; omega) _

/-- Within a call that has a world, a process, two results in blocks of its own. -/
structure Fx (W : World) (s v p : Value) (P L : Nat) (A : Ab) (O : Nat → ByteArray) (i : Nat) (n a q : Int) (b o : ByteArray) (V : World) : Prop where
  d : Dw V s v p P L A O
  w : Below W.heap.size W V
  k0 : Has V W.heap.size 31 #[s, v, p]
  k1 : Has V (W.heap.size + 1) 40 #[.int .i64 n, .int .i64 a, .int .i64 i, .int .i64 q, .string b, .string o]
  k2 : Has V (W.heap.size + 1 + 1) 31 #[.slice none 0 0, .slice none 0 0, .slice none 0 0]
  k3 : Has V (W.heap.size + 1 + 1 + 1) 89 #[.bool false, .bool false, .int .i64 0]
  lt : ∀ b, p.ownBlock = some b → b < W.heap.size
  lts : ∀ b, s.ownBlock = some b → b < W.heap.size

section
variable {W V V' : World} {s v p : Value} {P L : Nat} {A : Ab} {O : Nat → ByteArray} {i : Nat} {n a q : Int} {b o : ByteArray}
theorem Fx.start (h : Dw W s v p P L A O) : Fx W s v p P L A O i n a q b o ((((W.alloc (.cells #[s, v, p] 31)).alloc (.cells #[.int .i64 n, .int .i64 a, .int .i64 i, .int .i64 q, .string b, .string o] 40)).alloc (.cells #[.slice none 0 0, .slice none 0 0, .slice none 0 0] 31)).alloc (.cells #[.bool false, .bool false, .int .i64 0] 89)) :=
  ⟨h.below (below4 W _ _ _ _), below4 W _ _ _ _, (((Has.made W 31 _).alloc _).alloc _).alloc _, ((made_at 40 _ (by simp)).alloc _).alloc _, (made_at 31 _ (by simp)).alloc _, made_at 89 _ (by simp), fun b hb => h.procs.lt hb, fun b hb => h.slots.lt hb⟩
theorem Fx.below (h : Fx W s v p P L A O i n a q b o V) (hb : Below V.heap.size V V') : Fx W s v p P L A O i n a q b o V' :=
  ⟨h.d.below hb, h.w.trans (hb.mono h.w.size), h.k0.below hb h.k0.lt, h.k1.below hb h.k1.lt, h.k2.below hb h.k2.lt, h.k3.below hb h.k3.lt, h.lt, h.lts⟩
theorem Fx.drew (h : Fx W s v p P L A O i n a q b o V) : Fx W s v p P L A O i n a q b o V.drew := ⟨h.d.drew, h.w.drew, h.k0, h.k1, h.k2, h.k3, h.lt, h.lts⟩
theorem Fx.put (h : Fx W s v p P L A O i n a q b o V) (k : Nat) (u : Value) {n' a' q' : Int} {b' o' : ByteArray} (e : (#[.int .i64 n, .int .i64 a, .int .i64 i, .int .i64 q, .string b, .string o] : Array Value).setIfInBounds k u = #[.int .i64 n', .int .i64 a', .int .i64 i, .int .i64 q', .string b', .string o']) :
    Fx W s v p P L A O i n' a' q' b' o' (V.setCell ⟨W.heap.size + 1, k, none⟩ u) := by
  have t : Turn (fun j => j = W.heap.size + 1) V (V.setCell ⟨W.heap.size + 1, k, none⟩ u) := (Turn.refl (fun j => j = W.heap.size + 1) V).put (fun _ => rfl) k _
  refine ⟨h.d.turn t (fun b hb e => h.d.slots.ne h.k1 (by decide) (by rw [hb, e])) (fun b hb e => h.d.wish.ne h.k1 (by decide) (by rw [hb, e])) (fun b hb e => by have := h.lt b hb; omega), h.w.setCell (by show W.heap.size ≤ W.heap.size + 1; omega) _, h.k0.turn t (by omega), ?_, h.k2.turn t (by omega), h.k3.turn t (by omega), h.lt, h.lts⟩
  have := h.k1.put k u
  rw [e] at this
  exact this
theorem Fx.wished (h : Fx W s v p P L A O i n a q b o V) {g2 o2 c2 : Nat} (hS : Seg V 9 1 (.slice (some ⟨g2, o2, none⟩) P c2) P (rowS A.W P)) (hg : W.heap.size + 1 + 1 + 1 < g2) {j : Nat} (hj : j < P) (m : Rc) {tt : ByteArray} (ht : tt = tx m) :
    Fx W s (.slice (some ⟨g2, o2, none⟩) P c2) p P L { A with W := up A.W j (some m) } O i n a q b o ((V.setCell ⟨g2, o2 + j, none⟩ (.string tt)).setCell ⟨W.heap.size, 1, none⟩ (.slice (some ⟨g2, o2, none⟩) P c2)) := by
  have t1 : Turn (fun j => j = g2) V (V.setCell ⟨g2, o2 + j, none⟩ (.string tt)) := (Turn.refl (fun j => j = g2) V).put (fun _ => rfl) _ _
  have t2 : Turn (fun j => j = W.heap.size) (V.setCell ⟨g2, o2 + j, none⟩ (.string tt)) ((V.setCell ⟨g2, o2 + j, none⟩ (.string tt)).setCell ⟨W.heap.size, 1, none⟩ (.slice (some ⟨g2, o2, none⟩) P c2)) := (Turn.refl (fun j => j = W.heap.size) _).put (fun _ => rfl) 1 _
  have hS1 := hS.put j (.string tt)
  rw [ht, rowS_set A.W hj m, ← ht] at hS1
  have k0 := (h.k0.turn t1 (by omega)).put 1 (.slice (some ⟨g2, o2, none⟩) P c2)
  refine ⟨⟨(h.d.slots.turn t1 (fun b hb e => by have := h.lts b hb; omega)).turn t2 (fun b hb e => by have := h.lts b hb; omega), h.d.ts, hS1.turn t2 (fun b hb e => by have := own_of hb; omega), ⟨_, _, _, rfl⟩, (h.d.procs.turn t1 (fun b hb e => by have := h.lt b hb; omega)).turn t2 (fun b hb e => by have := h.lt b hb; omega), h.d.tp, h.d.off⟩, (h.w.setCell (by show W.heap.size ≤ g2; omega) _).setCell (Nat.le_refl _) _, by simpa using k0, (h.k1.turn t1 (by omega)).turn t2 (by omega), (h.k2.turn t1 (by omega)).turn t2 (by omega), (h.k3.turn t1 (by omega)).turn t2 (by omega), h.lt, h.lts⟩
theorem Fx.zlt (h : Fx W s v p P L A O i n a q b o V) : W.heap.size + 1 + 1 + 1 < V.heap.size := h.k3.lt
end

set_option maxRecDepth 100000 in
set_option maxHeartbeats 4000000 in
theorem Dw.sees_done {W : World} {s v p : Value} {P L : Nat} {A : Ab} {O : Nat → ByteArray} (h : Dw W s v p P L A O) (hF : Fit P A) {i : Nat} (hi : i < P) (hP : P ≤ 64) (hL : L ≤ 256) (ha : (A.X i).at_ < L) (x : Pc) (hx : x = A.X i) (o : ByteArray) (r : Rc) (hS : A.S x.at_ = some r) (hr : r = mine A i) :
    Calls Try.prog 74 #[.agg #[s, v, p], .int .i64 i, .agg #[.int .i64 x.next, .int .i64 x.at_, .int .i64 i, .int .i64 x.seq, .string x.body, .string o]] W (DePost P L (put A i { x with next := 0, at_ := x.at_ + 1 }) (up O i o) ⟨true, false, x.at_⟩ W) := by
  rw [← hx] at ha
  obtain ⟨gs, os, cs, hs, hgs, hc⟩ := h.slot ha
  subst hs
  rw [hS] at hc
  have hc' : W.cell? ⟨gs, os + x.at_, none⟩ = some (.string (tx r)) := hc
  obtain ⟨gv, ov, cv, rfl⟩ := h.tw
  obtain ⟨gp, op, cp, rfl⟩ := h.tp
  have hrt : mine A i = ⟨i, x.seq, x.body⟩ := by unfold mine; rw [hx]
  have hfit := hF.mine i hi
  rw [hrt] at hfit
  rw [hrt] at hr
  subst hr
  obtain ⟨t, ht⟩ : ∃ t, t = tx ⟨i, x.seq, x.body⟩ := ⟨_, rfl⟩
  rw [← ht] at hc'
  have HTX : ∀ V, Hid (Calls Try.prog 91 #[.agg #[.int .i64 i, .int .i64 x.seq, .string x.body]] V fun en w' => en = .returned (.string t) ∧ Below V.heap.size V w') := fun V => Lib.hid (by rw [ht]; exact rtext_calls ⟨i, x.seq, x.body⟩ V hfit)
  have het : (t.toList == t.toList) = true := beq_self_eq_true _
  have H := Lib.hid h
  have HI := Lib.hid (And.intro hi hP)
  have ha1 : (x.at_ : Int) < (L : Int) := by omega
  have ha0 : (0 : Int) ≤ (x.at_ : Int) := by omega
  have haL : (x.at_ : Int) + 1 ≤ 256 := by omega
  have HXX := Lib.hid (And.intro hx ht)
  have hgs1 : gs < W.heap.size + 1 := by omega
  have hgs2 : gs < W.heap.size + 1 + 1 := by omega
  have hgs3 : gs < W.heap.size + 1 + 1 + 1 := by omega
  have HWR : Hid (IntKind.i64.wrap (x.at_ : Int) = x.at_) := Lib.hid (IntWalk.i64_in _ (by omega))
  clear h hi hP hc hrt hfit hF hS hL ha ht hx
  go_enter Try.func74, Try.ntmps74
  go_wp2_with (first
    | (go_at_call 91
       have F0 := Lib.hid (Fx.start (i := i) (n := 2) (a := (x.at_ : Int) + 1) (q := x.seq) (b := x.body) (o := o) H.out)
       refine (HTX _).out.mono ?_; rintro en w4 ⟨rfl, b4⟩
       have F4 := Lib.hid (F0.out.below b4)
       have y0 := F4.out.k0.cell 0
       have y1 := F4.out.k0.cell 1
       have y2 := F4.out.k0.cell 2
       have l0 := F4.out.k1.cell 0
       have l1 := F4.out.k1.cell 1
       have l2 := F4.out.k1.cell 2
       have l3 := F4.out.k1.cell 3
       have l4 := F4.out.k1.cell 4
       have l5 := F4.out.k1.cell 5
       have lf := F4.out.k1.free 0
       have zl := F4.out.zlt
       clear b4)
    | fail)
  clear F0
  go_name_world V hV
  have F5 : Hid (Fx W (.slice (some ⟨gs, os, none⟩) L cs) (.slice (some ⟨gv, ov, none⟩) P cv) (.slice (some ⟨gp, op, none⟩) P cp) P L A O i 0 ((x.at_ : Int) + 1) x.seq x.body o V) := by rw [← hV]; exact Lib.hid (F4.out.put 0 _ rfl)
  clear hV y0 y1 y2 l0 l1 l2 l3 l4 l5 lf zl F4
  have y0 := F5.out.k0.cell 0
  have y1 := F5.out.k0.cell 1
  have y2 := F5.out.k0.cell 2
  have l0 := F5.out.k1.cell 0
  have l1 := F5.out.k1.cell 1
  have l2 := F5.out.k1.cell 2
  have l3 := F5.out.k1.cell 3
  have l4 := F5.out.k1.cell 4
  have l5 := F5.out.k1.cell 5
  go_region_law (refine step_call rfl 75 Try.f75 Try.func75 (by kernel_rfl) (by kernel_rfl) _ _ rfl #[.agg #[.slice (some ⟨gs, os, none⟩) L cs, .slice (some ⟨gv, ov, none⟩) P cv, .slice (some ⟨gp, op, none⟩) P cp], .int .i64 i, .agg #[.int .i64 0, .int .i64 ((x.at_ : Int) + 1), .int .i64 i, .int .i64 x.seq, .string x.body, .string o]] (by first | (simp [Act.eval]; done) | (simp [Act.eval, Act.put]; done)) (F5.out.drew.d.set' HI.out.1 HI.out.2 ⟨0, x.at_ + 1, x.seq, x.body, x.offer⟩ o (fun e => by cases e) rfl (by show ((x.at_ + 1 : Nat) : Int) = (x.at_ : Int) + 1; omega) rfl) ?_
                 rintro en w5 ⟨s5, v5, p5, rfl, d5, b5⟩
                 obtain ⟨gs5, os5, cs5, rfl⟩ := d5.ts
                 obtain ⟨gv5, ov5, cv5, rfl⟩ := d5.tw
                 obtain ⟨gp5, op5, cp5, rfl⟩ := d5.tp
                 have D5 := Lib.hid d5
                 have F6 := Lib.hid (F5.out.drew.below b5)
                 have m1 := F6.out.k1.cell 1
                 have n0 := F6.out.k2.cell 0
                 have n1 := F6.out.k2.cell 1
                 have n2 := F6.out.k2.cell 2
                 have nf0 := F6.out.k2.free 0
                 have nf1 := F6.out.k2.free 1
                 have nf2 := F6.out.k2.free 2
                 have e0 := F6.out.k3.cell 0
                 have e1 := F6.out.k3.cell 1
                 have e2 := F6.out.k3.cell 2
                 have ef0 := F6.out.k3.free 0
                 have ef1 := F6.out.k3.free 1
                 have ef2 := F6.out.k3.free 2
                 have zl := F6.out.zlt
                 clear d5 b5
                 refine ⟨_, rfl, ?_⟩)
  all_goals
    go_wp2_with fail
    obtain ⟨d, b, h1, h2⟩ := D5.out.ended2 F6.out.w F6.out.k2 F6.out.k3 (by omega) (by omega) (by omega) (.bool true) (.bool false) (.int .i64 (IntKind.i64.wrap (x.at_ : Int)))
    refine bodyPost_ret (res_two rfl _ _ (W.heap.size + 1 + 1) (W.heap.size + 1 + 1 + 1) _ _ _ _ _ _ rfl rfl h1 h2) rfl ⟨_, _, _, ?_, d, b⟩
    rw [HWR.out]
    rfl

set_option maxRecDepth 100000 in
set_option maxHeartbeats 4000000 in
theorem Dw.sees_full {W : World} {s v p : Value} {P L : Nat} {A : Ab} {O : Nat → ByteArray} (h : Dw W s v p P L A O) (hF : Fit P A) {i : Nat} (hi : i < P) (hP : P ≤ 64) (hL : L ≤ 256) (ha : (A.X i).at_ < L) (x : Pc) (hx : x = A.X i) (o : ByteArray) (r : Rc) (hS : A.S x.at_ = some r) (hr : r ≠ mine A i) (hfull : L ≤ x.at_ + 1) :
    Calls Try.prog 74 #[.agg #[s, v, p], .int .i64 i, .agg #[.int .i64 x.next, .int .i64 x.at_, .int .i64 i, .int .i64 x.seq, .string x.body, .string o]] W (DePost P L (put A i { x with next := 0, at_ := x.at_ + 1 }) (up O i o) ⟨true, true, 0⟩ W) := by
  rw [← hx] at ha
  obtain ⟨gs, os, cs, hs, hgs, hc⟩ := h.slot ha
  subst hs
  rw [hS] at hc
  have hc' : W.cell? ⟨gs, os + x.at_, none⟩ = some (.string (tx r)) := hc
  obtain ⟨gv, ov, cv, rfl⟩ := h.tw
  obtain ⟨gp, op, cp, rfl⟩ := h.tp
  have hrt : mine A i = ⟨i, x.seq, x.body⟩ := by unfold mine; rw [hx]
  have hfit := hF.mine i hi
  rw [hrt] at hfit
  rw [hrt] at hr
  obtain ⟨t, ht⟩ : ∃ t, t = tx ⟨i, x.seq, x.body⟩ := ⟨_, rfl⟩
  obtain ⟨t2, ht2⟩ : ∃ t2, t2 = tx r := ⟨_, rfl⟩
  rw [← ht2] at hc'
  have HTX : ∀ V, Hid (Calls Try.prog 91 #[.agg #[.int .i64 i, .int .i64 x.seq, .string x.body]] V fun en w' => en = .returned (.string t) ∧ Below V.heap.size V w') := fun V => Lib.hid (by rw [ht]; exact rtext_calls ⟨i, x.seq, x.body⟩ V hfit)
  have htt : t2 ≠ t := by rw [ht, ht2]; exact fun e => hr (tx_inj (hF.slot _ r hS) hfit e)
  have het : (t2.toList == t.toList) = false := bytes_ne htt
  have hge : (L : Int) ≤ (x.at_ : Int) + 1 := by omega
  have H := Lib.hid h
  have HI := Lib.hid (And.intro hi hP)
  have ha1 : (x.at_ : Int) < (L : Int) := by omega
  have ha0 : (0 : Int) ≤ (x.at_ : Int) := by omega
  have haL : (x.at_ : Int) + 1 ≤ 256 := by omega
  have HXX := Lib.hid (And.intro hx ht)
  have hgs1 : gs < W.heap.size + 1 := by omega
  have hgs2 : gs < W.heap.size + 1 + 1 := by omega
  have hgs3 : gs < W.heap.size + 1 + 1 + 1 := by omega
  have HWR : Hid (IntKind.i64.wrap (x.at_ : Int) = x.at_) := Lib.hid (IntWalk.i64_in _ (by omega))
  clear h hi hP hc hrt hfit hF hS hL ha ht ht2 htt hr hfull hx
  go_enter Try.func74, Try.ntmps74
  go_wp2_with (first
    | (go_at_call 91
       have F0 := Lib.hid (Fx.start (i := i) (n := 2) (a := (x.at_ : Int) + 1) (q := x.seq) (b := x.body) (o := o) H.out)
       refine (HTX _).out.mono ?_; rintro en w4 ⟨rfl, b4⟩
       have F4 := Lib.hid (F0.out.below b4)
       have y0 := F4.out.k0.cell 0
       have y1 := F4.out.k0.cell 1
       have y2 := F4.out.k0.cell 2
       have l0 := F4.out.k1.cell 0
       have l1 := F4.out.k1.cell 1
       have l2 := F4.out.k1.cell 2
       have l3 := F4.out.k1.cell 3
       have l4 := F4.out.k1.cell 4
       have l5 := F4.out.k1.cell 5
       have lf := F4.out.k1.free 0
       have zl := F4.out.zlt
       clear b4)
    | (go_at_call 75
       have F5 := Lib.hid (F4.out.put 0 (.int .i64 0) (n' := 0) rfl)
       refine (F5.out.d.set' HI.out.1 HI.out.2 ⟨0, x.at_ + 1, x.seq, x.body, x.offer⟩ o (fun e => by cases e) rfl (by show ((x.at_ + 1 : Nat) : Int) = (x.at_ : Int) + 1; omega) rfl).mono ?_
       rintro en w5 ⟨s5, v5, p5, rfl, d5, b5⟩
       obtain ⟨gs5, os5, cs5, rfl⟩ := d5.ts
       obtain ⟨gv5, ov5, cv5, rfl⟩ := d5.tw
       obtain ⟨gp5, op5, cp5, rfl⟩ := d5.tp
       have D5 := Lib.hid d5
       have F6 := Lib.hid (F5.out.below b5)
       have n0 := F6.out.k2.cell 0
       have n1 := F6.out.k2.cell 1
       have n2 := F6.out.k2.cell 2
       have nf0 := F6.out.k2.free 0
       have nf1 := F6.out.k2.free 1
       have nf2 := F6.out.k2.free 2
       have e0 := F6.out.k3.cell 0
       have e1 := F6.out.k3.cell 1
       have e2 := F6.out.k3.cell 2
       have ef0 := F6.out.k3.free 0
       have ef1 := F6.out.k3.free 1
       have ef2 := F6.out.k3.free 2
       have zl6 := F6.out.zlt
       clear d5 b5)
    | fail)
  obtain ⟨d, b, h1, h2⟩ := D5.out.ended2 F6.out.w F6.out.k2 F6.out.k3 (by omega) (by omega) (by omega) (.bool true) (.bool true) (.int .i64 0)
  exact bodyPost_ret (res_two rfl _ _ (W.heap.size + 1 + 1) (W.heap.size + 1 + 1 + 1) _ _ _ _ _ _ rfl rfl h1 h2) rfl ⟨_, _, _, rfl, d, b⟩

set_option maxRecDepth 100000 in
set_option maxHeartbeats 4000000 in
theorem Dw.sees_more {W : World} {s v p : Value} {P L : Nat} {A : Ab} {O : Nat → ByteArray} (h : Dw W s v p P L A O) (hF : Fit P A) {i : Nat} (hi : i < P) (hP : P ≤ 64) (hL : L ≤ 256) (ha : (A.X i).at_ < L) (x : Pc) (hx : x = A.X i) (o : ByteArray) (r : Rc) (hS : A.S x.at_ = some r) (hr : r ≠ mine A i) (hfull : ¬ L ≤ x.at_ + 1) :
    Calls Try.prog 74 #[.agg #[s, v, p], .int .i64 i, .agg #[.int .i64 x.next, .int .i64 x.at_, .int .i64 i, .int .i64 x.seq, .string x.body, .string o]] W (DePost P L (put A i { x with next := 2, at_ := x.at_ + 1 }) (up O i o) nope W) := by
  rw [← hx] at ha
  obtain ⟨gs, os, cs, hs, hgs, hc⟩ := h.slot ha
  subst hs
  rw [hS] at hc
  have hc' : W.cell? ⟨gs, os + x.at_, none⟩ = some (.string (tx r)) := hc
  obtain ⟨gv, ov, cv, rfl⟩ := h.tw
  obtain ⟨gp, op, cp, rfl⟩ := h.tp
  have hrt : mine A i = ⟨i, x.seq, x.body⟩ := by unfold mine; rw [hx]
  have hfit := hF.mine i hi
  rw [hrt] at hfit
  rw [hrt] at hr
  obtain ⟨t, ht⟩ : ∃ t, t = tx ⟨i, x.seq, x.body⟩ := ⟨_, rfl⟩
  obtain ⟨t2, ht2⟩ : ∃ t2, t2 = tx r := ⟨_, rfl⟩
  rw [← ht2] at hc'
  have HTX : ∀ V, Hid (Calls Try.prog 91 #[.agg #[.int .i64 i, .int .i64 x.seq, .string x.body]] V fun en w' => en = .returned (.string t) ∧ Below V.heap.size V w') := fun V => Lib.hid (by rw [ht]; exact rtext_calls ⟨i, x.seq, x.body⟩ V hfit)
  have htt : t2 ≠ t := by rw [ht, ht2]; exact fun e => hr (tx_inj (hF.slot _ r hS) hfit e)
  have het : (t2.toList == t.toList) = false := bytes_ne htt
  have hge : ¬ (L : Int) ≤ (x.at_ : Int) + 1 := by omega
  have H := Lib.hid h
  have HI := Lib.hid (And.intro hi hP)
  have ha1 : (x.at_ : Int) < (L : Int) := by omega
  have ha0 : (0 : Int) ≤ (x.at_ : Int) := by omega
  have haL : (x.at_ : Int) + 1 ≤ 256 := by omega
  have HXX := Lib.hid (And.intro hx ht)
  have hgs1 : gs < W.heap.size + 1 := by omega
  have hgs2 : gs < W.heap.size + 1 + 1 := by omega
  have hgs3 : gs < W.heap.size + 1 + 1 + 1 := by omega
  have HWR : Hid (IntKind.i64.wrap (x.at_ : Int) = x.at_) := Lib.hid (IntWalk.i64_in _ (by omega))
  clear h hi hP hc hrt hfit hF hS hL ha ht ht2 htt hr hfull hx
  go_enter Try.func74, Try.ntmps74
  go_wp2_with (first
    | (go_at_call 91
       have F0 := Lib.hid (Fx.start (i := i) (n := 2) (a := (x.at_ : Int) + 1) (q := x.seq) (b := x.body) (o := o) H.out)
       refine (HTX _).out.mono ?_; rintro en w4 ⟨rfl, b4⟩
       have F4 := Lib.hid (F0.out.below b4)
       have y0 := F4.out.k0.cell 0
       have y1 := F4.out.k0.cell 1
       have y2 := F4.out.k0.cell 2
       have l0 := F4.out.k1.cell 0
       have l1 := F4.out.k1.cell 1
       have l2 := F4.out.k1.cell 2
       have l3 := F4.out.k1.cell 3
       have l4 := F4.out.k1.cell 4
       have l5 := F4.out.k1.cell 5
       have lf := F4.out.k1.free 0
       have zl := F4.out.zlt
       clear b4)
    | (go_at_call 75
       have F5 := Lib.hid F4.out
       refine (F5.out.d.set' HI.out.1 HI.out.2 ⟨2, x.at_ + 1, x.seq, x.body, x.offer⟩ o (fun e => by cases e) rfl (by show ((x.at_ + 1 : Nat) : Int) = (x.at_ : Int) + 1; omega) rfl).mono ?_
       rintro en w5 ⟨s5, v5, p5, rfl, d5, b5⟩
       obtain ⟨gs5, os5, cs5, rfl⟩ := d5.ts
       obtain ⟨gv5, ov5, cv5, rfl⟩ := d5.tw
       obtain ⟨gp5, op5, cp5, rfl⟩ := d5.tp
       have D5 := Lib.hid d5
       have F6 := Lib.hid (F5.out.below b5)
       have n0 := F6.out.k2.cell 0
       have n1 := F6.out.k2.cell 1
       have n2 := F6.out.k2.cell 2
       have nf0 := F6.out.k2.free 0
       have nf1 := F6.out.k2.free 1
       have nf2 := F6.out.k2.free 2
       have e0 := F6.out.k3.cell 0
       have e1 := F6.out.k3.cell 1
       have e2 := F6.out.k3.cell 2
       have ef0 := F6.out.k3.free 0
       have ef1 := F6.out.k3.free 1
       have ef2 := F6.out.k3.free 2
       have zl6 := F6.out.zlt
       clear d5 b5)
    | fail)
  obtain ⟨d, b, h1, h2⟩ := D5.out.ended2 F6.out.w F6.out.k2 F6.out.k3 (by omega) (by omega) (by omega) (.bool false) (.bool false) (.int .i64 0)
  exact bodyPost_ret (res_two rfl _ _ (W.heap.size + 1 + 1) (W.heap.size + 1 + 1 + 1) _ _ _ _ _ _ rfl rfl h1 h2) rfl ⟨_, _, _, rfl, d, b⟩

theorem Dw.sees {W : World} {s v p : Value} {P L : Nat} {A : Ab} {O : Nat → ByteArray} (h : Dw W s v p P L A O) (hF : Fit P A) {i : Nat} (hi : i < P) (hP : P ≤ 64) (hL : L ≤ 256) (ha : (A.X i).at_ < L) (x : Pc) (hx : x = A.X i) (o : ByteArray) (r : Rc) (hS : A.S (A.X i).at_ = some r) :
    Calls Try.prog 74 #[.agg #[s, v, p], .int .i64 i, .agg #[.int .i64 x.next, .int .i64 x.at_, .int .i64 i, .int .i64 x.seq, .string x.body, .string o]] W (DePost P L (prc.sees L A i r).1 (up O i o) (prc.sees L A i r).2 W) := by
  unfold prc.sees
  by_cases e1 : r = mine A i
  · rw [if_pos e1]
    have := h.sees_done hF hi hP hL ha x hx o r (by rw [hx]; exact hS) e1
    rw [hx] at this ⊢
    exact this
  · rw [if_neg e1]
    by_cases e2 : L ≤ (A.X i).at_ + 1
    · rw [if_pos e2]
      have := h.sees_full hF hi hP hL ha x hx o r (by rw [hx]; exact hS) e1 (by rw [hx]; exact e2)
      rw [hx] at this ⊢
      exact this
    · rw [if_neg e2]
      have := h.sees_more hF hi hP hL ha x hx o r (by rw [hx]; exact hS) e1 (by rw [hx]; exact e2)
      rw [hx] at this ⊢
      exact this
end Go.Proofs.Ytbpcfkniflgmfaa.prc
