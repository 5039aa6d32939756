/- The document's help. -/
import Derived.Test.YtbpcfkniflgmfaaYPrdE
namespace Go.Proofs.Ytbpcfkniflgmfaa.prc
open Go Go.RowKit

/-- Within a call that has a world, a process, a result in blocks of its own. -/
structure Fy (W : World) (s v p : Value) (P L : Nat) (A : Ab) (O : Nat → ByteArray) (i : Nat) (n a q : Int) (b o : ByteArray) (V : World) : Prop where
  d : Dw V s v p P L A O
  w : Below W.heap.size W V
  k0 : Has V W.heap.size 31 #[s, v, p]
  k1 : Has V (W.heap.size + 1) 40 #[.int .i64 n, .int .i64 a, .int .i64 i, .int .i64 q, .string b, .string o]
  k2 : Has V (W.heap.size + 1 + 1) 31 #[.slice none 0 0, .slice none 0 0, .slice none 0 0]
  lt : ∀ b, p.ownBlock = some b → b < W.heap.size
  lts : ∀ b, s.ownBlock = some b → b < W.heap.size

section
variable {W V V' : World} {s v p : Value} {P L : Nat} {A : Ab} {O : Nat → ByteArray} {i : Nat} {n a q : Int} {b o : ByteArray}
theorem Fy.start (h : Dw W s v p P L A O) : Fy W s v p P L A O i n a q b o (((W.alloc (.cells #[s, v, p] 31)).alloc (.cells #[.int .i64 n, .int .i64 a, .int .i64 i, .int .i64 q, .string b, .string o] 40)).alloc (.cells #[.slice none 0 0, .slice none 0 0, .slice none 0 0] 31)) :=
  ⟨h.below (below3 W _ _ _), below3 W _ _ _, ((Has.made W 31 _).alloc _).alloc _, (made_at 40 _ (by simp)).alloc _, made_at 31 _ (by simp), fun b hb => h.procs.lt hb, fun b hb => h.slots.lt hb⟩
theorem Fy.below (h : Fy W s v p P L A O i n a q b o V) (hb : Below V.heap.size V V') : Fy W s v p P L A O i n a q b o V' :=
  ⟨h.d.below hb, h.w.trans (hb.mono h.w.size), h.k0.below hb h.k0.lt, h.k1.below hb h.k1.lt, h.k2.below hb h.k2.lt, h.lt, h.lts⟩
theorem Fy.drew (h : Fy W s v p P L A O i n a q b o V) : Fy W s v p P L A O i n a q b o V.drew := ⟨h.d.drew, h.w.drew, h.k0, h.k1, h.k2, h.lt, h.lts⟩
theorem Fy.put (h : Fy W s v p P L A O i n a q b o V) (k : Nat) (u : Value) {n' a' q' : Int} {b' o' : ByteArray} (e : (#[.int .i64 n, .int .i64 a, .int .i64 i, .int .i64 q, .string b, .string o] : Array Value).setIfInBounds k u = #[.int .i64 n', .int .i64 a', .int .i64 i, .int .i64 q', .string b', .string o']) :
    Fy W s v p P L A O i n' a' q' b' o' (V.setCell ⟨W.heap.size + 1, k, none⟩ u) := by
  have t : Turn (fun j => j = W.heap.size + 1) V (V.setCell ⟨W.heap.size + 1, k, none⟩ u) := (Turn.refl (fun j => j = W.heap.size + 1) V).put (fun _ => rfl) k _
  refine ⟨h.d.turn t (fun b hb e => h.d.slots.ne h.k1 (by decide) (by rw [hb, e])) (fun b hb e => h.d.wish.ne h.k1 (by decide) (by rw [hb, e])) (fun b hb e => by have := h.lt b hb; omega), h.w.setCell (by show W.heap.size ≤ W.heap.size + 1; omega) _, h.k0.turn t (by omega), ?_, h.k2.turn t (by omega), h.lt, h.lts⟩
  have := h.k1.put k u
  rw [e] at this
  exact this
theorem Fy.zlt (h : Fy W s v p P L A O i n a q b o V) : W.heap.size + 1 + 1 < V.heap.size := h.k2.lt
theorem Fy.drewN (h : Fy W s v p P L A O i n a q b o V) (m : Nat) : Fy W s v p P L A O i n a q b o (V.drewN m) := ⟨h.d.turn ((Turn.refl (fun _ => False) V).drewN m) (fun _ _ e => e) (fun _ _ e => e) (fun _ _ e => e), ⟨h.w.os, h.w.tape, h.w.output, h.w.size, h.w.block⟩, h.k0, h.k1, h.k2, h.lt, h.lts⟩
end

theorem step_callg {P : Program} {w : World} {ops : Array Oper} {o : Oper} {a : Act} {K : Act → World → Prop} {Q : Exit → Act → World → Prop} {E : Prop} (hw : Region.wanted o (yielded ops a.tmps) = true) (f : FuncId) (fn : Func) (hfn : P.funcs[f]? = some fn) (hname : (fn.name == "runtime.NumGoroutine") = false) (hb : fn.body.isNone = false) (xs : Array Operand) (ts : Array TypeId)
    (ho : o.op = .call { callee := .value (.func f), args := xs, argTypes := ts }) (vs : Array Value) (hv : xs.map a.eval = vs) {R : Ending → World → Prop} (hc : Calls P f vs w R)
    (h : ∀ en w', R en w' → ∃ v, en = .returned v ∧ K (a.put o.dst v) w') :
    if Region.wanted o (yielded ops a.tmps) = true then Oper.wp P o a w K Q else E := by
  rw [if_pos hw]
  have hf : a.eval (.func f) = .func (.func f) #[] #[] := rfl
  have he : (execOp a.eval o).run P w = .ok (.enter f vs) w := by
    simp only [execOp, ho]
    have h1 : fn.name ≠ "runtime.NumGoroutine" := by simpa using hname
    simp [resolve, hv, hf, Deferred.ofValue, invoke, callFunc, hfn, h1]
    intro hn
    simp [hn] at hb
  unfold Oper.wp
  rw [he, Oper.upon_enter]
  refine hc.mono ?_
  intro en w' hR
  obtain ⟨v, rfl, hK⟩ := h en w' hR
  exact hK

set_option maxRecDepth 100000 in
set_option maxHeartbeats 4000000 in
theorem Dw.help_none {W : World} {s v p : Value} {P L : Nat} {A : Ab} {O : Nat → ByteArray} (h : Dw W s v p P L A O) (hF : Fit P A) {i : Nat} (hi : i < P) (hP : P ≤ 64) (hL : L ≤ 256) (x : Pc) (hx : x = A.X i) (ha : x.at_ ≤ L) (o : ByteArray) (hW : A.W (x.at_ % P) = none) :
    Calls Try.prog 76 #[.agg #[s, v, p], .int .i64 i, .agg #[.int .i64 x.next, .int .i64 x.at_, .int .i64 i, .int .i64 x.seq, .string x.body, .string o]] W (DwPost P L (put A i { x with next := 4, offer := (mine A i) }) (up O i (tx (mine A i))) W) := by
  obtain ⟨m, hm⟩ : ∃ m, m = x.at_ % P := ⟨_, rfl⟩
  have hmP : m < P := by rw [hm]; exact Nat.mod_lt _ (by omega)
  obtain ⟨gv, ov, cv, hv, hgv, hc⟩ := h.wishAt hmP
  subst hv
  rw [hm, hW] at hc
  obtain ⟨gs, os, cs, rfl⟩ := h.ts
  obtain ⟨gp, op, cp, rfl⟩ := h.tp
  have hrt : mine A i = ⟨i, x.seq, x.body⟩ := by unfold mine; rw [hx]
  have hfit := hF.mine i hi
  rw [hrt] at hfit
  obtain ⟨t, ht⟩ : ∃ t, t = tx ⟨i, x.seq, x.body⟩ := ⟨_, rfl⟩
  have HTX : ∀ V, Hid (Calls Try.prog 91 #[.agg #[.int .i64 i, .int .i64 x.seq, .string x.body]] V fun en w' => en = .returned (.string t) ∧ Below V.heap.size V w') := fun V => Lib.hid (by rw [ht]; exact rtext_calls ⟨i, x.seq, x.body⟩ V hfit)
  obtain ⟨u, hu⟩ : ∃ u, u = (⟨#[]⟩ : ByteArray) := ⟨_, rfl⟩
  have hcu : W.cell? ⟨gv, ov + m, none⟩ = some (.string u) := by rw [hm, hu]; exact hc
  have HPA : ∀ V, Hid (Calls Try.prog 92 #[.string u] V fun en w' => en = .returned (.tuple #[.agg #[.int .i64 0, .int .i64 0, .string ⟨#[]⟩], .int .i64 1]) ∧ Below V.heap.size V w') := fun V => Lib.hid (by rw [hu]; exact rparse_none V)
  have H := Lib.hid h
  have HI := Lib.hid (And.intro hi (And.intro hP (And.intro hL (And.intro ha hF))))
  obtain ⟨mi, hmi⟩ : ∃ mi : Int, mi = (m : Int) := ⟨_, rfl⟩
  have hmn : mi.toNat = m := by omega
  rw [← hmn] at hcu
  have hrem : (x.at_ : Int).tmod (P : Int) = mi := by rw [hmi, hm]; exact (Int.ofNat_tmod _ _).symm
  have hmi0 : 0 ≤ mi := by omega
  have hmi1 : mi < (P : Int) := by omega
  have hP0 : ¬ (P : Int) = 0 := by omega
  have hP1 : ((P : Int) == 0) = false := by simpa using hP0
  have hP2 : ¬ P = 0 := by omega
  have g1 : decide (mi < 0) = false := decide_eq_false (by omega)
  have g2 : decide ((P : Int) ≤ mi) = false := decide_eq_false (by omega)
  have HXX := Lib.hid (And.intro hx (And.intro ht (And.intro hrt (And.intro hu hfit))))
  clear h hi hP hrt hfit hF hL ha ht hx hc hm hmP hmi hmn hu hW
  go_enter Try.func76, Try.ntmps76
  go_wp2_with fail
  go_name_world V hV
  have F1 : Hid (Fy W (.slice (some ⟨gs, os, none⟩) L cs) (.slice (some ⟨gv, ov, none⟩) P cv) (.slice (some ⟨gp, op, none⟩) P cp) P L A O i x.next x.at_ x.seq x.body o V) := by rw [← hV]; exact Lib.hid (Fy.start H.out)
  have cu : V.cell? ⟨gv, ov + mi.toNat, none⟩ = some (.string u) := by rw [← hV]; exact (Turn.cell (p := ⟨gv, ov + mi.toNat, none⟩) (Turn.of_below (below3 W _ _ _) (F := fun j => W.heap.size ≤ j) (fun _ _ e => e)) hgv (Nat.not_le_of_lt hgv)).trans hcu
  clear hV hcu
  have y0 : V.cell? ⟨W.heap.size, 0, none⟩ = some (.slice (some ⟨gs, os, none⟩) L cs) := F1.out.k0.cell 0
  have y1 : V.cell? ⟨W.heap.size, 1, none⟩ = some (.slice (some ⟨gv, ov, none⟩) P cv) := F1.out.k0.cell 1
  have y2 : V.cell? ⟨W.heap.size, 2, none⟩ = some (.slice (some ⟨gp, op, none⟩) P cp) := F1.out.k0.cell 2
  have l1 : V.cell? ⟨W.heap.size + 1, 1, none⟩ = some (.int .i64 x.at_) := F1.out.k1.cell 1
  have l2 : V.cell? ⟨W.heap.size + 1, 2, none⟩ = some (.int .i64 i) := F1.out.k1.cell 2
  have l3 : V.cell? ⟨W.heap.size + 1, 3, none⟩ = some (.int .i64 x.seq) := F1.out.k1.cell 3
  have l4 : V.cell? ⟨W.heap.size + 1, 4, none⟩ = some (.string x.body) := F1.out.k1.cell 4
  go_quiet (fail)
  clear y0 y1 y2 cu g1 g2 hrem
  go_wp2_with (first
    | (go_at_call 91
       refine (HTX _).out.mono ?_; rintro en w4 ⟨rfl, b4⟩
       have F4 := Lib.hid ((F1.out.drewN _).below b4)
       have l5 := F4.out.k1.cell 5
       have lf5 := F4.out.k1.free 5
       clear b4)
    | fail)
  go_wp2_with (first
    | (go_at_call 92
       refine (HPA _).out.mono ?_; rintro en w5 ⟨rfl, b5⟩
       have F5 := Lib.hid ((F4.out.put 5 (.string t) (o' := t) rfl).below b5)
       clear b5)
    | fail)
  go_name_world V6 hV6
  have F6 : Hid (Fy W (.slice (some ⟨gs, os, none⟩) L cs) (.slice (some ⟨gv, ov, none⟩) P cv) (.slice (some ⟨gp, op, none⟩) P cp) P L A O i x.next x.at_ x.seq x.body t V6) := by rw [← hV6]; exact Lib.hid (F5.out.below ((Below.refl _ _).alloc (Nat.le_refl _) _))
  clear hV6 F5 F4 l5 lf5 F1 l1 l2 l3 l4
  have q0 := F6.out.k0.cell 0
  have q1 := F6.out.k0.cell 1
  have q2 := F6.out.k0.cell 2
  have p0 := F6.out.k1.cell 0
  have p1 := F6.out.k1.cell 1
  have p2 := F6.out.k1.cell 2
  have p3 := F6.out.k1.cell 3
  have p4 := F6.out.k1.cell 4
  have p5 := F6.out.k1.cell 5
  have pf0 := F6.out.k1.free 0
  have pf5 := F6.out.k1.free 5
  have zl := F6.out.zlt
  go_quiet (fail)
  clear q0 q1 q2 p0 p1 p2 p3 p4 p5 pf0 pf5 zl
  replace F6 := Lib.hid (F6.out.drewN nq)
  have q0 := F6.out.k0.cell 0
  have q1 := F6.out.k0.cell 1
  have q2 := F6.out.k0.cell 2
  have p0 := F6.out.k1.cell 0
  have p1 := F6.out.k1.cell 1
  have p2 := F6.out.k1.cell 2
  have p3 := F6.out.k1.cell 3
  have p4 := F6.out.k1.cell 4
  have p5 := F6.out.k1.cell 5
  have pf0 := F6.out.k1.free 0
  have pf5 := F6.out.k1.free 5
  have zl := F6.out.zlt
  go_wp2_with (first
    | (go_at_call 75
       have F7 := Lib.hid (F6.out.put 0 (.int .i64 4) (n' := 4) rfl)
       refine (F7.out.d.set' HI.out.1 HI.out.2.1 ⟨4, x.at_, x.seq, x.body, ⟨i, x.seq, x.body⟩⟩ t (fun _ => HXX.out.2.1) rfl rfl rfl).mono ?_
       rintro en w8 ⟨s5, v5, p5, rfl, d5, b5⟩
       obtain ⟨gs5, os5, cs5, rfl⟩ := d5.ts
       obtain ⟨gv5, ov5, cv5, rfl⟩ := d5.tw
       obtain ⟨gp5, op5, cp5, rfl⟩ := d5.tp
       have D5 := Lib.hid d5
       have F8 := Lib.hid (F7.out.below b5)
       have n0 := F8.out.k2.cell 0
       have n1 := F8.out.k2.cell 1
       have n2 := F8.out.k2.cell 2
       have nf0 := F8.out.k2.free 0
       have nf1 := F8.out.k2.free 1
       have nf2 := F8.out.k2.free 2
       have zl6 := F8.out.zlt
       clear d5 b5)
    | fail)
  rw [HXX.out.2.2.1, ← HXX.out.2.1]
  refine bodyPost_ret (res_dw rfl _ _ (W.heap.size + 1 + 1) _ _ _ rfl (has_three _ _ _ F8.out.k2)) rfl ⟨_, _, _, rfl, ?_⟩
  exact D5.out.ended F8.out.w F8.out.k2 (by omega)

set_option maxRecDepth 100000 in
set_option maxHeartbeats 4000000 in
theorem Dw.help_keep {W : World} {s v p : Value} {P L : Nat} {A : Ab} {O : Nat → ByteArray} (h : Dw W s v p P L A O) (hF : Fit P A) {i : Nat} (hi : i < P) (hP : P ≤ 64) (hL : L ≤ 256) (x : Pc) (hx : x = A.X i) (ha : x.at_ ≤ L) (o : ByteArray) (r : Rc) (hW : A.W (x.at_ % P) = some r) (hkn : ¬ kn A.S r.who x.at_ < r.seq) :
    Calls Try.prog 76 #[.agg #[s, v, p], .int .i64 i, .agg #[.int .i64 x.next, .int .i64 x.at_, .int .i64 i, .int .i64 x.seq, .string x.body, .string o]] W (DwPost P L (put A i { x with next := 4, offer := (mine A i) }) (up O i (tx (mine A i))) W) := by
  obtain ⟨m, hm⟩ : ∃ m, m = x.at_ % P := ⟨_, rfl⟩
  have hmP : m < P := by rw [hm]; exact Nat.mod_lt _ (by omega)
  obtain ⟨gv, ov, cv, hv, hgv, hc⟩ := h.wishAt hmP
  subst hv
  rw [hm, hW] at hc
  obtain ⟨gs, os, cs, rfl⟩ := h.ts
  obtain ⟨gp, op, cp, rfl⟩ := h.tp
  have hrt : mine A i = ⟨i, x.seq, x.body⟩ := by unfold mine; rw [hx]
  have hfit := hF.mine i hi
  rw [hrt] at hfit
  obtain ⟨t, ht⟩ : ∃ t, t = tx ⟨i, x.seq, x.body⟩ := ⟨_, rfl⟩
  have HTX : ∀ V, Hid (Calls Try.prog 91 #[.agg #[.int .i64 i, .int .i64 x.seq, .string x.body]] V fun en w' => en = .returned (.string t) ∧ Below V.heap.size V w') := fun V => Lib.hid (by rw [ht]; exact rtext_calls ⟨i, x.seq, x.body⟩ V hfit)
  obtain ⟨u, hu⟩ : ∃ u, u = tx r := ⟨_, rfl⟩
  have hcu : W.cell? ⟨gv, ov + m, none⟩ = some (.string u) := by rw [hm, hu]; exact hc
  have hrf := hF.wish _ r hW
  have HPA : ∀ V, Hid (Calls Try.prog 92 #[.string u] V fun en w' => en = .returned (.tuple #[.agg #[.int .i64 r.who, .int .i64 r.seq, .string r.body], .int .i64 0]) ∧ Below V.heap.size V w') := fun V => Lib.hid (by rw [hu]; exact rparse_tx r V hrf)
  have HRF := Lib.hid hrf
  obtain ⟨kk, hkk⟩ : ∃ kk, kk = kn A.S r.who x.at_ := ⟨_, rfl⟩
  rw [← hkk] at hkn
  have HKK := Lib.hid hkk
  have d1 : decide ((kk : Int) < (r.seq : Int)) = false := decide_eq_false (by omega)
  have d2 : decide (kk < r.seq) = false := decide_eq_false hkn
  have H := Lib.hid h
  have HI := Lib.hid (And.intro hi (And.intro hP (And.intro hL (And.intro ha hF))))
  obtain ⟨mi, hmi⟩ : ∃ mi : Int, mi = (m : Int) := ⟨_, rfl⟩
  have hmn : mi.toNat = m := by omega
  rw [← hmn] at hcu
  have hrem : (x.at_ : Int).tmod (P : Int) = mi := by rw [hmi, hm]; exact (Int.ofNat_tmod _ _).symm
  have hmi0 : 0 ≤ mi := by omega
  have hmi1 : mi < (P : Int) := by omega
  have hP0 : ¬ (P : Int) = 0 := by omega
  have hP1 : ((P : Int) == 0) = false := by simpa using hP0
  have hP2 : ¬ P = 0 := by omega
  have g1 : decide (mi < 0) = false := decide_eq_false (by omega)
  have g2 : decide ((P : Int) ≤ mi) = false := decide_eq_false (by omega)
  have HXX := Lib.hid (And.intro hx (And.intro ht (And.intro hrt (And.intro hu hfit))))
  clear h hi hP hrt hfit hF hL ha ht hx hc hm hmP hmi hmn hu hW hkk hrf
  go_enter Try.func76, Try.ntmps76
  go_wp2_with fail
  go_name_world V hV
  have F1 : Hid (Fy W (.slice (some ⟨gs, os, none⟩) L cs) (.slice (some ⟨gv, ov, none⟩) P cv) (.slice (some ⟨gp, op, none⟩) P cp) P L A O i x.next x.at_ x.seq x.body o V) := by rw [← hV]; exact Lib.hid (Fy.start H.out)
  have cu : V.cell? ⟨gv, ov + mi.toNat, none⟩ = some (.string u) := by rw [← hV]; exact (Turn.cell (p := ⟨gv, ov + mi.toNat, none⟩) (Turn.of_below (below3 W _ _ _) (F := fun j => W.heap.size ≤ j) (fun _ _ e => e)) hgv (Nat.not_le_of_lt hgv)).trans hcu
  clear hV hcu
  have y0 : V.cell? ⟨W.heap.size, 0, none⟩ = some (.slice (some ⟨gs, os, none⟩) L cs) := F1.out.k0.cell 0
  have y1 : V.cell? ⟨W.heap.size, 1, none⟩ = some (.slice (some ⟨gv, ov, none⟩) P cv) := F1.out.k0.cell 1
  have y2 : V.cell? ⟨W.heap.size, 2, none⟩ = some (.slice (some ⟨gp, op, none⟩) P cp) := F1.out.k0.cell 2
  have l1 : V.cell? ⟨W.heap.size + 1, 1, none⟩ = some (.int .i64 x.at_) := F1.out.k1.cell 1
  have l2 : V.cell? ⟨W.heap.size + 1, 2, none⟩ = some (.int .i64 i) := F1.out.k1.cell 2
  have l3 : V.cell? ⟨W.heap.size + 1, 3, none⟩ = some (.int .i64 x.seq) := F1.out.k1.cell 3
  have l4 : V.cell? ⟨W.heap.size + 1, 4, none⟩ = some (.string x.body) := F1.out.k1.cell 4
  go_quiet (fail)
  clear y0 y1 y2 cu g1 g2 hrem
  go_wp2_with (first
    | (go_at_call 91
       refine (HTX _).out.mono ?_; rintro en w4 ⟨rfl, b4⟩
       have F4 := Lib.hid ((F1.out.drewN _).below b4)
       have l5 := F4.out.k1.cell 5
       have lf5 := F4.out.k1.free 5
       clear b4)
    | fail)
  go_wp2_with (first
    | (go_at_call 92
       refine (HPA _).out.mono ?_; rintro en w5 ⟨rfl, b5⟩
       have F5 := Lib.hid ((F4.out.put 5 (.string t) (o' := t) rfl).below b5)
       clear b5)
    | fail)
  go_name_world V6 hV6
  have F6 : Hid (Fy W (.slice (some ⟨gs, os, none⟩) L cs) (.slice (some ⟨gv, ov, none⟩) P cv) (.slice (some ⟨gp, op, none⟩) P cp) P L A O i x.next x.at_ x.seq x.body t V6) := by rw [← hV6]; exact Lib.hid (F5.out.below ((Below.refl _ _).alloc (Nat.le_refl _) _))
  have R6 : Hid (Has V6 w5.heap.size 38 #[.int .i64 r.who, .int .i64 r.seq, .string r.body]) := by rw [← hV6]; exact Lib.hid (Has.made _ _ _)
  have HKN : Hid (Calls Try.prog 93 #[.agg #[.slice (some ⟨gs, os, none⟩) L cs, .slice (some ⟨gv, ov, none⟩) P cv, .slice (some ⟨gp, op, none⟩) P cp], .int .i64 x.at_, .int .i64 r.who] V6.drew fun en W' => en = .returned (.int .i64 kk) ∧ Below V6.drew.heap.size V6.drew W') := by
    have := F6.out.drew.d.known HI.out.2.2.2.2 x.at_ r.who HI.out.2.2.2.1 HI.out.2.2.1 HRF.out.1
    rw [← HKK.out] at this
    exact Lib.hid this
  clear hV6 F5 F4 l5 lf5 F1 l1 l2 l3 l4
  have q0 := F6.out.k0.cell 0
  have q1 := F6.out.k0.cell 1
  have q2 := F6.out.k0.cell 2
  have p0 := F6.out.k1.cell 0
  have p1 := F6.out.k1.cell 1
  have p2 := F6.out.k1.cell 2
  have p3 := F6.out.k1.cell 3
  have p4 := F6.out.k1.cell 4
  have p5 := F6.out.k1.cell 5
  have pf0 := F6.out.k1.free 0
  have pf5 := F6.out.k1.free 5
  have zl := F6.out.zlt
  have r0 := R6.out.cell 0
  have r1 := R6.out.cell 1
  have zr : W.heap.size + 1 + 1 < V6.heap.size := zl
  go_region_law (refine step_callg (by first | rfl | kernel_rfl) 93 Try.f93 Try.func93 (by kernel_rfl) (by kernel_rfl) _ _ rfl #[.agg #[.slice (some ⟨gs, os, none⟩) L cs, .slice (some ⟨gv, ov, none⟩) P cv, .slice (some ⟨gp, op, none⟩) P cp], .int .i64 x.at_, .int .i64 r.who] (by first | (simp [Act.eval]; done) | (simp [Act.eval, Act.put]; done)) (by exact HKN.out) ?_
                 rintro en w7 ⟨rfl, b7⟩
                 have F7 := Lib.hid (F6.out.drew.below b7)
                 have R7 := Lib.hid (R6.out.drew.below b7 R6.out.lt)
                 have t0 := F7.out.k0.cell 0
                 have t1 := F7.out.k0.cell 1
                 have t2 := F7.out.k0.cell 2
                 have t3 := F7.out.k1.cell 1
                 have u0 := R7.out.cell 0
                 have u1 := R7.out.cell 1
                 clear b7
                 refine ⟨_, rfl, ?_⟩)
  all_goals
    clear q0 q1 q2 p0 p1 p2 p3 p4 p5 pf0 pf5 zl zr r0 r1 t0 t1 t2 t3 u0 u1 R7 R6
    replace F6 := F7
    clear HKN
    have q0 := F6.out.k0.cell 0
    have q1 := F6.out.k0.cell 1
    have q2 := F6.out.k0.cell 2
    have p0 := F6.out.k1.cell 0
    have p1 := F6.out.k1.cell 1
    have p2 := F6.out.k1.cell 2
    have p3 := F6.out.k1.cell 3
    have p4 := F6.out.k1.cell 4
    have p5 := F6.out.k1.cell 5
    have pf0 := F6.out.k1.free 0
    have pf5 := F6.out.k1.free 5
    have zl := F6.out.zlt
    go_wp2_with (first
      | (go_at_call 75
         have F7 := Lib.hid (F6.out.put 0 (.int .i64 4) (n' := 4) rfl)
         refine (F7.out.d.set' HI.out.1 HI.out.2.1 ⟨4, x.at_, x.seq, x.body, ⟨i, x.seq, x.body⟩⟩ t (fun _ => HXX.out.2.1) rfl rfl rfl).mono ?_
         rintro en w8 ⟨s5, v5, p5, rfl, d5, b5⟩
         obtain ⟨gs5, os5, cs5, rfl⟩ := d5.ts
         obtain ⟨gv5, ov5, cv5, rfl⟩ := d5.tw
         obtain ⟨gp5, op5, cp5, rfl⟩ := d5.tp
         have D5 := Lib.hid d5
         have F8 := Lib.hid (F7.out.below b5)
         have n0 := F8.out.k2.cell 0
         have n1 := F8.out.k2.cell 1
         have n2 := F8.out.k2.cell 2
         have nf0 := F8.out.k2.free 0
         have nf1 := F8.out.k2.free 1
         have nf2 := F8.out.k2.free 2
         have zl6 := F8.out.zlt
         clear d5 b5)
      | fail)
    rw [HXX.out.2.2.1, ← HXX.out.2.1]
    refine bodyPost_ret (res_dw rfl _ _ (W.heap.size + 1 + 1) _ _ _ rfl (has_three _ _ _ F8.out.k2)) rfl ⟨_, _, _, rfl, ?_⟩
    exact D5.out.ended F8.out.w F8.out.k2 (by omega)

set_option maxRecDepth 100000 in
set_option maxHeartbeats 4000000 in
theorem Dw.help_take {W : World} {s v p : Value} {P L : Nat} {A : Ab} {O : Nat → ByteArray} (h : Dw W s v p P L A O) (hF : Fit P A) {i : Nat} (hi : i < P) (hP : P ≤ 64) (hL : L ≤ 256) (x : Pc) (hx : x = A.X i) (ha : x.at_ ≤ L) (o : ByteArray) (r : Rc) (hW : A.W (x.at_ % P) = some r) (hkn : kn A.S r.who x.at_ < r.seq) :
    Calls Try.prog 76 #[.agg #[s, v, p], .int .i64 i, .agg #[.int .i64 x.next, .int .i64 x.at_, .int .i64 i, .int .i64 x.seq, .string x.body, .string o]] W (DwPost P L (put A i { x with next := 4, offer := r }) (up O i (tx r)) W) := by
  obtain ⟨m, hm⟩ : ∃ m, m = x.at_ % P := ⟨_, rfl⟩
  have hmP : m < P := by rw [hm]; exact Nat.mod_lt _ (by omega)
  obtain ⟨gv, ov, cv, hv, hgv, hc⟩ := h.wishAt hmP
  subst hv
  rw [hm, hW] at hc
  obtain ⟨gs, os, cs, rfl⟩ := h.ts
  obtain ⟨gp, op, cp, rfl⟩ := h.tp
  have hrt : mine A i = ⟨i, x.seq, x.body⟩ := by unfold mine; rw [hx]
  have hfit := hF.mine i hi
  rw [hrt] at hfit
  obtain ⟨t, ht⟩ : ∃ t, t = tx ⟨i, x.seq, x.body⟩ := ⟨_, rfl⟩
  have HTX : ∀ V, Hid (Calls Try.prog 91 #[.agg #[.int .i64 i, .int .i64 x.seq, .string x.body]] V fun en w' => en = .returned (.string t) ∧ Below V.heap.size V w') := fun V => Lib.hid (by rw [ht]; exact rtext_calls ⟨i, x.seq, x.body⟩ V hfit)
  obtain ⟨u, hu⟩ : ∃ u, u = tx r := ⟨_, rfl⟩
  have hcu : W.cell? ⟨gv, ov + m, none⟩ = some (.string u) := by rw [hm, hu]; exact hc
  have hrf := hF.wish _ r hW
  have HPA : ∀ V, Hid (Calls Try.prog 92 #[.string u] V fun en w' => en = .returned (.tuple #[.agg #[.int .i64 r.who, .int .i64 r.seq, .string r.body], .int .i64 0]) ∧ Below V.heap.size V w') := fun V => Lib.hid (by rw [hu]; exact rparse_tx r V hrf)
  have HRF := Lib.hid hrf
  obtain ⟨kk, hkk⟩ : ∃ kk, kk = kn A.S r.who x.at_ := ⟨_, rfl⟩
  rw [← hkk] at hkn
  have HKK := Lib.hid hkk
  have d1 : decide ((kk : Int) < (r.seq : Int)) = true := decide_eq_true (by omega)
  have d2 : decide (kk < r.seq) = true := decide_eq_true hkn
  have H := Lib.hid h
  have HI := Lib.hid (And.intro hi (And.intro hP (And.intro hL (And.intro ha hF))))
  obtain ⟨mi, hmi⟩ : ∃ mi : Int, mi = (m : Int) := ⟨_, rfl⟩
  have hmn : mi.toNat = m := by omega
  rw [← hmn] at hcu
  have hrem : (x.at_ : Int).tmod (P : Int) = mi := by rw [hmi, hm]; exact (Int.ofNat_tmod _ _).symm
  have hmi0 : 0 ≤ mi := by omega
  have hmi1 : mi < (P : Int) := by omega
  have hP0 : ¬ (P : Int) = 0 := by omega
  have hP1 : ((P : Int) == 0) = false := by simpa using hP0
  have hP2 : ¬ P = 0 := by omega
  have g1 : decide (mi < 0) = false := decide_eq_false (by omega)
  have g2 : decide ((P : Int) ≤ mi) = false := decide_eq_false (by omega)
  have HXX := Lib.hid (And.intro hx (And.intro ht (And.intro hrt (And.intro hu hfit))))
  clear h hi hP hrt hfit hF hL ha ht hx hc hm hmP hmi hmn hu hW hkk hrf
  go_enter Try.func76, Try.ntmps76
  go_wp2_with fail
  go_name_world V hV
  have F1 : Hid (Fy W (.slice (some ⟨gs, os, none⟩) L cs) (.slice (some ⟨gv, ov, none⟩) P cv) (.slice (some ⟨gp, op, none⟩) P cp) P L A O i x.next x.at_ x.seq x.body o V) := by rw [← hV]; exact Lib.hid (Fy.start H.out)
  have cu : V.cell? ⟨gv, ov + mi.toNat, none⟩ = some (.string u) := by rw [← hV]; exact (Turn.cell (p := ⟨gv, ov + mi.toNat, none⟩) (Turn.of_below (below3 W _ _ _) (F := fun j => W.heap.size ≤ j) (fun _ _ e => e)) hgv (Nat.not_le_of_lt hgv)).trans hcu
  clear hV hcu
  have y0 : V.cell? ⟨W.heap.size, 0, none⟩ = some (.slice (some ⟨gs, os, none⟩) L cs) := F1.out.k0.cell 0
  have y1 : V.cell? ⟨W.heap.size, 1, none⟩ = some (.slice (some ⟨gv, ov, none⟩) P cv) := F1.out.k0.cell 1
  have y2 : V.cell? ⟨W.heap.size, 2, none⟩ = some (.slice (some ⟨gp, op, none⟩) P cp) := F1.out.k0.cell 2
  have l1 : V.cell? ⟨W.heap.size + 1, 1, none⟩ = some (.int .i64 x.at_) := F1.out.k1.cell 1
  have l2 : V.cell? ⟨W.heap.size + 1, 2, none⟩ = some (.int .i64 i) := F1.out.k1.cell 2
  have l3 : V.cell? ⟨W.heap.size + 1, 3, none⟩ = some (.int .i64 x.seq) := F1.out.k1.cell 3
  have l4 : V.cell? ⟨W.heap.size + 1, 4, none⟩ = some (.string x.body) := F1.out.k1.cell 4
  go_quiet (fail)
  clear y0 y1 y2 cu g1 g2 hrem
  go_wp2_with (first
    | (go_at_call 91
       refine (HTX _).out.mono ?_; rintro en w4 ⟨rfl, b4⟩
       have F4 := Lib.hid ((F1.out.drewN _).below b4)
       have l5 := F4.out.k1.cell 5
       have lf5 := F4.out.k1.free 5
       clear b4)
    | fail)
  go_wp2_with (first
    | (go_at_call 92
       refine (HPA _).out.mono ?_; rintro en w5 ⟨rfl, b5⟩
       have F5 := Lib.hid ((F4.out.put 5 (.string t) (o' := t) rfl).below b5)
       clear b5)
    | fail)
  go_name_world V6 hV6
  have F6 : Hid (Fy W (.slice (some ⟨gs, os, none⟩) L cs) (.slice (some ⟨gv, ov, none⟩) P cv) (.slice (some ⟨gp, op, none⟩) P cp) P L A O i x.next x.at_ x.seq x.body t V6) := by rw [← hV6]; exact Lib.hid (F5.out.below ((Below.refl _ _).alloc (Nat.le_refl _) _))
  have R6 : Hid (Has V6 w5.heap.size 38 #[.int .i64 r.who, .int .i64 r.seq, .string r.body]) := by rw [← hV6]; exact Lib.hid (Has.made _ _ _)
  have HKN : Hid (Calls Try.prog 93 #[.agg #[.slice (some ⟨gs, os, none⟩) L cs, .slice (some ⟨gv, ov, none⟩) P cv, .slice (some ⟨gp, op, none⟩) P cp], .int .i64 x.at_, .int .i64 r.who] V6.drew fun en W' => en = .returned (.int .i64 kk) ∧ Below V6.drew.heap.size V6.drew W') := by
    have := F6.out.drew.d.known HI.out.2.2.2.2 x.at_ r.who HI.out.2.2.2.1 HI.out.2.2.1 HRF.out.1
    rw [← HKK.out] at this
    exact Lib.hid this
  clear hV6 F5 F4 l5 lf5 F1 l1 l2 l3 l4
  have q0 := F6.out.k0.cell 0
  have q1 := F6.out.k0.cell 1
  have q2 := F6.out.k0.cell 2
  have p0 := F6.out.k1.cell 0
  have p1 := F6.out.k1.cell 1
  have p2 := F6.out.k1.cell 2
  have p3 := F6.out.k1.cell 3
  have p4 := F6.out.k1.cell 4
  have p5 := F6.out.k1.cell 5
  have pf0 := F6.out.k1.free 0
  have pf5 := F6.out.k1.free 5
  have zl := F6.out.zlt
  have r0 := R6.out.cell 0
  have r1 := R6.out.cell 1
  have zr : W.heap.size + 1 + 1 < V6.heap.size := zl
  go_region_law (refine step_callg (by first | rfl | kernel_rfl) 93 Try.f93 Try.func93 (by kernel_rfl) (by kernel_rfl) _ _ rfl #[.agg #[.slice (some ⟨gs, os, none⟩) L cs, .slice (some ⟨gv, ov, none⟩) P cv, .slice (some ⟨gp, op, none⟩) P cp], .int .i64 x.at_, .int .i64 r.who] (by first | (simp [Act.eval]; done) | (simp [Act.eval, Act.put]; done)) (by exact HKN.out) ?_
                 rintro en w7 ⟨rfl, b7⟩
                 have F7 := Lib.hid (F6.out.drew.below b7)
                 have R7 := Lib.hid (R6.out.drew.below b7 R6.out.lt)
                 have t0 := F7.out.k0.cell 0
                 have t1 := F7.out.k0.cell 1
                 have t2 := F7.out.k0.cell 2
                 have t3 := F7.out.k1.cell 1
                 have u0 := R7.out.cell 0
                 have u1 := R7.out.cell 1
                 clear b7
                 refine ⟨_, rfl, ?_⟩)
  all_goals
    clear q0 q1 q2 p0 p1 p2 p3 p4 p5 pf0 pf5 zl zr r0 r1 t0 t1 t2 t3 u0 u1 R7 R6
    replace F6 := F7
    clear HKN
    have q0 := F6.out.k0.cell 0
    have q1 := F6.out.k0.cell 1
    have q2 := F6.out.k0.cell 2
    have p0 := F6.out.k1.cell 0
    have p1 := F6.out.k1.cell 1
    have p2 := F6.out.k1.cell 2
    have p3 := F6.out.k1.cell 3
    have p4 := F6.out.k1.cell 4
    have p5 := F6.out.k1.cell 5
    have pf0 := F6.out.k1.free 0
    have pf5 := F6.out.k1.free 5
    have zl := F6.out.zlt
    go_wp2_with (first
      | (go_at_call 75
         have F7 := Lib.hid ((F6.out.put 5 (.string u) (o' := u) rfl).put 0 (.int .i64 4) (n' := 4) rfl)
         refine (F7.out.d.set' HI.out.1 HI.out.2.1 ⟨4, x.at_, x.seq, x.body, r⟩ u (fun _ => HXX.out.2.2.2.1) rfl rfl rfl).mono ?_
         rintro en w8 ⟨s5, v5, p5, rfl, d5, b5⟩
         obtain ⟨gs5, os5, cs5, rfl⟩ := d5.ts
         obtain ⟨gv5, ov5, cv5, rfl⟩ := d5.tw
         obtain ⟨gp5, op5, cp5, rfl⟩ := d5.tp
         have D5 := Lib.hid d5
         have F8 := Lib.hid (F7.out.below b5)
         have n0 := F8.out.k2.cell 0
         have n1 := F8.out.k2.cell 1
         have n2 := F8.out.k2.cell 2
         have nf0 := F8.out.k2.free 0
         have nf1 := F8.out.k2.free 1
         have nf2 := F8.out.k2.free 2
         have zl6 := F8.out.zlt
         clear d5 b5)
      | fail)
    rw [← HXX.out.2.2.2.1]
    refine bodyPost_ret (res_dw rfl _ _ (W.heap.size + 1 + 1) _ _ _ rfl (has_three _ _ _ F8.out.k2)) rfl ⟨_, _, _, rfl, ?_⟩
    exact D5.out.ended F8.out.w F8.out.k2 (by omega)

theorem Dw.helps {W : World} {s v p : Value} {P L : Nat} {A : Ab} {O : Nat → ByteArray} (h : Dw W s v p P L A O) (hF : Fit P A) {i : Nat} (hi : i < P) (hP : P ≤ 64) (hL : L ≤ 256) (ha : (A.X i).at_ ≤ L) (x : Pc) (hx : x = A.X i) (o : ByteArray) :
    Calls Try.prog 76 #[.agg #[s, v, p], .int .i64 i, .agg #[.int .i64 x.next, .int .i64 x.at_, .int .i64 i, .int .i64 x.seq, .string x.body, .string o]] W (DwPost P L (prc.helps P A i).1 (up O i (tx (choose A i (A.W ((A.X i).at_ % P))))) W) := by
  unfold prc.helps
  cases hW : A.W ((A.X i).at_ % P) with
  | none =>
    have := h.help_none hF hi hP hL x hx (by rw [hx]; exact ha) o (by rw [hx]; exact hW)
    rw [hx] at this ⊢
    exact this
  | some r =>
    unfold choose
    by_cases hk : kn A.S r.who (A.X i).at_ < r.seq
    · have := h.help_take hF hi hP hL x hx (by rw [hx]; exact ha) o r (by rw [hx]; exact hW) (by rw [hx]; exact hk)
      dsimp only
      rw [if_pos hk]
      rw [hx] at this ⊢
      exact this
    · have := h.help_keep hF hi hP hL x hx (by rw [hx]; exact ha) o r (by rw [hx]; exact hW) (by rw [hx]; exact hk)
      dsimp only
      rw [if_neg hk]
      rw [hx] at this ⊢
      exact this
end Go.Proofs.Ytbpcfkniflgmfaa.prc
