/- Texts laid into one: PrdP, PrdO, PrdQ, PrdU, PrdV. -/
import Derived.Test.YtbpcfkniflgmfaaY018
import Derived.Deep.RegionHeld3
section
/- Law 16's Does: a step. -/
namespace Go.Proofs.Ytbpcfkniflgmfaa.prc
open Go Go.RowKit

/-- What Does reads at its end. -/
structure Bz (x e f : Nat) (cs ce : Array Value) (V : World) : Prop where
  hx : Has V x 33 cs
  he : Has V e 42 ce
  hf : Has V f 89 ce
theorem Bz.drew {x e f : Nat} {cs ce : Array Value} {V : World} (h : Bz x e f cs ce V) : Bz x e f cs ce V.drew := ⟨h.hx, h.he, h.hf⟩
theorem Bz.far {x e f : Nat} {cs ce : Array Value} {V : World} (h : Bz x e f cs ce V) {b : Nat} (h1 : x ≠ b) (h2 : e ≠ b) (h3 : f ≠ b) (i : Nat) (u : Value) : Bz x e f cs ce (V.setCell ⟨b, i, none⟩ u) := ⟨h.hx.far (by exact h1) u, h.he.far (by exact h2) u, h.hf.far (by exact h3) u⟩

/-- The document's new rows are stored in the state's box. -/
theorem Sd.put3 {w V : World} {P L K d c m : Nat} {A : Ab} {B : Nat → Nat} {O : Nat → ByteArray} {l s v p s0 v0 p0 : Value} (h : Sd w P L P A K d c m B O l s v p V) {x : Nat} (hx : Has V x 33 (stC P L d l s0 v0 p0)) (wx : w.heap.size ≤ x) :
    Sd w P L P A K d c m B O l s v p (((V.setCell ⟨x, 4, none⟩ s).setCell ⟨x, 5, none⟩ v).setCell ⟨x, 6, none⟩ p) ∧ Has (((V.setCell ⟨x, 4, none⟩ s).setCell ⟨x, 5, none⟩ v).setCell ⟨x, 6, none⟩ p) x 33 (stC P L d l s v p) ∧
    Turn (fun j => j = x) V (((V.setCell ⟨x, 4, none⟩ s).setCell ⟨x, 5, none⟩ v).setCell ⟨x, 6, none⟩ p) := by
  have t1 : Turn (fun j => j = x) V (((V.setCell ⟨x, 4, none⟩ s).setCell ⟨x, 5, none⟩ v).setCell ⟨x, 6, none⟩ p) := (((Turn.refl (fun j => j = x) V).put (fun _ => rfl) 4 _).put (fun _ => rfl) 5 _).put (fun _ => rfl) 6 _
  exact ⟨h.turned hx t1 wx (by decide) (by decide) (by decide) (by decide) (by decide) (by decide), by simpa using ((hx.put 4 s).put 5 v).put 6 p, t1⟩
/-- The state in the result's block, the end in its own. -/
theorem Sd.put10 {w U : World} {P L K d c m : Nat} {A : Ab} {B : Nat → Nat} {O : Nat → ByteArray} {l s v p : Value} (h1 : Sd w P L P A K d c m B O l s v p U) {y z : Nat} {e0 e1 e2 : Value}
    (hy1 : Has U y 33 stZ) (hz1 : Has U z 42 #[e0, e1, e2]) (wy : w.heap.size ≤ y) (wz : w.heap.size ≤ z) (yz : z ≠ y) (a1 a2 a3 a4 a5 a6 a7 b0 b1 b2 : Value) :
    Sd w P L P A K d c m B O l s v p ((((((((((U.setCell ⟨y, 0, none⟩ a1).setCell ⟨y, 1, none⟩ a2).setCell ⟨y, 2, none⟩ a3).setCell ⟨y, 3, none⟩ a4).setCell ⟨y, 4, none⟩ a5).setCell ⟨y, 5, none⟩ a6).setCell ⟨y, 6, none⟩ a7).setCell ⟨z, 0, none⟩ b0).setCell ⟨z, 1, none⟩ b1).setCell ⟨z, 2, none⟩ b2) ∧
    Has ((((((((((U.setCell ⟨y, 0, none⟩ a1).setCell ⟨y, 1, none⟩ a2).setCell ⟨y, 2, none⟩ a3).setCell ⟨y, 3, none⟩ a4).setCell ⟨y, 4, none⟩ a5).setCell ⟨y, 5, none⟩ a6).setCell ⟨y, 6, none⟩ a7).setCell ⟨z, 0, none⟩ b0).setCell ⟨z, 1, none⟩ b1).setCell ⟨z, 2, none⟩ b2) y 33 #[a1, a2, a3, a4, a5, a6, a7] ∧
    Has ((((((((((U.setCell ⟨y, 0, none⟩ a1).setCell ⟨y, 1, none⟩ a2).setCell ⟨y, 2, none⟩ a3).setCell ⟨y, 3, none⟩ a4).setCell ⟨y, 4, none⟩ a5).setCell ⟨y, 5, none⟩ a6).setCell ⟨y, 6, none⟩ a7).setCell ⟨z, 0, none⟩ b0).setCell ⟨z, 1, none⟩ b1).setCell ⟨z, 2, none⟩ b2) z 42 #[b0, b1, b2] ∧
    Turn (fun j => j = y ∨ j = z) U ((((((((((U.setCell ⟨y, 0, none⟩ a1).setCell ⟨y, 1, none⟩ a2).setCell ⟨y, 2, none⟩ a3).setCell ⟨y, 3, none⟩ a4).setCell ⟨y, 4, none⟩ a5).setCell ⟨y, 5, none⟩ a6).setCell ⟨y, 6, none⟩ a7).setCell ⟨z, 0, none⟩ b0).setCell ⟨z, 1, none⟩ b1).setCell ⟨z, 2, none⟩ b2) := by
  have t2 : Turn (fun j => j = y) U (((((((U.setCell ⟨y, 0, none⟩ a1).setCell ⟨y, 1, none⟩ a2).setCell ⟨y, 2, none⟩ a3).setCell ⟨y, 3, none⟩ a4).setCell ⟨y, 4, none⟩ a5).setCell ⟨y, 5, none⟩ a6).setCell ⟨y, 6, none⟩ a7) :=
    (((((((Turn.refl (fun j => j = y) U).put (fun _ => rfl) 0 _).put (fun _ => rfl) 1 _).put (fun _ => rfl) 2 _).put (fun _ => rfl) 3 _).put (fun _ => rfl) 4 _).put (fun _ => rfl) 5 _).put (fun _ => rfl) 6 _
  have h2 := h1.turned hy1 t2 wy (by decide) (by decide) (by decide) (by decide) (by decide) (by decide)
  have hy2 : Has (((((((U.setCell ⟨y, 0, none⟩ a1).setCell ⟨y, 1, none⟩ a2).setCell ⟨y, 2, none⟩ a3).setCell ⟨y, 3, none⟩ a4).setCell ⟨y, 4, none⟩ a5).setCell ⟨y, 5, none⟩ a6).setCell ⟨y, 6, none⟩ a7) y 33 #[a1, a2, a3, a4, a5, a6, a7] := by simpa using ((((((hy1.put 0 a1).put 1 a2).put 2 a3).put 3 a4).put 4 a5).put 5 a6).put 6 a7
  have hz2 := hz1.turn t2 yz
  generalize (((((((U.setCell ⟨y, 0, none⟩ a1).setCell ⟨y, 1, none⟩ a2).setCell ⟨y, 2, none⟩ a3).setCell ⟨y, 3, none⟩ a4).setCell ⟨y, 4, none⟩ a5).setCell ⟨y, 5, none⟩ a6).setCell ⟨y, 6, none⟩ a7) = U2 at *
  have t3 : Turn (fun j => j = z) U2 (((U2.setCell ⟨z, 0, none⟩ b0).setCell ⟨z, 1, none⟩ b1).setCell ⟨z, 2, none⟩ b2) := (((Turn.refl (fun j => j = z) U2).put (fun _ => rfl) 0 _).put (fun _ => rfl) 1 _).put (fun _ => rfl) 2 _
  exact ⟨h2.turned hz2 t3 wz (by decide) (by decide) (by decide) (by decide) (by decide) (by decide), hy2.turn t3 (fun e => yz e.symm), by simpa using ((hz2.put 0 b0).put 1 b1).put 2 b2, (t2.more (fun j _ e => .inl e)).trans t3 (fun j _ e => .inr e)⟩

set_option maxRecDepth 100000 in
set_option maxHeartbeats 4000000 in
theorem does_step {w V : World} {P L K d c m : Nat} {A : Ab} {B : Nat → Nat} {O : Nat → ByteArray} {l s v p : Value} (h : Sd w P L P A K d c m B O l s v p V) (hP0 : 0 < P) (hP : P ≤ 5) (hL : L ≤ 20) (who : Int) (body : ByteArray) (i : Nat) (hi : ((i : Nat) : Int) = (who % 256).tmod P) (hiP : i < P) (hK : K ≤ 900000) :
    Calls Try.prog 9 #[.agg (stC P L d l s v p), .agg #[.int .i64 1, .int .i64 who, .string body]] V (DoPost w V P L (K + 1) d c m (prc.step P L A i).1 B l (prc.step P L A i).2) := by
  have a0 := mask255 who
  generalize who % 256 = n2 at *
  have a1 : n2.tmod (P : Int) = (i : Int) := hi.symm
  obtain ⟨gl, ol, cl, rfl⟩ := h.tl (by omega)
  obtain ⟨g, o, cq, rfl, hg, q0, q1, q2, q3, q4, q5⟩ := h.dw.proc hiP
  obtain ⟨gs, os, cs, rfl⟩ := h.dw.ts
  obtain ⟨gv, ov, cv, rfl⟩ := h.dw.tw
  obtain ⟨gl', ol', cl', e, hgl, -, -, hc⟩ := h.ls.cells hP0
  obtain ⟨rfl, rfl⟩ : gl = gl' ∧ ol = ol' := by injection e with e1 e2 e3; injection e1 with e1; injection e1 with e1 e4; exact ⟨e1, e4⟩
  have ci := hc i _ (ptrs_at B hiP)
  have g0 : (0 : Int) ≤ (i : Int) := by omega
  have g1 : (i : Int) < (P : Int) := by omega
  have g2 : ¬ (P : Int) = 0 := by omega
  have g3 : ((P : Int) == 0) = false := by simpa using g2
  have g4 : ¬ P = 0 := by omega
  have H := Lib.hid h
  have HB := Lib.hid (And.intro hP0 (And.intro hP (And.intro hL hiP)))
  have HK := Lib.hid hK
  clear hK
  have z0 : g < V.heap.size + 1 := by omega
  have z1 : g < V.heap.size + 1 + 1 := by omega
  have z2 : g < V.heap.size + 1 + 1 + 1 := by omega
  have y0 : gl < V.heap.size + 1 := by omega
  have y1 : gl < V.heap.size + 1 + 1 := by omega
  have y2 : gl < V.heap.size + 1 + 1 + 1 := by omega
  clear h e hc hi hP0 hP hL hiP q1 q2 q3 q4 q5
  go_enter Try.func9, Try.ntmps9
  have HBI : Hid (B i < V.heap.size ∧ w.heap.size ≤ V.heap.size) := Lib.hid (by
    obtain ⟨y, hy, _⟩ := H.out.sys.pr i HB.out.2.2.2
    exact ⟨Has.lt hy, H.out.sys.turn.size⟩)
  obtain ⟨dn, hdn⟩ : ∃ dn, (prc.step P L A i).2.done = dn := ⟨_, rfl⟩
  obtain ⟨fl, hfl⟩ : ∃ fl, (prc.step P L A i).2.full = fl := ⟨_, rfl⟩
  obtain ⟨sl, hsl⟩ : ∃ sl : Int, ((prc.step P L A i).2.slot : Int) = sl := ⟨_, rfl⟩
  have HE := Lib.hid (And.intro hdn (And.intro hfl hsl))
  clear hdn hfl hsl
  go_wp2_with (first
    | (go_at_call 16; refine ((H.out.below (below4 V _ _ _ _)).stepSys HB.out.2.2.2 (by have := HB.out; omega) (by have := HB.out; omega) HK.out rfl HE.out.1 HE.out.2.1 HE.out.2.2).mono ?_; rintro en w6 ⟨rfl, hsh, t6⟩
       have S6 := Lib.hid hsh
       have N6 : Hid (∀ j, V.heap.size ≤ j → j < V.heap.size + 4 → ∀ (u : World) (tt : TypeId) (cc : Array Value), Has u j tt cc → u = ((((V.alloc (.cells (stC P L d (.slice (some ⟨gl, ol, none⟩) P cl) (.slice (some ⟨gs, os, none⟩) L cs) (.slice (some ⟨gv, ov, none⟩) P cv) (.slice (some ⟨g, o, none⟩) P cq)) 33)).alloc (.cells #[.int .i64 1, .int .i64 who, .string body] 36)).alloc (.cells stZ 33)).alloc (.cells #[.bool false, .bool false, .int .i64 0] 42)) → tt ≠ 102 → tt ≠ 99 → ¬ ((∃ i, i < P ∧ j = B i) ∨ Mb d c m j)) := Lib.hid (by
         intro j hj1 hj2 u tt cc hh hu n1 n2 hf
         subst hu
         rcases hf with ⟨i2, hi2, rfl⟩ | hm
         · obtain ⟨y, hy, _⟩ := H.out.sys.pr i2 hi2
           have := Has.lt hy
           omega
         · exact (H.out.below (below4 V _ _ _ _)).sys.mm.ne hh n1 n2 hm)
       have K6 := Lib.hid (And.intro (((((Has.made V 33 (stC P L d (.slice (some ⟨gl, ol, none⟩) P cl) (.slice (some ⟨gs, os, none⟩) L cs) (.slice (some ⟨gv, ov, none⟩) P cv) (.slice (some ⟨g, o, none⟩) P cq))).alloc _).alloc _).alloc _).turn t6 (N6.out _ (by omega) (by omega) _ _ _ ((((Has.made V 33 _).alloc _).alloc _).alloc _) rfl (by decide) (by decide))) (And.intro (((made_at (g := V.heap.size + 1 + 1) 33 stZ (by simp)).alloc _).turn t6 (N6.out _ (by omega) (by omega) _ _ _ ((made_at (g := V.heap.size + 1 + 1) 33 stZ (by simp)).alloc _) rfl (by decide) (by decide))) ((made_at (g := V.heap.size + 1 + 1 + 1) 42 #[.bool false, .bool false, .int .i64 0] (by simp)).turn t6 (N6.out _ (by omega) (by omega) _ _ _ (made_at (g := V.heap.size + 1 + 1 + 1) 42 #[.bool false, .bool false, .int .i64 0] (by simp)) rfl (by decide) (by decide)))))
       have y4 := K6.out.1.cell 4
       have y5 := K6.out.1.cell 5
       have y6 := K6.out.1.cell 6
       have v6 : V.heap.size < w6.heap.size := K6.out.1.lt
       have T6 : Hid (Turn (fun j => (∃ i, i < P ∧ j = B i) ∨ Mb d c m j ∨ V.heap.size ≤ j) V w6) := Lib.hid ((Turn.of_below (below4 V _ _ _ _) (F := fun j => (∃ i, i < P ∧ j = B i) ∨ Mb d c m j ∨ V.heap.size ≤ j) (fun j _ e => .inr (.inr e))).trans t6 (fun j _ e => e.elim .inl (fun e => .inr (.inl e))))
       clear hsh t6 N6)
    | (go_at_call 38
       have hc := (S6.out.below ((Below.refl _ w6).alloc (Nat.le_refl _) (.cells #[.bool dn, .bool fl, .int .i64 sl] 42))).stepDoc HB.out.2.2.2 (by have := HB.out; omega) (by have := HB.out; omega)
       unfold ShPost at hc
       rw [HE.out.1, HE.out.2.1, HE.out.2.2] at hc
       refine hc.mono ?_
       rintro en w7 ⟨O7, s7, v7, p7, rfl, hsd, b7⟩
       clear hc y4 y5 y6
       obtain ⟨gs7, os7, cs7, rfl⟩ := hsd.dw.ts
       obtain ⟨gv7, ov7, cv7, rfl⟩ := hsd.dw.tw
       obtain ⟨gp7, op7, cp7, rfl⟩ := hsd.dw.tp
       have S7 := Lib.hid hsd
       have bb : Below w6.heap.size w6 w7 := ((Below.refl _ w6).alloc (Nat.le_refl _) _).trans (b7.mono (by simp))
       have K7 := Lib.hid (And.intro (K6.out.1.below bb K6.out.1.lt) (And.intro (K6.out.2.1.below bb K6.out.2.1.lt) (And.intro (K6.out.2.2.below bb K6.out.2.2.lt) ((Has.made w6 42 #[.bool dn, .bool fl, .int .i64 sl]).below b7 (by simp)))))
       have T7 := Lib.hid (T6.out.trans (Turn.of_below bb (F := fun j => w6.heap.size ≤ j) (fun _ _ e => e)) (fun j _ e => .inr (.inr (Nat.le_trans T6.out.size e))))
       have y0 := K7.out.1.cell 0
       have r0 := K7.out.2.1.cell 0
       have rf0 := K7.out.2.1.free 0
       have y1 := K7.out.1.cell 1
       have r1 := K7.out.2.1.cell 1
       have rf1 := K7.out.2.1.free 1
       have y2 := K7.out.1.cell 2
       have r2 := K7.out.2.1.cell 2
       have rf2 := K7.out.2.1.free 2
       have y3 := K7.out.1.cell 3
       have r3 := K7.out.2.1.cell 3
       have rf3 := K7.out.2.1.free 3
       have y4 := K7.out.1.cell 4
       have r4 := K7.out.2.1.cell 4
       have rf4 := K7.out.2.1.free 4
       have y5 := K7.out.1.cell 5
       have r5 := K7.out.2.1.cell 5
       have rf5 := K7.out.2.1.free 5
       have y6 := K7.out.1.cell 6
       have r6 := K7.out.2.1.cell 6
       have rf6 := K7.out.2.1.free 6
       have yf4 := K7.out.1.free 4
       have yf5 := K7.out.1.free 5
       have yf6 := K7.out.1.free 6
       have x0 := K7.out.2.2.1.cell 0
       have xf0 := K7.out.2.2.1.free 0
       have e0 := K7.out.2.2.2.cell 0
       have x1 := K7.out.2.2.1.cell 1
       have xf1 := K7.out.2.2.1.free 1
       have e1 := K7.out.2.2.2.cell 1
       have x2 := K7.out.2.2.1.cell 2
       have xf2 := K7.out.2.2.1.free 2
       have e2 := K7.out.2.2.2.cell 2
       have l0 : V.heap.size < w7.heap.size := K7.out.1.lt
       have l2 : V.heap.size + 1 + 1 < w7.heap.size := K7.out.2.1.lt
       have l3 : V.heap.size + 1 + 1 + 1 < w7.heap.size := K7.out.2.2.1.lt
       have l6 : w6.heap.size < w7.heap.size := K7.out.2.2.2.lt
       have m0 : V.heap.size + 1 + 1 + 1 < w6.heap.size := K6.out.2.2.lt
       clear hsd b7 bb)
    | fail)
  go_name_world V9 h9
  have HQ : Hid (Sd w P L P (prc.step P L A i).1 (K + 1) d c m B O7 (.slice (some ⟨gl, ol, none⟩) P cl) (.slice (some ⟨gs7, os7, none⟩) L cs7) (.slice (some ⟨gv7, ov7, none⟩) P cv7) (.slice (some ⟨gp7, op7, none⟩) P cp7) V9 ∧
      Bz V.heap.size w6.heap.size (w7.heap.size + 1) (stC P L d (.slice (some ⟨gl, ol, none⟩) P cl) (.slice (some ⟨gs7, os7, none⟩) L cs7) (.slice (some ⟨gv7, ov7, none⟩) P cv7) (.slice (some ⟨gp7, op7, none⟩) P cp7)) #[.bool dn, .bool fl, .int .i64 sl] V9 ∧ Has V9 (V.heap.size + 1 + 1) 33 stZ ∧ Has V9 (V.heap.size + 1 + 1 + 1) 42 #[.bool false, .bool false, .int .i64 0] ∧ Turn (fun j => (∃ i, i < P ∧ j = B i) ∨ Mb d c m j ∨ V.heap.size ≤ j) V V9) := by
    rw [← h9]
    have hbi := HBI.out
    obtain ⟨q1, q2, q3⟩ := S7.out.put3 K7.out.1 (by omega)
    have k2 := K7.out.2.2.2.turn q3 (by omega)
    have k3 := K7.out.2.1.turn q3 (by omega)
    have k4 := K7.out.2.2.1.turn q3 (by omega)
    have t9 := T7.out.trans q3 (fun j _ e => .inr (.inr (by omega)))
    have hsz : ∀ (a b c : Value), (((w7.setCell ⟨V.heap.size, 4, none⟩ a).setCell ⟨V.heap.size, 5, none⟩ b).setCell ⟨V.heap.size, 6, none⟩ c).heap.size = w7.heap.size := fun a b c => by simp
    generalize hU : (((w7.setCell ⟨V.heap.size, 4, none⟩ (.slice (some ⟨gs7, os7, none⟩) L cs7)).setCell ⟨V.heap.size, 5, none⟩ (.slice (some ⟨gv7, ov7, none⟩) P cv7)).setCell ⟨V.heap.size, 6, none⟩ (.slice (some ⟨gp7, op7, none⟩) P cp7)) = U at *
    have hUs : U.heap.size = w7.heap.size := by rw [← hU]; exact hsz _ _ _
    have tt := (Turn.refl (fun j => w7.heap.size ≤ j) U).alloc (.cells #[.slice (some ⟨gs7, os7, none⟩) L cs7, .slice (some ⟨gv7, ov7, none⟩) P cv7, .slice (some ⟨gp7, op7, none⟩) P cp7] 31)
    have tt2 := tt.alloc (.cells #[.bool dn, .bool fl, .int .i64 sl] 89)
    have hv7 : V.heap.size ≤ w7.heap.size := T7.out.size
    exact Lib.hid ⟨(q1.alloc _).alloc _, ⟨(q2.alloc _).alloc _, (k2.alloc _).alloc _, by rw [← hUs]; exact Has.made1 U _ _ _⟩, (k3.alloc _).alloc _, (k4.alloc _).alloc _, t9.trans tt2 (fun j _ e => .inr (.inr (by omega)))⟩
  clear h9
  clear y0 y1 y2 y3 y4 y5 y6 yf4 yf5 yf6 r0 rf0 r1 rf1 r2 rf2 r3 rf3 r4 rf4 r5 rf5 r6 rf6 x0 xf0 e0 x1 xf1 e1 x2 xf2 e2 l0 l2 l3
  have hbz := HQ.out.2.1
  have HA : ∀ U, Bz V.heap.size w6.heap.size (w7.heap.size + 1) (stC P L d (.slice (some ⟨gl, ol, none⟩) P cl) (.slice (some ⟨gs7, os7, none⟩) L cs7) (.slice (some ⟨gv7, ov7, none⟩) P cv7) (.slice (some ⟨gp7, op7, none⟩) P cp7)) #[.bool dn, .bool fl, .int .i64 sl] U → (Bz V.heap.size w6.heap.size (w7.heap.size + 1) (stC P L d (.slice (some ⟨gl, ol, none⟩) P cl) (.slice (some ⟨gs7, os7, none⟩) L cs7) (.slice (some ⟨gv7, ov7, none⟩) P cv7) (.slice (some ⟨gp7, op7, none⟩) P cp7)) #[.bool dn, .bool fl, .int .i64 sl] U ∧ U.cell? ⟨V.heap.size, 0, none⟩ = some (.int .i64 P) ∧ U.cell? ⟨V.heap.size, 1, none⟩ = some (.int .i64 L) ∧ U.cell? ⟨V.heap.size, 2, none⟩ = some (.pointer (some ⟨d, 0, none⟩)) ∧ U.cell? ⟨V.heap.size, 3, none⟩ = some (.slice (some ⟨gl, ol, none⟩) P cl) ∧ U.cell? ⟨V.heap.size, 4, none⟩ = some (.slice (some ⟨gs7, os7, none⟩) L cs7) ∧ U.cell? ⟨V.heap.size, 5, none⟩ = some (.slice (some ⟨gv7, ov7, none⟩) P cv7) ∧ U.cell? ⟨V.heap.size, 6, none⟩ = some (.slice (some ⟨gp7, op7, none⟩) P cp7) ∧ U.cell? ⟨w6.heap.size, 0, none⟩ = some (.bool dn) ∧ U.cell? ⟨w6.heap.size, 1, none⟩ = some (.bool fl) ∧ U.cell? ⟨w6.heap.size, 2, none⟩ = some (.int .i64 sl) ∧ U.cell? ⟨w7.heap.size + 1, 0, none⟩ = some (.bool dn) ∧ U.cell? ⟨w7.heap.size + 1, 1, none⟩ = some (.bool fl) ∧ U.cell? ⟨w7.heap.size + 1, 2, none⟩ = some (.int .i64 sl)) := fun U h => ⟨h, h.hx.cell 0, h.hx.cell 1, h.hx.cell 2, h.hx.cell 3, h.hx.cell 4, h.hx.cell 5, h.hx.cell 6, h.he.cell 0, h.he.cell 1, h.he.cell 2, h.hf.cell 0, h.hf.cell 1, h.hf.cell 2⟩
  have HA2 := Lib.hid HA
  clear HA
  have y0 := HQ.out.2.2.1.cell 0
  have y1 := HQ.out.2.2.1.cell 1
  have y2 := HQ.out.2.2.1.cell 2
  have y3 := HQ.out.2.2.1.cell 3
  have y4 := HQ.out.2.2.1.cell 4
  have y5 := HQ.out.2.2.1.cell 5
  have y6 := HQ.out.2.2.1.cell 6
  have yf0 := HQ.out.2.2.1.free 0
  have yf1 := HQ.out.2.2.1.free 1
  have yf2 := HQ.out.2.2.1.free 2
  have yf3 := HQ.out.2.2.1.free 3
  have yf4 := HQ.out.2.2.1.free 4
  have yf5 := HQ.out.2.2.1.free 5
  have yf6 := HQ.out.2.2.1.free 6
  have x0 := HQ.out.2.2.2.1.cell 0
  have x1 := HQ.out.2.2.2.1.cell 1
  have x2 := HQ.out.2.2.2.1.cell 2
  have xf0 := HQ.out.2.2.2.1.free 0
  have xf1 := HQ.out.2.2.2.1.free 1
  have xf2 := HQ.out.2.2.2.1.free 2
  go_region_held3 (fun U => Bz V.heap.size w6.heap.size (w7.heap.size + 1) (stC P L d (.slice (some ⟨gl, ol, none⟩) P cl) (.slice (some ⟨gs7, os7, none⟩) L cs7) (.slice (some ⟨gv7, ov7, none⟩) P cv7) (.slice (some ⟨gp7, op7, none⟩) P cp7)) #[.bool dn, .bool fl, .int .i64 sl] U ∧ U.cell? ⟨V.heap.size, 0, none⟩ = some (.int .i64 P) ∧ U.cell? ⟨V.heap.size, 1, none⟩ = some (.int .i64 L) ∧ U.cell? ⟨V.heap.size, 2, none⟩ = some (.pointer (some ⟨d, 0, none⟩)) ∧ U.cell? ⟨V.heap.size, 3, none⟩ = some (.slice (some ⟨gl, ol, none⟩) P cl) ∧ U.cell? ⟨V.heap.size, 4, none⟩ = some (.slice (some ⟨gs7, os7, none⟩) L cs7) ∧ U.cell? ⟨V.heap.size, 5, none⟩ = some (.slice (some ⟨gv7, ov7, none⟩) P cv7) ∧ U.cell? ⟨V.heap.size, 6, none⟩ = some (.slice (some ⟨gp7, op7, none⟩) P cp7) ∧ U.cell? ⟨w6.heap.size, 0, none⟩ = some (.bool dn) ∧ U.cell? ⟨w6.heap.size, 1, none⟩ = some (.bool fl) ∧ U.cell? ⟨w6.heap.size, 2, none⟩ = some (.int .i64 sl) ∧ U.cell? ⟨w7.heap.size + 1, 0, none⟩ = some (.bool dn) ∧ U.cell? ⟨w7.heap.size + 1, 1, none⟩ = some (.bool fl) ∧ U.cell? ⟨w7.heap.size + 1, 2, none⟩ = some (.int .i64 sl))
    ((go_split_ands; exact HA2.out _ (by repeat (first | with_reducible assumption | with_reducible refine Bz.drew ?_ | with_reducible refine Bz.far ?_ (by omega) (by omega) (by omega) _ _))))
    (fail)
  all_goals
    go_wp2_with fail
    have hbi := HBI.out
    obtain ⟨hs, hy, hz, ht⟩ := HQ.out.1.put10 HQ.out.2.2.1 HQ.out.2.2.2.1 (by omega) (by omega) (by omega) (.int .i64 P) (.int .i64 L) (.pointer (some ⟨d, 0, none⟩)) (.slice (some ⟨gl, ol, none⟩) P cl) (.slice (some ⟨gs7, os7, none⟩) L cs7) (.slice (some ⟨gv7, ov7, none⟩) P cv7) (.slice (some ⟨gp7, op7, none⟩) P cp7) (.bool dn) (.bool fl) (.int .i64 sl)
    refine bodyPost_ret (res_does rfl _ _ (V.heap.size + 1 + 1) (V.heap.size + 1 + 1 + 1) _ _ _ _ _ _ _ _ _ _ true rfl rfl rfl hy.drew hz.drew) rfl ?_
    unfold DoPost
    rw [HE.out.1, HE.out.2.1, HE.out.2.2]
    exact ⟨O7, _, _, _, rfl, hs.drew, (HQ.out.2.2.2.2.trans ht (fun j _ e => .inr (.inr (by omega)))).drew⟩
end Go.Proofs.Ytbpcfkniflgmfaa.prc
end

section
/- Law 16's Does: a record begun. -/
namespace Go.Proofs.Ytbpcfkniflgmfaa.prc
open Go Go.RowKit

set_option maxRecDepth 100000 in
set_option maxHeartbeats 4000000 in
theorem does_begin {w V : World} {P L K d c m : Nat} {A : Ab} {B : Nat → Nat} {O : Nat → ByteArray} {l s v p : Value} (h : Sd w P L P A K d c m B O l s v p V) (hP0 : 0 < P) (hP : P ≤ 5) (hL : L ≤ 20) (who : Int) (body : ByteArray) (i : Nat) (hi : ((i : Nat) : Int) = (who % 256).tmod P) (hiP : i < P) (hb : (A.X i).next = 0) (hs : body.size ≤ maxLen) (hK : K ≤ 900000) :
    Calls Try.prog 9 #[.agg (stC P L d l s v p), .agg #[.int .i64 2, .int .i64 who, .string body]] V (DoPost w V P L (K + 1) d c m (begins A i (body.extract 0 20)) B l nope) := by
  have a0 := mask255 who
  generalize who % 256 = n2 at *
  have a1 : n2.tmod (P : Int) = (i : Int) := hi.symm
  obtain ⟨gl, ol, cl, rfl⟩ := h.tl (by omega)
  obtain ⟨g, o, cq, rfl, hg, q0, q1, q2, q3, q4, q5⟩ := h.dw.proc hiP
  obtain ⟨gs, os, cs, rfl⟩ := h.dw.ts
  obtain ⟨gv, ov, cv, rfl⟩ := h.dw.tw
  obtain ⟨gl', ol', cl', e, hgl, -, -, hc⟩ := h.ls.cells hP0
  obtain ⟨rfl, rfl⟩ : gl = gl' ∧ ol = ol' := by injection e with e1 e2 e3; injection e1 with e1; injection e1 with e1 e4; exact ⟨e1, e4⟩
  have ci := hc i _ (ptrs_at B hiP)
  have g0 : (0 : Int) ≤ (i : Int) := by omega
  have g1 : (i : Int) < (P : Int) := by omega
  have g2 : ¬ (P : Int) = 0 := by omega
  have g3 : ((P : Int) == 0) = false := by simpa using g2
  have g4 : ¬ P = 0 := by omega
  have hbi : ((A.X i).next : Int) = 0 := by omega
  rw [hbi] at q0
  have H := Lib.hid h
  have HB := Lib.hid (And.intro hP0 (And.intro hP (And.intro hL hiP)))
  have HX := Lib.hid hb
  have HS := Lib.hid hs
  have HK := Lib.hid hK
  have HT : Hid ((body.extract 0 20).size ≤ 1024) := Lib.hid (by rw [ByteArray.size_extract]; omega)
  clear hs hK
  clear hb hbi
  have z0 : g < V.heap.size + 1 := by omega
  have z1 : g < V.heap.size + 1 + 1 := by omega
  have z2 : g < V.heap.size + 1 + 1 + 1 := by omega
  have y0 : gl < V.heap.size + 1 := by omega
  have y1 : gl < V.heap.size + 1 + 1 := by omega
  have y2 : gl < V.heap.size + 1 + 1 + 1 := by omega
  clear h e hc hi hP0 hP hL hiP q1 q2 q3 q4 q5
  go_enter Try.func9, Try.ntmps9
  have HBI : Hid (B i < V.heap.size ∧ w.heap.size ≤ V.heap.size) := Lib.hid (by
    obtain ⟨y, hy, _⟩ := H.out.sys.pr i HB.out.2.2.2
    exact ⟨Has.lt hy, H.out.sys.turn.size⟩)
  go_wp2_with (first
    | (go_at_call 28; refine (cel.cut_calls body 20 _ (by decide) HS.out).mono ?_; rintro en w5 ⟨rfl, rfl⟩)
    | (go_at_call 36; refine ((H.out.below (below4 V _ _ _ _)).beginSys HB.out.2.2.2 (by have := HB.out; omega) HX.out HK.out _ HT.out).mono ?_; rintro en w6 ⟨rfl, hsh, t6⟩
       have S6 := Lib.hid hsh
       have K6 := Lib.hid (And.intro (((((Has.made V 33 (stC P L d (.slice (some ⟨gl, ol, none⟩) P cl) (.slice (some ⟨gs, os, none⟩) L cs) (.slice (some ⟨gv, ov, none⟩) P cv) (.slice (some ⟨g, o, none⟩) P cq))).alloc _).alloc _).alloc _).turn t6 (by have := HBI.out; omega)) (And.intro (((made_at (g := V.heap.size + 1 + 1) 33 stZ (by simp)).alloc _).turn t6 (by have := HBI.out; omega)) ((made_at (g := V.heap.size + 1 + 1 + 1) 42 #[.bool false, .bool false, .int .i64 0] (by simp)).turn t6 (by have := HBI.out; omega))))
       have y4 := K6.out.1.cell 4
       have y5 := K6.out.1.cell 5
       have y6 := K6.out.1.cell 6
       have T6 : Hid (Turn (fun j => (∃ i, i < P ∧ j = B i) ∨ Mb d c m j ∨ V.heap.size ≤ j) V w6) := Lib.hid ((Turn.of_below (below4 V _ _ _ _) (F := fun j => (∃ i, i < P ∧ j = B i) ∨ Mb d c m j ∨ V.heap.size ≤ j) (fun j _ e => .inr (.inr e))).trans t6 (fun j _ e => .inl ⟨i, HB.out.2.2.2, e⟩))
       clear hsh t6)
    | (go_at_call 39; refine (S6.out.beginDoc HB.out.2.2.2 (by have := HB.out; omega) (by have := H.out.sq i; have := HK.out; omega)).mono ?_; rintro en w7 ⟨O7, s7, v7, p7, rfl, hsd, b7⟩
       clear y4 y5 y6
       obtain ⟨gs7, os7, cs7, rfl⟩ := hsd.dw.ts
       obtain ⟨gv7, ov7, cv7, rfl⟩ := hsd.dw.tw
       obtain ⟨gp7, op7, cp7, rfl⟩ := hsd.dw.tp
       have S7 := Lib.hid hsd
       have K7 := Lib.hid (And.intro (K6.out.1.below b7 K6.out.1.lt) (And.intro (K6.out.2.1.below b7 K6.out.2.1.lt) (K6.out.2.2.below b7 K6.out.2.2.lt)))
       have y0 := K7.out.1.cell 0
       have r0 := K7.out.2.1.cell 0
       have rf0 := K7.out.2.1.free 0
       have y1 := K7.out.1.cell 1
       have r1 := K7.out.2.1.cell 1
       have rf1 := K7.out.2.1.free 1
       have y2 := K7.out.1.cell 2
       have r2 := K7.out.2.1.cell 2
       have rf2 := K7.out.2.1.free 2
       have y3 := K7.out.1.cell 3
       have r3 := K7.out.2.1.cell 3
       have rf3 := K7.out.2.1.free 3
       have y4 := K7.out.1.cell 4
       have r4 := K7.out.2.1.cell 4
       have rf4 := K7.out.2.1.free 4
       have y5 := K7.out.1.cell 5
       have r5 := K7.out.2.1.cell 5
       have rf5 := K7.out.2.1.free 5
       have y6 := K7.out.1.cell 6
       have r6 := K7.out.2.1.cell 6
       have rf6 := K7.out.2.1.free 6
       have yf4 := K7.out.1.free 4
       have yf5 := K7.out.1.free 5
       have yf6 := K7.out.1.free 6
       have e0 := K7.out.2.2.cell 0
       have ef0 := K7.out.2.2.free 0
       have e1 := K7.out.2.2.cell 1
       have ef1 := K7.out.2.2.free 1
       have e2 := K7.out.2.2.cell 2
       have ef2 := K7.out.2.2.free 2
       have T7 := Lib.hid (T6.out.trans (Turn.of_below b7 (F := fun j => w6.heap.size ≤ j) (fun _ _ e => e)) (fun j _ e => .inr (.inr (Nat.le_trans T6.out.size e))))
       clear hsd b7)
    | fail)
  have hbi := HBI.out
  obtain ⟨hs, hy, hz, ht⟩ := S7.out.stored K7.out.1 K7.out.2.1 K7.out.2.2 (by omega) (by omega) (by omega) (by omega) (by omega) (by omega) (.int .i64 P) (.int .i64 L) (.pointer (some ⟨d, 0, none⟩)) (.slice (some ⟨gl, ol, none⟩) P cl) (.slice (some ⟨gs7, os7, none⟩) L cs7) (.slice (some ⟨gv7, ov7, none⟩) P cv7) (.slice (some ⟨gp7, op7, none⟩) P cp7) (.bool false) (.bool false) (.int .i64 0)
  exact bodyPost_ret (res_does rfl _ _ (V.heap.size + 1 + 1) (V.heap.size + 1 + 1 + 1) _ _ _ _ _ _ _ _ _ _ true rfl rfl rfl hy hz) rfl ⟨O7, _, _, _, rfl, hs, T7.out.trans ht (fun j _ e => .inr (.inr (by omega)))⟩
end Go.Proofs.Ytbpcfkniflgmfaa.prc
end

section
/- Law 16's Does whole. -/
namespace Go.Proofs.Ytbpcfkniflgmfaa.prc
open Go Go.RowKit

/-- What an act makes of the abstract world. -/
def doAb (P L : Nat) (A : Ab) (kind : Int) (i : Nat) (body : ByteArray) : Ab × En :=
  if kind = 1 then prc.step P L A i
  else if kind = 2 ∧ (A.X i).next = 0 then (begins A i (body.extract 0 20), nope)
  else if kind = 3 ∧ (A.X i).next = 0 then (begHead A i, nope)
  else (A, nope)

section
variable {w V V' : World} {P L q K d c m : Nat} {A : Ab} {B : Nat → Nat} {O : Nat → ByteArray} {l s v p : Value}

theorem Sd.later (h : Sd w P L q A K d c m B O l s v p V) : Sd w P L q A (K + 1) d c m B O l s v p V :=
  ⟨h.sys.later, h.good, fun i => Nat.le_succ_of_le (h.sq i), h.ls, h.tl, h.lo, h.dw⟩

theorem stays {en : Ending} (h : en = .returned (.tuple #[.agg (stC P L d l s v p), .agg #[.bool false, .bool false, .int .i64 0], .bool true]) ∧ Sd w P L P A K d c m B O l s v p V' ∧ Below V.heap.size V V') : DoPost w V P L (K + 1) d c m A B l nope en V' :=
  ⟨O, s, v, p, h.1, h.2.1.later, Turn.of_below h.2.2 (F := fun j => (∃ i, i < P ∧ j = B i) ∨ Mb d c m j ∨ V.heap.size ≤ j) (fun _ _ e => .inr (.inr e))⟩

theorem Sd.does (h : Sd w P L P A K d c m B O l s v p V) (hP0 : 0 < P) (hP : P ≤ 5) (hL : L ≤ 20) (hK : K ≤ 900000) (kind who : Int) (body : ByteArray) (hs : body.size ≤ maxLen) (i : Nat) (hi : ((i : Nat) : Int) = (who % 256).tmod P) (hiP : i < P) :
    Calls Try.prog 9 #[.agg (stC P L d l s v p), .agg #[.int .i64 kind, .int .i64 who, .string body]] V (DoPost w V P L (K + 1) d c m (doAb P L A kind i body).1 B l (doAb P L A kind i body).2) := by
  have hu : ∀ j : Nat, ((j : Nat) : Int) = (who % 256).tmod P → j = i := fun j hj => by omega
  by_cases h1 : kind = 1
  · subst h1
    have e : doAb P L A 1 i body = prc.step P L A i := if_pos rfl
    rw [e]
    exact does_step h hP0 hP hL who body i hi hiP hK
  · by_cases h2 : kind = 2
    · subst h2
      by_cases h0 : (A.X i).next = 0
      · have e : doAb P L A 2 i body = (begins A i (body.extract 0 20), nope) := by unfold doAb; rw [if_neg (by decide), if_pos ⟨rfl, h0⟩]
        rw [e]
        exact does_begin h hP0 hP hL who body i hi hiP h0 hs hK
      · have e : doAb P L A 2 i body = (A, nope) := by unfold doAb; rw [if_neg (by decide), if_neg (fun h => h0 h.2), if_neg (fun h => h0 h.2)]
        rw [e]
        exact (does_begin_busy h hP0 hP hL who body hs (fun j hj => by rw [hu j hj]; exact h0)).mono fun _ _ h => stays h
    · by_cases h3 : kind = 3
      · subst h3
        by_cases h0 : (A.X i).next = 0
        · have e : doAb P L A 3 i body = (begHead A i, nope) := by unfold doAb; rw [if_neg (by decide), if_neg (fun h => h2 h.1), if_pos ⟨rfl, h0⟩]
          rw [e]
          exact does_head h hP0 hP hL who body i hi hiP h0
        · have e : doAb P L A 3 i body = (A, nope) := by unfold doAb; rw [if_neg (by decide), if_neg (fun h => h2 h.1), if_neg (fun h => h0 h.2)]
          rw [e]
          exact (does_head_busy h hP0 hP hL who body (fun j hj => by rw [hu j hj]; exact h0)).mono fun _ _ h => stays h
      · have e : doAb P L A kind i body = (A, nope) := by unfold doAb; rw [if_neg h1, if_neg (fun h => h2 h.1), if_neg (fun h => h3 h.1)]
        rw [e]
        exact (does_other h hP0 hP hL kind who body h1 h2 h3).mono fun _ _ h => stays h
end
end Go.Proofs.Ytbpcfkniflgmfaa.prc
end

section
/- proc: what acts keep: who is done, how many steps are left, who is helped. Of no program but its records' bytes. -/
namespace Go.Proofs.Ytbpcfkniflgmfaa.prc
open Go Go.RowKit

section
variable {P L D : Nat} {A : Ab} {i : Nat} {kind : Int} {body : ByteArray}

theorem begins_at (A : Ab) (i : Nat) (s : ByteArray) : ((begins A i s).X i) = { A.X i with next := 1, seq := (A.X i).seq + 1, body := s } := up_same _ _ _
theorem begHead_at (A : Ab) (i : Nat) : ((begHead A i).X i) = { A.X i with next := 5 } := up_same _ _ _

theorem doAb_other {j : Nat} (hj : j ≠ i) : (doAb P L A kind i body).1.X j = A.X j := by
  unfold doAb
  split
  · exact step_other hj
  · split
    · exact up_other _ _ hj
    · split
      · exact up_other _ _ hj
      · rfl

/-- How something ended. -/
structure Ended (P L : Nat) (A A' : Ab) (e : En) (i : Nat) : Prop where
  head : (A.X i).next = 5 → e.full = false ∧ e.slot ≤ L ∧ (e.slot < L → A'.S e.slot = none)
  full : (A.X i).next ≠ 5 → e.full = true → 0 < L → A'.S (L - 1) ≠ none
  mine : (A.X i).next ≠ 5 → e.full = false → e.slot < L ∧ A'.S e.slot = some (prc.mine A i)

theorem sees_ended (h : Inv P L D A) {r : Rc} (hr : A.S (A.X i).at_ = some r) (h5 : (A.X i).next ≠ 5) (hd : (prc.sees L A i r).2.done = true) : Ended P L A (prc.sees L A i r).1 (prc.sees L A i r).2 i := by
  have hlt : (A.X i).at_ < D := (h.pre _).1 (by rw [hr]; intro e; cases e)
  have hLD := h.d
  by_cases hm : r = prc.mine A i
  · have e : prc.sees L A i r = (put A i { A.X i with next := 0, at_ := (A.X i).at_ + 1 }, ⟨true, false, (A.X i).at_⟩) := by unfold prc.sees; rw [if_pos hm]
    rw [e]
    subst hm
    exact ⟨fun e => absurd e h5, fun _ hf => (by cases hf), fun _ _ => ⟨by show (A.X i).at_ < L; omega, hr⟩⟩
  · by_cases hl : L ≤ (A.X i).at_ + 1
    · have e : prc.sees L A i r = (put A i { A.X i with next := 0, at_ := (A.X i).at_ + 1 }, ⟨true, true, 0⟩) := by unfold prc.sees; rw [if_neg hm, if_pos hl]
      rw [e]
      refine ⟨fun e => absurd e h5, fun _ _ h0 => ?_, fun _ hf => (by cases hf)⟩
      show A.S (L - 1) ≠ none
      exact (h.pre _).2 (by omega)
    · have e : prc.sees L A i r = (put A i { A.X i with next := 2, at_ := (A.X i).at_ + 1 }, nope) := by unfold prc.sees; rw [if_neg hm, if_neg hl]
      rw [e] at hd
      cases hd

theorem step_ended (h : Inv P L D A) (hd : (prc.step P L A i).2.done = true) : Ended P L A (prc.step P L A i).1 (prc.step P L A i).2 i := by
  have hLD := h.d
  have hseen := h.seen i
  rcases (show (A.X i).next = 1 ∨ (A.X i).next = 2 ∨ (A.X i).next = 3 ∨ (A.X i).next = 4 ∨ (A.X i).next = 5 ∨ ((A.X i).next ≠ 1 ∧ (A.X i).next ≠ 2 ∧ (A.X i).next ≠ 3 ∧ (A.X i).next ≠ 4 ∧ (A.X i).next ≠ 5) by omega) with e | e | e | e | e | e
  · have hst : prc.step P L A i = prc.wishes L A i := by unfold prc.step; rw [e]; rfl
    rw [hst] at hd ⊢
    unfold prc.wishes at hd ⊢
    split
    · rename_i hl
      refine ⟨fun e5 => absurd e5 (by omega), fun _ _ h0 => ?_, fun _ hf => (by cases hf)⟩
      show A.S (L - 1) ≠ none
      exact (h.pre _).2 (by omega)
    · rename_i hl
      rw [if_neg hl] at hd
      cases hd
  · have hst : prc.step P L A i = prc.looks L A i := by unfold prc.step; rw [e]; rfl
    rw [hst] at hd ⊢
    unfold prc.looks at hd ⊢
    cases hS : A.S (A.X i).at_ with
    | none => rw [hS] at hd; cases hd
    | some r => rw [hS] at hd; exact sees_ended h hS (by omega) hd
  · have hst : prc.step P L A i = prc.helps P A i := by unfold prc.step; rw [e]; rfl
    rw [hst] at hd
    cases hd
  · have hst : prc.step P L A i = prc.decides L A i := by unfold prc.step; rw [e]; rfl
    rw [hst] at hd ⊢
    unfold prc.decides at hd ⊢
    cases hS : A.S (A.X i).at_ with
    | none =>
      rw [hS] at hd
      obtain ⟨hD, h'⟩ := h.swapped hS e
      have h2 : Ended P L { A with S := up A.S (A.X i).at_ (some (A.X i).offer) } _ _ i := sees_ended h' (r := (A.X i).offer) (up_same _ _ _) (by show (A.X i).next ≠ 5; omega) hd
      exact ⟨h2.head, h2.full, h2.mine⟩
    | some r => rw [hS] at hd; exact sees_ended h hS (by omega) hd
  · have hst : prc.step P L A i = prc.heads L A i := by unfold prc.step; rw [e]; rfl
    rw [hst] at hd ⊢
    unfold prc.heads at hd ⊢
    split
    · rename_i hl
      refine ⟨fun _ => ⟨rfl, by show (A.X i).at_ ≤ L; omega, fun h1 => ?_⟩, fun e5 => absurd e e5, fun e5 => absurd e e5⟩
      have h1' : (A.X i).at_ < L := h1
      rcases hl with hl | hl
      · omega
      · exact hl
    · rename_i hl
      rw [if_neg hl] at hd
      cases hd
  · have hst : prc.step P L A i = (A, nope) := by
      unfold prc.step
      split
      · rename_i q; exact absurd q e.1
      · rename_i q; exact absurd q e.2.1
      · rename_i q; exact absurd q e.2.2.1
      · rename_i q; exact absurd q e.2.2.2.1
      · rename_i q; exact absurd q e.2.2.2.2
      · rfl
    rw [hst] at hd
    cases hd

theorem doAb_ended (h : Inv P L D A) (hd : (doAb P L A kind i body).2.done = true) : Ended P L A (doAb P L A kind i body).1 (doAb P L A kind i body).2 i := by
  unfold doAb at hd ⊢
  split
  · rename_i e
    rw [if_pos e] at hd
    exact step_ended h hd
  · rename_i e
    rw [if_neg e] at hd
    exfalso
    revert hd
    split
    · intro hd; cases hd
    · split <;> (intro hd; cases hd)

/-- How many steps are left behind an act, and whether it is done. -/
theorem doAb_rem (h : Good P L A) : (if (A.X i).next = 0 then rem L ((doAb P L A kind i body).1.X i) ≤ 1 + 3 * L ∧ (doAb P L A kind i body).2.done = false
    else (doAb P L A kind i body).2.done = decide (((doAb P L A kind i body).1.X i).next = 0) ∧ rem L ((doAb P L A kind i body).1.X i) + (if kind = 1 then 1 else 0) ≤ rem L (A.X i)) := by
  obtain ⟨D, hI⟩ := h.inv
  split
  · rename_i h0
    unfold doAb
    split
    · rw [step_idle h0]
      exact ⟨by show rem L (A.X i) ≤ _; rw [rem0 _ h0]; omega, rfl⟩
    · split
      · refine ⟨?_, rfl⟩
        show rem L ((begins A i (body.extract 0 20)).X i) ≤ _
        rw [begins_at, rem1 _ rfl]
        show 1 + 3 * (L - (A.X i).at_) ≤ _
        omega
      · split
        · refine ⟨?_, rfl⟩
          show rem L ((begHead A i).X i) ≤ _
          rw [begHead_at, rem5 _ rfl]
          show L - (A.X i).at_ + 1 ≤ _
          omega
        · exact ⟨by show rem L (A.X i) ≤ _; rw [rem0 _ h0]; omega, rfl⟩
  · rename_i h0
    unfold doAb
    by_cases hk : kind = 1
    · rw [if_pos hk, if_pos hk]
      have := step_rem hI h0 (h.next i)
      exact ⟨this.2.1, this.1⟩
    · rw [if_neg hk, if_neg hk, if_neg (fun e => h0 e.2), if_neg (fun e => h0 e.2)]
      exact ⟨by show false = decide ((A.X i).next = 0); rw [decide_eq_false h0], Nat.le_refl _⟩

theorem Helped.act {k j q : Nat} (h : Inv P L D A) (hh : Helped P L k j i A) (hq : q ≠ i) : Helped P L k j i (doAb P L A kind q body).1 := by
  unfold doAb
  split
  · exact hh.step h hq
  · split
    · exact hh.begins hq _
    · split
      · exact hh.begHead hq
      · exact hh
end
end Go.Proofs.Ytbpcfkniflgmfaa.prc
end

section
/- proc: a map of numbers; a state in its box. -/
namespace Go.Proofs.Ytbpcfkniflgmfaa.prc
open Go Go.RowKit Go.Maps

/-- The map at block m, made since w, tells F; it has k keys at most. -/
structure Ct (w : World) (m : Nat) (F : Nat → Int) (k : Nat) (V : World) : Prop where
  map : ∃ D : DataW Unit, cel.Mp V m D ∧ (∀ i : Nat, cel.cnt D i = F i) ∧ Maps.size D ≤ k
  new : w.heap.size ≤ m

section
variable {w V V' : World} {m k : Nat} {F : Nat → Int}

theorem Ct.keep (h : Ct w m F k V) (e : V'.heap[m]? = V.heap[m]?) : Ct w m F k V' := by
  obtain ⟨D, h1, h2⟩ := h.map
  refine ⟨⟨D, ?_, h2⟩, h.new⟩
  obtain ⟨es, clock, hb, r⟩ := h1
  exact ⟨es, clock, e.trans hb, r⟩
theorem Ct.lt (h : Ct w m F k V) : m < V.heap.size := by obtain ⟨D, h1, _⟩ := h.map; exact cel.Mp.lt h1
theorem Ct.ne (h : Ct w m F k V) {d : Nat} {t : TypeId} {cs : Array Value} (hb : Has V d t cs) : m ≠ d := by obtain ⟨D, h1, _⟩ := h.map; exact cel.Mp.ne h1 hb
theorem Ct.below (h : Ct w m F k V) (hb : Below V.heap.size V V') : Ct w m F k V' := h.keep (hb.block m h.lt)
theorem Ct.drew (h : Ct w m F k V) : Ct w m F k V.drew := h.keep rfl
theorem Ct.drewN (h : Ct w m F k V) (n : Nat) : Ct w m F k (V.drewN n) := h.keep rfl
theorem Ct.turn {G : Nat → Prop} (h : Ct w m F k V) (t : Turn G V V') (hn : ¬ G m) : Ct w m F k V' := h.keep (t.block m h.lt hn)

theorem Ct.look (h : Ct w m F k V) (i : Nat) (hi : i ≤ 1000) {c : Int} (hc : F i = c) : (Instr.lookup 51 (.map (some m)) (.int .i64 i) false).run Try.prog V = .ok (.int .i64 c) V := by
  subst hc
  obtain ⟨D, h1, h2, _⟩ := h.map
  have hown : V.ownsMap Try.prog 3 (plainElem Try.prog 3) m (Maps.size D) D := h1
  obtain ⟨y, hlook, hat, _⟩ := World.ownsMap.lookup_int hown cel.intKeyed Try.underlying51 Try.underlying3 (cel.zeroInt V) (cel.kI_of (n := (i : Int)) ⟨by omega, by omega⟩)
  obtain rfl : y = F i := by rw [← h2]; exact (cel.cnt_of hat).symm
  exact hlook

set_option maxRecDepth 100000 in
theorem Ct.put (h : Ct w m F k V) (hk : k < 100000) (i : Nat) (hi : i ≤ 1000) (c : Int) (hc : cel.Fits c) : ∃ V', (Instr.mapUpdate 51 (.map (some m)) (.int .i64 i) (.int .i64 c)).run Try.prog V = .ok () V' ∧ Ct w m (up F i c) (k + 1) V' ∧ V.grownBy V' (some m) := by
  obtain ⟨D, h1, h2, h3⟩ := h.map
  have hown : V.ownsMap Try.prog 3 (plainElem Try.prog 3) m (Maps.size D) D := h1
  obtain ⟨V', hrun, hown', hturn⟩ := hown.store cel.intKeyed Try.underlying51 (by unfold maxLen; omega) (cel.kI_of (n := (i : Int)) ⟨by omega, by omega⟩) (plainElem_int Try.underlying3 (cel.wf64 hc))
  have ht : Tidy D := World.ownsMap.tidy hown cel.intKeyed
  refine ⟨V', hrun, ⟨⟨_, cel.tight hown', fun j => ?_, ?_⟩, h.new⟩, hturn.grown⟩
  · rw [cel.cnt_put ht.isMap]
    by_cases e : j = i
    · subst e; rw [if_pos rfl, up_same]
    · rw [if_neg (by omega), up_other _ _ e]; exact h2 j
  · rw [size_put ht]; split <;> omega

end

/-- What lasts in a law: the state, and its box x. -/
structure St (w : World) (P L : Nat) (A : Ab) (K d c m : Nat) (B : Nat → Nat) (O : Nat → ByteArray) (l s v p : Value) (x : Nat) (V : World) : Prop where
  sd : Sd w P L P A K d c m B O l s v p V
  bx : Has V x 33 (stC P L d l s v p)
  lo : w.heap.size ≤ x

section
variable {w V V' : World} {P L K d c m x : Nat} {A : Ab} {B : Nat → Nat} {O : Nat → ByteArray} {l s v p : Value}

theorem St.below (h : St w P L A K d c m B O l s v p x V) (hb : Below V.heap.size V V') : St w P L A K d c m B O l s v p x V' := ⟨h.sd.below hb, h.bx.below hb h.bx.lt, h.lo⟩
theorem St.drew (h : St w P L A K d c m B O l s v p x V) : St w P L A K d c m B O l s v p x V.drew := ⟨h.sd.drew, h.bx.drew, h.lo⟩
theorem St.alloc (h : St w P L A K d c m B O l s v p x V) (o : Obj) : St w P L A K d c m B O l s v p x (V.alloc o) := h.below ((Below.refl _ V).alloc (Nat.le_refl _) o)
theorem St.ends (h : St w P L A K d c m B O l s v p x V) : Below w.heap.size w V := h.sd.sys.ends

/-- No process, no block of the memory is one of another type. -/
theorem Sd.none_of (h : Sd w P L P A K d c m B O l s v p V) {y : Nat} {t : TypeId} {cs : Array Value} (hy : Has V y t cs) (h1 : t ≠ 102) (h2 : t ≠ 99) (h3 : 112 ≠ t) : ¬ ((∃ i, i < P ∧ y = B i) ∨ Mb d c m y ∨ V.heap.size ≤ y) := by
  rintro (⟨i, hi, rfl⟩ | hm | hl)
  · obtain ⟨z, hz, _⟩ := h.sys.pr i hi
    exact h3 ((Has.uniq hz hy).2)
  · exact h.sys.mm.ne hy h1 h2 hm
  · have := hy.lt; omega

/-- Behind an act: its box still holds the state of before. -/
theorem St.did (h : St w P L A K d c m B O l s v p x V) {A' : Ab} {e : En} {en : Ending} {K' : Nat} (hp : DoPost w V P L K' d c m A' B l e en V') :
    ∃ (O' : Nat → ByteArray) (s' v' p' : Value), en = .returned (.tuple #[.agg (stC P L d l s' v' p'), .agg #[.bool e.done, .bool e.full, .int .i64 e.slot], .bool true]) ∧ Sd w P L P A' K' d c m B O' l s' v' p' V' ∧ Has V' x 33 (stC P L d l s v p) ∧ Turn (fun j => (∃ i, i < P ∧ j = B i) ∨ Mb d c m j ∨ V.heap.size ≤ j) V V' := by
  obtain ⟨O', s', v', p', h1, h2, h3⟩ := hp
  exact ⟨O', s', v', p', h1, h2, h.bx.turn h3 (h.sd.none_of h.bx (by decide) (by decide) (by decide)), h3⟩

/-- The state is stored. -/
theorem Sd.boxed (h : Sd w P L P A K d c m B O l s v p V) {cs : Array Value} (hx : Has V x 33 cs) (hw : w.heap.size ≤ x) (hu : Has V' x 33 (stC P L d l s v p)) (t : Turn (fun j => j = x) V V') : St w P L A K d c m B O l s v p x V' :=
  ⟨h.turned hx t hw (by decide) (by decide) (by decide) (by decide) (by decide) (by decide), hu, hw⟩

theorem put7 {a b e f i j k a' b' e' f' i' j' k' : Value} (hx : Has V x 33 #[a, b, e, f, i, j, k]) :
    Has (((((((V.setCell ⟨x, 0, none⟩ a').setCell ⟨x, 1, none⟩ b').setCell ⟨x, 2, none⟩ e').setCell ⟨x, 3, none⟩ f').setCell ⟨x, 4, none⟩ i').setCell ⟨x, 5, none⟩ j').setCell ⟨x, 6, none⟩ k') x 33 #[a', b', e', f', i', j', k'] ∧
    Turn (fun j => j = x) V (((((((V.setCell ⟨x, 0, none⟩ a').setCell ⟨x, 1, none⟩ b').setCell ⟨x, 2, none⟩ e').setCell ⟨x, 3, none⟩ f').setCell ⟨x, 4, none⟩ i').setCell ⟨x, 5, none⟩ j').setCell ⟨x, 6, none⟩ k') :=
  ⟨by simpa using ((((((hx.put 0 a').put 1 b').put 2 e').put 3 f').put 4 i').put 5 j').put 6 k',
    (((((((Turn.refl (fun j => j = x) V).put (fun _ => rfl) 0 _).put (fun _ => rfl) 1 _).put (fun _ => rfl) 2 _).put (fun _ => rfl) 3 _).put (fun _ => rfl) 4 _).put (fun _ => rfl) 5 _).put (fun _ => rfl) 6 _⟩

theorem Sd.put7 (h : Sd w P L P A K d c m B O l s v p V) {a b e f i j k : Value} (hx : Has V x 33 #[a, b, e, f, i, j, k]) (hw : w.heap.size ≤ x) :
    St w P L A K d c m B O l s v p x (((((((V.setCell ⟨x, 0, none⟩ (.int .i64 P)).setCell ⟨x, 1, none⟩ (.int .i64 L)).setCell ⟨x, 2, none⟩ (.pointer (some ⟨d, 0, none⟩))).setCell ⟨x, 3, none⟩ l).setCell ⟨x, 4, none⟩ s).setCell ⟨x, 5, none⟩ v).setCell ⟨x, 6, none⟩ p) := by
  obtain ⟨h1, t1⟩ := prc.put7 (a' := .int .i64 P) (b' := .int .i64 L) (e' := .pointer (some ⟨d, 0, none⟩)) (f' := l) (i' := s) (j' := v) (k' := p) hx
  exact h.boxed hx hw h1 t1
end
end Go.Proofs.Ytbpcfkniflgmfaa.prc
end

