/- The document's Step. -/
import Derived.Test.YtbpcfkniflgmfaaYPrdF
namespace Go.Proofs.Ytbpcfkniflgmfaa.prc
open Go Go.RowKit

/-- Within Step: a world, two results, a process in blocks of its own. -/
structure Fz (W : World) (s v p : Value) (P L : Nat) (A : Ab) (O : Nat → ByteArray) (i : Nat) (n a q : Int) (b o : ByteArray) (V : World) : Prop where
  d : Dw V s v p P L A O
  w : Below W.heap.size W V
  k0 : Has V W.heap.size 31 #[s, v, p]
  k1 : Has V (W.heap.size + 1) 31 #[.slice none 0 0, .slice none 0 0, .slice none 0 0]
  k2 : Has V (W.heap.size + 1 + 1) 89 #[.bool false, .bool false, .int .i64 0]
  k3 : Has V (W.heap.size + 1 + 1 + 1) 40 #[.int .i64 n, .int .i64 a, .int .i64 i, .int .i64 q, .string b, .string o]
  lt : ∀ b, p.ownBlock = some b → b < W.heap.size
  ltv : ∀ b, v.ownBlock = some b → b < W.heap.size

section
variable {W V V' : World} {s v p : Value} {P L : Nat} {A : Ab} {O : Nat → ByteArray} {i : Nat} {n a q : Int} {b o : ByteArray}
theorem Fz.start (h : Dw W s v p P L A O) : Fz W s v p P L A O i n a q b o ((((W.alloc (.cells #[s, v, p] 31)).alloc (.cells #[.slice none 0 0, .slice none 0 0, .slice none 0 0] 31)).alloc (.cells #[.bool false, .bool false, .int .i64 0] 89)).alloc (.cells #[.int .i64 n, .int .i64 a, .int .i64 i, .int .i64 q, .string b, .string o] 40)) :=
  ⟨h.below (below4 W _ _ _ _), below4 W _ _ _ _, (((Has.made W 31 _).alloc _).alloc _).alloc _, ((made_at 31 _ (by simp)).alloc _).alloc _, (made_at 89 _ (by simp)).alloc _, made_at 40 _ (by simp), fun b hb => h.procs.lt hb, fun b hb => h.wish.lt hb⟩
theorem Fz.below (h : Fz W s v p P L A O i n a q b o V) (hb : Below V.heap.size V V') : Fz W s v p P L A O i n a q b o V' :=
  ⟨h.d.below hb, h.w.trans (hb.mono h.w.size), h.k0.below hb h.k0.lt, h.k1.below hb h.k1.lt, h.k2.below hb h.k2.lt, h.k3.below hb h.k3.lt, h.lt, h.ltv⟩
theorem Fz.drew (h : Fz W s v p P L A O i n a q b o V) : Fz W s v p P L A O i n a q b o V.drew := ⟨h.d.drew, h.w.drew, h.k0, h.k1, h.k2, h.k3, h.lt, h.ltv⟩
theorem Fz.zlt (h : Fz W s v p P L A O i n a q b o V) : W.heap.size + 1 + 1 + 1 < V.heap.size := h.k3.lt
theorem Fz.decided (h : Fz W s v p P L A O i n a q b o V) {g2 o2 c2 : Nat} (hS : Seg V 9 1 (.slice (some ⟨g2, o2, none⟩) L c2) L (rowS A.S L)) (hg : W.heap.size + 1 + 1 + 1 < g2) {j : Nat} (hj : j < L) (m : Rc) {tt : ByteArray} (ht : tt = tx m) :
    Fz W (.slice (some ⟨g2, o2, none⟩) L c2) v p P L { A with S := up A.S j (some m) } O i n a q b o ((V.setCell ⟨g2, o2 + j, none⟩ (.string tt)).setCell ⟨W.heap.size, 0, none⟩ (.slice (some ⟨g2, o2, none⟩) L c2)) := by
  have t1 : Turn (fun j => j = g2) V (V.setCell ⟨g2, o2 + j, none⟩ (.string tt)) := (Turn.refl (fun j => j = g2) V).put (fun _ => rfl) _ _
  have t2 : Turn (fun j => j = W.heap.size) (V.setCell ⟨g2, o2 + j, none⟩ (.string tt)) ((V.setCell ⟨g2, o2 + j, none⟩ (.string tt)).setCell ⟨W.heap.size, 0, none⟩ (.slice (some ⟨g2, o2, none⟩) L c2)) := (Turn.refl (fun j => j = W.heap.size) _).put (fun _ => rfl) 0 _
  have hS1 := hS.put j (.string tt)
  rw [ht, rowS_set A.S hj m, ← ht] at hS1
  have k0 := (h.k0.turn t1 (by omega)).put 0 (.slice (some ⟨g2, o2, none⟩) L c2)
  refine ⟨⟨hS1.turn t2 (fun b hb e => by have := own_of hb; omega), ⟨_, _, _, rfl⟩, (h.d.wish.turn t1 (fun b hb e => by have := h.ltv b hb; omega)).turn t2 (fun b hb e => by have := h.ltv b hb; omega), h.d.tw, (h.d.procs.turn t1 (fun b hb e => by have := h.lt b hb; omega)).turn t2 (fun b hb e => by have := h.lt b hb; omega), h.d.tp, h.d.off⟩, (h.w.setCell (by show W.heap.size ≤ g2; omega) _).setCell (Nat.le_refl _) _, by simpa using k0, (h.k1.turn t1 (by omega)).turn t2 (by omega), (h.k2.turn t1 (by omega)).turn t2 (by omega), (h.k3.turn t1 (by omega)).turn t2 (by omega), h.lt, h.ltv⟩
end

theorem Fit.setS {P : Nat} {A : Ab} (h : Fit P A) (k : Nat) (m : Rc) (hm : m.Fits) : Fit P { A with S := up A.S k (some m) } :=
  ⟨fun j r hr => by
    have hr' : up A.S k (some m) j = some r := hr
    by_cases e : j = k
    · subst e; rw [up_same] at hr'; injection hr' with hr'; rw [← hr']; exact hm
    · rw [up_other _ _ e] at hr'; exact h.slot j r hr', h.wish, h.mine, h.offer⟩

def DsPost (P L : Nat) (A : Ab) (e : En) (W : World) (en : Ending) (W' : World) : Prop := ∃ O, DePost P L A O e W en W'

set_option maxRecDepth 100000 in
set_option maxHeartbeats 4000000 in
theorem Dw.step_idle {W : World} {s v p : Value} {P L : Nat} {A : Ab} {O : Nat → ByteArray} (h : Dw W s v p P L A O) (hF : Fit P A) {i : Nat} (hi : i < P) (hP : P ≤ 64) (hL : L ≤ 256) (x : Pc) (hx : x = A.X i) (ha : x.at_ ≤ L) (hn : x.next = 0) :
    Calls Try.prog 38 #[.agg #[s, v, p], .int .i64 i] W (DsPost P L A nope W) := by
  obtain ⟨g, o, c, rfl, hg, q0, q1, q2, q3, q4, q5⟩ := h.proc hi
  rw [← hx] at q0 q1 q3 q4
  rw [hn] at q0
  have q0' : W.cell? ⟨g, o + i * 6, none⟩ = some (.int .i64 0) := q0
  obtain ⟨oi, hoi⟩ : ∃ oi, oi = O i := ⟨_, rfl⟩
  rw [← hoi] at q5
  have hni : (x.next : Int) = 0 := by rw [hn]; rfl
  obtain ⟨gs, os, cs, rfl⟩ := h.ts
  obtain ⟨gv, ov, cv, rfl⟩ := h.tw
  have H := Lib.hid h
  have HI := Lib.hid (And.intro hi (And.intro hP (And.intro hL (And.intro hx (And.intro hoi (And.intro hF (And.intro hn hni)))))))
  have HA := Lib.hid ha
  have hiP : (i : Int) < (P : Int) := by omega
  have h0i : (0 : Int) ≤ (i : Int) := by omega
  have hg1 : g < W.heap.size + 1 := by omega
  have hg2 : g < W.heap.size + 1 + 1 := by omega
  have hg3 : g < W.heap.size + 1 + 1 + 1 := by omega
  have hat : (x.at_ : Int) ≤ 256 := by omega
  have hat0 : (0 : Int) ≤ (x.at_ : Int) := by omega
  clear h hi hP hF hL hx hoi q0 hn hni ha
  go_enter Try.func38, Try.ntmps38
  go_wp2_with fail
  have h1 := (((made_at (w := W.alloc (.cells #[.slice (some ⟨gs, os, none⟩) L cs, .slice (some ⟨gv, ov, none⟩) P cv, .slice (some ⟨g, o, none⟩) P c] 31)) 31 #[.slice (some ⟨gs, os, none⟩) L cs, .slice (some ⟨gv, ov, none⟩) P cv, .slice (some ⟨g, o, none⟩) P c] (g := W.heap.size + 1) (by simp)).alloc (.cells #[.bool false, .bool false, .int .i64 0] 89)).alloc (.cells #[.int .i64 0, .int .i64 x.at_, .int .i64 i, .int .i64 x.seq, .string x.body, .string oi] 40))
  have h2 := ((made_at (w := (W.alloc (.cells #[.slice (some ⟨gs, os, none⟩) L cs, .slice (some ⟨gv, ov, none⟩) P cv, .slice (some ⟨g, o, none⟩) P c] 31)).alloc (.cells #[.slice (some ⟨gs, os, none⟩) L cs, .slice (some ⟨gv, ov, none⟩) P cv, .slice (some ⟨g, o, none⟩) P c] 31)) 89 #[.bool false, .bool false, .int .i64 0] (g := W.heap.size + 1 + 1) (by simp)).alloc (.cells #[.int .i64 0, .int .i64 x.at_, .int .i64 i, .int .i64 x.seq, .string x.body, .string oi] 40))
  exact bodyPost_ret (res_two rfl _ _ (W.heap.size + 1) (W.heap.size + 1 + 1) _ _ _ _ _ _ rfl rfl h1 h2) rfl ⟨O, _, _, _, rfl, H.out.below (below4 W _ _ _ _), below4 W _ _ _ _⟩

set_option maxRecDepth 100000 in
set_option maxHeartbeats 4000000 in
theorem Dw.step_wish {W : World} {s v p : Value} {P L : Nat} {A : Ab} {O : Nat → ByteArray} (h : Dw W s v p P L A O) (hF : Fit P A) {i : Nat} (hi : i < P) (hP : P ≤ 64) (hL : L ≤ 256) (x : Pc) (hx : x = A.X i) (ha : x.at_ ≤ L) (hn : x.next = 1) :
    Calls Try.prog 38 #[.agg #[s, v, p], .int .i64 i] W (DsPost P L (prc.wishes L A i).1 (prc.wishes L A i).2 W) := by
  obtain ⟨g, o, c, rfl, hg, q0, q1, q2, q3, q4, q5⟩ := h.proc hi
  rw [← hx] at q0 q1 q3 q4
  rw [hn] at q0
  have q0' : W.cell? ⟨g, o + i * 6, none⟩ = some (.int .i64 1) := q0
  obtain ⟨oi, hoi⟩ : ∃ oi, oi = O i := ⟨_, rfl⟩
  rw [← hoi] at q5
  have hni : (x.next : Int) = 1 := by rw [hn]; rfl
  obtain ⟨gs, os, cs, rfl⟩ := h.ts
  obtain ⟨gv, ov, cv, rfl⟩ := h.tw
  have H := Lib.hid h
  have HI := Lib.hid (And.intro hi (And.intro hP (And.intro hL (And.intro hx (And.intro hoi (And.intro hF (And.intro hn hni)))))))
  have HA := Lib.hid ha
  have hiP : (i : Int) < (P : Int) := by omega
  have h0i : (0 : Int) ≤ (i : Int) := by omega
  have hg1 : g < W.heap.size + 1 := by omega
  have hg2 : g < W.heap.size + 1 + 1 := by omega
  have hg3 : g < W.heap.size + 1 + 1 + 1 := by omega
  have hat : (x.at_ : Int) ≤ 256 := by omega
  have hat0 : (0 : Int) ≤ (x.at_ : Int) := by omega
  clear h hi hP hF hL hx hoi q0 hn hni ha
  go_enter Try.func38, Try.ntmps38
  go_wp2_with (first
    | (go_at_call 73
       have F0 := Lib.hid (Fz.start (i := i) (n := 1) (a := x.at_) (q := x.seq) (b := x.body) (o := oi) H.out)
       have hc := F0.out.d.wishes HI.out.2.2.2.2.2.1 HI.out.1 HI.out.2.1 x HI.out.2.2.2.1 oi
       rw [HI.out.2.2.2.2.2.2.2] at hc
       refine hc.mono ?_
       clear hc
       rintro en w5 ⟨s5, v5, p5, rfl, d5, b5⟩
       obtain ⟨gs5, os5, cs5, rfl⟩ := d5.ts
       obtain ⟨gv5, ov5, cv5, rfl⟩ := d5.tw
       obtain ⟨gp5, op5, cp5, rfl⟩ := d5.tp
       have D5 := Lib.hid d5
       have F8 := Lib.hid (F0.out.below b5)
       have n0 := F8.out.k1.cell 0
       have n1 := F8.out.k1.cell 1
       have n2 := F8.out.k1.cell 2
       have nf0 := F8.out.k1.free 0
       have nf1 := F8.out.k1.free 1
       have nf2 := F8.out.k1.free 2
       have e0 := F8.out.k2.cell 0
       have e1 := F8.out.k2.cell 1
       have e2 := F8.out.k2.cell 2
       have ef0 := F8.out.k2.free 0
       have ef1 := F8.out.k2.free 1
       have ef2 := F8.out.k2.free 2
       have zl6 := F8.out.zlt
       clear d5 b5
       unfold enV)
    | fail)
  obtain ⟨d, b, h1, h2⟩ := D5.out.ended2 F8.out.w F8.out.k1 F8.out.k2 (by omega) (by omega) (by omega) (.bool (prc.wishes L A i).2.done) (.bool (prc.wishes L A i).2.full) (.int .i64 (prc.wishes L A i).2.slot)
  exact bodyPost_ret (res_two rfl _ _ (W.heap.size + 1) (W.heap.size + 1 + 1) _ _ _ _ _ _ rfl rfl h1 h2) rfl ⟨_, _, _, _, rfl, d, b⟩

set_option maxRecDepth 100000 in
set_option maxHeartbeats 4000000 in
theorem Dw.step_see {W : World} {s v p : Value} {P L : Nat} {A : Ab} {O : Nat → ByteArray} (h : Dw W s v p P L A O) (hF : Fit P A) {i : Nat} (hi : i < P) (hP : P ≤ 64) (hL : L ≤ 256) (x : Pc) (hx : x = A.X i) (ha : x.at_ ≤ L) (hn : x.next = 2) (hlt : x.at_ < L) (r : Rc) (hS : A.S x.at_ = some r) :
    Calls Try.prog 38 #[.agg #[s, v, p], .int .i64 i] W (DsPost P L (prc.sees L A i r).1 (prc.sees L A i r).2 W) := by
  obtain ⟨g, o, c, rfl, hg, q0, q1, q2, q3, q4, q5⟩ := h.proc hi
  rw [← hx] at q0 q1 q3 q4
  rw [hn] at q0
  have q0' : W.cell? ⟨g, o + i * 6, none⟩ = some (.int .i64 2) := q0
  obtain ⟨oi, hoi⟩ : ∃ oi, oi = O i := ⟨_, rfl⟩
  rw [← hoi] at q5
  have hni : (x.next : Int) = 2 := by rw [hn]; rfl
  obtain ⟨gs, os, cs, hs0, hgs, hc⟩ := h.slot hlt
  subst hs0
  rw [hS] at hc
  obtain ⟨t, ht⟩ : ∃ t, t = tx r := ⟨_, rfl⟩
  have hct : W.cell? ⟨gs, os + x.at_, none⟩ = some (.string t) := by rw [ht]; exact hc
  have hlI : (x.at_ : Int) < (L : Int) := by omega
  obtain ⟨hne2, hne3, hne4⟩ := bytes_nil (show t ≠ ⟨#[]⟩ by rw [ht]; exact tx_ne r)
  obtain ⟨gv, ov, cv, rfl⟩ := h.tw
  have hgs1 : gs < W.heap.size + 1 := by omega
  have hgs2 : gs < W.heap.size + 1 + 1 := by omega
  have hgs3 : gs < W.heap.size + 1 + 1 + 1 := by omega
  have HT := Lib.hid (And.intro ht (And.intro hS hlt))
  have H := Lib.hid h
  have HI := Lib.hid (And.intro hi (And.intro hP (And.intro hL (And.intro hx (And.intro hoi (And.intro hF (And.intro hn hni)))))))
  have HA := Lib.hid ha
  have hiP : (i : Int) < (P : Int) := by omega
  have h0i : (0 : Int) ≤ (i : Int) := by omega
  have hg1 : g < W.heap.size + 1 := by omega
  have hg2 : g < W.heap.size + 1 + 1 := by omega
  have hg3 : g < W.heap.size + 1 + 1 + 1 := by omega
  have hat : (x.at_ : Int) ≤ 256 := by omega
  have hat0 : (0 : Int) ≤ (x.at_ : Int) := by omega
  clear hc hS hlt ht h hi hP hF hL hx hoi q0 hn hni ha
  go_enter Try.func38, Try.ntmps38
  go_wp2_with (first
    | (go_at_call 74
       have F0 := Lib.hid (Fz.start (i := i) (n := 2) (a := x.at_) (q := x.seq) (b := x.body) (o := oi) H.out)
       have hc := F0.out.d.sees HI.out.2.2.2.2.2.1 HI.out.1 HI.out.2.1 HI.out.2.2.1 (by rw [← HI.out.2.2.2.1]; exact HT.out.2.2) x HI.out.2.2.2.1 oi r (by rw [← HI.out.2.2.2.1]; exact HT.out.2.1)
       rw [HI.out.2.2.2.2.2.2.2] at hc
       refine hc.mono ?_
       clear hc
       rintro en w5 ⟨s5, v5, p5, rfl, d5, b5⟩
       obtain ⟨gs5, os5, cs5, rfl⟩ := d5.ts
       obtain ⟨gv5, ov5, cv5, rfl⟩ := d5.tw
       obtain ⟨gp5, op5, cp5, rfl⟩ := d5.tp
       have D5 := Lib.hid d5
       have F8 := Lib.hid (F0.out.below b5)
       have n0 := F8.out.k1.cell 0
       have n1 := F8.out.k1.cell 1
       have n2 := F8.out.k1.cell 2
       have nf0 := F8.out.k1.free 0
       have nf1 := F8.out.k1.free 1
       have nf2 := F8.out.k1.free 2
       have e0 := F8.out.k2.cell 0
       have e1 := F8.out.k2.cell 1
       have e2 := F8.out.k2.cell 2
       have ef0 := F8.out.k2.free 0
       have ef1 := F8.out.k2.free 1
       have ef2 := F8.out.k2.free 2
       have zl6 := F8.out.zlt
       clear d5 b5
       unfold enV)
    | fail)
  obtain ⟨d, b, h1, h2⟩ := D5.out.ended2 F8.out.w F8.out.k1 F8.out.k2 (by omega) (by omega) (by omega) (.bool (prc.sees L A i r).2.done) (.bool (prc.sees L A i r).2.full) (.int .i64 (prc.sees L A i r).2.slot)
  exact bodyPost_ret (res_two rfl _ _ (W.heap.size + 1) (W.heap.size + 1 + 1) _ _ _ _ _ _ rfl rfl h1 h2) rfl ⟨_, _, _, _, rfl, d, b⟩

set_option maxRecDepth 100000 in
set_option maxHeartbeats 4000000 in
theorem Dw.step_look {W : World} {s v p : Value} {P L : Nat} {A : Ab} {O : Nat → ByteArray} (h : Dw W s v p P L A O) (hF : Fit P A) {i : Nat} (hi : i < P) (hP : P ≤ 64) (hL : L ≤ 256) (x : Pc) (hx : x = A.X i) (ha : x.at_ ≤ L) (hn : x.next = 2) (hlt : x.at_ < L) (hS : A.S x.at_ = none) :
    Calls Try.prog 38 #[.agg #[s, v, p], .int .i64 i] W (DsPost P L (put A i { x with next := 3 }) nope W) := by
  obtain ⟨g, o, c, rfl, hg, q0, q1, q2, q3, q4, q5⟩ := h.proc hi
  rw [← hx] at q0 q1 q3 q4
  rw [hn] at q0
  have q0' : W.cell? ⟨g, o + i * 6, none⟩ = some (.int .i64 2) := q0
  obtain ⟨oi, hoi⟩ : ∃ oi, oi = O i := ⟨_, rfl⟩
  rw [← hoi] at q5
  have hni : (x.next : Int) = 2 := by rw [hn]; rfl
  obtain ⟨gs, os, cs, hs0, hgs, hc⟩ := h.slot hlt
  subst hs0
  rw [hS] at hc
  obtain ⟨t, ht⟩ : ∃ t, t = (⟨#[]⟩ : ByteArray) := ⟨_, rfl⟩
  have hct : W.cell? ⟨gs, os + x.at_, none⟩ = some (.string t) := by rw [ht]; exact hc
  have hlI : (x.at_ : Int) < (L : Int) := by omega
  have hz0 : (⟨#[]⟩ : ByteArray).toList = [] := by simp [ByteArray.toList_eq]
  have hne2 : (t.toList == []) = true := by rw [ht, hz0]; rfl
  have hne3 : t.toList = [] := by rw [ht, hz0]
  have hne4 : (t.toList != []) = false := by rw [ht, hz0]; rfl
  obtain ⟨gv, ov, cv, rfl⟩ := h.tw
  have hgs1 : gs < W.heap.size + 1 := by omega
  have hgs2 : gs < W.heap.size + 1 + 1 := by omega
  have hgs3 : gs < W.heap.size + 1 + 1 + 1 := by omega
  have HT := Lib.hid (And.intro ht (And.intro hS hlt))
  have H := Lib.hid h
  have HI := Lib.hid (And.intro hi (And.intro hP (And.intro hL (And.intro hx (And.intro hoi (And.intro hF (And.intro hn hni)))))))
  have HA := Lib.hid ha
  have hiP : (i : Int) < (P : Int) := by omega
  have h0i : (0 : Int) ≤ (i : Int) := by omega
  have hg1 : g < W.heap.size + 1 := by omega
  have hg2 : g < W.heap.size + 1 + 1 := by omega
  have hg3 : g < W.heap.size + 1 + 1 + 1 := by omega
  have hat : (x.at_ : Int) ≤ 256 := by omega
  have hat0 : (0 : Int) ≤ (x.at_ : Int) := by omega
  clear hc hS hlt ht h hi hP hF hL hx hoi q0 hn hni ha
  go_enter Try.func38, Try.ntmps38
  go_wp2_with (first
    | (go_at_call 75
       have F0 := Lib.hid (Fz.start (i := i) (n := 3) (a := x.at_) (q := x.seq) (b := x.body) (o := oi) H.out)
       refine (F0.out.d.set' HI.out.1 HI.out.2.1 ⟨3, x.at_, x.seq, x.body, x.offer⟩ oi (fun e => by cases e) rfl rfl rfl).mono ?_
       rintro en w5 ⟨s5, v5, p5, rfl, d5, b5⟩
       obtain ⟨gs5, os5, cs5, rfl⟩ := d5.ts
       obtain ⟨gv5, ov5, cv5, rfl⟩ := d5.tw
       obtain ⟨gp5, op5, cp5, rfl⟩ := d5.tp
       have D5 := Lib.hid d5
       have F8 := Lib.hid (F0.out.below b5)
       have n0 := F8.out.k1.cell 0
       have n1 := F8.out.k1.cell 1
       have n2 := F8.out.k1.cell 2
       have nf0 := F8.out.k1.free 0
       have nf1 := F8.out.k1.free 1
       have nf2 := F8.out.k1.free 2
       have e0 := F8.out.k2.cell 0
       have e1 := F8.out.k2.cell 1
       have e2 := F8.out.k2.cell 2
       have ef0 := F8.out.k2.free 0
       have ef1 := F8.out.k2.free 1
       have ef2 := F8.out.k2.free 2
       have zl6 := F8.out.zlt
       clear d5 b5)
    | fail)
  obtain ⟨d, b, h1, h2⟩ := D5.out.ended2 F8.out.w F8.out.k1 F8.out.k2 (by omega) (by omega) (by omega) (.bool false) (.bool false) (.int .i64 0)
  exact bodyPost_ret (res_two rfl _ _ (W.heap.size + 1) (W.heap.size + 1 + 1) _ _ _ _ _ _ rfl rfl h1 h2) rfl ⟨_, _, _, _, rfl, d, b⟩

set_option maxRecDepth 100000 in
set_option maxHeartbeats 4000000 in
theorem Dw.step_help {W : World} {s v p : Value} {P L : Nat} {A : Ab} {O : Nat → ByteArray} (h : Dw W s v p P L A O) (hF : Fit P A) {i : Nat} (hi : i < P) (hP : P ≤ 64) (hL : L ≤ 256) (x : Pc) (hx : x = A.X i) (ha : x.at_ ≤ L) (hn : x.next = 3) :
    Calls Try.prog 38 #[.agg #[s, v, p], .int .i64 i] W (DsPost P L (prc.helps P A i).1 nope W) := by
  obtain ⟨g, o, c, rfl, hg, q0, q1, q2, q3, q4, q5⟩ := h.proc hi
  rw [← hx] at q0 q1 q3 q4
  rw [hn] at q0
  have q0' : W.cell? ⟨g, o + i * 6, none⟩ = some (.int .i64 3) := q0
  obtain ⟨oi, hoi⟩ : ∃ oi, oi = O i := ⟨_, rfl⟩
  rw [← hoi] at q5
  have hni : (x.next : Int) = 3 := by rw [hn]; rfl
  obtain ⟨gs, os, cs, rfl⟩ := h.ts
  obtain ⟨gv, ov, cv, rfl⟩ := h.tw
  have H := Lib.hid h
  have HI := Lib.hid (And.intro hi (And.intro hP (And.intro hL (And.intro hx (And.intro hoi (And.intro hF (And.intro hn hni)))))))
  have HA := Lib.hid ha
  have hiP : (i : Int) < (P : Int) := by omega
  have h0i : (0 : Int) ≤ (i : Int) := by omega
  have hg1 : g < W.heap.size + 1 := by omega
  have hg2 : g < W.heap.size + 1 + 1 := by omega
  have hg3 : g < W.heap.size + 1 + 1 + 1 := by omega
  have hat : (x.at_ : Int) ≤ 256 := by omega
  have hat0 : (0 : Int) ≤ (x.at_ : Int) := by omega
  clear h hi hP hF hL hx hoi q0 hn hni ha
  go_enter Try.func38, Try.ntmps38
  go_wp2_with (first
    | (go_at_call 76
       have F0 := Lib.hid (Fz.start (i := i) (n := 3) (a := x.at_) (q := x.seq) (b := x.body) (o := oi) H.out)
       have hc := F0.out.d.helps HI.out.2.2.2.2.2.1 HI.out.1 HI.out.2.1 HI.out.2.2.1 (by rw [← HI.out.2.2.2.1]; exact HA.out) x HI.out.2.2.2.1 oi
       rw [HI.out.2.2.2.2.2.2.2] at hc
       refine hc.mono ?_
       clear hc
       rintro en w5 ⟨s5, v5, p5, rfl, d5, b5⟩
       obtain ⟨gs5, os5, cs5, rfl⟩ := d5.ts
       obtain ⟨gv5, ov5, cv5, rfl⟩ := d5.tw
       obtain ⟨gp5, op5, cp5, rfl⟩ := d5.tp
       have D5 := Lib.hid d5
       have F8 := Lib.hid (F0.out.below b5)
       have n0 := F8.out.k1.cell 0
       have n1 := F8.out.k1.cell 1
       have n2 := F8.out.k1.cell 2
       have nf0 := F8.out.k1.free 0
       have nf1 := F8.out.k1.free 1
       have nf2 := F8.out.k1.free 2
       have e0 := F8.out.k2.cell 0
       have e1 := F8.out.k2.cell 1
       have e2 := F8.out.k2.cell 2
       have ef0 := F8.out.k2.free 0
       have ef1 := F8.out.k2.free 1
       have ef2 := F8.out.k2.free 2
       have zl6 := F8.out.zlt
       clear d5 b5)
    | fail)
  obtain ⟨d, b, h1, h2⟩ := D5.out.ended2 F8.out.w F8.out.k1 F8.out.k2 (by omega) (by omega) (by omega) (.bool false) (.bool false) (.int .i64 0)
  exact bodyPost_ret (res_two rfl _ _ (W.heap.size + 1) (W.heap.size + 1 + 1) _ _ _ _ _ _ rfl rfl h1 h2) rfl ⟨_, _, _, _, rfl, d, b⟩

set_option maxRecDepth 100000 in
set_option maxHeartbeats 4000000 in
theorem Dw.step_dec_some {W : World} {s v p : Value} {P L : Nat} {A : Ab} {O : Nat → ByteArray} (h : Dw W s v p P L A O) (hF : Fit P A) {i : Nat} (hi : i < P) (hP : P ≤ 64) (hL : L ≤ 256) (x : Pc) (hx : x = A.X i) (ha : x.at_ ≤ L) (hn : x.next = 4) (hlt : x.at_ < L) (r : Rc) (hS : A.S x.at_ = some r) :
    Calls Try.prog 38 #[.agg #[s, v, p], .int .i64 i] W (DsPost P L (prc.sees L A i r).1 (prc.sees L A i r).2 W) := by
  obtain ⟨g, o, c, rfl, hg, q0, q1, q2, q3, q4, q5⟩ := h.proc hi
  rw [← hx] at q0 q1 q3 q4
  rw [hn] at q0
  have q0' : W.cell? ⟨g, o + i * 6, none⟩ = some (.int .i64 4) := q0
  obtain ⟨oi, hoi⟩ : ∃ oi, oi = O i := ⟨_, rfl⟩
  rw [← hoi] at q5
  have hni : (x.next : Int) = 4 := by rw [hn]; rfl
  obtain ⟨gs, os, cs, hs0, hgs, hc⟩ := h.slot hlt
  subst hs0
  rw [hS] at hc
  obtain ⟨t, ht⟩ : ∃ t, t = tx r := ⟨_, rfl⟩
  have hct : W.cell? ⟨gs, os + x.at_, none⟩ = some (.string t) := by rw [ht]; exact hc
  have hlI : (x.at_ : Int) < (L : Int) := by omega
  obtain ⟨hne2, hne3, hne4⟩ := bytes_nil (show t ≠ ⟨#[]⟩ by rw [ht]; exact tx_ne r)
  obtain ⟨gv, ov, cv, rfl⟩ := h.tw
  have hgs1 : gs < W.heap.size + 1 := by omega
  have hgs2 : gs < W.heap.size + 1 + 1 := by omega
  have hgs3 : gs < W.heap.size + 1 + 1 + 1 := by omega
  have HT := Lib.hid (And.intro ht (And.intro hS hlt))
  have H := Lib.hid h
  have HI := Lib.hid (And.intro hi (And.intro hP (And.intro hL (And.intro hx (And.intro hoi (And.intro hF (And.intro hn hni)))))))
  have HA := Lib.hid ha
  have hiP : (i : Int) < (P : Int) := by omega
  have h0i : (0 : Int) ≤ (i : Int) := by omega
  have hg1 : g < W.heap.size + 1 := by omega
  have hg2 : g < W.heap.size + 1 + 1 := by omega
  have hg3 : g < W.heap.size + 1 + 1 + 1 := by omega
  have hat : (x.at_ : Int) ≤ 256 := by omega
  have hat0 : (0 : Int) ≤ (x.at_ : Int) := by omega
  clear hc hS hlt ht h hi hP hF hL hx hoi q0 hn hni ha
  go_enter Try.func38, Try.ntmps38
  go_wp2_with (first
    | (go_at_call 74
       have F0 := Lib.hid (Fz.start (i := i) (n := 4) (a := x.at_) (q := x.seq) (b := x.body) (o := oi) H.out)
       have hc := F0.out.d.sees HI.out.2.2.2.2.2.1 HI.out.1 HI.out.2.1 HI.out.2.2.1 (by rw [← HI.out.2.2.2.1]; exact HT.out.2.2) x HI.out.2.2.2.1 oi r (by rw [← HI.out.2.2.2.1]; exact HT.out.2.1)
       rw [HI.out.2.2.2.2.2.2.2] at hc
       refine hc.mono ?_
       clear hc
       rintro en w5 ⟨s5, v5, p5, rfl, d5, b5⟩
       obtain ⟨gs5, os5, cs5, rfl⟩ := d5.ts
       obtain ⟨gv5, ov5, cv5, rfl⟩ := d5.tw
       obtain ⟨gp5, op5, cp5, rfl⟩ := d5.tp
       have D5 := Lib.hid d5
       have F8 := Lib.hid (F0.out.below b5)
       have n0 := F8.out.k1.cell 0
       have n1 := F8.out.k1.cell 1
       have n2 := F8.out.k1.cell 2
       have nf0 := F8.out.k1.free 0
       have nf1 := F8.out.k1.free 1
       have nf2 := F8.out.k1.free 2
       have e0 := F8.out.k2.cell 0
       have e1 := F8.out.k2.cell 1
       have e2 := F8.out.k2.cell 2
       have ef0 := F8.out.k2.free 0
       have ef1 := F8.out.k2.free 1
       have ef2 := F8.out.k2.free 2
       have zl6 := F8.out.zlt
       clear d5 b5
       unfold enV)
    | fail)
  obtain ⟨d, b, h1, h2⟩ := D5.out.ended2 F8.out.w F8.out.k1 F8.out.k2 (by omega) (by omega) (by omega) (.bool (prc.sees L A i r).2.done) (.bool (prc.sees L A i r).2.full) (.int .i64 (prc.sees L A i r).2.slot)
  exact bodyPost_ret (res_two rfl _ _ (W.heap.size + 1) (W.heap.size + 1 + 1) _ _ _ _ _ _ rfl rfl h1 h2) rfl ⟨_, _, _, _, rfl, d, b⟩

set_option maxRecDepth 100000 in
set_option maxHeartbeats 4000000 in
theorem Dw.step_dec_none {W : World} {s v p : Value} {P L : Nat} {A : Ab} {O : Nat → ByteArray} (h : Dw W s v p P L A O) (hF : Fit P A) {i : Nat} (hi : i < P) (hP : P ≤ 64) (hL : L ≤ 256) (x : Pc) (hx : x = A.X i) (ha : x.at_ ≤ L) (hn : x.next = 4) (hlt : x.at_ < L) (hS : A.S x.at_ = none) (m : Rc) (hm : m = x.offer) (hmf : m.Fits) :
    Calls Try.prog 38 #[.agg #[s, v, p], .int .i64 i] W (DsPost P L (prc.sees L { A with S := up A.S x.at_ (some m) } i m).1 (prc.sees L { A with S := up A.S x.at_ (some m) } i m).2 W) := by
  obtain ⟨g, o, c, rfl, hg, q0, q1, q2, q3, q4, q5⟩ := h.proc hi
  rw [← hx] at q0 q1 q3 q4
  rw [hn] at q0
  have q0' : W.cell? ⟨g, o + i * 6, none⟩ = some (.int .i64 4) := q0
  obtain ⟨oi, hoi⟩ : ∃ oi, oi = O i := ⟨_, rfl⟩
  rw [← hoi] at q5
  have hni : (x.next : Int) = 4 := by rw [hn]; rfl
  have hoff : oi = tx m := by rw [hoi, hm, hx]; exact h.off i (by rw [← hx]; exact hn)
  have HOF := Lib.hid (And.intro hoff (And.intro hmf hm))
  obtain ⟨i0, z0, hi0, hz0, hz1, hz2, hz3⟩ := strInfo
  have HI0 := Lib.hid hi0
  have HZ0 := Lib.hid hz0
  obtain ⟨gs, os, cs, hs0, hgs, hc⟩ := h.slot hlt
  subst hs0
  rw [hS] at hc
  obtain ⟨t, ht⟩ : ∃ t, t = (⟨#[]⟩ : ByteArray) := ⟨_, rfl⟩
  have hct : W.cell? ⟨gs, os + x.at_, none⟩ = some (.string t) := by rw [ht]; exact hc
  have hlI : (x.at_ : Int) < (L : Int) := by omega
  have hz0 : (⟨#[]⟩ : ByteArray).toList = [] := by simp [ByteArray.toList_eq]
  have hne2 : (t.toList == []) = true := by rw [ht, hz0]; rfl
  have hne3 : t.toList = [] := by rw [ht, hz0]
  have hne4 : (t.toList != []) = false := by rw [ht, hz0]; rfl
  obtain ⟨gv, ov, cv, rfl⟩ := h.tw
  have hgs1 : gs < W.heap.size + 1 := by omega
  have hgs2 : gs < W.heap.size + 1 + 1 := by omega
  have hgs3 : gs < W.heap.size + 1 + 1 + 1 := by omega
  have HT := Lib.hid (And.intro ht (And.intro hS hlt))
  have H := Lib.hid h
  have HI := Lib.hid (And.intro hi (And.intro hP (And.intro hL (And.intro hx (And.intro hoi (And.intro hF (And.intro hn hni)))))))
  have HA := Lib.hid ha
  have hiP : (i : Int) < (P : Int) := by omega
  have h0i : (0 : Int) ≤ (i : Int) := by omega
  have hg1 : g < W.heap.size + 1 := by omega
  have hg2 : g < W.heap.size + 1 + 1 := by omega
  have hg3 : g < W.heap.size + 1 + 1 + 1 := by omega
  have hat : (x.at_ : Int) ≤ 256 := by omega
  have hat0 : (0 : Int) ≤ (x.at_ : Int) := by omega
  clear hc hS hlt ht h hi hP hF hL hx hoi q0 hn hni ha hi0 hz0 hoff hm hmf
  go_enter Try.func38, Try.ntmps38
  go_wp2_with (first
    | (at_builtin; refine wpList_append_all _ rfl (.tmp 60) (.tmp 62) 28 rfl 9 i0 z0 1 16 Try.underlying28 HI0.out HZ0.out hz1 hz3 hz2 (by decide) (.slice (some ⟨W.heap.size + 1 + 1 + 1 + 1, 0, none⟩) 0 0) 0 [] rfl (Seg.empty (made_at _ _ (by simp))) ⟨_, _, _, rfl⟩ (.slice (some ⟨gs, os, none⟩) L cs) L (rowS A.S L) rfl (((((H.out.slots.alloc _).alloc _).alloc _).alloc _).alloc _) ⟨_, _, _, rfl⟩ (one_rowS A.S L) (by have := HI.out.2.2.1; unfold maxLen; omega) (by have := HI.out.2.2.1; omega) ?_)
    | fail)
  intro rr w2 th sg gr nw
  obtain ⟨g2, o2, cc, rfl⟩ := th
  have F0 := Lib.hid (Fz.start (i := i) (n := 4) (a := x.at_) (q := x.seq) (b := x.body) (o := oi) H.out)
  have b2 := Below.grown ((Below.refl _ ((((W.alloc (.cells #[.slice (some ⟨gs, os, none⟩) L cs, .slice (some ⟨gv, ov, none⟩) P cv, .slice (some ⟨g, o, none⟩) P c] 31)).alloc (.cells #[.slice none 0 0, .slice none 0 0, .slice none 0 0] 31)).alloc (.cells #[.bool false, .bool false, .int .i64 0] 89)).alloc (.cells #[.int .i64 4, .int .i64 x.at_, .int .i64 i, .int .i64 x.seq, .string x.body, .string oi] 40))).alloc (Nat.le_refl _) _) gr (by simp) (fun k e => by have := own_of e; simp; omega)
  have F2 := Lib.hid (F0.out.below b2)
  have N2 : Hid (W.heap.size + 1 + 1 + 1 < g2) := Lib.hid (by
    rcases nw g2 rfl with e | e
    · have := own_of e; omega
    · rw [e]; simp <;> omega)
  have S2 := Lib.hid sg
  clear sg gr nw b2 F0
  have c4 : w2.cell? ⟨g2, o2 + x.at_, none⟩ = some (.string (txo (A.S x.at_))) := by
    obtain ⟨g', o', c', e, _, _, _, hc⟩ := S2.out.cells (by have := HT.out.2.2; omega)
    injection e with e1 e2 e3
    injection e1 with e1
    injection e1 with e1 e4
    subst e1 e4
    exact hc x.at_ _ (rowS_at A.S HT.out.2.2)
  have f4 : w2.frozen? ⟨g2, o2 + x.at_, none⟩ = false := S2.out.free (o2 + x.at_)
  have y0 := F2.out.k0.cell 0
  have y1 := F2.out.k0.cell 1
  have y2 := F2.out.k0.cell 2
  have yf := F2.out.k0.free 0
  have l0 := F2.out.k3.cell 0
  have l1 := F2.out.k3.cell 1
  have l2 := F2.out.k3.cell 2
  have l3 := F2.out.k3.cell 3
  have l4 := F2.out.k3.cell 4
  have l5 := F2.out.k3.cell 5
  have zl := F2.out.zlt
  have ng0 : W.heap.size < g2 := by have := N2.out; omega
  have ng3 : W.heap.size + 1 + 1 + 1 < g2 := N2.out
  go_wp2_with (first
    | (go_at_call 74
       have F5 := Lib.hid (F2.out.decided S2.out N2.out HT.out.2.2 m HOF.out.1)
       have hc := F5.out.d.sees (Fit.setS HI.out.2.2.2.2.2.1 x.at_ m HOF.out.2.1) HI.out.1 HI.out.2.1 HI.out.2.2.1 (by show (A.X i).at_ < L; rw [← HI.out.2.2.2.1]; exact HT.out.2.2) x HI.out.2.2.2.1 oi m (by show up A.S x.at_ (some m) (A.X i).at_ = some m; rw [← HI.out.2.2.2.1]; exact up_same _ _ _)
       rw [HI.out.2.2.2.2.2.2.2] at hc
       refine hc.mono ?_
       clear hc
       rintro en w5 ⟨s5, v5, p5, rfl, d5, b5⟩
       obtain ⟨gs5, os5, cs5, rfl⟩ := d5.ts
       obtain ⟨gv5, ov5, cv5, rfl⟩ := d5.tw
       obtain ⟨gp5, op5, cp5, rfl⟩ := d5.tp
       have D5 := Lib.hid d5
       have F8 := Lib.hid (F5.out.below b5)
       have n0 := F8.out.k1.cell 0
       have n1 := F8.out.k1.cell 1
       have n2 := F8.out.k1.cell 2
       have nf0 := F8.out.k1.free 0
       have nf1 := F8.out.k1.free 1
       have nf2 := F8.out.k1.free 2
       have e0 := F8.out.k2.cell 0
       have e1 := F8.out.k2.cell 1
       have e2 := F8.out.k2.cell 2
       have ef0 := F8.out.k2.free 0
       have ef1 := F8.out.k2.free 1
       have ef2 := F8.out.k2.free 2
       have zl6 := F8.out.zlt
       clear d5 b5
       unfold enV)
    | fail)
  obtain ⟨d, b, h1, h2⟩ := D5.out.ended2 F8.out.w F8.out.k1 F8.out.k2 (by omega) (by omega) (by omega) (.bool (prc.sees L { A with S := up A.S x.at_ (some m) } i m).2.done) (.bool (prc.sees L { A with S := up A.S x.at_ (some m) } i m).2.full) (.int .i64 (prc.sees L { A with S := up A.S x.at_ (some m) } i m).2.slot)
  exact bodyPost_ret (res_two rfl _ _ (W.heap.size + 1) (W.heap.size + 1 + 1) _ _ _ _ _ _ rfl rfl h1 h2) rfl ⟨_, _, _, _, rfl, d, b⟩

set_option maxRecDepth 100000 in
set_option maxHeartbeats 4000000 in
theorem Dw.step_head_full {W : World} {s v p : Value} {P L : Nat} {A : Ab} {O : Nat → ByteArray} (h : Dw W s v p P L A O) (hF : Fit P A) {i : Nat} (hi : i < P) (hP : P ≤ 64) (hL : L ≤ 256) (x : Pc) (hx : x = A.X i) (ha : x.at_ ≤ L) (hn : x.next = 5) (hfull : L ≤ x.at_) :
    Calls Try.prog 38 #[.agg #[s, v, p], .int .i64 i] W (DsPost P L (put A i { x with next := 0 }) ⟨true, false, x.at_⟩ W) := by
  obtain ⟨g, o, c, rfl, hg, q0, q1, q2, q3, q4, q5⟩ := h.proc hi
  rw [← hx] at q0 q1 q3 q4
  rw [hn] at q0
  have q0' : W.cell? ⟨g, o + i * 6, none⟩ = some (.int .i64 5) := q0
  obtain ⟨oi, hoi⟩ : ∃ oi, oi = O i := ⟨_, rfl⟩
  rw [← hoi] at q5
  have hni : (x.next : Int) = 5 := by rw [hn]; rfl
  have hge : (L : Int) ≤ (x.at_ : Int) := by omega
  obtain ⟨gs, os, cs, rfl⟩ := h.ts
  obtain ⟨gv, ov, cv, rfl⟩ := h.tw
  have H := Lib.hid h
  have HI := Lib.hid (And.intro hi (And.intro hP (And.intro hL (And.intro hx (And.intro hoi (And.intro hF (And.intro hn hni)))))))
  have HA := Lib.hid ha
  have hiP : (i : Int) < (P : Int) := by omega
  have h0i : (0 : Int) ≤ (i : Int) := by omega
  have hg1 : g < W.heap.size + 1 := by omega
  have hg2 : g < W.heap.size + 1 + 1 := by omega
  have hg3 : g < W.heap.size + 1 + 1 + 1 := by omega
  have hat : (x.at_ : Int) ≤ 256 := by omega
  have hat0 : (0 : Int) ≤ (x.at_ : Int) := by omega
  clear h hi hP hF hL hx hoi q0 hn hni ha hfull
  go_enter Try.func38, Try.ntmps38
  go_wp2_with fail
  go_name_world V hV
  have F0 : Hid (Fz W (.slice (some ⟨gs, os, none⟩) L cs) (.slice (some ⟨gv, ov, none⟩) P cv) (.slice (some ⟨g, o, none⟩) P c) P L A O i 0 x.at_ x.seq x.body oi V) := by rw [← hV]; exact Lib.hid (Fz.start H.out)
  clear hV
  have y0 := F0.out.k0.cell 0
  have y1 := F0.out.k0.cell 1
  have y2 := F0.out.k0.cell 2
  have l0 := F0.out.k3.cell 0
  have l1 := F0.out.k3.cell 1
  have l2 := F0.out.k3.cell 2
  have l3 := F0.out.k3.cell 3
  have l4 := F0.out.k3.cell 4
  have l5 := F0.out.k3.cell 5
  go_region_law (refine step_call rfl 75 Try.f75 Try.func75 (by kernel_rfl) (by kernel_rfl) _ _ rfl #[.agg #[.slice (some ⟨gs, os, none⟩) L cs, .slice (some ⟨gv, ov, none⟩) P cv, .slice (some ⟨g, o, none⟩) P c], .int .i64 i, .agg #[.int .i64 0, .int .i64 x.at_, .int .i64 i, .int .i64 x.seq, .string x.body, .string oi]] (by first | (simp [Act.eval]; done) | (simp [Act.eval, Act.put]; done)) (F0.out.drew.d.set' HI.out.1 HI.out.2.1 ⟨0, x.at_, x.seq, x.body, x.offer⟩ oi (fun e => by cases e) rfl rfl rfl) ?_
                 rintro en w5 ⟨s5, v5, p5, rfl, d5, b5⟩
                 obtain ⟨gs5, os5, cs5, rfl⟩ := d5.ts
                 obtain ⟨gv5, ov5, cv5, rfl⟩ := d5.tw
                 obtain ⟨gp5, op5, cp5, rfl⟩ := d5.tp
                 have D5 := Lib.hid d5
                 have F8 := Lib.hid (F0.out.drew.below b5)
                 have m1 := F8.out.k3.cell 1
                 have n0 := F8.out.k1.cell 0
                 have n1 := F8.out.k1.cell 1
                 have n2 := F8.out.k1.cell 2
                 have nf0 := F8.out.k1.free 0
                 have nf1 := F8.out.k1.free 1
                 have nf2 := F8.out.k1.free 2
                 have e0 := F8.out.k2.cell 0
                 have e1 := F8.out.k2.cell 1
                 have e2 := F8.out.k2.cell 2
                 have ef0 := F8.out.k2.free 0
                 have ef1 := F8.out.k2.free 1
                 have ef2 := F8.out.k2.free 2
                 have zl6 := F8.out.zlt
                 clear d5 b5
                 refine ⟨_, rfl, ?_⟩)
  all_goals
    go_wp2_with fail
    obtain ⟨d, b, h1, h2⟩ := D5.out.ended2 F8.out.w F8.out.k1 F8.out.k2 (by omega) (by omega) (by omega) (.bool true) (.bool false) (.int .i64 x.at_)
    exact bodyPost_ret (res_two rfl _ _ (W.heap.size + 1) (W.heap.size + 1 + 1) _ _ _ _ _ _ rfl rfl h1 h2) rfl ⟨_, _, _, _, rfl, d, b⟩

set_option maxRecDepth 100000 in
set_option maxHeartbeats 4000000 in
theorem Dw.step_head_none {W : World} {s v p : Value} {P L : Nat} {A : Ab} {O : Nat → ByteArray} (h : Dw W s v p P L A O) (hF : Fit P A) {i : Nat} (hi : i < P) (hP : P ≤ 64) (hL : L ≤ 256) (x : Pc) (hx : x = A.X i) (ha : x.at_ ≤ L) (hn : x.next = 5) (hlt : x.at_ < L) (hS : A.S x.at_ = none) :
    Calls Try.prog 38 #[.agg #[s, v, p], .int .i64 i] W (DsPost P L (put A i { x with next := 0 }) ⟨true, false, x.at_⟩ W) := by
  obtain ⟨g, o, c, rfl, hg, q0, q1, q2, q3, q4, q5⟩ := h.proc hi
  rw [← hx] at q0 q1 q3 q4
  rw [hn] at q0
  have q0' : W.cell? ⟨g, o + i * 6, none⟩ = some (.int .i64 5) := q0
  obtain ⟨oi, hoi⟩ : ∃ oi, oi = O i := ⟨_, rfl⟩
  rw [← hoi] at q5
  have hni : (x.next : Int) = 5 := by rw [hn]; rfl
  obtain ⟨gs, os, cs, hs0, hgs, hc⟩ := h.slot hlt
  subst hs0
  rw [hS] at hc
  obtain ⟨t, ht⟩ : ∃ t, t = (⟨#[]⟩ : ByteArray) := ⟨_, rfl⟩
  have hct : W.cell? ⟨gs, os + x.at_, none⟩ = some (.string t) := by rw [ht]; exact hc
  have hlI : (x.at_ : Int) < (L : Int) := by omega
  have hz0 : (⟨#[]⟩ : ByteArray).toList = [] := by simp [ByteArray.toList_eq]
  have hne2 : (t.toList == []) = true := by rw [ht, hz0]; rfl
  have hne3 : t.toList = [] := by rw [ht, hz0]
  have hne4 : (t.toList != []) = false := by rw [ht, hz0]; rfl
  obtain ⟨gv, ov, cv, rfl⟩ := h.tw
  have hgs1 : gs < W.heap.size + 1 := by omega
  have hgs2 : gs < W.heap.size + 1 + 1 := by omega
  have hgs3 : gs < W.heap.size + 1 + 1 + 1 := by omega
  have HT := Lib.hid (And.intro ht (And.intro hS hlt))
  have H := Lib.hid h
  have HI := Lib.hid (And.intro hi (And.intro hP (And.intro hL (And.intro hx (And.intro hoi (And.intro hF (And.intro hn hni)))))))
  have HA := Lib.hid ha
  have hiP : (i : Int) < (P : Int) := by omega
  have h0i : (0 : Int) ≤ (i : Int) := by omega
  have hg1 : g < W.heap.size + 1 := by omega
  have hg2 : g < W.heap.size + 1 + 1 := by omega
  have hg3 : g < W.heap.size + 1 + 1 + 1 := by omega
  have hat : (x.at_ : Int) ≤ 256 := by omega
  have hat0 : (0 : Int) ≤ (x.at_ : Int) := by omega
  clear hc hS hlt ht h hi hP hF hL hx hoi q0 hn hni ha
  go_enter Try.func38, Try.ntmps38
  go_wp2_with fail
  go_name_world V hV
  have F0 : Hid (Fz W (.slice (some ⟨gs, os, none⟩) L cs) (.slice (some ⟨gv, ov, none⟩) P cv) (.slice (some ⟨g, o, none⟩) P c) P L A O i 0 x.at_ x.seq x.body oi V) := by rw [← hV]; exact Lib.hid (Fz.start H.out)
  clear hV
  have y0 := F0.out.k0.cell 0
  have y1 := F0.out.k0.cell 1
  have y2 := F0.out.k0.cell 2
  have l0 := F0.out.k3.cell 0
  have l1 := F0.out.k3.cell 1
  have l2 := F0.out.k3.cell 2
  have l3 := F0.out.k3.cell 3
  have l4 := F0.out.k3.cell 4
  have l5 := F0.out.k3.cell 5
  go_region_law (refine step_call rfl 75 Try.f75 Try.func75 (by kernel_rfl) (by kernel_rfl) _ _ rfl #[.agg #[.slice (some ⟨gs, os, none⟩) L cs, .slice (some ⟨gv, ov, none⟩) P cv, .slice (some ⟨g, o, none⟩) P c], .int .i64 i, .agg #[.int .i64 0, .int .i64 x.at_, .int .i64 i, .int .i64 x.seq, .string x.body, .string oi]] (by first | (simp [Act.eval]; done) | (simp [Act.eval, Act.put]; done)) (F0.out.drew.d.set' HI.out.1 HI.out.2.1 ⟨0, x.at_, x.seq, x.body, x.offer⟩ oi (fun e => by cases e) rfl rfl rfl) ?_
                 rintro en w5 ⟨s5, v5, p5, rfl, d5, b5⟩
                 obtain ⟨gs5, os5, cs5, rfl⟩ := d5.ts
                 obtain ⟨gv5, ov5, cv5, rfl⟩ := d5.tw
                 obtain ⟨gp5, op5, cp5, rfl⟩ := d5.tp
                 have D5 := Lib.hid d5
                 have F8 := Lib.hid (F0.out.drew.below b5)
                 have m1 := F8.out.k3.cell 1
                 have n0 := F8.out.k1.cell 0
                 have n1 := F8.out.k1.cell 1
                 have n2 := F8.out.k1.cell 2
                 have nf0 := F8.out.k1.free 0
                 have nf1 := F8.out.k1.free 1
                 have nf2 := F8.out.k1.free 2
                 have e0 := F8.out.k2.cell 0
                 have e1 := F8.out.k2.cell 1
                 have e2 := F8.out.k2.cell 2
                 have ef0 := F8.out.k2.free 0
                 have ef1 := F8.out.k2.free 1
                 have ef2 := F8.out.k2.free 2
                 have zl6 := F8.out.zlt
                 clear d5 b5
                 refine ⟨_, rfl, ?_⟩)
  all_goals
    go_wp2_with fail
    obtain ⟨d, b, h1, h2⟩ := D5.out.ended2 F8.out.w F8.out.k1 F8.out.k2 (by omega) (by omega) (by omega) (.bool true) (.bool false) (.int .i64 x.at_)
    exact bodyPost_ret (res_two rfl _ _ (W.heap.size + 1) (W.heap.size + 1 + 1) _ _ _ _ _ _ rfl rfl h1 h2) rfl ⟨_, _, _, _, rfl, d, b⟩

set_option maxRecDepth 100000 in
set_option maxHeartbeats 4000000 in
theorem Dw.step_head_some {W : World} {s v p : Value} {P L : Nat} {A : Ab} {O : Nat → ByteArray} (h : Dw W s v p P L A O) (hF : Fit P A) {i : Nat} (hi : i < P) (hP : P ≤ 64) (hL : L ≤ 256) (x : Pc) (hx : x = A.X i) (ha : x.at_ ≤ L) (hn : x.next = 5) (hlt : x.at_ < L) (r : Rc) (hS : A.S x.at_ = some r) :
    Calls Try.prog 38 #[.agg #[s, v, p], .int .i64 i] W (DsPost P L (put A i { x with at_ := x.at_ + 1 }) nope W) := by
  obtain ⟨g, o, c, rfl, hg, q0, q1, q2, q3, q4, q5⟩ := h.proc hi
  rw [← hx] at q0 q1 q3 q4
  rw [hn] at q0
  have q0' : W.cell? ⟨g, o + i * 6, none⟩ = some (.int .i64 5) := q0
  obtain ⟨oi, hoi⟩ : ∃ oi, oi = O i := ⟨_, rfl⟩
  rw [← hoi] at q5
  have hni : (x.next : Int) = 5 := by rw [hn]; rfl
  obtain ⟨gs, os, cs, hs0, hgs, hc⟩ := h.slot hlt
  subst hs0
  rw [hS] at hc
  obtain ⟨t, ht⟩ : ∃ t, t = tx r := ⟨_, rfl⟩
  have hct : W.cell? ⟨gs, os + x.at_, none⟩ = some (.string t) := by rw [ht]; exact hc
  have hlI : (x.at_ : Int) < (L : Int) := by omega
  obtain ⟨hne2, hne3, hne4⟩ := bytes_nil (show t ≠ ⟨#[]⟩ by rw [ht]; exact tx_ne r)
  obtain ⟨gv, ov, cv, rfl⟩ := h.tw
  have hgs1 : gs < W.heap.size + 1 := by omega
  have hgs2 : gs < W.heap.size + 1 + 1 := by omega
  have hgs3 : gs < W.heap.size + 1 + 1 + 1 := by omega
  have HT := Lib.hid (And.intro ht (And.intro hS hlt))
  have H := Lib.hid h
  have HI := Lib.hid (And.intro hi (And.intro hP (And.intro hL (And.intro hx (And.intro hoi (And.intro hF (And.intro hn hni)))))))
  have HA := Lib.hid ha
  have hiP : (i : Int) < (P : Int) := by omega
  have h0i : (0 : Int) ≤ (i : Int) := by omega
  have hg1 : g < W.heap.size + 1 := by omega
  have hg2 : g < W.heap.size + 1 + 1 := by omega
  have hg3 : g < W.heap.size + 1 + 1 + 1 := by omega
  have hat : (x.at_ : Int) ≤ 256 := by omega
  have hat0 : (0 : Int) ≤ (x.at_ : Int) := by omega
  clear hc hS hlt ht h hi hP hF hL hx hoi q0 hn hni ha
  go_enter Try.func38, Try.ntmps38
  have hge : ¬ (L : Int) ≤ (x.at_ : Int) := by omega
  go_wp2_with (first
    | (go_at_call 75
       have F0 := Lib.hid (Fz.start (i := i) (n := 5) (a := (x.at_ : Int) + 1) (q := x.seq) (b := x.body) (o := oi) H.out)
       refine (F0.out.d.set' HI.out.1 HI.out.2.1 ⟨5, x.at_ + 1, x.seq, x.body, x.offer⟩ oi (fun e => by cases e) rfl (by show ((x.at_ + 1 : Nat) : Int) = (x.at_ : Int) + 1; omega) rfl).mono ?_
       rintro en w5 ⟨s5, v5, p5, rfl, d5, b5⟩
       obtain ⟨gs5, os5, cs5, rfl⟩ := d5.ts
       obtain ⟨gv5, ov5, cv5, rfl⟩ := d5.tw
       obtain ⟨gp5, op5, cp5, rfl⟩ := d5.tp
       have D5 := Lib.hid d5
       have F8 := Lib.hid (F0.out.below b5)
       have n0 := F8.out.k1.cell 0
       have n1 := F8.out.k1.cell 1
       have n2 := F8.out.k1.cell 2
       have nf0 := F8.out.k1.free 0
       have nf1 := F8.out.k1.free 1
       have nf2 := F8.out.k1.free 2
       have e0 := F8.out.k2.cell 0
       have e1 := F8.out.k2.cell 1
       have e2 := F8.out.k2.cell 2
       have ef0 := F8.out.k2.free 0
       have ef1 := F8.out.k2.free 1
       have ef2 := F8.out.k2.free 2
       have zl6 := F8.out.zlt
       clear d5 b5)
    | fail)
  have e5 : put A i { x with at_ := x.at_ + 1 } = put A i ⟨5, x.at_ + 1, x.seq, x.body, x.offer⟩ := by rw [← HI.out.2.2.2.2.2.2.1]
  rw [e5]
  obtain ⟨d, b, h1, h2⟩ := D5.out.ended2 F8.out.w F8.out.k1 F8.out.k2 (by omega) (by omega) (by omega) (.bool false) (.bool false) (.int .i64 0)
  exact bodyPost_ret (res_two rfl _ _ (W.heap.size + 1) (W.heap.size + 1 + 1) _ _ _ _ _ _ rfl rfl h1 h2) rfl ⟨_, _, _, _, rfl, d, b⟩
end Go.Proofs.Ytbpcfkniflgmfaa.prc
