/- cells: what the document's Do gives. -/
import Derived.Test.YtlbpephbigikcaaCelR
import Derived.Test.YtlbpephbigikcaaCopy
import Derived.Test.YtlbpephbigikcaaReg
namespace Go.Proofs.Ytlbpephbigikcaa.cel
open Go Go.RowKit

theorem doneInfo : ∃ i z, Try.prog.info? 54 = some i ∧ i.zero = some z ∧ i.size = 6 ∧ z.cells.size = 6 ∧ i.bytes = 64 := by
  have h2 : (Try.prog.info? 54).map (fun i => (i.zero.map (fun z => z.cells.size), i.size, i.bytes)) = some (some 6, 6, 64) := by kernel_rfl
  obtain ⟨i, hi, e⟩ := Option.map_eq_some_iff.1 h2
  simp only [Prod.mk.injEq] at e
  obtain ⟨e1, e2, e3⟩ := e
  obtain ⟨z, hz, e4⟩ := Option.map_eq_some_iff.1 e1
  exact ⟨i, z, hi, hz, e2, e4, e3⟩

theorem one_dn (x : Dn) : ∀ u ∈ dnC x, u.oneCell' = true := by
  intro u hu
  unfold dnC at hu
  simp only [List.mem_cons, List.not_mem_nil, or_false] at hu
  rcases hu with rfl | rfl | rfl | rfl | rfl | rfl <;> rfl
theorem one_row (l : List Dn) : ∀ u ∈ rowD l, u.oneCell' = true := by
  intro u hu
  unfold rowD at hu
  obtain ⟨x, _, h⟩ := List.mem_flatMap.1 hu
  exact one_dn x u h

theorem results_tmp4 {fn : Func} {t u v x : Tmp} (h : fn.results = #[.tmp t, .tmp u, .tmp v, .tmp x]) (tmps : Array Value) (P : Program) (w : World) :
    (results fn tmps).run P w = .ok (.tuple #[tmps.getD t undef, tmps.getD u undef, tmps.getD v undef, tmps.getD x undef]) w := by
  simp [results, h]

/-- A list of accesses in a slice that is not nil, in blocks from B on. -/
structure Lst (B : Nat) (w : World) (v : Value) (l : List Dn) : Prop where
  seg : Seg w 54 6 v l.length (rowD l)
  thick : Thick v l.length
  new : ∀ b, v.ownBlock = some b → B ≤ b

theorem Lst.below {B : Nat} {w w' : World} {v : Value} {l : List Dn} (h : Lst B w v l) (hb : Below w.heap.size w w') : Lst B w' v l :=
  ⟨h.seg.below hb fun _ hv => h.seg.lt hv, h.thick, h.new⟩
theorem Lst.drew {B : Nat} {w : World} {v : Value} {l : List Dn} (h : Lst B w v l) : Lst B w.drew v l := ⟨h.seg, h.thick, h.new⟩
theorem Lst.alloc {B : Nat} {w : World} {v : Value} {l : List Dn} (h : Lst B w v l) (o : Obj) : Lst B (w.alloc o) v l := ⟨h.seg.alloc o, h.thick, h.new⟩

/-- What is told of an access: the list then, what the cell held, was it done, the error's number. -/
def isD (l : List Dn) (k z : Int) (old : ByteArray) : Bool := if k < 3 then true else decide (holds l z = old)

def RDoBad (v : Value) (e : Int) (w : World) (en : Ending) (w' : World) : Prop :=
  en = .returned (.tuple #[v, .string ⟨#[]⟩, .bool false, .int .i64 e]) ∧ Below w.heap.size w w'

def RDoPost (B : Nat) (l : List Dn) (p k z : Int) (old new : ByteArray) (w : World) (en : Ending) (w' : World) : Prop :=
  ∃ r, en = .returned (.tuple #[r, .string (holds l z), .bool (isD l k z old), .int .i64 0]) ∧ Lst B w' r (l ++ [⟨p, k, z, old, new, isD l k z old⟩]) ∧ Below w.heap.size w w'

set_option maxHeartbeats 1000000 in
theorem rdo_range (v : Value) (n p k z : Int) (old new : ByteArray) (w : World) (hz : ¬ (0 ≤ z ∧ z < n)) :
    Calls Try.prog 8 #[v, .int .i64 n, .int .i64 p, .agg #[.int .i64 k, .int .i64 z, .string old, .string new]] w (RDoBad v 6 w) := by
  by_cases h0 : z < 0
  · clear hz
    go_enter Try.func8, Try.ntmps8
    go_wp2_with fail
    refine bodyPost_ret (results_tmp4 rfl _ _ _) rfl ?_
    exact ⟨rfl, (Below.refl _ w).alloc (Nat.le_refl _) _⟩
  · have h1 : n ≤ z := by omega
    clear hz
    go_enter Try.func8, Try.ntmps8
    go_wp2_with fail
    refine bodyPost_ret (results_tmp4 rfl _ _ _) rfl ?_
    exact ⟨rfl, (Below.refl _ w).alloc (Nat.le_refl _) _⟩

set_option maxHeartbeats 1000000 in
theorem rdo_kind (v : Value) (n p k z : Int) (old new : ByteArray) (w : World) (h0 : 0 ≤ z) (h1 : z < n) (hk : k < 1 ∨ 3 < k) :
    Calls Try.prog 8 #[v, .int .i64 n, .int .i64 p, .agg #[.int .i64 k, .int .i64 z, .string old, .string new]] w (RDoBad v 5 w) := by
  by_cases h2 : k < 1
  · clear hk
    go_enter Try.func8, Try.ntmps8
    go_wp2_with fail
    refine bodyPost_ret (results_tmp4 rfl _ _ _) rfl ?_
    exact ⟨rfl, (Below.refl _ w).alloc (Nat.le_refl _) _⟩
  · have h3 : 3 < k := by omega
    clear hk
    go_enter Try.func8, Try.ntmps8
    go_wp2_with fail
    refine bodyPost_ret (results_tmp4 rfl _ _ _) rfl ?_
    exact ⟨rfl, (Below.refl _ w).alloc (Nat.le_refl _) _⟩

theorem Lst.grown {B : Nat} {w w' : World} {v : Value} {l : List Dn} {r : Option Nat} (h : Lst B w v l) (hb : w.grownBy w' r) (hr : ∀ b, v.ownBlock = some b → r ≠ some b) : Lst B w' v l :=
  ⟨h.seg.keep fun b hv => hb.block b (h.seg.lt hv) (fun e => hr b hv e.symm), h.thick, h.new⟩

theorem isD_cases (l : List Dn) (k z : Int) (old : ByteArray) (hk1 : 1 ≤ k) (hk3 : k ≤ 3) : (k < 3 ∧ isD l k z old = true) ∨ (k = 3 ∧ holds l z = old ∧ isD l k z old = true) ∨ (k = 3 ∧ holds l z ≠ old ∧ isD l k z old = false) := by
  by_cases h : k < 3
  · exact .inl ⟨h, if_pos h⟩
  · have e : k = 3 := by omega
    by_cases h2 : holds l z = old
    · exact .inr (.inl ⟨e, h2, by unfold isD; rw [if_neg h, decide_eq_true h2]⟩)
    · exact .inr (.inr ⟨e, h2, by unfold isD; rw [if_neg h, decide_eq_false h2]⟩)

set_option maxRecDepth 100000 in
set_option maxHeartbeats 4000000 in
theorem rdo_calls (B : Nat) (v : Value) (l : List Dn) (n p k z : Int) (old new : ByteArray) (w : World) (h : Lst B w v l) (hB : B ≤ w.heap.size) (hl : l.length ≤ 1000) (h0 : 0 ≤ z) (h1 : z < n) (hk1 : 1 ≤ k) (hk3 : k ≤ 3) :
    Calls Try.prog 8 #[v, .int .i64 n, .int .i64 p, .agg #[.int .i64 k, .int .i64 z, .string old, .string new]] w (RDoPost B l p k z old new w) := by
  obtain ⟨z0i, z0, hi0, hz0, hz1, hz2, hz3⟩ := doneInfo
  have HI0 := Lib.hid hi0
  have HZ0 := Lib.hid hz0
  have HS := Lib.hid h
  have HB := Lib.hid hB
  have HL := Lib.hid hl
  have hc := isD_cases l k z old hk1 hk3
  obtain ⟨t, ht⟩ : ∃ t, t = holds l z := ⟨_, rfl⟩
  obtain ⟨d, hd⟩ : ∃ d, d = isD l k z old := ⟨_, rfl⟩
  rw [← ht, ← hd] at hc
  have HT := Lib.hid ht
  have HD := Lib.hid hd
  clear hi0 hz0 h hB hl ht hd
  rcases hc with ⟨k3, rfl⟩ | ⟨rfl, rfl, rfl⟩ | ⟨rfl, hne, rfl⟩
  --CASES
  · clear hk3
    go_enter Try.func8, Try.ntmps8
    go_wp2_with (first
      | (go_at_call 13; refine (holds_calls ((HS.out.alloc _).seg) (by have := HL.out; omega) z).mono ?_
         rw [← HT.out]
         rintro en w5 ⟨rfl, b5⟩
         have X5 := Lib.hid ((Has.made w 37 _).below b5 (by simp))
         have S5 : Hid (Lst B w5 v l) := Lib.hid ((HS.out.alloc _).below b5)
         have B5 : Hid (Below w.heap.size w w5) := Lib.hid (((Below.refl _ w).alloc (Nat.le_refl _) _).trans (b5.mono (by simp)))
         have c0 := (X5.out.cell 0).trans (show _ = some (Value.int .i64 k) from rfl)
         have c1 := (X5.out.cell 1).trans (show _ = some (Value.int .i64 z) from rfl)
         have c2 := (X5.out.cell 2).trans (show _ = some (Value.string old) from rfl)
         have c3 := (X5.out.cell 3).trans (show _ = some (Value.string new) from rfl)
         have hX5 : w.heap.size < w5.heap.size := X5.out.lt
         clear b5)
      | fail)
    go_region_law (first
        | (refine step_append_all _ rfl (.tmp 46) (.tmp 47) 26 rfl 54 z0i z0 6 64 Try.underlying26 HI0.out HZ0.out hz1 hz3 hz2 (by decide) (.slice (some ⟨w5.heap.size, 0, none⟩) 0 0) 0 [] (by first | (simp [Act.eval]; done) | (simp [Act.eval, Act.put]; done)) ((Seg.empty (heap_alloc_new w5 _)).drew) ⟨_, _, _, rfl⟩ v l.length (rowD l) (by first | (simp [Act.eval]; done) | (simp [Act.eval, Act.put]; done)) ((S5.out.alloc _).drew).seg S5.out.thick (one_row l) (by have := HL.out; unfold maxLen; omega) (by have := HL.out; omega) ?_
           intro r w2 th sg gr nw
           have TH : Hid (Thick r l.length) := Lib.hid (by rw [Nat.zero_add] at th; exact th)
           have A2 : Hid (Seg w2 54 6 r l.length (rowD l)) := Lib.hid (by rw [Nat.zero_add, List.nil_append] at sg; exact sg)
           have NB : Hid (∀ b, r.ownBlock = some b → w5.heap.size ≤ b) := Lib.hid (fun b hb => by
             rcases nw b hb with e | e
             · have := own_of e; omega
             · rw [e]; simp <;> omega)
           have G2 : Hid (Below w5.heap.size w5 w2) := Lib.hid (Below.grown (((Below.refl _ w5).alloc (Nat.le_refl _) _).drew) gr (by simp <;> omega) (fun k e => by have := own_of e; omega))
           have X2 := Lib.hid (X5.out.below G2.out X5.out.lt)
           have d0 := (X2.out.cell 0).trans (show _ = some (Value.int .i64 k) from rfl)
           have d1 := (X2.out.cell 1).trans (show _ = some (Value.int .i64 z) from rfl)
           have d2 := (X2.out.cell 2).trans (show _ = some (Value.string old) from rfl)
           have d3 := (X2.out.cell 3).trans (show _ = some (Value.string new) from rfl)

           clear th sg gr nw)
        | (refine step_append_all _ rfl (.tmp 46) (.tmp 47) 26 rfl 54 z0i z0 6 64 Try.underlying26 HI0.out HZ0.out hz1 hz3 hz2 (by decide) (.slice (some ⟨w5.heap.size, 0, none⟩) 0 0) 0 [] (by first | (simp [Act.eval]; done) | (simp [Act.eval, Act.put]; done)) (((Seg.empty (heap_alloc_new w5 _)).alloc _).drew) ⟨_, _, _, rfl⟩ v l.length (rowD l) (by first | (simp [Act.eval]; done) | (simp [Act.eval, Act.put]; done)) (((S5.out.alloc _).alloc _).drew).seg S5.out.thick (one_row l) (by have := HL.out; unfold maxLen; omega) (by have := HL.out; omega) ?_
           intro r w2 th sg gr nw
           have TH : Hid (Thick r l.length) := Lib.hid (by rw [Nat.zero_add] at th; exact th)
           have A2 : Hid (Seg w2 54 6 r l.length (rowD l)) := Lib.hid (by rw [Nat.zero_add, List.nil_append] at sg; exact sg)
           have NB : Hid (∀ b, r.ownBlock = some b → w5.heap.size ≤ b) := Lib.hid (fun b hb => by
             rcases nw b hb with e | e
             · have := own_of e; omega
             · rw [e]; simp <;> omega)
           have G2 : Hid (Below w5.heap.size w5 w2) := Lib.hid (Below.grown ((((Below.refl _ w5).alloc (Nat.le_refl _) _).alloc (by simp) _).drew) gr (by simp <;> omega) (fun k e => by have := own_of e; omega))
           have X2 := Lib.hid (X5.out.below G2.out X5.out.lt)
           have d0 := (X2.out.cell 0).trans (show _ = some (Value.int .i64 k) from rfl)
           have d1 := (X2.out.cell 1).trans (show _ = some (Value.int .i64 z) from rfl)
           have d2 := (X2.out.cell 2).trans (show _ = some (Value.string old) from rfl)
           have d3 := (X2.out.cell 3).trans (show _ = some (Value.string new) from rfl)
           have D2 : Hid (Has w2 (w5.heap.size + 1) 54 #[.int .i64 p, .int .i64 k, .int .i64 z, .string old, .string new, .bool true]) := Lib.hid (Has.grown ((Has.made1 w5 _ 54 _).drew) gr (fun e => by have := own_of e.symm; omega))
           clear th sg gr nw)
        | (refine step_append_all _ rfl (.tmp 46) (.tmp 47) 26 rfl 54 z0i z0 6 64 Try.underlying26 HI0.out HZ0.out hz1 hz3 hz2 (by decide) (.slice (some ⟨w5.heap.size + 1, 0, none⟩) 0 0) 0 [] (by first | (simp [Act.eval]; done) | (simp [Act.eval, Act.put]; done)) ((Seg.empty1 w5 _ 54 6).drew) ⟨_, _, _, rfl⟩ v l.length (rowD l) (by first | (simp [Act.eval]; done) | (simp [Act.eval, Act.put]; done)) (((S5.out.alloc _).alloc _).drew).seg S5.out.thick (one_row l) (by have := HL.out; unfold maxLen; omega) (by have := HL.out; omega) ?_
           intro r w2 th sg gr nw
           have TH : Hid (Thick r l.length) := Lib.hid (by rw [Nat.zero_add] at th; exact th)
           have A2 : Hid (Seg w2 54 6 r l.length (rowD l)) := Lib.hid (by rw [Nat.zero_add, List.nil_append] at sg; exact sg)
           have NB : Hid (∀ b, r.ownBlock = some b → w5.heap.size ≤ b) := Lib.hid (fun b hb => by
             rcases nw b hb with e | e
             · have := own_of e; omega
             · rw [e]; simp <;> omega)
           have G2 : Hid (Below w5.heap.size w5 w2) := Lib.hid (Below.grown ((((Below.refl _ w5).alloc (Nat.le_refl _) _).alloc (by simp) _).drew) gr (by simp <;> omega) (fun k e => by have := own_of e; omega))
           have X2 := Lib.hid (X5.out.below G2.out X5.out.lt)
           have d0 := (X2.out.cell 0).trans (show _ = some (Value.int .i64 k) from rfl)
           have d1 := (X2.out.cell 1).trans (show _ = some (Value.int .i64 z) from rfl)
           have d2 := (X2.out.cell 2).trans (show _ = some (Value.string old) from rfl)
           have d3 := (X2.out.cell 3).trans (show _ = some (Value.string new) from rfl)
           have D2 : Hid (Has w2 (w5.heap.size) 54 #[.int .i64 p, .int .i64 k, .int .i64 z, .string old, .string new, .bool true]) := Lib.hid (Has.grown (((Has.made w5 54 _).alloc _).drew) gr (fun e => by have := own_of e.symm; omega))
           clear th sg gr nw)
        | (refine step_append_all _ rfl (.tmp 48) (.tmp 53) 26 rfl 54 z0i z0 6 64 Try.underlying26 HI0.out HZ0.out hz1 hz3 hz2 (by decide) r l.length (rowD l) (by first | (simp [Act.eval]; done) | (simp [Act.eval, Act.put]; done)) (A2.out.alloc _) TH.out (.slice (some ⟨w2.heap.size, 0, none⟩) 1 1) 1 (dnC ⟨p, k, z, old, new, true⟩) (by first | (simp [Act.eval]; done) | (simp [Act.eval, Act.put]; done)) (Seg.whole (heap_alloc_new _ _) rfl (by decide)) ⟨_, _, _, rfl⟩ (one_dn _) (by have := HL.out; unfold maxLen; omega) (by have := HL.out; omega) ?_
           intro q w3 th sg gr nw
           have F3 : Hid (Lst B w3 q (l ++ [⟨p, k, z, old, new, true⟩]) ∧ Below w.heap.size w w3) := by
             have hz : w.heap.size ≤ w5.heap.size := B5.out.size
             have hz2 := G2.out.size
             refine Lib.hid ⟨⟨by rw [rowD_snoc, List.length_append]; exact sg, by rw [List.length_append]; exact th, fun b hb => ?_⟩, ?_⟩
             · have := HB.out
               rcases nw b hb with e | e
               · have := NB.out b e; omega
               · rw [e]; first | omega | (simp; omega)
             · exact Below.grown ((B5.out.trans (G2.out.mono B5.out.size)).alloc (by omega) _) gr (by first | omega | (simp; omega)) (fun k e => by have := NB.out k e; omega)
           clear th sg gr nw)
        | (refine step_append_all _ rfl (.tmp 48) (.tmp 53) 26 rfl 54 z0i z0 6 64 Try.underlying26 HI0.out HZ0.out hz1 hz3 hz2 (by decide) r l.length (rowD l) (by first | (simp [Act.eval]; done) | (simp [Act.eval, Act.put]; done)) (A2.out) TH.out (.slice (some ⟨w5.heap.size + 1, 0, none⟩) 1 1) 1 (dnC ⟨p, k, z, old, new, true⟩) (by first | (simp [Act.eval]; done) | (simp [Act.eval, Act.put]; done)) (Seg.whole D2.out rfl (by decide)) ⟨_, _, _, rfl⟩ (one_dn _) (by have := HL.out; unfold maxLen; omega) (by have := HL.out; omega) ?_
           intro q w3 th sg gr nw
           have F3 : Hid (Lst B w3 q (l ++ [⟨p, k, z, old, new, true⟩]) ∧ Below w.heap.size w w3) := by
             have hz : w.heap.size ≤ w5.heap.size := B5.out.size
             have hz2 := G2.out.size
             refine Lib.hid ⟨⟨by rw [rowD_snoc, List.length_append]; exact sg, by rw [List.length_append]; exact th, fun b hb => ?_⟩, ?_⟩
             · have := HB.out
               rcases nw b hb with e | e
               · have := NB.out b e; omega
               · rw [e]; first | omega | (simp; omega)
             · exact Below.grown (B5.out.trans (G2.out.mono B5.out.size)) gr (by first | omega | (simp; omega)) (fun k e => by have := NB.out k e; omega)
           clear th sg gr nw)
        | (refine step_append_all _ rfl (.tmp 48) (.tmp 53) 26 rfl 54 z0i z0 6 64 Try.underlying26 HI0.out HZ0.out hz1 hz3 hz2 (by decide) r l.length (rowD l) (by first | (simp [Act.eval]; done) | (simp [Act.eval, Act.put]; done)) (A2.out) TH.out (.slice (some ⟨w5.heap.size, 0, none⟩) 1 1) 1 (dnC ⟨p, k, z, old, new, true⟩) (by first | (simp [Act.eval]; done) | (simp [Act.eval, Act.put]; done)) (Seg.whole D2.out rfl (by decide)) ⟨_, _, _, rfl⟩ (one_dn _) (by have := HL.out; unfold maxLen; omega) (by have := HL.out; omega) ?_
           intro q w3 th sg gr nw
           have F3 : Hid (Lst B w3 q (l ++ [⟨p, k, z, old, new, true⟩]) ∧ Below w.heap.size w w3) := by
             have hz : w.heap.size ≤ w5.heap.size := B5.out.size
             have hz2 := G2.out.size
             refine Lib.hid ⟨⟨by rw [rowD_snoc, List.length_append]; exact sg, by rw [List.length_append]; exact th, fun b hb => ?_⟩, ?_⟩
             · have := HB.out
               rcases nw b hb with e | e
               · have := NB.out b e; omega
               · rw [e]; first | omega | (simp; omega)
             · exact Below.grown (B5.out.trans (G2.out.mono B5.out.size)) gr (by first | omega | (simp; omega)) (fun k e => by have := NB.out k e; omega)
           clear th sg gr nw))
    all_goals
      go_wp2_with fail
      refine bodyPost_ret (results_tmp4 rfl _ _ _) rfl ?_
      refine ⟨_, ?_, by rw [← HD.out]; exact F3.out.1, F3.out.2⟩
      rw [← HT.out, ← HD.out]
      rfl
  · have e1 : (t.toList == t.toList) = true := beq_self_eq_true _
    clear hk3
    go_enter Try.func8, Try.ntmps8
    go_wp2_with (first
      | (go_at_call 13; refine (holds_calls ((HS.out.alloc _).seg) (by have := HL.out; omega) z).mono ?_
         rw [← HT.out]
         rintro en w5 ⟨rfl, b5⟩
         have X5 := Lib.hid ((Has.made w 37 _).below b5 (by simp))
         have S5 : Hid (Lst B w5 v l) := Lib.hid ((HS.out.alloc _).below b5)
         have B5 : Hid (Below w.heap.size w w5) := Lib.hid (((Below.refl _ w).alloc (Nat.le_refl _) _).trans (b5.mono (by simp)))
         have c0 := (X5.out.cell 0).trans (show _ = some (Value.int .i64 3) from rfl)
         have c1 := (X5.out.cell 1).trans (show _ = some (Value.int .i64 z) from rfl)
         have c2 := (X5.out.cell 2).trans (show _ = some (Value.string t) from rfl)
         have c3 := (X5.out.cell 3).trans (show _ = some (Value.string new) from rfl)
         have hX5 : w.heap.size < w5.heap.size := X5.out.lt
         clear b5)
      | fail)
    go_region_law (first
        | (refine step_append_all _ rfl (.tmp 46) (.tmp 47) 26 rfl 54 z0i z0 6 64 Try.underlying26 HI0.out HZ0.out hz1 hz3 hz2 (by decide) (.slice (some ⟨w5.heap.size, 0, none⟩) 0 0) 0 [] (by first | (simp [Act.eval]; done) | (simp [Act.eval, Act.put]; done)) ((Seg.empty (heap_alloc_new w5 _)).drew) ⟨_, _, _, rfl⟩ v l.length (rowD l) (by first | (simp [Act.eval]; done) | (simp [Act.eval, Act.put]; done)) ((S5.out.alloc _).drew).seg S5.out.thick (one_row l) (by have := HL.out; unfold maxLen; omega) (by have := HL.out; omega) ?_
           intro r w2 th sg gr nw
           have TH : Hid (Thick r l.length) := Lib.hid (by rw [Nat.zero_add] at th; exact th)
           have A2 : Hid (Seg w2 54 6 r l.length (rowD l)) := Lib.hid (by rw [Nat.zero_add, List.nil_append] at sg; exact sg)
           have NB : Hid (∀ b, r.ownBlock = some b → w5.heap.size ≤ b) := Lib.hid (fun b hb => by
             rcases nw b hb with e | e
             · have := own_of e; omega
             · rw [e]; simp <;> omega)
           have G2 : Hid (Below w5.heap.size w5 w2) := Lib.hid (Below.grown (((Below.refl _ w5).alloc (Nat.le_refl _) _).drew) gr (by simp <;> omega) (fun k e => by have := own_of e; omega))
           have X2 := Lib.hid (X5.out.below G2.out X5.out.lt)
           have d0 := (X2.out.cell 0).trans (show _ = some (Value.int .i64 3) from rfl)
           have d1 := (X2.out.cell 1).trans (show _ = some (Value.int .i64 z) from rfl)
           have d2 := (X2.out.cell 2).trans (show _ = some (Value.string t) from rfl)
           have d3 := (X2.out.cell 3).trans (show _ = some (Value.string new) from rfl)

           clear th sg gr nw)
        | (refine step_append_all _ rfl (.tmp 46) (.tmp 47) 26 rfl 54 z0i z0 6 64 Try.underlying26 HI0.out HZ0.out hz1 hz3 hz2 (by decide) (.slice (some ⟨w5.heap.size, 0, none⟩) 0 0) 0 [] (by first | (simp [Act.eval]; done) | (simp [Act.eval, Act.put]; done)) (((Seg.empty (heap_alloc_new w5 _)).alloc _).drew) ⟨_, _, _, rfl⟩ v l.length (rowD l) (by first | (simp [Act.eval]; done) | (simp [Act.eval, Act.put]; done)) (((S5.out.alloc _).alloc _).drew).seg S5.out.thick (one_row l) (by have := HL.out; unfold maxLen; omega) (by have := HL.out; omega) ?_
           intro r w2 th sg gr nw
           have TH : Hid (Thick r l.length) := Lib.hid (by rw [Nat.zero_add] at th; exact th)
           have A2 : Hid (Seg w2 54 6 r l.length (rowD l)) := Lib.hid (by rw [Nat.zero_add, List.nil_append] at sg; exact sg)
           have NB : Hid (∀ b, r.ownBlock = some b → w5.heap.size ≤ b) := Lib.hid (fun b hb => by
             rcases nw b hb with e | e
             · have := own_of e; omega
             · rw [e]; simp <;> omega)
           have G2 : Hid (Below w5.heap.size w5 w2) := Lib.hid (Below.grown ((((Below.refl _ w5).alloc (Nat.le_refl _) _).alloc (by simp) _).drew) gr (by simp <;> omega) (fun k e => by have := own_of e; omega))
           have X2 := Lib.hid (X5.out.below G2.out X5.out.lt)
           have d0 := (X2.out.cell 0).trans (show _ = some (Value.int .i64 3) from rfl)
           have d1 := (X2.out.cell 1).trans (show _ = some (Value.int .i64 z) from rfl)
           have d2 := (X2.out.cell 2).trans (show _ = some (Value.string t) from rfl)
           have d3 := (X2.out.cell 3).trans (show _ = some (Value.string new) from rfl)
           have D2 : Hid (Has w2 (w5.heap.size + 1) 54 #[.int .i64 p, .int .i64 3, .int .i64 z, .string t, .string new, .bool true]) := Lib.hid (Has.grown ((Has.made1 w5 _ 54 _).drew) gr (fun e => by have := own_of e.symm; omega))
           clear th sg gr nw)
        | (refine step_append_all _ rfl (.tmp 46) (.tmp 47) 26 rfl 54 z0i z0 6 64 Try.underlying26 HI0.out HZ0.out hz1 hz3 hz2 (by decide) (.slice (some ⟨w5.heap.size + 1, 0, none⟩) 0 0) 0 [] (by first | (simp [Act.eval]; done) | (simp [Act.eval, Act.put]; done)) ((Seg.empty1 w5 _ 54 6).drew) ⟨_, _, _, rfl⟩ v l.length (rowD l) (by first | (simp [Act.eval]; done) | (simp [Act.eval, Act.put]; done)) (((S5.out.alloc _).alloc _).drew).seg S5.out.thick (one_row l) (by have := HL.out; unfold maxLen; omega) (by have := HL.out; omega) ?_
           intro r w2 th sg gr nw
           have TH : Hid (Thick r l.length) := Lib.hid (by rw [Nat.zero_add] at th; exact th)
           have A2 : Hid (Seg w2 54 6 r l.length (rowD l)) := Lib.hid (by rw [Nat.zero_add, List.nil_append] at sg; exact sg)
           have NB : Hid (∀ b, r.ownBlock = some b → w5.heap.size ≤ b) := Lib.hid (fun b hb => by
             rcases nw b hb with e | e
             · have := own_of e; omega
             · rw [e]; simp <;> omega)
           have G2 : Hid (Below w5.heap.size w5 w2) := Lib.hid (Below.grown ((((Below.refl _ w5).alloc (Nat.le_refl _) _).alloc (by simp) _).drew) gr (by simp <;> omega) (fun k e => by have := own_of e; omega))
           have X2 := Lib.hid (X5.out.below G2.out X5.out.lt)
           have d0 := (X2.out.cell 0).trans (show _ = some (Value.int .i64 3) from rfl)
           have d1 := (X2.out.cell 1).trans (show _ = some (Value.int .i64 z) from rfl)
           have d2 := (X2.out.cell 2).trans (show _ = some (Value.string t) from rfl)
           have d3 := (X2.out.cell 3).trans (show _ = some (Value.string new) from rfl)
           have D2 : Hid (Has w2 (w5.heap.size) 54 #[.int .i64 p, .int .i64 3, .int .i64 z, .string t, .string new, .bool true]) := Lib.hid (Has.grown (((Has.made w5 54 _).alloc _).drew) gr (fun e => by have := own_of e.symm; omega))
           clear th sg gr nw)
        | (refine step_append_all _ rfl (.tmp 48) (.tmp 53) 26 rfl 54 z0i z0 6 64 Try.underlying26 HI0.out HZ0.out hz1 hz3 hz2 (by decide) r l.length (rowD l) (by first | (simp [Act.eval]; done) | (simp [Act.eval, Act.put]; done)) (A2.out.alloc _) TH.out (.slice (some ⟨w2.heap.size, 0, none⟩) 1 1) 1 (dnC ⟨p, 3, z, t, new, true⟩) (by first | (simp [Act.eval]; done) | (simp [Act.eval, Act.put]; done)) (Seg.whole (heap_alloc_new _ _) rfl (by decide)) ⟨_, _, _, rfl⟩ (one_dn _) (by have := HL.out; unfold maxLen; omega) (by have := HL.out; omega) ?_
           intro q w3 th sg gr nw
           have F3 : Hid (Lst B w3 q (l ++ [⟨p, 3, z, t, new, true⟩]) ∧ Below w.heap.size w w3) := by
             have hz : w.heap.size ≤ w5.heap.size := B5.out.size
             have hz2 := G2.out.size
             refine Lib.hid ⟨⟨by rw [rowD_snoc, List.length_append]; exact sg, by rw [List.length_append]; exact th, fun b hb => ?_⟩, ?_⟩
             · have := HB.out
               rcases nw b hb with e | e
               · have := NB.out b e; omega
               · rw [e]; first | omega | (simp; omega)
             · exact Below.grown ((B5.out.trans (G2.out.mono B5.out.size)).alloc (by omega) _) gr (by first | omega | (simp; omega)) (fun k e => by have := NB.out k e; omega)
           clear th sg gr nw)
        | (refine step_append_all _ rfl (.tmp 48) (.tmp 53) 26 rfl 54 z0i z0 6 64 Try.underlying26 HI0.out HZ0.out hz1 hz3 hz2 (by decide) r l.length (rowD l) (by first | (simp [Act.eval]; done) | (simp [Act.eval, Act.put]; done)) (A2.out) TH.out (.slice (some ⟨w5.heap.size + 1, 0, none⟩) 1 1) 1 (dnC ⟨p, 3, z, t, new, true⟩) (by first | (simp [Act.eval]; done) | (simp [Act.eval, Act.put]; done)) (Seg.whole D2.out rfl (by decide)) ⟨_, _, _, rfl⟩ (one_dn _) (by have := HL.out; unfold maxLen; omega) (by have := HL.out; omega) ?_
           intro q w3 th sg gr nw
           have F3 : Hid (Lst B w3 q (l ++ [⟨p, 3, z, t, new, true⟩]) ∧ Below w.heap.size w w3) := by
             have hz : w.heap.size ≤ w5.heap.size := B5.out.size
             have hz2 := G2.out.size
             refine Lib.hid ⟨⟨by rw [rowD_snoc, List.length_append]; exact sg, by rw [List.length_append]; exact th, fun b hb => ?_⟩, ?_⟩
             · have := HB.out
               rcases nw b hb with e | e
               · have := NB.out b e; omega
               · rw [e]; first | omega | (simp; omega)
             · exact Below.grown (B5.out.trans (G2.out.mono B5.out.size)) gr (by first | omega | (simp; omega)) (fun k e => by have := NB.out k e; omega)
           clear th sg gr nw)
        | (refine step_append_all _ rfl (.tmp 48) (.tmp 53) 26 rfl 54 z0i z0 6 64 Try.underlying26 HI0.out HZ0.out hz1 hz3 hz2 (by decide) r l.length (rowD l) (by first | (simp [Act.eval]; done) | (simp [Act.eval, Act.put]; done)) (A2.out) TH.out (.slice (some ⟨w5.heap.size, 0, none⟩) 1 1) 1 (dnC ⟨p, 3, z, t, new, true⟩) (by first | (simp [Act.eval]; done) | (simp [Act.eval, Act.put]; done)) (Seg.whole D2.out rfl (by decide)) ⟨_, _, _, rfl⟩ (one_dn _) (by have := HL.out; unfold maxLen; omega) (by have := HL.out; omega) ?_
           intro q w3 th sg gr nw
           have F3 : Hid (Lst B w3 q (l ++ [⟨p, 3, z, t, new, true⟩]) ∧ Below w.heap.size w w3) := by
             have hz : w.heap.size ≤ w5.heap.size := B5.out.size
             have hz2 := G2.out.size
             refine Lib.hid ⟨⟨by rw [rowD_snoc, List.length_append]; exact sg, by rw [List.length_append]; exact th, fun b hb => ?_⟩, ?_⟩
             · have := HB.out
               rcases nw b hb with e | e
               · have := NB.out b e; omega
               · rw [e]; first | omega | (simp; omega)
             · exact Below.grown (B5.out.trans (G2.out.mono B5.out.size)) gr (by first | omega | (simp; omega)) (fun k e => by have := NB.out k e; omega)
           clear th sg gr nw))
    all_goals
      go_wp2_with fail
      refine bodyPost_ret (results_tmp4 rfl _ _ _) rfl ?_
      refine ⟨_, ?_, by rw [← HD.out]; exact F3.out.1, F3.out.2⟩
      rw [← HT.out, ← HD.out]
      rfl
  · have e1 : (t.toList == old.toList) = false := beq_eq_false_iff_ne.2 fun e => hne (by
      rw [ByteArray.toList_eq, ByteArray.toList_eq] at e
      cases t; cases old
      simp at e
      rw [e])
    replace hne := Lib.hid hne
    clear hk3
    go_enter Try.func8, Try.ntmps8
    go_wp2_with (first
      | (go_at_call 13; refine (holds_calls ((HS.out.alloc _).seg) (by have := HL.out; omega) z).mono ?_
         rw [← HT.out]
         rintro en w5 ⟨rfl, b5⟩
         have X5 := Lib.hid ((Has.made w 37 _).below b5 (by simp))
         have S5 : Hid (Lst B w5 v l) := Lib.hid ((HS.out.alloc _).below b5)
         have B5 : Hid (Below w.heap.size w w5) := Lib.hid (((Below.refl _ w).alloc (Nat.le_refl _) _).trans (b5.mono (by simp)))
         have c0 := (X5.out.cell 0).trans (show _ = some (Value.int .i64 3) from rfl)
         have c1 := (X5.out.cell 1).trans (show _ = some (Value.int .i64 z) from rfl)
         have c2 := (X5.out.cell 2).trans (show _ = some (Value.string old) from rfl)
         have c3 := (X5.out.cell 3).trans (show _ = some (Value.string new) from rfl)
         have hX5 : w.heap.size < w5.heap.size := X5.out.lt
         clear b5)
      | fail)
    go_region_law (first
        | (refine step_append_all _ rfl (.tmp 46) (.tmp 47) 26 rfl 54 z0i z0 6 64 Try.underlying26 HI0.out HZ0.out hz1 hz3 hz2 (by decide) (.slice (some ⟨w5.heap.size, 0, none⟩) 0 0) 0 [] (by first | (simp [Act.eval]; done) | (simp [Act.eval, Act.put]; done)) ((Seg.empty (heap_alloc_new w5 _)).drew) ⟨_, _, _, rfl⟩ v l.length (rowD l) (by first | (simp [Act.eval]; done) | (simp [Act.eval, Act.put]; done)) ((S5.out.alloc _).drew).seg S5.out.thick (one_row l) (by have := HL.out; unfold maxLen; omega) (by have := HL.out; omega) ?_
           intro r w2 th sg gr nw
           have TH : Hid (Thick r l.length) := Lib.hid (by rw [Nat.zero_add] at th; exact th)
           have A2 : Hid (Seg w2 54 6 r l.length (rowD l)) := Lib.hid (by rw [Nat.zero_add, List.nil_append] at sg; exact sg)
           have NB : Hid (∀ b, r.ownBlock = some b → w5.heap.size ≤ b) := Lib.hid (fun b hb => by
             rcases nw b hb with e | e
             · have := own_of e; omega
             · rw [e]; simp <;> omega)
           have G2 : Hid (Below w5.heap.size w5 w2) := Lib.hid (Below.grown (((Below.refl _ w5).alloc (Nat.le_refl _) _).drew) gr (by simp <;> omega) (fun k e => by have := own_of e; omega))
           have X2 := Lib.hid (X5.out.below G2.out X5.out.lt)
           have d0 := (X2.out.cell 0).trans (show _ = some (Value.int .i64 3) from rfl)
           have d1 := (X2.out.cell 1).trans (show _ = some (Value.int .i64 z) from rfl)
           have d2 := (X2.out.cell 2).trans (show _ = some (Value.string old) from rfl)
           have d3 := (X2.out.cell 3).trans (show _ = some (Value.string new) from rfl)

           clear th sg gr nw)
        | (refine step_append_all _ rfl (.tmp 46) (.tmp 47) 26 rfl 54 z0i z0 6 64 Try.underlying26 HI0.out HZ0.out hz1 hz3 hz2 (by decide) (.slice (some ⟨w5.heap.size, 0, none⟩) 0 0) 0 [] (by first | (simp [Act.eval]; done) | (simp [Act.eval, Act.put]; done)) (((Seg.empty (heap_alloc_new w5 _)).alloc _).drew) ⟨_, _, _, rfl⟩ v l.length (rowD l) (by first | (simp [Act.eval]; done) | (simp [Act.eval, Act.put]; done)) (((S5.out.alloc _).alloc _).drew).seg S5.out.thick (one_row l) (by have := HL.out; unfold maxLen; omega) (by have := HL.out; omega) ?_
           intro r w2 th sg gr nw
           have TH : Hid (Thick r l.length) := Lib.hid (by rw [Nat.zero_add] at th; exact th)
           have A2 : Hid (Seg w2 54 6 r l.length (rowD l)) := Lib.hid (by rw [Nat.zero_add, List.nil_append] at sg; exact sg)
           have NB : Hid (∀ b, r.ownBlock = some b → w5.heap.size ≤ b) := Lib.hid (fun b hb => by
             rcases nw b hb with e | e
             · have := own_of e; omega
             · rw [e]; simp <;> omega)
           have G2 : Hid (Below w5.heap.size w5 w2) := Lib.hid (Below.grown ((((Below.refl _ w5).alloc (Nat.le_refl _) _).alloc (by simp) _).drew) gr (by simp <;> omega) (fun k e => by have := own_of e; omega))
           have X2 := Lib.hid (X5.out.below G2.out X5.out.lt)
           have d0 := (X2.out.cell 0).trans (show _ = some (Value.int .i64 3) from rfl)
           have d1 := (X2.out.cell 1).trans (show _ = some (Value.int .i64 z) from rfl)
           have d2 := (X2.out.cell 2).trans (show _ = some (Value.string old) from rfl)
           have d3 := (X2.out.cell 3).trans (show _ = some (Value.string new) from rfl)
           have D2 : Hid (Has w2 (w5.heap.size + 1) 54 #[.int .i64 p, .int .i64 3, .int .i64 z, .string old, .string new, .bool false]) := Lib.hid (Has.grown ((Has.made1 w5 _ 54 _).drew) gr (fun e => by have := own_of e.symm; omega))
           clear th sg gr nw)
        | (refine step_append_all _ rfl (.tmp 46) (.tmp 47) 26 rfl 54 z0i z0 6 64 Try.underlying26 HI0.out HZ0.out hz1 hz3 hz2 (by decide) (.slice (some ⟨w5.heap.size + 1, 0, none⟩) 0 0) 0 [] (by first | (simp [Act.eval]; done) | (simp [Act.eval, Act.put]; done)) ((Seg.empty1 w5 _ 54 6).drew) ⟨_, _, _, rfl⟩ v l.length (rowD l) (by first | (simp [Act.eval]; done) | (simp [Act.eval, Act.put]; done)) (((S5.out.alloc _).alloc _).drew).seg S5.out.thick (one_row l) (by have := HL.out; unfold maxLen; omega) (by have := HL.out; omega) ?_
           intro r w2 th sg gr nw
           have TH : Hid (Thick r l.length) := Lib.hid (by rw [Nat.zero_add] at th; exact th)
           have A2 : Hid (Seg w2 54 6 r l.length (rowD l)) := Lib.hid (by rw [Nat.zero_add, List.nil_append] at sg; exact sg)
           have NB : Hid (∀ b, r.ownBlock = some b → w5.heap.size ≤ b) := Lib.hid (fun b hb => by
             rcases nw b hb with e | e
             · have := own_of e; omega
             · rw [e]; simp <;> omega)
           have G2 : Hid (Below w5.heap.size w5 w2) := Lib.hid (Below.grown ((((Below.refl _ w5).alloc (Nat.le_refl _) _).alloc (by simp) _).drew) gr (by simp <;> omega) (fun k e => by have := own_of e; omega))
           have X2 := Lib.hid (X5.out.below G2.out X5.out.lt)
           have d0 := (X2.out.cell 0).trans (show _ = some (Value.int .i64 3) from rfl)
           have d1 := (X2.out.cell 1).trans (show _ = some (Value.int .i64 z) from rfl)
           have d2 := (X2.out.cell 2).trans (show _ = some (Value.string old) from rfl)
           have d3 := (X2.out.cell 3).trans (show _ = some (Value.string new) from rfl)
           have D2 : Hid (Has w2 (w5.heap.size) 54 #[.int .i64 p, .int .i64 3, .int .i64 z, .string old, .string new, .bool false]) := Lib.hid (Has.grown (((Has.made w5 54 _).alloc _).drew) gr (fun e => by have := own_of e.symm; omega))
           clear th sg gr nw)
        | (refine step_append_all _ rfl (.tmp 48) (.tmp 53) 26 rfl 54 z0i z0 6 64 Try.underlying26 HI0.out HZ0.out hz1 hz3 hz2 (by decide) r l.length (rowD l) (by first | (simp [Act.eval]; done) | (simp [Act.eval, Act.put]; done)) (A2.out.alloc _) TH.out (.slice (some ⟨w2.heap.size, 0, none⟩) 1 1) 1 (dnC ⟨p, 3, z, old, new, false⟩) (by first | (simp [Act.eval]; done) | (simp [Act.eval, Act.put]; done)) (Seg.whole (heap_alloc_new _ _) rfl (by decide)) ⟨_, _, _, rfl⟩ (one_dn _) (by have := HL.out; unfold maxLen; omega) (by have := HL.out; omega) ?_
           intro q w3 th sg gr nw
           have F3 : Hid (Lst B w3 q (l ++ [⟨p, 3, z, old, new, false⟩]) ∧ Below w.heap.size w w3) := by
             have hz : w.heap.size ≤ w5.heap.size := B5.out.size
             have hz2 := G2.out.size
             refine Lib.hid ⟨⟨by rw [rowD_snoc, List.length_append]; exact sg, by rw [List.length_append]; exact th, fun b hb => ?_⟩, ?_⟩
             · have := HB.out
               rcases nw b hb with e | e
               · have := NB.out b e; omega
               · rw [e]; first | omega | (simp; omega)
             · exact Below.grown ((B5.out.trans (G2.out.mono B5.out.size)).alloc (by omega) _) gr (by first | omega | (simp; omega)) (fun k e => by have := NB.out k e; omega)
           clear th sg gr nw)
        | (refine step_append_all _ rfl (.tmp 48) (.tmp 53) 26 rfl 54 z0i z0 6 64 Try.underlying26 HI0.out HZ0.out hz1 hz3 hz2 (by decide) r l.length (rowD l) (by first | (simp [Act.eval]; done) | (simp [Act.eval, Act.put]; done)) (A2.out) TH.out (.slice (some ⟨w5.heap.size + 1, 0, none⟩) 1 1) 1 (dnC ⟨p, 3, z, old, new, false⟩) (by first | (simp [Act.eval]; done) | (simp [Act.eval, Act.put]; done)) (Seg.whole D2.out rfl (by decide)) ⟨_, _, _, rfl⟩ (one_dn _) (by have := HL.out; unfold maxLen; omega) (by have := HL.out; omega) ?_
           intro q w3 th sg gr nw
           have F3 : Hid (Lst B w3 q (l ++ [⟨p, 3, z, old, new, false⟩]) ∧ Below w.heap.size w w3) := by
             have hz : w.heap.size ≤ w5.heap.size := B5.out.size
             have hz2 := G2.out.size
             refine Lib.hid ⟨⟨by rw [rowD_snoc, List.length_append]; exact sg, by rw [List.length_append]; exact th, fun b hb => ?_⟩, ?_⟩
             · have := HB.out
               rcases nw b hb with e | e
               · have := NB.out b e; omega
               · rw [e]; first | omega | (simp; omega)
             · exact Below.grown (B5.out.trans (G2.out.mono B5.out.size)) gr (by first | omega | (simp; omega)) (fun k e => by have := NB.out k e; omega)
           clear th sg gr nw)
        | (refine step_append_all _ rfl (.tmp 48) (.tmp 53) 26 rfl 54 z0i z0 6 64 Try.underlying26 HI0.out HZ0.out hz1 hz3 hz2 (by decide) r l.length (rowD l) (by first | (simp [Act.eval]; done) | (simp [Act.eval, Act.put]; done)) (A2.out) TH.out (.slice (some ⟨w5.heap.size, 0, none⟩) 1 1) 1 (dnC ⟨p, 3, z, old, new, false⟩) (by first | (simp [Act.eval]; done) | (simp [Act.eval, Act.put]; done)) (Seg.whole D2.out rfl (by decide)) ⟨_, _, _, rfl⟩ (one_dn _) (by have := HL.out; unfold maxLen; omega) (by have := HL.out; omega) ?_
           intro q w3 th sg gr nw
           have F3 : Hid (Lst B w3 q (l ++ [⟨p, 3, z, old, new, false⟩]) ∧ Below w.heap.size w w3) := by
             have hz : w.heap.size ≤ w5.heap.size := B5.out.size
             have hz2 := G2.out.size
             refine Lib.hid ⟨⟨by rw [rowD_snoc, List.length_append]; exact sg, by rw [List.length_append]; exact th, fun b hb => ?_⟩, ?_⟩
             · have := HB.out
               rcases nw b hb with e | e
               · have := NB.out b e; omega
               · rw [e]; first | omega | (simp; omega)
             · exact Below.grown (B5.out.trans (G2.out.mono B5.out.size)) gr (by first | omega | (simp; omega)) (fun k e => by have := NB.out k e; omega)
           clear th sg gr nw))
    all_goals
      go_wp2_with fail
      refine bodyPost_ret (results_tmp4 rfl _ _ _) rfl ?_
      refine ⟨_, ?_, by rw [← HD.out]; exact F3.out.1, F3.out.2⟩
      rw [← HT.out, ← HD.out]
      rfl

end Go.Proofs.Ytlbpephbigikcaa.cel
