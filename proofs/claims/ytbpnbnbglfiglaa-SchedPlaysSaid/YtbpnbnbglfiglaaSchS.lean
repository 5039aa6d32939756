/- sched: the document's Pace, Set. -/
import Derived.Test.YtbpnbnbglfiglaaSchR
namespace Go.Proofs.Ytbpnbnbglfiglaa.sch
open Go Go.RowKit

theorem calls_name {P : Program} {f : FuncId} {args : Array Value} {w : World} {R : Ending → World → Prop} (h : ∀ W, w = W → Calls P f args W R) : Calls P f args w R := h w rfl
theorem dpace_calls (p : Int) (w : World) : Calls Try.prog 25 #[.int .i64 p] w fun en w' => en = .returned (.int .i64 (bnd p)) ∧ w = w' := by
  unfold bnd
  by_cases h0 : p < 0
  · rw [if_pos h0]
    have h2 : ¬ 0 ≤ p := by omega
    go_enter Try.func25, Try.ntmps25
    go_wp2_with fail
    all_goals first | (go_ret; exact ⟨rfl, rfl⟩) | (exfalso; omega)
  · rw [if_neg h0]
    have h2 : 0 ≤ p := by omega
    by_cases h1 : 1048576 < p
    · rw [if_pos h1]
      have h3 : ¬ p ≤ 1048576 := by omega
      go_enter Try.func25, Try.ntmps25
      go_wp2_with fail
      all_goals first | (go_ret; exact ⟨rfl, rfl⟩) | (exfalso; omega)
    · rw [if_neg h1]
      have h3 : p ≤ 1048576 := by omega
      go_enter Try.func25, Try.ntmps25
      go_wp2_with fail
      all_goals first | (go_ret; exact ⟨rfl, rfl⟩) | (exfalso; omega)

theorem wpList_store_ds {ops : Array Oper} {rest : List Oper} {o : Oper} {a : Act} {w : World} {Q : Exit → Act → World → Prop} (hgd : o.guard = none) (x y : Operand) (ho : o.op = .store 30 x y) (g : Nat) {a0 a1 a2 a3 b0 b1 b2 b3 : Value} (hx : a.eval x = .pointer (some ⟨g, 0, none⟩)) (hy : a.eval y = .agg #[a0, a1, a2, a3])
    (hg : Has w g 30 #[b0, b1, b2, b3]) (h1 : (#[a0, a1, a2, a3] : Array Value).all (·.oneCell') = true) (h : ∀ w', Has w' g 30 #[a0, a1, a2, a3] → Turn (fun k => k = g) w w' → wpList Try.prog ops Q rest (a.put o.dst undef) w') : wpList Try.prog ops Q (o :: rest) a w :=
  wpList_store_row hgd 30 x y ho g #[a0, a1, a2, a3] hx hy 30 #[b0, b1, b2, b3] hg (by kernel_rfl) rfl h1 (h _ (hg.row _) (turn_row _ _ _))
theorem intInfo : ∃ i z, Try.prog.info? 3 = some i ∧ i.zero = some z ∧ i.size = 1 ∧ z.cells.size = 1 ∧ i.bytes = 8 := by
  have h2 : (Try.prog.info? 3).map (fun i => (i.zero.map (fun z => z.cells.size), i.size, i.bytes)) = some (some 1, 1, 8) := by kernel_rfl
  obtain ⟨i, hi, e⟩ := Option.map_eq_some_iff.1 h2
  simp only [Prod.mk.injEq] at e
  obtain ⟨e1, e2, e3⟩ := e
  obtain ⟨z, hz, e4⟩ := Option.map_eq_some_iff.1 e1
  exact ⟨i, z, hi, hz, e2, e4, e3⟩

set_option maxRecDepth 100000 in
set_option maxHeartbeats 4000000 in
theorem Dm.set {W : World} {pa la : Option Addr} {pn pc ln lc : Nat} {d : Dc} (h : Dm W pa pn pc la ln lc d) (i : Nat) (hi : i < d.P.length) (p : Int) (hT0 : 0 ≤ d.T) (hT : d.T ≤ 1000000000000000) (hc0 : 0 ≤ d.c) (hc : d.c ≤ 1000000000) (hl : d.L.length ≤ 100000) (hpl : d.P.length ≤ 1000) :
    Calls Try.prog 11 #[.agg (dsC pa pn pc la ln lc d.T d.c), .int .i64 i, .int .i64 p] W (DlPost (setD d i p) W) := by
  obtain ⟨z0i, z0, hi0, hz0, hz1, hz2, hz3⟩ := intInfo
  have HI0 := Lib.hid hi0
  have HZ0 := Lib.hid hz0
  have H := Lib.hid h
  obtain ⟨T, hTT⟩ : ∃ T, T = d.T := ⟨_, rfl⟩
  obtain ⟨cc, hcc⟩ : ∃ cc, cc = d.c := ⟨_, rfl⟩
  rw [← hTT, ← hcc]
  have HE := Lib.hid (And.intro hTT hcc)
  have HN := Lib.hid (And.intro hi (And.intro hl (And.intro hpl (And.intro hT0 (And.intro hT (And.intro hc0 hc))))))
  clear h hi0 hz0 hi hl hpl hT0 hT hc0 hc hTT hcc
  go_enter Try.func11, Try.ntmps11
  go_wp2_with fail
  refine calls_name (fun U hU => ?_)
  have HU : Hid (Dm U pa pn pc la ln lc d ∧ Has U W.heap.size 30 (dsC pa pn pc la ln lc T cc) ∧ Has U (W.heap.size + 1) 30 dsZ ∧ Below W.heap.size W U) := by
    rw [← hU]
    exact Lib.hid ⟨(H.out.alloc _).alloc _, (Has.made W _ _).alloc _, made_at _ _ (by simp), ((Below.refl _ W).alloc (Nat.le_refl _) _).alloc (by simp) _⟩
  clear hU
  have hd := HU.out.1.drop i HN.out.2.1
  rw [← HE.out.1, ← HE.out.2] at hd
  refine hd.mono ?_
  intro en w1 hd0
  obtain ⟨pa1, pn1, pc1, la1, ln1, lc1, rfl, hd1, b1⟩ := hd0.dm
  clear hd0
  have e1 : (dropD d i).T = T := HE.out.1.symm
  have e2 : (dropD d i).c = cc := HE.out.2.symm
  rw [e1, e2]
  have K1 : Hid (Dm w1 pa1 pn1 pc1 la1 ln1 lc1 (dropD d i) ∧ Has w1 W.heap.size 30 (dsC pa pn pc la ln lc T cc) ∧ Has w1 (W.heap.size + 1) 30 dsZ ∧ Below W.heap.size W w1) := Lib.hid ⟨hd1, HU.out.2.1.below b1 HU.out.2.1.lt, HU.out.2.2.1.below b1 HU.out.2.2.1.lt, HU.out.2.2.2.trans (b1.mono HU.out.2.2.2.size)⟩
  clear hd hd1 b1 HU e1 e2
  go_wp2_with (first
    | ((with_reducible refine at_store (.tmp 3) ?_); refine wpList_store_ds (o := ⟨none, _, _, _, _, _⟩) rfl _ _ rfl W.heap.size rfl rfl K1.out.2.1 (by simp [Value.oneCell']) ?_; intro W2 h2 t2
       (have K2 : Hid (Dm W2 pa1 pn1 pc1 la1 ln1 lc1 (dropD d i) ∧ Has W2 W.heap.size 30 (dsC pa1 pn1 pc1 la1 ln1 lc1 T cc) ∧ Has W2 (W.heap.size + 1) 30 dsZ ∧ Below W.heap.size W W2) := Lib.hid ⟨K1.out.1.other K1.out.2.1 t2 (by decide) (by decide), h2, K1.out.2.2.1.turn t2 (by omega), K1.out.2.2.2.trans (t2.below K1.out.2.2.2.size (fun j hj e => by omega))⟩)
       (have hbw : W.heap.size < W2.heap.size := h2.lt)
       (have x0 : W2.cell? ⟨W.heap.size, 0, none⟩ = some (.slice pa1 pn1 pc1) := h2.cell 0)
       (clear h2 t2 K1))
    | ((with_reducible refine at_op 14 ?_); refine wpList_append_any (o := ⟨some 14, _, _, _, _, _⟩) _ rfl (.tmp 11) (.tmp 13) 22 rfl 3 z0i z0 1 8 Try.underlying22 HI0.out HZ0.out hz1 hz3 hz2 (by decide) (.slice (some ⟨W2.heap.size, 0, none⟩) 0 0) 0 [] rfl (Seg.empty (Has.made W2 3 #[])) ⟨_, _, _, rfl⟩ (.slice pa1 pn1 pc1) pn1 ((dropD d i).P.map (Value.int .i64)) rfl ((K2.out.1.alloc _).pac) (seg_thin K2.out.1.pac) (fun u hu => by obtain ⟨n, _, rfl⟩ := List.mem_map.1 hu; rfl) (by have := HN.out; have h3 := K2.out.1.pn_; have h4 : (dropD d i).P.length = d.P.length := rfl; unfold maxLen; omega) (by have := HN.out; have h3 := K2.out.1.pn_; have h4 : (dropD d i).P.length = d.P.length := rfl; omega) ?_
       intro q W3 th sg gr nw
       rw [Nat.zero_add] at th sg
       rw [List.nil_append] at sg
       obtain ⟨gq, oq, cq, rfl⟩ := th
       (have K3 : Hid (Dm W3 pa1 pn1 pc1 la1 ln1 lc1 (dropD d i) ∧ Has W3 W.heap.size 30 (dsC pa1 pn1 pc1 la1 ln1 lc1 T cc) ∧ Has W3 (W.heap.size + 1) 30 dsZ ∧ Below W.heap.size W W3 ∧ Seg W3 3 1 (.slice (some ⟨gq, oq, none⟩) pn1 cq) pn1 ((dropD d i).P.map (Value.int .i64)) ∧ W.heap.size + 1 < gq ∧ (∀ b, (Value.slice la1 ln1 lc1).ownBlock = some b → b ≠ gq) ∧ pn1 = d.P.length) := by
         have b3 : Below W2.heap.size W2 W3 := Below.grown ((Below.refl _ W2).alloc (Nat.le_refl _) _) gr (by simp) (fun k e => by have := own_of e; omega)
         have hz := K2.out.2.2.1.lt
         have hgq : W2.heap.size ≤ gq := by
           rcases nw gq rfl with e | e
           · have := own_of e; omega
           · rw [e]; simp
         exact Lib.hid ⟨K2.out.1.below b3, K2.out.2.1.below b3 K2.out.2.1.lt, K2.out.2.2.1.below b3 hz, K2.out.2.2.2.trans (b3.mono K2.out.2.2.2.size), sg, by omega, fun b hb e => by have := K2.out.1.lst.lt hb; omega, by have := K2.out.1.pn_; exact this.symm⟩)
       (clear sg gr nw x0 hbw K2))
    | fail)
  refine (dpace_calls p W3).mono ?_
  rintro en w4 ⟨rfl, rfl⟩
  obtain ⟨old, hold⟩ : ∃ old, ((dropD d i).P.map (Value.int .i64))[i]? = some old := ⟨_, List.getElem?_eq_getElem (by rw [List.length_map]; exact HN.out.1)⟩
  have ci : W3.cell? ⟨gq, oq + i, none⟩ = some old := by
    have hp := HN.out.1
    have hq := K3.out.2.2.2.2.2.2.2
    obtain ⟨g', o', c', e, hg, -, -, hc⟩ := K3.out.2.2.2.2.1.cells (by omega)
    simp only [Value.slice.injEq, Option.some.injEq, Addr.mk.injEq, and_true, true_and] at e
    obtain ⟨⟨rfl, rfl⟩, rfl⟩ := e
    exact hc i old hold
  have fi : W3.frozen? ⟨gq, oq + i, none⟩ = false := K3.out.2.2.2.2.1.free _
  have i0 : (0 : Int) ≤ (i : Int) := by omega
  have i1 : (i : Int) < (pn1 : Int) := by have := HN.out.1; have := K3.out.2.2.2.2.2.2.2; omega
  have x0 : W3.cell? ⟨W.heap.size, 0, none⟩ = some (.slice pa1 pn1 pc1) := K3.out.2.1.cell 0
  have x1 : W3.cell? ⟨W.heap.size, 1, none⟩ = some (.slice la1 ln1 lc1) := K3.out.2.1.cell 1
  have x2 : W3.cell? ⟨W.heap.size, 2, none⟩ = some (.int .i64 T) := K3.out.2.1.cell 2
  have x3 : W3.cell? ⟨W.heap.size, 3, none⟩ = some (.int .i64 cc) := K3.out.2.1.cell 3
  have f0 : W3.frozen? ⟨W.heap.size, 0, none⟩ = false := K3.out.2.1.free 0
  have hne : ¬ gq = W.heap.size := by have := K3.out.2.2.2.2.2.1; omega
  have hne2 : ¬ W.heap.size = gq := by have := K3.out.2.2.2.2.2.1; omega
  go_wp2_with fail
  refine calls_name (fun V hV => ?_)
  have K4 : Hid (Dm V (some ⟨gq, oq, none⟩) pn1 cq la1 ln1 lc1 { dropD d i with P := d.P.set i (bnd p) } ∧ Has V (W.heap.size + 1) 30 dsZ ∧ Below W.heap.size W V ∧ W.heap.size + 1 < gq) := by
    have t1 : Turn (fun j => j = gq ∨ j = W.heap.size) W3 V := by
      rw [← hV]
      exact ((Turn.refl (fun j => j = gq ∨ j = W.heap.size) W3).put (fun _ => .inl rfl) _ _).put (fun _ => .inr rfl) _ _
    have hg := K3.out.2.2.2.2.2.1
    have hla := K3.out.2.2.2.2.2.2.1
    refine Lib.hid ⟨⟨?_, K3.out.1.lst.turn t1 (fun b hb e => ?_)⟩, K3.out.2.2.1.turn t1 (by omega), K3.out.2.2.2.1.trans (t1.below K3.out.2.2.2.1.size (fun j hj e => by omega)), hg⟩
    · have h1 := (K3.out.2.2.2.2.1.put i (.int .i64 (bnd p)))
      have t2 : Turn (fun j => j = W.heap.size) (W3.setCell ⟨gq, oq + i, none⟩ (.int .i64 (bnd p))) V := by
        rw [← hV]
        exact (Turn.refl (fun j => j = W.heap.size) _).put (fun _ => rfl) _ _
      have h2 := h1.turn t2 (fun b hb e => by have := own_of hb; omega)
      have e : ((dropD d i).P.map (Value.int .i64)).set i (.int .i64 (bnd p)) = (d.P.set i (bnd p)).map (Value.int .i64) := by rw [List.map_set]; rfl
      rw [e] at h2
      exact h2
    · rcases e with e | e
      · exact hla b hb e
      · exact K3.out.1.lst.ne K3.out.2.1 (by decide) (by rw [hb, e])
  clear hV ci fi x0 x1 x2 x3 f0 hne hne2 K3
  obtain ⟨d2, hd2⟩ : ∃ d2 : Dc, d2 = { dropD d i with P := d.P.set i (bnd p) } := ⟨_, rfl⟩
  have hset : setD d i p = sch.due d2 i := by rw [hd2]; rfl
  have HSE := Lib.hid hset
  have hP2 : d2.P = d.P.set i (bnd p) := by rw [hd2]
  have hn := HN.out
  have hlen : d2.P.length = d.P.length := by rw [hP2, List.length_set]
  have hpc : sch.pace d2.P i = bnd p := pace_get (by rw [hP2, List.getElem?_set_self hn.1])
  have hLl : d2.L.length ≤ d.L.length := by rw [hd2]; exact List.length_filter_le _ _
  have hT2 : d2.T = d.T := by rw [hd2]; rfl
  have hc2 : d2.c = d.c := by rw [hd2]; rfl
  have K5 : Hid (Dm V (some ⟨gq, oq, none⟩) pn1 cq la1 ln1 lc1 d2) := Lib.hid (by rw [hd2]; exact K4.out.1)
  have hdue := K5.out.due1 i (by omega) (by omega) (by omega) (by rw [hpc]; exact (bnd_range p).2) (by omega) (by omega) (by omega) (by omega)
  rw [hT2, hc2, ← HE.out.1, ← HE.out.2] at hdue
  clear hset hP2 hn hlen hpc hLl hT2 hc2 hd2 hold
  refine hdue.mono ?_
  rintro en w6 ⟨la6, ln6, lc6, rfl, hd6, b6⟩
  have K6 : Hid (Dm w6 (some ⟨gq, oq, none⟩) pn1 cq la6 ln6 lc6 (sch.due d2 i) ∧ Has w6 (W.heap.size + 1) 30 dsZ ∧ Below W.heap.size W w6 ∧ W.heap.size + 1 < gq) := Lib.hid ⟨hd6, K4.out.2.1.below b6 K4.out.2.1.lt, K4.out.2.2.1.trans (b6.mono K4.out.2.2.1.size), K4.out.2.2.2⟩
  clear hd6 b6 hdue K4 K5
  go_wp2_with (first
    | ((with_reducible refine at_store (.tmp 6) ?_); refine wpList_store_ds (o := ⟨none, _, _, _, _, _⟩) rfl _ _ rfl (W.heap.size + 1) rfl rfl K6.out.2.1 (by simp [Value.oneCell']) ?_; intro W7 h7 t7)
    | fail)
  refine bodyPost_ret (res_ds rfl _ _ (W.heap.size + 1) _ _ _ _ rfl h7) rfl ?_
  rw [HSE.out]
  exact ⟨_, _, _, _, _, _, rfl, K6.out.1.other K6.out.2.1 t7 (by decide) (by decide), K6.out.2.2.1.trans (t7.below K6.out.2.2.1.size (fun j hj e => by omega)), fun b hb => by have := own_of hb; have := K6.out.2.2.2; omega⟩
end Go.Proofs.Ytbpnbnbglfiglaa.sch
