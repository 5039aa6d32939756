/- LedgerApart: for every list of ops and every two ops the law answers true, and its arguments read afterwards as they did. Conditions: none. -/
import Derived.Test.YtfhpcodjmmidhaaLedV
namespace Go.Proofs.Ytfhpcodjmmidhaa.ledgerApart
open Go.ChangeShapes Go.WideShapes Go.ChangeAt Go.RowKit Go.Maps

/-- Two boxes of ops, made since w. -/
structure Bx (w : World) (P Q : Nat) (p q : OpL) (V : World) : Prop where
  hp : Has V P 29 p.cells.toArray
  hq : Has V Q 29 q.cells.toArray
  np : w.heap.size ≤ P
  nq : w.heap.size ≤ Q
  turn : Turn (fun j => w.heap.size ≤ j) w V

section
variable {w V V' : World} {P Q : Nat} {p q : OpL}
theorem Bx.more (h : Bx w P Q p q V) (t : Turn (fun j => V.heap.size ≤ j) V V') : Bx w P Q p q V' :=
  ⟨h.hp.turn t (Nat.not_le_of_lt h.hp.lt), h.hq.turn t (Nat.not_le_of_lt h.hq.lt), h.np, h.nq, h.turn.trans t (fun _ _ e => Nat.le_trans h.turn.size e)⟩
theorem Bx.below (h : Bx w P Q p q V) (b : Below V.heap.size V V') : Bx w P Q p q V' := h.more (Turn.of_below b (fun _ _ e => e))
theorem Bx.ends (h : Bx w P Q p q V) : Below w.heap.size w V := h.turn.below (Nat.le_refl _) (fun j hj e => by omega)
/-- A map has turned. -/
theorem Bx.did (h : Bx w P Q p q V) {m : Nat} {D : DataW Unit} (hm : Mp V m D) (hn : w.heap.size ≤ m) (g : V.grownBy V' (some m)) : Bx w P Q p q V' :=
  ⟨h.hp.grown g (fun e => by injection e with e; exact hm.ne h.hp e.symm), h.hq.grown g (fun e => by injection e with e; exact hm.ne h.hq e.symm), h.np, h.nq,
    h.turn.trans (Turn.of_grown (F := fun j => j = m) g rfl) (fun j _ e => by rw [e]; exact hn)⟩
theorem Bx.pcells (h : Bx w P Q p q V) : V.cell? ⟨P, 0, none⟩ = some (.int .i64 p.k) ∧ V.cell? ⟨P, 1, none⟩ = some (.string p.s) ∧ V.cell? ⟨P, 2, none⟩ = some (.string p.t) ∧ V.cell? ⟨P, 3, none⟩ = some (.int .i64 p.n) :=
  ⟨h.hp.cell 0, h.hp.cell 1, h.hp.cell 2, h.hp.cell 3⟩
theorem Bx.qcells (h : Bx w P Q p q V) : V.cell? ⟨Q, 0, none⟩ = some (.int .i64 q.k) ∧ V.cell? ⟨Q, 1, none⟩ = some (.string q.s) ∧ V.cell? ⟨Q, 2, none⟩ = some (.string q.t) ∧ V.cell? ⟨Q, 3, none⟩ = some (.int .i64 q.n) :=
  ⟨h.hq.cell 0, h.hq.cell 1, h.hq.cell 2, h.hq.cell 3⟩
end

theorem row_below {w w' : World} {v : Value} {n : Nat} {xs : List Value} (h : w.ownsRow 0 9 1 v n xs) (b : Below w.heap.size w w') : w'.ownsRow 0 9 1 v n xs :=
  own_turn h (Turn.of_below b (F := fun j => w.heap.size ≤ j) (fun _ _ e => e)) (fun _ hb => Nat.not_le_of_lt (own_lt h hb))

theorem eqb_of {x y : List UInt8} : ((⟨x.toArray⟩ : ByteArray).toList == (⟨y.toArray⟩ : ByteArray).toList) = (x == y) := by
  rw [ByteArray.toList_eq, ByteArray.toList_eq]

/-- No name in common. -/
theorem apart_of {s t s' t' : ByteArray} (h : ∀ x ∈ tch s t, ∀ y ∈ tch s' t', x ≠ y) : Apart2 s t s' t' := by
  have mem : ∀ (u : ByteArray) (a b : ByteArray), u ≠ .empty → (u = a ∨ u = b) → u.data.toList ∈ tch a b := fun u a b h0 h1 => by
    unfold tch nb
    rw [List.mem_filter]
    have : u.data.toList ≠ [] := fun e => h0 (bytes_inj (e.trans rfl))
    refine ⟨?_, by cases hu : u.data.toList with | nil => exact absurd hu this | cons a b => rfl⟩
    rcases h1 with rfl | rfl <;> simp
  have key : ∀ a b, (a = s ∨ a = t) → (b = s' ∨ b = t') → a = b → a = .empty := fun a b ha hb e => by
    by_cases h0 : a = .empty
    · exact h0
    · exact absurd (by rw [e]) (h _ (mem a s t h0 ha) _ (mem b s' t' (e ▸ h0) hb))
  exact ⟨fun e => key s s' (.inl rfl) (.inl rfl) e, fun e => key s t' (.inl rfl) (.inr rfl) e, fun e => key t s' (.inr rfl) (.inl rfl) e, fun e => key t t' (.inr rfl) (.inr rfl) e⟩

set_option maxRecDepth 100000 in
set_option maxHeartbeats 4000000 in
theorem apart_any (a : Option Addr) (len cap : Nat) (p0 q0 : OpL) (w : World) (hA : ArgL w a len) (hp1 : p0.s.size ≤ maxLen) (hp2 : p0.t.size ≤ maxLen) (hq1 : q0.s.size ≤ maxLen) (hq2 : q0.t.size ≤ maxLen) :
    Calls Try.prog 4 #[.slice a len cap, .agg #[.int .i64 p0.k, .string p0.s, .string p0.t, .int .i64 p0.n], .agg #[.int .i64 q0.k, .string q0.s, .string q0.t, .int .i64 q0.n]] w fun en w' => en = .returned (.bool true) ∧ Below w.heap.size w w' := by
  have hlen : len ≤ 9223372036854775807 := by have := hA.1; unfold maxLen at this; omega
  have HA := Lib.hid hA
  have FP := fun W => Lib.hid (lfew_any p0 W hp1 hp2)
  have FQ := fun W => Lib.hid (lfew_any q0 W hq1 hq2)
  clear hA hp1 hp2 hq1 hq2
  go_enter Try.func4, Try.ntmps4
  go_wp2_with fail
  refine callsName (fun W hW => ?_)
  obtain ⟨P, eP⟩ : ∃ P, P = w.heap.size := ⟨_, rfl⟩
  have HB0 : Hid (Bx w P (P + 1) p0 q0 W) := by
    refine ⟨?_, ?_, by omega, by omega, ?_⟩
    · rw [← hW, eP]; exact (Has.made _ _ _).alloc _
    · rw [← hW, eP]; exact made_at _ _ (by simp)
    · rw [← hW]; exact ((Turn.refl _ _).alloc _).alloc _
  rw [← eP]
  clear hW eP
  refine (lawake_any W).mono ?_
  rintro en w1 ⟨rfl, b1⟩
  have HB1 := Lib.hid (HB0.out.below b1)
  clear b1 HB0
  go_wp2_with fail
  refine wp_region_quiet (fun V => Bx w P (P + 1) p0 q0 V) [4, 5] (by kernel_rfl) ?_
  have hC : (fun V => Bx w P (P + 1) p0 q0 V) w1.drew := HB1.out.more ((Turn.refl _ _).drew)
  refine quiet_take 0 (some 20) (v := .agg #[.int .i64 p0.k, .string p0.s, .string p0.t, .int .i64 p0.n]) rfl rfl (by kernel_rfl) (by kernel_rfl) (by kernel_rfl) (fun _ _ _ h => h) (by kernel_rfl) (by kernel_rfl) (by kernel_rfl) (fun V hV => by obtain ⟨h0, h1, h2, h3⟩ := Bx.pcells hV; go_simp) hC ?_
  refine quiet_take 2 (some 22) (v := .agg #[.int .i64 q0.k, .string q0.s, .string q0.t, .int .i64 q0.n]) rfl rfl (by kernel_rfl) (by kernel_rfl) (by kernel_rfl) (fun _ _ _ h => h) (by kernel_rfl) (by kernel_rfl) (by kernel_rfl) (fun V hV => by obtain ⟨h0, h1, h2, h3⟩ := Bx.qcells hV; go_simp) hC ?_
  simp only [Act.put, List.setIfInBounds_toArray, List.set_cons_zero, List.set_cons_succ]
  refine quiet_one (i := 1) (by kernel_rfl) ?_
  refine wpOp_call (some 21) rfl rfl (by kernel_rfl) 15 Try.f15 Try.func15 (by kernel_rfl) (by kernel_rfl) _ _ rfl #[.agg #[.int .i64 p0.k, .string p0.s, .string p0.t, .int .i64 p0.n]] (by first | (simp [Act.eval]; done) | (simp [Act.eval, Act.put]; done)) (FP _).out ?_
  rintro en v2 ⟨rfl, b2⟩
  have HB2 := Lib.hid (Bx.below hC b2)
  clear b2 hC HB1
  refine ⟨_, rfl, (fun _ => HB2.out), ?_⟩
  simp only [Act.put, List.setIfInBounds_toArray, List.set_cons_zero, List.set_cons_succ]
  refine quiet_one (i := 3) (by kernel_rfl) ?_
  refine wpOp_call (some 23) rfl rfl (by kernel_rfl) 15 Try.f15 Try.func15 (by kernel_rfl) (by kernel_rfl) _ _ rfl #[.agg #[.int .i64 q0.k, .string q0.s, .string q0.t, .int .i64 q0.n]] (by first | (simp [Act.eval]; done) | (simp [Act.eval, Act.put]; done)) (FQ _).out ?_
  rintro en v3 ⟨rfl, b3⟩
  have HB3 := Lib.hid (Bx.below HB2.out b3)
  clear b3 HB2
  refine ⟨_, rfl, (fun _ => HB3.out), ?_⟩
  simp only [Act.put, List.setIfInBounds_toArray, List.set_cons_zero, List.set_cons_succ]
  obtain ⟨y0, y1, y2, y3⟩ := HB3.out.pcells
  obtain ⟨z0, z1, z2, z3⟩ := HB3.out.qcells
  have fz0 : v3.frozen? ⟨P, 0, none⟩ = false := HB3.out.hp.free 0
  have fz1 : v3.frozen? ⟨P, 1, none⟩ = false := HB3.out.hp.free 1
  have fz2 : v3.frozen? ⟨P, 2, none⟩ = false := HB3.out.hp.free 2
  have fz3 : v3.frozen? ⟨P, 3, none⟩ = false := HB3.out.hp.free 3
  have gz0 : v3.frozen? ⟨P + 1, 0, none⟩ = false := HB3.out.hq.free 0
  have gz1 : v3.frozen? ⟨P + 1, 1, none⟩ = false := HB3.out.hq.free 1
  have gz2 : v3.frozen? ⟨P + 1, 2, none⟩ = false := HB3.out.hq.free 2
  have gz3 : v3.frozen? ⟨P + 1, 3, none⟩ = false := HB3.out.hq.free 3
  obtain ⟨p, ep⟩ : ∃ p, p = p0.few := ⟨_, rfl⟩
  obtain ⟨q, eq⟩ : ∃ q, q = q0.few := ⟨_, rfl⟩
  have HSP : Hid p.Short := by show p.Short; rw [ep]; exact few_short _
  have HSQ : Hid q.Short := by show q.Short; rw [eq]; exact few_short _
  rw [← ep, ← eq]
  clear ep eq
  refine quiet_one (i := 4) (by kernel_rfl) ?_
  refine wpOp_skip (w' := (((v3.setCell ⟨P, 0, none⟩ (.int .i64 p.k)).setCell ⟨P, 1, none⟩ (.string p.s)).setCell ⟨P, 2, none⟩ (.string p.t)).setCell ⟨P, 3, none⟩ (.int .i64 p.n)) rfl rfl (by kernel_rfl) (by go_simp) ⟨(fun h => by cases h), ?_⟩
  have HB4 : Hid (Bx w P (P + 1) p q0 ((((v3.setCell ⟨P, 0, none⟩ (.int .i64 p.k)).setCell ⟨P, 1, none⟩ (.string p.s)).setCell ⟨P, 2, none⟩ (.string p.t)).setCell ⟨P, 3, none⟩ (.int .i64 p.n))) := by
    refine ⟨by simpa [OpL.cells] using (((HB3.out.hp.put 0 (.int .i64 p.k)).put 1 (.string p.s)).put 2 (.string p.t)).put 3 (.int .i64 p.n), ?_, HB3.out.np, HB3.out.nq, ?_⟩
    · exact (((HB3.out.hq.far (p := ⟨P, 0, none⟩) (Nat.succ_ne_self P) _).far (p := ⟨P, 1, none⟩) (Nat.succ_ne_self P) _).far (p := ⟨P, 2, none⟩) (Nat.succ_ne_self P) _).far (p := ⟨P, 3, none⟩) (Nat.succ_ne_self P) _
    · exact (((HB3.out.turn.put (fun _ => HB3.out.np) _ _).put (fun _ => HB3.out.np) _ _).put (fun _ => HB3.out.np) _ _).put (fun _ => HB3.out.np) _ _
  generalize (((v3.setCell ⟨P, 0, none⟩ (.int .i64 p.k)).setCell ⟨P, 1, none⟩ (.string p.s)).setCell ⟨P, 2, none⟩ (.string p.t)).setCell ⟨P, 3, none⟩ (.int .i64 p.n) = v4 at *
  clear y0 y1 y2 y3 z0 z1 z2 z3 fz0 fz1 fz2 fz3 gz0 gz1 gz2 gz3 HB3
  obtain ⟨z0, z1, z2, z3⟩ := HB4.out.qcells
  have gz0 : v4.frozen? ⟨P + 1, 0, none⟩ = false := HB4.out.hq.free 0
  have gz1 : v4.frozen? ⟨P + 1, 1, none⟩ = false := HB4.out.hq.free 1
  have gz2 : v4.frozen? ⟨P + 1, 2, none⟩ = false := HB4.out.hq.free 2
  have gz3 : v4.frozen? ⟨P + 1, 3, none⟩ = false := HB4.out.hq.free 3
  refine quiet_one (i := 5) (by kernel_rfl) ?_
  refine wpOp_skip (w' := (((v4.setCell ⟨P + 1, 0, none⟩ (.int .i64 q.k)).setCell ⟨P + 1, 1, none⟩ (.string q.s)).setCell ⟨P + 1, 2, none⟩ (.string q.t)).setCell ⟨P + 1, 3, none⟩ (.int .i64 q.n)) rfl rfl (by kernel_rfl) (by go_simp) ⟨(fun h => by cases h), ?_⟩
  have HB5 : Hid (Bx w P (P + 1) p q ((((v4.setCell ⟨P + 1, 0, none⟩ (.int .i64 q.k)).setCell ⟨P + 1, 1, none⟩ (.string q.s)).setCell ⟨P + 1, 2, none⟩ (.string q.t)).setCell ⟨P + 1, 3, none⟩ (.int .i64 q.n))) := by
    refine ⟨?_, by simpa [OpL.cells] using (((HB4.out.hq.put 0 (.int .i64 q.k)).put 1 (.string q.s)).put 2 (.string q.t)).put 3 (.int .i64 q.n), HB4.out.np, HB4.out.nq, ?_⟩
    · exact (((HB4.out.hp.far (p := ⟨P + 1, 0, none⟩) (Nat.succ_ne_self P).symm _).far (p := ⟨P + 1, 1, none⟩) (Nat.succ_ne_self P).symm _).far (p := ⟨P + 1, 2, none⟩) (Nat.succ_ne_self P).symm _).far (p := ⟨P + 1, 3, none⟩) (Nat.succ_ne_self P).symm _
    · exact (((HB4.out.turn.put (fun _ => HB4.out.nq) _ _).put (fun _ => HB4.out.nq) _ _).put (fun _ => HB4.out.nq) _ _).put (fun _ => HB4.out.nq) _ _
  generalize (((v4.setCell ⟨P + 1, 0, none⟩ (.int .i64 q.k)).setCell ⟨P + 1, 1, none⟩ (.string q.s)).setCell ⟨P + 1, 2, none⟩ (.string q.t)).setCell ⟨P + 1, 3, none⟩ (.int .i64 q.n) = v5 at *
  clear z0 z1 z2 z3 gz0 gz1 gz2 gz3 HB4
  refine quiet_done (by kernel_rfl) ?_ _
  obtain ⟨y0, y1, y2, y3⟩ := HB5.out.pcells
  go_wp2_with fail
  refine (ltouches_calls p.k p.n p.s p.t v5).mono ?_
  rintro en w6 ⟨vt, rfl, hrow, b6⟩
  obtain ⟨va, vc, rfl⟩ := own_slice hrow
  have HB6 := Lib.hid (HB5.out.below b6)
  have HR6 := Lib.hid hrow
  have hN2 : (tch p.s p.t).length ≤ 2 := nb_le _
  clear hrow b6 HB5 y0 y1 y2 y3
  obtain ⟨N, eN⟩ : ∃ N, N = (tch p.s p.t).length := ⟨_, rfl⟩
  have HN := Lib.hid eN
  rw [← eN] at HR6 hN2 ⊢
  clear eN
  go_wp2_with fail
  go_loopw [27] (fun i wr => ∃ (k : Nat), i = .int .i64 k ∧ k ≤ N ∧ Hid (Bx w P (P + 1) p q wr) ∧ Hid (wr.ownsRow 0 9 1 (.slice va N vc) N ((tch p.s p.t).map encStr)) ∧ Hid (∀ x ∈ (tch p.s p.t).take k, ∀ y ∈ tch q.s q.t, x ≠ y))
    (fun i _ => N - (intOf i).toNat)
  case atStart => exact ⟨0, rfl, Nat.zero_le _, HB6, HR6, Lib.hid (fun x hx => by simp at hx)⟩
  case round =>
    obtain ⟨k, rfl, hk, HB, HR, HX⟩ := hrel
    clear HB6 HR6
    by_cases hlt : k < N
    · obtain ⟨g, c', hv, hnc, hcm, hcell⟩ := own_cell HR.out (by omega)
      obtain ⟨rfl, rfl⟩ : va = some ⟨g, 0, none⟩ ∧ vc = c' := by injection hv with h1 _ h2; exact ⟨h1, h2⟩
      have hkl : k < (tch p.s p.t).length := by rw [← HN.out]; exact hlt
      have hc0 := hcell k (encStr (tch p.s p.t)[k]) (by rw [List.getElem?_map, List.getElem?_eq_getElem hkl]; rfl)
      have HT : Hid ((tch p.s p.t).take (k + 1) = (tch p.s p.t).take k ++ [(tch p.s p.t)[k]]) := (List.take_append_getElem hkl).symm
      generalize (tch p.s p.t)[k] = x at *
      unfold encStr at hc0
      have hk2 : k ≤ vc := by omega
      clear hcell hv
      obtain ⟨z0, z1, z2, z3⟩ := HB.out.qcells
      go_wp2_with fail
      refine (ltouches_calls q.k q.n q.s q.t wr).mono ?_
      rintro en w7 ⟨vt2, rfl, hrow2, b7⟩
      obtain ⟨vb, vd, rfl⟩ := own_slice hrow2
      have HB7 := Lib.hid (HB.out.below b7)
      have HR7 := Lib.hid (row_below HR.out b7)
      have HR2 := Lib.hid hrow2
      have hM2 : (tch q.s q.t).length ≤ 2 := nb_le _
      clear hrow2 b7 HB HR z0 z1 z2 z3 hc0
      obtain ⟨M, eM⟩ : ∃ M, M = (tch q.s q.t).length := ⟨_, rfl⟩
      have HM := Lib.hid eM
      rw [← eM] at HR2 hM2 ⊢
      clear eM
      go_wp2_with fail
      go_loopw [34] (fun i wr => ∃ (k2 : Nat), i = .int .i64 k2 ∧ k2 ≤ M ∧ Hid (Bx w P (P + 1) p q wr) ∧ Hid (wr.ownsRow 0 9 1 (.slice (some ⟨g, 0, none⟩) N vc) N ((tch p.s p.t).map encStr)) ∧ Hid (wr.ownsRow 0 9 1 (.slice vb M vd) M ((tch q.s q.t).map encStr)) ∧ Hid (∀ y ∈ (tch q.s q.t).take k2, x ≠ y))
        (fun i _ => M - (intOf i).toNat)
      case atStart => exact ⟨0, rfl, Nat.zero_le _, HB7, HR7, HR2, Lib.hid (fun x hx => by simp at hx)⟩
      case round =>
        obtain ⟨k2, rfl, hk2, HB, HR, HR3, HX2⟩ := hrel
        clear HB7 HR7 HR2
        by_cases hlt2 : k2 < M
        · obtain ⟨g2, c2, hv2, hnc2, hcm2, hcell2⟩ := own_cell HR3.out (by omega)
          obtain ⟨rfl, rfl⟩ : vb = some ⟨g2, 0, none⟩ ∧ vd = c2 := by injection hv2 with h1 _ h2; exact ⟨h1, h2⟩
          have hkl2 : k2 < (tch q.s q.t).length := by rw [← HM.out]; exact hlt2
          have hc2 := hcell2 k2 (encStr (tch q.s q.t)[k2]) (by rw [List.getElem?_map, List.getElem?_eq_getElem hkl2]; rfl)
          have HT2 : Hid ((tch q.s q.t).take (k2 + 1) = (tch q.s q.t).take k2 ++ [(tch q.s q.t)[k2]]) := (List.take_append_getElem hkl2).symm
          generalize (tch q.s q.t)[k2] = y at *
          unfold encStr at hc2
          clear hcell2 hv2
          by_cases hxy : x = y
          · subst hxy
            go_wp2_with fail
            go_ret
            exact ⟨rfl, HB.out.ends⟩
          · have hxb : (x == y) = false := by simpa using hxy
            have HX3 : Hid (∀ z ∈ (tch q.s q.t).take (k2 + 1), x ≠ z) := Lib.hid (fun z hz => by
              rw [HT2.out, List.mem_append, List.mem_singleton] at hz
              rcases hz with h | rfl
              · exact HX2.out z h
              · exact hxy)
            clear hxy
            go_wp2_with fail
            go_roundw
            case rel => exact ⟨k2 + 1, by go_num, by omega, HB, HR, HR3, HX3⟩
            case measure => simp [intOf]; omega
        · obtain rfl : k2 = M := by omega
          have HX4 : Hid (∀ z ∈ (tch p.s p.t).take (k + 1), ∀ y ∈ tch q.s q.t, z ≠ y) := Lib.hid (fun z hz y hy => by
            rw [HT.out, List.mem_append, List.mem_singleton] at hz
            rcases hz with h | rfl
            · exact HX.out z h y hy
            · exact HX2.out y (by rw [HM.out, List.take_length]; exact hy))
          go_wp2_with fail
          go_roundw
          case rel => exact ⟨k + 1, by go_num, by omega, HB, HR, HX4⟩
          case measure => simp [intOf]; omega
    · obtain rfl : k = N := by omega
      have HAP : Hid (Apart2 p.s p.t q.s q.t) := Lib.hid (apart_of (fun x hx y hy => HX.out x (by rw [HN.out, List.take_length]; exact hx) y hy))
      clear HX HN HR
      go_wp2_with fail
      refine (bnew_calls (H := Unit) wr).mono ?_
      rintro en w7 ⟨d, m, rfl, h7, b7, hd7, hm7⟩
      have HB7 := Lib.hid (HB.out.below b7)
      have HW : Hid (Own1 Unit w d m D0 w7) := ⟨h7, invF_new, Nat.le_trans HB.out.turn.size hd7, Nat.le_trans HB.out.turn.size hm7, HB7.out.turn⟩
      clear h7 b7 hd7 hm7 HB
      go_wp2_with fail
      go_loopw [12] (fun i wr => ∃ (k : Nat) (D : DataW Unit), i = .int .i64 k ∧ k ≤ 30 ∧ k ≤ len ∧ Hid (Own1 Unit w d m D wr) ∧ Hid (Bx w P (P + 1) p q wr)) (fun i _ => 30 - (intOf i).toNat)
      case atStart => exact ⟨0, D0, rfl, by omega, Nat.zero_le _, HW, HB7⟩
      case round =>
        obtain ⟨k, D, rfl, hk20, hkl, HD, HB⟩ := hrel
        clear HW HB7
        by_cases hk : k < len ∧ k < 30
        · obtain ⟨hk1, hk2⟩ := hk
          have hk1' : (k : Int) < (len : Int) := by omega
          have hk2' : (k : Int) < 30 := by omega
          have hk0' : (0 : Int) ≤ (k : Int) := by omega
          obtain ⟨b, o, rfl, hb, K, n, x, y, hx, hy, c0, c1, c2, c3⟩ := (HA.out.turn HD.out.turn).2 k hk1
          go_wp2_with fail
          refine (lfew_any ⟨K, x, y, n⟩ _ hx hy).mono ?_
          have hsh := few_short ⟨K, x, y, n⟩
          generalize OpL.few ⟨K, x, y, n⟩ = op at *
          rintro en w3 ⟨rfl, b3⟩
          have D3 := Lib.hid (HD.out.below b3)
          have B3 := Lib.hid (HB.out.below b3)
          have HSH := Lib.hid hsh
          clear b3 HD HB c0 c1 c2 c3 hsh
          go_wp2_with fail
          refine (bdo_any d m D op w3 D3.out.bk D3.out.inv HSH.out).mono ?_
          rintro en w4 ⟨rfl, d4, g4⟩
          have D4 := Lib.hid (D3.out.did d4 (invF_doO D3.out.inv op) g4)
          have B4 := Lib.hid (B3.out.did D3.out.bk.map D3.out.newm g4)
          clear d4 g4 D3 B3
          go_wp2_with fail
          refine ⟨⟨k + 1, _, by rw [Int.natCast_add]; rfl, by omega, by omega, D4, B4⟩, ?_⟩
          show 30 - ((k : Int) + 1).toNat < 30 - ((k : Int)).toNat
          omega
        · have hx : ((k : Int) < (len : Int) ∧ ¬ (k : Int) < 30) ∨ ¬ (k : Int) < (len : Int) := by omega
          clear hk
          rcases hx with ⟨hc1, hc2⟩ | hc1
          all_goals
            go_wp2_with fail
            refine (bsave_calls d m D _ HD.out.bk HD.out.inv).mono ?_
            rintro en w6 ⟨rfl, b6⟩
            have D6 := Lib.hid (HD.out.below b6)
            have B6 := Lib.hid (HB.out.below b6)
            clear b6 HD HB
            go_wp2_with fail
            refine (bload_calls D w6 D6.out.inv).mono ?_
            rintro en w7 ⟨d2, m2, E1, rfl, h7, al1, b7, hd7, hm7⟩
            have D7 := Lib.hid (D6.out.below b7)
            have B7 := Lib.hid (B6.out.below b7)
            have E7 : Hid (Own1 Unit w d2 m2 E1 w7) := ⟨h7, al1.inv D6.out.inv, Nat.le_trans D6.out.turn.size hd7, Nat.le_trans D6.out.turn.size hm7, D7.out.turn⟩
            have AL1 := Lib.hid al1
            clear h7 al1 b7 hd7 hm7 D6 B6
            go_wp2_with fail
            refine (bload_calls D w7 D7.out.inv).mono ?_
            rintro en w8 ⟨d3, m3, E2, rfl, h8, al2, b8, hd8, hm8⟩
            have D8 := Lib.hid (D7.out.below b8)
            have B8 := Lib.hid (B7.out.below b8)
            have E8 := Lib.hid (E7.out.below b8)
            have hmm : m2 ≠ m3 := by have := World.ownsMap.lt E7.out.bk.map; omega
            have F8 : Hid (Own1 Unit w d3 m3 E2 w8) := ⟨h8, al2.inv D7.out.inv, Nat.le_trans D7.out.turn.size hd8, Nat.le_trans D7.out.turn.size hm8, D8.out.turn⟩
            have AL2 := Lib.hid al2
            have HMM := Lib.hid hmm
            clear h8 al2 b8 hd8 hm8 D7 B7 E7 hmm
            have hl : (nb (strKeys D)).length = (namesD D).length := by unfold namesD; rw [List.length_mergeSort]
            have HLN := Lib.hid hl
            clear hl
            go_wp2_with fail
            refine (bnames_calls d m D _ D8.out.bk (by have := D8.out.inv.inv.size; omega)).mono ?_
            rintro en w9 ⟨v, rfl, hrow, b9⟩
            rw [HLN.out] at hrow
            obtain ⟨va9, vc9, rfl⟩ := own_slice (row_low hrow)
            have B9 := Lib.hid (B8.out.below b9)
            have E9 := Lib.hid (E8.out.below b9)
            have F9 := Lib.hid (F8.out.below b9)
            have HSZ : Hid ((namesD D).length + 1 = Maps.size D) := namesD_len D8.out.inv
            clear hrow b9 B8 E8 F8 D8
            generalize (namesD D).length = M at *
            by_cases hM : 14 < M
            · have hMi : (14 : Int) < (M : Int) := by omega
              go_wp2_with fail
              go_ret
              exact ⟨rfl, B9.out.ends⟩
            · have hMi : (M : Int) ≤ 14 := by omega
              have HZ1 : Hid (Maps.size E1 ≤ 15) := Lib.hid (by rw [AL1.out.size, ← HSZ.out]; omega)
              have HZ2 : Hid (Maps.size E2 ≤ 15) := Lib.hid (by rw [AL2.out.size, ← HSZ.out]; omega)
              have AL : Hid (Alike E1 E2) := Lib.hid (AL1.out.trans AL2.out.symm)
              obtain ⟨y0, y1, y2, y3⟩ := B9.out.pcells
              clear hM
              go_wp2_with fail
              refine (bdo_any d2 m2 E1 p w9 E9.out.bk E9.out.inv HSP.out).mono ?_
              rintro en w10 ⟨rfl, h10, g10⟩
              have E10 := Lib.hid (E9.out.did h10 (invF_doO E9.out.inv p) g10)
              have F10 := Lib.hid (F9.out.far E9.out HMM.out.symm g10)
              have B10 := Lib.hid (B9.out.did E9.out.bk.map E9.out.newm g10)
              have I1 := Lib.hid E9.out.inv
              have I2 := Lib.hid F9.out.inv
              clear h10 g10 E9 F9 B9 y0 y1 y2 y3
              by_cases he1 : (doO E1 p).2 = 0
              · rw [he1]
                obtain ⟨z0, z1, z2, z3⟩ := B10.out.qcells
                go_wp2_with fail
                refine (bdo_any d3 m3 E2 q w10 F10.out.bk F10.out.inv HSQ.out).mono ?_
                rintro en w11 ⟨rfl, h11, g11⟩
                have F11 := Lib.hid (F10.out.did h11 (invF_doO F10.out.inv q) g11)
                have E11 := Lib.hid (E10.out.far F10.out HMM.out g11)
                have B11 := Lib.hid (B10.out.did F10.out.bk.map F10.out.newm g11)
                clear h11 g11 E10 F10 B10 z0 z1 z2 z3
                by_cases he2 : (doO E2 q).2 = 0
                · rw [he2]
                  have k1 : (doO E1 q).2 = 0 := (doO_alike AL.out q).1.2 he2
                  have k2 : (doO E2 p).2 = 0 := (doO_alike AL.out p).1.1 he1
                  have k3 : (doO (doO E1 p).1 q).2 = 0 := apart_ok I1.out HZ1.out HAP.out he1 k1
                  have k4 : (doO (doO E2 q).1 p).2 = 0 := apart_ok I2.out HZ2.out HAP.out.symm he2 k2
                  have k5 : Alike (doO (doO E1 p).1 q).1 (doO (doO E1 q).1 p).1 := apart_same I1.out HZ1.out HAP.out he1 k1
                  have k6 : Alike (doO (doO E1 q).1 p).1 (doO (doO E2 q).1 p).1 := (doO_alike (doO_alike AL.out q).2 p).2
                  have K3 := Lib.hid k3
                  have K4 := Lib.hid k4
                  have K5 := Lib.hid (k5.trans k6)
                  clear k1 k2 k3 k4 k5 k6 he1 he2
                  obtain ⟨z0, z1, z2, z3⟩ := B11.out.qcells
                  go_wp2_with fail
                  refine (bdo_any d2 m2 _ q w11 E11.out.bk E11.out.inv HSQ.out).mono ?_
                  rintro en w12 ⟨rfl, h12, g12⟩
                  rw [K3.out]
                  have E12 := Lib.hid (E11.out.did h12 (invF_doO E11.out.inv q) g12)
                  have F12 := Lib.hid (F11.out.far E11.out HMM.out.symm g12)
                  have B12 := Lib.hid (B11.out.did E11.out.bk.map E11.out.newm g12)
                  clear h12 g12 E11 F11 B11 z0 z1 z2 z3
                  obtain ⟨y0, y1, y2, y3⟩ := B12.out.pcells
                  go_wp2_with fail
                  refine (bdo_any d3 m3 _ p w12 F12.out.bk F12.out.inv HSP.out).mono ?_
                  rintro en w13 ⟨rfl, h13, g13⟩
                  rw [K4.out]
                  have F13 := Lib.hid (F12.out.did h13 (invF_doO F12.out.inv p) g13)
                  have E13 := Lib.hid (E12.out.far F12.out HMM.out g13)
                  clear h13 g13 E12 F12 B12 y0 y1 y2 y3
                  go_wp2_with fail
                  refine (bsave_calls d2 m2 _ _ E13.out.bk E13.out.inv).mono ?_
                  rw [K5.out.saveB]
                  rintro en w14 ⟨rfl, b14⟩
                  have F14 := Lib.hid (F13.out.below b14)
                  clear b14 E13 F13
                  go_wp2_with fail
                  refine (bsave_calls d3 m3 _ _ F14.out.bk F14.out.inv).mono ?_
                  rintro en w15 ⟨rfl, b15⟩
                  have F15 := Lib.hid (F14.out.below b15)
                  clear b15 F14
                  go_wp2_with fail
                  go_ret
                  exact ⟨rfl, F15.out.ends⟩
                · generalize (doO E2 q).2 = e2 at *
                  have he2' : (e2 != 0) = true := by simpa using he2
                  clear he2
                  go_wp2_with fail
                  go_ret
                  exact ⟨rfl, B11.out.ends⟩
              · generalize (doO E1 p).2 = e1 at *
                have he1' : (e1 != 0) = true := by simpa using he1
                clear he1
                go_wp2_with fail
                go_ret
                exact ⟨rfl, B10.out.ends⟩

def Arg0 (w : World) (a : Option Addr) (len _cap : Nat) : Prop := ArgL w a len
theorem opened0 {H : Type} {enc : TypeId × Value → H} {w : World} {spare : Nat → Bool} {held : Bool} {a : Option Addr} {len cap : Nat} {d : DataW H} {p : List MemPlace} (h : DataW.Trod enc Try.prog w 0 spare held 22 (.slice a len cap) d p) : Arg0 w a len cap := openedL h

set_option maxRecDepth 100000 in
/-- An op that is handed in. -/
theorem openedS1 {H : Type} {enc : TypeId × Value → H} {w W : World} {spare : Nat → Bool} {held : Bool} {r : Reach} {b0 : Nat} {v : Value} {d : DataW H} {p : List MemPlace} (hw : Value.okWide Try.prog W r b0 29 v) (h : DataW.Trod enc Try.prog w 0 spare held 29 v d p) :
    ∃ o : OpL, (o.s.size ≤ maxLen ∧ o.t.size ≤ maxLen) ∧ v = .agg #[.int .i64 o.k, .string o.s, .string o.t, .int .i64 o.n] := by
  obtain ⟨cs, rfl, hz, hf⟩ := opened_agg Try.underlying29 (by kernel_rfl) (by kernel_rfl) hw h
  obtain ⟨v0, n0, y0, c0, t0⟩ := hf 0 _ rfl
  obtain ⟨v1, n1, y1, c1, t1⟩ := hf 1 _ rfl
  obtain ⟨v2, n2, y2, c2, t2⟩ := hf 2 _ rfl
  obtain ⟨v3, n3, y3, c3, t3⟩ := hf 3 _ rfl
  obtain ⟨k, ek, _, _⟩ := DataW.trod_int Try.underlying3 t0
  obtain ⟨s, es, _, hs⟩ := DataW.trod_string Try.underlying9 t1
  obtain ⟨t, et, _, ht⟩ := DataW.trod_string Try.underlying9 t2
  obtain ⟨n, en, _, _⟩ := DataW.trod_int Try.underlying3 t3
  simp only [List.cons.injEq, and_true] at ek et es en
  subst ek; subst et; subst es; subst en
  refine ⟨⟨k, s, t, n⟩, ⟨hs, ht⟩, ?_⟩
  congr 1
  have hz' : cs.size = 4 := hz
  apply Array.ext_getElem?
  intro i
  rcases Nat.lt_or_ge i 4 with h | h
  · rcases i with _ | _ | _ | _ | i
    · exact c0
    · exact c1
    · exact c2
    · exact c3
    · omega
  · rw [Array.getElem?_eq_none (by omega), Array.getElem?_eq_none (by simpa using h)]
set_option maxRecDepth 100000 in
theorem openedS2 {H : Type} {enc : TypeId × Value → H} {w W : World} {spare : Nat → Bool} {held : Bool} {r : Reach} {b0 : Nat} {v : Value} {d : DataW H} {p : List MemPlace} (hw : Value.okWide Try.prog W r b0 29 v) (h : DataW.Trod enc Try.prog w 0 spare held 29 v d p) :
    ∃ o : OpL, (o.s.size ≤ maxLen ∧ o.t.size ≤ maxLen) ∧ v = .agg #[.int .i64 o.k, .string o.s, .string o.t, .int .i64 o.n] := openedS1 hw h

theorem walk (a0 : Option Addr) (len0 cap0 : Nat) (a1 a2 : OpL) (w : World) (w0 : Arg0 w a0 len0 cap0) (w1 : a1.s.size ≤ maxLen ∧ a1.t.size ≤ maxLen) (w2 : a2.s.size ≤ maxLen ∧ a2.t.size ≤ maxLen) :
    Calls Try.prog 4 #[.slice a0 len0 cap0, .agg #[.int .i64 a1.k, .string a1.s, .string a1.t, .int .i64 a1.n], .agg #[.int .i64 a2.k, .string a2.s, .string a2.t, .int .i64 a2.n]] w fun en w' => en = .returned (.bool true) ∧ Below w.heap.size w w' :=
  apart_any a0 len0 cap0 a1 a2 w w0 w1.1 w1.2 w2.1 w2.2

theorem own : ownKnob Try.prog.godebug = none := by kernel_rfl
theorem laidOut : laidOutB Try.prog = true := by kernel_rfl

set_option maxRecDepth 100000 in
theorem lifted (os : Os) (started : os.Started) (H : Type) (enc : TypeId × Value → H) :
    ReturnsInHanded {} Try.checked os 4 .any (Rows.ledgerApartSpec.pre6 enc Try.prog Try.f4 Rows.ledgerApartRow.domain false) (Rows.ledgerApartSpec.post enc Try.prog Try.f4 false true false false) := by
  refine returnsInHanded_of_change (C := Try.checked) own started (by kernel_rfl) Try.func4
    (ChangeSpec.witness6 (enc := enc) (C := Try.checked) false ⟨#[], #[.slice none 0 0, .agg #[.int .i64 0, .string ByteArray.empty, .string ByteArray.empty, .int .i64 0], .agg #[.int .i64 0, .string ByteArray.empty, .string ByteArray.empty, .int .i64 0]], []⟩ 8 (by kernel_rfl) (by kernel_rfl) (by kernel_rfl) (by kernel_rfl)) ?_
  intro W base args ds gs before hval0 hW _ _
  have hval : ∀ (j : Nat) t v, Try.f4.params[j]? = some t → args[j]? = some v → Value.okWide Try.prog W .any base t v := hval0
  have hW' := hW
  obtain ⟨p, q, hA0, hV, rfl, _, _⟩ := hW
  have hA : DataW.TrodAll enc Try.prog W 0 (fun _ => true) true Try.f4.params.toList args.toList ds p := hA0
  rw [Try.params4] at hA hval
  obtain ⟨v0, vs0, d0, ds0, p0, q0, hargs, rfl, rfl, h0, r0⟩ := trodAll_cons hA
  obtain ⟨v1, vs1, d1, ds1, p1, q1, rfl, rfl, rfl, h1, r1⟩ := trodAll_cons r0
  obtain ⟨v2, vs2, d2, ds2, p2, q2, rfl, rfl, rfl, h2, r2⟩ := trodAll_cons r1
  obtain ⟨rfl, rfl, rfl⟩ := trodAll_nil r2
  obtain rfl : args = #[v0, v1, v2] := by cases args; simp_all
  obtain ⟨rfl, rfl⟩ := trodVars_none hV
  obtain ⟨a0, len0, cap0, rfl⟩ := okWide_slice Try.underlying22 (hval 0 22 v0 rfl rfl)
  have k0 := h0
  have lt0 : ∀ x ∈ p0, x.block < W.heap.size := by obtain ⟨m, hm⟩ := k0; exact DataW.trod_lt m _ _ _ hm
  have w0 : Arg0 W a0 len0 cap0 := opened0 h0
  obtain ⟨a1, w1, rfl⟩ := openedS1 (hval 1 29 v1 rfl rfl) h1
  have k1 := h1
  have lt1 : ∀ x ∈ p1, x.block < W.heap.size := by obtain ⟨m, hm⟩ := k1; exact DataW.trod_lt m _ _ _ hm
  obtain ⟨a2, w2, rfl⟩ := openedS2 (hval 2 29 v2 rfl rfl) h2
  have k2 := h2
  have lt2 : ∀ x ∈ p2, x.block < W.heap.size := by obtain ⟨m, hm⟩ := k2; exact DataW.trod_lt m _ _ _ hm
  clear hA0 hval0
  refine (walk a0 len0 cap0 a1 a2 W w0 w1 w2).mono fun e W' ⟨he, bel⟩ => ?_
  subst he
  exact ⟨_, rfl, _, _, _, [], _, [], hW', trodAll_mk1 (shut_bool Try.underlying4 _), (trodAll_cons_mk (Below.trod laidOut (by kernel_rfl) (of_decide_eq_true (by kernel_rfl)) k0 bel lt0) (trodAll_cons_mk (Below.trod laidOut (by kernel_rfl) (of_decide_eq_true (by kernel_rfl)) k1 bel lt1) (trodAll_cons_mk (Below.trod laidOut (by kernel_rfl) (of_decide_eq_true (by kernel_rfl)) k2 bel lt2) trodAll_mk0))), rfl, bel.frame _, fun h => by cases h⟩

theorem over : Rows.ledgerApartRow.holds Try.pinned (OpenSpec.ofChange Rows.ledgerApartSpec) :=
  OpenClaim.holds_of_wide 4 Try.f4 rfl rfl rfl rfl rfl rfl rfl ⟨rfl, rfl, rfl, rfl, rfl⟩ rfl rfl rfl rfl rfl (by kernel_rfl) Try.func4 (by kernel_rfl)
    (of_decide_eq_true (by kernel_rfl)) (by unfold Func.isWrapper; first | (rw [if_pos (by decide +kernel)]; kernel_rfl) | (rw [if_neg (by decide +kernel)]; exact ⟨rfl, rfl⟩))
    (fun os started H enc _ => lifted os started H enc)

theorem proved : Rows.LedgerApartSaid := over

end Go.Proofs.Ytfhpcodjmmidhaa.ledgerApart
