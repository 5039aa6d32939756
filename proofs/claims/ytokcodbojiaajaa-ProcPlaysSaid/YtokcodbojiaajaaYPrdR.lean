/- Law 16's Is: memory and processes are the document's. -/
import Derived.Test.YtokcodbojiaajaaY019
import Derived.Test.YtokcodbojiaajaaYAny
namespace Go.Proofs.Ytokcodbojiaajaa.prc
open Go Go.RowKit

/-- What lasts in Is. -/
structure Iz (w V0 : World) (P L : Nat) (A : Ab) (K d c m : Nat) (B : Nat → Nat) (O : Nat → ByteArray) (l s v p : Value) (x : Nat) (V : World) : Prop where
  st : St w P L A K d c m B O l s v p x V
  lo : Below V0.heap.size V0 V

section
variable {w V0 V V' : World} {P L K d c m x : Nat} {A : Ab} {B : Nat → Nat} {O : Nat → ByteArray} {l s v p : Value}
theorem Iz.below (h : Iz w V0 P L A K d c m B O l s v p x V) (hb : Below V.heap.size V V') : Iz w V0 P L A K d c m B O l s v p x V' := ⟨h.st.below hb, h.lo.trans (hb.mono h.lo.size)⟩
theorem Iz.drew (h : Iz w V0 P L A K d c m B O l s v p x V) : Iz w V0 P L A K d c m B O l s v p x V.drew := ⟨h.st.drew, h.lo.drew⟩

set_option maxRecDepth 100000 in
set_option maxHeartbeats 4000000 in
theorem Sd.is (h : Sd w P L P A K d c m B O l s v p V) (hP0 : 0 < P) (hP : P ≤ 5) (hL : L ≤ 20) :
    Calls Try.prog 12 #[.agg (stC P L d l s v p)] V fun en V' => en = .returned (.int .i64 0) ∧ Below V.heap.size V V' := by
  obtain ⟨gl, ol, cl, rfl⟩ := h.tl (by omega)
  obtain ⟨gs, os, cs, rfl⟩ := h.dw.ts
  obtain ⟨gv, ov, cv, rfl⟩ := h.dw.tw
  obtain ⟨gp, op, cp, rfl⟩ := h.dw.tp
  have hPL := Lib.hid (And.intro hP0 (And.intro hP hL))
  have hPi : (P : Int) ≤ 5 := by omega
  have hLi : (L : Int) ≤ 20 := by omega
  have H := Lib.hid h
  clear h hP0 hP hL
  go_enter Try.func12, Try.ntmps12
  go_wp2_with fail
  go_name_world W hW
  have S0 : Hid (Iz w V P L A K d c m B O (.slice (some ⟨gl, ol, none⟩) P cl) (.slice (some ⟨gs, os, none⟩) L cs) (.slice (some ⟨gv, ov, none⟩) P cv) (.slice (some ⟨gp, op, none⟩) P cp) V.heap.size W) := by
    rw [← hW]
    exact Lib.hid ⟨⟨H.out.alloc _, Has.made _ _ _, H.out.sys.turn.size⟩, (Below.refl _ V).alloc (Nat.le_refl _) _⟩
  clear hW H
  generalize V.heap.size = x at *
  go_loopw [13] (fun i wr => ∃ k : Nat, i = .int .i64 k ∧ k ≤ L ∧ Hid (Iz w V P L A K d c m B O (.slice (some ⟨gl, ol, none⟩) P cl) (.slice (some ⟨gs, os, none⟩) L cs) (.slice (some ⟨gv, ov, none⟩) P cv) (.slice (some ⟨gp, op, none⟩) P cp) x wr)) (fun i _ => L - (intOf i).toNat)
  case atStart => exact ⟨0, rfl, Nat.zero_le _, S0⟩
  case round =>
    clear S0
    obtain ⟨k, rfl, hk, HS⟩ := hrel
    by_cases hkL : k < L
    · have hki : (k : Int) < (L : Int) := by omega
      have hk0 : (0 : Int) ≤ (k : Int) := by omega
      obtain ⟨gs', os', cs', e, hg, hc⟩ := HS.out.st.sd.dw.slot hkL
      obtain ⟨rfl, rfl⟩ : gs = gs' ∧ os = os' := by injection e with e1 e2 e3; injection e1 with e1; injection e1 with e1 e4; exact ⟨e1, e4⟩
      clear e hg
      obtain ⟨q, hq⟩ : ∃ q, q = P + k := ⟨_, rfl⟩
      obtain ⟨t, ht⟩ : ∃ t, t = txo (A.S k) := ⟨_, rfl⟩
      rw [← ht] at hc
      have HT : Hid (cellT P A q = t) := Lib.hid (by rw [hq, cellT_slot, ht])
      have HN : Hid (q < P + L) := Lib.hid (by omega)
      have HC : ∀ V, Hid (Calls Try.prog 18 #[.agg #[.int .i64 P, .int .i64 L], .int .i64 k] V fun en w' => en = .returned (.int .i64 q) ∧ Below V.heap.size V w') := fun V => Lib.hid (by
        have e : (q : Int) = (P : Int) + (k : Int) := by omega
        rw [e]
        exact slotP_calls P L k V (by omega) (by have := hPL.out; omega) (by omega) (by have := hPL.out; omega))
      clear hq ht hk
      have et : (t.toList == t.toList) = true := beq_self_eq_true _
      go_wp2_with fail
      refine wp_region_S (S := fun V1 => Iz w V P L A K d c m B O (.slice (some ⟨gl, ol, none⟩) P cl) (.slice (some ⟨gs, os, none⟩) L cs) (.slice (some ⟨gv, ov, none⟩) P cv) (.slice (some ⟨gp, op, none⟩) P cp) x V1) (by kernel_rfl) (by exact HS.out.drew) ?_
      refine AnyS.pure 0 (some 18) (v := .pointer (some ⟨x, 2, none⟩)) rfl rfl (by kernel_rfl) (by kernel_rfl) (by kernel_rfl) (fun _ _ _ h => h) (by kernel_rfl) (fun V _ => by go_simp) ?_
      refine AnyS.pure 1 (some 19) (v := .pointer (some ⟨d, 0, none⟩)) rfl rfl (by kernel_rfl) (by kernel_rfl) (by kernel_rfl) (fun _ _ _ h => h) (by kernel_rfl) (fun V hV => by have c0 := hV.st.bx.cell 0; have c1 := hV.st.bx.cell 1; have c2 := hV.st.bx.cell 2; go_simp) ?_
      refine AnyS.pure 2 (some 20) (v := .pointer (some ⟨x, 0, none⟩)) rfl rfl (by kernel_rfl) (by kernel_rfl) (by kernel_rfl) (fun _ _ _ h => h) (by kernel_rfl) (fun V _ => by go_simp) ?_
      refine AnyS.pure 3 (some 21) (v := .agg #[.int .i64 P, .int .i64 L]) rfl rfl (by kernel_rfl) (by kernel_rfl) (by kernel_rfl) (fun _ _ _ h => h) (by kernel_rfl) (fun V hV => by have c0 := hV.st.bx.cell 0; have c1 := hV.st.bx.cell 1; have c2 := hV.st.bx.cell 2; go_simp) ?_
      refine AnyS.pure 4 (some 22) rfl rfl (by kernel_rfl) (by kernel_rfl) (by kernel_rfl) (fun _ _ _ h => h) (by kernel_rfl) (fun _ _ => rfl) ?_
      refine AnyS.pure 7 (some 25) rfl rfl (by kernel_rfl) (by kernel_rfl) (by kernel_rfl) (fun _ _ _ h => h) (by kernel_rfl) (fun _ _ => rfl) ?_
      refine AnyS.call 5 (some 23) (.int .i64 q) rfl rfl (by kernel_rfl) (by kernel_rfl) (by kernel_rfl) (fun _ _ _ h => h) (by kernel_rfl) 18 Try.f18 Try.func18 (by kernel_rfl) (by kernel_rfl) _ _ rfl #[.agg #[.int .i64 P, .int .i64 L], .int .i64 k] (by first | (simp [Act.eval]; done) | (simp [Act.eval, Act.put]; done)) (fun V hV => ((HC V).out).mono (by rintro en v ⟨rfl, bv⟩; exact ⟨rfl, hV.below bv⟩)) ?_
      simp only [Act.put, List.setIfInBounds_toArray, List.set_cons_zero, List.set_cons_succ]
      refine AnyS.call 6 (some 24) (.string t) rfl rfl (by kernel_rfl) (by kernel_rfl) (by kernel_rfl) (fun _ _ _ h => h) (by kernel_rfl) 17 Try.f17 Try.func17 (by kernel_rfl) (by kernel_rfl) _ _ rfl #[.pointer (some ⟨d, 0, none⟩), .int .i64 q] (by first | (simp [Act.eval]; done) | (simp [Act.eval, Act.put]; done)) (fun V hV => (hV.st.sd.sys.look q (by have := HN.out; omega) t (HT.out)).mono (by rintro en v ⟨rfl, rfl⟩; exact ⟨rfl, hV⟩)) ?_
      simp only [Act.put, List.setIfInBounds_toArray, List.set_cons_zero, List.set_cons_succ]
      refine AnyS.pure 8 (some 26) (v := .bool false) rfl rfl (by kernel_rfl) (by kernel_rfl) (by kernel_rfl) (fun _ _ _ h => h) (by kernel_rfl) (fun V _ => by go_simp) ?_
      refine AnyS.done (by kernel_rfl) (fun V1 hV => ?_) _
      have S1 := Lib.hid hV
      clear hV HS hc HC
      go_wp2_with fail
      refine ⟨⟨k + 1, by rw [Int.natCast_add]; rfl, by omega, S1⟩, ?_⟩
      show L - ((k : Int) + 1).toNat < L - ((k : Int)).toNat
      omega
    · obtain rfl : k = L := by omega
      have x3 := HS.out.st.bx.cell 3
      have x5 : wr.cell? ⟨x, 5, none⟩ = some (.slice (some ⟨gv, ov, none⟩) P cv) := HS.out.st.bx.cell 5
      go_wp2_with fail
      go_loopw [32] (fun i wr => ∃ i2 : Nat, i = .int .i64 i2 ∧ i2 ≤ P ∧ Hid (Iz w V P k A K d c m B O (.slice (some ⟨gl, ol, none⟩) P cl) (.slice (some ⟨gs, os, none⟩) k cs) (.slice (some ⟨gv, ov, none⟩) P cv) (.slice (some ⟨gp, op, none⟩) P cp) x wr)) (fun i _ => P - (intOf i).toNat)
      case atStart => exact ⟨0, rfl, Nat.zero_le _, HS⟩
      case round =>
        clear HS
        obtain ⟨i, rfl, hi, HS⟩ := hrel
        by_cases hiP : i < P
        · have hii : (i : Int) < (P : Int) := by omega
          have hi0 : (0 : Int) ≤ (i : Int) := by omega
          obtain ⟨gv', ov', cv', e, hg, hc⟩ := HS.out.st.sd.dw.wishAt hiP
          obtain ⟨rfl, rfl⟩ : gv = gv' ∧ ov = ov' := by injection e with e1 e2 e3; injection e1 with e1; injection e1 with e1 e4; exact ⟨e1, e4⟩
          obtain ⟨gp', op', cp', e2, hg2, q0, q1, q2, q3, q4, q5⟩ := HS.out.st.sd.dw.proc hiP
          obtain ⟨rfl, rfl⟩ : gp = gp' ∧ op = op' := by injection e2 with e1 e2 e3; injection e1 with e1; injection e1 with e1 e4; exact ⟨e1, e4⟩
          obtain ⟨gl', ol', cl', e3, hgl, -, -, hcl⟩ := HS.out.st.sd.ls.cells (by have := hPL.out; omega)
          obtain ⟨rfl, rfl⟩ : gl = gl' ∧ ol = ol' := by injection e3 with e1 e2 e3; injection e1 with e1; injection e1 with e1 e4; exact ⟨e1, e4⟩
          have ci := hcl i _ (ptrs_at B hiP)
          have x0 := HS.out.st.bx.cell 0
          have x1 := HS.out.st.bx.cell 1
          have x2 := HS.out.st.bx.cell 2
          have x3 := HS.out.st.bx.cell 3
          have x6 := HS.out.st.bx.cell 6
          have xl := HS.out.st.bx.lt
          obtain ⟨t, ht⟩ : ∃ t, t = txo (A.W i) := ⟨_, rfl⟩
          rw [← ht] at hc
          have HT : Hid (cellT P A i = t) := Lib.hid (by rw [cellT_wish A hiP, ht])
          have HN : Hid (i < P ∧ i < P + k) := Lib.hid ⟨hiP, by omega⟩
          have et : (t.toList == t.toList) = true := beq_self_eq_true _
          obtain ⟨nx, hnx⟩ : ∃ nx : Int, nx = (A.X i).next := ⟨_, rfl⟩
          obtain ⟨at_, hat⟩ : ∃ at_ : Int, at_ = (A.X i).at_ := ⟨_, rfl⟩
          obtain ⟨sq, hsq⟩ : ∃ sq : Int, sq = (A.X i).seq := ⟨_, rfl⟩
          obtain ⟨bi, hbi⟩ : ∃ bi, bi = decide ((A.X i).next = 0) := ⟨_, rfl⟩
          rw [← hnx] at q0
          rw [← hat] at q1
          rw [← hsq] at q3
          have eb : (nx == 0) = bi := by rw [hbi, hnx]; by_cases h0 : (A.X i).next = 0 <;> simp [h0]
          have HV := Lib.hid (And.intro hbi (And.intro hat hsq))
          have e0 : (bi == bi) = true := beq_self_eq_true _
          have e1 : (at_ == at_) = true := beq_self_eq_true _
          have e2 : (sq == sq) = true := beq_self_eq_true _
          clear hi ht e hcl hnx hat hsq hbi e3
          go_wp2_with fail
          go_region
          go_wp2_with fail
          go_name_world U hU
          have SU : Hid (Iz w V P k A K d c m B O (.slice (some ⟨gl, ol, none⟩) P cl) (.slice (some ⟨gs, os, none⟩) k cs) (.slice (some ⟨gv, ov, none⟩) P cv) (.slice (some ⟨gp, op, none⟩) P cp) x U ∧ Has U wr.heap.size 49 #[.int .i64 nx, .int .i64 at_, .int .i64 i, .int .i64 sq, .string (A.X i).body, .string (O i)]) := by
            rw [← hU]
            exact Lib.hid ⟨(HS.out.below ((Below.refl _ _).alloc (Nat.le_refl _) _)).drew, (Has.made _ _ _).drew⟩
          clear hU HS hg hg2 q0 q1 q2 q3 q4 q5 hgl ci x0 x1 x2 x3 x6 xl hc
          generalize wr.heap.size = y at *
          refine wp_region_S (S := fun V1 => Iz w V P k A K d c m B O (.slice (some ⟨gl, ol, none⟩) P cl) (.slice (some ⟨gs, os, none⟩) k cs) (.slice (some ⟨gv, ov, none⟩) P cv) (.slice (some ⟨gp, op, none⟩) P cp) x V1 ∧ Has V1 y 49 #[.int .i64 nx, .int .i64 at_, .int .i64 i, .int .i64 sq, .string (A.X i).body, .string (O i)]) (by kernel_rfl) (by exact ⟨SU.out.1.drew, SU.out.2.drew⟩) ?_
          refine AnyS.pure 0 (some 48) (v := .pointer (some ⟨x, 2, none⟩)) rfl rfl (by kernel_rfl) (by kernel_rfl) (by kernel_rfl) (fun _ _ _ h => h) (by kernel_rfl) (fun V _ => by go_simp) ?_
          refine AnyS.pure 1 (some 49) (v := .pointer (some ⟨d, 0, none⟩)) rfl rfl (by kernel_rfl) (by kernel_rfl) (by kernel_rfl) (fun _ _ _ h => h) (by kernel_rfl) (fun V hV => by have c0 := hV.1.st.bx.cell 0; have c1 := hV.1.st.bx.cell 1; have c2 := hV.1.st.bx.cell 2; have y0 := hV.2.cell 0; have y1 := hV.2.cell 1; have y3 := hV.2.cell 3; go_simp) ?_
          refine AnyS.pure 2 (some 50) (v := .pointer (some ⟨x, 0, none⟩)) rfl rfl (by kernel_rfl) (by kernel_rfl) (by kernel_rfl) (fun _ _ _ h => h) (by kernel_rfl) (fun V _ => by go_simp) ?_
          refine AnyS.pure 3 (some 51) (v := .agg #[.int .i64 P, .int .i64 k]) rfl rfl (by kernel_rfl) (by kernel_rfl) (by kernel_rfl) (fun _ _ _ h => h) (by kernel_rfl) (fun V hV => by have c0 := hV.1.st.bx.cell 0; have c1 := hV.1.st.bx.cell 1; have c2 := hV.1.st.bx.cell 2; have y0 := hV.2.cell 0; have y1 := hV.2.cell 1; have y3 := hV.2.cell 3; go_simp) ?_
          refine AnyS.pure 4 (some 52) rfl rfl (by kernel_rfl) (by kernel_rfl) (by kernel_rfl) (fun _ _ _ h => h) (by kernel_rfl) (fun _ _ => rfl) ?_
          refine AnyS.pure 7 (some 55) rfl rfl (by kernel_rfl) (by kernel_rfl) (by kernel_rfl) (fun _ _ _ h => h) (by kernel_rfl) (fun _ _ => rfl) ?_
          refine AnyS.call 5 (some 53) (.int .i64 i) rfl rfl (by kernel_rfl) (by kernel_rfl) (by kernel_rfl) (fun _ _ _ h => h) (by kernel_rfl) 48 Try.f48 Try.func48 (by kernel_rfl) (by kernel_rfl) _ _ rfl #[.agg #[.int .i64 P, .int .i64 k], .int .i64 i] (by first | (simp [Act.eval]; done) | (simp [Act.eval, Act.put]; done)) (fun V hV => (wishP_calls P k i V).mono (by rintro en v ⟨rfl, bv⟩; exact ⟨rfl, hV.1.below bv, hV.2.below bv hV.2.lt⟩)) ?_
          simp only [Act.put, List.setIfInBounds_toArray, List.set_cons_zero, List.set_cons_succ]
          refine AnyS.call 6 (some 54) (.string t) rfl rfl (by kernel_rfl) (by kernel_rfl) (by kernel_rfl) (fun _ _ _ h => h) (by kernel_rfl) 17 Try.f17 Try.func17 (by kernel_rfl) (by kernel_rfl) _ _ rfl #[.pointer (some ⟨d, 0, none⟩), .int .i64 i] (by first | (simp [Act.eval]; done) | (simp [Act.eval, Act.put]; done)) (fun V hV => (hV.1.st.sd.sys.look i (by have := HN.out; omega) t (HT.out)).mono (by rintro en v ⟨rfl, rfl⟩; exact ⟨rfl, hV⟩)) ?_
          simp only [Act.put, List.setIfInBounds_toArray, List.set_cons_zero, List.set_cons_succ]
          refine AnyS.pure 8 (some 56) (v := .bool false) rfl rfl (by kernel_rfl) (by kernel_rfl) (by kernel_rfl) (fun _ _ _ h => h) (by kernel_rfl) (fun V _ => by go_simp) ?_
          refine AnyS.pure 9 (some 57) rfl rfl (by kernel_rfl) (by kernel_rfl) (by kernel_rfl) (fun _ _ _ h => h) (by kernel_rfl) (fun _ _ => rfl) ?_
          refine AnyS.pure 10 (some 58) rfl rfl (by kernel_rfl) (by kernel_rfl) (by kernel_rfl) (fun _ _ _ h => h) (by kernel_rfl) (fun _ _ => rfl) ?_
          refine AnyS.pure 12 (some 60) (v := .pointer (some ⟨y, 0, none⟩)) rfl rfl (by kernel_rfl) (by kernel_rfl) (by kernel_rfl) (fun _ _ _ h => h) (by kernel_rfl) (fun V _ => by go_simp) ?_
          refine AnyS.pure 13 (some 61) (v := .int .i64 nx) rfl rfl (by kernel_rfl) (by kernel_rfl) (by kernel_rfl) (fun _ _ _ h => h) (by kernel_rfl) (fun V hV => by have c0 := hV.1.st.bx.cell 0; have c1 := hV.1.st.bx.cell 1; have c2 := hV.1.st.bx.cell 2; have y0 := hV.2.cell 0; have y1 := hV.2.cell 1; have y3 := hV.2.cell 3; go_simp) ?_
          refine AnyS.pure 14 (some 62) (v := .bool bi) rfl rfl (by kernel_rfl) (by kernel_rfl) (by kernel_rfl) (fun _ _ _ h => h) (by kernel_rfl) (fun V _ => by go_simp) ?_
          refine AnyS.call 11 (some 59) (.bool bi) rfl rfl (by kernel_rfl) (by kernel_rfl) (by kernel_rfl) (fun _ _ _ h => h) (by kernel_rfl) 20 Try.f20 Try.func20 (by kernel_rfl) (by kernel_rfl) _ _ rfl #[.pointer (some ⟨B i, 0, none⟩)] (by first | (simp [Act.eval]; done) | (simp [Act.eval, Act.put]; done)) (fun V hV => (hV.1.st.sd.sys.idle HN.out.1).mono (by rintro en v ⟨rfl, rfl⟩; exact ⟨by rw [HV.out.1], hV⟩)) ?_
          simp only [Act.put, List.setIfInBounds_toArray, List.set_cons_zero, List.set_cons_succ]
          refine AnyS.pure 15 (some 63) (v := .bool false) rfl rfl (by kernel_rfl) (by kernel_rfl) (by kernel_rfl) (fun _ _ _ h => h) (by kernel_rfl) (fun V _ => by go_simp) ?_
          refine AnyS.pure 16 (some 64) (v := .bool false) rfl rfl (by kernel_rfl) (by kernel_rfl) (by kernel_rfl) (fun _ _ _ h => h) (by kernel_rfl) (fun V _ => by go_simp) ?_
          refine AnyS.pure 17 (some 65) rfl rfl (by kernel_rfl) (by kernel_rfl) (by kernel_rfl) (fun _ _ _ h => h) (by kernel_rfl) (fun _ _ => rfl) ?_
          refine AnyS.pure 18 (some 66) rfl rfl (by kernel_rfl) (by kernel_rfl) (by kernel_rfl) (fun _ _ _ h => h) (by kernel_rfl) (fun _ _ => rfl) ?_
          refine AnyS.pure 20 (some 68) (v := .pointer (some ⟨y, 1, none⟩)) rfl rfl (by kernel_rfl) (by kernel_rfl) (by kernel_rfl) (fun _ _ _ h => h) (by kernel_rfl) (fun V _ => by go_simp) ?_
          refine AnyS.pure 21 (some 69) (v := .int .i64 at_) rfl rfl (by kernel_rfl) (by kernel_rfl) (by kernel_rfl) (fun _ _ _ h => h) (by kernel_rfl) (fun V hV => by have c0 := hV.1.st.bx.cell 0; have c1 := hV.1.st.bx.cell 1; have c2 := hV.1.st.bx.cell 2; have y0 := hV.2.cell 0; have y1 := hV.2.cell 1; have y3 := hV.2.cell 3; go_simp) ?_
          refine AnyS.call 19 (some 67) (.int .i64 at_) rfl rfl (by kernel_rfl) (by kernel_rfl) (by kernel_rfl) (fun _ _ _ h => h) (by kernel_rfl) 49 Try.f49 Try.func49 (by kernel_rfl) (by kernel_rfl) _ _ rfl #[.pointer (some ⟨B i, 0, none⟩)] (by first | (simp [Act.eval]; done) | (simp [Act.eval, Act.put]; done)) (fun V hV => (hV.1.st.sd.sys.at_ HN.out.1).mono (by rintro en v ⟨rfl, rfl⟩; exact ⟨by rw [HV.out.2.1], hV⟩)) ?_
          simp only [Act.put, List.setIfInBounds_toArray, List.set_cons_zero, List.set_cons_succ]
          refine AnyS.pure 22 (some 70) (v := .bool false) rfl rfl (by kernel_rfl) (by kernel_rfl) (by kernel_rfl) (fun _ _ _ h => h) (by kernel_rfl) (fun V _ => by go_simp) ?_
          refine AnyS.pure 23 (some 71) (v := .bool false) rfl rfl (by kernel_rfl) (by kernel_rfl) (by kernel_rfl) (fun _ _ _ h => h) (by kernel_rfl) (fun V _ => by go_simp) ?_
          refine AnyS.pure 24 (some 72) rfl rfl (by kernel_rfl) (by kernel_rfl) (by kernel_rfl) (fun _ _ _ h => h) (by kernel_rfl) (fun _ _ => rfl) ?_
          refine AnyS.pure 25 (some 73) rfl rfl (by kernel_rfl) (by kernel_rfl) (by kernel_rfl) (fun _ _ _ h => h) (by kernel_rfl) (fun _ _ => rfl) ?_
          refine AnyS.pure 27 (some 75) (v := .pointer (some ⟨y, 2, none⟩)) rfl rfl (by kernel_rfl) (by kernel_rfl) (by kernel_rfl) (fun _ _ _ h => h) (by kernel_rfl) (fun V _ => by go_simp) ?_
          refine AnyS.pure 28 (some 76) (v := .pointer (some ⟨y, 3, none⟩)) rfl rfl (by kernel_rfl) (by kernel_rfl) (by kernel_rfl) (fun _ _ _ h => h) (by kernel_rfl) (fun V _ => by go_simp) ?_
          refine AnyS.pure 29 (some 77) (v := .int .i64 sq) rfl rfl (by kernel_rfl) (by kernel_rfl) (by kernel_rfl) (fun _ _ _ h => h) (by kernel_rfl) (fun V hV => by have c0 := hV.1.st.bx.cell 0; have c1 := hV.1.st.bx.cell 1; have c2 := hV.1.st.bx.cell 2; have y0 := hV.2.cell 0; have y1 := hV.2.cell 1; have y3 := hV.2.cell 3; go_simp) ?_
          refine AnyS.call 26 (some 74) (.int .i64 sq) rfl rfl (by kernel_rfl) (by kernel_rfl) (by kernel_rfl) (fun _ _ _ h => h) (by kernel_rfl) 23 Try.f23 Try.func23 (by kernel_rfl) (by kernel_rfl) _ _ rfl #[.pointer (some ⟨B i, 0, none⟩)] (by first | (simp [Act.eval]; done) | (simp [Act.eval, Act.put]; done)) (fun V hV => (hV.1.st.sd.sys.seq HN.out.1).mono (by rintro en v ⟨rfl, rfl⟩; exact ⟨by rw [HV.out.2.2], hV⟩)) ?_
          simp only [Act.put, List.setIfInBounds_toArray, List.set_cons_zero, List.set_cons_succ]
          refine AnyS.pure 30 (some 78) (v := .bool false) rfl rfl (by kernel_rfl) (by kernel_rfl) (by kernel_rfl) (fun _ _ _ h => h) (by kernel_rfl) (fun V _ => by go_simp) ?_
          refine AnyS.pure 31 (some 79) (v := .bool false) rfl rfl (by kernel_rfl) (by kernel_rfl) (by kernel_rfl) (fun _ _ _ h => h) (by kernel_rfl) (fun V _ => by go_simp) ?_
          refine AnyS.done (by kernel_rfl) (fun V2 hV => ?_) _
          have S2 := Lib.hid hV.1
          clear hV SU
          go_wp2_with fail
          refine ⟨⟨i + 1, by rw [Int.natCast_add]; rfl, by omega, S2⟩, ?_⟩
          show P - ((i : Int) + 1).toNat < P - ((i : Int)).toNat
          omega
        · obtain rfl : i = P := by omega
          go_wp2_with fail
          go_ret
          exact ⟨rfl, HS.out.lo⟩
end
end Go.Proofs.Ytokcodbojiaajaa.prc
