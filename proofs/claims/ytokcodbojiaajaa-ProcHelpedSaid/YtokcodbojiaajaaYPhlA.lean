/- ProcHelped, for lists of acts of at most 80 and of at most 150. -/
import Derived.Test.YtokcodbojiaajaaY004
import Derived.Test.YtokcodbojiaajaaY024
import Derived.Test.YtokcodbojiaajaaYPrdJ
import Derived.Test.YtokcodbojiaajaaY010
import Derived.Test.YtokcodbojiaajaaYAny
namespace Go.Proofs.Ytokcodbojiaajaa.procHelpedA
open Go Go.ChangeShapes Go.WideShapes Go.ChangeAt Go.RowKit Go.Maps Go.Proofs.Ytokcodbojiaajaa.prc

set_option maxRecDepth 100000 in
set_option maxHeartbeats 40000000 in
theorem helped_any (n k who0 : Int) (a1 : Option Addr) (len1 cap1 : Nat) (T1 : Nat → Ak) (a2 : Option Addr) (len2 cap2 : Nat) (T2 : Nat → Ak) (w : World) (h1 : ArgK w a1 len1 T1) (h2 : ArgK w a2 len2 T2) (h80 : len1 ≤ 80) (h150 : len2 ≤ 150) :
    Calls Try.prog 6 #[.int .i64 n, .int .i64 k, .int .i64 who0, .slice a1 len1 cap1, .slice a2 len2 cap2] w fun en w' => en = .returned (.bool true) ∧ Below w.heap.size w w' := by
  have hl1 : len1 ≤ 9223372036854775807 := by have := h1.1; unfold maxLen at this; omega
  have hl2 : len2 ≤ 9223372036854775807 := by have := h2.1; unfold maxLen at this; omega
  have A1 := Lib.hid h1
  have AA2 := Lib.hid h2
  have h80i := Lib.hid h80
  have h150i := Lib.hid h150
  clear h1 h2 h80 h150
  go_enter Try.func6, Try.ntmps6
  go_wp2_with fail
  refine (awake_calls w).mono ?_
  rintro en w1 ⟨rfl, b1⟩
  have B1 := Lib.hid b1
  clear b1
  go_wp2_with fail
  refine (lbegin_calls n k w1).mono ?_
  rintro en w2 ⟨P, L, d, c, m, B, l, s, v, p, hP0, hP, hL, rfl, hsd, b2⟩
  obtain ⟨gl, ol, cl, rfl⟩ := hsd.tl (by omega)
  obtain ⟨gs, os, cs, rfl⟩ := hsd.dw.ts
  obtain ⟨gv, ov, cv, rfl⟩ := hsd.dw.tw
  obtain ⟨gp, op, cp, rfl⟩ := hsd.dw.tp
  have hPi : (P : Int) ≤ 5 := by omega
  have hLi : (L : Int) ≤ 20 := by omega
  have hL0 : (0 : Int) ≤ (L : Int) := by omega
  have g2 : ¬ (P : Int) = 0 := by omega
  have g3 : ((P : Int) == 0) = false := by simpa using g2
  have g4 : ¬ P = 0 := by omega
  have HP := Lib.hid (And.intro hP0 (And.intro hP hL))
  have HLO := Lib.hid b2.size
  have S2 := Lib.hid (And.intro hsd b2)
  obtain ⟨i0, hi0, hiP⟩ := someP who0 hP0
  have a0 := mask255 who0
  generalize who0 % 256 = n2 at *
  have a1' : n2.tmod (P : Int) = (i0 : Int) := hi0.symm
  have j0 : (0 : Int) ≤ (i0 : Int) := by omega
  have j1 : (i0 : Int) < (P : Int) := by omega
  have HI0 := Lib.hid hiP
  clear hP0 hP hL hsd b2 hi0 hiP
  have l2 : ∀ V, w2 = V → Hid (w1.heap.size ≤ w2.heap.size) := fun _ _ => HLO
  have z0 : Hid (w2.heap.size = w2.heap.size) := Lib.hid rfl
  go_wp2_with fail
  go_name_world W hW
  have S0 : Hid (St w1 P L (ab0) (0) d c m B noO (.slice (some ⟨gl, ol, none⟩) P cl) (.slice (some ⟨gs, os, none⟩) L cs) (.slice (some ⟨gv, ov, none⟩) P cv) (.slice (some ⟨gp, op, none⟩) P cp) w2.heap.size W) := by
    rw [← hW]
    exact Lib.hid ⟨S2.out.1.alloc _, Has.made _ _ _, S2.out.2.size⟩
  have HX : Hid (w1.heap.size ≤ w2.heap.size) := Lib.hid S2.out.2.size
  clear hW S2 l2 z0 HLO
  generalize w2.heap.size = x at *
  go_loopw [12] (fun i wr => ∃ (k : Nat) (A : Ab) (O : Nat → ByteArray) (gs os cs gv ov cv gp op cp : Nat), i = .int .i64 k ∧ k ≤ 80 ∧ k ≤ len1 ∧ Hid (St w1 P L (A) (k) d c m B O (.slice (some ⟨gl, ol, none⟩) P cl) (.slice (some ⟨gs, os, none⟩) L cs) (.slice (some ⟨gv, ov, none⟩) P cv) (.slice (some ⟨gp, op, none⟩) P cp) x wr)) (fun i _ => 80 - (prc.intOf i).toNat)
  case atStart => exact ⟨0, _, _, _, _, _, _, _, _, _, _, _, rfl, by omega, Nat.zero_le _, S0⟩
  case round =>
    clear S0
    obtain ⟨k, A, O, gs, os, cs, gv, ov, cv, gp, op, cp, rfl, hk80, hkl, HS⟩ := hrel
    by_cases hk : k < len1 ∧ k < 80
    · obtain ⟨hk1, hk2⟩ := hk
      have hk1' : (k : Int) < (len1 : Int) := by omega
      have hk2' : (k : Int) < 80 := by omega
      have hk0' : (0 : Int) ≤ (k : Int) := by omega
      obtain ⟨b, o, rfl, hb, hf, c0, c1, c2⟩ := actk_at A1.out (turn_all HS.out B1.out) hk1
      obtain ⟨a, ha⟩ : ∃ a, a = T1 k := ⟨_, rfl⟩
      rw [← ha] at hf c0 c1 c2
      obtain ⟨kind, who, body⟩ := a
      dsimp only at c0 c1 c2
      obtain ⟨i, hi, hiP⟩ := someP who HP.out.1
      obtain ⟨A2, e, hAe⟩ : ∃ A2 e, doAb P L A kind i body = (A2, e) := ⟨_, _, rfl⟩
      obtain ⟨dn, fl, sl0⟩ := e
      obtain ⟨sl, hsl⟩ : ∃ sl : Int, sl = sl0 := ⟨_, rfl⟩
      have HD : ∀ V, Hid (St w1 P L (A) (k) d c m B O (.slice (some ⟨gl, ol, none⟩) P cl) (.slice (some ⟨gs, os, none⟩) L cs) (.slice (some ⟨gv, ov, none⟩) P cv) (.slice (some ⟨gp, op, none⟩) P cp) x V → Calls Try.prog 11 #[.agg (stC P L d (.slice (some ⟨gl, ol, none⟩) P cl) (.slice (some ⟨gs, os, none⟩) L cs) (.slice (some ⟨gv, ov, none⟩) P cv) (.slice (some ⟨gp, op, none⟩) P cp)), .agg #[.int .i64 kind, .int .i64 who, .string body]] V (DoPostI w1 V P L (k + 1) d c m (A2) B (.slice (some ⟨gl, ol, none⟩) P cl) dn fl sl)) := fun V => Lib.hid (fun h => by
        have := h.sd.does HP.out.1 HP.out.2.1 HP.out.2.2 (by omega) kind who body hf.2.2 i hi hiP
        rw [hAe] at this
        rw [hsl]
        exact this.mono fun _ _ h => DoPost.int h)
      have x0 := HS.out.bx.cell 0
      have x1 := HS.out.bx.cell 1
      have x2 := HS.out.bx.cell 2
      have x3 := HS.out.bx.cell 3
      have x4 := HS.out.bx.cell 4
      have x5 := HS.out.bx.cell 5
      have x6 := HS.out.bx.cell 6
      clear hb hf ha hi hiP hk80 hkl hAe hsl
      go_wp2_with fail
      go_region_law (refine step_call rfl 11 Try.f11 Try.func11 (by kernel_rfl) (by kernel_rfl) _ _ rfl #[.agg (stC P L d (.slice (some ⟨gl, ol, none⟩) P cl) (.slice (some ⟨gs, os, none⟩) L cs) (.slice (some ⟨gv, ov, none⟩) P cv) (.slice (some ⟨gp, op, none⟩) P cp)), .agg #[.int .i64 kind, .int .i64 who, .string body]] (by first | (simp [Act.eval]; done) | (simp [Act.eval, Act.put]; done)) (by exact (HD _).out HS.out.drew) ?_
                     intro en w4 hp
                     obtain ⟨O4, s4, v4, p4, rfl, hsd4, hx4, t4⟩ := HS.out.drew.didI hp
                     obtain ⟨gs4, os4, cs4, rfl⟩ := hsd4.dw.ts
                     obtain ⟨gv4, ov4, cv4, rfl⟩ := hsd4.dw.tw
                     obtain ⟨gp4, op4, cp4, rfl⟩ := hsd4.dw.tp
                     have S4 := Lib.hid (hsd4.put7 hx4 HX.out)
                     have f0 := hx4.free 0
                     have f1 := hx4.free 1
                     have f2 := hx4.free 2
                     have f3 := hx4.free 3
                     have f4 := hx4.free 4
                     have f5 := hx4.free 5
                     have f6 := hx4.free 6
                     replace x0 := hx4.cell 0
                     replace x1 := hx4.cell 1
                     replace x2 := hx4.cell 2
                     replace x3 := hx4.cell 3
                     replace x4 := hx4.cell 4
                     replace x5 := hx4.cell 5
                     replace x6 := hx4.cell 6
                     clear hp hsd4 hx4 t4 c0 c1 c2 HD
                     refine ⟨_, rfl, ?_⟩)
      all_goals
        go_wp2_with fail
        refine ⟨⟨k + 1, _, _, _, _, _, _, _, _, _, _, _, by rw [Int.natCast_add]; rfl, by omega, by omega, S4⟩, ?_⟩
        show 80 - ((k : Int) + 1).toNat < 80 - ((k : Int)).toNat
        omega
    · have h80 := h80i.out
      have hx : ((k : Int) < (len1 : Int) ∧ ¬ (k : Int) < 80) ∨ ¬ (k : Int) < (len1 : Int) := by omega
      obtain ⟨K0, hK0⟩ : ∃ K0 : Nat, K0 = k := ⟨_, rfl⟩
      have HK : Hid (K0 ≤ 80) := Lib.hid (by omega)
      rw [← hK0] at HS
      have x0 := HS.out.bx.cell 0
      have x1 := HS.out.bx.cell 1
      obtain ⟨NB, hNB⟩ : ∃ NB : Int, 2 + 3 * (L : Int) = NB := ⟨_, rfl⟩
      have hB1 : NB ≤ 62 := by omega
      have hB0 : 2 ≤ NB := by omega
      have HB : ∀ V, Hid (Calls Try.prog 21 #[.agg #[.int .i64 P, .int .i64 L]] V fun en w' => en = .returned (.int .i64 NB) ∧ Below V.heap.size V w') := fun V => Lib.hid (by rw [← hNB]; exact boundP_calls P L V (by omega) (by omega))
      have HNB := Lib.hid hNB
      clear hk hNB hK0
      have hc1 : ¬ (k : Int) < (len1 : Int) := by omega
      all_goals
        go_wp2_with fail
        refine (HB _).out.mono ?_
        rintro en w5 ⟨rfl, b5⟩
        have S5 := Lib.hid (HS.out.below b5)
        clear b5 HS x0 x1
        go_wp2_with fail
        go_loopw [54] (fun i wr => ∃ (j : Nat) (A : Ab) (O : Nat → ByteArray) (gs os cs gv ov cv gp op cp : Nat), i = .int .i64 j ∧ (j : Int) ≤ NB + 1 ∧ Hid (St w1 P L (A) (K0 + j) d c m B O (.slice (some ⟨gl, ol, none⟩) P cl) (.slice (some ⟨gs, os, none⟩) L cs) (.slice (some ⟨gv, ov, none⟩) P cv) (.slice (some ⟨gp, op, none⟩) P cp) x wr ∧ ((A.X i0).next = 0 ∨ rem L (A.X i0) + j ≤ 2 + 3 * L))) (fun i _ => (NB + 1).toNat - (prc.intOf i).toNat)
        case atStart => exact ⟨0, _, _, _, _, _, _, _, _, _, _, _, rfl, by omega, Lib.hid ⟨S5.out, rem_le L _ (S5.out.sd.good.next i0)⟩⟩
        case round =>
          clear S5
          obtain ⟨j, A, O, gs, os, cs, gv, ov, cv, gp, op, cp, rfl, hjB, HS⟩ := hrel
          by_cases hj : (j : Int) < NB + 1
          · have hj0 : (0 : Int) ≤ (j : Int) := by omega
            obtain ⟨A2, e, hAe⟩ : ∃ A2 e, doAb P L (A) 1 i0 ⟨#[]⟩ = (A2, e) := ⟨_, _, rfl⟩
            obtain ⟨dn, fl, sl0⟩ := e
            obtain ⟨sl, hsl⟩ : ∃ sl : Int, sl = sl0 := ⟨_, rfl⟩
            have HD : ∀ V, Hid (St w1 P L (A) (K0 + j) d c m B O (.slice (some ⟨gl, ol, none⟩) P cl) (.slice (some ⟨gs, os, none⟩) L cs) (.slice (some ⟨gv, ov, none⟩) P cv) (.slice (some ⟨gp, op, none⟩) P cp) x V → Calls Try.prog 11 #[.agg (stC P L d (.slice (some ⟨gl, ol, none⟩) P cl) (.slice (some ⟨gs, os, none⟩) L cs) (.slice (some ⟨gv, ov, none⟩) P cv) (.slice (some ⟨gp, op, none⟩) P cp)), .agg #[.int .i64 1, .int .i64 i0, .string ⟨#[]⟩]] V (DoPostI w1 V P L (K0 + j + 1) d c m (A2) B (.slice (some ⟨gl, ol, none⟩) P cl) dn fl sl)) := fun V => Lib.hid (fun h => by
              have := h.sd.does HP.out.1 HP.out.2.1 HP.out.2.2 (by have := HK.out; have := HNB.out; omega) 1 i0 ⟨#[]⟩ (by decide) i0 (who_is HI0.out HP.out.2.1) HI0.out
              rw [hAe] at this
              rw [hsl]
              exact this.mono fun _ _ h => DoPost.int h)
            have HR : Hid ((A2.X i0).next = 0 ∨ rem L (A2.X i0) + (j + 1) ≤ 2 + 3 * L) := Lib.hid (by
              have := step_less (i := i0) HS.out.1.sd.good HS.out.2 ⟨#[]⟩
              rw [hAe] at this
              exact this)
            have x0 := HS.out.1.bx.cell 0
            have x1 := HS.out.1.bx.cell 1
            have x2 := HS.out.1.bx.cell 2
            have x3 := HS.out.1.bx.cell 3
            have x4 := HS.out.1.bx.cell 4
            have x5 := HS.out.1.bx.cell 5
            have x6 := HS.out.1.bx.cell 6
            clear hAe hsl
            go_wp2_with fail
            refine calls_name (fun V3 h3 => ?_)
            have S3 : Hid (St w1 P L (A) (K0 + j) d c m B O (.slice (some ⟨gl, ol, none⟩) P cl) (.slice (some ⟨gs, os, none⟩) L cs) (.slice (some ⟨gv, ov, none⟩) P cv) (.slice (some ⟨gp, op, none⟩) P cp) x V3) := by rw [← h3]; exact HS.out.1
            clear h3
            refine ((HD _).out S3.out).mono ?_
            intro en w4 hp
            obtain ⟨O4, s4, v4, p4, rfl, hsd4, hx4, t4⟩ := S3.out.didI hp
            obtain ⟨gs4, os4, cs4, rfl⟩ := hsd4.dw.ts
            obtain ⟨gv4, ov4, cv4, rfl⟩ := hsd4.dw.tw
            obtain ⟨gp4, op4, cp4, rfl⟩ := hsd4.dw.tp
            have S4 := Lib.hid (hsd4.put7 hx4 HX.out)
            have f0 := hx4.free 0
            have f1 := hx4.free 1
            have f2 := hx4.free 2
            have f3 := hx4.free 3
            have f4 := hx4.free 4
            have f5 := hx4.free 5
            have f6 := hx4.free 6
            replace x0 := hx4.cell 0
            replace x1 := hx4.cell 1
            replace x2 := hx4.cell 2
            replace x3 := hx4.cell 3
            replace x4 := hx4.cell 4
            replace x5 := hx4.cell 5
            replace x6 := hx4.cell 6
            clear hp hsd4 hx4 t4 S3
            clear HD
            go_wp2_with fail
            refine ⟨⟨j + 1, _, _, _, _, _, _, _, _, _, _, _, by rw [Int.natCast_add]; rfl, by omega, Lib.hid ⟨S4.out, HR.out⟩⟩, ?_⟩
            show (NB + 1).toNat - ((j : Int) + 1).toNat < (NB + 1).toNat - ((j : Int)).toNat
            omega
          · have HZ0 : Hid ((A.X i0).next = 0) := Lib.hid (by
              have := HNB.out
              rcases HS.out.2 with h | h
              · exact h
              · omega)
            obtain ⟨K1, hK1⟩ : ∃ K1 : Nat, K1 = K0 + j := ⟨_, rfl⟩
            have HK1 : Hid (K1 ≤ 150) := Lib.hid (by have := HK.out; omega)
            have S6 : Hid (St w1 P L (A) (K1) d c m B O (.slice (some ⟨gl, ol, none⟩) P cl) (.slice (some ⟨gs, os, none⟩) L cs) (.slice (some ⟨gv, ov, none⟩) P cv) (.slice (some ⟨gp, op, none⟩) P cp) x wr) := by rw [hK1]; exact Lib.hid HS.out.1
            obtain ⟨D, hI⟩ := S6.out.sd.good.inv
            have HI := Lib.hid hI
            clear hK1 HS hI
            go_wp2_with fail
            go_loopw [13] (fun i wr => ∃ k : Nat, i = .int .i64 k ∧ k ≤ D ∧ Hid (St w1 P L (A) (K1) d c m B O (.slice (some ⟨gl, ol, none⟩) P cl) (.slice (some ⟨gs, os, none⟩) L cs) (.slice (some ⟨gv, ov, none⟩) P cv) (.slice (some ⟨gp, op, none⟩) P cp) x wr)) (fun i _ => D - (prc.intOf i).toNat)
            case atStart => exact ⟨0, rfl, Nat.zero_le _, S6⟩
            case round =>
              clear S6
              obtain ⟨k, rfl, hk, HS⟩ := hrel
              have hDL := HI.out.d
              have hk0 : (0 : Int) ≤ (k : Int) := by omega
              obtain ⟨q, hq⟩ : ∃ q, q = P + k := ⟨_, rfl⟩
              obtain ⟨t, ht⟩ : ∃ t, t = txo (A.S k) := ⟨_, rfl⟩
              have hPL := HP.out
              have HT : Hid (cellT P A q = t) := Lib.hid (by rw [hq, cellT_slot, ht])
              have HC : ∀ V, Hid (Calls Try.prog 18 #[.agg #[.int .i64 P, .int .i64 L], .int .i64 k] V fun en w' => en = .returned (.int .i64 q) ∧ Below V.heap.size V w') := fun V => Lib.hid (by
                have e : (q : Int) = (P : Int) + (k : Int) := by omega
                rw [e]
                exact slotP_calls P L k V (by omega) (by omega) (by omega) (by omega))
              have HQ := Lib.hid (And.intro hq ht)
              have hcase : (k < L ∧ k < D) ∨ (k < L ∧ k = D) ∨ (k = L ∧ k = D) := by omega
              clear hq ht hPL hDL
              rcases hcase with ⟨hkL, hkD⟩ | hkk
              · have hki : (k : Int) < (L : Int) := by omega
                have HN : Hid (q < P + L) := Lib.hid (by have := HQ.out.1; omega)
                have hne : t ≠ ⟨#[]⟩ := by
                  rw [HQ.out.2]
                  cases hS : A.S k with
                  | none => exact absurd hS ((HI.out.pre k).2 hkD)
                  | some r => exact tx_ne r
                obtain ⟨hn1, hn2, hn3⟩ := bytes_nil hne
                clear hne hkL hk
                go_wp2_with fail
                refine wp_region_S (S := fun V1 => St w1 P L (A) (K1) d c m B O (.slice (some ⟨gl, ol, none⟩) P cl) (.slice (some ⟨gs, os, none⟩) L cs) (.slice (some ⟨gv, ov, none⟩) P cv) (.slice (some ⟨gp, op, none⟩) P cp) x V1) (by kernel_rfl) (by exact HS.out.drew) ?_
                refine AnyS.pure 0 (some 65) rfl rfl (by kernel_rfl) (by kernel_rfl) (by kernel_rfl) (fun _ _ _ h => h) (by kernel_rfl) (fun _ _ => rfl) ?_
                refine AnyS.pure 1 (some 66) (v := .pointer (some ⟨x, 0, none⟩)) rfl rfl (by kernel_rfl) (by kernel_rfl) (by kernel_rfl) (fun _ _ _ h => h) (by kernel_rfl) (fun V _ => by go_simp) ?_
                refine AnyS.pure 2 (some 67) (v := .pointer (some ⟨x, 1, none⟩)) rfl rfl (by kernel_rfl) (by kernel_rfl) (by kernel_rfl) (fun _ _ _ h => h) (by kernel_rfl) (fun V _ => by go_simp) ?_
                refine AnyS.pure 3 (some 68) (v := .int .i64 L) rfl rfl (by kernel_rfl) (by kernel_rfl) (by kernel_rfl) (fun _ _ _ h => h) (by kernel_rfl) (fun V hV => by have c0 := hV.bx.cell 0; have c1 := hV.bx.cell 1; have c2 := hV.bx.cell 2; go_simp) ?_
                refine AnyS.pure 4 (some 69) (v := .bool true) rfl rfl (by kernel_rfl) (by kernel_rfl) (by kernel_rfl) (fun _ _ _ h => h) (by kernel_rfl) (fun V _ => by go_simp) ?_
                refine AnyS.pure 5 (some 70) rfl rfl (by kernel_rfl) (by kernel_rfl) (by kernel_rfl) (fun _ _ _ h => h) (by kernel_rfl) (fun _ _ => rfl) ?_
                refine AnyS.pure 6 (some 71) (v := .pointer (some ⟨x, 2, none⟩)) rfl rfl (by kernel_rfl) (by kernel_rfl) (by kernel_rfl) (fun _ _ _ h => h) (by kernel_rfl) (fun V _ => by go_simp) ?_
                refine AnyS.pure 7 (some 72) (v := .pointer (some ⟨d, 0, none⟩)) rfl rfl (by kernel_rfl) (by kernel_rfl) (by kernel_rfl) (fun _ _ _ h => h) (by kernel_rfl) (fun V hV => by have c0 := hV.bx.cell 0; have c1 := hV.bx.cell 1; have c2 := hV.bx.cell 2; go_simp) ?_
                refine AnyS.pure 8 (some 73) (v := .pointer (some ⟨x, 0, none⟩)) rfl rfl (by kernel_rfl) (by kernel_rfl) (by kernel_rfl) (fun _ _ _ h => h) (by kernel_rfl) (fun V _ => by go_simp) ?_
                refine AnyS.pure 9 (some 74) (v := .agg #[.int .i64 P, .int .i64 L]) rfl rfl (by kernel_rfl) (by kernel_rfl) (by kernel_rfl) (fun _ _ _ h => h) (by kernel_rfl) (fun V hV => by have c0 := hV.bx.cell 0; have c1 := hV.bx.cell 1; have c2 := hV.bx.cell 2; go_simp) ?_
                refine AnyS.pure 10 (some 75) rfl rfl (by kernel_rfl) (by kernel_rfl) (by kernel_rfl) (fun _ _ _ h => h) (by kernel_rfl) (fun _ _ => rfl) ?_
                refine AnyS.call 11 (some 76) (.int .i64 q) rfl rfl (by kernel_rfl) (by kernel_rfl) (by kernel_rfl) (fun _ _ _ h => h) (by kernel_rfl) 18 Try.f18 Try.func18 (by kernel_rfl) (by kernel_rfl) _ _ rfl #[.agg #[.int .i64 P, .int .i64 L], .int .i64 k] (by first | (simp [Act.eval]; done) | (simp [Act.eval, Act.put]; done)) (fun V hV => ((HC V).out).mono (by rintro en v ⟨rfl, bv⟩; exact ⟨rfl, hV.below bv⟩)) ?_
                simp only [Act.put, List.setIfInBounds_toArray, List.set_cons_zero, List.set_cons_succ]
                refine AnyS.call 12 (some 77) (.string t) rfl rfl (by kernel_rfl) (by kernel_rfl) (by kernel_rfl) (fun _ _ _ h => h) (by kernel_rfl) 17 Try.f17 Try.func17 (by kernel_rfl) (by kernel_rfl) _ _ rfl #[.pointer (some ⟨d, 0, none⟩), .int .i64 q] (by first | (simp [Act.eval]; done) | (simp [Act.eval, Act.put]; done)) (fun V hV => (hV.sd.sys.look q HN.out t HT.out).mono (by rintro en v ⟨rfl, rfl⟩; exact ⟨rfl, hV⟩)) ?_
                simp only [Act.put, List.setIfInBounds_toArray, List.set_cons_zero, List.set_cons_succ]
                refine AnyS.pure 13 (some 78) (v := .bool true) rfl rfl (by kernel_rfl) (by kernel_rfl) (by kernel_rfl) (fun _ _ _ h => h) (by kernel_rfl) (fun V _ => by go_simp) ?_
                refine AnyS.pure 14 (some 79) (v := .bool true) rfl rfl (by kernel_rfl) (by kernel_rfl) (by kernel_rfl) (fun _ _ _ h => h) (by kernel_rfl) (fun V _ => by go_simp) ?_
                refine AnyS.done (by kernel_rfl) (fun V2 hV => ?_) _
                have S7 := Lib.hid hV
                clear hV HS
                go_wp2_with fail
                refine ⟨⟨k + 1, by rw [Int.natCast_add]; rfl, by omega, S7⟩, ?_⟩
                show D - ((k : Int) + 1).toNat < D - ((k : Int)).toNat
                omega
              · have hkD : k = D := by omega
                have HKD := Lib.hid hkD
                rcases hkk with ⟨hkL, -⟩ | ⟨hkL, -⟩
                case' inl =>
                  have hki : (k : Int) < (L : Int) := by omega
                  have HN : Hid (q < P + L) := Lib.hid (by have := HQ.out.1; omega)
                  have hn2 : t.toList = [] := by
                    have e : t = ⟨#[]⟩ := by
                      rw [HQ.out.2]
                      cases hS : A.S k with
                      | none => rfl
                      | some r => exact absurd ((HI.out.pre k).1 (by rw [hS]; intro e; cases e)) (by omega)
                    rw [e]
                    simp [ByteArray.toList_eq]
                  have hn1 : (t.toList == []) = true := by rw [hn2]; rfl
                  have hn3 : (t.toList != []) = false := by rw [hn2]; rfl
                  clear hkL hk hkD
                  go_wp2_with fail
                  refine wp_region_S (S := fun V1 => St w1 P L (A) (K1) d c m B O (.slice (some ⟨gl, ol, none⟩) P cl) (.slice (some ⟨gs, os, none⟩) L cs) (.slice (some ⟨gv, ov, none⟩) P cv) (.slice (some ⟨gp, op, none⟩) P cp) x V1) (by kernel_rfl) (by exact HS.out.drew) ?_
                  refine AnyS.pure 0 (some 65) rfl rfl (by kernel_rfl) (by kernel_rfl) (by kernel_rfl) (fun _ _ _ h => h) (by kernel_rfl) (fun _ _ => rfl) ?_
                  refine AnyS.pure 1 (some 66) (v := .pointer (some ⟨x, 0, none⟩)) rfl rfl (by kernel_rfl) (by kernel_rfl) (by kernel_rfl) (fun _ _ _ h => h) (by kernel_rfl) (fun V _ => by go_simp) ?_
                  refine AnyS.pure 2 (some 67) (v := .pointer (some ⟨x, 1, none⟩)) rfl rfl (by kernel_rfl) (by kernel_rfl) (by kernel_rfl) (fun _ _ _ h => h) (by kernel_rfl) (fun V _ => by go_simp) ?_
                  refine AnyS.pure 3 (some 68) (v := .int .i64 L) rfl rfl (by kernel_rfl) (by kernel_rfl) (by kernel_rfl) (fun _ _ _ h => h) (by kernel_rfl) (fun V hV => by have c0 := hV.bx.cell 0; have c1 := hV.bx.cell 1; have c2 := hV.bx.cell 2; go_simp) ?_
                  refine AnyS.pure 4 (some 69) (v := .bool true) rfl rfl (by kernel_rfl) (by kernel_rfl) (by kernel_rfl) (fun _ _ _ h => h) (by kernel_rfl) (fun V _ => by go_simp) ?_
                  refine AnyS.pure 5 (some 70) rfl rfl (by kernel_rfl) (by kernel_rfl) (by kernel_rfl) (fun _ _ _ h => h) (by kernel_rfl) (fun _ _ => rfl) ?_
                  refine AnyS.pure 6 (some 71) (v := .pointer (some ⟨x, 2, none⟩)) rfl rfl (by kernel_rfl) (by kernel_rfl) (by kernel_rfl) (fun _ _ _ h => h) (by kernel_rfl) (fun V _ => by go_simp) ?_
                  refine AnyS.pure 7 (some 72) (v := .pointer (some ⟨d, 0, none⟩)) rfl rfl (by kernel_rfl) (by kernel_rfl) (by kernel_rfl) (fun _ _ _ h => h) (by kernel_rfl) (fun V hV => by have c0 := hV.bx.cell 0; have c1 := hV.bx.cell 1; have c2 := hV.bx.cell 2; go_simp) ?_
                  refine AnyS.pure 8 (some 73) (v := .pointer (some ⟨x, 0, none⟩)) rfl rfl (by kernel_rfl) (by kernel_rfl) (by kernel_rfl) (fun _ _ _ h => h) (by kernel_rfl) (fun V _ => by go_simp) ?_
                  refine AnyS.pure 9 (some 74) (v := .agg #[.int .i64 P, .int .i64 L]) rfl rfl (by kernel_rfl) (by kernel_rfl) (by kernel_rfl) (fun _ _ _ h => h) (by kernel_rfl) (fun V hV => by have c0 := hV.bx.cell 0; have c1 := hV.bx.cell 1; have c2 := hV.bx.cell 2; go_simp) ?_
                  refine AnyS.pure 10 (some 75) rfl rfl (by kernel_rfl) (by kernel_rfl) (by kernel_rfl) (fun _ _ _ h => h) (by kernel_rfl) (fun _ _ => rfl) ?_
                  refine AnyS.call 11 (some 76) (.int .i64 q) rfl rfl (by kernel_rfl) (by kernel_rfl) (by kernel_rfl) (fun _ _ _ h => h) (by kernel_rfl) 18 Try.f18 Try.func18 (by kernel_rfl) (by kernel_rfl) _ _ rfl #[.agg #[.int .i64 P, .int .i64 L], .int .i64 k] (by first | (simp [Act.eval]; done) | (simp [Act.eval, Act.put]; done)) (fun V hV => ((HC V).out).mono (by rintro en v ⟨rfl, bv⟩; exact ⟨rfl, hV.below bv⟩)) ?_
                  simp only [Act.put, List.setIfInBounds_toArray, List.set_cons_zero, List.set_cons_succ]
                  refine AnyS.call 12 (some 77) (.string t) rfl rfl (by kernel_rfl) (by kernel_rfl) (by kernel_rfl) (fun _ _ _ h => h) (by kernel_rfl) 17 Try.f17 Try.func17 (by kernel_rfl) (by kernel_rfl) _ _ rfl #[.pointer (some ⟨d, 0, none⟩), .int .i64 q] (by first | (simp [Act.eval]; done) | (simp [Act.eval, Act.put]; done)) (fun V hV => (hV.sd.sys.look q HN.out t HT.out).mono (by rintro en v ⟨rfl, rfl⟩; exact ⟨rfl, hV⟩)) ?_
                  simp only [Act.put, List.setIfInBounds_toArray, List.set_cons_zero, List.set_cons_succ]
                  refine AnyS.pure 13 (some 78) (v := .bool false) rfl rfl (by kernel_rfl) (by kernel_rfl) (by kernel_rfl) (fun _ _ _ h => h) (by kernel_rfl) (fun V _ => by go_simp) ?_
                  refine AnyS.pure 14 (some 79) (v := .bool false) rfl rfl (by kernel_rfl) (by kernel_rfl) (by kernel_rfl) (fun _ _ _ h => h) (by kernel_rfl) (fun V _ => by go_simp) ?_
                  refine AnyS.done (by kernel_rfl) (fun V2 hV => ?_) _
                  clear HN HT HC hki
                case' inr =>
                  have hki : ¬ (k : Int) < (L : Int) := by omega
                  have hki2 : L ≤ k := by omega
                  clear hkL hk hkD
                  go_wp2_with fail
                  refine wp_region_S (S := fun V1 => St w1 P L (A) (K1) d c m B O (.slice (some ⟨gl, ol, none⟩) P cl) (.slice (some ⟨gs, os, none⟩) L cs) (.slice (some ⟨gv, ov, none⟩) P cv) (.slice (some ⟨gp, op, none⟩) P cp) x V1) (by kernel_rfl) (by exact HS.out.drew) ?_
                  refine AnyS.pure 0 (some 65) rfl rfl (by kernel_rfl) (by kernel_rfl) (by kernel_rfl) (fun _ _ _ h => h) (by kernel_rfl) (fun _ _ => rfl) ?_
                  refine AnyS.pure 1 (some 66) (v := .pointer (some ⟨x, 0, none⟩)) rfl rfl (by kernel_rfl) (by kernel_rfl) (by kernel_rfl) (fun _ _ _ h => h) (by kernel_rfl) (fun V _ => by go_simp) ?_
                  refine AnyS.pure 2 (some 67) (v := .pointer (some ⟨x, 1, none⟩)) rfl rfl (by kernel_rfl) (by kernel_rfl) (by kernel_rfl) (fun _ _ _ h => h) (by kernel_rfl) (fun V _ => by go_simp) ?_
                  refine AnyS.pure 3 (some 68) (v := .int .i64 L) rfl rfl (by kernel_rfl) (by kernel_rfl) (by kernel_rfl) (fun _ _ _ h => h) (by kernel_rfl) (fun V hV => by have c0 := hV.bx.cell 0; have c1 := hV.bx.cell 1; have c2 := hV.bx.cell 2; go_simp) ?_
                  refine AnyS.pure 4 (some 69) (v := .bool false) rfl rfl (by kernel_rfl) (by kernel_rfl) (by kernel_rfl) (fun _ _ _ h => h) (by kernel_rfl) (fun V _ => by go_simp) ?_
                  refine AnyS.pure 5 (some 70) rfl rfl (by kernel_rfl) (by kernel_rfl) (by kernel_rfl) (fun _ _ _ h => h) (by kernel_rfl) (fun _ _ => rfl) ?_
                  refine AnyS.skip 6 (some 71) rfl rfl (by kernel_rfl) (by kernel_rfl) (by kernel_rfl) (fun _ _ _ h => h) (by kernel_rfl) ?_
                  refine AnyS.skip 7 (some 72) rfl rfl (by kernel_rfl) (by kernel_rfl) (by kernel_rfl) (fun _ _ _ h => h) (by kernel_rfl) ?_
                  refine AnyS.skip 8 (some 73) rfl rfl (by kernel_rfl) (by kernel_rfl) (by kernel_rfl) (fun _ _ _ h => h) (by kernel_rfl) ?_
                  refine AnyS.skip 9 (some 74) rfl rfl (by kernel_rfl) (by kernel_rfl) (by kernel_rfl) (fun _ _ _ h => h) (by kernel_rfl) ?_
                  refine AnyS.skip 10 (some 75) rfl rfl (by kernel_rfl) (by kernel_rfl) (by kernel_rfl) (fun _ _ _ h => h) (by kernel_rfl) ?_
                  refine AnyS.skip 11 (some 76) rfl rfl (by kernel_rfl) (by kernel_rfl) (by kernel_rfl) (fun _ _ _ h => h) (by kernel_rfl) ?_
                  refine AnyS.skip 12 (some 77) rfl rfl (by kernel_rfl) (by kernel_rfl) (by kernel_rfl) (fun _ _ _ h => h) (by kernel_rfl) ?_
                  refine AnyS.skip 13 (some 78) rfl rfl (by kernel_rfl) (by kernel_rfl) (by kernel_rfl) (fun _ _ _ h => h) (by kernel_rfl) ?_
                  simp only [Act.put, List.setIfInBounds_toArray, List.set_cons_zero, List.set_cons_succ]
                  refine AnyS.pure 14 (some 79) (v := .bool false) rfl rfl (by kernel_rfl) (by kernel_rfl) (by kernel_rfl) (fun _ _ _ h => h) (by kernel_rfl) (fun V _ => by go_simp) ?_
                  simp only [Act.put, List.setIfInBounds_toArray, List.set_cons_zero, List.set_cons_succ]
                  refine AnyS.done (by kernel_rfl) (fun V2 hV => ?_) _
                  clear HT HC hki
                all_goals
                  have S8 := Lib.hid hV
                  clear hV HS
                  obtain ⟨jm, hj1, hj2, hj3⟩ := some_turn HI0.out D
                  have e2 : doAb P L A 2 i0 ⟨#[115, 116, 97, 108, 108, 101, 100]⟩ = (begins A i0 ⟨#[115, 116, 97, 108, 108, 101, 100]⟩, nope) := by unfold doAb; rw [if_neg (by decide), if_pos ⟨rfl, HZ0.out⟩]; rfl
                  have HDA : ∀ V, Hid (St w1 P L (A) (K1) d c m B O (.slice (some ⟨gl, ol, none⟩) P cl) (.slice (some ⟨gs, os, none⟩) L cs) (.slice (some ⟨gv, ov, none⟩) P cv) (.slice (some ⟨gp, op, none⟩) P cp) x V → Calls Try.prog 11 #[.agg (stC P L d (.slice (some ⟨gl, ol, none⟩) P cl) (.slice (some ⟨gs, os, none⟩) L cs) (.slice (some ⟨gv, ov, none⟩) P cv) (.slice (some ⟨gp, op, none⟩) P cp)), .agg #[.int .i64 2, .int .i64 i0, .string ⟨#[115, 116, 97, 108, 108, 101, 100]⟩]] V (DoPostI w1 V P L (K1 + 1) d c m (begins A i0 ⟨#[115, 116, 97, 108, 108, 101, 100]⟩) B (.slice (some ⟨gl, ol, none⟩) P cl) false false 0)) := fun V => Lib.hid (fun h => by
                    have := h.sd.does HP.out.1 HP.out.2.1 HP.out.2.2 (by have := HK1.out; omega) 2 i0 ⟨#[115, 116, 97, 108, 108, 101, 100]⟩ (by decide) i0 (who_is HI0.out HP.out.2.1) HI0.out
                    rw [e2] at this
                    exact this.mono fun _ _ h => DoPost.int h)
                  obtain ⟨A3, e, hAe⟩ : ∃ A3 e, prc.step P L (begins A i0 ⟨#[115, 116, 97, 108, 108, 101, 100]⟩) i0 = (A3, e) := ⟨_, _, rfl⟩
                  obtain ⟨dn, fl, sl0⟩ := e
                  obtain ⟨sl, hsl⟩ : ∃ sl : Int, sl = sl0 := ⟨_, rfl⟩
                  have e3 : doAb P L (begins A i0 ⟨#[115, 116, 97, 108, 108, 101, 100]⟩) 1 i0 ⟨#[]⟩ = (A3, ⟨dn, fl, sl0⟩) := (if_pos rfl).trans hAe
                  have HDB : ∀ (O : Nat → ByteArray) (gs os cs gv ov cv gp op cp : Nat) (V : World), Hid (St w1 P L (begins A i0 ⟨#[115, 116, 97, 108, 108, 101, 100]⟩) (K1 + 1) d c m B O (.slice (some ⟨gl, ol, none⟩) P cl) (.slice (some ⟨gs, os, none⟩) L cs) (.slice (some ⟨gv, ov, none⟩) P cv) (.slice (some ⟨gp, op, none⟩) P cp) x V → Calls Try.prog 11 #[.agg (stC P L d (.slice (some ⟨gl, ol, none⟩) P cl) (.slice (some ⟨gs, os, none⟩) L cs) (.slice (some ⟨gv, ov, none⟩) P cv) (.slice (some ⟨gp, op, none⟩) P cp)), .agg #[.int .i64 1, .int .i64 i0, .string ⟨#[]⟩]] V (DoPostI w1 V P L (K1 + 1 + 1) d c m (A3) B (.slice (some ⟨gl, ol, none⟩) P cl) dn fl sl)) := fun _ _ _ _ _ _ _ _ _ _ V => Lib.hid (fun h => by
                    have := h.sd.does HP.out.1 HP.out.2.1 HP.out.2.2 (by have := HK1.out; omega) 1 i0 ⟨#[]⟩ (by decide) i0 (who_is HI0.out HP.out.2.1) HI0.out
                    rw [e3] at this
                    rw [hsl]
                    exact this.mono fun _ _ h => DoPost.int h)
                  have hw := fun j h1 h2 => wished_helped (j := j) HI.out HI0.out ⟨#[115, 116, 97, 108, 108, 101, 100]⟩ h1 h2
                  rw [hAe] at hw
                  have HH : Hid (∀ j, D < j → j % P = i0 → Helped P L D j i0 A3) := Lib.hid fun j h1 h2 => (hw j h1 h2).1
                  have hmine := (hw jm hj1 hj3).2.2
                  dsimp only at hmine
                  obtain ⟨rc, hrc⟩ : ∃ rc, rc = prc.mine A3 i0 := ⟨_, rfl⟩
                  obtain ⟨sq, hsq⟩ : ∃ sq : Int, sq = (A3.X i0).seq := ⟨_, rfl⟩
                  obtain ⟨tm, htm⟩ : ∃ tm, tm = tx rc := ⟨_, rfl⟩
                  have HRC := Lib.hid (And.intro hrc (And.intro hsq (And.intro htm hmine)))
                  have HJ := Lib.hid (And.intro hj1 (And.intro hj2 hj3))
                  have hkb : (k : Int) ≤ 20 := by have := HKD.out; have := HI.out.d; omega
                  have hk0' : (0 : Int) ≤ (k : Int) := by omega
                  clear e2 e3 hAe hsl hw hmine hrc hsq htm hj1 hj2 hj3
                  have x0 := S8.out.bx.cell 0
                  have x1 := S8.out.bx.cell 1
                  have x2 := S8.out.bx.cell 2
                  have x3 := S8.out.bx.cell 3
                  have x4 := S8.out.bx.cell 4
                  have x5 := S8.out.bx.cell 5
                  have x6 := S8.out.bx.cell 6
                  go_wp2_with fail
                  refine calls_name (fun V3 h3 => ?_)
                  have S3 : Hid (St w1 P L (A) (K1) d c m B O (.slice (some ⟨gl, ol, none⟩) P cl) (.slice (some ⟨gs, os, none⟩) L cs) (.slice (some ⟨gv, ov, none⟩) P cv) (.slice (some ⟨gp, op, none⟩) P cp) x V3) := by rw [← h3]; exact S8.out
                  clear h3
                  refine ((HDA _).out S3.out).mono ?_
                  intro en w4 hp
                  obtain ⟨O4, s4, v4, p4, rfl, hsd4, hx4, t4⟩ := S3.out.didI hp
                  obtain ⟨gs4, os4, cs4, rfl⟩ := hsd4.dw.ts
                  obtain ⟨gv4, ov4, cv4, rfl⟩ := hsd4.dw.tw
                  obtain ⟨gp4, op4, cp4, rfl⟩ := hsd4.dw.tp
                  have S4 := Lib.hid (hsd4.put7 hx4 HX.out)
                  have f0 := hx4.free 0
                  have f1 := hx4.free 1
                  have f2 := hx4.free 2
                  have f3 := hx4.free 3
                  have f4 := hx4.free 4
                  have f5 := hx4.free 5
                  have f6 := hx4.free 6
                  replace x0 := hx4.cell 0
                  replace x1 := hx4.cell 1
                  replace x2 := hx4.cell 2
                  replace x3 := hx4.cell 3
                  replace x4 := hx4.cell 4
                  replace x5 := hx4.cell 5
                  replace x6 := hx4.cell 6
                  clear hp hsd4 hx4 t4 S3
                  go_wp2_with fail
                  refine calls_name (fun V3 h3 => ?_)
                  have S3 : Hid (St w1 P L (begins A i0 ⟨#[115, 116, 97, 108, 108, 101, 100]⟩) (K1 + 1) d c m B O4 (.slice (some ⟨gl, ol, none⟩) P cl) (.slice (some ⟨gs4, os4, none⟩) L cs4) (.slice (some ⟨gv4, ov4, none⟩) P cv4) (.slice (some ⟨gp4, op4, none⟩) P cp4) x V3) := by rw [← h3]; exact S4
                  clear h3 S4 x0 x1 x2 x3 x4 x5 x6 f0 f1 f2 f3 f4 f5 f6
                  refine ((HDB _ _ _ _ _ _ _ _ _ _ _).out S3.out).mono ?_
                  intro en w5 hp
                  obtain ⟨O5, s5, v5, p5, rfl, hsd5, hx5, t5⟩ := S3.out.didI hp
                  obtain ⟨gs5, os5, cs5, rfl⟩ := hsd5.dw.ts
                  obtain ⟨gv5, ov5, cv5, rfl⟩ := hsd5.dw.tw
                  obtain ⟨gp5, op5, cp5, rfl⟩ := hsd5.dw.tp
                  have S5 := Lib.hid (hsd5.put7 hx5 HX.out)
                  have f0 := hx5.free 0
                  have f1 := hx5.free 1
                  have f2 := hx5.free 2
                  have f3 := hx5.free 3
                  have f4 := hx5.free 4
                  have f5 := hx5.free 5
                  have f6 := hx5.free 6
                  have x0 := hx5.cell 0
                  have x1 := hx5.cell 1
                  have x2 := hx5.cell 2
                  have x3 := hx5.cell 3
                  have x4 := hx5.cell 4
                  have x5 := hx5.cell 5
                  have x6 := hx5.cell 6
                  obtain ⟨gl', ol', cl', e, hgl, -, -, hcl⟩ := hsd5.ls.cells HP.out.1
                  obtain ⟨rfl, rfl⟩ : gl = gl' ∧ ol = ol' := by injection e with e1 e2 e3; injection e1 with e1; injection e1 with e1 e4; exact ⟨e1, e4⟩
                  have ci := hcl i0 _ (ptrs_at B HI0.out)
                  have hlx : gl ≠ x := fun e6 => hsd5.ls.ne hx5 (by decide) (by show some gl = some x; rw [e6])
                  clear hp hsd5 hx5 t5 S3 e hcl
                  go_wp2_with fail
                  refine calls_name (fun V6 h6 => ?_)
                  have S6 : Hid (St w1 P L (A3) (K1 + 1 + 1) d c m B O5 (.slice (some ⟨gl, ol, none⟩) P cl) (.slice (some ⟨gs5, os5, none⟩) L cs5) (.slice (some ⟨gv5, ov5, none⟩) P cv5) (.slice (some ⟨gp5, op5, none⟩) P cp5) x V6) := by rw [← h6]; exact S5
                  clear h6 S5 x0 x1 x2 x3 x4 x5 x6 f0 f1 f2 f3 f4 f5 f6 ci hlx hgl
                  have hsq2 := S6.out.sd.sys.seq HI0.out
                  rw [← HRC.out.2.1] at hsq2
                  have hfit := S6.out.sd.good.fit.mine i0 HI0.out
                  have HTT : ∀ V, Hid (Calls Try.prog 19 #[.agg #[.int .i64 i0, .int .i64 sq, .string ⟨#[115, 116, 97, 108, 108, 101, 100]⟩]] V fun en w' => en = .returned (.string tm) ∧ Below V.heap.size V w') := fun V => Lib.hid (by
                    have e1 : rc = ⟨i0, (A3.X i0).seq, ⟨#[115, 116, 97, 108, 108, 101, 100]⟩⟩ := by
                      have h0 := HRC.out.2.2.2
                      rw [HRC.out.1]
                      unfold prc.mine at h0 ⊢
                      injection h0 with _ _ hb
                      rw [hb]
                    have h1 := text_calls rc V (by rw [HRC.out.1]; exact hfit)
                    rw [HRC.out.2.2.1, HRC.out.2.1]
                    rw [e1] at h1 ⊢
                    exact h1)
                  refine hsq2.mono ?_
                  rintro en w6 ⟨rfl, rfl⟩
                  go_wp2_with fail
                  refine (HTT _).out.mono ?_
                  rintro en w7 ⟨rfl, b7⟩
                  have S7 : Hid (St w1 P L (A3) (K1 + 1 + 1) d c m B O5 (.slice (some ⟨gl, ol, none⟩) P cl) (.slice (some ⟨gs5, os5, none⟩) L cs5) (.slice (some ⟨gv5, ov5, none⟩) P cv5) (.slice (some ⟨gp5, op5, none⟩) P cp5) x w7 ∧ (∀ j, D < j → j % P = i0 → Helped P L D j i0 A3) ∧ prc.mine A3 i0 = rc) := Lib.hid ⟨S6.out.below b7, HH.out, HRC.out.1.symm⟩
                  clear b7 S6 HH hsq2 hfit HTT HDB HDA
                  go_wp2_with fail
                  go_loopw [15] (fun i wr => ∃ (k4 : Nat) (A4 : Ab) (O : Nat → ByteArray) (gs os cs gv ov cv gp op cp : Nat), i = .int .i64 k4 ∧ k4 ≤ 150 ∧ k4 ≤ len2 ∧ Hid (St w1 P L (A4) (K1 + 2 + k4) d c m B O (.slice (some ⟨gl, ol, none⟩) P cl) (.slice (some ⟨gs, os, none⟩) L cs) (.slice (some ⟨gv, ov, none⟩) P cv) (.slice (some ⟨gp, op, none⟩) P cp) x wr ∧ (∀ j, D < j → j % P = i0 → Helped P L D j i0 A4) ∧ prc.mine A4 i0 = rc)) (fun i _ => 150 - (prc.intOf i).toNat)
                  case atStart => exact ⟨0, _, _, _, _, _, _, _, _, _, _, _, rfl, by omega, Nat.zero_le _, S7⟩
                  case round =>
                    clear S7
                    obtain ⟨k4, A4, O, gs, os, cs, gv, ov, cv, gp, op, cp, rfl, hk150, hkl, HS⟩ := hrel
                    have x0 := HS.out.1.bx.cell 0
                    have x1 := HS.out.1.bx.cell 1
                    have x2 := HS.out.1.bx.cell 2
                    have x3 := HS.out.1.bx.cell 3
                    have x4 := HS.out.1.bx.cell 4
                    have x5 := HS.out.1.bx.cell 5
                    have x6 := HS.out.1.bx.cell 6
                    have xl := HS.out.1.bx.lt
                    by_cases hk : k4 < len2 ∧ k4 < 150
                    · obtain ⟨hk1, hk2⟩ := hk
                      have hk1' : (k4 : Int) < (len2 : Int) := by omega
                      have hk2' : (k4 : Int) < 150 := by omega
                      have hk0' : (0 : Int) ≤ (k4 : Int) := by omega
                      obtain ⟨b, o, rfl, hb, hf, c0, c1, c2⟩ := actk_at AA2.out (turn_all HS.out.1 B1.out) hk1
                      have hbw : b < wr.heap.size := by have := (turn_all HS.out.1 B1.out).size; omega
                      obtain ⟨a, ha⟩ : ∃ a, a = T2 k4 := ⟨_, rfl⟩
                      rw [← ha] at hf c0 c1 c2
                      obtain ⟨kind, who, body⟩ := a
                      dsimp only at c0 c1 c2
                      obtain ⟨i, hi, hiP⟩ := someP who HP.out.1
                      by_cases hii : i = i0
                      · subst hii
                        have a0 := mask255 who
                        generalize who % 256 = n3 at *
                        have a1 : n3.tmod (P : Int) = (i : Int) := hi.symm
                        clear hb hf ha hi hiP hk150 hkl
                        go_wp2_with fail
                        refine ⟨⟨k4 + 1, _, _, _, _, _, _, _, _, _, _, _, by rw [Int.natCast_add]; rfl, by omega, by omega, Lib.hid ⟨(HS.out.1.alloc _).later, HS.out.2⟩⟩, ?_⟩
                        show 150 - ((k4 : Int) + 1).toNat < 150 - ((k4 : Int)).toNat
                        omega
                      · obtain ⟨A2, e, hAe⟩ : ∃ A2 e, doAb P L A4 kind i body = (A2, e) := ⟨_, _, rfl⟩
                        obtain ⟨dn, fl, sl0⟩ := e
                        obtain ⟨sl, hsl⟩ : ∃ sl : Int, sl = sl0 := ⟨_, rfl⟩
                        have HD : ∀ V, Hid (St w1 P L (A4) (K1 + 2 + k4) d c m B O (.slice (some ⟨gl, ol, none⟩) P cl) (.slice (some ⟨gs, os, none⟩) L cs) (.slice (some ⟨gv, ov, none⟩) P cv) (.slice (some ⟨gp, op, none⟩) P cp) x V → Calls Try.prog 11 #[.agg (stC P L d (.slice (some ⟨gl, ol, none⟩) P cl) (.slice (some ⟨gs, os, none⟩) L cs) (.slice (some ⟨gv, ov, none⟩) P cv) (.slice (some ⟨gp, op, none⟩) P cp)), .agg #[.int .i64 kind, .int .i64 who, .string body]] V (DoPostI w1 V P L (K1 + 2 + k4 + 1) d c m (A2) B (.slice (some ⟨gl, ol, none⟩) P cl) dn fl sl)) := fun V => Lib.hid (fun h => by
                          have := h.sd.does HP.out.1 HP.out.2.1 HP.out.2.2 (by have := HK1.out; omega) kind who body hf.2.2 i hi hiP
                          rw [hAe] at this
                          rw [hsl]
                          exact this.mono fun _ _ h => DoPost.int h)
                        obtain ⟨DD, hI4⟩ := HS.out.1.sd.good.inv
                        have HH2 : Hid ((∀ j, D < j → j % P = i0 → Helped P L D j i0 A2) ∧ prc.mine A2 i0 = rc) := Lib.hid ⟨fun j h1 h2 => by
                          have := (HS.out.2.1 j h1 h2).act (kind := kind) (body := body) hI4 hii
                          rw [hAe] at this
                          exact this, by
                          have := doAb_mine (P := P) (L := L) (A := A4) (kind := kind) (body := body) (i := i0) (q := i) (fun e => hii e.symm)
                          rw [hAe] at this
                          exact this.trans HS.out.2.2⟩
                        have hne : ¬ (i : Int) = (i0 : Int) := by omega
                        have a0 := mask255 who
                        generalize who % 256 = n3 at *
                        have a1 : n3.tmod (P : Int) = (i : Int) := hi.symm
                        have k0i : (0 : Int) ≤ (i : Int) := by omega
                        have k1i : (i : Int) < (P : Int) := by omega
                        clear hb hf ha hi hiP hk150 hkl hAe hsl hI4 hii
                        go_wp2_with fail
                        refine calls_name (fun V3 h3 => ?_)
                        have S3 : Hid (St w1 P L (A4) (K1 + 2 + k4) d c m B O (.slice (some ⟨gl, ol, none⟩) P cl) (.slice (some ⟨gs, os, none⟩) L cs) (.slice (some ⟨gv, ov, none⟩) P cv) (.slice (some ⟨gp, op, none⟩) P cp) x V3) := by rw [← h3]; exact Lib.hid (HS.out.1.alloc _)
                        clear h3
                        refine ((HD _).out S3.out).mono ?_
                        intro en w4 hp
                        obtain ⟨O4, s4, v4, p4, rfl, hsd4, hx4, t4⟩ := S3.out.didI hp
                        obtain ⟨gs4, os4, cs4, rfl⟩ := hsd4.dw.ts
                        obtain ⟨gv4, ov4, cv4, rfl⟩ := hsd4.dw.tw
                        obtain ⟨gp4, op4, cp4, rfl⟩ := hsd4.dw.tp
                        have S4 := Lib.hid (hsd4.put7 hx4 HX.out)
                        have f0 := hx4.free 0
                        have f1 := hx4.free 1
                        have f2 := hx4.free 2
                        have f3 := hx4.free 3
                        have f4 := hx4.free 4
                        have f5 := hx4.free 5
                        have f6 := hx4.free 6
                        replace x0 := hx4.cell 0
                        replace x1 := hx4.cell 1
                        replace x2 := hx4.cell 2
                        replace x3 := hx4.cell 3
                        replace x4 := hx4.cell 4
                        replace x5 := hx4.cell 5
                        replace x6 := hx4.cell 6
                        clear hp hsd4 hx4 t4 S3 HD
                        go_wp2_with fail
                        refine ⟨⟨k4 + 1, _, _, _, _, _, _, _, _, _, _, _, by rw [Int.natCast_add]; rfl, by omega, by omega, Lib.hid ⟨S4.out, HH2.out⟩⟩, ?_⟩
                        show 150 - ((k4 : Int) + 1).toNat < 150 - ((k4 : Int)).toNat
                        omega
                    · have h150 := h150i.out
                      have hx : ((k4 : Int) < (len2 : Int) ∧ ¬ (k4 : Int) < 150) ∨ ¬ (k4 : Int) < (len2 : Int) := by omega
                      clear hk
                      have hc1 : ¬ (k4 : Int) < (len2 : Int) := by omega
                      all_goals
                        have HSS := Lib.hid HS.out.1
                        have HHL := Lib.hid HS.out.2
                        clear HS x2 x3 x4 x5 x6 xl x1 x0
                        go_wp2_with fail
                        go_loopw [17] (fun i wr => ∃ j : Nat, i = .int .i64 j ∧ D + 1 ≤ j ∧ j ≤ jm ∧ Hid (St w1 P L (A4) (K1 + 2 + k4) d c m B O (.slice (some ⟨gl, ol, none⟩) P cl) (.slice (some ⟨gs, os, none⟩) L cs) (.slice (some ⟨gv, ov, none⟩) P cv) (.slice (some ⟨gp, op, none⟩) P cp) x wr)) (fun i _ => jm - (prc.intOf i).toNat)
                        case atStart => exact ⟨k + 1, by rw [Int.natCast_add]; rfl, by have := HKD.out; omega, by have := HJ.out; have := HKD.out; omega, HSS⟩
                        case round =>
                          clear HSS
                          obtain ⟨j, rfl, hj1, hj2, HS⟩ := hrel
                          have x0 := HS.out.bx.cell 0
                          have x1 := HS.out.bx.cell 1
                          obtain ⟨r, hr⟩ : ∃ r, r = j % P := ⟨_, rfl⟩
                          have har : ((j : Nat) : Int).tmod (P : Int) = (r : Int) := by rw [hr]; exact tmod_nat j P
                          have hjb : (j : Int) ≤ 30 := by have := HJ.out; have := HI.out.d; have := HP.out; omega
                          have hjb0 : (0 : Int) ≤ (j : Int) := by omega
                          have hpl := HP.out
                          by_cases hjr : r = i0
                          · subst hjr
                            obtain ⟨q, hq⟩ : ∃ q, q = P + j := ⟨_, rfl⟩
                            obtain ⟨t, ht⟩ : ∃ t, t = txo (A4.S j) := ⟨_, rfl⟩
                            have HQ := Lib.hid (And.intro hq (And.intro ht (And.intro hr.symm hj1)))
                            have HT : Hid (cellT P A4 q = t) := Lib.hid (by rw [hq, cellT_slot, ht])
                            have hcase : L ≤ j ∨ (j < L ∧ A4.S j = none) ∨ (j < L ∧ A4.S j ≠ none) := by
                              by_cases h1 : L ≤ j
                              · exact .inl h1
                              · by_cases h2 : A4.S j = none
                                · exact .inr (.inl ⟨by omega, h2⟩)
                                · exact .inr (.inr ⟨by omega, h2⟩)
                            clear hq ht hr hj1 hj2
                            rcases hcase with hjL | ⟨hjL, hS⟩ | ⟨hjL, hS⟩
                            · have hge : (L : Int) ≤ (j : Int) := by omega
                              clear hpl
                              go_wp2_with fail
                              refine wp_region_S (S := fun V1 => St w1 P L (A4) (K1 + 2 + k4) d c m B O (.slice (some ⟨gl, ol, none⟩) P cl) (.slice (some ⟨gs, os, none⟩) L cs) (.slice (some ⟨gv, ov, none⟩) P cv) (.slice (some ⟨gp, op, none⟩) P cp) x V1) (by kernel_rfl) (by exact HS.out.drew) ?_
                              refine AnyS.pure 0 (some 148) rfl rfl (by kernel_rfl) (by kernel_rfl) (by kernel_rfl) (fun _ _ _ h => h) (by kernel_rfl) (fun _ _ => rfl) ?_
                              refine AnyS.pure 1 (some 149) (v := .pointer (some ⟨x, 0, none⟩)) rfl rfl (by kernel_rfl) (by kernel_rfl) (by kernel_rfl) (fun _ _ _ h => h) (by kernel_rfl) (fun V _ => by go_simp) ?_
                              refine AnyS.pure 2 (some 150) (v := .pointer (some ⟨x, 1, none⟩)) rfl rfl (by kernel_rfl) (by kernel_rfl) (by kernel_rfl) (fun _ _ _ h => h) (by kernel_rfl) (fun V _ => by go_simp) ?_
                              refine AnyS.pure 3 (some 151) (v := .int .i64 L) rfl rfl (by kernel_rfl) (by kernel_rfl) (by kernel_rfl) (fun _ _ _ h => h) (by kernel_rfl) (fun V hV => by have c0 := hV.bx.cell 0; have c1 := hV.bx.cell 1; have c2 := hV.bx.cell 2; go_simp) ?_
                              refine AnyS.pure 4 (some 152) (v := .bool true) rfl rfl (by kernel_rfl) (by kernel_rfl) (by kernel_rfl) (fun _ _ _ h => h) (by kernel_rfl) (fun V _ => by go_simp) ?_
                              refine AnyS.pure 5 (some 153) rfl rfl (by kernel_rfl) (by kernel_rfl) (by kernel_rfl) (fun _ _ _ h => h) (by kernel_rfl) (fun _ _ => rfl) ?_
                              refine AnyS.skip 6 (some 154) rfl rfl (by kernel_rfl) (by kernel_rfl) (by kernel_rfl) (fun _ _ _ h => h) (by kernel_rfl) ?_
                              refine AnyS.skip 7 (some 155) rfl rfl (by kernel_rfl) (by kernel_rfl) (by kernel_rfl) (fun _ _ _ h => h) (by kernel_rfl) ?_
                              refine AnyS.skip 8 (some 156) rfl rfl (by kernel_rfl) (by kernel_rfl) (by kernel_rfl) (fun _ _ _ h => h) (by kernel_rfl) ?_
                              refine AnyS.skip 9 (some 157) rfl rfl (by kernel_rfl) (by kernel_rfl) (by kernel_rfl) (fun _ _ _ h => h) (by kernel_rfl) ?_
                              refine AnyS.skip 10 (some 158) rfl rfl (by kernel_rfl) (by kernel_rfl) (by kernel_rfl) (fun _ _ _ h => h) (by kernel_rfl) ?_
                              refine AnyS.skip 11 (some 159) rfl rfl (by kernel_rfl) (by kernel_rfl) (by kernel_rfl) (fun _ _ _ h => h) (by kernel_rfl) ?_
                              refine AnyS.skip 12 (some 160) rfl rfl (by kernel_rfl) (by kernel_rfl) (by kernel_rfl) (fun _ _ _ h => h) (by kernel_rfl) ?_
                              refine AnyS.skip 13 (some 161) rfl rfl (by kernel_rfl) (by kernel_rfl) (by kernel_rfl) (fun _ _ _ h => h) (by kernel_rfl) ?_
                              simp only [Act.put, List.setIfInBounds_toArray, List.set_cons_zero, List.set_cons_succ]
                              refine AnyS.pure 14 (some 162) (v := .bool true) rfl rfl (by kernel_rfl) (by kernel_rfl) (by kernel_rfl) (fun _ _ _ h => h) (by kernel_rfl) (fun V _ => by go_simp) ?_
                              simp only [Act.put, List.setIfInBounds_toArray, List.set_cons_zero, List.set_cons_succ]
                              refine AnyS.done (by kernel_rfl) (fun V2 hV => ?_) _
                              have HV := Lib.hid hV
                              clear hV HS
                              go_wp2_with fail
                              go_ret
                              exact ⟨rfl, below_all HV.out B1.out⟩
                            · have hlt : (j : Int) < (L : Int) := by omega
                              have hn2 : t.toList = [] := by
                                have e : t = ⟨#[]⟩ := by rw [HQ.out.2.1, hS]; rfl
                                rw [e]
                                simp [ByteArray.toList_eq]
                              have hn1 : (t.toList == []) = true := by rw [hn2]; rfl
                              have HN : Hid (q < P + L) := Lib.hid (by have := HQ.out.1; omega)
                              have HC : ∀ V, Hid (Calls Try.prog 18 #[.agg #[.int .i64 P, .int .i64 L], .int .i64 j] V fun en w' => en = .returned (.int .i64 q) ∧ Below V.heap.size V w') := fun V => Lib.hid (by
                                have e : (q : Int) = (P : Int) + (j : Int) := by have := HQ.out.1; omega
                                rw [e]
                                exact slotP_calls P L j V (by omega) (by omega) (by omega) (by omega))
                              clear hpl
                              go_wp2_with fail
                              refine wp_region_S (S := fun V1 => St w1 P L (A4) (K1 + 2 + k4) d c m B O (.slice (some ⟨gl, ol, none⟩) P cl) (.slice (some ⟨gs, os, none⟩) L cs) (.slice (some ⟨gv, ov, none⟩) P cv) (.slice (some ⟨gp, op, none⟩) P cp) x V1) (by kernel_rfl) (by exact HS.out.drew) ?_
                              refine AnyS.pure 0 (some 148) rfl rfl (by kernel_rfl) (by kernel_rfl) (by kernel_rfl) (fun _ _ _ h => h) (by kernel_rfl) (fun _ _ => rfl) ?_
                              refine AnyS.pure 1 (some 149) (v := .pointer (some ⟨x, 0, none⟩)) rfl rfl (by kernel_rfl) (by kernel_rfl) (by kernel_rfl) (fun _ _ _ h => h) (by kernel_rfl) (fun V _ => by go_simp) ?_
                              refine AnyS.pure 2 (some 150) (v := .pointer (some ⟨x, 1, none⟩)) rfl rfl (by kernel_rfl) (by kernel_rfl) (by kernel_rfl) (fun _ _ _ h => h) (by kernel_rfl) (fun V _ => by go_simp) ?_
                              refine AnyS.pure 3 (some 151) (v := .int .i64 L) rfl rfl (by kernel_rfl) (by kernel_rfl) (by kernel_rfl) (fun _ _ _ h => h) (by kernel_rfl) (fun V hV => by have c0 := hV.bx.cell 0; have c1 := hV.bx.cell 1; have c2 := hV.bx.cell 2; go_simp) ?_
                              refine AnyS.pure 4 (some 152) (v := .bool false) rfl rfl (by kernel_rfl) (by kernel_rfl) (by kernel_rfl) (fun _ _ _ h => h) (by kernel_rfl) (fun V _ => by go_simp) ?_
                              refine AnyS.pure 5 (some 153) rfl rfl (by kernel_rfl) (by kernel_rfl) (by kernel_rfl) (fun _ _ _ h => h) (by kernel_rfl) (fun _ _ => rfl) ?_
                              refine AnyS.pure 6 (some 154) (v := .pointer (some ⟨x, 2, none⟩)) rfl rfl (by kernel_rfl) (by kernel_rfl) (by kernel_rfl) (fun _ _ _ h => h) (by kernel_rfl) (fun V _ => by go_simp) ?_
                              refine AnyS.pure 7 (some 155) (v := .pointer (some ⟨d, 0, none⟩)) rfl rfl (by kernel_rfl) (by kernel_rfl) (by kernel_rfl) (fun _ _ _ h => h) (by kernel_rfl) (fun V hV => by have c0 := hV.bx.cell 0; have c1 := hV.bx.cell 1; have c2 := hV.bx.cell 2; go_simp) ?_
                              refine AnyS.pure 8 (some 156) (v := .pointer (some ⟨x, 0, none⟩)) rfl rfl (by kernel_rfl) (by kernel_rfl) (by kernel_rfl) (fun _ _ _ h => h) (by kernel_rfl) (fun V _ => by go_simp) ?_
                              refine AnyS.pure 9 (some 157) (v := .agg #[.int .i64 P, .int .i64 L]) rfl rfl (by kernel_rfl) (by kernel_rfl) (by kernel_rfl) (fun _ _ _ h => h) (by kernel_rfl) (fun V hV => by have c0 := hV.bx.cell 0; have c1 := hV.bx.cell 1; have c2 := hV.bx.cell 2; go_simp) ?_
                              refine AnyS.pure 10 (some 158) rfl rfl (by kernel_rfl) (by kernel_rfl) (by kernel_rfl) (fun _ _ _ h => h) (by kernel_rfl) (fun _ _ => rfl) ?_
                              refine AnyS.call 11 (some 159) (.int .i64 q) rfl rfl (by kernel_rfl) (by kernel_rfl) (by kernel_rfl) (fun _ _ _ h => h) (by kernel_rfl) 18 Try.f18 Try.func18 (by kernel_rfl) (by kernel_rfl) _ _ rfl #[.agg #[.int .i64 P, .int .i64 L], .int .i64 j] (by first | (simp [Act.eval]; done) | (simp [Act.eval, Act.put]; done)) (fun V hV => ((HC V).out).mono (by rintro en v ⟨rfl, bv⟩; exact ⟨rfl, hV.below bv⟩)) ?_
                              simp only [Act.put, List.setIfInBounds_toArray, List.set_cons_zero, List.set_cons_succ]
                              refine AnyS.call 12 (some 160) (.string t) rfl rfl (by kernel_rfl) (by kernel_rfl) (by kernel_rfl) (fun _ _ _ h => h) (by kernel_rfl) 17 Try.f17 Try.func17 (by kernel_rfl) (by kernel_rfl) _ _ rfl #[.pointer (some ⟨d, 0, none⟩), .int .i64 q] (by first | (simp [Act.eval]; done) | (simp [Act.eval, Act.put]; done)) (fun V hV => (hV.sd.sys.look q HN.out t HT.out).mono (by rintro en v ⟨rfl, rfl⟩; exact ⟨rfl, hV⟩)) ?_
                              simp only [Act.put, List.setIfInBounds_toArray, List.set_cons_zero, List.set_cons_succ]
                              refine AnyS.pure 13 (some 161) (v := .bool true) rfl rfl (by kernel_rfl) (by kernel_rfl) (by kernel_rfl) (fun _ _ _ h => h) (by kernel_rfl) (fun V _ => by go_simp) ?_
                              refine AnyS.pure 14 (some 162) (v := .bool true) rfl rfl (by kernel_rfl) (by kernel_rfl) (by kernel_rfl) (fun _ _ _ h => h) (by kernel_rfl) (fun V _ => by go_simp) ?_
                              refine AnyS.done (by kernel_rfl) (fun V2 hV => ?_) _
                              have HV := Lib.hid hV
                              clear hV HS
                              go_wp2_with fail
                              go_ret
                              exact ⟨rfl, below_all HV.out B1.out⟩
                            · have hlt : (j : Int) < (L : Int) := by omega
                              have hne : t ≠ ⟨#[]⟩ := by
                                rw [HQ.out.2.1]
                                cases hS2 : A4.S j with
                                | none => exact absurd hS2 hS
                                | some r => exact tx_ne r
                              obtain ⟨hn1, hn2, hn3⟩ := bytes_nil hne
                              have HN : Hid (q < P + L) := Lib.hid (by have := HQ.out.1; omega)
                              have HC : ∀ V, Hid (Calls Try.prog 18 #[.agg #[.int .i64 P, .int .i64 L], .int .i64 j] V fun en w' => en = .returned (.int .i64 q) ∧ Below V.heap.size V w') := fun V => Lib.hid (by
                                have e : (q : Int) = (P : Int) + (j : Int) := by have := HQ.out.1; omega
                                rw [e]
                                exact slotP_calls P L j V (by omega) (by omega) (by omega) (by omega))
                              obtain ⟨mm, hm1, hm2, hm3⟩ := (HHL.out.1 j HQ.out.2.2.2 HQ.out.2.2.1).slot hS
                              rw [HHL.out.2] at hm3
                              have HM := Lib.hid (And.intro hm1 (And.intro hm2 (And.intro hm3 hjL)))
                              clear hpl hm1 hm2 hm3 hne hS
                              go_wp2_with fail
                              refine wp_region_S (S := fun V1 => St w1 P L (A4) (K1 + 2 + k4) d c m B O (.slice (some ⟨gl, ol, none⟩) P cl) (.slice (some ⟨gs, os, none⟩) L cs) (.slice (some ⟨gv, ov, none⟩) P cv) (.slice (some ⟨gp, op, none⟩) P cp) x V1) (by kernel_rfl) (by exact HS.out.drew) ?_
                              refine AnyS.pure 0 (some 148) rfl rfl (by kernel_rfl) (by kernel_rfl) (by kernel_rfl) (fun _ _ _ h => h) (by kernel_rfl) (fun _ _ => rfl) ?_
                              refine AnyS.pure 1 (some 149) (v := .pointer (some ⟨x, 0, none⟩)) rfl rfl (by kernel_rfl) (by kernel_rfl) (by kernel_rfl) (fun _ _ _ h => h) (by kernel_rfl) (fun V _ => by go_simp) ?_
                              refine AnyS.pure 2 (some 150) (v := .pointer (some ⟨x, 1, none⟩)) rfl rfl (by kernel_rfl) (by kernel_rfl) (by kernel_rfl) (fun _ _ _ h => h) (by kernel_rfl) (fun V _ => by go_simp) ?_
                              refine AnyS.pure 3 (some 151) (v := .int .i64 L) rfl rfl (by kernel_rfl) (by kernel_rfl) (by kernel_rfl) (fun _ _ _ h => h) (by kernel_rfl) (fun V hV => by have c0 := hV.bx.cell 0; have c1 := hV.bx.cell 1; have c2 := hV.bx.cell 2; go_simp) ?_
                              refine AnyS.pure 4 (some 152) (v := .bool false) rfl rfl (by kernel_rfl) (by kernel_rfl) (by kernel_rfl) (fun _ _ _ h => h) (by kernel_rfl) (fun V _ => by go_simp) ?_
                              refine AnyS.pure 5 (some 153) rfl rfl (by kernel_rfl) (by kernel_rfl) (by kernel_rfl) (fun _ _ _ h => h) (by kernel_rfl) (fun _ _ => rfl) ?_
                              refine AnyS.pure 6 (some 154) (v := .pointer (some ⟨x, 2, none⟩)) rfl rfl (by kernel_rfl) (by kernel_rfl) (by kernel_rfl) (fun _ _ _ h => h) (by kernel_rfl) (fun V _ => by go_simp) ?_
                              refine AnyS.pure 7 (some 155) (v := .pointer (some ⟨d, 0, none⟩)) rfl rfl (by kernel_rfl) (by kernel_rfl) (by kernel_rfl) (fun _ _ _ h => h) (by kernel_rfl) (fun V hV => by have c0 := hV.bx.cell 0; have c1 := hV.bx.cell 1; have c2 := hV.bx.cell 2; go_simp) ?_
                              refine AnyS.pure 8 (some 156) (v := .pointer (some ⟨x, 0, none⟩)) rfl rfl (by kernel_rfl) (by kernel_rfl) (by kernel_rfl) (fun _ _ _ h => h) (by kernel_rfl) (fun V _ => by go_simp) ?_
                              refine AnyS.pure 9 (some 157) (v := .agg #[.int .i64 P, .int .i64 L]) rfl rfl (by kernel_rfl) (by kernel_rfl) (by kernel_rfl) (fun _ _ _ h => h) (by kernel_rfl) (fun V hV => by have c0 := hV.bx.cell 0; have c1 := hV.bx.cell 1; have c2 := hV.bx.cell 2; go_simp) ?_
                              refine AnyS.pure 10 (some 158) rfl rfl (by kernel_rfl) (by kernel_rfl) (by kernel_rfl) (fun _ _ _ h => h) (by kernel_rfl) (fun _ _ => rfl) ?_
                              refine AnyS.call 11 (some 159) (.int .i64 q) rfl rfl (by kernel_rfl) (by kernel_rfl) (by kernel_rfl) (fun _ _ _ h => h) (by kernel_rfl) 18 Try.f18 Try.func18 (by kernel_rfl) (by kernel_rfl) _ _ rfl #[.agg #[.int .i64 P, .int .i64 L], .int .i64 j] (by first | (simp [Act.eval]; done) | (simp [Act.eval, Act.put]; done)) (fun V hV => ((HC V).out).mono (by rintro en v ⟨rfl, bv⟩; exact ⟨rfl, hV.below bv⟩)) ?_
                              simp only [Act.put, List.setIfInBounds_toArray, List.set_cons_zero, List.set_cons_succ]
                              refine AnyS.call 12 (some 160) (.string t) rfl rfl (by kernel_rfl) (by kernel_rfl) (by kernel_rfl) (fun _ _ _ h => h) (by kernel_rfl) 17 Try.f17 Try.func17 (by kernel_rfl) (by kernel_rfl) _ _ rfl #[.pointer (some ⟨d, 0, none⟩), .int .i64 q] (by first | (simp [Act.eval]; done) | (simp [Act.eval, Act.put]; done)) (fun V hV => (hV.sd.sys.look q HN.out t HT.out).mono (by rintro en v ⟨rfl, rfl⟩; exact ⟨rfl, hV⟩)) ?_
                              simp only [Act.put, List.setIfInBounds_toArray, List.set_cons_zero, List.set_cons_succ]
                              refine AnyS.pure 13 (some 161) (v := .bool false) rfl rfl (by kernel_rfl) (by kernel_rfl) (by kernel_rfl) (fun _ _ _ h => h) (by kernel_rfl) (fun V _ => by go_simp) ?_
                              refine AnyS.pure 14 (some 162) (v := .bool false) rfl rfl (by kernel_rfl) (by kernel_rfl) (by kernel_rfl) (fun _ _ _ h => h) (by kernel_rfl) (fun V _ => by go_simp) ?_
                              refine AnyS.done (by kernel_rfl) (fun V2 hV => ?_) _
                              have HV := Lib.hid hV
                              clear hV HS HC HN HT hn1 hn2 hn3 x0 x1
                              go_wp2_with fail
                              go_loopw [18] (fun i wr => ∃ q0 : Nat, i = .int .i64 q0 ∧ D ≤ q0 ∧ q0 ≤ mm ∧ Hid (St w1 P L (A4) (K1 + 2 + k4) d c m B O (.slice (some ⟨gl, ol, none⟩) P cl) (.slice (some ⟨gs, os, none⟩) L cs) (.slice (some ⟨gv, ov, none⟩) P cv) (.slice (some ⟨gp, op, none⟩) P cp) x wr)) (fun i _ => mm - (prc.intOf i).toNat)
                              case atStart => exact ⟨k, rfl, by have := HKD.out; omega, by have := HKD.out; have := HM.out.1; omega, HV⟩
                              case round =>
                                clear HV
                                obtain ⟨q0, rfl, hq1, hq2, HS⟩ := hrel
                                have hpl := HP.out
                                have hmj := HM.out
                                have hle : (q0 : Int) ≤ (j : Int) := by omega
                                have hq00 : (0 : Int) ≤ (q0 : Int) := by omega
                                obtain ⟨q, hq⟩ : ∃ q, q = P + q0 := ⟨_, rfl⟩
                                obtain ⟨t, ht⟩ : ∃ t, t = txo (A4.S q0) := ⟨_, rfl⟩
                                have HQ := Lib.hid (And.intro hq ht)
                                have HT : Hid (cellT P A4 q = t) := Lib.hid (by rw [hq, cellT_slot, ht])
                                have HN : Hid (q < P + L) := Lib.hid (by omega)
                                have HC : ∀ V, Hid (Calls Try.prog 18 #[.agg #[.int .i64 P, .int .i64 L], .int .i64 q0] V fun en w' => en = .returned (.int .i64 q) ∧ Below V.heap.size V w') := fun V => Lib.hid (by
                                  have e : (q : Int) = (P : Int) + (q0 : Int) := by have := HQ.out.1; omega
                                  rw [e]
                                  exact slotP_calls P L q0 V (by omega) (by omega) (by omega) (by omega))
                                by_cases htt : t = tm
                                · have et : (t.toList == tm.toList) = true := by rw [htt]; exact beq_self_eq_true _
                                  clear hq ht hpl hmj htt
                                  go_wp2_with fail
                                  refine wp_region_S (S := fun V1 => St w1 P L (A4) (K1 + 2 + k4) d c m B O (.slice (some ⟨gl, ol, none⟩) P cl) (.slice (some ⟨gs, os, none⟩) L cs) (.slice (some ⟨gv, ov, none⟩) P cv) (.slice (some ⟨gp, op, none⟩) P cp) x V1) (by kernel_rfl) (by exact HS.out.drew) ?_
                                  refine AnyS.pure 0 (some 169) (v := .pointer (some ⟨x, 2, none⟩)) rfl rfl (by kernel_rfl) (by kernel_rfl) (by kernel_rfl) (fun _ _ _ h => h) (by kernel_rfl) (fun V _ => by go_simp) ?_
                                  refine AnyS.pure 1 (some 170) (v := .pointer (some ⟨d, 0, none⟩)) rfl rfl (by kernel_rfl) (by kernel_rfl) (by kernel_rfl) (fun _ _ _ h => h) (by kernel_rfl) (fun V hV => by have c0 := hV.bx.cell 0; have c1 := hV.bx.cell 1; have c2 := hV.bx.cell 2; go_simp) ?_
                                  refine AnyS.pure 2 (some 171) (v := .pointer (some ⟨x, 0, none⟩)) rfl rfl (by kernel_rfl) (by kernel_rfl) (by kernel_rfl) (fun _ _ _ h => h) (by kernel_rfl) (fun V _ => by go_simp) ?_
                                  refine AnyS.pure 3 (some 172) (v := .agg #[.int .i64 P, .int .i64 L]) rfl rfl (by kernel_rfl) (by kernel_rfl) (by kernel_rfl) (fun _ _ _ h => h) (by kernel_rfl) (fun V hV => by have c0 := hV.bx.cell 0; have c1 := hV.bx.cell 1; have c2 := hV.bx.cell 2; go_simp) ?_
                                  refine AnyS.pure 4 (some 173) rfl rfl (by kernel_rfl) (by kernel_rfl) (by kernel_rfl) (fun _ _ _ h => h) (by kernel_rfl) (fun _ _ => rfl) ?_
                                  refine AnyS.pure 7 (some 176) rfl rfl (by kernel_rfl) (by kernel_rfl) (by kernel_rfl) (fun _ _ _ h => h) (by kernel_rfl) (fun _ _ => rfl) ?_
                                  refine AnyS.call 5 (some 174) (.int .i64 q) rfl rfl (by kernel_rfl) (by kernel_rfl) (by kernel_rfl) (fun _ _ _ h => h) (by kernel_rfl) 18 Try.f18 Try.func18 (by kernel_rfl) (by kernel_rfl) _ _ rfl #[.agg #[.int .i64 P, .int .i64 L], .int .i64 q0] (by first | (simp [Act.eval]; done) | (simp [Act.eval, Act.put]; done)) (fun V hV => ((HC V).out).mono (by rintro en v ⟨rfl, bv⟩; exact ⟨rfl, hV.below bv⟩)) ?_
                                  simp only [Act.put, List.setIfInBounds_toArray, List.set_cons_zero, List.set_cons_succ]
                                  refine AnyS.call 6 (some 175) (.string t) rfl rfl (by kernel_rfl) (by kernel_rfl) (by kernel_rfl) (fun _ _ _ h => h) (by kernel_rfl) 17 Try.f17 Try.func17 (by kernel_rfl) (by kernel_rfl) _ _ rfl #[.pointer (some ⟨d, 0, none⟩), .int .i64 q] (by first | (simp [Act.eval]; done) | (simp [Act.eval, Act.put]; done)) (fun V hV => (hV.sd.sys.look q HN.out t HT.out).mono (by rintro en v ⟨rfl, rfl⟩; exact ⟨rfl, hV⟩)) ?_
                                  simp only [Act.put, List.setIfInBounds_toArray, List.set_cons_zero, List.set_cons_succ]
                                  refine AnyS.pure 8 (some 177) (v := .bool true) rfl rfl (by kernel_rfl) (by kernel_rfl) (by kernel_rfl) (fun _ _ _ h => h) (by kernel_rfl) (fun V _ => by go_simp) ?_
                                  refine AnyS.done (by kernel_rfl) (fun V2 hV => ?_) _
                                  have HV := Lib.hid hV
                                  clear hV HS
                                  go_wp2_with fail
                                  go_ret
                                  exact ⟨rfl, below_all HV.out B1.out⟩
                                · have et := bytes_ne htt
                                  have hlt2 : q0 < mm := by
                                    rcases Nat.lt_or_ge q0 mm with h | h
                                    · exact h
                                    · have e : q0 = mm := by omega
                                      exact absurd (by rw [ht, e, hmj.2.2.1, HRC.out.2.2.1]; rfl) htt
                                  clear hq ht hpl hmj htt
                                  go_wp2_with fail
                                  refine wp_region_S (S := fun V1 => St w1 P L (A4) (K1 + 2 + k4) d c m B O (.slice (some ⟨gl, ol, none⟩) P cl) (.slice (some ⟨gs, os, none⟩) L cs) (.slice (some ⟨gv, ov, none⟩) P cv) (.slice (some ⟨gp, op, none⟩) P cp) x V1) (by kernel_rfl) (by exact HS.out.drew) ?_
                                  refine AnyS.pure 0 (some 169) (v := .pointer (some ⟨x, 2, none⟩)) rfl rfl (by kernel_rfl) (by kernel_rfl) (by kernel_rfl) (fun _ _ _ h => h) (by kernel_rfl) (fun V _ => by go_simp) ?_
                                  refine AnyS.pure 1 (some 170) (v := .pointer (some ⟨d, 0, none⟩)) rfl rfl (by kernel_rfl) (by kernel_rfl) (by kernel_rfl) (fun _ _ _ h => h) (by kernel_rfl) (fun V hV => by have c0 := hV.bx.cell 0; have c1 := hV.bx.cell 1; have c2 := hV.bx.cell 2; go_simp) ?_
                                  refine AnyS.pure 2 (some 171) (v := .pointer (some ⟨x, 0, none⟩)) rfl rfl (by kernel_rfl) (by kernel_rfl) (by kernel_rfl) (fun _ _ _ h => h) (by kernel_rfl) (fun V _ => by go_simp) ?_
                                  refine AnyS.pure 3 (some 172) (v := .agg #[.int .i64 P, .int .i64 L]) rfl rfl (by kernel_rfl) (by kernel_rfl) (by kernel_rfl) (fun _ _ _ h => h) (by kernel_rfl) (fun V hV => by have c0 := hV.bx.cell 0; have c1 := hV.bx.cell 1; have c2 := hV.bx.cell 2; go_simp) ?_
                                  refine AnyS.pure 4 (some 173) rfl rfl (by kernel_rfl) (by kernel_rfl) (by kernel_rfl) (fun _ _ _ h => h) (by kernel_rfl) (fun _ _ => rfl) ?_
                                  refine AnyS.pure 7 (some 176) rfl rfl (by kernel_rfl) (by kernel_rfl) (by kernel_rfl) (fun _ _ _ h => h) (by kernel_rfl) (fun _ _ => rfl) ?_
                                  refine AnyS.call 5 (some 174) (.int .i64 q) rfl rfl (by kernel_rfl) (by kernel_rfl) (by kernel_rfl) (fun _ _ _ h => h) (by kernel_rfl) 18 Try.f18 Try.func18 (by kernel_rfl) (by kernel_rfl) _ _ rfl #[.agg #[.int .i64 P, .int .i64 L], .int .i64 q0] (by first | (simp [Act.eval]; done) | (simp [Act.eval, Act.put]; done)) (fun V hV => ((HC V).out).mono (by rintro en v ⟨rfl, bv⟩; exact ⟨rfl, hV.below bv⟩)) ?_
                                  simp only [Act.put, List.setIfInBounds_toArray, List.set_cons_zero, List.set_cons_succ]
                                  refine AnyS.call 6 (some 175) (.string t) rfl rfl (by kernel_rfl) (by kernel_rfl) (by kernel_rfl) (fun _ _ _ h => h) (by kernel_rfl) 17 Try.f17 Try.func17 (by kernel_rfl) (by kernel_rfl) _ _ rfl #[.pointer (some ⟨d, 0, none⟩), .int .i64 q] (by first | (simp [Act.eval]; done) | (simp [Act.eval, Act.put]; done)) (fun V hV => (hV.sd.sys.look q HN.out t HT.out).mono (by rintro en v ⟨rfl, rfl⟩; exact ⟨rfl, hV⟩)) ?_
                                  simp only [Act.put, List.setIfInBounds_toArray, List.set_cons_zero, List.set_cons_succ]
                                  refine AnyS.pure 8 (some 177) (v := .bool false) rfl rfl (by kernel_rfl) (by kernel_rfl) (by kernel_rfl) (fun _ _ _ h => h) (by kernel_rfl) (fun V _ => by go_simp) ?_
                                  refine AnyS.done (by kernel_rfl) (fun V2 hV => ?_) _
                                  have HV := Lib.hid hV
                                  clear hV HS
                                  go_wp2_with fail
                                  refine ⟨⟨q0 + 1, by rw [Int.natCast_add]; rfl, by omega, by omega, HV⟩, ?_⟩
                                  show mm - ((q0 : Int) + 1).toNat < mm - ((q0 : Int)).toNat
                                  omega
                          · have hne : ¬ (r : Int) = (i0 : Int) := by omega
                            have hlt : j < jm := by
                              rcases Nat.lt_or_ge j jm with h | h
                              · exact h
                              · have e : j = jm := by omega
                                exact absurd (by rw [hr, e]; exact HJ.out.2.2) hjr
                            clear hpl hr hjr
                            go_wp2_with fail
                            refine ⟨⟨j + 1, by rw [Int.natCast_add]; rfl, by omega, by omega, HS⟩, ?_⟩
                            show jm - ((j : Int) + 1).toNat < jm - ((j : Int)).toNat
                            omega
end Go.Proofs.Ytokcodbojiaajaa.procHelpedA
