/- ProcFree: for any two numbers and any list of acts the law answers true, and its arguments read afterwards as they did. Conditions: none. -/
import Derived.Test.YtbpcfkniflgmfaaY004
import Derived.Test.YtbpcfkniflgmfaaY020
import Derived.Test.YtbpcfkniflgmfaaYPrdJ
import Derived.Test.YtbpcfkniflgmfaaY010
import Derived.Test.YtbpcfkniflgmfaaY024
import Derived.Deep.RegionHeld3
namespace Go.Proofs.Ytbpcfkniflgmfaa.procFree
open Go Go.ChangeShapes Go.WideShapes Go.ChangeAt Go.RowKit Go.Maps Go.Proofs.Ytbpcfkniflgmfaa.prc

theorem region_heldV {P : Program} {ops : Array Oper} {Q : Exit → Act → World → Prop} {id : Nat} {a : Act} {w : World} (S : World → Prop) (V : World) (hV : V = w.drew) (hm : P.follows .mixedOrders = true)
    (h : wpAnyH P .any ops Q S ops.size (Array.replicate ops.size false) a V) : (Code.region id ops true).wp P Q a w := by
  subst hV
  exact wp_region_any hm (wpAny_of_held _ _ _ _ h)

set_option maxRecDepth 100000 in
set_option maxHeartbeats 40000000 in
theorem free_any (n k0 : Int) (a1 : Option Addr) (len1 cap1 : Nat) (T1 : Nat → Ak) (w : World) (h1 : ArgK w a1 len1 T1) :
    Calls Try.prog 4 #[.int .i64 n, .int .i64 k0, .slice a1 len1 cap1] w fun en w' => en = .returned (.bool true) ∧ Below w.heap.size w w' := by
  have hl1 : len1 ≤ 9223372036854775807 := by have := h1.1; unfold maxLen at this; omega
  have A1 := Lib.hid h1
  clear h1
  go_enter Try.func4, Try.ntmps4
  go_wp2_with fail
  refine (awake_calls w).mono ?_
  rintro en w1 ⟨rfl, b1⟩
  have B1 := Lib.hid b1
  clear b1
  go_wp2_with fail
  refine (lbegin_calls n k0 w1).mono ?_
  rintro en w2 ⟨P, L, d, c, m, B, l, s, v, p, hP0, hP, hL, rfl, hsd, b2⟩
  obtain ⟨gl, ol, cl, rfl⟩ := hsd.tl (by omega)
  obtain ⟨gs0, os0, cs0, rfl⟩ := hsd.dw.ts
  obtain ⟨gv0, ov0, cv0, rfl⟩ := hsd.dw.tw
  obtain ⟨gp0, op0, cp0, rfl⟩ := hsd.dw.tp
  have hPi : (P : Int) ≤ 5 := by omega
  have hLi : (L : Int) ≤ 20 := by omega
  have g2 : ¬ (P : Int) = 0 := by omega
  have g3 : ((P : Int) == 0) = false := by simpa using g2
  have g4 : ¬ P = 0 := by omega
  have HP := Lib.hid (And.intro hP0 (And.intro hP hL))
  have S2 := Lib.hid (And.intro hsd b2)
  clear hP0 hP hL hsd b2
  have hrun0 := fun W => run_makeMap (P := Try.prog) 51 W
  go_wp2_with fail
  go_name_world W hW
  have S0 : Hid (St w1 P L ab0 0 d c m B noO (.slice (some ⟨gl, ol, none⟩) P cl) (.slice (some ⟨gs0, os0, none⟩) L cs0) (.slice (some ⟨gv0, ov0, none⟩) P cv0) (.slice (some ⟨gp0, op0, none⟩) P cp0) w2.heap.size W ∧ Ct w1 (w2.heap.size + 1) (fun _ => 0) 0 W ∧ Own P L ab0 (fun _ => 0)) := by
    have hm : cel.Mp ((w2.alloc (.cells (stC P L d (.slice (some ⟨gl, ol, none⟩) P cl) (.slice (some ⟨gs0, os0, none⟩) L cs0) (.slice (some ⟨gv0, ov0, none⟩) P cv0) (.slice (some ⟨gp0, op0, none⟩) P cp0)) 33)).alloc (.map #[] 0)) (w2.heap.size + 1) (.map [] : DataW Unit) := by
      have h0 := cel.tight (World.ownsMap_made (H := Unit) (w2.alloc (.cells (stC P L d (.slice (some ⟨gl, ol, none⟩) P cl) (.slice (some ⟨gs0, os0, none⟩) L cs0) (.slice (some ⟨gv0, ov0, none⟩) P cv0) (.slice (some ⟨gp0, op0, none⟩) P cp0)) 33)) Try.prog 3 (plainElem Try.prog 3))
      rw [show ∀ o, (w2.alloc o).heap.size = w2.heap.size + 1 from fun o => by simp] at h0
      exact h0
    rw [← hW]
    exact Lib.hid ⟨⟨(S2.out.1.alloc _).alloc _, (Has.made _ _ _).alloc _, S2.out.2.size⟩, ⟨⟨.map [], hm, fun i => rfl, Nat.le_refl _⟩, by have := S2.out.2.size; omega⟩, Own.start P L⟩
  have HOFF : Hid (Off P d c m B (w2.heap.size + 1)) := Lib.hid (by
    have h0 := (S2.out.1.alloc (.cells (stC P L d (.slice (some ⟨gl, ol, none⟩) P cl) (.slice (some ⟨gs0, os0, none⟩) L cs0) (.slice (some ⟨gv0, ov0, none⟩) P cv0) (.slice (some ⟨gp0, op0, none⟩) P cp0)) 33)).sys.fresh
    rwa [show ∀ o, (w2.alloc o).heap.size = w2.heap.size + 1 from fun o => by simp] at h0)
  clear hW S2 hrun0
  obtain ⟨mo, hmo⟩ : ∃ mo, mo = w2.heap.size + 1 := ⟨_, rfl⟩
  rw [← hmo] at S0 HOFF ⊢
  clear hmo
  generalize w2.heap.size = x at *
  go_loopw [9] (fun i wr => ∃ (k : Nat) (A : Ab) (O : Nat → ByteArray) (F : Nat → Int) (gs os cs gv ov cv gp op cp : Nat), i = .int .i64 k ∧ k ≤ 200 ∧ k ≤ len1 ∧ Hid (St w1 P L A k d c m B O (.slice (some ⟨gl, ol, none⟩) P cl) (.slice (some ⟨gs, os, none⟩) L cs) (.slice (some ⟨gv, ov, none⟩) P cv) (.slice (some ⟨gp, op, none⟩) P cp) x wr ∧ Ct w1 mo F k wr ∧ Own P L A F)) (fun i _ => 200 - (prc.intOf i).toNat)
  case atStart => exact ⟨0, _, _, _, _, _, _, _, _, _, _, _, _, rfl, by omega, Nat.zero_le _, S0⟩
  case round =>
    clear S0
    obtain ⟨k, A, O, F, gs, os, cs, gv, ov, cv, gp, op, cp, rfl, hk200, hkl, HS⟩ := hrel
    by_cases hk : k < len1 ∧ k < 200
    · obtain ⟨hk1, hk2⟩ := hk
      have hk1' : (k : Int) < (len1 : Int) := by omega
      have hk2' : (k : Int) < 200 := by omega
      have hk0' : (0 : Int) ≤ (k : Int) := by omega
      obtain ⟨b, o, rfl, hb, hf, c0, c1, c2⟩ := actk_at A1.out (turn_all HS.out.1 B1.out) hk1
      have hbw : b < wr.heap.size := by have := (turn_all HS.out.1 B1.out).size; omega
      obtain ⟨a, ha⟩ : ∃ a, a = T1 k := ⟨_, rfl⟩
      rw [← ha] at hf c0 c1 c2
      obtain ⟨kind, who, body⟩ := a
      dsimp only at c0 c1 c2
      have HF := Lib.hid (And.intro hf ha)
      obtain ⟨i, hi, hiP⟩ := someP who HP.out.1
      obtain ⟨A2, e, hAe⟩ : ∃ A2 e, doAb P L A kind i body = (A2, e) := ⟨_, _, rfl⟩
      obtain ⟨dn, fl, sl0⟩ := e
      obtain ⟨wa, hwa⟩ : ∃ wa, wa = decide ((A.X i).next = 0) := ⟨_, rfl⟩
      obtain ⟨wb, hwb⟩ : ∃ wb, wb = decide ((A2.X i).next = 0) := ⟨_, rfl⟩
      have HDN : Hid (dn = (!wa && wb)) := Lib.hid (by
        have h0 := doAb_done HS.out.1.sd.good kind i body
        rw [hAe] at h0
        rw [hwa, hwb]
        exact h0)
      have HOW : Hid (Own P L A2 (next F i wa kind)) := Lib.hid (by
        have h0 := HS.out.2.2.act HS.out.1.sd.good kind body hiP
        rw [hAe, ← hwa] at h0
        exact h0)
      obtain ⟨sl, hsl⟩ : ∃ sl : Int, sl = sl0 := ⟨_, rfl⟩
      have HD : ∀ V, Hid (St w1 P L A k d c m B O (.slice (some ⟨gl, ol, none⟩) P cl) (.slice (some ⟨gs, os, none⟩) L cs) (.slice (some ⟨gv, ov, none⟩) P cv) (.slice (some ⟨gp, op, none⟩) P cp) x V → Calls Try.prog 9 #[.agg (stC P L d (.slice (some ⟨gl, ol, none⟩) P cl) (.slice (some ⟨gs, os, none⟩) L cs) (.slice (some ⟨gv, ov, none⟩) P cv) (.slice (some ⟨gp, op, none⟩) P cp)), .agg #[.int .i64 kind, .int .i64 who, .string body]] V (DoPostI w1 V P L (k + 1) d c m A2 B (.slice (some ⟨gl, ol, none⟩) P cl) dn fl sl)) := fun V => Lib.hid (fun h => by
        have := h.sd.does HP.out.1 HP.out.2.1 HP.out.2.2 (by omega) kind who body hf.2.2 i hi hiP
        rw [hAe] at this
        rw [hsl]
        exact this.mono fun _ _ h => DoPost.int h)
      have HFI : Hid (0 ≤ F i ∧ F i ≤ 62) := Lib.hid (by have := HS.out.2.2 i hiP; have := HP.out.2.2; omega)
      have HIDLE : Hid (∀ V, prc.Sys w1 d c m P L A k (fun i => i < P) B V → Calls Try.prog 14 #[.pointer (some ⟨B i, 0, none⟩)] V fun en w' => en = .returned (.bool wa) ∧ V = w') := Lib.hid fun V h => by rw [hwa]; exact h.idle hiP
      have HWB : Hid (wb = decide ((A2.X i).next = 0) ∧ i < P) := Lib.hid ⟨hwb, hiP⟩
      have a0 := mask255 who
      generalize who % 256 = n2 at *
      have a1 : n2.tmod (P : Int) = (i : Int) := hi.symm
      have i0 : (0 : Int) ≤ (i : Int) := by omega
      have i1 : (i : Int) < (P : Int) := by omega
      have x0 := HS.out.1.bx.cell 0
      have x3 := HS.out.1.bx.cell 3
      obtain ⟨gl', ol', cl', e, hgl, -, -, hcl⟩ := HS.out.1.sd.ls.cells HP.out.1
      obtain ⟨rfl, rfl⟩ : gl = gl' ∧ ol = ol' := by injection e with e1 e2 e3; injection e1 with e1; injection e1 with e1 e4; exact ⟨e1, e4⟩
      have ci := hcl i _ (ptrs_at B hiP)
      clear hb hf ha hi hiP hk200 hkl hAe hwa hwb hsl e hcl
      go_wp2_with fail
      go_region
      go_wp2_with fail
      refine calls_name (fun W9 h9 => ?_)
      have S9 : Hid (St w1 P L A k d c m B O (.slice (some ⟨gl, ol, none⟩) P cl) (.slice (some ⟨gs, os, none⟩) L cs) (.slice (some ⟨gv, ov, none⟩) P cv) (.slice (some ⟨gp, op, none⟩) P cp) x W9 ∧ Ct w1 mo F k W9) := by
        rw [← h9]
        exact Lib.hid ⟨HS.out.1.drew, HS.out.2.1.drew⟩
      obtain ⟨b', o', e', -, -, c0, c1, c2⟩ := actk_at A1.out (turn_all S9.out.1 B1.out) hk1
      rw [← HF.out.2] at c0 c1 c2
      obtain ⟨rfl, rfl⟩ : b = b' ∧ o = o' := by injection e' with e1; injection e1 with e1 e4; exact ⟨e1, e4⟩
      clear h9 x0 x3 ci e' HS hbw hgl
      refine (HIDLE.out W9 S9.out.1.sd.sys).mono ?_
      rintro en w' ⟨rfl, rfl⟩
      have x0 := S9.out.1.bx.cell 0
      have x1 := S9.out.1.bx.cell 1
      have x2 := S9.out.1.bx.cell 2
      have x3 := S9.out.1.bx.cell 3
      have x4 := S9.out.1.bx.cell 4
      have x5 := S9.out.1.bx.cell 5
      have x6 := S9.out.1.bx.cell 6
      have hx9 : x < W9.heap.size := S9.out.1.bx.lt
      have hb9 : b < W9.heap.size := by have := (turn_all S9.out.1 B1.out).size; have := (A1.out.2 k hk1); obtain ⟨b2, o2, e2, hb2, -⟩ := this; injection e2 with e2; injection e2 with e2; omega
      have s9 : Rz b o k kind who body x (stC P L d (.slice (some ⟨gl, ol, none⟩) P cl) (.slice (some ⟨gs, os, none⟩) L cs) (.slice (some ⟨gv, ov, none⟩) P cv) (.slice (some ⟨gp, op, none⟩) P cp)) W9 := ⟨S9.out.1.bx, c0, c1, c2, hb9⟩
      have HD2 : ∀ V, Hid (St w1 P L A k d c m B O (.slice (some ⟨gl, ol, none⟩) P cl) (.slice (some ⟨gs, os, none⟩) L cs) (.slice (some ⟨gv, ov, none⟩) P cv) (.slice (some ⟨gp, op, none⟩) P cp) x V → Ct w1 mo F k V → Calls Try.prog 9 #[.agg (stC P L d (.slice (some ⟨gl, ol, none⟩) P cl) (.slice (some ⟨gs, os, none⟩) L cs) (.slice (some ⟨gv, ov, none⟩) P cv) (.slice (some ⟨gp, op, none⟩) P cp)), .agg #[.int .i64 kind, .int .i64 who, .string body]] V (DoC w1 V P L (k + 1) d c m A2 B (.slice (some ⟨gl, ol, none⟩) P cl) dn fl sl x mo F k (stC P L d (.slice (some ⟨gl, ol, none⟩) P cl) (.slice (some ⟨gs, os, none⟩) L cs) (.slice (some ⟨gv, ov, none⟩) P cv) (.slice (some ⟨gp, op, none⟩) P cp)))) := fun V => Lib.hid (fun h1 h2 => ((HD V).out h1).mono fun _ _ h => h1.didC h2 HOFF.out h)
      clear HD
      have T9 := Lib.hid (turn_all S9.out.1 B1.out)
      have HLO : Hid (w1.heap.size ≤ x ∧ w1.heap.size ≤ W9.heap.size) := Lib.hid ⟨S9.out.1.lo, S9.out.1.sd.sys.turn.size⟩
      go_wp2_with fail
      clear c0 c1 c2 x0 x1 x2 x3 x4 x5 x6
      obtain ⟨-, x0, x1, x2, x3, x4, x5, x6, c0, c1, c2, hb9', hx9'⟩ := s9.all
      obtain ⟨QQ, hQQ⟩ : ∃ QQ : Act → World → Prop, QQ = fun a' w' => ∃ (O4 : Nat → ByteArray) (gs4 os4 cs4 gv4 ov4 cv4 gp4 op4 cp4 q y : Nat), a' = { tmps := #[.int .i64 n, .int .i64 k0, .slice (some ⟨b, o, none⟩) len1 cap1, undef, undef, undef, u6, .pointer (some ⟨x, 0, none⟩), .map (some mo), .int .i64 k, .int .i64 i, .bool wa, .pointer (some ⟨q, 0, none⟩), .pointer (some ⟨y, 0, none⟩), .bool true, undef, .bool true, .bool false, .int .i64 n, .int .i64 k0, .agg (stC P L d (.slice (some ⟨gl, ol, none⟩) P cl) (.slice (some ⟨gs0, os0, none⟩) L cs0) (.slice (some ⟨gv0, ov0, none⟩) P cv0) (.slice (some ⟨gp0, op0, none⟩) P cp0)), .map (some mo), .int .i64 k, .slice (some ⟨b, o, none⟩) len1 cap1, .int .i64 len1, .bool true, .bool true, .int .i64 k, .bool true, .bool true, u30, u31, .slice (some ⟨b, o, none⟩) len1 cap1, .int .i64 k, .pointer (some ⟨b, o + k * 3, none⟩), .pointer (some ⟨b, o + k * 3 + 1, none⟩), .int .i64 who, .int .i64 n2, .pointer (some ⟨x, 0, none⟩), .pointer (some ⟨x, 0, none⟩), .int .i64 P, .int .i64 i, .pointer (some ⟨x, 3, none⟩), .slice (some ⟨gl, ol, none⟩) P cl, .int .i64 i, .pointer (some ⟨gl, ol + i, none⟩), .pointer (some ⟨B i, 0, none⟩), .bool wa, .tuple #[.agg (stC P L d (.slice (some ⟨gl, ol, none⟩) P cl) (.slice (some ⟨gs4, os4, none⟩) L cs4) (.slice (some ⟨gv4, ov4, none⟩) P cv4) (.slice (some ⟨gp4, op4, none⟩) P cp4)), .agg #[.bool dn, .bool fl, .int .i64 sl], .bool true], .agg #[.int .i64 P, .int .i64 L, .pointer (some ⟨d, 0, none⟩), .slice (some ⟨gl, ol, none⟩) P cl, .slice (some ⟨gs, os, none⟩) L cs, .slice (some ⟨gv, ov, none⟩) P cv, .slice (some ⟨gp, op, none⟩) P cp], .slice (some ⟨b, o, none⟩) len1 cap1, .int .i64 k, .pointer (some ⟨b, o + k * 3, none⟩), .agg #[.int .i64 kind, .int .i64 who, .string body], .tuple #[.agg (stC P L d (.slice (some ⟨gl, ol, none⟩) P cl) (.slice (some ⟨gs4, os4, none⟩) L cs4) (.slice (some ⟨gv4, ov4, none⟩) P cv4) (.slice (some ⟨gp4, op4, none⟩) P cp4)), .agg #[.bool dn, .bool fl, .int .i64 sl], .bool true], .agg (stC P L d (.slice (some ⟨gl, ol, none⟩) P cl) (.slice (some ⟨gs4, os4, none⟩) L cs4) (.slice (some ⟨gv4, ov4, none⟩) P cv4) (.slice (some ⟨gp4, op4, none⟩) P cp4)), .agg #[.bool dn, .bool fl, .int .i64 sl], .bool true, u58, u59, u60, u61, u62, u63, u64, u65, u66, u67, u68, u69, u70, u71, u72, u73, u74, u75, u76, u77, u78, u79, u80, u81, u82, u83, u84, u85, u86, u87, u88, u89, u90, u91, u92, u93, u94, u95, u96, u97, u98, u99, undef, undef, undef, undef, undef, undef, undef, undef, undef, undef, undef, undef, undef, undef, undef, undef, undef, undef, undef, undef, undef, undef, undef, undef, undef, undef, undef, undef, undef, undef, undef], defers := [] } ∧ Hid (Pq w1 P L A2 (k + 1) d c m B O4 (.slice (some ⟨gl, ol, none⟩) P cl) (.slice (some ⟨gs4, os4, none⟩) L cs4) (.slice (some ⟨gv4, ov4, none⟩) P cv4) (.slice (some ⟨gp4, op4, none⟩) P cp4) (.slice (some ⟨gl, ol, none⟩) P cl) (.slice (some ⟨gs, os, none⟩) L cs) (.slice (some ⟨gv, ov, none⟩) P cv) (.slice (some ⟨gp, op, none⟩) P cp) x q y dn fl sl w' ∧ Ct w1 mo F k w') := ⟨_, rfl⟩
      have HQQ := Lib.hid hQQ
      clear hQQ
      refine Code.wp_mono (Q := Exit.then QQ (fun _ _ _ => False)) ?_ ?_
      rotate_left
      · go_region_held3 (fun V => Rz b o k kind who body x (stC P L d (.slice (some ⟨gl, ol, none⟩) P cl) (.slice (some ⟨gs, os, none⟩) L cs) (.slice (some ⟨gv, ov, none⟩) P cv) (.slice (some ⟨gp, op, none⟩) P cp)) V ∧ V.cell? ⟨x, 0, none⟩ = some (.int .i64 P) ∧ V.cell? ⟨x, 1, none⟩ = some (.int .i64 L) ∧ V.cell? ⟨x, 2, none⟩ = some (.pointer (some ⟨d, 0, none⟩)) ∧ V.cell? ⟨x, 3, none⟩ = some (.slice (some ⟨gl, ol, none⟩) P cl) ∧ V.cell? ⟨x, 4, none⟩ = some (.slice (some ⟨gs, os, none⟩) L cs) ∧ V.cell? ⟨x, 5, none⟩ = some (.slice (some ⟨gv, ov, none⟩) P cv) ∧ V.cell? ⟨x, 6, none⟩ = some (.slice (some ⟨gp, op, none⟩) P cp) ∧ V.cell? ⟨b, o + k * 3, none⟩ = some (.int .i64 kind) ∧ V.cell? ⟨b, o + k * 3 + 1, none⟩ = some (.int .i64 who) ∧ V.cell? ⟨b, o + k * 3 + 2, none⟩ = some (.string body) ∧ b < V.heap.size ∧ x < V.heap.size)
          ((go_split_ands; exact Rz.all (by repeat (first | with_reducible assumption | with_reducible refine Rz.drew ?_ | with_reducible refine Rz.alloc ?_ _ | with_reducible refine Rz.far ?_ (by first | omega | (simp; omega)) (by first | omega | (simp; omega)) _ _))))
          (first
            | (go_at_call 9
               refine ((HD2 _).out (by repeat (first | with_reducible exact S9.out.1 | with_reducible refine St.drew ?_ | with_reducible refine St.alloc ?_ _)) (by repeat (first | with_reducible exact S9.out.2 | with_reducible refine Ct.drew ?_ | with_reducible refine Ct.alloc ?_ _))).mono ?_
               rintro en w4 ⟨O4, s4, v4, p4, rfl, hsd4, hx4, hz4, hfr⟩
               obtain ⟨gs4, os4, cs4, rfl⟩ := hsd4.dw.ts
               obtain ⟨gv4, ov4, cv4, rfl⟩ := hsd4.dw.tw
               obtain ⟨gp4, op4, cp4, rfl⟩ := hsd4.dw.tp
               have S4 := Lib.hid (And.intro hsd4 (And.intro hx4 hz4))
               obtain ⟨b2, o2, e2, hb2, -, d0, d1, d2⟩ := actk_at A1.out ((Turn.of_below B1.out (F := fun j => w.heap.size ≤ j) (fun _ _ e => e)).trans hsd4.sys.turn (fun _ _ e => Nat.le_trans B1.out.size e)) hk1
               obtain ⟨rfl, rfl⟩ : b = b2 ∧ o = o2 := by injection e2 with e1; injection e1 with e1 e4; exact ⟨e1, e4⟩
               rw [← HF.out.2] at d0 d1 d2
               have s4 : Rz b o k kind who body x (stC P L d (.slice (some ⟨gl, ol, none⟩) P cl) (.slice (some ⟨gs, os, none⟩) L cs) (.slice (some ⟨gv, ov, none⟩) P cv) (.slice (some ⟨gp, op, none⟩) P cp)) w4 := ⟨hx4, d0, d1, d2, by have := hsd4.sys.turn.size; have := B1.out.size; omega⟩
               obtain ⟨-, y0, y1, y2, y3, y4, y5, y6, d0, d1, d2, l4, l5⟩ := s4.all
               have fx0 := hx4.free 0
               have fx1 := hx4.free 1
               have fx2 := hx4.free 2
               have fx3 := hx4.free 3
               have fx4 := hx4.free 4
               have fx5 := hx4.free 5
               have fx6 := hx4.free 6
               try have MA := Lib.hid (hfr _ _ _ (Has.made _ 33 stZ).drew (by decide) (by decide) (by decide))
               try have MA := Lib.hid (hfr _ _ _ ((Has.made _ 33 stZ).alloc _).drew (by decide) (by decide) (by decide))
               try have MA := Lib.hid (hfr _ _ _ (Has.made1 _ _ 33 stZ).drew (by decide) (by decide) (by decide))
               try have ME := Lib.hid (hfr _ _ _ (Has.made _ 42 #[.bool false, .bool false, .int .i64 0]).drew (by decide) (by decide) (by decide))
               try have ME := Lib.hid (hfr _ _ _ ((Has.made _ 42 #[.bool false, .bool false, .int .i64 0]).alloc _).drew (by decide) (by decide) (by decide))
               try have ME := Lib.hid (hfr _ _ _ (Has.made1 _ _ 42 #[.bool false, .bool false, .int .i64 0]).drew (by decide) (by decide) (by decide))
               try (have q0 := MA.out.cell 0; have qf0 := MA.out.free 0; have q1 := MA.out.cell 1; have qf1 := MA.out.free 1; have q2 := MA.out.cell 2; have qf2 := MA.out.free 2; have q3 := MA.out.cell 3; have qf3 := MA.out.free 3; have q4 := MA.out.cell 4; have qf4 := MA.out.free 4; have q5 := MA.out.cell 5; have qf5 := MA.out.free 5; have q6 := MA.out.cell 6; have qf6 := MA.out.free 6; have ql := MA.out.lt)
               try (have r0 := ME.out.cell 0; have rf0 := ME.out.free 0; have r1 := ME.out.cell 1; have rf1 := ME.out.free 1; have r2 := ME.out.cell 2; have rf2 := ME.out.free 2; have rl := ME.out.lt)
               clear hsd4 hx4 hz4 hfr hb2))
        · show QQ _ _
          rw [HQQ.out]
          refine ⟨O4, gs4, os4, cs4, gv4, ov4, cv4, gp4, op4, cp4, _, _, rfl, Lib.hid ?_⟩
          have hb := bft1 (dn := dn) (fl := fl) (sl := sl) S4.out.1 S4.out.2.1 HLO.out.1
          exact ⟨hb.1, (S4.out.2.2.alloc _).alloc _⟩
        · show QQ _ _
          rw [HQQ.out]
          refine ⟨O4, gs4, os4, cs4, gv4, ov4, cv4, gp4, op4, cp4, _, _, rfl, Lib.hid ?_⟩
          have hb := bft2 (dn := dn) (fl := fl) (sl := sl) S4.out.1 S4.out.2.1 HLO.out.1
          exact ⟨hb.1, (S4.out.2.2.alloc _).alloc _⟩
        · show QQ _ _
          rw [HQQ.out]
          refine ⟨O4, gs4, os4, cs4, gv4, ov4, cv4, gp4, op4, cp4, _, _, rfl, Lib.hid ?_⟩
          have hb := bft3 (dn := dn) (fl := fl) (sl := sl) S4.out.1 S4.out.2.1 HLO.out.1 MA.out HLO.out.2 (by omega)
          exact ⟨hb.1, (S4.out.2.2.set7 (S4.out.2.2.ne MA.out) _ _ _ _ _ _ _).alloc _⟩
        · show QQ _ _
          rw [HQQ.out]
          refine ⟨O4, gs4, os4, cs4, gv4, ov4, cv4, gp4, op4, cp4, _, _, rfl, Lib.hid ?_⟩
          have hb := bft4 (dn := dn) (fl := fl) (sl := sl) S4.out.1 S4.out.2.1 HLO.out.1 MA.out HLO.out.2 (by omega) ME.out (by have := HLO.out.2; omega)
          exact ⟨hb.1, (S4.out.2.2.set7 (S4.out.2.2.ne MA.out) _ _ _ _ _ _ _).set3 (S4.out.2.2.ne ME.out) _ _ _⟩
        · show QQ _ _
          rw [HQQ.out]
          refine ⟨O4, gs4, os4, cs4, gv4, ov4, cv4, gp4, op4, cp4, _, _, rfl, Lib.hid ?_⟩
          have hb := bft5 (dn := dn) (fl := fl) (sl := sl) S4.out.1 S4.out.2.1 HLO.out.1 ME.out HLO.out.2
          exact ⟨hb.1, (S4.out.2.2.set3 (S4.out.2.2.ne ME.out) _ _ _).alloc _⟩
        · show QQ _ _
          rw [HQQ.out]
          refine ⟨O4, gs4, os4, cs4, gv4, ov4, cv4, gp4, op4, cp4, _, _, rfl, Lib.hid ?_⟩
          have hb := bft4 (dn := dn) (fl := fl) (sl := sl) S4.out.1 S4.out.2.1 HLO.out.1 MA.out (by have := HLO.out.2; omega) (by omega) ME.out HLO.out.2
          exact ⟨hb.1, (S4.out.2.2.set7 (S4.out.2.2.ne MA.out) _ _ _ _ _ _ _).set3 (S4.out.2.2.ne ME.out) _ _ _⟩
      · intro ex a' w5 h
        cases ex
        case normal =>
          have h2 : QQ a' w5 := h
          rw [HQQ.out] at h2
          clear h HQQ
          obtain ⟨O4, gs4, os4, cs4, gv4, ov4, cv4, gp4, op4, cp4, q, y, rfl, HB⟩ := h2
          clear HD2 T9 s9 x0 x1 x2 x3 x4 x5 x6 c0 c1 c2 hb9 hb9' hx9 hx9' S9 HLO HIDLE
          have HCI : Hid (∀ V, Py w1 P L A2 (k + 1) d c m B O4 (.slice (some ⟨gl, ol, none⟩) P cl) (.slice (some ⟨gs4, os4, none⟩) L cs4) (.slice (some ⟨gv4, ov4, none⟩) P cv4) (.slice (some ⟨gp4, op4, none⟩) P cp4) x y dn fl sl V → V.cell? ⟨gl, ol + i, none⟩ = some (.pointer (some ⟨B i, 0, none⟩))) := Lib.hid fun V hV => by
            obtain ⟨gl', ol', cl', e, -, -, -, hcl⟩ := hV.st.sd.ls.cells HP.out.1
            obtain ⟨rfl, rfl⟩ : gl = gl' ∧ ol = ol' := by injection e with e1 e2 e3; injection e1 with e1; injection e1 with e1 e4; exact ⟨e1, e4⟩
            exact hcl i _ (ptrs_at B HWB.out.2)
          have HI2 : Hid (∀ V, prc.Sys w1 d c m P L A2 (k + 1) (fun i => i < P) B V → Calls Try.prog 14 #[.pointer (some ⟨B i, 0, none⟩)] V fun en w' => en = .returned (.bool wb) ∧ V = w') := Lib.hid fun V h => by rw [HWB.out.1]; exact h.idle HWB.out.2
          obtain ⟨bn, hbn⟩ : ∃ bn : Int, bn = 2 + 3 * (L : Int) := ⟨_, rfl⟩
          have HBN : Hid (∀ V, Calls Try.prog 15 #[.agg #[.int .i64 P, .int .i64 L]] V (ret1 (.int .i64 bn) V)) := Lib.hid fun V => by rw [hbn]; exact boundP_calls P L V (by omega) (by omega)
          obtain ⟨v, hv⟩ : ∃ v : Int, v = next F i wa kind i := ⟨_, rfl⟩
          have s5 : ¬ bn < v := by have := HOW.out i HWB.out.2; omega
          have HVV : Hid (next F i wa kind i = v) := Lib.hid hv.symm
          obtain ⟨fi, hfi⟩ : ∃ fi : Int, F i = fi := ⟨_, rfl⟩
          have f0 : 0 ≤ fi := by have := HFI.out; omega
          have f1 : fi ≤ 62 := by have := HFI.out; omega
          clear hbn hv
          cases wa
          · obtain rfl : dn = wb := by have := HDN.out; simpa using this
            by_cases hkd : kind = 1
            · subst hkd
              go_wp2_with (first
                | ((with_reducible refine at_op 58 ?_); refine wpList_load_row (o := ⟨some 58, _, _, _, _, _⟩) rfl 33 _ rfl q rfl 33 (stC P L d (.slice (some ⟨gl, ol, none⟩) P cl) (.slice (some ⟨gs4, os4, none⟩) L cs4) (.slice (some ⟨gv4, ov4, none⟩) P cv4) (.slice (some ⟨gp4, op4, none⟩) P cp4)) (0, 0) _ HB.out.1.bq Try.underlying33 rfl (by kernel_rfl) ?_)
                | ((with_reducible refine at_store (.tmp 7) ?_); refine prc.wpList_store_cells (o := ⟨none, _, _, _, _, _⟩) rfl 33 _ _ rfl x (stC P L d (.slice (some ⟨gl, ol, none⟩) P cl) (.slice (some ⟨gs4, os4, none⟩) L cs4) (.slice (some ⟨gv4, ov4, none⟩) P cv4) (.slice (some ⟨gp4, op4, none⟩) P cp4)) (stC P L d (.slice (some ⟨gl, ol, none⟩) P cl) (.slice (some ⟨gs, os, none⟩) L cs) (.slice (some ⟨gv, ov, none⟩) P cv) (.slice (some ⟨gp, op, none⟩) P cp)) rfl rfl 33 HB.out.1.bx (by kernel_rfl) rfl (by simp [stC, Value.oneCell']) ?_; intro V6 h6 t6
                   (have HY6 : Hid (Py w1 P L A2 (k + 1) d c m B O4 (.slice (some ⟨gl, ol, none⟩) P cl) (.slice (some ⟨gs4, os4, none⟩) L cs4) (.slice (some ⟨gv4, ov4, none⟩) P cv4) (.slice (some ⟨gp4, op4, none⟩) P cp4) x y dn fl sl V6 ∧ Ct w1 mo F k V6) := Lib.hid ⟨HB.out.1.copied' h6 t6, HB.out.2.turn t6 (HB.out.2.ne HB.out.1.bx)⟩)
                   (clear h6 t6 HB)
                   (obtain ⟨b', o', e', -, -, d0, -, -⟩ := actk_at A1.out (turn_all HY6.out.1.st B1.out) hk1)
                   (rw [← HF.out.2] at d0)
                   (obtain ⟨rfl, rfl⟩ : b = b' ∧ o = o' := by injection e' with e1; injection e1 with e1 e4; exact ⟨e1, e4⟩)
                   (clear e')
                   (have hl6 := HY6.out.2.look i (by omega) hfi)
                   (obtain ⟨V7, hrun7, hC7, t7⟩ := HY6.out.2.store (by omega) i (by omega) (fi + 1) (by unfold cel.Fits; omega))
                   (have HY : Hid (Py w1 P L A2 (k + 1) d c m B O4 (.slice (some ⟨gl, ol, none⟩) P cl) (.slice (some ⟨gs4, os4, none⟩) L cs4) (.slice (some ⟨gv4, ov4, none⟩) P cv4) (.slice (some ⟨gp4, op4, none⟩) P cp4) x y dn fl sl V7 ∧ Ct w1 mo (next F i false 1) (k + 1) V7) := Lib.hid ⟨HY6.out.1.mapped HY6.out.2 HOFF.out t7, by unfold next; rw [if_neg (by decide), if_pos rfl, hfi]; exact hC7⟩)
                   (clear hC7 t7 HY6))
                | fail)
              refine wp_region_S (S := fun V1 => Py w1 P L A2 (k + 1) d c m B O4 (.slice (some ⟨gl, ol, none⟩) P cl) (.slice (some ⟨gs4, os4, none⟩) L cs4) (.slice (some ⟨gv4, ov4, none⟩) P cv4) (.slice (some ⟨gp4, op4, none⟩) P cp4) x y dn fl sl V1 ∧ Ct w1 mo (next F i false 1) (k + 1) V1) (by kernel_rfl) (by exact ⟨HY.out.1.drew, HY.out.2.drew⟩) ?_
              refine AnyS.pure 0 (some 78) rfl rfl (by kernel_rfl) (by kernel_rfl) (by kernel_rfl) (fun _ _ _ h => h) (by kernel_rfl) (fun _ _ => rfl) ?_
              refine AnyS.pure 1 (some 79) rfl rfl (by kernel_rfl) (by kernel_rfl) (by kernel_rfl) (fun _ _ _ h => h) (by kernel_rfl) (fun _ _ => rfl) ?_
              refine AnyS.pure 2 (some 80) (v := .int .i64 v) rfl rfl (by kernel_rfl) (by kernel_rfl) (by kernel_rfl) (fun _ _ _ h => h) (by kernel_rfl) (fun V hV => by have c0 := hV.1.st.bx.cell 0; have c1 := hV.1.st.bx.cell 1; have c3 := hV.1.st.bx.cell 3; have e0 := hV.1.en.cell 0; have ci := HCI.out V hV.1; have hl := hV.2.look i (by omega) HVV.out; go_simp) ?_
              refine AnyS.pure 3 (some 81) (v := .pointer (some ⟨x, 0, none⟩)) rfl rfl (by kernel_rfl) (by kernel_rfl) (by kernel_rfl) (fun _ _ _ h => h) (by kernel_rfl) (fun V _ => by go_simp) ?_
              refine AnyS.pure 4 (some 82) (v := .agg #[.int .i64 P, .int .i64 L]) rfl rfl (by kernel_rfl) (by kernel_rfl) (by kernel_rfl) (fun _ _ _ h => h) (by kernel_rfl) (fun V hV => by have c0 := hV.1.st.bx.cell 0; have c1 := hV.1.st.bx.cell 1; have c3 := hV.1.st.bx.cell 3; have e0 := hV.1.en.cell 0; have ci := HCI.out V hV.1; have hl := hV.2.look i (by omega) HVV.out; go_simp) ?_
              refine AnyS.call 5 (some 83) (.int .i64 bn) rfl rfl (by kernel_rfl) (by kernel_rfl) (by kernel_rfl) (fun _ _ _ h => h) (by kernel_rfl) 15 Try.f15 Try.func15 (by kernel_rfl) (by kernel_rfl) _ _ rfl #[.agg #[.int .i64 P, .int .i64 L]] (by first | (simp [Act.eval]; done) | (simp [Act.eval, Act.put]; done)) (fun V hV => (HBN.out V).mono (by rintro en v ⟨rfl, bv⟩; exact ⟨rfl, hV.1.below bv, hV.2.below bv⟩)) ?_
              simp only [Act.put, List.setIfInBounds_toArray, List.set_cons_zero, List.set_cons_succ]
              refine AnyS.pure 6 (some 84) (v := .bool false) rfl rfl (by kernel_rfl) (by kernel_rfl) (by kernel_rfl) (fun _ _ _ h => h) (by kernel_rfl) (fun V _ => by go_simp) ?_
              refine AnyS.pure 7 (some 85) rfl rfl (by kernel_rfl) (by kernel_rfl) (by kernel_rfl) (fun _ _ _ h => h) (by kernel_rfl) (fun _ _ => rfl) ?_
              refine AnyS.pure 8 (some 86) (v := .pointer (some ⟨y, 0, none⟩)) rfl rfl (by kernel_rfl) (by kernel_rfl) (by kernel_rfl) (fun _ _ _ h => h) (by kernel_rfl) (fun V _ => by go_simp) ?_
              refine AnyS.pure 9 (some 87) (v := .bool dn) rfl rfl (by kernel_rfl) (by kernel_rfl) (by kernel_rfl) (fun _ _ _ h => h) (by kernel_rfl) (fun V hV => by have c0 := hV.1.st.bx.cell 0; have c1 := hV.1.st.bx.cell 1; have c3 := hV.1.st.bx.cell 3; have e0 := hV.1.en.cell 0; have ci := HCI.out V hV.1; have hl := hV.2.look i (by omega) HVV.out; go_simp) ?_
              refine AnyS.pure 10 (some 88) rfl rfl (by kernel_rfl) (by kernel_rfl) (by kernel_rfl) (fun _ _ _ h => h) (by kernel_rfl) (fun _ _ => rfl) ?_
              refine AnyS.pure 11 (some 89) (v := .bool true) rfl rfl (by kernel_rfl) (by kernel_rfl) (by kernel_rfl) (fun _ _ _ h => h) (by kernel_rfl) (fun V _ => by go_simp) ?_
              refine AnyS.pure 12 (some 90) rfl rfl (by kernel_rfl) (by kernel_rfl) (by kernel_rfl) (fun _ _ _ h => h) (by kernel_rfl) (fun _ _ => rfl) ?_
              refine AnyS.pure 13 (some 91) (v := .pointer (some ⟨x, 3, none⟩)) rfl rfl (by kernel_rfl) (by kernel_rfl) (by kernel_rfl) (fun _ _ _ h => h) (by kernel_rfl) (fun V _ => by go_simp) ?_
              refine AnyS.pure 14 (some 92) (v := .slice (some ⟨gl, ol, none⟩) P cl) rfl rfl (by kernel_rfl) (by kernel_rfl) (by kernel_rfl) (fun _ _ _ h => h) (by kernel_rfl) (fun V hV => by have c0 := hV.1.st.bx.cell 0; have c1 := hV.1.st.bx.cell 1; have c3 := hV.1.st.bx.cell 3; have e0 := hV.1.en.cell 0; have ci := HCI.out V hV.1; have hl := hV.2.look i (by omega) HVV.out; go_simp) ?_
              refine AnyS.pure 15 (some 93) rfl rfl (by kernel_rfl) (by kernel_rfl) (by kernel_rfl) (fun _ _ _ h => h) (by kernel_rfl) (fun _ _ => rfl) ?_
              refine AnyS.pure 16 (some 94) (v := .pointer (some ⟨gl, ol + i, none⟩)) rfl rfl (by kernel_rfl) (by kernel_rfl) (by kernel_rfl) (fun _ _ _ h => h) (by kernel_rfl) (fun V _ => by go_simp) ?_
              refine AnyS.pure 17 (some 95) (v := .pointer (some ⟨B i, 0, none⟩)) rfl rfl (by kernel_rfl) (by kernel_rfl) (by kernel_rfl) (fun _ _ _ h => h) (by kernel_rfl) (fun V hV => by have c0 := hV.1.st.bx.cell 0; have c1 := hV.1.st.bx.cell 1; have c3 := hV.1.st.bx.cell 3; have e0 := hV.1.en.cell 0; have ci := HCI.out V hV.1; have hl := hV.2.look i (by omega) HVV.out; go_simp) ?_
              refine AnyS.call 18 (some 96) (.bool dn) rfl rfl (by kernel_rfl) (by kernel_rfl) (by kernel_rfl) (fun _ _ _ h => h) (by kernel_rfl) 14 Try.f14 Try.func14 (by kernel_rfl) (by kernel_rfl) _ _ rfl #[.pointer (some ⟨B i, 0, none⟩)] (by first | (simp [Act.eval]; done) | (simp [Act.eval, Act.put]; done)) (fun V hV => (HI2.out V hV.1.st.sd.sys).mono (by rintro en v ⟨rfl, rfl⟩; exact ⟨rfl, hV⟩)) ?_
              simp only [Act.put, List.setIfInBounds_toArray, List.set_cons_zero, List.set_cons_succ]
              refine AnyS.pure 19 (some 97) (v := .bool dn) rfl rfl (by kernel_rfl) (by kernel_rfl) (by kernel_rfl) (fun _ _ _ h => h) (by kernel_rfl) (fun V _ => by go_simp) ?_
              refine AnyS.pure 20 (some 98) (v := .bool false) rfl rfl (by kernel_rfl) (by kernel_rfl) (by kernel_rfl) (fun _ _ _ h => h) (by kernel_rfl) (fun V _ => by go_simp) ?_
              refine AnyS.pure 21 (some 99) (v := .bool false) rfl rfl (by kernel_rfl) (by kernel_rfl) (by kernel_rfl) (fun _ _ _ h => h) (by kernel_rfl) (fun V _ => by go_simp) ?_
              refine AnyS.done (by kernel_rfl) (fun V2 hV => ?_) _
              have HV := Lib.hid (And.intro hV.1.st hV.2)
              clear hV HY
              go_wp2_with fail
              refine ⟨⟨k + 1, _, _, _, _, _, _, _, _, _, _, _, _, by rw [Int.natCast_add]; rfl, by omega, by omega, Lib.hid ⟨HV.out.1, HV.out.2, HOW.out⟩⟩, ?_⟩
              show 200 - ((k : Int) + 1).toNat < 200 - ((k : Int)).toNat
              omega
            · have hkf : (kind == 1) = false := by simpa using hkd
              go_wp2_with (first
                | ((with_reducible refine at_op 58 ?_); refine wpList_load_row (o := ⟨some 58, _, _, _, _, _⟩) rfl 33 _ rfl q rfl 33 (stC P L d (.slice (some ⟨gl, ol, none⟩) P cl) (.slice (some ⟨gs4, os4, none⟩) L cs4) (.slice (some ⟨gv4, ov4, none⟩) P cv4) (.slice (some ⟨gp4, op4, none⟩) P cp4)) (0, 0) _ HB.out.1.bq Try.underlying33 rfl (by kernel_rfl) ?_)
                | ((with_reducible refine at_store (.tmp 7) ?_); refine prc.wpList_store_cells (o := ⟨none, _, _, _, _, _⟩) rfl 33 _ _ rfl x (stC P L d (.slice (some ⟨gl, ol, none⟩) P cl) (.slice (some ⟨gs4, os4, none⟩) L cs4) (.slice (some ⟨gv4, ov4, none⟩) P cv4) (.slice (some ⟨gp4, op4, none⟩) P cp4)) (stC P L d (.slice (some ⟨gl, ol, none⟩) P cl) (.slice (some ⟨gs, os, none⟩) L cs) (.slice (some ⟨gv, ov, none⟩) P cv) (.slice (some ⟨gp, op, none⟩) P cp)) rfl rfl 33 HB.out.1.bx (by kernel_rfl) rfl (by simp [stC, Value.oneCell']) ?_; intro V6 h6 t6
                   (have HY6 : Hid (Py w1 P L A2 (k + 1) d c m B O4 (.slice (some ⟨gl, ol, none⟩) P cl) (.slice (some ⟨gs4, os4, none⟩) L cs4) (.slice (some ⟨gv4, ov4, none⟩) P cv4) (.slice (some ⟨gp4, op4, none⟩) P cp4) x y dn fl sl V6 ∧ Ct w1 mo F k V6) := Lib.hid ⟨HB.out.1.copied' h6 t6, HB.out.2.turn t6 (HB.out.2.ne HB.out.1.bx)⟩)
                   (clear h6 t6 HB)
                   (obtain ⟨b', o', e', -, -, d0, -, -⟩ := actk_at A1.out (turn_all HY6.out.1.st B1.out) hk1)
                   (rw [← HF.out.2] at d0)
                   (obtain ⟨rfl, rfl⟩ : b = b' ∧ o = o' := by injection e' with e1; injection e1 with e1 e4; exact ⟨e1, e4⟩)
                   (clear e')
                   (have HY : Hid (Py w1 P L A2 (k + 1) d c m B O4 (.slice (some ⟨gl, ol, none⟩) P cl) (.slice (some ⟨gs4, os4, none⟩) L cs4) (.slice (some ⟨gv4, ov4, none⟩) P cv4) (.slice (some ⟨gp4, op4, none⟩) P cp4) x y dn fl sl V6 ∧ Ct w1 mo (next F i false kind) (k + 1) V6) := Lib.hid ⟨HY6.out.1, by unfold next; rw [if_neg (by decide), if_neg hkd]; exact HY6.out.2.more (by omega)⟩)
                   (clear HY6))
                | fail)
              refine wp_region_S (S := fun V1 => Py w1 P L A2 (k + 1) d c m B O4 (.slice (some ⟨gl, ol, none⟩) P cl) (.slice (some ⟨gs4, os4, none⟩) L cs4) (.slice (some ⟨gv4, ov4, none⟩) P cv4) (.slice (some ⟨gp4, op4, none⟩) P cp4) x y dn fl sl V1 ∧ Ct w1 mo (next F i false kind) (k + 1) V1) (by kernel_rfl) (by exact ⟨HY.out.1.drew, HY.out.2.drew⟩) ?_
              refine AnyS.pure 0 (some 78) rfl rfl (by kernel_rfl) (by kernel_rfl) (by kernel_rfl) (fun _ _ _ h => h) (by kernel_rfl) (fun _ _ => rfl) ?_
              refine AnyS.pure 1 (some 79) rfl rfl (by kernel_rfl) (by kernel_rfl) (by kernel_rfl) (fun _ _ _ h => h) (by kernel_rfl) (fun _ _ => rfl) ?_
              refine AnyS.pure 2 (some 80) (v := .int .i64 v) rfl rfl (by kernel_rfl) (by kernel_rfl) (by kernel_rfl) (fun _ _ _ h => h) (by kernel_rfl) (fun V hV => by have c0 := hV.1.st.bx.cell 0; have c1 := hV.1.st.bx.cell 1; have c3 := hV.1.st.bx.cell 3; have e0 := hV.1.en.cell 0; have ci := HCI.out V hV.1; have hl := hV.2.look i (by omega) HVV.out; go_simp) ?_
              refine AnyS.pure 3 (some 81) (v := .pointer (some ⟨x, 0, none⟩)) rfl rfl (by kernel_rfl) (by kernel_rfl) (by kernel_rfl) (fun _ _ _ h => h) (by kernel_rfl) (fun V _ => by go_simp) ?_
              refine AnyS.pure 4 (some 82) (v := .agg #[.int .i64 P, .int .i64 L]) rfl rfl (by kernel_rfl) (by kernel_rfl) (by kernel_rfl) (fun _ _ _ h => h) (by kernel_rfl) (fun V hV => by have c0 := hV.1.st.bx.cell 0; have c1 := hV.1.st.bx.cell 1; have c3 := hV.1.st.bx.cell 3; have e0 := hV.1.en.cell 0; have ci := HCI.out V hV.1; have hl := hV.2.look i (by omega) HVV.out; go_simp) ?_
              refine AnyS.call 5 (some 83) (.int .i64 bn) rfl rfl (by kernel_rfl) (by kernel_rfl) (by kernel_rfl) (fun _ _ _ h => h) (by kernel_rfl) 15 Try.f15 Try.func15 (by kernel_rfl) (by kernel_rfl) _ _ rfl #[.agg #[.int .i64 P, .int .i64 L]] (by first | (simp [Act.eval]; done) | (simp [Act.eval, Act.put]; done)) (fun V hV => (HBN.out V).mono (by rintro en v ⟨rfl, bv⟩; exact ⟨rfl, hV.1.below bv, hV.2.below bv⟩)) ?_
              simp only [Act.put, List.setIfInBounds_toArray, List.set_cons_zero, List.set_cons_succ]
              refine AnyS.pure 6 (some 84) (v := .bool false) rfl rfl (by kernel_rfl) (by kernel_rfl) (by kernel_rfl) (fun _ _ _ h => h) (by kernel_rfl) (fun V _ => by go_simp) ?_
              refine AnyS.pure 7 (some 85) rfl rfl (by kernel_rfl) (by kernel_rfl) (by kernel_rfl) (fun _ _ _ h => h) (by kernel_rfl) (fun _ _ => rfl) ?_
              refine AnyS.pure 8 (some 86) (v := .pointer (some ⟨y, 0, none⟩)) rfl rfl (by kernel_rfl) (by kernel_rfl) (by kernel_rfl) (fun _ _ _ h => h) (by kernel_rfl) (fun V _ => by go_simp) ?_
              refine AnyS.pure 9 (some 87) (v := .bool dn) rfl rfl (by kernel_rfl) (by kernel_rfl) (by kernel_rfl) (fun _ _ _ h => h) (by kernel_rfl) (fun V hV => by have c0 := hV.1.st.bx.cell 0; have c1 := hV.1.st.bx.cell 1; have c3 := hV.1.st.bx.cell 3; have e0 := hV.1.en.cell 0; have ci := HCI.out V hV.1; have hl := hV.2.look i (by omega) HVV.out; go_simp) ?_
              refine AnyS.pure 10 (some 88) rfl rfl (by kernel_rfl) (by kernel_rfl) (by kernel_rfl) (fun _ _ _ h => h) (by kernel_rfl) (fun _ _ => rfl) ?_
              refine AnyS.pure 11 (some 89) (v := .bool true) rfl rfl (by kernel_rfl) (by kernel_rfl) (by kernel_rfl) (fun _ _ _ h => h) (by kernel_rfl) (fun V _ => by go_simp) ?_
              refine AnyS.pure 12 (some 90) rfl rfl (by kernel_rfl) (by kernel_rfl) (by kernel_rfl) (fun _ _ _ h => h) (by kernel_rfl) (fun _ _ => rfl) ?_
              refine AnyS.pure 13 (some 91) (v := .pointer (some ⟨x, 3, none⟩)) rfl rfl (by kernel_rfl) (by kernel_rfl) (by kernel_rfl) (fun _ _ _ h => h) (by kernel_rfl) (fun V _ => by go_simp) ?_
              refine AnyS.pure 14 (some 92) (v := .slice (some ⟨gl, ol, none⟩) P cl) rfl rfl (by kernel_rfl) (by kernel_rfl) (by kernel_rfl) (fun _ _ _ h => h) (by kernel_rfl) (fun V hV => by have c0 := hV.1.st.bx.cell 0; have c1 := hV.1.st.bx.cell 1; have c3 := hV.1.st.bx.cell 3; have e0 := hV.1.en.cell 0; have ci := HCI.out V hV.1; have hl := hV.2.look i (by omega) HVV.out; go_simp) ?_
              refine AnyS.pure 15 (some 93) rfl rfl (by kernel_rfl) (by kernel_rfl) (by kernel_rfl) (fun _ _ _ h => h) (by kernel_rfl) (fun _ _ => rfl) ?_
              refine AnyS.pure 16 (some 94) (v := .pointer (some ⟨gl, ol + i, none⟩)) rfl rfl (by kernel_rfl) (by kernel_rfl) (by kernel_rfl) (fun _ _ _ h => h) (by kernel_rfl) (fun V _ => by go_simp) ?_
              refine AnyS.pure 17 (some 95) (v := .pointer (some ⟨B i, 0, none⟩)) rfl rfl (by kernel_rfl) (by kernel_rfl) (by kernel_rfl) (fun _ _ _ h => h) (by kernel_rfl) (fun V hV => by have c0 := hV.1.st.bx.cell 0; have c1 := hV.1.st.bx.cell 1; have c3 := hV.1.st.bx.cell 3; have e0 := hV.1.en.cell 0; have ci := HCI.out V hV.1; have hl := hV.2.look i (by omega) HVV.out; go_simp) ?_
              refine AnyS.call 18 (some 96) (.bool dn) rfl rfl (by kernel_rfl) (by kernel_rfl) (by kernel_rfl) (fun _ _ _ h => h) (by kernel_rfl) 14 Try.f14 Try.func14 (by kernel_rfl) (by kernel_rfl) _ _ rfl #[.pointer (some ⟨B i, 0, none⟩)] (by first | (simp [Act.eval]; done) | (simp [Act.eval, Act.put]; done)) (fun V hV => (HI2.out V hV.1.st.sd.sys).mono (by rintro en v ⟨rfl, rfl⟩; exact ⟨rfl, hV⟩)) ?_
              simp only [Act.put, List.setIfInBounds_toArray, List.set_cons_zero, List.set_cons_succ]
              refine AnyS.pure 19 (some 97) (v := .bool dn) rfl rfl (by kernel_rfl) (by kernel_rfl) (by kernel_rfl) (fun _ _ _ h => h) (by kernel_rfl) (fun V _ => by go_simp) ?_
              refine AnyS.pure 20 (some 98) (v := .bool false) rfl rfl (by kernel_rfl) (by kernel_rfl) (by kernel_rfl) (fun _ _ _ h => h) (by kernel_rfl) (fun V _ => by go_simp) ?_
              refine AnyS.pure 21 (some 99) (v := .bool false) rfl rfl (by kernel_rfl) (by kernel_rfl) (by kernel_rfl) (fun _ _ _ h => h) (by kernel_rfl) (fun V _ => by go_simp) ?_
              refine AnyS.done (by kernel_rfl) (fun V2 hV => ?_) _
              have HV := Lib.hid (And.intro hV.1.st hV.2)
              clear hV HY
              go_wp2_with fail
              refine ⟨⟨k + 1, _, _, _, _, _, _, _, _, _, _, _, _, by rw [Int.natCast_add]; rfl, by omega, by omega, Lib.hid ⟨HV.out.1, HV.out.2, HOW.out⟩⟩, ?_⟩
              show 200 - ((k : Int) + 1).toNat < 200 - ((k : Int)).toNat
              omega
          · obtain rfl : dn = false := HDN.out
            by_cases hkd : kind = 1
            · subst hkd
              go_wp2_with (first
                | ((with_reducible refine at_op 58 ?_); refine wpList_load_row (o := ⟨some 58, _, _, _, _, _⟩) rfl 33 _ rfl q rfl 33 (stC P L d (.slice (some ⟨gl, ol, none⟩) P cl) (.slice (some ⟨gs4, os4, none⟩) L cs4) (.slice (some ⟨gv4, ov4, none⟩) P cv4) (.slice (some ⟨gp4, op4, none⟩) P cp4)) (0, 0) _ HB.out.1.bq Try.underlying33 rfl (by kernel_rfl) ?_)
                | ((with_reducible refine at_store (.tmp 7) ?_); refine prc.wpList_store_cells (o := ⟨none, _, _, _, _, _⟩) rfl 33 _ _ rfl x (stC P L d (.slice (some ⟨gl, ol, none⟩) P cl) (.slice (some ⟨gs4, os4, none⟩) L cs4) (.slice (some ⟨gv4, ov4, none⟩) P cv4) (.slice (some ⟨gp4, op4, none⟩) P cp4)) (stC P L d (.slice (some ⟨gl, ol, none⟩) P cl) (.slice (some ⟨gs, os, none⟩) L cs) (.slice (some ⟨gv, ov, none⟩) P cv) (.slice (some ⟨gp, op, none⟩) P cp)) rfl rfl 33 HB.out.1.bx (by kernel_rfl) rfl (by simp [stC, Value.oneCell']) ?_; intro V6 h6 t6
                   (have HY6 : Hid (Py w1 P L A2 (k + 1) d c m B O4 (.slice (some ⟨gl, ol, none⟩) P cl) (.slice (some ⟨gs4, os4, none⟩) L cs4) (.slice (some ⟨gv4, ov4, none⟩) P cv4) (.slice (some ⟨gp4, op4, none⟩) P cp4) x y false fl sl V6 ∧ Ct w1 mo F k V6) := Lib.hid ⟨HB.out.1.copied' h6 t6, HB.out.2.turn t6 (HB.out.2.ne HB.out.1.bx)⟩)
                   (clear h6 t6 HB)
                   (obtain ⟨V7, hrun7, hC7, t7⟩ := HY6.out.2.store (by omega) i (by omega) 0 (by unfold cel.Fits; omega))
                   (have HY : Hid (Py w1 P L A2 (k + 1) d c m B O4 (.slice (some ⟨gl, ol, none⟩) P cl) (.slice (some ⟨gs4, os4, none⟩) L cs4) (.slice (some ⟨gv4, ov4, none⟩) P cv4) (.slice (some ⟨gp4, op4, none⟩) P cp4) x y false fl sl V7 ∧ Ct w1 mo (next F i true 1) (k + 1) V7) := Lib.hid ⟨HY6.out.1.mapped HY6.out.2 HOFF.out t7, by unfold next; rw [if_pos rfl]; exact hC7⟩)
                   (clear hC7 t7 HY6)
                   (obtain ⟨b', o', e', -, -, d0, -, -⟩ := actk_at A1.out (turn_all HY.out.1.st B1.out) hk1)
                   (rw [← HF.out.2] at d0)
                   (obtain ⟨rfl, rfl⟩ : b = b' ∧ o = o' := by injection e' with e1; injection e1 with e1 e4; exact ⟨e1, e4⟩)
                   (clear e'))
                | fail)
              refine wp_region_S (S := fun V1 => Py w1 P L A2 (k + 1) d c m B O4 (.slice (some ⟨gl, ol, none⟩) P cl) (.slice (some ⟨gs4, os4, none⟩) L cs4) (.slice (some ⟨gv4, ov4, none⟩) P cv4) (.slice (some ⟨gp4, op4, none⟩) P cp4) x y false fl sl V1 ∧ Ct w1 mo (next F i true 1) (k + 1) V1) (by kernel_rfl) (by exact ⟨HY.out.1.drew, HY.out.2.drew⟩) ?_
              refine AnyS.pure 0 (some 78) rfl rfl (by kernel_rfl) (by kernel_rfl) (by kernel_rfl) (fun _ _ _ h => h) (by kernel_rfl) (fun _ _ => rfl) ?_
              refine AnyS.pure 1 (some 79) rfl rfl (by kernel_rfl) (by kernel_rfl) (by kernel_rfl) (fun _ _ _ h => h) (by kernel_rfl) (fun _ _ => rfl) ?_
              refine AnyS.pure 2 (some 80) (v := .int .i64 v) rfl rfl (by kernel_rfl) (by kernel_rfl) (by kernel_rfl) (fun _ _ _ h => h) (by kernel_rfl) (fun V hV => by have c0 := hV.1.st.bx.cell 0; have c1 := hV.1.st.bx.cell 1; have c3 := hV.1.st.bx.cell 3; have e0 := hV.1.en.cell 0; have ci := HCI.out V hV.1; have hl := hV.2.look i (by omega) HVV.out; go_simp) ?_
              refine AnyS.pure 3 (some 81) (v := .pointer (some ⟨x, 0, none⟩)) rfl rfl (by kernel_rfl) (by kernel_rfl) (by kernel_rfl) (fun _ _ _ h => h) (by kernel_rfl) (fun V _ => by go_simp) ?_
              refine AnyS.pure 4 (some 82) (v := .agg #[.int .i64 P, .int .i64 L]) rfl rfl (by kernel_rfl) (by kernel_rfl) (by kernel_rfl) (fun _ _ _ h => h) (by kernel_rfl) (fun V hV => by have c0 := hV.1.st.bx.cell 0; have c1 := hV.1.st.bx.cell 1; have c3 := hV.1.st.bx.cell 3; have e0 := hV.1.en.cell 0; have ci := HCI.out V hV.1; have hl := hV.2.look i (by omega) HVV.out; go_simp) ?_
              refine AnyS.call 5 (some 83) (.int .i64 bn) rfl rfl (by kernel_rfl) (by kernel_rfl) (by kernel_rfl) (fun _ _ _ h => h) (by kernel_rfl) 15 Try.f15 Try.func15 (by kernel_rfl) (by kernel_rfl) _ _ rfl #[.agg #[.int .i64 P, .int .i64 L]] (by first | (simp [Act.eval]; done) | (simp [Act.eval, Act.put]; done)) (fun V hV => (HBN.out V).mono (by rintro en v ⟨rfl, bv⟩; exact ⟨rfl, hV.1.below bv, hV.2.below bv⟩)) ?_
              simp only [Act.put, List.setIfInBounds_toArray, List.set_cons_zero, List.set_cons_succ]
              refine AnyS.pure 6 (some 84) (v := .bool false) rfl rfl (by kernel_rfl) (by kernel_rfl) (by kernel_rfl) (fun _ _ _ h => h) (by kernel_rfl) (fun V _ => by go_simp) ?_
              refine AnyS.pure 7 (some 85) rfl rfl (by kernel_rfl) (by kernel_rfl) (by kernel_rfl) (fun _ _ _ h => h) (by kernel_rfl) (fun _ _ => rfl) ?_
              refine AnyS.pure 8 (some 86) (v := .pointer (some ⟨y, 0, none⟩)) rfl rfl (by kernel_rfl) (by kernel_rfl) (by kernel_rfl) (fun _ _ _ h => h) (by kernel_rfl) (fun V _ => by go_simp) ?_
              refine AnyS.pure 9 (some 87) (v := .bool false) rfl rfl (by kernel_rfl) (by kernel_rfl) (by kernel_rfl) (fun _ _ _ h => h) (by kernel_rfl) (fun V hV => by have c0 := hV.1.st.bx.cell 0; have c1 := hV.1.st.bx.cell 1; have c3 := hV.1.st.bx.cell 3; have e0 := hV.1.en.cell 0; have ci := HCI.out V hV.1; have hl := hV.2.look i (by omega) HVV.out; go_simp) ?_
              refine AnyS.pure 10 (some 88) rfl rfl (by kernel_rfl) (by kernel_rfl) (by kernel_rfl) (fun _ _ _ h => h) (by kernel_rfl) (fun _ _ => rfl) ?_
              refine AnyS.pure 11 (some 89) (v := .bool false) rfl rfl (by kernel_rfl) (by kernel_rfl) (by kernel_rfl) (fun _ _ _ h => h) (by kernel_rfl) (fun V _ => by go_simp) ?_
              refine AnyS.pure 12 (some 90) rfl rfl (by kernel_rfl) (by kernel_rfl) (by kernel_rfl) (fun _ _ _ h => h) (by kernel_rfl) (fun _ _ => rfl) ?_
              refine AnyS.skip 13 (some 91) rfl rfl (by kernel_rfl) (by kernel_rfl) (by kernel_rfl) (fun _ _ _ h => h) (by kernel_rfl) ?_
              refine AnyS.skip 14 (some 92) rfl rfl (by kernel_rfl) (by kernel_rfl) (by kernel_rfl) (fun _ _ _ h => h) (by kernel_rfl) ?_
              refine AnyS.skip 15 (some 93) rfl rfl (by kernel_rfl) (by kernel_rfl) (by kernel_rfl) (fun _ _ _ h => h) (by kernel_rfl) ?_
              refine AnyS.skip 16 (some 94) rfl rfl (by kernel_rfl) (by kernel_rfl) (by kernel_rfl) (fun _ _ _ h => h) (by kernel_rfl) ?_
              refine AnyS.skip 17 (some 95) rfl rfl (by kernel_rfl) (by kernel_rfl) (by kernel_rfl) (fun _ _ _ h => h) (by kernel_rfl) ?_
              refine AnyS.skip 18 (some 96) rfl rfl (by kernel_rfl) (by kernel_rfl) (by kernel_rfl) (fun _ _ _ h => h) (by kernel_rfl) ?_
              simp only [Act.put, List.setIfInBounds_toArray, List.set_cons_zero, List.set_cons_succ]
              refine AnyS.pure 19 (some 97) (v := .bool false) rfl rfl (by kernel_rfl) (by kernel_rfl) (by kernel_rfl) (fun _ _ _ h => h) (by kernel_rfl) (fun V _ => by go_simp) ?_
              refine AnyS.pure 20 (some 98) (v := .bool false) rfl rfl (by kernel_rfl) (by kernel_rfl) (by kernel_rfl) (fun _ _ _ h => h) (by kernel_rfl) (fun V _ => by go_simp) ?_
              refine AnyS.pure 21 (some 99) (v := .bool false) rfl rfl (by kernel_rfl) (by kernel_rfl) (by kernel_rfl) (fun _ _ _ h => h) (by kernel_rfl) (fun V _ => by go_simp) ?_
              refine AnyS.done (by kernel_rfl) (fun V2 hV => ?_) _
              have HV := Lib.hid (And.intro hV.1.st hV.2)
              clear hV HY
              go_wp2_with fail
              refine ⟨⟨k + 1, _, _, _, _, _, _, _, _, _, _, _, _, by rw [Int.natCast_add]; rfl, by omega, by omega, Lib.hid ⟨HV.out.1, HV.out.2, HOW.out⟩⟩, ?_⟩
              show 200 - ((k : Int) + 1).toNat < 200 - ((k : Int)).toNat
              omega
            · have hkf : (kind == 1) = false := by simpa using hkd
              go_wp2_with (first
                | ((with_reducible refine at_op 58 ?_); refine wpList_load_row (o := ⟨some 58, _, _, _, _, _⟩) rfl 33 _ rfl q rfl 33 (stC P L d (.slice (some ⟨gl, ol, none⟩) P cl) (.slice (some ⟨gs4, os4, none⟩) L cs4) (.slice (some ⟨gv4, ov4, none⟩) P cv4) (.slice (some ⟨gp4, op4, none⟩) P cp4)) (0, 0) _ HB.out.1.bq Try.underlying33 rfl (by kernel_rfl) ?_)
                | ((with_reducible refine at_store (.tmp 7) ?_); refine prc.wpList_store_cells (o := ⟨none, _, _, _, _, _⟩) rfl 33 _ _ rfl x (stC P L d (.slice (some ⟨gl, ol, none⟩) P cl) (.slice (some ⟨gs4, os4, none⟩) L cs4) (.slice (some ⟨gv4, ov4, none⟩) P cv4) (.slice (some ⟨gp4, op4, none⟩) P cp4)) (stC P L d (.slice (some ⟨gl, ol, none⟩) P cl) (.slice (some ⟨gs, os, none⟩) L cs) (.slice (some ⟨gv, ov, none⟩) P cv) (.slice (some ⟨gp, op, none⟩) P cp)) rfl rfl 33 HB.out.1.bx (by kernel_rfl) rfl (by simp [stC, Value.oneCell']) ?_; intro V6 h6 t6
                   (have HY6 : Hid (Py w1 P L A2 (k + 1) d c m B O4 (.slice (some ⟨gl, ol, none⟩) P cl) (.slice (some ⟨gs4, os4, none⟩) L cs4) (.slice (some ⟨gv4, ov4, none⟩) P cv4) (.slice (some ⟨gp4, op4, none⟩) P cp4) x y false fl sl V6 ∧ Ct w1 mo F k V6) := Lib.hid ⟨HB.out.1.copied' h6 t6, HB.out.2.turn t6 (HB.out.2.ne HB.out.1.bx)⟩)
                   (clear h6 t6 HB)
                   (obtain ⟨V7, hrun7, hC7, t7⟩ := HY6.out.2.store (by omega) i (by omega) 0 (by unfold cel.Fits; omega))
                   (have HY : Hid (Py w1 P L A2 (k + 1) d c m B O4 (.slice (some ⟨gl, ol, none⟩) P cl) (.slice (some ⟨gs4, os4, none⟩) L cs4) (.slice (some ⟨gv4, ov4, none⟩) P cv4) (.slice (some ⟨gp4, op4, none⟩) P cp4) x y false fl sl V7 ∧ Ct w1 mo (next F i true kind) (k + 1) V7) := Lib.hid ⟨HY6.out.1.mapped HY6.out.2 HOFF.out t7, by unfold next; rw [if_pos rfl]; exact hC7⟩)
                   (clear hC7 t7 HY6)
                   (obtain ⟨b', o', e', -, -, d0, -, -⟩ := actk_at A1.out (turn_all HY.out.1.st B1.out) hk1)
                   (rw [← HF.out.2] at d0)
                   (obtain ⟨rfl, rfl⟩ : b = b' ∧ o = o' := by injection e' with e1; injection e1 with e1 e4; exact ⟨e1, e4⟩)
                   (clear e'))
                | fail)
              refine wp_region_S (S := fun V1 => Py w1 P L A2 (k + 1) d c m B O4 (.slice (some ⟨gl, ol, none⟩) P cl) (.slice (some ⟨gs4, os4, none⟩) L cs4) (.slice (some ⟨gv4, ov4, none⟩) P cv4) (.slice (some ⟨gp4, op4, none⟩) P cp4) x y false fl sl V1 ∧ Ct w1 mo (next F i true kind) (k + 1) V1) (by kernel_rfl) (by exact ⟨HY.out.1.drew, HY.out.2.drew⟩) ?_
              refine AnyS.pure 0 (some 78) rfl rfl (by kernel_rfl) (by kernel_rfl) (by kernel_rfl) (fun _ _ _ h => h) (by kernel_rfl) (fun _ _ => rfl) ?_
              refine AnyS.pure 1 (some 79) rfl rfl (by kernel_rfl) (by kernel_rfl) (by kernel_rfl) (fun _ _ _ h => h) (by kernel_rfl) (fun _ _ => rfl) ?_
              refine AnyS.pure 2 (some 80) (v := .int .i64 v) rfl rfl (by kernel_rfl) (by kernel_rfl) (by kernel_rfl) (fun _ _ _ h => h) (by kernel_rfl) (fun V hV => by have c0 := hV.1.st.bx.cell 0; have c1 := hV.1.st.bx.cell 1; have c3 := hV.1.st.bx.cell 3; have e0 := hV.1.en.cell 0; have ci := HCI.out V hV.1; have hl := hV.2.look i (by omega) HVV.out; go_simp) ?_
              refine AnyS.pure 3 (some 81) (v := .pointer (some ⟨x, 0, none⟩)) rfl rfl (by kernel_rfl) (by kernel_rfl) (by kernel_rfl) (fun _ _ _ h => h) (by kernel_rfl) (fun V _ => by go_simp) ?_
              refine AnyS.pure 4 (some 82) (v := .agg #[.int .i64 P, .int .i64 L]) rfl rfl (by kernel_rfl) (by kernel_rfl) (by kernel_rfl) (fun _ _ _ h => h) (by kernel_rfl) (fun V hV => by have c0 := hV.1.st.bx.cell 0; have c1 := hV.1.st.bx.cell 1; have c3 := hV.1.st.bx.cell 3; have e0 := hV.1.en.cell 0; have ci := HCI.out V hV.1; have hl := hV.2.look i (by omega) HVV.out; go_simp) ?_
              refine AnyS.call 5 (some 83) (.int .i64 bn) rfl rfl (by kernel_rfl) (by kernel_rfl) (by kernel_rfl) (fun _ _ _ h => h) (by kernel_rfl) 15 Try.f15 Try.func15 (by kernel_rfl) (by kernel_rfl) _ _ rfl #[.agg #[.int .i64 P, .int .i64 L]] (by first | (simp [Act.eval]; done) | (simp [Act.eval, Act.put]; done)) (fun V hV => (HBN.out V).mono (by rintro en v ⟨rfl, bv⟩; exact ⟨rfl, hV.1.below bv, hV.2.below bv⟩)) ?_
              simp only [Act.put, List.setIfInBounds_toArray, List.set_cons_zero, List.set_cons_succ]
              refine AnyS.pure 6 (some 84) (v := .bool false) rfl rfl (by kernel_rfl) (by kernel_rfl) (by kernel_rfl) (fun _ _ _ h => h) (by kernel_rfl) (fun V _ => by go_simp) ?_
              refine AnyS.pure 7 (some 85) rfl rfl (by kernel_rfl) (by kernel_rfl) (by kernel_rfl) (fun _ _ _ h => h) (by kernel_rfl) (fun _ _ => rfl) ?_
              refine AnyS.pure 8 (some 86) (v := .pointer (some ⟨y, 0, none⟩)) rfl rfl (by kernel_rfl) (by kernel_rfl) (by kernel_rfl) (fun _ _ _ h => h) (by kernel_rfl) (fun V _ => by go_simp) ?_
              refine AnyS.pure 9 (some 87) (v := .bool false) rfl rfl (by kernel_rfl) (by kernel_rfl) (by kernel_rfl) (fun _ _ _ h => h) (by kernel_rfl) (fun V hV => by have c0 := hV.1.st.bx.cell 0; have c1 := hV.1.st.bx.cell 1; have c3 := hV.1.st.bx.cell 3; have e0 := hV.1.en.cell 0; have ci := HCI.out V hV.1; have hl := hV.2.look i (by omega) HVV.out; go_simp) ?_
              refine AnyS.pure 10 (some 88) rfl rfl (by kernel_rfl) (by kernel_rfl) (by kernel_rfl) (fun _ _ _ h => h) (by kernel_rfl) (fun _ _ => rfl) ?_
              refine AnyS.pure 11 (some 89) (v := .bool false) rfl rfl (by kernel_rfl) (by kernel_rfl) (by kernel_rfl) (fun _ _ _ h => h) (by kernel_rfl) (fun V _ => by go_simp) ?_
              refine AnyS.pure 12 (some 90) rfl rfl (by kernel_rfl) (by kernel_rfl) (by kernel_rfl) (fun _ _ _ h => h) (by kernel_rfl) (fun _ _ => rfl) ?_
              refine AnyS.skip 13 (some 91) rfl rfl (by kernel_rfl) (by kernel_rfl) (by kernel_rfl) (fun _ _ _ h => h) (by kernel_rfl) ?_
              refine AnyS.skip 14 (some 92) rfl rfl (by kernel_rfl) (by kernel_rfl) (by kernel_rfl) (fun _ _ _ h => h) (by kernel_rfl) ?_
              refine AnyS.skip 15 (some 93) rfl rfl (by kernel_rfl) (by kernel_rfl) (by kernel_rfl) (fun _ _ _ h => h) (by kernel_rfl) ?_
              refine AnyS.skip 16 (some 94) rfl rfl (by kernel_rfl) (by kernel_rfl) (by kernel_rfl) (fun _ _ _ h => h) (by kernel_rfl) ?_
              refine AnyS.skip 17 (some 95) rfl rfl (by kernel_rfl) (by kernel_rfl) (by kernel_rfl) (fun _ _ _ h => h) (by kernel_rfl) ?_
              refine AnyS.skip 18 (some 96) rfl rfl (by kernel_rfl) (by kernel_rfl) (by kernel_rfl) (fun _ _ _ h => h) (by kernel_rfl) ?_
              simp only [Act.put, List.setIfInBounds_toArray, List.set_cons_zero, List.set_cons_succ]
              refine AnyS.pure 19 (some 97) (v := .bool false) rfl rfl (by kernel_rfl) (by kernel_rfl) (by kernel_rfl) (fun _ _ _ h => h) (by kernel_rfl) (fun V _ => by go_simp) ?_
              refine AnyS.pure 20 (some 98) (v := .bool false) rfl rfl (by kernel_rfl) (by kernel_rfl) (by kernel_rfl) (fun _ _ _ h => h) (by kernel_rfl) (fun V _ => by go_simp) ?_
              refine AnyS.pure 21 (some 99) (v := .bool false) rfl rfl (by kernel_rfl) (by kernel_rfl) (by kernel_rfl) (fun _ _ _ h => h) (by kernel_rfl) (fun V _ => by go_simp) ?_
              refine AnyS.done (by kernel_rfl) (fun V2 hV => ?_) _
              have HV := Lib.hid (And.intro hV.1.st hV.2)
              clear hV HY
              go_wp2_with fail
              refine ⟨⟨k + 1, _, _, _, _, _, _, _, _, _, _, _, _, by rw [Int.natCast_add]; rfl, by omega, by omega, Lib.hid ⟨HV.out.1, HV.out.2, HOW.out⟩⟩, ?_⟩
              show 200 - ((k : Int) + 1).toNat < 200 - ((k : Int)).toNat
              omega
        all_goals exact h.elim
    · have HZ : Hid (Ze w1 P L A k d c m B (.slice (some ⟨gl, ol, none⟩) P cl) x (stC P L d (.slice (some ⟨gl, ol, none⟩) P cl) (.slice (some ⟨gs, os, none⟩) L cs) (.slice (some ⟨gv, ov, none⟩) P cv) (.slice (some ⟨gp, op, none⟩) P cp)) wr) := Lib.hid HS.out.1.ze
      have HK : Hid (k ≤ 200) := Lib.hid hk200
      have x0 : wr.cell? ⟨x, 0, none⟩ = some (.int .i64 P) := HS.out.1.bx.cell 0
      obtain ⟨bn, hbn⟩ : ∃ bn : Int, bn = 2 + 3 * (L : Int) := ⟨_, rfl⟩
      have HBN : Hid (∀ V, Calls Try.prog 15 #[.agg #[.int .i64 P, .int .i64 L]] V (ret1 (.int .i64 bn) V)) := Lib.hid fun V => by rw [hbn]; exact boundP_calls P L V (by omega) (by omega)
      obtain ⟨bm, hbm⟩ : ∃ bm : Nat, bm = 3 + 3 * L := ⟨_, rfl⟩
      have n1 : bn + 1 = (bm : Int) := by omega
      have n2 : 0 ≤ bn := by omega
      have n3 : bn ≤ 62 := by omega
      have n4 : bm ≤ 63 := by omega
      have HBM : Hid (bm = 3 + 3 * L) := Lib.hid hbm
      have hx2 : (len1 ≤ k) ∨ (k < len1 ∧ 200 ≤ k) := by omega
      clear HS hbn hbm hk
      rcases hx2 with h1 | ⟨h1, h2⟩
      · have h1' : ¬ (k : Int) < (len1 : Int) := by omega
        go_wp2_with fail
        clear x0
        go_loopw [103] (fun i wr2 => ∃ (j : Nat) (A' : Ab) (K' : Nat), i = .int .i64 j ∧ j ≤ P ∧ Hid (K' ≤ 200 + j * 63 ∧ Ze w1 P L A' K' d c m B (.slice (some ⟨gl, ol, none⟩) P cl) x (stC P L d (.slice (some ⟨gl, ol, none⟩) P cl) (.slice (some ⟨gs, os, none⟩) L cs) (.slice (some ⟨gv, ov, none⟩) P cv) (.slice (some ⟨gp, op, none⟩) P cp)) wr2)) (fun i _ => P - (prc.intOf i).toNat)
        case atStart => exact ⟨0, _, _, rfl, Nat.zero_le _, Lib.hid ⟨by have := HK.out; omega, HZ.out⟩⟩
        case round =>
          clear HZ
          obtain ⟨j, A', K', rfl, hj, HS⟩ := hrel
          by_cases hjP : j < P
          · have hji : (j : Int) < (P : Int) := by omega
            have j0 : (0 : Int) ≤ (j : Int) := by omega
            have c0 := HS.out.2.bx.cell 0
            have c1 := HS.out.2.bx.cell 1
            have HCJ : Hid (∀ V, Seg V 52 1 (.slice (some ⟨gl, ol, none⟩) P cl) P (ptrs B P) → V.cell? ⟨gl, ol + j, none⟩ = some (.pointer (some ⟨B j, 0, none⟩))) := Lib.hid fun V hV => by
              obtain ⟨gl', ol', cl', e, -, -, -, hcl⟩ := hV.cells HP.out.1
              obtain ⟨rfl, rfl⟩ : gl = gl' ∧ ol = ol' := by injection e with e1 e2 e3; injection e1 with e1; injection e1 with e1 e4; exact ⟨e1, e4⟩
              exact hcl j _ (ptrs_at B hjP)
            go_wp2_with fail
            refine (HBN.out _).mono ?_
            rintro en w3 ⟨rfl, b3⟩
            have HS3 : Hid (K' ≤ 200 + j * 63 ∧ Ze w1 P L A' K' d c m B (.slice (some ⟨gl, ol, none⟩) P cl) x (stC P L d (.slice (some ⟨gl, ol, none⟩) P cl) (.slice (some ⟨gs, os, none⟩) L cs) (.slice (some ⟨gv, ov, none⟩) P cv) (.slice (some ⟨gp, op, none⟩) P cp)) w3) := Lib.hid ⟨HS.out.1, HS.out.2.below b3⟩
            clear b3 HS c0 c1
            go_wp2_with fail
            go_loopw [110] (fun i wr3 => ∃ (t : Nat) (A2 : Ab) (K2 : Nat), i = .int .i64 t ∧ t ≤ bm ∧ Hid (K2 ≤ 200 + j * 63 + t ∧ Ze w1 P L A2 K2 d c m B (.slice (some ⟨gl, ol, none⟩) P cl) x (stC P L d (.slice (some ⟨gl, ol, none⟩) P cl) (.slice (some ⟨gs, os, none⟩) L cs) (.slice (some ⟨gv, ov, none⟩) P cv) (.slice (some ⟨gp, op, none⟩) P cp)) wr3 ∧ ((A2.X j).next = 0 ∨ rem L (A2.X j) + t ≤ 2 + 3 * L))) (fun i _ => bm - (prc.intOf i).toNat)
            case atStart => exact ⟨0, _, _, rfl, Nat.zero_le _, Lib.hid ⟨by have := HS3.out.1; omega, HS3.out.2, by
              rcases rem_le L (A'.X j) (HS3.out.2.good.next j) with h | h
              · exact .inl h
              · exact .inr (by omega)⟩⟩
            case round =>
              clear HS3
              obtain ⟨t, A2, K2, rfl, ht, HS⟩ := hrel
              by_cases htb : t < bm
              · have htbi : (t : Int) < (bm : Int) := by omega
                have t0 : (0 : Int) ≤ (t : Int) := by omega
                have htm : (t : Int) ≤ 62 := by omega
                go_wp2_with fail
                obtain ⟨V0, hV0⟩ : ∃ V, V = wr.drew := ⟨_, rfl⟩
                have QV : ∀ V, (Has V x 33 (stC P L d (.slice (some ⟨gl, ol, none⟩) P cl) (.slice (some ⟨gs, os, none⟩) L cs) (.slice (some ⟨gv, ov, none⟩) P cv) (.slice (some ⟨gp, op, none⟩) P cp)) ∧ Seg V 52 1 (.slice (some ⟨gl, ol, none⟩) P cl) P (ptrs B P)) → (Has V x 33 (stC P L d (.slice (some ⟨gl, ol, none⟩) P cl) (.slice (some ⟨gs, os, none⟩) L cs) (.slice (some ⟨gv, ov, none⟩) P cv) (.slice (some ⟨gp, op, none⟩) P cp)) ∧ Seg V 52 1 (.slice (some ⟨gl, ol, none⟩) P cl) P (ptrs B P)) := fun V h => h
                refine region_heldV (fun V => Has V x 33 (stC P L d (.slice (some ⟨gl, ol, none⟩) P cl) (.slice (some ⟨gs, os, none⟩) L cs) (.slice (some ⟨gv, ov, none⟩) P cv) (.slice (some ⟨gp, op, none⟩) P cp)) ∧ Seg V 52 1 (.slice (some ⟨gl, ol, none⟩) P cl) P (ptrs B P)) V0 hV0 (by kernel_rfl) ?_
                have Z0 : Hid (Ze w1 P L A2 K2 d c m B (.slice (some ⟨gl, ol, none⟩) P cl) x (stC P L d (.slice (some ⟨gl, ol, none⟩) P cl) (.slice (some ⟨gs, os, none⟩) L cs) (.slice (some ⟨gv, ov, none⟩) P cv) (.slice (some ⟨gp, op, none⟩) P cp)) V0) := by rw [hV0]; exact Lib.hid (HS.out.2.1.below (Below.refl _ _).drew)
                have S0 : Has V0 x 33 (stC P L d (.slice (some ⟨gl, ol, none⟩) P cl) (.slice (some ⟨gs, os, none⟩) L cs) (.slice (some ⟨gv, ov, none⟩) P cv) (.slice (some ⟨gp, op, none⟩) P cp)) ∧ Seg V0 52 1 (.slice (some ⟨gl, ol, none⟩) P cl) P (ptrs B P) := ⟨Z0.out.bx, Z0.out.ls⟩
                clear hV0
                refine held_take 0 (some 112) (v := .pointer (some ⟨x, 3, none⟩)) rfl rfl (by kernel_rfl) (by kernel_rfl) (by kernel_rfl) (fun _ _ _ h => h) (.inl ⟨by kernel_rfl, fun V hV => by go_simp⟩) S0 ?_
                refine held_take 1 (some 113) (v := .slice (some ⟨gl, ol, none⟩) P cl) rfl rfl (by kernel_rfl) (by kernel_rfl) (by kernel_rfl) (fun _ _ _ h => h) (.inl ⟨by kernel_rfl, fun V hV => by (have c3 := (QV V hV).1.cell 3); go_simp⟩) S0 ?_
                refine held_take 2 (some 114) (v := .int .i64 j) rfl rfl (by kernel_rfl) (by kernel_rfl) (by kernel_rfl) (fun _ _ _ h => h) (.inl ⟨by kernel_rfl, fun V hV => by go_simp⟩) S0 ?_
                refine held_take 3 (some 115) (v := .pointer (some ⟨gl, ol + j, none⟩)) rfl rfl (by kernel_rfl) (by kernel_rfl) (by kernel_rfl) (fun _ _ _ h => h) (.inl ⟨by kernel_rfl, fun V hV => by go_simp⟩) S0 ?_
                refine held_take 4 (some 116) (v := .pointer (some ⟨B j, 0, none⟩)) rfl rfl (by kernel_rfl) (by kernel_rfl) (by kernel_rfl) (fun _ _ _ h => h) (.inl ⟨by kernel_rfl, fun V hV => by (have ci := HCJ.out V (QV V hV).2); go_simp⟩) S0 ?_
                refine held_take 5 (some 117) (v := .pointer (some ⟨x, 2, none⟩)) rfl rfl (by kernel_rfl) (by kernel_rfl) (by kernel_rfl) (fun _ _ _ h => h) (.inl ⟨by kernel_rfl, fun V hV => by go_simp⟩) S0 ?_
                refine held_take 6 (some 118) (v := .pointer (some ⟨d, 0, none⟩)) rfl rfl (by kernel_rfl) (by kernel_rfl) (by kernel_rfl) (fun _ _ _ h => h) (.inl ⟨by kernel_rfl, fun V hV => by (have c2 := (QV V hV).1.cell 2); go_simp⟩) S0 ?_
                simp only [Act.put, List.setIfInBounds_toArray, List.set_cons_zero, List.set_cons_succ]
                refine held_one (i := 7) (by kernel_rfl) ?_
                refine wpOp_call (some 119) rfl rfl (by kernel_rfl) 16 Try.f16 Try.func16 (by kernel_rfl) (by kernel_rfl) _ _ rfl #[.pointer (some ⟨B j, 0, none⟩), .pointer (some ⟨d, 0, none⟩)] (by first | (simp [Act.eval]; done) | (simp [Act.eval, Act.put]; done)) (Z0.out.step hjP (by have := HP.out; omega) (by have := HP.out; omega) (by have := HS.out.1; have := HP.out; omega)) ?_
                rintro en V1 ⟨⟨e, rfl⟩, hz⟩
                refine ⟨_, rfl, ⟨hz.bx, hz.ls⟩, ?_⟩
                simp only [Act.put, List.setIfInBounds_toArray, List.set_cons_zero, List.set_cons_succ]
                refine wpAnyH_done (by kernel_rfl) ?_ _
                have HN : Hid (K2 + 1 ≤ 200 + j * 63 + (t + 1) ∧ Ze w1 P L (prc.step P L A2 j).1 (K2 + 1) d c m B (.slice (some ⟨gl, ol, none⟩) P cl) x (stC P L d (.slice (some ⟨gl, ol, none⟩) P cl) (.slice (some ⟨gs, os, none⟩) L cs) (.slice (some ⟨gv, ov, none⟩) P cv) (.slice (some ⟨gp, op, none⟩) P cp)) V1 ∧ (((prc.step P L A2 j).1.X j).next = 0 ∨ rem L ((prc.step P L A2 j).1.X j) + (t + 1) ≤ 2 + 3 * L)) := Lib.hid ⟨by have := HS.out.1; omega, hz, step_fewer HS.out.2.1.good HS.out.2.2⟩
                clear hz S0 Z0 HS QV
                go_wp2_with fail
                refine ⟨⟨t + 1, _, _, by rw [Int.natCast_add]; rfl, by omega, HN⟩, ?_⟩
                show bm - ((t : Int) + 1).toNat < bm - ((t : Int)).toNat
                omega
              · have htn : ¬ (t : Int) < (bm : Int) := by omega
                have h0 : (A2.X j).next = 0 := by
                  rcases HS.out.2.2 with h | h
                  · exact h
                  · have := HBM.out; omega
                have HID : Hid (∀ V, prc.Sys w1 d c m P L A2 K2 (fun i => i < P) B V → Calls Try.prog 14 #[.pointer (some ⟨B j, 0, none⟩)] V fun en w' => en = .returned (.bool true) ∧ V = w') := Lib.hid fun V h => by
                  have h2 := h.idle hjP
                  rwa [decide_eq_true h0] at h2
                have c3 := HS.out.2.1.bx.cell 3
                have ci := HCJ.out wr HS.out.2.1.ls
                go_wp2_with fail
                refine (HID.out _ HS.out.2.1.sys).mono ?_
                rintro en w' ⟨rfl, rfl⟩
                have HN : Hid (K2 ≤ 200 + (j + 1) * 63 ∧ Ze w1 P L A2 K2 d c m B (.slice (some ⟨gl, ol, none⟩) P cl) x (stC P L d (.slice (some ⟨gl, ol, none⟩) P cl) (.slice (some ⟨gs, os, none⟩) L cs) (.slice (some ⟨gv, ov, none⟩) P cv) (.slice (some ⟨gp, op, none⟩) P cp)) wr) := Lib.hid ⟨by have := HS.out.1; have := HBM.out; have := HP.out; omega, HS.out.2.1⟩
                clear HS HID c3 ci
                go_wp2_with fail
                refine ⟨⟨j + 1, _, _, by rw [Int.natCast_add]; rfl, by omega, HN⟩, ?_⟩
                show P - ((j : Int) + 1).toNat < P - ((j : Int)).toNat
                omega
          · have hjn : ¬ (j : Int) < (P : Int) := by omega
            go_wp2_with (first
              | ((with_reducible refine at_op 129 ?_); refine wpList_load_row (o := ⟨some 129, _, _, _, _, _⟩) rfl 33 _ rfl x rfl 33 (stC P L d (.slice (some ⟨gl, ol, none⟩) P cl) (.slice (some ⟨gs, os, none⟩) L cs) (.slice (some ⟨gv, ov, none⟩) P cv) (.slice (some ⟨gp, op, none⟩) P cp)) (0, 0) _ HS.out.2.bx Try.underlying33 rfl (by kernel_rfl) ?_)
              | fail)
            refine (HS.out.2.sys.once HS.out.2.good HP.out.2.1 HP.out.2.2 gl ol P cl gs os L cs gv ov P cv gp op P cp).mono ?_
            rintro en w6 ⟨rfl, b6⟩
            have BE := Lib.hid (B1.out.trans ((HS.out.2.below b6).sys.ends.mono B1.out.size))
            clear b6 HS
            go_wp2_with fail
            go_ret
            exact ⟨rfl, BE.out⟩
      · have h1' : (k : Int) < (len1 : Int) := by omega
        have h2' : ¬ (k : Int) < 200 := by omega
        go_wp2_with fail
        clear x0
        go_loopw [103] (fun i wr2 => ∃ (j : Nat) (A' : Ab) (K' : Nat), i = .int .i64 j ∧ j ≤ P ∧ Hid (K' ≤ 200 + j * 63 ∧ Ze w1 P L A' K' d c m B (.slice (some ⟨gl, ol, none⟩) P cl) x (stC P L d (.slice (some ⟨gl, ol, none⟩) P cl) (.slice (some ⟨gs, os, none⟩) L cs) (.slice (some ⟨gv, ov, none⟩) P cv) (.slice (some ⟨gp, op, none⟩) P cp)) wr2)) (fun i _ => P - (prc.intOf i).toNat)
        case atStart => exact ⟨0, _, _, rfl, Nat.zero_le _, Lib.hid ⟨by have := HK.out; omega, HZ.out⟩⟩
        case round =>
          clear HZ
          obtain ⟨j, A', K', rfl, hj, HS⟩ := hrel
          by_cases hjP : j < P
          · have hji : (j : Int) < (P : Int) := by omega
            have j0 : (0 : Int) ≤ (j : Int) := by omega
            have c0 := HS.out.2.bx.cell 0
            have c1 := HS.out.2.bx.cell 1
            have HCJ : Hid (∀ V, Seg V 52 1 (.slice (some ⟨gl, ol, none⟩) P cl) P (ptrs B P) → V.cell? ⟨gl, ol + j, none⟩ = some (.pointer (some ⟨B j, 0, none⟩))) := Lib.hid fun V hV => by
              obtain ⟨gl', ol', cl', e, -, -, -, hcl⟩ := hV.cells HP.out.1
              obtain ⟨rfl, rfl⟩ : gl = gl' ∧ ol = ol' := by injection e with e1 e2 e3; injection e1 with e1; injection e1 with e1 e4; exact ⟨e1, e4⟩
              exact hcl j _ (ptrs_at B hjP)
            go_wp2_with fail
            refine (HBN.out _).mono ?_
            rintro en w3 ⟨rfl, b3⟩
            have HS3 : Hid (K' ≤ 200 + j * 63 ∧ Ze w1 P L A' K' d c m B (.slice (some ⟨gl, ol, none⟩) P cl) x (stC P L d (.slice (some ⟨gl, ol, none⟩) P cl) (.slice (some ⟨gs, os, none⟩) L cs) (.slice (some ⟨gv, ov, none⟩) P cv) (.slice (some ⟨gp, op, none⟩) P cp)) w3) := Lib.hid ⟨HS.out.1, HS.out.2.below b3⟩
            clear b3 HS c0 c1
            go_wp2_with fail
            go_loopw [110] (fun i wr3 => ∃ (t : Nat) (A2 : Ab) (K2 : Nat), i = .int .i64 t ∧ t ≤ bm ∧ Hid (K2 ≤ 200 + j * 63 + t ∧ Ze w1 P L A2 K2 d c m B (.slice (some ⟨gl, ol, none⟩) P cl) x (stC P L d (.slice (some ⟨gl, ol, none⟩) P cl) (.slice (some ⟨gs, os, none⟩) L cs) (.slice (some ⟨gv, ov, none⟩) P cv) (.slice (some ⟨gp, op, none⟩) P cp)) wr3 ∧ ((A2.X j).next = 0 ∨ rem L (A2.X j) + t ≤ 2 + 3 * L))) (fun i _ => bm - (prc.intOf i).toNat)
            case atStart => exact ⟨0, _, _, rfl, Nat.zero_le _, Lib.hid ⟨by have := HS3.out.1; omega, HS3.out.2, by
              rcases rem_le L (A'.X j) (HS3.out.2.good.next j) with h | h
              · exact .inl h
              · exact .inr (by omega)⟩⟩
            case round =>
              clear HS3
              obtain ⟨t, A2, K2, rfl, ht, HS⟩ := hrel
              by_cases htb : t < bm
              · have htbi : (t : Int) < (bm : Int) := by omega
                have t0 : (0 : Int) ≤ (t : Int) := by omega
                have htm : (t : Int) ≤ 62 := by omega
                go_wp2_with fail
                obtain ⟨V0, hV0⟩ : ∃ V, V = wr.drew := ⟨_, rfl⟩
                have QV : ∀ V, (Has V x 33 (stC P L d (.slice (some ⟨gl, ol, none⟩) P cl) (.slice (some ⟨gs, os, none⟩) L cs) (.slice (some ⟨gv, ov, none⟩) P cv) (.slice (some ⟨gp, op, none⟩) P cp)) ∧ Seg V 52 1 (.slice (some ⟨gl, ol, none⟩) P cl) P (ptrs B P)) → (Has V x 33 (stC P L d (.slice (some ⟨gl, ol, none⟩) P cl) (.slice (some ⟨gs, os, none⟩) L cs) (.slice (some ⟨gv, ov, none⟩) P cv) (.slice (some ⟨gp, op, none⟩) P cp)) ∧ Seg V 52 1 (.slice (some ⟨gl, ol, none⟩) P cl) P (ptrs B P)) := fun V h => h
                refine region_heldV (fun V => Has V x 33 (stC P L d (.slice (some ⟨gl, ol, none⟩) P cl) (.slice (some ⟨gs, os, none⟩) L cs) (.slice (some ⟨gv, ov, none⟩) P cv) (.slice (some ⟨gp, op, none⟩) P cp)) ∧ Seg V 52 1 (.slice (some ⟨gl, ol, none⟩) P cl) P (ptrs B P)) V0 hV0 (by kernel_rfl) ?_
                have Z0 : Hid (Ze w1 P L A2 K2 d c m B (.slice (some ⟨gl, ol, none⟩) P cl) x (stC P L d (.slice (some ⟨gl, ol, none⟩) P cl) (.slice (some ⟨gs, os, none⟩) L cs) (.slice (some ⟨gv, ov, none⟩) P cv) (.slice (some ⟨gp, op, none⟩) P cp)) V0) := by rw [hV0]; exact Lib.hid (HS.out.2.1.below (Below.refl _ _).drew)
                have S0 : Has V0 x 33 (stC P L d (.slice (some ⟨gl, ol, none⟩) P cl) (.slice (some ⟨gs, os, none⟩) L cs) (.slice (some ⟨gv, ov, none⟩) P cv) (.slice (some ⟨gp, op, none⟩) P cp)) ∧ Seg V0 52 1 (.slice (some ⟨gl, ol, none⟩) P cl) P (ptrs B P) := ⟨Z0.out.bx, Z0.out.ls⟩
                clear hV0
                refine held_take 0 (some 112) (v := .pointer (some ⟨x, 3, none⟩)) rfl rfl (by kernel_rfl) (by kernel_rfl) (by kernel_rfl) (fun _ _ _ h => h) (.inl ⟨by kernel_rfl, fun V hV => by go_simp⟩) S0 ?_
                refine held_take 1 (some 113) (v := .slice (some ⟨gl, ol, none⟩) P cl) rfl rfl (by kernel_rfl) (by kernel_rfl) (by kernel_rfl) (fun _ _ _ h => h) (.inl ⟨by kernel_rfl, fun V hV => by (have c3 := (QV V hV).1.cell 3); go_simp⟩) S0 ?_
                refine held_take 2 (some 114) (v := .int .i64 j) rfl rfl (by kernel_rfl) (by kernel_rfl) (by kernel_rfl) (fun _ _ _ h => h) (.inl ⟨by kernel_rfl, fun V hV => by go_simp⟩) S0 ?_
                refine held_take 3 (some 115) (v := .pointer (some ⟨gl, ol + j, none⟩)) rfl rfl (by kernel_rfl) (by kernel_rfl) (by kernel_rfl) (fun _ _ _ h => h) (.inl ⟨by kernel_rfl, fun V hV => by go_simp⟩) S0 ?_
                refine held_take 4 (some 116) (v := .pointer (some ⟨B j, 0, none⟩)) rfl rfl (by kernel_rfl) (by kernel_rfl) (by kernel_rfl) (fun _ _ _ h => h) (.inl ⟨by kernel_rfl, fun V hV => by (have ci := HCJ.out V (QV V hV).2); go_simp⟩) S0 ?_
                refine held_take 5 (some 117) (v := .pointer (some ⟨x, 2, none⟩)) rfl rfl (by kernel_rfl) (by kernel_rfl) (by kernel_rfl) (fun _ _ _ h => h) (.inl ⟨by kernel_rfl, fun V hV => by go_simp⟩) S0 ?_
                refine held_take 6 (some 118) (v := .pointer (some ⟨d, 0, none⟩)) rfl rfl (by kernel_rfl) (by kernel_rfl) (by kernel_rfl) (fun _ _ _ h => h) (.inl ⟨by kernel_rfl, fun V hV => by (have c2 := (QV V hV).1.cell 2); go_simp⟩) S0 ?_
                simp only [Act.put, List.setIfInBounds_toArray, List.set_cons_zero, List.set_cons_succ]
                refine held_one (i := 7) (by kernel_rfl) ?_
                refine wpOp_call (some 119) rfl rfl (by kernel_rfl) 16 Try.f16 Try.func16 (by kernel_rfl) (by kernel_rfl) _ _ rfl #[.pointer (some ⟨B j, 0, none⟩), .pointer (some ⟨d, 0, none⟩)] (by first | (simp [Act.eval]; done) | (simp [Act.eval, Act.put]; done)) (Z0.out.step hjP (by have := HP.out; omega) (by have := HP.out; omega) (by have := HS.out.1; have := HP.out; omega)) ?_
                rintro en V1 ⟨⟨e, rfl⟩, hz⟩
                refine ⟨_, rfl, ⟨hz.bx, hz.ls⟩, ?_⟩
                simp only [Act.put, List.setIfInBounds_toArray, List.set_cons_zero, List.set_cons_succ]
                refine wpAnyH_done (by kernel_rfl) ?_ _
                have HN : Hid (K2 + 1 ≤ 200 + j * 63 + (t + 1) ∧ Ze w1 P L (prc.step P L A2 j).1 (K2 + 1) d c m B (.slice (some ⟨gl, ol, none⟩) P cl) x (stC P L d (.slice (some ⟨gl, ol, none⟩) P cl) (.slice (some ⟨gs, os, none⟩) L cs) (.slice (some ⟨gv, ov, none⟩) P cv) (.slice (some ⟨gp, op, none⟩) P cp)) V1 ∧ (((prc.step P L A2 j).1.X j).next = 0 ∨ rem L ((prc.step P L A2 j).1.X j) + (t + 1) ≤ 2 + 3 * L)) := Lib.hid ⟨by have := HS.out.1; omega, hz, step_fewer HS.out.2.1.good HS.out.2.2⟩
                clear hz S0 Z0 HS QV
                go_wp2_with fail
                refine ⟨⟨t + 1, _, _, by rw [Int.natCast_add]; rfl, by omega, HN⟩, ?_⟩
                show bm - ((t : Int) + 1).toNat < bm - ((t : Int)).toNat
                omega
              · have htn : ¬ (t : Int) < (bm : Int) := by omega
                have h0 : (A2.X j).next = 0 := by
                  rcases HS.out.2.2 with h | h
                  · exact h
                  · have := HBM.out; omega
                have HID : Hid (∀ V, prc.Sys w1 d c m P L A2 K2 (fun i => i < P) B V → Calls Try.prog 14 #[.pointer (some ⟨B j, 0, none⟩)] V fun en w' => en = .returned (.bool true) ∧ V = w') := Lib.hid fun V h => by
                  have h2 := h.idle hjP
                  rwa [decide_eq_true h0] at h2
                have c3 := HS.out.2.1.bx.cell 3
                have ci := HCJ.out wr HS.out.2.1.ls
                go_wp2_with fail
                refine (HID.out _ HS.out.2.1.sys).mono ?_
                rintro en w' ⟨rfl, rfl⟩
                have HN : Hid (K2 ≤ 200 + (j + 1) * 63 ∧ Ze w1 P L A2 K2 d c m B (.slice (some ⟨gl, ol, none⟩) P cl) x (stC P L d (.slice (some ⟨gl, ol, none⟩) P cl) (.slice (some ⟨gs, os, none⟩) L cs) (.slice (some ⟨gv, ov, none⟩) P cv) (.slice (some ⟨gp, op, none⟩) P cp)) wr) := Lib.hid ⟨by have := HS.out.1; have := HBM.out; have := HP.out; omega, HS.out.2.1⟩
                clear HS HID c3 ci
                go_wp2_with fail
                refine ⟨⟨j + 1, _, _, by rw [Int.natCast_add]; rfl, by omega, HN⟩, ?_⟩
                show P - ((j : Int) + 1).toNat < P - ((j : Int)).toNat
                omega
          · have hjn : ¬ (j : Int) < (P : Int) := by omega
            go_wp2_with (first
              | ((with_reducible refine at_op 129 ?_); refine wpList_load_row (o := ⟨some 129, _, _, _, _, _⟩) rfl 33 _ rfl x rfl 33 (stC P L d (.slice (some ⟨gl, ol, none⟩) P cl) (.slice (some ⟨gs, os, none⟩) L cs) (.slice (some ⟨gv, ov, none⟩) P cv) (.slice (some ⟨gp, op, none⟩) P cp)) (0, 0) _ HS.out.2.bx Try.underlying33 rfl (by kernel_rfl) ?_)
              | fail)
            refine (HS.out.2.sys.once HS.out.2.good HP.out.2.1 HP.out.2.2 gl ol P cl gs os L cs gv ov P cv gp op P cp).mono ?_
            rintro en w6 ⟨rfl, b6⟩
            have BE := Lib.hid (B1.out.trans ((HS.out.2.below b6).sys.ends.mono B1.out.size))
            clear b6 HS
            go_wp2_with fail
            go_ret
            exact ⟨rfl, BE.out⟩

def Arg2 (w : World) (a : Option Addr) (len _cap : Nat) : Prop := ∃ T, ArgK w a len T

theorem walk (n k : Int) (a1 : Option Addr) (len1 cap1 : Nat) (w : World) (_ : (Lit.int .i64 n).wf = true) (_ : (Lit.int .i64 k).wf = true) (w1 : Arg2 w a1 len1 cap1) :
    Calls Try.prog 4 #[.int .i64 n, .int .i64 k, .slice a1 len1 cap1] w fun en w' => en = .returned (.bool true) ∧ Below w.heap.size w w' := by
  obtain ⟨T1, h1⟩ := w1
  exact free_any n k a1 len1 cap1 T1 w h1

theorem opened2 {H : Type} {enc : TypeId × Value → H} {w : World} {spare : Nat → Bool} {held : Bool} {a : Option Addr} {len cap : Nat} {d : DataW H} {p : List MemPlace} (h : DataW.Trod enc Try.prog w 0 spare held 22 (.slice a len cap) d p) : Arg2 w a len cap := openedK h

theorem own : ownKnob Try.prog.godebug = none := by kernel_rfl
theorem laidOut : laidOutB Try.prog = true := by kernel_rfl

set_option maxRecDepth 100000 in
theorem lifted (os : Os) (started : os.Started) (H : Type) (enc : TypeId × Value → H) :
    ReturnsInHanded {} Try.checked os 4 .any (Rows.procFreeSpec.pre6 enc Try.prog Try.f4 Rows.procFreeRow.domain false) (Rows.procFreeSpec.post enc Try.prog Try.f4 false true false false) := by
  refine returnsInHanded_of_change (C := Try.checked) own started (by kernel_rfl) Try.func4
    (ChangeSpec.witness6 (enc := enc) (C := Try.checked) false ⟨#[], #[.int .i64 0, .int .i64 0, .slice none 0 0], []⟩ 8 (by kernel_rfl) (by kernel_rfl) (by kernel_rfl) (by kernel_rfl)) ?_
  intro W base args ds gs before hval0 hW _ _
  have hval : ∀ (j : Nat) t v, Try.f4.params[j]? = some t → args[j]? = some v → Value.okWide Try.prog W .any base t v := hval0
  have hW' := hW
  obtain ⟨p, q, hA0, hV, rfl, _, _⟩ := hW
  have hA : DataW.TrodAll enc Try.prog W 0 (fun _ => true) true Try.f4.params.toList args.toList ds p := hA0
  rw [Try.params4] at hA hval
  obtain ⟨v0, vs0, d0, ds0, p0, q0, hargs, rfl, rfl, h0, r0⟩ := trodAll_cons hA
  obtain ⟨v1, vs1, d1, ds1, p1, q1, rfl, rfl, rfl, h1, r1⟩ := trodAll_cons r0
  obtain ⟨v2, vs2, d2, ds2, p2, q2, rfl, rfl, rfl, h2, r2⟩ := trodAll_cons r1
  obtain ⟨rfl, rfl, rfl⟩ := trodAll_nil r2
  obtain rfl : args = #[v0, v1, v2] := by cases args; simp_all
  obtain ⟨rfl, rfl⟩ := trodVars_none hV
  obtain ⟨a0, rfl, rfl, rfl, w0⟩ := open_int Try.underlying3 (hval 0 3 v0 rfl rfl) h0
  obtain ⟨a1, rfl, rfl, rfl, w1⟩ := open_int Try.underlying3 (hval 1 3 v1 rfl rfl) h1
  obtain ⟨a2, len2, cap2, rfl⟩ := okWide_slice Try.underlying22 (hval 2 22 v2 rfl rfl)
  have k2 := h2
  have lt2 : ∀ x ∈ p2, x.block < W.heap.size := by obtain ⟨m, hm⟩ := k2; exact DataW.trod_lt m _ _ _ hm
  have w2 : Arg2 W a2 len2 cap2 := opened2 h2
  clear hA0 hval0
  refine (walk a0 a1 a2 len2 cap2 W w0 w1 w2).mono fun e W' ⟨he, bel⟩ => ?_
  subst he
  exact ⟨_, rfl, _, _, _, [], _, [], hW', trodAll_mk1 (shut_bool Try.underlying4 _), (trodAll_cons_mk (shut_int Try.underlying3 w0) (trodAll_cons_mk (shut_int Try.underlying3 w1) (trodAll_cons_mk (Below.trod laidOut (by kernel_rfl) (of_decide_eq_true (by kernel_rfl)) k2 bel lt2) trodAll_mk0))), rfl, bel.frame _, fun h => by cases h⟩

theorem over : Rows.procFreeRow.holds Try.pinned (OpenSpec.ofChange Rows.procFreeSpec) :=
  OpenClaim.holds_of_wide 4 Try.f4 rfl rfl rfl rfl rfl rfl rfl ⟨rfl, rfl, rfl, rfl, rfl⟩ rfl rfl rfl rfl rfl (by kernel_rfl) Try.func4 (by kernel_rfl)
    (of_decide_eq_true (by kernel_rfl)) (by unfold Func.isWrapper; first | (rw [if_pos (by decide +kernel)]; kernel_rfl) | (rw [if_neg (by decide +kernel)]; exact ⟨rfl, rfl⟩))
    (fun os started H enc _ => lifted os started H enc)

theorem proved : Rows.ProcFreeSaid := over
end Go.Proofs.Ytbpcfkniflgmfaa.procFree
