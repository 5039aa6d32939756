/- ProcOnce: for any two numbers and any list of acts the law answers true, and its arguments read afterwards as they did. Conditions: none. -/
import Derived.Test.YtbpcfkniflgmfaaY004
import Derived.Test.YtbpcfkniflgmfaaY020
import Derived.Test.YtbpcfkniflgmfaaYPrdJ
import Derived.Test.YtbpcfkniflgmfaaY010
import Derived.Test.YtbpcfkniflgmfaaY022
import Derived.Deep.RegionHeld3
namespace Go.Proofs.Ytbpcfkniflgmfaa.procOnce
open Go Go.ChangeShapes Go.WideShapes Go.ChangeAt Go.RowKit Go.Maps Go.Proofs.Ytbpcfkniflgmfaa.prc

/-- What lasts behind an act: the state in its box x, how it ended in y, the record of before in z. -/
structure Pz (w1 : World) (P L : Nat) (A : Ab) (K d c m : Nat) (B : Nat → Nat) (O : Nat → ByteArray) (l s v p : Value) (x y z i : Nat) (sq : Int) (bd : ByteArray) (dn fl : Bool) (sl : Int) (V : World) : Prop where
  st : St w1 P L A K d c m B O l s v p x V
  en : Has V y 42 #[.bool dn, .bool fl, .int .i64 sl]
  rc : Has V z 38 #[.int .i64 i, .int .i64 sq, .string bd]
section
variable {w1 V V' : World} {P L K d c m x y z i : Nat} {A : Ab} {B : Nat → Nat} {O : Nat → ByteArray} {l s v p : Value} {sq sl : Int} {bd : ByteArray} {dn fl : Bool}
theorem Pz.below (h : Pz w1 P L A K d c m B O l s v p x y z i sq bd dn fl sl V) (hb : Below V.heap.size V V') : Pz w1 P L A K d c m B O l s v p x y z i sq bd dn fl sl V' := ⟨h.st.below hb, h.en.below hb h.en.lt, h.rc.below hb h.rc.lt⟩
theorem Pz.drew (h : Pz w1 P L A K d c m B O l s v p x y z i sq bd dn fl sl V) : Pz w1 P L A K d c m B O l s v p x y z i sq bd dn fl sl V.drew := ⟨h.st.drew, h.en.drew, h.rc.drew⟩
end

set_option maxRecDepth 100000 in
set_option maxHeartbeats 16000000 in
theorem once_any (n k0 : Int) (a1 : Option Addr) (len1 cap1 : Nat) (T1 : Nat → Ak) (w : World) (h1 : ArgK w a1 len1 T1) :
    Calls Try.prog 3 #[.int .i64 n, .int .i64 k0, .slice a1 len1 cap1] w fun en w' => en = .returned (.bool true) ∧ Below w.heap.size w w' := by
  have hl1 : len1 ≤ 9223372036854775807 := by have := h1.1; unfold maxLen at this; omega
  have A1 := Lib.hid h1
  clear h1
  go_enter Try.func3, Try.ntmps3
  go_wp2_with fail
  refine (awake_calls w).mono ?_
  rintro en w1 ⟨rfl, b1⟩
  have B1 := Lib.hid b1
  clear b1
  go_wp2_with fail
  refine (lbegin_calls n k0 w1).mono ?_
  rintro en w2 ⟨P, L, d, c, m, B, l, s, v, p, hP0, hP, hL, rfl, hsd, b2⟩
  obtain ⟨gl, ol, cl, rfl⟩ := hsd.tl (by omega)
  obtain ⟨gs0, os0, cs0, rfl⟩ := hsd.dw.ts
  obtain ⟨gv0, ov0, cv0, rfl⟩ := hsd.dw.tw
  obtain ⟨gp0, op0, cp0, rfl⟩ := hsd.dw.tp
  have hPi : (P : Int) ≤ 5 := by omega
  have hLi : (L : Int) ≤ 20 := by omega
  have g2 : ¬ (P : Int) = 0 := by omega
  have g3 : ((P : Int) == 0) = false := by simpa using g2
  have g4 : ¬ P = 0 := by omega
  have HP := Lib.hid (And.intro hP0 (And.intro hP hL))
  have S2 := Lib.hid (And.intro hsd b2)
  clear hP0 hP hL hsd b2
  go_wp2_with fail
  go_name_world W hW
  have S0 : Hid (St w1 P L ab0 0 d c m B noO (.slice (some ⟨gl, ol, none⟩) P cl) (.slice (some ⟨gs0, os0, none⟩) L cs0) (.slice (some ⟨gv0, ov0, none⟩) P cv0) (.slice (some ⟨gp0, op0, none⟩) P cp0) w2.heap.size W) := by
    rw [← hW]
    exact Lib.hid ⟨S2.out.1.alloc _, Has.made _ _ _, S2.out.2.size⟩
  clear hW S2
  generalize w2.heap.size = x at *
  go_loopw [8] (fun i wr => ∃ (k : Nat) (A : Ab) (O : Nat → ByteArray) (gs os cs gv ov cv gp op cp : Nat), i = .int .i64 k ∧ k ≤ 150 ∧ k ≤ len1 ∧ Hid (St w1 P L A k d c m B O (.slice (some ⟨gl, ol, none⟩) P cl) (.slice (some ⟨gs, os, none⟩) L cs) (.slice (some ⟨gv, ov, none⟩) P cv) (.slice (some ⟨gp, op, none⟩) P cp) x wr)) (fun i _ => 150 - (prc.intOf i).toNat)
  case atStart => exact ⟨0, _, _, _, _, _, _, _, _, _, _, _, rfl, by omega, Nat.zero_le _, S0⟩
  case round =>
    clear S0
    obtain ⟨k, A, O, gs, os, cs, gv, ov, cv, gp, op, cp, rfl, hk150, hkl, HS⟩ := hrel
    by_cases hk : k < len1 ∧ k < 150
    · obtain ⟨hk1, hk2⟩ := hk
      have hk1' : (k : Int) < (len1 : Int) := by omega
      have hk2' : (k : Int) < 150 := by omega
      have hk0' : (0 : Int) ≤ (k : Int) := by omega
      obtain ⟨b, o, rfl, hb, hf, c0, c1, c2⟩ := actk_at A1.out (turn_all HS.out B1.out) hk1
      have hbw : b < wr.heap.size := by have := (turn_all HS.out B1.out).size; omega
      obtain ⟨a, ha⟩ : ∃ a, a = T1 k := ⟨_, rfl⟩
      rw [← ha] at hf c0 c1 c2
      obtain ⟨kind, who, body⟩ := a
      dsimp only at c0 c1 c2
      have HF := Lib.hid (And.intro hf ha)
      obtain ⟨i, hi, hiP⟩ := someP who HP.out.1
      obtain ⟨A2, e, hAe⟩ : ∃ A2 e, doAb P L A kind i body = (A2, e) := ⟨_, _, rfl⟩
      obtain ⟨dn, fl, sl0⟩ := e
      obtain ⟨DD, hI⟩ := HS.out.sd.good.inv
      have hEnd : dn = true → Ended P L A A2 ⟨dn, fl, sl0⟩ i := fun h => by
        have := doAb_ended (kind := kind) (i := i) (body := body) hI
        rw [hAe] at this
        exact this h
      have HEnd := Lib.hid hEnd
      have HFIT := Lib.hid (HS.out.sd.good.fit.mine i hiP)
      obtain ⟨gp', op', cp', e2, hg2, q0, q1, q2, q3, q4, q5⟩ := HS.out.sd.dw.proc hiP
      obtain ⟨rfl, rfl⟩ : gp = gp' ∧ op = op' := by injection e2 with e1 e2 e3; injection e1 with e1; injection e1 with e1 e4; exact ⟨e1, e4⟩
      obtain ⟨sl, hsl⟩ : ∃ sl : Int, sl = sl0 := ⟨_, rfl⟩
      have HD : ∀ V, Hid (St w1 P L A k d c m B O (.slice (some ⟨gl, ol, none⟩) P cl) (.slice (some ⟨gs, os, none⟩) L cs) (.slice (some ⟨gv, ov, none⟩) P cv) (.slice (some ⟨gp, op, none⟩) P cp) x V → Calls Try.prog 9 #[.agg (stC P L d (.slice (some ⟨gl, ol, none⟩) P cl) (.slice (some ⟨gs, os, none⟩) L cs) (.slice (some ⟨gv, ov, none⟩) P cv) (.slice (some ⟨gp, op, none⟩) P cp)), .agg #[.int .i64 kind, .int .i64 who, .string body]] V (DoPostI w1 V P L (k + 1) d c m A2 B (.slice (some ⟨gl, ol, none⟩) P cl) dn fl sl)) := fun V => Lib.hid (fun h => by
        have := h.sd.does HP.out.1 HP.out.2.1 HP.out.2.2 (by omega) kind who body hf.2.2 i hi hiP
        rw [hAe] at this
        rw [hsl]
        exact this.mono fun _ _ h => DoPost.int h)
      obtain ⟨nx, hnx⟩ : ∃ nx : Int, nx = (A.X i).next := ⟨_, rfl⟩
      obtain ⟨rd, hrd⟩ : ∃ rd, (nx == 5) = rd := ⟨_, rfl⟩
      obtain ⟨sq, hsq⟩ : ∃ sq : Int, sq = (A.X i).seq := ⟨_, rfl⟩
      obtain ⟨bd, hbd⟩ : ∃ bd, bd = (A.X i).body := ⟨_, rfl⟩
      rw [← hnx] at q0
      rw [← hsq] at q3
      rw [← hbd] at q4
      have HRD : Hid (rd = true ↔ (A.X i).next = 5) := Lib.hid (by rw [← hrd, hnx, beq_iff_eq]; omega)
      have HM : Hid (sq = (A.X i).seq ∧ bd = (A.X i).body ∧ sl = sl0 ∧ i < P) := Lib.hid ⟨hsq, hbd, hsl, hiP⟩
      have a0 := mask255 who
      generalize who % 256 = n2 at *
      have a1 : n2.tmod (P : Int) = (i : Int) := hi.symm
      have i0 : (0 : Int) ≤ (i : Int) := by omega
      have i1 : (i : Int) < (P : Int) := by omega
      have x0 := HS.out.bx.cell 0
      have x6 := HS.out.bx.cell 6
      clear hb hf ha hi hiP hk150 hkl hAe hEnd hI e2 hnx hsq hbd hsl q1 q5
      go_wp2_with fail
      go_region
      go_wp2_with fail
      go_name_world W9 h9
      have S9 : Hid (St w1 P L A k d c m B O (.slice (some ⟨gl, ol, none⟩) P cl) (.slice (some ⟨gs, os, none⟩) L cs) (.slice (some ⟨gv, ov, none⟩) P cv) (.slice (some ⟨gp, op, none⟩) P cp) x W9 ∧ Has W9 wr.heap.size 38 #[.int .i64 i, .int .i64 sq, .string bd]) := by
        rw [← h9]
        exact Lib.hid ⟨HS.out.drew.alloc _, Has.made _ _ _⟩
      obtain ⟨z, hz⟩ : ∃ z, z = wr.heap.size := ⟨_, rfl⟩
      rw [← hz] at S9 ⊢
      obtain ⟨b', o', e', -, -, c0, c1, c2⟩ := actk_at A1.out (turn_all S9.out.1 B1.out) hk1
      rw [← HF.out.2] at c0 c1 c2
      obtain ⟨rfl, rfl⟩ : b = b' ∧ o = o' := by injection e' with e1; injection e1 with e1 e4; exact ⟨e1, e4⟩
      clear h9 hz x0 x6 e' HS q0 q2 q3 q4 hg2 hbw
      have x0 := S9.out.1.bx.cell 0
      have x1 := S9.out.1.bx.cell 1
      have x2 := S9.out.1.bx.cell 2
      have x3 := S9.out.1.bx.cell 3
      have x4 := S9.out.1.bx.cell 4
      have x5 := S9.out.1.bx.cell 5
      have x6 := S9.out.1.bx.cell 6
      have hx9 : x < W9.heap.size := S9.out.1.bx.lt
      have hb9 : b < W9.heap.size := by have := (turn_all S9.out.1 B1.out).size; have := (A1.out.2 k hk1); obtain ⟨b2, o2, e2, hb2, -⟩ := this; injection e2 with e2; injection e2 with e2; omega
      have hz9 : z < W9.heap.size := S9.out.2.lt
      have s9 : Rz b o k kind who body x (stC P L d (.slice (some ⟨gl, ol, none⟩) P cl) (.slice (some ⟨gs, os, none⟩) L cs) (.slice (some ⟨gv, ov, none⟩) P cv) (.slice (some ⟨gp, op, none⟩) P cp)) W9 := ⟨S9.out.1.bx, c0, c1, c2, hb9⟩
      have HD2 : ∀ V, Hid (St w1 P L A k d c m B O (.slice (some ⟨gl, ol, none⟩) P cl) (.slice (some ⟨gs, os, none⟩) L cs) (.slice (some ⟨gv, ov, none⟩) P cv) (.slice (some ⟨gp, op, none⟩) P cp) x V → Has V z 38 #[.int .i64 i, .int .i64 sq, .string bd] → Calls Try.prog 9 #[.agg (stC P L d (.slice (some ⟨gl, ol, none⟩) P cl) (.slice (some ⟨gs, os, none⟩) L cs) (.slice (some ⟨gv, ov, none⟩) P cv) (.slice (some ⟨gp, op, none⟩) P cp)), .agg #[.int .i64 kind, .int .i64 who, .string body]] V (DoZ w1 V P L (k + 1) d c m A2 B (.slice (some ⟨gl, ol, none⟩) P cl) dn fl sl x z (stC P L d (.slice (some ⟨gl, ol, none⟩) P cl) (.slice (some ⟨gs, os, none⟩) L cs) (.slice (some ⟨gv, ov, none⟩) P cv) (.slice (some ⟨gp, op, none⟩) P cp)) #[.int .i64 i, .int .i64 sq, .string bd])) := fun V => Lib.hid (fun h1 h2 => ((HD V).out h1).mono fun _ _ h => h1.didZ h2 h)
      clear HD
      have T9 := Lib.hid (turn_all S9.out.1 B1.out)
      have HLO : Hid (w1.heap.size ≤ x ∧ w1.heap.size ≤ W9.heap.size) := Lib.hid ⟨S9.out.1.lo, S9.out.1.sd.sys.turn.size⟩
      clear c0 c1 c2 x0 x1 x2 x3 x4 x5 x6
      obtain ⟨-, x0, x1, x2, x3, x4, x5, x6, c0, c1, c2, hb9', hx9'⟩ := s9.all
      obtain ⟨QQ, hQQ⟩ : ∃ QQ : Act → World → Prop, QQ = fun a' w' => ∃ (O4 : Nat → ByteArray) (gs4 os4 cs4 gv4 ov4 cv4 gp4 op4 cp4 q y : Nat), a' = { tmps := #[.int .i64 n, .int .i64 k0, .slice (some ⟨b, o, none⟩) len1 cap1, undef, undef, undef, u6, .pointer (some ⟨x, 0, none⟩), .int .i64 k, .int .i64 i, .bool rd, .pointer (some ⟨z, 0, none⟩), .pointer (some ⟨q, 0, none⟩), .pointer (some ⟨y, 0, none⟩), .bool true, .bool true, .bool false, .int .i64 n, .int .i64 k0, .agg (stC P L d (.slice (some ⟨gl, ol, none⟩) P cl) (.slice (some ⟨gs0, os0, none⟩) L cs0) (.slice (some ⟨gv0, ov0, none⟩) P cv0) (.slice (some ⟨gp0, op0, none⟩) P cp0)), .int .i64 k, .slice (some ⟨b, o, none⟩) len1 cap1, .int .i64 len1, .bool true, .bool true, .int .i64 k, .bool true, .bool true, u28, u29, .slice (some ⟨b, o, none⟩) len1 cap1, .int .i64 k, .pointer (some ⟨b, o + k * 3, none⟩), .pointer (some ⟨b, o + k * 3 + 1, none⟩), .int .i64 who, .int .i64 n2, .pointer (some ⟨x, 0, none⟩), .pointer (some ⟨x, 0, none⟩), .int .i64 P, .int .i64 i, .pointer (some ⟨x, 4, none⟩), .pointer (some ⟨x, 6, none⟩), .slice (some ⟨gp, op, none⟩) P cp, .int .i64 i, .pointer (some ⟨gp, op + i * 6, none⟩), .pointer (some ⟨gp, op + i * 6, none⟩), .int .i64 nx, .bool rd, .pointer (some ⟨x, 4, none⟩), .pointer (some ⟨x, 6, none⟩), .slice (some ⟨gp, op, none⟩) P cp, .int .i64 i, .pointer (some ⟨gp, op + i * 6, none⟩), .pointer (some ⟨gp, op + i * 6 + 2, none⟩), .agg #[.int .i64 i, .int .i64 sq, .string bd], .tuple #[.agg (stC P L d (.slice (some ⟨gl, ol, none⟩) P cl) (.slice (some ⟨gs4, os4, none⟩) L cs4) (.slice (some ⟨gv4, ov4, none⟩) P cv4) (.slice (some ⟨gp4, op4, none⟩) P cp4)), .agg #[.bool dn, .bool fl, .int .i64 sl], .bool true], .agg #[.int .i64 P, .int .i64 L, .pointer (some ⟨d, 0, none⟩), .slice (some ⟨gl, ol, none⟩) P cl, .slice (some ⟨gs, os, none⟩) L cs, .slice (some ⟨gv, ov, none⟩) P cv, .slice (some ⟨gp, op, none⟩) P cp], .slice (some ⟨b, o, none⟩) len1 cap1, .int .i64 k, .pointer (some ⟨b, o + k * 3, none⟩), .agg #[.int .i64 kind, .int .i64 who, .string body], .tuple #[.agg (stC P L d (.slice (some ⟨gl, ol, none⟩) P cl) (.slice (some ⟨gs4, os4, none⟩) L cs4) (.slice (some ⟨gv4, ov4, none⟩) P cv4) (.slice (some ⟨gp4, op4, none⟩) P cp4)), .agg #[.bool dn, .bool fl, .int .i64 sl], .bool true], .agg (stC P L d (.slice (some ⟨gl, ol, none⟩) P cl) (.slice (some ⟨gs4, os4, none⟩) L cs4) (.slice (some ⟨gv4, ov4, none⟩) P cv4) (.slice (some ⟨gp4, op4, none⟩) P cp4)), .agg #[.bool dn, .bool fl, .int .i64 sl], .bool true, u65, u66, u67, u68, u69, u70, u71, u72, u73, u74, u75, u76, u77, u78, u79, u80, u81, u82, u83, u84, u85, u86, u87, u88, u89, u90, u91, u92, u93, u94, u95, u96, u97, u98, u99, u100, u101, u102, u103, u104, u105, u106, u107, u108, u109, u110, u111, u112, u113, u114, u115, u116, u117, u118, u119, u120, u121, u122, u123, u124, u125, u126, u127, u128, u129, u130, u131, u132, u133, u134, u135, u136, u137, u138, u139, u140, u141, u142, u143], defers := [] } ∧ Hid (Pq w1 P L A2 (k + 1) d c m B O4 (.slice (some ⟨gl, ol, none⟩) P cl) (.slice (some ⟨gs4, os4, none⟩) L cs4) (.slice (some ⟨gv4, ov4, none⟩) P cv4) (.slice (some ⟨gp4, op4, none⟩) P cp4) (.slice (some ⟨gl, ol, none⟩) P cl) (.slice (some ⟨gs, os, none⟩) L cs) (.slice (some ⟨gv, ov, none⟩) P cv) (.slice (some ⟨gp, op, none⟩) P cp) x q y dn fl sl w' ∧ Has w' z 38 #[.int .i64 i, .int .i64 sq, .string bd]) := ⟨_, rfl⟩
      have HQQ := Lib.hid hQQ
      clear hQQ
      refine Code.wp_mono (Q := Exit.then QQ (fun _ _ _ => False)) ?_ ?_
      rotate_left
      · go_region_held3 (fun V => Rz b o k kind who body x (stC P L d (.slice (some ⟨gl, ol, none⟩) P cl) (.slice (some ⟨gs, os, none⟩) L cs) (.slice (some ⟨gv, ov, none⟩) P cv) (.slice (some ⟨gp, op, none⟩) P cp)) V ∧ V.cell? ⟨x, 0, none⟩ = some (.int .i64 P) ∧ V.cell? ⟨x, 1, none⟩ = some (.int .i64 L) ∧ V.cell? ⟨x, 2, none⟩ = some (.pointer (some ⟨d, 0, none⟩)) ∧ V.cell? ⟨x, 3, none⟩ = some (.slice (some ⟨gl, ol, none⟩) P cl) ∧ V.cell? ⟨x, 4, none⟩ = some (.slice (some ⟨gs, os, none⟩) L cs) ∧ V.cell? ⟨x, 5, none⟩ = some (.slice (some ⟨gv, ov, none⟩) P cv) ∧ V.cell? ⟨x, 6, none⟩ = some (.slice (some ⟨gp, op, none⟩) P cp) ∧ V.cell? ⟨b, o + k * 3, none⟩ = some (.int .i64 kind) ∧ V.cell? ⟨b, o + k * 3 + 1, none⟩ = some (.int .i64 who) ∧ V.cell? ⟨b, o + k * 3 + 2, none⟩ = some (.string body) ∧ b < V.heap.size ∧ x < V.heap.size)
          ((go_split_ands; exact Rz.all (by repeat (first | with_reducible assumption | with_reducible refine Rz.drew ?_ | with_reducible refine Rz.alloc ?_ _ | with_reducible refine Rz.far ?_ (by first | omega | (simp; omega)) (by first | omega | (simp; omega)) _ _))))
          (first
            | (go_at_call 9
               refine ((HD2 _).out (by repeat (first | with_reducible exact S9.out.1 | with_reducible refine St.drew ?_ | with_reducible refine St.alloc ?_ _)) (by repeat (first | with_reducible exact S9.out.2 | with_reducible refine Has.drew ?_ | with_reducible refine Has.alloc ?_ _))).mono ?_
               rintro en w4 ⟨O4, s4, v4, p4, rfl, hsd4, hx4, hz4, hfr⟩
               obtain ⟨gs4, os4, cs4, rfl⟩ := hsd4.dw.ts
               obtain ⟨gv4, ov4, cv4, rfl⟩ := hsd4.dw.tw
               obtain ⟨gp4, op4, cp4, rfl⟩ := hsd4.dw.tp
               have S4 := Lib.hid (And.intro hsd4 (And.intro hx4 hz4))
               obtain ⟨b2, o2, e2, hb2, -, d0, d1, d2⟩ := actk_at A1.out ((Turn.of_below B1.out (F := fun j => w.heap.size ≤ j) (fun _ _ e => e)).trans hsd4.sys.turn (fun _ _ e => Nat.le_trans B1.out.size e)) hk1
               obtain ⟨rfl, rfl⟩ : b = b2 ∧ o = o2 := by injection e2 with e1; injection e1 with e1 e4; exact ⟨e1, e4⟩
               rw [← HF.out.2] at d0 d1 d2
               have s4 : Rz b o k kind who body x (stC P L d (.slice (some ⟨gl, ol, none⟩) P cl) (.slice (some ⟨gs, os, none⟩) L cs) (.slice (some ⟨gv, ov, none⟩) P cv) (.slice (some ⟨gp, op, none⟩) P cp)) w4 := ⟨hx4, d0, d1, d2, by have := hsd4.sys.turn.size; have := B1.out.size; omega⟩
               obtain ⟨-, y0, y1, y2, y3, y4, y5, y6, d0, d1, d2, l4, l5⟩ := s4.all
               have fx0 := hx4.free 0
               have fx1 := hx4.free 1
               have fx2 := hx4.free 2
               have fx3 := hx4.free 3
               have fx4 := hx4.free 4
               have fx5 := hx4.free 5
               have fx6 := hx4.free 6
               try have MA := Lib.hid (hfr _ _ _ (Has.made _ 33 stZ).drew (by decide) (by decide) (by decide))
               try have MA := Lib.hid (hfr _ _ _ ((Has.made _ 33 stZ).alloc _).drew (by decide) (by decide) (by decide))
               try have MA := Lib.hid (hfr _ _ _ (Has.made1 _ _ 33 stZ).drew (by decide) (by decide) (by decide))
               try have ME := Lib.hid (hfr _ _ _ (Has.made _ 42 #[.bool false, .bool false, .int .i64 0]).drew (by decide) (by decide) (by decide))
               try have ME := Lib.hid (hfr _ _ _ ((Has.made _ 42 #[.bool false, .bool false, .int .i64 0]).alloc _).drew (by decide) (by decide) (by decide))
               try have ME := Lib.hid (hfr _ _ _ (Has.made1 _ _ 42 #[.bool false, .bool false, .int .i64 0]).drew (by decide) (by decide) (by decide))
               try (have q0 := MA.out.cell 0; have qf0 := MA.out.free 0; have q1 := MA.out.cell 1; have qf1 := MA.out.free 1; have q2 := MA.out.cell 2; have qf2 := MA.out.free 2; have q3 := MA.out.cell 3; have qf3 := MA.out.free 3; have q4 := MA.out.cell 4; have qf4 := MA.out.free 4; have q5 := MA.out.cell 5; have qf5 := MA.out.free 5; have q6 := MA.out.cell 6; have qf6 := MA.out.free 6; have ql := MA.out.lt)
               try (have r0 := ME.out.cell 0; have rf0 := ME.out.free 0; have r1 := ME.out.cell 1; have rf1 := ME.out.free 1; have r2 := ME.out.cell 2; have rf2 := ME.out.free 2; have rl := ME.out.lt)
               clear hsd4 hx4 hz4 hfr hb2))
        · show QQ _ _
          rw [HQQ.out]
          refine ⟨O4, gs4, os4, cs4, gv4, ov4, cv4, gp4, op4, cp4, _, _, rfl, Lib.hid ?_⟩
          have hb := bft1 (dn := dn) (fl := fl) (sl := sl) S4.out.1 S4.out.2.1 HLO.out.1
          have hr := hb.2 _ _ _ S4.out.2.2 (by decide) (by decide)
          with_reducible exact ⟨hb.1, hr⟩
        · show QQ _ _
          rw [HQQ.out]
          refine ⟨O4, gs4, os4, cs4, gv4, ov4, cv4, gp4, op4, cp4, _, _, rfl, Lib.hid ?_⟩
          have hb := bft2 (dn := dn) (fl := fl) (sl := sl) S4.out.1 S4.out.2.1 HLO.out.1
          have hr := hb.2 _ _ _ S4.out.2.2 (by decide) (by decide)
          with_reducible exact ⟨hb.1, hr⟩
        · show QQ _ _
          rw [HQQ.out]
          refine ⟨O4, gs4, os4, cs4, gv4, ov4, cv4, gp4, op4, cp4, _, _, rfl, Lib.hid ?_⟩
          have hb := bft3 (dn := dn) (fl := fl) (sl := sl) S4.out.1 S4.out.2.1 HLO.out.1 MA.out HLO.out.2 (by omega)
          have hr := hb.2 _ _ _ S4.out.2.2 (by decide) (by decide)
          with_reducible exact ⟨hb.1, hr⟩
        · show QQ _ _
          rw [HQQ.out]
          refine ⟨O4, gs4, os4, cs4, gv4, ov4, cv4, gp4, op4, cp4, _, _, rfl, Lib.hid ?_⟩
          have hb := bft4 (dn := dn) (fl := fl) (sl := sl) S4.out.1 S4.out.2.1 HLO.out.1 MA.out HLO.out.2 (by omega) ME.out (by have := HLO.out.2; omega)
          have hr := hb.2 _ _ _ S4.out.2.2 (by decide) (by decide)
          with_reducible exact ⟨hb.1, hr⟩
        · show QQ _ _
          rw [HQQ.out]
          refine ⟨O4, gs4, os4, cs4, gv4, ov4, cv4, gp4, op4, cp4, _, _, rfl, Lib.hid ?_⟩
          have hb := bft5 (dn := dn) (fl := fl) (sl := sl) S4.out.1 S4.out.2.1 HLO.out.1 ME.out HLO.out.2
          have hr := hb.2 _ _ _ S4.out.2.2 (by decide) (by decide)
          with_reducible exact ⟨hb.1, hr⟩
        · show QQ _ _
          rw [HQQ.out]
          refine ⟨O4, gs4, os4, cs4, gv4, ov4, cv4, gp4, op4, cp4, _, _, rfl, Lib.hid ?_⟩
          have hb := bft4 (dn := dn) (fl := fl) (sl := sl) S4.out.1 S4.out.2.1 HLO.out.1 MA.out (by have := HLO.out.2; omega) (by omega) ME.out HLO.out.2
          have hr := hb.2 _ _ _ S4.out.2.2 (by decide) (by decide)
          with_reducible exact ⟨hb.1, hr⟩
      · intro ex a' w5 h
        cases ex
        case normal =>
          have h2 : QQ a' w5 := h
          rw [HQQ.out] at h2
          clear h HQQ
          obtain ⟨O4, gs4, os4, cs4, gv4, ov4, cv4, gp4, op4, cp4, q, y, rfl, HB⟩ := h2
          clear HD2 T9 s9 x0 x1 x2 x3 x4 x5 x6 c0 c1 c2 hb9 hb9' hx9 hx9' hz9 S9 HLO
          have xx0 : w5.cell? ⟨x, 0, none⟩ = some (.int .i64 P) := HB.out.1.bx.cell 0
          have xx1 : w5.cell? ⟨x, 1, none⟩ = some (.int .i64 L) := HB.out.1.bx.cell 1
          have xx2 : w5.cell? ⟨x, 2, none⟩ = some (.pointer (some ⟨d, 0, none⟩)) := HB.out.1.bx.cell 2
          have xx3 : w5.cell? ⟨x, 3, none⟩ = some (.slice (some ⟨gl, ol, none⟩) P cl) := HB.out.1.bx.cell 3
          have xx4 : w5.cell? ⟨x, 4, none⟩ = some (.slice (some ⟨gs, os, none⟩) L cs) := HB.out.1.bx.cell 4
          have xx5 : w5.cell? ⟨x, 5, none⟩ = some (.slice (some ⟨gv, ov, none⟩) P cv) := HB.out.1.bx.cell 5
          have xx6 : w5.cell? ⟨x, 6, none⟩ = some (.slice (some ⟨gp, op, none⟩) P cp) := HB.out.1.bx.cell 6
          have q0 : w5.cell? ⟨q, 0, none⟩ = some (.int .i64 P) := HB.out.1.bq.cell 0
          have fx0 := HB.out.1.bx.free 0
          have q1 : w5.cell? ⟨q, 1, none⟩ = some (.int .i64 L) := HB.out.1.bq.cell 1
          have fx1 := HB.out.1.bx.free 1
          have q2 : w5.cell? ⟨q, 2, none⟩ = some (.pointer (some ⟨d, 0, none⟩)) := HB.out.1.bq.cell 2
          have fx2 := HB.out.1.bx.free 2
          have q3 : w5.cell? ⟨q, 3, none⟩ = some (.slice (some ⟨gl, ol, none⟩) P cl) := HB.out.1.bq.cell 3
          have fx3 := HB.out.1.bx.free 3
          have q4 : w5.cell? ⟨q, 4, none⟩ = some (.slice (some ⟨gs4, os4, none⟩) L cs4) := HB.out.1.bq.cell 4
          have fx4 := HB.out.1.bx.free 4
          have q5 : w5.cell? ⟨q, 5, none⟩ = some (.slice (some ⟨gv4, ov4, none⟩) P cv4) := HB.out.1.bq.cell 5
          have fx5 := HB.out.1.bx.free 5
          have q6 : w5.cell? ⟨q, 6, none⟩ = some (.slice (some ⟨gp4, op4, none⟩) P cp4) := HB.out.1.bq.cell 6
          have fx6 := HB.out.1.bx.free 6
          have hx5 : x < w5.heap.size := HB.out.1.bx.lt
          go_wp2_with fail
          refine calls_name (fun V6 h6 => ?_)
          have HA : Hid (Py w1 P L A2 (k + 1) d c m B O4 (.slice (some ⟨gl, ol, none⟩) P cl) (.slice (some ⟨gs4, os4, none⟩) L cs4) (.slice (some ⟨gv4, ov4, none⟩) P cv4) (.slice (some ⟨gp4, op4, none⟩) P cp4) x y dn fl sl V6 ∧ Has V6 z 38 #[.int .i64 i, .int .i64 sq, .string bd]) := by
            rw [← h6]
            have hb := HB.out.1.copied
            have hr := hb.2 _ _ _ HB.out.2 (by decide) (by decide)
            with_reducible exact Lib.hid ⟨hb.1, hr⟩
          clear h6 HB xx0 xx1 xx2 xx3 xx4 xx5 xx6 q0 q1 q2 q3 q4 q5 q6 fx0 fx1 fx2 fx3 fx4 fx5 fx6 hx5
          refine (HA.out.1.st.sd.sys.once HA.out.1.st.sd.good HP.out.2.1 HP.out.2.2 gl ol P cl gs4 os4 L cs4 gv4 ov4 P cv4 gp4 op4 P cp4).mono ?_
          rintro en w6 ⟨rfl, b6⟩
          have HB := Lib.hid (And.intro (HA.out.1.below b6) (HA.out.2.below b6 HA.out.2.lt))
          clear b6 HA
          have y0 : w6.cell? ⟨y, 0, none⟩ = some (.bool dn) := HB.out.1.en.cell 0
          have y1 : w6.cell? ⟨y, 1, none⟩ = some (.bool fl) := HB.out.1.en.cell 1
          have y2 : w6.cell? ⟨y, 2, none⟩ = some (.int .i64 sl) := HB.out.1.en.cell 2
          have x0 : w6.cell? ⟨x, 0, none⟩ = some (.int .i64 P) := HB.out.1.st.bx.cell 0
          have x1 : w6.cell? ⟨x, 1, none⟩ = some (.int .i64 L) := HB.out.1.st.bx.cell 1
          have x2 : w6.cell? ⟨x, 2, none⟩ = some (.pointer (some ⟨d, 0, none⟩)) := HB.out.1.st.bx.cell 2
          cases dn
          · go_wp2_with fail
            refine ⟨⟨k + 1, _, _, _, _, _, _, _, _, _, _, _, by rw [Int.natCast_add]; rfl, by omega, by omega, Lib.hid HB.out.1.st⟩, ?_⟩
            show 150 - ((k : Int) + 1).toNat < 150 - ((k : Int)).toNat
            omega
          · have hE := HEnd.out rfl
            cases rd
            · have hn5 : (A.X i).next ≠ 5 := fun e => by have := HRD.out.2 e; cases this
              cases fl
              · obtain ⟨m1, m2⟩ := hE.mine hn5 rfl
                have m1' : sl0 < L := m1
                have m2' : A2.S sl0 = some (prc.mine A i) := m2
                obtain ⟨q, hq⟩ : ∃ q, q = P + sl0 := ⟨_, rfl⟩
                obtain ⟨t, ht⟩ : ∃ t, t = tx (prc.mine A i) := ⟨_, rfl⟩
                have HQ : Hid ((q : Int) = (P : Int) + sl ∧ sl = (sl0 : Int) ∧ sl0 < L) := Lib.hid ⟨by rw [HM.out.2.2.1]; omega, HM.out.2.2.1, m1'⟩
                have HT : Hid (cellT P A2 q = t) := Lib.hid (by rw [hq, cellT_slot, m2', ht]; rfl)
                have HN : Hid (q < P + L) := Lib.hid (by omega)
                have HTT : ∀ V, Hid (Calls Try.prog 13 #[.agg #[.int .i64 i, .int .i64 sq, .string bd]] V fun en w' => en = .returned (.string t) ∧ Below V.heap.size V w') := fun V => Lib.hid (by
                  rw [ht, HM.out.1, HM.out.2.1]
                  exact text_calls (prc.mine A i) V HFIT.out)
                have hs0 := HQ.out
                have HC : ∀ V, Hid (Calls Try.prog 12 #[.agg #[.int .i64 P, .int .i64 L], .int .i64 sl] V fun en w' => en = .returned (.int .i64 q) ∧ Below V.heap.size V w') := fun V => Lib.hid (by
                  have e : (q : Int) = (P : Int) + (sl : Int) := hs0.1
                  rw [e]
                  exact slotP_calls P L sl V (by omega) (by have := HP.out; omega) (by omega) (by have := HP.out; omega))
                have et : (t.toList == t.toList) = true := beq_self_eq_true _
                clear hE m1 m2 m1' m2' hq ht hs0 hn5
                go_wp2_with fail
                refine wp_region_S (S := fun V1 => Py w1 P L A2 (k + 1) d c m B O4 (.slice (some ⟨gl, ol, none⟩) P cl) (.slice (some ⟨gs4, os4, none⟩) L cs4) (.slice (some ⟨gv4, ov4, none⟩) P cv4) (.slice (some ⟨gp4, op4, none⟩) P cp4) x y true false sl V1 ∧ Has V1 z 38 #[.int .i64 i, .int .i64 sq, .string bd]) (by kernel_rfl) (by exact ⟨HB.out.1.drew, HB.out.2.drew⟩) ?_
                refine AnyS.pure 0 (some 133) (v := .pointer (some ⟨x, 2, none⟩)) rfl rfl (by kernel_rfl) (by kernel_rfl) (by kernel_rfl) (fun _ _ _ h => h) (by kernel_rfl) (fun V _ => by go_simp) ?_
                refine AnyS.pure 1 (some 134) (v := .pointer (some ⟨d, 0, none⟩)) rfl rfl (by kernel_rfl) (by kernel_rfl) (by kernel_rfl) (fun _ _ _ h => h) (by kernel_rfl) (fun V hV => by have c0 := hV.1.st.bx.cell 0; have c1 := hV.1.st.bx.cell 1; have c2 := hV.1.st.bx.cell 2; have e1 := hV.1.en.cell 1; have e2 := hV.1.en.cell 2; have z0 := hV.2.cell 0; have z1 := hV.2.cell 1; have z2 := hV.2.cell 2; go_simp) ?_
                refine AnyS.pure 2 (some 135) (v := .pointer (some ⟨x, 0, none⟩)) rfl rfl (by kernel_rfl) (by kernel_rfl) (by kernel_rfl) (fun _ _ _ h => h) (by kernel_rfl) (fun V _ => by go_simp) ?_
                refine AnyS.pure 3 (some 136) (v := .agg #[.int .i64 P, .int .i64 L]) rfl rfl (by kernel_rfl) (by kernel_rfl) (by kernel_rfl) (fun _ _ _ h => h) (by kernel_rfl) (fun V hV => by have c0 := hV.1.st.bx.cell 0; have c1 := hV.1.st.bx.cell 1; have c2 := hV.1.st.bx.cell 2; have e1 := hV.1.en.cell 1; have e2 := hV.1.en.cell 2; have z0 := hV.2.cell 0; have z1 := hV.2.cell 1; have z2 := hV.2.cell 2; go_simp) ?_
                refine AnyS.pure 4 (some 137) (v := .pointer (some ⟨y, 2, none⟩)) rfl rfl (by kernel_rfl) (by kernel_rfl) (by kernel_rfl) (fun _ _ _ h => h) (by kernel_rfl) (fun V _ => by go_simp) ?_
                refine AnyS.pure 5 (some 138) (v := .int .i64 sl) rfl rfl (by kernel_rfl) (by kernel_rfl) (by kernel_rfl) (fun _ _ _ h => h) (by kernel_rfl) (fun V hV => by have c0 := hV.1.st.bx.cell 0; have c1 := hV.1.st.bx.cell 1; have c2 := hV.1.st.bx.cell 2; have e1 := hV.1.en.cell 1; have e2 := hV.1.en.cell 2; have z0 := hV.2.cell 0; have z1 := hV.2.cell 1; have z2 := hV.2.cell 2; go_simp) ?_
                refine AnyS.pure 8 (some 141) (v := .agg #[.int .i64 i, .int .i64 sq, .string bd]) rfl rfl (by kernel_rfl) (by kernel_rfl) (by kernel_rfl) (fun _ _ _ h => h) (by kernel_rfl) (fun V hV => by have c0 := hV.1.st.bx.cell 0; have c1 := hV.1.st.bx.cell 1; have c2 := hV.1.st.bx.cell 2; have e1 := hV.1.en.cell 1; have e2 := hV.1.en.cell 2; have z0 := hV.2.cell 0; have z1 := hV.2.cell 1; have z2 := hV.2.cell 2; go_simp) ?_
                refine AnyS.call 6 (some 139) (.int .i64 q) rfl rfl (by kernel_rfl) (by kernel_rfl) (by kernel_rfl) (fun _ _ _ h => h) (by kernel_rfl) 12 Try.f12 Try.func12 (by kernel_rfl) (by kernel_rfl) _ _ rfl #[.agg #[.int .i64 P, .int .i64 L], .int .i64 sl] (by first | (simp [Act.eval]; done) | (simp [Act.eval, Act.put]; done)) (fun V hV => ((HC V).out).mono (by rintro en v ⟨rfl, bv⟩; exact ⟨rfl, hV.1.below bv, hV.2.below bv hV.2.lt⟩)) ?_
                simp only [Act.put, List.setIfInBounds_toArray, List.set_cons_zero, List.set_cons_succ]
                refine AnyS.call 7 (some 140) (.string t) rfl rfl (by kernel_rfl) (by kernel_rfl) (by kernel_rfl) (fun _ _ _ h => h) (by kernel_rfl) 11 Try.f11 Try.func11 (by kernel_rfl) (by kernel_rfl) _ _ rfl #[.pointer (some ⟨d, 0, none⟩), .int .i64 q] (by first | (simp [Act.eval]; done) | (simp [Act.eval, Act.put]; done)) (fun V hV => (hV.1.st.sd.sys.look q HN.out t HT.out).mono (by rintro en v ⟨rfl, rfl⟩; exact ⟨rfl, hV⟩)) ?_
                simp only [Act.put, List.setIfInBounds_toArray, List.set_cons_zero, List.set_cons_succ]
                refine AnyS.call 9 (some 142) (.string t) rfl rfl (by kernel_rfl) (by kernel_rfl) (by kernel_rfl) (fun _ _ _ h => h) (by kernel_rfl) 13 Try.f13 Try.func13 (by kernel_rfl) (by kernel_rfl) _ _ rfl #[.agg #[.int .i64 i, .int .i64 sq, .string bd]] (by first | (simp [Act.eval]; done) | (simp [Act.eval, Act.put]; done)) (fun V hV => ((HTT V).out).mono (by rintro en v ⟨rfl, bv⟩; exact ⟨rfl, hV.1.below bv, hV.2.below bv hV.2.lt⟩)) ?_
                simp only [Act.put, List.setIfInBounds_toArray, List.set_cons_zero, List.set_cons_succ]
                refine AnyS.pure 10 (some 143) (v := .bool false) rfl rfl (by kernel_rfl) (by kernel_rfl) (by kernel_rfl) (fun _ _ _ h => h) (by kernel_rfl) (fun V _ => by go_simp) ?_
                refine AnyS.pure 11 (some 132) rfl rfl (by kernel_rfl) (by kernel_rfl) (by kernel_rfl) (fun _ _ _ h => h) (by kernel_rfl) (fun _ _ => rfl) ?_
                refine AnyS.done (by kernel_rfl) (fun V2 hV => ?_) _
                have HV := Lib.hid hV.1.st
                clear hV HB y0 y1 y2 x0 x1 x2
                go_wp2_with fail
                refine ⟨⟨k + 1, _, _, _, _, _, _, _, _, _, _, _, by rw [Int.natCast_add]; rfl, by omega, by omega, HV⟩, ?_⟩
                show 150 - ((k : Int) + 1).toNat < 150 - ((k : Int)).toNat
                omega
              · have m1 := hE.full hn5 rfl
                by_cases hL0 : 0 < L
                · have m2 := m1 hL0
                  obtain ⟨rr, hrr⟩ : ∃ rr, A2.S (L - 1) = some rr := by
                    cases h : A2.S (L - 1) with
                    | none => exact absurd h m2
                    | some rr => exact ⟨rr, rfl⟩
                  obtain ⟨q, hq⟩ : ∃ q, q = P + (L - 1) := ⟨_, rfl⟩
                  obtain ⟨j, hj⟩ : ∃ j, j = L - 1 := ⟨_, rfl⟩
                  obtain ⟨t, ht⟩ : ∃ t, t = tx rr := ⟨_, rfl⟩
                  have HT : Hid (cellT P A2 q = t) := Lib.hid (by rw [hq, cellT_slot, hrr, ht]; rfl)
                  have HN : Hid (q < P + L) := Lib.hid (by omega)
                  have HQ : Hid ((q : Int) = (P : Int) + (j : Int) ∧ j < L) := Lib.hid ⟨by omega, by omega⟩
                  have hne := bytes_ne (show t ≠ ⟨#[]⟩ by rw [ht]; exact tx_ne rr)
                  have hne2 : ¬ t.toList = [] := fun e => by
                    rw [e, show (⟨#[]⟩ : ByteArray).toList = [] by rw [ByteArray.toList_eq]] at hne
                    simp at hne
                  have hs0 := HQ.out
                  have HC : ∀ V, Hid (Calls Try.prog 12 #[.agg #[.int .i64 P, .int .i64 L], .int .i64 j] V fun en w' => en = .returned (.int .i64 q) ∧ Below V.heap.size V w') := fun V => Lib.hid (by
                    have e : (q : Int) = (P : Int) + (j : Int) := hs0.1
                    rw [e]
                    exact slotP_calls P L j V (by omega) (by have := HP.out; omega) (by omega) (by have := HP.out; omega))
                  have s1 : (L : Int) > 0 := by omega
                  have s2 : (L : Int) - 1 = (j : Int) := by omega
                  have s3 : (0 : Int) < (L : Int) := by omega
                  have s5 : IntKind.i64.wrap ((L : Int) - 1) = (j : Int) := by rw [s2]; exact IntWalk.i64_in _ ⟨by omega, by omega⟩
                  have s6 : IntKind.i64.wrap (j : Int) = (j : Int) := IntWalk.i64_in _ ⟨by omega, by omega⟩
                  clear hE m1 m2 hq hj ht hs0 hn5 hrr
                  go_wp2_with fail
                  refine wp_region_S (S := fun V1 => Py w1 P L A2 (k + 1) d c m B O4 (.slice (some ⟨gl, ol, none⟩) P cl) (.slice (some ⟨gs4, os4, none⟩) L cs4) (.slice (some ⟨gv4, ov4, none⟩) P cv4) (.slice (some ⟨gp4, op4, none⟩) P cp4) x y true true sl V1 ∧ Has V1 z 38 #[.int .i64 i, .int .i64 sq, .string bd]) (by kernel_rfl) (by exact ⟨HB.out.1.drew, HB.out.2.drew⟩) ?_
                  refine AnyS.pure 0 (some 115) (v := .pointer (some ⟨x, 0, none⟩)) rfl rfl (by kernel_rfl) (by kernel_rfl) (by kernel_rfl) (fun _ _ _ h => h) (by kernel_rfl) (fun V _ => by go_simp) ?_
                  refine AnyS.pure 1 (some 116) (v := .pointer (some ⟨x, 1, none⟩)) rfl rfl (by kernel_rfl) (by kernel_rfl) (by kernel_rfl) (fun _ _ _ h => h) (by kernel_rfl) (fun V _ => by go_simp) ?_
                  refine AnyS.pure 2 (some 117) (v := .int .i64 L) rfl rfl (by kernel_rfl) (by kernel_rfl) (by kernel_rfl) (fun _ _ _ h => h) (by kernel_rfl) (fun V hV => by have c0 := hV.1.st.bx.cell 0; have c1 := hV.1.st.bx.cell 1; have c2 := hV.1.st.bx.cell 2; have e1 := hV.1.en.cell 1; have e2 := hV.1.en.cell 2; have z0 := hV.2.cell 0; have z1 := hV.2.cell 1; have z2 := hV.2.cell 2; go_simp) ?_
                  refine AnyS.pure 3 (some 118) (v := .bool true) rfl rfl (by kernel_rfl) (by kernel_rfl) (by kernel_rfl) (fun _ _ _ h => h) (by kernel_rfl) (fun V _ => by go_simp) ?_
                  refine AnyS.pure 4 (some 119) rfl rfl (by kernel_rfl) (by kernel_rfl) (by kernel_rfl) (fun _ _ _ h => h) (by kernel_rfl) (fun _ _ => rfl) ?_
                  refine AnyS.pure 5 (some 120) (v := .pointer (some ⟨x, 2, none⟩)) rfl rfl (by kernel_rfl) (by kernel_rfl) (by kernel_rfl) (fun _ _ _ h => h) (by kernel_rfl) (fun V _ => by go_simp) ?_
                  refine AnyS.pure 6 (some 121) (v := .pointer (some ⟨d, 0, none⟩)) rfl rfl (by kernel_rfl) (by kernel_rfl) (by kernel_rfl) (fun _ _ _ h => h) (by kernel_rfl) (fun V hV => by have c0 := hV.1.st.bx.cell 0; have c1 := hV.1.st.bx.cell 1; have c2 := hV.1.st.bx.cell 2; have e1 := hV.1.en.cell 1; have e2 := hV.1.en.cell 2; have z0 := hV.2.cell 0; have z1 := hV.2.cell 1; have z2 := hV.2.cell 2; go_simp) ?_
                  refine AnyS.pure 7 (some 122) (v := .pointer (some ⟨x, 0, none⟩)) rfl rfl (by kernel_rfl) (by kernel_rfl) (by kernel_rfl) (fun _ _ _ h => h) (by kernel_rfl) (fun V _ => by go_simp) ?_
                  refine AnyS.pure 8 (some 123) (v := .agg #[.int .i64 P, .int .i64 L]) rfl rfl (by kernel_rfl) (by kernel_rfl) (by kernel_rfl) (fun _ _ _ h => h) (by kernel_rfl) (fun V hV => by have c0 := hV.1.st.bx.cell 0; have c1 := hV.1.st.bx.cell 1; have c2 := hV.1.st.bx.cell 2; have e1 := hV.1.en.cell 1; have e2 := hV.1.en.cell 2; have z0 := hV.2.cell 0; have z1 := hV.2.cell 1; have z2 := hV.2.cell 2; go_simp) ?_
                  refine AnyS.pure 9 (some 124) (v := .pointer (some ⟨x, 0, none⟩)) rfl rfl (by kernel_rfl) (by kernel_rfl) (by kernel_rfl) (fun _ _ _ h => h) (by kernel_rfl) (fun V _ => by go_simp) ?_
                  refine AnyS.pure 10 (some 125) (v := .pointer (some ⟨x, 1, none⟩)) rfl rfl (by kernel_rfl) (by kernel_rfl) (by kernel_rfl) (fun _ _ _ h => h) (by kernel_rfl) (fun V _ => by go_simp) ?_
                  refine AnyS.pure 11 (some 126) (v := .int .i64 L) rfl rfl (by kernel_rfl) (by kernel_rfl) (by kernel_rfl) (fun _ _ _ h => h) (by kernel_rfl) (fun V hV => by have c0 := hV.1.st.bx.cell 0; have c1 := hV.1.st.bx.cell 1; have c2 := hV.1.st.bx.cell 2; have e1 := hV.1.en.cell 1; have e2 := hV.1.en.cell 2; have z0 := hV.2.cell 0; have z1 := hV.2.cell 1; have z2 := hV.2.cell 2; go_simp) ?_
                  refine AnyS.pure 12 (some 127) (v := .int .i64 j) rfl rfl (by kernel_rfl) (by kernel_rfl) (by kernel_rfl) (fun _ _ _ h => h) (by kernel_rfl) (fun V _ => by go_simp) ?_
                  refine AnyS.call 13 (some 128) (.int .i64 q) rfl rfl (by kernel_rfl) (by kernel_rfl) (by kernel_rfl) (fun _ _ _ h => h) (by kernel_rfl) 12 Try.f12 Try.func12 (by kernel_rfl) (by kernel_rfl) _ _ rfl #[.agg #[.int .i64 P, .int .i64 L], .int .i64 j] (by first | (simp [Act.eval]; done) | (simp [Act.eval, Act.put]; done)) (fun V hV => ((HC V).out).mono (by rintro en v ⟨rfl, bv⟩; exact ⟨rfl, hV.1.below bv, hV.2.below bv hV.2.lt⟩)) ?_
                  simp only [Act.put, List.setIfInBounds_toArray, List.set_cons_zero, List.set_cons_succ]
                  refine AnyS.call 14 (some 129) (.string t) rfl rfl (by kernel_rfl) (by kernel_rfl) (by kernel_rfl) (fun _ _ _ h => h) (by kernel_rfl) 11 Try.f11 Try.func11 (by kernel_rfl) (by kernel_rfl) _ _ rfl #[.pointer (some ⟨d, 0, none⟩), .int .i64 q] (by first | (simp [Act.eval]; done) | (simp [Act.eval, Act.put]; done)) (fun V hV => (hV.1.st.sd.sys.look q HN.out t HT.out).mono (by rintro en v ⟨rfl, rfl⟩; exact ⟨rfl, hV⟩)) ?_
                  simp only [Act.put, List.setIfInBounds_toArray, List.set_cons_zero, List.set_cons_succ]
                  refine AnyS.pure 15 (some 130) (v := .bool false) rfl rfl (by kernel_rfl) (by kernel_rfl) (by kernel_rfl) (fun _ _ _ h => h) (by kernel_rfl) (fun V _ => by go_simp) ?_
                  refine AnyS.pure 16 (some 131) (v := .bool false) rfl rfl (by kernel_rfl) (by kernel_rfl) (by kernel_rfl) (fun _ _ _ h => h) (by kernel_rfl) (fun V _ => by go_simp) ?_
                  refine AnyS.done (by kernel_rfl) (fun V2 hV => ?_) _
                  have HV := Lib.hid hV.1.st
                  clear hV HB y0 y1 y2 x0 x1 x2
                  go_wp2_with fail
                  refine ⟨⟨k + 1, _, _, _, _, _, _, _, _, _, _, _, by rw [Int.natCast_add]; rfl, by omega, by omega, HV⟩, ?_⟩
                  show 150 - ((k : Int) + 1).toNat < 150 - ((k : Int)).toNat
                  omega
                · have s1 : ¬ (L : Int) > 0 := by omega
                  have s3 : ¬ (0 : Int) < (L : Int) := by omega
                  clear hE m1 hn5
                  go_wp2_with fail
                  refine wp_region_S (S := fun V1 => Py w1 P L A2 (k + 1) d c m B O4 (.slice (some ⟨gl, ol, none⟩) P cl) (.slice (some ⟨gs4, os4, none⟩) L cs4) (.slice (some ⟨gv4, ov4, none⟩) P cv4) (.slice (some ⟨gp4, op4, none⟩) P cp4) x y true true sl V1 ∧ Has V1 z 38 #[.int .i64 i, .int .i64 sq, .string bd]) (by kernel_rfl) (by exact ⟨HB.out.1.drew, HB.out.2.drew⟩) ?_
                  refine AnyS.pure 0 (some 115) (v := .pointer (some ⟨x, 0, none⟩)) rfl rfl (by kernel_rfl) (by kernel_rfl) (by kernel_rfl) (fun _ _ _ h => h) (by kernel_rfl) (fun V _ => by go_simp) ?_
                  refine AnyS.pure 1 (some 116) (v := .pointer (some ⟨x, 1, none⟩)) rfl rfl (by kernel_rfl) (by kernel_rfl) (by kernel_rfl) (fun _ _ _ h => h) (by kernel_rfl) (fun V _ => by go_simp) ?_
                  refine AnyS.pure 2 (some 117) (v := .int .i64 L) rfl rfl (by kernel_rfl) (by kernel_rfl) (by kernel_rfl) (fun _ _ _ h => h) (by kernel_rfl) (fun V hV => by have c0 := hV.1.st.bx.cell 0; have c1 := hV.1.st.bx.cell 1; have c2 := hV.1.st.bx.cell 2; have e1 := hV.1.en.cell 1; have e2 := hV.1.en.cell 2; have z0 := hV.2.cell 0; have z1 := hV.2.cell 1; have z2 := hV.2.cell 2; go_simp) ?_
                  refine AnyS.pure 3 (some 118) (v := .bool false) rfl rfl (by kernel_rfl) (by kernel_rfl) (by kernel_rfl) (fun _ _ _ h => h) (by kernel_rfl) (fun V _ => by go_simp) ?_
                  refine AnyS.pure 4 (some 119) rfl rfl (by kernel_rfl) (by kernel_rfl) (by kernel_rfl) (fun _ _ _ h => h) (by kernel_rfl) (fun _ _ => rfl) ?_
                  refine AnyS.skip 5 (some 120) rfl rfl (by kernel_rfl) (by kernel_rfl) (by kernel_rfl) (fun _ _ _ h => h) (by kernel_rfl) ?_
                  refine AnyS.skip 6 (some 121) rfl rfl (by kernel_rfl) (by kernel_rfl) (by kernel_rfl) (fun _ _ _ h => h) (by kernel_rfl) ?_
                  refine AnyS.skip 7 (some 122) rfl rfl (by kernel_rfl) (by kernel_rfl) (by kernel_rfl) (fun _ _ _ h => h) (by kernel_rfl) ?_
                  refine AnyS.skip 8 (some 123) rfl rfl (by kernel_rfl) (by kernel_rfl) (by kernel_rfl) (fun _ _ _ h => h) (by kernel_rfl) ?_
                  refine AnyS.skip 9 (some 124) rfl rfl (by kernel_rfl) (by kernel_rfl) (by kernel_rfl) (fun _ _ _ h => h) (by kernel_rfl) ?_
                  refine AnyS.skip 10 (some 125) rfl rfl (by kernel_rfl) (by kernel_rfl) (by kernel_rfl) (fun _ _ _ h => h) (by kernel_rfl) ?_
                  refine AnyS.skip 11 (some 126) rfl rfl (by kernel_rfl) (by kernel_rfl) (by kernel_rfl) (fun _ _ _ h => h) (by kernel_rfl) ?_
                  refine AnyS.skip 12 (some 127) rfl rfl (by kernel_rfl) (by kernel_rfl) (by kernel_rfl) (fun _ _ _ h => h) (by kernel_rfl) ?_
                  refine AnyS.skip 13 (some 128) rfl rfl (by kernel_rfl) (by kernel_rfl) (by kernel_rfl) (fun _ _ _ h => h) (by kernel_rfl) ?_
                  refine AnyS.skip 14 (some 129) rfl rfl (by kernel_rfl) (by kernel_rfl) (by kernel_rfl) (fun _ _ _ h => h) (by kernel_rfl) ?_
                  refine AnyS.skip 15 (some 130) rfl rfl (by kernel_rfl) (by kernel_rfl) (by kernel_rfl) (fun _ _ _ h => h) (by kernel_rfl) ?_
                  simp only [Act.put, List.setIfInBounds_toArray, List.set_cons_zero, List.set_cons_succ]
                  refine AnyS.pure 16 (some 131) (v := .bool false) rfl rfl (by kernel_rfl) (by kernel_rfl) (by kernel_rfl) (fun _ _ _ h => h) (by kernel_rfl) (fun V _ => by go_simp) ?_
                  refine AnyS.done (by kernel_rfl) (fun V2 hV => ?_) _
                  have HV := Lib.hid hV.1.st
                  clear hV HB y0 y1 y2 x0 x1 x2
                  go_wp2_with fail
                  refine ⟨⟨k + 1, _, _, _, _, _, _, _, _, _, _, _, by rw [Int.natCast_add]; rfl, by omega, by omega, HV⟩, ?_⟩
                  show 150 - ((k : Int) + 1).toNat < 150 - ((k : Int)).toNat
                  omega
            · have hn5 : (A.X i).next = 5 := HRD.out.1 rfl
              obtain ⟨m1, m2, m3⟩ := hE.head hn5
              have m1' : fl = false := m1
              subst m1'
              have m2' : sl0 ≤ L := m2
              have m3' : sl0 < L → A2.S sl0 = none := m3
              have hsl := HM.out.2.2.1
              have s1 : ¬ sl < 0 := by omega
              have s2 : ¬ sl > (L : Int) := by omega
              have s3 : (0 : Int) ≤ sl := by omega
              by_cases hlt : sl0 < L
              · have s4 : sl < (L : Int) := by omega
                obtain ⟨q, hq⟩ : ∃ q, q = P + sl0 := ⟨_, rfl⟩
                have HQ : Hid ((q : Int) = (P : Int) + sl ∧ sl = (sl0 : Int) ∧ sl0 < L) := Lib.hid ⟨by omega, hsl, hlt⟩
                have HT : Hid (cellT P A2 q = ⟨#[]⟩) := Lib.hid (by rw [hq, cellT_slot, m3' hlt]; rfl)
                have HN : Hid (q < P + L) := Lib.hid (by omega)
                have hs0 := HQ.out
                have HC : ∀ V, Hid (Calls Try.prog 12 #[.agg #[.int .i64 P, .int .i64 L], .int .i64 sl] V fun en w' => en = .returned (.int .i64 q) ∧ Below V.heap.size V w') := fun V => Lib.hid (by
                  have e : (q : Int) = (P : Int) + (sl : Int) := hs0.1
                  rw [e]
                  exact slotP_calls P L sl V (by omega) (by have := HP.out; omega) (by omega) (by have := HP.out; omega))
                clear hE m1 m2 m3 m2' m3' hq hs0 hsl hlt hn5
                go_wp2_with fail
                refine wp_region_S (S := fun V1 => Py w1 P L A2 (k + 1) d c m B O4 (.slice (some ⟨gl, ol, none⟩) P cl) (.slice (some ⟨gs4, os4, none⟩) L cs4) (.slice (some ⟨gv4, ov4, none⟩) P cv4) (.slice (some ⟨gp4, op4, none⟩) P cp4) x y true false sl V1 ∧ Has V1 z 38 #[.int .i64 i, .int .i64 sq, .string bd]) (by kernel_rfl) (by exact ⟨HB.out.1.drew, HB.out.2.drew⟩) ?_
                refine AnyS.pure 0 (some 78) (v := .pointer (some ⟨y, 1, none⟩)) rfl rfl (by kernel_rfl) (by kernel_rfl) (by kernel_rfl) (fun _ _ _ h => h) (by kernel_rfl) (fun V _ => by go_simp) ?_
                refine AnyS.pure 1 (some 79) (v := .bool false) rfl rfl (by kernel_rfl) (by kernel_rfl) (by kernel_rfl) (fun _ _ _ h => h) (by kernel_rfl) (fun V hV => by have c0 := hV.1.st.bx.cell 0; have c1 := hV.1.st.bx.cell 1; have c2 := hV.1.st.bx.cell 2; have e1 := hV.1.en.cell 1; have e2 := hV.1.en.cell 2; have z0 := hV.2.cell 0; have z1 := hV.2.cell 1; have z2 := hV.2.cell 2; go_simp) ?_
                refine AnyS.pure 2 (some 80) rfl rfl (by kernel_rfl) (by kernel_rfl) (by kernel_rfl) (fun _ _ _ h => h) (by kernel_rfl) (fun _ _ => rfl) ?_
                refine AnyS.pure 3 (some 81) (v := .pointer (some ⟨y, 2, none⟩)) rfl rfl (by kernel_rfl) (by kernel_rfl) (by kernel_rfl) (fun _ _ _ h => h) (by kernel_rfl) (fun V _ => by go_simp) ?_
                refine AnyS.pure 4 (some 82) (v := .int .i64 sl) rfl rfl (by kernel_rfl) (by kernel_rfl) (by kernel_rfl) (fun _ _ _ h => h) (by kernel_rfl) (fun V hV => by have c0 := hV.1.st.bx.cell 0; have c1 := hV.1.st.bx.cell 1; have c2 := hV.1.st.bx.cell 2; have e1 := hV.1.en.cell 1; have e2 := hV.1.en.cell 2; have z0 := hV.2.cell 0; have z1 := hV.2.cell 1; have z2 := hV.2.cell 2; go_simp) ?_
                refine AnyS.pure 5 (some 83) (v := .bool false) rfl rfl (by kernel_rfl) (by kernel_rfl) (by kernel_rfl) (fun _ _ _ h => h) (by kernel_rfl) (fun V _ => by go_simp) ?_
                refine AnyS.pure 6 (some 84) (v := .bool false) rfl rfl (by kernel_rfl) (by kernel_rfl) (by kernel_rfl) (fun _ _ _ h => h) (by kernel_rfl) (fun V _ => by go_simp) ?_
                refine AnyS.pure 7 (some 85) rfl rfl (by kernel_rfl) (by kernel_rfl) (by kernel_rfl) (fun _ _ _ h => h) (by kernel_rfl) (fun _ _ => rfl) ?_
                refine AnyS.pure 8 (some 86) (v := .pointer (some ⟨y, 2, none⟩)) rfl rfl (by kernel_rfl) (by kernel_rfl) (by kernel_rfl) (fun _ _ _ h => h) (by kernel_rfl) (fun V _ => by go_simp) ?_
                refine AnyS.pure 9 (some 87) (v := .int .i64 sl) rfl rfl (by kernel_rfl) (by kernel_rfl) (by kernel_rfl) (fun _ _ _ h => h) (by kernel_rfl) (fun V hV => by have c0 := hV.1.st.bx.cell 0; have c1 := hV.1.st.bx.cell 1; have c2 := hV.1.st.bx.cell 2; have e1 := hV.1.en.cell 1; have e2 := hV.1.en.cell 2; have z0 := hV.2.cell 0; have z1 := hV.2.cell 1; have z2 := hV.2.cell 2; go_simp) ?_
                refine AnyS.pure 10 (some 88) (v := .pointer (some ⟨x, 0, none⟩)) rfl rfl (by kernel_rfl) (by kernel_rfl) (by kernel_rfl) (fun _ _ _ h => h) (by kernel_rfl) (fun V _ => by go_simp) ?_
                refine AnyS.pure 11 (some 89) (v := .pointer (some ⟨x, 1, none⟩)) rfl rfl (by kernel_rfl) (by kernel_rfl) (by kernel_rfl) (fun _ _ _ h => h) (by kernel_rfl) (fun V _ => by go_simp) ?_
                refine AnyS.pure 12 (some 90) (v := .int .i64 L) rfl rfl (by kernel_rfl) (by kernel_rfl) (by kernel_rfl) (fun _ _ _ h => h) (by kernel_rfl) (fun V hV => by have c0 := hV.1.st.bx.cell 0; have c1 := hV.1.st.bx.cell 1; have c2 := hV.1.st.bx.cell 2; have e1 := hV.1.en.cell 1; have e2 := hV.1.en.cell 2; have z0 := hV.2.cell 0; have z1 := hV.2.cell 1; have z2 := hV.2.cell 2; go_simp) ?_
                refine AnyS.pure 13 (some 91) (v := .bool false) rfl rfl (by kernel_rfl) (by kernel_rfl) (by kernel_rfl) (fun _ _ _ h => h) (by kernel_rfl) (fun V _ => by go_simp) ?_
                refine AnyS.pure 14 (some 92) (v := .bool false) rfl rfl (by kernel_rfl) (by kernel_rfl) (by kernel_rfl) (fun _ _ _ h => h) (by kernel_rfl) (fun V _ => by go_simp) ?_
                refine AnyS.pure 15 (some 93) rfl rfl (by kernel_rfl) (by kernel_rfl) (by kernel_rfl) (fun _ _ _ h => h) (by kernel_rfl) (fun _ _ => rfl) ?_
                refine AnyS.pure 16 (some 94) (v := .pointer (some ⟨y, 2, none⟩)) rfl rfl (by kernel_rfl) (by kernel_rfl) (by kernel_rfl) (fun _ _ _ h => h) (by kernel_rfl) (fun V _ => by go_simp) ?_
                refine AnyS.pure 17 (some 95) (v := .int .i64 sl) rfl rfl (by kernel_rfl) (by kernel_rfl) (by kernel_rfl) (fun _ _ _ h => h) (by kernel_rfl) (fun V hV => by have c0 := hV.1.st.bx.cell 0; have c1 := hV.1.st.bx.cell 1; have c2 := hV.1.st.bx.cell 2; have e1 := hV.1.en.cell 1; have e2 := hV.1.en.cell 2; have z0 := hV.2.cell 0; have z1 := hV.2.cell 1; have z2 := hV.2.cell 2; go_simp) ?_
                refine AnyS.pure 18 (some 96) (v := .pointer (some ⟨x, 0, none⟩)) rfl rfl (by kernel_rfl) (by kernel_rfl) (by kernel_rfl) (fun _ _ _ h => h) (by kernel_rfl) (fun V _ => by go_simp) ?_
                refine AnyS.pure 19 (some 97) (v := .pointer (some ⟨x, 1, none⟩)) rfl rfl (by kernel_rfl) (by kernel_rfl) (by kernel_rfl) (fun _ _ _ h => h) (by kernel_rfl) (fun V _ => by go_simp) ?_
                refine AnyS.pure 20 (some 98) (v := .int .i64 L) rfl rfl (by kernel_rfl) (by kernel_rfl) (by kernel_rfl) (fun _ _ _ h => h) (by kernel_rfl) (fun V hV => by have c0 := hV.1.st.bx.cell 0; have c1 := hV.1.st.bx.cell 1; have c2 := hV.1.st.bx.cell 2; have e1 := hV.1.en.cell 1; have e2 := hV.1.en.cell 2; have z0 := hV.2.cell 0; have z1 := hV.2.cell 1; have z2 := hV.2.cell 2; go_simp) ?_
                refine AnyS.pure 21 (some 99) (v := .bool true) rfl rfl (by kernel_rfl) (by kernel_rfl) (by kernel_rfl) (fun _ _ _ h => h) (by kernel_rfl) (fun V _ => by go_simp) ?_
                refine AnyS.pure 22 (some 100) rfl rfl (by kernel_rfl) (by kernel_rfl) (by kernel_rfl) (fun _ _ _ h => h) (by kernel_rfl) (fun _ _ => rfl) ?_
                refine AnyS.pure 23 (some 101) (v := .pointer (some ⟨x, 2, none⟩)) rfl rfl (by kernel_rfl) (by kernel_rfl) (by kernel_rfl) (fun _ _ _ h => h) (by kernel_rfl) (fun V _ => by go_simp) ?_
                refine AnyS.pure 24 (some 102) (v := .pointer (some ⟨d, 0, none⟩)) rfl rfl (by kernel_rfl) (by kernel_rfl) (by kernel_rfl) (fun _ _ _ h => h) (by kernel_rfl) (fun V hV => by have c0 := hV.1.st.bx.cell 0; have c1 := hV.1.st.bx.cell 1; have c2 := hV.1.st.bx.cell 2; have e1 := hV.1.en.cell 1; have e2 := hV.1.en.cell 2; have z0 := hV.2.cell 0; have z1 := hV.2.cell 1; have z2 := hV.2.cell 2; go_simp) ?_
                refine AnyS.pure 25 (some 103) (v := .pointer (some ⟨x, 0, none⟩)) rfl rfl (by kernel_rfl) (by kernel_rfl) (by kernel_rfl) (fun _ _ _ h => h) (by kernel_rfl) (fun V _ => by go_simp) ?_
                refine AnyS.pure 26 (some 104) (v := .agg #[.int .i64 P, .int .i64 L]) rfl rfl (by kernel_rfl) (by kernel_rfl) (by kernel_rfl) (fun _ _ _ h => h) (by kernel_rfl) (fun V hV => by have c0 := hV.1.st.bx.cell 0; have c1 := hV.1.st.bx.cell 1; have c2 := hV.1.st.bx.cell 2; have e1 := hV.1.en.cell 1; have e2 := hV.1.en.cell 2; have z0 := hV.2.cell 0; have z1 := hV.2.cell 1; have z2 := hV.2.cell 2; go_simp) ?_
                refine AnyS.pure 27 (some 105) (v := .pointer (some ⟨y, 2, none⟩)) rfl rfl (by kernel_rfl) (by kernel_rfl) (by kernel_rfl) (fun _ _ _ h => h) (by kernel_rfl) (fun V _ => by go_simp) ?_
                refine AnyS.pure 28 (some 106) (v := .int .i64 sl) rfl rfl (by kernel_rfl) (by kernel_rfl) (by kernel_rfl) (fun _ _ _ h => h) (by kernel_rfl) (fun V hV => by have c0 := hV.1.st.bx.cell 0; have c1 := hV.1.st.bx.cell 1; have c2 := hV.1.st.bx.cell 2; have e1 := hV.1.en.cell 1; have e2 := hV.1.en.cell 2; have z0 := hV.2.cell 0; have z1 := hV.2.cell 1; have z2 := hV.2.cell 2; go_simp) ?_
                refine AnyS.call 29 (some 107) (.int .i64 q) rfl rfl (by kernel_rfl) (by kernel_rfl) (by kernel_rfl) (fun _ _ _ h => h) (by kernel_rfl) 12 Try.f12 Try.func12 (by kernel_rfl) (by kernel_rfl) _ _ rfl #[.agg #[.int .i64 P, .int .i64 L], .int .i64 sl] (by first | (simp [Act.eval]; done) | (simp [Act.eval, Act.put]; done)) (fun V hV => ((HC V).out).mono (by rintro en v ⟨rfl, bv⟩; exact ⟨rfl, hV.1.below bv, hV.2.below bv hV.2.lt⟩)) ?_
                simp only [Act.put, List.setIfInBounds_toArray, List.set_cons_zero, List.set_cons_succ]
                refine AnyS.call 30 (some 108) (.string ⟨#[]⟩) rfl rfl (by kernel_rfl) (by kernel_rfl) (by kernel_rfl) (fun _ _ _ h => h) (by kernel_rfl) 11 Try.f11 Try.func11 (by kernel_rfl) (by kernel_rfl) _ _ rfl #[.pointer (some ⟨d, 0, none⟩), .int .i64 q] (by first | (simp [Act.eval]; done) | (simp [Act.eval, Act.put]; done)) (fun V hV => (hV.1.st.sd.sys.look q HN.out ⟨#[]⟩ HT.out).mono (by rintro en v ⟨rfl, rfl⟩; exact ⟨rfl, hV⟩)) ?_
                simp only [Act.put, List.setIfInBounds_toArray, List.set_cons_zero, List.set_cons_succ]
                refine AnyS.pure 31 (some 109) (v := .bool false) rfl rfl (by kernel_rfl) (by kernel_rfl) (by kernel_rfl) (fun _ _ _ h => h) (by kernel_rfl) (fun V _ => by go_simp) ?_
                refine AnyS.pure 32 (some 110) (v := .bool false) rfl rfl (by kernel_rfl) (by kernel_rfl) (by kernel_rfl) (fun _ _ _ h => h) (by kernel_rfl) (fun V _ => by go_simp) ?_
                refine AnyS.pure 33 (some 111) (v := .bool false) rfl rfl (by kernel_rfl) (by kernel_rfl) (by kernel_rfl) (fun _ _ _ h => h) (by kernel_rfl) (fun V _ => by go_simp) ?_
                refine AnyS.done (by kernel_rfl) (fun V2 hV => ?_) _
                have HV := Lib.hid hV.1.st
                clear hV HB y0 y1 y2 x0 x1 x2
                go_wp2_with fail
                refine ⟨⟨k + 1, _, _, _, _, _, _, _, _, _, _, _, by rw [Int.natCast_add]; rfl, by omega, by omega, HV⟩, ?_⟩
                show 150 - ((k : Int) + 1).toNat < 150 - ((k : Int)).toNat
                omega
              · have s4 : ¬ sl < (L : Int) := by omega
                clear hE m1 m2 m3 m2' m3' hsl hlt hn5
                go_wp2_with fail
                refine wp_region_S (S := fun V1 => Py w1 P L A2 (k + 1) d c m B O4 (.slice (some ⟨gl, ol, none⟩) P cl) (.slice (some ⟨gs4, os4, none⟩) L cs4) (.slice (some ⟨gv4, ov4, none⟩) P cv4) (.slice (some ⟨gp4, op4, none⟩) P cp4) x y true false sl V1 ∧ Has V1 z 38 #[.int .i64 i, .int .i64 sq, .string bd]) (by kernel_rfl) (by exact ⟨HB.out.1.drew, HB.out.2.drew⟩) ?_
                refine AnyS.pure 0 (some 78) (v := .pointer (some ⟨y, 1, none⟩)) rfl rfl (by kernel_rfl) (by kernel_rfl) (by kernel_rfl) (fun _ _ _ h => h) (by kernel_rfl) (fun V _ => by go_simp) ?_
                refine AnyS.pure 1 (some 79) (v := .bool false) rfl rfl (by kernel_rfl) (by kernel_rfl) (by kernel_rfl) (fun _ _ _ h => h) (by kernel_rfl) (fun V hV => by have c0 := hV.1.st.bx.cell 0; have c1 := hV.1.st.bx.cell 1; have c2 := hV.1.st.bx.cell 2; have e1 := hV.1.en.cell 1; have e2 := hV.1.en.cell 2; have z0 := hV.2.cell 0; have z1 := hV.2.cell 1; have z2 := hV.2.cell 2; go_simp) ?_
                refine AnyS.pure 2 (some 80) rfl rfl (by kernel_rfl) (by kernel_rfl) (by kernel_rfl) (fun _ _ _ h => h) (by kernel_rfl) (fun _ _ => rfl) ?_
                refine AnyS.pure 3 (some 81) (v := .pointer (some ⟨y, 2, none⟩)) rfl rfl (by kernel_rfl) (by kernel_rfl) (by kernel_rfl) (fun _ _ _ h => h) (by kernel_rfl) (fun V _ => by go_simp) ?_
                refine AnyS.pure 4 (some 82) (v := .int .i64 sl) rfl rfl (by kernel_rfl) (by kernel_rfl) (by kernel_rfl) (fun _ _ _ h => h) (by kernel_rfl) (fun V hV => by have c0 := hV.1.st.bx.cell 0; have c1 := hV.1.st.bx.cell 1; have c2 := hV.1.st.bx.cell 2; have e1 := hV.1.en.cell 1; have e2 := hV.1.en.cell 2; have z0 := hV.2.cell 0; have z1 := hV.2.cell 1; have z2 := hV.2.cell 2; go_simp) ?_
                refine AnyS.pure 5 (some 83) (v := .bool false) rfl rfl (by kernel_rfl) (by kernel_rfl) (by kernel_rfl) (fun _ _ _ h => h) (by kernel_rfl) (fun V _ => by go_simp) ?_
                refine AnyS.pure 6 (some 84) (v := .bool false) rfl rfl (by kernel_rfl) (by kernel_rfl) (by kernel_rfl) (fun _ _ _ h => h) (by kernel_rfl) (fun V _ => by go_simp) ?_
                refine AnyS.pure 7 (some 85) rfl rfl (by kernel_rfl) (by kernel_rfl) (by kernel_rfl) (fun _ _ _ h => h) (by kernel_rfl) (fun _ _ => rfl) ?_
                refine AnyS.pure 8 (some 86) (v := .pointer (some ⟨y, 2, none⟩)) rfl rfl (by kernel_rfl) (by kernel_rfl) (by kernel_rfl) (fun _ _ _ h => h) (by kernel_rfl) (fun V _ => by go_simp) ?_
                refine AnyS.pure 9 (some 87) (v := .int .i64 sl) rfl rfl (by kernel_rfl) (by kernel_rfl) (by kernel_rfl) (fun _ _ _ h => h) (by kernel_rfl) (fun V hV => by have c0 := hV.1.st.bx.cell 0; have c1 := hV.1.st.bx.cell 1; have c2 := hV.1.st.bx.cell 2; have e1 := hV.1.en.cell 1; have e2 := hV.1.en.cell 2; have z0 := hV.2.cell 0; have z1 := hV.2.cell 1; have z2 := hV.2.cell 2; go_simp) ?_
                refine AnyS.pure 10 (some 88) (v := .pointer (some ⟨x, 0, none⟩)) rfl rfl (by kernel_rfl) (by kernel_rfl) (by kernel_rfl) (fun _ _ _ h => h) (by kernel_rfl) (fun V _ => by go_simp) ?_
                refine AnyS.pure 11 (some 89) (v := .pointer (some ⟨x, 1, none⟩)) rfl rfl (by kernel_rfl) (by kernel_rfl) (by kernel_rfl) (fun _ _ _ h => h) (by kernel_rfl) (fun V _ => by go_simp) ?_
                refine AnyS.pure 12 (some 90) (v := .int .i64 L) rfl rfl (by kernel_rfl) (by kernel_rfl) (by kernel_rfl) (fun _ _ _ h => h) (by kernel_rfl) (fun V hV => by have c0 := hV.1.st.bx.cell 0; have c1 := hV.1.st.bx.cell 1; have c2 := hV.1.st.bx.cell 2; have e1 := hV.1.en.cell 1; have e2 := hV.1.en.cell 2; have z0 := hV.2.cell 0; have z1 := hV.2.cell 1; have z2 := hV.2.cell 2; go_simp) ?_
                refine AnyS.pure 13 (some 91) (v := .bool false) rfl rfl (by kernel_rfl) (by kernel_rfl) (by kernel_rfl) (fun _ _ _ h => h) (by kernel_rfl) (fun V _ => by go_simp) ?_
                refine AnyS.pure 14 (some 92) (v := .bool false) rfl rfl (by kernel_rfl) (by kernel_rfl) (by kernel_rfl) (fun _ _ _ h => h) (by kernel_rfl) (fun V _ => by go_simp) ?_
                refine AnyS.pure 15 (some 93) rfl rfl (by kernel_rfl) (by kernel_rfl) (by kernel_rfl) (fun _ _ _ h => h) (by kernel_rfl) (fun _ _ => rfl) ?_
                refine AnyS.pure 16 (some 94) (v := .pointer (some ⟨y, 2, none⟩)) rfl rfl (by kernel_rfl) (by kernel_rfl) (by kernel_rfl) (fun _ _ _ h => h) (by kernel_rfl) (fun V _ => by go_simp) ?_
                refine AnyS.pure 17 (some 95) (v := .int .i64 sl) rfl rfl (by kernel_rfl) (by kernel_rfl) (by kernel_rfl) (fun _ _ _ h => h) (by kernel_rfl) (fun V hV => by have c0 := hV.1.st.bx.cell 0; have c1 := hV.1.st.bx.cell 1; have c2 := hV.1.st.bx.cell 2; have e1 := hV.1.en.cell 1; have e2 := hV.1.en.cell 2; have z0 := hV.2.cell 0; have z1 := hV.2.cell 1; have z2 := hV.2.cell 2; go_simp) ?_
                refine AnyS.pure 18 (some 96) (v := .pointer (some ⟨x, 0, none⟩)) rfl rfl (by kernel_rfl) (by kernel_rfl) (by kernel_rfl) (fun _ _ _ h => h) (by kernel_rfl) (fun V _ => by go_simp) ?_
                refine AnyS.pure 19 (some 97) (v := .pointer (some ⟨x, 1, none⟩)) rfl rfl (by kernel_rfl) (by kernel_rfl) (by kernel_rfl) (fun _ _ _ h => h) (by kernel_rfl) (fun V _ => by go_simp) ?_
                refine AnyS.pure 20 (some 98) (v := .int .i64 L) rfl rfl (by kernel_rfl) (by kernel_rfl) (by kernel_rfl) (fun _ _ _ h => h) (by kernel_rfl) (fun V hV => by have c0 := hV.1.st.bx.cell 0; have c1 := hV.1.st.bx.cell 1; have c2 := hV.1.st.bx.cell 2; have e1 := hV.1.en.cell 1; have e2 := hV.1.en.cell 2; have z0 := hV.2.cell 0; have z1 := hV.2.cell 1; have z2 := hV.2.cell 2; go_simp) ?_
                refine AnyS.pure 21 (some 99) (v := .bool false) rfl rfl (by kernel_rfl) (by kernel_rfl) (by kernel_rfl) (fun _ _ _ h => h) (by kernel_rfl) (fun V _ => by go_simp) ?_
                refine AnyS.pure 22 (some 100) rfl rfl (by kernel_rfl) (by kernel_rfl) (by kernel_rfl) (fun _ _ _ h => h) (by kernel_rfl) (fun _ _ => rfl) ?_
                refine AnyS.skip 23 (some 101) rfl rfl (by kernel_rfl) (by kernel_rfl) (by kernel_rfl) (fun _ _ _ h => h) (by kernel_rfl) ?_
                refine AnyS.skip 24 (some 102) rfl rfl (by kernel_rfl) (by kernel_rfl) (by kernel_rfl) (fun _ _ _ h => h) (by kernel_rfl) ?_
                refine AnyS.skip 25 (some 103) rfl rfl (by kernel_rfl) (by kernel_rfl) (by kernel_rfl) (fun _ _ _ h => h) (by kernel_rfl) ?_
                refine AnyS.skip 26 (some 104) rfl rfl (by kernel_rfl) (by kernel_rfl) (by kernel_rfl) (fun _ _ _ h => h) (by kernel_rfl) ?_
                refine AnyS.skip 27 (some 105) rfl rfl (by kernel_rfl) (by kernel_rfl) (by kernel_rfl) (fun _ _ _ h => h) (by kernel_rfl) ?_
                refine AnyS.skip 28 (some 106) rfl rfl (by kernel_rfl) (by kernel_rfl) (by kernel_rfl) (fun _ _ _ h => h) (by kernel_rfl) ?_
                refine AnyS.skip 29 (some 107) rfl rfl (by kernel_rfl) (by kernel_rfl) (by kernel_rfl) (fun _ _ _ h => h) (by kernel_rfl) ?_
                refine AnyS.skip 30 (some 108) rfl rfl (by kernel_rfl) (by kernel_rfl) (by kernel_rfl) (fun _ _ _ h => h) (by kernel_rfl) ?_
                refine AnyS.skip 31 (some 109) rfl rfl (by kernel_rfl) (by kernel_rfl) (by kernel_rfl) (fun _ _ _ h => h) (by kernel_rfl) ?_
                simp only [Act.put, List.setIfInBounds_toArray, List.set_cons_zero, List.set_cons_succ]
                refine AnyS.pure 32 (some 110) (v := .bool false) rfl rfl (by kernel_rfl) (by kernel_rfl) (by kernel_rfl) (fun _ _ _ h => h) (by kernel_rfl) (fun V _ => by go_simp) ?_
                refine AnyS.pure 33 (some 111) (v := .bool false) rfl rfl (by kernel_rfl) (by kernel_rfl) (by kernel_rfl) (fun _ _ _ h => h) (by kernel_rfl) (fun V _ => by go_simp) ?_
                refine AnyS.done (by kernel_rfl) (fun V2 hV => ?_) _
                have HV := Lib.hid hV.1.st
                clear hV HB y0 y1 y2 x0 x1 x2
                go_wp2_with fail
                refine ⟨⟨k + 1, _, _, _, _, _, _, _, _, _, _, _, by rw [Int.natCast_add]; rfl, by omega, by omega, HV⟩, ?_⟩
                show 150 - ((k : Int) + 1).toNat < 150 - ((k : Int)).toNat
                omega
        all_goals exact h.elim
    · have hv := HS.out.sd
      have hx2 : (len1 ≤ k) ∨ (k < len1 ∧ 150 ≤ k) := by omega
      have BF := Lib.hid (below_all HS.out B1.out)
      clear hv
      rcases hx2 with h1 | ⟨h1, h2⟩
      · have h1' : ¬ (k : Int) < (len1 : Int) := by omega
        go_wp2_with fail
        go_ret
        exact ⟨rfl, BF.out⟩
      · have h1' : (k : Int) < (len1 : Int) := by omega
        have h2' : ¬ (k : Int) < 150 := by omega
        go_wp2_with fail
        go_ret
        exact ⟨rfl, BF.out⟩

def Arg2 (w : World) (a : Option Addr) (len _cap : Nat) : Prop := ∃ T, ArgK w a len T

theorem walk (n k : Int) (a1 : Option Addr) (len1 cap1 : Nat) (w : World) (_ : (Lit.int .i64 n).wf = true) (_ : (Lit.int .i64 k).wf = true) (w1 : Arg2 w a1 len1 cap1) :
    Calls Try.prog 3 #[.int .i64 n, .int .i64 k, .slice a1 len1 cap1] w fun en w' => en = .returned (.bool true) ∧ Below w.heap.size w w' := by
  obtain ⟨T1, h1⟩ := w1
  exact once_any n k a1 len1 cap1 T1 w h1

theorem opened2 {H : Type} {enc : TypeId × Value → H} {w : World} {spare : Nat → Bool} {held : Bool} {a : Option Addr} {len cap : Nat} {d : DataW H} {p : List MemPlace} (h : DataW.Trod enc Try.prog w 0 spare held 22 (.slice a len cap) d p) : Arg2 w a len cap := openedK h

theorem own : ownKnob Try.prog.godebug = none := by kernel_rfl
theorem laidOut : laidOutB Try.prog = true := by kernel_rfl

set_option maxRecDepth 100000 in
theorem lifted (os : Os) (started : os.Started) (H : Type) (enc : TypeId × Value → H) :
    ReturnsInHanded {} Try.checked os 3 .any (Rows.procOnceSpec.pre6 enc Try.prog Try.f3 Rows.procOnceRow.domain false) (Rows.procOnceSpec.post enc Try.prog Try.f3 false true false false) := by
  refine returnsInHanded_of_change (C := Try.checked) own started (by kernel_rfl) Try.func3
    (ChangeSpec.witness6 (enc := enc) (C := Try.checked) false ⟨#[], #[.int .i64 0, .int .i64 0, .slice none 0 0], []⟩ 8 (by kernel_rfl) (by kernel_rfl) (by kernel_rfl) (by kernel_rfl)) ?_
  intro W base args ds gs before hval0 hW _ _
  have hval : ∀ (j : Nat) t v, Try.f3.params[j]? = some t → args[j]? = some v → Value.okWide Try.prog W .any base t v := hval0
  have hW' := hW
  obtain ⟨p, q, hA0, hV, rfl, _, _⟩ := hW
  have hA : DataW.TrodAll enc Try.prog W 0 (fun _ => true) true Try.f3.params.toList args.toList ds p := hA0
  rw [Try.params3] at hA hval
  obtain ⟨v0, vs0, d0, ds0, p0, q0, hargs, rfl, rfl, h0, r0⟩ := trodAll_cons hA
  obtain ⟨v1, vs1, d1, ds1, p1, q1, rfl, rfl, rfl, h1, r1⟩ := trodAll_cons r0
  obtain ⟨v2, vs2, d2, ds2, p2, q2, rfl, rfl, rfl, h2, r2⟩ := trodAll_cons r1
  obtain ⟨rfl, rfl, rfl⟩ := trodAll_nil r2
  obtain rfl : args = #[v0, v1, v2] := by cases args; simp_all
  obtain ⟨rfl, rfl⟩ := trodVars_none hV
  obtain ⟨a0, rfl, rfl, rfl, w0⟩ := open_int Try.underlying3 (hval 0 3 v0 rfl rfl) h0
  obtain ⟨a1, rfl, rfl, rfl, w1⟩ := open_int Try.underlying3 (hval 1 3 v1 rfl rfl) h1
  obtain ⟨a2, len2, cap2, rfl⟩ := okWide_slice Try.underlying22 (hval 2 22 v2 rfl rfl)
  have k2 := h2
  have lt2 : ∀ x ∈ p2, x.block < W.heap.size := by obtain ⟨m, hm⟩ := k2; exact DataW.trod_lt m _ _ _ hm
  have w2 : Arg2 W a2 len2 cap2 := opened2 h2
  clear hA0 hval0
  refine (walk a0 a1 a2 len2 cap2 W w0 w1 w2).mono fun e W' ⟨he, bel⟩ => ?_
  subst he
  exact ⟨_, rfl, _, _, _, [], _, [], hW', trodAll_mk1 (shut_bool Try.underlying4 _), (trodAll_cons_mk (shut_int Try.underlying3 w0) (trodAll_cons_mk (shut_int Try.underlying3 w1) (trodAll_cons_mk (Below.trod laidOut (by kernel_rfl) (of_decide_eq_true (by kernel_rfl)) k2 bel lt2) trodAll_mk0))), rfl, bel.frame _, fun h => by cases h⟩

theorem over : Rows.procOnceRow.holds Try.pinned (OpenSpec.ofChange Rows.procOnceSpec) :=
  OpenClaim.holds_of_wide 3 Try.f3 rfl rfl rfl rfl rfl rfl rfl ⟨rfl, rfl, rfl, rfl, rfl⟩ rfl rfl rfl rfl rfl (by kernel_rfl) Try.func3 (by kernel_rfl)
    (of_decide_eq_true (by kernel_rfl)) (by unfold Func.isWrapper; first | (rw [if_pos (by decide +kernel)]; kernel_rfl) | (rw [if_neg (by decide +kernel)]; exact ⟨rfl, rfl⟩))
    (fun os started H enc _ => lifted os started H enc)

theorem proved : Rows.ProcOnceSaid := over
end Go.Proofs.Ytbpcfkniflgmfaa.procOnce
