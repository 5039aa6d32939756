/- ObjectBack: for every number and every list of ops the law answers true, and its arguments read afterwards as they did. Conditions: none. -/
import Derived.Test.YtndnjeahepahkaaY010
import Derived.Lib.ItoaWalk
namespace Go.Proofs.Ytndnjeahepahkaa.object.objectBack
open Go.ChangeShapes Go.WideShapes Go.ChangeAt Go.RowKit Go.Maps Go.Sort

set_option maxRecDepth 100000 in
set_option maxHeartbeats 8000000 in
theorem back_any (n : Int) (a : Option Addr) (len cap : Nat) (w : World) (hA : ArgO w a len) :
    Calls Try.prog 3 #[.int .i64 n, .slice a len cap] w fun en w' => en = .returned (.bool true) ∧ Below w.heap.size w w' := by
  have HA := Lib.hid hA
  have HSZ : Hid (len ≤ maxLen) := Lib.hid hA.1
  clear hA
  have hK := kind_of n
  have hlk := fun W => Lib.hid (lkind_calls n W)
  generalize 1 + (n.tmod 3 + 3).tmod 3 = K at *
  have HK := Lib.hid hK
  clear hK
  go_enter Try.func3, Try.ntmps3
  go_wp2_with (first
    | (go_at_call 6; refine (oawake_any w).mono ?_; rintro en w1 ⟨rfl, b1⟩
       have T1 : Hid (Turn (fun j => w.heap.size ≤ j) w w1) := Lib.hid (Turn.of_below b1 (fun _ _ e => e))
       have HLK := hlk w1
       clear b1)
    | (go_at_call 7; refine HLK.out.mono ?_; rintro en w2 ⟨rfl, rfl⟩)
    | (go_at_call 8; refine (onew_calls K w1 HK.out).mono ?_; rintro en w3 ⟨v, rfl, st, b3⟩
       have L3 : Hid (Lb w v w1.heap.size w3.heap.size K (first K) w3) := Lib.hid ⟨st, by rcases HK.out with rfl | rfl | rfl <;> rfl, T1.out.size, Nat.le_refl _, T1.out.trans (Turn.of_below b3 (F := fun j => w1.heap.size ≤ j) (fun _ _ e => e)) (fun j _ e => Nat.le_trans T1.out.size e)⟩
       clear st b3 HLK T1)
    | fail)
  clear hlk
  obtain ⟨lo, hlo⟩ : ∃ lo, lo = w1.heap.size := ⟨_, rfl⟩
  obtain ⟨hi, hhi⟩ : ∃ hi, hi = w3.heap.size := ⟨_, rfl⟩
  rw [← hlo, ← hhi] at L3
  clear hlo hhi
  go_loopw [6] (fun i wr => ∃ (k : Nat) (x : Ob), i = .int .i64 k ∧ k ≤ 40 ∧ Hid (Lb w v lo hi K x wr)) (fun i _ => 40 - (RowKit.intOf i).toNat)
  case atStart => exact ⟨0, _, rfl, by omega, L3⟩
  case round =>
    clear L3
    obtain ⟨k, x, rfl, hk40, HD⟩ := hrel
    by_cases hk : k < len ∧ k < 40
    · obtain ⟨hk1, hk2⟩ := hk
      have hk1' : (k : Int) < (len : Int) := by omega
      have hk2' : (k : Int) < 40 := by omega
      have hk0' : (0 : Int) ≤ (k : Int) := by omega
      have hmeas : 40 - ((k : Int) + 1).toNat < 40 - ((k : Int)).toNat := by omega
      have HME := Lib.hid hmeas
      obtain ⟨T, d, fK, fD, fC, fS, F⟩ := face_of HD.out.st
      obtain rfl := F.is
      have HF := Lib.hid F
      have md := F.mD
      have ed := F.eD
      have mc := F.mC
      have ec := F.eC
      have ms := F.mS
      have es := F.eS
      clear F hmeas
      obtain ⟨b, p, rfl, hb, op, hop, hc⟩ := HA.out.2 k hk1
      have hcw : ∀ j u, op.cells[j]? = some u → wr.cell? ⟨b, p + k * 12 + j, none⟩ = some u := fun j u hj => (Turn.cell HD.out.turn (p := ⟨b, p + k * 12 + j, none⟩) hb (fun h3 => Nat.not_lt_of_le h3 hb)).trans (hc j u hj)
      have a0 := hcw 0 _ rfl
      have a1 := hcw 1 _ rfl
      have a2 := hcw 2 _ rfl
      have a3 := hcw 3 _ rfl
      have a4 := hcw 4 _ rfl
      have a5 := hcw 5 _ rfl
      have a6 := hcw 6 _ rfl
      have a7 := hcw 7 _ rfl
      have a8 := hcw 8 _ rfl
      have a9 := hcw 9 _ rfl
      have a10 := hcw 10 _ rfl
      have a11 := hcw 11 _ rfl
      have hfw := ofew_calls op wr hop
      have hfs := OpO.few_short op
      have hfx := few_text op
      generalize op.few = OQQ at hfs hfx hfw
      obtain ⟨k0, ⟨tk, ta, tx, tn⟩, ⟨lk, ls, lt, ln⟩, ⟨sk, ss, sn⟩⟩ := OQQ
      have HFW : Hid (Calls Try.prog 9 #[.agg op.cells] wr fun en w' => en = .returned (.agg #[.int .i64 k0, .int .i64 tk, .int .i64 ta, .string tx, .int .i64 tn, .int .i64 lk, .string ls, .string lt, .int .i64 ln, .int .i64 sk, .string ss, .int .i64 sn]) ∧ Below wr.heap.size wr w') := Lib.hid hfw
      have HFS := Lib.hid (And.intro hfs hfx)
      clear hfs hfx hfw hcw hc hop hb
      simp only [Nat.add_zero] at a0
      go_wp2_with (first
        | (go_at_call 9; refine HFW.out.mono ?_; rintro en w4 ⟨rfl, b4⟩
           have H4 := Lib.hid (HD.out.more b4)
           clear b4 HD HFW a0 a1 a2 a3 a4 a5 a6 a7 a8 a9 a10 a11)
        | fail)
      refine callsName (fun W5 hW5 => ?_)
      obtain ⟨q, hq⟩ : ∃ q, q = w4.heap.size := ⟨_, rfl⟩
      have H5 : Hid (Lb w (.iface T (pv d)) lo hi K x W5 ∧ Has W5 q 35 #[.int .i64 k0, .int .i64 tk, .int .i64 ta, .string tx, .int .i64 tn, .int .i64 lk, .string ls, .string lt, .int .i64 ln, .int .i64 sk, .string ss, .int .i64 sn] ∧ hi ≤ q) := by
        rw [← hW5, hq]
        exact Lib.hid ⟨H4.out.more ((Below.refl _ _).alloc (Nat.le_refl _) _), Has.made _ _ _, H4.out.phi⟩
      rw [← hq]
      clear hW5 hq H4
      refine (HF.out.cC H5.out.1.st).mono ?_
      rintro en w6 ⟨vy, y, rfl, sty, hly, b6⟩
      obtain ⟨Ty, dy, fKy, fDy, fCy, fSy, Fy⟩ := face_of sty
      obtain rfl := Fy.is
      have HFy := Lib.hid Fy
      have msy := Fy.mS
      have esy := Fy.eS
      have H6 : Hid (Lb w (.iface T (pv d)) lo hi K x w6 ∧ Has w6 q 35 #[.int .i64 k0, .int .i64 tk, .int .i64 ta, .string tx, .int .i64 tn, .int .i64 lk, .string ls, .string lt, .int .i64 ln, .int .i64 sk, .string ss, .int .i64 sn] ∧ hi ≤ q ∧ St w6 (.iface Ty (pv dy)) W5.heap.size w6.heap.size y ∧ y.Like x ∧ q < W5.heap.size) := Lib.hid ⟨H5.out.1.more b6, H5.out.2.1.below b6 H5.out.2.1.lt, H5.out.2.2, sty, hly, H5.out.2.1.lt⟩
      obtain ⟨lo2, hlo2⟩ : ∃ lo2, lo2 = W5.heap.size := ⟨_, rfl⟩
      obtain ⟨hi2, hhi2⟩ : ∃ hi2, hi2 = w6.heap.size := ⟨_, rfl⟩
      have H6' : Hid (Lb w (.iface T (pv d)) lo hi K x w6 ∧ Has w6 q 35 #[.int .i64 k0, .int .i64 tk, .int .i64 ta, .string tx, .int .i64 tn, .int .i64 lk, .string ls, .string lt, .int .i64 ln, .int .i64 sk, .string ss, .int .i64 sn] ∧ hi ≤ q ∧ St w6 (.iface Ty (pv dy)) lo2 hi2 y ∧ y.Like x ∧ q < lo2 ∧ hi2 ≤ w6.heap.size) := by
        rw [hlo2, hhi2]
        exact Lib.hid ⟨H6.out.1, H6.out.2.1, H6.out.2.2.1, H6.out.2.2.2.1, H6.out.2.2.2.2.1, H6.out.2.2.2.2.2, Nat.le_refl _⟩
      rw [← hlo2, ← hhi2] at HFy
      clear sty hly b6 H5 Fy H6 hlo2 hhi2
      have z0 : w6.cell? ⟨q, 0, none⟩ = some (.int .i64 k0) := H6'.out.2.1.cell 0
      have z1 : w6.cell? ⟨q, 1, none⟩ = some (.int .i64 tk) := H6'.out.2.1.cell 1
      have z2 : w6.cell? ⟨q, 2, none⟩ = some (.int .i64 ta) := H6'.out.2.1.cell 2
      have z3 : w6.cell? ⟨q, 3, none⟩ = some (.string tx) := H6'.out.2.1.cell 3
      have z4 : w6.cell? ⟨q, 4, none⟩ = some (.int .i64 tn) := H6'.out.2.1.cell 4
      have z5 : w6.cell? ⟨q, 5, none⟩ = some (.int .i64 lk) := H6'.out.2.1.cell 5
      have z6 : w6.cell? ⟨q, 6, none⟩ = some (.string ls) := H6'.out.2.1.cell 6
      have z7 : w6.cell? ⟨q, 7, none⟩ = some (.string lt) := H6'.out.2.1.cell 7
      have z8 : w6.cell? ⟨q, 8, none⟩ = some (.int .i64 ln) := H6'.out.2.1.cell 8
      have z9 : w6.cell? ⟨q, 9, none⟩ = some (.int .i64 sk) := H6'.out.2.1.cell 9
      have z10 : w6.cell? ⟨q, 10, none⟩ = some (.string ss) := H6'.out.2.1.cell 10
      have z11 : w6.cell? ⟨q, 11, none⟩ = some (.int .i64 sn) := H6'.out.2.1.cell 11
      go_wp2_with fail
      refine (HF.out.cD w6 x (OpO.mk k0 ⟨tk, ta, tx, tn⟩ ⟨lk, ls, lt, ln⟩ ⟨sk, ss, sn⟩) H6'.out.1.st H6'.out.1.phi HFS.out.1).mono ?_
      rintro en w7 ⟨rfl, st7, t7⟩
      obtain ⟨e, he⟩ : ∃ e, e = (x.act (OpO.mk k0 ⟨tk, ta, tx, tn⟩ ⟨lk, ls, lt, ln⟩ ⟨sk, ss, sn⟩)).2.1 := ⟨_, rfl⟩
      obtain ⟨g, hg⟩ : ∃ g, g = (x.act (OpO.mk k0 ⟨tk, ta, tx, tn⟩ ⟨lk, ls, lt, ln⟩ ⟨sk, ss, sn⟩)).2.2 := ⟨_, rfl⟩
      obtain ⟨x7, hx7⟩ : ∃ x7, x7 = (x.act (OpO.mk k0 ⟨tk, ta, tx, tn⟩ ⟨lk, ls, lt, ln⟩ ⟨sk, ss, sn⟩)).1 := ⟨_, rfl⟩
      rw [← he, ← hg]
      rw [← hx7] at st7
      have HEQ := Lib.hid (And.intro he (And.intro hg hx7))
      have H7 : Hid (Lb w (.iface T (pv d)) lo hi K x7 w7 ∧ Has w7 q 35 #[.int .i64 k0, .int .i64 tk, .int .i64 ta, .string tx, .int .i64 tn, .int .i64 lk, .string ls, .string lt, .int .i64 ln, .int .i64 sk, .string ss, .int .i64 sn] ∧ hi ≤ q ∧ St w7 (.iface Ty (pv dy)) lo2 hi2 y ∧ y.Like x ∧ q < lo2 ∧ hi2 ≤ w7.heap.size) :=
        Lib.hid ⟨H6'.out.1.did st7 (by rw [hx7, act_kd]; exact H6'.out.1.kd) t7, H6'.out.2.1.turn t7 (fun e => by have := H6'.out.2.2.1; omega), H6'.out.2.2.1, H6'.out.2.2.2.1.turn t7 (fun j h1 _ e => by have := H6'.out.2.2.1; have := H6'.out.2.2.2.2.2.1; omega), H6'.out.2.2.2.2.1, H6'.out.2.2.2.2.2.1, Nat.le_trans H6'.out.2.2.2.2.2.2 t7.size⟩
      have HST := Lib.hid H6'.out.1.st
      clear z0 z1 z2 z3 z4 z5 z6 z7 z8 z9 z10 z11
      clear st7 t7 he hg hx7 H6'
      by_cases he0 : e = 0
      · subst he0
        have hvd := act_ok HST.out HEQ.out.1.symm
        have HOI := fun W => Lib.hid (oinv_calls (OpO.mk k0 ⟨tk, ta, tx, tn⟩ ⟨lk, ls, lt, ln⟩ ⟨sk, ss, sn⟩) 0 g W hvd.1)
        have HRI := fun W => Lib.hid (rinv_calls (OpO.mk k0 ⟨tk, ta, tx, tn⟩ ⟨lk, ls, lt, ln⟩ ⟨sk, ss, sn⟩) g W hvd.1 HFS.out.2)
        have HVD := Lib.hid hvd
        have hy0 := H7.out.2.1
        have z0 : w7.cell? ⟨q, 0, none⟩ = some (.int .i64 k0) := hy0.cell 0
        have z1 : w7.cell? ⟨q, 1, none⟩ = some (.int .i64 tk) := hy0.cell 1
        have z2 : w7.cell? ⟨q, 2, none⟩ = some (.int .i64 ta) := hy0.cell 2
        have z3 : w7.cell? ⟨q, 3, none⟩ = some (.string tx) := hy0.cell 3
        have z4 : w7.cell? ⟨q, 4, none⟩ = some (.int .i64 tn) := hy0.cell 4
        have z5 : w7.cell? ⟨q, 5, none⟩ = some (.int .i64 lk) := hy0.cell 5
        have z6 : w7.cell? ⟨q, 6, none⟩ = some (.string ls) := hy0.cell 6
        have z7 : w7.cell? ⟨q, 7, none⟩ = some (.string lt) := hy0.cell 7
        have z8 : w7.cell? ⟨q, 8, none⟩ = some (.int .i64 ln) := hy0.cell 8
        have z9 : w7.cell? ⟨q, 9, none⟩ = some (.int .i64 sk) := hy0.cell 9
        have z10 : w7.cell? ⟨q, 10, none⟩ = some (.string ss) := hy0.cell 10
        have z11 : w7.cell? ⟨q, 11, none⟩ = some (.int .i64 sn) := hy0.cell 11
        clear hy0 hvd
        have hql : q < w7.heap.size := H7.out.2.1.lt
        have HOI2 : Hid (∀ W, Calls Try.prog 10 #[.agg #[.int .i64 k0, .int .i64 tk, .int .i64 ta, .string tx, .int .i64 tn, .int .i64 lk, .string ls, .string lt, .int .i64 ln, .int .i64 sk, .string ss, .int .i64 sn], rv 0 g] W fun en w' => en = .returned (.agg ((OpO.mk k0 ⟨tk, ta, tx, tn⟩ ⟨lk, ls, lt, ln⟩ ⟨sk, ss, sn⟩).inv g).cells) ∧ Below W.heap.size W w') := Lib.hid (fun W => (HOI W).out)
        have HRI2 : Hid (∀ W, Calls Try.prog 12 #[.agg #[.int .i64 k0, .int .i64 tk, .int .i64 ta, .string tx, .int .i64 tn, .int .i64 lk, .string ls, .string lt, .int .i64 ln, .int .i64 sk, .string ss, .int .i64 sn], .string g] W fun en w' => en = .returned (.agg ((OpO.mk k0 ⟨tk, ta, tx, tn⟩ ⟨lk, ls, lt, ln⟩ ⟨sk, ss, sn⟩).inv g).cells) ∧ Below W.heap.size W w') := Lib.hid (fun W => (HRI W).out)
        have HTC : Hid (∀ W, Calls Try.prog 11 #[.agg #[.int .i64 k0, .int .i64 tk, .int .i64 ta, .string tx, .int .i64 tn, .int .i64 lk, .string ls, .string lt, .int .i64 ln, .int .i64 sk, .string ss, .int .i64 sn]] W fun en w' => en = .returned (.agg #[.int .i64 k0, .int .i64 tk, .int .i64 ta, .string tx, .int .i64 tn, .int .i64 lk, .string ls, .string lt, .int .i64 ln, .int .i64 sk, .string ss, .int .i64 sn]) ∧ Below W.heap.size W w') := Lib.hid (fun W => told_calls (OpO.mk k0 ⟨tk, ta, tx, tn⟩ ⟨lk, ls, lt, ln⟩ ⟨sk, ss, sn⟩) W)
        obtain ⟨BQQ, hBQ⟩ : ∃ BQQ, BQQ = (OpO.mk k0 ⟨tk, ta, tx, tn⟩ ⟨lk, ls, lt, ln⟩ ⟨sk, ss, sn⟩).inv g := ⟨_, rfl⟩
        have HBQ := Lib.hid hBQ
        rw [← hBQ] at HOI2 HRI2
        clear hBQ HOI HRI
        obtain ⟨k1, ⟨tk1, ta1, tx1, tn1⟩, ⟨lk1, ls1, lt1, ln1⟩, ⟨sk1, ss1, sn1⟩⟩ := BQQ
        have HOI3 : Hid (∀ W, Calls Try.prog 10 #[.agg #[.int .i64 k0, .int .i64 tk, .int .i64 ta, .string tx, .int .i64 tn, .int .i64 lk, .string ls, .string lt, .int .i64 ln, .int .i64 sk, .string ss, .int .i64 sn], rv 0 g] W fun en w' => en = .returned (.agg #[.int .i64 k1, .int .i64 tk1, .int .i64 ta1, .string tx1, .int .i64 tn1, .int .i64 lk1, .string ls1, .string lt1, .int .i64 ln1, .int .i64 sk1, .string ss1, .int .i64 sn1]) ∧ Below W.heap.size W w') := Lib.hid HOI2.out
        have HRI3 : Hid (∀ W, Calls Try.prog 12 #[.agg #[.int .i64 k0, .int .i64 tk, .int .i64 ta, .string tx, .int .i64 tn, .int .i64 lk, .string ls, .string lt, .int .i64 ln, .int .i64 sk, .string ss, .int .i64 sn], .string g] W fun en w' => en = .returned (.agg #[.int .i64 k1, .int .i64 tk1, .int .i64 ta1, .string tx1, .int .i64 tn1, .int .i64 lk1, .string ls1, .string lt1, .int .i64 ln1, .int .i64 sk1, .string ss1, .int .i64 sn1]) ∧ Below W.heap.size W w') := Lib.hid HRI2.out
        clear HOI2 HRI2
        have HTB : Hid (∀ W, Calls Try.prog 11 #[.agg #[.int .i64 k1, .int .i64 tk1, .int .i64 ta1, .string tx1, .int .i64 tn1, .int .i64 lk1, .string ls1, .string lt1, .int .i64 ln1, .int .i64 sk1, .string ss1, .int .i64 sn1]] W fun en w' => en = .returned (.agg #[.int .i64 k1, .int .i64 tk1, .int .i64 ta1, .string tx1, .int .i64 tn1, .int .i64 lk1, .string ls1, .string lt1, .int .i64 ln1, .int .i64 sk1, .string ss1, .int .i64 sn1]) ∧ Below W.heap.size W w') := Lib.hid (fun W => told_calls (OpO.mk k1 ⟨tk1, ta1, tx1, tn1⟩ ⟨lk1, ls1, lt1, ln1⟩ ⟨sk1, ss1, sn1⟩) W)
        obtain ⟨r, hr⟩ : ∃ r, r = w7.heap.size := ⟨_, rfl⟩
        go_wp2_with (first
          | (go_at_call 10; refine (HOI3.out _).mono ?_; rintro en w8 ⟨rfl, b8⟩
             (have H8 : Hid (Lb w (.iface T (pv d)) lo hi K x7 w8 ∧ Has w8 q 35 #[.int .i64 k0, .int .i64 tk, .int .i64 ta, .string tx, .int .i64 tn, .int .i64 lk, .string ls, .string lt, .int .i64 ln, .int .i64 sk, .string ss, .int .i64 sn] ∧ hi ≤ q ∧ St w8 (.iface Ty (pv dy)) lo2 hi2 y ∧ y.Like x ∧ q < lo2 ∧ hi2 ≤ w8.heap.size ∧ Has w8 r 40 #[.int .i64 0, .string g] ∧ hi2 ≤ r) := by
                have bb : Below w7.heap.size w7 w8 := ((Below.refl _ w7).alloc (Nat.le_refl _) _).trans (b8.mono (by simp))
                exact Lib.hid ⟨H7.out.1.more bb, H7.out.2.1.below bb H7.out.2.1.lt, H7.out.2.2.1, H7.out.2.2.2.1.below bb H7.out.2.2.2.2.2.2, H7.out.2.2.2.2.1, H7.out.2.2.2.2.2.1, Nat.le_trans H7.out.2.2.2.2.2.2 bb.size, by rw [hr]; exact (Has.made w7 _ _).below b8 (by simp), by rw [hr]; exact H7.out.2.2.2.2.2.2⟩)
             clear b8 H7 HOI3 z0 z1 z2 z3 z4 z5 z6 z7 z8 z9 z10 z11)
          | fail)
        refine callsName (fun W9 hW9 => ?_)
        obtain ⟨q2, hq2⟩ : ∃ q2, q2 = w8.heap.size := ⟨_, rfl⟩
        have H9 : Hid (Lb w (.iface T (pv d)) lo hi K x7 W9 ∧ Has W9 q 35 #[.int .i64 k0, .int .i64 tk, .int .i64 ta, .string tx, .int .i64 tn, .int .i64 lk, .string ls, .string lt, .int .i64 ln, .int .i64 sk, .string ss, .int .i64 sn] ∧ hi ≤ q ∧ St W9 (.iface Ty (pv dy)) lo2 hi2 y ∧ y.Like x ∧ q < lo2 ∧ hi2 ≤ W9.heap.size ∧ Has W9 r 40 #[.int .i64 0, .string g] ∧ Has W9 q2 35 #[.int .i64 k1, .int .i64 tk1, .int .i64 ta1, .string tx1, .int .i64 tn1, .int .i64 lk1, .string ls1, .string lt1, .int .i64 ln1, .int .i64 sk1, .string ss1, .int .i64 sn1] ∧ hi2 ≤ q2 ∧ hi2 ≤ r) := by
          rw [← hW9, hq2]
          have bb : Below w8.heap.size w8 (w8.alloc (.cells #[.int .i64 k1, .int .i64 tk1, .int .i64 ta1, .string tx1, .int .i64 tn1, .int .i64 lk1, .string ls1, .string lt1, .int .i64 ln1, .int .i64 sk1, .string ss1, .int .i64 sn1] 35)) := (Below.refl _ w8).alloc (Nat.le_refl _) _
          exact Lib.hid ⟨H8.out.1.more bb, H8.out.2.1.below bb H8.out.2.1.lt, H8.out.2.2.1, H8.out.2.2.2.1.below bb H8.out.2.2.2.2.2.2.1, H8.out.2.2.2.2.1, H8.out.2.2.2.2.2.1, Nat.le_trans H8.out.2.2.2.2.2.2.1 bb.size, H8.out.2.2.2.2.2.2.2.1.below bb H8.out.2.2.2.2.2.2.2.1.lt, Has.made _ _ _, H8.out.2.2.2.2.2.2.1, H8.out.2.2.2.2.2.2.2.2⟩
        rw [← hq2, ← hr]
        clear hW9 hq2 H8 hr hql
        refine (HF.out.cC H9.out.1.st).mono ?_
        rintro en w10 ⟨vz, z, rfl, stz, hlz, b10⟩
        obtain ⟨Tz, dz, fKz, fDz, fCz, fSz, Fz⟩ := face_of stz
        obtain rfl := Fz.is
        obtain ⟨lo3, hlo3⟩ : ∃ lo3, lo3 = W9.heap.size := ⟨_, rfl⟩
        obtain ⟨hi3, hhi3⟩ : ∃ hi3, hi3 = w10.heap.size := ⟨_, rfl⟩
        rw [← hlo3, ← hhi3] at Fz stz
        have HFz := Lib.hid Fz
        have H10 : Hid (Lb w (.iface T (pv d)) lo hi K x7 w10 ∧ Has w10 q 35 #[.int .i64 k0, .int .i64 tk, .int .i64 ta, .string tx, .int .i64 tn, .int .i64 lk, .string ls, .string lt, .int .i64 ln, .int .i64 sk, .string ss, .int .i64 sn] ∧ St w10 (.iface Ty (pv dy)) lo2 hi2 y ∧ hi2 ≤ w10.heap.size ∧ Has w10 r 40 #[.int .i64 0, .string g] ∧ Has w10 q2 35 #[.int .i64 k1, .int .i64 tk1, .int .i64 ta1, .string tx1, .int .i64 tn1, .int .i64 lk1, .string ls1, .string lt1, .int .i64 ln1, .int .i64 sk1, .string ss1, .int .i64 sn1] ∧ St w10 (.iface Tz (pv dz)) lo3 hi3 z ∧ hi3 ≤ w10.heap.size) :=
          Lib.hid ⟨H9.out.1.more b10, H9.out.2.1.below b10 H9.out.2.1.lt, H9.out.2.2.2.1.below b10 H9.out.2.2.2.2.2.2.1, Nat.le_trans H9.out.2.2.2.2.2.2.1 b10.size, H9.out.2.2.2.2.2.2.2.1.below b10 H9.out.2.2.2.2.2.2.2.1.lt, H9.out.2.2.2.2.2.2.2.2.1.below b10 H9.out.2.2.2.2.2.2.2.2.1.lt, stz, by omega⟩
        have HIN : Hid (hi ≤ lo2 ∧ hi2 ≤ lo3 ∧ q < lo3 ∧ r < lo3 ∧ q2 < lo3 ∧ hi ≤ lo3) := by
          have h1 := H9.out.2.1.lt
          have h2 := H9.out.2.2.2.2.2.2.2.1.lt
          have h3 := H9.out.2.2.2.2.2.2.2.2.1.lt
          have h4 := H9.out.2.2.2.2.2.1
          have h5 := H9.out.2.2.1
          have h6 := H9.out.2.2.2.2.2.2.1
          exact Lib.hid ⟨by omega, by omega, by omega, by omega, by omega, by omega⟩
        have HBK : Hid ((z.act (OpO.mk k1 ⟨tk1, ta1, tx1, tn1⟩ ⟨lk1, ls1, lt1, ln1⟩ ⟨sk1, ss1, sn1⟩)).2.1 = 0 ∧ (z.act (OpO.mk k1 ⟨tk1, ta1, tx1, tn1⟩ ⟨lk1, ls1, lt1, ln1⟩ ⟨sk1, ss1, sn1⟩)).1.save = y.save) := by
          have hz : z.Like x7 := hlz
          rw [HEQ.out.2.2] at hz
          have hb := act_back HST.out H10.out.2.2.2.2.2.2.1 HEQ.out.1.symm hz
          rw [← HEQ.out.2.1, ← HBQ.out] at hb
          exact Lib.hid ⟨hb.1, hb.2.save.trans H9.out.2.2.2.2.1.save.symm⟩
        have HSH : Hid (OpO.Short (OpO.mk k1 ⟨tk1, ta1, tx1, tn1⟩ ⟨lk1, ls1, lt1, ln1⟩ ⟨sk1, ss1, sn1⟩)) := by
          rw [HBQ.out]
          exact Lib.hid (OpO.inv_short HFS.out.1 (by rw [HEQ.out.2.1]; exact act_gone HST.out))
        clear stz hlz b10 Fz hlo3 hhi3 H9 HBQ
        go_wp2_with fail
        obtain ⟨V0, hV0⟩ : ∃ V, V = w10.drew := ⟨_, rfl⟩
        have H0 : Hid (Lb w (.iface T (pv d)) lo hi K x7 V0 ∧ Has V0 q 35 #[.int .i64 k0, .int .i64 tk, .int .i64 ta, .string tx, .int .i64 tn, .int .i64 lk, .string ls, .string lt, .int .i64 ln, .int .i64 sk, .string ss, .int .i64 sn] ∧ St V0 (.iface Ty (pv dy)) lo2 hi2 y ∧ hi2 ≤ V0.heap.size ∧ Has V0 r 40 #[.int .i64 0, .string g] ∧ Has V0 q2 35 #[.int .i64 k1, .int .i64 tk1, .int .i64 ta1, .string tx1, .int .i64 tn1, .int .i64 lk1, .string ls1, .string lt1, .int .i64 ln1, .int .i64 sk1, .string ss1, .int .i64 sn1] ∧ St V0 (.iface Tz (pv dz)) lo3 hi3 z ∧ hi3 ≤ V0.heap.size) := by
          rw [hV0]
          have bb : Below w10.heap.size w10 w10.drew := ⟨rfl, rfl, rfl, Nat.le_refl _, fun _ _ => rfl⟩
          exact Lib.hid ⟨H10.out.1.more bb, H10.out.2.1, H10.out.2.2.1.below bb H10.out.2.2.2.1, H10.out.2.2.2.1, H10.out.2.2.2.2.1, H10.out.2.2.2.2.2.1, H10.out.2.2.2.2.2.2.1.below bb H10.out.2.2.2.2.2.2.2, H10.out.2.2.2.2.2.2.2⟩
        refine wp_region_heldV (fun V : World => Has V q2 35 #[.int .i64 k1, .int .i64 tk1, .int .i64 ta1, .string tx1, .int .i64 tn1, .int .i64 lk1, .string ls1, .string lt1, .int .i64 ln1, .int .i64 sk1, .string ss1, .int .i64 sn1] ∧ Has V q 35 #[.int .i64 k0, .int .i64 tk, .int .i64 ta, .string tx, .int .i64 tn, .int .i64 lk, .string ls, .string lt, .int .i64 ln, .int .i64 sk, .string ss, .int .i64 sn] ∧ Has V r 40 #[.int .i64 0, .string g]) V0 hV0 (by kernel_rfl) ?_
        have HS : (fun V : World => Has V q2 35 #[.int .i64 k1, .int .i64 tk1, .int .i64 ta1, .string tx1, .int .i64 tn1, .int .i64 lk1, .string ls1, .string lt1, .int .i64 ln1, .int .i64 sk1, .string ss1, .int .i64 sn1] ∧ Has V q 35 #[.int .i64 k0, .int .i64 tk, .int .i64 ta, .string tx, .int .i64 tn, .int .i64 lk, .string ls, .string lt, .int .i64 ln, .int .i64 sk, .string ss, .int .i64 sn] ∧ Has V r 40 #[.int .i64 0, .string g]) V0 := ⟨H0.out.2.2.2.2.2.1, H0.out.2.1, H0.out.2.2.2.2.1⟩
        clear hV0 H10
        refine held_take 0 (some 51) (v := .agg #[.int .i64 k1, .int .i64 tk1, .int .i64 ta1, .string tx1, .int .i64 tn1, .int .i64 lk1, .string ls1, .string lt1, .int .i64 ln1, .int .i64 sk1, .string ss1, .int .i64 sn1]) rfl rfl (by kernel_rfl) (by kernel_rfl) (by kernel_rfl) (fun _ _ _ h => h) (.inl ⟨by kernel_rfl, fun V hV => by
          have hX := hV.1
          have z0 : V.cell? ⟨q2, 0, none⟩ = some (.int .i64 k1) := hX.cell 0
          have z1 : V.cell? ⟨q2, 1, none⟩ = some (.int .i64 tk1) := hX.cell 1
          have z2 : V.cell? ⟨q2, 2, none⟩ = some (.int .i64 ta1) := hX.cell 2
          have z3 : V.cell? ⟨q2, 3, none⟩ = some (.string tx1) := hX.cell 3
          have z4 : V.cell? ⟨q2, 4, none⟩ = some (.int .i64 tn1) := hX.cell 4
          have z5 : V.cell? ⟨q2, 5, none⟩ = some (.int .i64 lk1) := hX.cell 5
          have z6 : V.cell? ⟨q2, 6, none⟩ = some (.string ls1) := hX.cell 6
          have z7 : V.cell? ⟨q2, 7, none⟩ = some (.string lt1) := hX.cell 7
          have z8 : V.cell? ⟨q2, 8, none⟩ = some (.int .i64 ln1) := hX.cell 8
          have z9 : V.cell? ⟨q2, 9, none⟩ = some (.int .i64 sk1) := hX.cell 9
          have z10 : V.cell? ⟨q2, 10, none⟩ = some (.string ss1) := hX.cell 10
          have z11 : V.cell? ⟨q2, 11, none⟩ = some (.int .i64 sn1) := hX.cell 11
          go_simp⟩) HS ?_
        refine held_take 2 (some 53) (v := .agg #[.int .i64 k0, .int .i64 tk, .int .i64 ta, .string tx, .int .i64 tn, .int .i64 lk, .string ls, .string lt, .int .i64 ln, .int .i64 sk, .string ss, .int .i64 sn]) rfl rfl (by kernel_rfl) (by kernel_rfl) (by kernel_rfl) (fun _ _ _ h => h) (.inl ⟨by kernel_rfl, fun V hV => by
          have hX := hV.2.1
          have z0 : V.cell? ⟨q, 0, none⟩ = some (.int .i64 k0) := hX.cell 0
          have z1 : V.cell? ⟨q, 1, none⟩ = some (.int .i64 tk) := hX.cell 1
          have z2 : V.cell? ⟨q, 2, none⟩ = some (.int .i64 ta) := hX.cell 2
          have z3 : V.cell? ⟨q, 3, none⟩ = some (.string tx) := hX.cell 3
          have z4 : V.cell? ⟨q, 4, none⟩ = some (.int .i64 tn) := hX.cell 4
          have z5 : V.cell? ⟨q, 5, none⟩ = some (.int .i64 lk) := hX.cell 5
          have z6 : V.cell? ⟨q, 6, none⟩ = some (.string ls) := hX.cell 6
          have z7 : V.cell? ⟨q, 7, none⟩ = some (.string lt) := hX.cell 7
          have z8 : V.cell? ⟨q, 8, none⟩ = some (.int .i64 ln) := hX.cell 8
          have z9 : V.cell? ⟨q, 9, none⟩ = some (.int .i64 sk) := hX.cell 9
          have z10 : V.cell? ⟨q, 10, none⟩ = some (.string ss) := hX.cell 10
          have z11 : V.cell? ⟨q, 11, none⟩ = some (.int .i64 sn) := hX.cell 11
          go_simp⟩) HS ?_
        simp only [Act.put, List.setIfInBounds_toArray, List.set_cons_zero, List.set_cons_succ]
        refine held_take 4 (some 55) (v := .pointer (some ⟨r, 1, none⟩)) rfl rfl (by kernel_rfl) (by kernel_rfl) (by kernel_rfl) (fun _ _ _ h => h) (.inl ⟨by kernel_rfl, fun V hV => by go_simp⟩) HS ?_
        refine held_take 5 (some 56) (v := .string g) rfl rfl (by kernel_rfl) (by kernel_rfl) (by kernel_rfl) (fun _ _ _ h => h) (.inl ⟨by kernel_rfl, fun V hV => by (have z1 : V.cell? ⟨r, 1, none⟩ = some (.string g) := hV.2.2.cell 1); go_simp⟩) HS ?_
        simp only [Act.put, List.setIfInBounds_toArray, List.set_cons_zero, List.set_cons_succ]
        refine held_one (i := 1) (by kernel_rfl) ?_
        refine wpOp_call (some 52) rfl rfl (by kernel_rfl) 11 Try.f11 Try.func11 (by kernel_rfl) (by kernel_rfl) _ _ rfl #[.agg #[.int .i64 k1, .int .i64 tk1, .int .i64 ta1, .string tx1, .int .i64 tn1, .int .i64 lk1, .string ls1, .string lt1, .int .i64 ln1, .int .i64 sk1, .string ss1, .int .i64 sn1]] (by first | (simp [Act.eval]; done) | (simp [Act.eval, Act.put]; done)) (HTB.out _) ?_
        rintro en V1 ⟨rfl, bb⟩
        have H1 : Hid (Lb w (.iface T (pv d)) lo hi K x7 V1 ∧ Has V1 q 35 #[.int .i64 k0, .int .i64 tk, .int .i64 ta, .string tx, .int .i64 tn, .int .i64 lk, .string ls, .string lt, .int .i64 ln, .int .i64 sk, .string ss, .int .i64 sn] ∧ St V1 (.iface Ty (pv dy)) lo2 hi2 y ∧ hi2 ≤ V1.heap.size ∧ Has V1 r 40 #[.int .i64 0, .string g] ∧ Has V1 q2 35 #[.int .i64 k1, .int .i64 tk1, .int .i64 ta1, .string tx1, .int .i64 tn1, .int .i64 lk1, .string ls1, .string lt1, .int .i64 ln1, .int .i64 sk1, .string ss1, .int .i64 sn1] ∧ St V1 (.iface Tz (pv dz)) lo3 hi3 z ∧ hi3 ≤ V1.heap.size) :=
          Lib.hid ⟨H0.out.1.more bb, H0.out.2.1.below bb H0.out.2.1.lt, H0.out.2.2.1.below bb H0.out.2.2.2.1, Nat.le_trans H0.out.2.2.2.1 bb.size, H0.out.2.2.2.2.1.below bb H0.out.2.2.2.2.1.lt, H0.out.2.2.2.2.2.1.below bb H0.out.2.2.2.2.2.1.lt, H0.out.2.2.2.2.2.2.1.below bb H0.out.2.2.2.2.2.2.2, Nat.le_trans H0.out.2.2.2.2.2.2.2 bb.size⟩
        have HS : (fun V : World => Has V q2 35 #[.int .i64 k1, .int .i64 tk1, .int .i64 ta1, .string tx1, .int .i64 tn1, .int .i64 lk1, .string ls1, .string lt1, .int .i64 ln1, .int .i64 sk1, .string ss1, .int .i64 sn1] ∧ Has V q 35 #[.int .i64 k0, .int .i64 tk, .int .i64 ta, .string tx, .int .i64 tn, .int .i64 lk, .string ls, .string lt, .int .i64 ln, .int .i64 sk, .string ss, .int .i64 sn] ∧ Has V r 40 #[.int .i64 0, .string g]) V1 := ⟨H1.out.2.2.2.2.2.1, H1.out.2.1, H1.out.2.2.2.2.1⟩
        clear bb H0
        refine ⟨_, rfl, HS, ?_⟩
        simp only [Act.put, List.setIfInBounds_toArray, List.set_cons_zero, List.set_cons_succ]
        refine held_one (i := 3) (by kernel_rfl) ?_
        refine wpOp_call (some 54) rfl rfl (by kernel_rfl) 11 Try.f11 Try.func11 (by kernel_rfl) (by kernel_rfl) _ _ rfl #[.agg #[.int .i64 k0, .int .i64 tk, .int .i64 ta, .string tx, .int .i64 tn, .int .i64 lk, .string ls, .string lt, .int .i64 ln, .int .i64 sk, .string ss, .int .i64 sn]] (by first | (simp [Act.eval]; done) | (simp [Act.eval, Act.put]; done)) (HTC.out _) ?_
        rintro en V2 ⟨rfl, bb⟩
        have H2 : Hid (Lb w (.iface T (pv d)) lo hi K x7 V2 ∧ Has V2 q 35 #[.int .i64 k0, .int .i64 tk, .int .i64 ta, .string tx, .int .i64 tn, .int .i64 lk, .string ls, .string lt, .int .i64 ln, .int .i64 sk, .string ss, .int .i64 sn] ∧ St V2 (.iface Ty (pv dy)) lo2 hi2 y ∧ hi2 ≤ V2.heap.size ∧ Has V2 r 40 #[.int .i64 0, .string g] ∧ Has V2 q2 35 #[.int .i64 k1, .int .i64 tk1, .int .i64 ta1, .string tx1, .int .i64 tn1, .int .i64 lk1, .string ls1, .string lt1, .int .i64 ln1, .int .i64 sk1, .string ss1, .int .i64 sn1] ∧ St V2 (.iface Tz (pv dz)) lo3 hi3 z ∧ hi3 ≤ V2.heap.size) :=
          Lib.hid ⟨H1.out.1.more bb, H1.out.2.1.below bb H1.out.2.1.lt, H1.out.2.2.1.below bb H1.out.2.2.2.1, Nat.le_trans H1.out.2.2.2.1 bb.size, H1.out.2.2.2.2.1.below bb H1.out.2.2.2.2.1.lt, H1.out.2.2.2.2.2.1.below bb H1.out.2.2.2.2.2.1.lt, H1.out.2.2.2.2.2.2.1.below bb H1.out.2.2.2.2.2.2.2, Nat.le_trans H1.out.2.2.2.2.2.2.2 bb.size⟩
        have HS : (fun V : World => Has V q2 35 #[.int .i64 k1, .int .i64 tk1, .int .i64 ta1, .string tx1, .int .i64 tn1, .int .i64 lk1, .string ls1, .string lt1, .int .i64 ln1, .int .i64 sk1, .string ss1, .int .i64 sn1] ∧ Has V q 35 #[.int .i64 k0, .int .i64 tk, .int .i64 ta, .string tx, .int .i64 tn, .int .i64 lk, .string ls, .string lt, .int .i64 ln, .int .i64 sk, .string ss, .int .i64 sn] ∧ Has V r 40 #[.int .i64 0, .string g]) V2 := ⟨H2.out.2.2.2.2.2.1, H2.out.2.1, H2.out.2.2.2.2.1⟩
        clear bb H1
        refine ⟨_, rfl, HS, ?_⟩
        simp only [Act.put, List.setIfInBounds_toArray, List.set_cons_zero, List.set_cons_succ]
        refine held_one (i := 6) (by kernel_rfl) ?_
        refine wpOp_call (some 57) rfl rfl (by kernel_rfl) 12 Try.f12 Try.func12 (by kernel_rfl) (by kernel_rfl) _ _ rfl #[.agg #[.int .i64 k0, .int .i64 tk, .int .i64 ta, .string tx, .int .i64 tn, .int .i64 lk, .string ls, .string lt, .int .i64 ln, .int .i64 sk, .string ss, .int .i64 sn], .string g] (by first | (simp [Act.eval]; done) | (simp [Act.eval, Act.put]; done)) (HRI3.out _) ?_
        rintro en V3 ⟨rfl, bb⟩
        have H3 : Hid (Lb w (.iface T (pv d)) lo hi K x7 V3 ∧ Has V3 q 35 #[.int .i64 k0, .int .i64 tk, .int .i64 ta, .string tx, .int .i64 tn, .int .i64 lk, .string ls, .string lt, .int .i64 ln, .int .i64 sk, .string ss, .int .i64 sn] ∧ St V3 (.iface Ty (pv dy)) lo2 hi2 y ∧ hi2 ≤ V3.heap.size ∧ Has V3 r 40 #[.int .i64 0, .string g] ∧ Has V3 q2 35 #[.int .i64 k1, .int .i64 tk1, .int .i64 ta1, .string tx1, .int .i64 tn1, .int .i64 lk1, .string ls1, .string lt1, .int .i64 ln1, .int .i64 sk1, .string ss1, .int .i64 sn1] ∧ St V3 (.iface Tz (pv dz)) lo3 hi3 z ∧ hi3 ≤ V3.heap.size) :=
          Lib.hid ⟨H2.out.1.more bb, H2.out.2.1.below bb H2.out.2.1.lt, H2.out.2.2.1.below bb H2.out.2.2.2.1, Nat.le_trans H2.out.2.2.2.1 bb.size, H2.out.2.2.2.2.1.below bb H2.out.2.2.2.2.1.lt, H2.out.2.2.2.2.2.1.below bb H2.out.2.2.2.2.2.1.lt, H2.out.2.2.2.2.2.2.1.below bb H2.out.2.2.2.2.2.2.2, Nat.le_trans H2.out.2.2.2.2.2.2.2 bb.size⟩
        have HS : (fun V : World => Has V q2 35 #[.int .i64 k1, .int .i64 tk1, .int .i64 ta1, .string tx1, .int .i64 tn1, .int .i64 lk1, .string ls1, .string lt1, .int .i64 ln1, .int .i64 sk1, .string ss1, .int .i64 sn1] ∧ Has V q 35 #[.int .i64 k0, .int .i64 tk, .int .i64 ta, .string tx, .int .i64 tn, .int .i64 lk, .string ls, .string lt, .int .i64 ln, .int .i64 sk, .string ss, .int .i64 sn] ∧ Has V r 40 #[.int .i64 0, .string g]) V3 := ⟨H3.out.2.2.2.2.2.1, H3.out.2.1, H3.out.2.2.2.2.1⟩
        clear bb H2
        refine ⟨_, rfl, HS, ?_⟩
        simp only [Act.put, List.setIfInBounds_toArray, List.set_cons_zero, List.set_cons_succ]
        refine held_take 7 (some 58) (v := .bool false) rfl rfl (by kernel_rfl) (by kernel_rfl) (by kernel_rfl) (fun _ _ _ h => h) (.inl ⟨by kernel_rfl, fun V hV => by go_simp⟩) HS ?_
        refine held_take 8 (some 59) (v := .bool false) rfl rfl (by kernel_rfl) (by kernel_rfl) (by kernel_rfl) (fun _ _ _ h => h) (.inl ⟨by kernel_rfl, fun V hV => by go_simp⟩) HS ?_
        simp only [Act.put, List.setIfInBounds_toArray, List.set_cons_zero, List.set_cons_succ]
        refine held_take 9 (some 60) (v := .iface Tz (pv dz)) rfl rfl (by kernel_rfl) (by kernel_rfl) (by kernel_rfl) (fun _ _ _ h => h) (.inl ⟨by kernel_rfl, fun V hV => by go_simp⟩) HS ?_
        refine held_take 10 (some 61) (v := .agg #[.int .i64 k1, .int .i64 tk1, .int .i64 ta1, .string tx1, .int .i64 tn1, .int .i64 lk1, .string ls1, .string lt1, .int .i64 ln1, .int .i64 sk1, .string ss1, .int .i64 sn1]) rfl rfl (by kernel_rfl) (by kernel_rfl) (by kernel_rfl) (fun _ _ _ h => h) (.inl ⟨by kernel_rfl, fun V hV => by
          have hX := hV.1
          have z0 : V.cell? ⟨q2, 0, none⟩ = some (.int .i64 k1) := hX.cell 0
          have z1 : V.cell? ⟨q2, 1, none⟩ = some (.int .i64 tk1) := hX.cell 1
          have z2 : V.cell? ⟨q2, 2, none⟩ = some (.int .i64 ta1) := hX.cell 2
          have z3 : V.cell? ⟨q2, 3, none⟩ = some (.string tx1) := hX.cell 3
          have z4 : V.cell? ⟨q2, 4, none⟩ = some (.int .i64 tn1) := hX.cell 4
          have z5 : V.cell? ⟨q2, 5, none⟩ = some (.int .i64 lk1) := hX.cell 5
          have z6 : V.cell? ⟨q2, 6, none⟩ = some (.string ls1) := hX.cell 6
          have z7 : V.cell? ⟨q2, 7, none⟩ = some (.string lt1) := hX.cell 7
          have z8 : V.cell? ⟨q2, 8, none⟩ = some (.int .i64 ln1) := hX.cell 8
          have z9 : V.cell? ⟨q2, 9, none⟩ = some (.int .i64 sk1) := hX.cell 9
          have z10 : V.cell? ⟨q2, 10, none⟩ = some (.string ss1) := hX.cell 10
          have z11 : V.cell? ⟨q2, 11, none⟩ = some (.int .i64 sn1) := hX.cell 11
          go_simp⟩) HS ?_
        simp only [Act.put, List.setIfInBounds_toArray, List.set_cons_zero, List.set_cons_succ]
        refine held_one (i := 11) (by kernel_rfl) ?_
        refine wpOp_invoke (some 62) rfl rfl (by kernel_rfl) (.tmp 60) "Do" Tz (pv dz) (by first | (simp [Act.eval]; done) | (simp [Act.eval, Act.put]; done)) fDz (pv dz) (HFz.out.mD _ _) HFz.out.eD _ _ rfl #[.agg #[.int .i64 k1, .int .i64 tk1, .int .i64 ta1, .string tx1, .int .i64 tn1, .int .i64 lk1, .string ls1, .string lt1, .int .i64 ln1, .int .i64 sk1, .string ss1, .int .i64 sn1]] (by first | (simp [Act.eval]; done) | (simp [Act.eval, Act.put]; done)) (HFz.out.cD V3 z (OpO.mk k1 ⟨tk1, ta1, tx1, tn1⟩ ⟨lk1, ls1, lt1, ln1⟩ ⟨sk1, ss1, sn1⟩) H3.out.2.2.2.2.2.2.1 H3.out.2.2.2.2.2.2.2 HSH.out) ?_
        rw [HBK.out.1]
        rintro en V4 ⟨rfl, st4, t4⟩
        obtain ⟨z4, hz4⟩ : ∃ z4, z4 = (z.act (OpO.mk k1 ⟨tk1, ta1, tx1, tn1⟩ ⟨lk1, ls1, lt1, ln1⟩ ⟨sk1, ss1, sn1⟩)).1 := ⟨_, rfl⟩
        obtain ⟨g4, hg4⟩ : ∃ g4, g4 = (z.act (OpO.mk k1 ⟨tk1, ta1, tx1, tn1⟩ ⟨lk1, ls1, lt1, ln1⟩ ⟨sk1, ss1, sn1⟩)).2.2 := ⟨_, rfl⟩
        rw [← hz4] at st4
        rw [← hg4]
        have HZ4 : Hid (z4.save = y.save) := by rw [hz4]; exact Lib.hid HBK.out.2
        have H4 : Hid (Lb w (.iface T (pv d)) lo hi K x7 V4 ∧ Has V4 q 35 #[.int .i64 k0, .int .i64 tk, .int .i64 ta, .string tx, .int .i64 tn, .int .i64 lk, .string ls, .string lt, .int .i64 ln, .int .i64 sk, .string ss, .int .i64 sn] ∧ St V4 (.iface Ty (pv dy)) lo2 hi2 y ∧ hi2 ≤ V4.heap.size ∧ Has V4 r 40 #[.int .i64 0, .string g] ∧ Has V4 q2 35 #[.int .i64 k1, .int .i64 tk1, .int .i64 ta1, .string tx1, .int .i64 tn1, .int .i64 lk1, .string ls1, .string lt1, .int .i64 ln1, .int .i64 sk1, .string ss1, .int .i64 sn1] ∧ St V4 (.iface Tz (pv dz)) lo3 hi3 z4 ∧ hi3 ≤ V4.heap.size) := by
          have h1 := HIN.out
          exact Lib.hid ⟨H3.out.1.other t4 h1.2.2.2.2.2, H3.out.2.1.turn t4 (by omega), H3.out.2.2.1.turn t4 (fun j _ _ _ => by omega), Nat.le_trans H3.out.2.2.2.1 t4.size, H3.out.2.2.2.2.1.turn t4 (by omega), H3.out.2.2.2.2.2.1.turn t4 (by omega), st4, Nat.le_trans H3.out.2.2.2.2.2.2.2 t4.size⟩
        have HS : (fun V : World => Has V q2 35 #[.int .i64 k1, .int .i64 tk1, .int .i64 ta1, .string tx1, .int .i64 tn1, .int .i64 lk1, .string ls1, .string lt1, .int .i64 ln1, .int .i64 sk1, .string ss1, .int .i64 sn1] ∧ Has V q 35 #[.int .i64 k0, .int .i64 tk, .int .i64 ta, .string tx, .int .i64 tn, .int .i64 lk, .string ls, .string lt, .int .i64 ln, .int .i64 sk, .string ss, .int .i64 sn] ∧ Has V r 40 #[.int .i64 0, .string g]) V4 := ⟨H4.out.2.2.2.2.2.1, H4.out.2.1, H4.out.2.2.2.2.1⟩
        clear st4 t4 hz4 hg4 H3 HBK
        refine ⟨_, rfl, HS, ?_⟩
        simp only [Act.put, List.setIfInBounds_toArray, List.set_cons_zero, List.set_cons_succ]
        refine held_take 12 (some 63) (v := .int .i64 0) rfl rfl (by kernel_rfl) (by kernel_rfl) (by kernel_rfl) (fun _ _ _ h => h) (.inl ⟨by kernel_rfl, fun V hV => by
          have hfd : ∀ w', (Instr.field 40 (.agg #[.int .i64 0, .string g4]) 0).run Try.prog w' = .ok (.int .i64 0) w' := fun w' => rfl
          go_simp⟩) HS ?_
        refine held_take 13 (some 64) (v := .bool false) rfl rfl (by kernel_rfl) (by kernel_rfl) (by kernel_rfl) (fun _ _ _ h => h) (.inl ⟨by kernel_rfl, fun V hV => by go_simp⟩) HS ?_
        simp only [Act.put, List.setIfInBounds_toArray, List.set_cons_zero, List.set_cons_succ]
        refine held_take 14 (some 65) (v := .bool false) rfl rfl (by kernel_rfl) (by kernel_rfl) (by kernel_rfl) (fun _ _ _ h => h) (.inl ⟨by kernel_rfl, fun V hV => by go_simp⟩) HS ?_
        refine held_take 15 (some 66) (v := .bool false) rfl rfl (by kernel_rfl) (by kernel_rfl) (by kernel_rfl) (fun _ _ _ h => h) (.inl ⟨by kernel_rfl, fun V hV => by go_simp⟩) HS ?_
        simp only [Act.put, List.setIfInBounds_toArray, List.set_cons_zero, List.set_cons_succ]
        refine held_take 16 (some 67) (v := .iface Tz (pv dz)) rfl rfl (by kernel_rfl) (by kernel_rfl) (by kernel_rfl) (fun _ _ _ h => h) (.inl ⟨by kernel_rfl, fun V hV => by go_simp⟩) HS ?_
        refine held_take 18 (some 69) (v := .iface Ty (pv dy)) rfl rfl (by kernel_rfl) (by kernel_rfl) (by kernel_rfl) (fun _ _ _ h => h) (.inl ⟨by kernel_rfl, fun V hV => by go_simp⟩) HS ?_
        simp only [Act.put, List.setIfInBounds_toArray, List.set_cons_zero, List.set_cons_succ]
        refine held_one (i := 17) (by kernel_rfl) ?_
        refine wpOp_invoke (some 68) rfl rfl (by kernel_rfl) (.tmp 67) "Save" Tz (pv dz) (by first | (simp [Act.eval]; done) | (simp [Act.eval, Act.put]; done)) fSz (.pointer (some ⟨dz, 0, none⟩)) (HFz.out.mS _ _) HFz.out.eS _ _ rfl #[] (by simp) (HFz.out.cS V4 z4 H4.out.2.2.2.2.2.2.1) ?_
        rw [HZ4.out]
        rintro en V5 ⟨rfl, bb⟩
        have H5 : Hid (Lb w (.iface T (pv d)) lo hi K x7 V5 ∧ St V5 (.iface Ty (pv dy)) lo2 hi2 y) := Lib.hid ⟨H4.out.1.more bb, H4.out.2.2.1.below bb H4.out.2.2.2.1⟩
        have HS : (fun V : World => Has V q2 35 #[.int .i64 k1, .int .i64 tk1, .int .i64 ta1, .string tx1, .int .i64 tn1, .int .i64 lk1, .string ls1, .string lt1, .int .i64 ln1, .int .i64 sk1, .string ss1, .int .i64 sn1] ∧ Has V q 35 #[.int .i64 k0, .int .i64 tk, .int .i64 ta, .string tx, .int .i64 tn, .int .i64 lk, .string ls, .string lt, .int .i64 ln, .int .i64 sk, .string ss, .int .i64 sn] ∧ Has V r 40 #[.int .i64 0, .string g]) V5 := ⟨H4.out.2.2.2.2.2.1.below bb H4.out.2.2.2.2.2.1.lt, H4.out.2.1.below bb H4.out.2.1.lt, H4.out.2.2.2.2.1.below bb H4.out.2.2.2.2.1.lt⟩
        clear bb H4
        refine ⟨_, rfl, HS, ?_⟩
        simp only [Act.put, List.setIfInBounds_toArray, List.set_cons_zero, List.set_cons_succ]
        refine held_one (i := 19) (by kernel_rfl) ?_
        refine wpOp_invoke (some 70) rfl rfl (by kernel_rfl) (.tmp 69) "Save" Ty (pv dy) (by first | (simp [Act.eval]; done) | (simp [Act.eval, Act.put]; done)) fSy (.pointer (some ⟨dy, 0, none⟩)) (HFy.out.mS _ _) HFy.out.eS _ _ rfl #[] (by simp) (HFy.out.cS V5 y H5.out.2) ?_
        rintro en V6 ⟨rfl, bb⟩
        have H6 : Hid (Lb w (.iface T (pv d)) lo hi K x7 V6) := Lib.hid (H5.out.1.more bb)
        have HS : (fun V : World => Has V q2 35 #[.int .i64 k1, .int .i64 tk1, .int .i64 ta1, .string tx1, .int .i64 tn1, .int .i64 lk1, .string ls1, .string lt1, .int .i64 ln1, .int .i64 sk1, .string ss1, .int .i64 sn1] ∧ Has V q 35 #[.int .i64 k0, .int .i64 tk, .int .i64 ta, .string tx, .int .i64 tn, .int .i64 lk, .string ls, .string lt, .int .i64 ln, .int .i64 sk, .string ss, .int .i64 sn] ∧ Has V r 40 #[.int .i64 0, .string g]) V6 := ⟨HS.1.below bb HS.1.lt, HS.2.1.below bb HS.2.1.lt, HS.2.2.below bb HS.2.2.lt⟩
        clear bb H5
        refine ⟨_, rfl, HS, ?_⟩
        simp only [Act.put, List.setIfInBounds_toArray, List.set_cons_zero, List.set_cons_succ]
        refine held_take 20 (some 71) (v := .bool false) rfl rfl (by kernel_rfl) (by kernel_rfl) (by kernel_rfl) (fun _ _ _ h => h) (.inl ⟨by kernel_rfl, fun V hV => by go_simp⟩) HS ?_
        refine held_take 21 (some 72) (v := .bool false) rfl rfl (by kernel_rfl) (by kernel_rfl) (by kernel_rfl) (fun _ _ _ h => h) (.inl ⟨by kernel_rfl, fun V hV => by go_simp⟩) HS ?_
        simp only [Act.put, List.setIfInBounds_toArray, List.set_cons_zero, List.set_cons_succ]
        refine wpAnyH_done (by kernel_rfl) ?_ _
        clear HS
        go_wp2_with fail
        exact ⟨⟨k + 1, x7, by rw [Int.natCast_add]; rfl, by omega, H6⟩, HME.out⟩
      · have he1 : (e != 0) = true := by simpa using he0
        have hx7 : x7 = x := by rw [HEQ.out.2.2]; exact act_not (by rw [← HEQ.out.1]; exact he0)
        subst hx7
        have hss : (x7.save.toList != x7.save.toList) = false := by simp
        have hys : y.save = x7.save := H7.out.2.2.2.2.1.save
        have hcy := fun W (h : St W (.iface Ty (pv dy)) lo2 hi2 y) => HFy.out.cS W y h
        rw [hys] at hcy
        have HCY := Lib.hid hcy
        clear hys hcy he0
        go_wp2_with fail
        refine callsName (fun W8 hW8 => ?_)
        have H8 : Hid (Lb w (.iface T (pv d)) lo hi K x7 W8 ∧ St W8 (.iface Ty (pv dy)) lo2 hi2 y ∧ hi2 ≤ W8.heap.size) := by
          have bb : Below w7.heap.size w7 W8 := by rw [← hW8]; exact (Below.refl _ w7).alloc (Nat.le_refl _) _
          exact Lib.hid ⟨H7.out.1.more bb, H7.out.2.2.2.1.below bb H7.out.2.2.2.2.2.2, Nat.le_trans H7.out.2.2.2.2.2.2 bb.size⟩
        clear hW8 H7
        refine (HF.out.cS W8 x7 H8.out.1.st).mono ?_
        rintro en w9 ⟨rfl, b9⟩
        have H9 : Hid (Lb w (.iface T (pv d)) lo hi K x7 w9 ∧ St w9 (.iface Ty (pv dy)) lo2 hi2 y) := Lib.hid ⟨H8.out.1.more b9, H8.out.2.1.below b9 H8.out.2.2⟩
        clear b9 H8
        go_wp2_with fail
        refine (HCY.out w9 H9.out.2).mono ?_
        rintro en w10 ⟨rfl, b10⟩
        have H10 := Lib.hid (H9.out.1.more b10)
        clear b10 H9
        go_wp2_with fail
        exact ⟨⟨k + 1, x7, by rw [Int.natCast_add]; rfl, by omega, H10⟩, HME.out⟩
    · have hx : ((k : Int) < (len : Int) ∧ ¬ (k : Int) < 40) ∨ ¬ (k : Int) < (len : Int) := by omega
      clear hk
      rcases hx with ⟨hx1, hx2⟩ | hx1
      all_goals
        go_wp2_with fail
        go_ret
        exact ⟨rfl, HD.out.turn.below (Nat.le_refl _) (fun _ hj e => by omega)⟩

def Arg1 (w : World) (a : Option Addr) (len _cap : Nat) : Prop := ArgO w a len
set_option maxRecDepth 100000 in
theorem opened1 {H : Type} {enc : TypeId × Value → H} {w : World} {spare : Nat → Bool} {held : Bool} {a : Option Addr} {len cap : Nat} {d : DataW H} {p : List MemPlace} (h : DataW.Trod enc Try.prog w 0 spare held 22 (.slice a len cap) d p) : Arg1 w a len cap := openedO h
set_option maxRecDepth 100000 in
theorem walk (a0 : Int) (a1 : Option Addr) (len1 cap1 : Nat) (w : World) (_w0 : (Lit.int .i64 a0).wf = true) (w1 : Arg1 w a1 len1 cap1) :
    Calls Try.prog 3 #[.int .i64 a0, .slice a1 len1 cap1] w fun en w' => en = .returned (.bool true) ∧ Below w.heap.size w w' := back_any a0 a1 len1 cap1 w w1

theorem own : ownKnob Try.prog.godebug = none := by kernel_rfl
theorem laidOut : laidOutB Try.prog = true := by kernel_rfl

set_option maxRecDepth 100000 in
theorem lifted (os : Os) (started : os.Started) (H : Type) (enc : TypeId × Value → H) :
    ReturnsInHanded {} Try.checked os 3 .any (Rows.objectBackSpec.pre6 enc Try.prog Try.f3 Rows.objectBackRow.domain false) (Rows.objectBackSpec.post enc Try.prog Try.f3 false true false false) := by
  refine returnsInHanded_of_change (C := Try.checked) own started (by kernel_rfl) Try.func3
    (ChangeSpec.witness6 (enc := enc) (C := Try.checked) false ⟨#[], #[.int .i64 0, .slice none 0 0], []⟩ 8 (by kernel_rfl) (by kernel_rfl) (by kernel_rfl) (by kernel_rfl)) ?_
  intro W base args ds gs before hval0 hW _ _
  have hval : ∀ (j : Nat) t v, Try.f3.params[j]? = some t → args[j]? = some v → Value.okWide Try.prog W .any base t v := hval0
  have hW' := hW
  obtain ⟨p, q, hA0, hV, rfl, _, _⟩ := hW
  have hA : DataW.TrodAll enc Try.prog W 0 (fun _ => true) true Try.f3.params.toList args.toList ds p := hA0
  rw [Try.params3] at hA hval
  obtain ⟨v0, vs0, d0, ds0, p0, q0, hargs, rfl, rfl, h0, r0⟩ := trodAll_cons hA
  obtain ⟨v1, vs1, d1, ds1, p1, q1, rfl, rfl, rfl, h1, r1⟩ := trodAll_cons r0
  obtain ⟨rfl, rfl, rfl⟩ := trodAll_nil r1
  obtain rfl : args = #[v0, v1] := by cases args; simp_all
  obtain ⟨rfl, rfl⟩ := trodVars_none hV
  obtain ⟨a0, rfl, rfl, rfl, w0⟩ := open_int Try.underlying3 (hval 0 3 v0 rfl rfl) h0
  obtain ⟨a1, len1, cap1, rfl⟩ := okWide_slice Try.underlying22 (hval 1 22 v1 rfl rfl)
  have k1 := h1
  have lt1 : ∀ x ∈ p1, x.block < W.heap.size := by obtain ⟨m, hm⟩ := k1; exact DataW.trod_lt m _ _ _ hm
  have w1 : Arg1 W a1 len1 cap1 := opened1 h1
  clear hA0 hval0
  refine (walk a0 a1 len1 cap1 W w0 w1).mono fun e W' ⟨he, bel⟩ => ?_
  subst he
  exact ⟨_, rfl, _, _, _, [], _, [], hW', trodAll_mk1 (shut_bool Try.underlying4 _), (trodAll_cons_mk (shut_int Try.underlying3 w0) (trodAll_cons_mk (Below.trod laidOut (by kernel_rfl) (of_decide_eq_true (by kernel_rfl)) k1 bel lt1) trodAll_mk0)), rfl, bel.frame _, fun h => by cases h⟩

theorem over : Rows.objectBackRow.holds Try.pinned (OpenSpec.ofChange Rows.objectBackSpec) :=
  OpenClaim.holds_of_wide 3 Try.f3 rfl rfl rfl rfl rfl rfl rfl ⟨rfl, rfl, rfl, rfl, rfl⟩ rfl rfl rfl rfl rfl (by kernel_rfl) Try.func3 (by kernel_rfl)
    (of_decide_eq_true (by kernel_rfl)) (by unfold Func.isWrapper; first | (rw [if_pos (by decide +kernel)]; kernel_rfl) | (rw [if_neg (by decide +kernel)]; exact ⟨rfl, rfl⟩))
    (fun os started H enc _ => lifted os started H enc)

theorem proved : Rows.ObjectBackSaid := over

end Go.Proofs.Ytndnjeahepahkaa.object.objectBack
