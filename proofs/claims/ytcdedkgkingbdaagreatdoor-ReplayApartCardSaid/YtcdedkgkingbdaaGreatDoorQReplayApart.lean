/- ReplayApart: a branch goes its own way. -/
import Derived.Test.YtcdedkgkingbdaaGreatDoorQ016
import Derived.Test.YtcdedkgkingbdaaGreatDoorQ043
import Derived.Test.YtcdedkgkingbdaaGreatDoorQ044
import Derived.Test.YtcdedkgkingbdaaGreatDoorCards
import Derived.Test.YtcdedkgkingbdaaGreatDoorTie
import Derived.ProofKit
import Derived.OpenShut
import Derived.SevenTiedAt
namespace Go.Proofs.YtcdedkgkingbdaaGreatDoor.replayApart
open Go Go.ChangeShapes Go.WideShapes Go.ChangeAt Go.RowKit Go.Proofs.YtcdedkgkingbdaaGreatDoor.object Go.Proofs.YtcdedkgkingbdaaGreatDoor.prn Go.Proofs.YtcdedkgkingbdaaGreatDoor.rep

def Arg1 (w : World) (a : Option Addr) (len _cap : Nat) : Prop := ∃ T, ArgA w a len T
theorem opened1 {H : Type} {enc : TypeId × Value → H} {w : World} {spare : Nat → Bool} {held : Bool} {a : Option Addr} {len cap : Nat} {d : DataW H} {p : List MemPlace} (h : DataW.Trod enc Tryz.prog w 0 spare held 22 (.slice a len cap) d p) : Arg1 w a len cap := openedA h
abbrev Arg2 := Arg1
theorem opened2 {H : Type} {enc : TypeId × Value → H} {w : World} {spare : Nat → Bool} {held : Bool} {a : Option Addr} {len cap : Nat} {d : DataW H} {p : List MemPlace} (h : DataW.Trod enc Tryz.prog w 0 spare held 22 (.slice a len cap) d p) : Arg2 w a len cap := openedA h

/-- A line, and what it came to by an op: its commands go on, or stay. -/
theorem do_any {B : Nat} {F : Nat → Prop} {w : World} {b fl : Nat} {k : Int} {C : List Cm} (h : Ln B F w b k C fl) (q : OpO) (hs : q.Short) (hg : ∀ x : Ob, (x.act q).2.1 = 0 → OpO.Good q) (hC : C.length ≤ 10000) :
    Calls Tryz.prog 17 #[.pointer (some ⟨b, 0, none⟩), .agg (cmdC q 0)] w fun en w' => ∃ e g D, en = .returned (.agg #[.int .i64 e, .string g]) ∧ Ln B (fun j => F j ∨ w.heap.size ≤ j) w' b k (C ++ D) fl ∧ D.length ≤ 1 ∧ Turn F w w' := by
  refine (ldo_calls h q hs hC (hg _)).mono ?_
  rintro en w' (⟨_, rfl, s, t⟩ | ⟨_, rfl, s, t⟩)
  · exact ⟨_, _, [⟨q, 0⟩], rfl, s, Nat.le_refl _, t⟩
  · exact ⟨_, _, [], rfl, by rw [List.append_nil]; exact s.more (fun j _ e => .inl e), Nat.zero_le _, t⟩
theorem few_parts (o : OpO) (ho : o.Fits) : ∃ ok tk ta tx tn lk ls lt ln sk ss sn, (OpO.Short ⟨ok, ⟨tk, ta, tx, tn⟩, ⟨lk, ls, lt, ln⟩, ⟨sk, ss, sn⟩⟩ ∧ ∀ x : Ob, (x.act ⟨ok, ⟨tk, ta, tx, tn⟩, ⟨lk, ls, lt, ln⟩, ⟨sk, ss, sn⟩⟩).2.1 = 0 → OpO.Good ⟨ok, ⟨tk, ta, tx, tn⟩, ⟨lk, ls, lt, ln⟩, ⟨sk, ss, sn⟩⟩) ∧
    ∀ V, Calls Tryz.prog 22 #[.agg o.cells] V fun en w' => en = .returned (.agg #[.int .i64 ok, .int .i64 tk, .int .i64 ta, .string tx, .int .i64 tn, .int .i64 lk, .string ls, .string lt, .int .i64 ln, .int .i64 sk, .string ss, .int .i64 sn]) ∧ Below V.heap.size V w' :=
  ⟨o.few.k, o.few.t.k, o.few.t.a, o.few.t.x, o.few.t.n, o.few.l.k, o.few.l.s, o.few.l.t, o.few.l.n, o.few.s.k, o.few.s.s, o.few.s.n, ⟨o.few_short, fun _ h => few_good h⟩, fun V => ofew_calls o V ho⟩

/-- Two lines: each has blocks of its own. -/
structure Two (w V0 : World) (b nb : Nat) (k : Int) (C D : List Cm) (V : World) : Prop where
  l : Ln w.heap.size (fun j => w.heap.size ≤ j ∧ j < V0.heap.size) V b k C 0
  m : Ln w.heap.size (fun j => V0.heap.size ≤ j) V nb k D 0
  bel : Below w.heap.size w V
  sz : V0.heap.size ≤ V.heap.size
theorem Two.below {w V0 V V' : World} {b nb : Nat} {k : Int} {C D : List Cm} (h : Two w V0 b nb k C D V) (t : Below V.heap.size V V') : Two w V0 b nb k C D V' :=
  ⟨h.l.below t, h.m.below t, h.bel.trans (t.mono h.bel.size), Nat.le_trans h.sz t.size⟩
theorem Two.next {w V0 V V' : World} {b nb : Nat} {k : Int} {C D D' : List Cm} (h : Two w V0 b nb k C D V) (hw : w.heap.size ≤ V0.heap.size) (s : Ln w.heap.size (fun j => V0.heap.size ≤ j ∨ V.heap.size ≤ j) V' nb k D' 0) (t : Turn (fun j => V0.heap.size ≤ j) V V') : Two w V0 b nb k C D' V' :=
  ⟨h.l.turn t (fun j hj _ e => by omega) (fun j e => by omega), s.more (fun j _ e => e.elim id (fun x => Nat.le_trans h.sz x)), h.bel.trans (t.below h.bel.size (fun j hj e => by omega)), Nat.le_trans h.sz t.size⟩

set_option maxRecDepth 100000 in
set_option maxHeartbeats 8000000 in
theorem walk (n : Int) (a1 : Option Addr) (len1 cap1 : Nat) (a2 : Option Addr) (len2 cap2 : Nat) (x : Int) (w : World) (_hn : (Lit.int .i64 n).wf = true) (hA1 : Arg1 w a1 len1 cap1) (hA2 : Arg2 w a2 len2 cap2) (hx : (Lit.int .i64 x).wf = true) (hP : Pw w) :
    Calls Tryz.prog 5 #[.int .i64 n, .slice a1 len1 cap1, .slice a2 len2 cap2, .int .i64 x] w fun en w' => en = .returned (.bool true) ∧ Below w.heap.size w w' := by
  obtain ⟨T1, hT1⟩ := hA1
  obtain ⟨T2, hT2⟩ := hA2
  have HT1 := Lib.hid hT1
  have HT2 := Lib.hid hT2
  have hlb1 : (len1 : Int) ≤ 9223372036854775807 := by have := hT1.1; unfold maxLen at this; omega
  have hlb2 : (len2 : Int) ≤ 9223372036854775807 := by have := hT2.1; unfold maxLen at this; omega
  have HX := Lib.hid (wf_i64 hx)
  have HP := Lib.hid hP
  clear hT1 hT2 hx hP
  go_enter Tryz.func5, Tryz.ntmps5
  go_wp2_with fail
  refine (awake_calls w HP.out).mono ?_
  rintro en w1 ⟨rfl, b1⟩
  have R1 := Lib.hid (show Pw w1 ∧ Below w.heap.size w w1 from ⟨HP.out.below b1, b1⟩)
  clear b1
  go_wp2_with fail
  refine (lkind_calls n w1).mono ?_
  rintro en w2 ⟨rfl, rfl⟩
  obtain ⟨k, hk⟩ : ∃ k, k = 1 + (n.tmod 3 + 3).tmod 3 := ⟨_, rfl⟩
  rw [← hk]
  have HK : Hid (k = 1 ∨ k = 2 ∨ k = 3) := Lib.hid (by
    have := Int.tmod_lt_of_pos n (show (0:Int) < 3 by decide); have := Int.lt_tmod_of_pos n (show (0:Int) < 3 by decide)
    rw [Int.tmod_eq_emod_of_nonneg (by omega)] at hk
    omega)
  clear hk
  go_wp2_with fail
  have hR : dig.Rt w.heap.size w1 := HP.out.rt.below R1.out.2 (Nat.le_refl _)
  refine (lw_new w w1 R1.out.2 hR k HK.out).mono ?_
  rintro en w3 ⟨b, rfl, _, l3⟩
  have L3 := Lib.hid l3
  clear l3 R1 hR
  go_wp2_with fail
  go_loopw [10] (fun i wr => ∃ (i' : Nat) (C : List Cm), i = .int .i64 i' ∧ i' ≤ 12 ∧ Hid (Lw w wr b k C 0 ∧ C.length ≤ i')) (fun i _ => 12 - (intOf i).toNat)
  case atStart => exact ⟨0, [], rfl, by omega, Lib.hid ⟨L3.out, Nat.le_refl _⟩⟩
  case round =>
    clear L3
    obtain ⟨i, C, rfl, hi, HS⟩ := hrel
    have hi0 : (0 : Int) ≤ (i : Int) := by omega
    by_cases hik : i < len1 ∧ i < 12
    · obtain ⟨hi1, hi2⟩ := hik
      have hi3 : (i : Int) < (len1 : Int) := by omega
      have hi4 : (i : Int) < 12 := by omega
      have i1 : IntKind.i64.wrap ((i : Int) + 1) = (i : Int) + 1 := IntWalk.i64_in _ ⟨by omega, by omega⟩
      obtain ⟨g, p, ha, hb, hf, hc⟩ := HT1.out.at HS.out.1.2 hi1
      subst ha
      obtain ⟨o, ho⟩ : ∃ o, o = (T1 i).o := ⟨_, rfl⟩
      have hld := load_act hc
      have hfo := hf.2.2
      rw [← ho] at hld hfo
      obtain ⟨ok, tk, ta, tx, tn, lk, ls, lt, ln, sk, ss, sn, hq, hfew⟩ := few_parts o hfo
      have HQ := Lib.hid hq
      have HFW := Lib.hid hfew
      have HC := Lib.hid (show C.length ≤ 12 from by have := HS.out.2; omega)
      clear hf hc hb ho hfo hq hfew
      go_wp2_with (first
        | ((with_reducible refine at_op 41 ?_); refine dig.wpList_load_if (o := ⟨some 41, _, _, _, _, _⟩) (by kernel_rfl) 39 (.tmp 40) rfl (.pointer (some ⟨g, p + i * 15 + 3, none⟩)) rfl hld ?_)
        | fail)
      refine (HFW.out _).mono ?_
      rintro en w4 ⟨rfl, b4⟩
      have L4 := Lib.hid (HS.out.1.below b4)
      have HL := Lib.hid HS.out.2
      clear hld HS b4
      go_wp2_with fail
      refine (do_any L4.out.1 ⟨ok, ⟨tk, ta, tx, tn⟩, ⟨lk, ls, lt, ln⟩, ⟨sk, ss, sn⟩⟩ HQ.out.1 HQ.out.2 (by have := HC.out; omega)).mono ?_
      rintro en w5 ⟨e5, g5, D5, rfl, s5, d5, t5⟩
      have L5 := Lib.hid (show Lw w w5 b k (C ++ D5) 0 ∧ (C ++ D5).length ≤ i + 1 from ⟨L4.out.next s5 t5, by have := HL.out; rw [List.length_append]; omega⟩)
      clear L4 s5 t5 d5 HL HC HQ HFW
      go_wp2_with fail
      refine ⟨⟨i + 1, _, by rw [Int.natCast_add]; rfl, by omega, L5⟩, ?_⟩
      show 12 - ((i : Int) + 1).toNat < 12 - ((i : Int)).toNat
      omega
    · have L3 := Lib.hid (show Lw w wr b k C 0 ∧ C.length ≤ 12 from ⟨HS.out.1, by have := HS.out.2; omega⟩)
      clear HS
      rcases (by omega : ¬ (i : Int) < (len1 : Int) ∨ ((i : Int) < (len1 : Int) ∧ ¬ (i : Int) < 12)) with hi5 | ⟨hi5, hi6⟩
      all_goals
        obtain ⟨vb, F1, cv, hva, _⟩ := L3.out.1.1.vault
        have hle := hva.len_calls
        rw [texts_len] at hle
        obtain ⟨N, hN⟩ : ∃ N, N = C.length := ⟨_, rfl⟩
        rw [← hN] at hle
        have HN := Lib.hid hN
        have HLE := Lib.hid hle
        obtain ⟨v, hv⟩ : ∃ v : Nat, (v : Int) = min (max x 0) (N : Int) := ⟨(min (max x 0) (N : Int)).toNat, by omega⟩
        have hmin : min (max x 0) (N : Int) = (v : Int) := hv.symm
        have HV := Lib.hid (show v ≤ N ∧ v ≤ 12 from ⟨by omega, by have := L3.out.2; omega⟩)
        clear hva hle hN hv hik
        go_wp2_with fail
        refine HLE.out.mono ?_
        rintro en w5 ⟨rfl, rfl⟩
        go_wp2_with fail
        refine (L3.out.1.1.branch_calls v (Nat.zero_le _) (by have := HV.out; have := HN.out; omega) (by have := L3.out.2; omega)).mono ?_
        rintro en w6 ⟨nb, rfl, _, m6, b6⟩
        have HW0 : Hid (w.heap.size ≤ wr.heap.size) := Lib.hid L3.out.1.2.size
        have T6 : Hid (Two w wr b nb k C (C.take v) w6) := Lib.hid ⟨(L3.out.1.1.more (fun j hj e => ⟨e, hj⟩)).below b6, m6, L3.out.1.2.trans (b6.mono L3.out.1.2.size), b6.size⟩
        have HCL : Hid (C.length ≤ 12 ∧ v ≤ C.length ∧ v ≤ 12) := Lib.hid ⟨L3.out.2, by have := HV.out; have := HN.out; omega, HV.out.2⟩
        obtain ⟨mb, F2, cm, hma, _⟩ := T6.out.m.vault
        have hml := hma.len_calls
        rw [texts_len, List.length_take, Nat.min_eq_left HCL.out.2.1] at hml
        have HML := Lib.hid hml
        clear m6 b6 L3 hma hml cv HLE hmin HN HV
        go_wp2_with fail
        refine HML.out.mono ?_
        rintro en w7 ⟨rfl, rfl⟩
        go_wp2_with fail
        refine T6.out.m.kind_calls.mono ?_
        rintro en w7 ⟨rfl, b7⟩
        have T7 := Lib.hid (T6.out.below b7)
        clear T6 b7 HML cm
        go_wp2_with fail
        refine T7.out.l.save_calls.mono ?_
        rintro en w8 ⟨rfl, b8⟩
        have T8 := Lib.hid (T7.out.below b8)
        obtain ⟨was, hwas⟩ : ∃ was, was = (fold k C C.length).save := ⟨_, rfl⟩
        rw [← hwas]
        have HWAS := Lib.hid hwas
        clear T7 b8 hwas
        obtain ⟨V0, rfl⟩ : ∃ V0, V0 = wr := ⟨_, rfl⟩
        go_wp2_with fail
        go_loopw [14] (fun i wr2 => ∃ (i' : Nat) (D : List Cm), i = .int .i64 i' ∧ i' ≤ 8 ∧ Hid (Two w V0 b nb k C (C.take v ++ D) wr2 ∧ D.length ≤ i')) (fun i _ => 8 - (intOf i).toNat)
        case atStart => exact ⟨0, [], rfl, by omega, Lib.hid ⟨by rw [List.append_nil]; exact T8.out, Nat.le_refl _⟩⟩
        case round =>
          clear T8
          obtain ⟨i2, D, rfl, hi2', HS⟩ := hrel
          have hi20 : (0 : Int) ≤ (i2 : Int) := by omega
          by_cases hik : i2 < len2 ∧ i2 < 8
          · obtain ⟨hi1, hi2⟩ := hik
            have hi3 : (i2 : Int) < (len2 : Int) := by omega
            have hi4 : (i2 : Int) < 8 := by omega
            have i1 : IntKind.i64.wrap ((i2 : Int) + 1) = (i2 : Int) + 1 := IntWalk.i64_in _ ⟨by omega, by omega⟩
            obtain ⟨g, p, ha, hb, hf, hc⟩ := HT2.out.at HS.out.1.bel hi1
            subst ha
            obtain ⟨o, ho⟩ : ∃ o, o = (T2 i2).o := ⟨_, rfl⟩
            have hld := load_act hc
            have hfo := hf.2.2
            rw [← ho] at hld hfo
            obtain ⟨ok, tk, ta, tx, tn, lk, ls, lt, ln, sk, ss, sn, hq, hfew⟩ := few_parts o hfo
            have HQ := Lib.hid hq
            have HFW := Lib.hid hfew
            have HC := Lib.hid (show (C.take v ++ D).length ≤ 20 from by have := HS.out.2; have := HCL.out; rw [List.length_append, List.length_take]; omega)
            clear hf hc hb ho hfo hq hfew
            go_wp2_with (first
              | ((with_reducible refine at_op 93 ?_); refine dig.wpList_load_if (o := ⟨some 93, _, _, _, _, _⟩) (by kernel_rfl) 39 (.tmp 92) rfl (.pointer (some ⟨g, p + i2 * 15 + 3, none⟩)) rfl hld ?_)
              | fail)
            refine (HFW.out _).mono ?_
            rintro en w4 ⟨rfl, b4⟩
            have L4 := Lib.hid (HS.out.1.below b4)
            have HL := Lib.hid HS.out.2
            clear hld HS b4
            go_wp2_with fail
            refine (do_any L4.out.m ⟨ok, ⟨tk, ta, tx, tn⟩, ⟨lk, ls, lt, ln⟩, ⟨sk, ss, sn⟩⟩ HQ.out.1 HQ.out.2 (by have := HC.out; omega)).mono ?_
            rintro en w5 ⟨e5, g5, D5, rfl, s5, d5, t5⟩
            rw [List.append_assoc] at s5
            have L5 := Lib.hid (show Two w V0 b nb k C (C.take v ++ (D ++ D5)) w5 ∧ (D ++ D5).length ≤ i2 + 1 from ⟨L4.out.next HW0.out s5 t5, by have := HL.out; rw [List.length_append]; omega⟩)
            clear L4 s5 t5 d5 HL HC HQ HFW
            go_wp2_with fail
            refine ⟨⟨i2 + 1, _, by rw [Int.natCast_add]; rfl, by omega, L5⟩, ?_⟩
            show 8 - ((i2 : Int) + 1).toNat < 8 - ((i2 : Int)).toNat
            omega
          · have T8 := Lib.hid (show Two w V0 b nb k C (C.take v ++ D) _ ∧ (C.take v ++ D).length ≤ 20 from ⟨HS.out.1, by have := HS.out.2; have := HCL.out; rw [List.length_append, List.length_take]; omega⟩)
            clear HS
            rcases (by omega : ¬ (i2 : Int) < (len2 : Int) ∨ ((i2 : Int) < (len2 : Int) ∧ ¬ (i2 : Int) < 8)) with hi5 | ⟨hi5, hi6⟩
            all_goals
              clear hik
              go_wp2_with fail
              go_loopw [15] (fun i wr2 => ∃ (i' : Nat), i = .int .i64 i' ∧ i' ≤ v + 1 ∧ Hid (Two w V0 b nb k C (C.take v ++ D) wr2)) (fun i _ => v + 1 - (intOf i).toNat)
              case atStart => exact ⟨0, rfl, by omega, Lib.hid T8.out.1⟩
              case round =>
                obtain ⟨i3, rfl, hi3', HS⟩ := hrel
                have HDL := Lib.hid T8.out.2
                clear T8
                by_cases hiv : i3 ≤ v
                · have hiv2 : (i3 : Int) ≤ (v : Int) := by omega
                  have i1 : IntKind.i64.wrap ((i3 : Int) + 1) = (i3 : Int) + 1 := IntWalk.i64_in _ ⟨by omega, by have := HCL.out; omega⟩
                  go_wp2_with fail
                  refine (HS.out.l.asof_ok i3 (Nat.zero_le _) (by have := HCL.out; omega) (by have := HCL.out; omega)).mono ?_
                  rintro en w9 ⟨rfl, b9⟩
                  have T9 := Lib.hid (HS.out.below b9)
                  clear HS b9
                  go_wp2_with fail
                  refine (T9.out.m.asof_ok i3 (Nat.zero_le _) (by rw [List.length_append, List.length_take]; have := HCL.out; omega) (by have := HDL.out; omega)).mono ?_
                  rw [fold_app (by rw [List.length_take]; have := HCL.out; omega), fold_take hiv]
                  obtain ⟨sv, hsv⟩ : ∃ sv, sv = (fold k C i3).save := ⟨_, rfl⟩
                  rw [← hsv]
                  rintro en w10 ⟨rfl, b10⟩
                  have T10 := Lib.hid (T9.out.below b10)
                  clear T9 b10 hsv
                  go_wp2_with fail
                  refine ⟨⟨i3 + 1, by rw [Int.natCast_add]; rfl, by omega, T10⟩, ?_⟩
                  show v + 1 - ((i3 : Int) + 1).toNat < v + 1 - ((i3 : Int)).toNat
                  omega
                · have hiv2 : ¬ (i3 : Int) ≤ (v : Int) := by omega
                  go_wp2_with fail
                  refine HS.out.l.save_calls.mono ?_
                  rw [← HWAS.out]
                  rintro en w11 ⟨rfl, b11⟩
                  have T11 := Lib.hid (HS.out.below b11)
                  clear HS b11
                  go_wp2_with fail
                  go_ret
                  exact ⟨by simp, T11.out.bel⟩
theorem own : ownKnob Tryz.prog.godebug = none := by kernel_rfl
theorem laidOut : laidOutB Tryz.prog = true := by kernel_rfl

set_option maxRecDepth 100000 in
theorem lifted (os : Os) (started : os.Started) (H : Type) (enc : TypeId × Value → H) :
    ReturnsInHanded {} Tryz.checked os 5 .any (fun w args => (Rows.replayApartSpec.pre enc Tryz.prog Tryz.f5 [] false w args ∧ laidMetH Tryz.prog Rows.replayApartRow.laid w) ∧ sizedMet enc Tryz.prog Tryz.f5 (OpenSpec.ofChange Rows.replayApartSpec) false w args)
      (Rows.replayApartSpec.post enc Tryz.prog Tryz.f5 false true false false) := by
  refine returnsInHanded_of_change_and (C := Tryz.checked) (X := fun w _ => laidMetH Tryz.prog Rows.replayApartRow.laid w) (fun _ _ _ hh h => h.of_heap hh) own started (by kernel_rfl) Tryz.func5
    (ChangeSpec.witness_shaped (enc := enc) (C := Tryz.checked) (os := os) (X := fun w _ => laidMetH Tryz.prog Rows.replayApartRow.laid w) false (World.doorLaid Tryz.prog 31 os) #[.int .i64 0, .slice none 0 0, .slice none 0 0, .int .i64 0] 8 rfl (door_shaped os _) (by kernel_rfl) (by kernel_rfl) (by kernel_rfl) (door_met os _)) ?_
  intro W base args ds gs before hval0 hW _ _ hL _
  have hval : ∀ (j : Nat) t v, Tryz.f5.params[j]? = some t → args[j]? = some v → Value.okWide Tryz.prog W .any base t v := hval0
  have hW' := hW
  obtain ⟨p, q, hA0, hV, rfl, _, _⟩ := hW
  have hA : DataW.TrodAll enc Tryz.prog W 0 (fun _ => true) true Tryz.f5.params.toList args.toList ds p := hA0
  rw [Tryz.params5] at hA hval
  obtain ⟨v0, vs0, d0, ds0, p0, q0, hargs, rfl, rfl, h0, r0⟩ := trodAll_cons hA
  obtain ⟨v1, vs1, d1, ds1, p1, q1, rfl, rfl, rfl, h1, r1⟩ := trodAll_cons r0
  obtain ⟨v2, vs2, d2, ds2, p2, q2, rfl, rfl, rfl, h2, r2⟩ := trodAll_cons r1
  obtain ⟨v3, vs3, d3, ds3, p3, q3, rfl, rfl, rfl, h3, r3⟩ := trodAll_cons r2
  obtain ⟨rfl, rfl, rfl⟩ := trodAll_nil r3
  obtain rfl : args = #[v0, v1, v2, v3] := by cases args; simp_all
  obtain ⟨rfl, rfl⟩ := trodVars_none hV
  obtain ⟨a0, rfl, rfl, rfl, w0⟩ := open_int Tryz.underlying3 (hval 0 3 v0 rfl rfl) h0
  obtain ⟨a1, len1, cap1, rfl⟩ := okWide_slice Tryz.underlying22 (hval 1 22 v1 rfl rfl)
  have k1 := h1
  have lt1 : ∀ x ∈ p1, x.block < W.heap.size := by obtain ⟨m, hm⟩ := k1; exact DataW.trod_lt m _ _ _ hm
  have w1 : Arg1 W a1 len1 cap1 := opened1 h1
  obtain ⟨a2, len2, cap2, rfl⟩ := okWide_slice Tryz.underlying22 (hval 2 22 v2 rfl rfl)
  have k2 := h2
  have lt2 : ∀ x ∈ p2, x.block < W.heap.size := by obtain ⟨m, hm⟩ := k2; exact DataW.trod_lt m _ _ _ hm
  have w2 : Arg2 W a2 len2 cap2 := opened2 h2
  obtain ⟨a3, rfl, rfl, rfl, w3⟩ := open_int Tryz.underlying3 (hval 3 3 v3 rfl rfl) h3
  clear hA0 hval0
  refine (walk a0 a1 len1 cap1 a2 len2 cap2 a3 W w0 w1 w2 w3 (pw_of_laid hL)).mono fun e W' ⟨he, bel⟩ => ?_
  subst he
  exact ⟨_, rfl, _, _, _, [], _, [], hW', trodAll_mk1 (shut_bool Tryz.underlying4 _), (trodAll_cons_mk (shut_int Tryz.underlying3 w0) (trodAll_cons_mk (Below.trod laidOut (by kernel_rfl) (of_decide_eq_true (by kernel_rfl)) k1 bel lt1) (trodAll_cons_mk (Below.trod laidOut (by kernel_rfl) (of_decide_eq_true (by kernel_rfl)) k2 bel lt2) (trodAll_cons_mk (shut_int Tryz.underlying3 w3) trodAll_mk0)))), rfl, bel.frame _, fun h => by cases h⟩

theorem over : Rows.replayApartRow.holds Tryz.pinned (OpenSpec.ofChange Rows.replayApartSpec) :=
  OpenClaim.holds_of_wide 5 Tryz.f5 rfl rfl rfl rfl rfl rfl rfl ⟨rfl, rfl, rfl, rfl, rfl⟩ rfl rfl rfl rfl rfl (by kernel_rfl) Tryz.func5 (by kernel_rfl)
    (of_decide_eq_true (by kernel_rfl)) (by unfold Func.isWrapper; first | (rw [if_pos (by decide +kernel)]; kernel_rfl) | (rw [if_neg (by decide +kernel)]; exact ⟨rfl, rfl⟩))
    (fun os started H enc _ => lifted os started H enc)

theorem plain (f : FuncId) (fn : Func) (hf : Tryz.pinned.checked.prog.funcNamed "hindsight/hindsightlaw14.ReplayApart" = some f) (hfn : Tryz.pinned.checked.prog.funcs[f]? = some fn) :
    (true : Bool) = Tryz.pinned.checked.prog.looks [] ∧ ∀ (j : Nat) t, fn.params[j]? = some t → Tryz.pinned.checked.prog.wantsStandIn t = false := by
  obtain rfl : f = 5 := Option.some.inj ((show Tryz.prog.funcNamed "hindsight/hindsightlaw14.ReplayApart" = some 5 by kernel_rfl).symm.trans hf) |>.symm
  obtain rfl : fn = Tryz.f5 := (Option.some.inj (Tryz.func5.symm.trans hfn)).symm
  refine ⟨by kernel_rfl, fun j t ht => ?_⟩
  rw [Tryz.params5] at ht
  have hm := Array.mem_of_getElem? ht
  simp only [List.mem_toArray, List.mem_cons, List.not_mem_nil, or_false] at hm
  rcases hm with rfl | rfl | rfl | rfl
  · exact (show Tryz.prog.wantsStandIn 3 = false by kernel_rfl)
  · exact (show Tryz.prog.wantsStandIn 22 = false by kernel_rfl)
  · exact (show Tryz.prog.wantsStandIn 22 = false by kernel_rfl)
  · exact (show Tryz.prog.wantsStandIn 3 = false by kernel_rfl)

theorem card : Rows.ReplayApartCardSaid :=
  Claim7.holds_tied_plain_at .later [] _ _ _ _ over (fun _ h => by cases h) (by kernel_rfl) (fun _ h => by cases h) replayApart_row_tie rfl ⟨rfl, rfl⟩ (by kernel_rfl) rfl plain (by kernel_rfl)

theorem proved : Rows.ReplayApartCardSaid := card
end Go.Proofs.YtcdedkgkingbdaaGreatDoor.replayApart
