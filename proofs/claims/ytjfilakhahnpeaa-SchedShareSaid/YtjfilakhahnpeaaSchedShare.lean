/- SchedShare: for any paces and any number the law answers true, and its arguments read afterwards as they did. Conditions: none. -/
import Derived.Test.YtjfilakhahnpeaaSchH
import Derived.Test.YtjfilakhahnpeaaSchP
import Derived.Test.YtjfilakhahnpeaaSchI
import Derived.ProofKit
import Derived.OpenShut
import Derived.ChangeOld
namespace Go.Proofs.Ytjfilakhahnpeaa.schedShare
open Go Go.ChangeShapes Go.WideShapes Go.ChangeAt Go.RowKit Go.Proofs.Ytjfilakhahnpeaa.sch

/-- Behind k turns. -/
structure Sr (w : World) (s q : Nat) (v : Value) (m : Nat) (P : List Int) (K : Int) (k : Nat) (a : Ab) (had : Nat → Nat) (W : World) : Prop where
  nw : ∃ r, Nw w s q r v a W
  inv : sch.Inv K a.P.length a
  paces : a.P = P
  sh : Sh a had
  hd : Hd w m had k W
  few : ∀ i, had i ≤ k

theorem Sr.drewN {w W : World} {s q : Nat} {v : Value} {m : Nat} {P : List Int} {K : Int} {k : Nat} {a : Ab} {had : Nat → Nat} (h : Sr w s q v m P K k a had W) (n : Nat) : Sr w s q v m P K k a had (W.drewN n) := by
  obtain ⟨r, hr⟩ := h.nw
  exact ⟨⟨r, hr.drewN n⟩, h.inv, h.paces, h.sh, h.hd.drewN n, h.few⟩

set_option maxRecDepth 100000 in
set_option maxHeartbeats 4000000 in
theorem share_any (ad : Option Addr) (len cap : Nat) (T : Nat → Int) (t0 : Int) (w : World) (hA : ArgI w ad len cap T) : Calls Try.prog 8 #[.slice ad len cap, .int .i64 t0] w fun en w' => en = .returned (.bool true) ∧ Below w.heap.size w w' := by
  obtain ⟨t1, ht1⟩ : ∃ t1, t1 = if t0 < 0 then 0 else t0 := ⟨_, rfl⟩
  obtain ⟨M, hM1, hM2⟩ : ∃ M : Nat, (M : Int) = (if 200 < t1 then 200 else t1) ∧ M ≤ 200 := ⟨(if 200 < t1 then 200 else t1).toNat, by split at ht1 <;> split <;> omega, by split at ht1 <;> split <;> omega⟩
  have m1 : (if t0 < 0 then 0 else t0) = t1 := ht1.symm
  have m2 : (if 200 < t1 then 200 else t1) = (M : Int) := hM1.symm
  clear ht1 hM1
  have HA := Lib.hid hA
  obtain ⟨n, hn⟩ : ∃ n, n = min len 6 := ⟨_, rfl⟩
  have hn6 : n ≤ 6 := by omega
  have HN := Lib.hid hn
  clear hA hn
  go_enter Try.func8, Try.ntmps8
  go_wp2_with (first
    | (go_at_call 24; refine (awake_calls w).mono ?_; rintro en w1 ⟨rfl, b1⟩
       have hA1 : ArgI w1 ad len cap T := ⟨HA.out.1, HA.out.2.1, fun i hi => by
         obtain ⟨b, o, e, hb, hc, hr⟩ := HA.out.2.2 i hi
         have := b1.size
         exact ⟨b, o, e, by omega, (Turn.cell (p := ⟨b, o + i, none⟩) (Turn.of_below b1 (F := fun j => w.heap.size ≤ j) (fun _ _ e => e)) hb (Nat.not_le_of_lt hb)).trans hc, hr⟩⟩
       have T1 : Hid (Turn (fun j => w.heap.size ≤ j) w w1) := Lib.hid (Turn.of_below b1 (fun _ _ e => e))
       have HF1 := Lib.hid (few_calls ad len cap w1 hA1.1 hA1.2.1)
       have HS1 : Hid (Sl w1 ad (lst T n)) := Lib.hid (Sl.of_arg hA1 (by have := HN.out; omega))
       clear b1 hA1)
    | (go_at_call 25; refine HF1.out.mono ?_; rw [← HN.out]; rintro en w2 ⟨rfl, rfl⟩)
    | (go_at_call 26
       refine (sch.new_calls w1 ad n cap (lst T n) (lst_len T n) (by omega) HS1.out).mono ?_
       rintro en w4 ⟨s, q, r, v, rfl, n4⟩
       have hI4 := (made_inv (lst T n) (by rw [lst_len]; omega))
       have N4 := Lib.hid (n4.since T1.out)
       have I4 : Hid (sch.Inv (n : Int) (made (lst T n)).P.length (made (lst T n)) ∧ (made (lst T n)).P = (lst T n).map bnd ∧ (made (lst T n)).T = 0) := Lib.hid (by
         have h1 := hI4.1
         rw [lst_len] at h1
         exact ⟨h1, hI4.2⟩)
       have hrun0 := run_makeMap (P := Try.prog) 55 w4
       have HM : Hid (Mv (w4.alloc (.map #[] 0)) w4.heap.size (.map [])) := Lib.hid (mv_tight (World.ownsMap_made (H := Value) w4 Try.prog 3 anyR))
       clear n4 hI4)
    | fail)
  go_name_world W hW
  obtain ⟨m, hm⟩ : ∃ m, m = w4.heap.size := ⟨_, rfl⟩
  obtain ⟨a4, ha4⟩ : ∃ a4, a4 = made (lst T n) := ⟨_, rfl⟩
  have S0 : Hid (Sr w s q v m ((lst T n).map bnd) n 0 a4 (fun _ => 0) W) := by
    rw [← hW, ha4, hm]
    refine Lib.hid ⟨⟨r, N4.out.below ((Below.refl _ w4).alloc (Nat.le_refl _) _)⟩, I4.out.1, I4.out.2.1, Sh.start (by rw [lst_len]; omega), ⟨⟨_, HM.out, fun _ => rfl, Nat.le_refl _⟩, N4.out.turn.size⟩, fun _ => Nat.le_refl _⟩
  have hT4 : a4.T = 0 := by rw [ha4]; exact I4.out.2.2
  have HB4 : Hid (Turn (fun j => w.heap.size ≤ j) w W) := by rw [← hW]; exact Lib.hid (N4.out.turn.alloc _)
  rw [← hm]
  clear hW hm ha4 hrun0 HM N4 I4 HF1 HS1 T1
  go_loopw [7, 22] (fun y x wr => ∃ (k : Nat) (a : Ab) (had : Nat → Nat), x = .int .i64 k ∧ y = .int .i64 a.T ∧ k ≤ M ∧ Hid (Sr w s q v m ((lst T n).map bnd) (n + 2 * k : Nat) k a had wr)) (fun _ x _ => M - (RowKit.intOf x).toNat)
  case atStart => exact ⟨0, a4, _, rfl, by rw [hT4], Nat.zero_le _, by simpa using S0⟩
  case round =>
    clear S0 hT4
    obtain ⟨k, a, had, rfl, rfl, hk, HS⟩ := hrel
    obtain ⟨r, hN⟩ := HS.out.nw
    by_cases hk1 : k < M
    case pos =>
      have h1 : (k : Int) < (M : Int) := by omega
      cases e : a.S with
      | nil =>
        have HN := Lib.hid (hN.next_none e)
        have HN0 := Lib.hid hN
        clear e hN
        go_wp2_with (first
          | (go_at_call 34; refine HN.out.mono ?_; rintro en w9 ⟨rfl, r9, n9, rr9, t9⟩
             have S9 : Hid (Sr w s q v m ((lst T n).map bnd) (n + 2 * k : Nat) k a had w9) := Lib.hid ⟨⟨r9, n9⟩, HS.out.inv, HS.out.paces, HS.out.sh, HS.out.hd.sched HN0.out (t9.more (fun j _ e => .inr e)), HS.out.few⟩
             clear n9 rr9 t9)
          | fail)
        have hk9 : Hid (((n + 2 * k : Nat) : Int) ≤ 500) := Lib.hid (by omega)
        clear HN HN0
        generalize ((n + 2 * k : Nat) : Int) = K9 at *
        generalize k = k9 at *
        go_loopw [54] (fun x wr => ∃ i : Nat, x = .int .i64 i ∧ i ≤ n ∧ Hid (Sr w s q v m ((lst T n).map bnd) K9 k9 a had wr)) (fun x _ => n - (RowKit.intOf x).toNat)
        case atStart => exact ⟨0, rfl, Nat.zero_le _, S9⟩
        case round =>
          clear S9
          obtain ⟨i, rfl, hi, HS⟩ := hrel
          by_cases hi1 : i < n
          case pos =>
            have h2 : (i : Int) < (n : Int) := by omega
            obtain ⟨r, hN⟩ := HS.out.nw
            obtain ⟨b, o, rfl, hb, hc, _⟩ := HA.out.2.2 i (by have := HN.out; omega)
            have hc' : wr.cell? ⟨b, o + i, none⟩ = some (.int .i64 (T i)) := (Turn.cell (p := ⟨b, o + i, none⟩) hN.turn hb (Nat.not_le_of_lt hb)).trans hc
            have hil : i < a.P.length := by rw [HS.out.paces, List.length_map, lst_len]; exact hi1
            have hpi : pace a.P i = bnd (T i) := by
              rw [HS.out.paces]
              refine pace_get ?_
              unfold lst
              rw [List.getElem?_map, List.getElem?_map, List.getElem?_range hi1]
              rfl
            have hlook := HS.out.hd.look i (by omega)
            have hlook' := fun nn => (HS.out.hd.drewN nn).look i (by omega)
            have HPC := Lib.hid (pace_calls (T i) wr)
            have hpr := bnd_range (T i)
            obtain ⟨p, hp⟩ : ∃ p, p = bnd (T i) := ⟨_, rfl⟩
            rw [← hp] at HPC hpi hpr
            have HB1 := Lib.hid hN.ends
            by_cases hp0 : p = 0
            case pos =>
              have hz : had i = 0 := HS.out.sh.none i (fun _ => by rw [hpi, hp0])
              rw [hz] at hlook
              have hlook2 : (Instr.lookup 55 (.map (some m)) (.int .i64 i) false).run Try.prog wr = .ok (.int .i64 0) wr := hlook
              rw [hp0] at HPC
              clear hlook hlook' hc hb hz hpr hpi hp hil
              subst hp0
              go_wp2_with (first
                | (go_at_call 35; refine HPC.out.mono ?_; rintro en w10 ⟨rfl, rfl⟩)
                | fail)
              refine ⟨⟨i + 1, by rw [Int.natCast_add]; rfl, by omega, HS⟩, ?_⟩
              show n - ((i : Int) + 1).toNat < n - ((i : Int)).toNat
              omega
            case neg =>
              obtain ⟨e1, e2⟩ := HS.out.sh.ends HS.out.inv hil (by rw [hpi]; omega)
              rw [hpi] at e1 e2
              have ht0 := HS.out.inv.t0
              have ht1 : a.T ≤ 1000 * 1048576 := by have := HS.out.inv.tk; have := hk9.out; omega
              obtain ⟨q1, hq1⟩ : ∃ q1, q1 = a.T.tdiv p := ⟨_, rfl⟩
              obtain ⟨q2, hq2⟩ : ∃ q2, q2 = (a.T - 1).tdiv p := ⟨_, rfl⟩
              obtain ⟨c, hcd⟩ : ∃ c : Int, c = (had i : Int) := ⟨_, rfl⟩
              rw [← hq1, ← hcd] at e1
              rw [← hq2, ← hcd] at e2
              rw [← hcd] at hlook
              have hlookN : ∀ nn, (Instr.lookup 55 (.map (some m)) (.int .i64 i) false).run Try.prog (wr.drewN nn) = .ok (.int .i64 c) (wr.drewN nn) := fun nn => by rw [hcd]; exact hlook' nn
              clear hlook'
              have d1 : a.T.tdiv p = q1 := hq1.symm
              have d2 : (a.T - 1).tdiv p = q2 := hq2.symm
              have d3 : IntKind.i64.wrap (a.T - 1) = a.T - 1 := IntWalk.i64_in _ (by omega)
              have hq1b : 0 ≤ q1 ∧ q1 ≤ a.T := by rw [hq1]; exact ⟨Int.tdiv_nonneg ht0 (by omega), Int.tdiv_le_self _ ht0⟩
              have hq2b : -1 ≤ q2 ∧ q2 ≤ q1 := by
                refine ⟨?_, by omega⟩
                rw [hq2]
                by_cases hT0 : a.T = 0
                · rw [hT0, show (0 : Int) - 1 = -1 by omega, Int.neg_tdiv]
                  have := Int.tdiv_le_self (a := 1) p (by omega)
                  omega
                · have := Int.tdiv_nonneg (a := a.T - 1) (b := p) (by omega) (by omega)
                  omega
              have v1 : IntKind.i64.wrap q1 = q1 := IntWalk.i64_in _ (by omega)
              have v2 : IntKind.i64.wrap q2 = q2 := IntWalk.i64_in _ (by omega)
              have g1 : ¬ q1 < c := by omega
              have g2 : ¬ c < q2 := by omega
              have b1 : decide (q1 < c) = false := decide_eq_false g1
              have b2 : decide (c < q2) = false := decide_eq_false g2
              have hp2 : (p == 0) = false := by simpa using hp0
              have HX := Lib.hid (And.intro e1 e2)
              clear hc hb hpr hpi hp hil hq1 hq2 hcd e1 e2 ht0 ht1 hq1b hq2b
              generalize a.T = TT at *
              go_wp2_with (first
                | (go_at_call 35; refine HPC.out.mono ?_; rintro en w10 ⟨rfl, rfl⟩)
                | fail)
              go_quiet (fail)
              go_wp2_with fail
              refine ⟨⟨i + 1, by rw [Int.natCast_add]; rfl, by omega, HS.out.drewN _⟩, ?_⟩
              show n - ((i : Int) + 1).toNat < n - ((i : Int)).toNat
              omega
          case neg =>
            obtain rfl : i = n := by omega
            obtain ⟨r, hN⟩ := HS.out.nw
            have HE := Lib.hid hN.ends
            clear HS hN
            go_wp2_with fail
            go_ret
            exact ⟨rfl, HE.out⟩
      | cons x t =>
        obtain ⟨j, j1, j2, j3, j4, j5, j6, j7, j8⟩ := HS.out.inv.next e
        have HNx := Lib.hid (hN.next_some HS.out.inv (by omega) e j1 j2)
        have HN0 := Lib.hid hN
        obtain ⟨xt, hxt⟩ : ∃ xt, xt = x.1 := ⟨_, rfl⟩
        have hT : Hid ((next a x t j).T = xt) := Lib.hid (by rw [j8, hxt])
        have hlt : ¬ xt < a.T := by omega
        have hjl : a.P.length = n := by rw [HS.out.paces, List.length_map, lst_len]
        have hjn : (j : Int) < (n : Int) := by omega
        have hjn' : ¬ (n : Int) ≤ (j : Int) := by omega
        have hj1000 : j ≤ 1000 := by omega
        have HI : Hid (sch.Inv ((n + 2 * (k + 1) : Nat) : Int) (next a x t j).P.length (next a x t j) ∧ (next a x t j).P = (lst T n).map bnd ∧ Sh (next a x t j) (bump had j)) := Lib.hid ⟨by
          rw [j7, show ((n + 2 * (k + 1) : Nat) : Int) = ((n + 2 * k : Nat) : Int) + 2 by omega]
          exact j6, by rw [j7]; exact HS.out.paces, HS.out.sh.next HS.out.inv e j1 j2 j3⟩
        have hhad : had j ≤ 500 := by have := HS.out.few j; omega
        have HFW : Hid (∀ i, bump had j i ≤ k + 1) := Lib.hid (fun i => by
          have h1 := HS.out.few j
          have h2 := HS.out.few i
          unfold bump
          split <;> omega)
        clear hjl hxt j1 j2 j3 j4 j5 j6 j7 j8 e hN
        go_wp2_with (first
          | (go_at_call 34; refine HNx.out.mono ?_; rintro en w9 ⟨rfl, r9, n9, rr9, t9⟩
             have N9 := Lib.hid n9
             have H9 : Hid (Hd w m had k w9) := Lib.hid (HS.out.hd.sched HN0.out (t9.more (fun j _ e => .inr e)))
             have hlook := H9.out.look j hj1000
             obtain ⟨w10, hrun10, h10, g10⟩ := H9.out.put (by omega) j hj1000
             have S10 : Hid (Sr w s q v m ((lst T n).map bnd) (n + 2 * (k + 1) : Nat) (k + 1) (next a x t j) (bump had j) w10) := Lib.hid ⟨⟨r9, n9.map H9.out g10⟩, HI.out.1, HI.out.2.1, HI.out.2.2, h10, HFW.out⟩
             clear n9 rr9 t9 h10 g10)
          | (go_at_call 32; refine (tick_calls N9.out.sc).mono ?_; rw [hT.out]; rintro en w11 ⟨rfl, rfl⟩)
          | fail)
        refine ⟨⟨k + 1, _, _, by rw [Int.natCast_add]; rfl, by rw [hT.out], by omega, S10⟩, ?_⟩
        show M - ((k : Int) + 1).toNat < M - ((k : Int)).toNat
        omega
    case neg =>
        have hk9 : Hid (((n + 2 * k : Nat) : Int) ≤ 500) := Lib.hid (by omega)
        have S9 := HS
        obtain rfl : k = M := by omega
        clear hN HS
        go_wp2_with fail
        generalize ((n + 2 * k : Nat) : Int) = K9 at *
        generalize hkk : k = k9 at *
        go_loopw [54] (fun x wr => ∃ i : Nat, x = .int .i64 i ∧ i ≤ n ∧ Hid (Sr w s q v m ((lst T n).map bnd) K9 k9 a had wr)) (fun x _ => n - (RowKit.intOf x).toNat)
        case atStart => exact ⟨0, rfl, Nat.zero_le _, S9⟩
        case round =>
          clear S9
          obtain ⟨i, rfl, hi, HS⟩ := hrel
          by_cases hi1 : i < n
          case pos =>
            have h2 : (i : Int) < (n : Int) := by omega
            obtain ⟨r, hN⟩ := HS.out.nw
            obtain ⟨b, o, rfl, hb, hc, _⟩ := HA.out.2.2 i (by have := HN.out; omega)
            have hc' : wr.cell? ⟨b, o + i, none⟩ = some (.int .i64 (T i)) := (Turn.cell (p := ⟨b, o + i, none⟩) hN.turn hb (Nat.not_le_of_lt hb)).trans hc
            have hil : i < a.P.length := by rw [HS.out.paces, List.length_map, lst_len]; exact hi1
            have hpi : pace a.P i = bnd (T i) := by
              rw [HS.out.paces]
              refine pace_get ?_
              unfold lst
              rw [List.getElem?_map, List.getElem?_map, List.getElem?_range hi1]
              rfl
            have hlook := HS.out.hd.look i (by omega)
            have hlook' := fun nn => (HS.out.hd.drewN nn).look i (by omega)
            have HPC := Lib.hid (pace_calls (T i) wr)
            have hpr := bnd_range (T i)
            obtain ⟨p, hp⟩ : ∃ p, p = bnd (T i) := ⟨_, rfl⟩
            rw [← hp] at HPC hpi hpr
            have HB1 := Lib.hid hN.ends
            by_cases hp0 : p = 0
            case pos =>
              have hz : had i = 0 := HS.out.sh.none i (fun _ => by rw [hpi, hp0])
              rw [hz] at hlook
              have hlook2 : (Instr.lookup 55 (.map (some m)) (.int .i64 i) false).run Try.prog wr = .ok (.int .i64 0) wr := hlook
              rw [hp0] at HPC
              clear hlook hlook' hc hb hz hpr hpi hp hil
              subst hp0
              go_wp2_with (first
                | (go_at_call 35; refine HPC.out.mono ?_; rintro en w10 ⟨rfl, rfl⟩)
                | fail)
              refine ⟨⟨i + 1, by rw [Int.natCast_add]; rfl, by omega, HS⟩, ?_⟩
              show n - ((i : Int) + 1).toNat < n - ((i : Int)).toNat
              omega
            case neg =>
              obtain ⟨e1, e2⟩ := HS.out.sh.ends HS.out.inv hil (by rw [hpi]; omega)
              rw [hpi] at e1 e2
              have ht0 := HS.out.inv.t0
              have ht1 : a.T ≤ 1000 * 1048576 := by have := HS.out.inv.tk; have := hk9.out; omega
              obtain ⟨q1, hq1⟩ : ∃ q1, q1 = a.T.tdiv p := ⟨_, rfl⟩
              obtain ⟨q2, hq2⟩ : ∃ q2, q2 = (a.T - 1).tdiv p := ⟨_, rfl⟩
              obtain ⟨c, hcd⟩ : ∃ c : Int, c = (had i : Int) := ⟨_, rfl⟩
              rw [← hq1, ← hcd] at e1
              rw [← hq2, ← hcd] at e2
              rw [← hcd] at hlook
              have hlookN : ∀ nn, (Instr.lookup 55 (.map (some m)) (.int .i64 i) false).run Try.prog (wr.drewN nn) = .ok (.int .i64 c) (wr.drewN nn) := fun nn => by rw [hcd]; exact hlook' nn
              clear hlook'
              have d1 : a.T.tdiv p = q1 := hq1.symm
              have d2 : (a.T - 1).tdiv p = q2 := hq2.symm
              have d3 : IntKind.i64.wrap (a.T - 1) = a.T - 1 := IntWalk.i64_in _ (by omega)
              have hq1b : 0 ≤ q1 ∧ q1 ≤ a.T := by rw [hq1]; exact ⟨Int.tdiv_nonneg ht0 (by omega), Int.tdiv_le_self _ ht0⟩
              have hq2b : -1 ≤ q2 ∧ q2 ≤ q1 := by
                refine ⟨?_, by omega⟩
                rw [hq2]
                by_cases hT0 : a.T = 0
                · rw [hT0, show (0 : Int) - 1 = -1 by omega, Int.neg_tdiv]
                  have := Int.tdiv_le_self (a := 1) p (by omega)
                  omega
                · have := Int.tdiv_nonneg (a := a.T - 1) (b := p) (by omega) (by omega)
                  omega
              have v1 : IntKind.i64.wrap q1 = q1 := IntWalk.i64_in _ (by omega)
              have v2 : IntKind.i64.wrap q2 = q2 := IntWalk.i64_in _ (by omega)
              have g1 : ¬ q1 < c := by omega
              have g2 : ¬ c < q2 := by omega
              have b1 : decide (q1 < c) = false := decide_eq_false g1
              have b2 : decide (c < q2) = false := decide_eq_false g2
              have hp2 : (p == 0) = false := by simpa using hp0
              have HX := Lib.hid (And.intro e1 e2)
              clear hc hb hpr hpi hp hil hq1 hq2 hcd e1 e2 ht0 ht1 hq1b hq2b
              generalize a.T = TT at *
              go_wp2_with (first
                | (go_at_call 35; refine HPC.out.mono ?_; rintro en w10 ⟨rfl, rfl⟩)
                | fail)
              go_quiet (fail)
              go_wp2_with fail
              refine ⟨⟨i + 1, by rw [Int.natCast_add]; rfl, by omega, HS.out.drewN _⟩, ?_⟩
              show n - ((i : Int) + 1).toNat < n - ((i : Int)).toNat
              omega
          case neg =>
            obtain rfl : i = n := by omega
            obtain ⟨r, hN⟩ := HS.out.nw
            have HE := Lib.hid hN.ends
            clear HS hN
            go_wp2_with fail
            go_ret
            exact ⟨rfl, HE.out⟩

def Arg0 (w : World) (a : Option Addr) (len cap : Nat) : Prop := ∃ T, ArgI w a len cap T

theorem walk (a0 : Option Addr) (len0 cap0 : Nat) (a1 : Int) (w : World) (w0 : Arg0 w a0 len0 cap0) (_w1 : (Lit.int .i64 a1).wf = true) :
    Calls Try.prog 8 #[.slice a0 len0 cap0, .int .i64 a1] w fun en w' => en = .returned (.bool true) ∧ Below w.heap.size w w' := by
  obtain ⟨T, hT⟩ := w0
  exact share_any a0 len0 cap0 T a1 w hT

theorem opened0 {H : Type} {enc : TypeId × Value → H} {w : World} {spare : Nat → Bool} {held : Bool} {a : Option Addr} {len cap : Nat} {d : DataW H} {p : List MemPlace} (h : DataW.Trod enc Try.prog w 0 spare held 59 (.slice a len cap) d p) : Arg0 w a len cap := openedI h

theorem own : ownKnob Try.prog.godebug = none := by kernel_rfl
theorem laidOut : laidOutB Try.prog = true := by kernel_rfl

set_option maxRecDepth 100000 in
theorem lifted (os : Os) (started : os.Started) (H : Type) (enc : TypeId × Value → H) :
    ReturnsInHanded {} Try.checked os 8 .any (Rows.schedShareSpec.pre6 enc Try.prog Try.f8 Rows.schedShareRow.domain false) (Rows.schedShareSpec.post enc Try.prog Try.f8 false true false false) := by
  refine returnsInHanded_of_change (C := Try.checked) own started (by kernel_rfl) Try.func8
    (ChangeSpec.witness6 (enc := enc) (C := Try.checked) false ⟨#[], #[.slice none 0 0, .int .i64 0], []⟩ 8 (by kernel_rfl) (by kernel_rfl) (by kernel_rfl) (by kernel_rfl)) ?_
  intro W base args ds gs before hval0 hW _ _
  have hval : ∀ (j : Nat) t v, Try.f8.params[j]? = some t → args[j]? = some v → Value.okWide Try.prog W .any base t v := hval0
  have hW' := hW
  obtain ⟨p, q, hA0, hV, rfl, _, _⟩ := hW
  have hA : DataW.TrodAll enc Try.prog W 0 (fun _ => true) true Try.f8.params.toList args.toList ds p := hA0
  rw [Try.params8] at hA hval
  obtain ⟨v0, vs0, d0, ds0, p0, q0, hargs, rfl, rfl, h0, r0⟩ := trodAll_cons hA
  obtain ⟨v1, vs1, d1, ds1, p1, q1, rfl, rfl, rfl, h1, r1⟩ := trodAll_cons r0
  obtain ⟨rfl, rfl, rfl⟩ := trodAll_nil r1
  obtain rfl : args = #[v0, v1] := by cases args; simp_all
  obtain ⟨rfl, rfl⟩ := trodVars_none hV
  obtain ⟨a0, len0, cap0, rfl⟩ := okWide_slice Try.underlying59 (hval 0 59 v0 rfl rfl)
  have k0 := h0
  have lt0 : ∀ x ∈ p0, x.block < W.heap.size := by obtain ⟨m, hm⟩ := k0; exact DataW.trod_lt m _ _ _ hm
  have w0 : Arg0 W a0 len0 cap0 := opened0 h0
  obtain ⟨a1, rfl, rfl, rfl, w1⟩ := open_int Try.underlying3 (hval 1 3 v1 rfl rfl) h1
  clear hA0 hval0
  refine (walk a0 len0 cap0 a1 W w0 w1).mono fun e W' ⟨he, bel⟩ => ?_
  subst he
  exact ⟨_, rfl, _, _, _, [], _, [], hW', trodAll_mk1 (shut_bool Try.underlying4 _), (trodAll_cons_mk (Below.trod laidOut (by kernel_rfl) (of_decide_eq_true (by kernel_rfl)) k0 bel lt0) (trodAll_cons_mk (shut_int Try.underlying3 w1) trodAll_mk0)), rfl, bel.frame _, fun h => by cases h⟩

theorem over : Rows.schedShareRow.holds Try.pinned (OpenSpec.ofChange Rows.schedShareSpec) :=
  OpenClaim.holds_of_wide 8 Try.f8 rfl rfl rfl rfl rfl rfl rfl ⟨rfl, rfl, rfl, rfl, rfl⟩ rfl rfl rfl rfl rfl (by kernel_rfl) Try.func8 (by kernel_rfl)
    (of_decide_eq_true (by kernel_rfl)) (by unfold Func.isWrapper; first | (rw [if_pos (by decide +kernel)]; kernel_rfl) | (rw [if_neg (by decide +kernel)]; exact ⟨rfl, rfl⟩))
    (fun os started H enc _ => lifted os started H enc)

theorem proved : Rows.SchedShareSaid := over

end Go.Proofs.Ytjfilakhahnpeaa.schedShare
