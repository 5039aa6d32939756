/- SchedSet: for any paces and any three numbers the law answers true, and its arguments read afterwards as they did. Conditions: none. -/
import Derived.Test.YtjfilakhahnpeabSchH
import Derived.Test.YtjfilakhahnpeabSchP
import Derived.ProofKit
import Derived.OpenShut
import Derived.ChangeOld
namespace Go.Proofs.Ytjfilakhahnpeab.schedSet
open Go Go.ChangeShapes Go.WideShapes Go.ChangeAt Go.RowKit Go.Proofs.Ytjfilakhahnpeab.sch

/-- Behind k turns since it was set. -/
structure Se (w : World) (s q : Nat) (v : Value) (i : Nat) (p u K : Int) (a : Ab) (W : World) : Prop where
  nw : ∃ r, Nw w s q r v a W
  inv : sch.Inv K a.P.length a
  st : sch.St a i p u

set_option maxRecDepth 100000 in
set_option maxHeartbeats 4000000 in
theorem set_any (ad : Option Addr) (len cap : Nat) (T : Nat → Int) (who0 p0 t0 : Int) (w : World) (hA : ArgI w ad len cap T) : Calls Try.prog 4 #[.slice ad len cap, .int .i64 who0, .int .i64 p0, .int .i64 t0] w fun en w' => en = .returned (.bool true) ∧ Below w.heap.size w w' := by
  obtain ⟨t1, ht1⟩ : ∃ t1, t1 = if t0 < 0 then 0 else t0 := ⟨_, rfl⟩
  obtain ⟨M, hM1, hM2⟩ : ∃ M : Nat, (M : Int) = (if 50 < t1 then 50 else t1) ∧ M ≤ 50 := ⟨(if 50 < t1 then 50 else t1).toNat, by split at ht1 <;> split <;> omega, by split at ht1 <;> split <;> omega⟩
  have m1 : (if t0 < 0 then 0 else t0) = t1 := ht1.symm
  have m2 : (if 50 < t1 then 50 else t1) = (M : Int) := hM1.symm
  clear ht1 hM1
  have HA := Lib.hid hA
  have HF := Lib.hid (few_calls ad len cap w hA.1 hA.2.1)
  obtain ⟨n, hn⟩ : ∃ n, n = min len 6 := ⟨_, rfl⟩
  rw [← hn] at HF
  have hn6 : n ≤ 6 := by omega
  have HN := Lib.hid hn
  clear hA hn
  by_cases hn0 : n = 0
  · subst hn0
    go_enter Try.func4, Try.ntmps4
    go_wp2_with (first
      | (go_at_call 6; refine (awake_calls w).mono ?_; rintro en w1 ⟨rfl, b1⟩
         have B1 := Lib.hid b1
         have hA1 : ArgI w1 ad len cap T := ⟨HA.out.1, HA.out.2.1, fun i hi => by
           obtain ⟨b, o, e, hb, hc, hr⟩ := HA.out.2.2 i hi
           have := b1.size
           exact ⟨b, o, e, by omega, (Turn.cell (p := ⟨b, o + i, none⟩) (Turn.of_below b1 (F := fun j => w.heap.size ≤ j) (fun _ _ e => e)) hb (Nat.not_le_of_lt hb)).trans hc, hr⟩⟩
         have HF1 := Lib.hid (few_calls ad len cap w1 hA1.1 hA1.2.1)
         clear b1 hA1)
      | (go_at_call 13; refine HF1.out.mono ?_; rw [← HN.out]; rintro en w2 ⟨rfl, rfl⟩)
      | fail)
    go_ret
    exact ⟨rfl, B1.out⟩
  · have hn1 : (0 : Int) < (n : Int) := by omega
    obtain ⟨x1, hx1⟩ : ∃ x1, x1 = who0.tmod (n : Int) := ⟨_, rfl⟩
    have hxb : -(n : Int) < x1 ∧ x1 < (n : Int) := by
      rw [hx1]
      refine ⟨?_, Int.tmod_lt_of_pos who0 hn1⟩
      have h1 := Int.tmod_lt_of_pos (-who0) hn1
      rw [Int.neg_tmod] at h1
      omega
    obtain ⟨i, hi⟩ : ∃ i : Nat, (i : Int) = (x1 + (n : Int)).tmod (n : Int) := ⟨((x1 + (n : Int)).tmod (n : Int)).toNat, Int.toNat_of_nonneg (Int.tmod_nonneg _ (by omega))⟩
    have hil : i < n := by
      have := Int.tmod_lt_of_pos (x1 + (n : Int)) hn1
      omega
    have r1 : who0.tmod (n : Int) = x1 := hx1.symm
    have r2 : IntKind.i64.wrap (x1 + (n : Int)) = x1 + (n : Int) := IntWalk.i64_in _ (by omega)
    have r3 : (x1 + (n : Int)).tmod (n : Int) = (i : Int) := hi.symm
    have hz1 : ¬ (n : Int) = 0 := by omega
    have hz2 : ((n : Int) == 0) = false := by simpa using hz1
    clear hx1 hi hxb
    go_enter Try.func4, Try.ntmps4
    go_wp2_with (first
      | (go_at_call 6; refine (awake_calls w).mono ?_; rintro en w1 ⟨rfl, b1⟩
         have hA1 : ArgI w1 ad len cap T := ⟨HA.out.1, HA.out.2.1, fun i hi => by
           obtain ⟨b, o, e, hb, hc, hr⟩ := HA.out.2.2 i hi
           have := b1.size
           exact ⟨b, o, e, by omega, (Turn.cell (p := ⟨b, o + i, none⟩) (Turn.of_below b1 (F := fun j => w.heap.size ≤ j) (fun _ _ e => e)) hb (Nat.not_le_of_lt hb)).trans hc, hr⟩⟩
         have T1 : Hid (Turn (fun j => w.heap.size ≤ j) w w1) := Lib.hid (Turn.of_below b1 (fun _ _ e => e))
         have HF1 := Lib.hid (few_calls ad len cap w1 hA1.1 hA1.2.1)
         have HS1 : Hid (Sl w1 ad (lst T n)) := Lib.hid (Sl.of_arg hA1 (by have := HN.out; omega))
         clear b1 hA1)
      | (go_at_call 13; refine HF1.out.mono ?_; rw [← HN.out]; rintro en w2 ⟨rfl, rfl⟩)
      | (go_at_call 14
         refine (sch.new_calls w1 ad n cap (lst T n) (lst_len T n) (by omega) HS1.out).mono ?_
         rintro en w4 ⟨s, q, r, v, rfl, n4⟩
         have hI4 := (made_inv (lst T n) (by rw [lst_len]; omega))
         have N4 := Lib.hid (n4.since T1.out)
         have I4 : Hid (sch.Inv (n : Int) (made (lst T n)).P.length (made (lst T n)) ∧ (made (lst T n)).P.length = n) := Lib.hid (by
           have h1 := hI4.1
           have h2 := hI4.2.1
           rw [lst_len] at h1
           exact ⟨h1, by rw [h2, List.length_map, lst_len]⟩)
         clear n4 hI4)
      | (go_at_call 15
         refine (N4.out.picks I4.out.1 M (by rw [Int.toNat_natCast]; omega) (by omega) (by omega)).mono ?_
         rw [Int.toNat_natCast]
         rintro en w5 ⟨u, r5, rfl, n5, i5, u5, rr5, t5⟩
         have hI5 := turns_inv M I4.out.1
         obtain ⟨a5, ha5⟩ : ∃ a5, a5 = (turns M (made (lst T n))).2 := ⟨_, rfl⟩
         rw [← ha5] at n5 hI5
         have N5 := Lib.hid n5
         have I5 : Hid (sch.Inv ((n : Int) + 2 * M) a5.P.length a5 ∧ a5.P.length = n) := Lib.hid (by
           obtain ⟨h1, h2⟩ := hI5
           rw [← h2] at h1
           exact ⟨h1, by rw [h2]; exact I4.out.2⟩)
         clear n5 i5 u5 rr5 t5 hI5 ha5)
      | (go_at_call 16; refine (tick_calls N5.out.sc).mono ?_; rintro en w6 ⟨rfl, rfl⟩)
      | (go_at_call 17
         refine (N5.out.set_in I5.out.1 (by omega) i (by rw [I5.out.2]; exact hil) p0).mono ?_
         rintro en w7 ⟨rfl, r7, n7, rr7, t7⟩
         obtain ⟨h1, h2, h3⟩ := I5.out.1.setP p0 (i := i) (by rw [I5.out.2]; exact hil)
         have h4 := sch.St.start p0 I5.out.1 (i := i) (by rw [I5.out.2]; exact hil)
         have S7 : Hid (Se w s q v i (bnd p0) (a5.T + bnd p0) ((n : Int) + 2 * M + 1) (setP a5 i p0) w7 ∧ 0 ≤ a5.T ∧ a5.T ≤ 200000000) := Lib.hid ⟨⟨⟨r7, n7⟩, (by rw [h2, List.length_set]; exact h1), h4⟩, I5.out.1.t0, (by have := I5.out.1.tk; omega)⟩
         clear n7 rr7 t7 h1 h2 h3 h4)
      | (go_at_call 18; refine (pace_calls p0 _).mono ?_; rintro en w8 ⟨rfl, rfl⟩)
      | fail)
    obtain ⟨at0, hat0⟩ : ∃ at0, at0 = a5.T := ⟨_, rfl⟩
    rw [← hat0] at S7
    rw [← hat0]
    obtain ⟨p, hp⟩ : ∃ p, p = bnd p0 := ⟨_, rfl⟩
    have hpr := bnd_range p0
    rw [← hp] at S7 hpr
    rw [← hp]
    obtain ⟨hp1, hp2⟩ := hpr
    obtain ⟨a7, ha7⟩ : ∃ a7, a7 = setP a5 i p0 := ⟨_, rfl⟩
    rw [← ha7] at S7
    have hat1 : 0 ≤ at0 := S7.out.2.1
    have hat2 : at0 ≤ 200000000 := S7.out.2.2
    have hw1 : IntKind.i64.wrap (at0 + p) = at0 + p := IntWalk.i64_in _ (by omega)
    obtain ⟨K, hK⟩ : ∃ K, K = (n : Int) + 2 * M + 1 := ⟨_, rfl⟩
    rw [← hK] at S7
    have hK1 : Hid (K ≤ 200) := Lib.hid (by omega)
    have S8 := Lib.hid S7.out.1
    clear hat0 hp ha7 hK S7 N5 I5 N4 I4 HF1 HS1 T1 r1 r2 r3 hz1 hz2
    go_loopw [46] (fun x wr => ∃ (k : Nat) (a : Ab), x = .int .i64 k ∧ k ≤ 400 ∧ Hid (Se w s q v i p (at0 + p) (K + 2 * k) a wr)) (fun x _ => 400 - (RowKit.intOf x).toNat)
    case atStart => exact ⟨0, a7, rfl, by omega, by simpa using S8⟩
    case round =>
      clear S8
      obtain ⟨k, a, rfl, hk, HS⟩ := hrel
      obtain ⟨r, hN⟩ := HS.out.nw
      by_cases hk1 : k < 400
      · have h1 : (k : Int) < 400 := by omega
        cases e : a.S with
        | nil =>
          have hp0 := HS.out.st.empty HS.out.inv e
          have HN := Lib.hid (hN.next_none e)
          subst hp0
          clear e hN HS
          go_wp2_with (first
            | (go_at_call 19; refine HN.out.mono ?_; rintro en w9 ⟨rfl, r9, n9, rr9, t9⟩
               have N9 := Lib.hid n9
               clear n9 rr9 t9)
            | fail)
          go_ret
          exact ⟨rfl, N9.out.ends⟩
        | cons x t =>
          obtain ⟨j, j1, j2, j3, j4, j5, j6, j7, j8⟩ := HS.out.inv.next e
          have HN := Lib.hid (hN.next_some HS.out.inv (by have := hK1.out; omega) e j1 j2)
          obtain ⟨f1, f2⟩ := HS.out.st.first HS.out.inv e j1 j3
          obtain ⟨xt, hxt⟩ : ∃ xt, xt = x.1 := ⟨_, rfl⟩
          have hT : Hid ((next a x t j).T = xt) := Lib.hid (by rw [j8, hxt])
          have HI : Hid (sch.Inv (K + 2 * ((k + 1 : Nat) : Int)) (next a x t j).P.length (next a x t j)) := Lib.hid (by
            rw [j7, show K + 2 * ((k + 1 : Nat) : Int) = K + 2 * (k : Int) + 2 by omega]
            exact j6)
          rw [← hxt] at f1 f2
          by_cases hji : j = i
          · obtain ⟨hq, hx⟩ := f1 hji
            subst hji
            rw [hx] at hT
            clear f1 f2 e hN HS hxt j1 j2 j3 j4 j5 j6 j7 j8 HI hx
            go_wp2_with (first
              | (go_at_call 19; refine HN.out.mono ?_; rintro en w9 ⟨rfl, r9, n9, rr9, t9⟩
                 have N9 := Lib.hid n9
                 clear n9 rr9 t9)
              | (go_at_call 16; refine (tick_calls N9.out.sc).mono ?_; rw [hT.out]; rintro en w10 ⟨rfl, rfl⟩)
              | fail)
            go_ret
            exact ⟨rfl, N9.out.ends⟩
          · obtain ⟨hle, hst⟩ := f2 hji
            have HST := Lib.hid hst
            have hji2 : ((j : Int) == (i : Int)) = false := by rw [beq_eq_false_iff_ne]; omega
            have hji3 : (j == i) = false := by rw [beq_eq_false_iff_ne]; exact hji
            by_cases hq : 0 < p
            · have hx2 : ¬ at0 + p < xt := by have := hle hq; omega
              clear hle f1 f2 e hN HS hxt j1 j2 j3 j4 j5 j6 j7 j8 hst
              go_wp2_with (first
                | (go_at_call 19; refine HN.out.mono ?_; rintro en w9 ⟨rfl, r9, n9, rr9, t9⟩
                   have N9 := Lib.hid n9
                   clear n9 rr9 t9)
                | (go_at_call 16; refine (tick_calls N9.out.sc).mono ?_; rw [hT.out]; rintro en w10 ⟨rfl, rfl⟩)
                | fail)
              refine ⟨⟨k + 1, _, by rw [Int.natCast_add]; rfl, by omega, Lib.hid ⟨⟨r9, N9.out⟩, HI.out, HST.out⟩⟩, ?_⟩
              show 400 - ((k : Int) + 1).toNat < 400 - ((k : Int)).toNat
              omega
            · clear hle f1 f2 e hN HS hxt j1 j2 j3 j4 j5 j6 j7 j8 hst
              go_wp2_with (first
                | (go_at_call 19; refine HN.out.mono ?_; rintro en w9 ⟨rfl, r9, n9, rr9, t9⟩
                   have N9 := Lib.hid n9
                   clear n9 rr9 t9)
                | (go_at_call 16; refine (tick_calls N9.out.sc).mono ?_; rw [hT.out]; rintro en w10 ⟨rfl, rfl⟩)
                | fail)
              refine ⟨⟨k + 1, _, by rw [Int.natCast_add]; rfl, by omega, Lib.hid ⟨⟨r9, N9.out⟩, HI.out, HST.out⟩⟩, ?_⟩
              show 400 - ((k : Int) + 1).toNat < 400 - ((k : Int)).toNat
              omega
      · obtain rfl : k = 400 := by omega
        have N9 := Lib.hid hN
        clear hN HS
        go_wp2_with fail
        go_ret
        exact ⟨rfl, N9.out.ends⟩

def Arg0 (w : World) (a : Option Addr) (len cap : Nat) : Prop := ∃ T, ArgI w a len cap T

theorem walk (a0 : Option Addr) (len0 cap0 : Nat) (a1 a2 a3 : Int) (w : World) (w0 : Arg0 w a0 len0 cap0) (_w1 : (Lit.int .i64 a1).wf = true) (_w2 : (Lit.int .i64 a2).wf = true) (_w3 : (Lit.int .i64 a3).wf = true) :
    Calls Try.prog 4 #[.slice a0 len0 cap0, .int .i64 a1, .int .i64 a2, .int .i64 a3] w fun en w' => en = .returned (.bool true) ∧ Below w.heap.size w w' := by
  obtain ⟨T, hT⟩ := w0
  exact set_any a0 len0 cap0 T a1 a2 a3 w hT

theorem opened0 {H : Type} {enc : TypeId × Value → H} {w : World} {spare : Nat → Bool} {held : Bool} {a : Option Addr} {len cap : Nat} {d : DataW H} {p : List MemPlace} (h : DataW.Trod enc Try.prog w 0 spare held 22 (.slice a len cap) d p) : Arg0 w a len cap := openedI h

theorem own : ownKnob Try.prog.godebug = none := by kernel_rfl
theorem laidOut : laidOutB Try.prog = true := by kernel_rfl

set_option maxRecDepth 100000 in
theorem lifted (os : Os) (started : os.Started) (H : Type) (enc : TypeId × Value → H) :
    ReturnsInHanded {} Try.checked os 4 .any (Rows.schedSetSpec.pre6 enc Try.prog Try.f4 Rows.schedSetRow.domain false) (Rows.schedSetSpec.post enc Try.prog Try.f4 false true false false) := by
  refine returnsInHanded_of_change (C := Try.checked) own started (by kernel_rfl) Try.func4
    (ChangeSpec.witness6 (enc := enc) (C := Try.checked) false ⟨#[], #[.slice none 0 0, .int .i64 0, .int .i64 0, .int .i64 0], []⟩ 8 (by kernel_rfl) (by kernel_rfl) (by kernel_rfl) (by kernel_rfl)) ?_
  intro W base args ds gs before hval0 hW _ _
  have hval : ∀ (j : Nat) t v, Try.f4.params[j]? = some t → args[j]? = some v → Value.okWide Try.prog W .any base t v := hval0
  have hW' := hW
  obtain ⟨p, q, hA0, hV, rfl, _, _⟩ := hW
  have hA : DataW.TrodAll enc Try.prog W 0 (fun _ => true) true Try.f4.params.toList args.toList ds p := hA0
  rw [Try.params4] at hA hval
  obtain ⟨v0, vs0, d0, ds0, p0, q0, hargs, rfl, rfl, h0, r0⟩ := trodAll_cons hA
  obtain ⟨v1, vs1, d1, ds1, p1, q1, rfl, rfl, rfl, h1, r1⟩ := trodAll_cons r0
  obtain ⟨v2, vs2, d2, ds2, p2, q2, rfl, rfl, rfl, h2, r2⟩ := trodAll_cons r1
  obtain ⟨v3, vs3, d3, ds3, p3, q3, rfl, rfl, rfl, h3, r3⟩ := trodAll_cons r2
  obtain ⟨rfl, rfl, rfl⟩ := trodAll_nil r3
  obtain rfl : args = #[v0, v1, v2, v3] := by cases args; simp_all
  obtain ⟨rfl, rfl⟩ := trodVars_none hV
  obtain ⟨a0, len0, cap0, rfl⟩ := okWide_slice Try.underlying22 (hval 0 22 v0 rfl rfl)
  have k0 := h0
  have lt0 : ∀ x ∈ p0, x.block < W.heap.size := by obtain ⟨m, hm⟩ := k0; exact DataW.trod_lt m _ _ _ hm
  have w0 : Arg0 W a0 len0 cap0 := opened0 h0
  obtain ⟨a1, rfl, rfl, rfl, w1⟩ := open_int Try.underlying3 (hval 1 3 v1 rfl rfl) h1
  obtain ⟨a2, rfl, rfl, rfl, w2⟩ := open_int Try.underlying3 (hval 2 3 v2 rfl rfl) h2
  obtain ⟨a3, rfl, rfl, rfl, w3⟩ := open_int Try.underlying3 (hval 3 3 v3 rfl rfl) h3
  clear hA0 hval0
  refine (walk a0 len0 cap0 a1 a2 a3 W w0 w1 w2 w3).mono fun e W' ⟨he, bel⟩ => ?_
  subst he
  exact ⟨_, rfl, _, _, _, [], _, [], hW', trodAll_mk1 (shut_bool Try.underlying4 _), (trodAll_cons_mk (Below.trod laidOut (by kernel_rfl) (of_decide_eq_true (by kernel_rfl)) k0 bel lt0) (trodAll_cons_mk (shut_int Try.underlying3 w1) (trodAll_cons_mk (shut_int Try.underlying3 w2) (trodAll_cons_mk (shut_int Try.underlying3 w3) trodAll_mk0)))), rfl, bel.frame _, fun h => by cases h⟩

theorem over : Rows.schedSetRow.holds Try.pinned (OpenSpec.ofChange Rows.schedSetSpec) :=
  OpenClaim.holds_of_wide 4 Try.f4 rfl rfl rfl rfl rfl rfl rfl ⟨rfl, rfl, rfl, rfl, rfl⟩ rfl rfl rfl rfl rfl (by kernel_rfl) Try.func4 (by kernel_rfl)
    (of_decide_eq_true (by kernel_rfl)) (by unfold Func.isWrapper; first | (rw [if_pos (by decide +kernel)]; kernel_rfl) | (rw [if_neg (by decide +kernel)]; exact ⟨rfl, rfl⟩))
    (fun os started H enc _ => lifted os started H enc)

theorem proved : Rows.SchedSetSaid := over

end Go.Proofs.Ytjfilakhahnpeab.schedSet
