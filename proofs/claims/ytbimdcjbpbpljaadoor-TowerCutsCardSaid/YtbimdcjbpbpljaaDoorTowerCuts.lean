/- TowerCuts: for every list of numbers, every two numbers the law answers true, and its arguments read afterwards as they did. Conditions: the row lists two package-level variables (both tables of math/bits), which the card ties to the program's text. -/
import Derived.Test.YtbimdcjbpbpljaaDoorTowL
import Derived.Test.YtbimdcjbpbpljaaDoorTowQ
import Derived.Test.YtbimdcjbpbpljaaDoorInts
import Derived.Test.YtbimdcjbpbpljaaDoorCards
import Derived.Test.YtbimdcjbpbpljaaDoorTie
import Derived.ProofKit
import Derived.OpenShut
import Derived.SevenTiedAt
namespace Go.Proofs.YtbimdcjbpbpljaaDoor.towerCuts
open Go.ChangeShapes Go.WideShapes Go.ChangeAt Go.RowKit Go.Proofs.YtbimdcjbpbpljaaDoor.tow Go.Proofs.YtbimdcjbpbpljaaDoor.twi

def Arg0 (w : World) (a : Option Addr) (len cap : Nat) : Prop := ∃ T, ArgI w a len cap T
theorem opened0 {H : Type} {enc : TypeId × Value → H} {w : World} {spare : Nat → Bool} {held : Bool} {a : Option Addr} {len cap : Nat} {d : DataW H} {p : List MemPlace} (h : DataW.Trod enc Tryd.prog w 0 spare held 43 (.slice a len cap) d p) : Arg0 w a len cap := openedI h

def I (i : Nat) : Int := i

set_option maxRecDepth 100000 in
set_option maxHeartbeats 2000000 in
theorem walk (a : Option Addr) (len cap : Nat) (f t : Int) (w : World) (hA : Arg0 w a len cap) (hf : (Lit.int .i64 f).wf = true) (ht : (Lit.int .i64 t).wf = true) (hZ : Tz w.heap.size w) :
    Calls Tryd.prog 7 #[.slice a len cap, .int .i64 f, .int .i64 t] w fun en w' => en = .returned (.bool true) ∧ Below w.heap.size w w' := by
  obtain ⟨T, hT⟩ := hA
  obtain ⟨hf1, hf2⟩ := wf_i64 hf
  obtain ⟨ht1, ht2⟩ := wf_i64 ht
  have HT := Lib.hid hT
  have HZ := Lib.hid hZ
  have hlen : (len : Int) ≤ 9223372036854775807 := by have := hT.1; have := hT.2.1; unfold maxLen at this; omega
  have hlen0 : (0 : Int) ≤ (len : Int) := by omega
  clear hZ hf ht hT
  go_enter Tryd.func7, Tryd.ntmps7
  go_wp2_with fail
  refine (awake_calls w HZ.out).mono ?_
  rintro en w1 ⟨rfl, b1⟩
  have B1 := Lib.hid b1
  clear b1
  go_wp2_with fail
  refine (twi.tw_new w1).mono ?_
  rintro en w2 ⟨x, rfl, hb, t2, b2⟩
  have O2 : Hid (Tw w2 x [] (fun k => w.heap.size ≤ k) ∧ Below w.heap.size w w2) := Lib.hid ⟨t2.more (fun k _ e => Nat.le_trans B1.out.size e), B1.out.trans (b2.mono B1.out.size)⟩
  clear hb t2 b2 B1
  go_wp2_with fail
  refine (twi.tw_new w2).mono ?_
  rintro en w3 ⟨y, rfl, hb, t3, b3⟩
  have O3 : Hid (Two w x (putAll T I 0) y (cutK f t (putAll T I 0)) w3) := Lib.hid (Two.of_new O2.out.2 O2.out.1 t3 b3)
  clear hb t3 b3 O2
  go_wp2_with fail
  go_loopw [9] (fun i wr => ∃ k : Nat, i = .int .i64 k ∧ k ≤ 40 ∧ k ≤ len ∧ Hid (Two w x (putAll T I k) y (cutK f t (putAll T I k)) wr)) (fun i _ => 40 - (intOf i).toNat)
  case atStart => exact ⟨0, rfl, Nat.zero_le _, Nat.zero_le _, O3⟩
  case round =>
    clear O3
    obtain ⟨k, rfl, hk40, hkl, HO⟩ := hrel
    have hk0 : (0 : Int) ≤ (k : Int) := by omega
    by_cases hlt : k < len ∧ k < 40
    · have h1 : (k : Int) < (len : Int) := by omega
      have h2 : (k : Int) < 40 := by omega
      obtain ⟨g, o, rfl, hg, c0, m0, m1⟩ := (HT.out.below HO.out.bel).2.2 k hlt.1
      obtain ⟨z, hz⟩ : ∃ z, z = T k := ⟨_, rfl⟩
      rw [← hz] at c0 m0 m1
      have HY := Lib.hid hz
      clear hz
      go_wp2_with fail
      refine (HO.out.put_a (HZ.out.below HO.out.bel (Nat.le_refl _)) z k (by have := (putAll_sorted T I k).2.1; omega) ⟨m0, m1⟩).mono ?_
      rintro en w4 ⟨was, rfl, _, t4⟩
      have O4 : Hid (Two w x (putAll T I (k + 1)) y (cutK f t (putAll T I k)) w4) := Lib.hid (by rw [HY.out] at t4; exact t4)
      obtain ⟨g', o', e', hg', c1, _, _⟩ := (HT.out.below O4.out.bel).2.2 k hlt.1
      injection e' with e'
      injection e' with e1 e2 e3
      subst e1
      subst e2
      rw [← HY.out] at c1
      clear t4 e3 c0 hg hg'
      rcases (show (z < f ∧ cutK f t (putAll T I (k + 1)) = insK z k (cutK f t (putAll T I k))) ∨ (¬ z < f ∧ t ≤ z ∧ cutK f t (putAll T I (k + 1)) = insK z k (cutK f t (putAll T I k))) ∨ (¬ z < f ∧ ¬ t ≤ z ∧ cutK f t (putAll T I (k + 1)) = cutK f t (putAll T I k)) from by
        have hs := (putAll_sorted T I k).1
        have e : putAll T I (k + 1) = insK z k (putAll T I k) := by rw [HY.out]; rfl
        rw [e]
        by_cases q1 : z < f
        · exact .inl ⟨q1, cutK_out hs (by omega)⟩
        · by_cases q2 : t ≤ z
          · exact .inr (.inl ⟨q1, q2, cutK_out hs (by omega)⟩)
          · exact .inr (.inr ⟨q1, q2, cutK_in hs (by omega) (by omega)⟩)) with ⟨q1, hq⟩ | ⟨q1, q2, hq⟩ | ⟨q1, q2, hq⟩
      rotate_left 2
      · have HQ := Lib.hid hq
        clear hq
        go_wp2_with fail
        refine ⟨⟨k + 1, by rw [Int.natCast_add]; rfl, by omega, by omega, Lib.hid (by rw [HQ.out]; exact O4.out)⟩, ?_⟩
        show 40 - ((k : Int) + 1).toNat < 40 - ((k : Int)).toNat
        omega
      all_goals
        have HQ := Lib.hid hq
        clear hq
        go_wp2_with fail
        refine (O4.out.put_b (HZ.out.below O4.out.bel (Nat.le_refl _)) z k (by have := (putAll_sorted T I k).2.1; have := cutK_len f t (putAll T I k); omega) ⟨m0, m1⟩).mono ?_
        rintro en w5 ⟨was2, rfl, _, t5⟩
        rw [← HQ.out] at t5
        have O5 := Lib.hid t5
        clear t5
        go_wp2_with fail
        refine ⟨⟨k + 1, by rw [Int.natCast_add]; rfl, by omega, by omega, O5⟩, ?_⟩
        show 40 - ((k : Int) + 1).toNat < 40 - ((k : Int)).toNat
        omega
    · have hlen40 : (putAll T I k).length ≤ 40 := by have := (putAll_sorted T I k).2.1; omega
      have hs := (putAll_sorted T I k).1
      have HL40 := Lib.hid hlen40
      have HSO := Lib.hid hs
      obtain ⟨M, hM⟩ : ∃ M, M = putAll T I k := ⟨_, rfl⟩
      rw [← hM] at HO HL40 HSO
      clear hlen40 hM hs hk40
      rcases (show ¬ (k : Int) < (len : Int) ∨ ((k : Int) < (len : Int) ∧ ¬ (k : Int) < 40) by omega) with h1 | ⟨h1, h2⟩
      all_goals
        clear hlt
        go_wp2_with fail
        refine (HO.out.cut_a f t (by have := HL40.out; omega)).mono ?_
        rintro en w4 ⟨rfl, t4⟩
        obtain ⟨L, hL⟩ : ∃ L, L = cutK f t M := ⟨_, rfl⟩
        rw [← hL] at t4 ⊢
        have O4 := Lib.hid t4
        have HC : Hid (cutK f t L = L) := Lib.hid (by rw [hL]; exact cutK_cutK f t M)
        have hlL := cutK_len f t M
        rw [← hL] at hlL
        have HLL := Lib.hid (Nat.le_trans hlL HL40.out)
        have HML := Lib.hid hL
        obtain ⟨n1, hn1⟩ : ∃ n1, n1 = M.length := ⟨_, rfl⟩
        obtain ⟨n2, hn2⟩ : ∃ n2, n2 = L.length := ⟨_, rfl⟩
        rw [← hn1, ← hn2]
        have hn12 : (n2 : Int) ≤ (n1 : Int) := by omega
        have hn40 : (n1 : Int) ≤ 40 := by have := HL40.out; omega
        have hn20 : (0 : Int) ≤ (n2 : Int) := by omega
        have HN2 := Lib.hid hn2
        clear t4 hL hlL hn1 hn2 h1 hkl hk0
        go_wp2_with fail
        refine (O4.out.cut_a f t (by have := HLL.out; omega)).mono ?_
        rw [HC.out, ← HN2.out]
        rintro en w5 ⟨rfl, t5⟩
        have O5 := Lib.hid t5
        clear t5
        have hz0 : (n2 : Int) - (n2 : Int) = 0 := Int.sub_self _
        rw [hz0]
        clear hz0
        go_wp2_with fail
        refine (twi.Tw.len_calls O5.out.tw_a.choose_spec).mono ?_
        rw [← HN2.out]
        rintro en w6 ⟨rfl, rfl⟩
        go_wp2_with fail
        refine (twi.Tw.len_calls O5.out.tw_b.choose_spec).mono ?_
        rw [← HN2.out]
        rintro en w6 ⟨rfl, rfl⟩
        have hbb : ∀ x : Int, (x == x) = true := fun x => beq_self_eq_true x
        have hbn : ∀ x : Int, (x != x) = false := fun x => bne_self_eq_false x
        go_wp2_with fail
        go_loopw [77] (fun i wv => ∃ h : Nat, i = .int .i64 h ∧ h ≤ 10 ∧ Hid (Two w x L y L wv)) (fun i _ => 10 - (intOf i).toNat)
        case atStart => exact ⟨0, rfl, Nat.zero_le _, O5⟩
        case round =>
          clear O5 O4
          obtain ⟨h, rfl, hh, HO2⟩ := hrel
          have hh0 : (0 : Int) ≤ (h : Int) := by omega
          by_cases hlt : h < 10
          · have h1 : (h : Int) < 10 := by omega
            have HH := Lib.hid hlt
            clear hlt
            go_wp2_with fail
            refine (twi.Tw.level_calls HO2.out.tw_a.choose_spec h HH.out (by have := HLL.out; omega)).mono ?_
            rintro en w6 ⟨v1, rfl, i1, _, b6⟩
            have O6 : Hid (Two w x L y L w6 ∧ Ints w6 v1 (levK h L)) := Lib.hid ⟨HO2.out.more b6, i1⟩
            clear i1 b6 HO2
            go_wp2_with fail
            refine (twi.Tw.level_calls O6.out.1.tw_b.choose_spec h HH.out (by have := HLL.out; omega)).mono ?_
            rintro en w7 ⟨v2, rfl, i2, _, b7⟩
            have O7 : Hid (Two w x L y L w7 ∧ Ints w7 v1 (levK h L) ∧ Ints w7 v2 (levK h L)) := Lib.hid ⟨O6.out.1.more b7, O6.out.2.below b7, i2⟩
            clear i2 b7 O6
            go_wp2_with fail
            refine (same_calls v1 v2 _ w7 O7.out.2.1 O7.out.2.2).mono ?_
            rintro en w8 ⟨rfl, b8⟩
            have O8 : Hid (Two w x L y L w8) := Lib.hid (O7.out.1.more b8)
            clear b8 O7
            go_wp2_with fail
            refine ⟨⟨h + 1, by rw [Int.natCast_add]; rfl, by have := HH.out; omega, O8⟩, ?_⟩
            show 10 - ((h : Int) + 1).toNat < 10 - ((h : Int)).toNat
            have := HH.out
            omega
          · obtain rfl : h = 10 := by omega
            clear hlt hh
            by_cases htm : t = -9223372036854775808
            · have HTM := Lib.hid htm
              subst htm
              go_wp2_with fail
              refine (twi.Tw.floor_calls HO2.out.tw_a.choose_spec _ (by have := HLL.out; omega)).mono ?_
              rintro en w6 ⟨rfl, b6⟩
              have B6 : Hid (Below w.heap.size w w6) := Lib.hid (HO2.out.bel.trans (b6.mono HO2.out.bel.size))
              clear b6
              generalize floorK _ L = r
              obtain ⟨r1, r2, r3⟩ := r
              go_wp2_with fail
              go_ret
              exact ⟨rfl, B6.out⟩
            · have ht3 : -9223372036854775808 ≤ t - 1 := by omega
              have htb : (t == -9223372036854775808) = false := beq_eq_false_iff_ne.2 htm
              have HTM := Lib.hid htm
              clear htm
              go_wp2_with fail
              refine (twi.Tw.floor_calls HO2.out.tw_a.choose_spec _ (by have := HLL.out; omega)).mono ?_
              rintro en w6 ⟨rfl, b6⟩
              have B6 : Hid (Below w.heap.size w w6) := Lib.hid (HO2.out.bel.trans (b6.mono HO2.out.bel.size))
              have hr : (floorK (t - 1) L).2.2 = true → (floorK (t - 1) L).1 < f := fun e => by
                obtain ⟨z, hz, e1, e2⟩ := floorK_mem e
                rw [HML.out, mem_cutK] at hz
                have := hz.2
                omega
              clear b6
              generalize floorK (t - 1) L = r at *
              obtain ⟨r1, r2, r3⟩ := r
              cases r3 with
              | false =>
                clear hr
                go_wp2_with fail
                go_ret
                exact ⟨rfl, B6.out⟩
              | true =>
                have hr2 : r1 < f := hr rfl
                clear hr
                go_wp2_with fail
                go_ret
                exact ⟨rfl, B6.out⟩
theorem own : ownKnob Tryd.prog.godebug = none := by kernel_rfl
theorem laidOut : laidOutB Tryd.prog = true := by kernel_rfl

set_option maxRecDepth 100000 in
theorem lifted (os : Os) (started : os.Started) (H : Type) (enc : TypeId × Value → H) :
    ReturnsInHanded {} Tryd.checked os 7 .any (fun w args => (Rows.towerCutsSpec.pre enc Tryd.prog Tryd.f7 [] false w args ∧ laidMetH Tryd.prog Rows.towerCutsRow.laid w) ∧ sizedMet enc Tryd.prog Tryd.f7 (OpenSpec.ofChange Rows.towerCutsSpec) false w args)
      (Rows.towerCutsSpec.post enc Tryd.prog Tryd.f7 false true false false) := by
  refine returnsInHanded_of_change_and (C := Tryd.checked) (X := fun w _ => laidMetH Tryd.prog Rows.towerCutsRow.laid w) (fun _ _ _ hh h => h.of_heap hh) own started (by kernel_rfl) Tryd.func7
    (ChangeSpec.witness_shaped (enc := enc) (C := Tryd.checked) (os := os) (X := fun w _ => laidMetH Tryd.prog Rows.towerCutsRow.laid w) false (World.doorLaid Tryd.prog 19 os) #[.slice none 0 0, .int .i64 0, .int .i64 0] 8 rfl (door_shaped os _) (by kernel_rfl) (by kernel_rfl) (by kernel_rfl) (door_met os _)) ?_
  intro W base args ds gs before hval0 hW _ _ hL _
  have hval : ∀ (j : Nat) t v, Tryd.f7.params[j]? = some t → args[j]? = some v → Value.okWide Tryd.prog W .any base t v := hval0
  have hW' := hW
  obtain ⟨p, q, hA0, hV, rfl, _, _⟩ := hW
  have hA : DataW.TrodAll enc Tryd.prog W 0 (fun _ => true) true Tryd.f7.params.toList args.toList ds p := hA0
  rw [Tryd.params7] at hA hval
  obtain ⟨v0, vs0, d0, ds0, p0, q0, hargs, rfl, rfl, h0, r0⟩ := trodAll_cons hA
  obtain ⟨v1, vs1, d1, ds1, p1, q1, rfl, rfl, rfl, h1, r1⟩ := trodAll_cons r0
  obtain ⟨v2, vs2, d2, ds2, p2, q2, rfl, rfl, rfl, h2, r2⟩ := trodAll_cons r1
  obtain ⟨rfl, rfl, rfl⟩ := trodAll_nil r2
  obtain rfl : args = #[v0, v1, v2] := by cases args; simp_all
  obtain ⟨rfl, rfl⟩ := trodVars_none hV
  obtain ⟨a0, len0, cap0, rfl⟩ := okWide_slice Tryd.underlying43 (hval 0 43 v0 rfl rfl)
  have k0 := h0
  have lt0 : ∀ x ∈ p0, x.block < W.heap.size := by obtain ⟨m, hm⟩ := k0; exact DataW.trod_lt m _ _ _ hm
  have w0 : Arg0 W a0 len0 cap0 := opened0 h0
  obtain ⟨a1, rfl, rfl, rfl, w1⟩ := open_int Tryd.underlying3 (hval 1 3 v1 rfl rfl) h1
  obtain ⟨a2, rfl, rfl, rfl, w2⟩ := open_int Tryd.underlying3 (hval 2 3 v2 rfl rfl) h2
  clear hA0 hval0
  refine (walk a0 len0 cap0 a1 a2 W w0 w1 w2 (tz_of_laid (rest := []) hL)).mono fun e W' ⟨he, bel⟩ => ?_
  subst he
  exact ⟨_, rfl, _, _, _, [], _, [], hW', trodAll_mk1 (shut_bool Tryd.underlying4 _), (trodAll_cons_mk (Below.trod laidOut (by kernel_rfl) (of_decide_eq_true (by kernel_rfl)) k0 bel lt0) (trodAll_cons_mk (shut_int Tryd.underlying3 w1) (trodAll_cons_mk (shut_int Tryd.underlying3 w2) trodAll_mk0))), rfl, bel.frame _, fun h => by cases h⟩

theorem over : Rows.towerCutsRow.holds Tryd.pinned (OpenSpec.ofChange Rows.towerCutsSpec) :=
  OpenClaim.holds_of_wide 7 Tryd.f7 rfl rfl rfl rfl rfl rfl rfl ⟨rfl, rfl, rfl, rfl, rfl⟩ rfl rfl rfl rfl rfl (by kernel_rfl) Tryd.func7 (by kernel_rfl)
    (of_decide_eq_true (by kernel_rfl)) (by unfold Func.isWrapper; first | (rw [if_pos (by decide +kernel)]; kernel_rfl) | (rw [if_neg (by decide +kernel)]; exact ⟨rfl, rfl⟩))
    (fun os started H enc _ => lifted os started H enc)

theorem plain (f : FuncId) (fn : Func) (hf : Tryd.pinned.checked.prog.funcNamed "hindsight/hindsightlaw13.TowerCuts" = some f) (hfn : Tryd.pinned.checked.prog.funcs[f]? = some fn) :
    (false : Bool) = Tryd.pinned.checked.prog.looks [] ∧ ∀ (j : Nat) t, fn.params[j]? = some t → Tryd.pinned.checked.prog.wantsStandIn t = false := by
  obtain rfl : f = 7 := Option.some.inj ((show Tryd.prog.funcNamed "hindsight/hindsightlaw13.TowerCuts" = some 7 by kernel_rfl).symm.trans hf) |>.symm
  obtain rfl : fn = Tryd.f7 := (Option.some.inj (Tryd.func7.symm.trans hfn)).symm
  refine ⟨by kernel_rfl, fun j t ht => ?_⟩
  rw [Tryd.params7] at ht
  have hm := Array.mem_of_getElem? ht
  simp only [List.mem_toArray, List.mem_cons, List.not_mem_nil, or_false] at hm
  rcases hm with rfl | rfl | rfl
  · exact (show Tryd.prog.wantsStandIn 43 = false by kernel_rfl)
  · exact (show Tryd.prog.wantsStandIn 3 = false by kernel_rfl)
  · exact (show Tryd.prog.wantsStandIn 3 = false by kernel_rfl)

theorem card : Rows.TowerCutsCardSaid :=
  Claim7.holds_tied_plain_at .later [] _ _ _ _ over (fun _ h => by cases h) (by kernel_rfl) (fun _ h => by cases h) towerCuts_row_tie rfl ⟨rfl, rfl⟩ (by kernel_rfl) rfl plain (by kernel_rfl)

theorem proved : Rows.TowerCutsCardSaid := card

end Go.Proofs.YtbimdcjbpbpljaaDoor.towerCuts
