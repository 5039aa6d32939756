/- TowerHeights: for every number the law answers true, and its argument reads afterwards as it did. Conditions: the row lists two package-level variables (both tables of math/bits), which the card ties to the program's text. -/
import Derived.Test.YtbimdcjbpbpljaaDoorTowW
import Derived.Test.YtbimdcjbpbpljaaDoorTowQ
import Derived.Test.YtbimdcjbpbpljaaDoorInts
import Derived.Test.YtbimdcjbpbpljaaDoorCards
import Derived.Test.YtbimdcjbpbpljaaDoorTie
import Derived.ProofKit
import Derived.OpenShut
import Derived.SevenTiedAt
namespace Go.Proofs.YtbimdcjbpbpljaaDoor.towerHeights
open Go.ChangeShapes Go.WideShapes Go.ChangeAt Go.RowKit Go.Proofs.YtbimdcjbpbpljaaDoor.tow

theorem hgt_two {a : Int} (h0 : 0 < a) (h1 : a ≤ 1152921504606846976) : hgt (2 * a) = min (hgt a + 1) 10 := by
  obtain ⟨n, rfl⟩ := Int.eq_ofNat_of_zero_le (show 0 ≤ a by omega)
  have := (ctz_two (n := n) (by omega) (by omega)).1
  unfold hgt
  rw [if_neg (by omega), if_neg (by omega), show (2 * (n : Int)).toNat = 2 * n by omega, Int.toNat_natCast, this]
  omega

set_option maxRecDepth 100000 in
set_option maxHeartbeats 2000000 in
theorem walk (a : Int) (w : World) (hw : (Lit.int .i64 a).wf = true) (hZ : Tz w.heap.size w) :
    Calls Tryd.prog 6 #[.int .i64 a] w fun en w' => en = .returned (.bool true) ∧ Below w.heap.size w w' := by
  have hn := wf_i64 hw
  obtain ⟨ha1, ha2⟩ := hn
  have HZ := Lib.hid hZ
  clear hZ hw
  obtain ⟨K, hK⟩ : ∃ K, hgt a = K := ⟨_, rfl⟩
  have hb := hgt_bounds a
  rw [hK] at hb
  have hk1 : (1 : Int) ≤ (K : Int) := by omega
  have hk2 : (K : Int) ≤ 10 := by omega
  have HK := Lib.hid hK
  clear hb hK
  go_enter Tryd.func6, Tryd.ntmps6
  go_wp2_with fail
  refine (awake_calls w HZ.out).mono ?_
  rintro en w1 ⟨rfl, b1⟩
  have Z1 : Hid (Tz w.heap.size w1 ∧ Below w.heap.size w w1) := Lib.hid ⟨HZ.out.below b1 (Nat.le_refl _), b1⟩
  clear b1 HZ
  go_wp2_with fail
  refine (height_calls _ a w1 Z1.out.1 ha2).mono ?_
  rw [HK.out]
  rintro en w2 ⟨rfl, rfl⟩
  go_wp2_with fail
  refine (rheight_calls a w1 ha2).mono ?_
  rw [HK.out]
  rintro en w2 ⟨rfl, rfl⟩
  have hr : (if 10 < (K : Int) + 1 then 10 else (K : Int) + 1) = ((min (K + 1) 10 : Nat) : Int) := by split <;> omega
  by_cases h0 : a ≤ 0
  · clear hr
    go_wp2_with fail
    go_ret
    exact ⟨rfl, Z1.out.2⟩
  · by_cases h1 : a ≤ 1152921504606846976
    · have h2 : ¬ 1152921504606846976 < a := by omega
      obtain ⟨m, hm⟩ : ∃ m, m = min (K + 1) 10 := ⟨_, rfl⟩
      have HM : Hid (hgt (2 * a) = m) := Lib.hid (by rw [hgt_two (by omega) h1, HK.out, hm])
      rw [← hm] at hr
      clear hm
      have HR := Lib.hid hr
      clear hr
      go_wp2_with fail
      refine (height_calls _ (2 * a) w1 Z1.out.1 (by omega)).mono ?_
      rw [HM.out]
      rintro en w2 ⟨rfl, rfl⟩
      have hr := HR.out
      rw [← hr]
      have hb : ∀ x : Int, (x == x) = true := fun x => beq_self_eq_true x
      go_wp2_with fail
      all_goals
        go_ret
        exact ⟨rfl, Z1.out.2⟩
    · have h2 : 1152921504606846976 < a := by omega
      clear hr
      go_wp2_with fail
      go_ret
      exact ⟨rfl, Z1.out.2⟩
theorem own : ownKnob Tryd.prog.godebug = none := by kernel_rfl
theorem laidOut : laidOutB Tryd.prog = true := by kernel_rfl

set_option maxRecDepth 100000 in
theorem lifted (os : Os) (started : os.Started) (H : Type) (enc : TypeId × Value → H) :
    ReturnsInHanded {} Tryd.checked os 6 .any (fun w args => (Rows.towerHeightsSpec.pre enc Tryd.prog Tryd.f6 [] false w args ∧ laidMetH Tryd.prog Rows.towerHeightsRow.laid w) ∧ sizedMet enc Tryd.prog Tryd.f6 (OpenSpec.ofChange Rows.towerHeightsSpec) false w args)
      (Rows.towerHeightsSpec.post enc Tryd.prog Tryd.f6 false true false false) := by
  refine returnsInHanded_of_change_and (C := Tryd.checked) (X := fun w _ => laidMetH Tryd.prog Rows.towerHeightsRow.laid w) (fun _ _ _ hh h => h.of_heap hh) own started (by kernel_rfl) Tryd.func6
    (ChangeSpec.witness_shaped (enc := enc) (C := Tryd.checked) (os := os) (X := fun w _ => laidMetH Tryd.prog Rows.towerHeightsRow.laid w) false (World.doorLaid Tryd.prog 19 os) #[.int .i64 0] 8 rfl (door_shaped os _) (by kernel_rfl) (by kernel_rfl) (by kernel_rfl) (door_met os _)) ?_
  intro W base args ds gs before hval0 hW _ _ hL _
  have hval : ∀ (j : Nat) t v, Tryd.f6.params[j]? = some t → args[j]? = some v → Value.okWide Tryd.prog W .any base t v := hval0
  have hW' := hW
  obtain ⟨p, q, hA0, hV, rfl, _, _⟩ := hW
  have hA : DataW.TrodAll enc Tryd.prog W 0 (fun _ => true) true Tryd.f6.params.toList args.toList ds p := hA0
  rw [Tryd.params6] at hA hval
  obtain ⟨v0, vs0, d0, ds0, p0, q0, hargs, rfl, rfl, h0, r0⟩ := trodAll_cons hA
  obtain ⟨rfl, rfl, rfl⟩ := trodAll_nil r0
  obtain rfl : args = #[v0] := by cases args; simp_all
  obtain ⟨rfl, rfl⟩ := trodVars_none hV
  obtain ⟨a0, rfl, rfl, rfl, w0⟩ := open_int Tryd.underlying3 (hval 0 3 v0 rfl rfl) h0
  clear hA0 hval0
  refine (walk a0 W w0 (tz_of_laid (rest := []) hL)).mono fun e W' ⟨he, bel⟩ => ?_
  subst he
  exact ⟨_, rfl, _, _, _, [], _, [], hW', trodAll_mk1 (shut_bool Tryd.underlying4 _), (trodAll_cons_mk (shut_int Tryd.underlying3 w0) trodAll_mk0), rfl, bel.frame _, fun h => by cases h⟩

theorem over : Rows.towerHeightsRow.holds Tryd.pinned (OpenSpec.ofChange Rows.towerHeightsSpec) :=
  OpenClaim.holds_of_wide 6 Tryd.f6 rfl rfl rfl rfl rfl rfl rfl ⟨rfl, rfl, rfl, rfl, rfl⟩ rfl rfl rfl rfl rfl (by kernel_rfl) Tryd.func6 (by kernel_rfl)
    (of_decide_eq_true (by kernel_rfl)) (by unfold Func.isWrapper; first | (rw [if_pos (by decide +kernel)]; kernel_rfl) | (rw [if_neg (by decide +kernel)]; exact ⟨rfl, rfl⟩))
    (fun os started H enc _ => lifted os started H enc)

theorem plain (f : FuncId) (fn : Func) (hf : Tryd.pinned.checked.prog.funcNamed "hindsight/hindsightlaw13.TowerHeights" = some f) (hfn : Tryd.pinned.checked.prog.funcs[f]? = some fn) :
    (false : Bool) = Tryd.pinned.checked.prog.looks [] ∧ ∀ (j : Nat) t, fn.params[j]? = some t → Tryd.pinned.checked.prog.wantsStandIn t = false := by
  obtain rfl : f = 6 := Option.some.inj ((show Tryd.prog.funcNamed "hindsight/hindsightlaw13.TowerHeights" = some 6 by kernel_rfl).symm.trans hf) |>.symm
  obtain rfl : fn = Tryd.f6 := (Option.some.inj (Tryd.func6.symm.trans hfn)).symm
  refine ⟨by kernel_rfl, fun j t ht => ?_⟩
  rw [Tryd.params6] at ht
  have hm := Array.mem_of_getElem? ht
  simp only [List.mem_toArray, List.mem_cons, List.not_mem_nil, or_false] at hm
  subst hm
  exact (show Tryd.prog.wantsStandIn 3 = false by kernel_rfl)

theorem card : Rows.TowerHeightsCardSaid :=
  Claim7.holds_tied_plain_at .later [] _ _ _ _ over (fun _ h => by cases h) (by kernel_rfl) (fun _ h => by cases h) towerHeights_row_tie rfl ⟨rfl, rfl⟩ (by kernel_rfl) rfl plain (by kernel_rfl)

theorem proved : Rows.TowerHeightsCardSaid := card


end Go.Proofs.YtbimdcjbpbpljaaDoor.towerHeights
