/- ClashPairs: for every two strings the law answers true, and its arguments read afterwards as they did. Conditions: the row lists one package-level variable (digest's table of rounds), which the card ties to the program's text. -/
import Derived.Test.YtnbhjffmaememaaDoorClaE
import Derived.Test.YtnbhjffmaememaaDoorDigM
import Derived.Test.YtnbhjffmaememaaDoorDigN
import Derived.Test.YtnbhjffmaememaaDoorCards
import Derived.Test.YtnbhjffmaememaaDoorTie
import Derived.ProofKit
import Derived.ShutString
import Derived.LaidMore
import Derived.SevenTiedAt
import Derived.OpenShut
namespace Go.Proofs.YtnbhjffmaememaaDoor.clashPairs
open Go.ChangeShapes Go.WideShapes Go.ChangeAt Go.RowKit Go.ChangeMaps Go.Proofs.YtnbhjffmaememaaDoor.dig Go.Proofs.YtnbhjffmaememaaDoor.clash

set_option maxRecDepth 100000 in
set_option maxHeartbeats 1000000 in
theorem walk (a b : ByteArray) (w : World) (wa : a.size ≤ maxLen) (wb : b.size ≤ maxLen) (hR : Rk w) :
    Calls Tryd.prog 12 #[.string a, .string b] w fun en w' => en = .returned (.bool true) ∧ Below w.heap.size w w' := by
  have HR := Lib.hid hR
  have WB := Lib.hid wb
  clear hR wb
  go_enter Tryd.func12, Tryd.ntmps12
  go_wp2_with fail
  refine (cut_any a 100 w (by omega) wa).mono ?_
  obtain ⟨a', ha⟩ := cut_size a 100
  obtain ⟨b', hb⟩ := cut_size b 100
  rw [ha.1]
  rintro en w1 ⟨rfl, rfl⟩
  go_wp2_with fail
  refine (cut_any b 100 w (by omega) WB.out).mono ?_
  rw [hb.1]
  rintro en w1 ⟨rfl, rfl⟩
  have ha2 := Lib.hid ha.2
  have hb2 := Lib.hid hb.2
  clear ha hb wa WB
  go_wp2_with fail
  refine (clawake_calls w HR.out).mono ?_
  rintro en w1 ⟨rfl, b1⟩
  have R1 : Hid (Rk w1 ∧ Below w.heap.size w w1) := Lib.hid ⟨HR.out.below b1, b1⟩
  clear b1 HR
  go_wp2_with fail
  by_cases he : a' = b'
  · subst he
    refine (is_calls a' a' w1 R1.out.1 (by have := ha2.out; omega) (by have := ha2.out; omega)).mono ?_
    rw [clashB_self]
    rintro en w2 ⟨rfl, b2⟩
    have R2 : Hid (Rk w2 ∧ Below w.heap.size w w2) := Lib.hid ⟨R1.out.1.below b2, R1.out.2.trans (b2.mono R1.out.2.size)⟩
    clear b2 R1
    go_wp2_with fail
    refine (is_calls a' a' w2 R2.out.1 (by have := ha2.out; omega) (by have := ha2.out; omega)).mono ?_
    rw [clashB_self]
    rintro en w3 ⟨rfl, b3⟩
    have R3 : Hid (Below w.heap.size w w3) := Lib.hid (R2.out.2.trans (b3.mono R2.out.2.size))
    clear b3 R2
    go_wp2_with fail
    go_ret
    exact ⟨rfl, R3.out⟩
  · obtain ⟨r, hr⟩ : ∃ r, r = (sum a'.data.toList == sum b'.data.toList) := ⟨_, rfl⟩
    have hq : clashB a' b' = r := by rw [hr]; simp [clashB, he]
    have hne : ¬ a'.toList = b'.toList := fun e => he (by
      rw [ByteArray.toList_eq, ByteArray.toList_eq] at e
      apply ByteArray.ext
      exact Array.toList_inj.1 e)
    have hne2 : (a'.toList == b'.toList) = false := by simpa using hne
    refine (is_calls a' b' w1 R1.out.1 (by have := ha2.out; omega) (by have := hb2.out; omega)).mono ?_
    rw [hq]
    have hs := run_eql_sum (sum a'.data.toList) (sum b'.data.toList) (sum_length _) (sum_length _)
    rw [← hr] at hs
    have HS := Lib.hid hs
    clear hq he hr hs
    rintro en w2 ⟨rfl, b2⟩
    have R2 : Hid (Rk w2 ∧ Below w.heap.size w w2) := Lib.hid ⟨R1.out.1.below b2, R1.out.2.trans (b2.mono R1.out.2.size)⟩
    clear b2 R1
    go_wp2_with fail
    refine (of_calls a' w2 R2.out.1 (by have := ha2.out; omega)).mono ?_
    rintro en w3 ⟨rfl, b3⟩
    have R3 : Hid (Rk w3 ∧ Below w.heap.size w w3) := Lib.hid ⟨R2.out.1.below b3, R2.out.2.trans (b3.mono R2.out.2.size)⟩
    clear b3 R2
    generalize sum a'.data.toList = X at *
    go_wp2_with fail
    refine (of_calls b' w3 R3.out.1 (by have := hb2.out; omega)).mono ?_
    rintro en w4 ⟨rfl, b4⟩
    have R4 : Hid (Rk w4 ∧ Below w.heap.size w w4) := Lib.hid ⟨R3.out.1.below b4, R3.out.2.trans (b4.mono R3.out.2.size)⟩
    clear b4 R3
    generalize sum b'.data.toList = Y at *
    have hs2 := HS.out
    rcases r with _ | _
    all_goals
      go_wp2_with fail
      refine (is_calls a' a' w4 R4.out.1 (by have := ha2.out; omega) (by have := ha2.out; omega)).mono ?_
      rw [clashB_self]
      rintro en w5 ⟨rfl, b5⟩
      have R5 : Hid (Below w.heap.size w w5) := Lib.hid (R4.out.2.trans (b5.mono R4.out.2.size))
      clear b5 R4
      go_wp2_with fail
      go_ret
      exact ⟨rfl, R5.out⟩

theorem own : ownKnob Tryd.prog.godebug = none := by kernel_rfl
theorem laidOut : laidOutB Tryd.prog = true := by kernel_rfl

set_option maxRecDepth 100000 in
theorem lifted (os : Os) (started : os.Started) (H : Type) (enc : TypeId × Value → H) :
    ReturnsInHanded {} Tryd.checked os 12 .any (fun w args => (Rows.clashPairsSpec.pre enc Tryd.prog Tryd.f12 [] false w args ∧ laidMetH Tryd.prog Rows.clashPairsRow.laid w) ∧ sizedMet enc Tryd.prog Tryd.f12 (OpenSpec.ofChange Rows.clashPairsSpec) false w args)
      (Rows.clashPairsSpec.post enc Tryd.prog Tryd.f12 false true false false) := by
  refine returnsInHanded_of_change_and (C := Tryd.checked) (X := fun w _ => laidMetH Tryd.prog Rows.clashPairsRow.laid w) (fun _ _ _ hh h => h.of_heap hh) own started (by kernel_rfl) Tryd.func12
    (ChangeSpec.witness_shaped (enc := enc) (C := Tryd.checked) (os := os) (X := fun w _ => laidMetH Tryd.prog Rows.clashPairsRow.laid w) false (World.doorLaid Tryd.prog 31 os) #[.string ByteArray.empty, .string ByteArray.empty] 8 rfl (door_shaped os _) (by kernel_rfl) (by kernel_rfl) (by kernel_rfl) (door_met os _)) ?_
  intro W base args ds gs before hval0 hW _ _ hL _
  have hval : ∀ (j : Nat) t v, Tryd.f12.params[j]? = some t → args[j]? = some v → Value.okWide Tryd.prog W .any base t v := hval0
  have hW' := hW
  obtain ⟨p, q, hA0, hV, rfl, _, _⟩ := hW
  have hA : DataW.TrodAll enc Tryd.prog W 0 (fun _ => true) true Tryd.f12.params.toList args.toList ds p := hA0
  rw [Tryd.params12] at hA hval
  obtain ⟨v0, vs0, d0, ds0, p0, q0, hargs, rfl, rfl, h0, r0⟩ := trodAll_cons hA
  obtain ⟨v1, vs1, d1, ds1, p1, q1, rfl, rfl, rfl, h1, r1⟩ := trodAll_cons r0
  obtain ⟨rfl, rfl, rfl⟩ := trodAll_nil r1
  obtain rfl : args = #[v0, v1] := by cases args; simp_all
  obtain ⟨rfl, rfl⟩ := trodVars_none hV
  obtain ⟨a0, rfl, rfl, rfl, w0⟩ := open_string Tryd.underlying9 (hval 0 9 v0 rfl rfl) h0
  obtain ⟨a1, rfl, rfl, rfl, w1⟩ := open_string Tryd.underlying9 (hval 1 9 v1 rfl rfl) h1
  clear hA0 hval0
  refine (walk a0 a1 W w0 w1 (rk_of_laid (rest := []) hL)).mono fun e W' ⟨he, bel⟩ => ?_
  subst he
  exact ⟨_, rfl, _, _, _, [], _, [], hW', trodAll_mk1 (shut_bool Tryd.underlying4 _), (trodAll_cons_mk (shut_string Tryd.underlying9 w0) (trodAll_cons_mk (shut_string Tryd.underlying9 w1) trodAll_mk0)), rfl, bel.frame _, fun h => by cases h⟩

theorem over : Rows.clashPairsRow.holds Tryd.pinned (OpenSpec.ofChange Rows.clashPairsSpec) :=
  OpenClaim.holds_of_wide 12 Tryd.f12 rfl rfl rfl rfl rfl rfl rfl ⟨rfl, rfl, rfl, rfl, rfl⟩ rfl rfl rfl rfl rfl (by kernel_rfl) Tryd.func12 (by kernel_rfl)
    (of_decide_eq_true (by kernel_rfl)) (by unfold Func.isWrapper; first | (rw [if_pos (by decide +kernel)]; kernel_rfl) | (rw [if_neg (by decide +kernel)]; exact ⟨rfl, rfl⟩))
    (fun os started H enc _ => lifted os started H enc)

theorem plain (f : FuncId) (fn : Func) (hf : Tryd.pinned.checked.prog.funcNamed "hindsight/hindsightlaw11.ClashPairs" = some f) (hfn : Tryd.pinned.checked.prog.funcs[f]? = some fn) :
    (true : Bool) = Tryd.pinned.checked.prog.looks [] ∧ ∀ (j : Nat) t, fn.params[j]? = some t → Tryd.pinned.checked.prog.wantsStandIn t = false := by
  obtain rfl : f = 12 := Option.some.inj ((show Tryd.prog.funcNamed "hindsight/hindsightlaw11.ClashPairs" = some 12 by kernel_rfl).symm.trans hf) |>.symm
  obtain rfl : fn = Tryd.f12 := (Option.some.inj (Tryd.func12.symm.trans hfn)).symm
  refine ⟨by kernel_rfl, fun j t ht => ?_⟩
  rw [Tryd.params12] at ht
  have hm := Array.mem_of_getElem? ht
  simp only [List.mem_toArray, List.mem_cons, List.not_mem_nil, or_false] at hm
  rcases hm with rfl | rfl
  · exact (show Tryd.prog.wantsStandIn 9 = false by kernel_rfl)
  · exact (show Tryd.prog.wantsStandIn 9 = false by kernel_rfl)

theorem card : Rows.ClashPairsCardSaid :=
  Claim7.holds_tied_plain_at .later [] _ _ _ _ over (fun _ h => by cases h) (by kernel_rfl) (fun _ h => by cases h) clashPairs_row_tie rfl ⟨rfl, rfl⟩ (by kernel_rfl) rfl plain (by kernel_rfl)

theorem proved : Rows.ClashPairsCardSaid := card


end Go.Proofs.YtnbhjffmaememaaDoor.clashPairs
