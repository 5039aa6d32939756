/- DigestMore: for every three strings the law answers true, and its arguments read afterwards as they did. Conditions: the row lists one package-level variable (digest's table of rounds), which the card ties to the program's text. -/
import Derived.Test.YtjilbnkplhbnaaaDoorDigM
import Derived.Test.YtjilbnkplhbnaaaDoorCards
import Derived.Test.YtjilbnkplhbnaaaDoorTie
import Derived.ProofKit
import Derived.ShutString
import Derived.LaidMore
import Derived.SevenTiedAt
import Derived.OpenShut
namespace Go.Proofs.YtjilbnkplhbnaaaDoor.digestMore
open Go.ChangeShapes Go.WideShapes Go.ChangeAt Go.RowKit Go.ChangeMaps Go.Proofs.YtjilbnkplhbnaaaDoor.dig

set_option maxRecDepth 100000 in
set_option maxHeartbeats 1000000 in
theorem walk (a b c : ByteArray) (w : World) (wa : a.size ≤ maxLen) (wb : b.size ≤ maxLen) (wc : c.size ≤ maxLen) (hR : Rk w) :
    Calls Tryd.prog 13 #[.string a, .string b, .string c] w fun en w' => en = .returned (.bool true) ∧ Below w.heap.size w w' := by
  have HR := Lib.hid hR
  have WB := Lib.hid wb
  have WC := Lib.hid wc
  have HG := Lib.hid hR.lt
  clear hR wb wc
  go_enter Tryd.func13, Tryd.ntmps13
  go_wp2_with fail
  refine (cut_any a 80 w (by omega) wa).mono ?_
  obtain ⟨a', ha⟩ := cut_size a 80
  obtain ⟨b', hb⟩ := cut_size b 80
  obtain ⟨c', hc⟩ := cut_size c 80
  rw [ha.1]
  rintro en w1 ⟨rfl, rfl⟩
  go_wp2_with fail
  refine (cut_any b 80 w (by omega) WB.out).mono ?_
  rw [hb.1]
  rintro en w1 ⟨rfl, rfl⟩
  go_wp2_with fail
  refine (cut_any c 80 w (by omega) WC.out).mono ?_
  rw [hc.1]
  rintro en w1 ⟨rfl, rfl⟩
  have ha2 := ha.2
  have hb2 := hb.2
  have hc2 := hc.2
  clear ha hb hc wa WB WC
  go_wp2_with fail
  refine (awake_any w HR.out).mono ?_
  rintro en w1 ⟨rfl, b1⟩
  have R1 : Hid (Rk w1 ∧ Below w.heap.size w w1) := Lib.hid ⟨HR.out.below b1, b1⟩
  clear b1
  go_wp2_with fail
  refine (new_calls w1 R1.out.1).mono ?_
  rintro en w2 ⟨h1, rfl, ax1, b2, l1, m1⟩
  have R2 : Hid (One w w2 h1 []) := Lib.hid (One.made R1.out.2 ax1 b2 l1 m1)
  clear ax1 b2 l1 m1 R1
  go_wp2_with fail
  refine (new_calls w2 R2.out.rk).mono ?_
  rintro en w3 ⟨h2, rfl, ax2, b3, l2, m2⟩
  have R3 : Hid (Two w w3 h1 h2 [] []) := Lib.hid (Two.made R2.out ax2 b3 l2 m2)
  clear ax2 b3 l2 m2 R2
  go_wp2_with fail
  refine (add_calls h1 [] a' w3 (R3.out.ax1 HG.out) (by simp; omega)).mono ?_
  rintro en w4 ⟨rfl, ax⟩
  have R4 : Hid (Two w w4 h1 h2 a'.data.toList []) := Lib.hid (R3.out.add1 ax)
  clear ax R3
  go_wp2_with fail
  refine (add_calls h2 [] c' w4 (R4.out.ax2 HG.out) (by simp; omega)).mono ?_
  rintro en w5 ⟨rfl, ax⟩
  have R5 : Hid (Two w w5 h1 h2 a'.data.toList c'.data.toList) := Lib.hid (R4.out.add2 ax)
  clear ax R4
  go_wp2_with fail
  refine (sum_calls h1 _ w5 R5.out.one (R5.out.rk) (by simp; omega)).mono ?_
  rintro en w6 ⟨rfl, b6⟩
  have R6 := Lib.hid (R5.out.bel b6)
  clear b6 R5
  go_wp2_with fail
  refine (add_calls h1 _ b' w6 (R6.out.ax1 HG.out) (by simp; omega)).mono ?_
  rintro en w7 ⟨rfl, ax⟩
  have R7 := Lib.hid (R6.out.add1 ax)
  clear ax R6
  go_wp2_with fail
  refine (add_calls h2 _ c' w7 (R7.out.ax2 HG.out) (by simp; omega)).mono ?_
  rintro en w8 ⟨rfl, ax⟩
  have R8 := Lib.hid (R7.out.add2 ax)
  clear ax R7
  go_wp2_with fail
  refine (sum_calls h1 _ w8 R8.out.one R8.out.rk (by simp; omega)).mono ?_
  rintro en w9 ⟨rfl, b9⟩
  have R9 := Lib.hid (R8.out.bel b9)
  clear b9 R8
  go_wp2_with fail
  refine (of_calls _ w9 R9.out.rk (by simp; omega)).mono ?_
  rw [show (a' ++ b').data.toList = a'.data.toList ++ b'.data.toList by simp]
  rintro en w10 ⟨rfl, b10⟩
  have R10 := Lib.hid (R9.out.bel b10)
  clear b10 R9
  have he1 := run_eql_same (sum (a'.data.toList ++ b'.data.toList)) (sum_length _)
  generalize hX : sum (a'.data.toList ++ b'.data.toList) = X at *
  have HX := Lib.hid hX
  clear hX
  go_wp2_with fail
  refine (sum_calls h2 _ w10 R10.out.two R10.out.rk (by simp; omega)).mono ?_
  rintro en w11 ⟨rfl, b11⟩
  have R11 := Lib.hid (R10.out.bel b11)
  clear b11 R10
  go_wp2_with fail
  refine (of_calls _ w11 R11.out.rk (by simp; omega)).mono ?_
  rw [show (c' ++ c').data.toList = c'.data.toList ++ c'.data.toList by simp]
  rintro en w12 ⟨rfl, b12⟩
  have R12 := Lib.hid (R11.out.bel b12)
  clear b12 R11
  have he2 := run_eql_same (sum (c'.data.toList ++ c'.data.toList)) (sum_length _)
  generalize hY : sum (c'.data.toList ++ c'.data.toList) = Y at *
  clear hY
  go_wp2_with fail
  refine (sum_calls h1 _ w12 R12.out.one R12.out.rk (by simp; omega)).mono ?_
  rw [HX.out]
  rintro en w13 ⟨rfl, b13⟩
  have R13 := Lib.hid (R12.out.bel b13)
  clear b13 R12
  go_wp2_with fail
  refine (sum_calls h1 _ w13 R13.out.one R13.out.rk (by simp; omega)).mono ?_
  rw [HX.out]
  rintro en w14 ⟨rfl, b14⟩
  have R14 := Lib.hid (R13.out.bel b14)
  clear b14 R13
  go_wp2_with fail
  go_ret
  exact ⟨rfl, R14.out.below⟩

theorem own : ownKnob Tryd.prog.godebug = none := by kernel_rfl
theorem laidOut : laidOutB Tryd.prog = true := by kernel_rfl

theorem door_met (os : Os) (args : Array Value) : laidMetH Tryd.prog Rows.digestMoreRow.laid ((World.doorLaid Tryd.prog 31 os).forCall (fun _ _ => 0) ⟨#[], args, []⟩).memory :=
  laidMetH_of_parts3 (fuel := 8) (laidMet_of_run' 8 (by kernel_rfl) (by kernel_rfl)) (by kernel_rfl) (by kernel_rfl)

set_option maxRecDepth 100000 in
theorem lifted (os : Os) (started : os.Started) (H : Type) (enc : TypeId × Value → H) :
    ReturnsInHanded {} Tryd.checked os 13 .any (fun w args => (Rows.digestMoreSpec.pre enc Tryd.prog Tryd.f13 [] false w args ∧ laidMetH Tryd.prog Rows.digestMoreRow.laid w) ∧ sizedMet enc Tryd.prog Tryd.f13 (OpenSpec.ofChange Rows.digestMoreSpec) false w args)
      (Rows.digestMoreSpec.post enc Tryd.prog Tryd.f13 false true false false) := by
  refine returnsInHanded_of_change_and (C := Tryd.checked) (X := fun w _ => laidMetH Tryd.prog Rows.digestMoreRow.laid w) (fun _ _ _ hh h => h.of_heap hh) own started (by kernel_rfl) Tryd.func13
    (ChangeSpec.witness_shaped (enc := enc) (C := Tryd.checked) (os := os) (X := fun w _ => laidMetH Tryd.prog Rows.digestMoreRow.laid w) false (World.doorLaid Tryd.prog 31 os) #[.string ByteArray.empty, .string ByteArray.empty, .string ByteArray.empty] 8 rfl (World.shaped_of_RefB (by kernel_rfl) (by kernel_rfl)) (by kernel_rfl) (by kernel_rfl) (by kernel_rfl) (door_met os _)) ?_
  intro W base args ds gs before hval0 hW _ _ hL _
  have hval : ∀ (j : Nat) t v, Tryd.f13.params[j]? = some t → args[j]? = some v → Value.okWide Tryd.prog W .any base t v := hval0
  have hW' := hW
  obtain ⟨p, q, hA0, hV, rfl, _, _⟩ := hW
  have hA : DataW.TrodAll enc Tryd.prog W 0 (fun _ => true) true Tryd.f13.params.toList args.toList ds p := hA0
  rw [Tryd.params13] at hA hval
  obtain ⟨v0, vs0, d0, ds0, p0, q0, hargs, rfl, rfl, h0, r0⟩ := trodAll_cons hA
  obtain ⟨v1, vs1, d1, ds1, p1, q1, rfl, rfl, rfl, h1, r1⟩ := trodAll_cons r0
  obtain ⟨v2, vs2, d2, ds2, p2, q2, rfl, rfl, rfl, h2, r2⟩ := trodAll_cons r1
  obtain ⟨rfl, rfl, rfl⟩ := trodAll_nil r2
  obtain rfl : args = #[v0, v1, v2] := by cases args; simp_all
  obtain ⟨rfl, rfl⟩ := trodVars_none hV
  obtain ⟨a0, rfl, rfl, rfl, w0⟩ := open_string Tryd.underlying9 (hval 0 9 v0 rfl rfl) h0
  obtain ⟨a1, rfl, rfl, rfl, w1⟩ := open_string Tryd.underlying9 (hval 1 9 v1 rfl rfl) h1
  obtain ⟨a2, rfl, rfl, rfl, w2⟩ := open_string Tryd.underlying9 (hval 2 9 v2 rfl rfl) h2
  clear hA0 hval0
  refine (walk a0 a1 a2 W w0 w1 w2 (rk_of_laid (rest := []) hL)).mono fun e W' ⟨he, bel⟩ => ?_
  subst he
  exact ⟨_, rfl, _, _, _, [], _, [], hW', trodAll_mk1 (shut_bool Tryd.underlying4 _), (trodAll_cons_mk (shut_string Tryd.underlying9 w0) (trodAll_cons_mk (shut_string Tryd.underlying9 w1) (trodAll_cons_mk (shut_string Tryd.underlying9 w2) trodAll_mk0))), rfl, bel.frame _, fun h => by cases h⟩

theorem over : Rows.digestMoreRow.holds Tryd.pinned (OpenSpec.ofChange Rows.digestMoreSpec) :=
  OpenClaim.holds_of_wide 13 Tryd.f13 rfl rfl rfl rfl rfl rfl rfl ⟨rfl, rfl, rfl, rfl, rfl⟩ rfl rfl rfl rfl rfl (by kernel_rfl) Tryd.func13 (by kernel_rfl)
    (of_decide_eq_true (by kernel_rfl)) (by unfold Func.isWrapper; first | (rw [if_pos (by decide +kernel)]; kernel_rfl) | (rw [if_neg (by decide +kernel)]; exact ⟨rfl, rfl⟩))
    (fun os started H enc _ => lifted os started H enc)

theorem plain (f : FuncId) (fn : Func) (hf : Tryd.pinned.checked.prog.funcNamed "hindsight/hindsightlaw01.DigestMore" = some f) (hfn : Tryd.pinned.checked.prog.funcs[f]? = some fn) :
    (true : Bool) = Tryd.pinned.checked.prog.looks [] ∧ ∀ (j : Nat) t, fn.params[j]? = some t → Tryd.pinned.checked.prog.wantsStandIn t = false := by
  obtain rfl : f = 13 := Option.some.inj ((show Tryd.prog.funcNamed "hindsight/hindsightlaw01.DigestMore" = some 13 by kernel_rfl).symm.trans hf) |>.symm
  obtain rfl : fn = Tryd.f13 := (Option.some.inj (Tryd.func13.symm.trans hfn)).symm
  refine ⟨by kernel_rfl, fun j t ht => ?_⟩
  rw [Tryd.params13] at ht
  have hm := Array.mem_of_getElem? ht
  simp only [List.mem_toArray, List.mem_cons, List.not_mem_nil, or_false] at hm
  rcases hm with rfl | rfl | rfl
  · exact (show Tryd.prog.wantsStandIn 9 = false by kernel_rfl)
  · exact (show Tryd.prog.wantsStandIn 9 = false by kernel_rfl)
  · exact (show Tryd.prog.wantsStandIn 9 = false by kernel_rfl)

theorem card : Rows.DigestMoreCardSaid :=
  Claim7.holds_tied_plain_at .later [] _ _ _ _ over (fun _ h => by cases h) (by kernel_rfl) (fun _ h => by cases h) digestMore_row_tie rfl ⟨rfl, rfl⟩ (by kernel_rfl) rfl plain (by kernel_rfl)

theorem proved : Rows.DigestMoreCardSaid := card

end Go.Proofs.YtjilbnkplhbnaaaDoor.digestMore
