/- FaultNone: for any step, any word and any place the law answers true, and its arguments read afterwards as they did. Conditions: the four variables that the row lists read as the program's own initialisers leave them (the card ties them); of these the walk reads errors.errorType alone. -/
import Derived.Test.YtlbpephbigikcaaDoorFltP
import Derived.Test.YtlbpephbigikcaaDoorFltJ
import Derived.Test.YtlbpephbigikcaaDoorFltK
import Derived.Test.YtlbpephbigikcaaDoorCards
import Derived.Test.YtlbpephbigikcaaDoorTie
import Derived.Stop.LaidErr
import Derived.SevenTiedAt
import Derived.ShutString
namespace Go.Proofs.YtlbpephbigikcaaDoor.faultNone
open Go Go.RowKit Go.ChangeShapes Go.WideShapes Go.ChangeAt Go.Proofs.YtlbpephbigikcaaDoor.flt
open Go.ChangeMaps (open_string shut_string)

theorem calls_name {P : Program} {f : FuncId} {args : Array Value} {w : World} {R : Ending → World → Prop} (h : ∀ W, w = W → Calls P f args W R) : Calls P f args w R := h w rfl
theorem et_of_laid4 {W : World} (h : laidMetH Tryd.prog [("math/bits.deBruijn32tab", Rows.laid_math_bits_deBruijn32tab), ("math/bits.deBruijn64tab", Rows.laid_math_bits_deBruijn64tab), ("internal/strconv.uint64pow10", Rows.laid_internal_strconv_uint64pow10), ("errors.errorType", Rows.laid_errors_errorType)] W) : Et W.heap.size W := by
  have h' : laidMet Tryd.prog [("math/bits.deBruijn32tab", Rows.laid_math_bits_deBruijn32tab), ("math/bits.deBruijn64tab", Rows.laid_math_bits_deBruijn64tab), ("internal/strconv.uint64pow10", Rows.laid_internal_strconv_uint64pow10)] W ∧ handlesMet Tryd.prog [("errors.errorType", Rows.laid_errors_errorType)] W := h
  have h2 : laidMet Tryd.prog [] W ∧ handlesMet Tryd.prog [("errors.errorType", Rows.laid_errors_errorType)] W := ⟨⟨[], rfl, List.nodup_nil, fun _ _ h => by cases h⟩, h'.2⟩
  exact et_of_laid h2
theorem door_met (os : Os) (args : Array Value) : laidMetH Tryd.prog [("math/bits.deBruijn32tab", Rows.laid_math_bits_deBruijn32tab), ("math/bits.deBruijn64tab", Rows.laid_math_bits_deBruijn64tab), ("internal/strconv.uint64pow10", Rows.laid_internal_strconv_uint64pow10), ("errors.errorType", Rows.laid_errors_errorType)] ((World.doorLaid Tryd.prog 31 os).forCall (fun _ _ => 0) ⟨#[], args, []⟩).memory :=
  laidMetH_of_parts3 (fuel := 8) (laidMet_of_run' 8 (by kernel_rfl) (by kernel_rfl)) (by kernel_rfl) (by kernel_rfl)

set_option maxRecDepth 100000 in
set_option maxHeartbeats 4000000 in
theorem none_any (s0 t0 : ByteArray) (a : Int) (w : World) (hs : s0.size ≤ maxLen) (ht : t0.size ≤ maxLen) (hT : Et w.heap.size w) :
    Calls Tryd.prog 5 #[.string s0, .string t0, .int .i64 a] w fun en w' => en = .returned (.bool true) ∧ Below w.heap.size w w' := by
  have HT := Lib.hid hT
  have HS0 := Lib.hid hs
  have HT0 := Lib.hid ht
  obtain ⟨s, hs1⟩ : ∃ s, cut10 s0 = s := ⟨_, rfl⟩
  obtain ⟨t, ht1⟩ : ∃ t, cut10 t0 = t := ⟨_, rfl⟩
  have HSC := Lib.hid hs1
  have HTC := Lib.hid ht1
  have HSZ : Hid (s.size ≤ 10) := Lib.hid (by rw [← hs1]; exact cut10_size s0)
  clear hT hs ht hs1 ht1
  go_enter Tryd.func5, Tryd.ntmps5
  go_wp2_with fail
  refine (cut_calls s0 _ HS0.out).mono ?_
  rw [HSC.out]
  rintro en w1 ⟨rfl, rfl⟩
  go_wp2_with fail
  refine (cut_calls t0 _ HT0.out).mono ?_
  rw [HTC.out]
  rintro en w1 ⟨rfl, rfl⟩
  go_wp2_with fail
  refine (awake_calls w.heap.size w HT.out).mono ?_
  rintro en w1 ⟨rfl, b1⟩
  have B1 := Lib.hid b1
  clear b1
  go_wp2_with fail
  refine (new_calls t w1).mono ?_
  rintro en w2 ⟨rfl, hw⟩
  have B2 : Hid (Below w.heap.size w w2) := Lib.hid (by rw [hw]; exact B1.out.alloc B1.out.size _)
  obtain ⟨p, hp⟩ : ∃ p, p = w1.heap.size := ⟨_, rfl⟩
  rw [← hp]
  clear hw hp
  go_wp2_with fail
  refine (in_plain p s a w2).mono ?_
  rintro en w3 ⟨rfl, hw⟩
  have B3 : Hid (Below w.heap.size w w3) := Lib.hid (by rw [hw]; exact B2.out.alloc B2.out.size _)
  have E3 : Hid (Has w3 w2.heap.size 47 #[.string s, .int .i64 a, pe p]) := Lib.hid (by rw [hw]; exact Has.made _ _ _)
  obtain ⟨q, hq⟩ : ∃ q, q = w2.heap.size := ⟨_, rfl⟩
  rw [← hq] at E3 ⊢
  clear hw hq
  go_wp2_with fail
  refine calls_name (fun W hW => ?_)
  have HE4 : Hid (Has W q 47 #[.string s, .int .i64 a, pe p]) := Lib.hid (by rw [← hW]; exact E3.out.alloc _)
  have HN4 : Hid (Has W w3.heap.size 47 #[.string s, .int .i64 1, .nilIface]) := Lib.hid (by rw [← hW]; exact Has.made _ _ _)
  have B4 : Hid (Below w.heap.size w W) := Lib.hid (by rw [← hW]; exact B3.out.alloc B3.out.size _)
  have HT4 : Hid (Et W.heap.size W) := Lib.hid (HT.out.whole B4.out)
  clear hW
  obtain ⟨b, hb⟩ : ∃ b, b = w3.heap.size := ⟨_, rfl⟩
  rw [← hb] at HN4 ⊢
  clear hb E3
  have hb1 : ¬ 9223372036854775807 < s.size + 11 := by have := HSZ.out; omega
  refine (where_nil _).mono ?_
  rintro en wr ⟨rfl, b5⟩
  have HB : Hid (Below W.heap.size W wr) := Lib.hid b5
  clear b5
  go_wp2_with fail
  refine (in_nil s a _).mono ?_
  rintro en wr ⟨rfl, rfl⟩
  go_wp2_with fail
  refine (of_nil _).mono ?_
  rintro en wr ⟨rfl, b5⟩
  replace HB := Lib.hid (HB.out.trans (below_less b5 HB.out.size))
  clear b5
  go_wp2_with fail
  refine (of_plain W.heap.size q p (.string s) (.int .i64 a) _ (HT4.out.below HB.out (Nat.le_refl _)) (HE4.out.below HB.out HE4.out.lt)).mono ?_
  rintro en wr ⟨rfl, b5⟩
  replace HB := Lib.hid (HB.out.trans (below_less b5 HB.out.size))
  clear b5
  go_wp2_with fail
  refine (Is_plain W.heap.size q p (.string s) (.int .i64 a) _ (HT4.out.below HB.out (Nat.le_refl _)) (HE4.out.below HB.out HE4.out.lt)).mono ?_
  rintro en wr ⟨rfl, b5⟩
  replace HB := Lib.hid (HB.out.trans (below_less b5 HB.out.size))
  clear b5
  go_wp2_with fail
  refine (error_bare W.heap.size b s _ (HT4.out.below HB.out (Nat.le_refl _)) (HN4.out.below HB.out HN4.out.lt) (by have := HSZ.out; omega)).mono ?_
  unfold bareB
  rintro en wr ⟨rfl, b5⟩
  replace HB := Lib.hid (HB.out.trans (below_less b5 HB.out.size))
  clear b5
  go_wp2_with fail
  refine (within_bare W.heap.size b s 1 _ (HT4.out.below HB.out (Nat.le_refl _)) (HN4.out.below HB.out HN4.out.lt) HN4.out.lt).mono ?_
  rintro en wr ⟨rfl, b5⟩
  replace HB := Lib.hid (HB.out.trans b5)
  clear b5
  go_wp2_with fail
  refine (within_plain W.heap.size p s _ (HT4.out.below HB.out (Nat.le_refl _))).mono ?_
  rintro en wr ⟨rfl, b5⟩
  replace HB := Lib.hid (HB.out.trans (below_less b5 HB.out.size))
  clear b5
  go_wp2_with fail
  go_ret
  exact ⟨rfl, B4.out.trans (below_less HB.out B4.out.size)⟩

theorem walk (s0 t0 : ByteArray) (a : Int) (w : World) (hs : s0.size ≤ maxLen) (ht : t0.size ≤ maxLen) (_ : (Lit.int .i64 a).wf = true) (hT : Et w.heap.size w) :
    Calls Tryd.prog 5 #[.string s0, .string t0, .int .i64 a] w fun en w' => en = .returned (.bool true) ∧ Below w.heap.size w w' := none_any s0 t0 a w hs ht hT

theorem own : ownKnob Tryd.prog.godebug = none := by kernel_rfl
theorem laidOut : laidOutB Tryd.prog = true := by kernel_rfl

set_option maxRecDepth 100000 in
theorem lifted (os : Os) (started : os.Started) (H : Type) (enc : TypeId × Value → H) :
    ReturnsInHanded {} Tryd.checked os 5 .any (fun w args => (Rows.faultNoneSpec.pre enc Tryd.prog Tryd.f5 [] false w args ∧ laidMetH Tryd.prog Rows.faultNoneRow.laid w) ∧ sizedMet enc Tryd.prog Tryd.f5 (OpenSpec.ofChange Rows.faultNoneSpec) false w args)
      (Rows.faultNoneSpec.post enc Tryd.prog Tryd.f5 false true false false) := by
  refine returnsInHanded_of_change_and (C := Tryd.checked) (X := fun w _ => laidMetH Tryd.prog Rows.faultNoneRow.laid w) (fun _ _ _ hh h => h.of_heap hh) own started (by kernel_rfl) Tryd.func5
    (ChangeSpec.witness_shaped (enc := enc) (C := Tryd.checked) (os := os) (X := fun w _ => laidMetH Tryd.prog Rows.faultNoneRow.laid w) false (World.doorLaid Tryd.prog 31 os) #[.string ByteArray.empty, .string ByteArray.empty, .int .i64 0] 8 rfl (door_shaped os _) (by kernel_rfl) (by kernel_rfl) (by kernel_rfl) (door_met os _)) ?_
  intro W base args ds gs before hval0 hW _ _ hL _
  have hval : ∀ (j : Nat) t v, Tryd.f5.params[j]? = some t → args[j]? = some v → Value.okWide Tryd.prog W .any base t v := hval0
  have hW' := hW
  obtain ⟨p, q, hA0, hV, rfl, _, _⟩ := hW
  have hA : DataW.TrodAll enc Tryd.prog W 0 (fun _ => true) true Tryd.f5.params.toList args.toList ds p := hA0
  rw [Tryd.params5] at hA hval
  obtain ⟨v0, vs0, d0, ds0, p0, q0, hargs, rfl, rfl, h0, r0⟩ := trodAll_cons hA
  obtain ⟨v1, vs1, d1, ds1, p1, q1, rfl, rfl, rfl, h1, r1⟩ := trodAll_cons r0
  obtain ⟨v2, vs2, d2, ds2, p2, q2, rfl, rfl, rfl, h2, r2⟩ := trodAll_cons r1
  obtain ⟨rfl, rfl, rfl⟩ := trodAll_nil r2
  obtain rfl : args = #[v0, v1, v2] := by cases args; simp_all
  obtain ⟨rfl, rfl⟩ := trodVars_none hV
  obtain ⟨a0, rfl, rfl, rfl, w0⟩ := open_string Tryd.underlying9 (hval 0 9 v0 rfl rfl) h0
  obtain ⟨a1, rfl, rfl, rfl, w1⟩ := open_string Tryd.underlying9 (hval 1 9 v1 rfl rfl) h1
  obtain ⟨a2, rfl, rfl, rfl, w2⟩ := open_int Tryd.underlying3 (hval 2 3 v2 rfl rfl) h2
  clear hA0 hval0
  refine (walk a0 a1 a2 W w0 w1 w2 (et_of_laid4 hL)).mono fun e W' ⟨he, bel⟩ => ?_
  subst he
  exact ⟨_, rfl, _, _, _, [], _, [], hW', trodAll_mk1 (shut_bool Tryd.underlying4 _), (trodAll_cons_mk (shut_string Tryd.underlying9 w0) (trodAll_cons_mk (shut_string Tryd.underlying9 w1) (trodAll_cons_mk (shut_int Tryd.underlying3 w2) trodAll_mk0))), rfl, bel.frame _, fun h => by cases h⟩

theorem over : Rows.faultNoneRow.holds Tryd.pinned (OpenSpec.ofChange Rows.faultNoneSpec) :=
  OpenClaim.holds_of_wide 5 Tryd.f5 rfl rfl rfl rfl rfl rfl rfl ⟨rfl, rfl, rfl, rfl, rfl⟩ rfl rfl rfl rfl rfl (by kernel_rfl) Tryd.func5 (by kernel_rfl)
    (of_decide_eq_true (by kernel_rfl)) (by unfold Func.isWrapper; first | (rw [if_pos (by decide +kernel)]; kernel_rfl) | (rw [if_neg (by decide +kernel)]; exact ⟨rfl, rfl⟩))
    (fun os started H enc _ => lifted os started H enc)

theorem plain (f : FuncId) (fn : Func) (hf : Tryd.pinned.checked.prog.funcNamed "hindsight/hindsightlaw03.FaultNone" = some f) (hfn : Tryd.pinned.checked.prog.funcs[f]? = some fn) :
    (true : Bool) = Tryd.pinned.checked.prog.looks [] ∧ ∀ (j : Nat) t, fn.params[j]? = some t → Tryd.pinned.checked.prog.wantsStandIn t = false := by
  obtain rfl : f = 5 := Option.some.inj ((show Tryd.prog.funcNamed "hindsight/hindsightlaw03.FaultNone" = some 5 by kernel_rfl).symm.trans hf) |>.symm
  obtain rfl : fn = Tryd.f5 := (Option.some.inj (Tryd.func5.symm.trans hfn)).symm
  refine ⟨by kernel_rfl, fun j t ht => ?_⟩
  rw [Tryd.params5] at ht
  have hm := Array.mem_of_getElem? ht
  simp only [List.mem_toArray, List.mem_cons, List.not_mem_nil, or_false] at hm
  rcases hm with rfl | rfl | rfl
  · exact (show Tryd.prog.wantsStandIn 9 = false by kernel_rfl)
  · exact (show Tryd.prog.wantsStandIn 9 = false by kernel_rfl)
  · exact (show Tryd.prog.wantsStandIn 3 = false by kernel_rfl)

theorem card : Rows.FaultNoneCardSaid :=
  Claim7.holds_tied_plain_at .later [] _ _ _ _ over (fun _ h => by cases h) (by kernel_rfl) (fun _ h => by cases h) faultNone_row_tie rfl ⟨rfl, rfl⟩ (by kernel_rfl) rfl plain (by kernel_rfl)

theorem proved : Rows.FaultNoneCardSaid := card


end Go.Proofs.YtlbpephbigikcaaDoor.faultNone
