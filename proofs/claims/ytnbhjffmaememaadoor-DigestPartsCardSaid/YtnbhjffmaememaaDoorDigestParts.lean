/- DigestParts: for every list of strings the law answers true, and its argument reads afterwards as it did. Conditions: the row lists one package-level variable (digest's table of rounds), which the card ties to the program's text. -/
import Derived.Test.YtnbhjffmaememaaDoorDigT
import Derived.Test.YtnbhjffmaememaaDoorDigM
import Derived.Test.YtnbhjffmaememaaDoorStrs
import Derived.Test.YtnbhjffmaememaaDoorDigN
import Derived.Test.YtnbhjffmaememaaDoorCards
import Derived.Test.YtnbhjffmaememaaDoorTie
import Derived.ProofKit
import Derived.OpenShut
import Derived.SevenTiedAt
namespace Go.Proofs.YtnbhjffmaememaaDoor.digestParts
open Go.ChangeShapes Go.WideShapes Go.ChangeAt Go.RowKit Go.Proofs.YtnbhjffmaememaaDoor.dig

def Arg0 (w : World) (a : Option Addr) (len cap : Nat) : Prop := ∃ T, ArgS w a len cap T
theorem opened0 {H : Type} {enc : TypeId × Value → H} {w : World} {spare : Nat → Bool} {held : Bool} {a : Option Addr} {len cap : Nat} {d : DataW H} {p : List MemPlace} (h : DataW.Trod enc Tryd.prog w 0 spare held 22 (.slice a len cap) d p) : Arg0 w a len cap := openedStrs h

set_option maxRecDepth 100000 in
set_option maxHeartbeats 1000000 in
theorem walk (a : Option Addr) (len cap : Nat) (w : World) (hA : Arg0 w a len cap) (hR : Rk w) :
    Calls Tryd.prog 3 #[.slice a len cap] w fun en w' => en = .returned (.bool true) ∧ Below w.heap.size w w' := by
  obtain ⟨T, hT⟩ := hA
  have HT := Lib.hid hT
  have HR := Lib.hid hR
  have HG := Lib.hid hR.lt
  have hlen : (len : Int) ≤ 9223372036854775807 := by have := hT.1; have := hT.2.1; unfold maxLen at this; omega
  clear hT hR
  go_enter Tryd.func3, Tryd.ntmps3
  go_wp2_with fail
  refine (awake_any w HR.out).mono ?_
  rintro en w1 ⟨rfl, b1⟩
  have R1 : Hid (Rk w1 ∧ Below w.heap.size w w1) := Lib.hid ⟨HR.out.below b1, b1⟩
  clear b1
  go_wp2_with fail
  refine (new_calls w1 R1.out.1).mono ?_
  rintro en w2 ⟨h, rfl, ax1, b2, l1, m1⟩
  have R2 : Hid (One w w2 h []) := Lib.hid (One.made R1.out.2 ax1 b2 l1 m1)
  clear ax1 b2 l1 m1 R1
  go_wp2_with fail
  go_loopw [4, 5] (fun al i wr => ∃ (k : Nat) (s : ByteArray), al = .string s ∧ i = .int .i64 k ∧ k ≤ 9 ∧ k ≤ len ∧ s.size ≤ 80 * k ∧ Hid (One w wr h s.data.toList)) (fun _ i _ => 9 - (intOf i).toNat)
  case atStart => exact ⟨0, ByteArray.empty, rfl, rfl, by omega, by omega, by simp, R2⟩
  case round =>
    obtain ⟨k, s, rfl, rfl, hk9, hkl, hs, HB⟩ := hrel
    clear R2
    by_cases hc : k < len ∧ k < 9
    · obtain ⟨hc1, hc2⟩ := hc
      have hj1 : (k : Int) < (len : Int) := by omega
      have hj2 : (k : Int) < 9 := by omega
      have hj0 : (0 : Int) ≤ (k : Int) := by omega
      obtain ⟨b, o, rfl, hb, hcell, hsz⟩ := HT.out.2.2 k hc1
      have c0 : wr.cell? ⟨b, o + k, none⟩ = some (.string (T k)) := by
        rw [← hcell]
        unfold World.cell?
        rw [HB.out.below.block b hb]
      clear hcell
      obtain ⟨p', hp⟩ := cut_size (T k) 80
      go_wp2_with fail
      refine (cut_any (T k) 80 wr (by omega) hsz).mono ?_
      rw [hp.1]
      rintro en w1 ⟨rfl, rfl⟩
      have hp2 := hp.2
      clear hp c0 hsz
      go_wp2_with fail
      refine (add_calls h s.data.toList p' wr ⟨HB.out.one, HB.out.rk, by have := HB.out.lo; have := HG.out; omega, grown_refl _ _⟩ (by simp; omega)).mono ?_
      rw [show s.data.toList ++ p'.data.toList = (s ++ p').data.toList by simp]
      rintro en w4 ⟨rfl, ax⟩
      have hl : ∀ j, j < (s ++ p').size → j < 1000 := fun j hj => by rw [ByteArray.size_append] at hj; omega
      have hsz2 : (s ++ p').size ≤ 80 * (k + 1) := by rw [ByteArray.size_append]; omega
      have R4 : Hid (One w w4 h (s ++ p').data.toList) := Lib.hid ⟨ax.st, ax.rk, HB.out.lo, HB.out.below.trans (below_grown ax.turn HB.out.lo HB.out.below.size)⟩
      clear ax HB hl
      go_wp2_with fail
      generalize s ++ p' = s2 at *
      refine (sum_calls h _ w4 R4.out.one R4.out.rk (by simp; omega)).mono ?_
      rintro en w5 ⟨rfl, b5⟩
      have K3 : Hid (One w w5 h s2.data.toList) := Lib.hid ⟨R4.out.one.below b5 R4.out.one.lt, R4.out.rk.below b5, R4.out.lo, R4.out.below.trans (b5.mono R4.out.below.size)⟩
      clear b5 R4
      have hsl := sum_length s2.data.toList
      have hsc : (cellsOf (sum s2.data.toList)).size = 32 := by rw [cellsOf_size, hsl]
      have HSC := Lib.hid hsc
      have HSL := Lib.hid hsl
      have HS2 := Lib.hid hsz2
      clear hsl hsc hs hsz2
      go_wp2_with (first
        | (refine wpList_store_cells (o := ⟨none, _, _, _, _, _⟩) rfl 29 _ _ rfl w5.heap.size (cellsOf (sum s2.data.toList)) _ rfl rfl _ (made_at _ _ rfl) (HSC.out.symm ▸ (by kernel_rfl)) (HSC.out.symm ▸ rfl) (cellsOf_one _) ?_; intro W4 HW4 TW4;
           (have K4 : Hid (Has W4 w5.heap.size 29 (cellsOf (sum s2.data.toList)) ∧ One w W4 h s2.data.toList) := Lib.hid ⟨HW4, K3.out.made_more TW4⟩);
           clear K3 HW4 TW4)
        | fail)
      obtain ⟨R, hR⟩ : ∃ R, R = sum s2.data.toList := ⟨_, rfl⟩
      obtain ⟨gs, hgs⟩ : ∃ gs, gs = w5.heap.size := ⟨_, rfl⟩
      have HRR := Lib.hid hR
      have HRL : Hid (R.length = 32) := by rw [hR]; exact HSL
      have K5 : Hid (Has W4 gs 29 (cellsOf R) ∧ One w W4 h s2.data.toList) := by rw [hR, hgs]; exact K4
      rw [← hgs]
      clear K4 HSL HSC hR hgs
      refine wp_region_S (S := fun V => Has V gs 29 (cellsOf R) ∧ One w V h s2.data.toList) (by kernel_rfl) ⟨K5.out.1.drew, K5.out.2.drew⟩ ?_
      refine AnyS.pure 0 (some 34) (v := .slice (some ⟨gs, 0, none⟩) 32 32) rfl rfl (by kernel_rfl) (by kernel_rfl) (by kernel_rfl) (fun _ _ _ h => h) (by kernel_rfl) (fun V hV => by go_simp) ?_
      refine AnyS.pure 2 (some 36) (v := .string s2) rfl rfl (by kernel_rfl) (by kernel_rfl) (by kernel_rfl) (fun _ _ _ h => h) (by kernel_rfl) (fun V hV => by go_simp) ?_
      simp only [Act.put, List.setIfInBounds_toArray, List.set_cons_zero, List.set_cons_succ]
      refine AnyS.pure 1 (some 35) (v := .string ⟨R.toArray⟩) rfl rfl (by kernel_rfl) (by kernel_rfl) (by kernel_rfl) (fun _ _ _ h => h) (by kernel_rfl) (fun V hV => by have ht := run_str_arr (P := Tryd.prog) 31 9 5 Tryd.underlying31 Tryd.underlying5 Tryd.underlying9 gs _ R 32 V hV.1; rw [HRL.out] at ht; go_simp) ?_
      refine AnyS.call 3 (some 37) (.string ⟨R.toArray⟩) rfl rfl (by kernel_rfl) (by kernel_rfl) (by kernel_rfl) (fun _ _ _ h => h) (by kernel_rfl) 22 Tryd.f22 Tryd.func22 (by kernel_rfl) (by kernel_rfl) _ _ rfl #[.string s2] (by first | (simp [Act.eval]; done) | (simp [Act.eval, Act.put]; done)) (fun V hV => (rof_calls s2 (by have := HS2.out; omega) V).mono (fun _ _ h => ⟨by rw [h.1, HRR.out], hV.1.below h.2 hV.1.lt, hV.2.bel h.2⟩)) ?_
      simp only [Act.put, List.setIfInBounds_toArray, List.set_cons_zero, List.set_cons_succ]
      refine AnyS.pure 4 (some 38) (v := .bool false) rfl rfl (by kernel_rfl) (by kernel_rfl) (by kernel_rfl) (fun _ _ _ h => h) (by kernel_rfl) (fun V _ => by go_simp) ?_
      refine AnyS.done (by kernel_rfl) (fun V hV => ?_) _
      have K6 := Lib.hid hV.2
      clear hV K5
      go_wp2_with fail
      refine ⟨⟨k + 1, s2, rfl, by rw [Int.natCast_add]; rfl, by omega, by omega, HS2.out, K6⟩, ?_⟩
      show 9 - ((k : Int) + 1).toNat < 9 - ((k : Int)).toNat
      omega
    · have hx : (len ≤ k) ∨ (k < len ∧ 9 ≤ k) := by omega
      have he1 := run_eql_same (sum s.data.toList) (sum_length _)
      clear hc
      rcases hx with h1 | ⟨h1, h2⟩
      all_goals
        have g1 : (k : Int) < (len : Int) ∨ ¬ (k : Int) < (len : Int) := by omega
        clear g1
        go_wp2_with fail
        refine (sum_calls h _ wr HB.out.one HB.out.rk (by simp; omega)).mono ?_
        rintro en w5 ⟨rfl, b5⟩
        have K3 : Hid (One w w5 h s.data.toList) := Lib.hid (HB.out.bel b5)
        clear b5 HB
        go_wp2_with fail
        refine (of_calls _ w5 K3.out.rk (by omega)).mono ?_
        rintro en w6 ⟨rfl, b6⟩
        have K4 : Hid (One w w6 h s.data.toList) := Lib.hid (K3.out.bel b6)
        clear b6 K3
        go_wp2_with fail
        go_ret
        exact ⟨rfl, K4.out.below⟩
theorem own : ownKnob Tryd.prog.godebug = none := by kernel_rfl
theorem laidOut : laidOutB Tryd.prog = true := by kernel_rfl

set_option maxRecDepth 100000 in
theorem lifted (os : Os) (started : os.Started) (H : Type) (enc : TypeId × Value → H) :
    ReturnsInHanded {} Tryd.checked os 3 .any (fun w args => (Rows.digestPartsSpec.pre enc Tryd.prog Tryd.f3 [] false w args ∧ laidMetH Tryd.prog Rows.digestPartsRow.laid w) ∧ sizedMet enc Tryd.prog Tryd.f3 (OpenSpec.ofChange Rows.digestPartsSpec) false w args)
      (Rows.digestPartsSpec.post enc Tryd.prog Tryd.f3 false true false false) := by
  refine returnsInHanded_of_change_and (C := Tryd.checked) (X := fun w _ => laidMetH Tryd.prog Rows.digestPartsRow.laid w) (fun _ _ _ hh h => h.of_heap hh) own started (by kernel_rfl) Tryd.func3
    (ChangeSpec.witness_shaped (enc := enc) (C := Tryd.checked) (os := os) (X := fun w _ => laidMetH Tryd.prog Rows.digestPartsRow.laid w) false (World.doorLaid Tryd.prog 31 os) #[.slice none 0 0] 8 rfl (door_shaped os _) (by kernel_rfl) (by kernel_rfl) (by kernel_rfl) (door_met os _)) ?_
  intro W base args ds gs before hval0 hW _ _ hL _
  have hval : ∀ (j : Nat) t v, Tryd.f3.params[j]? = some t → args[j]? = some v → Value.okWide Tryd.prog W .any base t v := hval0
  have hW' := hW
  obtain ⟨p, q, hA0, hV, rfl, _, _⟩ := hW
  have hA : DataW.TrodAll enc Tryd.prog W 0 (fun _ => true) true Tryd.f3.params.toList args.toList ds p := hA0
  rw [Tryd.params3] at hA hval
  obtain ⟨v0, vs0, d0, ds0, p0, q0, hargs, rfl, rfl, h0, r0⟩ := trodAll_cons hA
  obtain ⟨rfl, rfl, rfl⟩ := trodAll_nil r0
  obtain rfl : args = #[v0] := by cases args; simp_all
  obtain ⟨rfl, rfl⟩ := trodVars_none hV
  obtain ⟨a0, len0, cap0, rfl⟩ := okWide_slice Tryd.underlying22 (hval 0 22 v0 rfl rfl)
  have k0 := h0
  have lt0 : ∀ x ∈ p0, x.block < W.heap.size := by obtain ⟨m, hm⟩ := k0; exact DataW.trod_lt m _ _ _ hm
  have w0 : Arg0 W a0 len0 cap0 := opened0 h0
  clear hA0 hval0
  refine (walk a0 len0 cap0 W w0 (rk_of_laid (rest := []) hL)).mono fun e W' ⟨he, bel⟩ => ?_
  subst he
  exact ⟨_, rfl, _, _, _, [], _, [], hW', trodAll_mk1 (shut_bool Tryd.underlying4 _), (trodAll_cons_mk (Below.trod laidOut (by kernel_rfl) (of_decide_eq_true (by kernel_rfl)) k0 bel lt0) trodAll_mk0), rfl, bel.frame _, fun h => by cases h⟩

theorem over : Rows.digestPartsRow.holds Tryd.pinned (OpenSpec.ofChange Rows.digestPartsSpec) :=
  OpenClaim.holds_of_wide 3 Tryd.f3 rfl rfl rfl rfl rfl rfl rfl ⟨rfl, rfl, rfl, rfl, rfl⟩ rfl rfl rfl rfl rfl (by kernel_rfl) Tryd.func3 (by kernel_rfl)
    (of_decide_eq_true (by kernel_rfl)) (by unfold Func.isWrapper; first | (rw [if_pos (by decide +kernel)]; kernel_rfl) | (rw [if_neg (by decide +kernel)]; exact ⟨rfl, rfl⟩))
    (fun os started H enc _ => lifted os started H enc)

theorem plain (f : FuncId) (fn : Func) (hf : Tryd.pinned.checked.prog.funcNamed "hindsight/hindsightlaw01.DigestParts" = some f) (hfn : Tryd.pinned.checked.prog.funcs[f]? = some fn) :
    (true : Bool) = Tryd.pinned.checked.prog.looks [] ∧ ∀ (j : Nat) t, fn.params[j]? = some t → Tryd.pinned.checked.prog.wantsStandIn t = false := by
  obtain rfl : f = 3 := Option.some.inj ((show Tryd.prog.funcNamed "hindsight/hindsightlaw01.DigestParts" = some 3 by kernel_rfl).symm.trans hf) |>.symm
  obtain rfl : fn = Tryd.f3 := (Option.some.inj (Tryd.func3.symm.trans hfn)).symm
  refine ⟨by kernel_rfl, fun j t ht => ?_⟩
  rw [Tryd.params3] at ht
  have hm := Array.mem_of_getElem? ht
  simp only [List.mem_toArray, List.mem_cons, List.not_mem_nil, or_false] at hm
  subst hm
  exact (show Tryd.prog.wantsStandIn 22 = false by kernel_rfl)

theorem card : Rows.DigestPartsCardSaid :=
  Claim7.holds_tied_plain_at .later [] _ _ _ _ over (fun _ h => by cases h) (by kernel_rfl) (fun _ h => by cases h) digestParts_row_tie rfl ⟨rfl, rfl⟩ (by kernel_rfl) rfl plain (by kernel_rfl)

theorem proved : Rows.DigestPartsCardSaid := card

end Go.Proofs.YtnbhjffmaememaaDoor.digestParts
