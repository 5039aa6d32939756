/- TowerFloors: for every list of numbers, every number the law answers true, and its arguments read afterwards as they did. Conditions: the row lists two package-level variables (both tables of math/bits), which the card ties to the program's text. -/
import Derived.Test.YtbimdcjbpbpljaaDoorTowL
import Derived.Test.YtbimdcjbpbpljaaDoorTowQ
import Derived.Test.YtbimdcjbpbpljaaDoorInts
import Derived.Test.YtbimdcjbpbpljaaDoorCards
import Derived.Test.YtbimdcjbpbpljaaDoorTie
import Derived.ProofKit
import Derived.OpenShut
import Derived.SevenTiedAt
namespace Go.Proofs.YtbimdcjbpbpljaaDoor.towerFloors
open Go.ChangeShapes Go.WideShapes Go.ChangeAt Go.RowKit Go.Proofs.YtbimdcjbpbpljaaDoor.tow Go.Proofs.YtbimdcjbpbpljaaDoor.twi

def Arg0 (w : World) (a : Option Addr) (len cap : Nat) : Prop := ∃ T, ArgI w a len cap T
theorem opened0 {H : Type} {enc : TypeId × Value → H} {w : World} {spare : Nat → Bool} {held : Bool} {a : Option Addr} {len cap : Nat} {d : DataW H} {p : List MemPlace} (h : DataW.Trod enc Tryd.prog w 0 spare held 43 (.slice a len cap) d p) : Arg0 w a len cap := openedI h

/-- The greatest one of the first k that isn't above. -/
def Best (T : Nat → Int) (a : Int) (k : Nat) (best : Int) (is : Bool) : Prop :=
  (is = false ∧ best = 0 ∧ ∀ i, i < k → ¬ T i ≤ a) ∨ (is = true ∧ best ≤ a ∧ (∃ i, i < k ∧ T i = best) ∧ ∀ i, i < k → T i ≤ a → T i ≤ best)
theorem Best.done {T : Nat → Int} {a : Int} {k : Nat} {best : Int} {is : Bool} (h : Best T a k best is) : floorK a (putAll T T k) = (best, best, is) := by
  obtain ⟨h1, h2, h3, h4⟩ := putAll_sorted T T k
  rcases h with ⟨rfl, rfl, h⟩ | ⟨rfl, hb, ⟨i, hi, rfl⟩, h⟩
  · exact floorK_none fun x hx => by
      obtain ⟨i, hi, rfl⟩ := h3 x hx
      exact h i hi
  · obtain ⟨x, hx, ex⟩ := h4 i hi
    obtain ⟨j, hj, rfl⟩ := h3 x hx
    have := floorK_some h1 hx (by show T j ≤ a; rw [show T j = T i from ex]; exact hb) (fun y hy hya => by
      obtain ⟨m, hm, rfl⟩ := h3 y hy
      have := h m hm hya
      show T m ≤ T j
      rw [show T j = T i from ex]; exact this)
    rw [this]
    show (T j, T j, true) = _
    rw [show T j = T i from ex]

set_option maxRecDepth 100000 in
set_option maxHeartbeats 2000000 in
theorem walk (a : Option Addr) (len cap : Nat) (n : Int) (w : World) (hA : Arg0 w a len cap) (hw : (Lit.int .i64 n).wf = true) (hZ : Tz w.heap.size w) :
    Calls Tryd.prog 8 #[.slice a len cap, .int .i64 n] w fun en w' => en = .returned (.bool true) ∧ Below w.heap.size w w' := by
  obtain ⟨T, hT⟩ := hA
  have hn := wf_i64 hw
  obtain ⟨hn1, hn2⟩ := hn
  have HT := Lib.hid hT
  have HZ := Lib.hid hZ
  have hlen : (len : Int) ≤ 9223372036854775807 := by have := hT.1; have := hT.2.1; unfold maxLen at this; omega
  have hlen0 : (0 : Int) ≤ (len : Int) := by omega
  clear hZ hw hT
  go_enter Tryd.func8, Tryd.ntmps8
  go_wp2_with fail
  refine (awake_calls w HZ.out).mono ?_
  rintro en w1 ⟨rfl, b1⟩
  have B1 := Lib.hid b1
  clear b1
  go_wp2_with fail
  refine (twi.tw_new w1).mono ?_
  rintro en w2 ⟨b, rfl, hb, t2, b2⟩
  have O2 : Hid (One w b (putAll T T 0) w2) := Lib.hid ⟨t2.more (fun k _ e => Nat.le_trans B1.out.size e), B1.out.trans (b2.mono B1.out.size)⟩
  clear hb t2 b2 B1
  go_wp2_with fail
  go_loopw [6] (fun i wr => ∃ k : Nat, i = .int .i64 k ∧ k ≤ 40 ∧ k ≤ len ∧ Hid (One w b (putAll T T k) wr)) (fun i _ => 40 - (intOf i).toNat)
  case atStart => exact ⟨0, rfl, Nat.zero_le _, Nat.zero_le _, O2⟩
  case round =>
    clear O2
    obtain ⟨k, rfl, hk40, hkl, HO⟩ := hrel
    have hk0 : (0 : Int) ≤ (k : Int) := by omega
    by_cases hlt : k < len ∧ k < 40
    · have h1 : (k : Int) < (len : Int) := by omega
      have h2 : (k : Int) < 40 := by omega
      obtain ⟨g, o, rfl, hg, c0, m0, m1⟩ := (HT.out.below HO.out.bel).2.2 k hlt.1
      obtain ⟨y, hy⟩ : ∃ y, y = T k := ⟨_, rfl⟩
      rw [← hy] at c0 m0 m1
      have HY := Lib.hid hy
      clear hy
      go_wp2_with fail
      go_region_law (refine step_call rfl 27 Tryd.f27 Tryd.func27 (by kernel_rfl) (by kernel_rfl) _ _ rfl #[.pointer (some ⟨b, 0, none⟩), .int .i64 y, .int .i64 y] (by simp [Act.eval]) (HO.out.drew.tw.put_calls (HZ.out.below HO.out.drew.bel (Nat.le_refl _)) y y (by have := (putAll_sorted T T k).2.1; omega) ⟨m0, m1⟩) ?_
                     rintro en w4 ⟨was, rfl, _, h4, t4⟩
                     have O4 : Hid (One w b (putAll T T (k + 1)) w4) := Lib.hid (by have := HO.out.drew.put h4 t4; rw [HY.out] at this; exact this)
                     clear h4 t4
                     refine ⟨_, rfl, ?_⟩)
      all_goals
        go_wp2_with fail
        refine ⟨⟨k + 1, by rw [Int.natCast_add]; rfl, by omega, by omega, O4⟩, ?_⟩
        show 40 - ((k : Int) + 1).toNat < 40 - ((k : Int)).toNat
        omega
    · have hmin : k = min len 40 := by omega
      have hlen40 : (putAll T T k).length ≤ 40 := by have := (putAll_sorted T T k).2.1; omega
      have HM := Lib.hid hmin
      have HL40 := Lib.hid hlen40
      rcases (show ¬ (k : Int) < (len : Int) ∨ ((k : Int) < (len : Int) ∧ ¬ (k : Int) < 40) by omega) with h1 | ⟨h1, h2⟩
      all_goals
        clear hmin hlen40
        go_wp2_with fail
        go_loopw [7, 8, 9] (fun x z i wv => ∃ (best : Int) (is : Bool) (j : Nat), x = .int .i64 best ∧ z = .bool is ∧ i = .int .i64 j ∧ j ≤ k ∧ wv = wr ∧ Hid (Best T n j best is)) (fun _ _ i _ => 40 - (intOf i).toNat)
        case atStart => exact ⟨0, false, 0, rfl, rfl, rfl, Nat.zero_le _, rfl, Lib.hid (.inl ⟨rfl, rfl, fun i hi => by omega⟩)⟩
        case round =>
          clear h1
          obtain ⟨best, is, j, rfl, rfl, rfl, hj, rfl, HB⟩ := hrel
          have hj0 : (0 : Int) ≤ (j : Int) := by omega
          by_cases hlt2 : j < k
          · have g1 : (j : Int) < (len : Int) := by omega
            have g2 : (j : Int) < 40 := by omega
            obtain ⟨g, o, rfl, hg, c0, m0, m1⟩ := (HT.out.below HO.out.bel).2.2 j (by omega)
            obtain ⟨y, hy⟩ : ∃ y, y = T j := ⟨_, rfl⟩
            rw [← hy] at c0 m0 m1
            have HY := Lib.hid hy
            clear hy
            rcases (show (¬ y ≤ n ∧ Best T n (j + 1) best is) ∨ (y ≤ n ∧ is = false ∧ Best T n (j + 1) y true) ∨ (y ≤ n ∧ is = true ∧ best < y ∧ Best T n (j + 1) y true) ∨ (y ≤ n ∧ is = true ∧ ¬ best < y ∧ Best T n (j + 1) best is) from by
              have hy := HY.out
              by_cases h1 : y ≤ n
              · rcases HB.out with ⟨rfl, hb0, h⟩ | ⟨rfl, hb, ⟨i, hi, hib⟩, h⟩
                · refine .inr (.inl ⟨h1, rfl, .inr ⟨rfl, h1, ⟨j, by omega, hy.symm⟩, fun i hi hin => ?_⟩⟩)
                  by_cases e : i = j
                  · rw [e, ← hy]; exact Int.le_refl _
                  · exact absurd hin (h i (by omega))
                · by_cases h2 : best < y
                  · refine .inr (.inr (.inl ⟨h1, rfl, h2, .inr ⟨rfl, h1, ⟨j, by omega, hy.symm⟩, fun i hi hin => ?_⟩⟩))
                    by_cases e : i = j
                    · rw [e, ← hy]; exact Int.le_refl _
                    · have := h i (by omega) hin; omega
                  · refine .inr (.inr (.inr ⟨h1, rfl, h2, .inr ⟨rfl, hb, ⟨i, by omega, hib⟩, fun m hm hin => ?_⟩⟩))
                    by_cases e : m = j
                    · rw [e, ← hy]; omega
                    · exact h m (by omega) hin
              · refine .inl ⟨h1, ?_⟩
                rcases HB.out with ⟨rfl, hb0, h⟩ | ⟨rfl, hb, ⟨i, hi, hib⟩, h⟩
                · refine .inl ⟨rfl, hb0, fun i hi => ?_⟩
                  by_cases e : i = j
                  · rw [e, ← hy]; exact h1
                  · exact h i (by omega)
                · refine .inr ⟨rfl, hb, ⟨i, by omega, hib⟩, fun m hm hin => ?_⟩
                  by_cases e : m = j
                  · rw [e, ← hy] at hin; exact absurd hin h1
                  · exact h m (by omega) hin) with ⟨q1, hb⟩ | ⟨q1, rfl, hb⟩ | ⟨q1, rfl, q2, hb⟩ | ⟨q1, rfl, q2, hb⟩
            all_goals
              have HB2 := Lib.hid hb
              clear hb HB
              go_wp2_with fail
              refine ⟨⟨_, _, j + 1, rfl, rfl, by rw [Int.natCast_add]; rfl, by omega, trivial, HB2⟩, ?_⟩
              show 40 - ((j : Int) + 1).toNat < 40 - ((j : Int)).toNat
              omega
          · obtain rfl : j = k := by omega
            have hfl := (twi.Tw.floor_calls HO.out.tw n (by have := HL40.out; omega))
            rw [HB.out.done] at hfl
            have HF := Lib.hid hfl
            have hm := HM.out
            clear hfl HB hlt2 hj hkl hk40
            rcases (show ¬ (j : Int) < (len : Int) ∨ ((j : Int) < (len : Int) ∧ ¬ (j : Int) < 40) by omega) with g1 | ⟨g1, g2⟩
            all_goals
              clear hm
              go_wp2_with fail
              refine HF.out.mono ?_
              rintro en w5 ⟨rfl, b5⟩
              have O5 : Hid (One w b (putAll T T j) w5) := Lib.hid (HO.out.more b5)
              clear b5
              have hbb : ∀ x : Int, (x == x) = true := fun x => beq_self_eq_true x
              cases is <;> go_wp2_with fail
              all_goals
                refine (O5.out.tw.steps_calls n (by have := HL40.out; omega)).mono ?_
                obtain ⟨S, hS⟩ : ∃ S, S = stpL (((putAll T T j).filter (fun x => decide (x.1 ≤ n))).map (fun x => hgt x.1)) := ⟨_, rfl⟩
                obtain ⟨L, hL⟩ : ∃ L, L = (putAll T T j).length := ⟨_, rfl⟩
                have hSL : (S : Int) ≤ (L : Int) := by
                  have h1 := stpL_le (((putAll T T j).filter (fun x => decide (x.1 ≤ n))).map (fun x => hgt x.1))
                  rw [List.length_map] at h1
                  have h2 := List.length_filter_le (fun x : Int × Int => decide (x.1 ≤ n)) (putAll T T j)
                  omega
                rw [← hS]
                have HLL := Lib.hid hL
                clear hS hL
                rintro en w6 ⟨rfl, b6⟩
                have O6 : Hid (One w b (putAll T T j) w6) := Lib.hid (O5.out.more b6)
                clear b6
                go_wp2_with fail
                refine (twi.Tw.len_calls O6.out.tw).mono ?_
                rw [← HLL.out]
                rintro en w7 ⟨rfl, rfl⟩
                go_wp2_with fail
                go_ret
                exact ⟨rfl, O6.out.bel⟩
theorem own : ownKnob Tryd.prog.godebug = none := by kernel_rfl
theorem laidOut : laidOutB Tryd.prog = true := by kernel_rfl

set_option maxRecDepth 100000 in
theorem lifted (os : Os) (started : os.Started) (H : Type) (enc : TypeId × Value → H) :
    ReturnsInHanded {} Tryd.checked os 8 .any (fun w args => (Rows.towerFloorsSpec.pre enc Tryd.prog Tryd.f8 [] false w args ∧ laidMetH Tryd.prog Rows.towerFloorsRow.laid w) ∧ sizedMet enc Tryd.prog Tryd.f8 (OpenSpec.ofChange Rows.towerFloorsSpec) false w args)
      (Rows.towerFloorsSpec.post enc Tryd.prog Tryd.f8 false true false false) := by
  refine returnsInHanded_of_change_and (C := Tryd.checked) (X := fun w _ => laidMetH Tryd.prog Rows.towerFloorsRow.laid w) (fun _ _ _ hh h => h.of_heap hh) own started (by kernel_rfl) Tryd.func8
    (ChangeSpec.witness_shaped (enc := enc) (C := Tryd.checked) (os := os) (X := fun w _ => laidMetH Tryd.prog Rows.towerFloorsRow.laid w) false (World.doorLaid Tryd.prog 19 os) #[.slice none 0 0, .int .i64 0] 8 rfl (door_shaped os _) (by kernel_rfl) (by kernel_rfl) (by kernel_rfl) (door_met os _)) ?_
  intro W base args ds gs before hval0 hW _ _ hL _
  have hval : ∀ (j : Nat) t v, Tryd.f8.params[j]? = some t → args[j]? = some v → Value.okWide Tryd.prog W .any base t v := hval0
  have hW' := hW
  obtain ⟨p, q, hA0, hV, rfl, _, _⟩ := hW
  have hA : DataW.TrodAll enc Tryd.prog W 0 (fun _ => true) true Tryd.f8.params.toList args.toList ds p := hA0
  rw [Tryd.params8] at hA hval
  obtain ⟨v0, vs0, d0, ds0, p0, q0, hargs, rfl, rfl, h0, r0⟩ := trodAll_cons hA
  obtain ⟨v1, vs1, d1, ds1, p1, q1, rfl, rfl, rfl, h1, r1⟩ := trodAll_cons r0
  obtain ⟨rfl, rfl, rfl⟩ := trodAll_nil r1
  obtain rfl : args = #[v0, v1] := by cases args; simp_all
  obtain ⟨rfl, rfl⟩ := trodVars_none hV
  obtain ⟨a0, len0, cap0, rfl⟩ := okWide_slice Tryd.underlying43 (hval 0 43 v0 rfl rfl)
  have k0 := h0
  have lt0 : ∀ x ∈ p0, x.block < W.heap.size := by obtain ⟨m, hm⟩ := k0; exact DataW.trod_lt m _ _ _ hm
  have w0 : Arg0 W a0 len0 cap0 := opened0 h0
  obtain ⟨a1, rfl, rfl, rfl, w1⟩ := open_int Tryd.underlying3 (hval 1 3 v1 rfl rfl) h1
  clear hA0 hval0
  refine (walk a0 len0 cap0 a1 W w0 w1 (tz_of_laid (rest := []) hL)).mono fun e W' ⟨he, bel⟩ => ?_
  subst he
  exact ⟨_, rfl, _, _, _, [], _, [], hW', trodAll_mk1 (shut_bool Tryd.underlying4 _), (trodAll_cons_mk (Below.trod laidOut (by kernel_rfl) (of_decide_eq_true (by kernel_rfl)) k0 bel lt0) (trodAll_cons_mk (shut_int Tryd.underlying3 w1) trodAll_mk0)), rfl, bel.frame _, fun h => by cases h⟩

theorem over : Rows.towerFloorsRow.holds Tryd.pinned (OpenSpec.ofChange Rows.towerFloorsSpec) :=
  OpenClaim.holds_of_wide 8 Tryd.f8 rfl rfl rfl rfl rfl rfl rfl ⟨rfl, rfl, rfl, rfl, rfl⟩ rfl rfl rfl rfl rfl (by kernel_rfl) Tryd.func8 (by kernel_rfl)
    (of_decide_eq_true (by kernel_rfl)) (by unfold Func.isWrapper; first | (rw [if_pos (by decide +kernel)]; kernel_rfl) | (rw [if_neg (by decide +kernel)]; exact ⟨rfl, rfl⟩))
    (fun os started H enc _ => lifted os started H enc)

theorem plain (f : FuncId) (fn : Func) (hf : Tryd.pinned.checked.prog.funcNamed "hindsight/hindsightlaw13.TowerFloors" = some f) (hfn : Tryd.pinned.checked.prog.funcs[f]? = some fn) :
    (false : Bool) = Tryd.pinned.checked.prog.looks [] ∧ ∀ (j : Nat) t, fn.params[j]? = some t → Tryd.pinned.checked.prog.wantsStandIn t = false := by
  obtain rfl : f = 8 := Option.some.inj ((show Tryd.prog.funcNamed "hindsight/hindsightlaw13.TowerFloors" = some 8 by kernel_rfl).symm.trans hf) |>.symm
  obtain rfl : fn = Tryd.f8 := (Option.some.inj (Tryd.func8.symm.trans hfn)).symm
  refine ⟨by kernel_rfl, fun j t ht => ?_⟩
  rw [Tryd.params8] at ht
  have hm := Array.mem_of_getElem? ht
  simp only [List.mem_toArray, List.mem_cons, List.not_mem_nil, or_false] at hm
  rcases hm with rfl | rfl
  · exact (show Tryd.prog.wantsStandIn 43 = false by kernel_rfl)
  · exact (show Tryd.prog.wantsStandIn 3 = false by kernel_rfl)

theorem card : Rows.TowerFloorsCardSaid :=
  Claim7.holds_tied_plain_at .later [] _ _ _ _ over (fun _ h => by cases h) (by kernel_rfl) (fun _ h => by cases h) towerFloors_row_tie rfl ⟨rfl, rfl⟩ (by kernel_rfl) rfl plain (by kernel_rfl)

theorem proved : Rows.TowerFloorsCardSaid := card

end Go.Proofs.YtbimdcjbpbpljaaDoor.towerFloors
