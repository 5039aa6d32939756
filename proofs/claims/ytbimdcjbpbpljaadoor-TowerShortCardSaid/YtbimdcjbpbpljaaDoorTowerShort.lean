/- TowerShort: for every two numbers the law answers true, and its arguments read afterwards as they did. Conditions: the row lists two package-level variables (both tables of math/bits), which the card ties to the program's text. -/
import Derived.Test.YtbimdcjbpbpljaaDoorTowL
import Derived.Test.YtbimdcjbpbpljaaDoorTowQ
import Derived.Test.YtbimdcjbpbpljaaDoorInts
import Derived.Test.YtbimdcjbpbpljaaDoorCards
import Derived.Test.YtbimdcjbpbpljaaDoorTie
import Derived.ProofKit
import Derived.OpenShut
import Derived.SevenTiedAt
namespace Go.Proofs.YtbimdcjbpbpljaaDoor.towerShort
open Go.ChangeShapes Go.WideShapes Go.ChangeAt Go.RowKit Go.Proofs.YtbimdcjbpbpljaaDoor.tow Go.Proofs.YtbimdcjbpbpljaaDoor.twi

/-- The versions 1 to m, each kept with itself. -/
def seqK : Nat → List (Int × Int)
  | 0 => []
  | m + 1 => seqK m ++ [((m : Int) + 1, (m : Int) + 1)]
theorem seqK_mem : ∀ (m : Nat) (x : Int × Int), x ∈ seqK m ↔ ∃ i : Nat, i < m ∧ x = ((i : Int) + 1, (i : Int) + 1)
  | 0, x => by simp [seqK]
  | m + 1, x => by
    show x ∈ seqK m ++ [_] ↔ _
    rw [List.mem_append, seqK_mem m, List.mem_singleton]
    constructor
    · rintro (⟨i, hi, e⟩ | e)
      · exact ⟨i, by omega, e⟩
      · exact ⟨m, by omega, e⟩
    · rintro ⟨i, hi, e⟩
      by_cases h : i = m
      · exact .inr (by rw [e, h])
      · exact .inl ⟨i, by omega, e⟩
theorem seqK_len : ∀ m, (seqK m).length = m
  | 0 => rfl
  | m + 1 => by show (seqK m ++ [_]).length = _; rw [List.length_append, seqK_len m]; rfl
theorem insK_last {a v : Int} : ∀ {l : List (Int × Int)}, (∀ x ∈ l, x.1 < a) → insK a v l = l ++ [(a, v)]
  | [], _ => rfl
  | x :: l, h => by
    rw [insK_cons, if_pos (h x (by simp)), insK_last (fun y hy => h y (by simp [hy]))]
    rfl
theorem seqK_put (m : Nat) : insK ((m : Int) + 1) ((m : Int) + 1) (seqK m) = seqK (m + 1) :=
  insK_last fun x hx => by
    obtain ⟨i, hi, rfl⟩ := (seqK_mem m x).1 hx
    show (i : Int) + 1 < (m : Int) + 1
    omega
theorem seqK_sorted : ∀ m, (seqK m).Pairwise (fun x y => x.1 < y.1)
  | 0 => List.Pairwise.nil
  | m + 1 => by rw [← seqK_put]; exact insK_sorted _ _ (seqK_sorted m)
/-- Those that aren't above a. -/
theorem seqK_upto (a : Int) : ∀ n : Nat, (seqK n).filter (fun x => decide (x.1 ≤ a)) = seqK (min a.toNat n)
  | 0 => by rw [Nat.min_zero]; rfl
  | n + 1 => by
    show (seqK n ++ [_]).filter _ = _
    rw [List.filter_append, seqK_upto a n]
    by_cases h : (n : Int) + 1 ≤ a
    · have e1 : min a.toNat n = n := by omega
      have e2 : min a.toNat (n + 1) = n + 1 := by omega
      rw [e1, e2]
      show seqK n ++ _ = seqK n ++ _
      congr 1
      simp [h]
    · have e2 : min a.toNat (n + 1) = min a.toNat n := by omega
      rw [e2]
      simp [h]
theorem floor_low {a : Int} (h : a < 1) (n : Nat) : floorK a (seqK n) = (0, 0, false) :=
  floorK_none fun x hx => by
    obtain ⟨i, hi, rfl⟩ := (seqK_mem n x).1 hx
    show ¬ (i : Int) + 1 ≤ a
    omega
theorem floor_at {a : Int} (h : 1 ≤ a) {n : Nat} (hn : 0 < n) : floorK a (seqK n) = (if (n : Int) < a then (n : Int) else a, if (n : Int) < a then (n : Int) else a, true) := by
  obtain ⟨m, hm⟩ : ∃ m : Nat, ((m : Int) + 1 = if (n : Int) < a then (n : Int) else a) ∧ m < n := ⟨(if (n : Int) < a then (n : Int) else a).toNat - 1, by split <;> omega⟩
  have := floorK_some (seqK_sorted n) ((seqK_mem n ((m : Int) + 1, (m : Int) + 1)).2 ⟨m, hm.2, rfl⟩) (by show (m : Int) + 1 ≤ a; rw [hm.1]; split <;> omega) (fun y hy hya => by
    obtain ⟨i, hi, rfl⟩ := (seqK_mem n y).1 hy
    have hya : (i : Int) + 1 ≤ a := hya
    show (i : Int) + 1 ≤ (m : Int) + 1
    rw [hm.1]; split <;> omega)
  rw [this, ← hm.1]

theorem stpL_hit {h : Nat} {l1 l2 : List Nat} {y : Nat} (h1 : ∀ z ∈ l1, z ≤ h) (hy : h < y) (h2 : ∀ z ∈ l2, z ≤ y) : stpL (l1 ++ y :: l2) = stpL l2 + 1 := by
  induction l1 with
  | nil => rw [List.nil_append, stpL_cons, if_pos (by rw [List.all_eq_true]; intro z hz; exact decide_eq_true (h2 z hz))]
  | cons x l1 ih =>
    have hx := h1 x (by simp)
    rw [List.cons_append, stpL_cons, if_neg (by
      rw [List.all_eq_true]
      intro hh
      have := of_decide_eq_true (hh y (by simp))
      omega), Nat.add_zero]
    exact ih (fun z hz => h1 z (by simp [hz]))
/-- How high the towers of 1 to m are. -/
def hs (m : Nat) : List Nat := (List.range m).map (fun i : Nat => hgt ((i : Int) + 1))
theorem seqK_hs : ∀ m, (seqK m).map (fun x => hgt x.1) = hs m
  | 0 => rfl
  | m + 1 => by
    show (seqK m ++ [_]).map _ = _
    rw [List.map_append, seqK_hs m]
    unfold hs
    rw [List.range_succ, List.map_append]
    rfl
theorem hgt_fin : ∀ k : Fin 10, ∀ j : Fin (2 ^ k.val), (hgt ((2 ^ k.val : Nat) : Int) = k.val + 1) ∧ (j.val = 0 ∨ (hgt ((2 ^ k.val + j.val : Nat) : Int) = hgt ((j.val : Nat) : Int) ∧ hgt ((j.val : Nat) : Int) ≤ k.val)) := by decide +kernel
theorem hs_le : ∀ k, k ≤ 10 → ∀ m, m < 2 ^ k → stpL (hs m) ≤ k
  | 0, _, m, h => by
    have : m = 0 := by simpa using h
    subst this
    exact Nat.le_refl _
  | k + 1, hk, m, h => by
    by_cases hm : m < 2 ^ k
    · exact Nat.le_trans (hs_le k (by omega) m hm) (by omega)
    · obtain ⟨d, rfl⟩ : ∃ d, m = 2 ^ k + d := ⟨m - 2 ^ k, by omega⟩
      have hd : d < 2 ^ k := by rw [Nat.pow_succ] at h; omega
      have hp : 0 < 2 ^ k := Nat.pow_pos (by decide)
      have hF := hgt_fin ⟨k, by omega⟩
      have h0 : hgt ((2 ^ k : Nat) : Int) = k + 1 := (hF ⟨0, hp⟩).1
      have e : hs (2 ^ k + d) = hs (2 ^ k - 1) ++ (k + 1) :: hs d := by
        have e1 : 2 ^ k + d = (2 ^ k - 1) + (d + 1) := by omega
        rw [e1]
        unfold hs
        rw [List.range_add, List.map_append, List.range_succ_eq_map, List.map_cons, List.map_cons, List.map_map, List.map_map]
        congr 1
        congr 1
        · have : (((2 ^ k - 1 + 0 : Nat) : Int) + 1) = ((2 ^ k : Nat) : Int) := by omega
          rw [this]; exact h0
        · refine List.map_congr_left fun i hi => ?_
          have hi := List.mem_range.1 hi
          have hj := (hF ⟨i + 1, by show i + 1 < 2 ^ k; omega⟩).2
          rcases hj with hj | hj
          · exact absurd hj (by simp)
          · have e2 : (((2 ^ k - 1 + Nat.succ i : Nat) : Int) + 1) = ((2 ^ k + (i + 1) : Nat) : Int) := by omega
            have e3 : (i : Int) + 1 = ((i + 1 : Nat) : Int) := by omega
            show hgt (((2 ^ k - 1 + Nat.succ i : Nat) : Int) + 1) = hgt ((i : Int) + 1)
            rw [e2, e3]
            exact hj.1
      have small : ∀ m, m < 2 ^ k → ∀ z ∈ hs m, z ≤ k := fun m hm z hz => by
        unfold hs at hz
        obtain ⟨i, hi, rfl⟩ := List.mem_map.1 hz
        have hi := List.mem_range.1 hi
        have hj := (hF ⟨i + 1, by show i + 1 < 2 ^ k; omega⟩).2
        rcases hj with hj | hj
        · exact absurd hj (by simp)
        · have e3 : (i : Int) + 1 = ((i + 1 : Nat) : Int) := by omega
          rw [e3]
          exact hj.2
      rw [e, stpL_hit (h := k) (small (2 ^ k - 1) (by omega)) (by omega) (fun z hz => by have := small d hd z hz; omega)]
      have := hs_le k (by omega) d hd
      omega

set_option maxRecDepth 100000 in
set_option maxHeartbeats 4000000 in
theorem walk (n a : Int) (w : World) (hn : (Lit.int .i64 n).wf = true) (ha : (Lit.int .i64 a).wf = true) (hZ : Tz w.heap.size w) :
    Calls Tryd.prog 5 #[.int .i64 n, .int .i64 a] w fun en w' => en = .returned (.bool true) ∧ Below w.heap.size w w' := by
  obtain ⟨hn1, hn2⟩ := wf_i64 hn
  obtain ⟨ha1, ha2⟩ := wf_i64 ha
  have HZ := Lib.hid hZ
  clear hZ hn ha
  go_enter Tryd.func5, Tryd.ntmps5
  go_wp2_with fail
  refine (awake_calls w HZ.out).mono ?_
  rintro en w1 ⟨rfl, b1⟩
  have B1 := Lib.hid b1
  clear b1
  have hearly : Hid (Calls Tryd.prog 9 #[] w1 fun en w' => en = .returned (.bool true) ∧ Below w.heap.size w w') := Lib.hid ((awake_calls w1 (by
    have := HZ.out.below B1.out (Nat.le_refl _)
    exact ⟨this.tz, Nat.lt_of_lt_of_le this.lo B1.out.size, Nat.le_refl _⟩)).mono fun en w' h => ⟨h.1, B1.out.trans (h.2.mono B1.out.size)⟩)
  by_cases c1 : n < 1
  · go_wp2_with fail
    refine hearly.out.mono ?_
    rintro en w2 ⟨rfl, b2⟩
    have B2 := Lib.hid b2
    clear b2 hearly
    go_wp2_with fail
    go_ret
    exact ⟨rfl, B2.out⟩
  · by_cases c2 : 1023 < n
    · go_wp2_with fail
      refine hearly.out.mono ?_
      rintro en w2 ⟨rfl, b2⟩
      have B2 := Lib.hid b2
      clear b2 hearly
      go_wp2_with fail
      go_ret
      exact ⟨rfl, B2.out⟩
    · obtain ⟨m, rfl⟩ := Int.eq_ofNat_of_zero_le (show 0 ≤ n by omega)
      have hm1 : 0 < m := by omega
      have hm2 : m ≤ 1023 := by omega
      have HM := Lib.hid (And.intro hm1 hm2)
      clear hearly
      go_wp2_with fail
      refine (twi.tw_new w1).mono ?_
      rintro en w2 ⟨b, rfl, hb, t2, b2⟩
      have O2 : Hid (One w b (seqK 0) w2) := Lib.hid ⟨t2.more (fun k _ e => Nat.le_trans B1.out.size e), B1.out.trans (b2.mono B1.out.size)⟩
      clear hb t2 b2 B1
      go_wp2_with fail
      go_loopw [6] (fun i wr => ∃ k : Nat, i = .int .i64 ((k : Int) + 1) ∧ k ≤ m ∧ Hid (One w b (seqK k) wr)) (fun i _ => m + 1 - (intOf i).toNat)
      case atStart => exact ⟨0, rfl, Nat.zero_le _, O2⟩
      case round =>
        clear O2
        obtain ⟨k, rfl, hk, HO⟩ := hrel
        have hk0 : (0 : Int) ≤ (k : Int) := by omega
        have hk1 : (k : Int) ≤ 1023 := by omega
        by_cases hlt : k < m
        · have h1 : (k : Int) + 1 ≤ (m : Int) := by omega
          go_wp2_with fail
          refine (HO.out.tw.put_calls (HZ.out.below HO.out.bel (Nat.le_refl _)) ((k : Int) + 1) ((k : Int) + 1) (by rw [seqK_len]; omega) (by omega)).mono ?_
          rintro en w4 ⟨was, rfl, _, h4, t4⟩
          have O4 : Hid (One w b (seqK (k + 1)) w4) := Lib.hid (by have := HO.out.put h4 t4; rw [seqK_put] at this; exact this)
          clear h4 t4
          go_wp2_with fail
          refine ⟨⟨k + 1, by rw [Int.natCast_add]; rfl, by omega, O4⟩, ?_⟩
          show m + 1 - ((k : Int) + 1 + 1).toNat < m + 1 - ((k : Int) + 1).toNat
          omega
        · obtain rfl : k = m := by omega
          have h1 : ¬ (k : Int) + 1 ≤ (k : Int) := by omega
          go_wp2_with fail
          clear h1
          go_loopw [7, 8] (fun x y wv => ∃ (s q : Nat), x = .int .i64 s ∧ y = .int .i64 q ∧ q = k / 2 ^ s ∧ s ≤ 10 ∧ wv = wr) (fun _ y _ => (intOf y).toNat)
          case atStart => exact ⟨0, k, rfl, rfl, by simp, by omega, rfl⟩
          case round =>
            obtain ⟨s, q, rfl, rfl, hq, hs10, rfl⟩ := hrel
            have hq0 : (0 : Int) ≤ (q : Int) := by omega
            have hqk : q ≤ k := by rw [hq]; exact Nat.div_le_self _ _
            have hq1 : (q : Int) ≤ 1023 := by omega
            have hs0 : (0 : Int) ≤ (s : Int) := by omega
            have hs1 : (s : Int) ≤ 10 := by omega
            by_cases hp : 0 < q
            · have hpi : (0 : Int) < (q : Int) := by omega
              have hq2 : (q : Int).tdiv 2 = ((q / 2 : Nat) : Int) := by rw [Int.tdiv_eq_ediv_of_nonneg hq0]; omega
              have HQ : Hid (q / 2 = k / 2 ^ (s + 1) ∧ s + 1 ≤ 10 ∧ q / 2 < q) := Lib.hid (by
                refine ⟨by rw [hq, Nat.div_div_eq_div_mul, Nat.pow_succ], ?_, by omega⟩
                rcases Nat.lt_or_ge s 10 with h | h
                · exact h
                · have : s = 10 := by omega
                  subst this
                  rw [Nat.div_eq_of_lt (by have := HM.out.2; omega)] at hq
                  omega)
              obtain ⟨r, hr⟩ : ∃ r, r = q / 2 := ⟨_, rfl⟩
              rw [← hr] at hq2 HQ
              have hr0 : (0 : Int) ≤ (r : Int) := by omega
              have hr1 : (r : Int) ≤ 1023 := by omega
              clear hr hq
              go_wp2_with fail
              refine ⟨⟨s + 1, r, by rw [Int.natCast_add]; rfl, rfl, HQ.out.1, HQ.out.2.1, trivial⟩, ?_⟩
              show ((r : Int)).toNat < ((q : Int)).toNat
              have := HQ.out.2.2
              omega
            · obtain rfl : q = 0 := by omega
              have hks : k < 2 ^ s := by
                rcases Nat.lt_or_ge k (2 ^ s) with h | h
                · exact h
                · have := Nat.div_pos h (Nat.pow_pos (by decide) : 0 < 2 ^ s); omega
              have HS : Hid (stpL ((List.filter (fun x : Int × Int => decide (x.1 ≤ a)) (seqK k)).map (fun x => hgt x.1)) ≤ s) := Lib.hid (by
                rw [seqK_upto, seqK_hs]
                exact hs_le s hs10 _ (by omega))
              clear hp hq hqk hks hk hlt hq0 hq1
              go_wp2_with fail
              by_cases ca : a < 1
              · have hd1 : decide ((1 : Int) ≤ a) = false := decide_eq_false (by omega)
                refine (twi.Tw.floor_calls HO.out.tw a (by rw [seqK_len]; omega)).mono ?_
                rw [floor_low ca]
                rintro en w5 ⟨rfl, b5⟩
                have O5 : Hid (One w b (seqK k) w5) := Lib.hid (HO.out.more b5)
                clear b5
                go_wp2_with fail
                refine (O5.out.tw.steps_calls a (by rw [seqK_len]; omega)).mono ?_
                obtain ⟨S, hS⟩ : ∃ S, S = stpL (((seqK k).filter (fun x => decide (x.1 ≤ a))).map (fun x => hgt x.1)) := ⟨_, rfl⟩
                rw [← hS] at HS ⊢
                have hS2 : (S : Int) ≤ 2 * (s : Int) := by have := HS.out; omega
                clear hS
                rintro en w6 ⟨rfl, b6⟩
                have O6 : Hid (One w b (seqK k) w6) := Lib.hid (O5.out.more b6)
                clear b6
                go_wp2_with fail
                go_ret
                exact ⟨rfl, O6.out.bel⟩
              · have hd1 : decide ((1 : Int) ≤ a) = true := decide_eq_true (by omega)
                refine (twi.Tw.floor_calls HO.out.tw a (by rw [seqK_len]; omega)).mono ?_
                rw [floor_at (by omega) HM.out.1]
                obtain ⟨mn, hmn⟩ : ∃ mn, (if (k : Int) < a then (k : Int) else a) = mn := ⟨_, rfl⟩
                rw [hmn]
                rintro en w5 ⟨rfl, b5⟩
                have O5 : Hid (One w b (seqK k) w5) := Lib.hid (HO.out.more b5)
                clear b5
                have HMN := Lib.hid hmn
                clear hmn
                go_wp2_with fail
                refine (O5.out.tw.steps_calls a (by rw [seqK_len]; omega)).mono ?_
                obtain ⟨S, hS⟩ : ∃ S, S = stpL (((seqK k).filter (fun x => decide (x.1 ≤ a))).map (fun x => hgt x.1)) := ⟨_, rfl⟩
                rw [← hS] at HS ⊢
                have hS2 : (S : Int) ≤ 2 * (s : Int) := by have := HS.out; omega
                clear hS
                rintro en w6 ⟨rfl, b6⟩
                have O6 : Hid (One w b (seqK k) w6) := Lib.hid (O5.out.more b6)
                clear b6
                have hmn := HMN.out
                have hbb : ∀ x : Int, (x == x) = true := fun x => beq_self_eq_true x
                go_wp2_with fail
                go_ret
                exact ⟨rfl, O6.out.bel⟩
theorem own : ownKnob Tryd.prog.godebug = none := by kernel_rfl
theorem laidOut : laidOutB Tryd.prog = true := by kernel_rfl

set_option maxRecDepth 100000 in
theorem lifted (os : Os) (started : os.Started) (H : Type) (enc : TypeId × Value → H) :
    ReturnsInHanded {} Tryd.checked os 5 .any (fun w args => (Rows.towerShortSpec.pre enc Tryd.prog Tryd.f5 [] false w args ∧ laidMetH Tryd.prog Rows.towerShortRow.laid w) ∧ sizedMet enc Tryd.prog Tryd.f5 (OpenSpec.ofChange Rows.towerShortSpec) false w args)
      (Rows.towerShortSpec.post enc Tryd.prog Tryd.f5 false true false false) := by
  refine returnsInHanded_of_change_and (C := Tryd.checked) (X := fun w _ => laidMetH Tryd.prog Rows.towerShortRow.laid w) (fun _ _ _ hh h => h.of_heap hh) own started (by kernel_rfl) Tryd.func5
    (ChangeSpec.witness_shaped (enc := enc) (C := Tryd.checked) (os := os) (X := fun w _ => laidMetH Tryd.prog Rows.towerShortRow.laid w) false (World.doorLaid Tryd.prog 19 os) #[.int .i64 0, .int .i64 0] 8 rfl (door_shaped os _) (by kernel_rfl) (by kernel_rfl) (by kernel_rfl) (door_met os _)) ?_
  intro W base args ds gs before hval0 hW _ _ hL _
  have hval : ∀ (j : Nat) t v, Tryd.f5.params[j]? = some t → args[j]? = some v → Value.okWide Tryd.prog W .any base t v := hval0
  have hW' := hW
  obtain ⟨p, q, hA0, hV, rfl, _, _⟩ := hW
  have hA : DataW.TrodAll enc Tryd.prog W 0 (fun _ => true) true Tryd.f5.params.toList args.toList ds p := hA0
  rw [Tryd.params5] at hA hval
  obtain ⟨v0, vs0, d0, ds0, p0, q0, hargs, rfl, rfl, h0, r0⟩ := trodAll_cons hA
  obtain ⟨v1, vs1, d1, ds1, p1, q1, rfl, rfl, rfl, h1, r1⟩ := trodAll_cons r0
  obtain ⟨rfl, rfl, rfl⟩ := trodAll_nil r1
  obtain rfl : args = #[v0, v1] := by cases args; simp_all
  obtain ⟨rfl, rfl⟩ := trodVars_none hV
  obtain ⟨a0, rfl, rfl, rfl, w0⟩ := open_int Tryd.underlying3 (hval 0 3 v0 rfl rfl) h0
  obtain ⟨a1, rfl, rfl, rfl, w1⟩ := open_int Tryd.underlying3 (hval 1 3 v1 rfl rfl) h1
  clear hA0 hval0
  refine (walk a0 a1 W w0 w1 (tz_of_laid (rest := []) hL)).mono fun e W' ⟨he, bel⟩ => ?_
  subst he
  exact ⟨_, rfl, _, _, _, [], _, [], hW', trodAll_mk1 (shut_bool Tryd.underlying4 _), (trodAll_cons_mk (shut_int Tryd.underlying3 w0) (trodAll_cons_mk (shut_int Tryd.underlying3 w1) trodAll_mk0)), rfl, bel.frame _, fun h => by cases h⟩

theorem over : Rows.towerShortRow.holds Tryd.pinned (OpenSpec.ofChange Rows.towerShortSpec) :=
  OpenClaim.holds_of_wide 5 Tryd.f5 rfl rfl rfl rfl rfl rfl rfl ⟨rfl, rfl, rfl, rfl, rfl⟩ rfl rfl rfl rfl rfl (by kernel_rfl) Tryd.func5 (by kernel_rfl)
    (of_decide_eq_true (by kernel_rfl)) (by unfold Func.isWrapper; first | (rw [if_pos (by decide +kernel)]; kernel_rfl) | (rw [if_neg (by decide +kernel)]; exact ⟨rfl, rfl⟩))
    (fun os started H enc _ => lifted os started H enc)

theorem plain (f : FuncId) (fn : Func) (hf : Tryd.pinned.checked.prog.funcNamed "hindsight/hindsightlaw13.TowerShort" = some f) (hfn : Tryd.pinned.checked.prog.funcs[f]? = some fn) :
    (false : Bool) = Tryd.pinned.checked.prog.looks [] ∧ ∀ (j : Nat) t, fn.params[j]? = some t → Tryd.pinned.checked.prog.wantsStandIn t = false := by
  obtain rfl : f = 5 := Option.some.inj ((show Tryd.prog.funcNamed "hindsight/hindsightlaw13.TowerShort" = some 5 by kernel_rfl).symm.trans hf) |>.symm
  obtain rfl : fn = Tryd.f5 := (Option.some.inj (Tryd.func5.symm.trans hfn)).symm
  refine ⟨by kernel_rfl, fun j t ht => ?_⟩
  rw [Tryd.params5] at ht
  have hm := Array.mem_of_getElem? ht
  simp only [List.mem_toArray, List.mem_cons, List.not_mem_nil, or_false] at hm
  rcases hm with rfl | rfl
  · exact (show Tryd.prog.wantsStandIn 3 = false by kernel_rfl)
  · exact (show Tryd.prog.wantsStandIn 3 = false by kernel_rfl)

theorem card : Rows.TowerShortCardSaid :=
  Claim7.holds_tied_plain_at .later [] _ _ _ _ over (fun _ h => by cases h) (by kernel_rfl) (fun _ h => by cases h) towerShort_row_tie rfl ⟨rfl, rfl⟩ (by kernel_rfl) rfl plain (by kernel_rfl)

theorem proved : Rows.TowerShortCardSaid := card

end Go.Proofs.YtbimdcjbpbpljaaDoor.towerShort
