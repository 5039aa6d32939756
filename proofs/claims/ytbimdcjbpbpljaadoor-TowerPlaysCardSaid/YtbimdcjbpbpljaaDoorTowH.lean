/- tower: the table of trailing zeros; how high a tower is: the code's Height, and the document's. -/
import Derived.Test.YtbimdcjbpbpljaaDoorTowM
import Derived.Lib.TrailingZeros
import Derived.Laws.Bits64b
namespace Go.Proofs.YtbimdcjbpbpljaaDoor.tow
open Go Go.RowKit

/-- The table that is laid; its block lies below B. -/
structure Tz (B : Nat) (w : World) : Prop where
  tz : ∀ (i x : Nat), Lib.deBruijn64tab[i]? = some x → w.cell? ⟨1, i, none⟩ = some (.int .u8 (x : Int))
  lo : 1 < B
  size : B ≤ w.heap.size
section
variable {B : Nat} {w w' : World}
theorem Tz.keep (h : Tz B w) (s : w.heap.size ≤ w'.heap.size) (e : ∀ k, k < B → w'.heap[k]? = w.heap[k]?) : Tz B w' :=
  ⟨fun i x hx => by
    have := h.tz i x hx
    unfold World.cell? at *
    rw [e _ h.lo]
    exact this, h.lo, Nat.le_trans h.size s⟩
theorem Tz.below {C : Nat} (h : Tz B w) (b : Below C w w') (hC : B ≤ C) : Tz B w' := h.keep b.size fun k hk => b.block k (by omega)
theorem Tz.turn {F : Nat → Prop} (h : Tz B w) (t : Turn F w w') (hF : ∀ k, F k → B ≤ k) : Tz B w' :=
  h.keep t.size fun k hk => t.block k (by have := h.size; omega) (fun f => by have := hF k f; omega)
end

set_option maxRecDepth 100000 in
set_option maxHeartbeats 1000000 in
theorem zeros64_calls (B n : Nat) (w : World) (hR : Tz B w) (hn : 0 < n) (hn2 : n < 18446744073709551616) :
    Calls Tryd.prog 48 #[.int .u64 n] w fun en w' => en = .returned (.int .i64 (Lib.ctz 64 n)) ∧ w = w' := by
  obtain ⟨hlow, hj⟩ := Lib.lowest_bit 64 n (by omega) hn2
  obtain ⟨j, hjj⟩ : ∃ j, j = Lib.ctz 64 n := ⟨_, rfl⟩
  rw [← hjj] at hlow hj ⊢
  have h2 := Lib.deBruijn64_at j hj
  have h00 : (n : Int) ≠ 0 := by omega
  obtain ⟨q, hq⟩ : ∃ q, q = 2 ^ j * 285870213051353865 % 18446744073709551616 / 288230376151711744 := ⟨_, rfl⟩
  rw [← hq] at h2
  have c0 : w.cell? ⟨1, q, none⟩ = some (.int .u8 (j : Int)) := hR.tz q j (by
    have hl : q < Lib.deBruijn64tab.length := h2.1
    rw [List.getElem?_eq_getElem hl, ← h2.2, List.getD_eq_getElem?_getD, List.getElem?_eq_getElem hl]
    rfl)
  have hq64 : (q : Int) < 64 := by have := h2.1; omega
  have hq0 : (0 : Int) ≤ (q : Int) := by omega
  have hj0 : (j : Int) < 64 := by omega
  have hneg : IntKind.u64.wrap (-(n : Int)) = ((18446744073709551616 - n : Nat) : Int) := by
    show (-(n : Int)) % 18446744073709551616 = _
    omega
  have h1 : bits .and .u64 (n : Int) (IntKind.u64.wrap (-(n : Int))) = ((2 ^ j : Nat) : Int) := by
    rw [hneg, bits_and_u64_nat n _ hn2 (by omega)]
    exact congrArg _ hlow
  obtain ⟨p, hp⟩ : ∃ p, p = 2 ^ j := ⟨_, rfl⟩
  rw [← hp] at hq h1
  have h3 : IntKind.u64.wrap ((p : Int) * 285870213051353865) / 288230376151711744 = (q : Int) := by
    show (p : Int) * 285870213051353865 % 18446744073709551616 / 288230376151711744 = (q : Int)
    rw [hq]
    simp only [Int.natCast_ediv, Int.natCast_emod, Int.natCast_mul]
    rfl
  clear h2 hq hlow hneg hp hjj hn hn2
  go_enter Tryd.func48, Tryd.ntmps48
  go_wp2_with fail
  go_ret
  exact ⟨rfl, rfl⟩

set_option maxRecDepth 100000 in
set_option maxHeartbeats 1000000 in
theorem zeros_calls (B n : Nat) (w : World) (hR : Tz B w) (hn : 0 < n) (hn2 : n < 18446744073709551616) :
    Calls Tryd.prog 46 #[.int .u64 n] w fun en w' => en = .returned (.int .i64 (Lib.ctz 64 n)) ∧ w = w' := by
  have H := Lib.hid (zeros64_calls B n w hR hn hn2)
  generalize Lib.ctz 64 n = j at *
  go_enter Tryd.func46, Tryd.ntmps46
  go_wp2_with (first
    | (go_at_call 48; refine H.out.mono ?_; rintro e w' ⟨rfl, rfl⟩)
    | fail)
  go_ret
  exact ⟨rfl, rfl⟩

/-- How high a version's tower is. -/
def hgt (a : Int) : Nat := if a ≤ 0 then 10 else min (Lib.ctz 64 a.toNat + 1) 10
theorem hgt_bounds (a : Int) : 1 ≤ hgt a ∧ hgt a ≤ 10 := by unfold hgt; split <;> omega
theorem ctz_two {n : Nat} (h0 : 0 < n) (h : n < 9223372036854775808) : Lib.ctz 64 (2 * n) = Lib.ctz 64 n + 1 ∧ (n % 2 = 1 → Lib.ctz 64 n = 0) := by
  obtain ⟨m, hm, hk⟩ := Lib.ctzFrom_spec 64 n h0 (by omega)
  obtain ⟨m2, hm2, hk2⟩ := Lib.ctzFrom_spec 64 (2 * n) (by omega) (by omega)
  have e1 : Lib.ctz 64 n = Lib.ctzFrom 64 n := if_neg (by omega)
  have e2 : Lib.ctz 64 (2 * n) = Lib.ctzFrom 64 (2 * n) := if_neg (by omega)
  have odd : ∀ (i j x y : Nat), 2 ^ i * (2 * x + 1) = 2 ^ j * (2 * y + 1) → i ≤ j := by
    intro i j x y h
    rcases Nat.lt_or_ge j i with hlt | hge
    · obtain ⟨d, rfl⟩ : ∃ d, i = j + (d + 1) := ⟨i - j - 1, by omega⟩
      rw [Nat.pow_add, Nat.mul_assoc] at h
      have h3 := Nat.eq_of_mul_eq_mul_left (Nat.pow_pos (by decide)) h
      rw [Nat.pow_succ, Nat.mul_assoc, Nat.mul_left_comm] at h3
      omega
    · exact hge
  have h4 : 2 ^ (Lib.ctzFrom 64 n + 1) * (2 * m + 1) = 2 ^ Lib.ctzFrom 64 (2 * n) * (2 * m2 + 1) := by
    rw [← hm2, Nat.pow_succ, Nat.mul_right_comm, ← hm, Nat.mul_comm]
  refine ⟨?_, fun ho => ?_⟩
  · rw [e1, e2]
    have := odd _ _ _ _ h4
    have := odd _ _ _ _ h4.symm
    omega
  · rw [e1]
    have : Lib.ctzFrom 64 n = if n % 2 = 1 then 0 else 1 + Lib.ctzFrom 63 (n / 2) := rfl
    rw [this, if_pos ho]

set_option maxRecDepth 100000 in
set_option maxHeartbeats 1000000 in
theorem height_calls (B : Nat) (a : Int) (w : World) (hR : Tz B w) (ha : a ≤ 9223372036854775807) :
    Calls Tryd.prog 34 #[.int .i64 a] w fun en w' => en = .returned (.int .i64 (hgt a)) ∧ w = w' := by
  by_cases h0 : a ≤ 0
  · have e : hgt a = 10 := if_pos h0
    rw [e]
    clear e ha
    go_enter Tryd.func34, Tryd.ntmps34
    go_wp2_with fail
    go_ret
    exact ⟨rfl, rfl⟩
  · obtain ⟨n, rfl⟩ := Int.eq_ofNat_of_zero_le (show 0 ≤ a by omega)
    have hz := zeros_calls B n w hR (by omega) (by omega)
    have e : (hgt (n : Int) : Int) = if 10 < ((Lib.ctz 64 n : Nat) : Int) + 1 then 10 else ((Lib.ctz 64 n : Nat) : Int) + 1 := by
      unfold hgt
      rw [if_neg h0]
      show ((min (Lib.ctz 64 n + 1) 10 : Nat) : Int) = _
      split <;> omega
    obtain ⟨j, hj⟩ : ∃ j, j = Lib.ctz 64 n := ⟨_, rfl⟩
    have hjb : (j : Int) < 64 := by have := (Lib.lowest_bit 64 n (by omega) (by omega)).2; omega
    have hj0 : (0 : Int) ≤ (j : Int) := by omega
    rw [← hj] at hz e
    rw [e]
    have HZ := Lib.hid hz
    have i1 : IntKind.u64.wrap (n : Int) = (n : Int) := IntWalk.u64_in _ ⟨by omega, by omega⟩
    clear hz hj e
    go_enter Tryd.func34, Tryd.ntmps34
    go_wp2_with fail
    refine HZ.out.mono ?_
    rintro en w1 ⟨rfl, rfl⟩
    go_wp2_with fail
    all_goals
      go_ret
      exact ⟨rfl, rfl⟩

set_option maxRecDepth 100000 in
set_option maxHeartbeats 1000000 in
theorem rheight_calls (a : Int) (w : World) (ha : a ≤ 9223372036854775807) :
    Calls Tryd.prog 35 #[.int .i64 a] w fun en w' => en = .returned (.int .i64 (hgt a)) ∧ w = w' := by
  by_cases h0 : a ≤ 0
  · have e : hgt a = 10 := if_pos h0
    rw [e]
    clear e ha
    go_enter Tryd.func35, Tryd.ntmps35
    go_wp2_with fail
    go_ret
    exact ⟨rfl, rfl⟩
  · have HA := Lib.hid (show 0 < a ∧ a ≤ 9223372036854775807 from ⟨by omega, ha⟩)
    obtain ⟨K, hK⟩ : ∃ K : Nat, hgt a = K := ⟨_, rfl⟩
    rw [hK]
    have HK := Lib.hid hK
    clear hK ha
    go_enter Tryd.func35, Tryd.ntmps35
    go_wp2_with fail
    go_loop [0, 3, 4] (fun x h i => ∃ (y k : Nat), x = .int .i64 y ∧ h = .int .i64 ((k + 1 : Nat) : Int) ∧ i = .int .i64 k ∧ k ≤ 9 ∧ 0 < y ∧ y < 9223372036854775808 ∧ Hid (K = min (Lib.ctz 64 y + k + 1) 10)) (fun _ _ i => 9 - (intOf i).toNat)
    case atStart =>
      refine ⟨a.toNat, 0, ?_, rfl, rfl, by omega, by have := HA.out; omega, by have := HA.out; omega, Lib.hid ?_⟩
      · rw [Int.toNat_of_nonneg (by have := HA.out; omega)]
      · rw [← HK.out]; unfold hgt; rw [if_neg (by omega)]
    case round =>
      obtain ⟨y, k, rfl, rfl, rfl, hk, hy0, hy1, HH⟩ := hrel
      by_cases h9 : k < 9
      · have h9i : (k : Int) < 9 := by omega
        by_cases he : y % 2 = 0
        · obtain ⟨z, rfl⟩ : ∃ z, y = 2 * z := ⟨y / 2, by omega⟩
          have hz := (ctz_two (n := z) (by omega) (by omega)).1
          have t1 : (((2 * z : Nat) : Int).tmod 2 == 0) = true := by rw [Int.tmod_eq_emod_of_nonneg (by omega)]; exact beq_iff_eq.2 (by omega)
          have t2 : ((2 * z : Nat) : Int).tdiv 2 = (z : Int) := by rw [Int.tdiv_eq_ediv_of_nonneg (by omega)]; omega
          have HZ : Hid (0 < z ∧ z < 9223372036854775808 ∧ K = min (Lib.ctz 64 z + (k + 1) + 1) 10) := Lib.hid ⟨by omega, by omega, by have := HH.out; rw [hz] at this; omega⟩
          clear hz HH
          generalize ((2 * z : Nat) : Int) = Y at *
          go_wp2_with fail
          refine ⟨⟨z, k + 1, rfl, by rw [Int.natCast_add, Int.natCast_add]; rfl, by rw [Int.natCast_add]; rfl, by omega, HZ.out.1, HZ.out.2.1, Lib.hid HZ.out.2.2⟩, ?_⟩
          show 9 - ((k : Int) + 1).toNat < 9 - ((k : Int)).toNat
          omega
        · have t1 : ((y : Int).tmod 2 == 0) = false := by rw [Int.tmod_eq_emod_of_nonneg (by omega)]; exact beq_eq_false_iff_ne.2 (by omega)
          have hz := (ctz_two (n := y) (by omega) (by omega)).2 (by omega)
          have HZ : Hid (K = k + 1) := Lib.hid (by have := HH.out; rw [hz] at this; omega)
          go_wp2_with fail
          go_ret
          exact ⟨by rw [HZ.out]; rfl, rfl⟩
      · obtain rfl : k = 9 := by omega
        have HZ : Hid (K = 9 + 1) := Lib.hid (by have := HH.out; omega)
        go_wp2_with fail
        go_ret
        exact ⟨by rw [HZ.out]; rfl, rfl⟩
end Go.Proofs.YtbimdcjbpbpljaaDoor.tow
