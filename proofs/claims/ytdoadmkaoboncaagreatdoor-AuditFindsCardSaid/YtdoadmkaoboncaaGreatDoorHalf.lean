/- half.Of, the document's Half; bits.Len off the shelf. -/
import Derived.Test.YtdoadmkaoboncaaGreatDoorReg
import Derived.Shelf.Lay
import Derived.Shelf.Small.Bits
import Derived.Lib.ItoaWalk
namespace Go.Proofs
open Go.Shelf
shelf_lay Lays.n125 Nm 125 at Tryz as Tryz.lays125
end Go.Proofs
namespace Go.Proofs.YtdoadmkaoboncaaGreatDoor.dig
open Go Go.RowKit

/-- How many of n leaves the first half has: the greatest power of two below n. -/
def half (n : Nat) : Nat := 2 ^ Nat.log2 (n - 1)
theorem half_pos (n : Nat) : 0 < half n := Nat.pow_pos (by decide)
theorem half_lt {n : Nat} (h : 2 ≤ n) : half n < n := by
  have := Nat.log2_self_le (n := n - 1) (by omega)
  unfold half
  omega
theorem half_ge {n : Nat} (h : 2 ≤ n) : n ≤ 2 * half n := by
  have := Nat.lt_log2_self (n := n - 1)
  unfold half
  rw [Nat.pow_succ] at this
  omega
theorem log2_of {a j : Nat} (h1 : 2 ^ j ≤ a) (h2 : a < 2 ^ (j + 1)) : Nat.log2 a = j := by
  have ha : a ≠ 0 := by have := Nat.pow_pos (n := j) (show 0 < 2 by decide); omega
  have e1 : j ≤ Nat.log2 a := (Nat.le_log2 ha).2 h1
  have e2 : Nat.log2 a < j + 1 := (Nat.log2_lt ha).2 h2
  omega
theorem half_of {n j : Nat} (h1 : 2 ^ j < n) (h2 : n ≤ 2 ^ (j + 1)) : half n = 2 ^ j := by
  unfold half
  rw [log2_of (j := j) (by omega) (by omega)]
theorem half_pow (j : Nat) : half (2 ^ (j + 1)) = 2 ^ j := half_of (by rw [Nat.pow_succ]; have := Nat.pow_pos (n := j) (show 0 < 2 by decide); omega) (Nat.le_refl _)


theorem len_calls (x : Int) (w : World) (h0 : 0 ≤ x) (h1 : x ≤ 18446744073709551615) :
    Calls Tryz.prog 110 #[.int .u64 x] w fun e w' => e = .returned (.int .i64 (Lib.bitLen x.toNat)) ∧ w' = w := Any.bits_Len Tryz.lays125 x w h0 h1

theorem bitLenAux_log2 : ∀ (f x : Nat), 0 < x → x < 2 ^ f → Lib.bitLenAux f x = Nat.log2 x + 1 := by
  intro f
  induction f with
  | zero => intro x h0 h1; simp at h1; omega
  | succ f ih =>
    intro x h0 h1
    rw [Lib.bitLenAux, if_neg (by omega)]
    by_cases h2 : x = 1
    · subst h2
      have : Nat.log2 1 = 0 := by decide
      rw [this]
      cases f <;> simp [Lib.bitLenAux]
    · rw [ih (x / 2) (by omega) (by rw [Nat.pow_succ] at h1; omega)]
      have e : Nat.log2 x = Nat.log2 (x / 2) + 1 := by
        conv => lhs; rw [Nat.log2_def]
        rw [if_pos (by omega)]
      rw [e]
      omega
theorem bitLen_log2 (x : Nat) (h0 : 0 < x) (h1 : x < 18446744073709551616) : Lib.bitLen x = Nat.log2 x + 1 := bitLenAux_log2 64 x h0 h1

theorem wrap_pow (k : Nat) (hk : k ≤ 40) : wrap64 ((2 : Int) ^ k) = ((2 ^ k : Nat) : Int) := by
  have h3 : (2 : Int) ^ k = ((2 ^ k : Nat) : Int) := by simp
  have h4 : (2 : Nat) ^ k ≤ 2 ^ 40 := Nat.pow_le_pow_right (by decide) hk
  rw [h3]
  generalize 2 ^ k = m at *
  unfold wrap64
  omega

set_option maxRecDepth 100000 in
set_option maxHeartbeats 1000000 in
theorem half_calls (n : Nat) (w : World) (h2 : 2 ≤ n) (hn : n ≤ 1000000000000) :
    Calls Tryz.prog 87 #[.int .i64 n] w fun en w' => en = .returned (.int .i64 (half n)) ∧ w = w' := by
  have a1 : ¬ (n : Int) < 2 := by omega
  have a2 : ((n : Int) - 1).toNat = n - 1 := by omega
  obtain ⟨k, hk⟩ : ∃ k, k = Nat.log2 (n - 1) := ⟨_, rfl⟩
  have hk2 : k < 40 := by rw [hk]; exact (Nat.log2_lt (by omega)).2 (by omega)
  have hb : Lib.bitLen (n - 1) = k + 1 := by rw [hk]; exact bitLen_log2 _ (by omega) (by omega)
  have hh : half n = 2 ^ k := by rw [hk]; rfl
  have HW := Lib.hid (wrap_pow k (by omega))
  have HH := Lib.hid hh
  clear hh hk
  go_enter Tryz.func87, Tryz.ntmps87
  go_wp2_with (first
    | (go_at_call 110; refine (len_calls ((n : Int) - 1) _ (by omega) (by omega)).mono ?_; rw [a2, hb]; rintro e w' ⟨rfl, rfl⟩)
    | fail)
  go_ret
  rw [HH.out, ← HW.out]
  exact ⟨rfl, rfl⟩

end Go.Proofs.YtdoadmkaoboncaaGreatDoor.dig
