/- tree: the mathematics of rows: how many there are, what is gone of them, what is still there. -/
import Derived.Test.YtdoadmkaoboncaaGreatDoorTreeM
import Derived.Test.YtdoadmkaoboncaaGreatDoorFlat
namespace Go.Proofs.YtdoadmkaoboncaaGreatDoor.dig
open Go

/-- How many rows a tree of n leaves has. -/
def tops (n : Nat) : Nat := if n = 0 then 0 else Nat.log2 n + 1
theorem lt_tops {j n : Nat} : j < tops n ↔ 2 ^ j ≤ n := by
  unfold tops
  by_cases h : n = 0
  · subst h
    have := Nat.pow_pos (n := j) (show 0 < 2 by decide)
    simp
  · rw [if_neg h, ← Nat.le_log2 h]
    omega
theorem tops_le {n k : Nat} (h : n < 2 ^ k) : tops n ≤ k := by
  rcases Nat.lt_or_ge k (tops n) with h1 | h1
  · have := lt_tops.1 h1; omega
  · exact h1
theorem tops_small {n : Nat} (h : n < 4294967296) : tops n ≤ 32 := tops_le (by simpa using h)
theorem div_zero {n j : Nat} (h : tops n ≤ j) : n / 2 ^ j = 0 := by
  refine Nat.div_eq_of_lt ?_
  rcases Nat.lt_or_ge n (2 ^ j) with h1 | h1
  · exact h1
  · have := lt_tops.2 h1; omega
theorem div_pos {n j : Nat} (h : j < tops n) : 0 < n / 2 ^ j := Nat.div_pos (lt_tops.1 h) (Nat.pow_pos (by decide))
theorem half_div (n j : Nat) : n / 2 ^ (j + 1) = n / 2 ^ j / 2 := by rw [Nat.pow_succ, Nat.div_div_eq_div_mul]

/-- How many of row j are gone, where the floor is fl. -/
def gone (fl j : Nat) : Nat := 2 * (fl / 2 ^ (j + 1))
theorem gone_le {fl n : Nat} (j : Nat) (h : fl ≤ n) : gone fl j ≤ n / 2 ^ j := by
  unfold gone
  rw [half_div]
  have := Nat.div_le_div_right (c := 2 ^ j) h
  omega
theorem gone_zero (j : Nat) : gone 0 j = 0 := by unfold gone; simp
theorem gone_mono {fl fl' : Nat} (j : Nat) (h : fl ≤ fl') : gone fl j ≤ gone fl' j := by
  unfold gone
  have := Nat.div_le_div_right (c := 2 ^ (j + 1)) h
  omega

/-- What adding a leaf does, row by row. -/
theorem add_div {n j : Nat} (h : 2 ^ j ∣ n + 1) : (n + 1) / 2 ^ j = n / 2 ^ j + 1 := by
  obtain ⟨q, hq⟩ := h
  have h0 : 0 < 2 ^ j := Nat.pow_pos (by decide)
  rw [hq, Nat.mul_div_cancel_left _ h0]
  have hq0 : q ≠ 0 := by rintro rfl; simp at hq
  obtain ⟨p, rfl⟩ : ∃ p, q = p + 1 := ⟨q - 1, by omega⟩
  congr 1
  symm
  rw [Nat.mul_add, Nat.mul_one] at hq
  refine Nat.div_eq_of_lt_le ?_ ?_
  · rw [Nat.mul_comm]; omega
  · rw [Nat.succ_mul, Nat.mul_comm p]; omega
theorem add_place {n j : Nat} (h : 2 ^ j ∣ n + 1) : n / 2 ^ j * 2 ^ j = n + 1 - 2 ^ j := by
  have h1 := add_div h
  have h2 := Nat.div_mul_cancel h
  rw [h1, Nat.succ_mul] at h2
  omega
theorem add_next {n j : Nat} (h : 2 ^ j ∣ n + 1) (ho : n / 2 ^ j % 2 = 1) : 2 ^ (j + 1) ∣ n + 1 := by
  have h1 := add_div h
  have h2 := Nat.div_mul_cancel h
  rw [h1] at h2
  obtain ⟨p, hp⟩ : ∃ p, n / 2 ^ j + 1 = 2 * p := ⟨(n / 2 ^ j + 1) / 2, by omega⟩
  rw [hp] at h2
  exact ⟨p, by rw [Nat.pow_succ, Nat.mul_assoc, ← h2, Nat.mul_comm]⟩
theorem add_rest {n j i : Nat} (h : 2 ^ j ∣ n + 1) (he : n / 2 ^ j % 2 = 0) (hi : j < i) : (n + 1) / 2 ^ i = n / 2 ^ i := by
  have h1 := add_div h
  obtain ⟨d, rfl⟩ : ∃ d, i = j + 1 + d := ⟨i - j - 1, by omega⟩
  have h2 : (n + 1) / 2 ^ (j + 1) = n / 2 ^ (j + 1) := by rw [half_div, half_div, h1]; omega
  rw [Nat.pow_add, ← Nat.div_div_eq_div_mul, ← Nat.div_div_eq_div_mul, h2]
theorem add_tops {n j : Nat} (h : 2 ^ j ∣ n + 1) : j ≤ tops n := by
  rcases Nat.lt_or_ge (tops n) j with h1 | h1
  · have h2 : ¬ tops n < tops n := Nat.lt_irrefl _
    rw [lt_tops] at h2
    have h3 : 2 ^ (tops n + 1) ≤ 2 ^ j := Nat.pow_le_pow_right (by decide) h1
    have h4 := Nat.le_of_dvd (by omega) h
    rw [Nat.pow_succ] at h3
    have : 0 < 2 ^ tops n := Nat.pow_pos (by decide)
    omega
  · exact h1
theorem add_top {n : Nat} (h : 2 ^ tops n ∣ n + 1) : n + 1 = 2 ^ tops n := by
  have h2 : ¬ tops n < tops n := Nat.lt_irrefl _
  rw [lt_tops] at h2
  have h4 := Nat.le_of_dvd (by omega) h
  omega
theorem tops_pow (j : Nat) : tops (2 ^ j) = j + 1 := by
  have h1 : j < tops (2 ^ j) := lt_tops.2 (Nat.le_refl _)
  have h2 : tops (2 ^ j) ≤ j + 1 := tops_le (Nat.pow_lt_pow_right (by decide) (Nat.lt_succ_self _))
  omega
theorem tops_same {n j : Nat} (h : 2 ^ j ∣ n + 1) (he : n / 2 ^ j % 2 = 0) (hj : j < tops n) : tops (n + 1) = tops n := by
  have h1 : tops n ≤ tops (n + 1) := by
    rcases Nat.lt_or_ge (tops (n + 1)) (tops n) with h1 | h1
    · have h2 := lt_tops.1 h1
      have h3 : ¬ tops (n + 1) < tops (n + 1) := Nat.lt_irrefl _
      rw [lt_tops] at h3
      omega
    · exact h1
  rcases Nat.lt_or_ge (tops n) (tops (n + 1)) with h2 | h2
  · have h3 := div_pos h2
    rw [add_rest h he hj, div_zero (Nat.le_refl _)] at h3
    omega
  · omega

/-- What of the leaves from a on, n of them, is needed for their root is there: the floor is fl. -/
def Av (fl a n : Nat) : Prop :=
  (∃ j, n = 2 ^ j ∧ 2 ^ (j + 1) ∣ a ∧ fl < a + 2 ^ (j + 1)) ∨ (0 < n ∧ ∃ K, 2 ^ K ∣ a ∧ n < 2 ^ K ∧ fl ≤ a + n) ∨ (0 < n ∧ ∃ K, 2 ^ K ∣ a ∧ n ≤ 2 ^ K ∧ fl < a + n)
theorem Av.pos {fl a n : Nat} (h : Av fl a n) : 0 < n := by
  rcases h with ⟨j, rfl, _⟩ | ⟨h, _⟩ | ⟨h, _⟩
  · exact Nat.pow_pos (by decide)
  · exact h
  · exact h
theorem dvd_of_le {a i j : Nat} (h : 2 ^ j ∣ a) (hi : i ≤ j) : 2 ^ i ∣ a := Nat.dvd_trans (Nat.pow_dvd_pow 2 hi) h
theorem pow_lt_iff {i j : Nat} (h : 2 ^ i < 2 ^ j) : i < j := (Nat.pow_lt_pow_iff_right (by decide)).1 h
/-- A whole subtree is in its row. -/
theorem Av.row {fl a j : Nat} (h : Av fl a (2 ^ j)) : 2 ^ j ∣ a ∧ gone fl j ≤ a / 2 ^ j := by
  have key : ∀ (a : Nat), 2 ^ j ∣ a → fl < (a / 2 ^ j / 2 + 1) * 2 ^ (j + 1) → gone fl j ≤ a / 2 ^ j := by
    intro a _ h2
    have h3 : fl / 2 ^ (j + 1) < a / 2 ^ j / 2 + 1 := Nat.div_lt_of_lt_mul (by rw [Nat.mul_comm]; exact h2)
    unfold gone
    omega
  have even : ∀ (a : Nat), 2 ^ (j + 1) ∣ a → fl < a + 2 ^ (j + 1) → gone fl j ≤ a / 2 ^ j := by
    intro a h1 h2
    refine key a (dvd_of_le h1 (Nat.le_succ _)) ?_
    rw [← half_div, Nat.succ_mul, Nat.div_mul_cancel h1]
    exact h2
  have h0 : 0 < 2 ^ j := Nat.pow_pos (by decide)
  rcases h with ⟨i, hi, h1, h2⟩ | ⟨_, K, h1, h2, h3⟩ | ⟨_, K, h1, h2, h3⟩
  · obtain rfl : j = i := (Nat.pow_right_inj (by decide)).1 hi
    exact ⟨dvd_of_le h1 (Nat.le_succ _), even a h1 h2⟩
  · have := pow_lt_iff h2
    refine ⟨dvd_of_le h1 (by omega), even a (dvd_of_le h1 this) ?_⟩
    rw [Nat.pow_succ]; omega
  · have hK : j ≤ K := (Nat.pow_le_pow_iff_right (by decide)).1 h2
    have hd := dvd_of_le h1 hK
    refine ⟨hd, key a hd ?_⟩
    have e1 := Nat.div_mul_cancel hd
    have e2 : a / 2 ^ j < (a / 2 ^ j / 2 + 1) * 2 := by omega
    have e3 : (a / 2 ^ j + 1) * 2 ^ j ≤ (a / 2 ^ j / 2 + 1) * 2 * 2 ^ j := Nat.mul_le_mul_right _ e2
    rw [Nat.succ_mul, e1] at e3
    rw [Nat.pow_succ, Nat.mul_comm (2 ^ j) 2, ← Nat.mul_assoc]
    omega
/-- Of more than a whole subtree both halves are there. -/
theorem Av.halves {fl a n : Nat} (h : Av fl a n) (h2 : 2 ≤ n) (hp : ∀ j, n ≠ 2 ^ j) : Av fl a (half n) ∧ Av fl (a + half n) (n - half n) := by
  have l1 := half_lt h2
  have l2 := half_ge h2
  have l3 : n ≠ 2 * half n := fun e => hp (Nat.log2 (n - 1) + 1) (by rw [Nat.pow_succ, Nat.mul_comm]; exact e)
  have e1 : half n = 2 ^ Nat.log2 (n - 1) := rfl
  generalize Nat.log2 (n - 1) = i at *
  have h3 : ∃ K, 2 ^ K ∣ a ∧ n ≤ 2 ^ K ∧ fl ≤ a + n := by
    rcases h with ⟨j, hj, _⟩ | ⟨_, K, h1, h2, h3⟩ | ⟨_, K, h1, h2, h3⟩
    · exact absurd hj (hp j)
    · exact ⟨K, h1, by omega, h3⟩
    · exact ⟨K, h1, h2, by omega⟩
  obtain ⟨K, h4, h5, h6⟩ := h3
  have hiK : i < K := pow_lt_iff (by omega)
  refine ⟨.inl ⟨i, e1, dvd_of_le h4 hiK, by rw [Nat.pow_succ]; omega⟩, .inr (.inl ⟨by omega, i, ?_, by omega, by omega⟩)⟩
  rw [e1]
  exact (Nat.dvd_add_iff_left (Nat.dvd_refl _)).1 (dvd_of_le h4 (Nat.le_of_lt hiK))
end Go.Proofs.YtdoadmkaoboncaaGreatDoor.dig
