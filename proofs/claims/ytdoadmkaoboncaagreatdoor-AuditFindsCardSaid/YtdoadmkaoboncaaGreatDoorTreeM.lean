/- tree, proof: the mathematics of halves, roots, proofs. -/
import Derived.Test.YtdoadmkaoboncaaGreatDoorDigI
import Derived.Test.YtdoadmkaoboncaaGreatDoorHalf
namespace Go.Proofs.YtdoadmkaoboncaaGreatDoor.dig
open Go

/-- The root over n leaves, 1 and more, from one on. -/
def rt (f : Nat → List UInt8) (a n : Nat) : List UInt8 :=
  if _h : 2 ≤ n then nodeS (rt f a (half n)) (rt f (a + half n) (n - half n)) else f a
termination_by n
decreasing_by
  · exact half_lt _h
  · have := half_pos n; omega
theorem rt_one (f : Nat → List UInt8) (a : Nat) : rt f a 1 = f a := by rw [rt, dif_neg (by omega)]
theorem rt_two (f : Nat → List UInt8) (a : Nat) {n : Nat} (h : 2 ≤ n) : rt f a n = nodeS (rt f a (half n)) (rt f (a + half n) (n - half n)) := by rw [rt, dif_pos h]
theorem rt_pow (f : Nat → List UInt8) (a j : Nat) : rt f a (2 ^ (j + 1)) = nodeS (rt f a (2 ^ j)) (rt f (a + 2 ^ j) (2 ^ j)) := by
  have h0 : 0 < 2 ^ j := Nat.pow_pos (by decide)
  rw [rt_two f a (n := 2 ^ (j + 1)) (by rw [Nat.pow_succ]; omega), half_pow, show 2 ^ (j + 1) - 2 ^ j = 2 ^ j by rw [Nat.pow_succ]; omega]
theorem rt_congr (f g : Nat → List UInt8) : ∀ (n a : Nat), 0 < n → (∀ i, a ≤ i → i < a + n → f i = g i) → rt f a n = rt g a n := by
  intro n
  induction n using Nat.strongRecOn with
  | _ n ih =>
    intro a h0 h
    by_cases h2 : 2 ≤ n
    · have := half_pos n
      have := half_lt h2
      rw [rt_two f a h2, rt_two g a h2, ih (half n) (by omega) a (by omega) (fun i h1 h3 => h i h1 (by omega)), ih (n - half n) (by omega) _ (by omega) (fun i h1 h3 => h i (by omega) (by omega))]
    · obtain rfl : n = 1 := by omega
      rw [rt_one, rt_one]
      exact h a (Nat.le_refl _) (by omega)
theorem rt_length (f : Nat → List UInt8) : ∀ (n a : Nat), (∀ i, a ≤ i → i < a + n → (f i).length = 32) → 0 < n → (rt f a n).length = 32 := by
  intro n a h h0
  by_cases h2 : 2 ≤ n
  · rw [rt_two f a h2]
    exact nodeS_length _ _
  · obtain rfl : n = 1 := by omega
    rw [rt_one]
    exact h a (Nat.le_refl _) (by omega)

/-- The root over all of n leaves. -/
def rtAll (f : Nat → List UInt8) (n : Nat) : List UInt8 := if n = 0 then sum [] else rt f 0 n

/-- What comes of a leaf's sum, the i-th of n, by sums from outside in. -/
def up (x : List UInt8) : Nat → Nat → List (List UInt8) → List UInt8 × Bool
  | _, n, [] => (x, n == 1)
  | i, n, o :: r => if n = 1 then (x, false) else
    if i < half n then (nodeS (up x i (half n) r).1 o, (up x i (half n) r).2)
    else (nodeS o (up x (i - half n) (n - half n) r).1, (up x (i - half n) (n - half n) r).2)

/-- What comes of the roots over the first m and all n, by sums from outside in; old: the root over the first m. -/
def both (old : List UInt8) : Nat → Nat → Bool → List (List UInt8) → List UInt8 × List UInt8 × Bool
  | m, n, first, [] => (old, old, m == n && first)
  | m, n, first, o :: r => if m = n then (if first then (old, old, false) else (o, o, r.isEmpty)) else
    if m ≤ half n then
      let p := both old m (half n) first r
      (p.1, nodeS p.2.1 o, p.2.2)
    else
      let p := both old (m - half n) (n - half n) false r
      (nodeS o p.1, nodeS o p.2.1, p.2.2)

/-- The proof of the i-th among n from one on, from within out. -/
def path (f : Nat → List UInt8) (i a n : Nat) : List (List UInt8) :=
  if _h : 2 ≤ n then (if i < half n then path f i a (half n) ++ [rt f (a + half n) (n - half n)] else path f (i - half n) (a + half n) (n - half n) ++ [rt f a (half n)]) else []
termination_by n
decreasing_by
  · exact half_lt _h
  · have := half_pos n; omega

/-- The proof of the first m among n from one on, from within out. -/
def steps (f : Nat → List UInt8) (m a n : Nat) (first : Bool) : List (List UInt8) :=
  if m = n then (if first then [] else [rt f a n]) else
  if _h : 2 ≤ n then (if m ≤ half n then steps f m a (half n) first ++ [rt f (a + half n) (n - half n)] else steps f (m - half n) (a + half n) (n - half n) false ++ [rt f a (half n)]) else []
termination_by n
decreasing_by
  · exact half_lt _h
  · have := half_pos n; omega
theorem half_pow_le {n D : Nat} (h2 : 2 ≤ n) (h : n ≤ 2 ^ D) : ∃ d, D = d + 1 ∧ half n ≤ 2 ^ d ∧ n - half n ≤ 2 ^ d := by
  have l2 := half_ge h2
  cases D with
  | zero => simp at h; omega
  | succ d =>
    have h3 : half n ≤ 2 ^ d := by
      unfold half
      refine Nat.pow_le_pow_right (by decide) ?_
      have : Nat.log2 (n - 1) < d + 1 := (Nat.log2_lt (by omega)).2 (by omega)
      omega
    exact ⟨d, rfl, h3, by omega⟩
theorem path_le (f : Nat → List UInt8) : ∀ (D n a i : Nat), n ≤ 2 ^ D → (path f i a n).length ≤ D := by
  intro D
  induction D with
  | zero => intro n a i h; rw [path, dif_neg (by simp at h; omega)]; simp
  | succ d ih =>
    intro n a i h
    rw [path]
    split
    · rename_i h2
      obtain ⟨d', e, h3, h4⟩ := half_pow_le h2 h
      obtain rfl : d = d' := by omega
      split
      · rw [List.length_append]; have := ih _ a i h3; simp; omega
      · rw [List.length_append]; have := ih _ (a + half n) (i - half n) h4; simp; omega
    · simp
theorem steps_le (f : Nat → List UInt8) : ∀ (D n a m : Nat) (first : Bool), n ≤ 2 ^ D → (steps f m a n first).length ≤ D + 1 := by
  intro D
  induction D with
  | zero =>
    intro n a m first h
    rw [steps]
    split
    · split <;> simp
    · rw [dif_neg (by simp at h; omega)]; simp
  | succ d ih =>
    intro n a m first h
    rw [steps]
    split
    · split <;> simp
    · split
      · rename_i h2
        obtain ⟨d', e, h3, h4⟩ := half_pow_le h2 h
        obtain rfl : d = d' := by omega
        split
        · rw [List.length_append]; have := ih _ a m first h3; simp; omega
        · rw [List.length_append]; have := ih _ (a + half n) (m - half n) false h4; simp; omega
      · simp
end Go.Proofs.YtdoadmkaoboncaaGreatDoor.dig
