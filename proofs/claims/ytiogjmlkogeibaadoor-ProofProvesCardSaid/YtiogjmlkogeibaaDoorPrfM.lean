/- proof: what sums prove (the mathematics). -/
import Derived.Test.YtiogjmlkogeibaaDoorDigH
import Derived.Test.YtiogjmlkogeibaaDoorHalf
namespace Go.Proofs.YtiogjmlkogeibaaDoor.prf
open Go Go.Proofs.YtiogjmlkogeibaaDoor.dig

/-- The root over n leaves, of the i-th one's sum x and of sums, the outermost first; z: what stands for none. -/
def up (z x : List UInt8) : List (List UInt8) → Nat → Nat → List UInt8 × Bool
  | [], _, n => if n = 1 then (x, true) else (z, false)
  | s :: r, i, n => if n = 1 then (x, false) else if i < half n then (nodeS (up z x r i (half n)).1 s, (up z x r i (half n)).2) else (nodeS s (up z x r (i - half n) (n - half n)).1, (up z x r (i - half n) (n - half n)).2)

theorem up_one (z x : List UInt8) (r : List (List UInt8)) (i : Nat) : up z x r i 1 = (x, r.isEmpty) := by
  cases r <;> simp [up]
theorem up_nil (z x : List UInt8) (i : Nat) {n : Nat} (h : n ≠ 1) : up z x [] i n = (z, false) := by simp [up, h]
theorem up_left (z x s : List UInt8) (r : List (List UInt8)) {i n : Nat} (h : n ≠ 1) (hi : i < half n) : up z x (s :: r) i n = (nodeS (up z x r i (half n)).1 s, (up z x r i (half n)).2) := by
  rw [up, if_neg h, if_pos hi]
theorem up_right (z x s : List UInt8) (r : List (List UInt8)) {i n : Nat} (h : n ≠ 1) (hi : ¬ i < half n) : up z x (s :: r) i n = (nodeS s (up z x r (i - half n) (n - half n)).1, (up z x r (i - half n) (n - half n)).2) := by
  rw [up, if_neg h, if_neg hi]

theorem up_len {z x : List UInt8} (hz : z.length = 32) (hx : x.length = 32) : ∀ (r : List (List UInt8)) (i n : Nat), (up z x r i n).1.length = 32
  | [], i, n => by by_cases h : n = 1 <;> simp [up, h, hz, hx]
  | s :: r, i, n => by
    by_cases h : n = 1
    · simp [up, h, hx]
    · by_cases hi : i < half n
      · rw [up_left z x s r h hi]; exact nodeS_length _ _
      · rw [up_right z x s r h hi]; exact nodeS_length _ _

/-- What stands for none matters in none that is right. -/
theorem up_any (z z' x : List UInt8) : ∀ (r : List (List UInt8)) (i n : Nat), (up z x r i n).2 = (up z' x r i n).2 ∧ ((up z x r i n).2 = true → (up z x r i n).1 = (up z' x r i n).1)
  | [], i, n => by by_cases h : n = 1 <;> simp [up, h]
  | s :: r, i, n => by
    by_cases h : n = 1
    · simp [up, h]
    · by_cases hi : i < half n
      · rw [up_left z x s r h hi, up_left z' x s r h hi]
        obtain ⟨h1, h2⟩ := up_any z z' x r i (half n)
        exact ⟨h1, fun e => by show nodeS _ _ = nodeS _ _; rw [h2 e]⟩
      · rw [up_right z x s r h hi, up_right z' x s r h hi]
        obtain ⟨h1, h2⟩ := up_any z z' x r (i - half n) (n - half n)
        exact ⟨h1, fun e => by show nodeS _ _ = nodeS _ _; rw [h2 e]⟩

/-- As many sums as it takes are a matter of their number alone. -/
theorem up_count (z x z' x' : List UInt8) : ∀ (r r' : List (List UInt8)) (i n : Nat), r.length = r'.length → (up z x r i n).2 = (up z' x' r' i n).2
  | [], [], i, n, _ => by by_cases h : n = 1 <;> simp [up, h]
  | s :: r, s' :: r', i, n, hl => by
    have hl' : r.length = r'.length := by simpa using hl
    by_cases h : n = 1
    · simp [up, h]
    · by_cases hi : i < half n
      · rw [up_left z x s r h hi, up_left z' x' s' r' h hi]; exact up_count z x z' x' r r' i (half n) hl'
      · rw [up_right z x s r h hi, up_right z' x' s' r' h hi]; exact up_count z x z' x' r r' (i - half n) (n - half n) hl'
  | [], _ :: _, _, _, hl => by cases hl
  | _ :: _, [], _, _, hl => by cases hl

/-- Of one number of leaves and one place there is one number of sums that it takes. -/
theorem up_more (z x z' x' : List UInt8) : ∀ (r r' : List (List UInt8)) (i n : Nat), (up z x r i n).2 = true → r.length ≠ r'.length → (up z' x' r' i n).2 = false
  | [], [], i, n, _, hl => by exact absurd rfl hl
  | s :: r, s' :: r', i, n, ho, hl => by
    have hl' : r.length ≠ r'.length := by simpa using hl
    by_cases h : n = 1
    · simp [up, h]
    · by_cases hi : i < half n
      · rw [up_left z x s r h hi] at ho; rw [up_left z' x' s' r' h hi]; exact up_more z x z' x' r r' i (half n) ho hl'
      · rw [up_right z x s r h hi] at ho; rw [up_right z' x' s' r' h hi]; exact up_more z x z' x' r r' (i - half n) (n - half n) ho hl'
  | [], s' :: r', i, n, ho, _ => by
    by_cases h : n = 1
    · simp [up, h]
    · rw [up_nil z x i h] at ho; cases ho
  | s :: r, [], i, n, ho, _ => by
    by_cases h : n = 1
    · rw [up, if_pos h] at ho; cases ho
    · rw [up_nil z' x' i h]

/-- The roots over the first m and over all n leaves; o: the first one's, f: it is known. -/
def both (z o : List UInt8) : List (List UInt8) → Bool → Nat → Nat → List UInt8 × List UInt8 × Bool
  | [], f, m, n => if m = n ∧ f = true then (o, o, true) else (z, z, false)
  | s :: r, f, m, n => if m = n ∧ f = true then (o, o, false) else if m = n then (s, s, r.isEmpty) else if m ≤ half n then ((both z o r f m (half n)).1, nodeS (both z o r f m (half n)).2.1 s, (both z o r f m (half n)).2.2) else (nodeS s (both z o r false (m - half n) (n - half n)).1, nodeS s (both z o r false (m - half n) (n - half n)).2.1, (both z o r false (m - half n) (n - half n)).2.2)

theorem both_known (z o : List UInt8) (r : List (List UInt8)) (n : Nat) : both z o r true n n = (o, o, r.isEmpty) := by cases r <;> simp [both]
theorem both_nil (z o : List UInt8) (f : Bool) {m n : Nat} (h : ¬ (m = n ∧ f = true)) : both z o [] f m n = (z, z, false) := by rw [both, if_neg h]
theorem both_all (z o s : List UInt8) (r : List (List UInt8)) (n : Nat) : both z o (s :: r) false n n = (s, s, r.isEmpty) := by simp [both]
theorem both_left (z o s : List UInt8) (r : List (List UInt8)) (f : Bool) {m n : Nat} (h : m ≠ n) (hm : m ≤ half n) : both z o (s :: r) f m n = ((both z o r f m (half n)).1, nodeS (both z o r f m (half n)).2.1 s, (both z o r f m (half n)).2.2) := by
  rw [both, if_neg (fun e => h e.1), if_neg h, if_pos hm]
theorem both_right (z o s : List UInt8) (r : List (List UInt8)) (f : Bool) {m n : Nat} (h : m ≠ n) (hm : ¬ m ≤ half n) : both z o (s :: r) f m n = (nodeS s (both z o r false (m - half n) (n - half n)).1, nodeS s (both z o r false (m - half n) (n - half n)).2.1, (both z o r false (m - half n) (n - half n)).2.2) := by
  rw [both, if_neg (fun e => h e.1), if_neg h, if_neg hm]

theorem both_len {z o : List UInt8} (hz : z.length = 32) (ho : o.length = 32) : ∀ (r : List (List UInt8)) (f : Bool) (m n : Nat), (∀ x ∈ r, x.length = 32) → (both z o r f m n).1.length = 32 ∧ (both z o r f m n).2.1.length = 32
  | [], f, m, n, _ => by by_cases h : m = n ∧ f = true <;> simp [both, h, hz, ho]
  | s :: r, f, m, n, hr => by
    have hs := hr s (by simp)
    have hr' : ∀ x ∈ r, x.length = 32 := fun x hx => hr x (by simp [hx])
    by_cases h : m = n
    · subst h
      cases f
      · rw [both_all]; exact ⟨hs, hs⟩
      · rw [both_known]; exact ⟨ho, ho⟩
    · by_cases hm : m ≤ half n
      · rw [both_left z o s r f h hm]; exact ⟨(both_len hz ho r f m (half n) hr').1, nodeS_length _ _⟩
      · rw [both_right z o s r f h hm]; exact ⟨nodeS_length _ _, nodeS_length _ _⟩

theorem both_any (z z' o : List UInt8) : ∀ (r : List (List UInt8)) (f : Bool) (m n : Nat), (both z o r f m n).2.2 = (both z' o r f m n).2.2 ∧ ((both z o r f m n).2.2 = true → (both z o r f m n).1 = (both z' o r f m n).1 ∧ (both z o r f m n).2.1 = (both z' o r f m n).2.1)
  | [], f, m, n => by by_cases h : m = n ∧ f = true <;> simp [both, h]
  | s :: r, f, m, n => by
    by_cases h : m = n
    · subst h
      cases f
      · rw [both_all, both_all]; exact ⟨rfl, fun _ => ⟨rfl, rfl⟩⟩
      · rw [both_known, both_known]; exact ⟨rfl, fun _ => ⟨rfl, rfl⟩⟩
    · by_cases hm : m ≤ half n
      · rw [both_left z o s r f h hm, both_left z' o s r f h hm]
        obtain ⟨h1, h2⟩ := both_any z z' o r f m (half n)
        exact ⟨h1, fun e => ⟨(h2 e).1, by show nodeS _ _ = nodeS _ _; rw [(h2 e).2]⟩⟩
      · rw [both_right z o s r f h hm, both_right z' o s r f h hm]
        obtain ⟨h1, h2⟩ := both_any z z' o r false (m - half n) (n - half n)
        exact ⟨h1, fun e => ⟨by show nodeS _ _ = nodeS _ _; rw [(h2 e).1], by show nodeS _ _ = nodeS _ _; rw [(h2 e).2]⟩⟩

/-- Do sums prove a leaf: 0, 6 (no such place) or 12. -/
def inclE (leaf : List UInt8) (i n : Int) (root : List UInt8) (r : List (List UInt8)) : Int :=
  if i < 0 ∨ n ≤ i then 6 else if (up (List.replicate 32 0) (leafS leaf) r i.toNat n.toNat).2 = true ∧ (up (List.replicate 32 0) (leafS leaf) r i.toNat n.toNat).1 = root then 0 else 12

/-- Do they prove an elder head, of no more leaves? -/
def elderB (m : Nat) (old : List UInt8) (n : Nat) (root : List UInt8) (r : List (List UInt8)) : Bool :=
  if m = n then r.isEmpty && (old == root) else if m = 0 then r.isEmpty && (old == sum []) else
    (both (List.replicate 32 0) old r true m n).2.2 && ((both (List.replicate 32 0) old r true m n).1 == old) && ((both (List.replicate 32 0) old r true m n).2.1 == root)
def consE (m : Int) (old : List UInt8) (n : Int) (root : List UInt8) (r : List (List UInt8)) : Int :=
  if m < 0 ∨ n < m then 6 else if elderB m.toNat old n.toNat root r = true then 0 else 12
end Go.Proofs.YtiogjmlkogeibaaDoor.prf
