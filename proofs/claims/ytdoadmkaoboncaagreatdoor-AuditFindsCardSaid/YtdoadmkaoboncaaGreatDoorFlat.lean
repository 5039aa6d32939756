/- Lists that are made of pieces of one length. Of no program. -/
import Derived.Test.YtdoadmkaoboncaaGreatDoorRow
namespace Go.Proofs.YtdoadmkaoboncaaGreatDoor

/-- The pieces of k places, from a on. -/
def flat {α : Type} (g : Nat → List α) (a k : Nat) : List α := (List.range' a k).flatMap g

section
variable {α : Type} {g h : Nat → List α} {a k w : Nat}

theorem flat_zero (g : Nat → List α) (a : Nat) : flat g a 0 = [] := rfl
theorem flat_succ (g : Nat → List α) (a k : Nat) : flat g a (k + 1) = g a ++ flat g (a + 1) k := by
  unfold flat
  rw [List.range'_succ, List.flatMap_cons]
theorem flat_snoc (g : Nat → List α) (a k : Nat) : flat g a (k + 1) = flat g a k ++ g (a + k) := by
  unfold flat
  rw [List.range'_concat, List.flatMap_append]
  simp
theorem flat_add (g : Nat → List α) (a k m : Nat) : flat g a (k + m) = flat g a k ++ flat g (a + k) m := by
  induction m with
  | zero => simp [flat_zero]
  | succ m ih => rw [← Nat.add_assoc, flat_snoc, ih, flat_snoc, List.append_assoc, Nat.add_assoc]
theorem flat_congr (e : ∀ i, a ≤ i → i < a + k → g i = h i) : flat g a k = flat h a k := by
  induction k with
  | zero => rfl
  | succ k ih => rw [flat_snoc, flat_snoc, ih (fun i h1 h2 => e i h1 (by omega)), e (a + k) (by omega) (by omega)]
theorem flat_len (e : ∀ i, a ≤ i → i < a + k → (g i).length = w) : (flat g a k).length = k * w := by
  induction k with
  | zero => simp [flat_zero]
  | succ k ih => rw [flat_snoc, List.length_append, ih (fun i h1 h2 => e i h1 (by omega)), e (a + k) (by omega) (by omega), Nat.succ_mul]
theorem flat_get (e : ∀ i, a ≤ i → i < a + k → (g i).length = w) {j r : Nat} (hj : j < k) (hr : r < w) : (flat g a k)[j * w + r]? = (g (a + j))[r]? := by
  obtain ⟨m, rfl⟩ : ∃ m, k = j + (m + 1) := ⟨k - j - 1, by omega⟩
  have h1 : (flat g a j).length = j * w := flat_len (fun i h1 h2 => e i h1 (by omega))
  rw [flat_add, List.getElem?_append_right (by omega), h1, Nat.add_sub_cancel_left, flat_succ, List.getElem?_append_left (by rw [e (a + j) (by omega) (by omega)]; exact hr)]
theorem flat_drop (e : ∀ i, a ≤ i → i < a + k → (g i).length = w) {m : Nat} (hm : m ≤ k) : (flat g a k).drop (m * w) = flat g (a + m) (k - m) := by
  obtain ⟨q, rfl⟩ : ∃ q, k = m + q := ⟨k - m, by omega⟩
  have h1 : (flat g a m).length = m * w := flat_len (fun i h1 h2 => e i h1 (by omega))
  rw [flat_add, ← h1, List.drop_left, Nat.add_sub_cancel_left]
theorem flat_take (e : ∀ i, a ≤ i → i < a + k → (g i).length = w) {m : Nat} (hm : m ≤ k) : (flat g a k).take (m * w) = flat g a m := by
  obtain ⟨q, rfl⟩ : ∃ q, k = m + q := ⟨k - m, by omega⟩
  have h1 : (flat g a m).length = m * w := flat_len (fun i h1 h2 => e i h1 (by omega))
  rw [flat_add, ← h1, List.take_left]
theorem flat_set (e : ∀ i, a ≤ i → i < a + k → (g i).length = w) {j r : Nat} (hj : j < k) (hr : r < w) (u : α) : (flat g a k).set (j * w + r) u = flat (fun i => if i = a + j then (g i).set r u else g i) a k := by
  obtain ⟨m, rfl⟩ : ∃ m, k = j + (m + 1) := ⟨k - j - 1, by omega⟩
  have h1 : (flat g a j).length = j * w := flat_len (fun i h1 h2 => e i h1 (by omega))
  have e1 : flat (fun i => if i = a + j then (g i).set r u else g i) a j = flat g a j := flat_congr (fun i h1 h2 => by rw [if_neg (by omega)])
  have e2 : flat (fun i => if i = a + j then (g i).set r u else g i) (a + j + 1) m = flat g (a + j + 1) m := flat_congr (fun i h1 h2 => by rw [if_neg (by omega)])
  have e3 := flat_add (fun i => if i = a + j then (g i).set r u else g i) a j (m + 1)
  rw [flat_succ, e1, e2, if_pos rfl] at e3
  rw [e3, flat_add g a j (m + 1), flat_succ g, List.set_append_right _ _ (by omega), h1, Nat.add_sub_cancel_left, List.set_append_left _ _ (by rw [e (a + j) (by omega) (by omega)]; exact hr)]
end
end Go.Proofs.YtdoadmkaoboncaaGreatDoor
