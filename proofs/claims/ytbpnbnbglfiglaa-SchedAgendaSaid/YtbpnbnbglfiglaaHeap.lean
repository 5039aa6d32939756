/- A binary heap of things (tick, who, number) as a list: what goes up, what goes down, what stands first. Plain mathematics: of no program. -/
import Derived.Lib.Hide
namespace Go.Proofs.Ytbpnbnbglfiglaa

/-- A thing: its tick, whose it is, its number. -/
abbrev Th := Int × Int × Int

/-- a goes ahead of b. -/
def lt (a b : Th) : Prop := a.1 < b.1 ∨ (a.1 = b.1 ∧ a.2.2 < b.2.2)
instance (a b : Th) : Decidable (lt a b) := inferInstanceAs (Decidable (_ ∨ _))

theorem lt_trans {a b c : Th} (h : lt a b) (k : lt b c) : lt a c := by unfold lt at *; omega
theorem lt_asymm {a b : Th} (h : lt a b) : ¬ lt b a := by unfold lt at *; omega
theorem nlt_trans {a b c : Th} (h : ¬ lt a b) (k : ¬ lt b c) : ¬ lt a c := by unfold lt at *; omega
theorem lt_nlt {a b c : Th} (h : lt a b) (k : ¬ lt c b) : lt a c := by unfold lt at *; omega

/-- The thing at place i. -/
def at_ (l : List Th) (i : Nat) : Th := l.getD i (0, 0, 0)
def swap (l : List Th) (i j : Nat) : List Th := (l.set i (at_ l j)).set j (at_ l i)

theorem at_eq {l : List Th} {i : Nat} (h : i < l.length) : at_ l i = l[i] := by simp [at_, h]
theorem swap_length (l : List Th) (i j : Nat) : (swap l i j).length = l.length := by simp [swap]

theorem at_swap (l : List Th) (i j k : Nat) (hi : i < l.length) (hj : j < l.length) : at_ (swap l i j) k = if k = j then at_ l i else if k = i then at_ l j else at_ l k := by
  by_cases hk : k < l.length
  · rw [at_eq (by rw [swap_length]; exact hk)]
    simp only [swap, List.getElem_set]
    by_cases h1 : k = j
    · subst h1; simp
    · rw [if_neg (fun e => h1 e.symm), if_neg h1]
      by_cases h2 : k = i
      · subst h2; simp
      · rw [if_neg (fun e => h2 e.symm), if_neg h2, at_eq hk]
  · have h1 : ¬ k = j := by omega
    have h2 : ¬ k = i := by omega
    rw [if_neg h1, if_neg h2]
    simp [at_, swap, hk]

theorem swap_perm (l : List Th) (i j : Nat) (hi : i < l.length) (hj : j < l.length) : (swap l i j).Perm l := by
  unfold swap
  rw [at_eq hi, at_eq hj]
  exact List.set_set_perm hi hj

/-- From place i0 on, among the first n, nobody goes ahead of who stands above. -/
def HeapFrom (i0 n : Nat) (l : List Th) : Prop := ∀ k, 0 < k → k < n → i0 ≤ (k - 1) / 2 → ¬ lt (at_ l k) (at_ l ((k - 1) / 2))

/-- The same, but below place i; and what stands below i doesn't go ahead of what stands above i. -/
def Sinks (i0 n i : Nat) (l : List Th) : Prop :=
  (∀ k, 0 < k → k < n → i0 ≤ (k - 1) / 2 → (k - 1) / 2 ≠ i → ¬ lt (at_ l k) (at_ l ((k - 1) / 2))) ∧
  (i ≠ i0 → i0 ≤ (i - 1) / 2 ∧ 0 < i ∧ ∀ k, 0 < k → k < n → (k - 1) / 2 = i → ¬ lt (at_ l k) (at_ l ((i - 1) / 2))) ∧ i0 ≤ i

theorem Sinks.start {i0 n : Nat} {l : List Th} (h : HeapFrom (i0 + 1) n l) : Sinks i0 n i0 l :=
  ⟨fun k h0 hn hi hne => h k h0 hn (by omega), fun h => absurd rfl h, Nat.le_refl _⟩

theorem Sinks.done {i0 n i : Nat} {l : List Th} (h : Sinks i0 n i l) (hc : ∀ k, 0 < k → k < n → (k - 1) / 2 = i → ¬ lt (at_ l k) (at_ l i)) : HeapFrom i0 n l := fun k h0 hn hi => by
  by_cases e : (k - 1) / 2 = i
  · rw [e]; exact hc k h0 hn e
  · exact h.1 k h0 hn hi e

/-- The lesser one of those below i changes places with it. -/
theorem Sinks.step {i0 n i j : Nat} {l : List Th} (h : Sinks i0 n i l) (hl : n ≤ l.length) (hj : j < n) (hji : 0 < j ∧ (j - 1) / 2 = i) (hlt : lt (at_ l j) (at_ l i))
    (hmin : ∀ k, 0 < k → k < n → (k - 1) / 2 = i → ¬ lt (at_ l k) (at_ l j)) : Sinks i0 n j (swap l i j) := by
  obtain ⟨h1, h2, h3⟩ := h
  have hi : i < l.length := by omega
  have hjl : j < l.length := by omega
  have hij : i ≠ j := by omega
  refine ⟨fun k h0 hn hk hne => ?_, fun _ => ⟨by omega, hji.1, fun k h0 hn hk => ?_⟩, by omega⟩
  · rw [at_swap l i j k hi hjl, at_swap l i j _ hi hjl]
    by_cases e : (k - 1) / 2 = i
    · rw [if_neg (c := (k - 1) / 2 = j) hne, if_pos (c := (k - 1) / 2 = i) e]
      by_cases ek : k = j
      · rw [if_pos ek]; exact lt_asymm hlt
      · rw [if_neg ek, if_neg (c := k = i) (by omega)]; exact hmin k h0 hn e
    · rw [if_neg (c := (k - 1) / 2 = j) hne, if_neg (c := (k - 1) / 2 = i) e]
      by_cases ek : k = j
      · omega
      · rw [if_neg ek]
        by_cases ei : k = i
        · rw [if_pos ei]
          subst ei
          have hne0 : k ≠ i0 := by omega
          exact (h2 hne0).2.2 j hji.1 hj hji.2
        · rw [if_neg ei]
          exact h1 k h0 hn hk e
  · rw [at_swap l i j k hi hjl, at_swap l i j _ hi hjl, hji.2]
    rw [if_neg (by omega), if_neg (by omega), if_neg hij, if_pos rfl]
    have := h1 k h0 hn (by omega) (by omega)
    rw [hk] at this
    exact this

/-- A heap, but that who stands at j may go ahead of who stands above. -/
def Rises (n j : Nat) (l : List Th) : Prop :=
  (∀ k, 0 < k → k < n → k ≠ j → ¬ lt (at_ l k) (at_ l ((k - 1) / 2))) ∧ (0 < j → ∀ k, 0 < k → k < n → (k - 1) / 2 = j → ¬ lt (at_ l k) (at_ l ((j - 1) / 2))) ∧ j < n

theorem Rises.start {n : Nat} {l : List Th} (h : HeapFrom 0 n l) (t : Th) (hl : l.length = n) : Rises (n + 1) n (l ++ [t]) := by
  have ha : ∀ k, k < n → at_ (l ++ [t]) k = at_ l k := fun k hk => by
    rw [at_eq (by simp; omega), at_eq (by omega), List.getElem_append_left]
  refine ⟨fun k h0 hn hne => ?_, fun h0 k hk hn hp => by omega, by omega⟩
  rw [ha k (by omega), ha _ (by omega)]
  exact h k h0 (by omega) (Nat.zero_le _)

theorem Rises.top {n : Nat} {l : List Th} (h : Rises n 0 l) : HeapFrom 0 n l := fun k h0 hn _ => h.1 k h0 hn (by omega)
theorem Rises.done {n j : Nat} {l : List Th} (h : Rises n j l) (hc : ¬ lt (at_ l j) (at_ l ((j - 1) / 2))) : HeapFrom 0 n l := fun k h0 hn _ => by
  by_cases e : k = j
  · rw [e]; exact hc
  · exact h.1 k h0 hn e

theorem Rises.step {n j : Nat} {l : List Th} (h : Rises n j l) (hl : n ≤ l.length) (h0j : 0 < j) (hlt : lt (at_ l j) (at_ l ((j - 1) / 2))) : Rises n ((j - 1) / 2) (swap l ((j - 1) / 2) j) := by
  obtain ⟨h1, h2, h3⟩ := h
  generalize hi' : (j - 1) / 2 = i at *
  have hi : i < l.length := by omega
  have hjl : j < l.length := by omega
  refine ⟨fun k h0 hn hne => ?_, fun h0i k h0 hn hk => ?_, by omega⟩
  · rw [at_swap l i j k hi hjl, at_swap l i j _ hi hjl]
    by_cases ek : k = j
    · subst ek
      rw [if_pos rfl, hi', if_neg (by omega), if_pos rfl]
      exact lt_asymm hlt
    · rw [if_neg ek, if_neg hne]
      by_cases ep : (k - 1) / 2 = j
      · rw [if_pos ep]; exact h2 h0j k h0 hn ep
      · rw [if_neg ep]
        by_cases ei : (k - 1) / 2 = i
        · rw [if_pos ei]
          have := h1 k h0 hn ek
          rw [ei] at this
          exact fun hh => this (lt_trans hh hlt)
        · rw [if_neg ei]; exact h1 k h0 hn ek
  · have hpi := h1 i h0i (by omega) (by omega)
    rw [at_swap l i j k hi hjl, at_swap l i j _ hi hjl]
    rw [if_neg (c := (i - 1) / 2 = j) (by omega), if_neg (c := (i - 1) / 2 = i) (by omega)]
    by_cases ek : k = j
    · rw [if_pos ek]; exact hpi
    · rw [if_neg ek, if_neg (by omega)]
      have := h1 k h0 hn ek
      rw [hk] at this
      exact nlt_trans this hpi

/-- Nobody goes ahead of who stands at the top. -/
theorem HeapFrom.top {n : Nat} {l : List Th} (h : HeapFrom 0 n l) : ∀ k, k < n → ¬ lt (at_ l k) (at_ l 0) := by
  intro k
  induction k using Nat.strongRecOn with
  | ind k ih =>
    intro hk
    by_cases h0 : k = 0
    · subst h0; unfold lt; omega
    · exact nlt_trans (h k (by omega) hk (Nat.zero_le _)) (ih ((k - 1) / 2) (by omega) (by omega))

/-- Of a heap of the things of a list by its order, the list's first one stands at the top. -/
theorem heap_head {l : List Th} {h : Th} {t : List Th} (hp : l.Perm (h :: t)) (hs : (h :: t).Pairwise lt) (hh : HeapFrom 0 l.length l) : at_ l 0 = h := by
  have hlen : 0 < l.length := by rw [hp.length_eq]; simp
  have hm : at_ l 0 ∈ h :: t := hp.mem_iff.1 (by rw [at_eq hlen]; exact List.getElem_mem hlen)
  rcases List.mem_cons.1 hm with e | e
  · exact e
  · have h1 : lt h (at_ l 0) := List.rel_of_pairwise_cons hs e
    have h2 : h ∈ l := hp.mem_iff.2 (by simp)
    obtain ⟨k, hk, he⟩ := List.getElem_of_mem h2
    have := hh.top k hk
    rw [at_eq hk, he] at this
    exact absurd h1 this

end Go.Proofs.Ytbpnbnbglfiglaa
