/- sched: the mathematics of fair turns, of shares, of who is set. -/
import Derived.Test.YtjfilakhahnpeaaSchM
namespace Go.Proofs.Ytjfilakhahnpeaa.sch
open Go Go.RowKit

theorem ins_last {x : Th} : ∀ {S : List Th}, (∀ y ∈ S, ¬ lt x y) → ins x S = S ++ [x]
  | [], _ => rfl
  | y :: t, h => by
    unfold ins
    rw [if_neg (h y (by simp)), ins_last (S := t) (fun z hz => h z (by simp [hz]))]
    rfl

/-- Who is due behind i turns of n processes of pace p. -/
def fairAt (p : Int) (n k : Nat) : Th := (p * (1 + ((k / n : Nat) : Int)), ((k % n : Nat) : Int), (k : Int))
def fairFrom (p : Int) (n i : Nat) : Nat → List Th
  | 0 => []
  | m + 1 => fairAt p n i :: fairFrom p n (i + 1) m
def fairS (p : Int) (n i : Nat) : List Th := fairFrom p n i n

theorem fairFrom_len (p : Int) (n : Nat) : ∀ m i, (fairFrom p n i m).length = m
  | 0, _ => rfl
  | m + 1, i => by unfold fairFrom; rw [List.length_cons, fairFrom_len p n m]
theorem fairFrom_snoc (p : Int) (n : Nat) : ∀ m i, fairFrom p n i (m + 1) = fairFrom p n i m ++ [fairAt p n (i + m)]
  | 0, i => rfl
  | m + 1, i => by
    show fairAt p n i :: fairFrom p n (i + 1) (m + 1) = _
    rw [fairFrom_snoc p n m (i + 1), show i + 1 + m = i + (m + 1) by omega]
    rfl
theorem fairFrom_mem {p : Int} {n : Nat} {y : Th} : ∀ {m i}, y ∈ fairFrom p n i m → ∃ j, i ≤ j ∧ j < i + m ∧ y = fairAt p n j
  | 0, i, h => by cases h
  | m + 1, i, h => by
    unfold fairFrom at h
    rcases List.mem_cons.1 h with rfl | h
    · exact ⟨i, Nat.le_refl _, by omega, rfl⟩
    · obtain ⟨j, h1, h2, h3⟩ := fairFrom_mem h
      exact ⟨j, by omega, by omega, h3⟩

theorem fair_nlt {p : Int} {n k j : Nat} (hp : 0 ≤ p) (h : j < k) : ¬ lt (fairAt p n k) (fairAt p n j) := by
  have h1 : j / n ≤ k / n := Nat.div_le_div_right (Nat.le_of_lt h)
  have h2 : p * (1 + ((j / n : Nat) : Int)) ≤ p * (1 + ((k / n : Nat) : Int)) := Int.mul_le_mul_of_nonneg_left (by omega) hp
  unfold lt fairAt
  dsimp only
  omega

def fairA (p : Int) (n i : Nat) (T : Int) : Ab := ⟨List.replicate n p, T, fairS p n i, (n : Int) + (i : Int)⟩

theorem pace_rep (p : Int) {n i : Nat} (h : i < n) : pace (List.replicate n p) i = p := pace_get (by rw [List.getElem?_replicate, if_pos h])

theorem fair_first (p : Int) {n : Nat} (i : Nat) (hn : 0 < n) : fairS p n i = fairAt p n i :: fairFrom p n (i + 1) (n - 1) := by
  unfold fairS
  obtain ⟨m, rfl⟩ : ∃ m, n = m + 1 := ⟨n - 1, by omega⟩
  rfl

theorem fair_next (p : Int) (n i : Nat) (T : Int) (hn : 0 < n) (hp : 0 < p) : next (fairA p n i T) (fairAt p n i) (fairFrom p n (i + 1) (n - 1)) (i % n) = fairA p n (i + 1) (p * (1 + ((i / n : Nat) : Int))) := by
  have hm : i % n < n := Nat.mod_lt _ hn
  have hpi : pace (took (fairA p n i T) (fairAt p n i) (fairFrom p n (i + 1) (n - 1))).P (i % n) = p := pace_rep p hm
  have hd : (n + i) / n = i / n + 1 := by rw [Nat.add_comm, Nat.add_div_right _ hn]
  have hr : (n + i) % n = i % n := by rw [Nat.add_comm, Nat.add_mod_right]
  have e : ((took (fairA p n i T) (fairAt p n i) (fairFrom p n (i + 1) (n - 1))).T + p, ((i % n : Nat) : Int), (took (fairA p n i T) (fairAt p n i) (fairFrom p n (i + 1) (n - 1))).n) = fairAt p n (n + i) := by
    show (p * (1 + ((i / n : Nat) : Int)) + p, ((i % n : Nat) : Int), (n : Int) + (i : Int)) = fairAt p n (n + i)
    unfold fairAt
    rw [hd, hr]
    refine Prod.ext ?_ (Prod.ext rfl ?_)
    · show p * (1 + ((i / n : Nat) : Int)) + p = p * (1 + ((i / n + 1 : Nat) : Int))
      rw [Int.natCast_add, Int.mul_add, Int.mul_add, Int.mul_add]
      simp
      omega
    · show (n : Int) + (i : Int) = ((n + i : Nat) : Int)
      omega
  unfold next await
  rw [hpi, if_pos hp, e]
  have e2 : ins (fairAt p n (n + i)) (fairFrom p n (i + 1) (n - 1)) = fairS p n (i + 1) := by
    rw [ins_last]
    · unfold fairS
      obtain ⟨m, rfl⟩ : ∃ m, n = m + 1 := ⟨n - 1, by omega⟩
      rw [fairFrom_snoc, show m + 1 - 1 = m by omega, show m + 1 + i = i + 1 + m by omega]
    · intro y hy
      obtain ⟨j, h1, h2, rfl⟩ := fairFrom_mem hy
      exact fair_nlt (by omega) (by omega)
  show (⟨List.replicate n p, p * (1 + ((i / n : Nat) : Int)), ins (fairAt p n (n + i)) (fairFrom p n (i + 1) (n - 1)), (n : Int) + (i : Int) + 1⟩ : Ab) = _
  rw [e2]
  unfold fairA
  rw [Int.natCast_add, Int.add_assoc]
  rfl

theorem fair_push (p : Int) (n : Nat) (hp : 0 < p) (hb : p ≤ 1048576) : ∀ m, m ≤ n → (List.replicate m p).foldl push ab0 = ⟨List.replicate m p, 0, fairFrom p n 0 m, (m : Int)⟩
  | 0, _ => rfl
  | m + 1, h => by
    have hbp : bnd p = p := by unfold bnd; rw [if_neg (by omega), if_neg (by omega)]
    rw [List.replicate_succ', List.foldl_append, fair_push p n hp hb m (by omega)]
    show push _ p = _
    unfold push pushed await
    have hl : (List.replicate m p).length = m := List.length_replicate
    have hpc : pace (List.replicate m p ++ [bnd p]) (List.replicate m p).length = p := by rw [pace_last, hbp]
    dsimp only
    rw [hpc, if_pos hp, hbp, hl]
    have e : ((0 : Int) + p, (m : Int), (m : Int)) = fairAt p n m := by
      unfold fairAt
      rw [Nat.div_eq_of_lt (by omega), Nat.mod_eq_of_lt (by omega)]
      simp
    rw [e, ins_last, fairFrom_snoc, Nat.zero_add]
    · rfl
    · intro y hy
      obtain ⟨j, h1, h2, rfl⟩ := fairFrom_mem hy
      exact fair_nlt (by omega) (by omega)

theorem fair_made (p : Int) (n : Nat) (hp : 0 < p) (hb : p ≤ 1048576) : made (List.replicate n p) = fairA p n 0 0 := by
  unfold made
  rw [fair_push p n hp hb n (Nat.le_refl _)]
  unfold fairA fairS
  simp

/-- SHARE: how many turns each had. -/
structure Sh (a : Ab) (had : Nat → Nat) : Prop where
  item : ∀ x ∈ a.S, ∀ i : Nat, x.2.1 = (i : Int) → x.1 = pace a.P i * ((had i : Int) + 1)
  low : ∀ i, i < a.P.length → pace a.P i * (had i : Int) ≤ a.T
  none : ∀ i, (i < a.P.length → pace a.P i = 0) → had i = 0

def bump (had : Nat → Nat) (i j : Nat) : Nat := if j = i then had i + 1 else had j

theorem Sh.next {k : Int} {a : Ab} {had : Nat → Nat} {x : Th} {t : List Th} {i : Nat} (h : Sh a had) (hI : Inv k a.P.length a) (e : a.S = x :: t) (hi : x.2.1 = (i : Int)) (hil : i < a.P.length) (hp : 0 < pace a.P i) : Sh (next a x t i) (bump had i) := by
  have hx1 := h.item x (by rw [e]; simp) i hi
  have hs := hI.sorted
  rw [e] at hs
  obtain ⟨_, hlt⟩ := hI.item x (by rw [e]; simp)
  have hTx : a.T ≤ x.1 := hlt.2.2.2.1
  have hone := hI.one
  rw [e, List.map_cons, List.nodup_cons] at hone
  refine ⟨?_, ?_, ?_⟩
  · intro y hy j hj
    unfold sch.next await at hy
    have hp' : 0 < pace (took a x t).P i := hp
    rw [if_pos hp'] at hy
    show y.1 = pace (sch.next a x t i).P j * _
    rw [show (sch.next a x t i).P = a.P from await_P _ _]
    rcases List.mem_cons.1 ((ins_perm _ t).mem_iff.1 hy) with rfl | hy
    · obtain rfl : i = j := by have : (i : Int) = (j : Int) := hj; omega
      show x.1 + pace a.P i = _
      unfold bump
      rw [if_pos rfl, hx1, Int.natCast_add, Int.mul_add, Int.mul_add, Int.mul_add]
      simp
    · have hji : j ≠ i := fun e2 => hone.1 (List.mem_map.2 ⟨y, hy, by rw [hj, e2]; exact hi.symm⟩)
      unfold bump
      rw [if_neg hji]
      exact h.item y (by rw [e]; exact List.mem_cons_of_mem _ hy) j hj
  · intro j hj
    rw [show (sch.next a x t i).P = a.P from await_P _ _] at hj ⊢
    rw [show (sch.next a x t i).T = x.1 from await_T _ _]
    unfold bump
    by_cases hji : j = i
    · subst hji
      rw [if_pos rfl, hx1, Int.natCast_add]
      exact Int.le_refl _
    · rw [if_neg hji]
      exact Int.le_trans (h.low j hj) hTx
  · intro j hj
    rw [show (sch.next a x t i).P = a.P from await_P _ _] at hj
    unfold bump
    by_cases hji : j = i
    · subst hji; have := hj hil; omega
    · rw [if_neg hji]; exact h.none j hj

theorem Sh.start {l : List Int} (hl : l.length ≤ 10) : Sh (made l) (fun _ => 0) := by
  obtain ⟨h1, h2, h3⟩ := made_inv l hl
  refine ⟨?_, ?_, fun _ _ => rfl⟩
  · intro x hx i hi
    have key : ∀ (l : List Int) (a : Ab), a.T = 0 → (∀ x ∈ a.S, ∀ i : Nat, x.2.1 = (i : Int) → i < a.P.length ∧ x.1 = pace a.P i) → (l.foldl push a).T = 0 ∧ (∀ x ∈ (l.foldl push a).S, ∀ i : Nat, x.2.1 = (i : Int) → i < (l.foldl push a).P.length ∧ x.1 = pace (l.foldl push a).P i) := by
      intro l
      induction l with
      | nil => exact fun a h0 h => ⟨h0, h⟩
      | cons p l ih =>
        intro a h0 h
        rw [List.foldl_cons]
        refine ih (push a p) ((await_T _ _).trans h0) ?_
        intro x hx i hi
        have hP : (push a p).P = a.P ++ [bnd p] := await_P _ _
        rw [hP]
        have old : x ∈ a.S → i < (a.P ++ [bnd p]).length ∧ x.1 = pace (a.P ++ [bnd p]) i := fun hx => by
          obtain ⟨k1, k2⟩ := h x hx i hi
          exact ⟨by rw [List.length_append]; omega, by rw [pace_push _ _ k1]; exact k2⟩
        unfold push await at hx
        split at hx
        · rcases List.mem_cons.1 ((ins_perm _ a.S).mem_iff.1 hx) with rfl | hx
          · obtain rfl : a.P.length = i := by have : (a.P.length : Int) = (i : Int) := hi; omega
            refine ⟨by simp, ?_⟩
            show a.T + _ = _
            rw [h0, Int.zero_add]
            rfl
          · exact old hx
        · exact old hx
    have := (key l ab0 rfl (by simp [ab0])).2 x hx i hi
    show x.1 = _ * ((0 : Nat) + 1 : Int)
    simpa [made] using this.2
  · intro i _
    rw [h3]
    simp

/-- SHARE, at the end. -/
theorem Sh.ends {k : Int} {a : Ab} {had : Nat → Nat} (h : Sh a had) (hI : Inv k a.P.length a) {i : Nat} (hi : i < a.P.length) (hp : 0 < pace a.P i) : (had i : Int) ≤ a.T.tdiv (pace a.P i) ∧ (a.T - 1).tdiv (pace a.P i) ≤ (had i : Int) := by
  obtain ⟨x, hx, e⟩ := hI.all i hi (by omega) hp
  obtain ⟨j, k1, _, _, k4, _⟩ := hI.item x hx
  have hx1 := h.item x hx i e
  have hlo := h.low i hi
  have ht0 := hI.t0
  generalize pace a.P i = p at *
  generalize a.T = T at *
  rw [Int.tdiv_eq_ediv_of_nonneg ht0]
  refine ⟨(Int.le_ediv_iff_mul_le hp).2 (by rw [Int.mul_comm]; exact hlo), ?_⟩
  by_cases hT : T = 0
  · subst hT
    have : ((0 : Int) - 1).tdiv p ≤ 0 := by
      rw [show (0 : Int) - 1 = -1 by omega, Int.neg_tdiv]
      have : 0 ≤ (1 : Int).tdiv p := Int.tdiv_nonneg (by omega) (by omega)
      omega
    omega
  · rw [Int.tdiv_eq_ediv_of_nonneg (by omega)]
    refine Int.le_of_lt_add_one ((Int.ediv_lt_iff_lt_mul hp).2 ?_)
    rw [Int.mul_comm]
    omega

/-- Who was set: its next turn, until it comes. -/
structure St (a : Ab) (i : Nat) (q u : Int) : Prop where
  here : i < a.P.length
  pace : sch.pace a.P i = q
  due : 0 < q → ∃ x ∈ a.S, x.2.1 = (i : Int) ∧ x.1 = u

theorem St.start {k : Int} {a : Ab} {i : Nat} (p : Int) (h : Inv k a.P.length a) (hi : i < a.P.length) : St (setP a i p) i (bnd p) (a.T + bnd p) := by
  obtain ⟨h1, h2, h3⟩ := h.setP p hi
  have hp : sch.pace (setP a i p).P i = bnd p := by rw [h2, pace_set _ _ _ hi]
  have hp2 : sch.pace (dropped a i p).P i = bnd p := pace_set _ _ _ hi
  refine ⟨by rw [h2, List.length_set]; exact hi, hp, fun h0 => ?_⟩
  unfold setP await
  rw [hp2, if_pos h0]
  exact ⟨_, (ins_perm _ _).mem_iff.2 (List.mem_cons_self ..), rfl, rfl⟩

theorem St.first {k : Int} {a : Ab} {i j : Nat} {q u : Int} {x : Th} {t : List Th} (h : St a i q u) (hI : Inv k a.P.length a) (e : a.S = x :: t) (hj : x.2.1 = (j : Int)) (hp : 0 < sch.pace a.P j) :
    (j = i → 0 < q ∧ x.1 = u) ∧ (j ≠ i → (0 < q → x.1 ≤ u) ∧ St (next a x t j) i q u) := by
  have hone := hI.one
  have hs := hI.sorted
  rw [e] at hs hone
  rw [List.map_cons, List.nodup_cons] at hone
  refine ⟨fun e2 => ?_, fun hne => ?_⟩
  · subst e2
    have hq : 0 < q := by rw [← h.pace]; exact hp
    obtain ⟨y, hy, y1, y2⟩ := h.due hq
    rw [e] at hy
    rcases List.mem_cons.1 hy with rfl | hy
    · exact ⟨hq, y2⟩
    · exact absurd (List.mem_map.2 ⟨y, hy, y1.trans hj.symm⟩) hone.1
  · have key : 0 < q → ∃ y ∈ t, y.2.1 = (i : Int) ∧ y.1 = u := fun hq => by
      obtain ⟨y, hy, y1, y2⟩ := h.due hq
      rw [e] at hy
      rcases List.mem_cons.1 hy with rfl | hy
      · exact absurd (by have := hj.symm.trans y1; omega) hne
      · exact ⟨y, hy, y1, y2⟩
    refine ⟨fun hq => ?_, ?_⟩
    · obtain ⟨y, hy, _, y2⟩ := key hq
      rw [← y2]
      exact lt_le ((List.pairwise_cons.1 hs).1 y hy)
    · refine ⟨by rw [show (sch.next a x t j).P = a.P from await_P _ _]; exact h.here, by rw [show (sch.next a x t j).P = a.P from await_P _ _]; exact h.pace, fun hq => ?_⟩
      obtain ⟨y, hy, y1, y2⟩ := key hq
      refine ⟨y, ?_, y1, y2⟩
      unfold sch.next await
      split
      · exact (ins_perm _ _).mem_iff.2 (List.mem_cons_of_mem _ hy)
      · exact hy

theorem St.empty {k : Int} {a : Ab} {i : Nat} {q u : Int} (h : St a i q u) (hI : Inv k a.P.length a) (e : a.S = []) : q = 0 := by
  have h1 := (hI.pace _ (pace_mem h.here)).1
  rw [h.pace] at h1
  rcases Int.lt_or_eq_of_le h1 with h2 | h2
  · obtain ⟨x, hx, _⟩ := h.due h2
    rw [e] at hx; cases hx
  · exact h2.symm
end Go.Proofs.Ytjfilakhahnpeaa.sch
