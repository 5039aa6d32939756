/- sched: the mathematics of schedules: paces, the tick, who is due. -/
import Derived.Test.YtbpnbnbglfiglaaRankM
namespace Go.Proofs.Ytbpnbnbglfiglaa.sch
open Go Go.RowKit

/-- A pace as it counts. -/
def bnd (p : Int) : Int := if p < 0 then 0 else if 1048576 < p then 1048576 else p
theorem bnd_range (p : Int) : 0 ≤ bnd p ∧ bnd p ≤ 1048576 := by unfold bnd; split <;> (try split) <;> omega

/-- A schedule: paces, the tick, who is due in its order, how many ever were. -/
structure Ab where
  P : List Int
  T : Int
  S : List Th
  n : Int

def pace (P : List Int) (i : Nat) : Int := P.getD i 0
theorem pace_get {P : List Int} {i : Nat} {p : Int} (h : P[i]? = some p) : pace P i = p := by unfold pace; rw [List.getD_eq_getElem?_getD, h]; rfl
theorem pace_some {P : List Int} {i : Nat} (h : i < P.length) : P[i]? = some (pace P i) := by
  unfold pace; rw [List.getD_eq_getElem?_getD, List.getElem?_eq_getElem h]; rfl
theorem pace_mem {P : List Int} {i : Nat} (h : i < P.length) : pace P i ∈ P := List.mem_of_getElem? (pace_some h)
theorem pace_push (P : List Int) (p : Int) {i : Nat} (h : i < P.length) : pace (P ++ [p]) i = pace P i := by
  unfold pace; rw [List.getD_eq_getElem?_getD, List.getD_eq_getElem?_getD, List.getElem?_append_left h]
theorem pace_last (P : List Int) (p : Int) : pace (P ++ [p]) P.length = p := pace_get (by simp)
theorem pace_set (P : List Int) (i : Nat) (p : Int) (h : i < P.length) : pace (P.set i p) i = p := pace_get (by simp [h])
theorem pace_other (P : List Int) (i j : Nat) (p : Int) (h : j ≠ i) : pace (P.set i p) j = pace P j := by
  unfold pace; rw [List.getD_eq_getElem?_getD, List.getD_eq_getElem?_getD, List.getElem?_set_ne (fun e => h e.symm)]

def await (a : Ab) (i : Nat) : Ab := if 0 < pace a.P i then { a with S := ins (a.T + pace a.P i, (i : Int), a.n) a.S, n := a.n + 1 } else a
def took (a : Ab) (x : Th) (t : List Th) : Ab := { a with S := t, T := x.1 }
def next (a : Ab) (x : Th) (t : List Th) (i : Nat) : Ab := await (took a x t) i
def dropped (a : Ab) (i : Nat) (p : Int) : Ab := { a with S := keep (i : Int) a.S, P := a.P.set i (bnd p) }
def setP (a : Ab) (i : Nat) (p : Int) : Ab := await (dropped a i p) i
def pushed (a : Ab) (p : Int) : Ab := { a with P := a.P ++ [bnd p] }
def push (a : Ab) (p : Int) : Ab := await (pushed a p) a.P.length

theorem await_P (a : Ab) (i : Nat) : (await a i).P = a.P := by unfold await; split <;> rfl
theorem await_T (a : Ab) (i : Nat) : (await a i).T = a.T := by unfold await; split <;> rfl

/-- What is always so, but that process d isn't due (none: all processes are that may be). -/
structure Inv (k : Int) (d : Nat) (a : Ab) : Prop where
  pace : ∀ p ∈ a.P, 0 ≤ p ∧ p ≤ 1048576
  few : a.P.length ≤ 10
  t0 : 0 ≤ a.T
  tk : a.T ≤ k * 1048576
  n0 : 0 ≤ a.n
  nk : a.n ≤ k
  small : (a.S.length : Int) ≤ k
  item : ∀ x ∈ a.S, ∃ i : Nat, x.2.1 = (i : Int) ∧ i < a.P.length ∧ i ≠ d ∧ a.T ≤ x.1 ∧ x.1 ≤ a.T + sch.pace a.P i ∧ 0 < sch.pace a.P i
  one : (a.S.map (fun x => x.2.1)).Nodup
  all : ∀ i : Nat, i < a.P.length → i ≠ d → 0 < sch.pace a.P i → ∃ x ∈ a.S, x.2.1 = (i : Int)
  sorted : a.S.Pairwise lt
  nums : ∀ x ∈ a.S, x.2.2 < a.n

def ab0 : Ab := ⟨[], 0, [], 0⟩
theorem inv0 : Inv 0 0 ab0 := ⟨by simp [ab0], by simp [ab0], by simp [ab0], by simp [ab0], by simp [ab0], by simp [ab0], by simp [ab0], by simp [ab0], by simp [ab0], by simp [ab0], by simp [ab0], by simp [ab0]⟩

theorem Inv.more {k k' : Int} {d : Nat} {a : Ab} (h : Inv k d a) (hk : k ≤ k') : Inv k' d a :=
  ⟨h.pace, h.few, h.t0, by have := h.tk; omega, h.n0, by have := h.nk; omega, by have := h.small; omega, h.item, h.one, h.all, h.sorted, h.nums⟩

theorem Inv.await {k : Int} {i : Nat} {a : Ab} (h : Inv k i a) (hi : i < a.P.length) : Inv (k + 1) a.P.length (sch.await a i) := by
  have hk := h.tk
  have hp := h.pace _ (pace_mem hi)
  unfold sch.await
  by_cases h0 : 0 < sch.pace a.P i
  · rw [if_pos h0]
    refine ⟨h.pace, h.few, h.t0, by show a.T ≤ _; omega, by show 0 ≤ a.n + 1; have := h.n0; omega, by show a.n + 1 ≤ _; have := h.nk; omega, ?_, ?_, ?_, ?_, ?_, ?_⟩
    · show ((ins _ a.S).length : Int) ≤ _
      rw [(ins_perm _ _).length_eq, List.length_cons]
      have := h.small
      omega
    · intro x hx
      rcases List.mem_cons.1 ((ins_perm _ a.S).mem_iff.1 hx) with rfl | hx
      · exact ⟨i, rfl, hi, by omega, by show a.T ≤ a.T + _; omega, Int.le_refl _, h0⟩
      · obtain ⟨j, h1, h2, h3, h4⟩ := h.item x hx
        exact ⟨j, h1, h2, by omega, h4⟩
    · show ((ins _ a.S).map _).Nodup
      have hp2 := ((ins_perm (a.T + sch.pace a.P i, (i : Int), a.n) a.S).map (fun x => x.2.1))
      rw [hp2.nodup_iff, List.map_cons, List.nodup_cons]
      refine ⟨fun hm => ?_, h.one⟩
      obtain ⟨x, hx, e⟩ := List.mem_map.1 hm
      obtain ⟨j, h1, h2, h3, _⟩ := h.item x hx
      have : (j : Int) = (i : Int) := h1.symm.trans e
      omega
    · intro j hj _ hpj
      by_cases e : j = i
      · subst e; exact ⟨_, (ins_perm _ a.S).mem_iff.2 (List.mem_cons_self ..), rfl⟩
      · obtain ⟨x, hx, e2⟩ := h.all j hj e hpj
        exact ⟨x, (ins_perm _ a.S).mem_iff.2 (List.mem_cons_of_mem _ hx), e2⟩
    · exact ins_sorted h.sorted h.nums
    · intro x hx
      show _ < a.n + 1
      rcases List.mem_cons.1 ((ins_perm _ a.S).mem_iff.1 hx) with rfl | hx
      · show a.n < a.n + 1; omega
      · have := h.nums x hx; omega
  · rw [if_neg h0]
    refine ⟨h.pace, h.few, h.t0, by omega, h.n0, by have := h.nk; omega, by have := h.small; omega, ?_, h.one, ?_, h.sorted, h.nums⟩
    · intro x hx
      obtain ⟨j, h1, h2, h3, h4⟩ := h.item x hx
      exact ⟨j, h1, h2, by omega, h4⟩
    · intro j hj _ hpj
      by_cases e : j = i
      · subst e; exact absurd hpj h0
      · exact h.all j hj e hpj

theorem lt_le {a b : Th} (h : lt a b) : a.1 ≤ b.1 := by unfold lt at h; omega

theorem Inv.took {k : Int} {a : Ab} {x : Th} {t : List Th} (h : Inv k a.P.length a) (e : a.S = x :: t) : ∃ i : Nat, x.2.1 = (i : Int) ∧ i < a.P.length ∧ 0 < sch.pace a.P i ∧ a.T ≤ x.1 ∧ x.1 ≤ a.T + sch.pace a.P i ∧ Inv (k + 1) i (sch.took a x t) := by
  obtain ⟨i, h1, h2, h3, h4, h5, h6⟩ := h.item x (by rw [e]; simp)
  refine ⟨i, h1, h2, h6, h4, h5, ?_⟩
  have hp := h.pace _ (pace_mem h2)
  have hs := h.sorted
  rw [e] at hs
  obtain ⟨hs1, hs2⟩ := List.pairwise_cons.1 hs
  have ho := h.one
  rw [e, List.map_cons, List.nodup_cons] at ho
  have htk := h.tk
  have ht0 := h.t0
  have hsm := h.small
  rw [e, List.length_cons] at hsm
  refine ⟨h.pace, h.few, ?_, ?_, h.n0, ?_, ?_, ?_, ho.2, ?_, hs2, fun y hy => h.nums y (by rw [e]; exact List.mem_cons_of_mem _ hy)⟩
  · show 0 ≤ x.1; omega
  · show x.1 ≤ _; omega
  · show a.n ≤ _; have := h.nk; omega
  · show (t.length : Int) ≤ _; omega
  · intro y hy
    obtain ⟨j, k1, k2, k3, k4, k5, k6⟩ := h.item y (by rw [e]; exact List.mem_cons_of_mem _ hy)
    refine ⟨j, k1, k2, fun e2 => ho.1 (List.mem_map.2 ⟨y, hy, by rw [k1, e2]; exact h1.symm⟩), lt_le (hs1 y hy), ?_, k6⟩
    show y.1 ≤ x.1 + _
    show y.1 ≤ x.1 + sch.pace a.P j
    omega
  · intro j hj hne hp
    obtain ⟨y, hy, e2⟩ := h.all j hj (by have : j < a.P.length := hj; omega) hp
    rw [e] at hy
    rcases List.mem_cons.1 hy with rfl | hy
    · exact absurd (by have := h1.symm.trans e2; omega) hne
    · exact ⟨y, hy, e2⟩

theorem Inv.next {k : Int} {a : Ab} {x : Th} {t : List Th} (h : Inv k a.P.length a) (e : a.S = x :: t) : ∃ i : Nat, x.2.1 = (i : Int) ∧ i < a.P.length ∧ 0 < sch.pace a.P i ∧ a.T ≤ x.1 ∧ x.1 ≤ a.T + sch.pace a.P i ∧ Inv (k + 2) a.P.length (sch.next a x t i) ∧ (sch.next a x t i).P = a.P ∧ (sch.next a x t i).T = x.1 := by
  obtain ⟨i, h1, h2, h3, h4, h5, h6⟩ := h.took e
  refine ⟨i, h1, h2, h3, h4, h5, ?_, await_P _ _, await_T _ _⟩
  have := h6.await (by exact h2)
  rw [show k + 1 + 1 = k + 2 by omega] at this
  exact this

theorem keep_mem {who : Int} {S : List Th} {x : Th} : x ∈ keep who S ↔ x ∈ S ∧ x.2.1 ≠ who := by
  unfold keep; rw [List.mem_filter]; simp

theorem Inv.dropped {k : Int} {a : Ab} {i : Nat} (p : Int) (h : Inv k a.P.length a) : Inv k i (sch.dropped a i p) := by
  have hl : (sch.dropped a i p).P.length = a.P.length := by unfold sch.dropped; simp
  refine ⟨?_, by rw [hl]; exact h.few, h.t0, h.tk, h.n0, h.nk, ?_, ?_, ?_, ?_, ?_, fun x hx => h.nums x (keep_mem.1 hx).1⟩
  · intro q hq
    rcases List.mem_or_eq_of_mem_set hq with hq | rfl
    · exact h.pace q hq
    · exact bnd_range p
  · have : (keep (i : Int) a.S).length ≤ a.S.length := List.length_filter_le _ _
    have h2 := h.small
    show ((keep (i : Int) a.S).length : Int) ≤ _
    omega
  · intro x hx
    obtain ⟨hx1, hx2⟩ := keep_mem.1 hx
    obtain ⟨j, k1, k2, k3, k4, k5, k6⟩ := h.item x hx1
    have hji : j ≠ i := fun e => hx2 (by rw [k1, e])
    refine ⟨j, k1, by rw [hl]; exact k2, hji, k4, ?_, ?_⟩
    · show x.1 ≤ a.T + sch.pace (a.P.set i _) j
      rw [pace_other _ _ _ _ hji]; exact k5
    · show 0 < sch.pace (a.P.set i _) j
      rw [pace_other _ _ _ _ hji]; exact k6
  · exact h.one.sublist (List.filter_sublist.map _)
  · intro j hj hne hp
    rw [hl] at hj
    have hp' : 0 < sch.pace (a.P.set i (bnd p)) j := hp
    rw [pace_other _ _ _ _ hne] at hp'
    obtain ⟨x, hx, e⟩ := h.all j hj (by omega) hp'
    exact ⟨x, keep_mem.2 ⟨hx, by rw [e]; omega⟩, e⟩
  · exact h.sorted.sublist List.filter_sublist

theorem Inv.setP {k : Int} {a : Ab} {i : Nat} (p : Int) (h : Inv k a.P.length a) (hi : i < a.P.length) : Inv (k + 1) a.P.length (sch.setP a i p) ∧ (sch.setP a i p).P = a.P.set i (bnd p) ∧ (sch.setP a i p).T = a.T := by
  have hl : (sch.dropped a i p).P.length = a.P.length := by unfold sch.dropped; simp
  have := (h.dropped p).await (by rw [hl]; exact hi)
  rw [hl] at this
  exact ⟨this, await_P _ _, await_T _ _⟩

theorem Inv.pushed {k : Int} {a : Ab} (p : Int) (h : Inv k a.P.length a) (hl : a.P.length < 10) : Inv k a.P.length (sch.pushed a p) := by
  have e1 : (sch.pushed a p).P.length = a.P.length + 1 := by unfold sch.pushed; simp
  refine ⟨?_, by rw [e1]; exact hl, h.t0, h.tk, h.n0, h.nk, h.small, ?_, h.one, ?_, h.sorted, h.nums⟩
  · intro q hq
    rcases List.mem_append.1 hq with hq | hq
    · exact h.pace q hq
    · rw [List.mem_singleton.1 hq]; exact bnd_range p
  · intro x hx
    obtain ⟨j, k1, k2, k3, k4, k5, k6⟩ := h.item x hx
    refine ⟨j, k1, by rw [e1]; omega, k3, k4, ?_, ?_⟩
    · show x.1 ≤ a.T + sch.pace (a.P ++ [_]) j
      rw [pace_push _ _ k2]; exact k5
    · show 0 < sch.pace (a.P ++ [_]) j
      rw [pace_push _ _ k2]; exact k6
  · intro j hj hne hp
    rw [e1] at hj
    have hp' : 0 < sch.pace (a.P ++ [bnd p]) j := hp
    rw [pace_push _ _ (by omega)] at hp'
    exact h.all j (by omega) hne hp'

theorem Inv.push {k : Int} {a : Ab} (p : Int) (h : Inv k a.P.length a) (hl : a.P.length < 10) : Inv (k + 1) (sch.push a p).P.length (sch.push a p) ∧ (sch.push a p).P = a.P ++ [bnd p] ∧ (sch.push a p).T = a.T := by
  have e1 : (sch.pushed a p).P.length = a.P.length + 1 := by unfold sch.pushed; simp
  have := (h.pushed p hl).await (by rw [e1]; omega)
  have hP : (sch.push a p).P = a.P ++ [bnd p] := await_P _ _
  refine ⟨?_, hP, await_T _ _⟩
  rw [hP]
  rw [e1] at this
  rw [List.length_append]
  exact this

/-- A schedule made of paces. -/
def made (l : List Int) : Ab := l.foldl push ab0
theorem made_snoc (l : List Int) (p : Int) : made (l ++ [p]) = push (made l) p := by unfold made; rw [List.foldl_append]; rfl
theorem made_from : ∀ (l : List Int) (a : Ab) (k : Int), Inv k a.P.length a → a.P.length + l.length ≤ 10 → Inv (k + l.length) (l.foldl push a).P.length (l.foldl push a) ∧ (l.foldl push a).P = a.P ++ l.map bnd ∧ (l.foldl push a).T = a.T
  | [], a, k, h, _ => by simpa using h
  | p :: l, a, k, h, hl => by
    rw [List.length_cons] at hl
    obtain ⟨k1, k2, k3⟩ := h.push p (by omega)
    obtain ⟨j1, j2, j3⟩ := made_from l (push a p) (k + 1) k1 (by rw [k2, List.length_append, List.length_singleton]; omega)
    rw [List.foldl_cons]
    refine ⟨?_, by rw [j2, k2]; simp, j3.trans k3⟩
    rw [List.length_cons, show k + ((l.length + 1 : Nat) : Int) = k + 1 + (l.length : Int) by omega]
    exact j1
theorem made_inv (l : List Int) (h : l.length ≤ 10) : Inv l.length (made l).P.length (made l) ∧ (made l).P = l.map bnd ∧ (made l).T = 0 := by
  have := made_from l ab0 0 inv0 (by simpa [ab0] using h)
  simpa [made, ab0] using this
end Go.Proofs.Ytbpnbnbglfiglaa.sch
