/- ledger: when an op is done, and what it does to each name (no program's walk). -/
import Derived.Test.YtfhpcodjmmidhaaLedM
namespace Go.Proofs.Ytfhpcodjmmidhaa
open Go.RowKit Go.Maps Go.Sort

section
variable {H : Type}

/-- When an op is done. -/
structure okL (D : DataW H) (k : Int) (s t : ByteArray) (n : Int) : Prop where
  chk : chkL k s t n = 0
  one : k = 1 → isIn D s = false ∧ Maps.size D ≤ 16
  two : k = 2 → isIn D s = true ∧ amt D s = 0
  three : k = 3 → isIn D s = true ∧ isIn D t = true ∧ (s ≠ .empty → n ≤ amt D s) ∧ (t ≠ .empty → amt D t + n ≤ 1099511627776)

theorem opn_ok {D : DataW H} {s : ByteArray} : (opn D s).2 = 0 ↔ isIn D s = false ∧ Maps.size D ≤ 16 := by
  unfold opn
  cases h : isIn D s
  · by_cases h2 : 16 < Maps.size D
    · simp [h2]
    · simp [h2]; omega
  · simp
theorem opn_is {D : DataW H} {s : ByteArray} (h : (opn D s).2 = 0) : (opn D s).1 = D.put (kS s) (nI 0) := by
  obtain ⟨h1, h2⟩ := opn_ok.1 h
  unfold opn
  rw [if_neg (by rw [h1]; simp), if_neg (by omega)]
theorem cls_ok {D : DataW H} {s : ByteArray} : (cls D s).2 = 0 ↔ isIn D s = true ∧ amt D s = 0 := by
  unfold cls
  cases h : isIn D s
  · simp
  · by_cases h2 : amt D s = 0
    · simp [h2]
    · simp [h2]
theorem cls_is {D : DataW H} {s : ByteArray} (h : (cls D s).2 = 0) : (cls D s).1 = D.del (kS s) := by
  obtain ⟨h1, h2⟩ := cls_ok.1 h
  unfold cls
  rw [if_neg (by rw [h1]; simp), if_neg (by simpa using h2)]
theorem mov_ok {D : DataW H} {s t : ByteArray} {n : Int} : (mov D s t n).2 = 0 ↔ isIn D s = true ∧ isIn D t = true ∧ (s ≠ .empty → n ≤ amt D s) ∧ (t ≠ .empty → amt D t + n ≤ 1099511627776) := by
  unfold mov
  cases h1 : isIn D s
  · simp
  · cases h2 : isIn D t
    · simp
    · rw [if_neg (by simp), if_neg (by simp)]
      by_cases h3 : s ≠ .empty ∧ amt D s < n
      · rw [if_pos h3]
        constructor
        · intro h; simp at h
        · rintro ⟨_, _, h, _⟩
          have := h h3.1
          omega
      · rw [if_neg h3]
        by_cases h4 : t ≠ .empty ∧ 1099511627776 < amt D t + n
        · rw [if_pos h4]
          constructor
          · intro h; simp at h
          · rintro ⟨_, _, _, h⟩
            have := h h4.1
            omega
        · rw [if_neg h4]
          refine ⟨fun _ => ⟨rfl, rfl, fun h => ?_, fun h => ?_⟩, fun _ => rfl⟩
          · exact Int.not_lt.1 (fun k => h3 ⟨h, k⟩)
          · exact Int.not_lt.1 (fun k => h4 ⟨h, k⟩)
theorem mov_is {D : DataW H} {s t : ByteArray} {n : Int} (h : (mov D s t n).2 = 0) : (mov D s t n).1 = (D.put (kS s) (nI (amt D s - n))).put (kS t) (nI (amt D t + n)) := by
  obtain ⟨h1, h2, h3, h4⟩ := mov_ok.1 h
  unfold mov
  rw [if_neg (by rw [h1]; simp), if_neg (by rw [h2]; simp), if_neg (fun e => by have := h3 e.1; omega), if_neg (fun e => by have := h4 e.1; omega)]

theorem do_of {D : DataW H} {k n : Int} {s t : ByteArray} (h : chkL k s t n = 0) : doL D k s t n = if k = 1 then opn D s else if k = 2 then cls D s else mov D s t n := by
  unfold doL; rw [if_neg (by simpa using h)]
theorem do_chk {D : DataW H} {k n : Int} {s t : ByteArray} (h : (doL D k s t n).2 = 0) : chkL k s t n = 0 := by
  by_cases hc : chkL k s t n = 0
  · exact hc
  · unfold doL at h; rw [if_pos hc] at h; exact absurd h hc

theorem do_ok {D : DataW H} {k n : Int} {s t : ByteArray} : (doL D k s t n).2 = 0 ↔ okL D k s t n := by
  constructor
  · intro h
    have hc := do_chk h
    rw [do_of hc] at h
    rcases chk_kind hc with rfl | rfl | ⟨rfl, _, _⟩
    · rw [if_pos rfl] at h
      exact ⟨hc, fun _ => opn_ok.1 h, fun e => by omega, fun e => by omega⟩
    · rw [if_neg (by decide), if_pos rfl] at h
      exact ⟨hc, fun e => by omega, fun _ => cls_ok.1 h, fun e => by omega⟩
    · rw [if_neg (by decide), if_neg (by decide)] at h
      exact ⟨hc, fun e => by omega, fun e => by omega, fun _ => mov_ok.1 h⟩
  · intro h
    rw [do_of h.chk]
    rcases chk_kind h.chk with rfl | rfl | ⟨rfl, _, _⟩
    · rw [if_pos rfl]; exact opn_ok.2 (h.one rfl)
    · rw [if_neg (by decide), if_pos rfl]; exact cls_ok.2 (h.two rfl)
    · rw [if_neg (by decide), if_neg (by decide)]; exact mov_ok.2 (h.three rfl)

/-- What an op adds to a name's amount. -/
def dlt (k : Int) (s t : ByteArray) (n : Int) (x : ByteArray) : Int := if k = 3 then (if x = t then n else 0) - (if x = s then n else 0) else 0
/-- Which names are there behind it. -/
def isInD (k : Int) (s : ByteArray) (b : Bool) (x : ByteArray) : Bool := if k = 1 ∧ x = s then true else if k = 2 ∧ x = s then false else b

theorem do_eff {D : DataW H} (hm : IsMap D) {k n : Int} {s t : ByteArray} (h : (doL D k s t n).2 = 0) (x : ByteArray) :
    isIn (doL D k s t n).1 x = isInD k s (isIn D x) x ∧ amt (doL D k s t n).1 x = amt D x + dlt k s t n x := by
  have hc := do_chk h
  have ho := do_ok.1 h
  rw [do_of hc] at h ⊢
  rcases chk_kind hc with rfl | rfl | ⟨rfl, hn1, hn2⟩
  · rw [if_pos rfl] at h ⊢
    rw [opn_is h, isIn_put hm, amt_put hm]
    unfold isInD dlt
    by_cases hx : x = s
    · subst hx; simp [amt_absent (ho.one rfl).1]
    · simp [hx]
  · rw [if_neg (by decide), if_pos rfl] at h ⊢
    rw [cls_is h, isIn_del, amt_del]
    unfold isInD dlt
    by_cases hx : x = s
    · subst hx; simp [(ho.two rfl).2]
    · simp [hx]
  · rw [if_neg (by decide), if_neg (by decide)] at h ⊢
    have hm2 : IsMap (D.put (kS s) (nI (amt D s - n))) := hm.put _ _
    obtain ⟨h1, h2, _⟩ := ho.three rfl
    have hst : s ≠ t := fun e => (chk_move hc).1 (by rw [e])
    rw [mov_is h, isIn_put hm2, isIn_put hm, amt_put hm2, amt_put hm]
    unfold isInD dlt
    by_cases hx : x = t
    · subst hx
      have : ¬ x = s := fun e => hst e.symm
      simp [this, h2]
    · by_cases hy : x = s
      · subst hy; simp [hx, h1]; omega
      · simp [hx, hy]

theorem do_size {D : DataW H} (ht : Tidy D) {k n : Int} {s t : ByteArray} (h : (doL D k s t n).2 = 0) : Maps.size (doL D k s t n).1 ≤ Maps.size D + 1 := by
  have hc := do_chk h
  have ho := do_ok.1 h
  rw [do_of hc] at h ⊢
  rcases chk_kind hc with rfl | rfl | ⟨rfl, hn1, hn2⟩
  · rw [if_pos rfl] at h ⊢
    rw [opn_is h, size_put ht]
    split <;> omega
  · rw [if_neg (by decide), if_pos rfl] at h ⊢
    rw [cls_is h]
    have := size_del (k := kS s) ht
    omega
  · rw [if_neg (by decide), if_neg (by decide)] at h ⊢
    obtain ⟨h1, h2, _⟩ := ho.three rfl
    rw [mov_is h, size_put (ht.put (kS_key s) _)]
    have : has (D.put (kS s) (nI (amt D s - n))) (kS t) = true := by
      have := isIn_put ht.isMap s t (nI (amt D s - n))
      rw [h2] at this
      unfold isIn at this
      rw [this]; split <;> rfl
    rw [if_pos this, size_put ht]
    split <;> omega

theorem do_good {D : DataW H} (g : Good D) (k n : Int) (s t : ByteArray) : Good (doL D k s t n).1 := by
  unfold doL
  split
  · exact g
  · split
    · unfold opn
      split
      · exact g
      · split
        · exact g
        · exact g.put _ _
    · split
      · unfold cls
        split
        · exact g
        · split
          · exact g
          · exact g.del _
      · unfold mov
        split
        · exact g
        · split
          · exact g
          · split
            · exact g
            · split
              · exact g
              · exact (g.put _ _).put _ _

theorem do_not {D : DataW H} {k n : Int} {s t : ByteArray} (h : ¬ (doL D k s t n).2 = 0) : (doL D k s t n).1 = D := by
  unfold doL at h ⊢
  split at h
  · rename_i h1; rw [if_pos h1]
  · rename_i h1
    rw [if_neg h1]
    split at h
    · rename_i h2
      rw [if_pos h2]
      unfold opn at h ⊢
      split at h <;> rename_i h3
      · rw [if_pos h3]
      · rw [if_neg h3]
        split at h <;> rename_i h4
        · rw [if_pos h4]
        · exact absurd rfl h
    · rename_i h2
      rw [if_neg h2]
      split at h
      · rename_i h3
        rw [if_pos h3]
        unfold cls at h ⊢
        split at h <;> rename_i h4
        · rw [if_pos h4]
        · rw [if_neg h4]
          split at h <;> rename_i h5
          · rw [if_pos h5]
          · exact absurd rfl h
      · rename_i h3
        rw [if_neg h3]
        unfold mov at h ⊢
        split at h <;> rename_i h4
        · rw [if_pos h4]
        · rw [if_neg h4]
          split at h <;> rename_i h5
          · rw [if_pos h5]
          · rw [if_neg h5]
            split at h <;> rename_i h6
            · rw [if_pos h6]
            · rw [if_neg h6]
              split at h <;> rename_i h7
              · rw [if_pos h7]
              · exact absurd rfl h

theorem empty_list {s : ByteArray} (h : ¬ s.toList = []) : s ≠ .empty := fun e => h (emp_iff.1 e)

/-- The invariant stays. -/
theorem invF_do {D : DataW H} (I : InvF D) (k n : Int) (s t : ByteArray) : InvF (doL D k s t n).1 := by
  by_cases h : (doL D k s t n).2 = 0
  · have hc := do_chk h
    have ho := do_ok.1 h
    have hm := I.inv.tidy.isMap
    have he := do_eff hm h
    refine ⟨do_good I.good k n s t, inv_do I.inv k n s t, fun x hx => ?_, ?_, ?_⟩
    · rw [(he x).1] at hx
      unfold isInD at hx
      split at hx
      · rename_i h1
        rw [h1.2]
        exact (chk_open (.inl h1.1) hc).2
      · split at hx
        · cases hx
        · exact I.keys x hx
    · rw [(he _).1]
      unfold isInD
      split
      · rfl
      · split
        · rename_i h1
          exact absurd h1.2.symm (empty_list (chk_open (.inr h1.1) hc).1)
        · exact I.house
    · rw [do_of hc] at h ⊢
      rcases chk_kind hc with rfl | rfl | ⟨rfl, hn1, hn2⟩
      · rw [if_pos rfl] at h ⊢
        rw [opn_is h, sumD_put I.good, amt_absent (ho.one rfl).1, I.sum]
        rfl
      · rw [if_neg (by decide), if_pos rfl] at h ⊢
        rw [cls_is h, sumD_del I.good, (ho.two rfl).2, I.sum]
        rfl
      · rw [if_neg (by decide), if_neg (by decide)] at h ⊢
        have hst : t ≠ s := fun e => (chk_move hc).1 (by rw [e])
        rw [mov_is h, sumD_put (I.good.put _ _), sumD_put I.good, amt_put hm, if_neg hst, I.sum]
        omega
  · rw [do_not h]; exact I

theorem invF_new : InvF (D0 (H := H)) := by
  have hm : IsMap (.map [] : DataW H) := isMap_empty
  refine ⟨good_empty.put _ _, inv_new, fun s hs => ?_, ?_, ?_⟩
  · have : isIn (D0 (H := H)) s = if s = ⟨#[]⟩ then true else isIn (.map []) s := isIn_put hm ⟨#[]⟩ s (nI 0)
    rw [this] at hs
    split at hs
    · rename_i h; rw [h]; exact Nat.zero_le _
    · cases hs
  · have : isIn (D0 (H := H)) .empty = if (.empty : ByteArray) = ⟨#[]⟩ then true else isIn (.map []) .empty := isIn_put hm ⟨#[]⟩ .empty (nI 0)
    rw [this]; exact if_pos rfl
  · show sumD ((DataW.map []).put (kS ⟨#[]⟩) (nI 0)) = 0
    rw [sumD_put good_empty, amt_absent rfl]
    rfl

/-- What is alike stays alike. -/
theorem do_alike {D D' : DataW H} (a : Alike D D') (k n : Int) (s t : ByteArray) :
    ((doL D k s t n).2 = 0 ↔ (doL D' k s t n).2 = 0) ∧ Alike (doL D k s t n).1 (doL D' k s t n).1 := by
  have hiff : (doL D k s t n).2 = 0 ↔ (doL D' k s t n).2 = 0 := by
    rw [do_ok, do_ok]
    constructor
    · intro h
      exact ⟨h.chk, fun e => by rw [← (a.same s).1, ← a.size]; exact h.one e, fun e => by rw [← (a.same s).1, ← (a.same s).2]; exact h.two e, fun e => by
        rw [← (a.same s).1, ← (a.same s).2, ← (a.same t).1, ← (a.same t).2]; exact h.three e⟩
    · intro h
      exact ⟨h.chk, fun e => by rw [(a.same s).1, a.size]; exact h.one e, fun e => by rw [(a.same s).1, (a.same s).2]; exact h.two e, fun e => by
        rw [(a.same s).1, (a.same s).2, (a.same t).1, (a.same t).2]; exact h.three e⟩
  refine ⟨hiff, ?_⟩
  by_cases h : (doL D k s t n).2 = 0
  · refine ⟨do_good a.l _ _ _ _, do_good a.r _ _ _ _, fun x => ?_⟩
    have e1 := do_eff a.l.tidy.isMap h x
    have e2 := do_eff a.r.tidy.isMap (hiff.1 h) x
    rw [e1.1, e1.2, e2.1, e2.2, (a.same x).1, (a.same x).2]
    exact ⟨rfl, rfl⟩
  · rw [do_not h, do_not (fun e => h (hiff.2 e))]; exact a

/-- Of two ops: no account in common but the house. -/
def Apart2 (s t s' t' : ByteArray) : Prop := (s = s' → s = .empty) ∧ (s = t' → s = .empty) ∧ (t = s' → t = .empty) ∧ (t = t' → t = .empty)
theorem Apart2.symm {s t s' t' : ByteArray} (h : Apart2 s t s' t') : Apart2 s' t' s t :=
  ⟨fun e => by rw [e]; exact h.1 e.symm, fun e => by rw [e]; exact h.2.2.1 e.symm, fun e => by rw [e]; exact h.2.1 e.symm, fun e => by rw [e]; exact h.2.2.2 e.symm⟩

/-- Behind an op that touches nothing in common another one may be done that could be done ahead of it. -/
theorem apart_ok {D : DataW H} (I : InvF D) (hz : Maps.size D ≤ 15) {k n k' n' : Int} {s t s' t' : ByteArray} (ha : Apart2 s t s' t') (h : (doL D k s t n).2 = 0) (h' : (doL D k' s' t' n').2 = 0) :
    (doL (doL D k s t n).1 k' s' t' n').2 = 0 := by
  have he := do_eff I.inv.tidy.isMap h
  have hs := do_size I.inv.tidy h
  have ho := do_ok.1 h
  have ho' := do_ok.1 h'
  have k1 : (k = 1 ∨ k = 2) → s ≠ .empty := fun e => empty_list (chk_open e ho.chk).1
  have i1 : ∀ x, (x = s → x = .empty) → isIn (doL D k s t n).1 x = isIn D x := fun x hx => by
    rw [(he x).1]
    unfold isInD
    split
    · rename_i h1; exact absurd (h1.2 ▸ hx h1.2) (k1 (.inl h1.1))
    · split
      · rename_i h1; exact absurd (h1.2 ▸ hx h1.2) (k1 (.inr h1.1))
      · rfl
  have a1 : ∀ x, x ≠ .empty → (x = s → x = .empty) → (x = t → x = .empty) → amt (doL D k s t n).1 x = amt D x := fun x h0 hx hy => by
    rw [(he x).2]
    unfold dlt
    rw [if_neg (fun e => h0 (hy e)), if_neg (fun e => h0 (hx e))]
    split <;> omega
  have b1 : s' = s → s' = .empty := fun e => by rw [e]; exact ha.1 e.symm
  have b2 : s' = t → s' = .empty := fun e => by rw [e]; exact ha.2.2.1 e.symm
  have b3 : t' = s → t' = .empty := fun e => by rw [e]; exact ha.2.1 e.symm
  have b4 : t' = t → t' = .empty := fun e => by rw [e]; exact ha.2.2.2 e.symm
  rw [do_ok]
  refine ⟨ho'.chk, fun e => ?_, fun e => ?_, fun e => ?_⟩
  · rw [i1 s' b1]; exact ⟨(ho'.one e).1, by omega⟩
  · have h0 : s' ≠ .empty := empty_list (chk_open (.inr e) ho'.chk).1
    rw [i1 s' b1, a1 s' h0 b1 b2]; exact ho'.two e
  · obtain ⟨c1, c2, c3, c4⟩ := ho'.three e
    rw [i1 s' b1, i1 t' b3]
    exact ⟨c1, c2, fun h0 => by rw [a1 s' h0 b1 b2]; exact c3 h0, fun h0 => by rw [a1 t' h0 b3 b4]; exact c4 h0⟩

/-- In either order. -/
theorem apart_same {D : DataW H} (I : InvF D) (hz : Maps.size D ≤ 15) {k n k' n' : Int} {s t s' t' : ByteArray} (ha : Apart2 s t s' t') (h : (doL D k s t n).2 = 0) (h' : (doL D k' s' t' n').2 = 0) :
    Alike (doL (doL D k s t n).1 k' s' t' n').1 (doL (doL D k' s' t' n').1 k s t n).1 := by
  have c1 := apart_ok I hz ha h h'
  have c2 := apart_ok I hz ha.symm h' h
  have k1 : (k = 1 ∨ k = 2) → s ≠ .empty := fun e => empty_list (chk_open e (do_chk h)).1
  refine ⟨do_good (do_good I.good _ _ _ _) _ _ _ _, do_good (do_good I.good _ _ _ _) _ _ _ _, fun x => ?_⟩
  have m1 : IsMap (doL D k s t n).1 := (do_good I.good _ _ _ _).tidy.isMap
  have m2 : IsMap (doL D k' s' t' n').1 := (do_good I.good _ _ _ _).tidy.isMap
  rw [(do_eff m1 c1 x).1, (do_eff m1 c1 x).2, (do_eff m2 c2 x).1, (do_eff m2 c2 x).2, (do_eff I.inv.tidy.isMap h x).1, (do_eff I.inv.tidy.isMap h x).2,
    (do_eff I.inv.tidy.isMap h' x).1, (do_eff I.inv.tidy.isMap h' x).2]
  refine ⟨?_, by omega⟩
  have hn : ¬ ((k = 1 ∨ k = 2) ∧ x = s ∧ x = s') := fun e => k1 e.1 (ha.1 (e.2.1.symm.trans e.2.2))
  unfold isInD
  by_cases e1 : x = s
  · by_cases e2 : x = s'
    · have : ¬ (k = 1 ∨ k = 2) := fun e => hn ⟨e, e1, e2⟩
      have q1 : ¬ k = 1 := fun e => this (.inl e)
      have q2 : ¬ k = 2 := fun e => this (.inr e)
      simp [q1, q2]
    · simp [e2]
  · simp [e1]

end
end Go.Proofs.Ytfhpcodjmmidhaa
