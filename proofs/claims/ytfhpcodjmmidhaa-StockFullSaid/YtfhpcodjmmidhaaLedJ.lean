/- ledger: an op that was done is taken back by its inverse (no program's walk). -/
import Derived.Test.YtfhpcodjmmidhaaLedI
namespace Go.Proofs.Ytfhpcodjmmidhaa
open Go.RowKit Go.Maps Go.Sort

section
variable {H : Type}

/-- What every book keeps. -/
structure InvB (D : DataW H) : Prop where
  tidy : Tidy D
  size : Maps.size D ≤ 17
  lo : ∀ s : ByteArray, s ≠ .empty → 0 ≤ amt D s
  hi : ∀ s : ByteArray, s ≠ .empty → amt D s ≤ 1099511627776

/-- The inverse's parts. -/
def invK (k : Int) : Int := if k = 1 then 2 else if k = 2 then 1 else 3
def invS (k : Int) (s t : ByteArray) : ByteArray := if k = 3 then t else s
def invT (k : Int) (s : ByteArray) : ByteArray := if k = 3 then s else ⟨#[]⟩
def invN (k n : Int) : Int := if k = 3 then n else 0

theorem amt_absent {D : DataW H} {s : ByteArray} (h : isIn D s = false) : amt D s = 0 := amt_of (atKey_of_not_has h _)

theorem chk_open {k n : Int} {s t : ByteArray} (hk : k = 1 ∨ k = 2) (h : chkL k s t n = 0) : ¬ s.toList = [] ∧ s.size ≤ 12 := by
  unfold chkL at h
  rw [if_pos hk] at h
  split at h
  · rename_i h1; exact ⟨h1.1, h1.2.2.2.1⟩
  · omega

theorem chk_move {n : Int} {s t : ByteArray} (h : chkL 3 s t n = 0) : ¬ s.toList = t.toList ∧ 1 ≤ n ∧ n ≤ 1099511627776 ∧ s.size ≤ 12 ∧ t.size ≤ 12 := by
  unfold chkL at h
  rw [if_neg (by decide), if_pos rfl] at h
  split at h
  · assumption
  · omega

theorem size_nil0 : (⟨#[]⟩ : ByteArray).size = 0 := rfl
theorem list_nil0 : (⟨#[]⟩ : ByteArray).toList = [] := by rw [ByteArray.toList_eq]

theorem chk_back {k n : Int} {s t : ByteArray} (h : chkL k s t n = 0) : chkL (invK k) (invS k s t) (invT k s) (invN k n) = 0 := by
  rcases chk_kind h with rfl | rfl | ⟨rfl, _, _⟩
  · obtain ⟨h1, h2⟩ := chk_open (.inl rfl) h
    show chkL 2 s ⟨#[]⟩ 0 = 0
    unfold chkL
    rw [if_pos (.inr rfl), if_pos ⟨h1, list_nil0, rfl, h2, by rw [size_nil0]; omega⟩]
  · obtain ⟨h1, h2⟩ := chk_open (.inr rfl) h
    show chkL 1 s ⟨#[]⟩ 0 = 0
    unfold chkL
    rw [if_pos (.inl rfl), if_pos ⟨h1, list_nil0, rfl, h2, by rw [size_nil0]; omega⟩]
  · obtain ⟨h1, h2, h3, h4, h5⟩ := chk_move h
    show chkL 3 t s n = 0
    unfold chkL
    rw [if_neg (by decide), if_pos rfl, if_pos ⟨fun e => h1 e.symm, h2, h3, h5, h4⟩]

/-- What was done is taken back. -/
theorem do_back {D : DataW H} (I : InvB D) {k n : Int} {s t : ByteArray} (h : (doL D k s t n).2 = 0) :
    (doL (doL D k s t n).1 (invK k) (invS k s t) (invT k s) (invN k n)).2 = 0 ∧
      ∀ x, isIn (doL (doL D k s t n).1 (invK k) (invS k s t) (invT k s) (invN k n)).1 x = isIn D x ∧ amt (doL (doL D k s t n).1 (invK k) (invS k s t) (invT k s) (invN k n)).1 x = amt D x := by
  have hm := I.tidy.isMap
  by_cases hc : chkL k s t n = 0
  · have hc2 := chk_back hc
    have e1 : doL D k s t n = if k = 1 then opn D s else if k = 2 then cls D s else mov D s t n := by unfold doL; rw [if_neg (by simpa using hc)]
    have e2 : ∀ D' : DataW H, doL D' (invK k) (invS k s t) (invT k s) (invN k n) = if invK k = 1 then opn D' (invS k s t) else if invK k = 2 then cls D' (invS k s t) else mov D' (invS k s t) (invT k s) (invN k n) := fun D' => by
      unfold doL; rw [if_neg (by simpa using hc2)]
    rw [e2]
    rw [e1] at h ⊢
    rcases chk_kind hc with rfl | rfl | ⟨rfl, _, _⟩
    · simp only [if_pos] at h ⊢
      have e3 : invK 1 = 2 := rfl
      have e4 : invS 1 s t = s := rfl
      rw [e3, e4, if_neg (by decide), if_pos rfl]
      unfold opn at h ⊢
      cases hi : isIn D s
      · rw [hi, if_neg (by simp)] at h
        rw [if_neg (by simp)]
        by_cases hs : 16 < Maps.size D
        · rw [if_pos hs] at h; simp at h
        · rw [if_neg hs]
          have a1 : isIn (D.put (kS s) (nI 0)) s = true := by rw [isIn_put hm, if_pos rfl]
          have a2 : amt (D.put (kS s) (nI 0)) s = 0 := by rw [amt_put hm, if_pos rfl]
          unfold cls
          simp only [a1, a2]
          simp
          intro x
          rw [isIn_del, amt_del, isIn_put hm, amt_put hm]
          by_cases hx : x = s
          · subst hx; simp [hi, amt_absent hi]
          · simp [hx]
      · rw [hi, if_pos rfl] at h; simp at h
    · simp only [if_neg (show ¬ (2 : Int) = 1 by decide), if_pos] at h ⊢
      have e3 : invK 2 = 1 := rfl
      have e4 : invS 2 s t = s := rfl
      rw [e3, e4, if_pos rfl]
      unfold cls at h ⊢
      cases hi : isIn D s
      · rw [hi, if_pos rfl] at h; simp at h
      · rw [hi, if_neg (by simp)] at h
        rw [if_neg (by simp)]
        by_cases ha : amt D s = 0
        · rw [if_neg (by simpa using ha)]
          have a1 : isIn (D.del (kS s)) s = false := by rw [isIn_del, if_pos rfl]
          have a3 := size_del (k := kS s) I.tidy
          have a4 : has D (kS s) = true := hi
          rw [a4] at a3
          have a5 : ¬ 16 < Maps.size (D.del (kS s)) := by have := I.size; simp at a3; omega
          have hm2 : IsMap (D.del (kS s)) := hm.del _
          unfold opn
          simp only [a1, if_neg a5]
          simp
          intro x
          rw [isIn_put hm2, amt_put hm2, isIn_del, amt_del]
          by_cases hx : x = s
          · subst hx; simp [hi, ha]
          · simp [hx]
        · rw [if_pos ha] at h; simp at h
    · obtain ⟨hne, hn1, hn2, _, _⟩ := chk_move hc
      have hst : s ≠ t := fun e => hne (by rw [e])
      have q1 : ¬ (3 : Int) = 1 := by decide
      have q2 : ¬ (3 : Int) = 2 := by decide
      have e3 : invK 3 = 3 := rfl
      have e4 : invS 3 s t = t := rfl
      have e5 : invT 3 s = s := rfl
      have e6 : invN 3 n = n := rfl
      simp only [e3, e4, e5, e6, if_neg q1, if_neg q2] at h ⊢
      have hs : isIn D s = true := by
        cases hi : isIn D s
        · unfold mov at h; rw [if_pos hi] at h; simp at h
        · rfl
      have ht : isIn D t = true := by
        cases hi : isIn D t
        · unfold mov at h; rw [if_neg (by rw [hs]; simp), if_pos hi] at h; simp at h
        · rfl
      have u1 : ¬ (isIn D s = false) := by rw [hs]; simp
      have u2 : ¬ (isIn D t = false) := by rw [ht]; simp
      have em : mov D s t n = ((D.put (kS s) (nI (amt D s - n))).put (kS t) (nI (amt D t + n)), 0) := by
        unfold mov at h ⊢
        rw [if_neg u1, if_neg u2] at h ⊢
        split at h
        · simp at h
        · rename_i v1
          rw [if_neg v1]
          split at h
          · simp at h
          · rename_i v2
            rw [if_neg v2]
      rw [em]
      show (mov ((D.put (kS s) (nI (amt D s - n))).put (kS t) (nI (amt D t + n))) t s n).2 = 0 ∧ _
      have hm2 : IsMap (D.put (kS s) (nI (amt D s - n))) := hm.put _ _
      have hm3 : IsMap ((D.put (kS s) (nI (amt D s - n))).put (kS t) (nI (amt D t + n))) := hm2.put _ _
      have b1 : isIn ((D.put (kS s) (nI (amt D s - n))).put (kS t) (nI (amt D t + n))) t = true := by rw [isIn_put hm2, if_pos rfl]
      have b2 : isIn ((D.put (kS s) (nI (amt D s - n))).put (kS t) (nI (amt D t + n))) s = true := by rw [isIn_put hm2, if_neg hst, isIn_put hm, if_pos rfl]
      have b3 : amt ((D.put (kS s) (nI (amt D s - n))).put (kS t) (nI (amt D t + n))) t = amt D t + n := by rw [amt_put hm2, if_pos rfl]
      have b4 : amt ((D.put (kS s) (nI (amt D s - n))).put (kS t) (nI (amt D t + n))) s = amt D s - n := by rw [amt_put hm2, if_neg hst, amt_put hm, if_pos rfl]
      have ew : ∀ x, isIn ((D.put (kS s) (nI (amt D s - n))).put (kS t) (nI (amt D t + n))) x = isIn D x := fun x => by
        rw [isIn_put hm2, isIn_put hm]
        by_cases hx : x = t
        · rw [if_pos hx, hx, ht]
        · rw [if_neg hx]
          by_cases hy : x = s
          · rw [if_pos hy, hy, hs]
          · rw [if_neg hy]
      have ea : ∀ x, amt ((D.put (kS s) (nI (amt D s - n))).put (kS t) (nI (amt D t + n))) x = if x = t then amt D t + n else if x = s then amt D s - n else amt D x := fun x => by rw [amt_put hm2, amt_put hm]
      generalize (D.put (kS s) (nI (amt D s - n))).put (kS t) (nI (amt D t + n)) = D3 at *
      unfold mov
      rw [if_neg (by rw [b1]; simp), if_neg (by rw [b2]; simp), if_neg (fun hv => by have := I.lo t hv.1; have := hv.2; rw [b3] at this; omega), if_neg (fun hv => by have := I.hi s hv.1; have := hv.2; rw [b4] at this; omega)]
      refine ⟨rfl, fun x => ?_⟩
      have hm4 : IsMap (D3.put (kS t) (nI (amt D3 t - n))) := hm3.put _ _
      show isIn ((D3.put (kS t) (nI (amt D3 t - n))).put (kS s) (nI (amt D3 s + n))) x = _ ∧ amt ((D3.put (kS t) (nI (amt D3 t - n))).put (kS s) (nI (amt D3 s + n))) x = _
      rw [isIn_put hm4, isIn_put hm3, amt_put hm4, amt_put hm3, b3, b4, ew, ea]
      by_cases hx : x = s
      · subst hx; rw [if_pos rfl, if_pos rfl, hs]; exact ⟨rfl, by omega⟩
      · rw [if_neg hx, if_neg hx]
        by_cases hy : x = t
        · subst hy; rw [if_pos rfl, if_pos rfl, ht]; exact ⟨rfl, by omega⟩
        · simp [hy, hx]
  · have e1 : doL D k s t n = (D, chkL k s t n) := by unfold doL; rw [if_pos hc]
    rw [e1] at h
    exact absurd h hc

end
end Go.Proofs.Ytfhpcodjmmidhaa
