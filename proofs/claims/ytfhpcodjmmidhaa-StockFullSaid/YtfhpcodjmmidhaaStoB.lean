/- stock: what every shelf keeps; when an op is done, what it does, what takes it back (no program's walk). -/
import Derived.Test.YtfhpcodjmmidhaaStoA
import Derived.Test.YtfhpcodjmmidhaaLedP
namespace Go.Proofs.Ytfhpcodjmmidhaa.stock
open Go.RowKit Go.Maps Go.Sort

section
variable {H : Type}

/-- What every shelf that is reached keeps. -/
structure InvS (D : DataW H) : Prop where
  good : Good D
  size : Maps.size D ≤ 16
  keys : ∀ s : ByteArray, isIn D s = true → s ≠ .empty ∧ s.size ≤ 12 ∧ 1 ≤ amt D s ∧ amt D s ≤ 1099511627776

theorem InvS.map {D : DataW H} (I : InvS D) : IsMap D := I.good.tidy.isMap
theorem InvS.small {D : DataW H} (I : InvS D) (s : ByteArray) : 0 ≤ amt D s ∧ amt D s ≤ 1099511627776 := by
  cases h : isIn D s
  · rw [amt_absent h]; omega
  · have := I.keys s h; omega
theorem InvS.isIn_iff {D : DataW H} (I : InvS D) (s : ByteArray) : isIn D s = true ↔ 1 ≤ amt D s := by
  constructor
  · intro h; exact (I.keys s h).2.2.1
  · intro h
    cases h2 : isIn D s
    · rw [amt_absent h2] at h; omega
    · rfl
theorem InvS.absent {D : DataW H} (I : InvS D) {s : ByteArray} : isIn D s = false ↔ amt D s = 0 := by
  have h := I.isIn_iff s
  have h2 := (I.small s).1
  constructor
  · intro e; exact amt_absent e
  · intro e
    cases h3 : isIn D s
    · rfl
    · have := h.1 h3; omega

theorem alike_of {D D' : DataW H} (I : InvS D) (I' : InvS D') (h : ∀ s, amt D s = amt D' s) : Alike D D' := by
  refine ⟨I.good, I'.good, fun s => ⟨?_, h s⟩⟩
  have h1 := I.isIn_iff s
  have h2 := I'.isIn_iff s
  rw [h s, ← h2] at h1
  cases e1 : isIn D s <;> cases e2 : isIn D' s
  · rfl
  · rw [e1, e2] at h1; simp at h1
  · rw [e1, e2] at h1; simp at h1
  · rfl
theorem Alike.invS {D D' : DataW H} (h : Alike D D') (I : InvS D') : InvS D :=
  ⟨h.l, by rw [h.size]; exact I.size, fun s hs => by rw [(h.same s).2]; exact I.keys s (by rw [← (h.same s).1]; exact hs)⟩

/-- The error of an op. -/
def chkS (k : Int) (s : ByteArray) (n : Int) : Int :=
  if k = 1 ∨ k = 2 then (if ¬ s.toList = [] ∧ s.size ≤ 12 ∧ 1 ≤ n ∧ n ≤ 1099511627776 then 0 else 4) else 5
/-- An op done: the map, the error. -/
def doS (D : DataW H) (k : Int) (s : ByteArray) (n : Int) : DataW H × Int :=
  if ¬ chkS k s n = 0 then (D, chkS k s n) else if k = 1 then adS D s n else tkS D s n

theorem chkS_ok {k n : Int} {s : ByteArray} (h : chkS k s n = 0) : (k = 1 ∨ k = 2) ∧ ¬ s.toList = [] ∧ s.size ≤ 12 ∧ 1 ≤ n ∧ n ≤ 1099511627776 := by
  unfold chkS at h
  split at h
  · rename_i h1
    split at h
    · rename_i h2; exact ⟨h1, h2⟩
    · omega
  · omega
theorem chkS_of {k n : Int} {s : ByteArray} (h : k = 1 ∨ k = 2) (h1 : s ≠ .empty) (h2 : s.size ≤ 12) (h3 : 1 ≤ n) (h4 : n ≤ 1099511627776) : chkS k s n = 0 := by
  unfold chkS
  rw [if_pos h, if_pos ⟨fun e => h1 (emp_iff.2 e), h2, h3, h4⟩]

/-- When an op is done. -/
structure okS (D : DataW H) (k : Int) (s : ByteArray) (n : Int) : Prop where
  chk : chkS k s n = 0
  one : k = 1 → (amt D s = 0 → Maps.size D < 16) ∧ amt D s + n ≤ 1099511627776
  two : k = 2 → n ≤ amt D s

theorem doS_chk {D : DataW H} {k n : Int} {s : ByteArray} (h : (doS D k s n).2 = 0) : chkS k s n = 0 := by
  by_cases hc : chkS k s n = 0
  · exact hc
  · unfold doS at h; rw [if_pos hc] at h; exact absurd h hc
theorem doS_of {D : DataW H} {k n : Int} {s : ByteArray} (h : chkS k s n = 0) : doS D k s n = if k = 1 then adS D s n else tkS D s n := by
  unfold doS; rw [if_neg (by simpa using h)]

theorem adS_ok {D : DataW H} (I : InvS D) {s : ByteArray} {n : Int} : (adS D s n).2 = 0 ↔ (amt D s = 0 → Maps.size D < 16) ∧ amt D s + n ≤ 1099511627776 := by
  unfold adS
  by_cases h1 : isIn D s = false ∧ 16 ≤ Maps.size D
  · rw [if_pos h1]
    constructor
    · intro h; simp at h
    · rintro ⟨h, _⟩
      have := h (I.absent.1 h1.1)
      omega
  · rw [if_neg h1]
    have h1' : amt D s = 0 → Maps.size D < 16 := fun e => Nat.lt_of_not_le (fun k => h1 ⟨I.absent.2 e, k⟩)
    by_cases h2 : 1099511627776 < amt D s + n
    · rw [if_pos h2]
      constructor
      · intro h; simp at h
      · rintro ⟨_, h⟩; omega
    · rw [if_neg h2]
      exact ⟨fun _ => ⟨h1', by omega⟩, fun _ => rfl⟩
theorem adS_is {D : DataW H} (I : InvS D) {s : ByteArray} {n : Int} (h : (adS D s n).2 = 0) : (adS D s n).1 = D.put (kS s) (nI (amt D s + n)) := by
  obtain ⟨h1, h2⟩ := (adS_ok I).1 h
  unfold adS
  rw [if_neg (fun e => by have := h1 (I.absent.1 e.1); omega), if_neg (by omega)]
theorem tkS_ok {D : DataW H} (I : InvS D) {s : ByteArray} {n : Int} (hn : 1 ≤ n) : (tkS D s n).2 = 0 ↔ n ≤ amt D s := by
  unfold tkS
  cases h1 : isIn D s
  · rw [if_pos rfl]
    have := I.absent.1 h1
    constructor
    · intro h; simp at h
    · intro h; omega
  · rw [if_neg (by simp)]
    by_cases h2 : amt D s < n
    · rw [if_pos h2]
      constructor
      · intro h; simp at h
      · intro h; omega
    · rw [if_neg h2]
      refine ⟨fun _ => by omega, fun _ => ?_⟩
      split <;> rfl
theorem tkS_is {D : DataW H} (I : InvS D) {s : ByteArray} {n : Int} (hn : 1 ≤ n) (h : (tkS D s n).2 = 0) : (tkS D s n).1 = if amt D s = n then D.del (kS s) else D.put (kS s) (nI (amt D s - n)) := by
  have h1 := (tkS_ok I hn).1 h
  have h2 : isIn D s = true := (I.isIn_iff s).2 (by omega)
  unfold tkS
  rw [if_neg (by rw [h2]; simp), if_neg (by omega)]
  split <;> rfl

theorem doS_ok {D : DataW H} (I : InvS D) {k n : Int} {s : ByteArray} : (doS D k s n).2 = 0 ↔ okS D k s n := by
  constructor
  · intro h
    have hc := doS_chk h
    obtain ⟨hk, h0, _, h1, _⟩ := chkS_ok hc
    rw [doS_of hc] at h
    rcases hk with rfl | rfl
    · rw [if_pos rfl] at h
      exact ⟨hc, fun _ => (adS_ok I).1 h, fun e => by omega⟩
    · rw [if_neg (by decide)] at h
      exact ⟨hc, fun e => by omega, fun _ => (tkS_ok I h1).1 h⟩
  · intro h
    obtain ⟨hk, h0, _, h1, _⟩ := chkS_ok h.chk
    rw [doS_of h.chk]
    rcases hk with rfl | rfl
    · rw [if_pos rfl]; exact (adS_ok I).2 (h.one rfl)
    · rw [if_neg (by decide)]; exact (tkS_ok I h1).2 (h.two rfl)

/-- What an op adds to a name's amount. -/
def dltS (k : Int) (s : ByteArray) (n : Int) (x : ByteArray) : Int := if x = s then (if k = 1 then n else -n) else 0

theorem doS_amt {D : DataW H} (I : InvS D) {k n : Int} {s : ByteArray} (h : (doS D k s n).2 = 0) (x : ByteArray) : amt (doS D k s n).1 x = amt D x + dltS k s n x := by
  have hc := doS_chk h
  have ho := (doS_ok I).1 h
  obtain ⟨hk, h0, _, h1, _⟩ := chkS_ok hc
  rw [doS_of hc] at h ⊢
  unfold dltS
  rcases hk with rfl | rfl
  · rw [if_pos rfl] at h ⊢
    rw [adS_is I h, amt_put I.map]
    by_cases hx : x = s
    · subst hx; simp
    · simp [hx]
  · rw [if_neg (by decide)] at h ⊢
    rw [tkS_is I h1 h]
    split
    · rename_i he
      rw [amt_del]
      by_cases hx : x = s
      · subst hx; simp; omega
      · simp [hx]
    · rw [amt_put I.map]
      by_cases hx : x = s
      · subst hx; simp; omega
      · simp [hx]

theorem doS_not {D : DataW H} {k n : Int} {s : ByteArray} (h : ¬ (doS D k s n).2 = 0) : (doS D k s n).1 = D := by
  unfold doS at h ⊢
  split at h
  · rename_i h1; rw [if_pos h1]
  · rename_i h1
    rw [if_neg h1]
    split at h
    · rename_i h2
      rw [if_pos h2]
      unfold adS at h ⊢
      split at h <;> rename_i h3
      · rw [if_pos h3]
      · rw [if_neg h3]
        split at h <;> rename_i h4
        · rw [if_pos h4]
        · exact absurd rfl h
    · rename_i h2
      rw [if_neg h2]
      unfold tkS at h ⊢
      split at h <;> rename_i h3
      · rw [if_pos h3]
      · rw [if_neg h3]
        split at h <;> rename_i h4
        · rw [if_pos h4]
        · rw [if_neg h4]
          split at h <;> exact absurd rfl h

/-- The invariant stays; there is at most one good more. -/
theorem doS_inv {D : DataW H} (I : InvS D) (k n : Int) (s : ByteArray) : InvS (doS D k s n).1 ∧ Maps.size (doS D k s n).1 ≤ Maps.size D + 1 := by
  by_cases h : (doS D k s n).2 = 0
  · have hc := doS_chk h
    have ho := (doS_ok I).1 h
    have ha := doS_amt I h
    obtain ⟨hk, h0, hz, h1, h2⟩ := chkS_ok hc
    have hs0 : s ≠ .empty := empty_list h0
    have hsm := I.small s
    have key : Good (doS D k s n).1 ∧ Maps.size (doS D k s n).1 ≤ 16 ∧ Maps.size (doS D k s n).1 ≤ Maps.size D + 1 ∧ ∀ x, isIn (doS D k s n).1 x = true → x = s ∨ isIn D x = true := by
      have hI := I.size
      rw [doS_of hc] at h ⊢
      rcases hk with rfl | rfl
      · rw [if_pos rfl] at h ⊢
        rw [adS_is I h]
        have hz := (ho.one rfl).1
        refine ⟨I.good.put _ _, ?_, ?_, fun x hx => ?_⟩
        · rw [size_put I.good.tidy]
          split
          · exact hI
          · rename_i hn
            have : amt D s = 0 := I.absent.1 (by show has D (kS s) = false; simpa using hn)
            have := hz this
            omega
        · rw [size_put I.good.tidy]
          split <;> omega
        · rw [isIn_put I.map] at hx
          split at hx
          · exact .inl (by assumption)
          · exact .inr hx
      · rw [if_neg (by decide)] at h ⊢
        rw [tkS_is I h1 h]
        have hin : has D (kS s) = true := (I.isIn_iff s).2 (by have := ho.two rfl; omega)
        split
        · have := size_del (k := kS s) I.good.tidy
          refine ⟨I.good.del _, by omega, by omega, fun x hx => ?_⟩
          rw [isIn_del] at hx
          split at hx
          · cases hx
          · exact .inr hx
        · refine ⟨I.good.put _ _, ?_, ?_, fun x hx => ?_⟩
          · rw [size_put I.good.tidy, if_pos hin]; exact hI
          · rw [size_put I.good.tidy, if_pos hin]; omega
          · rw [isIn_put I.map] at hx
            split at hx
            · exact .inl (by assumption)
            · exact .inr hx
    have pos : ∀ x, isIn (doS D k s n).1 x = true → 1 ≤ amt (doS D k s n).1 x := fun x hx => by
      rw [ha x]
      unfold dltS
      by_cases hxs : x = s
      · subst hxs
        rw [if_pos rfl]
        rcases hk with rfl | rfl
        · rw [if_pos rfl]; omega
        · rw [if_neg (by decide)]
          have h5 := ho.two rfl
          rcases Int.lt_or_eq_of_le h5 with h6 | h6
          · omega
          · exfalso
            rw [doS_of hc, if_neg (by decide)] at h hx
            rw [tkS_is I h1 h, if_pos h6.symm, isIn_del, if_pos rfl] at hx
            cases hx
      · rw [if_neg hxs]
        rcases key.2.2.2 x hx with h6 | h6
        · exact absurd h6 hxs
        · have := I.keys x h6; omega
    refine ⟨⟨key.1, key.2.1, fun x hx => ?_⟩, key.2.2.1⟩
    have hp := pos x hx
    rcases key.2.2.2 x hx with rfl | h6
    · refine ⟨hs0, hz, hp, ?_⟩
      rw [ha x]
      unfold dltS
      rw [if_pos rfl]
      rcases hk with rfl | rfl
      · rw [if_pos rfl]; exact (ho.one rfl).2
      · rw [if_neg (by decide)]; omega
    · have h7 := I.keys x h6
      refine ⟨h7.1, h7.2.1, hp, ?_⟩
      rw [ha x]
      unfold dltS
      by_cases hxs : x = s
      · subst hxs
        rw [if_pos rfl]
        rcases hk with rfl | rfl
        · rw [if_pos rfl]; exact (ho.one rfl).2
        · rw [if_neg (by decide)]; omega
      · rw [if_neg hxs]; omega
  · rw [doS_not h]; exact ⟨I, by omega⟩

theorem invS_new : InvS (.map [] : DataW H) := ⟨good_empty, by show (0 : Nat) ≤ 16; omega, fun s hs => by cases hs⟩

/-- What is alike stays alike. -/
theorem doS_alike {D D' : DataW H} (a : Alike D D') (I' : InvS D') (k n : Int) (s : ByteArray) :
    ((doS D k s n).2 = 0 ↔ (doS D' k s n).2 = 0) ∧ Alike (doS D k s n).1 (doS D' k s n).1 := by
  have I : InvS D := Alike.invS a I'
  have hiff : (doS D k s n).2 = 0 ↔ (doS D' k s n).2 = 0 := by
    rw [doS_ok I, doS_ok I']
    constructor
    · intro h
      exact ⟨h.chk, fun e => by rw [← (a.same s).2, ← a.size]; exact h.one e, fun e => by rw [← (a.same s).2]; exact h.two e⟩
    · intro h
      exact ⟨h.chk, fun e => by rw [(a.same s).2, a.size]; exact h.one e, fun e => by rw [(a.same s).2]; exact h.two e⟩
  refine ⟨hiff, ?_⟩
  by_cases h : (doS D k s n).2 = 0
  · refine alike_of (doS_inv I k n s).1 (doS_inv I' k n s).1 (fun x => ?_)
    rw [doS_amt I h, doS_amt I' (hiff.1 h), (a.same x).2]
  · rw [doS_not h, doS_not (fun e => h (hiff.2 e))]; exact a

/-- What was done is taken back. -/
theorem doS_back {D : DataW H} (I : InvS D) {k n : Int} {s : ByteArray} (h : (doS D k s n).2 = 0) :
    (doS (doS D k s n).1 (3 - k) s n).2 = 0 ∧ Alike (doS (doS D k s n).1 (3 - k) s n).1 D := by
  have I1 := (doS_inv I k n s).1
  have ho := (doS_ok I).1 h
  have ha := doS_amt I h s
  obtain ⟨hk, h0, hz, h1, h2⟩ := chkS_ok ho.chk
  have hsm := I.small s
  have k2 : (doS (doS D k s n).1 (3 - k) s n).2 = 0 := by
    rw [doS_ok I1]
    refine ⟨chkS_of (by omega) (empty_list h0) hz h1 h2, fun e => ?_, fun e => ?_⟩
    · obtain rfl : k = 2 := by omega
      have h3 := ho.two rfl
      rw [ha]
      unfold dltS
      rw [if_pos rfl, if_neg (by decide)]
      refine ⟨fun e2 => ?_, by omega⟩
      have h4 : amt D s = n := by omega
      have h5 : (doS D 2 s n).1 = D.del (kS s) := by
        rw [doS_of ho.chk, if_neg (by decide)] at h ⊢
        rw [tkS_is I h1 h, if_pos h4]
      rw [h5]
      have h6 := size_del (k := kS s) I.good.tidy
      have h7 : has D (kS s) = true := (I.isIn_iff s).2 (by omega)
      rw [h7] at h6
      have := I.size
      simp at h6
      omega
    · obtain rfl : k = 1 := by omega
      rw [ha]
      unfold dltS
      rw [if_pos rfl, if_pos rfl]
      omega
  refine ⟨k2, alike_of (doS_inv I1 _ _ _).1 I (fun x => ?_)⟩
  rw [doS_amt I1 k2, doS_amt I h]
  unfold dltS
  by_cases hx : x = s
  · rw [if_pos hx, if_pos hx]
    rcases hk with rfl | rfl
    · rw [if_pos rfl, if_neg (by decide)]; omega
    · rw [if_neg (by decide), if_pos (by decide)]; omega
  · rw [if_neg hx, if_neg hx]; omega

/-- No name is empty: all are told. -/
theorem names_all {D : DataW H} (I : InvS D) : nb (strKeys D) = strKeys D := by
  unfold nb
  rw [List.filter_eq_self]
  intro x hx
  have h := (I.keys ⟨x.toArray⟩ (by have := (mem_strKeys I.good x).1 hx; unfold isIn kS; simpa using this)).1
  cases x with
  | nil => exact absurd rfl h
  | cons a b => rfl
theorem names_is {D : DataW H} (I : InvS D) : namesD D = (strKeys D).mergeSort leB := by unfold namesD; rw [names_all I]
theorem names_size {D : DataW H} (I : InvS D) : (namesD D).length = Maps.size D := by
  rw [names_is I, List.length_mergeSort, strKeys_len I.good]
theorem piece_lenS {D : DataW H} (I : InvS D) {x : List UInt8} (hx : x ∈ namesD D) : (pieceD D x).length ≤ 34 ∧ x.length ≤ 12 ∧ 1 ≤ amtL D x ∧ amtL D x ≤ 1099511627776 := by
  obtain ⟨h1, h2⟩ := (mem_namesD I.good x).1 hx
  have h3 := I.keys _ h2
  have h4 : x.length ≤ 12 := h3.2.1
  have h7 : amtL D x = amt D ⟨x.toArray⟩ := rfl
  have e1 := enc_len x.length (by omega)
  have e2 := enc_len (amtL D x).toNat (by omega)
  refine ⟨?_, h4, by omega, by omega⟩
  unfold pieceD
  rw [List.length_append, List.length_append]
  omega

end
end Go.Proofs.Ytfhpcodjmmidhaa.stock
