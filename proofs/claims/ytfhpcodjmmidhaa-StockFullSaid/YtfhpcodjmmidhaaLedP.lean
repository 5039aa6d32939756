/- ledger: what was saved is loaded (no program's walk). -/
import Derived.Test.YtfhpcodjmmidhaaLedO
import Derived.Test.YtfhpcodjmmidhaaWireP
namespace Go.Proofs.Ytfhpcodjmmidhaa
open Go.RowKit Go.Maps Go.Sort

section
variable {H : Type}

theorem names_nodup {D : DataW H} (g : Good D) : (namesD D).Nodup :=
  ((List.mergeSort_perm _ _).nodup_iff).2 ((nodup_strKeys g).filter _)

theorem names_lt {D : DataW H} (g : Good D) : (namesD D).Pairwise (· < ·) := by
  have tr : ∀ a b c : List UInt8, leB a b = true → leB b c = true → leB a c = true := fun a b c h1 h2 => by simp only [leB, decide_eq_true_eq] at *; exact List.le_trans h1 h2
  have to : ∀ a b : List UInt8, (leB a b || leB b a) = true := fun a b => by simp only [leB, Bool.or_eq_true, decide_eq_true_eq]; exact List.le_total a b
  have h1 : (namesD D).Pairwise (fun a b => leB a b = true) := List.pairwise_mergeSort tr to _
  refine (h1.and (names_nodup g)).imp (fun {a b} h => ?_)
  obtain ⟨h2, h3⟩ := h
  simp only [leB, decide_eq_true_eq] at h2
  by_cases h : a < b
  · exact h
  · exact absurd (List.le_antisymm h2 (List.not_lt.1 h)) h3

/-- The name ahead of number k. -/
def aheadD (D : DataW H) (k : Nat) : List UInt8 := if k = 0 then [] else (namesD D)[k - 1]?.getD []

theorem ahead_lt {D : DataW H} (g : Good D) (k : Nat) (hk : k < (namesD D).length) : ¬ (namesD D)[k] ≤ aheadD D k := by
  have hm := ((mem_namesD g _).1 (List.getElem_mem hk)).1
  unfold aheadD
  by_cases h : k = 0
  · rw [if_pos h]
    intro h2
    apply hm
    generalize (namesD D)[k] = y at *
    cases y with
    | nil => rfl
    | cons a b => exact absurd (List.nil_lt_cons a b) h2
  · rw [if_neg h, List.getElem?_eq_getElem (by omega)]
    have h1 := List.pairwise_iff_getElem.1 (names_lt g) (k - 1) k (by omega) hk (by omega)
    show ¬ _ ≤ (namesD D)[k - 1]
    exact fun h2 => h2 h1

theorem ahead_next {D : DataW H} (k : Nat) (hk : k < (namesD D).length) : aheadD D (k + 1) = (namesD D)[k] := by
  unfold aheadD
  rw [if_neg (by omega), Nat.add_sub_cancel, List.getElem?_eq_getElem hk]
  rfl

/-- The first k names are in. -/
structure Got (D Dk : DataW H) (k : Nat) : Prop where
  good : Good Dk
  size : Maps.size Dk ≤ k + 1
  isIn : ∀ s : ByteArray, isIn Dk s = true ↔ s = .empty ∨ s.data.toList ∈ (namesD D).take k
  amt : ∀ s : ByteArray, amt Dk s = if s = .empty then - sumL D ((namesD D).take k) else if s.data.toList ∈ (namesD D).take k then amt D s else 0

theorem got_new (D : DataW H) : Got D D0 0 := by
  have hm : IsMap (.map [] : DataW H) := isMap_empty
  refine ⟨good_empty.put _ _, ?_, fun s => ?_, fun s => ?_⟩
  · show Maps.size ((DataW.map []).put (kS ⟨#[]⟩) (nI 0)) ≤ 1
    rw [size_put tidy_empty]
    split <;> simp [Maps.size]
  · have : Proofs.Ytfhpcodjmmidhaa.isIn (D0 (H := H)) s = if s = ⟨#[]⟩ then true else Proofs.Ytfhpcodjmmidhaa.isIn (.map []) s := isIn_put hm ⟨#[]⟩ s (nI 0)
    rw [this]
    constructor
    · intro h
      split at h
      · rename_i h1; exact .inl h1
      · cases h
    · rintro (h | h)
      · exact if_pos h
      · simp at h
  · have : Proofs.Ytfhpcodjmmidhaa.amt (D0 (H := H)) s = if s = ⟨#[]⟩ then 0 else Proofs.Ytfhpcodjmmidhaa.amt (.map []) s := amt_put hm ⟨#[]⟩ s 0
    rw [this]
    by_cases h : s = .empty
    · rw [if_pos h, if_pos (by exact h)]; simp [sumL]
    · rw [if_neg h, if_neg (by exact h), if_neg (by simp)]
      exact amt_absent rfl

theorem got_next {D Dk : DataW H} (I : InvF D) {k : Nat} (h : Got D Dk k) (hk : k < (namesD D).length) :
    Got D ((Dk.put (kS ⟨(namesD D)[k].toArray⟩) (nI (amtL D (namesD D)[k]))).put (kS .empty) (nI (amt Dk .empty - amtL D (namesD D)[k]))) (k + 1) := by
  have hx := (mem_namesD I.good _).1 (List.getElem_mem hk)
  have hT : (namesD D).take (k + 1) = (namesD D).take k ++ [(namesD D)[k]] := (List.take_append_getElem hk).symm
  have hnd := names_nodup I.good
  generalize hxe : (namesD D)[k] = x at *
  have hne : (⟨x.toArray⟩ : ByteArray) ≠ .empty := empty_toArray hx.1
  have hm := h.good.tidy.isMap
  have hm2 : IsMap (Dk.put (kS ⟨x.toArray⟩) (nI (amtL D x))) := hm.put _ _
  have hof : ∀ s : ByteArray, s = ⟨x.toArray⟩ ↔ s.data.toList = x := fun s => ⟨fun e => by rw [e], fun e => by rw [← e]⟩
  have hin : Proofs.Ytfhpcodjmmidhaa.isIn (Dk.put (kS ⟨x.toArray⟩) (nI (amtL D x))) .empty = true := by
    rw [isIn_put hm, if_neg (fun e => hne e.symm)]
    exact (h.isIn _).2 (.inl rfl)
  refine ⟨(h.good.put _ _).put _ _, ?_, fun s => ?_, fun s => ?_⟩
  · rw [size_put (h.good.put _ _).tidy, if_pos (show has _ _ = true from hin), size_put h.good.tidy]
    have := h.size
    split <;> omega
  · rw [isIn_put hm2, isIn_put hm, hT, List.mem_append, List.mem_singleton, ← hof s]
    by_cases h1 : s = .empty
    · simp [h1]
    · rw [if_neg h1]
      by_cases h2 : s = ⟨x.toArray⟩
      · simp [h2]
      · rw [if_neg h2, h.isIn s]
        simp [h1, h2]
  · rw [amt_put hm2, amt_put hm, hT]
    by_cases h1 : s = .empty
    · rw [if_pos h1, if_pos h1, sumL_snoc, h.amt, if_pos rfl]
      omega
    · rw [if_neg h1, if_neg h1]
      by_cases h2 : s = ⟨x.toArray⟩
      · rw [if_pos h2, if_pos (by rw [(hof s).1 h2]; simp), h2]
        rfl
      · rw [if_neg h2, h.amt s, if_neg h1]
        have : (s.data.toList ∈ (namesD D).take k ++ [x]) ↔ s.data.toList ∈ (namesD D).take k := by
          rw [List.mem_append, List.mem_singleton, ← hof s]
          simp [h2]
        simp only [this]

theorem got_all {D Dk : DataW H} (I : InvF D) (h : Got D Dk (namesD D).length) : Alike Dk D := by
  refine ⟨h.good, I.good, fun s => ?_⟩
  have hi := h.isIn s
  have ha := h.amt s
  rw [List.take_of_length_le (Nat.le_refl _)] at hi ha
  have hs : s = ⟨s.data.toList.toArray⟩ := by simp
  by_cases h1 : s = .empty
  · subst h1
    rw [if_pos rfl] at ha
    refine ⟨(hi.2 (.inl rfl)).trans I.house.symm, ?_⟩
    rw [ha, (house_amt I).1]
  · rw [if_neg h1] at ha
    have hl : s.data.toList ≠ [] := fun e => h1 (by rw [hs, e]; rfl)
    have hm := mem_namesD I.good s.data.toList
    rw [← hs] at hm
    cases h2 : isIn D s
    · have hn : s.data.toList ∉ namesD D := fun e => by have := (hm.1 e).2; rw [h2] at this; cases this
      rw [if_neg hn] at ha
      refine ⟨?_, by rw [ha, amt_absent h2]⟩
      cases h3 : isIn Dk s
      · rfl
      · rcases hi.1 h3 with h | h
        · exact absurd h h1
        · exact absurd h hn
    · have hn : s.data.toList ∈ namesD D := hm.2 ⟨hl, h2⟩
      rw [if_pos hn] at ha
      exact ⟨hi.2 (.inr hn), ha⟩

theorem Alike.sum {D D' : DataW H} (h : Alike D D') : sumD D = sumD D' := by
  unfold sumD
  rw [sumL_perm D h.perm]
  have : Proofs.Ytfhpcodjmmidhaa.amtL D = Proofs.Ytfhpcodjmmidhaa.amtL D' := funext h.amtL
  unfold sumL
  rw [this]

theorem Alike.inv {D D' : DataW H} (h : Alike D D') (I : InvF D') : InvF D := by
  refine ⟨h.l, ⟨h.l.tidy, by rw [h.size]; exact I.inv.size, fun s hs => by rw [(h.same s).2]; exact I.inv.lo s hs, fun s hs => by rw [(h.same s).2]; exact I.inv.hi s hs⟩,
    fun s hs => I.keys s (by rw [← (h.same s).1]; exact hs), by rw [(h.same _).1]; exact I.house, by rw [h.sum]; exact I.sum⟩

/-- What is left of the bytes behind k names. -/
def leftD (D : DataW H) (k : Nat) : List UInt8 := ((namesD D).drop k).flatMap (pieceD D)
theorem left_step (D : DataW H) (k : Nat) (hk : k < (namesD D).length) : leftD D k = enc (namesD D)[k].length ++ ((namesD D)[k] ++ (enc (amtL D (namesD D)[k]).toNat ++ leftD D (k + 1))) := by
  unfold leftD
  rw [List.drop_eq_getElem_cons hk, List.flatMap_cons]
  simp [pieceD]
theorem left_end (D : DataW H) : leftD D (namesD D).length = [] := by
  unfold leftD
  rw [List.drop_of_length_le (Nat.le_refl _)]
  rfl
theorem left_len {D : DataW H} (I : InvF D) (k : Nat) : (leftD D k).length ≤ 34 * (namesD D).length := by
  unfold leftD
  have := flat_len (pieceD D) 34 ((namesD D).drop k) (fun y hy => (piece_len I (List.mem_of_mem_drop hy)).1)
  rw [List.length_drop] at this
  exact Nat.le_trans this (Nat.mul_le_mul_left _ (Nat.sub_le _ _))

end
end Go.Proofs.Ytfhpcodjmmidhaa
