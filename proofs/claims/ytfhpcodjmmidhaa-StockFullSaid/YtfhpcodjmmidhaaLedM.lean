/- ledger: what Save tells of a map; the whole invariant of a book (no program's walk). -/
import Derived.Test.YtfhpcodjmmidhaaLedL
import Derived.Test.YtfhpcodjmmidhaaWireS
namespace Go.Proofs.Ytfhpcodjmmidhaa
open Go.RowKit Go.Maps Go.Sort

section
variable {H : Type}

theorem Good.put {D : DataW H} (h : Good D) (s : ByteArray) (d : DataW H) : Good (D.put (kS s) d) := by
  obtain ⟨es, e, hp, hk⟩ := h
  have ht : Tidy (D.put (kS s) d) := Tidy.put ⟨es, e, hp⟩ (kS_key s) d
  obtain ⟨es', e', hp'⟩ := ht
  refine ⟨es', e', hp', fun p hp2 => ?_⟩
  subst e
  have e2 : DataW.insert (kS s, d) (es.filter fun p => !p.1.sameKey (kS s)) = es' := by
    have : (DataW.map (DataW.insert (kS s, d) (es.filter fun p => !p.1.sameKey (kS s)))) = .map es' := e'
    injection this
  rw [← e2] at hp2
  rcases List.mem_cons.1 ((WideShapes.insert_perm _ _).subset hp2) with h1 | h1
  · exact ⟨_, by rw [h1]⟩
  · exact hk p (List.mem_filter.1 h1).1

theorem Good.del {D : DataW H} (h : Good D) (s : ByteArray) : Good (D.del (kS s)) := by
  obtain ⟨es, rfl, hp, hk⟩ := h
  exact ⟨_, rfl, hp.filter _, fun p hp2 => hk p (List.mem_filter.1 hp2).1⟩

theorem good_empty : Good (.map [] : DataW H) := ⟨[], rfl, List.Pairwise.nil, fun p hp => by cases hp⟩

/-- The names that Save tells, and its bytes. -/
def namesD (D : DataW H) : List (List UInt8) := (nb (strKeys D)).mergeSort leB
def pieceD (D : DataW H) (x : List UInt8) : List UInt8 := enc x.length ++ x ++ enc (amtL D x).toNat
def saveL (D : DataW H) : List UInt8 := enc (namesD D).length ++ (namesD D).flatMap (pieceD D)
def saveB (D : DataW H) : ByteArray := ⟨(saveL D).toArray⟩

theorem Alike.namesD {D D' : DataW H} (h : Alike D D') : namesD D = namesD D' := h.names
theorem Alike.saveB {D D' : DataW H} (h : Alike D D') : saveB D = saveB D' := by
  unfold Proofs.Ytfhpcodjmmidhaa.saveB saveL
  rw [h.namesD]
  congr 3
  have : (pieceD D) = pieceD D' := funext fun x => by unfold pieceD; rw [h.amtL]
  rw [this]
theorem Alike.refl {D : DataW H} (h : Good D) : Alike D D := ⟨h, h, fun _ => ⟨rfl, rfl⟩⟩
theorem Alike.symm {D D' : DataW H} (h : Alike D D') : Alike D' D := ⟨h.r, h.l, fun s => ⟨(h.same s).1.symm, (h.same s).2.symm⟩⟩
theorem Alike.trans {D D' D2 : DataW H} (h : Alike D D') (k : Alike D' D2) : Alike D D2 := ⟨h.l, k.r, fun s => ⟨(h.same s).1.trans (k.same s).1, (h.same s).2.trans (k.same s).2⟩⟩

theorem mem_namesD {D : DataW H} (h : Good D) (x : List UInt8) : x ∈ namesD D ↔ x ≠ [] ∧ isIn D ⟨x.toArray⟩ = true := by
  unfold namesD
  rw [List.mem_mergeSort]
  unfold nb
  rw [List.mem_filter, mem_strKeys h]
  have e : isIn D ⟨x.toArray⟩ = has D (.string x) := by unfold isIn kS; simp
  rw [e]
  cases x <;> simp

theorem strKeys_len {D : DataW H} (h : Good D) : (strKeys D).length = Maps.size D := by
  obtain ⟨es, rfl, _⟩ := h
  simp [strKeys, Maps.size]

theorem namesD_len_le {D : DataW H} (h : Good D) : (namesD D).length ≤ Maps.size D := by
  unfold namesD
  rw [List.length_mergeSort]
  exact Nat.le_trans (nb_le _) (Nat.le_of_eq (strKeys_len h))

/-- One name less than there are where the house is there. -/
theorem nb_one : ∀ l : List (List UInt8), l.Nodup → [] ∈ l → (nb l).length + 1 = l.length
  | [], _, h => by cases h
  | x :: r, hn, h => by
    have hx := (List.nodup_cons.1 hn).1
    cases x with
    | nil =>
      have : nb ([] :: r) = nb r := by unfold nb; simp
      rw [this]
      have h2 : nb r = r := by
        unfold nb
        rw [List.filter_eq_self]
        intro y hy
        cases y
        · exact absurd hy hx
        · rfl
      rw [h2]; rfl
    | cons a b =>
      have h1 : [] ∈ r := by
        rcases List.mem_cons.1 h with h | h
        · cases h
        · exact h
      have ih := nb_one r (List.nodup_cons.1 hn).2 h1
      have : nb ((a :: b) :: r) = (a :: b) :: nb r := by unfold nb; simp
      rw [this]
      simp only [List.length_cons]
      omega

/-- What every book that is reached keeps. -/
structure InvF (D : DataW H) : Prop where
  good : Good D
  inv : InvB D
  keys : ∀ s : ByteArray, isIn D s = true → s.size ≤ 12
  house : isIn D .empty = true
  sum : sumD D = 0

theorem house_mem {D : DataW H} (I : InvF D) : [] ∈ strKeys D := by
  rw [mem_strKeys I.good]
  exact I.house

theorem namesD_len {D : DataW H} (I : InvF D) : (namesD D).length + 1 = Maps.size D := by
  unfold namesD
  rw [List.length_mergeSort, nb_one _ (nodup_strKeys I.good) (house_mem I), strKeys_len I.good]

theorem sumL_lo (D : DataW H) (l : List (List UInt8)) (h : ∀ x ∈ l, 0 ≤ amtL D x) (h' : ∀ x ∈ l, amtL D x ≤ 1099511627776) : 0 ≤ sumL D l ∧ sumL D l ≤ 1099511627776 * (l.length : Int) := by
  unfold sumL
  induction l with
  | nil => simp
  | cons y r ih =>
    have h1 := h y List.mem_cons_self
    have h2 := h' y List.mem_cons_self
    have := ih (fun x hx => h x (List.mem_cons_of_mem _ hx)) (fun x hx => h' x (List.mem_cons_of_mem _ hx))
    simp at this ⊢
    omega

theorem sum_split (D : DataW H) : ∀ l : List (List UInt8), l.Nodup → [] ∈ l → sumL D l = amtL D [] + sumL D (nb l)
  | [], _, h => by cases h
  | x :: r, hn, h => by
    have hx := (List.nodup_cons.1 hn).1
    cases x with
    | nil =>
      have h2 : nb ([] :: r) = r := by
        have : nb ([] :: r) = nb r := by unfold nb; simp
        rw [this]
        unfold nb
        rw [List.filter_eq_self]
        intro y hy
        cases y
        · exact absurd hy hx
        · rfl
      rw [h2]; rfl
    | cons a b =>
      have h1 : [] ∈ r := by
        rcases List.mem_cons.1 h with h | h
        · cases h
        · exact h
      have ih := sum_split D r (List.nodup_cons.1 hn).2 h1
      have : nb ((a :: b) :: r) = (a :: b) :: nb r := by unfold nb; simp
      rw [this]
      have e1 : sumL D ((a :: b) :: r) = amtL D (a :: b) + sumL D r := rfl
      have e2 : sumL D ((a :: b) :: nb r) = amtL D (a :: b) + sumL D (nb r) := rfl
      rw [e1, e2, ih]
      omega

theorem empty_toArray {x : List UInt8} (h : x ≠ []) : (⟨x.toArray⟩ : ByteArray) ≠ .empty := fun e => h (by
  have : (⟨x.toArray⟩ : ByteArray).data.toList = (ByteArray.empty).data.toList := by rw [e]
  simpa using this)

/-- What the house has. -/
theorem house_amt {D : DataW H} (I : InvF D) : amt D .empty = - sumL D (namesD D) ∧ -17592186044416 ≤ amt D .empty ∧ amt D .empty ≤ 0 := by
  have h1 := sum_split D _ (nodup_strKeys I.good) (house_mem I)
  have h2 : sumL D (strKeys D) = 0 := I.sum
  have h3 : sumL D (namesD D) = sumL D (nb (strKeys D)) := sumL_perm D (List.mergeSort_perm _ _)
  have h4 : amtL D [] = amt D .empty := rfl
  have h5 := sumL_lo D (namesD D) (fun x hx => I.inv.lo _ (empty_toArray ((mem_namesD I.good x).1 hx).1)) (fun x hx => I.inv.hi _ (empty_toArray ((mem_namesD I.good x).1 hx).1))
  have h6 := namesD_len I
  have h7 := I.inv.size
  omega

/-- No amount is great. -/
theorem InvF.small {D : DataW H} (I : InvF D) (s : ByteArray) : -17592186044416 ≤ amt D s ∧ amt D s ≤ 1099511627776 := by
  by_cases h : s = .empty
  · subst h
    have := house_amt I
    omega
  · have := I.inv.lo s h
    have := I.inv.hi s h
    omega

theorem amtL_of (D : DataW H) (s : ByteArray) : amtL D s.data.toList = amt D s := by unfold amtL; cases s; simp
theorem ne_list {s : ByteArray} {x : List UInt8} (h : x ≠ s.data.toList) : (⟨x.toArray⟩ : ByteArray) ≠ s := fun e => h (by rw [← e])

theorem sumD_put {D : DataW H} (g : Good D) (s : ByteArray) (n : Int) : sumD (D.put (kS s) (nI n)) = sumD D + (n - amt D s) := by
  have hm := g.tidy.isMap
  have := sumD_change (y := s.data.toList) g (g.put s (nI n)) (fun x hx => by
    show amt _ _ = amt _ _
    rw [amt_put hm, if_neg (ne_list hx)]) (fun x hx => by
    have := isIn_put hm s ⟨x.toArray⟩ (nI n)
    rw [if_neg (ne_list hx)] at this
    unfold isIn at this
    simpa [kS] using this)
  rw [this, amtL_of, amtL_of, amt_put hm, if_pos rfl]

theorem sumD_del {D : DataW H} (g : Good D) (s : ByteArray) : sumD (D.del (kS s)) = sumD D - amt D s := by
  have := sumD_change (y := s.data.toList) g (g.del s) (fun x hx => by
    show amt _ _ = amt _ _
    rw [amt_del, if_neg (ne_list hx)]) (fun x hx => by
    have := isIn_del (D := D) s ⟨x.toArray⟩
    rw [if_neg (ne_list hx)] at this
    unfold isIn at this
    simpa [kS] using this)
  rw [this, amtL_of, amtL_of, amt_del, if_pos rfl]
  omega

end
end Go.Proofs.Ytfhpcodjmmidhaa
