/- proc: the memory's cells beside wishes and slots; records that may be; a process's block beside the process. -/
import Derived.Test.YtlbpephbigikcabPrcD
import Derived.Test.YtlbpephbigikcabCelD
namespace Go.Proofs.Ytlbpephbigikcab.prc
open Go Go.RowKit Go.Maps

/-- What each cell holds, and how many Swaps of it were done. -/
def cellT (P : Nat) (A : Ab) (i : Nat) : ByteArray := if i < P then txo (A.W i) else txo (A.S (i - P))
def cellN (P : Nat) (A : Ab) (i : Nat) : Int := if i < P then 0 else match A.S (i - P) with | none => 0 | some _ => 1

theorem cellT_wish {P : Nat} (A : Ab) {i : Nat} (h : i < P) : cellT P A i = txo (A.W i) := if_pos h
theorem cellT_slot (P : Nat) (A : Ab) (k : Nat) : cellT P A (P + k) = txo (A.S k) := by
  unfold cellT
  rw [if_neg (by omega), Nat.add_sub_cancel_left]
theorem cellN_slot (P : Nat) (A : Ab) (k : Nat) : cellN P A (P + k) = match A.S k with | none => 0 | some _ => 1 := by
  unfold cellN
  rw [if_neg (by omega), Nat.add_sub_cancel_left]

theorem cellT_setW {P : Nat} (A : Ab) {i : Nat} (h : i < P) (r : Rc) : cel.upd (cellT P A) i (tx r) = cellT P { A with W := up A.W i (some r) } := by
  funext j
  unfold cel.upd cellT
  by_cases e : j = i
  · subst e
    rw [if_pos rfl, if_pos h]
    show _ = txo (up A.W j (some r) j)
    rw [up_same]
    rfl
  · rw [if_neg e]
    show _ = if j < P then txo (up A.W i (some r) j) else _
    rw [up_other _ _ e]
theorem cellN_setW (P : Nat) (A : Ab) (W : Nat → Option Rc) : cellN P { A with W := W } = cellN P A := rfl
theorem cellT_setS (P : Nat) (A : Ab) (k : Nat) (r : Rc) : cel.upd (cellT P A) (P + k) (tx r) = cellT P { A with S := up A.S k (some r) } := by
  funext j
  unfold cel.upd cellT
  by_cases e : j = P + k
  · subst e
    rw [if_pos rfl, if_neg (by omega), Nat.add_sub_cancel_left]
    show _ = txo (up A.S k (some r) k)
    rw [up_same]
    rfl
  · rw [if_neg e]
    by_cases h : j < P
    · rw [if_pos h, if_pos h]
    · rw [if_neg h, if_neg h]
      show _ = txo (up A.S k (some r) (j - P))
      rw [up_other _ _ (by omega)]
theorem cellN_setS (P : Nat) (A : Ab) (k : Nat) (r : Rc) : cel.upd (cellN P A) (P + k) 1 = cellN P { A with S := up A.S k (some r) } := by
  funext j
  unfold cel.upd cellN
  by_cases e : j = P + k
  · subst e
    rw [if_pos rfl, if_neg (by omega), Nat.add_sub_cancel_left]
    show _ = match up A.S k (some r) k with | none => (0 : Int) | some _ => 1
    rw [up_same]
  · rw [if_neg e]
    by_cases h : j < P
    · rw [if_pos h, if_pos h]
    · rw [if_neg h, if_neg h]
      show _ = match up A.S k (some r) (j - P) with | none => (0 : Int) | some _ => 1
      rw [up_other _ _ (by omega)]

/-- Each record may be. -/
structure Fit (P : Nat) (A : Ab) : Prop where
  slot : ∀ k r, A.S k = some r → r.Fits
  wish : ∀ i r, A.W i = some r → r.Fits
  mine : ∀ i, i < P → (mine A i).Fits
  offer : ∀ i, (A.X i).next = 4 → (A.X i).offer.Fits

theorem Fit.put {P : Nat} {A : Ab} (h : Fit P A) (i : Nat) (x : Pc) (e1 : x.seq = (A.X i).seq) (e2 : x.body = (A.X i).body) (h4 : x.next = 4 → x.offer.Fits) : Fit P (put A i x) := by
  have k := put_same A i x e1 e2
  refine ⟨h.slot, h.wish, fun j hj => ?_, fun j => ?_⟩
  · have := h.mine j hj
    unfold prc.mine at this ⊢
    rw [(k j).1, (k j).2]
    exact this
  · rw [put_X]
    split
    · exact h4
    · exact h.offer j

theorem Fit.sees {P L : Nat} {A : Ab} (h : Fit P A) (i : Nat) (r : Rc) : Fit P (sees L A i r).1 := by
  unfold prc.sees
  split
  · exact h.put i _ rfl rfl (fun e => absurd e (by show ¬ 0 = 4; omega))
  · split
    · exact h.put i _ rfl rfl (fun e => absurd e (by show ¬ 0 = 4; omega))
    · exact h.put i _ rfl rfl (fun e => absurd e (by show ¬ 2 = 4; omega))

theorem Fit.step {P L : Nat} {A : Ab} (h : Fit P A) {i : Nat} (hi : i < P) : Fit P (step P L A i).1 := by
  unfold prc.step
  split
  · have hw : Fit P { A with W := up A.W i (some (prc.mine A i)) } := ⟨h.slot, fun j r hr => by
      have hr' : up A.W i (some (prc.mine A i)) j = some r := hr
      unfold up at hr'
      split at hr'
      · injection hr' with e; rw [← e]; exact h.mine i hi
      · exact h.wish j r hr', h.mine, h.offer⟩
    unfold prc.wishes
    split
    · exact hw.put i _ rfl rfl (fun e => absurd e (by show ¬ 0 = 4; omega))
    · exact hw.put i _ rfl rfl (fun e => absurd e (by show ¬ 2 = 4; omega))
  · unfold prc.looks
    split
    · exact h.sees i _
    · exact h.put i _ rfl rfl (fun e => absurd e (by show ¬ 3 = 4; omega))
  · refine h.put i _ rfl rfl (fun _ => ?_)
    show (choose A i (A.W ((A.X i).at_ % P))).Fits
    rcases choose_or A i (A.W ((A.X i).at_ % P)) with e | ⟨r, hw, _, e⟩
    · rw [e]; exact h.mine i hi
    · rw [e]; exact h.wish _ r hw
  · rename_i e4
    unfold prc.decides
    split
    · exact h.sees i _
    · refine Fit.sees (A := { A with S := up A.S (A.X i).at_ (some (A.X i).offer) }) ⟨fun k r hr => ?_, h.wish, h.mine, h.offer⟩ i _
      have hr' : up A.S (A.X i).at_ (some (A.X i).offer) k = some r := hr
      unfold up at hr'
      split at hr'
      · injection hr' with e; rw [← e]; exact h.offer i e4
      · exact h.slot k r hr'
  · rename_i e5
    unfold prc.heads
    split
    · exact h.put i _ rfl rfl (fun e => absurd e (by show ¬ 0 = 4; omega))
    · exact h.put i _ rfl rfl (fun e => absurd e (by show ¬ (A.X i).next = 4; omega))
  · exact h

theorem Fit.begins {P : Nat} {A : Ab} (h : Fit P A) (i : Nat) {s : ByteArray} (hi : i ≤ 63) (h1 : (A.X i).seq + 1 ≤ 1099511627776) (h2 : s.size ≤ 1024) : Fit P (begins A i s) := by
  refine ⟨h.slot, h.wish, fun j hj => ?_, fun j => ?_⟩
  · have hm := h.mine j hj
    unfold prc.mine prc.begins at *
    rw [put_X]
    split
    · rename_i e; subst e; exact ⟨hi, h1, h2⟩
    · exact hm
  · unfold prc.begins
    rw [put_X]
    split
    · intro e; exact absurd e (by show ¬ 1 = 4; omega)
    · exact h.offer j

theorem Fit.begHead {P : Nat} {A : Ab} (h : Fit P A) (i : Nat) : Fit P (begHead A i) :=
  h.put i _ rfl rfl (fun e => absurd e (by show ¬ 5 = 4; omega))

/-- A process's block beside the process i. -/
structure Rx (P L : Nat) (A : Ab) (i : Nat) (x : Px) : Prop where
  procs : x.procs = P
  slots : x.slots = L
  who : x.who = i
  seq : x.seq = (A.X i).seq
  seen : x.seen = (A.X i).at_
  next : x.next = if (A.X i).next = 5 ∧ L ≤ (A.X i).at_ then 6 else ((A.X i).next : Int)
  last : ∀ k, k < 64 → x.last k = kn A.S k (A.X i).at_
  own : 1 ≤ (A.X i).next → (A.X i).next ≤ 4 → x.own = tx (mine A i)
  offer : (A.X i).next = 4 → x.offer = tx (A.X i).offer

/-- The memory at block d, made since w, beside wishes and slots; at most K accesses were made. -/
def Mm (w : World) (d c m P L : Nat) (A : Ab) (K : Nat) (V : World) : Prop :=
  ∃ (D : DataW Unit) (a : Int), cel.Own w d c m (P + L) (cellT P A) (cellN P A) D a V ∧ a ≤ K

end Go.Proofs.Ytlbpephbigikcab.prc
