/- ledger: the laws' own awake answers true. -/
import Derived.Test.YtfhpcodjmmidhaaLedS
namespace Go.Proofs.Ytfhpcodjmmidhaa
open Go.RowKit Go.Maps Go.Sort

section
variable {H : Type}

def nameA : ByteArray := ⟨#[97]⟩
def opA1 : OpL := ⟨1, ⟨#[97]⟩, ⟨#[]⟩, 0⟩
def opA2 : OpL := ⟨3, ⟨#[]⟩, ⟨#[97]⟩, 5⟩
def DA1 : DataW H := (doO D0 opA1).1
def DA2 : DataW H := (doO DA1 opA2).1

theorem nameA_ne : (⟨#[97]⟩ : ByteArray) ≠ ⟨#[]⟩ := by decide
theorem nameA_list : (⟨#[97]⟩ : ByteArray).toList = [97] := by rw [ByteArray.toList_eq]

theorem d0_in (s : ByteArray) : isIn (D0 (H := H)) s = if s = ⟨#[]⟩ then true else false := by
  have := isIn_put (H := H) (D := .map []) isMap_empty ⟨#[]⟩ s (nI 0)
  exact this
theorem d0_amt (s : ByteArray) : amt (D0 (H := H)) s = 0 := by
  have := amt_put (H := H) (D := .map []) isMap_empty ⟨#[]⟩ s 0
  refine this.trans ?_
  split
  · rfl
  · exact amt_absent rfl
theorem d0_size : Maps.size (D0 (H := H)) = 1 := rfl

theorem a1_ok : (doO (D0 (H := H)) opA1).2 = 0 := by
  refine do_ok.2 ⟨?_, fun _ => ⟨?_, by rw [d0_size]; omega⟩, fun e => absurd e (by decide), fun e => absurd e (by decide)⟩
  · show chkL 1 ⟨#[97]⟩ ⟨#[]⟩ 0 = 0
    unfold chkL
    rw [if_pos (.inl rfl), if_pos ⟨by rw [nameA_list]; simp, list_nil0, rfl, by decide, by decide⟩]
  · show isIn D0 ⟨#[97]⟩ = false
    rw [d0_in, if_neg nameA_ne]

theorem a1_eff (x : ByteArray) : isIn (DA1 (H := H)) x = (if x = ⟨#[97]⟩ then true else if x = ⟨#[]⟩ then true else false) ∧ amt (DA1 (H := H)) x = 0 := by
  have h := do_eff (inv_new (H := H)).tidy.isMap a1_ok x
  refine ⟨h.1.trans ?_, h.2.trans ?_⟩
  · show isInD 1 ⟨#[97]⟩ (isIn D0 x) x = _
    unfold isInD
    rw [d0_in]
    by_cases hx : x = ⟨#[97]⟩
    · rw [if_pos ⟨rfl, hx⟩, if_pos hx]
    · rw [if_neg (fun e => hx e.2), if_neg (fun e => absurd e.1 (by decide)), if_neg hx]
  · show amt D0 x + 0 = 0
    rw [d0_amt]
    rfl

theorem a2_ok : (doO (DA1 (H := H)) opA2).2 = 0 := by
  refine do_ok.2 ⟨?_, fun e => absurd e (by decide), fun e => absurd e (by decide), fun _ => ⟨?_, ?_, fun e => absurd rfl e, fun _ => ?_⟩⟩
  · show chkL 3 ⟨#[]⟩ ⟨#[97]⟩ 5 = 0
    unfold chkL
    rw [if_neg (by decide), if_pos rfl, if_pos ⟨by rw [nameA_list, list_nil0]; simp, by decide, by decide, by decide, by decide⟩]
  · exact (a1_eff ⟨#[]⟩).1.trans (by rw [if_neg nameA_ne.symm]; rfl)
  · exact (a1_eff ⟨#[97]⟩).1.trans (if_pos rfl)
  · show amt DA1 ⟨#[97]⟩ + 5 ≤ _
    rw [(a1_eff _).2]
    decide

theorem a2_eff : amt (DA2 (H := H)) ⟨#[97]⟩ = 5 ∧ isIn (DA2 (H := H)) ⟨#[97]⟩ = true ∧ amt (DA2 (H := H)) ⟨#[]⟩ = -5 := by
  have h := do_eff (H := H) (invF_doO invF_new opA1).inv.tidy.isMap a2_ok
  have h1 := h ⟨#[97]⟩
  have h2 := h ⟨#[]⟩
  have e1 : amt (DA2 (H := H)) ⟨#[97]⟩ = amt DA1 ⟨#[97]⟩ + dlt 3 ⟨#[]⟩ ⟨#[97]⟩ 5 ⟨#[97]⟩ := h1.2
  have e2 : amt (DA2 (H := H)) ⟨#[]⟩ = amt DA1 ⟨#[]⟩ + dlt 3 ⟨#[]⟩ ⟨#[97]⟩ 5 ⟨#[]⟩ := h2.2
  have e3 : isIn (DA2 (H := H)) ⟨#[97]⟩ = isInD 3 ⟨#[]⟩ (isIn DA1 ⟨#[97]⟩) ⟨#[97]⟩ := h1.1
  rw [e1, e2, e3, (a1_eff _).2, (a1_eff _).2, (a1_eff _).1]
  refine ⟨by decide, by decide, by decide⟩

theorem a2_size : Maps.size (DA2 (H := H)) = 2 := by
  have o1 := do_of (H := H) (D := D0) (do_chk (D := D0 (H := H)) (k := 1) (s := ⟨#[97]⟩) (t := ⟨#[]⟩) (n := 0) a1_ok)
  rw [if_pos rfl] at o1
  have e1 : DA1 (H := H) = D0.put (kS ⟨#[97]⟩) (nI 0) := by
    show (doL D0 1 ⟨#[97]⟩ ⟨#[]⟩ 0).1 = _
    rw [o1]
    exact opn_is (by rw [← o1]; exact a1_ok)
  have s1 : Maps.size (DA1 (H := H)) = 2 := by
    rw [e1, size_put (inv_new (H := H)).tidy]
    rw [if_neg (by have := d0_in (H := H) ⟨#[97]⟩; rw [if_neg nameA_ne] at this; unfold isIn at this; rw [this]; simp), d0_size]
  have t1 : Tidy (DA1 (H := H)) := (invF_doO invF_new opA1).inv.tidy
  have o2 := do_of (H := H) (D := DA1) (do_chk (D := DA1 (H := H)) (k := 3) (s := ⟨#[]⟩) (t := ⟨#[97]⟩) (n := 5) a2_ok)
  rw [if_neg (by decide), if_neg (by decide)] at o2
  have e2 : DA2 (H := H) = (DA1.put (kS ⟨#[]⟩) (nI (amt (DA1 (H := H)) ⟨#[]⟩ - 5))).put (kS ⟨#[97]⟩) (nI (amt (DA1 (H := H)) ⟨#[97]⟩ + 5)) := by
    show (doL DA1 3 ⟨#[]⟩ ⟨#[97]⟩ 5).1 = _
    rw [o2]
    exact mov_is (by rw [← o2]; exact a2_ok)
  have i1 : has (DA1 (H := H)) (kS ⟨#[]⟩) = true := (a1_eff (H := H) ⟨#[]⟩).1.trans (by rw [if_neg nameA_ne.symm]; rfl)
  have i2 : has ((DA1 (H := H)).put (kS ⟨#[]⟩) (nI (amt (DA1 (H := H)) ⟨#[]⟩ - 5))) (kS ⟨#[97]⟩) = true := by
    have := isIn_put (H := H) t1.isMap ⟨#[]⟩ ⟨#[97]⟩ (nI (amt (DA1 (H := H)) ⟨#[]⟩ - 5))
    rw [if_neg nameA_ne, (a1_eff _).1, if_pos rfl] at this
    exact this
  rw [e2, size_put (t1.put (kS_key _) _), if_pos i2, size_put t1, if_pos i1, s1]

end

set_option maxRecDepth 100000 in
set_option maxHeartbeats 1000000 in
theorem lawake_any (w : World) : Calls Try.prog 12 #[] w fun en w' => en = .returned (.bool true) ∧ Below w.heap.size w w' := by
  go_enter Try.func12, Try.ntmps12
  go_wp2_with fail
  refine (bnew_calls (H := Unit) w).mono ?_
  rintro en w1 ⟨d, m, rfl, h1, b1, hd, hm⟩
  have T1 : Hid (Turn (fun j => w.heap.size ≤ j) w w1) := Turn.of_below b1 (fun _ _ e => e)
  have H1 := Lib.hid h1
  have HM := Lib.hid hm
  clear h1 b1
  go_wp2_with fail
  refine (bdo_any d m D0 opA1 w1 H1.out invF_new ⟨by decide, by decide⟩).mono ?_
  rintro en w2 ⟨rfl, h2, g2⟩
  have e1 : (doO (D0 (H := Unit)) opA1).2 = 0 := a1_ok
  rw [e1]
  have T2 : Hid (Turn (fun j => w.heap.size ≤ j) w w2) := T1.out.grown g2 (fun j e _ => by injection e with e; have := HM.out; omega)
  have H2 : Hid (Bk w2 d m DA1) := h2
  clear h2 g2 e1 T1 H1
  go_wp2_with fail
  refine (bdo_any d m DA1 opA2 w2 H2.out (invF_doO invF_new opA1) ⟨by decide, by decide⟩).mono ?_
  rintro en w3 ⟨rfl, h3, g3⟩
  have e2 : (doO (DA1 (H := Unit)) opA2).2 = 0 := a2_ok
  rw [e2]
  have T3 : Hid (Turn (fun j => w.heap.size ≤ j) w w3) := T2.out.grown g3 (fun j e _ => by injection e with e; have := HM.out; omega)
  have H3 : Hid (Bk w3 d m DA2) := h3
  clear h3 g3 e2 T2 H2
  go_wp2_with fail
  refine (bhas_calls d m DA2 ⟨#[97]⟩ w3 H3.out (by decide)).mono ?_
  rintro en w4 ⟨rfl, rfl⟩
  rw [(a2_eff (H := Unit)).1, (a2_eff (H := Unit)).2.1]
  go_wp2_with fail
  refine (bhas_calls d m DA2 ⟨#[]⟩ _ H3.out (Nat.zero_le _)).mono ?_
  rintro en w5 ⟨rfl, rfl⟩
  rw [(a2_eff (H := Unit)).2.2]
  go_wp2_with fail
  have I2 : InvF (DA2 (H := Unit)) := invF_doO (invF_doO invF_new opA1) opA2
  refine (bsum_calls d m DA2 _ H3.out (by rw [a2_size]; omega) (fun x => by have := I2.small ⟨x.toArray⟩; unfold amtL; omega)).mono ?_
  rintro en w6 ⟨rfl, b6⟩
  rw [I2.sum]
  have H6 := Lib.hid (H3.out.more b6)
  have T6 := Lib.hid (T3.out.trans (Turn.of_below b6 (F := fun j => w5.heap.size ≤ j) (fun _ _ e => e)) (fun j _ e => Nat.le_trans T3.out.size e))
  clear b6
  go_wp2_with fail
  refine (bnames_calls d m DA2 _ H6.out (by rw [a2_size]; omega)).mono ?_
  rintro en w7 ⟨v, rfl, hrow, b7⟩
  have hl : (nb (strKeys (DA2 (H := Unit)))).length = 1 := by
    have := namesD_len I2
    rw [a2_size] at this
    unfold namesD at this
    rw [List.length_mergeSort] at this
    omega
  rw [hl] at hrow
  obtain ⟨a, c, rfl⟩ := own_slice (row_low hrow)
  have T7 := Lib.hid (T6.out.trans (Turn.of_below b7 (F := fun j => w6.heap.size ≤ j) (fun _ _ e => e)) (fun j _ e => Nat.le_trans T6.out.size e))
  clear hrow b7
  go_wp2_with fail
  go_ret
  exact ⟨rfl, T7.out.below (Nat.le_refl _) (fun j hj e => by omega)⟩

end Go.Proofs.Ytfhpcodjmmidhaa
