/- ledger: what move, New give. -/
import Derived.Test.YtfhpcodjmmidhaaLedA
namespace Go.Proofs.Ytfhpcodjmmidhaa
open Go.RowKit Go.Maps

section
variable {H : Type}

theorem wf64 {x : Int} (h : -9223372036854775808 ≤ x) (h' : x ≤ 9223372036854775807) : (Lit.int .i64 x).wf = true := by
  have e1 : IntKind.i64.min = -9223372036854775808 := by decide
  have e2 : IntKind.i64.max = 9223372036854775807 := by decide
  simp [Lit.wf, e1, e2]
  exact ⟨h, h'⟩
theorem grown_cell {w w' : World} {d m : Nat} {v : Value} (h : w.grownBy w' (some m)) (hd : d < w.heap.size) (hne : m ≠ d) (hc : w.cell? ⟨d, 0, none⟩ = some v) : w'.cell? ⟨d, 0, none⟩ = some v := by
  have := h.block d hd (fun e => hne (by injection e with e; exact e.symm))
  unfold World.cell? at hc ⊢
  rw [this]; exact hc

theorem emp_iff {s : ByteArray} : s = .empty ↔ s.toList = [] := by
  rw [ByteArray.toList_eq]
  constructor
  · rintro rfl; rfl
  · intro h
    exact WideShapes.bytes_inj (h.trans rfl)
theorem or_of {α : Type} {l : List α} {p : Prop} (h : (!l.isEmpty) = false ∨ p) : l = [] ∨ p := by simpa using h

set_option maxRecDepth 100000 in
set_option maxHeartbeats 400000 in
theorem bmove_calls (d m : Nat) (D : DataW H) (s t : ByteArray) (n : Int) (w : World) (h : Bk w d m D) (hs : s.size ≤ maxLen) (ht : t.size ≤ maxLen) (hD : Maps.size D + 1 < maxLen)
    (hn : 0 ≤ n) (hn' : n ≤ 1099511627776) (ha : -1152921504606846976 ≤ amt D s) (ha' : amt D s ≤ 1152921504606846976) (hb : -1152921504606846976 ≤ amt D t) (hb' : amt D t ≤ 1152921504606846976) :
    Calls Try.prog 51 #[.pointer (some ⟨d, 0, none⟩), .string s, .string t, .int .i64 n] w fun en w' => BPost d m w (mov D s t n) en w' := by
  have hks := kS_of hs
  have hkt := kS_of ht
  have c0 : w.cell? ⟨d, 0, none⟩ = some (.map (some m)) := h.box.cell 0
  have hown : w.ownsMap Try.prog 9 (plainElem Try.prog 3) m (Maps.size D) D := h.map
  have B := Lib.hid h
  clear h hs ht
  cases hi : isIn D s
  · have hi' : Maps.has D (kS s) = false := hi
    have E := Lib.hid (show mov D s t n = (D, 8) by unfold mov; rw [if_pos hi])
    clear hi
    go_enter Try.func51, Try.ntmps51
    go_wp2_with (first
      | (at_lookup; refine wpList_lookup_own_ok_int _ rfl _ _ 88 rfl 9 3 .i64 strKeyed Try.underlying88 Try.underlying3 (zeroInt _) m (Maps.size D) D rfl hown _ _ rfl hks ?_; intro c hat hwc)
      | go_in)
    go_ret
    rw [show mov D s t n = _ from E]
    exact ⟨rfl, B, hown.turned_refl⟩
  have hi' : Maps.has D (kS s) = true := hi
  have n1 : ¬ (isIn D s = false) := by rw [hi]; simp
  clear hi
  cases hj : isIn D t
  · have hj' : Maps.has D (kS t) = false := hj
    have E := Lib.hid (show mov D s t n = (D, 8) by unfold mov; rw [if_neg n1, if_pos hj])
    clear hj n1
    go_enter Try.func51, Try.ntmps51
    go_wp2_with (first
      | (at_lookup; refine wpList_lookup_own_ok_int _ rfl _ _ 88 rfl 9 3 .i64 strKeyed Try.underlying88 Try.underlying3 (zeroInt _) m (Maps.size D) D rfl hown _ _ rfl hks ?_; intro c hat hwc)
      | (at_lookup; refine wpList_lookup_own_ok_int _ rfl _ _ 88 rfl 9 3 .i64 strKeyed Try.underlying88 Try.underlying3 (zeroInt _) m (Maps.size D) D rfl hown _ _ rfl hkt ?_; intro c2 hat2 hwc2)
      | go_in)
    go_ret
    rw [show mov D s t n = _ from E]
    exact ⟨rfl, B, hown.turned_refl⟩
  have hj' : Maps.has D (kS t) = true := hj
  have n2 : ¬ (isIn D t = false) := by rw [hj]; simp
  clear hj
  have E0 : mov D s t n = if s ≠ .empty ∧ amt D s < n then (D, 11) else if t ≠ .empty ∧ 1099511627776 < amt D t + n then (D, 10)
    else ((D.put (kS s) (nI (amt D s - n))).put (kS t) (nI (amt D t + n)), 0) := by unfold mov; rw [if_neg n1, if_neg n2]
  clear n1 n2
  generalize h1 : amt D s = a at *
  generalize h2 : amt D t = b at *
  have H1 := Lib.hid h1
  have H2 := Lib.hid h2
  simp only [ne_eq, emp_iff] at E0
  have E1 := Lib.hid (show ¬ s.toList = [] → a < n → mov D s t n = (D, 11) from fun e1 e2 => by rw [E0, if_pos ⟨e1, e2⟩])
  have E2 := Lib.hid (show s.toList = [] ∨ n ≤ a → ¬ t.toList = [] → 1099511627776 < b + n → mov D s t n = (D, 10) from fun e1 e2 e3 => by
    rw [E0, if_neg (fun h => e1.elim h.1 (fun h2 => by have := h.2; omega)), if_pos ⟨e2, e3⟩])
  have E3 := Lib.hid (show s.toList = [] ∨ n ≤ a → t.toList = [] ∨ b + n ≤ 1099511627776 → mov D s t n = ((D.put (kS s) (nI (a - n))).put (kS t) (nI (b + n)), 0) from fun e1 e2 => by
    rw [E0, if_neg (fun h => e1.elim h.1 (fun h2 => by have := h.2; omega)), if_neg (fun h => e2.elim h.1 (fun h2 => by have := h.2; omega))])
  clear h1 h2 E0
  go_enter Try.func51, Try.ntmps51
  have hw1 : (Lit.int .i64 (a - n)).wf = true := wf64 (by omega) (by omega)
  have hw2 : (Lit.int .i64 (b + n)).wf = true := wf64 (by omega) (by omega)
  have hD1 : Maps.size D < maxLen := by omega
  obtain ⟨w1, hrun1, hown1, hturn1⟩ := hown.store strKeyed Try.underlying88 hD1 hks (plainElem_int Try.underlying3 hw1)
  obtain ⟨w2, hrun2, hown2, hturn2⟩ := hown1.store strKeyed Try.underlying88 hD hkt (plainElem_int Try.underlying3 hw2)
  have c1 := grown_cell hturn1.grown (B.box.lt) (B.map.ne B.box) c0
  have B2 := Lib.hid (B.turned hown2 (hturn1.trans hturn2))
  have T2 := Lib.hid (hturn1.trans hturn2)
  have T0 := Lib.hid hown.turned_refl
  clear hown1 hown2 hturn1 hturn2
  go_wp2_with (first
    | (at_lookup; refine wpList_lookup_own_ok_int _ rfl _ _ 88 rfl 9 3 .i64 strKeyed Try.underlying88 Try.underlying3 (zeroInt _) m (Maps.size D) D rfl hown _ _ rfl hks ?_; intro c hat hwc; obtain rfl : c = a := (amt_of hat).symm.trans H1)
    | (at_lookup; refine wpList_lookup_own_ok_int _ rfl _ _ 88 rfl 9 3 .i64 strKeyed Try.underlying88 Try.underlying3 (zeroInt _) m (Maps.size D) D rfl hown _ _ rfl hkt ?_; intro c2 hat2 hwc2; obtain rfl : c2 = b := (amt_of hat2).symm.trans H2)
    | fail)
  all_goals
    go_ret
    first
      | (rw [show mov D s t n = _ from E1 (by assumption) (show (!s.toList.isEmpty) = true ∧ c < n by assumption).2]; exact ⟨rfl, B, T0⟩)
      | (rw [show mov D s t n = _ from E2 (by first | exact Or.inl (by assumption) | exact or_of (by assumption)) (by assumption) (show (!t.toList.isEmpty) = true ∧ 1099511627776 < c2 + n by assumption).2]; exact ⟨rfl, B, T0⟩)
      | (rw [show mov D s t n = _ from E3 (by first | exact Or.inl (by assumption) | exact or_of (by assumption)) (by first | exact Or.inl (by assumption) | exact or_of (by assumption))]; exact ⟨rfl, B2, T2⟩)

end
end Go.Proofs.Ytfhpcodjmmidhaa
