/- rank's things: how they lie, and what container/heap asks of them: Len, Less, Swap. -/
import Derived.Test.YtbpnbnbglfiglaaReg
import Derived.Test.YtbpnbnbglfiglaaHeap
namespace Go.Proofs.Ytbpnbnbglfiglaa
open Go.RowKit

/-- The numbers of a thing are numbers of 64 bits. -/
def Th64 (x : Th) : Prop := -9223372036854775808 ≤ x.1 ∧ x.1 ≤ 9223372036854775807 ∧ -9223372036854775808 ≤ x.2.1 ∧ x.2.1 ≤ 9223372036854775807 ∧ -9223372036854775808 ≤ x.2.2 ∧ x.2.2 ≤ 9223372036854775807

/-- The cells of a thing, of things. -/
def cellsTh (x : Th) : List Value := [.int .i64 x.1, .int .i64 x.2.1, .int .i64 x.2.2]
def cellsThs (l : List Th) : List Value := l.flatMap cellsTh

/-- The first things of block g, which has room for cap, are l. -/
def Lie (w : World) (g cap : Nat) (l : List Th) : Prop := ∃ cs : Array Value, Has w g 82 cs ∧ ∃ tl, cs.toList = cellsThs l ++ tl ∧ cs.size = cap * 3 ∧ cap ≤ maxLen

theorem cellsThs_length (l : List Th) : (cellsThs l).length = 3 * l.length := by
  induction l with
  | nil => rfl
  | cons x l ih => simp only [cellsThs, List.flatMap_cons, List.length_append, List.length_cons] at ih ⊢; rw [ih]; simp [cellsTh]; omega

theorem cellsThs_get (l : List Th) (i : Nat) (hi : i < l.length) : (cellsThs l)[3 * i]? = some (.int .i64 (at_ l i).1) ∧ (cellsThs l)[3 * i + 1]? = some (.int .i64 (at_ l i).2.1) ∧ (cellsThs l)[3 * i + 2]? = some (.int .i64 (at_ l i).2.2) := by
  induction l generalizing i with
  | nil => simp at hi
  | cons x l ih =>
    have e : cellsThs (x :: l) = cellsTh x ++ cellsThs l := rfl
    cases i with
    | zero => simp [e, cellsTh, at_]
    | succ i =>
      have h := ih i (by simpa using hi)
      have e1 : at_ (x :: l) (i + 1) = at_ l i := by simp [at_]
      rw [e, e1]
      have hl : (cellsTh x).length = 3 := rfl
      rw [List.getElem?_append_right (by omega), List.getElem?_append_right (by omega), List.getElem?_append_right (by omega), hl]
      have e2 : 3 * (i + 1) - 3 = 3 * i := by omega
      have e3 : 3 * (i + 1) + 1 - 3 = 3 * i + 1 := by omega
      have e4 : 3 * (i + 1) + 2 - 3 = 3 * i + 2 := by omega
      rw [e2, e3, e4]
      exact h

theorem Lie.cell {w : World} {g cap : Nat} {l : List Th} (h : Lie w g cap l) (i : Nat) (hi : i < l.length) :
    w.cell? ⟨g, i * 3, none⟩ = some (.int .i64 (at_ l i).1) ∧ w.cell? ⟨g, i * 3 + 1, none⟩ = some (.int .i64 (at_ l i).2.1) ∧ w.cell? ⟨g, i * 3 + 2, none⟩ = some (.int .i64 (at_ l i).2.2) := by
  obtain ⟨cs, hh, tl, e, hz⟩ := h
  have hc := cellsThs_get l i hi
  have hlen := cellsThs_length l
  have e3 : i * 3 = 3 * i := by omega
  rw [hh.cell, hh.cell, hh.cell, e3]
  refine ⟨?_, ?_, ?_⟩
  · rw [← Array.getElem?_toList, e, List.getElem?_append_left (by omega)]; exact hc.1
  · rw [← Array.getElem?_toList, e, List.getElem?_append_left (by omega)]; exact hc.2.1
  · rw [← Array.getElem?_toList, e, List.getElem?_append_left (by omega)]; exact hc.2.2

theorem Lie.turn {F : Nat → Prop} {w w' : World} {g cap : Nat} {l : List Th} (h : Lie w g cap l) (t : Turn F w w') (hg : ¬ F g) : Lie w' g cap l := by
  obtain ⟨cs, hh, tl, e, hz⟩ := h
  exact ⟨cs, hh.turn t hg, tl, e, hz⟩

theorem set_cells (l : List Th) (i : Nat) (x : Th) (tl : List Value) (hi : i < l.length) :
    (((cellsThs l ++ tl).set (i * 3) (.int .i64 x.1)).set (i * 3 + 1) (.int .i64 x.2.1)).set (i * 3 + 2) (.int .i64 x.2.2) = cellsThs (l.set i x) ++ tl := by
  induction l generalizing i with
  | nil => simp at hi
  | cons y l ih =>
    cases i with
    | zero => rfl
    | succ i =>
      have h := ih i (by simpa using hi)
      have e : ∀ l : List Th, cellsThs (y :: l) = .int .i64 y.1 :: .int .i64 y.2.1 :: .int .i64 y.2.2 :: cellsThs l := fun _ => rfl
      have e2 : (i + 1) * 3 = i * 3 + 1 + 1 + 1 := by omega
      rw [List.set_cons_succ, e, e, e2]
      simp only [List.cons_append, List.set_cons_succ]
      rw [← h]

theorem Lie.put {w : World} {g cap : Nat} {l : List Th} (h : Lie w g cap l) (i : Nat) (x : Th) (hi : i < l.length) :
    Lie (((w.setCell ⟨g, i * 3, none⟩ (.int .i64 x.1)).setCell ⟨g, i * 3 + 1, none⟩ (.int .i64 x.2.1)).setCell ⟨g, i * 3 + 2, none⟩ (.int .i64 x.2.2)) g cap (l.set i x) := by
  obtain ⟨cs, hh, tl, e, hz⟩ := h
  refine ⟨_, ((hh.put (i * 3) _).put (i * 3 + 1) _).put (i * 3 + 2) _, tl, ?_, by simpa using hz⟩
  rw [Array.toList_setIfInBounds, Array.toList_setIfInBounds, Array.toList_setIfInBounds, e, set_cells l i x tl hi]

theorem Lie.drew {w : World} {g cap : Nat} {l : List Th} (h : Lie w g cap l) : Lie w.drew g cap l := h

theorem put_same {w : World} {g k m : Nat} {v u : Value} (h : w.cell? ⟨g, m, none⟩ = some v) (hk : k = m → u = v) : (w.setCell ⟨g, k, none⟩ u).cell? ⟨g, m, none⟩ = some v := by
  by_cases e : k = m
  · obtain rfl := hk e
    subst e
    exact World.cell?_setCell_same w _ _ h
  · rw [World.cell?_setCell_other _ _ _ _ (by intro h; simp only [Addr.mk.injEq] at h; omega)]
    exact h

/-- Nothing turns but what is drawn. -/
def Still (w w' : World) : Prop := w.grownBy w' none

theorem len_calls (a : Option Addr) (n cap : Nat) (w : World) (hn : n ≤ maxLen) : Calls Try.prog 86 #[.slice a n cap] w fun en w' => en = .returned (.int .i64 n) ∧ w = w' := by
  have hn' : (n : Int) ≤ 9223372036854775807 := by unfold maxLen at hn; omega
  go_enter Try.func86, Try.ntmps86
  go_wp2_with fail
  go_ret
  exact ⟨rfl, rfl⟩

set_option maxRecDepth 100000 in
set_option maxHeartbeats 400000 in
theorem less_calls (g : Nat) (l : List Th) (cap i j : Nat) (w : World) (h : Lie w g cap l) (hi : i < l.length) (hj : j < l.length) :
    Calls Try.prog 87 #[.slice (some ⟨g, 0, none⟩) l.length cap, .int .i64 i, .int .i64 j] w fun en w' => en = .returned (.bool (decide (lt (at_ l i) (at_ l j)))) ∧ w.grownBy w' none := by
  obtain ⟨i1, i2, i3⟩ := h.cell i hi
  obtain ⟨j1, j2, j3⟩ := h.cell j hj
  have hi0 : (0 : Int) ≤ (i : Int) := by omega
  have hi1 : (i : Int) < (l.length : Int) := by omega
  have hj0 : (0 : Int) ≤ (j : Int) := by omega
  have hj1 : (j : Int) < (l.length : Int) := by omega
  generalize hx : at_ l i = x at *
  generalize hy : at_ l j = y at *
  generalize hn : l.length = n at *
  obtain ⟨x1, x2, x3⟩ := x
  obtain ⟨y1, y2, y3⟩ := y
  have L1 : x1 = y1 → ¬ x3 < y3 → Hid (decide (lt (x1, x2, x3) (y1, y2, y3)) = false) := fun e k => by
    show _ = _; exact decide_eq_false (by simp only [lt]; omega)
  have L2 : x1 = y1 → x3 < y3 → Hid (decide (lt (x1, x2, x3) (y1, y2, y3)) = true) := fun e k => by
    show _ = _; exact decide_eq_true (by simp only [lt]; omega)
  have L3 : x1 ≠ y1 → Hid (decide (lt (x1, x2, x3) (y1, y2, y3)) = decide (x1 < y1)) := fun e => by
    show _ = _; exact decide_eq_decide.2 (by simp only [lt]; omega)
  generalize decide (lt (x1, x2, x3) (y1, y2, y3)) = d at *
  clear hx hy h hn
  by_cases e : x1 = y1
  · have M1 := L1 e
    have M2 := L2 e
    clear L1 L2 L3
    subst e
    go_enter Try.func87, Try.ntmps87
    go_wp2_with fail
    go_region
    go_wp2_with fail
    by_cases k : x3 < y3
    · have E := M2 k
      clear M1 M2
      go_region
      go_wp2_with fail
      go_ret
      rw [E.out]
      exact ⟨rfl, grown_drew (grown_drew (grown_refl _ _))⟩
    · have E := M1 (by omega)
      clear M1 M2
      go_region
      go_wp2_with fail
      go_ret
      rw [E.out]
      exact ⟨rfl, grown_drew (grown_drew (grown_refl _ _))⟩
  · have E := L3 e
    clear L1 L2 L3
    go_enter Try.func87, Try.ntmps87
    go_wp2_with fail
    go_region
    go_wp2_with fail
    go_region
    go_wp2_with fail
    go_ret
    rw [E.out]
    exact ⟨rfl, grown_drew (grown_drew (grown_refl _ _))⟩

theorem Lie.free {w : World} {g cap : Nat} {l : List Th} (h : Lie w g cap l) (k : Nat) : w.frozen? ⟨g, k, none⟩ = false := by
  obtain ⟨cs, hh, tl, e, hz⟩ := h
  exact hh.free k

theorem Lie.lt {w : World} {g cap : Nat} {l : List Th} (h : Lie w g cap l) : g < w.heap.size := by
  obtain ⟨cs, hh, tl, e, hz⟩ := h
  exact hh.lt

theorem swapped {w : World} {g cap : Nat} {l : List Th} (h : Lie w g cap l) (i j : Nat) (x1 x2 x3 y1 y2 y3 : Int) (hi : i < l.length) (hj : j < l.length) (hx : at_ l i = (x1, x2, x3)) (hy : at_ l j = (y1, y2, y3)) :
    Lie ((((((w.setCell ⟨g, i * 3, none⟩ (.int .i64 y1)).setCell ⟨g, i * 3 + 1, none⟩ (.int .i64 y2)).setCell ⟨g, i * 3 + 2, none⟩ (.int .i64 y3)).setCell ⟨g, j * 3, none⟩ (.int .i64 x1)).setCell ⟨g, j * 3 + 1, none⟩ (.int .i64 x2)).setCell
      ⟨g, j * 3 + 2, none⟩ (.int .i64 x3)).drew g cap (swap l i j) := by
  have h1 := h.put i (y1, y2, y3) hi
  have h2 := h1.put j (x1, x2, x3) (by rw [List.length_set]; exact hj)
  have e : swap l i j = (l.set i (y1, y2, y3)).set j (x1, x2, x3) := by unfold swap; rw [hx, hy]
  rw [e]
  exact h2.drew

theorem grown_six (w : World) (g a b c d e f : Nat) (u v x y z t : Value) :
    w.grownBy ((((((w.setCell ⟨g, a, none⟩ u).setCell ⟨g, b, none⟩ v).setCell ⟨g, c, none⟩ x).setCell ⟨g, d, none⟩ y).setCell ⟨g, e, none⟩ z).setCell ⟨g, f, none⟩ t).drew (some g) :=
  grown_drew (grown_own (grown_own (grown_own (grown_own (grown_own (grown_own (grown_refl w _) _ _) _ _) _ _) _ _) _ _) _ _)

set_option maxRecDepth 100000 in
set_option maxHeartbeats 400000 in
theorem swap_calls (g : Nat) (l : List Th) (cap i j : Nat) (w : World) (h : Lie w g cap l) (hi : i < l.length) (hj : j < l.length) :
    Calls Try.prog 88 #[.slice (some ⟨g, 0, none⟩) l.length cap, .int .i64 i, .int .i64 j] w fun en w' => en = .returned (.tuple #[]) ∧ Lie w' g cap (swap l i j) ∧ w.grownBy w' (some g) := by
  obtain ⟨i1, i2, i3⟩ := h.cell i hi
  obtain ⟨j1, j2, j3⟩ := h.cell j hj
  have fi1 := h.free (i * 3)
  have fi2 := h.free (i * 3 + 1)
  have fi3 := h.free (i * 3 + 2)
  have fj1 := h.free (j * 3)
  have fj2 := h.free (j * 3 + 1)
  have fj3 := h.free (j * 3 + 2)
  have hi0 : (0 : Int) ≤ (i : Int) := by omega
  have hi1 : (i : Int) < (l.length : Int) := by omega
  have hj0 : (0 : Int) ≤ (j : Int) := by omega
  have hj1 : (j : Int) < (l.length : Int) := by omega
  have hg := h.lt
  generalize hx : at_ l i = x at *
  generalize hy : at_ l j = y at *
  generalize hn : l.length = n at *
  obtain ⟨x1, x2, x3⟩ := x
  obtain ⟨y1, y2, y3⟩ := y
  have c1 : (w.setCell ⟨g, i * 3, none⟩ (.int .i64 y1)).cell? ⟨g, j * 3, none⟩ = some (.int .i64 y1) := put_same j1 (fun _ => rfl)
  have c2 : ((w.setCell ⟨g, i * 3, none⟩ (.int .i64 y1)).setCell ⟨g, i * 3 + 1, none⟩ (.int .i64 y2)).cell? ⟨g, j * 3 + 1, none⟩ = some (.int .i64 y2) := put_same (put_same j2 (fun _ => by omega)) (fun _ => rfl)
  have c3 : (((w.setCell ⟨g, i * 3, none⟩ (.int .i64 y1)).setCell ⟨g, i * 3 + 1, none⟩ (.int .i64 y2)).setCell ⟨g, i * 3 + 2, none⟩ (.int .i64 y3)).cell? ⟨g, j * 3 + 2, none⟩ = some (.int .i64 y3) := put_same (put_same (put_same j3 (fun _ => by omega)) (fun _ => by omega)) (fun _ => rfl)
  have HL := Lib.hid h
  have HX := Lib.hid hx
  have HY := Lib.hid hy
  have HN := Lib.hid hn
  clear h hx hy hn
  go_enter Try.func88, Try.ntmps88
  go_wp2_with fail
  go_region
  go_wp2_with fail
  go_end0
  refine ⟨rfl, ?_, ?_⟩
  · exact swapped HL.out i j x1 x2 x3 y1 y2 y3 (by rw [HN.out]; exact hi) (by rw [HN.out]; exact hj) HX.out HY.out
  · exact grown_six w g _ _ _ _ _ _ _ _ _ _ _ _

end Go.Proofs.Ytbpnbnbglfiglaa
