/- ledger: how the sum turns where one name's amount turns (no program's walk). -/
import Derived.Test.YtfhpcodjmmidhaaLedK
namespace Go.Proofs.Ytfhpcodjmmidhaa
open Go.RowKit Go.Maps Go.Sort

section
variable {H : Type}

theorem amtL_absent {D : DataW H} {x : List UInt8} (h : has D (.string x) = false) : amtL D x = 0 :=
  amt_absent (D := D) (s := ⟨x.toArray⟩) (by unfold isIn kS; simpa using h)

theorem sumL_filter (D : DataW H) (l : List (List UInt8)) : sumL D (l.filter fun x => has D (.string x)) = sumL D l := by
  induction l with
  | nil => rfl
  | cons x r ih =>
    cases hx : has D (.string x)
    · rw [List.filter_cons_of_neg (by simp [hx]), ih]
      unfold sumL
      simp [amtL_absent hx]
    · rw [List.filter_cons_of_pos (by simpa using hx)]
      unfold sumL at ih ⊢
      simp only [List.map_cons, List.foldr_cons]
      rw [ih]

/-- Over any names that hold all that are there. -/
theorem sumL_super {D : DataW H} (h : Good D) {l : List (List UInt8)} (hn : l.Nodup) (hl : ∀ x, has D (.string x) = true → x ∈ l) : sumL D l = sumD D := by
  rw [← sumL_filter]
  exact sumL_perm D ((List.perm_ext_iff_of_nodup (hn.filter _) (nodup_strKeys h)).2 fun x => by
    rw [mem_strKeys h, List.mem_filter]
    exact ⟨fun e => e.2, fun e => ⟨hl x e, e⟩⟩)

theorem sumL_change {D D' : DataW H} {y : List UInt8} (h : ∀ x, x ≠ y → amtL D' x = amtL D x) : ∀ l : List (List UInt8), l.Nodup → sumL D' l = sumL D l + if y ∈ l then amtL D' y - amtL D y else 0
  | [], _ => by simp [sumL]
  | x :: r, hn => by
    have ih := sumL_change h r (List.nodup_cons.1 hn).2
    have hx := (List.nodup_cons.1 hn).1
    have c1 : sumL D' (x :: r) = amtL D' x + sumL D' r := rfl
    have c2 : sumL D (x :: r) = amtL D x + sumL D r := rfl
    rw [c1, c2, ih]
    by_cases e : x = y
    · subst e
      rw [if_neg hx, if_pos (List.mem_cons_self)]
      omega
    · rw [h x e]
      by_cases hy : y ∈ r
      · rw [if_pos hy, if_pos (List.mem_cons_of_mem _ hy)]; omega
      · rw [if_neg hy, if_neg (by simp [hy]; exact fun e' => e e'.symm)]; omega

/-- One name's amount alone has turned (it may have come or gone). -/
theorem sumD_change {D D' : DataW H} (g : Good D) (g' : Good D') {y : List UInt8} (h : ∀ x, x ≠ y → amtL D' x = amtL D x) (hi : ∀ x, x ≠ y → has D' (.string x) = has D (.string x)) :
    sumD D' = sumD D + (amtL D' y - amtL D y) := by
  by_cases hy : y ∈ strKeys D
  · rw [← sumL_super g' (nodup_strKeys g) (fun x hx => by
      by_cases e : x = y
      · rw [e]; exact hy
      · exact (mem_strKeys g x).2 (by rw [← hi x e]; exact hx)), sumL_change h _ (nodup_strKeys g), if_pos hy]
    rfl
  · have hn : (y :: strKeys D).Nodup := List.nodup_cons.2 ⟨hy, nodup_strKeys g⟩
    rw [← sumL_super g' hn (fun x hx => by
      by_cases e : x = y
      · rw [e]; exact List.mem_cons_self
      · exact List.mem_cons_of_mem _ ((mem_strKeys g x).2 (by rw [← hi x e]; exact hx))), sumL_change h _ hn, if_pos (List.mem_cons_self),
      sumL_super g hn (fun x hx => List.mem_cons_of_mem _ ((mem_strKeys g x).2 hx))]

end
end Go.Proofs.Ytfhpcodjmmidhaa
