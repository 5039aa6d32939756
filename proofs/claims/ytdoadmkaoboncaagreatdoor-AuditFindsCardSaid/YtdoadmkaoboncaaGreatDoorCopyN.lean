/- append(s, l...) of two slices that lie anywhere, l may be empty or nil: what comes of it. Of no program. -/
import Derived.Test.YtdoadmkaoboncaaGreatDoorCopy
namespace Go.Proofs.YtdoadmkaoboncaaGreatDoor
open Go.RowKit

section
variable {P : Program} (w : World)

theorem run_append_nil (t ty e : TypeId) (i : TypeInfo) (ht : P.underlying t = some (.slice e)) (hi : P.info? e = some i) (g off n c : Nat) (hn : n ≤ c) :
    (Builtin.append_ #[t, t] ty #[.slice (some ⟨g, off, none⟩) n c, .slice none 0 0]).run P w = .ok (.slice (some ⟨g, off, none⟩) n c) w := by
  simp [Builtin.append_, run_underlying ht, sizeOf, typeInfo, hi, Builtin.lenOf, hn, Builtin.firstCells, storeCells]

theorem run_append_any (t ty : TypeId) (e : TypeId) (i : TypeInfo) (z : Value) (size bytes : Nat) (ht : P.underlying t = some (.slice e)) (hi : P.info? e = some i) (hz : i.zero = some z)
    (hsize : i.size = size) (hby : i.bytes = bytes) (hzs : z.cells.size = size) (hsz : 0 < size)
    (v : Value) (n : Nat) (xs : List Value) (hown : Seg w e size v n xs) (hv : Thick v n)
    (x : Value) (m : Nat) (news : List Value) (hx : Seg w e size x m news) (hxt : Thick x m ∨ x = .slice none 0 0) (h1 : ∀ u ∈ news, u.oneCell' = true)
    (h63 : n + m ≤ maxLen) (hbytes : (n + m) * bytes ≤ 140737488355328) :
    ∃ y w', (Builtin.append_ #[t, t] ty #[v, x]).run P w = .ok y w' ∧ Thick y (n + m) ∧
      Seg w' e size y (n + m) (xs ++ news) ∧ w.grownBy w' v.ownBlock ∧ (∀ b, y.ownBlock = some b → v.ownBlock = some b ∨ b = w.heap.size) := by
  rcases hxt with hxt | rfl
  · exact run_append_all w t ty e i z size bytes ht hi hz hsize hby hzs hsz v n xs hown hv x m news hx hxt h1 h63 hbytes
  · obtain ⟨rfl, rfl⟩ : m = 0 ∧ news = [] := by
      rcases hx.2 with ⟨_, h2⟩ | ⟨g, off, cap, cur, h0, _⟩
      · exact ⟨h2, List.eq_nil_of_length_eq_zero (by rw [hx.1, h2, Nat.zero_mul])⟩
      · cases h0
    obtain ⟨g, off, c, rfl⟩ := hv
    have hnc : n ≤ c := by
      rcases hown.2 with ⟨h0, _⟩ | ⟨g', off', cap, cur, h0, hg, hnc, _⟩
      · cases h0
      · simp only [Value.slice.injEq, Option.some.injEq, Addr.mk.injEq, and_true, true_and] at h0
        obtain ⟨_, rfl⟩ := h0
        exact hnc
    exact ⟨_, w, run_append_nil w t ty e i ht hi g off n c hnc, ⟨g, off, c, rfl⟩, by rw [List.append_nil]; exact hown, ⟨rfl, rfl, rfl, Nat.le_refl _, fun _ _ _ => rfl⟩, fun b hb => .inl hb⟩

/-- At the operation. -/
theorem wp_append_any {o : Oper} {a : Act} {K : Act → World → Prop} {Q : Exit → Act → World → Prop} (s x : Operand) (t : TypeId)
    (ho : o.op = .call { callee := .builtin .append, args := #[s, x], argTypes := #[t, t] })
    (e : TypeId) (i : TypeInfo) (z : Value) (size bytes : Nat) (ht : P.underlying t = some (.slice e)) (hi : P.info? e = some i) (hz : i.zero = some z)
    (hsize : i.size = size) (hby : i.bytes = bytes) (hzs : z.cells.size = size) (hsz : 0 < size)
    (v : Value) (n : Nat) (xs : List Value) (hs : a.eval s = v) (hown : Seg w e size v n xs) (hv : Thick v n)
    (y : Value) (m : Nat) (news : List Value) (hx : a.eval x = y) (hnew : Seg w e size y m news) (hy : Thick y m ∨ y = .slice none 0 0) (h1 : ∀ u ∈ news, u.oneCell' = true)
    (h63 : n + m ≤ maxLen) (hbytes : (n + m) * bytes ≤ 140737488355328)
    (h : ∀ r w', Thick r (n + m) → Seg w' e size r (n + m) (xs ++ news) → w.grownBy w' v.ownBlock → (∀ b, r.ownBlock = some b → v.ownBlock = some b ∨ b = w.heap.size) → K (a.put o.dst r) w') : o.wp P a w K Q := by
  obtain ⟨r, w', hr, h2, h3, h4, h5⟩ := run_append_any (P := P) w t o.type e i z size bytes ht hi hz hsize hby hzs hsz v n xs hown hv y m news hnew hy h1 h63 hbytes
  unfold Oper.wp execOp
  simp only [ho, resolve, invoke, builtin, Sem.run_bind, Sem.run_pure, Result.andThen_ok, List.map_toArray, List.map_cons, List.map_nil, hs, hx, hr]
  exact h r w' h2 h3 h4 h5

/-- At the list of a plain region's operations. -/
theorem wpList_append_any {ops : Array Oper} {rest : List Oper} {o : Oper} {a : Act} {Q : Exit → Act → World → Prop} (hgd : o.guard = none) (s x : Operand) (t : TypeId)
    (ho : o.op = .call { callee := .builtin .append, args := #[s, x], argTypes := #[t, t] })
    (e : TypeId) (i : TypeInfo) (z : Value) (size bytes : Nat) (ht : P.underlying t = some (.slice e)) (hi : P.info? e = some i) (hz : i.zero = some z)
    (hsize : i.size = size) (hby : i.bytes = bytes) (hzs : z.cells.size = size) (hsz : 0 < size)
    (v : Value) (n : Nat) (xs : List Value) (hs : a.eval s = v) (hown : Seg w e size v n xs) (hv : Thick v n)
    (y : Value) (m : Nat) (news : List Value) (hx : a.eval x = y) (hnew : Seg w e size y m news) (hy : Thick y m ∨ y = .slice none 0 0) (h1 : ∀ u ∈ news, u.oneCell' = true)
    (h63 : n + m ≤ maxLen) (hbytes : (n + m) * bytes ≤ 140737488355328)
    (h : ∀ r w', Thick r (n + m) → Seg w' e size r (n + m) (xs ++ news) → w.grownBy w' v.ownBlock → (∀ b, r.ownBlock = some b → v.ownBlock = some b ∨ b = w.heap.size) → wpList P ops Q rest (a.put o.dst r) w') : wpList P ops Q (o :: rest) a w :=
  wpList_plain hgd fun _ hK => wp_append_any w s x t ho e i z size bytes ht hi hz hsize hby hzs hsz v n xs hs hown hv y m news hx hnew hy h1 h63 hbytes fun r w' h2 h3 h4 h5 => hK _ _ (h r w' h2 h3 h4 h5)

/-- At a step of a region that draws its order. -/
theorem step_append_any {ops : Array Oper} {o : Oper} {a : Act} {K : Act → World → Prop} {Q : Exit → Act → World → Prop} {E : Prop} (hgd : o.guard = none) (s x : Operand) (t : TypeId)
    (ho : o.op = .call { callee := .builtin .append, args := #[s, x], argTypes := #[t, t] })
    (e : TypeId) (i : TypeInfo) (z : Value) (size bytes : Nat) (ht : P.underlying t = some (.slice e)) (hi : P.info? e = some i) (hz : i.zero = some z)
    (hsize : i.size = size) (hby : i.bytes = bytes) (hzs : z.cells.size = size) (hsz : 0 < size)
    (v : Value) (n : Nat) (xs : List Value) (hs : a.eval s = v) (hown : Seg w e size v n xs) (hv : Thick v n)
    (y : Value) (m : Nat) (news : List Value) (hx : a.eval x = y) (hnew : Seg w e size y m news) (hy : Thick y m ∨ y = .slice none 0 0) (h1 : ∀ u ∈ news, u.oneCell' = true)
    (h63 : n + m ≤ maxLen) (hbytes : (n + m) * bytes ≤ 140737488355328)
    (h : ∀ r w', Thick r (n + m) → Seg w' e size r (n + m) (xs ++ news) → w.grownBy w' v.ownBlock → (∀ b, r.ownBlock = some b → v.ownBlock = some b ∨ b = w.heap.size) → K (a.put o.dst r) w') :
    if Region.wanted o (yielded ops a.tmps) = true then Oper.wp P o a w K Q else E := by
  have hw : Region.wanted o (yielded ops a.tmps) = true := by simp [Region.wanted, hgd]
  rw [if_pos hw]
  exact wp_append_any w s x t ho e i z size bytes ht hi hz hsize hby hzs hsz v n xs hs hown hv y m news hx hnew hy h1 h63 hbytes h
end
end Go.Proofs.YtdoadmkaoboncaaGreatDoor
