/- append of a slice to a slice, either of which may be nil. Of no program. -/
import Derived.Test.YtdoadmkaoboncaaGreatDoorClr
namespace Go.Proofs.YtdoadmkaoboncaaGreatDoor
open Go Go.RowKit

/-- A slice is nil, or lies somewhere. -/
theorem Seg.form {w : World} {e : TypeId} {size n : Nat} {v : Value} {xs : List Value} (h : Seg w e size v n xs) : (v = .slice none 0 0 ∧ n = 0 ∧ xs = []) ∨ Thick v n := by
  rcases h.2 with ⟨h1, h2⟩ | ⟨g, off, cap, cur, h1, _⟩
  · refine .inl ⟨h1, h2, ?_⟩
    have := h.1
    rw [h2, Nat.zero_mul] at this
    exact List.eq_nil_of_length_eq_zero this
  · exact .inr ⟨g, off, cap, h1⟩

section
variable {P : Program} (w : World)

theorem run_append_every (t ty : TypeId) (e : TypeId) (i : TypeInfo) (z : Value) (size bytes : Nat) (ht : P.underlying t = some (.slice e)) (hi : P.info? e = some i) (hz : i.zero = some z)
    (hsize : i.size = size) (hby : i.bytes = bytes) (hzs : z.cells.size = size) (hsz : 0 < size)
    (v : Value) (n : Nat) (xs : List Value) (hown : Seg w e size v n xs)
    (x : Value) (m : Nat) (news : List Value) (hx : Seg w e size x m news) (h1 : ∀ u ∈ news, u.oneCell' = true)
    (h63 : n + m ≤ maxLen) (hbytes : (n + m) * bytes ≤ 140737488355328) :
    ∃ y w', (Builtin.append_ #[t, t] ty #[v, x]).run P w = .ok y w' ∧
      Seg w' e size y (n + m) (xs ++ news) ∧ w.grownBy w' v.ownBlock ∧ (∀ b, y.ownBlock = some b → v.ownBlock = some b ∨ w.heap.size ≤ b) := by
  rcases hown.form with ⟨rfl, rfl, rfl⟩ | hv
  · obtain ⟨y, w', hr, h2, h3, h4⟩ := run_append_new (P := P) w t ty e i z size bytes ht hi hz hsize hby hzs hsz x m news hx h1 (by omega) (by rw [Nat.zero_add] at hbytes; exact hbytes)
    rw [Nat.zero_add, List.nil_append]
    exact ⟨y, w', hr, h2, ⟨h3.os, h3.tape, h3.output, h3.size, fun k hk _ => h3.block k hk⟩, fun b hb => .inr (h4 b hb)⟩
  · obtain ⟨y, w', hr, _, h2, h3, h4⟩ := run_append_any (P := P) w t ty e i z size bytes ht hi hz hsize hby hzs hsz v n xs hown hv x m news hx (hx.form.symm.imp id (fun h => h.1)) h1 h63 hbytes
    exact ⟨y, w', hr, h2, h3, fun b hb => (h4 b hb).imp id (fun e => by omega)⟩

theorem wp_append_every {o : Oper} {a : Act} {K : Act → World → Prop} {Q : Exit → Act → World → Prop} (s x : Operand) (t : TypeId)
    (ho : o.op = .call { callee := .builtin .append, args := #[s, x], argTypes := #[t, t] })
    (e : TypeId) (i : TypeInfo) (z : Value) (size bytes : Nat) (ht : P.underlying t = some (.slice e)) (hi : P.info? e = some i) (hz : i.zero = some z)
    (hsize : i.size = size) (hby : i.bytes = bytes) (hzs : z.cells.size = size) (hsz : 0 < size)
    (v : Value) (n : Nat) (xs : List Value) (hs : a.eval s = v) (hown : Seg w e size v n xs)
    (y : Value) (m : Nat) (news : List Value) (hx : a.eval x = y) (hnew : Seg w e size y m news) (h1 : ∀ u ∈ news, u.oneCell' = true)
    (h63 : n + m ≤ maxLen) (hbytes : (n + m) * bytes ≤ 140737488355328)
    (h : ∀ r w', Seg w' e size r (n + m) (xs ++ news) → w.grownBy w' v.ownBlock → (∀ b, r.ownBlock = some b → v.ownBlock = some b ∨ w.heap.size ≤ b) → K (a.put o.dst r) w') : o.wp P a w K Q := by
  obtain ⟨r, w', hr, h2, h3, h4⟩ := run_append_every (P := P) w t o.type e i z size bytes ht hi hz hsize hby hzs hsz v n xs hown y m news hnew h1 h63 hbytes
  unfold Oper.wp execOp
  simp only [ho, resolve, invoke, builtin, Sem.run_bind, Sem.run_pure, Result.andThen_ok, List.map_toArray, List.map_cons, List.map_nil, hs, hx, hr]
  exact h r w' h2 h3 h4

/-- At the list of a plain region's operations. -/
theorem wpList_append_every {ops : Array Oper} {rest : List Oper} {o : Oper} {a : Act} {Q : Exit → Act → World → Prop} (hgd : o.guard = none) (s x : Operand) (t : TypeId)
    (ho : o.op = .call { callee := .builtin .append, args := #[s, x], argTypes := #[t, t] })
    (e : TypeId) (i : TypeInfo) (z : Value) (size bytes : Nat) (ht : P.underlying t = some (.slice e)) (hi : P.info? e = some i) (hz : i.zero = some z)
    (hsize : i.size = size) (hby : i.bytes = bytes) (hzs : z.cells.size = size) (hsz : 0 < size)
    (v : Value) (n : Nat) (xs : List Value) (hs : a.eval s = v) (hown : Seg w e size v n xs)
    (y : Value) (m : Nat) (news : List Value) (hx : a.eval x = y) (hnew : Seg w e size y m news) (h1 : ∀ u ∈ news, u.oneCell' = true)
    (h63 : n + m ≤ maxLen) (hbytes : (n + m) * bytes ≤ 140737488355328)
    (h : ∀ r w', Seg w' e size r (n + m) (xs ++ news) → w.grownBy w' v.ownBlock → (∀ b, r.ownBlock = some b → v.ownBlock = some b ∨ w.heap.size ≤ b) → wpList P ops Q rest (a.put o.dst r) w') : wpList P ops Q (o :: rest) a w :=
  wpList_plain hgd fun _ hK => wp_append_every w s x t ho e i z size bytes ht hi hz hsize hby hzs hsz v n xs hs hown y m news hx hnew h1 h63 hbytes fun r w' h2 h3 h4 => hK _ _ (h r w' h2 h3 h4)

/-- At a step of a region that draws its order. -/
theorem step_append_every {ops : Array Oper} {o : Oper} {a : Act} {K : Act → World → Prop} {Q : Exit → Act → World → Prop} {E : Prop} (hgd : o.guard = none) (s x : Operand) (t : TypeId)
    (ho : o.op = .call { callee := .builtin .append, args := #[s, x], argTypes := #[t, t] })
    (e : TypeId) (i : TypeInfo) (z : Value) (size bytes : Nat) (ht : P.underlying t = some (.slice e)) (hi : P.info? e = some i) (hz : i.zero = some z)
    (hsize : i.size = size) (hby : i.bytes = bytes) (hzs : z.cells.size = size) (hsz : 0 < size)
    (v : Value) (n : Nat) (xs : List Value) (hs : a.eval s = v) (hown : Seg w e size v n xs)
    (y : Value) (m : Nat) (news : List Value) (hx : a.eval x = y) (hnew : Seg w e size y m news) (h1 : ∀ u ∈ news, u.oneCell' = true)
    (h63 : n + m ≤ maxLen) (hbytes : (n + m) * bytes ≤ 140737488355328)
    (h : ∀ r w', Seg w' e size r (n + m) (xs ++ news) → w.grownBy w' v.ownBlock → (∀ b, r.ownBlock = some b → v.ownBlock = some b ∨ w.heap.size ≤ b) → K (a.put o.dst r) w') :
    if Region.wanted o (yielded ops a.tmps) = true then Oper.wp P o a w K Q else E := by
  have hw : Region.wanted o (yielded ops a.tmps) = true := by simp [Region.wanted, hgd]
  rw [if_pos hw]
  exact wp_append_every w s x t ho e i z size bytes ht hi hz hsize hby hzs hsz v n xs hs hown y m news hx hnew h1 h63 hbytes h

/-- s[k:] of a slice that lies somewhere; at its cap its address stays, and it is empty. -/
theorem Seg.rest {w : World} {e : TypeId} {size n g off c : Nat} {xs : List Value} (h : Seg w e size (.slice (some ⟨g, off, none⟩) n c) n xs) (k : Nat) (hk : k ≤ n) :
    Seg w e size (.slice (some (if c = k then ⟨g, off, none⟩ else ⟨g, off + k * size, none⟩)) (n - k) (c - k)) (n - k) (xs.drop (k * size)) := by
  by_cases hc : c = k
  · rw [if_pos hc]
    have hnc : n ≤ c := by
      obtain ⟨a, c', h1, h2, _⟩ := h.slice
      simp only [Value.slice.injEq] at h1
      omega
    have hn0 : n - k = 0 := by omega
    have hd : xs.drop (k * size) = [] := by
      refine List.drop_eq_nil_of_le ?_
      rw [h.1]
      exact Nat.mul_le_mul_right _ (by omega)
    rw [hd, hn0]
    rcases h.2 with ⟨h1, _⟩ | ⟨g', off', cap, cur, h1, hg, hc1, hc2, hc3, hx⟩
    · cases h1
    · simp only [Value.slice.injEq, Option.some.injEq, Addr.mk.injEq, and_true, true_and] at h1
      obtain ⟨⟨rfl, rfl⟩, rfl⟩ := h1
      refine ⟨by simp, .inr ⟨g, off, c - k, cur, rfl, hg, Nat.zero_le _, by omega, ?_, by simp⟩⟩
      have : (c - k) * size ≤ c * size := Nat.mul_le_mul_right _ (by omega)
      omega
  · rw [if_neg hc]
    exact h.behind k hk
end
end Go.Proofs.YtdoadmkaoboncaaGreatDoor
