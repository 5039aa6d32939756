/- clear(s[i:j]) of a slice that lies anywhere; append([]T(nil), l...): what comes of them. Of no program. -/
import Derived.Test.YtdoadmkaoboncaaGreatDoorCopyN
namespace Go.Proofs.YtdoadmkaoboncaaGreatDoor
open Go Go.RowKit

/-- The cells of k elements that are zero. -/
def zeroC (z : Array Value) (k : Nat) : List Value := (Builtin.zeroCells z k).toList
theorem zeroC_len (z : Array Value) (k : Nat) : (zeroC z k).length = k * z.size := by simp [zeroC, Builtin.zeroCells]

section
variable {P : Program} (w : World)

theorem run_clear_seg (t ty e : TypeId) (z : Value) (size : Nat) (ht : P.underlying t = some (.slice e)) (hv : ∀ w, (zeroValue e).run P w = .ok z w) (hzs : z.cells.size = size) (h1 : ∀ u ∈ z.cells, u.oneCell' = true)
    (g off n c : Nat) (xs : List Value) (h : Seg w e size (.slice (some ⟨g, off, none⟩) n c) n xs) (i k c' : Nat) (hik : i + k ≤ n) :
    ∃ w', (Builtin.clear_ #[t] ty #[.slice (some ⟨g, off + i * size, none⟩) k c']).run P w = .ok (.tuple #[]) w' ∧
      Seg w' e size (.slice (some ⟨g, off, none⟩) n c) n (xs.take (i * size) ++ zeroC z.cells k ++ xs.drop ((i + k) * size)) ∧ w.grownBy w' (some g) := by
  rcases h.2 with ⟨h0, _⟩ | ⟨g', off', cap, cur, h0, hg, hnc, hcm, hcs, hx⟩
  · cases h0
  simp only [Value.slice.injEq, Option.some.injEq, Addr.mk.injEq, and_true, true_and] at h0
  obtain ⟨⟨rfl, rfl⟩, rfl⟩ := h0
  have hlen := h.1
  by_cases hk : k = 0
  · subst hk
    refine ⟨w, by simp [Builtin.clear_, run_underlying ht], ?_, rfl, rfl, rfl, Nat.le_refl _, fun _ _ _ => rfl⟩
    rw [show zeroC z.cells 0 = [] from List.eq_nil_of_length_eq_zero (by rw [zeroC_len, Nat.zero_mul]), List.append_nil, Nat.add_zero, List.take_append_drop]
    exact h
  have e1 : (i + k) * size = i * size + k * size := Nat.add_mul _ _ _
  have e2 : (i + k) * size ≤ n * size := Nat.mul_le_mul_right _ hik
  have e3 : n * size ≤ c * size := Nat.mul_le_mul_right _ hnc
  have hzl : (zeroC z.cells k).length = k * size := by rw [zeroC_len, hzs]
  have hz1 : ∀ u ∈ zeroC z.cells k, u.oneCell' = true := by
    intro u hu
    unfold zeroC at hu
    rw [Array.mem_toList_iff] at hu
    unfold Builtin.zeroCells at hu
    obtain ⟨j, hj0, rfl⟩ := Array.mem_map.1 hu
    have hs : 0 < z.cells.size := by
      have := Array.mem_range.1 hj0
      rcases Nat.eq_zero_or_pos z.cells.size with hs | hs
      · rw [hs] at this; omega
      · exact hs
    have hj : j % z.cells.size < z.cells.size := Nat.mod_lt _ hs
    rw [getElem!_pos z.cells (j % z.cells.size) hj]
    exact h1 _ (Array.getElem_mem hj)
  have hst := run_storeCells_at P g (off + i * size) e (zeroC z.cells k) 0 cur w hg (by rw [hzl]; omega) hz1
  simp only [Nat.add_zero] at hst
  obtain ⟨m, rfl⟩ : ∃ m, k = m + 1 := ⟨k - 1, by omega⟩
  refine ⟨w.setRow g (cur.toList.take (off + i * size) ++ zeroC z.cells (m + 1) ++ cur.toList.drop (off + i * size + (zeroC z.cells (m + 1)).length)).toArray, ?_, ⟨?_, .inr ⟨g, off, c, _, rfl, setRow_heap w g cur _ e _ hg, hnc, hcm, ?_, ?_⟩⟩, rfl, rfl, rfl, by simp, fun b _ hb => setRow_other w g b _ (fun e => hb (by rw [e]))⟩
  · simp only [Builtin.clear_]
    simp [run_underlying ht, hv, zeroC] at hst ⊢
    simp [hst]
  · simp only [List.length_append, List.length_take, List.length_drop, hlen, hzl]
    omega
  · simp only [List.size_toArray, List.length_append, List.length_take, List.length_drop, Array.length_toList, hzl]
    omega
  · have e4 : (cur.toList.take (off + i * size)).drop off = xs.take (i * size) := by
      rw [List.drop_take, ← hx, List.take_take]
      congr 1
      omega
    have e5 : off ≤ (cur.toList.take (off + i * size)).length := by simp only [List.length_take, Array.length_toList]; omega
    show (List.drop off (cur.toList.take (off + i * size) ++ zeroC z.cells (m + 1) ++ cur.toList.drop (off + i * size + (zeroC z.cells (m + 1)).length))).take _ = _
    have e6 : xs.drop ((i + (m + 1)) * size) = (cur.toList.drop (off + i * size + (zeroC z.cells (m + 1)).length)).take (n * size - (i + (m + 1)) * size) := by
      rw [← hx, List.drop_take, List.drop_drop, hzl]
      congr 2
      omega
    rw [List.append_assoc, List.drop_append_of_le_length e5, e4, e6, ← List.append_assoc, List.take_append, List.take_of_length_le]
    · congr 2
      simp only [List.length_append, List.length_take, hlen, hzl]
      omega
    · simp only [List.length_append, List.length_take, hlen, hzl]
      omega

/-- append([]T(nil), l...): the same elsewhere, or nothing. -/
theorem run_append_new (t ty : TypeId) (e : TypeId) (i : TypeInfo) (z : Value) (size bytes : Nat) (ht : P.underlying t = some (.slice e)) (hi : P.info? e = some i) (hz : i.zero = some z)
    (hsize : i.size = size) (hby : i.bytes = bytes) (hzs : z.cells.size = size) (hsz : 0 < size)
    (x : Value) (m : Nat) (news : List Value) (hx : Seg w e size x m news) (h1 : ∀ u ∈ news, u.oneCell' = true)
    (h63 : m ≤ maxLen) (hbytes : m * bytes ≤ 140737488355328) :
    ∃ y w', (Builtin.append_ #[t, t] ty #[.slice none 0 0, x]).run P w = .ok y w' ∧
      Seg w' e size y m news ∧ Below w.heap.size w w' ∧ (∀ b, y.ownBlock = some b → w.heap.size ≤ b) := by
  by_cases hm : 0 < m
  · obtain ⟨gx, ox, cx, rfl, _⟩ := hx.cells hm
    obtain ⟨g, off, cap, w', hr, h2, h3, h4, h5⟩ := run_append_seg (P := P) w t ty e i z size bytes ht hi hz hsize hby hzs hsz (.slice none 0 0) 0 [] (Seg.nil w e size) ⟨gx, ox, none⟩ m cx news hx.1 hx.news h1 hm (by omega) (by rw [Nat.zero_add]; exact hbytes) _ rfl
    rw [Nat.zero_add, List.nil_append] at h2
    rw [Nat.zero_add] at hr
    refine ⟨_, w', hr, h2, ⟨h3.os, h3.tape, h3.output, h3.size, fun k hk => h3.block k hk (by intro e; cases e)⟩, fun b hb => ?_⟩
    injection hb with hb
    subst hb
    rcases h4 with h4 | h4
    · cases h4
    · exact Nat.le_of_eq h4.symm
  · obtain rfl : m = 0 := by omega
    obtain rfl : news = [] := List.eq_nil_of_length_eq_zero (by rw [hx.1, Nat.zero_mul])
    subst hsize
    refine ⟨.slice none 0 0, w, ?_, Seg.nil w e _, Below.refl _ _, fun b hb => by cases hb⟩
    rcases hx.2 with ⟨rfl, _⟩ | ⟨g, off, cap, cur, rfl, _⟩ <;> simp [Builtin.append_, run_underlying ht, sizeOf, typeInfo, hi, Builtin.lenOf, Builtin.firstCells, loadCells, loadCellsFrom, Result.andThen]

/-- At the list of a plain region's operations. -/
theorem wpList_append_new {ops : Array Oper} {rest : List Oper} {o : Oper} {a : Act} {Q : Exit → Act → World → Prop} (hgd : o.guard = none) (s x : Operand) (t : TypeId)
    (ho : o.op = .call { callee := .builtin .append, args := #[s, x], argTypes := #[t, t] })
    (e : TypeId) (i : TypeInfo) (z : Value) (size bytes : Nat) (ht : P.underlying t = some (.slice e)) (hi : P.info? e = some i) (hz : i.zero = some z)
    (hsize : i.size = size) (hby : i.bytes = bytes) (hzs : z.cells.size = size) (hsz : 0 < size) (hs : a.eval s = .slice none 0 0)
    (y : Value) (m : Nat) (news : List Value) (hx : a.eval x = y) (hnew : Seg w e size y m news) (h1 : ∀ u ∈ news, u.oneCell' = true)
    (h63 : m ≤ maxLen) (hbytes : m * bytes ≤ 140737488355328)
    (h : ∀ r w', Seg w' e size r m news → Below w.heap.size w w' → (∀ b, r.ownBlock = some b → w.heap.size ≤ b) → wpList P ops Q rest (a.put o.dst r) w') : wpList P ops Q (o :: rest) a w :=
  wpList_plain hgd fun K hK => by
    obtain ⟨r, w', hr, h2, h3, h4⟩ := run_append_new (P := P) w t o.type e i z size bytes ht hi hz hsize hby hzs hsz y m news hnew h1 h63 hbytes
    unfold Oper.wp execOp
    simp only [ho, resolve, invoke, builtin, Sem.run_bind, Sem.run_pure, Result.andThen_ok, List.map_toArray, List.map_cons, List.map_nil, hs, hx, hr]
    exact hK _ _ (h r w' h2 h3 h4)

/-- clear, at the list of a plain region's operations. -/
theorem wpList_clear_seg {ops : Array Oper} {rest : List Oper} {o : Oper} {a : Act} {Q : Exit → Act → World → Prop} (hgd : o.guard = none) (s : Operand) (t : TypeId)
    (ho : o.op = .call { callee := .builtin .clear, args := #[s], argTypes := #[t] })
    (e : TypeId) (z : Value) (size : Nat) (ht : P.underlying t = some (.slice e)) (hv : ∀ w, (zeroValue e).run P w = .ok z w) (hzs : z.cells.size = size) (h1 : ∀ u ∈ z.cells, u.oneCell' = true)
    (g off n c : Nat) (xs : List Value) (hs : Seg w e size (.slice (some ⟨g, off, none⟩) n c) n xs) (i k c' : Nat) (hik : i + k ≤ n) (he : a.eval s = .slice (some ⟨g, off + i * size, none⟩) k c')
    (h : ∀ w', Seg w' e size (.slice (some ⟨g, off, none⟩) n c) n (xs.take (i * size) ++ zeroC z.cells k ++ xs.drop ((i + k) * size)) → w.grownBy w' (some g) → wpList P ops Q rest (a.put o.dst (.tuple #[])) w') : wpList P ops Q (o :: rest) a w :=
  wpList_plain hgd fun K hK => by
    obtain ⟨w', hr, h2, h3⟩ := run_clear_seg (P := P) w t o.type e z size ht hv hzs h1 g off n c xs hs i k c' hik
    unfold Oper.wp execOp
    simp only [ho, resolve, invoke, builtin, Sem.run_bind, Sem.run_pure, Result.andThen_ok, List.map_toArray, List.map_cons, List.map_nil, he, hr]
    exact hK _ _ (h w' h2 h3)

/-- clear of a slice that is nil. -/
theorem wpList_clear_nil {ops : Array Oper} {rest : List Oper} {o : Oper} {a : Act} {Q : Exit → Act → World → Prop} (hgd : o.guard = none) (s : Operand) (t e : TypeId)
    (ho : o.op = .call { callee := .builtin .clear, args := #[s], argTypes := #[t] }) (ht : P.underlying t = some (.slice e)) (he : a.eval s = .slice none 0 0)
    (h : wpList P ops Q rest (a.put o.dst (.tuple #[])) w) : wpList P ops Q (o :: rest) a w :=
  wpList_plain hgd fun K hK => by
    have hr : (Builtin.clear_ #[t] o.type #[.slice none 0 0]).run P w = .ok (.tuple #[]) w := by simp [Builtin.clear_, run_underlying ht]
    unfold Oper.wp execOp
    simp only [ho, resolve, invoke, builtin, Sem.run_bind, Sem.run_pure, Result.andThen_ok, List.map_toArray, List.map_cons, List.map_nil, he, hr]
    exact hK _ _ h
end
end Go.Proofs.YtdoadmkaoboncaaGreatDoor
