/- Texts laid into one: Clr, TreeK. -/
import Derived.Test.YtcdedkgkingbdaaGreatDoorQ007
section
/- clear(s[i:j]) of a slice that lies anywhere; append([]T(nil), l...): what comes of them. Of no program. -/
namespace Go.Proofs.YtcdedkgkingbdaaGreatDoor
open Go Go.RowKit

/-- The cells of k elements that are zero. -/
def zeroC (z : Array Value) (k : Nat) : List Value := (Builtin.zeroCells z k).toList
theorem zeroC_len (z : Array Value) (k : Nat) : (zeroC z k).length = k * z.size := by simp [zeroC, Builtin.zeroCells]

section
variable {P : Program} (w : World)

theorem run_clear_seg (t ty e : TypeId) (z : Value) (size : Nat) (ht : P.underlying t = some (.slice e)) (hv : ∀ w, (zeroValue e).run P w = .ok z w) (hzs : z.cells.size = size) (h1 : ∀ u ∈ z.cells, u.oneCell' = true)
    (g off n c : Nat) (xs : List Value) (h : Seg w e size (.slice (some ⟨g, off, none⟩) n c) n xs) (i k c' : Nat) (hik : i + k ≤ n) :
    ∃ w', (Builtin.clear_ #[t] ty #[.slice (some ⟨g, off + i * size, none⟩) k c']).run P w = .ok (.tuple #[]) w' ∧
      Seg w' e size (.slice (some ⟨g, off, none⟩) n c) n (xs.take (i * size) ++ zeroC z.cells k ++ xs.drop ((i + k) * size)) ∧ w.grownBy w' (some g) := by
  rcases h.2 with ⟨h0, _⟩ | ⟨g', off', cap, cur, h0, hg, hnc, hcm, hcs, hx⟩
  · cases h0
  simp only [Value.slice.injEq, Option.some.injEq, Addr.mk.injEq, and_true, true_and] at h0
  obtain ⟨⟨rfl, rfl⟩, rfl⟩ := h0
  have hlen := h.1
  by_cases hk : k = 0
  · subst hk
    refine ⟨w, by simp [Builtin.clear_, run_underlying ht], ?_, rfl, rfl, rfl, Nat.le_refl _, fun _ _ _ => rfl⟩
    rw [show zeroC z.cells 0 = [] from List.eq_nil_of_length_eq_zero (by rw [zeroC_len, Nat.zero_mul]), List.append_nil, Nat.add_zero, List.take_append_drop]
    exact h
  have e1 : (i + k) * size = i * size + k * size := Nat.add_mul _ _ _
  have e2 : (i + k) * size ≤ n * size := Nat.mul_le_mul_right _ hik
  have e3 : n * size ≤ c * size := Nat.mul_le_mul_right _ hnc
  have hzl : (zeroC z.cells k).length = k * size := by rw [zeroC_len, hzs]
  have hz1 : ∀ u ∈ zeroC z.cells k, u.oneCell' = true := by
    intro u hu
    unfold zeroC at hu
    rw [Array.mem_toList_iff] at hu
    unfold Builtin.zeroCells at hu
    obtain ⟨j, hj0, rfl⟩ := Array.mem_map.1 hu
    have hs : 0 < z.cells.size := by
      have := Array.mem_range.1 hj0
      rcases Nat.eq_zero_or_pos z.cells.size with hs | hs
      · rw [hs] at this; omega
      · exact hs
    have hj : j % z.cells.size < z.cells.size := Nat.mod_lt _ hs
    rw [getElem!_pos z.cells (j % z.cells.size) hj]
    exact h1 _ (Array.getElem_mem hj)
  have hst := run_storeCells_at P g (off + i * size) e (zeroC z.cells k) 0 cur w hg (by rw [hzl]; omega) hz1
  simp only [Nat.add_zero] at hst
  obtain ⟨m, rfl⟩ : ∃ m, k = m + 1 := ⟨k - 1, by omega⟩
  refine ⟨w.setRow g (cur.toList.take (off + i * size) ++ zeroC z.cells (m + 1) ++ cur.toList.drop (off + i * size + (zeroC z.cells (m + 1)).length)).toArray, ?_, ⟨?_, .inr ⟨g, off, c, _, rfl, setRow_heap w g cur _ e _ hg, hnc, hcm, ?_, ?_⟩⟩, rfl, rfl, rfl, by simp, fun b _ hb => setRow_other w g b _ (fun e => hb (by rw [e]))⟩
  · simp only [Builtin.clear_]
    simp [run_underlying ht, hv, zeroC] at hst ⊢
    simp [hst]
  · simp only [List.length_append, List.length_take, List.length_drop, hlen, hzl]
    omega
  · simp only [List.size_toArray, List.length_append, List.length_take, List.length_drop, Array.length_toList, hzl]
    omega
  · have e4 : (cur.toList.take (off + i * size)).drop off = xs.take (i * size) := by
      rw [List.drop_take, ← hx, List.take_take]
      congr 1
      omega
    have e5 : off ≤ (cur.toList.take (off + i * size)).length := by simp only [List.length_take, Array.length_toList]; omega
    show (List.drop off (cur.toList.take (off + i * size) ++ zeroC z.cells (m + 1) ++ cur.toList.drop (off + i * size + (zeroC z.cells (m + 1)).length))).take _ = _
    have e6 : xs.drop ((i + (m + 1)) * size) = (cur.toList.drop (off + i * size + (zeroC z.cells (m + 1)).length)).take (n * size - (i + (m + 1)) * size) := by
      rw [← hx, List.drop_take, List.drop_drop, hzl]
      congr 2
      omega
    rw [List.append_assoc, List.drop_append_of_le_length e5, e4, e6, ← List.append_assoc, List.take_append, List.take_of_length_le]
    · congr 2
      simp only [List.length_append, List.length_take, hlen, hzl]
      omega
    · simp only [List.length_append, List.length_take, hlen, hzl]
      omega

/-- append([]T(nil), l...): the same elsewhere, or nothing. -/
theorem run_append_new (t ty : TypeId) (e : TypeId) (i : TypeInfo) (z : Value) (size bytes : Nat) (ht : P.underlying t = some (.slice e)) (hi : P.info? e = some i) (hz : i.zero = some z)
    (hsize : i.size = size) (hby : i.bytes = bytes) (hzs : z.cells.size = size) (hsz : 0 < size)
    (x : Value) (m : Nat) (news : List Value) (hx : Seg w e size x m news) (h1 : ∀ u ∈ news, u.oneCell' = true)
    (h63 : m ≤ maxLen) (hbytes : m * bytes ≤ 140737488355328) :
    ∃ y w', (Builtin.append_ #[t, t] ty #[.slice none 0 0, x]).run P w = .ok y w' ∧
      Seg w' e size y m news ∧ Below w.heap.size w w' ∧ (∀ b, y.ownBlock = some b → w.heap.size ≤ b) := by
  by_cases hm : 0 < m
  · obtain ⟨gx, ox, cx, rfl, _⟩ := hx.cells hm
    obtain ⟨g, off, cap, w', hr, h2, h3, h4, h5⟩ := run_append_seg (P := P) w t ty e i z size bytes ht hi hz hsize hby hzs hsz (.slice none 0 0) 0 [] (Seg.nil w e size) ⟨gx, ox, none⟩ m cx news hx.1 hx.news h1 hm (by omega) (by rw [Nat.zero_add]; exact hbytes) _ rfl
    rw [Nat.zero_add, List.nil_append] at h2
    rw [Nat.zero_add] at hr
    refine ⟨_, w', hr, h2, ⟨h3.os, h3.tape, h3.output, h3.size, fun k hk => h3.block k hk (by intro e; cases e)⟩, fun b hb => ?_⟩
    injection hb with hb
    subst hb
    rcases h4 with h4 | h4
    · cases h4
    · exact Nat.le_of_eq h4.symm
  · obtain rfl : m = 0 := by omega
    obtain rfl : news = [] := List.eq_nil_of_length_eq_zero (by rw [hx.1, Nat.zero_mul])
    subst hsize
    refine ⟨.slice none 0 0, w, ?_, Seg.nil w e _, Below.refl _ _, fun b hb => by cases hb⟩
    rcases hx.2 with ⟨rfl, _⟩ | ⟨g, off, cap, cur, rfl, _⟩ <;> simp [Builtin.append_, run_underlying ht, sizeOf, typeInfo, hi, Builtin.lenOf, Builtin.firstCells, loadCells, loadCellsFrom, Result.andThen]

/-- At the list of a plain region's operations. -/
theorem wpList_append_new {ops : Array Oper} {rest : List Oper} {o : Oper} {a : Act} {Q : Exit → Act → World → Prop} (hgd : o.guard = none) (s x : Operand) (t : TypeId)
    (ho : o.op = .call { callee := .builtin .append, args := #[s, x], argTypes := #[t, t] })
    (e : TypeId) (i : TypeInfo) (z : Value) (size bytes : Nat) (ht : P.underlying t = some (.slice e)) (hi : P.info? e = some i) (hz : i.zero = some z)
    (hsize : i.size = size) (hby : i.bytes = bytes) (hzs : z.cells.size = size) (hsz : 0 < size) (hs : a.eval s = .slice none 0 0)
    (y : Value) (m : Nat) (news : List Value) (hx : a.eval x = y) (hnew : Seg w e size y m news) (h1 : ∀ u ∈ news, u.oneCell' = true)
    (h63 : m ≤ maxLen) (hbytes : m * bytes ≤ 140737488355328)
    (h : ∀ r w', Seg w' e size r m news → Below w.heap.size w w' → (∀ b, r.ownBlock = some b → w.heap.size ≤ b) → wpList P ops Q rest (a.put o.dst r) w') : wpList P ops Q (o :: rest) a w :=
  wpList_plain hgd fun K hK => by
    obtain ⟨r, w', hr, h2, h3, h4⟩ := run_append_new (P := P) w t o.type e i z size bytes ht hi hz hsize hby hzs hsz y m news hnew h1 h63 hbytes
    unfold Oper.wp execOp
    simp only [ho, resolve, invoke, builtin, Sem.run_bind, Sem.run_pure, Result.andThen_ok, List.map_toArray, List.map_cons, List.map_nil, hs, hx, hr]
    exact hK _ _ (h r w' h2 h3 h4)

end
end Go.Proofs.YtcdedkgkingbdaaGreatDoor
end

section
/- tree: copied; a row that forgets: what is kept. -/
namespace Go.Proofs.YtcdedkgkingbdaaGreatDoor.dig
open Go Go.RowKit

/-- A function with one value changed. -/
def upd {α : Type} (g : Nat → α) (j : Nat) (x : α) : Nat → α := fun i => if i = j then x else g i
theorem upd_at {α : Type} (g : Nat → α) (j : Nat) (x : α) : upd g j x j = x := if_pos rfl
theorem upd_ne {α : Type} (g : Nat → α) {i j : Nat} (x : α) (h : i ≠ j) : upd g j x i = g i := if_neg h
theorem upd_upd {α : Type} (g : Nat → α) (j : Nat) (x y : α) : upd (upd g j x) j y = upd g j y := by
  funext i
  unfold upd
  by_cases h : i = j
  · rw [if_pos h, if_pos h]
  · rw [if_neg h, if_neg h, if_neg h]

theorem sum_one {f : Nat → List UInt8} {j a k : Nat} : ∀ u ∈ flat (nodeC f j) a k, u.oneCell' = true := by
  intro u hu
  unfold flat at hu
  obtain ⟨i, _, hi⟩ := List.mem_flatMap.1 hu
  refine byteV_one (rt f (i * 2 ^ j) (2 ^ j)) u ?_
  simpa [nodeC, cellsOf] using hi

section
variable {F : Nat → Prop} {w W W' : World} {b n fl K : Nat} {g c : Nat → Nat} {f : Nat → List UInt8} {rv : Value} {sv : Nat → Value} {idle : Nat → Nat}

/-- Row j is another one. -/
theorem Raw.recut (h : Raw F w b n fl K g c f rv sv idle) {R o cap j G idl : Nat} {v' : Value} (hrv : rv = .slice (some ⟨R, o, none⟩) K cap) (hj : j < K)
    (T : Turn (fun k => k = R ∨ (sv j).ownBlock = some k) w W')
    (hs : Seg W' 84 32 v' (c j - G) (flat (nodeC f j) G (c j - G)))
    (hat : ∀ x, v'.ownBlock = some x → (sv j).ownBlock = some x ∨ w.heap.size ≤ x)
    (hrows : Seg W' 218 3 rv K (flat (rowC (upd g j G) (upd sv j v') (upd idle j idl)) 0 K)) (hi : idl ≤ 1000000) :
    Raw (fun k => F k ∨ w.heap.size ≤ k) W' b n fl K (upd g j G) c f rv (upd sv j v') (upd idle j idl) := by
  have hR : rv.ownBlock = some R := by rw [hrv]; rfl
  have hbR : b ≠ R := fun e => h.rv_b (by rw [hR, e])
  refine ⟨?_, hrows, ?_, ?_, .inl h.fb, fun x hx => .inl (h.fr x hx), ?_, ?_⟩
  · exact h.tree.turn T (fun e => by
      rcases e with e | e
      · exact hbR e
      · exact h.sv_b hj e)
  · intro i hi
    by_cases hij : i = j
    · subst hij
      rw [upd_at, upd_at]
      exact hs
    · rw [upd_ne _ _ hij, upd_ne _ _ hij]
      exact (h.sums i hi).turn T (fun x hx e => by
        rcases e with e | e
        · exact h.rv_sv hi R hR (by rw [hx, e])
        · exact h.apart i j hi hj hij x hx e)
  · intro i1 i2 h1 h2 hne x hx
    by_cases e1 : i1 = j
    · subst e1
      rw [upd_at] at hx
      rw [upd_ne _ _ (fun e => hne e.symm)]
      intro e
      rcases hat x hx with hat | hat
      · exact h.apart i1 i2 h1 h2 hne x hat e
      · have := (h.sums i2 h2).lt e; omega
    · rw [upd_ne _ _ e1] at hx
      by_cases e2 : i2 = j
      · subst e2
        rw [upd_at]
        intro e
        rcases hat x e with hat | hat
        · exact h.apart i1 i2 h1 h2 hne x hx hat
        · have := (h.sums i1 h1).lt hx; omega
      · rw [upd_ne _ _ e2]
        exact h.apart i1 i2 h1 h2 hne x hx
  · intro i hi x hx
    by_cases e1 : i = j
    · subst e1
      rw [upd_at] at hx
      exact (hat x hx).imp (fun e => h.fs i hi _ e) id
    · rw [upd_ne _ _ e1] at hx
      exact .inl (h.fs i hi x hx)
  · intro i hi
    by_cases e1 : i = j
    · subst e1
      rw [upd_at]; assumption
    · rw [upd_ne _ _ e1]
      exact h.idle i hi

/-- The rows' block, where cells of row j are written. -/
theorem rows_set0 {R o cap j : Nat} (h : Seg w 218 3 (.slice (some ⟨R, o, none⟩) K cap) K (flat (rowC g sv idle) 0 K)) (hj : j < K) (G : Nat) :
    Seg (w.setCell ⟨R, o + j * 3, none⟩ (.int .i64 G)) 218 3 (.slice (some ⟨R, o, none⟩) K cap) K (flat (rowC (upd g j G) sv idle) 0 K) := by
  have h2 := h.put (j * 3 + 0) (.int .i64 G)
  rw [flat_set (fun i _ _ => rowC_len _ _ _ i) hj (by omega), Nat.add_zero] at h2
  have e : flat (fun i => if i = 0 + j then (rowC g sv idle i).set 0 (.int .i64 G) else rowC g sv idle i) 0 K = flat (rowC (upd g j G) sv idle) 0 K := by
    refine flat_congr fun i _ _ => ?_
    simp only [Nat.zero_add]
    by_cases hi : i = j
    · rw [if_pos hi]; simp [rowC, upd, hi]
    · rw [if_neg hi]; simp [rowC, upd, hi]
  rw [← e]
  exact h2
theorem rows_set1 {R o cap j : Nat} (h : Seg w 218 3 (.slice (some ⟨R, o, none⟩) K cap) K (flat (rowC g sv idle) 0 K)) (hj : j < K) (v : Value) :
    Seg (w.setCell ⟨R, o + j * 3 + 1, none⟩ v) 218 3 (.slice (some ⟨R, o, none⟩) K cap) K (flat (rowC g (upd sv j v) idle) 0 K) := by
  have h2 := h.put (j * 3 + 1) v
  rw [flat_set (fun i _ _ => rowC_len _ _ _ i) hj (by omega), ← Nat.add_assoc] at h2
  have e : flat (fun i => if i = 0 + j then (rowC g sv idle i).set 1 v else rowC g sv idle i) 0 K = flat (rowC g (upd sv j v) idle) 0 K := by
    refine flat_congr fun i _ _ => ?_
    simp only [Nat.zero_add]
    by_cases hi : i = j
    · rw [if_pos hi]; simp [rowC, upd, hi]
    · rw [if_neg hi]; simp [rowC, upd, hi]
  rw [← e]
  exact h2
theorem rows_set2 {R o cap j : Nat} (h : Seg w 218 3 (.slice (some ⟨R, o, none⟩) K cap) K (flat (rowC g sv idle) 0 K)) (hj : j < K) (d : Nat) :
    Seg (w.setCell ⟨R, o + j * 3 + 2, none⟩ (.int .i64 d)) 218 3 (.slice (some ⟨R, o, none⟩) K cap) K (flat (rowC g sv (upd idle j d)) 0 K) := by
  have h2 := h.put (j * 3 + 2) (.int .i64 d)
  rw [flat_set (fun i _ _ => rowC_len _ _ _ i) hj (by omega), ← Nat.add_assoc] at h2
  have e : flat (fun i => if i = 0 + j then (rowC g sv idle i).set 2 (.int .i64 d) else rowC g sv idle i) 0 K = flat (rowC g sv (upd idle j d)) 0 K := by
    refine flat_congr fun i _ _ => ?_
    simp only [Nat.zero_add]
    by_cases hi : i = j
    · rw [if_pos hi]; simp [rowC, upd, hi]
    · rw [if_neg hi]; simp [rowC, upd, hi]
  rw [← e]
  exact h2
end

set_option maxRecDepth 100000 in
set_option maxHeartbeats 1000000 in
theorem copied_calls (v : Value) (m : Nat) (xs : List Value) (w : World) (hs : Seg w 84 32 v m xs) (h1 : ∀ u ∈ xs, u.oneCell' = true) (hm : m ≤ 1000000) :
    Calls Tryz.prog 174 #[v] w fun en w' => ∃ y, en = .returned y ∧ Seg w' 84 32 y m xs ∧ (∀ x, y.ownBlock = some x → w.heap.size ≤ x) ∧ Below w.heap.size w w' := by
  obtain ⟨i, z, hi, hz, hsz, hzs, hby⟩ := sumInfo
  obtain ⟨a, c, rfl, _, _⟩ := hs.slice
  have HS := Lib.hid hs
  have H1 := Lib.hid h1
  clear hs h1
  go_enter Tryz.func174, Tryz.ntmps174
  go_wp2_with (first | ((with_reducible refine at_op 4 ?_); refine wpList_append_new (o := ⟨some 4, _, _, _, _, _⟩) _ rfl (.const (.slice none 0 0)) (.tmp 3) 91 rfl 84 i z 32 32 Tryz.underlying91 hi hz hsz hby hzs (by omega) rfl _ m xs rfl HS.out H1.out (by unfold maxLen; omega) (by omega) ?_; intro y W2 s2 b2 o2) | fail)
  go_ret
  exact ⟨y, rfl, s2, o2, b2⟩

/-- The cells of row j. -/
theorem row_cells {w : World} {K : Nat} {g : Nat → Nat} {sv : Nat → Value} {idle : Nat → Nat} {R o cap j : Nat} (h : Seg w 218 3 (.slice (some ⟨R, o, none⟩) K cap) K (flat (rowC g sv idle) 0 K)) (hj : j < K) :
    w.cell? ⟨R, o + j * 3, none⟩ = some (.int .i64 (g j)) ∧ w.cell? ⟨R, o + j * 3 + 1, none⟩ = some (sv j) ∧ w.cell? ⟨R, o + j * 3 + 2, none⟩ = some (.int .i64 (idle j)) ∧ R < w.heap.size ∧ ∀ x, w.frozen? ⟨R, x, none⟩ = false := by
  obtain ⟨R', o', C', hrv, hRl, _, _, hcc⟩ := h.cells (by omega)
  simp only [Value.slice.injEq, Option.some.injEq, Addr.mk.injEq, and_true, true_and] at hrv
  obtain ⟨⟨rfl, rfl⟩, rfl⟩ := hrv
  have g0 := flat_get (g := rowC g sv idle) (a := 0) (k := K) (w := 3) (fun i _ _ => rowC_len _ _ _ i) hj (r := 0) (by omega)
  have g1 := flat_get (g := rowC g sv idle) (a := 0) (k := K) (w := 3) (fun i _ _ => rowC_len _ _ _ i) hj (r := 1) (by omega)
  have g2 := flat_get (g := rowC g sv idle) (a := 0) (k := K) (w := 3) (fun i _ _ => rowC_len _ _ _ i) hj (r := 2) (by omega)
  rw [Nat.zero_add] at g0 g1 g2
  exact ⟨hcc _ _ g0, hcc _ _ g1, hcc _ _ g2, hRl, fun x => h.free x⟩

/-- What a row's forgetting comes to. -/
def ForgetPost (F : Nat → Prop) (w : World) (b n fl K : Nat) (g c : Nat → Nat) (f : Nat → List UInt8) (rv : Value) (j G : Nat) (en : Ending) (w' : World) : Prop :=
  en = .returned (.tuple #[]) ∧ (∃ sv idle, Raw (fun k => F k ∨ w.heap.size ≤ k) w' b n fl K (upd g j G) c f rv sv idle) ∧ Turn F w w'

section
variable {F : Nat → Prop} {w : World} {b n fl K : Nat} {g c : Nat → Nat} {f : Nat → List UInt8} {sv : Nat → Value} {idle : Nat → Nat} {R o cap j G : Nat}

set_option maxRecDepth 100000 in
set_option maxHeartbeats 2000000 in
theorem Raw.forget (h : Raw F w b n fl K g c f (.slice (some ⟨R, o, none⟩) K cap) sv idle) (hj : j < K) (hg : g j ≤ G) (hG : G ≤ c j) (hc : c j ≤ 1000000) (hlen : ∀ i, (f i).length = 32) :
    Calls Tryz.prog 144 #[.pointer (some ⟨R, o + j * 3, none⟩), .int .i64 G] w (ForgetPost F w b n fl K g c f (.slice (some ⟨R, o, none⟩) K cap) j G) := by
  obtain ⟨R', o', C', hrv, hRl, _, _, hcc⟩ := h.rows.cells (by omega)
  simp only [Value.slice.injEq, Option.some.injEq, Addr.mk.injEq, and_true, true_and] at hrv
  obtain ⟨⟨rfl, rfl⟩, rfl⟩ := hrv
  have g0 := flat_get (g := rowC g sv idle) (a := 0) (k := K) (w := 3) (fun i _ _ => rowC_len _ _ _ i) hj (r := 0) (by omega)
  have g1 := flat_get (g := rowC g sv idle) (a := 0) (k := K) (w := 3) (fun i _ _ => rowC_len _ _ _ i) hj (r := 1) (by omega)
  have g2 := flat_get (g := rowC g sv idle) (a := 0) (k := K) (w := 3) (fun i _ _ => rowC_len _ _ _ i) hj (r := 2) (by omega)
  rw [Nat.zero_add] at g0 g1 g2
  have k0 : w.cell? ⟨R, o + j * 3, none⟩ = some (.int .i64 (g j)) := hcc _ _ g0
  have k1 : w.cell? ⟨R, o + j * 3 + 1, none⟩ = some (sv j) := hcc _ _ g1
  have k2 : w.cell? ⟨R, o + j * 3 + 2, none⟩ = some (.int .i64 (idle j)) := hcc _ _ g2
  have fz : ∀ x, w.frozen? ⟨R, x, none⟩ = false := fun x => h.rows.free x
  have hi := h.idle j hj
  have HS := Lib.hid (h.sums j hj)
  have H := Lib.hid h
  obtain ⟨d, hd⟩ : ∃ d, d = G - g j := ⟨_, rfl⟩
  obtain ⟨m, hm⟩ : ∃ m, m = c j - g j := ⟨_, rfl⟩
  obtain ⟨q, hq⟩ : ∃ q, q = g j := ⟨_, rfl⟩
  obtain ⟨v, hv⟩ : ∃ v, v = sv j := ⟨_, rfl⟩
  obtain ⟨l, hl⟩ : ∃ l, l = idle j := ⟨_, rfl⟩
  have hd1 : (G : Int) - (q : Int) = (d : Int) := by omega
  have hdm : d ≤ m := by omega
  have hm6 : m ≤ 1000000 := by omega
  have hq6 : (q : Int) ≤ 1000000 := by omega
  have hG6 : (G : Int) ≤ 1000000 := by omega
  have HD := Lib.hid (show _ ∧ _ ∧ _ ∧ _ ∧ _ from ⟨hd, hm, hq, hv, hl⟩)
  rw [← hq] at k0
  rw [← hv] at k1
  rw [← hl] at k2 hi
  have HC := Lib.hid (show _ ∧ _ ∧ _ ∧ _ from ⟨hg, hG, hc, hlen⟩)
  clear hcc g0 g1 g2 h hg hG hc hlen hd hm hq hv hl
  have FZ := Lib.hid fz
  have hzv : ∀ w, (zeroValue 84).run Tryz.prog w = .ok (.agg (cellsOf (List.replicate 32 0))) w := fun _ => by kernel_rfl
  have HZ := Lib.hid hzv
  clear hzv
  rcases HS.out.2 with ⟨hn, hm0⟩ | ⟨gg, off, cc, cur, hn, hg1, hc1, hc2, hc3, hx⟩
  · have hG0 : g j = G ∧ c j - G = 0 := by have := HD.out; have := HC.out; omega
    have hd0 : d = 0 := by have := HD.out; omega
    subst hd0
    replace hd1 : (G : Int) - (q : Int) = 0 := by omega
    rw [← HD.out.2.2.2.1] at hn
    rw [hn] at k1
    have HV := Lib.hid (show _ ∧ _ from ⟨hn, hG0⟩)
    have hr : (Builtin.clear_ #[91] 0 #[.slice none 0 0]).run Tryz.prog w = .ok (.tuple #[]) w := by simp [Builtin.clear_, run_underlying Tryz.underlying91]
    have hl6 : (l : Int) ≤ 1000000 := by omega
    have hl0 : (0 : Int) ≤ (l : Int) := by omega
    clear hn hm0 hG0 hdm hm6
    have hsv : sv j = .slice none 0 0 := by rw [← HD.out.2.2.2.1, HV.out.1]
    have A2 : Seg w 218 3 (.slice (some ⟨R, o, none⟩) K cap) K (flat (rowC g sv idle) 0 K) := H.out.rows
    have A3 := rows_set2 (rows_set1 (rows_set0 A2 hj G) hj (.slice none 0 0)) hj l
    have T3 := (((Turn.refl (fun k => k = R ∨ (sv j).ownBlock = some k) w).put (fun _ => .inl rfl) (o + j * 3) (.int .i64 G)).put (fun _ => .inl rfl) (o + j * 3 + 1) (.slice none 0 0)).put (fun _ => .inl rfl) (o + j * 3 + 2) (.int .i64 l)
    have M := Lib.hid (show _ ∧ _ from ⟨A3.drew, T3.drew⟩)
    have hnil : ∀ W : World, Seg W 84 32 (.slice none 0 0) (c j - G) (flat (nodeC f j) G (c j - G)) := fun W => by
      rw [HV.out.2.2]
      exact Seg.nil _ _ _
    have HN := Lib.hid hnil
    clear A2 A3 T3 hsv hnil
    go_enter Tryz.func144, Tryz.ntmps144
    go_wp2_with fail
    clear hr
    go_region
    clear k0 k1 k2
    go_wp2_with fail
    generalize hW : (((w.setCell ⟨R, o + j * 3, none⟩ (.int .i64 G)).setCell ⟨R, o + j * 3 + 1, none⟩ (.slice none 0 0)).setCell ⟨R, o + j * 3 + 2, none⟩ (.int .i64 l)).drew = W3 at M ⊢
    clear hW
    obtain ⟨_, l1, l2, hRW, lf⟩ := row_cells M.out.1 hj
    rw [upd_at] at l1 l2
    go_region
    have M4 := Lib.hid (show _ ∧ _ from ⟨M.out.1.drew, M.out.2.drew⟩)
    generalize W3.drew = W4 at M4 ⊢
    clear M l1 l2 hRW lf
    obtain ⟨_, l1, l2, hRW, lf⟩ := row_cells M4.out.1 hj
    rw [upd_at] at l1 l2
    by_cases hyr : (l : Int) > 0
    · have hyr2 : ¬ (l : Int) ≤ 0 := by omega
      go_wp2_with fail
      refine (copied_calls (.slice none 0 0) (c j - G) _ W4 (HN.out W4) sum_one (by have := HC.out; omega)).mono ?_
      rintro en w5 ⟨yv, rfl, s5, o5, b5⟩
      obtain ⟨ya, yc, rfl, _, _⟩ := s5.slice
      have A5 := M4.out.1.below b5 (fun x hx => M4.out.1.lt hx)
      have A6 := rows_set2 (rows_set1 A5 hj (.slice ya (c j - G) yc)) hj 0
      rw [upd_upd, upd_upd] at A6
      have hyR : (Value.slice ya (c j - G) yc).ownBlock ≠ some R := fun e => by have := o5 R e; omega
      have B6 := Seg.far (Seg.far s5 (p := ⟨R, o + j * 3 + 1, none⟩) hyR (.slice ya (c j - G) yc)) (p := ⟨R, o + j * 3 + 2, none⟩) hyR (.int .i64 (0 : Nat))
      have T5 : Turn (fun k => k = R ∨ (sv j).ownBlock = some k) w w5 := M4.out.2.trans (Turn.of_below (F := fun k => W4.heap.size ≤ k) b5 (fun _ _ h => h)) (fun k h1 h2 => by have := M4.out.2.size; omega)
      have T6 := (T5.put (fun _ => .inl rfl) (o + j * 3 + 1) (.slice ya (c j - G) yc)).put (fun _ => .inl rfl) (o + j * 3 + 2) (.int .i64 (0 : Nat))
      obtain ⟨_, q1, q2, hRW5, qf⟩ := row_cells A5 hj
      rw [upd_at] at q1 q2
      have N := Lib.hid (show _ ∧ _ ∧ _ ∧ _ from ⟨A6, B6, T6, fun x hx => (.inr (by have := o5 x hx; have := M4.out.2.size; omega) : (sv j).ownBlock = some x ∨ w.heap.size ≤ x)⟩)
      clear A5 A6 B6 T5 T6 s5 o5 b5 hyR l1 l2 lf hRW M4
      go_wp2_with fail
      go_end0
      exact ⟨rfl, ⟨_, _, H.out.recut rfl hj N.out.2.2.1 N.out.2.1 N.out.2.2.2 N.out.1 (by omega)⟩, N.out.2.2.1.more (fun k _ hk => by
        rcases hk with hk | hk
        · rw [hk]; exact H.out.fr R rfl
        · exact H.out.fs j hj k hk)⟩
    · go_wp2_with fail
      go_end0
      exact ⟨rfl, ⟨_, _, H.out.recut rfl hj M4.out.2 (HN.out W4) (fun x hx => by cases hx) M4.out.1 (by omega)⟩, M4.out.2.more (fun k _ hk => by
        rcases hk with hk | hk
        · rw [hk]; exact H.out.fr R rfl
        · exact H.out.fs j hj k hk)⟩
  · rw [← HD.out.2.2.2.1] at hn
    have HV := Lib.hid hn
    rw [hn] at k1
    rw [← HD.out.2.1] at hc1 hn HV k1
    have hmc : (m : Int) ≤ (cc : Int) := by omega
    have hcm : (cc : Int) ≤ 9223372036854775807 := by unfold maxLen at hc2; omega
    have hdc : (d : Int) ≤ (cc : Int) := by omega
    have hd0 : (0 : Int) ≤ (d : Int) := by omega
    clear hg1 hc3 hx hn hc2
    obtain ⟨W2, hr, s2, t2⟩ := run_clear_seg (P := Tryz.prog) w 91 0 84 (.agg (cellsOf (List.replicate 32 0))) 32 Tryz.underlying91 HZ.out (by kernel_rfl) (fun u hu => byteV_one (List.replicate 32 0) u (by simpa [Value.cells, cellsOf] using hu)) gg off m cc _ (by have := HS.out; rw [← HD.out.2.1, ← HD.out.2.2.2.1, HV.out] at this; exact this) 0 d cc (by omega)
    rw [Nat.zero_mul, Nat.add_zero] at hr
    have hm1 : g j + m = c j := by have := HD.out.2.1; have := HC.out; omega
    have hd2 : g j + d = G := by have := HD.out.1; have := HC.out; omega
    have s3 : Seg W2 84 32 (.slice (some ⟨gg, off + d * 32, none⟩) (m - d) (cc - d)) (c j - G) (flat (nodeC f j) G (c j - G)) := by
      have h1 := s2.behind d hdm
      have e1 : (List.take (0 * 32) (flat (nodeC f j) (g j) m) ++ zeroC (Value.agg (cellsOf (List.replicate 32 0))).cells d ++ List.drop ((0 + d) * 32) (flat (nodeC f j) (g j) m)).drop (d * 32) = flat (nodeC f j) G (c j - G) := by
        have hz : (zeroC (Value.agg (cellsOf (List.replicate 32 0))).cells d).length = d * 32 := by rw [zeroC_len]; rfl
        rw [Nat.zero_mul, List.take_zero, List.nil_append, Nat.zero_add, List.drop_append_of_le_length (by omega), List.drop_of_length_le (by omega), List.nil_append, flat_drop (fun i _ _ => nodeC_len HC.out.2.2.2 j i) hdm, hd2]
        congr 1
        omega
      rw [e1, show m - d = c j - G by omega] at h1
      rw [show m - d = c j - G by omega]
      exact h1
    have hcj : c j - G = m - d := by omega
    have HW := Lib.hid (show _ ∧ _ ∧ _ ∧ _ ∧ _ from ⟨s3, t2, hcj, hm1, hd2⟩)
    have hne : R ≠ gg := fun e => H.out.rv_sv hj R rfl (by rw [← HD.out.2.2.2.1, HV.out, e]; rfl)
    have old : ∀ x, W2.cell? ⟨R, x, none⟩ = w.cell? ⟨R, x, none⟩ := fun x => by unfold World.cell?; rw [t2.block R hRl (fun e => hne (by injection e))]
    have j0 : W2.cell? ⟨R, o + j * 3, none⟩ = some (.int .i64 q) := (old _).trans k0
    have j1 : W2.cell? ⟨R, o + j * 3 + 1, none⟩ = some (.slice (some ⟨gg, off, none⟩) m cc) := (old _).trans k1
    have j2 : W2.cell? ⟨R, o + j * 3 + 2, none⟩ = some (.int .i64 l) := (old _).trans k2
    have fz2 : ∀ x, W2.frozen? ⟨R, x, none⟩ = false := fun x => by
      have := FZ.out x
      unfold World.frozen? at *
      rw [t2.block R hRl (fun e => hne (by injection e))]
      exact this
    have hi0 : (0 : Int) ≤ (l : Int) := by omega
    have hi6 : (l : Int) ≤ 1000000 := by omega
    have hd6 : (d : Int) ≤ 1000000 := by omega
    have hdm2 : (d : Int) ≤ (m : Int) := by omega
    go_enter Tryz.func144, Tryz.ntmps144
    go_wp2_with fail
    clear hr k0 k1 k2 s2 s3 t2 old hm1 hd2 hcj
    go_region
    generalize hp : (if cc = d then (some ⟨gg, off, none⟩ : Option Addr) else some ⟨gg, off + d * 32, none⟩) = p
    have HP := Lib.hid hp
    clear hp j0 j1 j2 fz2
    obtain ⟨r, hr⟩ : ∃ r, r = m - d := ⟨_, rfl⟩
    rw [← hr]
    have HR := Lib.hid hr
    have hr6 : (r : Int) ≤ 1000000 := by omega
    have hld : (l : Int) + (d : Int) = ((l + d : Nat) : Int) := (Int.natCast_add l d).symm
    rw [hld]
    obtain ⟨y, hy⟩ : ∃ y, y = l + d := ⟨_, rfl⟩
    rw [← hy]
    have HY := Lib.hid hy
    have hy6 : (y : Int) ≤ 2000000 := by omega
    clear hr hld hy
    obtain ⟨cq, hcq⟩ : ∃ cq, cq = cc - d := ⟨_, rfl⟩
    rw [← hcq]
    have hcq6 : (cq : Int) ≤ 9223372036854775807 := by omega
    have hrc : (r : Int) ≤ (cq : Int) := by have := HR.out; omega
    have HQ := Lib.hid hcq
    clear hcq
    have hsv : sv j = .slice (some ⟨gg, off, none⟩) m cc := by rw [← HD.out.2.2.2.1, HV.out]
    have A2 : Seg W2 218 3 (.slice (some ⟨R, o, none⟩) K cap) K (flat (rowC g sv idle) 0 K) :=
      H.out.rows.keep fun x hx => by
        injection hx with hx
        subst hx
        exact HW.out.2.1.block R hRl (fun e => hne (by injection e))
    have A3 := rows_set2 (rows_set1 (rows_set0 A2 hj G) hj (.slice p r cq)) hj y
    have B2 : Seg W2 84 32 (.slice p r cq) (c j - G) (flat (nodeC f j) G (c j - G)) := by
      rw [HQ.out, ← HP.out]
      by_cases hcd : cc = d
      · have h1 := HW.out.1
        have h2 : c j - G = 0 := by have := HW.out.2.2.1; omega
        rw [if_pos hcd, show r = 0 by have := HR.out; omega, show cc - d = 0 by omega, h2]
        rw [h2] at h1
        rcases h1.2 with ⟨h3, _⟩ | ⟨g3, o3, c3, cur3, h3, h4, _, _, h5, _⟩
        · cases h3
        · simp only [Value.slice.injEq, Option.some.injEq, Addr.mk.injEq, and_true] at h3
          obtain ⟨⟨rfl, rfl⟩, _⟩ := h3
          exact ⟨rfl, .inr ⟨gg, off, 0, cur3, rfl, h4, Nat.le_refl _, Nat.zero_le _, by omega, rfl⟩⟩
      · rw [if_neg hcd, HR.out]
        exact HW.out.1
    have T2 : Turn (fun k => k = R ∨ (sv j).ownBlock = some k) w W2 := Turn.of_grown HW.out.2.1 (.inr (by rw [hsv]; rfl))
    have T3 := ((T2.put (fun _ => .inl rfl) (o + j * 3) (.int .i64 G)).put (fun _ => .inl rfl) (o + j * 3 + 1) (.slice p r cq)).put (fun _ => .inl rfl) (o + j * 3 + 2) (.int .i64 y)
    have hpo : ∀ x, (Value.slice p r cq).ownBlock = some x → x = gg := fun x hx => by
      rw [← HP.out] at hx
      by_cases hcd : cc = d
      · rw [if_pos hcd] at hx; injection hx with hx; exact hx.symm
      · rw [if_neg hcd] at hx; injection hx with hx; exact hx.symm
    have hpR : (Value.slice p r cq).ownBlock ≠ some R := fun e => hne (hpo R e)
    have B3 := Seg.far (Seg.far (Seg.far B2 (p := ⟨R, o + j * 3, none⟩) hpR (.int .i64 G)) (p := ⟨R, o + j * 3 + 1, none⟩) hpR (.slice p r cq)) (p := ⟨R, o + j * 3 + 2, none⟩) hpR (.int .i64 y)
    have HO := Lib.hid (show ∀ x, (Value.slice p r cq).ownBlock = some x → (sv j).ownBlock = some x ∨ w.heap.size ≤ x from fun x hx => .inl (by rw [hpo x hx, hsv]; rfl))
    have M := Lib.hid (show _ ∧ _ ∧ _ from ⟨A3.drew, B3.drew, T3.drew⟩)
    clear A2 A3 B2 T2 T3 B3 hsv hpo hpR
    go_wp2_with fail
    generalize hW : (((W2.setCell ⟨R, o + j * 3, none⟩ (.int .i64 G)).setCell ⟨R, o + j * 3 + 1, none⟩ (.slice p r cq)).setCell ⟨R, o + j * 3 + 2, none⟩ (.int .i64 y)).drew = W3 at M ⊢
    clear hW
    obtain ⟨_, l1, l2, hRW, lf⟩ := row_cells M.out.1 hj
    rw [upd_at] at l1 l2
    go_region
    have M4 := Lib.hid (show _ ∧ _ ∧ _ from ⟨M.out.1.drew, M.out.2.1.drew, M.out.2.2.drew⟩)
    generalize W3.drew = W4 at M4 ⊢
    clear M l1 l2 hRW lf
    obtain ⟨_, l1, l2, hRW, lf⟩ := row_cells M4.out.1 hj
    rw [upd_at] at l1 l2
    by_cases hyr : (y : Int) > (r : Int)
    · have hyr2 : ¬ (y : Int) ≤ (r : Int) := by omega
      go_wp2_with fail
      refine (copied_calls (.slice p r cq) (c j - G) _ W4 M4.out.2.1 sum_one (by have := HC.out; omega)).mono ?_
      rintro en w5 ⟨yv, rfl, s5, o5, b5⟩
      obtain ⟨ya, yc, rfl, _, _⟩ := s5.slice
      have A5 := M4.out.1.below b5 (fun x hx => M4.out.1.lt hx)
      have A6 := rows_set2 (rows_set1 A5 hj (.slice ya (c j - G) yc)) hj 0
      rw [upd_upd, upd_upd] at A6
      have hyR : (Value.slice ya (c j - G) yc).ownBlock ≠ some R := fun e => by have := o5 R e; omega
      have B6 := Seg.far (Seg.far s5 (p := ⟨R, o + j * 3 + 1, none⟩) hyR (.slice ya (c j - G) yc)) (p := ⟨R, o + j * 3 + 2, none⟩) hyR (.int .i64 (0 : Nat))
      have T5 : Turn (fun k => k = R ∨ (sv j).ownBlock = some k) w w5 := M4.out.2.2.trans (Turn.of_below (F := fun k => W4.heap.size ≤ k) b5 (fun _ _ h => h)) (fun k h1 h2 => by have := M4.out.2.2.size; omega)
      have T6 := (T5.put (fun _ => .inl rfl) (o + j * 3 + 1) (.slice ya (c j - G) yc)).put (fun _ => .inl rfl) (o + j * 3 + 2) (.int .i64 (0 : Nat))
      obtain ⟨_, q1, q2, hRW5, qf⟩ := row_cells A5 hj
      rw [upd_at] at q1 q2
      have N := Lib.hid (show _ ∧ _ ∧ _ ∧ _ from ⟨A6, B6, T6, fun x hx => (.inr (by have := o5 x hx; have := M4.out.2.2.size; omega) : (sv j).ownBlock = some x ∨ w.heap.size ≤ x)⟩)
      clear A5 A6 B6 T5 T6 s5 o5 b5 hyR l1 l2 lf hRW M4
      go_wp2_with fail
      go_end0
      exact ⟨rfl, ⟨_, _, H.out.recut rfl hj N.out.2.2.1 N.out.2.1 N.out.2.2.2 N.out.1 (by omega)⟩, N.out.2.2.1.more (fun k _ hk => by
        rcases hk with hk | hk
        · rw [hk]; exact H.out.fr R rfl
        · exact H.out.fs j hj k hk)⟩
    · go_wp2_with fail
      go_end0
      exact ⟨rfl, ⟨_, _, H.out.recut rfl hj M4.out.2.2 M4.out.2.1 HO.out M4.out.1 (by omega)⟩, M4.out.2.2.more (fun k _ hk => by
        rcases hk with hk | hk
        · rw [hk]; exact H.out.fr R rfl
        · exact H.out.fs j hj k hk)⟩
end
end Go.Proofs.YtcdedkgkingbdaaGreatDoor.dig
end

