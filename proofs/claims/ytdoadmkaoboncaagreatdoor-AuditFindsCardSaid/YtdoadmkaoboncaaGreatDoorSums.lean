/- Sums in a row: their cells; a load in a still stretch; the front of a slice. -/
import Derived.Test.YtdoadmkaoboncaaGreatDoorArr
import Derived.Test.YtdoadmkaoboncaaGreatDoorRow
import Derived.Deep.MidRow
import Derived.StillTailTactics
namespace Go.Proofs.YtdoadmkaoboncaaGreatDoor.dig
open Go Go.RowKit

/-- A load in a still stretch, by what it reads. -/
theorem still_load {P : Program} {ops : Array Oper} {w : World} {Q : Act → Prop} {a : Act} {d : Tmp} {ty : TypeId} {x : Operand} {t : TypeId} {p : String} {af : Array _} {rest : List Oper} {v : Value}
    (hl : (Instr.loadAt ty (a.eval x)).run P w = .ok v w) (h : wpStill P ops w Q rest (a.put (some d) v)) : wpStill P ops w Q (⟨some d, .load ty x, t, p, af, none⟩ :: rest) a := by
  unfold wpStill
  rw [if_pos (by simp [Region.wanted])]
  unfold Oper.still execOp
  simp only [Sem.run_bind, hl, Result.andThen_ok, Sem.run_pure, Oper.stillUpon]
  exact ⟨trivial, h⟩

theorem sumInfo : ∃ i z, Tryz.prog.info? 38 = some i ∧ i.zero = some z ∧ i.size = 32 ∧ z.cells.size = 32 ∧ i.bytes = 32 := by
  have h2 : (Tryz.prog.info? 38).map (fun i => (i.zero.map (fun z => z.cells.size), i.size, i.bytes)) = some (some 32, 32, 32) := by kernel_rfl
  obtain ⟨i, hi, e⟩ := Option.map_eq_some_iff.1 h2
  simp only [Prod.mk.injEq] at e
  obtain ⟨e1, e2, e3⟩ := e
  obtain ⟨z, hz, e4⟩ := Option.map_eq_some_iff.1 e1
  exact ⟨i, z, hi, hz, e2, e4, e3⟩

/-- The cells of some sums. -/
def sumsC (l : List (List UInt8)) : List Value := l.flatMap fun x => x.map byteV
theorem sumsC_snoc (l : List (List UInt8)) (x : List UInt8) : sumsC (l ++ [x]) = sumsC l ++ x.map byteV := by simp [sumsC]
theorem byteV_one (l : List UInt8) : ∀ u ∈ l.map byteV, u.oneCell' = true := by
  intro u hu
  obtain ⟨c, _, rfl⟩ := List.mem_map.1 hu
  rfl

theorem Seg.of_has {w : World} {g : Nat} {t : TypeId} {cs : Array Value} {size n : Nat} (h : Has w g t cs) (hs : cs.size = n * size) (hn : n ≤ maxLen) : Seg w t size (.slice (some ⟨g, 0, none⟩) n n) n cs.toList :=
  ⟨by simpa using hs, .inr ⟨g, 0, n, cs, rfl, h, Nat.le_refl _, hn, by omega, by rw [List.drop_zero]; exact List.take_of_length_le (by rw [Array.length_toList]; omega)⟩⟩

theorem Seg.front {w : World} {e : TypeId} {size n : Nat} {a : Option Addr} {c : Nat} {xs : List Value} (h : Seg w e size (.slice a n c) n xs) (m : Nat) (hm : m ≤ n) (ha : a ≠ none) : Seg w e size (.slice a m c) m (xs.take (m * size)) := by
  rcases h.2 with ⟨h1, _⟩ | ⟨g, off, cap, cur, h1, hg, hc1, hc2, hc3, hx⟩
  · simp only [Value.slice.injEq] at h1; exact absurd h1.1 ha
  · simp only [Value.slice.injEq, true_and] at h1
    obtain ⟨rfl, rfl⟩ := h1
    refine ⟨by rw [List.length_take, h.1, Nat.min_eq_left (Nat.mul_le_mul_right _ hm)], .inr ⟨g, off, c, cur, rfl, hg, by omega, hc2, hc3, ?_⟩⟩
    rw [← hx, List.take_take, Nat.min_eq_left (Nat.mul_le_mul_right _ hm)]

theorem exec_load {P : Program} {ev : Operand → Value} {o : Oper} (ty : TypeId) (x : Operand) (ho : o.op = .load ty x) (p : Value) (hx : ev x = p) {V : World} {v : Value} (hl : (Instr.loadAt ty p).run P V = .ok v V) : (execOp ev o).run P V = .ok (.value v) V := by
  unfold execOp
  simp only [ho, hx, Sem.run_bind, hl, Result.andThen_ok, Sem.run_pure]

/-- Guards of a walk: an operation that is wanted only where a test held. -/
theorem at_opg {P : Program} (d : Tmp) {op : Op} {t : TypeId} {p : String} {af : Array _} {gd : _} {ops : Array Oper} {rest : List Oper} {a : Act} {w : World} {Q : Exit → Act → World → Prop}
    (h : wpList P ops Q (⟨some d, op, t, p, af, some gd⟩ :: rest) a w) : wpList P ops Q (⟨some d, op, t, p, af, some gd⟩ :: rest) a w := h
theorem wpList_load_if {P : Program} {ops : Array Oper} {rest : List Oper} {o : Oper} {a : Act} {w : World} {Q : Exit → Act → World → Prop} (hw : Region.wanted o (yielded ops a.tmps) = true) (ty : TypeId) (x : Operand) (ho : o.op = .load ty x)
    (p : Value) (hx : a.eval x = p) {v : Value} (hl : (Instr.loadAt ty p).run P w = .ok v w) (h : wpList P ops Q rest (a.put o.dst v) w) : wpList P ops Q (o :: rest) a w := by
  unfold wpList
  rw [if_pos hw]
  refine .inl ?_
  unfold Oper.wp
  rw [exec_load ty x ho p hx hl]
  exact h

/-- Sums in memory, r: the last one first; they may lie anywhere. -/
def Sms (w : World) (v : Value) (r : List (List UInt8)) : Prop :=
  (∃ a c, v = .slice a r.length c ∧ r.length ≤ c ∧ c ≤ maxLen ∧ ∀ j x, r.reverse[j]? = some x → ∃ g off, a = some ⟨g, off, none⟩ ∧ g < w.heap.size ∧ w.rangeAt g (off + j * 32) (x.map byteV)) ∧ ∀ x ∈ r, x.length = 32

theorem Sms.nil (w : World) : Sms w (.slice none 0 0) [] := ⟨⟨none, 0, rfl, Nat.le_refl _, Nat.zero_le _, fun j x h => by cases h⟩, fun _ h => by cases h⟩
theorem Sms.slice {w : World} {v : Value} {r : List (List UInt8)} (h : Sms w v r) : ∃ a c, v = .slice a r.length c ∧ r.length ≤ c ∧ c ≤ maxLen := by
  obtain ⟨a, c, h1, h2, h3, _⟩ := h.1
  exact ⟨a, c, h1, h2, h3⟩
theorem Sms.below {w w' : World} {v : Value} {r : List (List UInt8)} (h : Sms w v r) (b : Below w.heap.size w w') : Sms w' v r := by
  obtain ⟨⟨a, c, h1, h2, h3, h4⟩, h5⟩ := h
  refine ⟨⟨a, c, h1, h2, h3, fun j x hx => ?_⟩, h5⟩
  obtain ⟨g, off, e, hg, hr⟩ := h4 j x hx
  refine ⟨g, off, e, Nat.lt_of_lt_of_le hg b.size, fun k u hk => ?_⟩
  rw [← hr k u hk]; unfold World.cell?; rw [b.block g hg]
theorem Sms.drew {w : World} {v : Value} {r : List (List UInt8)} (h : Sms w v r) : Sms w.drew v r := h.below (Below.refl _ _).drew
/-- The last one, and the others. -/
theorem Sms.cons {w : World} {a : Option Addr} {n c : Nat} {s : List UInt8} {r : List (List UInt8)} (h : Sms w (.slice a n c) (s :: r)) : Sms w (.slice a r.length c) r ∧ n = r.length + 1 ∧ n ≤ c ∧ c ≤ maxLen ∧ s.length = 32 ∧ ∃ g off, a = some ⟨g, off, none⟩ ∧ g < w.heap.size ∧ w.rangeAt g (off + r.length * 32) (s.map byteV) := by
  obtain ⟨⟨a', c', h1, h2, h3, h4⟩, h5⟩ := h
  simp only [Value.slice.injEq] at h1
  obtain ⟨rfl, e2, rfl⟩ := h1
  rw [List.length_cons] at e2 h2
  subst e2
  refine ⟨⟨⟨a, c, rfl, by omega, h3, fun j x hx => h4 j x ?_⟩, fun x hx => h5 x (by simp [hx])⟩, rfl, h2, h3, h5 s (by simp), ?_⟩
  · rw [List.reverse_cons, List.getElem?_append_left]
    · exact hx
    · exact (List.getElem?_eq_some_iff.1 hx).1
  · have := h4 r.length s (by rw [List.reverse_cons, List.getElem?_append_right (by simp)]; simp)
    exact this
/-- The first m of a slice that is not nil. -/
theorem Sms.front {w : World} {a : Option Addr} {n c m : Nat} {r : List (List UInt8)} (h : Sms w (.slice a n c) r) (hm : m ≤ n) : Sms w (.slice a m c) (r.drop (n - m)) := by
  obtain ⟨⟨a', c', h1, h2, h3, h4⟩, h5⟩ := h
  simp only [Value.slice.injEq] at h1
  obtain ⟨rfl, rfl, rfl⟩ := h1
  have e : (r.drop (r.length - m)).length = m := by rw [List.length_drop]; omega
  refine ⟨⟨a, c, by rw [e], by omega, h3, fun j x hx => h4 j x ?_⟩, fun x hx => h5 x (List.mem_of_mem_drop hx)⟩
  have e2 : (r.drop (r.length - m)).reverse = r.reverse.take m := by rw [List.reverse_drop]; congr 1; omega
  rw [e2] at hx
  have hj : j < m := by
    have := (List.getElem?_eq_some_iff.1 hx).1
    rw [List.length_take] at this; omega
  rwa [List.getElem?_take_of_lt hj] at hx

theorem sumsC_len : ∀ (l : List (List UInt8)), (∀ x ∈ l, x.length = 32) → (sumsC l).length = l.length * 32
  | [], _ => rfl
  | x :: l, h => by
    have := sumsC_len l (fun y hy => h y (by simp [hy]))
    have hx := h x (by simp)
    unfold sumsC at *
    rw [List.flatMap_cons, List.length_append, this, List.length_map, hx, List.length_cons]
    omega
theorem sumsC_at : ∀ (l : List (List UInt8)) (j : Nat) (x : List UInt8) (k : Nat) (u : Value), (∀ x ∈ l, x.length = 32) → l[j]? = some x → (x.map byteV)[k]? = some u → (sumsC l)[j * 32 + k]? = some u
  | [], j, x, k, u, _, h, _ => by cases h
  | y :: l, 0, x, k, u, hl, h, hu => by
    obtain rfl : y = x := by simpa using h
    have hy := hl y (by simp)
    have hk : k < (y.map byteV).length := (List.getElem?_eq_some_iff.1 hu).1
    unfold sumsC
    rw [List.flatMap_cons, Nat.zero_mul, Nat.zero_add, List.getElem?_append_left hk]
    exact hu
  | y :: l, j + 1, x, k, u, hl, h, hu => by
    have hy := hl y (by simp)
    have := sumsC_at l j x k u (fun z hz => hl z (by simp [hz])) (by simpa using h) hu
    unfold sumsC at *
    rw [List.flatMap_cons, List.getElem?_append_right (by rw [List.length_map, hy]; omega), List.length_map, hy]
    rw [← this]
    congr 1
    omega

/-- Sums in memory, r: the last one first; in a block of their own. -/
def SmS (w : World) (v : Value) (r : List (List UInt8)) : Prop := Seg w 38 32 v r.length (sumsC r.reverse) ∧ ∀ x ∈ r, x.length = 32
theorem SmS.slice {w : World} {v : Value} {r : List (List UInt8)} (h : SmS w v r) : ∃ a c, v = .slice a r.length c ∧ r.length ≤ c ∧ c ≤ maxLen := h.1.slice
theorem SmS.below {w w' : World} {v : Value} {r : List (List UInt8)} (h : SmS w v r) (b : Below w.heap.size w w') : SmS w' v r := ⟨h.1.below b (fun _ e => h.1.lt e), h.2⟩
theorem SmS.weak {w : World} {v : Value} {r : List (List UInt8)} (h : SmS w v r) : Sms w v r := by
  obtain ⟨a, c, rfl, h1, h2⟩ := h.1.slice
  refine ⟨⟨a, c, rfl, h1, h2, fun j x hx => ?_⟩, h.2⟩
  have hj : j < r.length := by have := (List.getElem?_eq_some_iff.1 hx).1; rwa [List.length_reverse] at this
  obtain ⟨g, off, c', e, hg, _, _, hc⟩ := h.1.cells (by omega)
  simp only [Value.slice.injEq] at e
  refine ⟨g, off, e.1, hg, fun k u hk => ?_⟩
  rw [Nat.add_assoc]
  exact hc _ _ (sumsC_at r.reverse j x k u (fun y hy => h.2 y (List.mem_reverse.1 hy)) hx hk)
end Go.Proofs.YtdoadmkaoboncaaGreatDoor.dig
