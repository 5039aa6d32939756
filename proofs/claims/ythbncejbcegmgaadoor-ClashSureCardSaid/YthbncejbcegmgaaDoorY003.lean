/- Texts laid into one: TreeB, Sums, TreeC, TreeD, Bld, TreeE, TreeF. -/
import Derived.Test.YthbncejbcegmgaaDoorY002
import Derived.Test.YthbncejbcegmgaaDoorY000
import Derived.Deep.MidRow
import Derived.StillTailTactics
import Derived.Great.BuildSlice
section
/- tree: the number of ones, the zeros at the end (math/bits). -/
namespace Go.Proofs.YthbncejbcegmgaaDoor.dig
open Go Go.RowKit

def pop1 (x : Int) : Int := IntKind.u64.wrap (bits .and .u64 (x / 2) 6148914691236517205 + bits .and .u64 x 6148914691236517205)
def pop2 (x : Int) : Int := IntKind.u64.wrap (bits .and .u64 (x / 4) 3689348814741910323 + bits .and .u64 x 3689348814741910323)
def pop3 (x : Int) : Int := bits .and .u64 (IntKind.u64.wrap (x / 16 + x)) 1085102592571150095
def pop4 (x : Int) : Int := IntKind.u64.wrap (x + x / 256)
def pop5 (x : Int) : Int := IntKind.u64.wrap (x + x / 65536)
def pop6 (x : Int) : Int := IntKind.u64.wrap (x + x / 4294967296)
def pop7 (x : Int) : Int := bits .and .i64 (wrap64 x) 127
/-- How many ones a number has. -/
def pop (n : Nat) : Int := pop7 (pop6 (pop5 (pop4 (pop3 (pop2 (pop1 n))))))
theorem pop_fin : ∀ n : Fin 1024, (decide (pop n.val = 1)) = (2 ^ Nat.log2 n.val == n.val) := by decide +kernel
theorem pop_one {n : Nat} (hn : n < 1024) : pop n = 1 ↔ 2 ^ Nat.log2 n = n := by
  have := pop_fin ⟨n, hn⟩
  simp only [] at this
  constructor
  · intro h
    rw [decide_eq_true h] at this
    exact eq_of_beq this.symm
  · intro h
    rw [beq_iff_eq.2 h] at this
    exact of_decide_eq_true this

set_option maxRecDepth 100000 in
set_option maxHeartbeats 1000000 in
theorem ones64_calls (n : Nat) (w : World) :
    Calls Tryd.prog 74 #[.int .u64 n] w fun en w' => en = .returned (.int .i64 (pop n)) ∧ w = w' := by
  obtain ⟨x0, h0⟩ : ∃ x : Int, x = (n : Int) := ⟨_, rfl⟩
  obtain ⟨x1, h1⟩ : ∃ x, x = pop1 x0 := ⟨_, rfl⟩
  obtain ⟨x2, h2⟩ : ∃ x, x = pop2 x1 := ⟨_, rfl⟩
  obtain ⟨x3, h3⟩ : ∃ x, x = pop3 x2 := ⟨_, rfl⟩
  obtain ⟨x4, h4⟩ : ∃ x, x = pop4 x3 := ⟨_, rfl⟩
  obtain ⟨x5, h5⟩ : ∃ x, x = pop5 x4 := ⟨_, rfl⟩
  obtain ⟨x6, h6⟩ : ∃ x, x = pop6 x5 := ⟨_, rfl⟩
  have h7 : pop n = pop7 x6 := by rw [h6, h5, h4, h3, h2, h1, h0]; rfl
  have e1 : IntKind.u64.wrap (bits .and .u64 (x0 / 2) 6148914691236517205 + bits .and .u64 x0 6148914691236517205) = x1 := h1.symm
  have e2 : IntKind.u64.wrap (bits .and .u64 (x1 / 4) 3689348814741910323 + bits .and .u64 x1 3689348814741910323) = x2 := h2.symm
  have e3 : bits .and .u64 (IntKind.u64.wrap (x2 / 16 + x2)) 1085102592571150095 = x3 := h3.symm
  have e4 : IntKind.u64.wrap (x3 + x3 / 256) = x4 := h4.symm
  have e5 : IntKind.u64.wrap (x4 + x4 / 65536) = x5 := h5.symm
  have e6 : IntKind.u64.wrap (x5 + x5 / 4294967296) = x6 := h6.symm
  rw [h7, ← h0]
  clear h1 h2 h3 h4 h5 h6 h7 h0
  go_enter Tryd.func74, Tryd.ntmps74
  go_wp2_with fail
  go_ret
  exact ⟨rfl, rfl⟩

set_option maxRecDepth 100000 in
set_option maxHeartbeats 1000000 in
theorem ones_calls (n : Nat) (w : World) :
    Calls Tryd.prog 59 #[.int .u64 n] w fun en w' => en = .returned (.int .i64 (pop n)) ∧ w = w' := by
  go_enter Tryd.func59, Tryd.ntmps59
  go_wp2_with (first
    | (go_at_call 74; refine (ones64_calls n _).mono ?_; rintro e w' ⟨rfl, rfl⟩)
    | fail)
  go_ret
  exact ⟨rfl, rfl⟩

theorem low_fin : ∀ j : Fin 64, bits .and .u64 (2 ^ j.val : Nat) (IntKind.u64.wrap (-((2 ^ j.val : Nat) : Int))) = ((2 ^ j.val : Nat) : Int) := by decide +kernel

set_option maxRecDepth 100000 in
set_option maxHeartbeats 1000000 in
theorem zeros64_calls (B j : Nat) (w : World) (hR : Rt B w) (hj : j < 64) :
    Calls Tryd.prog 76 #[.int .u64 (2 ^ j : Nat)] w fun en w' => en = .returned (.int .i64 j) ∧ w = w' := by
  have h2 := Lib.deBruijn64_at j hj
  have h0 : (2 ^ j : Nat) ≠ 0 := Nat.ne_of_gt (Nat.pow_pos (by decide))
  have h00 : ((2 ^ j : Nat) : Int) ≠ 0 := by omega
  obtain ⟨q, hq⟩ : ∃ q, q = 2 ^ j * 285870213051353865 % 18446744073709551616 / 288230376151711744 := ⟨_, rfl⟩
  rw [← hq] at h2
  have c0 : w.cell? ⟨1, q, none⟩ = some (.int .u8 (j : Int)) := hR.tz q j (by
    have hl : q < Lib.deBruijn64tab.length := h2.1
    rw [List.getElem?_eq_getElem hl, ← h2.2, List.getD_eq_getElem?_getD, List.getElem?_eq_getElem hl]
    rfl)
  have hq64 : (q : Int) < 64 := by have := h2.1; omega
  have hq0 : (0 : Int) ≤ (q : Int) := by omega
  have hj0 : (j : Int) < 64 := by omega
  have h1 : bits .and .u64 ((2 ^ j : Nat) : Int) (IntKind.u64.wrap (-((2 ^ j : Nat) : Int))) = ((2 ^ j : Nat) : Int) := low_fin ⟨j, hj⟩
  generalize (2 ^ j : Nat) = p at *
  have h3 : IntKind.u64.wrap ((p : Int) * 285870213051353865) / 288230376151711744 = (q : Int) := by
    show (p : Int) * 285870213051353865 % 18446744073709551616 / 288230376151711744 = (q : Int)
    rw [hq]
    simp only [Int.natCast_ediv, Int.natCast_emod, Int.natCast_mul]
    rfl
  clear h2 hq h0
  go_enter Tryd.func76, Tryd.ntmps76
  go_wp2_with fail
  go_ret
  exact ⟨rfl, rfl⟩

set_option maxRecDepth 100000 in
set_option maxHeartbeats 1000000 in
theorem zeros_calls (B j : Nat) (w : World) (hR : Rt B w) (hj : j < 64) :
    Calls Tryd.prog 60 #[.int .u64 (2 ^ j : Nat)] w fun en w' => en = .returned (.int .i64 j) ∧ w = w' := by
  have H := Lib.hid (zeros64_calls B j w hR hj)
  generalize (2 ^ j : Nat) = p at *
  go_enter Tryd.func60, Tryd.ntmps60
  go_wp2_with (first
    | (go_at_call 76; refine H.out.mono ?_; rintro e w' ⟨rfl, rfl⟩)
    | fail)
  go_ret
  exact ⟨rfl, rfl⟩
end Go.Proofs.YthbncejbcegmgaaDoor.dig
end

section
/- Sums in a row: their cells; a load in a still stretch; the front of a slice. -/
namespace Go.Proofs.YthbncejbcegmgaaDoor.dig
open Go Go.RowKit

/-- A load in a still stretch, by what it reads. -/
theorem still_load {P : Program} {ops : Array Oper} {w : World} {Q : Act → Prop} {a : Act} {d : Tmp} {ty : TypeId} {x : Operand} {t : TypeId} {p : String} {af : Array _} {rest : List Oper} {v : Value}
    (hl : (Instr.loadAt ty (a.eval x)).run P w = .ok v w) (h : wpStill P ops w Q rest (a.put (some d) v)) : wpStill P ops w Q (⟨some d, .load ty x, t, p, af, none⟩ :: rest) a := by
  unfold wpStill
  rw [if_pos (by simp [Region.wanted])]
  unfold Oper.still execOp
  simp only [Sem.run_bind, hl, Result.andThen_ok, Sem.run_pure, Oper.stillUpon]
  exact ⟨trivial, h⟩

theorem sumInfo : ∃ i z, Tryd.prog.info? 33 = some i ∧ i.zero = some z ∧ i.size = 32 ∧ z.cells.size = 32 ∧ i.bytes = 32 := by
  have h2 : (Tryd.prog.info? 33).map (fun i => (i.zero.map (fun z => z.cells.size), i.size, i.bytes)) = some (some 32, 32, 32) := by kernel_rfl
  obtain ⟨i, hi, e⟩ := Option.map_eq_some_iff.1 h2
  simp only [Prod.mk.injEq] at e
  obtain ⟨e1, e2, e3⟩ := e
  obtain ⟨z, hz, e4⟩ := Option.map_eq_some_iff.1 e1
  exact ⟨i, z, hi, hz, e2, e4, e3⟩

/-- The cells of some sums. -/
def sumsC (l : List (List UInt8)) : List Value := l.flatMap fun x => x.map byteV
theorem sumsC_snoc (l : List (List UInt8)) (x : List UInt8) : sumsC (l ++ [x]) = sumsC l ++ x.map byteV := by simp [sumsC]
theorem byteV_one (l : List UInt8) : ∀ u ∈ l.map byteV, u.oneCell' = true := by
  intro u hu
  obtain ⟨c, _, rfl⟩ := List.mem_map.1 hu
  rfl

theorem Seg.of_has {w : World} {g : Nat} {t : TypeId} {cs : Array Value} {size n : Nat} (h : Has w g t cs) (hs : cs.size = n * size) (hn : n ≤ maxLen) : Seg w t size (.slice (some ⟨g, 0, none⟩) n n) n cs.toList :=
  ⟨by simpa using hs, .inr ⟨g, 0, n, cs, rfl, h, Nat.le_refl _, hn, by omega, by rw [List.drop_zero]; exact List.take_of_length_le (by rw [Array.length_toList]; omega)⟩⟩

theorem Seg.front {w : World} {e : TypeId} {size n : Nat} {a : Option Addr} {c : Nat} {xs : List Value} (h : Seg w e size (.slice a n c) n xs) (m : Nat) (hm : m ≤ n) (ha : a ≠ none) : Seg w e size (.slice a m c) m (xs.take (m * size)) := by
  rcases h.2 with ⟨h1, _⟩ | ⟨g, off, cap, cur, h1, hg, hc1, hc2, hc3, hx⟩
  · simp only [Value.slice.injEq] at h1; exact absurd h1.1 ha
  · simp only [Value.slice.injEq, true_and] at h1
    obtain ⟨rfl, rfl⟩ := h1
    refine ⟨by rw [List.length_take, h.1, Nat.min_eq_left (Nat.mul_le_mul_right _ hm)], .inr ⟨g, off, c, cur, rfl, hg, by omega, hc2, hc3, ?_⟩⟩
    rw [← hx, List.take_take, Nat.min_eq_left (Nat.mul_le_mul_right _ hm)]

theorem exec_load {P : Program} {ev : Operand → Value} {o : Oper} (ty : TypeId) (x : Operand) (ho : o.op = .load ty x) (p : Value) (hx : ev x = p) {V : World} {v : Value} (hl : (Instr.loadAt ty p).run P V = .ok v V) : (execOp ev o).run P V = .ok (.value v) V := by
  unfold execOp
  simp only [ho, hx, Sem.run_bind, hl, Result.andThen_ok, Sem.run_pure]

/-- Guards of a walk: an operation that is wanted only where a test held. -/
theorem at_opg {P : Program} (d : Tmp) {op : Op} {t : TypeId} {p : String} {af : Array _} {gd : _} {ops : Array Oper} {rest : List Oper} {a : Act} {w : World} {Q : Exit → Act → World → Prop}
    (h : wpList P ops Q (⟨some d, op, t, p, af, some gd⟩ :: rest) a w) : wpList P ops Q (⟨some d, op, t, p, af, some gd⟩ :: rest) a w := h
theorem wpList_load_if {P : Program} {ops : Array Oper} {rest : List Oper} {o : Oper} {a : Act} {w : World} {Q : Exit → Act → World → Prop} (hw : Region.wanted o (yielded ops a.tmps) = true) (ty : TypeId) (x : Operand) (ho : o.op = .load ty x)
    (p : Value) (hx : a.eval x = p) {v : Value} (hl : (Instr.loadAt ty p).run P w = .ok v w) (h : wpList P ops Q rest (a.put o.dst v) w) : wpList P ops Q (o :: rest) a w := by
  unfold wpList
  rw [if_pos hw]
  refine .inl ?_
  unfold Oper.wp
  rw [exec_load ty x ho p hx hl]
  exact h

/-- Sums in memory, r: the last one first; they may lie anywhere. -/
def Sms (w : World) (v : Value) (r : List (List UInt8)) : Prop :=
  (∃ a c, v = .slice a r.length c ∧ r.length ≤ c ∧ c ≤ maxLen ∧ ∀ j x, r.reverse[j]? = some x → ∃ g off, a = some ⟨g, off, none⟩ ∧ g < w.heap.size ∧ w.rangeAt g (off + j * 32) (x.map byteV)) ∧ ∀ x ∈ r, x.length = 32

theorem Sms.nil (w : World) : Sms w (.slice none 0 0) [] := ⟨⟨none, 0, rfl, Nat.le_refl _, Nat.zero_le _, fun j x h => by cases h⟩, fun _ h => by cases h⟩
theorem Sms.slice {w : World} {v : Value} {r : List (List UInt8)} (h : Sms w v r) : ∃ a c, v = .slice a r.length c ∧ r.length ≤ c ∧ c ≤ maxLen := by
  obtain ⟨a, c, h1, h2, h3, _⟩ := h.1
  exact ⟨a, c, h1, h2, h3⟩
theorem Sms.below {w w' : World} {v : Value} {r : List (List UInt8)} (h : Sms w v r) (b : Below w.heap.size w w') : Sms w' v r := by
  obtain ⟨⟨a, c, h1, h2, h3, h4⟩, h5⟩ := h
  refine ⟨⟨a, c, h1, h2, h3, fun j x hx => ?_⟩, h5⟩
  obtain ⟨g, off, e, hg, hr⟩ := h4 j x hx
  refine ⟨g, off, e, Nat.lt_of_lt_of_le hg b.size, fun k u hk => ?_⟩
  rw [← hr k u hk]; unfold World.cell?; rw [b.block g hg]
theorem Sms.drew {w : World} {v : Value} {r : List (List UInt8)} (h : Sms w v r) : Sms w.drew v r := h.below (Below.refl _ _).drew
/-- The last one, and the others. -/
theorem Sms.cons {w : World} {a : Option Addr} {n c : Nat} {s : List UInt8} {r : List (List UInt8)} (h : Sms w (.slice a n c) (s :: r)) : Sms w (.slice a r.length c) r ∧ n = r.length + 1 ∧ n ≤ c ∧ c ≤ maxLen ∧ s.length = 32 ∧ ∃ g off, a = some ⟨g, off, none⟩ ∧ g < w.heap.size ∧ w.rangeAt g (off + r.length * 32) (s.map byteV) := by
  obtain ⟨⟨a', c', h1, h2, h3, h4⟩, h5⟩ := h
  simp only [Value.slice.injEq] at h1
  obtain ⟨rfl, e2, rfl⟩ := h1
  rw [List.length_cons] at e2 h2
  subst e2
  refine ⟨⟨⟨a, c, rfl, by omega, h3, fun j x hx => h4 j x ?_⟩, fun x hx => h5 x (by simp [hx])⟩, rfl, h2, h3, h5 s (by simp), ?_⟩
  · rw [List.reverse_cons, List.getElem?_append_left]
    · exact hx
    · exact (List.getElem?_eq_some_iff.1 hx).1
  · have := h4 r.length s (by rw [List.reverse_cons, List.getElem?_append_right (by simp)]; simp)
    exact this
/-- The first m of a slice that is not nil. -/
theorem Sms.front {w : World} {a : Option Addr} {n c m : Nat} {r : List (List UInt8)} (h : Sms w (.slice a n c) r) (hm : m ≤ n) : Sms w (.slice a m c) (r.drop (n - m)) := by
  obtain ⟨⟨a', c', h1, h2, h3, h4⟩, h5⟩ := h
  simp only [Value.slice.injEq] at h1
  obtain ⟨rfl, rfl, rfl⟩ := h1
  have e : (r.drop (r.length - m)).length = m := by rw [List.length_drop]; omega
  refine ⟨⟨a, c, by rw [e], by omega, h3, fun j x hx => h4 j x ?_⟩, fun x hx => h5 x (List.mem_of_mem_drop hx)⟩
  have e2 : (r.drop (r.length - m)).reverse = r.reverse.take m := by rw [List.reverse_drop]; congr 1; omega
  rw [e2] at hx
  have hj : j < m := by
    have := (List.getElem?_eq_some_iff.1 hx).1
    rw [List.length_take] at this; omega
  rwa [List.getElem?_take_of_lt hj] at hx

theorem sumsC_len : ∀ (l : List (List UInt8)), (∀ x ∈ l, x.length = 32) → (sumsC l).length = l.length * 32
  | [], _ => rfl
  | x :: l, h => by
    have := sumsC_len l (fun y hy => h y (by simp [hy]))
    have hx := h x (by simp)
    unfold sumsC at *
    rw [List.flatMap_cons, List.length_append, this, List.length_map, hx, List.length_cons]
    omega
theorem sumsC_at : ∀ (l : List (List UInt8)) (j : Nat) (x : List UInt8) (k : Nat) (u : Value), (∀ x ∈ l, x.length = 32) → l[j]? = some x → (x.map byteV)[k]? = some u → (sumsC l)[j * 32 + k]? = some u
  | [], j, x, k, u, _, h, _ => by cases h
  | y :: l, 0, x, k, u, hl, h, hu => by
    obtain rfl : y = x := by simpa using h
    have hy := hl y (by simp)
    have hk : k < (y.map byteV).length := (List.getElem?_eq_some_iff.1 hu).1
    unfold sumsC
    rw [List.flatMap_cons, Nat.zero_mul, Nat.zero_add, List.getElem?_append_left hk]
    exact hu
  | y :: l, j + 1, x, k, u, hl, h, hu => by
    have hy := hl y (by simp)
    have := sumsC_at l j x k u (fun z hz => hl z (by simp [hz])) (by simpa using h) hu
    unfold sumsC at *
    rw [List.flatMap_cons, List.getElem?_append_right (by rw [List.length_map, hy]; omega), List.length_map, hy]
    rw [← this]
    congr 1
    omega

/-- Sums in memory, r: the last one first; in a block of their own. -/
def SmS (w : World) (v : Value) (r : List (List UInt8)) : Prop := Seg w 33 32 v r.length (sumsC r.reverse) ∧ ∀ x ∈ r, x.length = 32
theorem SmS.slice {w : World} {v : Value} {r : List (List UInt8)} (h : SmS w v r) : ∃ a c, v = .slice a r.length c ∧ r.length ≤ c ∧ c ≤ maxLen := h.1.slice
theorem SmS.below {w w' : World} {v : Value} {r : List (List UInt8)} (h : SmS w v r) (b : Below w.heap.size w w') : SmS w' v r := ⟨h.1.below b (fun _ e => h.1.lt e), h.2⟩
theorem SmS.weak {w : World} {v : Value} {r : List (List UInt8)} (h : SmS w v r) : Sms w v r := by
  obtain ⟨a, c, rfl, h1, h2⟩ := h.1.slice
  refine ⟨⟨a, c, rfl, h1, h2, fun j x hx => ?_⟩, h.2⟩
  have hj : j < r.length := by have := (List.getElem?_eq_some_iff.1 hx).1; rwa [List.length_reverse] at this
  obtain ⟨g, off, c', e, hg, _, _, hc⟩ := h.1.cells (by omega)
  simp only [Value.slice.injEq] at e
  refine ⟨g, off, e.1, hg, fun k u hk => ?_⟩
  rw [Nat.add_assoc]
  exact hc _ _ (sumsC_at r.reverse j x k u (fun y hy => h.2 y (List.mem_reverse.1 hy)) hx hk)
end Go.Proofs.YthbncejbcegmgaaDoor.dig
end

section
/- tree: row.at, root. -/
namespace Go.Proofs.YthbncejbcegmgaaDoor.dig
open Go Go.RowKit


set_option maxRecDepth 100000 in
set_option maxHeartbeats 1000000 in
theorem at_calls (R o k g m : Nat) (v : Value) (xs : List Value) (x : List UInt8) (w : World) (c0 : w.cell? ⟨R, o, none⟩ = some (.int .i64 g)) (c1 : w.cell? ⟨R, o + 1, none⟩ = some v)
    (hs : Seg w 33 32 v m xs) (hg : g ≤ k) (hk : k - g < m) (hm : m ≤ 1000000) (hkm : k ≤ 1000000) (hx : ∀ r, r < 32 → xs[(k - g) * 32 + r]? = (cellsOf x)[r]?) (hl : x.length = 32) :
    Calls Tryd.prog 58 #[.pointer (some ⟨R, o, none⟩), .int .i64 k] w fun en w' => en = .returned (.agg (cellsOf x)) ∧ Below w.heap.size w w' := by
  obtain ⟨g', off, c, rfl, hlt, hc1, hc2, hcell⟩ := hs.cells (by omega)
  have hR : R < w.heap.size := by
    unfold World.cell? at c0
    rcases Nat.lt_or_ge R w.heap.size with h | h
    · exact h
    · simp [Array.getElem?_eq_none h] at c0
  have hcm : (c : Int) ≤ 9223372036854775807 := by unfold maxLen at hc2; omega
  have hr : w.rangeAt g' (off + (k - g) * 32) (x.map byteV) := fun j u hj => by
    rw [Nat.add_assoc]
    have hj32 : j < 32 := by
      have := (List.getElem?_eq_some_iff.1 hj).1
      simp at this
      omega
    refine hcell _ u ?_
    rw [hx j hj32]
    rw [List.getElem?_map] at hj
    simpa [cellsOf] using hj
  obtain ⟨d, hd⟩ : ∃ d, d = k - g := ⟨_, rfl⟩
  have hd1 : (k : Int) - (g : Int) = (d : Int) := by omega
  have hdm : (d : Int) < (m : Int) := by omega
  have hd0 : (0 : Int) ≤ (d : Int) := by omega
  rw [← hd] at hr
  have HL := Lib.hid hl
  have HR := Lib.hid hr
  clear hs hcell hx hl hd hr
  go_enter Tryd.func58, Tryd.ntmps58
  go_wp2_with fail
  go_name_world W hW
  have B0 : Below w.heap.size w W := by rw [← hW]; exact (Below.refl _ _).alloc (Nat.le_refl _) _
  have Z0 : Has W w.heap.size 33 (cellsOf (List.replicate 32 0)) := by rw [← hW]; exact made_at _ _ rfl
  have d0 : W.cell? ⟨R, o, none⟩ = some (.int .i64 g) := by rw [← c0]; unfold World.cell?; rw [B0.block R hR]
  have d1 : W.cell? ⟨R, o + 1, none⟩ = some (.slice (some ⟨g', off, none⟩) m c) := by rw [← c1]; unfold World.cell?; rw [B0.block R hR]
  have dr : W.rangeAt g' (off + d * 32) (x.map byteV) := fun j u hj => by rw [← HR.out j u hj]; unfold World.cell?; rw [B0.block g' hlt]
  clear hW c0 c1 HR
  obtain ⟨V, hV⟩ : ∃ V, V = W.drew := ⟨_, rfl⟩
  refine still_tail_at V hV 12 (by kernel_rfl) (by kernel_rfl) ?_
  have BV : Hid (Below w.heap.size w V ∧ Has V w.heap.size 33 (cellsOf (List.replicate 32 0))) := by rw [hV]; exact Lib.hid ⟨B0.drew, Z0⟩
  have c0 : V.cell? ⟨R, o, none⟩ = some (.int .i64 g) := by rw [hV]; exact d0
  have c1 : V.cell? ⟨R, o + 1, none⟩ = some (.slice (some ⟨g', off, none⟩) m c) := by rw [hV]; exact d1
  have hl : (Instr.loadAt 33 (.pointer (some ⟨g', off + d * 32, none⟩))).run Tryd.prog V = .ok (.agg (cellsOf x)) V :=
    run_loadAt_mid V g' (off + d * 32) 33 (x.map byteV) _ (by rw [hV]; exact dr) Tryd.underlying33 rfl (by rw [List.length_map, HL.out]; kernel_rfl)
  clear hV d0 d1 dr B0 Z0
  simp only [List.take_succ_cons, List.take_zero, List.drop_succ_cons, List.drop_zero]
  have i0 : IntKind.i64.wrap (d : Int) = (d : Int) := IntWalk.i64_in _ ⟨by omega, by omega⟩
  have j0 : (0 : Int) ≤ (d : Int) ∧ (d : Int) < (m : Int) := ⟨hd0, hdm⟩
  repeat still_step
  refine still_load hl ?_
  refine wpStill_nil ?_
  clear hl c0 c1
  go_wp2_with (first
    | (refine wpList_store_arr (o := ⟨none, _, _, _, _, _⟩) rfl 33 _ _ rfl w.heap.size x (List.replicate 32 0) rfl rfl _ BV.out.2 32 (by kernel_rfl) (by simp) HL.out ?_; intro W6 HW6 TW6)
    | fail)
  exact bodyPost_ret (v := .agg (cellsOf x)) (results_cell_row rfl _ _ w.heap.size 33 _ _ _ rfl HW6 Tryd.underlying33 rfl (by rw [cellsOf_size, HL.out]; kernel_rfl)) rfl
    ⟨rfl, BV.out.1.trans (TW6.below BV.out.1.size (fun j hj e => by omega))⟩
end Go.Proofs.YthbncejbcegmgaaDoor.dig
end

section
/- tree: root. -/
namespace Go.Proofs.YthbncejbcegmgaaDoor.dig
open Go Go.RowKit

set_option maxRecDepth 100000 in
set_option maxHeartbeats 2000000 in
theorem root_calls (B : Nat) (F : Nat → Prop) (b N fl : Nat) (f : Nat → List UInt8) (hN : N < 1024) : ∀ (n a : Nat) (w : World), Tr B F w b N fl f → Av fl a n → a + n ≤ N →
    Calls Tryd.prog 34 #[.pointer (some ⟨b, 0, none⟩), .int .i64 a, .int .i64 n] w fun en w' => en = .returned (.agg (cellsOf (rt f a n))) ∧ Below w.heap.size w w' := by
  intro n
  induction n using Nat.strongRecOn with
  | _ n ih =>
  intro a w hT hA han
  have HT := Lib.hid hT
  have hn0 := hA.pos
  by_cases hp : 2 ^ Nat.log2 n = n
  · obtain ⟨j, hj⟩ : ∃ j, j = Nat.log2 n := ⟨_, rfl⟩
    rw [← hj] at hp
    have hpop : pop n = 1 := (pop_one (by omega)).2 (by rw [← hj]; exact hp)
    have hA2 : Av fl a (2 ^ j) := by rw [hp]; exact hA
    obtain ⟨hd, hg⟩ := hA2.row
    have hjn : j < 64 := by
      rcases Nat.lt_or_ge j 64 with h | h
      · exact h
      · have := Nat.pow_le_pow_right (n := 2) (by decide) h
        omega
    have hjt : j < tops N := lt_tops.2 (by omega)
    have hq : a / 2 ^ j < N / 2 ^ j := by
      have h1 := Nat.div_le_div_right (c := 2 ^ j) han
      rw [← hp, Nat.add_div_right _ (Nat.pow_pos (by decide))] at h1
      omega
    have hz : ∀ w', Rt B w' → Calls Tryd.prog 60 #[.int .u64 n] w' fun en w2 => en = .returned (.int .i64 j) ∧ w' = w2 := fun w' h => by
      have := zeros_calls B j w' h hjn
      rw [hp] at this
      exact this
    have HZ := Lib.hid hz
    have HP := Lib.hid hp
    have HD := Lib.hid hd
    have HQ := Lib.hid hq
    have HG := Lib.hid hg
    have HPOP := Lib.hid hpop
    have HNT := Lib.hid (show a ≤ 1000000 ∧ N / 2 ^ j ≤ 1000000 ∧ a / 2 ^ j ≤ 1000000 by have := Nat.div_le_self N (2 ^ j); have := Nat.div_le_self a (2 ^ j); omega)
    obtain ⟨q, hqq⟩ : ∃ q, q = a / 2 ^ j := ⟨_, rfl⟩
    have eq1 : (a : Int) / 2 ^ j = (q : Int) := by rw [hqq, Int.natCast_ediv]; simp
    have HQQ := Lib.hid hqq
    have hjK : (j : Int) < (tops N : Int) := by omega
    have hj0 : (0 : Int) ≤ (j : Int) := by omega
    have hj64 : (j : Int) < 64 := by omega
    have ha0 : (0 : Int) ≤ (a : Int) := by omega
    have ha1 : (a : Int) ≤ 1000000 := by omega
    have i1 : IntKind.u64.wrap (n : Int) = (n : Int) := IntWalk.u64_in _ ⟨by omega, by omega⟩
    clear hqq hT hA hA2 hp hd hq hg hj hz han ih hpop hjn
    go_enter Tryd.func34, Tryd.ntmps34
    go_wp2_with fail
    refine callsName (fun W hW => ?_)
    have B0 : Hid (Below w.heap.size w W) := by rw [← hW]; exact Lib.hid ((Below.refl _ _).alloc (Nat.le_refl _) _)
    have Z0 : Hid (Has W w.heap.size 33 (cellsOf (List.replicate 32 0))) := by rw [← hW]; exact Lib.hid (made_at _ _ rfl)
    have T : Hid (Tr B F W b N fl f) := Lib.hid (HT.out.below B0.out)
    clear hW HT
    refine (ones_calls n _).mono ?_
    rw [HPOP.out]
    rintro e w' ⟨rfl, rfl⟩
    go_wp2_with fail
    refine (HZ.out _ T.out.rt).mono ?_
    rintro e w' ⟨rfl, rfl⟩
    go_wp2_with fail
    obtain ⟨R, o, C, hh, v, c0, c1, hRl, hs⟩ := T.out.row hjt
    have HS := Lib.hid hs
    have e2 := hh.cell 2
    simp at e2
    clear hs hh
    obtain ⟨V, hV⟩ : ∃ V, V = W.drew := ⟨_, rfl⟩
    refine still_tail_at V hV 9 (by kernel_rfl) (by kernel_rfl) ?_
    have BV : Hid (Below w.heap.size w V ∧ Has V w.heap.size 33 (cellsOf (List.replicate 32 0)) ∧ Tr B F V b N fl f ∧ Seg V 33 32 v (N / 2 ^ j - gone fl j) (flat (nodeC f j) (gone fl j) (N / 2 ^ j - gone fl j))) := by rw [hV]; exact Lib.hid ⟨B0.out.drew, Z0.out, T.out.drew, HS.out⟩
    have c0 : V.cell? ⟨R, o + j * 3, none⟩ = some (.int .i64 (gone fl j)) := by rw [hV]; exact c0
    have c1 : V.cell? ⟨R, o + (j * 3 + 1), none⟩ = some v := by rw [hV]; exact c1
    have e2 : V.cell? ⟨b, 2, none⟩ = some (.slice (some ⟨R, o, none⟩) (tops N) C) := by rw [hV]; exact e2
    clear hV B0 Z0 T HS HZ
    simp only [List.take_succ_cons, List.take_zero, List.drop_succ_cons, List.drop_zero]
    repeat still_step
    refine wpStill_nil ?_
    rw [← Nat.add_assoc] at c1
    have X : Hid (∀ r, r < 32 → (flat (nodeC f j) (gone fl j) (N / 2 ^ j - gone fl j))[(q - gone fl j) * 32 + r]? = (cellsOf (rt f a n))[r]?) := Lib.hid fun r hr => by
      have h1 := HQ.out
      have h2 := HG.out
      rw [← HQQ.out] at h1 h2
      rw [flat_get (w := 32) (fun i _ _ => nodeC_len BV.out.2.2.1.len j i) (by omega) hr, Nat.add_sub_cancel' h2]
      have e : q * 2 ^ j = a := by rw [HQQ.out]; exact Nat.div_mul_cancel HD.out
      unfold nodeC
      rw [e, HP.out]
      simp
    have hl : Hid ((rt f a n).length = 32) := Lib.hid (rt_len BV.out.2.2.1.len _ _ hn0)
    clear e2
    go_wp2_with (first
      | (go_at_call 58; refine (at_calls R (o + j * 3) q (gone fl j) (N / 2 ^ j - gone fl j) v _ (rt f a n) V c0 c1 BV.out.2.2.2 (by rw [HQQ.out]; exact HG.out) (by have h1 := HQ.out; have h2 := HG.out; rw [← HQQ.out] at h1 h2; omega) (by have := HNT.out; omega) (by have := HNT.out; rw [HQQ.out]; omega) X.out hl.out).mono ?_)
      | fail)
    rintro e w' ⟨rfl, b5⟩
    have S5 : Hid (Has w' w.heap.size 33 (cellsOf (List.replicate 32 0)) ∧ Below w.heap.size w w') := Lib.hid ⟨BV.out.2.1.below b5 BV.out.2.1.lt, BV.out.1.trans (b5.mono BV.out.1.size)⟩
    clear b5 c0 c1 X BV
    go_wp2_with (first
      | (refine wpList_store_arr (o := ⟨none, _, _, _, _, _⟩) rfl 33 _ _ rfl w.heap.size (rt f a n) (List.replicate 32 0) rfl rfl _ S5.out.1 32 (by kernel_rfl) (by simp) hl.out ?_; intro W6 HW6 TW6)
      | fail)
    exact bodyPost_ret (v := .agg (cellsOf (rt f a n))) (results_cell_row rfl _ _ w.heap.size 33 _ _ _ rfl HW6 Tryd.underlying33 rfl (by rw [cellsOf_size, hl.out]; kernel_rfl)) rfl
      ⟨rfl, S5.out.2.trans (TW6.below S5.out.2.size (fun j hj e => by omega))⟩
  · have hpop : pop n ≠ 1 := fun h => hp ((pop_one (by omega)).1 h)
    have hp2 : ∀ j, n ≠ 2 ^ j := fun j e => hp (by rw [e, Nat.log2_two_pow])
    have hn2 : 2 ≤ n := by
      rcases Nat.lt_or_ge n 2 with h | h
      · exact absurd (show n = 2 ^ 0 by simp; omega) (hp2 0)
      · exact h
    obtain ⟨hA1, hA2⟩ := hA.halves hn2 hp2
    have h1 := half_lt hn2
    have h2 := half_pos n
    obtain ⟨k, hk⟩ : ∃ k, k = half n := ⟨_, rfl⟩
    rw [← hk] at h1 h2 hA1 hA2
    have HI1 := Lib.hid (fun w' (h : Tr B F w' b N fl f) => ih k h1 a w' h hA1 (by omega))
    obtain ⟨n', hn'⟩ : ∃ n', n' = n - k := ⟨_, rfl⟩
    obtain ⟨a', ha'⟩ : ∃ a', a' = a + k := ⟨_, rfl⟩
    have HI2 := Lib.hid (fun w' (h : Tr B F w' b N fl f) => ih n' (by omega) a' w' h (by rw [hn', ha']; exact hA2) (by omega))
    have HX : Hid (nodeS (rt f a k) (rt f a' n') = rt f a n) := Lib.hid (by rw [rt_two f a hn2, ← hk, hn', ha'])
    have HL : Hid ((rt f a k).length = 32 ∧ (rt f a' n').length = 32 ∧ (rt f a n).length = 32) := Lib.hid ⟨rt_len hT.len _ _ h2, rt_len hT.len _ _ (by omega), rt_len hT.len _ _ hn0⟩
    have HK := Lib.hid hk
    have hk1 : (n : Int) - (k : Int) = (n' : Int) := by omega
    have hk2 : (a : Int) + (k : Int) = (a' : Int) := by omega
    have hk3 : (a' : Int) ≤ 1000000 := by omega
    have hk4 : (n' : Int) ≤ 1000000 := by omega
    have hb1 : (n : Int) ≤ 1000000 := by omega
    have hb2 : (a : Int) ≤ 1000000 := by omega
    have hb3 : (k : Int) ≤ 1000000 := by omega
    have i1 : IntKind.u64.wrap (n : Int) = (n : Int) := IntWalk.u64_in _ ⟨by omega, by omega⟩
    have hn1000 : n ≤ 1000000000000 := by omega
    clear hT hA hp hp2 hA1 hA2 h1 h2 hk han ih hn' ha'
    go_enter Tryd.func34, Tryd.ntmps34
    go_wp2_with fail
    refine callsName (fun W hW => ?_)
    have B0 : Hid (Below w.heap.size w W) := by rw [← hW]; exact Lib.hid ((Below.refl _ _).alloc (Nat.le_refl _) _)
    have Z0 : Hid (Has W w.heap.size 33 (cellsOf (List.replicate 32 0))) := by rw [← hW]; exact Lib.hid (made_at _ _ rfl)
    have T : Hid (Tr B F W b N fl f) := Lib.hid (HT.out.below B0.out)
    clear hW HT
    refine (ones_calls n _).mono ?_
    rintro e w' ⟨rfl, rfl⟩
    go_wp2_with fail
    refine (half_calls n W hn2 hn1000).mono ?_
    rw [← HK.out]
    rintro e w' ⟨rfl, rfl⟩
    go_wp2_with fail
    refine (HI1.out _ T.out).mono ?_
    rintro e w1 ⟨rfl, b1⟩
    have T1 : Hid (Tr B F w1 b N fl f ∧ Below w.heap.size w w1 ∧ Has w1 w.heap.size 33 (cellsOf (List.replicate 32 0))) := Lib.hid ⟨T.out.below b1, B0.out.trans (b1.mono B0.out.size), Z0.out.below b1 Z0.out.lt⟩
    clear T B0 Z0 b1
    go_wp2_with fail
    refine (HI2.out _ T1.out.1).mono ?_
    rintro e w2 ⟨rfl, b2⟩
    have T2 : Hid (Tr B F w2 b N fl f ∧ Below w.heap.size w w2 ∧ Has w2 w.heap.size 33 (cellsOf (List.replicate 32 0))) := Lib.hid ⟨T1.out.1.below b2, T1.out.2.1.trans (b2.mono T1.out.2.1.size), T1.out.2.2.below b2 T1.out.2.2.lt⟩
    clear T1 b2
    go_wp2_with fail
    refine (node_calls _ _ w2 T2.out.1.rt.rk HL.out.1 HL.out.2.1).mono ?_
    rw [HX.out]
    rintro e w3 ⟨rfl, b3⟩
    have S5 : Hid (Has w3 w.heap.size 33 (cellsOf (List.replicate 32 0)) ∧ Below w.heap.size w w3) := Lib.hid ⟨T2.out.2.2.below b3 T2.out.2.2.lt, T2.out.2.1.trans (b3.mono T2.out.2.1.size)⟩
    clear T2 b3
    go_wp2_with (first
      | (refine wpList_store_arr (o := ⟨none, _, _, _, _, _⟩) rfl 33 _ _ rfl w.heap.size (rt f a n) (List.replicate 32 0) rfl rfl _ S5.out.1 32 (by kernel_rfl) (by simp) HL.out.2.2 ?_; intro W6 HW6 TW6)
      | fail)
    exact bodyPost_ret (v := .agg (cellsOf (rt f a n))) (results_cell_row rfl _ _ w.heap.size 33 _ _ _ rfl HW6 Tryd.underlying33 rfl (by rw [cellsOf_size, HL.out.2.2]; kernel_rfl)) rfl
      ⟨rfl, S5.out.2.trans (TW6.below S5.out.2.size (fun j hj e => by omega))⟩
end Go.Proofs.YthbncejbcegmgaaDoor.dig
end

section
/- A slice that is made of one whole value. Of no program. -/
namespace Go.Proofs.YthbncejbcegmgaaDoor
open Go.RowKit

theorem fold_get : ∀ (l : List Value) (k : Nat) (base : Array Value) (j : Nat), k + l.length ≤ base.size →
    ((l.zipIdx k).foldl (fun (a : Array Value) p => a.setIfInBounds (0 + p.2) p.1) base)[j]? = if k ≤ j ∧ j < k + l.length then l[j - k]? else base[j]?
  | [], k, base, j, _ => by
    simp only [List.zipIdx_nil, List.foldl_nil, List.length_nil, Nat.add_zero]
    rw [if_neg (by omega)]
  | x :: l, k, base, j, h => by
    rw [List.zipIdx_cons, List.foldl_cons, fold_get l (k + 1) _ j (by simp at h ⊢; omega)]
    simp only [List.length_cons, Nat.zero_add] at h ⊢
    by_cases h1 : k + 1 ≤ j ∧ j < k + 1 + l.length
    · rw [if_pos h1, if_pos (by omega), show j - k = (j - (k + 1)) + 1 by omega, List.getElem?_cons_succ]
    · rw [if_neg h1, Array.getElem?_setIfInBounds]
      by_cases h2 : k = j
      · subst h2
        rw [if_pos rfl, if_pos (by omega), if_pos (by omega), Nat.sub_self, List.getElem?_cons_zero]
      · rw [if_neg h2, if_neg (by omega)]
theorem fold_all (cs base : Array Value) (h : base.size = cs.size) : cs.zipIdx.foldl (fun (a : Array Value) p => a.setIfInBounds (0 + p.2) p.1) base = cs := by
  apply Array.ext_getElem?
  intro j
  have e := fold_get cs.toList 0 base j (by simp [h])
  have e2 : cs.zipIdx.foldl (fun (a : Array Value) p => a.setIfInBounds (0 + p.2) p.1) base = (cs.toList.zipIdx 0).foldl (fun (a : Array Value) p => a.setIfInBounds (0 + p.2) p.1) base := by
    rw [← Array.foldl_toList, Array.toList_zipIdx]
  rw [e2, e]
  by_cases hj : j < cs.size
  · rw [if_pos (by simp; omega)]
    simp
  · rw [if_neg (by simp; omega), Array.getElem?_eq_none (by omega), Array.getElem?_eq_none (by omega)]

section
variable {P : Program}
theorem fill_one (size : Nat) (z : Array Value) (cs : Array Value) (hs : size = cs.size) :
    Instr.fill (fun i => some (i * size, size)) ((Array.range (1 * size)).map (z[· % z.size]!)) [(0, Value.agg cs)] = some cs := by
  have hf := fold_all cs ((Array.range (1 * size)).map (z[· % z.size]!)) (by simp [hs])
  subst hs
  unfold Instr.fill
  have e : ¬ ((Value.agg cs).cells.size ≠ cs.size || 0 * cs.size + (Value.agg cs).cells.size > ((Array.range (1 * cs.size)).map (z[· % z.size]!)).size) = true := by simp [Value.cells]
  simp only [e]
  unfold Instr.fill
  simp only [Bool.false_eq_true, if_false, Nat.zero_mul]
  exact congrArg some hf
theorem run_build_one (t e : TypeId) (i : TypeInfo) (z : Value) (ht : P.underlying t = some (.slice e)) (hi : P.info? e = some i) (hz : i.zero = some z) (cs : Array Value) (hs : i.size = cs.size) (h0 : 0 < cs.size) (hb : cs.size ≤ 16777216) (w : World) :
    (Instr.buildSlice t 1 #[(0, .agg cs)]).run P w = .ok (.slice (some ⟨w.heap.size, 0, none⟩) 1 1) (w.alloc (.cells cs e)) :=
  run_buildSlice w t e 1 _ cs i z ht hi hz (by rw [hs]; omega) (by omega) (fill_one i.size z.cells cs hs)

/-- A slice of one whole value is made: its block, in a world that is a letter. -/
theorem wp_build_one {o : Oper} {a : Act} {w : World} {K : Act → World → Prop} {Q : Exit → Act → World → Prop} (t e : TypeId) (y : Operand) (ho : o.op = .buildSlice t 1 #[(0, y)])
    (i : TypeInfo) (z : Value) (ht : P.underlying t = some (.slice e)) (hi : P.info? e = some i) (hz : i.zero = some z) (cs : Array Value) (hy : a.eval y = .agg cs) (hs : i.size = cs.size) (h0 : 0 < cs.size) (hb : cs.size ≤ 16777216)
    (H : Nat) (hH : w.heap.size = H)
    (h : ∀ W, Has W H e cs → Below w.heap.size w W → K (a.put o.dst (.slice (some ⟨H, 0, none⟩) 1 1)) W) : o.wp P a w K Q := by
  subst hH
  have hr := run_build_one (P := P) t e i z ht hi hz cs hs h0 hb w
  have he : (#[(0, y)] : Array (Nat × Operand)).map (fun (i, x) => (i, a.eval x)) = #[(0, Value.agg cs)] := by simp [hy]
  unfold Oper.wp execOp
  simp only [ho, he, Sem.run_bind, hr, Result.andThen_ok]
  exact h _ (Has.made w e cs) ((Below.refl _ _).alloc (Nat.le_refl _) _)
theorem wpList_build_one {ops : Array Oper} {rest : List Oper} {o : Oper} {a : Act} {w : World} {Q : Exit → Act → World → Prop} (hg : o.guard = none) (t e : TypeId) (y : Operand) (ho : o.op = .buildSlice t 1 #[(0, y)])
    (i : TypeInfo) (z : Value) (ht : P.underlying t = some (.slice e)) (hi : P.info? e = some i) (hz : i.zero = some z) (cs : Array Value) (hy : a.eval y = .agg cs) (hs : i.size = cs.size) (h0 : 0 < cs.size) (hb : cs.size ≤ 16777216)
    (H : Nat) (hH : w.heap.size = H)
    (h : ∀ W, Has W H e cs → Below w.heap.size w W → wpList P ops Q rest (a.put o.dst (.slice (some ⟨H, 0, none⟩) 1 1)) W) : wpList P ops Q (o :: rest) a w :=
  wpList_plain hg fun _ hK => wp_build_one t e y ho i z ht hi hz cs hy hs h0 hb H hH fun W h1 h2 => hK _ _ (h W h1 h2)

/-- Results: a whole row out of its cell, and a plain one. -/
theorem results_cell_tmp {fn : Func} {p q : Tmp} {ty : TypeId} (h : fn.results = #[.cell p ty, .tmp q]) (tmps : Array Value) (w : World) (g : Nat) (t : TypeId) (cs : Array Value) (fr : Nat × Nat) (d : TypeDesc)
    (hp : tmps.getD p undef = .pointer (some ⟨g, 0, none⟩)) (hg : w.heap[g]? = some (.cells cs t fr))
    (hu : P.underlying ty = some d) (hd : (match d with | .struct _ | .array _ _ => true | _ => false) = true) (hi : (P.info? ty).map (·.size) = some cs.size) (v : Value) (hq : tmps.getD q undef = v) :
    (results fn tmps).run P w = .ok (.tuple #[.agg cs, v]) w := by
  have hp' : tmps[p]?.getD undef = .pointer (some ⟨g, 0, none⟩) := by simpa using hp
  have hq' : tmps[q]?.getD undef = v := by simpa using hq
  simp [results, h, hp', hq', asAddr, run_loadVar_row w g t ty cs fr d hg hu hd hi]
end
end Go.Proofs.YthbncejbcegmgaaDoor
end

section
/- tree: inclusion, consistency. -/
namespace Go.Proofs.YthbncejbcegmgaaDoor.dig
open Go Go.RowKit

theorem pow_half {n K : Nat} (h2 : 2 ≤ n) (hn : n ≤ 2 ^ K) : ∃ i, half n = 2 ^ i ∧ i < K := by
  refine ⟨Nat.log2 (n - 1), rfl, pow_lt_iff ?_⟩
  have := half_lt h2
  unfold half at this
  omega
theorem av_right {fl a n K : Nat} (h2 : 2 ≤ n) (hd : 2 ^ K ∣ a) (hn : n ≤ 2 ^ K) (hf : fl < a + n) : Av fl (a + half n) (n - half n) := by
  obtain ⟨i, hi, hK⟩ := pow_half h2 hn
  have h1 := half_lt h2
  have h3 := half_ge h2
  rw [hi] at *
  exact .inr (.inr ⟨by omega, i, (Nat.dvd_add_iff_left (Nat.dvd_refl _)).1 (dvd_of_le hd (Nat.le_of_lt hK)), by omega, by omega⟩)
theorem av_left {fl a n K : Nat} (h2 : 2 ≤ n) (hd : 2 ^ K ∣ a) (hn : n ≤ 2 ^ K) (hf : fl < a + 2 * half n) : Av fl a (half n) := by
  obtain ⟨i, hi, hK⟩ := pow_half h2 hn
  exact .inl ⟨i, hi, dvd_of_le hd hK, by rw [Nat.pow_succ, ← hi]; omega⟩
theorem dv_left {a n K : Nat} (h2 : 2 ≤ n) (hd : 2 ^ K ∣ a) (hn : n ≤ 2 ^ K) : ∃ J, 2 ^ J ∣ a ∧ half n ≤ 2 ^ J := by
  obtain ⟨i, hi, hK⟩ := pow_half h2 hn
  exact ⟨i, dvd_of_le hd (Nat.le_of_lt hK), by rw [hi]; exact Nat.le_refl _⟩
theorem dv_right {a n K : Nat} (h2 : 2 ≤ n) (hd : 2 ^ K ∣ a) (hn : n ≤ 2 ^ K) : ∃ J, 2 ^ J ∣ a + half n ∧ n - half n ≤ 2 ^ J := by
  obtain ⟨i, hi, hK⟩ := pow_half h2 hn
  have h3 := half_ge h2
  exact ⟨i, by rw [hi]; exact (Nat.dvd_add_iff_left (Nat.dvd_refl _)).1 (dvd_of_le hd (Nat.le_of_lt hK)), by omega⟩



theorem below_own {B : Nat} {w w' : World} {v : Value} (h : w.grownBy w' v.ownBlock) (hv : ∀ x, v.ownBlock = some x → B ≤ x) (hB : B ≤ w.heap.size) : Below B w w' :=
  ⟨h.os, h.tape, h.output, h.size, fun i hi => h.block i (by omega) (fun e => by have := hv i e.symm; omega)⟩

/-- A list of sums was answered, in new memory. -/
def SumsPost (w : World) (l : List (List UInt8)) (en : Ending) (w' : World) : Prop :=
  ∃ v, en = .returned v ∧ Seg w' 33 32 v l.length (sumsC l) ∧ (∀ x, v.ownBlock = some x → w.heap.size ≤ x) ∧ Below w.heap.size w w'

set_option maxRecDepth 100000 in
set_option maxHeartbeats 2000000 in
theorem incl_calls (B : Nat) (F : Nat → Prop) (b N fl : Nat) (f : Nat → List UInt8) (hN : N < 1024) : ∀ (n i a K : Nat) (w : World), Tr B F w b N fl f → 2 ^ K ∣ a → n ≤ 2 ^ K → a + n ≤ N → i < n → fl ≤ a + i →
    Calls Tryd.prog 38 #[.pointer (some ⟨b, 0, none⟩), .int .i64 i, .int .i64 a, .int .i64 n] w (SumsPost w (path f i a n)) := by
  intro n
  induction n using Nat.strongRecOn with
  | _ n ih =>
  intro i a K w hT hd hnK han hin hfl
  by_cases h2 : 2 ≤ n
  · have h1 := half_lt h2
    have h0 := half_pos n
    have h3 := half_ge h2
    obtain ⟨k, hk⟩ : ∃ k, k = half n := ⟨_, rfl⟩
    obtain ⟨n', hn'⟩ : ∃ n', n' = n - k := ⟨_, rfl⟩
    obtain ⟨a', ha'⟩ : ∃ a', a' = a + k := ⟨_, rfl⟩
    have hk1 : (n : Int) - (k : Int) = (n' : Int) := by omega
    have hk2 : (a : Int) + (k : Int) = (a' : Int) := by omega
    have hk3 : (a' : Int) ≤ 1000000 := by omega
    have hk4 : (n' : Int) ≤ 1000000 := by omega
    have hb1 : (n : Int) ≤ 1000000 := by omega
    have hb2 : (a : Int) ≤ 1000000 := by omega
    have hb3 : (k : Int) ≤ 1000000 := by omega
    have hb4 : (i : Int) ≤ 1000000 := by omega
    have hn2 : ¬ (n : Int) = 1 := by omega
    have hn1000 : n ≤ 1000000000000 := by omega
    have HK := Lib.hid hk
    by_cases hik : i < k
    · have hik2 : (i : Int) < (k : Int) := by omega
      obtain ⟨J, hJ1, hJ2⟩ := dv_left h2 hd hnK
      have hav := av_right (fl := fl) h2 hd hnK (by omega)
      rw [← hk] at hJ2
      rw [← hk, ← ha', ← hn'] at hav
      have hp : path f i a n = path f i a k ++ [rt f a' n'] := by rw [path, dif_pos h2, if_pos (by rw [← hk]; exact hik), ← hk, ← ha', ← hn']
      have HP := Lib.hid hp
      have HI := Lib.hid (fun w' (h : Tr B F w' b N fl f) => ih k (by omega) i a J w' h hJ1 hJ2 (by omega) hik hfl)
      have HQ := Lib.hid (fun w' (h : Tr B F w' b N fl f) => root_calls B F b N fl f hN n' a' w' h hav (by omega))
      have HL := Lib.hid (rt_len hT.len a' n' (by omega))
      have HM : Hid ((path f i a k).length ≤ 64) := Lib.hid (by have := path_le f 10 k a i (by omega); omega)
      have HT := Lib.hid hT
      clear ih hT hd hnK han hin hfl h1 h0 h3 hk hn' ha' hJ1 hJ2 hav hp hik
      generalize path f i a k = l at *
      generalize rt f a' n' = x at *
      go_enter Tryd.func38, Tryd.ntmps38
      go_wp2_with fail
      refine (half_calls n w h2 hn1000).mono ?_
      rw [← HK.out]
      rintro e w' ⟨rfl, rfl⟩
      go_wp2_with fail
      refine (HI.out _ HT.out).mono ?_
      rintro e w1 ⟨v, rfl, s1, lo1, b1⟩
      have T1 : Hid (Tr B F w1 b N fl f ∧ Below w.heap.size w w1 ∧ Seg w1 33 32 v l.length (sumsC l) ∧ (∀ x, v.ownBlock = some x → w.heap.size ≤ x)) := Lib.hid ⟨HT.out.below b1, b1, s1, lo1⟩
      clear s1 lo1 b1 HT
      go_wp2_with fail
      refine (HQ.out _ T1.out.1).mono ?_
      rintro e w2 ⟨rfl, b2⟩
      have T2 : Hid (Below w.heap.size w w2 ∧ Seg w2 33 32 v l.length (sumsC l) ∧ (∀ x, v.ownBlock = some x → w.heap.size ≤ x)) := Lib.hid ⟨T1.out.2.1.trans (b2.mono T1.out.2.1.size), T1.out.2.2.1.below b2 (fun x hx => T1.out.2.2.1.lt hx), T1.out.2.2.2⟩
      clear T1 b2
      obtain ⟨i0, z0, hi0, hz0, hz1, hz2, hz3⟩ := sumInfo
      have HI0 := Lib.hid hi0
      have HZ0 := Lib.hid hz0
      clear hi0 hz0
      go_wp2_with (first
        | ((with_reducible refine at_op 30 ?_); refine wpList_build_one (o := ⟨some 30, _, _, _, _, _⟩) rfl 26 33 _ rfl i0 z0 Tryd.underlying26 HI0.out HZ0.out (cellsOf x) rfl (by rw [hz1, cellsOf_size, HL.out]) (by rw [cellsOf_size, HL.out]; decide) (by rw [cellsOf_size, HL.out]; decide) w2.heap.size rfl ?_; intro W3 HW3 BW3;
           (have T3 : Hid (Below w.heap.size w W3 ∧ Seg W3 33 32 v l.length (sumsC l) ∧ (∀ x, v.ownBlock = some x → w.heap.size ≤ x) ∧ Has W3 w2.heap.size 33 (cellsOf x)) := Lib.hid ⟨T2.out.1.trans (BW3.mono T2.out.1.size), T2.out.2.1.below BW3 (fun x hx => T2.out.2.1.lt hx), T2.out.2.2, HW3⟩);
           clear T2 HW3 BW3)
        | ((with_reducible refine at_op 31 ?_); refine wpList_append_seg (o := ⟨some 31, _, _, _, _, _⟩) _ rfl (.tmp 21) (.tmp 30) 26 rfl 33 i0 z0 32 32 Tryd.underlying26 HI0.out HZ0.out hz1 hz3 hz2 (by decide) v l.length (sumsC l) rfl T3.out.2.1 ⟨w2.heap.size, 0, none⟩ 1 1 (x.map byteV) rfl (by rw [List.length_map, HL.out]) (World.news_of_block T3.out.2.2.2) (byteV_one _) (by decide) (by have := HM.out; unfold maxLen; omega) (by have := HM.out; omega) _ rfl ?_;
           intro g off cap w4 hown hgrow hat hlt)
        | fail)
      go_ret
      rw [HP.out]
      refine ⟨_, rfl, ?_, ?_, ?_⟩
      · rw [sumsC_snoc, List.length_append]; exact hown
      · intro y hy
        have e : g = y := by simpa [Value.ownBlock] using hy
        rw [← e]
        rcases hat with h | h
        · exact T3.out.2.2.1 g h
        · rw [h]; exact T3.out.1.size
      · exact T3.out.1.trans (below_own hgrow T3.out.2.2.1 T3.out.1.size)
    · have hik2 : ¬ (i : Int) < (k : Int) := by omega
      obtain ⟨i', hi'⟩ : ∃ i', i' = i - k := ⟨_, rfl⟩
      have hk5 : (i : Int) - (k : Int) = (i' : Int) := by omega
      have hk6 : (i' : Int) ≤ 1000000 := by omega
      obtain ⟨J, hJ1, hJ2⟩ := dv_right h2 hd hnK
      have hav := av_left (fl := fl) h2 hd hnK (by omega)
      rw [← hk, ← ha'] at hJ1
      rw [← hk, ← hn'] at hJ2
      rw [← hk] at hav
      have hp : path f i a n = path f i' a' n' ++ [rt f a k] := by rw [path, dif_pos h2, if_neg (by rw [← hk]; exact hik), ← hk, ← ha', ← hn', ← hi']
      have HP := Lib.hid hp
      have HI := Lib.hid (fun w' (h : Tr B F w' b N fl f) => ih n' (by omega) i' a' J w' h hJ1 hJ2 (by omega) (by omega) (by omega))
      have HQ := Lib.hid (fun w' (h : Tr B F w' b N fl f) => root_calls B F b N fl f hN k a w' h hav (by omega))
      have HL := Lib.hid (rt_len hT.len a k (by omega))
      have HM : Hid ((path f i' a' n').length ≤ 64) := Lib.hid (by have := path_le f 10 n' a' i' (by omega); omega)
      have HT := Lib.hid hT
      clear ih hT hd hnK han hin hfl h1 h0 h3 hk hn' ha' hi' hJ1 hJ2 hav hp hik
      generalize path f i' a' n' = l at *
      generalize rt f a k = x at *
      go_enter Tryd.func38, Tryd.ntmps38
      go_wp2_with fail
      refine (half_calls n w h2 hn1000).mono ?_
      rw [← HK.out]
      rintro e w' ⟨rfl, rfl⟩
      go_wp2_with fail
      refine (HI.out _ HT.out).mono ?_
      rintro e w1 ⟨v, rfl, s1, lo1, b1⟩
      have T1 : Hid (Tr B F w1 b N fl f ∧ Below w.heap.size w w1 ∧ Seg w1 33 32 v l.length (sumsC l) ∧ (∀ x, v.ownBlock = some x → w.heap.size ≤ x)) := Lib.hid ⟨HT.out.below b1, b1, s1, lo1⟩
      clear s1 lo1 b1 HT
      go_wp2_with fail
      refine (HQ.out _ T1.out.1).mono ?_
      rintro e w2 ⟨rfl, b2⟩
      have T2 : Hid (Below w.heap.size w w2 ∧ Seg w2 33 32 v l.length (sumsC l) ∧ (∀ x, v.ownBlock = some x → w.heap.size ≤ x)) := Lib.hid ⟨T1.out.2.1.trans (b2.mono T1.out.2.1.size), T1.out.2.2.1.below b2 (fun x hx => T1.out.2.2.1.lt hx), T1.out.2.2.2⟩
      clear T1 b2
      obtain ⟨i0, z0, hi0, hz0, hz1, hz2, hz3⟩ := sumInfo
      have HI0 := Lib.hid hi0
      have HZ0 := Lib.hid hz0
      clear hi0 hz0
      go_wp2_with (first
        | ((with_reducible refine at_op 47 ?_); refine wpList_build_one (o := ⟨some 47, _, _, _, _, _⟩) rfl 26 33 _ rfl i0 z0 Tryd.underlying26 HI0.out HZ0.out (cellsOf x) rfl (by rw [hz1, cellsOf_size, HL.out]) (by rw [cellsOf_size, HL.out]; decide) (by rw [cellsOf_size, HL.out]; decide) w2.heap.size rfl ?_; intro W3 HW3 BW3;
           (have T3 : Hid (Below w.heap.size w W3 ∧ Seg W3 33 32 v l.length (sumsC l) ∧ (∀ x, v.ownBlock = some x → w.heap.size ≤ x) ∧ Has W3 w2.heap.size 33 (cellsOf x)) := Lib.hid ⟨T2.out.1.trans (BW3.mono T2.out.1.size), T2.out.2.1.below BW3 (fun x hx => T2.out.2.1.lt hx), T2.out.2.2, HW3⟩);
           clear T2 HW3 BW3)
        | ((with_reducible refine at_op 48 ?_); refine wpList_append_seg (o := ⟨some 48, _, _, _, _, _⟩) _ rfl (.tmp 42) (.tmp 47) 26 rfl 33 i0 z0 32 32 Tryd.underlying26 HI0.out HZ0.out hz1 hz3 hz2 (by decide) v l.length (sumsC l) rfl T3.out.2.1 ⟨w2.heap.size, 0, none⟩ 1 1 (x.map byteV) rfl (by rw [List.length_map, HL.out]) (World.news_of_block T3.out.2.2.2) (byteV_one _) (by decide) (by have := HM.out; unfold maxLen; omega) (by have := HM.out; omega) _ rfl ?_;
           intro g off cap w4 hown hgrow hat hlt)
        | fail)
      go_ret
      rw [HP.out]
      refine ⟨_, rfl, ?_, ?_, ?_⟩
      · rw [sumsC_snoc, List.length_append]; exact hown
      · intro y hy
        have e : g = y := by simpa [Value.ownBlock] using hy
        rw [← e]
        rcases hat with h | h
        · exact T3.out.2.2.1 g h
        · rw [h]; exact T3.out.1.size
      · exact T3.out.1.trans (below_own hgrow T3.out.2.2.1 T3.out.1.size)
  · obtain rfl : n = 1 := by omega
    have hp : path f i a 1 = [] := by rw [path, dif_neg (by omega)]
    go_enter Tryd.func38, Tryd.ntmps38
    go_wp2_with fail
    go_ret
    rw [hp]
    exact ⟨_, rfl, Seg.nil _ _ _, (fun x (hx : (Value.slice none 0 0).ownBlock = some x) => by cases hx), Below.refl _ _⟩
end Go.Proofs.YthbncejbcegmgaaDoor.dig
end

section
/- tree: Root, Inclusion, Consistency, Len, Floor. -/
namespace Go.Proofs.YthbncejbcegmgaaDoor.dig
open Go Go.RowKit

theorem two_ge (n : Nat) : n ≤ 2 ^ n := Nat.le_of_lt Nat.lt_two_pow_self

/-- A list of sums was answered with OK, in new memory. -/
def SumsOk (w : World) (l : List (List UInt8)) (en : Ending) (w' : World) : Prop :=
  ∃ v, en = .returned (.tuple #[v, .int .i64 0]) ∧ Seg w' 33 32 v l.length (sumsC l) ∧ (∀ x, v.ownBlock = some x → w.heap.size ≤ x) ∧ Below w.heap.size w w'

section
variable {B : Nat} {F : Nat → Prop} {b N fl : Nat} {f : Nat → List UInt8} {w : World}

set_option maxRecDepth 100000 in
set_option maxHeartbeats 1000000 in
theorem Tr.inclusion (hT : Tr B F w b N fl f) (hN : N < 1024) (i n : Nat) (hn : n ≤ N) (hi : i < n) (hf : fl ≤ i) :
    Calls Tryd.prog 17 #[.pointer (some ⟨b, 0, none⟩), .int .i64 i, .int .i64 n] w (SumsOk w (path f i 0 n)) := by
  have HI := Lib.hid (incl_calls B F b N fl f hN n i 0 n w hT ⟨0, by simp⟩ (two_ge n) (by omega) hi (by omega))
  obtain ⟨rv, hh⟩ := hT.head
  have e0 := hh.cell 0
  have e1 := hh.cell 1
  simp at e0 e1
  have h1 : ¬ (n : Int) < 0 := by omega
  have h2 : ¬ (n : Int) > (N : Int) := by omega
  have h3 : ¬ (i : Int) < 0 := by omega
  have h4 : ¬ (i : Int) ≥ (n : Int) := by omega
  have h5 : ¬ (i : Int) < (fl : Int) := by omega
  clear hT hh
  go_enter Tryd.func17, Tryd.ntmps17
  go_wp2_with fail
  refine HI.out.mono ?_
  rintro e w1 ⟨v, rfl, s1, lo1, b1⟩
  have S := Lib.hid (show _ ∧ _ ∧ _ from ⟨s1, lo1, b1⟩)
  clear s1 lo1 b1 HI
  go_wp2_with fail
  go_ret2
  exact ⟨v, rfl, S.out⟩

set_option maxRecDepth 100000 in
set_option maxHeartbeats 1000000 in
theorem Tr.inclusion_low (hT : Tr B F w b N fl f) (i n : Nat) (hn : n ≤ N) (hi : i < n) (hf : i < fl) :
    Calls Tryd.prog 17 #[.pointer (some ⟨b, 0, none⟩), .int .i64 i, .int .i64 n] w fun en w' => en = .returned (.tuple #[.slice none 0 0, .int .i64 14]) ∧ w = w' := by
  obtain ⟨rv, hh⟩ := hT.head
  have e0 := hh.cell 0
  have e1 := hh.cell 1
  simp at e0 e1
  have h1 : ¬ (n : Int) < 0 := by omega
  have h2 : ¬ (n : Int) > (N : Int) := by omega
  have h3 : ¬ (i : Int) < 0 := by omega
  have h4 : ¬ (i : Int) ≥ (n : Int) := by omega
  have h5 : (i : Int) < (fl : Int) := by omega
  clear hT hh
  go_enter Tryd.func17, Tryd.ntmps17
  go_wp2_with fail
  go_ret2
  exact ⟨rfl, rfl⟩

theorem rtAll_len {f : Nat → List UInt8} (h : ∀ i, (f i).length = 32) (n : Nat) : (rtAll f n).length = 32 := by
  unfold rtAll
  split
  · exact sum_length _
  · exact rt_len h 0 n (by omega)

set_option maxRecDepth 100000 in
set_option maxHeartbeats 1000000 in
theorem Tr.root (hT : Tr B F w b N fl f) (hN : N < 1024) (n : Nat) (hn : n ≤ N) (hf : fl ≤ n) :
    Calls Tryd.prog 12 #[.pointer (some ⟨b, 0, none⟩), .int .i64 n] w fun en w' => en = .returned (.tuple #[.agg (cellsOf (rtAll f n)), .int .i64 0]) ∧ Below w.heap.size w w' := by
  have HT := Lib.hid hT
  obtain ⟨rv, hh⟩ := hT.head
  have e0 : ∀ O, (w.alloc O).cell? ⟨b, 0, none⟩ = some (.int .i64 N) := fun O => (hh.alloc O).cell 0
  have e1 : ∀ O, (w.alloc O).cell? ⟨b, 1, none⟩ = some (.int .i64 fl) := fun O => (hh.alloc O).cell 1
  have h1 : ¬ (n : Int) < 0 := by omega
  have h2 : ¬ (n : Int) > (N : Int) := by omega
  have h5 : ¬ (n : Int) < (fl : Int) := by omega
  have HL := Lib.hid (rtAll_len hT.len n)
  by_cases h0 : n = 0
  · subst h0
    have hx : rtAll f 0 = sum (ByteArray.empty).data.toList := rfl
    have HX := Lib.hid hx
    clear hT hh hx
    go_enter Tryd.func12, Tryd.ntmps12
    go_wp2_with fail
    refine callsName (fun W hW => ?_)
    have B0 : Hid (Below w.heap.size w W) := by rw [← hW]; exact Lib.hid ((Below.refl _ _).alloc (Nat.le_refl _) _)
    have Z0 : Hid (Has W w.heap.size 33 (cellsOf (List.replicate 32 0))) := by rw [← hW]; exact Lib.hid (made_at _ _ rfl)
    clear hW e0 e1
    refine (of_calls _ W (HT.out.below B0.out).rt.rk (by decide)).mono ?_
    rintro e w' ⟨rfl, b5⟩
    have S5 : Hid (Has w' w.heap.size 33 (cellsOf (List.replicate 32 0)) ∧ Below w.heap.size w w') := Lib.hid ⟨Z0.out.below b5 Z0.out.lt, B0.out.trans (b5.mono B0.out.size)⟩
    clear b5 Z0 B0
    go_wp2_with (first
      | (refine wpList_store_arr (o := ⟨none, _, _, _, _, _⟩) rfl 33 _ _ rfl w.heap.size (rtAll f 0) (List.replicate 32 0) rfl rfl _ S5.out.1 32 (by kernel_rfl) (by simp) HL.out ?_; intro W6 HW6 TW6)
      | fail)
    exact bodyPost_ret (v := .tuple #[.agg (cellsOf (rtAll f 0)), .int .i64 0]) (results_cell_tmp rfl _ _ w.heap.size 33 _ _ _ rfl HW6 Tryd.underlying33 rfl (by rw [cellsOf_size, HL.out]; kernel_rfl) _ rfl) rfl ⟨rfl, S5.out.2.trans (TW6.below S5.out.2.size (fun j hj e => by omega))⟩
  · have h6 : ¬ (n : Int) = 0 := by omega
    have hx : rtAll f n = dig.rt f 0 n := by unfold rtAll; rw [if_neg h0]
    have HX := Lib.hid hx
    have hav : Av fl 0 n := .inr (.inl ⟨by omega, n, ⟨0, by simp⟩, Nat.lt_two_pow_self, by omega⟩)
    have HR := Lib.hid (fun w' (h : Tr B F w' b N fl f) => root_calls B F b N fl f hN n 0 w' h hav (by omega))
    clear hT hh hx hav
    go_enter Tryd.func12, Tryd.ntmps12
    go_wp2_with fail
    refine callsName (fun W hW => ?_)
    have B0 : Hid (Below w.heap.size w W) := by rw [← hW]; exact Lib.hid ((Below.refl _ _).alloc (Nat.le_refl _) _)
    have Z0 : Hid (Has W w.heap.size 33 (cellsOf (List.replicate 32 0))) := by rw [← hW]; exact Lib.hid (made_at _ _ rfl)
    clear hW e0 e1
    refine (HR.out W (HT.out.below B0.out)).mono ?_
    rw [← HX.out]
    rintro e w' ⟨rfl, b5⟩
    have S5 : Hid (Has w' w.heap.size 33 (cellsOf (List.replicate 32 0)) ∧ Below w.heap.size w w') := Lib.hid ⟨Z0.out.below b5 Z0.out.lt, B0.out.trans (b5.mono B0.out.size)⟩
    clear b5 Z0 B0
    go_wp2_with (first
      | (refine wpList_store_arr (o := ⟨none, _, _, _, _, _⟩) rfl 33 _ _ rfl w.heap.size (rtAll f n) (List.replicate 32 0) rfl rfl _ S5.out.1 32 (by kernel_rfl) (by simp) HL.out ?_; intro W6 HW6 TW6)
      | fail)
    exact bodyPost_ret (v := .tuple #[.agg (cellsOf (rtAll f n)), .int .i64 0]) (results_cell_tmp rfl _ _ w.heap.size 33 _ _ _ rfl HW6 Tryd.underlying33 rfl (by rw [cellsOf_size, HL.out]; kernel_rfl) _ rfl) rfl ⟨rfl, S5.out.2.trans (TW6.below S5.out.2.size (fun j hj e => by omega))⟩
end
end Go.Proofs.YthbncejbcegmgaaDoor.dig
end

