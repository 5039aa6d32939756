/- Texts laid into one: Base, Arr, Reg, Own, DigA. -/
import Derived.Test.YtcdedkgkingbdaaGreatDoorRows
import Derived.WalkKit
import Derived.WalkSpells
import Derived.WalkLawsBesides
import Derived.Deep.AppendLies
import Derived.Deep.RegionLaw
import Derived.Deep.Draws
import Derived.Deep.LoopGhost
import Derived.Lib.Hide
import Derived.Laws.CopyOwn
import Derived.ChangeKeysEq
import Derived.Deep.MidRow
import Derived.Laws.OwnMore
section
/- Small words for memory, over every program: a block that is known whole, and what stays when one block turns. -/
namespace Go.Proofs.YtcdedkgkingbdaaGreatDoor
open Go.RowKit

/-- Block g of world w is just the cells cs, of element type t, and may be written. -/
def Has (w : World) (g : Nat) (t : TypeId) (cs : Array Value) : Prop := w.heap[g]? = some (.cells cs t (0, 0))

section
variable {w w' w1 : World} {g b : Nat} {t : TypeId} {cs : Array Value}

theorem Has.lt (h : Has w g t cs) : g < w.heap.size := by
  rcases Nat.lt_or_ge g w.heap.size with k | k
  · exact k
  · unfold Has at h; rw [Array.getElem?_eq_none k] at h; cases h

theorem Has.cell (h : Has w g t cs) (i : Nat) : w.cell? ⟨g, i, none⟩ = cs[i]? := by
  unfold Has at h
  simp [World.cell?, h]

theorem Has.free (h : Has w g t cs) (i : Nat) : w.frozen? ⟨g, i, none⟩ = false := by
  unfold Has at h
  simp [World.frozen?, h]

theorem Has.made (w : World) (t : TypeId) (cs : Array Value) : Has (w.alloc (.cells cs t)) w.heap.size t cs := heap_alloc_new w _

theorem Has.drew (h : Has w g t cs) : Has w.drew g t cs := h

theorem Has.keep (h : Has w g t cs) (e : w'.heap[g]? = w.heap[g]?) : Has w' g t cs := e.trans h

theorem Has.alloc (h : Has w g t cs) (o : Obj) : Has (w.alloc o) g t cs := h.keep (Below.heap_alloc w o g h.lt)

theorem Has.put (h : Has w g t cs) (i : Nat) (u : Value) : Has (w.setCell ⟨g, i, none⟩ u) g t (cs.setIfInBounds i u) := by
  unfold Has at h ⊢
  simp [World.setCell, Array.getElem?_modify, h]

theorem Has.far (h : Has w g t cs) {p : Addr} (hp : g ≠ p.block) (u : Value) : Has (w.setCell p u) g t cs := h.keep (Below.heap_setCell w p u g hp)

theorem Has.below {B : Nat} (h : Has w g t cs) (hb : Below B w w') (hg : g < B) : Has w' g t cs := h.keep (hb.block g hg)

theorem Has.grown {r : Option Nat} (h : Has w g t cs) (hb : w.grownBy w' r) (hg : some g ≠ r) : Has w' g t cs := h.keep (hb.block g h.lt hg)

theorem Has.uniq {t' : TypeId} {cs' : Array Value} (h : Has w g t cs) (h' : Has w g t' cs') : cs = cs' ∧ t = t' := by
  unfold Has at h h'
  rw [h] at h'
  injection h' with h'
  injection h' with h1 h2
  exact ⟨h1, h2⟩

/-- Only block b turns (and new blocks come). -/
theorem grown_refl (w : World) (r : Option Nat) : w.grownBy w r := World.grownBy.refl w r

theorem grown_drew {r : Option Nat} (h : w.grownBy w' r) : w.grownBy w'.drew r := ⟨h.os, h.tape, h.output, h.size, h.block⟩

theorem grown_drewN {r : Option Nat} (h : w.grownBy w' r) (n : Nat) : w.grownBy (w'.drewN n) r := ⟨h.os, h.tape, h.output, h.size, h.block⟩

theorem grown_alloc {r : Option Nat} (h : w.grownBy w' r) (o : Obj) : w.grownBy (w'.alloc o) r :=
  ⟨h.os, h.tape, h.output, Nat.le_trans h.size (by simp), fun i hi hne => (Below.heap_alloc w' o i (Nat.lt_of_lt_of_le hi h.size)).trans (h.block i hi hne)⟩

theorem grown_put (h : w.grownBy w' (some b)) {p : Addr} (hp : p.block = b ∨ w.heap.size ≤ p.block) (u : Value) : w.grownBy (w'.setCell p u) (some b) :=
  ⟨h.os, h.tape, h.output, by simpa [World.setCell] using h.size, fun i hi hne => (Below.heap_setCell w' p u i (by
    rintro rfl
    rcases hp with hp | hp
    · exact hne (by rw [hp])
    · omega)).trans (h.block i hi hne)⟩

theorem grown_own (h : w.grownBy w' (some b)) (i : Nat) (u : Value) : w.grownBy (w'.setCell ⟨b, i, none⟩ u) (some b) := grown_put h (.inl rfl) u

theorem grown_below {B : Nat} (h : Below B w w') (r : Option Nat) (hB : w.heap.size ≤ B) : w.grownBy w' r :=
  ⟨h.os, h.tape, h.output, h.size, fun i hi _ => h.block i (by omega)⟩

theorem grown_trans {r : Option Nat} (h : w.grownBy w1 r) (k : w1.grownBy w' r) : w.grownBy w' r :=
  ⟨k.os.trans h.os, k.tape.trans h.tape, k.output.trans h.output, Nat.le_trans h.size k.size,
    fun i hi hne => (k.block i (Nat.lt_of_lt_of_le hi h.size) hne).trans (h.block i hi hne)⟩

/-- What turns one block that is not below B leaves all below B. -/
theorem below_grown {B : Nat} (h : w.grownBy w' (some b)) (hb : B ≤ b) (hB : B ≤ w.heap.size) : Below B w w' :=
  ⟨h.os, h.tape, h.output, h.size, fun i hi => h.block i (by omega) (by intro e; injection e; omega)⟩

theorem below_none {B : Nat} (h : w.grownBy w' none) (hB : B ≤ w.heap.size) : Below B w w' :=
  ⟨h.os, h.tape, h.output, h.size, fun i hi => h.block i (by omega) (by simp)⟩
end

/-- From w to w' only blocks of F turn, and new ones come. -/
structure Turn (F : Nat → Prop) (w w' : World) : Prop where
  os : w'.os = w.os
  tape : w'.tape = w.tape
  output : w'.output = w.output
  size : w.heap.size ≤ w'.heap.size
  block : ∀ k, k < w.heap.size → ¬ F k → w'.heap[k]? = w.heap[k]?

section
variable {F G : Nat → Prop} {w w' w1 : World}

theorem Turn.refl (F : Nat → Prop) (w : World) : Turn F w w := ⟨rfl, rfl, rfl, Nat.le_refl _, fun _ _ _ => rfl⟩
theorem Turn.drew (h : Turn F w w') : Turn F w w'.drew := ⟨h.os, h.tape, h.output, h.size, h.block⟩
theorem Turn.drewN (h : Turn F w w') (n : Nat) : Turn F w (w'.drewN n) := ⟨h.os, h.tape, h.output, h.size, h.block⟩
theorem Turn.alloc (h : Turn F w w') (o : Obj) : Turn F w (w'.alloc o) :=
  ⟨h.os, h.tape, h.output, Nat.le_trans h.size (by simp), fun i hi hne => (Below.heap_alloc w' o i (Nat.lt_of_lt_of_le hi h.size)).trans (h.block i hi hne)⟩
theorem Turn.put (h : Turn F w w') {b : Nat} (hb : b < w.heap.size → F b) (i : Nat) (u : Value) : Turn F w (w'.setCell ⟨b, i, none⟩ u) :=
  ⟨h.os, h.tape, h.output, by simpa [World.setCell] using h.size, fun k hk hne => (Below.heap_setCell w' ⟨b, i, none⟩ u k (by
    rintro rfl
    exact hne (hb hk))).trans (h.block k hk hne)⟩
theorem Turn.grown (h : Turn F w w') {r : Option Nat} (k : w'.grownBy w1 r) (hr : ∀ j, r = some j → j < w.heap.size → F j) : Turn F w w1 :=
  ⟨k.os.trans h.os, k.tape.trans h.tape, k.output.trans h.output, Nat.le_trans h.size k.size, fun i hi hne =>
    (k.block i (Nat.lt_of_lt_of_le hi h.size) (fun e => hne (hr i e.symm hi))).trans (h.block i hi hne)⟩
/-- What turns behind may be new, or be of F. -/
theorem Turn.trans (h : Turn F w w1) (k : Turn G w1 w') (hG : ∀ j, j < w.heap.size → G j → F j) : Turn F w w' :=
  ⟨k.os.trans h.os, k.tape.trans h.tape, k.output.trans h.output, Nat.le_trans h.size k.size,
    fun i hi hne => (k.block i (Nat.lt_of_lt_of_le hi h.size) (fun g => hne (hG i hi g))).trans (h.block i hi hne)⟩
theorem Turn.more (h : Turn G w w') (hG : ∀ j, j < w.heap.size → G j → F j) : Turn F w w' :=
  ⟨h.os, h.tape, h.output, h.size, fun i hi hne => h.block i hi (fun g => hne (hG i hi g))⟩
theorem Turn.of_below {B : Nat} (h : Below B w w') (hB : ∀ j, j < w.heap.size → B ≤ j → F j) : Turn F w w' :=
  ⟨h.os, h.tape, h.output, h.size, fun i hi hne => h.block i (by
    rcases Nat.lt_or_ge i B with k | k
    · exact k
    · exact absurd (hB i hi k) hne)⟩
theorem Turn.of_grown {b : Nat} (h : w.grownBy w' (some b)) (hb : F b) : Turn F w w' :=
  ⟨h.os, h.tape, h.output, h.size, fun i hi hne => h.block i hi (by intro e; injection e with e; subst e; exact hne hb)⟩
theorem Turn.below {B : Nat} (h : Turn F w w') (hB : B ≤ w.heap.size) (hF : ∀ j, j < B → ¬ F j) : Below B w w' :=
  ⟨h.os, h.tape, h.output, h.size, fun i hi => h.block i (by omega) (hF i hi)⟩
theorem Has.turn {g : Nat} {t : TypeId} {cs : Array Value} (h : Has w g t cs) (k : Turn F w w') (hg : ¬ F g) : Has w' g t cs := h.keep (k.block g h.lt hg)
end

end Go.Proofs.YtcdedkgkingbdaaGreatDoor
end

section
/- Arrays of bytes in memory: a block that is known whole, what copies and stores of a whole array make of it. -/
namespace Go.Proofs.YtcdedkgkingbdaaGreatDoor
open Go.RowKit

def byteV (c : UInt8) : Value := .int .u8 (c.toNat : Nat)

/-- The cells of bytes. -/
def cellsOf (xs : List UInt8) : Array Value := (xs.map byteV).toArray

theorem cellsOf_size (xs : List UInt8) : (cellsOf xs).size = xs.length := by simp [cellsOf]
theorem cellsOf_one (xs : List UInt8) : (cellsOf xs).all (·.oneCell') = true := by
  rw [Array.all_eq_true_iff_forall_mem]
  intro v hv
  simp [cellsOf] at hv
  obtain ⟨c, _, rfl⟩ := hv
  rfl

/-- Bytes laid over others from the first on: what copy makes of an array. -/
def over (old s : List UInt8) : List UInt8 := s.take old.length ++ old.drop s.length

section
variable {P : Program}

theorem take_min (l : List UInt8) (k : Nat) : l.take (min l.length k) = l.take k := by
  rcases Nat.le_total l.length k with h | h
  · rw [Nat.min_eq_left h, List.take_of_length_le (Nat.le_refl _), List.take_of_length_le h]
  · rw [Nat.min_eq_right h]

theorem byteV_one (l : List UInt8) : ∀ v ∈ l.map byteV, v.oneCell' = true := by
  intro v hv
  obtain ⟨c, _, rfl⟩ := List.mem_map.1 hv
  rfl

theorem Has.row {w : World} {g : Nat} {t : TypeId} {old : Array Value} (h : Has w g t old) (cs : Array Value) : Has (w.setRow g cs) g t cs := setRow_heap w g old cs t (0, 0) h
theorem Turn.row {F : Nat → Prop} {w w' : World} (h : Turn F w w') {g : Nat} (hg : g < w.heap.size → F g) (cs : Array Value) : Turn F w (w'.setRow g cs) :=
  ⟨h.os, h.tape, h.output, by simpa using h.size, fun k hk hne => (setRow_other w' g k cs (by rintro rfl; exact hne (hg hk))).trans (h.block k hk hne)⟩

theorem turn_row (w : World) (g : Nat) (cs : Array Value) : Turn (fun k => k = g) w (w.setRow g cs) := Turn.row (F := fun k => k = g) (Turn.refl _ _) (fun _ => rfl) _

/-- A whole array is stored: its block behind it, in a world that is a letter. -/
theorem wpList_store_arr {w : World} {ops : Array Oper} {rest : List Oper} {o : Oper} {a : Act} {Q : Exit → Act → World → Prop} (hgd : o.guard = none) (ty : TypeId) (x y : Operand) (ho : o.op = .store ty x y)
    (g : Nat) (xs old : List UInt8) (hx : a.eval x = .pointer (some ⟨g, 0, none⟩)) (hy : a.eval y = .agg (cellsOf xs))
    (t : TypeId) (hg : Has w g t (cellsOf old)) (n : Nat) (hi : (P.info? ty).map (·.size) = some n) (hn : old.length = n) (hl : xs.length = n)
    (h : ∀ w', Has w' g t (cellsOf xs) → Turn (fun k => k = g) w w' → wpList P ops Q rest (a.put o.dst undef) w') : wpList P ops Q (o :: rest) a w :=
  wpList_store_row hgd ty x y ho g (cellsOf xs) hx hy t (cellsOf old) hg (by rw [hi, cellsOf_size, hl]) (by rw [cellsOf_size, cellsOf_size, hl, hn]) (cellsOf_one xs)
    (h _ (hg.row _) (turn_row _ _ _))

/-- A whole array is loaded. -/
theorem wpList_load_arr {w : World} {ops : Array Oper} {rest : List Oper} {o : Oper} {a : Act} {Q : Exit → Act → World → Prop} (hgd : o.guard = none) (ty : TypeId) (x : Operand) (ho : o.op = .load ty x)
    (g : Nat) (hx : a.eval x = .pointer (some ⟨g, 0, none⟩)) (t : TypeId) (xs : List UInt8) (e : TypeId) (n : Nat) (hg : Has w g t (cellsOf xs))
    (hu : P.underlying ty = some (.array n e)) (hi : (P.info? ty).map (·.size) = some n) (hl : xs.length = n)
    (h : wpList P ops Q rest (a.put o.dst (.agg (cellsOf xs))) w) : wpList P ops Q (o :: rest) a w :=
  wpList_load_row hgd ty x ho g hx t (cellsOf xs) (0, 0) _ hg hu rfl (by rw [hi, cellsOf_size, hl]) h

theorem Has.range {w : World} {g : Nat} {t : TypeId} {cs : List Value} (h : Has w g t cs.toArray) : w.rangeAt g 0 cs := fun j v hj => by
  rw [Nat.zero_add, h.cell j]
  simpa using hj

theorem cells_at (xs : List UInt8) (i : Nat) (c : UInt8) (h : xs[i]? = some c) : (cellsOf xs)[i]? = some (byteV c) := by
  simp [cellsOf, h]

theorem run_eqItems_bytes (d : Nat) {e : TypeId} (hu : P.underlying e = some (.int .u8)) (xs ys : List UInt8) (w : World) : ∀ is : List Nat, (∀ i ∈ is, i < xs.length ∧ i < ys.length) →
    (Op.eqItems (d + 1) e 1 (cellsOf xs) (cellsOf ys) is).run P w = .ok (is.all fun i => xs[i]? == ys[i]?) w
  | [], _ => by simp [Op.eqItems]
  | i :: is, h => by
    obtain ⟨hx, hy⟩ := h i (by simp)
    have ih := run_eqItems_bytes d hu xs ys w is (fun j hj => h j (by simp [hj]))
    have hk : P.plainKey e = true := by unfold Program.plainKey; simp [hu]
    have p1 := run_part_plain (P := P) w hk (cells_at xs i _ (List.getElem?_eq_getElem hx))
    have p2 := run_part_plain (P := P) w hk (cells_at ys i _ (List.getElem?_eq_getElem hy))
    have p3 : (Op.equalIn (d + 1) e (byteV xs[i]) (byteV ys[i])).run P w = .ok (xs[i] == ys[i]) w := by
      have e1 : ((xs[i].toNat : Int) == (ys[i].toNat : Int)) = (xs[i] == ys[i]) := by
        rw [Bool.eq_iff_iff, beq_iff_eq, beq_iff_eq]
        constructor
        · intro h
          exact UInt8.toNat_inj.1 (by omega)
        · intro h
          rw [h]
      rw [← e1]
      exact run_equalIn_int w d e .u8 .u8 _ _ hu
    simp only [Op.eqItems, Nat.mul_one, Sem.run_bind, p1, p2, p3, Result.andThen_ok]
    rw [List.all_cons, List.getElem?_eq_getElem hx, List.getElem?_eq_getElem hy]
    cases hc : (xs[i] == ys[i])
    · have : (some xs[i] == some ys[i]) = false := by simpa using hc
      rw [this]
      simp
    · have : (some xs[i] == some ys[i]) = true := by simpa using hc
      rw [this]
      simpa using ih

/-- Two arrays of bytes are the same just if their bytes are. -/
theorem run_equalIn_bytes (d : Nat) {t e : TypeId} (n : Nat) (hu : P.underlying t = some (.array n e)) (he : P.underlying e = some (.int .u8)) (hs : (P.info? e).map (·.size) = some 1) (xs ys : List UInt8) (hx : xs.length = n) (hy : ys.length = n) (w : World) :
    (Op.equalIn (d + 2) t (.agg (cellsOf xs)) (.agg (cellsOf ys))).run P w = .ok (xs == ys) w := by
  cases hi : P.info? e with
  | none => simp [hi] at hs
  | some i =>
    have hc : P.cellsOf e = 1 := by simp [hi] at hs; simp [Program.cellsOf, hi, hs]
    rw [run_equalIn_array w (d + 1) (cellsOf xs) (cellsOf ys) hu hi, hc, run_eqItems_bytes d he xs ys w _ (fun i hi => by have := List.mem_range.1 hi; omega)]
    congr 1
    rw [Bool.eq_iff_iff, List.all_eq_true, beq_iff_eq]
    constructor
    · intro h
      apply List.ext_getElem?
      intro j
      by_cases hj : j < n
      · exact beq_iff_eq.1 (h j (List.mem_range.2 hj))
      · rw [List.getElem?_eq_none (by omega), List.getElem?_eq_none (by omega)]
    · intro h j _
      rw [h]
      simp

end
end Go.Proofs.YtcdedkgkingbdaaGreatDoor
end

section
/- Steps of a region that draws its order: a call by its contract. -/
namespace Go.Proofs.YtcdedkgkingbdaaGreatDoor
open Go.RowKit
theorem Has.one {w : World} {g : Nat} {t : TypeId} {a : Value} (h : Has w g t #[a]) : w.cell? ⟨g, 0, none⟩ = some a ∧ w.frozen? ⟨g, 0, none⟩ = false := ⟨h.cell 0, h.free 0⟩
theorem Has.two {w : World} {g : Nat} {t : TypeId} {a b : Value} (h : Has w g t #[a, b]) : w.cell? ⟨g, 0, none⟩ = some a ∧ w.cell? ⟨g, 1, none⟩ = some b ∧ w.frozen? ⟨g, 0, none⟩ = false ∧ w.frozen? ⟨g, 1, none⟩ = false := ⟨h.cell 0, h.cell 1, h.free 0, h.free 1⟩
theorem Turn.grownBy {w w' : World} {b : Nat} (h : Turn (fun k => k = b ∨ w.heap.size ≤ k) w w') : w.grownBy w' (some b) :=
  ⟨h.os, h.tape, h.output, h.size, fun k hk hne => h.block k hk (fun h => by
    rcases h with h | h
    · exact hne (by rw [h])
    · omega)⟩
theorem Turn.cell {F : Nat → Prop} {w w' : World} (h : Turn F w w') {p : Addr} (hp : p.block < w.heap.size) (hF : ¬ F p.block) : w'.cell? p = w.cell? p := by
  have := h.block p.block hp hF
  unfold World.cell?
  rw [this]
theorem made_at {w : World} {g : Nat} (t : TypeId) (cs : Array Value) (h : g = w.heap.size) : Has (w.alloc (.cells cs t)) g t cs := h ▸ Has.made w t cs

section
variable {P : Program}

/-- Guards: they hold at once where the next operation is that load, that store; they do nothing. -/
theorem at_op (d : Tmp) {op : Op} {t : TypeId} {p : String} {af : Array _} {ops : Array Oper} {rest : List Oper} {a : Act} {w : World} {Q : Exit → Act → World → Prop}
    (h : wpList P ops Q (⟨some d, op, t, p, af, none⟩ :: rest) a w) : wpList P ops Q (⟨some d, op, t, p, af, none⟩ :: rest) a w := h
theorem at_store (x : Operand) {ty : TypeId} {y : Operand} {t : TypeId} {p : String} {af : Array _} {ops : Array Oper} {rest : List Oper} {a : Act} {w : World} {Q : Exit → Act → World → Prop}
    (h : wpList P ops Q (⟨none, .store ty x y, t, p, af, none⟩ :: rest) a w) : wpList P ops Q (⟨none, .store ty x y, t, p, af, none⟩ :: rest) a w := h

/-- A call of a Go function as one step of a region that draws its order: by its contract. -/
theorem step_call {w : World} {ops : Array Oper} {o : Oper} {a : Act} {K : Act → World → Prop} {Q : Exit → Act → World → Prop} {E : Prop} (hgd : o.guard = none) (f : FuncId) (fn : Func) (hfn : P.funcs[f]? = some fn) (hname : (fn.name == "runtime.NumGoroutine") = false) (hb : fn.body.isNone = false) (xs : Array Operand) (ts : Array TypeId)
    (ho : o.op = .call { callee := .value (.func f), args := xs, argTypes := ts }) (vs : Array Value) (hv : xs.map a.eval = vs) {R : Ending → World → Prop} (hc : Calls P f vs w R)
    (h : ∀ en w', R en w' → ∃ v, en = .returned v ∧ K (a.put o.dst v) w') :
    if Region.wanted o (yielded ops a.tmps) = true then Oper.wp P o a w K Q else E := by
  have hw : Region.wanted o (yielded ops a.tmps) = true := by simp [Region.wanted, hgd]
  rw [if_pos hw]
  have hf : a.eval (.func f) = .func (.func f) #[] #[] := rfl
  have he : (execOp a.eval o).run P w = .ok (.enter f vs) w := by
    simp only [execOp, ho]
    have h1 : fn.name ≠ "runtime.NumGoroutine" := by simpa using hname
    simp [resolve, hv, hf, Deferred.ofValue, invoke, callFunc, hfn, h1]
    intro hn
    simp [hn] at hb
  unfold Oper.wp
  rw [he, Oper.upon_enter]
  refine hc.mono ?_
  intro en w' hR
  obtain ⟨v, rfl, hK⟩ := h en w' hR
  exact hK

end
end Go.Proofs.YtcdedkgkingbdaaGreatDoor
end

section
/- Rows that are owned (slices that grew by append, or were laid as literals): what keeps them, what stands in them. Of no program. -/
namespace Go.Proofs.YtcdedkgkingbdaaGreatDoor
open Go.RowKit

section
variable {w w' : World} {e : TypeId} {size n : Nat} {v : Value} {xs : List Value}

theorem own_lt {b : Nat} (h : w.ownsRow 0 e size v n xs) (hb : v.ownBlock = some b) : b < w.heap.size := by
  rcases h.2 with ⟨rfl, _⟩ | ⟨g, cap, cur, rfl, _, hg, _⟩
  · cases hb
  · injection hb with hb
    subst hb
    rcases Nat.lt_or_ge g w.heap.size with k | k
    · exact k
    · rw [Array.getElem?_eq_none k] at hg; cases hg

theorem own_turn {F : Nat → Prop} (h : w.ownsRow 0 e size v n xs) (t : Turn F w w') (hr : ∀ b, v.ownBlock = some b → ¬ F b) : w'.ownsRow 0 e size v n xs := by
  refine ⟨h.1, ?_⟩
  rcases h.2 with k | ⟨g, cap, cur, e1, e2, e3, e4⟩
  · exact .inl k
  · have hg : g < w.heap.size := own_lt h (by rw [e1]; rfl)
    exact .inr ⟨g, cap, cur, e1, e2, (t.block g hg (hr g (by rw [e1]; rfl))).trans e3, e4⟩

theorem own_ne {b : Nat} {t : TypeId} {cs : Array Value} (h : w.ownsRow 0 e size v n xs) (hb : Has w b t cs) (hne : e ≠ t) : v.ownBlock ≠ some b := by
  rcases h.2 with ⟨rfl, _⟩ | ⟨g, cap, cur, rfl, _, hg, _⟩
  · intro k; cases k
  · intro k
    injection k with k
    obtain rfl : g = b := k
    have hg' : Has w g e cur := hg
    exact hne (hg'.uniq hb).2

theorem own_own {e' : TypeId} {size' n' : Nat} {v' : Value} {xs' : List Value} (h : w.ownsRow 0 e size v n xs) (h' : w.ownsRow 0 e' size' v' n' xs') (hne : e ≠ e') : ∀ b, v.ownBlock = some b → v'.ownBlock ≠ some b := by
  intro b hb
  rcases h.2 with ⟨rfl, _⟩ | ⟨g, cap, cur, rfl, _, hg, _⟩
  · cases hb
  · injection hb with hb
    obtain rfl : g = b := hb
    have hg' : Has w g e cur := hg
    exact own_ne h' hg' (fun k => hne k.symm)

/-- What stands in the row. -/
theorem own_cell (h : w.ownsRow 0 e size v n xs) (hn : 0 < n) : ∃ g c, v = .slice (some ⟨g, 0, none⟩) n c ∧ n ≤ c ∧ c ≤ maxLen ∧ ∀ j u, xs[j]? = some u → w.cell? ⟨g, j, none⟩ = some u := by
  rcases h.2 with ⟨_, h0⟩ | ⟨g, cap, cur, rfl, _, hg, hc1, hc2, _, hx⟩
  · omega
  · refine ⟨g, cap, rfl, hc1, hc2, fun j u hj => ?_⟩
    have hg' : Has w g e cur := hg
    rw [hg'.cell, ← Array.getElem?_toList]
    have hjl : j < xs.length := by
      rcases Nat.lt_or_ge j xs.length with k | k
      · exact k
      · rw [List.getElem?_eq_none k] at hj; cases hj
    have hl : xs.length ≤ n * size := by rw [h.1]; exact Nat.le_refl _
    have h1 : (cur.toList.take (n * size))[j]? = cur.toList[j]? := List.getElem?_take_of_lt (by omega)
    rw [← h1, hx, hj]

theorem own_slice (h : w.ownsRow 0 e size v n xs) : ∃ a c, v = .slice a n c := by
  rcases h.2 with ⟨h1, h2⟩ | ⟨g, cap, cur, h1, _⟩
  · exact ⟨none, 0, by rw [h1, h2]⟩
  · exact ⟨_, _, h1⟩
end

end Go.Proofs.YtcdedkgkingbdaaGreatDoor
end

section
/- SHA-256, over the numbers as the walk writes them: words, rounds, blocks, sums. Of no program. -/
namespace Go.Proofs.YtcdedkgkingbdaaGreatDoor.dig
open Go Go.RowKit

def W (x : Int) : Prop := 0 ≤ x ∧ x < 4294967296

theorem u32_wrap (x : Int) : IntKind.u32.wrap x = x % 4294967296 := by
  unfold IntKind.wrap
  simp [IntKind.bits, IntKind.signed]

/-- To the right, round and round. -/
def rot (n : Nat) (x : Int) : Int := x / 2 ^ n + x % 2 ^ n * 2 ^ (32 - n)

theorem toNat_ofInt (x : Int) (h : W x) : (BitVec.ofInt 32 x).toNat = x.toNat := by
  unfold W at h
  rw [BitVec.toNat_ofInt]
  rw [Int.emod_eq_of_lt h.1 (by simpa using h.2)]

theorem or_nat (a b : Nat) (ha : a < 4294967296) (hb : b < 4294967296) : bits .or .u32 (a : Int) (b : Int) = ((a ||| b : Nat) : Int) := by
  unfold bits
  rw [u32_wrap]
  show ((BitVec.ofInt 32 (a : Int) ||| BitVec.ofInt 32 (b : Int)).toNat : Int) % 4294967296 = _
  rw [BitVec.toNat_or, toNat_ofInt _ ⟨by omega, by omega⟩, toNat_ofInt _ ⟨by omega, by omega⟩, Int.toNat_natCast, Int.toNat_natCast]
  have := Nat.or_lt_two_pow (n := 32) (x := a) (y := b) (by simpa using ha) (by simpa using hb)
  omega

theorem or_low (a b i : Nat) (hb : b < 2 ^ i) (h : 2 ^ i * a + b < 4294967296) : bits .or .u32 (((2 ^ i * a : Nat)) : Int) (b : Int) = ((2 ^ i * a + b : Nat) : Int) := by
  rw [or_nat _ _ (by omega) (by omega), Nat.two_pow_add_eq_or_of_lt hb]

theorem rot_code (n : Nat) (x : Int) (hx : W x) (h1 : 1 ≤ n) (h2 : n ≤ 31) : bits .or .u32 (IntKind.u32.wrap (x * 2 ^ (32 - n))) (x / 2 ^ n) = rot n x := by
  obtain ⟨a, rfl⟩ := Int.eq_ofNat_of_zero_le hx.1
  have hx2 : a < 4294967296 := by have := hx.2; omega
  have e1 : (4294967296 : Nat) = 2 ^ n * 2 ^ (32 - n) := by rw [← Nat.pow_add, show n + (32 - n) = 32 by omega]
  have e2 : IntKind.u32.wrap ((a : Int) * 2 ^ (32 - n)) = ((2 ^ (32 - n) * (a % 2 ^ n) : Nat) : Int) := by
    rw [u32_wrap]
    have : ((a : Int) * 2 ^ (32 - n)) = ((a * 2 ^ (32 - n) : Nat) : Int) := by simp
    rw [this, show (4294967296 : Int) = ((4294967296 : Nat) : Int) from rfl, ← Int.natCast_emod, e1, Nat.mul_mod_mul_right, Nat.mul_comm]
  have e3 : (a : Int) / 2 ^ n = ((a / 2 ^ n : Nat) : Int) := by simp
  have hlt : a / 2 ^ n < 2 ^ (32 - n) := by
    rw [Nat.div_lt_iff_lt_mul (Nat.two_pow_pos n), Nat.mul_comm, ← e1]
    exact hx2
  have hm : a % 2 ^ n < 2 ^ n := Nat.mod_lt _ (Nat.two_pow_pos n)
  have hs : 2 ^ (32 - n) * (a % 2 ^ n) + a / 2 ^ n < 4294967296 := by
    rw [e1]
    calc 2 ^ (32 - n) * (a % 2 ^ n) + a / 2 ^ n < 2 ^ (32 - n) * (a % 2 ^ n) + 2 ^ (32 - n) := by omega
      _ = 2 ^ (32 - n) * (a % 2 ^ n + 1) := by rw [Nat.mul_add, Nat.mul_one]
      _ ≤ 2 ^ (32 - n) * 2 ^ n := Nat.mul_le_mul_left _ (by omega)
      _ = 2 ^ n * 2 ^ (32 - n) := Nat.mul_comm _ _
  rw [e2, e3, or_low _ _ _ hlt hs]
  unfold rot
  rw [Int.natCast_add, Int.natCast_mul]
  simp [Int.mul_comm]
  omega

theorem and31 (n : Int) : bits .and .u64 n 31 = n % 32 := by
  unfold bits
  have h1 : IntKind.u64.wrap = fun n : Int => n % 18446744073709551616 := by
    funext n; unfold IntKind.wrap; simp [IntKind.bits, IntKind.signed]
  rw [h1]
  show (((BitVec.ofInt 64 n &&& BitVec.ofInt 64 31).toNat : Nat) : Int) % 18446744073709551616 = n % 32
  rw [BitVec.toNat_and, BitVec.toNat_ofInt, BitVec.toNat_ofInt]
  have e : ((31 : Int) % ((2 ^ 64 : Nat) : Int)).toNat = 2 ^ 5 - 1 := by decide
  rw [e, Nat.and_two_pow_sub_one_eq_mod]
  omega

/-- Eight bits further left, and a byte. -/
theorem push_code (x : Int) (b : UInt8) (hx : 0 ≤ x) (h2 : x < 16777216) : bits .or .u32 (IntKind.u32.wrap (x * 256)) (b.toNat : Int) = x * 256 + (b.toNat : Int) := by
  obtain ⟨a, rfl⟩ := Int.eq_ofNat_of_zero_le hx
  have hb := b.toNat_lt
  have e : IntKind.u32.wrap ((a : Int) * 256) = ((2 ^ 8 * a : Nat) : Int) := by rw [u32_wrap]; omega
  rw [e, or_low a b.toNat 8 (by omega) (by omega)]
  omega

def xo (a b : Int) : Int := bits .xor .u32 a b
def an (a b : Int) : Int := bits .and .u32 a b
def ad (a b : Int) : Int := (a + b) % 4294967296
theorem W_ad (a b : Int) : W (ad a b) := by
  unfold ad W
  omega

/-- The words behind the first sixteen. -/
def next (x16 x7 p q : Int) : Int := ad (ad (ad x16 x7) (xo (xo (rot 7 p) (rot 18 p)) (p / 8))) (xo (xo (rot 17 q) (rot 19 q)) (q / 1024))
def ext (l : List Int) : List Int := l ++ [next (l.getD (l.length - 16) 0) (l.getD (l.length - 7) 0) (l.getD (l.length - 15) 0) (l.getD (l.length - 2) 0)]
def exts : Nat → List Int → List Int
  | 0, l => l
  | n + 1, l => ext (exts n l)

def pk (xs : List UInt8) : Int := xs.foldl (fun a b => a * 256 + (b.toNat : Int)) 0
/-- The first sixteen. -/
def firsts (xs : List UInt8) : List Int := (List.range 16).map fun i => pk ((xs.drop (4 * i)).take 4)
def spreadL (xs : List UInt8) : List Int := exts 48 (firsts xs)

def keys : List Int := [
  0x428a2f98, 0x71374491, 0xb5c0fbcf, 0xe9b5dba5, 0x3956c25b, 0x59f111f1, 0x923f82a4, 0xab1c5ed5,
  0xd807aa98, 0x12835b01, 0x243185be, 0x550c7dc3, 0x72be5d74, 0x80deb1fe, 0x9bdc06a7, 0xc19bf174,
  0xe49b69c1, 0xefbe4786, 0x0fc19dc6, 0x240ca1cc, 0x2de92c6f, 0x4a7484aa, 0x5cb0a9dc, 0x76f988da,
  0x983e5152, 0xa831c66d, 0xb00327c8, 0xbf597fc7, 0xc6e00bf3, 0xd5a79147, 0x06ca6351, 0x14292967,
  0x27b70a85, 0x2e1b2138, 0x4d2c6dfc, 0x53380d13, 0x650a7354, 0x766a0abb, 0x81c2c92e, 0x92722c85,
  0xa2bfe8a1, 0xa81a664b, 0xc24b8b70, 0xc76c51a3, 0xd192e819, 0xd6990624, 0xf40e3585, 0x106aa070,
  0x19a4c116, 0x1e376c08, 0x2748774c, 0x34b0bcb5, 0x391c0cb3, 0x4ed8aa4a, 0x5b9cca4f, 0x682e6ff3,
  0x748f82ee, 0x78a5636f, 0x84c87814, 0x8cc70208, 0x90befffa, 0xa4506ceb, 0xbef9a3f7, 0xc67178f2]
def start : List Int := [0x6a09e667, 0xbb67ae85, 0x3c6ef372, 0xa54ff53a, 0x510e527f, 0x9b05688c, 0x1f83d9ab, 0x5be0cd19]

structure Oct where
  a : Int
  b : Int
  c : Int
  d : Int
  e : Int
  f : Int
  g : Int
  h : Int

def xOf (o : Oct) (k w : Int) : Int :=
  ad (ad (ad (ad o.h (xo (an o.e o.f) (an (xo 4294967295 o.e) o.g))) k) w) (xo (xo (rot 6 o.e) (rot 11 o.e)) (rot 25 o.e))
def yOf (o : Oct) : Int :=
  ad (xo (xo (an o.a o.b) (an o.a o.c)) (an o.b o.c)) (xo (xo (rot 2 o.a) (rot 13 o.a)) (rot 22 o.a))
def round (o : Oct) (k w : Int) : Oct := ⟨ad (xOf o k w) (yOf o), o.a, o.b, o.c, ad o.d (xOf o k w), o.e, o.f, o.g⟩
def rounds (o : Oct) (ws : List Int) : Nat → Oct
  | 0 => o
  | n + 1 => round (rounds o ws n) (keys.getD n 0) (ws.getD n 0)
def Oct.list (o : Oct) : List Int := [o.a, o.b, o.c, o.d, o.e, o.f, o.g, o.h]
def Oct.plus (o p : Oct) : Oct := ⟨ad o.a p.a, ad o.b p.b, ad o.c p.c, ad o.d p.d, ad o.e p.e, ad o.f p.f, ad o.g p.g, ad o.h p.h⟩
/-- Eight words behind 64 bytes. -/
def comp (o : Oct) (xs : List UInt8) : Oct := o.plus (rounds o (spreadL xs) 64)
def start8 : Oct := ⟨0x6a09e667, 0xbb67ae85, 0x3c6ef372, 0xa54ff53a, 0x510e527f, 0x9b05688c, 0x1f83d9ab, 0x5be0cd19⟩
/-- Behind k blocks. -/
def wd (xs : List UInt8) : Nat → Oct
  | 0 => start8
  | k + 1 => comp (wd xs k) ((xs.drop (64 * k)).take 64)
def by4 (x : Int) : List UInt8 := [UInt8.ofNat (x / 16777216).toNat, UInt8.ofNat (x / 65536 % 256).toNat, UInt8.ofNat (x / 256 % 256).toNat, UInt8.ofNat (x % 256).toNat]
def be8 (n : Nat) : List UInt8 := [UInt8.ofNat (n / 72057594037927936), UInt8.ofNat (n / 281474976710656), UInt8.ofNat (n / 1099511627776), UInt8.ofNat (n / 4294967296), UInt8.ofNat (n / 16777216), UInt8.ofNat (n / 65536), UInt8.ofNat (n / 256), UInt8.ofNat n]
/-- What follows n bytes. -/
def ending (n : Nat) : List UInt8 := 128 :: List.replicate ((119 - n % 64) % 64) 0 ++ be8 (8 * n)
def full (xs : List UInt8) : List UInt8 := xs ++ ending xs.length
def sum (xs : List UInt8) : List UInt8 := (wd (full xs) ((full xs).length / 64)).list.flatMap by4
def dig1 (n : UInt8) : UInt8 := if n < 10 then 48 + n else 87 + n
def hex (xs : List UInt8) : List UInt8 := xs.flatMap fun c => [dig1 (c / 16), dig1 (c % 16)]

theorem ext_length (l : List Int) : (ext l).length = l.length + 1 := by simp [ext]
theorem exts_length : ∀ (n : Nat) (l : List Int), (exts n l).length = l.length + n
  | 0, l => rfl
  | n + 1, l => by rw [exts, ext_length, exts_length n l]; omega
theorem firsts_length (xs : List UInt8) : (firsts xs).length = 16 := by simp [firsts]
theorem spreadL_length (xs : List UInt8) : (spreadL xs).length = 64 := by rw [spreadL, exts_length, firsts_length]
theorem wd_congr (xs ys : List UInt8) : ∀ k, xs.take (64 * k) = ys.take (64 * k) → wd xs k = wd ys k
  | 0, _ => rfl
  | k + 1, h => by
    have h1 : xs.take (64 * k) = ys.take (64 * k) := by
      have := congrArg (List.take (64 * k)) h
      rwa [List.take_take, List.take_take, Nat.min_eq_left (by omega)] at this
    have h2 : (xs.drop (64 * k)).take 64 = (ys.drop (64 * k)).take 64 := by
      have := congrArg (List.drop (64 * k)) h
      rwa [List.drop_take, List.drop_take, show 64 * (k + 1) - 64 * k = 64 by omega] at this
    rw [wd, wd, wd_congr xs ys k h1, h2]
theorem be8_length (n : Nat) : (be8 n).length = 8 := rfl
theorem ending_length (n : Nat) : (ending n).length = (119 - n % 64) % 64 + 9 := by simp [ending, be8]
theorem by4_length (x : Int) : (by4 x).length = 4 := rfl
theorem flat4 : ∀ l : List Int, (l.flatMap by4).length = 4 * l.length
  | [] => rfl
  | x :: t => by rw [List.flatMap_cons, List.length_append, flat4 t, by4_length, List.length_cons]; omega
theorem Oct.list_length (o : Oct) : o.list.length = 8 := rfl
theorem sum_length (xs : List UInt8) : (sum xs).length = 32 := by
  unfold sum
  rw [flat4, Oct.list_length]
def Oct.W (o : Oct) : Prop := ∀ x ∈ o.list, dig.W x
theorem W_round (o : Oct) (k w : Int) (h : o.W) : (round o k w).W := by
  unfold Oct.W Oct.list round at *
  simp at *
  exact ⟨W_ad _ _, h.1, h.2.1, h.2.2.1, W_ad _ _, h.2.2.2.2.1, h.2.2.2.2.2.1, h.2.2.2.2.2.2.1⟩
theorem W_rounds (o : Oct) (ws : List Int) (h : o.W) : ∀ n, (rounds o ws n).W
  | 0 => h
  | n + 1 => W_round _ _ _ (W_rounds o ws h n)
theorem W_comp (o : Oct) (xs : List UInt8) : (comp o xs).W := by
  unfold Oct.W Oct.list comp Oct.plus
  simp
  exact ⟨W_ad _ _, W_ad _ _, W_ad _ _, W_ad _ _, W_ad _ _, W_ad _ _, W_ad _ _, W_ad _ _⟩
theorem W_start8 : start8.W := by
  unfold Oct.W Oct.list start8 dig.W
  decide
theorem W_wd (xs : List UInt8) : ∀ k, (wd xs k).W
  | 0 => W_start8
  | _ + 1 => W_comp _ _
theorem W_next (a b p q : Int) : W (next a b p q) := W_ad _ _
theorem pk_lt : ∀ (xs : List UInt8), 0 ≤ pk xs ∧ pk xs < 256 ^ xs.length := by
  intro xs
  unfold pk
  suffices h : ∀ (xs : List UInt8) (a : Int) (m : Nat), 0 ≤ a → a < (256 : Int) ^ m → 0 ≤ xs.foldl (fun a b => a * 256 + (b.toNat : Int)) a ∧ xs.foldl (fun a b => a * 256 + (b.toNat : Int)) a < 256 ^ (m + xs.length) by
    have := h xs 0 0 (by omega) (by decide)
    simpa using this
  intro xs
  induction xs with
  | nil => intro a m h1 h2; simpa using ⟨h1, h2⟩
  | cons b t ih =>
    intro a m h1 h2
    have hb := b.toNat_lt
    have := ih (a * 256 + (b.toNat : Int)) (m + 1) (by omega) (by rw [Int.pow_succ]; omega)
    rw [List.foldl_cons, List.length_cons, show m + (t.length + 1) = m + 1 + t.length by omega]
    exact this
theorem W_firsts (xs : List UInt8) : ∀ x ∈ firsts xs, W x := by
  intro x hx
  unfold firsts at hx
  rw [List.mem_map] at hx
  obtain ⟨i, _, rfl⟩ := hx
  obtain ⟨h1, h2⟩ := pk_lt (((xs.drop (4 * i)).take 4))
  have hl : (((xs.drop (4 * i)).take 4)).length ≤ 4 := by simp; omega
  refine ⟨h1, Int.lt_of_lt_of_le h2 ?_⟩
  generalize (((xs.drop (4 * i)).take 4)).length = m at hl
  have : m = 0 ∨ m = 1 ∨ m = 2 ∨ m = 3 ∨ m = 4 := by omega
  rcases this with rfl | rfl | rfl | rfl | rfl <;> decide
theorem W_exts (l : List Int) (h : ∀ x ∈ l, W x) : ∀ n, ∀ x ∈ exts n l, W x
  | 0 => h
  | n + 1 => by
    intro x hx
    rw [exts, ext, List.mem_append] at hx
    rcases hx with hx | hx
    · exact W_exts l h n x hx
    · rw [List.mem_singleton] at hx
      rw [hx]
      exact W_next _ _ _ _
theorem W_spreadL (xs : List UInt8) : ∀ x ∈ spreadL xs, W x := W_exts _ (W_firsts xs) 48
/-- The k-th of the words that are there stays. -/
theorem exts_get (l : List Int) : ∀ (n m i : Nat), m ≤ n → i < l.length + m → (exts n l)[i]? = (exts m l)[i]?
  | 0, m, i, h, _ => by obtain rfl : m = 0 := by omega
                        rfl
  | n + 1, m, i, h, hi => by
    by_cases e : m = n + 1
    · rw [e]
    · rw [exts, ext, List.getElem?_append_left (by rw [exts_length]; omega), exts_get l n m i (by omega) hi]
end Go.Proofs.YtcdedkgkingbdaaGreatDoor.dig
end

