/- Texts laid into one: Base, Arr, Reg, Own, PrcA, Row, Copy. -/
import Derived.Test.YtbpcfkniflgmfaaRows
import Derived.WalkKit
import Derived.WalkSpells
import Derived.WalkLawsBesides
import Derived.Deep.AppendLies
import Derived.Deep.RegionLaw
import Derived.Deep.Draws
import Derived.Deep.LoopGhost
import Derived.Lib.Hide
import Derived.Laws.CopyOwn
import Derived.ChangeKeysEq
import Derived.Deep.MidRow
import Derived.Laws.OwnMore
import Derived.BigQuiet
import Derived.Lib.ItoaWalk
section
/- Small words for memory, over every program: a block that is known whole, and what stays when one block turns. -/
namespace Go.Proofs.Ytbpcfkniflgmfaa
open Go.RowKit

/-- Block g of world w is just the cells cs, of element type t, and may be written. -/
def Has (w : World) (g : Nat) (t : TypeId) (cs : Array Value) : Prop := w.heap[g]? = some (.cells cs t (0, 0))

section
variable {w w' w1 : World} {g b : Nat} {t : TypeId} {cs : Array Value}

theorem Has.lt (h : Has w g t cs) : g < w.heap.size := by
  rcases Nat.lt_or_ge g w.heap.size with k | k
  · exact k
  · unfold Has at h; rw [Array.getElem?_eq_none k] at h; cases h

theorem Has.cell (h : Has w g t cs) (i : Nat) : w.cell? ⟨g, i, none⟩ = cs[i]? := by
  unfold Has at h
  simp [World.cell?, h]

theorem Has.free (h : Has w g t cs) (i : Nat) : w.frozen? ⟨g, i, none⟩ = false := by
  unfold Has at h
  simp [World.frozen?, h]

theorem Has.made (w : World) (t : TypeId) (cs : Array Value) : Has (w.alloc (.cells cs t)) w.heap.size t cs := heap_alloc_new w _

theorem Has.drew (h : Has w g t cs) : Has w.drew g t cs := h

theorem Has.keep (h : Has w g t cs) (e : w'.heap[g]? = w.heap[g]?) : Has w' g t cs := e.trans h

theorem Has.alloc (h : Has w g t cs) (o : Obj) : Has (w.alloc o) g t cs := h.keep (Below.heap_alloc w o g h.lt)

theorem Has.put (h : Has w g t cs) (i : Nat) (u : Value) : Has (w.setCell ⟨g, i, none⟩ u) g t (cs.setIfInBounds i u) := by
  unfold Has at h ⊢
  simp [World.setCell, Array.getElem?_modify, h]

theorem Has.far (h : Has w g t cs) {p : Addr} (hp : g ≠ p.block) (u : Value) : Has (w.setCell p u) g t cs := h.keep (Below.heap_setCell w p u g hp)

theorem Has.below {B : Nat} (h : Has w g t cs) (hb : Below B w w') (hg : g < B) : Has w' g t cs := h.keep (hb.block g hg)

theorem Has.grown {r : Option Nat} (h : Has w g t cs) (hb : w.grownBy w' r) (hg : some g ≠ r) : Has w' g t cs := h.keep (hb.block g h.lt hg)

theorem Has.uniq {t' : TypeId} {cs' : Array Value} (h : Has w g t cs) (h' : Has w g t' cs') : cs = cs' ∧ t = t' := by
  unfold Has at h h'
  rw [h] at h'
  injection h' with h'
  injection h' with h1 h2
  exact ⟨h1, h2⟩

/-- Only block b turns (and new blocks come). -/
theorem grown_refl (w : World) (r : Option Nat) : w.grownBy w r := World.grownBy.refl w r

theorem grown_drew {r : Option Nat} (h : w.grownBy w' r) : w.grownBy w'.drew r := ⟨h.os, h.tape, h.output, h.size, h.block⟩

theorem grown_drewN {r : Option Nat} (h : w.grownBy w' r) (n : Nat) : w.grownBy (w'.drewN n) r := ⟨h.os, h.tape, h.output, h.size, h.block⟩

theorem grown_alloc {r : Option Nat} (h : w.grownBy w' r) (o : Obj) : w.grownBy (w'.alloc o) r :=
  ⟨h.os, h.tape, h.output, Nat.le_trans h.size (by simp), fun i hi hne => (Below.heap_alloc w' o i (Nat.lt_of_lt_of_le hi h.size)).trans (h.block i hi hne)⟩

theorem grown_put (h : w.grownBy w' (some b)) {p : Addr} (hp : p.block = b ∨ w.heap.size ≤ p.block) (u : Value) : w.grownBy (w'.setCell p u) (some b) :=
  ⟨h.os, h.tape, h.output, by simpa [World.setCell] using h.size, fun i hi hne => (Below.heap_setCell w' p u i (by
    rintro rfl
    rcases hp with hp | hp
    · exact hne (by rw [hp])
    · omega)).trans (h.block i hi hne)⟩

theorem grown_own (h : w.grownBy w' (some b)) (i : Nat) (u : Value) : w.grownBy (w'.setCell ⟨b, i, none⟩ u) (some b) := grown_put h (.inl rfl) u

theorem grown_below {B : Nat} (h : Below B w w') (r : Option Nat) (hB : w.heap.size ≤ B) : w.grownBy w' r :=
  ⟨h.os, h.tape, h.output, h.size, fun i hi _ => h.block i (by omega)⟩

theorem grown_trans {r : Option Nat} (h : w.grownBy w1 r) (k : w1.grownBy w' r) : w.grownBy w' r :=
  ⟨k.os.trans h.os, k.tape.trans h.tape, k.output.trans h.output, Nat.le_trans h.size k.size,
    fun i hi hne => (k.block i (Nat.lt_of_lt_of_le hi h.size) hne).trans (h.block i hi hne)⟩

/-- What turns one block that is not below B leaves all below B. -/
theorem below_grown {B : Nat} (h : w.grownBy w' (some b)) (hb : B ≤ b) (hB : B ≤ w.heap.size) : Below B w w' :=
  ⟨h.os, h.tape, h.output, h.size, fun i hi => h.block i (by omega) (by intro e; injection e; omega)⟩

theorem below_none {B : Nat} (h : w.grownBy w' none) (hB : B ≤ w.heap.size) : Below B w w' :=
  ⟨h.os, h.tape, h.output, h.size, fun i hi => h.block i (by omega) (by simp)⟩
end

/-- From w to w' only blocks of F turn, and new ones come. -/
structure Turn (F : Nat → Prop) (w w' : World) : Prop where
  os : w'.os = w.os
  tape : w'.tape = w.tape
  output : w'.output = w.output
  size : w.heap.size ≤ w'.heap.size
  block : ∀ k, k < w.heap.size → ¬ F k → w'.heap[k]? = w.heap[k]?

section
variable {F G : Nat → Prop} {w w' w1 : World}

theorem Turn.refl (F : Nat → Prop) (w : World) : Turn F w w := ⟨rfl, rfl, rfl, Nat.le_refl _, fun _ _ _ => rfl⟩
theorem Turn.drew (h : Turn F w w') : Turn F w w'.drew := ⟨h.os, h.tape, h.output, h.size, h.block⟩
theorem Turn.drewN (h : Turn F w w') (n : Nat) : Turn F w (w'.drewN n) := ⟨h.os, h.tape, h.output, h.size, h.block⟩
theorem Turn.alloc (h : Turn F w w') (o : Obj) : Turn F w (w'.alloc o) :=
  ⟨h.os, h.tape, h.output, Nat.le_trans h.size (by simp), fun i hi hne => (Below.heap_alloc w' o i (Nat.lt_of_lt_of_le hi h.size)).trans (h.block i hi hne)⟩
theorem Turn.put (h : Turn F w w') {b : Nat} (hb : b < w.heap.size → F b) (i : Nat) (u : Value) : Turn F w (w'.setCell ⟨b, i, none⟩ u) :=
  ⟨h.os, h.tape, h.output, by simpa [World.setCell] using h.size, fun k hk hne => (Below.heap_setCell w' ⟨b, i, none⟩ u k (by
    rintro rfl
    exact hne (hb hk))).trans (h.block k hk hne)⟩
theorem Turn.grown (h : Turn F w w') {r : Option Nat} (k : w'.grownBy w1 r) (hr : ∀ j, r = some j → j < w.heap.size → F j) : Turn F w w1 :=
  ⟨k.os.trans h.os, k.tape.trans h.tape, k.output.trans h.output, Nat.le_trans h.size k.size, fun i hi hne =>
    (k.block i (Nat.lt_of_lt_of_le hi h.size) (fun e => hne (hr i e.symm hi))).trans (h.block i hi hne)⟩
/-- What turns behind may be new, or be of F. -/
theorem Turn.trans (h : Turn F w w1) (k : Turn G w1 w') (hG : ∀ j, j < w.heap.size → G j → F j) : Turn F w w' :=
  ⟨k.os.trans h.os, k.tape.trans h.tape, k.output.trans h.output, Nat.le_trans h.size k.size,
    fun i hi hne => (k.block i (Nat.lt_of_lt_of_le hi h.size) (fun g => hne (hG i hi g))).trans (h.block i hi hne)⟩
theorem Turn.more (h : Turn G w w') (hG : ∀ j, j < w.heap.size → G j → F j) : Turn F w w' :=
  ⟨h.os, h.tape, h.output, h.size, fun i hi hne => h.block i hi (fun g => hne (hG i hi g))⟩
theorem Turn.of_below {B : Nat} (h : Below B w w') (hB : ∀ j, j < w.heap.size → B ≤ j → F j) : Turn F w w' :=
  ⟨h.os, h.tape, h.output, h.size, fun i hi hne => h.block i (by
    rcases Nat.lt_or_ge i B with k | k
    · exact k
    · exact absurd (hB i hi k) hne)⟩
theorem Turn.of_grown {b : Nat} (h : w.grownBy w' (some b)) (hb : F b) : Turn F w w' :=
  ⟨h.os, h.tape, h.output, h.size, fun i hi hne => h.block i hi (by intro e; injection e with e; subst e; exact hne hb)⟩
theorem Turn.below {B : Nat} (h : Turn F w w') (hB : B ≤ w.heap.size) (hF : ∀ j, j < B → ¬ F j) : Below B w w' :=
  ⟨h.os, h.tape, h.output, h.size, fun i hi => h.block i (by omega) (hF i hi)⟩
theorem Has.turn {g : Nat} {t : TypeId} {cs : Array Value} (h : Has w g t cs) (k : Turn F w w') (hg : ¬ F g) : Has w' g t cs := h.keep (k.block g h.lt hg)
end

theorem ret_int {k : IntKind} {a b : Int} (h : a = b) : Ending.returned (.int k a) = .returned (.int k b) := by rw [h]
theorem ret_bool {a b : Bool} (h : a = b) : Ending.returned (.bool a) = .returned (.bool b) := by rw [h]
theorem ret_str {a b : ByteArray} (h : a = b) : Ending.returned (.string a) = .returned (.string b) := by rw [h]

end Go.Proofs.Ytbpcfkniflgmfaa
end

section
/- Arrays of bytes in memory: a block that is known whole, what copies and stores of a whole array make of it. -/
namespace Go.Proofs.Ytbpcfkniflgmfaa
open Go.RowKit

def byteV (c : UInt8) : Value := .int .u8 (c.toNat : Nat)

/-- The cells of bytes. -/
def cellsOf (xs : List UInt8) : Array Value := (xs.map byteV).toArray

theorem cellsOf_size (xs : List UInt8) : (cellsOf xs).size = xs.length := by simp [cellsOf]
theorem cellsOf_one (xs : List UInt8) : (cellsOf xs).all (·.oneCell') = true := by
  rw [Array.all_eq_true_iff_forall_mem]
  intro v hv
  simp [cellsOf] at hv
  obtain ⟨c, _, rfl⟩ := hv
  rfl

/-- Bytes laid over others from the first on: what copy makes of an array. -/
def over (old s : List UInt8) : List UInt8 := s.take old.length ++ old.drop s.length

theorem over_length (old s : List UInt8) : (over old s).length = old.length := by
  unfold over
  simp
  omega

section
variable {P : Program}

theorem take_min (l : List UInt8) (k : Nat) : l.take (min l.length k) = l.take k := by
  rcases Nat.le_total l.length k with h | h
  · rw [Nat.min_eq_left h, List.take_of_length_le (Nat.le_refl _), List.take_of_length_le h]
  · rw [Nat.min_eq_right h]

theorem byteV_one (l : List UInt8) : ∀ v ∈ l.map byteV, v.oneCell' = true := by
  intro v hv
  obtain ⟨c, _, rfl⟩ := List.mem_map.1 hv
  rfl

theorem run_copy_str (w : World) (dT sT ty elem : TypeId) (g dCap : Nat) (s : ByteArray) (old : List UInt8) (t : TypeId)
    (hu : P.underlying dT = some (.slice elem)) (hs : (P.info? elem).map (·.size) = some 1)
    (hg : Has w g t (cellsOf old)) :
    (Builtin.copy_ #[dT, sT] ty #[.slice (some ⟨g, 0, none⟩) old.length dCap, .string s]).run P w =
      .ok (goInt ((min s.size old.length : Nat) : Int)) (w.setRow g (cellsOf (over old s.data.toList))) := by
  have hz : s.size = s.data.toList.length := by simp
  have hst := run_storeCells_at P g 0 t ((s.data.toList.take old.length).map byteV) 0 (cellsOf old) w hg (by simp [cellsOf]; exact Nat.min_le_left _ _) (byteV_one _)
  have hcells : ((s.extract 0 (min s.size old.length)).data.map fun b => Value.int .u8 (b.toNat : Nat)).toList = (s.data.toList.take old.length).map byteV := by
    rw [← take_min, ← hz]
    simp only [ByteArray.data_extract, Array.toList_map, Array.toList_extract, List.extract_eq_take_drop, List.drop_zero, Nat.sub_zero]
    rfl
  have hrow : (List.take (0 + 0) (cellsOf old).toList ++ (s.data.toList.take old.length).map byteV ++ List.drop (0 + 0 + ((s.data.toList.take old.length).map byteV).length) (cellsOf old).toList).toArray = cellsOf (over old s.data.toList) := by
    unfold cellsOf over
    simp only [Nat.add_zero, Nat.zero_add, List.take_zero, List.nil_append, List.length_map, List.length_take, List.map_append, List.map_take, List.map_drop]
    congr 1
    congr 1
    rcases Nat.le_total s.data.toList.length old.length with h | h
    · rw [Nat.min_eq_right h]
    · rw [Nat.min_eq_left h, List.drop_of_length_le (by simp), List.drop_of_length_le (by simpa using h)]
  rw [hrow] at hst
  cases hq : P.info? elem with
  | none => simp [hq] at hs
  | some i =>
    have hi : i.size = 1 := by simpa [hq] using hs
    simp only [Builtin.copy_]
    simp [run_underlying hu, Builtin.lenOf, Builtin.firstCells, sizeOf, typeInfo, hq, -ByteArray.data_extract, -Array.toList_map, -Array.toList_extract, -Array.map_extract]
    have e : s.size.min old.length = min s.size old.length := rfl
    rw [e, hcells, hst]
    simp [Result.andThen]

theorem Has.row {w : World} {g : Nat} {t : TypeId} {old : Array Value} (h : Has w g t old) (cs : Array Value) : Has (w.setRow g cs) g t cs := setRow_heap w g old cs t (0, 0) h
theorem Turn.row {F : Nat → Prop} {w w' : World} (h : Turn F w w') {g : Nat} (hg : g < w.heap.size → F g) (cs : Array Value) : Turn F w (w'.setRow g cs) :=
  ⟨h.os, h.tape, h.output, by simpa using h.size, fun k hk hne => (setRow_other w' g k cs (by rintro rfl; exact hne (hg hk))).trans (h.block k hk hne)⟩

theorem turn_row (w : World) (g : Nat) (cs : Array Value) : Turn (fun k => k = g) w (w.setRow g cs) := Turn.row (F := fun k => k = g) (Turn.refl _ _) (fun _ => rfl) _

/-- copy of a string into an array's head: the array's cells behind it, in a world that is a letter. -/
theorem wpList_copy_str {w : World} {ops : Array Oper} {rest : List Oper} {o : Oper} {a : Act} {Q : Exit → Act → World → Prop} (hgd : o.guard = none) (d x : Operand) (dT sT : TypeId)
    (ho : o.op = .call { callee := .builtin .copy, args := #[d, x], argTypes := #[dT, sT] }) (elem : TypeId) (hu : P.underlying dT = some (.slice elem)) (hsz : (P.info? elem).map (·.size) = some 1)
    (g dCap : Nat) (s : ByteArray) (old : List UInt8) (hd : a.eval d = .slice (some ⟨g, 0, none⟩) old.length dCap) (hs : a.eval x = .string s)
    (t : TypeId) (hg : Has w g t (cellsOf old))
    (h : ∀ w', Has w' g t (cellsOf (over old s.data.toList)) → Turn (fun k => k = g) w w' → wpList P ops Q rest (a.put o.dst (goInt ((min s.size old.length : Nat) : Int))) w') : wpList P ops Q (o :: rest) a w := by
  refine wpList_plain hgd fun K hK => ?_
  have hrun := run_copy_str (P := P) w dT sT o.type elem g dCap s old t hu hsz hg
  unfold Oper.wp
  simp [execOp, ho, resolve, invoke, builtin, hd, hs, hrun, Result.andThen]
  exact hK _ _ (by have := h _ (hg.row _) (turn_row _ _ _); simpa using this)

/-- The same as one step of a region that draws its order. -/
theorem step_copy_str {w : World} {ops : Array Oper} {o : Oper} {a : Act} {K : Act → World → Prop} {Q : Exit → Act → World → Prop} {E : Prop} (hgd : o.guard = none) (d x : Operand) (dT sT : TypeId)
    (ho : o.op = .call { callee := .builtin .copy, args := #[d, x], argTypes := #[dT, sT] }) (elem : TypeId) (hu : P.underlying dT = some (.slice elem)) (hsz : (P.info? elem).map (·.size) = some 1)
    (g dCap : Nat) (s : ByteArray) (old : List UInt8) (hd : a.eval d = .slice (some ⟨g, 0, none⟩) old.length dCap) (hs : a.eval x = .string s)
    (t : TypeId) (hg : Has w g t (cellsOf old))
    (h : ∀ w', Has w' g t (cellsOf (over old s.data.toList)) → Turn (fun k => k = g) w w' → K (a.put o.dst (goInt ((min s.size old.length : Nat) : Int))) w') :
    if Region.wanted o (yielded ops a.tmps) = true then Oper.wp P o a w K Q else E := by
  have hw : Region.wanted o (yielded ops a.tmps) = true := by simp [Region.wanted, hgd]
  rw [if_pos hw]
  have hrun := run_copy_str (P := P) w dT sT o.type elem g dCap s old t hu hsz hg
  unfold Oper.wp
  simp [execOp, ho, resolve, invoke, builtin, hd, hs, hrun, Result.andThen]
  exact h _ (hg.row _) (turn_row _ _ _)

/-- A whole array is stored: its block behind it, in a world that is a letter. -/
theorem wpList_store_arr {w : World} {ops : Array Oper} {rest : List Oper} {o : Oper} {a : Act} {Q : Exit → Act → World → Prop} (hgd : o.guard = none) (ty : TypeId) (x y : Operand) (ho : o.op = .store ty x y)
    (g : Nat) (xs old : List UInt8) (hx : a.eval x = .pointer (some ⟨g, 0, none⟩)) (hy : a.eval y = .agg (cellsOf xs))
    (t : TypeId) (hg : Has w g t (cellsOf old)) (n : Nat) (hi : (P.info? ty).map (·.size) = some n) (hn : old.length = n) (hl : xs.length = n)
    (h : ∀ w', Has w' g t (cellsOf xs) → Turn (fun k => k = g) w w' → wpList P ops Q rest (a.put o.dst undef) w') : wpList P ops Q (o :: rest) a w :=
  wpList_store_row hgd ty x y ho g (cellsOf xs) hx hy t (cellsOf old) hg (by rw [hi, cellsOf_size, hl]) (by rw [cellsOf_size, cellsOf_size, hl, hn]) (cellsOf_one xs)
    (h _ (hg.row _) (turn_row _ _ _))

/-- A whole array is loaded. -/
theorem wpList_load_arr {w : World} {ops : Array Oper} {rest : List Oper} {o : Oper} {a : Act} {Q : Exit → Act → World → Prop} (hgd : o.guard = none) (ty : TypeId) (x : Operand) (ho : o.op = .load ty x)
    (g : Nat) (hx : a.eval x = .pointer (some ⟨g, 0, none⟩)) (t : TypeId) (xs : List UInt8) (e : TypeId) (n : Nat) (hg : Has w g t (cellsOf xs))
    (hu : P.underlying ty = some (.array n e)) (hi : (P.info? ty).map (·.size) = some n) (hl : xs.length = n)
    (h : wpList P ops Q rest (a.put o.dst (.agg (cellsOf xs))) w) : wpList P ops Q (o :: rest) a w :=
  wpList_load_row hgd ty x ho g hx t (cellsOf xs) (0, 0) _ hg hu rfl (by rw [hi, cellsOf_size, hl]) h

theorem Has.range {w : World} {g : Nat} {t : TypeId} {cs : List Value} (h : Has w g t cs.toArray) : w.rangeAt g 0 cs := fun j v hj => by
  rw [Nat.zero_add, h.cell j]
  simpa using hj

theorem cells_at (xs : List UInt8) (i : Nat) (c : UInt8) (h : xs[i]? = some c) : (cellsOf xs)[i]? = some (byteV c) := by
  simp [cellsOf, h]

theorem run_eqItems_bytes (d : Nat) {e : TypeId} (hu : P.underlying e = some (.int .u8)) (xs ys : List UInt8) (w : World) : ∀ is : List Nat, (∀ i ∈ is, i < xs.length ∧ i < ys.length) →
    (Op.eqItems (d + 1) e 1 (cellsOf xs) (cellsOf ys) is).run P w = .ok (is.all fun i => xs[i]? == ys[i]?) w
  | [], _ => by simp [Op.eqItems]
  | i :: is, h => by
    obtain ⟨hx, hy⟩ := h i (by simp)
    have ih := run_eqItems_bytes d hu xs ys w is (fun j hj => h j (by simp [hj]))
    have hk : P.plainKey e = true := by unfold Program.plainKey; simp [hu]
    have p1 := run_part_plain (P := P) w hk (cells_at xs i _ (List.getElem?_eq_getElem hx))
    have p2 := run_part_plain (P := P) w hk (cells_at ys i _ (List.getElem?_eq_getElem hy))
    have p3 : (Op.equalIn (d + 1) e (byteV xs[i]) (byteV ys[i])).run P w = .ok (xs[i] == ys[i]) w := by
      have e1 : ((xs[i].toNat : Int) == (ys[i].toNat : Int)) = (xs[i] == ys[i]) := by
        rw [Bool.eq_iff_iff, beq_iff_eq, beq_iff_eq]
        constructor
        · intro h
          exact UInt8.toNat_inj.1 (by omega)
        · intro h
          rw [h]
      rw [← e1]
      exact run_equalIn_int w d e .u8 .u8 _ _ hu
    simp only [Op.eqItems, Nat.mul_one, Sem.run_bind, p1, p2, p3, Result.andThen_ok]
    rw [List.all_cons, List.getElem?_eq_getElem hx, List.getElem?_eq_getElem hy]
    cases hc : (xs[i] == ys[i])
    · have : (some xs[i] == some ys[i]) = false := by simpa using hc
      rw [this]
      simp
    · have : (some xs[i] == some ys[i]) = true := by simpa using hc
      rw [this]
      simpa using ih

/-- Two arrays of bytes are the same just if their bytes are. -/
theorem run_equalIn_bytes (d : Nat) {t e : TypeId} (n : Nat) (hu : P.underlying t = some (.array n e)) (he : P.underlying e = some (.int .u8)) (hs : (P.info? e).map (·.size) = some 1) (xs ys : List UInt8) (hx : xs.length = n) (hy : ys.length = n) (w : World) :
    (Op.equalIn (d + 2) t (.agg (cellsOf xs)) (.agg (cellsOf ys))).run P w = .ok (xs == ys) w := by
  cases hi : P.info? e with
  | none => simp [hi] at hs
  | some i =>
    have hc : P.cellsOf e = 1 := by simp [hi] at hs; simp [Program.cellsOf, hi, hs]
    rw [run_equalIn_array w (d + 1) (cellsOf xs) (cellsOf ys) hu hi, hc, run_eqItems_bytes d he xs ys w _ (fun i hi => by have := List.mem_range.1 hi; omega)]
    congr 1
    rw [Bool.eq_iff_iff, List.all_eq_true, beq_iff_eq]
    constructor
    · intro h
      apply List.ext_getElem?
      intro j
      by_cases hj : j < n
      · exact beq_iff_eq.1 (h j (List.mem_range.2 hj))
      · rw [List.getElem?_eq_none (by omega), List.getElem?_eq_none (by omega)]
    · intro h j _
      rw [h]
      simp

end
end Go.Proofs.Ytbpcfkniflgmfaa
end

section
/- Steps of a region that draws its order: a call by its contract. -/
namespace Go.Proofs.Ytbpcfkniflgmfaa
open Go.RowKit
theorem Has.one {w : World} {g : Nat} {t : TypeId} {a : Value} (h : Has w g t #[a]) : w.cell? ⟨g, 0, none⟩ = some a ∧ w.frozen? ⟨g, 0, none⟩ = false := ⟨h.cell 0, h.free 0⟩
theorem Has.two {w : World} {g : Nat} {t : TypeId} {a b : Value} (h : Has w g t #[a, b]) : w.cell? ⟨g, 0, none⟩ = some a ∧ w.cell? ⟨g, 1, none⟩ = some b ∧ w.frozen? ⟨g, 0, none⟩ = false ∧ w.frozen? ⟨g, 1, none⟩ = false := ⟨h.cell 0, h.cell 1, h.free 0, h.free 1⟩
theorem Turn.grownBy {w w' : World} {b : Nat} (h : Turn (fun k => k = b ∨ w.heap.size ≤ k) w w') : w.grownBy w' (some b) :=
  ⟨h.os, h.tape, h.output, h.size, fun k hk hne => h.block k hk (fun h => by
    rcases h with h | h
    · exact hne (by rw [h])
    · omega)⟩
theorem Turn.cell {F : Nat → Prop} {w w' : World} (h : Turn F w w') {p : Addr} (hp : p.block < w.heap.size) (hF : ¬ F p.block) : w'.cell? p = w.cell? p := by
  have := h.block p.block hp hF
  unfold World.cell?
  rw [this]
theorem made_at {w : World} {g : Nat} (t : TypeId) (cs : Array Value) (h : g = w.heap.size) : Has (w.alloc (.cells cs t)) g t cs := h ▸ Has.made w t cs

section
variable {P : Program}

/-- Guards: they hold at once where the next operation is that load, that store; they do nothing. -/
theorem at_op (d : Tmp) {op : Op} {t : TypeId} {p : String} {af : Array _} {ops : Array Oper} {rest : List Oper} {a : Act} {w : World} {Q : Exit → Act → World → Prop}
    (h : wpList P ops Q (⟨some d, op, t, p, af, none⟩ :: rest) a w) : wpList P ops Q (⟨some d, op, t, p, af, none⟩ :: rest) a w := h
theorem at_store (x : Operand) {ty : TypeId} {y : Operand} {t : TypeId} {p : String} {af : Array _} {ops : Array Oper} {rest : List Oper} {a : Act} {w : World} {Q : Exit → Act → World → Prop}
    (h : wpList P ops Q (⟨none, .store ty x y, t, p, af, none⟩ :: rest) a w) : wpList P ops Q (⟨none, .store ty x y, t, p, af, none⟩ :: rest) a w := h

/-- A call of a Go function as one step of a region that draws its order: by its contract. -/
theorem step_call {w : World} {ops : Array Oper} {o : Oper} {a : Act} {K : Act → World → Prop} {Q : Exit → Act → World → Prop} {E : Prop} (hgd : o.guard = none) (f : FuncId) (fn : Func) (hfn : P.funcs[f]? = some fn) (hname : (fn.name == "runtime.NumGoroutine") = false) (hb : fn.body.isNone = false) (xs : Array Operand) (ts : Array TypeId)
    (ho : o.op = .call { callee := .value (.func f), args := xs, argTypes := ts }) (vs : Array Value) (hv : xs.map a.eval = vs) {R : Ending → World → Prop} (hc : Calls P f vs w R)
    (h : ∀ en w', R en w' → ∃ v, en = .returned v ∧ K (a.put o.dst v) w') :
    if Region.wanted o (yielded ops a.tmps) = true then Oper.wp P o a w K Q else E := by
  have hw : Region.wanted o (yielded ops a.tmps) = true := by simp [Region.wanted, hgd]
  rw [if_pos hw]
  have hf : a.eval (.func f) = .func (.func f) #[] #[] := rfl
  have he : (execOp a.eval o).run P w = .ok (.enter f vs) w := by
    simp only [execOp, ho]
    have h1 : fn.name ≠ "runtime.NumGoroutine" := by simpa using hname
    simp [resolve, hv, hf, Deferred.ofValue, invoke, callFunc, hfn, h1]
    intro hn
    simp [hn] at hb
  unfold Oper.wp
  rw [he, Oper.upon_enter]
  refine hc.mono ?_
  intro en w' hR
  obtain ⟨v, rfl, hK⟩ := h en w' hR
  exact hK

end
end Go.Proofs.Ytbpcfkniflgmfaa
end

section
/- Rows that are owned (slices that grew by append, or were laid as literals): what keeps them, what stands in them. Of no program. -/
namespace Go.Proofs.Ytbpcfkniflgmfaa
open Go.RowKit

section
variable {w w' : World} {e : TypeId} {size n : Nat} {v : Value} {xs : List Value}

theorem own_lt {b : Nat} (h : w.ownsRow 0 e size v n xs) (hb : v.ownBlock = some b) : b < w.heap.size := by
  rcases h.2 with ⟨rfl, _⟩ | ⟨g, cap, cur, rfl, _, hg, _⟩
  · cases hb
  · injection hb with hb
    subst hb
    rcases Nat.lt_or_ge g w.heap.size with k | k
    · exact k
    · rw [Array.getElem?_eq_none k] at hg; cases hg

theorem own_turn {F : Nat → Prop} (h : w.ownsRow 0 e size v n xs) (t : Turn F w w') (hr : ∀ b, v.ownBlock = some b → ¬ F b) : w'.ownsRow 0 e size v n xs := by
  refine ⟨h.1, ?_⟩
  rcases h.2 with k | ⟨g, cap, cur, e1, e2, e3, e4⟩
  · exact .inl k
  · have hg : g < w.heap.size := own_lt h (by rw [e1]; rfl)
    exact .inr ⟨g, cap, cur, e1, e2, (t.block g hg (hr g (by rw [e1]; rfl))).trans e3, e4⟩

theorem own_ne {b : Nat} {t : TypeId} {cs : Array Value} (h : w.ownsRow 0 e size v n xs) (hb : Has w b t cs) (hne : e ≠ t) : v.ownBlock ≠ some b := by
  rcases h.2 with ⟨rfl, _⟩ | ⟨g, cap, cur, rfl, _, hg, _⟩
  · intro k; cases k
  · intro k
    injection k with k
    obtain rfl : g = b := k
    have hg' : Has w g e cur := hg
    exact hne (hg'.uniq hb).2

theorem own_own {e' : TypeId} {size' n' : Nat} {v' : Value} {xs' : List Value} (h : w.ownsRow 0 e size v n xs) (h' : w.ownsRow 0 e' size' v' n' xs') (hne : e ≠ e') : ∀ b, v.ownBlock = some b → v'.ownBlock ≠ some b := by
  intro b hb
  rcases h.2 with ⟨rfl, _⟩ | ⟨g, cap, cur, rfl, _, hg, _⟩
  · cases hb
  · injection hb with hb
    obtain rfl : g = b := hb
    have hg' : Has w g e cur := hg
    exact own_ne h' hg' (fun k => hne k.symm)

/-- What stands in the row. -/
theorem own_cell (h : w.ownsRow 0 e size v n xs) (hn : 0 < n) : ∃ g c, v = .slice (some ⟨g, 0, none⟩) n c ∧ n ≤ c ∧ c ≤ maxLen ∧ ∀ j u, xs[j]? = some u → w.cell? ⟨g, j, none⟩ = some u := by
  rcases h.2 with ⟨_, h0⟩ | ⟨g, cap, cur, rfl, _, hg, hc1, hc2, _, hx⟩
  · omega
  · refine ⟨g, cap, rfl, hc1, hc2, fun j u hj => ?_⟩
    have hg' : Has w g e cur := hg
    rw [hg'.cell, ← Array.getElem?_toList]
    have hjl : j < xs.length := by
      rcases Nat.lt_or_ge j xs.length with k | k
      · exact k
      · rw [List.getElem?_eq_none k] at hj; cases hj
    have hl : xs.length ≤ n * size := by rw [h.1]; exact Nat.le_refl _
    have h1 : (cur.toList.take (n * size))[j]? = cur.toList[j]? := List.getElem?_take_of_lt (by omega)
    rw [← h1, hx, hj]

theorem own_slice (h : w.ownsRow 0 e size v n xs) : ∃ a c, v = .slice a n c := by
  rcases h.2 with ⟨h1, h2⟩ | ⟨g, cap, cur, h1, _⟩
  · exact ⟨none, 0, by rw [h1, h2]⟩
  · exact ⟨_, _, h1⟩
end

end Go.Proofs.Ytbpcfkniflgmfaa
end

section
/- proc: a process's block; places; the small calls. -/
namespace Go.Proofs.Ytbpcfkniflgmfaa.prc
open Go Go.RowKit

/-- An array of cells by their numbers. -/
def cellsF (f : Nat → Value) (n : Nat) : Array Value := ((List.range n).map f).toArray
theorem cellsF_size (f : Nat → Value) (n : Nat) : (cellsF f n).size = n := by unfold cellsF; simp
theorem cellsF_at (f : Nat → Value) {n i : Nat} (h : i < n) : (cellsF f n)[i]? = some (f i) := by
  unfold cellsF
  rw [List.getElem?_toArray, List.getElem?_map, List.getElem?_range h]
  rfl
def upV (f : Nat → Value) (k : Nat) (v : Value) (i : Nat) : Value := if i = k then v else f i
theorem cellsF_put (f : Nat → Value) {n k : Nat} (v : Value) : (cellsF f n).setIfInBounds k v = cellsF (upV f k v) n := by
  apply Array.ext'
  apply List.ext_getElem?
  intro i
  rw [Array.toList_setIfInBounds, List.getElem?_set]
  unfold cellsF upV
  rw [List.toList_toArray, List.toList_toArray, List.getElem?_map, List.getElem?_map, List.length_map, List.length_range]
  by_cases h : i < n
  · rw [List.getElem?_range h]
    by_cases e : k = i
    · subst e; simp [h]
    · rw [if_neg e]
      show some (f i) = some (if i = k then v else f i)
      rw [if_neg (fun e2 => e e2.symm)]
  · rw [List.getElem?_eq_none (by rw [List.length_range]; omega)]
    by_cases e : k = i
    · subst e; simp [h]
    · rw [if_neg e]; rfl

/-- What a process's fields hold. -/
structure Px where
  procs : Int
  slots : Int
  who : Int
  seq : Int
  next : Int
  seen : Int
  last : Nat → Int
  own : ByteArray
  offer : ByteArray

def prF (x : Px) (i : Nat) : Value :=
  if i = 0 then .int .i64 x.procs else if i = 1 then .int .i64 x.slots else if i = 2 then .int .i64 x.who else if i = 3 then .int .i64 x.seq else if i = 4 then .int .i64 x.next
  else if i = 5 then .int .i64 x.seen else if i = 70 then .string x.own else if i = 71 then .string x.offer else .int .i64 (x.last (i - 6))

/-- The process at block b. -/
def Pr (w : World) (b : Nat) (x : Px) : Prop := Has w b 112 (cellsF (prF x) 72)

section
variable {w w' : World} {b : Nat} {x : Px}

theorem Pr.cell (h : Pr w b x) {i : Nat} (hi : i < 72) : w.cell? ⟨b, i, none⟩ = some (prF x i) := (Has.cell h i).trans (cellsF_at _ hi)
theorem Pr.free (h : Pr w b x) (i : Nat) : w.frozen? ⟨b, i, none⟩ = false := Has.free h i
theorem Pr.c0 (h : Pr w b x) : w.cell? ⟨b, 0, none⟩ = some (.int .i64 x.procs) := h.cell (by decide)
theorem Pr.c1 (h : Pr w b x) : w.cell? ⟨b, 1, none⟩ = some (.int .i64 x.slots) := h.cell (by decide)
theorem Pr.c2 (h : Pr w b x) : w.cell? ⟨b, 2, none⟩ = some (.int .i64 x.who) := h.cell (by decide)
theorem Pr.c3 (h : Pr w b x) : w.cell? ⟨b, 3, none⟩ = some (.int .i64 x.seq) := h.cell (by decide)
theorem Pr.c4 (h : Pr w b x) : w.cell? ⟨b, 4, none⟩ = some (.int .i64 x.next) := h.cell (by decide)
theorem Pr.c5 (h : Pr w b x) : w.cell? ⟨b, 5, none⟩ = some (.int .i64 x.seen) := h.cell (by decide)
theorem Pr.c70 (h : Pr w b x) : w.cell? ⟨b, 70, none⟩ = some (.string x.own) := h.cell (by decide)
theorem Pr.c71 (h : Pr w b x) : w.cell? ⟨b, 71, none⟩ = some (.string x.offer) := h.cell (by decide)
theorem Pr.cl (h : Pr w b x) {i : Nat} (hi : i < 64) : w.cell? ⟨b, 6 + i, none⟩ = some (.int .i64 (x.last i)) := by
  rw [h.cell (by omega)]
  unfold prF
  rw [if_neg (by omega), if_neg (by omega), if_neg (by omega), if_neg (by omega), if_neg (by omega), if_neg (by omega), if_neg (by omega), if_neg (by omega), Nat.add_sub_cancel_left]

theorem Pr.put (h : Pr w b x) (k : Nat) (v : Value) {y : Px} (e : ∀ i, i < 72 → upV (prF x) k v i = prF y i) : Pr (w.setCell ⟨b, k, none⟩ v) b y := by
  have := Has.put h k v
  rw [cellsF_put] at this
  have e2 : cellsF (upV (prF x) k v) 72 = cellsF (prF y) 72 := by
    unfold cellsF
    congr 1
    exact List.map_congr_left fun i hi => e i (List.mem_range.1 hi)
  rw [e2] at this
  exact this

theorem Pr.putSeq (h : Pr w b x) (n : Int) : Pr (w.setCell ⟨b, 3, none⟩ (.int .i64 n)) b { x with seq := n } :=
  h.put 3 _ fun i _ => by unfold upV prF; by_cases e : i = 3 <;> simp [e]
theorem Pr.putNext (h : Pr w b x) (n : Int) : Pr (w.setCell ⟨b, 4, none⟩ (.int .i64 n)) b { x with next := n } :=
  h.put 4 _ fun i _ => by unfold upV prF; by_cases e : i = 4 <;> simp [e]
theorem Pr.putSeen (h : Pr w b x) (n : Int) : Pr (w.setCell ⟨b, 5, none⟩ (.int .i64 n)) b { x with seen := n } :=
  h.put 5 _ fun i _ => by unfold upV prF; by_cases e : i = 5 <;> simp [e]
theorem Pr.putOwn (h : Pr w b x) (s : ByteArray) : Pr (w.setCell ⟨b, 70, none⟩ (.string s)) b { x with own := s } :=
  h.put 70 _ fun i _ => by unfold upV prF; by_cases e : i = 70 <;> simp [e]
theorem Pr.putOffer (h : Pr w b x) (s : ByteArray) : Pr (w.setCell ⟨b, 71, none⟩ (.string s)) b { x with offer := s } :=
  h.put 71 _ fun i _ => by unfold upV prF; by_cases e : i = 71 <;> simp [e]
theorem Pr.putLast (h : Pr w b x) {k : Nat} (hk : k < 64) (n : Int) : Pr (w.setCell ⟨b, 6 + k, none⟩ (.int .i64 n)) b { x with last := fun i => if i = k then n else x.last i } :=
  h.put (6 + k) _ fun i hi => by
    unfold upV prF
    by_cases e : i = 6 + k
    · subst e
      rw [if_pos rfl, if_neg (by omega), if_neg (by omega), if_neg (by omega), if_neg (by omega), if_neg (by omega), if_neg (by omega), if_neg (by omega), if_neg (by omega)]
      show _ = Value.int .i64 (if 6 + k - 6 = k then n else _)
      rw [if_pos (by omega)]
    · rw [if_neg e]
      have e2 : ¬ (6 ≤ i ∧ i - 6 = k) := by omega
      by_cases h6 : 6 ≤ i
      · have e3 : i - 6 ≠ k := fun e4 => e2 ⟨h6, e4⟩
        show _ = (if i = 0 then _ else if i = 1 then _ else if i = 2 then _ else if i = 3 then _ else if i = 4 then _ else if i = 5 then _ else if i = 70 then _ else if i = 71 then _ else Value.int .i64 (if i - 6 = k then n else x.last (i - 6)))
        rw [if_neg e3]
      · rcases (show i = 0 ∨ i = 1 ∨ i = 2 ∨ i = 3 ∨ i = 4 ∨ i = 5 by omega) with rfl | rfl | rfl | rfl | rfl | rfl <;> rfl

theorem Pr.keep (h : Pr w b x) (e : w'.heap[b]? = w.heap[b]?) : Pr w' b x := Has.keep h e
theorem Pr.below (h : Pr w b x) (hb : Below w.heap.size w w') : Pr w' b x := Has.below h hb (Has.lt h)
theorem Pr.turn {F : Nat → Prop} (h : Pr w b x) (t : Turn F w w') (hF : ¬ F b) : Pr w' b x := Has.turn h t hF
theorem Pr.drew (h : Pr w b x) : Pr w.drew b x := h
theorem Pr.alloc (h : Pr w b x) (o : Obj) : Pr (w.alloc o) b x := Has.alloc h o

end

/-- Places. -/
theorem box_below (w : World) (o : Obj) : Below w.heap.size w (w.alloc o) := (Below.refl _ _).alloc (Nat.le_refl _) _

def ret1 (v : Value) (w : World) (en : Ending) (w' : World) : Prop := en = .returned v ∧ Below w.heap.size w w'

set_option maxRecDepth 100000 in
theorem slotP_calls (P L k : Int) (w : World) (hP0 : 0 ≤ P) (hP : P ≤ 1000) (hk0 : 0 ≤ k) (hk : k ≤ 1000) : Calls Try.prog 12 #[.agg #[.int .i64 P, .int .i64 L], .int .i64 k] w (ret1 (.int .i64 (P + k)) w) := by
  go_enter Try.func12, Try.ntmps12
  go_wp2_with fail
  go_ret
  exact ⟨rfl, box_below _ _⟩

set_option maxRecDepth 100000 in
theorem wishP_calls (P L k : Int) (w : World) : Calls Try.prog 49 #[.agg #[.int .i64 P, .int .i64 L], .int .i64 k] w (ret1 (.int .i64 k) w) := by
  go_enter Try.func49, Try.ntmps49
  go_wp2_with fail
  go_ret
  exact ⟨rfl, box_below _ _⟩

set_option maxRecDepth 100000 in
theorem cellsP_calls (P L : Int) (w : World) (hP0 : 0 ≤ P) (hP : P ≤ 1000) (hk0 : 0 ≤ L) (hk : L ≤ 1000) : Calls Try.prog 35 #[.agg #[.int .i64 P, .int .i64 L]] w (ret1 (.int .i64 (P + L)) w) := by
  go_enter Try.func35, Try.ntmps35
  go_wp2_with fail
  go_ret
  exact ⟨rfl, box_below _ _⟩

set_option maxRecDepth 100000 in
theorem boundP_calls (P L : Int) (w : World) (hk0 : 0 ≤ L) (hk : L ≤ 1000) : Calls Try.prog 15 #[.agg #[.int .i64 P, .int .i64 L]] w (ret1 (.int .i64 (2 + 3 * L)) w) := by
  go_enter Try.func15, Try.ntmps15
  go_wp2_with fail
  go_ret
  exact ⟨rfl, box_below _ _⟩

def mayP (P L : Int) : Bool := decide (1 ≤ P) && decide (P ≤ 64) && decide (0 ≤ L) && decide (L ≤ 256)

def checkE (P L : Int) : Int := if mayP P L = true then 0 else 4



set_option maxRecDepth 100000 in
theorem helpedP_calls (P L : Int) (k : Nat) (w : World) (hP0 : 1 ≤ P) (hP : P ≤ 1000) (hk : k ≤ 1000) : Calls Try.prog 55 #[.agg #[.int .i64 P, .int .i64 L], .int .i64 k] w (ret1 (.int .i64 ((k : Int) % P)) w) := by
  have hk0 : (0 : Int) ≤ (k : Int) := by omega
  have hm : ¬ P < 1 := by omega
  have hz : ¬ P = 0 := by omega
  have ht := Lib.hid (Int.tmod_eq_emod_of_nonneg hk0 (b := P))
  obtain ⟨r, hr⟩ : ∃ r, r = (k : Int).tmod P := ⟨_, rfl⟩
  have hr1 : (k : Int).tmod P = r := hr.symm
  have hr2 : (k : Int) % P = r := by rw [← ht.out, hr]
  clear hr
  go_enter Try.func55, Try.ntmps55
  go_wp2_with fail
  go_ret
  exact ⟨rfl, box_below _ _⟩

section
variable {w : World} {b : Nat} {x : Px}

set_option maxRecDepth 100000 in
theorem idle_calls (h : Pr w b x) : Calls Try.prog 14 #[.pointer (some ⟨b, 0, none⟩)] w fun en w' => en = .returned (.bool (x.next == 0)) ∧ w = w' := by
  have c4 := h.c4
  clear h
  go_enter Try.func14, Try.ntmps14
  go_wp2_with fail
  go_ret
  exact ⟨rfl, rfl⟩



set_option maxRecDepth 100000 in
theorem all_calls (h : Pr w b x) : Calls Try.prog 82 #[.pointer (some ⟨b, 0, none⟩)] w fun en w' => en = .returned (.bool (decide (x.slots ≤ x.seen))) ∧ Below w.heap.size w w' := by
  have c5 := h.drew.c5
  have c1 := h.drew.c1
  clear h
  go_enter Try.func82, Try.ntmps82
  go_wp2_with fail
  go_region
  all_goals
    go_wp2_with fail
    go_ret
    exact ⟨rfl, (Below.refl _ _).drew⟩

end
end Go.Proofs.Ytbpcfkniflgmfaa.prc
end

section
/- Slices that lie anywhere in a block of their own (also behind what was cut off ahead of them): what keeps them, what stands in them, append. Of no program. -/
namespace Go.Proofs.Ytbpcfkniflgmfaa
open Go.RowKit

/-- The value v is a slice of n elements, each of size cells, of type e; in them stands xs. -/
def Seg (w : World) (e : TypeId) (size : Nat) (v : Value) (n : Nat) (xs : List Value) : Prop :=
  xs.length = n * size ∧ ((v = .slice none 0 0 ∧ n = 0) ∨ ∃ g off cap cur, v = .slice (some ⟨g, off, none⟩) n cap ∧ w.heap[g]? = some (.cells cur e (0, 0)) ∧ n ≤ cap ∧ cap ≤ maxLen ∧ off + cap * size ≤ cur.size ∧ (cur.toList.drop off).take (n * size) = xs)

section
variable {w w' : World} {e : TypeId} {size n : Nat} {v : Value} {xs : List Value}

theorem Seg.nil (w : World) (e : TypeId) (size : Nat) : Seg w e size (.slice none 0 0) 0 [] := ⟨by simp, .inl ⟨rfl, rfl⟩⟩

theorem Seg.of_own {base : Nat} (h : w.ownsRow base e size v n xs) : Seg w e size v n xs := by
  refine ⟨h.1, ?_⟩
  rcases h.2 with k | ⟨g, cap, cur, e1, _, e3, e4, e5, e6, e7⟩
  · exact .inl k
  · exact .inr ⟨g, 0, cap, cur, e1, e3, e4, e5, by rw [e6]; omega, by simpa using e7⟩

theorem Seg.lt {b : Nat} (h : Seg w e size v n xs) (hb : v.ownBlock = some b) : b < w.heap.size := by
  rcases h.2 with ⟨rfl, _⟩ | ⟨g, off, cap, cur, rfl, hg, _⟩
  · cases hb
  · injection hb with hb
    subst hb
    rcases Nat.lt_or_ge g w.heap.size with k | k
    · exact k
    · rw [Array.getElem?_eq_none k] at hg; cases hg

theorem Seg.keep (h : Seg w e size v n xs) (k : ∀ b, v.ownBlock = some b → w'.heap[b]? = w.heap[b]?) : Seg w' e size v n xs := by
  refine ⟨h.1, ?_⟩
  rcases h.2 with h2 | ⟨g, off, cap, cur, e1, e2, e3⟩
  · exact .inl h2
  · exact .inr ⟨g, off, cap, cur, e1, (k g (by rw [e1]; rfl)).trans e2, e3⟩

theorem Seg.turn {F : Nat → Prop} (h : Seg w e size v n xs) (t : Turn F w w') (hr : ∀ b, v.ownBlock = some b → ¬ F b) : Seg w' e size v n xs :=
  h.keep fun b hb => t.block b (h.lt hb) (hr b hb)

theorem Seg.below {B : Nat} (h : Seg w e size v n xs) (t : Below B w w') (hB : ∀ b, v.ownBlock = some b → b < B) : Seg w' e size v n xs :=
  h.keep fun b hb => t.block b (hB b hb)

theorem Seg.drew (h : Seg w e size v n xs) : Seg w.drew e size v n xs := h
theorem Seg.alloc (h : Seg w e size v n xs) (o : Obj) : Seg (w.alloc o) e size v n xs := h.keep fun b hb => Below.heap_alloc w o b (h.lt hb)

theorem Seg.ne {b : Nat} {t : TypeId} {cs : Array Value} (h : Seg w e size v n xs) (hb : Has w b t cs) (hne : e ≠ t) : v.ownBlock ≠ some b := by
  rcases h.2 with ⟨rfl, _⟩ | ⟨g, off, cap, cur, rfl, hg, _⟩
  · intro k; cases k
  · intro k
    injection k with k
    obtain rfl : g = b := k
    have hg' : Has w g e cur := hg
    exact hne (hg'.uniq hb).2

theorem Seg.apart {e' : TypeId} {size' n' : Nat} {v' : Value} {xs' : List Value} (h : Seg w e size v n xs) (h' : Seg w e' size' v' n' xs') (hne : e ≠ e') : ∀ b, v.ownBlock = some b → v'.ownBlock ≠ some b := by
  intro b hb
  rcases h.2 with ⟨rfl, _⟩ | ⟨g, off, cap, cur, rfl, hg, _⟩
  · cases hb
  · injection hb with hb
    obtain rfl : g = b := hb
    have hg' : Has w g e cur := hg
    exact h'.ne hg' (fun k => hne k.symm)

/-- What stands in it. -/
theorem Seg.cells (h : Seg w e size v n xs) (hn : 0 < n) : ∃ g off c, v = .slice (some ⟨g, off, none⟩) n c ∧ g < w.heap.size ∧ n ≤ c ∧ c ≤ maxLen ∧ ∀ j u, xs[j]? = some u → w.cell? ⟨g, off + j, none⟩ = some u := by
  rcases h.2 with ⟨_, h0⟩ | ⟨g, off, cap, cur, rfl, hg, hc1, hc2, _, hx⟩
  · omega
  · refine ⟨g, off, cap, rfl, h.lt rfl, hc1, hc2, fun j u hj => ?_⟩
    have hg' : Has w g e cur := hg
    rw [hg'.cell, ← Array.getElem?_toList]
    have hjl : j < xs.length := by
      rcases Nat.lt_or_ge j xs.length with k | k
      · exact k
      · rw [List.getElem?_eq_none k] at hj; cases hj
    have hl : xs.length ≤ n * size := by rw [h.1]; exact Nat.le_refl _
    rw [← hx, List.getElem?_take_of_lt (by omega), List.getElem?_drop] at hj
    exact hj

theorem Seg.slice (h : Seg w e size v n xs) : ∃ a c, v = .slice a n c ∧ n ≤ c ∧ c ≤ maxLen := by
  rcases h.2 with ⟨h1, h2⟩ | ⟨g, off, cap, cur, rfl, hg, hc1, hc2, _⟩
  · exact ⟨none, 0, by rw [h1, h2], by omega, by unfold maxLen; omega⟩
  · exact ⟨_, _, rfl, hc1, hc2⟩

/-- What is behind the first k. -/
theorem Seg.behind {g off c : Nat} (h : Seg w e size (.slice (some ⟨g, off, none⟩) n c) n xs) (k : Nat) (hk : k ≤ n) : Seg w e size (.slice (some ⟨g, off + k * size, none⟩) (n - k) (c - k)) (n - k) (xs.drop (k * size)) := by
  rcases h.2 with ⟨h1, _⟩ | ⟨g', off', cap, cur, h1, hg, hc1, hc2, hc3, hx⟩
  · cases h1
  · simp only [Value.slice.injEq, Option.some.injEq, Addr.mk.injEq, and_true, true_and] at h1
    obtain ⟨⟨rfl, rfl⟩, rfl⟩ := h1
    refine ⟨by rw [List.length_drop, h.1, Nat.sub_mul], .inr ⟨g, _, c - k, cur, rfl, hg, by omega, by omega, ?_, ?_⟩⟩
    · have : k * size + (c - k) * size = c * size := by rw [← Nat.add_mul, Nat.add_sub_cancel' (by omega)]
      omega
    · rw [← hx, List.drop_take, List.drop_drop, Nat.sub_mul]

/-- A cell of it is written. -/
theorem Seg.put {g off c : Nat} (h : Seg w e size (.slice (some ⟨g, off, none⟩) n c) n xs) (j : Nat) (u : Value) : Seg (w.setCell ⟨g, off + j, none⟩ u) e size (.slice (some ⟨g, off, none⟩) n c) n (xs.set j u) := by
  rcases h.2 with ⟨h1, _⟩ | ⟨g', off', cap, cur, h1, hg, hc1, hc2, hc3, hx⟩
  · cases h1
  · simp only [Value.slice.injEq, Option.some.injEq, Addr.mk.injEq, and_true, true_and] at h1
    obtain ⟨⟨rfl, rfl⟩, rfl⟩ := h1
    have hg' : Has w g e cur := hg
    refine ⟨by rw [List.length_set, h.1], .inr ⟨g, off, c, _, rfl, hg'.put (off + j) u, hc1, hc2, by simpa using hc3, ?_⟩⟩
    rw [Array.toList_setIfInBounds, ← hx, List.drop_set, if_neg (by omega), Nat.add_sub_cancel_left, List.take_set]

theorem Seg.free {g off c : Nat} (h : Seg w e size (.slice (some ⟨g, off, none⟩) n c) n xs) (j : Nat) : w.frozen? ⟨g, j, none⟩ = false := by
  rcases h.2 with ⟨h1, _⟩ | ⟨g', off', cap, cur, h1, hg, _⟩
  · cases h1
  · simp only [Value.slice.injEq, Option.some.injEq, Addr.mk.injEq, and_true, true_and] at h1
    obtain ⟨⟨rfl, rfl⟩, rfl⟩ := h1
    have hg' : Has w g e cur := hg
    exact hg'.free j
end

section
variable {P : Program} (w : World)

theorem run_append_roomy (t ty e : TypeId) (i : TypeInfo) (ht : P.underlying t = some (.slice e)) (hi : P.info? e = some i)
    (g off sLen sCap : Nat) (cur : Array Value) (hg : w.heap[g]? = some (.cells cur e (0, 0)))
    (a : Addr) (m c : Nat) (news : List Value) (hl : news.length = m * i.size) (hnews : ∀ j u, news[j]? = some u → w.cell? (a.add j) = some u) (h1 : ∀ u ∈ news, u.oneCell' = true)
    (hroom : sLen + m ≤ sCap) (hfit : off + sLen * i.size + news.length ≤ cur.size) :
    (Builtin.append_ #[t, t] ty #[.slice (some ⟨g, off, none⟩) sLen sCap, .slice (some a) m c]).run P w =
      .ok (.slice (some ⟨g, off, none⟩) (sLen + m) sCap) (w.setRow g (cur.toList.take (off + sLen * i.size) ++ news ++ cur.toList.drop (off + sLen * i.size + news.length)).toArray) := by
  have hf := run_firstCells_some (P := P) w i.size m a m c news hl hnews
  have hst := run_storeCells_at P g (off + sLen * i.size) e news 0 cur w hg (by simpa using hfit) h1
  simp only [Nat.add_zero] at hst
  have ha : (⟨g, off, none⟩ : Addr).add (sLen * i.size) = ⟨g, off + sLen * i.size, none⟩ := by unfold Addr.add; split <;> simp_all
  simp [Builtin.append_, run_underlying ht, sizeOf, typeInfo, hi, Builtin.lenOf, hroom, hf, ha, hst]

theorem run_append_seg (t ty : TypeId) (e : TypeId) (i : TypeInfo) (z : Value) (size bytes : Nat) (ht : P.underlying t = some (.slice e)) (hi : P.info? e = some i) (hz : i.zero = some z)
    (hsize : i.size = size) (hby : i.bytes = bytes) (hzs : z.cells.size = size) (hsz : 0 < size)
    (v : Value) (n : Nat) (xs : List Value) (hown : Seg w e size v n xs)
    (a : Addr) (m c : Nat) (news : List Value) (hl : news.length = m * size) (hnews : ∀ j u, news[j]? = some u → w.cell? (a.add j) = some u) (h1 : ∀ u ∈ news, u.oneCell' = true)
    (hm : 0 < m) (h63 : n + m ≤ maxLen) (hbytes : (n + m) * bytes ≤ 140737488355328) (H : Nat) (hH : w.heap.size = H) :
    ∃ g off cap w', (Builtin.append_ #[t, t] ty #[v, .slice (some a) m c]).run P w = .ok (.slice (some ⟨g, off, none⟩) (n + m) cap) w' ∧
      Seg w' e size (.slice (some ⟨g, off, none⟩) (n + m) cap) (n + m) (xs ++ news) ∧ w.grownBy w' v.ownBlock ∧ (v.ownBlock = some g ∨ g = H) ∧ g < w'.heap.size := by
  subst hsize
  subst hby
  have hlen : (xs ++ news).length = (n + m) * i.size := by rw [List.length_append, hown.1, hl, Nat.add_mul]
  have hsmall : n + m ≤ 9223372036854775807 := by simp only [maxLen] at h63; omega
  rcases hown.2 with ⟨rfl, rfl⟩ | ⟨g, off, cap, cur, rfl, hg, hnc, hcm, hcs, htake⟩
  · obtain ⟨g, cap, w', hr, h2, h3, h4, h5⟩ := run_append_lies (P := P) w t ty 0 e i z i.size i.bytes ht hi hz rfl rfl hzs hsz (.slice none 0 0) 0 xs ⟨hown.1, .inl ⟨rfl, rfl⟩⟩ a m c news hl hnews h1 hm h63 hbytes (Nat.zero_le _) H hH
    exact ⟨g, 0, cap, w', hr, .of_own h2, h3, h4, h5⟩
  · by_cases hroom : n + m ≤ cap
    · have hfit : off + n * i.size + news.length ≤ cur.size := by
        have h2 : (n + m) * i.size ≤ cap * i.size := Nat.mul_le_mul_right _ hroom
        rw [Nat.add_mul] at h2
        rw [hl]
        omega
      have hr := run_append_roomy (P := P) w t ty e i ht hi g off n cap cur hg a m c news hl hnews h1 hroom hfit
      have hgl : g < w.heap.size := hown.lt rfl
      refine ⟨g, off, cap, _, hr, ⟨hlen, .inr ⟨g, off, cap, _, rfl, setRow_heap w g cur _ e _ hg, hroom, hcm, ?_, ?_⟩⟩, ⟨rfl, rfl, rfl, by simp, fun k _ hk => setRow_other w g k _ (fun e => hk (by simp [Value.ownBlock, e]))⟩, .inl rfl, by simpa [World.setRow] using hgl⟩
      · simp only [List.size_toArray, List.length_append, List.length_take, List.length_drop, Array.length_toList]
        omega
      · have h3 : (cur.toList.take (off + n * i.size)).drop off = xs := by rw [List.drop_take, ← htake]; congr 1; omega
        have h4 : off ≤ (cur.toList.take (off + n * i.size)).length := by simp only [List.length_take, Array.length_toList]; omega
        show (List.drop off (cur.toList.take (off + n * i.size) ++ news ++ cur.toList.drop (off + n * i.size + news.length))).take _ = _
        rw [List.append_assoc, List.drop_append_of_le_length h4, h3, ← List.append_assoc, ← hlen]
        exact List.take_left
    · have holds : ∀ j u, xs[j]? = some u → w.cell? ((⟨g, off, none⟩ : Addr).add j) = some u := by
        intro j u hj
        by_cases hn : 0 < n
        · obtain ⟨g', off', c', hv, _, _, _, hc⟩ := hown.cells hn
          simp only [Value.slice.injEq, Option.some.injEq, Addr.mk.injEq, and_true, true_and] at hv
          obtain ⟨⟨rfl, rfl⟩, rfl⟩ := hv
          have ha : (⟨g, off, none⟩ : Addr).add j = ⟨g, off + j, none⟩ := by unfold Addr.add; split <;> simp_all
          rw [ha]
          exact hc j u hj
        · obtain rfl : n = 0 := by omega
          have hx : xs = [] := List.eq_nil_of_length_eq_zero (by simpa using hown.1)
          rw [hx] at hj
          cases hj
      have hr := run_append_grow (P := P) w t ty e i z ht hi hz ⟨g, off, none⟩ n cap xs hown.1 holds a m c news hl hnews (by omega) (by omega) (growslice_fits (by omega) hbytes)
      refine ⟨_, 0, _, _, hr, ⟨hlen, .inr ⟨w.heap.size, 0, _, _, rfl, heap_alloc_new w.drew _, grownCap_ge w (n + m) cap e, grownCap_le_maxLen w (n + m) cap e h63, ?_, ?_⟩⟩, ⟨rfl, rfl, rfl, by simp, fun k hk _ => Below.heap_alloc w.drew _ k hk⟩, .inr hH, by simp⟩
      · have hge := grownCap_ge w (n + m) cap e
        have h5 : (n + m) * i.size + (grownCap w (n + m) cap e - (n + m)) * i.size = grownCap w (n + m) cap e * i.size := by rw [← Nat.add_mul, Nat.add_sub_cancel' hge]
        simp only [Array.size_append, List.size_toArray, size_zeroCells, hzs, hown.1, hl]
        rw [Nat.add_mul] at h5
        omega
      · simp only [Array.toList_append, List.append_assoc, List.drop_zero]
        rw [← List.append_assoc, ← hlen]
        exact List.take_left

/-- At the operation. -/
theorem wp_append_seg {o : Oper} {a : Act} {K : Act → World → Prop} {Q : Exit → Act → World → Prop} (s x : Operand) (t : TypeId)
    (ho : o.op = .call { callee := .builtin .append, args := #[s, x], argTypes := #[t, t] })
    (e : TypeId) (i : TypeInfo) (z : Value) (size bytes : Nat) (ht : P.underlying t = some (.slice e)) (hi : P.info? e = some i) (hz : i.zero = some z)
    (hsize : i.size = size) (hby : i.bytes = bytes) (hzs : z.cells.size = size) (hsz : 0 < size)
    (v : Value) (n : Nat) (xs : List Value) (hs : a.eval s = v) (hown : Seg w e size v n xs)
    (ad : Addr) (m c : Nat) (news : List Value) (hx : a.eval x = .slice (some ad) m c) (hl : news.length = m * size) (hnews : ∀ j u, news[j]? = some u → w.cell? (ad.add j) = some u) (h1 : ∀ u ∈ news, u.oneCell' = true)
    (hm : 0 < m) (h63 : n + m ≤ maxLen) (hbytes : (n + m) * bytes ≤ 140737488355328) (H : Nat) (hH : w.heap.size = H)
    (h : ∀ g off cap w', Seg w' e size (.slice (some ⟨g, off, none⟩) (n + m) cap) (n + m) (xs ++ news) → w.grownBy w' v.ownBlock → (v.ownBlock = some g ∨ g = H) → g < w'.heap.size → K (a.put o.dst (.slice (some ⟨g, off, none⟩) (n + m) cap)) w') : o.wp P a w K Q := by
  obtain ⟨g, off, cap, w', hr, h2, h3, h4, h5⟩ := run_append_seg (P := P) w t o.type e i z size bytes ht hi hz hsize hby hzs hsz v n xs hown ad m c news hl hnews h1 hm h63 hbytes H hH
  unfold Oper.wp execOp
  simp only [ho, resolve, invoke, builtin, Sem.run_bind, Sem.run_pure, Result.andThen_ok, List.map_toArray, List.map_cons, List.map_nil, hs, hx, hr]
  exact h g off cap w' h2 h3 h4 h5

/-- At the list of a plain region's operations. -/
theorem wpList_append_seg {ops : Array Oper} {rest : List Oper} {o : Oper} {a : Act} {Q : Exit → Act → World → Prop} (hgd : o.guard = none) (s x : Operand) (t : TypeId)
    (ho : o.op = .call { callee := .builtin .append, args := #[s, x], argTypes := #[t, t] })
    (e : TypeId) (i : TypeInfo) (z : Value) (size bytes : Nat) (ht : P.underlying t = some (.slice e)) (hi : P.info? e = some i) (hz : i.zero = some z)
    (hsize : i.size = size) (hby : i.bytes = bytes) (hzs : z.cells.size = size) (hsz : 0 < size)
    (v : Value) (n : Nat) (xs : List Value) (hs : a.eval s = v) (hown : Seg w e size v n xs)
    (ad : Addr) (m c : Nat) (news : List Value) (hx : a.eval x = .slice (some ad) m c) (hl : news.length = m * size) (hnews : ∀ j u, news[j]? = some u → w.cell? (ad.add j) = some u) (h1 : ∀ u ∈ news, u.oneCell' = true)
    (hm : 0 < m) (h63 : n + m ≤ maxLen) (hbytes : (n + m) * bytes ≤ 140737488355328) (H : Nat) (hH : w.heap.size = H)
    (h : ∀ g off cap w', Seg w' e size (.slice (some ⟨g, off, none⟩) (n + m) cap) (n + m) (xs ++ news) → w.grownBy w' v.ownBlock → (v.ownBlock = some g ∨ g = H) → g < w'.heap.size → wpList P ops Q rest (a.put o.dst (.slice (some ⟨g, off, none⟩) (n + m) cap)) w') : wpList P ops Q (o :: rest) a w :=
  wpList_plain hgd fun _ hK => wp_append_seg w s x t ho e i z size bytes ht hi hz hsize hby hzs hsz v n xs hs hown ad m c news hx hl hnews h1 hm h63 hbytes H hH fun g off cap w' h2 h3 h4 h5 => hK _ _ (h g off cap w' h2 h3 h4 h5)

/-- At a step of a region that draws its order. -/
theorem step_append_seg {ops : Array Oper} {o : Oper} {a : Act} {K : Act → World → Prop} {Q : Exit → Act → World → Prop} {E : Prop} (hgd : o.guard = none) (s x : Operand) (t : TypeId)
    (ho : o.op = .call { callee := .builtin .append, args := #[s, x], argTypes := #[t, t] })
    (e : TypeId) (i : TypeInfo) (z : Value) (size bytes : Nat) (ht : P.underlying t = some (.slice e)) (hi : P.info? e = some i) (hz : i.zero = some z)
    (hsize : i.size = size) (hby : i.bytes = bytes) (hzs : z.cells.size = size) (hsz : 0 < size)
    (v : Value) (n : Nat) (xs : List Value) (hs : a.eval s = v) (hown : Seg w e size v n xs)
    (ad : Addr) (m c : Nat) (news : List Value) (hx : a.eval x = .slice (some ad) m c) (hl : news.length = m * size) (hnews : ∀ j u, news[j]? = some u → w.cell? (ad.add j) = some u) (h1 : ∀ u ∈ news, u.oneCell' = true)
    (hm : 0 < m) (h63 : n + m ≤ maxLen) (hbytes : (n + m) * bytes ≤ 140737488355328) (H : Nat) (hH : w.heap.size = H)
    (h : ∀ g off cap w', Seg w' e size (.slice (some ⟨g, off, none⟩) (n + m) cap) (n + m) (xs ++ news) → w.grownBy w' v.ownBlock → (v.ownBlock = some g ∨ g = H) → g < w'.heap.size → K (a.put o.dst (.slice (some ⟨g, off, none⟩) (n + m) cap)) w') :
    if Region.wanted o (yielded ops a.tmps) = true then Oper.wp P o a w K Q else E := by
  have hw : Region.wanted o (yielded ops a.tmps) = true := by simp [Region.wanted, hgd]
  rw [if_pos hw]
  exact wp_append_seg w s x t ho e i z size bytes ht hi hz hsize hby hzs hsz v n xs hs hown ad m c news hx hl hnews h1 hm h63 hbytes H hH h
end
end Go.Proofs.Ytbpcfkniflgmfaa
end

section
/- append(s, l...) of two slices that lie anywhere, l may be empty: what comes of it. Of no program. -/
namespace Go.Proofs.Ytbpcfkniflgmfaa
open Go.RowKit

/-- A slice that is not nil. -/
def Thick (v : Value) (n : Nat) : Prop := ∃ g off c, v = .slice (some ⟨g, off, none⟩) n c

theorem own_of {g off n c b : Nat} (h : (Value.slice (some ⟨g, off, none⟩) n c).ownBlock = some b) : g = b := by
  have h' : some g = some b := h
  exact Option.some.inj h'

section
variable {w : World} {e : TypeId} {size n : Nat} {v : Value} {xs : List Value}

theorem Seg.news {g off c : Nat} (h : Seg w e size (.slice (some ⟨g, off, none⟩) n c) n xs) : ∀ j u, xs[j]? = some u → w.cell? ((⟨g, off, none⟩ : Addr).add j) = some u := by
  intro j u hj
  have ha : (⟨g, off, none⟩ : Addr).add j = ⟨g, off + j, none⟩ := by unfold Addr.add; split <;> simp_all
  rw [ha]
  by_cases hn : 0 < n
  · obtain ⟨g', off', c', hv, _, _, _, hc⟩ := h.cells hn
    simp only [Value.slice.injEq, Option.some.injEq, Addr.mk.injEq, and_true, true_and] at hv
    obtain ⟨⟨rfl, rfl⟩, rfl⟩ := hv
    exact hc j u hj
  · obtain rfl : n = 0 := by omega
    have hx : xs = [] := List.eq_nil_of_length_eq_zero (by simpa using h.1)
    rw [hx] at hj
    cases hj

/-- An empty slice that was just made. -/
theorem Seg.empty {g : Nat} (h : w.heap[g]? = some (.cells #[] e (0, 0))) : Seg w e size (.slice (some ⟨g, 0, none⟩) 0 0) 0 [] :=
  ⟨by simp, .inr ⟨g, 0, 0, #[], rfl, h, Nat.le_refl _, Nat.zero_le _, by simp, by simp⟩⟩

theorem Has.made1 (w : World) (o : Obj) (t : TypeId) (cs : Array Value) : Has ((w.alloc o).alloc (.cells cs t)) (w.heap.size + 1) t cs := by
  have h := Has.made (w.alloc o) t cs
  have e : (w.alloc o).heap.size = w.heap.size + 1 := by simp
  rw [e] at h
  exact h
theorem Seg.empty1 (w : World) (o : Obj) (e : TypeId) (size : Nat) : Seg ((w.alloc o).alloc (.cells #[] e)) e size (.slice (some ⟨w.heap.size + 1, 0, none⟩) 0 0) 0 [] :=
  Seg.empty (Has.made1 w o e #[])

/-- A slice that was just made of all that it holds. -/
theorem Seg.whole {g m : Nat} {cs : Array Value} (h : w.heap[g]? = some (.cells cs e (0, 0))) (hl : cs.size = m * size) (hm : m ≤ maxLen) : Seg w e size (.slice (some ⟨g, 0, none⟩) m m) m cs.toList :=
  ⟨by simpa using hl, .inr ⟨g, 0, m, cs, rfl, h, Nat.le_refl _, hm, by omega, by rw [List.drop_zero, ← hl, ← Array.length_toList, List.take_length]⟩⟩
end

section
variable {P : Program} (w : World)

theorem run_append_all (t ty : TypeId) (e : TypeId) (i : TypeInfo) (z : Value) (size bytes : Nat) (ht : P.underlying t = some (.slice e)) (hi : P.info? e = some i) (hz : i.zero = some z)
    (hsize : i.size = size) (hby : i.bytes = bytes) (hzs : z.cells.size = size) (hsz : 0 < size)
    (v : Value) (n : Nat) (xs : List Value) (hown : Seg w e size v n xs) (hv : Thick v n)
    (x : Value) (m : Nat) (news : List Value) (hx : Seg w e size x m news) (hxt : Thick x m) (h1 : ∀ u ∈ news, u.oneCell' = true)
    (h63 : n + m ≤ maxLen) (hbytes : (n + m) * bytes ≤ 140737488355328) :
    ∃ y w', (Builtin.append_ #[t, t] ty #[v, x]).run P w = .ok y w' ∧ Thick y (n + m) ∧
      Seg w' e size y (n + m) (xs ++ news) ∧ w.grownBy w' v.ownBlock ∧ (∀ b, y.ownBlock = some b → v.ownBlock = some b ∨ b = w.heap.size) := by
  obtain ⟨gx, ox, cx, rfl⟩ := hxt
  by_cases hm : 0 < m
  · obtain ⟨g, off, cap, w', hr, h2, h3, h4, h5⟩ := run_append_seg (P := P) w t ty e i z size bytes ht hi hz hsize hby hzs hsz v n xs hown ⟨gx, ox, none⟩ m cx news hx.1 hx.news h1 hm h63 hbytes _ rfl
    refine ⟨_, w', hr, ⟨g, off, cap, rfl⟩, h2, h3, fun b hb => ?_⟩
    injection hb with hb
    subst hb
    exact h4
  · obtain rfl : m = 0 := by omega
    obtain rfl : news = [] := List.eq_nil_of_length_eq_zero (by simpa using hx.1)
    obtain ⟨g, off, c, rfl⟩ := hv
    subst hsize
    rcases hown.2 with ⟨h0, _⟩ | ⟨g', off', cap, cur, h0, hg, hnc, hcm, hcs, htake⟩
    · cases h0
    · simp only [Value.slice.injEq, Option.some.injEq, Addr.mk.injEq, and_true, true_and] at h0
      obtain ⟨⟨rfl, rfl⟩, rfl⟩ := h0
      have hmul : n * i.size ≤ c * i.size := Nat.mul_le_mul_right _ hnc
      have hr := run_append_roomy (P := P) w t ty e i ht hi g off n c cur hg ⟨gx, ox, none⟩ 0 cx [] (by simp) (fun j u hj => by cases hj) (fun u hu => by cases hu) (by omega) (by simp; omega)
      refine ⟨_, _, hr, ⟨g, off, c, rfl⟩, ?_, ⟨rfl, rfl, rfl, by simp, fun k _ hk => setRow_other w g k _ (fun e => hk (by simp [Value.ownBlock, e]))⟩, fun b hb => .inl hb⟩
      have hcur : (cur.toList.take (off + n * i.size) ++ [] ++ cur.toList.drop (off + n * i.size + ([] : List Value).length)).toArray = cur := by
        simp
      rw [hcur]
      refine ⟨by rw [List.append_nil]; simpa using hown.1, .inr ⟨g, off, c, cur, rfl, setRow_heap w g cur _ e _ hg, hnc, hcm, hcs, ?_⟩⟩
      rw [List.append_nil, Nat.add_zero]
      exact htake

/-- At the operation. -/
theorem wp_append_all {o : Oper} {a : Act} {K : Act → World → Prop} {Q : Exit → Act → World → Prop} (s x : Operand) (t : TypeId)
    (ho : o.op = .call { callee := .builtin .append, args := #[s, x], argTypes := #[t, t] })
    (e : TypeId) (i : TypeInfo) (z : Value) (size bytes : Nat) (ht : P.underlying t = some (.slice e)) (hi : P.info? e = some i) (hz : i.zero = some z)
    (hsize : i.size = size) (hby : i.bytes = bytes) (hzs : z.cells.size = size) (hsz : 0 < size)
    (v : Value) (n : Nat) (xs : List Value) (hs : a.eval s = v) (hown : Seg w e size v n xs) (hv : Thick v n)
    (y : Value) (m : Nat) (news : List Value) (hx : a.eval x = y) (hnew : Seg w e size y m news) (hy : Thick y m) (h1 : ∀ u ∈ news, u.oneCell' = true)
    (h63 : n + m ≤ maxLen) (hbytes : (n + m) * bytes ≤ 140737488355328)
    (h : ∀ r w', Thick r (n + m) → Seg w' e size r (n + m) (xs ++ news) → w.grownBy w' v.ownBlock → (∀ b, r.ownBlock = some b → v.ownBlock = some b ∨ b = w.heap.size) → K (a.put o.dst r) w') : o.wp P a w K Q := by
  obtain ⟨r, w', hr, h2, h3, h4, h5⟩ := run_append_all (P := P) w t o.type e i z size bytes ht hi hz hsize hby hzs hsz v n xs hown hv y m news hnew hy h1 h63 hbytes
  unfold Oper.wp execOp
  simp only [ho, resolve, invoke, builtin, Sem.run_bind, Sem.run_pure, Result.andThen_ok, List.map_toArray, List.map_cons, List.map_nil, hs, hx, hr]
  exact h r w' h2 h3 h4 h5

/-- At the list of a plain region's operations. -/
theorem wpList_append_all {ops : Array Oper} {rest : List Oper} {o : Oper} {a : Act} {Q : Exit → Act → World → Prop} (hgd : o.guard = none) (s x : Operand) (t : TypeId)
    (ho : o.op = .call { callee := .builtin .append, args := #[s, x], argTypes := #[t, t] })
    (e : TypeId) (i : TypeInfo) (z : Value) (size bytes : Nat) (ht : P.underlying t = some (.slice e)) (hi : P.info? e = some i) (hz : i.zero = some z)
    (hsize : i.size = size) (hby : i.bytes = bytes) (hzs : z.cells.size = size) (hsz : 0 < size)
    (v : Value) (n : Nat) (xs : List Value) (hs : a.eval s = v) (hown : Seg w e size v n xs) (hv : Thick v n)
    (y : Value) (m : Nat) (news : List Value) (hx : a.eval x = y) (hnew : Seg w e size y m news) (hy : Thick y m) (h1 : ∀ u ∈ news, u.oneCell' = true)
    (h63 : n + m ≤ maxLen) (hbytes : (n + m) * bytes ≤ 140737488355328)
    (h : ∀ r w', Thick r (n + m) → Seg w' e size r (n + m) (xs ++ news) → w.grownBy w' v.ownBlock → (∀ b, r.ownBlock = some b → v.ownBlock = some b ∨ b = w.heap.size) → wpList P ops Q rest (a.put o.dst r) w') : wpList P ops Q (o :: rest) a w :=
  wpList_plain hgd fun _ hK => wp_append_all w s x t ho e i z size bytes ht hi hz hsize hby hzs hsz v n xs hs hown hv y m news hx hnew hy h1 h63 hbytes fun r w' h2 h3 h4 h5 => hK _ _ (h r w' h2 h3 h4 h5)

/-- At a step of a region that draws its order. -/
theorem step_append_all {ops : Array Oper} {o : Oper} {a : Act} {K : Act → World → Prop} {Q : Exit → Act → World → Prop} {E : Prop} (hgd : o.guard = none) (s x : Operand) (t : TypeId)
    (ho : o.op = .call { callee := .builtin .append, args := #[s, x], argTypes := #[t, t] })
    (e : TypeId) (i : TypeInfo) (z : Value) (size bytes : Nat) (ht : P.underlying t = some (.slice e)) (hi : P.info? e = some i) (hz : i.zero = some z)
    (hsize : i.size = size) (hby : i.bytes = bytes) (hzs : z.cells.size = size) (hsz : 0 < size)
    (v : Value) (n : Nat) (xs : List Value) (hs : a.eval s = v) (hown : Seg w e size v n xs) (hv : Thick v n)
    (y : Value) (m : Nat) (news : List Value) (hx : a.eval x = y) (hnew : Seg w e size y m news) (hy : Thick y m) (h1 : ∀ u ∈ news, u.oneCell' = true)
    (h63 : n + m ≤ maxLen) (hbytes : (n + m) * bytes ≤ 140737488355328)
    (h : ∀ r w', Thick r (n + m) → Seg w' e size r (n + m) (xs ++ news) → w.grownBy w' v.ownBlock → (∀ b, r.ownBlock = some b → v.ownBlock = some b ∨ b = w.heap.size) → K (a.put o.dst r) w') :
    if Region.wanted o (yielded ops a.tmps) = true then Oper.wp P o a w K Q else E := by
  have hw : Region.wanted o (yielded ops a.tmps) = true := by simp [Region.wanted, hgd]
  rw [if_pos hw]
  exact wp_append_all w s x t ho e i z size bytes ht hi hz hsize hby hzs hsz v n xs hs hown hv y m news hx hnew hy h1 h63 hbytes h
end
end Go.Proofs.Ytbpcfkniflgmfaa
end

