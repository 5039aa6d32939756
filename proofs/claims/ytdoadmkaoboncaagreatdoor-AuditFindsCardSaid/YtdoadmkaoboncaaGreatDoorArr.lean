/- Arrays of bytes in memory: a block that is known whole, what copies and stores of a whole array make of it. -/
import Derived.Test.YtdoadmkaoboncaaGreatDoorBase
import Derived.Laws.CopyOwn
import Derived.ChangeKeysEq
import Derived.Deep.MidRow
namespace Go.Proofs.YtdoadmkaoboncaaGreatDoor
open Go.RowKit

def byteV (c : UInt8) : Value := .int .u8 (c.toNat : Nat)

/-- The cells of bytes. -/
def cellsOf (xs : List UInt8) : Array Value := (xs.map byteV).toArray

theorem cellsOf_size (xs : List UInt8) : (cellsOf xs).size = xs.length := by simp [cellsOf]
theorem cellsOf_one (xs : List UInt8) : (cellsOf xs).all (·.oneCell') = true := by
  rw [Array.all_eq_true_iff_forall_mem]
  intro v hv
  simp [cellsOf] at hv
  obtain ⟨c, _, rfl⟩ := hv
  rfl

/-- Bytes laid over others from the first on: what copy makes of an array. -/
def over (old s : List UInt8) : List UInt8 := s.take old.length ++ old.drop s.length

theorem over_length (old s : List UInt8) : (over old s).length = old.length := by
  unfold over
  simp
  omega

section
variable {P : Program}

theorem take_min (l : List UInt8) (k : Nat) : l.take (min l.length k) = l.take k := by
  rcases Nat.le_total l.length k with h | h
  · rw [Nat.min_eq_left h, List.take_of_length_le (Nat.le_refl _), List.take_of_length_le h]
  · rw [Nat.min_eq_right h]

theorem byteV_one (l : List UInt8) : ∀ v ∈ l.map byteV, v.oneCell' = true := by
  intro v hv
  obtain ⟨c, _, rfl⟩ := List.mem_map.1 hv
  rfl

theorem run_copy_str (w : World) (dT sT ty elem : TypeId) (g dCap : Nat) (s : ByteArray) (old : List UInt8) (t : TypeId)
    (hu : P.underlying dT = some (.slice elem)) (hs : (P.info? elem).map (·.size) = some 1)
    (hg : Has w g t (cellsOf old)) :
    (Builtin.copy_ #[dT, sT] ty #[.slice (some ⟨g, 0, none⟩) old.length dCap, .string s]).run P w =
      .ok (goInt ((min s.size old.length : Nat) : Int)) (w.setRow g (cellsOf (over old s.data.toList))) := by
  have hz : s.size = s.data.toList.length := by simp
  have hst := run_storeCells_at P g 0 t ((s.data.toList.take old.length).map byteV) 0 (cellsOf old) w hg (by simp [cellsOf]; exact Nat.min_le_left _ _) (byteV_one _)
  have hcells : ((s.extract 0 (min s.size old.length)).data.map fun b => Value.int .u8 (b.toNat : Nat)).toList = (s.data.toList.take old.length).map byteV := by
    rw [← take_min, ← hz]
    simp only [ByteArray.data_extract, Array.toList_map, Array.toList_extract, List.extract_eq_take_drop, List.drop_zero, Nat.sub_zero]
    rfl
  have hrow : (List.take (0 + 0) (cellsOf old).toList ++ (s.data.toList.take old.length).map byteV ++ List.drop (0 + 0 + ((s.data.toList.take old.length).map byteV).length) (cellsOf old).toList).toArray = cellsOf (over old s.data.toList) := by
    unfold cellsOf over
    simp only [Nat.add_zero, Nat.zero_add, List.take_zero, List.nil_append, List.length_map, List.length_take, List.map_append, List.map_take, List.map_drop]
    congr 1
    congr 1
    rcases Nat.le_total s.data.toList.length old.length with h | h
    · rw [Nat.min_eq_right h]
    · rw [Nat.min_eq_left h, List.drop_of_length_le (by simp), List.drop_of_length_le (by simpa using h)]
  rw [hrow] at hst
  cases hq : P.info? elem with
  | none => simp [hq] at hs
  | some i =>
    have hi : i.size = 1 := by simpa [hq] using hs
    simp only [Builtin.copy_]
    simp [run_underlying hu, Builtin.lenOf, Builtin.firstCells, sizeOf, typeInfo, hq, -ByteArray.data_extract, -Array.toList_map, -Array.toList_extract, -Array.map_extract]
    have e : s.size.min old.length = min s.size old.length := rfl
    rw [e, hcells, hst]
    simp [Result.andThen]

theorem Has.row {w : World} {g : Nat} {t : TypeId} {old : Array Value} (h : Has w g t old) (cs : Array Value) : Has (w.setRow g cs) g t cs := setRow_heap w g old cs t (0, 0) h
theorem Turn.row {F : Nat → Prop} {w w' : World} (h : Turn F w w') {g : Nat} (hg : g < w.heap.size → F g) (cs : Array Value) : Turn F w (w'.setRow g cs) :=
  ⟨h.os, h.tape, h.output, by simpa using h.size, fun k hk hne => (setRow_other w' g k cs (by rintro rfl; exact hne (hg hk))).trans (h.block k hk hne)⟩

theorem turn_row (w : World) (g : Nat) (cs : Array Value) : Turn (fun k => k = g) w (w.setRow g cs) := Turn.row (F := fun k => k = g) (Turn.refl _ _) (fun _ => rfl) _

/-- copy of a string into an array's head: the array's cells behind it, in a world that is a letter. -/
theorem wpList_copy_str {w : World} {ops : Array Oper} {rest : List Oper} {o : Oper} {a : Act} {Q : Exit → Act → World → Prop} (hgd : o.guard = none) (d x : Operand) (dT sT : TypeId)
    (ho : o.op = .call { callee := .builtin .copy, args := #[d, x], argTypes := #[dT, sT] }) (elem : TypeId) (hu : P.underlying dT = some (.slice elem)) (hsz : (P.info? elem).map (·.size) = some 1)
    (g dCap : Nat) (s : ByteArray) (old : List UInt8) (hd : a.eval d = .slice (some ⟨g, 0, none⟩) old.length dCap) (hs : a.eval x = .string s)
    (t : TypeId) (hg : Has w g t (cellsOf old))
    (h : ∀ w', Has w' g t (cellsOf (over old s.data.toList)) → Turn (fun k => k = g) w w' → wpList P ops Q rest (a.put o.dst (goInt ((min s.size old.length : Nat) : Int))) w') : wpList P ops Q (o :: rest) a w := by
  refine wpList_plain hgd fun K hK => ?_
  have hrun := run_copy_str (P := P) w dT sT o.type elem g dCap s old t hu hsz hg
  unfold Oper.wp
  simp [execOp, ho, resolve, invoke, builtin, hd, hs, hrun, Result.andThen]
  exact hK _ _ (by have := h _ (hg.row _) (turn_row _ _ _); simpa using this)

/-- The same as one step of a region that draws its order. -/
theorem step_copy_str {w : World} {ops : Array Oper} {o : Oper} {a : Act} {K : Act → World → Prop} {Q : Exit → Act → World → Prop} {E : Prop} (hgd : o.guard = none) (d x : Operand) (dT sT : TypeId)
    (ho : o.op = .call { callee := .builtin .copy, args := #[d, x], argTypes := #[dT, sT] }) (elem : TypeId) (hu : P.underlying dT = some (.slice elem)) (hsz : (P.info? elem).map (·.size) = some 1)
    (g dCap : Nat) (s : ByteArray) (old : List UInt8) (hd : a.eval d = .slice (some ⟨g, 0, none⟩) old.length dCap) (hs : a.eval x = .string s)
    (t : TypeId) (hg : Has w g t (cellsOf old))
    (h : ∀ w', Has w' g t (cellsOf (over old s.data.toList)) → Turn (fun k => k = g) w w' → K (a.put o.dst (goInt ((min s.size old.length : Nat) : Int))) w') :
    if Region.wanted o (yielded ops a.tmps) = true then Oper.wp P o a w K Q else E := by
  have hw : Region.wanted o (yielded ops a.tmps) = true := by simp [Region.wanted, hgd]
  rw [if_pos hw]
  have hrun := run_copy_str (P := P) w dT sT o.type elem g dCap s old t hu hsz hg
  unfold Oper.wp
  simp [execOp, ho, resolve, invoke, builtin, hd, hs, hrun, Result.andThen]
  exact h _ (hg.row _) (turn_row _ _ _)

/-- A whole array is stored: its block behind it, in a world that is a letter. -/
theorem wpList_store_arr {w : World} {ops : Array Oper} {rest : List Oper} {o : Oper} {a : Act} {Q : Exit → Act → World → Prop} (hgd : o.guard = none) (ty : TypeId) (x y : Operand) (ho : o.op = .store ty x y)
    (g : Nat) (xs old : List UInt8) (hx : a.eval x = .pointer (some ⟨g, 0, none⟩)) (hy : a.eval y = .agg (cellsOf xs))
    (t : TypeId) (hg : Has w g t (cellsOf old)) (n : Nat) (hi : (P.info? ty).map (·.size) = some n) (hn : old.length = n) (hl : xs.length = n)
    (h : ∀ w', Has w' g t (cellsOf xs) → Turn (fun k => k = g) w w' → wpList P ops Q rest (a.put o.dst undef) w') : wpList P ops Q (o :: rest) a w :=
  wpList_store_row hgd ty x y ho g (cellsOf xs) hx hy t (cellsOf old) hg (by rw [hi, cellsOf_size, hl]) (by rw [cellsOf_size, cellsOf_size, hl, hn]) (cellsOf_one xs)
    (h _ (hg.row _) (turn_row _ _ _))

/-- A whole array is loaded. -/
theorem wpList_load_arr {w : World} {ops : Array Oper} {rest : List Oper} {o : Oper} {a : Act} {Q : Exit → Act → World → Prop} (hgd : o.guard = none) (ty : TypeId) (x : Operand) (ho : o.op = .load ty x)
    (g : Nat) (hx : a.eval x = .pointer (some ⟨g, 0, none⟩)) (t : TypeId) (xs : List UInt8) (e : TypeId) (n : Nat) (hg : Has w g t (cellsOf xs))
    (hu : P.underlying ty = some (.array n e)) (hi : (P.info? ty).map (·.size) = some n) (hl : xs.length = n)
    (h : wpList P ops Q rest (a.put o.dst (.agg (cellsOf xs))) w) : wpList P ops Q (o :: rest) a w :=
  wpList_load_row hgd ty x ho g hx t (cellsOf xs) (0, 0) _ hg hu rfl (by rw [hi, cellsOf_size, hl]) h

theorem Has.range {w : World} {g : Nat} {t : TypeId} {cs : List Value} (h : Has w g t cs.toArray) : w.rangeAt g 0 cs := fun j v hj => by
  rw [Nat.zero_add, h.cell j]
  simpa using hj

theorem cells_at (xs : List UInt8) (i : Nat) (c : UInt8) (h : xs[i]? = some c) : (cellsOf xs)[i]? = some (byteV c) := by
  simp [cellsOf, h]

theorem run_eqItems_bytes (d : Nat) {e : TypeId} (hu : P.underlying e = some (.int .u8)) (xs ys : List UInt8) (w : World) : ∀ is : List Nat, (∀ i ∈ is, i < xs.length ∧ i < ys.length) →
    (Op.eqItems (d + 1) e 1 (cellsOf xs) (cellsOf ys) is).run P w = .ok (is.all fun i => xs[i]? == ys[i]?) w
  | [], _ => by simp [Op.eqItems]
  | i :: is, h => by
    obtain ⟨hx, hy⟩ := h i (by simp)
    have ih := run_eqItems_bytes d hu xs ys w is (fun j hj => h j (by simp [hj]))
    have hk : P.plainKey e = true := by unfold Program.plainKey; simp [hu]
    have p1 := run_part_plain (P := P) w hk (cells_at xs i _ (List.getElem?_eq_getElem hx))
    have p2 := run_part_plain (P := P) w hk (cells_at ys i _ (List.getElem?_eq_getElem hy))
    have p3 : (Op.equalIn (d + 1) e (byteV xs[i]) (byteV ys[i])).run P w = .ok (xs[i] == ys[i]) w := by
      have e1 : ((xs[i].toNat : Int) == (ys[i].toNat : Int)) = (xs[i] == ys[i]) := by
        rw [Bool.eq_iff_iff, beq_iff_eq, beq_iff_eq]
        constructor
        · intro h
          exact UInt8.toNat_inj.1 (by omega)
        · intro h
          rw [h]
      rw [← e1]
      exact run_equalIn_int w d e .u8 .u8 _ _ hu
    simp only [Op.eqItems, Nat.mul_one, Sem.run_bind, p1, p2, p3, Result.andThen_ok]
    rw [List.all_cons, List.getElem?_eq_getElem hx, List.getElem?_eq_getElem hy]
    cases hc : (xs[i] == ys[i])
    · have : (some xs[i] == some ys[i]) = false := by simpa using hc
      rw [this]
      simp
    · have : (some xs[i] == some ys[i]) = true := by simpa using hc
      rw [this]
      simpa using ih

/-- Two arrays of bytes are the same just if their bytes are. -/
theorem run_equalIn_bytes (d : Nat) {t e : TypeId} (n : Nat) (hu : P.underlying t = some (.array n e)) (he : P.underlying e = some (.int .u8)) (hs : (P.info? e).map (·.size) = some 1) (xs ys : List UInt8) (hx : xs.length = n) (hy : ys.length = n) (w : World) :
    (Op.equalIn (d + 2) t (.agg (cellsOf xs)) (.agg (cellsOf ys))).run P w = .ok (xs == ys) w := by
  cases hi : P.info? e with
  | none => simp [hi] at hs
  | some i =>
    have hc : P.cellsOf e = 1 := by simp [hi] at hs; simp [Program.cellsOf, hi, hs]
    rw [run_equalIn_array w (d + 1) (cellsOf xs) (cellsOf ys) hu hi, hc, run_eqItems_bytes d he xs ys w _ (fun i hi => by have := List.mem_range.1 hi; omega)]
    congr 1
    rw [Bool.eq_iff_iff, List.all_eq_true, beq_iff_eq]
    constructor
    · intro h
      apply List.ext_getElem?
      intro j
      by_cases hj : j < n
      · exact beq_iff_eq.1 (h j (List.mem_range.2 hj))
      · rw [List.getElem?_eq_none (by omega), List.getElem?_eq_none (by omega)]
    · intro h j _
      rw [h]
      simp

end
end Go.Proofs.YtdoadmkaoboncaaGreatDoor
