/- A slice that is made of one whole value. Of no program. -/
import Derived.Test.YtdoadmkaoboncaaGreatDoorRow
import Derived.Great.BuildSlice
namespace Go.Proofs.YtdoadmkaoboncaaGreatDoor
open Go.RowKit

theorem fold_get : ∀ (l : List Value) (k : Nat) (base : Array Value) (j : Nat), k + l.length ≤ base.size →
    ((l.zipIdx k).foldl (fun (a : Array Value) p => a.setIfInBounds (0 + p.2) p.1) base)[j]? = if k ≤ j ∧ j < k + l.length then l[j - k]? else base[j]?
  | [], k, base, j, _ => by
    simp only [List.zipIdx_nil, List.foldl_nil, List.length_nil, Nat.add_zero]
    rw [if_neg (by omega)]
  | x :: l, k, base, j, h => by
    rw [List.zipIdx_cons, List.foldl_cons, fold_get l (k + 1) _ j (by simp at h ⊢; omega)]
    simp only [List.length_cons, Nat.zero_add] at h ⊢
    by_cases h1 : k + 1 ≤ j ∧ j < k + 1 + l.length
    · rw [if_pos h1, if_pos (by omega), show j - k = (j - (k + 1)) + 1 by omega, List.getElem?_cons_succ]
    · rw [if_neg h1, Array.getElem?_setIfInBounds]
      by_cases h2 : k = j
      · subst h2
        rw [if_pos rfl, if_pos (by omega), if_pos (by omega), Nat.sub_self, List.getElem?_cons_zero]
      · rw [if_neg h2, if_neg (by omega)]
theorem fold_all (cs base : Array Value) (h : base.size = cs.size) : cs.zipIdx.foldl (fun (a : Array Value) p => a.setIfInBounds (0 + p.2) p.1) base = cs := by
  apply Array.ext_getElem?
  intro j
  have e := fold_get cs.toList 0 base j (by simp [h])
  have e2 : cs.zipIdx.foldl (fun (a : Array Value) p => a.setIfInBounds (0 + p.2) p.1) base = (cs.toList.zipIdx 0).foldl (fun (a : Array Value) p => a.setIfInBounds (0 + p.2) p.1) base := by
    rw [← Array.foldl_toList, Array.toList_zipIdx]
  rw [e2, e]
  by_cases hj : j < cs.size
  · rw [if_pos (by simp; omega)]
    simp
  · rw [if_neg (by simp; omega), Array.getElem?_eq_none (by omega), Array.getElem?_eq_none (by omega)]

section
variable {P : Program}
theorem fill_one (size : Nat) (z : Array Value) (cs : Array Value) (hs : size = cs.size) :
    Instr.fill (fun i => some (i * size, size)) ((Array.range (1 * size)).map (z[· % z.size]!)) [(0, Value.agg cs)] = some cs := by
  have hf := fold_all cs ((Array.range (1 * size)).map (z[· % z.size]!)) (by simp [hs])
  subst hs
  unfold Instr.fill
  have e : ¬ ((Value.agg cs).cells.size ≠ cs.size || 0 * cs.size + (Value.agg cs).cells.size > ((Array.range (1 * cs.size)).map (z[· % z.size]!)).size) = true := by simp [Value.cells]
  simp only [e]
  unfold Instr.fill
  simp only [Bool.false_eq_true, if_false, Nat.zero_mul]
  exact congrArg some hf
theorem run_build_one (t e : TypeId) (i : TypeInfo) (z : Value) (ht : P.underlying t = some (.slice e)) (hi : P.info? e = some i) (hz : i.zero = some z) (cs : Array Value) (hs : i.size = cs.size) (h0 : 0 < cs.size) (hb : cs.size ≤ 16777216) (w : World) :
    (Instr.buildSlice t 1 #[(0, .agg cs)]).run P w = .ok (.slice (some ⟨w.heap.size, 0, none⟩) 1 1) (w.alloc (.cells cs e)) :=
  run_buildSlice w t e 1 _ cs i z ht hi hz (by rw [hs]; omega) (by omega) (fill_one i.size z.cells cs hs)

/-- A slice of one whole value is made: its block, in a world that is a letter. -/
theorem wp_build_one {o : Oper} {a : Act} {w : World} {K : Act → World → Prop} {Q : Exit → Act → World → Prop} (t e : TypeId) (y : Operand) (ho : o.op = .buildSlice t 1 #[(0, y)])
    (i : TypeInfo) (z : Value) (ht : P.underlying t = some (.slice e)) (hi : P.info? e = some i) (hz : i.zero = some z) (cs : Array Value) (hy : a.eval y = .agg cs) (hs : i.size = cs.size) (h0 : 0 < cs.size) (hb : cs.size ≤ 16777216)
    (H : Nat) (hH : w.heap.size = H)
    (h : ∀ W, Has W H e cs → Below w.heap.size w W → K (a.put o.dst (.slice (some ⟨H, 0, none⟩) 1 1)) W) : o.wp P a w K Q := by
  subst hH
  have hr := run_build_one (P := P) t e i z ht hi hz cs hs h0 hb w
  have he : (#[(0, y)] : Array (Nat × Operand)).map (fun (i, x) => (i, a.eval x)) = #[(0, Value.agg cs)] := by simp [hy]
  unfold Oper.wp execOp
  simp only [ho, he, Sem.run_bind, hr, Result.andThen_ok]
  exact h _ (Has.made w e cs) ((Below.refl _ _).alloc (Nat.le_refl _) _)
theorem wpList_build_one {ops : Array Oper} {rest : List Oper} {o : Oper} {a : Act} {w : World} {Q : Exit → Act → World → Prop} (hg : o.guard = none) (t e : TypeId) (y : Operand) (ho : o.op = .buildSlice t 1 #[(0, y)])
    (i : TypeInfo) (z : Value) (ht : P.underlying t = some (.slice e)) (hi : P.info? e = some i) (hz : i.zero = some z) (cs : Array Value) (hy : a.eval y = .agg cs) (hs : i.size = cs.size) (h0 : 0 < cs.size) (hb : cs.size ≤ 16777216)
    (H : Nat) (hH : w.heap.size = H)
    (h : ∀ W, Has W H e cs → Below w.heap.size w W → wpList P ops Q rest (a.put o.dst (.slice (some ⟨H, 0, none⟩) 1 1)) W) : wpList P ops Q (o :: rest) a w :=
  wpList_plain hg fun _ hK => wp_build_one t e y ho i z ht hi hz cs hy hs h0 hb H hH fun W h1 h2 => hK _ _ (h W h1 h2)

/-- Results: a whole row out of its cell, and a plain one. -/
theorem results_cell_tmp {fn : Func} {p q : Tmp} {ty : TypeId} (h : fn.results = #[.cell p ty, .tmp q]) (tmps : Array Value) (w : World) (g : Nat) (t : TypeId) (cs : Array Value) (fr : Nat × Nat) (d : TypeDesc)
    (hp : tmps.getD p undef = .pointer (some ⟨g, 0, none⟩)) (hg : w.heap[g]? = some (.cells cs t fr))
    (hu : P.underlying ty = some d) (hd : (match d with | .struct _ | .array _ _ => true | _ => false) = true) (hi : (P.info? ty).map (·.size) = some cs.size) (v : Value) (hq : tmps.getD q undef = v) :
    (results fn tmps).run P w = .ok (.tuple #[.agg cs, v]) w := by
  have hp' : tmps[p]?.getD undef = .pointer (some ⟨g, 0, none⟩) := by simpa using hp
  have hq' : tmps[q]?.getD undef = v := by simpa using hq
  simp [results, h, hp', hq', asAddr, run_loadVar_row w g t ty cs fr d hg hu hd hi]
end
end Go.Proofs.YtdoadmkaoboncaaGreatDoor
