/- Texts laid into one: TwsA, TwsB. -/
import Derived.Test.YtcdedkgkingbdaaGreatDoorQ034
import Derived.Laws.MakeOwn
import Derived.Lib.ItoaWalk
import Derived.Laws.ResultCell
section
/- tower over string: a list in memory; what a search is asked; New, Len. -/
namespace Go.Proofs.YtcdedkgkingbdaaGreatDoor.tws
open Go Go.RowKit Go.Proofs.YtcdedkgkingbdaaGreatDoor.tow

abbrev N := Nd ByteArray

/-- The list at b: its head, its nodes. -/
structure Sk (w : World) (b : Nat) (hd : N) (ns : List N) : Prop where
  list : Has w b 183 #[.pointer (some ⟨hd.g, 0, none⟩), .int .i64 ns.length]
  lay : Lay w 181 178 Value.string (fun _ => []) (hd :: ns)
  rs : ((hd :: ns).map (·.r)).Nodup
  gs : ((hd :: ns).map (·.g)).Nodup
  hk : hd.k = 10
  h0 : hd.a = 0 ∧ hd.v = (⟨#[]⟩ : ByteArray)
  ks : ∀ x ∈ ns, x.k = hgt x.a
  up : ns.Pairwise (fun x y => x.a < y.a)
  num : ∀ x ∈ ns, -9223372036854775808 ≤ x.a ∧ x.a ≤ 9223372036854775807

/-- Its blocks. -/
def Foot (b : Nat) (hd : N) (ns : List N) (k : Nat) : Prop := k = b ∨ ∃ x ∈ hd :: ns, k = x.g ∨ k = x.r

section
variable {w w' : World} {b : Nat} {hd : N} {ns : List N}

theorem Sk.turn {F : Nat → Prop} (h : Sk w b hd ns) (t : Turn F w w') (hF : ∀ k, Foot b hd ns k → ¬ F k) : Sk w' b hd ns :=
  ⟨h.list.turn t (hF b (.inl rfl)), h.lay.turn t (fun x hx => ⟨hF _ (.inr ⟨x, hx, .inl rfl⟩), hF _ (.inr ⟨x, hx, .inr rfl⟩)⟩), h.rs, h.gs, h.hk, h.h0, h.ks, h.up, h.num⟩
theorem Sk.foot_lt (h : Sk w b hd ns) {k : Nat} (hk : Foot b hd ns k) : k < w.heap.size := by
  rcases hk with rfl | ⟨x, hx, rfl | rfl⟩
  · exact h.list.lt
  · exact (h.lay.mem hx).1
  · exact (h.lay.mem hx).2
theorem Sk.below (h : Sk w b hd ns) (t : Below w.heap.size w w') : Sk w' b hd ns :=
  h.turn (Turn.of_below (F := fun k => w.heap.size ≤ k) t (fun _ _ h => h)) (fun k hk e => by have := h.foot_lt hk; omega)
theorem Sk.drew (h : Sk w b hd ns) : Sk w.drew b hd ns := ⟨h.list, h.lay.turn (F := fun _ => False) ((Turn.refl _ _).drew) (fun _ _ => ⟨id, id⟩), h.rs, h.gs, h.hk, h.h0, h.ks, h.up, h.num⟩
theorem Sk.drewN (h : Sk w b hd ns) (n : Nat) : Sk (w.drewN n) b hd ns := ⟨h.list, h.lay.turn (F := fun _ => False) ((Turn.refl _ _).drewN n) (fun _ _ => ⟨id, id⟩), h.rs, h.gs, h.hk, h.h0, h.ks, h.up, h.num⟩
theorem Sk.kpos (h : Sk w b hd ns) : ∀ x ∈ ns, 0 < x.k := fun x hx => by rw [h.ks x hx]; exact (hgt_bounds _).1
theorem Sk.kle (h : Sk w b hd ns) : ∀ x ∈ hd :: ns, x.k ≤ 10 := fun x hx => by
  rcases List.mem_cons.1 hx with rfl | hx
  · rw [h.hk]; exact Nat.le_refl _
  · rw [h.ks x hx]; exact (hgt_bounds _).2
theorem Sk.at_ {A B X M : List N} {c : N} (h : Sk w b hd (A ++ B)) (e : hd :: A = X ++ c :: M) :
    Has w c.g 181 #[.int .i64 c.a, .string c.v, .slice (some ⟨c.r, 0, none⟩) c.k c.k] ∧ Has w c.r 178 (rowT c.k (M ++ B) (fun _ => [])) := by
  have h1 := h.lay
  rw [← List.cons_append, e, List.append_assoc, List.cons_append] at h1
  exact h1.at_
end

section
variable {w : World} {b : Nat} {hd : N} {ns : List N}
theorem Sk.node (h : Sk w b hd ns) {x : N} (hx : x ∈ hd :: ns) : ∃ cs, Has w x.g 181 #[.int .i64 x.a, .string x.v, .slice (some ⟨x.r, 0, none⟩) x.k x.k] ∧ Has w x.r 178 cs := by
  obtain ⟨X, Y, e⟩ := List.append_of_mem hx
  have h1 := h.lay
  rw [e] at h1
  exact ⟨_, h1.at_⟩
end

theorem ptrInfo : (Tryz.prog.info? 178).map (fun i => (i.zero, i.size, i.bytes)) = some (some (.pointer none), 1, 8) := by kernel_rfl
set_option maxRecDepth 100000 in
/-- A tower that points at nothing. -/
theorem make_row (k : Nat) (hk : k ≤ 10) (W : World) :
    (Instr.makeSlice 179 (.int .i64 (k : Int)) (.int .i64 (k : Int))).run Tryz.prog W = .ok (.slice (some ⟨W.heap.size, 0, none⟩) k k) (W.alloc (.cells (rowT k ([] : List N) (fun _ => [])) 178)) := by
  obtain ⟨i, hi, e⟩ := Option.map_eq_some_iff.1 ptrInfo
  simp only [Prod.mk.injEq] at e
  obtain ⟨e1, e2, e3⟩ := e
  have h := run_make (P := Tryz.prog) W 179 178 i (.pointer none) Tryz.underlying179 hi e1 .i64 .i64 (k : Int) (k : Int) (by omega) (by omega) (by rw [e3]; omega) (by omega)
  simp only [Int.toNat_natCast, e2, Nat.mul_one] at h
  rw [h]
  congr 3
  apply Array.ext_getElem?
  intro j
  unfold madeCells
  by_cases hj : j < k
  · rw [rowT_at hj]
    simp [hj, Value.cells, nx, ptrV, Nat.mod_one]
  · rw [Array.getElem?_eq_none (by simp; omega), Array.getElem?_eq_none (by rw [rowT_size]; omega)]

theorem node_ptr : (181 : Nat) ≠ 178 ∧ (183 : Nat) ≠ 181 ∧ (183 : Nat) ≠ 178 := by decide

set_option maxRecDepth 100000 in
set_option maxHeartbeats 1000000 in
theorem new_calls (w : World) :
    Calls Tryz.prog 40 #[] w fun en w' => ∃ b hd, en = .returned (.pointer (some ⟨b, 0, none⟩)) ∧ Sk w' b hd [] ∧ (∀ k, Foot b hd [] k → w.heap.size ≤ k) ∧ Below w.heap.size w w' := by
  have hmk : (Instr.makeSlice 179 (.int .i64 10) (.int .i64 10)).run Tryz.prog w = .ok (.slice (some ⟨w.heap.size, 0, none⟩) 10 10) (w.alloc (.cells (rowT 10 ([] : List N) (fun _ => [])) 178)) := make_row 10 (by decide) w
  obtain ⟨R, hR⟩ : ∃ R, R = rowT 10 ([] : List N) (fun _ => []) := ⟨_, rfl⟩
  rw [← hR] at hmk
  have HR := Lib.hid hR
  clear hR
  go_enter Tryz.func40, Tryz.ntmps40
  go_wp2_with fail
  go_ret
  have B1 : Below w.heap.size w (w.alloc (.cells R 178)) := (Below.refl _ _).alloc (Nat.le_refl _) _
  have h1 : Has (w.alloc (.cells R 178)) w.heap.size 178 R := made_at _ _ rfl
  refine ⟨w.heap.size + 1 + 1, ⟨0, (⟨#[]⟩ : ByteArray), 10, w.heap.size + 1, w.heap.size⟩, rfl, ⟨made_at _ _ (by simp), ⟨?_, ?_, trivial⟩, by simp, by simp, rfl, ⟨rfl, rfl⟩, by simp, by simp, by simp⟩, ?_, ?_⟩
  · exact (made_at _ _ (by simp)).alloc _
  · rw [HR.out] at h1 ⊢
    exact (h1.alloc _).alloc _
  · intro k hk
    rcases hk with rfl | ⟨x, hx, rfl | rfl⟩
    · omega
    · rw [List.mem_singleton.1 hx]; show _ ≤ w.heap.size + 1; omega
    · rw [List.mem_singleton.1 hx]; exact Nat.le_refl _
  · exact (B1.alloc (by simp) _).alloc (by simp; omega) _

/-- What a search is asked: is a version below one? is it not above one? -/
theorem clos_put (x c : Int) (p : Nat) (w : World) (h : Has w p 3 #[.int .i64 c]) : Calls Tryz.prog 90 #[.int .i64 x, .pointer (some ⟨p, 0, none⟩)] w fun en w' => en = .returned (.bool (decide (x < c))) ∧ w = w' := by
  have c0 := h.one.1
  clear h
  go_enter Tryz.func90, Tryz.ntmps90
  go_wp2_with fail
  go_ret
  exact ⟨rfl, rfl⟩
theorem clos_cut (x c : Int) (p : Nat) (w : World) (h : Has w p 3 #[.int .i64 c]) : Calls Tryz.prog 104 #[.int .i64 x, .pointer (some ⟨p, 0, none⟩)] w fun en w' => en = .returned (.bool (decide (x < c))) ∧ w = w' := by
  have c0 := h.one.1
  clear h
  go_enter Tryz.func104, Tryz.ntmps104
  go_wp2_with fail
  go_ret
  exact ⟨rfl, rfl⟩
theorem clos_floor (x c : Int) (p : Nat) (w : World) (h : Has w p 3 #[.int .i64 c]) : Calls Tryz.prog 109 #[.int .i64 x, .pointer (some ⟨p, 0, none⟩)] w fun en w' => en = .returned (.bool (decide (x ≤ c))) ∧ w = w' := by
  have c0 := h.one.1
  clear h
  go_enter Tryz.func109, Tryz.ntmps109
  go_wp2_with fail
  go_ret
  exact ⟨rfl, rfl⟩
end Go.Proofs.YtcdedkgkingbdaaGreatDoor.tws
end

section
/- tower over string: a search. -/
namespace Go.Proofs.YtcdedkgkingbdaaGreatDoor.tws
open Go Go.RowKit Go.Proofs.YtcdedkgkingbdaaGreatDoor.tow

/-- What a search answers: whose tower ends on each level. -/
def endsC (G : Nat → Nat) (j : Nat) : Array Value := ((List.range 10).map fun h => if j ≤ h then ptrV (some (G h)) else ptrV none).toArray
theorem endsC_size (G : Nat → Nat) (j : Nat) : (endsC G j).size = 10 := by simp [endsC]
theorem endsC_one (G : Nat → Nat) (j : Nat) : (endsC G j).all (·.oneCell') = true := by
  rw [Array.all_eq_true_iff_forall_mem]
  intro v hv
  simp only [endsC, List.mem_toArray, List.mem_map] at hv
  obtain ⟨h, _, rfl⟩ := hv
  split <;> rfl
theorem endsC_set (G : Nat → Nat) (j g : Nat) (hj : j < 10) : (endsC G (j + 1)).setIfInBounds j (ptrV (some g)) = endsC (fun h => if h = j then g else G h) j := by
  apply Array.ext_getElem?
  intro i
  rw [Array.getElem?_setIfInBounds, endsC_size]
  by_cases hi : i < 10
  · have e : ∀ G k, (endsC G k)[i]? = some (if k ≤ i then ptrV (some (G i)) else ptrV none) := fun G k => by simp [endsC, hi]
    rw [e, e]
    by_cases hij : j = i
    · subst hij
      rw [if_pos rfl, if_pos hi, if_pos (Nat.le_refl _), if_pos rfl]
    · rw [if_neg hij]
      by_cases h1 : j + 1 ≤ i
      · rw [if_pos h1, if_pos (by omega), if_neg (fun e => hij e.symm)]
      · rw [if_neg h1, if_neg (by omega)]
  · have h1 : ∀ G k, (endsC G k)[i]? = none := fun G k => Array.getElem?_eq_none (by rw [endsC_size]; omega)
    rw [h1, h1]
    by_cases hij : j = i
    · rw [if_pos hij, if_neg (by omega)]
    · rw [if_neg hij]

/-- G tells the last one on each level from j on. -/
def Ends (L : List N) (G : Nat → Nat) (j : Nat) : Prop := ∀ h, j ≤ h → h < 10 → ∃ e, On L h e ∧ e.g = G h

def SearchPost (w : World) (hd : N) (A : List N) (en : Ending) (w' : World) : Prop :=
  ∃ G, en = .returned (.tuple #[.agg (endsC G 0), .int .i64 (stp A)]) ∧ Ends (hd :: A) G 0 ∧ Below w.heap.size w w'

/-- A call of a function that is a letter. -/
theorem run_callFunc {P : Program} (f : FuncId) (fn : Func) (hfn : P.funcs[f]? = some fn) (hname : (fn.name == "runtime.NumGoroutine") = false) (hb : fn.body.isNone = false) (vs : Array Value) (w : World) :
    (callFunc f vs).run P w = .ok (.enter f vs) w := by
  have h1 : fn.name ≠ "runtime.NumGoroutine" := by simpa using hname
  simp [callFunc, hfn, h1]
  intro e
  rw [e] at hb
  simp at hb

/-- A guard of the walk: an operation that is wanted only where a test held. -/
theorem at_opg {P : Program} (d : Tmp) {op : Op} {t : TypeId} {p : String} {af : Array _} {gd : _} {ops : Array Oper} {rest : List Oper} {a : Act} {w : World} {Q : Exit → Act → World → Prop}
    (h : wpList P ops Q (⟨some d, op, t, p, af, some gd⟩ :: rest) a w) : wpList P ops Q (⟨some d, op, t, p, af, some gd⟩ :: rest) a w := h

/-- A whole row of cells is stored: its block behind it, in a world that is a letter. -/
theorem wpList_store_cells {P : Program} {w : World} {ops : Array Oper} {rest : List Oper} {o : Oper} {a : Act} {Q : Exit → Act → World → Prop} (hgd : o.guard = none) (ty : TypeId) (x y : Operand) (ho : o.op = .store ty x y)
    (g : Nat) (cs old : Array Value) (hx : a.eval x = .pointer (some ⟨g, 0, none⟩)) (hy : a.eval y = .agg cs)
    (t : TypeId) (hg : Has w g t old) (hi : (P.info? ty).map (·.size) = some cs.size) (hn : old.size = cs.size) (h1 : cs.all (·.oneCell') = true)
    (h : ∀ w', Has w' g t cs → Turn (fun k => k = g) w w' → wpList P ops Q rest (a.put o.dst undef) w') : wpList P ops Q (o :: rest) a w :=
  wpList_store_row hgd ty x y ho g cs hx hy t old hg hi hn h1 (h _ (hg.row _) (turn_row _ _ _))

/-- Results: a whole row out of its cell, and a plain one. -/
theorem res_cell_tmp {P : Program} {fn : Func} {p q : Tmp} {ty : TypeId} (h : fn.results = #[.cell p ty, .tmp q]) (tmps : Array Value) (w : World) (g : Nat) (t : TypeId) (cs : Array Value) (fr : Nat × Nat) (d : TypeDesc)
    (hp : tmps.getD p undef = .pointer (some ⟨g, 0, none⟩)) (hg : w.heap[g]? = some (.cells cs t fr))
    (hu : P.underlying ty = some d) (hd : (match d with | .struct _ | .array _ _ => true | _ => false) = true) (hi : (P.info? ty).map (·.size) = some cs.size) (v : Value) (hq : tmps.getD q undef = v) :
    (results fn tmps).run P w = .ok (.tuple #[.agg cs, v]) w := by
  have hp' : tmps[p]?.getD undef = .pointer (some ⟨g, 0, none⟩) := by simpa using hp
  have hq' : tmps[q]?.getD undef = v := by simpa using hq
  simp [results, h, hp', hq', asAddr, run_loadVar_row w g t ty cs fr d hg hu hd hi]

theorem arrSize (G : Nat → Nat) (j : Nat) : (Tryz.prog.info? 184).map (·.size) = some (endsC G j).size := by rw [endsC_size]; kernel_rfl

theorem next_cases (n : Nat) (M B : List N) : ((∀ y ∈ M, y.k ≤ n) ∧ nx n (M ++ B) = none) ∨ (∃ l1 y l2, M = l1 ++ y :: l2 ∧ n < y.k ∧ (∀ z ∈ l1, z.k ≤ n) ∧ nx n (M ++ B) = some y.g) ∨
    ((∀ y ∈ M, y.k ≤ n) ∧ ∃ y, y ∈ B ∧ n < y.k ∧ nx n (M ++ B) = some y.g) := by
  rcases nx_cases n M with ⟨_, h⟩ | ⟨l1, y, l2, rfl, hy, h1, e⟩
  · rw [nx_low h]
    rcases nx_cases n B with ⟨e2, _⟩ | ⟨l1, y, l2, rfl, hy, h1, e2⟩
    · exact .inl ⟨h, e2⟩
    · exact .inr (.inr ⟨h, y, by simp, hy, e2⟩)
  · exact .inr (.inl ⟨l1, y, l2, rfl, hy, h1, by rw [nx_append, e]; rfl⟩)

/-- What lasts while a search goes on. -/
structure Sea (w : World) (j : Nat) (G : Nat → Nat) (wr : World) : Prop where
  bel : Below w.heap.size w wr
  out : Has wr w.heap.size 184 (endsC (fun _ => 0) 10)
  ends : Has wr (w.heap.size + 1) 184 (endsC G j)
/-- Where it stands: at c, and k were gone past. -/
structure Pos (hd : N) (A : List N) (n : Nat) (c : N) (M : List N) (k : Nat) : Prop where
  at_ : ∃ X, hd :: A = X ++ c :: M
  hc : n ≤ c.k
  hM : ∀ y ∈ M, y.k ≤ n
  hk : k + stp M = stp A

/-- A level is done. -/
theorem level_done {w wr : World} {hd : N} {A M' : List N} {n k' : Nat} {c' : N} {G : Nat → Nat} (hQ : Pos hd A (n + 1) c' M' k') (h1 : ∀ y ∈ M', y.k ≤ n) (hE : Ends (hd :: A) G (n + 1)) (hS : Sea w (n + 1) G wr) (hn : n < 10) :
    Pos hd A n c' M' k' ∧ Ends (hd :: A) (fun h => if h = n then c'.g else G h) n ∧ Sea w n (fun h => if h = n then c'.g else G h) (wr.setCell ⟨w.heap.size + 1, n, none⟩ (.pointer (some ⟨c'.g, 0, none⟩))) := by
  refine ⟨⟨hQ.at_, by have := hQ.hc; omega, h1, hQ.hk⟩, fun h hh1 hh2 => ?_, ⟨?_, ?_, ?_⟩⟩
  · by_cases e : h = n
    · subst e
      obtain ⟨X, eX⟩ := hQ.at_
      exact ⟨c', ⟨X, M', eX, by have := hQ.hc; omega, h1⟩, by simp⟩
    · obtain ⟨x, hx, e2⟩ := hE h (by omega) hh2
      exact ⟨x, hx, by simp [e, e2]⟩
  · exact hS.bel.trans ((Turn.put (F := fun k => w.heap.size ≤ k) (Turn.refl _ _) (fun _ => by omega) _ _).below hS.bel.size (fun j hj e => by omega))
  · exact hS.out.far (by show w.heap.size ≠ w.heap.size + 1; omega) _
  · have := hS.ends.put n (.pointer (some ⟨c'.g, 0, none⟩))
    rw [← endsC_set G n c'.g hn]
    exact this

set_option maxRecDepth 100000 in
set_option maxHeartbeats 2000000 in
theorem search_calls (f : FuncId) (fn : Func) (hfn : Tryz.prog.funcs[f]? = some fn) (hname : (fn.name == "runtime.NumGoroutine") = false) (hbody : fn.body.isNone = false) (p : Nat) (P : Int → Bool) (b : Nat) (hd : N) (A B : List N) (w : World) (hS : Sk w b hd (A ++ B))
    (hf : ∀ x w', Below w.heap.size w w' → Calls Tryz.prog f #[.int .i64 x, .pointer (some ⟨p, 0, none⟩)] w' fun en w'' => en = .returned (.bool (P x)) ∧ w' = w'')
    (hA : ∀ x ∈ A, P x.a = true) (hB : ∀ x ∈ B, P x.a = false) (hl : A.length ≤ 1000000) :
    Calls Tryz.prog 89 #[.pointer (some ⟨b, 0, none⟩), .func (.func f) #[] #[.pointer (some ⟨p, 0, none⟩)]] w (SearchPost w hd A) := by
  have HS := Lib.hid hS
  have HF := Lib.hid hf
  have HA := Lib.hid hA
  have HB := Lib.hid hB
  have hcf : ∀ vs w', (callFunc f vs).run Tryz.prog w' = .ok (.enter f vs) w' := fun vs w' => run_callFunc f fn hfn hname hbody vs w'
  have HL := Lib.hid hl
  have c0 := hS.list.cell 0
  simp at c0
  have hbw := hS.list.lt
  clear hS hf hA hB hfn hname hbody hl
  go_enter Tryz.func89, Tryz.ntmps89
  go_wp2_with fail
  go_name_world W hW
  have S0 : Hid (Sea w 10 (fun _ => 0) W) := by
    rw [← hW]
    exact Lib.hid ⟨((Below.refl _ _).alloc (Nat.le_refl _) _).alloc (by simp) _, (made_at _ _ rfl).alloc _, made_at _ _ (by simp)⟩
  clear hW c0 hbw
  go_loopw [7, 8, 9] (fun x st i wr => ∃ (j : Nat) (c : N) (M : List N) (k : Nat) (G : Nat → Nat), x = .pointer (some ⟨c.g, 0, none⟩) ∧ st = .int .i64 k ∧ i = .int .i64 ((j : Int) - 1) ∧ j ≤ 10 ∧ Hid (Pos hd A j c M k ∧ Ends (hd :: A) G j ∧ Sea w j G wr)) (fun _ _ i _ => (intOf i + 1).toNat)
  case atStart =>
    refine ⟨10, hd, A, 0, fun _ => 0, rfl, rfl, rfl, Nat.le_refl _, Lib.hid ⟨⟨⟨[], rfl⟩, by rw [HS.out.hk]; exact Nat.le_refl _, fun y hy => HS.out.kle y (by simp [hy]), by rw [Nat.zero_add]⟩, fun h h1 h2 => by omega, S0.out⟩⟩
  case round =>
    clear S0
    obtain ⟨j, c, M, k, G, rfl, rfl, rfl, hj, HP⟩ := hrel
    cases j with
    | zero =>
      have hM : Hid (M = []) := Lib.hid (by
        cases M with
        | nil => rfl
        | cons y M =>
          exfalso
          obtain ⟨X, e⟩ := HP.out.1.at_
          have h1 := HP.out.1.hM y (by simp)
          have h2 : y ∈ A := by
            have : y ∈ X ++ c :: y :: M := by simp
            rw [← e] at this
            cases X with
            | nil => rw [List.nil_append, List.cons.injEq] at e; rw [e.2]; simp
            | cons x X => rw [List.cons_append, List.cons.injEq] at e; rw [e.2]; simp
          have := HS.out.kpos y (by simp [h2])
          omega)
      have e1 : ((0 : Nat) : Int) - 1 = -1 := rfl
      rw [e1]
      clear e1 hj
      have HR := Lib.hid (show k = stp A by have h1 := HP.out.1.hk; rw [hM.out] at h1; exact h1)
      go_wp2_with (first
        | ((with_reducible refine at_op 52 ?_); refine wpList_load_row (o := ⟨some 52, _, _, _, _, _⟩) rfl 184 _ rfl (w.heap.size + 1) rfl 184 (endsC G 0) (0, 0) _ HP.out.2.2.ends Tryz.underlying184 rfl (arrSize _ _) ?_)
        | ((with_reducible refine at_store (.tmp 4) ?_); refine wpList_store_cells (o := ⟨none, _, _, _, _, _⟩) rfl 184 _ _ rfl w.heap.size (endsC G 0) (endsC (fun _ => 0) 10) rfl rfl _ HP.out.2.2.out (arrSize _ _) (by rw [endsC_size, endsC_size]) (endsC_one _ _) ?_; intro W6 HW6 TW6)
        | fail)
      refine bodyPost_ret (v := .tuple #[.agg (endsC G 0), .int .i64 k]) (res_cell_tmp rfl _ _ w.heap.size 184 (endsC G 0) (0, 0) _ rfl HW6 Tryz.underlying184 rfl (arrSize _ _) _ rfl) rfl ?_
      rw [HR.out]
      exact ⟨G, rfl, HP.out.2.1, HP.out.2.2.bel.trans (TW6.below HP.out.2.2.bel.size (fun j hj e => by omega))⟩
    | succ n =>
      have e1 : ((n + 1 : Nat) : Int) - 1 = (n : Int) := by omega
      rw [e1]
      clear e1
      have hn : (n : Int) < 10 := by omega
      have hn0 : (0 : Int) ≤ (n : Int) := by omega
      go_wp2_with fail
      go_loopw [7, 8] (fun x st wv => ∃ (c' : N) (M' : List N) (k' : Nat), x = .pointer (some ⟨c'.g, 0, none⟩) ∧ st = .int .i64 k' ∧ wv = wr ∧ Hid (Pos hd A (n + 1) c' M' k')) (fun _ st _ => stp A - (intOf st).toNat)
      case atStart => exact ⟨c, M, k, rfl, rfl, rfl, Lib.hid HP.out.1⟩
      case round =>
        obtain ⟨c', M', k', rfl, rfl, rfl, HQ⟩ := hrel
        obtain ⟨X, eX⟩ := HQ.out.at_
        obtain ⟨m1, m2⟩ := HS.out.at_ eX
        have c2 : wr.cell? ⟨c'.g, 2, none⟩ = some (.slice (some ⟨c'.r, 0, none⟩) c'.k c'.k) := (m1.below HP.out.2.2.bel m1.lt).cell 2
        have cr : wr.cell? ⟨c'.r, n, none⟩ = some (ptrV (nx n (M' ++ B))) := by
          rw [(m2.below HP.out.2.2.bel m2.lt).cell, rowT_at (by have := HQ.out.hc; omega), List.append_nil]
        have hkn : (n : Int) < (c'.k : Int) := by have := HQ.out.hc; omega
        have hk10 : (c'.k : Int) ≤ 10 := by
          have := HS.out.kle c' (by have : c' ∈ hd :: A := by rw [eX]; simp
                                    simp only [List.mem_cons, List.mem_append] at this ⊢
                                    rcases this with h | h
                                    · exact .inl h
                                    · exact .inr (.inl h))
          omega
        have HX := Lib.hid eX
        clear m1 m2 eX
        have hk0 : (0 : Int) ≤ (k' : Int) := by omega
        have hkm : (k' : Int) ≤ 1000000 := by
          have h1 := HQ.out.hk
          have h2 := stp_le A
          have h3 := HL.out
          omega
        have ce : wr.cell? ⟨w.heap.size + 1, n, none⟩ = some (.pointer none) := by
          rw [HP.out.2.2.ends.cell]
          simp [endsC, ptrV, show n < 10 by omega]
        have fz : wr.frozen? ⟨w.heap.size + 1, n, none⟩ = false := HP.out.2.2.ends.free n
        rcases next_cases n M' B with ⟨h1, e1⟩ | ⟨l1, y, l2, h0, hy, h1, e1⟩ | ⟨h1, y, hy, hyk, e1⟩
        · rw [e1] at cr
          change wr.cell? _ = some (.pointer none) at cr
          have H1 := Lib.hid h1
          clear h1 e1
          go_wp2_with fail
          refine ⟨⟨n, c', M', k', _, rfl, rfl, rfl, by omega, Lib.hid (level_done HQ.out H1.out HP.out.2.1 HP.out.2.2 (by omega))⟩, ?_⟩
          show ((n : Int) - 1 + 1).toNat < ((n : Int) + 1).toNat
          omega
        · rw [e1] at cr
          change wr.cell? _ = some (.pointer (some ⟨y.g, 0, none⟩)) at cr
          have hyA : y ∈ A := by
            have h2 : y ∈ X ++ c' :: M' := by rw [h0]; simp
            have h3 := HX.out
            cases X with
            | nil => rw [List.nil_append, List.cons.injEq] at h3; rw [h3.2, h0]; simp
            | cons x X => rw [List.cons_append, List.cons.injEq] at h3; rw [h3.2, h0]; simp
          obtain ⟨_, m1, _⟩ := HS.out.node (x := y) (by simp [hyA])
          have cy : wr.cell? ⟨y.g, 0, none⟩ = some (.int .i64 y.a) := (m1.below HP.out.2.2.bel m1.lt).cell 0
          have hcl := HF.out y.a wr HP.out.2.2.bel
          rw [HA.out y hyA] at hcl
          have HC := Lib.hid hcl
          have H0 := Lib.hid (And.intro h0 (And.intro hy h1))
          clear h0 hy h1 e1 hcl m1 hyA ce fz
          go_wp2_with fail
          refine HC.out.mono ?_
          rintro en w1 ⟨rfl, rfl⟩
          go_wp2_with fail
          obtain ⟨e0, hy, h1⟩ := H0.out
          have hs := stp_hit h1 hy (l2 := l2) (fun z hz => by have := HQ.out.hM z (by rw [e0]; simp [hz]); omega)
          rw [← e0] at hs
          have hk := HQ.out.hk
          refine ⟨⟨y, l2, k' + 1, rfl, by rw [Int.natCast_add]; rfl, trivial, Lib.hid ⟨⟨X ++ c' :: l1, by rw [HX.out, e0]; simp⟩, by omega, fun z hz => HQ.out.hM z (by rw [e0]; simp [hz]), by omega⟩⟩, ?_⟩
          show stp A - ((k' : Int) + 1).toNat < stp A - ((k' : Int)).toNat
          omega
        · rw [e1] at cr
          change wr.cell? _ = some (.pointer (some ⟨y.g, 0, none⟩)) at cr
          obtain ⟨_, m1, _⟩ := HS.out.node (x := y) (by simp [hy])
          have cy : wr.cell? ⟨y.g, 0, none⟩ = some (.int .i64 y.a) := (m1.below HP.out.2.2.bel m1.lt).cell 0
          have hcl := HF.out y.a wr HP.out.2.2.bel
          rw [HB.out y hy] at hcl
          have HC := Lib.hid hcl
          have H1 := Lib.hid h1
          clear hy h1 e1 hcl m1 hyk
          go_wp2_with fail
          refine HC.out.mono ?_
          rintro en w1 ⟨rfl, rfl⟩
          go_wp2_with fail
          refine ⟨⟨n, c', M', k', _, rfl, rfl, rfl, by omega, Lib.hid (level_done HQ.out H1.out HP.out.2.1 HP.out.2.2 (by omega))⟩, ?_⟩
          show ((n : Int) - 1 + 1).toNat < ((n : Int) + 1).toNat
          omega
end Go.Proofs.YtcdedkgkingbdaaGreatDoor.tws
end

