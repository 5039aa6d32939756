/- tower over string: a list in memory; what a search is asked; New, Len. -/
import Derived.Test.YtbimdcjbpbpljaaDoorTowH
import Derived.Laws.MakeOwn
namespace Go.Proofs.YtbimdcjbpbpljaaDoor.tws
open Go Go.RowKit Go.Proofs.YtbimdcjbpbpljaaDoor.tow

abbrev N := Nd ByteArray

/-- The list at b: its head, its nodes. -/
structure Sk (w : World) (b : Nat) (hd : N) (ns : List N) : Prop where
  list : Has w b 64 #[.pointer (some ⟨hd.g, 0, none⟩), .int .i64 ns.length]
  lay : Lay w 62 59 Value.string (fun _ => []) (hd :: ns)
  rs : ((hd :: ns).map (·.r)).Nodup
  gs : ((hd :: ns).map (·.g)).Nodup
  hk : hd.k = 10
  h0 : hd.a = 0 ∧ hd.v = (⟨#[]⟩ : ByteArray)
  ks : ∀ x ∈ ns, x.k = hgt x.a
  up : ns.Pairwise (fun x y => x.a < y.a)
  num : ∀ x ∈ ns, -9223372036854775808 ≤ x.a ∧ x.a ≤ 9223372036854775807

/-- Its blocks. -/
def Foot (b : Nat) (hd : N) (ns : List N) (k : Nat) : Prop := k = b ∨ ∃ x ∈ hd :: ns, k = x.g ∨ k = x.r

section
variable {w w' : World} {b : Nat} {hd : N} {ns : List N}

theorem Sk.turn {F : Nat → Prop} (h : Sk w b hd ns) (t : Turn F w w') (hF : ∀ k, Foot b hd ns k → ¬ F k) : Sk w' b hd ns :=
  ⟨h.list.turn t (hF b (.inl rfl)), h.lay.turn t (fun x hx => ⟨hF _ (.inr ⟨x, hx, .inl rfl⟩), hF _ (.inr ⟨x, hx, .inr rfl⟩)⟩), h.rs, h.gs, h.hk, h.h0, h.ks, h.up, h.num⟩
theorem Sk.foot_lt (h : Sk w b hd ns) {k : Nat} (hk : Foot b hd ns k) : k < w.heap.size := by
  rcases hk with rfl | ⟨x, hx, rfl | rfl⟩
  · exact h.list.lt
  · exact (h.lay.mem hx).1
  · exact (h.lay.mem hx).2
theorem Sk.below (h : Sk w b hd ns) (t : Below w.heap.size w w') : Sk w' b hd ns :=
  h.turn (Turn.of_below (F := fun k => w.heap.size ≤ k) t (fun _ _ h => h)) (fun k hk e => by have := h.foot_lt hk; omega)
theorem Sk.drew (h : Sk w b hd ns) : Sk w.drew b hd ns := ⟨h.list, h.lay.turn (F := fun _ => False) ((Turn.refl _ _).drew) (fun _ _ => ⟨id, id⟩), h.rs, h.gs, h.hk, h.h0, h.ks, h.up, h.num⟩
theorem Sk.drewN (h : Sk w b hd ns) (n : Nat) : Sk (w.drewN n) b hd ns := ⟨h.list, h.lay.turn (F := fun _ => False) ((Turn.refl _ _).drewN n) (fun _ _ => ⟨id, id⟩), h.rs, h.gs, h.hk, h.h0, h.ks, h.up, h.num⟩
theorem Sk.kpos (h : Sk w b hd ns) : ∀ x ∈ ns, 0 < x.k := fun x hx => by rw [h.ks x hx]; exact (hgt_bounds _).1
theorem Sk.kle (h : Sk w b hd ns) : ∀ x ∈ hd :: ns, x.k ≤ 10 := fun x hx => by
  rcases List.mem_cons.1 hx with rfl | hx
  · rw [h.hk]; exact Nat.le_refl _
  · rw [h.ks x hx]; exact (hgt_bounds _).2
theorem Sk.at_ {A B X M : List N} {c : N} (h : Sk w b hd (A ++ B)) (e : hd :: A = X ++ c :: M) :
    Has w c.g 62 #[.int .i64 c.a, .string c.v, .slice (some ⟨c.r, 0, none⟩) c.k c.k] ∧ Has w c.r 59 (rowT c.k (M ++ B) (fun _ => [])) := by
  have h1 := h.lay
  rw [← List.cons_append, e, List.append_assoc, List.cons_append] at h1
  exact h1.at_
end

section
variable {w : World} {b : Nat} {hd : N} {ns : List N}
theorem Sk.node (h : Sk w b hd ns) {x : N} (hx : x ∈ hd :: ns) : ∃ cs, Has w x.g 62 #[.int .i64 x.a, .string x.v, .slice (some ⟨x.r, 0, none⟩) x.k x.k] ∧ Has w x.r 59 cs := by
  obtain ⟨X, Y, e⟩ := List.append_of_mem hx
  have h1 := h.lay
  rw [e] at h1
  exact ⟨_, h1.at_⟩
end

theorem ptrInfo : (Tryd.prog.info? 59).map (fun i => (i.zero, i.size, i.bytes)) = some (some (.pointer none), 1, 8) := by kernel_rfl
/-- A tower that points at nothing. -/
theorem make_row (k : Nat) (hk : k ≤ 10) (W : World) :
    (Instr.makeSlice 60 (.int .i64 (k : Int)) (.int .i64 (k : Int))).run Tryd.prog W = .ok (.slice (some ⟨W.heap.size, 0, none⟩) k k) (W.alloc (.cells (rowT k ([] : List N) (fun _ => [])) 59)) := by
  obtain ⟨i, hi, e⟩ := Option.map_eq_some_iff.1 ptrInfo
  simp only [Prod.mk.injEq] at e
  obtain ⟨e1, e2, e3⟩ := e
  have h := run_make (P := Tryd.prog) W 60 59 i (.pointer none) Tryd.underlying60 hi e1 .i64 .i64 (k : Int) (k : Int) (by omega) (by omega) (by rw [e3]; omega) (by omega)
  simp only [Int.toNat_natCast, e2, Nat.mul_one] at h
  rw [h]
  congr 3
  apply Array.ext_getElem?
  intro j
  unfold madeCells
  by_cases hj : j < k
  · rw [rowT_at hj]
    simp [hj, Value.cells, nx, ptrV, Nat.mod_one]
  · rw [Array.getElem?_eq_none (by simp; omega), Array.getElem?_eq_none (by rw [rowT_size]; omega)]

theorem node_ptr : (62 : Nat) ≠ 59 ∧ (64 : Nat) ≠ 62 ∧ (64 : Nat) ≠ 59 := by decide

set_option maxRecDepth 100000 in
set_option maxHeartbeats 1000000 in
theorem new_calls (w : World) :
    Calls Tryd.prog 10 #[] w fun en w' => ∃ b hd, en = .returned (.pointer (some ⟨b, 0, none⟩)) ∧ Sk w' b hd [] ∧ (∀ k, Foot b hd [] k → w.heap.size ≤ k) ∧ Below w.heap.size w w' := by
  have hmk : (Instr.makeSlice 60 (.int .i64 10) (.int .i64 10)).run Tryd.prog w = .ok (.slice (some ⟨w.heap.size, 0, none⟩) 10 10) (w.alloc (.cells (rowT 10 ([] : List N) (fun _ => [])) 59)) := make_row 10 (by decide) w
  obtain ⟨R, hR⟩ : ∃ R, R = rowT 10 ([] : List N) (fun _ => []) := ⟨_, rfl⟩
  rw [← hR] at hmk
  have HR := Lib.hid hR
  clear hR
  go_enter Tryd.func10, Tryd.ntmps10
  go_wp2_with fail
  go_ret
  have B1 : Below w.heap.size w (w.alloc (.cells R 59)) := (Below.refl _ _).alloc (Nat.le_refl _) _
  have h1 : Has (w.alloc (.cells R 59)) w.heap.size 59 R := made_at _ _ rfl
  refine ⟨w.heap.size + 1 + 1, ⟨0, (⟨#[]⟩ : ByteArray), 10, w.heap.size + 1, w.heap.size⟩, rfl, ⟨made_at _ _ (by simp), ⟨?_, ?_, trivial⟩, by simp, by simp, rfl, ⟨rfl, rfl⟩, by simp, by simp, by simp⟩, ?_, ?_⟩
  · exact (made_at _ _ (by simp)).alloc _
  · rw [HR.out] at h1 ⊢
    exact (h1.alloc _).alloc _
  · intro k hk
    rcases hk with rfl | ⟨x, hx, rfl | rfl⟩
    · omega
    · rw [List.mem_singleton.1 hx]; show _ ≤ w.heap.size + 1; omega
    · rw [List.mem_singleton.1 hx]; exact Nat.le_refl _
  · exact (B1.alloc (by simp) _).alloc (by simp; omega) _

set_option maxRecDepth 100000 in
set_option maxHeartbeats 1000000 in
theorem len_calls {w : World} {b : Nat} {hd : N} {ns : List N} (h : Sk w b hd ns) : Calls Tryd.prog 18 #[.pointer (some ⟨b, 0, none⟩)] w fun en w' => en = .returned (.int .i64 ns.length) ∧ w = w' := by
  have c1 := h.list.cell 1
  simp at c1
  clear h
  go_enter Tryd.func18, Tryd.ntmps18
  go_wp2_with fail
  go_ret
  exact ⟨rfl, rfl⟩

/-- What a search is asked: is a version below one? is it not above one? -/
theorem clos_put (x c : Int) (p : Nat) (w : World) (h : Has w p 3 #[.int .i64 c]) : Calls Tryd.prog 37 #[.int .i64 x, .pointer (some ⟨p, 0, none⟩)] w fun en w' => en = .returned (.bool (decide (x < c))) ∧ w = w' := by
  have c0 := h.one.1
  clear h
  go_enter Tryd.func37, Tryd.ntmps37
  go_wp2_with fail
  go_ret
  exact ⟨rfl, rfl⟩
theorem clos_cut (x c : Int) (p : Nat) (w : World) (h : Has w p 3 #[.int .i64 c]) : Calls Tryd.prog 38 #[.int .i64 x, .pointer (some ⟨p, 0, none⟩)] w fun en w' => en = .returned (.bool (decide (x < c))) ∧ w = w' := by
  have c0 := h.one.1
  clear h
  go_enter Tryd.func38, Tryd.ntmps38
  go_wp2_with fail
  go_ret
  exact ⟨rfl, rfl⟩
theorem clos_floor (x c : Int) (p : Nat) (w : World) (h : Has w p 3 #[.int .i64 c]) : Calls Tryd.prog 39 #[.int .i64 x, .pointer (some ⟨p, 0, none⟩)] w fun en w' => en = .returned (.bool (decide (x ≤ c))) ∧ w = w' := by
  have c0 := h.one.1
  clear h
  go_enter Tryd.func39, Tryd.ntmps39
  go_wp2_with fail
  go_ret
  exact ⟨rfl, rfl⟩
theorem clos_steps (x c : Int) (p : Nat) (w : World) (h : Has w p 3 #[.int .i64 c]) : Calls Tryd.prog 40 #[.int .i64 x, .pointer (some ⟨p, 0, none⟩)] w fun en w' => en = .returned (.bool (decide (x ≤ c))) ∧ w = w' := by
  have c0 := h.one.1
  clear h
  go_enter Tryd.func40, Tryd.ntmps40
  go_wp2_with fail
  go_ret
  exact ⟨rfl, rfl⟩
end Go.Proofs.YtbimdcjbpbpljaaDoor.tws
