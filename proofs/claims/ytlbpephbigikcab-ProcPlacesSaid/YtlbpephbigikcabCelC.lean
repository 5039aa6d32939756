/- cells: what Do gives. -/
import Derived.Test.YtlbpephbigikcabCelB
import Derived.Lib.ItoaWalk
namespace Go.Proofs.Ytlbpephbigikcab.cel
open Go Go.RowKit Go.Maps

section
variable {H : Type} {w : World} {d c m n : Nat} {T : Nat → ByteArray} {N : Nat → Int} {D : DataW H} {a : Int}

theorem new_box (w : World) (o : Obj) : Below w.heap.size w (w.alloc o) := (Below.refl _ _).alloc (Nat.le_refl _) _

/-- An access that is refused: its error's number. -/
def BadPost (e : Int) (w : World) (en : Ending) (w' : World) : Prop :=
  en = .returned (.tuple #[.string ⟨#[]⟩, .bool false, .int .i64 e]) ∧ Below w.heap.size w w'

set_option maxHeartbeats 400000 in
theorem Mem.do_range (h : Mem w d c m n T N D a) (p k z : Int) (old new : ByteArray) (hz : ¬ (0 ≤ z ∧ z < (n : Int))) :
    Calls Try.prog 42 #[.pointer (some ⟨d, 0, none⟩), .int .i64 p, .agg #[.int .i64 k, .int .i64 z, .string old, .string new]] w (BadPost 6 w) := by
  have h1 := (h.below (new_box w (.cells #[.int .i64 k, .int .i64 z, .string old, .string new] 91))).has_calls z
  have hb : (decide (0 ≤ z) && decide (z < (n : Int))) = false := by simpa using hz
  clear h hz
  go_enter Try.func42, Try.ntmps42
  go_wp2_with fail
  refine h1.mono ?_
  rintro en w1 ⟨rfl, rfl⟩
  rw [hb]
  go_wp2_with fail
  go_ret3
  exact ⟨rfl, new_box _ _⟩

set_option maxHeartbeats 400000 in
theorem Mem.do_kind (h : Mem w d c m n T N D a) (p k z : Int) (old new : ByteArray) (h0 : 0 ≤ z) (h1 : z < (n : Int)) (hk : k < 1 ∨ 3 < k) :
    Calls Try.prog 42 #[.pointer (some ⟨d, 0, none⟩), .int .i64 p, .agg #[.int .i64 k, .int .i64 z, .string old, .string new]] w (BadPost 5 w) := by
  have hh := (h.below (new_box w (.cells #[.int .i64 k, .int .i64 z, .string old, .string new] 91))).has_calls z
  clear h
  by_cases hk1 : k < 1
  · clear hk
    go_enter Try.func42, Try.ntmps42
    go_wp2_with fail
    refine hh.mono ?_
    rintro en w1 ⟨rfl, rfl⟩
    rw [decide_eq_true h0, decide_eq_true h1]
    go_wp2_with fail
    go_ret3
    exact ⟨rfl, new_box _ _⟩
  · have hk3 : 3 < k := by omega
    clear hk
    go_enter Try.func42, Try.ntmps42
    go_wp2_with fail
    refine hh.mono ?_
    rintro en w1 ⟨rfl, rfl⟩
    rw [decide_eq_true h0, decide_eq_true h1]
    go_wp2_with fail
    go_ret3
    exact ⟨rfl, new_box _ _⟩

/-- An access that is done, or a Swap that is not. -/
def DoPost (d c m n j : Nat) (T : Nat → ByteArray) (N : Nat → Int) (D : DataW H) (a p k : Int) (old new : ByteArray) (w : World) (en : Ending) (w' : World) : Prop :=
  en = .returned (.tuple #[.string (T j), .bool (did k (T j) old), .int .i64 0]) ∧
  Mem w' d c m n (upd T j (aftT k (T j) old new)) (upd N j (aftN k (T j) old (N j))) (D.put (kI p) (nI (cnt D p + 1))) (a + 1) ∧
  Turn (fun b => b = d ∨ b = c ∨ b = m) w w'

theorem Mem.cm (h : Mem w d c m n T N D a) : m ≠ d ∧ m ≠ c := ⟨h.map.ne h.box, h.map.ne h.row⟩

theorem cell_of {w w' : World} {m d i : Nat} {v : Value} (h : w.grownBy w' (some m)) (hd : d < w.heap.size) (hne : m ≠ d) (hc : w.cell? ⟨d, i, none⟩ = some v) : w'.cell? ⟨d, i, none⟩ = some v := by
  have := h.block d hd (fun e => hne (by injection e with e; exact e.symm))
  unfold World.cell? at hc ⊢
  rw [this]; exact hc

set_option maxRecDepth 100000 in
set_option maxHeartbeats 2000000 in
theorem Mem.do_calls (h : Mem w d c m n T N D a) (p k : Int) (j : Nat) (old new : ByteArray) (hj : j < n) (hk1 : 1 ≤ k) (hk3 : k ≤ 3) (hp : Fits p) (hD : Maps.size D < maxLen)
    (hc1 : -4611686018427387904 ≤ cnt D p) (hc2 : cnt D p ≤ 4611686018427387904) (ha1 : -4611686018427387904 ≤ a) (ha2 : a ≤ 4611686018427387904) (hN1 : -4611686018427387904 ≤ N j) (hN2 : N j ≤ 4611686018427387904) :
    Calls Try.prog 42 #[.pointer (some ⟨d, 0, none⟩), .int .i64 p, .agg #[.int .i64 k, .int .i64 (j : Int), .string old, .string new]] w (DoPost d c m n j T N D a p k old new w) := by
  obtain ⟨W1, hW1⟩ : ∃ W1, W1 = w.alloc (.cells #[.int .i64 k, .int .i64 (j : Int), .string old, .string new] 91) := ⟨_, rfl⟩
  obtain ⟨x, hx⟩ : ∃ x, x = w.heap.size := ⟨_, rfl⟩
  have B1 : Hid (Below w.heap.size w W1) := by rw [hW1]; exact new_box _ _
  have M1 : Hid (Mem W1 d c m n T N D a) := Lib.hid (h.below B1.out)
  have X1 : Hid (Has W1 x 91 #[.int .i64 k, .int .i64 (j : Int), .string old, .string new]) := by rw [hW1, hx]; exact Has.made _ _ _
  have hne : Hid (x ≠ d ∧ x ≠ c ∧ x ≠ m) := by
    have := h.box.lt
    have := h.row.lt
    have := h.map.lt
    refine Lib.hid ⟨by omega, by omega, by omega⟩
  have hh := M1.out.has_calls (j : Int)
  have hj0 : (0 : Int) ≤ (j : Int) := by omega
  have hj1 : (j : Int) < (n : Int) := by omega
  have hw1 : (Lit.int .i64 (cnt D p + 1)).wf = true := wf64 ⟨by omega, by omega⟩
  have hkey := kI_of hp
  have hown : W1.ownsMap Try.prog 3 (plainElem Try.prog 3) m (Maps.size D) D := M1.out.map
  obtain ⟨y, hlook, hat, _⟩ := World.ownsMap.lookup_int hown intKeyed Try.underlying55 Try.underlying3 (zeroInt W1) hkey
  obtain rfl : y = cnt D p := (cnt_of hat).symm
  obtain ⟨W2, hrun2, hown2, hturn2⟩ := hown.store intKeyed Try.underlying55 hD hkey (plainElem_int Try.underlying3 hw1)
  have G2 : Hid (W1.grownBy W2 (some m)) := Lib.hid hturn2.grown
  have M2 : Hid (Mp W2 m (D.put (kI p) (nI (cnt D p + 1)))) := Lib.hid (tight hown2)
  have HW := Lib.hid hW1
  have HX := Lib.hid hx
  have HAT := Lib.hid hat
  have CM := Lib.hid h.cm
  have DC := Lib.hid h.dc
  have ML := Lib.hid h.many
  have x1 := X1.out.cell 1
  have x0 := X1.out.cell 0
  have d1 : W1.cell? ⟨d, 1, none⟩ = some (.map (some m)) := M1.out.box.cell 1
  have D2 : Hid (Has W2 d 73 #[.slice (some ⟨c, 0, none⟩) n n, .map (some m), .int .i64 a]) := Lib.hid (M1.out.box.grown G2.out (fun e => CM.out.1 (by injection e with e; exact e.symm)))
  have C2 : Hid (Has W2 c 78 (cellsA T N n)) := Lib.hid (M1.out.row.grown G2.out (fun e => CM.out.2 (by injection e with e; exact e.symm)))
  have X2 : Hid (Has W2 x 91 #[.int .i64 k, .int .i64 (j : Int), .string old, .string new]) := Lib.hid (X1.out.grown G2.out (fun e => hne.out.2.2 (by injection e with e)))
  have d2 : W2.cell? ⟨d, 2, none⟩ = some (.int .i64 a) := D2.out.cell 2
  have f2 : W2.frozen? ⟨d, 2, none⟩ = false := D2.out.free 2
  have HC := Lib.hid (And.intro hc1 hc2)
  clear hown hown2 hturn2 hat hW1 hx h hw1 hp hkey hD
  go_enter Try.func42, Try.ntmps42
  go_wp2_with fail
  rw [← HW.out, ← HX.out]
  refine hh.mono ?_
  rintro en w1 ⟨rfl, rfl⟩
  rw [decide_eq_true hj0, decide_eq_true hj1]
  go_wp2_with fail
  go_name_world W3 hW3
  have D3 : Hid (Has W3 d 73 #[.slice (some ⟨c, 0, none⟩) n n, .map (some m), .int .i64 (a + 1)]) := by rw [← hW3]; exact D2.out.put 2 _
  have C3 : Hid (Has W3 c 78 (cellsA T N n)) := by rw [← hW3]; exact C2.out.far (fun e => DC.out e.symm) _
  have X3 : Hid (Has W3 x 91 #[.int .i64 k, .int .i64 (j : Int), .string old, .string new]) := by rw [← hW3]; exact X2.out.far hne.out.1 _
  have M3 : Hid (Mp W3 m (D.put (kI p) (nI (cnt D p + 1)))) := by
    rw [← hW3]
    obtain ⟨es, clock, k1, k2⟩ := M2.out
    exact ⟨es, clock, (Below.heap_setCell W2 ⟨d, 2, none⟩ _ m CM.out.1).trans k1, k2⟩
  have T3 : Hid (Turn (fun b => b = d ∨ b = c ∨ b = m) w W3) := by
    rw [← hW3]
    have t1 : Turn (fun b => b = d ∨ b = c ∨ b = m) w w1 := Turn.of_below B1.out (fun i h1 h2 => absurd h2 (by omega))
    have t2 : Turn (fun b => b = d ∨ b = c ∨ b = m) w W2 := t1.grown G2.out (fun i e _ => .inr (.inr (by injection e with e; exact e.symm)))
    exact t2.put (fun _ => .inl rfl) _ _
  clear hW3 hlook hrun2 x1 x0 d1 d2 f2 D2 C2 X2 M2 hh M1 X1
  have HC3 := Lib.hid (cdo_calls c n j T N k (j : Int) old new W3.drew (C3.out.drew) hj ⟨hk1, hk3⟩ ⟨hN1, hN2⟩)
  have x0 := X3.out.cell 0
  have x1 := X3.out.cell 1
  have x2 := X3.out.cell 2
  have x3 := X3.out.cell 3
  have d0 := D3.out.cell 0
  go_region_law (refine step_call rfl 61 Try.f61 Try.func61 (by kernel_rfl) (by kernel_rfl) _ _ rfl #[.pointer (some ⟨c, j * 2, none⟩), .agg #[.int .i64 k, .int .i64 (j : Int), .string old, .string new]] (by first | (simp [Act.eval]; done) | (simp [Act.eval, Act.put]; done)) (by exact HC3.out) ?_
                 rintro en w4 ⟨rfl, c4, g4⟩
                 have C4 := Lib.hid c4
                 have G4 := Lib.hid g4
                 clear c4 g4 x0 x1 x2 x3 d0
                 refine ⟨_, rfl, ?_⟩)
  all_goals
    go_wp2_with fail
    go_ret3
    have M4 : Mp w4 m (D.put (kI p) (nI (cnt D p + 1))) := by
      obtain ⟨es, clock, k1, k2⟩ := M3.out
      exact ⟨es, clock, (G4.out.block m (M3.out.lt) (fun e => CM.out.2 (by injection e))).trans k1, k2⟩
    refine ⟨rfl, ⟨D3.out.drew.grown G4.out (fun e => DC.out (by injection e)), C4.out, M4, ML.out⟩, T3.out.drew.grown G4.out (fun i e _ => .inr (.inl (by injection e with e; exact e.symm)))⟩

end
end Go.Proofs.Ytlbpephbigikcab.cel
