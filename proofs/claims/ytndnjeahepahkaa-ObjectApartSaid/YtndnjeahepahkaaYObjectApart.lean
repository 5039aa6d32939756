/- ObjectApart: for every number, every list of ops and every two ops the law answers true, and its arguments read afterwards as they did. Conditions: none. -/
import Derived.Test.YtndnjeahepahkaaY012
import Derived.Lib.ItoaWalk
namespace Go.Proofs.Ytndnjeahepahkaa.object.objectApart
open Go.ChangeShapes Go.WideShapes Go.ChangeAt Go.RowKit Go.Maps Go.Sort

/-- The two ops' boxes. -/
structure Bx (w : World) (q : Nat) (A B : OpO) (V : World) : Prop where
  a : Has V q 35 A.cells
  b : Has V (q + 1) 35 B.cells
  turn : Turn (fun j => w.heap.size ≤ j) w V
  lo : w.heap.size ≤ q
theorem Bx.more {w V V' : World} {q : Nat} {A B : OpO} (h : Bx w q A B V) (b : Below V.heap.size V V') : Bx w q A B V' :=
  ⟨h.a.below b h.a.lt, h.b.below b h.b.lt, h.turn.trans (Turn.of_below b (F := fun j => V.heap.size ≤ j) (fun _ _ e => e)) (fun _ _ e => Nat.le_trans h.turn.size e), h.lo⟩
theorem Bx.far {w V V' : World} {q lo hi : Nat} {A B : OpO} (h : Bx w q A B V) (t : Turn (fun j => lo ≤ j ∧ j < hi) V V') (hl : q + 1 < lo) : Bx w q A B V' :=
  ⟨h.a.turn t (by omega), h.b.turn t (by omega), h.turn.trans t (fun j _ e => by have := h.lo; omega), h.lo⟩

/-- What lasts in the loop. -/
structure La (w : World) (q : Nat) (A B : OpO) (v : Value) (lo hi : Nat) (K : Int) (k : Nat) (x : Ob) (V : World) : Prop where
  lb : Lb w v lo hi K x V
  bx : Bx w q A B V
  hq : q + 1 < lo
  few : x.few k
theorem La.more {w V V' : World} {q lo hi k : Nat} {A B : OpO} {v : Value} {K : Int} {x : Ob} (h : La w q A B v lo hi K k x V) (b : Below V.heap.size V V') : La w q A B v lo hi K k x V' := ⟨h.lb.more b, h.bx.more b, h.hq, h.few⟩
theorem few_mono {x : Ob} {m n : Nat} (h : x.few m) (hn : m ≤ n) : x.few n := by
  cases x with
  | doc s => trivial
  | led D => exact Nat.le_trans h (by omega)
  | sto D => exact Nat.le_trans h hn
theorem first_few (K : Int) : (first K).few 0 := by
  unfold first
  split
  · trivial
  · split
    · exact Nat.le_of_eq d0_size
    · exact Nat.le_refl 0

set_option maxRecDepth 100000 in
set_option maxHeartbeats 8000000 in
theorem apart_any (n : Int) (a : Option Addr) (len cap : Nat) (A0 B0 : OpO) (w : World) (hA : ArgO w a len) (hA0 : A0.Fits) (hB0 : B0.Fits) :
    Calls Try.prog 4 #[.int .i64 n, .slice a len cap, .agg A0.cells, .agg B0.cells] w fun en w' => en = .returned (.bool true) ∧ Below w.heap.size w w' := by
  have HA := Lib.hid hA
  have HSZ : Hid (len ≤ maxLen) := Lib.hid hA.1
  have HFT := Lib.hid (And.intro hA0 hB0)
  clear hA hA0 hB0
  obtain ⟨ca, hca⟩ : ∃ ca, ca = A0.cells := ⟨_, rfl⟩
  obtain ⟨cb, hcb⟩ : ∃ cb, cb = B0.cells := ⟨_, rfl⟩
  have HCC := Lib.hid (And.intro hca hcb)
  rw [← hca, ← hcb]
  clear hca hcb
  have hK := kind_of n
  have hlk := fun W => Lib.hid (lkind_calls n W)
  generalize 1 + (n.tmod 3 + 3).tmod 3 = K at *
  have HK := Lib.hid hK
  clear hK
  go_enter Try.func4, Try.ntmps4
  go_wp2_with fail
  refine callsName (fun W hW => ?_)
  obtain ⟨q, hq⟩ : ∃ q, q = w.heap.size := ⟨_, rfl⟩
  have HB : Hid (Bx w q A0 B0 W) := by
    rw [← hW, hq, HCC.out.1, HCC.out.2]
    exact Lib.hid ⟨(Has.made w _ _).alloc _, made_at _ _ (by simp), ((Turn.refl _ _).alloc _).alloc _, Nat.le_refl _⟩
  rw [← hq]
  clear hW hq
  refine (oawake_any W).mono ?_
  rintro en w1 ⟨rfl, b1⟩
  have HB1 := Lib.hid (HB.out.more b1)
  clear b1 HB
  go_wp2_with (first
    | (go_at_call 7; refine (hlk _).out.mono ?_; rintro en w2 ⟨rfl, rfl⟩)
    | fail)
  clear hlk
  have HFA : Hid (∀ V, Calls Try.prog 9 #[.agg #[.int .i64 A0.k, .int .i64 A0.t.k, .int .i64 A0.t.a, .string A0.t.x, .int .i64 A0.t.n, .int .i64 A0.l.k, .string A0.l.s, .string A0.l.t, .int .i64 A0.l.n, .int .i64 A0.s.k, .string A0.s.s, .int .i64 A0.s.n]] V fun en w' => en = .returned (.agg A0.few.cells) ∧ Below V.heap.size V w') := Lib.hid (fun V => ofew_calls A0 V HFT.out.1)
  have HFB : Hid (∀ V, Calls Try.prog 9 #[.agg #[.int .i64 B0.k, .int .i64 B0.t.k, .int .i64 B0.t.a, .string B0.t.x, .int .i64 B0.t.n, .int .i64 B0.l.k, .string B0.l.s, .string B0.l.t, .int .i64 B0.l.n, .int .i64 B0.s.k, .string B0.s.s, .int .i64 B0.s.n]] V fun en w' => en = .returned (.agg B0.few.cells) ∧ Below V.heap.size V w') := Lib.hid (fun V => ofew_calls B0 V HFT.out.2)
  have HSH := Lib.hid (And.intro (OpO.few_short A0) (OpO.few_short B0))
  generalize A0.few = A at *
  generalize B0.few = B at *
  refine wp_region_any (by kernel_rfl) ?_
  refine AnyL.any (S := Bx w q A0 B0) (Wr := [4, 5]) _ _ _ _ (HB1.out.more ⟨rfl, rfl, rfl, Nat.le_refl _, fun _ _ => rfl⟩) ?_
  refine AnyL.pure 0 (some 18) (v := .agg #[.int .i64 A0.k, .int .i64 A0.t.k, .int .i64 A0.t.a, .string A0.t.x, .int .i64 A0.t.n, .int .i64 A0.l.k, .string A0.l.s, .string A0.l.t, .int .i64 A0.l.n, .int .i64 A0.s.k, .string A0.s.s, .int .i64 A0.s.n]) rfl rfl (by kernel_rfl) (by kernel_rfl) (by kernel_rfl) (fun _ _ _ h => h) (by kernel_rfl) (by kernel_rfl) (fun V hV => by
    have hX := hV.a
    have z0 : V.cell? ⟨q, 0, none⟩ = some (.int .i64 A0.k) := hX.cell 0
    have z1 : V.cell? ⟨q, 1, none⟩ = some (.int .i64 A0.t.k) := hX.cell 1
    have z2 : V.cell? ⟨q, 2, none⟩ = some (.int .i64 A0.t.a) := hX.cell 2
    have z3 : V.cell? ⟨q, 3, none⟩ = some (.string A0.t.x) := hX.cell 3
    have z4 : V.cell? ⟨q, 4, none⟩ = some (.int .i64 A0.t.n) := hX.cell 4
    have z5 : V.cell? ⟨q, 5, none⟩ = some (.int .i64 A0.l.k) := hX.cell 5
    have z6 : V.cell? ⟨q, 6, none⟩ = some (.string A0.l.s) := hX.cell 6
    have z7 : V.cell? ⟨q, 7, none⟩ = some (.string A0.l.t) := hX.cell 7
    have z8 : V.cell? ⟨q, 8, none⟩ = some (.int .i64 A0.l.n) := hX.cell 8
    have z9 : V.cell? ⟨q, 9, none⟩ = some (.int .i64 A0.s.k) := hX.cell 9
    have z10 : V.cell? ⟨q, 10, none⟩ = some (.string A0.s.s) := hX.cell 10
    have z11 : V.cell? ⟨q, 11, none⟩ = some (.int .i64 A0.s.n) := hX.cell 11
    clear hV hX
    go_simp) ?_
  refine AnyL.pure 2 (some 20) (v := .agg #[.int .i64 B0.k, .int .i64 B0.t.k, .int .i64 B0.t.a, .string B0.t.x, .int .i64 B0.t.n, .int .i64 B0.l.k, .string B0.l.s, .string B0.l.t, .int .i64 B0.l.n, .int .i64 B0.s.k, .string B0.s.s, .int .i64 B0.s.n]) rfl rfl (by kernel_rfl) (by kernel_rfl) (by kernel_rfl) (fun _ _ _ h => h) (by kernel_rfl) (by kernel_rfl) (fun V hV => by
    have hX := hV.b
    have z0 : V.cell? ⟨q + 1, 0, none⟩ = some (.int .i64 B0.k) := hX.cell 0
    have z1 : V.cell? ⟨q + 1, 1, none⟩ = some (.int .i64 B0.t.k) := hX.cell 1
    have z2 : V.cell? ⟨q + 1, 2, none⟩ = some (.int .i64 B0.t.a) := hX.cell 2
    have z3 : V.cell? ⟨q + 1, 3, none⟩ = some (.string B0.t.x) := hX.cell 3
    have z4 : V.cell? ⟨q + 1, 4, none⟩ = some (.int .i64 B0.t.n) := hX.cell 4
    have z5 : V.cell? ⟨q + 1, 5, none⟩ = some (.int .i64 B0.l.k) := hX.cell 5
    have z6 : V.cell? ⟨q + 1, 6, none⟩ = some (.string B0.l.s) := hX.cell 6
    have z7 : V.cell? ⟨q + 1, 7, none⟩ = some (.string B0.l.t) := hX.cell 7
    have z8 : V.cell? ⟨q + 1, 8, none⟩ = some (.int .i64 B0.l.n) := hX.cell 8
    have z9 : V.cell? ⟨q + 1, 9, none⟩ = some (.int .i64 B0.s.k) := hX.cell 9
    have z10 : V.cell? ⟨q + 1, 10, none⟩ = some (.string B0.s.s) := hX.cell 10
    have z11 : V.cell? ⟨q + 1, 11, none⟩ = some (.int .i64 B0.s.n) := hX.cell 11
    clear hV hX
    go_simp) ?_
  simp only [Act.put, List.setIfInBounds_toArray, List.set_cons_zero, List.set_cons_succ]
  refine AnyL.call 1 (some 19) (.agg A.cells) rfl rfl (by kernel_rfl) (by kernel_rfl) (by kernel_rfl) (fun _ _ _ h => h) (by kernel_rfl) (by kernel_rfl) 9 Try.f9 Try.func9 (by kernel_rfl) (by kernel_rfl) _ _ rfl #[.agg #[.int .i64 A0.k, .int .i64 A0.t.k, .int .i64 A0.t.a, .string A0.t.x, .int .i64 A0.t.n, .int .i64 A0.l.k, .string A0.l.s, .string A0.l.t, .int .i64 A0.l.n, .int .i64 A0.s.k, .string A0.s.s, .int .i64 A0.s.n]] (by first | (simp [Act.eval]; done) | (simp [Act.eval, Act.put]; done)) (fun V hV => (HFA.out V).mono fun _ _ h => ⟨h.1, hV.more h.2⟩) ?_
  refine AnyL.call 3 (some 21) (.agg B.cells) rfl rfl (by kernel_rfl) (by kernel_rfl) (by kernel_rfl) (fun _ _ _ h => h) (by kernel_rfl) (by kernel_rfl) 9 Try.f9 Try.func9 (by kernel_rfl) (by kernel_rfl) _ _ rfl #[.agg #[.int .i64 B0.k, .int .i64 B0.t.k, .int .i64 B0.t.a, .string B0.t.x, .int .i64 B0.t.n, .int .i64 B0.l.k, .string B0.l.s, .string B0.l.t, .int .i64 B0.l.n, .int .i64 B0.s.k, .string B0.s.s, .int .i64 B0.s.n]] (by first | (simp [Act.eval]; done) | (simp [Act.eval, Act.put]; done)) (fun V hV => (HFB.out V).mono fun _ _ h => ⟨h.1, hV.more h.2⟩) ?_
  simp only [Act.put, List.setIfInBounds_toArray, List.set_cons_zero, List.set_cons_succ]
  refine AnyL.late (i := 4) (by kernel_rfl) (by decide) (fun V1 hV1 => ?_)
  refine wpOp_wp (o := ⟨none, _, _, _, _, _⟩) rfl (by kernel_rfl) (wp_store_row 35 _ _ rfl q A.cells rfl rfl 35 A0.cells hV1.a (by kernel_rfl) rfl (by simp [Value.oneCell', OpO.cells]) ?_)
  have ha1 := hV1.a.row A.cells
  have ta1 := turn_row V1 q A.cells
  generalize V1.setRow q A.cells = V2 at *
  have HB2 : Hid (Has V2 q 35 A.cells ∧ Has V2 (q + 1) 35 B0.cells ∧ Turn (fun j => w.heap.size ≤ j) w V2 ∧ w.heap.size ≤ q) := Lib.hid ⟨ha1, hV1.b.turn ta1 (by omega), hV1.turn.trans ta1 (fun j _ e => by have := hV1.lo; omega), hV1.lo⟩
  clear ha1 ta1 hV1
  simp only [Act.put]
  refine any_one (i := 5) (by kernel_rfl) ?_
  refine wpOp_wp (o := ⟨none, _, _, _, _, _⟩) rfl (by kernel_rfl) (wp_store_row 35 _ _ rfl (q + 1) B.cells rfl rfl 35 B0.cells HB2.out.2.1 (by kernel_rfl) rfl (by simp [Value.oneCell', OpO.cells]) ?_)
  have ha1 := HB2.out.2.1.row B.cells
  have ta1 := turn_row V2 (q + 1) B.cells
  generalize V2.setRow (q + 1) B.cells = V3 at *
  have HB3 : Hid (Bx w q A B V3) := Lib.hid ⟨HB2.out.1.turn ta1 (by omega), ha1, HB2.out.2.2.1.trans ta1 (fun j _ e => by have := HB2.out.2.2.2; omega), HB2.out.2.2.2⟩
  clear ha1 ta1 HB2 HB1 HFA HFB HFT HCC
  simp only [Act.put]
  refine wpAny_done (by kernel_rfl) ?_ _
  go_wp2_with fail
  have HAP : Hid (∀ V, Calls Try.prog 13 #[.agg #[.int .i64 A.k, .int .i64 A.t.k, .int .i64 A.t.a, .string A.t.x, .int .i64 A.t.n, .int .i64 A.l.k, .string A.l.s, .string A.l.t, .int .i64 A.l.n, .int .i64 A.s.k, .string A.s.s, .int .i64 A.s.n], .agg #[.int .i64 B.k, .int .i64 B.t.k, .int .i64 B.t.a, .string B.t.x, .int .i64 B.t.n, .int .i64 B.l.k, .string B.l.s, .string B.l.t, .int .i64 B.l.n, .int .i64 B.s.k, .string B.s.s, .int .i64 B.s.n]] V fun en w' => en = .returned (.bool (apB A B)) ∧ Below V.heap.size V w') := Lib.hid (fun V => oapart_calls A B V)
  have HPA : Hid (∀ V, Calls Try.prog 13 #[.agg #[.int .i64 B.k, .int .i64 B.t.k, .int .i64 B.t.a, .string B.t.x, .int .i64 B.t.n, .int .i64 B.l.k, .string B.l.s, .string B.l.t, .int .i64 B.l.n, .int .i64 B.s.k, .string B.s.s, .int .i64 B.s.n], .agg #[.int .i64 A.k, .int .i64 A.t.k, .int .i64 A.t.a, .string A.t.x, .int .i64 A.t.n, .int .i64 A.l.k, .string A.l.s, .string A.l.t, .int .i64 A.l.n, .int .i64 A.s.k, .string A.s.s, .int .i64 A.s.n]] V fun en w' => en = .returned (.bool (apB A B)) ∧ Below V.heap.size V w') := Lib.hid (fun V => by rw [apB_symm A B]; exact oapart_calls B A V)
  have HTA : Hid (∀ V, Calls Try.prog 11 #[.agg #[.int .i64 A.k, .int .i64 A.t.k, .int .i64 A.t.a, .string A.t.x, .int .i64 A.t.n, .int .i64 A.l.k, .string A.l.s, .string A.l.t, .int .i64 A.l.n, .int .i64 A.s.k, .string A.s.s, .int .i64 A.s.n]] V fun en w' => en = .returned (.agg #[.int .i64 A.k, .int .i64 A.t.k, .int .i64 A.t.a, .string A.t.x, .int .i64 A.t.n, .int .i64 A.l.k, .string A.l.s, .string A.l.t, .int .i64 A.l.n, .int .i64 A.s.k, .string A.s.s, .int .i64 A.s.n]) ∧ Below V.heap.size V w') := Lib.hid (fun V => told_calls A V)
  have HTB : Hid (∀ V, Calls Try.prog 11 #[.agg #[.int .i64 B.k, .int .i64 B.t.k, .int .i64 B.t.a, .string B.t.x, .int .i64 B.t.n, .int .i64 B.l.k, .string B.l.s, .string B.l.t, .int .i64 B.l.n, .int .i64 B.s.k, .string B.s.s, .int .i64 B.s.n]] V fun en w' => en = .returned (.agg #[.int .i64 B.k, .int .i64 B.t.k, .int .i64 B.t.a, .string B.t.x, .int .i64 B.t.n, .int .i64 B.l.k, .string B.l.s, .string B.l.t, .int .i64 B.l.n, .int .i64 B.s.k, .string B.s.s, .int .i64 B.s.n]) ∧ Below V.heap.size V w') := Lib.hid (fun V => told_calls B V)
  have HRA : Hid (∀ V, Calls Try.prog 14 #[.agg #[.int .i64 A.k, .int .i64 A.t.k, .int .i64 A.t.a, .string A.t.x, .int .i64 A.t.n, .int .i64 A.l.k, .string A.l.s, .string A.l.t, .int .i64 A.l.n, .int .i64 A.s.k, .string A.s.s, .int .i64 A.s.n], .agg #[.int .i64 B.k, .int .i64 B.t.k, .int .i64 B.t.a, .string B.t.x, .int .i64 B.t.n, .int .i64 B.l.k, .string B.l.s, .string B.l.t, .int .i64 B.l.n, .int .i64 B.s.k, .string B.s.s, .int .i64 B.s.n]] V fun en w' => en = .returned (.bool (apB A B)) ∧ Below V.heap.size V w') := Lib.hid (fun V => rapart_calls A B V)
  obtain ⟨pb, hpb⟩ : ∃ pb, pb = apB A B := ⟨_, rfl⟩
  have HPB := Lib.hid hpb
  rw [← hpb] at HAP HPA HRA
  clear hpb
  have e1 : (pb == pb) = true := by simp
  have e2 : (pb != pb) = false := by simp
  refine wp_region_S (Bx w q A B) (by kernel_rfl) (HB3.out.more ⟨rfl, rfl, rfl, Nat.le_refl _, fun _ _ => rfl⟩) ?_
  refine AnyS.pure 0 (some 22) (v := .agg #[.int .i64 A.k, .int .i64 A.t.k, .int .i64 A.t.a, .string A.t.x, .int .i64 A.t.n, .int .i64 A.l.k, .string A.l.s, .string A.l.t, .int .i64 A.l.n, .int .i64 A.s.k, .string A.s.s, .int .i64 A.s.n]) rfl rfl (by kernel_rfl) (by kernel_rfl) (by kernel_rfl) (fun _ _ _ h => h) (by kernel_rfl) (fun V hV => by
    have hX := hV.a
    have z0 : V.cell? ⟨q, 0, none⟩ = some (.int .i64 A.k) := hX.cell 0
    have z1 : V.cell? ⟨q, 1, none⟩ = some (.int .i64 A.t.k) := hX.cell 1
    have z2 : V.cell? ⟨q, 2, none⟩ = some (.int .i64 A.t.a) := hX.cell 2
    have z3 : V.cell? ⟨q, 3, none⟩ = some (.string A.t.x) := hX.cell 3
    have z4 : V.cell? ⟨q, 4, none⟩ = some (.int .i64 A.t.n) := hX.cell 4
    have z5 : V.cell? ⟨q, 5, none⟩ = some (.int .i64 A.l.k) := hX.cell 5
    have z6 : V.cell? ⟨q, 6, none⟩ = some (.string A.l.s) := hX.cell 6
    have z7 : V.cell? ⟨q, 7, none⟩ = some (.string A.l.t) := hX.cell 7
    have z8 : V.cell? ⟨q, 8, none⟩ = some (.int .i64 A.l.n) := hX.cell 8
    have z9 : V.cell? ⟨q, 9, none⟩ = some (.int .i64 A.s.k) := hX.cell 9
    have z10 : V.cell? ⟨q, 10, none⟩ = some (.string A.s.s) := hX.cell 10
    have z11 : V.cell? ⟨q, 11, none⟩ = some (.int .i64 A.s.n) := hX.cell 11
    clear hV hX
    go_simp) ?_
  refine AnyS.pure 1 (some 23) (v := .agg #[.int .i64 B.k, .int .i64 B.t.k, .int .i64 B.t.a, .string B.t.x, .int .i64 B.t.n, .int .i64 B.l.k, .string B.l.s, .string B.l.t, .int .i64 B.l.n, .int .i64 B.s.k, .string B.s.s, .int .i64 B.s.n]) rfl rfl (by kernel_rfl) (by kernel_rfl) (by kernel_rfl) (fun _ _ _ h => h) (by kernel_rfl) (fun V hV => by
    have hX := hV.b
    have z0 : V.cell? ⟨q + 1, 0, none⟩ = some (.int .i64 B.k) := hX.cell 0
    have z1 : V.cell? ⟨q + 1, 1, none⟩ = some (.int .i64 B.t.k) := hX.cell 1
    have z2 : V.cell? ⟨q + 1, 2, none⟩ = some (.int .i64 B.t.a) := hX.cell 2
    have z3 : V.cell? ⟨q + 1, 3, none⟩ = some (.string B.t.x) := hX.cell 3
    have z4 : V.cell? ⟨q + 1, 4, none⟩ = some (.int .i64 B.t.n) := hX.cell 4
    have z5 : V.cell? ⟨q + 1, 5, none⟩ = some (.int .i64 B.l.k) := hX.cell 5
    have z6 : V.cell? ⟨q + 1, 6, none⟩ = some (.string B.l.s) := hX.cell 6
    have z7 : V.cell? ⟨q + 1, 7, none⟩ = some (.string B.l.t) := hX.cell 7
    have z8 : V.cell? ⟨q + 1, 8, none⟩ = some (.int .i64 B.l.n) := hX.cell 8
    have z9 : V.cell? ⟨q + 1, 9, none⟩ = some (.int .i64 B.s.k) := hX.cell 9
    have z10 : V.cell? ⟨q + 1, 10, none⟩ = some (.string B.s.s) := hX.cell 10
    have z11 : V.cell? ⟨q + 1, 11, none⟩ = some (.int .i64 B.s.n) := hX.cell 11
    clear hV hX
    go_simp) ?_
  simp only [Act.put, List.setIfInBounds_toArray, List.set_cons_zero, List.set_cons_succ]
  refine AnyS.pure 3 (some 25) (v := .agg #[.int .i64 A.k, .int .i64 A.t.k, .int .i64 A.t.a, .string A.t.x, .int .i64 A.t.n, .int .i64 A.l.k, .string A.l.s, .string A.l.t, .int .i64 A.l.n, .int .i64 A.s.k, .string A.s.s, .int .i64 A.s.n]) rfl rfl (by kernel_rfl) (by kernel_rfl) (by kernel_rfl) (fun _ _ _ h => h) (by kernel_rfl) (fun V hV => by
    have hX := hV.a
    have z0 : V.cell? ⟨q, 0, none⟩ = some (.int .i64 A.k) := hX.cell 0
    have z1 : V.cell? ⟨q, 1, none⟩ = some (.int .i64 A.t.k) := hX.cell 1
    have z2 : V.cell? ⟨q, 2, none⟩ = some (.int .i64 A.t.a) := hX.cell 2
    have z3 : V.cell? ⟨q, 3, none⟩ = some (.string A.t.x) := hX.cell 3
    have z4 : V.cell? ⟨q, 4, none⟩ = some (.int .i64 A.t.n) := hX.cell 4
    have z5 : V.cell? ⟨q, 5, none⟩ = some (.int .i64 A.l.k) := hX.cell 5
    have z6 : V.cell? ⟨q, 6, none⟩ = some (.string A.l.s) := hX.cell 6
    have z7 : V.cell? ⟨q, 7, none⟩ = some (.string A.l.t) := hX.cell 7
    have z8 : V.cell? ⟨q, 8, none⟩ = some (.int .i64 A.l.n) := hX.cell 8
    have z9 : V.cell? ⟨q, 9, none⟩ = some (.int .i64 A.s.k) := hX.cell 9
    have z10 : V.cell? ⟨q, 10, none⟩ = some (.string A.s.s) := hX.cell 10
    have z11 : V.cell? ⟨q, 11, none⟩ = some (.int .i64 A.s.n) := hX.cell 11
    clear hV hX
    go_simp) ?_
  refine AnyS.pure 5 (some 27) (v := .agg #[.int .i64 B.k, .int .i64 B.t.k, .int .i64 B.t.a, .string B.t.x, .int .i64 B.t.n, .int .i64 B.l.k, .string B.l.s, .string B.l.t, .int .i64 B.l.n, .int .i64 B.s.k, .string B.s.s, .int .i64 B.s.n]) rfl rfl (by kernel_rfl) (by kernel_rfl) (by kernel_rfl) (fun _ _ _ h => h) (by kernel_rfl) (fun V hV => by
    have hX := hV.b
    have z0 : V.cell? ⟨q + 1, 0, none⟩ = some (.int .i64 B.k) := hX.cell 0
    have z1 : V.cell? ⟨q + 1, 1, none⟩ = some (.int .i64 B.t.k) := hX.cell 1
    have z2 : V.cell? ⟨q + 1, 2, none⟩ = some (.int .i64 B.t.a) := hX.cell 2
    have z3 : V.cell? ⟨q + 1, 3, none⟩ = some (.string B.t.x) := hX.cell 3
    have z4 : V.cell? ⟨q + 1, 4, none⟩ = some (.int .i64 B.t.n) := hX.cell 4
    have z5 : V.cell? ⟨q + 1, 5, none⟩ = some (.int .i64 B.l.k) := hX.cell 5
    have z6 : V.cell? ⟨q + 1, 6, none⟩ = some (.string B.l.s) := hX.cell 6
    have z7 : V.cell? ⟨q + 1, 7, none⟩ = some (.string B.l.t) := hX.cell 7
    have z8 : V.cell? ⟨q + 1, 8, none⟩ = some (.int .i64 B.l.n) := hX.cell 8
    have z9 : V.cell? ⟨q + 1, 9, none⟩ = some (.int .i64 B.s.k) := hX.cell 9
    have z10 : V.cell? ⟨q + 1, 10, none⟩ = some (.string B.s.s) := hX.cell 10
    have z11 : V.cell? ⟨q + 1, 11, none⟩ = some (.int .i64 B.s.n) := hX.cell 11
    clear hV hX
    go_simp) ?_
  simp only [Act.put, List.setIfInBounds_toArray, List.set_cons_zero, List.set_cons_succ]
  refine AnyS.call 2 (some 24) (.bool pb) rfl rfl (by kernel_rfl) (by kernel_rfl) (by kernel_rfl) (fun _ _ _ h => h) (by kernel_rfl) 13 Try.f13 Try.func13 (by kernel_rfl) (by kernel_rfl) _ _ rfl #[.agg #[.int .i64 A.k, .int .i64 A.t.k, .int .i64 A.t.a, .string A.t.x, .int .i64 A.t.n, .int .i64 A.l.k, .string A.l.s, .string A.l.t, .int .i64 A.l.n, .int .i64 A.s.k, .string A.s.s, .int .i64 A.s.n], .agg #[.int .i64 B.k, .int .i64 B.t.k, .int .i64 B.t.a, .string B.t.x, .int .i64 B.t.n, .int .i64 B.l.k, .string B.l.s, .string B.l.t, .int .i64 B.l.n, .int .i64 B.s.k, .string B.s.s, .int .i64 B.s.n]] (by first | (simp [Act.eval]; done) | (simp [Act.eval, Act.put]; done)) (fun V hV => (HAP.out V).mono fun _ _ h => ⟨h.1, hV.more h.2⟩) ?_
  refine AnyS.call 4 (some 26) (.agg #[.int .i64 A.k, .int .i64 A.t.k, .int .i64 A.t.a, .string A.t.x, .int .i64 A.t.n, .int .i64 A.l.k, .string A.l.s, .string A.l.t, .int .i64 A.l.n, .int .i64 A.s.k, .string A.s.s, .int .i64 A.s.n]) rfl rfl (by kernel_rfl) (by kernel_rfl) (by kernel_rfl) (fun _ _ _ h => h) (by kernel_rfl) 11 Try.f11 Try.func11 (by kernel_rfl) (by kernel_rfl) _ _ rfl #[.agg #[.int .i64 A.k, .int .i64 A.t.k, .int .i64 A.t.a, .string A.t.x, .int .i64 A.t.n, .int .i64 A.l.k, .string A.l.s, .string A.l.t, .int .i64 A.l.n, .int .i64 A.s.k, .string A.s.s, .int .i64 A.s.n]] (by first | (simp [Act.eval]; done) | (simp [Act.eval, Act.put]; done)) (fun V hV => (HTA.out V).mono fun _ _ h => ⟨h.1, hV.more h.2⟩) ?_
  simp only [Act.put, List.setIfInBounds_toArray, List.set_cons_zero, List.set_cons_succ]
  refine AnyS.call 6 (some 28) (.agg #[.int .i64 B.k, .int .i64 B.t.k, .int .i64 B.t.a, .string B.t.x, .int .i64 B.t.n, .int .i64 B.l.k, .string B.l.s, .string B.l.t, .int .i64 B.l.n, .int .i64 B.s.k, .string B.s.s, .int .i64 B.s.n]) rfl rfl (by kernel_rfl) (by kernel_rfl) (by kernel_rfl) (fun _ _ _ h => h) (by kernel_rfl) 11 Try.f11 Try.func11 (by kernel_rfl) (by kernel_rfl) _ _ rfl #[.agg #[.int .i64 B.k, .int .i64 B.t.k, .int .i64 B.t.a, .string B.t.x, .int .i64 B.t.n, .int .i64 B.l.k, .string B.l.s, .string B.l.t, .int .i64 B.l.n, .int .i64 B.s.k, .string B.s.s, .int .i64 B.s.n]] (by first | (simp [Act.eval]; done) | (simp [Act.eval, Act.put]; done)) (fun V hV => (HTB.out V).mono fun _ _ h => ⟨h.1, hV.more h.2⟩) ?_
  refine AnyS.call 7 (some 29) (.bool pb) rfl rfl (by kernel_rfl) (by kernel_rfl) (by kernel_rfl) (fun _ _ _ h => h) (by kernel_rfl) 14 Try.f14 Try.func14 (by kernel_rfl) (by kernel_rfl) _ _ rfl #[.agg #[.int .i64 A.k, .int .i64 A.t.k, .int .i64 A.t.a, .string A.t.x, .int .i64 A.t.n, .int .i64 A.l.k, .string A.l.s, .string A.l.t, .int .i64 A.l.n, .int .i64 A.s.k, .string A.s.s, .int .i64 A.s.n], .agg #[.int .i64 B.k, .int .i64 B.t.k, .int .i64 B.t.a, .string B.t.x, .int .i64 B.t.n, .int .i64 B.l.k, .string B.l.s, .string B.l.t, .int .i64 B.l.n, .int .i64 B.s.k, .string B.s.s, .int .i64 B.s.n]] (by first | (simp [Act.eval]; done) | (simp [Act.eval, Act.put]; done)) (fun V hV => (HRA.out V).mono fun _ _ h => ⟨h.1, hV.more h.2⟩) ?_
  simp only [Act.put, List.setIfInBounds_toArray, List.set_cons_zero, List.set_cons_succ]
  refine AnyS.pure 8 (some 30) (v := .bool false) rfl rfl (by kernel_rfl) (by kernel_rfl) (by kernel_rfl) (fun _ _ _ h => h) (by kernel_rfl) (fun V _ => by go_simp) ?_
  refine AnyS.pure 9 (some 31) (v := .bool false) rfl rfl (by kernel_rfl) (by kernel_rfl) (by kernel_rfl) (fun _ _ _ h => h) (by kernel_rfl) (fun V _ => by go_simp) ?_
  simp only [Act.put, List.setIfInBounds_toArray, List.set_cons_zero, List.set_cons_succ]
  refine AnyS.pure 10 (some 32) (v := .agg #[.int .i64 A.k, .int .i64 A.t.k, .int .i64 A.t.a, .string A.t.x, .int .i64 A.t.n, .int .i64 A.l.k, .string A.l.s, .string A.l.t, .int .i64 A.l.n, .int .i64 A.s.k, .string A.s.s, .int .i64 A.s.n]) rfl rfl (by kernel_rfl) (by kernel_rfl) (by kernel_rfl) (fun _ _ _ h => h) (by kernel_rfl) (fun V hV => by
    have hX := hV.a
    have z0 : V.cell? ⟨q, 0, none⟩ = some (.int .i64 A.k) := hX.cell 0
    have z1 : V.cell? ⟨q, 1, none⟩ = some (.int .i64 A.t.k) := hX.cell 1
    have z2 : V.cell? ⟨q, 2, none⟩ = some (.int .i64 A.t.a) := hX.cell 2
    have z3 : V.cell? ⟨q, 3, none⟩ = some (.string A.t.x) := hX.cell 3
    have z4 : V.cell? ⟨q, 4, none⟩ = some (.int .i64 A.t.n) := hX.cell 4
    have z5 : V.cell? ⟨q, 5, none⟩ = some (.int .i64 A.l.k) := hX.cell 5
    have z6 : V.cell? ⟨q, 6, none⟩ = some (.string A.l.s) := hX.cell 6
    have z7 : V.cell? ⟨q, 7, none⟩ = some (.string A.l.t) := hX.cell 7
    have z8 : V.cell? ⟨q, 8, none⟩ = some (.int .i64 A.l.n) := hX.cell 8
    have z9 : V.cell? ⟨q, 9, none⟩ = some (.int .i64 A.s.k) := hX.cell 9
    have z10 : V.cell? ⟨q, 10, none⟩ = some (.string A.s.s) := hX.cell 10
    have z11 : V.cell? ⟨q, 11, none⟩ = some (.int .i64 A.s.n) := hX.cell 11
    clear hV hX
    go_simp) ?_
  refine AnyS.pure 11 (some 33) (v := .agg #[.int .i64 B.k, .int .i64 B.t.k, .int .i64 B.t.a, .string B.t.x, .int .i64 B.t.n, .int .i64 B.l.k, .string B.l.s, .string B.l.t, .int .i64 B.l.n, .int .i64 B.s.k, .string B.s.s, .int .i64 B.s.n]) rfl rfl (by kernel_rfl) (by kernel_rfl) (by kernel_rfl) (fun _ _ _ h => h) (by kernel_rfl) (fun V hV => by
    have hX := hV.b
    have z0 : V.cell? ⟨q + 1, 0, none⟩ = some (.int .i64 B.k) := hX.cell 0
    have z1 : V.cell? ⟨q + 1, 1, none⟩ = some (.int .i64 B.t.k) := hX.cell 1
    have z2 : V.cell? ⟨q + 1, 2, none⟩ = some (.int .i64 B.t.a) := hX.cell 2
    have z3 : V.cell? ⟨q + 1, 3, none⟩ = some (.string B.t.x) := hX.cell 3
    have z4 : V.cell? ⟨q + 1, 4, none⟩ = some (.int .i64 B.t.n) := hX.cell 4
    have z5 : V.cell? ⟨q + 1, 5, none⟩ = some (.int .i64 B.l.k) := hX.cell 5
    have z6 : V.cell? ⟨q + 1, 6, none⟩ = some (.string B.l.s) := hX.cell 6
    have z7 : V.cell? ⟨q + 1, 7, none⟩ = some (.string B.l.t) := hX.cell 7
    have z8 : V.cell? ⟨q + 1, 8, none⟩ = some (.int .i64 B.l.n) := hX.cell 8
    have z9 : V.cell? ⟨q + 1, 9, none⟩ = some (.int .i64 B.s.k) := hX.cell 9
    have z10 : V.cell? ⟨q + 1, 10, none⟩ = some (.string B.s.s) := hX.cell 10
    have z11 : V.cell? ⟨q + 1, 11, none⟩ = some (.int .i64 B.s.n) := hX.cell 11
    clear hV hX
    go_simp) ?_
  simp only [Act.put, List.setIfInBounds_toArray, List.set_cons_zero, List.set_cons_succ]
  refine AnyS.pure 13 (some 35) (v := .agg #[.int .i64 B.k, .int .i64 B.t.k, .int .i64 B.t.a, .string B.t.x, .int .i64 B.t.n, .int .i64 B.l.k, .string B.l.s, .string B.l.t, .int .i64 B.l.n, .int .i64 B.s.k, .string B.s.s, .int .i64 B.s.n]) rfl rfl (by kernel_rfl) (by kernel_rfl) (by kernel_rfl) (fun _ _ _ h => h) (by kernel_rfl) (fun V hV => by
    have hX := hV.b
    have z0 : V.cell? ⟨q + 1, 0, none⟩ = some (.int .i64 B.k) := hX.cell 0
    have z1 : V.cell? ⟨q + 1, 1, none⟩ = some (.int .i64 B.t.k) := hX.cell 1
    have z2 : V.cell? ⟨q + 1, 2, none⟩ = some (.int .i64 B.t.a) := hX.cell 2
    have z3 : V.cell? ⟨q + 1, 3, none⟩ = some (.string B.t.x) := hX.cell 3
    have z4 : V.cell? ⟨q + 1, 4, none⟩ = some (.int .i64 B.t.n) := hX.cell 4
    have z5 : V.cell? ⟨q + 1, 5, none⟩ = some (.int .i64 B.l.k) := hX.cell 5
    have z6 : V.cell? ⟨q + 1, 6, none⟩ = some (.string B.l.s) := hX.cell 6
    have z7 : V.cell? ⟨q + 1, 7, none⟩ = some (.string B.l.t) := hX.cell 7
    have z8 : V.cell? ⟨q + 1, 8, none⟩ = some (.int .i64 B.l.n) := hX.cell 8
    have z9 : V.cell? ⟨q + 1, 9, none⟩ = some (.int .i64 B.s.k) := hX.cell 9
    have z10 : V.cell? ⟨q + 1, 10, none⟩ = some (.string B.s.s) := hX.cell 10
    have z11 : V.cell? ⟨q + 1, 11, none⟩ = some (.int .i64 B.s.n) := hX.cell 11
    clear hV hX
    go_simp) ?_
  refine AnyS.pure 14 (some 36) (v := .agg #[.int .i64 A.k, .int .i64 A.t.k, .int .i64 A.t.a, .string A.t.x, .int .i64 A.t.n, .int .i64 A.l.k, .string A.l.s, .string A.l.t, .int .i64 A.l.n, .int .i64 A.s.k, .string A.s.s, .int .i64 A.s.n]) rfl rfl (by kernel_rfl) (by kernel_rfl) (by kernel_rfl) (fun _ _ _ h => h) (by kernel_rfl) (fun V hV => by
    have hX := hV.a
    have z0 : V.cell? ⟨q, 0, none⟩ = some (.int .i64 A.k) := hX.cell 0
    have z1 : V.cell? ⟨q, 1, none⟩ = some (.int .i64 A.t.k) := hX.cell 1
    have z2 : V.cell? ⟨q, 2, none⟩ = some (.int .i64 A.t.a) := hX.cell 2
    have z3 : V.cell? ⟨q, 3, none⟩ = some (.string A.t.x) := hX.cell 3
    have z4 : V.cell? ⟨q, 4, none⟩ = some (.int .i64 A.t.n) := hX.cell 4
    have z5 : V.cell? ⟨q, 5, none⟩ = some (.int .i64 A.l.k) := hX.cell 5
    have z6 : V.cell? ⟨q, 6, none⟩ = some (.string A.l.s) := hX.cell 6
    have z7 : V.cell? ⟨q, 7, none⟩ = some (.string A.l.t) := hX.cell 7
    have z8 : V.cell? ⟨q, 8, none⟩ = some (.int .i64 A.l.n) := hX.cell 8
    have z9 : V.cell? ⟨q, 9, none⟩ = some (.int .i64 A.s.k) := hX.cell 9
    have z10 : V.cell? ⟨q, 10, none⟩ = some (.string A.s.s) := hX.cell 10
    have z11 : V.cell? ⟨q, 11, none⟩ = some (.int .i64 A.s.n) := hX.cell 11
    clear hV hX
    go_simp) ?_
  simp only [Act.put, List.setIfInBounds_toArray, List.set_cons_zero, List.set_cons_succ]
  refine AnyS.call 12 (some 34) (.bool pb) rfl rfl (by kernel_rfl) (by kernel_rfl) (by kernel_rfl) (fun _ _ _ h => h) (by kernel_rfl) 13 Try.f13 Try.func13 (by kernel_rfl) (by kernel_rfl) _ _ rfl #[.agg #[.int .i64 A.k, .int .i64 A.t.k, .int .i64 A.t.a, .string A.t.x, .int .i64 A.t.n, .int .i64 A.l.k, .string A.l.s, .string A.l.t, .int .i64 A.l.n, .int .i64 A.s.k, .string A.s.s, .int .i64 A.s.n], .agg #[.int .i64 B.k, .int .i64 B.t.k, .int .i64 B.t.a, .string B.t.x, .int .i64 B.t.n, .int .i64 B.l.k, .string B.l.s, .string B.l.t, .int .i64 B.l.n, .int .i64 B.s.k, .string B.s.s, .int .i64 B.s.n]] (by first | (simp [Act.eval]; done) | (simp [Act.eval, Act.put]; done)) (fun V hV => (HAP.out V).mono fun _ _ h => ⟨h.1, hV.more h.2⟩) ?_
  refine AnyS.call 15 (some 37) (.bool pb) rfl rfl (by kernel_rfl) (by kernel_rfl) (by kernel_rfl) (fun _ _ _ h => h) (by kernel_rfl) 13 Try.f13 Try.func13 (by kernel_rfl) (by kernel_rfl) _ _ rfl #[.agg #[.int .i64 B.k, .int .i64 B.t.k, .int .i64 B.t.a, .string B.t.x, .int .i64 B.t.n, .int .i64 B.l.k, .string B.l.s, .string B.l.t, .int .i64 B.l.n, .int .i64 B.s.k, .string B.s.s, .int .i64 B.s.n], .agg #[.int .i64 A.k, .int .i64 A.t.k, .int .i64 A.t.a, .string A.t.x, .int .i64 A.t.n, .int .i64 A.l.k, .string A.l.s, .string A.l.t, .int .i64 A.l.n, .int .i64 A.s.k, .string A.s.s, .int .i64 A.s.n]] (by first | (simp [Act.eval]; done) | (simp [Act.eval, Act.put]; done)) (fun V hV => (HPA.out V).mono fun _ _ h => ⟨h.1, hV.more h.2⟩) ?_
  simp only [Act.put, List.setIfInBounds_toArray, List.set_cons_zero, List.set_cons_succ]
  refine AnyS.pure 16 (some 38) (v := .bool false) rfl rfl (by kernel_rfl) (by kernel_rfl) (by kernel_rfl) (fun _ _ _ h => h) (by kernel_rfl) (fun V _ => by go_simp) ?_
  refine AnyS.pure 17 (some 39) (v := .bool false) rfl rfl (by kernel_rfl) (by kernel_rfl) (by kernel_rfl) (fun _ _ _ h => h) (by kernel_rfl) (fun V _ => by go_simp) ?_
  simp only [Act.put, List.setIfInBounds_toArray, List.set_cons_zero, List.set_cons_succ]
  refine AnyS.done (by kernel_rfl) (fun V4 hV4 => ?_) _
  have HB4 := Lib.hid hV4
  clear hV4 HB3 HRA HTA HTB HPA e1 e2
  go_wp2_with fail
  refine (onew_calls K V4 HK.out).mono ?_
  rintro en w5 ⟨v, rfl, st5, b5⟩
  obtain ⟨lo, hlo⟩ : ∃ lo, lo = V4.heap.size := ⟨_, rfl⟩
  obtain ⟨hi, hhi⟩ : ∃ hi, hi = w5.heap.size := ⟨_, rfl⟩
  rw [← hlo, ← hhi] at st5
  have L5 : Hid (La w q A B v lo hi K 0 (first K) w5) := Lib.hid ⟨⟨st5, by rcases HK.out with rfl | rfl | rfl <;> rfl, by rw [hlo]; exact HB4.out.turn.size, Nat.le_of_eq hhi, HB4.out.turn.trans (Turn.of_below b5 (F := fun j => V4.heap.size ≤ j) (fun _ _ e => e)) (fun j _ e => Nat.le_trans HB4.out.turn.size e)⟩, HB4.out.more b5, by rw [hlo]; exact HB4.out.b.lt, first_few K⟩
  clear st5 b5 hlo hhi HB4
  go_wp2_with fail
  go_loopw [11, 10] (fun i c wr => ∃ (k : Nat) (x : Ob), i = .int .i64 k ∧ c = .int .i64 k ∧ k ≤ 30 ∧ Hid (La w q A B v lo hi K k x wr)) (fun i _ _ => 30 - (RowKit.intOf i).toNat)
  case atStart => exact ⟨0, _, rfl, rfl, by omega, L5⟩
  case round =>
    clear L5
    obtain ⟨k, x, rfl, rfl, hk30, HD⟩ := hrel
    by_cases hk : k < len ∧ k < 30
    · obtain ⟨hk1, hk2⟩ := hk
      have hk1' : (k : Int) < (len : Int) := by omega
      have hk2' : (k : Int) < 30 := by omega
      have hk0' : (0 : Int) ≤ (k : Int) := by omega
      obtain ⟨T, d, fK, fD, fC, fS, F⟩ := face_of HD.out.lb.st
      obtain rfl := F.is
      have NA := Lib.hid (na_any HD.out.lb.st rfl)
      have HF := Lib.hid F
      clear F
      obtain ⟨b, p, rfl, hb, op, hop, hc⟩ := HA.out.2 k hk1
      have hbr : b < wr.heap.size := Nat.lt_of_lt_of_le hb HD.out.lb.turn.size
      obtain ⟨S, eS⟩ : ∃ S : World → Prop, S = fun V => ∀ j u, op.cells[j]? = some u → V.cell? ⟨b, p + k * 12 + j, none⟩ = some u := ⟨_, rfl⟩
      have HS0 : S wr := by rw [eS]; exact fun j u hu => (Turn.cell HD.out.lb.turn (p := ⟨b, p + k * 12 + j, none⟩) hb (fun h3 => Nat.not_lt_of_le h3 hb)).trans (hc j u hu)
      have HES := Lib.hid eS
      have HOP := Lib.hid hop
      clear eS hop hc
      go_wp2_with fail
      have HS1 : S wr.drew := by rw [HES.out] at HS0 ⊢; exact HS0
      have HD1 := Lib.hid (HD.out.more (V' := wr.drew) ⟨rfl, rfl, rfl, Nat.le_refl _, fun _ _ => rfl⟩)
      clear HD HS0
      refine wp_region_held (S := S) (by kernel_rfl) ?_
      refine held_take 0 (some 52) (v := .iface T (pv d)) rfl rfl (by kernel_rfl) (by kernel_rfl) (by kernel_rfl) (fun _ _ _ h => h) (.inl ⟨by kernel_rfl, fun V hV => by rfl⟩) HS1 ?_
      refine held_take 1 (some 53) (v := .slice (some ⟨b, p, none⟩) len cap) rfl rfl (by kernel_rfl) (by kernel_rfl) (by kernel_rfl) (fun _ _ _ h => h) (.inl ⟨by kernel_rfl, fun V hV => by rfl⟩) HS1 ?_
      simp only [Act.put, List.setIfInBounds_toArray, List.set_cons_zero, List.set_cons_succ]
      refine held_take 2 (some 54) (v := .int .i64 k) rfl rfl (by kernel_rfl) (by kernel_rfl) (by kernel_rfl) (fun _ _ _ h => h) (.inl ⟨by kernel_rfl, fun V hV => by rfl⟩) HS1 ?_
      refine held_take 3 (some 55) (v := .pointer (some ⟨b, p + k * 12, none⟩)) rfl rfl (by kernel_rfl) (by kernel_rfl) (by kernel_rfl) (fun _ _ _ h => h) (.inl ⟨by kernel_rfl, fun V hV => by go_simp⟩) HS1 ?_
      simp only [Act.put, List.setIfInBounds_toArray, List.set_cons_zero, List.set_cons_succ]
      refine held_take 4 (some 56) (v := .agg op.cells) rfl rfl (by kernel_rfl) (by kernel_rfl) (by kernel_rfl) (fun _ _ _ h => h) (.inl ⟨by kernel_rfl, fun V hV => by rw [HES.out] at hV; have z0 := hV 0 _ rfl; have z1 := hV 1 _ rfl; have z2 := hV 2 _ rfl; have z3 := hV 3 _ rfl; have z4 := hV 4 _ rfl; have z5 := hV 5 _ rfl; have z6 := hV 6 _ rfl; have z7 := hV 7 _ rfl; have z8 := hV 8 _ rfl; have z9 := hV 9 _ rfl; have z10 := hV 10 _ rfl; have z11 := hV 11 _ rfl; unfold OpO.cells; clear hV; simp only [Nat.add_zero] at z0; go_simp; exact ⟨rfl, rfl, rfl, rfl, rfl, rfl, rfl, rfl, rfl, rfl, rfl, rfl⟩⟩) HS1 ?_
      simp only [Act.put, List.setIfInBounds_toArray, List.set_cons_zero, List.set_cons_succ]
      refine held_take 6 (some 58) (v := .func (.method "Do") #[.iface T (pv d)] #[]) rfl rfl (by kernel_rfl) (by kernel_rfl) (by kernel_rfl) (fun _ _ _ h => h) (.inl ⟨by kernel_rfl, fun V _ => by have hmf : ∀ fn first cap w, (Instr.makeFunc fn first cap).run Try.prog w = .ok (.func fn first cap) w := (fun _ _ _ _ => rfl); go_simp⟩) HS1 ?_
      refine held_take 7 (some 59) (v := .func (.method "Do") #[.iface T (pv d)] #[]) rfl rfl (by kernel_rfl) (by kernel_rfl) (by kernel_rfl) (fun _ _ _ h => h) (.inl ⟨by kernel_rfl, fun V _ => by have hn := NA.out; go_simp⟩) HS1 ?_
      simp only [Act.put, List.setIfInBounds_toArray, List.set_cons_zero, List.set_cons_succ]
      refine held_take 8 (some 60) (v := .iface T (pv d)) rfl rfl (by kernel_rfl) (by kernel_rfl) (by kernel_rfl) (fun _ _ _ h => h) (.inl ⟨by kernel_rfl, fun _ _ => rfl⟩) HS1 ?_
      simp only [Act.put, List.setIfInBounds_toArray, List.set_cons_zero, List.set_cons_succ]
      refine held_one (i := 5) (by kernel_rfl) ?_
      refine wpOp_call (some 57) rfl rfl (by kernel_rfl) 9 Try.f9 Try.func9 (by kernel_rfl) (by kernel_rfl) _ _ rfl #[.agg op.cells] (by first | (simp [Act.eval]; done) | (simp [Act.eval, Act.put]; done)) (ofew_calls op _ HOP.out) ?_
      have hfs := OpO.few_short op
      generalize op.few = oq at hfs ⊢
      have HFS := Lib.hid hfs
      clear hfs
      rintro en w6 ⟨rfl, b6⟩
      have HS2 : S w6 := by
        rw [HES.out] at HS1 ⊢
        exact fun j u hu => (Turn.cell (Turn.of_below b6 (F := fun j => wr.drew.heap.size ≤ j) (fun _ _ e => e)) (p := ⟨b, p + k * 12 + j, none⟩) hbr (fun h3 => Nat.not_lt_of_le h3 hbr)).trans (HS1 j u hu)
      have D6 := Lib.hid (HD1.out.more b6)
      clear b6 HD1 HS1
      refine ⟨_, rfl, HS2, ?_⟩
      simp only [Act.put, List.setIfInBounds_toArray, List.set_cons_zero, List.set_cons_succ]
      refine held_one (i := 9) (by kernel_rfl) ?_
      refine wpOp_invoke (some 61) rfl rfl (by kernel_rfl) (.tmp 60) "Do" T (pv d) (by first | (simp [Act.eval]; done) | (simp [Act.eval, Act.put]; done)) fD (pv d) (HF.out.mD _ _) HF.out.eD _ _ rfl #[.agg oq.cells] (by first | (simp [Act.eval]; done) | (simp [Act.eval, Act.put]; done)) (HF.out.cD w6 x oq D6.out.lb.st D6.out.lb.phi HFS.out) ?_
      have hkd := act_kd x oq
      have hfw := few_act (o := oq) D6.out.lb.st D6.out.few
      generalize x.act oq = r at hkd hfw ⊢
      obtain ⟨y, e, z⟩ := r
      rintro en w7 ⟨rfl, st, t7⟩
      have HS3 : S w7 := by
        rw [HES.out] at HS2 ⊢
        exact fun j u hu => (Turn.cell t7 (p := ⟨b, p + k * 12 + j, none⟩) (Nat.lt_of_lt_of_le hb D6.out.lb.turn.size) (fun h3 => by have h4 := D6.out.lb.plo; have h5 : lo ≤ b := h3.1; omega)).trans (HS2 j u hu)
      have D7 : Hid (La w q A B (.iface T (pv d)) lo hi K (k + 1) y w7) := Lib.hid ⟨D6.out.lb.did st (hkd.trans D6.out.lb.kd) t7, D6.out.bx.far t7 D6.out.hq, D6.out.hq, hfw⟩
      clear st t7 D6 HS2 hfw
      refine ⟨_, rfl, HS3, ?_⟩
      simp only [Act.put, List.setIfInBounds_toArray, List.set_cons_zero, List.set_cons_succ]
      refine wpAnyH_done (by kernel_rfl) ?_ _
      clear HS3 HES
      go_wp2_with fail
      refine ⟨⟨k + 1, y, by rw [Int.natCast_add]; rfl, by rw [Int.natCast_add]; rfl, by omega, D7⟩, ?_⟩
      show 30 - ((k : Int) + 1).toNat < 30 - ((k : Int)).toNat
      omega
    · have hx : ((k : Int) < (len : Int) ∧ ¬ (k : Int) < 30) ∨ ¬ (k : Int) < (len : Int) := by omega
      clear hk
      obtain ⟨T, d, fK, fD, fC, fS, F⟩ := face_of HD.out.lb.st
      obtain rfl := F.is
      have HF := Lib.hid F
      have mc := F.mC
      have ec := F.eC
      clear F
      rcases hx with ⟨hx1, hx2⟩ | hx1
      all_goals
        go_wp2_with fail
        clear hx1
        try clear hx2
        refine (HF.out.cC HD.out.lb.st).mono ?_
        rintro en w6 ⟨vy, y, rfl, sty, hly, b6⟩
        obtain ⟨Ty, dy, fKy, fDy, fCy, fSy, Fy⟩ := face_of sty
        obtain rfl := Fy.is
        obtain ⟨lo2, hlo2⟩ : ∃ lo2, lo2 = wr.heap.size := ⟨_, rfl⟩
        obtain ⟨hi2, hhi2⟩ : ∃ hi2, hi2 = w6.heap.size := ⟨_, rfl⟩
        rw [← hlo2, ← hhi2] at Fy sty
        have HFy := Lib.hid Fy
        have H6 : Hid (La w q A B (.iface T (pv d)) lo hi K k x w6 ∧ St w6 (.iface Ty (pv dy)) lo2 hi2 y ∧ y.Like x ∧ hi2 ≤ w6.heap.size ∧ q + 1 < lo2) := Lib.hid ⟨HD.out.more b6, sty, hly, Nat.le_of_eq hhi2, by rw [hlo2]; exact HD.out.bx.b.lt⟩
        clear sty hly b6 Fy hlo2 hhi2 HD
        go_wp2_with fail
        refine (HF.out.cC H6.out.1.lb.st).mono ?_
        rintro en w7 ⟨vz, z, rfl, stz, hlz, b7⟩
        obtain ⟨Tz, dz, fKz, fDz, fCz, fSz, Fz⟩ := face_of stz
        obtain rfl := Fz.is
        obtain ⟨lo3, hlo3⟩ : ∃ lo3, lo3 = w6.heap.size := ⟨_, rfl⟩
        obtain ⟨hi3, hhi3⟩ : ∃ hi3, hi3 = w7.heap.size := ⟨_, rfl⟩
        rw [← hlo3, ← hhi3] at Fz stz
        have HFz := Lib.hid Fz
        have H7 : Hid (La w q A B (.iface T (pv d)) lo hi K k x w7 ∧ St w7 (.iface Ty (pv dy)) lo2 hi2 y ∧ y.Like x ∧ hi2 ≤ lo3 ∧ q + 1 < lo2 ∧ St w7 (.iface Tz (pv dz)) lo3 hi3 z ∧ z.Like x ∧ hi3 ≤ w7.heap.size ∧ q + 1 < lo3 ∧ hi2 ≤ w7.heap.size) := Lib.hid ⟨H6.out.1.more b7, H6.out.2.1.below b7 H6.out.2.2.2.1, H6.out.2.2.1, by rw [hlo3]; exact H6.out.2.2.2.1, H6.out.2.2.2.2, stz, hlz, Nat.le_of_eq hhi3, by have := H6.out.1.bx.b.lt; omega, Nat.le_trans H6.out.2.2.2.1 b7.size⟩
        clear stz hlz b7 Fz hlo3 hhi3 H6 mc ec
        by_cases hk14 : (14 : Int) < (k : Int)
        · go_wp2_with fail
          go_ret
          exact ⟨rfl, H7.out.1.lb.turn.below (Nat.le_refl _) (fun _ hj e => by omega)⟩
        · have HK14 : Hid (k ≤ 14) := Lib.hid (by omega)
          have hbx := H7.out.1.bx
          have z0 : w7.cell? ⟨q, 0, none⟩ = some (.int .i64 A.k) := hbx.a.cell 0
          have z1 : w7.cell? ⟨q, 1, none⟩ = some (.int .i64 A.t.k) := hbx.a.cell 1
          have z2 : w7.cell? ⟨q, 2, none⟩ = some (.int .i64 A.t.a) := hbx.a.cell 2
          have z3 : w7.cell? ⟨q, 3, none⟩ = some (.string A.t.x) := hbx.a.cell 3
          have z4 : w7.cell? ⟨q, 4, none⟩ = some (.int .i64 A.t.n) := hbx.a.cell 4
          have z5 : w7.cell? ⟨q, 5, none⟩ = some (.int .i64 A.l.k) := hbx.a.cell 5
          have z6 : w7.cell? ⟨q, 6, none⟩ = some (.string A.l.s) := hbx.a.cell 6
          have z7 : w7.cell? ⟨q, 7, none⟩ = some (.string A.l.t) := hbx.a.cell 7
          have z8 : w7.cell? ⟨q, 8, none⟩ = some (.int .i64 A.l.n) := hbx.a.cell 8
          have z9 : w7.cell? ⟨q, 9, none⟩ = some (.int .i64 A.s.k) := hbx.a.cell 9
          have z10 : w7.cell? ⟨q, 10, none⟩ = some (.string A.s.s) := hbx.a.cell 10
          have z11 : w7.cell? ⟨q, 11, none⟩ = some (.int .i64 A.s.n) := hbx.a.cell 11
          have y0 : w7.cell? ⟨q + 1, 0, none⟩ = some (.int .i64 B.k) := hbx.b.cell 0
          have y1 : w7.cell? ⟨q + 1, 1, none⟩ = some (.int .i64 B.t.k) := hbx.b.cell 1
          have y2 : w7.cell? ⟨q + 1, 2, none⟩ = some (.int .i64 B.t.a) := hbx.b.cell 2
          have y3 : w7.cell? ⟨q + 1, 3, none⟩ = some (.string B.t.x) := hbx.b.cell 3
          have y4 : w7.cell? ⟨q + 1, 4, none⟩ = some (.int .i64 B.t.n) := hbx.b.cell 4
          have y5 : w7.cell? ⟨q + 1, 5, none⟩ = some (.int .i64 B.l.k) := hbx.b.cell 5
          have y6 : w7.cell? ⟨q + 1, 6, none⟩ = some (.string B.l.s) := hbx.b.cell 6
          have y7 : w7.cell? ⟨q + 1, 7, none⟩ = some (.string B.l.t) := hbx.b.cell 7
          have y8 : w7.cell? ⟨q + 1, 8, none⟩ = some (.int .i64 B.l.n) := hbx.b.cell 8
          have y9 : w7.cell? ⟨q + 1, 9, none⟩ = some (.int .i64 B.s.k) := hbx.b.cell 9
          have y10 : w7.cell? ⟨q + 1, 10, none⟩ = some (.string B.s.s) := hbx.b.cell 10
          have y11 : w7.cell? ⟨q + 1, 11, none⟩ = some (.int .i64 B.s.n) := hbx.b.cell 11
          clear hbx
          cases pb with
          | false =>
            go_wp2_with (first
              | (go_at_call 13; refine (HAP.out _).mono ?_; rintro en w8 ⟨rfl, b8⟩
                 have E8 : Hid (Below w.heap.size w w8) := Lib.hid ((H7.out.1.lb.turn.below (Nat.le_refl _) (fun _ hj e => by omega)).trans (b8.mono H7.out.1.lb.turn.size))
                 clear b8)
              | fail)
            go_ret
            exact ⟨rfl, E8.out⟩
          | true =>
            have mdy := HFy.out.mD
            have edy := HFy.out.eD
            go_wp2_with (first
              | (go_at_call 13; refine (HAP.out _).mono ?_; rintro en w8 ⟨rfl, b8⟩
                 (have H8 : Hid (La w q A B (.iface T (pv d)) lo hi K k x w8 ∧ St w8 (.iface Ty (pv dy)) lo2 hi2 y ∧ St w8 (.iface Tz (pv dz)) lo3 hi3 z ∧ hi3 ≤ w8.heap.size ∧ hi2 ≤ w8.heap.size) := Lib.hid ⟨H7.out.1.more b8, H7.out.2.1.below b8 H7.out.2.2.2.2.2.2.2.2.2, H7.out.2.2.2.2.2.1.below b8 H7.out.2.2.2.2.2.2.2.1, Nat.le_trans H7.out.2.2.2.2.2.2.2.1 b8.size, Nat.le_trans H7.out.2.2.2.2.2.2.2.2.2 b8.size⟩)
                 have HL := Lib.hid (And.intro H7.out.2.2.1 (And.intro H7.out.2.2.2.1 (And.intro H7.out.2.2.2.2.1 (And.intro H7.out.2.2.2.2.2.2.1 H7.out.2.2.2.2.2.2.2.2.1))))
                 have hby := H8.out.1.bx
                 have c0 : w8.cell? ⟨q, 0, none⟩ = some (.int .i64 A.k) := hby.a.cell 0
                 have c1 : w8.cell? ⟨q, 1, none⟩ = some (.int .i64 A.t.k) := hby.a.cell 1
                 have c2 : w8.cell? ⟨q, 2, none⟩ = some (.int .i64 A.t.a) := hby.a.cell 2
                 have c3 : w8.cell? ⟨q, 3, none⟩ = some (.string A.t.x) := hby.a.cell 3
                 have c4 : w8.cell? ⟨q, 4, none⟩ = some (.int .i64 A.t.n) := hby.a.cell 4
                 have c5 : w8.cell? ⟨q, 5, none⟩ = some (.int .i64 A.l.k) := hby.a.cell 5
                 have c6 : w8.cell? ⟨q, 6, none⟩ = some (.string A.l.s) := hby.a.cell 6
                 have c7 : w8.cell? ⟨q, 7, none⟩ = some (.string A.l.t) := hby.a.cell 7
                 have c8 : w8.cell? ⟨q, 8, none⟩ = some (.int .i64 A.l.n) := hby.a.cell 8
                 have c9 : w8.cell? ⟨q, 9, none⟩ = some (.int .i64 A.s.k) := hby.a.cell 9
                 have c10 : w8.cell? ⟨q, 10, none⟩ = some (.string A.s.s) := hby.a.cell 10
                 have c11 : w8.cell? ⟨q, 11, none⟩ = some (.int .i64 A.s.n) := hby.a.cell 11
                 have d0 : w8.cell? ⟨q + 1, 0, none⟩ = some (.int .i64 B.k) := hby.b.cell 0
                 have d1 : w8.cell? ⟨q + 1, 1, none⟩ = some (.int .i64 B.t.k) := hby.b.cell 1
                 have d2 : w8.cell? ⟨q + 1, 2, none⟩ = some (.int .i64 B.t.a) := hby.b.cell 2
                 have d3 : w8.cell? ⟨q + 1, 3, none⟩ = some (.string B.t.x) := hby.b.cell 3
                 have d4 : w8.cell? ⟨q + 1, 4, none⟩ = some (.int .i64 B.t.n) := hby.b.cell 4
                 have d5 : w8.cell? ⟨q + 1, 5, none⟩ = some (.int .i64 B.l.k) := hby.b.cell 5
                 have d6 : w8.cell? ⟨q + 1, 6, none⟩ = some (.string B.l.s) := hby.b.cell 6
                 have d7 : w8.cell? ⟨q + 1, 7, none⟩ = some (.string B.l.t) := hby.b.cell 7
                 have d8 : w8.cell? ⟨q + 1, 8, none⟩ = some (.int .i64 B.l.n) := hby.b.cell 8
                 have d9 : w8.cell? ⟨q + 1, 9, none⟩ = some (.int .i64 B.s.k) := hby.b.cell 9
                 have d10 : w8.cell? ⟨q + 1, 10, none⟩ = some (.string B.s.s) := hby.b.cell 10
                 have d11 : w8.cell? ⟨q + 1, 11, none⟩ = some (.int .i64 B.s.n) := hby.b.cell 11
                 clear b8 H7 z0 y0 z1 y1 z2 y2 z3 y3 z4 y4 z5 y5 z6 y6 z7 y7 z8 y8 z9 y9 z10 y10 z11 y11 hby)
              | fail)
            have hfd : ∀ (e : Int) (g : ByteArray) (w' : World), (Instr.field 40 (.agg #[.int .i64 e, .string g]) 0).run Try.prog w' = .ok (.int .i64 e) w' := fun _ _ _ => rfl
            refine (HFy.out.cD w8 y A H8.out.2.1 H8.out.2.2.2.2 HSH.out.1).mono ?_
            rintro en w9 ⟨rfl, st9, t9⟩
            obtain ⟨r1, hr1⟩ : ∃ r1, r1 = y.act A := ⟨_, rfl⟩
            rw [← hr1] at st9 ⊢
            obtain ⟨y1, e1, g1⟩ := r1
            dsimp only at st9 ⊢
            have HR1 := Lib.hid hr1
            have H9 : Hid (Bx w q A B w9 ∧ St w9 (.iface Ty (pv dy)) lo2 hi2 y1 ∧ St w9 (.iface Tz (pv dz)) lo3 hi3 z ∧ hi3 ≤ w9.heap.size ∧ hi2 ≤ w9.heap.size) := Lib.hid ⟨H8.out.1.bx.far t9 HL.out.2.2.1, st9, H8.out.2.2.1.turn t9 (fun j _ _ _ => by have := HL.out.2.1; omega), Nat.le_trans H8.out.2.2.2.1 t9.size, Nat.le_trans H8.out.2.2.2.2 t9.size⟩
            have HX0 := Lib.hid (And.intro H8.out.1.lb.st (And.intro H8.out.1.few (And.intro H8.out.2.1 H8.out.2.2.1)))
            clear st9 t9 hr1 H8 c0 c1 c2 c3 c4 c5 c6 c7 c8 c9 c10 c11 d0 d1 d2 d3 d4 d5 d6 d7 d8 d9 d10 d11
            have hbz := H9.out.1
            have d0 : w9.cell? ⟨q + 1, 0, none⟩ = some (.int .i64 B.k) := hbz.b.cell 0
            have d1 : w9.cell? ⟨q + 1, 1, none⟩ = some (.int .i64 B.t.k) := hbz.b.cell 1
            have d2 : w9.cell? ⟨q + 1, 2, none⟩ = some (.int .i64 B.t.a) := hbz.b.cell 2
            have d3 : w9.cell? ⟨q + 1, 3, none⟩ = some (.string B.t.x) := hbz.b.cell 3
            have d4 : w9.cell? ⟨q + 1, 4, none⟩ = some (.int .i64 B.t.n) := hbz.b.cell 4
            have d5 : w9.cell? ⟨q + 1, 5, none⟩ = some (.int .i64 B.l.k) := hbz.b.cell 5
            have d6 : w9.cell? ⟨q + 1, 6, none⟩ = some (.string B.l.s) := hbz.b.cell 6
            have d7 : w9.cell? ⟨q + 1, 7, none⟩ = some (.string B.l.t) := hbz.b.cell 7
            have d8 : w9.cell? ⟨q + 1, 8, none⟩ = some (.int .i64 B.l.n) := hbz.b.cell 8
            have d9 : w9.cell? ⟨q + 1, 9, none⟩ = some (.int .i64 B.s.k) := hbz.b.cell 9
            have d10 : w9.cell? ⟨q + 1, 10, none⟩ = some (.string B.s.s) := hbz.b.cell 10
            have d11 : w9.cell? ⟨q + 1, 11, none⟩ = some (.int .i64 B.s.n) := hbz.b.cell 11
            clear hbz
            by_cases he : e1 = 0
            · subst he
              go_wp2_with fail
              refine (HFy.out.cD w9 y1 B H9.out.2.1 H9.out.2.2.2.2 HSH.out.2).mono ?_
              rintro en w10 ⟨rfl, st10, t10⟩
              obtain ⟨r2, hr2⟩ : ∃ r2, r2 = y1.act B := ⟨_, rfl⟩
              rw [← hr2] at st10 ⊢
              obtain ⟨y2, e2, g2⟩ := r2
              dsimp only at st10 ⊢
              have HR2 := Lib.hid hr2
              have H10 : Hid (Bx w q A B w10 ∧ St w10 (.iface Ty (pv dy)) lo2 hi2 y2 ∧ St w10 (.iface Tz (pv dz)) lo3 hi3 z ∧ hi3 ≤ w10.heap.size ∧ hi2 ≤ w10.heap.size) := Lib.hid ⟨H9.out.1.far t10 HL.out.2.2.1, st10, H9.out.2.2.1.turn t10 (fun j _ _ _ => by have := HL.out.2.1; omega), Nat.le_trans H9.out.2.2.2.1 t10.size, Nat.le_trans H9.out.2.2.2.2 t10.size⟩
              clear st10 t10 hr2 H9 d0 d1 d2 d3 d4 d5 d6 d7 d8 d9 d10 d11 mdy edy
              by_cases he2 : e2 = 0
              · subst he2
                have hap := act_apart HX0.out.1 HX0.out.2.2.1 HX0.out.2.2.2 (few_mono HX0.out.2.1 HK14.out) HL.out.1 HL.out.2.2.2.1 HPB.out.symm (by rw [← HR1.out]) (by rw [← HR1.out, ← HR2.out])
                rw [← HR1.out] at hap
                dsimp only at hap
                rw [← HR2.out] at hap
                dsimp only at hap
                have HAQ := Lib.hid hap
                clear hap
                have mdz := HFz.out.mD
                have edz := HFz.out.eD
                have hbz := H10.out.1
                have d0 : w10.cell? ⟨q + 1, 0, none⟩ = some (.int .i64 B.k) := hbz.b.cell 0
                have d1 : w10.cell? ⟨q + 1, 1, none⟩ = some (.int .i64 B.t.k) := hbz.b.cell 1
                have d2 : w10.cell? ⟨q + 1, 2, none⟩ = some (.int .i64 B.t.a) := hbz.b.cell 2
                have d3 : w10.cell? ⟨q + 1, 3, none⟩ = some (.string B.t.x) := hbz.b.cell 3
                have d4 : w10.cell? ⟨q + 1, 4, none⟩ = some (.int .i64 B.t.n) := hbz.b.cell 4
                have d5 : w10.cell? ⟨q + 1, 5, none⟩ = some (.int .i64 B.l.k) := hbz.b.cell 5
                have d6 : w10.cell? ⟨q + 1, 6, none⟩ = some (.string B.l.s) := hbz.b.cell 6
                have d7 : w10.cell? ⟨q + 1, 7, none⟩ = some (.string B.l.t) := hbz.b.cell 7
                have d8 : w10.cell? ⟨q + 1, 8, none⟩ = some (.int .i64 B.l.n) := hbz.b.cell 8
                have d9 : w10.cell? ⟨q + 1, 9, none⟩ = some (.int .i64 B.s.k) := hbz.b.cell 9
                have d10 : w10.cell? ⟨q + 1, 10, none⟩ = some (.string B.s.s) := hbz.b.cell 10
                have d11 : w10.cell? ⟨q + 1, 11, none⟩ = some (.int .i64 B.s.n) := hbz.b.cell 11
                clear hbz
                go_wp2_with fail
                refine (HFz.out.cD w10 z B H10.out.2.2.1 H10.out.2.2.2.1 HSH.out.2).mono ?_
                obtain ⟨r3, hr3⟩ : ∃ r3, r3 = z.act B := ⟨_, rfl⟩
                rw [← hr3] at HAQ ⊢
                obtain ⟨z1, e3, g3⟩ := r3
                dsimp only at HAQ ⊢
                obtain ⟨rfl, -, -⟩ := (show e3 = 0 ∧ True ∧ True from ⟨HAQ.out.1, trivial, trivial⟩)
                rintro en w11 ⟨rfl, st11, t11⟩
                have H11 : Hid (Bx w q A B w11 ∧ St w11 (.iface Ty (pv dy)) lo2 hi2 y2 ∧ St w11 (.iface Tz (pv dz)) lo3 hi3 z1 ∧ hi3 ≤ w11.heap.size ∧ hi2 ≤ w11.heap.size) := Lib.hid ⟨H10.out.1.far t11 HL.out.2.2.2.2, H10.out.2.1.turn t11 (fun j _ _ _ => by have := HL.out.2.1; omega), st11, Nat.le_trans H10.out.2.2.2.1 t11.size, Nat.le_trans H10.out.2.2.2.2 t11.size⟩
                clear st11 t11 hr3 H10 d0 d1 d2 d3 d4 d5 d6 d7 d8 d9 d10 d11
                have hbz := H11.out.1
                have c0 : w11.cell? ⟨q, 0, none⟩ = some (.int .i64 A.k) := hbz.a.cell 0
                have c1 : w11.cell? ⟨q, 1, none⟩ = some (.int .i64 A.t.k) := hbz.a.cell 1
                have c2 : w11.cell? ⟨q, 2, none⟩ = some (.int .i64 A.t.a) := hbz.a.cell 2
                have c3 : w11.cell? ⟨q, 3, none⟩ = some (.string A.t.x) := hbz.a.cell 3
                have c4 : w11.cell? ⟨q, 4, none⟩ = some (.int .i64 A.t.n) := hbz.a.cell 4
                have c5 : w11.cell? ⟨q, 5, none⟩ = some (.int .i64 A.l.k) := hbz.a.cell 5
                have c6 : w11.cell? ⟨q, 6, none⟩ = some (.string A.l.s) := hbz.a.cell 6
                have c7 : w11.cell? ⟨q, 7, none⟩ = some (.string A.l.t) := hbz.a.cell 7
                have c8 : w11.cell? ⟨q, 8, none⟩ = some (.int .i64 A.l.n) := hbz.a.cell 8
                have c9 : w11.cell? ⟨q, 9, none⟩ = some (.int .i64 A.s.k) := hbz.a.cell 9
                have c10 : w11.cell? ⟨q, 10, none⟩ = some (.string A.s.s) := hbz.a.cell 10
                have c11 : w11.cell? ⟨q, 11, none⟩ = some (.int .i64 A.s.n) := hbz.a.cell 11
                clear hbz
                go_wp2_with fail
                refine (HFz.out.cD w11 z1 A H11.out.2.2.1 H11.out.2.2.2.1 HSH.out.1).mono ?_
                obtain ⟨r4, hr4⟩ : ∃ r4, r4 = z1.act A := ⟨_, rfl⟩
                rw [← hr4] at HAQ ⊢
                obtain ⟨z2, e4, g4⟩ := r4
                dsimp only at HAQ ⊢
                obtain ⟨rfl, -, -⟩ := (show e4 = 0 ∧ True ∧ True from ⟨HAQ.out.2.1, trivial, trivial⟩)
                rintro en w12 ⟨rfl, st12, t12⟩
                have H12 : Hid (Bx w q A B w12 ∧ St w12 (.iface Ty (pv dy)) lo2 hi2 y2 ∧ St w12 (.iface Tz (pv dz)) lo3 hi3 z2 ∧ hi3 ≤ w12.heap.size ∧ hi2 ≤ w12.heap.size) := Lib.hid ⟨H11.out.1.far t12 HL.out.2.2.2.2, H11.out.2.1.turn t12 (fun j _ _ _ => by have := HL.out.2.1; omega), st12, Nat.le_trans H11.out.2.2.2.1 t12.size, Nat.le_trans H11.out.2.2.2.2 t12.size⟩
                have hsy := fun W (h : St W (.iface Ty (pv dy)) lo2 hi2 y2) => HFy.out.cS W y2 h
                rw [HAQ.out.2.2] at hsy
                have HSY := Lib.hid hsy
                clear st12 t12 hr4 H11 c0 c1 c2 c3 c4 c5 c6 c7 c8 c9 c10 c11 mdz edz hsy
                have msy := HFy.out.mS
                have esy := HFy.out.eS
                have msz := HFz.out.mS
                have esz := HFz.out.eS
                have hss : (z2.save.toList == z2.save.toList) = true := by simp
                go_wp2_with fail
                refine (HSY.out w12 H12.out.2.1).mono ?_
                rintro en w13 ⟨rfl, b13⟩
                have H13 : Hid (Bx w q A B w13 ∧ St w13 (.iface Tz (pv dz)) lo3 hi3 z2) := Lib.hid ⟨H12.out.1.more b13, H12.out.2.2.1.below b13 H12.out.2.2.2.1⟩
                clear b13 H12
                go_wp2_with fail
                refine (HFz.out.cS w13 z2 H13.out.2).mono ?_
                rintro en w14 ⟨rfl, b14⟩
                have H14 := Lib.hid (H13.out.1.more b14)
                clear b14 H13
                go_wp2_with fail
                go_ret
                exact ⟨rfl, H14.out.turn.below (Nat.le_refl _) (fun _ hj e => by omega)⟩
              · have hne : (e2 != 0) = true := by simpa using he2
                clear he2
                go_wp2_with fail
                go_ret
                exact ⟨rfl, H10.out.1.turn.below (Nat.le_refl _) (fun _ hj e => by omega)⟩
            · have hne : (e1 != 0) = true := by simpa using he
              clear he
              go_wp2_with fail
              go_ret
              exact ⟨rfl, H9.out.1.turn.below (Nat.le_refl _) (fun _ hj e => by omega)⟩

def Arg1 (w : World) (a : Option Addr) (len _cap : Nat) : Prop := ArgO w a len
set_option maxRecDepth 100000 in
theorem opened1 {H : Type} {enc : TypeId × Value → H} {w : World} {spare : Nat → Bool} {held : Bool} {a : Option Addr} {len cap : Nat} {d : DataW H} {p : List MemPlace} (h : DataW.Trod enc Try.prog w 0 spare held 22 (.slice a len cap) d p) : Arg1 w a len cap := openedO h
set_option maxRecDepth 100000 in
theorem openedS2 {H : Type} {enc : TypeId × Value → H} {w W : World} {spare : Nat → Bool} {held : Bool} {r : Reach} {b0 : Nat} {v : Value} {d : DataW H} {p : List MemPlace} (hw : Value.okWide Try.prog W r b0 35 v) (h : DataW.Trod enc Try.prog w 0 spare held 35 v d p) :
    ∃ o : OpO, o.Fits ∧ v = .agg o.cells := openedV hw h
set_option maxRecDepth 100000 in
theorem openedS3 {H : Type} {enc : TypeId × Value → H} {w W : World} {spare : Nat → Bool} {held : Bool} {r : Reach} {b0 : Nat} {v : Value} {d : DataW H} {p : List MemPlace} (hw : Value.okWide Try.prog W r b0 35 v) (h : DataW.Trod enc Try.prog w 0 spare held 35 v d p) :
    ∃ o : OpO, o.Fits ∧ v = .agg o.cells := openedV hw h
set_option maxRecDepth 100000 in
theorem walk (a0 : Int) (a1 : Option Addr) (len1 cap1 : Nat) (a2 a3 : OpO) (w : World) (_w0 : (Lit.int .i64 a0).wf = true) (w1 : Arg1 w a1 len1 cap1) (w2 : a2.Fits) (w3 : a3.Fits) :
    Calls Try.prog 4 #[.int .i64 a0, .slice a1 len1 cap1, .agg a2.cells, .agg a3.cells] w fun en w' => en = .returned (.bool true) ∧ Below w.heap.size w w' := apart_any a0 a1 len1 cap1 a2 a3 w w1 w2 w3

theorem own : ownKnob Try.prog.godebug = none := by kernel_rfl
theorem laidOut : laidOutB Try.prog = true := by kernel_rfl

set_option maxRecDepth 100000 in
theorem lifted (os : Os) (started : os.Started) (H : Type) (enc : TypeId × Value → H) :
    ReturnsInHanded {} Try.checked os 4 .any (Rows.objectApartSpec.pre6 enc Try.prog Try.f4 Rows.objectApartRow.domain false) (Rows.objectApartSpec.post enc Try.prog Try.f4 false true false false) := by
  refine returnsInHanded_of_change (C := Try.checked) own started (by kernel_rfl) Try.func4
    (ChangeSpec.witness6 (enc := enc) (C := Try.checked) false ⟨#[], #[.int .i64 0, .slice none 0 0, .agg #[.int .i64 0, .int .i64 0, .int .i64 0, .string ByteArray.empty, .int .i64 0, .int .i64 0, .string ByteArray.empty, .string ByteArray.empty, .int .i64 0, .int .i64 0, .string ByteArray.empty, .int .i64 0], .agg #[.int .i64 0, .int .i64 0, .int .i64 0, .string ByteArray.empty, .int .i64 0, .int .i64 0, .string ByteArray.empty, .string ByteArray.empty, .int .i64 0, .int .i64 0, .string ByteArray.empty, .int .i64 0]], []⟩ 8 (by kernel_rfl) (by kernel_rfl) (by kernel_rfl) (by kernel_rfl)) ?_
  intro W base args ds gs before hval0 hW _ _
  have hval : ∀ (j : Nat) t v, Try.f4.params[j]? = some t → args[j]? = some v → Value.okWide Try.prog W .any base t v := hval0
  have hW' := hW
  obtain ⟨p, q, hA0, hV, rfl, _, _⟩ := hW
  have hA : DataW.TrodAll enc Try.prog W 0 (fun _ => true) true Try.f4.params.toList args.toList ds p := hA0
  rw [Try.params4] at hA hval
  obtain ⟨v0, vs0, d0, ds0, p0, q0, hargs, rfl, rfl, h0, r0⟩ := trodAll_cons hA
  obtain ⟨v1, vs1, d1, ds1, p1, q1, rfl, rfl, rfl, h1, r1⟩ := trodAll_cons r0
  obtain ⟨v2, vs2, d2, ds2, p2, q2, rfl, rfl, rfl, h2, r2⟩ := trodAll_cons r1
  obtain ⟨v3, vs3, d3, ds3, p3, q3, rfl, rfl, rfl, h3, r3⟩ := trodAll_cons r2
  obtain ⟨rfl, rfl, rfl⟩ := trodAll_nil r3
  obtain rfl : args = #[v0, v1, v2, v3] := by cases args; simp_all
  obtain ⟨rfl, rfl⟩ := trodVars_none hV
  obtain ⟨a0, rfl, rfl, rfl, w0⟩ := open_int Try.underlying3 (hval 0 3 v0 rfl rfl) h0
  obtain ⟨a1, len1, cap1, rfl⟩ := okWide_slice Try.underlying22 (hval 1 22 v1 rfl rfl)
  have k1 := h1
  have lt1 : ∀ x ∈ p1, x.block < W.heap.size := by obtain ⟨m, hm⟩ := k1; exact DataW.trod_lt m _ _ _ hm
  have w1 : Arg1 W a1 len1 cap1 := opened1 h1
  obtain ⟨a2, w2, rfl⟩ := openedS2 (hval 2 35 v2 rfl rfl) h2
  have k2 := h2
  have lt2 : ∀ x ∈ p2, x.block < W.heap.size := by obtain ⟨m, hm⟩ := k2; exact DataW.trod_lt m _ _ _ hm
  obtain ⟨a3, w3, rfl⟩ := openedS3 (hval 3 35 v3 rfl rfl) h3
  have k3 := h3
  have lt3 : ∀ x ∈ p3, x.block < W.heap.size := by obtain ⟨m, hm⟩ := k3; exact DataW.trod_lt m _ _ _ hm
  clear hA0 hval0
  refine (walk a0 a1 len1 cap1 a2 a3 W w0 w1 w2 w3).mono fun e W' ⟨he, bel⟩ => ?_
  subst he
  exact ⟨_, rfl, _, _, _, [], _, [], hW', trodAll_mk1 (shut_bool Try.underlying4 _), (trodAll_cons_mk (shut_int Try.underlying3 w0) (trodAll_cons_mk (Below.trod laidOut (by kernel_rfl) (of_decide_eq_true (by kernel_rfl)) k1 bel lt1) (trodAll_cons_mk (Below.trod laidOut (by kernel_rfl) (of_decide_eq_true (by kernel_rfl)) k2 bel lt2) (trodAll_cons_mk (Below.trod laidOut (by kernel_rfl) (of_decide_eq_true (by kernel_rfl)) k3 bel lt3) trodAll_mk0)))), rfl, bel.frame _, fun h => by cases h⟩

theorem over : Rows.objectApartRow.holds Try.pinned (OpenSpec.ofChange Rows.objectApartSpec) :=
  OpenClaim.holds_of_wide 4 Try.f4 rfl rfl rfl rfl rfl rfl rfl ⟨rfl, rfl, rfl, rfl, rfl⟩ rfl rfl rfl rfl rfl (by kernel_rfl) Try.func4 (by kernel_rfl)
    (of_decide_eq_true (by kernel_rfl)) (by unfold Func.isWrapper; first | (rw [if_pos (by decide +kernel)]; kernel_rfl) | (rw [if_neg (by decide +kernel)]; exact ⟨rfl, rfl⟩))
    (fun os started H enc _ => lifted os started H enc)

theorem proved : Rows.ObjectApartSaid := over

end Go.Proofs.Ytndnjeahepahkaa.object.objectApart
