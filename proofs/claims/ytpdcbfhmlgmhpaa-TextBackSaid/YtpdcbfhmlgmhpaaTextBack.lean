/- TextBack: for every list of ops the law answers true, and its argument reads afterwards as it did. Conditions: none. -/
import Derived.Test.YtpdcbfhmlgmhpaaTextC
import Derived.Test.YtpdcbfhmlgmhpaaOwn
import Derived.Test.YtpdcbfhmlgmhpaaAny
import Derived.Lib.ItoaWalk
namespace Go.Proofs.Ytpdcbfhmlgmhpaa.textBack
open Go.ChangeShapes Go.WideShapes Go.ChangeAt Go.RowKit

/-- What takes back, the last one first, comes to nothing. -/
def Undo : ByteArray → List (OpV × ByteArray) → Prop
  | s, [] => s = ⟨#[]⟩
  | s, (o, s0) :: t => (doV s o).1 = s0 ∧ (doV s o).2.2 = 0 ∧ o.chk = 0 ∧ s0.size ≤ 200 ∧ o.x.size ≤ 200 ∧ Undo s0 t

def opCells (B : List OpV) : List Value := B.flatMap OpV.cells
def strCells (W : List ByteArray) : List Value := W.map Value.string
def opsOf (L : List (OpV × ByteArray)) : List OpV := (L.map (fun p => p.1)).reverse
def wasOf (L : List (OpV × ByteArray)) : List ByteArray := (L.map (fun p => p.2)).reverse

theorem opCells_length (B : List OpV) : (opCells B).length = B.length * 4 := by
  induction B with
  | nil => rfl
  | cons o B ih => simp only [opCells, List.flatMap_cons, List.length_append, List.length_cons] at ih ⊢; rw [ih]; simp [OpV.cells]; omega

theorem opCells_get (B : List OpV) (i : Nat) (o : OpV) (h : B[i]? = some o) : (opCells B)[i * 4]? = some (.int .i64 o.k) ∧ (opCells B)[i * 4 + 1]? = some (.int .i64 o.a) ∧ (opCells B)[i * 4 + 2]? = some (.string o.x) ∧ (opCells B)[i * 4 + 3]? = some (.int .i64 o.n) := by
  induction B generalizing i with
  | nil => simp at h
  | cons p B ih =>
    have e : opCells (p :: B) = p.cells ++ opCells B := rfl
    cases i with
    | zero =>
      simp at h
      subst h
      simp [e, OpV.cells]
    | succ i =>
      have h2 := ih i (by simpa using h)
      have hl : p.cells.length = 4 := rfl
      rw [e, List.getElem?_append_right (by omega), List.getElem?_append_right (by omega), List.getElem?_append_right (by omega), List.getElem?_append_right (by omega), hl]
      have e1 : (i + 1) * 4 - 4 = i * 4 := by omega
      have e2 : (i + 1) * 4 + 1 - 4 = i * 4 + 1 := by omega
      have e3 : (i + 1) * 4 + 2 - 4 = i * 4 + 2 := by omega
      have e4 : (i + 1) * 4 + 3 - 4 = i * 4 + 3 := by omega
      rw [e1, e2, e3, e4]
      exact h2

/-- The document, what takes back, what it was. -/
structure Bk (w : World) (d : Nat) (s : ByteArray) (vb vw : Value) (B : List OpV) (W : List ByteArray) (wr : World) : Prop where
  doc : Dc wr d s
  few : s.size ≤ 200
  ops : wr.ownsRow 0 27 4 vb B.length (opCells B)
  was : wr.ownsRow 0 9 1 vw W.length (strCells W)
  newb : ∀ b, vb.ownBlock = some b → w.heap.size ≤ b
  neww : ∀ b, vw.ownBlock = some b → w.heap.size ≤ b
  newd : w.heap.size ≤ d
  turn : Turn (fun j => w.heap.size ≤ j) w wr

section
variable {w wr w' : World} {d : Nat} {s s' : ByteArray} {vb vw : Value} {B : List OpV} {W : List ByteArray}

theorem Bk.more (h : Bk w d s vb vw B W wr) (t : Turn (fun j => wr.heap.size ≤ j) wr w') : Bk w d s vb vw B W w' :=
  ⟨h.doc.turn t (Nat.not_le_of_lt h.doc.lt), h.few, own_turn h.ops t (fun _ hb => Nat.not_le_of_lt (own_lt h.ops hb)), own_turn h.was t (fun _ hb => Nat.not_le_of_lt (own_lt h.was hb)), h.newb, h.neww, h.newd,
    h.turn.trans t (fun _ _ e => Nat.le_trans h.turn.size e)⟩

theorem Bk.did (h : Bk w d s vb vw B W wr) (e : Dc w' d s') (f : s'.size ≤ 200) (g : wr.grownBy w' (some d)) : Bk w d s' vb vw B W w' := by
  have t : Turn (fun j => j = d) wr w' := Turn.of_grown g rfl
  exact ⟨e, f, own_turn h.ops t (fun b hb k => by subst k; exact own_ne h.ops h.doc (by decide) hb), own_turn h.was t (fun b hb k => by subst k; exact own_ne h.was h.doc (by decide) hb), h.newb, h.neww, h.newd,
    h.turn.trans t (fun j _ e => by rw [e]; exact h.newd)⟩

theorem Bk.pushB (h : Bk w d s vb vw B W wr) (o : OpV) {g cap : Nat} (hown : w'.ownsRow 0 27 4 (.slice (some ⟨g, 0, none⟩) (B.length + 1) cap) (B.length + 1) (opCells B ++ o.cells)) (hg : wr.grownBy w' vb.ownBlock) (hat : vb.ownBlock = some g ∨ g = wr.heap.size) :
    Bk w d s (.slice (some ⟨g, 0, none⟩) (B.length + 1) cap) vw (B ++ [o]) W w' := by
  have t : Turn (fun j => vb.ownBlock = some j) wr w' := (Turn.refl _ wr).grown hg (fun _ e _ => e)
  refine ⟨h.doc.turn t (own_ne h.ops h.doc (by decide)), h.few, ?_, own_turn h.was t (fun b hb k => own_own h.ops h.was (by decide) b k hb), ?_, h.neww, h.newd, h.turn.trans t (fun j _ e => h.newb j e)⟩
  · rw [List.length_append]
    have e : opCells (B ++ [o]) = opCells B ++ o.cells := by simp [opCells]
    rw [e]
    exact hown
  · intro b hb
    injection hb with hb
    obtain rfl : g = b := hb
    rcases hat with k | k
    · exact h.newb _ k
    · rw [k]; exact h.turn.size

theorem Bk.pushW (h : Bk w d s vb vw B W wr) (x : ByteArray) {g cap : Nat} (hown : w'.ownsRow 0 9 1 (.slice (some ⟨g, 0, none⟩) (W.length + 1) cap) (W.length + 1) (strCells W ++ [.string x])) (hg : wr.grownBy w' vw.ownBlock) (hat : vw.ownBlock = some g ∨ g = wr.heap.size) :
    Bk w d s vb (.slice (some ⟨g, 0, none⟩) (W.length + 1) cap) B (W ++ [x]) w' := by
  have t : Turn (fun j => vw.ownBlock = some j) wr w' := (Turn.refl _ wr).grown hg (fun _ e _ => e)
  refine ⟨h.doc.turn t (own_ne h.was h.doc (by decide)), h.few, own_turn h.ops t (fun b hb k => own_own h.ops h.was (by decide) b hb k), ?_, h.newb, ?_, h.newd, h.turn.trans t (fun j _ e => h.neww j e)⟩
  · rw [List.length_append]
    have e : strCells (W ++ [x]) = strCells W ++ [.string x] := by simp [strCells]
    rw [e]
    exact hown
  · intro b hb
    injection hb with hb
    obtain rfl : g = b := hb
    rcases hat with k | k
    · exact h.neww _ k
    · rw [k]; exact h.turn.size
end

theorem Try.zeroOp : ∃ i z, Try.prog.info? 27 = some i ∧ i.zero = some z ∧ i.size = 4 ∧ z.cells.size = 4 ∧ i.bytes = 40 := by
  have h2 : (Try.prog.info? 27).map (fun i => (i.zero.map (fun z => z.cells.size), i.size, i.bytes)) = some (some 4, 4, 40) := by kernel_rfl
  obtain ⟨i, hi, e⟩ := Option.map_eq_some_iff.1 h2
  simp at e
  obtain ⟨⟨z, hz, hz2⟩, h3, h4⟩ := e
  exact ⟨i, z, hi, hz, h3, hz2, h4⟩

theorem Try.zeroStr : ∃ i z, Try.prog.info? 9 = some i ∧ i.zero = some z ∧ i.size = 1 ∧ z.cells.size = 1 ∧ i.bytes = 16 := by
  have h2 : (Try.prog.info? 9).map (fun i => (i.zero.map (fun z => z.cells.size), i.size, i.bytes)) = some (some 1, 1, 16) := by kernel_rfl
  obtain ⟨i, hi, e⟩ := Option.map_eq_some_iff.1 h2
  simp at e
  obtain ⟨⟨z, hz, hz2⟩, h3, h4⟩ := e
  exact ⟨i, z, hi, hz, h3, hz2, h4⟩

theorem oneCell_op (o : OpV) : ∀ u ∈ o.cells, u.oneCell' = true := by
  intro u hu
  simp only [OpV.cells, List.mem_cons, List.not_mem_nil, or_false] at hu
  rcases hu with rfl | rfl | rfl | rfl <;> rfl

theorem Bk.opAt {w wr : World} {d M c g : Nat} {s : ByteArray} {vw : Value} {B : List OpV} {W : List ByteArray} (h : Bk w d s (.slice (some ⟨g, 0, none⟩) M c) vw B W wr) (i : Nat) (o : OpV) (hi : B[i]? = some o) :
    wr.cell? ⟨g, i * 4, none⟩ = some (.int .i64 o.k) ∧ wr.cell? ⟨g, i * 4 + 1, none⟩ = some (.int .i64 o.a) ∧ wr.cell? ⟨g, i * 4 + 2, none⟩ = some (.string o.x) ∧ wr.cell? ⟨g, i * 4 + 3, none⟩ = some (.int .i64 o.n) := by
  have hl : i < B.length := (List.getElem?_eq_some_iff.1 hi).1
  obtain ⟨g', c', e, _, _, hc⟩ := own_cell h.ops (by omega)
  injection e with e
  injection e with e
  injection e with e
  subst e
  obtain ⟨h0, h1, h2, h3⟩ := opCells_get B i o hi
  exact ⟨hc _ _ h0, hc _ _ h1, hc _ _ h2, hc _ _ h3⟩

theorem Bk.wasAt {w wr : World} {d M c g : Nat} {s : ByteArray} {vb : Value} {B : List OpV} {W : List ByteArray} (h : Bk w d s vb (.slice (some ⟨g, 0, none⟩) M c) B W wr) (i : Nat) (x : ByteArray) (hi : W[i]? = some x) :
    wr.cell? ⟨g, i, none⟩ = some (.string x) := by
  have hl : i < W.length := (List.getElem?_eq_some_iff.1 hi).1
  obtain ⟨g', c', e, _, _, hc⟩ := own_cell h.was (by omega)
  injection e with e
  injection e with e
  injection e with e
  subst e
  exact hc _ _ (by unfold strCells; rw [List.getElem?_map, hi]; rfl)

theorem opsOf_at (done t : List (OpV × ByteArray)) (o : OpV) (x : ByteArray) : (opsOf (done ++ (o, x) :: t))[t.length]? = some o := by
  unfold opsOf
  rw [List.map_append, List.map_cons, List.reverse_append, List.reverse_cons, List.append_assoc, List.getElem?_append_right (by simp)]
  simp

theorem wasOf_at (done t : List (OpV × ByteArray)) (o : OpV) (x : ByteArray) : (wasOf (done ++ (o, x) :: t))[t.length]? = some x := by
  unfold wasOf
  rw [List.map_append, List.map_cons, List.reverse_append, List.reverse_cons, List.append_assoc, List.getElem?_append_right (by simp)]
  simp

theorem calls_name {P : Program} {f : FuncId} {args : Array Value} {w : World} {R : Ending → World → Prop} (h : ∀ W, w = W → Calls P f args W R) : Calls P f args w R := h w rfl

theorem inv_any (o : OpV) (g : ByteArray) (w : World) (h : o.k = 1 ∨ o.k = 2) :
    Calls Try.prog 25 #[.agg #[.int .i64 o.k, .int .i64 o.a, .string o.x, .int .i64 o.n], .string g] w fun en w' => en = .returned (.agg #[.int .i64 (inv o g).k, .int .i64 (inv o g).a, .string (inv o g).x, .int .i64 (inv o g).n]) ∧ Below w.heap.size w w' := by
  obtain ⟨k, a, x, n⟩ := o
  rcases h with h | h
  · have h' : k = 1 := h
    subst h'
    exact inv1_calls a n x g w
  · have h' : k = 2 := h
    subst h'
    exact inv2_calls a n x g w

theorem opsOf_length (L : List (OpV × ByteArray)) : (opsOf L).length = L.length := by simp [opsOf]
theorem wasOf_length (L : List (OpV × ByteArray)) : (wasOf L).length = L.length := by simp [wasOf]
theorem opsOf_cons (o : OpV) (s : ByteArray) (L : List (OpV × ByteArray)) : opsOf ((o, s) :: L) = opsOf L ++ [o] := by simp [opsOf]
theorem wasOf_cons (o : OpV) (s : ByteArray) (L : List (OpV × ByteArray)) : wasOf ((o, s) :: L) = wasOf L ++ [s] := by simp [wasOf]

set_option maxRecDepth 100000 in
set_option maxHeartbeats 1000000 in
theorem back_any (a : Option Addr) (len cap : Nat) (w : World) (hA : ArgO w a len) :
    Calls Try.prog 4 #[.slice a len cap] w fun en w' => en = .returned (.bool true) ∧ Below w.heap.size w w' := by
  have hlen : len ≤ 9223372036854775807 := by have := hA.1; unfold maxLen at this; omega
  have HA := Lib.hid hA
  clear hA
  go_enter Try.func4, Try.ntmps4
  go_wp2_with fail
  refine (tawake_any w).mono ?_
  rintro en w1 ⟨rfl, b1⟩
  have T1 : Hid (Turn (fun j => w.heap.size ≤ j) w w1) := Turn.of_below b1 (fun _ _ e => e)
  clear b1
  go_wp2_with fail
  refine (dnew_calls w1).mono ?_
  rintro en w2 ⟨rfl, h2, g2⟩
  obtain ⟨d, ed⟩ : ∃ d, d = w1.heap.size := ⟨_, rfl⟩
  rw [← ed] at h2 ⊢
  have hd : w.heap.size ≤ d := by rw [ed]; exact T1.out.size
  have H2 : Hid (Dc w2 d ⟨#[]⟩) := h2
  have T2 : Hid (Turn (fun j => w.heap.size ≤ j) w w2) := T1.out.grown g2 (fun j e _ => by cases e)
  clear h2 g2 T1 ed
  go_wp2_with fail
  go_name_world W0 hW0
  have HW : Hid (Bk w d ⟨#[]⟩ (.slice (some ⟨w2.heap.size, 0, none⟩) 0 0) (.slice (some ⟨w2.heap.size + 1, 0, none⟩) 0 0) [] [] W0) := by
    have t1 : Turn (fun j => w2.heap.size ≤ j) w2 W0 := by rw [← hW0]; exact ((Turn.refl _ w2).alloc _).alloc _
    have k1 : Has W0 w2.heap.size 27 #[] := by rw [← hW0]; exact (Has.made _ _ _).alloc _
    have k2 : Has W0 (w2.heap.size + 1) 9 #[] := by rw [← hW0]; exact made_at _ _ (by simp)
    refine ⟨H2.out.turn t1 (Nat.not_le_of_lt H2.out.lt), Nat.zero_le _, ⟨rfl, .inr ⟨_, 0, #[], rfl, Nat.zero_le _, k1, Nat.le_refl _, Nat.zero_le _, rfl, rfl⟩⟩, ⟨rfl, .inr ⟨_, 0, #[], rfl, Nat.zero_le _, k2, Nat.le_refl _, Nat.zero_le _, rfl, rfl⟩⟩, ?_, ?_, hd, T2.out.trans t1 (fun _ _ e => Nat.le_trans T2.out.size e)⟩
    · intro b hb
      injection hb with hb
      obtain rfl : w2.heap.size = b := hb
      exact T2.out.size
    · intro b hb
      injection hb with hb
      obtain rfl : w2.heap.size + 1 = b := hb
      exact Nat.le_trans T2.out.size (Nat.le_succ _)
  clear hW0
  obtain ⟨i0, z0, hi0, hz0, hz1, hz2, hz3⟩ := Try.zeroOp
  obtain ⟨i1, z1, hi1, hy0, hy1, hy2, hy3⟩ := Try.zeroStr
  have HI0 := Lib.hid hi0
  have HZ0 := Lib.hid hz0
  have HI1 := Lib.hid hi1
  have HY0 := Lib.hid hy0
  have HZ1 := Lib.hid hz1
  have HZ2 := Lib.hid hz2
  have HZ3 := Lib.hid hz3
  have HY1 := Lib.hid hy1
  have HY2 := Lib.hid hy2
  have HY3 := Lib.hid hy3
  clear hi0 hz0 hi1 hy0 hz1 hz2 hz3 hy1 hy2 hy3 H2 T2
  go_loopw [4, 5, 6] (fun vb vw i wr => ∃ (k : Nat) (s : ByteArray) (L : List (OpV × ByteArray)), i = .int .i64 k ∧ k ≤ 40 ∧ k ≤ len ∧ L.length ≤ k ∧ Hid (Undo s L) ∧ Hid (Bk w d s vb vw (opsOf L) (wasOf L) wr)) (fun _ _ i _ => 40 - (intOf i).toNat)
  case atStart => exact ⟨0, ⟨#[]⟩, [], rfl, by omega, Nat.zero_le _, Nat.le_refl _, Lib.hid rfl, HW⟩
  case round =>
    obtain ⟨k, s, L, rfl, hk40, hkl, hLk, HU, HD⟩ := hrel
    clear HW
    by_cases hk : k < len ∧ k < 40
    · obtain ⟨hk1, hk2⟩ := hk
      have hk1' : (k : Int) < (len : Int) := by omega
      have hk2' : (k : Int) < 40 := by omega
      have hk0' : (0 : Int) ≤ (k : Int) := by omega
      obtain ⟨b, o, rfl, hb, K, t, n, x, hx, c0, c1, c2, c3⟩ := (HA.out.turn HD.out.turn).2 k hk1
      go_wp2_with fail
      refine (few_calls K t n x _ hx).mono ?_
      rintro en w3 ⟨rfl, b3⟩
      have D3 := Lib.hid (HD.out.more (Turn.of_below b3 (fun _ _ e => e)))
      clear b3 HD c0 c1 c2 c3
      go_wp2_with fail
      refine calls_name (fun W4 hW4 => ?_)
      obtain ⟨p, ep⟩ : ∃ p, p = w3.heap.size := ⟨_, rfl⟩
      have hp : Hid (Has W4 p 27 #[.int .i64 K, .int .i64 t, .string (cutB x 45), .int .i64 n]) := by
        rw [← hW4, ep]
        exact Has.made _ _ _
      have D4 := Lib.hid (D3.out.more (w' := W4) (by rw [← hW4]; exact (Turn.refl _ _).alloc _))
      rw [← ep]
      clear hW4 D3 ep
      refine (dtext_calls d s _ D4.out.doc).mono ?_
      rintro en w5 ⟨rfl, rfl⟩
      have p0 : W4.cell? ⟨p, 0, none⟩ = some (.int .i64 K) := hp.out.cell 0
      have p1 : W4.cell? ⟨p, 1, none⟩ = some (.int .i64 t) := hp.out.cell 1
      have p2 : W4.cell? ⟨p, 2, none⟩ = some (.string (cutB x 45)) := hp.out.cell 2
      have p3 : W4.cell? ⟨p, 3, none⟩ = some (.int .i64 n) := hp.out.cell 3
      have hx45 := cutB_size x 45
      generalize cutB x 45 = y at *
      go_wp2_with fail
      have hs := D4.out.few
      refine (do_calls d s K t y n W4 D4.out.doc hs (by unfold maxLen; omega)).mono ?_
      obtain ⟨ov, eov⟩ : ∃ ov : OpV, ov = ⟨K, t, y, n⟩ := ⟨_, rfl⟩
      have hdv : doT s K t y n = doV s ov := by rw [eov]; rfl
      rw [hdv]
      have hb1 : (doV s ov).2.2 = 0 → (doV (doV s ov).1 (inv ov (doV s ov).2.1)).1 = s ∧ (doV (doV s ov).1 (inv ov (doV s ov).2.1)).2.2 = 0 ∧ (inv ov (doV s ov).2.1).chk = 0 ∧ (inv ov (doV s ov).2.1).x.size ≤ 200 ∧ (ov.k = 1 ∨ ov.k = 2) := do_back hs
      have hb2 : (doV s ov).2.2 ≠ 0 → (doV s ov).1 = s ∧ (doV s ov).2.1 = ⟨#[]⟩ := do_err
      have hb3 : (doV s ov).1.size ≤ 200 := do_size hs
      generalize doV s ov = r at *
      obtain ⟨s', g, e⟩ := r
      simp only at hb1 hb2 hb3
      rintro en w6 ⟨rfl, d6, g6⟩
      have hp6 : Has w6 p 27 #[.int .i64 K, .int .i64 t, .string y, .int .i64 n] := hp.out.grown g6 (by
        intro e
        injection e with e
        subst e
        exact absurd (hp.out.uniq D4.out.doc).2 (by decide))
      have HP6 := Lib.hid hp6
      have D6 := Lib.hid (D4.out.did d6 hb3 g6)
      clear p0 p1 p2 p3 hdv d6 g6 hp6 D4 hp
      by_cases he : e = 0
      · subst he
        obtain ⟨u1, u2, u3, u4, hk12⟩ := hb1 rfl
        have HU2 : Hid (Undo s' ((inv ov g, s) :: L)) := Lib.hid ⟨u1, u2, u3, hs, u4, HU.out⟩
        have p0 : w6.cell? ⟨p, 0, none⟩ = some (.int .i64 K) := HP6.out.cell 0
        have p1 : w6.cell? ⟨p, 1, none⟩ = some (.int .i64 t) := HP6.out.cell 1
        have p2 : w6.cell? ⟨p, 2, none⟩ = some (.string y) := HP6.out.cell 2
        have p3 : w6.cell? ⟨p, 3, none⟩ = some (.int .i64 n) := HP6.out.cell 3
        clear hb1 hb2 u1 u2 u3 u4 HU
        have hlB : (opsOf L).length ≤ 40 := by rw [opsOf_length]; omega
        have hlW : (wasOf L).length ≤ 40 := by rw [wasOf_length]; omega
        subst eov
        go_wp2_with fail
        refine (inv_any ⟨K, t, y, n⟩ g w6 hk12).mono ?_
        clear hk12
        generalize inv ⟨K, t, y, n⟩ g = iv at *
        rintro en w7 ⟨rfl, b7⟩
        have D7 := Lib.hid (D6.out.more (Turn.of_below b7 (fun _ _ e => e)))
        clear b7 D6 p0 p1 p2 p3 HP6
        go_wp2_with (first
                  | (at_builtin
                     refine wpList_append_lies _ rfl (.tmp 52) (.tmp 56) 22 rfl 0 27 i0 z0 4 40 Try.underlying22 HI0.out HZ0.out HZ1.out HZ3.out HZ2.out (by decide) _ (opsOf L).length _ rfl (by exact (D7.out.more ((Turn.refl _ _).alloc _)).ops) ⟨w7.heap.size, 0, none⟩ 1 1 iv.cells rfl rfl (by exact World.news_of_block (Has.made _ _ _)) (oneCell_op _) (by decide) (by unfold maxLen; omega) (by omega) (Nat.zero_le _) _ rfl ?_
                     intro g8 cap8 w8 hown hg hat hlt
                     have D8 := Lib.hid ((D7.out.more ((Turn.refl _ _).alloc _)).pushB iv hown hg hat)
                     clear hown hg hat hlt D7)
                  | (at_builtin
                     refine wpList_append_lies _ rfl (.tmp 58) (.tmp 60) 42 rfl 0 9 i1 z1 1 16 Try.underlying42 HI1.out HY0.out HY1.out HY3.out HY2.out (by decide) _ (wasOf L).length _ rfl (by exact (D8.out.more ((Turn.refl _ _).alloc _)).was) ⟨w8.heap.size, 0, none⟩ 1 1 [.string s] rfl rfl (by exact World.news_of_block (Has.made _ _ _)) (by intro u hu; rw [List.mem_singleton.1 hu]; rfl) (by decide) (by unfold maxLen; omega) (by omega) (Nat.zero_le _) _ rfl ?_
                     intro g9 cap9 w9 hown hg hat hlt
                     have D9 := Lib.hid ((D8.out.more ((Turn.refl _ _).alloc _)).pushW s hown hg hat)
                     clear hown hg hat hlt D8))
        refine ⟨⟨k + 1, s', (iv, s) :: L, by rw [Int.natCast_add]; rfl, by omega, by omega, by rw [List.length_cons]; omega, HU2, by rw [opsOf_cons, wasOf_cons]; exact D9⟩, ?_⟩
        show 40 - ((k : Int) + 1).toNat < 40 - ((k : Int)).toNat
        omega
      · obtain ⟨rfl, rfl⟩ := hb2 he
        have he' : (e != 0) = true := by simpa using he
        clear hb1 hb2 he
        go_wp2_with fail
        refine (dtext_calls d _ w6 D6.out.doc).mono ?_
        rintro en w7 ⟨rfl, rfl⟩
        go_wp2_with fail
        refine ⟨⟨k + 1, _, L, by rw [Int.natCast_add]; rfl, by omega, by omega, by omega, HU, D6⟩, ?_⟩
        show 40 - ((k : Int) + 1).toNat < 40 - ((k : Int)).toNat
        omega
    · have hx : ((k : Int) < (len : Int) ∧ ¬ (k : Int) < 40) ∨ ¬ (k : Int) < (len : Int) := by omega
      have hLl : (opsOf L).length ≤ 40 := by rw [opsOf_length]; omega
      obtain ⟨M, eM⟩ : ∃ M, M = (opsOf L).length := ⟨_, rfl⟩
      obtain ⟨va, vc, evb⟩ := own_slice HD.out.ops
      subst evb
      rw [← eM] at hLl
      have HM := Lib.hid eM
      have HU' : Hid (∃ done, L = done ++ L) := Lib.hid ⟨[], rfl⟩
      have HLM : Hid (M = L.length) := Lib.hid (by rw [eM, opsOf_length])
      rw [← eM] at HD ⊢
      clear eM hk
      rcases hx with ⟨hc1, hc2⟩ | hc1
      all_goals
        go_wp2_with fail
        go_loopw [11] (fun i wr => ∃ (done rest : List (OpV × ByteArray)) (s : ByteArray) (y : Int), i = .int .i64 y ∧ Hid (y = (rest.length : Int) - 1) ∧ Hid (L = done ++ rest) ∧ Hid (Undo s rest) ∧ Hid (Bk w d s (.slice va M vc) u5 (opsOf L) (wasOf L) wr)) (fun i _ => (intOf i + 1).toNat)
        case atStart => exact ⟨[], L, s, _, rfl, Lib.hid (by rw [HLM.out]), Lib.hid rfl, HU, HD⟩
        case round =>
          obtain ⟨done, rest, s1, y, rfl, HY, HL, HU1, HD1⟩ := hrel
          clear HD HU
          cases rest with
          | nil =>
            have hy : y ≤ -1 := by have := HY.out; simp at this; omega
            have hy' : ¬ 0 ≤ y := by omega
            have es : s1 = ⟨#[]⟩ := HU1.out
            subst es
            clear hy
            go_wp2_with fail
            refine (dtext_calls d _ _ HD1.out.doc).mono ?_
            rintro en w5 ⟨rfl, rfl⟩
            go_wp2_with fail
            go_ret
            exact ⟨rfl, HD1.out.turn.below (Nat.le_refl _) (fun j hj e => by omega)⟩
          | cons p t =>
            obtain ⟨o, s0⟩ := p
            obtain ⟨q1, q2, q3, q4, hox, q6⟩ := HU1.out
            have HU2 := Lib.hid q6
            have HCH : Hid (chk o.k o.a o.x.size o.n = 0) := Lib.hid q3
            have hyt : y.toNat = t.length := by have := HY.out; simp at this; omega
            have hy0 : 0 ≤ y := by have := HY.out; simp at this; omega
            have hyM : y < (M : Int) := by
              have h1 := HY.out
              have h2 := HLM.out
              rw [HL.out] at h2
              simp at h1 h2
              omega
            have hMpos : 0 < M := by omega
            have hbo : (opsOf L)[t.length]? = some o := by rw [HL.out]; exact opsOf_at done t o s0
            have hwo : (wasOf L)[t.length]? = some s0 := by rw [HL.out]; exact wasOf_at done t o s0
            obtain ⟨g, vc', ev, _, _, _⟩ := own_cell HD1.out.ops (by rw [← HM.out]; exact hMpos)
            injection ev with ev1 ev2 ev3
            subst ev1
            obtain ⟨gw, vcw, evw, _, _, _⟩ := own_cell HD1.out.was (by rw [wasOf_length, ← HLM.out]; exact hMpos)
            rw [wasOf_length, ← HLM.out] at evw
            subst evw
            have HC0 : Hid (∀ V s, Bk w d s (.slice (some ⟨g, 0, none⟩) M vc) (.slice (some ⟨gw, 0, none⟩) M vcw) (opsOf L) (wasOf L) V → V.cell? ⟨g, y.toNat * 4, none⟩ = some (.int .i64 o.k) ∧ V.cell? ⟨g, y.toNat * 4 + 1, none⟩ = some (.int .i64 o.a) ∧ V.cell? ⟨g, y.toNat * 4 + 2, none⟩ = some (.string o.x) ∧ V.cell? ⟨g, y.toNat * 4 + 3, none⟩ = some (.int .i64 o.n)) := Lib.hid (fun V s h => by rw [hyt]; exact h.opAt _ _ hbo)
            have HW8 : Hid (∀ V s, Bk w d s (.slice (some ⟨g, 0, none⟩) M vc) (.slice (some ⟨gw, 0, none⟩) M vcw) (opsOf L) (wasOf L) V → V.cell? ⟨gw, y.toNat, none⟩ = some (.string s0)) := Lib.hid (fun V s h => by rw [hyt]; exact h.wasAt _ _ hwo)
            obtain ⟨c0, c1, c2, c3⟩ := HC0.out _ _ HD1.out
            have Q1 := Lib.hid q1
            have Q2 := Lib.hid q2
            clear hyt q1 q2 q3 q6 hbo hwo HU1 ev2 ev3
            go_wp2_with fail
            refine (do_calls d s1 o.k o.a o.x o.n _ HD1.out.doc HD1.out.few (by unfold maxLen; omega)).mono ?_
            have hdv : doT s1 o.k o.a o.x o.n = doV s1 o := rfl
            rw [hdv]
            have hq1 := Q1.out
            have hq2 := Q2.out
            generalize doV s1 o = r at hq1 hq2 ⊢
            obtain ⟨s', g', e⟩ := r
            obtain rfl : s' = s0 := hq1
            obtain rfl : e = 0 := hq2
            rintro en w6 ⟨rfl, d6, g6⟩
            have D6 := Lib.hid (HD1.out.did d6 q4 g6)
            clear hdv d6 g6 HD1 c0 c1 c2 c3 Q1 Q2
            go_wp2_with fail
            refine wp_region_S (S := fun V => Bk w d s' (.slice (some ⟨g, 0, none⟩) M vc) (.slice (some ⟨gw, 0, none⟩) M vcw) (opsOf L) (wasOf L) V) (by kernel_rfl) (D6.out.more ((Turn.refl _ _).drew)) ?_
            refine AnyS.pure 0 (some 78) rfl rfl (by kernel_rfl) (by kernel_rfl) (by kernel_rfl) (fun _ _ _ h => h) (by kernel_rfl) (fun _ _ => rfl) ?_
            refine AnyS.pure 1 (some 79) (v := .bool false) rfl rfl (by kernel_rfl) (by kernel_rfl) (by kernel_rfl) (fun _ _ _ h => h) (by kernel_rfl) (fun V _ => by go_simp) ?_
            refine AnyS.pure 2 (some 80) rfl rfl (by kernel_rfl) (by kernel_rfl) (by kernel_rfl) (fun _ _ _ h => h) (by kernel_rfl) (fun _ _ => rfl) ?_
            refine AnyS.pure 3 (some 81) rfl rfl (by kernel_rfl) (by kernel_rfl) (by kernel_rfl) (fun _ _ _ h => h) (by kernel_rfl) (fun _ _ => rfl) ?_
            refine AnyS.pure 5 (some 83) rfl rfl (by kernel_rfl) (by kernel_rfl) (by kernel_rfl) (fun _ _ _ h => h) (by kernel_rfl) (fun _ _ => rfl) ?_
            refine AnyS.pure 6 (some 84) rfl rfl (by kernel_rfl) (by kernel_rfl) (by kernel_rfl) (fun _ _ _ h => h) (by kernel_rfl) (fun _ _ => rfl) ?_
            refine AnyS.pure 7 (some 85) (v := .pointer (some ⟨gw, y.toNat, none⟩)) rfl rfl (by kernel_rfl) (by kernel_rfl) (by kernel_rfl) (fun _ _ _ h => h) (by kernel_rfl) (fun V _ => by go_simp) ?_
            refine AnyS.pure 8 (some 86) (v := .string s') rfl rfl (by kernel_rfl) (by kernel_rfl) (by kernel_rfl) (fun _ _ _ h => h) (by kernel_rfl) (fun V hV => by have hc := HW8.out V _ hV; obtain ⟨h0, h1, h2, h3⟩ := HC0.out V _ hV; go_simp) ?_
            refine AnyS.call 4 (some 82) (.string s') rfl rfl (by kernel_rfl) (by kernel_rfl) (by kernel_rfl) (fun _ _ _ h => h) (by kernel_rfl) 21 Try.f21 Try.func21 (by kernel_rfl) (by kernel_rfl) _ _ rfl #[.pointer (some ⟨d, 0, none⟩)] (by first | (simp [Act.eval]; done) | (simp [Act.eval, Act.put]; done)) (fun V hV => (dtext_calls d s' V hV.doc).mono (fun _ _ h => ⟨h.1, h.2 ▸ hV⟩)) ?_
            simp only [Act.put, List.setIfInBounds_toArray, List.set_cons_zero, List.set_cons_succ]
            refine AnyS.pure 9 (some 87) (v := .bool false) rfl rfl (by kernel_rfl) (by kernel_rfl) (by kernel_rfl) (fun _ _ _ h => h) (by kernel_rfl) (fun V _ => by go_simp) ?_
            refine AnyS.pure 10 (some 88) (v := .bool false) rfl rfl (by kernel_rfl) (by kernel_rfl) (by kernel_rfl) (fun _ _ _ h => h) (by kernel_rfl) (fun V _ => by go_simp) ?_
            refine AnyS.pure 11 (some 89) rfl rfl (by kernel_rfl) (by kernel_rfl) (by kernel_rfl) (fun _ _ _ h => h) (by kernel_rfl) (fun _ _ => rfl) ?_
            refine AnyS.pure 12 (some 90) rfl rfl (by kernel_rfl) (by kernel_rfl) (by kernel_rfl) (fun _ _ _ h => h) (by kernel_rfl) (fun _ _ => rfl) ?_
            refine AnyS.pure 13 (some 91) rfl rfl (by kernel_rfl) (by kernel_rfl) (by kernel_rfl) (fun _ _ _ h => h) (by kernel_rfl) (fun _ _ => rfl) ?_
            refine AnyS.pure 14 (some 92) (v := .pointer (some ⟨g, y.toNat * 4, none⟩)) rfl rfl (by kernel_rfl) (by kernel_rfl) (by kernel_rfl) (fun _ _ _ h => h) (by kernel_rfl) (fun V _ => by go_simp) ?_
            refine AnyS.pure 15 (some 93) (v := .agg #[.int .i64 o.k, .int .i64 o.a, .string o.x, .int .i64 o.n]) rfl rfl (by kernel_rfl) (by kernel_rfl) (by kernel_rfl) (fun _ _ _ h => h) (by kernel_rfl) (fun V hV => by have hc := HW8.out V _ hV; obtain ⟨h0, h1, h2, h3⟩ := HC0.out V _ hV; go_simp) ?_
            refine AnyS.call 16 (some 94) (.int .i64 0) rfl rfl (by kernel_rfl) (by kernel_rfl) (by kernel_rfl) (fun _ _ _ h => h) (by kernel_rfl) 19 Try.f19 Try.func19 (by kernel_rfl) (by kernel_rfl) _ _ rfl #[.agg #[.int .i64 o.k, .int .i64 o.a, .string o.x, .int .i64 o.n]] (by first | (simp [Act.eval]; done) | (simp [Act.eval, Act.put]; done)) (fun V hV => (check_calls o.k o.a o.n o.x V (by have := hox; unfold maxLen; omega)).mono (fun _ _ h => ⟨by rw [h.1]; exact congrArg (fun z => Ending.returned (.int .i64 z)) HCH.out, hV.more (Turn.of_below h.2 (fun _ _ e => e))⟩)) ?_
            simp only [Act.put, List.setIfInBounds_toArray, List.set_cons_zero, List.set_cons_succ]
            refine AnyS.pure 17 (some 95) (v := .bool false) rfl rfl (by kernel_rfl) (by kernel_rfl) (by kernel_rfl) (fun _ _ _ h => h) (by kernel_rfl) (fun V _ => by go_simp) ?_
            refine AnyS.pure 18 (some 96) (v := .bool false) rfl rfl (by kernel_rfl) (by kernel_rfl) (by kernel_rfl) (fun _ _ _ h => h) (by kernel_rfl) (fun V _ => by go_simp) ?_
            refine AnyS.done (by kernel_rfl) (fun V hV => ?_) _
            clear HC0 HW8 D6
            have D7 := Lib.hid hV
            clear hV
            go_wp2_with fail
            refine ⟨⟨done ++ [(o, s')], t, s', y - 1, rfl, Lib.hid (by have := HY.out; simp at this; omega), Lib.hid (by rw [HL.out]; simp), HU2, D7⟩, ?_⟩
            show (y - 1 + 1).toNat < (y + 1).toNat
            omega

def Arg0 (w : World) (a : Option Addr) (len _cap : Nat) : Prop := ArgO w a len

theorem walk (a0 : Option Addr) (len0 cap0 : Nat) (w : World) (w0 : Arg0 w a0 len0 cap0) :
    Calls Try.prog 4 #[.slice a0 len0 cap0] w fun en w' => en = .returned (.bool true) ∧ Below w.heap.size w w' := back_any a0 len0 cap0 w w0

theorem opened0 {H : Type} {enc : TypeId × Value → H} {w : World} {spare : Nat → Bool} {held : Bool} {a : Option Addr} {len cap : Nat} {d : DataW H} {p : List MemPlace} (h : DataW.Trod enc Try.prog w 0 spare held 22 (.slice a len cap) d p) : Arg0 w a len cap := openedO h

theorem own : ownKnob Try.prog.godebug = none := by kernel_rfl
theorem laidOut : laidOutB Try.prog = true := by kernel_rfl

set_option maxRecDepth 100000 in
theorem lifted (os : Os) (started : os.Started) (H : Type) (enc : TypeId × Value → H) :
    ReturnsInHanded {} Try.checked os 4 .any (Rows.textBackSpec.pre6 enc Try.prog Try.f4 Rows.textBackRow.domain false) (Rows.textBackSpec.post enc Try.prog Try.f4 false true false false) := by
  refine returnsInHanded_of_change (C := Try.checked) own started (by kernel_rfl) Try.func4
    (ChangeSpec.witness6 (enc := enc) (C := Try.checked) false ⟨#[], #[.slice none 0 0], []⟩ 8 (by kernel_rfl) (by kernel_rfl) (by kernel_rfl) (by kernel_rfl)) ?_
  intro W base args ds gs before hval0 hW _ _
  have hval : ∀ (j : Nat) t v, Try.f4.params[j]? = some t → args[j]? = some v → Value.okWide Try.prog W .any base t v := hval0
  have hW' := hW
  obtain ⟨p, q, hA0, hV, rfl, _, _⟩ := hW
  have hA : DataW.TrodAll enc Try.prog W 0 (fun _ => true) true Try.f4.params.toList args.toList ds p := hA0
  rw [Try.params4] at hA hval
  obtain ⟨v0, vs0, d0, ds0, p0, q0, hargs, rfl, rfl, h0, r0⟩ := trodAll_cons hA
  obtain ⟨rfl, rfl, rfl⟩ := trodAll_nil r0
  obtain rfl : args = #[v0] := by cases args; simp_all
  obtain ⟨rfl, rfl⟩ := trodVars_none hV
  obtain ⟨a0, len0, cap0, rfl⟩ := okWide_slice Try.underlying22 (hval 0 22 v0 rfl rfl)
  have k0 := h0
  have lt0 : ∀ x ∈ p0, x.block < W.heap.size := by obtain ⟨m, hm⟩ := k0; exact DataW.trod_lt m _ _ _ hm
  have w0 : Arg0 W a0 len0 cap0 := opened0 h0
  clear hA0 hval0
  refine (walk a0 len0 cap0 W w0).mono fun e W' ⟨he, bel⟩ => ?_
  subst he
  exact ⟨_, rfl, _, _, _, [], _, [], hW', trodAll_mk1 (shut_bool Try.underlying4 _), (trodAll_cons_mk (Below.trod laidOut (by kernel_rfl) (of_decide_eq_true (by kernel_rfl)) k0 bel lt0) trodAll_mk0), rfl, bel.frame _, fun h => by cases h⟩

theorem over : Rows.textBackRow.holds Try.pinned (OpenSpec.ofChange Rows.textBackSpec) :=
  OpenClaim.holds_of_wide 4 Try.f4 rfl rfl rfl rfl rfl rfl rfl ⟨rfl, rfl, rfl, rfl, rfl⟩ rfl rfl rfl rfl rfl (by kernel_rfl) Try.func4 (by kernel_rfl)
    (of_decide_eq_true (by kernel_rfl)) (by unfold Func.isWrapper; first | (rw [if_pos (by decide +kernel)]; kernel_rfl) | (rw [if_neg (by decide +kernel)]; exact ⟨rfl, rfl⟩))
    (fun os started H enc _ => lifted os started H enc)

theorem proved : Rows.TextBackSaid := over

end Go.Proofs.Ytpdcbfhmlgmhpaa.textBack
