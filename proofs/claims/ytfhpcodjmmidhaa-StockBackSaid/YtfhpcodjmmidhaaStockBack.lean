/- StockBack: for every list of ops the law answers true, and its argument reads afterwards as it did. Conditions: none. -/
import Derived.Test.YtfhpcodjmmidhaaStoT
namespace Go.Proofs.Ytfhpcodjmmidhaa.stock.stockBack
open Go.ChangeShapes Go.WideShapes Go.ChangeAt Go.RowKit Go.Maps

abbrev DW : Type := DataW Unit
abbrev Pr : Type := OpS × DW

/-- What takes back, the last one first, comes to nothing. -/
def Undo : DW → List Pr → Prop
  | D, [] => Alike D (.map [])
  | D, (o, E) :: t => (doO D o).2 = 0 ∧ Alike (doO D o).1 E ∧ InvS E ∧ o.Short ∧ Undo E t

theorem undo_alike {D D' : DW} (a : Alike D' D) (I : InvS D) : ∀ L, Undo D L → Undo D' L
  | [], h => Alike.trans a h
  | (o, E) :: t, ⟨h1, h2, h3, h4, h5⟩ => by
    obtain ⟨k1, k2⟩ := doO_alike a I o
    exact ⟨k1.2 h1, Alike.trans k2 h2, h3, h4, h5⟩

def opCells (B : List OpS) : List Value := B.flatMap OpS.cells
def strCells (W : List ByteArray) : List Value := W.map Value.string
def opsOf (L : List Pr) : List OpS := (L.map (fun p => p.1)).reverse
def wasOf (L : List Pr) : List ByteArray := (L.map (fun p => saveB p.2)).reverse

theorem opCells_get (B : List OpS) (i : Nat) (o : OpS) (h : B[i]? = some o) : (opCells B)[i * 3]? = some (.int .i64 o.k) ∧ (opCells B)[i * 3 + 1]? = some (.string o.s) ∧ (opCells B)[i * 3 + 2]? = some (.int .i64 o.n) := by
  induction B generalizing i with
  | nil => simp at h
  | cons p B ih =>
    have e : opCells (p :: B) = p.cells ++ opCells B := rfl
    cases i with
    | zero =>
      simp at h
      subst h
      simp [e, OpS.cells]
    | succ i =>
      have h2 := ih i (by simpa using h)
      have hl : p.cells.length = 3 := rfl
      rw [e, List.getElem?_append_right (by omega), List.getElem?_append_right (by omega), List.getElem?_append_right (by omega), hl]
      have e1 : (i + 1) * 3 - 3 = i * 3 := by omega
      have e2 : (i + 1) * 3 + 1 - 3 = i * 3 + 1 := by omega
      have e3 : (i + 1) * 3 + 2 - 3 = i * 3 + 2 := by omega
      rw [e1, e2, e3]
      exact h2

theorem map_ne {w : World} {e : TypeId} {size n m : Nat} {v : Value} {xs : List Value} {D : DW} (h : w.ownsRow 0 e size v n xs) (hm : Mp w m D) : v.ownBlock ≠ some m := by
  rcases h.2 with ⟨rfl, _⟩ | ⟨g, cap, cur, rfl, _, hg, _⟩
  · intro k; cases k
  · intro k
    injection k with k
    obtain rfl : g = m := k
    have hg' : Has w g e cur := hg
    exact hm.ne hg' rfl

/-- The book, what takes back, what it was. -/
structure Lk (w : World) (d m : Nat) (D : DW) (vb vw : Value) (B : List OpS) (W : List ByteArray) (wr : World) : Prop where
  bk : Sk wr d m D
  inv : InvS D
  ops : wr.ownsRow 0 48 3 vb B.length (opCells B)
  was : wr.ownsRow 0 9 1 vw W.length (strCells W)
  newb : ∀ b, vb.ownBlock = some b → w.heap.size ≤ b
  neww : ∀ b, vw.ownBlock = some b → w.heap.size ≤ b
  newd : w.heap.size ≤ d
  newm : w.heap.size ≤ m
  turn : Turn (fun j => w.heap.size ≤ j) w wr

section
variable {w wr w' : World} {d m : Nat} {D D' : DW} {vb vw : Value} {B : List OpS} {W : List ByteArray}

theorem Lk.more (h : Lk w d m D vb vw B W wr) (t : Turn (fun j => wr.heap.size ≤ j) wr w') : Lk w d m D vb vw B W w' :=
  ⟨h.bk.turn t (Nat.not_le_of_lt h.bk.box.lt) (Nat.not_le_of_lt (World.ownsMap.lt h.bk.map)), h.inv, own_turn h.ops t (fun _ hb => Nat.not_le_of_lt (own_lt h.ops hb)), own_turn h.was t (fun _ hb => Nat.not_le_of_lt (own_lt h.was hb)), h.newb, h.neww, h.newd, h.newm,
    h.turn.trans t (fun _ _ e => Nat.le_trans h.turn.size e)⟩

theorem Lk.did (h : Lk w d m D vb vw B W wr) (e : Sk w' d m D') (f : InvS D') (g : wr.grownBy w' (some m)) : Lk w d m D' vb vw B W w' := by
  have t : Turn (fun j => j = m) wr w' := Turn.of_grown g rfl
  exact ⟨e, f, own_turn h.ops t (fun b hb k => by subst k; exact map_ne h.ops h.bk.map hb), own_turn h.was t (fun b hb k => by subst k; exact map_ne h.was h.bk.map hb), h.newb, h.neww, h.newd, h.newm,
    h.turn.trans t (fun j _ e => by rw [e]; exact h.newm)⟩

theorem Lk.pushB (h : Lk w d m D vb vw B W wr) (o : OpS) {g cap : Nat} (hown : w'.ownsRow 0 48 3 (.slice (some ⟨g, 0, none⟩) (B.length + 1) cap) (B.length + 1) (opCells B ++ o.cells)) (hg : wr.grownBy w' vb.ownBlock) (hat : vb.ownBlock = some g ∨ g = wr.heap.size) :
    Lk w d m D (.slice (some ⟨g, 0, none⟩) (B.length + 1) cap) vw (B ++ [o]) W w' := by
  have t : Turn (fun j => vb.ownBlock = some j) wr w' := (Turn.refl _ wr).grown hg (fun _ e _ => e)
  refine ⟨h.bk.turn t (own_ne h.ops h.bk.box (by decide)) (map_ne h.ops h.bk.map), h.inv, ?_, own_turn h.was t (fun b hb k => own_own h.ops h.was (by decide) b k hb), ?_, h.neww, h.newd, h.newm, h.turn.trans t (fun j _ e => h.newb j e)⟩
  · rw [List.length_append]
    have e : opCells (B ++ [o]) = opCells B ++ o.cells := by simp [opCells]
    rw [e]
    exact hown
  · intro b hb
    injection hb with hb
    obtain rfl : g = b := hb
    rcases hat with k | k
    · exact h.newb _ k
    · rw [k]; exact h.turn.size

theorem Lk.pushW (h : Lk w d m D vb vw B W wr) (x : ByteArray) {g cap : Nat} (hown : w'.ownsRow 0 9 1 (.slice (some ⟨g, 0, none⟩) (W.length + 1) cap) (W.length + 1) (strCells W ++ [.string x])) (hg : wr.grownBy w' vw.ownBlock) (hat : vw.ownBlock = some g ∨ g = wr.heap.size) :
    Lk w d m D vb (.slice (some ⟨g, 0, none⟩) (W.length + 1) cap) B (W ++ [x]) w' := by
  have t : Turn (fun j => vw.ownBlock = some j) wr w' := (Turn.refl _ wr).grown hg (fun _ e _ => e)
  refine ⟨h.bk.turn t (own_ne h.was h.bk.box (by decide)) (map_ne h.was h.bk.map), h.inv, own_turn h.ops t (fun b hb k => own_own h.ops h.was (by decide) b hb k), ?_, h.newb, ?_, h.newd, h.newm, h.turn.trans t (fun j _ e => h.neww j e)⟩
  · rw [List.length_append]
    have e : strCells (W ++ [x]) = strCells W ++ [.string x] := by simp [strCells]
    rw [e]
    exact hown
  · intro b hb
    injection hb with hb
    obtain rfl : g = b := hb
    rcases hat with k | k
    · exact h.neww _ k
    · rw [k]; exact h.turn.size
end

theorem Try.zeroOp : ∃ i z, Try.prog.info? 48 = some i ∧ i.zero = some z ∧ i.size = 3 ∧ z.cells.size = 3 ∧ i.bytes = 32 := by
  have h2 : (Try.prog.info? 48).map (fun i => (i.zero.map (fun z => z.cells.size), i.size, i.bytes)) = some (some 3, 3, 32) := by kernel_rfl
  obtain ⟨i, hi, e⟩ := Option.map_eq_some_iff.1 h2
  simp at e
  obtain ⟨⟨z, hz, hz2⟩, h3, h4⟩ := e
  exact ⟨i, z, hi, hz, h3, hz2, h4⟩

theorem Try.zeroStr : ∃ i z, Try.prog.info? 9 = some i ∧ i.zero = some z ∧ i.size = 1 ∧ z.cells.size = 1 ∧ i.bytes = 16 := by
  have h2 : (Try.prog.info? 9).map (fun i => (i.zero.map (fun z => z.cells.size), i.size, i.bytes)) = some (some 1, 1, 16) := by kernel_rfl
  obtain ⟨i, hi, e⟩ := Option.map_eq_some_iff.1 h2
  simp at e
  obtain ⟨⟨z, hz, hz2⟩, h3, h4⟩ := e
  exact ⟨i, z, hi, hz, h3, hz2, h4⟩

theorem oneCell_op (o : OpS) : ∀ u ∈ o.cells, u.oneCell' = true := by
  intro u hu
  simp only [OpS.cells, List.mem_cons, List.not_mem_nil, or_false] at hu
  rcases hu with rfl | rfl | rfl <;> rfl

theorem Lk.opAt {w wr : World} {d m M c g : Nat} {D : DW} {vw : Value} {B : List OpS} {W : List ByteArray} (h : Lk w d m D (.slice (some ⟨g, 0, none⟩) M c) vw B W wr) (i : Nat) (o : OpS) (hi : B[i]? = some o) :
    wr.cell? ⟨g, i * 3, none⟩ = some (.int .i64 o.k) ∧ wr.cell? ⟨g, i * 3 + 1, none⟩ = some (.string o.s) ∧ wr.cell? ⟨g, i * 3 + 2, none⟩ = some (.int .i64 o.n) := by
  have hl : i < B.length := (List.getElem?_eq_some_iff.1 hi).1
  obtain ⟨g', c', e, _, _, hc⟩ := own_cell h.ops (by omega)
  injection e with e
  injection e with e
  injection e with e
  subst e
  obtain ⟨h0, h1, h2⟩ := opCells_get B i o hi
  exact ⟨hc _ _ h0, hc _ _ h1, hc _ _ h2⟩

theorem Lk.wasAt {w wr : World} {d m M c g : Nat} {D : DW} {vb : Value} {B : List OpS} {W : List ByteArray} (h : Lk w d m D vb (.slice (some ⟨g, 0, none⟩) M c) B W wr) (i : Nat) (x : ByteArray) (hi : W[i]? = some x) :
    wr.cell? ⟨g, i, none⟩ = some (.string x) := by
  have hl : i < W.length := (List.getElem?_eq_some_iff.1 hi).1
  obtain ⟨g', c', e, _, _, hc⟩ := own_cell h.was (by omega)
  injection e with e
  injection e with e
  injection e with e
  subst e
  exact hc _ _ (by unfold strCells; rw [List.getElem?_map, hi]; rfl)

theorem opsOf_at (done t : List Pr) (o : OpS) (x : DW) : (opsOf (done ++ (o, x) :: t))[t.length]? = some o := by
  unfold opsOf
  rw [List.map_append, List.map_cons, List.reverse_append, List.reverse_cons, List.append_assoc, List.getElem?_append_right (by simp)]
  simp

theorem wasOf_at (done t : List Pr) (o : OpS) (x : DW) : (wasOf (done ++ (o, x) :: t))[t.length]? = some (saveB x) := by
  unfold wasOf
  rw [List.map_append, List.map_cons, List.reverse_append, List.reverse_cons, List.append_assoc, List.getElem?_append_right (by simp)]
  simp

theorem opsOf_length (L : List Pr) : (opsOf L).length = L.length := by simp [opsOf]
theorem wasOf_length (L : List Pr) : (wasOf L).length = L.length := by simp [wasOf]
theorem opsOf_cons (o : OpS) (s : DW) (L : List Pr) : opsOf ((o, s) :: L) = opsOf L ++ [o] := by simp [opsOf]
theorem wasOf_cons (o : OpS) (s : DW) (L : List Pr) : wasOf ((o, s) :: L) = wasOf L ++ [saveB s] := by simp [wasOf]

theorem calls_name {P : Program} {f : FuncId} {args : Array Value} {w : World} {R : Ending → World → Prop} (h : ∀ W, w = W → Calls P f args W R) : Calls P f args w R := h w rfl

set_option maxRecDepth 100000 in
set_option maxHeartbeats 2000000 in
theorem back_any (a : Option Addr) (len cap : Nat) (w : World) (hA : ArgS w a len) :
    Calls Try.prog 6 #[.slice a len cap] w fun en w' => en = .returned (.bool true) ∧ Below w.heap.size w w' := by
  have hlen : len ≤ 9223372036854775807 := by have := hA.1; unfold maxLen at this; omega
  have HA := Lib.hid hA
  clear hA
  go_enter Try.func6, Try.ntmps6
  go_wp2_with fail
  refine (lawake_any w).mono ?_
  rintro en w1 ⟨rfl, b1⟩
  have T1 : Hid (Turn (fun j => w.heap.size ≤ j) w w1) := Turn.of_below b1 (fun _ _ e => e)
  clear b1
  go_wp2_with fail
  refine (snew_calls (H := Unit) w1).mono ?_
  rintro en w2 ⟨d, m, rfl, h2, b2, hd, hm⟩
  have hd' : w.heap.size ≤ d := Nat.le_trans T1.out.size hd
  have hm' : w.heap.size ≤ m := Nat.le_trans T1.out.size hm
  have H2 := Lib.hid h2
  have T2 : Hid (Turn (fun j => w.heap.size ≤ j) w w2) := T1.out.trans (Turn.of_below b2 (F := fun j => w1.heap.size ≤ j) (fun _ _ e => e)) (fun j _ e => Nat.le_trans T1.out.size e)
  clear h2 b2 T1 hd hm
  go_wp2_with fail
  go_name_world W0 hW0
  have HW : Hid (Lk w d m (.map []) (.slice (some ⟨w2.heap.size, 0, none⟩) 0 0) (.slice (some ⟨w2.heap.size + 1, 0, none⟩) 0 0) [] [] W0) := by
    have t1 : Turn (fun j => w2.heap.size ≤ j) w2 W0 := by rw [← hW0]; exact ((Turn.refl _ w2).alloc _).alloc _
    have k1 : Has W0 w2.heap.size 48 #[] := by rw [← hW0]; exact (Has.made _ _ _).alloc _
    have k2 : Has W0 (w2.heap.size + 1) 9 #[] := by rw [← hW0]; exact made_at _ _ (by simp)
    refine ⟨H2.out.turn t1 (Nat.not_le_of_lt H2.out.box.lt) (Nat.not_le_of_lt (World.ownsMap.lt H2.out.map)), invS_new, ⟨rfl, .inr ⟨_, 0, #[], rfl, Nat.zero_le _, k1, Nat.le_refl _, Nat.zero_le _, rfl, rfl⟩⟩, ⟨rfl, .inr ⟨_, 0, #[], rfl, Nat.zero_le _, k2, Nat.le_refl _, Nat.zero_le _, rfl, rfl⟩⟩, ?_, ?_, hd', hm', T2.out.trans t1 (fun _ _ e => Nat.le_trans T2.out.size e)⟩
    · intro b hb
      injection hb with hb
      obtain rfl : w2.heap.size = b := hb
      exact T2.out.size
    · intro b hb
      injection hb with hb
      obtain rfl : w2.heap.size + 1 = b := hb
      exact Nat.le_trans T2.out.size (Nat.le_succ _)
  clear hW0
  obtain ⟨i0, z0, hi0, hz0, hz1, hz2, hz3⟩ := Try.zeroOp
  obtain ⟨i1, z1, hi1, hy0, hy1, hy2, hy3⟩ := Try.zeroStr
  have HI0 := Lib.hid hi0
  have HZ0 := Lib.hid hz0
  have HI1 := Lib.hid hi1
  have HY0 := Lib.hid hy0
  have HZ1 := Lib.hid hz1
  have HZ2 := Lib.hid hz2
  have HZ3 := Lib.hid hz3
  have HY1 := Lib.hid hy1
  have HY2 := Lib.hid hy2
  have HY3 := Lib.hid hy3
  clear hi0 hz0 hi1 hy0 hz1 hz2 hz3 hy1 hy2 hy3 H2 T2
  go_loopw [4, 5, 6] (fun vb vw i wr => ∃ (k : Nat) (D : DW) (L : List Pr), i = .int .i64 k ∧ k ≤ 50 ∧ k ≤ len ∧ L.length ≤ k ∧ Hid (Undo D L) ∧ Hid (Lk w d m D vb vw (opsOf L) (wasOf L) wr)) (fun _ _ i _ => 50 - (intOf i).toNat)
  case atStart => exact ⟨0, .map [], [], rfl, by omega, Nat.zero_le _, Nat.le_refl _, Lib.hid (Alike.refl invS_new.good), HW⟩
  case round =>
    obtain ⟨k, D, L, rfl, hk40, hkl, hLk, HU, HD⟩ := hrel
    clear HW
    by_cases hk : k < len ∧ k < 50
    · obtain ⟨hk1, hk2⟩ := hk
      have hk1' : (k : Int) < (len : Int) := by omega
      have hk2' : (k : Int) < 50 := by omega
      have hk0' : (0 : Int) ≤ (k : Int) := by omega
      go_wp2_with fail
      refine (ssave_calls d m D _ HD.out.bk HD.out.inv).mono ?_
      rintro en w2 ⟨rfl, b2⟩
      have D2 := Lib.hid (HD.out.more (Turn.of_below b2 (fun _ _ e => e)))
      clear b2 HD
      obtain ⟨b, o, rfl, hb, K, n, x, hx, c0, c1, c2⟩ := (HA.out.turn D2.out.turn).2 k hk1
      go_wp2_with fail
      refine (sfew_any ⟨K, x, n⟩ _ hx).mono ?_
      have hsh := few_short ⟨K, x, n⟩
      generalize OpS.few ⟨K, x, n⟩ = op at *
      rintro en w3 ⟨rfl, b3⟩
      have D3 := Lib.hid (D2.out.more (Turn.of_below b3 (fun _ _ e => e)))
      have HSH := Lib.hid hsh
      clear b3 D2 c0 c1 c2 hsh
      go_wp2_with fail
      refine calls_name (fun W4 hW4 => ?_)
      obtain ⟨p, ep⟩ : ∃ p, p = w3.heap.size := ⟨_, rfl⟩
      have hp : Hid (Has W4 p 48 #[.int .i64 op.k, .string op.s, .int .i64 op.n]) := by
        show Has _ _ _ _
        rw [← hW4, ep]
        exact Has.made _ _ _
      have D4 := Lib.hid (D3.out.more (w' := W4) (by rw [← hW4]; exact (Turn.refl _ _).alloc _))
      rw [← ep]
      clear hW4 D3 ep
      refine (sdo_any d m D op W4 D4.out.bk D4.out.inv HSH.out).mono ?_
      have hb1 : (doO D op).2 = 0 → (doO (doO D op).1 op.inv).2 = 0 ∧ Alike (doO (doO D op).1 op.inv).1 D := fun h => doO_back D4.out.inv h
      have hb2 : ¬ (doO D op).2 = 0 → (doO D op).1 = D := doO_not
      have hb3 : InvS (doO D op).1 := invS_doO D4.out.inv op
      have hb4 : (doO D op).2 = 0 → op.k = 1 ∨ op.k = 2 := doO_kind
      generalize doO D op = r at *
      obtain ⟨D', e⟩ := r
      simp only at hb1 hb2 hb3 hb4
      rintro en w6 ⟨rfl, d6, g6⟩
      have HP6 : Hid (Has w6 p 48 #[.int .i64 op.k, .string op.s, .int .i64 op.n]) := Lib.hid (hp.out.grown g6 (by
        intro e
        injection e with e
        subst e
        exact D4.out.bk.map.ne hp.out rfl))
      have HI := Lib.hid D4.out.inv
      have D6 := Lib.hid (D4.out.did d6 hb3 g6)
      clear d6 g6 D4 hp
      by_cases he : e = 0
      · subst he
        obtain ⟨u1, u2⟩ := hb1 rfl
        have hk12 := hb4 rfl
        have HU2 : Hid (Undo D' ((op.inv, D) :: L)) := Lib.hid ⟨u1, u2, HI.out, inv_short HSH.out, HU.out⟩
        have p0 : w6.cell? ⟨p, 0, none⟩ = some (.int .i64 op.k) := HP6.out.cell 0
        have p1 : w6.cell? ⟨p, 1, none⟩ = some (.string op.s) := HP6.out.cell 1
        have p2 : w6.cell? ⟨p, 2, none⟩ = some (.int .i64 op.n) := HP6.out.cell 2
        clear hb1 hb2 hb3 hb4 u1 u2 HU
        have hlB : (opsOf L).length ≤ 50 := by rw [opsOf_length]; omega
        have hlW : (wasOf L).length ≤ 50 := by rw [wasOf_length]; omega
        go_wp2_with fail
        refine (sinv_any op w6 hk12).mono ?_
        clear hk12
        generalize op.inv = iv at *
        rintro en w7 ⟨rfl, b7⟩
        have D7 := Lib.hid (D6.out.more (Turn.of_below b7 (fun _ _ e => e)))
        clear b7 D6 p0 p1 p2 HP6
        go_wp2_with (first
                  | (at_builtin
                     refine wpList_append_lies _ rfl (.tmp 36) (.tmp 39) 44 rfl 0 48 i0 z0 3 32 Try.underlying44 HI0.out HZ0.out HZ1.out HZ3.out HZ2.out (by decide) _ (opsOf L).length _ rfl (by exact (D7.out.more ((Turn.refl _ _).alloc _)).ops) ⟨w7.heap.size, 0, none⟩ 1 1 iv.cells rfl rfl (by exact World.news_of_block (Has.made _ _ _)) (oneCell_op _) (by decide) (by unfold maxLen; omega) (by omega) (Nat.zero_le _) _ rfl ?_
                     intro g8 cap8 w8 hown hg hat hlt
                     have D8 := Lib.hid ((D7.out.more ((Turn.refl _ _).alloc _)).pushB iv hown hg hat)
                     clear hown hg hat hlt D7)
                  | (at_builtin
                     refine wpList_append_lies _ rfl (.tmp 41) (.tmp 43) 26 rfl 0 9 i1 z1 1 16 Try.underlying26 HI1.out HY0.out HY1.out HY3.out HY2.out (by decide) _ (wasOf L).length _ rfl (by exact (D8.out.more ((Turn.refl _ _).alloc _)).was) ⟨w8.heap.size, 0, none⟩ 1 1 [.string (saveB D)] rfl rfl (by exact World.news_of_block (Has.made _ _ _)) (by intro u hu; rw [List.mem_singleton.1 hu]; rfl) (by decide) (by unfold maxLen; omega) (by omega) (Nat.zero_le _) _ rfl ?_
                     intro g9 cap9 w9 hown hg hat hlt
                     have D9 := Lib.hid ((D8.out.more ((Turn.refl _ _).alloc _)).pushW (saveB D) hown hg hat)
                     clear hown hg hat hlt D8))
        refine ⟨⟨k + 1, D', (iv, D) :: L, by rw [Int.natCast_add]; rfl, by omega, by omega, by rw [List.length_cons]; omega, HU2, by rw [opsOf_cons, wasOf_cons]; exact D9⟩, ?_⟩
        show 50 - ((k : Int) + 1).toNat < 50 - ((k : Int)).toNat
        omega
      · obtain rfl := hb2 he
        have he' : (e != 0) = true := by simpa using he
        have he2 : (e == 0) = false := by simpa using he
        clear hb1 hb2 hb3 hb4 he
        go_wp2_with fail
        refine (ssave_calls d m D' w6 D6.out.bk D6.out.inv).mono ?_
        rintro en w7 ⟨rfl, b7⟩
        have D7 := Lib.hid (D6.out.more (Turn.of_below b7 (fun _ _ e => e)))
        clear b7 D6
        go_wp2_with fail
        refine ⟨⟨k + 1, _, L, by rw [Int.natCast_add]; rfl, by omega, by omega, by omega, HU, D7⟩, ?_⟩
        show 50 - ((k : Int) + 1).toNat < 50 - ((k : Int)).toNat
        omega
    · have hx : ((k : Int) < (len : Int) ∧ ¬ (k : Int) < 50) ∨ ¬ (k : Int) < (len : Int) := by omega
      have hLl : (opsOf L).length ≤ 50 := by rw [opsOf_length]; omega
      obtain ⟨M, eM⟩ : ∃ M, M = (opsOf L).length := ⟨_, rfl⟩
      obtain ⟨va, vc, evb⟩ := own_slice HD.out.ops
      subst evb
      rw [← eM] at hLl
      have HM := Lib.hid eM
      have HU' : Hid (∃ done, L = done ++ L) := Lib.hid ⟨[], rfl⟩
      have HLM : Hid (M = L.length) := Lib.hid (by rw [eM, opsOf_length])
      rw [← eM] at HD ⊢
      clear eM hk
      rcases hx with ⟨hc1, hc2⟩ | hc1
      all_goals
        go_wp2_with fail
        go_loopw [9] (fun i wr => ∃ (done rest : List Pr) (E : DW) (y : Int), i = .int .i64 y ∧ Hid (y = (rest.length : Int) - 1) ∧ Hid (L = done ++ rest) ∧ Hid (Undo E rest) ∧ Hid (Lk w d m E (.slice va M vc) u5 (opsOf L) (wasOf L) wr)) (fun i _ => (intOf i + 1).toNat)
        case atStart => exact ⟨[], L, D, _, rfl, Lib.hid (by rw [HLM.out]), Lib.hid rfl, HU, HD⟩
        case round =>
          obtain ⟨done, rest, E1, y, rfl, HY, HL, HU1, HD1⟩ := hrel
          clear HD HU
          cases rest with
          | nil =>
            have hy : y ≤ -1 := by have := HY.out; simp at this; omega
            have hy' : ¬ 0 ≤ y := by omega
            have ea : Alike E1 (.map []) := HU1.out
            have hl : (namesD E1).length = 0 := by
              rw [names_size HD1.out.inv, ea.size]
              rfl
            have HLZ := Lib.hid hl
            clear hy ea hl
            go_wp2_with fail
            refine (snames_calls d m E1 _ HD1.out.bk HD1.out.inv).mono ?_
            rintro en w5 ⟨v, rfl, hrow, b5⟩
            rw [HLZ.out] at hrow
            obtain ⟨va5, vc5, rfl⟩ := own_slice hrow
            have D5 := Lib.hid (HD1.out.more (Turn.of_below b5 (fun _ _ e => e)))
            clear hrow b5
            go_wp2_with fail
            go_ret
            exact ⟨rfl, D5.out.turn.below (Nat.le_refl _) (fun j hj e => by omega)⟩
          | cons p t =>
            obtain ⟨o, E0⟩ := p
            obtain ⟨q1, q2, q3, q4, q5⟩ := HU1.out
            have HU2 := Lib.hid q5
            have hyt : y.toNat = t.length := by have := HY.out; simp at this; omega
            have hy0 : 0 ≤ y := by have := HY.out; simp at this; omega
            have hyM : y < (M : Int) := by
              have h1 := HY.out
              have h2 := HLM.out
              rw [HL.out] at h2
              simp at h1 h2
              omega
            have hMpos : 0 < M := by omega
            have hbo : (opsOf L)[t.length]? = some o := by rw [HL.out]; exact opsOf_at done t o E0
            have hwo : (wasOf L)[t.length]? = some (saveB E0) := by rw [HL.out]; exact wasOf_at done t o E0
            obtain ⟨g, vc', ev, _, _, _⟩ := own_cell HD1.out.ops (by rw [← HM.out]; exact hMpos)
            injection ev with ev1 ev2 ev3
            subst ev1
            obtain ⟨gw, vcw, evw, _, _, _⟩ := own_cell HD1.out.was (by rw [wasOf_length, ← HLM.out]; exact hMpos)
            rw [wasOf_length, ← HLM.out] at evw
            subst evw
            obtain ⟨S, eS⟩ : ∃ S : World → Prop, S = fun V => (V.cell? ⟨g, y.toNat * 3, none⟩ = some (.int .i64 o.k) ∧ V.cell? ⟨g, y.toNat * 3 + 1, none⟩ = some (.string o.s) ∧ V.cell? ⟨g, y.toNat * 3 + 2, none⟩ = some (.int .i64 o.n)) ∧ V.cell? ⟨gw, y.toNat, none⟩ = some (.string (saveB E0)) := ⟨_, rfl⟩
            have HS8 : Hid (∀ V E, Lk w d m E (.slice (some ⟨g, 0, none⟩) M vc) (.slice (some ⟨gw, 0, none⟩) M vcw) (opsOf L) (wasOf L) V → S V) := Lib.hid (fun V E h => by rw [eS, hyt]; exact ⟨h.opAt _ _ hbo, h.wasAt _ _ hwo⟩)
            have HES := Lib.hid eS
            have HE := Lib.hid q2
            have Q1 := Lib.hid q1
            have Q3 := Lib.hid q3
            have Q4 := Lib.hid q4
            clear hyt q1 q2 q3 q4 q5 hbo hwo HU1 ev2 ev3 eS
            go_wp2_with fail
            have HD2 := Lib.hid (HD1.out.more ((Turn.refl _ _).drew))
            have HS0 := HS8.out _ _ HD2.out
            clear HD1
            refine wp_region_held (S := S) (by kernel_rfl) ?_
            refine held_take 0 (some 56) rfl rfl (by kernel_rfl) (by kernel_rfl) (by kernel_rfl) (fun _ _ _ h => h) (.inl ⟨by kernel_rfl, fun _ _ => rfl⟩) HS0 ?_
            refine held_take 1 (some 57) rfl rfl (by kernel_rfl) (by kernel_rfl) (by kernel_rfl) (fun _ _ _ h => h) (.inl ⟨by kernel_rfl, fun _ _ => rfl⟩) HS0 ?_
            refine held_take 2 (some 58) rfl rfl (by kernel_rfl) (by kernel_rfl) (by kernel_rfl) (fun _ _ _ h => h) (.inl ⟨by kernel_rfl, fun _ _ => rfl⟩) HS0 ?_
            refine held_take 3 (some 59) (v := .pointer (some ⟨g, y.toNat * 3, none⟩)) rfl rfl (by kernel_rfl) (by kernel_rfl) (by kernel_rfl) (fun _ _ _ h => h) (.inl ⟨by kernel_rfl, fun V _ => by go_simp⟩) HS0 ?_
            refine held_take 4 (some 60) (v := .agg #[.int .i64 o.k, .string o.s, .int .i64 o.n]) rfl rfl (by kernel_rfl) (by kernel_rfl) (by kernel_rfl) (fun _ _ _ h => h) (.inl ⟨by kernel_rfl, fun V hV => by rw [HES.out] at hV; obtain ⟨⟨h0, h1, h2⟩, _⟩ := hV; go_simp⟩) HS0 ?_
            simp only [Act.put, List.setIfInBounds_toArray, List.set_cons_zero, List.set_cons_succ]
            refine held_one (i := 5) (by kernel_rfl) ?_
            refine wpOp_call (some 61) rfl rfl (by kernel_rfl) 28 Try.f28 Try.func28 (by kernel_rfl) (by kernel_rfl) _ _ rfl #[.pointer (some ⟨d, 0, none⟩), .agg #[.int .i64 o.k, .string o.s, .int .i64 o.n]] (by first | (simp [Act.eval]; done) | (simp [Act.eval, Act.put]; done)) (sdo_any d m E1 o _ HD2.out.bk HD2.out.inv Q4.out) ?_
            have hq1 := Q1.out
            have hq2 := HE.out
            generalize doO E1 o = r at hq1 hq2 ⊢
            obtain ⟨E2, e⟩ := r
            obtain rfl : e = 0 := hq1
            have HE2 : Hid (Alike E2 E0) := Lib.hid hq2
            rintro en w6 ⟨rfl, d6, g6⟩
            have D6 := Lib.hid (HD2.out.did d6 (Alike.invS HE2.out Q3.out) g6)
            clear d6 g6 HD2 hq2 HE Q1 HS0
            have HS0 := HS8.out _ _ D6.out
            refine ⟨_, rfl, HS0, ?_⟩
            simp only [Act.put, List.setIfInBounds_toArray, List.set_cons_zero, List.set_cons_succ]
            refine held_take 6 (some 62) (v := .bool false) rfl rfl (by kernel_rfl) (by kernel_rfl) (by kernel_rfl) (fun _ _ _ h => h) (.inl ⟨by kernel_rfl, fun V _ => by go_simp⟩) HS0 ?_
            refine held_take 7 (some 63) rfl rfl (by kernel_rfl) (by kernel_rfl) (by kernel_rfl) (fun _ _ _ h => h) (.inl ⟨by kernel_rfl, fun _ _ => rfl⟩) HS0 ?_
            refine held_take 8 (some 64) rfl rfl (by kernel_rfl) (by kernel_rfl) (by kernel_rfl) (fun _ _ _ h => h) (.inl ⟨by kernel_rfl, fun _ _ => rfl⟩) HS0 ?_
            refine held_take 10 (some 66) rfl rfl (by kernel_rfl) (by kernel_rfl) (by kernel_rfl) (fun _ _ _ h => h) (.inl ⟨by kernel_rfl, fun _ _ => rfl⟩) HS0 ?_
            refine held_take 11 (some 67) rfl rfl (by kernel_rfl) (by kernel_rfl) (by kernel_rfl) (fun _ _ _ h => h) (.inl ⟨by kernel_rfl, fun _ _ => rfl⟩) HS0 ?_
            refine held_take 12 (some 68) (v := .pointer (some ⟨gw, y.toNat, none⟩)) rfl rfl (by kernel_rfl) (by kernel_rfl) (by kernel_rfl) (fun _ _ _ h => h) (.inl ⟨by kernel_rfl, fun V _ => by go_simp⟩) HS0 ?_
            refine held_take 13 (some 69) (v := .string (saveB E0)) rfl rfl (by kernel_rfl) (by kernel_rfl) (by kernel_rfl) (fun _ _ _ h => h) (.inl ⟨by kernel_rfl, fun V hV => by rw [HES.out] at hV; obtain ⟨_, h0⟩ := hV; go_simp⟩) HS0 ?_
            simp only [Act.put, List.setIfInBounds_toArray, List.set_cons_zero, List.set_cons_succ]
            refine held_one (i := 9) (by kernel_rfl) ?_
            refine wpOp_call (some 65) rfl rfl (by kernel_rfl) 26 Try.f26 Try.func26 (by kernel_rfl) (by kernel_rfl) _ _ rfl #[.pointer (some ⟨d, 0, none⟩)] (by first | (simp [Act.eval]; done) | (simp [Act.eval, Act.put]; done)) (ssave_calls d m E2 _ D6.out.bk D6.out.inv) ?_
            rw [HE2.out.saveB]
            rintro en w8 ⟨rfl, b8⟩
            have D8 := Lib.hid (D6.out.more (Turn.of_below b8 (fun _ _ e => e)))
            clear b8 D6 HS0
            have HS0 := HS8.out _ _ D8.out
            refine ⟨_, rfl, HS0, ?_⟩
            simp only [Act.put, List.setIfInBounds_toArray, List.set_cons_zero, List.set_cons_succ]
            refine held_take 14 (some 70) (v := .bool false) rfl rfl (by kernel_rfl) (by kernel_rfl) (by kernel_rfl) (fun _ _ _ h => h) (.inl ⟨by kernel_rfl, fun V _ => by go_simp⟩) HS0 ?_
            refine held_take 15 (some 71) (v := .bool false) rfl rfl (by kernel_rfl) (by kernel_rfl) (by kernel_rfl) (fun _ _ _ h => h) (.inl ⟨by kernel_rfl, fun V _ => by go_simp⟩) HS0 ?_
            refine wpAnyH_done (by kernel_rfl) ?_ _
            clear HS0 HES
            have HU3 := Lib.hid (undo_alike HE2.out Q3.out t HU2.out)
            go_wp2_with fail
            refine ⟨⟨done ++ [(o, E0)], t, E2, y - 1, rfl, Lib.hid (by have := HY.out; simp at this; omega), Lib.hid (by rw [HL.out]; simp), HU3, D8⟩, ?_⟩
            show (y - 1 + 1).toNat < (y + 1).toNat
            omega

def Arg0 (w : World) (a : Option Addr) (len _cap : Nat) : Prop := ArgS w a len

theorem walk (a0 : Option Addr) (len0 cap0 : Nat) (w : World) (w0 : Arg0 w a0 len0 cap0) :
    Calls Try.prog 6 #[.slice a0 len0 cap0] w fun en w' => en = .returned (.bool true) ∧ Below w.heap.size w w' := back_any a0 len0 cap0 w w0

theorem opened0 {H : Type} {enc : TypeId × Value → H} {w : World} {spare : Nat → Bool} {held : Bool} {a : Option Addr} {len cap : Nat} {d : DataW H} {p : List MemPlace} (h : DataW.Trod enc Try.prog w 0 spare held 44 (.slice a len cap) d p) : Arg0 w a len cap := openedS h

theorem own : ownKnob Try.prog.godebug = none := by kernel_rfl
theorem laidOut : laidOutB Try.prog = true := by kernel_rfl

set_option maxRecDepth 100000 in
theorem lifted (os : Os) (started : os.Started) (H : Type) (enc : TypeId × Value → H) :
    ReturnsInHanded {} Try.checked os 6 .any (Rows.stockBackSpec.pre6 enc Try.prog Try.f6 Rows.stockBackRow.domain false) (Rows.stockBackSpec.post enc Try.prog Try.f6 false true false false) := by
  refine returnsInHanded_of_change (C := Try.checked) own started (by kernel_rfl) Try.func6
    (ChangeSpec.witness6 (enc := enc) (C := Try.checked) false ⟨#[], #[.slice none 0 0], []⟩ 8 (by kernel_rfl) (by kernel_rfl) (by kernel_rfl) (by kernel_rfl)) ?_
  intro W base args ds gs before hval0 hW _ _
  have hval : ∀ (j : Nat) t v, Try.f6.params[j]? = some t → args[j]? = some v → Value.okWide Try.prog W .any base t v := hval0
  have hW' := hW
  obtain ⟨p, q, hA0, hV, rfl, _, _⟩ := hW
  have hA : DataW.TrodAll enc Try.prog W 0 (fun _ => true) true Try.f6.params.toList args.toList ds p := hA0
  rw [Try.params6] at hA hval
  obtain ⟨v0, vs0, d0, ds0, p0, q0, hargs, rfl, rfl, h0, r0⟩ := trodAll_cons hA
  obtain ⟨rfl, rfl, rfl⟩ := trodAll_nil r0
  obtain rfl : args = #[v0] := by cases args; simp_all
  obtain ⟨rfl, rfl⟩ := trodVars_none hV
  obtain ⟨a0, len0, cap0, rfl⟩ := okWide_slice Try.underlying44 (hval 0 44 v0 rfl rfl)
  have k0 := h0
  have lt0 : ∀ x ∈ p0, x.block < W.heap.size := by obtain ⟨m, hm⟩ := k0; exact DataW.trod_lt m _ _ _ hm
  have w0 : Arg0 W a0 len0 cap0 := opened0 h0
  clear hA0 hval0
  refine (walk a0 len0 cap0 W w0).mono fun e W' ⟨he, bel⟩ => ?_
  subst he
  exact ⟨_, rfl, _, _, _, [], _, [], hW', trodAll_mk1 (shut_bool Try.underlying4 _), (trodAll_cons_mk (Below.trod laidOut (by kernel_rfl) (of_decide_eq_true (by kernel_rfl)) k0 bel lt0) trodAll_mk0), rfl, bel.frame _, fun h => by cases h⟩

theorem over : Rows.stockBackRow.holds Try.pinned (OpenSpec.ofChange Rows.stockBackSpec) :=
  OpenClaim.holds_of_wide 6 Try.f6 rfl rfl rfl rfl rfl rfl rfl ⟨rfl, rfl, rfl, rfl, rfl⟩ rfl rfl rfl rfl rfl (by kernel_rfl) Try.func6 (by kernel_rfl)
    (of_decide_eq_true (by kernel_rfl)) (by unfold Func.isWrapper; first | (rw [if_pos (by decide +kernel)]; kernel_rfl) | (rw [if_neg (by decide +kernel)]; exact ⟨rfl, rfl⟩))
    (fun os started H enc _ => lifted os started H enc)

theorem proved : Rows.StockBackSaid := over

end Go.Proofs.Ytfhpcodjmmidhaa.stock.stockBack
