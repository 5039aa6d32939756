/- rank: the document's own list: Add, Drop, Due; same. -/
import Derived.Test.YtpdcbfhmlgmhpaaRankK
import Derived.Test.YtpdcbfhmlgmhpaaOwn
import Derived.Deep.QuietTactic
import Derived.BigQuiet
import Derived.Lib.ItoaWalk
namespace Go.Proofs.Ytpdcbfhmlgmhpaa
open Go.RowKit

abbrev It2 := Int × Int

def itCells (L : List It2) : List Value := L.flatMap (fun x => [.int .i64 x.1, .int .i64 x.2])

theorem itCells_get (L : List It2) (i : Nat) (x : It2) (h : L[i]? = some x) : (itCells L)[i * 2]? = some (.int .i64 x.1) ∧ (itCells L)[i * 2 + 1]? = some (.int .i64 x.2) := by
  induction L generalizing i with
  | nil => simp at h
  | cons p L ih =>
    have e : itCells (p :: L) = [.int .i64 p.1, .int .i64 p.2] ++ itCells L := rfl
    cases i with
    | zero => simp at h; subst h; simp [e]
    | succ i =>
      have h2 := ih i (by simpa using h)
      have hl : [Value.int .i64 p.1, Value.int .i64 p.2].length = 2 := rfl
      rw [e, List.getElem?_append_right (by rw [hl]; omega), List.getElem?_append_right (by rw [hl]; omega), hl]
      have e1 : (i + 1) * 2 - 2 = i * 2 := by omega
      have e2 : (i + 1) * 2 + 1 - 2 = i * 2 + 1 := by omega
      rw [e1, e2]
      exact h2

/-- The slice v reads as the list L; it lies in block b of items, if anywhere. -/
def Its (w : World) (b : Option Nat) (v : Value) (L : List It2) : Prop :=
  ∃ a c, v = .slice a L.length c ∧ L.length ≤ c ∧ c ≤ maxLen ∧ (L = [] ∨ ∃ g o cs, b = some g ∧ a = some ⟨g, o, none⟩ ∧ Has w g 75 cs ∧ ∀ i x, L[i]? = some x → cs[o + i * 2]? = some (.int .i64 x.1) ∧ cs[o + i * 2 + 1]? = some (.int .i64 x.2))

theorem Its.turn {F : Nat → Prop} {w w' : World} {b : Option Nat} {v : Value} {L : List It2} (h : Its w b v L) (t : Turn F w w') (hb : ∀ g cs, b = some g → Has w g 75 cs → ¬ F g) : Its w' b v L := by
  obtain ⟨a, c, e, h1, h2, h3⟩ := h
  refine ⟨a, c, e, h1, h2, h3.imp id ?_⟩
  rintro ⟨g, o, cs, eb, ea, hh, hc⟩
  exact ⟨g, o, cs, eb, ea, hh.turn t (hb g cs eb hh), hc⟩

theorem Its.at_ {w : World} {b : Option Nat} {v : Value} {L : List It2} (h : Its w b v L) (i : Nat) (x : It2) (hx : L[i]? = some x) : ∃ g o c, v = .slice (some ⟨g, o, none⟩) L.length c ∧ w.cell? ⟨g, o + i * 2, none⟩ = some (.int .i64 x.1) ∧ w.cell? ⟨g, o + i * 2 + 1, none⟩ = some (.int .i64 x.2) := by
  obtain ⟨a, c, e, h1, h2, h3⟩ := h
  rcases h3 with rfl | ⟨g, o, cs, eb, ea, hh, hc⟩
  · simp at hx
  · obtain ⟨k1, k2⟩ := hc i x hx
    exact ⟨g, o, c, by rw [e, ea], by rw [hh.cell]; exact k1, by rw [hh.cell]; exact k2⟩

theorem Its.of_own {w : World} {v : Value} {L : List It2} (h : w.ownsRow 0 75 2 v L.length (itCells L)) : Its w v.ownBlock v L := by
  rcases h.2 with ⟨rfl, h0⟩ | ⟨g, cap, cur, rfl, _, hg, hc1, hc2, hcs, hx⟩
  · have : L = [] := List.eq_nil_of_length_eq_zero h0
    subst this
    exact ⟨none, 0, rfl, Nat.le_refl _, Nat.zero_le _, .inl rfl⟩
  · refine ⟨_, cap, rfl, hc1, hc2, .inr ⟨g, 0, cur, rfl, rfl, hg, fun i x hi => ?_⟩⟩
    obtain ⟨k1, k2⟩ := itCells_get L i x hi
    have hl : i < L.length := (List.getElem?_eq_some_iff.1 hi).1
    rw [← hx] at k1 k2
    rw [List.getElem?_take_of_lt (by omega)] at k1 k2
    simp only [Nat.zero_add]
    rw [← Array.getElem?_toList, ← Array.getElem?_toList]
    exact ⟨k1, k2⟩

theorem Try.zeroItem : ∃ i z, Try.prog.info? 75 = some i ∧ i.zero = some z ∧ i.size = 2 ∧ z.cells.size = 2 ∧ i.bytes = 16 := by
  have h2 : (Try.prog.info? 75).map (fun i => (i.zero.map (fun z => z.cells.size), i.size, i.bytes)) = some (some 2, 2, 16) := by kernel_rfl
  obtain ⟨i, hi, e⟩ := Option.map_eq_some_iff.1 h2
  simp at e
  obtain ⟨⟨z, hz, hz2⟩, h3, h4⟩ := e
  exact ⟨i, z, hi, hz, h3, hz2, h4⟩

theorem oneCell_it (x : It2) : ∀ u ∈ [Value.int .i64 x.1, Value.int .i64 x.2], u.oneCell' = true := by
  intro u hu
  simp only [List.mem_cons, List.not_mem_nil, or_false] at hu
  rcases hu with rfl | rfl <;> rfl

/-- A row of items that grows, in new memory. -/
structure Grow (w : World) (B : Nat) (v : Value) (O : List It2) (wr : World) : Prop where
  own : wr.ownsRow 0 75 2 v O.length (itCells O)
  new : ∀ b, v.ownBlock = some b → B ≤ b
  low : w.heap.size ≤ B
  big : B ≤ wr.heap.size
  turn : Turn (fun j => w.heap.size ≤ j) w wr

theorem Grow.more {w wr w' : World} {B : Nat} {v : Value} {O : List It2} (h : Grow w B v O wr) (t : Turn (fun j => wr.heap.size ≤ j) wr w') : Grow w B v O w' :=
  ⟨own_turn h.own t (fun _ hb => Nat.not_le_of_lt (own_lt h.own hb)), h.new, h.low, Nat.le_trans h.big t.size, h.turn.trans t (fun _ _ e => Nat.le_trans h.turn.size e)⟩

theorem Grow.push {w wr w' : World} {B : Nat} {v : Value} {O : List It2} (h : Grow w B v O wr) (x : It2) {g cap : Nat} (hown : w'.ownsRow 0 75 2 (.slice (some ⟨g, 0, none⟩) (O.length + 1) cap) (O.length + 1) (itCells O ++ [.int .i64 x.1, .int .i64 x.2])) (hg : wr.grownBy w' v.ownBlock) (hat : v.ownBlock = some g ∨ g = wr.heap.size) :
    Grow w B (.slice (some ⟨g, 0, none⟩) (O.length + 1) cap) (O ++ [x]) w' := by
  refine ⟨?_, ?_, h.low, Nat.le_trans h.big hg.size, h.turn.grown hg (fun j e _ => Nat.le_trans h.low (h.new j e))⟩
  · rw [List.length_append]
    have e : itCells (O ++ [x]) = itCells O ++ [.int .i64 x.1, .int .i64 x.2] := by simp [itCells]
    rw [e]
    exact hown
  · intro b hb
    injection hb with hb
    obtain rfl : g = b := hb
    rcases hat with k | k
    · exact h.new _ k
    · rw [k]; exact h.big

theorem Grow.new_ (w : World) {g : Nat} {wr : World} (hg : Has wr g 75 #[]) (hn : w.heap.size ≤ g) (t : Turn (fun j => w.heap.size ≤ j) w wr) : Grow w g (.slice (some ⟨g, 0, none⟩) 0 0) [] wr :=
  ⟨⟨rfl, .inr ⟨_, 0, #[], rfl, Nat.zero_le _, hg, Nat.le_refl _, Nat.zero_le _, rfl, rfl⟩⟩, fun b hb => by injection hb with hb; obtain rfl : g = b := hb; exact Nat.le_refl _, hn, Nat.le_of_lt hg.lt, t⟩

def insI (x : It2) : List It2 → List It2
  | [] => [x]
  | y :: t => if x.1 < y.1 then x :: y :: t else y :: insI x t

theorem insI_end {x : It2} : ∀ {L : List It2}, (∀ y ∈ L, ¬ x.1 < y.1) → ∀ R, insI x (L ++ R) = L ++ insI x R
  | [], _, _ => rfl
  | y :: t, h, R => by
    have ih := insI_end (L := t) (fun z hz => h z (by simp [hz])) R
    have e : insI x (y :: t ++ R) = y :: insI x (t ++ R) := if_neg (h y (by simp))
    rw [e, ih]
    rfl

/-- What stands in out behind k items. -/
def Adding (x : It2) (L : List It2) (k : Nat) (d : Bool) (O : List It2) : Prop :=
  if d then ∀ R, insI x (L.take k ++ R) = O ++ R else O = L.take k ∧ ∀ y ∈ L.take k, ¬ x.1 < y.1

theorem take_it {L : List It2} {k : Nat} {y : It2} (h : L[k]? = some y) : L.take (k + 1) = L.take k ++ [y] := by
  have hk := (List.getElem?_eq_some_iff.1 h).1
  have e := (List.getElem?_eq_some_iff.1 h).2
  rw [List.take_succ_eq_append_getElem hk, e]

theorem Adding.late {x : It2} {L : List It2} {k : Nat} {O : List It2} {y : It2} (h : Adding x L k true O) (hy : L[k]? = some y) : Adding x L (k + 1) true (O ++ [y]) := by
  intro R
  rw [take_it hy, List.append_assoc, List.append_assoc]
  exact h _

theorem Adding.now {x : It2} {L : List It2} {k : Nat} {O : List It2} {y : It2} (h : Adding x L k false O) (hy : L[k]? = some y) (hlt : x.1 < y.1) : Adding x L (k + 1) true (O ++ [x] ++ [y]) := by
  obtain ⟨h1, h2⟩ := h
  intro R
  rw [take_it hy, List.append_assoc, insI_end h2, h1]
  show _ ++ (if x.1 < y.1 then _ else _) = _
  rw [if_pos hlt]
  simp

theorem Adding.not {x : It2} {L : List It2} {k : Nat} {O : List It2} {y : It2} (h : Adding x L k false O) (hy : L[k]? = some y) (hlt : ¬ x.1 < y.1) : Adding x L (k + 1) false (O ++ [y]) := by
  obtain ⟨h1, h2⟩ := h
  refine ⟨by rw [take_it hy, h1], fun z hz => ?_⟩
  rw [take_it hy] at hz
  rcases List.mem_append.1 hz with hz | hz
  · exact h2 z hz
  · rw [List.mem_singleton.1 hz]; exact hlt

def ItsPost (w : World) (L : List It2) (en : Ending) (w' : World) : Prop := ∃ v b, en = .returned v ∧ Its w' b v L ∧ (∀ g, b = some g → w.heap.size ≤ g) ∧ Below w.heap.size w w'

set_option maxRecDepth 100000 in
set_option maxHeartbeats 1000000 in
theorem fadd_calls (b : Option Nat) (v : Value) (L : List It2) (t who : Int) (w : World) (h : Its w b v L) (hb : ∀ g, b = some g → g < w.heap.size) (hl : L.length ≤ 1000) :
    Calls Try.prog 42 #[v, .agg #[.int .i64 t, .int .i64 who]] w fun en w' => ItsPost w (insI (t, who) L) en w' := by
  obtain ⟨i0, z0, hi0, hz0, hz1, hz2, hz3⟩ := Try.zeroItem
  have HI0 := Lib.hid hi0
  have HZ0 := Lib.hid hz0
  have HZ1 := Lib.hid hz1
  have HZ2 := Lib.hid hz2
  have HZ3 := Lib.hid hz3
  have H := Lib.hid h
  have HB := Lib.hid hb
  obtain ⟨a, c, rfl, hc1, hc2, _⟩ := h
  clear hi0 hz0 hz1 hz2 hz3 hb hc2
  go_enter Try.func42, Try.ntmps42
  go_wp2_with fail
  go_name_world W0 hW0
  have T0 : Turn (fun j => w.heap.size ≤ j) w W0 := by rw [← hW0]; exact ((Turn.refl _ w).alloc _).alloc _
  have HX : Hid (Has W0 w.heap.size 75 #[.int .i64 t, .int .i64 who]) := by rw [← hW0]; exact (Has.made _ _ _).alloc _
  have HG : Hid (Grow w (w.heap.size + 1) (.slice (some ⟨w.heap.size + 1, 0, none⟩) 0 0) [] W0) := Grow.new_ w (by rw [← hW0]; exact made_at _ _ (by simp)) (Nat.le_succ _) T0
  clear hW0 T0
  go_loopw [5, 6, 12] (fun o d i wr => ∃ (k : Nat) (d' : Bool) (O : List It2), i = .int .i64 k ∧ d = .bool d' ∧ k ≤ L.length ∧ O.length ≤ 2 * k ∧ Hid (Adding (t, who) L k d' O) ∧ Hid (Grow w (w.heap.size + 1) o O wr) ∧ Hid (Has wr w.heap.size 75 #[.int .i64 t, .int .i64 who])) (fun _ _ i _ => L.length - (intOf i).toNat)
  case atStart => exact ⟨0, false, [], rfl, rfl, Nat.zero_le _, Nat.le_refl _, Lib.hid ⟨rfl, by simp⟩, HG, HX⟩
  case round =>
    obtain ⟨k, d', O, rfl, rfl, hk, hO, HA, HG1, HX1⟩ := hrel
    clear HG HX
    by_cases hkl : k < L.length
    · obtain ⟨y, hy⟩ : ∃ y, L[k]? = some y := ⟨L[k], List.getElem?_eq_getElem hkl⟩
      obtain ⟨g, o, c', ev, c0, c1⟩ := (H.out.turn HG1.out.turn (fun g cs e _ => Nat.not_le_of_lt (HB.out g e))).at_ k y hy
      injection ev with ev1 ev2 ev3
      subst ev1
      clear ev2 ev3
      have HY := Lib.hid hy
      have h1 : (k : Int) < (L.length : Int) := by omega
      have h0 : (0 : Int) ≤ (k : Int) := by omega
      have x0 : wr.cell? ⟨w.heap.size, 0, none⟩ = some (.int .i64 t) := HX1.out.cell 0
      have x1 : wr.cell? ⟨w.heap.size, 1, none⟩ = some (.int .i64 who) := HX1.out.cell 1
      have hxl := HX1.out.lt
      have hO' : O.length ≤ 2000 := by omega
      clear hy
      have G2 := Lib.hid (HG1.out.more (w' := wr.alloc (.cells #[.int .i64 y.1, .int .i64 y.2] 75)) ((Turn.refl _ _).alloc _))
      have X2 := Lib.hid (HX1.out.alloc (.cells #[.int .i64 y.1, .int .i64 y.2] 75))
      have Y2 : Hid (Has (wr.alloc (.cells #[.int .i64 y.1, .int .i64 y.2] 75)) wr.heap.size 75 #[.int .i64 y.1, .int .i64 y.2]) := Lib.hid (Has.made _ _ _)
      have hnx := Lib.hid (fun e => absurd (HG1.out.new _ e) (by omega) : u5.ownBlock ≠ some w.heap.size)
      have hny := Lib.hid (fun e => absurd (own_lt HG1.out.own e) (by omega) : u5.ownBlock ≠ some wr.heap.size)
      cases d' with
      | true =>
        have A2 := Lib.hid (HA.out.late HY.out)
        clear HA
        go_wp2_with (at_builtin
                     refine wpList_append_lies _ rfl (.tmp 29) (.tmp 31) 69 rfl 0 75 i0 z0 2 16 Try.underlying69 HI0.out HZ0.out HZ1.out HZ3.out HZ2.out (by decide) _ O.length _ rfl (by exact (G2.out.more ((Turn.refl _ _).alloc _)).own) ⟨wr.heap.size + 1, 0, none⟩ 1 1 [.int .i64 y.1, .int .i64 y.2] rfl rfl (by exact World.news_of_block (made_at _ _ (by simp))) (oneCell_it y) (by decide) (by unfold maxLen; omega) (by omega) (Nat.zero_le _) _ rfl ?_
                     intro g3 cap3 w3 hown hg hat hlt
                     have G3 := Lib.hid ((G2.out.more ((Turn.refl _ _).alloc _)).push y hown hg hat)
                     have X3 := Lib.hid ((X2.out.alloc _).grown hg (fun e => hnx.out e.symm))
                     clear hown hg hat hlt G2 X2)
        refine ⟨⟨k + 1, true, O ++ [y], by rw [Int.natCast_add]; rfl, rfl, by omega, by rw [List.length_append, List.length_singleton]; omega, A2, G3, X3⟩, ?_⟩
        show L.length - ((k : Int) + 1).toNat < L.length - ((k : Int)).toNat
        omega
      | false =>
        by_cases hlt : t < y.1
        · have A2 := Lib.hid (HA.out.now HY.out hlt)
          have hl1 : Hid ((O ++ [(t, who)]).length = O.length + 1) := Lib.hid (by simp)
          clear HA
          go_wp2_with (first
                    | (at_builtin
                       refine wpList_append_lies _ rfl (.tmp 25) (.tmp 27) 69 rfl 0 75 i0 z0 2 16 Try.underlying69 HI0.out HZ0.out HZ1.out HZ3.out HZ2.out (by decide) _ O.length _ rfl (by exact (G2.out.more ((Turn.refl _ _).alloc _)).own) ⟨wr.heap.size + 1, 0, none⟩ 1 1 [.int .i64 (t, who).1, .int .i64 (t, who).2] rfl rfl (by exact World.news_of_block (made_at _ _ (by simp))) (oneCell_it (t, who)) (by decide) (by unfold maxLen; omega) (by omega) (Nat.zero_le _) _ rfl ?_
                       intro g3 cap3 w3 hown hg hat hlt3
                       have G3 := Lib.hid ((G2.out.more ((Turn.refl _ _).alloc _)).push (t, who) hown hg hat)
                       have X3 := Lib.hid ((X2.out.alloc _).grown hg (fun e => hnx.out e.symm))
                       have Y3 := (Y2.out.alloc (.cells #[.int .i64 t, .int .i64 who] 75)).grown hg (fun e => hny.out e.symm)
                       have y0 : w3.cell? ⟨wr.heap.size, 0, none⟩ = some (.int .i64 y.1) := Y3.cell 0
                       have y1 : w3.cell? ⟨wr.heap.size, 1, none⟩ = some (.int .i64 y.2) := Y3.cell 1
                       clear hown hg hat hlt3 G2 X2 Y2 Y3)
                    | (at_builtin
                       refine wpList_append_lies _ rfl (.tmp 29) (.tmp 31) 69 rfl 0 75 i0 z0 2 16 Try.underlying69 HI0.out HZ0.out HZ1.out HZ3.out HZ2.out (by decide) _ (O.length + 1) _ rfl (by have h := (G3.out.more (w' := w3.alloc (.cells #[.int .i64 y.1, .int .i64 y.2] 75)) ((Turn.refl _ _).alloc _)).own; rw [hl1.out] at h; exact h) ⟨w3.heap.size, 0, none⟩ 1 1 [.int .i64 y.1, .int .i64 y.2] rfl rfl (by exact World.news_of_block (Has.made _ _ _)) (oneCell_it y) (by decide) (by unfold maxLen; omega) (by omega) (Nat.zero_le _) _ rfl ?_
                       intro g4 cap4 w4 hown hg hat hlt4
                       have hnx3 : Value.ownBlock (.slice (some ⟨g3, 0, none⟩) (O.length + 1) cap3) ≠ some w.heap.size := fun e => absurd (G3.out.new _ e) (by omega)
                       have G4 : Hid (Grow w (w.heap.size + 1) (.slice (some ⟨g4, 0, none⟩) (O.length + 1 + 1) cap4) (O ++ [(t, who)] ++ [y]) w4) := Lib.hid (by
                         have h := (G3.out.more (w' := w3.alloc (.cells #[.int .i64 y.1, .int .i64 y.2] 75)) ((Turn.refl _ _).alloc _)).push (g := g4) (cap := cap4) (w' := w4) y (by rw [hl1.out]; exact hown) hg hat
                         rw [hl1.out] at h
                         exact h)
                       have X4 := Lib.hid ((X3.out.alloc (.cells #[.int .i64 y.1, .int .i64 y.2] 75)).grown hg (fun e => hnx3 e.symm))
                       clear hown hg hat hlt4 G3 X3 hnx3))
          refine ⟨⟨k + 1, true, _, by rw [Int.natCast_add]; rfl, rfl, by omega, by rw [List.length_append, List.length_append, List.length_singleton, List.length_singleton]; omega, A2, G4, X4⟩, ?_⟩
          show L.length - ((k : Int) + 1).toNat < L.length - ((k : Int)).toNat
          omega
        · have A2 := Lib.hid (HA.out.not HY.out hlt)
          clear HA
          go_wp2_with (at_builtin
                       refine wpList_append_lies _ rfl (.tmp 29) (.tmp 31) 69 rfl 0 75 i0 z0 2 16 Try.underlying69 HI0.out HZ0.out HZ1.out HZ3.out HZ2.out (by decide) _ O.length _ rfl (by exact (G2.out.more ((Turn.refl _ _).alloc _)).own) ⟨wr.heap.size + 1, 0, none⟩ 1 1 [.int .i64 y.1, .int .i64 y.2] rfl rfl (by exact World.news_of_block (made_at _ _ (by simp))) (oneCell_it y) (by decide) (by unfold maxLen; omega) (by omega) (Nat.zero_le _) _ rfl ?_
                       intro g3 cap3 w3 hown hg hat hlt3
                       have G3 := Lib.hid ((G2.out.more ((Turn.refl _ _).alloc _)).push y hown hg hat)
                       have X3 := Lib.hid ((X2.out.alloc _).grown hg (fun e => hnx.out e.symm))
                       clear hown hg hat hlt3 G2 X2)
          refine ⟨⟨k + 1, false, O ++ [y], by rw [Int.natCast_add]; rfl, rfl, by omega, by rw [List.length_append, List.length_singleton]; omega, A2, G3, X3⟩, ?_⟩
          show L.length - ((k : Int) + 1).toNat < L.length - ((k : Int)).toNat
          omega
    · obtain rfl : k = L.length := by omega
      have h1 : ¬ (L.length : Int) < (L.length : Int) := by omega
      have hO' : O.length ≤ 2000 := by omega
      have x0 : wr.cell? ⟨w.heap.size, 0, none⟩ = some (.int .i64 t) := HX1.out.cell 0
      have x1 : wr.cell? ⟨w.heap.size, 1, none⟩ = some (.int .i64 who) := HX1.out.cell 1
      clear HX1
      cases d' with
      | true =>
        have e : Hid (insI (t, who) L = O) := Lib.hid (by have h := HA.out []; rw [List.take_length, List.append_nil, List.append_nil] at h; exact h)
        clear HA
        go_wp2_with fail
        go_ret
        rw [e.out]
        exact ⟨_, _, rfl, Its.of_own HG1.out.own, fun g hg => Nat.le_trans HG1.out.low (HG1.out.new g hg), HG1.out.turn.below (Nat.le_refl _) (fun j hj e => by omega)⟩
      | false =>
        have e : Hid (insI (t, who) L = O ++ [(t, who)]) := Lib.hid (by
          obtain ⟨h, h2⟩ := HA.out
          rw [List.take_length] at h h2
          have h3 := insI_end h2 []
          rw [List.append_nil] at h3
          rw [h3, h]
          rfl)
        clear HA
        go_wp2_with (at_builtin
                     refine wpList_append_lies _ rfl (.tmp 36) (.tmp 38) 69 rfl 0 75 i0 z0 2 16 Try.underlying69 HI0.out HZ0.out HZ1.out HZ3.out HZ2.out (by decide) _ O.length _ rfl (by exact (HG1.out.more ((Turn.refl _ _).alloc _)).own) ⟨wr.heap.size, 0, none⟩ 1 1 [.int .i64 (t, who).1, .int .i64 (t, who).2] rfl rfl (by exact World.news_of_block (Has.made _ _ _)) (oneCell_it (t, who)) (by decide) (by unfold maxLen; omega) (by omega) (Nat.zero_le _) _ rfl ?_
                     intro g3 cap3 w3 hown hg hat hlt3
                     have G3 := Lib.hid ((HG1.out.more ((Turn.refl _ _).alloc _)).push (t, who) hown hg hat)
                     clear hown hg hat hlt3 HG1)
        go_ret
        rw [e.out]
        exact ⟨_, _, rfl, Its.of_own (by have h := G3.out.own; rw [List.length_append] at h ⊢; exact h), fun g hg => Nat.le_trans G3.out.low (G3.out.new g hg), G3.out.turn.below (Nat.le_refl _) (fun j hj e => by omega)⟩

end Go.Proofs.Ytpdcbfhmlgmhpaa
