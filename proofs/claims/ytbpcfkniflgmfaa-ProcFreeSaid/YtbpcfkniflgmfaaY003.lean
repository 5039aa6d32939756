/- Texts laid into one: CelA, CelB, CelC, CelD. -/
import Derived.Test.YtbpcfkniflgmfaaY002
import Derived.Maps.OwnSet
import Derived.Deep.QuietTactic
import Derived.BigQuiet
import Derived.IntWalk
import Derived.Laws.MakeOwn
import Derived.Lib.ItoaWalk
section
/- cells: a memory of n cells; what New, has, Len, Look, Swaps, All give. -/
namespace Go.Proofs.Ytbpcfkniflgmfaa.cel
open Go.RowKit Go.Maps

section
variable {H : Type}

abbrev kI (n : Int) : Lit := .int .i64 n
abbrev nI (n : Int) : DataW H := .lit (.int .i64 n)

/-- A Go int. -/
def Fits (n : Int) : Prop := -9223372036854775808 ≤ n ∧ n ≤ 9223372036854775807

theorem wf64 {n : Int} (h : Fits n) : (Lit.int .i64 n).wf = true := by
  have m0 : IntKind.i64.min = -9223372036854775808 := by decide
  have m1 : IntKind.i64.max = 9223372036854775807 := by decide
  show (decide (IntKind.i64.min ≤ n) && decide (n ≤ IntKind.i64.max)) = true
  rw [m0, m1]
  simpa [Fits] using h

theorem intKeyed : Keyed Try.prog 3 := int_keyed Try.underlying3
theorem kI_of {n : Int} (h : Fits n) : keyOf Try.prog 3 (.int .i64 n) = some (kI n) := keyOf_int_mk Try.underlying3 (wf64 h)
theorem zeroInt (w : World) : (zeroValue 3).run Try.prog w = .ok (.int .i64 0) w := by kernel_rfl

/-- What is under a number; 0 where nothing is. -/
def cnt (D : DataW H) (n : Int) : Int := match D.atKey (kI n) (nI 0) with | .lit (.int _ c) => c | _ => 0

theorem cnt_of {D : DataW H} {n : Int} {c : Int} (h : D.atKey (kI n) (.lit (.int .i64 0)) = .lit (.int .i64 c)) : cnt D n = c := by
  unfold cnt nI; rw [h]

/-- The cells of one cell. -/
def cellL (T : Nat → ByteArray) (N : Nat → Int) (i : Nat) : List Value := [.string (T i), .int .i64 (N i)]
def cellsA (T : Nat → ByteArray) (N : Nat → Int) (n : Nat) : Array Value := (flat (cellL T N) 0 n).toArray

theorem cells_size (T : Nat → ByteArray) (N : Nat → Int) (n : Nat) : (cellsA T N n).size = n * 2 := by
  unfold cellsA
  rw [List.size_toArray]
  exact flat_len (fun _ _ _ => rfl)

theorem cells_text (T : Nat → ByteArray) (N : Nat → Int) (n : Nat) {k : Nat} (h : k < n) : (cellsA T N n)[k * 2]? = some (.string (T k)) := by
  unfold cellsA
  rw [List.getElem?_toArray]
  have := flat_get (g := cellL T N) (a := 0) (k := n) (w := 2) (fun _ _ _ => rfl) (j := k) (r := 0) h (by omega)
  rw [Nat.add_zero] at this
  rw [this, Nat.zero_add]
  rfl

theorem cells_swaps (T : Nat → ByteArray) (N : Nat → Int) (n : Nat) {k : Nat} (h : k < n) : (cellsA T N n)[k * 2 + 1]? = some (.int .i64 (N k)) := by
  unfold cellsA
  rw [List.getElem?_toArray]
  have := flat_get (g := cellL T N) (a := 0) (k := n) (w := 2) (fun _ _ _ => rfl) (j := k) (r := 1) h (by omega)
  rw [this, Nat.zero_add]
  rfl

def upd {α : Type} (F : Nat → α) (k : Nat) (v : α) (i : Nat) : α := if i = k then v else F i

theorem cells_put (T : Nat → ByteArray) (N : Nat → Int) (n : Nat) {k : Nat} (h : k < n) (s : ByteArray) : (cellsA T N n).setIfInBounds (k * 2) (.string s) = cellsA (upd T k s) N n := by
  have := flat_set (g := cellL T N) (a := 0) (k := n) (w := 2) (fun _ _ _ => rfl) (j := k) (r := 0) h (by omega) (Value.string s)
  rw [Nat.add_zero] at this
  unfold cellsA
  apply Array.ext'
  rw [Array.toList_setIfInBounds]
  show (flat (cellL T N) 0 n).set (k * 2) (.string s) = flat (cellL (upd T k s) N) 0 n
  rw [this]
  refine flat_congr fun i _ _ => ?_
  unfold cellL upd
  by_cases e : i = k
  · subst e; simp
  · rw [if_neg (by omega), if_neg e]

theorem cells_swapped (T : Nat → ByteArray) (N : Nat → Int) (n : Nat) {k : Nat} (h : k < n) (x : Int) : (cellsA T N n).setIfInBounds (k * 2 + 1) (.int .i64 x) = cellsA T (upd N k x) n := by
  have := flat_set (g := cellL T N) (a := 0) (k := n) (w := 2) (fun _ _ _ => rfl) (j := k) (r := 1) h (by omega) (Value.int .i64 x)
  unfold cellsA
  apply Array.ext'
  rw [Array.toList_setIfInBounds]
  show (flat (cellL T N) 0 n).set (k * 2 + 1) (.int .i64 x) = flat (cellL T (upd N k x)) 0 n
  rw [this]
  refine flat_congr fun i _ _ => ?_
  unfold cellL upd
  by_cases e : i = k
  · subst e; simp
  · rw [if_neg (by omega), if_neg e]

/-- Block m is a map from numbers to counts that reads as D. -/
def Mp (w : World) (m : Nat) (D : DataW H) : Prop := w.ownsMap Try.prog 3 (plainElem Try.prog 3) m (Maps.size D) D

theorem tight {P : Program} {k : TypeId} {R : Value → Option (DataW H × List MemPlace)} {w : World} {b n : Nat} {D : DataW H} (h : w.ownsMap P k R b n D) : w.ownsMap P k R b (Maps.size D) D := by
  obtain ⟨es, clock, hb, F, _, rfl⟩ := h
  exact ⟨es, clock, hb, F, by simp [Maps.size, length_sorted], rfl⟩

/-- The memory at block d, whose cells are in block c, whose counts are in block m. -/
structure Mem (w : World) (d c m n : Nat) (T : Nat → ByteArray) (N : Nat → Int) (D : DataW H) (a : Int) : Prop where
  box : Has w d 102 #[.slice (some ⟨c, 0, none⟩) n n, .map (some m), .int .i64 a]
  row : Has w c 99 (cellsA T N n)
  map : Mp w m D
  many : n ≤ 65536

theorem Mp.ne {w : World} {d m : Nat} {D : DataW H} {t : TypeId} {cs : Array Value} (h : Mp w m D) (hb : Has w d t cs) : m ≠ d := by
  rintro rfl
  obtain ⟨es, clock, h1, _⟩ := h
  unfold Has at hb
  rw [h1] at hb
  cases hb

theorem Mp.lt {w : World} {m : Nat} {D : DataW H} (h : Mp w m D) : m < w.heap.size := by
  obtain ⟨es, clock, h1, _⟩ := h
  rcases Nat.lt_or_ge m w.heap.size with k | k
  · exact k
  · rw [Array.getElem?_eq_none k] at h1; cases h1

section
variable {w w' : World} {d c m n : Nat} {T : Nat → ByteArray} {N : Nat → Int} {D : DataW H} {a : Int}

theorem Mem.dc (h : Mem w d c m n T N D a) : d ≠ c := by
  rintro rfl
  exact absurd (h.box.uniq h.row).2 (by decide)

theorem Mem.turn {F : Nat → Prop} (h : Mem w d c m n T N D a) (t : Turn F w w') (h1 : ¬ F d) (h2 : ¬ F c) (h3 : ¬ F m) : Mem w' d c m n T N D a :=
  ⟨h.box.turn t h1, h.row.turn t h2, by
    obtain ⟨es, clock, k1, k2⟩ := h.map
    have hm : m < w.heap.size := h.map.lt
    exact ⟨es, clock, (t.block m hm h3).trans k1, k2⟩, h.many⟩

theorem Mem.below (h : Mem w d c m n T N D a) (hb : Below w.heap.size w w') : Mem w' d c m n T N D a :=
  h.turn (Turn.of_below hb (F := fun j => w.heap.size ≤ j) (fun _ _ e => e)) (by have := h.box.lt; omega) (by have := h.row.lt; omega) (by have := h.map.lt; omega)

theorem Mem.drew (h : Mem w d c m n T N D a) : Mem w.drew d c m n T N D a := ⟨h.box, h.row, h.map, h.many⟩

def HasPost (n : Nat) (k : Int) (w : World) (en : Ending) (w' : World) : Prop := en = .returned (.bool (decide (0 ≤ k) && decide (k < (n : Int)))) ∧ w' = w

set_option maxRecDepth 100000 in
theorem Mem.has_calls (h : Mem w d c m n T N D a) (k : Int) : Calls Try.prog 44 #[.pointer (some ⟨d, 0, none⟩), .int .i64 k] w (HasPost n k w) := by
  have c0 : w.cell? ⟨d, 0, none⟩ = some (.slice (some ⟨c, 0, none⟩) n n) := h.box.cell 0
  have hn := h.many
  clear h
  by_cases h1 : 0 ≤ k
  · by_cases h2 : k < (n : Int)
    · go_enter Try.func44, Try.ntmps44
      go_wp2_with fail
      go_ret
      exact ⟨by simp [h1, h2], rfl⟩
    · go_enter Try.func44, Try.ntmps44
      go_wp2_with fail
      go_ret
      exact ⟨by simp [h2], rfl⟩
  · go_enter Try.func44, Try.ntmps44
    go_wp2_with fail
    go_ret
    exact ⟨by rw [show (decide (0 ≤ k)) = false from decide_eq_false (by omega)]; rfl, rfl⟩

set_option maxRecDepth 100000 in
theorem Mem.len_calls (h : Mem w d c m n T N D a) : Calls Try.prog 148 #[.pointer (some ⟨d, 0, none⟩)] w fun en w' => en = .returned (.int .i64 n) ∧ w' = w := by
  have c0 : w.cell? ⟨d, 0, none⟩ = some (.slice (some ⟨c, 0, none⟩) n n) := h.box.cell 0
  have hn := h.many
  clear h
  go_enter Try.func148, Try.ntmps148
  go_wp2_with fail
  go_ret
  exact ⟨rfl, rfl⟩

/-- What a cell holds; empty where none is. -/
def textAt (n : Nat) (T : Nat → ByteArray) (k : Int) : ByteArray := if 0 ≤ k ∧ k < (n : Int) then T k.toNat else ByteArray.empty
def swapsAt (n : Nat) (N : Nat → Int) (k : Int) : Int := if 0 ≤ k ∧ k < (n : Int) then N k.toNat else 0

set_option maxRecDepth 100000 in
theorem Mem.look_calls (h : Mem w d c m n T N D a) (k : Int) : Calls Try.prog 11 #[.pointer (some ⟨d, 0, none⟩), .int .i64 k] w fun en w' => en = .returned (.string (textAt n T k)) ∧ w' = w := by
  have hh := h.has_calls k
  have c0 : w.cell? ⟨d, 0, none⟩ = some (.slice (some ⟨c, 0, none⟩) n n) := h.box.cell 0
  have hn := h.many
  by_cases h1 : 0 ≤ k ∧ k < (n : Int)
  · obtain ⟨h2, h3⟩ := h1
    obtain ⟨j, rfl⟩ : ∃ j : Nat, k = (j : Int) := ⟨k.toNat, by omega⟩
    have hE := Lib.hid (show textAt n T (j : Int) = T j by unfold textAt; rw [if_pos ⟨h2, h3⟩, Int.toNat_natCast])
    have hj : j < n := by omega
    have c1 : w.cell? ⟨c, j * 2, none⟩ = some (.string (T j)) := (h.row.cell _).trans (cells_text T N n hj)
    clear h
    go_enter Try.func11, Try.ntmps11
    go_wp2_with fail
    refine hh.mono ?_
    rintro en w1 ⟨rfl, rfl⟩
    rw [decide_eq_true h2, decide_eq_true h3]
    go_wp2_with fail
    go_ret
    exact ⟨by rw [hE.out]; rfl, rfl⟩
  · have hE := Lib.hid (show textAt n T k = ByteArray.empty by unfold textAt; rw [if_neg h1])
    have hb : (decide (0 ≤ k) && decide (k < (n : Int))) = false := by simpa using h1
    clear h h1
    go_enter Try.func11, Try.ntmps11
    go_wp2_with fail
    refine hh.mono ?_
    rintro en w1 ⟨rfl, rfl⟩
    rw [hb]
    go_wp2_with fail
    go_ret
    exact ⟨by rw [hE.out]; rfl, rfl⟩

set_option maxRecDepth 100000 in
theorem Mem.swaps_calls (h : Mem w d c m n T N D a) (k : Int) : Calls Try.prog 43 #[.pointer (some ⟨d, 0, none⟩), .int .i64 k] w fun en w' => en = .returned (.int .i64 (swapsAt n N k)) ∧ w' = w := by
  have hh := h.has_calls k
  have c0 : w.cell? ⟨d, 0, none⟩ = some (.slice (some ⟨c, 0, none⟩) n n) := h.box.cell 0
  have hn := h.many
  by_cases h1 : 0 ≤ k ∧ k < (n : Int)
  · obtain ⟨h2, h3⟩ := h1
    obtain ⟨j, rfl⟩ : ∃ j : Nat, k = (j : Int) := ⟨k.toNat, by omega⟩
    have hE := Lib.hid (show swapsAt n N (j : Int) = N j by unfold swapsAt; rw [if_pos ⟨h2, h3⟩, Int.toNat_natCast])
    have hj : j < n := by omega
    have c1 : w.cell? ⟨c, j * 2 + 1, none⟩ = some (.int .i64 (N j)) := (h.row.cell _).trans (cells_swaps T N n hj)
    clear h
    go_enter Try.func43, Try.ntmps43
    go_wp2_with fail
    refine hh.mono ?_
    rintro en w1 ⟨rfl, rfl⟩
    rw [decide_eq_true h2, decide_eq_true h3]
    go_wp2_with fail
    go_ret
    exact ⟨by rw [hE.out]; rfl, rfl⟩
  · have hE := Lib.hid (show swapsAt n N k = 0 by unfold swapsAt; rw [if_neg h1])
    have hb : (decide (0 ≤ k) && decide (k < (n : Int))) = false := by simpa using h1
    clear h h1
    go_enter Try.func43, Try.ntmps43
    go_wp2_with fail
    refine hh.mono ?_
    rintro en w1 ⟨rfl, rfl⟩
    rw [hb]
    go_wp2_with fail
    go_ret
    exact ⟨by rw [hE.out]; rfl, rfl⟩

end
end
end Go.Proofs.Ytbpcfkniflgmfaa.cel
end

section
/- cells: what New and Do give. -/
namespace Go.Proofs.Ytbpcfkniflgmfaa.cel
open Go Go.RowKit Go.Maps

section
variable {H : Type}

/-- Each cell empty. -/
def noT : Nat → ByteArray := fun _ => ByteArray.empty
def noN : Nat → Int := fun _ => 0

theorem cellInfo : ∃ i z, Try.prog.info? 99 = some i ∧ i.zero = some z ∧ i.size = 2 ∧ z.cells = #[.string ByteArray.empty, .int .i64 0] ∧ i.bytes = 24 := by
  have h2 : (Try.prog.info? 99).map (fun i => (i.zero.map (fun z => z.cells), i.size, i.bytes)) = some (some #[.string ByteArray.empty, .int .i64 0], 2, 24) := by kernel_rfl
  obtain ⟨i, hi, e⟩ := Option.map_eq_some_iff.1 h2
  simp only [Prod.mk.injEq] at e
  obtain ⟨e1, e2, e3⟩ := e
  obtain ⟨z, hz, e4⟩ := Option.map_eq_some_iff.1 e1
  exact ⟨i, z, hi, hz, e2, e4, e3⟩

theorem cells_zero (n : Nat) : madeCells #[.string ByteArray.empty, .int .i64 0] (n * 2) = cellsA noT noN n := by
  apply Array.ext'
  apply List.ext_getElem?
  intro q
  by_cases hq : q < n * 2
  · have h1 : q / 2 < n := by omega
    have h2 : q % 2 < 2 := Nat.mod_lt _ (by decide)
    have e := flat_get (g := cellL noT noN) (a := 0) (k := n) (w := 2) (fun _ _ _ => rfl) h1 h2
    rw [show q / 2 * 2 + q % 2 = q by omega] at e
    unfold cellsA
    rw [e]
    rcases (show q % 2 = 0 ∨ q % 2 = 1 by omega) with h | h <;> simp [madeCells, h, hq, cellL, noT, noN]
  · rw [List.getElem?_eq_none (by rw [Array.length_toList, size_madeCells]; omega), List.getElem?_eq_none (by rw [Array.length_toList, cells_size]; omega)]

def NewPost (H : Type) (n : Nat) (w : World) (en : Ending) (w' : World) : Prop :=
  ∃ d c m, en = .returned (.pointer (some ⟨d, 0, none⟩)) ∧ Mem (H := H) w' d c m n noT noN (.map []) 0 ∧ Below w.heap.size w w' ∧ w.heap.size ≤ d ∧ w.heap.size ≤ c ∧ w.heap.size ≤ m

set_option maxRecDepth 100000 in
set_option maxHeartbeats 400000 in
theorem new_calls (n : Nat) (hn : n ≤ 65536) (w : World) : Calls Try.prog 33 #[.int .i64 n] w fun en w' => NewPost H n w en w' := by
  have hn0 : (0 : Int) ≤ (n : Int) := by omega
  have hn1 : (n : Int) ≤ 65536 := by omega
  have hmk : (Instr.makeSlice 100 (.int .i64 (n : Int)) (.int .i64 (n : Int))).run Try.prog w = .ok (.slice (some ⟨w.heap.size, 0, none⟩) n n) (w.alloc (.cells (cellsA noT noN n) 99)) := by
    obtain ⟨i0, z0, hi0, hz0, hz1, hz2, hz3⟩ := cellInfo
    have h := run_make (P := Try.prog) w 100 99 i0 z0 Try.underlying100 hi0 hz0 .i64 .i64 (n : Int) (n : Int) (by omega) (by omega) (by rw [hz3]; omega) (by omega)
    rw [Int.toNat_natCast, hz1, hz2] at h
    rw [h, cells_zero n]
  obtain ⟨W1, hW1⟩ : ∃ W1, W1 = w.alloc (.cells (cellsA noT noN n) 99) := ⟨_, rfl⟩
  have hC : Hid (Has W1 w.heap.size 99 (cellsA noT noN n) ∧ Below w.heap.size w W1 ∧ W1.heap.size = w.heap.size + 1) := by
    rw [hW1]
    exact ⟨Has.made _ _ _, (Below.refl _ _).alloc (Nat.le_refl _) _, by simp⟩
  rw [← hW1] at hmk
  clear hW1
  have hrun0 := run_makeMap (P := Try.prog) 51 W1
  have hown := World.ownsMap_made (H := H) W1 Try.prog 3 (plainElem Try.prog 3)
  have hM : Hid (Mp _ W1.heap.size (DataW.map (H := H) [])) := tight hown
  clear hown
  go_enter Try.func33, Try.ntmps33
  go_wp2_with fail
  go_ret
  have hz := hC.out.2.2
  refine ⟨_, _, _, rfl, ⟨made_at _ _ (by simp), (hC.out.1.alloc _).alloc _, hM.out.alloc _, hn⟩, ?_, by omega, Nat.le_refl _, by omega⟩
  exact (hC.out.2.1.alloc (by omega) _).alloc (by simp; omega) _

/-- Was it done? What the cell holds then, how many Swaps. -/
def did (k : Int) (t old : ByteArray) : Bool := if k = 3 then decide (t = old) else true
def aftT (k : Int) (t old new : ByteArray) : ByteArray := if k = 1 then t else if k = 3 then (if t = old then new else t) else new
def aftN (k : Int) (t old : ByteArray) (x : Int) : Int := if k = 3 ∧ t = old then x + 1 else x

theorem upd_self {α : Type} (F : Nat → α) (j : Nat) : upd F j (F j) = F := by
  funext i
  unfold upd
  split
  · rename_i e; rw [e]
  · rfl

theorem list_inj {s t : ByteArray} (h : s.toList = t.toList) : s = t := by
  rw [ByteArray.toList_eq, ByteArray.toList_eq] at h
  cases s; cases t
  simp at h
  rw [h]
theorem list_ne {s t : ByteArray} (h : s ≠ t) : (s.toList == t.toList) = false := beq_eq_false_iff_ne.2 fun e => h (list_inj e)

def CdoPost (c n j : Nat) (T : Nat → ByteArray) (N : Nat → Int) (k : Int) (old new : ByteArray) (w : World) (en : Ending) (w' : World) : Prop :=
  en = .returned (.tuple #[.string (T j), .bool (did k (T j) old)]) ∧ Has w' c 99 (cellsA (upd T j (aftT k (T j) old new)) (upd N j (aftN k (T j) old (N j))) n) ∧ w.grownBy w' (some c)

set_option maxRecDepth 100000 in
set_option maxHeartbeats 400000 in
theorem cdo_calls (c n j : Nat) (T : Nat → ByteArray) (N : Nat → Int) (k z : Int) (old new : ByteArray) (w : World) (h : Has w c 99 (cellsA T N n)) (hj : j < n)
    (hk : 1 ≤ k ∧ k ≤ 3) (hN : -4611686018427387904 ≤ N j ∧ N j ≤ 4611686018427387904) :
    Calls Try.prog 81 #[.pointer (some ⟨c, j * 2, none⟩), .agg #[.int .i64 k, .int .i64 z, .string old, .string new]] w fun en w' => CdoPost c n j T N k old new w en w' := by
  have c0 : w.cell? ⟨c, j * 2, none⟩ = some (.string (T j)) := (h.cell _).trans (cells_text T N n hj)
  have c1 : w.cell? ⟨c, j * 2 + 1, none⟩ = some (.int .i64 (N j)) := (h.cell _).trans (cells_swaps T N n hj)
  have f0 : w.frozen? ⟨c, j * 2, none⟩ = false := h.free _
  have f1 : w.frozen? ⟨c, j * 2 + 1, none⟩ = false := h.free _
  have hlt := h.lt
  have HW := Lib.hid h
  obtain ⟨hN1, hN2⟩ := hN
  generalize ht : T j = t at *
  generalize hx : N j = x at *
  have HT := Lib.hid ht
  have HX := Lib.hid hx
  clear h ht hx
  rcases (show k = 1 ∨ k = 2 ∨ k = 3 by omega) with rfl | rfl | rfl
  · clear hk
    go_enter Try.func81, Try.ntmps81
    go_wp2_with fail
    go_ret2
    unfold CdoPost
    rw [HT.out, HX.out]
    refine ⟨rfl, ?_, grown_alloc (grown_refl w _) _⟩
    have e1 : aftT 1 t old new = t := if_pos rfl
    have e2 : aftN 1 t old x = x := if_neg (fun e => absurd e.1 (by decide))
    rw [e1, e2, ← HT.out, ← HX.out, upd_self, upd_self]
    exact HW.out.alloc _
  · clear hk
    go_enter Try.func81, Try.ntmps81
    go_wp2_with fail
    go_ret2
    unfold CdoPost
    rw [HT.out, HX.out]
    refine ⟨rfl, ?_, grown_alloc (grown_own (grown_refl w _) _ _) _⟩
    have e1 : aftT 2 t old new = new := rfl
    have e2 : aftN 2 t old x = x := if_neg (fun e => absurd e.1 (by decide))
    rw [e1, e2, ← HX.out, upd_self, ← cells_put T N n hj new]
    exact (HW.out.put _ _).alloc _
  · clear hk
    by_cases ho : t = old
    · subst ho
      go_enter Try.func81, Try.ntmps81
      go_wp2_with fail
      go_ret2
      unfold CdoPost
      rw [HT.out, HX.out]
      refine ⟨by unfold did; simp, ?_, grown_alloc (grown_own (grown_own (grown_refl w _) _ _) _ _) _⟩
      have e1 : aftT 3 t t new = new := by unfold aftT; simp
      have e2 : aftN 3 t t x = x + 1 := if_pos ⟨rfl, rfl⟩
      rw [e1, e2, ← cells_put T (upd N j (x + 1)) n hj new, ← cells_swapped T N n hj (x + 1)]
      exact ((HW.out.put _ _).put _ _).alloc _
    · have hb := list_ne ho
      have hb' : ¬ t.toList = old.toList := fun e => ho (list_inj e)
      go_enter Try.func81, Try.ntmps81
      go_wp2_with fail
      go_ret2
      unfold CdoPost
      rw [HT.out, HX.out]
      refine ⟨by unfold did; simp [ho], ?_, grown_alloc (grown_refl w _) _⟩
      have e1 : aftT 3 t old new = t := by unfold aftT; simp [ho]
      have e2 : aftN 3 t old x = x := if_neg (fun e => ho e.2)
      rw [e1, e2, ← HT.out, ← HX.out, upd_self, upd_self]
      exact HW.out.alloc _

end
end Go.Proofs.Ytbpcfkniflgmfaa.cel
end

section
/- cells: what Do gives. -/
namespace Go.Proofs.Ytbpcfkniflgmfaa.cel
open Go Go.RowKit Go.Maps

section
variable {H : Type} {w : World} {d c m n : Nat} {T : Nat → ByteArray} {N : Nat → Int} {D : DataW H} {a : Int}

theorem new_box (w : World) (o : Obj) : Below w.heap.size w (w.alloc o) := (Below.refl _ _).alloc (Nat.le_refl _) _

/-- An access that is refused: its error's number. -/
def BadPost (e : Int) (w : World) (en : Ending) (w' : World) : Prop :=
  en = .returned (.tuple #[.string ⟨#[]⟩, .bool false, .int .i64 e]) ∧ Below w.heap.size w w'

set_option maxRecDepth 100000 in
set_option maxHeartbeats 400000 in
theorem Mem.do_range (h : Mem w d c m n T N D a) (p k z : Int) (old new : ByteArray) (hz : ¬ (0 ≤ z ∧ z < (n : Int))) :
    Calls Try.prog 48 #[.pointer (some ⟨d, 0, none⟩), .int .i64 p, .agg #[.int .i64 k, .int .i64 z, .string old, .string new]] w (BadPost 6 w) := by
  have h1 := (h.below (new_box w (.cells #[.int .i64 k, .int .i64 z, .string old, .string new] 116))).has_calls z
  have hb : (decide (0 ≤ z) && decide (z < (n : Int))) = false := by simpa using hz
  clear h hz
  go_enter Try.func48, Try.ntmps48
  go_wp2_with fail
  refine h1.mono ?_
  rintro en w1 ⟨rfl, rfl⟩
  rw [hb]
  go_wp2_with fail
  go_ret3
  exact ⟨rfl, new_box _ _⟩

set_option maxRecDepth 100000 in
set_option maxHeartbeats 400000 in
theorem Mem.do_kind (h : Mem w d c m n T N D a) (p k z : Int) (old new : ByteArray) (h0 : 0 ≤ z) (h1 : z < (n : Int)) (hk : k < 1 ∨ 3 < k) :
    Calls Try.prog 48 #[.pointer (some ⟨d, 0, none⟩), .int .i64 p, .agg #[.int .i64 k, .int .i64 z, .string old, .string new]] w (BadPost 5 w) := by
  have hh := (h.below (new_box w (.cells #[.int .i64 k, .int .i64 z, .string old, .string new] 116))).has_calls z
  clear h
  by_cases hk1 : k < 1
  · clear hk
    go_enter Try.func48, Try.ntmps48
    go_wp2_with fail
    refine hh.mono ?_
    rintro en w1 ⟨rfl, rfl⟩
    rw [decide_eq_true h0, decide_eq_true h1]
    go_wp2_with fail
    go_ret3
    exact ⟨rfl, new_box _ _⟩
  · have hk3 : 3 < k := by omega
    clear hk
    go_enter Try.func48, Try.ntmps48
    go_wp2_with fail
    refine hh.mono ?_
    rintro en w1 ⟨rfl, rfl⟩
    rw [decide_eq_true h0, decide_eq_true h1]
    go_wp2_with fail
    go_ret3
    exact ⟨rfl, new_box _ _⟩

/-- An access that is done, or a Swap that is not. -/
def DoPost (d c m n j : Nat) (T : Nat → ByteArray) (N : Nat → Int) (D : DataW H) (a p k : Int) (old new : ByteArray) (w : World) (en : Ending) (w' : World) : Prop :=
  en = .returned (.tuple #[.string (T j), .bool (did k (T j) old), .int .i64 0]) ∧
  Mem w' d c m n (upd T j (aftT k (T j) old new)) (upd N j (aftN k (T j) old (N j))) (D.put (kI p) (nI (cnt D p + 1))) (a + 1) ∧
  Turn (fun b => b = d ∨ b = c ∨ b = m) w w'

theorem Mem.cm (h : Mem w d c m n T N D a) : m ≠ d ∧ m ≠ c := ⟨h.map.ne h.box, h.map.ne h.row⟩

theorem cell_of {w w' : World} {m d i : Nat} {v : Value} (h : w.grownBy w' (some m)) (hd : d < w.heap.size) (hne : m ≠ d) (hc : w.cell? ⟨d, i, none⟩ = some v) : w'.cell? ⟨d, i, none⟩ = some v := by
  have := h.block d hd (fun e => hne (by injection e with e; exact e.symm))
  unfold World.cell? at hc ⊢
  rw [this]; exact hc

set_option maxRecDepth 100000 in
set_option maxHeartbeats 2000000 in
theorem Mem.do_calls (h : Mem w d c m n T N D a) (p k : Int) (j : Nat) (old new : ByteArray) (hj : j < n) (hk1 : 1 ≤ k) (hk3 : k ≤ 3) (hp : Fits p) (hD : Maps.size D < maxLen)
    (hc1 : -4611686018427387904 ≤ cnt D p) (hc2 : cnt D p ≤ 4611686018427387904) (ha1 : -4611686018427387904 ≤ a) (ha2 : a ≤ 4611686018427387904) (hN1 : -4611686018427387904 ≤ N j) (hN2 : N j ≤ 4611686018427387904) :
    Calls Try.prog 48 #[.pointer (some ⟨d, 0, none⟩), .int .i64 p, .agg #[.int .i64 k, .int .i64 (j : Int), .string old, .string new]] w (DoPost d c m n j T N D a p k old new w) := by
  obtain ⟨W1, hW1⟩ : ∃ W1, W1 = w.alloc (.cells #[.int .i64 k, .int .i64 (j : Int), .string old, .string new] 116) := ⟨_, rfl⟩
  obtain ⟨x, hx⟩ : ∃ x, x = w.heap.size := ⟨_, rfl⟩
  have B1 : Hid (Below w.heap.size w W1) := by rw [hW1]; exact new_box _ _
  have M1 : Hid (Mem W1 d c m n T N D a) := Lib.hid (h.below B1.out)
  have X1 : Hid (Has W1 x 116 #[.int .i64 k, .int .i64 (j : Int), .string old, .string new]) := by rw [hW1, hx]; exact Has.made _ _ _
  have hne : Hid (x ≠ d ∧ x ≠ c ∧ x ≠ m) := by
    have := h.box.lt
    have := h.row.lt
    have := h.map.lt
    refine Lib.hid ⟨by omega, by omega, by omega⟩
  have hh := M1.out.has_calls (j : Int)
  have hj0 : (0 : Int) ≤ (j : Int) := by omega
  have hj1 : (j : Int) < (n : Int) := by omega
  have hw1 : (Lit.int .i64 (cnt D p + 1)).wf = true := wf64 ⟨by omega, by omega⟩
  have hkey := kI_of hp
  have hown : W1.ownsMap Try.prog 3 (plainElem Try.prog 3) m (Maps.size D) D := M1.out.map
  obtain ⟨y, hlook, hat, _⟩ := World.ownsMap.lookup_int hown intKeyed Try.underlying51 Try.underlying3 (zeroInt W1) hkey
  obtain rfl : y = cnt D p := (cnt_of hat).symm
  obtain ⟨W2, hrun2, hown2, hturn2⟩ := hown.store intKeyed Try.underlying51 hD hkey (plainElem_int Try.underlying3 hw1)
  have G2 : Hid (W1.grownBy W2 (some m)) := Lib.hid hturn2.grown
  have M2 : Hid (Mp W2 m (D.put (kI p) (nI (cnt D p + 1)))) := Lib.hid (tight hown2)
  have HW := Lib.hid hW1
  have HX := Lib.hid hx
  have HAT := Lib.hid hat
  have CM := Lib.hid h.cm
  have DC := Lib.hid h.dc
  have ML := Lib.hid h.many
  have x1 := X1.out.cell 1
  have x0 := X1.out.cell 0
  have d1 : W1.cell? ⟨d, 1, none⟩ = some (.map (some m)) := M1.out.box.cell 1
  have D2 : Hid (Has W2 d 102 #[.slice (some ⟨c, 0, none⟩) n n, .map (some m), .int .i64 a]) := Lib.hid (M1.out.box.grown G2.out (fun e => CM.out.1 (by injection e with e; exact e.symm)))
  have C2 : Hid (Has W2 c 99 (cellsA T N n)) := Lib.hid (M1.out.row.grown G2.out (fun e => CM.out.2 (by injection e with e; exact e.symm)))
  have X2 : Hid (Has W2 x 116 #[.int .i64 k, .int .i64 (j : Int), .string old, .string new]) := Lib.hid (X1.out.grown G2.out (fun e => hne.out.2.2 (by injection e with e)))
  have d2 : W2.cell? ⟨d, 2, none⟩ = some (.int .i64 a) := D2.out.cell 2
  have f2 : W2.frozen? ⟨d, 2, none⟩ = false := D2.out.free 2
  have HC := Lib.hid (And.intro hc1 hc2)
  clear hown hown2 hturn2 hat hW1 hx h hw1 hp hkey hD
  go_enter Try.func48, Try.ntmps48
  go_wp2_with fail
  rw [← HW.out, ← HX.out]
  refine hh.mono ?_
  rintro en w1 ⟨rfl, rfl⟩
  rw [decide_eq_true hj0, decide_eq_true hj1]
  go_wp2_with fail
  go_name_world W3 hW3
  have D3 : Hid (Has W3 d 102 #[.slice (some ⟨c, 0, none⟩) n n, .map (some m), .int .i64 (a + 1)]) := by rw [← hW3]; exact D2.out.put 2 _
  have C3 : Hid (Has W3 c 99 (cellsA T N n)) := by rw [← hW3]; exact C2.out.far (fun e => DC.out e.symm) _
  have X3 : Hid (Has W3 x 116 #[.int .i64 k, .int .i64 (j : Int), .string old, .string new]) := by rw [← hW3]; exact X2.out.far hne.out.1 _
  have M3 : Hid (Mp W3 m (D.put (kI p) (nI (cnt D p + 1)))) := by
    rw [← hW3]
    obtain ⟨es, clock, k1, k2⟩ := M2.out
    exact ⟨es, clock, (Below.heap_setCell W2 ⟨d, 2, none⟩ _ m CM.out.1).trans k1, k2⟩
  have T3 : Hid (Turn (fun b => b = d ∨ b = c ∨ b = m) w W3) := by
    rw [← hW3]
    have t1 : Turn (fun b => b = d ∨ b = c ∨ b = m) w w1 := Turn.of_below B1.out (fun i h1 h2 => absurd h2 (by omega))
    have t2 : Turn (fun b => b = d ∨ b = c ∨ b = m) w W2 := t1.grown G2.out (fun i e _ => .inr (.inr (by injection e with e; exact e.symm)))
    exact t2.put (fun _ => .inl rfl) _ _
  clear hW3 hlook hrun2 x1 x0 d1 d2 f2 D2 C2 X2 M2 hh M1 X1
  have HC3 := Lib.hid (cdo_calls c n j T N k (j : Int) old new W3.drew (C3.out.drew) hj ⟨hk1, hk3⟩ ⟨hN1, hN2⟩)
  have x0 := X3.out.cell 0
  have x1 := X3.out.cell 1
  have x2 := X3.out.cell 2
  have x3 := X3.out.cell 3
  have d0 := D3.out.cell 0
  go_region_law (refine step_call rfl 81 Try.f81 Try.func81 (by kernel_rfl) (by kernel_rfl) _ _ rfl #[.pointer (some ⟨c, j * 2, none⟩), .agg #[.int .i64 k, .int .i64 (j : Int), .string old, .string new]] (by first | (simp [Act.eval]; done) | (simp [Act.eval, Act.put]; done)) (by exact HC3.out) ?_
                 rintro en w4 ⟨rfl, c4, g4⟩
                 have C4 := Lib.hid c4
                 have G4 := Lib.hid g4
                 clear c4 g4 x0 x1 x2 x3 d0
                 refine ⟨_, rfl, ?_⟩)
  all_goals
    go_wp2_with fail
    go_ret3
    have M4 : Mp w4 m (D.put (kI p) (nI (cnt D p + 1))) := by
      obtain ⟨es, clock, k1, k2⟩ := M3.out
      exact ⟨es, clock, (G4.out.block m (M3.out.lt) (fun e => CM.out.2 (by injection e))).trans k1, k2⟩
    refine ⟨rfl, ⟨D3.out.drew.grown G4.out (fun e => DC.out (by injection e)), C4.out, M4, ML.out⟩, T3.out.drew.grown G4.out (fun i e _ => .inr (.inl (by injection e with e; exact e.symm)))⟩

end
end Go.Proofs.Ytbpcfkniflgmfaa.cel
end

section
/- cells: a memory made since w, with counts that are small; the laws' Cut. -/
namespace Go.Proofs.Ytbpcfkniflgmfaa.cel
open Go Go.RowKit Go.Maps

section
variable {H : Type}

theorem kI_inj {x y : Int} (h : kI x = kI y) : x = y := by
  simpa [kI] using h

theorem cnt_put {D : DataW H} (hD : IsMap D) (p q v : Int) : cnt (D.put (kI p) (nI v)) q = if q = p then v else cnt D q := by
  by_cases h : q = p
  · subst h; rw [if_pos rfl]; exact cnt_of (atKey_put_same hD (by simp [WideAt.IsKeyLit]) _ _)
  · rw [if_neg h]; unfold cnt; rw [atKey_put_other (fun e => h (kI_inj e))]

theorem cnt_none (q : Int) : cnt (.map [] : DataW H) q = 0 := rfl

/-- A memory made since w. -/
structure Own (w : World) (d c m n : Nat) (T : Nat → ByteArray) (N : Nat → Int) (D : DataW H) (a : Int) (V : World) : Prop where
  mem : Mem V d c m n T N D a
  nd : w.heap.size ≤ d
  nc : w.heap.size ≤ c
  nm : w.heap.size ≤ m
  turn : Turn (fun j => w.heap.size ≤ j) w V
  tidy : Tidy D
  a0 : 0 ≤ a
  size : (Maps.size D : Int) ≤ a
  cn : ∀ p, 0 ≤ cnt D p ∧ cnt D p ≤ a
  sw : ∀ j, 0 ≤ N j ∧ N j ≤ a

section
variable {w V V' : World} {d c m n : Nat} {T : Nat → ByteArray} {N : Nat → Int} {D : DataW H} {a : Int}

theorem Own.below (h : Own w d c m n T N D a V) (hb : Below V.heap.size V V') : Own w d c m n T N D a V' :=
  ⟨h.mem.below hb, h.nd, h.nc, h.nm, h.turn.trans (Turn.of_below hb (F := fun j => V.heap.size ≤ j) (fun _ _ e => e)) (fun _ _ e => Nat.le_trans h.turn.size e), h.tidy, h.a0, h.size, h.cn, h.sw⟩

theorem Own.drew (h : Own w d c m n T N D a V) : Own w d c m n T N D a V.drew := ⟨h.mem.drew, h.nd, h.nc, h.nm, h.turn.drew, h.tidy, h.a0, h.size, h.cn, h.sw⟩

/-- Another block turns that is new since w, and none of its own. -/
theorem Own.other {F : Nat → Prop} (h : Own w d c m n T N D a V) (t : Turn F V V') (hF : ∀ j, F j → w.heap.size ≤ j) (h1 : ¬ F d) (h2 : ¬ F c) (h3 : ¬ F m) : Own w d c m n T N D a V' :=
  ⟨h.mem.turn t h1 h2 h3, h.nd, h.nc, h.nm, h.turn.trans t (fun j _ e => hF j e), h.tidy, h.a0, h.size, h.cn, h.sw⟩

theorem Own.ends (h : Own w d c m n T N D a V) : Below w.heap.size w V := h.turn.below (Nat.le_refl _) (fun _ hj e => by omega)

theorem own_new {e : Ending} (hw : Turn (fun j => w.heap.size ≤ j) w V) (h : NewPost H n V e V') : ∃ d c m, e = .returned (.pointer (some ⟨d, 0, none⟩)) ∧ Own w d c m n noT noN (.map [] : DataW H) 0 V' ∧ V.heap.size ≤ d ∧ V.heap.size ≤ c ∧ V.heap.size ≤ m := by
  obtain ⟨d, c, m, rfl, M, b, h1, h2, h3⟩ := h
  have hz := hw.size
  exact ⟨d, c, m, rfl, ⟨M, Nat.le_trans hz h1, Nat.le_trans hz h2, Nat.le_trans hz h3, hw.trans (Turn.of_below b (F := fun j => V.heap.size ≤ j) (fun _ _ e => e)) (fun j _ e => Nat.le_trans hz e), tidy_empty, by omega, by simp [Maps.size], fun p => by rw [cnt_none]; omega, fun j => by simp [noN]⟩, h1, h2, h3⟩

/-- The counts behind one more of p. -/
def more1 (D : DataW H) (p : Int) : DataW H := D.put (kI p) (nI (cnt D p + 1))

theorem cnt_more {D : DataW H} (hD : IsMap D) (p q : Int) : cnt (more1 D p) q = if q = p then cnt D p + 1 else cnt D q := cnt_put hD p q _

theorem Own.done (h : Own w d c m n T N D a V) {p k : Int} {j : Nat} {old new : ByteArray} {e : Ending} (hp : DoPost d c m n j T N D a p k old new V e V') :
    e = .returned (.tuple #[.string (T j), .bool (did k (T j) old), .int .i64 0]) ∧ Own w d c m n (upd T j (aftT k (T j) old new)) (upd N j (aftN k (T j) old (N j))) (more1 D p) (a + 1) V' := by
  obtain ⟨rfl, M, t⟩ := hp
  refine ⟨rfl, M, h.nd, h.nc, h.nm, h.turn.trans t (fun i _ e => by have := h.nd; have := h.nc; have := h.nm; rcases e with rfl | rfl | rfl <;> assumption), h.tidy.put (by simp [WideAt.IsKeyLit]) _, by have := h.a0; omega, ?_, fun q => ?_, fun i => ?_⟩
  · have := h.size
    show ((Maps.size (D.put (kI p) (nI (cnt D p + 1))) : Nat) : Int) ≤ a + 1
    rw [size_put h.tidy]
    split <;> omega
  · rw [cnt_more h.tidy.isMap]
    have h1 := h.cn p
    have h2 := h.cn q
    split <;> omega
  · unfold upd
    have h1 := h.sw j
    have h2 := h.sw i
    split
    · unfold aftN; split <;> omega
    · omega

/-- An access, in words of what comes out. -/
def DidPost (w : World) (d c m n : Nat) (T : Nat → ByteArray) (N : Nat → Int) (D : DataW H) (a : Int) (t : ByteArray) (b : Bool) (en : Ending) (w' : World) : Prop :=
  en = .returned (.tuple #[.string t, .bool b, .int .i64 0]) ∧ Own w d c m n T N D a w'

def DidPostT (w : World) (d c m n : Nat) (T : Nat → ByteArray) (N : Nat → Int) (D : DataW H) (a : Int) (t : ByteArray) (b : Bool) (V : World) (en : Ending) (w' : World) : Prop :=
  en = .returned (.tuple #[.string t, .bool b, .int .i64 0]) ∧ Own w d c m n T N D a w' ∧ Turn (fun b => b = d ∨ b = c ∨ b = m) V w'

theorem Own.do_turn (h : Own w d c m n T N D a V) (p k : Int) (j : Nat) (old new : ByteArray) (hj : j < n) (hk1 : 1 ≤ k) (hk3 : k ≤ 3) (hp : Fits p) (ha : a ≤ 1000000)
    (t : ByteArray) (ht : T j = t) (b : Bool) (hb : did k t old = b) (T' : Nat → ByteArray) (hT : upd T j (aftT k t old new) = T') (N' : Nat → Int) (hN : upd N j (aftN k t old (N j)) = N') :
    Calls Try.prog 48 #[.pointer (some ⟨d, 0, none⟩), .int .i64 p, .agg #[.int .i64 k, .int .i64 (j : Int), .string old, .string new]] V (DidPostT w d c m n T' N' (more1 D p) (a + 1) t b V) := by
  have h1 := h.cn p
  have h2 := h.sw j
  have h3 := h.a0
  have h4 := h.size
  refine (h.mem.do_calls p k j old new hj hk1 hk3 hp (by unfold maxLen; omega) (by omega) (by omega) (by omega) (by omega) (by omega) (by omega)).mono ?_
  intro en w' hP
  have := h.done hP
  subst ht hb hT hN
  exact ⟨this.1, this.2, hP.2.2⟩

theorem Own.do_any (h : Own w d c m n T N D a V) (p k : Int) (j : Nat) (old new : ByteArray) (hj : j < n) (hk1 : 1 ≤ k) (hk3 : k ≤ 3) (hp : Fits p) (ha : a ≤ 1000000)
    (t : ByteArray) (ht : T j = t) (b : Bool) (hb : did k t old = b) (T' : Nat → ByteArray) (hT : upd T j (aftT k t old new) = T') (N' : Nat → Int) (hN : upd N j (aftN k t old (N j)) = N') :
    Calls Try.prog 48 #[.pointer (some ⟨d, 0, none⟩), .int .i64 p, .agg #[.int .i64 k, .int .i64 (j : Int), .string old, .string new]] V (DidPost w d c m n T' N' (more1 D p) (a + 1) t b) :=
  (h.do_turn p k j old new hj hk1 hk3 hp ha t ht b hb T' hT N' hN).mono fun _ _ hP => ⟨hP.1, hP.2.1⟩

theorem Own.look (h : Own w d c m n T N D a V) (k : Int) (t : ByteArray) (ht : textAt n T k = t) : Calls Try.prog 11 #[.pointer (some ⟨d, 0, none⟩), .int .i64 k] V fun en w' => en = .returned (.string t) ∧ w' = V := by
  subst ht; exact h.mem.look_calls k
theorem Own.swaps (h : Own w d c m n T N D a V) (k x : Int) (hx : swapsAt n N k = x) : Calls Try.prog 43 #[.pointer (some ⟨d, 0, none⟩), .int .i64 k] V fun en w' => en = .returned (.int .i64 x) ∧ w' = V := by
  subst hx; exact h.mem.swaps_calls k
theorem text_at {n j : Nat} (T : Nat → ByteArray) (h : j < n) : textAt n T (j : Int) = T j := by
  unfold textAt; rw [if_pos ⟨by omega, by omega⟩, Int.toNat_natCast]
theorem swaps_at {n j : Nat} (N : Nat → Int) (h : j < n) : swapsAt n N (j : Int) = N j := by
  unfold swapsAt; rw [if_pos ⟨by omega, by omega⟩, Int.toNat_natCast]

set_option maxRecDepth 100000 in
theorem cut_calls (s : ByteArray) (n : Nat) (w : World) (hn : n ≤ 1000000) (_hs : s.size ≤ maxLen) :
    Calls Try.prog 28 #[.string s, .int .i64 n] w fun en w' => en = .returned (.string (s.extract 0 n)) ∧ w' = w := by
  unfold maxLen at _hs
  by_cases h : n < s.size
  · go_enter Try.func28, Try.ntmps28
    go_wp2
    go_ret
    exact ⟨rfl, rfl⟩
  · have e : s.extract 0 n = s := by
      apply ByteArray.ext
      simp [ByteArray.data_extract]
      omega
    have E := Lib.hid e
    clear e
    go_enter Try.func28, Try.ntmps28
    go_wp2
    go_ret
    rw [E.out]
    exact ⟨rfl, rfl⟩

end
end
end Go.Proofs.Ytbpcfkniflgmfaa.cel
end

