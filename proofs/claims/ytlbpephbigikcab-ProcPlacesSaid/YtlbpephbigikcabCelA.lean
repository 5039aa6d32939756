/- cells: a memory of n cells; what New, has, Len, Look, Swaps, All give. -/
import Derived.Test.YtlbpephbigikcabFlat
import Derived.Maps.OwnSet
import Derived.Deep.QuietTactic
import Derived.BigQuiet
import Derived.IntWalk
import Derived.Laws.MakeOwn
namespace Go.Proofs.Ytlbpephbigikcab.cel
open Go.RowKit Go.Maps

section
variable {H : Type}

abbrev kI (n : Int) : Lit := .int .i64 n
abbrev nI (n : Int) : DataW H := .lit (.int .i64 n)

/-- A Go int. -/
def Fits (n : Int) : Prop := -9223372036854775808 ≤ n ∧ n ≤ 9223372036854775807

theorem wf64 {n : Int} (h : Fits n) : (Lit.int .i64 n).wf = true := by
  have m0 : IntKind.i64.min = -9223372036854775808 := by decide
  have m1 : IntKind.i64.max = 9223372036854775807 := by decide
  show (decide (IntKind.i64.min ≤ n) && decide (n ≤ IntKind.i64.max)) = true
  rw [m0, m1]
  simpa [Fits] using h

theorem intKeyed : Keyed Try.prog 3 := int_keyed Try.underlying3
theorem kI_of {n : Int} (h : Fits n) : keyOf Try.prog 3 (.int .i64 n) = some (kI n) := keyOf_int_mk Try.underlying3 (wf64 h)
theorem zeroInt (w : World) : (zeroValue 3).run Try.prog w = .ok (.int .i64 0) w := by kernel_rfl

/-- What is under a number; 0 where nothing is. -/
def cnt (D : DataW H) (n : Int) : Int := match D.atKey (kI n) (nI 0) with | .lit (.int _ c) => c | _ => 0

theorem cnt_of {D : DataW H} {n : Int} {c : Int} (h : D.atKey (kI n) (.lit (.int .i64 0)) = .lit (.int .i64 c)) : cnt D n = c := by
  unfold cnt nI; rw [h]

/-- The cells of one cell. -/
def cellL (T : Nat → ByteArray) (N : Nat → Int) (i : Nat) : List Value := [.string (T i), .int .i64 (N i)]
def cellsA (T : Nat → ByteArray) (N : Nat → Int) (n : Nat) : Array Value := (flat (cellL T N) 0 n).toArray

theorem cells_size (T : Nat → ByteArray) (N : Nat → Int) (n : Nat) : (cellsA T N n).size = n * 2 := by
  unfold cellsA
  rw [List.size_toArray]
  exact flat_len (fun _ _ _ => rfl)

theorem cells_text (T : Nat → ByteArray) (N : Nat → Int) (n : Nat) {k : Nat} (h : k < n) : (cellsA T N n)[k * 2]? = some (.string (T k)) := by
  unfold cellsA
  rw [List.getElem?_toArray]
  have := flat_get (g := cellL T N) (a := 0) (k := n) (w := 2) (fun _ _ _ => rfl) (j := k) (r := 0) h (by omega)
  rw [Nat.add_zero] at this
  rw [this, Nat.zero_add]
  rfl

theorem cells_swaps (T : Nat → ByteArray) (N : Nat → Int) (n : Nat) {k : Nat} (h : k < n) : (cellsA T N n)[k * 2 + 1]? = some (.int .i64 (N k)) := by
  unfold cellsA
  rw [List.getElem?_toArray]
  have := flat_get (g := cellL T N) (a := 0) (k := n) (w := 2) (fun _ _ _ => rfl) (j := k) (r := 1) h (by omega)
  rw [this, Nat.zero_add]
  rfl

def upd {α : Type} (F : Nat → α) (k : Nat) (v : α) (i : Nat) : α := if i = k then v else F i

theorem cells_put (T : Nat → ByteArray) (N : Nat → Int) (n : Nat) {k : Nat} (h : k < n) (s : ByteArray) : (cellsA T N n).setIfInBounds (k * 2) (.string s) = cellsA (upd T k s) N n := by
  have := flat_set (g := cellL T N) (a := 0) (k := n) (w := 2) (fun _ _ _ => rfl) (j := k) (r := 0) h (by omega) (Value.string s)
  rw [Nat.add_zero] at this
  unfold cellsA
  apply Array.ext'
  rw [Array.toList_setIfInBounds]
  show (flat (cellL T N) 0 n).set (k * 2) (.string s) = flat (cellL (upd T k s) N) 0 n
  rw [this]
  refine flat_congr fun i _ _ => ?_
  unfold cellL upd
  by_cases e : i = k
  · subst e; simp
  · rw [if_neg (by omega), if_neg e]

theorem cells_swapped (T : Nat → ByteArray) (N : Nat → Int) (n : Nat) {k : Nat} (h : k < n) (x : Int) : (cellsA T N n).setIfInBounds (k * 2 + 1) (.int .i64 x) = cellsA T (upd N k x) n := by
  have := flat_set (g := cellL T N) (a := 0) (k := n) (w := 2) (fun _ _ _ => rfl) (j := k) (r := 1) h (by omega) (Value.int .i64 x)
  unfold cellsA
  apply Array.ext'
  rw [Array.toList_setIfInBounds]
  show (flat (cellL T N) 0 n).set (k * 2 + 1) (.int .i64 x) = flat (cellL T (upd N k x)) 0 n
  rw [this]
  refine flat_congr fun i _ _ => ?_
  unfold cellL upd
  by_cases e : i = k
  · subst e; simp
  · rw [if_neg (by omega), if_neg e]

/-- Block m is a map from numbers to counts that reads as D. -/
def Mp (w : World) (m : Nat) (D : DataW H) : Prop := w.ownsMap Try.prog 3 (plainElem Try.prog 3) m (Maps.size D) D

theorem tight {P : Program} {k : TypeId} {R : Value → Option (DataW H × List MemPlace)} {w : World} {b n : Nat} {D : DataW H} (h : w.ownsMap P k R b n D) : w.ownsMap P k R b (Maps.size D) D := by
  obtain ⟨es, clock, hb, F, _, rfl⟩ := h
  exact ⟨es, clock, hb, F, by simp [Maps.size, length_sorted], rfl⟩

/-- The memory at block d, whose cells are in block c, whose counts are in block m. -/
structure Mem (w : World) (d c m n : Nat) (T : Nat → ByteArray) (N : Nat → Int) (D : DataW H) (a : Int) : Prop where
  box : Has w d 73 #[.slice (some ⟨c, 0, none⟩) n n, .map (some m), .int .i64 a]
  row : Has w c 78 (cellsA T N n)
  map : Mp w m D
  many : n ≤ 65536

theorem Mp.ne {w : World} {d m : Nat} {D : DataW H} {t : TypeId} {cs : Array Value} (h : Mp w m D) (hb : Has w d t cs) : m ≠ d := by
  rintro rfl
  obtain ⟨es, clock, h1, _⟩ := h
  unfold Has at hb
  rw [h1] at hb
  cases hb

theorem Mp.lt {w : World} {m : Nat} {D : DataW H} (h : Mp w m D) : m < w.heap.size := by
  obtain ⟨es, clock, h1, _⟩ := h
  rcases Nat.lt_or_ge m w.heap.size with k | k
  · exact k
  · rw [Array.getElem?_eq_none k] at h1; cases h1

section
variable {w w' : World} {d c m n : Nat} {T : Nat → ByteArray} {N : Nat → Int} {D : DataW H} {a : Int}

theorem Mem.dc (h : Mem w d c m n T N D a) : d ≠ c := by
  rintro rfl
  exact absurd (h.box.uniq h.row).2 (by decide)

theorem Mem.turn {F : Nat → Prop} (h : Mem w d c m n T N D a) (t : Turn F w w') (h1 : ¬ F d) (h2 : ¬ F c) (h3 : ¬ F m) : Mem w' d c m n T N D a :=
  ⟨h.box.turn t h1, h.row.turn t h2, by
    obtain ⟨es, clock, k1, k2⟩ := h.map
    have hm : m < w.heap.size := h.map.lt
    exact ⟨es, clock, (t.block m hm h3).trans k1, k2⟩, h.many⟩

theorem Mem.below (h : Mem w d c m n T N D a) (hb : Below w.heap.size w w') : Mem w' d c m n T N D a :=
  h.turn (Turn.of_below hb (F := fun j => w.heap.size ≤ j) (fun _ _ e => e)) (by have := h.box.lt; omega) (by have := h.row.lt; omega) (by have := h.map.lt; omega)

theorem Mem.drew (h : Mem w d c m n T N D a) : Mem w.drew d c m n T N D a := ⟨h.box, h.row, h.map, h.many⟩

def HasPost (n : Nat) (k : Int) (w : World) (en : Ending) (w' : World) : Prop := en = .returned (.bool (decide (0 ≤ k) && decide (k < (n : Int)))) ∧ w' = w

theorem Mem.has_calls (h : Mem w d c m n T N D a) (k : Int) : Calls Try.prog 38 #[.pointer (some ⟨d, 0, none⟩), .int .i64 k] w (HasPost n k w) := by
  have c0 : w.cell? ⟨d, 0, none⟩ = some (.slice (some ⟨c, 0, none⟩) n n) := h.box.cell 0
  have hn := h.many
  clear h
  by_cases h1 : 0 ≤ k
  · by_cases h2 : k < (n : Int)
    · go_enter Try.func38, Try.ntmps38
      go_wp2_with fail
      go_ret
      exact ⟨by simp [h1, h2], rfl⟩
    · go_enter Try.func38, Try.ntmps38
      go_wp2_with fail
      go_ret
      exact ⟨by simp [h2], rfl⟩
  · go_enter Try.func38, Try.ntmps38
    go_wp2_with fail
    go_ret
    exact ⟨by rw [show (decide (0 ≤ k)) = false from decide_eq_false (by omega)]; rfl, rfl⟩

theorem Mem.len_calls (h : Mem w d c m n T N D a) : Calls Try.prog 14 #[.pointer (some ⟨d, 0, none⟩)] w fun en w' => en = .returned (.int .i64 n) ∧ w' = w := by
  have c0 : w.cell? ⟨d, 0, none⟩ = some (.slice (some ⟨c, 0, none⟩) n n) := h.box.cell 0
  have hn := h.many
  clear h
  go_enter Try.func14, Try.ntmps14
  go_wp2_with fail
  go_ret
  exact ⟨rfl, rfl⟩

theorem Mem.all_calls (h : Mem w d c m n T N D a) : Calls Try.prog 28 #[.pointer (some ⟨d, 0, none⟩)] w fun en w' => en = .returned (.int .i64 a) ∧ w' = w := by
  have c0 : w.cell? ⟨d, 2, none⟩ = some (.int .i64 a) := h.box.cell 2
  clear h
  go_enter Try.func28, Try.ntmps28
  go_wp2_with fail
  go_ret
  exact ⟨rfl, rfl⟩

/-- What a cell holds; empty where none is. -/
def textAt (n : Nat) (T : Nat → ByteArray) (k : Int) : ByteArray := if 0 ≤ k ∧ k < (n : Int) then T k.toNat else ByteArray.empty
def swapsAt (n : Nat) (N : Nat → Int) (k : Int) : Int := if 0 ≤ k ∧ k < (n : Int) then N k.toNat else 0

theorem Mem.look_calls (h : Mem w d c m n T N D a) (k : Int) : Calls Try.prog 17 #[.pointer (some ⟨d, 0, none⟩), .int .i64 k] w fun en w' => en = .returned (.string (textAt n T k)) ∧ w' = w := by
  have hh := h.has_calls k
  have c0 : w.cell? ⟨d, 0, none⟩ = some (.slice (some ⟨c, 0, none⟩) n n) := h.box.cell 0
  have hn := h.many
  by_cases h1 : 0 ≤ k ∧ k < (n : Int)
  · obtain ⟨h2, h3⟩ := h1
    obtain ⟨j, rfl⟩ : ∃ j : Nat, k = (j : Int) := ⟨k.toNat, by omega⟩
    have hE := Lib.hid (show textAt n T (j : Int) = T j by unfold textAt; rw [if_pos ⟨h2, h3⟩, Int.toNat_natCast])
    have hj : j < n := by omega
    have c1 : w.cell? ⟨c, j * 2, none⟩ = some (.string (T j)) := (h.row.cell _).trans (cells_text T N n hj)
    clear h
    go_enter Try.func17, Try.ntmps17
    go_wp2_with fail
    refine hh.mono ?_
    rintro en w1 ⟨rfl, rfl⟩
    rw [decide_eq_true h2, decide_eq_true h3]
    go_wp2_with fail
    go_ret
    exact ⟨by rw [hE.out]; rfl, rfl⟩
  · have hE := Lib.hid (show textAt n T k = ByteArray.empty by unfold textAt; rw [if_neg h1])
    have hb : (decide (0 ≤ k) && decide (k < (n : Int))) = false := by simpa using h1
    clear h h1
    go_enter Try.func17, Try.ntmps17
    go_wp2_with fail
    refine hh.mono ?_
    rintro en w1 ⟨rfl, rfl⟩
    rw [hb]
    go_wp2_with fail
    go_ret
    exact ⟨by rw [hE.out]; rfl, rfl⟩

theorem Mem.swaps_calls (h : Mem w d c m n T N D a) (k : Int) : Calls Try.prog 37 #[.pointer (some ⟨d, 0, none⟩), .int .i64 k] w fun en w' => en = .returned (.int .i64 (swapsAt n N k)) ∧ w' = w := by
  have hh := h.has_calls k
  have c0 : w.cell? ⟨d, 0, none⟩ = some (.slice (some ⟨c, 0, none⟩) n n) := h.box.cell 0
  have hn := h.many
  by_cases h1 : 0 ≤ k ∧ k < (n : Int)
  · obtain ⟨h2, h3⟩ := h1
    obtain ⟨j, rfl⟩ : ∃ j : Nat, k = (j : Int) := ⟨k.toNat, by omega⟩
    have hE := Lib.hid (show swapsAt n N (j : Int) = N j by unfold swapsAt; rw [if_pos ⟨h2, h3⟩, Int.toNat_natCast])
    have hj : j < n := by omega
    have c1 : w.cell? ⟨c, j * 2 + 1, none⟩ = some (.int .i64 (N j)) := (h.row.cell _).trans (cells_swaps T N n hj)
    clear h
    go_enter Try.func37, Try.ntmps37
    go_wp2_with fail
    refine hh.mono ?_
    rintro en w1 ⟨rfl, rfl⟩
    rw [decide_eq_true h2, decide_eq_true h3]
    go_wp2_with fail
    go_ret
    exact ⟨by rw [hE.out]; rfl, rfl⟩
  · have hE := Lib.hid (show swapsAt n N k = 0 by unfold swapsAt; rw [if_neg h1])
    have hb : (decide (0 ≤ k) && decide (k < (n : Int))) = false := by simpa using h1
    clear h h1
    go_enter Try.func37, Try.ntmps37
    go_wp2_with fail
    refine hh.mono ?_
    rintro en w1 ⟨rfl, rfl⟩
    rw [hb]
    go_wp2_with fail
    go_ret
    exact ⟨by rw [hE.out]; rfl, rfl⟩

end
end
end Go.Proofs.Ytlbpephbigikcab.cel
