/- cells: what New and Do give. -/
import Derived.Test.YtlbpephbigikcabCelA
namespace Go.Proofs.Ytlbpephbigikcab.cel
open Go Go.RowKit Go.Maps

section
variable {H : Type}

/-- Each cell empty. -/
def noT : Nat → ByteArray := fun _ => ByteArray.empty
def noN : Nat → Int := fun _ => 0

theorem cellInfo : ∃ i z, Try.prog.info? 78 = some i ∧ i.zero = some z ∧ i.size = 2 ∧ z.cells = #[.string ByteArray.empty, .int .i64 0] ∧ i.bytes = 24 := by
  have h2 : (Try.prog.info? 78).map (fun i => (i.zero.map (fun z => z.cells), i.size, i.bytes)) = some (some #[.string ByteArray.empty, .int .i64 0], 2, 24) := by kernel_rfl
  obtain ⟨i, hi, e⟩ := Option.map_eq_some_iff.1 h2
  simp only [Prod.mk.injEq] at e
  obtain ⟨e1, e2, e3⟩ := e
  obtain ⟨z, hz, e4⟩ := Option.map_eq_some_iff.1 e1
  exact ⟨i, z, hi, hz, e2, e4, e3⟩

theorem cells_zero (n : Nat) : madeCells #[.string ByteArray.empty, .int .i64 0] (n * 2) = cellsA noT noN n := by
  apply Array.ext'
  apply List.ext_getElem?
  intro q
  by_cases hq : q < n * 2
  · have h1 : q / 2 < n := by omega
    have h2 : q % 2 < 2 := Nat.mod_lt _ (by decide)
    have e := flat_get (g := cellL noT noN) (a := 0) (k := n) (w := 2) (fun _ _ _ => rfl) h1 h2
    rw [show q / 2 * 2 + q % 2 = q by omega] at e
    unfold cellsA
    rw [e]
    rcases (show q % 2 = 0 ∨ q % 2 = 1 by omega) with h | h <;> simp [madeCells, h, hq, cellL, noT, noN]
  · rw [List.getElem?_eq_none (by rw [Array.length_toList, size_madeCells]; omega), List.getElem?_eq_none (by rw [Array.length_toList, cells_size]; omega)]

def NewPost (H : Type) (n : Nat) (w : World) (en : Ending) (w' : World) : Prop :=
  ∃ d c m, en = .returned (.pointer (some ⟨d, 0, none⟩)) ∧ Mem (H := H) w' d c m n noT noN (.map []) 0 ∧ Below w.heap.size w w' ∧ w.heap.size ≤ d ∧ w.heap.size ≤ c ∧ w.heap.size ≤ m

set_option maxHeartbeats 400000 in
theorem new_calls (n : Nat) (hn : n ≤ 65536) (w : World) : Calls Try.prog 25 #[.int .i64 n] w fun en w' => NewPost H n w en w' := by
  have hn0 : (0 : Int) ≤ (n : Int) := by omega
  have hn1 : (n : Int) ≤ 65536 := by omega
  have hmk : (Instr.makeSlice 71 (.int .i64 (n : Int)) (.int .i64 (n : Int))).run Try.prog w = .ok (.slice (some ⟨w.heap.size, 0, none⟩) n n) (w.alloc (.cells (cellsA noT noN n) 78)) := by
    obtain ⟨i0, z0, hi0, hz0, hz1, hz2, hz3⟩ := cellInfo
    have h := run_make (P := Try.prog) w 71 78 i0 z0 Try.underlying71 hi0 hz0 .i64 .i64 (n : Int) (n : Int) (by omega) (by omega) (by rw [hz3]; omega) (by omega)
    rw [Int.toNat_natCast, hz1, hz2] at h
    rw [h, cells_zero n]
  obtain ⟨W1, hW1⟩ : ∃ W1, W1 = w.alloc (.cells (cellsA noT noN n) 78) := ⟨_, rfl⟩
  have hC : Hid (Has W1 w.heap.size 78 (cellsA noT noN n) ∧ Below w.heap.size w W1 ∧ W1.heap.size = w.heap.size + 1) := by
    rw [hW1]
    exact ⟨Has.made _ _ _, (Below.refl _ _).alloc (Nat.le_refl _) _, by simp⟩
  rw [← hW1] at hmk
  clear hW1
  have hrun0 := run_makeMap (P := Try.prog) 55 W1
  have hown := World.ownsMap_made (H := H) W1 Try.prog 3 (plainElem Try.prog 3)
  have hM : Hid (Mp _ W1.heap.size (DataW.map (H := H) [])) := tight hown
  clear hown
  go_enter Try.func25, Try.ntmps25
  go_wp2_with fail
  go_ret
  have hz := hC.out.2.2
  refine ⟨_, _, _, rfl, ⟨made_at _ _ (by simp), (hC.out.1.alloc _).alloc _, hM.out.alloc _, hn⟩, ?_, by omega, Nat.le_refl _, by omega⟩
  exact (hC.out.2.1.alloc (by omega) _).alloc (by simp; omega) _

/-- Was it done? What the cell holds then, how many Swaps. -/
def did (k : Int) (t old : ByteArray) : Bool := if k = 3 then decide (t = old) else true
def aftT (k : Int) (t old new : ByteArray) : ByteArray := if k = 1 then t else if k = 3 then (if t = old then new else t) else new
def aftN (k : Int) (t old : ByteArray) (x : Int) : Int := if k = 3 ∧ t = old then x + 1 else x

theorem upd_self {α : Type} (F : Nat → α) (j : Nat) : upd F j (F j) = F := by
  funext i
  unfold upd
  split
  · rename_i e; rw [e]
  · rfl

theorem list_inj {s t : ByteArray} (h : s.toList = t.toList) : s = t := by
  rw [ByteArray.toList_eq, ByteArray.toList_eq] at h
  cases s; cases t
  simp at h
  rw [h]
theorem list_ne {s t : ByteArray} (h : s ≠ t) : (s.toList == t.toList) = false := beq_eq_false_iff_ne.2 fun e => h (list_inj e)

def CdoPost (c n j : Nat) (T : Nat → ByteArray) (N : Nat → Int) (k : Int) (old new : ByteArray) (w : World) (en : Ending) (w' : World) : Prop :=
  en = .returned (.tuple #[.string (T j), .bool (did k (T j) old)]) ∧ Has w' c 78 (cellsA (upd T j (aftT k (T j) old new)) (upd N j (aftN k (T j) old (N j))) n) ∧ w.grownBy w' (some c)

set_option maxHeartbeats 400000 in
theorem cdo_calls (c n j : Nat) (T : Nat → ByteArray) (N : Nat → Int) (k z : Int) (old new : ByteArray) (w : World) (h : Has w c 78 (cellsA T N n)) (hj : j < n)
    (hk : 1 ≤ k ∧ k ≤ 3) (hN : -4611686018427387904 ≤ N j ∧ N j ≤ 4611686018427387904) :
    Calls Try.prog 61 #[.pointer (some ⟨c, j * 2, none⟩), .agg #[.int .i64 k, .int .i64 z, .string old, .string new]] w fun en w' => CdoPost c n j T N k old new w en w' := by
  have c0 : w.cell? ⟨c, j * 2, none⟩ = some (.string (T j)) := (h.cell _).trans (cells_text T N n hj)
  have c1 : w.cell? ⟨c, j * 2 + 1, none⟩ = some (.int .i64 (N j)) := (h.cell _).trans (cells_swaps T N n hj)
  have f0 : w.frozen? ⟨c, j * 2, none⟩ = false := h.free _
  have f1 : w.frozen? ⟨c, j * 2 + 1, none⟩ = false := h.free _
  have hlt := h.lt
  have HW := Lib.hid h
  obtain ⟨hN1, hN2⟩ := hN
  generalize ht : T j = t at *
  generalize hx : N j = x at *
  have HT := Lib.hid ht
  have HX := Lib.hid hx
  clear h ht hx
  rcases (show k = 1 ∨ k = 2 ∨ k = 3 by omega) with rfl | rfl | rfl
  · clear hk
    go_enter Try.func61, Try.ntmps61
    go_wp2_with fail
    go_ret2
    unfold CdoPost
    rw [HT.out, HX.out]
    refine ⟨rfl, ?_, grown_alloc (grown_refl w _) _⟩
    have e1 : aftT 1 t old new = t := if_pos rfl
    have e2 : aftN 1 t old x = x := if_neg (fun e => absurd e.1 (by decide))
    rw [e1, e2, ← HT.out, ← HX.out, upd_self, upd_self]
    exact HW.out.alloc _
  · clear hk
    go_enter Try.func61, Try.ntmps61
    go_wp2_with fail
    go_ret2
    unfold CdoPost
    rw [HT.out, HX.out]
    refine ⟨rfl, ?_, grown_alloc (grown_own (grown_refl w _) _ _) _⟩
    have e1 : aftT 2 t old new = new := rfl
    have e2 : aftN 2 t old x = x := if_neg (fun e => absurd e.1 (by decide))
    rw [e1, e2, ← HX.out, upd_self, ← cells_put T N n hj new]
    exact (HW.out.put _ _).alloc _
  · clear hk
    by_cases ho : t = old
    · subst ho
      go_enter Try.func61, Try.ntmps61
      go_wp2_with fail
      go_ret2
      unfold CdoPost
      rw [HT.out, HX.out]
      refine ⟨by unfold did; simp, ?_, grown_alloc (grown_own (grown_own (grown_refl w _) _ _) _ _) _⟩
      have e1 : aftT 3 t t new = new := by unfold aftT; simp
      have e2 : aftN 3 t t x = x + 1 := if_pos ⟨rfl, rfl⟩
      rw [e1, e2, ← cells_put T (upd N j (x + 1)) n hj new, ← cells_swapped T N n hj (x + 1)]
      exact ((HW.out.put _ _).put _ _).alloc _
    · have hb := list_ne ho
      have hb' : ¬ t.toList = old.toList := fun e => ho (list_inj e)
      go_enter Try.func61, Try.ntmps61
      go_wp2_with fail
      go_ret2
      unfold CdoPost
      rw [HT.out, HX.out]
      refine ⟨by unfold did; simp [ho], ?_, grown_alloc (grown_refl w _) _⟩
      have e1 : aftT 3 t old new = t := by unfold aftT; simp [ho]
      have e2 : aftN 3 t old x = x := if_neg (fun e => ho e.2)
      rw [e1, e2, ← HT.out, ← HX.out, upd_self, upd_self]
      exact HW.out.alloc _

end
end Go.Proofs.Ytlbpephbigikcab.cel
