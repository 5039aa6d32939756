/- text: the laws' awake; bytes 0 as a text. -/
import Derived.Test.YtpdcbfhmlgmhpaaTextA
import Derived.Laws.OwnMore
import Derived.Laws.IdiomStrings
namespace Go.Proofs.Ytpdcbfhmlgmhpaa
open Go.RowKit

theorem textByte : (Try.prog.info? 5).map (fun i => (i.zero, i.size, i.bytes)) = some (some (.int .u8 0), 1, 1) := by kernel_rfl

/-- k bytes 0. -/
def zerosB (k : Nat) : ByteArray := ⟨Array.replicate k 0⟩
theorem zerosB_size (k : Nat) : (zerosB k).size = k := by simp [zerosB, ByteArray.size]

/-- The block that make lays for them. -/
def zeroRow (k : Nat) : Obj := .cells (madeCells #[.int .u8 0] k) 5

theorem make_zeros (c : Int) (k : Nat) (hc : c = (k : Int)) (hk : k ≤ 200) (W : World) :
    (Instr.makeSlice 46 (.int .i64 c) (.int .i64 c)).run Try.prog W = .ok (.slice (some ⟨W.heap.size, 0, none⟩) k k) (W.alloc (zeroRow k)) := by
  subst hc
  obtain ⟨i, hi, e⟩ := Option.map_eq_some_iff.1 textByte
  simp only [Prod.mk.injEq] at e
  obtain ⟨e1, e2, e3⟩ := e
  have h := run_make (P := Try.prog) W 46 5 i (.int .u8 0) Try.underlying46 hi e1 .i64 .i64 (k : Int) (k : Int) (by omega) (by omega) (by rw [e3]; omega) (by omega)
  simp only [Int.toNat_natCast, e2, Nat.mul_one] at h
  exact h

theorem text_zeros (k : Nat) (W : World) :
    (convert 46 9 (.slice (some ⟨W.heap.size, 0, none⟩) k k)).run Try.prog (W.alloc (zeroRow k)) = .ok (.string (zerosB k)) (W.alloc (zeroRow k)) := by
  have h := run_convert_bytes_back (P := Try.prog) (W.alloc (zeroRow k)) 46 9 5 ⟨W.heap.size, 0, none⟩ k (List.replicate k 0) Try.underlying46 Try.underlying5 Try.underlying9 (fun j hj => by
    have hj' : j < k := by simpa using hj
    rw [Addr.add_mid, Nat.zero_add]
    unfold zeroRow
    rw [World.cell?_alloc_mark, ← Array.getElem?_toList, toList_madeCells_one]
    simp [hj'])
  simpa [zerosB, List.toArray_replicate] using h

set_option maxRecDepth 100000 in
set_option maxHeartbeats 1000000 in
theorem tawake_any (w : World) : Calls Try.prog 14 #[] w fun en w' => en = .returned (.bool true) ∧ Below w.heap.size w w' := by
  go_enter Try.func14, Try.ntmps14
  go_wp2_with fail
  refine (dnew_calls w).mono ?_
  rintro en w1 ⟨rfl, h1, g1⟩
  have H1 := Lib.hid h1
  have T1 : Hid (Turn (fun k => w.heap.size ≤ k) w w1) := (Turn.refl _ w).grown g1 (fun j e _ => by cases e)
  clear h1 g1
  go_wp2_with fail
  refine (do_calls w.heap.size ⟨#[]⟩ 1 0 ⟨#[97, 98, 99]⟩ 0 w1 H1.out (by decide) (by decide)).mono ?_
  have E1 : Hid (doT ⟨#[]⟩ 1 0 ⟨#[97, 98, 99]⟩ 0 = (⟨#[97, 98, 99]⟩, ⟨#[]⟩, 0)) := by show _ = _; kernel_rfl
  rw [E1.out]
  rintro en w2 ⟨rfl, h2, g2⟩
  have H2 := Lib.hid h2
  have T2 : Hid (Turn (fun k => w.heap.size ≤ k) w w2) := T1.out.grown g2 (fun j e _ => by injection e with e; omega)
  clear h2 g2 H1 T1 E1
  go_wp2_with fail
  refine (do_calls w.heap.size ⟨#[97, 98, 99]⟩ 2 1 ⟨#[]⟩ 1 w2 H2.out (by decide) (by decide)).mono ?_
  have E2 : Hid (doT ⟨#[97, 98, 99]⟩ 2 1 ⟨#[]⟩ 1 = (⟨#[97, 99]⟩, ⟨#[98]⟩, 0)) := by show _ = _; kernel_rfl
  rw [E2.out]
  rintro en w3 ⟨rfl, h3, g3⟩
  have H3 := Lib.hid h3
  have T3 : Hid (Turn (fun k => w.heap.size ≤ k) w w3) := T2.out.grown g3 (fun j e _ => by injection e with e; omega)
  clear h3 g3 H2 T2 E2
  go_wp2_with fail
  refine (dtext_calls w.heap.size _ w3 H3.out).mono ?_
  rintro en w4 ⟨rfl, rfl⟩
  go_wp2_with fail
  go_ret
  exact ⟨rfl, T3.out.below (Nat.le_refl _) (fun j hj e => by omega)⟩

end Go.Proofs.Ytpdcbfhmlgmhpaa
