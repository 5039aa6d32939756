/- tree: Root, Inclusion, Consistency, Len, Floor. -/
import Derived.Test.YtdoadmkaoboncaaGreatDoorTreeE
namespace Go.Proofs.YtdoadmkaoboncaaGreatDoor.dig
open Go Go.RowKit

theorem two_ge (n : Nat) : n ≤ 2 ^ n := Nat.le_of_lt Nat.lt_two_pow_self

/-- A list of sums was answered with OK, in new memory. -/
def SumsOk (w : World) (l : List (List UInt8)) (en : Ending) (w' : World) : Prop :=
  ∃ v, en = .returned (.tuple #[v, .int .i64 0]) ∧ Seg w' 38 32 v l.length (sumsC l) ∧ (∀ x, v.ownBlock = some x → w.heap.size ≤ x) ∧ Below w.heap.size w w'

section
variable {B : Nat} {F : Nat → Prop} {b N fl : Nat} {f : Nat → List UInt8} {w : World}

set_option maxRecDepth 100000 in
set_option maxHeartbeats 1000000 in
theorem Tr.inclusion (hT : Tr B F w b N fl f) (hN : N < 1024) (i n : Nat) (hn : n ≤ N) (hi : i < n) (hf : fl ≤ i) :
    Calls Tryz.prog 49 #[.pointer (some ⟨b, 0, none⟩), .int .i64 i, .int .i64 n] w (SumsOk w (path f i 0 n)) := by
  have HI := Lib.hid (incl_calls B F b N fl f hN n i 0 n w hT ⟨0, by simp⟩ (two_ge n) (by omega) hi (by omega))
  obtain ⟨rv, hh⟩ := hT.head
  have e0 := hh.cell 0
  have e1 := hh.cell 1
  simp at e0 e1
  have h1 : ¬ (n : Int) < 0 := by omega
  have h2 : ¬ (n : Int) > (N : Int) := by omega
  have h3 : ¬ (i : Int) < 0 := by omega
  have h4 : ¬ (i : Int) ≥ (n : Int) := by omega
  have h5 : ¬ (i : Int) < (fl : Int) := by omega
  clear hT hh
  go_enter Tryz.func49, Tryz.ntmps49
  go_wp2_with fail
  refine HI.out.mono ?_
  rintro e w1 ⟨v, rfl, s1, lo1, b1⟩
  have S := Lib.hid (show _ ∧ _ ∧ _ from ⟨s1, lo1, b1⟩)
  clear s1 lo1 b1 HI
  go_wp2_with fail
  go_ret2
  exact ⟨v, rfl, S.out⟩

set_option maxRecDepth 100000 in
set_option maxHeartbeats 1000000 in
theorem Tr.inclusion_low (hT : Tr B F w b N fl f) (i n : Nat) (hn : n ≤ N) (hi : i < n) (hf : i < fl) :
    Calls Tryz.prog 49 #[.pointer (some ⟨b, 0, none⟩), .int .i64 i, .int .i64 n] w fun en w' => en = .returned (.tuple #[.slice none 0 0, .int .i64 14]) ∧ w = w' := by
  obtain ⟨rv, hh⟩ := hT.head
  have e0 := hh.cell 0
  have e1 := hh.cell 1
  simp at e0 e1
  have h1 : ¬ (n : Int) < 0 := by omega
  have h2 : ¬ (n : Int) > (N : Int) := by omega
  have h3 : ¬ (i : Int) < 0 := by omega
  have h4 : ¬ (i : Int) ≥ (n : Int) := by omega
  have h5 : (i : Int) < (fl : Int) := by omega
  clear hT hh
  go_enter Tryz.func49, Tryz.ntmps49
  go_wp2_with fail
  go_ret2
  exact ⟨rfl, rfl⟩

theorem rtAll_len {f : Nat → List UInt8} (h : ∀ i, (f i).length = 32) (n : Nat) : (rtAll f n).length = 32 := by
  unfold rtAll
  split
  · exact sum_length _
  · exact rt_len h 0 n (by omega)

set_option maxRecDepth 100000 in
set_option maxHeartbeats 1000000 in
theorem Tr.root (hT : Tr B F w b N fl f) (hN : N < 1024) (n : Nat) (hn : n ≤ N) (hf : fl ≤ n) :
    Calls Tryz.prog 36 #[.pointer (some ⟨b, 0, none⟩), .int .i64 n] w fun en w' => en = .returned (.tuple #[.agg (cellsOf (rtAll f n)), .int .i64 0]) ∧ Below w.heap.size w w' := by
  have HT := Lib.hid hT
  obtain ⟨rv, hh⟩ := hT.head
  have e0 : ∀ O, (w.alloc O).cell? ⟨b, 0, none⟩ = some (.int .i64 N) := fun O => (hh.alloc O).cell 0
  have e1 : ∀ O, (w.alloc O).cell? ⟨b, 1, none⟩ = some (.int .i64 fl) := fun O => (hh.alloc O).cell 1
  have h1 : ¬ (n : Int) < 0 := by omega
  have h2 : ¬ (n : Int) > (N : Int) := by omega
  have h5 : ¬ (n : Int) < (fl : Int) := by omega
  have HL := Lib.hid (rtAll_len hT.len n)
  by_cases h0 : n = 0
  · subst h0
    have hx : rtAll f 0 = sum (ByteArray.empty).data.toList := rfl
    have HX := Lib.hid hx
    clear hT hh hx
    go_enter Tryz.func36, Tryz.ntmps36
    go_wp2_with fail
    refine callsName (fun W hW => ?_)
    have B0 : Hid (Below w.heap.size w W) := by rw [← hW]; exact Lib.hid ((Below.refl _ _).alloc (Nat.le_refl _) _)
    have Z0 : Hid (Has W w.heap.size 38 (cellsOf (List.replicate 32 0))) := by rw [← hW]; exact Lib.hid (made_at _ _ rfl)
    clear hW e0 e1
    refine (of_calls _ W (HT.out.below B0.out).rt.rk (by decide)).mono ?_
    rintro e w' ⟨rfl, b5⟩
    have S5 : Hid (Has w' w.heap.size 38 (cellsOf (List.replicate 32 0)) ∧ Below w.heap.size w w') := Lib.hid ⟨Z0.out.below b5 Z0.out.lt, B0.out.trans (b5.mono B0.out.size)⟩
    clear b5 Z0 B0
    go_wp2_with (first
      | (refine wpList_store_arr (o := ⟨none, _, _, _, _, _⟩) rfl 38 _ _ rfl w.heap.size (rtAll f 0) (List.replicate 32 0) rfl rfl _ S5.out.1 32 (by kernel_rfl) (by simp) HL.out ?_; intro W6 HW6 TW6)
      | fail)
    exact bodyPost_ret (v := .tuple #[.agg (cellsOf (rtAll f 0)), .int .i64 0]) (results_cell_tmp rfl _ _ w.heap.size 38 _ _ _ rfl HW6 Tryz.underlying38 rfl (by rw [cellsOf_size, HL.out]; kernel_rfl) _ rfl) rfl ⟨rfl, S5.out.2.trans (TW6.below S5.out.2.size (fun j hj e => by omega))⟩
  · have h6 : ¬ (n : Int) = 0 := by omega
    have hx : rtAll f n = dig.rt f 0 n := by unfold rtAll; rw [if_neg h0]
    have HX := Lib.hid hx
    have hav : Av fl 0 n := .inr (.inl ⟨by omega, n, ⟨0, by simp⟩, Nat.lt_two_pow_self, by omega⟩)
    have HR := Lib.hid (fun w' (h : Tr B F w' b N fl f) => root_calls B F b N fl f hN n 0 w' h hav (by omega))
    clear hT hh hx hav
    go_enter Tryz.func36, Tryz.ntmps36
    go_wp2_with fail
    refine callsName (fun W hW => ?_)
    have B0 : Hid (Below w.heap.size w W) := by rw [← hW]; exact Lib.hid ((Below.refl _ _).alloc (Nat.le_refl _) _)
    have Z0 : Hid (Has W w.heap.size 38 (cellsOf (List.replicate 32 0))) := by rw [← hW]; exact Lib.hid (made_at _ _ rfl)
    clear hW e0 e1
    refine (HR.out W (HT.out.below B0.out)).mono ?_
    rw [← HX.out]
    rintro e w' ⟨rfl, b5⟩
    have S5 : Hid (Has w' w.heap.size 38 (cellsOf (List.replicate 32 0)) ∧ Below w.heap.size w w') := Lib.hid ⟨Z0.out.below b5 Z0.out.lt, B0.out.trans (b5.mono B0.out.size)⟩
    clear b5 Z0 B0
    go_wp2_with (first
      | (refine wpList_store_arr (o := ⟨none, _, _, _, _, _⟩) rfl 38 _ _ rfl w.heap.size (rtAll f n) (List.replicate 32 0) rfl rfl _ S5.out.1 32 (by kernel_rfl) (by simp) HL.out ?_; intro W6 HW6 TW6)
      | fail)
    exact bodyPost_ret (v := .tuple #[.agg (cellsOf (rtAll f n)), .int .i64 0]) (results_cell_tmp rfl _ _ w.heap.size 38 _ _ _ rfl HW6 Tryz.underlying38 rfl (by rw [cellsOf_size, HL.out]; kernel_rfl) _ rfl) rfl ⟨rfl, S5.out.2.trans (TW6.below S5.out.2.size (fun j hj e => by omega))⟩
end
end Go.Proofs.YtdoadmkaoboncaaGreatDoor.dig
