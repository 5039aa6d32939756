/- ledger: slices.Sort of strings off the shelf; what Names gives. -/
import Derived.Test.YtfhpcodjmmidhaaLedE
import Derived.Shelf.Lay
import Derived.Shelf.Sort.Plain
import Derived.Shelf.Slices.In.SortNone
import Derived.Sort.KeysCollected
import Derived.Sort.OwnSorted
import Derived.Maps.RangeWalk
import Derived.Maps.AppendAt
namespace Go.Proofs
open Go.Shelf
shelf_lay Lays.n190 Nm 190 at Try as Try.lays190
end Go.Proofs
namespace Go.Proofs.Ytfhpcodjmmidhaa
open Go.RowKit Go.Maps Go.Sort

theorem sort_strs (blk cap : Nat) (ss : List (List UInt8)) (w : World) (hH : Holds encStr w blk 0 ss.toArray) (hblk : blk < w.heap.size) (hsz : ss.length < 4611686018427387904) :
    Calls Try.prog 52 #[.slice (some ⟨blk, 0, none⟩) ss.length cap] w fun e w' =>
      e = .returned (.tuple #[]) ∧ ∃ n os, w' = grow (putRow encStr (Sort.ahead w n) blk 0 (ss.mergeSort fun x y => decide (x ≤ y)).toArray) os := Any.slices_Sort_string Try.lays190 blk 0 cap ss w hH hblk hsz
theorem sort_none (p : Option Addr) (cap : Nat) (w : World) : Calls Try.prog 52 #[.slice p 0 cap] w fun e w' => e = .returned (.tuple #[]) ∧ w' = w := Any.slices_Sort_string_none Try.lays190 p cap w

/-- The names but the house's. -/
def nb (ss : List (List UInt8)) : List (List UInt8) := ss.filter fun x => !x.isEmpty

section
variable {H : Type}

def NamesPost (D : DataW H) (w : World) (en : Ending) (w' : World) : Prop :=
  ∃ v, en = .returned v ∧ w'.ownsRow w.heap.size 9 1 v (nb (strKeys D)).length (((nb (strKeys D)).mergeSort leB).map encStr) ∧ Below w.heap.size w w'

theorem nb_le (ss : List (List UInt8)) : (nb ss).length ≤ ss.length := List.length_filter_le _ _
theorem nb_snoc (ss : List (List UInt8)) (x : List UInt8) (h : x ≠ []) : nb (ss ++ [x]) = nb ss ++ [x] := by
  unfold nb; rw [List.filter_append]; congr 1; cases x <;> simp_all
theorem nb_house (ss : List (List UInt8)) : nb (ss ++ [[]]) = nb ss := by
  unfold nb; rw [List.filter_append]; simp

set_option maxRecDepth 100000 in
set_option maxHeartbeats 1000000 in
theorem bnames_calls (d m : Nat) (D : DataW H) (w : World) (h : Bk w d m D) (hmax : Maps.size D ≤ 1000) :
    Calls Try.prog 18 #[.pointer (some ⟨d, 0, none⟩)] w fun en w' => NamesPost D w en w' := by
  obtain ⟨i0, hi, hz0, hz1, hz2⟩ := info_parts (P := Try.prog) (e := 9) (z := .string ⟨#[]⟩) (size := 1) (bytes := 16) (by kernel_rfl)
  have c0 : w.cell? ⟨d, 0, none⟩ = some (.map (some m)) := h.box.cell 0
  have hown : w.ownsMap Try.prog 9 (plainElem Try.prog 3) m (Maps.size D) D := h.map
  have hbl := hown.lt
  clear h
  go_enter Try.func18, Try.ntmps18
  go_wp2_with (first
    | (at_range; refine wpList_range_own _ rfl _ 88 rfl 9 3 strKeyed Try.underlying88 _ m (Maps.size D) D rfl hown ?_; intro w0 hrg0 hg0 hs0)
    | go_in)
  go_frame
  go_loopw [3] (fun v wr => ∃ (left : Lit → Bool) (cnt : Nat) (ss : List (List UInt8)), wr.ranges Try.prog 9 (plainElem Try.prog 3) m w.heap.size (Maps.size D) D left cnt ∧ ss.length + cnt ≤ Maps.size D ∧
      wr.ownsRow w.heap.size 9 1 v (nb ss).length ((nb ss).map encStr) ∧ Collected D left ss ∧ Below w.heap.size w wr)
    (fun _ wr => wr.rangeLeft m w.heap.size)
  case atStart =>
    exact ⟨_, _, [], hrg0, by simp, World.ownsRow_nil _ _ _ _, Collected.start D, (Below.refl _ _).grown hg0 (Nat.le_refl _) (fun j hj => by cases hj)⟩
  case round =>
    obtain ⟨left, cnt, ss, hrg, hcs, hrow, hC, hnx⟩ := hrel
    go_wp2_with (first
      | (at_next; refine wpList_next_ranges _ rfl _ rfl 9 strKeyed (plainElem Try.prog 3) encStr (Value.int .i64) (fun key kl hk => by obtain ⟨x, hx, _⟩ := Maps.keyOf_str Try.underlying9 hk; exact ⟨x, hx⟩) (fun v y hv => by obtain ⟨c, rfl, _⟩ := plainElem_int_inv Try.underlying3 hv; exact ⟨c, rfl⟩) m w.heap.size (Maps.size D) D left cnt rfl hrg ?_ ?_)
      | go_in)
    · -- nothing is left
      intro hc0 hl0
      have hperm := hC.perm hown strKeyed Try.underlying9 hl0
      have hp2 : (nb ss).Perm (nb (strKeys D)) := hperm.filter _
      have hlen := nb_le ss
      rcases hrow.2 with ⟨rfl, hnil⟩ | ⟨g, cap, cur, rfl, hbase, hb, h1, h2, h3, h4⟩
      · have hn2 : nb (strKeys D) = [] := List.length_eq_zero_iff.1 (by rw [← hp2.length_eq]; exact hnil)
        go_wp2_with fail
        refine (sort_none none 0 _).mono ?_
        rintro en w' ⟨rfl, rfl⟩
        go_wp2_with fail
        go_ret
        refine ⟨_, rfl, ?_, hnx⟩
        rw [hn2]
        show w'.ownsRow w.heap.size 9 1 (.slice none 0 0) 0 (List.map encStr (List.mergeSort [] leB))
        rw [List.mergeSort_nil]
        exact World.ownsRow_nil _ _ _ _
      · have hH : Holds encStr wr g 0 (nb ss).toArray := holds_of_block hb (by simpa using h4)
        have hgl : g < wr.heap.size := (Array.getElem?_eq_some_iff.1 hb).1
        have hc := sort_strs g cap (nb ss) wr hH hgl (by omega)
        go_wp2_with fail
        refine hc.mono ?_
        rintro en w' ⟨rfl, nn, os, rfl⟩
        go_wp2_with fail
        go_ret
        refine ⟨_, rfl, ?_, hnx.grown (grownBy_sorted _) hnx.size (fun j hj => by cases hj; exact hbase)⟩
        rw [← mergeSort_of_perm hp2, ← hp2.length_eq]
        exact ownsRow_sorted (by simp) hbase hb h1 h2 h3
    · -- an entry has come
      intro x c kl yd yp w2 cnt2 hkey hlk hv hat hrg2 hlt hg2 hs2 hen
      obtain ⟨x', ex, rfl, _⟩ := Maps.keyOf_str Try.underlying9 hkey
      obtain rfl : x = x' := encStr_inj ex
      have hrow2 := hrow.kept hg2 (Or.inr (row_ne_iter hrow hrg).symm)
      have hlen := nb_le ss
      clear hs2
      by_cases hx : x = []
      · subst hx
        go_wp2_with fail
        go_roundw
        case rel =>
          refine ⟨_, cnt2, ss ++ [[]], hrg2, by simp; omega, ?_, hC.step hlk hat, hnx.grown hg2 hnx.size (fun j hj => by cases hj; exact Nat.le_refl _)⟩
          rw [nb_house]; exact hrow2
        case measure => rw [hrg2.left_eq, hrg.left_eq]; exact hlt
      · have hE : (ByteArray.mk x.toArray).toList ≠ [] := by rw [ByteArray.toList_eq]; simpa using hx
        go_wp2_with (first
          | (at_builtin; refine wpList_append_own _ rfl _ _ 26 rfl w.heap.size 9 i0 (.string ⟨#[]⟩) 1 16 Try.underlying26 hi hz0 hz1 hz2 rfl (by decide) _ _ _ rfl (hrow2.alloc _) ⟨w2.heap.size, 0, none⟩ 1 1 [encStr x] rfl rfl (cell_one_new _ _ _) (by simp [Value.oneCell', encStr]) (by unfold maxLen at *; omega) (by omega) (by have := hnx.size; have := hg2.size; simp; omega) ?_; intro v' w3 hown' hg3 hnil3; go_frame)
          | go_in)
        · have hg3' : (w2.alloc (.cells #[encStr x] 9)).grownBy w3 u3.ownBlock := hg3
          have hrg3 := (hrg2.alloc _).kept hg3' (row_ne_low hrow2 hbl) (row_ne_iter hrow2 hrg2)
          clear hg3 hnil3
          go_roundw
          case rel =>
            refine ⟨_, cnt2, ss ++ [x], hrg3, by simp; omega, ?_, hC.step hlk hat, ?_⟩
            · rw [nb_snoc ss x hx, List.length_append, List.map_append]; exact hown'
            · exact ((hnx.grown hg2 hnx.size (fun j hj => by cases hj; exact Nat.le_refl _)).alloc (by have := hnx.size; have := hg2.size; omega) _).grown hg3' (by have := hnx.size; have := hg2.size; simp; omega) (fun j hj => (hrow2.lt j hj).1)
          case measure => rw [hrg3.left_eq, hrg.left_eq]; exact hlt
        · exfalso
          have hz : (!x.isEmpty) = false := by assumption
          apply hx
          simpa using hz

end
end Go.Proofs.Ytfhpcodjmmidhaa
