/- stock: slices.Sorted(maps.Keys(m)) off the shelf; what Names gives. -/
import Derived.Shelf.SlIter.Nil
import Derived.Shelf.SortM.Plain
import Derived.Shelf.SortM.SortNone
import Derived.Ground.GgzProg
import Derived.Ground.SlgmProg
import Derived.Shelf.SlGeneric
import Derived.Test.YtfhpcodjmmidhaaStoB
namespace Go.Proofs
open Go.RowKit Go.Maps Go.Sort Go.Shelf

shelf_lay_g SlLaysZ.n7 Ggz 7 at Try 65 as Try.stKeys
shelf_lay_g SlLaysZ.n6 Ggz 6 at Try 64 as Try.stSorted
shelf_lay_g SlLaysM.n6 Slgm 6 at Try 52 as Try.stSort

/-- slices.Sort's two contracts at this dump, at the fence that asks nothing. -/
theorem Try.stSorts (m : Nat) : AnyZ.SortsIn Try.prog Try.stSorted_ren Fence.wide m :=
  ⟨fun blk off cap ss W hH hblk hsz => callsIn_wide.2 (AnyM.slices_Sort_string Try.stSort blk off cap ss W hH hblk hsz),
   fun p cap W => callsIn_wide.2 (AnyM.slices_Sort_string_none Try.stSort p cap W)⟩

/-- **maps.Keys[map[string]int,string,int], at whatever map, the nil one too:** a function value over ONE NEW BLOCK, which holds the map. -/
theorem Try.st_maps_Keys (mb : Option Nat) (W : World) : CallsIn Fence.wide 5 Try.prog 65 #[.map mb] W fun e w' => e = .returned (.func (.func 80) #[] #[.pointer (some ⟨W.heap.size, 0, none⟩)]) ∧ w' = W.alloc (.cells #[.map mb] 88) :=
  AnyZ.keys_in Try.stKeys Fence.wide 5 trivial rfl mb W

set_option maxHeartbeats 1000000 in
/-- **slices.Sorted[string] AT WHAT maps.Keys[map[string]int,string,int] HANDED BACK FOR A MAP THAT IS NOT nil** ('w': the world AHEAD of maps.Keys' call): A NEW SLICE THAT HOLDS THE MAP's KEYS, SORTED; nil just where it has none; nothing that lay before has turned. -/
theorem Try.st_sorted_keys {H : Type} (b nn : Nat) (D0 : DataW H) (R : Value → Option (DataW H × List MemPlace)) (w : World) (hown : w.ownsMap Try.prog 9 R b nn D0) (hmax : Maps.size D0 ≤ maxLen) (hbytes : Maps.size D0 * 16 ≤ 140737488355328) :
    CallsIn Fence.wide 5 Try.prog 64 #[.func (.func 80) #[] #[.pointer (some ⟨w.heap.size, 0, none⟩)]] (w.alloc (.cells #[.map (some b)] 88)) fun e w' => ∃ (v : Value) (ss : List (List UInt8)), e = .returned v ∧ ss.Perm (strKeys D0) ∧
      w'.ownsRow (w.alloc (.cells #[.map (some b)] 88)).heap.size 9 1 v ss.length ((ss.mergeSort (fun x y => decide (x ≤ y))).map encStr) ∧ (v = .slice none 0 0 ↔ ss = []) ∧ Below (w.alloc (.cells #[.map (some b)] 88)).heap.size (w.alloc (.cells #[.map (some b)] 88)) w' := by
  have hbl := hown.lt
  have hseq : SeqGives Fence.wide 2 Try.prog 80 #[.pointer (some ⟨w.heap.size, 0, none⟩)] encStr (fun ss => ss.Perm (strKeys D0)) (Maps.size D0) (w.alloc (.cells #[.map (some b)] 88)) :=
    AnyZ.keys_gives (ρ := Try.stKeys_ren) { Try.stKeys with } Fence.wide _ trivial rfl (by omega) w.heap.size b nn D0 _ (by simp) (by simp) (by
      obtain ⟨es, clock, hb, Ft, hs, hD⟩ := hown
      exact ⟨es, clock, (Below.heap_alloc _ _ b hbl).trans hb, Ft, hs, hD⟩)
  exact AnyZ.sorted_in Try.stSorted Fence.wide 5 trivial trivial trivial trivial rfl (by omega) (Try.stSorts _) (enters_of Try.func52 (by kernel_rfl) rfl) 80 #[.pointer (some ⟨w.heap.size, 0, none⟩)] trivial (enters_of Try.func80 (by kernel_rfl) rfl) _ _ hmax hbytes _ hseq

end Go.Proofs
namespace Go.Proofs.Ytfhpcodjmmidhaa.stock
open Go.RowKit Go.Maps Go.Sort

section
variable {H : Type}

def SNamesPost (D : DataW H) (w : World) (en : Ending) (w' : World) : Prop :=
  ∃ v, en = .returned v ∧ w'.ownsRow 0 9 1 v (namesD D).length ((namesD D).map encStr) ∧ Below w.heap.size w w'

set_option maxRecDepth 100000 in
set_option maxHeartbeats 1000000 in
theorem snames_calls (d m : Nat) (D : DataW H) (w : World) (h : Sk w d m D) (I : InvS D) :
    Calls Try.prog 30 #[.pointer (some ⟨d, 0, none⟩)] w fun en w' => SNamesPost D w en w' := by
  have c0 : w.cell? ⟨d, 0, none⟩ = some (.map (some m)) := h.box.cell 0
  have hown : w.ownsMap Try.prog 9 (plainElem Try.prog 3) m (Maps.size D) D := h.map
  have hsz := I.size
  have hm1 : Maps.size D ≤ maxLen := by unfold maxLen; omega
  have hm2 : Maps.size D * 16 ≤ 140737488355328 := by omega
  have hK := Lib.hid (callsIn_wide.1 (Try.st_maps_Keys (some m) w))
  have hS := Lib.hid (callsIn_wide.1 (Try.st_sorted_keys m (Maps.size D) D (plainElem Try.prog 3) w hown hm1 hm2))
  have II := Lib.hid I
  clear h hown hsz hm1 hm2 I
  go_enter Try.func30, Try.ntmps30
  go_wp2_with fail
  refine hK.out.mono ?_
  rintro en w1 ⟨rfl, rfl⟩
  go_wp2_with fail
  refine hS.out.mono ?_
  rintro en w2 ⟨v, ss, rfl, hp, hrow, _, hb⟩
  go_wp2_with fail
  go_ret
  have e : ss.mergeSort leB = namesD D := by rw [names_is II.out, mergeSort_of_perm hp]
  have e2 : ss.length = (namesD D).length := by rw [← e, List.length_mergeSort]
  refine ⟨v, rfl, ?_, ((Below.refl _ w).alloc (Nat.le_refl _) _).trans (hb.mono (by simp))⟩
  rw [← e2, ← e]
  exact row_low hrow

end
end Go.Proofs.Ytfhpcodjmmidhaa.stock
