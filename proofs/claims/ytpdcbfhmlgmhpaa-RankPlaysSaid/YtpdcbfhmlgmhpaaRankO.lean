/- rank: the document's own Drop, Due; same. -/
import Derived.Test.YtpdcbfhmlgmhpaaRankN
namespace Go.Proofs.Ytpdcbfhmlgmhpaa
open Go.RowKit

def keepI (who : Int) (L : List It2) : List It2 := L.filter (fun x => decide (x.2 ≠ who))
def laterI (t : Int) (L : List It2) : List It2 := L.filter (fun x => decide (¬ x.1 ≤ t))
def dueI (t : Int) (L : List It2) : List Int := (L.filter (fun x => decide (x.1 ≤ t))).map (fun x => x.2)

theorem filter_le (p : It2 → Bool) (L : List It2) (k : Nat) : ((L.take k).filter p).length ≤ k := Nat.le_trans (List.length_filter_le _ _) (by rw [List.length_take]; omega)

set_option maxRecDepth 100000 in
set_option maxHeartbeats 1000000 in
theorem fdrop_calls (b : Option Nat) (v : Value) (L : List It2) (who : Int) (w : World) (h : Its w b v L) (hb : ∀ g, b = some g → g < w.heap.size) (hl : L.length ≤ 1000) :
    Calls Try.prog 45 #[v, .int .i64 who] w fun en w' => ItsPost w (keepI who L) en w' := by
  obtain ⟨i0, z0, hi0, hz0, hz1, hz2, hz3⟩ := Try.zeroItem
  have HI0 := Lib.hid hi0
  have HZ0 := Lib.hid hz0
  have HZ1 := Lib.hid hz1
  have HZ2 := Lib.hid hz2
  have HZ3 := Lib.hid hz3
  have H := Lib.hid h
  have HB := Lib.hid hb
  obtain ⟨a, c, rfl, hc1, hc2, _⟩ := h
  clear hi0 hz0 hz1 hz2 hz3 hb hc2
  go_enter Try.func45, Try.ntmps45
  go_wp2_with fail
  have HG : Hid (Grow w w.heap.size (.slice (some ⟨w.heap.size, 0, none⟩) 0 0) [] (w.alloc (.cells #[] 75))) := Grow.new_ w (Has.made _ _ _) (Nat.le_refl _) ((Turn.refl _ w).alloc _)
  go_loopw [5, 11] (fun o i wr => ∃ (k : Nat) (O : List It2), i = .int .i64 k ∧ k ≤ L.length ∧ Hid (O = keepI who (L.take k)) ∧ Hid (Grow w w.heap.size o O wr)) (fun _ i _ => L.length - (intOf i).toNat)
  case atStart => exact ⟨0, [], rfl, Nat.zero_le _, Lib.hid rfl, HG⟩
  case round =>
    obtain ⟨k, O, rfl, hk, HO, HG1⟩ := hrel
    clear HG
    by_cases hkl : k < L.length
    · obtain ⟨y, hy⟩ : ∃ y, L[k]? = some y := ⟨L[k], List.getElem?_eq_getElem hkl⟩
      obtain ⟨g, o, c', ev, c0, c1⟩ := (H.out.turn HG1.out.turn (fun g cs e _ => Nat.not_le_of_lt (HB.out g e))).at_ k y hy
      injection ev with ev1 ev2 ev3
      subst ev1
      clear ev2 ev3
      have HT := Lib.hid (take_it hy)
      have h1 : (k : Int) < (L.length : Int) := by omega
      have h0 : (0 : Int) ≤ (k : Int) := by omega
      have hO' : O.length ≤ 2000 := by rw [HO.out]; have := filter_le (fun x => decide (x.2 ≠ who)) L k; unfold keepI; omega
      clear hy
      have G2 := Lib.hid (HG1.out.more (w' := wr.alloc (.cells #[.int .i64 y.1, .int .i64 y.2] 75)) ((Turn.refl _ _).alloc _))
      by_cases hw : y.2 = who
      · have E : Hid (keepI who (L.take (k + 1)) = keepI who (L.take k)) := Lib.hid (by rw [HT.out]; unfold keepI; rw [List.filter_append]; simp [hw])
        have hw' : (y.2 != who) = false := by simpa using hw
        clear hw
        go_wp2_with fail
        refine ⟨⟨k + 1, O, by rw [Int.natCast_add]; rfl, by omega, Lib.hid (by rw [E.out]; exact HO.out), G2⟩, ?_⟩
        show L.length - ((k : Int) + 1).toNat < L.length - ((k : Int)).toNat
        omega
      · have E : Hid (keepI who (L.take (k + 1)) = keepI who (L.take k) ++ [y]) := Lib.hid (by rw [HT.out]; unfold keepI; rw [List.filter_append]; simp [hw])
        have hw' : (y.2 != who) = true := by simpa using hw
        clear hw
        go_wp2_with (at_builtin
                     refine wpList_append_lies _ rfl (.tmp 19) (.tmp 21) 69 rfl 0 75 i0 z0 2 16 Try.underlying69 HI0.out HZ0.out HZ1.out HZ3.out HZ2.out (by decide) _ O.length _ rfl (by exact (G2.out.more ((Turn.refl _ _).alloc _)).own) ⟨wr.heap.size + 1, 0, none⟩ 1 1 [.int .i64 y.1, .int .i64 y.2] rfl rfl (by exact World.news_of_block (made_at _ _ (by simp))) (oneCell_it y) (by decide) (by unfold maxLen; omega) (by omega) (Nat.zero_le _) _ rfl ?_
                     intro g3 cap3 w3 hown hg hat hlt
                     have G3 := Lib.hid ((G2.out.more ((Turn.refl _ _).alloc _)).push y hown hg hat)
                     clear hown hg hat hlt G2)
        refine ⟨⟨k + 1, O ++ [y], by rw [Int.natCast_add]; rfl, by omega, Lib.hid (by rw [E.out, HO.out]), G3⟩, ?_⟩
        show L.length - ((k : Int) + 1).toNat < L.length - ((k : Int)).toNat
        omega
    · obtain rfl : k = L.length := by omega
      have h1 : ¬ (L.length : Int) < (L.length : Int) := by omega
      have E : Hid (keepI who L = O) := Lib.hid (by have h := HO.out; rw [List.take_length] at h; exact h.symm)
      clear HO
      go_wp2_with fail
      go_ret
      rw [E.out]
      exact ⟨_, _, rfl, Its.of_own HG1.out.own, fun g hg => HG1.out.new g hg, HG1.out.turn.below (Nat.le_refl _) (fun j hj e => by omega)⟩

/-- The items that stay, whose are due. -/
structure Both (w : World) (v : Value) (O : List It2) (u : Value) (I : List Int) (wr : World) : Prop where
  its : Grow w w.heap.size v O wr
  ints : Ints wr u I
  new : ∀ b, u.ownBlock = some b → w.heap.size ≤ b

theorem Both.more {w wr w' : World} {v u : Value} {O : List It2} {I : List Int} (h : Both w v O u I wr) (t : Turn (fun j => wr.heap.size ≤ j) wr w') : Both w v O u I w' :=
  ⟨h.its.more t, h.ints.turn t (fun _ hb => Nat.not_le_of_lt (own_lt h.ints hb)), h.new⟩

theorem Both.pushO {w wr w' : World} {v u : Value} {O : List It2} {I : List Int} (h : Both w v O u I wr) (x : It2) {g cap : Nat} (hown : w'.ownsRow 0 75 2 (.slice (some ⟨g, 0, none⟩) (O.length + 1) cap) (O.length + 1) (itCells O ++ [.int .i64 x.1, .int .i64 x.2])) (hg : wr.grownBy w' v.ownBlock) (hat : v.ownBlock = some g ∨ g = wr.heap.size) :
    Both w (.slice (some ⟨g, 0, none⟩) (O.length + 1) cap) (O ++ [x]) u I w' :=
  ⟨h.its.push x hown hg hat, h.ints.turn ((Turn.refl (fun j => v.ownBlock = some j) wr).grown hg (fun _ e _ => e)) (fun b hb k => own_own h.its.own h.ints (by decide) b k hb), h.new⟩

theorem Both.pushI {w wr w' : World} {v u : Value} {O : List It2} {I : List Int} (h : Both w v O u I wr) (x : Int) {g cap : Nat} (hown : w'.ownsRow 0 3 1 (.slice (some ⟨g, 0, none⟩) (I.length + 1) cap) (I.length + 1) (I.map (Value.int .i64) ++ [.int .i64 x])) (hg : wr.grownBy w' u.ownBlock) (hat : u.ownBlock = some g ∨ g = wr.heap.size) :
    Both w v O (.slice (some ⟨g, 0, none⟩) (I.length + 1) cap) (I ++ [x]) w' := by
  have t : Turn (fun j => u.ownBlock = some j) wr w' := (Turn.refl _ wr).grown hg (fun _ e _ => e)
  refine ⟨⟨own_turn h.its.own t (fun b hb k => own_own h.its.own h.ints (by decide) b hb k), h.its.new, h.its.low, Nat.le_trans h.its.big hg.size, h.its.turn.trans t (fun j _ e => h.new j e)⟩, ?_, ?_⟩
  · show w'.ownsRow 0 3 1 _ (I ++ [x]).length ((I ++ [x]).map (Value.int .i64))
    rw [List.length_append, List.map_append]
    exact hown
  · intro b hb
    injection hb with hb
    obtain rfl : g = b := hb
    rcases hat with k | k
    · exact h.new _ k
    · rw [k]; exact h.its.turn.size

def DueIPost (w : World) (L1 : List It2) (L2 : List Int) (en : Ending) (w' : World) : Prop :=
  ∃ v b u, en = .returned (.tuple #[v, u]) ∧ Its w' b v L1 ∧ (∀ g, b = some g → w.heap.size ≤ g) ∧ Ints w' u L2 ∧ (∀ g, u.ownBlock = some g → w.heap.size ≤ g) ∧ Below w.heap.size w w'

set_option maxRecDepth 100000 in
set_option maxHeartbeats 1000000 in
theorem fdue_calls (b : Option Nat) (v : Value) (L : List It2) (t : Int) (w : World) (h : Its w b v L) (hb : ∀ g, b = some g → g < w.heap.size) (hl : L.length ≤ 1000) :
    Calls Try.prog 47 #[v, .int .i64 t] w fun en w' => DueIPost w (laterI t L) (dueI t L) en w' := by
  obtain ⟨i0, z0, hi0, hz0, hz1, hz2, hz3⟩ := Try.zeroItem
  obtain ⟨i1, z1, hi1, hy0, hy1, hy2, hy3⟩ := Try.zeroInt
  have HI0 := Lib.hid hi0
  have HZ0 := Lib.hid hz0
  have HZ1 := Lib.hid hz1
  have HZ2 := Lib.hid hz2
  have HZ3 := Lib.hid hz3
  have HI1 := Lib.hid hi1
  have HY0 := Lib.hid hy0
  have HY1 := Lib.hid hy1
  have HY2 := Lib.hid hy2
  have HY3 := Lib.hid hy3
  have H := Lib.hid h
  have HB := Lib.hid hb
  obtain ⟨a, c, rfl, hc1, hc2, _⟩ := h
  clear hi0 hz0 hz1 hz2 hz3 hi1 hy0 hy1 hy2 hy3 hb hc2
  go_enter Try.func47, Try.ntmps47
  go_wp2_with fail
  have HG : Hid (Both w (.slice (some ⟨w.heap.size + 1, 0, none⟩) 0 0) [] (.slice (some ⟨w.heap.size, 0, none⟩) 0 0) [] ((w.alloc (.cells #[] 3)).alloc (.cells #[] 75))) := by
    have t1 : Turn (fun j => w.heap.size ≤ j) w ((w.alloc (.cells #[] 3)).alloc (.cells #[] 75)) := ((Turn.refl _ w).alloc _).alloc _
    have k1 : Has ((w.alloc (.cells #[] 3)).alloc (.cells #[] 75)) w.heap.size 3 #[] := (Has.made _ _ _).alloc _
    have k2 : Has ((w.alloc (.cells #[] 3)).alloc (.cells #[] 75)) (w.heap.size + 1) 75 #[] := made_at _ _ (by simp)
    have gr := Grow.new_ w k2 (Nat.le_succ _) t1
    exact Lib.hid ⟨⟨gr.own, fun b hb => Nat.le_trans (Nat.le_succ _) (gr.new b hb), Nat.le_refl _, t1.size, t1⟩, ⟨rfl, .inr ⟨_, 0, #[], rfl, Nat.zero_le _, k1, Nat.le_refl _, Nat.zero_le _, rfl, rfl⟩⟩, fun b hb => by injection hb with hb; obtain rfl : w.heap.size = b := hb; exact Nat.le_refl _⟩
  go_loopw [6, 7, 14] (fun u o i wr => ∃ (k : Nat) (O : List It2) (I : List Int), i = .int .i64 k ∧ k ≤ L.length ∧ Hid (O = laterI t (L.take k)) ∧ Hid (I = dueI t (L.take k)) ∧ Hid (Both w o O u I wr)) (fun _ _ i _ => L.length - (intOf i).toNat)
  case atStart => exact ⟨0, [], [], rfl, Nat.zero_le _, Lib.hid rfl, Lib.hid rfl, HG⟩
  case round =>
    obtain ⟨k, O, I, rfl, hk, HO, HI, HG1⟩ := hrel
    clear HG
    by_cases hkl : k < L.length
    · obtain ⟨y, hy⟩ : ∃ y, L[k]? = some y := ⟨L[k], List.getElem?_eq_getElem hkl⟩
      obtain ⟨g, o, c', ev, c0, c1⟩ := (H.out.turn HG1.out.its.turn (fun g cs e _ => Nat.not_le_of_lt (HB.out g e))).at_ k y hy
      injection ev with ev1 ev2 ev3
      subst ev1
      clear ev2 ev3
      have HT := Lib.hid (take_it hy)
      have h1 : (k : Int) < (L.length : Int) := by omega
      have h0 : (0 : Int) ≤ (k : Int) := by omega
      have hO' : O.length ≤ 2000 := by rw [HO.out]; have := filter_le (fun x => decide (¬ x.1 ≤ t)) L k; unfold laterI; omega
      have hI' : I.length ≤ 2000 := by rw [HI.out]; have := filter_le (fun x => decide (x.1 ≤ t)) L k; unfold dueI; rw [List.length_map]; omega
      clear hy
      have G2 := Lib.hid (HG1.out.more (w' := wr.alloc (.cells #[.int .i64 y.1, .int .i64 y.2] 75)) ((Turn.refl _ _).alloc _))
      by_cases hw : y.1 ≤ t
      · have E : Hid (laterI t (L.take (k + 1)) = laterI t (L.take k)) := Lib.hid (by rw [HT.out]; unfold laterI; rw [List.filter_append]; simp [hw])
        have F : Hid (dueI t (L.take (k + 1)) = dueI t (L.take k) ++ [y.2]) := Lib.hid (by rw [HT.out]; unfold dueI; rw [List.filter_append]; simp [hw])
        go_wp2_with (at_builtin
                     refine wpList_append_lies _ rfl (.tmp 22) (.tmp 25) 80 rfl 0 3 i1 z1 1 8 Try.underlying80 HI1.out HY0.out HY1.out HY3.out HY2.out (by decide) _ I.length _ rfl (by exact (G2.out.more ((Turn.refl _ _).alloc _)).ints) ⟨wr.heap.size + 1, 0, none⟩ 1 1 [.int .i64 y.2] rfl rfl (by exact World.news_of_block (made_at _ _ (by simp))) (by intro u hu; rw [List.mem_singleton.1 hu]; rfl) (by decide) (by unfold maxLen; omega) (by omega) (Nat.zero_le _) _ rfl ?_
                     intro g3 cap3 w3 hown hg hat hlt
                     have G3 := Lib.hid ((G2.out.more ((Turn.refl _ _).alloc _)).pushI y.2 hown hg hat)
                     clear hown hg hat hlt G2)
        refine ⟨⟨k + 1, O, I ++ [y.2], by rw [Int.natCast_add]; rfl, by omega, Lib.hid (by rw [E.out]; exact HO.out), Lib.hid (by rw [F.out, HI.out]), G3⟩, ?_⟩
        show L.length - ((k : Int) + 1).toNat < L.length - ((k : Int)).toNat
        omega
      · have E : Hid (laterI t (L.take (k + 1)) = laterI t (L.take k) ++ [y]) := Lib.hid (by rw [HT.out]; unfold laterI; rw [List.filter_append]; simp [show t < y.1 by omega])
        have F : Hid (dueI t (L.take (k + 1)) = dueI t (L.take k)) := Lib.hid (by rw [HT.out]; unfold dueI; rw [List.filter_append]; simp [hw])
        go_wp2_with (at_builtin
                     refine wpList_append_lies _ rfl (.tmp 27) (.tmp 29) 69 rfl 0 75 i0 z0 2 16 Try.underlying69 HI0.out HZ0.out HZ1.out HZ3.out HZ2.out (by decide) _ O.length _ rfl (by exact (G2.out.more ((Turn.refl _ _).alloc _)).its.own) ⟨wr.heap.size + 1, 0, none⟩ 1 1 [.int .i64 y.1, .int .i64 y.2] rfl rfl (by exact World.news_of_block (made_at _ _ (by simp))) (oneCell_it y) (by decide) (by unfold maxLen; omega) (by omega) (Nat.zero_le _) _ rfl ?_
                     intro g3 cap3 w3 hown hg hat hlt
                     have G3 := Lib.hid ((G2.out.more ((Turn.refl _ _).alloc _)).pushO y hown hg hat)
                     clear hown hg hat hlt G2)
        refine ⟨⟨k + 1, O ++ [y], I, by rw [Int.natCast_add]; rfl, by omega, Lib.hid (by rw [E.out, HO.out]), Lib.hid (by rw [F.out]; exact HI.out), G3⟩, ?_⟩
        show L.length - ((k : Int) + 1).toNat < L.length - ((k : Int)).toNat
        omega
    · obtain rfl : k = L.length := by omega
      have h1 : ¬ (L.length : Int) < (L.length : Int) := by omega
      have E : Hid (laterI t L = O) := Lib.hid (by have h := HO.out; rw [List.take_length] at h; exact h.symm)
      have F : Hid (dueI t L = I) := Lib.hid (by have h := HI.out; rw [List.take_length] at h; exact h.symm)
      clear HO HI
      go_wp2_with fail
      go_ret2
      rw [E.out, F.out]
      exact ⟨_, _, _, rfl, Its.of_own HG1.out.its.own, fun g hg => HG1.out.its.new g hg, HG1.out.ints, HG1.out.new, HG1.out.its.turn.below (Nat.le_refl _) (fun j hj e => by omega)⟩

set_option maxRecDepth 100000 in
set_option maxHeartbeats 1000000 in
theorem same_calls (u v : Value) (L : List Int) (w : World) (hu : Ints w u L) (hv : Ints w v L) (hl : L.length ≤ 1000) :
    Calls Try.prog 48 #[u, v] w fun en w' => en = .returned (.bool true) ∧ w.grownBy w' none := by
  have HU := Lib.hid hu
  have HV := Lib.hid hv
  obtain ⟨a1, c1, rfl⟩ := hu.slice
  obtain ⟨a2, c2, rfl⟩ := hv.slice
  clear hu hv
  go_enter Try.func48, Try.ntmps48
  go_wp2_with fail
  go_loopw [13] (fun i wr => ∃ (k : Nat), i = .int .i64 k ∧ k ≤ L.length ∧ Hid (w.grownBy wr none)) (fun i _ => L.length - (intOf i).toNat)
  case atStart => exact ⟨0, rfl, Nat.zero_le _, Lib.hid (grown_refl w _)⟩
  case round =>
    obtain ⟨k, rfl, hk, HG⟩ := hrel
    by_cases hkl : k < L.length
    · have t1 : Turn (fun _ => False) w wr := (Turn.refl _ w).grown HG.out (fun j e _ => by cases e)
      obtain ⟨g1, d1, e1, k1⟩ := (HU.out.turn t1 (fun _ _ e => e)).cell k hkl
      obtain ⟨g2, d2, e2, k2⟩ := (HV.out.turn t1 (fun _ _ e => e)).cell k hkl
      injection e1 with e1 e1b e1c
      injection e2 with e2 e2b e2c
      subst e1
      subst e2
      clear e1b e1c e2b e2c
      obtain ⟨y, hy⟩ : ∃ y, L[k]? = some y := ⟨L[k], List.getElem?_eq_getElem hkl⟩
      have m1 := k1 k y hy
      have m2 := k2 k y hy
      have h1 : (k : Int) < (L.length : Int) := by omega
      have h0 : (0 : Int) ≤ (k : Int) := by omega
      clear k1 k2 hy t1
      go_wp2_with fail
      go_region
      all_goals
        go_wp2_with fail
        refine ⟨⟨k + 1, by rw [Int.natCast_add]; rfl, by omega, Lib.hid (grown_drew HG.out)⟩, ?_⟩
        show L.length - ((k : Int) + 1).toNat < L.length - ((k : Int)).toNat
        omega
    · obtain rfl : k = L.length := by omega
      have h1 : ¬ (L.length : Int) < (L.length : Int) := by omega
      go_wp2_with fail
      go_ret
      exact ⟨rfl, HG.out⟩

end Go.Proofs.Ytpdcbfhmlgmhpaa
