/- digest: sumOf, Of, Leaf. -/
import Derived.Test.YtdoadmkaoboncaaGreatDoorDigG
namespace Go.Proofs.YtdoadmkaoboncaaGreatDoor.dig
open Go Go.RowKit

def cat (ps : List ByteArray) : List UInt8 := ps.flatMap fun s => s.data.toList
theorem cat_take (ps : List ByteArray) (k : Nat) (s : ByteArray) (h : ps[k]? = some s) : cat (ps.take (k + 1)) = cat (ps.take k) ++ s.data.toList := by
  unfold cat
  rw [List.take_add_one, h]
  simp
theorem cat_le (ps : List ByteArray) (k : Nat) (s : ByteArray) (h : ps[k]? = some s) : (cat (ps.take k)).length + s.size ≤ (cat ps).length := by
  have e : cat ps = cat (ps.take (k + 1)) ++ cat (ps.drop (k + 1)) := by
    unfold cat
    rw [← List.flatMap_append, List.take_append_drop]
  rw [e, cat_take ps k s h, List.length_append, List.length_append]
  have : s.data.toList.length = s.size := by simp
  omega

set_option maxRecDepth 100000 in
set_option maxHeartbeats 1000000 in
theorem sumOf_calls (b len cap : Nat) (ps : List ByteArray) (w : World) (hc : ∀ i s, ps[i]? = some s → w.cell? ⟨b, i, none⟩ = some (.string s)) (hb : b < w.heap.size) (hl : ps.length = len) (hlm : len ≤ 1000) (hR : Rk w) (hn : (cat ps).length < 1152921504606846976) :
    Calls Tryz.prog 79 #[.slice (some ⟨b, 0, none⟩) len cap] w fun en w' => en = .returned (.agg (cellsOf (sum (cat ps)))) ∧ Below w.heap.size w w' := by
  have HC := Lib.hid hc
  have HL := Lib.hid hl
  have HN := Lib.hid hn
  have HR0 := Lib.hid hR
  have hlm2 : (len : Int) ≤ 1000 := by omega
  clear hc hl hn hR
  go_enter Tryz.func79, Tryz.ntmps79
  go_wp2_with fail
  refine callsName (fun W hW => ?_)
  have B0 : Below w.heap.size w W := by rw [← hW]; exact (Below.refl _ _).alloc (Nat.le_refl _) _
  have Z0 : Has W w.heap.size 38 (cellsOf (List.replicate 32 0)) := by rw [← hW]; exact made_at _ _ rfl
  clear hW
  refine (new_calls W (HR0.out.below B0)).mono ?_
  rintro en w1 ⟨h, rfl, hax, hb1, hle, hlt⟩
  have S1 : Hid (Hs w1 h [] ∧ Rk w1 ∧ Below w.heap.size w w1 ∧ Has w1 w.heap.size 38 (cellsOf (List.replicate 32 0)) ∧ h < w1.heap.size) :=
    Lib.hid ⟨hax.st, hax.rk, B0.trans (hb1.mono B0.size), Z0.below hb1 Z0.lt, hlt⟩
  have HH : Hid (w.heap.size < h ∧ h ≠ 4) := Lib.hid ⟨by have := Z0.lt; omega, hax.hne⟩
  clear hax hb1 hle hlt B0 Z0
  go_wp2_with fail
  go_loopw [9] (fun i wr => ∃ k : Nat, i = .int .i64 k ∧ k ≤ len ∧ Hid (Hs wr h (cat (ps.take k)) ∧ Rk wr ∧ Below w.heap.size w wr ∧ Has wr w.heap.size 38 (cellsOf (List.replicate 32 0)) ∧ h < wr.heap.size)) (fun i _ => len - (intOf i).toNat)
  case atStart => exact ⟨0, rfl, by omega, S1⟩
  case round =>
    obtain ⟨k, rfl, hk, HS⟩ := hrel
    clear S1
    by_cases hkl : k < len
    · have hk1 : (k : Int) < (len : Int) := by omega
      have hk0 : (0 : Int) ≤ (k : Int) := by omega
      obtain ⟨s, hs⟩ : ∃ s, ps[k]? = some s := ⟨_, List.getElem?_eq_getElem (by rw [HL.out]; exact hkl)⟩
      have c0 : wr.cell? ⟨b, k, none⟩ = some (.string s) := by
        rw [← HC.out k s hs]
        unfold World.cell?
        rw [HS.out.2.2.1.block b hb]
      have HSS := Lib.hid hs
      clear hs
      go_wp2_with fail
      refine (add_calls h (cat (ps.take k)) s wr ⟨HS.out.1, HS.out.2.1, HH.out.2, grown_refl _ _⟩ (by have := cat_le ps k s HSS.out; have := HN.out; omega)).mono ?_
      rintro en w2 ⟨rfl, hax⟩
      rw [← cat_take ps k s HSS.out] at hax
      have S2 : Hid (Hs w2 h (cat (ps.take (k + 1))) ∧ Rk w2 ∧ Below w.heap.size w w2 ∧ Has w2 w.heap.size 38 (cellsOf (List.replicate 32 0)) ∧ h < w2.heap.size) := by
        obtain ⟨k1, k2, k3, k4, k5⟩ := HS.out
        have h1 := HH.out.1
        exact Lib.hid ⟨hax.st, hax.rk, k3.trans (below_grown hax.turn (by omega) k3.size), k4.grown hax.turn (fun e => by injection e; omega), by have := hax.turn.size; omega⟩
      clear hax HS c0
      go_wp2_with fail
      refine ⟨⟨k + 1, by rw [Int.natCast_add]; rfl, by omega, S2⟩, ?_⟩
      show len - ((k : Int) + 1).toNat < len - ((k : Int)).toNat
      omega
    · obtain rfl : k = len := by omega
      have e1 : ps.take k = ps := List.take_of_length_le (by rw [HL.out]; exact Nat.le_refl _)
      have HS2 : Hid (Hs wr h (cat ps) ∧ Rk wr ∧ Below w.heap.size w wr ∧ Has wr w.heap.size 38 (cellsOf (List.replicate 32 0)) ∧ h < wr.heap.size) := by rw [← e1] ; exact HS
      clear e1 HS
      go_wp2_with fail
      refine (sum_calls h (cat ps) wr HS2.out.1 HS2.out.2.1 HN.out).mono ?_
      rintro en w5 ⟨rfl, b5⟩
      have S5 : Hid (Has w5 w.heap.size 38 (cellsOf (List.replicate 32 0)) ∧ Below w.heap.size w w5) :=
        Lib.hid ⟨HS2.out.2.2.2.1.below b5 HS2.out.2.2.2.1.lt, HS2.out.2.2.1.trans (b5.mono HS2.out.2.2.1.size)⟩
      clear b5 HS2
      go_wp2_with (first
        | (refine wpList_store_arr (o := ⟨none, _, _, _, _, _⟩) rfl 38 _ _ rfl w.heap.size (sum (cat ps)) (List.replicate 32 0) rfl rfl _ S5.out.1 32 (by kernel_rfl) (by simp) (sum_length _) ?_; intro W6 HW6 TW6)
        | fail)
      exact bodyPost_ret (v := .agg (cellsOf (sum (cat ps)))) (results_cell_row rfl _ _ w.heap.size 38 _ _ _ rfl HW6 Tryz.underlying38 rfl (by rw [cellsOf_size, sum_length]; kernel_rfl)) rfl
        ⟨rfl, S5.out.2.trans (TW6.below S5.out.2.size (fun j hj e => by omega))⟩

set_option maxRecDepth 100000 in
set_option maxHeartbeats 1000000 in
theorem of_calls (s : ByteArray) (w : World) (hR : Rk w) (hn : s.size < 1000000000000000000) :
    Calls Tryz.prog 53 #[.string s] w fun en w' => en = .returned (.agg (cellsOf (sum s.data.toList))) ∧ Below w.heap.size w w' := by
  have HR0 := Lib.hid hR
  have HN := Lib.hid hn
  clear hR hn
  have hcat : cat [s] = s.data.toList := by simp [cat]
  go_enter Tryz.func53, Tryz.ntmps53
  go_wp2_with fail
  refine callsName (fun W hW => ?_)
  have B0 : Below w.heap.size w W := by rw [← hW]; exact ((Below.refl _ _).alloc (Nat.le_refl _) _).alloc (by simp) _
  have Z0 : Has W w.heap.size 38 (cellsOf (List.replicate 32 0)) := by rw [← hW]; exact Has.alloc (made_at _ _ rfl) _
  have P0 : Has W (w.heap.size + 1) 9 #[.string s] := by rw [← hW]; exact made_at _ _ (by simp)
  clear hW
  refine (sumOf_calls (w.heap.size + 1) 1 1 [s] W (fun i t ht => ?_) P0.lt rfl (by omega) (HR0.out.below B0) (by rw [hcat]; have := HN.out; simp; omega)).mono ?_
  · rw [P0.cell]
    cases i with
    | zero => simp at ht; subst ht; rfl
    | succ i => simp at ht
  rw [hcat]
  rintro en w5 ⟨rfl, b5⟩
  have S5 : Hid (Has w5 w.heap.size 38 (cellsOf (List.replicate 32 0)) ∧ Below w.heap.size w w5) :=
    Lib.hid ⟨Z0.below b5 Z0.lt, B0.trans (b5.mono B0.size)⟩
  clear b5 B0 Z0 P0 hcat
  go_wp2_with (first
    | (refine wpList_store_arr (o := ⟨none, _, _, _, _, _⟩) rfl 38 _ _ rfl w.heap.size (sum s.data.toList) (List.replicate 32 0) rfl rfl _ S5.out.1 32 (by kernel_rfl) (by simp) (sum_length _) ?_; intro W6 HW6 TW6)
    | fail)
  exact bodyPost_ret (v := .agg (cellsOf (sum s.data.toList))) (results_cell_row rfl _ _ w.heap.size 38 _ _ _ rfl HW6 Tryz.underlying38 rfl (by rw [cellsOf_size, sum_length]; kernel_rfl)) rfl
    ⟨rfl, S5.out.2.trans (TW6.below S5.out.2.size (fun j hj e => by omega))⟩

/-- A leaf's sum. -/
def leafS (xs : List UInt8) : List UInt8 := sum (0 :: xs)
/-- A node's. -/
def nodeS (a b : List UInt8) : List UInt8 := sum (1 :: (a ++ b))
theorem leafS_length (xs : List UInt8) : (leafS xs).length = 32 := sum_length _
theorem nodeS_length (a b : List UInt8) : (nodeS a b).length = 32 := sum_length _

set_option maxRecDepth 100000 in
set_option maxHeartbeats 1000000 in
theorem leaf_calls (s : ByteArray) (w : World) (hR : Rk w) (hn : s.size < 1000000000000000000) :
    Calls Tryz.prog 75 #[.string s] w fun en w' => en = .returned (.agg (cellsOf (leafS s.data.toList))) ∧ Below w.heap.size w w' := by
  have HR0 := Lib.hid hR
  have HN := Lib.hid hn
  clear hR hn
  have hcat : cat [⟨#[0]⟩, s] = 0 :: s.data.toList := by simp [cat]
  go_enter Tryz.func75, Tryz.ntmps75
  go_wp2_with fail
  refine callsName (fun W hW => ?_)
  have B0 : Below w.heap.size w W := by rw [← hW]; exact ((Below.refl _ _).alloc (Nat.le_refl _) _).alloc (by simp) _
  have Z0 : Has W w.heap.size 38 (cellsOf (List.replicate 32 0)) := by rw [← hW]; exact Has.alloc (made_at _ _ rfl) _
  have P0 : Has W (w.heap.size + 1) 9 #[.string ⟨#[0]⟩, .string s] := by rw [← hW]; exact made_at _ _ (by simp)
  clear hW
  refine (sumOf_calls (w.heap.size + 1) 2 2 [⟨#[0]⟩, s] W (fun i t ht => ?_) P0.lt rfl (by omega) (HR0.out.below B0) (by rw [hcat]; have := HN.out; simp; omega)).mono ?_
  · rw [P0.cell]
    rcases i with _ | _ | i
    · simp at ht; subst ht; rfl
    · simp at ht; subst ht; rfl
    · simp at ht
  rw [hcat]
  rintro en w5 ⟨rfl, b5⟩
  have S5 : Hid (Has w5 w.heap.size 38 (cellsOf (List.replicate 32 0)) ∧ Below w.heap.size w w5) :=
    Lib.hid ⟨Z0.below b5 Z0.lt, B0.trans (b5.mono B0.size)⟩
  clear b5 B0 Z0 P0 hcat
  go_wp2_with (first
    | (refine wpList_store_arr (o := ⟨none, _, _, _, _, _⟩) rfl 38 _ _ rfl w.heap.size (sum (0 :: s.data.toList)) (List.replicate 32 0) rfl rfl _ S5.out.1 32 (by kernel_rfl) (by simp) (sum_length _) ?_; intro W6 HW6 TW6)
    | fail)
  exact bodyPost_ret (v := .agg (cellsOf (leafS s.data.toList))) (results_cell_row rfl _ _ w.heap.size 38 _ _ _ rfl HW6 Tryz.underlying38 rfl (by rw [cellsOf_size, leafS_length]; kernel_rfl)) rfl
    ⟨rfl, S5.out.2.trans (TW6.below S5.out.2.size (fun j hj e => by omega))⟩

end Go.Proofs.YtdoadmkaoboncaaGreatDoor.dig
