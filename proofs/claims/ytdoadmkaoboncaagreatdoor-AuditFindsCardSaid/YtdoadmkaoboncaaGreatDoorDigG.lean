/- digest: New, Sum. -/
import Derived.Test.YtdoadmkaoboncaaGreatDoorDigF
namespace Go.Proofs.YtdoadmkaoboncaaGreatDoor.dig
open Go Go.RowKit

def NewPost (w : World) (en : Ending) (w' : World) : Prop := ∃ h, en = .returned (.pointer (some ⟨h, 0, none⟩)) ∧ Ax w h [] w' ∧ Below w.heap.size w w' ∧ w.heap.size ≤ h ∧ h < w'.heap.size

set_option maxRecDepth 100000 in
set_option maxHeartbeats 1000000 in
theorem new_calls (w : World) (hR : Rk w) : Calls Tryz.prog 105 #[] w fun en w' => NewPost w en w' := by
  have HR := Lib.hid hR
  have HL := Lib.hid hR.lt
  clear hR
  go_enter Tryz.func105, Tryz.ntmps105
  go_wp2_with fail
  go_ret
  have hb := (Below.refl w.heap.size w).alloc (Nat.le_refl _) (.cells (hcells start8.list (List.replicate 64 0) 0) 214)
  exact ⟨w.heap.size, rfl, ⟨⟨List.replicate 64 0, by simp, rfl, made_at _ _ rfl⟩, HR.out.below hb, by have := HL.out; omega, grown_below hb _ (Nat.le_refl _)⟩, hb, Nat.le_refl _, by simp⟩

section
variable {P : Program}
/-- A whole row of cells is stored: its block behind it, in a world that is a letter. -/
theorem wpList_store_cells {w : World} {ops : Array Oper} {rest : List Oper} {o : Oper} {a : Act} {Q : Exit → Act → World → Prop} (hgd : o.guard = none) (ty : TypeId) (x y : Operand) (ho : o.op = .store ty x y)
    (g : Nat) (cs old : Array Value) (hx : a.eval x = .pointer (some ⟨g, 0, none⟩)) (hy : a.eval y = .agg cs)
    (t : TypeId) (hg : Has w g t old) (hi : (P.info? ty).map (·.size) = some cs.size) (hn : old.size = cs.size) (h1 : cs.all (·.oneCell') = true)
    (h : ∀ w', Has w' g t cs → Turn (fun k => k = g) w w' → wpList P ops Q rest (a.put o.dst undef) w') : wpList P ops Q (o :: rest) a w :=
  wpList_store_row hgd ty x y ho g cs hx hy t old hg hi hn h1 (h _ (hg.row _) (turn_row _ _ _))
end

/-- The first m bytes of a sum. -/
def sumP (L : List Int) (m : Nat) : List UInt8 := (L.flatMap by4).take m ++ List.replicate (32 - m) 0
theorem sumP_length (L : List Int) (m : Nat) (hL : L.length = 8) (hm : m ≤ 32) : (sumP L m).length = 32 := by
  unfold sumP
  rw [List.length_append, List.length_take, flat4, hL, List.length_replicate]
  omega
theorem by4_at (x : Int) (j : Nat) (hx : W x) (h : j < 4) : ∃ b : UInt8, (by4 x)[j]? = some b ∧ (b.toNat : Int) = x / 2 ^ (24 - 8 * j) % 256 := by
  obtain ⟨a, rfl⟩ := Int.eq_ofNat_of_zero_le hx.1
  have hx2 := hx.2
  have : j = 0 ∨ j = 1 ∨ j = 2 ∨ j = 3 := by omega
  rcases this with rfl | rfl | rfl | rfl <;> refine ⟨_, rfl, ?_⟩ <;> simp <;> omega
theorem flat_at : ∀ (L : List Int) (k j : Nat) (x : Int) (b : UInt8), L[k]? = some x → (by4 x)[j]? = some b → (L.flatMap by4)[4 * k + j]? = some b
  | [], k, j, x, b, h, _ => by simp at h
  | y :: t, 0, j, x, b, h, hb => by
    have hj : j < 4 := (List.getElem?_eq_some_iff.1 hb).1
    simp at h
    subst h
    rw [List.flatMap_cons, Nat.mul_zero, Nat.zero_add, List.getElem?_append_left (by rw [by4_length]; exact hj), hb]
  | y :: t, k + 1, j, x, b, h, hb => by
    simp at h
    rw [List.flatMap_cons, List.getElem?_append_right (by rw [by4_length]; omega), by4_length, show 4 * (k + 1) + j - 4 = 4 * k + j by omega]
    exact flat_at t k j x b h hb
theorem sumP_step (L : List Int) (m : Nat) (b : UInt8) (hL : L.length = 8) (hm : m < 32) (hb : (L.flatMap by4)[m]? = some b) : (sumP L m).set m b = sumP L (m + 1) := by
  have hl : ((L.flatMap by4).take m).length = m := by rw [List.length_take, flat4, hL]; omega
  unfold sumP
  rw [List.set_append_right _ _ (by omega), hl, Nat.sub_self, show 32 - m = (32 - (m + 1)) + 1 by omega, List.replicate_succ, List.set_cons_zero, List.take_add_one, hb]
  simp
theorem cellsOf_set (xs : List UInt8) (i : Nat) (b : UInt8) : (cellsOf xs).setIfInBounds i (byteV b) = cellsOf (xs.set i b) := by
  unfold cellsOf
  rw [List.map_set]
  simp
theorem hcells_one (ws : List Int) (bs : List UInt8) (n : Nat) : (hcells ws bs n).all (·.oneCell') = true := by
  rw [Array.all_eq_true_iff_forall_mem]
  intro v hv
  simp [hcells] at hv
  rcases hv with ⟨c, _, rfl⟩ | ⟨c, _, rfl⟩ | rfl <;> rfl
theorem hcells_size (ws : List Int) (bs : List UInt8) (n : Nat) : (hcells ws bs n).size = ws.length + (bs.length + 1) := by simp [hcells]

set_option maxRecDepth 100000 in
set_option maxHeartbeats 1000000 in
theorem sum_calls (h : Nat) (xs : List UInt8) (w : World) (H : Hs w h xs) (hR : Rk w) (hn : xs.length < 1152921504606846976) :
    Calls Tryz.prog 107 #[.pointer (some ⟨h, 0, none⟩)] w fun en w' => en = .returned (.agg (cellsOf (sum xs))) ∧ Below w.heap.size w w' := by
  obtain ⟨bs, hb, ht, hB⟩ := H
  have hl : (wd xs (xs.length / 64)).list.length = 8 := rfl
  generalize hws : (wd xs (xs.length / 64)).list = ws at *
  have HWS := Lib.hid hws
  have HT := Lib.hid ht
  have HR := Lib.hid hR
  have HL := Lib.hid hR.lt
  have HB := Lib.hid hB
  have HN := Lib.hid hn
  have hsz : (hcells ws bs xs.length).size = 73 := by rw [hcells_size, hl, hb]
  have HSZ := Lib.hid hsz
  have HLW := Lib.hid hl
  have HLB := Lib.hid hb
  generalize hnn : xs.length = n at *
  have HNN := Lib.hid hnn
  clear ht hR hB hn hws hsz hl hb hnn
  go_enter Tryz.func107, Tryz.ntmps107
  go_wp2_with (first
    | ((with_reducible refine at_op 10 ?_); refine wpList_load_row (o := ⟨some 10, _, _, _, _, _⟩) rfl 214 _ rfl h rfl _ (hcells ws bs n) (0, 0) _ (HB.out.alloc _) Tryz.underlying214 rfl (by rw [HSZ.out]; kernel_rfl) ?_)
    | (refine wpList_store_cells (o := ⟨none, _, _, _, _, _⟩) rfl 214 _ _ rfl (w.heap.size + 1) (hcells ws bs n) Tryz.zeroCells214 rfl rfl _ (made_at _ _ (by simp)) (by rw [HSZ.out]; kernel_rfl) (by rw [HSZ.out]; kernel_rfl) (hcells_one _ _ _) ?_; intro W2 HW2 TW2;
       (have hz := ((made_at 38 (cellsOf (List.replicate 32 0)) rfl : Has (w.alloc _) w.heap.size _ _).alloc (.cells Tryz.zeroCells214 214)).turn TW2 (by omega));
       (have hb2 : Below w.heap.size w W2 := (((Below.refl w.heap.size w).alloc (Nat.le_refl _) _).alloc (by simp) _).trans (TW2.below (by simp; omega) (fun j hj e => by omega)));
       (have hh := HB.out.lt);
       (have c72 : W2.cell? ⟨h, 72, none⟩ = some (.int .u64 n) := ((HB.out.below hb2 hh).cell 72).trans (hcells_n HLW.out HLB.out));
       (have h2s := TW2.size);
       (have H2 : Hid (Has W2 w.heap.size 38 (cellsOf (List.replicate 32 0)) ∧ Has W2 (w.heap.size + 1) 214 (hcells ws bs n) ∧ Below w.heap.size w W2 ∧ w.heap.size + 1 < W2.heap.size) := Lib.hid ⟨hz, HW2, hb2, by simp at h2s; omega⟩);
       clear HW2 TW2 hz hb2 hh h2s)
    | fail)
  have hn := HN.out
  refine (ending_calls n (by omega) W2).mono ?_
  rintro en w3 ⟨rfl, b3⟩
  have A3 : Hid (Ax w3 (w.heap.size + 1) xs w3 ∧ Has w3 w.heap.size 38 (cellsOf (List.replicate 32 0)) ∧ Below w.heap.size w w3 ∧ w.heap.size + 1 < w3.heap.size) := by
    obtain ⟨k1, k2, k3, k4⟩ := H2.out
    refine Lib.hid ⟨⟨⟨bs, HLB.out, ?_, ?_⟩, HR.out.below (k3.trans (b3.mono k3.size)), by have := HL.out; omega, grown_refl _ _⟩, k1.below b3 k1.lt, k3.trans (b3.mono k3.size), by have := b3.size; omega⟩
    · rw [HNN.out]; exact HT.out
    · rw [HNN.out, HWS.out]; exact k2.below b3 k2.lt
  clear b3 H2 hn c72
  go_wp2_with fail
  have hfl : Hid ((⟨(ending n).toArray⟩ : ByteArray).data.toList = ending n) := by show _ = _; simp
  refine (add_calls (w.heap.size + 1) xs ⟨(ending n).toArray⟩ w3 A3.out.1 (by
    have h1 : (⟨(ending n).toArray⟩ : ByteArray).size = (ending n).length := by simp [ByteArray.size]
    rw [h1, ending_length, HNN.out]
    have := HN.out
    omega)).mono ?_
  rintro en w4 ⟨rfl, hax⟩
  have hfull : xs ++ (⟨(ending n).toArray⟩ : ByteArray).data.toList = full xs := by rw [hfl.out]; unfold full; rw [HNN.out]
  rw [hfull] at hax
  have A4 : Hid (Has w4 (w.heap.size + 1) 214 (hcells (wd (full xs) ((full xs).length / 64)).list (hax.st.choose) (full xs).length) ∧ Has w4 w.heap.size 38 (cellsOf (List.replicate 32 0)) ∧ Below w.heap.size w w4 ∧ w.heap.size + 1 < w4.heap.size) := by
    obtain ⟨k1, k2, k3, k4⟩ := A3.out
    refine Lib.hid ⟨hax.st.choose_spec.2.2, k2.grown hax.turn (fun e => by injection e; omega), k3.trans (below_grown hax.turn (by omega) k3.size), by have := hax.turn.size; omega⟩
  generalize hax.st.choose = bs4 at *
  clear hfull hfl A3 hax
  generalize hL : (wd (full xs) ((full xs).length / 64)).list = L at *
  have hLL : L.length = 8 := by rw [← hL]; rfl
  have HLL := Lib.hid hLL
  have HLE := Lib.hid hL
  have HLWW : Hid (∀ x ∈ L, W x) := by show ∀ _, _; rw [← hL]; exact W_wd _ _
  clear hL hLL
  have r4 : ∀ O, (w4.alloc O).rangeAt (w.heap.size + 1) 0 (L.map wordV) := fun O j v hv => by
    rw [Nat.zero_add, (A4.out.1.alloc O).cell]
    rw [List.getElem?_map] at hv
    cases hq : L[j]? with
    | none => rw [hq] at hv; cases hv
    | some x =>
      rw [hq] at hv
      injection hv with hv
      rw [← hv]
      exact hcells_word hq
  have R4 := Lib.hid r4
  clear r4
  go_wp2_with (first
    | ((with_reducible refine at_op 18 ?_); refine wpList_load_mid (op := ⟨some 18, _, _, _, _, _⟩) rfl 211 _ rfl (w.heap.size + 1) 0 rfl (L.map wordV) _ (R4.out _) Tryz.underlying211 rfl (by rw [List.length_map, HLL.out]; kernel_rfl) ?_)
    | fail)
  go_name_world W5 hW5
  have S5 : Hid (Has W5 w4.heap.size 38 (cellsOf (sumP L 0)) ∧ Has W5 w.heap.size 38 (cellsOf (List.replicate 32 0)) ∧ Below w.heap.size w W5) := by
    obtain ⟨k1, k2, k3, k4⟩ := A4.out
    rw [← hW5]
    exact Lib.hid ⟨made_at _ _ rfl, k2.alloc _, k3.alloc (by omega) _⟩
  have HGS : Hid (w.heap.size < w4.heap.size) := Lib.hid (by have := A4.out.2.2.2; omega)
  clear hW5 A4 R4
  generalize w4.heap.size = g at *
  go_loopw [19] (fun i wr => ∃ k : Nat, i = .int .i64 k ∧ k ≤ 8 ∧ Hid (Has wr g 38 (cellsOf (sumP L (4 * k))) ∧ Has wr w.heap.size 38 (cellsOf (List.replicate 32 0)) ∧ Below w.heap.size w wr)) (fun i _ => 8 - (intOf i).toNat)
  case atStart => exact ⟨0, rfl, by omega, S5⟩
  case round =>
    obtain ⟨k, rfl, hk, HS⟩ := hrel
    clear S5
    by_cases h8 : k < 8
    · have hk1 : (k : Int) < 8 := by omega
      obtain ⟨x, hx⟩ : ∃ x, L[k]? = some x := ⟨_, List.getElem?_eq_getElem (by rw [HLL.out]; exact h8)⟩
      have hxW : W x := HLWW.out x (List.mem_of_getElem? hx)
      have hidx : ∀ w, (Instr.index 211 (.agg (L.map wordV).toArray) (.int .i64 k)).run Tryz.prog w = .ok (.int .u32 x) w :=
        run_index_arr 211 158 8 _ .i64 k _ Tryz.underlying211 (by kernel_rfl) (by kernel_rfl) h8 (wordsOf_at L k x hx)
      have hx0 := hxW.1
      have hx1 := hxW.2
      have HX := Lib.hid hx
      have HXW := Lib.hid hxW
      clear hx hxW
      go_wp2_with fail
      go_loopw [23] (fun i wr => ∃ j : Nat, i = .int .i64 j ∧ j ≤ 4 ∧ Hid (Has wr g 38 (cellsOf (sumP L (4 * k + j))) ∧ Has wr w.heap.size 38 (cellsOf (List.replicate 32 0)) ∧ Below w.heap.size w wr)) (fun i _ => 4 - (intOf i).toNat)
      case atStart => exact ⟨0, rfl, by omega, HS⟩
      case round =>
        obtain ⟨j, rfl, hj, HS⟩ := hrel
        by_cases h4 : j < 4
        · have hj1 : (j : Int) < 4 := by omega
          have hj0 : (0 : Int) ≤ (j : Int) := by omega
          have hk0 : (0 : Int) ≤ (k : Int) := by omega
          obtain ⟨b, hb, eb⟩ := by4_at x j HXW.out h4
          have hfa := flat_at L k j x b HX.out hb
          have hst := sumP_step L (4 * k + j) b HLL.out (by omega) hfa
          obtain ⟨v0, c0⟩ : ∃ v, wr.cell? ⟨g, 4 * k + j, none⟩ = some v := by
            rw [HS.out.1.cell]
            exact ⟨_, Array.getElem?_eq_getElem (by rw [cellsOf_size, sumP_length L _ HLL.out (by omega)]; omega)⟩
          have f0 : wr.frozen? ⟨g, 4 * k + j, none⟩ = false := HS.out.1.free _
          have HEB := Lib.hid eb
          have HST := Lib.hid hst
          clear hb eb hfa hst
          go_wp2_with fail
          refine ⟨⟨j + 1, by rw [Int.natCast_add]; rfl, by omega, ?_⟩, ?_⟩
          · rw [← HEB.out]
            obtain ⟨k1, k2, k3⟩ := HS.out
            refine ⟨?_, k2.far (p := ⟨g, 4 * k + j, none⟩) (by have := HGS.out; simp; omega) _, k3.setCell (by have := HGS.out; simp; omega) _⟩
            have e := k1.put (4 * k + j) (byteV b)
            rw [cellsOf_set, HST.out] at e
            exact e
          · show 4 - ((j : Int) + 1).toNat < 4 - ((j : Int)).toNat
            omega
        · obtain rfl : j = 4 := by omega
          go_wp2_with fail
          refine ⟨⟨k + 1, by rw [Int.natCast_add]; rfl, by omega, by rw [show 4 * (k + 1) = 4 * k + 4 by omega]; exact HS⟩, ?_⟩
          show 8 - ((k : Int) + 1).toNat < 8 - ((k : Int)).toNat
          omega
    · obtain rfl : k = 8 := by omega
      have hfin : sumP L (4 * 8) = sum xs := by
        unfold sumP sum
        rw [HLE.out, List.take_of_length_le (by rw [flat4, HLL.out]; omega)]
        simp
      have HS2 : Hid (Has wr g 38 (cellsOf (sum xs)) ∧ Has wr w.heap.size 38 (cellsOf (List.replicate 32 0)) ∧ Below w.heap.size w wr) := by rw [← hfin]; exact HS
      clear HS hfin
      go_wp2_with (first
        | ((with_reducible refine at_op 39 ?_); refine wpList_load_arr (o := ⟨some 39, _, _, _, _, _⟩) rfl 38 _ rfl g rfl _ (sum xs) 5 32 HS2.out.1 Tryz.underlying38 (by kernel_rfl) (sum_length xs) ?_)
        | (refine wpList_store_arr (o := ⟨none, _, _, _, _, _⟩) rfl 38 _ _ rfl w.heap.size (sum xs) (List.replicate 32 0) rfl rfl _ HS2.out.2.1 32 (by kernel_rfl) (by simp) (sum_length xs) ?_; intro W6 HW6 TW6)
        | fail)
      exact bodyPost_ret (v := .agg (cellsOf (sum xs))) (results_cell_row rfl _ _ w.heap.size 38 _ _ _ rfl HW6 Tryz.underlying38 rfl (by rw [cellsOf_size, sum_length]; kernel_rfl)) rfl
        ⟨rfl, HS2.out.2.2.trans (TW6.below HS2.out.2.2.size (fun j hj e => by omega))⟩
end Go.Proofs.YtdoadmkaoboncaaGreatDoor.dig
