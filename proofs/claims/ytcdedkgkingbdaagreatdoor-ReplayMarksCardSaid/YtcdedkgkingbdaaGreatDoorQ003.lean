/- Texts laid into one: DigF, DigG, DigH. -/
import Derived.Test.YtcdedkgkingbdaaGreatDoorQ002
import Derived.Laws.IdiomStrings
section
/- digest: what follows the bytes. -/
namespace Go.Proofs.YtcdedkgkingbdaaGreatDoor.dig
open Go Go.RowKit

theorem own_str {P : Program} (w : World) (base : Nat) (src dst e : TypeId) (hs : P.underlying src = some (.slice e)) (he : P.underlying e = some (.int .u8)) (hd : P.underlying dst = some .string) {v : Value} {xs : List UInt8} {n : Nat}
    (ho : w.ownsRow base e 1 v n (xs.map byteV)) : (convert src dst v).run P w = .ok (.string ⟨xs.toArray⟩) w := by
  have hl : xs.length = n := by have := ho.1; simpa using this
  rcases ho.2 with ⟨rfl, h0⟩ | ⟨g, cap, cur, rfl, _⟩
  · have : xs = [] := List.eq_nil_of_length_eq_zero (hl.trans h0)
    subst this
    rw [run_convert_bytes_string w src dst e none 0 0 hs he hd]
    rfl
  · subst hl
    refine run_convert_bytes_back w src dst e ⟨g, 0, none⟩ cap xs hs he hd (fun j hj => ?_)
    exact ho.cells rfl j _ (by simp [hj, byteV])
theorem own_base {w : World} {base : Nat} {e : TypeId} {size n : Nat} {v : Value} {xs : List Value} (h : w.ownsRow base e size v n xs) {b : Nat} (hb : v.ownBlock = some b) : base ≤ b := by
  rcases h.2 with ⟨rfl, _⟩ | ⟨g, cap, cur, rfl, hg, _⟩
  · cases hb
  · injection hb with hb
    subst hb
    exact hg

theorem byteInfo : (Tryz.prog.info? 5).map (fun i => (i.zero, i.size, i.bytes)) = some (some (.int .u8 0), 1, 1) := by kernel_rfl

/-- What stands when j of the eight are there. -/
def endP (n j : Nat) : List UInt8 := 128 :: (List.replicate ((119 - n % 64) % 64) 0 ++ (be8 (8 * n)).take j)
theorem endP_all (n : Nat) : endP n 8 = ending n := by
  unfold endP ending
  rw [List.take_of_length_le (by rw [be8_length]; omega)]
  rfl
theorem endP_length (n j : Nat) (h : j ≤ 8) : (endP n j).length = 1 + (119 - n % 64) % 64 + j := by
  unfold endP
  simp [be8_length]
  omega
theorem be8_at (m j : Nat) (h : j < 8) : ∃ b : UInt8, (be8 m)[j]? = some b ∧ (b.toNat : Int) = ((m : Int) / 2 ^ (56 - 8 * j)) % 256 := by
  have : j = 0 ∨ j = 1 ∨ j = 2 ∨ j = 3 ∨ j = 4 ∨ j = 5 ∨ j = 6 ∨ j = 7 := by omega
  rcases this with rfl | rfl | rfl | rfl | rfl | rfl | rfl | rfl <;> refine ⟨_, rfl, ?_⟩ <;> simp <;> omega
theorem endP_step (n j : Nat) (b : UInt8) (h : (be8 (8 * n))[j]? = some b) : endP n (j + 1) = endP n j ++ [b] := by
  unfold endP
  rw [List.take_add_one, h]
  simp

set_option maxRecDepth 100000 in
set_option maxHeartbeats 1000000 in
theorem ending_calls (n : Nat) (hn : n < 2305843009213693952) (w : World) :
    Calls Tryz.prog 178 #[.int .u64 n] w fun en w' => en = .returned (.string ⟨(ending n).toArray⟩) ∧ Below w.heap.size w w' := by
  have hn2 : (n : Int) < 2305843009213693952 := by omega
  obtain ⟨z, hz⟩ : ∃ z, z = (119 - n % 64) % 64 := ⟨_, rfl⟩
  have hz64 : (z : Int) < 64 := by omega
  have e1 : (119 - (n : Int) % 64) % 64 = (z : Int) := by omega
  have HZ := Lib.hid hz
  have HE1 := Lib.hid e1
  clear hz e1
  obtain ⟨i0, hi0, e⟩ := Option.map_eq_some_iff.1 byteInfo
  simp only [Prod.mk.injEq] at e
  obtain ⟨hz0, hz1, hz2⟩ := e
  obtain ⟨W1, hmk, hH, hB, hg⟩ : ∃ W1, (Instr.makeSlice 150 (.int .i64 (1 + (119 - (n : Int)) % 64)) (.int .i64 (1 + (119 - (n : Int)) % 64))).run Tryz.prog w = .ok (.slice (some ⟨w.heap.size, 0, none⟩) (z + 1) (z + 1)) W1 ∧
      Has W1 w.heap.size 5 (((List.replicate (z + 1) 0).map byteV).toArray) ∧ Below w.heap.size w W1 ∧ w.heap.size < W1.heap.size := by
    rw [show 1 + (119 - (n : Int)) % 64 = 1 + (z : Int) by have h1 := HZ.out; omega]
    have h := run_make (P := Tryz.prog) w 150 5 i0 (.int .u8 0) Tryz.underlying150 hi0 hz0 .i64 .i64 (1 + (z : Int)) (1 + (z : Int)) (by omega) (by omega) (by rw [hz2]; omega) (by omega)
    rw [show (1 + (z : Int)).toNat = z + 1 by omega, hz1, Nat.mul_one] at h
    refine ⟨_, h, ?_, (Below.refl _ _).alloc (Nat.le_refl _) _, by simp⟩
    refine made_at _ _ rfl |>.keep ?_
    have e : madeCells (Value.int .u8 0).cells (z + 1) = ((List.replicate (z + 1) (0 : UInt8)).map byteV).toArray := by
      apply Array.toList_inj.1
      show (madeCells #[Value.int .u8 0] (z + 1)).toList = _
      rw [toList_madeCells_one]
      simp [byteV]
    rw [e]
  obtain ⟨cs, hcs⟩ : ∃ cs, cs = (((List.replicate (z + 1) 0).map byteV).toArray) := ⟨_, rfl⟩
  rw [← hcs] at hH
  have c0 : W1.cell? ⟨w.heap.size, 0, none⟩ = some (.int .u8 0) := by
    rw [hH.cell, hcs]
    rfl
  have f0 : W1.frozen? ⟨w.heap.size, 0, none⟩ = false := hH.free 0
  have HH := Lib.hid hH
  have HB := Lib.hid hB
  have HG := Lib.hid hg
  have HCS := Lib.hid hcs
  have HI := Lib.hid hi0
  have HZ0 := Lib.hid hz0
  have HZ1 := Lib.hid hz1
  have HZ2 := Lib.hid hz2
  clear hi0 hz0 hz1 hz2 hH hB hg hcs
  generalize w.heap.size = g at *
  go_enter Tryz.func178, Tryz.ntmps178
  go_wp2_with fail
  go_name_world W2 hW2
  have O0 : Hid (W2.ownsRow g 5 1 (.slice (some ⟨g, 0, none⟩) (z + 1) (z + 1)) (z + 1 + 0) ((endP n 0).map byteV)) := by
    show World.ownsRow _ _ _ _ _ _ _
    have hp := HH.out.put 0 (.int .u8 128)
    rw [hW2] at hp
    refine ⟨by rw [List.length_map, endP_length n 0 (by omega), ← HZ.out]; omega, .inr ⟨g, z + 1, _, rfl, Nat.le_refl _, hp, by omega, by unfold maxLen; omega, ?_, ?_⟩⟩
    · rw [HCS.out]; simp
    · rw [HCS.out]
      unfold endP
      rw [← HZ.out]
      simp [List.replicate_succ, byteV]
  have B2 : Hid (Below g w W2) := by show Below _ _ _; rw [← hW2]; exact HB.out.setCell (by simp) _
  have G2 : Hid (g ≤ W2.heap.size) := by show _ ≤ _; rw [← hW2]; have := HG.out; simp [World.setCell]; omega
  clear hW2 c0 f0 HH HB HG HCS hmk
  generalize (119 - (n : Int)) % 64 = q1
  generalize (n : Int) % 64 = q0
  generalize 119 - q0 = q2
  generalize q2 % 64 = q3
  go_loopw [4, 5] (fun v i wr => ∃ (j : Nat) (sh : Int), i = .int .i64 sh ∧ -8 ≤ sh ∧ sh ≤ 56 ∧ Hid (sh = 56 - 8 * (j : Int)) ∧ Hid (wr.ownsRow g 5 1 v (z + 1 + j) ((endP n j).map byteV)) ∧ Hid (Below g w wr) ∧ Hid (g ≤ wr.heap.size)) (fun _ i _ => (intOf i + 8).toNat)
  case atStart => exact ⟨0, 56, rfl, by omega, by omega, by show _ = _; omega, O0, B2, G2⟩
  case round =>
    obtain ⟨j, sh, rfl, hs1, hs2, HJ, HO, HB, HG⟩ := hrel
    clear O0 B2 G2
    by_cases h8 : 0 ≤ sh
    · have hj8 : j < 8 := by have := HJ.out; omega
      obtain ⟨b, hb, eb⟩ := be8_at (8 * n) j hj8
      have hE : 8 * (n : Int) / 2 ^ sh.toNat % 256 = (b.toNat : Int) := by
        rw [eb, show sh.toNat = 56 - 8 * j by have := HJ.out; omega]
        simp
      have HES := Lib.hid (endP_step n j b hb)
      have HEB := Lib.hid hE
      clear hE eb hb
      go_wp2_with (at_builtin; refine wpList_append_own _ rfl (.tmp 20) (.tmp 26) 150 rfl g 5 i0 (.int .u8 0) 1 1 Tryz.underlying150 HI.out HZ0.out HZ1.out HZ2.out rfl (by decide) u4 (z + 1 + j) _ rfl (by exact HO.out.alloc _) ⟨wr.heap.size, 0, none⟩ 1 1 [.int .u8 (8 * (n : Int) / 2 ^ sh.toNat % 256)] rfl rfl (by exact World.news_of_block (heap_alloc_new _ _)) (by simp [Value.oneCell']) (by unfold maxLen; omega) (by omega) (by simp; have := HG.out; omega) ?_)
      intro v' w' hown hgr _
      have e1 : List.map byteV (endP n j) ++ [Value.int .u8 (8 * (n : Int) / 2 ^ sh.toNat % 256)] = List.map byteV (endP n (j + 1)) := by
        rw [HES.out, List.map_append, HEB.out]
        rfl
      rw [e1] at hown
      have HO2 : Hid (w'.ownsRow g 5 1 v' (z + 1 + (j + 1)) ((endP n (j + 1)).map byteV)) := hown
      have HB1 : Below g w (wr.alloc (.cells #[.int .u8 (8 * (n : Int) / 2 ^ sh.toNat % 256)] 5)) := HB.out.alloc HG.out _
      have HB2 : Hid (Below g w w') := by
        refine Lib.hid (HB1.trans ⟨hgr.os, hgr.tape, hgr.output, hgr.size, fun k hk => hgr.block k (by simp; have := HG.out; omega) (fun e => ?_)⟩)
        have := own_base HO.out e.symm
        omega
      have HG2 : Hid (g ≤ w'.heap.size) := Lib.hid (by have h1 := hgr.size; have h2 := HG.out; simp at h1; omega)
      clear hown hgr e1 HB1
      go_wp2_with fail
      refine ⟨⟨j + 1, sh - 8, rfl, by omega, by omega, ?_, HO2, HB2, HG2⟩, ?_⟩
      · show sh - 8 = 56 - 8 * ((j + 1 : Nat) : Int)
        have := HJ.out
        omega
      · show (sh - 8 + 8).toNat < (sh + 8).toNat
        omega
    · obtain rfl : j = 8 := by have := HJ.out; omega
      have ht := own_str (P := Tryz.prog) wr g 150 9 5 Tryz.underlying150 Tryz.underlying5 Tryz.underlying9 HO.out
      go_wp2_with fail
      go_ret
      exact ⟨by rw [← endP_all]; rfl, HB.out⟩
end Go.Proofs.YtcdedkgkingbdaaGreatDoor.dig
end

section
/- digest: New, Sum. -/
namespace Go.Proofs.YtcdedkgkingbdaaGreatDoor.dig
open Go Go.RowKit

def NewPost (w : World) (en : Ending) (w' : World) : Prop := ∃ h, en = .returned (.pointer (some ⟨h, 0, none⟩)) ∧ Ax w h [] w' ∧ Below w.heap.size w w' ∧ w.heap.size ≤ h ∧ h < w'.heap.size

set_option maxRecDepth 100000 in
set_option maxHeartbeats 1000000 in
theorem new_calls (w : World) (hR : Rk w) : Calls Tryz.prog 152 #[] w fun en w' => NewPost w en w' := by
  have HR := Lib.hid hR
  have HL := Lib.hid hR.lt
  clear hR
  go_enter Tryz.func152, Tryz.ntmps152
  go_wp2_with fail
  go_ret
  have hb := (Below.refl w.heap.size w).alloc (Nat.le_refl _) (.cells (hcells start8.list (List.replicate 64 0) 0) 318)
  exact ⟨w.heap.size, rfl, ⟨⟨List.replicate 64 0, by simp, rfl, made_at _ _ rfl⟩, HR.out.below hb, by have := HL.out; omega, grown_below hb _ (Nat.le_refl _)⟩, hb, Nat.le_refl _, by simp⟩

section
variable {P : Program}
/-- A whole row of cells is stored: its block behind it, in a world that is a letter. -/
theorem wpList_store_cells {w : World} {ops : Array Oper} {rest : List Oper} {o : Oper} {a : Act} {Q : Exit → Act → World → Prop} (hgd : o.guard = none) (ty : TypeId) (x y : Operand) (ho : o.op = .store ty x y)
    (g : Nat) (cs old : Array Value) (hx : a.eval x = .pointer (some ⟨g, 0, none⟩)) (hy : a.eval y = .agg cs)
    (t : TypeId) (hg : Has w g t old) (hi : (P.info? ty).map (·.size) = some cs.size) (hn : old.size = cs.size) (h1 : cs.all (·.oneCell') = true)
    (h : ∀ w', Has w' g t cs → Turn (fun k => k = g) w w' → wpList P ops Q rest (a.put o.dst undef) w') : wpList P ops Q (o :: rest) a w :=
  wpList_store_row hgd ty x y ho g cs hx hy t old hg hi hn h1 (h _ (hg.row _) (turn_row _ _ _))
end

/-- The first m bytes of a sum. -/
def sumP (L : List Int) (m : Nat) : List UInt8 := (L.flatMap by4).take m ++ List.replicate (32 - m) 0
theorem sumP_length (L : List Int) (m : Nat) (hL : L.length = 8) (hm : m ≤ 32) : (sumP L m).length = 32 := by
  unfold sumP
  rw [List.length_append, List.length_take, flat4, hL, List.length_replicate]
  omega
theorem by4_at (x : Int) (j : Nat) (hx : W x) (h : j < 4) : ∃ b : UInt8, (by4 x)[j]? = some b ∧ (b.toNat : Int) = x / 2 ^ (24 - 8 * j) % 256 := by
  obtain ⟨a, rfl⟩ := Int.eq_ofNat_of_zero_le hx.1
  have hx2 := hx.2
  have : j = 0 ∨ j = 1 ∨ j = 2 ∨ j = 3 := by omega
  rcases this with rfl | rfl | rfl | rfl <;> refine ⟨_, rfl, ?_⟩ <;> simp <;> omega
theorem flat_at : ∀ (L : List Int) (k j : Nat) (x : Int) (b : UInt8), L[k]? = some x → (by4 x)[j]? = some b → (L.flatMap by4)[4 * k + j]? = some b
  | [], k, j, x, b, h, _ => by simp at h
  | y :: t, 0, j, x, b, h, hb => by
    have hj : j < 4 := (List.getElem?_eq_some_iff.1 hb).1
    simp at h
    subst h
    rw [List.flatMap_cons, Nat.mul_zero, Nat.zero_add, List.getElem?_append_left (by rw [by4_length]; exact hj), hb]
  | y :: t, k + 1, j, x, b, h, hb => by
    simp at h
    rw [List.flatMap_cons, List.getElem?_append_right (by rw [by4_length]; omega), by4_length, show 4 * (k + 1) + j - 4 = 4 * k + j by omega]
    exact flat_at t k j x b h hb
theorem sumP_step (L : List Int) (m : Nat) (b : UInt8) (hL : L.length = 8) (hm : m < 32) (hb : (L.flatMap by4)[m]? = some b) : (sumP L m).set m b = sumP L (m + 1) := by
  have hl : ((L.flatMap by4).take m).length = m := by rw [List.length_take, flat4, hL]; omega
  unfold sumP
  rw [List.set_append_right _ _ (by omega), hl, Nat.sub_self, show 32 - m = (32 - (m + 1)) + 1 by omega, List.replicate_succ, List.set_cons_zero, List.take_add_one, hb]
  simp
theorem cellsOf_set (xs : List UInt8) (i : Nat) (b : UInt8) : (cellsOf xs).setIfInBounds i (byteV b) = cellsOf (xs.set i b) := by
  unfold cellsOf
  rw [List.map_set]
  simp
theorem hcells_one (ws : List Int) (bs : List UInt8) (n : Nat) : (hcells ws bs n).all (·.oneCell') = true := by
  rw [Array.all_eq_true_iff_forall_mem]
  intro v hv
  simp [hcells] at hv
  rcases hv with ⟨c, _, rfl⟩ | ⟨c, _, rfl⟩ | rfl <;> rfl
theorem hcells_size (ws : List Int) (bs : List UInt8) (n : Nat) : (hcells ws bs n).size = ws.length + (bs.length + 1) := by simp [hcells]

set_option maxRecDepth 100000 in
set_option maxHeartbeats 1000000 in
theorem sum_calls (h : Nat) (xs : List UInt8) (w : World) (H : Hs w h xs) (hR : Rk w) (hn : xs.length < 1152921504606846976) :
    Calls Tryz.prog 154 #[.pointer (some ⟨h, 0, none⟩)] w fun en w' => en = .returned (.agg (cellsOf (sum xs))) ∧ Below w.heap.size w w' := by
  obtain ⟨bs, hb, ht, hB⟩ := H
  have hl : (wd xs (xs.length / 64)).list.length = 8 := rfl
  generalize hws : (wd xs (xs.length / 64)).list = ws at *
  have HWS := Lib.hid hws
  have HT := Lib.hid ht
  have HR := Lib.hid hR
  have HL := Lib.hid hR.lt
  have HB := Lib.hid hB
  have HN := Lib.hid hn
  have hsz : (hcells ws bs xs.length).size = 73 := by rw [hcells_size, hl, hb]
  have HSZ := Lib.hid hsz
  have HLW := Lib.hid hl
  have HLB := Lib.hid hb
  generalize hnn : xs.length = n at *
  have HNN := Lib.hid hnn
  clear ht hR hB hn hws hsz hl hb hnn
  go_enter Tryz.func154, Tryz.ntmps154
  go_wp2_with (first
    | ((with_reducible refine at_op 10 ?_); refine wpList_load_row (o := ⟨some 10, _, _, _, _, _⟩) rfl 318 _ rfl h rfl _ (hcells ws bs n) (0, 0) _ (HB.out.alloc _) Tryz.underlying318 rfl (by rw [HSZ.out]; kernel_rfl) ?_)
    | (refine wpList_store_cells (o := ⟨none, _, _, _, _, _⟩) rfl 318 _ _ rfl (w.heap.size + 1) (hcells ws bs n) Tryz.zeroCells318 rfl rfl _ (made_at _ _ (by simp)) (by rw [HSZ.out]; kernel_rfl) (by rw [HSZ.out]; kernel_rfl) (hcells_one _ _ _) ?_; intro W2 HW2 TW2;
       (have hz := ((made_at 84 (cellsOf (List.replicate 32 0)) rfl : Has (w.alloc _) w.heap.size _ _).alloc (.cells Tryz.zeroCells318 318)).turn TW2 (by omega));
       (have hb2 : Below w.heap.size w W2 := (((Below.refl w.heap.size w).alloc (Nat.le_refl _) _).alloc (by simp) _).trans (TW2.below (by simp; omega) (fun j hj e => by omega)));
       (have hh := HB.out.lt);
       (have c72 : W2.cell? ⟨h, 72, none⟩ = some (.int .u64 n) := ((HB.out.below hb2 hh).cell 72).trans (hcells_n HLW.out HLB.out));
       (have h2s := TW2.size);
       (have H2 : Hid (Has W2 w.heap.size 84 (cellsOf (List.replicate 32 0)) ∧ Has W2 (w.heap.size + 1) 318 (hcells ws bs n) ∧ Below w.heap.size w W2 ∧ w.heap.size + 1 < W2.heap.size) := Lib.hid ⟨hz, HW2, hb2, by simp at h2s; omega⟩);
       clear HW2 TW2 hz hb2 hh h2s)
    | fail)
  have hn := HN.out
  refine (ending_calls n (by omega) W2).mono ?_
  rintro en w3 ⟨rfl, b3⟩
  have A3 : Hid (Ax w3 (w.heap.size + 1) xs w3 ∧ Has w3 w.heap.size 84 (cellsOf (List.replicate 32 0)) ∧ Below w.heap.size w w3 ∧ w.heap.size + 1 < w3.heap.size) := by
    obtain ⟨k1, k2, k3, k4⟩ := H2.out
    refine Lib.hid ⟨⟨⟨bs, HLB.out, ?_, ?_⟩, HR.out.below (k3.trans (b3.mono k3.size)), by have := HL.out; omega, grown_refl _ _⟩, k1.below b3 k1.lt, k3.trans (b3.mono k3.size), by have := b3.size; omega⟩
    · rw [HNN.out]; exact HT.out
    · rw [HNN.out, HWS.out]; exact k2.below b3 k2.lt
  clear b3 H2 hn c72
  go_wp2_with fail
  have hfl : Hid ((⟨(ending n).toArray⟩ : ByteArray).data.toList = ending n) := by show _ = _; simp
  refine (add_calls (w.heap.size + 1) xs ⟨(ending n).toArray⟩ w3 A3.out.1 (by
    have h1 : (⟨(ending n).toArray⟩ : ByteArray).size = (ending n).length := by simp [ByteArray.size]
    rw [h1, ending_length, HNN.out]
    have := HN.out
    omega)).mono ?_
  rintro en w4 ⟨rfl, hax⟩
  have hfull : xs ++ (⟨(ending n).toArray⟩ : ByteArray).data.toList = full xs := by rw [hfl.out]; unfold full; rw [HNN.out]
  rw [hfull] at hax
  have A4 : Hid (Has w4 (w.heap.size + 1) 318 (hcells (wd (full xs) ((full xs).length / 64)).list (hax.st.choose) (full xs).length) ∧ Has w4 w.heap.size 84 (cellsOf (List.replicate 32 0)) ∧ Below w.heap.size w w4 ∧ w.heap.size + 1 < w4.heap.size) := by
    obtain ⟨k1, k2, k3, k4⟩ := A3.out
    refine Lib.hid ⟨hax.st.choose_spec.2.2, k2.grown hax.turn (fun e => by injection e; omega), k3.trans (below_grown hax.turn (by omega) k3.size), by have := hax.turn.size; omega⟩
  generalize hax.st.choose = bs4 at *
  clear hfull hfl A3 hax
  generalize hL : (wd (full xs) ((full xs).length / 64)).list = L at *
  have hLL : L.length = 8 := by rw [← hL]; rfl
  have HLL := Lib.hid hLL
  have HLE := Lib.hid hL
  have HLWW : Hid (∀ x ∈ L, W x) := by show ∀ _, _; rw [← hL]; exact W_wd _ _
  clear hL hLL
  have r4 : ∀ O, (w4.alloc O).rangeAt (w.heap.size + 1) 0 (L.map wordV) := fun O j v hv => by
    rw [Nat.zero_add, (A4.out.1.alloc O).cell]
    rw [List.getElem?_map] at hv
    cases hq : L[j]? with
    | none => rw [hq] at hv; cases hv
    | some x =>
      rw [hq] at hv
      injection hv with hv
      rw [← hv]
      exact hcells_word hq
  have R4 := Lib.hid r4
  clear r4
  go_wp2_with (first
    | ((with_reducible refine at_op 18 ?_); refine wpList_load_mid (op := ⟨some 18, _, _, _, _, _⟩) rfl 315 _ rfl (w.heap.size + 1) 0 rfl (L.map wordV) _ (R4.out _) Tryz.underlying315 rfl (by rw [List.length_map, HLL.out]; kernel_rfl) ?_)
    | fail)
  go_name_world W5 hW5
  have S5 : Hid (Has W5 w4.heap.size 84 (cellsOf (sumP L 0)) ∧ Has W5 w.heap.size 84 (cellsOf (List.replicate 32 0)) ∧ Below w.heap.size w W5) := by
    obtain ⟨k1, k2, k3, k4⟩ := A4.out
    rw [← hW5]
    exact Lib.hid ⟨made_at _ _ rfl, k2.alloc _, k3.alloc (by omega) _⟩
  have HGS : Hid (w.heap.size < w4.heap.size) := Lib.hid (by have := A4.out.2.2.2; omega)
  clear hW5 A4 R4
  generalize w4.heap.size = g at *
  go_loopw [19] (fun i wr => ∃ k : Nat, i = .int .i64 k ∧ k ≤ 8 ∧ Hid (Has wr g 84 (cellsOf (sumP L (4 * k))) ∧ Has wr w.heap.size 84 (cellsOf (List.replicate 32 0)) ∧ Below w.heap.size w wr)) (fun i _ => 8 - (intOf i).toNat)
  case atStart => exact ⟨0, rfl, by omega, S5⟩
  case round =>
    obtain ⟨k, rfl, hk, HS⟩ := hrel
    clear S5
    by_cases h8 : k < 8
    · have hk1 : (k : Int) < 8 := by omega
      obtain ⟨x, hx⟩ : ∃ x, L[k]? = some x := ⟨_, List.getElem?_eq_getElem (by rw [HLL.out]; exact h8)⟩
      have hxW : W x := HLWW.out x (List.mem_of_getElem? hx)
      have hidx : ∀ w, (Instr.index 315 (.agg (L.map wordV).toArray) (.int .i64 k)).run Tryz.prog w = .ok (.int .u32 x) w :=
        run_index_arr 315 291 8 _ .i64 k _ Tryz.underlying315 (by kernel_rfl) (by kernel_rfl) h8 (wordsOf_at L k x hx)
      have hx0 := hxW.1
      have hx1 := hxW.2
      have HX := Lib.hid hx
      have HXW := Lib.hid hxW
      clear hx hxW
      go_wp2_with fail
      go_loopw [23] (fun i wr => ∃ j : Nat, i = .int .i64 j ∧ j ≤ 4 ∧ Hid (Has wr g 84 (cellsOf (sumP L (4 * k + j))) ∧ Has wr w.heap.size 84 (cellsOf (List.replicate 32 0)) ∧ Below w.heap.size w wr)) (fun i _ => 4 - (intOf i).toNat)
      case atStart => exact ⟨0, rfl, by omega, HS⟩
      case round =>
        obtain ⟨j, rfl, hj, HS⟩ := hrel
        by_cases h4 : j < 4
        · have hj1 : (j : Int) < 4 := by omega
          have hj0 : (0 : Int) ≤ (j : Int) := by omega
          have hk0 : (0 : Int) ≤ (k : Int) := by omega
          obtain ⟨b, hb, eb⟩ := by4_at x j HXW.out h4
          have hfa := flat_at L k j x b HX.out hb
          have hst := sumP_step L (4 * k + j) b HLL.out (by omega) hfa
          obtain ⟨v0, c0⟩ : ∃ v, wr.cell? ⟨g, 4 * k + j, none⟩ = some v := by
            rw [HS.out.1.cell]
            exact ⟨_, Array.getElem?_eq_getElem (by rw [cellsOf_size, sumP_length L _ HLL.out (by omega)]; omega)⟩
          have f0 : wr.frozen? ⟨g, 4 * k + j, none⟩ = false := HS.out.1.free _
          have HEB := Lib.hid eb
          have HST := Lib.hid hst
          clear hb eb hfa hst
          go_wp2_with fail
          refine ⟨⟨j + 1, by rw [Int.natCast_add]; rfl, by omega, ?_⟩, ?_⟩
          · rw [← HEB.out]
            obtain ⟨k1, k2, k3⟩ := HS.out
            refine ⟨?_, k2.far (p := ⟨g, 4 * k + j, none⟩) (by have := HGS.out; simp; omega) _, k3.setCell (by have := HGS.out; simp; omega) _⟩
            have e := k1.put (4 * k + j) (byteV b)
            rw [cellsOf_set, HST.out] at e
            exact e
          · show 4 - ((j : Int) + 1).toNat < 4 - ((j : Int)).toNat
            omega
        · obtain rfl : j = 4 := by omega
          go_wp2_with fail
          refine ⟨⟨k + 1, by rw [Int.natCast_add]; rfl, by omega, by rw [show 4 * (k + 1) = 4 * k + 4 by omega]; exact HS⟩, ?_⟩
          show 8 - ((k : Int) + 1).toNat < 8 - ((k : Int)).toNat
          omega
    · obtain rfl : k = 8 := by omega
      have hfin : sumP L (4 * 8) = sum xs := by
        unfold sumP sum
        rw [HLE.out, List.take_of_length_le (by rw [flat4, HLL.out]; omega)]
        simp
      have HS2 : Hid (Has wr g 84 (cellsOf (sum xs)) ∧ Has wr w.heap.size 84 (cellsOf (List.replicate 32 0)) ∧ Below w.heap.size w wr) := by rw [← hfin]; exact HS
      clear HS hfin
      go_wp2_with (first
        | ((with_reducible refine at_op 39 ?_); refine wpList_load_arr (o := ⟨some 39, _, _, _, _, _⟩) rfl 84 _ rfl g rfl _ (sum xs) 5 32 HS2.out.1 Tryz.underlying84 (by kernel_rfl) (sum_length xs) ?_)
        | (refine wpList_store_arr (o := ⟨none, _, _, _, _, _⟩) rfl 84 _ _ rfl w.heap.size (sum xs) (List.replicate 32 0) rfl rfl _ HS2.out.2.1 32 (by kernel_rfl) (by simp) (sum_length xs) ?_; intro W6 HW6 TW6)
        | fail)
      exact bodyPost_ret (v := .agg (cellsOf (sum xs))) (results_cell_row rfl _ _ w.heap.size 84 _ _ _ rfl HW6 Tryz.underlying84 rfl (by rw [cellsOf_size, sum_length]; kernel_rfl)) rfl
        ⟨rfl, HS2.out.2.2.trans (TW6.below HS2.out.2.2.size (fun j hj e => by omega))⟩
end Go.Proofs.YtcdedkgkingbdaaGreatDoor.dig
end

section
/- digest: sumOf, Of, Leaf. -/
namespace Go.Proofs.YtcdedkgkingbdaaGreatDoor.dig
open Go Go.RowKit

def cat (ps : List ByteArray) : List UInt8 := ps.flatMap fun s => s.data.toList
theorem cat_take (ps : List ByteArray) (k : Nat) (s : ByteArray) (h : ps[k]? = some s) : cat (ps.take (k + 1)) = cat (ps.take k) ++ s.data.toList := by
  unfold cat
  rw [List.take_add_one, h]
  simp
theorem cat_le (ps : List ByteArray) (k : Nat) (s : ByteArray) (h : ps[k]? = some s) : (cat (ps.take k)).length + s.size ≤ (cat ps).length := by
  have e : cat ps = cat (ps.take (k + 1)) ++ cat (ps.drop (k + 1)) := by
    unfold cat
    rw [← List.flatMap_append, List.take_append_drop]
  rw [e, cat_take ps k s h, List.length_append, List.length_append]
  have : s.data.toList.length = s.size := by simp
  omega

set_option maxRecDepth 100000 in
set_option maxHeartbeats 1000000 in
theorem sumOf_calls (b len cap : Nat) (ps : List ByteArray) (w : World) (hc : ∀ i s, ps[i]? = some s → w.cell? ⟨b, i, none⟩ = some (.string s)) (hb : b < w.heap.size) (hl : ps.length = len) (hlm : len ≤ 1000) (hR : Rk w) (hn : (cat ps).length < 1152921504606846976) :
    Calls Tryz.prog 110 #[.slice (some ⟨b, 0, none⟩) len cap] w fun en w' => en = .returned (.agg (cellsOf (sum (cat ps)))) ∧ Below w.heap.size w w' := by
  have HC := Lib.hid hc
  have HL := Lib.hid hl
  have HN := Lib.hid hn
  have HR0 := Lib.hid hR
  have hlm2 : (len : Int) ≤ 1000 := by omega
  clear hc hl hn hR
  go_enter Tryz.func110, Tryz.ntmps110
  go_wp2_with fail
  refine callsName (fun W hW => ?_)
  have B0 : Below w.heap.size w W := by rw [← hW]; exact (Below.refl _ _).alloc (Nat.le_refl _) _
  have Z0 : Has W w.heap.size 84 (cellsOf (List.replicate 32 0)) := by rw [← hW]; exact made_at _ _ rfl
  clear hW
  refine (new_calls W (HR0.out.below B0)).mono ?_
  rintro en w1 ⟨h, rfl, hax, hb1, hle, hlt⟩
  have S1 : Hid (Hs w1 h [] ∧ Rk w1 ∧ Below w.heap.size w w1 ∧ Has w1 w.heap.size 84 (cellsOf (List.replicate 32 0)) ∧ h < w1.heap.size) :=
    Lib.hid ⟨hax.st, hax.rk, B0.trans (hb1.mono B0.size), Z0.below hb1 Z0.lt, hlt⟩
  have HH : Hid (w.heap.size < h ∧ h ≠ 3) := Lib.hid ⟨by have := Z0.lt; omega, hax.hne⟩
  clear hax hb1 hle hlt B0 Z0
  go_wp2_with fail
  go_loopw [9] (fun i wr => ∃ k : Nat, i = .int .i64 k ∧ k ≤ len ∧ Hid (Hs wr h (cat (ps.take k)) ∧ Rk wr ∧ Below w.heap.size w wr ∧ Has wr w.heap.size 84 (cellsOf (List.replicate 32 0)) ∧ h < wr.heap.size)) (fun i _ => len - (intOf i).toNat)
  case atStart => exact ⟨0, rfl, by omega, S1⟩
  case round =>
    obtain ⟨k, rfl, hk, HS⟩ := hrel
    clear S1
    by_cases hkl : k < len
    · have hk1 : (k : Int) < (len : Int) := by omega
      have hk0 : (0 : Int) ≤ (k : Int) := by omega
      obtain ⟨s, hs⟩ : ∃ s, ps[k]? = some s := ⟨_, List.getElem?_eq_getElem (by rw [HL.out]; exact hkl)⟩
      have c0 : wr.cell? ⟨b, k, none⟩ = some (.string s) := by
        rw [← HC.out k s hs]
        unfold World.cell?
        rw [HS.out.2.2.1.block b hb]
      have HSS := Lib.hid hs
      clear hs
      go_wp2_with fail
      refine (add_calls h (cat (ps.take k)) s wr ⟨HS.out.1, HS.out.2.1, HH.out.2, grown_refl _ _⟩ (by have := cat_le ps k s HSS.out; have := HN.out; omega)).mono ?_
      rintro en w2 ⟨rfl, hax⟩
      rw [← cat_take ps k s HSS.out] at hax
      have S2 : Hid (Hs w2 h (cat (ps.take (k + 1))) ∧ Rk w2 ∧ Below w.heap.size w w2 ∧ Has w2 w.heap.size 84 (cellsOf (List.replicate 32 0)) ∧ h < w2.heap.size) := by
        obtain ⟨k1, k2, k3, k4, k5⟩ := HS.out
        have h1 := HH.out.1
        exact Lib.hid ⟨hax.st, hax.rk, k3.trans (below_grown hax.turn (by omega) k3.size), k4.grown hax.turn (fun e => by injection e; omega), by have := hax.turn.size; omega⟩
      clear hax HS c0
      go_wp2_with fail
      refine ⟨⟨k + 1, by rw [Int.natCast_add]; rfl, by omega, S2⟩, ?_⟩
      show len - ((k : Int) + 1).toNat < len - ((k : Int)).toNat
      omega
    · obtain rfl : k = len := by omega
      have e1 : ps.take k = ps := List.take_of_length_le (by rw [HL.out]; exact Nat.le_refl _)
      have HS2 : Hid (Hs wr h (cat ps) ∧ Rk wr ∧ Below w.heap.size w wr ∧ Has wr w.heap.size 84 (cellsOf (List.replicate 32 0)) ∧ h < wr.heap.size) := by rw [← e1] ; exact HS
      clear e1 HS
      go_wp2_with fail
      refine (sum_calls h (cat ps) wr HS2.out.1 HS2.out.2.1 HN.out).mono ?_
      rintro en w5 ⟨rfl, b5⟩
      have S5 : Hid (Has w5 w.heap.size 84 (cellsOf (List.replicate 32 0)) ∧ Below w.heap.size w w5) :=
        Lib.hid ⟨HS2.out.2.2.2.1.below b5 HS2.out.2.2.2.1.lt, HS2.out.2.2.1.trans (b5.mono HS2.out.2.2.1.size)⟩
      clear b5 HS2
      go_wp2_with (first
        | (refine wpList_store_arr (o := ⟨none, _, _, _, _, _⟩) rfl 84 _ _ rfl w.heap.size (sum (cat ps)) (List.replicate 32 0) rfl rfl _ S5.out.1 32 (by kernel_rfl) (by simp) (sum_length _) ?_; intro W6 HW6 TW6)
        | fail)
      exact bodyPost_ret (v := .agg (cellsOf (sum (cat ps)))) (results_cell_row rfl _ _ w.heap.size 84 _ _ _ rfl HW6 Tryz.underlying84 rfl (by rw [cellsOf_size, sum_length]; kernel_rfl)) rfl
        ⟨rfl, S5.out.2.trans (TW6.below S5.out.2.size (fun j hj e => by omega))⟩

set_option maxRecDepth 100000 in
set_option maxHeartbeats 1000000 in
theorem of_calls (s : ByteArray) (w : World) (hR : Rk w) (hn : s.size < 1000000000000000000) :
    Calls Tryz.prog 72 #[.string s] w fun en w' => en = .returned (.agg (cellsOf (sum s.data.toList))) ∧ Below w.heap.size w w' := by
  have HR0 := Lib.hid hR
  have HN := Lib.hid hn
  clear hR hn
  have hcat : cat [s] = s.data.toList := by simp [cat]
  go_enter Tryz.func72, Tryz.ntmps72
  go_wp2_with fail
  refine callsName (fun W hW => ?_)
  have B0 : Below w.heap.size w W := by rw [← hW]; exact ((Below.refl _ _).alloc (Nat.le_refl _) _).alloc (by simp) _
  have Z0 : Has W w.heap.size 84 (cellsOf (List.replicate 32 0)) := by rw [← hW]; exact Has.alloc (made_at _ _ rfl) _
  have P0 : Has W (w.heap.size + 1) 9 #[.string s] := by rw [← hW]; exact made_at _ _ (by simp)
  clear hW
  refine (sumOf_calls (w.heap.size + 1) 1 1 [s] W (fun i t ht => ?_) P0.lt rfl (by omega) (HR0.out.below B0) (by rw [hcat]; have := HN.out; simp; omega)).mono ?_
  · rw [P0.cell]
    cases i with
    | zero => simp at ht; subst ht; rfl
    | succ i => simp at ht
  rw [hcat]
  rintro en w5 ⟨rfl, b5⟩
  have S5 : Hid (Has w5 w.heap.size 84 (cellsOf (List.replicate 32 0)) ∧ Below w.heap.size w w5) :=
    Lib.hid ⟨Z0.below b5 Z0.lt, B0.trans (b5.mono B0.size)⟩
  clear b5 B0 Z0 P0 hcat
  go_wp2_with (first
    | (refine wpList_store_arr (o := ⟨none, _, _, _, _, _⟩) rfl 84 _ _ rfl w.heap.size (sum s.data.toList) (List.replicate 32 0) rfl rfl _ S5.out.1 32 (by kernel_rfl) (by simp) (sum_length _) ?_; intro W6 HW6 TW6)
    | fail)
  exact bodyPost_ret (v := .agg (cellsOf (sum s.data.toList))) (results_cell_row rfl _ _ w.heap.size 84 _ _ _ rfl HW6 Tryz.underlying84 rfl (by rw [cellsOf_size, sum_length]; kernel_rfl)) rfl
    ⟨rfl, S5.out.2.trans (TW6.below S5.out.2.size (fun j hj e => by omega))⟩

/-- A leaf's sum. -/
def leafS (xs : List UInt8) : List UInt8 := sum (0 :: xs)
/-- A node's. -/
def nodeS (a b : List UInt8) : List UInt8 := sum (1 :: (a ++ b))
theorem leafS_length (xs : List UInt8) : (leafS xs).length = 32 := sum_length _
theorem nodeS_length (a b : List UInt8) : (nodeS a b).length = 32 := sum_length _

set_option maxRecDepth 100000 in
set_option maxHeartbeats 1000000 in
theorem leaf_calls (s : ByteArray) (w : World) (hR : Rk w) (hn : s.size < 1000000000000000000) :
    Calls Tryz.prog 70 #[.string s] w fun en w' => en = .returned (.agg (cellsOf (leafS s.data.toList))) ∧ Below w.heap.size w w' := by
  have HR0 := Lib.hid hR
  have HN := Lib.hid hn
  clear hR hn
  have hcat : cat [⟨#[0]⟩, s] = 0 :: s.data.toList := by simp [cat]
  go_enter Tryz.func70, Tryz.ntmps70
  go_wp2_with fail
  refine callsName (fun W hW => ?_)
  have B0 : Below w.heap.size w W := by rw [← hW]; exact ((Below.refl _ _).alloc (Nat.le_refl _) _).alloc (by simp) _
  have Z0 : Has W w.heap.size 84 (cellsOf (List.replicate 32 0)) := by rw [← hW]; exact Has.alloc (made_at _ _ rfl) _
  have P0 : Has W (w.heap.size + 1) 9 #[.string ⟨#[0]⟩, .string s] := by rw [← hW]; exact made_at _ _ (by simp)
  clear hW
  refine (sumOf_calls (w.heap.size + 1) 2 2 [⟨#[0]⟩, s] W (fun i t ht => ?_) P0.lt rfl (by omega) (HR0.out.below B0) (by rw [hcat]; have := HN.out; simp; omega)).mono ?_
  · rw [P0.cell]
    rcases i with _ | _ | i
    · simp at ht; subst ht; rfl
    · simp at ht; subst ht; rfl
    · simp at ht
  rw [hcat]
  rintro en w5 ⟨rfl, b5⟩
  have S5 : Hid (Has w5 w.heap.size 84 (cellsOf (List.replicate 32 0)) ∧ Below w.heap.size w w5) :=
    Lib.hid ⟨Z0.below b5 Z0.lt, B0.trans (b5.mono B0.size)⟩
  clear b5 B0 Z0 P0 hcat
  go_wp2_with (first
    | (refine wpList_store_arr (o := ⟨none, _, _, _, _, _⟩) rfl 84 _ _ rfl w.heap.size (sum (0 :: s.data.toList)) (List.replicate 32 0) rfl rfl _ S5.out.1 32 (by kernel_rfl) (by simp) (sum_length _) ?_; intro W6 HW6 TW6)
    | fail)
  exact bodyPost_ret (v := .agg (cellsOf (leafS s.data.toList))) (results_cell_row rfl _ _ w.heap.size 84 _ _ _ rfl HW6 Tryz.underlying84 rfl (by rw [cellsOf_size, leafS_length]; kernel_rfl)) rfl
    ⟨rfl, S5.out.2.trans (TW6.below S5.out.2.size (fun j hj e => by omega))⟩

end Go.Proofs.YtcdedkgkingbdaaGreatDoor.dig
end

