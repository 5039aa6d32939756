/- digest: what follows the bytes. -/
import Derived.Test.YtdoadmkaoboncaaGreatDoorDigE
import Derived.Laws.IdiomStrings
namespace Go.Proofs.YtdoadmkaoboncaaGreatDoor.dig
open Go Go.RowKit

theorem own_str {P : Program} (w : World) (base : Nat) (src dst e : TypeId) (hs : P.underlying src = some (.slice e)) (he : P.underlying e = some (.int .u8)) (hd : P.underlying dst = some .string) {v : Value} {xs : List UInt8} {n : Nat}
    (ho : w.ownsRow base e 1 v n (xs.map byteV)) : (convert src dst v).run P w = .ok (.string ⟨xs.toArray⟩) w := by
  have hl : xs.length = n := by have := ho.1; simpa using this
  rcases ho.2 with ⟨rfl, h0⟩ | ⟨g, cap, cur, rfl, _⟩
  · have : xs = [] := List.eq_nil_of_length_eq_zero (hl.trans h0)
    subst this
    rw [run_convert_bytes_string w src dst e none 0 0 hs he hd]
    rfl
  · subst hl
    refine run_convert_bytes_back w src dst e ⟨g, 0, none⟩ cap xs hs he hd (fun j hj => ?_)
    exact ho.cells rfl j _ (by simp [hj, byteV])
theorem own_base {w : World} {base : Nat} {e : TypeId} {size n : Nat} {v : Value} {xs : List Value} (h : w.ownsRow base e size v n xs) {b : Nat} (hb : v.ownBlock = some b) : base ≤ b := by
  rcases h.2 with ⟨rfl, _⟩ | ⟨g, cap, cur, rfl, hg, _⟩
  · cases hb
  · injection hb with hb
    subst hb
    exact hg

theorem byteInfo : (Tryz.prog.info? 5).map (fun i => (i.zero, i.size, i.bytes)) = some (some (.int .u8 0), 1, 1) := by kernel_rfl

/-- What stands when j of the eight are there. -/
def endP (n j : Nat) : List UInt8 := 128 :: (List.replicate ((119 - n % 64) % 64) 0 ++ (be8 (8 * n)).take j)
theorem endP_all (n : Nat) : endP n 8 = ending n := by
  unfold endP ending
  rw [List.take_of_length_le (by rw [be8_length]; omega)]
  rfl
theorem endP_length (n j : Nat) (h : j ≤ 8) : (endP n j).length = 1 + (119 - n % 64) % 64 + j := by
  unfold endP
  simp [be8_length]
  omega
theorem be8_at (m j : Nat) (h : j < 8) : ∃ b : UInt8, (be8 m)[j]? = some b ∧ (b.toNat : Int) = ((m : Int) / 2 ^ (56 - 8 * j)) % 256 := by
  have : j = 0 ∨ j = 1 ∨ j = 2 ∨ j = 3 ∨ j = 4 ∨ j = 5 ∨ j = 6 ∨ j = 7 := by omega
  rcases this with rfl | rfl | rfl | rfl | rfl | rfl | rfl | rfl <;> refine ⟨_, rfl, ?_⟩ <;> simp <;> omega
theorem endP_step (n j : Nat) (b : UInt8) (h : (be8 (8 * n))[j]? = some b) : endP n (j + 1) = endP n j ++ [b] := by
  unfold endP
  rw [List.take_add_one, h]
  simp

set_option maxRecDepth 100000 in
set_option maxHeartbeats 1000000 in
theorem ending_calls (n : Nat) (hn : n < 2305843009213693952) (w : World) :
    Calls Tryz.prog 125 #[.int .u64 n] w fun en w' => en = .returned (.string ⟨(ending n).toArray⟩) ∧ Below w.heap.size w w' := by
  have hn2 : (n : Int) < 2305843009213693952 := by omega
  obtain ⟨z, hz⟩ : ∃ z, z = (119 - n % 64) % 64 := ⟨_, rfl⟩
  have hz64 : (z : Int) < 64 := by omega
  have e1 : (119 - (n : Int) % 64) % 64 = (z : Int) := by omega
  have HZ := Lib.hid hz
  have HE1 := Lib.hid e1
  clear hz e1
  obtain ⟨i0, hi0, e⟩ := Option.map_eq_some_iff.1 byteInfo
  simp only [Prod.mk.injEq] at e
  obtain ⟨hz0, hz1, hz2⟩ := e
  obtain ⟨W1, hmk, hH, hB, hg⟩ : ∃ W1, (Instr.makeSlice 51 (.int .i64 (1 + (119 - (n : Int)) % 64)) (.int .i64 (1 + (119 - (n : Int)) % 64))).run Tryz.prog w = .ok (.slice (some ⟨w.heap.size, 0, none⟩) (z + 1) (z + 1)) W1 ∧
      Has W1 w.heap.size 5 (((List.replicate (z + 1) 0).map byteV).toArray) ∧ Below w.heap.size w W1 ∧ w.heap.size < W1.heap.size := by
    rw [show 1 + (119 - (n : Int)) % 64 = 1 + (z : Int) by have h1 := HZ.out; omega]
    have h := run_make (P := Tryz.prog) w 51 5 i0 (.int .u8 0) Tryz.underlying51 hi0 hz0 .i64 .i64 (1 + (z : Int)) (1 + (z : Int)) (by omega) (by omega) (by rw [hz2]; omega) (by omega)
    rw [show (1 + (z : Int)).toNat = z + 1 by omega, hz1, Nat.mul_one] at h
    refine ⟨_, h, ?_, (Below.refl _ _).alloc (Nat.le_refl _) _, by simp⟩
    refine made_at _ _ rfl |>.keep ?_
    have e : madeCells (Value.int .u8 0).cells (z + 1) = ((List.replicate (z + 1) (0 : UInt8)).map byteV).toArray := by
      apply Array.toList_inj.1
      show (madeCells #[Value.int .u8 0] (z + 1)).toList = _
      rw [toList_madeCells_one]
      simp [byteV]
    rw [e]
  obtain ⟨cs, hcs⟩ : ∃ cs, cs = (((List.replicate (z + 1) 0).map byteV).toArray) := ⟨_, rfl⟩
  rw [← hcs] at hH
  have c0 : W1.cell? ⟨w.heap.size, 0, none⟩ = some (.int .u8 0) := by
    rw [hH.cell, hcs]
    rfl
  have f0 : W1.frozen? ⟨w.heap.size, 0, none⟩ = false := hH.free 0
  have HH := Lib.hid hH
  have HB := Lib.hid hB
  have HG := Lib.hid hg
  have HCS := Lib.hid hcs
  have HI := Lib.hid hi0
  have HZ0 := Lib.hid hz0
  have HZ1 := Lib.hid hz1
  have HZ2 := Lib.hid hz2
  clear hi0 hz0 hz1 hz2 hH hB hg hcs
  generalize w.heap.size = g at *
  go_enter Tryz.func125, Tryz.ntmps125
  go_wp2_with fail
  go_name_world W2 hW2
  have O0 : Hid (W2.ownsRow g 5 1 (.slice (some ⟨g, 0, none⟩) (z + 1) (z + 1)) (z + 1 + 0) ((endP n 0).map byteV)) := by
    show World.ownsRow _ _ _ _ _ _ _
    have hp := HH.out.put 0 (.int .u8 128)
    rw [hW2] at hp
    refine ⟨by rw [List.length_map, endP_length n 0 (by omega), ← HZ.out]; omega, .inr ⟨g, z + 1, _, rfl, Nat.le_refl _, hp, by omega, by unfold maxLen; omega, ?_, ?_⟩⟩
    · rw [HCS.out]; simp
    · rw [HCS.out]
      unfold endP
      rw [← HZ.out]
      simp [List.replicate_succ, byteV]
  have B2 : Hid (Below g w W2) := by show Below _ _ _; rw [← hW2]; exact HB.out.setCell (by simp) _
  have G2 : Hid (g ≤ W2.heap.size) := by show _ ≤ _; rw [← hW2]; have := HG.out; simp [World.setCell]; omega
  clear hW2 c0 f0 HH HB HG HCS hmk
  generalize (119 - (n : Int)) % 64 = q1
  generalize (n : Int) % 64 = q0
  generalize 119 - q0 = q2
  generalize q2 % 64 = q3
  go_loopw [4, 5] (fun v i wr => ∃ (j : Nat) (sh : Int), i = .int .i64 sh ∧ -8 ≤ sh ∧ sh ≤ 56 ∧ Hid (sh = 56 - 8 * (j : Int)) ∧ Hid (wr.ownsRow g 5 1 v (z + 1 + j) ((endP n j).map byteV)) ∧ Hid (Below g w wr) ∧ Hid (g ≤ wr.heap.size)) (fun _ i _ => (intOf i + 8).toNat)
  case atStart => exact ⟨0, 56, rfl, by omega, by omega, by show _ = _; omega, O0, B2, G2⟩
  case round =>
    obtain ⟨j, sh, rfl, hs1, hs2, HJ, HO, HB, HG⟩ := hrel
    clear O0 B2 G2
    by_cases h8 : 0 ≤ sh
    · have hj8 : j < 8 := by have := HJ.out; omega
      obtain ⟨b, hb, eb⟩ := be8_at (8 * n) j hj8
      have hE : 8 * (n : Int) / 2 ^ sh.toNat % 256 = (b.toNat : Int) := by
        rw [eb, show sh.toNat = 56 - 8 * j by have := HJ.out; omega]
        simp
      have HES := Lib.hid (endP_step n j b hb)
      have HEB := Lib.hid hE
      clear hE eb hb
      go_wp2_with (at_builtin; refine wpList_append_own _ rfl (.tmp 20) (.tmp 26) 51 rfl g 5 i0 (.int .u8 0) 1 1 Tryz.underlying51 HI.out HZ0.out HZ1.out HZ2.out rfl (by decide) u4 (z + 1 + j) _ rfl (by exact HO.out.alloc _) ⟨wr.heap.size, 0, none⟩ 1 1 [.int .u8 (8 * (n : Int) / 2 ^ sh.toNat % 256)] rfl rfl (by exact World.news_of_block (heap_alloc_new _ _)) (by simp [Value.oneCell']) (by unfold maxLen; omega) (by omega) (by simp; have := HG.out; omega) ?_)
      intro v' w' hown hgr _
      have e1 : List.map byteV (endP n j) ++ [Value.int .u8 (8 * (n : Int) / 2 ^ sh.toNat % 256)] = List.map byteV (endP n (j + 1)) := by
        rw [HES.out, List.map_append, HEB.out]
        rfl
      rw [e1] at hown
      have HO2 : Hid (w'.ownsRow g 5 1 v' (z + 1 + (j + 1)) ((endP n (j + 1)).map byteV)) := hown
      have HB1 : Below g w (wr.alloc (.cells #[.int .u8 (8 * (n : Int) / 2 ^ sh.toNat % 256)] 5)) := HB.out.alloc HG.out _
      have HB2 : Hid (Below g w w') := by
        refine Lib.hid (HB1.trans ⟨hgr.os, hgr.tape, hgr.output, hgr.size, fun k hk => hgr.block k (by simp; have := HG.out; omega) (fun e => ?_)⟩)
        have := own_base HO.out e.symm
        omega
      have HG2 : Hid (g ≤ w'.heap.size) := Lib.hid (by have h1 := hgr.size; have h2 := HG.out; simp at h1; omega)
      clear hown hgr e1 HB1
      go_wp2_with fail
      refine ⟨⟨j + 1, sh - 8, rfl, by omega, by omega, ?_, HO2, HB2, HG2⟩, ?_⟩
      · show sh - 8 = 56 - 8 * ((j + 1 : Nat) : Int)
        have := HJ.out
        omega
      · show (sh - 8 + 8).toNat < (sh + 8).toNat
        omega
    · obtain rfl : j = 8 := by have := HJ.out; omega
      have ht := own_str (P := Tryz.prog) wr g 51 9 5 Tryz.underlying51 Tryz.underlying5 Tryz.underlying9 HO.out
      go_wp2_with fail
      go_ret
      exact ⟨by rw [← endP_all]; rfl, HB.out⟩
end Go.Proofs.YtdoadmkaoboncaaGreatDoor.dig
