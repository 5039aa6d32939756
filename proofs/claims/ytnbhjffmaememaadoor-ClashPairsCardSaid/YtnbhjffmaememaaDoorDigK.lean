/- digest: Hex. -/
import Derived.Test.YtnbhjffmaememaaDoorDigI
namespace Go.Proofs.YtnbhjffmaememaaDoor.dig
open Go Go.RowKit

theorem run_index_strb {P : Program} (t : TypeId) (s : ByteArray) (k : IntKind) (v : Nat) (b : UInt8) (hu : P.underlying t = some .string) (hv : s[v]? = some b) (w : World) : (Instr.index t (.string s) (.int k v)).run P w = .ok (byteV b) w := by
  have h0 : (0 : Int) ≤ (v : Int) := by omega
  simp [Instr.index, asIntOf, run_underlying hu, hv, byteV]
theorem run_digit (v : Nat) (k : IntKind) (h : v < 16) (w : World) : (Instr.index 9 (.string ⟨#[48, 49, 50, 51, 52, 53, 54, 55, 56, 57, 97, 98, 99, 100, 101, 102]⟩) (.int k v)).run Tryd.prog w = .ok (byteV (dig1 (UInt8.ofNat v))) w := by
  refine run_index_strb 9 _ k v _ Tryd.underlying9 ?_ w
  have : v = 0 ∨ v = 1 ∨ v = 2 ∨ v = 3 ∨ v = 4 ∨ v = 5 ∨ v = 6 ∨ v = 7 ∨ v = 8 ∨ v = 9 ∨ v = 10 ∨ v = 11 ∨ v = 12 ∨ v = 13 ∨ v = 14 ∨ v = 15 := by omega
  rcases this with rfl | rfl | rfl | rfl | rfl | rfl | rfl | rfl | rfl | rfl | rfl | rfl | rfl | rfl | rfl | rfl <;> rfl
set_option maxRecDepth 100000 in
theorem and15 (n : Int) (h0 : 0 ≤ n) (h1 : n < 256) : bits .and .u8 n 15 = n % 16 := by
  obtain ⟨a, rfl⟩ := Int.eq_ofNat_of_zero_le h0
  have : ∀ a : Nat, a < 256 → bits .and .u8 (a : Int) 15 = (a : Int) % 16 := by decide
  exact this a (by omega)
theorem hex_step (xs : List UInt8) (k : Nat) (c : UInt8) (h : xs[k]? = some c) : hex (xs.take (k + 1)) = hex (xs.take k) ++ [dig1 (c / 16), dig1 (c % 16)] := by
  unfold hex
  rw [List.take_add_one, h]
  simp
theorem hex_length (xs : List UInt8) : (hex xs).length = 2 * xs.length := by
  unfold hex
  induction xs with
  | nil => rfl
  | cons a t ih => rw [List.flatMap_cons, List.length_append, ih]; simp; omega

set_option maxRecDepth 100000 in
set_option maxHeartbeats 1000000 in
theorem hex_calls (xs : List UInt8) (hx : xs.length = 32) (w : World) :
    Calls Tryd.prog 68 #[.agg (cellsOf xs)] w fun en w' => en = .returned (.string ⟨(hex xs).toArray⟩) ∧ Below w.heap.size w w' := by
  have HX := Lib.hid hx
  obtain ⟨i0, hi0, e⟩ := Option.map_eq_some_iff.1 byteInfo
  simp only [Prod.mk.injEq] at e
  obtain ⟨hz0, hz1, hz2⟩ := e
  obtain ⟨W0, hW0⟩ : ∃ W0, W0 = w.alloc (.cells (cellsOf xs) 29) := ⟨_, rfl⟩
  have hmk0 := run_make (P := Tryd.prog) W0 31 5 i0 (.int .u8 0) Tryd.underlying31 hi0 hz0 .i64 .i64 0 64 (by omega) (by omega) (by rw [hz2]; omega) (by omega)
  rw [hz1] at hmk0
  obtain ⟨W1, hW1⟩ : ∃ W1, W1 = W0.alloc (.cells (madeCells (Value.int .u8 0).cells ((64 : Int).toNat * 1)) 5) := ⟨_, rfl⟩
  have hmk : (Instr.makeSlice 31 (.int .i64 0) (.int .i64 64)).run Tryd.prog W0 = .ok (.slice (some ⟨w.heap.size + 1, 0, none⟩) 0 64) W1 := by
    rw [hW1, hmk0, hW0]
    simp
  have HS1 : Hid (Has W1 w.heap.size 29 (cellsOf xs) ∧ Below w.heap.size w W1 ∧ W1.ownsRow w.heap.size 5 1 (.slice (some ⟨w.heap.size + 1, 0, none⟩) 0 64) 0 [] ∧ w.heap.size ≤ W1.heap.size) := by
    rw [hW1, hW0]
    refine Lib.hid ⟨Has.alloc (made_at _ _ rfl) _, ((Below.refl _ _).alloc (Nat.le_refl _) _).alloc (by simp) _, ⟨rfl, .inr ⟨w.heap.size + 1, 64, _, rfl, by omega, made_at _ _ (by simp), by omega, by unfold maxLen; omega, by rw [size_madeCells]; rfl, rfl⟩⟩, by simp; omega⟩
  have HI := Lib.hid hi0
  have HZ0 := Lib.hid hz0
  have HZ1 := Lib.hid hz1
  have HZ2 := Lib.hid hz2
  have HW0 := Lib.hid hW0
  clear hi0 hz0 hz1 hz2 hmk0 hW1 hx
  rw [hW0] at hmk
  clear hW0
  go_enter Tryd.func68, Tryd.ntmps68
  go_wp2_with (first
    | ((with_reducible refine at_op 7 ?_); refine wpList_load_arr (o := ⟨some 7, _, _, _, _, _⟩) rfl 29 _ rfl w.heap.size rfl _ xs 5 32 HS1.out.1 Tryd.underlying29 (by kernel_rfl) HX.out ?_)
    | fail)
  have S0 : Hid (W1.ownsRow w.heap.size 5 1 (.slice (some ⟨w.heap.size + 1, 0, none⟩) 0 64) (2 * 0) ((hex (xs.take 0)).map byteV) ∧ Below w.heap.size w W1 ∧ w.heap.size ≤ W1.heap.size) := Lib.hid ⟨HS1.out.2.2.1, HS1.out.2.1, HS1.out.2.2.2⟩
  clear hmk HS1 HW0 W0
  go_loopw [3, 8] (fun v i wr => ∃ k : Nat, i = .int .i64 k ∧ k ≤ 32 ∧ Hid (wr.ownsRow w.heap.size 5 1 v (2 * k) ((hex (xs.take k)).map byteV) ∧ Below w.heap.size w wr ∧ w.heap.size ≤ wr.heap.size)) (fun _ i _ => 32 - (intOf i).toNat)
  case atStart => exact ⟨0, rfl, by omega, S0⟩
  case round =>
    obtain ⟨k, rfl, hk, HS⟩ := hrel
    clear S0
    by_cases hkl : k < 32
    · have hk1 : (k : Int) < 32 := by omega
      obtain ⟨c, hc⟩ : ∃ c, xs[k]? = some c := ⟨_, List.getElem?_eq_getElem (by rw [HX.out]; exact hkl)⟩
      have hidx : ∀ w, (Instr.index 29 (.agg (cellsOf xs)) (.int .i64 k)).run Tryd.prog w = .ok (.int .u8 (c.toNat : Nat)) w :=
        run_index_arr 29 5 32 (cellsOf xs) .i64 k _ Tryd.underlying29 (by kernel_rfl) (by kernel_rfl) hkl (cells_at xs k c hc)
      have hct := c.toNat_lt
      obtain ⟨hi, ehi⟩ : ∃ hi, hi = c.toNat / 16 := ⟨_, rfl⟩
      obtain ⟨lo, elo⟩ : ∃ lo, lo = c.toNat % 16 := ⟨_, rfl⟩
      have e1 : (c.toNat : Int) / 16 = (hi : Int) := by omega
      have e2 : bits .and .u8 (c.toNat : Int) 15 = (lo : Int) := by rw [and15 _ (by omega) (by omega)]; omega
      have h1 : ∀ w, _ := run_digit hi .u8 (by omega)
      have h2 : ∀ w, _ := run_digit lo .u8 (by omega)
      have d1 : dig1 (UInt8.ofNat hi) = dig1 (c / 16) := by
        congr 1
        apply UInt8.toNat_inj.1
        simp
        omega
      have d2 : dig1 (UInt8.ofNat lo) = dig1 (c % 16) := by
        congr 1
        apply UInt8.toNat_inj.1
        simp
        omega
      rw [d1] at h1
      rw [d2] at h2
      have HST := Lib.hid (hex_step xs k c hc)
      generalize dig1 (c / 16) = x1 at *
      generalize dig1 (c % 16) = x2 at *
      clear hc ehi elo d1 d2
      unfold byteV at h1 h2
      go_wp2_with fail
      go_region_law (refine step_append_lies _ rfl (.tmp 11) (.tmp 18) 31 rfl w.heap.size 5 i0 (.int .u8 0) 1 1 Tryd.underlying31 HI.out HZ0.out HZ1.out HZ2.out rfl (by decide) u3 (2 * k) _ (by simp [Act.eval]) (by exact (HS.out.1.alloc _).drew) ⟨wr.heap.size, 0, none⟩ 2 2 [byteV x1, byteV x2] (by simp [Act.eval]) rfl (by exact World.news_of_block (heap_alloc_new _ _)) (by simp [byteV, Value.oneCell']) (by decide) (by unfold maxLen; omega) (by omega) (by simp; have := HS.out.2.2; omega) _ rfl ?_
                     intro g cap w' hown hgr _ _
                     have HOWN := Lib.hid hown
                     have HGR := Lib.hid hgr
                     clear hown hgr)
      clear e1 e2 h1 h2 hidx
      all_goals
        have hown := HOWN.out
        have hgr := HGR.out
        rw [show (List.map byteV (hex (xs.take k)) ++ [byteV x1, byteV x2]) = List.map byteV (hex (xs.take (k + 1))) by rw [HST.out, List.map_append]; rfl] at hown
        have HO2 : Hid (w'.ownsRow w.heap.size 5 1 (.slice (some ⟨g, 0, none⟩) (2 * k + 2) cap) (2 * (k + 1)) ((hex (xs.take (k + 1))).map byteV) ∧ Below w.heap.size w w' ∧ w.heap.size ≤ w'.heap.size) := by
          have hb1 := HS.out.2.1.alloc HS.out.2.2 (.cells #[byteV x1, byteV x2] 5)
          refine Lib.hid ⟨hown, hb1.trans ⟨hgr.os, hgr.tape, hgr.output, hgr.size, fun j hj => hgr.block j (by simp; have := HS.out.2.2; omega) (fun e => ?_)⟩, ?_⟩
          · have := own_base HS.out.1 e.symm
            omega
          · have h1 := hgr.size; have h2 := HS.out.2.2; simp at h1; omega
        clear hown hgr HS HOWN HGR
        go_wp2_with fail
        refine ⟨⟨k + 1, by rw [Int.natCast_add]; rfl, by omega, HO2⟩, ?_⟩
        show 32 - ((k : Int) + 1).toNat < 32 - ((k : Int)).toNat
        omega
    · obtain rfl : k = 32 := by omega
      have e1 : xs.take 32 = xs := List.take_of_length_le (by rw [HX.out]; exact Nat.le_refl _)
      rw [e1] at HS
      have ht := own_str (P := Tryd.prog) wr w.heap.size 31 9 5 Tryd.underlying31 Tryd.underlying5 Tryd.underlying9 HS.out.1
      clear e1
      go_wp2_with fail
      go_ret
      exact ⟨rfl, HS.out.2.1⟩
end Go.Proofs.YtnbhjffmaememaaDoor.dig
