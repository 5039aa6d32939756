/- the document's digest: Of. -/
import Derived.Test.YtiogjmlkogeibaaDoorDigR
namespace Go.Proofs.YtiogjmlkogeibaaDoor.dig
open Go Go.RowKit

theorem part64 (l : List UInt8) (k : Nat) (h : 64 * k + 64 ≤ l.length) : ((⟨l.toArray⟩ : ByteArray).extract (64 * k) (64 * k + 64)).data.toList = (l.drop (64 * k)).take 64 ∧ ((⟨l.toArray⟩ : ByteArray).extract (64 * k) (64 * k + 64)).size = 64 := by
  have e : ((⟨l.toArray⟩ : ByteArray).extract (64 * k) (64 * k + 64)).data.toList = (l.drop (64 * k)).take 64 := by
    simp only [ByteArray.data_extract, Array.toList_extract, List.extract_eq_take_drop]
    rw [show 64 * k + 64 - 64 * k = 64 by omega]
  refine ⟨e, ?_⟩
  rw [size_list, e, List.length_take, List.length_drop]
  omega

theorem by4_vals (x : Int) (hx : W x) : (by4 x).map byteV = [.int .u8 (x / 16777216), .int .u8 (x / 65536 % 256), .int .u8 (x / 256 % 256), .int .u8 (x % 256)] := by
  have h1 := hx.1
  have h2 := hx.2
  have f : ∀ y : Int, 0 ≤ y → y < 256 → ((UInt8.ofNat y.toNat).toNat : Int) = y := by
    intro y h1 h2
    simp
    omega
  simp only [by4, List.map_cons, List.map_nil, byteV]
  rw [f _ (by omega) (by omega), f _ (by omega) (by omega), f _ (by omega) (by omega), f _ (by omega) (by omega)]
theorem flat_take (L : List Int) (j : Nat) (x : Int) (h : L[j]? = some x) : (L.take (j + 1)).flatMap by4 = (L.take j).flatMap by4 ++ by4 x := by
  rw [List.take_add_one, h]
  simp
set_option maxRecDepth 100000 in
set_option maxHeartbeats 1000000 in
theorem rof_calls (s : ByteArray) (hs : s.size < 1000000000000000) (w : World) :
    Calls Tryd.prog 26 #[.string s] w fun en w' => en = .returned (.string ⟨(sum s.data.toList).toArray⟩) ∧ Below w.heap.size w w' := by
  have HS := Lib.hid hs
  obtain ⟨i0, hi0, e⟩ := Option.map_eq_some_iff.1 byteInfo
  simp only [Prod.mk.injEq] at e
  obtain ⟨hz0, hz1, hz2⟩ := e
  have HI := Lib.hid hi0
  have HZ0 := Lib.hid hz0
  have HZ1 := Lib.hid hz1
  have HZ2 := Lib.hid hz2
  clear hi0 hz0 hz1 hz2 hs
  go_enter Tryd.func26, Tryd.ntmps26
  go_wp2_with fail
  refine (rlong_calls s HS.out w).mono ?_
  have hfl : (full s.data.toList).length < 1000000000000200 ∧ (full s.data.toList).length % 64 = 0 := by
    refine ⟨?_, full_mod _⟩
    have h1 := HS.out
    rw [size_list] at h1
    unfold full
    rw [List.length_append, ending_length]
    omega
  obtain ⟨F, hF⟩ : ∃ F, F = full s.data.toList := ⟨_, rfl⟩
  rw [← hF] at hfl ⊢
  have HF := Lib.hid hF
  obtain ⟨q, hq⟩ : ∃ q, F.length = 64 * q := ⟨F.length / 64, by omega⟩
  have hq1 : (q : Int) < 100000000000000 := by omega
  obtain ⟨T, hT⟩ : ∃ T : ByteArray, T = ⟨F.toArray⟩ := ⟨_, rfl⟩
  rw [← hT]
  have hsz : T.size = 64 * q := by rw [hT, size_list, str_of_list, hq]
  have HQ := Lib.hid hq
  have HT := Lib.hid hT
  clear hfl hF hq hT
  rintro en w1 ⟨rfl, b1⟩
  have K1 := Lib.hid b1
  clear b1
  go_wp2_with fail
  go_name_world W hW
  have S0 : Hid (Row W w.heap.size (.slice (some ⟨w1.heap.size, 0, none⟩) 8 8) (wd F 0).list ∧ Below w.heap.size w W ∧ w.heap.size ≤ W.heap.size) := by
    rw [← hW]
    exact Lib.hid ⟨⟨rfl, .inr ⟨w1.heap.size, 8, _, rfl, K1.out.size, made_at _ _ rfl, Nat.le_refl _, by unfold maxLen; omega, rfl, rfl⟩⟩, K1.out.alloc K1.out.size _, by have := K1.out.size; simp; omega⟩
  clear hW K1
  go_loopw [3, 4] (fun v i wr => ∃ k : Nat, i = .int .i64 (64 * (k : Int)) ∧ k ≤ q ∧ Hid (Row wr w.heap.size v (wd F k).list ∧ Below w.heap.size w wr ∧ w.heap.size ≤ wr.heap.size)) (fun _ i _ => 64 * q - (intOf i).toNat)
  case atStart => exact ⟨0, rfl, Nat.zero_le _, S0⟩
  case round =>
    obtain ⟨k, rfl, hk, HR⟩ := hrel
    clear S0
    have hk0 : (0 : Int) ≤ (k : Int) := by omega
    obtain ⟨g, cap, rfl, hcell⟩ := Row.cells HR.out.1 (by rw [Oct.list_length]; omega)
    rw [Oct.list_length] at HR ⊢
    have HG : Hid (g < wr.heap.size) := Lib.hid (own_lt (b := g) ⟨HR.out.1.1, HR.out.1.2.imp id (fun ⟨g, cap, cur, e1, _, e3⟩ => ⟨g, cap, cur, e1, Nat.zero_le _, e3⟩)⟩ rfl)
    have HLI : Hid (Lies wr wr.heap.size g 8 (wd F k).list) := Lib.hid ⟨HG.out, rfl, hcell⟩
    clear hcell
    by_cases hkq : k < q
    · have hk1 : (64 : Int) * (k : Int) < (T.size : Int) := by omega
      have hk2 : (64 : Int) * (k : Int) + 64 ≤ (T.size : Int) := by omega
      have hpt := part64 F k (by have := HQ.out; omega)
      rw [← HT.out] at hpt
      have HPT := Lib.hid hpt
      clear hpt
      go_wp2_with fail
      refine (rblock_calls (wd F k) g cap _ HPT.out.2 (W_wd _ _) wr HLI.out).mono ?_
      rw [HPT.out.1]
      rintro en w2 ⟨v2, rfl, hr2, b2⟩
      have HR2 : Hid (Row w2 w.heap.size v2 (wd F (k + 1)).list ∧ Below w.heap.size w w2 ∧ w.heap.size ≤ w2.heap.size) :=
        Lib.hid ⟨hr2.weak HR.out.2.2, HR.out.2.1.trans (b2.mono HR.out.2.2), Nat.le_trans HR.out.2.2 b2.size⟩
      clear hr2 b2 HR HLI HG HPT
      go_wp2_with fail
      refine ⟨⟨k + 1, by rw [Int.natCast_add]; congr 1, by omega, HR2⟩, ?_⟩
      show 64 * q - (64 * (k : Int) + 64).toNat < 64 * q - (64 * (k : Int)).toNat
      omega
    · obtain rfl : k = q := by omega
      generalize wr = w5 at *
      have hk1 : ¬ (64 : Int) * (k : Int) < (T.size : Int) := by omega
      go_wp2_with fail
      go_name_world W2 hW2
      have hbl : Below w5.heap.size w5 W2 := by rw [← hW2]; exact (Below.refl _ _).alloc (Nat.le_refl _) _
      have S2 : Hid (W2.ownsRow w5.heap.size 5 1 (.slice (some ⟨w5.heap.size, 0, none⟩) 0 0) (4 * 0) ((((wd F k).list.take 0).flatMap by4).map byteV) ∧ Below w5.heap.size w5 W2 ∧ w5.heap.size ≤ W2.heap.size) := by
        refine Lib.hid ⟨⟨rfl, .inr ⟨w5.heap.size, 0, #[], rfl, Nat.le_refl _, ?_, Nat.le_refl _, by unfold maxLen; omega, rfl, rfl⟩⟩, hbl, hbl.size⟩
        rw [← hW2]
        exact made_at _ _ rfl
      clear hW2 hbl HS
      have HWW : Hid (∀ x ∈ (wd F k).list, dig.W x) := Lib.hid (W_wd F k)
      have HKQ := Lib.hid hsz
      clear hsz hq1 hk hkq hk1
      generalize 64 * (k : Int) = q1
      go_loopw [5, 27] (fun v i W => ∃ j : Nat, i = .int .i64 j ∧ j ≤ 8 ∧ Hid (W.ownsRow w5.heap.size 5 1 v (4 * j) ((((wd F k).list.take j).flatMap by4).map byteV) ∧ Below w5.heap.size w5 W ∧ w5.heap.size ≤ W.heap.size)) (fun _ i _ => 8 - (intOf i).toNat)
      case atStart => exact ⟨0, rfl, by omega, S2⟩
      case round =>
        obtain ⟨j, rfl, hj, HB⟩ := hrel
        clear S2
        by_cases h8 : j < 8
        · have hj1 : (j : Int) < 8 := by omega
          have hj0 : (0 : Int) ≤ (j : Int) := by omega
          obtain ⟨x, hx⟩ : ∃ x, (wd F k).list[j]? = some x := ⟨_, List.getElem?_eq_getElem h8⟩
          have hxW : dig.W x := HWW.out x (List.mem_of_getElem? hx)
          have c0 := (HLI.out.below HB.out.2.1 (Nat.le_refl _)).2.2 j x hx
          have hx0 := hxW.1
          have hx1 := hxW.2
          have HX := Lib.hid hx
          have HXW := Lib.hid hxW
          clear hx hxW
          go_wp2_with (at_builtin; refine wpList_append_own _ rfl (.tmp 31) (.tmp 46) 41 rfl w5.heap.size 5 i0 (.int .u8 0) 1 1 Tryd.underlying41 HI.out HZ0.out HZ1.out HZ2.out rfl (by decide) u5 (4 * j) _ rfl (by exact HB.out.1.alloc _) ⟨wr.heap.size, 0, none⟩ 4 4 [.int .u8 (x / 16777216), .int .u8 (x / 65536 % 256), .int .u8 (x / 256 % 256), .int .u8 (x % 256)] rfl rfl (by exact World.news_of_block (heap_alloc_new _ _)) (by simp [Value.oneCell']) (by unfold maxLen; omega) (by omega) (by simp; have := HB.out.2.2; omega) ?_)
          intro v' w' hown hgr _
          rw [← by4_vals x HXW.out, ← List.map_append, ← flat_take _ j x HX.out] at hown
          have HB2 : Hid (w'.ownsRow w5.heap.size 5 1 v' (4 * (j + 1)) ((((wd F k).list.take (j + 1)).flatMap by4).map byteV) ∧ Below w5.heap.size w5 w' ∧ w5.heap.size ≤ w'.heap.size) := by
            have hb1 := HB.out.2.1.alloc HB.out.2.2 (.cells #[.int .u8 (x / 16777216), .int .u8 (x / 65536 % 256), .int .u8 (x / 256 % 256), .int .u8 (x % 256)] 5)
            refine Lib.hid ⟨hown, hb1.trans ⟨hgr.os, hgr.tape, hgr.output, hgr.size, fun i hi => hgr.block i (by simp; have := HB.out.2.2; omega) (fun e => ?_)⟩, ?_⟩
            · have := own_base HB.out.1 e.symm
              omega
            · have h1 := hgr.size; have h2 := HB.out.2.2; simp at h1; omega
          clear hown hgr HB c0
          go_wp2_with fail
          refine ⟨⟨j + 1, by rw [Int.natCast_add]; rfl, by omega, HB2⟩, ?_⟩
          show 8 - ((j : Int) + 1).toNat < 8 - ((j : Int)).toNat
          omega
        · obtain rfl : j = 8 := by omega
          have e1 : (wd F k).list.take 8 = (wd F k).list := List.take_of_length_le (by rw [Oct.list_length]; omega)
          rw [e1] at HB
          have hs2 : ((wd F k).list.flatMap by4) = sum s.data.toList := by
            unfold sum
            rw [← HF.out, show F.length / 64 = k by have := HQ.out; omega]
          rw [hs2] at HB
          have ht := own_str (P := Tryd.prog) _ w5.heap.size 41 9 5 Tryd.underlying41 Tryd.underlying5 Tryd.underlying9 HB.out.1
          clear e1 hs2
          go_wp2_with fail
          go_ret
          exact ⟨rfl, HR.out.2.1.trans (HB.out.2.1.mono HR.out.2.2)⟩
end Go.Proofs.YtiogjmlkogeibaaDoor.dig
