/- Texts laid into one: DigT, RefL, RefT, Piece, RefVA, RefWH, Tst, PrfR, PrfS. -/
import Derived.Test.YtdoadmkaoboncaaGreatDoorZ006
import Derived.Test.YtdoadmkaoboncaaGreatDoorSums
import Derived.Test.YtdoadmkaoboncaaGreatDoorTreeM
import Derived.Test.YtdoadmkaoboncaaGreatDoorLeaf
import Derived.Test.YtdoadmkaoboncaaGreatDoorAny
import Derived.Test.YtdoadmkaoboncaaGreatDoorRow
import Derived.Lib.ItoaWalk
import Derived.Test.YtdoadmkaoboncaaGreatDoorTreeI
import Derived.Test.YtdoadmkaoboncaaGreatDoorTreeW
import Derived.Test.YtdoadmkaoboncaaGreatDoorZ000
import Derived.Test.YtdoadmkaoboncaaGreatDoorZ001
section
/- the document's digest: Of. -/
namespace Go.Proofs.YtdoadmkaoboncaaGreatDoor.dig
open Go Go.RowKit

theorem part64 (l : List UInt8) (k : Nat) (h : 64 * k + 64 ≤ l.length) : ((⟨l.toArray⟩ : ByteArray).extract (64 * k) (64 * k + 64)).data.toList = (l.drop (64 * k)).take 64 ∧ ((⟨l.toArray⟩ : ByteArray).extract (64 * k) (64 * k + 64)).size = 64 := by
  have e : ((⟨l.toArray⟩ : ByteArray).extract (64 * k) (64 * k + 64)).data.toList = (l.drop (64 * k)).take 64 := by
    simp only [ByteArray.data_extract, Array.toList_extract, List.extract_eq_take_drop]
    rw [show 64 * k + 64 - 64 * k = 64 by omega]
  refine ⟨e, ?_⟩
  rw [size_list, e, List.length_take, List.length_drop]
  omega

theorem by4_vals (x : Int) (hx : W x) : (by4 x).map byteV = [.int .u8 (x / 16777216), .int .u8 (x / 65536 % 256), .int .u8 (x / 256 % 256), .int .u8 (x % 256)] := by
  have h1 := hx.1
  have h2 := hx.2
  have f : ∀ y : Int, 0 ≤ y → y < 256 → ((UInt8.ofNat y.toNat).toNat : Int) = y := by
    intro y h1 h2
    simp
    omega
  simp only [by4, List.map_cons, List.map_nil, byteV]
  rw [f _ (by omega) (by omega), f _ (by omega) (by omega), f _ (by omega) (by omega), f _ (by omega) (by omega)]
theorem flat_take (L : List Int) (j : Nat) (x : Int) (h : L[j]? = some x) : (L.take (j + 1)).flatMap by4 = (L.take j).flatMap by4 ++ by4 x := by
  rw [List.take_add_one, h]
  simp
set_option maxRecDepth 100000 in
set_option maxHeartbeats 1000000 in
theorem rof_calls (s : ByteArray) (hs : s.size < 1000000000000000) (w : World) :
    Calls Tryz.prog 64 #[.string s] w fun en w' => en = .returned (.string ⟨(sum s.data.toList).toArray⟩) ∧ Below w.heap.size w w' := by
  have HS := Lib.hid hs
  obtain ⟨i0, hi0, e⟩ := Option.map_eq_some_iff.1 byteInfo
  simp only [Prod.mk.injEq] at e
  obtain ⟨hz0, hz1, hz2⟩ := e
  have HI := Lib.hid hi0
  have HZ0 := Lib.hid hz0
  have HZ1 := Lib.hid hz1
  have HZ2 := Lib.hid hz2
  clear hi0 hz0 hz1 hz2 hs
  go_enter Tryz.func64, Tryz.ntmps64
  go_wp2_with fail
  refine (rlong_calls s HS.out w).mono ?_
  have hfl : (full s.data.toList).length < 1000000000000200 ∧ (full s.data.toList).length % 64 = 0 := by
    refine ⟨?_, full_mod _⟩
    have h1 := HS.out
    rw [size_list] at h1
    unfold full
    rw [List.length_append, ending_length]
    omega
  obtain ⟨F, hF⟩ : ∃ F, F = full s.data.toList := ⟨_, rfl⟩
  rw [← hF] at hfl ⊢
  have HF := Lib.hid hF
  obtain ⟨q, hq⟩ : ∃ q, F.length = 64 * q := ⟨F.length / 64, by omega⟩
  have hq1 : (q : Int) < 100000000000000 := by omega
  obtain ⟨T, hT⟩ : ∃ T : ByteArray, T = ⟨F.toArray⟩ := ⟨_, rfl⟩
  rw [← hT]
  have hsz : T.size = 64 * q := by rw [hT, size_list, str_of_list, hq]
  have HQ := Lib.hid hq
  have HT := Lib.hid hT
  clear hfl hF hq hT
  rintro en w1 ⟨rfl, b1⟩
  have K1 := Lib.hid b1
  clear b1
  go_wp2_with fail
  go_name_world W hW
  have S0 : Hid (Row W w.heap.size (.slice (some ⟨w1.heap.size, 0, none⟩) 8 8) (wd F 0).list ∧ Below w.heap.size w W ∧ w.heap.size ≤ W.heap.size) := by
    rw [← hW]
    exact Lib.hid ⟨⟨rfl, .inr ⟨w1.heap.size, 8, _, rfl, K1.out.size, made_at _ _ rfl, Nat.le_refl _, by unfold maxLen; omega, rfl, rfl⟩⟩, K1.out.alloc K1.out.size _, by have := K1.out.size; simp; omega⟩
  clear hW K1
  go_loopw [3, 4] (fun v i wr => ∃ k : Nat, i = .int .i64 (64 * (k : Int)) ∧ k ≤ q ∧ Hid (Row wr w.heap.size v (wd F k).list ∧ Below w.heap.size w wr ∧ w.heap.size ≤ wr.heap.size)) (fun _ i _ => 64 * q - (intOf i).toNat)
  case atStart => exact ⟨0, rfl, Nat.zero_le _, S0⟩
  case round =>
    obtain ⟨k, rfl, hk, HR⟩ := hrel
    clear S0
    have hk0 : (0 : Int) ≤ (k : Int) := by omega
    obtain ⟨g, cap, rfl, hcell⟩ := Row.cells HR.out.1 (by rw [Oct.list_length]; omega)
    rw [Oct.list_length] at HR ⊢
    have HG : Hid (g < wr.heap.size) := Lib.hid (own_lt (b := g) ⟨HR.out.1.1, HR.out.1.2.imp id (fun ⟨g, cap, cur, e1, _, e3⟩ => ⟨g, cap, cur, e1, Nat.zero_le _, e3⟩)⟩ rfl)
    have HLI : Hid (Lies wr wr.heap.size g 8 (wd F k).list) := Lib.hid ⟨HG.out, rfl, hcell⟩
    clear hcell
    by_cases hkq : k < q
    · have hk1 : (64 : Int) * (k : Int) < (T.size : Int) := by omega
      have hk2 : (64 : Int) * (k : Int) + 64 ≤ (T.size : Int) := by omega
      have hpt := part64 F k (by have := HQ.out; omega)
      rw [← HT.out] at hpt
      have HPT := Lib.hid hpt
      clear hpt
      go_wp2_with fail
      refine (rblock_calls (wd F k) g cap _ HPT.out.2 (W_wd _ _) wr HLI.out).mono ?_
      rw [HPT.out.1]
      rintro en w2 ⟨v2, rfl, hr2, b2⟩
      have HR2 : Hid (Row w2 w.heap.size v2 (wd F (k + 1)).list ∧ Below w.heap.size w w2 ∧ w.heap.size ≤ w2.heap.size) :=
        Lib.hid ⟨hr2.weak HR.out.2.2, HR.out.2.1.trans (b2.mono HR.out.2.2), Nat.le_trans HR.out.2.2 b2.size⟩
      clear hr2 b2 HR HLI HG HPT
      go_wp2_with fail
      refine ⟨⟨k + 1, by rw [Int.natCast_add]; congr 1, by omega, HR2⟩, ?_⟩
      show 64 * q - (64 * (k : Int) + 64).toNat < 64 * q - (64 * (k : Int)).toNat
      omega
    · obtain rfl : k = q := by omega
      generalize wr = w5 at *
      have hk1 : ¬ (64 : Int) * (k : Int) < (T.size : Int) := by omega
      go_wp2_with fail
      go_name_world W2 hW2
      have hbl : Below w5.heap.size w5 W2 := by rw [← hW2]; exact (Below.refl _ _).alloc (Nat.le_refl _) _
      have S2 : Hid (W2.ownsRow w5.heap.size 5 1 (.slice (some ⟨w5.heap.size, 0, none⟩) 0 0) (4 * 0) ((((wd F k).list.take 0).flatMap by4).map byteV) ∧ Below w5.heap.size w5 W2 ∧ w5.heap.size ≤ W2.heap.size) := by
        refine Lib.hid ⟨⟨rfl, .inr ⟨w5.heap.size, 0, #[], rfl, Nat.le_refl _, ?_, Nat.le_refl _, by unfold maxLen; omega, rfl, rfl⟩⟩, hbl, hbl.size⟩
        rw [← hW2]
        exact made_at _ _ rfl
      clear hW2 hbl HS
      have HWW : Hid (∀ x ∈ (wd F k).list, dig.W x) := Lib.hid (W_wd F k)
      have HKQ := Lib.hid hsz
      clear hsz hq1 hk hkq hk1
      generalize 64 * (k : Int) = q1
      go_loopw [5, 27] (fun v i W => ∃ j : Nat, i = .int .i64 j ∧ j ≤ 8 ∧ Hid (W.ownsRow w5.heap.size 5 1 v (4 * j) ((((wd F k).list.take j).flatMap by4).map byteV) ∧ Below w5.heap.size w5 W ∧ w5.heap.size ≤ W.heap.size)) (fun _ i _ => 8 - (intOf i).toNat)
      case atStart => exact ⟨0, rfl, by omega, S2⟩
      case round =>
        obtain ⟨j, rfl, hj, HB⟩ := hrel
        clear S2
        by_cases h8 : j < 8
        · have hj1 : (j : Int) < 8 := by omega
          have hj0 : (0 : Int) ≤ (j : Int) := by omega
          obtain ⟨x, hx⟩ : ∃ x, (wd F k).list[j]? = some x := ⟨_, List.getElem?_eq_getElem h8⟩
          have hxW : dig.W x := HWW.out x (List.mem_of_getElem? hx)
          have c0 := (HLI.out.below HB.out.2.1 (Nat.le_refl _)).2.2 j x hx
          have hx0 := hxW.1
          have hx1 := hxW.2
          have HX := Lib.hid hx
          have HXW := Lib.hid hxW
          clear hx hxW
          go_wp2_with (at_builtin; refine wpList_append_own _ rfl (.tmp 31) (.tmp 46) 51 rfl w5.heap.size 5 i0 (.int .u8 0) 1 1 Tryz.underlying51 HI.out HZ0.out HZ1.out HZ2.out rfl (by decide) u5 (4 * j) _ rfl (by exact HB.out.1.alloc _) ⟨wr.heap.size, 0, none⟩ 4 4 [.int .u8 (x / 16777216), .int .u8 (x / 65536 % 256), .int .u8 (x / 256 % 256), .int .u8 (x % 256)] rfl rfl (by exact World.news_of_block (heap_alloc_new _ _)) (by simp [Value.oneCell']) (by unfold maxLen; omega) (by omega) (by simp; have := HB.out.2.2; omega) ?_)
          intro v' w' hown hgr _
          rw [← by4_vals x HXW.out, ← List.map_append, ← flat_take _ j x HX.out] at hown
          have HB2 : Hid (w'.ownsRow w5.heap.size 5 1 v' (4 * (j + 1)) ((((wd F k).list.take (j + 1)).flatMap by4).map byteV) ∧ Below w5.heap.size w5 w' ∧ w5.heap.size ≤ w'.heap.size) := by
            have hb1 := HB.out.2.1.alloc HB.out.2.2 (.cells #[.int .u8 (x / 16777216), .int .u8 (x / 65536 % 256), .int .u8 (x / 256 % 256), .int .u8 (x % 256)] 5)
            refine Lib.hid ⟨hown, hb1.trans ⟨hgr.os, hgr.tape, hgr.output, hgr.size, fun i hi => hgr.block i (by simp; have := HB.out.2.2; omega) (fun e => ?_)⟩, ?_⟩
            · have := own_base HB.out.1 e.symm
              omega
            · have h1 := hgr.size; have h2 := HB.out.2.2; simp at h1; omega
          clear hown hgr HB c0
          go_wp2_with fail
          refine ⟨⟨j + 1, by rw [Int.natCast_add]; rfl, by omega, HB2⟩, ?_⟩
          show 8 - ((j : Int) + 1).toNat < 8 - ((j : Int)).toNat
          omega
        · obtain rfl : j = 8 := by omega
          have e1 : (wd F k).list.take 8 = (wd F k).list := List.take_of_length_le (by rw [Oct.list_length]; omega)
          rw [e1] at HB
          have hs2 : ((wd F k).list.flatMap by4) = sum s.data.toList := by
            unfold sum
            rw [← HF.out, show F.length / 64 = k by have := HQ.out; omega]
          rw [hs2] at HB
          have ht := own_str (P := Tryz.prog) _ w5.heap.size 51 9 5 Tryz.underlying51 Tryz.underlying5 Tryz.underlying9 HB.out.1
          clear e1 hs2
          go_wp2_with fail
          go_ret
          exact ⟨rfl, HR.out.2.1.trans (HB.out.2.1.mono HR.out.2.2)⟩
end Go.Proofs.YtdoadmkaoboncaaGreatDoor.dig
end

section
/- the document's Leaf, Node, as bytes of a text. -/
namespace Go.Proofs.YtdoadmkaoboncaaGreatDoor.prf
open Go Go.RowKit Go.Proofs.YtdoadmkaoboncaaGreatDoor.dig

set_option maxRecDepth 100000 in
set_option maxHeartbeats 1000000 in
theorem rleaf_calls (s : ByteArray) (hs : s.size ≤ 100000000) (w : World) : Calls Tryz.prog 61 #[.string s] w fun en w' => en = .returned (.string (bs (leafS s.data.toList))) ∧ Below w.heap.size w w' := by
  have HC : ∀ V, Hid (Calls Tryz.prog 64 #[.string (⟨#[0]⟩ ++ s)] V fun en w' => en = .returned (.string (bs (leafS s.data.toList))) ∧ Below V.heap.size V w') := fun V => Lib.hid ((rof_calls _ (by have : (⟨#[0]⟩ : ByteArray).size = 1 := rfl; rw [ByteArray.size_append, this]; omega) V).mono fun _ _ p => ⟨by rw [p.1, append_list]; rfl, p.2⟩)
  generalize bs (leafS s.data.toList) = u at *
  go_enter Tryz.func61, Tryz.ntmps61
  go_wp2_with fail
  refine (HC w).out.mono ?_
  rintro en w1 ⟨rfl, b⟩
  go_wp2_with fail
  go_ret
  exact ⟨rfl, b⟩

set_option maxRecDepth 100000 in
set_option maxHeartbeats 1000000 in
theorem rnode_calls (a b : List UInt8) (ha : a.length ≤ 32) (hb : b.length ≤ 32) (w : World) : Calls Tryz.prog 86 #[.string (bs a), .string (bs b)] w fun en w' => en = .returned (.string (bs (nodeS a b))) ∧ Below w.heap.size w w' := by
  have HC : ∀ V, Hid (Calls Tryz.prog 64 #[.string (⟨#[1]⟩ ++ bs a ++ bs b)] V fun en w' => en = .returned (.string (bs (nodeS a b))) ∧ Below V.heap.size V w') := fun V => Lib.hid ((rof_calls _ (by have : (⟨#[1]⟩ : ByteArray).size = 1 := rfl; rw [ByteArray.size_append, ByteArray.size_append, this, bs_size, bs_size]; omega) V).mono fun _ _ p => ⟨by rw [p.1, append_list, append_list, bs_list, bs_list]; rfl, p.2⟩)
  have h1 := bs_size a
  have h2 := bs_size b
  generalize bs (nodeS a b) = u at *
  generalize bs a = sa at *
  generalize bs b = sb at *
  have h3 : sa.size ≤ 32 := by omega
  have h4 : sb.size ≤ 32 := by omega
  clear h1 h2 ha hb
  go_enter Tryz.func86, Tryz.ntmps86
  go_wp2_with fail
  refine (HC w).out.mono ?_
  rintro en w1 ⟨rfl, b⟩
  go_wp2_with fail
  go_ret
  exact ⟨rfl, b⟩
end Go.Proofs.YtdoadmkaoboncaaGreatDoor.prf
end

section
/- the document's Root over leaves. -/
namespace Go.Proofs.YtdoadmkaoboncaaGreatDoor.prf
open Go Go.RowKit Go.Proofs.YtdoadmkaoboncaaGreatDoor.dig

/-- Where texts lie: those of L, from g, off on. -/
def TxtAt (w : World) (g off : Nat) (L : List ByteArray) : Prop := g < w.heap.size ∧ ∀ i s, L[i]? = some s → w.cell? ⟨g, off + i, none⟩ = some (.string s)
theorem TxtAt.below {w w' : World} {g off : Nat} {L : List ByteArray} (h : TxtAt w g off L) (b : Below w.heap.size w w') : TxtAt w' g off L :=
  ⟨Nat.lt_of_lt_of_le h.1 b.size, fun i s hs => by rw [← h.2 i s hs]; unfold World.cell?; rw [b.block g h.1]⟩

set_option maxRecDepth 100000 in
set_option maxHeartbeats 2000000 in
theorem rroot_calls (L : List ByteArray) (hsz : ∀ s ∈ L, s.size ≤ 1000000) (hLL : L.length ≤ 1000000) (g off : Nat) : ∀ (k : Nat) {a c : Nat} (w : World), 0 < k → a + k ≤ L.length → k ≤ c → c ≤ maxLen → TxtAt w g off L →
    Calls Tryz.prog 59 #[.slice (some ⟨g, off + a, none⟩) k c] w fun en w' => en = .returned (.string (bs (rt (leafF L) a k))) ∧ Below w.heap.size w w' := by
  intro k
  induction k using Nat.strongRecOn with
  | _ k ih =>
  intro a c w hk ha hkc hc hT
  have HT := Lib.hid hT
  have hc9 : (c : Int) ≤ 9223372036854775807 := by unfold maxLen at hc; omega
  have hkc2 : (k : Int) ≤ (c : Int) := by omega
  have h0' : ¬ (k : Int) = 0 := by omega
  by_cases h1 : k = 1
  · subst h1
    obtain ⟨s, hs⟩ : ∃ s, L[a]? = some s := ⟨_, List.getElem?_eq_getElem (by omega)⟩
    have HE : Hid (rt (leafF L) a 1 = leafS s.data.toList) := Lib.hid (by rw [rt_one]; exact leafF_at L a s hs)
    have HS : Hid (s.size ≤ 1000000) := Lib.hid (hsz s (List.mem_of_getElem? hs))
    have c0 := hT.2 a s hs
    rw [HE.out]
    have HC := Lib.hid (rleaf_calls s (by have := HS.out; omega) w)
    clear hs ih hT HE
    go_enter Tryz.func59, Tryz.ntmps59
    go_wp2_with fail
    refine HC.out.mono ?_
    rintro en w2 ⟨rfl, b2⟩
    go_wp2_with fail
    go_ret
    exact ⟨rfl, b2⟩
  · have hk2 : 2 ≤ k := by omega
    have h1' : ¬ (k : Int) = 1 := by omega
    have hx3 := rt_two (leafF L) a hk2
    have hlt := half_lt hk2
    have hp := half_pos k
    have HH := Lib.hid (rhalf_calls k w hk2 (by omega))
    obtain ⟨h, hh⟩ : ∃ h, h = half k := ⟨_, rfl⟩
    obtain ⟨h2, hh2⟩ : ∃ h2, h2 = k - h := ⟨_, rfl⟩
    obtain ⟨c2, hc2⟩ : ∃ c2, c2 = c - h := ⟨_, rfl⟩
    rw [← hh] at hlt hp hx3 HH
    rw [← hh2] at hx3
    have HX := Lib.hid (show _ ∧ _ from ⟨hx3, hh2⟩)
    have HA : Hid (∀ V, TxtAt V g off L → Calls Tryz.prog 59 #[.slice (some ⟨g, off + a, none⟩) h c] V fun en w' => en = .returned (.string (bs (rt (leafF L) a h))) ∧ Below V.heap.size V w') := Lib.hid fun V hV => ih h hlt V hp (by omega) (by omega) hc hV
    have HB : Hid (∀ V, TxtAt V g off L → Calls Tryz.prog 59 #[.slice (some ⟨g, off + a + h, none⟩) h2 c2] V fun en w' => en = .returned (.string (bs (rt (leafF L) (a + h) h2))) ∧ Below V.heap.size V w') := Lib.hid fun V hV => by
      rw [Nat.add_assoc]
      exact ih h2 (by omega) V (by omega) (by omega) (by omega) (by omega) hV
    have HN : Hid (∀ V, Calls Tryz.prog 86 #[.string (bs (rt (leafF L) a h)), .string (bs (rt (leafF L) (a + h) h2))] V fun en w' => en = .returned (.string (bs (rt (leafF L) a k))) ∧ Below V.heap.size V w') := Lib.hid fun V => by
      rw [HX.out.1]
      exact rnode_calls _ _ (Nat.le_of_eq (rt_length _ _ _ (fun i _ _ => leafF_len L i) hp)) (Nat.le_of_eq (rt_length _ _ _ (fun i _ _ => leafF_len L i) (by omega))) V
    have hhk : (h : Int) ≤ (k : Int) := by omega
    have hhc : (h : Int) ≤ (c : Int) := by omega
    have hh0 : (0 : Int) ≤ (h : Int) := by omega
    have hkh : k - h = h2 := hh2.symm
    have hch : c - h = c2 := hc2.symm
    have hcn : ¬ c = h := by omega
    clear ih hx3 hT hlt hp hh hh2 hc2
    go_enter Tryz.func59, Tryz.ntmps59
    go_wp2_with fail
    refine HH.out.mono ?_
    rintro en wx ⟨rfl, rfl⟩
    go_wp2_with fail
    refine wp_region_S (S := fun V => TxtAt V g off L ∧ Below w.heap.size w V) (by kernel_rfl) ⟨HT.out.below (Below.refl _ _).drew, (Below.refl _ _).drew⟩ ?_
    refine AnyS.pure 0 (some 18) rfl rfl (by kernel_rfl) (by kernel_rfl) (by kernel_rfl) (fun _ _ _ h => h) (by kernel_rfl) (fun _ _ => rfl) ?_
    refine AnyS.pure 1 (some 19) rfl rfl (by kernel_rfl) (by kernel_rfl) (by kernel_rfl) (fun _ _ _ h => h) (by kernel_rfl) (fun _ _ => rfl) ?_
    simp only [Act.put, List.setIfInBounds_toArray, List.set_cons_zero, List.set_cons_succ]
    refine AnyS.pure 2 (some 20) (v := .slice (some ⟨g, off + a, none⟩) h c) rfl rfl (by kernel_rfl) (by kernel_rfl) (by kernel_rfl) (fun _ _ _ h => h) (by kernel_rfl) (fun V hV => by go_simp) ?_
    refine AnyS.call 3 (some 21) (.string (bs (rt (leafF L) a h))) rfl rfl (by kernel_rfl) (by kernel_rfl) (by kernel_rfl) (fun _ _ _ h => h) (by kernel_rfl) 59 Tryz.f59 Tryz.func59 (by kernel_rfl) (by kernel_rfl) _ _ rfl #[.slice (some ⟨g, off + a, none⟩) h c] (by first | (simp [Act.eval]; done) | (simp [Act.eval, Act.put]; done)) (fun V hV => (HA.out V hV.1).mono fun _ _ p => ⟨p.1, hV.1.below p.2, hV.2.trans (p.2.mono hV.2.size)⟩) ?_
    simp only [Act.put, List.setIfInBounds_toArray, List.set_cons_zero, List.set_cons_succ]
    refine AnyS.pure 4 (some 22) rfl rfl (by kernel_rfl) (by kernel_rfl) (by kernel_rfl) (fun _ _ _ h => h) (by kernel_rfl) (fun _ _ => rfl) ?_
    refine AnyS.pure 5 (some 23) rfl rfl (by kernel_rfl) (by kernel_rfl) (by kernel_rfl) (fun _ _ _ h => h) (by kernel_rfl) (fun _ _ => rfl) ?_
    simp only [Act.put, List.setIfInBounds_toArray, List.set_cons_zero, List.set_cons_succ]
    refine AnyS.pure 6 (some 24) (v := .slice (some ⟨g, off + a + h, none⟩) h2 c2) rfl rfl (by kernel_rfl) (by kernel_rfl) (by kernel_rfl) (fun _ _ _ h => h) (by kernel_rfl) (fun V hV => by go_simp) ?_
    refine AnyS.call 7 (some 25) (.string (bs (rt (leafF L) (a + h) h2))) rfl rfl (by kernel_rfl) (by kernel_rfl) (by kernel_rfl) (fun _ _ _ h => h) (by kernel_rfl) 59 Tryz.f59 Tryz.func59 (by kernel_rfl) (by kernel_rfl) _ _ rfl #[.slice (some ⟨g, off + a + h, none⟩) h2 c2] (by first | (simp [Act.eval]; done) | (simp [Act.eval, Act.put]; done)) (fun V hV => (HB.out V hV.1).mono fun _ _ p => ⟨p.1, hV.1.below p.2, hV.2.trans (p.2.mono hV.2.size)⟩) ?_
    simp only [Act.put, List.setIfInBounds_toArray, List.set_cons_zero, List.set_cons_succ]
    refine AnyS.call 8 (some 26) (.string (bs (rt (leafF L) a k))) rfl rfl (by kernel_rfl) (by kernel_rfl) (by kernel_rfl) (fun _ _ _ h => h) (by kernel_rfl) 86 Tryz.f86 Tryz.func86 (by kernel_rfl) (by kernel_rfl) _ _ rfl #[.string (bs (rt (leafF L) a h)), .string (bs (rt (leafF L) (a + h) h2))] (by first | (simp [Act.eval]; done) | (simp [Act.eval, Act.put]; done)) (fun V hV => (HN.out V).mono fun _ _ p => ⟨p.1, hV.1.below p.2, hV.2.trans (p.2.mono hV.2.size)⟩) ?_
    simp only [Act.put, List.setIfInBounds_toArray, List.set_cons_zero, List.set_cons_succ]
    refine AnyS.pure 9 (some 2) rfl rfl (by kernel_rfl) (by kernel_rfl) (by kernel_rfl) (fun _ _ _ h => h) (by kernel_rfl) (fun _ _ => rfl) ?_
    refine AnyS.done (by kernel_rfl) (fun V hV => ?_) _
    have HV := Lib.hid hV.2
    clear hV
    go_wp2_with fail
    go_ret
    exact ⟨rfl, HV.out⟩
end Go.Proofs.YtdoadmkaoboncaaGreatDoor.prf
end

section
/- A piece of a slice of texts. -/
namespace Go.Proofs.YtdoadmkaoboncaaGreatDoor.dig
open Go Go.RowKit

/-- The texts from k on, m of them. -/
theorem Strs.piece {w : World} {g off c : Nat} {L : List ByteArray} (h : Strs w (.slice (some ⟨g, off, none⟩) L.length c) L) (k m : Nat) (hk : k + m ≤ L.length) :
    Strs w (.slice (some ⟨g, off + k, none⟩) ((L.drop k).take m).length (c - k)) ((L.drop k).take m) := by
  have h1 := Seg.front (h.1.behind k (by omega)) m (by omega) (by simp)
  have e : ((L.drop k).take m).length = m := by rw [List.length_take, List.length_drop]; omega
  refine ⟨?_, fun s hs => h.2 s (List.mem_of_mem_drop (List.mem_of_mem_take hs))⟩
  rw [e, List.map_take, List.map_drop]
  simpa using h1
end Go.Proofs.YtdoadmkaoboncaaGreatDoor.dig
end

section
/- Out of RefV: dvC, rat_future, rat_low, rat_ok, rhead_range, rhead_low. -/
namespace Go.Proofs.YtdoadmkaoboncaaGreatDoor.prf
open Go Go.RowKit Go.Proofs.YtdoadmkaoboncaaGreatDoor.dig

section
variable {a : Option Addr} {n c : Nat}
/-- The document's vault as a value. -/
def dvC (v : Value) (fl : Int) : Value := .agg #[v, .int .i64 fl]

set_option maxRecDepth 100000 in
set_option maxHeartbeats 1000000 in
theorem rat_future (fl x : Int) (hx : x < 0 ∨ x ≥ n) (w : World) :
    Calls Tryz.prog 32 #[dvC (.slice a n c) fl, .int .i64 x] w fun en w' => en = .returned (.tuple #[.string ⟨#[]⟩, .int .i64 13]) ∧ Below w.heap.size w w' := by
  unfold dvC
  rcases hx with h1 | h1
  · go_enter Tryz.func32, Tryz.ntmps32
    go_wp2_with fail
    go_ret2
    exact ⟨rfl, (Below.refl _ _).alloc (Nat.le_refl _) _⟩
  · have h0 : ¬ x < 0 := by omega
    go_enter Tryz.func32, Tryz.ntmps32
    go_wp2_with fail
    go_ret2
    exact ⟨rfl, (Below.refl _ _).alloc (Nat.le_refl _) _⟩
set_option maxRecDepth 100000 in
set_option maxHeartbeats 1000000 in
theorem rat_low (fl x : Int) (h0 : ¬ x < 0) (h1 : ¬ x ≥ n) (h2 : x < fl) (w : World) :
    Calls Tryz.prog 32 #[dvC (.slice a n c) fl, .int .i64 x] w fun en w' => en = .returned (.tuple #[.string ⟨#[]⟩, .int .i64 14]) ∧ Below w.heap.size w w' := by
  unfold dvC
  go_enter Tryz.func32, Tryz.ntmps32
  go_wp2_with fail
  go_ret2
  exact ⟨rfl, (Below.refl _ _).alloc (Nat.le_refl _) _⟩
set_option maxRecDepth 100000 in
set_option maxHeartbeats 1000000 in
theorem rat_ok {L : List ByteArray} (fl : Int) (i : Nat) (s : ByteArray) (hs : L[i]? = some s) (h2 : ¬ (i : Int) < fl) (w : World) (hL : Strs w (.slice a L.length c) L) :
    Calls Tryz.prog 32 #[dvC (.slice a L.length c) fl, .int .i64 i] w fun en w' => en = .returned (.tuple #[.string s, .int .i64 0]) ∧ Below w.heap.size w w' := by
  unfold dvC
  have hil : i < L.length := (List.getElem?_eq_some_iff.1 hs).1
  obtain ⟨g, off, c', e, hg, hc1, hc2, hcell⟩ := hL.1.cells (by omega)
  injection e with e1 _ e3
  subst e1 e3
  have k0 : ∀ O, (w.alloc O).cell? ⟨g, off + i, none⟩ = some (.string s) := fun O => by
    rw [← hcell i (.string s) (by rw [List.getElem?_map, hs]; rfl)]
    unfold World.cell?
    rw [Below.heap_alloc w O g hg]
  obtain ⟨n, hn⟩ : ∃ n, n = L.length := ⟨_, rfl⟩
  rw [← hn] at hil ⊢
  have h0 : ¬ (i : Int) < 0 := by omega
  have h1 : ¬ (i : Int) ≥ (n : Int) := by omega
  have h3 : (i : Int) < (n : Int) := by omega
  have h4 : (0 : Int) ≤ (i : Int) := by omega
  have h5 : (n : Int) ≤ 9223372036854775807 := by unfold maxLen at hc2; omega
  clear hs hL hcell hn hg hc1 hc2
  go_enter Tryz.func32, Tryz.ntmps32
  go_wp2_with fail
  go_ret2
  exact ⟨rfl, (Below.refl _ _).alloc (Nat.le_refl _) _⟩

set_option maxRecDepth 100000 in
set_option maxHeartbeats 1000000 in
theorem rhead_range (fl x : Int) (hx : x < 0 ∨ x > n) (w : World) :
    Calls Tryz.prog 30 #[dvC (.slice a n c) fl, .int .i64 x] w fun en w' => en = .returned (.tuple #[.string ⟨#[]⟩, .int .i64 6]) ∧ Below w.heap.size w w' := by
  unfold dvC
  rcases hx with h1 | h1
  · go_enter Tryz.func30, Tryz.ntmps30
    go_wp2_with fail
    go_ret2
    exact ⟨rfl, (Below.refl _ _).alloc (Nat.le_refl _) _⟩
  · have h0 : ¬ x < 0 := by omega
    go_enter Tryz.func30, Tryz.ntmps30
    go_wp2_with fail
    go_ret2
    exact ⟨rfl, (Below.refl _ _).alloc (Nat.le_refl _) _⟩
set_option maxRecDepth 100000 in
set_option maxHeartbeats 1000000 in
theorem rhead_low (fl x : Int) (h0 : ¬ x < 0) (h1 : ¬ x > n) (h2 : x < fl) (w : World) :
    Calls Tryz.prog 30 #[dvC (.slice a n c) fl, .int .i64 x] w fun en w' => en = .returned (.tuple #[.string ⟨#[]⟩, .int .i64 14]) ∧ Below w.heap.size w w' := by
  unfold dvC
  go_enter Tryz.func30, Tryz.ntmps30
  go_wp2_with fail
  go_ret2
  exact ⟨rfl, (Below.refl _ _).alloc (Nat.le_refl _) _⟩
end
end Go.Proofs.YtdoadmkaoboncaaGreatDoor.prf
end

section
/- Out of RefW: strs_txt, rroot_none, rheadv_ok. -/
namespace Go.Proofs.YtdoadmkaoboncaaGreatDoor.prf
open Go Go.RowKit Go.Proofs.YtdoadmkaoboncaaGreatDoor.dig

section
variable {a : Option Addr} {n c : Nat}
theorem strs_txt {w : World} {a : Option Addr} {c : Nat} {L : List ByteArray} (h : Strs w (.slice a L.length c) L) (h0 : 0 < L.length) : ∃ g off, a = some ⟨g, off, none⟩ ∧ TxtAt w g off L := by
  obtain ⟨g, off, c', e, hg, _, _, hc⟩ := h.1.cells h0
  simp only [Value.slice.injEq] at e
  obtain ⟨rfl, _, rfl⟩ := e
  exact ⟨g, off, rfl, hg, fun i s hs => hc i (.string s) (by rw [List.getElem?_map, hs]; rfl)⟩

set_option maxRecDepth 100000 in
set_option maxHeartbeats 1000000 in
theorem rroot_none (a : Option Addr) (c : Nat) (f : Nat → List UInt8) (w : World) : Calls Tryz.prog 59 #[.slice a 0 c] w fun en w' => en = .returned (.string (bs (rtAll f 0))) ∧ Below w.heap.size w w' := by
  have HC := Lib.hid (rof_calls ⟨#[]⟩ (by decide) w)
  unfold rtAll
  rw [if_pos rfl]
  go_enter Tryz.func59, Tryz.ntmps59
  go_wp2_with fail
  refine HC.out.mono ?_
  rintro en w2 ⟨rfl, b2⟩
  go_wp2_with fail
  go_ret
  exact ⟨rfl, b2⟩

set_option maxRecDepth 100000 in
set_option maxHeartbeats 2000000 in
theorem rheadv_ok {a : Option Addr} {c : Nat} {L : List ByteArray} (fl : Int) (n : Nat) (hn : n ≤ L.length) (hf : ¬ (n : Int) < fl) (hLL : L.length ≤ 1000000) (w : World) (hL : Strs w (.slice a L.length c) L) :
    Calls Tryz.prog 30 #[dvC (.slice a L.length c) fl, .int .i64 n] w fun en w' => en = .returned (.tuple #[.string (bs (rtAll (leafF L) n)), .int .i64 0]) ∧ Below w.heap.size w w' := by
  unfold dvC
  have hsl : (a = none ∧ n = 0 ∧ c = 0) ∨ ∃ g off, a = some ⟨g, off, none⟩ := by
    rcases hL.1.2 with ⟨h, h0⟩ | ⟨g, off, cp, cur, h, _⟩
    · simp only [Value.slice.injEq] at h
      exact .inl ⟨h.1, by omega, h.2.2⟩
    · simp only [Value.slice.injEq] at h
      exact .inr ⟨g, off, h.1⟩
  have HP : Hid (∀ V, Below w.heap.size w V → Calls Tryz.prog 59 #[.slice a n c] V fun en w' => en = .returned (.string (bs (rtAll (leafF L) n))) ∧ Below V.heap.size V w') := Lib.hid fun V hV => by
    by_cases h0 : n = 0
    · subst h0; exact rroot_none a c _ V
    · obtain ⟨g, off, rfl, hT⟩ := strs_txt hL (by omega)
      obtain ⟨a', c', e, hc1, hc2⟩ := hL.1.slice
      simp only [Value.slice.injEq, true_and] at e
      obtain ⟨rfl, rfl⟩ := e
      have h1 := rroot_calls L hL.2 hLL g off n (a := 0) V (by omega) (by omega) (by omega) hc2 (hT.below hV)
      unfold rtAll
      rw [if_neg h0]
      exact h1
  obtain ⟨a', c', e, hc1, hc2⟩ := hL.1.slice
  simp only [Value.slice.injEq, true_and] at e
  obtain ⟨rfl, rfl⟩ := e
  obtain ⟨m, hm⟩ : ∃ m, m = L.length := ⟨_, rfl⟩
  obtain ⟨r, hr⟩ : ∃ r, r = rtAll (leafF L) n := ⟨_, rfl⟩
  rw [← hr] at HP ⊢
  rw [← hm] at hn hc1 hLL ⊢
  have h1 : ¬ (n : Int) < 0 := by omega
  have h2 : ¬ (n : Int) > (m : Int) := by omega
  have h5 : (n : Int) ≤ (c : Int) := by omega
  have h6 : (0 : Int) ≤ (n : Int) := by omega
  have h7 : (c : Int) ≤ 9223372036854775807 := by unfold maxLen at hc2; omega
  clear hL hm hc2 hn hc1 hr
  have HAL : Below w.heap.size w (w.alloc (.cells #[.slice a m c, .int .i64 fl] 29)) := (Below.refl _ _).alloc (Nat.le_refl _) _
  have HB := Lib.hid HAL
  clear HAL
  rcases hsl with ⟨rfl, rfl, rfl⟩ | ⟨g, off, rfl⟩
  · go_enter Tryz.func30, Tryz.ntmps30
    go_wp2_with fail
    refine (HP.out _ HB.out).mono ?_
    rintro en w1 ⟨rfl, b1⟩
    go_wp2_with fail
    go_ret2
    exact ⟨rfl, HB.out.trans (b1.mono HB.out.size)⟩
  · go_enter Tryz.func30, Tryz.ntmps30
    go_wp2_with fail
    refine (HP.out _ HB.out).mono ?_
    rintro en w1 ⟨rfl, b1⟩
    go_wp2_with fail
    go_ret2
    exact ⟨rfl, HB.out.trans (b1.mono HB.out.size)⟩
end
end Go.Proofs.YtdoadmkaoboncaaGreatDoor.prf
end

section
/- Out of PrfR: Tst, Tst.slice, Tst.below, Tst.cons. -/
namespace Go.Proofs.YtdoadmkaoboncaaGreatDoor.prf
open Go Go.RowKit Go.Proofs.YtdoadmkaoboncaaGreatDoor.dig

/-- Sums as texts in memory, r: the last one first. -/
def Tst (w : World) (v : Value) (r : List (List UInt8)) : Prop := Seg w 9 1 v r.length (r.reverse.map fun x => Value.string (bs x)) ∧ ∀ x ∈ r, x.length = 32
theorem Tst.slice {w : World} {v : Value} {r : List (List UInt8)} (h : Tst w v r) : ∃ a c, v = .slice a r.length c ∧ r.length ≤ c ∧ c ≤ maxLen := h.1.slice
theorem Tst.below {w w' : World} {v : Value} {r : List (List UInt8)} (h : Tst w v r) (b : Below w.heap.size w w') : Tst w' v r := ⟨h.1.below b (fun _ e => h.1.lt e), h.2⟩
theorem Tst.cons {w : World} {a : Option Addr} {n c : Nat} {s : List UInt8} {r : List (List UInt8)} (h : Tst w (.slice a n c) (s :: r)) : Tst w (.slice a r.length c) r ∧ n = r.length + 1 ∧ n ≤ c ∧ c ≤ maxLen ∧ s.length = 32 ∧ ∃ g off, a = some ⟨g, off, none⟩ ∧ g < w.heap.size ∧ w.cell? ⟨g, off + r.length, none⟩ = some (.string (bs s)) := by
  have hs : s.length = 32 := h.2 s (by simp)
  have hr : ∀ x ∈ r, x.length = 32 := fun x hx => h.2 x (by simp [hx])
  have hlen : (r.reverse.map fun x => Value.string (bs x)).length = r.length * 1 := by simp
  obtain ⟨a', c', e, h1, h2⟩ := h.1.slice
  simp only [Value.slice.injEq] at e
  obtain ⟨rfl, e2, rfl⟩ := e
  rw [List.length_cons] at e2 h1
  subst e2
  have hseg : Seg w 9 1 (.slice a (r.length + 1) c) (r.length + 1) ((r.reverse.map fun x => Value.string (bs x)) ++ [.string (bs s)]) := by
    have := h.1
    rwa [List.reverse_cons, List.map_append, List.length_cons] at this
  obtain ⟨g, off, c2, e3, hg, _, _, hc⟩ := hseg.cells (by omega)
  simp only [Value.slice.injEq] at e3
  obtain ⟨rfl, _, rfl⟩ := e3
  refine ⟨⟨?_, hr⟩, rfl, h1, h2, hs, g, off, rfl, hg, ?_⟩
  · have := Seg.front hseg r.length (by omega) (by simp)
    rwa [List.take_left' hlen] at this
  · exact hc r.length _ (by rw [List.getElem?_append_right (by omega)]; simp)
end Go.Proofs.YtdoadmkaoboncaaGreatDoor.prf
end

section
/- proof: the document's Leaf, Node, Up. -/
namespace Go.Proofs.YtdoadmkaoboncaaGreatDoor.prf
open Go Go.RowKit Go.Proofs.YtdoadmkaoboncaaGreatDoor.dig

theorem up_le {x : List UInt8} (hx : x.length ≤ 32) (r : List (List UInt8)) (i n : Nat) : (up [] x r i n).1.length ≤ 32 := by
  cases r with
  | nil => by_cases h : n = 1 <;> simp [up, h, hx]
  | cons s r =>
    by_cases h : n = 1
    · simp [up, h, hx]
    · by_cases hi : i < half n
      · rw [up_left _ x s r h hi]; exact Nat.le_of_eq (nodeS_length _ _)
      · rw [up_right _ x s r h hi]; exact Nat.le_of_eq (nodeS_length _ _)

theorem empty_len (r : List (List UInt8)) : ((r.length : Int) == 0) = r.isEmpty := by
  cases r
  · rfl
  · rw [List.isEmpty_cons, beq_eq_false_iff_ne, List.length_cons]; omega

set_option maxRecDepth 100000 in
set_option maxHeartbeats 1000000 in
theorem rup_one (s : ByteArray) (i : Int) (a : Option Addr) (l c : Nat) (w : World) (e : Bool) (he : ((l : Int) == 0) = e) : Calls Tryz.prog 60 #[.int .i64 i, .int .i64 1, .string s, .slice a l c] w fun en w' => en = .returned (.tuple #[.string s, .bool e]) ∧ w = w' := by
  go_enter Tryz.func60, Tryz.ntmps60
  go_wp2_with fail
  go_ret2
  exact ⟨rfl, rfl⟩
set_option maxRecDepth 100000 in
set_option maxHeartbeats 1000000 in
theorem rup_none (s : ByteArray) (i n : Int) (hn : n ≠ 1) (a : Option Addr) (c : Nat) (w : World) : Calls Tryz.prog 60 #[.int .i64 i, .int .i64 n, .string s, .slice a 0 c] w fun en w' => en = .returned (.tuple #[.string ⟨#[]⟩, .bool false]) ∧ w = w' := by
  go_enter Tryz.func60, Tryz.ntmps60
  go_wp2_with fail
  go_ret2
  exact ⟨rfl, rfl⟩

set_option maxRecDepth 100000 in
set_option maxHeartbeats 2000000 in
theorem rup_calls {x : List UInt8} (hx : x.length = 32) : ∀ (r : List (List UInt8)) (i n : Nat) (a : Option Addr) (c : Nat) (w : World), Tst w (.slice a r.length c) r → i < n → n ≤ 1000000 →
    Calls Tryz.prog 60 #[.int .i64 i, .int .i64 n, .string (bs x), .slice a r.length c] w fun en w' => en = .returned (.tuple #[.string (bs (up [] x r i n).1), .bool (up [] x r i n).2]) ∧ Below w.heap.size w w' := by
  intro r
  induction r with
  | nil =>
    intro i n a c w hS hi hn
    by_cases h1 : n = 1
    · subst h1
      rw [up_one]
      exact (rup_one (bs x) i a 0 c w true rfl).mono fun _ _ p => ⟨p.1, p.2 ▸ Below.refl _ _⟩
    · rw [up_nil _ _ _ h1]
      exact (rup_none (bs x) i n (by omega) a c w).mono fun _ _ p => ⟨p.1, p.2 ▸ Below.refl _ _⟩
  | cons s r ih =>
    intro i n a c w hS hi hn
    by_cases h1 : n = 1
    · subst h1
      rw [up_one]
      exact (rup_one (bs x) i a _ c w _ (empty_len (s :: r))).mono fun _ _ p => ⟨p.1, p.2 ▸ Below.refl _ _⟩
    · have h2 : 2 ≤ n := by omega
      have h3 : ¬ (n : Int) = 1 := by omega
      obtain ⟨k, hk⟩ : ∃ k, k = half n := ⟨_, rfl⟩
      have hk1 := half_lt h2
      have hk0 := half_pos n
      rw [← hk] at hk1 hk0
      obtain ⟨hT, hm, hmc, hcm, hsl, g, off, rfl, hg, hcell⟩ := hS.cons
      obtain ⟨m, hm'⟩ : ∃ m, m = (s :: r).length := ⟨_, rfl⟩
      rw [← hm'] at hm hmc ⊢
      obtain ⟨l, hl⟩ : ∃ l, l = r.length := ⟨_, rfl⟩
      rw [← hl] at hm hcell hT
      have HT := Lib.hid hT
      have HH : ∀ V, Hid (Calls Tryz.prog 85 #[.int .i64 n] V fun en w' => en = .returned (.int .i64 k) ∧ V = w') := fun V => Lib.hid (by rw [hk]; exact rhalf_calls n V h2 (by omega))
      have hcm2 : (c : Int) ≤ 9223372036854775807 := by unfold maxLen at hcm; omega
      have m1 : ¬ (m : Int) = 0 := by omega
      have m2 : (m : Int) - 1 = (l : Int) := by omega
      have m3 : (0 : Int) ≤ (l : Int) ∧ (l : Int) < (m : Int) := by omega
      have m4 : (l : Int) ≤ (c : Int) := by omega
      have m5 : (m : Int) ≤ 9223372036854775807 := by omega
      have m6 : (l : Int) < (m : Int) := by omega
      have m7 : (0 : Int) ≤ (l : Int) := by omega
      have ih' := fun i n V => ih i n (some ⟨g, off, none⟩) c V
      rw [← hl] at ih'
      obtain ⟨sx, hsx⟩ : ∃ sx, sx = bs x := ⟨_, rfl⟩
      rw [← hsx] at ih' ⊢
      obtain ⟨ss, hss⟩ : ∃ ss, ss = bs s := ⟨_, rfl⟩
      rw [← hss] at hcell
      by_cases hik : i < k
      · have e := up_left [] x s r h1 (by rw [← hk]; exact hik)
        rw [← hk] at e
        have HI := Lib.hid (fun V hT' => ih' i k V hT' hik (by omega))
        have hu := up_le (Nat.le_of_eq hx) r i k
        have HN : ∀ V, Hid (Calls Tryz.prog 86 #[.string (bs (up [] x r i k).1), .string ss] V fun en w' => en = .returned (.string (bs (up [] x (s :: r) i n).1)) ∧ Below V.heap.size V w') := fun V => Lib.hid (by rw [e, hss]; exact rnode_calls _ _ hu (Nat.le_of_eq hsl) V)
        have HE : Hid ((up [] x (s :: r) i n).2 = (up [] x r i k).2) := Lib.hid (by rw [e])
        have hik2 : (i : Int) < (k : Int) := by omega
        clear ih ih' hk hm hm' hS hT hsl hl e hu hsx hss hx hi hn hmc hcm
        generalize (up [] x (s :: r) i n).2 = ub' at *
        generalize bs (up [] x (s :: r) i n).1 = su' at *
        generalize bs (up [] x r i k).1 = su at *
        generalize (up [] x r i k).2 = ub at *
        rw [HE.out]
        go_enter Tryz.func60, Tryz.ntmps60
        go_wp2_with fail
        refine (HH w).out.mono ?_
        rintro en w' ⟨rfl, rfl⟩
        go_wp2_with fail
        refine (HI.out w HT.out).mono ?_
        rintro en w1 ⟨rfl, b1⟩
        go_wp2_with fail
        refine (HN w1).out.mono ?_
        rintro en w2 ⟨rfl, b2⟩
        go_wp2_with fail
        go_ret2
        exact ⟨rfl, b1.trans (b2.mono b1.size)⟩
      · have e := up_right [] x s r h1 (by rw [← hk]; exact hik)
        rw [← hk] at e
        obtain ⟨i', hi'⟩ : ∃ i', i' = i - k := ⟨_, rfl⟩
        obtain ⟨n', hn'⟩ : ∃ n', n' = n - k := ⟨_, rfl⟩
        rw [← hi', ← hn'] at e
        have HI := Lib.hid (fun V hT' => ih' i' n' V hT' (by omega) (by omega))
        have hu := up_le (Nat.le_of_eq hx) r i' n'
        have HN : ∀ V, Hid (Calls Tryz.prog 86 #[.string ss, .string (bs (up [] x r i' n').1)] V fun en w' => en = .returned (.string (bs (up [] x (s :: r) i n).1)) ∧ Below V.heap.size V w') := fun V => Lib.hid (by rw [e, hss]; exact rnode_calls _ _ (Nat.le_of_eq hsl) hu V)
        have HE : Hid ((up [] x (s :: r) i n).2 = (up [] x r i' n').2) := Lib.hid (by rw [e])
        have hik2 : ¬ (i : Int) < (k : Int) := by omega
        have a1 : (i : Int) - (k : Int) = (i' : Int) := by omega
        have a2 : (n : Int) - (k : Int) = (n' : Int) := by omega
        have a3 : (i' : Int) ≤ 1000000 := by omega
        have a4 : (n' : Int) ≤ 1000000 := by omega
        clear ih ih' hk hm hm' hS hT hsl hl e hu hsx hss hx hi hn hmc hcm hi' hn'
        generalize (up [] x (s :: r) i n).2 = ub' at *
        generalize bs (up [] x (s :: r) i n).1 = su' at *
        generalize bs (up [] x r i' n').1 = su at *
        generalize (up [] x r i' n').2 = ub at *
        rw [HE.out]
        go_enter Tryz.func60, Tryz.ntmps60
        go_wp2_with fail
        refine (HH w).out.mono ?_
        rintro en w' ⟨rfl, rfl⟩
        go_wp2_with fail
        refine (HI.out w HT.out).mono ?_
        rintro en w1 ⟨rfl, b1⟩
        go_wp2_with fail
        refine (HN w1).out.mono ?_
        rintro en w2 ⟨rfl, b2⟩
        go_wp2_with fail
        go_ret2
        exact ⟨rfl, b1.trans (b2.mono b1.size)⟩
end Go.Proofs.YtdoadmkaoboncaaGreatDoor.prf
end

section
/- proof: the document's Both. -/
namespace Go.Proofs.YtdoadmkaoboncaaGreatDoor.prf
open Go Go.RowKit Go.Proofs.YtdoadmkaoboncaaGreatDoor.dig

theorem both_le {o : List UInt8} (ho : o.length ≤ 32) : ∀ (r : List (List UInt8)) (f : Bool) (m n : Nat), (∀ x ∈ r, x.length = 32) → (both [] o r f m n).1.length ≤ 32 ∧ (both [] o r f m n).2.1.length ≤ 32
  | [], f, m, n, _ => by by_cases h : m = n ∧ f = true <;> simp [both, h, ho]
  | s :: r, f, m, n, hr => by
    have hs := hr s (by simp)
    have hr' : ∀ x ∈ r, x.length = 32 := fun x hx => hr x (by simp [hx])
    by_cases h : m = n
    · subst h
      cases f
      · rw [both_all]; exact ⟨Nat.le_of_eq hs, Nat.le_of_eq hs⟩
      · rw [both_known]; exact ⟨ho, ho⟩
    · by_cases hm : m ≤ half n
      · rw [both_left [] o s r f h hm]; exact ⟨(both_le ho r f m (half n) hr').1, Nat.le_of_eq (nodeS_length _ _)⟩
      · rw [both_right [] o s r f h hm]; exact ⟨Nat.le_of_eq (nodeS_length _ _), Nat.le_of_eq (nodeS_length _ _)⟩

set_option maxRecDepth 100000 in
set_option maxHeartbeats 1000000 in
theorem rboth_known (s : ByteArray) (n : Int) (a : Option Addr) (l c : Nat) (w : World) (e : Bool) (he : ((l : Int) == 0) = e) : Calls Tryz.prog 65 #[.int .i64 n, .int .i64 n, .string s, .bool true, .slice a l c] w fun en w' => en = .returned (.tuple #[.string s, .string s, .bool e]) ∧ w = w' := by
  go_enter Tryz.func65, Tryz.ntmps65
  go_wp2_with fail
  go_ret3
  exact ⟨rfl, rfl⟩
set_option maxRecDepth 100000 in
set_option maxHeartbeats 1000000 in
theorem rboth_none (s : ByteArray) (m n : Int) (f : Bool) (h : ¬ (m = n ∧ f = true)) (a : Option Addr) (c : Nat) (w : World) : Calls Tryz.prog 65 #[.int .i64 m, .int .i64 n, .string s, .bool f, .slice a 0 c] w fun en w' => en = .returned (.tuple #[.string ⟨#[]⟩, .string ⟨#[]⟩, .bool false]) ∧ w = w' := by
  obtain ⟨b, hb⟩ : ∃ b, (m == n) = b := ⟨_, rfl⟩
  cases b
  · have h1 : ¬ m = n := by simpa using hb
    clear h
    go_enter Tryz.func65, Tryz.ntmps65
    go_wp2_with fail
    go_ret3
    exact ⟨rfl, rfl⟩
  · obtain rfl : m = n := by simpa using hb
    obtain rfl : f = false := by cases f; rfl; exact absurd ⟨rfl, rfl⟩ h
    clear h
    go_enter Tryz.func65, Tryz.ntmps65
    go_wp2_with fail
    go_ret3
    exact ⟨rfl, rfl⟩

set_option maxRecDepth 100000 in
set_option maxHeartbeats 2000000 in
theorem rboth_calls {o : List UInt8} (ho : o.length = 32) : ∀ (r : List (List UInt8)) (f : Bool) (m n : Nat) (a : Option Addr) (c : Nat) (w : World), Tst w (.slice a r.length c) r → 1 ≤ m → m ≤ n → n ≤ 1000000 →
    Calls Tryz.prog 65 #[.int .i64 m, .int .i64 n, .string (bs o), .bool f, .slice a r.length c] w fun en w' => en = .returned (.tuple #[.string (bs (both [] o r f m n).1), .string (bs (both [] o r f m n).2.1), .bool (both [] o r f m n).2.2]) ∧ Below w.heap.size w w' := by
  intro r
  induction r with
  | nil =>
    intro f m n a c w hS hm0 hm hn
    by_cases h : m = n ∧ f = true
    · obtain ⟨rfl, rfl⟩ := h
      rw [both_known]
      exact (rboth_known (bs o) m a 0 c w true rfl).mono fun _ _ p => ⟨p.1, p.2 ▸ Below.refl _ _⟩
    · rw [both_nil _ _ _ h]
      exact (rboth_none (bs o) m n f (fun e => h ⟨by omega, e.2⟩) a c w).mono fun _ _ p => ⟨p.1, p.2 ▸ Below.refl _ _⟩
  | cons s r ih =>
    intro f m n a c w hS hm0 hm hn
    by_cases hkn : m = n ∧ f = true
    · obtain ⟨rfl, rfl⟩ := hkn
      rw [both_known]
      exact (rboth_known (bs o) m a _ c w _ (empty_len (s :: r))).mono fun _ _ p => ⟨p.1, p.2 ▸ Below.refl _ _⟩
    · have hr : ∀ x ∈ r, x.length = 32 := fun x hx => hS.2 x (by simp [hx])
      obtain ⟨hT, hq, hqc, hcm, hsl, g, off, rfl, hg, hcell⟩ := hS.cons
      obtain ⟨q, hq'⟩ : ∃ q, q = (s :: r).length := ⟨_, rfl⟩
      rw [← hq'] at hq hqc ⊢
      obtain ⟨l, hl⟩ : ∃ l, l = r.length := ⟨_, rfl⟩
      rw [← hl] at hq hcell hT
      have HT := Lib.hid hT
      have hcm2 : (c : Int) ≤ 9223372036854775807 := by unfold maxLen at hcm; omega
      have m1 : ¬ (q : Int) = 0 := by omega
      have m2 : (q : Int) - 1 = (l : Int) := by omega
      have m3 : (0 : Int) ≤ (l : Int) ∧ (l : Int) < (q : Int) := by omega
      have m4 : (l : Int) ≤ (c : Int) := by omega
      have m5 : (q : Int) ≤ 9223372036854775807 := by omega
      have m6 : (l : Int) < (q : Int) := by omega
      have m7 : (0 : Int) ≤ (l : Int) := by omega
      obtain ⟨sx, hsx⟩ : ∃ sx, sx = bs o := ⟨_, rfl⟩
      obtain ⟨ss, hss⟩ : ∃ ss, ss = bs s := ⟨_, rfl⟩
      rw [← hss] at hcell
      by_cases h : m = n
      · subst h
        obtain rfl : f = false := by cases f; rfl; exact absurd ⟨rfl, rfl⟩ hkn
        rw [both_all]
        rw [← hsx]
        show Calls Tryz.prog 65 _ w fun en w' => en = .returned (.tuple #[.string (bs s), .string (bs s), .bool r.isEmpty]) ∧ Below w.heap.size w w'
        rw [← hss]
        obtain ⟨e, he⟩ : ∃ e, ((l : Int) == 0) = e := ⟨_, rfl⟩
        have HE : Hid (r.isEmpty = e) := Lib.hid (by rw [← he, hl, empty_len])
        rw [HE.out]
        clear ih hkn hr hq hq' hqc hcm hl hsx hss hS hT hsl hm0 hm hn ho
        go_enter Tryz.func65, Tryz.ntmps65
        go_wp2_with fail
        go_ret3
        exact ⟨rfl, Below.refl _ _⟩
      · have h2 : 2 ≤ n := by omega
        have h3 : ¬ (m : Int) = (n : Int) := by omega
        have h4 : ((m : Int) == (n : Int)) = false := by rw [beq_eq_false_iff_ne]; omega
        obtain ⟨k, hk⟩ : ∃ k, k = half n := ⟨_, rfl⟩
        have hk1 := half_lt h2
        have hk0 := half_pos n
        rw [← hk] at hk1 hk0
        have HH : ∀ V, Hid (Calls Tryz.prog 85 #[.int .i64 n] V fun en w' => en = .returned (.int .i64 k) ∧ V = w') := fun V => Lib.hid (by rw [hk]; exact rhalf_calls n V h2 (by omega))
        have ih' := fun f m n V => ih f m n (some ⟨g, off, none⟩) c V
        rw [← hl] at ih'
        rw [← hsx] at ih' ⊢
        by_cases hik : m ≤ k
        · have e := both_left [] o s r f h (by rw [← hk]; exact hik)
          rw [← hk] at e
          have HI := Lib.hid (fun V hT' => ih' f m k V hT' hm0 hik (by omega))
          have hu := both_le (Nat.le_of_eq ho) r f m k hr
          have HN : ∀ V, Hid (Calls Tryz.prog 86 #[.string (bs (both [] o r f m k).2.1), .string ss] V fun en w' => en = .returned (.string (bs (both [] o (s :: r) f m n).2.1)) ∧ Below V.heap.size V w') := fun V => Lib.hid (by rw [e, hss]; exact rnode_calls _ _ hu.2 (Nat.le_of_eq hsl) V)
          have HE1 : Hid ((both [] o (s :: r) f m n).1 = (both [] o r f m k).1) := Lib.hid (by rw [e])
          have HE2 : Hid ((both [] o (s :: r) f m n).2.2 = (both [] o r f m k).2.2) := Lib.hid (by rw [e])
          have hik2 : (m : Int) ≤ (k : Int) := by omega
          rw [HE1.out, HE2.out]
          clear ih ih' hk hq hq' hS hT hsl hl e hu hsx hss ho hm0 hm hn hqc hcm hr hkn HE1 HE2
          generalize bs (both [] o (s :: r) f m n).2.1 = su' at *
          generalize bs (both [] o r f m k).1 = s1 at *
          generalize bs (both [] o r f m k).2.1 = s2 at *
          generalize (both [] o r f m k).2.2 = ub at *
          go_enter Tryz.func65, Tryz.ntmps65
          go_wp2_with fail
          refine (HH w).out.mono ?_
          rintro en w' ⟨rfl, rfl⟩
          go_wp2_with fail
          refine (HI.out w HT.out).mono ?_
          rintro en w1 ⟨rfl, b1⟩
          go_wp2_with fail
          refine (HN w1).out.mono ?_
          rintro en w2 ⟨rfl, b2⟩
          go_wp2_with fail
          go_ret3
          exact ⟨rfl, b1.trans (b2.mono b1.size)⟩
        · have e := both_right [] o s r f h (by rw [← hk]; exact hik)
          rw [← hk] at e
          obtain ⟨m', hm'⟩ : ∃ m', m' = m - k := ⟨_, rfl⟩
          obtain ⟨n', hn'⟩ : ∃ n', n' = n - k := ⟨_, rfl⟩
          rw [← hm', ← hn'] at e
          have HI := Lib.hid (fun V hT' => ih' false m' n' V hT' (by omega) (by omega) (by omega))
          have hu := both_le (Nat.le_of_eq ho) r false m' n' hr
          have HN1 : ∀ V, Hid (Calls Tryz.prog 86 #[.string ss, .string (bs (both [] o r false m' n').1)] V fun en w' => en = .returned (.string (bs (both [] o (s :: r) f m n).1)) ∧ Below V.heap.size V w') := fun V => Lib.hid (by rw [e, hss]; exact rnode_calls _ _ (Nat.le_of_eq hsl) hu.1 V)
          have HN2 : ∀ V, Hid (Calls Tryz.prog 86 #[.string ss, .string (bs (both [] o r false m' n').2.1)] V fun en w' => en = .returned (.string (bs (both [] o (s :: r) f m n).2.1)) ∧ Below V.heap.size V w') := fun V => Lib.hid (by rw [e, hss]; exact rnode_calls _ _ (Nat.le_of_eq hsl) hu.2 V)
          have HE2 : Hid ((both [] o (s :: r) f m n).2.2 = (both [] o r false m' n').2.2) := Lib.hid (by rw [e])
          have hik2 : ¬ (m : Int) ≤ (k : Int) := by omega
          have a1 : (m : Int) - (k : Int) = (m' : Int) := by omega
          have a2 : (n : Int) - (k : Int) = (n' : Int) := by omega
          have a3 : (m' : Int) ≤ 1000000 := by omega
          have a4 : (n' : Int) ≤ 1000000 := by omega
          rw [HE2.out]
          clear ih ih' hk hq hq' hS hT hsl hl e hu hsx hss ho hm0 hm hn hqc hcm hr hkn HE2 hm' hn'
          generalize bs (both [] o (s :: r) f m n).1 = su1 at *
          generalize bs (both [] o (s :: r) f m n).2.1 = su2 at *
          generalize bs (both [] o r false m' n').1 = s1 at *
          generalize bs (both [] o r false m' n').2.1 = s2 at *
          generalize (both [] o r false m' n').2.2 = ub at *
          go_enter Tryz.func65, Tryz.ntmps65
          go_wp2_with fail
          refine (HH w).out.mono ?_
          rintro en w' ⟨rfl, rfl⟩
          go_wp2_with fail
          refine (HI.out w HT.out).mono ?_
          rintro en w1 ⟨rfl, b1⟩
          go_wp2_with fail
          refine (HN1 w1).out.mono ?_
          rintro en w2 ⟨rfl, b2⟩
          go_wp2_with fail
          refine (HN2 w2).out.mono ?_
          rintro en w3 ⟨rfl, b3⟩
          go_wp2_with fail
          go_ret3
          have b12 := b1.trans (b2.mono b1.size)
          exact ⟨rfl, b12.trans (b3.mono b12.size)⟩
end Go.Proofs.YtdoadmkaoboncaaGreatDoor.prf
end

