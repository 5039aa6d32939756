/- Texts laid into one: TreeW, Strs, Lvs, Wf, Ints, TreeQ. -/
import Derived.Test.YtiobdhkadbipkaaDoorY002
import Derived.Test.YtiobdhkadbipkaaDoorY003
import Derived.Test.YtiobdhkadbipkaaDoorY000
import Derived.SliceStrings
import Derived.ProofKit
import Derived.OpenShut
import Derived.Deep.MidRow
import Derived.Deep.SlicePairs
import Derived.ChangeOld
import Derived.Test.YtiobdhkadbipkaaDoorY004
import Derived.ChangeSlices
import Derived.Test.YtiobdhkadbipkaaDoorRows
import Derived.LaidMore
import Derived.Stop.LaidErr
section
/- tree: other sums beyond the leaves. -/
namespace Go.Proofs.YtiobdhkadbipkaaDoor.dig
open Go Go.RowKit

/-- Sums beyond the leaves make no difference. -/
theorem Tr.fcongr {B : Nat} {F : Nat → Prop} {w : World} {b n fl : Nat} {f f' : Nat → List UInt8} (h : Tr B F w b n fl f) (e : ∀ i, i < n → f i = f' i) (hl : ∀ i, (f' i).length = 32) : Tr B F w b n fl f' := by
  obtain ⟨rv, sv, idle, r⟩ := h.raw
  refine ⟨⟨rv, sv, idle, r.tree, r.rows, fun j hj => ?_, r.apart, r.fb, r.fr, r.fs, r.idle⟩, h.rt, h.hF, hl, h.small, h.floor⟩
  have hc : flat (nodeC f j) (gone fl j) (n / 2 ^ j - gone fl j) = flat (nodeC f' j) (gone fl j) (n / 2 ^ j - gone fl j) := by
    refine flat_congr fun i _ hi => ?_
    have h0 : 0 < 2 ^ j := Nat.pow_pos (by decide)
    have h1 : (i + 1) * 2 ^ j ≤ n := by
      have h2 : i + 1 ≤ n / 2 ^ j := by omega
      exact Nat.le_trans (Nat.mul_le_mul_right _ h2) (Nat.div_mul_le_self _ _)
    rw [Nat.succ_mul] at h1
    unfold nodeC
    rw [rt_congr f f' (2 ^ j) (i * 2 ^ j) h0 (fun x _ hx => e x (by omega))]
  rw [← hc]
  exact r.sums j hj
theorem path_all {f : Nat → List UInt8} (h : ∀ i, (f i).length = 32) : ∀ (n i a : Nat) (x : List UInt8), x ∈ path f i a n → x.length = 32 := by
  intro n
  induction n using Nat.strongRecOn with
  | _ n ih =>
    intro i a x hx
    rw [path] at hx
    by_cases h2 : 2 ≤ n
    · rw [dif_pos h2] at hx
      have l1 := half_lt h2
      have l2 := half_pos n
      split at hx
      · rcases List.mem_append.1 hx with hx | hx
        · exact ih _ l1 _ _ _ hx
        · rw [List.mem_singleton.1 hx]; exact rt_len h _ _ (by omega)
      · rcases List.mem_append.1 hx with hx | hx
        · exact ih _ (by omega) _ _ _ hx
        · rw [List.mem_singleton.1 hx]; exact rt_len h _ _ l2
    · rw [dif_neg h2] at hx; cases hx
/-- A sum in a slice of sums. -/
theorem seg_sum {w : World} {a : Option Addr} {n c : Nat} {l : List (List UInt8)} (h : Seg w 32 32 (.slice a n c) n (sumsC l)) (hl : ∀ x ∈ l, x.length = 32) {t : Nat} {x : List UInt8} (hx : l[t]? = some x) (hn : 0 < n) :
    ∃ g off, a = some ⟨g, off, none⟩ ∧ g < w.heap.size ∧ w.rangeAt g (off + t * 32) (x.map byteV) := by
  obtain ⟨g, off, c', e, hg, _, _, hc⟩ := h.cells hn
  simp only [Value.slice.injEq] at e
  obtain ⟨rfl, _, rfl⟩ := e
  exact ⟨g, off, rfl, hg, fun j u hj => by rw [Nat.add_assoc]; exact hc _ u (sumsC_at l t x j u hl hx hj)⟩
end Go.Proofs.YtiobdhkadbipkaaDoor.dig
end

section
/- A slice of strings that is handed in: what a law may read of it. -/
namespace Go.Proofs.YtiobdhkadbipkaaDoor
open Go.ChangeShapes Go.WideShapes Go.ChangeAt Go.RowKit

/-- The strings T lie from a on. -/
def ArgS (w : World) (a : Option Addr) (len cap : Nat) (T : Nat → ByteArray) : Prop :=
  len ≤ cap ∧ cap ≤ maxLen ∧ ∀ i, i < len → ∃ b o, a = some ⟨b, o, none⟩ ∧ b < w.heap.size ∧ w.cell? ⟨b, o + i, none⟩ = some (.string (T i)) ∧ (T i).size ≤ maxLen

theorem openedStrs {H : Type} {enc : TypeId × Value → H} {w : World} {spare : Nat → Bool} {held : Bool} {a : Option Addr} {len cap : Nat} {d : DataW H} {p : List MemPlace} (h : DataW.Trod enc Tryd.prog w 0 spare held 22 (.slice a len cap) d p) : ∃ T, ArgS w a len cap T := by
  obtain ⟨fuel, h⟩ := h
  rcases open_strings Tryd.underlying22 Tryd.underlying9 (by kernel_rfl) h with ⟨hn, _⟩ | ⟨g, l, c, zs, hn, _, hlc, hcm, hm, _, hall, hwf⟩
  · simp [Value.cells] at hn
    obtain ⟨rfl, rfl, rfl⟩ := hn
    exact ⟨fun _ => ByteArray.empty, Nat.le_refl _, Nat.zero_le _, fun i hi => absurd hi (Nat.not_lt_zero _)⟩
  · simp [Value.cells] at hn
    obtain ⟨rfl, rfl, rfl⟩ := hn
    refine ⟨fun i => zs.getD i ByteArray.empty, hlc, hcm, fun i hi => ?_⟩
    have hi' : i < zs.length := by rw [hm]; split <;> omega
    have h0 := hall i hi'
    have hs : g.spot = none := by
      have h00 := hall 0 (by omega)
      simpa [Addr.add] using World.cell?_spot h00
    obtain ⟨gb, go, gs⟩ := g
    obtain rfl : gs = none := hs
    have e0 : (⟨gb, go, none⟩ : Addr).add i = ⟨gb, go + i, none⟩ := Addr.add_mid _ _ _
    rw [e0] at h0
    have hw : (zs.getD i ByteArray.empty).size ≤ maxLen := hwf _ (by
      have : zs.getD i ByteArray.empty = zs[i] := by simp [hi']
      rw [this]; exact List.getElem_mem hi')
    have hb : gb < w.heap.size := by
      rcases Nat.lt_or_ge gb w.heap.size with k | k
      · exact k
      · unfold World.cell? at h0
        simp [Array.getElem?_eq_none k] at h0
    exact ⟨gb, go, rfl, hb, h0, hw⟩

end Go.Proofs.YtiobdhkadbipkaaDoor
end

section
/- tree's laws: Leaves. -/
namespace Go.Proofs.YtiobdhkadbipkaaDoor.dig
open Go Go.RowKit

theorem strInfo : ∃ i z, Tryd.prog.info? 9 = some i ∧ i.zero = some z ∧ i.size = 1 ∧ z.cells.size = 1 ∧ i.bytes = 16 := by
  have h2 : (Tryd.prog.info? 9).map (fun i => (i.zero.map (fun z => z.cells.size), i.size, i.bytes)) = some (some 1, 1, 16) := by kernel_rfl
  obtain ⟨i, hi, e⟩ := Option.map_eq_some_iff.1 h2
  simp only [Prod.mk.injEq] at e
  obtain ⟨e1, e2, e3⟩ := e
  obtain ⟨z, hz, e4⟩ := Option.map_eq_some_iff.1 e1
  exact ⟨i, z, hi, hz, e2, e4, e3⟩

theorem enc_size (k : Nat) (h1 : k < 128) : (Utf8.encode (k : Int)).size = 1 := by
  unfold Utf8.encode
  have h2 : (k : Int).toNat = k := by omega
  have h3 : Utf8.valid (k : Int) = true := by
    unfold Utf8.valid
    simp
    omega
  rw [if_pos h3, h2, if_pos (by omega)]
  rfl

theorem and_mask (n : Int) (k : Nat) (hk : k ≤ 8) : bits .and .i64 n ((2 ^ k : Nat) - 1 : Int) = n % ((2 ^ k : Nat) : Int) := by
  have h255 : (BitVec.ofInt 64 ((2 ^ k : Nat) - 1 : Int)).toNat = 2 ^ k - 1 := by
    have : k = 0 ∨ k = 1 ∨ k = 2 ∨ k = 3 ∨ k = 4 ∨ k = 5 ∨ k = 6 ∨ k = 7 ∨ k = 8 := by omega
    rcases this with h | h | h | h | h | h | h | h | h <;> subst h <;> decide
  have key : (BitVec.ofInt 64 n &&& BitVec.ofInt 64 ((2 ^ k : Nat) - 1 : Int)).toNat = (n % ((2 ^ 64 : Nat) : Int)).toNat % 2 ^ k := by
    rw [BitVec.toNat_and, BitVec.toNat_ofInt, h255, Nat.and_two_pow_sub_one_eq_mod]
  show IntKind.i64.wrap ((BitVec.ofInt 64 n &&& BitVec.ofInt 64 ((2 ^ k : Nat) - 1 : Int)).toNat : Nat) = n % ((2 ^ k : Nat) : Int)
  rw [key, IntKind.wrap_i64]
  have : k = 0 ∨ k = 1 ∨ k = 2 ∨ k = 3 ∨ k = 4 ∨ k = 5 ∨ k = 6 ∨ k = 7 ∨ k = 8 := by omega
  rcases this with h | h | h | h | h | h | h | h | h <;> subst h <;> simp only [Nat.reducePow] <;> omega
theorem and255 (n : Int) : bits .and .i64 n 255 = n % 256 := and_mask n 8 (by decide)
theorem and7 (n : Int) : bits .and .i64 n 7 = n % 8 := and_mask n 3 (by decide)

def Stay (p : Prop) := p
theorem stay {p : Prop} (h : Stay p) : p := h
/-- Texts were answered, in new memory. -/
def LvsPost (w : World) (m : Nat) (en : Ending) (w' : World) : Prop :=
  ∃ v L, en = .returned v ∧ Strs w' v L ∧ L.length = m ∧ (∀ x, v.ownBlock = some x → w.heap.size ≤ x) ∧ Below w.heap.size w w' ∧ v ≠ .slice none 0 0

set_option maxRecDepth 100000 in
set_option maxHeartbeats 1000000 in
theorem leaves_calls (a : Option Addr) (len cap : Nat) (T : Nat → ByteArray) (n : Int) (w : World) (hA : ArgS w a len cap T) (hn0 : -9223372036854775808 ≤ n) (hn1 : n ≤ 9223372036854775807) :
    Calls Tryd.prog 8 #[.slice a len cap, .int .i64 n] w (LvsPost w (min (max n 0) 40).toNat) := by
  have HA := Lib.hid hA
  have hlen : (len : Int) ≤ 9223372036854775807 := by have := hA.1; have := hA.2.1; unfold maxLen at this; omega
  clear hA
  go_enter Tryd.func8, Tryd.ntmps8
  go_wp2_with fail
  go_name_world W hW
  obtain ⟨M, hM⟩ : ∃ M, M = (min (max n 0) 40).toNat := ⟨_, rfl⟩
  have hM40 : M ≤ 40 := by omega
  have S0 : Hid (Seg W 9 1 (.slice (some ⟨w.heap.size, 0, none⟩) 0 0) 0 [] ∧ (∀ x, (Value.slice (some ⟨w.heap.size, 0, none⟩) 0 0).ownBlock = some x → w.heap.size ≤ x) ∧ Below w.heap.size w W) := by
    rw [← hW]
    exact Lib.hid ⟨Seg.of_has (n := 0) (size := 1) (made_at _ _ rfl) (by simp) (by decide), fun x hx => by have e : w.heap.size = x := (by simpa [Value.ownBlock] using hx); omega, (Below.refl _ _).alloc (Nat.le_refl _) _⟩
  clear hW
  go_loopw [5, 6] (fun o i wr => ∃ (k : Nat) (L : List ByteArray), i = .int .i64 k ∧ k ≤ M ∧ L.length = k ∧ Hid (Seg wr 9 1 o k (L.map Value.string) ∧ (∀ x, o.ownBlock = some x → w.heap.size ≤ x) ∧ Below w.heap.size w wr) ∧ Hid ((∀ s ∈ L, s.size ≤ 1000) ∧ o ≠ .slice none 0 0)) (fun _ i _ => M - (intOf i).toNat)
  case atStart => exact ⟨0, [], rfl, Nat.zero_le _, rfl, S0, Lib.hid ⟨fun s hs => (by cases hs), fun e => by cases e⟩⟩
  case round =>
    obtain ⟨k, L, rfl, hk, hL, HS, HL⟩ := hrel
    clear S0
    have hk0 : (0 : Int) ≤ (k : Int) := by omega
    have hk40 : (k : Int) ≤ 40 := by omega
    have HCH : Hid ((Utf8.encode (97 + (k : Int) % 26)).size ≤ 4) := Lib.hid (by rw [show 97 + (k : Int) % 26 = ((97 + k % 26 : Nat) : Int) by omega, enc_size _ (by omega)]; decide)
    by_cases hkM : k < M
    · have ht : (k : Int) < min (max n 0) 40 := by omega
      obtain ⟨i0, z0, hi0, hz0, hz1, hz2, hz3⟩ := strInfo
      have HI0 := Lib.hid hi0
      have HZ0 := Lib.hid hz0
      have hks : 0 < k ∨ 0 ≤ k := by omega
      clear hi0 hz0 hks
      by_cases hl0 : len = 0
      case' pos =>
        subst hl0
        have HCS : Hid ((Utf8.encode (97 + (k : Int) % 26)).size ≤ 1000) := Lib.hid (by have := HCH.out; omega)
        clear HCH
        have HCUT : Hid True := Lib.hid trivial
        have hlp : ¬ (0 : Int) < 0 := by decide
      case' neg =>
        have hlp : (len : Int) > 0 := by omega
        have hrl : k % len < len := Nat.mod_lt _ (by omega)
        obtain ⟨gb, go, ha, hgb, hcell, hsz⟩ := HA.out.2.2 (k % len) hrl
        subst ha
        have c0 : wr.cell? ⟨gb, go + k % len, none⟩ = some (.string (T (k % len))) := by
          rw [← hcell]; unfold World.cell?; rw [HS.out.2.2.block gb hgb]
        obtain ⟨t0, ht0⟩ : ∃ t0, t0 = T (k % len) := ⟨_, rfl⟩
        rw [← ht0] at c0 hsz
        have HSZ := Lib.hid hsz
        obtain ⟨p', hp, hp2⟩ := cut_size t0 10
        have HP2 := Lib.hid hp2
        have HCUT : Hid (Calls Tryd.prog 19 #[.string t0, .int .i64 10] wr fun en w' => en = .returned (.string p') ∧ wr = w') := Lib.hid (by rw [← hp]; exact cut_any t0 10 wr (by decide) HSZ.out)
        clear hp hp2 HSZ hcell hsz hl0 ht0
        have hrl2 : (k : Int) % (len : Int) < (len : Int) := by omega
        have hrl3 : (0 : Int) ≤ (k : Int) % (len : Int) := Int.emod_nonneg _ (by omega)
        have HCS : Hid ((Utf8.encode (97 + (k : Int) % 26) ++ p').size ≤ 1000) := Lib.hid (by rw [ByteArray.size_append]; have := HCH.out; have := HP2.out; omega)
        clear HP2 HCH
      all_goals
        go_wp2_with (first
          | ((with_reducible refine at_op 23 ?_); refine stay ?_)
          | fail)
        unfold Stay
        generalize Utf8.encode (97 + (k : Int) % 26) = ch at *
        have hcc := HCS.out
        try rw [ByteArray.size_append] at hcc
        go_wp2_with (first
        | (go_at_call 19; refine HCUT.out.mono ?_; rintro e w' ⟨rfl, rfl⟩)
        | ((with_reducible refine at_op 37 ?_); refine wpList_append_seg (o := ⟨some 37, _, _, _, _, _⟩) _ rfl (.tmp 34) (.tmp 36) 22 rfl 9 i0 z0 1 16 Tryd.underlying22 HI0.out HZ0.out hz1 hz3 hz2 (by decide) u5 k (L.map Value.string) rfl (HS.out.1.alloc _) ⟨wr.heap.size, 0, none⟩ 1 1 [.string _] rfl rfl (World.news_of_block (heap_alloc_new _ _)) (by simp [Value.oneCell']) (by decide) (by unfold maxLen; omega) (by omega) _ rfl ?_;
           intro g off cp w4 hown hgrow hat hlt)
        | fail)
        refine ⟨⟨k + 1, L ++ [_], by rw [Int.natCast_add]; rfl, by omega, by rw [List.length_append, hL]; rfl, Lib.hid ⟨by rw [List.map_append]; exact hown, fun x hx => ?_, ?_⟩, Lib.hid ⟨fun t ht => ?_, fun e => by cases e⟩⟩, ?_⟩
        · have e : g = x := by simpa [Value.ownBlock] using hx
          rw [← e]
          rcases hat with h | h
          · exact HS.out.2.1 g h
          · rw [h]; exact Nat.le_trans HS.out.2.2.size (by simp)
        · exact (HS.out.2.2.alloc HS.out.2.2.size _).trans (below_own hgrow HS.out.2.1 (Nat.le_trans HS.out.2.2.size (by simp)))
        · rcases List.mem_append.1 ht with h | h
          · exact HL.out.1 t h
          · rw [List.mem_singleton.1 h]; exact HCS.out
        · show M - ((k : Int) + 1).toNat < M - ((k : Int)).toNat
          omega
    · have ht : ¬ (k : Int) < min (max n 0) 40 := by omega
      go_wp2_with fail
      go_ret
      refine ⟨_, L, rfl, ⟨?_, fun s hs => by have := HL.out.1 s hs; omega⟩, by omega, HS.out.2.1, HS.out.2.2, HL.out.2⟩
      rw [hL]
      exact HS.out.1
end Go.Proofs.YtiobdhkadbipkaaDoor.dig
end

section
/- Integers that fit. Of no program. -/
namespace Go.Proofs.YtiobdhkadbipkaaDoor
open Go.ChangeShapes Go.WideShapes Go.ChangeAt Go.RowKit

theorem wf_i64 {y : Int} (h : (Lit.int .i64 y).wf = true) : -9223372036854775808 ≤ y ∧ y ≤ 9223372036854775807 := by
  have m0 : IntKind.i64.min = -9223372036854775808 := by decide
  have m1 : IntKind.i64.max = 9223372036854775807 := by decide
  have h' : (decide (IntKind.i64.min ≤ y) && decide (y ≤ IntKind.i64.max)) = true := h
  rw [m0, m1] at h'
  simpa using h'
end Go.Proofs.YtiobdhkadbipkaaDoor
end

section
/- A slice of numbers that is handed in: what a law may read of it. -/
namespace Go.Proofs.YtiobdhkadbipkaaDoor
open Go.ChangeShapes Go.WideShapes Go.ChangeAt Go.RowKit

/-- The numbers T lie from a on. -/
def ArgI (w : World) (a : Option Addr) (len cap : Nat) (T : Nat → Int) : Prop :=
  len ≤ cap ∧ cap ≤ maxLen ∧ ∀ i, i < len → ∃ b o, a = some ⟨b, o, none⟩ ∧ b < w.heap.size ∧ w.cell? ⟨b, o + i, none⟩ = some (.int .i64 (T i)) ∧ -9223372036854775808 ≤ T i ∧ T i ≤ 9223372036854775807

theorem openedI {H : Type} {enc : TypeId × Value → H} {w : World} {spare : Nat → Bool} {held : Bool} {a : Option Addr} {len cap : Nat} {d : DataW H} {p : List MemPlace} (h : DataW.Trod enc Tryd.prog w 0 spare held 23 (.slice a len cap) d p) : ∃ T, ArgI w a len cap T := by
  obtain ⟨fuel, h⟩ := h
  rcases open_ints Tryd.underlying23 Tryd.underlying3 (by kernel_rfl) h with ⟨hn, _⟩ | ⟨g, l, c, zs, hn, _, hlc, hcm, hm, _, hall, hwf⟩
  · simp [Value.cells] at hn
    obtain ⟨rfl, rfl, rfl⟩ := hn
    exact ⟨fun _ => 0, Nat.le_refl _, Nat.zero_le _, fun i hi => absurd hi (Nat.not_lt_zero _)⟩
  · simp [Value.cells] at hn
    obtain ⟨rfl, rfl, rfl⟩ := hn
    refine ⟨fun i => zs.getD i 0, hlc, hcm, fun i hi => ?_⟩
    have hi' : i < zs.length := by rw [hm]; split <;> omega
    have h0 := hall i hi'
    have hs : g.spot = none := by
      have h00 := hall 0 (by omega)
      simpa [Addr.add] using World.cell?_spot h00
    obtain ⟨gb, go, gs⟩ := g
    obtain rfl : gs = none := hs
    have e0 : (⟨gb, go, none⟩ : Addr).add i = ⟨gb, go + i, none⟩ := Addr.add_mid _ _ _
    rw [e0] at h0
    have hw : (Lit.int .i64 (zs.getD i 0)).wf = true := hwf _ (by
      have : zs.getD i 0 = zs[i] := by simp [hi']
      rw [this]; exact List.getElem_mem hi')
    have hb : gb < w.heap.size := by
      rcases Nat.lt_or_ge gb w.heap.size with k | k
      · exact k
      · unfold World.cell? at h0
        simp [Array.getElem?_eq_none k] at h0
    exact ⟨gb, go, rfl, hb, h0, (wf_i64 hw).1, (wf_i64 hw).2⟩

end Go.Proofs.YtiobdhkadbipkaaDoor
end

section
/- tree: what the row's list gives; the world that the program's own initialisers leave meets the rows' condition (of the rows that list digest's rounds and both tables of trailing zeros). -/
namespace Go.Proofs.YtiobdhkadbipkaaDoor.tree
open Go Go.ChangeShapes Go.WideShapes Go.ChangeAt Go.RowKit Go.Proofs.YtiobdhkadbipkaaDoor.dig

theorem gTab : Tryd.prog.globalNamed "math/bits.deBruijn64tab" = some 2 := by kernel_rfl
theorem gTabType : (Tryd.prog.globals[2]?).map (·.type) = some 153 := by kernel_rfl
theorem cellsTab : Tryd.prog.cellsOf 153 = 64 := by kernel_rfl
theorem cellsU8 : Tryd.prog.cellsOf 5 = 1 := by kernel_rfl
theorem rt_of_laid {W : World} {rest : List (String × DataW Unit)} (h : laidMet Tryd.prog (("math/bits.deBruijn32tab", Rows.laid_math_bits_deBruijn32tab) :: ("math/bits.deBruijn64tab", Rows.laid_math_bits_deBruijn64tab) :: ("hindsight/digest.rounds", Rows.laid_hindsight_digest_rounds) :: rest) W) : Rt W.heap.size W := by
  have ht : Lib.TabIs Tryd.prog W "math/bits.deBruijn64tab" .u8 (Lib.deBruijn64tab.map (Int.ofNat ·)) := Lib.tabIs_of_head (rest := ("hindsight/digest.rounds", Rows.laid_hindsight_digest_rounds) :: rest) gTab gTabType Tryd.underlying153 Tryd.underlying5 cellsU8 cellsTab h.tail
  have hk : Rk W := rk_of_laid (rest := rest) h.tail.tail
  have tz : ∀ (i x : Nat), Lib.deBruijn64tab[i]? = some x → W.cell? ⟨2, i, none⟩ = some (.int .u8 (x : Int)) := fun i x hx => by
    have hi : i < Lib.deBruijn64tab.length := (List.getElem?_eq_some_iff.1 hx).1
    have := ht.cell gTab i (by rw [List.length_map]; exact hi)
    rw [this]
    have e : (Lib.deBruijn64tab.map (Int.ofNat ·)).getD i 0 = (x : Int) := by
      rw [List.getD_eq_getElem?_getD, List.getElem?_map, hx]
      rfl
    rw [e]
  refine ⟨hk, tz, ⟨hk.lt, ?_⟩, Nat.le_refl _⟩
  have h0 := tz 0 0 rfl
  unfold World.cell? at h0
  rcases Nat.lt_or_ge 2 W.heap.size with k | k
  · exact k
  · simp [Array.getElem?_eq_none k] at h0

theorem door_met (os : Os) (args : Array Value) : laidMetH Tryd.prog [("math/bits.deBruijn32tab", Rows.laid_math_bits_deBruijn32tab), ("math/bits.deBruijn64tab", Rows.laid_math_bits_deBruijn64tab), ("hindsight/digest.rounds", Rows.laid_hindsight_digest_rounds)] ((World.doorLaid Tryd.prog 31 os).forCall (fun _ _ => 0) ⟨#[], args, []⟩).memory :=
  laidMetH_of_parts3 (fuel := 8) (laidMet_of_run' 8 (by kernel_rfl) (by kernel_rfl)) (by kernel_rfl) (by kernel_rfl)
theorem door_shaped (os : Os) (args : Array Value) : ((World.doorLaid Tryd.prog 31 os).forCall (fun _ _ => 0) ⟨#[], args, []⟩).Shaped Tryd.prog :=
  World.shaped_of_RefB (by kernel_rfl) (by kernel_rfl)
end Go.Proofs.YtiobdhkadbipkaaDoor.tree
end

