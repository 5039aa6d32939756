/- Texts laid into one: ClaA, Strs, Lvs. -/
import Derived.Test.YthbncejbcegmgaaDoorY002
import Derived.Test.YthbncejbcegmgaaDoorY001
import Derived.Test.YthbncejbcegmgaaDoorY004
import Derived.StillTailTactics
import Derived.Test.YthbncejbcegmgaaDoorY000
import Derived.SliceStrings
import Derived.ProofKit
import Derived.OpenShut
import Derived.Deep.MidRow
import Derived.Deep.SlicePairs
import Derived.ChangeOld
import Derived.Test.YthbncejbcegmgaaDoorY005
section
/- clash: under, Is. -/
namespace Go.Proofs.YthbncejbcegmgaaDoor.clash
open Go Go.RowKit Go.Proofs.YthbncejbcegmgaaDoor.dig

/-- The text under the Node of two sums. -/
def underS (a b : List UInt8) : ByteArray := ⟨(1 :: (a ++ b)).toArray⟩
theorem underS_of (a b : List UInt8) : (⟨#[1]⟩ ++ (⟨a.toArray⟩ : ByteArray) ++ (⟨b.toArray⟩ : ByteArray) : ByteArray) = underS a b := by
  apply ByteArray.ext
  simp [underS, ByteArray.data_append]

set_option maxRecDepth 100000 in
set_option maxHeartbeats 1000000 in
theorem under_calls (a b : List UInt8) (w : World) (ha : a.length = 32) (hb : b.length = 32) :
    Calls Tryd.prog 64 #[.agg (cellsOf a), .agg (cellsOf b)] w fun en w' => en = .returned (.string (underS a b)) ∧ Below w.heap.size w w' := by
  have HA := Lib.hid ha
  have HB := Lib.hid hb
  clear ha hb
  obtain ⟨sa, hsa⟩ : ∃ sa : ByteArray, sa = ⟨a.toArray⟩ := ⟨_, rfl⟩
  obtain ⟨sb, hsb⟩ : ∃ sb : ByteArray, sb = ⟨b.toArray⟩ := ⟨_, rfl⟩
  have za : sa.size = 32 := by rw [hsa]; simpa [ByteArray.size] using HA.out
  have zb : sb.size = 32 := by rw [hsb]; simpa [ByteArray.size] using HB.out
  have HU : Hid ((⟨#[1]⟩ : ByteArray) ++ sa ++ sb = underS a b) := Lib.hid (by rw [hsa, hsb]; exact underS_of a b)
  have HSA := Lib.hid hsa
  have HSB := Lib.hid hsb
  clear hsa hsb
  go_enter Tryd.func64, Tryd.ntmps64
  go_wp2_with fail
  go_name_world W hW
  have B0 : Below w.heap.size w W := by rw [← hW]; exact ((Below.refl _ _).alloc (Nat.le_refl _) _).alloc (by simp) _
  have PA : Has W w.heap.size 33 (cellsOf a) := by rw [← hW]; exact Has.alloc (made_at _ _ rfl) _
  have PB : Has W (w.heap.size + 1) 33 (cellsOf b) := by rw [← hW]; exact made_at _ _ (by simp)
  clear hW
  have ca := run_str_arr (P := Tryd.prog) 74 9 5 Tryd.underlying74 Tryd.underlying5 Tryd.underlying9 _ _ a 32 W.drew PA.drew
  have cb := run_str_arr (P := Tryd.prog) 74 9 5 Tryd.underlying74 Tryd.underlying5 Tryd.underlying9 _ _ b 32 W.drew PB.drew
  rw [HA.out, ← HSA.out] at ca
  rw [HB.out, ← HSB.out] at cb
  have hul := Tryd.underlying33
  have BB := Lib.hid B0.drew
  clear PA PB B0
  have e1 : (⟨#[1]⟩ : ByteArray).size = 1 := rfl
  have e2 : ((⟨#[1]⟩ : ByteArray) ++ sa).size = 33 := by rw [ByteArray.size_append, za]; rfl
  refine wp_region_still_lit (by kernel_rfl) (by kernel_rfl) ?_
  repeat still_step
  refine wpStill_nil ?_
  clear ca cb hul e1 e2
  go_wp2_with fail
  go_ret
  rw [HU.out]
  exact ⟨rfl, BB.out⟩

theorem run_equal_sum' (xs ys : List UInt8) (hx : xs.length = 32) (hy : ys.length = 32) (w : World) : (Op.equalIn 10000 33 (.agg (cellsOf xs)) (.agg (cellsOf ys))).run Tryd.prog w = .ok (xs == ys) w := by
  have := run_equalIn_bytes (P := Tryd.prog) 9998 (t := 33) (e := 5) 32 Tryd.underlying33 Tryd.underlying5 (by kernel_rfl) xs ys hx hy w
  simpa using this

/-- Are two texts a clash? -/
def clashB (s t : ByteArray) : Bool := decide (s ≠ t) && (sum s.data.toList == sum t.data.toList)
theorem clashB_self (s : ByteArray) : clashB s s = false := by simp [clashB]

/-- What lasts while a pair is looked at. -/
structure PairS (w : World) (g : Nat) (s t : ByteArray) (V : World) : Prop where
  rk : Rk V
  own : Has V g 40 #[.string s, .string t]
  bel : Below w.heap.size w V
theorem PairS.below {w V V' : World} {g : Nat} {s t : ByteArray} (h : PairS w g s t V) (b : Below V.heap.size V V') : PairS w g s t V' :=
  ⟨h.rk.below b, h.own.below b h.own.lt, h.bel.trans (b.mono h.bel.size)⟩

set_option maxRecDepth 100000 in
set_option maxHeartbeats 1000000 in
theorem is_calls (s t : ByteArray) (w : World) (hR : Rk w) (hs : s.size < 1000000000) (ht : t.size < 1000000000) :
    Calls Tryd.prog 16 #[.agg #[.string s, .string t]] w fun en w' => en = .returned (.bool (clashB s t)) ∧ Below w.heap.size w w' := by
  have HR := Lib.hid hR
  clear hR
  by_cases he : s = t
  · subst he
    rw [clashB_self]
    go_enter Tryd.func16, Tryd.ntmps16
    go_wp2_with fail
    go_name_world W hW
    have P0 : Hid (PairS w w.heap.size s s W) := by
      have b0 : Below w.heap.size w W := by rw [← hW]; exact (Below.refl _ _).alloc (Nat.le_refl _) _
      exact Lib.hid ⟨HR.out.below b0, by rw [← hW]; exact made_at _ _ rfl, b0⟩
    clear hW HR
    have c0 : W.cell? ⟨w.heap.size, 0, none⟩ = some (.string s) := P0.out.own.cell 0
    have c1 : W.cell? ⟨w.heap.size, 1, none⟩ = some (.string s) := P0.out.own.cell 1
    go_quiet (fail)
    go_wp2_with fail
    go_ret
    exact ⟨rfl, ⟨P0.out.bel.os, P0.out.bel.tape, P0.out.bel.output, P0.out.bel.size, P0.out.bel.block⟩⟩
  · have hq : clashB s t = (sum s.data.toList == sum t.data.toList) := by simp [clashB, he]
    rw [hq]
    have hne : ¬ s.toList = t.toList := fun e => he (by
      rw [ByteArray.toList_eq, ByteArray.toList_eq] at e
      apply ByteArray.ext
      exact Array.toList_inj.1 e)
    have HQ := Lib.hid hq
    clear hq
    go_enter Tryd.func16, Tryd.ntmps16
    go_wp2_with fail
    go_name_world W hW
    have P0 : Hid (PairS w w.heap.size s t W) := by
      have b0 : Below w.heap.size w W := by rw [← hW]; exact (Below.refl _ _).alloc (Nat.le_refl _) _
      exact Lib.hid ⟨HR.out.below b0, by rw [← hW]; exact made_at _ _ rfl, b0⟩
    clear hW HR
    refine wp_region_S (S := PairS w w.heap.size s t) (by kernel_rfl) (P0.out.below (Below.refl _ _).drew) ?_
    refine AnyS.pure 0 (some 3) (v := .pointer (some ⟨w.heap.size, 0, none⟩)) rfl rfl (by kernel_rfl) (by kernel_rfl) (by kernel_rfl) (fun _ _ _ h => h) (by kernel_rfl) (fun V _ => by go_simp) ?_
    refine AnyS.pure 1 (some 4) (v := .string s) rfl rfl (by kernel_rfl) (by kernel_rfl) (by kernel_rfl) (fun _ _ _ h => h) (by kernel_rfl) (fun V hV => by have c0 := hV.own.cell 0; have c1 := hV.own.cell 1; simp at c0 c1; go_simp) ?_
    refine AnyS.pure 2 (some 5) (v := .pointer (some ⟨w.heap.size, 1, none⟩)) rfl rfl (by kernel_rfl) (by kernel_rfl) (by kernel_rfl) (fun _ _ _ h => h) (by kernel_rfl) (fun V _ => by go_simp) ?_
    refine AnyS.pure 3 (some 6) (v := .string t) rfl rfl (by kernel_rfl) (by kernel_rfl) (by kernel_rfl) (fun _ _ _ h => h) (by kernel_rfl) (fun V hV => by have c0 := hV.own.cell 0; have c1 := hV.own.cell 1; simp at c0 c1; go_simp) ?_
    refine AnyS.pure 4 (some 7) (v := .bool true) rfl rfl (by kernel_rfl) (by kernel_rfl) (by kernel_rfl) (fun _ _ _ h => h) (by kernel_rfl) (fun V _ => by go_simp) ?_
    refine AnyS.pure 5 (some 8) rfl rfl (by kernel_rfl) (by kernel_rfl) (by kernel_rfl) (fun _ _ _ h => h) (by kernel_rfl) (fun _ _ => rfl) ?_
    refine AnyS.pure 6 (some 9) (v := .pointer (some ⟨w.heap.size, 0, none⟩)) rfl rfl (by kernel_rfl) (by kernel_rfl) (by kernel_rfl) (fun _ _ _ h => h) (by kernel_rfl) (fun V _ => by go_simp) ?_
    refine AnyS.pure 7 (some 10) (v := .string s) rfl rfl (by kernel_rfl) (by kernel_rfl) (by kernel_rfl) (fun _ _ _ h => h) (by kernel_rfl) (fun V hV => by have c0 := hV.own.cell 0; have c1 := hV.own.cell 1; simp at c0 c1; go_simp) ?_
    refine AnyS.pure 9 (some 12) (v := .pointer (some ⟨w.heap.size, 1, none⟩)) rfl rfl (by kernel_rfl) (by kernel_rfl) (by kernel_rfl) (fun _ _ _ h => h) (by kernel_rfl) (fun V _ => by go_simp) ?_
    refine AnyS.pure 10 (some 13) (v := .string t) rfl rfl (by kernel_rfl) (by kernel_rfl) (by kernel_rfl) (fun _ _ _ h => h) (by kernel_rfl) (fun V hV => by have c0 := hV.own.cell 0; have c1 := hV.own.cell 1; simp at c0 c1; go_simp) ?_
    refine AnyS.call 8 (some 11) (.agg (cellsOf (sum s.data.toList))) rfl rfl (by kernel_rfl) (by kernel_rfl) (by kernel_rfl) (fun _ _ _ h => h) (by kernel_rfl) 22 Tryd.f22 Tryd.func22 (by kernel_rfl) (by kernel_rfl) _ _ rfl #[.string s] (by first | (simp [Act.eval]; done) | (simp [Act.eval, Act.put]; done)) (fun V hV => (of_calls s V hV.rk (by omega)).mono (fun _ _ h => ⟨h.1, hV.below h.2⟩)) ?_
    simp only [Act.put, List.setIfInBounds_toArray, List.set_cons_zero, List.set_cons_succ]
    refine AnyS.call 11 (some 14) (.agg (cellsOf (sum t.data.toList))) rfl rfl (by kernel_rfl) (by kernel_rfl) (by kernel_rfl) (fun _ _ _ h => h) (by kernel_rfl) 22 Tryd.f22 Tryd.func22 (by kernel_rfl) (by kernel_rfl) _ _ rfl #[.string t] (by first | (simp [Act.eval]; done) | (simp [Act.eval, Act.put]; done)) (fun V hV => (of_calls t V hV.rk (by omega)).mono (fun _ _ h => ⟨h.1, hV.below h.2⟩)) ?_
    simp only [Act.put, List.setIfInBounds_toArray, List.set_cons_zero, List.set_cons_succ]
    refine AnyS.pure 12 (some 15) (v := .bool (sum s.data.toList == sum t.data.toList)) rfl rfl (by kernel_rfl) (by kernel_rfl) (by kernel_rfl) (fun _ _ _ h => h) (by kernel_rfl) (fun V _ => by have he := run_equal_sum' (sum s.data.toList) (sum t.data.toList) (sum_length _) (sum_length _) V; go_simp) ?_
    refine AnyS.pure 13 (some 16) (v := .bool (sum s.data.toList == sum t.data.toList)) rfl rfl (by kernel_rfl) (by kernel_rfl) (by kernel_rfl) (fun _ _ _ h => h) (by kernel_rfl) (fun V _ => by go_simp) ?_
    refine AnyS.pure 14 (some 2) rfl rfl (by kernel_rfl) (by kernel_rfl) (by kernel_rfl) (fun _ _ _ h => h) (by kernel_rfl) (fun _ _ => rfl) ?_
    refine AnyS.done (by kernel_rfl) (fun V hV => ?_) _
    have HB := Lib.hid hV.bel
    clear hV P0
    go_wp2_with fail
    go_ret
    exact ⟨rfl, HB.out⟩
end Go.Proofs.YthbncejbcegmgaaDoor.clash
end

section
/- A slice of strings that is handed in: what a law may read of it. -/
namespace Go.Proofs.YthbncejbcegmgaaDoor
open Go.ChangeShapes Go.WideShapes Go.ChangeAt Go.RowKit

/-- The strings T lie from a on. -/
def ArgS (w : World) (a : Option Addr) (len cap : Nat) (T : Nat → ByteArray) : Prop :=
  len ≤ cap ∧ cap ≤ maxLen ∧ ∀ i, i < len → ∃ b o, a = some ⟨b, o, none⟩ ∧ b < w.heap.size ∧ w.cell? ⟨b, o + i, none⟩ = some (.string (T i)) ∧ (T i).size ≤ maxLen

theorem openedStrs {H : Type} {enc : TypeId × Value → H} {w : World} {spare : Nat → Bool} {held : Bool} {a : Option Addr} {len cap : Nat} {d : DataW H} {p : List MemPlace} (h : DataW.Trod enc Tryd.prog w 0 spare held 22 (.slice a len cap) d p) : ∃ T, ArgS w a len cap T := by
  obtain ⟨fuel, h⟩ := h
  rcases open_strings Tryd.underlying22 Tryd.underlying9 (by kernel_rfl) h with ⟨hn, _⟩ | ⟨g, l, c, zs, hn, _, hlc, hcm, hm, _, hall, hwf⟩
  · simp [Value.cells] at hn
    obtain ⟨rfl, rfl, rfl⟩ := hn
    exact ⟨fun _ => ByteArray.empty, Nat.le_refl _, Nat.zero_le _, fun i hi => absurd hi (Nat.not_lt_zero _)⟩
  · simp [Value.cells] at hn
    obtain ⟨rfl, rfl, rfl⟩ := hn
    refine ⟨fun i => zs.getD i ByteArray.empty, hlc, hcm, fun i hi => ?_⟩
    have hi' : i < zs.length := by rw [hm]; split <;> omega
    have h0 := hall i hi'
    have hs : g.spot = none := by
      have h00 := hall 0 (by omega)
      simpa [Addr.add] using World.cell?_spot h00
    obtain ⟨gb, go, gs⟩ := g
    obtain rfl : gs = none := hs
    have e0 : (⟨gb, go, none⟩ : Addr).add i = ⟨gb, go + i, none⟩ := Addr.add_mid _ _ _
    rw [e0] at h0
    have hw : (zs.getD i ByteArray.empty).size ≤ maxLen := hwf _ (by
      have : zs.getD i ByteArray.empty = zs[i] := by simp [hi']
      rw [this]; exact List.getElem_mem hi')
    have hb : gb < w.heap.size := by
      rcases Nat.lt_or_ge gb w.heap.size with k | k
      · exact k
      · unfold World.cell? at h0
        simp [Array.getElem?_eq_none k] at h0
    exact ⟨gb, go, rfl, hb, h0, hw⟩

end Go.Proofs.YthbncejbcegmgaaDoor
end

section
/- tree's laws: Leaves. -/
namespace Go.Proofs.YthbncejbcegmgaaDoor.dig
open Go Go.RowKit

theorem strInfo : ∃ i z, Tryd.prog.info? 9 = some i ∧ i.zero = some z ∧ i.size = 1 ∧ z.cells.size = 1 ∧ i.bytes = 16 := by
  have h2 : (Tryd.prog.info? 9).map (fun i => (i.zero.map (fun z => z.cells.size), i.size, i.bytes)) = some (some 1, 1, 16) := by kernel_rfl
  obtain ⟨i, hi, e⟩ := Option.map_eq_some_iff.1 h2
  simp only [Prod.mk.injEq] at e
  obtain ⟨e1, e2, e3⟩ := e
  obtain ⟨z, hz, e4⟩ := Option.map_eq_some_iff.1 e1
  exact ⟨i, z, hi, hz, e2, e4, e3⟩

theorem enc_size (k : Nat) (h1 : k < 128) : (Utf8.encode (k : Int)).size = 1 := by
  unfold Utf8.encode
  have h2 : (k : Int).toNat = k := by omega
  have h3 : Utf8.valid (k : Int) = true := by
    unfold Utf8.valid
    simp
    omega
  rw [if_pos h3, h2, if_pos (by omega)]
  rfl

theorem and_mask (n : Int) (k : Nat) (hk : k ≤ 8) : bits .and .i64 n ((2 ^ k : Nat) - 1 : Int) = n % ((2 ^ k : Nat) : Int) := by
  have h255 : (BitVec.ofInt 64 ((2 ^ k : Nat) - 1 : Int)).toNat = 2 ^ k - 1 := by
    have : k = 0 ∨ k = 1 ∨ k = 2 ∨ k = 3 ∨ k = 4 ∨ k = 5 ∨ k = 6 ∨ k = 7 ∨ k = 8 := by omega
    rcases this with h | h | h | h | h | h | h | h | h <;> subst h <;> decide
  have key : (BitVec.ofInt 64 n &&& BitVec.ofInt 64 ((2 ^ k : Nat) - 1 : Int)).toNat = (n % ((2 ^ 64 : Nat) : Int)).toNat % 2 ^ k := by
    rw [BitVec.toNat_and, BitVec.toNat_ofInt, h255, Nat.and_two_pow_sub_one_eq_mod]
  show IntKind.i64.wrap ((BitVec.ofInt 64 n &&& BitVec.ofInt 64 ((2 ^ k : Nat) - 1 : Int)).toNat : Nat) = n % ((2 ^ k : Nat) : Int)
  rw [key, IntKind.wrap_i64]
  have : k = 0 ∨ k = 1 ∨ k = 2 ∨ k = 3 ∨ k = 4 ∨ k = 5 ∨ k = 6 ∨ k = 7 ∨ k = 8 := by omega
  rcases this with h | h | h | h | h | h | h | h | h <;> subst h <;> simp only [Nat.reducePow] <;> omega
theorem and255 (n : Int) : bits .and .i64 n 255 = n % 256 := and_mask n 8 (by decide)
theorem and7 (n : Int) : bits .and .i64 n 7 = n % 8 := and_mask n 3 (by decide)

def Stay (p : Prop) := p
theorem stay {p : Prop} (h : Stay p) : p := h
/-- Texts were answered, in new memory. -/
def LvsPost (w : World) (m : Nat) (en : Ending) (w' : World) : Prop :=
  ∃ v L, en = .returned v ∧ Strs w' v L ∧ L.length = m ∧ (∀ x, v.ownBlock = some x → w.heap.size ≤ x) ∧ Below w.heap.size w w' ∧ v ≠ .slice none 0 0

set_option maxRecDepth 100000 in
set_option maxHeartbeats 1000000 in
theorem leaves_calls (a : Option Addr) (len cap : Nat) (T : Nat → ByteArray) (n : Int) (w : World) (hA : ArgS w a len cap T) (hn0 : -9223372036854775808 ≤ n) (hn1 : n ≤ 9223372036854775807) :
    Calls Tryd.prog 7 #[.slice a len cap, .int .i64 n] w (LvsPost w (min (max n 0) 40).toNat) := by
  have HA := Lib.hid hA
  have hlen : (len : Int) ≤ 9223372036854775807 := by have := hA.1; have := hA.2.1; unfold maxLen at this; omega
  clear hA
  go_enter Tryd.func7, Tryd.ntmps7
  go_wp2_with fail
  go_name_world W hW
  obtain ⟨M, hM⟩ : ∃ M, M = (min (max n 0) 40).toNat := ⟨_, rfl⟩
  have hM40 : M ≤ 40 := by omega
  have S0 : Hid (Seg W 9 1 (.slice (some ⟨w.heap.size, 0, none⟩) 0 0) 0 [] ∧ (∀ x, (Value.slice (some ⟨w.heap.size, 0, none⟩) 0 0).ownBlock = some x → w.heap.size ≤ x) ∧ Below w.heap.size w W) := by
    rw [← hW]
    exact Lib.hid ⟨Seg.of_has (n := 0) (size := 1) (made_at _ _ rfl) (by simp) (by decide), fun x hx => by have e : w.heap.size = x := (by simpa [Value.ownBlock] using hx); omega, (Below.refl _ _).alloc (Nat.le_refl _) _⟩
  clear hW
  go_loopw [5, 6] (fun o i wr => ∃ (k : Nat) (L : List ByteArray), i = .int .i64 k ∧ k ≤ M ∧ L.length = k ∧ Hid (Seg wr 9 1 o k (L.map Value.string) ∧ (∀ x, o.ownBlock = some x → w.heap.size ≤ x) ∧ Below w.heap.size w wr) ∧ Hid ((∀ s ∈ L, s.size ≤ 1000) ∧ o ≠ .slice none 0 0)) (fun _ i _ => M - (intOf i).toNat)
  case atStart => exact ⟨0, [], rfl, Nat.zero_le _, rfl, S0, Lib.hid ⟨fun s hs => (by cases hs), fun e => by cases e⟩⟩
  case round =>
    obtain ⟨k, L, rfl, hk, hL, HS, HL⟩ := hrel
    clear S0
    have hk0 : (0 : Int) ≤ (k : Int) := by omega
    have hk40 : (k : Int) ≤ 40 := by omega
    have HCH : Hid ((Utf8.encode (97 + (k : Int) % 26)).size ≤ 4) := Lib.hid (by rw [show 97 + (k : Int) % 26 = ((97 + k % 26 : Nat) : Int) by omega, enc_size _ (by omega)]; decide)
    by_cases hkM : k < M
    · have ht : (k : Int) < min (max n 0) 40 := by omega
      obtain ⟨i0, z0, hi0, hz0, hz1, hz2, hz3⟩ := strInfo
      have HI0 := Lib.hid hi0
      have HZ0 := Lib.hid hz0
      have hks : 0 < k ∨ 0 ≤ k := by omega
      clear hi0 hz0 hks
      by_cases hl0 : len = 0
      case' pos =>
        subst hl0
        have HCS : Hid ((Utf8.encode (97 + (k : Int) % 26)).size ≤ 1000) := Lib.hid (by have := HCH.out; omega)
        clear HCH
        have HCUT : Hid True := Lib.hid trivial
        have hlp : ¬ (0 : Int) < 0 := by decide
      case' neg =>
        have hlp : (len : Int) > 0 := by omega
        have hrl : k % len < len := Nat.mod_lt _ (by omega)
        obtain ⟨gb, go, ha, hgb, hcell, hsz⟩ := HA.out.2.2 (k % len) hrl
        subst ha
        have c0 : wr.cell? ⟨gb, go + k % len, none⟩ = some (.string (T (k % len))) := by
          rw [← hcell]; unfold World.cell?; rw [HS.out.2.2.block gb hgb]
        obtain ⟨t0, ht0⟩ : ∃ t0, t0 = T (k % len) := ⟨_, rfl⟩
        rw [← ht0] at c0 hsz
        have HSZ := Lib.hid hsz
        obtain ⟨p', hp, hp2⟩ := cut_size t0 10
        have HP2 := Lib.hid hp2
        have HCUT : Hid (Calls Tryd.prog 8 #[.string t0, .int .i64 10] wr fun en w' => en = .returned (.string p') ∧ wr = w') := Lib.hid (by rw [← hp]; exact cut_any t0 10 wr (by decide) HSZ.out)
        clear hp hp2 HSZ hcell hsz hl0 ht0
        have hrl2 : (k : Int) % (len : Int) < (len : Int) := by omega
        have hrl3 : (0 : Int) ≤ (k : Int) % (len : Int) := Int.emod_nonneg _ (by omega)
        have HCS : Hid ((Utf8.encode (97 + (k : Int) % 26) ++ p').size ≤ 1000) := Lib.hid (by rw [ByteArray.size_append]; have := HCH.out; have := HP2.out; omega)
        clear HP2 HCH
      all_goals
        go_wp2_with (first
          | ((with_reducible refine at_op 23 ?_); refine stay ?_)
          | fail)
        unfold Stay
        generalize Utf8.encode (97 + (k : Int) % 26) = ch at *
        have hcc := HCS.out
        try rw [ByteArray.size_append] at hcc
        go_wp2_with (first
        | (go_at_call 8; refine HCUT.out.mono ?_; rintro e w' ⟨rfl, rfl⟩)
        | ((with_reducible refine at_op 37 ?_); refine wpList_append_seg (o := ⟨some 37, _, _, _, _, _⟩) _ rfl (.tmp 34) (.tmp 36) 22 rfl 9 i0 z0 1 16 Tryd.underlying22 HI0.out HZ0.out hz1 hz3 hz2 (by decide) u5 k (L.map Value.string) rfl (HS.out.1.alloc _) ⟨wr.heap.size, 0, none⟩ 1 1 [.string _] rfl rfl (World.news_of_block (heap_alloc_new _ _)) (by simp [Value.oneCell']) (by decide) (by unfold maxLen; omega) (by omega) _ rfl ?_;
           intro g off cp w4 hown hgrow hat hlt)
        | fail)
        refine ⟨⟨k + 1, L ++ [_], by rw [Int.natCast_add]; rfl, by omega, by rw [List.length_append, hL]; rfl, Lib.hid ⟨by rw [List.map_append]; exact hown, fun x hx => ?_, ?_⟩, Lib.hid ⟨fun t ht => ?_, fun e => by cases e⟩⟩, ?_⟩
        · have e : g = x := by simpa [Value.ownBlock] using hx
          rw [← e]
          rcases hat with h | h
          · exact HS.out.2.1 g h
          · rw [h]; exact Nat.le_trans HS.out.2.2.size (by simp)
        · exact (HS.out.2.2.alloc HS.out.2.2.size _).trans (below_own hgrow HS.out.2.1 (Nat.le_trans HS.out.2.2.size (by simp)))
        · rcases List.mem_append.1 ht with h | h
          · exact HL.out.1 t h
          · rw [List.mem_singleton.1 h]; exact HCS.out
        · show M - ((k : Int) + 1).toNat < M - ((k : Int)).toNat
          omega
    · have ht : ¬ (k : Int) < min (max n 0) 40 := by omega
      go_wp2_with fail
      go_ret
      refine ⟨_, L, rfl, ⟨?_, fun s hs => by have := HL.out.1 s hs; omega⟩, by omega, HS.out.2.1, HS.out.2.2, HL.out.2⟩
      rw [hL]
      exact HS.out.1
end Go.Proofs.YthbncejbcegmgaaDoor.dig
end

