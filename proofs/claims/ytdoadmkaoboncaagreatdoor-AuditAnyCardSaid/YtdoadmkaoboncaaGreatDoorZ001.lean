/- Texts laid into one: Lvs, AudD, PruHZ, PrfM, PruM, PruHI, TreeFC, PruP, PruHE. -/
import Derived.Test.YtdoadmkaoboncaaGreatDoorTreeI
import Derived.Test.YtdoadmkaoboncaaGreatDoorZ000
import Derived.Test.YtdoadmkaoboncaaGreatDoorAny
import Derived.Test.YtdoadmkaoboncaaGreatDoorDigH
import Derived.Test.YtdoadmkaoboncaaGreatDoorHalf
import Derived.Test.YtdoadmkaoboncaaGreatDoorTreeM
import Derived.Test.YtdoadmkaoboncaaGreatDoorLeaf
import Derived.Test.YtdoadmkaoboncaaGreatDoorTreeF
section
/- tree's laws: Leaves. -/
namespace Go.Proofs.YtdoadmkaoboncaaGreatDoor.dig
open Go Go.RowKit

theorem strInfo : ∃ i z, Tryz.prog.info? 9 = some i ∧ i.zero = some z ∧ i.size = 1 ∧ z.cells.size = 1 ∧ i.bytes = 16 := by
  have h2 : (Tryz.prog.info? 9).map (fun i => (i.zero.map (fun z => z.cells.size), i.size, i.bytes)) = some (some 1, 1, 16) := by kernel_rfl
  obtain ⟨i, hi, e⟩ := Option.map_eq_some_iff.1 h2
  simp only [Prod.mk.injEq] at e
  obtain ⟨e1, e2, e3⟩ := e
  obtain ⟨z, hz, e4⟩ := Option.map_eq_some_iff.1 e1
  exact ⟨i, z, hi, hz, e2, e4, e3⟩

theorem enc_size (k : Nat) (h1 : k < 128) : (Utf8.encode (k : Int)).size = 1 := by
  unfold Utf8.encode
  have h2 : (k : Int).toNat = k := by omega
  have h3 : Utf8.valid (k : Int) = true := by
    unfold Utf8.valid
    simp
    omega
  rw [if_pos h3, h2, if_pos (by omega)]
  rfl

theorem and_mask (n : Int) (k : Nat) (hk : k ≤ 8) : bits .and .i64 n ((2 ^ k : Nat) - 1 : Int) = n % ((2 ^ k : Nat) : Int) := by
  have h255 : (BitVec.ofInt 64 ((2 ^ k : Nat) - 1 : Int)).toNat = 2 ^ k - 1 := by
    have : k = 0 ∨ k = 1 ∨ k = 2 ∨ k = 3 ∨ k = 4 ∨ k = 5 ∨ k = 6 ∨ k = 7 ∨ k = 8 := by omega
    rcases this with h | h | h | h | h | h | h | h | h <;> subst h <;> decide
  have key : (BitVec.ofInt 64 n &&& BitVec.ofInt 64 ((2 ^ k : Nat) - 1 : Int)).toNat = (n % ((2 ^ 64 : Nat) : Int)).toNat % 2 ^ k := by
    rw [BitVec.toNat_and, BitVec.toNat_ofInt, h255, Nat.and_two_pow_sub_one_eq_mod]
  show IntKind.i64.wrap ((BitVec.ofInt 64 n &&& BitVec.ofInt 64 ((2 ^ k : Nat) - 1 : Int)).toNat : Nat) = n % ((2 ^ k : Nat) : Int)
  rw [key, IntKind.wrap_i64]
  have : k = 0 ∨ k = 1 ∨ k = 2 ∨ k = 3 ∨ k = 4 ∨ k = 5 ∨ k = 6 ∨ k = 7 ∨ k = 8 := by omega
  rcases this with h | h | h | h | h | h | h | h | h <;> subst h <;> simp only [Nat.reducePow] <;> omega
theorem and255 (n : Int) : bits .and .i64 n 255 = n % 256 := and_mask n 8 (by decide)
theorem and7 (n : Int) : bits .and .i64 n 7 = n % 8 := and_mask n 3 (by decide)

def Stay (p : Prop) := p
theorem stay {p : Prop} (h : Stay p) : p := h
/-- Texts were answered, in new memory. -/
def LvsPost (w : World) (m : Nat) (en : Ending) (w' : World) : Prop :=
  ∃ v L, en = .returned v ∧ Strs w' v L ∧ L.length = m ∧ (∀ x, v.ownBlock = some x → w.heap.size ≤ x) ∧ Below w.heap.size w w' ∧ v ≠ .slice none 0 0

set_option maxRecDepth 100000 in
set_option maxHeartbeats 1000000 in
theorem leaves_calls (a : Option Addr) (len cap : Nat) (T : Nat → ByteArray) (n : Int) (w : World) (hA : ArgS w a len cap T) (hn0 : -9223372036854775808 ≤ n) (hn1 : n ≤ 9223372036854775807) :
    Calls Tryz.prog 24 #[.slice a len cap, .int .i64 n] w (LvsPost w (min (max n 0) 40).toNat) := by
  have HA := Lib.hid hA
  have hlen : (len : Int) ≤ 9223372036854775807 := by have := hA.1; have := hA.2.1; unfold maxLen at this; omega
  clear hA
  go_enter Tryz.func24, Tryz.ntmps24
  go_wp2_with fail
  go_name_world W hW
  obtain ⟨M, hM⟩ : ∃ M, M = (min (max n 0) 40).toNat := ⟨_, rfl⟩
  have hM40 : M ≤ 40 := by omega
  have S0 : Hid (Seg W 9 1 (.slice (some ⟨w.heap.size, 0, none⟩) 0 0) 0 [] ∧ (∀ x, (Value.slice (some ⟨w.heap.size, 0, none⟩) 0 0).ownBlock = some x → w.heap.size ≤ x) ∧ Below w.heap.size w W) := by
    rw [← hW]
    exact Lib.hid ⟨Seg.of_has (n := 0) (size := 1) (made_at _ _ rfl) (by simp) (by decide), fun x hx => by have e : w.heap.size = x := (by simpa [Value.ownBlock] using hx); omega, (Below.refl _ _).alloc (Nat.le_refl _) _⟩
  clear hW
  go_loopw [5, 6] (fun o i wr => ∃ (k : Nat) (L : List ByteArray), i = .int .i64 k ∧ k ≤ M ∧ L.length = k ∧ Hid (Seg wr 9 1 o k (L.map Value.string) ∧ (∀ x, o.ownBlock = some x → w.heap.size ≤ x) ∧ Below w.heap.size w wr) ∧ Hid ((∀ s ∈ L, s.size ≤ 1000) ∧ o ≠ .slice none 0 0)) (fun _ i _ => M - (intOf i).toNat)
  case atStart => exact ⟨0, [], rfl, Nat.zero_le _, rfl, S0, Lib.hid ⟨fun s hs => (by cases hs), fun e => by cases e⟩⟩
  case round =>
    obtain ⟨k, L, rfl, hk, hL, HS, HL⟩ := hrel
    clear S0
    have hk0 : (0 : Int) ≤ (k : Int) := by omega
    have hk40 : (k : Int) ≤ 40 := by omega
    have HCH : Hid ((Utf8.encode (97 + (k : Int) % 26)).size ≤ 4) := Lib.hid (by rw [show 97 + (k : Int) % 26 = ((97 + k % 26 : Nat) : Int) by omega, enc_size _ (by omega)]; decide)
    by_cases hkM : k < M
    · have ht : (k : Int) < min (max n 0) 40 := by omega
      obtain ⟨i0, z0, hi0, hz0, hz1, hz2, hz3⟩ := strInfo
      have HI0 := Lib.hid hi0
      have HZ0 := Lib.hid hz0
      have hks : 0 < k ∨ 0 ≤ k := by omega
      clear hi0 hz0 hks
      by_cases hl0 : len = 0
      case' pos =>
        subst hl0
        have HCS : Hid ((Utf8.encode (97 + (k : Int) % 26)).size ≤ 1000) := Lib.hid (by have := HCH.out; omega)
        clear HCH
        have HCUT : Hid True := Lib.hid trivial
        have hlp : ¬ (0 : Int) < 0 := by decide
      case' neg =>
        have hlp : (len : Int) > 0 := by omega
        have hrl : k % len < len := Nat.mod_lt _ (by omega)
        obtain ⟨gb, go, ha, hgb, hcell, hsz⟩ := HA.out.2.2 (k % len) hrl
        subst ha
        have c0 : wr.cell? ⟨gb, go + k % len, none⟩ = some (.string (T (k % len))) := by
          rw [← hcell]; unfold World.cell?; rw [HS.out.2.2.block gb hgb]
        obtain ⟨t0, ht0⟩ : ∃ t0, t0 = T (k % len) := ⟨_, rfl⟩
        rw [← ht0] at c0 hsz
        have HSZ := Lib.hid hsz
        obtain ⟨p', hp, hp2⟩ := cut_size t0 10
        have HP2 := Lib.hid hp2
        have HCUT : Hid (Calls Tryz.prog 7 #[.string t0, .int .i64 10] wr fun en w' => en = .returned (.string p') ∧ wr = w') := Lib.hid (by rw [← hp]; exact cut_any t0 10 wr (by decide) HSZ.out)
        clear hp hp2 HSZ hcell hsz hl0 ht0
        have hrl2 : (k : Int) % (len : Int) < (len : Int) := by omega
        have hrl3 : (0 : Int) ≤ (k : Int) % (len : Int) := Int.emod_nonneg _ (by omega)
        have HCS : Hid ((Utf8.encode (97 + (k : Int) % 26) ++ p').size ≤ 1000) := Lib.hid (by rw [ByteArray.size_append]; have := HCH.out; have := HP2.out; omega)
        clear HP2 HCH
      all_goals
        go_wp2_with (first
          | ((with_reducible refine at_op 23 ?_); refine stay ?_)
          | fail)
        unfold Stay
        generalize Utf8.encode (97 + (k : Int) % 26) = ch at *
        have hcc := HCS.out
        try rw [ByteArray.size_append] at hcc
        go_wp2_with (first
        | (go_at_call 7; refine HCUT.out.mono ?_; rintro e w' ⟨rfl, rfl⟩)
        | ((with_reducible refine at_op 37 ?_); refine wpList_append_seg (o := ⟨some 37, _, _, _, _, _⟩) _ rfl (.tmp 34) (.tmp 36) 22 rfl 9 i0 z0 1 16 Tryz.underlying22 HI0.out HZ0.out hz1 hz3 hz2 (by decide) u5 k (L.map Value.string) rfl (HS.out.1.alloc _) ⟨wr.heap.size, 0, none⟩ 1 1 [.string _] rfl rfl (World.news_of_block (heap_alloc_new _ _)) (by simp [Value.oneCell']) (by decide) (by unfold maxLen; omega) (by omega) _ rfl ?_;
           intro g off cp w4 hown hgrow hat hlt)
        | fail)
        refine ⟨⟨k + 1, L ++ [_], by rw [Int.natCast_add]; rfl, by omega, by rw [List.length_append, hL]; rfl, Lib.hid ⟨by rw [List.map_append]; exact hown, fun x hx => ?_, ?_⟩, Lib.hid ⟨fun t ht => ?_, fun e => by cases e⟩⟩, ?_⟩
        · have e : g = x := by simpa [Value.ownBlock] using hx
          rw [← e]
          rcases hat with h | h
          · exact HS.out.2.1 g h
          · rw [h]; exact Nat.le_trans HS.out.2.2.size (by simp)
        · exact (HS.out.2.2.alloc HS.out.2.2.size _).trans (below_own hgrow HS.out.2.1 (Nat.le_trans HS.out.2.2.size (by simp)))
        · rcases List.mem_append.1 ht with h | h
          · exact HL.out.1 t h
          · rw [List.mem_singleton.1 h]; exact HCS.out
        · show M - ((k : Int) + 1).toNat < M - ((k : Int)).toNat
          omega
    · have ht : ¬ (k : Int) < min (max n 0) 40 := by omega
      go_wp2_with fail
      go_ret
      refine ⟨_, L, rfl, ⟨?_, fun s hs => by have := HL.out.1 s hs; omega⟩, by omega, HS.out.2.1, HS.out.2.2, HL.out.2⟩
      rw [hL]
      exact HS.out.1
end Go.Proofs.YtdoadmkaoboncaaGreatDoor.dig
end

section
/- audit's laws: Made. -/
namespace Go.Proofs.YtdoadmkaoboncaaGreatDoor.aud
open Go Go.RowKit Go.Proofs.YtdoadmkaoboncaaGreatDoor.dig Go.Proofs.YtdoadmkaoboncaaGreatDoor.prf Go.Proofs.YtdoadmkaoboncaaGreatDoor.prn

/-- Results: a plain one, a whole row out of its cell. -/
theorem res_tmp_cell {fn : Func} {p q : Tmp} (h : fn.results = #[.tmp p, .cell q 29]) (tmps : Array Value) (w : World) (g : Nat) (cs : Array Value) (x : Value) (hp : tmps.getD p undef = x) (hq : tmps.getD q undef = .pointer (some ⟨g, 0, none⟩)) (hg : Has w g 29 cs) (hi : (Tryz.prog.info? 29).map (·.size) = some cs.size) :
    (results fn tmps).run Tryz.prog w = .ok (.tuple #[x, .agg cs]) w := by
  have hp' : tmps[p]?.getD undef = x := by simpa using hp
  have hq' : tmps[q]?.getD undef = .pointer (some ⟨g, 0, none⟩) := by simpa using hq
  simp [results, h, hp', hq', asAddr, run_loadVar_row w g 29 29 cs (0, 0) _ hg Tryz.underlying29 rfl hi]

/-- A vault was made, of k texts and with this floor; the document's has the texts. -/
def MadePost (w : World) (k fl : Nat) (en : Ending) (w' : World) : Prop :=
  ∃ vb a c L, en = .returned (.tuple #[.pointer (some ⟨vb, 0, none⟩), .agg #[.slice a k c, .int .i64 fl]]) ∧ Va w.heap.size (fun j => w.heap.size ≤ j ∧ j < w'.heap.size) w' vb L fl ∧ Strs w' (.slice a k c) L ∧ L.length = k ∧ Below w.heap.size w w'

set_option maxRecDepth 100000 in
set_option maxHeartbeats 4000000 in
theorem made_calls (a : Option Addr) (len cap : Nat) (T : Nat → ByteArray) (n f : Int) (w : World) (hA : ArgS w a len cap T) (hR : Rt w.heap.size w) (k fl : Nat) (hk0 : (k : Int) = min (max n 0) 16) (hfl0 : (fl : Int) = min (max f 0) (k : Int)) :
    Calls Tryz.prog 6 #[.slice a len cap, .int .i64 n, .int .i64 f] w (MadePost w k fl) := by
  obtain ⟨x, hx⟩ : ∃ x : Int, max n 0 = x := ⟨_, rfl⟩
  obtain ⟨y, hy⟩ : ∃ y : Int, max f 0 = y := ⟨_, rfl⟩
  rw [hx] at hk0
  rw [hy] at hfl0
  have hk := hk0.symm
  have hfl := hfl0.symm
  clear hk0 hfl0
  have hk16 : k ≤ 16 := by omega
  have hfk : fl ≤ k := by omega
  have HA := Lib.hid (show _ ∧ _ from ⟨hA, hR⟩)
  clear hA hR
  go_enter Tryz.func6, Tryz.ntmps6
  go_wp2_with fail
  refine callsName (fun W hW => ?_)
  have R0 : Hid (Has W w.heap.size 29 #[.slice none 0 0, .int .i64 0] ∧ Below w.heap.size w W ∧ ArgS W a len cap T) := by
    have b0 : Below w.heap.size w W := by rw [← hW]; exact (Below.refl _ _).alloc (Nat.le_refl _) _
    refine Lib.hid ⟨by rw [← hW]; exact made_at _ _ rfl, b0, HA.out.1.1, HA.out.1.2.1, fun k hk => ?_⟩
    obtain ⟨gb, go, h1, h2, h3, h4⟩ := HA.out.1.2.2 k hk
    exact ⟨gb, go, h1, Nat.lt_of_lt_of_le h2 b0.size, by rw [← h3]; unfold World.cell?; rw [b0.block gb h2], h4⟩
  clear hW
  refine (leaves_calls a len cap T k W R0.out.2.2 (by omega) (by omega)).mono ?_
  rintro en w2 ⟨v, L, rfl, hs2, hlen, lo2, b2, hne⟩
  have hlen2 : L.length = k := by omega
  obtain ⟨a0, c0, rfl, hc1, hc2⟩ := hs2.1.slice
  obtain ⟨g, off, rfl⟩ : ∃ g off, a0 = some ⟨g, off, none⟩ := by
    rcases hs2.1.2 with ⟨h, _⟩ | ⟨g, off, cp, cur, h, _⟩
    · exact absurd h hne
    · simp only [Value.slice.injEq] at h; exact ⟨g, off, h.1⟩
  rw [hlen2] at hs2 ⊢
  have R2 : Hid (Has w2 w.heap.size 29 #[.slice none 0 0, .int .i64 0] ∧ Below w.heap.size w w2 ∧ Strs w2 (.slice (some ⟨g, off, none⟩) k c0) L ∧ L.length = k ∧ g < w2.heap.size) :=
    Lib.hid ⟨R0.out.1.below b2 R0.out.1.lt, R0.out.2.1.trans (b2.mono R0.out.2.1.size), hs2, hlen2, hs2.1.lt rfl⟩
  clear hs2 lo2 b2 R0 hlen hlen2 hc2 hc1 hne
  go_wp2_with fail
  refine (vnew_calls w.heap.size w2 ?_).mono ?_
  · have b := R2.out.2.1
    have r := HA.out.2.below b (Nat.le_refl _)
    exact r
  rintro en w3 ⟨vb, rfl, hvb, v3, b3⟩
  have R3 : Hid (Va w.heap.size (fun j => w2.heap.size ≤ j ∧ j < w3.heap.size) w3 vb [] 0 ∧ Has w3 w.heap.size 29 #[.slice none 0 0, .int .i64 0] ∧ Below w.heap.size w w3 ∧ Strs w3 (.slice (some ⟨g, off, none⟩) k c0) L ∧ L.length = k ∧ g < w2.heap.size ∧ w.heap.size < w2.heap.size) :=
    Lib.hid ⟨v3.fresh w2.heap.size (fun _ h _ => h) R2.out.2.1.size, R2.out.1.below b3 R2.out.1.lt, R2.out.2.1.trans (b3.mono R2.out.2.1.size), ⟨R2.out.2.2.1.1.below b3 (fun x hx => R2.out.2.2.1.1.lt hx), R2.out.2.2.1.2⟩, R2.out.2.2.2.1, R2.out.2.2.2.2, R2.out.1.lt⟩
  clear v3 b3 hvb R2
  have hap := R3.out.1.add (some ⟨g, off, none⟩) c0 L (by rw [R3.out.2.2.2.2.1]; exact R3.out.2.2.2.1) (fun x hx e => by
    have h1 : g = x := by simpa [Value.ownBlock] using hx
    have := R3.out.2.2.2.2.2.1
    have := e.1
    omega) (by have := R3.out.2.2.2.2.1; simp; omega)
  rw [R3.out.2.2.2.2.1] at hap
  have HAP := Lib.hid hap
  clear hap
  go_wp2_with fail
  refine HAP.out.mono ?_
  rintro en w4 ⟨rfl, v4, t4⟩
  rw [List.nil_append] at v4
  have R4 : Hid (Va w.heap.size (fun j => w2.heap.size ≤ j ∧ j < w4.heap.size) w4 vb L 0 ∧ Has w4 w.heap.size 29 #[.slice none 0 0, .int .i64 0] ∧ Below w.heap.size w w4 ∧ Strs w4 (.slice (some ⟨g, off, none⟩) k c0) L ∧ L.length = k ∧ g < w2.heap.size ∧ w.heap.size < w2.heap.size) := by
    obtain ⟨h1, h2, h3, h4, h5, h6, h7⟩ := R3.out
    refine Lib.hid ⟨v4.fresh w2.heap.size (fun j hj _ => ?_) (by omega), h2.turn t4 (fun e => by have := e.1; omega), h3.trans (t4.below h3.size (fun j hj e => by have := e.1; omega)), ⟨h4.1.turn t4 (fun x hx e => ?_), h4.2⟩, h5, h6, h7⟩
    · rcases hj with h | h
      · exact h.1
      · have h8 : w2.heap.size ≤ w3.heap.size := by have := h1.lt; have := h1.ownF; have := this.1; omega
        omega
    · have h8 : g = x := by simpa [Value.ownBlock] using hx
      have := e.1
      omega
  clear v4 t4 R3 HAP
  go_wp2_with fail
  refine (R4.out.1.keep fl (Nat.zero_le _) (by have := R4.out.2.2.2.2.1; omega)).mono ?_
  rintro en w5 ⟨rfl, v5, t5⟩
  have R5 : Hid (Va w.heap.size (fun j => w2.heap.size ≤ j ∧ j < w5.heap.size) w5 vb L fl ∧ Has w5 w.heap.size 29 #[.slice none 0 0, .int .i64 0] ∧ Below w.heap.size w w5 ∧ Strs w5 (.slice (some ⟨g, off, none⟩) k c0) L ∧ L.length = k ∧ g < w2.heap.size ∧ w.heap.size < w2.heap.size) := by
    obtain ⟨h1, h2, h3, h4, h5, h6, h7⟩ := R4.out
    refine Lib.hid ⟨v5.fresh w2.heap.size (fun j hj _ => ?_) (by omega), h2.turn t5 (fun e => by have := e.1; omega), h3.trans (t5.below h3.size (fun j hj e => by have := e.1; omega)), ⟨h4.1.turn t5 (fun x hx e => ?_), h4.2⟩, h5, h6, h7⟩
    · rcases hj with h | h
      · exact h.1
      · have h8 : w2.heap.size ≤ w4.heap.size := by have := h1.lt; have := h1.ownF; have := this.1; omega
        omega
    · have h8 : g = x := by simpa [Value.ownBlock] using hx
      have := e.1
      omega
  clear v5 t5 R4 hx hk hy hfl
  go_wp2_with (first
    | ((with_reducible refine at_store (.tmp 7) ?_); refine wpList_store_cells (o := ⟨none, _, _, _, _, _⟩) rfl 29 (.tmp 7) (.tmp 30) rfl w.heap.size #[.slice (some ⟨g, off, none⟩) k c0, .int .i64 fl] #[.slice none 0 0, .int .i64 0] rfl rfl _ R5.out.2.1 (by kernel_rfl) rfl (by simp [Value.oneCell']) ?_; intro W9 HW9 TW9)
    | fail)
  obtain ⟨h1, h2, h3, h4, h5, h6, h7⟩ := R5.out
  exact bodyPost_ret (v := .tuple #[.pointer (some ⟨vb, 0, none⟩), .agg #[.slice (some ⟨g, off, none⟩) k c0, .int .i64 fl]]) (res_tmp_cell rfl _ _ w.heap.size _ _ rfl rfl HW9 (by kernel_rfl)) rfl
    ⟨vb, _, c0, L, rfl, (h1.turn TW9 (fun j hf _ e => by have := hf.1; omega) (fun j e => by omega)).fresh w.heap.size (fun j hj _ => by have := hj.1; omega) (Nat.le_refl _), ⟨h4.1.turn TW9 (fun x hx e => by
      have h8 := h4.1.ne h2 (by decide)
      exact h8 (by rw [hx, e])), h4.2⟩, h5, h3.trans (TW9.below h3.size (fun j hj e => by omega))⟩
end Go.Proofs.YtdoadmkaoboncaaGreatDoor.aud
end

section
/- Out of PruHd: exec_load_of, exec_eql_of, built_zero, exec_zero_head. -/
namespace Go.Proofs.YtdoadmkaoboncaaGreatDoor.prn
open Go Go.RowKit Go.Proofs.YtdoadmkaoboncaaGreatDoor.dig Go.Proofs.YtdoadmkaoboncaaGreatDoor.prf

theorem exec_load_of {P : Program} {ev : Operand → Value} {o : Oper} {ty : TypeId} {x : Operand} (ho : o.op = .load ty x) {p v : Value} (hp : ev x = p) {w : World} (h : (Instr.loadAt ty p).run P w = .ok v w) : (execOp ev o).run P w = .ok (.value v) w := by
  unfold execOp
  simp only [ho, hp, Sem.run_bind, h, Result.andThen_ok, Sem.run_pure]
theorem exec_eql_of {P : Program} {ev : Operand → Value} {o : Oper} {ty ty2 : TypeId} {x y : Operand} (ho : o.op = .binOp .eql ty x y ty2) {a b v : Value} (hx : ev x = a) (hy : ev y = b) {w : World} (h : (binOp .eql ty a b).run P w = .ok v w) (hg : (eqGuard .eql ty x y a b).run P w = .ok () w) : (execOp ev o).run P w = .ok (.value v) w := by
  unfold execOp
  simp only [ho, hx, hy, Sem.run_bind, hg, h, Result.andThen_ok, Sem.run_pure]
theorem built_zero : Tryz.prog.built 41 [] = some (headC 0 (List.replicate 32 0)) := by kernel_rfl
set_option maxRecDepth 100000 in
theorem exec_zero_head {ev : Operand → Value} {o : Oper} {w : World} (ho : o.op = .build 41 #[]) : (execOp ev o).run Tryz.prog w = .ok (.value (.agg (headC 0 (List.replicate 32 0)))) w := by
  have hr := run_build (P := Tryz.prog) w 41 #[] _ built_zero
  unfold execOp
  simp only [ho, Sem.run_bind, Sem.run_pure]
  simp [hr]
end Go.Proofs.YtdoadmkaoboncaaGreatDoor.prn
end

section
/- proof: what sums prove (the mathematics). -/
namespace Go.Proofs.YtdoadmkaoboncaaGreatDoor.prf
open Go Go.Proofs.YtdoadmkaoboncaaGreatDoor.dig

/-- The root over n leaves, of the i-th one's sum x and of sums, the outermost first; z: what stands for none. -/
def up (z x : List UInt8) : List (List UInt8) → Nat → Nat → List UInt8 × Bool
  | [], _, n => if n = 1 then (x, true) else (z, false)
  | s :: r, i, n => if n = 1 then (x, false) else if i < half n then (nodeS (up z x r i (half n)).1 s, (up z x r i (half n)).2) else (nodeS s (up z x r (i - half n) (n - half n)).1, (up z x r (i - half n) (n - half n)).2)

theorem up_one (z x : List UInt8) (r : List (List UInt8)) (i : Nat) : up z x r i 1 = (x, r.isEmpty) := by
  cases r <;> simp [up]
theorem up_nil (z x : List UInt8) (i : Nat) {n : Nat} (h : n ≠ 1) : up z x [] i n = (z, false) := by simp [up, h]
theorem up_left (z x s : List UInt8) (r : List (List UInt8)) {i n : Nat} (h : n ≠ 1) (hi : i < half n) : up z x (s :: r) i n = (nodeS (up z x r i (half n)).1 s, (up z x r i (half n)).2) := by
  rw [up, if_neg h, if_pos hi]
theorem up_right (z x s : List UInt8) (r : List (List UInt8)) {i n : Nat} (h : n ≠ 1) (hi : ¬ i < half n) : up z x (s :: r) i n = (nodeS s (up z x r (i - half n) (n - half n)).1, (up z x r (i - half n) (n - half n)).2) := by
  rw [up, if_neg h, if_neg hi]

theorem up_len {z x : List UInt8} (hz : z.length = 32) (hx : x.length = 32) : ∀ (r : List (List UInt8)) (i n : Nat), (up z x r i n).1.length = 32
  | [], i, n => by by_cases h : n = 1 <;> simp [up, h, hz, hx]
  | s :: r, i, n => by
    by_cases h : n = 1
    · simp [up, h, hx]
    · by_cases hi : i < half n
      · rw [up_left z x s r h hi]; exact nodeS_length _ _
      · rw [up_right z x s r h hi]; exact nodeS_length _ _

/-- What stands for none matters in none that is right. -/
theorem up_any (z z' x : List UInt8) : ∀ (r : List (List UInt8)) (i n : Nat), (up z x r i n).2 = (up z' x r i n).2 ∧ ((up z x r i n).2 = true → (up z x r i n).1 = (up z' x r i n).1)
  | [], i, n => by by_cases h : n = 1 <;> simp [up, h]
  | s :: r, i, n => by
    by_cases h : n = 1
    · simp [up, h]
    · by_cases hi : i < half n
      · rw [up_left z x s r h hi, up_left z' x s r h hi]
        obtain ⟨h1, h2⟩ := up_any z z' x r i (half n)
        exact ⟨h1, fun e => by show nodeS _ _ = nodeS _ _; rw [h2 e]⟩
      · rw [up_right z x s r h hi, up_right z' x s r h hi]
        obtain ⟨h1, h2⟩ := up_any z z' x r (i - half n) (n - half n)
        exact ⟨h1, fun e => by show nodeS _ _ = nodeS _ _; rw [h2 e]⟩

/-- As many sums as it takes are a matter of their number alone. -/
theorem up_count (z x z' x' : List UInt8) : ∀ (r r' : List (List UInt8)) (i n : Nat), r.length = r'.length → (up z x r i n).2 = (up z' x' r' i n).2
  | [], [], i, n, _ => by by_cases h : n = 1 <;> simp [up, h]
  | s :: r, s' :: r', i, n, hl => by
    have hl' : r.length = r'.length := by simpa using hl
    by_cases h : n = 1
    · simp [up, h]
    · by_cases hi : i < half n
      · rw [up_left z x s r h hi, up_left z' x' s' r' h hi]; exact up_count z x z' x' r r' i (half n) hl'
      · rw [up_right z x s r h hi, up_right z' x' s' r' h hi]; exact up_count z x z' x' r r' (i - half n) (n - half n) hl'
  | [], _ :: _, _, _, hl => by cases hl
  | _ :: _, [], _, _, hl => by cases hl

/-- Of one number of leaves and one place there is one number of sums that it takes. -/
theorem up_more (z x z' x' : List UInt8) : ∀ (r r' : List (List UInt8)) (i n : Nat), (up z x r i n).2 = true → r.length ≠ r'.length → (up z' x' r' i n).2 = false
  | [], [], i, n, _, hl => by exact absurd rfl hl
  | s :: r, s' :: r', i, n, ho, hl => by
    have hl' : r.length ≠ r'.length := by simpa using hl
    by_cases h : n = 1
    · simp [up, h]
    · by_cases hi : i < half n
      · rw [up_left z x s r h hi] at ho; rw [up_left z' x' s' r' h hi]; exact up_more z x z' x' r r' i (half n) ho hl'
      · rw [up_right z x s r h hi] at ho; rw [up_right z' x' s' r' h hi]; exact up_more z x z' x' r r' (i - half n) (n - half n) ho hl'
  | [], s' :: r', i, n, ho, _ => by
    by_cases h : n = 1
    · simp [up, h]
    · rw [up_nil z x i h] at ho; cases ho
  | s :: r, [], i, n, ho, _ => by
    by_cases h : n = 1
    · rw [up, if_pos h] at ho; cases ho
    · rw [up_nil z' x' i h]

/-- The roots over the first m and over all n leaves; o: the first one's, f: it is known. -/
def both (z o : List UInt8) : List (List UInt8) → Bool → Nat → Nat → List UInt8 × List UInt8 × Bool
  | [], f, m, n => if m = n ∧ f = true then (o, o, true) else (z, z, false)
  | s :: r, f, m, n => if m = n ∧ f = true then (o, o, false) else if m = n then (s, s, r.isEmpty) else if m ≤ half n then ((both z o r f m (half n)).1, nodeS (both z o r f m (half n)).2.1 s, (both z o r f m (half n)).2.2) else (nodeS s (both z o r false (m - half n) (n - half n)).1, nodeS s (both z o r false (m - half n) (n - half n)).2.1, (both z o r false (m - half n) (n - half n)).2.2)

theorem both_known (z o : List UInt8) (r : List (List UInt8)) (n : Nat) : both z o r true n n = (o, o, r.isEmpty) := by cases r <;> simp [both]
theorem both_nil (z o : List UInt8) (f : Bool) {m n : Nat} (h : ¬ (m = n ∧ f = true)) : both z o [] f m n = (z, z, false) := by rw [both, if_neg h]
theorem both_all (z o s : List UInt8) (r : List (List UInt8)) (n : Nat) : both z o (s :: r) false n n = (s, s, r.isEmpty) := by simp [both]
theorem both_left (z o s : List UInt8) (r : List (List UInt8)) (f : Bool) {m n : Nat} (h : m ≠ n) (hm : m ≤ half n) : both z o (s :: r) f m n = ((both z o r f m (half n)).1, nodeS (both z o r f m (half n)).2.1 s, (both z o r f m (half n)).2.2) := by
  rw [both, if_neg (fun e => h e.1), if_neg h, if_pos hm]
theorem both_right (z o s : List UInt8) (r : List (List UInt8)) (f : Bool) {m n : Nat} (h : m ≠ n) (hm : ¬ m ≤ half n) : both z o (s :: r) f m n = (nodeS s (both z o r false (m - half n) (n - half n)).1, nodeS s (both z o r false (m - half n) (n - half n)).2.1, (both z o r false (m - half n) (n - half n)).2.2) := by
  rw [both, if_neg (fun e => h e.1), if_neg h, if_neg hm]

theorem both_len {z o : List UInt8} (hz : z.length = 32) (ho : o.length = 32) : ∀ (r : List (List UInt8)) (f : Bool) (m n : Nat), (∀ x ∈ r, x.length = 32) → (both z o r f m n).1.length = 32 ∧ (both z o r f m n).2.1.length = 32
  | [], f, m, n, _ => by by_cases h : m = n ∧ f = true <;> simp [both, h, hz, ho]
  | s :: r, f, m, n, hr => by
    have hs := hr s (by simp)
    have hr' : ∀ x ∈ r, x.length = 32 := fun x hx => hr x (by simp [hx])
    by_cases h : m = n
    · subst h
      cases f
      · rw [both_all]; exact ⟨hs, hs⟩
      · rw [both_known]; exact ⟨ho, ho⟩
    · by_cases hm : m ≤ half n
      · rw [both_left z o s r f h hm]; exact ⟨(both_len hz ho r f m (half n) hr').1, nodeS_length _ _⟩
      · rw [both_right z o s r f h hm]; exact ⟨nodeS_length _ _, nodeS_length _ _⟩

theorem both_any (z z' o : List UInt8) : ∀ (r : List (List UInt8)) (f : Bool) (m n : Nat), (both z o r f m n).2.2 = (both z' o r f m n).2.2 ∧ ((both z o r f m n).2.2 = true → (both z o r f m n).1 = (both z' o r f m n).1 ∧ (both z o r f m n).2.1 = (both z' o r f m n).2.1)
  | [], f, m, n => by by_cases h : m = n ∧ f = true <;> simp [both, h]
  | s :: r, f, m, n => by
    by_cases h : m = n
    · subst h
      cases f
      · rw [both_all, both_all]; exact ⟨rfl, fun _ => ⟨rfl, rfl⟩⟩
      · rw [both_known, both_known]; exact ⟨rfl, fun _ => ⟨rfl, rfl⟩⟩
    · by_cases hm : m ≤ half n
      · rw [both_left z o s r f h hm, both_left z' o s r f h hm]
        obtain ⟨h1, h2⟩ := both_any z z' o r f m (half n)
        exact ⟨h1, fun e => ⟨(h2 e).1, by show nodeS _ _ = nodeS _ _; rw [(h2 e).2]⟩⟩
      · rw [both_right z o s r f h hm, both_right z' o s r f h hm]
        obtain ⟨h1, h2⟩ := both_any z z' o r false (m - half n) (n - half n)
        exact ⟨h1, fun e => ⟨by show nodeS _ _ = nodeS _ _; rw [(h2 e).1], by show nodeS _ _ = nodeS _ _; rw [(h2 e).2]⟩⟩

/-- Do sums prove a leaf: 0, 6 (no such place) or 12. -/
def inclE (leaf : List UInt8) (i n : Int) (root : List UInt8) (r : List (List UInt8)) : Int :=
  if i < 0 ∨ n ≤ i then 6 else if (up (List.replicate 32 0) (leafS leaf) r i.toNat n.toNat).2 = true ∧ (up (List.replicate 32 0) (leafS leaf) r i.toNat n.toNat).1 = root then 0 else 12

/-- Do they prove an elder head, of no more leaves? -/
def elderB (m : Nat) (old : List UInt8) (n : Nat) (root : List UInt8) (r : List (List UInt8)) : Bool :=
  if m = n then r.isEmpty && (old == root) else if m = 0 then r.isEmpty && (old == sum []) else
    (both (List.replicate 32 0) old r true m n).2.2 && ((both (List.replicate 32 0) old r true m n).1 == old) && ((both (List.replicate 32 0) old r true m n).2.1 == root)
def consE (m : Int) (old : List UInt8) (n : Int) (root : List UInt8) (r : List (List UInt8)) : Int :=
  if m < 0 ∨ n < m then 6 else if elderB m.toNat old n.toNat root r = true then 0 else 12
end Go.Proofs.YtdoadmkaoboncaaGreatDoor.prf
end

section
/- prune: the mathematics: what a tree's proof of a leaf, and of a prefix, comes to. -/
namespace Go.Proofs.YtdoadmkaoboncaaGreatDoor.prn
open Go Go.Proofs.YtdoadmkaoboncaaGreatDoor.dig Go.Proofs.YtdoadmkaoboncaaGreatDoor.prf

/-- The proof of a leaf comes to the root. -/
theorem up_path (z : List UInt8) (f : Nat → List UInt8) : ∀ (n i a : Nat), i < n → up z (f (a + i)) (path f i a n).reverse i n = (rt f a n, true) := by
  intro n
  induction n using Nat.strongRecOn with
  | _ n ih =>
    intro i a hi
    by_cases h2 : 2 ≤ n
    · have hp := half_pos n
      have hl := half_lt h2
      rw [path, dif_pos h2, rt_two f a h2]
      by_cases hh : i < half n
      · rw [if_pos hh, List.reverse_append, List.reverse_singleton, List.singleton_append, up_left _ _ _ _ (by omega) hh, ih (half n) hl i a hh]
      · rw [if_neg hh, List.reverse_append, List.reverse_singleton, List.singleton_append, up_right _ _ _ _ (by omega) hh]
        have h3 := ih (n - half n) (by omega) (i - half n) (a + half n) (by omega)
        rw [show a + half n + (i - half n) = a + i by omega] at h3
        rw [h3]
    · obtain rfl : n = 1 := by omega
      obtain rfl : i = 0 := by omega
      rw [path, dif_neg h2, List.reverse_nil, up_one, rt_one]
      rfl

/-- The proof of a prefix comes to both roots. -/
theorem both_steps (z o : List UInt8) (f : Nat → List UInt8) : ∀ (n m a : Nat) (first : Bool), 0 < m → m ≤ n → (first = true → o = rt f a m) →
    both z o (steps f m a n first).reverse first m n = (rt f a m, rt f a n, true) := by
  intro n
  induction n using Nat.strongRecOn with
  | _ n ih =>
    intro m a first h0 hm ho
    by_cases he : m = n
    · subst he
      rw [steps, if_pos rfl]
      cases first
      · rw [if_neg (by simp), List.reverse_singleton, both_all]
        rfl
      · rw [if_pos rfl, List.reverse_nil, both_known, ho rfl]
        rfl
    · have h2 : 2 ≤ n := by omega
      have hp := half_pos n
      have hl := half_lt h2
      rw [steps, if_neg he, dif_pos h2, rt_two f a h2]
      by_cases hh : m ≤ half n
      · rw [if_pos hh, List.reverse_append, List.reverse_singleton, List.singleton_append, both_left _ _ _ _ _ he hh, ih (half n) hl m a first h0 hh ho]
      · rw [if_neg hh, List.reverse_append, List.reverse_singleton, List.singleton_append, both_right _ _ _ _ _ he hh]
        have h3 := ih (n - half n) (by omega) (m - half n) (a + half n) false (by omega) (by omega) (fun h => by cases h)
        rw [h3]
        have hg := half_ge h2
        have e : half m = half n := half_of (j := Nat.log2 (n - 1)) (by show half n < m; omega) (by rw [Nat.pow_succ]; show m ≤ half n * 2; omega)
        have h4 := rt_two f a (n := m) (by omega)
        rw [e] at h4
        rw [h4]
end Go.Proofs.YtdoadmkaoboncaaGreatDoor.prn
end

section
/- Out of PruH: dig.Tr.inclusion_range, Va.leaf_range, Va.leaf_low, incl_path. -/
namespace Go.Proofs.YtdoadmkaoboncaaGreatDoor.prn
open Go Go.RowKit Go.Proofs.YtdoadmkaoboncaaGreatDoor.dig Go.Proofs.YtdoadmkaoboncaaGreatDoor.prf

section
variable {B : Nat} {F : Nat → Prop} {w : World} {b vb N fl : Nat} {f : Nat → List UInt8} {L : List ByteArray}
set_option maxRecDepth 100000 in
set_option maxHeartbeats 1000000 in
theorem _root_.Go.Proofs.YtdoadmkaoboncaaGreatDoor.dig.Tr.inclusion_range (hT : Tr B F w b N fl f) (x n : Int) (h : n < 0 ∨ n > N ∨ x < 0 ∨ x ≥ n) :
    Calls Tryz.prog 49 #[.pointer (some ⟨b, 0, none⟩), .int .i64 x, .int .i64 n] w fun en w' => en = .returned (.tuple #[.slice none 0 0, .int .i64 6]) ∧ w = w' := by
  obtain ⟨rv, hh⟩ := hT.head
  have e0 := hh.cell 0
  simp at e0
  clear hT hh
  by_cases h1 : n < 0
  · clear h
    go_enter Tryz.func49, Tryz.ntmps49
    go_wp2_with fail
    go_ret2
    exact ⟨rfl, rfl⟩
  by_cases h2 : n > (N : Int)
  · clear h
    go_enter Tryz.func49, Tryz.ntmps49
    go_wp2_with fail
    go_ret2
    exact ⟨rfl, rfl⟩
  by_cases h3 : x < 0
  · clear h
    go_enter Tryz.func49, Tryz.ntmps49
    go_wp2_with fail
    go_ret2
    exact ⟨rfl, rfl⟩
  · have h4 : x ≥ n := by omega
    clear h
    go_enter Tryz.func49, Tryz.ntmps49
    go_wp2_with fail
    go_ret2
    exact ⟨rfl, rfl⟩

theorem Va.leaf_range (h : Va B F w vb L fl) (x n : Int) (hx : n < 0 ∨ n > L.length ∨ x < 0 ∨ x ≥ n) :
    Calls Tryz.prog 23 #[.pointer (some ⟨vb, 0, none⟩), .int .i64 x, .int .i64 n] w (PairErr w (.agg (prC 0 0 0 (.slice none 0 0))) leafNm x 6) :=
  h.leaf_err x n 6 (by decide) fun _ _ ⟨_, tr⟩ => tr.inclusion_range x n hx
theorem Va.leaf_low (h : Va B F w vb L fl) (i n : Nat) (hn : n ≤ L.length) (hi : i < n) (hf : i < fl) :
    Calls Tryz.prog 23 #[.pointer (some ⟨vb, 0, none⟩), .int .i64 i, .int .i64 n] w (PairErr w (.agg (prC 0 0 0 (.slice none 0 0))) leafNm i 14) :=
  h.leaf_err i n 14 (by decide) fun _ _ ⟨_, tr⟩ => tr.inclusion_low i n hn hi hf

/-- What a vault's own proof of a leaf proves. -/
theorem incl_path {L : List ByteArray} {i n : Nat} (hi : i < n) {s : ByteArray} (hs : L[i]? = some s) : inclE s.data.toList i n (rtAll (leafF L) n) (path (leafF L) i 0 n).reverse = 0 := by
  have h := up_path (List.replicate 32 0) (leafF L) n i 0 hi
  rw [Nat.zero_add, leafF_at L i s hs] at h
  unfold inclE
  rw [if_neg (by omega), Int.toNat_natCast, Int.toNat_natCast, h]
  exact if_pos ⟨rfl, by unfold rtAll; rw [if_neg (by omega)]⟩
end
end Go.Proofs.YtdoadmkaoboncaaGreatDoor.prn
end

section
/- tree: consistency, Consistency. -/
namespace Go.Proofs.YtdoadmkaoboncaaGreatDoor.dig
open Go Go.RowKit

set_option maxRecDepth 100000 in
set_option maxHeartbeats 2000000 in
theorem cons_calls (B : Nat) (F : Nat → Prop) (b N fl : Nat) (f : Nat → List UInt8) (hN : N < 1024) : ∀ (n i a K : Nat) (w : World), Tr B F w b N fl f → 2 ^ K ∣ a → n ≤ 2 ^ K → a + n ≤ N → 0 < i → i ≤ n → fl ≤ a + i → (i = n → a = 0 ∨ Av fl a n) →
    Calls Tryz.prog 67 #[.pointer (some ⟨b, 0, none⟩), .int .i64 i, .int .i64 a, .int .i64 n] w (SumsPost w (steps f i a n (decide (a = 0)))) := by
  intro n
  induction n using Nat.strongRecOn with
  | _ n ih =>
  intro i a K w hT hd hnK han hi0 hin hfl hav0
  by_cases hne : i ≠ n
  · have h2 : 2 ≤ n := by omega
    have h1 := half_lt h2
    have h0 := half_pos n
    have h3 := half_ge h2
    obtain ⟨k, hk⟩ : ∃ k, k = half n := ⟨_, rfl⟩
    obtain ⟨n', hn'⟩ : ∃ n', n' = n - k := ⟨_, rfl⟩
    obtain ⟨a', ha'⟩ : ∃ a', a' = a + k := ⟨_, rfl⟩
    have hk1 : (n : Int) - (k : Int) = (n' : Int) := by omega
    have hk2 : (a : Int) + (k : Int) = (a' : Int) := by omega
    have hk3 : (a' : Int) ≤ 1000000 := by omega
    have hk4 : (n' : Int) ≤ 1000000 := by omega
    have hb1 : (n : Int) ≤ 1000000 := by omega
    have hb2 : (a : Int) ≤ 1000000 := by omega
    have hb3 : (k : Int) ≤ 1000000 := by omega
    have hb4 : (i : Int) ≤ 1000000 := by omega
    have hn2 : ¬ (i : Int) = (n : Int) := by omega
    have hn1000 : n ≤ 1000000000000 := by omega
    have HK := Lib.hid hk
    by_cases hik : i ≤ k
    · have hik2 : (i : Int) ≤ (k : Int) := by omega
      obtain ⟨J, hJ1, hJ2⟩ := dv_left h2 hd hnK
      have hav := av_right (fl := fl) h2 hd hnK (by omega)
      have hav2 := av_left (fl := fl) h2 hd hnK (by omega)
      rw [← hk] at hav2
      rw [← hk] at hJ2
      rw [← hk, ← ha', ← hn'] at hav
      have hp : steps f i a n (decide (a = 0)) = steps f i a k (decide (a = 0)) ++ [rt f a' n'] := by rw [steps, if_neg hne, dif_pos h2, if_pos (by rw [← hk]; exact hik), ← hk, ← ha', ← hn']
      have HP := Lib.hid hp
      have HI := Lib.hid (fun w' (h : Tr B F w' b N fl f) => ih k (by omega) i a J w' h hJ1 hJ2 (by omega) hi0 hik hfl (fun e => .inr hav2))
      have HQ := Lib.hid (fun w' (h : Tr B F w' b N fl f) => root_calls B F b N fl f hN n' a' w' h hav (by omega))
      have HL := Lib.hid (rt_len hT.len a' n' (by omega))
      have HM : Hid ((steps f i a k (decide (a = 0))).length ≤ 64) := Lib.hid (by have := steps_le f 10 k a i (decide (a = 0)) (by omega); omega)
      have HT := Lib.hid hT
      clear ih hT hd hnK han hin hi0 hne hav0 hfl h1 h0 h3 hk hn' ha' hJ1 hJ2 hav hav2 hp hik
      generalize steps f i a k (decide (a = 0)) = l at *
      generalize rt f a' n' = x at *
      go_enter Tryz.func67, Tryz.ntmps67
      go_wp2_with fail
      refine (half_calls n w h2 hn1000).mono ?_
      rw [← HK.out]
      rintro e w' ⟨rfl, rfl⟩
      go_wp2_with fail
      refine (HI.out _ HT.out).mono ?_
      rintro e w1 ⟨v, rfl, s1, lo1, b1⟩
      have T1 : Hid (Tr B F w1 b N fl f ∧ Below w.heap.size w w1 ∧ Seg w1 38 32 v l.length (sumsC l) ∧ (∀ x, v.ownBlock = some x → w.heap.size ≤ x)) := Lib.hid ⟨HT.out.below b1, b1, s1, lo1⟩
      clear s1 lo1 b1 HT
      go_wp2_with fail
      refine (HQ.out _ T1.out.1).mono ?_
      rintro e w2 ⟨rfl, b2⟩
      have T2 : Hid (Below w.heap.size w w2 ∧ Seg w2 38 32 v l.length (sumsC l) ∧ (∀ x, v.ownBlock = some x → w.heap.size ≤ x)) := Lib.hid ⟨T1.out.2.1.trans (b2.mono T1.out.2.1.size), T1.out.2.2.1.below b2 (fun x hx => T1.out.2.2.1.lt hx), T1.out.2.2.2⟩
      clear T1 b2
      obtain ⟨i0, z0, hi0, hz0, hz1, hz2, hz3⟩ := sumInfo
      have HI0 := Lib.hid hi0
      have HZ0 := Lib.hid hz0
      clear hi0 hz0
      go_wp2_with (first
        | ((with_reducible refine at_op 38 ?_); refine wpList_build_one (o := ⟨some 38, _, _, _, _, _⟩) rfl 23 38 _ rfl i0 z0 Tryz.underlying23 HI0.out HZ0.out (cellsOf x) rfl (by rw [hz1, cellsOf_size, HL.out]) (by rw [cellsOf_size, HL.out]; decide) (by rw [cellsOf_size, HL.out]; decide) w2.heap.size rfl ?_; intro W3 HW3 BW3;
           (have T3 : Hid (Below w.heap.size w W3 ∧ Seg W3 38 32 v l.length (sumsC l) ∧ (∀ x, v.ownBlock = some x → w.heap.size ≤ x) ∧ Has W3 w2.heap.size 38 (cellsOf x)) := Lib.hid ⟨T2.out.1.trans (BW3.mono T2.out.1.size), T2.out.2.1.below BW3 (fun x hx => T2.out.2.1.lt hx), T2.out.2.2, HW3⟩);
           clear T2 HW3 BW3)
        | ((with_reducible refine at_op 39 ?_); refine wpList_append_seg (o := ⟨some 39, _, _, _, _, _⟩) _ rfl (.tmp 29) (.tmp 38) 23 rfl 38 i0 z0 32 32 Tryz.underlying23 HI0.out HZ0.out hz1 hz3 hz2 (by decide) v l.length (sumsC l) rfl T3.out.2.1 ⟨w2.heap.size, 0, none⟩ 1 1 (x.map byteV) rfl (by rw [List.length_map, HL.out]) (World.news_of_block T3.out.2.2.2) (byteV_one _) (by decide) (by have := HM.out; unfold maxLen; omega) (by have := HM.out; omega) _ rfl ?_;
           intro g off cap w4 hown hgrow hat hlt)
        | fail)
      go_ret
      rw [HP.out]
      refine ⟨_, rfl, ?_, ?_, ?_⟩
      · rw [sumsC_snoc, List.length_append]; exact hown
      · intro y hy
        have e : g = y := by simpa [Value.ownBlock] using hy
        rw [← e]
        rcases hat with h | h
        · exact T3.out.2.2.1 g h
        · rw [h]; exact T3.out.1.size
      · exact T3.out.1.trans (below_own hgrow T3.out.2.2.1 T3.out.1.size)
    · have hik2 : ¬ (i : Int) ≤ (k : Int) := by omega
      obtain ⟨i', hi'⟩ : ∃ i', i' = i - k := ⟨_, rfl⟩
      have hk5 : (i : Int) - (k : Int) = (i' : Int) := by omega
      have hk6 : (i' : Int) ≤ 1000000 := by omega
      obtain ⟨J, hJ1, hJ2⟩ := dv_right h2 hd hnK
      have hav := av_left (fl := fl) h2 hd hnK (by omega)
      rw [← hk, ← ha'] at hJ1
      rw [← hk, ← hn'] at hJ2
      rw [← hk] at hav
      have hp : steps f i a n (decide (a = 0)) = steps f i' a' n' (decide (a' = 0)) ++ [rt f a k] := by rw [steps, if_neg hne, dif_pos h2, if_neg (by rw [← hk]; exact hik), ← hk, ← ha', ← hn', ← hi', show decide (a' = 0) = false from decide_eq_false (by omega)]
      have HP := Lib.hid hp
      have HI := Lib.hid (fun w' (h : Tr B F w' b N fl f) => ih n' (by omega) i' a' J w' h hJ1 hJ2 (by omega) (by omega) (by omega) (by omega) (fun e => by omega))
      have HQ := Lib.hid (fun w' (h : Tr B F w' b N fl f) => root_calls B F b N fl f hN k a w' h hav (by omega))
      have HL := Lib.hid (rt_len hT.len a k (by omega))
      have HM : Hid ((steps f i' a' n' (decide (a' = 0))).length ≤ 64) := Lib.hid (by have := steps_le f 10 n' a' i' (decide (a' = 0)) (by omega); omega)
      have HT := Lib.hid hT
      clear ih hT hd hnK han hin hi0 hne hav0 hfl h1 h0 h3 hk hn' ha' hi' hJ1 hJ2 hav hp hik
      generalize steps f i' a' n' (decide (a' = 0)) = l at *
      generalize rt f a k = x at *
      go_enter Tryz.func67, Tryz.ntmps67
      go_wp2_with fail
      refine (half_calls n w h2 hn1000).mono ?_
      rw [← HK.out]
      rintro e w' ⟨rfl, rfl⟩
      go_wp2_with fail
      refine (HI.out _ HT.out).mono ?_
      rintro e w1 ⟨v, rfl, s1, lo1, b1⟩
      have T1 : Hid (Tr B F w1 b N fl f ∧ Below w.heap.size w w1 ∧ Seg w1 38 32 v l.length (sumsC l) ∧ (∀ x, v.ownBlock = some x → w.heap.size ≤ x)) := Lib.hid ⟨HT.out.below b1, b1, s1, lo1⟩
      clear s1 lo1 b1 HT
      go_wp2_with fail
      refine (HQ.out _ T1.out.1).mono ?_
      rintro e w2 ⟨rfl, b2⟩
      have T2 : Hid (Below w.heap.size w w2 ∧ Seg w2 38 32 v l.length (sumsC l) ∧ (∀ x, v.ownBlock = some x → w.heap.size ≤ x)) := Lib.hid ⟨T1.out.2.1.trans (b2.mono T1.out.2.1.size), T1.out.2.2.1.below b2 (fun x hx => T1.out.2.2.1.lt hx), T1.out.2.2.2⟩
      clear T1 b2
      obtain ⟨i0, z0, hi0, hz0, hz1, hz2, hz3⟩ := sumInfo
      have HI0 := Lib.hid hi0
      have HZ0 := Lib.hid hz0
      clear hi0 hz0
      go_wp2_with (first
        | ((with_reducible refine at_op 55 ?_); refine wpList_build_one (o := ⟨some 55, _, _, _, _, _⟩) rfl 23 38 _ rfl i0 z0 Tryz.underlying23 HI0.out HZ0.out (cellsOf x) rfl (by rw [hz1, cellsOf_size, HL.out]) (by rw [cellsOf_size, HL.out]; decide) (by rw [cellsOf_size, HL.out]; decide) w2.heap.size rfl ?_; intro W3 HW3 BW3;
           (have T3 : Hid (Below w.heap.size w W3 ∧ Seg W3 38 32 v l.length (sumsC l) ∧ (∀ x, v.ownBlock = some x → w.heap.size ≤ x) ∧ Has W3 w2.heap.size 38 (cellsOf x)) := Lib.hid ⟨T2.out.1.trans (BW3.mono T2.out.1.size), T2.out.2.1.below BW3 (fun x hx => T2.out.2.1.lt hx), T2.out.2.2, HW3⟩);
           clear T2 HW3 BW3)
        | ((with_reducible refine at_op 56 ?_); refine wpList_append_seg (o := ⟨some 56, _, _, _, _, _⟩) _ rfl (.tmp 50) (.tmp 55) 23 rfl 38 i0 z0 32 32 Tryz.underlying23 HI0.out HZ0.out hz1 hz3 hz2 (by decide) v l.length (sumsC l) rfl T3.out.2.1 ⟨w2.heap.size, 0, none⟩ 1 1 (x.map byteV) rfl (by rw [List.length_map, HL.out]) (World.news_of_block T3.out.2.2.2) (byteV_one _) (by decide) (by have := HM.out; unfold maxLen; omega) (by have := HM.out; omega) _ rfl ?_;
           intro g off cap w4 hown hgrow hat hlt)
        | fail)
      go_ret
      rw [HP.out]
      refine ⟨_, rfl, ?_, ?_, ?_⟩
      · rw [sumsC_snoc, List.length_append]; exact hown
      · intro y hy
        have e : g = y := by simpa [Value.ownBlock] using hy
        rw [← e]
        rcases hat with h | h
        · exact T3.out.2.2.1 g h
        · rw [h]; exact T3.out.1.size
      · exact T3.out.1.trans (below_own hgrow T3.out.2.2.1 T3.out.1.size)
  · obtain rfl : i = n := by omega
    by_cases ha : a = 0
    · subst ha
      have _hp : steps f i 0 i true = [] := by rw [steps, if_pos rfl, if_pos rfl]
      go_enter Tryz.func67, Tryz.ntmps67
      go_wp2_with fail
      go_ret
      exact ⟨_, rfl, Seg.nil _ _ _, (fun x (hx : (Value.slice none 0 0).ownBlock = some x) => by cases hx), Below.refl _ _⟩
    · have hav : Av fl a i := (hav0 rfl).resolve_left ha
      have hp : steps f i a i (decide (a = 0)) = [rt f a i] := by rw [steps, if_pos rfl, decide_eq_false ha]; rfl
      have ha2 : ¬ (a : Int) = 0 := by omega
      have HP := Lib.hid hp
      have HQ := Lib.hid (fun w' (h : Tr B F w' b N fl f) => root_calls B F b N fl f hN i a w' h hav (by omega))
      have HL := Lib.hid (rt_len hT.len a i (by omega))
      have HT := Lib.hid hT
      clear ih hT hd hnK han hin hi0 hne hav0 hfl hav hp ha
      generalize rt f a i = x at *
      obtain ⟨i0, z0, hi0, hz0, hz1, hz2, hz3⟩ := sumInfo
      have HI0 := Lib.hid hi0
      have HZ0 := Lib.hid hz0
      clear hi0 hz0 hz2 hz3
      go_enter Tryz.func67, Tryz.ntmps67
      go_wp2_with fail
      refine (HQ.out _ HT.out).mono ?_
      rintro e w2 ⟨rfl, b2⟩
      have T2 : Hid (Below w.heap.size w w2) := Lib.hid b2
      clear b2
      go_wp2_with (first
        | ((with_reducible refine at_op 19 ?_); refine wpList_build_one (o := ⟨some 19, _, _, _, _, _⟩) rfl 23 38 _ rfl i0 z0 Tryz.underlying23 HI0.out HZ0.out (cellsOf x) rfl (by rw [hz1, cellsOf_size, HL.out]) (by rw [cellsOf_size, HL.out]; decide) (by rw [cellsOf_size, HL.out]; decide) w2.heap.size rfl ?_; intro W3 HW3 BW3;
           (have T3 : Hid (Below w.heap.size w W3 ∧ Has W3 w2.heap.size 38 (cellsOf x)) := Lib.hid ⟨T2.out.trans (BW3.mono T2.out.size), HW3⟩);
           clear HW3 BW3)
        | fail)
      go_ret
      rw [HP.out]
      refine ⟨_, rfl, ?_, ?_, T3.out.1⟩
      · have := Seg.of_has (n := 1) (size := 32) T3.out.2 (by rw [cellsOf_size, HL.out]) (by decide)
        simpa [sumsC, cellsOf] using this
      · intro y hy
        have e : w2.heap.size = y := by simpa [Value.ownBlock] using hy
        rw [← e]
        exact T2.out.size

section
variable {B : Nat} {F : Nat → Prop} {b N fl : Nat} {f : Nat → List UInt8} {w : World}

set_option maxRecDepth 100000 in
set_option maxHeartbeats 1000000 in
theorem Tr.consistency (hT : Tr B F w b N fl f) (hN : N < 1024) (m n : Nat) (hn : n ≤ N) (hm : m ≤ n) (hf : fl ≤ m) (h0 : 0 < m) :
    Calls Tryz.prog 38 #[.pointer (some ⟨b, 0, none⟩), .int .i64 m, .int .i64 n] w (SumsOk w (steps f m 0 n true)) := by
  have HI := Lib.hid (cons_calls B F b N fl f hN n m 0 n w hT ⟨0, by simp⟩ (two_ge n) (by omega) h0 hm (by omega) (fun _ => .inl rfl))
  rw [show decide (0 = 0) = true from rfl] at HI
  obtain ⟨rv, hh⟩ := hT.head
  have e0 := hh.cell 0
  have e1 := hh.cell 1
  simp at e0 e1
  have h1 : ¬ (n : Int) < 0 := by omega
  have h2 : ¬ (n : Int) > (N : Int) := by omega
  have h3 : ¬ (m : Int) < 0 := by omega
  have h4 : ¬ (m : Int) > (n : Int) := by omega
  have h5 : ¬ (m : Int) < (fl : Int) := by omega
  have h6 : ¬ (m : Int) = 0 := by omega
  clear hT hh
  go_enter Tryz.func38, Tryz.ntmps38
  go_wp2_with fail
  refine HI.out.mono ?_
  rintro e w1 ⟨v, rfl, s1, lo1, b1⟩
  have S := Lib.hid (show _ ∧ _ ∧ _ from ⟨s1, lo1, b1⟩)
  clear s1 lo1 b1 HI
  go_wp2_with fail
  go_ret2
  exact ⟨v, rfl, S.out⟩

set_option maxRecDepth 100000 in
set_option maxHeartbeats 1000000 in
theorem Tr.consistency_none (hT : Tr B F w b N fl f) (n : Nat) (hn : n ≤ N) (hf : fl = 0) :
    Calls Tryz.prog 38 #[.pointer (some ⟨b, 0, none⟩), .int .i64 0, .int .i64 n] w fun en w' => en = .returned (.tuple #[.slice none 0 0, .int .i64 0]) ∧ w = w' := by
  obtain ⟨rv, hh⟩ := hT.head
  subst hf
  have e0 := hh.cell 0
  have e1 := hh.cell 1
  simp at e0 e1
  have h1 : ¬ (n : Int) < 0 := by omega
  have h2 : ¬ (n : Int) > (N : Int) := by omega
  have h4 : ¬ 0 > (n : Int) := by omega
  clear hT hh
  go_enter Tryz.func38, Tryz.ntmps38
  go_wp2_with fail
  go_ret2
  exact ⟨rfl, rfl⟩

end
end Go.Proofs.YtdoadmkaoboncaaGreatDoor.dig
end

section
/- prune: Prefix. -/
namespace Go.Proofs.YtdoadmkaoboncaaGreatDoor.prn
open Go Go.RowKit Go.Proofs.YtdoadmkaoboncaaGreatDoor.dig Go.Proofs.YtdoadmkaoboncaaGreatDoor.prf

def prefixNm : ByteArray := ⟨#[112, 114, 101, 102, 105, 120]⟩
/-- The sums of a prefix's proof. -/
def stepsL (L : List ByteArray) (m n : Nat) : List (List UInt8) := if m = 0 then [] else steps (leafF L) m 0 n true

section
variable {B : Nat} {F : Nat → Prop} {w : World} {vb fl : Nat} {L : List ByteArray}

set_option maxRecDepth 100000 in
set_option maxHeartbeats 2000000 in
theorem Va.pfx (h : Va B F w vb L fl) (hN : L.length < 1024) (m n : Nat) (hn : n ≤ L.length) (hm : m ≤ n) (hf : fl ≤ m) :
    Calls Tryz.prog 16 #[.pointer (some ⟨vb, 0, none⟩), .int .i64 m, .int .i64 n] w (ProofPost w 2 m n (stepsL L m n)) := by
  obtain ⟨T, tb, first, cv, r⟩ := h.raw
  have e0 : ∀ O, (w.alloc O).cell? ⟨vb, 0, none⟩ = some (.pointer (some ⟨tb, 0, none⟩)) := fun O => by
    have := (r.own.alloc O).cell 0
    simpa using this
  obtain ⟨l, hl⟩ : ∃ l, l = stepsL L m n := ⟨_, rfl⟩
  have HCS : Hid (∀ V, Tr B T V tb L.length fl (leafF L) → Calls Tryz.prog 38 #[.pointer (some ⟨tb, 0, none⟩), .int .i64 m, .int .i64 n] V fun en w' => ∃ v, en = .returned (.tuple #[v, .int .i64 0]) ∧ Seg w' 38 32 v l.length (sumsC l) ∧ (∀ x, v.ownBlock = some x → V.heap.size ≤ x) ∧ Below V.heap.size V w') := Lib.hid fun V hV => by
    by_cases h0 : m = 0
    · subst h0
      refine (hV.consistency_none n hn (by omega)).mono ?_
      rintro en w' ⟨rfl, rfl⟩
      rw [hl]
      exact ⟨_, rfl, Seg.nil _ _ _, (fun x hx => by cases hx), Below.refl _ _⟩
    · rw [hl]
      unfold stepsL
      rw [if_neg h0]
      exact hV.consistency hN m n hn hm hf (by omega)
  have HT := Lib.hid r.tree
  rw [← hl]
  have HL := Lib.hid hl
  clear h r hN hf hn hm hl
  go_enter Tryz.func16, Tryz.ntmps16
  go_wp2_with fail
  refine callsName (fun W hW => ?_)
  have B0 : Hid (Below w.heap.size w W) := by rw [← hW]; exact Lib.hid ((Below.refl _ _).alloc (Nat.le_refl _) _)
  have Z0 : Hid (Has W w.heap.size 25 (prC 0 0 0 (.slice none 0 0))) := by rw [← hW]; exact Lib.hid (made_at _ _ rfl)
  clear hW e0
  refine (HCS.out W (HT.out.below B0.out)).mono ?_
  rintro en w1 ⟨v, rfl, s1, o1, b1⟩
  obtain ⟨a, c, rfl, _, _⟩ := s1.slice
  have S1 : Hid (Has w1 w.heap.size 25 (prC 0 0 0 (.slice none 0 0)) ∧ Below w.heap.size w w1 ∧ Seg w1 38 32 (.slice a l.length c) l.length (sumsC l) ∧ (∀ x, (Value.slice a l.length c).ownBlock = some x → w.heap.size ≤ x)) :=
    Lib.hid ⟨Z0.out.below b1 Z0.out.lt, B0.out.trans (b1.mono B0.out.size), s1, fun x hx => Nat.le_trans B0.out.size (o1 x hx)⟩
  clear b1 Z0 B0 s1 o1 HCS
  obtain ⟨q, hq⟩ : ∃ q, q = l.length := ⟨_, rfl⟩
  have HM := Lib.hid hq
  rw [← hq] at S1 ⊢
  clear hq
  go_wp2_with fail
  refine (answer_ok prefixNm 2 m n a q c w1).mono ?_
  rintro en w2 ⟨rfl, b2⟩
  have S2 : Hid (Has w2 w.heap.size 25 (prC 0 0 0 (.slice none 0 0)) ∧ Below w.heap.size w w2 ∧ Seg w2 38 32 (.slice a q c) q (sumsC l)) := Lib.hid ⟨S1.out.1.below b2 S1.out.1.lt, S1.out.2.1.trans (b2.mono S1.out.2.1.size), S1.out.2.2.1.below b2 (fun x hx => S1.out.2.2.1.lt hx)⟩
  clear b2
  go_wp2_with (first
    | ((with_reducible refine at_store (.tmp 6) ?_); refine wpList_store_cells (o := ⟨none, _, _, _, _, _⟩) rfl 25 (.tmp 6) (.tmp 26) rfl w.heap.size (prC 2 m n (.slice a q c)) (prC 0 0 0 (.slice none 0 0)) rfl rfl _ S2.out.1 (by kernel_rfl) rfl (by simp [prC, Value.oneCell']) ?_; intro W9 HW9 TW9)
    | fail)
  have B9 := S2.out.2.1.trans (TW9.below S2.out.2.1.size (fun j hj e => by omega))
  exact bodyPost_ret (v := .tuple #[.agg (prC 2 m n (.slice a q c)), .nilIface]) (results_cell_tmp rfl _ _ w.heap.size 25 _ _ _ rfl HW9 Tryz.underlying25 rfl (by kernel_rfl) _ rfl) rfl
    ⟨a, c, by rw [← HM.out], by rw [← HM.out]; exact S2.out.2.2.turn TW9 (fun x hx e => S2.out.2.2.ne S2.out.1 (by decide) (by rw [hx, e])), by rw [← HM.out]; exact S1.out.2.2.2, B9⟩

theorem steps_all {f : Nat → List UInt8} (h : ∀ i, (f i).length = 32) : ∀ (n m a : Nat) (first : Bool), 0 < m → m ≤ n → ∀ x ∈ steps f m a n first, x.length = 32 := by
  intro n
  induction n using Nat.strongRecOn with
  | _ n ih =>
    intro m a first h0 hm x hx
    rw [steps] at hx
    by_cases he : m = n
    · rw [if_pos he] at hx
      cases first
      · rw [if_neg (by simp)] at hx
        rw [List.mem_singleton.1 hx]
        exact rt_len h _ _ (by omega)
      · rw [if_pos rfl] at hx; cases hx
    · have h2 : 2 ≤ n := by omega
      have hp := half_pos n
      have hl := half_lt h2
      rw [if_neg he, dif_pos h2] at hx
      split at hx
      · rename_i hh
        rcases List.mem_append.1 hx with hx | hx
        · exact ih _ hl m a first h0 hh x hx
        · rw [List.mem_singleton.1 hx]; exact rt_len h _ _ (by omega)
      · rename_i hh
        rcases List.mem_append.1 hx with hx | hx
        · exact ih _ (by omega) (m - half n) _ false (by omega) (by omega) x hx
        · rw [List.mem_singleton.1 hx]; exact rt_len h _ _ hp
theorem stepsL_all (L : List ByteArray) (m n : Nat) (hm : m ≤ n) : ∀ x ∈ stepsL L m n, x.length = 32 := by
  intro x hx
  unfold stepsL at hx
  by_cases h0 : m = 0
  · rw [if_pos h0] at hx; cases hx
  · rw [if_neg h0] at hx
    exact steps_all (leafF_len L) n m 0 true (by omega) hm x hx

/-- What a vault's own proof of a prefix proves. -/
theorem elder_steps {L : List ByteArray} {m n : Nat} (hm : m ≤ n) : elderB m (rtAll (leafF L) m) n (rtAll (leafF L) n) (stepsL L m n).reverse = true := by
  unfold elderB stepsL
  by_cases he : m = n
  · subst he
    rw [if_pos rfl]
    by_cases h0 : m = 0
    · rw [if_pos h0]; simp
    · rw [if_neg h0, steps, if_pos rfl, if_pos rfl]; simp
  · rw [if_neg he]
    by_cases h0 : m = 0
    · subst h0
      rw [if_pos rfl, if_pos rfl]
      simp [rtAll]
    · rw [if_neg h0, if_neg h0]
      have h1 := both_steps (List.replicate 32 0) (rtAll (leafF L) m) (leafF L) n m 0 true (by omega) hm (fun _ => by unfold rtAll; rw [if_neg h0])
      have hr : ∀ k, k ≠ 0 → rtAll (leafF L) k = rt (leafF L) 0 k := fun k hk => by unfold rtAll; rw [if_neg hk]
      rw [h1, hr m h0, hr n (by omega)]
      simp
end
end Go.Proofs.YtdoadmkaoboncaaGreatDoor.prn
end

section
/- Out of PruEr: dig.Tr.root_err, Va.head_err, dig.Tr.consistency_range, dig.Tr.consistency_low, Va.pfx_err, Va.pfx_range, Va.pfx_low. -/
namespace Go.Proofs.YtdoadmkaoboncaaGreatDoor.prn
open Go Go.RowKit Go.Proofs.YtdoadmkaoboncaaGreatDoor.dig Go.Proofs.YtdoadmkaoboncaaGreatDoor.prf

section
variable {B : Nat} {F : Nat → Prop} {w : World} {b vb N fl : Nat} {f : Nat → List UInt8} {L : List ByteArray}
set_option maxRecDepth 100000 in
set_option maxHeartbeats 1000000 in
theorem _root_.Go.Proofs.YtdoadmkaoboncaaGreatDoor.dig.Tr.consistency_range (hT : Tr B F w b N fl f) (x n : Int) (h : n < 0 ∨ n > N ∨ x < 0 ∨ x > n) :
    Calls Tryz.prog 38 #[.pointer (some ⟨b, 0, none⟩), .int .i64 x, .int .i64 n] w fun en w' => en = .returned (.tuple #[.slice none 0 0, .int .i64 6]) ∧ w = w' := by
  obtain ⟨rv, hh⟩ := hT.head
  have e0 := hh.cell 0
  simp at e0
  clear hT hh
  by_cases h1 : n < 0
  · clear h
    go_enter Tryz.func38, Tryz.ntmps38
    go_wp2_with fail
    go_ret2
    exact ⟨rfl, rfl⟩
  by_cases h2 : n > (N : Int)
  · clear h
    go_enter Tryz.func38, Tryz.ntmps38
    go_wp2_with fail
    go_ret2
    exact ⟨rfl, rfl⟩
  by_cases h3 : x < 0
  · clear h
    go_enter Tryz.func38, Tryz.ntmps38
    go_wp2_with fail
    go_ret2
    exact ⟨rfl, rfl⟩
  · have h4 : x > n := by omega
    clear h
    go_enter Tryz.func38, Tryz.ntmps38
    go_wp2_with fail
    go_ret2
    exact ⟨rfl, rfl⟩


set_option maxRecDepth 100000 in
set_option maxHeartbeats 1000000 in
theorem _root_.Go.Proofs.YtdoadmkaoboncaaGreatDoor.dig.Tr.consistency_low (hT : Tr B F w b N fl f) (i n : Nat) (hn : n ≤ N) (hi : i ≤ n) (hf : i < fl) :
    Calls Tryz.prog 38 #[.pointer (some ⟨b, 0, none⟩), .int .i64 i, .int .i64 n] w fun en w' => en = .returned (.tuple #[.slice none 0 0, .int .i64 14]) ∧ w = w' := by
  obtain ⟨rv, hh⟩ := hT.head
  have e0 := hh.cell 0
  have e1 := hh.cell 1
  simp at e0 e1
  have h1 : ¬ (n : Int) < 0 := by omega
  have h2 : ¬ (n : Int) > (N : Int) := by omega
  have h3 : ¬ (i : Int) < 0 := by omega
  have h4 : ¬ (i : Int) > (n : Int) := by omega
  have h5 : (i : Int) < (fl : Int) := by omega
  clear hT hh
  go_enter Tryz.func38, Tryz.ntmps38
  go_wp2_with fail
  go_ret2
  exact ⟨rfl, rfl⟩

set_option maxRecDepth 100000 in
set_option maxHeartbeats 2000000 in
theorem Va.pfx_err (h : Va B F w vb L fl) (x n : Int) (E : Int) (hE : E ≠ 0) (hc : ∀ tb V, (∃ T, Tr B T V tb L.length fl (leafF L)) → Calls Tryz.prog 38 #[.pointer (some ⟨tb, 0, none⟩), .int .i64 x, .int .i64 n] V fun en w' => en = .returned (.tuple #[.slice none 0 0, .int .i64 E]) ∧ V = w') :
    Calls Tryz.prog 16 #[.pointer (some ⟨vb, 0, none⟩), .int .i64 x, .int .i64 n] w (PairErr w (.agg (prC 0 0 0 (.slice none 0 0))) prefixNm x E) := by
  obtain ⟨T, tb, first, cv, r⟩ := h.raw
  have e0 : ∀ O, (w.alloc O).cell? ⟨vb, 0, none⟩ = some (.pointer (some ⟨tb, 0, none⟩)) := fun O => by
    have := (r.own.alloc O).cell 0
    simpa using this
  have HT := Lib.hid r.tree
  have HC := Lib.hid hc
  have HE := Lib.hid hE
  clear h r hE hc
  go_enter Tryz.func16, Tryz.ntmps16
  go_wp2_with fail
  refine callsName (fun W hW => ?_)
  have B0 : Hid (Below w.heap.size w W) := by rw [← hW]; exact Lib.hid ((Below.refl _ _).alloc (Nat.le_refl _) _)
  have Z0 : Hid (Has W w.heap.size 25 (prC 0 0 0 (.slice none 0 0))) := by rw [← hW]; exact Lib.hid (made_at _ _ rfl)
  clear hW e0
  refine (HC.out tb W ⟨T, HT.out.below B0.out⟩).mono ?_
  rintro en w1 ⟨rfl, rfl⟩
  go_wp2_with fail
  refine (answer_err prefixNm 2 x n (.slice none 0 0) E HE.out W).mono ?_
  rintro en w2 ⟨b, rfl, hb, her, b2⟩
  have S2 := Lib.hid (show _ ∧ _ ∧ _ ∧ _ from ⟨Z0.out.below b2 Z0.out.lt, B0.out.trans (b2.mono B0.out.size), Nat.le_trans B0.out.size hb, her⟩)
  clear b2 Z0 B0 hb her
  go_wp2_with (first
    | ((with_reducible refine at_store (.tmp 6) ?_); refine wpList_store_cells (o := ⟨none, _, _, _, _, _⟩) rfl 25 (.tmp 6) (.tmp 26) rfl w.heap.size (prC 0 0 0 (.slice none 0 0)) (prC 0 0 0 (.slice none 0 0)) rfl rfl _ S2.out.1 (by kernel_rfl) rfl (by simp [prC, Value.oneCell']) ?_; intro W9 HW9 TW9)
    | fail)
  have B9 := S2.out.2.1.trans (TW9.below S2.out.2.1.size (fun j hj e => by omega))
  exact bodyPost_ret (v := .tuple #[.agg (prC 0 0 0 (.slice none 0 0)), flt.ev [⟨b, prefixNm, x⟩] E]) (results_cell_tmp rfl _ _ w.heap.size 25 _ _ _ rfl HW9 Tryz.underlying25 rfl (by kernel_rfl) _ rfl) rfl
    ⟨b, rfl, S2.out.2.2.1, by
      have he := S2.out.2.2.2
      refine ⟨⟨he.1.1.turn TW9 (fun e => ?_), by have := he.1.2; have := TW9.size; omega⟩, trivial⟩
      have e1 : b = w.heap.size := e
      have h1 := he.1.1
      rw [e1] at h1
      exact absurd (h1.uniq S2.out.1).2 (by decide), B9⟩

theorem Va.pfx_range (h : Va B F w vb L fl) (x n : Int) (hx : n < 0 ∨ n > L.length ∨ x < 0 ∨ x > n) :
    Calls Tryz.prog 16 #[.pointer (some ⟨vb, 0, none⟩), .int .i64 x, .int .i64 n] w (PairErr w (.agg (prC 0 0 0 (.slice none 0 0))) prefixNm x 6) :=
  h.pfx_err x n 6 (by decide) fun _ _ ⟨_, tr⟩ => tr.consistency_range x n hx
theorem Va.pfx_low (h : Va B F w vb L fl) (i n : Nat) (hn : n ≤ L.length) (hi : i ≤ n) (hf : i < fl) :
    Calls Tryz.prog 16 #[.pointer (some ⟨vb, 0, none⟩), .int .i64 i, .int .i64 n] w (PairErr w (.agg (prC 0 0 0 (.slice none 0 0))) prefixNm i 14) :=
  h.pfx_err i n 14 (by decide) fun _ _ ⟨_, tr⟩ => tr.consistency_low i n hn hi hf

set_option maxRecDepth 100000 in
set_option maxHeartbeats 1000000 in
/-- Root that answers number E: of a range, or below the floor. -/
theorem _root_.Go.Proofs.YtdoadmkaoboncaaGreatDoor.dig.Tr.root_err (hT : Tr B F w b N fl f) (x E : Int) (hx : (E = 6 ∧ (x < 0 ∨ x > N)) ∨ (E = 14 ∧ 0 ≤ x ∧ x ≤ N ∧ x < fl)) :
    Calls Tryz.prog 36 #[.pointer (some ⟨b, 0, none⟩), .int .i64 x] w fun en w' => en = .returned (.tuple #[.agg (cellsOf (List.replicate 32 0)), .int .i64 E]) ∧ Below w.heap.size w w' := by
  obtain ⟨rv, hh⟩ := hT.head
  have e0 : ∀ O, (w.alloc O).cell? ⟨b, 0, none⟩ = some (.int .i64 N) := fun O => (hh.alloc O).cell 0
  have e1 : ∀ O, (w.alloc O).cell? ⟨b, 1, none⟩ = some (.int .i64 fl) := fun O => (hh.alloc O).cell 1
  clear hT hh
  rcases hx with ⟨rfl, h | h⟩ | ⟨rfl, h1, h2, h3⟩
  · skip
    go_enter Tryz.func36, Tryz.ntmps36
    go_wp2_with (first
      | (refine wpList_store_arr (o := ⟨none, _, _, _, _, _⟩) rfl 38 _ _ rfl w.heap.size (List.replicate 32 0) (List.replicate 32 0) rfl rfl _ (made_at _ _ rfl) 32 (by kernel_rfl) (by simp) (by simp) ?_; intro W6 HW6 TW6)
      | fail)
    exact bodyPost_ret (v := .tuple #[.agg (cellsOf (List.replicate 32 0)), .int .i64 6]) (results_cell_tmp rfl _ _ w.heap.size 38 _ _ _ rfl HW6 Tryz.underlying38 rfl (by kernel_rfl) _ rfl) rfl ⟨rfl, ((Below.refl _ _).alloc (Nat.le_refl _) _).trans (TW6.below (by simp) (fun j hj e => by omega))⟩
  · have h0 : ¬ x < 0 := by omega
    go_enter Tryz.func36, Tryz.ntmps36
    go_wp2_with (first
      | (refine wpList_store_arr (o := ⟨none, _, _, _, _, _⟩) rfl 38 _ _ rfl w.heap.size (List.replicate 32 0) (List.replicate 32 0) rfl rfl _ (made_at _ _ rfl) 32 (by kernel_rfl) (by simp) (by simp) ?_; intro W6 HW6 TW6)
      | fail)
    exact bodyPost_ret (v := .tuple #[.agg (cellsOf (List.replicate 32 0)), .int .i64 6]) (results_cell_tmp rfl _ _ w.heap.size 38 _ _ _ rfl HW6 Tryz.underlying38 rfl (by kernel_rfl) _ rfl) rfl ⟨rfl, ((Below.refl _ _).alloc (Nat.le_refl _) _).trans (TW6.below (by simp) (fun j hj e => by omega))⟩
  · have h0 : ¬ x < 0 := by omega
    have h4 : ¬ x > (N : Int) := by omega
    go_enter Tryz.func36, Tryz.ntmps36
    go_wp2_with (first
      | (refine wpList_store_arr (o := ⟨none, _, _, _, _, _⟩) rfl 38 _ _ rfl w.heap.size (List.replicate 32 0) (List.replicate 32 0) rfl rfl _ (made_at _ _ rfl) 32 (by kernel_rfl) (by simp) (by simp) ?_; intro W6 HW6 TW6)
      | fail)
    exact bodyPost_ret (v := .tuple #[.agg (cellsOf (List.replicate 32 0)), .int .i64 14]) (results_cell_tmp rfl _ _ w.heap.size 38 _ _ _ rfl HW6 Tryz.underlying38 rfl (by kernel_rfl) _ rfl) rfl ⟨rfl, ((Below.refl _ _).alloc (Nat.le_refl _) _).trans (TW6.below (by simp) (fun j hj e => by omega))⟩

set_option maxRecDepth 100000 in
set_option maxHeartbeats 2000000 in
theorem Va.head_err (h : Va B F w vb L fl) (x E : Int) (hx : (E = 6 ∧ (x < 0 ∨ x > L.length)) ∨ (E = 14 ∧ 0 ≤ x ∧ x ≤ L.length ∧ x < fl)) :
    Calls Tryz.prog 15 #[.pointer (some ⟨vb, 0, none⟩), .int .i64 x] w (PairErr w (.agg (headC 0 (List.replicate 32 0))) headNm x E) := by
  obtain ⟨T, tb, first, cv, r⟩ := h.raw
  have e0 : ∀ O, (w.alloc O).cell? ⟨vb, 0, none⟩ = some (.pointer (some ⟨tb, 0, none⟩)) := fun O => by
    have := (r.own.alloc O).cell 0
    simpa using this
  have HT := Lib.hid r.tree
  have HX := Lib.hid hx
  have HE : Hid (E ≠ 0) := Lib.hid (by rcases hx with h | h <;> omega)
  clear h r hx
  go_enter Tryz.func15, Tryz.ntmps15
  go_wp2_with fail
  refine callsName (fun W hW => ?_)
  have B0 : Hid (Below w.heap.size w W) := by rw [← hW]; exact Lib.hid ((Below.refl _ _).alloc (Nat.le_refl _) _)
  have Z0 : Hid (Has W w.heap.size 41 (headC 0 (List.replicate 32 0))) := by rw [← hW]; exact Lib.hid (made_at _ _ rfl)
  clear hW e0
  refine ((HT.out.below B0.out).root_err x E HX.out).mono ?_
  obtain ⟨q, hq⟩ : ∃ q : List UInt8, q = List.replicate 32 0 := ⟨_, rfl⟩
  have HQ := Lib.hid hq
  have QL : Hid (q.length = 32) := Lib.hid (by rw [hq]; simp)
  have QC : Hid ((cellsOf q).size = 32) := Lib.hid (by rw [cellsOf_size, hq]; simp)
  rw [← hq] at Z0 ⊢
  clear hq
  rintro en w1 ⟨rfl, b1⟩
  have S1 : Hid (Has w1 w.heap.size 41 (headC 0 q) ∧ Below w.heap.size w w1) := Lib.hid ⟨Z0.out.below b1 Z0.out.lt, B0.out.trans (b1.mono B0.out.size)⟩
  clear b1 Z0 B0
  have hE := HE.out
  go_wp2_with (first
    | ((with_reducible refine at_store (.tmp 6) ?_); refine wpList_store_cells (o := ⟨none, _, _, _, _, _⟩) rfl 38 (.tmp 6) (.tmp 15) rfl w1.heap.size (cellsOf q) _ rfl rfl _ (made_at _ _ rfl) (QC.out.symm ▸ (by kernel_rfl)) (QC.out.symm ▸ rfl) (cellsOf_one _) ?_; intro W8 HW8 TW8;
       (have S2 : Hid (Has W8 w.heap.size 41 (headC 0 q) ∧ Below w.heap.size w W8) := (by
         have bb : Below w1.heap.size w1 W8 := ((Below.refl _ _).alloc (Nat.le_refl _) _).trans (TW8.below (by simp) (fun j hj e => by omega))
         exact Lib.hid ⟨S1.out.1.below bb S1.out.1.lt, S1.out.2.trans (bb.mono S1.out.2.size)⟩));
       clear S1 HW8 TW8)
    | ((with_reducible refine at_op 19 ?_); refine wpList_plain rfl (fun K hK => ?_); unfold Oper.wp; rw [exec_zero_head rfl, ← HQ.out]; refine hK _ _ ?_)
    | fail)
  refine (flt.in_calls [] E headNm x _ HE.out).mono ?_
  rintro en w3 ⟨rfl, rfl⟩
  have S3 : Hid (Has (W8.alloc (.cells #[.string headNm, .int .i64 x, flt.ev [] E] 127)) w.heap.size 41 (headC 0 q) ∧ Below w.heap.size w (W8.alloc (.cells #[.string headNm, .int .i64 x, flt.ev [] E] 127))) := Lib.hid ⟨S2.out.1.alloc _, S2.out.2.alloc S2.out.2.size _⟩
  have W3L : Hid (w.heap.size ≤ W8.heap.size ∧ w.heap.size ≠ W8.heap.size) := Lib.hid ⟨S2.out.2.size, by have := S2.out.1.lt; omega⟩
  go_wp2_with (first
    | ((with_reducible refine at_store (.tmp 4) ?_); refine wpList_store_head (o := ⟨none, _, _, _, _, _⟩) rfl (.tmp 4) (.tmp 19) rfl w.heap.size 0 0 q q rfl (by first | rfl | (rw [HQ.out]; rfl)) S3.out.1 QL.out QL.out ?_; intro W9 HW9 TW9)
    | fail)
  exact bodyPost_ret (v := .tuple #[.agg (headC 0 q), flt.ev [⟨W8.heap.size, headNm, x⟩] E]) (results_cell_tmp rfl _ _ w.heap.size 41 _ _ _ rfl HW9 Tryz.underlying41 rfl (by rw [headC_size, QL.out]; kernel_rfl) _ rfl) rfl
    ⟨W8.heap.size, by rw [HQ.out], W3L.out.1, ⟨⟨(made_at _ _ rfl).turn TW9 (fun e => W3L.out.2 (Eq.symm e)), by have := TW9.size; simp at this; show W8.heap.size < _; omega⟩, trivial⟩, S3.out.2.trans (TW9.below S3.out.2.size (fun j hj e => by omega))⟩
end
end Go.Proofs.YtdoadmkaoboncaaGreatDoor.prn
end

