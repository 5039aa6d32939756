/- Texts laid into one: AudD, Wf, TreeQ. -/
import Derived.Test.YthbncejbcegmgaaDoorY007
import Derived.Test.YthbncejbcegmgaaDoorY010
import Derived.Test.YthbncejbcegmgaaDoorY000
import Derived.ProofKit
import Derived.Test.YthbncejbcegmgaaDoorY002
import Derived.Test.YthbncejbcegmgaaDoorRows
import Derived.LaidMore
import Derived.Stop.LaidErr
section
/- audit's laws: Made. -/
namespace Go.Proofs.YthbncejbcegmgaaDoor.aud
open Go Go.RowKit Go.Proofs.YthbncejbcegmgaaDoor.dig Go.Proofs.YthbncejbcegmgaaDoor.prf Go.Proofs.YthbncejbcegmgaaDoor.prn

/-- Results: a plain one, a whole row out of its cell. -/
theorem res_tmp_cell {fn : Func} {p q : Tmp} (h : fn.results = #[.tmp p, .cell q 60]) (tmps : Array Value) (w : World) (g : Nat) (cs : Array Value) (x : Value) (hp : tmps.getD p undef = x) (hq : tmps.getD q undef = .pointer (some ⟨g, 0, none⟩)) (hg : Has w g 60 cs) (hi : (Tryd.prog.info? 60).map (·.size) = some cs.size) :
    (results fn tmps).run Tryd.prog w = .ok (.tuple #[x, .agg cs]) w := by
  have hp' : tmps[p]?.getD undef = x := by simpa using hp
  have hq' : tmps[q]?.getD undef = .pointer (some ⟨g, 0, none⟩) := by simpa using hq
  simp [results, h, hp', hq', asAddr, run_loadVar_row w g 60 60 cs (0, 0) _ hg Tryd.underlying60 rfl hi]

/-- A vault was made, of k texts and with this floor; the document's has the texts. -/
def MadePost (w : World) (k fl : Nat) (en : Ending) (w' : World) : Prop :=
  ∃ vb a c L, en = .returned (.tuple #[.pointer (some ⟨vb, 0, none⟩), .agg #[.slice a k c, .int .i64 fl]]) ∧ Va w.heap.size (fun j => w.heap.size ≤ j ∧ j < w'.heap.size) w' vb L fl ∧ Strs w' (.slice a k c) L ∧ L.length = k ∧ Below w.heap.size w w'

set_option maxRecDepth 100000 in
set_option maxHeartbeats 4000000 in
theorem made_calls (a : Option Addr) (len cap : Nat) (T : Nat → ByteArray) (n f : Int) (w : World) (hA : ArgS w a len cap T) (hR : Rt w.heap.size w) (k fl : Nat) (hk0 : (k : Int) = min (max n 0) 16) (hfl0 : (fl : Int) = min (max f 0) (k : Int)) :
    Calls Tryd.prog 25 #[.slice a len cap, .int .i64 n, .int .i64 f] w (MadePost w k fl) := by
  obtain ⟨x, hx⟩ : ∃ x : Int, max n 0 = x := ⟨_, rfl⟩
  obtain ⟨y, hy⟩ : ∃ y : Int, max f 0 = y := ⟨_, rfl⟩
  rw [hx] at hk0
  rw [hy] at hfl0
  have hk := hk0.symm
  have hfl := hfl0.symm
  clear hk0 hfl0
  have hk16 : k ≤ 16 := by omega
  have hfk : fl ≤ k := by omega
  have HA := Lib.hid (show _ ∧ _ from ⟨hA, hR⟩)
  clear hA hR
  go_enter Tryd.func25, Tryd.ntmps25
  go_wp2_with fail
  refine callsName (fun W hW => ?_)
  have R0 : Hid (Has W w.heap.size 60 #[.slice none 0 0, .int .i64 0] ∧ Below w.heap.size w W ∧ ArgS W a len cap T) := by
    have b0 : Below w.heap.size w W := by rw [← hW]; exact (Below.refl _ _).alloc (Nat.le_refl _) _
    refine Lib.hid ⟨by rw [← hW]; exact made_at _ _ rfl, b0, HA.out.1.1, HA.out.1.2.1, fun k hk => ?_⟩
    obtain ⟨gb, go, h1, h2, h3, h4⟩ := HA.out.1.2.2 k hk
    exact ⟨gb, go, h1, Nat.lt_of_lt_of_le h2 b0.size, by rw [← h3]; unfold World.cell?; rw [b0.block gb h2], h4⟩
  clear hW
  refine (leaves_calls a len cap T k W R0.out.2.2 (by omega) (by omega)).mono ?_
  rintro en w2 ⟨v, L, rfl, hs2, hlen, lo2, b2, hne⟩
  have hlen2 : L.length = k := by omega
  obtain ⟨a0, c0, rfl, hc1, hc2⟩ := hs2.1.slice
  obtain ⟨g, off, rfl⟩ : ∃ g off, a0 = some ⟨g, off, none⟩ := by
    rcases hs2.1.2 with ⟨h, _⟩ | ⟨g, off, cp, cur, h, _⟩
    · exact absurd h hne
    · simp only [Value.slice.injEq] at h; exact ⟨g, off, h.1⟩
  rw [hlen2] at hs2 ⊢
  have R2 : Hid (Has w2 w.heap.size 60 #[.slice none 0 0, .int .i64 0] ∧ Below w.heap.size w w2 ∧ Strs w2 (.slice (some ⟨g, off, none⟩) k c0) L ∧ L.length = k ∧ g < w2.heap.size) :=
    Lib.hid ⟨R0.out.1.below b2 R0.out.1.lt, R0.out.2.1.trans (b2.mono R0.out.2.1.size), hs2, hlen2, hs2.1.lt rfl⟩
  clear hs2 lo2 b2 R0 hlen hlen2 hc2 hc1 hne
  go_wp2_with fail
  refine (vnew_calls w.heap.size w2 ?_).mono ?_
  · have b := R2.out.2.1
    have r := HA.out.2.below b (Nat.le_refl _)
    exact r
  rintro en w3 ⟨vb, rfl, hvb, v3, b3⟩
  have R3 : Hid (Va w.heap.size (fun j => w2.heap.size ≤ j ∧ j < w3.heap.size) w3 vb [] 0 ∧ Has w3 w.heap.size 60 #[.slice none 0 0, .int .i64 0] ∧ Below w.heap.size w w3 ∧ Strs w3 (.slice (some ⟨g, off, none⟩) k c0) L ∧ L.length = k ∧ g < w2.heap.size ∧ w.heap.size < w2.heap.size) :=
    Lib.hid ⟨v3.fresh w2.heap.size (fun _ h _ => h) R2.out.2.1.size, R2.out.1.below b3 R2.out.1.lt, R2.out.2.1.trans (b3.mono R2.out.2.1.size), ⟨R2.out.2.2.1.1.below b3 (fun x hx => R2.out.2.2.1.1.lt hx), R2.out.2.2.1.2⟩, R2.out.2.2.2.1, R2.out.2.2.2.2, R2.out.1.lt⟩
  clear v3 b3 hvb R2
  have hap := R3.out.1.add (some ⟨g, off, none⟩) c0 L (by rw [R3.out.2.2.2.2.1]; exact R3.out.2.2.2.1) (fun x hx e => by
    have h1 : g = x := by simpa [Value.ownBlock] using hx
    have := R3.out.2.2.2.2.2.1
    have := e.1
    omega) (by have := R3.out.2.2.2.2.1; simp; omega)
  rw [R3.out.2.2.2.2.1] at hap
  have HAP := Lib.hid hap
  clear hap
  go_wp2_with fail
  refine HAP.out.mono ?_
  rintro en w4 ⟨rfl, v4, t4⟩
  rw [List.nil_append] at v4
  have R4 : Hid (Va w.heap.size (fun j => w2.heap.size ≤ j ∧ j < w4.heap.size) w4 vb L 0 ∧ Has w4 w.heap.size 60 #[.slice none 0 0, .int .i64 0] ∧ Below w.heap.size w w4 ∧ Strs w4 (.slice (some ⟨g, off, none⟩) k c0) L ∧ L.length = k ∧ g < w2.heap.size ∧ w.heap.size < w2.heap.size) := by
    obtain ⟨h1, h2, h3, h4, h5, h6, h7⟩ := R3.out
    refine Lib.hid ⟨v4.fresh w2.heap.size (fun j hj _ => ?_) (by omega), h2.turn t4 (fun e => by have := e.1; omega), h3.trans (t4.below h3.size (fun j hj e => by have := e.1; omega)), ⟨h4.1.turn t4 (fun x hx e => ?_), h4.2⟩, h5, h6, h7⟩
    · rcases hj with h | h
      · exact h.1
      · have h8 : w2.heap.size ≤ w3.heap.size := by have := h1.lt; have := h1.ownF; have := this.1; omega
        omega
    · have h8 : g = x := by simpa [Value.ownBlock] using hx
      have := e.1
      omega
  clear v4 t4 R3 HAP
  go_wp2_with fail
  refine (R4.out.1.keep fl (Nat.zero_le _) (by have := R4.out.2.2.2.2.1; omega)).mono ?_
  rintro en w5 ⟨rfl, v5, t5⟩
  have R5 : Hid (Va w.heap.size (fun j => w2.heap.size ≤ j ∧ j < w5.heap.size) w5 vb L fl ∧ Has w5 w.heap.size 60 #[.slice none 0 0, .int .i64 0] ∧ Below w.heap.size w w5 ∧ Strs w5 (.slice (some ⟨g, off, none⟩) k c0) L ∧ L.length = k ∧ g < w2.heap.size ∧ w.heap.size < w2.heap.size) := by
    obtain ⟨h1, h2, h3, h4, h5, h6, h7⟩ := R4.out
    refine Lib.hid ⟨v5.fresh w2.heap.size (fun j hj _ => ?_) (by omega), h2.turn t5 (fun e => by have := e.1; omega), h3.trans (t5.below h3.size (fun j hj e => by have := e.1; omega)), ⟨h4.1.turn t5 (fun x hx e => ?_), h4.2⟩, h5, h6, h7⟩
    · rcases hj with h | h
      · exact h.1
      · have h8 : w2.heap.size ≤ w4.heap.size := by have := h1.lt; have := h1.ownF; have := this.1; omega
        omega
    · have h8 : g = x := by simpa [Value.ownBlock] using hx
      have := e.1
      omega
  clear v5 t5 R4 hx hk hy hfl
  go_wp2_with (first
    | ((with_reducible refine at_store (.tmp 7) ?_); refine wpList_store_cells (o := ⟨none, _, _, _, _, _⟩) rfl 60 (.tmp 7) (.tmp 30) rfl w.heap.size #[.slice (some ⟨g, off, none⟩) k c0, .int .i64 fl] #[.slice none 0 0, .int .i64 0] rfl rfl _ R5.out.2.1 (by kernel_rfl) rfl (by simp [Value.oneCell']) ?_; intro W9 HW9 TW9)
    | fail)
  obtain ⟨h1, h2, h3, h4, h5, h6, h7⟩ := R5.out
  exact bodyPost_ret (v := .tuple #[.pointer (some ⟨vb, 0, none⟩), .agg #[.slice (some ⟨g, off, none⟩) k c0, .int .i64 fl]]) (res_tmp_cell rfl _ _ w.heap.size _ _ rfl rfl HW9 (by kernel_rfl)) rfl
    ⟨vb, _, c0, L, rfl, (h1.turn TW9 (fun j hf _ e => by have := hf.1; omega) (fun j e => by omega)).fresh w.heap.size (fun j hj _ => by have := hj.1; omega) (Nat.le_refl _), ⟨h4.1.turn TW9 (fun x hx e => by
      have h8 := h4.1.ne h2 (by decide)
      exact h8 (by rw [hx, e])), h4.2⟩, h5, h3.trans (TW9.below h3.size (fun j hj e => by omega))⟩
end Go.Proofs.YthbncejbcegmgaaDoor.aud
end

section
/- Integers that fit. Of no program. -/
namespace Go.Proofs.YthbncejbcegmgaaDoor
open Go.ChangeShapes Go.WideShapes Go.ChangeAt Go.RowKit

theorem wf_i64 {y : Int} (h : (Lit.int .i64 y).wf = true) : -9223372036854775808 ≤ y ∧ y ≤ 9223372036854775807 := by
  have m0 : IntKind.i64.min = -9223372036854775808 := by decide
  have m1 : IntKind.i64.max = 9223372036854775807 := by decide
  have h' : (decide (IntKind.i64.min ≤ y) && decide (y ≤ IntKind.i64.max)) = true := h
  rw [m0, m1] at h'
  simpa using h'
end Go.Proofs.YthbncejbcegmgaaDoor
end

section
/- tree: what the row's list gives; the world that the program's own initialisers leave meets the rows' condition (of the rows that list digest's rounds and both tables of trailing zeros). -/
namespace Go.Proofs.YthbncejbcegmgaaDoor.tree
open Go Go.ChangeShapes Go.WideShapes Go.ChangeAt Go.RowKit Go.Proofs.YthbncejbcegmgaaDoor.dig

theorem gTab : Tryd.prog.globalNamed "math/bits.deBruijn64tab" = some 1 := by kernel_rfl
theorem gTabType : (Tryd.prog.globals[1]?).map (·.type) = some 135 := by kernel_rfl
theorem cellsTab : Tryd.prog.cellsOf 135 = 64 := by kernel_rfl
theorem cellsU8 : Tryd.prog.cellsOf 5 = 1 := by kernel_rfl
theorem rt_of_laid {W : World} {rest : List (String × DataW Unit)} (h : laidMet Tryd.prog (("math/bits.deBruijn32tab", Rows.laid_math_bits_deBruijn32tab) :: ("math/bits.deBruijn64tab", Rows.laid_math_bits_deBruijn64tab) :: ("hindsight/digest.rounds", Rows.laid_hindsight_digest_rounds) :: rest) W) : Rt W.heap.size W := by
  have ht : Lib.TabIs Tryd.prog W "math/bits.deBruijn64tab" .u8 (Lib.deBruijn64tab.map (Int.ofNat ·)) := Lib.tabIs_of_head (rest := ("hindsight/digest.rounds", Rows.laid_hindsight_digest_rounds) :: rest) gTab gTabType Tryd.underlying135 Tryd.underlying5 cellsU8 cellsTab h.tail
  have hk : Rk W := rk_of_laid (rest := rest) h.tail.tail
  have tz : ∀ (i x : Nat), Lib.deBruijn64tab[i]? = some x → W.cell? ⟨1, i, none⟩ = some (.int .u8 (x : Int)) := fun i x hx => by
    have hi : i < Lib.deBruijn64tab.length := (List.getElem?_eq_some_iff.1 hx).1
    have := ht.cell gTab i (by rw [List.length_map]; exact hi)
    rw [this]
    have e : (Lib.deBruijn64tab.map (Int.ofNat ·)).getD i 0 = (x : Int) := by
      rw [List.getD_eq_getElem?_getD, List.getElem?_map, hx]
      rfl
    rw [e]
  refine ⟨hk, tz, ⟨hk.lt, ?_⟩, Nat.le_refl _⟩
  have h0 := tz 0 0 rfl
  unfold World.cell? at h0
  rcases Nat.lt_or_ge 1 W.heap.size with k | k
  · exact k
  · simp [Array.getElem?_eq_none k] at h0

theorem door_met (os : Os) (args : Array Value) : laidMetH Tryd.prog [("math/bits.deBruijn32tab", Rows.laid_math_bits_deBruijn32tab), ("math/bits.deBruijn64tab", Rows.laid_math_bits_deBruijn64tab), ("hindsight/digest.rounds", Rows.laid_hindsight_digest_rounds)] ((World.doorLaid Tryd.prog 31 os).forCall (fun _ _ => 0) ⟨#[], args, []⟩).memory :=
  laidMetH_of_parts3 (fuel := 8) (laidMet_of_run' 8 (by kernel_rfl) (by kernel_rfl)) (by kernel_rfl) (by kernel_rfl)
theorem door_shaped (os : Os) (args : Array Value) : ((World.doorLaid Tryd.prog 31 os).forCall (fun _ _ => 0) ⟨#[], args, []⟩).Shaped Tryd.prog :=
  World.shaped_of_RefB (by kernel_rfl) (by kernel_rfl)
end Go.Proofs.YthbncejbcegmgaaDoor.tree
end

