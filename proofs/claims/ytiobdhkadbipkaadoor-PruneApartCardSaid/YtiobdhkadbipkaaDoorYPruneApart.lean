/- PruneApart: for every list of texts, every two numbers and every text the law answers true, and its arguments read afterwards as they did. Conditions: the row lists four package-level variables (digest's table of rounds, both tables of math/bits, errors.errorType), which the card ties to the program's text. -/
import Derived.Test.YtiobdhkadbipkaaDoorY008
import Derived.Test.YtiobdhkadbipkaaDoorYInts
import Derived.Test.YtiobdhkadbipkaaDoorCards
import Derived.Test.YtiobdhkadbipkaaDoorTie
import Derived.ProofKit
import Derived.OpenShut
import Derived.ShutString
import Derived.SevenTiedAt
namespace Go.Proofs.YtiobdhkadbipkaaDoor.pruneApart
open Go Go.ChangeShapes Go.WideShapes Go.ChangeAt Go.RowKit Go.Proofs.YtiobdhkadbipkaaDoor.dig Go.Proofs.YtiobdhkadbipkaaDoor.prn Go.Proofs.YtiobdhkadbipkaaDoor.prf
open Go.ChangeMaps (open_string shut_string)

def Arg0 (w : World) (a : Option Addr) (len cap : Nat) : Prop := ∃ T, ArgS w a len cap T
theorem opened0 {H : Type} {enc : TypeId × Value → H} {w : World} {spare : Nat → Bool} {held : Bool} {a : Option Addr} {len cap : Nat} {d : DataW H} {p : List MemPlace} (h : DataW.Trod enc Tryd.prog w 0 spare held 22 (.slice a len cap) d p) : Arg0 w a len cap := openedStrs h

set_option maxRecDepth 100000 in
set_option maxHeartbeats 4000000 in
theorem walk (a : Option Addr) (len cap : Nat) (n cut : Int) (more : ByteArray) (w : World) (hA : Arg0 w a len cap) (hn : (Lit.int .i64 n).wf = true) (hc : (Lit.int .i64 cut).wf = true) (hm : more.size ≤ maxLen) (hP : Pw w) :
    Calls Tryd.prog 4 #[.slice a len cap, .int .i64 n, .int .i64 cut, .string more] w fun en w' => en = .returned (.bool true) ∧ Below w.heap.size w w' := by
  obtain ⟨T, hT⟩ := hA
  have hn2 := wf_i64 hn
  have hc2 := wf_i64 hc
  obtain ⟨x, hx⟩ : ∃ x : Int, max n 0 = x := ⟨_, rfl⟩
  obtain ⟨k, hk⟩ : ∃ k : Nat, min x 16 = (k : Int) := ⟨(min x 16).toNat, by omega⟩
  have hk16 : k ≤ 16 := by omega
  obtain ⟨y, hy⟩ : ∃ y : Int, max cut 0 = y := ⟨_, rfl⟩
  have HY := Lib.hid hy
  have hy0 : 0 ≤ y := by omega
  obtain ⟨mo, hmo, hmo2⟩ := cut_size more 10
  have HM := Lib.hid (show _ ∧ _ ∧ _ from ⟨hm, hmo, hmo2⟩)
  have HT := Lib.hid hT
  have HP := Lib.hid hP
  have HPK := Lib.hid hP
  clear hT hP hn hc hn2 hc2 hm hmo hmo2 hy
  go_enter Tryd.func4, Tryd.ntmps4
  go_wp2_with fail
  refine (awake_calls w HP.out).mono ?_
  rintro en w1 ⟨rfl, b1⟩
  have R1 : Hid (Pw w1 ∧ Below w.heap.size w w1 ∧ ArgS w1 a len cap T) := Lib.hid ⟨HP.out.below b1, b1, HT.out.1, HT.out.2.1, fun k hk => by
    obtain ⟨gb, go, h1, h2, h3, h4⟩ := HT.out.2.2 k hk
    exact ⟨gb, go, h1, Nat.lt_of_lt_of_le h2 b1.size, by rw [← h3]; unfold World.cell?; rw [b1.block gb h2], h4⟩⟩
  clear b1 HP HT
  go_wp2_with fail
  refine (leaves_calls a len cap T k w1 R1.out.2.2 (by omega) (by omega)).mono ?_
  rintro en w2 ⟨v, L, rfl, hs2, hlen, lo2, b2, hne⟩
  have hlen2 : L.length = k := by omega
  obtain ⟨a0, c0, rfl, hc1, hc2⟩ := hs2.1.slice
  obtain ⟨g, off, rfl⟩ : ∃ g off, a0 = some ⟨g, off, none⟩ := by
    rcases hs2.1.2 with ⟨h, _⟩ | ⟨g, off, cp, cur, h, _⟩
    · exact absurd h hne
    · simp only [Value.slice.injEq] at h; exact ⟨g, off, h.1⟩
  have hc3 : (c0 : Int) ≤ 9223372036854775807 := by unfold maxLen at hc2; omega
  rw [hlen2] at hc1 ⊢
  have hcl : (k : Int) ≤ (c0 : Int) := by omega
  have R2 : Hid (Pw w2 ∧ Below w.heap.size w w2 ∧ Strs w2 (.slice (some ⟨g, off, none⟩) L.length c0) L ∧ L.length = k) := Lib.hid ⟨R1.out.1.below b2, R1.out.2.1.trans (b2.mono R1.out.2.1.size), hs2, hlen2⟩
  clear hs2 lo2 b2 R1 hlen hlen2 hc2 hc1 hne hx hk
  go_wp2_with fail
  refine (cut_any more 10 w2 (by decide) HM.out.1).mono ?_
  rw [HM.out.2.1]
  rintro en w3 ⟨rfl, rfl⟩
  go_wp2_with fail
  refine (vnew_calls w2.heap.size w2 R2.out.1.rt).mono ?_
  rintro en w3 ⟨vb, rfl, hvb, v3, b3⟩
  have R3 : Hid (Va w2.heap.size (fun j => w2.heap.size ≤ j ∧ j < w3.heap.size) w3 vb [] 0 ∧ Below w.heap.size w w3 ∧ Strs w3 (.slice (some ⟨g, off, none⟩) L.length c0) L ∧ g < w2.heap.size ∧ w2.heap.size ≤ w3.heap.size ∧ w.heap.size ≤ w2.heap.size ∧ L.length = k) :=
    Lib.hid ⟨v3.fresh w2.heap.size (fun _ h _ => h) (Nat.le_refl _), R2.out.2.1.trans (b3.mono R2.out.2.1.size), ⟨R2.out.2.2.1.1.below b3 (fun x hx => R2.out.2.2.1.1.lt hx), R2.out.2.2.1.2⟩, R2.out.2.2.1.1.lt rfl, b3.size, R2.out.2.1.size, R2.out.2.2.2⟩
  clear v3 b3 hvb R2
  have hap := R3.out.1.add (some ⟨g, off, none⟩) c0 L R3.out.2.2.1 (fun x hx e => by
    have h1 : g = x := by simpa [Value.ownBlock] using hx
    have := R3.out.2.2.2.1
    have := e.1
    omega) (by have := R3.out.2.2.2.2.2.2; simp; omega)
  rw [R3.out.2.2.2.2.2.2, List.nil_append] at hap
  have HAP := Lib.hid hap
  clear hap
  go_wp2_with fail
  refine HAP.out.mono ?_
  rintro en w4 ⟨rfl, v4, t4⟩
  have R4 : Hid (Va w2.heap.size (fun j => w2.heap.size ≤ j ∧ j < w4.heap.size) w4 vb L 0 ∧ Below w.heap.size w w4 ∧ Strs w4 (.slice (some ⟨g, off, none⟩) L.length c0) L ∧ g < w2.heap.size ∧ w2.heap.size ≤ w4.heap.size ∧ w.heap.size ≤ w2.heap.size ∧ L.length = k) := by
    obtain ⟨_, h2, h3, h4, h5, h6, h7⟩ := R3.out
    refine Lib.hid ⟨v4.fresh w2.heap.size (fun j h _ => ?_) (Nat.le_refl _), h2.trans (t4.below h2.size (fun j hj e => by have := e.1; omega)), ⟨h3.1.turn t4 (fun x hx e => ?_), h3.2⟩, h4, Nat.le_trans h5 t4.size, h6, h7⟩
    · rcases h with h | h
      · exact h.1
      · omega
    · have h1 : g = x := by simpa [Value.ownBlock] using hx
      have := e.1
      omega
  clear v4 t4 HAP R3
  have hy := HY.out
  obtain ⟨p, hp⟩ : ∃ p : Nat, min y (k : Int) = (p : Int) := ⟨(min y (k : Int)).toNat, by omega⟩
  have hpk : p ≤ k := by omega
  go_wp2_with fail
  refine (R4.out.1.clone p (Nat.zero_le _) (by rw [R4.out.2.2.2.2.2.2]; exact hpk)).mono ?_
  rintro en w5 ⟨c, rfl, hc5, v5, b5⟩
  obtain ⟨R, hR⟩ : ∃ R, R = rtAll (leafF L) k := ⟨_, rfl⟩
  have HRL : Hid (R.length = 32) := Lib.hid (by rw [hR]; exact rtAll_len (leafF_len L) k)
  have R5 : Hid (Va w2.heap.size (fun j => w2.heap.size ≤ j ∧ j < w4.heap.size) w5 vb L 0 ∧ Below w.heap.size w w5 ∧ Strs w5 (.slice (some ⟨g, off, none⟩) L.length c0) L ∧ Va w2.heap.size (fun j => w4.heap.size ≤ j ∧ j < w5.heap.size) w5 c (L.take p) 0 ∧ w4.heap.size ≤ w5.heap.size) := by
    obtain ⟨h1, h2, h3, _⟩ := R4.out
    exact Lib.hid ⟨h1.below b5, h2.trans (b5.mono h2.size), ⟨h3.1.below b5 (fun x hx => h3.1.lt hx), h3.2⟩, v5.fresh w4.heap.size (fun _ h _ => h) R4.out.2.2.2.2.1, b5.size⟩
  clear v5 b5 hc5
  have RH : Hid (∀ F V, Va w2.heap.size F V vb L 0 → Calls Tryd.prog 23 #[.pointer (some ⟨vb, 0, none⟩), .int .i64 k] V fun en w' => en = .returned (.tuple #[.agg (headC k R), .nilIface]) ∧ Below V.heap.size V w') := Lib.hid fun F V h => by
    rw [hR]
    exact h.head (by rw [R4.out.2.2.2.2.2.2]; omega) k (Nat.zero_le _) (by rw [R4.out.2.2.2.2.2.2]; exact Nat.le_refl _)
  clear hR
  go_wp2_with fail
  refine (RH.out _ w5 R5.out.1).mono ?_
  rintro en w6 ⟨rfl, b6⟩
  go_wp2_with (first
    | ((with_reducible refine at_store (.tmp 13) ?_); refine wpList_store_head (o := ⟨none, _, _, _, _, _⟩) rfl (.tmp 13) (.tmp 55) rfl w6.heap.size k 0 R (List.replicate 32 0) rfl rfl (made_at _ _ rfl) HRL.out (by simp) ?_; intro W7 HW7 TW7;
       (have R7 : Hid (Below w5.heap.size w5 W7 ∧ Has W7 w6.heap.size 48 (headC k R) ∧ w5.heap.size ≤ w6.heap.size) := (by
         have bb : Below w5.heap.size w5 W7 := (b6.alloc b6.size _).trans (TW7.below (by have := b6.size; simp; omega) (fun j hj e => by have := b6.size; omega))
         exact Lib.hid ⟨bb, HW7, b6.size⟩));
       clear HW7 TW7 b6)
    | fail)
  obtain ⟨g1, hg1⟩ : ∃ g1, g1 = w6.heap.size := ⟨_, rfl⟩
  rw [← hg1] at R7 ⊢
  clear hg1
  obtain ⟨q, hq⟩ : ∃ q : Nat, q = p + 1 := ⟨_, rfl⟩
  obtain ⟨r, hr⟩ : ∃ r : Nat, r = p + 2 := ⟨_, rfl⟩
  have hl3 : (L.take p ++ [mo, mo]).length = r := by
    have := R4.out.2.2.2.2.2.2
    rw [List.length_append, List.length_take, hr]
    simp only [List.length_cons, List.length_nil]
    omega
  have HL3 := Lib.hid (show _ ∧ _ ∧ _ ∧ _ from ⟨hl3, hq, hr, hpk⟩)
  have i1 : (p : Int) + 1 = (q : Int) := by omega
  have i2 : (p : Int) + 2 = (r : Int) := by omega
  have hp0 : (0 : Int) ≤ (p : Int) := by omega
  have hp16 : (p : Int) ≤ 16 := by omega
  clear hl3 hq hr hp hy hpk
  have hap := ((R5.out.2.2.2.1.below R7.out.1).alloc (.cells #[.string mo, .string mo] 9)).add (some ⟨W7.heap.size, 0, none⟩) 2 [mo, mo]
    ⟨Seg.whole (m := 2) (cs := #[.string mo, .string mo]) (heap_alloc_new _ _) rfl (by unfold maxLen; omega), fun s hs => by
      have h := HM.out.2.2
      rcases List.mem_cons.1 hs with rfl | hs
      · omega
      rw [List.mem_singleton.1 hs]; omega⟩
    (fun x hx e => by
      have h1 : W7.heap.size = x := by simpa [Value.ownBlock] using hx
      have := e.2
      have := R7.out.1.size
      omega) (by have := HL3.out.2.2; have := R4.out.2.2.2.2.2.2; rw [List.length_take]; show _ + 2 < _; omega)
  have HAP := Lib.hid hap
  clear hap
  refine HAP.out.mono ?_
  rintro en w8 ⟨rfl, v8, t8⟩
  have R8 : Hid (∃ G, Va w2.heap.size G w8 c (L.take p ++ [mo, mo]) 0 ∧ (∀ j, G j → w4.heap.size ≤ j ∧ j < w8.heap.size ∧ j ≠ g1) ∧ Has w8 g1 48 (headC k R) ∧ Va w2.heap.size (fun j => w2.heap.size ≤ j ∧ j < w4.heap.size) w8 vb L 0 ∧ Below w.heap.size w w8 ∧ Strs w8 (.slice (some ⟨g, off, none⟩) L.length c0) L) := by
    have h1 := R7.out.1.size
    have h2 := R7.out.2.1.lt
    have h3 := R7.out.2.2
    have h4 := R5.out.2.2.2.2
    obtain ⟨_, _, _, k4, k5, k6, _⟩ := R4.out
    have bb : Below w.heap.size w W7 := R5.out.2.1.trans (R7.out.1.mono R5.out.2.1.size)
    refine Lib.hid ⟨_, v8.tight, fun j hj => ?_, (R7.out.2.1.alloc _).turn t8 (fun e => ?_), ((R5.out.1.below R7.out.1).alloc _).turn t8 (fun j hj _ e => ?_) (fun j e => ?_), (bb.alloc bb.size _).trans (t8.below (by simp; omega) (fun j hj e => ?_)), ⟨((R5.out.2.2.1.1.below R7.out.1 (fun x hx => R5.out.2.2.1.1.lt hx)).alloc _).turn t8 (fun x hx e => ?_), R5.out.2.2.1.2⟩⟩
    · rcases hj.1 with h | h
      · exact ⟨h.1, hj.2, by have := h.2; omega⟩
      · simp at h
        exact ⟨by omega, hj.2, by omega⟩
    · have := e.2; omega
    · have := e.1; have := hj.2; omega
    · have := e.1; omega
    · have := e.1; omega
    · have h1 : g = x := by simpa [Value.ownBlock] using hx
      have := e.1; omega
  clear v8 t8 HAP R7 R5
  go_wp2_with fail
  obtain ⟨G, vc8, hG, hg8, vv8, bw8, st8⟩ := R8.out
  have hkp := vc8.keep q (Nat.zero_le _) (by have := HL3.out; omega)
  have HKP := Lib.hid hkp
  have S8 := Lib.hid (show _ ∧ _ ∧ _ ∧ _ ∧ _ ∧ _ from ⟨vc8, hG, hg8, vv8, bw8, st8⟩)
  clear hkp vc8 hG hg8 vv8 bw8 st8 R8
  refine HKP.out.mono ?_
  rintro en w9 ⟨rfl, v9, t9⟩
  have R9 : Hid ((∃ G, Va w2.heap.size G w9 c (L.take p ++ [mo, mo]) q) ∧ Has w9 g1 48 (headC k R) ∧ Va w2.heap.size (fun j => w2.heap.size ≤ j ∧ j < w4.heap.size) w9 vb L 0 ∧ Below w.heap.size w w9 ∧ Strs w9 (.slice (some ⟨g, off, none⟩) L.length c0) L) := by
    obtain ⟨vc8, hG, hg8, vv8, bw8, st8⟩ := S8.out
    obtain ⟨_, _, _, k4, k5, k6, _⟩ := R4.out
    refine Lib.hid ⟨⟨_, v9⟩, hg8.turn t9 (fun e => (hG _ e).2.2 rfl), vv8.turn t9 (fun j hj _ e => by have := (hG j e).1; have := hj.2; omega) (fun j e => by have := (hG j e).1; omega), bw8.trans (t9.below bw8.size (fun j hj e => by have := (hG j e).1; omega)), ⟨st8.1.turn t9 (fun x hx e => ?_), st8.2⟩⟩
    have h1 : g = x := by simpa [Value.ownBlock] using hx
    have := (hG x e).1; omega
  clear v9 t9 HKP S8
  have HVF : Hid (∀ F V, Va w2.heap.size F V vb L 0 → Calls Tryd.prog 25 #[.pointer (some ⟨vb, 0, none⟩)] V fun en w' => en = .returned (.int .i64 0) ∧ V = w') := Lib.hid fun F V h => h.floor_calls
  have HVL : Hid (∀ F V, Va w2.heap.size F V vb L 0 → Calls Tryd.prog 26 #[.pointer (some ⟨vb, 0, none⟩)] V fun en w' => en = .returned (.int .i64 k) ∧ V = w') := Lib.hid fun F V h => by rw [← R4.out.2.2.2.2.2.2]; exact h.len_calls
  have HCF : Hid (Calls Tryd.prog 25 #[.pointer (some ⟨c, 0, none⟩)] w9 fun en w' => en = .returned (.int .i64 q) ∧ w9 = w') := Lib.hid (by obtain ⟨G, h⟩ := R9.out.1; exact h.floor_calls)
  have HCL : Hid (Calls Tryd.prog 26 #[.pointer (some ⟨c, 0, none⟩)] w9 fun en w' => en = .returned (.int .i64 r) ∧ w9 = w') := Lib.hid (by obtain ⟨G, h⟩ := R9.out.1; rw [← HL3.out.1]; exact h.len_calls)
  go_wp2_with fail
  refine (HVF.out _ w9 R9.out.2.2.1).mono ?_
  rintro en wx ⟨rfl, rfl⟩
  go_wp2_with fail
  refine (HVL.out _ w9 R9.out.2.2.1).mono ?_
  rintro en wx ⟨rfl, rfl⟩
  go_wp2_with fail
  refine HCL.out.mono ?_
  rintro en wx ⟨rfl, rfl⟩
  go_wp2_with fail
  refine HCF.out.mono ?_
  rintro en wx ⟨rfl, rfl⟩
  go_wp2_with fail
  refine (RH.out _ w9 R9.out.2.2.1).mono ?_
  rintro en wa ⟨rfl, ba⟩
  have hl := R9.out.2.1.lt
  go_wp2_with (first
    | ((with_reducible refine at_store (.tmp 15) ?_); refine wpList_store_head (o := ⟨none, _, _, _, _, _⟩) rfl (.tmp 15) (.tmp 96) rfl wa.heap.size k 0 R (List.replicate 32 0) rfl rfl (made_at _ _ rfl) HRL.out (by simp) ?_; intro Wb HWb TWb;
       (have Rb : Hid (Below w9.heap.size w9 Wb ∧ Has Wb wa.heap.size 48 (headC k R) ∧ Has Wb g1 48 (headC k R)) := (by
         have bb : Below w9.heap.size w9 Wb := (ba.alloc ba.size _).trans (TWb.below (by have := ba.size; simp; omega) (fun j hj e => by have := ba.size; omega))
         exact Lib.hid ⟨bb, HWb, R9.out.2.1.below bb hl⟩));
       clear HWb TWb ba)
    | fail)
  obtain ⟨g2, hg2⟩ : ∃ g2, g2 = wa.heap.size := ⟨_, rfl⟩
  rw [← hg2] at Rb ⊢
  clear hg2 hl
  have Rc : Hid ((∃ G, Va w2.heap.size G Wb c (L.take p ++ [mo, mo]) q) ∧ Has Wb g1 48 (headC k R) ∧ Has Wb g2 48 (headC k R) ∧ Va w2.heap.size (fun j => w2.heap.size ≤ j ∧ j < w4.heap.size) Wb vb L 0 ∧ Below w.heap.size w Wb ∧ Strs Wb (.slice (some ⟨g, off, none⟩) L.length c0) L) := by
    obtain ⟨⟨G, h1⟩, h2, h3, h4, h5⟩ := R9.out
    exact Lib.hid ⟨⟨G, h1.below Rb.out.1⟩, Rb.out.2.2, Rb.out.2.1, h3.below Rb.out.1, h4.trans (Rb.out.1.mono h4.size), ⟨h5.1.below Rb.out.1 (fun x hx => h5.1.lt hx), h5.2⟩⟩
  have R4P : Hid (∀ V, Below Wb.heap.size Wb V → Pw V) := Lib.hid fun V hV => HPK.out.below (Rc.out.2.2.2.2.1.trans (hV.mono Rc.out.2.2.2.2.1.size))
  clear R9 Rb HVF HVL HCF HCL RH
  go_loopw [99] (fun s wr => ∃ i : Nat, s = .int .i64 i ∧ i ≤ k ∧ Hid (Below Wb.heap.size Wb wr)) (fun s _ => k - (intOf s).toNat)
  case atStart => exact ⟨0, rfl, Nat.zero_le _, Below.refl _ _⟩
  case round =>
    obtain ⟨i, rfl, hi, HB⟩ := hrel
    have hi0 : (0 : Int) ≤ (i : Int) := by omega
    have hi16 : (i : Int) ≤ 16 := by omega
    by_cases hik : i < k
    · have hik1 : (i : Int) < (k : Int) := by omega
      obtain ⟨s, hs⟩ : ∃ s, L[i]? = some s := ⟨_, List.getElem?_eq_getElem (by rw [R4.out.2.2.2.2.2.2]; exact hik)⟩
      have HA : Hid (Calls Tryd.prog 27 #[.pointer (some ⟨vb, 0, none⟩), .int .i64 i] wr fun en w' => en = .returned (.tuple #[.string s, .nilIface]) ∧ Below wr.heap.size wr w') := Lib.hid ((Rc.out.2.2.2.1.below HB.out).at_ok i (Nat.zero_le _) s hs)
      obtain ⟨g', off', c', e, hgl, _, _, hcc⟩ := Rc.out.2.2.2.2.2.1.cells (by rw [R4.out.2.2.2.2.2.2]; omega)
      simp only [Value.slice.injEq, Option.some.injEq, Addr.mk.injEq, and_true] at e
      obtain ⟨⟨rfl, rfl⟩, _, rfl⟩ := e
      have HCC : Hid (∀ V, Below Wb.heap.size Wb V → V.cell? ⟨g, off + i, none⟩ = some (.string s)) := Lib.hid fun V hV => by
        have h1 := hcc i (.string s) (by rw [List.getElem?_map, hs]; rfl)
        rw [← h1]; unfold World.cell?; rw [hV.block g hgl]
      clear hs hcc hgl
      go_wp2_with fail
      refine HA.out.mono ?_
      rintro en wc ⟨rfl, bc⟩
      have HB2 := Lib.hid (HB.out.trans (bc.mono HB.out.size))
      have k0 := HCC.out wc HB2.out
      have hss : (s.toList == s.toList) = true := by simp
      clear bc HB HA HCC
      go_wp2_with fail
      refine ⟨⟨i + 1, by rw [Int.natCast_add]; rfl, by omega, HB2⟩, ?_⟩
      show k - ((i : Int) + 1).toNat < k - ((i : Int)).toNat
      omega
    · obtain rfl : i = k := by omega
      have hd := Rc.out.1
      obtain ⟨G2, hvc⟩ := hd
      have vcr := hvc.below HB.out
      have hat : (L.take p ++ [mo, mo])[q]? = some mo := by
        rw [List.getElem?_append_right (by rw [List.length_take]; have := HL3.out; omega), List.length_take]
        have h1 : q - min p L.length = 1 := by have := HL3.out; have := R4.out.2.2.2.2.2.2; omega
        rw [h1]; rfl
      have HQ := Lib.hid (vcr.at_ok q (Nat.le_refl _) mo hat)
      have VC := Lib.hid (show _ ∧ _ from ⟨hvc, HB.out⟩)
      clear hvc vcr hat HB
      go_wp2_with fail
      refine HQ.out.mono ?_
      rintro en wd ⟨rfl, bd⟩
      have HB3 := Lib.hid (VC.out.2.trans (bd.mono VC.out.2.size))
      clear bd HQ
      go_wp2_with fail
      refine ((VC.out.1.below HB3.out).at_pruned p (by have := HL3.out; omega)).mono ?_
      rintro en we ⟨eb, rfl, heb, her, be⟩
      have HB4 := Lib.hid (show _ ∧ _ from ⟨HB3.out.trans (be.mono HB3.out.size), her⟩)
      clear be her heb HB3
      have hl1 : (Instr.loadAt 48 (.pointer (some ⟨g1, 0, none⟩))).run Tryd.prog we = .ok (.agg (headC i R)) we := prf.Has.load_hd (Rc.out.2.1.below HB4.out.1 Rc.out.2.1.lt) HRL.out
      have hl2 : (Instr.loadAt 48 (.pointer (some ⟨g2, 0, none⟩))).run Tryd.prog we = .ok (.agg (headC i R)) we := prf.Has.load_hd (Rc.out.2.2.1.below HB4.out.1 Rc.out.2.2.1.lt) HRL.out
      have he := fun V => run_eql_head_same (i : Int) R HRL.out V
      have hss : (mo.toList == mo.toList) = true := by simp
      have hpth := path_one (R4P.out we HB4.out.1) HB4.out.2 (by decide) (by decide) (by decide)
      rw [path_pruned] at hpth
      have HPT := Lib.hid hpth
      clear hpth
      go_wp2_with (first
        | ((with_reducible refine at_opg 135 ?_); refine wpList_load_if (o := ⟨some 135, _, _, _, _, _⟩) (by kernel_rfl) 48 (.tmp 15) rfl (.pointer (some ⟨g2, 0, none⟩)) rfl hl2 ?_)
        | ((with_reducible refine at_opg 136 ?_); refine wpList_load_if (o := ⟨some 136, _, _, _, _, _⟩) (by kernel_rfl) 48 (.tmp 13) rfl (.pointer (some ⟨g1, 0, none⟩)) rfl hl1 ?_)
        | fail)
      refine HPT.out.mono ?_
      rintro en wf ⟨rfl, bf⟩
      go_wp2_with fail
      go_ret
      have h1 := Rc.out.2.2.2.2.1
      have h2 := h1.trans (HB4.out.1.mono h1.size)
      exact ⟨rfl, h2.trans (bf.mono h2.size)⟩
theorem own : ownKnob Tryd.prog.godebug = none := by kernel_rfl
theorem laidOut : laidOutB Tryd.prog = true := by kernel_rfl

set_option maxRecDepth 100000 in
theorem lifted (os : Os) (started : os.Started) (H : Type) (enc : TypeId × Value → H) :
    ReturnsInHanded {} Tryd.checked os 4 .any (fun w args => (Rows.pruneApartSpec.pre enc Tryd.prog Tryd.f4 [] false w args ∧ laidMetH Tryd.prog Rows.pruneApartRow.laid w) ∧ sizedMet enc Tryd.prog Tryd.f4 (OpenSpec.ofChange Rows.pruneApartSpec) false w args)
      (Rows.pruneApartSpec.post enc Tryd.prog Tryd.f4 false true false false) := by
  refine returnsInHanded_of_change_and (C := Tryd.checked) (X := fun w _ => laidMetH Tryd.prog Rows.pruneApartRow.laid w) (fun _ _ _ hh h => h.of_heap hh) own started (by kernel_rfl) Tryd.func4
    (ChangeSpec.witness_shaped (enc := enc) (C := Tryd.checked) (os := os) (X := fun w _ => laidMetH Tryd.prog Rows.pruneApartRow.laid w) false (World.doorLaid Tryd.prog 31 os) #[.slice none 0 0, .int .i64 0, .int .i64 0, .string ByteArray.empty] 8 rfl (door_shaped os _) (by kernel_rfl) (by kernel_rfl) (by kernel_rfl) (door_met os _)) ?_
  intro W base args ds gs before hval0 hW _ _ hL _
  have hval : ∀ (j : Nat) t v, Tryd.f4.params[j]? = some t → args[j]? = some v → Value.okWide Tryd.prog W .any base t v := hval0
  have hW' := hW
  obtain ⟨p, q, hA0, hV, rfl, _, _⟩ := hW
  have hA : DataW.TrodAll enc Tryd.prog W 0 (fun _ => true) true Tryd.f4.params.toList args.toList ds p := hA0
  rw [Tryd.params4] at hA hval
  obtain ⟨v0, vs0, d0, ds0, p0, q0, hargs, rfl, rfl, h0, r0⟩ := trodAll_cons hA
  obtain ⟨v1, vs1, d1, ds1, p1, q1, rfl, rfl, rfl, h1, r1⟩ := trodAll_cons r0
  obtain ⟨v2, vs2, d2, ds2, p2, q2, rfl, rfl, rfl, h2, r2⟩ := trodAll_cons r1
  obtain ⟨v3, vs3, d3, ds3, p3, q3, rfl, rfl, rfl, h3, r3⟩ := trodAll_cons r2
  obtain ⟨rfl, rfl, rfl⟩ := trodAll_nil r3
  obtain rfl : args = #[v0, v1, v2, v3] := by cases args; simp_all
  obtain ⟨rfl, rfl⟩ := trodVars_none hV
  obtain ⟨a0, len0, cap0, rfl⟩ := okWide_slice Tryd.underlying22 (hval 0 22 v0 rfl rfl)
  have k0 := h0
  have lt0 : ∀ x ∈ p0, x.block < W.heap.size := by obtain ⟨m, hm⟩ := k0; exact DataW.trod_lt m _ _ _ hm
  have w0 : Arg0 W a0 len0 cap0 := opened0 h0
  obtain ⟨a1, rfl, rfl, rfl, w1⟩ := open_int Tryd.underlying3 (hval 1 3 v1 rfl rfl) h1
  obtain ⟨a2, rfl, rfl, rfl, w2⟩ := open_int Tryd.underlying3 (hval 2 3 v2 rfl rfl) h2
  obtain ⟨a3, rfl, rfl, rfl, w3⟩ := open_string Tryd.underlying9 (hval 3 9 v3 rfl rfl) h3
  clear hA0 hval0
  refine (walk a0 len0 cap0 a1 a2 a3 W w0 w1 w2 w3 (pw_of_laid hL)).mono fun e W' ⟨he, bel⟩ => ?_
  subst he
  exact ⟨_, rfl, _, _, _, [], _, [], hW', trodAll_mk1 (shut_bool Tryd.underlying4 _), (trodAll_cons_mk (Below.trod laidOut (by kernel_rfl) (of_decide_eq_true (by kernel_rfl)) k0 bel lt0) (trodAll_cons_mk (shut_int Tryd.underlying3 w1) (trodAll_cons_mk (shut_int Tryd.underlying3 w2) (trodAll_cons_mk (shut_string Tryd.underlying9 w3) trodAll_mk0)))), rfl, bel.frame _, fun h => by cases h⟩

theorem over : Rows.pruneApartRow.holds Tryd.pinned (OpenSpec.ofChange Rows.pruneApartSpec) :=
  OpenClaim.holds_of_wide 4 Tryd.f4 rfl rfl rfl rfl rfl rfl rfl ⟨rfl, rfl, rfl, rfl, rfl⟩ rfl rfl rfl rfl rfl (by kernel_rfl) Tryd.func4 (by kernel_rfl)
    (of_decide_eq_true (by kernel_rfl)) (by unfold Func.isWrapper; first | (rw [if_pos (by decide +kernel)]; kernel_rfl) | (rw [if_neg (by decide +kernel)]; exact ⟨rfl, rfl⟩))
    (fun os started H enc _ => lifted os started H enc)

theorem plain (f : FuncId) (fn : Func) (hf : Tryd.pinned.checked.prog.funcNamed "hindsight/hindsightlaw12.PruneApart" = some f) (hfn : Tryd.pinned.checked.prog.funcs[f]? = some fn) :
    (true : Bool) = Tryd.pinned.checked.prog.looks [] ∧ ∀ (j : Nat) t, fn.params[j]? = some t → Tryd.pinned.checked.prog.wantsStandIn t = false := by
  obtain rfl : f = 4 := Option.some.inj ((show Tryd.prog.funcNamed "hindsight/hindsightlaw12.PruneApart" = some 4 by kernel_rfl).symm.trans hf) |>.symm
  obtain rfl : fn = Tryd.f4 := (Option.some.inj (Tryd.func4.symm.trans hfn)).symm
  refine ⟨by kernel_rfl, fun j t ht => ?_⟩
  rw [Tryd.params4] at ht
  have hm := Array.mem_of_getElem? ht
  simp only [List.mem_toArray, List.mem_cons, List.not_mem_nil, or_false] at hm
  rcases hm with rfl | rfl | rfl | rfl
  · exact (show Tryd.prog.wantsStandIn 22 = false by kernel_rfl)
  · exact (show Tryd.prog.wantsStandIn 3 = false by kernel_rfl)
  · exact (show Tryd.prog.wantsStandIn 3 = false by kernel_rfl)
  · exact (show Tryd.prog.wantsStandIn 9 = false by kernel_rfl)

theorem card : Rows.PruneApartCardSaid :=
  Claim7.holds_tied_plain_at .later [] _ _ _ _ over (fun _ h => by cases h) (by kernel_rfl) (fun _ h => by cases h) pruneApart_row_tie rfl ⟨rfl, rfl⟩ (by kernel_rfl) rfl plain (by kernel_rfl)

theorem proved : Rows.PruneApartCardSaid := card
end Go.Proofs.YtiobdhkadbipkaaDoor.pruneApart
