/- PruneSteps: for every list of texts, every number and every list of floors the law answers true, and its arguments read afterwards as they did. Conditions: the row lists four package-level variables (digest's table of rounds, both tables of math/bits, errors.errorType), which the card ties to the program's text. -/
import Derived.Test.YtiobdhkadbipkaaDoorY008
import Derived.Test.YtiobdhkadbipkaaDoorY012
import Derived.Test.YtiobdhkadbipkaaDoorY004
import Derived.Test.YtiobdhkadbipkaaDoorYInts
import Derived.Test.YtiobdhkadbipkaaDoorCards
import Derived.Test.YtiobdhkadbipkaaDoorTie
import Derived.ProofKit
import Derived.OpenShut
import Derived.SevenTiedAt
namespace Go.Proofs.YtiobdhkadbipkaaDoor.pruneSteps
open Go Go.ChangeShapes Go.WideShapes Go.ChangeAt Go.RowKit Go.Proofs.YtiobdhkadbipkaaDoor.dig Go.Proofs.YtiobdhkadbipkaaDoor.prn Go.Proofs.YtiobdhkadbipkaaDoor.prf

def Arg0 (w : World) (a : Option Addr) (len cap : Nat) : Prop := ∃ T, ArgS w a len cap T
theorem opened0 {H : Type} {enc : TypeId × Value → H} {w : World} {spare : Nat → Bool} {held : Bool} {a : Option Addr} {len cap : Nat} {d : DataW H} {p : List MemPlace} (h : DataW.Trod enc Tryd.prog w 0 spare held 22 (.slice a len cap) d p) : Arg0 w a len cap := openedStrs h

/-- What lasts in the last region of a round. -/
structure Ps (B : Nat) (w : World) (a b : Nat) (L : List ByteArray) (m : Nat) (g1 g2 : Nat) (P1 P2 : Array Value) (e1 e2 : Value) (pt tx : ByteArray) (V : World) : Prop where
  pa : Pa B w a b L m m V
  p1 : Has V g1 58 P1
  p2 : Has V g2 58 P2
  e1 : PathIs V e1 pt
  e2 : PathIs V e2 pt
  t1 : TextIs V (.agg P1) tx
  t2 : TextIs V (.agg P2) tx
theorem Ps.below {B : Nat} {w : World} {a b : Nat} {L : List ByteArray} {m g1 g2 : Nat} {P1 P2 : Array Value} {e1 e2 : Value} {pt tx : ByteArray} {V V' : World} (h : Ps B w a b L m g1 g2 P1 P2 e1 e2 pt tx V) (b' : Below V.heap.size V V') : Ps B w a b L m g1 g2 P1 P2 e1 e2 pt tx V' :=
  ⟨h.pa.below b', h.p1.below b' h.p1.lt, h.p2.below b' h.p2.lt, h.e1.below b', h.e2.below b', h.t1.below b', h.t2.below b'⟩

def Arg2 (w : World) (a : Option Addr) (len cap : Nat) : Prop := ∃ T, ArgI w a len cap T
theorem opened2 {H : Type} {enc : TypeId × Value → H} {w : World} {spare : Nat → Bool} {held : Bool} {a : Option Addr} {len cap : Nat} {d : DataW H} {p : List MemPlace} (h : DataW.Trod enc Tryd.prog w 0 spare held 23 (.slice a len cap) d p) : Arg2 w a len cap := openedI h

set_option maxRecDepth 100000 in
set_option maxHeartbeats 4000000 in
theorem walk (a : Option Addr) (len cap : Nat) (n : Int) (a2 : Option Addr) (len2 cap2 : Nat) (w : World) (hA : Arg0 w a len cap) (hn : (Lit.int .i64 n).wf = true) (hA2 : Arg2 w a2 len2 cap2) (hP : Pw w) :
    Calls Tryd.prog 5 #[.slice a len cap, .int .i64 n, .slice a2 len2 cap2] w fun en w' => en = .returned (.bool true) ∧ Below w.heap.size w w' := by
  obtain ⟨T2, hT2⟩ := hA2
  have HT2 := Lib.hid hT2
  have hlc2 : (len2 : Int) ≤ 9223372036854775807 := by have := hT2.1; have := hT2.2.1; unfold maxLen at this; omega
  have hl20 : (0 : Int) ≤ (len2 : Int) := by omega
  clear hT2
  obtain ⟨T, hT⟩ := hA
  have hn2 := wf_i64 hn
  obtain ⟨x, hx⟩ : ∃ x : Int, max n 0 = x := ⟨_, rfl⟩
  obtain ⟨k, hk⟩ : ∃ k : Nat, min x 16 = (k : Int) := ⟨(min x 16).toNat, by omega⟩
  have hk16 : k ≤ 16 := by omega
  have HT := Lib.hid hT
  have HP := Lib.hid hP
  have HPK := Lib.hid hP
  clear hT hP hn hn2
  go_enter Tryd.func5, Tryd.ntmps5
  go_wp2_with fail
  refine (awake_calls w HP.out).mono ?_
  rintro en w1 ⟨rfl, b1⟩
  have R1 : Hid (Pw w1 ∧ Below w.heap.size w w1 ∧ ArgS w1 a len cap T) := Lib.hid ⟨HP.out.below b1, b1, HT.out.1, HT.out.2.1, fun k hk => by
    obtain ⟨gb, go, h1, h2, h3, h4⟩ := HT.out.2.2 k hk
    exact ⟨gb, go, h1, Nat.lt_of_lt_of_le h2 b1.size, by rw [← h3]; unfold World.cell?; rw [b1.block gb h2], h4⟩⟩
  clear b1 HP HT
  go_wp2_with fail
  refine (leaves_calls a len cap T k w1 R1.out.2.2 (by omega) (by omega)).mono ?_
  rintro en w2 ⟨v, L, rfl, hs2, hlen, lo2, b2, hne⟩
  have hlen2 : L.length = k := by omega
  obtain ⟨a0, c0, rfl, hc1, hc2⟩ := hs2.1.slice
  obtain ⟨g, off, rfl⟩ : ∃ g off, a0 = some ⟨g, off, none⟩ := by
    rcases hs2.1.2 with ⟨h, _⟩ | ⟨g, off, cp, cur, h, _⟩
    · exact absurd h hne
    · simp only [Value.slice.injEq] at h; exact ⟨g, off, h.1⟩
  have hc3 : (c0 : Int) ≤ 9223372036854775807 := by unfold maxLen at hc2; omega
  rw [hlen2] at hc1 ⊢
  have hcl : (k : Int) ≤ (c0 : Int) := by omega
  have R2 : Hid (Pw w2 ∧ Below w.heap.size w w2 ∧ Strs w2 (.slice (some ⟨g, off, none⟩) L.length c0) L ∧ L.length = k) := Lib.hid ⟨R1.out.1.below b2, R1.out.2.1.trans (b2.mono R1.out.2.1.size), hs2, hlen2⟩
  clear hs2 lo2 b2 R1 hlen hlen2 hc2 hc1 hne hx hk
  go_wp2_with fail
  refine (vnew_calls w2.heap.size w2 R2.out.1.rt).mono ?_
  rintro en w3 ⟨vb, rfl, hvb, v3, b3⟩
  have R3 : Hid (Va w2.heap.size (fun j => w2.heap.size ≤ j ∧ j < w3.heap.size) w3 vb [] 0 ∧ Below w.heap.size w w3 ∧ Strs w3 (.slice (some ⟨g, off, none⟩) L.length c0) L ∧ g < w2.heap.size ∧ w2.heap.size ≤ w3.heap.size ∧ w.heap.size ≤ w2.heap.size ∧ L.length = k) :=
    Lib.hid ⟨v3.fresh w2.heap.size (fun _ h _ => h) (Nat.le_refl _), R2.out.2.1.trans (b3.mono R2.out.2.1.size), ⟨R2.out.2.2.1.1.below b3 (fun x hx => R2.out.2.2.1.1.lt hx), R2.out.2.2.1.2⟩, R2.out.2.2.1.1.lt rfl, b3.size, R2.out.2.1.size, R2.out.2.2.2⟩
  clear v3 b3 hvb R2
  go_wp2_with fail
  refine (vnew_calls w2.heap.size w3 R3.out.1.rt).mono ?_
  rintro en w4 ⟨vc, rfl, hvc, v4, b4⟩
  have R4 : Hid (Pa w2.heap.size w vb vc [] 0 0 w4 ∧ Strs w4 (.slice (some ⟨g, off, none⟩) L.length c0) L ∧ g < w2.heap.size ∧ L.length = k) := by
    obtain ⟨h1, h2, h3, h4, h5, h6, h7⟩ := R3.out
    exact Lib.hid ⟨⟨⟨_, _, h1.below b4, v4.fresh w3.heap.size (fun _ h _ => h) h5, fun j hf hg => by have := hf.2; have := hg.1; omega, fun j hf => Nat.lt_of_lt_of_le hf.2 b4.size, fun j hg => hg.2⟩, h2.trans (b4.mono h2.size), h6⟩, ⟨h3.1.below b4 (fun x hx => h3.1.lt hx), h3.2⟩, h4, h7⟩
  clear v4 b4 hvc R3
  have hap := R4.out.1.add_first (some ⟨g, off, none⟩) c0 L R4.out.2.1 (fun x hx => by
    have h1 : g = x := by simpa [Value.ownBlock] using hx
    have := R4.out.2.2.1
    omega) (by have := R4.out.2.2.2; omega)
  rw [R4.out.2.2.2] at hap
  have HAP := Lib.hid hap
  clear hap
  go_wp2_with fail
  refine HAP.out.mono ?_
  rintro en w5 ⟨rfl, p5, s5⟩
  have R5 := Lib.hid (show _ ∧ _ ∧ _ ∧ _ from ⟨p5, s5, R4.out.2.2.1, R4.out.2.2.2⟩)
  clear p5 s5 HAP R4
  have hap := Pa.add_second R5.out.1 (some ⟨g, off, none⟩) c0 (by rw [R5.out.2.2.2]; exact R5.out.2.1) (fun x hx => by
    have h1 : g = x := by simpa [Value.ownBlock] using hx
    have := R5.out.2.2.1
    omega) (by have := R5.out.2.2.2; omega)
  rw [R5.out.2.2.2] at hap
  have HAP := Lib.hid hap
  clear hap
  go_wp2_with fail
  refine HAP.out.mono ?_
  rintro en w6 ⟨rfl, p6⟩
  have R6 := Lib.hid (show _ ∧ _ from ⟨p6, R5.out.2.2.2⟩)
  clear p6 HAP R5
  go_wp2_with fail
  go_loopw [10, 11] (fun mo s wr => ∃ m j : Nat, mo = .int .i64 m ∧ s = .int .i64 j ∧ m ≤ k ∧ j ≤ 10 ∧ j ≤ len2 ∧ Hid (Pa w2.heap.size w vb vc L m 0 wr)) (fun _ s _ => 10 - (intOf s).toNat)
  case atStart => exact ⟨0, 0, rfl, rfl, Nat.zero_le _, Nat.zero_le _, Nat.zero_le _, Lib.hid R6.out.1⟩
  case round =>
    obtain ⟨m, j, rfl, rfl, hm, hj, hjl, HS⟩ := hrel
    have hj0 : (0 : Int) ≤ (j : Int) := by omega
    have hm0 : (0 : Int) ≤ (m : Int) := by omega
    have hm16 : (m : Int) ≤ 16 := by omega
    by_cases hc : j < len2 ∧ j < 10
    · have hc1 : (j : Int) < (len2 : Int) := by omega
      have hc2 : (j : Int) < 10 := by omega
      obtain ⟨gb, go, ha2, hgb, hcell, ht0, ht1⟩ := HT2.out.2.2 j hc.1
      subst ha2
      have k0 : wr.cell? ⟨gb, go + j, none⟩ = some (.int .i64 (T2 j)) := by rw [← hcell]; unfold World.cell?; rw [HS.out.bel.block gb hgb]
      obtain ⟨t, ht⟩ : ∃ t, t = T2 j := ⟨_, rfl⟩
      rw [← ht] at k0
      clear ht ht0 ht1 hcell hgb hc
      obtain ⟨y, hy⟩ : ∃ y : Int, max t 0 = y := ⟨_, rfl⟩
      obtain ⟨p, hp⟩ : ∃ p : Nat, min y (k : Int) = (p : Int) := ⟨(min y (k : Int)).toNat, by omega⟩
      have hpk : p ≤ k := by omega
      by_cases hpm : m ≤ p
      · have hpm1 : (p : Int) ≥ (m : Int) := by omega
        have hmx : max (m : Int) (p : Int) = (p : Int) := by omega
        have HK := Lib.hid (HS.out.keep p hpm (by rw [R6.out.2]; exact hpk))
        go_wp2_with fail
        refine HK.out.mono ?_
        rintro en wb ⟨rfl, pb⟩
        have HB := Lib.hid pb
        clear pb HK HS k0 hy hp
        go_wp2_with fail
        refine ⟨⟨p, j + 1, rfl, by rw [Int.natCast_add]; rfl, hpk, by omega, by omega, HB⟩, ?_⟩
        show 10 - ((j : Int) + 1).toNat < 10 - ((j : Int)).toNat
        omega
      · have hpm1 : ¬ (p : Int) ≥ (m : Int) := by omega
        have hmx : max (m : Int) (p : Int) = (m : Int) := by omega
        have HK : Hid (Calls Tryd.prog 24 #[.pointer (some ⟨vb, 0, none⟩), .int .i64 p] wr (OneErr wr floorB p 14)) := Lib.hid (by
          obtain ⟨F, G, h1, _⟩ := HS.out.ex
          exact h1.keep_low p (by omega))
        go_wp2_with fail
        refine HK.out.mono ?_
        rintro en wb ⟨eb, rfl, heb, her, bb⟩
        have hev : flt.ev [⟨eb, floorB, (p : Int)⟩] 14 = .iface 107 (.pointer (some ⟨eb, 0, none⟩)) := rfl
        have hpth := path_one (HPK.out.below (HS.out.below bb).bel) her (by decide) (by decide) (by decide)
        rw [path_floor_pruned, hev] at hpth
        have HPT := Lib.hid hpth
        have HB := Lib.hid (HS.out.below bb)
        rw [hev]
        clear hev hpth heb her bb HK HS k0 hy hp
        go_wp2_with fail
        refine HPT.out.mono ?_
        rintro en wc ⟨rfl, bc⟩
        have HC := Lib.hid (HB.out.below bc)
        clear bc HPT HB
        go_wp2_with fail
        refine ⟨⟨m, j + 1, rfl, by rw [Int.natCast_add]; rfl, hm, by omega, by omega, HC⟩, ?_⟩
        show 10 - ((j : Int) + 1).toNat < 10 - ((j : Int)).toNat
        omega
    · have HKB : Hid (∀ W, Pa w2.heap.size w vb vc L m 0 W → Calls Tryd.prog 24 #[.pointer (some ⟨vc, 0, none⟩), .int .i64 m] W fun en w' => en = .returned .nilIface ∧ Pa w2.heap.size w vb vc L m m w') := Lib.hid fun W h =>
        (h.swap.keep m (Nat.zero_le _) (by rw [R6.out.2]; exact hm)).mono fun _ _ h => ⟨h.1, h.2.swap⟩
      have HFA : Hid (∀ W, Pa w2.heap.size w vb vc L m m W → Calls Tryd.prog 25 #[.pointer (some ⟨vb, 0, none⟩)] W fun en w' => en = .returned (.int .i64 m) ∧ W = w') := Lib.hid fun W h => by
        obtain ⟨F, G, h1, _⟩ := h.ex
        exact h1.floor_calls
      have HFB : Hid (∀ W, Pa w2.heap.size w vb vc L m m W → Calls Tryd.prog 25 #[.pointer (some ⟨vc, 0, none⟩)] W fun en w' => en = .returned (.int .i64 m) ∧ W = w') := Lib.hid fun W h => by
        obtain ⟨F, G, _, h1, _⟩ := h.ex
        exact h1.floor_calls
      have hcc : ¬ (j : Int) < (len2 : Int) ∨ ¬ (j : Int) < 10 := by omega
      clear hc
      rcases hcc with hcc | hcc
      case' inr =>
        by_cases hcd : (j : Int) < (len2 : Int)
      all_goals
        go_wp2_with fail
        refine (HKB.out wr HS.out).mono ?_
        rintro en wb ⟨rfl, pb⟩
        have HB := Lib.hid pb
        clear pb HKB HS
        go_wp2_with fail
        refine (HFA.out wb HB.out).mono ?_
        rintro en wx ⟨rfl, rfl⟩
        go_wp2_with fail
        refine (HFB.out wb HB.out).mono ?_
        rintro en wx ⟨rfl, rfl⟩
        clear HFA HFB
        try clear hcc
        try clear hcd
        go_wp2_with fail
        have HAA : Hid (∀ W, Pa w2.heap.size w vb vc L m m W → ∀ i, i < k → Calls Tryd.prog 27 #[.pointer (some ⟨vb, 0, none⟩), .int .i64 i] W fun en w' => ∃ e, en = .returned (.tuple #[.string (atS L m i), e]) ∧ Below W.heap.size W w' ∧ PathIs w' e (atP m i)) := Lib.hid fun W h i hi => by
          obtain ⟨F, G, h1, _⟩ := h.ex
          exact h1.at_tells (HPK.out.below h.bel) i (by rw [R6.out.2]; exact hi)
        have HAB : Hid (∀ W, Pa w2.heap.size w vb vc L m m W → ∀ i, i < k → Calls Tryd.prog 27 #[.pointer (some ⟨vc, 0, none⟩), .int .i64 i] W fun en w' => ∃ e, en = .returned (.tuple #[.string (atS L m i), e]) ∧ Below W.heap.size W w' ∧ PathIs w' e (atP m i)) := Lib.hid fun W h i hi => by
          obtain ⟨F, G, _, h1, _⟩ := h.ex
          exact h1.at_tells (HPK.out.below h.bel) i (by rw [R6.out.2]; exact hi)
        have HLA : Hid (∀ W, Pa w2.heap.size w vb vc L m m W → ∀ i, i < k → Calls Tryd.prog 29 #[.pointer (some ⟨vb, 0, none⟩), .int .i64 i, .int .i64 k] W fun en w' => ∃ K I N a l c e, en = .returned (.tuple #[.agg (prC K I N (.slice a l c)), e]) ∧ Below W.heap.size W w' ∧ PathIs w' e (lfP m i) ∧ TextIs w' (.agg (prC K I N (.slice a l c))) (lfT L m i k)) := Lib.hid fun W h i hi => by
          obtain ⟨F, G, h1, _⟩ := h.ex
          exact h1.leaf_tells (by rw [R6.out.2]; omega) (HPK.out.below h.bel) i k (by rw [R6.out.2]; exact Nat.le_refl _) hi
        have HLB : Hid (∀ W, Pa w2.heap.size w vb vc L m m W → ∀ i, i < k → Calls Tryd.prog 29 #[.pointer (some ⟨vc, 0, none⟩), .int .i64 i, .int .i64 k] W fun en w' => ∃ K I N a l c e, en = .returned (.tuple #[.agg (prC K I N (.slice a l c)), e]) ∧ Below W.heap.size W w' ∧ PathIs w' e (lfP m i) ∧ TextIs w' (.agg (prC K I N (.slice a l c))) (lfT L m i k)) := Lib.hid fun W h i hi => by
          obtain ⟨F, G, _, h1, _⟩ := h.ex
          exact h1.leaf_tells (by rw [R6.out.2]; omega) (HPK.out.below h.bel) i k (by rw [R6.out.2]; exact Nat.le_refl _) hi
        go_loopw [90] (fun s wr => ∃ i : Nat, s = .int .i64 i ∧ i ≤ k ∧ Hid (Pa w2.heap.size w vb vc L m m wr)) (fun s _ => k - (intOf s).toNat)
        case atStart => exact ⟨0, rfl, Nat.zero_le _, HB⟩
        case round =>
          obtain ⟨i, rfl, hi, HS⟩ := hrel
          clear HB
          have hi0 : (0 : Int) ≤ (i : Int) := by omega
          by_cases hik : i < k
          · have hik1 : (i : Int) < (k : Int) := by omega
            go_wp2_with fail
            refine (HAA.out _ HS.out i hik).mono ?_
            rintro en wc ⟨ea, rfl, bc, pa1⟩
            have QA := Lib.hid (show _ ∧ _ from ⟨HS.out.below bc, pa1⟩)
            clear bc pa1 HS
            go_wp2_with fail
            refine (HAB.out _ QA.out.1 i hik).mono ?_
            rintro en wd ⟨eb, rfl, bd, pb1⟩
            have QB := Lib.hid (show _ ∧ _ ∧ _ from ⟨QA.out.1.below bd, QA.out.2.below bd, pb1⟩)
            clear bd pb1 QA
            have hss : ((atS L m i).toList == (atS L m i).toList) = true := by simp
            have hsp : ((atP m i).toList == (atP m i).toList) = true := by simp
            go_wp2_with fail
            refine (QB.out.2.1 wd (Below.refl _ _)).mono ?_
            rintro en we ⟨rfl, be⟩
            have QC := Lib.hid (show _ ∧ _ from ⟨QB.out.1.below be, QB.out.2.2.below be⟩)
            clear be QB
            go_wp2_with fail
            refine (QC.out.2 we (Below.refl _ _)).mono ?_
            rintro en wf ⟨rfl, bf⟩
            have QD := Lib.hid (QC.out.1.below bf)
            clear bf QC
            go_wp2_with fail
            refine (HLA.out _ QD.out i hik).mono ?_
            rintro en wg ⟨K1, I1, N1, b1, l1, c1, e1, rfl, bg, pe1, te1⟩
            have QE := Lib.hid (show _ ∧ _ ∧ _ from ⟨QD.out.below bg, pe1, te1⟩)
            clear bg pe1 te1 QD hss hsp
            go_wp2_with (first
              | ((with_reducible refine at_store (.tmp 19) ?_); refine wpList_store_cells (o := ⟨none, _, _, _, _, _⟩) rfl 58 (.tmp 19) (.tmp 121) rfl wg.heap.size (prC K1 I1 N1 (.slice b1 l1 c1)) (prC 0 0 0 (.slice none 0 0)) rfl rfl _ (made_at _ _ rfl) (by kernel_rfl) rfl (by simp [prC, Value.oneCell']) ?_; intro W1 HW1 TW1;
                 (have BB1 : Hid (Below wg.heap.size wg W1 ∧ Has W1 wg.heap.size 58 (prC K1 I1 N1 (.slice b1 l1 c1))) := Lib.hid ⟨((Below.refl _ _).alloc (Nat.le_refl _) _).trans (TW1.below (by simp) (fun j hj e => by omega)), HW1⟩);
                 clear HW1 TW1)
              | fail)
            have QF := Lib.hid (show _ ∧ _ ∧ _ ∧ _ from ⟨QE.out.1.below BB1.out.1, QE.out.2.1.below BB1.out.1, QE.out.2.2.below BB1.out.1, BB1.out.2⟩)
            clear QE BB1
            obtain ⟨g1, hg1⟩ : ∃ g1, g1 = wg.heap.size := ⟨_, rfl⟩
            rw [← hg1] at QF ⊢
            clear hg1
            refine (HLB.out _ QF.out.1 i hik).mono ?_
            rintro en wh ⟨K2, I2, N2, b2, l2, c2, e2, rfl, bh, pe2, te2⟩
            have QG := Lib.hid (show _ ∧ _ ∧ _ ∧ _ ∧ _ ∧ _ from ⟨QF.out.1.below bh, QF.out.2.1.below bh, QF.out.2.2.1.below bh, QF.out.2.2.2.below bh QF.out.2.2.2.lt, pe2, te2⟩)
            clear bh pe2 te2 QF
            go_wp2_with (first
              | ((with_reducible refine at_store (.tmp 21) ?_); refine wpList_store_cells (o := ⟨none, _, _, _, _, _⟩) rfl 58 (.tmp 21) (.tmp 129) rfl wh.heap.size (prC K2 I2 N2 (.slice b2 l2 c2)) (prC 0 0 0 (.slice none 0 0)) rfl rfl _ (made_at _ _ rfl) (by kernel_rfl) rfl (by simp [prC, Value.oneCell']) ?_; intro W2 HW2 TW2;
                 (have BB2 : Hid (Below wh.heap.size wh W2 ∧ Has W2 wh.heap.size 58 (prC K2 I2 N2 (.slice b2 l2 c2))) := Lib.hid ⟨((Below.refl _ _).alloc (Nat.le_refl _) _).trans (TW2.below (by simp) (fun j hj e => by omega)), HW2⟩);
                 clear HW2 TW2)
              | fail)
            obtain ⟨g2, hg2⟩ : ∃ g2, g2 = wh.heap.size := ⟨_, rfl⟩
            have QH : Hid (Ps w2.heap.size w vb vc L m g1 g2 (prC K1 I1 N1 (.slice b1 l1 c1)) (prC K2 I2 N2 (.slice b2 l2 c2)) e1 e2 (lfP m i) (lfT L m i k) W2) := by
              obtain ⟨h1, h2, h3, h4, h5, h6⟩ := QG.out
              have bb := BB2.out.1
              exact Lib.hid ⟨h1.below bb, h4.below bb h4.lt, by rw [hg2]; exact BB2.out.2, h2.below bb, h5.below bb, h3.below bb, h6.below bb⟩
            rw [← hg2]
            clear hg2 QG BB2
            refine wp_region_S (S := Ps w2.heap.size w vb vc L m g1 g2 (prC K1 I1 N1 (.slice b1 l1 c1)) (prC K2 I2 N2 (.slice b2 l2 c2)) e1 e2 (lfP m i) (lfT L m i k)) (by kernel_rfl) (QH.out.below (Below.refl _ _).drew) ?_
            refine AnyS.pure 0 (some 131) rfl rfl (by kernel_rfl) (by kernel_rfl) (by kernel_rfl) (fun _ _ _ h => h) (by kernel_rfl) (fun _ _ => rfl) ?_
            refine AnyS.call 1 (some 132) (.string (lfP m i)) rfl rfl (by kernel_rfl) (by kernel_rfl) (by kernel_rfl) (fun _ _ _ h => h) (by kernel_rfl) 28 Tryd.f28 Tryd.func28 (by kernel_rfl) (by kernel_rfl) _ _ rfl #[e1] (by first | (simp [Act.eval]; done) | (simp [Act.eval, Act.put]; done)) (fun V hV => (hV.e1 V (Below.refl _ _)).mono fun _ _ h => ⟨h.1, hV.below h.2⟩) ?_
            simp only [Act.put, List.setIfInBounds_toArray, List.set_cons_zero, List.set_cons_succ]
            refine AnyS.pure 2 (some 133) rfl rfl (by kernel_rfl) (by kernel_rfl) (by kernel_rfl) (fun _ _ _ h => h) (by kernel_rfl) (fun _ _ => rfl) ?_
            refine AnyS.call 3 (some 134) (.string (lfP m i)) rfl rfl (by kernel_rfl) (by kernel_rfl) (by kernel_rfl) (fun _ _ _ h => h) (by kernel_rfl) 28 Tryd.f28 Tryd.func28 (by kernel_rfl) (by kernel_rfl) _ _ rfl #[e2] (by first | (simp [Act.eval]; done) | (simp [Act.eval, Act.put]; done)) (fun V hV => (hV.e2 V (Below.refl _ _)).mono fun _ _ h => ⟨h.1, hV.below h.2⟩) ?_
            simp only [Act.put, List.setIfInBounds_toArray, List.set_cons_zero, List.set_cons_succ]
            refine AnyS.pure 4 (some 135) (v := .bool false) rfl rfl (by kernel_rfl) (by kernel_rfl) (by kernel_rfl) (fun _ _ _ h => h) (by kernel_rfl) (fun V hV => by have hss : ((lfP m i).toList == (lfP m i).toList) = true := (by simp); go_simp) ?_
            refine AnyS.pure 5 (some 136) rfl rfl (by kernel_rfl) (by kernel_rfl) (by kernel_rfl) (fun _ _ _ h => h) (by kernel_rfl) (fun _ _ => rfl) ?_
            simp only [Act.put, List.setIfInBounds_toArray, List.set_cons_zero, List.set_cons_succ]
            refine AnyS.pure 6 (some 137) (v := .agg (prC K1 I1 N1 (.slice b1 l1 c1))) rfl rfl (by kernel_rfl) (by kernel_rfl) (by kernel_rfl) (fun _ _ _ h => h) (by kernel_rfl) (fun V hV => exec_load 58 (.tmp 19) rfl (.pointer (some ⟨g1, 0, none⟩)) (by kernel_rfl) (run_loadAt_mid V g1 0 58 [.int .i64 K1, .int .i64 I1, .int .i64 N1, .slice b1 l1 c1] _ (Has.range hV.p1) Tryd.underlying58 rfl (by kernel_rfl))) ?_
            refine AnyS.call 7 (some 138) (.string (lfT L m i k)) rfl rfl (by kernel_rfl) (by kernel_rfl) (by kernel_rfl) (fun _ _ _ h => h) (by kernel_rfl) 30 Tryd.f30 Tryd.func30 (by kernel_rfl) (by kernel_rfl) _ _ rfl #[.agg (prC K1 I1 N1 (.slice b1 l1 c1))] (by first | (simp [Act.eval]; done) | (simp [Act.eval, Act.put]; done)) (fun V hV => (hV.t1 V (Below.refl _ _)).mono fun _ _ h => ⟨h.1, hV.below h.2⟩) ?_
            simp only [Act.put, List.setIfInBounds_toArray, List.set_cons_zero, List.set_cons_succ]
            refine AnyS.pure 8 (some 139) (v := .agg (prC K2 I2 N2 (.slice b2 l2 c2))) rfl rfl (by kernel_rfl) (by kernel_rfl) (by kernel_rfl) (fun _ _ _ h => h) (by kernel_rfl) (fun V hV => exec_load 58 (.tmp 21) rfl (.pointer (some ⟨g2, 0, none⟩)) (by kernel_rfl) (run_loadAt_mid V g2 0 58 [.int .i64 K2, .int .i64 I2, .int .i64 N2, .slice b2 l2 c2] _ (Has.range hV.p2) Tryd.underlying58 rfl (by kernel_rfl))) ?_
            refine AnyS.call 9 (some 140) (.string (lfT L m i k)) rfl rfl (by kernel_rfl) (by kernel_rfl) (by kernel_rfl) (fun _ _ _ h => h) (by kernel_rfl) 30 Tryd.f30 Tryd.func30 (by kernel_rfl) (by kernel_rfl) _ _ rfl #[.agg (prC K2 I2 N2 (.slice b2 l2 c2))] (by first | (simp [Act.eval]; done) | (simp [Act.eval, Act.put]; done)) (fun V hV => (hV.t2 V (Below.refl _ _)).mono fun _ _ h => ⟨h.1, hV.below h.2⟩) ?_
            simp only [Act.put, List.setIfInBounds_toArray, List.set_cons_zero, List.set_cons_succ]
            refine AnyS.pure 10 (some 141) (v := .bool false) rfl rfl (by kernel_rfl) (by kernel_rfl) (by kernel_rfl) (fun _ _ _ h => h) (by kernel_rfl) (fun V hV => by have hss : ((lfT L m i k).toList == (lfT L m i k).toList) = true := (by simp); go_simp) ?_
            refine AnyS.pure 11 (some 142) (v := .bool false) rfl rfl (by kernel_rfl) (by kernel_rfl) (by kernel_rfl) (fun _ _ _ h => h) (by kernel_rfl) (fun V hV => by go_simp) ?_
            simp only [Act.put, List.setIfInBounds_toArray, List.set_cons_zero, List.set_cons_succ]
            refine AnyS.done (by kernel_rfl) (fun V hV => ?_) _
            have HS2 := Lib.hid hV.pa
            clear hV QH
            go_wp2_with fail
            have hcs : Value.int .i64 ((i : Int) + 1) = .int .i64 ((i + 1 : Nat) : Int) := by rw [Int.natCast_add]; rfl
            refine ⟨⟨i + 1, hcs, by omega, HS2⟩, ?_⟩
            show k - ((i : Int) + 1).toNat < k - ((i : Int)).toNat
            omega
          · obtain rfl : i = k := by omega
            clear HAA HAB HLA HLB
            have HKA : Hid (Calls Tryd.prog 24 #[.pointer (some ⟨vb, 0, none⟩), .int .i64 ((i : Int) + 1)] wr (OneErr wr floorB ((i : Int) + 1) 4)) := Lib.hid (by
              obtain ⟨F, G, h1, _⟩ := HS.out.ex
              exact h1.keep_arg _ (.inr (by rw [R6.out.2]; omega)) (by omega))
            go_wp2_with fail
            refine HKA.out.mono ?_
            rintro en wc ⟨ec, rfl, hec, her, bc⟩
            have HB2 := HS.out.below bc
            have hpth := path_one (HPK.out.below HB2.bel) her (by decide) (by decide) (by decide)
            rw [path_floor_arg] at hpth
            have HPT := Lib.hid hpth
            have HB3 := Lib.hid HB2
            clear hpth hec her bc HKA HS HB2
            go_wp2_with fail
            refine HPT.out.mono ?_
            rintro en wd ⟨rfl, bd⟩
            go_wp2_with fail
            go_ret
            exact ⟨rfl, (HB3.out.below bd).bel⟩
theorem own : ownKnob Tryd.prog.godebug = none := by kernel_rfl
theorem laidOut : laidOutB Tryd.prog = true := by kernel_rfl

set_option maxRecDepth 100000 in
theorem lifted (os : Os) (started : os.Started) (H : Type) (enc : TypeId × Value → H) :
    ReturnsInHanded {} Tryd.checked os 5 .any (fun w args => (Rows.pruneStepsSpec.pre enc Tryd.prog Tryd.f5 [] false w args ∧ laidMetH Tryd.prog Rows.pruneStepsRow.laid w) ∧ sizedMet enc Tryd.prog Tryd.f5 (OpenSpec.ofChange Rows.pruneStepsSpec) false w args)
      (Rows.pruneStepsSpec.post enc Tryd.prog Tryd.f5 false true false false) := by
  refine returnsInHanded_of_change_and (C := Tryd.checked) (X := fun w _ => laidMetH Tryd.prog Rows.pruneStepsRow.laid w) (fun _ _ _ hh h => h.of_heap hh) own started (by kernel_rfl) Tryd.func5
    (ChangeSpec.witness_shaped (enc := enc) (C := Tryd.checked) (os := os) (X := fun w _ => laidMetH Tryd.prog Rows.pruneStepsRow.laid w) false (World.doorLaid Tryd.prog 31 os) #[.slice none 0 0, .int .i64 0, .slice none 0 0] 8 rfl (door_shaped os _) (by kernel_rfl) (by kernel_rfl) (by kernel_rfl) (door_met os _)) ?_
  intro W base args ds gs before hval0 hW _ _ hL _
  have hval : ∀ (j : Nat) t v, Tryd.f5.params[j]? = some t → args[j]? = some v → Value.okWide Tryd.prog W .any base t v := hval0
  have hW' := hW
  obtain ⟨p, q, hA0, hV, rfl, _, _⟩ := hW
  have hA : DataW.TrodAll enc Tryd.prog W 0 (fun _ => true) true Tryd.f5.params.toList args.toList ds p := hA0
  rw [Tryd.params5] at hA hval
  obtain ⟨v0, vs0, d0, ds0, p0, q0, hargs, rfl, rfl, h0, r0⟩ := trodAll_cons hA
  obtain ⟨v1, vs1, d1, ds1, p1, q1, rfl, rfl, rfl, h1, r1⟩ := trodAll_cons r0
  obtain ⟨v2, vs2, d2, ds2, p2, q2, rfl, rfl, rfl, h2, r2⟩ := trodAll_cons r1
  obtain ⟨rfl, rfl, rfl⟩ := trodAll_nil r2
  obtain rfl : args = #[v0, v1, v2] := by cases args; simp_all
  obtain ⟨rfl, rfl⟩ := trodVars_none hV
  obtain ⟨a0, len0, cap0, rfl⟩ := okWide_slice Tryd.underlying22 (hval 0 22 v0 rfl rfl)
  have k0 := h0
  have lt0 : ∀ x ∈ p0, x.block < W.heap.size := by obtain ⟨m, hm⟩ := k0; exact DataW.trod_lt m _ _ _ hm
  have w0 : Arg0 W a0 len0 cap0 := opened0 h0
  obtain ⟨a1, rfl, rfl, rfl, w1⟩ := open_int Tryd.underlying3 (hval 1 3 v1 rfl rfl) h1
  obtain ⟨a2, len2, cap2, rfl⟩ := okWide_slice Tryd.underlying23 (hval 2 23 v2 rfl rfl)
  have k2 := h2
  have lt2 : ∀ x ∈ p2, x.block < W.heap.size := by obtain ⟨m, hm⟩ := k2; exact DataW.trod_lt m _ _ _ hm
  have w2 : Arg2 W a2 len2 cap2 := opened2 h2
  clear hA0 hval0
  refine (walk a0 len0 cap0 a1 a2 len2 cap2 W w0 w1 w2 (pw_of_laid hL)).mono fun e W' ⟨he, bel⟩ => ?_
  subst he
  exact ⟨_, rfl, _, _, _, [], _, [], hW', trodAll_mk1 (shut_bool Tryd.underlying4 _), (trodAll_cons_mk (Below.trod laidOut (by kernel_rfl) (of_decide_eq_true (by kernel_rfl)) k0 bel lt0) (trodAll_cons_mk (shut_int Tryd.underlying3 w1) (trodAll_cons_mk (Below.trod laidOut (by kernel_rfl) (of_decide_eq_true (by kernel_rfl)) k2 bel lt2) trodAll_mk0))), rfl, bel.frame _, fun h => by cases h⟩

theorem over : Rows.pruneStepsRow.holds Tryd.pinned (OpenSpec.ofChange Rows.pruneStepsSpec) :=
  OpenClaim.holds_of_wide 5 Tryd.f5 rfl rfl rfl rfl rfl rfl rfl ⟨rfl, rfl, rfl, rfl, rfl⟩ rfl rfl rfl rfl rfl (by kernel_rfl) Tryd.func5 (by kernel_rfl)
    (of_decide_eq_true (by kernel_rfl)) (by unfold Func.isWrapper; first | (rw [if_pos (by decide +kernel)]; kernel_rfl) | (rw [if_neg (by decide +kernel)]; exact ⟨rfl, rfl⟩))
    (fun os started H enc _ => lifted os started H enc)

theorem plain (f : FuncId) (fn : Func) (hf : Tryd.pinned.checked.prog.funcNamed "hindsight/hindsightlaw12.PruneSteps" = some f) (hfn : Tryd.pinned.checked.prog.funcs[f]? = some fn) :
    (true : Bool) = Tryd.pinned.checked.prog.looks [] ∧ ∀ (j : Nat) t, fn.params[j]? = some t → Tryd.pinned.checked.prog.wantsStandIn t = false := by
  obtain rfl : f = 5 := Option.some.inj ((show Tryd.prog.funcNamed "hindsight/hindsightlaw12.PruneSteps" = some 5 by kernel_rfl).symm.trans hf) |>.symm
  obtain rfl : fn = Tryd.f5 := (Option.some.inj (Tryd.func5.symm.trans hfn)).symm
  refine ⟨by kernel_rfl, fun j t ht => ?_⟩
  rw [Tryd.params5] at ht
  have hm := Array.mem_of_getElem? ht
  simp only [List.mem_toArray, List.mem_cons, List.not_mem_nil, or_false] at hm
  rcases hm with rfl | rfl | rfl
  · exact (show Tryd.prog.wantsStandIn 22 = false by kernel_rfl)
  · exact (show Tryd.prog.wantsStandIn 3 = false by kernel_rfl)
  · exact (show Tryd.prog.wantsStandIn 23 = false by kernel_rfl)

theorem card : Rows.PruneStepsCardSaid :=
  Claim7.holds_tied_plain_at .later [] _ _ _ _ over (fun _ h => by cases h) (by kernel_rfl) (fun _ h => by cases h) pruneSteps_row_tie rfl ⟨rfl, rfl⟩ (by kernel_rfl) rfl plain (by kernel_rfl)

theorem proved : Rows.PruneStepsCardSaid := card
end Go.Proofs.YtiobdhkadbipkaaDoor.pruneSteps
