/- TreeParts: for every list of texts, every number and every list of cuts the law answers true, and its arguments read afterwards as they did. Conditions: the row lists three package-level variables (digest's table of rounds, and both tables of math/bits), which the card ties to the program's text. -/
import Derived.Test.YtnbhjffmaememaaDoorTreeP
import Derived.Test.YtnbhjffmaememaaDoorLvs
import Derived.Test.YtnbhjffmaememaaDoorInts
import Derived.Test.YtnbhjffmaememaaDoorTreeQ
import Derived.Test.YtnbhjffmaememaaDoorCards
import Derived.Test.YtnbhjffmaememaaDoorTie
import Derived.ProofKit
import Derived.OpenShut
import Derived.SevenTiedAt
namespace Go.Proofs.YtnbhjffmaememaaDoor.treeParts
open Go.ChangeShapes Go.WideShapes Go.ChangeAt Go.RowKit Go.Proofs.YtnbhjffmaememaaDoor.dig Go.Proofs.YtnbhjffmaememaaDoor.tree

def Arg0 (w : World) (a : Option Addr) (len cap : Nat) : Prop := ∃ T, ArgS w a len cap T
theorem opened0 {H : Type} {enc : TypeId × Value → H} {w : World} {spare : Nat → Bool} {held : Bool} {a : Option Addr} {len cap : Nat} {d : DataW H} {p : List MemPlace} (h : DataW.Trod enc Tryd.prog w 0 spare held 22 (.slice a len cap) d p) : Arg0 w a len cap := openedStrs h
def Arg2 (w : World) (a : Option Addr) (len cap : Nat) : Prop := ∃ T, ArgI w a len cap T
theorem opened2 {H : Type} {enc : TypeId × Value → H} {w : World} {spare : Nat → Bool} {held : Bool} {a : Option Addr} {len cap : Nat} {d : DataW H} {p : List MemPlace} (h : DataW.Trod enc Tryd.prog w 0 spare held 35 (.slice a len cap) d p) : Arg2 w a len cap := openedI h

set_option maxRecDepth 100000 in
set_option maxHeartbeats 2000000 in
theorem walk (a : Option Addr) (len cap : Nat) (n : Int) (ai : Option Addr) (leni capi : Nat) (w : World) (hA : Arg0 w a len cap) (hn : (Lit.int .i64 n).wf = true) (hI : Arg2 w ai leni capi) (hR : Rt w.heap.size w) :
    Calls Tryd.prog 6 #[.slice a len cap, .int .i64 n, .slice ai leni capi] w fun en w' => en = .returned (.bool true) ∧ Below w.heap.size w w' := by
  obtain ⟨T, hT⟩ := hA
  obtain ⟨U, hU⟩ := hI
  have hn2 := wf_i64 hn
  have HT := Lib.hid hT
  have HU := Lib.hid hU
  have HR := Lib.hid hR
  have hli : (leni : Int) ≤ 9223372036854775807 := by have := hU.1; have := hU.2.1; unfold maxLen at this; omega
  clear hT hU hR
  go_enter Tryd.func6, Tryd.ntmps6
  go_wp2_with fail
  refine (tawake_calls _ w HR.out).mono ?_
  rintro en w1 ⟨rfl, b1⟩
  have R1 : Hid (Rt w.heap.size w1 ∧ Below w.heap.size w w1 ∧ ArgS w1 a len cap T) := Lib.hid ⟨HR.out.below b1 (Nat.le_refl _), b1, HT.out.1, HT.out.2.1, fun k hk => by
    obtain ⟨gb, go, h1, h2, h3, h4⟩ := HT.out.2.2 k hk
    exact ⟨gb, go, h1, Nat.lt_of_lt_of_le h2 b1.size, by rw [← h3]; unfold World.cell?; rw [b1.block gb h2], h4⟩⟩
  clear b1 HR HT
  go_wp2_with fail
  refine (leaves_calls a len cap T n w1 R1.out.2.2 hn2.1 hn2.2).mono ?_
  rintro en w2 ⟨v, L, rfl, hs2, hlen, lo2, b2, hne⟩
  obtain ⟨a0, c0, rfl, hc1, hc2⟩ := hs2.1.slice
  obtain ⟨g, off, rfl⟩ : ∃ g off, a0 = some ⟨g, off, none⟩ := by
    rcases hs2.1.2 with ⟨h, _⟩ | ⟨g, off, cp, cur, h, _⟩
    · exact absurd h hne
    · simp only [Value.slice.injEq] at h; exact ⟨g, off, h.1⟩
  have hc3 : (c0 : Int) ≤ 9223372036854775807 := by unfold maxLen at hc2; omega
  have hl40 : L.length ≤ 40 := by omega
  have R2 : Hid (Rt w.heap.size w2 ∧ Below w.heap.size w w2 ∧ Strs w2 (.slice (some ⟨g, off, none⟩) L.length c0) L) := Lib.hid ⟨R1.out.1.below b2 R1.out.2.1.size, R1.out.2.1.trans (b2.mono R1.out.2.1.size), hs2⟩
  have hcl : (L.length : Int) ≤ (c0 : Int) := by omega
  clear hs2 lo2 b2 R1 hlen hc2 hc1 hne
  obtain ⟨N, hN⟩ : ∃ N, N = L.length := ⟨_, rfl⟩
  have HN := Lib.hid hN
  rw [← hN] at hl40 hcl ⊢
  clear hN
  go_wp2_with fail
  refine (tnew_calls _ (leafF L) w2 R2.out.1 (leafF_len L)).mono ?_
  rintro en w3 ⟨ta, rfl, hb, t3, b3⟩
  have R3 : Hid (Rt w.heap.size w3 ∧ Tr w.heap.size (fun k => k = ta) w3 ta 0 0 (leafF L) ∧ Below w.heap.size w w3 ∧ Strs w3 (.slice (some ⟨g, off, none⟩) L.length c0) L ∧ w2.heap.size ≤ ta ∧ g < w2.heap.size) :=
    Lib.hid ⟨t3.rt, t3, R2.out.2.1.trans (b3.mono R2.out.2.1.size), ⟨R2.out.2.2.1.below b3 (fun x hx => R2.out.2.2.1.lt hx), R2.out.2.2.2⟩, hb, R2.out.2.2.1.lt rfl⟩
  clear t3 b3 hb R2
  go_wp2_with fail
  refine (tnew_calls _ (leafF L) w3 R3.out.1 (leafF_len L)).mono ?_
  rintro en w4 ⟨tb, rfl, hb, t4, b4⟩
  have R4 : Hid (Pr w tb ta (.slice (some ⟨g, off, none⟩) L.length c0) L 0 0 w4) := by
    have k1 := R3.out.2.1.lt
    have k2 := t4.lt
    have k3 := R3.out.2.2.2.2.1
    have k4 := R3.out.2.2.2.2.2
    exact Lib.hid ⟨⟨fun k => k = tb, fun k => k = ta, t4, R3.out.2.1.below b4, fun x hx => ⟨by omega, by omega⟩, fun x hx => by omega, fun x hx => by
      have e : g = x := by simpa [Value.ownBlock] using hx
      omega⟩, ⟨R3.out.2.2.2.1.1.below b4 (fun x hx => R3.out.2.2.2.1.1.lt hx), R3.out.2.2.2.1.2⟩, R3.out.2.2.1.trans (b4.mono R3.out.2.2.1.size)⟩
  clear t4 b4 hb R3
  have hap := R4.out.append_b off N c0 (by have := HN.out; omega) (by have := HN.out; omega) (.inl ⟨rfl, rfl⟩)
  rw [Nat.zero_add] at hap
  have HAP := Lib.hid hap
  clear hap
  go_wp2_with fail
  refine HAP.out.mono ?_
  rintro en w5 ⟨rfl, t5⟩
  have R5 : Hid (Pr w ta tb (.slice (some ⟨g, off, none⟩) L.length c0) L N 0 w5) := Lib.hid t5.swap
  clear t5 HAP R4
  go_wp2_with fail
  go_loopw [10, 11] (fun x i wr => ∃ k at_ : Nat, x = .int .i64 at_ ∧ i = .int .i64 k ∧ k ≤ 20 ∧ at_ ≤ N ∧ Hid (Pr w ta tb (.slice (some ⟨g, off, none⟩) L.length c0) L N at_ wr)) (fun _ i _ => 20 - (intOf i).toNat)
  case atStart => exact ⟨0, 0, rfl, rfl, by omega, by omega, R5⟩
  case round =>
    obtain ⟨k, t, rfl, rfl, hk, ht, HS⟩ := hrel
    clear R5
    have hk0 : (0 : Int) ≤ (k : Int) := by omega
    have hk20 : (k : Int) ≤ 20 := by omega
    have ht0 : (0 : Int) ≤ (t : Int) := by omega
    have ht1 : (t : Int) ≤ (N : Int) := by omega
    have htN : (N : Int) ≤ 40 := by omega
    by_cases hc : k < leni ∧ k < 20
    · obtain ⟨hc1, hc2⟩ := hc
      have hj1 : (k : Int) < (leni : Int) := by omega
      have hj2 : (k : Int) < 20 := by omega
      obtain ⟨gb, go, rfl, hb, hcell, hlo, hhi⟩ := HU.out.2.2 k hc1
      have c1 : wr.cell? ⟨gb, go + k, none⟩ = some (.int .i64 (U k)) := by
        rw [← hcell]; unfold World.cell?; rw [HS.out.bel.block gb hb]
      obtain ⟨y, hy⟩ : ∃ y : Int, bits .and .i64 (U k) 7 = y := ⟨_, rfl⟩
      have hy2 : 0 ≤ y ∧ y ≤ 7 := by have h := hy; rw [and7] at h; omega
      obtain ⟨hy0, hy1⟩ := hy2
      obtain ⟨t2, ht2⟩ : ∃ t2 : Nat, min ((t : Int) + y) (N : Int) = (t2 : Int) := ⟨(min ((t : Int) + y) (N : Int)).toNat, by omega⟩
      have ht3 : (t2 : Int) ≤ (N : Int) := by omega
      have ht4 : (t : Int) ≤ (t2 : Int) := by omega
      clear hcell hlo hhi
      by_cases hct : t = c0
      case' pos =>
        have hct2 := hct.symm
        subst hct2
        have hap := HS.out.append_b off (t2 - c0) 0 (by have := HN.out; omega) (by have := HN.out; omega) (.inr ⟨rfl, rfl, rfl⟩)
        rw [show c0 + (t2 - c0) = t2 by omega] at hap
        have HAP := Lib.hid hap
        clear hap HS hct
        go_wp2_with fail
      case' neg =>
        have hct2 : ¬ c0 = t := fun e => hct e.symm
        have hap := HS.out.append_b (off + t) (t2 - t) (c0 - t) (by have := HN.out; omega) (by have := HN.out; omega) (.inl ⟨rfl, rfl⟩)
        rw [show t + (t2 - t) = t2 by omega] at hap
        have HAP := Lib.hid hap
        clear hap HS
        go_wp2_with fail
      all_goals
        refine HAP.out.mono ?_
        rintro en w6 ⟨rfl, t6⟩
        have R6 := Lib.hid t6
        clear t6 HAP
        go_wp2_with fail
        have hms : 20 - ((k : Int) + 1).toNat < 20 - ((k : Int)).toNat := by omega
        first
          | exact ⟨⟨k + 1, t2, rfl, by rw [Int.natCast_add]; rfl, by omega, by omega, R6⟩, hms⟩
          | (refine ⟨?_, hms⟩
             repeat apply Exists.intro
             exact ⟨⟨k + 1, t2, rfl, by rw [Int.natCast_add]; rfl, by omega, by omega, R6⟩, rfl⟩)
    · have hx : (leni ≤ k) ∨ (k < leni ∧ 20 ≤ k) := by omega
      clear hc
      rcases hx with h1 | ⟨h1, h2⟩
      all_goals
        by_cases hct : t = c0
        case' pos =>
          have hct2 := hct.symm
          subst hct2
          have hap := HS.out.append_b off (N - c0) 0 (by have := HN.out; omega) (by have := HN.out; omega) (.inr ⟨rfl, rfl, rfl⟩)
          rw [show c0 + (N - c0) = N by omega] at hap
          have HAP := Lib.hid hap
          clear hap HS hct
          go_wp2_with fail
        case' neg =>
          have hct2 : ¬ c0 = t := fun e => hct e.symm
          have hap := HS.out.append_b (off + t) (N - t) (c0 - t) (by have := HN.out; omega) (by have := HN.out; omega) (.inl ⟨rfl, rfl⟩)
          rw [show t + (N - t) = N by omega] at hap
          have HAP := Lib.hid hap
          clear hap HS
          go_wp2_with fail
        all_goals
          refine HAP.out.mono ?_
          rintro en w6 ⟨rfl, t6⟩
          have R6 : Hid (Pr w ta tb (.slice (some ⟨g, off, none⟩) L.length c0) L N N w6) := Lib.hid t6
          clear t6 HAP HU
          obtain ⟨R, hRR⟩ : ∃ R, R = rtAll (leafF L) N := ⟨_, rfl⟩
          have HRR := Lib.hid hRR
          have HRL : Hid (R.length = 32) := Lib.hid (by rw [hRR]; exact rtAll_len (leafF_len L) N)
          have HRC : Hid ((cellsOf R).size = 32) := Lib.hid (by rw [cellsOf_size, HRL.out])
          have HA : Hid (∀ V, Pr w ta tb (.slice (some ⟨g, off, none⟩) L.length c0) L N N V → Calls Tryd.prog 29 #[.pointer (some ⟨ta, 0, none⟩), .int .i64 N] V fun en w' => en = .returned (.tuple #[.agg (cellsOf R), .int .i64 0]) ∧ Below V.heap.size V w') := Lib.hid fun V hV => by
            obtain ⟨F, tr⟩ := hV.a_tr
            rw [HRR.out]
            exact tr.root (by omega) N (Nat.le_refl _) (Nat.zero_le _)
          have HB : Hid (∀ V, Pr w ta tb (.slice (some ⟨g, off, none⟩) L.length c0) L N N V → Calls Tryd.prog 29 #[.pointer (some ⟨tb, 0, none⟩), .int .i64 N] V fun en w' => en = .returned (.tuple #[.agg (cellsOf R), .int .i64 0]) ∧ Below V.heap.size V w') := Lib.hid fun V hV => by
            obtain ⟨F, tr⟩ := hV.b_tr
            rw [HRR.out]
            exact tr.root (by omega) N (Nat.le_refl _) (Nat.zero_le _)
          clear hRR
          go_wp2_with fail
          refine (HA.out w6 R6.out).mono ?_
          rintro en w7 ⟨rfl, b7⟩
          have R7 := Lib.hid (R6.out.more b7)
          clear b7 R6 HA
          go_wp2_with (first
            | ((with_reducible refine at_store (.tmp 13) ?_); refine wpList_store_cells (o := ⟨none, _, _, _, _, _⟩) rfl 29 (.tmp 13) (.tmp 64) rfl w7.heap.size (cellsOf R) _ rfl rfl _ (made_at _ _ rfl) (HRC.out.symm ▸ (by kernel_rfl)) (HRC.out.symm ▸ rfl) (cellsOf_one _) ?_; intro W8 HW8 TW8;
               (have R8 : Hid (Pr w ta tb (.slice (some ⟨g, off, none⟩) L.length c0) L N N W8 ∧ Has W8 w7.heap.size 29 (cellsOf R)) := (by
                 have bb : Below w7.heap.size w7 W8 := ((Below.refl _ _).alloc (Nat.le_refl _) _).trans (TW8.below (by simp) (fun j hj e => by omega))
                 exact Lib.hid ⟨R7.out.more bb, HW8⟩));
               clear R7 HW8 TW8)
            | fail)
          obtain ⟨g1, hg1⟩ : ∃ g1, g1 = w7.heap.size := ⟨_, rfl⟩
          rw [← hg1] at R8 ⊢
          clear hg1
          refine (HB.out W8 R8.out.1).mono ?_
          rintro en w8 ⟨rfl, b8⟩
          have R9 := Lib.hid (And.intro (R8.out.1.more b8) (R8.out.2.below b8 R8.out.2.lt))
          clear b8 R8 HB
          go_wp2_with (first
            | ((with_reducible refine at_store (.tmp 15) ?_); refine wpList_store_cells (o := ⟨none, _, _, _, _, _⟩) rfl 29 (.tmp 15) (.tmp 71) rfl w8.heap.size (cellsOf R) _ rfl rfl _ (made_at _ _ rfl) (HRC.out.symm ▸ (by kernel_rfl)) (HRC.out.symm ▸ rfl) (cellsOf_one _) ?_; intro W9 HW9 TW9;
               (have RA : Hid (Pr w ta tb (.slice (some ⟨g, off, none⟩) L.length c0) L N N W9 ∧ Has W9 g1 29 (cellsOf R) ∧ Has W9 w8.heap.size 29 (cellsOf R)) := (by
                 have bb : Below w8.heap.size w8 W9 := ((Below.refl _ _).alloc (Nat.le_refl _) _).trans (TW9.below (by simp) (fun j hj e => by omega))
                 exact Lib.hid ⟨R9.out.1.more bb, R9.out.2.below bb R9.out.2.lt, HW9⟩));
               clear R9 HW9 TW9;
               (have hl1 : (Instr.loadAt 29 (.pointer (some ⟨g1, 0, none⟩))).run Tryd.prog W9 = .ok (.agg (cellsOf R)) W9 := run_loadAt_mid W9 g1 0 29 (R.map byteV) _ (Has.range RA.out.2.1) Tryd.underlying29 rfl (by rw [List.length_map, HRL.out]; kernel_rfl));
               (have hl2 : (Instr.loadAt 29 (.pointer (some ⟨w8.heap.size, 0, none⟩))).run Tryd.prog W9 = .ok (.agg (cellsOf R)) W9 := run_loadAt_mid W9 w8.heap.size 0 29 (R.map byteV) _ (Has.range RA.out.2.2) Tryd.underlying29 rfl (by rw [List.length_map, HRL.out]; kernel_rfl));
               (have he := run_eql_same R HRL.out))
            | ((with_reducible refine at_opg 80 ?_); refine wpList_load_if (o := ⟨some 80, _, _, _, _, _⟩) (by kernel_rfl) 29 (.tmp 13) rfl (.pointer (some ⟨g1, 0, none⟩)) rfl hl1 ?_)
            | ((with_reducible refine at_opg 81 ?_); refine wpList_load_if (o := ⟨some 81, _, _, _, _, _⟩) (by kernel_rfl) 29 (.tmp 15) rfl (.pointer (some ⟨w8.heap.size, 0, none⟩)) rfl hl2 ?_; clear hl1 hl2)
            | fail)
          obtain ⟨kp, hkp⟩ : ∃ kp, kp = keptN N 0 (tops N) := ⟨_, rfl⟩
          have HKP := Lib.hid hkp
          have RB := Lib.hid RA.out.1
          clear RA hkp he HRR HRL HRC
          have HK1 : Hid (Calls Tryd.prog 33 #[.pointer (some ⟨ta, 0, none⟩)] W9 fun en w' => en = .returned (.int .i64 kp) ∧ Below W9.heap.size W9 w') := Lib.hid (by
            obtain ⟨F, tr⟩ := RB.out.a_tr
            rw [HKP.out]
            exact tr.kept_calls)
          refine HK1.out.mono ?_
          rintro en wa ⟨rfl, ba⟩
          have RC := Lib.hid (RB.out.more ba)
          clear ba RB HK1
          go_wp2_with fail
          have HK2 : Hid (Calls Tryd.prog 33 #[.pointer (some ⟨tb, 0, none⟩)] wa fun en w' => en = .returned (.int .i64 kp) ∧ Below wa.heap.size wa w') := Lib.hid (by
            obtain ⟨F, tr⟩ := RC.out.b_tr
            rw [HKP.out]
            exact tr.kept_calls)
          refine HK2.out.mono ?_
          rintro en wb ⟨rfl, bb⟩
          have RD := Lib.hid (RC.out.more bb)
          clear bb RC HK2 HKP
          go_wp2_with fail
          have HN1 : Hid (Calls Tryd.prog 32 #[.pointer (some ⟨ta, 0, none⟩)] wb fun en w' => en = .returned (.int .i64 N) ∧ wb = w') := Lib.hid (by
            obtain ⟨F, tr⟩ := RD.out.a_tr
            exact tr.len_calls)
          refine HN1.out.mono ?_
          rintro en w' ⟨rfl, rfl⟩
          go_wp2_with fail
          have HN2 : Hid (Calls Tryd.prog 32 #[.pointer (some ⟨tb, 0, none⟩)] wb fun en w' => en = .returned (.int .i64 N) ∧ wb = w') := Lib.hid (by
            obtain ⟨F, tr⟩ := RD.out.b_tr
            exact tr.len_calls)
          refine HN2.out.mono ?_
          rintro en w' ⟨rfl, rfl⟩
          go_wp2_with fail
          go_ret
          exact ⟨rfl, RD.out.bel⟩
theorem own : ownKnob Tryd.prog.godebug = none := by kernel_rfl
theorem laidOut : laidOutB Tryd.prog = true := by kernel_rfl

set_option maxRecDepth 100000 in
theorem lifted (os : Os) (started : os.Started) (H : Type) (enc : TypeId × Value → H) :
    ReturnsInHanded {} Tryd.checked os 6 .any (fun w args => (Rows.treePartsSpec.pre enc Tryd.prog Tryd.f6 [] false w args ∧ laidMetH Tryd.prog Rows.treePartsRow.laid w) ∧ sizedMet enc Tryd.prog Tryd.f6 (OpenSpec.ofChange Rows.treePartsSpec) false w args)
      (Rows.treePartsSpec.post enc Tryd.prog Tryd.f6 false true false false) := by
  refine returnsInHanded_of_change_and (C := Tryd.checked) (X := fun w _ => laidMetH Tryd.prog Rows.treePartsRow.laid w) (fun _ _ _ hh h => h.of_heap hh) own started (by kernel_rfl) Tryd.func6
    (ChangeSpec.witness_shaped (enc := enc) (C := Tryd.checked) (os := os) (X := fun w _ => laidMetH Tryd.prog Rows.treePartsRow.laid w) false (World.doorLaid Tryd.prog 31 os) #[.slice none 0 0, .int .i64 0, .slice none 0 0] 8 rfl (door_shaped os _) (by kernel_rfl) (by kernel_rfl) (by kernel_rfl) (door_met os _)) ?_
  intro W base args ds gs before hval0 hW _ _ hL _
  have hval : ∀ (j : Nat) t v, Tryd.f6.params[j]? = some t → args[j]? = some v → Value.okWide Tryd.prog W .any base t v := hval0
  have hW' := hW
  obtain ⟨p, q, hA0, hV, rfl, _, _⟩ := hW
  have hA : DataW.TrodAll enc Tryd.prog W 0 (fun _ => true) true Tryd.f6.params.toList args.toList ds p := hA0
  rw [Tryd.params6] at hA hval
  obtain ⟨v0, vs0, d0, ds0, p0, q0, hargs, rfl, rfl, h0, r0⟩ := trodAll_cons hA
  obtain ⟨v1, vs1, d1, ds1, p1, q1, rfl, rfl, rfl, h1, r1⟩ := trodAll_cons r0
  obtain ⟨v2, vs2, d2, ds2, p2, q2, rfl, rfl, rfl, h2, r2⟩ := trodAll_cons r1
  obtain ⟨rfl, rfl, rfl⟩ := trodAll_nil r2
  obtain rfl : args = #[v0, v1, v2] := by cases args; simp_all
  obtain ⟨rfl, rfl⟩ := trodVars_none hV
  obtain ⟨a0, len0, cap0, rfl⟩ := okWide_slice Tryd.underlying22 (hval 0 22 v0 rfl rfl)
  have k0 := h0
  have lt0 : ∀ x ∈ p0, x.block < W.heap.size := by obtain ⟨m, hm⟩ := k0; exact DataW.trod_lt m _ _ _ hm
  have w0 : Arg0 W a0 len0 cap0 := opened0 h0
  obtain ⟨a1, rfl, rfl, rfl, w1⟩ := open_int Tryd.underlying3 (hval 1 3 v1 rfl rfl) h1
  obtain ⟨a2, len2, cap2, rfl⟩ := okWide_slice Tryd.underlying35 (hval 2 35 v2 rfl rfl)
  have k2 := h2
  have lt2 : ∀ x ∈ p2, x.block < W.heap.size := by obtain ⟨m, hm⟩ := k2; exact DataW.trod_lt m _ _ _ hm
  have w2 : Arg2 W a2 len2 cap2 := opened2 h2
  clear hA0 hval0
  refine (walk a0 len0 cap0 a1 a2 len2 cap2 W w0 w1 w2 (rt_of_laid (rest := []) hL)).mono fun e W' ⟨he, bel⟩ => ?_
  subst he
  exact ⟨_, rfl, _, _, _, [], _, [], hW', trodAll_mk1 (shut_bool Tryd.underlying4 _), (trodAll_cons_mk (Below.trod laidOut (by kernel_rfl) (of_decide_eq_true (by kernel_rfl)) k0 bel lt0) (trodAll_cons_mk (shut_int Tryd.underlying3 w1) (trodAll_cons_mk (Below.trod laidOut (by kernel_rfl) (of_decide_eq_true (by kernel_rfl)) k2 bel lt2) trodAll_mk0))), rfl, bel.frame _, fun h => by cases h⟩

theorem over : Rows.treePartsRow.holds Tryd.pinned (OpenSpec.ofChange Rows.treePartsSpec) :=
  OpenClaim.holds_of_wide 6 Tryd.f6 rfl rfl rfl rfl rfl rfl rfl ⟨rfl, rfl, rfl, rfl, rfl⟩ rfl rfl rfl rfl rfl (by kernel_rfl) Tryd.func6 (by kernel_rfl)
    (of_decide_eq_true (by kernel_rfl)) (by unfold Func.isWrapper; first | (rw [if_pos (by decide +kernel)]; kernel_rfl) | (rw [if_neg (by decide +kernel)]; exact ⟨rfl, rfl⟩))
    (fun os started H enc _ => lifted os started H enc)

theorem plain (f : FuncId) (fn : Func) (hf : Tryd.pinned.checked.prog.funcNamed "hindsight/hindsightlaw09.TreeParts" = some f) (hfn : Tryd.pinned.checked.prog.funcs[f]? = some fn) :
    (true : Bool) = Tryd.pinned.checked.prog.looks [] ∧ ∀ (j : Nat) t, fn.params[j]? = some t → Tryd.pinned.checked.prog.wantsStandIn t = false := by
  obtain rfl : f = 6 := Option.some.inj ((show Tryd.prog.funcNamed "hindsight/hindsightlaw09.TreeParts" = some 6 by kernel_rfl).symm.trans hf) |>.symm
  obtain rfl : fn = Tryd.f6 := (Option.some.inj (Tryd.func6.symm.trans hfn)).symm
  refine ⟨by kernel_rfl, fun j t ht => ?_⟩
  rw [Tryd.params6] at ht
  have hm := Array.mem_of_getElem? ht
  simp only [List.mem_toArray, List.mem_cons, List.not_mem_nil, or_false] at hm
  rcases hm with rfl | rfl | rfl
  · exact (show Tryd.prog.wantsStandIn 22 = false by kernel_rfl)
  · exact (show Tryd.prog.wantsStandIn 3 = false by kernel_rfl)
  · exact (show Tryd.prog.wantsStandIn 35 = false by kernel_rfl)

theorem card : Rows.TreePartsCardSaid :=
  Claim7.holds_tied_plain_at .later [] _ _ _ _ over (fun _ h => by cases h) (by kernel_rfl) (fun _ h => by cases h) treeParts_row_tie rfl ⟨rfl, rfl⟩ (by kernel_rfl) rfl plain (by kernel_rfl)

theorem proved : Rows.TreePartsCardSaid := card


end Go.Proofs.YtnbhjffmaememaaDoor.treeParts
