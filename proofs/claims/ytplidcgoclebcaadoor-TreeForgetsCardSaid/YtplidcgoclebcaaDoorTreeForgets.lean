/- TreeForgets: for every list of texts and every two numbers the law answers true, and its arguments read afterwards as they did. Conditions: the row lists three package-level variables (digest's table of rounds, and both tables of math/bits), which the card ties to the program's text. -/
import Derived.Test.YtplidcgoclebcaaDoorTreeV
import Derived.Test.YtplidcgoclebcaaDoorLvs
import Derived.Test.YtplidcgoclebcaaDoorInts
import Derived.Test.YtplidcgoclebcaaDoorTreeQ
import Derived.Test.YtplidcgoclebcaaDoorCards
import Derived.Test.YtplidcgoclebcaaDoorTie
import Derived.ProofKit
import Derived.OpenShut
import Derived.SevenTiedAt
namespace Go.Proofs.YtplidcgoclebcaaDoor.treeForgets
open Go.ChangeShapes Go.WideShapes Go.ChangeAt Go.RowKit Go.Proofs.YtplidcgoclebcaaDoor.dig Go.Proofs.YtplidcgoclebcaaDoor.tree

def Arg0 (w : World) (a : Option Addr) (len cap : Nat) : Prop := ∃ T, ArgS w a len cap T
theorem opened0 {H : Type} {enc : TypeId × Value → H} {w : World} {spare : Nat → Bool} {held : Bool} {a : Option Addr} {len cap : Nat} {d : DataW H} {p : List MemPlace} (h : DataW.Trod enc Tryd.prog w 0 spare held 22 (.slice a len cap) d p) : Arg0 w a len cap := openedStrs h

set_option maxRecDepth 100000 in
set_option maxHeartbeats 2000000 in
theorem walk (a : Option Addr) (len cap : Nat) (n floor : Int) (w : World) (hA : Arg0 w a len cap) (hn : (Lit.int .i64 n).wf = true) (hf : (Lit.int .i64 floor).wf = true) (hR : Rt w.heap.size w) :
    Calls Tryd.prog 4 #[.slice a len cap, .int .i64 n, .int .i64 floor] w fun en w' => en = .returned (.bool true) ∧ Below w.heap.size w w' := by
  obtain ⟨T, hT⟩ := hA
  have hn2 := wf_i64 hn
  have HT := Lib.hid hT
  have hf2 := wf_i64 hf
  have hf3 := hf2.1
  have hf4 := hf2.2
  have HR := Lib.hid hR
  clear hT hR hf2
  go_enter Tryd.func4, Tryd.ntmps4
  go_wp2_with fail
  refine (tawake_calls _ w HR.out).mono ?_
  rintro en w1 ⟨rfl, b1⟩
  have R1 : Hid (Rt w.heap.size w1 ∧ Below w.heap.size w w1 ∧ ArgS w1 a len cap T) := Lib.hid ⟨HR.out.below b1 (Nat.le_refl _), b1, HT.out.1, HT.out.2.1, fun k hk => by
    obtain ⟨gb, go, h1, h2, h3, h4⟩ := HT.out.2.2 k hk
    exact ⟨gb, go, h1, Nat.lt_of_lt_of_le h2 b1.size, by rw [← h3]; unfold World.cell?; rw [b1.block gb h2], h4⟩⟩
  clear b1 HR HT
  go_wp2_with fail
  refine (leaves_calls a len cap T n w1 R1.out.2.2 hn2.1 hn2.2).mono ?_
  rintro en w2 ⟨v, L, rfl, hs2, hlen, lo2, b2, hne⟩
  obtain ⟨a0, c0, rfl, hc1, hc2⟩ := hs2.1.slice
  obtain ⟨g, off, rfl⟩ : ∃ g off, a0 = some ⟨g, off, none⟩ := by
    rcases hs2.1.2 with ⟨h, _⟩ | ⟨g, off, cp, cur, h, _⟩
    · exact absurd h hne
    · simp only [Value.slice.injEq] at h; exact ⟨g, off, h.1⟩
  have hc3 : (c0 : Int) ≤ 9223372036854775807 := by unfold maxLen at hc2; omega
  have hl40 : L.length ≤ 40 := by omega
  have R2 : Hid (Rt w.heap.size w2 ∧ Below w.heap.size w w2 ∧ Strs w2 (.slice (some ⟨g, off, none⟩) L.length c0) L) := Lib.hid ⟨R1.out.1.below b2 R1.out.2.1.size, R1.out.2.1.trans (b2.mono R1.out.2.1.size), hs2⟩
  have hcl : (L.length : Int) ≤ (c0 : Int) := by omega
  clear hs2 lo2 b2 R1 hlen hc2 hc1 hne
  obtain ⟨N, hN⟩ : ∃ N, N = L.length := ⟨_, rfl⟩
  have HN := Lib.hid hN
  rw [← hN] at hl40 hcl ⊢
  clear hN
  go_wp2_with fail
  refine (tnew_calls _ (leafF L) w2 R2.out.1 (leafF_len L)).mono ?_
  rintro en w3 ⟨ta, rfl, hb, t3, b3⟩
  have R3 : Hid (Rt w.heap.size w3 ∧ Tr w.heap.size (fun k => k = ta) w3 ta 0 0 (leafF L) ∧ Below w.heap.size w w3 ∧ Strs w3 (.slice (some ⟨g, off, none⟩) L.length c0) L ∧ w2.heap.size ≤ ta ∧ g < w2.heap.size) :=
    Lib.hid ⟨t3.rt, t3, R2.out.2.1.trans (b3.mono R2.out.2.1.size), ⟨R2.out.2.2.1.below b3 (fun x hx => R2.out.2.2.1.lt hx), R2.out.2.2.2⟩, hb, R2.out.2.2.1.lt rfl⟩
  clear t3 b3 hb R2
  go_wp2_with fail
  refine (tnew_calls _ (leafF L) w3 R3.out.1 (leafF_len L)).mono ?_
  rintro en w4 ⟨tb, rfl, hb, t4, b4⟩
  have R4 : Hid (Pr w tb ta (.slice (some ⟨g, off, none⟩) L.length c0) L 0 0 w4) := by
    have k1 := R3.out.2.1.lt
    have k2 := t4.lt
    have k3 := R3.out.2.2.2.2.1
    have k4 := R3.out.2.2.2.2.2
    exact Lib.hid ⟨⟨fun k => k = tb, fun k => k = ta, t4, R3.out.2.1.below b4, fun x hx => ⟨by omega, by omega⟩, fun x hx => by omega, fun x hx => by
      have e : g = x := by simpa [Value.ownBlock] using hx
      omega⟩, ⟨R3.out.2.2.2.1.1.below b4 (fun x hx => R3.out.2.2.2.1.1.lt hx), R3.out.2.2.2.1.2⟩, R3.out.2.2.1.trans (b4.mono R3.out.2.2.1.size)⟩
  clear t4 b4 hb R3
  have hap := R4.out.append_b off N c0 (by have := HN.out; omega) (by have := HN.out; omega) (.inl ⟨rfl, rfl⟩)
  rw [Nat.zero_add] at hap
  have HAP := Lib.hid hap
  clear hap
  go_wp2_with fail
  refine HAP.out.mono ?_
  rintro en w5 ⟨rfl, t5⟩
  have R5 : Hid (Pr w ta tb (.slice (some ⟨g, off, none⟩) L.length c0) L N 0 w5) := Lib.hid t5.swap
  clear t5 HAP R4
  have hap := R5.out.append_b off N c0 (by have := HN.out; omega) (by have := HN.out; omega) (.inl ⟨rfl, rfl⟩)
  rw [Nat.zero_add] at hap
  have HAP := Lib.hid hap
  clear hap
  go_wp2_with fail
  refine HAP.out.mono ?_
  rintro en w6 ⟨rfl, t6⟩
  have R6 := Lib.hid t6
  clear t6 HAP R5
  obtain ⟨x, hx⟩ : ∃ x : Int, max floor 0 = x := ⟨_, rfl⟩
  obtain ⟨p, hp⟩ : ∃ p : Nat, min x (N : Int) = (p : Int) := ⟨(min x (N : Int)).toNat, by omega⟩
  have hpN : p ≤ N := by omega
  have hc := R6.out.forget_b p hpN
  have HC := Lib.hid hc
  clear hc
  go_wp2_with fail
  refine HC.out.mono ?_
  rintro en w7 ⟨rfl, t7⟩
  have R7 := Lib.hid t7
  clear t7 HC R6 hx hp hf3 hf4
  go_wp2_with fail
  go_loopw [10] (fun i wr => ∃ m : Nat, i = .int .i64 m ∧ m ≤ N + 1 ∧ Hid (Pf w ta tb N p L wr)) (fun i _ => N + 1 - (intOf i).toNat)
  case atStart => exact ⟨0, rfl, by omega, R7⟩
  case round =>
    obtain ⟨m, rfl, hm, HS⟩ := hrel
    clear R7
    have hm0 : (0 : Int) ≤ (m : Int) := by omega
    have hN6 : (N : Int) ≤ 40 := by omega
    by_cases hmN : m ≤ N
    · have hm1 : (m : Int) ≤ (N : Int) := by omega
      obtain ⟨R, hRR⟩ : ∃ R, R = rtAll (leafF L) m := ⟨_, rfl⟩
      have HRL : Hid (R.length = 32) := Lib.hid (by rw [hRR]; exact rtAll_len (leafF_len L) m)
      have HRC : Hid ((cellsOf R).size = 32) := Lib.hid (by rw [cellsOf_size, HRL.out])
      have HA : Hid (Calls Tryd.prog 13 #[.pointer (some ⟨ta, 0, none⟩), .int .i64 m] wr fun en w' => en = .returned (.tuple #[.agg (cellsOf R), .int .i64 0]) ∧ Below wr.heap.size wr w') := Lib.hid (by
        obtain ⟨F, tr⟩ := HS.out.ta
        rw [hRR]
        exact tr.root (by omega) m hmN (Nat.zero_le _))
      have HYE : Hid (∃ (Y : List UInt8) (E : Int), Y.length = 32 ∧ ((p ≤ m ∧ Y = R ∧ E = 0) ∨ (m < p ∧ E = 14)) ∧ ∀ V, Pf w ta tb N p L V → Calls Tryd.prog 13 #[.pointer (some ⟨tb, 0, none⟩), .int .i64 m] V fun en w' => en = .returned (.tuple #[.agg (cellsOf Y), .int .i64 E]) ∧ Below V.heap.size V w') := Lib.hid (by
        by_cases h : p ≤ m
        · exact ⟨R, 0, HRL.out, .inl ⟨h, rfl, rfl⟩, fun V hV => by
            obtain ⟨F, tr⟩ := hV.tb
            rw [hRR]
            exact tr.root (by omega) m hmN h⟩
        · exact ⟨List.replicate 32 0, 14, by simp, .inr ⟨by omega, rfl⟩, fun V hV => by
            obtain ⟨F, tr⟩ := hV.tb
            exact tr.root_low m (by omega)⟩)
      have HRR := Lib.hid hRR
      clear hRR
      go_wp2_with fail
      refine HA.out.mono ?_
      rintro en wa ⟨rfl, ba⟩
      have Q1 := Lib.hid (HS.out.more ba)
      clear ba HS HA
      go_wp2_with (first
        | ((with_reducible refine at_store (.tmp 11) ?_); refine wpList_store_cells (o := ⟨none, _, _, _, _, _⟩) rfl 32 (.tmp 11) (.tmp 54) rfl wa.heap.size (cellsOf R) _ rfl rfl _ (made_at _ _ rfl) (HRC.out.symm ▸ (by kernel_rfl)) (HRC.out.symm ▸ rfl) (cellsOf_one _) ?_; intro W8 HW8 TW8;
           (have Q2 : Hid (Pf w ta tb N p L W8 ∧ Has W8 wa.heap.size 32 (cellsOf R)) := (by
             have bb : Below wa.heap.size wa W8 := ((Below.refl _ _).alloc (Nat.le_refl _) _).trans (TW8.below (by simp) (fun j hj e => by omega))
             exact Lib.hid ⟨Q1.out.more bb, HW8⟩));
           clear Q1 HW8 TW8)
        | fail)
      obtain ⟨g1, hg1⟩ : ∃ g1, g1 = wa.heap.size := ⟨_, rfl⟩
      rw [← hg1] at Q2 ⊢
      clear hg1
      obtain ⟨Y, E, hY1, hY2, hY3⟩ := HYE.out
      have HY3 := Lib.hid hY3
      have HY1 := Lib.hid hY1
      have HYC : Hid ((cellsOf Y).size = 32) := Lib.hid (by rw [cellsOf_size, hY1])
      have HY2 := Lib.hid hY2
      clear hY1 hY2 hY3 HYE
      refine (HY3.out W8 Q2.out.1).mono ?_
      rintro en wb ⟨rfl, bb⟩
      have Q3 := Lib.hid (And.intro (Q2.out.1.more bb) (Q2.out.2.below bb Q2.out.2.lt))
      clear bb Q2 HY3
      go_wp2_with (first
        | ((with_reducible refine at_store (.tmp 13) ?_); refine wpList_store_cells (o := ⟨none, _, _, _, _, _⟩) rfl 32 (.tmp 13) (.tmp 60) rfl wb.heap.size (cellsOf Y) _ rfl rfl _ (made_at _ _ rfl) (HYC.out.symm ▸ (by kernel_rfl)) (HYC.out.symm ▸ rfl) (cellsOf_one _) ?_; intro W9 HW9 TW9;
           (have Q4 : Hid (Pf w ta tb N p L W9 ∧ Has W9 g1 32 (cellsOf R) ∧ Has W9 wb.heap.size 32 (cellsOf Y)) := (by
             have bb : Below wb.heap.size wb W9 := ((Below.refl _ _).alloc (Nat.le_refl _) _).trans (TW9.below (by simp) (fun j hj e => by omega))
             exact Lib.hid ⟨Q3.out.1.more bb, Q3.out.2.below bb Q3.out.2.lt, HW9⟩));
           clear Q3 HW9 TW9)
        | fail)
      obtain ⟨g2, hg2⟩ : ∃ g2, g2 = wb.heap.size := ⟨_, rfl⟩
      rw [← hg2] at Q4 ⊢
      clear hg2
      have HFL : Hid (∀ V, Pf w ta tb N p L V → Calls Tryd.prog 15 #[.pointer (some ⟨tb, 0, none⟩)] V fun en w' => en = .returned (.int .i64 p) ∧ V = w') := Lib.hid fun V hV => by
        obtain ⟨F, tr⟩ := hV.tb
        exact tr.floor_calls
      refine (HFL.out W9 Q4.out.1).mono ?_
      rintro en wx ⟨rfl, rfl⟩
      rcases HY2.out with ⟨hpm, rfl, rfl⟩ | ⟨hmp, rfl⟩
      · have hpm1 : (p : Int) ≤ (m : Int) := by omega
        have hpm2 : ¬ (m : Int) < (p : Int) := by omega
        have HC1 : Hid (Calls Tryd.prog 19 #[.pointer (some ⟨tb, 0, none⟩), .int .i64 m] W9 fun en w' => ∃ c, en = .returned (.pointer (some ⟨c, 0, none⟩)) ∧ W9.heap.size ≤ c ∧ Tr w.heap.size (fun k => W9.heap.size ≤ k) w' c m p (leafF L) ∧ Below W9.heap.size W9 w') := Lib.hid (by
          obtain ⟨F, tr⟩ := Q4.out.1.tb
          exact tr.clone m hpm hmN)
        go_wp2_with fail
        refine HC1.out.mono ?_
        rintro en wc ⟨c, rfl, hc9, trc, bc⟩
        have TC := Lib.hid (show Tr w.heap.size (fun k => W9.heap.size ≤ k ∧ k < wc.heap.size) wc c m p (leafF L) ∧ _ from ⟨trc.more (fun k hk h => ⟨h, hk⟩) (fun k h => Nat.le_trans Q4.out.1.bel.size h.1), bc⟩)
        clear trc bc hc9 HC1
        have HR1 : Hid (Calls Tryd.prog 13 #[.pointer (some ⟨c, 0, none⟩), .int .i64 m] wc fun en w' => en = .returned (.tuple #[.agg (cellsOf Y), .int .i64 0]) ∧ Below wc.heap.size wc w') := Lib.hid (by
          rw [HRR.out]
          exact TC.out.1.root (by omega) m (Nat.le_refl _) hpm)
        go_wp2_with fail
        refine HR1.out.mono ?_
        rintro en wd ⟨rfl, bd⟩
        have TD := Lib.hid (show _ ∧ _ ∧ _ from ⟨TC.out.1.below bd, TC.out.2.trans (bd.mono TC.out.2.size), bd.size⟩)
        clear bd HR1 TC
        go_wp2_with (first
          | ((with_reducible refine at_store (.tmp 16) ?_); refine wpList_store_cells (o := ⟨none, _, _, _, _, _⟩) rfl 32 (.tmp 16) (.tmp 73) rfl wd.heap.size (cellsOf Y) _ rfl rfl _ (made_at _ _ rfl) (HYC.out.symm ▸ (by kernel_rfl)) (HYC.out.symm ▸ rfl) (cellsOf_one _) ?_; intro WA HWA TWA;
             (have TE : Hid (Tr w.heap.size (fun k => W9.heap.size ≤ k ∧ k < wc.heap.size) WA c m p (leafF L) ∧ Below W9.heap.size W9 WA ∧ wc.heap.size ≤ WA.heap.size ∧ Has WA wd.heap.size 32 (cellsOf Y) ∧ wc.heap.size ≤ wd.heap.size) := (by
               have bb : Below wd.heap.size wd WA := ((Below.refl _ _).alloc (Nat.le_refl _) _).trans (TWA.below (by simp) (fun j hj e => by omega))
               exact Lib.hid ⟨TD.out.1.below bb, TD.out.2.1.trans (bb.mono TD.out.2.1.size), Nat.le_trans TD.out.2.2 bb.size, HWA, TD.out.2.2⟩));
             clear TD HWA TWA)
          | fail)
        obtain ⟨g3, hg3⟩ : ∃ g3, g3 = wd.heap.size := ⟨_, rfl⟩
        rw [← hg3] at TE ⊢
        clear hg3
        obtain ⟨f', hf'⟩ : ∃ f' : Nat → List UInt8, f' = fun i => if i = m then leafS (⟨#[109, 111, 114, 101]⟩ : ByteArray).data.toList else leafF L i := ⟨_, rfl⟩
        have hfl' : ∀ i, (f' i).length = 32 := fun i => by
          rw [hf']
          show (if i = m then _ else _ : List UInt8).length = 32
          split
          · exact sum_length _
          · exact leafF_len L i
        have tr0 := ((TE.out.1.alloc (.cells #[.string ⟨#[109, 111, 114, 101]⟩] 9)).fcongr (f' := f') (fun i hi => by rw [hf']; show _ = (if i = m then _ else _ : List UInt8); rw [if_neg (by omega)]) hfl')
        have happ := tr0.append_calls (some ⟨WA.heap.size, 0, none⟩) 1 [(⟨#[109, 111, 114, 101]⟩ : ByteArray)]
          ⟨Seg.whole (m := 1) (cs := #[.string ⟨#[109, 111, 114, 101]⟩]) (heap_alloc_new _ _) rfl (by unfold maxLen; omega), fun s hs => by rw [List.mem_singleton.1 hs]; decide⟩
          (fun x hx e => by
            have h1 : WA.heap.size = x := by simpa [Value.ownBlock] using hx
            have h2 := TE.out.2.2.1
            have h3 := e.2
            omega)
          (fun i s hs => by
            have hi : i = 0 := by
              rcases i with _ | i
              · rfl
              · cases hs
            subst hi
            have h1 : s = ⟨#[109, 111, 114, 101]⟩ := by injection hs with hs; exact hs.symm
            rw [h1, hf']
            show (if m + 0 = m then _ else _ : List UInt8) = _
            rw [if_pos (by omega)]) (by show m + 1 < 1000000; omega)
        have HAPP := Lib.hid happ
        clear happ tr0
        refine HAPP.out.mono ?_
        rintro en we ⟨rfl, te, ue⟩
        have be : Below W9.heap.size W9 we := (TE.out.2.1.alloc TE.out.2.1.size _).trans (ue.below (by have := TE.out.2.1.size; simp; omega) (fun j hj h => by have := h.1; omega))
        have Z3 : Has we g3 32 (cellsOf Y) := (TE.out.2.2.2.1.alloc _).turn ue (fun h => by have := h.2; have := TE.out.2.2.2.2; omega)
        have QZ := Lib.hid (show _ ∧ _ ∧ _ ∧ _ from ⟨Q4.out.1.more be, Q4.out.2.1.below be Q4.out.2.1.lt, Q4.out.2.2.below be Q4.out.2.2.lt, Z3⟩)
        have HCL : Hid (Calls Tryd.prog 16 #[.pointer (some ⟨c, 0, none⟩)] we fun en w' => en = .returned (.int .i64 ((m : Int) + 1)) ∧ we = w') := Lib.hid te.len_calls
        have HCF : Hid (Calls Tryd.prog 15 #[.pointer (some ⟨c, 0, none⟩)] we fun en w' => en = .returned (.int .i64 p) ∧ we = w') := Lib.hid te.floor_calls
        have HBL : Hid (Calls Tryd.prog 16 #[.pointer (some ⟨tb, 0, none⟩)] we fun en w' => en = .returned (.int .i64 N) ∧ we = w') := Lib.hid (by
          obtain ⟨F, tr⟩ := QZ.out.1.tb
          exact tr.len_calls)
        clear te ue be Z3 HAPP TE Q4 hfl' hf'
        have hl1 : (Instr.loadAt 32 (.pointer (some ⟨g1, 0, none⟩))).run Tryd.prog we = .ok (.agg (cellsOf Y)) we := run_loadAt_mid we g1 0 32 (Y.map byteV) _ (Has.range QZ.out.2.1) Tryd.underlying32 rfl (by rw [List.length_map, HRL.out]; kernel_rfl)
        have hl2 : (Instr.loadAt 32 (.pointer (some ⟨g2, 0, none⟩))).run Tryd.prog we = .ok (.agg (cellsOf Y)) we := run_loadAt_mid we g2 0 32 (Y.map byteV) _ (Has.range QZ.out.2.2.1) Tryd.underlying32 rfl (by rw [List.length_map, HRL.out]; kernel_rfl)
        have hl3 : (Instr.loadAt 32 (.pointer (some ⟨g3, 0, none⟩))).run Tryd.prog we = .ok (.agg (cellsOf Y)) we := run_loadAt_mid we g3 0 32 (Y.map byteV) _ (Has.range QZ.out.2.2.2) Tryd.underlying32 rfl (by rw [List.length_map, HRL.out]; kernel_rfl)
        have he := run_neq_same Y HRL.out
        go_wp2_with (first
          | ((with_reducible refine at_opg 81 ?_); refine wpList_load_if (o := ⟨some 81, _, _, _, _, _⟩) (by kernel_rfl) 32 (.tmp 16) rfl (.pointer (some ⟨g3, 0, none⟩)) rfl hl3 ?_)
          | ((with_reducible refine at_opg 82 ?_); refine wpList_load_if (o := ⟨some 82, _, _, _, _, _⟩) (by kernel_rfl) 32 (.tmp 11) rfl (.pointer (some ⟨g1, 0, none⟩)) rfl hl1 ?_)
          | fail)
        refine HCL.out.mono ?_
        rintro en wx ⟨rfl, rfl⟩
        go_wp2_with fail
        refine HCF.out.mono ?_
        rintro en wx ⟨rfl, rfl⟩
        go_wp2_with fail
        refine (HFL.out we QZ.out.1).mono ?_
        rintro en wx ⟨rfl, rfl⟩
        go_wp2_with fail
        refine HBL.out.mono ?_
        rintro en wx ⟨rfl, rfl⟩
        go_wp2_with (first
          | ((with_reducible refine at_opg 109 ?_); refine wpList_load_if (o := ⟨some 109, _, _, _, _, _⟩) (by kernel_rfl) 32 (.tmp 11) rfl (.pointer (some ⟨g1, 0, none⟩)) rfl hl1 ?_)
          | ((with_reducible refine at_opg 110 ?_); refine wpList_load_if (o := ⟨some 110, _, _, _, _, _⟩) (by kernel_rfl) 32 (.tmp 13) rfl (.pointer (some ⟨g2, 0, none⟩)) rfl hl2 ?_)
          | fail)
        refine (HFL.out we QZ.out.1).mono ?_
        rintro en wx ⟨rfl, rfl⟩
        have Q5 := Lib.hid QZ.out.1
        clear QZ HCL HCF HBL hl1 hl2 hl3 he
        go_wp2_with fail
        have hdf : decide (m < p) = false := decide_eq_false (by omega)
        simp only [hdf]
        clear hpm1 hpm2 hdf
        go_loopw [18] (fun i wr => ∃ k : Nat, i = .int .i64 k ∧ k ≤ m ∧ Hid (Pf w ta tb N p L wr)) (fun i _ => m - (intOf i).toNat)
        case atStart => exact ⟨0, rfl, Nat.zero_le _, Q5⟩
        case round =>
          obtain ⟨k, rfl, hk, HK⟩ := hrel
          clear Q5
          have hk0 : (0 : Int) ≤ (k : Int) := by omega
          by_cases hkm : k < m
          · have hkm1 : (k : Int) < (m : Int) := by omega
            have HI : Hid (Calls Tryd.prog 20 #[.pointer (some ⟨ta, 0, none⟩), .int .i64 k, .int .i64 m] wr (SumsOk wr (path (leafF L) k 0 m))) := Lib.hid (by
              obtain ⟨F, tr⟩ := HK.out.ta
              exact tr.inclusion (by omega) k m hmN hkm (Nat.zero_le _))
            go_wp2_with fail
            refine HI.out.mono ?_
            rintro en wc ⟨va, rfl, sa, oa, ba⟩
            obtain ⟨aa, ca, rfl, hca, hca2⟩ := sa.slice
            obtain ⟨ll, hll⟩ : ∃ ll, ll = (path (leafF L) k 0 m).length := ⟨_, rfl⟩
            rw [← hll] at sa hca ⊢
            have hlm : ll ≤ ca := hca
            have hl6 : (ll : Int) ≤ 9223372036854775807 := by unfold maxLen at hca2; omega
            have hl0 : (0 : Int) ≤ (ll : Int) := by omega
            have QA := Lib.hid (show _ ∧ _ ∧ _ from ⟨HK.out.more ba, sa, hll⟩)
            clear sa oa ba hca hca2 HK HI hll hlm
            by_cases hkp : k < p
            · have hkp1 : (k : Int) < (p : Int) := by omega
              have HL : Hid (Calls Tryd.prog 20 #[.pointer (some ⟨tb, 0, none⟩), .int .i64 k, .int .i64 m] wc fun en w' => en = .returned (.tuple #[.slice none 0 0, .int .i64 14]) ∧ wc = w') := Lib.hid (by
                obtain ⟨F, tr⟩ := QA.out.1.tb
                exact tr.inclusion_low k m hmN hkm hkp)
              go_wp2_with fail
              refine HL.out.mono ?_
              rintro en wd ⟨rfl, rfl⟩
              clear HL
              go_wp2_with fail
              refine (HFL.out wc QA.out.1).mono ?_
              rintro en wx ⟨rfl, rfl⟩
              go_wp2_with fail
              go_loopw [161] (fun i wr => i = .int .i64 0 ∧ wr = wc) (fun _ _ => 0)
              case atStart => exact ⟨rfl, rfl⟩
              case round =>
                obtain ⟨rfl, rfl⟩ := hrel
                go_wp2_with fail
                have hms : m - ((k : Int) + 1).toNat < m - ((k : Int)).toNat := by omega
                have HE := Lib.hid QA.out.1
                have hcs : Value.int .i64 ((k : Int) + 1) = .int .i64 ((k + 1 : Nat) : Int) := by rw [Int.natCast_add]; rfl
                first
                  | exact ⟨⟨k + 1, hcs, by omega, HE⟩, hms⟩
                  | (refine ⟨?_, hms⟩
                     repeat apply Exists.intro
                     exact ⟨⟨k + 1, hcs, by omega, HE⟩, rfl⟩)
            · have hkp1 : ¬ (k : Int) < (p : Int) := by omega
              have hkp2 : (p : Int) ≤ (k : Int) := by omega
              have HL : Hid (Calls Tryd.prog 20 #[.pointer (some ⟨tb, 0, none⟩), .int .i64 k, .int .i64 m] wc (SumsOk wc (path (leafF L) k 0 m))) := Lib.hid (by
                obtain ⟨F, tr⟩ := QA.out.1.tb
                exact tr.inclusion (by omega) k m hmN hkm (by omega))
              go_wp2_with fail
              refine HL.out.mono ?_
              rintro en wd ⟨vb, rfl, sb, ob, bb⟩
              obtain ⟨ab, cb, rfl, _, _⟩ := sb.slice
              rw [← QA.out.2.2] at sb ⊢
              have QB := Lib.hid (show _ ∧ _ ∧ _ ∧ _ from ⟨QA.out.1.more bb, QA.out.2.1.below bb (fun x hx => QA.out.2.1.lt hx), sb, QA.out.2.2⟩)
              clear sb ob bb HL QA
              go_wp2_with fail
              refine (HFL.out wd QB.out.1).mono ?_
              rintro en wx ⟨rfl, rfl⟩
              go_wp2_with fail
              go_loopw [161] (fun i wr => ∃ t : Nat, i = .int .i64 t ∧ t ≤ ll ∧ Hid (Below wd.heap.size wd wr)) (fun i _ => ll - (intOf i).toNat)
              case atStart => exact ⟨0, rfl, Nat.zero_le _, Below.refl _ _⟩
              case round =>
                obtain ⟨t, rfl, ht, HB⟩ := hrel
                have ht0 : (0 : Int) ≤ (t : Int) := by omega
                by_cases htl : t < ll
                · have htl1 : (t : Int) < (ll : Int) := by omega
                  obtain ⟨xx, hxx⟩ : ∃ xx, (path (leafF L) k 0 m)[t]? = some xx := ⟨_, List.getElem?_eq_getElem (by rw [← QB.out.2.2.2]; exact htl)⟩
                  have hal := path_all (leafF_len L) m k 0
                  obtain ⟨ga, oa, rfl, hga, ra⟩ := seg_sum QB.out.2.1 hal hxx (by omega)
                  obtain ⟨gb, ob, rfl, hgb, rb⟩ := seg_sum QB.out.2.2.1 hal hxx (by omega)
                  have HX : Hid (xx.length = 32) := Lib.hid (hal xx (List.mem_of_getElem? hxx))
                  have hC : (fun V : World => V.rangeAt ga (oa + t * 32) (xx.map byteV) ∧ V.rangeAt gb (ob + t * 32) (xx.map byteV)) wr.drew := ⟨fun j u hj => by
                    rw [← ra j u hj]; unfold World.cell?; show _ = _; rw [← HB.out.block ga hga]; rfl, fun j u hj => by
                    rw [← rb j u hj]; unfold World.cell?; show _ = _; rw [← HB.out.block gb hgb]; rfl⟩
                  clear hal hxx ra rb
                  go_wp2_with fail
                  refine wp_region_quiet (fun V : World => V.rangeAt ga (oa + t * 32) (xx.map byteV) ∧ V.rangeAt gb (ob + t * 32) (xx.map byteV)) [] (by kernel_rfl) ?_
                  refine quiet_take 0 (some 164) (v := .slice (some ⟨ga, oa, none⟩) ll ca) rfl rfl (by kernel_rfl) (by kernel_rfl) (by kernel_rfl) (fun _ _ _ h => h) (by kernel_rfl) (by kernel_rfl) (by kernel_rfl) (fun V _ => by go_simp) hC ?_
                  refine quiet_take 1 (some 165) (v := .int .i64 t) rfl rfl (by kernel_rfl) (by kernel_rfl) (by kernel_rfl) (fun _ _ _ h => h) (by kernel_rfl) (by kernel_rfl) (by kernel_rfl) (fun V _ => by go_simp) hC ?_
                  refine quiet_take 2 (some 166) (v := .pointer (some ⟨ga, oa + t * 32, none⟩)) rfl rfl (by kernel_rfl) (by kernel_rfl) (by kernel_rfl) (fun _ _ _ h => h) (by kernel_rfl) (by kernel_rfl) (by kernel_rfl) (fun V _ => by go_simp) hC ?_
                  refine quiet_take 3 (some 167) (v := .agg (cellsOf xx)) rfl rfl (by kernel_rfl) (by kernel_rfl) (by kernel_rfl) (fun _ _ _ h => h) (by kernel_rfl) (by kernel_rfl) (by kernel_rfl) (fun V hV => by have hl := run_loadAt_mid (P := Tryd.prog) V ga (oa + t * 32) 32 (xx.map byteV) _ hV.1 Tryd.underlying32 rfl (by rw [List.length_map, HX.out]; kernel_rfl); exact exec_load 32 (.tmp 166) rfl (.pointer (some ⟨ga, oa + t * 32, none⟩)) rfl hl) hC ?_
                  simp only [Act.put, List.setIfInBounds_toArray, List.set_cons_zero, List.set_cons_succ]
                  refine quiet_take 4 (some 168) (v := .slice (some ⟨gb, ob, none⟩) ll cb) rfl rfl (by kernel_rfl) (by kernel_rfl) (by kernel_rfl) (fun _ _ _ h => h) (by kernel_rfl) (by kernel_rfl) (by kernel_rfl) (fun V _ => by go_simp) hC ?_
                  refine quiet_take 5 (some 169) (v := .int .i64 t) rfl rfl (by kernel_rfl) (by kernel_rfl) (by kernel_rfl) (fun _ _ _ h => h) (by kernel_rfl) (by kernel_rfl) (by kernel_rfl) (fun V _ => by go_simp) hC ?_
                  refine quiet_take 6 (some 170) (v := .pointer (some ⟨gb, ob + t * 32, none⟩)) rfl rfl (by kernel_rfl) (by kernel_rfl) (by kernel_rfl) (fun _ _ _ h => h) (by kernel_rfl) (by kernel_rfl) (by kernel_rfl) (fun V _ => by go_simp) hC ?_
                  refine quiet_take 7 (some 171) (v := .agg (cellsOf xx)) rfl rfl (by kernel_rfl) (by kernel_rfl) (by kernel_rfl) (fun _ _ _ h => h) (by kernel_rfl) (by kernel_rfl) (by kernel_rfl) (fun V hV => by have hl := run_loadAt_mid (P := Tryd.prog) V gb (ob + t * 32) 32 (xx.map byteV) _ hV.2 Tryd.underlying32 rfl (by rw [List.length_map, HX.out]; kernel_rfl); exact exec_load 32 (.tmp 170) rfl (.pointer (some ⟨gb, ob + t * 32, none⟩)) rfl hl) hC ?_
                  simp only [Act.put, List.setIfInBounds_toArray, List.set_cons_zero, List.set_cons_succ]
                  refine quiet_take 8 (some 172) (v := .bool false) rfl rfl (by kernel_rfl) (by kernel_rfl) (by kernel_rfl) (fun _ _ _ h => h) (by kernel_rfl) (by kernel_rfl) (by kernel_rfl) (fun V _ => by have he := run_eqin_same xx HX.out V; go_simp) hC ?_
                  simp only [Act.put, List.setIfInBounds_toArray, List.set_cons_zero, List.set_cons_succ]
                  refine quiet_done (by kernel_rfl) ?_ _
                  have HB2 : Hid (Below wd.heap.size wd wr.drew) := Lib.hid HB.out.drew
                  clear hC HB
                  go_wp2_with fail
                  refine ⟨⟨t + 1, by rw [Int.natCast_add]; rfl, by omega, HB2⟩, ?_⟩
                  show ll - ((t : Int) + 1).toNat < ll - ((t : Int)).toNat
                  omega
                · obtain rfl : t = ll := by omega
                  go_wp2_with fail
                  have hms : m - ((k : Int) + 1).toNat < m - ((k : Int)).toNat := by omega
                  have HE := Lib.hid (QB.out.1.more HB.out)
                  have hcs : Value.int .i64 ((k : Int) + 1) = .int .i64 ((k + 1 : Nat) : Int) := by rw [Int.natCast_add]; rfl
                  first
                    | exact ⟨⟨k + 1, hcs, by omega, HE⟩, hms⟩
                    | (refine ⟨?_, hms⟩
                       repeat apply Exists.intro
                       exact ⟨⟨k + 1, hcs, by omega, HE⟩, rfl⟩)
          · obtain rfl : k = m := by omega
            go_wp2_with fail
            have hms : N + 1 - ((k : Int) + 1).toNat < N + 1 - ((k : Int)).toNat := by omega
            have HE := HK
            have hcs : Value.int .i64 ((k : Int) + 1) = .int .i64 ((k + 1 : Nat) : Int) := by rw [Int.natCast_add]; rfl
            first
              | exact ⟨⟨k + 1, hcs, by omega, HE⟩, hms⟩
              | (refine ⟨?_, hms⟩
                 repeat apply Exists.intro
                 exact ⟨⟨k + 1, hcs, by omega, HE⟩, rfl⟩)
      · have hmp1 : (m : Int) < (p : Int) := by omega
        have hmp2 : ¬ (p : Int) ≤ (m : Int) := by omega
        have Q5 := Lib.hid Q4.out.1
        clear Q4
        go_wp2_with fail
        refine (HFL.out W9 Q5.out).mono ?_
        rintro en wx ⟨rfl, rfl⟩
        go_wp2_with fail
        clear hmp1 hmp2
        go_loopw [18] (fun i wr => ∃ k : Nat, i = .int .i64 k ∧ k ≤ m ∧ Hid (Pf w ta tb N p L wr)) (fun i _ => m - (intOf i).toNat)
        case atStart => exact ⟨0, rfl, Nat.zero_le _, Q5⟩
        case round =>
          obtain ⟨k, rfl, hk, HK⟩ := hrel
          clear Q5
          have hk0 : (0 : Int) ≤ (k : Int) := by omega
          by_cases hkm : k < m
          · have hkm1 : (k : Int) < (m : Int) := by omega
            have HI : Hid (Calls Tryd.prog 20 #[.pointer (some ⟨ta, 0, none⟩), .int .i64 k, .int .i64 m] wr (SumsOk wr (path (leafF L) k 0 m))) := Lib.hid (by
              obtain ⟨F, tr⟩ := HK.out.ta
              exact tr.inclusion (by omega) k m hmN hkm (Nat.zero_le _))
            go_wp2_with fail
            refine HI.out.mono ?_
            rintro en wc ⟨va, rfl, sa, oa, ba⟩
            obtain ⟨aa, ca, rfl, hca, hca2⟩ := sa.slice
            obtain ⟨ll, hll⟩ : ∃ ll, ll = (path (leafF L) k 0 m).length := ⟨_, rfl⟩
            rw [← hll] at sa hca ⊢
            have hlm : ll ≤ ca := hca
            have hl6 : (ll : Int) ≤ 9223372036854775807 := by unfold maxLen at hca2; omega
            have hl0 : (0 : Int) ≤ (ll : Int) := by omega
            have QA := Lib.hid (show _ ∧ _ ∧ _ from ⟨HK.out.more ba, sa, hll⟩)
            clear sa oa ba hca hca2 HK HI hll hlm
            by_cases hkp : k < p
            · have hkp1 : (k : Int) < (p : Int) := by omega
              have HL : Hid (Calls Tryd.prog 20 #[.pointer (some ⟨tb, 0, none⟩), .int .i64 k, .int .i64 m] wc fun en w' => en = .returned (.tuple #[.slice none 0 0, .int .i64 14]) ∧ wc = w') := Lib.hid (by
                obtain ⟨F, tr⟩ := QA.out.1.tb
                exact tr.inclusion_low k m hmN hkm hkp)
              go_wp2_with fail
              refine HL.out.mono ?_
              rintro en wd ⟨rfl, rfl⟩
              clear HL
              go_wp2_with fail
              refine (HFL.out wc QA.out.1).mono ?_
              rintro en wx ⟨rfl, rfl⟩
              go_wp2_with fail
              go_loopw [161] (fun i wr => i = .int .i64 0 ∧ wr = wc) (fun _ _ => 0)
              case atStart => exact ⟨rfl, rfl⟩
              case round =>
                obtain ⟨rfl, rfl⟩ := hrel
                go_wp2_with fail
                have hms : m - ((k : Int) + 1).toNat < m - ((k : Int)).toNat := by omega
                have HE := Lib.hid QA.out.1
                have hcs : Value.int .i64 ((k : Int) + 1) = .int .i64 ((k + 1 : Nat) : Int) := by rw [Int.natCast_add]; rfl
                first
                  | exact ⟨⟨k + 1, hcs, by omega, HE⟩, hms⟩
                  | (refine ⟨?_, hms⟩
                     repeat apply Exists.intro
                     exact ⟨⟨k + 1, hcs, by omega, HE⟩, rfl⟩)
            · have hkp1 : ¬ (k : Int) < (p : Int) := by omega
              have hkp2 : (p : Int) ≤ (k : Int) := by omega
              have HL : Hid (Calls Tryd.prog 20 #[.pointer (some ⟨tb, 0, none⟩), .int .i64 k, .int .i64 m] wc (SumsOk wc (path (leafF L) k 0 m))) := Lib.hid (by
                obtain ⟨F, tr⟩ := QA.out.1.tb
                exact tr.inclusion (by omega) k m hmN hkm (by omega))
              go_wp2_with fail
              refine HL.out.mono ?_
              rintro en wd ⟨vb, rfl, sb, ob, bb⟩
              obtain ⟨ab, cb, rfl, _, _⟩ := sb.slice
              rw [← QA.out.2.2] at sb ⊢
              have QB := Lib.hid (show _ ∧ _ ∧ _ ∧ _ from ⟨QA.out.1.more bb, QA.out.2.1.below bb (fun x hx => QA.out.2.1.lt hx), sb, QA.out.2.2⟩)
              clear sb ob bb HL QA
              go_wp2_with fail
              refine (HFL.out wd QB.out.1).mono ?_
              rintro en wx ⟨rfl, rfl⟩
              go_wp2_with fail
              go_loopw [161] (fun i wr => ∃ t : Nat, i = .int .i64 t ∧ t ≤ ll ∧ Hid (Below wd.heap.size wd wr)) (fun i _ => ll - (intOf i).toNat)
              case atStart => exact ⟨0, rfl, Nat.zero_le _, Below.refl _ _⟩
              case round =>
                obtain ⟨t, rfl, ht, HB⟩ := hrel
                have ht0 : (0 : Int) ≤ (t : Int) := by omega
                by_cases htl : t < ll
                · have htl1 : (t : Int) < (ll : Int) := by omega
                  obtain ⟨xx, hxx⟩ : ∃ xx, (path (leafF L) k 0 m)[t]? = some xx := ⟨_, List.getElem?_eq_getElem (by rw [← QB.out.2.2.2]; exact htl)⟩
                  have hal := path_all (leafF_len L) m k 0
                  obtain ⟨ga, oa, rfl, hga, ra⟩ := seg_sum QB.out.2.1 hal hxx (by omega)
                  obtain ⟨gb, ob, rfl, hgb, rb⟩ := seg_sum QB.out.2.2.1 hal hxx (by omega)
                  have HX : Hid (xx.length = 32) := Lib.hid (hal xx (List.mem_of_getElem? hxx))
                  have hC : (fun V : World => V.rangeAt ga (oa + t * 32) (xx.map byteV) ∧ V.rangeAt gb (ob + t * 32) (xx.map byteV)) wr.drew := ⟨fun j u hj => by
                    rw [← ra j u hj]; unfold World.cell?; show _ = _; rw [← HB.out.block ga hga]; rfl, fun j u hj => by
                    rw [← rb j u hj]; unfold World.cell?; show _ = _; rw [← HB.out.block gb hgb]; rfl⟩
                  clear hal hxx ra rb
                  go_wp2_with fail
                  refine wp_region_quiet (fun V : World => V.rangeAt ga (oa + t * 32) (xx.map byteV) ∧ V.rangeAt gb (ob + t * 32) (xx.map byteV)) [] (by kernel_rfl) ?_
                  refine quiet_take 0 (some 164) (v := .slice (some ⟨ga, oa, none⟩) ll ca) rfl rfl (by kernel_rfl) (by kernel_rfl) (by kernel_rfl) (fun _ _ _ h => h) (by kernel_rfl) (by kernel_rfl) (by kernel_rfl) (fun V _ => by go_simp) hC ?_
                  refine quiet_take 1 (some 165) (v := .int .i64 t) rfl rfl (by kernel_rfl) (by kernel_rfl) (by kernel_rfl) (fun _ _ _ h => h) (by kernel_rfl) (by kernel_rfl) (by kernel_rfl) (fun V _ => by go_simp) hC ?_
                  refine quiet_take 2 (some 166) (v := .pointer (some ⟨ga, oa + t * 32, none⟩)) rfl rfl (by kernel_rfl) (by kernel_rfl) (by kernel_rfl) (fun _ _ _ h => h) (by kernel_rfl) (by kernel_rfl) (by kernel_rfl) (fun V _ => by go_simp) hC ?_
                  refine quiet_take 3 (some 167) (v := .agg (cellsOf xx)) rfl rfl (by kernel_rfl) (by kernel_rfl) (by kernel_rfl) (fun _ _ _ h => h) (by kernel_rfl) (by kernel_rfl) (by kernel_rfl) (fun V hV => by have hl := run_loadAt_mid (P := Tryd.prog) V ga (oa + t * 32) 32 (xx.map byteV) _ hV.1 Tryd.underlying32 rfl (by rw [List.length_map, HX.out]; kernel_rfl); exact exec_load 32 (.tmp 166) rfl (.pointer (some ⟨ga, oa + t * 32, none⟩)) rfl hl) hC ?_
                  simp only [Act.put, List.setIfInBounds_toArray, List.set_cons_zero, List.set_cons_succ]
                  refine quiet_take 4 (some 168) (v := .slice (some ⟨gb, ob, none⟩) ll cb) rfl rfl (by kernel_rfl) (by kernel_rfl) (by kernel_rfl) (fun _ _ _ h => h) (by kernel_rfl) (by kernel_rfl) (by kernel_rfl) (fun V _ => by go_simp) hC ?_
                  refine quiet_take 5 (some 169) (v := .int .i64 t) rfl rfl (by kernel_rfl) (by kernel_rfl) (by kernel_rfl) (fun _ _ _ h => h) (by kernel_rfl) (by kernel_rfl) (by kernel_rfl) (fun V _ => by go_simp) hC ?_
                  refine quiet_take 6 (some 170) (v := .pointer (some ⟨gb, ob + t * 32, none⟩)) rfl rfl (by kernel_rfl) (by kernel_rfl) (by kernel_rfl) (fun _ _ _ h => h) (by kernel_rfl) (by kernel_rfl) (by kernel_rfl) (fun V _ => by go_simp) hC ?_
                  refine quiet_take 7 (some 171) (v := .agg (cellsOf xx)) rfl rfl (by kernel_rfl) (by kernel_rfl) (by kernel_rfl) (fun _ _ _ h => h) (by kernel_rfl) (by kernel_rfl) (by kernel_rfl) (fun V hV => by have hl := run_loadAt_mid (P := Tryd.prog) V gb (ob + t * 32) 32 (xx.map byteV) _ hV.2 Tryd.underlying32 rfl (by rw [List.length_map, HX.out]; kernel_rfl); exact exec_load 32 (.tmp 170) rfl (.pointer (some ⟨gb, ob + t * 32, none⟩)) rfl hl) hC ?_
                  simp only [Act.put, List.setIfInBounds_toArray, List.set_cons_zero, List.set_cons_succ]
                  refine quiet_take 8 (some 172) (v := .bool false) rfl rfl (by kernel_rfl) (by kernel_rfl) (by kernel_rfl) (fun _ _ _ h => h) (by kernel_rfl) (by kernel_rfl) (by kernel_rfl) (fun V _ => by have he := run_eqin_same xx HX.out V; go_simp) hC ?_
                  simp only [Act.put, List.setIfInBounds_toArray, List.set_cons_zero, List.set_cons_succ]
                  refine quiet_done (by kernel_rfl) ?_ _
                  have HB2 : Hid (Below wd.heap.size wd wr.drew) := Lib.hid HB.out.drew
                  clear hC HB
                  go_wp2_with fail
                  refine ⟨⟨t + 1, by rw [Int.natCast_add]; rfl, by omega, HB2⟩, ?_⟩
                  show ll - ((t : Int) + 1).toNat < ll - ((t : Int)).toNat
                  omega
                · obtain rfl : t = ll := by omega
                  go_wp2_with fail
                  have hms : m - ((k : Int) + 1).toNat < m - ((k : Int)).toNat := by omega
                  have HE := Lib.hid (QB.out.1.more HB.out)
                  have hcs : Value.int .i64 ((k : Int) + 1) = .int .i64 ((k + 1 : Nat) : Int) := by rw [Int.natCast_add]; rfl
                  first
                    | exact ⟨⟨k + 1, hcs, by omega, HE⟩, hms⟩
                    | (refine ⟨?_, hms⟩
                       repeat apply Exists.intro
                       exact ⟨⟨k + 1, hcs, by omega, HE⟩, rfl⟩)
          · obtain rfl : k = m := by omega
            go_wp2_with fail
            have hms : N + 1 - ((k : Int) + 1).toNat < N + 1 - ((k : Int)).toNat := by omega
            have HE := HK
            have hcs : Value.int .i64 ((k : Int) + 1) = .int .i64 ((k + 1 : Nat) : Int) := by rw [Int.natCast_add]; rfl
            first
              | exact ⟨⟨k + 1, hcs, by omega, HE⟩, hms⟩
              | (refine ⟨?_, hms⟩
                 repeat apply Exists.intro
                 exact ⟨⟨k + 1, hcs, by omega, HE⟩, rfl⟩)
    · obtain rfl : m = N + 1 := by omega
      have hx : ¬ ((N + 1 : Nat) : Int) ≤ (N : Int) := by omega
      go_wp2_with fail
      have HF0 : Hid (Calls Tryd.prog 15 #[.pointer (some ⟨ta, 0, none⟩)] wr fun en w' => en = .returned (.int .i64 (0 : Nat)) ∧ wr = w') := Lib.hid (by
        obtain ⟨F, tr⟩ := HS.out.ta
        exact tr.floor_calls)
      refine HF0.out.mono ?_
      rintro en wx ⟨rfl, rfl⟩
      go_wp2_with fail
      go_ret
      exact ⟨rfl, HS.out.bel⟩
theorem own : ownKnob Tryd.prog.godebug = none := by kernel_rfl
theorem laidOut : laidOutB Tryd.prog = true := by kernel_rfl

set_option maxRecDepth 100000 in
theorem lifted (os : Os) (started : os.Started) (H : Type) (enc : TypeId × Value → H) :
    ReturnsInHanded {} Tryd.checked os 4 .any (fun w args => (Rows.treeForgetsSpec.pre enc Tryd.prog Tryd.f4 [] false w args ∧ laidMetH Tryd.prog Rows.treeForgetsRow.laid w) ∧ sizedMet enc Tryd.prog Tryd.f4 (OpenSpec.ofChange Rows.treeForgetsSpec) false w args)
      (Rows.treeForgetsSpec.post enc Tryd.prog Tryd.f4 false true false false) := by
  refine returnsInHanded_of_change_and (C := Tryd.checked) (X := fun w _ => laidMetH Tryd.prog Rows.treeForgetsRow.laid w) (fun _ _ _ hh h => h.of_heap hh) own started (by kernel_rfl) Tryd.func4
    (ChangeSpec.witness_shaped (enc := enc) (C := Tryd.checked) (os := os) (X := fun w _ => laidMetH Tryd.prog Rows.treeForgetsRow.laid w) false (World.doorLaid Tryd.prog 31 os) #[.slice none 0 0, .int .i64 0, .int .i64 0] 8 rfl (door_shaped os _) (by kernel_rfl) (by kernel_rfl) (by kernel_rfl) (door_met os _)) ?_
  intro W base args ds gs before hval0 hW _ _ hL _
  have hval : ∀ (j : Nat) t v, Tryd.f4.params[j]? = some t → args[j]? = some v → Value.okWide Tryd.prog W .any base t v := hval0
  have hW' := hW
  obtain ⟨p, q, hA0, hV, rfl, _, _⟩ := hW
  have hA : DataW.TrodAll enc Tryd.prog W 0 (fun _ => true) true Tryd.f4.params.toList args.toList ds p := hA0
  rw [Tryd.params4] at hA hval
  obtain ⟨v0, vs0, d0, ds0, p0, q0, hargs, rfl, rfl, h0, r0⟩ := trodAll_cons hA
  obtain ⟨v1, vs1, d1, ds1, p1, q1, rfl, rfl, rfl, h1, r1⟩ := trodAll_cons r0
  obtain ⟨v2, vs2, d2, ds2, p2, q2, rfl, rfl, rfl, h2, r2⟩ := trodAll_cons r1
  obtain ⟨rfl, rfl, rfl⟩ := trodAll_nil r2
  obtain rfl : args = #[v0, v1, v2] := by cases args; simp_all
  obtain ⟨rfl, rfl⟩ := trodVars_none hV
  obtain ⟨a0, len0, cap0, rfl⟩ := okWide_slice Tryd.underlying22 (hval 0 22 v0 rfl rfl)
  have k0 := h0
  have lt0 : ∀ x ∈ p0, x.block < W.heap.size := by obtain ⟨m, hm⟩ := k0; exact DataW.trod_lt m _ _ _ hm
  have w0 : Arg0 W a0 len0 cap0 := opened0 h0
  obtain ⟨a1, rfl, rfl, rfl, w1⟩ := open_int Tryd.underlying3 (hval 1 3 v1 rfl rfl) h1
  obtain ⟨a2, rfl, rfl, rfl, w2⟩ := open_int Tryd.underlying3 (hval 2 3 v2 rfl rfl) h2
  clear hA0 hval0
  refine (walk a0 len0 cap0 a1 a2 W w0 w1 w2 (rt_of_laid (rest := []) hL)).mono fun e W' ⟨he, bel⟩ => ?_
  subst he
  exact ⟨_, rfl, _, _, _, [], _, [], hW', trodAll_mk1 (shut_bool Tryd.underlying4 _), (trodAll_cons_mk (Below.trod laidOut (by kernel_rfl) (of_decide_eq_true (by kernel_rfl)) k0 bel lt0) (trodAll_cons_mk (shut_int Tryd.underlying3 w1) (trodAll_cons_mk (shut_int Tryd.underlying3 w2) trodAll_mk0))), rfl, bel.frame _, fun h => by cases h⟩

theorem over : Rows.treeForgetsRow.holds Tryd.pinned (OpenSpec.ofChange Rows.treeForgetsSpec) :=
  OpenClaim.holds_of_wide 4 Tryd.f4 rfl rfl rfl rfl rfl rfl rfl ⟨rfl, rfl, rfl, rfl, rfl⟩ rfl rfl rfl rfl rfl (by kernel_rfl) Tryd.func4 (by kernel_rfl)
    (of_decide_eq_true (by kernel_rfl)) (by unfold Func.isWrapper; first | (rw [if_pos (by decide +kernel)]; kernel_rfl) | (rw [if_neg (by decide +kernel)]; exact ⟨rfl, rfl⟩))
    (fun os started H enc _ => lifted os started H enc)

theorem plain (f : FuncId) (fn : Func) (hf : Tryd.pinned.checked.prog.funcNamed "hindsight/hindsightlaw09.TreeForgets" = some f) (hfn : Tryd.pinned.checked.prog.funcs[f]? = some fn) :
    (true : Bool) = Tryd.pinned.checked.prog.looks [] ∧ ∀ (j : Nat) t, fn.params[j]? = some t → Tryd.pinned.checked.prog.wantsStandIn t = false := by
  obtain rfl : f = 4 := Option.some.inj ((show Tryd.prog.funcNamed "hindsight/hindsightlaw09.TreeForgets" = some 4 by kernel_rfl).symm.trans hf) |>.symm
  obtain rfl : fn = Tryd.f4 := (Option.some.inj (Tryd.func4.symm.trans hfn)).symm
  refine ⟨by kernel_rfl, fun j t ht => ?_⟩
  rw [Tryd.params4] at ht
  have hm := Array.mem_of_getElem? ht
  simp only [List.mem_toArray, List.mem_cons, List.not_mem_nil, or_false] at hm
  rcases hm with rfl | rfl | rfl
  · exact (show Tryd.prog.wantsStandIn 22 = false by kernel_rfl)
  · exact (show Tryd.prog.wantsStandIn 3 = false by kernel_rfl)
  · exact (show Tryd.prog.wantsStandIn 3 = false by kernel_rfl)

theorem card : Rows.TreeForgetsCardSaid :=
  Claim7.holds_tied_plain_at .later [] _ _ _ _ over (fun _ h => by cases h) (by kernel_rfl) (fun _ h => by cases h) treeForgets_row_tie rfl ⟨rfl, rfl⟩ (by kernel_rfl) rfl plain (by kernel_rfl)

theorem proved : Rows.TreeForgetsCardSaid := card



end Go.Proofs.YtplidcgoclebcaaDoor.treeForgets
