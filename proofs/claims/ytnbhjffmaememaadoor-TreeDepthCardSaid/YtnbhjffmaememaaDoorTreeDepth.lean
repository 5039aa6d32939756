/- TreeDepth: for every list of texts, every three numbers the law answers true, and its arguments read afterwards as they did. Conditions: the row lists three package-level variables (digest's table of rounds, and both tables of math/bits), which the card ties to the program's text. -/
import Derived.Test.YtnbhjffmaememaaDoorTreeJ
import Derived.Test.YtnbhjffmaememaaDoorLvs
import Derived.Test.YtnbhjffmaememaaDoorInts
import Derived.Test.YtnbhjffmaememaaDoorTreeQ
import Derived.Test.YtnbhjffmaememaaDoorCards
import Derived.Test.YtnbhjffmaememaaDoorTie
import Derived.ProofKit
import Derived.OpenShut
import Derived.SevenTiedAt
namespace Go.Proofs.YtnbhjffmaememaaDoor.treeDepth
open Go.ChangeShapes Go.WideShapes Go.ChangeAt Go.RowKit Go.Proofs.YtnbhjffmaememaaDoor.dig Go.Proofs.YtnbhjffmaememaaDoor.tree

def Arg0 (w : World) (a : Option Addr) (len cap : Nat) : Prop := ∃ T, ArgS w a len cap T
theorem opened0 {H : Type} {enc : TypeId × Value → H} {w : World} {spare : Nat → Bool} {held : Bool} {a : Option Addr} {len cap : Nat} {d : DataW H} {p : List MemPlace} (h : DataW.Trod enc Tryd.prog w 0 spare held 22 (.slice a len cap) d p) : Arg0 w a len cap := openedStrs h

theorem tops_half {k : Nat} (h : 0 < k) : tops k = tops (k / 2) + 1 := by
  unfold tops
  rw [if_neg (by omega)]
  by_cases h2 : k / 2 = 0
  · rw [if_pos h2]
    have : k = 1 := by omega
    subst this
    decide +kernel
  · rw [if_neg h2, Nat.log2_def, if_pos (by omega)]
theorem lt_pow_tops (k : Nat) : k < 2 ^ tops k := by
  rcases Nat.lt_or_ge k (2 ^ tops k) with h | h
  · exact h
  · have := lt_tops.2 h; omega

/-- What lasts: the tree over the texts L, whose sums are f. -/
structure At (w : World) (F : Nat → Prop) (b : Nat) (L : List ByteArray) (w' : World) : Prop where
  tr : Tr w.heap.size F w' b L.length 0 (leafF L)
  bel : Below w.heap.size w w'
theorem At.more {w w' w2 : World} {F : Nat → Prop} {b : Nat} {L : List ByteArray} (h : At w F b L w') (bb : Below w'.heap.size w' w2) : At w F b L w2 := ⟨h.tr.below bb, h.bel.trans (bb.mono h.bel.size)⟩

set_option maxRecDepth 100000 in
set_option maxHeartbeats 2000000 in
theorem walk (a : Option Addr) (len cap : Nat) (n i m : Int) (w : World) (hA : Arg0 w a len cap) (hn : (Lit.int .i64 n).wf = true) (_hi : (Lit.int .i64 i).wf = true) (_hm : (Lit.int .i64 m).wf = true) (hR : Rt w.heap.size w) :
    Calls Tryd.prog 7 #[.slice a len cap, .int .i64 n, .int .i64 i, .int .i64 m] w fun en w' => en = .returned (.bool true) ∧ Below w.heap.size w w' := by
  obtain ⟨T, hT⟩ := hA
  have hn2 := wf_i64 hn
  have HT := Lib.hid hT
  have HR := Lib.hid hR
  obtain ⟨r1, hr1⟩ : ∃ r : Int, bits .and .i64 i 255 = r := ⟨_, rfl⟩
  obtain ⟨r2, hr2⟩ : ∃ r : Int, bits .and .i64 m 255 = r := ⟨_, rfl⟩
  have hq1 : 0 ≤ r1 ∧ r1 ≤ 255 := by have h := hr1; rw [and255] at h; omega
  have hq2 : 0 ≤ r2 ∧ r2 ≤ 255 := by have h := hr2; rw [and255] at h; omega
  obtain ⟨hq10, hq11⟩ := hq1
  obtain ⟨hq20, hq21⟩ := hq2
  clear hT hR
  go_enter Tryd.func7, Tryd.ntmps7
  go_wp2_with fail
  refine (tawake_calls _ w HR.out).mono ?_
  rintro en w1 ⟨rfl, b1⟩
  have R1 : Hid (Rt w.heap.size w1 ∧ Below w.heap.size w w1 ∧ ArgS w1 a len cap T) := Lib.hid ⟨HR.out.below b1 (Nat.le_refl _), b1, HT.out.1, HT.out.2.1, fun k hk => by
    obtain ⟨gb, go, h1, h2, h3, h4⟩ := HT.out.2.2 k hk
    exact ⟨gb, go, h1, Nat.lt_of_lt_of_le h2 b1.size, by rw [← h3]; unfold World.cell?; rw [b1.block gb h2], h4⟩⟩
  clear b1 HR HT
  go_wp2_with fail
  refine (leaves_calls a len cap T n w1 R1.out.2.2 hn2.1 hn2.2).mono ?_
  rintro en w2 ⟨v, L, rfl, hs2, hlen, lo2, b2⟩
  obtain ⟨a0, c0, rfl, hc1, hc2⟩ := hs2.1.slice
  have hc3 : (c0 : Int) ≤ 9223372036854775807 := by unfold maxLen at hc2; omega
  have hl40 : L.length ≤ 40 := by omega
  have R2 : Hid (Rt w.heap.size w2 ∧ Below w.heap.size w w2 ∧ Strs w2 (.slice a0 L.length c0) L) := Lib.hid ⟨R1.out.1.below b2 R1.out.2.1.size, R1.out.2.1.trans (b2.mono R1.out.2.1.size), hs2⟩
  have hcl : (L.length : Int) ≤ (c0 : Int) := by omega
  clear hs2 lo2 b2 R1 hlen hc2 hc1
  obtain ⟨N, hN⟩ : ∃ N, N = L.length := ⟨_, rfl⟩
  have HN := Lib.hid hN
  rw [← hN] at hl40 hcl ⊢
  clear hN
  by_cases h0 : N = 0
  · subst h0
    go_wp2_with fail
    go_ret
    exact ⟨rfl, R2.out.2.1⟩
  · have h1 : ¬ (N : Int) = 0 := by omega
    go_wp2_with fail
    refine (tnew_calls _ (leafF L) w2 R2.out.1 (leafF_len L)).mono ?_
    rintro en w3 ⟨b, rfl, hb, t3, b3⟩
    have R3 : Hid (Tr w.heap.size (fun k => k = b) w3 b 0 0 (leafF L) ∧ Below w.heap.size w w3 ∧ Strs w3 (.slice a0 L.length c0) L ∧ w2.heap.size ≤ b ∧ ∀ x, (Value.slice a0 L.length c0).ownBlock = some x → x < w2.heap.size) :=
      Lib.hid ⟨t3, R2.out.2.1.trans (b3.mono R2.out.2.1.size), ⟨R2.out.2.2.1.below b3 (fun x hx => R2.out.2.2.1.lt hx), R2.out.2.2.2⟩, hb, fun x hx => R2.out.2.2.1.lt hx⟩
    clear t3 b3 hb
    have hap := R3.out.1.append_calls a0 c0 L R3.out.2.2.1 (fun x hx e => by have := R3.out.2.2.2.2 x hx; have := R3.out.2.2.2.1; omega) (fun i s hs => by rw [Nat.zero_add]; exact leafF_at L i s hs) (by have := HN.out; omega)
    rw [Nat.zero_add] at hap
    have HAP := Lib.hid hap
    clear hap
    go_wp2_with fail
    rw [HN.out]
    refine HAP.out.mono ?_
    rintro en w4 ⟨rfl, t4, u4⟩
    have A4 : Hid (At w (fun k => k = b ∨ w3.heap.size ≤ k) b L w4) := Lib.hid ⟨t4, turn_below R3.out.2.1 u4 R3.out.2.1.size (fun k e => by rw [e]; have := R3.out.2.2.2.1; have := R2.out.2.1.size; omega)⟩
    clear t4 u4 HAP R3 R2
    generalize (fun k => k = b ∨ w3.heap.size ≤ k) = F at *
    rw [← HN.out]
    obtain ⟨N0, hN0⟩ : ∃ N0, N = N0 + 1 := ⟨N - 1, by omega⟩
    have hN1 : (N : Int) - 1 = (N0 : Int) := by omega
    have hN2 : (N0 : Int) ≤ 40 := by omega
    have HN0 := Lib.hid hN0
    clear hN0 h0
    have ht40 : tops N0 ≤ 6 := tops_le (by have := HN0.out; omega)
    obtain ⟨D, hD⟩ : ∃ D, D = tops N0 := ⟨_, rfl⟩
    rw [← hD] at ht40
    have HD := Lib.hid hD
    go_wp2_with fail
    go_loopw [11, 12] (fun x y wr => ∃ k d : Nat, x = .int .i64 d ∧ y = .int .i64 k ∧ k ≤ N0 ∧ d + tops k = D ∧ wr = w4) (fun _ y _ => (intOf y).toNat)
    case atStart => exact ⟨N0, 0, rfl, rfl, Nat.le_refl _, by rw [Nat.zero_add]; exact hD.symm, rfl⟩
    case round =>
      obtain ⟨k, d, rfl, rfl, hk, hd, rfl⟩ := hrel
      clear hD
      have hk40 : (k : Int) ≤ 40 := by omega
      have hk0 : (0 : Int) ≤ (k : Int) := by omega
      have hd6 : (d : Int) ≤ 6 := by omega
      have hd0 : (0 : Int) ≤ (d : Int) := by omega
      by_cases hkp : 0 < k
      · have hkp2 : (0 : Int) < (k : Int) := by omega
        have HDD := Lib.hid hd
        have HTK := Lib.hid (tops_half hkp)
        obtain ⟨k2, hk2⟩ : ∃ k2, k2 = k / 2 := ⟨_, rfl⟩
        have hq2 : (k : Int).tdiv 2 = (k2 : Int) := by rw [Int.tdiv_eq_ediv_of_nonneg hk0]; omega
        have hk20 : (0 : Int) ≤ (k2 : Int) := by omega
        have hk21 : (k2 : Int) ≤ 40 := by omega
        rw [← hk2] at HTK
        have HK2 : Hid (k2 < k ∧ k2 ≤ N0) := Lib.hid (by omega)
        clear hd hk2
        go_wp2_with fail
        refine ⟨⟨k2, d + 1, by rw [Int.natCast_add]; rfl, rfl, HK2.out.2, by have h1 := HDD.out; rw [HTK.out] at h1; omega, trivial⟩, ?_⟩
        show ((k2 : Int)).toNat < ((k : Int)).toNat
        have := HK2.out.1
        omega
      · obtain rfl : k = 0 := by omega
        obtain rfl : d = D := by have : tops 0 = 0 := rfl; omega
        have hNc : (0 : Int) < (N : Int) := by have := HN0.out; omega
        obtain ⟨q1, hq1⟩ : ∃ q1 : Nat, r1 % (N : Int) = (q1 : Int) := ⟨(r1 % (N : Int)).toNat, by rw [Int.toNat_of_nonneg (Int.emod_nonneg _ (by omega))]⟩
        have hq1N : q1 < N := by have := Int.emod_lt_of_pos r1 hNc; omega
        obtain ⟨q2, hq2⟩ : ∃ q2 : Nat, r2 % ((N : Int) + 1) = (q2 : Int) := ⟨(r2 % ((N : Int) + 1)).toNat, by rw [Int.toNat_of_nonneg (Int.emod_nonneg _ (by omega))]⟩
        have hq2N : q2 ≤ N := by have := Int.emod_lt_of_pos r2 (show (0 : Int) < (N : Int) + 1 by omega); omega
        have ht1 : r1.tmod (N : Int) = (q1 : Int) := by rw [Int.tmod_eq_emod_of_nonneg hq10]; exact hq1
        have ht2 : r2.tmod ((N : Int) + 1) = (q2 : Int) := by rw [Int.tmod_eq_emod_of_nonneg hq20]; exact hq2
        have hin := A4.out.tr.inclusion (by have := HN.out; omega) q1 N (by rw [HN.out]; exact Nat.le_refl _) hq1N (Nat.zero_le _)
        have HIN := Lib.hid hin
        have HP1 : Hid ((path (leafF L) q1 0 N).length ≤ d) := Lib.hid (path_le _ _ _ _ _ (by have h1 := lt_pow_tops N0; rw [← HD.out] at h1; have := HN0.out; omega))
        have HP2 : Hid ((steps (leafF L) q2 0 N true).length ≤ d + 1) := Lib.hid (steps_le _ _ _ _ _ _ (by have h1 := lt_pow_tops N0; rw [← HD.out] at h1; have := HN0.out; omega))
        clear hin hd hk hq1 hq2 hk40 hk0
        go_wp2_with fail
        refine HIN.out.mono ?_
        rintro en w5 ⟨v1, rfl, s1, lo1, b1⟩
        obtain ⟨a1, c1, rfl, hd1, hd2⟩ := s1.slice
        have hd3 : (c1 : Int) ≤ 9223372036854775807 := by unfold maxLen at hd2; omega
        have A5 : Hid (At w F b L w5) := Lib.hid (A4.out.more b1)
        obtain ⟨l1, hl1⟩ : ∃ l1, l1 = (path (leafF L) q1 0 N).length := ⟨_, rfl⟩
        rw [← hl1] at HP1 hd1 ⊢
        have hl1d : (l1 : Int) ≤ (d : Int) := by have := HP1.out; omega
        clear s1 lo1 b1 A4 HIN HP1 hd2 hl1
        go_wp2_with fail
        have hcons : Hid (Calls Tryd.prog 37 #[.pointer (some ⟨b, 0, none⟩), .int .i64 q2, .int .i64 N] w5 fun en w' => ∃ a2 l2 c2, en = .returned (.tuple #[.slice a2 l2 c2, .int .i64 0]) ∧ l2 ≤ d + 1 ∧ l2 ≤ c2 ∧ c2 ≤ maxLen ∧ Below w.heap.size w w') := by
          by_cases hz : q2 = 0
          · subst hz
            refine Lib.hid ((A5.out.tr.consistency_none N (by rw [HN.out]; exact Nat.le_refl _) rfl).mono ?_)
            rintro en w' ⟨rfl, rfl⟩
            exact ⟨none, 0, 0, rfl, Nat.zero_le _, Nat.zero_le _, Nat.zero_le _, A5.out.bel⟩
          · refine Lib.hid ((A5.out.tr.consistency (by have := HN.out; omega) q2 N (by rw [HN.out]; exact Nat.le_refl _) hq2N (Nat.zero_le _) (by omega)).mono ?_)
            rintro en w' ⟨v2, rfl, s2, lo2, b2⟩
            obtain ⟨a2, c2, rfl, he1, he2⟩ := s2.slice
            exact ⟨a2, _, c2, rfl, HP2.out, he1, he2, A5.out.bel.trans (b2.mono A5.out.bel.size)⟩
        refine hcons.out.mono ?_
        rintro en w6 ⟨a2, l2, c2, rfl, hl2, hl3, hl4, b6⟩
        have B6 := Lib.hid b6
        have hl2d : (l2 : Int) ≤ (d : Int) + 1 := by omega
        have hl5 : (c2 : Int) ≤ 9223372036854775807 := by unfold maxLen at hl4; omega
        clear hcons A5 hl4 b6 HP2
        go_wp2_with fail
        go_ret
        exact ⟨rfl, B6.out⟩
theorem own : ownKnob Tryd.prog.godebug = none := by kernel_rfl
theorem laidOut : laidOutB Tryd.prog = true := by kernel_rfl

set_option maxRecDepth 100000 in
theorem lifted (os : Os) (started : os.Started) (H : Type) (enc : TypeId × Value → H) :
    ReturnsInHanded {} Tryd.checked os 7 .any (fun w args => (Rows.treeDepthSpec.pre enc Tryd.prog Tryd.f7 [] false w args ∧ laidMetH Tryd.prog Rows.treeDepthRow.laid w) ∧ sizedMet enc Tryd.prog Tryd.f7 (OpenSpec.ofChange Rows.treeDepthSpec) false w args)
      (Rows.treeDepthSpec.post enc Tryd.prog Tryd.f7 false true false false) := by
  refine returnsInHanded_of_change_and (C := Tryd.checked) (X := fun w _ => laidMetH Tryd.prog Rows.treeDepthRow.laid w) (fun _ _ _ hh h => h.of_heap hh) own started (by kernel_rfl) Tryd.func7
    (ChangeSpec.witness_shaped (enc := enc) (C := Tryd.checked) (os := os) (X := fun w _ => laidMetH Tryd.prog Rows.treeDepthRow.laid w) false (World.doorLaid Tryd.prog 31 os) #[.slice none 0 0, .int .i64 0, .int .i64 0, .int .i64 0] 8 rfl (door_shaped os _) (by kernel_rfl) (by kernel_rfl) (by kernel_rfl) (door_met os _)) ?_
  intro W base args ds gs before hval0 hW _ _ hL _
  have hval : ∀ (j : Nat) t v, Tryd.f7.params[j]? = some t → args[j]? = some v → Value.okWide Tryd.prog W .any base t v := hval0
  have hW' := hW
  obtain ⟨p, q, hA0, hV, rfl, _, _⟩ := hW
  have hA : DataW.TrodAll enc Tryd.prog W 0 (fun _ => true) true Tryd.f7.params.toList args.toList ds p := hA0
  rw [Tryd.params7] at hA hval
  obtain ⟨v0, vs0, d0, ds0, p0, q0, hargs, rfl, rfl, h0, r0⟩ := trodAll_cons hA
  obtain ⟨v1, vs1, d1, ds1, p1, q1, rfl, rfl, rfl, h1, r1⟩ := trodAll_cons r0
  obtain ⟨v2, vs2, d2, ds2, p2, q2, rfl, rfl, rfl, h2, r2⟩ := trodAll_cons r1
  obtain ⟨v3, vs3, d3, ds3, p3, q3, rfl, rfl, rfl, h3, r3⟩ := trodAll_cons r2
  obtain ⟨rfl, rfl, rfl⟩ := trodAll_nil r3
  obtain rfl : args = #[v0, v1, v2, v3] := by cases args; simp_all
  obtain ⟨rfl, rfl⟩ := trodVars_none hV
  obtain ⟨a0, len0, cap0, rfl⟩ := okWide_slice Tryd.underlying22 (hval 0 22 v0 rfl rfl)
  have k0 := h0
  have lt0 : ∀ x ∈ p0, x.block < W.heap.size := by obtain ⟨m, hm⟩ := k0; exact DataW.trod_lt m _ _ _ hm
  have w0 : Arg0 W a0 len0 cap0 := opened0 h0
  obtain ⟨a1, rfl, rfl, rfl, w1⟩ := open_int Tryd.underlying3 (hval 1 3 v1 rfl rfl) h1
  obtain ⟨a2, rfl, rfl, rfl, w2⟩ := open_int Tryd.underlying3 (hval 2 3 v2 rfl rfl) h2
  obtain ⟨a3, rfl, rfl, rfl, w3⟩ := open_int Tryd.underlying3 (hval 3 3 v3 rfl rfl) h3
  clear hA0 hval0
  refine (walk a0 len0 cap0 a1 a2 a3 W w0 w1 w2 w3 (rt_of_laid (rest := []) hL)).mono fun e W' ⟨he, bel⟩ => ?_
  subst he
  exact ⟨_, rfl, _, _, _, [], _, [], hW', trodAll_mk1 (shut_bool Tryd.underlying4 _), (trodAll_cons_mk (Below.trod laidOut (by kernel_rfl) (of_decide_eq_true (by kernel_rfl)) k0 bel lt0) (trodAll_cons_mk (shut_int Tryd.underlying3 w1) (trodAll_cons_mk (shut_int Tryd.underlying3 w2) (trodAll_cons_mk (shut_int Tryd.underlying3 w3) trodAll_mk0)))), rfl, bel.frame _, fun h => by cases h⟩

theorem over : Rows.treeDepthRow.holds Tryd.pinned (OpenSpec.ofChange Rows.treeDepthSpec) :=
  OpenClaim.holds_of_wide 7 Tryd.f7 rfl rfl rfl rfl rfl rfl rfl ⟨rfl, rfl, rfl, rfl, rfl⟩ rfl rfl rfl rfl rfl (by kernel_rfl) Tryd.func7 (by kernel_rfl)
    (of_decide_eq_true (by kernel_rfl)) (by unfold Func.isWrapper; first | (rw [if_pos (by decide +kernel)]; kernel_rfl) | (rw [if_neg (by decide +kernel)]; exact ⟨rfl, rfl⟩))
    (fun os started H enc _ => lifted os started H enc)

theorem plain (f : FuncId) (fn : Func) (hf : Tryd.pinned.checked.prog.funcNamed "hindsight/hindsightlaw09.TreeDepth" = some f) (hfn : Tryd.pinned.checked.prog.funcs[f]? = some fn) :
    (true : Bool) = Tryd.pinned.checked.prog.looks [] ∧ ∀ (j : Nat) t, fn.params[j]? = some t → Tryd.pinned.checked.prog.wantsStandIn t = false := by
  obtain rfl : f = 7 := Option.some.inj ((show Tryd.prog.funcNamed "hindsight/hindsightlaw09.TreeDepth" = some 7 by kernel_rfl).symm.trans hf) |>.symm
  obtain rfl : fn = Tryd.f7 := (Option.some.inj (Tryd.func7.symm.trans hfn)).symm
  refine ⟨by kernel_rfl, fun j t ht => ?_⟩
  rw [Tryd.params7] at ht
  have hm := Array.mem_of_getElem? ht
  simp only [List.mem_toArray, List.mem_cons, List.not_mem_nil, or_false] at hm
  rcases hm with rfl | rfl | rfl | rfl
  · exact (show Tryd.prog.wantsStandIn 22 = false by kernel_rfl)
  · exact (show Tryd.prog.wantsStandIn 3 = false by kernel_rfl)
  · exact (show Tryd.prog.wantsStandIn 3 = false by kernel_rfl)
  · exact (show Tryd.prog.wantsStandIn 3 = false by kernel_rfl)

theorem card : Rows.TreeDepthCardSaid :=
  Claim7.holds_tied_plain_at .later [] _ _ _ _ over (fun _ h => by cases h) (by kernel_rfl) (fun _ h => by cases h) treeDepth_row_tie rfl ⟨rfl, rfl⟩ (by kernel_rfl) rfl plain (by kernel_rfl)

theorem proved : Rows.TreeDepthCardSaid := card


end Go.Proofs.YtnbhjffmaememaaDoor.treeDepth
