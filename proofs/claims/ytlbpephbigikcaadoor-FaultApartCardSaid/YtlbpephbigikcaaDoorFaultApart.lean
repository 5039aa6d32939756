/- FaultApart: for any two lists of steps and any two numbers the law answers true, and its arguments read afterwards as they did. Conditions: the variable that the row lists reads as the program's own initialisers leave it (the card ties it). -/
import Derived.Test.YtlbpephbigikcaaDoorFltL
import Derived.Test.YtlbpephbigikcaaDoorFltK
import Derived.Test.YtlbpephbigikcaaDoorCards
import Derived.Test.YtlbpephbigikcaaDoorTie
import Derived.SevenTiedAt
namespace Go.Proofs.YtlbpephbigikcaaDoor.faultApart
open Go Go.RowKit Go.ChangeShapes Go.WideShapes Go.ChangeAt Go.Proofs.YtlbpephbigikcaaDoor.flt




set_option maxRecDepth 100000 in
set_option maxHeartbeats 4000000 in
theorem apart_any (a1 : Option Addr) (len1 c1 : Nat) (T1 : Nat → ByteArray × Int) (a2 : Option Addr) (len2 c2 : Nat) (T2 : Nat → ByteArray × Int) (n m : Int) (w : World) (h1 : ArgT w a1 len1 T1) (h2 : ArgT w a2 len2 T2) (hT : Et w.heap.size w) :
    Calls Tryd.prog 7 #[.slice a1 len1 c1, .slice a2 len2 c2, .int .i64 n, .int .i64 m] w fun en w' => en = .returned (.bool true) ∧ Below w.heap.size w w' := by
  have HT := Lib.hid hT
  have HA1 := Lib.hid h1
  have HA2 := Lib.hid h2
  obtain ⟨x, hx⟩ : ∃ x, num n = x := ⟨_, rfl⟩
  obtain ⟨y, hy⟩ : ∃ y, num m = y := ⟨_, rfl⟩
  have HX := Lib.hid hx
  have HY := Lib.hid hy
  clear hT h1 h2 hx hy
  go_enter Tryd.func7, Tryd.ntmps7
  go_wp2_with fail
  refine (awake_calls w.heap.size w HT.out).mono ?_
  rintro en w1 ⟨rfl, b1⟩
  have B1 := Lib.hid b1
  clear b1
  go_wp2_with fail
  refine (wrapped_calls w.heap.size a1 len1 c1 T1 n w1 (HT.out.below B1.out (Nat.le_refl _)) (HA1.out.below B1.out)).mono ?_
  rintro en w2 ⟨m1, L1, v1, rfl, -, -, -, -, -, hE1, hF1⟩
  rw [HX.out] at hE1 ⊢
  have B2 : Hid (Below w.heap.size w w2) := Lib.hid (B1.out.trans (below_less hF1.2.2 B1.out.size))
  have HE1 := Lib.hid hE1
  clear hE1 hF1
  go_wp2_with fail
  refine (wrapped_calls w.heap.size a2 len2 c2 T2 m w2 (HT.out.below B2.out (Nat.le_refl _)) (HA2.out.below B2.out)).mono ?_
  rintro en w3 ⟨m2, L2, v2, rfl, hm6, -, -, hl2, hM2, hE2, hF2⟩
  rw [HY.out] at hE2 ⊢
  have B3 : Hid (Below w.heap.size w w3) := Lib.hid (B2.out.trans (below_less hF2.2.2 B2.out.size))
  have HT3 : Hid (Et w3.heap.size w3) := Lib.hid (HT.out.whole B3.out)
  have HE1' : Hid (Er w3.heap.size w3 L1 x) := Lib.hid ((HE1.out.below hF2.2.2 (Nat.le_refl _)).more hF2.2.2.size)
  have HE2 := Lib.hid hE2
  have HL := Lib.hid hl2
  have HM := Lib.hid hM2
  have HS := Lib.hid hF2.1
  obtain ⟨q, cq, rfl, -, -⟩ := hF2.1.slice
  have hm2 : (m2 : Int) ≤ 6 := by omega
  clear hE2 hl2 hM2 hF2 HE1
  go_wp2_with fail
  go_loopw [31] (fun i wr => ∃ k : Nat, i = .int .i64 k ∧ k ≤ m2 ∧ Hid (Below w3.heap.size w3 wr)) (fun i _ => 6 - (flt.intOf i).toNat)
  case atStart => exact ⟨0, rfl, Nat.zero_le _, Lib.hid (Below.refl _ _)⟩
  case round =>
    obtain ⟨k, rfl, hk, HB⟩ := hrel
    by_cases hk1 : k < m2
    · have hk1b : (k : Int) < (m2 : Int) := by omega
      have hk0b : (0 : Int) ≤ (k : Int) := by omega
      have HR : Hid (Seg wr 38 2 (.slice q m2 cq) m2 (rowT T2 m2)) := Lib.hid (HS.out.below HB.out (fun b hb => HS.out.lt hb))
      obtain ⟨g, off, c', e, hg, _, _, hcells⟩ := HR.out.cells (by omega)
      injection e with e1 e2 e3
      subst e1
      subst e3
      clear e2
      have c0 : wr.cell? ⟨g, off + k * 2, none⟩ = some (.string (cut10 (T2 k).1)) := hcells (k * 2) _ (rowT_get hk1).1
      have c1 : wr.cell? ⟨g, off + k * 2 + 1, none⟩ = some (.int .i64 (low62 (T2 k).2)) := hcells (k * 2 + 1) _ (rowT_get hk1).2
      have hw := Lib.hid (within_has HM.out (show k < L2.length by have := HL.out; omega))
      obtain ⟨s, hs1⟩ : ∃ s, s = cut10 (T2 k).1 := ⟨_, rfl⟩
      obtain ⟨z, hz1⟩ : ∃ z, z = low62 (T2 k).2 := ⟨_, rfl⟩
      rw [← hs1] at c0 hw
      rw [← hz1] at c1
      clear hs1 hz1 hcells hg
      go_wp2_with (first
        | (go_at_call 22; refine (within_calls w3.heap.size L2 y s _ ?_ ?_ (by have := HL.out; omega)).mono ?_
           · exact HT3.out.below (HB.out.trans ((Below.refl _ _).alloc HB.out.size _)) (Nat.le_refl _)
           · exact HE2.out.below (HB.out.trans ((Below.refl _ _).alloc HB.out.size _)) (Nat.le_refl _)
           rw [hw.out]
           rintro en w5 ⟨rfl, b5⟩
           have B5 : Hid (Below w3.heap.size w3 w5) := Lib.hid ((HB.out.trans ((Below.refl _ _).alloc HB.out.size _)).trans b5)
           clear b5)
        | fail)
      refine ⟨⟨k + 1, by rw [Int.natCast_add]; rfl, by omega, B5⟩, ?_⟩
      show 6 - ((k : Int) + 1).toNat < 6 - ((k : Int)).toNat
      omega
    · have hk1b : ¬ (k : Int) < (m2 : Int) := by omega
      by_cases hxy : x = y
      · subst hxy
        have e1 : (x == x) = true := beq_self_eq_true x
        go_wp2_with fail
        refine (num_is HX.out _).mono ?_
        rintro en v1 ⟨rfl, rfl⟩
        go_wp2_with fail
        refine (has_calls w3.heap.size L1 x x _ (HT3.out.below HB.out (Nat.le_refl _)) (HE1'.out.below HB.out (Nat.le_refl _))).mono ?_
        rw [e1]
        rintro en wr ⟨rfl, b5⟩
        replace HB := Lib.hid (HB.out.trans (below_less b5 HB.out.size))
        clear b5
        go_wp2_with fail
        refine (of_calls w3.heap.size L1 x _ (HT3.out.below HB.out (Nat.le_refl _)) (HE1'.out.below HB.out (Nat.le_refl _))).mono ?_
        rintro en wr ⟨rfl, b5⟩
        replace HB := Lib.hid (HB.out.trans (below_less b5 HB.out.size))
        clear b5
        go_wp2_with fail
        refine (of_calls w3.heap.size L2 x _ (HT3.out.below HB.out (Nat.le_refl _)) (HE2.out.below HB.out (Nat.le_refl _))).mono ?_
        rintro en wr ⟨rfl, b5⟩
        replace HB := Lib.hid (HB.out.trans (below_less b5 HB.out.size))
        clear b5
        go_wp2_with fail
        refine (num_is HX.out _).mono ?_
        rintro en v1 ⟨rfl, rfl⟩
        go_wp2_with fail
        refine (num_is HY.out _).mono ?_
        rintro en v1 ⟨rfl, rfl⟩
        go_wp2_with fail
        refine (num_is HX.out _).mono ?_
        rintro en v1 ⟨rfl, rfl⟩
        go_wp2_with fail
        refine (has_calls w3.heap.size L2 x x _ (HT3.out.below HB.out (Nat.le_refl _)) (HE2.out.below HB.out (Nat.le_refl _))).mono ?_
        rw [e1]
        rintro en wr ⟨rfl, b5⟩
        replace HB := Lib.hid (HB.out.trans (below_less b5 HB.out.size))
        clear b5
        go_wp2_with fail
        refine (num_is HX.out _).mono ?_
        rintro en v1 ⟨rfl, rfl⟩
        go_wp2_with fail
        refine (num_is HY.out _).mono ?_
        rintro en v1 ⟨rfl, rfl⟩
        go_wp2_with fail
        go_ret
        exact ⟨rfl, B3.out.trans (below_less HB.out B3.out.size)⟩
      · have e1 : (x == x) = true := beq_self_eq_true x
        have e2 : (x == y) = false := beq_eq_false_iff_ne.2 hxy
        have e3 : (y == x) = false := beq_eq_false_iff_ne.2 (fun e => hxy e.symm)
        replace hxy := Lib.hid hxy
        go_wp2_with fail
        refine (num_is HX.out _).mono ?_
        rintro en v1 ⟨rfl, rfl⟩
        go_wp2_with fail
        refine (has_calls w3.heap.size L1 x x _ (HT3.out.below HB.out (Nat.le_refl _)) (HE1'.out.below HB.out (Nat.le_refl _))).mono ?_
        rw [e1]
        rintro en wr ⟨rfl, b5⟩
        replace HB := Lib.hid (HB.out.trans (below_less b5 HB.out.size))
        clear b5
        go_wp2_with fail
        refine (of_calls w3.heap.size L1 x _ (HT3.out.below HB.out (Nat.le_refl _)) (HE1'.out.below HB.out (Nat.le_refl _))).mono ?_
        rintro en wr ⟨rfl, b5⟩
        replace HB := Lib.hid (HB.out.trans (below_less b5 HB.out.size))
        clear b5
        go_wp2_with fail
        refine (of_calls w3.heap.size L2 y _ (HT3.out.below HB.out (Nat.le_refl _)) (HE2.out.below HB.out (Nat.le_refl _))).mono ?_
        rintro en wr ⟨rfl, b5⟩
        replace HB := Lib.hid (HB.out.trans (below_less b5 HB.out.size))
        clear b5
        go_wp2_with fail
        refine (num_is HX.out _).mono ?_
        rintro en v1 ⟨rfl, rfl⟩
        go_wp2_with fail
        refine (num_is HY.out _).mono ?_
        rintro en v1 ⟨rfl, rfl⟩
        go_wp2_with fail
        refine (num_is HX.out _).mono ?_
        rintro en v1 ⟨rfl, rfl⟩
        go_wp2_with fail
        refine (has_calls w3.heap.size L2 y x _ (HT3.out.below HB.out (Nat.le_refl _)) (HE2.out.below HB.out (Nat.le_refl _))).mono ?_
        rw [e3]
        rintro en wr ⟨rfl, b5⟩
        replace HB := Lib.hid (HB.out.trans (below_less b5 HB.out.size))
        clear b5
        go_wp2_with fail
        refine (num_is HX.out _).mono ?_
        rintro en v1 ⟨rfl, rfl⟩
        go_wp2_with fail
        refine (num_is HY.out _).mono ?_
        rintro en v1 ⟨rfl, rfl⟩
        go_wp2_with fail
        go_ret
        exact ⟨rfl, B3.out.trans (below_less HB.out B3.out.size)⟩

def Arg0 (w : World) (a : Option Addr) (len _cap : Nat) : Prop := ∃ T, ArgT w a len T
def Arg1 (w : World) (a : Option Addr) (len _cap : Nat) : Prop := ∃ T, ArgT w a len T

theorem walk (a0 : Option Addr) (len0 cap0 : Nat) (a1 : Option Addr) (len1 cap1 : Nat) (n m : Int) (w : World) (w0 : Arg0 w a0 len0 cap0) (w1 : Arg1 w a1 len1 cap1) (_ : (Lit.int .i64 n).wf = true) (_ : (Lit.int .i64 m).wf = true) (hT : Et w.heap.size w) :
    Calls Tryd.prog 7 #[.slice a0 len0 cap0, .slice a1 len1 cap1, .int .i64 n, .int .i64 m] w fun en w' => en = .returned (.bool true) ∧ Below w.heap.size w w' := by
  obtain ⟨T1, h1⟩ := w0
  obtain ⟨T2, h2⟩ := w1
  exact apart_any a0 len0 cap0 T1 a1 len1 cap1 T2 n m w h1 h2 hT

theorem opened0 {H : Type} {enc : TypeId × Value → H} {w : World} {spare : Nat → Bool} {held : Bool} {a : Option Addr} {len cap : Nat} {d : DataW H} {p : List MemPlace} (h : DataW.Trod enc Tryd.prog w 0 spare held 22 (.slice a len cap) d p) : Arg0 w a len cap := openedT h
theorem opened1 {H : Type} {enc : TypeId × Value → H} {w : World} {spare : Nat → Bool} {held : Bool} {a : Option Addr} {len cap : Nat} {d : DataW H} {p : List MemPlace} (h : DataW.Trod enc Tryd.prog w 0 spare held 22 (.slice a len cap) d p) : Arg1 w a len cap := openedT h

theorem own : ownKnob Tryd.prog.godebug = none := by kernel_rfl
theorem laidOut : laidOutB Tryd.prog = true := by kernel_rfl

set_option maxRecDepth 100000 in
theorem lifted (os : Os) (started : os.Started) (H : Type) (enc : TypeId × Value → H) :
    ReturnsInHanded {} Tryd.checked os 7 .any (fun w args => (Rows.faultApartSpec.pre enc Tryd.prog Tryd.f7 [] false w args ∧ laidMetH Tryd.prog Rows.faultApartRow.laid w) ∧ sizedMet enc Tryd.prog Tryd.f7 (OpenSpec.ofChange Rows.faultApartSpec) false w args)
      (Rows.faultApartSpec.post enc Tryd.prog Tryd.f7 false true false false) := by
  refine returnsInHanded_of_change_and (C := Tryd.checked) (X := fun w _ => laidMetH Tryd.prog Rows.faultApartRow.laid w) (fun _ _ _ hh h => h.of_heap hh) own started (by kernel_rfl) Tryd.func7
    (ChangeSpec.witness_shaped (enc := enc) (C := Tryd.checked) (os := os) (X := fun w _ => laidMetH Tryd.prog Rows.faultApartRow.laid w) false (World.doorLaid Tryd.prog 31 os) #[.slice none 0 0, .slice none 0 0, .int .i64 0, .int .i64 0] 8 rfl (door_shaped os _) (by kernel_rfl) (by kernel_rfl) (by kernel_rfl) (door_met os _)) ?_
  intro W base args ds gs before hval0 hW _ _ hL _
  have hval : ∀ (j : Nat) t v, Tryd.f7.params[j]? = some t → args[j]? = some v → Value.okWide Tryd.prog W .any base t v := hval0
  have hW' := hW
  obtain ⟨p, q, hA0, hV, rfl, _, _⟩ := hW
  have hA : DataW.TrodAll enc Tryd.prog W 0 (fun _ => true) true Tryd.f7.params.toList args.toList ds p := hA0
  rw [Tryd.params7] at hA hval
  obtain ⟨v0, vs0, d0, ds0, p0, q0, hargs, rfl, rfl, h0, r0⟩ := trodAll_cons hA
  obtain ⟨v1, vs1, d1, ds1, p1, q1, rfl, rfl, rfl, h1, r1⟩ := trodAll_cons r0
  obtain ⟨v2, vs2, d2, ds2, p2, q2, rfl, rfl, rfl, h2, r2⟩ := trodAll_cons r1
  obtain ⟨v3, vs3, d3, ds3, p3, q3, rfl, rfl, rfl, h3, r3⟩ := trodAll_cons r2
  obtain ⟨rfl, rfl, rfl⟩ := trodAll_nil r3
  obtain rfl : args = #[v0, v1, v2, v3] := by cases args; simp_all
  obtain ⟨rfl, rfl⟩ := trodVars_none hV
  obtain ⟨a0, len0, cap0, rfl⟩ := okWide_slice Tryd.underlying22 (hval 0 22 v0 rfl rfl)
  have k0 := h0
  have lt0 : ∀ x ∈ p0, x.block < W.heap.size := by obtain ⟨m, hm⟩ := k0; exact DataW.trod_lt m _ _ _ hm
  have w0 : Arg0 W a0 len0 cap0 := opened0 h0
  obtain ⟨a1, len1, cap1, rfl⟩ := okWide_slice Tryd.underlying22 (hval 1 22 v1 rfl rfl)
  have k1 := h1
  have lt1 : ∀ x ∈ p1, x.block < W.heap.size := by obtain ⟨m, hm⟩ := k1; exact DataW.trod_lt m _ _ _ hm
  have w1 : Arg1 W a1 len1 cap1 := opened1 h1
  obtain ⟨a2, rfl, rfl, rfl, w2⟩ := open_int Tryd.underlying3 (hval 2 3 v2 rfl rfl) h2
  obtain ⟨a3, rfl, rfl, rfl, w3⟩ := open_int Tryd.underlying3 (hval 3 3 v3 rfl rfl) h3
  clear hA0 hval0
  refine (walk a0 len0 cap0 a1 len1 cap1 a2 a3 W w0 w1 w2 w3 (et_of_laid hL)).mono fun e W' ⟨he, bel⟩ => ?_
  subst he
  exact ⟨_, rfl, _, _, _, [], _, [], hW', trodAll_mk1 (shut_bool Tryd.underlying4 _), (trodAll_cons_mk (Below.trod laidOut (by kernel_rfl) (of_decide_eq_true (by kernel_rfl)) k0 bel lt0) (trodAll_cons_mk (Below.trod laidOut (by kernel_rfl) (of_decide_eq_true (by kernel_rfl)) k1 bel lt1) (trodAll_cons_mk (shut_int Tryd.underlying3 w2) (trodAll_cons_mk (shut_int Tryd.underlying3 w3) trodAll_mk0)))), rfl, bel.frame _, fun h => by cases h⟩

theorem over : Rows.faultApartRow.holds Tryd.pinned (OpenSpec.ofChange Rows.faultApartSpec) :=
  OpenClaim.holds_of_wide 7 Tryd.f7 rfl rfl rfl rfl rfl rfl rfl ⟨rfl, rfl, rfl, rfl, rfl⟩ rfl rfl rfl rfl rfl (by kernel_rfl) Tryd.func7 (by kernel_rfl)
    (of_decide_eq_true (by kernel_rfl)) (by unfold Func.isWrapper; first | (rw [if_pos (by decide +kernel)]; kernel_rfl) | (rw [if_neg (by decide +kernel)]; exact ⟨rfl, rfl⟩))
    (fun os started H enc _ => lifted os started H enc)

theorem plain (f : FuncId) (fn : Func) (hf : Tryd.pinned.checked.prog.funcNamed "hindsight/hindsightlaw03.FaultApart" = some f) (hfn : Tryd.pinned.checked.prog.funcs[f]? = some fn) :
    (true : Bool) = Tryd.pinned.checked.prog.looks [] ∧ ∀ (j : Nat) t, fn.params[j]? = some t → Tryd.pinned.checked.prog.wantsStandIn t = false := by
  obtain rfl : f = 7 := Option.some.inj ((show Tryd.prog.funcNamed "hindsight/hindsightlaw03.FaultApart" = some 7 by kernel_rfl).symm.trans hf) |>.symm
  obtain rfl : fn = Tryd.f7 := (Option.some.inj (Tryd.func7.symm.trans hfn)).symm
  refine ⟨by kernel_rfl, fun j t ht => ?_⟩
  rw [Tryd.params7] at ht
  have hm := Array.mem_of_getElem? ht
  simp only [List.mem_toArray, List.mem_cons, List.not_mem_nil, or_false] at hm
  rcases hm with rfl | rfl | rfl | rfl
  · exact (show Tryd.prog.wantsStandIn 22 = false by kernel_rfl)
  · exact (show Tryd.prog.wantsStandIn 22 = false by kernel_rfl)
  · exact (show Tryd.prog.wantsStandIn 3 = false by kernel_rfl)
  · exact (show Tryd.prog.wantsStandIn 3 = false by kernel_rfl)

theorem card : Rows.FaultApartCardSaid :=
  Claim7.holds_tied_plain_at .later [] _ _ _ _ over (fun _ h => by cases h) (by kernel_rfl) (fun _ h => by cases h) faultApart_row_tie rfl ⟨rfl, rfl⟩ (by kernel_rfl) rfl plain (by kernel_rfl)

theorem proved : Rows.FaultApartCardSaid := card


end Go.Proofs.YtlbpephbigikcaaDoor.faultApart
