/- FaultWraps: for any list of steps, any number, any step and place the law answers true, and its arguments read afterwards as they did. Conditions: the variable that the row lists reads as the program's own initialisers leave it (the card ties it). -/
import Derived.Test.YtlbpephbigikcaaDoorFltE
import Derived.Test.YtlbpephbigikcaaDoorFltM
import Derived.Test.YtlbpephbigikcaaDoorFltK
import Derived.Test.YtlbpephbigikcaaDoorCards
import Derived.Test.YtlbpephbigikcaaDoorTie
import Derived.SevenTiedAt
import Derived.ShutString
namespace Go.Proofs.YtlbpephbigikcaaDoor.faultWraps
open Go Go.RowKit Go.ChangeShapes Go.WideShapes Go.ChangeAt Go.Proofs.YtlbpephbigikcaaDoor.flt
open Go.ChangeMaps (open_string shut_string)

set_option maxRecDepth 100000 in
set_option maxHeartbeats 4000000 in
theorem wraps_any (a1 : Option Addr) (len1 c1 : Nat) (T1 : Nat → ByteArray × Int) (n : Int) (s0 : ByteArray) (at_ : Int) (w : World) (h1 : ArgT w a1 len1 T1) (hs0 : s0.size ≤ maxLen) (hT : Et w.heap.size w) :
    Calls Tryd.prog 6 #[.slice a1 len1 c1, .int .i64 n, .string s0, .int .i64 at_] w fun en w' => en = .returned (.bool true) ∧ Below w.heap.size w w' := by
  have HT := Lib.hid hT
  have HA1 := Lib.hid h1
  have HS0 := Lib.hid hs0
  obtain ⟨s, hs⟩ : ∃ s, cut10 s0 = s := ⟨_, rfl⟩
  have hs10 : s.size ≤ 10 := by rw [← hs]; exact cut10_size s0
  have HSC := Lib.hid hs
  have HS10 := Lib.hid hs10
  obtain ⟨x, hx⟩ : ∃ x, num n = x := ⟨_, rfl⟩
  have hx0 : x ≠ 0 := by have := (num_range n).1; omega
  have HX0 := Lib.hid hx0
  have HXR := Lib.hid (num_range n)
  rw [hx] at HXR
  have HX := Lib.hid hx
  clear hT h1 hx hs hs0 hs10 hx0
  go_enter Tryd.func6, Tryd.ntmps6
  go_wp2_with fail
  refine (awake_calls w.heap.size w HT.out).mono ?_
  rintro en w1 ⟨rfl, b1⟩
  have B1 := Lib.hid b1
  clear b1
  go_wp2_with fail
  refine (wrapped_calls w.heap.size a1 len1 c1 T1 n w1 (HT.out.below B1.out (Nat.le_refl _)) (HA1.out.below B1.out)).mono ?_
  rintro en w2 ⟨m, L, v1, rfl, hm6, -, -, hl, hM, hE, hF⟩
  rw [HX.out] at hE ⊢
  have B2 : Hid (Below w.heap.size w w2) := Lib.hid (B1.out.trans (below_less hF.2.2 B1.out.size))
  have HE := Lib.hid hE
  have HL := Lib.hid hl
  have HM := Lib.hid hM
  obtain ⟨q, cq, rfl, -, -⟩ := hF.1.slice
  have hm6b : (m : Int) ≤ 6 := by omega
  have hm0 : (0 : Int) ≤ (m : Int) := by omega
  clear hE hl hM hF
  go_wp2_with (first
    | (go_at_call 18; refine (cut_calls s0 _ HS0.out).mono ?_; rw [HSC.out]; rintro en w3 ⟨rfl, rfl⟩)
    | (go_at_call 17; refine (in_calls L x s at_ _ HX0.out).mono ?_; rintro en w4 ⟨rfl, hw4⟩
       have HW4 := Lib.hid hw4
       clear hw4)
    | fail)
  have B4 : Hid (Below w.heap.size w w4) := by rw [HW4.out]; exact Lib.hid (B2.out.alloc B2.out.size _)
  have Bz : Hid (Below w2.heap.size w2 w4) := by rw [HW4.out]; exact Lib.hid ((Below.refl _ w2).alloc (Nat.le_refl _) _)
  have HN : Hid (Has w4 w2.heap.size 47 #[.string s, .int .i64 at_, ev L x]) := by rw [HW4.out]; exact Lib.hid (Has.made _ _ _)
  have HT4 : Hid (Et w4.heap.size w4) := Lib.hid (HT.out.whole B4.out)
  have HE4 : Hid (Er w4.heap.size w4 L x) := Lib.hid ((HE.out.below Bz.out (Nat.le_refl _)).more Bz.out.size)
  have HF4 : Hid (Er w4.heap.size w4 (⟨w2.heap.size, s, at_⟩ :: L) x) := Lib.hid ⟨⟨HN.out, HN.out.lt⟩, HE4.out⟩
  have HNE : Hid (∀ y ∈ L, w2.heap.size ≠ y.b) := Lib.hid fun y hy e => by have := HE.out.lt y hy; omega
  obtain ⟨B, hB⟩ : ∃ B, B = w2.heap.size := ⟨_, rfl⟩
  rw [← hB] at HF4 HNE ⊢
  clear hB HW4 HN Bz HE
  obtain ⟨F, hF⟩ : ∃ F : List Sp, F = ⟨B, s, at_⟩ :: L := ⟨_, rfl⟩
  rw [← hF] at HF4 ⊢
  have hFl : Hid (F.length = m + 1) := Lib.hid (by rw [hF, List.length_cons, HL.out])
  have hF0 : Hid ((names F)[0]? = some (.string s)) := Lib.hid (by rw [hF]; rfl)
  have hFp : Hid (place F = if L = [] then at_ else place L) := Lib.hid (by rw [hF]; exact place_more _ _)
  have hFq : Hid (pathB F x = s ++ ⟨#[47]⟩ ++ pathB L x) := Lib.hid (by rw [hF]; exact path_more _ _ _)
  have hFs : Hid (∀ y ∈ F, y.s.size ≤ 10) := Lib.hid (by
    rw [hF]; intro y hy
    rcases List.mem_cons.1 hy with rfl | hy
    · exact HS10.out
    · exact HM.out.small y hy)
  have HFF := Lib.hid hF
  clear hF
  go_wp2_with fail
  refine (where_calls w4.heap.size L x w4 HT4.out HE4.out (by have := HL.out; omega)).mono ?_
  rintro en w5 ⟨va, rfl, sa, oa, b5⟩
  obtain ⟨qa, ca, rfl, -, -⟩ := sa.slice
  have B5 := Lib.hid b5
  rw [HL.out]
  clear sa oa b5
  go_wp2_with fail
  refine (where_calls w4.heap.size F x w5 (HT4.out.below B5.out (Nat.le_refl _)) (HF4.out.below B5.out (Nat.le_refl _)) (by have := hFl.out; omega)).mono ?_
  rintro en w6 ⟨vb, rfl, sb, ob, b6⟩
  rw [hFl.out] at sb
  obtain ⟨g, off, cb, rfl, -, -, -, hcells⟩ := sb.cells (by omega)
  have c0 : w6.cell? ⟨g, off, none⟩ = some (.string s) := hcells 0 _ hF0.out
  have B6 := Lib.hid (B5.out.trans b6)
  have es : (s.toList == s.toList) = true := beq_self_eq_true _
  have en : (s.toList != s.toList) = false := by simp
  have hm1 : ((m + 1 : Nat) : Int) = (m : Int) + 1 := by omega
  obtain ⟨P1, hP1⟩ : ∃ P, P = pathB F x := ⟨_, rfl⟩
  obtain ⟨P2, hP2⟩ : ∃ P, P = pathB L x := ⟨_, rfl⟩
  have hp2 : P2.size ≤ 20000 := by rw [hP2]; exact pathB_size x (HM.out.small) (by have := HL.out; omega)
  have ep : (P1.toList == (s ++ ⟨#[47]⟩ ++ P2).toList) = true := by rw [hP1, hFq.out, hP2]; exact beq_self_eq_true _
  have hs10 := HS10.out
  have HP := Lib.hid (And.intro hP1 hP2)
  have ex : (x == x) = true := beq_self_eq_true x
  clear sb ob b6 hcells hP1 hP2
  by_cases hLn : L = []
  case' pos =>
    have hm00 : m = 0 := by rw [← HL.out, hLn]; rfl
    have hmz : (m : Int) = 0 := by omega
    have hpl : place F = at_ := by rw [hFp.out, if_pos hLn]
  case' neg =>
    have hm00 : ¬ m = 0 := fun e => hLn (List.length_eq_zero_iff.1 (by rw [HL.out]; exact e))
    have hmz : (0 : Int) < (m : Int) := by omega
    have hmz' : ¬ (m : Int) = 0 := by omega
    have hpl : place F = place L := by rw [hFp.out, if_neg hLn]
  all_goals
    rw [hpl]
    replace hpl := Lib.hid hpl
    replace hm00 := Lib.hid hm00
    clear hLn
    have c0' := c0
    go_wp2_with fail
    refine (of_calls w4.heap.size F x _ (HT4.out.below B6.out (Nat.le_refl _)) (HF4.out.below B6.out (Nat.le_refl _))).mono ?_
    rintro en w6 ⟨rfl, b7⟩
    replace B6 := Lib.hid (B6.out.trans (below_less b7 B6.out.size))
    clear b7
    go_wp2_with fail
    refine (of_calls w4.heap.size L x _ (HT4.out.below B6.out (Nat.le_refl _)) (HE4.out.below B6.out (Nat.le_refl _))).mono ?_
    rintro en w6 ⟨rfl, b7⟩
    replace B6 := Lib.hid (B6.out.trans (below_less b7 B6.out.size))
    clear b7
    go_wp2_with fail
    refine (path_calls w4.heap.size F x _ (HT4.out.below B6.out (Nat.le_refl _)) (HF4.out.below B6.out (Nat.le_refl _)) (by have := hFl.out; omega) HXR.out.1 HXR.out.2 (Nat.le_trans (path_len x hFs.out (by have := hFl.out; omega)) (by decide))).mono ?_
    rw [← HP.out.1]
    rintro en w6 ⟨rfl, b7⟩
    replace B6 := Lib.hid (B6.out.trans b7)
    clear b7
    go_wp2_with fail
    refine (path_calls w4.heap.size L x _ (HT4.out.below B6.out (Nat.le_refl _)) (HE4.out.below B6.out (Nat.le_refl _)) (by have := HL.out; omega) HXR.out.1 HXR.out.2 (Nat.le_trans (path_len x HM.out.small (by have := HL.out; omega)) (by decide))).mono ?_
    rw [← HP.out.2]
    rintro en w6 ⟨rfl, b7⟩
    replace B6 := Lib.hid (B6.out.trans b7)
    clear b7
    go_wp2_with fail
    have hIS : Calls Tryd.prog 19 #[ev F x, ev L x] w6 (fun en w' => en = .returned (.bool true) ∧ Below w6.heap.size w6 w') := by
      have h1 := HF4.out.below B6.out (Nat.le_refl _)
      rw [HFF.out] at h1 ⊢
      exact Is_next w4.heap.size ⟨B, s, at_⟩ L x w6 (HT4.out.below B6.out (Nat.le_refl _)) h1 HNE.out
    refine hIS.mono ?_
    rintro en w6 ⟨rfl, b7⟩
    replace B6 := Lib.hid (B6.out.trans (below_less b7 B6.out.size))
    clear b7
    go_wp2_with fail
    go_ret
    exact ⟨rfl, B4.out.trans (below_less B6.out B4.out.size)⟩

def Arg0 (w : World) (a : Option Addr) (len _cap : Nat) : Prop := ∃ T, ArgT w a len T

theorem walk (a0 : Option Addr) (len0 cap0 : Nat) (n : Int) (s : ByteArray) (at_ : Int) (w : World) (w0 : Arg0 w a0 len0 cap0) (_ : (Lit.int .i64 n).wf = true) (hs : s.size ≤ maxLen) (_ : (Lit.int .i64 at_).wf = true) (hT : Et w.heap.size w) :
    Calls Tryd.prog 6 #[.slice a0 len0 cap0, .int .i64 n, .string s, .int .i64 at_] w fun en w' => en = .returned (.bool true) ∧ Below w.heap.size w w' := by
  obtain ⟨T1, h1⟩ := w0
  exact wraps_any a0 len0 cap0 T1 n s at_ w h1 hs hT

theorem opened0 {H : Type} {enc : TypeId × Value → H} {w : World} {spare : Nat → Bool} {held : Bool} {a : Option Addr} {len cap : Nat} {d : DataW H} {p : List MemPlace} (h : DataW.Trod enc Tryd.prog w 0 spare held 22 (.slice a len cap) d p) : Arg0 w a len cap := openedT h

theorem own : ownKnob Tryd.prog.godebug = none := by kernel_rfl
theorem laidOut : laidOutB Tryd.prog = true := by kernel_rfl

set_option maxRecDepth 100000 in
theorem lifted (os : Os) (started : os.Started) (H : Type) (enc : TypeId × Value → H) :
    ReturnsInHanded {} Tryd.checked os 6 .any (fun w args => (Rows.faultWrapsSpec.pre enc Tryd.prog Tryd.f6 [] false w args ∧ laidMetH Tryd.prog Rows.faultWrapsRow.laid w) ∧ sizedMet enc Tryd.prog Tryd.f6 (OpenSpec.ofChange Rows.faultWrapsSpec) false w args)
      (Rows.faultWrapsSpec.post enc Tryd.prog Tryd.f6 false true false false) := by
  refine returnsInHanded_of_change_and (C := Tryd.checked) (X := fun w _ => laidMetH Tryd.prog Rows.faultWrapsRow.laid w) (fun _ _ _ hh h => h.of_heap hh) own started (by kernel_rfl) Tryd.func6
    (ChangeSpec.witness_shaped (enc := enc) (C := Tryd.checked) (os := os) (X := fun w _ => laidMetH Tryd.prog Rows.faultWrapsRow.laid w) false (World.doorLaid Tryd.prog 31 os) #[.slice none 0 0, .int .i64 0, .string ByteArray.empty, .int .i64 0] 8 rfl (door_shaped os _) (by kernel_rfl) (by kernel_rfl) (by kernel_rfl) (door_met os _)) ?_
  intro W base args ds gs before hval0 hW _ _ hL _
  have hval : ∀ (j : Nat) t v, Tryd.f6.params[j]? = some t → args[j]? = some v → Value.okWide Tryd.prog W .any base t v := hval0
  have hW' := hW
  obtain ⟨p, q, hA0, hV, rfl, _, _⟩ := hW
  have hA : DataW.TrodAll enc Tryd.prog W 0 (fun _ => true) true Tryd.f6.params.toList args.toList ds p := hA0
  rw [Tryd.params6] at hA hval
  obtain ⟨v0, vs0, d0, ds0, p0, q0, hargs, rfl, rfl, h0, r0⟩ := trodAll_cons hA
  obtain ⟨v1, vs1, d1, ds1, p1, q1, rfl, rfl, rfl, h1, r1⟩ := trodAll_cons r0
  obtain ⟨v2, vs2, d2, ds2, p2, q2, rfl, rfl, rfl, h2, r2⟩ := trodAll_cons r1
  obtain ⟨v3, vs3, d3, ds3, p3, q3, rfl, rfl, rfl, h3, r3⟩ := trodAll_cons r2
  obtain ⟨rfl, rfl, rfl⟩ := trodAll_nil r3
  obtain rfl : args = #[v0, v1, v2, v3] := by cases args; simp_all
  obtain ⟨rfl, rfl⟩ := trodVars_none hV
  obtain ⟨a0, len0, cap0, rfl⟩ := okWide_slice Tryd.underlying22 (hval 0 22 v0 rfl rfl)
  have k0 := h0
  have lt0 : ∀ x ∈ p0, x.block < W.heap.size := by obtain ⟨m, hm⟩ := k0; exact DataW.trod_lt m _ _ _ hm
  have w0 : Arg0 W a0 len0 cap0 := opened0 h0
  obtain ⟨a1, rfl, rfl, rfl, w1⟩ := open_int Tryd.underlying3 (hval 1 3 v1 rfl rfl) h1
  obtain ⟨a2, rfl, rfl, rfl, w2⟩ := open_string Tryd.underlying9 (hval 2 9 v2 rfl rfl) h2
  obtain ⟨a3, rfl, rfl, rfl, w3⟩ := open_int Tryd.underlying3 (hval 3 3 v3 rfl rfl) h3
  clear hA0 hval0
  refine (walk a0 len0 cap0 a1 a2 a3 W w0 w1 w2 w3 (et_of_laid hL)).mono fun e W' ⟨he, bel⟩ => ?_
  subst he
  exact ⟨_, rfl, _, _, _, [], _, [], hW', trodAll_mk1 (shut_bool Tryd.underlying4 _), (trodAll_cons_mk (Below.trod laidOut (by kernel_rfl) (of_decide_eq_true (by kernel_rfl)) k0 bel lt0) (trodAll_cons_mk (shut_int Tryd.underlying3 w1) (trodAll_cons_mk (shut_string Tryd.underlying9 w2) (trodAll_cons_mk (shut_int Tryd.underlying3 w3) trodAll_mk0)))), rfl, bel.frame _, fun h => by cases h⟩

theorem over : Rows.faultWrapsRow.holds Tryd.pinned (OpenSpec.ofChange Rows.faultWrapsSpec) :=
  OpenClaim.holds_of_wide 6 Tryd.f6 rfl rfl rfl rfl rfl rfl rfl ⟨rfl, rfl, rfl, rfl, rfl⟩ rfl rfl rfl rfl rfl (by kernel_rfl) Tryd.func6 (by kernel_rfl)
    (of_decide_eq_true (by kernel_rfl)) (by unfold Func.isWrapper; first | (rw [if_pos (by decide +kernel)]; kernel_rfl) | (rw [if_neg (by decide +kernel)]; exact ⟨rfl, rfl⟩))
    (fun os started H enc _ => lifted os started H enc)

theorem plain (f : FuncId) (fn : Func) (hf : Tryd.pinned.checked.prog.funcNamed "hindsight/hindsightlaw03.FaultWraps" = some f) (hfn : Tryd.pinned.checked.prog.funcs[f]? = some fn) :
    (true : Bool) = Tryd.pinned.checked.prog.looks [] ∧ ∀ (j : Nat) t, fn.params[j]? = some t → Tryd.pinned.checked.prog.wantsStandIn t = false := by
  obtain rfl : f = 6 := Option.some.inj ((show Tryd.prog.funcNamed "hindsight/hindsightlaw03.FaultWraps" = some 6 by kernel_rfl).symm.trans hf) |>.symm
  obtain rfl : fn = Tryd.f6 := (Option.some.inj (Tryd.func6.symm.trans hfn)).symm
  refine ⟨by kernel_rfl, fun j t ht => ?_⟩
  rw [Tryd.params6] at ht
  have hm := Array.mem_of_getElem? ht
  simp only [List.mem_toArray, List.mem_cons, List.not_mem_nil, or_false] at hm
  rcases hm with rfl | rfl | rfl | rfl
  · exact (show Tryd.prog.wantsStandIn 22 = false by kernel_rfl)
  · exact (show Tryd.prog.wantsStandIn 3 = false by kernel_rfl)
  · exact (show Tryd.prog.wantsStandIn 9 = false by kernel_rfl)
  · exact (show Tryd.prog.wantsStandIn 3 = false by kernel_rfl)

theorem card : Rows.FaultWrapsCardSaid :=
  Claim7.holds_tied_plain_at .later [] _ _ _ _ over (fun _ h => by cases h) (by kernel_rfl) (fun _ h => by cases h) faultWraps_row_tie rfl ⟨rfl, rfl⟩ (by kernel_rfl) rfl plain (by kernel_rfl)

theorem proved : Rows.FaultWrapsCardSaid := card


end Go.Proofs.YtlbpephbigikcaaDoor.faultWraps
