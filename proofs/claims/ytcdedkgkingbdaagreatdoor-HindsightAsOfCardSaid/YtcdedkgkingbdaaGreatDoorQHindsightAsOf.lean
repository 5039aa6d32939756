/- HindsightAsOf: each version of a line is what the object was then, also behind branches and what is forgotten below. Conditions: the row lists three package-level variables (digest's table of rounds, both tables of math/bits), which the card ties to the program's text. -/
import Derived.Test.YtcdedkgkingbdaaGreatDoorQ016
import Derived.Test.YtcdedkgkingbdaaGreatDoorQ045
import Derived.Test.YtcdedkgkingbdaaGreatDoorQ044
import Derived.Test.YtcdedkgkingbdaaGreatDoorCards
import Derived.Test.YtcdedkgkingbdaaGreatDoorTie
import Derived.ProofKit
import Derived.OpenShut
import Derived.SevenTiedAt
namespace Go.Proofs.YtcdedkgkingbdaaGreatDoor.hindsightAsOf
open Go Go.ChangeShapes Go.WideShapes Go.ChangeAt Go.RowKit Go.Proofs.YtcdedkgkingbdaaGreatDoor.object Go.Proofs.YtcdedkgkingbdaaGreatDoor.prn Go.Proofs.YtcdedkgkingbdaaGreatDoor.rep

def Arg1 (w : World) (a : Option Addr) (len _cap : Nat) : Prop := ∃ T, ArgA w a len T
theorem opened1 {H : Type} {enc : TypeId × Value → H} {w : World} {spare : Nat → Bool} {held : Bool} {a : Option Addr} {len cap : Nat} {d : DataW H} {p : List MemPlace} (h : DataW.Trod enc Tryz.prog w 0 spare held 22 (.slice a len cap) d p) : Arg1 w a len cap := openedA h

/-- Two lines: each has blocks of its own; and what was at each version. -/
structure Two (w V0 : World) (b nb : Nat) (k : Int) (C : List Cm) (v : Value) (V : World) : Prop where
  l : Ln w.heap.size (fun j => (w.heap.size ≤ j ∧ v.ownBlock ≠ some j) ∧ j < V0.heap.size) V b k C 0
  m : Ln w.heap.size (fun j => V0.heap.size ≤ j) V nb k C 0
  bel : Below w.heap.size w V
  row : Seg V 9 1 v (C.length + 1) (saves k C)
  own : ∀ x, v.ownBlock = some x → w.heap.size ≤ x
  sz : w.heap.size ≤ V0.heap.size
  rb : ∀ x, v.ownBlock = some x → x < V0.heap.size
/-- The first one has forgotten what is below v. -/
structure Three (w : World) (b nb : Nat) (k : Int) (C : List Cm) (fl : Nat) (v : Value) (V : World) : Prop where
  l : Ln w.heap.size (fun j => w.heap.size ≤ j) V b k C fl
  m : Ln w.heap.size (fun j => w.heap.size ≤ j) V nb k C 0
  bel : Below w.heap.size w V
  row : Seg V 9 1 v (C.length + 1) (saves k C)
theorem Three.below {w V V' : World} {b nb fl : Nat} {k : Int} {C : List Cm} {v : Value} (h : Three w b nb k C fl v V) (t : Below V.heap.size V V') : Three w b nb k C fl v V' :=
  ⟨h.l.below t, h.m.below t, h.bel.trans (t.mono h.bel.size), h.row.below t (fun _ hx => h.row.lt hx)⟩
theorem Two.three {w V0 V V' : World} {b nb fl : Nat} {k : Int} {C : List Cm} {v : Value} (h : Two w V0 b nb k C v V)
    (s : Ln w.heap.size (fun j => ((w.heap.size ≤ j ∧ v.ownBlock ≠ some j) ∧ j < V0.heap.size) ∨ V.heap.size ≤ j) V' b k C fl) (t : Turn (fun j => (w.heap.size ≤ j ∧ v.ownBlock ≠ some j) ∧ j < V0.heap.size) V V') : Three w b nb k C fl v V' :=
  ⟨s.more fun j _ e => e.elim (fun x => x.1.1) (fun x => Nat.le_trans h.bel.size x), (h.m.turn t (fun j hj _ e => by omega) (fun j e => e.1.1)).more fun j _ e => Nat.le_trans h.sz e,
    h.bel.trans (t.below h.bel.size (fun j hj e => by omega)), h.row.turn t (fun x hx e => e.1.2 hx)⟩

set_option maxRecDepth 100000 in
set_option maxHeartbeats 8000000 in
theorem walk (n : Int) (a1 : Option Addr) (len1 cap1 : Nat) (x : Int) (w : World) (_hn : (Lit.int .i64 n).wf = true) (hA1 : Arg1 w a1 len1 cap1) (hx : (Lit.int .i64 x).wf = true) (hP : dig.Rt w.heap.size w) :
    Calls Tryz.prog 6 #[.int .i64 n, .slice a1 len1 cap1, .int .i64 x] w fun en w' => en = .returned (.bool true) ∧ Below w.heap.size w w' := by
  have HA1 := Lib.hid hA1
  have HX := Lib.hid (wf_i64 hx)
  have HP := Lib.hid hP
  clear hA1 hx hP
  go_enter Tryz.func6, Tryz.ntmps6
  go_wp2_with fail
  refine (live_calls w HP.out).mono ?_
  rintro en w1 ⟨rfl, b1⟩
  have R1 := Lib.hid (show Below w.heap.size w w1 from b1)
  clear b1
  go_wp2_with fail
  refine (lkind_calls n w1).mono ?_
  rintro en w2 ⟨rfl, rfl⟩
  obtain ⟨k, hk⟩ : ∃ k, k = 1 + (n.tmod 3 + 3).tmod 3 := ⟨_, rfl⟩
  rw [← hk]
  have HK : Hid (k = 1 ∨ k = 2 ∨ k = 3) := Lib.hid (by
    have := Int.tmod_lt_of_pos n (show (0:Int) < 3 by decide); have := Int.lt_tmod_of_pos n (show (0:Int) < 3 by decide)
    rw [Int.tmod_eq_emod_of_nonneg (by omega)] at hk
    omega)
  clear hk
  go_wp2_with fail
  have hR : dig.Rt w.heap.size w1 := HP.out.below R1.out (Nat.le_refl _)
  refine (line_calls w w1 R1.out hR k HK.out a1 len1 cap1 HA1.out).mono ?_
  rintro en w3 ⟨b, C, v, rfl, l3, c3⟩
  have L3 := Lib.hid (show Lg w w3 b k C v ∧ C.length ≤ 16 from ⟨l3, c3⟩)
  obtain ⟨N, hN⟩ : ∃ N, N = C.length := ⟨_, rfl⟩
  have hrow := l3.row
  rw [← hN] at hrow
  obtain ⟨g, off, cp, rfl, _, hcp, hcm, _⟩ := hrow.cells (by omega)
  clear l3 c3 R1 hR hcp hrow
  obtain ⟨vb, F1, cv, hva, _⟩ := L3.out.1.ln.vault
  have hle := hva.len_calls
  rw [texts_len] at hle
  rw [← hN] at hle
  have HN := Lib.hid hN
  have HLE := Lib.hid hle
  clear hva hle hN
  go_wp2_with fail
  refine HLE.out.mono ?_
  rintro en w5 ⟨rfl, rfl⟩
  clear HLE
  go_wp2_with fail
  have hbr := L3.out.1.ln.branch_calls N (Nat.zero_le _) (by rw [HN.out]; exact Nat.le_refl _) (by have := L3.out.2; omega)
  refine hbr.mono ?_
  clear hbr
  rintro en w6 ⟨nb, rfl, _, m6, b6⟩
  rw [HN.out, List.take_length] at m6
  have T6 : Hid (Two w w3 b nb k C (.slice (some ⟨g, off, none⟩) (N + 1) cp) w6 ∧ C.length ≤ 16) := Lib.hid ⟨⟨(L3.out.1.ln.more fun j hj e => ⟨e, hj⟩).below b6, m6, L3.out.1.bel.trans (b6.mono L3.out.1.bel.size), L3.out.1.row.below b6 (fun x hx => L3.out.1.row.lt hx), L3.out.1.own, L3.out.1.bel.size, fun x hx => L3.out.1.row.lt hx⟩, L3.out.2⟩
  clear m6 b6 L3 cv
  obtain ⟨vb2, F2, cv2, hva2, _⟩ := T6.out.1.l.vault
  have hle2 := hva2.len_calls
  rw [texts_len, ← HN.out] at hle2
  have HLE2 := Lib.hid hle2
  obtain ⟨v, hv⟩ : ∃ v : Nat, (v : Int) = min (max x 0) (N : Int) := ⟨(min (max x 0) (N : Int)).toNat, by omega⟩
  have hmin : min (max x 0) (N : Int) = (v : Int) := hv.symm
  have HV := Lib.hid (show v ≤ N ∧ v ≤ 16 from ⟨by omega, by have := T6.out.2; have := HN.out; omega⟩)
  clear hva2 hle2 hv
  go_wp2_with fail
  refine HLE2.out.mono ?_
  rintro en w7 ⟨rfl, rfl⟩
  clear HLE2
  go_wp2_with fail
  refine (T6.out.1.l.retain_calls v (Nat.zero_le _) (by have := HV.out; have := HN.out; omega) (by have := T6.out.2; omega)).mono ?_
  rintro en w8 ⟨rfl, s8, t8⟩
  have T8 := Lib.hid (show Three w b nb k C v _ w8 ∧ C.length ≤ 16 from ⟨T6.out.1.three s8 t8, T6.out.2⟩)
  clear T6 s8 t8 cv2 hmin
  go_wp2_with fail
  go_loopw [54] (fun i wr => ∃ (i' : Nat), i = .int .i64 i' ∧ i' ≤ N + 1 ∧ Hid (Three w b nb k C v (.slice (some ⟨g, off, none⟩) (N + 1) cp) wr)) (fun i _ => N + 1 - (intOf i).toNat)
  case atStart => exact ⟨0, rfl, by omega, Lib.hid T8.out.1⟩
  case round =>
    have HC : Hid (N ≤ 16) := Lib.hid (by rw [HN.out]; exact T8.out.2)
    clear T8
    obtain ⟨i, rfl, hi, HS⟩ := hrel
    have hN16 : N ≤ 16 := by have := HC.out; have := HN.out; omega
    by_cases hiv : i ≤ N
    · have hiv2 : (i : Int) < (N : Int) + 1 := by omega
      have hib : (i : Int) ≤ 16 := by omega
      have i1 : IntKind.i64.wrap ((i : Int) + 1) = (i : Int) + 1 := IntWalk.i64_in _ ⟨by omega, by omega⟩
      obtain ⟨sv, hsv⟩ : ∃ sv, sv = (fold k C i).save := ⟨_, rfl⟩
      have hcell : wr.cell? ⟨g, off + i, none⟩ = some (.string sv) := by
        obtain ⟨g', off', c', hv', _, _, _, hc⟩ := HS.out.row.cells (by omega)
        rw [HN.out] at hv'
        simp only [Value.slice.injEq, Option.some.injEq, Addr.mk.injEq, and_true, true_and] at hv'
        obtain ⟨⟨rfl, rfl⟩, _⟩ := hv'
        rw [hsv]
        exact hc i _ (saves_at k C (by have := HN.out; omega))
      have HI := Lib.hid (show i ≤ C.length ∧ C.length ≤ 10000 from ⟨by have := HN.out; omega, by have := HN.out; omega⟩)
      have HSV := Lib.hid hsv
      have hMA := fun V (h : Ln w.heap.size (fun j => w.heap.size ≤ j) V nb k C 0) => h.asof_ok i (Nat.zero_le _) HI.out.1 HI.out.2
      rw [← hsv] at hMA
      have HMA := Lib.hid hMA
      clear hsv hMA
      by_cases hvi : v ≤ i
      · have hvi2 : (v : Int) ≤ (i : Int) := by omega
        have hla := HS.out.l.asof_ok i hvi HI.out.1 HI.out.2
        rw [← HSV.out] at hla
        have HLA := Lib.hid hla
        clear hla
        go_wp2_with fail
        refine HLA.out.mono ?_
        rintro en w9 ⟨rfl, b9⟩
        have T9 := Lib.hid (HS.out.below b9)
        clear HS b9 HLA hcell
        go_wp2_with fail
        refine (HMA.out _ T9.out.m).mono ?_
        rintro en w10 ⟨rfl, b10⟩
        have T10 := Lib.hid (T9.out.below b10)
        clear T9 b10
        go_wp2_with fail
        refine ⟨⟨i + 1, by rw [Int.natCast_add]; rfl, by omega, T10⟩, ?_⟩
        show N + 1 - ((i : Int) + 1).toNat < N + 1 - ((i : Int)).toNat
        omega
      · have hvi2 : ¬ (v : Int) ≤ (i : Int) := by omega
        have HLA := Lib.hid (HS.out.l.asof_bad (i : Int) 14 (by unfold wrongE; rw [if_neg (by have := HI.out; omega), if_pos (by omega)]) (by decide))
        go_wp2_with fail
        refine HLA.out.mono ?_
        rintro en w9 ⟨e9, rfl, ⟨q, rfl, hq, _, b9⟩⟩
        have T9 := Lib.hid (HS.out.below b9)
        rw [show flt.ev [⟨q, versionB, (i : Int)⟩] 14 = .iface 202 (.pointer (some ⟨q, 0, none⟩)) from rfl]
        clear HS b9 HLA hcell
        go_wp2_with fail
        refine (HMA.out _ T9.out.m).mono ?_
        rintro en w10 ⟨rfl, b10⟩
        have T10 := Lib.hid (T9.out.below b10)
        clear T9 b10
        go_wp2_with fail
        refine ⟨⟨i + 1, by rw [Int.natCast_add]; rfl, by omega, T10⟩, ?_⟩
        show N + 1 - ((i : Int) + 1).toNat < N + 1 - ((i : Int)).toNat
        omega
    · have hiv2 : ¬ (i : Int) < (N : Int) + 1 := by omega
      go_wp2_with fail
      go_ret
      exact ⟨rfl, HS.out.bel⟩
theorem own : ownKnob Tryz.prog.godebug = none := by kernel_rfl
theorem laidOut : laidOutB Tryz.prog = true := by kernel_rfl

set_option maxRecDepth 100000 in
theorem lifted (os : Os) (started : os.Started) (H : Type) (enc : TypeId × Value → H) :
    ReturnsInHanded {} Tryz.checked os 6 .any (fun w args => (Rows.hindsightAsOfSpec.pre enc Tryz.prog Tryz.f6 [] false w args ∧ laidMetH Tryz.prog Rows.hindsightAsOfRow.laid w) ∧ sizedMet enc Tryz.prog Tryz.f6 (OpenSpec.ofChange Rows.hindsightAsOfSpec) false w args)
      (Rows.hindsightAsOfSpec.post enc Tryz.prog Tryz.f6 false true false false) := by
  refine returnsInHanded_of_change_and (C := Tryz.checked) (X := fun w _ => laidMetH Tryz.prog Rows.hindsightAsOfRow.laid w) (fun _ _ _ hh h => h.of_heap hh) own started (by kernel_rfl) Tryz.func6
    (ChangeSpec.witness_shaped (enc := enc) (C := Tryz.checked) (os := os) (X := fun w _ => laidMetH Tryz.prog Rows.hindsightAsOfRow.laid w) false (World.doorLaid Tryz.prog 31 os) #[.int .i64 0, .slice none 0 0, .int .i64 0] 8 rfl (tree.door_shaped os _) (by kernel_rfl) (by kernel_rfl) (by kernel_rfl) (tree.door_met os _)) ?_
  intro W base args ds gs before hval0 hW _ _ hL _
  have hval : ∀ (j : Nat) t v, Tryz.f6.params[j]? = some t → args[j]? = some v → Value.okWide Tryz.prog W .any base t v := hval0
  have hW' := hW
  obtain ⟨p, q, hA0, hV, rfl, _, _⟩ := hW
  have hA : DataW.TrodAll enc Tryz.prog W 0 (fun _ => true) true Tryz.f6.params.toList args.toList ds p := hA0
  rw [Tryz.params6] at hA hval
  obtain ⟨v0, vs0, d0, ds0, p0, q0, hargs, rfl, rfl, h0, r0⟩ := trodAll_cons hA
  obtain ⟨v1, vs1, d1, ds1, p1, q1, rfl, rfl, rfl, h1, r1⟩ := trodAll_cons r0
  obtain ⟨v2, vs2, d2, ds2, p2, q2, rfl, rfl, rfl, h2, r2⟩ := trodAll_cons r1
  obtain ⟨rfl, rfl, rfl⟩ := trodAll_nil r2
  obtain rfl : args = #[v0, v1, v2] := by cases args; simp_all
  obtain ⟨rfl, rfl⟩ := trodVars_none hV
  obtain ⟨a0, rfl, rfl, rfl, w0⟩ := open_int Tryz.underlying3 (hval 0 3 v0 rfl rfl) h0
  obtain ⟨a1, len1, cap1, rfl⟩ := okWide_slice Tryz.underlying22 (hval 1 22 v1 rfl rfl)
  have k1 := h1
  have lt1 : ∀ x ∈ p1, x.block < W.heap.size := by obtain ⟨m, hm⟩ := k1; exact DataW.trod_lt m _ _ _ hm
  have w1 : Arg1 W a1 len1 cap1 := opened1 h1
  obtain ⟨a2, rfl, rfl, rfl, w2⟩ := open_int Tryz.underlying3 (hval 2 3 v2 rfl rfl) h2
  clear hA0 hval0
  refine (walk a0 a1 len1 cap1 a2 W w0 w1 w2 (tree.rt_of_laid (rest := []) hL)).mono fun e W' ⟨he, bel⟩ => ?_
  subst he
  exact ⟨_, rfl, _, _, _, [], _, [], hW', trodAll_mk1 (shut_bool Tryz.underlying4 _), (trodAll_cons_mk (shut_int Tryz.underlying3 w0) (trodAll_cons_mk (Below.trod laidOut (by kernel_rfl) (of_decide_eq_true (by kernel_rfl)) k1 bel lt1) (trodAll_cons_mk (shut_int Tryz.underlying3 w2) trodAll_mk0))), rfl, bel.frame _, fun h => by cases h⟩

theorem over : Rows.hindsightAsOfRow.holds Tryz.pinned (OpenSpec.ofChange Rows.hindsightAsOfSpec) :=
  OpenClaim.holds_of_wide 6 Tryz.f6 rfl rfl rfl rfl rfl rfl rfl ⟨rfl, rfl, rfl, rfl, rfl⟩ rfl rfl rfl rfl rfl (by kernel_rfl) Tryz.func6 (by kernel_rfl)
    (of_decide_eq_true (by kernel_rfl)) (by unfold Func.isWrapper; first | (rw [if_pos (by decide +kernel)]; kernel_rfl) | (rw [if_neg (by decide +kernel)]; exact ⟨rfl, rfl⟩))
    (fun os started H enc _ => lifted os started H enc)

theorem plain (f : FuncId) (fn : Func) (hf : Tryz.pinned.checked.prog.funcNamed "hindsight/hindsighttop.HindsightAsOf" = some f) (hfn : Tryz.pinned.checked.prog.funcs[f]? = some fn) :
    (true : Bool) = Tryz.pinned.checked.prog.looks [] ∧ ∀ (j : Nat) t, fn.params[j]? = some t → Tryz.pinned.checked.prog.wantsStandIn t = false := by
  obtain rfl : f = 6 := Option.some.inj ((show Tryz.prog.funcNamed "hindsight/hindsighttop.HindsightAsOf" = some 6 by kernel_rfl).symm.trans hf) |>.symm
  obtain rfl : fn = Tryz.f6 := (Option.some.inj (Tryz.func6.symm.trans hfn)).symm
  refine ⟨by kernel_rfl, fun j t ht => ?_⟩
  rw [Tryz.params6] at ht
  have hm := Array.mem_of_getElem? ht
  simp only [List.mem_toArray, List.mem_cons, List.not_mem_nil, or_false] at hm
  rcases hm with rfl | rfl | rfl
  · exact (show Tryz.prog.wantsStandIn 3 = false by kernel_rfl)
  · exact (show Tryz.prog.wantsStandIn 22 = false by kernel_rfl)
  · exact (show Tryz.prog.wantsStandIn 3 = false by kernel_rfl)

theorem card : Rows.HindsightAsOfCardSaid :=
  Claim7.holds_tied_plain_at .later [] _ _ _ _ over (fun _ h => by cases h) (by kernel_rfl) (fun _ h => by cases h) hindsightAsOf_row_tie rfl ⟨rfl, rfl⟩ (by kernel_rfl) rfl plain (by kernel_rfl)

theorem proved : Rows.HindsightAsOfCardSaid := card


end Go.Proofs.YtcdedkgkingbdaaGreatDoor.hindsightAsOf
