/-
  For every list of things to take and every number e: of a reader of wire that has failed, nothing is taken any more, whatever is asked for; both readers answer alike there; the first error stays, and is told at the end. No condition: every list and every number.
-/
import Derived.Test.YtigojpjmncclaaaWireA
import Derived.Test.YtigojpjmncclaaaWireE
import Derived.ProofKit
import Derived.OpenShut
import Derived.ChangeOld
import Derived.Deep.SlicePairs
namespace Go.Proofs.Ytigojpjmncclaaa.wireStays
open Go.ChangeShapes Go.WideShapes Go.ChangeAt Go.RowKit

theorem i64_and15 (n : Int) : bits .and .i64 n 15 = n % 16 := by
  have h15 : (BitVec.ofInt 64 15).toNat = 2 ^ 4 - 1 := by decide
  have key : (BitVec.ofInt 64 n &&& BitVec.ofInt 64 15).toNat = (n % ((2 ^ 64 : Nat) : Int)).toNat % 2 ^ 4 := by
    rw [BitVec.toNat_and, BitVec.toNat_ofInt, h15, Nat.and_two_pow_sub_one_eq_mod]
  show IntKind.i64.wrap ((BitVec.ofInt 64 n &&& BitVec.ofInt 64 15).toNat : Nat) = n % 16
  rw [key, IntKind.wrap_i64]
  omega

/-- A number that fits. -/
theorem wf_i64 {y : Int} (h : (Lit.int .i64 y).wf = true) : -9223372036854775808 ≤ y ∧ y ≤ 9223372036854775807 := by
  have m0 : IntKind.i64.min = -9223372036854775808 := by decide
  have m1 : IntKind.i64.max = 9223372036854775807 := by decide
  have h' : (decide (IntKind.i64.min ≤ y) && decide (y ≤ IntKind.i64.max)) = true := h
  rw [m0, m1] at h'
  simpa using h'

/-- A list of things to take: its elements' two numbers. -/
def Arg0 (w : World) (a : Option Addr) (len _cap : Nat) : Prop :=
  len ≤ maxLen ∧ ∀ i, i < len → ∃ (g o : Nat) (x y : Int), a = some ⟨g, o, none⟩ ∧ w.cell? ⟨g, o + i * 2, none⟩ = some (.int .i64 x) ∧ w.cell? ⟨g, o + i * 2 + 1, none⟩ = some (.int .i64 y) ∧ -9223372036854775808 ≤ y ∧ y ≤ 9223372036854775807

/-- Where the law's loop stands: the reader at b has failed by E, the document's at g too; all that turned is new. -/
structure St (w : World) (b g : Nat) (E : Int) (V : World) : Prop where
  rd : Rd V b ⟨#[]⟩ E
  rf : Has V g 56 #[.string ⟨#[]⟩, .int .i64 E]
  tn : Turn (fun k => w.heap.size ≤ k) w V
  ne : b ≠ g

section
variable {w V V' : World} {b g : Nat} {E : Int}
theorem St.drew (h : St w b g E V) : St w b g E V.drew := ⟨h.rd.drew, h.rf.drew, h.tn.drew, h.ne⟩
theorem St.alloc (h : St w b g E V) (o : Obj) : St w b g E (V.alloc o) := ⟨Has.alloc h.rd o, h.rf.alloc o, h.tn.alloc o, h.ne⟩
theorem St.far (h : St w b g E V) {p : Addr} (hb : b ≠ p.block) (hg : g ≠ p.block) (hw : w.heap.size ≤ p.block) (u : Value) : St w b g E (V.setCell p u) :=
  ⟨Has.far h.rd hb u, h.rf.far hg u, ⟨h.tn.os, h.tn.tape, h.tn.output, by simpa [World.setCell] using h.tn.size, fun k hk hne => (Below.heap_setCell V p u k (by rintro rfl; exact hne hw)).trans (h.tn.block k hk hne)⟩, h.ne⟩
theorem St.own (h : St w b g E V) (hw : w.heap.size ≤ g) : St w b g E ((V.setCell ⟨g, 0, none⟩ (.string ⟨#[]⟩)).setCell ⟨g, 1, none⟩ (.int .i64 E)) :=
  ⟨Has.far (Has.far h.rd h.ne _) h.ne _, by simpa using (h.rf.put 0 (.string ⟨#[]⟩)).put 1 (.int .i64 E), (h.tn.put (fun _ => hw) _ _).put (fun _ => hw) _ _, h.ne⟩
theorem St.call (h : St w b g E V) (hw : w.heap.size ≤ b) (hr : Rd V' b ⟨#[]⟩ E) (hg : V.grownBy V' (some b)) : St w b g E V' :=
  ⟨hr, h.rf.grown hg (by intro e; injection e with e; exact h.ne e.symm), h.tn.grown hg (fun j hj _ => by injection hj with hj; omega), h.ne⟩
theorem St.all (h : St w b g E V) {p q : Addr} {x y : Value} (e0 : w.cell? p = some x) (e1 : w.cell? q = some y) :
    St w b g E V ∧ V.cell? ⟨g, 0, none⟩ = some (.string ⟨#[]⟩) ∧ V.cell? ⟨g, 1, none⟩ = some (.int .i64 E) ∧ V.cell? p = some x ∧ V.cell? q = some y :=
  ⟨h, h.rf.cell 0, h.rf.cell 1, (h.tn.cell (World.block_lt_of_cell? w _ e0) (Nat.not_le.2 (World.block_lt_of_cell? w _ e0))).trans e0, (h.tn.cell (World.block_lt_of_cell? w _ e1) (Nat.not_le.2 (World.block_lt_of_cell? w _ e1))).trans e1⟩
end

/-- A struct that was made just before a call is as it was behind it. -/
theorem made_before {V V' : World} {b : Nat} {A B : Value} {t : TypeId} (h : (V.alloc (.cells #[A, B] t)).grownBy V' (some b)) (hb : b < V.heap.size) :
    V'.cell? ⟨V.heap.size, 0, none⟩ = some A ∧ V'.cell? ⟨V.heap.size, 1, none⟩ = some B ∧ V'.frozen? ⟨V.heap.size, 0, none⟩ = false ∧ V'.frozen? ⟨V.heap.size, 1, none⟩ = false ∧ V.heap.size < V'.heap.size :=
  have h2 := (Has.made V t #[A, B]).grown h (by intro e; injection e with e; omega)
  ⟨h2.two.1, h2.two.2.1, h2.two.2.2.1, h2.two.2.2.2, h2.lt⟩
set_option maxRecDepth 100000 in
set_option maxHeartbeats 1000000 in
theorem walk (a0 : Option Addr) (len0 cap0 : Nat) (a1 : Int) (w : World) (w0 : Arg0 w a0 len0 cap0) (_w1 : (Lit.int .i64 a1).wf = true) :
    Calls Try.prog 6 #[.slice a0 len0 cap0, .int .i64 a1] w fun e w' => e = .returned (.bool true) ∧ Below w.heap.size w w' := by
  have hand := i64_and15 a1
  have hf0 : 0 ≤ a1 % 16 := by omega
  have hf1 : a1 % 16 ≤ 15 := by omega
  generalize a1 % 16 = f at hand hf0 hf1
  obtain ⟨hlen, hel⟩ := w0
  unfold maxLen at hlen
  have HEL := Lib.hid hel
  clear hel
  go_enter Try.func6, Try.ntmps6
  go_wp2_with fail
  refine (awake_any w).mono ?_
  rintro en w1 ⟨rfl, hb1⟩
  go_wp2_with fail
  refine (read_any _ _).mono ?_
  rintro en w2 ⟨rfl, hr2, hb2⟩
  have T2 := Lib.hid (hb1.trans (hb2.mono hb1.size))
  have HR2 := Lib.hid hr2
  have hs1 := hb1.size
  clear hb1 hb2 hr2
  go_wp2_with fail
  refine (fail_any _ _ _ _ _ HR2.out).mono ?_
  rintro en w3 ⟨rfl, hr3, g3⟩
  have hfe : 1 + f ≠ 0 := by omega
  have hr3' : Rd w3 w1.heap.size ⟨#[]⟩ (1 + f) := hr3
  have HR3 := Lib.hid hr3'
  have T3 : Turn (fun k => w.heap.size ≤ k) w w3 := (Turn.of_below (F := fun k => w.heap.size ≤ k) T2.out (fun j _ h => by omega)).grown g3 (fun j hj _ => by injection hj with hj; omega)
  have HT3 := Lib.hid T3
  have HFE := Lib.hid hfe
  clear T2 HR2 hr3 hr3' g3 T3 hand hfe
  go_wp2_with fail
  go_name_world W hW
  generalize hb : w1.heap.size = b at *
  generalize hg : w3.heap.size = g at *
  generalize 1 + f = E at *
  have hbg : b < g := by rw [← hg]; exact HR3.out.lt
  have hwb : w.heap.size ≤ b := hs1
  have hst : St w b g E W := ⟨by rw [← hW]; exact HR3.out.alloc _, by rw [← hW]; exact made_at _ _ hg.symm, by rw [← hW]; exact HT3.out.alloc _, by omega⟩
  have HS := Lib.hid hst
  clear hW hb hg HR3 HT3 hf0 hf1 hst
  go_loopw [8] (fun i wr => ∃ k : Nat, k ≤ 10 ∧ k ≤ len0 ∧ i = .int .i64 k ∧ Hid (St w b g E wr)) (fun i _ => 10 - (intOf i).toNat)
  case atStart => exact ⟨0, by omega, by omega, rfl, HS⟩
  case round =>
    clear HS
    obtain ⟨k, hk, hkl, rfl, HS⟩ := hrel
    by_cases hc : k < len0 ∧ k < 10
    · obtain ⟨hc1, hc2⟩ := hc
      obtain ⟨ge, oe, x, y, rfl, e0, e1, hy0, hy1⟩ := HEL.out k hc1
      have hst := HS.out
      have hb0 : b < wr.heap.size := hst.rd.lt
      have hg0 : g < wr.heap.size := hst.rf.lt
      go_wp2_with fail
      go_region_held3 (fun V => St w b g E V ∧ V.cell? ⟨g, 0, none⟩ = some (.string ⟨#[]⟩) ∧ V.cell? ⟨g, 1, none⟩ = some (.int .i64 E) ∧ V.cell? ⟨ge, oe + k * 2, none⟩ = some (.int .i64 x) ∧ V.cell? ⟨ge, oe + k * 2 + 1, none⟩ = some (.int .i64 y))
        ((go_split_ands; exact St.all (by repeat (first | assumption | refine St.drew ?_ | refine St.alloc ?_ _ | refine St.far ?_ (by simp; omega) (by simp; omega) (by simp; omega) _)) e0 e1))
        (first
          | (go_at_call 28; refine (ltake_dead b E x y _ HFE.out (by go_split_ands; exact St.rd (by assumption)) hy0 hy1).mono ?_; rintro en w5 ⟨rfl, h5, g5⟩
             have s5 : St w b g E w5 := by go_split_ands; exact St.call (by assumption) hwb h5 g5
             have b5 : b < w5.heap.size := s5.rd.lt
             have k5 : g < w5.heap.size := s5.rf.lt
             try (have hm := @made_before wr.drew w5 b (.string ⟨#[]⟩) (.int .i64 0) 56 g5 hb0; have m0 : w5.cell? ⟨wr.heap.size, 0, none⟩ = some (.string ⟨#[]⟩) := hm.1; have m1 : w5.cell? ⟨wr.heap.size, 1, none⟩ = some (.int .i64 0) := hm.2.1; have n0 : w5.frozen? ⟨wr.heap.size, 0, none⟩ = false := hm.2.2.1; have n1 : w5.frozen? ⟨wr.heap.size, 1, none⟩ = false := hm.2.2.2.1; have n2 : wr.heap.size < w5.heap.size := hm.2.2.2.2; clear hm)
             clear h5))
      all_goals
        obtain ⟨c0, c1, f0, f1⟩ := s5.rf.two
        have HS5 := Lib.hid s5
        have hwg : w.heap.size ≤ g := by omega
        clear s5 hst HS
        go_wp2_with fail
        refine (fail_any b ⟨#[]⟩ E 20 _ (St.rd (w := w) (g := g) (E := E) (by repeat (first | exact HS5.out | refine St.drew ?_ | refine St.alloc ?_ _ | refine St.own ?_ hwg | refine St.far ?_ (by simp; omega) (by simp; omega) (by simp; omega) _)))).mono ?_
        rintro en w6 ⟨rfl, h6, g6⟩
        rw [first_some HFE.out] at h6
        have s6 : St w b g E w6 := St.call (by repeat (first | exact HS5.out | refine St.drew ?_ | refine St.alloc ?_ _ | refine St.own ?_ hwg | refine St.far ?_ (by simp; omega) (by simp; omega) (by simp; omega) _)) hwb h6 g6
        have HS6 := Lib.hid s6
        clear h6 g6 s6 c0 c1 f0 f1
        go_wp2_with fail
        refine (err_any b ⟨#[]⟩ E w6 HS6.out.rd).mono ?_
        rintro en w7 ⟨rfl, rfl⟩
        go_wp2_with fail
        go_roundw
        case rel => exact ⟨k + 1, by omega, by omega, by go_num, HS6⟩
        case measure => simp [intOf]; omega
    · have hen : endE ⟨#[]⟩ E = E := if_pos rfl
      have HEN := Lib.hid hen
      have hcase : (k < len0 ∧ k = 10) ∨ k = len0 := by omega
      clear hen hc
      rcases hcase with ⟨hk1, rfl⟩ | rfl
      all_goals
        go_wp2_with fail
        refine (end_any b ⟨#[]⟩ E _ HS.out.rd).mono ?_
        rw [HEN.out]
        rintro en w7 ⟨rfl, _, g7⟩
        have TF := HS.out.tn.grown g7 (fun j hj _ => by injection hj with hj; omega)
        clear HS g7
        go_wp2_with fail
        go_ret
        exact ⟨by simp, TF.below (Nat.le_refl _) (fun j hj h => by omega)⟩

theorem opened0 {H : Type} {enc : TypeId × Value → H} {w : World} {spare : Nat → Bool} {held : Bool} {a : Option Addr} {len cap : Nat} {d : DataW H} {p : List MemPlace} (h : DataW.Trod enc Try.prog w 0 spare held 53 (.slice a len cap) d p) : Arg0 w a len cap := by
  obtain ⟨fuel, h⟩ := h
  rcases Go.Deep.open_slice_pairs Try.underlying53 Try.underlying60 (by kernel_rfl) rfl rfl (by kernel_rfl) (by kernel_rfl) h with ⟨hn, _⟩ | ⟨g, l, c, m, n, V0, V1, D0, D1, P0, P1, hn, _, hlc, hcm, hm, _, hall⟩
  · simp [Value.cells] at hn
    obtain ⟨rfl, rfl, rfl⟩ := hn
    exact ⟨Nat.zero_le _, fun i hi => absurd hi (Nat.not_lt_zero _)⟩
  · simp [Value.cells] at hn
    obtain ⟨rfl, rfl, rfl⟩ := hn
    refine ⟨Nat.le_trans hlc hcm, fun i hi => ?_⟩
    obtain ⟨h0, h1, t0, t1⟩ := hall i (by rw [hm]; split <;> omega)
    obtain ⟨x, hx, _, _⟩ := DataW.trod_int Try.underlying3 t0
    obtain ⟨y, hy, _, wy⟩ := DataW.trod_int Try.underlying3 t1
    have hs : g.spot = none := by
      have h00 := (hall 0 (by rw [hm]; split <;> omega)).1
      simpa [Addr.add] using World.cell?_spot h00
    obtain ⟨gb, go, gs⟩ := g
    obtain rfl : gs = none := hs
    have e0 : (⟨gb, go, none⟩ : Addr).add (i * 2) = ⟨gb, go + i * 2, none⟩ := Addr.add_mid _ _ _
    have e1 : (⟨gb, go, none⟩ : Addr).add (i * 2 + 1) = ⟨gb, go + i * 2 + 1, none⟩ := Addr.add_mid _ _ _
    rw [e0] at h0
    rw [e1] at h1
    simp at hx hy
    rw [hx] at h0
    rw [hy] at h1
    exact ⟨gb, go, x, y, rfl, h0, h1, (wf_i64 wy).1, (wf_i64 wy).2⟩

theorem own : ownKnob Try.prog.godebug = none := by kernel_rfl
theorem laidOut : laidOutB Try.prog = true := by kernel_rfl

set_option maxRecDepth 100000 in
theorem lifted (os : Os) (started : os.Started) (H : Type) (enc : TypeId × Value → H) :
    ReturnsInHanded {} Try.checked os 6 .any (Rows.wireStaysSpec.pre6 enc Try.prog Try.f6 Rows.wireStaysRow.domain false) (Rows.wireStaysSpec.post enc Try.prog Try.f6 false true false false) := by
  refine returnsInHanded_of_change (C := Try.checked) own started (by kernel_rfl) Try.func6
    (ChangeSpec.witness6 (enc := enc) (C := Try.checked) false ⟨#[], #[.slice none 0 0, .int .i64 0], []⟩ 8 (by kernel_rfl) (by kernel_rfl) (by kernel_rfl) (by kernel_rfl)) ?_
  intro W base args ds gs before hval0 hW _ _
  have hval : ∀ (j : Nat) t v, Try.f6.params[j]? = some t → args[j]? = some v → Value.okWide Try.prog W .any base t v := hval0
  have hW' := hW
  obtain ⟨p, q, hA0, hV, rfl, _, _⟩ := hW
  have hA : DataW.TrodAll enc Try.prog W 0 (fun _ => true) true Try.f6.params.toList args.toList ds p := hA0
  rw [Try.params6] at hA hval
  obtain ⟨v0, vs0, d0, ds0, p0, q0, hargs, rfl, rfl, h0, r0⟩ := trodAll_cons hA
  obtain ⟨v1, vs1, d1, ds1, p1, q1, rfl, rfl, rfl, h1, r1⟩ := trodAll_cons r0
  obtain ⟨rfl, rfl, rfl⟩ := trodAll_nil r1
  obtain rfl : args = #[v0, v1] := by cases args; simp_all
  obtain ⟨rfl, rfl⟩ := trodVars_none hV
  obtain ⟨a0, len0, cap0, rfl⟩ := okWide_slice Try.underlying53 (hval 0 53 v0 rfl rfl)
  have k0 := h0
  have lt0 : ∀ x ∈ p0, x.block < W.heap.size := by obtain ⟨m, hm⟩ := k0; exact DataW.trod_lt m _ _ _ hm
  have w0 : Arg0 W a0 len0 cap0 := opened0 h0
  obtain ⟨a1, rfl, rfl, rfl, w1⟩ := open_int Try.underlying3 (hval 1 3 v1 rfl rfl) h1
  clear hA0 hval0
  refine (walk a0 len0 cap0 a1 W w0 w1).mono fun e W' ⟨he, bel⟩ => ?_
  subst he
  exact ⟨_, rfl, _, _, _, [], _, [], hW', trodAll_mk1 (shut_bool Try.underlying4 _), (trodAll_cons_mk (Below.trod laidOut (by kernel_rfl) (of_decide_eq_true (by kernel_rfl)) k0 bel lt0) (trodAll_cons_mk (shut_int Try.underlying3 w1) trodAll_mk0)), rfl, bel.frame _, fun h => by cases h⟩

theorem over : Rows.wireStaysRow.holds Try.pinned (OpenSpec.ofChange Rows.wireStaysSpec) :=
  OpenClaim.holds_of_wide 6 Try.f6 rfl rfl rfl rfl rfl rfl rfl ⟨rfl, rfl, rfl, rfl, rfl⟩ rfl rfl rfl rfl rfl (by kernel_rfl) Try.func6 (by kernel_rfl)
    (of_decide_eq_true (by kernel_rfl)) (by unfold Func.isWrapper; first | (rw [if_pos (by decide +kernel)]; kernel_rfl) | (rw [if_neg (by decide +kernel)]; exact ⟨rfl, rfl⟩))
    (fun os started H enc _ => lifted os started H enc)

theorem proved : Rows.WireStaysSaid := over

end Go.Proofs.Ytigojpjmncclaaa.wireStays
