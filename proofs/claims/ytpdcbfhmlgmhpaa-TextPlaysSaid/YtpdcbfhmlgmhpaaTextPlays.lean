/- TextPlays: for every list of ops the law answers true, and its argument reads afterwards as it did. Conditions: none. -/
import Derived.Test.YtpdcbfhmlgmhpaaTextD
import Derived.Test.YtpdcbfhmlgmhpaaTextE
import Derived.Test.YtpdcbfhmlgmhpaaAny
namespace Go.Proofs.Ytpdcbfhmlgmhpaa.textPlays
open Go.ChangeShapes Go.WideShapes Go.ChangeAt Go.RowKit

/-- The document. -/
structure Pl (w : World) (d : Nat) (s : ByteArray) (wr : World) : Prop where
  doc : Dc wr d s
  few : s.size ≤ 200
  newd : w.heap.size ≤ d
  turn : Turn (fun j => w.heap.size ≤ j) w wr

/-- The document, and an op. -/
def PlO (w : World) (d : Nat) (s : ByteArray) (p : Nat) (K t : Int) (y : ByteArray) (n : Int) (wr : World) : Prop :=
  Pl w d s wr ∧ Has wr p 27 #[.int .i64 K, .int .i64 t, .string y, .int .i64 n]

section
variable {w wr w' : World} {d : Nat} {s s' : ByteArray} {p : Nat} {K t n : Int} {y : ByteArray}
theorem Pl.more (h : Pl w d s wr) (t : Turn (fun j => wr.heap.size ≤ j) wr w') : Pl w d s w' :=
  ⟨h.doc.turn t (Nat.not_le_of_lt h.doc.lt), h.few, h.newd, h.turn.trans t (fun _ _ e => Nat.le_trans h.turn.size e)⟩
theorem Pl.did (h : Pl w d s wr) (e : Dc w' d s') (f : s'.size ≤ 200) (g : wr.grownBy w' (some d)) : Pl w d s' w' :=
  ⟨e, f, h.newd, h.turn.grown g (fun j e _ => by injection e with e; subst e; exact h.newd)⟩
theorem PlO.more (h : PlO w d s p K t y n wr) (k : Turn (fun j => wr.heap.size ≤ j) wr w') : PlO w d s p K t y n w' :=
  ⟨h.1.more k, h.2.turn k (Nat.not_le_of_lt h.2.lt)⟩
theorem PlO.op (h : PlO w d s p K t y n wr) : wr.cell? ⟨p, 0, none⟩ = some (.int .i64 K) ∧ wr.cell? ⟨p, 1, none⟩ = some (.int .i64 t) ∧ wr.cell? ⟨p, 2, none⟩ = some (.string y) ∧ wr.cell? ⟨p, 3, none⟩ = some (.int .i64 n) :=
  ⟨h.2.cell 0, h.2.cell 1, h.2.cell 2, h.2.cell 3⟩
theorem PlO.did (h : PlO w d s p K t y n wr) (e : Dc w' d s') (f : s'.size ≤ 200) (g : wr.grownBy w' (some d)) : PlO w d s' p K t y n w' :=
  ⟨h.1.did e f g, h.2.grown g (by
    intro e
    injection e with e
    subst e
    exact absurd (h.2.uniq h.1.doc).2 (by decide))⟩
end

theorem calls_name {P : Program} {f : FuncId} {args : Array Value} {w : World} {R : Ending → World → Prop} (h : ∀ W, w = W → Calls P f args W R) : Calls P f args w R := h w rfl

set_option maxRecDepth 100000 in
set_option maxHeartbeats 1000000 in
theorem plays_any (a : Option Addr) (len cap : Nat) (w : World) (hA : ArgO w a len) :
    Calls Try.prog 3 #[.slice a len cap] w fun en w' => en = .returned (.bool true) ∧ Below w.heap.size w w' := by
  have hlen : len ≤ 9223372036854775807 := by have := hA.1; unfold maxLen at this; omega
  have HA := Lib.hid hA
  clear hA
  go_enter Try.func3, Try.ntmps3
  go_wp2_with fail
  refine (tawake_any w).mono ?_
  rintro en w1 ⟨rfl, b1⟩
  have T1 : Hid (Turn (fun j => w.heap.size ≤ j) w w1) := Turn.of_below b1 (fun _ _ e => e)
  clear b1
  go_wp2_with fail
  refine (dnew_calls w1).mono ?_
  rintro en w2 ⟨rfl, h2, g2⟩
  obtain ⟨d, ed⟩ : ∃ d, d = w1.heap.size := ⟨_, rfl⟩
  rw [← ed] at h2 ⊢
  have hd : w.heap.size ≤ d := by rw [ed]; exact T1.out.size
  have HW : Hid (Pl w d ⟨#[]⟩ w2) := ⟨h2, Nat.zero_le _, hd, T1.out.grown g2 (fun j e _ => by cases e)⟩
  clear h2 g2 T1 ed
  go_wp2_with fail
  go_loopw [4, 5] (fun v i wr => ∃ (k : Nat) (s : ByteArray), i = .int .i64 k ∧ v = .string s ∧ k ≤ 40 ∧ k ≤ len ∧ Hid (Pl w d s wr)) (fun _ i _ => 40 - (intOf i).toNat)
  case atStart => exact ⟨0, ⟨#[]⟩, rfl, rfl, by omega, Nat.zero_le _, HW⟩
  case round =>
    obtain ⟨k, s, rfl, rfl, hk40, hkl, HD⟩ := hrel
    clear HW
    by_cases hk : k < len ∧ k < 40
    · obtain ⟨hk1, hk2⟩ := hk
      have hk1' : (k : Int) < (len : Int) := by omega
      have hk2' : (k : Int) < 40 := by omega
      have hk0' : (0 : Int) ≤ (k : Int) := by omega
      obtain ⟨b, o, rfl, hb, K, t, n, x, hx, c0, c1, c2, c3⟩ := (HA.out.turn HD.out.turn).2 k hk1
      go_wp2_with fail
      refine (few_calls K t n x _ hx).mono ?_
      rintro en w3 ⟨rfl, b3⟩
      have D3 := Lib.hid (HD.out.more (Turn.of_below b3 (fun _ _ e => e)))
      have hx45 := cutB_size x 45
      generalize cutB x 45 = y at *
      clear b3 HD c0 c1 c2 c3
      go_wp2_with fail
      refine calls_name (fun W4 hW4 => ?_)
      obtain ⟨p, ep⟩ : ∃ p, p = w3.heap.size := ⟨_, rfl⟩
      have D4 : Hid (PlO w d s p K t y n W4) := Lib.hid ⟨D3.out.more (w' := W4) (by rw [← hW4]; exact (Turn.refl _ _).alloc _), by rw [← hW4, ep]; exact Has.made _ _ _⟩
      rw [← ep]
      clear hW4 D3 ep
      have hs := D4.out.1.few
      refine (do_calls d s K t y n W4 D4.out.1.doc hs (by unfold maxLen; omega)).mono ?_
      have hb3 : (doT s K t y n).1.size ≤ 200 := do_size (o := ⟨K, t, y, n⟩) hs
      obtain ⟨r, er⟩ : ∃ r, r = doT s K t y n := ⟨_, rfl⟩
      rw [← er] at hb3 ⊢
      have HR := Lib.hid er
      clear er
      obtain ⟨s', g, e⟩ := r
      simp only at hb3
      rintro en w6 ⟨rfl, d6, g6⟩
      have D6 := Lib.hid (D4.out.did d6 hb3 g6)
      clear d6 g6 D4
      obtain ⟨p0, p1, p2, p3⟩ := D6.out.op
      go_wp2_with fail
      refine (fdo_calls s K t y n w6 hs (by unfold maxLen; omega)).mono ?_
      rw [← HR.out]
      rintro en w7 ⟨rfl, b7⟩
      have D7 := Lib.hid (D6.out.more (Turn.of_below b7 (fun _ _ e => e)))
      clear b7 D6 p0 p1 p2 p3 HR
      go_wp2_with fail
      refine wp_region_S (S := fun V => PlO w d s' p K t y n V) (by kernel_rfl) (D7.out.more ((Turn.refl _ _).drew)) ?_
      refine AnyS.pure 0 (some 46) rfl rfl (by kernel_rfl) (by kernel_rfl) (by kernel_rfl) (fun _ _ _ h => h) (by kernel_rfl) (fun _ _ => rfl) ?_
      refine AnyS.pure 1 (some 47) rfl rfl (by kernel_rfl) (by kernel_rfl) (by kernel_rfl) (fun _ _ _ h => h) (by kernel_rfl) (fun _ _ => rfl) ?_
      refine AnyS.pure 2 (some 48) (v := .bool false) rfl rfl (by kernel_rfl) (by kernel_rfl) (by kernel_rfl) (fun _ _ _ h => h) (by kernel_rfl) (fun V _ => by go_simp) ?_
      refine AnyS.pure 3 (some 49) rfl rfl (by kernel_rfl) (by kernel_rfl) (by kernel_rfl) (fun _ _ _ h => h) (by kernel_rfl) (fun _ _ => rfl) ?_
      refine AnyS.pure 4 (some 50) rfl rfl (by kernel_rfl) (by kernel_rfl) (by kernel_rfl) (fun _ _ _ h => h) (by kernel_rfl) (fun _ _ => rfl) ?_
      refine AnyS.pure 5 (some 51) rfl rfl (by kernel_rfl) (by kernel_rfl) (by kernel_rfl) (fun _ _ _ h => h) (by kernel_rfl) (fun _ _ => rfl) ?_
      refine AnyS.pure 6 (some 52) (v := .bool false) rfl rfl (by kernel_rfl) (by kernel_rfl) (by kernel_rfl) (fun _ _ _ h => h) (by kernel_rfl) (fun V _ => by go_simp) ?_
      refine AnyS.pure 7 (some 53) (v := .bool false) rfl rfl (by kernel_rfl) (by kernel_rfl) (by kernel_rfl) (fun _ _ _ h => h) (by kernel_rfl) (fun V _ => by go_simp) ?_
      refine AnyS.pure 8 (some 54) rfl rfl (by kernel_rfl) (by kernel_rfl) (by kernel_rfl) (fun _ _ _ h => h) (by kernel_rfl) (fun _ _ => rfl) ?_
      refine AnyS.pure 9 (some 55) (v := .agg #[.int .i64 K, .int .i64 t, .string y, .int .i64 n]) rfl rfl (by kernel_rfl) (by kernel_rfl) (by kernel_rfl) (fun _ _ _ h => h) (by kernel_rfl) (fun V hV => by obtain ⟨h0, h1, h2, h3⟩ := hV.op; go_simp) ?_
      refine AnyS.pure 11 (some 57) (v := .agg #[.int .i64 K, .int .i64 t, .string y, .int .i64 n]) rfl rfl (by kernel_rfl) (by kernel_rfl) (by kernel_rfl) (fun _ _ _ h => h) (by kernel_rfl) (fun V hV => by obtain ⟨h0, h1, h2, h3⟩ := hV.op; go_simp) ?_
      refine AnyS.call 10 (some 56) (.int .i64 (chk K t y.size n)) rfl rfl (by kernel_rfl) (by kernel_rfl) (by kernel_rfl) (fun _ _ _ h => h) (by kernel_rfl) 19 Try.f19 Try.func19 (by kernel_rfl) (by kernel_rfl) _ _ rfl #[.agg #[.int .i64 K, .int .i64 t, .string y, .int .i64 n]] (by first | (simp [Act.eval]; done) | (simp [Act.eval, Act.put]; done)) (fun V hV => (check_calls K t n y V (by unfold maxLen; omega)).mono (fun _ _ h => ⟨h.1, hV.more (Turn.of_below h.2 (fun _ _ e => e))⟩)) ?_
      simp only [Act.put, List.setIfInBounds_toArray, List.set_cons_zero, List.set_cons_succ]
      refine AnyS.call 12 (some 58) (.int .i64 (chk K t y.size n)) rfl rfl (by kernel_rfl) (by kernel_rfl) (by kernel_rfl) (fun _ _ _ h => h) (by kernel_rfl) 20 Try.f20 Try.func20 (by kernel_rfl) (by kernel_rfl) _ _ rfl #[.agg #[.int .i64 K, .int .i64 t, .string y, .int .i64 n]] (by first | (simp [Act.eval]; done) | (simp [Act.eval, Act.put]; done)) (fun V hV => (fcheck_calls K t n y V (by unfold maxLen; omega)).mono (fun _ _ h => ⟨h.1, hV.more (Turn.of_below h.2 (fun _ _ e => e))⟩)) ?_
      simp only [Act.put, List.setIfInBounds_toArray, List.set_cons_zero, List.set_cons_succ]
      refine AnyS.pure 13 (some 59) (v := .bool false) rfl rfl (by kernel_rfl) (by kernel_rfl) (by kernel_rfl) (fun _ _ _ h => h) (by kernel_rfl) (fun V _ => by go_simp) ?_
      refine AnyS.pure 14 (some 60) (v := .bool false) rfl rfl (by kernel_rfl) (by kernel_rfl) (by kernel_rfl) (fun _ _ _ h => h) (by kernel_rfl) (fun V _ => by go_simp) ?_
      refine AnyS.pure 15 (some 61) rfl rfl (by kernel_rfl) (by kernel_rfl) (by kernel_rfl) (fun _ _ _ h => h) (by kernel_rfl) (fun _ _ => rfl) ?_
      refine AnyS.pure 16 (some 62) rfl rfl (by kernel_rfl) (by kernel_rfl) (by kernel_rfl) (fun _ _ _ h => h) (by kernel_rfl) (fun _ _ => rfl) ?_
      refine AnyS.pure 18 (some 64) rfl rfl (by kernel_rfl) (by kernel_rfl) (by kernel_rfl) (fun _ _ _ h => h) (by kernel_rfl) (fun _ _ => rfl) ?_
      refine AnyS.call 17 (some 63) (.string s') rfl rfl (by kernel_rfl) (by kernel_rfl) (by kernel_rfl) (fun _ _ _ h => h) (by kernel_rfl) 21 Try.f21 Try.func21 (by kernel_rfl) (by kernel_rfl) _ _ rfl #[.pointer (some ⟨d, 0, none⟩)] (by first | (simp [Act.eval]; done) | (simp [Act.eval, Act.put]; done)) (fun V hV => (dtext_calls d s' V hV.1.doc).mono (fun _ _ h => ⟨h.1, h.2 ▸ hV⟩)) ?_
      simp only [Act.put, List.setIfInBounds_toArray, List.set_cons_zero, List.set_cons_succ]
      refine AnyS.pure 19 (some 65) (v := .bool false) rfl rfl (by kernel_rfl) (by kernel_rfl) (by kernel_rfl) (fun _ _ _ h => h) (by kernel_rfl) (fun V _ => by go_simp) ?_
      refine AnyS.pure 20 (some 66) (v := .bool false) rfl rfl (by kernel_rfl) (by kernel_rfl) (by kernel_rfl) (fun _ _ _ h => h) (by kernel_rfl) (fun V _ => by go_simp) ?_
      refine AnyS.done (by kernel_rfl) (fun V hV => ?_) _
      have D8 : Hid (Pl w d s' V) := hV.1
      clear hV D7
      go_wp2_with fail
      refine ⟨⟨k + 1, s', by rw [Int.natCast_add]; rfl, rfl, by omega, by omega, D8⟩, ?_⟩
      show 40 - ((k : Int) + 1).toNat < 40 - ((k : Int)).toNat
      omega
    · have hx : ((k : Int) < (len : Int) ∧ ¬ (k : Int) < 40) ∨ ¬ (k : Int) < (len : Int) := by omega
      have hs := HD.out.few
      clear hk
      rcases hx with ⟨hc1, hc2⟩ | hc1
      all_goals
        go_wp2_with fail
        refine (dsave_calls d s _ HD.out.doc hs).mono ?_
        rintro en w3 ⟨rfl, b3⟩
        have D3 := Lib.hid (HD.out.more (Turn.of_below b3 (fun _ _ e => e)))
        clear b3 HD
        go_wp2_with fail
        refine (dload_calls s w3 hs).mono ?_
        rintro en w4 ⟨c, rfl, hc, hdc, b4⟩
        have D4 := Lib.hid (D3.out.more (Turn.of_below b4 (fun _ _ e => e)))
        have HC := Lib.hid hdc
        clear b4 D3 hdc
        go_wp2_with fail
        refine (dtext_calls c s w4 HC.out).mono ?_
        rintro en w5 ⟨rfl, rfl⟩
        go_wp2_with fail
        refine (dsave_calls d s w4 D4.out.doc hs).mono ?_
        rintro en w5 ⟨rfl, b5⟩
        have D5 := Lib.hid (D4.out.more (Turn.of_below b5 (fun _ _ e => e)))
        clear b5 D4 HC
        go_wp2_with fail
        refine (rstr_calls s w5 (by omega)).mono ?_
        rintro en w6 ⟨rfl, b6⟩
        have D6 := Lib.hid (D5.out.more (Turn.of_below b6 (fun _ _ e => e)))
        clear b6 D5
        go_wp2_with fail
        go_ret
        exact ⟨rfl, D6.out.turn.below (Nat.le_refl _) (fun j hj e => by omega)⟩

def Arg0 (w : World) (a : Option Addr) (len _cap : Nat) : Prop := ArgO w a len

theorem walk (a0 : Option Addr) (len0 cap0 : Nat) (w : World) (w0 : Arg0 w a0 len0 cap0) :
    Calls Try.prog 3 #[.slice a0 len0 cap0] w fun en w' => en = .returned (.bool true) ∧ Below w.heap.size w w' := plays_any a0 len0 cap0 w w0

theorem opened0 {H : Type} {enc : TypeId × Value → H} {w : World} {spare : Nat → Bool} {held : Bool} {a : Option Addr} {len cap : Nat} {d : DataW H} {p : List MemPlace} (h : DataW.Trod enc Try.prog w 0 spare held 22 (.slice a len cap) d p) : Arg0 w a len cap := openedO h

theorem own : ownKnob Try.prog.godebug = none := by kernel_rfl
theorem laidOut : laidOutB Try.prog = true := by kernel_rfl

set_option maxRecDepth 100000 in
theorem lifted (os : Os) (started : os.Started) (H : Type) (enc : TypeId × Value → H) :
    ReturnsInHanded {} Try.checked os 3 .any (Rows.textPlaysSpec.pre6 enc Try.prog Try.f3 Rows.textPlaysRow.domain false) (Rows.textPlaysSpec.post enc Try.prog Try.f3 false true false false) := by
  refine returnsInHanded_of_change (C := Try.checked) own started (by kernel_rfl) Try.func3
    (ChangeSpec.witness6 (enc := enc) (C := Try.checked) false ⟨#[], #[.slice none 0 0], []⟩ 8 (by kernel_rfl) (by kernel_rfl) (by kernel_rfl) (by kernel_rfl)) ?_
  intro W base args ds gs before hval0 hW _ _
  have hval : ∀ (j : Nat) t v, Try.f3.params[j]? = some t → args[j]? = some v → Value.okWide Try.prog W .any base t v := hval0
  have hW' := hW
  obtain ⟨p, q, hA0, hV, rfl, _, _⟩ := hW
  have hA : DataW.TrodAll enc Try.prog W 0 (fun _ => true) true Try.f3.params.toList args.toList ds p := hA0
  rw [Try.params3] at hA hval
  obtain ⟨v0, vs0, d0, ds0, p0, q0, hargs, rfl, rfl, h0, r0⟩ := trodAll_cons hA
  obtain ⟨rfl, rfl, rfl⟩ := trodAll_nil r0
  obtain rfl : args = #[v0] := by cases args; simp_all
  obtain ⟨rfl, rfl⟩ := trodVars_none hV
  obtain ⟨a0, len0, cap0, rfl⟩ := okWide_slice Try.underlying22 (hval 0 22 v0 rfl rfl)
  have k0 := h0
  have lt0 : ∀ x ∈ p0, x.block < W.heap.size := by obtain ⟨m, hm⟩ := k0; exact DataW.trod_lt m _ _ _ hm
  have w0 : Arg0 W a0 len0 cap0 := opened0 h0
  clear hA0 hval0
  refine (walk a0 len0 cap0 W w0).mono fun e W' ⟨he, bel⟩ => ?_
  subst he
  exact ⟨_, rfl, _, _, _, [], _, [], hW', trodAll_mk1 (shut_bool Try.underlying4 _), (trodAll_cons_mk (Below.trod laidOut (by kernel_rfl) (of_decide_eq_true (by kernel_rfl)) k0 bel lt0) trodAll_mk0), rfl, bel.frame _, fun h => by cases h⟩

theorem over : Rows.textPlaysRow.holds Try.pinned (OpenSpec.ofChange Rows.textPlaysSpec) :=
  OpenClaim.holds_of_wide 3 Try.f3 rfl rfl rfl rfl rfl rfl rfl ⟨rfl, rfl, rfl, rfl, rfl⟩ rfl rfl rfl rfl rfl (by kernel_rfl) Try.func3 (by kernel_rfl)
    (of_decide_eq_true (by kernel_rfl)) (by unfold Func.isWrapper; first | (rw [if_pos (by decide +kernel)]; kernel_rfl) | (rw [if_neg (by decide +kernel)]; exact ⟨rfl, rfl⟩))
    (fun os started H enc _ => lifted os started H enc)

theorem proved : Rows.TextPlaysSaid := over

end Go.Proofs.Ytpdcbfhmlgmhpaa.textPlays
