/- ProcPlays: for any two numbers and any list of acts the law answers true, and its arguments read afterwards as they did. Conditions: none. -/
import Derived.Test.YtokcodbojiaajaaY004
import Derived.Test.YtokcodbojiaajaaYPrdR
import Derived.Test.YtokcodbojiaajaaYPrdJ
import Derived.Test.YtokcodbojiaajaaY010
namespace Go.Proofs.Ytokcodbojiaajaa.procPlays
open Go Go.ChangeShapes Go.WideShapes Go.ChangeAt Go.RowKit Go.Maps Go.Proofs.Ytokcodbojiaajaa.prc

theorem turn_all {w w1 V : World} {P L K d c m x : Nat} {A : Ab} {B : Nat → Nat} {O : Nat → ByteArray} {l s v p : Value} (h : St w1 P L A K d c m B O l s v p x V) (b : Below w.heap.size w w1) : Turn (fun j => w.heap.size ≤ j) w V :=
  (Turn.of_below b (F := fun j => w.heap.size ≤ j) (fun _ _ e => e)).trans h.sd.sys.turn (fun _ _ e => Nat.le_trans b.size e)
theorem below_all {w w1 V : World} {P L K d c m x : Nat} {A : Ab} {B : Nat → Nat} {O : Nat → ByteArray} {l s v p : Value} (h : St w1 P L A K d c m B O l s v p x V) (b : Below w.heap.size w w1) : Below w.heap.size w V :=
  (turn_all h b).below (Nat.le_refl _) (fun _ hj e => by omega)

/-- What lasts at the end. -/
structure Ez (w1 : World) (P L : Nat) (A : Ab) (K d c m : Nat) (B : Nat → Nat) (O : Nat → ByteArray) (l s v p : Value) (x : Nat) (V : World) : Prop where
  st : St w1 P L A K d c m B O l s v p x V
theorem Ez.below {w1 V V' : World} {P L K d c m x : Nat} {A : Ab} {B : Nat → Nat} {O : Nat → ByteArray} {l s v p : Value} (h : Ez w1 P L A K d c m B O l s v p x V) (hb : Below V.heap.size V V') : Ez w1 P L A K d c m B O l s v p x V' := ⟨h.st.below hb⟩

set_option maxRecDepth 100000 in
set_option maxHeartbeats 8000000 in
theorem plays_any (n k : Int) (a1 : Option Addr) (len1 cap1 : Nat) (T1 : Nat → Ak) (w : World) (h1 : ArgK w a1 len1 T1) :
    Calls Try.prog 3 #[.int .i64 n, .int .i64 k, .slice a1 len1 cap1] w fun en w' => en = .returned (.bool true) ∧ Below w.heap.size w w' := by
  have hl1 : len1 ≤ 9223372036854775807 := by have := h1.1; unfold maxLen at this; omega
  have A1 := Lib.hid h1
  clear h1
  go_enter Try.func3, Try.ntmps3
  go_wp2_with fail
  refine (awake_calls w).mono ?_
  rintro en w1 ⟨rfl, b1⟩
  have B1 := Lib.hid b1
  clear b1
  go_wp2_with fail
  refine (lbegin_calls n k w1).mono ?_
  rintro en w2 ⟨P, L, d, c, m, B, l, s, v, p, hP0, hP, hL, rfl, hsd, b2⟩
  obtain ⟨gl, ol, cl, rfl⟩ := hsd.tl (by omega)
  obtain ⟨gs, os, cs, rfl⟩ := hsd.dw.ts
  obtain ⟨gv, ov, cv, rfl⟩ := hsd.dw.tw
  obtain ⟨gp, op, cp, rfl⟩ := hsd.dw.tp
  have HP := Lib.hid (And.intro hP0 (And.intro hP hL))
  have S2 := Lib.hid (And.intro hsd b2)
  clear hP0 hP hL hsd b2
  go_wp2_with fail
  go_name_world W hW
  have S0 : Hid (St w1 P L ab0 0 d c m B noO (.slice (some ⟨gl, ol, none⟩) P cl) (.slice (some ⟨gs, os, none⟩) L cs) (.slice (some ⟨gv, ov, none⟩) P cv) (.slice (some ⟨gp, op, none⟩) P cp) w2.heap.size W) := by
    rw [← hW]
    exact Lib.hid ⟨S2.out.1.alloc _, Has.made _ _ _, S2.out.2.size⟩
  clear hW S2
  generalize w2.heap.size = x at *
  go_loopw [8] (fun i wr => ∃ (k : Nat) (A : Ab) (O : Nat → ByteArray) (gs os cs gv ov cv gp op cp : Nat), i = .int .i64 k ∧ k ≤ 150 ∧ k ≤ len1 ∧ Hid (St w1 P L A k d c m B O (.slice (some ⟨gl, ol, none⟩) P cl) (.slice (some ⟨gs, os, none⟩) L cs) (.slice (some ⟨gv, ov, none⟩) P cv) (.slice (some ⟨gp, op, none⟩) P cp) x wr)) (fun i _ => 150 - (prc.intOf i).toNat)
  case atStart => exact ⟨0, _, _, _, _, _, _, _, _, _, _, _, rfl, by omega, Nat.zero_le _, S0⟩
  case round =>
    clear S0
    obtain ⟨k, A, O, gs, os, cs, gv, ov, cv, gp, op, cp, rfl, hk150, hkl, HS⟩ := hrel
    by_cases hk : k < len1 ∧ k < 150
    · obtain ⟨hk1, hk2⟩ := hk
      have hk1' : (k : Int) < (len1 : Int) := by omega
      have hk2' : (k : Int) < 150 := by omega
      have hk0' : (0 : Int) ≤ (k : Int) := by omega
      obtain ⟨b, o, rfl, hb, hf, c0, c1, c2⟩ := actk_at A1.out (turn_all HS.out B1.out) hk1
      obtain ⟨a, ha⟩ : ∃ a, a = T1 k := ⟨_, rfl⟩
      rw [← ha] at hf c0 c1 c2
      obtain ⟨kind, who, body⟩ := a
      dsimp only at c0 c1 c2
      obtain ⟨i, hi, hiP⟩ := someP who HP.out.1
      have HD := Lib.hid (HS.out.drew.sd.does HP.out.1 HP.out.2.1 HP.out.2.2 (by omega) kind who body hf.2.2 i hi hiP)
      have x0 := HS.out.bx.cell 0
      have x1 := HS.out.bx.cell 1
      have x2 := HS.out.bx.cell 2
      have x3 := HS.out.bx.cell 3
      have x4 := HS.out.bx.cell 4
      have x5 := HS.out.bx.cell 5
      have x6 := HS.out.bx.cell 6
      clear hb hf ha hi hiP hk150 hkl
      go_wp2_with fail
      go_region_law (refine step_call rfl 11 Try.f11 Try.func11 (by kernel_rfl) (by kernel_rfl) _ _ rfl #[.agg (stC P L d (.slice (some ⟨gl, ol, none⟩) P cl) (.slice (some ⟨gs, os, none⟩) L cs) (.slice (some ⟨gv, ov, none⟩) P cv) (.slice (some ⟨gp, op, none⟩) P cp)), .agg #[.int .i64 kind, .int .i64 who, .string body]] (by first | (simp [Act.eval]; done) | (simp [Act.eval, Act.put]; done)) (by exact HD.out) ?_
                     intro en w4 hp
                     obtain ⟨O4, s4, v4, p4, rfl, hsd4, hx4, t4⟩ := HS.out.drew.did hp
                     obtain ⟨gs4, os4, cs4, rfl⟩ := hsd4.dw.ts
                     obtain ⟨gv4, ov4, cv4, rfl⟩ := hsd4.dw.tw
                     obtain ⟨gp4, op4, cp4, rfl⟩ := hsd4.dw.tp
                     have S4 := Lib.hid (hsd4.put7 hx4 HS.out.lo)
                     have f0 := hx4.free 0
                     have f1 := hx4.free 1
                     have f2 := hx4.free 2
                     have f3 := hx4.free 3
                     have f4 := hx4.free 4
                     have f5 := hx4.free 5
                     have f6 := hx4.free 6
                     replace x0 := hx4.cell 0
                     replace x1 := hx4.cell 1
                     replace x2 := hx4.cell 2
                     replace x3 := hx4.cell 3
                     replace x4 := hx4.cell 4
                     replace x5 := hx4.cell 5
                     replace x6 := hx4.cell 6
                     clear hp hsd4 hx4 t4 c0 c1 c2 HD
                     refine ⟨_, rfl, ?_⟩)
      all_goals
        obtain ⟨V4, hV4⟩ : ∃ V4, V4 = (((((((w4.setCell ⟨x, 0, none⟩ (.int .i64 P)).setCell ⟨x, 1, none⟩ (.int .i64 L)).setCell ⟨x, 2, none⟩ (.pointer (some ⟨d, 0, none⟩))).setCell ⟨x, 3, none⟩ (.slice (some ⟨gl, ol, none⟩) P cl)).setCell ⟨x, 4, none⟩ (.slice (some ⟨gs4, os4, none⟩) L cs4)).setCell ⟨x, 5, none⟩ (.slice (some ⟨gv4, ov4, none⟩) P cv4)).setCell ⟨x, 6, none⟩ (.slice (some ⟨gp4, op4, none⟩) P cp4)) := ⟨_, rfl⟩
        rw [← hV4] at S4 ⊢
        clear hV4 f0 f1 f2 f3 f4 f5 f6 x0 x1 x2 x3 x4 x5 x6 HS
        have x0 := S4.out.bx.cell 0
        have x1 := S4.out.bx.cell 1
        have x2 := S4.out.bx.cell 2
        have x3 := S4.out.bx.cell 3
        have x4 := S4.out.bx.cell 4
        have x5 := S4.out.bx.cell 5
        have x6 := S4.out.bx.cell 6
        go_wp2_with (first
          | (go_at_call 12; refine (S4.out.sd.is HP.out.1 HP.out.2.1 HP.out.2.2).mono ?_; rintro en w5 ⟨rfl, b5⟩
             have S5 := Lib.hid (S4.out.below b5)
             clear b5 S4)
          | fail)
        refine ⟨⟨k + 1, _, _, _, _, _, _, _, _, _, _, _, by rw [Int.natCast_add]; rfl, by omega, by omega, S5⟩, ?_⟩
        show 150 - ((k : Int) + 1).toNat < 150 - ((k : Int)).toNat
        omega
    · have hx : ((k : Int) < (len1 : Int) ∧ ¬ (k : Int) < 150) ∨ ¬ (k : Int) < (len1 : Int) := by omega
      clear hk
      obtain ⟨N, hN⟩ : ∃ N, N = P + L := ⟨_, rfl⟩
      have HCK : ∀ V, Hid (Calls Try.prog 13 #[.agg #[.int .i64 P, .int .i64 L]] V fun en w' => en = .returned (.int .i64 0) ∧ Below V.heap.size V w') := fun V => Lib.hid (by
        have e : checkE P L = 0 := by
          have := HP.out
          unfold checkE mayP
          rw [if_pos]
          simp
          omega
        have := checkP_calls P L V
        rw [e] at this
        exact this)
      have HCE : ∀ V, Hid (Calls Try.prog 15 #[.agg #[.int .i64 P, .int .i64 L]] V fun en w' => en = .returned (.int .i64 N) ∧ Below V.heap.size V w') := fun V => Lib.hid (by
        have e : (N : Int) = (P : Int) + (L : Int) := by omega
        rw [e]
        exact cellsP_calls P L V (by omega) (by have := HP.out; omega) (by omega) (by have := HP.out; omega))
      have HLN : ∀ V, Ez w1 P L A k d c m B O (.slice (some ⟨gl, ol, none⟩) P cl) (.slice (some ⟨gs, os, none⟩) L cs) (.slice (some ⟨gv, ov, none⟩) P cv) (.slice (some ⟨gp, op, none⟩) P cp) x V → Hid (Calls Try.prog 14 #[.pointer (some ⟨d, 0, none⟩)] V fun en w' => en = .returned (.int .i64 N) ∧ w' = V) := fun V h => Lib.hid (by
        have := h.st.sd.sys.len
        rw [← hN] at this
        exact this)
      clear hN
      rcases hx with ⟨hc1, hc3⟩ | hc1
      all_goals
        go_wp2_with fail
        refine wp_region_S (S := fun V1 => Ez w1 P L A k d c m B O (.slice (some ⟨gl, ol, none⟩) P cl) (.slice (some ⟨gs, os, none⟩) L cs) (.slice (some ⟨gv, ov, none⟩) P cv) (.slice (some ⟨gp, op, none⟩) P cp) x V1) (by kernel_rfl) (by exact ⟨HS.out.drew⟩) ?_
        refine AnyS.pure 0 (some 42) (v := .pointer (some ⟨x, 0, none⟩)) rfl rfl (by kernel_rfl) (by kernel_rfl) (by kernel_rfl) (fun _ _ _ h => h) (by kernel_rfl) (fun V _ => by go_simp) ?_
        refine AnyS.pure 1 (some 43) (v := .agg #[.int .i64 P, .int .i64 L]) rfl rfl (by kernel_rfl) (by kernel_rfl) (by kernel_rfl) (fun _ _ _ h => h) (by kernel_rfl) (fun V hV => by have c0 := hV.st.bx.cell 0; have c1 := hV.st.bx.cell 1; have c2 := hV.st.bx.cell 2; go_simp) ?_
        refine AnyS.call 2 (some 44) (.int .i64 0) rfl rfl (by kernel_rfl) (by kernel_rfl) (by kernel_rfl) (fun _ _ _ h => h) (by kernel_rfl) 13 Try.f13 Try.func13 (by kernel_rfl) (by kernel_rfl) _ _ rfl #[.agg #[.int .i64 P, .int .i64 L]] (by first | (simp [Act.eval]; done) | (simp [Act.eval, Act.put]; done)) (fun V hV => (HCK V).out.mono (by rintro en v ⟨rfl, bv⟩; exact ⟨rfl, hV.below bv⟩)) ?_
        simp only [Act.put, List.setIfInBounds_toArray, List.set_cons_zero, List.set_cons_succ]
        refine AnyS.pure 3 (some 45) (v := .bool true) rfl rfl (by kernel_rfl) (by kernel_rfl) (by kernel_rfl) (fun _ _ _ h => h) (by kernel_rfl) (fun V _ => by go_simp) ?_
        refine AnyS.pure 4 (some 46) rfl rfl (by kernel_rfl) (by kernel_rfl) (by kernel_rfl) (fun _ _ _ h => h) (by kernel_rfl) (fun _ _ => rfl) ?_
        refine AnyS.pure 5 (some 47) (v := .pointer (some ⟨x, 2, none⟩)) rfl rfl (by kernel_rfl) (by kernel_rfl) (by kernel_rfl) (fun _ _ _ h => h) (by kernel_rfl) (fun V _ => by go_simp) ?_
        refine AnyS.pure 6 (some 48) (v := .pointer (some ⟨d, 0, none⟩)) rfl rfl (by kernel_rfl) (by kernel_rfl) (by kernel_rfl) (fun _ _ _ h => h) (by kernel_rfl) (fun V hV => by have c0 := hV.st.bx.cell 0; have c1 := hV.st.bx.cell 1; have c2 := hV.st.bx.cell 2; go_simp) ?_
        refine AnyS.pure 8 (some 50) (v := .pointer (some ⟨x, 0, none⟩)) rfl rfl (by kernel_rfl) (by kernel_rfl) (by kernel_rfl) (fun _ _ _ h => h) (by kernel_rfl) (fun V _ => by go_simp) ?_
        refine AnyS.pure 9 (some 51) (v := .agg #[.int .i64 P, .int .i64 L]) rfl rfl (by kernel_rfl) (by kernel_rfl) (by kernel_rfl) (fun _ _ _ h => h) (by kernel_rfl) (fun V hV => by have c0 := hV.st.bx.cell 0; have c1 := hV.st.bx.cell 1; have c2 := hV.st.bx.cell 2; go_simp) ?_
        refine AnyS.call 7 (some 49) (.int .i64 N) rfl rfl (by kernel_rfl) (by kernel_rfl) (by kernel_rfl) (fun _ _ _ h => h) (by kernel_rfl) 14 Try.f14 Try.func14 (by kernel_rfl) (by kernel_rfl) _ _ rfl #[.pointer (some ⟨d, 0, none⟩)] (by first | (simp [Act.eval]; done) | (simp [Act.eval, Act.put]; done)) (fun V hV => (HLN V hV).out.mono (by rintro en v ⟨rfl, rfl⟩; exact ⟨rfl, hV⟩)) ?_
        simp only [Act.put, List.setIfInBounds_toArray, List.set_cons_zero, List.set_cons_succ]
        refine AnyS.call 10 (some 52) (.int .i64 N) rfl rfl (by kernel_rfl) (by kernel_rfl) (by kernel_rfl) (fun _ _ _ h => h) (by kernel_rfl) 15 Try.f15 Try.func15 (by kernel_rfl) (by kernel_rfl) _ _ rfl #[.agg #[.int .i64 P, .int .i64 L]] (by first | (simp [Act.eval]; done) | (simp [Act.eval, Act.put]; done)) (fun V hV => (HCE V).out.mono (by rintro en v ⟨rfl, bv⟩; exact ⟨rfl, hV.below bv⟩)) ?_
        simp only [Act.put, List.setIfInBounds_toArray, List.set_cons_zero, List.set_cons_succ]
        refine AnyS.pure 11 (some 53) (v := .bool true) rfl rfl (by kernel_rfl) (by kernel_rfl) (by kernel_rfl) (fun _ _ _ h => h) (by kernel_rfl) (fun V _ => by go_simp) ?_
        refine AnyS.pure 12 (some 54) (v := .bool true) rfl rfl (by kernel_rfl) (by kernel_rfl) (by kernel_rfl) (fun _ _ _ h => h) (by kernel_rfl) (fun V _ => by go_simp) ?_
        refine AnyS.pure 13 (some 6) rfl rfl (by kernel_rfl) (by kernel_rfl) (by kernel_rfl) (fun _ _ _ h => h) (by kernel_rfl) (fun _ _ => rfl) ?_
        refine AnyS.done (by kernel_rfl) (fun V1 hV => ?_) _
        have HZ := Lib.hid hV.st
        clear hV
        go_wp2_with fail
        go_ret
        exact ⟨rfl, below_all HZ.out B1.out⟩

def Arg2 (w : World) (a : Option Addr) (len _cap : Nat) : Prop := ∃ T, ArgK w a len T

theorem walk (n k : Int) (a1 : Option Addr) (len1 cap1 : Nat) (w : World) (_ : (Lit.int .i64 n).wf = true) (_ : (Lit.int .i64 k).wf = true) (w1 : Arg2 w a1 len1 cap1) :
    Calls Try.prog 3 #[.int .i64 n, .int .i64 k, .slice a1 len1 cap1] w fun en w' => en = .returned (.bool true) ∧ Below w.heap.size w w' := by
  obtain ⟨T1, h1⟩ := w1
  exact plays_any n k a1 len1 cap1 T1 w h1

theorem opened2 {H : Type} {enc : TypeId × Value → H} {w : World} {spare : Nat → Bool} {held : Bool} {a : Option Addr} {len cap : Nat} {d : DataW H} {p : List MemPlace} (h : DataW.Trod enc Try.prog w 0 spare held 22 (.slice a len cap) d p) : Arg2 w a len cap := openedK h

theorem own : ownKnob Try.prog.godebug = none := by kernel_rfl
theorem laidOut : laidOutB Try.prog = true := by kernel_rfl

set_option maxRecDepth 100000 in
theorem lifted (os : Os) (started : os.Started) (H : Type) (enc : TypeId × Value → H) :
    ReturnsInHanded {} Try.checked os 3 .any (Rows.procPlaysSpec.pre6 enc Try.prog Try.f3 Rows.procPlaysRow.domain false) (Rows.procPlaysSpec.post enc Try.prog Try.f3 false true false false) := by
  refine returnsInHanded_of_change (C := Try.checked) own started (by kernel_rfl) Try.func3
    (ChangeSpec.witness6 (enc := enc) (C := Try.checked) false ⟨#[], #[.int .i64 0, .int .i64 0, .slice none 0 0], []⟩ 8 (by kernel_rfl) (by kernel_rfl) (by kernel_rfl) (by kernel_rfl)) ?_
  intro W base args ds gs before hval0 hW _ _
  have hval : ∀ (j : Nat) t v, Try.f3.params[j]? = some t → args[j]? = some v → Value.okWide Try.prog W .any base t v := hval0
  have hW' := hW
  obtain ⟨p, q, hA0, hV, rfl, _, _⟩ := hW
  have hA : DataW.TrodAll enc Try.prog W 0 (fun _ => true) true Try.f3.params.toList args.toList ds p := hA0
  rw [Try.params3] at hA hval
  obtain ⟨v0, vs0, d0, ds0, p0, q0, hargs, rfl, rfl, h0, r0⟩ := trodAll_cons hA
  obtain ⟨v1, vs1, d1, ds1, p1, q1, rfl, rfl, rfl, h1, r1⟩ := trodAll_cons r0
  obtain ⟨v2, vs2, d2, ds2, p2, q2, rfl, rfl, rfl, h2, r2⟩ := trodAll_cons r1
  obtain ⟨rfl, rfl, rfl⟩ := trodAll_nil r2
  obtain rfl : args = #[v0, v1, v2] := by cases args; simp_all
  obtain ⟨rfl, rfl⟩ := trodVars_none hV
  obtain ⟨a0, rfl, rfl, rfl, w0⟩ := open_int Try.underlying3 (hval 0 3 v0 rfl rfl) h0
  obtain ⟨a1, rfl, rfl, rfl, w1⟩ := open_int Try.underlying3 (hval 1 3 v1 rfl rfl) h1
  obtain ⟨a2, len2, cap2, rfl⟩ := okWide_slice Try.underlying22 (hval 2 22 v2 rfl rfl)
  have k2 := h2
  have lt2 : ∀ x ∈ p2, x.block < W.heap.size := by obtain ⟨m, hm⟩ := k2; exact DataW.trod_lt m _ _ _ hm
  have w2 : Arg2 W a2 len2 cap2 := opened2 h2
  clear hA0 hval0
  refine (walk a0 a1 a2 len2 cap2 W w0 w1 w2).mono fun e W' ⟨he, bel⟩ => ?_
  subst he
  exact ⟨_, rfl, _, _, _, [], _, [], hW', trodAll_mk1 (shut_bool Try.underlying4 _), (trodAll_cons_mk (shut_int Try.underlying3 w0) (trodAll_cons_mk (shut_int Try.underlying3 w1) (trodAll_cons_mk (Below.trod laidOut (by kernel_rfl) (of_decide_eq_true (by kernel_rfl)) k2 bel lt2) trodAll_mk0))), rfl, bel.frame _, fun h => by cases h⟩

theorem over : Rows.procPlaysRow.holds Try.pinned (OpenSpec.ofChange Rows.procPlaysSpec) :=
  OpenClaim.holds_of_wide 3 Try.f3 rfl rfl rfl rfl rfl rfl rfl ⟨rfl, rfl, rfl, rfl, rfl⟩ rfl rfl rfl rfl rfl (by kernel_rfl) Try.func3 (by kernel_rfl)
    (of_decide_eq_true (by kernel_rfl)) (by unfold Func.isWrapper; first | (rw [if_pos (by decide +kernel)]; kernel_rfl) | (rw [if_neg (by decide +kernel)]; exact ⟨rfl, rfl⟩))
    (fun os started H enc _ => lifted os started H enc)

theorem proved : Rows.ProcPlaysSaid := over

end Go.Proofs.Ytokcodbojiaajaa.procPlays
