/- CellsOne: for every text, every list of texts and every list of processes the law answers true, and its arguments read afterwards as they did. Conditions: none. -/
import Derived.Test.YtdofnmllhgabdaaCelE
import Derived.ShutString
namespace Go.Proofs.Ytdofnmllhgabdaa.cellsOne
open Go.ChangeShapes Go.WideShapes Go.ChangeAt Go.RowKit Go.Maps Go.Proofs.Ytdofnmllhgabdaa.cel
open Go.ChangeMaps (open_string shut_string)

/-- What lasts: nothing is done yet, or just one Swap. -/
structure St (w : World) (d c m k : Nat) (F want : ByteArray) (x : Int) (T : Nat → ByteArray) (N : Nat → Int) (D : DataW Unit) (a : Int) (V : World) : Prop where
  own : Own w d c m 3 T N D a V
  few : a ≤ (k : Int) + 1
  t1 : T 1 = want
  n1 : N 1 = x
  t0 : T 0 = ByteArray.empty
  t2 : T 2 = ByteArray.empty
  one : (x = 0 ∧ want = F) ∨ (x = 1 ∧ want ≠ F)

set_option maxRecDepth 100000 in
set_option maxHeartbeats 4000000 in
theorem one_any (first : ByteArray) (a1 : Option Addr) (len1 cap1 : Nat) (T1 : Nat → ByteArray) (a2 : Option Addr) (len2 cap2 : Nat) (T2 : Nat → Int) (w : World)
    (h0 : first.size ≤ maxLen) (h1 : ArgS w a1 len1 cap1 T1) (h2 : ArgI w a2 len2 cap2 T2) :
    Calls Try.prog 4 #[.string first, .slice a1 len1 cap1, .slice a2 len2 cap2] w fun en w' => en = .returned (.bool true) ∧ Below w.heap.size w w' := by
  have hl1 : len1 ≤ 9223372036854775807 := by have := h1.1; have := h1.2.1; unfold maxLen at this; omega
  have hl2 : len2 ≤ 9223372036854775807 := by have := h2.1; have := h2.2.1; unfold maxLen at this; omega
  have A1 := Lib.hid h1
  have A2 := Lib.hid h2
  have H0 := Lib.hid h0
  clear h0 h1 h2
  go_enter Try.func4, Try.ntmps4
  go_wp2_with fail
  refine (awake_any w).mono ?_
  rintro en w1 ⟨rfl, b1⟩
  have T1' : Hid (Turn (fun j => w.heap.size ≤ j) w w1) := Turn.of_below b1 (fun _ _ e => e)
  clear b1
  go_wp2_with fail
  refine (cut_calls first 8 w1 (by decide) H0.out).mono ?_
  rintro en w1 ⟨rfl, rfl⟩
  obtain ⟨F, hF⟩ : ∃ F, F = first.extract 0 8 := ⟨_, rfl⟩
  rw [← hF]
  clear hF H0
  go_wp2_with fail
  refine (new_calls (H := Unit) 3 (by decide) w1).mono ?_
  intro en w2 hP
  obtain ⟨d, c, m, rfl, hO, _⟩ := own_new T1'.out hP
  have HO := Lib.hid hO
  clear hP hO T1'
  go_wp2_with fail
  refine (HO.out.do_any 0 2 1 ⟨#[]⟩ F (by decide) (by decide) (by decide) ⟨by decide, by decide⟩ (by decide) ⟨#[]⟩ rfl true rfl (upd noT 1 F) rfl _ rfl).mono ?_
  rintro en w3 ⟨rfl, h3⟩
  have S3 : Hid (St w d c m 0 F F 0 (upd noT 1 F) noN (more1 (.map []) 0) 1 w3) := by
    rw [show upd noN 1 (aftN 2 ⟨#[]⟩ ⟨#[]⟩ (noN 1)) = noN by rw [show aftN 2 ⟨#[]⟩ ⟨#[]⟩ (noN 1) = noN 1 from if_neg (fun e => absurd e.1 (by decide)), upd_self]] at h3
    exact Lib.hid ⟨h3, by decide, rfl, rfl, rfl, rfl, .inl ⟨rfl, rfl⟩⟩
  clear h3 HO
  go_wp2_with fail
  go_loopw [8, 9, 10] (fun v8 v9 i wr => ∃ (k : Nat) (want : ByteArray) (x : Int) (T : Nat → ByteArray) (N : Nat → Int) (D : DataW Unit) (a : Int), v8 = .int .i64 x ∧ v9 = .string want ∧ i = .int .i64 k ∧ k ≤ 20 ∧ k ≤ len1 ∧ Hid (St w d c m k F want x T N D a wr)) (fun _ _ i _ => 20 - (intOf i).toNat)
  case atStart => exact ⟨0, F, 0, _, _, _, _, rfl, rfl, rfl, by omega, Nat.zero_le _, S3⟩
  case round =>
    obtain ⟨k, want, x, T, N, D, a, rfl, rfl, rfl, hk20, hkl, HS⟩ := hrel
    clear S3
    by_cases hk : k < len1 ∧ k < 20
    · obtain ⟨hk1, hk2⟩ := hk
      have hk1' : (k : Int) < (len1 : Int) := by omega
      have hk2' : (k : Int) < 20 := by omega
      have hk0' : (0 : Int) ≤ (k : Int) := by omega
      obtain ⟨b, o, rfl, c0, hs⟩ := str_at A1.out HS.out.own.turn hk1
      have HS1 := Lib.hid hs
      clear hs
      go_wp2_with fail
      refine (cut_calls (T1 k) 8 wr (by decide) HS1.out).mono ?_
      rintro en w4 ⟨rfl, rfl⟩
      generalize (T1 k).extract 0 8 = s at *
      clear c0 HS1
      by_cases hsF : s = F
      · subst hsF
        go_wp2_with fail
        refine ⟨⟨k + 1, want, x, T, N, D, a, rfl, rfl, by rw [Int.natCast_add]; rfl, by omega, by omega, Lib.hid ⟨HS.out.own, by have := HS.out.few; omega, HS.out.t1, HS.out.n1, HS.out.t0, HS.out.t2, HS.out.one⟩⟩, ?_⟩
        show 20 - ((k : Int) + 1).toNat < 20 - ((k : Int)).toNat
        omega
      · have hb := list_ne hsF
        have HNE := Lib.hid hsF
        clear hsF
        have hnext : Hid (∀ w6, St w d c m k F want x T N D a w4 → ∀ p, Own w d c m 3 (upd T 1 (aftT 3 want F s)) (upd N 1 (aftN 3 want F (N 1))) (more1 D p) (a + 1) w6 → St w d c m (k + 1) F (if x = 0 then s else want) 1 (upd T 1 (aftT 3 want F s)) (upd N 1 (aftN 3 want F (N 1))) (more1 D p) (a + 1) w6) := by
          refine Lib.hid fun w6 h p h6 => ⟨h6, by have := h.few; omega, ?_, ?_, (upd_other _ _ (by decide)).trans h.t0, (upd_other _ _ (by decide)).trans h.t2, .inr ⟨rfl, ?_⟩⟩
          · rw [upd_same]
            unfold aftT
            rw [if_neg (by decide), if_pos rfl]
            rcases h.one with ⟨e1, e2⟩ | ⟨e1, e2⟩
            · rw [if_pos e2, if_pos e1]
            · rw [if_neg e2, if_neg (show ¬ x = 0 by omega)]
          · rw [upd_same]
            unfold aftN
            rcases h.one with ⟨e1, e2⟩ | ⟨e1, e2⟩
            · rw [if_pos ⟨rfl, e2⟩, h.n1, e1]; rfl
            · rw [if_neg (fun e => e2 e.2), h.n1, e1]
          · rcases h.one with ⟨e1, e2⟩ | ⟨e1, e2⟩
            · rw [if_pos e1]; exact HNE.out
            · rw [if_neg (by omega)]; exact e2
        obtain ⟨p, hP, hcase⟩ : ∃ p, Fits p ∧ ((∃ b o, a2 = some ⟨b, o, none⟩ ∧ w4.cell? ⟨b, o + k, none⟩ = some (.int .i64 p) ∧ (k : Int) < (len2 : Int)) ∨ (p = 0 ∧ ¬ (k : Int) < (len2 : Int))) := by
          by_cases hk2 : k < len2
          · obtain ⟨b, o, e, c0, hf⟩ := int_at A2.out HS.out.own.turn hk2
            exact ⟨T2 k, hf, .inl ⟨b, o, e, c0, by omega⟩⟩
          · exact ⟨0, ⟨by decide, by decide⟩, .inr ⟨rfl, by omega⟩⟩
        have HP := Lib.hid hP
        have hfew := Lib.hid HS.out.few
        clear hP
        rcases HS.out.one with ⟨rfl, rfl⟩ | ⟨rfl, hwF⟩
        · rcases hcase with ⟨b', o', rfl, c0, hk2⟩ | ⟨rfl, hk2⟩
          all_goals
            go_wp2_with fail
            refine (HS.out.own.do_any _ 3 1 want s (by decide) (by decide) (by decide) HP.out (by have := hfew.out; omega) want HS.out.t1 true (by unfold did; simp) _ rfl _ rfl).mono ?_
            rintro en w6 ⟨rfl, h6⟩
            have S6 := Lib.hid (hnext.out w6 HS.out _ h6)
            clear h6 HS hnext
            go_wp2_with fail
            refine ⟨⟨k + 1, s, 1, _, _, _, _, rfl, rfl, by rw [Int.natCast_add]; rfl, by omega, by omega, S6⟩, ?_⟩
            show 20 - ((k : Int) + 1).toNat < 20 - ((k : Int)).toNat
            omega
        · have HWF := Lib.hid hwF
          have hneq := list_ne hwF
          clear hwF
          rcases hcase with ⟨b', o', rfl, c0, hk2⟩ | ⟨rfl, hk2⟩
          all_goals
            go_wp2_with fail
            refine (HS.out.own.do_any _ 3 1 F s (by decide) (by decide) (by decide) HP.out (by have := hfew.out; omega) want HS.out.t1 false (by unfold did; simp [HWF.out]) _ rfl _ rfl).mono ?_
            rintro en w6 ⟨rfl, h6⟩
            have S6 := Lib.hid (hnext.out w6 HS.out _ h6)
            clear h6 HS hnext
            go_wp2_with fail
            refine ⟨⟨k + 1, want, 1, _, _, _, _, rfl, rfl, by rw [Int.natCast_add]; rfl, by omega, by omega, S6⟩, ?_⟩
            show 20 - ((k : Int) + 1).toNat < 20 - ((k : Int)).toNat
            omega
    · have hx : ((k : Int) < (len1 : Int) ∧ ¬ (k : Int) < 20) ∨ ¬ (k : Int) < (len1 : Int) := by omega
      clear hk
      rcases hx with ⟨hc1, hc2⟩ | hc1
      all_goals
        go_wp2_with fail
        refine (HS.out.own.look 1 want ((text_at (j := 1) _ (by decide)).trans HS.out.t1)).mono ?_
        rintro en w4 ⟨rfl, rfl⟩
        go_wp2_with fail
        refine (HS.out.own.swaps 1 x ((swaps_at (j := 1) _ (by decide)).trans HS.out.n1)).mono ?_
        rintro en w4 ⟨rfl, rfl⟩
        go_wp2_with fail
        refine (HS.out.own.look 0 ⟨#[]⟩ ((text_at (j := 0) _ (by decide)).trans HS.out.t0)).mono ?_
        rintro en w4 ⟨rfl, rfl⟩
        go_wp2_with fail
        refine (HS.out.own.look 2 ⟨#[]⟩ ((text_at (j := 2) _ (by decide)).trans HS.out.t2)).mono ?_
        rintro en w4 ⟨rfl, rfl⟩
        go_wp2_with fail
        go_ret
        exact ⟨rfl, HS.out.own.ends⟩

def Arg1 (w : World) (a : Option Addr) (len cap : Nat) : Prop := ∃ T, ArgS w a len cap T
def Arg2 (w : World) (a : Option Addr) (len cap : Nat) : Prop := ∃ T, ArgI w a len cap T

theorem walk (a0 : ByteArray) (a1 : Option Addr) (len1 cap1 : Nat) (a2 : Option Addr) (len2 cap2 : Nat) (w : World) (w0 : a0.size ≤ maxLen) (w1 : Arg1 w a1 len1 cap1) (w2 : Arg2 w a2 len2 cap2) :
    Calls Try.prog 4 #[.string a0, .slice a1 len1 cap1, .slice a2 len2 cap2] w fun en w' => en = .returned (.bool true) ∧ Below w.heap.size w w' := by
  obtain ⟨T1, h1⟩ := w1
  obtain ⟨T2, h2⟩ := w2
  exact one_any a0 a1 len1 cap1 T1 a2 len2 cap2 T2 w w0 h1 h2

theorem opened1 {H : Type} {enc : TypeId × Value → H} {w : World} {spare : Nat → Bool} {held : Bool} {a : Option Addr} {len cap : Nat} {d : DataW H} {p : List MemPlace} (h : DataW.Trod enc Try.prog w 0 spare held 44 (.slice a len cap) d p) : Arg1 w a len cap := openedStrs h
theorem opened2 {H : Type} {enc : TypeId × Value → H} {w : World} {spare : Nat → Bool} {held : Bool} {a : Option Addr} {len cap : Nat} {d : DataW H} {p : List MemPlace} (h : DataW.Trod enc Try.prog w 0 spare held 45 (.slice a len cap) d p) : Arg2 w a len cap := openedI h

theorem own : ownKnob Try.prog.godebug = none := by kernel_rfl
theorem laidOut : laidOutB Try.prog = true := by kernel_rfl

set_option maxRecDepth 100000 in
theorem lifted (os : Os) (started : os.Started) (H : Type) (enc : TypeId × Value → H) :
    ReturnsInHanded {} Try.checked os 4 .any (Rows.cellsOneSpec.pre6 enc Try.prog Try.f4 Rows.cellsOneRow.domain false) (Rows.cellsOneSpec.post enc Try.prog Try.f4 false true false false) := by
  refine returnsInHanded_of_change (C := Try.checked) own started (by kernel_rfl) Try.func4
    (ChangeSpec.witness6 (enc := enc) (C := Try.checked) false ⟨#[], #[.string ByteArray.empty, .slice none 0 0, .slice none 0 0], []⟩ 8 (by kernel_rfl) (by kernel_rfl) (by kernel_rfl) (by kernel_rfl)) ?_
  intro W base args ds gs before hval0 hW _ _
  have hval : ∀ (j : Nat) t v, Try.f4.params[j]? = some t → args[j]? = some v → Value.okWide Try.prog W .any base t v := hval0
  have hW' := hW
  obtain ⟨p, q, hA0, hV, rfl, _, _⟩ := hW
  have hA : DataW.TrodAll enc Try.prog W 0 (fun _ => true) true Try.f4.params.toList args.toList ds p := hA0
  rw [Try.params4] at hA hval
  obtain ⟨v0, vs0, d0, ds0, p0, q0, hargs, rfl, rfl, h0, r0⟩ := trodAll_cons hA
  obtain ⟨v1, vs1, d1, ds1, p1, q1, rfl, rfl, rfl, h1, r1⟩ := trodAll_cons r0
  obtain ⟨v2, vs2, d2, ds2, p2, q2, rfl, rfl, rfl, h2, r2⟩ := trodAll_cons r1
  obtain ⟨rfl, rfl, rfl⟩ := trodAll_nil r2
  obtain rfl : args = #[v0, v1, v2] := by cases args; simp_all
  obtain ⟨rfl, rfl⟩ := trodVars_none hV
  obtain ⟨a0, rfl, rfl, rfl, w0⟩ := open_string Try.underlying9 (hval 0 9 v0 rfl rfl) h0
  obtain ⟨a1, len1, cap1, rfl⟩ := okWide_slice Try.underlying44 (hval 1 44 v1 rfl rfl)
  have k1 := h1
  have lt1 : ∀ x ∈ p1, x.block < W.heap.size := by obtain ⟨m, hm⟩ := k1; exact DataW.trod_lt m _ _ _ hm
  have w1 : Arg1 W a1 len1 cap1 := opened1 h1
  obtain ⟨a2, len2, cap2, rfl⟩ := okWide_slice Try.underlying45 (hval 2 45 v2 rfl rfl)
  have k2 := h2
  have lt2 : ∀ x ∈ p2, x.block < W.heap.size := by obtain ⟨m, hm⟩ := k2; exact DataW.trod_lt m _ _ _ hm
  have w2 : Arg2 W a2 len2 cap2 := opened2 h2
  clear hA0 hval0
  refine (walk a0 a1 len1 cap1 a2 len2 cap2 W w0 w1 w2).mono fun e W' ⟨he, bel⟩ => ?_
  subst he
  exact ⟨_, rfl, _, _, _, [], _, [], hW', trodAll_mk1 (shut_bool Try.underlying4 _), (trodAll_cons_mk (shut_string Try.underlying9 w0) (trodAll_cons_mk (Below.trod laidOut (by kernel_rfl) (of_decide_eq_true (by kernel_rfl)) k1 bel lt1) (trodAll_cons_mk (Below.trod laidOut (by kernel_rfl) (of_decide_eq_true (by kernel_rfl)) k2 bel lt2) trodAll_mk0))), rfl, bel.frame _, fun h => by cases h⟩

theorem over : Rows.cellsOneRow.holds Try.pinned (OpenSpec.ofChange Rows.cellsOneSpec) :=
  OpenClaim.holds_of_wide 4 Try.f4 rfl rfl rfl rfl rfl rfl rfl ⟨rfl, rfl, rfl, rfl, rfl⟩ rfl rfl rfl rfl rfl (by kernel_rfl) Try.func4 (by kernel_rfl)
    (of_decide_eq_true (by kernel_rfl)) (by unfold Func.isWrapper; first | (rw [if_pos (by decide +kernel)]; kernel_rfl) | (rw [if_neg (by decide +kernel)]; exact ⟨rfl, rfl⟩))
    (fun os started H enc _ => lifted os started H enc)

theorem proved : Rows.CellsOneSaid := over

end Go.Proofs.Ytdofnmllhgabdaa.cellsOne
