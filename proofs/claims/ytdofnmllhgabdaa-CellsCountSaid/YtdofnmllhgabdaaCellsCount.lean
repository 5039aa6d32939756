/- CellsCount: for every list of processes and every number the law answers true, and its arguments read afterwards as they did. Conditions: none. -/
import Derived.Test.YtdofnmllhgabdaaCelE
import Derived.Maps.RangeWalk
namespace Go.Proofs.Ytdofnmllhgabdaa.cellsCount
open Go.ChangeShapes Go.WideShapes Go.ChangeAt Go.RowKit Go.Maps Go.Proofs.Ytdofnmllhgabdaa.cel

/-- What lasts: the law's own map reads as the memory's counts. -/
structure St (w : World) (d c m y q k : Nat) (T : Nat → ByteArray) (N : Nat → Int) (D : DataW Unit) (a : Int) (V : World) : Prop where
  own : Own w d c m q T N D a V
  few : a ≤ (k : Int)
  map : Mp V y D
  ny : w.heap.size ≤ y
  yd : y ≠ d ∧ y ≠ c ∧ y ≠ m

theorem mp_turn {F : Nat → Prop} {w w' : World} {m : Nat} {D : DataW Unit} (h : Mp w m D) (t : Turn F w w') (hm : ¬ F m) : Mp w' m D := by
  have hlt := h.lt
  obtain ⟨es, clock, k1, k2⟩ := h
  exact ⟨es, clock, (t.block m hlt hm).trans k1, k2⟩

set_option maxRecDepth 100000 in
set_option maxHeartbeats 4000000 in
theorem count_any (a1 : Option Addr) (len1 cap1 : Nat) (T1 : Nat → Int) (z : Int) (w : World) (h1 : ArgI w a1 len1 cap1 T1) :
    Calls Try.prog 6 #[.slice a1 len1 cap1, .int .i64 z] w fun en w' => en = .returned (.bool true) ∧ Below w.heap.size w w' := by
  have hl1 : len1 ≤ 9223372036854775807 := by have := h1.1; have := h1.2.1; unfold maxLen at this; omega
  have A1 := Lib.hid h1
  obtain ⟨m0, hm0⟩ : ∃ m0 : Int, (if z < 1 then 1 else z) = m0 := ⟨_, rfl⟩
  obtain ⟨q, hq, hq1, hq9⟩ : ∃ q : Nat, (if (9 : Int) < m0 then 9 else m0) = (q : Int) ∧ 1 ≤ q ∧ q ≤ 9 := by
    refine ⟨(if (9 : Int) < m0 then 9 else m0).toNat, ?_, ?_, ?_⟩ <;> (split at hm0 <;> split <;> omega)
  clear h1
  go_enter Try.func6, Try.ntmps6
  go_wp2_with fail
  refine (awake_any w).mono ?_
  rintro en w1 ⟨rfl, b1⟩
  have T1' : Hid (Turn (fun j => w.heap.size ≤ j) w w1) := Turn.of_below b1 (fun _ _ e => e)
  clear b1
  go_wp2_with fail
  refine (new_calls (H := Unit) q (by omega) w1).mono ?_
  intro en w2 hP
  obtain ⟨d, c, m, rfl, hO, _⟩ := own_new T1'.out hP
  have HO := Lib.hid hO
  clear hP hO T1' hm0 hq
  have hq1' : (1 : Int) ≤ (q : Int) := by omega
  have hq9' : (q : Int) ≤ 9 := by omega
  have hrun0 := run_makeMap (P := Try.prog) 49 w2
  have hown := World.ownsMap_made (H := Unit) w2 Try.prog 3 (plainElem Try.prog 3)
  have HM : Hid (Mp _ w2.heap.size (DataW.map (H := Unit) [])) := cel.tight hown
  clear hown
  go_wp2_with fail
  go_name_world W hW
  have S0 : Hid (St w d c m w2.heap.size q 0 noT noN (.map []) 0 W) := by
    rw [← hW]
    have hm := HO.out.mem
    have := hm.box.lt
    have := hm.row.lt
    have := hm.map.lt
    have := HO.out.turn.size
    exact Lib.hid ⟨HO.out.below (by first | exact new_box _ _ | exact (new_box _ _)), by decide, HM.out, by omega, by omega, by omega, by omega⟩
  clear hW HO HM hrun0
  generalize w2.heap.size = y at *
  go_loopw [7, 8] (fun v7 i wr => ∃ (k : Nat) (T : Nat → ByteArray) (N : Nat → Int) (D : DataW Unit) (a : Int), v7 = .int .i64 a ∧ i = .int .i64 k ∧ k ≤ 50 ∧ k ≤ len1 ∧ Hid (St w d c m y q k T N D a wr)) (fun _ i _ => 50 - (intOf i).toNat)
  case atStart => exact ⟨0, _, _, _, _, rfl, rfl, by omega, Nat.zero_le _, S0⟩
  case round =>
    obtain ⟨k, T, N, D, a, rfl, rfl, hk50, hkl, HS⟩ := hrel
    clear S0
    by_cases hk : k < len1 ∧ k < 50
    · obtain ⟨hk1, hk2⟩ := hk
      have hk1' : (k : Int) < (len1 : Int) := by omega
      have hk2' : (k : Int) < 50 := by omega
      have hk0' : (0 : Int) ≤ (k : Int) := by omega
      obtain ⟨b, o, rfl, c0, hf⟩ := int_at A1.out HS.out.own.turn hk1
      have HF := Lib.hid hf
      clear hf
      obtain ⟨p, hp⟩ : ∃ p, p = T1 k := ⟨_, rfl⟩
      rw [← hp] at c0 HF
      have HP := Lib.hid hp
      clear hp
      obtain ⟨K, e3, hK1, hK3⟩ : ∃ K : Int, IntKind.i64.wrap (1 + (k : Int).tmod 3) = K ∧ 1 ≤ K ∧ K ≤ 3 := by
        refine ⟨_, rfl, ?_, ?_⟩ <;> (rw [Int.tmod_eq_emod_of_nonneg hk0', IntKind.wrap_i64]; omega)
      obtain ⟨Q, eQ, hQ⟩ : ∃ Q : Int, IntKind.i64.wrap ((q : Int) + 1) = Q ∧ Q = (q : Int) + 1 := ⟨_, rfl, by rw [IntKind.wrap_i64]; omega⟩
      have hQ0 : 0 < Q := by omega
      have hQne : ¬ Q = 0 := by omega
      obtain ⟨j, ej, hjq, hjd⟩ : ∃ j : Nat, (k : Int).tmod Q = (j : Int) ∧ j ≤ q ∧ j = k % (q + 1) := by
        refine ⟨k % (q + 1), ?_, Nat.le_of_lt_succ (Nat.mod_lt k (Nat.succ_pos q)), rfl⟩
        rw [Int.tmod_eq_emod_of_nonneg hk0', hQ]
        rfl
      have hz : ¬ ((q : Int) + 1 = 0) := by omega
      have hr1 : (k : Int).tmod ((q : Int) + 1) = (j : Int) := by rw [← hQ]; exact ej
      have hr2 : (k : Int) % ((q : Int) + 1) = (j : Int) := by rw [← hr1, Int.tmod_eq_emod_of_nonneg hk0']
      have HR := Lib.hid (And.intro hr1 hr2)
      clear hr1 hr2
      have HQ := Lib.hid hQ
      have HJ := Lib.hid hjd
      clear hQ hjd
      go_wp2_with fail
      by_cases hc : j < q
      · have hh := Lib.hid (HS.out.own.drew.do_turn p K j ⟨#[]⟩ ⟨#[]⟩ hc hK1 hK3 HF.out (by have := HS.out.few; omega) _ rfl _ rfl _ rfl _ rfl)
        go_region_law (refine step_call rfl 17 Try.f17 Try.func17 (by kernel_rfl) (by kernel_rfl) _ _ rfl #[.pointer (some ⟨d, 0, none⟩), .int .i64 p, .agg #[.int .i64 K, .int .i64 (j : Int), .string ⟨#[]⟩, .string ⟨#[]⟩]] (by first | (simp [Act.eval]; done) | (simp [Act.eval, Act.put]; done)) (by exact hh.out) ?_
                       rintro en w4 ⟨rfl, h4, t4⟩
                       have H4 := Lib.hid h4
                       have T4 := Lib.hid t4
                       clear h4 t4 hh
                       refine ⟨_, rfl, ?_⟩)
        all_goals
          clear c0 e3 eQ ej
          have hr1 := HR.out.1
          have hr2 := HR.out.2
          have hlt : (j : Int) < (q : Int) := by omega
          have hj0 : (0 : Int) ≤ (j : Int) := by omega
          obtain ⟨b2, o2, e2, c0, _⟩ := int_at A1.out H4.out.turn hk1
          rw [← show p = T1 k from HP.out] at c0
          simp only [Option.some.injEq, Addr.mk.injEq, and_true] at e2
          obtain ⟨rfl, rfl⟩ := e2
          have M4 : Hid (Mp w4 y D) := Lib.hid (mp_turn (w := wr.drew) (by exact HS.out.map) T4.out (fun e => by have := HS.out.yd; omega))
          have Y4 := Lib.hid (And.intro HS.out.ny HS.out.yd)
          have FW := Lib.hid HS.out.few
          have hcn := HS.out.own.cn p
          have hown : w4.ownsMap Try.prog 3 (plainElem Try.prog 3) y (Maps.size D) D := M4.out
          have hkey := kI_of HF.out
          have hD : Maps.size D < maxLen := by have := HS.out.own.size; have := HS.out.few; unfold maxLen; omega
          obtain ⟨x, hlook, hat, _⟩ := World.ownsMap.lookup_int hown intKeyed Try.underlying49 Try.underlying3 (zeroInt w4) hkey
          obtain rfl : x = cnt D p := (cnt_of hat).symm
          have hcn1 : 0 ≤ cnt D p := hcn.1
          have hcn2 : cnt D p ≤ 50 := by have := HS.out.few; omega
          have ha2 : a ≤ 50 := by have := HS.out.few; omega
          have ha0 : 0 ≤ a := HS.out.own.a0
          have hw1 : (Lit.int .i64 (cnt D p + 1)).wf = true := wf64 ⟨by omega, by omega⟩
          obtain ⟨w5, hrun5, hown5, hturn5⟩ := hown.store intKeyed Try.underlying49 hD hkey (plainElem_int Try.underlying3 hw1)
          have S5 : Hid (St w d c m y q (k + 1) _ _ (more1 D p) (a + 1) w5) := Lib.hid ⟨H4.out.other (F := fun i => i = y) ((Turn.refl (fun i => i = y) w4).grown hturn5.grown (fun i e _ => by injection e with e; exact e.symm)) (fun i e => by rw [e]; exact Y4.out.1) (fun e => Y4.out.2.1 e.symm) (fun e => Y4.out.2.2.1 e.symm) (fun e => Y4.out.2.2.2 e.symm), by have := FW.out; omega, cel.tight hown5, Y4.out.1, Y4.out.2⟩
          clear hat hown hown5 hturn5 hw1 hkey hD HS H4 T4 M4 Y4 FW hcn
          go_wp2_with fail
          refine ⟨⟨k + 1, _, _, _, _, rfl, by rw [Int.natCast_add]; rfl, by omega, by omega, S5⟩, ?_⟩
          show 50 - ((k : Int) + 1).toNat < 50 - ((k : Int)).toNat
          omega
      · obtain rfl : j = q := by omega
        have hh := Lib.hid (HS.out.own.mem.drew.do_range p K (j : Int) ⟨#[]⟩ ⟨#[]⟩ (by omega))
        go_region_law (refine step_call rfl 17 Try.f17 Try.func17 (by kernel_rfl) (by kernel_rfl) _ _ rfl #[.pointer (some ⟨d, 0, none⟩), .int .i64 p, .agg #[.int .i64 K, .int .i64 (j : Int), .string ⟨#[]⟩, .string ⟨#[]⟩]] (by first | (simp [Act.eval]; done) | (simp [Act.eval, Act.put]; done)) (by exact hh.out) ?_
                       rintro en w4 ⟨rfl, b4⟩
                       have B4 := Lib.hid b4
                       clear b4 hh
                       refine ⟨_, rfl, ?_⟩)
        all_goals
          clear c0 e3 eQ ej
          have hr1 := HR.out.1
          have hr2 := HR.out.2
          have hlt : ¬ (j : Int) < (j : Int) := by omega
          have hj0 : (0 : Int) ≤ (j : Int) := by omega
          have S5 : Hid (St w d c m y j (k + 1) T N D a w4) := Lib.hid ⟨HS.out.own.drew.below B4.out, by have := HS.out.few; omega, mp_turn HS.out.map (F := fun i => wr.heap.size ≤ i) (Turn.of_below (w := wr) (w' := w4) (B := wr.heap.size) ⟨B4.out.os, B4.out.tape, B4.out.output, B4.out.size, B4.out.block⟩ (fun _ _ e => e)) (by have := HS.out.map.lt; omega), HS.out.ny, HS.out.yd⟩
          clear HS B4
          go_wp2_with fail
          refine ⟨⟨k + 1, _, _, _, _, rfl, by rw [Int.natCast_add]; rfl, by omega, by omega, S5⟩, ?_⟩
          show 50 - ((k : Int) + 1).toNat < 50 - ((k : Int)).toNat
          omega
    · have hx : ((k : Int) < (len1 : Int) ∧ ¬ (k : Int) < 50) ∨ ¬ (k : Int) < (len1 : Int) := by omega
      clear hk
      have hown : wr.ownsMap Try.prog 3 (plainElem Try.prog 3) y (Maps.size D) D := HS.out.map
      have hr : Hid (w.heap.size ≤ wr.heap.size ∧ wr.heap.size ≠ d ∧ wr.heap.size ≠ c ∧ wr.heap.size ≠ m) := by
        have hm := HS.out.own.mem
        have := hm.box.lt
        have := hm.row.lt
        have := hm.map.lt
        have := HS.out.own.turn.size
        exact Lib.hid ⟨by omega, by omega, by omega, by omega⟩
      have HO := Lib.hid HS.out.own
      clear HS
      rcases hx with ⟨hc1, hc2⟩ | hc1
      all_goals
        go_wp2_with (first
          | (at_range; refine wpList_range_own _ rfl _ 49 rfl 3 3 intKeyed Try.underlying49 _ y (Maps.size D) D rfl hown ?_; intro w0 hrg0 hg0 hs0)
          | fail)
        have HO0 : Hid (Own w d c m q T N D a w0) := Lib.hid (HO.out.below (below_none hg0 (Nat.le_refl _)))
        clear HO hown hg0 hs0
        try go_frame
        generalize wr.heap.size = r at *
        go_loopw [12] (fun _ wr2 => ∃ (left : Lit → Bool) (cn : Nat), wr2.ranges Try.prog 3 (plainElem Try.prog 3) y r (Maps.size D) D left cn ∧ Hid (Own w d c m q T N D a wr2)) (fun _ wr2 => wr2.rangeLeft y r)
        case atStart => exact ⟨_, _, hrg0, HO0⟩
        case round =>
          clear hrg0 HO0
          obtain ⟨left, cn, hrg, HO⟩ := hrel
          go_wp2_with (first
            | (at_next; refine wpList_next_ranges_ii _ rfl _ rfl 3 3 .i64 .i64 intKeyed Try.underlying3 Try.underlying3 y r (Maps.size D) _ _ _ rfl hrg ?_ ?_)
            | fail)
          · intro _ hl0
            clear hrg hl0
            go_wp2_with fail
            refine HO.out.mem.all_calls.mono ?_
            rintro en w4 ⟨rfl, rfl⟩
            go_wp2_with fail
            refine HO.out.mem.len_calls.mono ?_
            rintro en w4 ⟨rfl, rfl⟩
            go_wp2_with fail
            go_ret
            exact ⟨rfl, HO.out.ends⟩
          · intro x e w4 cn1 hwx hwc hlx hat hrg1 hlt hg1 hs1 hen
            have HX : Hid (cnt D x = e) := Lib.hid (cnt_of (hat _))
            have HFX : Hid (Fits x) := by
              have m0 : IntKind.i64.min = -9223372036854775808 := by decide
              have m1 : IntKind.i64.max = 9223372036854775807 := by decide
              have h' : (decide (IntKind.i64.min ≤ x) && decide (x ≤ IntKind.i64.max)) = true := hwx
              rw [m0, m1] at h'
              exact Lib.hid (by simpa [Fits] using h')
            have HO1 : Hid (Own w d c m q T N D a w4) := Lib.hid (HO.out.other (F := fun i => i = r) ((Turn.refl (fun i => i = r) _).grown hg1 (fun i e _ => by injection e with e; exact e.symm)) (fun i e => by rw [e]; exact hr.out.1) (fun e => hr.out.2.1 e.symm) (fun e => hr.out.2.2.1 e.symm) (fun e => hr.out.2.2.2 e.symm))
            have HLT : Hid (w4.rangeLeft y r < wr.rangeLeft y r) := Lib.hid (by rw [hrg1.left_eq, hrg.left_eq]; exact hlt)
            have HRG := Lib.hid hrg1
            clear hwx hwc hlx hat hrg hrg1 hlt hg1 hs1 HO
            go_wp2_with fail
            refine (HO1.out.count x e HFX.out HX.out).mono ?_
            rintro en w5 ⟨rfl, rfl⟩
            go_wp2_with fail
            exact ⟨⟨_, _, HRG.out, HO1⟩, HLT.out⟩

def Arg0 (w : World) (a : Option Addr) (len cap : Nat) : Prop := ∃ T, ArgI w a len cap T

theorem walk (a0 : Option Addr) (len0 cap0 : Nat) (a1 : Int) (w : World) (w0 : Arg0 w a0 len0 cap0) (_w1 : (Lit.int .i64 a1).wf = true) :
    Calls Try.prog 6 #[.slice a0 len0 cap0, .int .i64 a1] w fun en w' => en = .returned (.bool true) ∧ Below w.heap.size w w' := by
  obtain ⟨T1, h1⟩ := w0
  exact count_any a0 len0 cap0 T1 a1 w h1

theorem opened0 {H : Type} {enc : TypeId × Value → H} {w : World} {spare : Nat → Bool} {held : Bool} {a : Option Addr} {len cap : Nat} {d : DataW H} {p : List MemPlace} (h : DataW.Trod enc Try.prog w 0 spare held 45 (.slice a len cap) d p) : Arg0 w a len cap := openedI h

theorem own : ownKnob Try.prog.godebug = none := by kernel_rfl
theorem laidOut : laidOutB Try.prog = true := by kernel_rfl

set_option maxRecDepth 100000 in
theorem lifted (os : Os) (started : os.Started) (H : Type) (enc : TypeId × Value → H) :
    ReturnsInHanded {} Try.checked os 6 .any (Rows.cellsCountSpec.pre6 enc Try.prog Try.f6 Rows.cellsCountRow.domain false) (Rows.cellsCountSpec.post enc Try.prog Try.f6 false true false false) := by
  refine returnsInHanded_of_change (C := Try.checked) own started (by kernel_rfl) Try.func6
    (ChangeSpec.witness6 (enc := enc) (C := Try.checked) false ⟨#[], #[.slice none 0 0, .int .i64 0], []⟩ 8 (by kernel_rfl) (by kernel_rfl) (by kernel_rfl) (by kernel_rfl)) ?_
  intro W base args ds gs before hval0 hW _ _
  have hval : ∀ (j : Nat) t v, Try.f6.params[j]? = some t → args[j]? = some v → Value.okWide Try.prog W .any base t v := hval0
  have hW' := hW
  obtain ⟨p, q, hA0, hV, rfl, _, _⟩ := hW
  have hA : DataW.TrodAll enc Try.prog W 0 (fun _ => true) true Try.f6.params.toList args.toList ds p := hA0
  rw [Try.params6] at hA hval
  obtain ⟨v0, vs0, d0, ds0, p0, q0, hargs, rfl, rfl, h0, r0⟩ := trodAll_cons hA
  obtain ⟨v1, vs1, d1, ds1, p1, q1, rfl, rfl, rfl, h1, r1⟩ := trodAll_cons r0
  obtain ⟨rfl, rfl, rfl⟩ := trodAll_nil r1
  obtain rfl : args = #[v0, v1] := by cases args; simp_all
  obtain ⟨rfl, rfl⟩ := trodVars_none hV
  obtain ⟨a0, len0, cap0, rfl⟩ := okWide_slice Try.underlying45 (hval 0 45 v0 rfl rfl)
  have k0 := h0
  have lt0 : ∀ x ∈ p0, x.block < W.heap.size := by obtain ⟨m, hm⟩ := k0; exact DataW.trod_lt m _ _ _ hm
  have w0 : Arg0 W a0 len0 cap0 := opened0 h0
  obtain ⟨a1, rfl, rfl, rfl, w1⟩ := open_int Try.underlying3 (hval 1 3 v1 rfl rfl) h1
  clear hA0 hval0
  refine (walk a0 len0 cap0 a1 W w0 w1).mono fun e W' ⟨he, bel⟩ => ?_
  subst he
  exact ⟨_, rfl, _, _, _, [], _, [], hW', trodAll_mk1 (shut_bool Try.underlying4 _), (trodAll_cons_mk (Below.trod laidOut (by kernel_rfl) (of_decide_eq_true (by kernel_rfl)) k0 bel lt0) (trodAll_cons_mk (shut_int Try.underlying3 w1) trodAll_mk0)), rfl, bel.frame _, fun h => by cases h⟩

theorem over : Rows.cellsCountRow.holds Try.pinned (OpenSpec.ofChange Rows.cellsCountSpec) :=
  OpenClaim.holds_of_wide 6 Try.f6 rfl rfl rfl rfl rfl rfl rfl ⟨rfl, rfl, rfl, rfl, rfl⟩ rfl rfl rfl rfl rfl (by kernel_rfl) Try.func6 (by kernel_rfl)
    (of_decide_eq_true (by kernel_rfl)) (by unfold Func.isWrapper; first | (rw [if_pos (by decide +kernel)]; kernel_rfl) | (rw [if_neg (by decide +kernel)]; exact ⟨rfl, rfl⟩))
    (fun os started H enc _ => lifted os started H enc)

theorem proved : Rows.CellsCountSaid := over

end Go.Proofs.Ytdofnmllhgabdaa.cellsCount
