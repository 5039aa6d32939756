/- ReplayMarks: which versions are kept whole. -/
import Derived.Test.YtcdedkgkingbdaaGreatDoorQ016
import Derived.Test.YtcdedkgkingbdaaGreatDoorQReplayMarks00
import Derived.Test.YtcdedkgkingbdaaGreatDoorCards
import Derived.Test.YtcdedkgkingbdaaGreatDoorTie
import Derived.ProofKit
import Derived.OpenShut
import Derived.SevenTiedAt
namespace Go.Proofs.YtcdedkgkingbdaaGreatDoor.replayMarks
open Go Go.ChangeShapes Go.WideShapes Go.ChangeAt Go.RowKit Go.Proofs.YtcdedkgkingbdaaGreatDoor.object Go.Proofs.YtcdedkgkingbdaaGreatDoor.prn Go.Proofs.YtcdedkgkingbdaaGreatDoor.rep Go.Proofs.YtcdedkgkingbdaaGreatDoor.tws Go.Proofs.YtcdedkgkingbdaaGreatDoor.tow

def Arg1 (w : World) (a : Option Addr) (len cap : Nat) : Prop := ∃ T, ArgI w a len cap T
theorem opened1 {H : Type} {enc : TypeId × Value → H} {w : World} {spare : Nat → Bool} {held : Bool} {a : Option Addr} {len cap : Nat} {d : DataW H} {p : List MemPlace} (h : DataW.Trod enc Tryz.prog w 0 spare held 44 (.slice a len cap) d p) : Arg1 w a len cap := openedI h

theorem make_cmds (n : Nat) (hn : n ≤ 30) (V : World) : ∃ O, (Instr.makeSlice 27 (.int .i64 (n : Int)) (.int .i64 (n : Int))).run Tryz.prog V = .ok (.slice (some ⟨V.heap.size, 0, none⟩) n n) (V.alloc O) := by
  obtain ⟨i0, z0, hi0, hz0, hz3⟩ : ∃ i z, Tryz.prog.info? 110 = some i ∧ i.zero = some z ∧ i.bytes ≤ 1000 := by
    have h2 : (Tryz.prog.info? 110).map (fun i => (i.zero.isSome, decide (i.bytes ≤ 1000))) = some (true, true) := by kernel_rfl
    obtain ⟨i, hi, e⟩ := Option.map_eq_some_iff.1 h2
    simp only [Prod.mk.injEq] at e
    obtain ⟨e1, e2⟩ := e
    obtain ⟨z, hz⟩ := Option.isSome_iff_exists.1 e1
    exact ⟨i, z, hi, hz, of_decide_eq_true e2⟩
  have hb : i0.bytes * n ≤ 1000 * 30 := Nat.mul_le_mul hz3 hn
  have h := run_make (P := Tryz.prog) V 27 110 i0 z0 Tryz.underlying27 hi0 hz0 .i64 .i64 (n : Int) (n : Int) (by omega) (by omega) (by rw [← Int.natCast_mul]; omega) (by omega)
  rw [Int.toNat_natCast] at h
  exact ⟨_, h⟩

set_option maxRecDepth 100000 in
set_option maxHeartbeats 8000000 in
theorem walk (n : Int) (a1 : Option Addr) (len1 cap1 : Nat) (w : World) (_hn : (Lit.int .i64 n).wf = true) (hA1 : Arg1 w a1 len1 cap1) (hP : Pw w) :
    Calls Tryz.prog 4 #[.int .i64 n, .slice a1 len1 cap1] w fun en w' => en = .returned (.bool true) ∧ Below w.heap.size w w' := by
  obtain ⟨T1, hT1⟩ := hA1
  have HT1 := Lib.hid hT1
  have hlb1 : (len1 : Int) ≤ 9223372036854775807 := by have := hT1.1; have := hT1.2.1; unfold maxLen at this; omega
  have hfd : ∀ (e : Int) (g : ByteArray) (w' : World), (Instr.field 57 (.agg #[.int .i64 e, .string g]) 0).run Tryz.prog w' = .ok (.int .i64 e) w' := fun _ _ _ => rfl
  have HP := Lib.hid hP
  obtain ⟨N, hN⟩ : ∃ N : Nat, (N : Int) = min (max n 0) 30 := ⟨(min (max n 0) 30).toNat, by omega⟩
  have hmin : min (max n 0) 30 = (N : Int) := hN.symm
  have HN : Hid (N ≤ 30) := Lib.hid (by omega)
  clear hT1 hP hN
  go_enter Tryz.func4, Tryz.ntmps4
  go_wp2_with fail
  refine (awake_calls w HP.out).mono ?_
  rintro en w1 ⟨rfl, b1⟩
  have R1 := Lib.hid b1
  clear b1
  go_wp2_with fail
  refine (lw_new w w1 R1.out (HP.out.rt.below R1.out (Nat.le_refl _)) 1 (.inl rfl)).mono ?_
  rintro en w3 ⟨b, rfl, _, l3⟩
  have L3 := Lib.hid l3
  clear l3 R1 hmin
  go_wp2_with fail
  go_loopw [6, 21] (fun f i wr => ∃ (i' fl : Nat), i = .int .i64 i' ∧ f = .int .i64 fl ∧ i' ≤ N ∧ fl ≤ i' ∧ Hid (Lw w wr b 1 (List.replicate i' cx) fl)) (fun _ i _ => N - (intOf i).toNat)
  case atStart => exact ⟨0, 0, rfl, rfl, Nat.zero_le _, Nat.le_refl _, L3⟩
  case round =>
    clear L3
    obtain ⟨i, fl, rfl, rfl, hi, hfl, HS⟩ := hrel
    by_cases hiN : i < N
    · have hi2 : (i : Int) < (N : Int) := by omega
      have hi3 : (i : Int) + 1 ≤ 31 := by have := HN.out; omega
      have hi30 : i ≤ 30 := by have := HN.out; omega
      go_wp2_with fail
      refine (insert_calls xS wr).mono ?_
      rintro en w4 ⟨rfl, b4⟩
      have L4 := Lib.hid (HS.out.below b4)
      clear HS b4
      go_wp2_with fail
      refine (L4.out.did (o := insO xS) (ins_short (by decide)) (by rw [List.length_replicate]; omega) good_x (act_ok_x (by omega))).mono ?_
      rintro en w5 ⟨⟨g5, rfl⟩, l5⟩
      have L5 : Hid (Lw w w5 b 1 (List.replicate (i + 1) cx) fl) := Lib.hid (by rw [← snoc_x]; exact l5)
      clear L4 l5
      by_cases hlen : (i : Int) < (len1 : Int)
      · obtain ⟨g, o, ha, hb, hc, hT⟩ := HT1.out.2.2 i (by omega)
        subst ha
        have hc5 : w5.cell? ⟨g, o + i, none⟩ = some (.int .i64 (T1 i)) := by
          rw [← hc]; unfold World.cell?; rw [L5.out.2.block g hb]
        obtain ⟨v, hv⟩ : ∃ v : Nat, (v : Int) = min (max (T1 i) (fl : Int)) ((i : Int) + 1) := ⟨(min (max (T1 i) (fl : Int)) ((i : Int) + 1)).toNat, by omega⟩
        have hmin : min (max (T1 i) (fl : Int)) ((i : Int) + 1) = (v : Int) := hv.symm
        have HV : Hid (fl ≤ v ∧ v ≤ i + 1) := Lib.hid ⟨by omega, by omega⟩
        have i1 : IntKind.i64.wrap ((i : Int) + 1) = (i : Int) + 1 := IntWalk.i64_in _ ⟨by omega, by omega⟩
        clear hc hb hv
        go_wp2_with fail
        refine (L5.out.retain v HV.out.1 (by rw [List.length_replicate]; exact HV.out.2) (by rw [List.length_replicate]; omega)).mono ?_
        rintro en w6 ⟨rfl, l6⟩
        have L6 := Lib.hid l6
        clear L5 l6 hc5 hmin
        go_wp2_with fail
        refine ⟨⟨i + 1, v, by rw [Int.natCast_add]; rfl, rfl, by omega, HV.out.2, L6⟩, ?_⟩
        show N - ((i : Int) + 1).toNat < N - ((i : Int)).toNat
        omega
      · have i1 : IntKind.i64.wrap ((i : Int) + 1) = (i : Int) + 1 := IntWalk.i64_in _ ⟨by omega, by omega⟩
        go_wp2_with fail
        refine ⟨⟨i + 1, fl, by rw [Int.natCast_add]; rfl, rfl, by omega, by omega, L5⟩, ?_⟩
        show N - ((i : Int) + 1).toNat < N - ((i : Int)).toNat
        omega
    · obtain rfl : i = N := by omega
      have hi2 : ¬ (i : Int) < (i : Int) := by omega
      obtain ⟨⟨vb, tb, m, va, lo, hi', y, l, F1, F2, p1, p2, p3⟩, bel⟩ := HS.out
      have HM := Lib.hid (lmarks_calls p1.own p1.tw (by have := p1.marks.len p1.tw.sorted; rw [List.length_replicate] at this; have := HN.out; omega))
      rw [marks_mk4 p1.marks p1.tw.sorted p1.fln, List.length_replicate] at HM
      have HL := Lib.hid (show (mk4 fl (i / 4)).length ≤ 20 from by have := mk4_len fl (i / 4); have := HN.out; omega)
      obtain ⟨O, hO⟩ : ∃ O, O = mk4 fl (i / 4) := ⟨_, rfl⟩
      have HO := Lib.hid hO
      rw [← hO] at HM HL
      clear p1 p2 p3 bel hO
      go_wp2_with fail
      refine HM.out.mono ?_
      rintro en w7 ⟨v7, rfl, i7, n7, b7⟩
      have L7 := Lib.hid (HS.out.below b7)
      have I7 := Lib.hid i7
      obtain ⟨O8, hmk⟩ := make_cmds i HN.out w7
      clear HS HM n7 i7 b7
      go_wp2_with fail
      refine (rmarks_calls 1 (some ⟨w7.heap.size, 0, none⟩) i i fl (w7.alloc O8) (by have := HN.out; omega) (by have := HN.out; omega)).mono ?_
      rintro en w8 ⟨v8, rfl, i8, n8, b8⟩
      have b78 : Below w7.heap.size w7 w8 := ((Below.refl _ _).alloc (Nat.le_refl _) _).trans (b8.mono (by simp))
      have L8 : Hid (Lw w w8 b 1 (List.replicate i cx) fl ∧ Ints w8 v7 O ∧ Ints w8 v8 O) := Lib.hid ⟨L7.out.below b78, I7.out.below b78, by rw [HO.out]; exact i8⟩
      clear L7 I7 hmk i8 n8 b8 b78
      obtain ⟨a7, c7, rfl⟩ := L8.out.2.1.slice
      obtain ⟨a8, c8, rfl⟩ := L8.out.2.2.slice
      obtain ⟨NO, hNO⟩ : ∃ NO, NO = O.length := ⟨_, rfl⟩
      rw [← hNO] at L8 HL ⊢
      have HNO := Lib.hid hNO
      clear hNO
      go_wp2_with fail
      go_loopw [62] (fun j wr2 => ∃ j' : Nat, j = .int .i64 j' ∧ j' ≤ NO ∧ Hid (Lw w wr2 b 1 (List.replicate i cx) fl ∧ Ints wr2 (.slice a7 NO c7) O ∧ Ints wr2 (.slice a8 NO c8) O)) (fun j _ => NO - (intOf j).toNat)
      case atStart => exact ⟨0, rfl, Nat.zero_le _, L8⟩
      case round =>
        clear L8
        obtain ⟨j, rfl, hj, HD⟩ := hrel
        have hjb : (NO : Int) ≤ 20 := by have := HL.out; omega
        by_cases hjn : j < NO
        · have hj2 : (j : Int) < (NO : Int) := by omega
          obtain ⟨x, hx⟩ : ∃ x, O[j]? = some x := ⟨_, List.getElem?_eq_getElem (by rw [← HNO.out]; exact hjn)⟩
          obtain ⟨g7, k7, e7, _, _, q7⟩ := HD.out.2.1.cell j (by rw [← HNO.out]; exact hjn)
          obtain ⟨g8, k8, e8, _, _, q8⟩ := HD.out.2.2.cell j (by rw [← HNO.out]; exact hjn)
          simp only [Value.slice.injEq] at e7 e8
          obtain ⟨rfl, x1, rfl⟩ := e7
          obtain ⟨rfl, x2, rfl⟩ := e8
          have d7 : ∀ V : World, V = V := fun _ => rfl
          have c7 := q7 j x hx
          have c8 := q8 j x hx
          clear x1 x2 q7 q8 hx d7
          go_wp2_with fail
          go_quiet (fail)
          go_wp2_with fail
          have bd : Below wr.heap.size wr (wr.drewN nq) := ⟨rfl, rfl, rfl, Nat.le_refl _, fun _ _ => rfl⟩
          refine ⟨⟨j + 1, by rw [Int.natCast_add]; rfl, by omega, Lib.hid ⟨HD.out.1.below bd, HD.out.2.1.below bd, HD.out.2.2.below bd⟩⟩, ?_⟩
          show NO - ((j : Int) + 1).toNat < NO - ((j : Int)).toNat
          omega
        · obtain rfl : j = NO := by omega
          have hj2 : ¬ (j : Int) < (j : Int) := by omega
          have hfi : fl ≤ i := hfl
          have HSV := Lib.hid (save_x (n := i) (v := fl) (by have := HN.out; omega) hfl)
          have HAS := Lib.hid (HD.out.1.1.asof_ok fl (Nat.le_refl _) (by rw [List.length_replicate]; exact hfl) (by rw [List.length_replicate]; have := HN.out; omega))
          obtain ⟨sv, hsv⟩ : ∃ sv, sv = (fold 1 (List.replicate i cx) fl).save := ⟨_, rfl⟩
          rw [← hsv] at HSV HAS
          clear hsv
          go_wp2_with fail
          refine HAS.out.mono ?_
          rintro en w9 ⟨rfl, b9⟩
          have L9 := Lib.hid (HD.out.1.below b9)
          obtain ⟨vb9, F9, c9, va9, _⟩ := L9.out.1.vault
          have HF := Lib.hid va9.floor_calls
          have hss : (sv.size : Int) = 1 + (fl : Int) := by have := HSV.out; omega
          have i2 : IntKind.i64.wrap (1 + (fl : Int)) = 1 + (fl : Int) := IntWalk.i64_in _ ⟨by omega, by have := HN.out; omega⟩
          clear HD HAS b9 va9
          go_wp2_with fail
          refine HF.out.mono ?_
          rintro en w10 ⟨rfl, rfl⟩
          go_wp2_with fail
          go_ret
          exact ⟨by simp, L9.out.2⟩
theorem own : ownKnob Tryz.prog.godebug = none := by kernel_rfl
theorem laidOut : laidOutB Tryz.prog = true := by kernel_rfl

set_option maxRecDepth 100000 in
theorem lifted (os : Os) (started : os.Started) (H : Type) (enc : TypeId × Value → H) :
    ReturnsInHanded {} Tryz.checked os 4 .any (fun w args => (Rows.replayMarksSpec.pre enc Tryz.prog Tryz.f4 [] false w args ∧ laidMetH Tryz.prog Rows.replayMarksRow.laid w) ∧ sizedMet enc Tryz.prog Tryz.f4 (OpenSpec.ofChange Rows.replayMarksSpec) false w args)
      (Rows.replayMarksSpec.post enc Tryz.prog Tryz.f4 false true false false) := by
  refine returnsInHanded_of_change_and (C := Tryz.checked) (X := fun w _ => laidMetH Tryz.prog Rows.replayMarksRow.laid w) (fun _ _ _ hh h => h.of_heap hh) own started (by kernel_rfl) Tryz.func4
    (ChangeSpec.witness_shaped (enc := enc) (C := Tryz.checked) (os := os) (X := fun w _ => laidMetH Tryz.prog Rows.replayMarksRow.laid w) false (World.doorLaid Tryz.prog 31 os) #[.int .i64 0, .slice none 0 0] 8 rfl (door_shaped os _) (by kernel_rfl) (by kernel_rfl) (by kernel_rfl) (door_met os _)) ?_
  intro W base args ds gs before hval0 hW _ _ hL _
  have hval : ∀ (j : Nat) t v, Tryz.f4.params[j]? = some t → args[j]? = some v → Value.okWide Tryz.prog W .any base t v := hval0
  have hW' := hW
  obtain ⟨p, q, hA0, hV, rfl, _, _⟩ := hW
  have hA : DataW.TrodAll enc Tryz.prog W 0 (fun _ => true) true Tryz.f4.params.toList args.toList ds p := hA0
  rw [Tryz.params4] at hA hval
  obtain ⟨v0, vs0, d0, ds0, p0, q0, hargs, rfl, rfl, h0, r0⟩ := trodAll_cons hA
  obtain ⟨v1, vs1, d1, ds1, p1, q1, rfl, rfl, rfl, h1, r1⟩ := trodAll_cons r0
  obtain ⟨rfl, rfl, rfl⟩ := trodAll_nil r1
  obtain rfl : args = #[v0, v1] := by cases args; simp_all
  obtain ⟨rfl, rfl⟩ := trodVars_none hV
  obtain ⟨a0, rfl, rfl, rfl, w0⟩ := open_int Tryz.underlying3 (hval 0 3 v0 rfl rfl) h0
  obtain ⟨a1, len1, cap1, rfl⟩ := okWide_slice Tryz.underlying44 (hval 1 44 v1 rfl rfl)
  have k1 := h1
  have lt1 : ∀ x ∈ p1, x.block < W.heap.size := by obtain ⟨m, hm⟩ := k1; exact DataW.trod_lt m _ _ _ hm
  have w1 : Arg1 W a1 len1 cap1 := opened1 h1
  clear hA0 hval0
  refine (walk a0 a1 len1 cap1 W w0 w1 (pw_of_laid hL)).mono fun e W' ⟨he, bel⟩ => ?_
  subst he
  exact ⟨_, rfl, _, _, _, [], _, [], hW', trodAll_mk1 (shut_bool Tryz.underlying4 _), (trodAll_cons_mk (shut_int Tryz.underlying3 w0) (trodAll_cons_mk (Below.trod laidOut (by kernel_rfl) (of_decide_eq_true (by kernel_rfl)) k1 bel lt1) trodAll_mk0)), rfl, bel.frame _, fun h => by cases h⟩

theorem over : Rows.replayMarksRow.holds Tryz.pinned (OpenSpec.ofChange Rows.replayMarksSpec) :=
  OpenClaim.holds_of_wide 4 Tryz.f4 rfl rfl rfl rfl rfl rfl rfl ⟨rfl, rfl, rfl, rfl, rfl⟩ rfl rfl rfl rfl rfl (by kernel_rfl) Tryz.func4 (by kernel_rfl)
    (of_decide_eq_true (by kernel_rfl)) (by unfold Func.isWrapper; first | (rw [if_pos (by decide +kernel)]; kernel_rfl) | (rw [if_neg (by decide +kernel)]; exact ⟨rfl, rfl⟩))
    (fun os started H enc _ => lifted os started H enc)

theorem plain (f : FuncId) (fn : Func) (hf : Tryz.pinned.checked.prog.funcNamed "hindsight/hindsightlaw14.ReplayMarks" = some f) (hfn : Tryz.pinned.checked.prog.funcs[f]? = some fn) :
    (true : Bool) = Tryz.pinned.checked.prog.looks [] ∧ ∀ (j : Nat) t, fn.params[j]? = some t → Tryz.pinned.checked.prog.wantsStandIn t = false := by
  obtain rfl : f = 4 := Option.some.inj ((show Tryz.prog.funcNamed "hindsight/hindsightlaw14.ReplayMarks" = some 4 by kernel_rfl).symm.trans hf) |>.symm
  obtain rfl : fn = Tryz.f4 := (Option.some.inj (Tryz.func4.symm.trans hfn)).symm
  refine ⟨by kernel_rfl, fun j t ht => ?_⟩
  rw [Tryz.params4] at ht
  have hm := Array.mem_of_getElem? ht
  simp only [List.mem_toArray, List.mem_cons, List.not_mem_nil, or_false] at hm
  rcases hm with rfl | rfl
  · exact (show Tryz.prog.wantsStandIn 3 = false by kernel_rfl)
  · exact (show Tryz.prog.wantsStandIn 44 = false by kernel_rfl)

theorem card : Rows.ReplayMarksCardSaid :=
  Claim7.holds_tied_plain_at .later [] _ _ _ _ over (fun _ h => by cases h) (by kernel_rfl) (fun _ h => by cases h) replayMarks_row_tie rfl ⟨rfl, rfl⟩ (by kernel_rfl) rfl plain (by kernel_rfl)

theorem proved : Rows.ReplayMarksCardSaid := card
end Go.Proofs.YtcdedkgkingbdaaGreatDoor.replayMarks
