/- TextFull: for every two numbers the law answers true. Conditions: none. -/
import Derived.Test.YtpdcbfhmlgmhpaaTextB
import Derived.ProofKit
import Derived.OpenShut
import Derived.ChangeOld
import Derived.Laws.BitsLemmas
namespace Go.Proofs.Ytpdcbfhmlgmhpaa.textFull
open Go.ChangeShapes Go.WideShapes Go.ChangeAt Go.RowKit

theorem and255 (n : Int) : bits .and .i64 n 255 = n % 256 := by
  have h255 : (BitVec.ofInt 64 255).toNat = 2 ^ 8 - 1 := by decide
  have key : (BitVec.ofInt 64 n &&& BitVec.ofInt 64 255).toNat = (n % ((2 ^ 64 : Nat) : Int)).toNat % 2 ^ 8 := by
    rw [BitVec.toNat_and, BitVec.toNat_ofInt, h255, Nat.and_two_pow_sub_one_eq_mod]
  show IntKind.i64.wrap ((BitVec.ofInt 64 n &&& BitVec.ofInt 64 255).toNat : Nat) = n % 256
  rw [key, IntKind.wrap_i64]
  omega

/-- How long the document at d is. -/
def szAt (w : World) (d : Nat) : Nat := match w.cell? ⟨d, 0, none⟩ with | some (.string s) => s.size | _ => 0
theorem szAt_eq {w : World} {d : Nat} {s : ByteArray} (h : Dc w d s) : szAt w d = s.size := by
  have : w.cell? ⟨d, 0, none⟩ = some (.string s) := h.cell 0
  unfold szAt
  rw [this]

theorem do_zeros (s : ByteArray) (n k : Nat) (hn : n ≤ s.size) (hk0 : 1 ≤ k) (hk : k ≤ 40) (h200 : s.size + k ≤ 200) :
    ∃ t : ByteArray, t.size = s.size + k ∧ doT s 1 n (zerosB k) 0 = (t, ⟨#[]⟩, 0) := by
  refine ⟨s.extract 0 n ++ zerosB k ++ s.extract n s.size, ?_, ?_⟩
  · simp only [ByteArray.size_append, ByteArray.size_extract, zerosB_size]
    omega
  · have hc : chk 1 (n : Int) (zerosB k).size 0 = 0 := by
      unfold chk
      rw [if_pos rfl, zerosB_size, if_pos (by omega)]
    have hi : insT s n (zerosB k) = (s.extract 0 n ++ zerosB k ++ s.extract n s.size, 0) := by
      unfold insT
      rw [zerosB_size, if_neg (by omega), if_neg (by omega)]
    unfold doT
    rw [if_pos hc, if_pos rfl, Int.toNat_natCast, hi]

theorem do_full (s : ByteArray) (k : Nat) (hs : s.size ≤ 200) (hk0 : 1 ≤ k) (hk : k ≤ 40) (h200 : 200 < s.size + k) : doT s 1 s.size (zerosB k) 0 = (s, ⟨#[]⟩, 7) := by
  have hc : chk 1 (s.size : Int) (zerosB k).size 0 = 0 := by
    unfold chk
    rw [if_pos rfl, zerosB_size, if_pos (by omega)]
  have hi : insT s s.size (zerosB k) = (s, 7) := by
    unfold insT
    rw [zerosB_size, if_neg (by omega), if_pos (by omega)]
  unfold doT
  rw [if_pos hc, if_pos rfl, Int.toNat_natCast, hi]

/-- The document grows. -/
structure Gr (w : World) (d N : Nat) (s : ByteArray) (wr : World) : Prop where
  doc : Dc wr d s
  few : s.size ≤ N
  turn : Turn (fun j => w.heap.size ≤ j) w wr

set_option maxRecDepth 100000 in
set_option maxHeartbeats 1000000 in
theorem full_any (n m : Int) (w : World) : Calls Try.prog 6 #[.int .i64 n, .int .i64 m] w fun en w' => en = .returned (.bool true) ∧ Below w.heap.size w w' := by
  obtain ⟨N, hN⟩ : ∃ N : Nat, (N : Int) = min (max n 0) 200 := ⟨(min (max n 0) 200).toNat, by omega⟩
  have hN200 : N ≤ 200 := by omega
  obtain ⟨n0, hn0⟩ : ∃ n0 : Int, n0 = max n 0 := ⟨_, rfl⟩
  have hmax : (if (0 : Int) > n then (0 : Int) else n) = n0 := by split <;> omega
  have hmin : (if (200 : Int) < n0 then (200 : Int) else n0) = (N : Int) := by split <;> omega
  obtain ⟨r, hr⟩ : ∃ r : Int, bits .and .i64 m 255 = r := ⟨_, rfl⟩
  have hr' := hr
  rw [and255] at hr'
  have r0 : 0 ≤ r := by omega
  have r1 : r ≤ 255 := by omega
  obtain ⟨q, hq⟩ : ∃ q : Int, r % 40 = q := ⟨_, rfl⟩
  have q0 : 0 ≤ q := by omega
  have q1 : q ≤ 39 := by omega
  obtain ⟨M, hM⟩ : ∃ M : Nat, (M : Int) = 1 + q := ⟨(1 + q).toNat, by omega⟩
  have hM1 : 1 ≤ M ∧ M ≤ 40 := by omega
  have hmk := make_zeros (1 + q) M hM.symm (by omega)
  have hkt := text_zeros M
  have HM := Lib.hid hM
  have HMK := Lib.hid hmk
  have HKT := Lib.hid hkt
  clear hN hn0 hr' hM hmk hkt
  go_enter Try.func6, Try.ntmps6
  go_wp2_with fail
  refine (tawake_any w).mono ?_
  rintro en w1 ⟨rfl, b1⟩
  have T1 : Hid (Turn (fun j => w.heap.size ≤ j) w w1) := Turn.of_below b1 (fun _ _ e => e)
  clear b1
  go_wp2_with fail
  refine (dnew_calls w1).mono ?_
  rintro en w2 ⟨rfl, h2, g2⟩
  obtain ⟨d, ed⟩ : ∃ d, d = w1.heap.size := ⟨_, rfl⟩
  rw [← ed] at h2 ⊢
  have hd : w.heap.size ≤ d := by rw [ed]; exact T1.out.size
  have HW : Hid (Gr w d N ⟨#[]⟩ w2) := ⟨h2, Nat.zero_le _, T1.out.grown g2 (fun j e _ => by cases e)⟩
  clear h2 g2 T1 ed hmax hmin hr hq
  go_wp2_with fail
  go_loopw [6] (fun _ wr => ∃ s : ByteArray, Hid (Gr w d N s wr)) (fun _ wr => N - szAt wr d)
  case atStart => exact ⟨_, HW⟩
  case round =>
    obtain ⟨s, HD⟩ := hrel
    clear HW
    have hf := HD.out.few
    by_cases hlt : s.size < N
    · have hlt' : (s.size : Int) < (N : Int) := by omega
      obtain ⟨K, hK⟩ : ∃ K : Nat, K = min 40 (N - s.size) := ⟨_, rfl⟩
      have hK1 : 1 ≤ K ∧ K ≤ 40 ∧ s.size + K ≤ N := by omega
      have hmin : (if (N : Int) - (s.size : Int) < 40 then (N : Int) - (s.size : Int) else 40) = (K : Int) := by split <;> omega
      have hmk := make_zeros (K : Int) K rfl (by omega)
      have hkt := text_zeros K
      clear hK HMK HKT
      have hs200 : s.size ≤ 200 := by omega
      have hz0 : (0 : Int) ≤ (N : Int) - (s.size : Int) := by omega
      obtain ⟨t, ht, et⟩ := do_zeros s 0 K (Nat.zero_le _) hK1.1 hK1.2.1 (by omega)
      have ET := Lib.hid et
      have HT := Lib.hid ht
      clear et ht
      go_wp2_with fail
      refine (dtext_calls d s _ HD.out.doc).mono ?_
      rintro en w3 ⟨rfl, rfl⟩
      go_wp2_with fail
      refine (dtext_calls d s _ HD.out.doc).mono ?_
      rintro en w3 ⟨rfl, rfl⟩
      go_wp2_with fail
      refine (do_calls d s 1 0 (zerosB K) 0 _ (by exact HD.out.doc.alloc _) hs200 (by rw [zerosB_size]; unfold maxLen; omega)).mono ?_
      have ET' : Hid (doT s 1 0 (zerosB K) 0 = (t, ⟨#[]⟩, 0)) := ET.out
      rw [ET'.out]
      rintro en w4 ⟨rfl, h4, g4⟩
      have hme := szAt_eq h4
      have HMO := Lib.hid (szAt_eq HD.out.doc)
      have HME : Hid (N - szAt w4 d < N - s.size) := by show _ < _; rw [hme, HT.out]; omega
      have H4 : Hid (Gr w d N t w4) := ⟨h4, by rw [HT.out]; omega, (HD.out.turn.alloc _).grown g4 (fun j e _ => by injection e with e; omega)⟩
      clear h4 g4 ET ET' hme hmk hkt hmin
      go_wp2_with fail
      exact ⟨⟨t, H4⟩, by rw [HMO.out]; exact HME.out⟩
    · have hsN : s.size = N := by omega
      have hlt' : ¬ (s.size : Int) < (N : Int) := by omega
      have hM2 : 0 ≤ (M : Int) := by omega
      by_cases hfull : 200 < N + M
      · have ef := do_full s M (by omega) hM1.1 hM1.2 (by omega)
        have hm' : (200 : Int) < (N : Int) + (1 + q) := by rw [← HM.out]; omega
        rw [hsN] at ef
        have EF := Lib.hid ef
        have hmk := HMK.out
        have hkt := HKT.out
        have HS := Lib.hid hsN
        clear ef hsN
        go_wp2_with fail
        refine (dtext_calls d s _ HD.out.doc).mono ?_
        rintro en w3 ⟨rfl, rfl⟩
        go_wp2_with fail
        refine (do_calls d s 1 N (zerosB M) 0 _ (by exact HD.out.doc.alloc _) (by rw [HS.out]; omega) (by rw [zerosB_size]; unfold maxLen; omega)).mono ?_
        rw [EF.out]
        rintro en w4 ⟨rfl, h4, g4⟩
        have H4 : Hid (Gr w d N s w4) := ⟨h4, by rw [HS.out]; exact Nat.le_refl _, (HD.out.turn.alloc _).grown g4 (fun j e _ => by injection e with e; omega)⟩
        clear h4 g4 hmk hkt
        go_wp2_with fail
        refine (dtext_calls d s _ H4.out.doc).mono ?_
        rintro en w5 ⟨rfl, rfl⟩
        have hsz := HS.out
        go_wp2_with fail
        go_ret
        exact ⟨rfl, H4.out.turn.below (Nat.le_refl _) (fun j hj e => by omega)⟩
      · obtain ⟨t, ht, et⟩ := do_zeros s N M (by omega) hM1.1 hM1.2 (by omega)
        have hm' : ¬ (200 : Int) < (N : Int) + (1 + q) := by rw [← HM.out]; omega
        have ET := Lib.hid et
        have ht2 : (t.size : Int) = (N : Int) + (1 + q) := by rw [ht, ← HM.out]; omega
        have HT := Lib.hid ht
        have HT2 := Lib.hid ht2
        have hmk := HMK.out
        have hkt := HKT.out
        have HS := Lib.hid hsN
        clear et ht hsN ht2
        go_wp2_with fail
        refine (dtext_calls d s _ HD.out.doc).mono ?_
        rintro en w3 ⟨rfl, rfl⟩
        go_wp2_with fail
        refine (do_calls d s 1 N (zerosB M) 0 _ (by exact HD.out.doc.alloc _) (by rw [HS.out]; omega) (by rw [zerosB_size]; unfold maxLen; omega)).mono ?_
        rw [ET.out]
        rintro en w4 ⟨rfl, h4, g4⟩
        have D4 : Hid (Dc w4 d t) := h4
        have T4 : Hid (Turn (fun j => w.heap.size ≤ j) w w4) := (HD.out.turn.alloc _).grown g4 (fun j e _ => by injection e with e; omega)
        clear h4 g4 hmk hkt
        go_wp2_with fail
        refine (dtext_calls d t _ D4.out).mono ?_
        rintro en w5 ⟨rfl, rfl⟩
        have hsz := HT2.out
        go_wp2_with fail
        go_ret
        exact ⟨rfl, T4.out.below (Nat.le_refl _) (fun j hj e => by omega)⟩

theorem walk (a0 a1 : Int) (w : World) (_w0 : (Lit.int .i64 a0).wf = true) (_w1 : (Lit.int .i64 a1).wf = true) :
    Calls Try.prog 6 #[.int .i64 a0, .int .i64 a1] w fun en w' => en = .returned (.bool true) ∧ Below w.heap.size w w' := full_any a0 a1 w

theorem own : ownKnob Try.prog.godebug = none := by kernel_rfl
theorem laidOut : laidOutB Try.prog = true := by kernel_rfl

set_option maxRecDepth 100000 in
theorem lifted (os : Os) (started : os.Started) (H : Type) (enc : TypeId × Value → H) :
    ReturnsInHanded {} Try.checked os 6 .any (Rows.textFullSpec.pre6 enc Try.prog Try.f6 Rows.textFullRow.domain false) (Rows.textFullSpec.post enc Try.prog Try.f6 false true false false) := by
  refine returnsInHanded_of_change (C := Try.checked) own started (by kernel_rfl) Try.func6
    (ChangeSpec.witness6 (enc := enc) (C := Try.checked) false ⟨#[], #[.int .i64 0, .int .i64 0], []⟩ 8 (by kernel_rfl) (by kernel_rfl) (by kernel_rfl) (by kernel_rfl)) ?_
  intro W base args ds gs before hval0 hW _ _
  have hval : ∀ (j : Nat) t v, Try.f6.params[j]? = some t → args[j]? = some v → Value.okWide Try.prog W .any base t v := hval0
  have hW' := hW
  obtain ⟨p, q, hA0, hV, rfl, _, _⟩ := hW
  have hA : DataW.TrodAll enc Try.prog W 0 (fun _ => true) true Try.f6.params.toList args.toList ds p := hA0
  rw [Try.params6] at hA hval
  obtain ⟨v0, vs0, d0, ds0, p0, q0, hargs, rfl, rfl, h0, r0⟩ := trodAll_cons hA
  obtain ⟨v1, vs1, d1, ds1, p1, q1, rfl, rfl, rfl, h1, r1⟩ := trodAll_cons r0
  obtain ⟨rfl, rfl, rfl⟩ := trodAll_nil r1
  obtain rfl : args = #[v0, v1] := by cases args; simp_all
  obtain ⟨rfl, rfl⟩ := trodVars_none hV
  obtain ⟨a0, rfl, rfl, rfl, w0⟩ := open_int Try.underlying3 (hval 0 3 v0 rfl rfl) h0
  obtain ⟨a1, rfl, rfl, rfl, w1⟩ := open_int Try.underlying3 (hval 1 3 v1 rfl rfl) h1
  clear hA0 hval0
  refine (walk a0 a1 W w0 w1).mono fun e W' ⟨he, bel⟩ => ?_
  subst he
  exact ⟨_, rfl, _, _, _, [], _, [], hW', trodAll_mk1 (shut_bool Try.underlying4 _), (trodAll_cons_mk (shut_int Try.underlying3 w0) (trodAll_cons_mk (shut_int Try.underlying3 w1) trodAll_mk0)), rfl, bel.frame _, fun h => by cases h⟩

theorem over : Rows.textFullRow.holds Try.pinned (OpenSpec.ofChange Rows.textFullSpec) :=
  OpenClaim.holds_of_wide 6 Try.f6 rfl rfl rfl rfl rfl rfl rfl ⟨rfl, rfl, rfl, rfl, rfl⟩ rfl rfl rfl rfl rfl (by kernel_rfl) Try.func6 (by kernel_rfl)
    (of_decide_eq_true (by kernel_rfl)) (by unfold Func.isWrapper; first | (rw [if_pos (by decide +kernel)]; kernel_rfl) | (rw [if_neg (by decide +kernel)]; exact ⟨rfl, rfl⟩))
    (fun os started H enc _ => lifted os started H enc)

theorem proved : Rows.TextFullSaid := over

end Go.Proofs.Ytpdcbfhmlgmhpaa.textFull
