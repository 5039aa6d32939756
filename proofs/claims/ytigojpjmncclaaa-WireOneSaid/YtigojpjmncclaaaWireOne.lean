/-
  For every string s: of its first twelve bytes, what wire's reader takes as a number are just the bytes of that number, and nothing else is left just if the string ends there; else an error's number stands and the number is 0. No condition: every string.
-/
import Derived.Test.YtigojpjmncclaaaWireA
import Derived.ProofKit
import Derived.OpenShut
import Derived.ShutString
import Derived.ChangeOld
namespace Go.Proofs.Ytigojpjmncclaaa.wireOne
open Go.ChangeShapes Go.WideShapes Go.ChangeAt Go.RowKit
open Go.ChangeMaps (open_string shut_string)

theorem dec_err : ∀ (l : List UInt8) (i n : Nat), (dec i n l).1 ≠ 0 → (dec i n l).2.1 = 0
  | [], i, n, _ => by simp [dec]
  | b :: t, i, n, h => by
    rw [dec] at h ⊢
    by_cases h1 : (i = 0 ∧ b.toNat = 128) ∨ 144115188075855872 ≤ n
    · rw [if_pos h1]
    · rw [if_neg h1] at h ⊢
      by_cases h2 : b.toNat < 128
      · rw [if_pos h2] at h; exact absurd rfl h
      · rw [if_neg h2] at h ⊢; exact dec_err t _ _ h

/-- What is taken as a number are its bytes. -/
theorem dec_enc : ∀ (l : List UInt8) (i n : Nat), (dec i n l).1 = 0 → (i = 0 → n = 0) → (0 < i → 0 < n) →
    i < (dec i n l).2.2 ∧ (dec i n l).2.2 ≤ i + l.length ∧ Go.Proofs.Ytigojpjmncclaaa.enc (dec i n l).2.1 = hi n ++ l.take ((dec i n l).2.2 - i)
  | [], i, n, h, _, _ => by simp [dec] at h
  | b :: t, i, n, h, h0, hp => by
    rw [dec] at h ⊢
    by_cases h1 : (i = 0 ∧ b.toNat = 128) ∨ 144115188075855872 ≤ n
    · rw [if_pos h1] at h; simp at h
    · rw [if_neg h1] at h ⊢
      by_cases h2 : b.toNat < 128
      · rw [if_pos h2]
        refine ⟨Nat.lt_succ_self i, by simp, ?_⟩
        show Go.Proofs.Ytigojpjmncclaaa.enc (n * 128 + b.toNat % 128) = hi n ++ (b :: t).take (i + 1 - i)
        rw [show i + 1 - i = 1 by omega, Go.Proofs.Ytigojpjmncclaaa.enc, show (n * 128 + b.toNat % 128) / 128 = n by omega, show (n * 128 + b.toNat % 128) % 128 = b.toNat by omega]
        simp
      · rw [if_neg h2] at h ⊢
        have hn : 0 < n * 128 + b.toNat % 128 := by
          rcases Nat.eq_zero_or_pos i with hi0 | hi0
          · have : b.toNat ≠ 128 := fun e => h1 (.inl ⟨hi0, e⟩)
            have := b.toNat_lt
            omega
          · have := hp hi0
            omega
        obtain ⟨a1, a2, a3⟩ := dec_enc t (i + 1) (n * 128 + b.toNat % 128) h (by omega) (fun _ => hn)
        refine ⟨by omega, by simp; omega, ?_⟩
        have hb := b.toNat_lt
        rw [a3, hi, if_neg (by omega), show (n * 128 + b.toNat % 128) / 128 = n by omega, show 128 + (n * 128 + b.toNat % 128) % 128 = b.toNat by omega]
        rw [show (dec (i + 1) (n * 128 + b.toNat % 128) t).2.2 - i = (dec (i + 1) (n * 128 + b.toNat % 128) t).2.2 - (i + 1) + 1 by omega, List.take_succ_cons]
        simp

theorem extract_take (s : ByteArray) (c : Nat) : s.extract 0 c = ⟨(s.data.toList.take c).toArray⟩ := by
  apply ByteArray.ext
  apply Array.toList_inj.1
  simp [ByteArray.data_extract]

set_option maxRecDepth 100000 in
set_option maxHeartbeats 1000000 in
theorem walk (a0 : ByteArray) (w : World) (w0 : a0.size ≤ maxLen) :
    Calls Try.prog 5 #[.string a0] w fun e w' => e = .returned (.bool true) ∧ Below w.heap.size w w' := by
  go_enter Try.func5, Try.ntmps5
  go_wp2_with fail
  refine (cut_any a0 12 w (by omega) w0).mono ?_
  rintro en w1 ⟨rfl, rfl⟩
  have hs12 : (a0.extract 0 12).size ≤ 12 := by rw [ByteArray.size_extract]; omega
  generalize a0.extract 0 12 = s at *
  have hsM : s.size ≤ maxLen := by unfold maxLen; omega
  go_wp2_with fail
  refine (read_any _ _).mono ?_
  rintro en w1 ⟨rfl, hr1, HB1⟩
  have HR1 := Lib.hid hr1
  clear hr1
  go_wp2_with fail
  refine (awake_any w1).mono ?_
  rintro en w2 ⟨rfl, hb2⟩
  have HR2 : Hid (Rd w2 w.heap.size s 0) := HR1.out.below hb2 HR1.out.lt
  have HB2 := HB1.trans (hb2.mono HB1.size)
  clear hb2 HR1 HB1
  go_wp2_with fail
  refine (num_any _ _ _ _ hsM HR2.out).mono ?_
  rintro en w3 ⟨rfl, hr3, g3⟩
  have HB3 := HB2.trans (below_grown g3 (Nat.le_refl _) HB2.size)
  have HR3 := Lib.hid hr3
  have hlt := dec_lt s.data.toList 0 0 (by omega)
  have he := dec_err s.data.toList 0 0
  have ho := dec_enc s.data.toList 0 0
  generalize dec 0 0 s.data.toList = r at *
  clear hr3 HB2 HR2 g3
  obtain ⟨k, n, c⟩ := r
  by_cases hk : k = 0
  · subst hk
    have HO := Lib.hid (ho rfl (fun _ => rfl) (fun h => absurd h (by omega)))
    have HLT := Lib.hid hlt
    clear ho he hlt
    go_wp2_with fail
    refine (err_any _ _ _ _ HR3.out).mono ?_
    rintro en w4 ⟨rfl, rfl⟩
    have e0 : (errOf 0 (0, n, c) != 0) = false := rfl
    go_wp2_with fail
    refine (fnum_any n _ HLT.out).mono ?_
    rintro en w4 ⟨rfl, hb4⟩
    have HR4 : Hid (Rd w4 w.heap.size (restOf s (0, n, c)) (errOf 0 (0, n, c))) := HR3.out.below hb4 HR3.out.lt
    have HB4 := HB3.trans (hb4.mono HB3.size)
    clear hb4 HR3 HB3
    obtain ⟨h1, h2, h3⟩ := HO.out
    rw [show Go.Proofs.Ytigojpjmncclaaa.enc n = s.data.toList.take c by rw [h3, hi_zero]; rfl]
    generalize hT : (⟨(s.data.toList.take c).toArray⟩ : ByteArray) = T
    have hc : c ≤ s.size := by simpa using h2
    have hTe : s.extract 0 c = T := by rw [← hT, extract_take]
    have hTs : T.size = c := by rw [← hTe, ByteArray.size_extract]; omega
    have hle : T.size ≤ s.size := by omega
    have hcmp : ((s.extract 0 T.size).toList == T.toList) = true := by rw [hTs, hTe]; simp
    have hep : errOf 0 (0, n, c) = 0 := rfl
    rw [hep] at HR4
    have HT := Lib.hid hTs
    clear h1 h2 h3 hT hTe HO hep hTs
    by_cases hcs : c = s.size
    · have heq : ((s.size : Int) == (T.size : Int)) = true := by rw [HT.out, hcs]; simp
      have hen : endE (restOf s (0, n, c)) 0 = 0 := by
        unfold endE
        rw [if_pos (by show (s.extract c s.size).data.toList = []; rw [hcs]; simp)]
      have HEN := Lib.hid hen
      have HCS := Lib.hid hcs
      clear hen hcs hc
      go_wp2_with fail
      refine (end_any _ _ _ _ HR4.out).mono ?_
      rw [HEN.out]
      rintro en w5 ⟨rfl, _, g5⟩
      have HB5 := HB4.trans (below_grown g5 (Nat.le_refl _) HB4.size)
      clear g5 HR4 HB4
      go_wp2_with fail
      go_ret
      exact ⟨rfl, HB5⟩
    · have heq : ((s.size : Int) == (T.size : Int)) = false := by rw [HT.out]; simp; omega
      have hen : endE (restOf s (0, n, c)) 0 = 2 := by
        unfold endE
        rw [if_neg (by show ¬ (s.extract c s.size).data.toList = []; simp [ByteArray.data_extract]; omega)]; rfl
      have HEN := Lib.hid hen
      have HCS := Lib.hid hcs
      clear hen hcs hc
      go_wp2_with fail
      refine (end_any _ _ _ _ HR4.out).mono ?_
      rw [HEN.out]
      rintro en w5 ⟨rfl, _, g5⟩
      have HB5 := HB4.trans (below_grown g5 (Nat.le_refl _) HB4.size)
      clear g5 HR4 HB4
      go_wp2_with fail
      go_ret
      exact ⟨rfl, HB5⟩
  · have hn0 : n = 0 := he hk
    subst hn0
    clear ho he hlt
    go_wp2_with fail
    refine (err_any _ _ _ _ HR3.out).mono ?_
    rintro en w4 ⟨rfl, rfl⟩
    have e0 : (errOf 0 (k, 0, c) != 0) = true := by simp [errOf, hk, first]
    have HK := Lib.hid hk
    clear hk
    go_wp2_with fail
    go_ret
    exact ⟨rfl, HB3⟩

theorem own : ownKnob Try.prog.godebug = none := by kernel_rfl
theorem laidOut : laidOutB Try.prog = true := by kernel_rfl

set_option maxRecDepth 100000 in
theorem lifted (os : Os) (started : os.Started) (H : Type) (enc : TypeId × Value → H) :
    ReturnsInHanded {} Try.checked os 5 .any (Rows.wireOneSpec.pre6 enc Try.prog Try.f5 Rows.wireOneRow.domain false) (Rows.wireOneSpec.post enc Try.prog Try.f5 false true false false) := by
  refine returnsInHanded_of_change (C := Try.checked) own started (by kernel_rfl) Try.func5
    (ChangeSpec.witness6 (enc := enc) (C := Try.checked) false ⟨#[], #[.string ByteArray.empty], []⟩ 8 (by kernel_rfl) (by kernel_rfl) (by kernel_rfl) (by kernel_rfl)) ?_
  intro W base args ds gs before hval0 hW _ _
  have hval : ∀ (j : Nat) t v, Try.f5.params[j]? = some t → args[j]? = some v → Value.okWide Try.prog W .any base t v := hval0
  have hW' := hW
  obtain ⟨p, q, hA0, hV, rfl, _, _⟩ := hW
  have hA : DataW.TrodAll enc Try.prog W 0 (fun _ => true) true Try.f5.params.toList args.toList ds p := hA0
  rw [Try.params5] at hA hval
  obtain ⟨v0, vs0, d0, ds0, p0, q0, hargs, rfl, rfl, h0, r0⟩ := trodAll_cons hA
  obtain ⟨rfl, rfl, rfl⟩ := trodAll_nil r0
  obtain rfl : args = #[v0] := by cases args; simp_all
  obtain ⟨rfl, rfl⟩ := trodVars_none hV
  obtain ⟨a0, rfl, rfl, rfl, w0⟩ := open_string Try.underlying9 (hval 0 9 v0 rfl rfl) h0
  clear hA0 hval0
  refine (walk a0 W w0).mono fun e W' ⟨he, bel⟩ => ?_
  subst he
  exact ⟨_, rfl, _, _, _, [], _, [], hW', trodAll_mk1 (shut_bool Try.underlying4 _), (trodAll_cons_mk (shut_string Try.underlying9 w0) trodAll_mk0), rfl, bel.frame _, fun h => by cases h⟩

theorem over : Rows.wireOneRow.holds Try.pinned (OpenSpec.ofChange Rows.wireOneSpec) :=
  OpenClaim.holds_of_wide 5 Try.f5 rfl rfl rfl rfl rfl rfl rfl ⟨rfl, rfl, rfl, rfl, rfl⟩ rfl rfl rfl rfl rfl (by kernel_rfl) Try.func5 (by kernel_rfl)
    (of_decide_eq_true (by kernel_rfl)) (by unfold Func.isWrapper; first | (rw [if_pos (by decide +kernel)]; kernel_rfl) | (rw [if_neg (by decide +kernel)]; exact ⟨rfl, rfl⟩))
    (fun os started H enc _ => lifted os started H enc)

theorem proved : Rows.WireOneSaid := over

end Go.Proofs.Ytigojpjmncclaaa.wireOne
