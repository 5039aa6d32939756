/- Texts laid into one: PrcZ, PrdC. -/
import Derived.Test.YtbpcfkniflgmfaaY012
import Derived.Test.YtbpcfkniflgmfaaY004
import Derived.Test.YtbpcfkniflgmfaaY010
section
/- The document's Text of a record. -/
namespace Go.Proofs.Ytbpcfkniflgmfaa.prc
open Go Go.RowKit

theorem wrap64 (n : Nat) (h : n < 18446744073709551616) : IntKind.u64.wrap (n : Int) = n := by
  rw [IntKind.wrap_u64]
  omega
set_option maxRecDepth 100000 in
set_option maxHeartbeats 4000000 in
theorem rtext_calls (r : Rc) (w : World) (h : r.Fits) :
    Calls Try.prog 91 #[.agg #[.int .i64 r.who, .int .i64 r.seq, .string r.body]] w fun en w' => en = .returned (.string (tx r)) ∧ Below w.heap.size w w' := by
  obtain ⟨wn, sn, body⟩ := r
  obtain ⟨h1, h2, h3⟩ := h
  dsimp only at h1 h2 h3 ⊢
  have hbl : body.data.toList.length = body.size := by simp
  have l0 := enc_len wn (by omega)
  have l1 := enc_len sn (by omega)
  have l2 := enc_len body.size (by omega)
  obtain ⟨who, hwho⟩ : ∃ who : Int, who = (wn : Int) := ⟨_, rfl⟩
  obtain ⟨seq, hseq⟩ : ∃ seq : Int, seq = (sn : Int) := ⟨_, rfl⟩
  obtain ⟨t0, ht0⟩ : ∃ t0 : ByteArray, t0 = ⟨(enc wn).toArray⟩ := ⟨_, rfl⟩
  obtain ⟨t1, ht1⟩ : ∃ t1 : ByteArray, t1 = ⟨(enc sn).toArray⟩ := ⟨_, rfl⟩
  obtain ⟨t2, ht2⟩ : ∃ t2 : ByteArray, t2 = ⟨(enc body.size).toArray⟩ ++ body := ⟨_, rfl⟩
  have z0 : t0.size ≤ 11 := by rw [ht0]; show (enc wn).toArray.size ≤ 11; simpa using l0
  have z1 : t1.size ≤ 11 := by rw [ht1]; show (enc sn).toArray.size ≤ 11; simpa using l1
  have z2 : t2.size ≤ 1035 := by
    have : (⟨(enc body.size).toArray⟩ : ByteArray).size ≤ 11 := by show (enc body.size).toArray.size ≤ 11; simpa using l2
    rw [ht2, ByteArray.size_append]; omega
  have N0 : Hid (∀ w, Calls Try.prog 105 #[.int .u64 who] w fun en w' => en = .returned (.string t0) ∧ Below w.heap.size w w') := Lib.hid fun w => by rw [hwho, ht0]; exact fnum_any wn w (by omega)
  have N1 : Hid (∀ w, Calls Try.prog 105 #[.int .u64 seq] w fun en w' => en = .returned (.string t1) ∧ Below w.heap.size w w') := Lib.hid fun w => by rw [hseq, ht1]; exact fnum_any sn w (by omega)
  have N2 : Hid (∀ w, Calls Try.prog 106 #[.string body] w fun en w' => en = .returned (.string t2) ∧ Below w.heap.size w w') := Lib.hid fun w => by rw [ht2]; exact fstr_any body w (by omega)
  have HE : Hid (tx ⟨wn, sn, body⟩ = t0 ++ t1 ++ t2) := Lib.hid (by
    rw [ht0, ht1, ht2]
    apply ByteArray.ext
    apply Array.toList_inj.1
    unfold tx txL
    simp)
  have a0 : 0 ≤ who := by omega
  have a1 : who ≤ 63 := by omega
  have a2 : 0 ≤ seq := by omega
  have a3 : seq ≤ 1099511627776 := by omega
  have b1 : ¬ 9223372036854775807 < t0.size + t1.size := by omega
  have b2 : ¬ 9223372036854775807 < t0.size + t1.size + t2.size := by omega
  have m0 : (if who < 0 then 0 else who) = who := if_neg (by omega)
  have m1 : (if seq < 0 then 0 else seq) = seq := if_neg (by omega)
  have e0 : IntKind.u64.wrap who = who := by rw [hwho]; exact wrap64 wn (by omega)
  have e1 : IntKind.u64.wrap seq = seq := by rw [hseq]; exact wrap64 sn (by omega)
  rw [← hwho, ← hseq, HE.out]
  clear ht0 ht1 ht2 hwho hseq l0 l1 l2 h1 h2 h3 hbl z0 z1 z2
  go_enter Try.func91, Try.ntmps91
  go_wp2_with fail
  go_name_world W hW
  have HX0 : Has W w.heap.size 38 #[.int .i64 who, .int .i64 seq, .string body] ∧ Below w.heap.size w W := by rw [← hW]; exact ⟨Has.made _ _ _, (Below.refl _ w).alloc (Nat.le_refl _) _⟩
  clear hW
  obtain ⟨b, hb⟩ : ∃ b, b = w.heap.size := ⟨_, rfl⟩
  rw [← hb] at HX0 ⊢
  have HB := Lib.hid hb
  clear hb
  have HX := Lib.hid HX0
  have c0 : W.cell? ⟨b, 0, none⟩ = some (.int .i64 who) := HX0.1.cell 0
  have c1 : W.cell? ⟨b, 1, none⟩ = some (.int .i64 seq) := HX0.1.cell 1
  have c2 : W.cell? ⟨b, 2, none⟩ = some (.string body) := HX0.1.cell 2
  clear HX0
  go_region_law (first
    | (refine step_call rfl 105 Try.f105 Try.func105 (by kernel_rfl) (by kernel_rfl) _ _ rfl #[.int .u64 who] ?_ (N0.out _) ?_
       · first | (simp [Act.eval]; done) | (simp [Act.eval, Act.put]; done)
       rintro en w2 ⟨rfl, b2⟩
       replace HX : Hid (Has w2 b 38 #[.int .i64 who, .int .i64 seq, .string body] ∧ Below b w w2) := Lib.hid (by first | exact ⟨HX.out.1.drew.below b2 HX.out.1.drew.lt, HX.out.2.drew.trans (b2.mono (Nat.le_of_lt HX.out.1.drew.lt))⟩ | exact ⟨HX.out.1.below b2 HX.out.1.lt, HX.out.2.trans (b2.mono (Nat.le_of_lt HX.out.1.lt))⟩)
       replace c0 : w2.cell? ⟨b, 0, none⟩ = some (.int .i64 who) := HX.out.1.cell 0
       replace c1 : w2.cell? ⟨b, 1, none⟩ = some (.int .i64 seq) := HX.out.1.cell 1
       replace c2 : w2.cell? ⟨b, 2, none⟩ = some (.string body) := HX.out.1.cell 2
       clear b2
       refine ⟨_, rfl, ?_⟩)
    | (refine step_call rfl 105 Try.f105 Try.func105 (by kernel_rfl) (by kernel_rfl) _ _ rfl #[.int .u64 seq] ?_ (N1.out _) ?_
       · first | (simp [Act.eval]; done) | (simp [Act.eval, Act.put]; done)
       rintro en w2 ⟨rfl, b2⟩
       replace HX : Hid (Has w2 b 38 #[.int .i64 who, .int .i64 seq, .string body] ∧ Below b w w2) := Lib.hid (by first | exact ⟨HX.out.1.drew.below b2 HX.out.1.drew.lt, HX.out.2.drew.trans (b2.mono (Nat.le_of_lt HX.out.1.drew.lt))⟩ | exact ⟨HX.out.1.below b2 HX.out.1.lt, HX.out.2.trans (b2.mono (Nat.le_of_lt HX.out.1.lt))⟩)
       replace c0 : w2.cell? ⟨b, 0, none⟩ = some (.int .i64 who) := HX.out.1.cell 0
       replace c1 : w2.cell? ⟨b, 1, none⟩ = some (.int .i64 seq) := HX.out.1.cell 1
       replace c2 : w2.cell? ⟨b, 2, none⟩ = some (.string body) := HX.out.1.cell 2
       clear b2
       refine ⟨_, rfl, ?_⟩)
    | (refine step_call rfl 106 Try.f106 Try.func106 (by kernel_rfl) (by kernel_rfl) _ _ rfl #[.string body] ?_ (N2.out _) ?_
       · first | (simp [Act.eval]; done) | (simp [Act.eval, Act.put]; done)
       rintro en w2 ⟨rfl, b2⟩
       replace HX : Hid (Has w2 b 38 #[.int .i64 who, .int .i64 seq, .string body] ∧ Below b w w2) := Lib.hid (by first | exact ⟨HX.out.1.drew.below b2 HX.out.1.drew.lt, HX.out.2.drew.trans (b2.mono (Nat.le_of_lt HX.out.1.drew.lt))⟩ | exact ⟨HX.out.1.below b2 HX.out.1.lt, HX.out.2.trans (b2.mono (Nat.le_of_lt HX.out.1.lt))⟩)
       replace c0 : w2.cell? ⟨b, 0, none⟩ = some (.int .i64 who) := HX.out.1.cell 0
       replace c1 : w2.cell? ⟨b, 1, none⟩ = some (.int .i64 seq) := HX.out.1.cell 1
       replace c2 : w2.cell? ⟨b, 2, none⟩ = some (.string body) := HX.out.1.cell 2
       clear b2
       refine ⟨_, rfl, ?_⟩))
  all_goals
    go_wp2_with fail
    go_ret
    exact ⟨rfl, by rw [← HB.out]; exact HX.out.2⟩
end Go.Proofs.Ytbpcfkniflgmfaa.prc
end

section
/- The document's known. -/
namespace Go.Proofs.Ytbpcfkniflgmfaa.prc
open Go Go.RowKit

theorem kn_none {S : Nat → Option Rc} (who : Nat) {k : Nat} (h : S k = none) : kn S who (k + 1) = kn S who k := by
  show (match S k with | some r => if r.who = who then max (kn S who k) r.seq else kn S who k | none => kn S who k) = _
  rw [h]
theorem kn_mine {S : Nat → Option Rc} {who k : Nat} {r : Rc} (h : S k = some r) (hw : r.who = who) : kn S who (k + 1) = max (kn S who k) r.seq := by
  show (match S k with | some r => if r.who = who then max (kn S who k) r.seq else kn S who k | none => kn S who k) = _
  rw [h]
  exact if_pos hw
theorem kn_other {S : Nat → Option Rc} {who k : Nat} {r : Rc} (h : S k = some r) (hw : r.who ≠ who) : kn S who (k + 1) = kn S who k := by
  show (match S k with | some r => if r.who = who then max (kn S who k) r.seq else kn S who k | none => kn S who k) = _
  rw [h]
  exact if_neg hw
theorem kn_fit {P : Nat} {A : Ab} (hF : Fit P A) (who : Nat) : ∀ n, kn A.S who n ≤ 1099511627776 := fun n => kn_le n fun k r _ hr _ => (hF.slot k r hr).2.1

set_option maxRecDepth 100000 in
set_option maxHeartbeats 4000000 in
theorem Dw.known {W : World} {s v p : Value} {P L : Nat} {A : Ab} {O : Nat → ByteArray} (h : Dw W s v p P L A O) (hF : Fit P A) (at_ who : Nat) (ha : at_ ≤ L) (hL : L ≤ 256) (hw : who ≤ 63) :
    Calls Try.prog 93 #[.agg #[s, v, p], .int .i64 at_, .int .i64 who] W fun en W' => en = .returned (.int .i64 (kn A.S who at_)) ∧ Below W.heap.size W W' := by
  obtain ⟨gs, os, cs, rfl⟩ := h.ts
  obtain ⟨gv, ov, cv, rfl⟩ := h.tw
  obtain ⟨gp, op, cp, rfl⟩ := h.tp
  obtain ⟨hcl, hcm⟩ : L ≤ cs ∧ cs ≤ maxLen := by
    obtain ⟨_, _, e, h1, h2⟩ := h.slots.slice
    injection e with _ _ e
    subst e
    exact ⟨h1, h2⟩
  have hcm' : (cs : Int) ≤ 9223372036854775807 := by unfold maxLen at hcm; omega
  have hac : (at_ : Int) ≤ (cs : Int) := by omega
  have H := Lib.hid h
  have HF := Lib.hid hF
  have HA := Lib.hid (And.intro ha (And.intro hL hw))
  clear h hF ha hL hw hcl hcm
  go_enter Try.func93, Try.ntmps93
  go_wp2_with fail
  go_name_world W1 hW1
  have H1 : Hid (Dw W1 (.slice (some ⟨gs, os, none⟩) L cs) (.slice (some ⟨gv, ov, none⟩) P cv) (.slice (some ⟨gp, op, none⟩) P cp) P L A O ∧ Below W.heap.size W W1) := by
    rw [← hW1]
    exact Lib.hid ⟨H.out.below ((Below.refl _ W).alloc (Nat.le_refl _) _), (Below.refl _ W).alloc (Nat.le_refl _) _⟩
  clear hW1 H
  go_loopw [7, 17] (fun n i wr => ∃ k : Nat, n = .int .i64 (kn A.S who k) ∧ i = .int .i64 k ∧ k ≤ at_ ∧ Hid (Dw wr (.slice (some ⟨gs, os, none⟩) L cs) (.slice (some ⟨gv, ov, none⟩) P cv) (.slice (some ⟨gp, op, none⟩) P cp) P L A O ∧ Below W.heap.size W wr)) (fun _ i _ => at_ - (RowKit.intOf i).toNat)
  case atStart => exact ⟨0, rfl, rfl, Nat.zero_le _, H1⟩
  case round =>
    clear H1
    obtain ⟨k, rfl, rfl, hk, HD⟩ := hrel
    by_cases hk1 : k < at_
    · have h1 : (k : Int) < (at_ : Int) := by omega
      have h0 : (0 : Int) ≤ (k : Int) := by omega
      obtain ⟨g', o', c', e, hg, hc⟩ := HD.out.1.slot (k := k) (by have := HA.out.1; omega)
      obtain ⟨rfl, rfl⟩ : gs = g' ∧ os = o' := by injection e with e1 e2 e3; injection e1 with e1; injection e1 with e1 e4; exact ⟨e1, e4⟩
      cases hS : A.S k with
      | none =>
        rw [hS] at hc
        have hc' : wr.cell? ⟨gs, os + k, none⟩ = some (.string ⟨#[]⟩) := hc
        have e1 := Lib.hid (kn_none who hS)
        clear hc e hg
        go_wp2_with (first
          | (go_at_call 92; refine (rparse_none wr).mono ?_; rintro en w5 ⟨rfl, b5⟩
             have D5 : Hid (Dw (w5.alloc (.cells #[.int .i64 0, .int .i64 0, .string ⟨#[]⟩] 38)) (.slice (some ⟨gs, os, none⟩) L cs) (.slice (some ⟨gv, ov, none⟩) P cv) (.slice (some ⟨gp, op, none⟩) P cp) P L A O ∧ Below W.heap.size W (w5.alloc (.cells #[.int .i64 0, .int .i64 0, .string ⟨#[]⟩] 38))) := Lib.hid (by
               have b6 := b5.alloc b5.size (.cells #[.int .i64 0, .int .i64 0, .string ⟨#[]⟩] 38)
               exact ⟨HD.out.1.below b6, HD.out.2.trans (b6.mono HD.out.2.size)⟩)
             clear b5)
          | fail)
        refine ⟨⟨k + 1, by rw [e1.out], by rw [Int.natCast_add]; rfl, by omega, D5⟩, ?_⟩
        show at_ - ((k : Int) + 1).toNat < at_ - ((k : Int)).toNat
        omega
      | some r =>
        rw [hS] at hc
        have hc' : wr.cell? ⟨gs, os + k, none⟩ = some (.string (tx r)) := hc
        have hr := HF.out.slot k r hS
        have HR := Lib.hid hr
        have hrb : r.who ≤ 63 ∧ r.seq ≤ 1099511627776 := ⟨hr.1, hr.2.1⟩
        have hkb := kn_fit HF.out who k
        obtain ⟨t, ht⟩ : ∃ t, t = tx r := ⟨_, rfl⟩
        rw [← ht] at hc'
        have HT := Lib.hid ht
        by_cases hw : r.who = who
        · have e1 := Lib.hid (kn_mine hS hw)
          have hw1 : ((r.who : Int) == (who : Int)) = true := by rw [hw]; exact beq_self_eq_true _
          obtain ⟨M, hM⟩ : ∃ M : Nat, M = max (kn A.S who k) r.seq := ⟨_, rfl⟩
          have hmax : (if kn A.S who k < r.seq then (r.seq : Int) else (kn A.S who k : Int)) = (M : Int) := by rw [hM]; split <;> omega
          rw [← hM] at e1
          have HM := Lib.hid hM
          generalize kn A.S who k = kk at *
          clear hc e hg hr hrb ht hM
          subst hw
          go_wp2_with (first
            | (go_at_call 92; rw [HT.out]; refine (rparse_tx r wr HR.out).mono ?_; rintro en w5 ⟨rfl, b5⟩
               have D5 : Hid (∀ o, Dw (w5.alloc o) (.slice (some ⟨gs, os, none⟩) L cs) (.slice (some ⟨gv, ov, none⟩) P cv) (.slice (some ⟨gp, op, none⟩) P cp) P L A O ∧ Below W.heap.size W (w5.alloc o)) := Lib.hid (fun o => by
                 have b6 := b5.alloc b5.size o
                 exact ⟨HD.out.1.below b6, HD.out.2.trans (b6.mono HD.out.2.size)⟩)
               clear b5)
            | fail)
          refine ⟨⟨k + 1, by rw [e1.out], by rw [Int.natCast_add]; rfl, by omega, Lib.hid (D5.out _)⟩, ?_⟩
          show at_ - ((k : Int) + 1).toNat < at_ - ((k : Int)).toNat
          omega
        · have e1 := Lib.hid (kn_other hS hw)
          have hw1 : ((r.who : Int) == (who : Int)) = false := by rw [beq_eq_false_iff_ne]; omega
          have hw2 : (r.who == who) = false := by rw [beq_eq_false_iff_ne]; exact hw
          generalize kn A.S who k = kk at *
          clear hc e hg hr hrb ht
          go_wp2_with (first
            | (go_at_call 92; rw [HT.out]; refine (rparse_tx r wr HR.out).mono ?_; rintro en w5 ⟨rfl, b5⟩
               have D5 : Hid (∀ o, Dw (w5.alloc o) (.slice (some ⟨gs, os, none⟩) L cs) (.slice (some ⟨gv, ov, none⟩) P cv) (.slice (some ⟨gp, op, none⟩) P cp) P L A O ∧ Below W.heap.size W (w5.alloc o)) := Lib.hid (fun o => by
                 have b6 := b5.alloc b5.size o
                 exact ⟨HD.out.1.below b6, HD.out.2.trans (b6.mono HD.out.2.size)⟩)
               clear b5)
            | fail)
          refine ⟨⟨k + 1, by rw [e1.out], by rw [Int.natCast_add]; rfl, by omega, Lib.hid (D5.out _)⟩, ?_⟩
          show at_ - ((k : Int) + 1).toNat < at_ - ((k : Int)).toNat
          omega
    · obtain rfl : k = at_ := by omega
      go_wp2_with fail
      go_ret
      exact ⟨rfl, HD.out.2⟩
end Go.Proofs.Ytbpcfkniflgmfaa.prc
end

