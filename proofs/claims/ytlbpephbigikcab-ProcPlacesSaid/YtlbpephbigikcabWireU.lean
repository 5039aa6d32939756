/- What wire's Reader gives where a bound is named: Upto, take, Str. -/
import Derived.Test.YtlbpephbigikcabWireT
namespace Go.Proofs.Ytlbpephbigikcab
open Go.RowKit

/-- What Upto answers, leaves and tells. -/
def upto (most : Int) (s : ByteArray) (e : Int) : Nat × ByteArray × Int :=
  let r := dec 0 0 s.data.toList
  if (r.2.1 : Int) ≤ max most 0 then (r.2.1, restOf s r, errOf e r) else (0, ⟨#[]⟩, first (errOf e r) 3)

def UptoPost (b : Nat) (w : World) (r : Nat × ByteArray × Int) (en : Ending) (w' : World) : Prop :=
  en = .returned (.int .i64 (r.1 : Nat)) ∧ Rd w' b r.2.1 r.2.2 ∧ w.grownBy w' (some b)

set_option maxRecDepth 100000 in
set_option maxHeartbeats 400000 in
theorem upto_any (b : Nat) (s : ByteArray) (e most : Int) (w : World) (hs : s.size ≤ maxLen) (h : Rd w b s e) (hm0 : -9223372036854775808 ≤ most) (hm1 : most ≤ 9223372036854775807) :
    Calls Try.prog 58 #[.pointer (some ⟨b, 0, none⟩), .int .i64 most] w fun en w' => UptoPost b w (upto most s e) en w' := by
  have hlt := dec_lt s.data.toList 0 0 (by omega)
  generalize hu : upto most s e = u
  generalize hr : dec 0 0 s.data.toList = r at hlt
  unfold upto at hu
  rw [hr] at hu
  have HU := Lib.hid hu
  have HR := Lib.hid hr
  clear hu hr
  obtain ⟨r1, n, r3⟩ := r
  have hn : n < 18446744073709551616 := hlt
  clear hlt
  by_cases hc : (n : Int) ≤ max most 0
  · have E : Hid (u = (n, restOf s (r1, n, r3), errOf e (r1, n, r3))) := by show _ = _; rw [← HU.out, if_pos hc]
    clear HU
    by_cases h0 : most < 0
    · obtain rfl : n = 0 := by omega
      clear hc
      go_enter Try.func58, Try.ntmps58
      go_wp2_with fail
      refine (num_any b s e w hs h).mono ?_
      rw [HR.out]
      rintro en w1 ⟨rfl, h1, g1⟩
      have H1 := Lib.hid h1
      clear h1 HR
      go_wp2_with fail
      go_ret
      rw [E.out]
      exact ⟨rfl, H1.out, g1⟩
    · have h0' : 0 ≤ most := by omega
      have hc' : (n : Int) ≤ most := by omega
      have hc2 : ¬ most < (n : Int) := by omega
      clear hc
      go_enter Try.func58, Try.ntmps58
      go_wp2_with fail
      refine (num_any b s e w hs h).mono ?_
      rw [HR.out]
      rintro en w1 ⟨rfl, h1, g1⟩
      have H1 := Lib.hid h1
      clear h1 HR
      go_wp2_with fail
      go_ret
      rw [E.out]
      exact ⟨rfl, H1.out, g1⟩
  · have E : Hid (u = (0, ⟨#[]⟩, first (errOf e (r1, n, r3)) 3)) := by show _ = _; rw [← HU.out, if_neg hc]
    clear HU
    have hc2 : most < (n : Int) := by omega
    have hc3 : 0 < (n : Int) := by omega
    clear hc
    by_cases h0 : most < 0
    · go_enter Try.func58, Try.ntmps58
      go_wp2_with fail
      refine (num_any b s e w hs h).mono ?_
      rw [HR.out]
      rintro en w1 ⟨rfl, h1, g1⟩
      have H1 := Lib.hid h1
      clear h1 HR
      go_wp2_with fail
      refine (fail_any _ _ _ _ _ H1.out).mono ?_
      rintro en w2 ⟨rfl, h2, g2⟩
      have H2 := Lib.hid h2
      clear h2
      go_wp2_with fail
      go_ret
      rw [E.out]
      exact ⟨rfl, H2.out, grown_trans g1 g2⟩
    · have h0' : 0 ≤ most := by omega
      go_enter Try.func58, Try.ntmps58
      go_wp2_with fail
      refine (num_any b s e w hs h).mono ?_
      rw [HR.out]
      rintro en w1 ⟨rfl, h1, g1⟩
      have H1 := Lib.hid h1
      clear h1 HR
      go_wp2_with fail
      refine (fail_any _ _ _ _ _ H1.out).mono ?_
      rintro en w2 ⟨rfl, h2, g2⟩
      have H2 := Lib.hid h2
      clear h2
      go_wp2_with fail
      go_ret
      rw [E.out]
      exact ⟨rfl, H2.out, grown_trans g1 g2⟩

/-- What the next n bytes are, what stays, the error's number. -/
def takeN (n : Nat) (s : ByteArray) (e : Int) : ByteArray × ByteArray × Int :=
  if n ≤ s.size then (s.extract 0 n, s.extract n s.size, e) else (⟨#[]⟩, ⟨#[]⟩, first e 1)

def TakePost (b : Nat) (w : World) (r : ByteArray × ByteArray × Int) (en : Ending) (w' : World) : Prop :=
  en = .returned (.string r.1) ∧ Rd w' b r.2.1 r.2.2 ∧ w.grownBy w' (some b)

set_option maxRecDepth 100000 in
set_option maxHeartbeats 400000 in
theorem take_any (b n : Nat) (s : ByteArray) (e : Int) (w : World) (_hs : s.size ≤ maxLen) (h : Rd w b s e) (_hn : n ≤ 9223372036854775807) :
    Calls Try.prog 68 #[.pointer (some ⟨b, 0, none⟩), .int .i64 n] w fun en w' => TakePost b w (takeN n s e) en w' := by
  have c0 : w.cell? ⟨b, 0, none⟩ = some (.string s) := h.cell 0
  have f0 := h.free 0
  unfold maxLen at _hs
  have H := Lib.hid h
  clear h
  by_cases hc : n ≤ s.size
  · have E : Hid (takeN n s e = (s.extract 0 n, s.extract n s.size, e)) := if_pos hc
    go_enter Try.func68, Try.ntmps68
    go_wp2_with fail
    go_ret
    rw [E.out]
    exact ⟨rfl, H.out.left _, grown_own (grown_refl w _) 0 _⟩
  · have E : Hid (takeN n s e = (⟨#[]⟩, ⟨#[]⟩, first e 1)) := if_neg hc
    go_enter Try.func68, Try.ntmps68
    go_wp2_with fail
    refine (fail_any _ _ _ _ _ H.out).mono ?_
    rintro en w2 ⟨rfl, h2, g2⟩
    have H2 := Lib.hid h2
    clear h2
    go_wp2_with fail
    go_ret
    rw [E.out]
    exact ⟨rfl, H2.out, g2⟩

theorem rest_size (s : ByteArray) (r : Nat × Nat × Nat) : (restOf s r).size ≤ s.size := by
  unfold restOf
  split
  · rw [ByteArray.size_extract]; omega
  · exact Nat.zero_le _

theorem upto_size (most : Int) (s : ByteArray) (e : Int) : (upto most s e).2.1.size ≤ s.size := by
  unfold upto
  simp only
  split
  · exact rest_size _ _
  · exact Nat.zero_le _

theorem upto_le (most : Int) (s : ByteArray) (e : Int) (hm1 : most ≤ 9223372036854775807) : (upto most s e).1 ≤ 9223372036854775807 := by
  unfold upto
  simp only
  split
  · show (dec 0 0 s.data.toList).2.1 ≤ _
    omega
  · exact Nat.zero_le _

/-- What Str answers, leaves and tells. -/
def strN (most : Int) (s : ByteArray) (e : Int) : ByteArray × ByteArray × Int := takeN (upto most s e).1 (upto most s e).2.1 (upto most s e).2.2

set_option maxRecDepth 100000 in
set_option maxHeartbeats 400000 in
theorem str_any (b : Nat) (s : ByteArray) (e most : Int) (w : World) (hs : s.size ≤ maxLen) (h : Rd w b s e) (hm0 : -9223372036854775808 ≤ most) (hm1 : most ≤ 9223372036854775807) :
    Calls Try.prog 59 #[.pointer (some ⟨b, 0, none⟩), .int .i64 most] w fun en w' => TakePost b w (strN most s e) en w' := by
  have hz := upto_size most s e
  have hl := upto_le most s e hm1
  have HT : Hid (strN most s e = takeN (upto most s e).1 (upto most s e).2.1 (upto most s e).2.2) := rfl
  go_enter Try.func59, Try.ntmps59
  go_wp2_with fail
  refine (upto_any b s e most w hs h hm0 hm1).mono ?_
  generalize upto most s e = u at *
  obtain ⟨n, s1, e1⟩ := u
  have hl' : n ≤ 9223372036854775807 := hl
  have hz' : s1.size ≤ maxLen := by have : s1.size ≤ s.size := hz; omega
  rintro en w1 ⟨rfl, h1, g1⟩
  have H1 := Lib.hid h1
  clear h1 hz hl
  go_wp2_with fail
  refine (take_any b n s1 e1 w1 hz' H1.out hl').mono ?_
  generalize takeN n s1 e1 = t at *
  rintro en w2 ⟨rfl, h2, g2⟩
  have H2 := Lib.hid h2
  clear h2 H1
  go_wp2_with fail
  go_ret
  rw [HT.out]
  exact ⟨rfl, H2.out, grown_trans g1 g2⟩

end Go.Proofs.Ytlbpephbigikcab
