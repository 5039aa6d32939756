/- Texts laid into one: WireT, WireU, Dec, WireP, PrcC, PrcD, Flat. -/
import Derived.Test.YtbpcfkniflgmfaaY001
import Derived.Test.YtbpcfkniflgmfaaY000
section
/- What Writer.Text and Cut give. -/
namespace Go.Proofs.Ytbpcfkniflgmfaa
open Go.RowKit

theorem own_text {P : Program} (w : World) (src dst e : TypeId) (hs : P.underlying src = some (.slice e)) (he : P.underlying e = some (.int .u8)) (hd : P.underlying dst = some .string) {v : Value} {xs : List UInt8}
    (ho : w.ownsRow 0 e 1 v xs.length (xs.map byteV)) : (convert src dst v).run P w = .ok (.string ⟨xs.toArray⟩) w := by
  rcases ho.2 with ⟨rfl, h0⟩ | ⟨g, cap, cur, rfl, _⟩
  · have : xs = [] := List.eq_nil_of_length_eq_zero h0
    subst this
    rw [run_convert_bytes_string w src dst e none 0 0 hs he hd]
    rfl
  · refine run_convert_bytes_back w src dst e ⟨g, 0, none⟩ cap xs hs he hd (fun j hj => ?_)
    exact ho.cells rfl j _ (by simp [hj, byteV])

set_option maxHeartbeats 400000 in
theorem text_any (b : Nat) (r : Option Nat) (xs : List UInt8) (w : World) (h : Wr w b r xs) :
    Calls Try.prog 47 #[.pointer (some ⟨b, 0, none⟩)] w fun en w' => en = .returned (.string ⟨xs.toArray⟩) ∧ w = w' := by
  obtain ⟨v, hb, ho, hv, hne⟩ := h
  have c0 : w.cell? ⟨b, 0, none⟩ = some v := hb.cell 0
  have hc := own_text (P := Try.prog) w 103 9 5 Try.underlying103 Try.underlying5 Try.underlying9 ho
  clear hb ho hv hne
  go_enter Try.func47, Try.ntmps47
  go_wp2
  go_ret
  exact ⟨rfl, rfl⟩

theorem dec_lt : ∀ (l : List UInt8) (i n : Nat), n < 18446744073709551616 → (dec i n l).2.1 < 18446744073709551616
  | [], i, n, _ => by simp [dec]
  | b :: t, i, n, h => by
    rw [dec]
    by_cases h1 : (i = 0 ∧ b.toNat = 128) ∨ 144115188075855872 ≤ n
    · rw [if_pos h1]; simp
    · rw [if_neg h1]
      by_cases h2 : b.toNat < 128
      · rw [if_pos h2]; show n * 128 + b.toNat % 128 < _; omega
      · rw [if_neg h2]; exact dec_lt t _ _ (by omega)

/-- A number that may be below 0, out of its number. -/
def unz (n : Nat) : Int := if n % 2 = 1 then -((n / 2 : Nat) : Int) - 1 else ((n / 2 : Nat) : Int)

def IntPost (b : Nat) (s : ByteArray) (e : Int) (w : World) (r : Nat × Nat × Nat) (en : Ending) (w' : World) : Prop :=
  en = .returned (.int .i64 (unz r.2.1)) ∧ Rd w' b (restOf s r) (errOf e r) ∧ w.grownBy w' (some b)

set_option maxHeartbeats 400000 in
theorem cut_any (s : ByteArray) (n : Nat) (w : World) (hn : n ≤ 1000000) (_hs : s.size ≤ maxLen) :
    Calls Try.prog 28 #[.string s, .int .i64 n] w fun en w' => en = .returned (.string (s.extract 0 n)) ∧ w = w' := by
  unfold maxLen at _hs
  by_cases h : n < s.size
  · go_enter Try.func28, Try.ntmps28
    go_wp2
    go_ret
    exact ⟨rfl, rfl⟩
  · have e : s.extract 0 n = s := by
      apply ByteArray.ext
      simp [ByteArray.data_extract]
      omega
    have E := Lib.hid e
    clear e
    go_enter Try.func28, Try.ntmps28
    go_wp2
    go_ret
    rw [E.out]
    exact ⟨rfl, rfl⟩

end Go.Proofs.Ytbpcfkniflgmfaa
end

section
/- What wire's Reader gives where a bound is named: Upto, take, Str. -/
namespace Go.Proofs.Ytbpcfkniflgmfaa
open Go.RowKit

/-- What Upto answers, leaves and tells. -/
def upto (most : Int) (s : ByteArray) (e : Int) : Nat × ByteArray × Int :=
  let r := dec 0 0 s.data.toList
  if (r.2.1 : Int) ≤ max most 0 then (r.2.1, restOf s r, errOf e r) else (0, ⟨#[]⟩, first (errOf e r) 3)

def UptoPost (b : Nat) (w : World) (r : Nat × ByteArray × Int) (en : Ending) (w' : World) : Prop :=
  en = .returned (.int .i64 (r.1 : Nat)) ∧ Rd w' b r.2.1 r.2.2 ∧ w.grownBy w' (some b)

set_option maxRecDepth 100000 in
set_option maxHeartbeats 400000 in
theorem upto_any (b : Nat) (s : ByteArray) (e most : Int) (w : World) (hs : s.size ≤ maxLen) (h : Rd w b s e) (hm0 : -9223372036854775808 ≤ most) (hm1 : most ≤ 9223372036854775807) :
    Calls Try.prog 78 #[.pointer (some ⟨b, 0, none⟩), .int .i64 most] w fun en w' => UptoPost b w (upto most s e) en w' := by
  have hlt := dec_lt s.data.toList 0 0 (by omega)
  generalize hu : upto most s e = u
  generalize hr : dec 0 0 s.data.toList = r at hlt
  unfold upto at hu
  rw [hr] at hu
  have HU := Lib.hid hu
  have HR := Lib.hid hr
  clear hu hr
  obtain ⟨r1, n, r3⟩ := r
  have hn : n < 18446744073709551616 := hlt
  clear hlt
  by_cases hc : (n : Int) ≤ max most 0
  · have E : Hid (u = (n, restOf s (r1, n, r3), errOf e (r1, n, r3))) := by show _ = _; rw [← HU.out, if_pos hc]
    clear HU
    by_cases h0 : most < 0
    · obtain rfl : n = 0 := by omega
      clear hc
      go_enter Try.func78, Try.ntmps78
      go_wp2_with fail
      refine (num_any b s e w hs h).mono ?_
      rw [HR.out]
      rintro en w1 ⟨rfl, h1, g1⟩
      have H1 := Lib.hid h1
      clear h1 HR
      go_wp2_with fail
      go_ret
      rw [E.out]
      exact ⟨rfl, H1.out, g1⟩
    · have h0' : 0 ≤ most := by omega
      have hc' : (n : Int) ≤ most := by omega
      have hc2 : ¬ most < (n : Int) := by omega
      clear hc
      go_enter Try.func78, Try.ntmps78
      go_wp2_with fail
      refine (num_any b s e w hs h).mono ?_
      rw [HR.out]
      rintro en w1 ⟨rfl, h1, g1⟩
      have H1 := Lib.hid h1
      clear h1 HR
      go_wp2_with fail
      go_ret
      rw [E.out]
      exact ⟨rfl, H1.out, g1⟩
  · have E : Hid (u = (0, ⟨#[]⟩, first (errOf e (r1, n, r3)) 3)) := by show _ = _; rw [← HU.out, if_neg hc]
    clear HU
    have hc2 : most < (n : Int) := by omega
    have hc3 : 0 < (n : Int) := by omega
    clear hc
    by_cases h0 : most < 0
    · go_enter Try.func78, Try.ntmps78
      go_wp2_with fail
      refine (num_any b s e w hs h).mono ?_
      rw [HR.out]
      rintro en w1 ⟨rfl, h1, g1⟩
      have H1 := Lib.hid h1
      clear h1 HR
      go_wp2_with fail
      refine (fail_any _ _ _ _ _ H1.out).mono ?_
      rintro en w2 ⟨rfl, h2, g2⟩
      have H2 := Lib.hid h2
      clear h2
      go_wp2_with fail
      go_ret
      rw [E.out]
      exact ⟨rfl, H2.out, grown_trans g1 g2⟩
    · have h0' : 0 ≤ most := by omega
      go_enter Try.func78, Try.ntmps78
      go_wp2_with fail
      refine (num_any b s e w hs h).mono ?_
      rw [HR.out]
      rintro en w1 ⟨rfl, h1, g1⟩
      have H1 := Lib.hid h1
      clear h1 HR
      go_wp2_with fail
      refine (fail_any _ _ _ _ _ H1.out).mono ?_
      rintro en w2 ⟨rfl, h2, g2⟩
      have H2 := Lib.hid h2
      clear h2
      go_wp2_with fail
      go_ret
      rw [E.out]
      exact ⟨rfl, H2.out, grown_trans g1 g2⟩

/-- What the next n bytes are, what stays, the error's number. -/
def takeN (n : Nat) (s : ByteArray) (e : Int) : ByteArray × ByteArray × Int :=
  if n ≤ s.size then (s.extract 0 n, s.extract n s.size, e) else (⟨#[]⟩, ⟨#[]⟩, first e 1)

def TakePost (b : Nat) (w : World) (r : ByteArray × ByteArray × Int) (en : Ending) (w' : World) : Prop :=
  en = .returned (.string r.1) ∧ Rd w' b r.2.1 r.2.2 ∧ w.grownBy w' (some b)

set_option maxRecDepth 100000 in
set_option maxHeartbeats 400000 in
theorem take_any (b n : Nat) (s : ByteArray) (e : Int) (w : World) (_hs : s.size ≤ maxLen) (h : Rd w b s e) (_hn : n ≤ 9223372036854775807) :
    Calls Try.prog 96 #[.pointer (some ⟨b, 0, none⟩), .int .i64 n] w fun en w' => TakePost b w (takeN n s e) en w' := by
  have c0 : w.cell? ⟨b, 0, none⟩ = some (.string s) := h.cell 0
  have f0 := h.free 0
  unfold maxLen at _hs
  have H := Lib.hid h
  clear h
  by_cases hc : n ≤ s.size
  · have E : Hid (takeN n s e = (s.extract 0 n, s.extract n s.size, e)) := if_pos hc
    go_enter Try.func96, Try.ntmps96
    go_wp2_with fail
    go_ret
    rw [E.out]
    exact ⟨rfl, H.out.left _, grown_own (grown_refl w _) 0 _⟩
  · have E : Hid (takeN n s e = (⟨#[]⟩, ⟨#[]⟩, first e 1)) := if_neg hc
    go_enter Try.func96, Try.ntmps96
    go_wp2_with fail
    refine (fail_any _ _ _ _ _ H.out).mono ?_
    rintro en w2 ⟨rfl, h2, g2⟩
    have H2 := Lib.hid h2
    clear h2
    go_wp2_with fail
    go_ret
    rw [E.out]
    exact ⟨rfl, H2.out, g2⟩

theorem rest_size (s : ByteArray) (r : Nat × Nat × Nat) : (restOf s r).size ≤ s.size := by
  unfold restOf
  split
  · rw [ByteArray.size_extract]; omega
  · exact Nat.zero_le _

theorem upto_size (most : Int) (s : ByteArray) (e : Int) : (upto most s e).2.1.size ≤ s.size := by
  unfold upto
  simp only
  split
  · exact rest_size _ _
  · exact Nat.zero_le _

theorem upto_le (most : Int) (s : ByteArray) (e : Int) (hm1 : most ≤ 9223372036854775807) : (upto most s e).1 ≤ 9223372036854775807 := by
  unfold upto
  simp only
  split
  · show (dec 0 0 s.data.toList).2.1 ≤ _
    omega
  · exact Nat.zero_le _

/-- What Str answers, leaves and tells. -/
def strN (most : Int) (s : ByteArray) (e : Int) : ByteArray × ByteArray × Int := takeN (upto most s e).1 (upto most s e).2.1 (upto most s e).2.2

set_option maxRecDepth 100000 in
set_option maxHeartbeats 400000 in
theorem str_any (b : Nat) (s : ByteArray) (e most : Int) (w : World) (hs : s.size ≤ maxLen) (h : Rd w b s e) (hm0 : -9223372036854775808 ≤ most) (hm1 : most ≤ 9223372036854775807) :
    Calls Try.prog 79 #[.pointer (some ⟨b, 0, none⟩), .int .i64 most] w fun en w' => TakePost b w (strN most s e) en w' := by
  have hz := upto_size most s e
  have hl := upto_le most s e hm1
  have HT : Hid (strN most s e = takeN (upto most s e).1 (upto most s e).2.1 (upto most s e).2.2) := rfl
  go_enter Try.func79, Try.ntmps79
  go_wp2_with fail
  refine (upto_any b s e most w hs h hm0 hm1).mono ?_
  generalize upto most s e = u at *
  obtain ⟨n, s1, e1⟩ := u
  have hl' : n ≤ 9223372036854775807 := hl
  have hz' : s1.size ≤ maxLen := by have : s1.size ≤ s.size := hz; omega
  rintro en w1 ⟨rfl, h1, g1⟩
  have H1 := Lib.hid h1
  clear h1 hz hl
  go_wp2_with fail
  refine (take_any b n s1 e1 w1 hz' H1.out hl').mono ?_
  generalize takeN n s1 e1 = t at *
  rintro en w2 ⟨rfl, h2, g2⟩
  have H2 := Lib.hid h2
  clear h2 H1
  go_wp2_with fail
  go_ret
  rw [HT.out]
  exact ⟨rfl, H2.out, grown_trans g1 g2⟩

end Go.Proofs.Ytbpcfkniflgmfaa
end

section
/- A number's bytes are read as that number. -/
namespace Go.Proofs.Ytbpcfkniflgmfaa
open Go.RowKit

theorem hi_nil (m : Nat) : (hi m).length = 0 → m = 0 := by
  intro h
  rw [hi] at h
  by_cases hm : m = 0
  · exact hm
  · rw [if_neg hm] at h; simp at h

theorem dec_hi (m : Nat) : m < 144115188075855872 → ∀ l, dec 0 0 (hi m ++ l) = dec (hi m).length m l := by
  induction m using Nat.strongRecOn with
  | ind m ih =>
    intro hm l
    by_cases h0 : m = 0
    · subst h0; rw [hi_zero]; rfl
    · have hh : hi m = hi (m / 128) ++ [UInt8.ofNat (128 + m % 128)] := by
        conv => lhs; rw [hi, if_neg h0]
      rw [hh, List.append_assoc, ih (m / 128) (by omega) (by omega), List.singleton_append, dec]
      have hb : (UInt8.ofNat (128 + m % 128)).toNat = 128 + m % 128 := by simp; omega
      rw [hb, if_neg, if_neg (by omega)]
      · rw [List.length_append, List.length_singleton]
        congr 1
        omega
      · rintro (⟨h1, h2⟩ | h1)
        · have := hi_nil _ h1
          omega
        · omega

theorem dec_of_enc (n : Nat) (hn : n < 18446744073709551616) (t : List UInt8) : dec 0 0 (enc n ++ t) = (0, n, (enc n).length) := by
  unfold enc
  rw [List.append_assoc, dec_hi (n / 128) (by omega), List.singleton_append, dec]
  have hb : (UInt8.ofNat (n % 128)).toNat = n % 128 := by simp; omega
  rw [hb, if_neg, if_pos (by omega)]
  · rw [List.length_append, List.length_singleton]
    congr 2
    omega
  · rintro (⟨_, h2⟩ | h1) <;> omega

theorem extract_drop (a t : List UInt8) : (⟨(a ++ t).toArray⟩ : ByteArray).extract a.length (⟨(a ++ t).toArray⟩ : ByteArray).size = ⟨t.toArray⟩ := by
  apply ByteArray.ext
  apply Array.toList_inj.1
  have : (⟨(a ++ t).toArray⟩ : ByteArray).size = a.length + t.length := by show (a ++ t).toArray.size = _; simp
  rw [this]
  simp [ByteArray.data_extract]

theorem extract_head (a t : List UInt8) : (⟨(a ++ t).toArray⟩ : ByteArray).extract 0 a.length = ⟨a.toArray⟩ := by
  apply ByteArray.ext
  apply Array.toList_inj.1
  simp [ByteArray.data_extract]

theorem text_size (a : List UInt8) : (⟨a.toArray⟩ : ByteArray).size = a.length := by show a.toArray.size = _; simp

end Go.Proofs.Ytbpcfkniflgmfaa
end

section
/- What is put is taken: a number, a text at the head of what is left (no program's walk). -/
namespace Go.Proofs.Ytbpcfkniflgmfaa
open Go.RowKit

theorem upto_enc (n : Nat) (R : List UInt8) (most : Int) (h : (n : Int) ≤ max most 0) (hn : n < 18446744073709551616) : upto most ⟨(enc n ++ R).toArray⟩ 0 = (n, ⟨R.toArray⟩, 0) := by
  have e : dec 0 0 (⟨(enc n ++ R).toArray⟩ : ByteArray).data.toList = (0, n, (enc n).length) := by
    have := dec_of_enc n hn R
    simpa using this
  unfold upto
  simp only [e]
  rw [if_pos h]
  have hr : restOf ⟨(enc n ++ R).toArray⟩ (0, n, (enc n).length) = ⟨R.toArray⟩ := by
    unfold restOf
    rw [if_pos rfl]
    exact extract_drop (enc n) R
  rw [hr]
  rfl

theorem strN_enc (x R : List UInt8) (most : Int) (h : (x.length : Int) ≤ max most 0) (hn : x.length < 18446744073709551616) : strN most ⟨(enc x.length ++ (x ++ R)).toArray⟩ 0 = (⟨x.toArray⟩, ⟨R.toArray⟩, 0) := by
  unfold strN
  rw [upto_enc x.length (x ++ R) most h hn]
  unfold takeN
  rw [if_pos (by rw [text_size, List.length_append]; omega), extract_head]
  have := extract_drop x R
  rw [this]

theorem end_nil : endE ⟨([] : List UInt8).toArray⟩ 0 = 0 := rfl

end Go.Proofs.Ytbpcfkniflgmfaa
end

section
/- proc: a record's bytes: Text and Parse. -/
namespace Go.Proofs.Ytbpcfkniflgmfaa.prc
open Go Go.RowKit

/-- A record's bytes. -/
def txL (r : Rc) : List UInt8 := enc r.who ++ (enc r.seq ++ (enc r.body.size ++ r.body.data.toList))
def tx (r : Rc) : ByteArray := ⟨(txL r).toArray⟩

/-- A record that may be. -/
def Rc.Fits (r : Rc) : Prop := r.who ≤ 63 ∧ r.seq ≤ 1099511627776 ∧ r.body.size ≤ 1024

theorem txL_len (r : Rc) (h : r.Fits) : (txL r).length ≤ 1060 := by
  obtain ⟨h1, h2, h3⟩ := h
  unfold txL
  have a1 := enc_len r.who (by omega)
  have a2 := enc_len r.seq (by omega)
  have a3 := enc_len r.body.size (by omega)
  have a4 : r.body.data.toList.length = r.body.size := by simp
  simp only [List.length_append]
  omega
theorem tx_size (r : Rc) (h : r.Fits) : (tx r).size ≤ 1060 := by
  show (txL r).toArray.size ≤ _
  rw [List.size_toArray]
  exact txL_len r h

theorem enc_ne (n : Nat) : enc n ≠ [] := by unfold enc; simp
theorem tx_ne (r : Rc) : tx r ≠ ⟨#[]⟩ := by
  intro e
  have h : (txL r).toArray = #[] := congrArg ByteArray.data e
  have h2 : txL r = [] := by simpa using h
  unfold txL at h2
  exact enc_ne _ (List.append_eq_nil_iff.1 h2).1

theorem wr_made (w : World) : Wr (w.alloc (.cells #[.slice none 0 0] 105)) w.heap.size none [] :=
  ⟨_, Has.made _ _ _, World.ownsRow_nil _ 0 _ 1, rfl, by intro h; cases h⟩
theorem wr_made1 (w : World) (o : Obj) : Wr ((w.alloc o).alloc (.cells #[.slice none 0 0] 105)) (w.heap.size + 1) none [] :=
  ⟨_, Has.made1 _ _ _ _, World.ownsRow_nil _ 0 _ 1, rfl, by intro h; cases h⟩

theorem bytes_of_list {s : ByteArray} {l : List UInt8} (h : s.data.toList = l) : s = ⟨l.toArray⟩ := by
  apply ByteArray.ext
  apply Array.ext'
  simpa using h

set_option maxRecDepth 100000 in
set_option maxHeartbeats 1000000 in
theorem text_calls (r : Rc) (w : World) (hr : r.Fits) : Calls Try.prog 13 #[.agg #[.int .i64 r.who, .int .i64 r.seq, .string r.body]] w (ret1 (.string (tx r)) w) := by
  obtain ⟨who, seq, body⟩ := r
  obtain ⟨h1, h2, h3⟩ := hr
  dsimp only at h1 h2 h3 ⊢
  have hw0 : ¬ (who : Int) < 0 := by omega
  have hs0 : ¬ (seq : Int) < 0 := by omega
  have hw1 : (who : Int) ≤ 63 := by omega
  have hs1 : (seq : Int) ≤ 1099511627776 := by omega
  go_enter Try.func13, Try.ntmps13
  go_wp2_with fail
  refine (wnum_int (w.heap.size + 1) none [] (who : Int) _ (by omega) (by omega) (wr_made1 w _) (by simp)).mono ?_
  rintro en w1 ⟨rfl, r1, h1w, hr1, t1⟩
  rw [List.nil_append, Int.toNat_natCast] at h1w
  have X1 := Lib.hid (((Has.made w 48 #[.int .i64 who, .int .i64 seq, .string body]).alloc (.cells #[.slice none 0 0] 105)).turn t1 (fun e => by rcases e with e | e; (omega); (cases e)))
  have B1 : Hid (Below w.heap.size w w1) := Lib.hid (((((Below.refl _ w).alloc (Nat.le_refl _) (.cells #[.int .i64 who, .int .i64 seq, .string body] 48)).alloc (by simp) (.cells #[.slice none 0 0] 105))).trans (t1.below (by simp; omega) (fun j hj h => by rcases h with h | h; (omega); (cases h))))
  have hz1 : w.heap.size + 2 ≤ w1.heap.size := by have := t1.size; simpa using this
  have H1 := Lib.hid h1w
  have R1 : Hid (∀ k, some k = r1 → w.heap.size + 2 ≤ k) := Lib.hid (fun k hk => by
    rcases hr1 with e | ⟨k', e, h⟩
    · rw [e] at hk; cases hk
    · rw [e] at hk; injection hk with hk; subst hk; simpa using h)
  have c1 : w1.cell? ⟨w.heap.size, 1, none⟩ = some (.int .i64 seq) := X1.out.cell 1
  clear h1w hr1 t1
  go_wp2_with fail
  refine (wnum_int (w.heap.size + 1) r1 (enc who) (seq : Int) _ (by omega) (by omega) H1.out (by have := enc_len who (by omega); omega)).mono ?_
  rintro en w2 ⟨rfl, r2, h2w, hr2, t2⟩
  rw [Int.toNat_natCast] at h2w
  have X2 := Lib.hid (X1.out.turn t2 (fun e => by
    rcases e with e | e
    · omega
    · have := R1.out _ e; omega))
  have B2 : Hid (Below w.heap.size w w2) := Lib.hid (B1.out.trans (t2.below (by omega) (fun j hj h => by rcases h with h | h; (omega); (have := R1.out _ h; omega))))
  have hz2 : w.heap.size + 2 ≤ w2.heap.size := Nat.le_trans hz1 t2.size
  have H2 := Lib.hid h2w
  have R2 : Hid (∀ k, some k = r2 → w.heap.size + 2 ≤ k) := Lib.hid (fun k hk => by
    rcases hr2 with e | ⟨k', e, h⟩
    · exact R1.out k (hk.trans e)
    · rw [e] at hk; injection hk with hk; subst hk; omega)
  have c2 : w2.cell? ⟨w.heap.size, 2, none⟩ = some (.string body) := X2.out.cell 2
  clear h2w hr2 t2 H1 X1 B1 c1
  go_wp2_with fail
  refine (wstr_any (w.heap.size + 1) r2 (enc who ++ enc seq) body _ H2.out (by have := enc_len who (by omega); have := enc_len seq (by omega); rw [List.length_append]; omega) (by omega)).mono ?_
  rintro en w3 ⟨rfl, r3, h3w, hr3, t3⟩
  have H3 := Lib.hid h3w
  have B3 : Hid (Below w.heap.size w w3) := Lib.hid (B2.out.trans (t3.below (by omega) (fun j hj h => by rcases h with h | h; (omega); (have := R2.out _ h; omega))))
  clear h3w hr3 t3 H2 X2 B2 c2
  go_wp2_with fail
  refine (text_any _ _ _ _ H3.out).mono ?_
  rintro en w4 ⟨rfl, rfl⟩
  go_wp2_with fail
  go_ret
  refine ⟨?_, B3.out⟩
  unfold tx txL
  rfl

/-- What Parse makes of any bytes. -/
def parse1 (s : ByteArray) : Nat × Nat × ByteArray × Int :=
  ((upto 63 s 0).1, (upto 1099511627776 (upto 63 s 0).2.1 (upto 63 s 0).2.2).1, (strN 1024 (upto 1099511627776 (upto 63 s 0).2.1 (upto 63 s 0).2.2).2.1 (upto 1099511627776 (upto 63 s 0).2.1 (upto 63 s 0).2.2).2.2).1,
    endE (strN 1024 (upto 1099511627776 (upto 63 s 0).2.1 (upto 63 s 0).2.2).2.1 (upto 1099511627776 (upto 63 s 0).2.1 (upto 63 s 0).2.2).2.2).2.1 (strN 1024 (upto 1099511627776 (upto 63 s 0).2.1 (upto 63 s 0).2.2).2.1 (upto 1099511627776 (upto 63 s 0).2.1 (upto 63 s 0).2.2).2.2).2.2)

theorem parse_tx (r : Rc) (h : r.Fits) : parse1 (tx r) = (r.who, r.seq, r.body, 0) := by
  obtain ⟨h1, h2, h3⟩ := h
  have e1 : upto 63 (tx r) 0 = (r.who, ⟨(enc r.seq ++ (enc r.body.size ++ r.body.data.toList)).toArray⟩, 0) := upto_enc r.who _ 63 (by omega) (by omega)
  have e2 : upto 1099511627776 ⟨(enc r.seq ++ (enc r.body.size ++ r.body.data.toList)).toArray⟩ 0 = (r.seq, ⟨(enc r.body.size ++ r.body.data.toList).toArray⟩, 0) := upto_enc r.seq _ 1099511627776 (by omega) (by omega)
  have hl : r.body.data.toList.length = r.body.size := by simp
  have e3 : strN 1024 ⟨(enc r.body.size ++ r.body.data.toList).toArray⟩ 0 = (⟨r.body.data.toList.toArray⟩, ⟨([] : List UInt8).toArray⟩, 0) := by
    have := strN_enc r.body.data.toList [] 1024 (by rw [hl]; omega) (by rw [hl]; omega)
    rw [List.append_nil, hl] at this
    exact this
  unfold parse1
  simp only [e1, e2, e3]
  rfl

theorem tx_inj {r s : Rc} (hr : r.Fits) (hs : s.Fits) (h : tx r = tx s) : r = s := by
  have e := parse_tx r hr
  rw [h, parse_tx s hs] at e
  simp only [Prod.mk.injEq, and_true] at e
  obtain ⟨e1, e2, e3⟩ := e
  cases r; cases s
  simp only at e1 e2 e3
  rw [e1, e2, e3]

theorem upto_err (most : Int) (e : Int) (he : e ≠ 0) : upto most ⟨#[]⟩ e = (0, ⟨#[]⟩, e) := by
  have h : dec 0 0 ([] : List UInt8) = (1, 0, 0) := rfl
  unfold upto
  show (if ((dec 0 0 ([] : List UInt8)).2.1 : Int) ≤ max most 0 then _ else _) = _
  rw [h]
  have e1 : errOf e (1, 0, 0) = e := by unfold errOf; rw [if_neg (by decide), first_some he]
  have e2 : restOf ⟨#[]⟩ (1, 0, 0) = ⟨#[]⟩ := by unfold restOf; rw [if_neg (by decide)]
  split
  · rw [e1, e2]
  · rw [e1, first_some he]

theorem parse_none : ∃ e : Int, parse1 ⟨#[]⟩ = (0, 0, ⟨#[]⟩, e) ∧ e ≠ 0 := by
  have e1 : upto 63 ⟨#[]⟩ 0 = (0, ⟨#[]⟩, 1) := by
    have h : dec 0 0 ([] : List UInt8) = (1, 0, 0) := rfl
    unfold upto
    show (if ((dec 0 0 ([] : List UInt8)).2.1 : Int) ≤ max 63 0 then _ else _) = _
    rw [h]
    rfl
  have e3 : strN 1024 ⟨#[]⟩ 1 = (⟨#[]⟩, ⟨#[]⟩, 1) := by
    unfold strN
    rw [upto_err 1024 1 (by decide)]
    rfl
  refine ⟨1, ?_, by decide⟩
  unfold parse1
  simp only [e1, upto_err 1099511627776 1 (by decide), e3]
  rfl

def ParsePost (s : ByteArray) (w : World) (en : Ending) (w' : World) : Prop :=
  ∃ who seq body e, parse1 s = (who, seq, body, e) ∧ Below w.heap.size w w' ∧
    ((e = 0 ∧ en = .returned (.tuple #[.agg #[.int .i64 (who : Nat), .int .i64 (seq : Nat), .string body], .int .i64 0])) ∨ (e ≠ 0 ∧ en = .returned (.tuple #[.agg #[.int .i64 0, .int .i64 0, .string ⟨#[]⟩], .int .i64 e])))

theorem res_rec {fn : Func} {t u : Tmp} (h : fn.results = #[.cell t 48, .tmp u]) (tmps : Array Value) (w : World) (g : Nat) (a b : Int) (s : ByteArray) (v : Value) (hx : tmps.getD t undef = .pointer (some ⟨g, 0, none⟩)) (hv : tmps.getD u undef = v)
    (hE : Has w g 48 #[.int .i64 a, .int .i64 b, .string s]) :
    (results fn tmps).run Try.prog w = .ok (.tuple #[.agg #[.int .i64 a, .int .i64 b, .string s], v]) w := by
  have c0 : w.cell? ⟨g, 0, none⟩ = some (.int .i64 a) := hE.cell 0
  have c1 : w.cell? ⟨g, 1, none⟩ = some (.int .i64 b) := hE.cell 1
  have c2 : w.cell? ⟨g, 2, none⟩ = some (.string s) := hE.cell 2
  subst hv
  rw [Array.getD_eq_getD_getElem?] at hx
  simp [results, h, hx, go_sem, c0, c1, c2]

set_option maxRecDepth 100000 in
set_option maxHeartbeats 2000000 in
theorem parse_calls (s : ByteArray) (w : World) (hs : s.size ≤ maxLen) : Calls Try.prog 42 #[.string s] w (ParsePost s w) := by
  obtain ⟨p, hp⟩ : ∃ p, p = parse1 s := ⟨_, rfl⟩
  have z1 := upto_size 63 s 0
  have z2 := upto_size 1099511627776 (upto 63 s 0).2.1 (upto 63 s 0).2.2
  have HP := Lib.hid hp
  unfold parse1 at hp
  obtain ⟨a, ha⟩ : ∃ a, a = upto 63 s 0 := ⟨_, rfl⟩
  rw [← ha] at hp z1 z2
  obtain ⟨b, hb⟩ : ∃ b, b = upto 1099511627776 a.2.1 a.2.2 := ⟨_, rfl⟩
  rw [← hb] at hp z2
  obtain ⟨c, hc⟩ : ∃ c, c = strN 1024 b.2.1 b.2.2 := ⟨_, rfl⟩
  rw [← hc] at hp
  obtain ⟨n1, s1, e1⟩ := a
  obtain ⟨n2, s2, e2⟩ := b
  obtain ⟨t3, s3, e3⟩ := c
  dsimp only at hp z1 z2 hb hc
  obtain ⟨e4, he4⟩ : ∃ e4, e4 = endE s3 e3 := ⟨_, rfl⟩
  rw [← he4] at hp
  have HA := Lib.hid ha
  have HB := Lib.hid hb
  have HC := Lib.hid hc
  have HE4 := Lib.hid he4
  have HPP := Lib.hid hp
  have hs1 : Hid (s1.size ≤ maxLen) := Lib.hid (Nat.le_trans z1 hs)
  have hs2 : Hid (s2.size ≤ maxLen) := Lib.hid (Nat.le_trans z2 hs1.out)
  have HS := Lib.hid hs
  clear hp z1 z2 ha hb hc he4 hs
  go_enter Try.func42, Try.ntmps42
  go_wp2_with fail
  refine (read_any s _).mono ?_
  have hz : (w.alloc (.cells #[.int .i64 0, .int .i64 0, .string ⟨#[]⟩] 48)).heap.size = w.heap.size + 1 := by simp
  rw [hz]
  rintro en w1 ⟨rfl, h1, b1⟩
  have H1 := Lib.hid h1
  have G1 : Hid (Has w1 w.heap.size 48 #[.int .i64 0, .int .i64 0, .string ⟨#[]⟩]) := Lib.hid ((Has.made w 48 _).below b1 (by omega))
  have B1 : Hid (Below w.heap.size w w1) := Lib.hid (((Below.refl _ w).alloc (Nat.le_refl _) _).trans (b1.mono (by omega)))
  clear h1 b1 hz
  obtain ⟨g, hg⟩ : ∃ g, g = w.heap.size := ⟨_, rfl⟩
  rw [← hg] at H1 G1 B1 ⊢
  have HG := Lib.hid hg
  clear hg
  go_wp2_with fail
  refine (upto_any (g + 1) s 0 63 w1 HS.out H1.out (by omega) (by omega)).mono ?_
  rw [← HA.out]
  rintro en w2 ⟨rfl, h2, g2⟩
  dsimp only at h2 ⊢
  have H2 := Lib.hid h2
  have G2 := Lib.hid (G1.out.grown g2 (by intro e; injection e with e; omega))
  have B2 : Hid (Below g w w2) := Lib.hid (Below.grown B1.out g2 (by have := B1.out.size; have := HG.out; omega) (fun k e => by injection e with e; omega))
  clear h2 g2 G1 B1 H1
  go_wp2_with fail
  refine calls_name (fun W3 hW3 => ?_)
  obtain ⟨q, hq⟩ : ∃ q, q = w2.heap.size := ⟨_, rfl⟩
  have hgq : g + 1 < q := by have := H2.out.lt; omega
  have Q3 : Hid (Has W3 q 48 #[.int .i64 n1, .int .i64 0, .string ⟨#[]⟩]) := by rw [← hW3, hq]; exact Lib.hid (Has.made _ _ _)
  have H3 : Hid (Rd W3 (g + 1) s1 e1) := by rw [← hW3]; exact Lib.hid (H2.out.alloc _)
  have G3 : Hid (Has W3 g 48 #[.int .i64 0, .int .i64 0, .string ⟨#[]⟩]) := by rw [← hW3]; exact Lib.hid (G2.out.alloc _)
  have B3 : Hid (Below g w W3) := by rw [← hW3]; exact Lib.hid (B2.out.alloc (by omega) _)
  rw [← hq]
  clear hW3 hq H2 G2 B2
  refine (upto_any (g + 1) s1 e1 1099511627776 W3 hs1.out H3.out (by omega) (by omega)).mono ?_
  rw [← HB.out]
  rintro en w4 ⟨rfl, h4, g4⟩
  dsimp only at h4 ⊢
  have H4 := Lib.hid h4
  have G4 := Lib.hid (G3.out.grown g4 (by intro e; injection e with e; omega))
  have Q4 := Lib.hid (Q3.out.grown g4 (by intro e; injection e with e; omega))
  have B4 : Hid (Below g w w4) := Lib.hid (Below.grown B3.out g4 (by have := Q3.out.lt; omega) (fun k e => by injection e with e; omega))
  have q1 : w4.cell? ⟨q, 1, none⟩ = some (.int .i64 0) := Q4.out.cell 1
  have z1 : w4.frozen? ⟨q, 1, none⟩ = false := Q4.out.free 1
  clear h4 g4 G3 B3 H3 Q3
  go_wp2_with fail
  refine calls_name (fun W5 hW5 => ?_)
  have Q5 : Hid (Has W5 q 48 #[.int .i64 n1, .int .i64 n2, .string ⟨#[]⟩]) := by
    rw [← hW5]
    have := Q4.out.put 1 (.int .i64 n2)
    exact Lib.hid (by simpa using this)
  have H5 : Hid (Rd W5 (g + 1) s2 e2) := by rw [← hW5]; exact Lib.hid (H4.out.far (by show g + 1 ≠ q; omega) _)
  have G5 : Hid (Has W5 g 48 #[.int .i64 0, .int .i64 0, .string ⟨#[]⟩]) := by rw [← hW5]; exact Lib.hid (G4.out.far (by show g ≠ q; omega) _)
  have B5 : Hid (Below g w W5) := by rw [← hW5]; exact Lib.hid (B4.out.setCell (by show g ≤ q; omega) _)
  clear hW5 q1 z1 Q4 H4 G4 B4
  refine (str_any (g + 1) s2 e2 1024 W5 hs2.out H5.out (by omega) (by omega)).mono ?_
  rw [← HC.out]
  rintro en w6 ⟨rfl, h6, g6⟩
  dsimp only at h6 ⊢
  have H6 := Lib.hid h6
  have G6 := Lib.hid (G5.out.grown g6 (by intro e; injection e with e; omega))
  have Q6 := Lib.hid (Q5.out.grown g6 (by intro e; injection e with e; omega))
  have B6 : Hid (Below g w w6) := Lib.hid (Below.grown B5.out g6 (by have := Q5.out.lt; omega) (fun k e => by injection e with e; omega))
  have q2 : w6.cell? ⟨q, 2, none⟩ = some (.string ⟨#[]⟩) := Q6.out.cell 2
  have z2 : w6.frozen? ⟨q, 2, none⟩ = false := Q6.out.free 2
  clear h6 g6 G5 B5 H5 Q5
  go_wp2_with fail
  refine calls_name (fun W7 hW7 => ?_)
  have Q7 : Hid (Has W7 q 48 #[.int .i64 n1, .int .i64 n2, .string t3]) := by
    rw [← hW7]
    have := Q6.out.put 2 (.string t3)
    exact Lib.hid (by simpa using this)
  have H7 : Hid (Rd W7 (g + 1) s3 e3) := by rw [← hW7]; exact Lib.hid (H6.out.far (by show g + 1 ≠ q; omega) _)
  have G7 : Hid (Has W7 g 48 #[.int .i64 0, .int .i64 0, .string ⟨#[]⟩]) := by rw [← hW7]; exact Lib.hid (G6.out.far (by show g ≠ q; omega) _)
  have B7 : Hid (Below g w W7) := by rw [← hW7]; exact Lib.hid (B6.out.setCell (by show g ≤ q; omega) _)
  clear hW7 q2 z2 Q6 H6 G6 B6
  refine (end_any (g + 1) s3 e3 W7 H7.out).mono ?_
  rw [← HE4.out]
  rintro en w8 ⟨rfl, h8, g8⟩
  have G8 := Lib.hid (G7.out.grown g8 (by intro e; injection e with e; omega))
  have Q8 := Lib.hid (Q7.out.grown g8 (by intro e; injection e with e; omega))
  have B8 : Hid (Below g w w8) := Lib.hid (Below.grown B7.out g8 (by have := Q7.out.lt; omega) (fun k e => by injection e with e; omega))
  have q0 : w8.cell? ⟨q, 0, none⟩ = some (.int .i64 n1) := Q8.out.cell 0
  have q1 : w8.cell? ⟨q, 1, none⟩ = some (.int .i64 n2) := Q8.out.cell 1
  have q2 : w8.cell? ⟨q, 2, none⟩ = some (.string t3) := Q8.out.cell 2
  have y0 : w8.cell? ⟨g, 0, none⟩ = some (.int .i64 0) := G8.out.cell 0
  have y1 : w8.cell? ⟨g, 1, none⟩ = some (.int .i64 0) := G8.out.cell 1
  have y2 : w8.cell? ⟨g, 2, none⟩ = some (.string ⟨#[]⟩) := G8.out.cell 2
  have z0 : w8.frozen? ⟨g, 0, none⟩ = false := G8.out.free 0
  have z1 : w8.frozen? ⟨g, 1, none⟩ = false := G8.out.free 1
  have z2 : w8.frozen? ⟨g, 2, none⟩ = false := G8.out.free 2
  clear h8 g8 G7 B7 H7 Q7
  by_cases hz : e4 = 0
  · have HZ := Lib.hid hz
    go_wp2_with fail
    have E9 := ((G8.out.put 0 (.int .i64 n1)).put 1 (.int .i64 n2)).put 2 (.string t3)
    have E10 : Has (((w8.setCell ⟨g, 0, none⟩ (.int .i64 n1)).setCell ⟨g, 1, none⟩ (.int .i64 n2)).setCell ⟨g, 2, none⟩ (.string t3)) g 48 #[.int .i64 n1, .int .i64 n2, .string t3] := by simpa using E9
    refine bodyPost_ret (res_rec rfl _ _ g n1 n2 t3 (.int .i64 0) rfl rfl E10) rfl ⟨n1, n2, t3, e4, by rw [← HP.out, HPP.out], ?_, .inl ⟨HZ.out, rfl⟩⟩
    rw [← HG.out]
    exact ((B8.out.setCell (Nat.le_refl _) _).setCell (Nat.le_refl _) _).setCell (Nat.le_refl _) _
  · have HZ := Lib.hid hz
    go_wp2_with fail
    have E9 := ((G8.out.put 0 (.int .i64 0)).put 1 (.int .i64 0)).put 2 (.string ⟨#[]⟩)
    have E10 : Has (((w8.setCell ⟨g, 0, none⟩ (.int .i64 0)).setCell ⟨g, 1, none⟩ (.int .i64 0)).setCell ⟨g, 2, none⟩ (.string ⟨#[]⟩)) g 48 #[.int .i64 0, .int .i64 0, .string ⟨#[]⟩] := by simpa using E9
    refine bodyPost_ret (res_rec rfl _ _ g 0 0 ⟨#[]⟩ (.int .i64 e4) rfl rfl E10) rfl ⟨n1, n2, t3, e4, by rw [← HP.out, HPP.out], ?_, .inr ⟨HZ.out, rfl⟩⟩
    rw [← HG.out]
    exact ((B8.out.setCell (Nat.le_refl _) _).setCell (Nat.le_refl _) _).setCell (Nat.le_refl _) _
end Go.Proofs.Ytbpcfkniflgmfaa.prc
end

section
/- proc: Begin, Head, see, decided, choose. -/
namespace Go.Proofs.Ytbpcfkniflgmfaa.prc
open Go Go.RowKit

section
variable {w : World} {b : Nat} {x : Px}

set_option maxRecDepth 100000 in
theorem busy_begin (h : Pr w b x) (hn : x.next ≠ 0) (s : ByteArray) : Calls Try.prog 36 #[.pointer (some ⟨b, 0, none⟩), .string s] w fun en w' => en = .returned (.int .i64 20) ∧ w = w' := by
  have H := Lib.hid h
  have e : (x.next == 0) = false := beq_eq_false_iff_ne.2 hn
  have E := Lib.hid e
  clear h hn e
  go_enter Try.func36, Try.ntmps36
  go_wp2_with (first
    | (go_at_call 14; refine (idle_calls H.out).mono ?_; rw [E.out]; rintro en w1 ⟨rfl, rfl⟩)
    | fail)
  go_ret
  exact ⟨rfl, rfl⟩

set_option maxRecDepth 100000 in
theorem busy_head (h : Pr w b x) (hn : x.next ≠ 0) : Calls Try.prog 40 #[.pointer (some ⟨b, 0, none⟩)] w fun en w' => en = .returned (.int .i64 20) ∧ w = w' := by
  have H := Lib.hid h
  have e : (x.next == 0) = false := beq_eq_false_iff_ne.2 hn
  have E := Lib.hid e
  clear h hn e
  go_enter Try.func40, Try.ntmps40
  go_wp2_with (first
    | (go_at_call 14; refine (idle_calls H.out).mono ?_; rw [E.out]; rintro en w1 ⟨rfl, rfl⟩)
    | fail)
  go_ret
  exact ⟨rfl, rfl⟩

set_option maxRecDepth 100000 in
theorem big_begin (h : Pr w b x) (hn : x.next = 0) (s : ByteArray) (hs : 1024 < s.size) (_hm : s.size ≤ maxLen) : Calls Try.prog 36 #[.pointer (some ⟨b, 0, none⟩), .string s] w fun en w' => en = .returned (.int .i64 3) ∧ w = w' := by
  have H := Lib.hid h
  have e : (x.next == 0) = true := by rw [hn]; rfl
  have E := Lib.hid e
  have hs1 : (1024 : Int) < (s.size : Int) := by omega
  unfold maxLen at _hm
  clear h hn e
  go_enter Try.func36, Try.ntmps36
  go_wp2_with (first
    | (go_at_call 14; refine (idle_calls H.out).mono ?_; rw [E.out]; rintro en w1 ⟨rfl, rfl⟩)
    | fail)
  go_ret
  exact ⟨rfl, rfl⟩

def headX (x : Px) : Px := toHeadX x
def HeadPost (b : Nat) (x : Px) (w : World) (en : Ending) (w' : World) : Prop :=
  en = .returned (.int .i64 0) ∧ Pr w' b (headX x) ∧ Turn (fun j => j = b) w w'

set_option maxRecDepth 100000 in
theorem head_calls (h : Pr w b x) (hn : x.next = 0) : Calls Try.prog 40 #[.pointer (some ⟨b, 0, none⟩)] w (HeadPost b x w) := by
  have H := Lib.hid h
  have e : (x.next == 0) = true := by rw [hn]; rfl
  have E := Lib.hid e
  clear h hn e
  go_enter Try.func40, Try.ntmps40
  go_wp2_with (first
    | (go_at_call 14; refine (idle_calls H.out).mono ?_; rw [E.out]; rintro en w1 ⟨rfl, rfl⟩)
    | (go_at_call 59; refine (toHead_calls H.out).mono ?_; rintro en w2 ⟨rfl, h2, t2⟩; have H2 := Lib.hid (And.intro h2 t2); clear h2 t2)
    | fail)
  go_ret
  exact ⟨rfl, H2.out⟩

def beginX (x : Px) (i n : Nat) (s : ByteArray) : Px := { x with seq := (n + 1 : Nat), own := tx ⟨i, n + 1, s⟩, next := 1 }
def BeginPost (b : Nat) (x : Px) (i n : Nat) (s : ByteArray) (w : World) (en : Ending) (w' : World) : Prop :=
  en = .returned (.int .i64 0) ∧ Pr w' b (beginX x i n s) ∧ Turn (fun j => j = b) w w'

set_option maxRecDepth 100000 in
set_option maxHeartbeats 1000000 in
theorem begin_calls (h : Pr w b x) (hn : x.next = 0) (i n : Nat) (hi : x.who = i) (hq : x.seq = n) (s : ByteArray) (hf : (⟨i, n + 1, s⟩ : Rc).Fits) : Calls Try.prog 36 #[.pointer (some ⟨b, 0, none⟩), .string s] w (BeginPost b x i n s w) := by
  have H := Lib.hid h
  have e : (x.next == 0) = true := by rw [hn]; rfl
  have E := Lib.hid e
  have hs1 : ¬ (1024 : Int) < (s.size : Int) := by have : s.size ≤ 1024 := hf.2.2; omega
  have hq1 : (n : Int) ≤ 1099511627776 := by have : n + 1 ≤ 1099511627776 := hf.2.1; omega
  have hq0 : (0 : Int) ≤ (n : Int) := by omega
  have c3 : w.cell? ⟨b, 3, none⟩ = some (.int .i64 n) := by rw [← hq]; exact h.c3
  have f3 := h.free 3
  have HF := Lib.hid hf
  have HI := Lib.hid hi
  have P3 : Hid (Pr (w.setCell ⟨b, 3, none⟩ (.int .i64 ((n : Int) + 1))) b { x with seq := (n : Int) + 1 }) := Lib.hid (h.putSeq _)
  have T3 : Hid (Turn (fun j => j = b) w (w.setCell ⟨b, 3, none⟩ (.int .i64 ((n : Int) + 1)))) := Lib.hid ((Turn.refl (fun j => j = b) w).put (fun _ => rfl) 3 _)
  clear h hn e hf hi hq
  go_enter Try.func36, Try.ntmps36
  go_wp2_with (first
    | (go_at_call 14; refine (idle_calls H.out).mono ?_; rw [E.out]; rintro en w1 ⟨rfl, rfl⟩)
    | fail)
  go_name_world W hW
  rw [hW] at P3 T3
  have d2 : W.cell? ⟨b, 2, none⟩ = some (.int .i64 i) := by have := P3.out.c2; rw [this]; show some (Value.int .i64 x.who) = _; rw [HI.out]
  have d3 : W.cell? ⟨b, 3, none⟩ = some (.int .i64 ((n : Int) + 1)) := P3.out.c3
  clear hW c3 f3 H
  have hn1 : ((n + 1 : Nat) : Int) = (n : Int) + 1 := by omega
  have ht := Lib.hid (text_calls ⟨i, n + 1, s⟩ W.drew HF.out)
  rw [hn1] at ht
  go_region_law (refine step_call rfl 13 Try.f13 Try.func13 (by kernel_rfl) (by kernel_rfl) _ _ rfl #[.agg #[.int .i64 i, .int .i64 ((n : Int) + 1), .string s]] (by first | (simp [Act.eval]; done) | (simp [Act.eval, Act.put]; done)) (by exact ht.out) ?_
                 rintro en w2 ⟨rfl, b2⟩
                 have P4 := Lib.hid (P3.out.below (below_of_drew b2))
                 have T4 : Hid (Turn (fun j => j = b) w w2) := Lib.hid (T3.out.trans (Turn.of_below (below_of_drew b2) (F := fun j => W.heap.size ≤ j) (fun _ _ h => h)) (fun j h1 h2 => absurd h2 (by have := T3.out.size; omega)))
                 have c70 := P4.out.c70
                 have f70 := P4.out.free 70
                 clear b2 d2 d3
                 refine ⟨_, rfl, ?_⟩)
  all_goals
    have P5 := Lib.hid (P4.out.putOwn (tx ⟨i, n + 1, s⟩))
    have T5 := Lib.hid (T4.out.put (b := b) (fun _ => rfl) 70 (.string (tx ⟨i, n + 1, s⟩)))
    have c4 := P5.out.c4
    have f4 := P5.out.free 4
    go_wp2_with fail
    go_ret
    refine ⟨rfl, ?_, T5.out.put (fun _ => rfl) 4 _⟩
    unfold beginX
    rw [hn1]
    exact P5.out.putNext 1

theorem parse_some (r : Rc) (w : World) (hr : r.Fits) : Calls Try.prog 42 #[.string (tx r)] w fun en w' => en = .returned (.tuple #[.agg #[.int .i64 r.who, .int .i64 r.seq, .string r.body], .int .i64 0]) ∧ Below w.heap.size w w' := by
  refine (parse_calls (tx r) w (by have := tx_size r hr; unfold maxLen; omega)).mono ?_
  rintro en w' ⟨who, seq, body, e, h1, h2, h3⟩
  rw [parse_tx r hr] at h1
  simp only [Prod.mk.injEq] at h1
  obtain ⟨rfl, rfl, rfl, rfl⟩ := h1
  rcases h3 with ⟨_, h3⟩ | ⟨h3, _⟩
  · exact ⟨h3, h2⟩
  · exact absurd rfl h3

theorem parse_empty (w : World) : Calls Try.prog 42 #[.string ⟨#[]⟩] w fun en w' => (∃ e : Int, e ≠ 0 ∧ en = .returned (.tuple #[.agg #[.int .i64 0, .int .i64 0, .string ⟨#[]⟩], .int .i64 e])) ∧ Below w.heap.size w w' := by
  refine (parse_calls ⟨#[]⟩ w (Nat.zero_le _)).mono ?_
  rintro en w' ⟨who, seq, body, e, h1, h2, h3⟩
  obtain ⟨e0, h4, h5⟩ := parse_none
  rw [h4] at h1
  simp only [Prod.mk.injEq] at h1
  obtain ⟨rfl, rfl, rfl, rfl⟩ := h1
  rcases h3 with ⟨h3, _⟩ | ⟨h3, h6⟩
  · exact absurd h3 h5
  · exact ⟨⟨_, h3, h6⟩, h2⟩

theorem quiet_turn {w w1 : World} (b1 : Below w.heap.size w w1) (b : Nat) : Turn (fun j => j = b) w w1 :=
  Turn.of_below b1 (F := fun j => j = b) (fun j h1 h2 => absurd h2 (by omega))

/-- It has seen one slot more. -/
def seeX (x : Px) (r : Rc) : Px := { x with last := fun k => if k = r.who then (if x.last k < r.seq then (r.seq : Int) else x.last k) else x.last k, seen := x.seen + 1 }
def SeePost (b : Nat) (x : Px) (r : Rc) (w : World) (en : Ending) (w' : World) : Prop := en = .returned (.tuple #[]) ∧ Pr w' b (seeX x r) ∧ Turn (fun j => j = b) w w'

set_option maxRecDepth 100000 in
set_option maxHeartbeats 2000000 in
theorem see_calls (h : Pr w b x) (r : Rc) (hr : r.Fits) (h1 : 0 ≤ x.seen) (h2 : x.seen ≤ 1000) : Calls Try.prog 58 #[.pointer (some ⟨b, 0, none⟩), .string (tx r)] w (SeePost b x r w) := by
  have H := Lib.hid h
  have hb : b < w.heap.size := Has.lt h
  have HR := Lib.hid hr
  obtain ⟨t, ht⟩ : ∃ t, t = tx r := ⟨_, rfl⟩
  have HP := Lib.hid (parse_some r w hr)
  rw [← ht] at HP ⊢
  obtain ⟨i, n, s⟩ := r
  have hi1 : (i : Int) < 64 := by have : i ≤ 63 := hr.1; omega
  have hi0 : (0 : Int) ≤ (i : Int) := by omega
  have hi2 : i < 64 := by omega
  obtain ⟨m, hm⟩ : ∃ m : Int, (if x.last i < (n : Int) then (n : Int) else x.last i) = m := ⟨_, rfl⟩
  have HM := Lib.hid hm
  obtain ⟨la, hla⟩ : ∃ la, la = x.last i := ⟨_, rfl⟩
  rw [← hla] at hm
  have HLA := Lib.hid hla
  obtain ⟨sn, hsn⟩ : ∃ sn, sn = x.seen := ⟨_, rfl⟩
  rw [← hsn] at h1 h2
  have HSN := Lib.hid hsn
  clear h ht hla hsn hr
  dsimp only at HP
  go_enter Try.func58, Try.ntmps58
  go_wp2_with (first
    | (go_at_call 42; refine HP.out.mono ?_; rintro en w1 ⟨rfl, b1⟩
       have B1 := Lib.hid b1
       clear b1)
    | fail)
  go_name_world W hW
  have P1 : Hid (Pr W b x) := by rw [← hW]; exact Lib.hid ((H.out.below B1.out).alloc _)
  have R1 : Hid (Has W w1.heap.size 48 #[.int .i64 i, .int .i64 n, .string s]) := by rw [← hW]; exact Lib.hid (Has.made _ _ _)
  have T1 : Hid (Turn (fun j => j = b) w W) := by rw [← hW]; exact Lib.hid ((quiet_turn B1.out b).alloc _)
  have hne : w1.heap.size ≠ b := by have := B1.out.size; omega
  clear hW B1 H HP
  generalize w1.heap.size = q at *
  have r0 : W.cell? ⟨q, 0, none⟩ = some (.int .i64 i) := R1.out.cell 0
  have r1 : W.cell? ⟨q, 1, none⟩ = some (.int .i64 n) := R1.out.cell 1
  have cl : W.cell? ⟨b, 6 + i, none⟩ = some (.int .i64 la) := by rw [HLA.out]; exact P1.out.cl hi2
  have fl : W.frozen? ⟨b, 6 + i, none⟩ = false := P1.out.free _
  go_region
  all_goals
    have P2 := Lib.hid ((P1.out.putLast hi2 m).drew)
    have T2 := Lib.hid ((T1.out.put (b := b) (fun _ => rfl) (6 + i) (.int .i64 m)).drew)
    have c5 : ((W.setCell ⟨b, 6 + i, none⟩ (.int .i64 m)).drew).cell? ⟨b, 5, none⟩ = some (.int .i64 sn) := by rw [HSN.out]; exact P2.out.c5
    have f5 := P2.out.free 5
    have hE : Hid (({ ({ x with last := fun j => if j = i then m else x.last j } : Px) with seen := sn + 1 } : Px) = seeX x ⟨i, n, s⟩) := by
      refine Lib.hid ?_
      have hf : (fun j => if j = i then m else x.last j) = fun k => if k = i then (if x.last k < (n : Int) then (n : Int) else x.last k) else x.last k := by
        funext k
        by_cases e : k = i
        · subst e
          rw [if_pos rfl, if_pos rfl, HM.out]
        · rw [if_neg e, if_neg e]
      unfold seeX
      rw [HSN.out, hf]
    generalize (W.setCell ⟨b, 6 + i, none⟩ (.int .i64 m)).drew = W2 at *
    clear hm r0 r1 cl fl
    go_wp2_with fail
    go_end0
    exact ⟨rfl, by rw [← hE.out]; exact P2.out.putSeen (sn + 1), T2.out.put (fun _ => rfl) 5 _⟩

/-- The slot is decided: it is done, or goes on. -/
def decX (x : Px) (r : Rc) : Px := if tx r = x.own then (seeX x r).idle else toSlotX (seeX x r)
def decD (x : Px) (r : Rc) : Bool := decide (tx r = x.own) || decide (x.slots ≤ x.seen + 1)
def decF (x : Px) (r : Rc) : Bool := !decide (tx r = x.own) && decide (x.slots ≤ x.seen + 1)
def decS (x : Px) (r : Rc) : Int := if tx r = x.own then x.seen else 0
def DecPost (b : Nat) (x : Px) (r : Rc) (w : World) (en : Ending) (w' : World) : Prop := EndPost b (decX x r) (decD x r) (decF x r) (decS x r) w en w'

theorem bytes_list {s t : ByteArray} (h : s.toList = t.toList) : s = t := by
  rw [ByteArray.toList_eq, ByteArray.toList_eq] at h
  cases s; cases t
  simp at h
  rw [h]
theorem bytes_ne {s t : ByteArray} (h : s ≠ t) : (s.toList == t.toList) = false := beq_eq_false_iff_ne.2 fun e => h (bytes_list e)

set_option maxRecDepth 100000 in
set_option maxHeartbeats 2000000 in
theorem decided_calls (h : Pr w b x) (r : Rc) (hr : r.Fits) (h1 : 0 ≤ x.seen) (h2 : x.seen ≤ 1000) : Calls Try.prog 53 #[.pointer (some ⟨b, 0, none⟩), .string (tx r)] w (DecPost b x r w) := by
  have H := Lib.hid h
  have hb : b < w.heap.size := Has.lt h
  have HR := Lib.hid hr
  obtain ⟨t, ht⟩ : ∃ t, t = tx r := ⟨_, rfl⟩
  have HSEE := Lib.hid (see_calls (h.alloc (.cells #[.bool false, .bool false, .int .i64 0] 42)) r hr h1 h2)
  rw [← ht] at HSEE ⊢
  have HT := Lib.hid ht
  obtain ⟨own, hown⟩ : ∃ own, own = x.own := ⟨_, rfl⟩
  have HOWN := Lib.hid hown
  obtain ⟨sn, hsn⟩ : ∃ sn, sn = x.seen := ⟨_, rfl⟩
  rw [← hsn] at h1 h2
  have HSN := Lib.hid hsn
  clear h ht hown hsn hr
  by_cases he : t = own
  · have hee : (t.toList == own.toList) = true := by rw [he]; exact beq_self_eq_true _
    have hq : Hid (decX x r = (seeX x r).idle ∧ decD x r = true ∧ decF x r = false ∧ decS x r = sn) := by
      have e : tx r = x.own := by rw [← HT.out, he, HOWN.out]
      refine Lib.hid ⟨if_pos e, by unfold decD; rw [decide_eq_true e]; rfl, by unfold decF; rw [decide_eq_true e]; rfl, ?_⟩
      unfold decS
      rw [if_pos e, HSN.out]
    replace he := Lib.hid he
    go_enter Try.func53, Try.ntmps53
    go_wp2_with (first
      | (go_at_call 58; refine HSEE.out.mono ?_; rintro en w1 ⟨rfl, h1', t1⟩
         have P1 := Lib.hid h1'
         have E1 := Lib.hid ((Has.made w 42 _).turn t1 (fun e => by omega))
         have T1 : Hid (Turn (fun j => j = b) w w1) := Lib.hid (((Turn.refl (fun j => j = b) w).alloc _).trans t1 (fun _ _ e => e))
         have c70 : w1.cell? ⟨b, 70, none⟩ = some (.string own) := by rw [HOWN.out]; exact h1'.c70
         have c5 : w1.cell? ⟨b, 5, none⟩ = some (.int .i64 (sn + 1)) := by rw [HSN.out]; exact h1'.c5
         clear h1' t1)
      | (go_at_call 57; refine (done_calls P1.out false false sn).mono ?_; rintro en w2 ⟨rfl, h2', t2⟩
         have P2 := Lib.hid h2'
         have E2 := Lib.hid (E1.out.turn t2 (fun e => by omega))
         have T2 : Hid (Turn (fun j => j = b) w w2) := Lib.hid (T1.out.trans t2 (fun _ _ e => e))
         obtain ⟨k0, k1, k2, z0, z1, z2⟩ := endAt E2.out
         clear h2' t2)
      | fail)
    obtain ⟨hE, hP, hT⟩ := end_fin (d := true) (f := false) (s := sn) E2.out (Nat.le_refl _) hb P2.out T2.out
    refine bodyPost_ret (res_end rfl _ _ w.heap.size true false sn rfl hE) rfl ⟨?_, by rw [hq.out.1]; exact hP, hT⟩
    rw [hq.out.2.1, hq.out.2.2.1, hq.out.2.2.2]
  · have hee : (t.toList == own.toList) = false := bytes_ne he
    have hq : Hid (decX x r = toSlotX (seeX x r) ∧ decD x r = decide ((seeX x r).slots ≤ (seeX x r).seen) ∧ decF x r = decide ((seeX x r).slots ≤ (seeX x r).seen) ∧ decS x r = 0) := by
      have e : ¬ tx r = x.own := by rw [← HT.out, ← HOWN.out]; exact he
      refine Lib.hid ⟨if_neg e, by unfold decD; rw [decide_eq_false e]; rfl, by unfold decF; rw [decide_eq_false e]; rfl, if_neg e⟩
    replace he := Lib.hid he
    obtain ⟨dd, hdd⟩ : ∃ dd, dd = decide ((seeX x r).slots ≤ (seeX x r).seen) := ⟨_, rfl⟩
    rw [← hdd] at hq
    have HDD := Lib.hid hdd
    clear hdd
    go_enter Try.func53, Try.ntmps53
    go_wp2_with (first
      | (go_at_call 58; refine HSEE.out.mono ?_; rintro en w1 ⟨rfl, h1', t1⟩
         have P1 := Lib.hid h1'
         have E1 := Lib.hid ((Has.made w 42 _).turn t1 (fun e => by omega))
         have T1 : Hid (Turn (fun j => j = b) w w1) := Lib.hid (((Turn.refl (fun j => j = b) w).alloc _).trans t1 (fun _ _ e => e))
         have c70 : w1.cell? ⟨b, 70, none⟩ = some (.string own) := by rw [HOWN.out]; exact h1'.c70
         clear h1' t1)
      | (go_at_call 50; refine (toSlot_calls P1.out).mono ?_; unfold ToSlotPost; rw [← HDD.out]; rintro en w2 ⟨rfl, h2', t2⟩
         have P2 := Lib.hid h2'
         have E2 := Lib.hid (E1.out.turn t2 (fun e => by omega))
         have T2 : Hid (Turn (fun j => j = b) w w2) := Lib.hid (T1.out.trans t2 (fun _ _ e => e))
         obtain ⟨k0, k1, k2, z0, z1, z2⟩ := endAt E2.out
         clear h2' t2)
      | fail)
    obtain ⟨hE, hP, hT⟩ := end_fin (d := dd) (f := dd) (s := 0) E2.out (Nat.le_refl _) hb P2.out T2.out
    refine bodyPost_ret (res_end rfl _ _ w.heap.size dd dd 0 rfl hE) rfl ⟨?_, by rw [hq.out.1]; exact hP, hT⟩
    rw [hq.out.2.1, hq.out.2.2.1, hq.out.2.2.2]

/-- What it offers: a wish that isn't decided yet, else its own record. -/
def chooseX (x : Px) : Option Rc → ByteArray
  | some r => if x.last r.who < (r.seq : Int) then tx r else x.own
  | none => x.own
def txo : Option Rc → ByteArray
  | none => ⟨#[]⟩
  | some r => tx r
def ChoosePost (x : Px) (o : Option Rc) (w : World) (en : Ending) (w' : World) : Prop := en = .returned (.string (chooseX x o)) ∧ Below w.heap.size w w'

theorem below_drewN {B : Nat} {w w' : World} (h : Below B w w') (n : Nat) : Below B w (w'.drewN n) := ⟨h.os, h.tape, h.output, h.size, h.block⟩

set_option maxRecDepth 100000 in
set_option maxHeartbeats 2000000 in
theorem choose_none (h : Pr w b x) : Calls Try.prog 54 #[.pointer (some ⟨b, 0, none⟩), .string ⟨#[]⟩] w (ChoosePost x none w) := by
  have H := Lib.hid h
  have hb := Has.lt h
  clear h
  go_enter Try.func54, Try.ntmps54
  go_wp2_with (first
    | (go_at_call 42; refine (parse_empty _).mono ?_; rintro en w1 ⟨⟨e, he, rfl⟩, b1⟩
       have he' : (e == 0) = false := beq_eq_false_iff_ne.2 he
       have HB := Lib.hid b1
       have c70 := (H.out.below b1).c70
       have hb1 : b < w1.heap.size := Nat.lt_of_lt_of_le hb b1.size
       clear b1)
    | fail)
  go_quiet (fail)
  rename_i nq
  go_wp2_with fail
  go_ret
  exact ⟨rfl, below_drewN (HB.out.alloc HB.out.size _) nq⟩

set_option maxRecDepth 100000 in
set_option maxHeartbeats 2000000 in
theorem choose_some (h : Pr w b x) (r : Rc) (hr : r.Fits) : Calls Try.prog 54 #[.pointer (some ⟨b, 0, none⟩), .string (tx r)] w (ChoosePost x (some r) w) := by
  have H := Lib.hid h
  have hb : b < w.heap.size := Has.lt h
  obtain ⟨t, ht⟩ : ∃ t, t = tx r := ⟨_, rfl⟩
  have HP := Lib.hid (parse_some r w hr)
  rw [← ht] at HP ⊢
  have HT := Lib.hid ht
  obtain ⟨i, n, s⟩ := r
  have hi1 : (i : Int) < 64 := by have : i ≤ 63 := hr.1; omega
  have hi0 : (0 : Int) ≤ (i : Int) := by omega
  have hi2 : i < 64 := by omega
  obtain ⟨la, hla⟩ : ∃ la, la = x.last i := ⟨_, rfl⟩
  have HLA := Lib.hid hla
  clear h ht hla hr
  dsimp only at HP
  by_cases hc : la < (n : Int)
  case' pos =>
    have hE : Hid (chooseX x (some ⟨i, n, s⟩) = t) := Lib.hid (by rw [HT.out]; show (if x.last i < (n : Int) then _ else _) = _; rw [← HLA.out, if_pos hc])
    have hcb : decide (la < (n : Int)) = true := decide_eq_true hc
  case' neg =>
    have hE : Hid (chooseX x (some ⟨i, n, s⟩) = x.own) := Lib.hid (by show (if x.last i < (n : Int) then _ else _) = _; rw [← HLA.out, if_neg hc])
    have hcb : decide (la < (n : Int)) = false := decide_eq_false hc
  all_goals
    go_enter Try.func54, Try.ntmps54
    go_wp2_with (first
      | (go_at_call 42; refine HP.out.mono ?_; rintro en w1 ⟨rfl, b1⟩
         have HB := Lib.hid b1
         have c70 := (H.out.below b1).c70
         have hb1 : b < w1.heap.size := Nat.lt_of_lt_of_le hb b1.size
         have cl : w1.cell? ⟨b, 6 + i, none⟩ = some (.int .i64 la) := by rw [HLA.out]; exact (H.out.below b1).cl hi2
         clear b1)
      | fail)
    go_quiet (fail)
    rename_i nq
    go_wp2_with fail
    go_ret
    exact ⟨by rw [hE.out]; rfl, below_drewN (HB.out.alloc HB.out.size _) nq⟩

theorem choose_calls (h : Pr w b x) (o : Option Rc) (ho : ∀ r, o = some r → r.Fits) : Calls Try.prog 54 #[.pointer (some ⟨b, 0, none⟩), .string (txo o)] w (ChoosePost x o w) := by
  cases o with
  | none => exact choose_none h
  | some r => exact choose_some h r (ho r rfl)

end
end Go.Proofs.Ytbpcfkniflgmfaa.prc
end

section
/- Lists that are made of pieces of one length. Of no program. -/
namespace Go.Proofs.Ytbpcfkniflgmfaa

/-- The pieces of k places, from a on. -/
def flat {α : Type} (g : Nat → List α) (a k : Nat) : List α := (List.range' a k).flatMap g

section
variable {α : Type} {g h : Nat → List α} {a k w : Nat}

theorem flat_zero (g : Nat → List α) (a : Nat) : flat g a 0 = [] := rfl
theorem flat_succ (g : Nat → List α) (a k : Nat) : flat g a (k + 1) = g a ++ flat g (a + 1) k := by
  unfold flat
  rw [List.range'_succ, List.flatMap_cons]
theorem flat_snoc (g : Nat → List α) (a k : Nat) : flat g a (k + 1) = flat g a k ++ g (a + k) := by
  unfold flat
  rw [List.range'_concat, List.flatMap_append]
  simp
theorem flat_add (g : Nat → List α) (a k m : Nat) : flat g a (k + m) = flat g a k ++ flat g (a + k) m := by
  induction m with
  | zero => simp [flat_zero]
  | succ m ih => rw [← Nat.add_assoc, flat_snoc, ih, flat_snoc, List.append_assoc, Nat.add_assoc]
theorem flat_congr (e : ∀ i, a ≤ i → i < a + k → g i = h i) : flat g a k = flat h a k := by
  induction k with
  | zero => rfl
  | succ k ih => rw [flat_snoc, flat_snoc, ih (fun i h1 h2 => e i h1 (by omega)), e (a + k) (by omega) (by omega)]
theorem flat_len (e : ∀ i, a ≤ i → i < a + k → (g i).length = w) : (flat g a k).length = k * w := by
  induction k with
  | zero => simp [flat_zero]
  | succ k ih => rw [flat_snoc, List.length_append, ih (fun i h1 h2 => e i h1 (by omega)), e (a + k) (by omega) (by omega), Nat.succ_mul]
theorem flat_get (e : ∀ i, a ≤ i → i < a + k → (g i).length = w) {j r : Nat} (hj : j < k) (hr : r < w) : (flat g a k)[j * w + r]? = (g (a + j))[r]? := by
  obtain ⟨m, rfl⟩ : ∃ m, k = j + (m + 1) := ⟨k - j - 1, by omega⟩
  have h1 : (flat g a j).length = j * w := flat_len (fun i h1 h2 => e i h1 (by omega))
  rw [flat_add, List.getElem?_append_right (by omega), h1, Nat.add_sub_cancel_left, flat_succ, List.getElem?_append_left (by rw [e (a + j) (by omega) (by omega)]; exact hr)]
theorem flat_drop (e : ∀ i, a ≤ i → i < a + k → (g i).length = w) {m : Nat} (hm : m ≤ k) : (flat g a k).drop (m * w) = flat g (a + m) (k - m) := by
  obtain ⟨q, rfl⟩ : ∃ q, k = m + q := ⟨k - m, by omega⟩
  have h1 : (flat g a m).length = m * w := flat_len (fun i h1 h2 => e i h1 (by omega))
  rw [flat_add, ← h1, List.drop_left, Nat.add_sub_cancel_left]
theorem flat_take (e : ∀ i, a ≤ i → i < a + k → (g i).length = w) {m : Nat} (hm : m ≤ k) : (flat g a k).take (m * w) = flat g a m := by
  obtain ⟨q, rfl⟩ : ∃ q, k = m + q := ⟨k - m, by omega⟩
  have h1 : (flat g a m).length = m * w := flat_len (fun i h1 h2 => e i h1 (by omega))
  rw [flat_add, ← h1, List.take_left]
theorem flat_set (e : ∀ i, a ≤ i → i < a + k → (g i).length = w) {j r : Nat} (hj : j < k) (hr : r < w) (u : α) : (flat g a k).set (j * w + r) u = flat (fun i => if i = a + j then (g i).set r u else g i) a k := by
  obtain ⟨m, rfl⟩ : ∃ m, k = j + (m + 1) := ⟨k - j - 1, by omega⟩
  have h1 : (flat g a j).length = j * w := flat_len (fun i h1 h2 => e i h1 (by omega))
  have e1 : flat (fun i => if i = a + j then (g i).set r u else g i) a j = flat g a j := flat_congr (fun i h1 h2 => by rw [if_neg (by omega)])
  have e2 : flat (fun i => if i = a + j then (g i).set r u else g i) (a + j + 1) m = flat g (a + j + 1) m := flat_congr (fun i h1 h2 => by rw [if_neg (by omega)])
  have e3 := flat_add (fun i => if i = a + j then (g i).set r u else g i) a j (m + 1)
  rw [flat_succ, e1, e2, if_pos rfl] at e3
  rw [e3, flat_add g a j (m + 1), flat_succ g, List.set_append_right _ _ (by omega), h1, Nat.add_sub_cancel_left, List.set_append_left _ _ (by rw [e (a + j) (by omega) (by omega)]; exact hr)]
end
end Go.Proofs.Ytbpcfkniflgmfaa
end

