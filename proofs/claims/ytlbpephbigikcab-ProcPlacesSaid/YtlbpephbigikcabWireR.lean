/- What each call of wire's Reader does: the bytes that are left and the error's number, behind it. -/
import Derived.Test.YtlbpephbigikcabBase
namespace Go.Proofs.Ytlbpephbigikcab
open Go.RowKit

/-- A reader at block b: what is left, the error's number. -/
abbrev Rd (w : World) (b : Nat) (s : ByteArray) (e : Int) : Prop := Has w b 110 #[.string s, .int .i64 e]

theorem Rd.left {w : World} {b : Nat} {s : ByteArray} {e : Int} (h : Rd w b s e) (s' : ByteArray) : Rd (w.setCell ⟨b, 0, none⟩ (.string s')) b s' e := by
  have := h.put 0 (.string s')
  simpa using this
theorem Rd.err {w : World} {b : Nat} {s : ByteArray} {e : Int} (h : Rd w b s e) (e' : Int) : Rd (w.setCell ⟨b, 1, none⟩ (.int .i64 e')) b s e' := by
  have := h.put 1 (.int .i64 e')
  simpa using this

set_option maxHeartbeats 400000 in
theorem read_any (s : ByteArray) (w : World) :
    Calls Try.prog 57 #[.string s] w fun en w' => en = .returned (.pointer (some ⟨w.heap.size, 0, none⟩)) ∧ Rd w' w.heap.size s 0 ∧ Below w.heap.size w w' := by
  go_enter Try.func57, Try.ntmps57
  go_wp2
  go_ret
  exact ⟨rfl, Has.made _ _ _, (Below.refl _ _).alloc (Nat.le_refl _) _⟩

/-- The error's number behind a Fail: the first one stays. -/
def first (e k : Int) : Int := if e = 0 then k else e
theorem first_zero (k : Int) : first 0 k = k := rfl
theorem first_some {e : Int} (h : e ≠ 0) (k : Int) : first e k = e := if_neg h

set_option maxHeartbeats 400000 in
theorem fail_any (b : Nat) (s : ByteArray) (e k : Int) (w : World) (h : Rd w b s e) :
    Calls Try.prog 67 #[.pointer (some ⟨b, 0, none⟩), .int .i64 k] w fun en w' => en = .returned (.tuple #[]) ∧ Rd w' b ⟨#[]⟩ (first e k) ∧ w.grownBy w' (some b) := by
  have c0 : w.cell? ⟨b, 0, none⟩ = some (.string s) := h.cell 0
  have c1 : w.cell? ⟨b, 1, none⟩ = some (.int .i64 e) := h.cell 1
  have f0 := h.free 0
  have f1 := h.free 1
  have H := Lib.hid h
  clear h
  by_cases he : e = 0
  · subst he
    rw [first_zero]
    go_enter Try.func67, Try.ntmps67
    go_wp2
    go_end0
    exact ⟨rfl, (H.out.err k).left ⟨#[]⟩, grown_own (grown_own (grown_refl w _) 1 _) 0 _⟩
  · have he' : (e == 0) = false := by simpa using he
    rw [first_some he]
    go_enter Try.func67, Try.ntmps67
    go_wp2
    go_end0
    exact ⟨rfl, H.out.left ⟨#[]⟩, grown_own (grown_refl w _) 0 _⟩

/-- The error's number at the end: ErrForm, if something is left. -/
def endE (s : ByteArray) (e : Int) : Int := if s.data.toList = [] then e else first e 2

set_option maxHeartbeats 400000 in
theorem end_any (b : Nat) (s : ByteArray) (e : Int) (w : World) (h : Rd w b s e) :
    Calls Try.prog 60 #[.pointer (some ⟨b, 0, none⟩)] w fun en w' => en = .returned (.int .i64 (endE s e)) ∧ Rd w' b ⟨#[]⟩ (endE s e) ∧ w.grownBy w' (some b) := by
  have c0 : w.cell? ⟨b, 0, none⟩ = some (.string s) := h.cell 0
  have c1 : w.cell? ⟨b, 1, none⟩ = some (.int .i64 e) := h.cell 1
  by_cases hs : s.data.toList = []
  · have he : endE s e = e := if_pos hs
    rw [he]
    have hs' : s = ⟨#[]⟩ := by
      cases s with | mk d => simp at hs; rw [hs]
    subst hs'
    have H := Lib.hid h
    clear h he
    go_enter Try.func60, Try.ntmps60
    go_wp2
    go_ret
    exact ⟨rfl, H.out, grown_refl w _⟩
  · have he : endE s e = first e 2 := if_neg hs
    rw [he]
    have hs1 : s.toList.isEmpty = false := by rw [ByteArray.toList_eq]; simpa using hs
    have hs2 : (!s.toList.isEmpty) = true := by rw [hs1]; rfl
    have H := Lib.hid h
    clear h he c1 hs
    go_enter Try.func60, Try.ntmps60
    go_wp2_with fail
    refine (fail_any b s e 2 w H.out).mono ?_
    rintro en w1 ⟨rfl, h1, g1⟩
    have c1 : w1.cell? ⟨b, 1, none⟩ = some (.int .i64 (first e 2)) := h1.cell 1
    have H1 := Lib.hid h1
    clear h1
    go_wp2
    go_ret
    exact ⟨rfl, H1.out, g1⟩

/-- How a number is read: the error's number (0: none), the number, how many bytes. i: how many bytes went before, n: what they make. -/
def dec (i n : Nat) : List UInt8 → Nat × Nat × Nat
  | [] => (1, 0, 0)
  | b :: t =>
    if (i = 0 ∧ b.toNat = 128) ∨ 144115188075855872 ≤ n then (2, 0, 0)
    else if b.toNat < 128 then (0, n * 128 + b.toNat % 128, i + 1)
    else dec (i + 1) (n * 128 + b.toNat % 128) t

def restOf (s : ByteArray) (r : Nat × Nat × Nat) : ByteArray := if r.1 = 0 then s.extract r.2.2 s.size else ⟨#[]⟩
def errOf (e : Int) (r : Nat × Nat × Nat) : Int := if r.1 = 0 then e else first e (r.1 : Nat)

/-- What a number's taking leaves. -/
def NumPost (b : Nat) (s : ByteArray) (e : Int) (w : World) (r : Nat × Nat × Nat) (en : Ending) (w' : World) : Prop :=
  en = .returned (.int .u64 (r.2.1 : Nat)) ∧ Rd w' b (restOf s r) (errOf e r) ∧ w.grownBy w' (some b)

theorem andnot_7 (b : UInt8) : bits .andNot .u8 (b.toNat : Int) 128 = (b.toNat : Int) % 128 := by
  have h := u8_andNot_nat b.toNat 128 b.toNat_lt (by omega)
  have e : b.toNat &&& (255 - 128) = b.toNat % 128 := Nat.and_two_pow_sub_one_eq_mod b.toNat 7
  rw [e] at h
  simpa using h

theorem or_7 (N : Nat) (b : UInt8) (h : N < 144115188075855872) : bits .or .u64 ((N : Int) * 128) ((b.toNat : Int) % 128) = (N : Int) * 128 + (b.toNat : Int) % 128 := by
  have h' := u64_or_nat (N * 128) (b.toNat % 128) (by omega) (by omega)
  have e : N * 128 ||| b.toNat % 128 = N * 128 + b.toNat % 128 := by
    have := Nat.shiftLeft_add_eq_or_of_lt (a := N) (b := b.toNat % 128) (i := 7) (by omega)
    rw [Nat.shiftLeft_eq] at this
    exact this.symm
  rw [e] at h'
  simpa using h'

theorem drop_at (s : ByteArray) (k : Nat) (h : k < s.size) : s.data.toList.drop k = s[k] :: s.data.toList.drop (k + 1) := by
  rw [List.drop_eq_getElem_cons (by simpa using h)]
  rfl

set_option maxRecDepth 100000 in
set_option maxHeartbeats 1000000 in
theorem num_any (b : Nat) (s : ByteArray) (e : Int) (w : World) (hs : s.size ≤ maxLen) (h : Rd w b s e) :
    Calls Try.prog 66 #[.pointer (some ⟨b, 0, none⟩)] w fun en w' => NumPost b s e w (dec 0 0 s.data.toList) en w' := by
  have c0 : w.cell? ⟨b, 0, none⟩ = some (.string s) := h.cell 0
  have f0 := h.free 0
  unfold maxLen at hs
  have H := Lib.hid h
  clear h
  go_enter Try.func66, Try.ntmps66
  go_wp2_with fail
  go_loop [3, 4] (fun n i => ∃ k N : Nat, k ≤ s.size ∧ i = .int .i64 k ∧ n = .int .u64 N ∧ Hid (dec 0 0 s.data.toList = dec k N (s.data.toList.drop k))) (fun _ i => s.size - (intOf i).toNat)
  case atStart => exact ⟨0, 0, Nat.zero_le _, rfl, rfl, by rfl⟩
  case round =>
    obtain ⟨k, N, hk, rfl, rfl, HD⟩ := hrel
    by_cases hlt : k < s.size
    · have hd := drop_at s k hlt
      by_cases hN : 144115188075855872 ≤ N
      · have HE : Hid (dec 0 0 s.data.toList = (2, 0, 0)) := by rw [HD.out, hd, dec, if_pos (.inr hN)]; exact rfl
        clear hd
        have hN1 : ((N : Int) / 144115188075855872 != 0) = true := by simp; omega
        have HH := Lib.hid hN
        clear hN
        have hw : (k = 0 ∧ s[k].toNat = 128) ∨ (k = 0 ∧ ¬ s[k].toNat = 128) ∨ ¬ k = 0 := by omega
        rcases hw with ⟨rfl, hb⟩ | ⟨rfl, hb⟩ | hk0
        · have hb1 : ((s[0].toNat : Int) == 128) = true := by rw [hb]; rfl
          clear hb
          go_wp2_with fail
          refine (fail_any b s e 2 w H.out).mono ?_
          rintro en w1 ⟨rfl, h1, g1⟩
          have H1 := Lib.hid h1
          clear h1
          go_wp2
          go_ret
          rw [HE.out]
          exact ⟨rfl, H1.out, g1⟩
        · have hb1 : ((s[0].toNat : Int) == 128) = false := by simp; omega
          clear hb
          go_wp2_with fail
          refine (fail_any b s e 2 w H.out).mono ?_
          rintro en w1 ⟨rfl, h1, g1⟩
          have H1 := Lib.hid h1
          clear h1
          go_wp2
          go_ret
          rw [HE.out]
          exact ⟨rfl, H1.out, g1⟩
        · have hk1 : ((k : Int) == 0) = false := by simpa using hk0
          go_wp2_with fail
          refine (fail_any b s e 2 w H.out).mono ?_
          rintro en w1 ⟨rfl, h1, g1⟩
          have H1 := Lib.hid h1
          clear h1
          go_wp2
          go_ret
          rw [HE.out]
          exact ⟨rfl, H1.out, g1⟩
      · by_cases hk0 : k = 0
        · subst hk0
          have hN1 : ((N : Int) / 144115188075855872 != 0) = false := by simp; omega
          have hx := andnot_7 s[0]
          have hy := or_7 N s[0] (by omega)
          by_cases hb2 : s[0].toNat = 128
          · have HE : Hid (dec 0 0 s.data.toList = (2, 0, 0)) := by rw [HD.out, hd, dec, if_pos (.inl ⟨rfl, hb2⟩)]; exact rfl
            have hb1 : ((s[0].toNat : Int) == 128) = true := by rw [hb2]; rfl
            clear hb2 hd hx hy
            go_wp2_with fail
            refine (fail_any b s e 2 w H.out).mono ?_
            rintro en w1 ⟨rfl, h1, g1⟩
            have H1 := Lib.hid h1
            clear h1
            go_wp2
            go_ret
            rw [HE.out]
            exact ⟨rfl, H1.out, g1⟩
          · have hb1 : ((s[0].toNat : Int) == 128) = false := by simp; omega
            by_cases hb : s[0].toNat < 128
            · have HE : Hid (dec 0 0 s.data.toList = (0, N * 128 + s[0].toNat % 128, 0 + 1)) := by rw [HD.out, hd, dec, if_neg (by omega), if_pos hb]; exact rfl
              clear hd
              go_wp2_with fail
              go_ret
              rw [HE.out]
              exact ⟨rfl, H.out.left _, grown_own (grown_refl w _) 0 _⟩
            · have HE : Hid (dec 0 0 s.data.toList = dec (0 + 1) (N * 128 + s[0].toNat % 128) (s.data.toList.drop (0 + 1))) := by rw [HD.out, hd, dec, if_neg (by omega), if_neg hb]; exact rfl
              clear hd
              go_wp2_with fail
              go_round
              case rel => exact ⟨0 + 1, N * 128 + s[0].toNat % 128, by omega, by go_num, by go_num, HE⟩
              case measure => simp [intOf]; omega
        · have hk1 : ((k : Int) == 0) = false := by simpa using hk0
          have hN1 : ((N : Int) / 144115188075855872 != 0) = false := by simp; omega
          have hx := andnot_7 s[k]
          have hy := or_7 N s[k] (by omega)
          by_cases hb : s[k].toNat < 128
          · have HE : Hid (dec 0 0 s.data.toList = (0, N * 128 + s[k].toNat % 128, k + 1)) := by rw [HD.out, hd, dec, if_neg (by omega), if_pos hb]; exact rfl
            clear hd
            go_wp2_with fail
            go_ret
            rw [HE.out]
            exact ⟨rfl, H.out.left _, grown_own (grown_refl w _) 0 _⟩
          · have HE : Hid (dec 0 0 s.data.toList = dec (k + 1) (N * 128 + s[k].toNat % 128) (s.data.toList.drop (k + 1))) := by rw [HD.out, hd, dec, if_neg (by omega), if_neg hb]; exact rfl
            clear hd
            go_wp2_with fail
            go_round
            case rel => exact ⟨k + 1, N * 128 + s[k].toNat % 128, by omega, by go_num, by go_num, HE⟩
            case measure => simp [intOf]; omega
    · have HE : Hid (dec 0 0 s.data.toList = (1, 0, 0)) := by rw [HD.out, List.drop_of_length_le (by simp; omega)]; exact rfl
      go_wp2_with fail
      refine (fail_any b s e 1 w H.out).mono ?_
      rintro en w1 ⟨rfl, h1, g1⟩
      have H1 := Lib.hid h1
      clear h1
      go_wp2
      go_ret
      rw [HE.out]
      exact ⟨rfl, H1.out, g1⟩

end Go.Proofs.Ytlbpephbigikcab
