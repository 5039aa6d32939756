/- stock: what Check, Do, Inverse give. -/
import Derived.Test.YtfhpcodjmmidhaaStoN
namespace Go.Proofs.Ytfhpcodjmmidhaa.stock
open Go.RowKit Go.Maps

section
variable (k n : Int) (s : ByteArray) (w : World)
def CkPost (c : Int) (w : World) (en : Ending) (w' : World) : Prop := en = .returned (.int .i64 c) ∧ Below w.heap.size w w'
set_option maxRecDepth 100000 in
set_option maxHeartbeats 1000000 in
theorem chk1_a (h : s.toList = []) (hs : (s.size : Int) ≤ 9223372036854775807) (e : chkS 1 s n = 4) :
    Calls Try.prog 61 #[.agg #[.int .i64 1, .string s, .int .i64 n]] w (CkPost (chkS 1 s n) w) := by
  obtain rfl := nil_of h
  clear h
  have _u := Lib.hid hs
  have E := Lib.hid e
  clear e
  go_enter Try.func61, Try.ntmps61
  go_wp2_with fail
  go_ret
  rw [E.out]
  exact ⟨rfl, new_box _ _⟩

set_option maxRecDepth 100000 in
set_option maxHeartbeats 1000000 in
theorem chk1_b (h : ¬ s.toList = []) (h2 : 12 < s.size) (hs : (s.size : Int) ≤ 9223372036854775807) (e : chkS 1 s n = 4) :
    Calls Try.prog 61 #[.agg #[.int .i64 1, .string s, .int .i64 n]] w (CkPost (chkS 1 s n) w) := by
  obtain ⟨a1, a2, a3⟩ := some_of h
  have _u := Lib.hid hs
  have E := Lib.hid e
  clear e
  go_enter Try.func61, Try.ntmps61
  go_wp2_with fail
  go_ret
  rw [E.out]
  exact ⟨rfl, new_box _ _⟩

set_option maxRecDepth 100000 in
set_option maxHeartbeats 1000000 in
theorem chk1_c (h : ¬ s.toList = []) (h2 : s.size ≤ 12) (h3 : n < 1) (hs : (s.size : Int) ≤ 9223372036854775807) (e : chkS 1 s n = 4) :
    Calls Try.prog 61 #[.agg #[.int .i64 1, .string s, .int .i64 n]] w (CkPost (chkS 1 s n) w) := by
  obtain ⟨a1, a2, a3⟩ := some_of h
  have _u := Lib.hid hs
  have E := Lib.hid e
  clear e
  go_enter Try.func61, Try.ntmps61
  go_wp2_with fail
  go_ret
  rw [E.out]
  exact ⟨rfl, new_box _ _⟩

set_option maxRecDepth 100000 in
set_option maxHeartbeats 1000000 in
theorem chk1_d (h : ¬ s.toList = []) (h2 : s.size ≤ 12) (h3 : 1 ≤ n) (h4 : 1099511627776 < n) (hs : (s.size : Int) ≤ 9223372036854775807) (e : chkS 1 s n = 4) :
    Calls Try.prog 61 #[.agg #[.int .i64 1, .string s, .int .i64 n]] w (CkPost (chkS 1 s n) w) := by
  obtain ⟨a1, a2, a3⟩ := some_of h
  have _u := Lib.hid hs
  have E := Lib.hid e
  clear e
  go_enter Try.func61, Try.ntmps61
  go_wp2_with fail
  go_ret
  rw [E.out]
  exact ⟨rfl, new_box _ _⟩

set_option maxRecDepth 100000 in
set_option maxHeartbeats 1000000 in
theorem chk1_f (h : ¬ s.toList = []) (h2 : s.size ≤ 12) (h3 : 1 ≤ n) (h4 : n ≤ 1099511627776) (hs : (s.size : Int) ≤ 9223372036854775807) (e : chkS 1 s n = 0) :
    Calls Try.prog 61 #[.agg #[.int .i64 1, .string s, .int .i64 n]] w (CkPost (chkS 1 s n) w) := by
  obtain ⟨a1, a2, a3⟩ := some_of h
  have _u := Lib.hid hs
  have E := Lib.hid e
  clear e
  go_enter Try.func61, Try.ntmps61
  go_wp2_with fail
  go_ret
  rw [E.out]
  exact ⟨rfl, new_box _ _⟩

set_option maxRecDepth 100000 in
set_option maxHeartbeats 1000000 in
theorem chk2_a (h : s.toList = []) (hs : (s.size : Int) ≤ 9223372036854775807) (e : chkS 2 s n = 4) :
    Calls Try.prog 61 #[.agg #[.int .i64 2, .string s, .int .i64 n]] w (CkPost (chkS 2 s n) w) := by
  obtain rfl := nil_of h
  clear h
  have _u := Lib.hid hs
  have E := Lib.hid e
  clear e
  go_enter Try.func61, Try.ntmps61
  go_wp2_with fail
  go_ret
  rw [E.out]
  exact ⟨rfl, new_box _ _⟩

set_option maxRecDepth 100000 in
set_option maxHeartbeats 1000000 in
theorem chk2_b (h : ¬ s.toList = []) (h2 : 12 < s.size) (hs : (s.size : Int) ≤ 9223372036854775807) (e : chkS 2 s n = 4) :
    Calls Try.prog 61 #[.agg #[.int .i64 2, .string s, .int .i64 n]] w (CkPost (chkS 2 s n) w) := by
  obtain ⟨a1, a2, a3⟩ := some_of h
  have _u := Lib.hid hs
  have E := Lib.hid e
  clear e
  go_enter Try.func61, Try.ntmps61
  go_wp2_with fail
  go_ret
  rw [E.out]
  exact ⟨rfl, new_box _ _⟩

set_option maxRecDepth 100000 in
set_option maxHeartbeats 1000000 in
theorem chk2_c (h : ¬ s.toList = []) (h2 : s.size ≤ 12) (h3 : n < 1) (hs : (s.size : Int) ≤ 9223372036854775807) (e : chkS 2 s n = 4) :
    Calls Try.prog 61 #[.agg #[.int .i64 2, .string s, .int .i64 n]] w (CkPost (chkS 2 s n) w) := by
  obtain ⟨a1, a2, a3⟩ := some_of h
  have _u := Lib.hid hs
  have E := Lib.hid e
  clear e
  go_enter Try.func61, Try.ntmps61
  go_wp2_with fail
  go_ret
  rw [E.out]
  exact ⟨rfl, new_box _ _⟩

set_option maxRecDepth 100000 in
set_option maxHeartbeats 1000000 in
theorem chk2_d (h : ¬ s.toList = []) (h2 : s.size ≤ 12) (h3 : 1 ≤ n) (h4 : 1099511627776 < n) (hs : (s.size : Int) ≤ 9223372036854775807) (e : chkS 2 s n = 4) :
    Calls Try.prog 61 #[.agg #[.int .i64 2, .string s, .int .i64 n]] w (CkPost (chkS 2 s n) w) := by
  obtain ⟨a1, a2, a3⟩ := some_of h
  have _u := Lib.hid hs
  have E := Lib.hid e
  clear e
  go_enter Try.func61, Try.ntmps61
  go_wp2_with fail
  go_ret
  rw [E.out]
  exact ⟨rfl, new_box _ _⟩

set_option maxRecDepth 100000 in
set_option maxHeartbeats 1000000 in
theorem chk2_f (h : ¬ s.toList = []) (h2 : s.size ≤ 12) (h3 : 1 ≤ n) (h4 : n ≤ 1099511627776) (hs : (s.size : Int) ≤ 9223372036854775807) (e : chkS 2 s n = 0) :
    Calls Try.prog 61 #[.agg #[.int .i64 2, .string s, .int .i64 n]] w (CkPost (chkS 2 s n) w) := by
  obtain ⟨a1, a2, a3⟩ := some_of h
  have _u := Lib.hid hs
  have E := Lib.hid e
  clear e
  go_enter Try.func61, Try.ntmps61
  go_wp2_with fail
  go_ret
  rw [E.out]
  exact ⟨rfl, new_box _ _⟩

set_option maxRecDepth 100000 in
set_option maxHeartbeats 1000000 in
theorem chk0 (h1 : ¬ k = 1) (h2 : ¬ k = 2) (hs : (s.size : Int) ≤ 9223372036854775807) (e : chkS k s n = 5) :
    Calls Try.prog 61 #[.agg #[.int .i64 k, .string s, .int .i64 n]] w (CkPost (chkS k s n) w) := by
  have k1 : (k != 1) = true := by simpa using h1
  have k2 : (k != 2) = true := by simpa using h2
  clear h1 h2
  have _u := Lib.hid hs
  have E := Lib.hid e
  clear e
  go_enter Try.func61, Try.ntmps61
  go_wp2_with fail
  go_ret
  rw [E.out]
  exact ⟨rfl, new_box _ _⟩

theorem scheck_calls (hs : s.size ≤ maxLen) :
    Calls Try.prog 61 #[.agg #[.int .i64 k, .string s, .int .i64 n]] w fun en w' => en = .returned (.int .i64 (chkS k s n)) ∧ Below w.heap.size w w' := by
  have hs' : (s.size : Int) ≤ 9223372036854775807 := by unfold maxLen at hs; omega
  by_cases h1 : k = 1
  · subst h1
    by_cases a : s.toList = []
    · exact chk1_a n s w a hs' (by unfold chkS; rw [if_pos (.inl rfl), if_neg (fun e => e.1 a)])
    by_cases b : s.size ≤ 12
    · by_cases c : 1 ≤ n
      · by_cases d : n ≤ 1099511627776
        · exact chk1_f n s w a b c d hs' (by unfold chkS; rw [if_pos (.inl rfl), if_pos ⟨a, b, c, d⟩])
        · exact chk1_d n s w a b c (by omega) hs' (by unfold chkS; rw [if_pos (.inl rfl), if_neg (fun e => d e.2.2.2)])
      · exact chk1_c n s w a b (by omega) hs' (by unfold chkS; rw [if_pos (.inl rfl), if_neg (fun e => c e.2.2.1)])
    · exact chk1_b n s w a (by omega) hs' (by unfold chkS; rw [if_pos (.inl rfl), if_neg (fun e => b e.2.1)])
  by_cases h2 : k = 2
  · subst h2
    by_cases a : s.toList = []
    · exact chk2_a n s w a hs' (by unfold chkS; rw [if_pos (.inr rfl), if_neg (fun e => e.1 a)])
    by_cases b : s.size ≤ 12
    · by_cases c : 1 ≤ n
      · by_cases d : n ≤ 1099511627776
        · exact chk2_f n s w a b c d hs' (by unfold chkS; rw [if_pos (.inr rfl), if_pos ⟨a, b, c, d⟩])
        · exact chk2_d n s w a b c (by omega) hs' (by unfold chkS; rw [if_pos (.inr rfl), if_neg (fun e => d e.2.2.2)])
      · exact chk2_c n s w a b (by omega) hs' (by unfold chkS; rw [if_pos (.inr rfl), if_neg (fun e => c e.2.2.1)])
    · exact chk2_b n s w a (by omega) hs' (by unfold chkS; rw [if_pos (.inr rfl), if_neg (fun e => b e.2.1)])
  exact chk0 k n s w h1 h2 hs' (by unfold chkS; rw [if_neg (by omega)])
end

/-- The op that takes one back. -/
def invV (k n : Int) (s : ByteArray) : Value := .agg #[.int .i64 (3 - k), .string s, .int .i64 n]

set_option maxRecDepth 100000 in
set_option maxHeartbeats 1000000 in
theorem sinverse_calls (k n : Int) (s : ByteArray) (w : World) (h : k = 1 ∨ k = 2) :
    Calls Try.prog 29 #[.agg #[.int .i64 k, .string s, .int .i64 n]] w fun en w' => en = .returned (invV k n s) ∧ Below w.heap.size w w' := by
  rcases h with h1 | h1
  · subst h1
    go_enter Try.func29, Try.ntmps29
    go_wp2_with fail
    refine bodyPost_ret (v := .agg #[.int .i64 2, .string s, .int .i64 n]) (by simp [results, Try.results29, go_sem]) rfl ⟨rfl, turn_box ?_⟩
    repeat (first | exact Turn.refl _ _ | refine Turn.drew ?_ | refine Turn.alloc ?_ _ | refine Turn.put ?_ (fun h => by omega) _ _)
  · subst h1
    go_enter Try.func29, Try.ntmps29
    go_wp2_with fail
    refine bodyPost_ret (v := .agg #[.int .i64 1, .string s, .int .i64 n]) (by simp [results, Try.results29, go_sem]) rfl ⟨rfl, turn_box ?_⟩
    repeat (first | exact Turn.refl _ _ | refine Turn.drew ?_ | refine Turn.alloc ?_ _ | refine Turn.put ?_ (fun h => by omega) _ _)

section
variable {H : Type}
set_option maxRecDepth 100000 in
set_option maxHeartbeats 1000000 in
theorem sdo_calls (d m : Nat) (D : DataW H) (k n : Int) (s : ByteArray) (w : World) (h : Sk w d m D) (I : InvS D) (hs : s.size ≤ maxLen) :
    Calls Try.prog 28 #[.pointer (some ⟨d, 0, none⟩), .agg #[.int .i64 k, .string s, .int .i64 n]] w fun en w' => SPost d m w (doS D k s n) en w' := by
  have hck := fun W => scheck_calls k n s W hs
  obtain ⟨hb1, hb2⟩ := I.small s
  have hD := I.size
  have hD2 : Maps.size D < maxLen := by unfold maxLen; omega
  by_cases hc : chkS k s n = 0
  · rw [hc] at hck
    have E0 : doS D k s n = if k = 1 then adS D s n else tkS D s n := doS_of hc
    obtain ⟨hk, _, _, hn1, hn2⟩ := chkS_ok hc
    have HB := Lib.hid (And.intro (And.intro hb1 hb2) (And.intro hn1 hn2))
    have B := Lib.hid h
    clear hc h hb1 hb2 hn1 hn2
    rcases hk with rfl | rfl
    · have E := Lib.hid (E0.trans (if_pos rfl))
      clear E0
      go_enter Try.func28, Try.ntmps28
      go_wp2_with fail
      refine (hck _).mono ?_
      rintro en w1 ⟨rfl, b1⟩
      have hz := b1.size
      simp at hz
      have G1 : Hid (w.grownBy w1 (some m)) := grown_trans (grown_alloc (grown_refl w _) _) (below_any b1 _)
      have B1 : Hid (Sk w1 d m D) := (B.out.more (new_box _ _)).more b1
      have C1 : Has w1 w.heap.size 48 #[.int .i64 1, .string s, .int .i64 n] := (Has.made _ _ _).below b1 (by simp)
      have b10 : w1.cell? ⟨w.heap.size, 0, none⟩ = some (.int .i64 1) := C1.cell 0
      have b11 : w1.cell? ⟨w.heap.size, 1, none⟩ = some (.string s) := C1.cell 1
      have b12 : w1.cell? ⟨w.heap.size, 2, none⟩ = some (.int .i64 n) := C1.cell 2
      clear b1 C1 B
      go_wp2_with fail
      refine (sadd_calls d m D s n w1 B1.out hs hD2 (by have := HB.out.2.1; omega) HB.out.2.2 HB.out.1.1 HB.out.1.2).mono ?_
      rintro en w2 ⟨rfl, h2, g2⟩
      have H2 := Lib.hid h2
      have G2 := Lib.hid (grown_trans G1.out g2)
      clear h2 g2
      go_wp2_with fail
      go_ret
      rw [E.out]
      exact ⟨rfl, H2.out, G2.out⟩
    · have E := Lib.hid (E0.trans (if_neg (by decide)))
      clear E0
      go_enter Try.func28, Try.ntmps28
      go_wp2_with fail
      refine (hck _).mono ?_
      rintro en w1 ⟨rfl, b1⟩
      have hz := b1.size
      simp at hz
      have G1 : Hid (w.grownBy w1 (some m)) := grown_trans (grown_alloc (grown_refl w _) _) (below_any b1 _)
      have B1 : Hid (Sk w1 d m D) := (B.out.more (new_box _ _)).more b1
      have C1 : Has w1 w.heap.size 48 #[.int .i64 2, .string s, .int .i64 n] := (Has.made _ _ _).below b1 (by simp)
      have b10 : w1.cell? ⟨w.heap.size, 0, none⟩ = some (.int .i64 2) := C1.cell 0
      have b11 : w1.cell? ⟨w.heap.size, 1, none⟩ = some (.string s) := C1.cell 1
      have b12 : w1.cell? ⟨w.heap.size, 2, none⟩ = some (.int .i64 n) := C1.cell 2
      clear b1 C1 B
      go_wp2_with fail
      refine (stake_calls d m D s n w1 B1.out hs hD2 (by have := HB.out.2.1; omega) HB.out.2.2 HB.out.1.1 HB.out.1.2).mono ?_
      rintro en w2 ⟨rfl, h2, g2⟩
      have H2 := Lib.hid h2
      have G2 := Lib.hid (grown_trans G1.out g2)
      clear h2 g2
      go_wp2_with fail
      go_ret
      rw [E.out]
      exact ⟨rfl, H2.out, G2.out⟩
  · have E : Hid (doS D k s n = (D, chkS k s n)) := if_pos hc
    generalize hq : chkS k s n = c at *
    have hc' : (c != 0) = true := by simpa using hc
    have B := Lib.hid h
    clear hq hc h hb1 hb2
    go_enter Try.func28, Try.ntmps28
    go_wp2_with fail
    refine (hck _).mono ?_
    rintro en w1 ⟨rfl, b1⟩
    have hz := b1.size
    simp at hz
    have G1 : Hid (w.grownBy w1 (some m)) := grown_trans (grown_alloc (grown_refl w _) _) (below_any b1 _)
    have B1 : Hid (Sk w1 d m D) := (B.out.more (new_box _ _)).more b1
    clear b1 B
    go_wp2_with fail
    go_ret
    rw [E.out]
    exact ⟨rfl, B1.out, G1.out⟩
end

end Go.Proofs.Ytfhpcodjmmidhaa.stock
