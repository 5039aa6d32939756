/- ledger: what Check gives. -/
import Derived.Test.YtfhpcodjmmidhaaLedB
namespace Go.Proofs.Ytfhpcodjmmidhaa
open Go.RowKit

/-- The error of an op. -/
def chkL (k : Int) (s t : ByteArray) (n : Int) : Int :=
  if k = 1 ∨ k = 2 then (if ¬ s.toList = [] ∧ t.toList = [] ∧ n = 0 ∧ s.size ≤ 12 ∧ t.size ≤ 12 then 0 else 4)
  else if k = 3 then (if ¬ s.toList = t.toList ∧ 1 ≤ n ∧ n ≤ 1099511627776 ∧ s.size ≤ 12 ∧ t.size ≤ 12 then 0 else 4) else 5

theorem new_box (w : World) (o : Obj) : Below w.heap.size w (w.alloc o) :=
  (show Turn (fun k => w.heap.size ≤ k) w (w.alloc o) from Turn.alloc (Turn.refl _ _) _).below (Nat.le_refl _) (fun j hj e => by omega)

theorem nil_of {s : ByteArray} (h : s.toList = []) : s = ⟨#[]⟩ := by
  rw [ByteArray.toList_eq] at h
  exact WideShapes.bytes_inj (h.trans rfl)
theorem some_of {s : ByteArray} (h : ¬ s.toList = []) : s.toList.isEmpty = false ∧ (!s.toList.isEmpty) = true ∧ (s.toList == []) = false := by
  cases hs : s.toList with
  | nil => exact absurd hs h
  | cons a b => exact ⟨rfl, rfl, rfl⟩
theorem size_nil {s : ByteArray} (h : s.toList = []) : s.size = 0 := by
  rw [nil_of h]; rfl

section
variable (k n : Int) (s t : ByteArray) (w : World)
def CkPost (c : Int) (w : World) (en : Ending) (w' : World) : Prop := en = .returned (.int .i64 c) ∧ Below w.heap.size w w'
set_option maxRecDepth 100000 in
set_option maxHeartbeats 1000000 in
theorem chk1_a (h : s.toList = []) (hs : (s.size : Int) ≤ 9223372036854775807) (ht : (t.size : Int) ≤ 9223372036854775807) (e : chkL 1 s t n = 4) :
    Calls Try.prog 48 #[.agg #[.int .i64 1, .string s, .string t, .int .i64 n]] w (CkPost (chkL 1 s t n) w) := by
  obtain rfl := nil_of h
  clear h
  have _u := Lib.hid (And.intro hs ht)
  have E := Lib.hid e
  clear e
  go_enter Try.func48, Try.ntmps48
  go_wp2_with fail
  go_ret
  rw [E.out]
  exact ⟨rfl, new_box _ _⟩

set_option maxRecDepth 100000 in
set_option maxHeartbeats 1000000 in
theorem chk1_b (h : ¬ s.toList = []) (h2 : ¬ t.toList = []) (hs : (s.size : Int) ≤ 9223372036854775807) (ht : (t.size : Int) ≤ 9223372036854775807) (e : chkL 1 s t n = 4) :
    Calls Try.prog 48 #[.agg #[.int .i64 1, .string s, .string t, .int .i64 n]] w (CkPost (chkL 1 s t n) w) := by
  obtain ⟨a1, a2, a3⟩ := some_of h
  obtain ⟨b1, b2, b3⟩ := some_of h2
  have _u := Lib.hid (And.intro hs ht)
  have E := Lib.hid e
  clear e
  go_enter Try.func48, Try.ntmps48
  go_wp2_with fail
  go_ret
  rw [E.out]
  exact ⟨rfl, new_box _ _⟩

set_option maxRecDepth 100000 in
set_option maxHeartbeats 1000000 in
theorem chk1_c (h : ¬ s.toList = []) (h2 : t.toList = []) (h3 : ¬ n = 0) (hs : (s.size : Int) ≤ 9223372036854775807) (ht : (t.size : Int) ≤ 9223372036854775807) (e : chkL 1 s t n = 4) :
    Calls Try.prog 48 #[.agg #[.int .i64 1, .string s, .string t, .int .i64 n]] w (CkPost (chkL 1 s t n) w) := by
  obtain ⟨a1, a2, a3⟩ := some_of h
  obtain rfl := nil_of h2
  clear h2
  have h4 : (n == 0) = false := by simpa using h3
  have _u := Lib.hid (And.intro hs ht)
  have E := Lib.hid e
  clear e
  go_enter Try.func48, Try.ntmps48
  go_wp2_with fail
  go_ret
  rw [E.out]
  exact ⟨rfl, new_box _ _⟩

set_option maxRecDepth 100000 in
set_option maxHeartbeats 1000000 in
theorem chk1_d (h : ¬ s.toList = []) (h2 : t.toList = []) (h3 : n = 0) (h4 : 12 < s.size) (hs : (s.size : Int) ≤ 9223372036854775807) (ht : (t.size : Int) ≤ 9223372036854775807) (e : chkL 1 s t n = 4) :
    Calls Try.prog 48 #[.agg #[.int .i64 1, .string s, .string t, .int .i64 n]] w (CkPost (chkL 1 s t n) w) := by
  obtain ⟨a1, a2, a3⟩ := some_of h
  obtain rfl := nil_of h2
  subst h3
  clear h2
  have _u := Lib.hid (And.intro hs ht)
  have E := Lib.hid e
  clear e
  go_enter Try.func48, Try.ntmps48
  go_wp2_with fail
  go_ret
  rw [E.out]
  exact ⟨rfl, new_box _ _⟩

set_option maxRecDepth 100000 in
set_option maxHeartbeats 1000000 in
theorem chk1_f (h : ¬ s.toList = []) (h2 : t.toList = []) (h3 : n = 0) (h4 : s.size ≤ 12) (hs : (s.size : Int) ≤ 9223372036854775807) (ht : (t.size : Int) ≤ 9223372036854775807) (e : chkL 1 s t n = 0) :
    Calls Try.prog 48 #[.agg #[.int .i64 1, .string s, .string t, .int .i64 n]] w (CkPost (chkL 1 s t n) w) := by
  obtain ⟨a1, a2, a3⟩ := some_of h
  obtain rfl := nil_of h2
  subst h3
  clear h2
  have _u := Lib.hid (And.intro hs ht)
  have E := Lib.hid e
  clear e
  go_enter Try.func48, Try.ntmps48
  go_wp2_with fail
  go_ret
  rw [E.out]
  exact ⟨rfl, new_box _ _⟩

set_option maxRecDepth 100000 in
set_option maxHeartbeats 1000000 in
theorem chk2_a (h : s.toList = []) (hs : (s.size : Int) ≤ 9223372036854775807) (ht : (t.size : Int) ≤ 9223372036854775807) (e : chkL 2 s t n = 4) :
    Calls Try.prog 48 #[.agg #[.int .i64 2, .string s, .string t, .int .i64 n]] w (CkPost (chkL 2 s t n) w) := by
  obtain rfl := nil_of h
  clear h
  have _u := Lib.hid (And.intro hs ht)
  have E := Lib.hid e
  clear e
  go_enter Try.func48, Try.ntmps48
  go_wp2_with fail
  go_ret
  rw [E.out]
  exact ⟨rfl, new_box _ _⟩

set_option maxRecDepth 100000 in
set_option maxHeartbeats 1000000 in
theorem chk2_b (h : ¬ s.toList = []) (h2 : ¬ t.toList = []) (hs : (s.size : Int) ≤ 9223372036854775807) (ht : (t.size : Int) ≤ 9223372036854775807) (e : chkL 2 s t n = 4) :
    Calls Try.prog 48 #[.agg #[.int .i64 2, .string s, .string t, .int .i64 n]] w (CkPost (chkL 2 s t n) w) := by
  obtain ⟨a1, a2, a3⟩ := some_of h
  obtain ⟨b1, b2, b3⟩ := some_of h2
  have _u := Lib.hid (And.intro hs ht)
  have E := Lib.hid e
  clear e
  go_enter Try.func48, Try.ntmps48
  go_wp2_with fail
  go_ret
  rw [E.out]
  exact ⟨rfl, new_box _ _⟩

set_option maxRecDepth 100000 in
set_option maxHeartbeats 1000000 in
theorem chk2_c (h : ¬ s.toList = []) (h2 : t.toList = []) (h3 : ¬ n = 0) (hs : (s.size : Int) ≤ 9223372036854775807) (ht : (t.size : Int) ≤ 9223372036854775807) (e : chkL 2 s t n = 4) :
    Calls Try.prog 48 #[.agg #[.int .i64 2, .string s, .string t, .int .i64 n]] w (CkPost (chkL 2 s t n) w) := by
  obtain ⟨a1, a2, a3⟩ := some_of h
  obtain rfl := nil_of h2
  clear h2
  have h4 : (n == 0) = false := by simpa using h3
  have _u := Lib.hid (And.intro hs ht)
  have E := Lib.hid e
  clear e
  go_enter Try.func48, Try.ntmps48
  go_wp2_with fail
  go_ret
  rw [E.out]
  exact ⟨rfl, new_box _ _⟩

set_option maxRecDepth 100000 in
set_option maxHeartbeats 1000000 in
theorem chk2_d (h : ¬ s.toList = []) (h2 : t.toList = []) (h3 : n = 0) (h4 : 12 < s.size) (hs : (s.size : Int) ≤ 9223372036854775807) (ht : (t.size : Int) ≤ 9223372036854775807) (e : chkL 2 s t n = 4) :
    Calls Try.prog 48 #[.agg #[.int .i64 2, .string s, .string t, .int .i64 n]] w (CkPost (chkL 2 s t n) w) := by
  obtain ⟨a1, a2, a3⟩ := some_of h
  obtain rfl := nil_of h2
  subst h3
  clear h2
  have _u := Lib.hid (And.intro hs ht)
  have E := Lib.hid e
  clear e
  go_enter Try.func48, Try.ntmps48
  go_wp2_with fail
  go_ret
  rw [E.out]
  exact ⟨rfl, new_box _ _⟩

set_option maxRecDepth 100000 in
set_option maxHeartbeats 1000000 in
theorem chk2_f (h : ¬ s.toList = []) (h2 : t.toList = []) (h3 : n = 0) (h4 : s.size ≤ 12) (hs : (s.size : Int) ≤ 9223372036854775807) (ht : (t.size : Int) ≤ 9223372036854775807) (e : chkL 2 s t n = 0) :
    Calls Try.prog 48 #[.agg #[.int .i64 2, .string s, .string t, .int .i64 n]] w (CkPost (chkL 2 s t n) w) := by
  obtain ⟨a1, a2, a3⟩ := some_of h
  obtain rfl := nil_of h2
  subst h3
  clear h2
  have _u := Lib.hid (And.intro hs ht)
  have E := Lib.hid e
  clear e
  go_enter Try.func48, Try.ntmps48
  go_wp2_with fail
  go_ret
  rw [E.out]
  exact ⟨rfl, new_box _ _⟩

set_option maxRecDepth 100000 in
set_option maxHeartbeats 1000000 in
theorem chk3_a (h : s = t) (hs : (s.size : Int) ≤ 9223372036854775807) (ht : (t.size : Int) ≤ 9223372036854775807) (e : chkL 3 s t n = 4) :
    Calls Try.prog 48 #[.agg #[.int .i64 3, .string s, .string t, .int .i64 n]] w (CkPost (chkL 3 s t n) w) := by
  subst h
  have _u := Lib.hid (And.intro hs ht)
  have E := Lib.hid e
  clear e
  go_enter Try.func48, Try.ntmps48
  go_wp2_with fail
  go_ret
  rw [E.out]
  exact ⟨rfl, new_box _ _⟩

set_option maxRecDepth 100000 in
set_option maxHeartbeats 1000000 in
theorem chk3_b (h : ¬ s.toList = t.toList) (h2 : n < 1) (hs : (s.size : Int) ≤ 9223372036854775807) (ht : (t.size : Int) ≤ 9223372036854775807) (e : chkL 3 s t n = 4) :
    Calls Try.prog 48 #[.agg #[.int .i64 3, .string s, .string t, .int .i64 n]] w (CkPost (chkL 3 s t n) w) := by
  have a1 : (s.toList == t.toList) = false := by simpa using h
  have a2 : (s.toList != t.toList) = true := by simpa using h
  have _u := Lib.hid (And.intro hs ht)
  have E := Lib.hid e
  clear e
  go_enter Try.func48, Try.ntmps48
  go_wp2_with fail
  go_ret
  rw [E.out]
  exact ⟨rfl, new_box _ _⟩

set_option maxRecDepth 100000 in
set_option maxHeartbeats 1000000 in
theorem chk3_c (h : ¬ s.toList = t.toList) (h2 : 1 ≤ n) (h3 : 1099511627776 < n) (hs : (s.size : Int) ≤ 9223372036854775807) (ht : (t.size : Int) ≤ 9223372036854775807) (e : chkL 3 s t n = 4) :
    Calls Try.prog 48 #[.agg #[.int .i64 3, .string s, .string t, .int .i64 n]] w (CkPost (chkL 3 s t n) w) := by
  have a1 : (s.toList == t.toList) = false := by simpa using h
  have a2 : (s.toList != t.toList) = true := by simpa using h
  have _u := Lib.hid (And.intro hs ht)
  have E := Lib.hid e
  clear e
  go_enter Try.func48, Try.ntmps48
  go_wp2_with fail
  go_ret
  rw [E.out]
  exact ⟨rfl, new_box _ _⟩

set_option maxRecDepth 100000 in
set_option maxHeartbeats 1000000 in
theorem chk3_d (h : ¬ s.toList = t.toList) (h2 : 1 ≤ n) (h3 : n ≤ 1099511627776) (h4 : 12 < s.size) (hs : (s.size : Int) ≤ 9223372036854775807) (ht : (t.size : Int) ≤ 9223372036854775807) (e : chkL 3 s t n = 4) :
    Calls Try.prog 48 #[.agg #[.int .i64 3, .string s, .string t, .int .i64 n]] w (CkPost (chkL 3 s t n) w) := by
  have a1 : (s.toList == t.toList) = false := by simpa using h
  have a2 : (s.toList != t.toList) = true := by simpa using h
  have _u := Lib.hid (And.intro hs ht)
  have E := Lib.hid e
  clear e
  go_enter Try.func48, Try.ntmps48
  go_wp2_with fail
  go_ret
  rw [E.out]
  exact ⟨rfl, new_box _ _⟩

set_option maxRecDepth 100000 in
set_option maxHeartbeats 1000000 in
theorem chk3_e (h : ¬ s.toList = t.toList) (h2 : 1 ≤ n) (h3 : n ≤ 1099511627776) (h4 : s.size ≤ 12) (h5 : 12 < t.size) (hs : (s.size : Int) ≤ 9223372036854775807) (ht : (t.size : Int) ≤ 9223372036854775807) (e : chkL 3 s t n = 4) :
    Calls Try.prog 48 #[.agg #[.int .i64 3, .string s, .string t, .int .i64 n]] w (CkPost (chkL 3 s t n) w) := by
  have a1 : (s.toList == t.toList) = false := by simpa using h
  have a2 : (s.toList != t.toList) = true := by simpa using h
  have _u := Lib.hid (And.intro hs ht)
  have E := Lib.hid e
  clear e
  go_enter Try.func48, Try.ntmps48
  go_wp2_with fail
  go_ret
  rw [E.out]
  exact ⟨rfl, new_box _ _⟩

set_option maxRecDepth 100000 in
set_option maxHeartbeats 1000000 in
theorem chk3_f (h : ¬ s.toList = t.toList) (h2 : 1 ≤ n) (h3 : n ≤ 1099511627776) (h4 : s.size ≤ 12) (h5 : t.size ≤ 12) (hs : (s.size : Int) ≤ 9223372036854775807) (ht : (t.size : Int) ≤ 9223372036854775807) (e : chkL 3 s t n = 0) :
    Calls Try.prog 48 #[.agg #[.int .i64 3, .string s, .string t, .int .i64 n]] w (CkPost (chkL 3 s t n) w) := by
  have a1 : (s.toList == t.toList) = false := by simpa using h
  have a2 : (s.toList != t.toList) = true := by simpa using h
  have _u := Lib.hid (And.intro hs ht)
  have E := Lib.hid e
  clear e
  go_enter Try.func48, Try.ntmps48
  go_wp2_with fail
  go_ret
  rw [E.out]
  exact ⟨rfl, new_box _ _⟩

set_option maxRecDepth 100000 in
set_option maxHeartbeats 1000000 in
theorem chk0 (h1 : ¬ k = 1) (h2 : ¬ k = 2) (h3 : ¬ k = 3) (hs : (s.size : Int) ≤ 9223372036854775807) (ht : (t.size : Int) ≤ 9223372036854775807) (e : chkL k s t n = 5) :
    Calls Try.prog 48 #[.agg #[.int .i64 k, .string s, .string t, .int .i64 n]] w (CkPost (chkL k s t n) w) := by
  have k1 : (k != 1) = true := by simpa using h1
  have k2 : (k != 2) = true := by simpa using h2
  have k3 : (k != 3) = true := by simpa using h3
  clear h1 h2 h3
  have _u := Lib.hid (And.intro hs ht)
  have E := Lib.hid e
  clear e
  go_enter Try.func48, Try.ntmps48
  go_wp2_with fail
  go_ret
  rw [E.out]
  exact ⟨rfl, new_box _ _⟩

theorem lcheck_calls (hs : s.size ≤ maxLen) (ht : t.size ≤ maxLen) :
    Calls Try.prog 48 #[.agg #[.int .i64 k, .string s, .string t, .int .i64 n]] w fun en w' => en = .returned (.int .i64 (chkL k s t n)) ∧ Below w.heap.size w w' := by
  have hs' : (s.size : Int) ≤ 9223372036854775807 := by unfold maxLen at hs; omega
  have ht' : (t.size : Int) ≤ 9223372036854775807 := by unfold maxLen at ht; omega
  by_cases h1 : k = 1
  · subst h1
    by_cases a : s.toList = []
    · exact chk1_a n s t w a hs' ht' (by unfold chkL; simp [a])
    by_cases b : t.toList = []
    · by_cases c : n = 0
      · by_cases d : s.size ≤ 12
        · exact chk1_f n s t w a b c d hs' ht' (by unfold chkL; rw [if_pos (.inl rfl), if_pos ⟨a, b, c, d, by rw [size_nil b]; omega⟩])
        · exact chk1_d n s t w a b c (by omega) hs' ht' (by unfold chkL; rw [if_pos (.inl rfl), if_neg (fun e => d e.2.2.2.1)])
      · exact chk1_c n s t w a b c hs' ht' (by unfold chkL; rw [if_pos (.inl rfl), if_neg (fun e => c e.2.2.1)])
    · exact chk1_b n s t w a b hs' ht' (by unfold chkL; rw [if_pos (.inl rfl), if_neg (fun e => b e.2.1)])
  by_cases h2 : k = 2
  · subst h2
    by_cases a : s.toList = []
    · exact chk2_a n s t w a hs' ht' (by unfold chkL; simp [a])
    by_cases b : t.toList = []
    · by_cases c : n = 0
      · by_cases d : s.size ≤ 12
        · exact chk2_f n s t w a b c d hs' ht' (by unfold chkL; rw [if_pos (.inr rfl), if_pos ⟨a, b, c, d, by rw [size_nil b]; omega⟩])
        · exact chk2_d n s t w a b c (by omega) hs' ht' (by unfold chkL; rw [if_pos (.inr rfl), if_neg (fun e => d e.2.2.2.1)])
      · exact chk2_c n s t w a b c hs' ht' (by unfold chkL; rw [if_pos (.inr rfl), if_neg (fun e => c e.2.2.1)])
    · exact chk2_b n s t w a b hs' ht' (by unfold chkL; rw [if_pos (.inr rfl), if_neg (fun e => b e.2.1)])
  by_cases h3 : k = 3
  · subst h3
    by_cases a : s = t
    · exact chk3_a n s t w a hs' ht' (by unfold chkL; rw [if_neg (by decide), if_pos rfl, if_neg (fun e => e.1 (by rw [a]))])
    have a' : ¬ s.toList = t.toList := fun e => a (by rw [ByteArray.toList_eq, ByteArray.toList_eq] at e; exact WideShapes.bytes_inj e)
    by_cases b : 1 ≤ n
    · by_cases c : n ≤ 1099511627776
      · by_cases d : s.size ≤ 12
        · by_cases f : t.size ≤ 12
          · exact chk3_f n s t w a' b c d f hs' ht' (by unfold chkL; rw [if_neg (by decide), if_pos rfl, if_pos ⟨a', b, c, d, f⟩])
          · exact chk3_e n s t w a' b c d (by omega) hs' ht' (by unfold chkL; rw [if_neg (by decide), if_pos rfl, if_neg (fun e => f e.2.2.2.2)])
        · exact chk3_d n s t w a' b c (by omega) hs' ht' (by unfold chkL; rw [if_neg (by decide), if_pos rfl, if_neg (fun e => d e.2.2.2.1)])
      · exact chk3_c n s t w a' b (by omega) hs' ht' (by unfold chkL; rw [if_neg (by decide), if_pos rfl, if_neg (fun e => c e.2.2.1)])
    · exact chk3_b n s t w a' (by omega) hs' ht' (by unfold chkL; rw [if_neg (by decide), if_pos rfl, if_neg (fun e => b e.2.1)])
  · exact chk0 k n s t w h1 h2 h3 hs' ht' (by unfold chkL; rw [if_neg (by omega), if_neg h3])
end

end Go.Proofs.Ytfhpcodjmmidhaa
