/- Texts laid into one: LedC, LedD, LedE, LedF, LedG, LedI, LedJ. -/
import Derived.Test.YtndnjeahepahkaaY000
import Derived.Shelf.Lay
import Derived.Shelf.Sort.Plain
import Derived.Shelf.Slices.In.SortNone
import Derived.Sort.KeysCollected
import Derived.Sort.OwnSorted
import Derived.Maps.RangeWalk
import Derived.Maps.AppendAt
section
/- ledger: what Check gives. -/
namespace Go.Proofs.Ytndnjeahepahkaa
open Go.RowKit

/-- The error of an op. -/
def chkL (k : Int) (s t : ByteArray) (n : Int) : Int :=
  if k = 1 ∨ k = 2 then (if ¬ s.toList = [] ∧ t.toList = [] ∧ n = 0 ∧ s.size ≤ 12 ∧ t.size ≤ 12 then 0 else 4)
  else if k = 3 then (if ¬ s.toList = t.toList ∧ 1 ≤ n ∧ n ≤ 1099511627776 ∧ s.size ≤ 12 ∧ t.size ≤ 12 then 0 else 4) else 5

theorem new_box (w : World) (o : Obj) : Below w.heap.size w (w.alloc o) :=
  (show Turn (fun k => w.heap.size ≤ k) w (w.alloc o) from Turn.alloc (Turn.refl _ _) _).below (Nat.le_refl _) (fun j hj e => by omega)

theorem nil_of {s : ByteArray} (h : s.toList = []) : s = ⟨#[]⟩ := by
  rw [ByteArray.toList_eq] at h
  exact WideShapes.bytes_inj (h.trans rfl)
theorem some_of {s : ByteArray} (h : ¬ s.toList = []) : s.toList.isEmpty = false ∧ (!s.toList.isEmpty) = true ∧ (s.toList == []) = false := by
  cases hs : s.toList with
  | nil => exact absurd hs h
  | cons a b => exact ⟨rfl, rfl, rfl⟩
theorem size_nil {s : ByteArray} (h : s.toList = []) : s.size = 0 := by
  rw [nil_of h]; rfl

section
variable (k n : Int) (s t : ByteArray) (w : World)
def CkPost (c : Int) (w : World) (en : Ending) (w' : World) : Prop := en = .returned (.int .i64 c) ∧ Below w.heap.size w w'
set_option maxRecDepth 100000 in
set_option maxHeartbeats 1000000 in
theorem chk1_a (h : s.toList = []) (hs : (s.size : Int) ≤ 9223372036854775807) (ht : (t.size : Int) ≤ 9223372036854775807) (e : chkL 1 s t n = 4) :
    Calls Try.prog 31 #[.agg #[.int .i64 1, .string s, .string t, .int .i64 n]] w (CkPost (chkL 1 s t n) w) := by
  obtain rfl := nil_of h
  clear h
  have _u := Lib.hid (And.intro hs ht)
  have E := Lib.hid e
  clear e
  go_enter Try.func31, Try.ntmps31
  go_wp2_with fail
  go_ret
  rw [E.out]
  exact ⟨rfl, new_box _ _⟩

set_option maxRecDepth 100000 in
set_option maxHeartbeats 1000000 in
theorem chk1_b (h : ¬ s.toList = []) (h2 : ¬ t.toList = []) (hs : (s.size : Int) ≤ 9223372036854775807) (ht : (t.size : Int) ≤ 9223372036854775807) (e : chkL 1 s t n = 4) :
    Calls Try.prog 31 #[.agg #[.int .i64 1, .string s, .string t, .int .i64 n]] w (CkPost (chkL 1 s t n) w) := by
  obtain ⟨a1, a2, a3⟩ := some_of h
  obtain ⟨b1, b2, b3⟩ := some_of h2
  have _u := Lib.hid (And.intro hs ht)
  have E := Lib.hid e
  clear e
  go_enter Try.func31, Try.ntmps31
  go_wp2_with fail
  go_ret
  rw [E.out]
  exact ⟨rfl, new_box _ _⟩

set_option maxRecDepth 100000 in
set_option maxHeartbeats 1000000 in
theorem chk1_c (h : ¬ s.toList = []) (h2 : t.toList = []) (h3 : ¬ n = 0) (hs : (s.size : Int) ≤ 9223372036854775807) (ht : (t.size : Int) ≤ 9223372036854775807) (e : chkL 1 s t n = 4) :
    Calls Try.prog 31 #[.agg #[.int .i64 1, .string s, .string t, .int .i64 n]] w (CkPost (chkL 1 s t n) w) := by
  obtain ⟨a1, a2, a3⟩ := some_of h
  obtain rfl := nil_of h2
  clear h2
  have h4 : (n == 0) = false := by simpa using h3
  have _u := Lib.hid (And.intro hs ht)
  have E := Lib.hid e
  clear e
  go_enter Try.func31, Try.ntmps31
  go_wp2_with fail
  go_ret
  rw [E.out]
  exact ⟨rfl, new_box _ _⟩

set_option maxRecDepth 100000 in
set_option maxHeartbeats 1000000 in
theorem chk1_d (h : ¬ s.toList = []) (h2 : t.toList = []) (h3 : n = 0) (h4 : 12 < s.size) (hs : (s.size : Int) ≤ 9223372036854775807) (ht : (t.size : Int) ≤ 9223372036854775807) (e : chkL 1 s t n = 4) :
    Calls Try.prog 31 #[.agg #[.int .i64 1, .string s, .string t, .int .i64 n]] w (CkPost (chkL 1 s t n) w) := by
  obtain ⟨a1, a2, a3⟩ := some_of h
  obtain rfl := nil_of h2
  subst h3
  clear h2
  have _u := Lib.hid (And.intro hs ht)
  have E := Lib.hid e
  clear e
  go_enter Try.func31, Try.ntmps31
  go_wp2_with fail
  go_ret
  rw [E.out]
  exact ⟨rfl, new_box _ _⟩

set_option maxRecDepth 100000 in
set_option maxHeartbeats 1000000 in
theorem chk1_f (h : ¬ s.toList = []) (h2 : t.toList = []) (h3 : n = 0) (h4 : s.size ≤ 12) (hs : (s.size : Int) ≤ 9223372036854775807) (ht : (t.size : Int) ≤ 9223372036854775807) (e : chkL 1 s t n = 0) :
    Calls Try.prog 31 #[.agg #[.int .i64 1, .string s, .string t, .int .i64 n]] w (CkPost (chkL 1 s t n) w) := by
  obtain ⟨a1, a2, a3⟩ := some_of h
  obtain rfl := nil_of h2
  subst h3
  clear h2
  have _u := Lib.hid (And.intro hs ht)
  have E := Lib.hid e
  clear e
  go_enter Try.func31, Try.ntmps31
  go_wp2_with fail
  go_ret
  rw [E.out]
  exact ⟨rfl, new_box _ _⟩

set_option maxRecDepth 100000 in
set_option maxHeartbeats 1000000 in
theorem chk2_a (h : s.toList = []) (hs : (s.size : Int) ≤ 9223372036854775807) (ht : (t.size : Int) ≤ 9223372036854775807) (e : chkL 2 s t n = 4) :
    Calls Try.prog 31 #[.agg #[.int .i64 2, .string s, .string t, .int .i64 n]] w (CkPost (chkL 2 s t n) w) := by
  obtain rfl := nil_of h
  clear h
  have _u := Lib.hid (And.intro hs ht)
  have E := Lib.hid e
  clear e
  go_enter Try.func31, Try.ntmps31
  go_wp2_with fail
  go_ret
  rw [E.out]
  exact ⟨rfl, new_box _ _⟩

set_option maxRecDepth 100000 in
set_option maxHeartbeats 1000000 in
theorem chk2_b (h : ¬ s.toList = []) (h2 : ¬ t.toList = []) (hs : (s.size : Int) ≤ 9223372036854775807) (ht : (t.size : Int) ≤ 9223372036854775807) (e : chkL 2 s t n = 4) :
    Calls Try.prog 31 #[.agg #[.int .i64 2, .string s, .string t, .int .i64 n]] w (CkPost (chkL 2 s t n) w) := by
  obtain ⟨a1, a2, a3⟩ := some_of h
  obtain ⟨b1, b2, b3⟩ := some_of h2
  have _u := Lib.hid (And.intro hs ht)
  have E := Lib.hid e
  clear e
  go_enter Try.func31, Try.ntmps31
  go_wp2_with fail
  go_ret
  rw [E.out]
  exact ⟨rfl, new_box _ _⟩

set_option maxRecDepth 100000 in
set_option maxHeartbeats 1000000 in
theorem chk2_c (h : ¬ s.toList = []) (h2 : t.toList = []) (h3 : ¬ n = 0) (hs : (s.size : Int) ≤ 9223372036854775807) (ht : (t.size : Int) ≤ 9223372036854775807) (e : chkL 2 s t n = 4) :
    Calls Try.prog 31 #[.agg #[.int .i64 2, .string s, .string t, .int .i64 n]] w (CkPost (chkL 2 s t n) w) := by
  obtain ⟨a1, a2, a3⟩ := some_of h
  obtain rfl := nil_of h2
  clear h2
  have h4 : (n == 0) = false := by simpa using h3
  have _u := Lib.hid (And.intro hs ht)
  have E := Lib.hid e
  clear e
  go_enter Try.func31, Try.ntmps31
  go_wp2_with fail
  go_ret
  rw [E.out]
  exact ⟨rfl, new_box _ _⟩

set_option maxRecDepth 100000 in
set_option maxHeartbeats 1000000 in
theorem chk2_d (h : ¬ s.toList = []) (h2 : t.toList = []) (h3 : n = 0) (h4 : 12 < s.size) (hs : (s.size : Int) ≤ 9223372036854775807) (ht : (t.size : Int) ≤ 9223372036854775807) (e : chkL 2 s t n = 4) :
    Calls Try.prog 31 #[.agg #[.int .i64 2, .string s, .string t, .int .i64 n]] w (CkPost (chkL 2 s t n) w) := by
  obtain ⟨a1, a2, a3⟩ := some_of h
  obtain rfl := nil_of h2
  subst h3
  clear h2
  have _u := Lib.hid (And.intro hs ht)
  have E := Lib.hid e
  clear e
  go_enter Try.func31, Try.ntmps31
  go_wp2_with fail
  go_ret
  rw [E.out]
  exact ⟨rfl, new_box _ _⟩

set_option maxRecDepth 100000 in
set_option maxHeartbeats 1000000 in
theorem chk2_f (h : ¬ s.toList = []) (h2 : t.toList = []) (h3 : n = 0) (h4 : s.size ≤ 12) (hs : (s.size : Int) ≤ 9223372036854775807) (ht : (t.size : Int) ≤ 9223372036854775807) (e : chkL 2 s t n = 0) :
    Calls Try.prog 31 #[.agg #[.int .i64 2, .string s, .string t, .int .i64 n]] w (CkPost (chkL 2 s t n) w) := by
  obtain ⟨a1, a2, a3⟩ := some_of h
  obtain rfl := nil_of h2
  subst h3
  clear h2
  have _u := Lib.hid (And.intro hs ht)
  have E := Lib.hid e
  clear e
  go_enter Try.func31, Try.ntmps31
  go_wp2_with fail
  go_ret
  rw [E.out]
  exact ⟨rfl, new_box _ _⟩

set_option maxRecDepth 100000 in
set_option maxHeartbeats 1000000 in
theorem chk3_a (h : s = t) (hs : (s.size : Int) ≤ 9223372036854775807) (ht : (t.size : Int) ≤ 9223372036854775807) (e : chkL 3 s t n = 4) :
    Calls Try.prog 31 #[.agg #[.int .i64 3, .string s, .string t, .int .i64 n]] w (CkPost (chkL 3 s t n) w) := by
  subst h
  have _u := Lib.hid (And.intro hs ht)
  have E := Lib.hid e
  clear e
  go_enter Try.func31, Try.ntmps31
  go_wp2_with fail
  go_ret
  rw [E.out]
  exact ⟨rfl, new_box _ _⟩

set_option maxRecDepth 100000 in
set_option maxHeartbeats 1000000 in
theorem chk3_b (h : ¬ s.toList = t.toList) (h2 : n < 1) (hs : (s.size : Int) ≤ 9223372036854775807) (ht : (t.size : Int) ≤ 9223372036854775807) (e : chkL 3 s t n = 4) :
    Calls Try.prog 31 #[.agg #[.int .i64 3, .string s, .string t, .int .i64 n]] w (CkPost (chkL 3 s t n) w) := by
  have a1 : (s.toList == t.toList) = false := by simpa using h
  have a2 : (s.toList != t.toList) = true := by simpa using h
  have _u := Lib.hid (And.intro hs ht)
  have E := Lib.hid e
  clear e
  go_enter Try.func31, Try.ntmps31
  go_wp2_with fail
  go_ret
  rw [E.out]
  exact ⟨rfl, new_box _ _⟩

set_option maxRecDepth 100000 in
set_option maxHeartbeats 1000000 in
theorem chk3_c (h : ¬ s.toList = t.toList) (h2 : 1 ≤ n) (h3 : 1099511627776 < n) (hs : (s.size : Int) ≤ 9223372036854775807) (ht : (t.size : Int) ≤ 9223372036854775807) (e : chkL 3 s t n = 4) :
    Calls Try.prog 31 #[.agg #[.int .i64 3, .string s, .string t, .int .i64 n]] w (CkPost (chkL 3 s t n) w) := by
  have a1 : (s.toList == t.toList) = false := by simpa using h
  have a2 : (s.toList != t.toList) = true := by simpa using h
  have _u := Lib.hid (And.intro hs ht)
  have E := Lib.hid e
  clear e
  go_enter Try.func31, Try.ntmps31
  go_wp2_with fail
  go_ret
  rw [E.out]
  exact ⟨rfl, new_box _ _⟩

set_option maxRecDepth 100000 in
set_option maxHeartbeats 1000000 in
theorem chk3_d (h : ¬ s.toList = t.toList) (h2 : 1 ≤ n) (h3 : n ≤ 1099511627776) (h4 : 12 < s.size) (hs : (s.size : Int) ≤ 9223372036854775807) (ht : (t.size : Int) ≤ 9223372036854775807) (e : chkL 3 s t n = 4) :
    Calls Try.prog 31 #[.agg #[.int .i64 3, .string s, .string t, .int .i64 n]] w (CkPost (chkL 3 s t n) w) := by
  have a1 : (s.toList == t.toList) = false := by simpa using h
  have a2 : (s.toList != t.toList) = true := by simpa using h
  have _u := Lib.hid (And.intro hs ht)
  have E := Lib.hid e
  clear e
  go_enter Try.func31, Try.ntmps31
  go_wp2_with fail
  go_ret
  rw [E.out]
  exact ⟨rfl, new_box _ _⟩

set_option maxRecDepth 100000 in
set_option maxHeartbeats 1000000 in
theorem chk3_e (h : ¬ s.toList = t.toList) (h2 : 1 ≤ n) (h3 : n ≤ 1099511627776) (h4 : s.size ≤ 12) (h5 : 12 < t.size) (hs : (s.size : Int) ≤ 9223372036854775807) (ht : (t.size : Int) ≤ 9223372036854775807) (e : chkL 3 s t n = 4) :
    Calls Try.prog 31 #[.agg #[.int .i64 3, .string s, .string t, .int .i64 n]] w (CkPost (chkL 3 s t n) w) := by
  have a1 : (s.toList == t.toList) = false := by simpa using h
  have a2 : (s.toList != t.toList) = true := by simpa using h
  have _u := Lib.hid (And.intro hs ht)
  have E := Lib.hid e
  clear e
  go_enter Try.func31, Try.ntmps31
  go_wp2_with fail
  go_ret
  rw [E.out]
  exact ⟨rfl, new_box _ _⟩

set_option maxRecDepth 100000 in
set_option maxHeartbeats 1000000 in
theorem chk3_f (h : ¬ s.toList = t.toList) (h2 : 1 ≤ n) (h3 : n ≤ 1099511627776) (h4 : s.size ≤ 12) (h5 : t.size ≤ 12) (hs : (s.size : Int) ≤ 9223372036854775807) (ht : (t.size : Int) ≤ 9223372036854775807) (e : chkL 3 s t n = 0) :
    Calls Try.prog 31 #[.agg #[.int .i64 3, .string s, .string t, .int .i64 n]] w (CkPost (chkL 3 s t n) w) := by
  have a1 : (s.toList == t.toList) = false := by simpa using h
  have a2 : (s.toList != t.toList) = true := by simpa using h
  have _u := Lib.hid (And.intro hs ht)
  have E := Lib.hid e
  clear e
  go_enter Try.func31, Try.ntmps31
  go_wp2_with fail
  go_ret
  rw [E.out]
  exact ⟨rfl, new_box _ _⟩

set_option maxRecDepth 100000 in
set_option maxHeartbeats 1000000 in
theorem chk0 (h1 : ¬ k = 1) (h2 : ¬ k = 2) (h3 : ¬ k = 3) (hs : (s.size : Int) ≤ 9223372036854775807) (ht : (t.size : Int) ≤ 9223372036854775807) (e : chkL k s t n = 5) :
    Calls Try.prog 31 #[.agg #[.int .i64 k, .string s, .string t, .int .i64 n]] w (CkPost (chkL k s t n) w) := by
  have k1 : (k != 1) = true := by simpa using h1
  have k2 : (k != 2) = true := by simpa using h2
  have k3 : (k != 3) = true := by simpa using h3
  clear h1 h2 h3
  have _u := Lib.hid (And.intro hs ht)
  have E := Lib.hid e
  clear e
  go_enter Try.func31, Try.ntmps31
  go_wp2_with fail
  go_ret
  rw [E.out]
  exact ⟨rfl, new_box _ _⟩

theorem lcheck_calls (hs : s.size ≤ maxLen) (ht : t.size ≤ maxLen) :
    Calls Try.prog 31 #[.agg #[.int .i64 k, .string s, .string t, .int .i64 n]] w fun en w' => en = .returned (.int .i64 (chkL k s t n)) ∧ Below w.heap.size w w' := by
  have hs' : (s.size : Int) ≤ 9223372036854775807 := by unfold maxLen at hs; omega
  have ht' : (t.size : Int) ≤ 9223372036854775807 := by unfold maxLen at ht; omega
  by_cases h1 : k = 1
  · subst h1
    by_cases a : s.toList = []
    · exact chk1_a n s t w a hs' ht' (by unfold chkL; simp [a])
    by_cases b : t.toList = []
    · by_cases c : n = 0
      · by_cases d : s.size ≤ 12
        · exact chk1_f n s t w a b c d hs' ht' (by unfold chkL; rw [if_pos (.inl rfl), if_pos ⟨a, b, c, d, by rw [size_nil b]; omega⟩])
        · exact chk1_d n s t w a b c (by omega) hs' ht' (by unfold chkL; rw [if_pos (.inl rfl), if_neg (fun e => d e.2.2.2.1)])
      · exact chk1_c n s t w a b c hs' ht' (by unfold chkL; rw [if_pos (.inl rfl), if_neg (fun e => c e.2.2.1)])
    · exact chk1_b n s t w a b hs' ht' (by unfold chkL; rw [if_pos (.inl rfl), if_neg (fun e => b e.2.1)])
  by_cases h2 : k = 2
  · subst h2
    by_cases a : s.toList = []
    · exact chk2_a n s t w a hs' ht' (by unfold chkL; simp [a])
    by_cases b : t.toList = []
    · by_cases c : n = 0
      · by_cases d : s.size ≤ 12
        · exact chk2_f n s t w a b c d hs' ht' (by unfold chkL; rw [if_pos (.inr rfl), if_pos ⟨a, b, c, d, by rw [size_nil b]; omega⟩])
        · exact chk2_d n s t w a b c (by omega) hs' ht' (by unfold chkL; rw [if_pos (.inr rfl), if_neg (fun e => d e.2.2.2.1)])
      · exact chk2_c n s t w a b c hs' ht' (by unfold chkL; rw [if_pos (.inr rfl), if_neg (fun e => c e.2.2.1)])
    · exact chk2_b n s t w a b hs' ht' (by unfold chkL; rw [if_pos (.inr rfl), if_neg (fun e => b e.2.1)])
  by_cases h3 : k = 3
  · subst h3
    by_cases a : s = t
    · exact chk3_a n s t w a hs' ht' (by unfold chkL; rw [if_neg (by decide), if_pos rfl, if_neg (fun e => e.1 (by rw [a]))])
    have a' : ¬ s.toList = t.toList := fun e => a (by rw [ByteArray.toList_eq, ByteArray.toList_eq] at e; exact WideShapes.bytes_inj e)
    by_cases b : 1 ≤ n
    · by_cases c : n ≤ 1099511627776
      · by_cases d : s.size ≤ 12
        · by_cases f : t.size ≤ 12
          · exact chk3_f n s t w a' b c d f hs' ht' (by unfold chkL; rw [if_neg (by decide), if_pos rfl, if_pos ⟨a', b, c, d, f⟩])
          · exact chk3_e n s t w a' b c d (by omega) hs' ht' (by unfold chkL; rw [if_neg (by decide), if_pos rfl, if_neg (fun e => f e.2.2.2.2)])
        · exact chk3_d n s t w a' b c (by omega) hs' ht' (by unfold chkL; rw [if_neg (by decide), if_pos rfl, if_neg (fun e => d e.2.2.2.1)])
      · exact chk3_c n s t w a' b (by omega) hs' ht' (by unfold chkL; rw [if_neg (by decide), if_pos rfl, if_neg (fun e => c e.2.2.1)])
    · exact chk3_b n s t w a' (by omega) hs' ht' (by unfold chkL; rw [if_neg (by decide), if_pos rfl, if_neg (fun e => b e.2.1)])
  · exact chk0 k n s t w h1 h2 h3 hs' ht' (by unfold chkL; rw [if_neg (by omega), if_neg h3])
end

end Go.Proofs.Ytndnjeahepahkaa
end

section
/- ledger: what Do gives. -/
namespace Go.Proofs.Ytndnjeahepahkaa
open Go.RowKit Go.Maps

section
variable {H : Type}

/-- An op done: the map, the error. -/
def doL (D : DataW H) (k : Int) (s t : ByteArray) (n : Int) : DataW H × Int :=
  if ¬ chkL k s t n = 0 then (D, chkL k s t n) else if k = 1 then opn D s else if k = 2 then cls D s else mov D s t n

def DPost (d m : Nat) (w : World) (r : DataW H × Int) (en : Ending) (w' : World) : Prop :=
  en = .returned (.int .i64 r.2) ∧ Bk w' d m r.1 ∧ w.grownBy w' (some m)

theorem chk_kind {k n : Int} {s t : ByteArray} (h : chkL k s t n = 0) : k = 1 ∨ k = 2 ∨ (k = 3 ∧ 1 ≤ n ∧ n ≤ 1099511627776) := by
  unfold chkL at h
  split at h
  · omega
  · split at h
    · split at h
      · rename_i h2; exact Or.inr (Or.inr ⟨by assumption, h2.2.1, h2.2.2.1⟩)
      · omega
    · omega

theorem below_any {w w' : World} (h : Below w.heap.size w w') (r : Option Nat) : w.grownBy w' r :=
  ⟨h.os, h.tape, h.output, h.size, fun i hi _ => h.block i hi⟩

theorem Bk.more {w w' : World} {d m : Nat} {D : DataW H} (h : Bk w d m D) (hb : Below w.heap.size w w') : Bk w' d m D :=
  h.kept (below_any hb none) (by simp) (by simp)

set_option maxRecDepth 100000 in
set_option maxHeartbeats 1000000 in
theorem bdo_calls (d m : Nat) (D : DataW H) (k n : Int) (s t : ByteArray) (w : World) (h : Bk w d m D) (hs : s.size ≤ maxLen) (ht : t.size ≤ maxLen) (hD : Maps.size D + 1 < maxLen)
    (ha : -1152921504606846976 ≤ amt D s) (ha' : amt D s ≤ 1152921504606846976) (hb : -1152921504606846976 ≤ amt D t) (hb' : amt D t ≤ 1152921504606846976) :
    Calls Try.prog 74 #[.pointer (some ⟨d, 0, none⟩), .agg #[.int .i64 k, .string s, .string t, .int .i64 n]] w fun en w' => DPost d m w (doL D k s t n) en w' := by
  have hck := fun W => lcheck_calls k n s t W hs ht
  by_cases hc : chkL k s t n = 0
  · rw [hc] at hck
    have E0 : doL D k s t n = if k = 1 then opn D s else if k = 2 then cls D s else mov D s t n := by unfold doL; rw [if_neg (by simpa using hc)]
    rcases chk_kind hc with rfl | rfl | ⟨rfl, hn1, hn2⟩
    · clear hc
      have E := Lib.hid (E0.trans (if_pos rfl))
      have B := Lib.hid h
      have HB := Lib.hid (And.intro (And.intro ha ha') (And.intro hb hb'))
      clear E0 h ha ha' hb hb'
      go_enter Try.func74, Try.ntmps74
      go_wp2_with fail
      refine (hck _).mono ?_
      rintro en w1 ⟨rfl, b1⟩
      have hz := b1.size
      simp at hz
      have G1 : Hid (w.grownBy w1 (some m)) := grown_trans (grown_alloc (grown_refl w _) _) (below_any b1 _)
      have B1 : Hid (Bk w1 d m D) := (B.out.more (new_box _ _)).more b1
      have C1 : Has w1 w.heap.size 31 #[.int .i64 1, .string s, .string t, .int .i64 n] := (Has.made _ _ _).below b1 (by simp)
      have b10 : w1.cell? ⟨w.heap.size, 0, none⟩ = some (.int .i64 1) := C1.cell 0
      have b11 : w1.cell? ⟨w.heap.size, 1, none⟩ = some (.string s) := C1.cell 1
      clear b1 C1 B
      go_wp2_with fail
      refine (bopen_calls d m D s w1 B1.out hs (by omega)).mono ?_
      rintro en w2 ⟨rfl, h2, g2⟩
      have H2 := Lib.hid h2
      have G2 := Lib.hid (grown_trans G1.out g2.grown)
      clear h2 g2
      go_wp2_with fail
      go_ret
      rw [E.out]
      exact ⟨rfl, H2.out, G2.out⟩
    · clear hc
      have E := Lib.hid (E0.trans ((if_neg (by decide)).trans (if_pos rfl)))
      have B := Lib.hid h
      have HB := Lib.hid (And.intro (And.intro ha ha') (And.intro hb hb'))
      clear E0 h ha ha' hb hb'
      go_enter Try.func74, Try.ntmps74
      go_wp2_with fail
      refine (hck _).mono ?_
      rintro en w1 ⟨rfl, b1⟩
      have hz := b1.size
      simp at hz
      have G1 : Hid (w.grownBy w1 (some m)) := grown_trans (grown_alloc (grown_refl w _) _) (below_any b1 _)
      have B1 : Hid (Bk w1 d m D) := (B.out.more (new_box _ _)).more b1
      have C1 : Has w1 w.heap.size 31 #[.int .i64 2, .string s, .string t, .int .i64 n] := (Has.made _ _ _).below b1 (by simp)
      have b10 : w1.cell? ⟨w.heap.size, 0, none⟩ = some (.int .i64 2) := C1.cell 0
      have b11 : w1.cell? ⟨w.heap.size, 1, none⟩ = some (.string s) := C1.cell 1
      clear b1 C1 B
      go_wp2_with fail
      refine (bclose_calls d m D s w1 B1.out hs).mono ?_
      rintro en w2 ⟨rfl, h2, g2⟩
      have H2 := Lib.hid h2
      have G2 := Lib.hid (grown_trans G1.out g2.grown)
      clear h2 g2
      go_wp2_with fail
      go_ret
      rw [E.out]
      exact ⟨rfl, H2.out, G2.out⟩
    · clear hc
      have E := Lib.hid (E0.trans ((if_neg (by decide)).trans (if_neg (by decide))))
      have B := Lib.hid h
      have HB := Lib.hid (And.intro (And.intro ha ha') (And.intro hb hb'))
      clear E0 h ha ha' hb hb'
      go_enter Try.func74, Try.ntmps74
      go_wp2_with fail
      refine (hck _).mono ?_
      rintro en w1 ⟨rfl, b1⟩
      have hz := b1.size
      simp at hz
      have G1 : Hid (w.grownBy w1 (some m)) := grown_trans (grown_alloc (grown_refl w _) _) (below_any b1 _)
      have B1 : Hid (Bk w1 d m D) := (B.out.more (new_box _ _)).more b1
      have C1 : Has w1 w.heap.size 31 #[.int .i64 3, .string s, .string t, .int .i64 n] := (Has.made _ _ _).below b1 (by simp)
      have b10 : w1.cell? ⟨w.heap.size, 0, none⟩ = some (.int .i64 3) := C1.cell 0
      have b11 : w1.cell? ⟨w.heap.size, 1, none⟩ = some (.string s) := C1.cell 1
      have b12 : w1.cell? ⟨w.heap.size, 2, none⟩ = some (.string t) := C1.cell 2
      have b13 : w1.cell? ⟨w.heap.size, 3, none⟩ = some (.int .i64 n) := C1.cell 3
      clear b1 C1 B
      go_wp2_with fail
      refine (bmove_calls d m D s t n w1 B1.out hs ht hD (by omega) hn2 HB.out.1.1 HB.out.1.2 HB.out.2.1 HB.out.2.2).mono ?_
      rintro en w2 ⟨rfl, h2, g2⟩
      have H2 := Lib.hid h2
      have G2 := Lib.hid (grown_trans G1.out g2.grown)
      clear h2 g2
      go_wp2_with fail
      go_ret
      rw [E.out]
      exact ⟨rfl, H2.out, G2.out⟩
  · have E : Hid (doL D k s t n = (D, chkL k s t n)) := if_pos hc
    generalize hq : chkL k s t n = c at *
    have hc' : (c != 0) = true := by simpa using hc
    have B := Lib.hid h
    clear hq hc h ha ha' hb hb'
    go_enter Try.func74, Try.ntmps74
    go_wp2_with fail
    refine (hck _).mono ?_
    rintro en w1 ⟨rfl, b1⟩
    have hz := b1.size
    simp at hz
    have G1 : Hid (w.grownBy w1 (some m)) := grown_trans (grown_alloc (grown_refl w _) _) (below_any b1 _)
    have B1 : Hid (Bk w1 d m D) := (B.out.more (new_box _ _)).more b1
    clear b1 B
    go_wp2_with fail
    go_ret
    rw [E.out]
    exact ⟨rfl, B1.out, G1.out⟩

end
end Go.Proofs.Ytndnjeahepahkaa
end

section
/- ledger: what New gives. -/
namespace Go.Proofs.Ytndnjeahepahkaa
open Go.RowKit Go.Maps

section
variable {H : Type}

/-- The house alone. -/
def D0 : DataW H := (DataW.map []).put (kS ⟨#[]⟩) (nI 0)

def NewPost (H : Type) (w : World) (en : Ending) (w' : World) : Prop :=
  ∃ d m, en = .returned (.pointer (some ⟨d, 0, none⟩)) ∧ Bk (H := H) w' d m D0 ∧ Below w.heap.size w w' ∧ w.heap.size ≤ d ∧ w.heap.size ≤ m

set_option maxRecDepth 100000 in
set_option maxHeartbeats 400000 in
theorem bnew_calls (w : World) : Calls Try.prog 17 #[] w fun en w' => NewPost H w en w' := by
  have hrun0 := run_makeMap (P := Try.prog) 85 w
  obtain ⟨w1, hrun1, hown1, hturn1⟩ := (World.ownsMap_made (H := H) w Try.prog 9 (plainElem Try.prog 3)).store strKeyed Try.underlying85 (by unfold maxLen; omega) (kS_of (s := ⟨#[]⟩) (Nat.zero_le _)) (plainElem_int Try.underlying3 (a := 0) (by decide))
  have hb : Below w.heap.size w w1 := below_grown (grown_trans (grown_alloc (grown_refl w _) _) hturn1.grown) (Nat.le_refl _) (Nat.le_refl _)
  have hM : Hid (Mp w1 w.heap.size (D0 (H := H))) := ownsMap_tight hown1
  have hB := Lib.hid hb
  clear hown1 hturn1 hb
  go_enter Try.func17, Try.ntmps17
  go_wp2_with fail
  go_ret
  have hz := hB.out.size
  refine ⟨w1.heap.size, w.heap.size, rfl, ⟨Has.made _ _ _, hM.out.alloc _⟩, ?_, hz, Nat.le_refl _⟩
  exact below_grown (b := w.heap.size) (grown_alloc (grown_below hB.out _ (Nat.le_refl _)) _) (Nat.le_refl _) (Nat.le_refl _)

end
end Go.Proofs.Ytndnjeahepahkaa
end

section
/- ledger: slices.Sort of strings off the shelf; what Names gives. -/
namespace Go.Proofs
open Go.Shelf
shelf_lay Lays.n190 Nm 190 at Try as Try.lays190
end Go.Proofs
namespace Go.Proofs.Ytndnjeahepahkaa
open Go.RowKit Go.Maps Go.Sort

theorem sort_strs (blk cap : Nat) (ss : List (List UInt8)) (w : World) (hH : Holds encStr w blk 0 ss.toArray) (hblk : blk < w.heap.size) (hsz : ss.length < 4611686018427387904) :
    Calls Try.prog 80 #[.slice (some ⟨blk, 0, none⟩) ss.length cap] w fun e w' =>
      e = .returned (.tuple #[]) ∧ ∃ n os, w' = grow (putRow encStr (Sort.ahead w n) blk 0 (ss.mergeSort fun x y => decide (x ≤ y)).toArray) os := Any.slices_Sort_string Try.lays190 blk 0 cap ss w hH hblk hsz
theorem sort_none (p : Option Addr) (cap : Nat) (w : World) : Calls Try.prog 80 #[.slice p 0 cap] w fun e w' => e = .returned (.tuple #[]) ∧ w' = w := Any.slices_Sort_string_none Try.lays190 p cap w

/-- The names but the house's. -/
def nb (ss : List (List UInt8)) : List (List UInt8) := ss.filter fun x => !x.isEmpty

section
variable {H : Type}

def NamesPost (D : DataW H) (w : World) (en : Ending) (w' : World) : Prop :=
  ∃ v, en = .returned v ∧ w'.ownsRow w.heap.size 9 1 v (nb (strKeys D)).length (((nb (strKeys D)).mergeSort leB).map encStr) ∧ Below w.heap.size w w'

theorem nb_le (ss : List (List UInt8)) : (nb ss).length ≤ ss.length := List.length_filter_le _ _
theorem nb_snoc (ss : List (List UInt8)) (x : List UInt8) (h : x ≠ []) : nb (ss ++ [x]) = nb ss ++ [x] := by
  unfold nb; rw [List.filter_append]; congr 1; cases x <;> simp_all
theorem nb_house (ss : List (List UInt8)) : nb (ss ++ [[]]) = nb ss := by
  unfold nb; rw [List.filter_append]; simp

set_option maxRecDepth 100000 in
set_option maxHeartbeats 1000000 in
theorem bnames_calls (d m : Nat) (D : DataW H) (w : World) (h : Bk w d m D) (hmax : Maps.size D ≤ 1000) :
    Calls Try.prog 79 #[.pointer (some ⟨d, 0, none⟩)] w fun en w' => NamesPost D w en w' := by
  obtain ⟨i0, hi, hz0, hz1, hz2⟩ := info_parts (P := Try.prog) (e := 9) (z := .string ⟨#[]⟩) (size := 1) (bytes := 16) (by kernel_rfl)
  have c0 : w.cell? ⟨d, 0, none⟩ = some (.map (some m)) := h.box.cell 0
  have hown : w.ownsMap Try.prog 9 (plainElem Try.prog 3) m (Maps.size D) D := h.map
  have hbl := hown.lt
  clear h
  go_enter Try.func79, Try.ntmps79
  go_wp2_with (first
    | (at_range; refine wpList_range_own _ rfl _ 85 rfl 9 3 strKeyed Try.underlying85 _ m (Maps.size D) D rfl hown ?_; intro w0 hrg0 hg0 hs0)
    | go_in)
  go_frame
  go_loopw [3] (fun v wr => ∃ (left : Lit → Bool) (cnt : Nat) (ss : List (List UInt8)), wr.ranges Try.prog 9 (plainElem Try.prog 3) m w.heap.size (Maps.size D) D left cnt ∧ ss.length + cnt ≤ Maps.size D ∧
      wr.ownsRow w.heap.size 9 1 v (nb ss).length ((nb ss).map encStr) ∧ Collected D left ss ∧ Below w.heap.size w wr)
    (fun _ wr => wr.rangeLeft m w.heap.size)
  case atStart =>
    exact ⟨_, _, [], hrg0, by simp, World.ownsRow_nil _ _ _ _, Collected.start D, (Below.refl _ _).grown hg0 (Nat.le_refl _) (fun j hj => by cases hj)⟩
  case round =>
    obtain ⟨left, cnt, ss, hrg, hcs, hrow, hC, hnx⟩ := hrel
    go_wp2_with (first
      | (at_next; refine wpList_next_ranges _ rfl _ rfl 9 strKeyed (plainElem Try.prog 3) encStr (Value.int .i64) (fun key kl hk => by obtain ⟨x, hx, _⟩ := Maps.keyOf_str Try.underlying9 hk; exact ⟨x, hx⟩) (fun v y hv => by obtain ⟨c, rfl, _⟩ := plainElem_int_inv Try.underlying3 hv; exact ⟨c, rfl⟩) m w.heap.size (Maps.size D) D left cnt rfl hrg ?_ ?_)
      | go_in)
    · -- nothing is left
      intro hc0 hl0
      have hperm := hC.perm hown strKeyed Try.underlying9 hl0
      have hp2 : (nb ss).Perm (nb (strKeys D)) := hperm.filter _
      have hlen := nb_le ss
      rcases hrow.2 with ⟨rfl, hnil⟩ | ⟨g, cap, cur, rfl, hbase, hb, h1, h2, h3, h4⟩
      · have hn2 : nb (strKeys D) = [] := List.length_eq_zero_iff.1 (by rw [← hp2.length_eq]; exact hnil)
        go_wp2_with fail
        refine (sort_none none 0 _).mono ?_
        rintro en w' ⟨rfl, rfl⟩
        go_wp2_with fail
        go_ret
        refine ⟨_, rfl, ?_, hnx⟩
        rw [hn2]
        show w'.ownsRow w.heap.size 9 1 (.slice none 0 0) 0 (List.map encStr (List.mergeSort [] leB))
        rw [List.mergeSort_nil]
        exact World.ownsRow_nil _ _ _ _
      · have hH : Holds encStr wr g 0 (nb ss).toArray := holds_of_block hb (by simpa using h4)
        have hgl : g < wr.heap.size := (Array.getElem?_eq_some_iff.1 hb).1
        have hc := sort_strs g cap (nb ss) wr hH hgl (by omega)
        go_wp2_with fail
        refine hc.mono ?_
        rintro en w' ⟨rfl, nn, os, rfl⟩
        go_wp2_with fail
        go_ret
        refine ⟨_, rfl, ?_, hnx.grown (grownBy_sorted _) hnx.size (fun j hj => by cases hj; exact hbase)⟩
        rw [← mergeSort_of_perm hp2, ← hp2.length_eq]
        exact ownsRow_sorted (by simp) hbase hb h1 h2 h3
    · -- an entry has come
      intro x c kl yd yp w2 cnt2 hkey hlk hv hat hrg2 hlt hg2 hs2 hen
      obtain ⟨x', ex, rfl, _⟩ := Maps.keyOf_str Try.underlying9 hkey
      obtain rfl : x = x' := encStr_inj ex
      have hrow2 := hrow.kept hg2 (Or.inr (row_ne_iter hrow hrg).symm)
      have hlen := nb_le ss
      clear hs2
      by_cases hx : x = []
      · subst hx
        go_wp2_with fail
        go_roundw
        case rel =>
          refine ⟨_, cnt2, ss ++ [[]], hrg2, by simp; omega, ?_, hC.step hlk hat, hnx.grown hg2 hnx.size (fun j hj => by cases hj; exact Nat.le_refl _)⟩
          rw [nb_house]; exact hrow2
        case measure => rw [hrg2.left_eq, hrg.left_eq]; exact hlt
      · have hE : (ByteArray.mk x.toArray).toList ≠ [] := by rw [ByteArray.toList_eq]; simpa using hx
        go_wp2_with (first
          | (at_builtin; refine wpList_append_own _ rfl _ _ 76 rfl w.heap.size 9 i0 (.string ⟨#[]⟩) 1 16 Try.underlying76 hi hz0 hz1 hz2 rfl (by decide) _ _ _ rfl (hrow2.alloc _) ⟨w2.heap.size, 0, none⟩ 1 1 [encStr x] rfl rfl (cell_one_new _ _ _) (by simp [Value.oneCell', encStr]) (by unfold maxLen at *; omega) (by omega) (by have := hnx.size; have := hg2.size; simp; omega) ?_; intro v' w3 hown' hg3 hnil3; go_frame)
          | go_in)
        · have hg3' : (w2.alloc (.cells #[encStr x] 9)).grownBy w3 u3.ownBlock := hg3
          have hrg3 := (hrg2.alloc _).kept hg3' (row_ne_low hrow2 hbl) (row_ne_iter hrow2 hrg2)
          clear hg3 hnil3
          go_roundw
          case rel =>
            refine ⟨_, cnt2, ss ++ [x], hrg3, by simp; omega, ?_, hC.step hlk hat, ?_⟩
            · rw [nb_snoc ss x hx, List.length_append, List.map_append]; exact hown'
            · exact ((hnx.grown hg2 hnx.size (fun j hj => by cases hj; exact Nat.le_refl _)).alloc (by have := hnx.size; have := hg2.size; omega) _).grown hg3' (by have := hnx.size; have := hg2.size; simp; omega) (fun j hj => (hrow2.lt j hj).1)
          case measure => rw [hrg3.left_eq, hrg.left_eq]; exact hlt
        · exfalso
          have hz : (!x.isEmpty) = false := by assumption
          apply hx
          simpa using hz

end
end Go.Proofs.Ytndnjeahepahkaa
end

section
/- ledger: what Sum, Inverse give. -/
namespace Go.Proofs.Ytndnjeahepahkaa
open Go.RowKit Go.Maps Go.Sort

theorem turn_box {w w' : World} (h : Turn (fun k => w.heap.size ≤ k) w w') : Below w.heap.size w w' := h.below (Nat.le_refl _) (fun j hj e => by omega)

section
variable {H : Type}

/-- What is under a name, said by its bytes. -/
def amtL (D : DataW H) (x : List UInt8) : Int := amt D ⟨x.toArray⟩
def sumL (D : DataW H) (l : List (List UInt8)) : Int := (l.map (amtL D)).foldr (· + ·) 0
/-- The sum of all. -/
def sumD (D : DataW H) : Int := sumL D (strKeys D)

theorem sumL_snoc (D : DataW H) (l : List (List UInt8)) (x : List UInt8) : sumL D (l ++ [x]) = sumL D l + amtL D x := by
  unfold sumL
  induction l with
  | nil => simp
  | cons y r ih => simp at ih ⊢; omega

theorem sumL_perm (D : DataW H) {l l' : List (List UInt8)} (h : l.Perm l') : sumL D l = sumL D l' := by
  unfold sumL
  induction h with
  | nil => rfl
  | cons x _ ih => simp at ih ⊢; omega
  | swap x y l => simp; omega
  | trans _ _ i1 i2 => exact i1.trans i2

theorem sumL_bound (D : DataW H) (hb : ∀ x, -1152921504606846 ≤ amtL D x ∧ amtL D x ≤ 1152921504606846) (l : List (List UInt8)) :
    -1152921504606846 * (l.length : Int) ≤ sumL D l ∧ sumL D l ≤ 1152921504606846 * (l.length : Int) := by
  unfold sumL
  induction l with
  | nil => simp
  | cons y r ih => have := hb y; simp at ih ⊢; omega

end
end Go.Proofs.Ytndnjeahepahkaa
end

section
/- ledger: two maps that say the same; an op and what takes it back (no program's walk). -/
namespace Go.Proofs.Ytndnjeahepahkaa
open Go.RowKit Go.Maps Go.Sort

section
variable {H : Type}

/-- A map from names. -/
def Good (D : DataW H) : Prop := ∃ es, D = .map es ∧ es.Pairwise (fun p q => p.1 ≠ q.1) ∧ ∀ p ∈ es, ∃ x, p.1 = .string x

theorem Mp.good {w : World} {m : Nat} {D : DataW H} (h : Mp w m D) : Good D := by
  obtain ⟨es, hD, hpw, _⟩ := World.ownsMap.entries h strKeyed
  obtain ⟨es', hD', hko⟩ := World.ownsMap.keysOf h
  obtain rfl : es = es' := by rw [hD] at hD'; simpa using hD'
  exact ⟨es, hD, hpw, fun p hp => by obtain ⟨v, hv⟩ := hko p hp; obtain ⟨x, _, hx, _⟩ := Maps.keyOf_str Try.underlying9 hv; exact ⟨x, hx⟩⟩

theorem Good.tidy {D : DataW H} (h : Good D) : Tidy D := by
  obtain ⟨es, e, hp, _⟩ := h
  exact ⟨es, e, hp⟩

theorem mem_strKeys {D : DataW H} (h : Good D) (x : List UInt8) : x ∈ strKeys D ↔ has D (.string x) = true := by
  obtain ⟨es, rfl, _, hk⟩ := h
  rw [has_eq, List.any_eq_true]
  show x ∈ es.map (fun p => strOf p.1) ↔ _
  rw [List.mem_map]
  constructor
  · rintro ⟨p, hp, rfl⟩
    obtain ⟨a, ha⟩ := hk p hp
    exact ⟨p, hp, by rw [ha]; simp [Lit.sameKey, strOf]⟩
  · rintro ⟨p, hp, hs⟩
    obtain ⟨a, ha⟩ := hk p hp
    rw [ha] at hs
    exact ⟨p, hp, by rw [ha]; simpa [Lit.sameKey, strOf] using hs⟩

theorem nodup_strKeys {D : DataW H} (h : Good D) : (strKeys D).Nodup := by
  obtain ⟨es, rfl, hp, hk⟩ := h
  show (es.map fun p => strOf p.1).Nodup
  refine List.pairwise_map.2 (hp.imp_of_mem fun {p q} hp' hq' hne e => hne ?_)
  obtain ⟨a, ha⟩ := hk p hp'
  obtain ⟨b, hb⟩ := hk q hq'
  rw [ha, hb] at e ⊢
  exact congrArg _ e

/-- Two maps that say the same. -/
structure Alike (D D' : DataW H) : Prop where
  l : Good D
  r : Good D'
  same : ∀ s, isIn D s = isIn D' s ∧ amt D s = amt D' s

theorem Alike.perm {D D' : DataW H} (h : Alike D D') : (strKeys D).Perm (strKeys D') :=
  (List.perm_ext_iff_of_nodup (nodup_strKeys h.l) (nodup_strKeys h.r)).2 fun x => by
    rw [mem_strKeys h.l, mem_strKeys h.r]
    have := (h.same ⟨x.toArray⟩).1
    unfold isIn kS at this
    simp at this
    rw [this]

theorem Alike.names {D D' : DataW H} (h : Alike D D') : (nb (strKeys D)).mergeSort leB = (nb (strKeys D')).mergeSort leB := mergeSort_of_perm (h.perm.filter _)
theorem Alike.amtL {D D' : DataW H} (h : Alike D D') (x : List UInt8) : amtL D x = amtL D' x := (h.same _).2
theorem Alike.size {D D' : DataW H} (h : Alike D D') : Maps.size D = Maps.size D' := by
  have e := h.perm.length_eq
  obtain ⟨es, rfl, _⟩ := h.l
  obtain ⟨es', rfl, _⟩ := h.r
  simpa [strKeys, Maps.size] using e

theorem isIn_put {D : DataW H} (hD : IsMap D) (s t : ByteArray) (d : DataW H) : isIn (D.put (kS s) d) t = if t = s then true else isIn D t := by
  unfold isIn
  by_cases h : t = s
  · rw [if_pos h, h]; exact has_put_same hD (kS_key s) d
  · rw [if_neg h]; exact has_put_other (fun e => h (kS_inj e)) d
theorem isIn_del {D : DataW H} (s t : ByteArray) : isIn (D.del (kS s)) t = if t = s then false else isIn D t := by
  unfold isIn
  by_cases h : t = s
  · rw [if_pos h, h]; exact has_del_same
  · rw [if_neg h]; exact has_del_other (fun e => h (kS_inj e))
theorem amt_put {D : DataW H} (hD : IsMap D) (s t : ByteArray) (n : Int) : amt (D.put (kS s) (nI n)) t = if t = s then n else amt D t := by
  by_cases h : t = s
  · subst h; rw [if_pos rfl]; exact amt_of (atKey_put_same hD (kS_key t) _ _)
  · rw [if_neg h]; unfold amt; rw [atKey_put_other (fun e => h (kS_inj e))]
theorem amt_del {D : DataW H} (s t : ByteArray) : amt (D.del (kS s)) t = if t = s then 0 else amt D t := by
  by_cases h : t = s
  · subst h; rw [if_pos rfl]; exact amt_of (atKey_del_same _)
  · rw [if_neg h]; unfold amt; rw [atKey_del_other (fun e => h (kS_inj e))]

end
end Go.Proofs.Ytndnjeahepahkaa
end

section
/- ledger: an op that was done is taken back by its inverse (no program's walk). -/
namespace Go.Proofs.Ytndnjeahepahkaa
open Go.RowKit Go.Maps Go.Sort

section
variable {H : Type}

/-- What every book keeps. -/
structure InvB (D : DataW H) : Prop where
  tidy : Tidy D
  size : Maps.size D ≤ 17
  lo : ∀ s : ByteArray, s ≠ .empty → 0 ≤ amt D s
  hi : ∀ s : ByteArray, s ≠ .empty → amt D s ≤ 1099511627776

/-- The inverse's parts. -/
def invK (k : Int) : Int := if k = 1 then 2 else if k = 2 then 1 else 3
def invS (k : Int) (s t : ByteArray) : ByteArray := if k = 3 then t else s
def invT (k : Int) (s : ByteArray) : ByteArray := if k = 3 then s else ⟨#[]⟩
def invN (k n : Int) : Int := if k = 3 then n else 0

theorem amt_absent {D : DataW H} {s : ByteArray} (h : isIn D s = false) : amt D s = 0 := amt_of (atKey_of_not_has h _)

theorem chk_open {k n : Int} {s t : ByteArray} (hk : k = 1 ∨ k = 2) (h : chkL k s t n = 0) : ¬ s.toList = [] ∧ s.size ≤ 12 := by
  unfold chkL at h
  rw [if_pos hk] at h
  split at h
  · rename_i h1; exact ⟨h1.1, h1.2.2.2.1⟩
  · omega

theorem chk_move {n : Int} {s t : ByteArray} (h : chkL 3 s t n = 0) : ¬ s.toList = t.toList ∧ 1 ≤ n ∧ n ≤ 1099511627776 ∧ s.size ≤ 12 ∧ t.size ≤ 12 := by
  unfold chkL at h
  rw [if_neg (by decide), if_pos rfl] at h
  split at h
  · assumption
  · omega

theorem size_nil0 : (⟨#[]⟩ : ByteArray).size = 0 := rfl
theorem list_nil0 : (⟨#[]⟩ : ByteArray).toList = [] := by rw [ByteArray.toList_eq]

theorem chk_back {k n : Int} {s t : ByteArray} (h : chkL k s t n = 0) : chkL (invK k) (invS k s t) (invT k s) (invN k n) = 0 := by
  rcases chk_kind h with rfl | rfl | ⟨rfl, _, _⟩
  · obtain ⟨h1, h2⟩ := chk_open (.inl rfl) h
    show chkL 2 s ⟨#[]⟩ 0 = 0
    unfold chkL
    rw [if_pos (.inr rfl), if_pos ⟨h1, list_nil0, rfl, h2, by rw [size_nil0]; omega⟩]
  · obtain ⟨h1, h2⟩ := chk_open (.inr rfl) h
    show chkL 1 s ⟨#[]⟩ 0 = 0
    unfold chkL
    rw [if_pos (.inl rfl), if_pos ⟨h1, list_nil0, rfl, h2, by rw [size_nil0]; omega⟩]
  · obtain ⟨h1, h2, h3, h4, h5⟩ := chk_move h
    show chkL 3 t s n = 0
    unfold chkL
    rw [if_neg (by decide), if_pos rfl, if_pos ⟨fun e => h1 e.symm, h2, h3, h5, h4⟩]

/-- What was done is taken back. -/
theorem do_back {D : DataW H} (I : InvB D) {k n : Int} {s t : ByteArray} (h : (doL D k s t n).2 = 0) :
    (doL (doL D k s t n).1 (invK k) (invS k s t) (invT k s) (invN k n)).2 = 0 ∧
      ∀ x, isIn (doL (doL D k s t n).1 (invK k) (invS k s t) (invT k s) (invN k n)).1 x = isIn D x ∧ amt (doL (doL D k s t n).1 (invK k) (invS k s t) (invT k s) (invN k n)).1 x = amt D x := by
  have hm := I.tidy.isMap
  by_cases hc : chkL k s t n = 0
  · have hc2 := chk_back hc
    have e1 : doL D k s t n = if k = 1 then opn D s else if k = 2 then cls D s else mov D s t n := by unfold doL; rw [if_neg (by simpa using hc)]
    have e2 : ∀ D' : DataW H, doL D' (invK k) (invS k s t) (invT k s) (invN k n) = if invK k = 1 then opn D' (invS k s t) else if invK k = 2 then cls D' (invS k s t) else mov D' (invS k s t) (invT k s) (invN k n) := fun D' => by
      unfold doL; rw [if_neg (by simpa using hc2)]
    rw [e2]
    rw [e1] at h ⊢
    rcases chk_kind hc with rfl | rfl | ⟨rfl, _, _⟩
    · simp only [if_pos] at h ⊢
      have e3 : invK 1 = 2 := rfl
      have e4 : invS 1 s t = s := rfl
      rw [e3, e4, if_neg (by decide), if_pos rfl]
      unfold opn at h ⊢
      cases hi : isIn D s
      · rw [hi, if_neg (by simp)] at h
        rw [if_neg (by simp)]
        by_cases hs : 16 < Maps.size D
        · rw [if_pos hs] at h; simp at h
        · rw [if_neg hs]
          have a1 : isIn (D.put (kS s) (nI 0)) s = true := by rw [isIn_put hm, if_pos rfl]
          have a2 : amt (D.put (kS s) (nI 0)) s = 0 := by rw [amt_put hm, if_pos rfl]
          unfold cls
          simp only [a1, a2]
          simp
          intro x
          rw [isIn_del, amt_del, isIn_put hm, amt_put hm]
          by_cases hx : x = s
          · subst hx; simp [hi, amt_absent hi]
          · simp [hx]
      · rw [hi, if_pos rfl] at h; simp at h
    · simp only [if_neg (show ¬ (2 : Int) = 1 by decide), if_pos] at h ⊢
      have e3 : invK 2 = 1 := rfl
      have e4 : invS 2 s t = s := rfl
      rw [e3, e4, if_pos rfl]
      unfold cls at h ⊢
      cases hi : isIn D s
      · rw [hi, if_pos rfl] at h; simp at h
      · rw [hi, if_neg (by simp)] at h
        rw [if_neg (by simp)]
        by_cases ha : amt D s = 0
        · rw [if_neg (by simpa using ha)]
          have a1 : isIn (D.del (kS s)) s = false := by rw [isIn_del, if_pos rfl]
          have a3 := size_del (k := kS s) I.tidy
          have a4 : has D (kS s) = true := hi
          rw [a4] at a3
          have a5 : ¬ 16 < Maps.size (D.del (kS s)) := by have := I.size; simp at a3; omega
          have hm2 : IsMap (D.del (kS s)) := hm.del _
          unfold opn
          simp only [a1, if_neg a5]
          simp
          intro x
          rw [isIn_put hm2, amt_put hm2, isIn_del, amt_del]
          by_cases hx : x = s
          · subst hx; simp [hi, ha]
          · simp [hx]
        · rw [if_pos ha] at h; simp at h
    · obtain ⟨hne, hn1, hn2, _, _⟩ := chk_move hc
      have hst : s ≠ t := fun e => hne (by rw [e])
      have q1 : ¬ (3 : Int) = 1 := by decide
      have q2 : ¬ (3 : Int) = 2 := by decide
      have e3 : invK 3 = 3 := rfl
      have e4 : invS 3 s t = t := rfl
      have e5 : invT 3 s = s := rfl
      have e6 : invN 3 n = n := rfl
      simp only [e3, e4, e5, e6, if_neg q1, if_neg q2] at h ⊢
      have hs : isIn D s = true := by
        cases hi : isIn D s
        · unfold mov at h; rw [if_pos hi] at h; simp at h
        · rfl
      have ht : isIn D t = true := by
        cases hi : isIn D t
        · unfold mov at h; rw [if_neg (by rw [hs]; simp), if_pos hi] at h; simp at h
        · rfl
      have u1 : ¬ (isIn D s = false) := by rw [hs]; simp
      have u2 : ¬ (isIn D t = false) := by rw [ht]; simp
      have em : mov D s t n = ((D.put (kS s) (nI (amt D s - n))).put (kS t) (nI (amt D t + n)), 0) := by
        unfold mov at h ⊢
        rw [if_neg u1, if_neg u2] at h ⊢
        split at h
        · simp at h
        · rename_i v1
          rw [if_neg v1]
          split at h
          · simp at h
          · rename_i v2
            rw [if_neg v2]
      rw [em]
      show (mov ((D.put (kS s) (nI (amt D s - n))).put (kS t) (nI (amt D t + n))) t s n).2 = 0 ∧ _
      have hm2 : IsMap (D.put (kS s) (nI (amt D s - n))) := hm.put _ _
      have hm3 : IsMap ((D.put (kS s) (nI (amt D s - n))).put (kS t) (nI (amt D t + n))) := hm2.put _ _
      have b1 : isIn ((D.put (kS s) (nI (amt D s - n))).put (kS t) (nI (amt D t + n))) t = true := by rw [isIn_put hm2, if_pos rfl]
      have b2 : isIn ((D.put (kS s) (nI (amt D s - n))).put (kS t) (nI (amt D t + n))) s = true := by rw [isIn_put hm2, if_neg hst, isIn_put hm, if_pos rfl]
      have b3 : amt ((D.put (kS s) (nI (amt D s - n))).put (kS t) (nI (amt D t + n))) t = amt D t + n := by rw [amt_put hm2, if_pos rfl]
      have b4 : amt ((D.put (kS s) (nI (amt D s - n))).put (kS t) (nI (amt D t + n))) s = amt D s - n := by rw [amt_put hm2, if_neg hst, amt_put hm, if_pos rfl]
      have ew : ∀ x, isIn ((D.put (kS s) (nI (amt D s - n))).put (kS t) (nI (amt D t + n))) x = isIn D x := fun x => by
        rw [isIn_put hm2, isIn_put hm]
        by_cases hx : x = t
        · rw [if_pos hx, hx, ht]
        · rw [if_neg hx]
          by_cases hy : x = s
          · rw [if_pos hy, hy, hs]
          · rw [if_neg hy]
      have ea : ∀ x, amt ((D.put (kS s) (nI (amt D s - n))).put (kS t) (nI (amt D t + n))) x = if x = t then amt D t + n else if x = s then amt D s - n else amt D x := fun x => by rw [amt_put hm2, amt_put hm]
      generalize (D.put (kS s) (nI (amt D s - n))).put (kS t) (nI (amt D t + n)) = D3 at *
      unfold mov
      rw [if_neg (by rw [b1]; simp), if_neg (by rw [b2]; simp), if_neg (fun hv => by have := I.lo t hv.1; have := hv.2; rw [b3] at this; omega), if_neg (fun hv => by have := I.hi s hv.1; have := hv.2; rw [b4] at this; omega)]
      refine ⟨rfl, fun x => ?_⟩
      have hm4 : IsMap (D3.put (kS t) (nI (amt D3 t - n))) := hm3.put _ _
      show isIn ((D3.put (kS t) (nI (amt D3 t - n))).put (kS s) (nI (amt D3 s + n))) x = _ ∧ amt ((D3.put (kS t) (nI (amt D3 t - n))).put (kS s) (nI (amt D3 s + n))) x = _
      rw [isIn_put hm4, isIn_put hm3, amt_put hm4, amt_put hm3, b3, b4, ew, ea]
      by_cases hx : x = s
      · subst hx; rw [if_pos rfl, if_pos rfl, hs]; exact ⟨rfl, by omega⟩
      · rw [if_neg hx, if_neg hx]
        by_cases hy : x = t
        · subst hy; rw [if_pos rfl, if_pos rfl, ht]; exact ⟨rfl, by omega⟩
        · simp [hy, hx]
  · have e1 : doL D k s t n = (D, chkL k s t n) := by unfold doL; rw [if_pos hc]
    rw [e1] at h
    exact absurd h hc

end
end Go.Proofs.Ytndnjeahepahkaa
end

