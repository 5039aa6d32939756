/- Texts laid into one: LedB, LedC, LedD, LedE. -/
import Derived.Test.YtcdedkgkingbdaaGreatDoorQ016
section
/- ledger: what move, New give. -/
namespace Go.Proofs.YtcdedkgkingbdaaGreatDoor
open Go.RowKit Go.Maps

section
variable {H : Type}

theorem wf64 {x : Int} (h : -9223372036854775808 ≤ x) (h' : x ≤ 9223372036854775807) : (Lit.int .i64 x).wf = true := by
  have e1 : IntKind.i64.min = -9223372036854775808 := by decide
  have e2 : IntKind.i64.max = 9223372036854775807 := by decide
  simp [Lit.wf, e1, e2]
  exact ⟨h, h'⟩
theorem grown_cell {w w' : World} {d m : Nat} {v : Value} (h : w.grownBy w' (some m)) (hd : d < w.heap.size) (hne : m ≠ d) (hc : w.cell? ⟨d, 0, none⟩ = some v) : w'.cell? ⟨d, 0, none⟩ = some v := by
  have := h.block d hd (fun e => hne (by injection e with e; exact e.symm))
  unfold World.cell? at hc ⊢
  rw [this]; exact hc

theorem emp_iff {s : ByteArray} : s = .empty ↔ s.toList = [] := by
  rw [ByteArray.toList_eq]
  constructor
  · rintro rfl; rfl
  · intro h
    exact WideShapes.bytes_inj (h.trans rfl)
theorem or_of {α : Type} {l : List α} {p : Prop} (h : (!l.isEmpty) = false ∨ p) : l = [] ∨ p := by simpa using h

set_option maxRecDepth 100000 in
set_option maxHeartbeats 400000 in
theorem bmove_calls (d m : Nat) (D : DataW H) (s t : ByteArray) (n : Int) (w : World) (h : Bk w d m D) (hs : s.size ≤ maxLen) (ht : t.size ≤ maxLen) (hD : Maps.size D + 1 < maxLen)
    (hn : 0 ≤ n) (hn' : n ≤ 1099511627776) (ha : -1152921504606846976 ≤ amt D s) (ha' : amt D s ≤ 1152921504606846976) (hb : -1152921504606846976 ≤ amt D t) (hb' : amt D t ≤ 1152921504606846976) :
    Calls Tryz.prog 220 #[.pointer (some ⟨d, 0, none⟩), .string s, .string t, .int .i64 n] w fun en w' => BPost d m w (mov D s t n) en w' := by
  have hks := kS_of hs
  have hkt := kS_of ht
  have c0 : w.cell? ⟨d, 0, none⟩ = some (.map (some m)) := h.box.cell 0
  have hown : w.ownsMap Tryz.prog 9 (plainElem Tryz.prog 3) m (Maps.size D) D := h.map
  have B := Lib.hid h
  clear h hs ht
  cases hi : isIn D s
  · have hi' : Maps.has D (kS s) = false := hi
    have E := Lib.hid (show mov D s t n = (D, 8) by unfold mov; rw [if_pos hi])
    clear hi
    go_enter Tryz.func220, Tryz.ntmps220
    go_wp2_with (first
      | (at_lookup; refine wpList_lookup_own_ok_int _ rfl _ _ 238 rfl 9 3 .i64 strKeyed Tryz.underlying238 Tryz.underlying3 (zeroInt _) m (Maps.size D) D rfl hown _ _ rfl hks ?_; intro c hat hwc)
      | go_in)
    go_ret
    rw [show mov D s t n = _ from E]
    exact ⟨rfl, B, hown.turned_refl⟩
  have hi' : Maps.has D (kS s) = true := hi
  have n1 : ¬ (isIn D s = false) := by rw [hi]; simp
  clear hi
  cases hj : isIn D t
  · have hj' : Maps.has D (kS t) = false := hj
    have E := Lib.hid (show mov D s t n = (D, 8) by unfold mov; rw [if_neg n1, if_pos hj])
    clear hj n1
    go_enter Tryz.func220, Tryz.ntmps220
    go_wp2_with (first
      | (at_lookup; refine wpList_lookup_own_ok_int _ rfl _ _ 238 rfl 9 3 .i64 strKeyed Tryz.underlying238 Tryz.underlying3 (zeroInt _) m (Maps.size D) D rfl hown _ _ rfl hks ?_; intro c hat hwc)
      | (at_lookup; refine wpList_lookup_own_ok_int _ rfl _ _ 238 rfl 9 3 .i64 strKeyed Tryz.underlying238 Tryz.underlying3 (zeroInt _) m (Maps.size D) D rfl hown _ _ rfl hkt ?_; intro c2 hat2 hwc2)
      | go_in)
    go_ret
    rw [show mov D s t n = _ from E]
    exact ⟨rfl, B, hown.turned_refl⟩
  have hj' : Maps.has D (kS t) = true := hj
  have n2 : ¬ (isIn D t = false) := by rw [hj]; simp
  clear hj
  have E0 : mov D s t n = if s ≠ .empty ∧ amt D s < n then (D, 11) else if t ≠ .empty ∧ 1099511627776 < amt D t + n then (D, 10)
    else ((D.put (kS s) (nI (amt D s - n))).put (kS t) (nI (amt D t + n)), 0) := by unfold mov; rw [if_neg n1, if_neg n2]
  clear n1 n2
  generalize h1 : amt D s = a at *
  generalize h2 : amt D t = b at *
  have H1 := Lib.hid h1
  have H2 := Lib.hid h2
  simp only [ne_eq, emp_iff] at E0
  have E1 := Lib.hid (show ¬ s.toList = [] → a < n → mov D s t n = (D, 11) from fun e1 e2 => by rw [E0, if_pos ⟨e1, e2⟩])
  have E2 := Lib.hid (show s.toList = [] ∨ n ≤ a → ¬ t.toList = [] → 1099511627776 < b + n → mov D s t n = (D, 10) from fun e1 e2 e3 => by
    rw [E0, if_neg (fun h => e1.elim h.1 (fun h2 => by have := h.2; omega)), if_pos ⟨e2, e3⟩])
  have E3 := Lib.hid (show s.toList = [] ∨ n ≤ a → t.toList = [] ∨ b + n ≤ 1099511627776 → mov D s t n = ((D.put (kS s) (nI (a - n))).put (kS t) (nI (b + n)), 0) from fun e1 e2 => by
    rw [E0, if_neg (fun h => e1.elim h.1 (fun h2 => by have := h.2; omega)), if_neg (fun h => e2.elim h.1 (fun h2 => by have := h.2; omega))])
  clear h1 h2 E0
  go_enter Tryz.func220, Tryz.ntmps220
  have hw1 : (Lit.int .i64 (a - n)).wf = true := wf64 (by omega) (by omega)
  have hw2 : (Lit.int .i64 (b + n)).wf = true := wf64 (by omega) (by omega)
  have hD1 : Maps.size D < maxLen := by omega
  obtain ⟨w1, hrun1, hown1, hturn1⟩ := hown.store strKeyed Tryz.underlying238 hD1 hks (plainElem_int Tryz.underlying3 hw1)
  obtain ⟨w2, hrun2, hown2, hturn2⟩ := hown1.store strKeyed Tryz.underlying238 hD hkt (plainElem_int Tryz.underlying3 hw2)
  have c1 := grown_cell hturn1.grown (B.box.lt) (B.map.ne B.box) c0
  have B2 := Lib.hid (B.turned hown2 (hturn1.trans hturn2))
  have T2 := Lib.hid (hturn1.trans hturn2)
  have T0 := Lib.hid hown.turned_refl
  clear hown1 hown2 hturn1 hturn2
  go_wp2_with (first
    | (at_lookup; refine wpList_lookup_own_ok_int _ rfl _ _ 238 rfl 9 3 .i64 strKeyed Tryz.underlying238 Tryz.underlying3 (zeroInt _) m (Maps.size D) D rfl hown _ _ rfl hks ?_; intro c hat hwc; obtain rfl : c = a := (amt_of hat).symm.trans H1)
    | (at_lookup; refine wpList_lookup_own_ok_int _ rfl _ _ 238 rfl 9 3 .i64 strKeyed Tryz.underlying238 Tryz.underlying3 (zeroInt _) m (Maps.size D) D rfl hown _ _ rfl hkt ?_; intro c2 hat2 hwc2; obtain rfl : c2 = b := (amt_of hat2).symm.trans H2)
    | fail)
  all_goals
    go_ret
    first
      | (rw [show mov D s t n = _ from E1 (by assumption) (show (!s.toList.isEmpty) = true ∧ c < n by assumption).2]; exact ⟨rfl, B, T0⟩)
      | (rw [show mov D s t n = _ from E2 (by first | exact Or.inl (by assumption) | exact or_of (by assumption)) (by assumption) (show (!t.toList.isEmpty) = true ∧ 1099511627776 < c2 + n by assumption).2]; exact ⟨rfl, B, T0⟩)
      | (rw [show mov D s t n = _ from E3 (by first | exact Or.inl (by assumption) | exact or_of (by assumption)) (by first | exact Or.inl (by assumption) | exact or_of (by assumption))]; exact ⟨rfl, B2, T2⟩)

end
end Go.Proofs.YtcdedkgkingbdaaGreatDoor
end

section
/- ledger: what Check gives. -/
namespace Go.Proofs.YtcdedkgkingbdaaGreatDoor
open Go.RowKit

/-- The error of an op. -/
def chkL (k : Int) (s t : ByteArray) (n : Int) : Int :=
  if k = 1 ∨ k = 2 then (if ¬ s.toList = [] ∧ t.toList = [] ∧ n = 0 ∧ s.size ≤ 12 ∧ t.size ≤ 12 then 0 else 4)
  else if k = 3 then (if ¬ s.toList = t.toList ∧ 1 ≤ n ∧ n ≤ 1099511627776 ∧ s.size ≤ 12 ∧ t.size ≤ 12 then 0 else 4) else 5

theorem new_box (w : World) (o : Obj) : Below w.heap.size w (w.alloc o) :=
  (show Turn (fun k => w.heap.size ≤ k) w (w.alloc o) from Turn.alloc (Turn.refl _ _) _).below (Nat.le_refl _) (fun j hj e => by omega)

theorem nil_of {s : ByteArray} (h : s.toList = []) : s = ⟨#[]⟩ := by
  rw [ByteArray.toList_eq] at h
  exact WideShapes.bytes_inj (h.trans rfl)
theorem some_of {s : ByteArray} (h : ¬ s.toList = []) : s.toList.isEmpty = false ∧ (!s.toList.isEmpty) = true ∧ (s.toList == []) = false := by
  cases hs : s.toList with
  | nil => exact absurd hs h
  | cons a b => exact ⟨rfl, rfl, rfl⟩
theorem size_nil {s : ByteArray} (h : s.toList = []) : s.size = 0 := by
  rw [nil_of h]; rfl

section
variable (k n : Int) (s t : ByteArray) (w : World)
def CkPost (c : Int) (w : World) (en : Ending) (w' : World) : Prop := en = .returned (.int .i64 c) ∧ Below w.heap.size w w'
set_option maxRecDepth 100000 in
set_option maxHeartbeats 1000000 in
theorem chk1_a (h : s.toList = []) (hs : (s.size : Int) ≤ 9223372036854775807) (ht : (t.size : Int) ≤ 9223372036854775807) (e : chkL 1 s t n = 4) :
    Calls Tryz.prog 180 #[.agg #[.int .i64 1, .string s, .string t, .int .i64 n]] w (CkPost (chkL 1 s t n) w) := by
  obtain rfl := nil_of h
  clear h
  have _u := Lib.hid (And.intro hs ht)
  have E := Lib.hid e
  clear e
  go_enter Tryz.func180, Tryz.ntmps180
  go_wp2_with fail
  go_ret
  rw [E.out]
  exact ⟨rfl, new_box _ _⟩

set_option maxRecDepth 100000 in
set_option maxHeartbeats 1000000 in
theorem chk1_b (h : ¬ s.toList = []) (h2 : ¬ t.toList = []) (hs : (s.size : Int) ≤ 9223372036854775807) (ht : (t.size : Int) ≤ 9223372036854775807) (e : chkL 1 s t n = 4) :
    Calls Tryz.prog 180 #[.agg #[.int .i64 1, .string s, .string t, .int .i64 n]] w (CkPost (chkL 1 s t n) w) := by
  obtain ⟨a1, a2, a3⟩ := some_of h
  obtain ⟨b1, b2, b3⟩ := some_of h2
  have _u := Lib.hid (And.intro hs ht)
  have E := Lib.hid e
  clear e
  go_enter Tryz.func180, Tryz.ntmps180
  go_wp2_with fail
  go_ret
  rw [E.out]
  exact ⟨rfl, new_box _ _⟩

set_option maxRecDepth 100000 in
set_option maxHeartbeats 1000000 in
theorem chk1_c (h : ¬ s.toList = []) (h2 : t.toList = []) (h3 : ¬ n = 0) (hs : (s.size : Int) ≤ 9223372036854775807) (ht : (t.size : Int) ≤ 9223372036854775807) (e : chkL 1 s t n = 4) :
    Calls Tryz.prog 180 #[.agg #[.int .i64 1, .string s, .string t, .int .i64 n]] w (CkPost (chkL 1 s t n) w) := by
  obtain ⟨a1, a2, a3⟩ := some_of h
  obtain rfl := nil_of h2
  clear h2
  have h4 : (n == 0) = false := by simpa using h3
  have _u := Lib.hid (And.intro hs ht)
  have E := Lib.hid e
  clear e
  go_enter Tryz.func180, Tryz.ntmps180
  go_wp2_with fail
  go_ret
  rw [E.out]
  exact ⟨rfl, new_box _ _⟩

set_option maxRecDepth 100000 in
set_option maxHeartbeats 1000000 in
theorem chk1_d (h : ¬ s.toList = []) (h2 : t.toList = []) (h3 : n = 0) (h4 : 12 < s.size) (hs : (s.size : Int) ≤ 9223372036854775807) (ht : (t.size : Int) ≤ 9223372036854775807) (e : chkL 1 s t n = 4) :
    Calls Tryz.prog 180 #[.agg #[.int .i64 1, .string s, .string t, .int .i64 n]] w (CkPost (chkL 1 s t n) w) := by
  obtain ⟨a1, a2, a3⟩ := some_of h
  obtain rfl := nil_of h2
  subst h3
  clear h2
  have _u := Lib.hid (And.intro hs ht)
  have E := Lib.hid e
  clear e
  go_enter Tryz.func180, Tryz.ntmps180
  go_wp2_with fail
  go_ret
  rw [E.out]
  exact ⟨rfl, new_box _ _⟩

set_option maxRecDepth 100000 in
set_option maxHeartbeats 1000000 in
theorem chk1_f (h : ¬ s.toList = []) (h2 : t.toList = []) (h3 : n = 0) (h4 : s.size ≤ 12) (hs : (s.size : Int) ≤ 9223372036854775807) (ht : (t.size : Int) ≤ 9223372036854775807) (e : chkL 1 s t n = 0) :
    Calls Tryz.prog 180 #[.agg #[.int .i64 1, .string s, .string t, .int .i64 n]] w (CkPost (chkL 1 s t n) w) := by
  obtain ⟨a1, a2, a3⟩ := some_of h
  obtain rfl := nil_of h2
  subst h3
  clear h2
  have _u := Lib.hid (And.intro hs ht)
  have E := Lib.hid e
  clear e
  go_enter Tryz.func180, Tryz.ntmps180
  go_wp2_with fail
  go_ret
  rw [E.out]
  exact ⟨rfl, new_box _ _⟩

set_option maxRecDepth 100000 in
set_option maxHeartbeats 1000000 in
theorem chk2_a (h : s.toList = []) (hs : (s.size : Int) ≤ 9223372036854775807) (ht : (t.size : Int) ≤ 9223372036854775807) (e : chkL 2 s t n = 4) :
    Calls Tryz.prog 180 #[.agg #[.int .i64 2, .string s, .string t, .int .i64 n]] w (CkPost (chkL 2 s t n) w) := by
  obtain rfl := nil_of h
  clear h
  have _u := Lib.hid (And.intro hs ht)
  have E := Lib.hid e
  clear e
  go_enter Tryz.func180, Tryz.ntmps180
  go_wp2_with fail
  go_ret
  rw [E.out]
  exact ⟨rfl, new_box _ _⟩

set_option maxRecDepth 100000 in
set_option maxHeartbeats 1000000 in
theorem chk2_b (h : ¬ s.toList = []) (h2 : ¬ t.toList = []) (hs : (s.size : Int) ≤ 9223372036854775807) (ht : (t.size : Int) ≤ 9223372036854775807) (e : chkL 2 s t n = 4) :
    Calls Tryz.prog 180 #[.agg #[.int .i64 2, .string s, .string t, .int .i64 n]] w (CkPost (chkL 2 s t n) w) := by
  obtain ⟨a1, a2, a3⟩ := some_of h
  obtain ⟨b1, b2, b3⟩ := some_of h2
  have _u := Lib.hid (And.intro hs ht)
  have E := Lib.hid e
  clear e
  go_enter Tryz.func180, Tryz.ntmps180
  go_wp2_with fail
  go_ret
  rw [E.out]
  exact ⟨rfl, new_box _ _⟩

set_option maxRecDepth 100000 in
set_option maxHeartbeats 1000000 in
theorem chk2_c (h : ¬ s.toList = []) (h2 : t.toList = []) (h3 : ¬ n = 0) (hs : (s.size : Int) ≤ 9223372036854775807) (ht : (t.size : Int) ≤ 9223372036854775807) (e : chkL 2 s t n = 4) :
    Calls Tryz.prog 180 #[.agg #[.int .i64 2, .string s, .string t, .int .i64 n]] w (CkPost (chkL 2 s t n) w) := by
  obtain ⟨a1, a2, a3⟩ := some_of h
  obtain rfl := nil_of h2
  clear h2
  have h4 : (n == 0) = false := by simpa using h3
  have _u := Lib.hid (And.intro hs ht)
  have E := Lib.hid e
  clear e
  go_enter Tryz.func180, Tryz.ntmps180
  go_wp2_with fail
  go_ret
  rw [E.out]
  exact ⟨rfl, new_box _ _⟩

set_option maxRecDepth 100000 in
set_option maxHeartbeats 1000000 in
theorem chk2_d (h : ¬ s.toList = []) (h2 : t.toList = []) (h3 : n = 0) (h4 : 12 < s.size) (hs : (s.size : Int) ≤ 9223372036854775807) (ht : (t.size : Int) ≤ 9223372036854775807) (e : chkL 2 s t n = 4) :
    Calls Tryz.prog 180 #[.agg #[.int .i64 2, .string s, .string t, .int .i64 n]] w (CkPost (chkL 2 s t n) w) := by
  obtain ⟨a1, a2, a3⟩ := some_of h
  obtain rfl := nil_of h2
  subst h3
  clear h2
  have _u := Lib.hid (And.intro hs ht)
  have E := Lib.hid e
  clear e
  go_enter Tryz.func180, Tryz.ntmps180
  go_wp2_with fail
  go_ret
  rw [E.out]
  exact ⟨rfl, new_box _ _⟩

set_option maxRecDepth 100000 in
set_option maxHeartbeats 1000000 in
theorem chk2_f (h : ¬ s.toList = []) (h2 : t.toList = []) (h3 : n = 0) (h4 : s.size ≤ 12) (hs : (s.size : Int) ≤ 9223372036854775807) (ht : (t.size : Int) ≤ 9223372036854775807) (e : chkL 2 s t n = 0) :
    Calls Tryz.prog 180 #[.agg #[.int .i64 2, .string s, .string t, .int .i64 n]] w (CkPost (chkL 2 s t n) w) := by
  obtain ⟨a1, a2, a3⟩ := some_of h
  obtain rfl := nil_of h2
  subst h3
  clear h2
  have _u := Lib.hid (And.intro hs ht)
  have E := Lib.hid e
  clear e
  go_enter Tryz.func180, Tryz.ntmps180
  go_wp2_with fail
  go_ret
  rw [E.out]
  exact ⟨rfl, new_box _ _⟩

set_option maxRecDepth 100000 in
set_option maxHeartbeats 1000000 in
theorem chk3_a (h : s = t) (hs : (s.size : Int) ≤ 9223372036854775807) (ht : (t.size : Int) ≤ 9223372036854775807) (e : chkL 3 s t n = 4) :
    Calls Tryz.prog 180 #[.agg #[.int .i64 3, .string s, .string t, .int .i64 n]] w (CkPost (chkL 3 s t n) w) := by
  subst h
  have _u := Lib.hid (And.intro hs ht)
  have E := Lib.hid e
  clear e
  go_enter Tryz.func180, Tryz.ntmps180
  go_wp2_with fail
  go_ret
  rw [E.out]
  exact ⟨rfl, new_box _ _⟩

set_option maxRecDepth 100000 in
set_option maxHeartbeats 1000000 in
theorem chk3_b (h : ¬ s.toList = t.toList) (h2 : n < 1) (hs : (s.size : Int) ≤ 9223372036854775807) (ht : (t.size : Int) ≤ 9223372036854775807) (e : chkL 3 s t n = 4) :
    Calls Tryz.prog 180 #[.agg #[.int .i64 3, .string s, .string t, .int .i64 n]] w (CkPost (chkL 3 s t n) w) := by
  have a1 : (s.toList == t.toList) = false := by simpa using h
  have a2 : (s.toList != t.toList) = true := by simpa using h
  have _u := Lib.hid (And.intro hs ht)
  have E := Lib.hid e
  clear e
  go_enter Tryz.func180, Tryz.ntmps180
  go_wp2_with fail
  go_ret
  rw [E.out]
  exact ⟨rfl, new_box _ _⟩

set_option maxRecDepth 100000 in
set_option maxHeartbeats 1000000 in
theorem chk3_c (h : ¬ s.toList = t.toList) (h2 : 1 ≤ n) (h3 : 1099511627776 < n) (hs : (s.size : Int) ≤ 9223372036854775807) (ht : (t.size : Int) ≤ 9223372036854775807) (e : chkL 3 s t n = 4) :
    Calls Tryz.prog 180 #[.agg #[.int .i64 3, .string s, .string t, .int .i64 n]] w (CkPost (chkL 3 s t n) w) := by
  have a1 : (s.toList == t.toList) = false := by simpa using h
  have a2 : (s.toList != t.toList) = true := by simpa using h
  have _u := Lib.hid (And.intro hs ht)
  have E := Lib.hid e
  clear e
  go_enter Tryz.func180, Tryz.ntmps180
  go_wp2_with fail
  go_ret
  rw [E.out]
  exact ⟨rfl, new_box _ _⟩

set_option maxRecDepth 100000 in
set_option maxHeartbeats 1000000 in
theorem chk3_d (h : ¬ s.toList = t.toList) (h2 : 1 ≤ n) (h3 : n ≤ 1099511627776) (h4 : 12 < s.size) (hs : (s.size : Int) ≤ 9223372036854775807) (ht : (t.size : Int) ≤ 9223372036854775807) (e : chkL 3 s t n = 4) :
    Calls Tryz.prog 180 #[.agg #[.int .i64 3, .string s, .string t, .int .i64 n]] w (CkPost (chkL 3 s t n) w) := by
  have a1 : (s.toList == t.toList) = false := by simpa using h
  have a2 : (s.toList != t.toList) = true := by simpa using h
  have _u := Lib.hid (And.intro hs ht)
  have E := Lib.hid e
  clear e
  go_enter Tryz.func180, Tryz.ntmps180
  go_wp2_with fail
  go_ret
  rw [E.out]
  exact ⟨rfl, new_box _ _⟩

set_option maxRecDepth 100000 in
set_option maxHeartbeats 1000000 in
theorem chk3_e (h : ¬ s.toList = t.toList) (h2 : 1 ≤ n) (h3 : n ≤ 1099511627776) (h4 : s.size ≤ 12) (h5 : 12 < t.size) (hs : (s.size : Int) ≤ 9223372036854775807) (ht : (t.size : Int) ≤ 9223372036854775807) (e : chkL 3 s t n = 4) :
    Calls Tryz.prog 180 #[.agg #[.int .i64 3, .string s, .string t, .int .i64 n]] w (CkPost (chkL 3 s t n) w) := by
  have a1 : (s.toList == t.toList) = false := by simpa using h
  have a2 : (s.toList != t.toList) = true := by simpa using h
  have _u := Lib.hid (And.intro hs ht)
  have E := Lib.hid e
  clear e
  go_enter Tryz.func180, Tryz.ntmps180
  go_wp2_with fail
  go_ret
  rw [E.out]
  exact ⟨rfl, new_box _ _⟩

set_option maxRecDepth 100000 in
set_option maxHeartbeats 1000000 in
theorem chk3_f (h : ¬ s.toList = t.toList) (h2 : 1 ≤ n) (h3 : n ≤ 1099511627776) (h4 : s.size ≤ 12) (h5 : t.size ≤ 12) (hs : (s.size : Int) ≤ 9223372036854775807) (ht : (t.size : Int) ≤ 9223372036854775807) (e : chkL 3 s t n = 0) :
    Calls Tryz.prog 180 #[.agg #[.int .i64 3, .string s, .string t, .int .i64 n]] w (CkPost (chkL 3 s t n) w) := by
  have a1 : (s.toList == t.toList) = false := by simpa using h
  have a2 : (s.toList != t.toList) = true := by simpa using h
  have _u := Lib.hid (And.intro hs ht)
  have E := Lib.hid e
  clear e
  go_enter Tryz.func180, Tryz.ntmps180
  go_wp2_with fail
  go_ret
  rw [E.out]
  exact ⟨rfl, new_box _ _⟩

set_option maxRecDepth 100000 in
set_option maxHeartbeats 1000000 in
theorem chk0 (h1 : ¬ k = 1) (h2 : ¬ k = 2) (h3 : ¬ k = 3) (hs : (s.size : Int) ≤ 9223372036854775807) (ht : (t.size : Int) ≤ 9223372036854775807) (e : chkL k s t n = 5) :
    Calls Tryz.prog 180 #[.agg #[.int .i64 k, .string s, .string t, .int .i64 n]] w (CkPost (chkL k s t n) w) := by
  have k1 : (k != 1) = true := by simpa using h1
  have k2 : (k != 2) = true := by simpa using h2
  have k3 : (k != 3) = true := by simpa using h3
  clear h1 h2 h3
  have _u := Lib.hid (And.intro hs ht)
  have E := Lib.hid e
  clear e
  go_enter Tryz.func180, Tryz.ntmps180
  go_wp2_with fail
  go_ret
  rw [E.out]
  exact ⟨rfl, new_box _ _⟩

theorem lcheck_calls (hs : s.size ≤ maxLen) (ht : t.size ≤ maxLen) :
    Calls Tryz.prog 180 #[.agg #[.int .i64 k, .string s, .string t, .int .i64 n]] w fun en w' => en = .returned (.int .i64 (chkL k s t n)) ∧ Below w.heap.size w w' := by
  have hs' : (s.size : Int) ≤ 9223372036854775807 := by unfold maxLen at hs; omega
  have ht' : (t.size : Int) ≤ 9223372036854775807 := by unfold maxLen at ht; omega
  by_cases h1 : k = 1
  · subst h1
    by_cases a : s.toList = []
    · exact chk1_a n s t w a hs' ht' (by unfold chkL; simp [a])
    by_cases b : t.toList = []
    · by_cases c : n = 0
      · by_cases d : s.size ≤ 12
        · exact chk1_f n s t w a b c d hs' ht' (by unfold chkL; rw [if_pos (.inl rfl), if_pos ⟨a, b, c, d, by rw [size_nil b]; omega⟩])
        · exact chk1_d n s t w a b c (by omega) hs' ht' (by unfold chkL; rw [if_pos (.inl rfl), if_neg (fun e => d e.2.2.2.1)])
      · exact chk1_c n s t w a b c hs' ht' (by unfold chkL; rw [if_pos (.inl rfl), if_neg (fun e => c e.2.2.1)])
    · exact chk1_b n s t w a b hs' ht' (by unfold chkL; rw [if_pos (.inl rfl), if_neg (fun e => b e.2.1)])
  by_cases h2 : k = 2
  · subst h2
    by_cases a : s.toList = []
    · exact chk2_a n s t w a hs' ht' (by unfold chkL; simp [a])
    by_cases b : t.toList = []
    · by_cases c : n = 0
      · by_cases d : s.size ≤ 12
        · exact chk2_f n s t w a b c d hs' ht' (by unfold chkL; rw [if_pos (.inr rfl), if_pos ⟨a, b, c, d, by rw [size_nil b]; omega⟩])
        · exact chk2_d n s t w a b c (by omega) hs' ht' (by unfold chkL; rw [if_pos (.inr rfl), if_neg (fun e => d e.2.2.2.1)])
      · exact chk2_c n s t w a b c hs' ht' (by unfold chkL; rw [if_pos (.inr rfl), if_neg (fun e => c e.2.2.1)])
    · exact chk2_b n s t w a b hs' ht' (by unfold chkL; rw [if_pos (.inr rfl), if_neg (fun e => b e.2.1)])
  by_cases h3 : k = 3
  · subst h3
    by_cases a : s = t
    · exact chk3_a n s t w a hs' ht' (by unfold chkL; rw [if_neg (by decide), if_pos rfl, if_neg (fun e => e.1 (by rw [a]))])
    have a' : ¬ s.toList = t.toList := fun e => a (by rw [ByteArray.toList_eq, ByteArray.toList_eq] at e; exact WideShapes.bytes_inj e)
    by_cases b : 1 ≤ n
    · by_cases c : n ≤ 1099511627776
      · by_cases d : s.size ≤ 12
        · by_cases f : t.size ≤ 12
          · exact chk3_f n s t w a' b c d f hs' ht' (by unfold chkL; rw [if_neg (by decide), if_pos rfl, if_pos ⟨a', b, c, d, f⟩])
          · exact chk3_e n s t w a' b c d (by omega) hs' ht' (by unfold chkL; rw [if_neg (by decide), if_pos rfl, if_neg (fun e => f e.2.2.2.2)])
        · exact chk3_d n s t w a' b c (by omega) hs' ht' (by unfold chkL; rw [if_neg (by decide), if_pos rfl, if_neg (fun e => d e.2.2.2.1)])
      · exact chk3_c n s t w a' b (by omega) hs' ht' (by unfold chkL; rw [if_neg (by decide), if_pos rfl, if_neg (fun e => c e.2.2.1)])
    · exact chk3_b n s t w a' (by omega) hs' ht' (by unfold chkL; rw [if_neg (by decide), if_pos rfl, if_neg (fun e => b e.2.1)])
  · exact chk0 k n s t w h1 h2 h3 hs' ht' (by unfold chkL; rw [if_neg (by omega), if_neg h3])
end

end Go.Proofs.YtcdedkgkingbdaaGreatDoor
end

section
/- ledger: what Do gives. -/
namespace Go.Proofs.YtcdedkgkingbdaaGreatDoor
open Go.RowKit Go.Maps

section
variable {H : Type}

/-- An op done: the map, the error. -/
def doL (D : DataW H) (k : Int) (s t : ByteArray) (n : Int) : DataW H × Int :=
  if ¬ chkL k s t n = 0 then (D, chkL k s t n) else if k = 1 then opn D s else if k = 2 then cls D s else mov D s t n

def DPost (d m : Nat) (w : World) (r : DataW H × Int) (en : Ending) (w' : World) : Prop :=
  en = .returned (.int .i64 r.2) ∧ Bk w' d m r.1 ∧ w.grownBy w' (some m)

theorem chk_kind {k n : Int} {s t : ByteArray} (h : chkL k s t n = 0) : k = 1 ∨ k = 2 ∨ (k = 3 ∧ 1 ≤ n ∧ n ≤ 1099511627776) := by
  unfold chkL at h
  split at h
  · omega
  · split at h
    · split at h
      · rename_i h2; exact Or.inr (Or.inr ⟨by assumption, h2.2.1, h2.2.2.1⟩)
      · omega
    · omega

theorem below_any {w w' : World} (h : Below w.heap.size w w') (r : Option Nat) : w.grownBy w' r :=
  ⟨h.os, h.tape, h.output, h.size, fun i hi _ => h.block i hi⟩

theorem Bk.more {w w' : World} {d m : Nat} {D : DataW H} (h : Bk w d m D) (hb : Below w.heap.size w w') : Bk w' d m D :=
  h.kept (below_any hb none) (by simp) (by simp)

set_option maxRecDepth 100000 in
set_option maxHeartbeats 1000000 in
theorem bdo_calls (d m : Nat) (D : DataW H) (k n : Int) (s t : ByteArray) (w : World) (h : Bk w d m D) (hs : s.size ≤ maxLen) (ht : t.size ≤ maxLen) (hD : Maps.size D + 1 < maxLen)
    (ha : -1152921504606846976 ≤ amt D s) (ha' : amt D s ≤ 1152921504606846976) (hb : -1152921504606846976 ≤ amt D t) (hb' : amt D t ≤ 1152921504606846976) :
    Calls Tryz.prog 216 #[.pointer (some ⟨d, 0, none⟩), .agg #[.int .i64 k, .string s, .string t, .int .i64 n]] w fun en w' => DPost d m w (doL D k s t n) en w' := by
  have hck := fun W => lcheck_calls k n s t W hs ht
  by_cases hc : chkL k s t n = 0
  · rw [hc] at hck
    have E0 : doL D k s t n = if k = 1 then opn D s else if k = 2 then cls D s else mov D s t n := by unfold doL; rw [if_neg (by simpa using hc)]
    rcases chk_kind hc with rfl | rfl | ⟨rfl, hn1, hn2⟩
    · clear hc
      have E := Lib.hid (E0.trans (if_pos rfl))
      have B := Lib.hid h
      have HB := Lib.hid (And.intro (And.intro ha ha') (And.intro hb hb'))
      clear E0 h ha ha' hb hb'
      go_enter Tryz.func216, Tryz.ntmps216
      go_wp2_with fail
      refine (hck _).mono ?_
      rintro en w1 ⟨rfl, b1⟩
      have hz := b1.size
      simp at hz
      have G1 : Hid (w.grownBy w1 (some m)) := grown_trans (grown_alloc (grown_refl w _) _) (below_any b1 _)
      have B1 : Hid (Bk w1 d m D) := (B.out.more (new_box _ _)).more b1
      have C1 : Has w1 w.heap.size 35 #[.int .i64 1, .string s, .string t, .int .i64 n] := (Has.made _ _ _).below b1 (by simp)
      have b10 : w1.cell? ⟨w.heap.size, 0, none⟩ = some (.int .i64 1) := C1.cell 0
      have b11 : w1.cell? ⟨w.heap.size, 1, none⟩ = some (.string s) := C1.cell 1
      clear b1 C1 B
      go_wp2_with fail
      refine (bopen_calls d m D s w1 B1.out hs (by omega)).mono ?_
      rintro en w2 ⟨rfl, h2, g2⟩
      have H2 := Lib.hid h2
      have G2 := Lib.hid (grown_trans G1.out g2.grown)
      clear h2 g2
      go_wp2_with fail
      go_ret
      rw [E.out]
      exact ⟨rfl, H2.out, G2.out⟩
    · clear hc
      have E := Lib.hid (E0.trans ((if_neg (by decide)).trans (if_pos rfl)))
      have B := Lib.hid h
      have HB := Lib.hid (And.intro (And.intro ha ha') (And.intro hb hb'))
      clear E0 h ha ha' hb hb'
      go_enter Tryz.func216, Tryz.ntmps216
      go_wp2_with fail
      refine (hck _).mono ?_
      rintro en w1 ⟨rfl, b1⟩
      have hz := b1.size
      simp at hz
      have G1 : Hid (w.grownBy w1 (some m)) := grown_trans (grown_alloc (grown_refl w _) _) (below_any b1 _)
      have B1 : Hid (Bk w1 d m D) := (B.out.more (new_box _ _)).more b1
      have C1 : Has w1 w.heap.size 35 #[.int .i64 2, .string s, .string t, .int .i64 n] := (Has.made _ _ _).below b1 (by simp)
      have b10 : w1.cell? ⟨w.heap.size, 0, none⟩ = some (.int .i64 2) := C1.cell 0
      have b11 : w1.cell? ⟨w.heap.size, 1, none⟩ = some (.string s) := C1.cell 1
      clear b1 C1 B
      go_wp2_with fail
      refine (bclose_calls d m D s w1 B1.out hs).mono ?_
      rintro en w2 ⟨rfl, h2, g2⟩
      have H2 := Lib.hid h2
      have G2 := Lib.hid (grown_trans G1.out g2.grown)
      clear h2 g2
      go_wp2_with fail
      go_ret
      rw [E.out]
      exact ⟨rfl, H2.out, G2.out⟩
    · clear hc
      have E := Lib.hid (E0.trans ((if_neg (by decide)).trans (if_neg (by decide))))
      have B := Lib.hid h
      have HB := Lib.hid (And.intro (And.intro ha ha') (And.intro hb hb'))
      clear E0 h ha ha' hb hb'
      go_enter Tryz.func216, Tryz.ntmps216
      go_wp2_with fail
      refine (hck _).mono ?_
      rintro en w1 ⟨rfl, b1⟩
      have hz := b1.size
      simp at hz
      have G1 : Hid (w.grownBy w1 (some m)) := grown_trans (grown_alloc (grown_refl w _) _) (below_any b1 _)
      have B1 : Hid (Bk w1 d m D) := (B.out.more (new_box _ _)).more b1
      have C1 : Has w1 w.heap.size 35 #[.int .i64 3, .string s, .string t, .int .i64 n] := (Has.made _ _ _).below b1 (by simp)
      have b10 : w1.cell? ⟨w.heap.size, 0, none⟩ = some (.int .i64 3) := C1.cell 0
      have b11 : w1.cell? ⟨w.heap.size, 1, none⟩ = some (.string s) := C1.cell 1
      have b12 : w1.cell? ⟨w.heap.size, 2, none⟩ = some (.string t) := C1.cell 2
      have b13 : w1.cell? ⟨w.heap.size, 3, none⟩ = some (.int .i64 n) := C1.cell 3
      clear b1 C1 B
      go_wp2_with fail
      refine (bmove_calls d m D s t n w1 B1.out hs ht hD (by omega) hn2 HB.out.1.1 HB.out.1.2 HB.out.2.1 HB.out.2.2).mono ?_
      rintro en w2 ⟨rfl, h2, g2⟩
      have H2 := Lib.hid h2
      have G2 := Lib.hid (grown_trans G1.out g2.grown)
      clear h2 g2
      go_wp2_with fail
      go_ret
      rw [E.out]
      exact ⟨rfl, H2.out, G2.out⟩
  · have E : Hid (doL D k s t n = (D, chkL k s t n)) := if_pos hc
    generalize hq : chkL k s t n = c at *
    have hc' : (c != 0) = true := by simpa using hc
    have B := Lib.hid h
    clear hq hc h ha ha' hb hb'
    go_enter Tryz.func216, Tryz.ntmps216
    go_wp2_with fail
    refine (hck _).mono ?_
    rintro en w1 ⟨rfl, b1⟩
    have hz := b1.size
    simp at hz
    have G1 : Hid (w.grownBy w1 (some m)) := grown_trans (grown_alloc (grown_refl w _) _) (below_any b1 _)
    have B1 : Hid (Bk w1 d m D) := (B.out.more (new_box _ _)).more b1
    clear b1 B
    go_wp2_with fail
    go_ret
    rw [E.out]
    exact ⟨rfl, B1.out, G1.out⟩

end
end Go.Proofs.YtcdedkgkingbdaaGreatDoor
end

section
/- ledger: what New gives. -/
namespace Go.Proofs.YtcdedkgkingbdaaGreatDoor
open Go.RowKit Go.Maps

section
variable {H : Type}

/-- The house alone. -/
def D0 : DataW H := (DataW.map []).put (kS ⟨#[]⟩) (nI 0)

def NewPost (H : Type) (w : World) (en : Ending) (w' : World) : Prop :=
  ∃ d m, en = .returned (.pointer (some ⟨d, 0, none⟩)) ∧ Bk (H := H) w' d m D0 ∧ Below w.heap.size w w' ∧ w.heap.size ≤ d ∧ w.heap.size ≤ m

set_option maxRecDepth 100000 in
set_option maxHeartbeats 400000 in
theorem bnew_calls (w : World) : Calls Tryz.prog 87 #[] w fun en w' => NewPost H w en w' := by
  have hrun0 := run_makeMap (P := Tryz.prog) 238 w
  obtain ⟨w1, hrun1, hown1, hturn1⟩ := (World.ownsMap_made (H := H) w Tryz.prog 9 (plainElem Tryz.prog 3)).store strKeyed Tryz.underlying238 (by unfold maxLen; omega) (kS_of (s := ⟨#[]⟩) (Nat.zero_le _)) (plainElem_int Tryz.underlying3 (a := 0) (by decide))
  have hb : Below w.heap.size w w1 := below_grown (grown_trans (grown_alloc (grown_refl w _) _) hturn1.grown) (Nat.le_refl _) (Nat.le_refl _)
  have hM : Hid (Mp w1 w.heap.size (D0 (H := H))) := ownsMap_tight hown1
  have hB := Lib.hid hb
  clear hown1 hturn1 hb
  go_enter Tryz.func87, Tryz.ntmps87
  go_wp2_with fail
  go_ret
  have hz := hB.out.size
  refine ⟨w1.heap.size, w.heap.size, rfl, ⟨Has.made _ _ _, hM.out.alloc _⟩, ?_, hz, Nat.le_refl _⟩
  exact below_grown (b := w.heap.size) (grown_alloc (grown_below hB.out _ (Nat.le_refl _)) _) (Nat.le_refl _) (Nat.le_refl _)

end
end Go.Proofs.YtcdedkgkingbdaaGreatDoor
end

