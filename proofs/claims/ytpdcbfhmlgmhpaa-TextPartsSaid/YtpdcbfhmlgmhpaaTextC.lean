/- text: Cut, Few, Inverse; an op as a struct; what Inverse takes back. -/
import Derived.Test.YtpdcbfhmlgmhpaaTextB
import Derived.Test.YtpdcbfhmlgmhpaaOpen
namespace Go.Proofs.Ytpdcbfhmlgmhpaa
open Go.ChangeShapes Go.WideShapes Go.ChangeAt Go.RowKit

/-- At most n bytes of s. -/
def cutB (s : ByteArray) (n : Nat) : ByteArray := s.extract 0 n
theorem cutB_size (s : ByteArray) (n : Nat) : (cutB s n).size ≤ n := by
  unfold cutB
  rw [ByteArray.size_extract]
  omega

set_option maxHeartbeats 400000 in
theorem tcut_any (s : ByteArray) (n : Nat) (w : World) (hn : n ≤ 1000000) (_hs : s.size ≤ maxLen) :
    Calls Try.prog 26 #[.string s, .int .i64 n] w fun en w' => en = .returned (.string (cutB s n)) ∧ w = w' := by
  unfold maxLen at _hs
  by_cases h : n < s.size
  · have E : Hid (cutB s n = s.extract 0 n) := rfl
    go_enter Try.func26, Try.ntmps26
    go_wp2
    go_ret
    rw [E.out]
    exact ⟨rfl, rfl⟩
  · have E : Hid (cutB s n = s) := by
      show _ = _
      apply ByteArray.ext
      simp [cutB, ByteArray.data_extract]
      omega
    go_enter Try.func26, Try.ntmps26
    go_wp2
    go_ret
    rw [E.out]
    exact ⟨rfl, rfl⟩

set_option maxRecDepth 100000 in
set_option maxHeartbeats 400000 in
theorem few_calls (k a n : Int) (x : ByteArray) (w : World) (hx : x.size ≤ maxLen) :
    Calls Try.prog 16 #[.agg #[.int .i64 k, .int .i64 a, .string x, .int .i64 n]] w fun en w' => en = .returned (.agg #[.int .i64 k, .int .i64 a, .string (cutB x 45), .int .i64 n]) ∧ Below w.heap.size w w' := by
  go_enter Try.func16, Try.ntmps16
  go_wp2_with fail
  refine (tcut_any x 45 _ (by omega) hx).mono ?_
  rintro en w1 ⟨rfl, rfl⟩
  go_wp2_with fail
  refine bodyPost_ret (v := .agg #[.int .i64 k, .int .i64 a, .string (cutB x 45), .int .i64 n]) (by simp [results, Try.results16, go_sem]) rfl ⟨rfl, one_box ?_⟩
  repeat (first | exact Turn.refl _ _ | refine Turn.drew ?_ | refine Turn.alloc ?_ _ | refine Turn.put ?_ (fun h => by omega) _ _)

set_option maxRecDepth 100000 in
set_option maxHeartbeats 400000 in
theorem inv1_calls (a n : Int) (x g : ByteArray) (w : World) :
    Calls Try.prog 25 #[.agg #[.int .i64 1, .int .i64 a, .string x, .int .i64 n], .string g] w fun en w' => en = .returned (.agg #[.int .i64 2, .int .i64 a, .string ⟨#[]⟩, .int .i64 x.size]) ∧ Below w.heap.size w w' := by
  go_enter Try.func25, Try.ntmps25
  go_wp2_with fail
  refine bodyPost_ret (v := .agg #[.int .i64 2, .int .i64 a, .string ⟨#[]⟩, .int .i64 x.size]) (by simp [results, Try.results25, go_sem]) rfl ⟨rfl, one_box ?_⟩
  repeat (first | exact Turn.refl _ _ | refine Turn.drew ?_ | refine Turn.alloc ?_ _ | refine Turn.put ?_ (fun h => by omega) _ _)

set_option maxRecDepth 100000 in
set_option maxHeartbeats 400000 in
theorem inv2_calls (a n : Int) (x g : ByteArray) (w : World) :
    Calls Try.prog 25 #[.agg #[.int .i64 2, .int .i64 a, .string x, .int .i64 n], .string g] w fun en w' => en = .returned (.agg #[.int .i64 1, .int .i64 a, .string g, .int .i64 0]) ∧ Below w.heap.size w w' := by
  go_enter Try.func25, Try.ntmps25
  go_wp2_with fail
  refine bodyPost_ret (v := .agg #[.int .i64 1, .int .i64 a, .string g, .int .i64 0]) (by simp [results, Try.results25, go_sem]) rfl ⟨rfl, one_box ?_⟩
  repeat (first | exact Turn.refl _ _ | refine Turn.drew ?_ | refine Turn.alloc ?_ _ | refine Turn.put ?_ (fun h => by omega) _ _)

/-- An op. -/
structure OpV where
  k : Int
  a : Int
  x : ByteArray
  n : Int

def OpV.cells (o : OpV) : List Value := [.int .i64 o.k, .int .i64 o.a, .string o.x, .int .i64 o.n]
def OpV.chk (o : OpV) : Int := Go.Proofs.Ytpdcbfhmlgmhpaa.chk o.k o.a o.x.size o.n
def doV (s : ByteArray) (o : OpV) : ByteArray × ByteArray × Int := doT s o.k o.a o.x o.n

theorem bytes_eq {s t : ByteArray} (h : s.data.toList = t.data.toList) : s = t := by
  apply ByteArray.ext
  exact Array.toList_inj.1 h

theorem extract_list (s : ByteArray) (i j : Nat) : (s.extract i j).data.toList = (s.data.toList.take j).drop i := by
  simp only [ByteArray.data_extract, Array.toList_extract, List.extract_eq_take_drop, List.drop_take]

theorem append_list (s t : ByteArray) : (s ++ t).data.toList = s.data.toList ++ t.data.toList := by simp

theorem head_list (s : ByteArray) (n : Nat) : (s.extract 0 n).data.toList = s.data.toList.take n := by
  rw [extract_list, List.drop_zero]

theorem tail_list (s : ByteArray) (n : Nat) : (s.extract n s.size).data.toList = s.data.toList.drop n := by
  have h : s.data.toList.take s.size = s.data.toList := List.take_of_length_le (by simp)
  rw [extract_list, h]

/-- What was let in goes again. -/
theorem back_ins (s x : ByteArray) (n : Nat) (hn : n ≤ s.size) : let s' := s.extract 0 n ++ x ++ s.extract n s.size
    s'.size = s.size + x.size ∧ s'.extract 0 n ++ s'.extract (n + x.size) s'.size = s := by
  intro s'
  have hz : s'.size = s.size + x.size := by simp only [s', ByteArray.size_append, ByteArray.size_extract]; omega
  refine ⟨hz, bytes_eq ?_⟩
  have hl : s.data.toList.length = s.size := by simp
  have hx : x.data.toList.length = x.size := by simp
  have es : s'.data.toList = s.data.toList.take n ++ x.data.toList ++ s.data.toList.drop n := by simp only [s', append_list, head_list, tail_list]
  rw [append_list, head_list, tail_list, es]
  generalize s.data.toList = L at *
  generalize x.data.toList = X at *
  have h1 : (L.take n).length = n := by rw [List.length_take]; omega
  have e1 : (L.take n ++ X ++ L.drop n).take n = L.take n := by
    rw [List.append_assoc, List.take_append_of_le_length (by omega), List.take_of_length_le (by omega)]
  have e3 : (L.take n ++ X ++ L.drop n).drop (n + x.size) = L.drop n := by
    rw [List.drop_append_of_le_length (by rw [List.length_append]; omega), List.drop_eq_nil_of_le (by rw [List.length_append]; omega), List.nil_append]
  rw [e1, e3, List.take_append_drop]

/-- What went comes in again. -/
theorem back_cut (s : ByteArray) (n k : Nat) (hn : n + k ≤ s.size) : let s' := s.extract 0 n ++ s.extract (n + k) s.size
    s'.size + k = s.size ∧ (s.extract n (n + k)).size = k ∧ s'.extract 0 n ++ s.extract n (n + k) ++ s'.extract n s'.size = s := by
  intro s'
  have hz : s'.size + k = s.size := by simp only [s', ByteArray.size_append, ByteArray.size_extract]; omega
  refine ⟨hz, by rw [ByteArray.size_extract]; omega, bytes_eq ?_⟩
  have hl : s.data.toList.length = s.size := by simp
  have es : s'.data.toList = s.data.toList.take n ++ s.data.toList.drop (n + k) := by simp only [s', append_list, head_list, tail_list]
  rw [append_list, append_list, head_list, tail_list, extract_list, es]
  generalize s.data.toList = L at *
  have h1 : (L.take n).length = n := by rw [List.length_take]; omega
  have e1 : (L.take n ++ L.drop (n + k)).take n = L.take n := by
    rw [List.take_append_of_le_length (by omega), List.take_of_length_le (by omega)]
  have e2 : (L.take n ++ L.drop (n + k)).drop n = L.drop (n + k) := by
    rw [List.drop_append_of_le_length (by omega), List.drop_eq_nil_of_le (by omega), List.nil_append]
  rw [e1, e2]
  have e3 : (L.take (n + k)).drop n ++ L.drop (n + k) = L.drop n := by
    rw [List.drop_take, show n + k - n = k by omega, ← List.drop_drop, List.take_append_drop]
  rw [List.append_assoc, e3, List.take_append_drop]

/-- Behind an error nothing has changed. -/
theorem do_err {s : ByteArray} {o : OpV} (h : (doV s o).2.2 ≠ 0) : (doV s o).1 = s ∧ (doV s o).2.1 = ⟨#[]⟩ := by
  unfold doV doT at h ⊢
  split at h
  · rename_i hc
    rw [if_pos hc]
    split at h
    · rename_i h1
      rw [if_pos h1]
      unfold insT at h ⊢
      split at h
      · rename_i h2; rw [if_pos h2]; exact ⟨rfl, rfl⟩
      · rename_i h2
        rw [if_neg h2]
        split at h
        · rename_i h3; rw [if_pos h3]; exact ⟨rfl, rfl⟩
        · exact absurd rfl h
    · rename_i h1
      rw [if_neg h1]
      unfold cutT at h ⊢
      split at h
      · rename_i h2; rw [if_pos h2]; exact ⟨rfl, rfl⟩
      · exact absurd rfl h
  · rename_i hc
    rw [if_neg hc]
    exact ⟨rfl, rfl⟩

/-- The op that takes back one that was done, by what went. -/
def inv (o : OpV) (g : ByteArray) : OpV := if o.k = 1 then ⟨2, o.a, ⟨#[]⟩, o.x.size⟩ else ⟨1, o.a, g, 0⟩

theorem do_size {s : ByteArray} {o : OpV} (hs : s.size ≤ 200) : (doV s o).1.size ≤ 200 := by
  unfold doV doT
  split
  · split
    · unfold insT
      split
      · exact hs
      · split
        · exact hs
        · rename_i h1 h2
          simp only [ByteArray.size_append, ByteArray.size_extract]
          omega
    · unfold cutT
      split
      · exact hs
      · rename_i h1
        simp only [ByteArray.size_append, ByteArray.size_extract]
        omega
  · exact hs

/-- BACK: behind an op that was OK its Inverse is OK, and makes the document what it was. -/
theorem do_back {s : ByteArray} {o : OpV} (hs : s.size ≤ 200) (h : (doV s o).2.2 = 0) :
    (doV (doV s o).1 (inv o (doV s o).2.1)).1 = s ∧ (doV (doV s o).1 (inv o (doV s o).2.1)).2.2 = 0 ∧ (inv o (doV s o).2.1).chk = 0 ∧ (inv o (doV s o).2.1).x.size ≤ 200 ∧ (o.k = 1 ∨ o.k = 2) := by
  obtain ⟨k, a, x, n⟩ := o
  unfold doV at h ⊢
  simp only at h ⊢
  have hc : chk k a x.size n = 0 := by
    unfold doT at h
    split at h
    · assumption
    · exact h
  obtain ⟨ha0, ha1, ho⟩ := chk_ok hc
  rcases ho with ⟨rfl, h1, h2, rfl⟩ | ⟨rfl, h1, h2, h3⟩
  · have ei : ∀ g, inv ⟨1, a, x, 0⟩ g = ⟨2, a, ⟨#[]⟩, x.size⟩ := fun g => if_pos rfl
    have ed : doT s 1 a x 0 = ((insT s a.toNat x).1, ⟨#[]⟩, (insT s a.toNat x).2) := by unfold doT; rw [if_pos hc, if_pos rfl]
    rw [ed] at h ⊢
    rw [ei]
    simp only at h ⊢
    have e0 : ¬ s.size < a.toNat := by
      intro k
      unfold insT at h
      rw [if_pos k] at h
      exact absurd (show (6 : Int) = 0 from h) (by decide)
    have e1 : ¬ 200 < s.size + x.size := by
      intro k
      unfold insT at h
      rw [if_neg e0, if_pos k] at h
      exact absurd (show (7 : Int) = 0 from h) (by decide)
    have es : insT s a.toNat x = (s.extract 0 a.toNat ++ x ++ s.extract a.toNat s.size, 0) := by unfold insT; rw [if_neg e0, if_neg e1]
    obtain ⟨b1, b2⟩ := back_ins s x a.toNat (by omega)
    rw [es]
    simp only
    generalize s.extract 0 a.toNat ++ x ++ s.extract a.toNat s.size = s' at b1 b2
    have hc2 : chk 2 a (ByteArray.size ⟨#[]⟩ : Nat) (x.size : Int) = 0 := by
      unfold chk
      rw [if_neg (by decide), if_pos rfl, if_pos ⟨ha0, ha1, h1, h2, rfl⟩]
    have ed2 : doT s' 2 a ⟨#[]⟩ x.size = cutT s' a.toNat x.size := by unfold doT; rw [if_pos hc2, if_neg (by decide)]; rfl
    have ec : cutT s' a.toNat x.size = (s'.extract 0 a.toNat ++ s'.extract (a.toNat + x.size) s'.size, s'.extract a.toNat (a.toNat + x.size), 0) := by unfold cutT; rw [if_neg (by omega)]
    rw [ed2, ec]
    exact ⟨b2, rfl, hc2, by decide, .inl trivial⟩
  · have ei : ∀ g, inv ⟨2, a, x, n⟩ g = ⟨1, a, g, 0⟩ := fun g => if_neg (show ¬ (2 : Int) = 1 by decide)
    have ed : doT s 2 a x n = cutT s a.toNat n.toNat := by unfold doT; rw [if_pos hc, if_neg (by decide)]
    rw [ed] at h ⊢
    rw [ei]
    have e0 : ¬ s.size < a.toNat + n.toNat := by
      intro k
      unfold cutT at h
      rw [if_pos k] at h
      exact absurd (show (6 : Int) = 0 from h) (by decide)
    have es : cutT s a.toNat n.toNat = (s.extract 0 a.toNat ++ s.extract (a.toNat + n.toNat) s.size, s.extract a.toNat (a.toNat + n.toNat), 0) := by unfold cutT; rw [if_neg e0]
    obtain ⟨b1, b2, b3⟩ := back_cut s a.toNat n.toNat (by omega)
    rw [es]
    simp only
    generalize s.extract 0 a.toNat ++ s.extract (a.toNat + n.toNat) s.size = s' at b1 b3
    generalize s.extract a.toNat (a.toNat + n.toNat) = g at b2 b3
    have hc2 : chk 1 a (g.size : Int) 0 = 0 := by
      unfold chk
      rw [if_pos rfl, if_pos ⟨ha0, ha1, by omega, by omega, rfl⟩]
    have ed2 : doT s' 1 a g 0 = ((insT s' a.toNat g).1, ⟨#[]⟩, (insT s' a.toNat g).2) := by unfold doT; rw [if_pos hc2, if_pos rfl]
    have ec : insT s' a.toNat g = (s'.extract 0 a.toNat ++ g ++ s'.extract a.toNat s'.size, 0) := by unfold insT; rw [if_neg (by omega), if_neg (by omega)]
    rw [ed2, ec]
    exact ⟨b3, rfl, hc2, by show g.size ≤ 200; omega, .inr trivial⟩

/-- The ops of a slice that is handed in. -/
def ArgO (w : World) (a : Option Addr) (len : Nat) : Prop :=
  len ≤ maxLen ∧ ∀ i, i < len → ∃ b o, a = some ⟨b, o, none⟩ ∧ b < w.heap.size ∧ ∃ (k t n : Int) (x : ByteArray), x.size ≤ maxLen ∧
    w.cell? ⟨b, o + i * 4, none⟩ = some (.int .i64 k) ∧ w.cell? ⟨b, o + i * 4 + 1, none⟩ = some (.int .i64 t) ∧ w.cell? ⟨b, o + i * 4 + 2, none⟩ = some (.string x) ∧ w.cell? ⟨b, o + i * 4 + 3, none⟩ = some (.int .i64 n)

theorem openedO {H : Type} {enc : TypeId × Value → H} {w : World} {spare : Nat → Bool} {held : Bool} {a : Option Addr} {len cap : Nat} {d : DataW H} {p : List MemPlace} (h : DataW.Trod enc Try.prog w 0 spare held 22 (.slice a len cap) d p) : ArgO w a len := by
  obtain ⟨h1, h2, h3⟩ := opened_rows Try.underlying22 Try.underlying27 (by kernel_rfl) (by kernel_rfl) (by decide) h
  refine ⟨Nat.le_trans h1 h2, fun i hi => ?_⟩
  obtain ⟨b, o, e, hb, hf⟩ := h3 i hi
  obtain ⟨v0, n0, y0, c0, t0⟩ := hf 0 _ rfl
  obtain ⟨v1, n1, y1, c1, t1⟩ := hf 1 _ rfl
  obtain ⟨v2, n2, y2, c2, t2⟩ := hf 2 _ rfl
  obtain ⟨v3, n3, y3, c3, t3⟩ := hf 3 _ rfl
  obtain ⟨k, ek, _, _⟩ := DataW.trod_int Try.underlying3 t0
  obtain ⟨t, et, _, _⟩ := DataW.trod_int Try.underlying3 t1
  obtain ⟨x, ex, _, hx⟩ := DataW.trod_string Try.underlying9 t2
  obtain ⟨n, en, _, _⟩ := DataW.trod_int Try.underlying3 t3
  simp only [List.cons.injEq, and_true] at ek et ex en
  subst ek; subst et; subst ex; subst en
  exact ⟨b, o, e, hb, k, t, n, x, hx, c0, c1, c2, c3⟩

theorem ArgO.turn {w wr : World} {a : Option Addr} {len : Nat} (h : ArgO w a len) (t : Turn (fun j => w.heap.size ≤ j) w wr) : ArgO wr a len := by
  refine ⟨h.1, fun i hi => ?_⟩
  obtain ⟨b, o, e, hb, k, p, n, x, hx, c0, c1, c2, c3⟩ := h.2 i hi
  have ht : ∀ q : Nat, wr.cell? ⟨b, q, none⟩ = w.cell? ⟨b, q, none⟩ := fun q => Turn.cell t hb (fun h3 => Nat.not_lt_of_le h3 hb)
  exact ⟨b, o, e, Nat.lt_of_lt_of_le hb t.size, k, p, n, x, hx, by rw [ht]; exact c0, by rw [ht]; exact c1, by rw [ht]; exact c2, by rw [ht]; exact c3⟩

end Go.Proofs.Ytpdcbfhmlgmhpaa
