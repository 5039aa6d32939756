/- What wire's Reader gives behind an error: nothing, and the error stays; both readers answer alike there. -/
import Derived.Test.YtigojpjmncclaaaSumB
import Derived.Test.YtigojpjmncclaaaRefD
namespace Go.Proofs.Ytigojpjmncclaaa
open Go.RowKit

/-- Behind a call at an error: nothing is left, the error stays, v is answered. -/
def DeadPost (b : Nat) (e : Int) (w : World) (v : Value) (en : Ending) (w' : World) : Prop :=
  en = .returned v ∧ Rd w' b ⟨#[]⟩ e ∧ w.grownBy w' (some b)

theorem none_len : (⟨#[]⟩ : ByteArray).size ≤ maxLen := Nat.zero_le _
theorem dead_err {e : Int} (he : e ≠ 0) (k : Nat) (hk : k ≠ 0) (a b : Nat) : errOf e (k, a, b) = e := by
  unfold errOf
  rw [if_neg hk, first_some he]
theorem dead_upto {e : Int} (he : e ≠ 0) (most : Int) : upto most ⟨#[]⟩ e = (0, ⟨#[]⟩, e) := by
  have hd : dec 0 0 (⟨#[]⟩ : ByteArray).data.toList = (1, 0, 0) := rfl
  unfold upto
  rw [hd]
  show (if ((0 : Nat) : Int) ≤ max most 0 then ((0 : Nat), restOf (⟨#[]⟩ : ByteArray) (1, 0, 0), errOf e (1, 0, 0)) else ((0 : Nat), (⟨#[]⟩ : ByteArray), first (errOf e (1, 0, 0)) 3)) = _
  rw [if_pos (by omega), dead_err he 1 (by omega)]
  rfl
theorem dead_take {e : Int} (he : e ≠ 0) : takeN 32 ⟨#[]⟩ e = (⟨#[]⟩, ⟨#[]⟩, e) := by
  have h : ¬ 32 ≤ (⟨#[]⟩ : ByteArray).size := by show ¬ 32 ≤ 0; omega
  rw [takeN, if_neg h, first_some he]
theorem dead_str {e : Int} (he : e ≠ 0) (most : Int) : strN most ⟨#[]⟩ e = (⟨#[]⟩, ⟨#[]⟩, e) := by
  unfold strN
  rw [dead_upto he]
  rfl

theorem num_dead (b : Nat) (e : Int) (w : World) (he : e ≠ 0) (h : Rd w b ⟨#[]⟩ e) : Calls Try.prog 21 #[.pointer (some ⟨b, 0, none⟩)] w fun en w' => DeadPost b e w (.int .u64 0) en w' :=
  (num_any b ⟨#[]⟩ e w none_len h).mono fun en w' hp => by
    obtain ⟨h1, h2, h3⟩ := hp
    refine ⟨h1, ?_, h3⟩
    have : errOf e (dec 0 0 (⟨#[]⟩ : ByteArray).data.toList) = e := dead_err he 1 (by omega) 0 0
    rw [this] at h2
    exact h2
theorem int_dead (b : Nat) (e : Int) (w : World) (he : e ≠ 0) (h : Rd w b ⟨#[]⟩ e) : Calls Try.prog 23 #[.pointer (some ⟨b, 0, none⟩)] w fun en w' => DeadPost b e w (.int .i64 0) en w' :=
  (rint_any b ⟨#[]⟩ e w none_len h).mono fun en w' hp => by
    obtain ⟨h1, h2, h3⟩ := hp
    refine ⟨h1, ?_, h3⟩
    have : errOf e (dec 0 0 (⟨#[]⟩ : ByteArray).data.toList) = e := dead_err he 1 (by omega) 0 0
    rw [this] at h2
    exact h2
theorem upto_dead (b : Nat) (e most : Int) (w : World) (he : e ≠ 0) (h : Rd w b ⟨#[]⟩ e) (hm0 : -9223372036854775808 ≤ most) (hm1 : most ≤ 9223372036854775807) :
    Calls Try.prog 29 #[.pointer (some ⟨b, 0, none⟩), .int .i64 most] w fun en w' => DeadPost b e w (.int .i64 0) en w' :=
  (upto_any b ⟨#[]⟩ e most w none_len h hm0 hm1).mono fun en w' hp => by
    rw [dead_upto he] at hp
    exact hp
theorem str_dead (b : Nat) (e most : Int) (w : World) (he : e ≠ 0) (h : Rd w b ⟨#[]⟩ e) (hm0 : -9223372036854775808 ≤ most) (hm1 : most ≤ 9223372036854775807) :
    Calls Try.prog 22 #[.pointer (some ⟨b, 0, none⟩), .int .i64 most] w fun en w' => DeadPost b e w (.string ⟨#[]⟩) en w' :=
  (str_any b ⟨#[]⟩ e most w none_len h hm0 hm1).mono fun en w' hp => by
    rw [dead_str he] at hp
    exact hp
theorem sum32_none : sum32 ⟨#[]⟩ = zeros := rfl
theorem sum_dead (b : Nat) (e : Int) (w : World) (he : e ≠ 0) (h : Rd w b ⟨#[]⟩ e) : Calls Try.prog 24 #[.pointer (some ⟨b, 0, none⟩)] w fun en w' => DeadPost b e w (.agg (cellsOf zeros)) en w' :=
  (rsum_any b ⟨#[]⟩ e w none_len h).mono fun en w' hp => by
    rw [dead_take he] at hp
    exact hp

set_option maxRecDepth 100000 in
set_option maxHeartbeats 400000 in
theorem sums_dead (b : Nat) (e most : Int) (w : World) (he : e ≠ 0) (h : Rd w b ⟨#[]⟩ e) (hm0 : -9223372036854775808 ≤ most) (hm1 : most ≤ 9223372036854775807) :
    Calls Try.prog 20 #[.pointer (some ⟨b, 0, none⟩), .int .i64 most] w fun en w' => DeadPost b e w (.slice none 0 0) en w' := by
  go_enter Try.func20, Try.ntmps20
  go_wp2_with fail
  refine (upto_dead b e most w he h hm0 hm1).mono ?_
  rintro en w1 ⟨rfl, h1, g1⟩
  obtain ⟨c0, c1, -, -⟩ := h1.two
  have H1 := Lib.hid h1
  clear h h1
  go_wp2_with fail
  go_loop [6, 21] (fun l i => l = .slice none 0 0 ∧ i = .int .i64 0) (fun _ _ => 0)
  case atStart => exact ⟨rfl, rfl⟩
  case round =>
    obtain ⟨rfl, rfl⟩ := hrel
    go_wp2_with fail
    go_ret
    exact ⟨rfl, H1.out, g1⟩

/-- Three structs that lay before a call are as they were behind it. -/
theorem three_grown {w w1 : World} {b : Nat} {A B C D E F : Value} {t u v : TypeId} (hb : b < w.heap.size)
    (h : (((w.alloc (.cells #[A, B] t)).alloc (.cells #[C, D] u)).alloc (.cells #[E, F] v)).grownBy w1 (some b)) :
    Has w1 w.heap.size t #[A, B] ∧ Has w1 (w.heap.size + 1) u #[C, D] ∧ Has w1 (w.heap.size + 2) v #[E, F] ∧ w.heap.size + 2 < w1.heap.size ∧ Turn (fun k => k = b ∨ w.heap.size ≤ k) w w1 := by
  have hs := h.size
  simp at hs
  refine ⟨(((Has.made _ _ _).alloc _).alloc _).grown h ?_, ((made_at _ _ (by simp)).alloc _).grown h ?_, (made_at _ _ (by simp)).grown h ?_, by omega,
    ((((Turn.refl _ w).alloc _).alloc _).alloc _).grown h (fun j hj _ => .inl (by injection hj with hj; exact hj.symm))⟩
  all_goals (intro e; injection e with e; omega)

/-- Both readers answer alike behind an error: the law's take says so, and the error stays. -/
def LTakePost (b : Nat) (e : Int) (w : World) (en : Ending) (w' : World) : Prop :=
  en = .returned (.tuple #[.agg #[.string ⟨#[]⟩, .int .i64 e], .bool true]) ∧ Rd w' b ⟨#[]⟩ e ∧ w.grownBy w' (some b)

theorem ltake_close {b : Nat} {e : Int} {w w' : World} {a : Act} (hr : (results Try.f28 a.tmps).run Try.prog w' = .ok (.tuple #[.agg #[.string ⟨#[]⟩, .int .i64 e], .bool true]) w') (h : Rd w' b ⟨#[]⟩ e) (t : Turn (fun k => k = b ∨ w.heap.size ≤ k) w w') (hd : a.defers = [] := by rfl) :
    bodyPost Try.prog Try.f28 (fun en w' => LTakePost b e w en w') .ret a w' :=
  bodyPost_ret hr hd ⟨rfl, h, t.grownBy⟩

set_option maxRecDepth 100000 in
set_option maxHeartbeats 1000000 in
theorem ltake_1 (b : Nat) (e n : Int) (w : World) (he : e ≠ 0) (h : Rd w b ⟨#[]⟩ e) :
    Calls Try.prog 28 #[.pointer (some ⟨b, 0, none⟩), .agg #[.string ⟨#[]⟩, .int .i64 e], .agg #[.int .i64 1, .int .i64 n]] w fun en w' => LTakePost b e w en w' := by
  have hbl := h.lt
  have H := Lib.hid h
  clear h
  go_enter Try.func28, Try.ntmps28
  go_wp2_with fail
  refine (num_dead b e _ he (by exact ((H.out.alloc _).alloc _).alloc _)).mono ?_
  rintro en w1 ⟨rfl, h1, g1⟩
  obtain ⟨hx1, ht1, hr1, q1, T1⟩ := three_grown hbl g1
  obtain ⟨c0, c1, -, -⟩ := hx1.two
  obtain ⟨-, t1, -, -⟩ := ht1.two
  have H1 := Lib.hid h1
  have HR := Lib.hid hr1
  have HT := Lib.hid T1
  clear g1 hx1 ht1 hr1 T1 h1
  go_wp2_with fail
  refine (ftakenum_dead _ _ _ he).mono ?_
  rintro en w2 ⟨rfl, hb2⟩
  have h2 := H1.out.below hb2 H1.out.lt
  obtain ⟨d0, d1, f0, f1⟩ := (HR.out.below hb2 HR.out.lt).two
  have q2 : w.heap.size + 2 < w2.heap.size := by have := hb2.size; omega
  have H2 := Lib.hid h2
  have T2 := Lib.hid (HT.out.trans (Turn.of_below (F := fun k => k = b ∨ w.heap.size ≤ k) hb2 (fun j _ h => by omega)) (fun j _ h => h))
  clear hb2 h2 H1 HR HT c0 c1 q1 t1
  go_wp2_with fail
  exact ltake_close (by simp [results, Try.results28, go_sem, d0, d1, q2]) (by repeat (first | exact H2.out | refine Has.alloc ?_ _ | refine Has.far ?_ (by simp; omega) _)) (by repeat (first | exact T2.out | refine Turn.alloc ?_ _ | refine Turn.put ?_ (fun h => by omega) _ _))

set_option maxRecDepth 100000 in
set_option maxHeartbeats 1000000 in
theorem ltake_2 (b : Nat) (e n : Int) (w : World) (he : e ≠ 0) (h : Rd w b ⟨#[]⟩ e) :
    Calls Try.prog 28 #[.pointer (some ⟨b, 0, none⟩), .agg #[.string ⟨#[]⟩, .int .i64 e], .agg #[.int .i64 2, .int .i64 n]] w fun en w' => LTakePost b e w en w' := by
  have hbl := h.lt
  have H := Lib.hid h
  clear h
  go_enter Try.func28, Try.ntmps28
  go_wp2_with fail
  refine (int_dead b e _ he (by exact ((H.out.alloc _).alloc _).alloc _)).mono ?_
  rintro en w1 ⟨rfl, h1, g1⟩
  obtain ⟨hx1, ht1, hr1, q1, T1⟩ := three_grown hbl g1
  obtain ⟨c0, c1, -, -⟩ := hx1.two
  obtain ⟨-, t1, -, -⟩ := ht1.two
  have H1 := Lib.hid h1
  have HR := Lib.hid hr1
  have HT := Lib.hid T1
  clear g1 hx1 ht1 hr1 T1 h1
  go_wp2_with fail
  refine (ftakeint_dead _ _ _ he).mono ?_
  rintro en w2 ⟨rfl, hb2⟩
  have h2 := H1.out.below hb2 H1.out.lt
  obtain ⟨d0, d1, f0, f1⟩ := (HR.out.below hb2 HR.out.lt).two
  have q2 : w.heap.size + 2 < w2.heap.size := by have := hb2.size; omega
  have H2 := Lib.hid h2
  have T2 := Lib.hid (HT.out.trans (Turn.of_below (F := fun k => k = b ∨ w.heap.size ≤ k) hb2 (fun j _ h => by omega)) (fun j _ h => h))
  clear hb2 h2 H1 HR HT c0 c1 q1 t1
  go_wp2_with fail
  exact ltake_close (by simp [results, Try.results28, go_sem, d0, d1, q2]) (by repeat (first | exact H2.out | refine Has.alloc ?_ _ | refine Has.far ?_ (by simp; omega) _)) (by repeat (first | exact T2.out | refine Turn.alloc ?_ _ | refine Turn.put ?_ (fun h => by omega) _ _))

set_option maxRecDepth 100000 in
set_option maxHeartbeats 1000000 in
theorem ltake_3 (b : Nat) (e n : Int) (w : World) (he : e ≠ 0) (h : Rd w b ⟨#[]⟩ e) (hm0 : -9223372036854775808 ≤ n) (hm1 : n ≤ 9223372036854775807) :
    Calls Try.prog 28 #[.pointer (some ⟨b, 0, none⟩), .agg #[.string ⟨#[]⟩, .int .i64 e], .agg #[.int .i64 3, .int .i64 n]] w fun en w' => LTakePost b e w en w' := by
  have hbl := h.lt
  have H := Lib.hid h
  clear h
  go_enter Try.func28, Try.ntmps28
  go_wp2_with fail
  refine (upto_dead b e n _ he (by exact ((H.out.alloc _).alloc _).alloc _) hm0 hm1).mono ?_
  rintro en w1 ⟨rfl, h1, g1⟩
  obtain ⟨hx1, ht1, hr1, q1, T1⟩ := three_grown hbl g1
  obtain ⟨c0, c1, -, -⟩ := hx1.two
  obtain ⟨-, t1, -, -⟩ := ht1.two
  have H1 := Lib.hid h1
  have HR := Lib.hid hr1
  have HT := Lib.hid T1
  clear g1 hx1 ht1 hr1 T1 h1
  go_wp2_with fail
  refine (fupto_dead _ _ _ _ he hm0 hm1).mono ?_
  rintro en w2 ⟨rfl, hb2⟩
  have h2 := H1.out.below hb2 H1.out.lt
  obtain ⟨d0, d1, f0, f1⟩ := (HR.out.below hb2 HR.out.lt).two
  have q2 : w.heap.size + 2 < w2.heap.size := by have := hb2.size; omega
  have H2 := Lib.hid h2
  have T2 := Lib.hid (HT.out.trans (Turn.of_below (F := fun k => k = b ∨ w.heap.size ≤ k) hb2 (fun j _ h => by omega)) (fun j _ h => h))
  clear hb2 h2 H1 HR HT c0 c1 q1 t1
  go_wp2_with fail
  exact ltake_close (by simp [results, Try.results28, go_sem, d0, d1, q2]) (by repeat (first | exact H2.out | refine Has.alloc ?_ _ | refine Has.far ?_ (by simp; omega) _)) (by repeat (first | exact T2.out | refine Turn.alloc ?_ _ | refine Turn.put ?_ (fun h => by omega) _ _))

set_option maxRecDepth 100000 in
set_option maxHeartbeats 1000000 in
theorem ltake_4 (b : Nat) (e n : Int) (w : World) (he : e ≠ 0) (h : Rd w b ⟨#[]⟩ e) (hm0 : -9223372036854775808 ≤ n) (hm1 : n ≤ 9223372036854775807) :
    Calls Try.prog 28 #[.pointer (some ⟨b, 0, none⟩), .agg #[.string ⟨#[]⟩, .int .i64 e], .agg #[.int .i64 4, .int .i64 n]] w fun en w' => LTakePost b e w en w' := by
  have hbl := h.lt
  have H := Lib.hid h
  clear h
  go_enter Try.func28, Try.ntmps28
  go_wp2_with fail
  refine (str_dead b e n _ he (by exact ((H.out.alloc _).alloc _).alloc _) hm0 hm1).mono ?_
  rintro en w1 ⟨rfl, h1, g1⟩
  obtain ⟨hx1, ht1, hr1, q1, T1⟩ := three_grown hbl g1
  obtain ⟨c0, c1, -, -⟩ := hx1.two
  obtain ⟨-, t1, -, -⟩ := ht1.two
  have H1 := Lib.hid h1
  have HR := Lib.hid hr1
  have HT := Lib.hid T1
  clear g1 hx1 ht1 hr1 T1 h1
  go_wp2_with fail
  refine (ftakestr_dead _ _ _ _ he hm0 hm1).mono ?_
  rintro en w2 ⟨rfl, hb2⟩
  have h2 := H1.out.below hb2 H1.out.lt
  obtain ⟨d0, d1, f0, f1⟩ := (HR.out.below hb2 HR.out.lt).two
  have q2 : w.heap.size + 2 < w2.heap.size := by have := hb2.size; omega
  have H2 := Lib.hid h2
  have T2 := Lib.hid (HT.out.trans (Turn.of_below (F := fun k => k = b ∨ w.heap.size ≤ k) hb2 (fun j _ h => by omega)) (fun j _ h => h))
  clear hb2 h2 H1 HR HT c0 c1 q1 t1
  go_wp2_with fail
  exact ltake_close (by simp [results, Try.results28, go_sem, d0, d1, q2]) (by repeat (first | exact H2.out | refine Has.alloc ?_ _ | refine Has.far ?_ (by simp; omega) _)) (by repeat (first | exact T2.out | refine Turn.alloc ?_ _ | refine Turn.put ?_ (fun h => by omega) _ _))

end Go.Proofs.Ytigojpjmncclaaa
