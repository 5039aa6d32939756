/- What the document's own reader gives behind an error: the error, and nothing. -/
import Derived.Test.YtigojpjmncclaaaReg
import Derived.Lib.ItoaWalk
namespace Go.Proofs.Ytigojpjmncclaaa
open Go.RowKit

set_option maxRecDepth 100000 in
set_option maxHeartbeats 400000 in
theorem ftake_dead (s : ByteArray) (e n : Int) (w : World) (he : e ≠ 0) :
    Calls Try.prog 35 #[.agg #[.string s, .int .i64 e], .int .i64 n] w fun en w' => en = .returned (.tuple #[.agg #[.string ⟨#[]⟩, .int .i64 e], .string ⟨#[]⟩]) ∧ Below w.heap.size w w' := by
  have he' : (e != 0) = true := by simpa using he
  clear he
  go_enter Try.func35, Try.ntmps35
  go_wp2_with fail
  exact bodyPost_ret (v := .tuple #[.agg #[.string ⟨#[]⟩, .int .i64 e], .string ⟨#[]⟩]) (by simp [results, Try.results35, go_sem]) rfl ⟨rfl, (((Below.refl _ _).alloc (Nat.le_refl _) _).alloc (by simp) _)⟩

set_option maxRecDepth 100000 in
set_option maxHeartbeats 400000 in
theorem ftakenum_dead (s : ByteArray) (e : Int) (w : World) (he : e ≠ 0) :
    Calls Try.prog 31 #[.agg #[.string s, .int .i64 e]] w fun en w' => en = .returned (.tuple #[.agg #[.string ⟨#[]⟩, .int .i64 e], .int .u64 0]) ∧ Below w.heap.size w w' := by
  have he' : (e != 0) = true := by simpa using he
  have HE := Lib.hid he
  clear he
  go_enter Try.func31, Try.ntmps31
  go_wp2_with fail
  go_name_world W hW
  have hx : Has W w.heap.size 56 #[.string s, .int .i64 e] := by rw [← hW]; exact (Has.made _ _ _).alloc _
  have hr : Has W (w.heap.size + 1) 56 #[.string ⟨#[]⟩, .int .i64 0] := by rw [← hW]; exact made_at _ _ (by simp)
  have hB : Turn (fun k => w.heap.size ≤ k) w W := by rw [← hW]; exact ((Turn.refl _ w).alloc _).alloc _
  have hz' : w.heap.size + 1 < W.heap.size := hr.lt
  have HX := Lib.hid hx
  have HR := Lib.hid hr
  obtain ⟨c0, c1, -, -⟩ := hx.two
  clear hW hx hr
  go_loopw [5] (fun i wr => i = .int .i64 0 ∧ wr = W) (fun _ _ => 0)
  case atStart => exact ⟨rfl, rfl⟩
  case round =>
    obtain ⟨rfl, rfl⟩ := hrel
    go_wp2_with fail
    refine (ftake_dead _ _ _ _ HE.out).mono ?_
    rintro en w1 ⟨rfl, hb⟩
    have hs1 := hb.size
    have hx1 := HX.out.below hb HX.out.lt
    have hr1 := HR.out.below hb HR.out.lt
    have T1 : Turn (fun k => w.heap.size ≤ k) w w1 := hB.trans (Turn.of_below (F := fun k => w.heap.size ≤ k) hb (fun j _ h => by omega)) (fun j _ h => h)
    clear c0 c1
    obtain ⟨c0, c1, f0, f1⟩ := hx1.two
    obtain ⟨d0, d1, g0, g1⟩ := hr1.two
    have T := Lib.hid T1
    have q0 : w.heap.size < w1.heap.size := by omega
    have q1 : w.heap.size + 1 < w1.heap.size := by omega
    clear HX HR hb hB hx1 hr1 T1 hs1 hz'
    go_wp2_with fail
    refine bodyPost_ret (v := .tuple #[.agg #[.string ⟨#[]⟩, .int .i64 e], .int .u64 0]) (by simp [results, Try.results31, go_sem, d0, d1, q1]) rfl ?_
    refine ⟨rfl, Turn.below (F := fun k => w.heap.size ≤ k) ?_ (Nat.le_refl _) (fun j hj h => by omega)⟩
    repeat (first | exact T.out | refine Turn.alloc ?_ _ | refine Turn.put ?_ (fun h => by omega) _ _)

/-- Behind a call: the struct and the result that lay before are as they were. -/
theorem two_below {w w1 : World} {A B : Value} {C D : Value} {t u : TypeId} (hb : Below ((w.alloc (.cells #[A, B] t)).alloc (.cells #[C, D] u)).heap.size ((w.alloc (.cells #[A, B] t)).alloc (.cells #[C, D] u)) w1) :
    Has w1 w.heap.size t #[A, B] ∧ Has w1 (w.heap.size + 1) u #[C, D] ∧ w.heap.size < w1.heap.size ∧ w.heap.size + 1 < w1.heap.size ∧ Turn (fun k => w.heap.size ≤ k) w w1 := by
  have hs := hb.size
  simp at hs
  exact ⟨((Has.made _ _ _).alloc _).below hb (by simp; omega), (made_at _ _ (by simp)).below hb (by simp), by omega, by omega,
    (((Turn.refl _ w).alloc _).alloc _).trans (Turn.of_below (F := fun k => w.heap.size ≤ k) hb (fun j hj h => by simp at h; omega)) (fun j _ h => h)⟩

set_option maxRecDepth 100000 in
set_option maxHeartbeats 400000 in
theorem ftakeint_dead (s : ByteArray) (e : Int) (w : World) (he : e ≠ 0) :
    Calls Try.prog 32 #[.agg #[.string s, .int .i64 e]] w fun en w' => en = .returned (.tuple #[.agg #[.string ⟨#[]⟩, .int .i64 e], .int .i64 0]) ∧ Below w.heap.size w w' := by
  go_enter Try.func32, Try.ntmps32
  go_wp2_with fail
  refine (ftakenum_dead _ _ _ he).mono ?_
  rintro en w1 ⟨rfl, hb⟩
  obtain ⟨hx1, hr1, q0, q1, T1⟩ := two_below hb
  obtain ⟨c0, c1, f0, f1⟩ := hx1.two
  obtain ⟨d0, d1, g0, g1⟩ := hr1.two
  have T := Lib.hid T1
  clear hb hx1 hr1 T1
  go_wp2_with fail
  refine bodyPost_ret (v := .tuple #[.agg #[.string ⟨#[]⟩, .int .i64 e], .int .i64 0]) (by simp [results, Try.results32, go_sem, d0, d1]) rfl ?_
  refine ⟨rfl, Turn.below (F := fun k => w.heap.size ≤ k) ?_ (Nat.le_refl _) (fun j hj h => by omega)⟩
  repeat (first | exact T.out | refine Turn.alloc ?_ _ | refine Turn.put ?_ (fun h => by omega) _ _)

set_option maxRecDepth 100000 in
set_option maxHeartbeats 400000 in
theorem fupto_dead (s : ByteArray) (e most : Int) (w : World) (he : e ≠ 0) (hm0 : -9223372036854775808 ≤ most) (hm1 : most ≤ 9223372036854775807) :
    Calls Try.prog 33 #[.agg #[.string s, .int .i64 e], .int .i64 most] w fun en w' => en = .returned (.tuple #[.agg #[.string ⟨#[]⟩, .int .i64 e], .int .i64 0]) ∧ Below w.heap.size w w' := by
  have hb : most < 0 ∨ 0 ≤ most := by omega
  rcases hb with hm | hm
  all_goals
    go_enter Try.func33, Try.ntmps33
    go_wp2_with fail
    refine (ftakenum_dead _ _ _ he).mono ?_
    rintro en w1 ⟨rfl, hb⟩
    obtain ⟨hx1, hr1, q0, q1, T1⟩ := two_below hb
    obtain ⟨c0, c1, f0, f1⟩ := hx1.two
    obtain ⟨d0, d1, g0, g1⟩ := hr1.two
    have T := Lib.hid T1
    clear hb hx1 hr1 T1
    go_wp2_with fail
    refine bodyPost_ret (v := .tuple #[.agg #[.string ⟨#[]⟩, .int .i64 e], .int .i64 0]) (by simp [results, Try.results33, go_sem, d0, d1]) rfl ?_
    refine ⟨rfl, Turn.below (F := fun k => w.heap.size ≤ k) ?_ (Nat.le_refl _) (fun j hj h => by omega)⟩
    repeat (first | exact T.out | refine Turn.alloc ?_ _ | refine Turn.put ?_ (fun h => by omega) _ _)

set_option maxRecDepth 100000 in
set_option maxHeartbeats 400000 in
theorem ftakestr_dead (s : ByteArray) (e most : Int) (w : World) (he : e ≠ 0) (hm0 : -9223372036854775808 ≤ most) (hm1 : most ≤ 9223372036854775807) :
    Calls Try.prog 34 #[.agg #[.string s, .int .i64 e], .int .i64 most] w fun en w' => en = .returned (.tuple #[.agg #[.string ⟨#[]⟩, .int .i64 e], .string ⟨#[]⟩]) ∧ Below w.heap.size w w' := by
  go_enter Try.func34, Try.ntmps34
  go_wp2_with fail
  refine (fupto_dead _ _ _ _ he hm0 hm1).mono ?_
  rintro en w1 ⟨rfl, hb⟩
  obtain ⟨hx1, hr1, q0, q1, T1⟩ := two_below hb
  obtain ⟨c0, c1, f0, f1⟩ := hx1.two
  have HR1 := Lib.hid hr1
  have T := Lib.hid T1
  clear hb hx1 hr1 T1
  go_wp2_with fail
  refine (ftake_dead _ _ _ _ he).mono ?_
  rintro en w2 ⟨rfl, hb⟩
  have hs2 : w1.heap.size ≤ w2.heap.size := by simpa using hb.size
  obtain ⟨d0, d1, g0, g1⟩ := (((HR1.out.far (p := ⟨w.heap.size, 0, none⟩) (by simp) _).far (p := ⟨w.heap.size, 1, none⟩) (by simp) _).below hb (by simpa using q1)).two
  have T2 : Turn (fun k => w.heap.size ≤ k) w w2 := (((T.out.put (fun h => by omega) _ _).put (fun h => by omega) _ _).trans (Turn.of_below (F := fun k => w.heap.size ≤ k) hb (fun j _ h => by simp at h; omega)) (fun j _ h => h))
  have q2 : w.heap.size + 1 < w2.heap.size := by omega
  have T := Lib.hid T2
  clear c0 c1 f0 f1 hb HR1 T2 hs2
  go_wp2_with fail
  refine bodyPost_ret (v := .tuple #[.agg #[.string ⟨#[]⟩, .int .i64 e], .string ⟨#[]⟩]) (by simp [results, Try.results34, go_sem, d0, d1]) rfl ?_
  refine ⟨rfl, Turn.below (F := fun k => w.heap.size ≤ k) ?_ (Nat.le_refl _) (fun j hj h => by omega)⟩
  repeat (first | exact T.out | refine Turn.alloc ?_ _ | refine Turn.put ?_ (fun h => by omega) _ _)

set_option maxRecDepth 100000 in
set_option maxHeartbeats 400000 in
theorem lsums_dead (s : ByteArray) (e most : Int) (w : World) (he : e ≠ 0) (hm0 : -9223372036854775808 ≤ most) (hm1 : most ≤ 9223372036854775807) :
    Calls Try.prog 36 #[.agg #[.string s, .int .i64 e], .int .i64 most] w fun en w' => en = .returned (.tuple #[.agg #[.string ⟨#[]⟩, .int .i64 e], .string ⟨#[]⟩]) ∧ Below w.heap.size w w' := by
  have he' : (e != 0) = true := by simpa using he
  go_enter Try.func36, Try.ntmps36
  go_wp2_with fail
  refine (fupto_dead _ _ _ _ he hm0 hm1).mono ?_
  rintro en w1 ⟨rfl, hb⟩
  obtain ⟨hx1, hr1, q0, q1, T1⟩ := two_below hb
  obtain ⟨c0, c1, f0, f1⟩ := hx1.two
  obtain ⟨d0, d1, g0, g1⟩ := hr1.two
  have T := Lib.hid T1
  clear hb hx1 hr1 T1
  go_wp2_with fail
  go_name_world W hW
  have HW := Lib.hid hW
  go_loopw [8] (fun i wr => i = .int .i64 0 ∧ wr = W) (fun _ _ => 0)
  case atStart => exact ⟨rfl, rfl⟩
  case round =>
    obtain ⟨rfl, rfl⟩ := hrel
    subst hW
    clear HW
    go_wp2_with fail
    refine bodyPost_ret (v := .tuple #[.agg #[.string ⟨#[]⟩, .int .i64 e], .string ⟨#[]⟩]) (by simp [results, Try.results36, go_sem, d0, d1]) rfl ?_
    refine ⟨rfl, Turn.below (F := fun k => w.heap.size ≤ k) ?_ (Nat.le_refl _) (fun j hj h => by omega)⟩
    repeat (first | exact T.out | refine Turn.alloc ?_ _ | refine Turn.put ?_ (fun h => by omega) _ _)

end Go.Proofs.Ytigojpjmncclaaa
