/- Texts laid into one: PrcX, PrcY, WireN, WireG. -/
import Derived.Test.YtbpcfkniflgmfaaYPrcW
import Derived.Test.YtbpcfkniflgmfaaY002
import Derived.Test.YtbpcfkniflgmfaaY001
section
/- The document's reader: Upto, TakeStr over what is put, over nothing, behind an error. -/
namespace Go.Proofs.Ytbpcfkniflgmfaa.prc
open Go Go.RowKit

/-- Behind a call: the struct and the result that lay before are as they were. -/
theorem two_below {w w1 : World} {A B : Value} {C D : Value} {t u : TypeId} (hb : Below ((w.alloc (.cells #[A, B] t)).alloc (.cells #[C, D] u)).heap.size ((w.alloc (.cells #[A, B] t)).alloc (.cells #[C, D] u)) w1) :
    Has w1 w.heap.size t #[A, B] ∧ Has w1 (w.heap.size + 1) u #[C, D] ∧ w.heap.size < w1.heap.size ∧ w.heap.size + 1 < w1.heap.size ∧ Turn (fun k => w.heap.size ≤ k) w w1 := by
  have hs := hb.size
  simp at hs
  exact ⟨((Has.made _ _ _).alloc _).below hb (by simp; omega), (made_at _ _ (by simp)).below hb (by simp), by omega, by omega,
    (((Turn.refl _ w).alloc _).alloc _).trans (Turn.of_below (F := fun k => w.heap.size ≤ k) hb (fun j hj h => by simp at h; omega)) (fun j _ h => h)⟩

set_option maxRecDepth 100000 in
set_option maxHeartbeats 400000 in
theorem rupto_dead (s : ByteArray) (e most : Int) (w : World) (he : e ≠ 0) (hm0 : -9223372036854775808 ≤ most) (hm1 : most ≤ 9223372036854775807) :
    Calls Try.prog 107 #[.agg #[.string s, .int .i64 e], .int .i64 most] w fun en w' => en = .returned (.tuple #[.agg #[.string ⟨#[]⟩, .int .i64 e], .int .i64 0]) ∧ Below w.heap.size w w' := by
  have hb : most < 0 ∨ 0 ≤ most := by omega
  rcases hb with hm | hm
  all_goals
    go_enter Try.func107, Try.ntmps107
    go_wp2_with fail
    refine (rnum_dead _ _ _ he).mono ?_
    rintro en w1 ⟨rfl, hb⟩
    obtain ⟨hx1, hr1, q0, q1, T1⟩ := two_below hb
    obtain ⟨c0, c1, f0, f1⟩ := hx1.two
    obtain ⟨d0, d1, g0, g1⟩ := hr1.two
    have T := Lib.hid T1
    clear hb hx1 hr1 T1
    go_wp2_with fail
    refine bodyPost_ret (v := .tuple #[.agg #[.string ⟨#[]⟩, .int .i64 e], .int .i64 0]) (by simp [results, Try.results107, go_sem, d0, d1]) rfl ?_
    refine ⟨rfl, Turn.below (F := fun k => w.heap.size ≤ k) ?_ (Nat.le_refl _) (fun j hj h => by omega)⟩
    repeat (first | exact T.out | refine Turn.alloc ?_ _ | refine Turn.put ?_ (fun h => by omega) _ _)

set_option maxRecDepth 100000 in
set_option maxHeartbeats 400000 in
theorem rupto_none (most : Int) (w : World) (hm0 : -9223372036854775808 ≤ most) (hm1 : most ≤ 9223372036854775807) :
    Calls Try.prog 107 #[.agg #[.string ⟨#[]⟩, .int .i64 0], .int .i64 most] w fun en w' => en = .returned (.tuple #[.agg #[.string ⟨#[]⟩, .int .i64 1], .int .i64 0]) ∧ Below w.heap.size w w' := by
  have hb : most < 0 ∨ 0 ≤ most := by omega
  rcases hb with hm | hm
  all_goals
    go_enter Try.func107, Try.ntmps107
    go_wp2_with fail
    refine (rnum_none _).mono ?_
    rintro en w1 ⟨rfl, hb⟩
    obtain ⟨hx1, hr1, q0, q1, T1⟩ := two_below hb
    obtain ⟨c0, c1, f0, f1⟩ := hx1.two
    obtain ⟨d0, d1, g0, g1⟩ := hr1.two
    have T := Lib.hid T1
    clear hb hx1 hr1 T1
    go_wp2_with fail
    refine bodyPost_ret (v := .tuple #[.agg #[.string ⟨#[]⟩, .int .i64 1], .int .i64 0]) (by simp [results, Try.results107, go_sem, d0, d1]) rfl ?_
    refine ⟨rfl, Turn.below (F := fun k => w.heap.size ≤ k) ?_ (Nat.le_refl _) (fun j hj h => by omega)⟩
    repeat (first | exact T.out | refine Turn.alloc ?_ _ | refine Turn.put ?_ (fun h => by omega) _ _)

set_option maxRecDepth 100000 in
set_option maxHeartbeats 400000 in
theorem rupto_ok (n : Nat) (L : List UInt8) (most : Int) (w : World) (hn : (n : Int) ≤ most) (hm1 : most ≤ 1099511627776) (hL : L.length < 900000) :
    Calls Try.prog 107 #[rdv ⟨(enc n ++ L).toArray⟩ 0, .int .i64 most] w fun en w' => en = .returned (.tuple #[rdv ⟨L.toArray⟩ 0, .int .i64 n]) ∧ Below w.heap.size w w' := by
  have hk : (enc n).length ≤ 10 := by
    unfold enc
    rw [List.length_append, List.length_singleton]
    have := hi_len 9 (n / 128) (by omega)
    omega
  have HN := Lib.hid (rnum_ok (enc n ++ L) n (enc n).length (((w.alloc (.cells #[.string ⟨(enc n ++ L).toArray⟩, .int .i64 0] 180)).alloc (.cells #[.string ⟨#[]⟩, .int .i64 0] 180))) (dec_of_enc n (by omega) L) (by omega) (by rw [List.length_append]; omega))
  rw [List.drop_left] at HN
  obtain ⟨v, hv⟩ : ∃ v : Int, v = (n : Int) := ⟨_, rfl⟩
  rw [← hv] at HN ⊢
  have hv0 : 0 ≤ v := by omega
  have hv1 : v ≤ most := by omega
  have hv2 : v ≤ 9223372036854775807 := by omega
  have hm0 : 0 ≤ most := by omega
  clear hv hk hn
  unfold rdv at *
  go_enter Try.func107, Try.ntmps107
  go_wp2_with fail
  refine HN.out.mono ?_
  rintro en w1 ⟨rfl, hb⟩
  obtain ⟨hx1, hr1, q0, q1, T1⟩ := two_below hb
  obtain ⟨c0, c1, f0, f1⟩ := hx1.two
  obtain ⟨d0, d1, g0, g1⟩ := hr1.two
  have T := Lib.hid T1
  clear hb hx1 hr1 T1 HN
  go_wp2_with fail
  refine bodyPost_ret (v := .tuple #[.agg #[.string ⟨L.toArray⟩, .int .i64 0], .int .i64 v]) (by simp [results, Try.results107, go_sem, d0, d1]) rfl ?_
  refine ⟨rfl, Turn.below (F := fun k => w.heap.size ≤ k) ?_ (Nat.le_refl _) (fun j hj h => by omega)⟩
  repeat (first | exact T.out | refine Turn.alloc ?_ _ | refine Turn.put ?_ (fun h => by omega) _ _)

set_option maxRecDepth 100000 in
set_option maxHeartbeats 400000 in
theorem rstr_dead (s : ByteArray) (e most : Int) (w : World) (he : e ≠ 0) (hm0 : -9223372036854775808 ≤ most) (hm1 : most ≤ 9223372036854775807) :
    Calls Try.prog 108 #[.agg #[.string s, .int .i64 e], .int .i64 most] w fun en w' => en = .returned (.tuple #[.agg #[.string ⟨#[]⟩, .int .i64 e], .string ⟨#[]⟩]) ∧ Below w.heap.size w w' := by
  go_enter Try.func108, Try.ntmps108
  go_wp2_with fail
  refine (rupto_dead _ _ _ _ he hm0 hm1).mono ?_
  rintro en w1 ⟨rfl, hb⟩
  obtain ⟨hx1, hr1, q0, q1, T1⟩ := two_below hb
  obtain ⟨c0, c1, f0, f1⟩ := hx1.two
  have HR1 := Lib.hid hr1
  have T := Lib.hid T1
  clear hb hx1 hr1 T1
  go_wp2_with fail
  refine (rtake_dead _ _ _ _ he).mono ?_
  rintro en w2 ⟨rfl, hb⟩
  have hs2 : w1.heap.size ≤ w2.heap.size := by simpa using hb.size
  obtain ⟨d0, d1, g0, g1⟩ := (((HR1.out.far (p := ⟨w.heap.size, 0, none⟩) (by simp) _).far (p := ⟨w.heap.size, 1, none⟩) (by simp) _).below hb (by simpa using q1)).two
  have T2 : Turn (fun k => w.heap.size ≤ k) w w2 := (((T.out.put (fun h => by omega) _ _).put (fun h => by omega) _ _).trans (Turn.of_below (F := fun k => w.heap.size ≤ k) hb (fun j _ h => by simp at h; omega)) (fun j _ h => h))
  have q2 : w.heap.size + 1 < w2.heap.size := by omega
  have T := Lib.hid T2
  clear c0 c1 f0 f1 hb HR1 T2 hs2
  go_wp2_with fail
  refine bodyPost_ret (v := .tuple #[.agg #[.string ⟨#[]⟩, .int .i64 e], .string ⟨#[]⟩]) (by simp [results, Try.results108, go_sem, d0, d1]) rfl ?_
  refine ⟨rfl, Turn.below (F := fun k => w.heap.size ≤ k) ?_ (Nat.le_refl _) (fun j hj h => by omega)⟩
  repeat (first | exact T.out | refine Turn.alloc ?_ _ | refine Turn.put ?_ (fun h => by omega) _ _)

set_option maxRecDepth 100000 in
set_option maxHeartbeats 400000 in
theorem rstr_ok (x : ByteArray) (most : Int) (w : World) (hx : (x.size : Int) ≤ most) (hm1 : most ≤ 100000) :
    Calls Try.prog 108 #[rdv ⟨(enc x.size ++ x.data.toList).toArray⟩ 0, .int .i64 most] w fun en w' => en = .returned (.tuple #[rdv ⟨#[]⟩ 0, .string x]) ∧ Below w.heap.size w w' := by
  have hxl : x.data.toList.length = x.size := by simp
  have hxx : (⟨x.data.toList.toArray⟩ : ByteArray) = x := by simp
  have HU := Lib.hid (rupto_ok x.size x.data.toList most (((w.alloc (.cells #[.string ⟨(enc x.size ++ x.data.toList).toArray⟩, .int .i64 0] 180)).alloc (.cells #[.string ⟨#[]⟩, .int .i64 0] 180))) hx (by omega) (by omega))
  rw [hxx] at HU
  have HX := Lib.hid hx
  have hb2 : x.size ≤ maxLen := by unfold maxLen; omega
  have e1 : x.extract x.size x.size = ⟨#[]⟩ := by
    apply ByteArray.ext
    apply Array.toList_inj.1
    simp
  have e2 : x.extract 0 x.size = x := by
    apply ByteArray.ext
    apply Array.toList_inj.1
    simp
  have HT := Lib.hid (fun w => rtake_live x x.size w (Nat.le_refl _) hb2)
  rw [e1, e2] at HT
  clear e1 e2 hb2 hx hxl hxx
  unfold rdv at *
  go_enter Try.func108, Try.ntmps108
  go_wp2_with fail
  refine HU.out.mono ?_
  rintro en w1 ⟨rfl, hb⟩
  obtain ⟨hx1, hr1, q0, q1, T1⟩ := two_below hb
  obtain ⟨c0, c1, f0, f1⟩ := hx1.two
  have HR1 := Lib.hid hr1
  have T := Lib.hid T1
  clear hb hx1 hr1 T1 HU
  go_wp2_with fail
  refine (HT.out _).mono ?_
  rintro en w2 ⟨rfl, hb⟩
  have hs2 : w1.heap.size ≤ w2.heap.size := by simpa using hb.size
  obtain ⟨d0, d1, g0, g1⟩ := (((HR1.out.far (p := ⟨w.heap.size, 0, none⟩) (by simp) _).far (p := ⟨w.heap.size, 1, none⟩) (by simp) _).below hb (by simpa using q1)).two
  have T2 : Turn (fun k => w.heap.size ≤ k) w w2 := (((T.out.put (fun h => by omega) _ _).put (fun h => by omega) _ _).trans (Turn.of_below (F := fun k => w.heap.size ≤ k) hb (fun j _ h => by simp at h; omega)) (fun j _ h => h))
  have q2 : w.heap.size + 1 < w2.heap.size := by omega
  have T := Lib.hid T2
  clear c0 c1 f0 f1 hb HR1 T2 hs2
  go_wp2_with fail
  refine bodyPost_ret (v := .tuple #[.agg #[.string ⟨#[]⟩, .int .i64 0], .string x]) (by simp [results, Try.results108, go_sem, d0, d1]) rfl ?_
  refine ⟨rfl, Turn.below (F := fun k => w.heap.size ≤ k) ?_ (Nat.le_refl _) (fun j hj h => by omega)⟩
  repeat (first | exact T.out | refine Turn.alloc ?_ _ | refine Turn.put ?_ (fun h => by omega) _ _)

end Go.Proofs.Ytbpcfkniflgmfaa.prc
end

section
/- The document's Parse: of a record's bytes, of nothing. -/
namespace Go.Proofs.Ytbpcfkniflgmfaa.prc
open Go Go.RowKit

theorem res_drec {fn : Func} {t u : Tmp} (h : fn.results = #[.cell t 38, .tmp u]) (tmps : Array Value) (w : World) (g : Nat) (a b : Int) (s : ByteArray) (v : Value) (hx : tmps.getD t undef = .pointer (some ⟨g, 0, none⟩)) (hv : tmps.getD u undef = v)
    (hE : Has w g 38 #[.int .i64 a, .int .i64 b, .string s]) :
    (results fn tmps).run Try.prog w = .ok (.tuple #[.agg #[.int .i64 a, .int .i64 b, .string s], v]) w := by
  have c0 : w.cell? ⟨g, 0, none⟩ = some (.int .i64 a) := hE.cell 0
  have c1 : w.cell? ⟨g, 1, none⟩ = some (.int .i64 b) := hE.cell 1
  have c2 : w.cell? ⟨g, 2, none⟩ = some (.string s) := hE.cell 2
  subst hv
  rw [Array.getD_eq_getD_getElem?] at hx
  simp [results, h, hx, go_sem, c0, c1, c2]

set_option maxRecDepth 100000 in
set_option maxHeartbeats 2000000 in
theorem rparse_tx (r : Rc) (w : World) (h : r.Fits) :
    Calls Try.prog 92 #[.string (tx r)] w fun en w' => en = .returned (.tuple #[.agg #[.int .i64 r.who, .int .i64 r.seq, .string r.body], .int .i64 0]) ∧ Below w.heap.size w w' := by
  obtain ⟨who, seq, body⟩ := r
  obtain ⟨h1, h2, h3⟩ := h
  dsimp only at h1 h2 h3 ⊢
  have hbl : body.data.toList.length = body.size := by simp
  have l2 := enc_len body.size (by omega)
  have l1 := enc_len seq (by omega)
  obtain ⟨s0, hs0⟩ : ∃ s0, s0 = tx ⟨who, seq, body⟩ := ⟨_, rfl⟩
  obtain ⟨s1, hs1⟩ : ∃ s1 : ByteArray, s1 = ⟨(enc seq ++ (enc body.size ++ body.data.toList)).toArray⟩ := ⟨_, rfl⟩
  obtain ⟨s2, hs2⟩ : ∃ s2 : ByteArray, s2 = ⟨(enc body.size ++ body.data.toList).toArray⟩ := ⟨_, rfl⟩
  have U1 : Hid (∀ w, Calls Try.prog 107 #[rdv s0 0, .int .i64 63] w fun en w' => en = .returned (.tuple #[rdv s1 0, .int .i64 who]) ∧ Below w.heap.size w w') := Lib.hid fun w => by
    rw [hs0, hs1]
    exact rupto_ok who (enc seq ++ (enc body.size ++ body.data.toList)) 63 w (by omega) (by omega) (by rw [List.length_append, List.length_append]; omega)
  have U2 : Hid (∀ w, Calls Try.prog 107 #[rdv s1 0, .int .i64 1099511627776] w fun en w' => en = .returned (.tuple #[rdv s2 0, .int .i64 seq]) ∧ Below w.heap.size w w') := Lib.hid fun w => by
    rw [hs1, hs2]
    exact rupto_ok seq (enc body.size ++ body.data.toList) 1099511627776 w (by omega) (by omega) (by rw [List.length_append]; omega)
  have U3 : Hid (∀ w, Calls Try.prog 108 #[rdv s2 0, .int .i64 1024] w fun en w' => en = .returned (.tuple #[rdv ⟨#[]⟩ 0, .string body]) ∧ Below w.heap.size w w') := Lib.hid fun w => by
    rw [hs2]
    exact rstr_ok body 1024 w (by omega) (by omega)
  rw [← hs0]
  clear hs0 hs1 hs2 l1 l2 hbl h1 h2 h3
  unfold rdv at *
  go_enter Try.func92, Try.ntmps92
  go_wp2_with fail
  refine (U1.out _).mono ?_
  rintro en w1 ⟨rfl, b1⟩
  have G1 : Hid (Has w1 w.heap.size 38 #[.int .i64 0, .int .i64 0, .string ⟨#[]⟩]) := Lib.hid ((Has.made w 38 _).below b1 (by simp))
  have B1 : Hid (Below w.heap.size w w1) := Lib.hid (((Below.refl _ w).alloc (Nat.le_refl _) _).trans (b1.mono (by simp)))
  clear b1
  obtain ⟨g, hg⟩ : ∃ g, g = w.heap.size := ⟨_, rfl⟩
  rw [← hg] at G1 B1 ⊢
  have HG := Lib.hid hg
  clear hg
  go_wp2_with fail
  refine calls_name (fun W3 hW3 => ?_)
  obtain ⟨q, hq⟩ : ∃ q, q = w1.heap.size := ⟨_, rfl⟩
  have hgq : g < q := by have := G1.out.lt; omega
  have Q3 : Hid (Has W3 q 180 #[.string s1, .int .i64 0]) := by rw [← hW3, hq]; exact Lib.hid (Has.made _ _ _)
  have G3 : Hid (Has W3 g 38 #[.int .i64 0, .int .i64 0, .string ⟨#[]⟩]) := by rw [← hW3]; exact Lib.hid (G1.out.alloc _)
  have B3 : Hid (Below g w W3) := by rw [← hW3]; exact Lib.hid (B1.out.alloc (by omega) _)
  rw [← hq]
  clear hW3 hq G1 B1
  refine (U2.out _).mono ?_
  rintro en w4 ⟨rfl, b4⟩
  have G4 := Lib.hid (G3.out.below b4 G3.out.lt)
  have Q4 := Lib.hid (Q3.out.below b4 Q3.out.lt)
  have B4 : Hid (Below g w w4) := Lib.hid (B3.out.trans (b4.mono (by have := G3.out.lt; omega)))
  have q0 : w4.cell? ⟨q, 0, none⟩ = some (.string s1) := Q4.out.cell 0
  have q1 : w4.cell? ⟨q, 1, none⟩ = some (.int .i64 0) := Q4.out.cell 1
  have z0 : w4.frozen? ⟨q, 0, none⟩ = false := Q4.out.free 0
  have z1 : w4.frozen? ⟨q, 1, none⟩ = false := Q4.out.free 1
  have ql : q < w4.heap.size := Q4.out.lt
  clear b4 G3 Q3 B3
  go_wp2_with fail
  refine calls_name (fun W5 hW5 => ?_)
  have Q5 : Hid (Has W5 q 180 #[.string s2, .int .i64 0]) := by
    rw [← hW5]
    have := (Q4.out.put 0 (.string s2)).put 1 (.int .i64 0)
    exact Lib.hid (by simpa using this)
  have G5 : Hid (Has W5 g 38 #[.int .i64 0, .int .i64 0, .string ⟨#[]⟩]) := by rw [← hW5]; exact Lib.hid ((G4.out.far (by show g ≠ q; omega) _).far (by show g ≠ q; omega) _)
  have B5 : Hid (Below g w W5) := by rw [← hW5]; exact Lib.hid ((B4.out.setCell (by show g ≤ q; omega) _).setCell (by show g ≤ q; omega) _)
  clear hW5 q0 q1 z0 z1 ql Q4 G4 B4
  refine (U3.out _).mono ?_
  rintro en w6 ⟨rfl, b6⟩
  have G6 := Lib.hid (G5.out.below b6 G5.out.lt)
  have Q6 := Lib.hid (Q5.out.below b6 Q5.out.lt)
  have B6 : Hid (Below g w w6) := Lib.hid (B5.out.trans (b6.mono (by have := G5.out.lt; omega)))
  have q0 : w6.cell? ⟨q, 0, none⟩ = some (.string s2) := Q6.out.cell 0
  have q1 : w6.cell? ⟨q, 1, none⟩ = some (.int .i64 0) := Q6.out.cell 1
  have z0 : w6.frozen? ⟨q, 0, none⟩ = false := Q6.out.free 0
  have z1 : w6.frozen? ⟨q, 1, none⟩ = false := Q6.out.free 1
  have ql : q < w6.heap.size := Q6.out.lt
  clear b6 G5 Q5 B5
  go_wp2_with fail
  refine calls_name (fun W7 hW7 => ?_)
  have Q7 : Hid (Has W7 q 180 #[.string ⟨#[]⟩, .int .i64 0]) := by
    rw [← hW7]
    have := (Q6.out.put 0 (.string ⟨#[]⟩)).put 1 (.int .i64 0)
    exact Lib.hid (by simpa using this)
  have G7 : Hid (Has W7 g 38 #[.int .i64 0, .int .i64 0, .string ⟨#[]⟩]) := by rw [← hW7]; exact Lib.hid ((G6.out.far (by show g ≠ q; omega) _).far (by show g ≠ q; omega) _)
  have B7 : Hid (Below g w W7) := by rw [← hW7]; exact Lib.hid ((B6.out.setCell (by show g ≤ q; omega) _).setCell (by show g ≤ q; omega) _)
  clear hW7 q0 q1 z0 z1 ql Q6 G6 B6
  refine (rend_ok _).mono ?_
  rintro en w8 ⟨rfl, b8⟩
  have G8 := Lib.hid (G7.out.below b8 G7.out.lt)
  have B8 : Hid (Below g w w8) := Lib.hid (B7.out.trans (b8.mono (by have := G7.out.lt; omega)))
  have z0 : w8.frozen? ⟨g, 0, none⟩ = false := G8.out.free 0
  have z1 : w8.frozen? ⟨g, 1, none⟩ = false := G8.out.free 1
  have z2 : w8.frozen? ⟨g, 2, none⟩ = false := G8.out.free 2
  have y0 : w8.cell? ⟨g, 0, none⟩ = some (.int .i64 0) := G8.out.cell 0
  have y1 : w8.cell? ⟨g, 1, none⟩ = some (.int .i64 0) := G8.out.cell 1
  have y2 : w8.cell? ⟨g, 2, none⟩ = some (.string ⟨#[]⟩) := G8.out.cell 2
  clear b8 G7 B7 Q7
  go_wp2_with fail
  have E9 := ((G8.out.put 0 (.int .i64 who)).put 1 (.int .i64 seq)).put 2 (.string body)
  have E10 : Has (((w8.setCell ⟨g, 0, none⟩ (.int .i64 who)).setCell ⟨g, 1, none⟩ (.int .i64 seq)).setCell ⟨g, 2, none⟩ (.string body)) g 38 #[.int .i64 who, .int .i64 seq, .string body] := by simpa using E9
  refine bodyPost_ret (res_drec rfl _ _ g who seq body (.int .i64 0) rfl rfl E10) rfl ⟨rfl, ?_⟩
  rw [← HG.out]
  refine Below.setCell (Below.setCell (Below.setCell B8.out ?_ _) ?_ _) ?_ _ <;> exact Nat.le_refl _

set_option maxRecDepth 100000 in
set_option maxHeartbeats 2000000 in
theorem rparse_none (w : World) :
    Calls Try.prog 92 #[.string ⟨#[]⟩] w fun en w' => en = .returned (.tuple #[.agg #[.int .i64 0, .int .i64 0, .string ⟨#[]⟩], .int .i64 1]) ∧ Below w.heap.size w w' := by
  go_enter Try.func92, Try.ntmps92
  go_wp2_with fail
  refine (rupto_none 63 _ (by decide) (by decide)).mono ?_
  rintro en w1 ⟨rfl, b1⟩
  have G1 : Hid (Has w1 w.heap.size 38 #[.int .i64 0, .int .i64 0, .string ⟨#[]⟩]) := Lib.hid ((Has.made w 38 _).below b1 (by simp))
  have B1 : Hid (Below w.heap.size w w1) := Lib.hid (((Below.refl _ w).alloc (Nat.le_refl _) _).trans (b1.mono (by simp)))
  clear b1
  obtain ⟨g, hg⟩ : ∃ g, g = w.heap.size := ⟨_, rfl⟩
  rw [← hg] at G1 B1 ⊢
  have HG := Lib.hid hg
  clear hg
  go_wp2_with fail
  refine calls_name (fun W3 hW3 => ?_)
  obtain ⟨q, hq⟩ : ∃ q, q = w1.heap.size := ⟨_, rfl⟩
  have hgq : g < q := by have := G1.out.lt; omega
  have Q3 : Hid (Has W3 q 180 #[.string ⟨#[]⟩, .int .i64 1]) := by rw [← hW3, hq]; exact Lib.hid (Has.made _ _ _)
  have G3 : Hid (Has W3 g 38 #[.int .i64 0, .int .i64 0, .string ⟨#[]⟩]) := by rw [← hW3]; exact Lib.hid (G1.out.alloc _)
  have B3 : Hid (Below g w W3) := by rw [← hW3]; exact Lib.hid (B1.out.alloc (by omega) _)
  rw [← hq]
  clear hW3 hq G1 B1
  refine (rupto_dead _ 1 1099511627776 _ (by decide) (by decide) (by decide)).mono ?_
  rintro en w4 ⟨rfl, b4⟩
  have G4 := Lib.hid (G3.out.below b4 G3.out.lt)
  have Q4 := Lib.hid (Q3.out.below b4 Q3.out.lt)
  have B4 : Hid (Below g w w4) := Lib.hid (B3.out.trans (b4.mono (by have := G3.out.lt; omega)))
  have q0 : w4.cell? ⟨q, 0, none⟩ = some (.string ⟨#[]⟩) := Q4.out.cell 0
  have q1 : w4.cell? ⟨q, 1, none⟩ = some (.int .i64 1) := Q4.out.cell 1
  have z0 : w4.frozen? ⟨q, 0, none⟩ = false := Q4.out.free 0
  have z1 : w4.frozen? ⟨q, 1, none⟩ = false := Q4.out.free 1
  have ql : q < w4.heap.size := Q4.out.lt
  clear b4 G3 Q3 B3
  go_wp2_with fail
  refine calls_name (fun W5 hW5 => ?_)
  have Q5 : Hid (Has W5 q 180 #[.string ⟨#[]⟩, .int .i64 1]) := by
    rw [← hW5]
    have := (Q4.out.put 0 (.string ⟨#[]⟩)).put 1 (.int .i64 1)
    exact Lib.hid (by simpa using this)
  have G5 : Hid (Has W5 g 38 #[.int .i64 0, .int .i64 0, .string ⟨#[]⟩]) := by rw [← hW5]; exact Lib.hid ((G4.out.far (by show g ≠ q; omega) _).far (by show g ≠ q; omega) _)
  have B5 : Hid (Below g w W5) := by rw [← hW5]; exact Lib.hid ((B4.out.setCell (by show g ≤ q; omega) _).setCell (by show g ≤ q; omega) _)
  clear hW5 q0 q1 z0 z1 ql Q4 G4 B4
  refine (rstr_dead _ 1 1024 _ (by decide) (by decide) (by decide)).mono ?_
  rintro en w6 ⟨rfl, b6⟩
  have G6 := Lib.hid (G5.out.below b6 G5.out.lt)
  have Q6 := Lib.hid (Q5.out.below b6 Q5.out.lt)
  have B6 : Hid (Below g w w6) := Lib.hid (B5.out.trans (b6.mono (by have := G5.out.lt; omega)))
  have q0 : w6.cell? ⟨q, 0, none⟩ = some (.string ⟨#[]⟩) := Q6.out.cell 0
  have q1 : w6.cell? ⟨q, 1, none⟩ = some (.int .i64 1) := Q6.out.cell 1
  have z0 : w6.frozen? ⟨q, 0, none⟩ = false := Q6.out.free 0
  have z1 : w6.frozen? ⟨q, 1, none⟩ = false := Q6.out.free 1
  have ql : q < w6.heap.size := Q6.out.lt
  clear b6 G5 Q5 B5
  go_wp2_with fail
  refine calls_name (fun W7 hW7 => ?_)
  have Q7 : Hid (Has W7 q 180 #[.string ⟨#[]⟩, .int .i64 1]) := by
    rw [← hW7]
    have := (Q6.out.put 0 (.string ⟨#[]⟩)).put 1 (.int .i64 1)
    exact Lib.hid (by simpa using this)
  have G7 : Hid (Has W7 g 38 #[.int .i64 0, .int .i64 0, .string ⟨#[]⟩]) := by rw [← hW7]; exact Lib.hid ((G6.out.far (by show g ≠ q; omega) _).far (by show g ≠ q; omega) _)
  have B7 : Hid (Below g w W7) := by rw [← hW7]; exact Lib.hid ((B6.out.setCell (by show g ≤ q; omega) _).setCell (by show g ≤ q; omega) _)
  clear hW7 q0 q1 z0 z1 ql Q6 G6 B6
  refine (rend_bad _ 1 _ (by decide)).mono ?_
  rintro en w8 ⟨rfl, b8⟩
  have G8 := Lib.hid (G7.out.below b8 G7.out.lt)
  have Q8 := Lib.hid (Q7.out.below b8 Q7.out.lt)
  have B8 : Hid (Below g w w8) := Lib.hid (B7.out.trans (b8.mono (by have := G7.out.lt; omega)))
  have q0 : w8.cell? ⟨q, 0, none⟩ = some (.string ⟨#[]⟩) := Q8.out.cell 0
  have q1 : w8.cell? ⟨q, 1, none⟩ = some (.int .i64 1) := Q8.out.cell 1
  clear b8 G7 B7 Q7
  go_wp2_with fail
  refine (rend_bad _ 1 _ (by decide)).mono ?_
  rintro en w9 ⟨rfl, b9⟩
  have G9 := Lib.hid (G8.out.below b9 G8.out.lt)
  have B9 : Hid (Below g w w9) := Lib.hid (B8.out.trans (b9.mono (by have := G8.out.lt; omega)))
  have z0 : w9.frozen? ⟨g, 0, none⟩ = false := G9.out.free 0
  have z1 : w9.frozen? ⟨g, 1, none⟩ = false := G9.out.free 1
  have z2 : w9.frozen? ⟨g, 2, none⟩ = false := G9.out.free 2
  have y0 : w9.cell? ⟨g, 0, none⟩ = some (.int .i64 0) := G9.out.cell 0
  have y1 : w9.cell? ⟨g, 1, none⟩ = some (.int .i64 0) := G9.out.cell 1
  have y2 : w9.cell? ⟨g, 2, none⟩ = some (.string ⟨#[]⟩) := G9.out.cell 2
  clear b9 G8 B8 Q8 q0 q1
  go_wp2_with fail
  have E9 := ((G9.out.put 0 (.int .i64 0)).put 1 (.int .i64 0)).put 2 (.string ⟨#[]⟩)
  have E10 : Has (((w9.setCell ⟨g, 0, none⟩ (.int .i64 0)).setCell ⟨g, 1, none⟩ (.int .i64 0)).setCell ⟨g, 2, none⟩ (.string ⟨#[]⟩)) g 38 #[.int .i64 0, .int .i64 0, .string ⟨#[]⟩] := by simpa using E9
  refine bodyPost_ret (res_drec rfl _ _ g 0 0 ⟨#[]⟩ (.int .i64 1) rfl rfl E10) rfl ⟨rfl, ?_⟩
  rw [← HG.out]
  refine Below.setCell (Below.setCell (Below.setCell B9.out ?_ _) ?_ _) ?_ _ <;> exact Nat.le_refl _
end Go.Proofs.Ytbpcfkniflgmfaa.prc
end

section
/- What the document's own Num gives. -/
namespace Go.Proofs.Ytbpcfkniflgmfaa
open Go.RowKit

theorem new_text {P : Program} (w : World) (src dst e : TypeId) (hs : P.underlying src = some (.slice e)) (he : P.underlying e = some (.int .u8)) (hd : P.underlying dst = some .string) (x : Int) :
    (convert src dst (.slice (some ⟨w.heap.size, 0, none⟩) 1 1)).run P (w.alloc (.cells #[.int .u8 x] e)) = .ok (.string ⟨#[UInt8.ofNat x.toNat]⟩) (w.alloc (.cells #[.int .u8 x] e)) := by
  rw [run_convert_bytes_string _ src dst e _ 1 1 hs he hd]
  rw [run_bytesToString _ _ 1 1 [x] (by
    have := run_loadCells_list (P := P) (w.alloc (.cells #[.int .u8 x] e)) ⟨w.heap.size, 0, none⟩ [.int .u8 x] (World.news_of_block (heap_alloc_new _ _))
    simpa using this)]
  rfl

theorem str_cons (c : UInt8) (X : List UInt8) : (⟨#[c]⟩ : ByteArray) ++ ⟨X.toArray⟩ = ⟨(c :: X).toArray⟩ := by
  apply ByteArray.ext
  simp

set_option maxRecDepth 100000 in
set_option maxHeartbeats 400000 in
theorem fnum_any (N : Nat) (w : World) (hN : N < 18446744073709551616) :
    Calls Try.prog 105 #[.int .u64 N] w fun en w' => en = .returned (.string ⟨(enc N).toArray⟩) ∧ Below w.heap.size w w' := by
  have HN := Lib.hid hN
  have hq : N / 128 < 144115188075855872 := by omega
  clear hN
  have kt := fun (W : World) (x : Int) => new_text (P := Try.prog) W 103 9 5 Try.underlying103 Try.underlying5 Try.underlying9 x
  go_enter Try.func105, Try.ntmps105
  go_wp2_with fail
  go_loopw [0, 3, 4] (fun n s i wr => ∃ (k M : Nat) (X : List UInt8), k ≤ 9 ∧ i = .int .i64 k ∧ n = .int .u64 M ∧ s = .string ⟨X.toArray⟩ ∧ M < 9223372036854775808 ∧ X.length ≤ k + 1 ∧ Hid (enc N = hi M ++ X) ∧ Hid (M < 128 ^ (9 - k)) ∧ Below w.heap.size w wr) (fun _ _ i _ => 9 - (intOf i).toNat)
  case atStart => exact ⟨0, N / 128, [low N], by omega, rfl, by go_num, rfl, by omega, by simp, rfl, by show N / 128 < 128 ^ 9; omega, (Below.refl _ _).alloc (Nat.le_refl _) _⟩
  case round =>
    obtain ⟨k, M, X, hk, rfl, rfl, rfl, hM9, hX, HE, HM, HB⟩ := hrel
    by_cases hc : k < 9 ∧ 0 < M
    · obtain ⟨h9, hM⟩ := hc
      have hM7 : M / 128 < 144115188075855872 := by omega
      have HE' : Hid (enc N = hi (M / 128) ++ (UInt8.ofNat (128 + M % 128) :: X)) := by
        rw [HE.out, hi, if_neg (by omega), List.append_assoc]; exact rfl
      have HM' : Hid (M / 128 < 128 ^ (9 - (k + 1))) := by
        have h := HM.out
        rw [show 9 - k = 9 - (k + 1) + 1 by omega, Nat.pow_succ] at h
        show M / 128 < _
        omega
      go_wp2_with fail
      go_roundw
      case rel => exact ⟨k + 1, M / 128, UInt8.ofNat (128 + M % 128) :: X, by omega, by go_num, by go_num, by rw [str_cons]; simp, by omega, by simp; omega, HE', HM', HB.alloc HB.size _⟩
      case measure => simp [intOf]; omega
    · have hM0 : M = 0 := by
        rcases Nat.lt_or_ge k 9 with h | h
        · omega
        · have h1 := HM.out
          rw [show 9 - k = 0 by omega] at h1
          omega
      subst hM0
      have e : enc N = X := by rw [HE.out, hi_zero]; rfl
      have E := Lib.hid e
      clear e hM9 hX HE HM
      by_cases h9 : k < 9
      · go_wp2_with fail
        go_ret
        rw [E.out]
        exact ⟨rfl, HB⟩
      · go_wp2_with fail
        go_ret
        rw [E.out]
        exact ⟨rfl, HB⟩

end Go.Proofs.Ytbpcfkniflgmfaa
end

section
/- What the document's own Str gives. -/
namespace Go.Proofs.Ytbpcfkniflgmfaa
open Go.RowKit

theorem fnum_int (x : Int) (w : World) (h0 : 0 ≤ x) (hx : x < 18446744073709551616) :
    Calls Try.prog 105 #[.int .u64 x] w fun en w' => en = .returned (.string ⟨(enc x.toNat).toArray⟩) ∧ Below w.heap.size w w' := by
  obtain ⟨n, rfl⟩ := Int.eq_ofNat_of_zero_le h0
  exact fnum_any n w (by omega)

set_option maxRecDepth 100000 in
set_option maxHeartbeats 400000 in
theorem fstr_any (s : ByteArray) (w : World) (hs : s.size ≤ 1000000) :
    Calls Try.prog 106 #[.string s] w fun en w' => en = .returned (.string (⟨(enc s.size).toArray⟩ ++ s)) ∧ Below w.heap.size w w' := by
  go_enter Try.func106, Try.ntmps106
  go_wp2_with fail
  refine (fnum_int _ w (by omega) (by omega)).mono ?_
  rw [Int.toNat_natCast]
  have hel := enc_len s.size (by omega)
  obtain ⟨l, hl⟩ : ∃ l, l = enc s.size := ⟨_, rfl⟩
  rw [← hl]
  have HL := Lib.hid hl
  rw [← hl] at hel
  clear hl
  rintro en w1 ⟨rfl, h1⟩
  go_wp2_with fail
  go_ret
  rw [← HL.out]
  exact ⟨rfl, h1⟩

end Go.Proofs.Ytbpcfkniflgmfaa
end

