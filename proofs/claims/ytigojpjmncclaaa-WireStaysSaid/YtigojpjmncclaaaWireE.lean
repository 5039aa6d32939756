/- The law's take behind an error, of a sum, of sums, of what is no kind. -/
import Derived.Test.YtigojpjmncclaaaWireD
import Derived.Deep.RegionHeld3
namespace Go.Proofs.Ytigojpjmncclaaa
open Go.RowKit

/-- The cells of 32 bytes 0, as a list that stays closed. -/
def zcells : List Value := zeros.map byteV
theorem zcells_eq : cellsOf zeros = zcells.toArray := rfl
theorem zcells_len : zcells.length = 32 := by simp [zcells, zeros_length]
theorem zcells_one : ∀ v ∈ zcells, v.oneCell' = true := byteV_one zeros

theorem Try.guardSum : Try.prog.eqGuardType Try.prog.depth 25 = false := by kernel_rfl

theorem lsum_zero (w : World) : Calls Try.prog 8 #[.string ⟨#[]⟩] w fun en w' => en = .returned (.agg zcells.toArray) ∧ Below w.heap.size w w' :=
  (lsum_any ⟨#[]⟩ w).mono fun en w' hp => by
    rw [sum32_none, zcells_eq] at hp
    exact hp

theorem range_far {w : World} {b o : Nat} {cs : List Value} {p : Addr} {v : Value} (h : w.rangeAt b o cs) (hp : b ≠ p.block) : (w.setCell p v).rangeAt b o cs := fun j u hj => by
  have e : (w.setCell p v).cell? ⟨b, o + j, none⟩ = w.cell? ⟨b, o + j, none⟩ := World.cell?_setCell_other w p ⟨b, o + j, none⟩ v (fun e => hp (by rw [e]))
  rw [e]
  exact h j u hj

set_option maxRecDepth 100000 in
set_option maxHeartbeats 1000000 in
theorem ltake_5 (b : Nat) (e n : Int) (w : World) (he : e ≠ 0) (h : Rd w b ⟨#[]⟩ e) :
    Calls Try.prog 28 #[.pointer (some ⟨b, 0, none⟩), .agg #[.string ⟨#[]⟩, .int .i64 e], .agg #[.int .i64 5, .int .i64 n]] w fun en w' => LTakePost b e w en w' := by
  have hbl := h.lt
  have H := Lib.hid h
  clear h
  go_enter Try.func28, Try.ntmps28
  go_wp2_with fail
  refine (sum_dead b e _ he (by exact ((H.out.alloc _).alloc _).alloc _)).mono ?_
  rintro en w1 ⟨rfl, h1, g1⟩
  obtain ⟨hx1, ht1, hr1, q1, T1⟩ := three_grown hbl g1
  have HX := Lib.hid hx1
  have H1 := Lib.hid h1
  have HR := Lib.hid hr1
  have HT := Lib.hid T1
  clear g1 hx1 ht1 hr1 T1 h1
  go_wp2_with ((with_reducible refine at_store (.tmp 20) ?_); refine wpList_store_arr (o := ⟨none, _, _, _, _, _⟩) rfl 25 (.tmp 20) (.tmp 94) rfl w1.heap.size zeros zeros rfl rfl 25 (made_zeros_at _ _ rfl) 32 Try.infoSum zeros_length zeros_length ?_)
  intro w2 z2 t2
  have hs2 : w1.heap.size < w2.heap.size := z2.lt
  have hx2 : Has w2 w.heap.size 56 #[.string ⟨#[]⟩, .int .i64 e] := (HX.out.alloc _).turn t2 (by omega)
  have hr2 : Has w2 (w.heap.size + 2) 56 #[.string ⟨#[]⟩, .int .i64 0] := (HR.out.alloc _).turn t2 (by omega)
  have h2 : Rd w2 b ⟨#[]⟩ e := (H1.out.alloc _).turn t2 (by omega)
  have T2 : Turn (fun k => k = b ∨ w.heap.size ≤ k) w w2 := (HT.out.alloc _).trans t2 (fun j hj h => by omega)
  obtain ⟨c0, c1, -, -⟩ := hx2.two
  have H2 := Lib.hid h2
  have HR2 := Lib.hid hr2
  have HT2 := Lib.hid T2
  have Z2 := Lib.hid z2
  clear H1 HR HT HX h2 hr2 T2 z2 t2 hx2
  go_wp2_with fail
  refine (ftake_dead _ _ _ _ he).mono ?_
  rintro en w3 ⟨rfl, hb3⟩
  have hs3 := hb3.size
  have H3 := Lib.hid (H2.out.below hb3 H2.out.lt)
  have HR3 := Lib.hid (HR2.out.below hb3 HR2.out.lt)
  have Z3 := Lib.hid (Z2.out.below hb3 Z2.out.lt)
  have HT3 := Lib.hid (HT2.out.trans (Turn.of_below (F := fun k => k = b ∨ w.heap.size ≤ k) hb3 (fun j _ h => by omega)) (fun j _ h => h))
  clear H2 HR2 HT2 Z2 hb3 c0 c1
  go_wp2_with fail
  go_name_world W hW
  have Z : W.rangeAt w1.heap.size 0 zcells := by rw [← hW]; exact Has.range (Z3.out.alloc _)
  have k0 : W.cell? ⟨w3.heap.size, 0, none⟩ = some (.string ⟨#[]⟩) := by rw [← hW]; simp
  have k1 : W.cell? ⟨w3.heap.size, 1, none⟩ = some (.int .i64 e) := by rw [← hW]; simp
  have HR4 := Lib.hid (show Has W (w.heap.size + 2) 56 #[.string ⟨#[]⟩, .int .i64 0] by rw [← hW]; exact HR3.out.alloc _)
  have H4 := Lib.hid (show Rd W b ⟨#[]⟩ e by rw [← hW]; exact H3.out.alloc _)
  have HT4 := Lib.hid (show Turn (fun k => k = b ∨ w.heap.size ≤ k) w W by rw [← hW]; exact HT3.out.alloc _)
  have hz4 : w3.heap.size < W.heap.size := by rw [← hW]; simp
  have z1 : w1.heap.size < W.heap.size := by omega
  have hu := Try.underlying25
  have hi : (Try.prog.info? 25).map (·.size) = some zcells.length := by rw [Try.infoSum, zcells_len]
  have hm := Try.guardSum
  have ke : ∀ V, (Op.equalIn 10000 25 (.agg zcells.toArray) (.agg zcells.toArray)).run Try.prog V = .ok true V := fun V => by
    have := run_equalIn_bytes (P := Try.prog) 9998 32 Try.underlying25 Try.underlying5 Try.infoB1 zeros zeros zeros_length zeros_length V
    rw [beq_self_eq_true] at this
    exact this
  have n1 : ¬ w1.heap.size = w.heap.size + 1 + 1 := by omega
  have n3 : ¬ w3.heap.size = w.heap.size + 1 + 1 := by omega
  have n4 : ¬ w.heap.size + 1 + 1 = w3.heap.size := by omega
  clear hW H3 HR3 Z3 HT3 hs2 hs3
  go_region_held3 (fun V => V.rangeAt w1.heap.size 0 zcells ∧ V.cell? ⟨w3.heap.size, 0, none⟩ = some (.string ⟨#[]⟩) ∧ V.cell? ⟨w3.heap.size, 1, none⟩ = some (.int .i64 e))
    (simp [*, range_far, World.rangeAt_drew, World.cell?_setCell_far])
    (first
      | (go_at_call 8; refine (lsum_zero _).mono ?_; rintro en w5 ⟨rfl, hb5⟩
         have r5 : w5.rangeAt w1.heap.size 0 zcells := fun j u hj => (hb5.cell (by exact z1)).trans (Z j u hj)
         have k50 := (hb5.cell (p := ⟨w3.heap.size, 0, none⟩) (by exact hz4)).trans k0
         have k51 := (hb5.cell (p := ⟨w3.heap.size, 1, none⟩) (by exact hz4)).trans k1
         obtain ⟨d0, d1, f0, f1⟩ := (HR4.out.drew.below hb5 HR4.out.lt).two
         have H5 := Lib.hid (H4.out.drew.below hb5 H4.out.lt)
         have T5 := Lib.hid (HT4.out.drew.trans (Turn.of_below (F := fun k => k = b ∨ w.heap.size ≤ k) hb5 (fun j hj h => .inr (by have := HT4.out.size; simp at h; omega))) (fun j _ h => h))
         have q5 : w3.heap.size < w5.heap.size := Nat.lt_of_lt_of_le hz4 hb5.size
         clear hb5))
  all_goals
    go_wp2_with fail
    exact ltake_close (by simp [results, Try.results28, go_sem, d0, d1]) (by repeat (first | exact H5.out | refine Has.alloc ?_ _ | refine Has.far ?_ (by simp; omega) _)) (by repeat (first | exact T5.out | refine Turn.alloc ?_ _ | refine Turn.put ?_ (fun h => by omega) _ _))

set_option maxRecDepth 100000 in
set_option maxHeartbeats 1000000 in
theorem ltake_6 (b : Nat) (e n : Int) (w : World) (he : e ≠ 0) (h : Rd w b ⟨#[]⟩ e) (hm0 : -9223372036854775808 ≤ n) (hm1 : n ≤ 9223372036854775807) :
    Calls Try.prog 28 #[.pointer (some ⟨b, 0, none⟩), .agg #[.string ⟨#[]⟩, .int .i64 e], .agg #[.int .i64 6, .int .i64 n]] w fun en w' => LTakePost b e w en w' := by
  have hbl := h.lt
  have H := Lib.hid h
  clear h
  go_enter Try.func28, Try.ntmps28
  go_wp2_with fail
  refine (sums_dead b e n _ he (by exact ((H.out.alloc _).alloc _).alloc _) hm0 hm1).mono ?_
  rintro en w1 ⟨rfl, h1, g1⟩
  obtain ⟨hx1, ht1, hr1, q1, T1⟩ := three_grown hbl g1
  obtain ⟨c0, c1, -, -⟩ := hx1.two
  obtain ⟨-, t1, -, -⟩ := ht1.two
  have H1 := Lib.hid h1
  have HR := Lib.hid hr1
  have HT := Lib.hid T1
  clear g1 hx1 ht1 hr1 T1 h1
  go_wp2_with fail
  refine (lsums_dead _ _ _ _ he hm0 hm1).mono ?_
  rintro en w2 ⟨rfl, hb2⟩
  have h2 := H1.out.below hb2 H1.out.lt
  obtain ⟨d0, d1, f0, f1⟩ := (HR.out.below hb2 HR.out.lt).two
  have q2 : w.heap.size + 2 < w2.heap.size := by have := hb2.size; omega
  have H2 := Lib.hid h2
  have T2 := Lib.hid (HT.out.trans (Turn.of_below (F := fun k => k = b ∨ w.heap.size ≤ k) hb2 (fun j _ h => by omega)) (fun j _ h => h))
  clear hb2 h2 H1 HR HT c0 c1 q1 t1
  go_wp2_with fail
  go_loop [26, 120] (fun al i => al = .string ⟨#[]⟩ ∧ i = .int .i64 0) (fun _ _ => 0)
  case atStart => exact ⟨rfl, rfl⟩
  case round =>
    obtain ⟨rfl, rfl⟩ := hrel
    go_wp2_with fail
    exact ltake_close (by simp [results, Try.results28, go_sem, d0, d1, q2]) (by repeat (first | exact H2.out | refine Has.alloc ?_ _ | refine Has.far ?_ (by simp; omega) _)) (by repeat (first | exact T2.out | refine Turn.alloc ?_ _ | refine Turn.put ?_ (fun h => by omega) _ _))

set_option maxRecDepth 100000 in
set_option maxHeartbeats 1000000 in
theorem ltake_else (b : Nat) (e k n : Int) (w : World) (h : Rd w b ⟨#[]⟩ e) (h1 : (k == 1) = false) (h2 : (k == 2) = false) (h3 : (k == 3) = false) (h4 : (k == 4) = false) (h5 : (k == 5) = false) (h6 : (k == 6) = false) :
    Calls Try.prog 28 #[.pointer (some ⟨b, 0, none⟩), .agg #[.string ⟨#[]⟩, .int .i64 e], .agg #[.int .i64 k, .int .i64 n]] w fun en w' => LTakePost b e w en w' := by
  have hbl := h.lt
  have H := Lib.hid h
  clear h
  go_enter Try.func28, Try.ntmps28
  go_wp2_with fail
  exact ltake_close (by simp [results, Try.results28, go_sem]) (by repeat (first | exact H.out | refine Has.alloc ?_ _ | refine Has.far ?_ (by simp; omega) _)) (by repeat (first | exact Turn.refl _ _ | refine Turn.alloc ?_ _ | refine Turn.put ?_ (fun h => by omega) _ _))

theorem ltake_dead (b : Nat) (e k n : Int) (w : World) (he : e ≠ 0) (h : Rd w b ⟨#[]⟩ e) (hm0 : -9223372036854775808 ≤ n) (hm1 : n ≤ 9223372036854775807) :
    Calls Try.prog 28 #[.pointer (some ⟨b, 0, none⟩), .agg #[.string ⟨#[]⟩, .int .i64 e], .agg #[.int .i64 k, .int .i64 n]] w fun en w' => LTakePost b e w en w' := by
  by_cases h1 : k = 1
  · subst h1; exact ltake_1 b e n w he h
  by_cases h2 : k = 2
  · subst h2; exact ltake_2 b e n w he h
  by_cases h3 : k = 3
  · subst h3; exact ltake_3 b e n w he h hm0 hm1
  by_cases h4 : k = 4
  · subst h4; exact ltake_4 b e n w he h hm0 hm1
  by_cases h5 : k = 5
  · subst h5; exact ltake_5 b e n w he h
  by_cases h6 : k = 6
  · subst h6; exact ltake_6 b e n w he h hm0 hm1
  exact ltake_else b e k n w h (by simpa using h1) (by simpa using h2) (by simpa using h3) (by simpa using h4) (by simpa using h5) (by simpa using h6)

end Go.Proofs.Ytigojpjmncclaaa
