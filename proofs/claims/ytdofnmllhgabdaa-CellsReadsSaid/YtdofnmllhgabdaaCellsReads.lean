/- CellsReads: for every list of texts and every list of numbers the law answers true, and its arguments read afterwards as they did. Conditions: none. -/
import Derived.Test.YtdofnmllhgabdaaCelE
import Derived.Test.YtdofnmllhgabdaaAny
namespace Go.Proofs.Ytdofnmllhgabdaa.cellsReads
open Go.ChangeShapes Go.WideShapes Go.ChangeAt Go.RowKit Go.Maps Go.Proofs.Ytdofnmllhgabdaa.cel

theorem and3 (n : Int) : bits .and .i64 n 3 = n % 4 := by
  have h255 : (BitVec.ofInt 64 3).toNat = 2 ^ 2 - 1 := by decide
  have key : (BitVec.ofInt 64 n &&& BitVec.ofInt 64 3).toNat = (n % ((2 ^ 64 : Nat) : Int)).toNat % 2 ^ 2 := by
    rw [BitVec.toNat_and, BitVec.toNat_ofInt, h255, Nat.and_two_pow_sub_one_eq_mod]
  show IntKind.i64.wrap ((BitVec.ofInt 64 n &&& BitVec.ofInt 64 3).toNat : Nat) = n % 4
  rw [key, IntKind.wrap_i64]
  omega

/-- The array of what is held. -/
def arrA (T : Nat → ByteArray) : Array Value := #[.string (T 0), .string (T 1), .string (T 2), .string (T 3)]
theorem arr_at (T : Nat → ByteArray) {j : Nat} (h : j < 4) : (arrA T)[j]? = some (.string (T j)) := by
  rcases (show j = 0 ∨ j = 1 ∨ j = 2 ∨ j = 3 by omega) with rfl | rfl | rfl | rfl <;> rfl
theorem arr_put (T : Nat → ByteArray) {j : Nat} (h : j < 4) (s : ByteArray) : (arrA T).setIfInBounds j (.string s) = arrA (upd T j s) := by
  rcases (show j = 0 ∨ j = 1 ∨ j = 2 ∨ j = 3 by omega) with rfl | rfl | rfl | rfl <;> rfl

/-- What lasts: the array holds what the cells hold. -/
structure St (w : World) (d c m y k : Nat) (T : Nat → ByteArray) (N : Nat → Int) (D : DataW Unit) (a : Int) (V : World) : Prop where
  own : Own w d c m 4 T N D a V
  few : a ≤ 2 * (k : Int)
  n : ∀ i, N i = 0
  arr : Has V y 47 (arrA T)
  ny : w.heap.size ≤ y
  yd : y ≠ d ∧ y ≠ c ∧ y ≠ m

theorem upd_zero {N : Nat → Int} {j : Nat} {x : Int} (h : ∀ i, N i = 0) (hx : x = 0) : ∀ i, upd N j x i = 0 := fun i => by
  unfold upd
  split
  · exact hx
  · exact h i

theorem St.keep {w : World} {d c m y k : Nat} {T : Nat → ByteArray} {N : Nat → Int} {D : DataW Unit} {a : Int} {V V' : World} (h : St w d c m y k T N D a V) (t : Turn (fun b => b = d ∨ b = c ∨ b = m) V V') : Has V' y 47 (arrA T) :=
  h.arr.turn t (fun e => by have := h.yd; omega)

set_option maxRecDepth 100000 in
set_option maxHeartbeats 4000000 in
theorem reads_any (a1 : Option Addr) (len1 cap1 : Nat) (T1 : Nat → ByteArray) (a2 : Option Addr) (len2 cap2 : Nat) (T2 : Nat → Int) (w : World) (h1 : ArgS w a1 len1 cap1 T1) (h2 : ArgI w a2 len2 cap2 T2) :
    Calls Try.prog 5 #[.slice a1 len1 cap1, .slice a2 len2 cap2] w fun en w' => en = .returned (.bool true) ∧ Below w.heap.size w w' := by
  have hl1 : len1 ≤ 9223372036854775807 := by have := h1.1; have := h1.2.1; unfold maxLen at this; omega
  have hl2 : len2 ≤ 9223372036854775807 := by have := h2.1; have := h2.2.1; unfold maxLen at this; omega
  have A1 := Lib.hid h1
  have A2 := Lib.hid h2
  clear h1 h2
  go_enter Try.func5, Try.ntmps5
  go_wp2_with fail
  refine (awake_any w).mono ?_
  rintro en w1 ⟨rfl, b1⟩
  have T1' : Hid (Turn (fun j => w.heap.size ≤ j) w w1) := Turn.of_below b1 (fun _ _ e => e)
  clear b1
  go_wp2_with fail
  refine (new_calls (H := Unit) 4 (by decide) w1).mono ?_
  intro en w2 hP
  obtain ⟨d, c, m, rfl, hO, _⟩ := own_new T1'.out hP
  have HO := Lib.hid hO
  clear hP hO T1'
  go_wp2_with fail
  go_name_world W hW
  have S0 : Hid (St w d c m w2.heap.size 0 noT noN (.map []) 0 W) := by
    rw [← hW]
    have hm := HO.out.mem
    have := hm.box.lt
    have := hm.row.lt
    have := hm.map.lt
    have := HO.out.turn.size
    exact Lib.hid ⟨HO.out.below (by first | exact new_box _ _ | exact (new_box _ _)), by decide, fun _ => rfl, made_at _ _ rfl, by omega, by omega, by omega, by omega⟩
  clear hW HO
  generalize w2.heap.size = y at *
  go_loopw [7] (fun i wr => ∃ (k : Nat) (T : Nat → ByteArray) (N : Nat → Int) (D : DataW Unit) (a : Int), i = .int .i64 k ∧ k ≤ 30 ∧ k ≤ len1 ∧ Hid (St w d c m y k T N D a wr)) (fun i _ => 30 - (intOf i).toNat)
  case atStart => exact ⟨0, _, _, _, _, rfl, by omega, Nat.zero_le _, S0⟩
  case round =>
    obtain ⟨k, T, N, D, a, rfl, hk30, hkl, HS⟩ := hrel
    clear S0
    by_cases hk : k < len1 ∧ k < len2 ∧ k < 30
    · obtain ⟨hk1, hkb, hk2⟩ := hk
      have hk1' : (k : Int) < (len1 : Int) := by omega
      have hkb' : (k : Int) < (len2 : Int) := by omega
      have hk2' : (k : Int) < 30 := by omega
      have hk0' : (0 : Int) ≤ (k : Int) := by omega
      obtain ⟨b, o, rfl, c0, hs⟩ := str_at A1.out HS.out.own.turn hk1
      obtain ⟨b', o', rfl, c1, _⟩ := int_at A2.out HS.out.own.turn hkb
      have HS1 := Lib.hid hs
      clear hs
      generalize T2 k = z at *
      have hand := and3 z
      obtain ⟨j, hj⟩ : ∃ j : Nat, z % 4 = (j : Int) := ⟨(z % 4).toNat, by omega⟩
      have hj4 : j < 4 := by omega
      have hj4' : (j : Int) < 4 := by omega
      have hj0' : (0 : Int) ≤ (j : Int) := by omega
      rw [hj] at hand
      clear hj
      go_wp2_with fail
      refine (cut_calls (T1 k) 8 wr (by decide) HS1.out).mono ?_
      rintro en w4 ⟨rfl, rfl⟩
      generalize (T1 k).extract 0 8 = s at *
      clear c0 c1 HS1 hand
      have HF := Lib.hid HS.out.few
      have HN := Lib.hid HS.out.n
      go_wp2_with fail
      refine (HS.out.own.do_turn 1 1 j ⟨#[120]⟩ ⟨#[121]⟩ hj4 (by decide) (by decide) ⟨by decide, by decide⟩ (by have := HF.out; omega) (T j) rfl true rfl T (by rw [show aftT 1 (T j) ⟨#[120]⟩ ⟨#[121]⟩ = T j from if_pos rfl, upd_self]) N (by rw [show aftN 1 (T j) ⟨#[120]⟩ (N j) = N j from if_neg (fun e => absurd e.1 (by decide)), upd_self])).mono ?_
      rintro en w5 ⟨rfl, h5, t5⟩
      have P5 := Lib.hid (And.intro h5.drew ((HS.out.keep t5).drew.cell j |>.trans (arr_at T hj4)))
      have R5 := Lib.hid ((HS.out.keep t5))
      have Y5 := Lib.hid (And.intro HS.out.ny HS.out.yd)
      clear h5 t5 HS
      go_wp2_with fail
      refine wp_region_S (S := fun V => Own w d c m 4 T N (more1 D 1) (a + 1) V ∧ V.cell? ⟨y, j, none⟩ = some (.string (T j)) ∧ V.heap[y]? = w5.heap[y]?) (by kernel_rfl) (by exact ⟨P5.out.1, P5.out.2, rfl⟩) ?_
      refine AnyS.pure 0 (some 52) rfl rfl (by kernel_rfl) (by kernel_rfl) (by kernel_rfl) (fun _ _ _ h => h) (by kernel_rfl) (fun _ _ => rfl) ?_
      refine AnyS.pure 1 (some 53) rfl rfl (by kernel_rfl) (by kernel_rfl) (by kernel_rfl) (fun _ _ _ h => h) (by kernel_rfl) (fun _ _ => rfl) ?_
      refine AnyS.pure 2 (some 54) (v := .pointer (some ⟨y, j, none⟩)) rfl rfl (by kernel_rfl) (by kernel_rfl) (by kernel_rfl) (fun _ _ _ h => h) (by kernel_rfl) (fun V _ => by go_simp) ?_
      refine AnyS.pure 3 (some 55) (v := .string (T j)) rfl rfl (by kernel_rfl) (by kernel_rfl) (by kernel_rfl) (fun _ _ _ h => h) (by kernel_rfl) (fun V hV => by have c0 := hV.2.1; go_simp) ?_
      refine AnyS.pure 4 (some 56) (v := .bool false) rfl rfl (by kernel_rfl) (by kernel_rfl) (by kernel_rfl) (fun _ _ _ h => h) (by kernel_rfl) (fun V _ => by go_simp) ?_
      refine AnyS.pure 5 (some 57) rfl rfl (by kernel_rfl) (by kernel_rfl) (by kernel_rfl) (fun _ _ _ h => h) (by kernel_rfl) (fun _ _ => rfl) ?_
      refine AnyS.pure 6 (some 58) rfl rfl (by kernel_rfl) (by kernel_rfl) (by kernel_rfl) (fun _ _ _ h => h) (by kernel_rfl) (fun _ _ => rfl) ?_
      refine AnyS.pure 7 (some 59) (v := .bool false) rfl rfl (by kernel_rfl) (by kernel_rfl) (by kernel_rfl) (fun _ _ _ h => h) (by kernel_rfl) (fun V _ => by go_simp) ?_
      refine AnyS.pure 8 (some 60) (v := .bool false) rfl rfl (by kernel_rfl) (by kernel_rfl) (by kernel_rfl) (fun _ _ _ h => h) (by kernel_rfl) (fun V _ => by go_simp) ?_
      refine AnyS.pure 9 (some 61) rfl rfl (by kernel_rfl) (by kernel_rfl) (by kernel_rfl) (fun _ _ _ h => h) (by kernel_rfl) (fun _ _ => rfl) ?_
      refine AnyS.pure 10 (some 62) rfl rfl (by kernel_rfl) (by kernel_rfl) (by kernel_rfl) (fun _ _ _ h => h) (by kernel_rfl) (fun _ _ => rfl) ?_
      refine AnyS.pure 11 (some 63) (v := .bool false) rfl rfl (by kernel_rfl) (by kernel_rfl) (by kernel_rfl) (fun _ _ _ h => h) (by kernel_rfl) (fun V _ => by go_simp) ?_
      refine AnyS.pure 12 (some 64) (v := .bool false) rfl rfl (by kernel_rfl) (by kernel_rfl) (by kernel_rfl) (fun _ _ _ h => h) (by kernel_rfl) (fun V _ => by go_simp) ?_
      refine AnyS.pure 13 (some 65) rfl rfl (by kernel_rfl) (by kernel_rfl) (by kernel_rfl) (fun _ _ _ h => h) (by kernel_rfl) (fun _ _ => rfl) ?_
      refine AnyS.pure 14 (some 66) rfl rfl (by kernel_rfl) (by kernel_rfl) (by kernel_rfl) (fun _ _ _ h => h) (by kernel_rfl) (fun _ _ => rfl) ?_
      refine AnyS.pure 15 (some 67) rfl rfl (by kernel_rfl) (by kernel_rfl) (by kernel_rfl) (fun _ _ _ h => h) (by kernel_rfl) (fun _ _ => rfl) ?_
      refine AnyS.pure 17 (some 69) rfl rfl (by kernel_rfl) (by kernel_rfl) (by kernel_rfl) (fun _ _ _ h => h) (by kernel_rfl) (fun _ _ => rfl) ?_
      refine AnyS.pure 18 (some 70) (v := .pointer (some ⟨y, j, none⟩)) rfl rfl (by kernel_rfl) (by kernel_rfl) (by kernel_rfl) (fun _ _ _ h => h) (by kernel_rfl) (fun V _ => by go_simp) ?_
      refine AnyS.pure 19 (some 71) (v := .string (T j)) rfl rfl (by kernel_rfl) (by kernel_rfl) (by kernel_rfl) (fun _ _ _ h => h) (by kernel_rfl) (fun V hV => by have c0 := hV.2.1; go_simp) ?_
      refine AnyS.call 16 (some 68) (.string (T j)) rfl rfl (by kernel_rfl) (by kernel_rfl) (by kernel_rfl) (fun _ _ _ h => h) (by kernel_rfl) 22 Try.f22 Try.func22 (by kernel_rfl) (by kernel_rfl) _ _ rfl #[.pointer (some ⟨d, 0, none⟩), .int .i64 (j : Int)] (by first | (simp [Act.eval]; done) | (simp [Act.eval, Act.put]; done)) (fun V hV => (hV.1.look (j : Int) (T j) (text_at _ hj4)).mono (by rintro en v ⟨rfl, rfl⟩; exact ⟨rfl, hV⟩)) ?_
      simp only [Act.put, List.setIfInBounds_toArray, List.set_cons_zero, List.set_cons_succ]
      refine AnyS.pure 20 (some 72) (v := .bool false) rfl rfl (by kernel_rfl) (by kernel_rfl) (by kernel_rfl) (fun _ _ _ h => h) (by kernel_rfl) (fun V _ => by go_simp) ?_
      refine AnyS.pure 21 (some 73) (v := .bool false) rfl rfl (by kernel_rfl) (by kernel_rfl) (by kernel_rfl) (fun _ _ _ h => h) (by kernel_rfl) (fun V _ => by go_simp) ?_
      refine AnyS.done (by kernel_rfl) (fun V hV => ?_) _
      have O6 := Lib.hid hV.1
      have R6 : Hid (Has V y 47 (arrA T)) := Lib.hid (R5.out.keep hV.2.2)
      clear hV P5 R5
      go_wp2_with fail
      refine (O6.out.do_turn 1 2 j ⟨#[]⟩ s hj4 (by decide) (by decide) ⟨by decide, by decide⟩ (by have := HF.out; omega) (T j) rfl true rfl (upd T j s) rfl N (by rw [show aftN 2 (T j) ⟨#[]⟩ (N j) = N j from if_neg (fun e => absurd e.1 (by decide)), upd_self])).mono ?_
      rintro en w7 ⟨rfl, h7, t7⟩
      have O7 := Lib.hid h7
      have R7 : Hid (Has w7 y 47 (arrA T)) := Lib.hid (R6.out.turn t7 (fun e => by have := Y5.out.2; omega))
      have c7 : w7.cell? ⟨y, j, none⟩ = some (.string (T j)) := (R7.out.cell j).trans (arr_at T hj4)
      have f7 : w7.frozen? ⟨y, j, none⟩ = false := R7.out.free j
      clear h7 t7 O6 R6
      go_wp2_with fail
      have hst : St w d c m y (k + 1) (upd T j s) N (more1 (more1 D 1) 1) (a + 1 + 1) (w7.setCell ⟨y, j, none⟩ (.string s)) := by
        refine ⟨O7.out.other (F := fun b => b = y) ?_ (fun i e => by rw [e]; exact Y5.out.1) (fun e => Y5.out.2.1 e.symm) (fun e => Y5.out.2.2.1 e.symm) (fun e => Y5.out.2.2.2 e.symm), by have := HF.out; omega, HN.out, ?_, Y5.out.1, Y5.out.2⟩
        · exact (Turn.refl (fun b => b = y) w7).put (b := y) (fun _ => rfl) _ _
        · rw [← arr_put T hj4 s]
          exact R7.out.put j _
      refine ⟨⟨k + 1, _, _, _, _, by rw [Int.natCast_add]; rfl, by omega, by omega, Lib.hid hst⟩, ?_⟩
      show 30 - ((k : Int) + 1).toNat < 30 - ((k : Int)).toNat
      omega
    · have hx : ((k : Int) < (len1 : Int) ∧ (k : Int) < (len2 : Int) ∧ ¬ (k : Int) < 30) ∨ ((k : Int) < (len1 : Int) ∧ ¬ (k : Int) < (len2 : Int)) ∨ ¬ (k : Int) < (len1 : Int) := by omega
      clear hk
      rcases hx with ⟨hc1, hc2, hc3⟩ | ⟨hc1, hc2⟩ | hc1
      all_goals
        go_wp2_with fail
        go_loopw [82] (fun i wr2 => ∃ (j : Nat), i = .int .i64 j ∧ j ≤ 4 ∧ Hid (St w d c m y k T N D a wr2)) (fun i _ => 4 - (intOf i).toNat)
        case atStart => exact ⟨0, rfl, by omega, HS⟩
        case round =>
          clear HS
          obtain ⟨j, rfl, hj, HS⟩ := hrel
          by_cases hj4 : j < 4
          · have hj4' : (j : Int) < 4 := by omega
            have hj0' : (0 : Int) ≤ (j : Int) := by omega
            have HN := Lib.hid HS.out.n
            go_wp2_with fail
            have P5 := Lib.hid (And.intro HS.out.own.drew ((HS.out.arr.drew.cell j).trans (arr_at T hj4)))
            have R5 := Lib.hid HS.out
            clear HS
            refine wp_region_S (S := fun V => Own w d c m 4 T N D a V ∧ V.cell? ⟨y, j, none⟩ = some (.string (T j)) ∧ V.heap[y]? = wr.heap[y]?) (by kernel_rfl) (by exact ⟨P5.out.1, P5.out.2, rfl⟩) ?_
            refine AnyS.pure 0 (some 85) rfl rfl (by kernel_rfl) (by kernel_rfl) (by kernel_rfl) (fun _ _ _ h => h) (by kernel_rfl) (fun _ _ => rfl) ?_
            refine AnyS.pure 1 (some 86) rfl rfl (by kernel_rfl) (by kernel_rfl) (by kernel_rfl) (fun _ _ _ h => h) (by kernel_rfl) (fun _ _ => rfl) ?_
            refine AnyS.pure 3 (some 88) rfl rfl (by kernel_rfl) (by kernel_rfl) (by kernel_rfl) (fun _ _ _ h => h) (by kernel_rfl) (fun _ _ => rfl) ?_
            refine AnyS.pure 4 (some 89) (v := .pointer (some ⟨y, j, none⟩)) rfl rfl (by kernel_rfl) (by kernel_rfl) (by kernel_rfl) (fun _ _ _ h => h) (by kernel_rfl) (fun V _ => by go_simp) ?_
            refine AnyS.pure 5 (some 90) (v := .string (T j)) rfl rfl (by kernel_rfl) (by kernel_rfl) (by kernel_rfl) (fun _ _ _ h => h) (by kernel_rfl) (fun V hV => by have c0 := hV.2.1; go_simp) ?_
            refine AnyS.call 2 (some 87) (.string (T j)) rfl rfl (by kernel_rfl) (by kernel_rfl) (by kernel_rfl) (fun _ _ _ h => h) (by kernel_rfl) 22 Try.f22 Try.func22 (by kernel_rfl) (by kernel_rfl) _ _ rfl #[.pointer (some ⟨d, 0, none⟩), .int .i64 (j : Int)] (by first | (simp [Act.eval]; done) | (simp [Act.eval, Act.put]; done)) (fun V hV => (hV.1.look (j : Int) (T j) (text_at _ hj4)).mono (by rintro en v ⟨rfl, rfl⟩; exact ⟨rfl, hV⟩)) ?_
            simp only [Act.put, List.setIfInBounds_toArray, List.set_cons_zero, List.set_cons_succ]
            refine AnyS.pure 6 (some 91) (v := .bool false) rfl rfl (by kernel_rfl) (by kernel_rfl) (by kernel_rfl) (fun _ _ _ h => h) (by kernel_rfl) (fun V _ => by go_simp) ?_
            refine AnyS.pure 7 (some 92) rfl rfl (by kernel_rfl) (by kernel_rfl) (by kernel_rfl) (fun _ _ _ h => h) (by kernel_rfl) (fun _ _ => rfl) ?_
            refine AnyS.pure 8 (some 93) rfl rfl (by kernel_rfl) (by kernel_rfl) (by kernel_rfl) (fun _ _ _ h => h) (by kernel_rfl) (fun _ _ => rfl) ?_
            refine AnyS.pure 9 (some 94) rfl rfl (by kernel_rfl) (by kernel_rfl) (by kernel_rfl) (fun _ _ _ h => h) (by kernel_rfl) (fun _ _ => rfl) ?_
            refine AnyS.call 10 (some 95) (.int .i64 0) rfl rfl (by kernel_rfl) (by kernel_rfl) (by kernel_rfl) (fun _ _ _ h => h) (by kernel_rfl) 24 Try.f24 Try.func24 (by kernel_rfl) (by kernel_rfl) _ _ rfl #[.pointer (some ⟨d, 0, none⟩), .int .i64 (j : Int)] (by first | (simp [Act.eval]; done) | (simp [Act.eval, Act.put]; done)) (fun V hV => (hV.1.swaps (j : Int) 0 ((swaps_at _ hj4).trans (HN.out j))).mono (by rintro en v ⟨rfl, rfl⟩; exact ⟨rfl, hV⟩)) ?_
            simp only [Act.put, List.setIfInBounds_toArray, List.set_cons_zero, List.set_cons_succ]
            refine AnyS.pure 11 (some 96) (v := .bool false) rfl rfl (by kernel_rfl) (by kernel_rfl) (by kernel_rfl) (fun _ _ _ h => h) (by kernel_rfl) (fun V _ => by go_simp) ?_
            refine AnyS.pure 12 (some 97) (v := .bool false) rfl rfl (by kernel_rfl) (by kernel_rfl) (by kernel_rfl) (fun _ _ _ h => h) (by kernel_rfl) (fun V _ => by go_simp) ?_
            refine AnyS.done (by kernel_rfl) (fun V hV => ?_) _
            have S6 : Hid (St w d c m y k T N D a V) := Lib.hid ⟨hV.1, R5.out.few, R5.out.n, R5.out.arr.keep hV.2.2, R5.out.ny, R5.out.yd⟩
            clear hV P5 R5 HN
            go_wp2_with fail
            refine ⟨⟨j + 1, by rw [Int.natCast_add]; rfl, by omega, S6⟩, ?_⟩
            show 4 - ((j : Int) + 1).toNat < 4 - ((j : Int)).toNat
            omega
          · obtain rfl : j = 4 := by omega
            go_wp2_with fail
            go_ret
            exact ⟨rfl, HS.out.own.ends⟩

def Arg0 (w : World) (a : Option Addr) (len cap : Nat) : Prop := ∃ T, ArgS w a len cap T
def Arg1 (w : World) (a : Option Addr) (len cap : Nat) : Prop := ∃ T, ArgI w a len cap T

theorem walk (a0 : Option Addr) (len0 cap0 : Nat) (a1 : Option Addr) (len1 cap1 : Nat) (w : World) (w0 : Arg0 w a0 len0 cap0) (w1 : Arg1 w a1 len1 cap1) :
    Calls Try.prog 5 #[.slice a0 len0 cap0, .slice a1 len1 cap1] w fun en w' => en = .returned (.bool true) ∧ Below w.heap.size w w' := by
  obtain ⟨T1, h1⟩ := w0
  obtain ⟨T2, h2⟩ := w1
  exact reads_any a0 len0 cap0 T1 a1 len1 cap1 T2 w h1 h2

theorem opened0 {H : Type} {enc : TypeId × Value → H} {w : World} {spare : Nat → Bool} {held : Bool} {a : Option Addr} {len cap : Nat} {d : DataW H} {p : List MemPlace} (h : DataW.Trod enc Try.prog w 0 spare held 44 (.slice a len cap) d p) : Arg0 w a len cap := openedStrs h
theorem opened1 {H : Type} {enc : TypeId × Value → H} {w : World} {spare : Nat → Bool} {held : Bool} {a : Option Addr} {len cap : Nat} {d : DataW H} {p : List MemPlace} (h : DataW.Trod enc Try.prog w 0 spare held 45 (.slice a len cap) d p) : Arg1 w a len cap := openedI h

theorem own : ownKnob Try.prog.godebug = none := by kernel_rfl
theorem laidOut : laidOutB Try.prog = true := by kernel_rfl

set_option maxRecDepth 100000 in
theorem lifted (os : Os) (started : os.Started) (H : Type) (enc : TypeId × Value → H) :
    ReturnsInHanded {} Try.checked os 5 .any (Rows.cellsReadsSpec.pre6 enc Try.prog Try.f5 Rows.cellsReadsRow.domain false) (Rows.cellsReadsSpec.post enc Try.prog Try.f5 false true false false) := by
  refine returnsInHanded_of_change (C := Try.checked) own started (by kernel_rfl) Try.func5
    (ChangeSpec.witness6 (enc := enc) (C := Try.checked) false ⟨#[], #[.slice none 0 0, .slice none 0 0], []⟩ 8 (by kernel_rfl) (by kernel_rfl) (by kernel_rfl) (by kernel_rfl)) ?_
  intro W base args ds gs before hval0 hW _ _
  have hval : ∀ (j : Nat) t v, Try.f5.params[j]? = some t → args[j]? = some v → Value.okWide Try.prog W .any base t v := hval0
  have hW' := hW
  obtain ⟨p, q, hA0, hV, rfl, _, _⟩ := hW
  have hA : DataW.TrodAll enc Try.prog W 0 (fun _ => true) true Try.f5.params.toList args.toList ds p := hA0
  rw [Try.params5] at hA hval
  obtain ⟨v0, vs0, d0, ds0, p0, q0, hargs, rfl, rfl, h0, r0⟩ := trodAll_cons hA
  obtain ⟨v1, vs1, d1, ds1, p1, q1, rfl, rfl, rfl, h1, r1⟩ := trodAll_cons r0
  obtain ⟨rfl, rfl, rfl⟩ := trodAll_nil r1
  obtain rfl : args = #[v0, v1] := by cases args; simp_all
  obtain ⟨rfl, rfl⟩ := trodVars_none hV
  obtain ⟨a0, len0, cap0, rfl⟩ := okWide_slice Try.underlying44 (hval 0 44 v0 rfl rfl)
  have k0 := h0
  have lt0 : ∀ x ∈ p0, x.block < W.heap.size := by obtain ⟨m, hm⟩ := k0; exact DataW.trod_lt m _ _ _ hm
  have w0 : Arg0 W a0 len0 cap0 := opened0 h0
  obtain ⟨a1, len1, cap1, rfl⟩ := okWide_slice Try.underlying45 (hval 1 45 v1 rfl rfl)
  have k1 := h1
  have lt1 : ∀ x ∈ p1, x.block < W.heap.size := by obtain ⟨m, hm⟩ := k1; exact DataW.trod_lt m _ _ _ hm
  have w1 : Arg1 W a1 len1 cap1 := opened1 h1
  clear hA0 hval0
  refine (walk a0 len0 cap0 a1 len1 cap1 W w0 w1).mono fun e W' ⟨he, bel⟩ => ?_
  subst he
  exact ⟨_, rfl, _, _, _, [], _, [], hW', trodAll_mk1 (shut_bool Try.underlying4 _), (trodAll_cons_mk (Below.trod laidOut (by kernel_rfl) (of_decide_eq_true (by kernel_rfl)) k0 bel lt0) (trodAll_cons_mk (Below.trod laidOut (by kernel_rfl) (of_decide_eq_true (by kernel_rfl)) k1 bel lt1) trodAll_mk0)), rfl, bel.frame _, fun h => by cases h⟩

theorem over : Rows.cellsReadsRow.holds Try.pinned (OpenSpec.ofChange Rows.cellsReadsSpec) :=
  OpenClaim.holds_of_wide 5 Try.f5 rfl rfl rfl rfl rfl rfl rfl ⟨rfl, rfl, rfl, rfl, rfl⟩ rfl rfl rfl rfl rfl (by kernel_rfl) Try.func5 (by kernel_rfl)
    (of_decide_eq_true (by kernel_rfl)) (by unfold Func.isWrapper; first | (rw [if_pos (by decide +kernel)]; kernel_rfl) | (rw [if_neg (by decide +kernel)]; exact ⟨rfl, rfl⟩))
    (fun os started H enc _ => lifted os started H enc)

theorem proved : Rows.CellsReadsSaid := over

end Go.Proofs.Ytdofnmllhgabdaa.cellsReads
