/- RankDue: for every list of ticks and every tick the law answers true, and its arguments read afterwards as they did. Conditions: none. -/
import Derived.Test.YtpdcbfhmlgmhpaaRankK
import Derived.Test.YtpdcbfhmlgmhpaaInts
import Derived.ProofKit
import Derived.OpenShut
import Derived.Deep.QuietTactic
import Derived.BigQuiet
import Derived.IntWalk
import Derived.ChangeOld
namespace Go.Proofs.Ytpdcbfhmlgmhpaa.rankDue
open Go.ChangeShapes Go.WideShapes Go.ChangeAt Go.RowKit

/-- The queue, of which each thing is one of the first m ticks with its place. -/
structure Srt (w : World) (T : Nat → Int) (q m : Nat) (n : Int) (r : Option Nat) (S : List Th) (wr : World) : Prop where
  qs : Qs wr q r S n
  mem : ∀ x ∈ S, ∃ i : Nat, i < m ∧ x = (T i, (i : Int), (i : Int))
  row : ∀ j, r = some j → w.heap.size ≤ j
  turn : Turn (fun j => w.heap.size ≤ j) w wr

theorem Srt.took {w wr w' : World} {T : Nat → Int} {q m : Nat} {n : Int} {r : Option Nat} {S : List Th} (h : Srt w T q m n r S wr) (e : Qs w' q r S.tail n) (t : Turn (fun j => j = q ∨ r = some j) wr w') (hq : w.heap.size ≤ q) : Srt w T q m n r S.tail w' :=
  ⟨e, fun x hx => h.mem x (List.mem_of_mem_tail hx), h.row, h.turn.trans t (fun j hj e => by
    rcases e with e | e
    · omega
    · exact h.row j e)⟩

theorem Srt.added {w wr w' : World} {T : Nat → Int} {q k g : Nat} {r : Option Nat} {S : List Th} (h : Srt w T q k k r S wr) (e : Qs w' q (some g) (ins (T k, (k : Int), (k : Int)) S) ((k : Int) + 1)) (a : r = some g ∨ wr.heap.size ≤ g) (t : Turn (fun j => j = q ∨ r = some j) wr w') (hq : w.heap.size ≤ q) :
    Srt w T q (k + 1) ((k + 1 : Nat) : Int) (some g) (ins (T k, (k : Int), (k : Int)) S) w' := by
  refine ⟨by rw [Int.natCast_add]; exact e, fun x hx => ?_, fun j hj => ?_, h.turn.trans t (fun j hj e => ?_)⟩
  · rcases List.mem_cons.1 ((ins_perm _ S).mem_iff.1 hx) with rfl | hx
    · exact ⟨k, by omega, rfl⟩
    · obtain ⟨i, hi, e⟩ := h.mem x hx
      exact ⟨i, by omega, e⟩
  · injection hj with hj
    subst hj
    rcases a with a | a
    · exact h.row _ a
    · have := h.turn.size; omega
  · rcases e with e | e
    · omega
    · exact h.row j e

theorem arg_cell {w wr : World} {a : Option Addr} {len cap : Nat} {T : Nat → Int} (h : ArgI w a len cap T) (t : Turn (fun j => w.heap.size ≤ j) w wr) (i : Nat) (hi : i < len) : ∃ b o, a = some ⟨b, o, none⟩ ∧ wr.cell? ⟨b, o + i, none⟩ = some (.int .i64 (T i)) := by
  obtain ⟨b, o, e, hb, hc, _⟩ := h.2.2 i hi
  have h2 : wr.cell? ⟨b, o + i, none⟩ = w.cell? ⟨b, o + i, none⟩ := Turn.cell t hb (fun h3 => Nat.not_lt_of_le h3 hb)
  exact ⟨b, o, e, by rw [h2]; exact hc⟩


/-- How many are due at t. -/
def cnt (t : Int) (S : List Th) : Nat := S.countP (fun x => decide (x.1 ≤ t))

theorem cnt_ins (t : Int) (x : Th) (S : List Th) : cnt t (ins x S) = cnt t S + if x.1 ≤ t then 1 else 0 := by
  unfold cnt
  rw [(ins_perm x S).countP_eq, List.countP_cons]
  simp

theorem cnt_le (t : Int) (S : List Th) : cnt t S ≤ S.length := List.countP_le_length

theorem all_later {t : Int} {R : List Th} (hs : R.Pairwise lt) (h : ∀ x s, R = x :: s → ¬ x.1 ≤ t) : ∀ y ∈ R, t < y.1 := by
  intro y hy
  cases R with
  | nil => simp at hy
  | cons x s =>
    have hx := h x s rfl
    rcases List.mem_cons.1 hy with rfl | hy
    · omega
    · have := (List.pairwise_cons.1 hs).1 y hy
      unfold lt at this
      omega

theorem cnt_split {t : Int} {A R : List Th} (hA : ∀ x ∈ A, x.1 ≤ t) (hR : ∀ y ∈ R, t < y.1) : cnt t (A ++ R) = A.length := by
  unfold cnt
  rw [List.countP_append]
  have h1 : List.countP (fun x : Th => decide (x.1 ≤ t)) A = A.length := List.countP_eq_length.2 (fun x hx => by simpa using hA x hx)
  have h2 : List.countP (fun x : Th => decide (x.1 ≤ t)) R = 0 := List.countP_eq_zero.2 (fun x hx => by have := hR x hx; simp; omega)
  omega

/-- Behind the first Due: what is left, what came out. -/
structure DSt (w : World) (q : Nat) (n : Int) (r : Option Nat) (R : List Th) (v : Value) (L : List Int) (wr : World) : Prop where
  qs : Qs wr q r R n
  row : ∀ j, r = some j → w.heap.size ≤ j
  ints : Ints wr v L
  turn : Turn (fun j => w.heap.size ≤ j) w wr

theorem DSt.drew {w wr : World} {q : Nat} {n : Int} {r : Option Nat} {R : List Th} {v : Value} {L : List Int} (h : DSt w q n r R v L wr) : DSt w q n r R v L wr.drew :=
  ⟨h.qs.turn ((Turn.refl (fun _ => False) wr).drew) (fun e => e) (fun _ _ e => e), h.row, h.ints.turn ((Turn.refl (fun _ => False) wr).drew) (fun _ _ e => e), h.turn.drew⟩

theorem DSt.drewN {w wr : World} {q : Nat} {n : Int} {r : Option Nat} {R : List Th} {v : Value} {L : List Int} (h : DSt w q n r R v L wr) (k : Nat) : DSt w q n r R v L (wr.drewN k) :=
  ⟨h.qs.turn ((Turn.refl (fun _ => False) wr).drewN k) (fun e => e) (fun _ _ e => e), h.row, h.ints.turn ((Turn.refl (fun _ => False) wr).drewN k) (fun _ _ e => e), h.turn.drewN k⟩

/-- What came out: the place of one of the first m ticks each, by ticks. -/
structure Out (T : Nat → Int) (m : Nat) (t : Int) (L : List Int) : Prop where
  one : ∀ j, j < L.length → ∃ i : Nat, i < m ∧ L[j]? = some (i : Int) ∧ T i ≤ t
  two : ∀ j i i' : Nat, j + 1 < L.length → L[j]? = some (i' : Int) → L[j + 1]? = some (i : Int) → T i' ≤ T i

theorem out_of {T : Nat → Int} {m : Nat} {t : Int} {A R : List Th} (hs : (A ++ R).Pairwise lt) (hm : ∀ x ∈ A ++ R, ∃ i : Nat, i < m ∧ x = (T i, (i : Int), (i : Int))) (hA : ∀ x ∈ A, x.1 ≤ t) : Out T m t (A.map (fun x => x.2.1)) := by
  have hp := (List.pairwise_append.1 hs).1
  refine ⟨fun j hj => ?_, fun j i i' hj h1 h2 => ?_⟩
  · rw [List.length_map] at hj
    obtain ⟨i, hi, e⟩ := hm A[j] (List.mem_append_left _ (List.getElem_mem hj))
    refine ⟨i, hi, by rw [List.getElem?_map, List.getElem?_eq_getElem hj, e]; rfl, ?_⟩
    have := hA A[j] (List.getElem_mem hj)
    rw [e] at this
    exact this
  · rw [List.length_map] at hj
    have hlt := List.pairwise_iff_getElem.1 hp j (j + 1) (by omega) hj (by omega)
    obtain ⟨k, _, e⟩ := hm A[j + 1] (List.mem_append_left _ (List.getElem_mem hj))
    obtain ⟨k', _, e'⟩ := hm (A[j]'(by omega)) (List.mem_append_left _ (List.getElem_mem _))
    rw [List.getElem?_map, List.getElem?_eq_getElem (by omega), e'] at h1
    rw [List.getElem?_map, List.getElem?_eq_getElem hj, e] at h2
    simp at h1 h2
    obtain rfl : k' = i' := by omega
    obtain rfl : k = i := by omega
    rw [e, e'] at hlt
    unfold lt at hlt
    simp at hlt
    omega

set_option maxRecDepth 100000 in
set_option maxHeartbeats 2000000 in
theorem due_any (a : Option Addr) (len cap : Nat) (T : Nat → Int) (at' : Int) (w : World) (hA : ArgI w a len cap T) :
    Calls Try.prog 13 #[.slice a len cap, .int .i64 at'] w fun en w' => en = .returned (.bool true) ∧ Below w.heap.size w w' := by
  have hlen : len ≤ 9223372036854775807 := by have := hA.1; have := hA.2.1; unfold maxLen at this; omega
  have HA := Lib.hid hA
  clear hA
  obtain ⟨m, em⟩ : ∃ m, m = min len 60 := ⟨_, rfl⟩
  have hm1 : m ≤ len := by omega
  have hm2 : m ≤ 60 := by omega
  have hmin : (if (60 : Int) < (len : Int) then (60 : Int) else (len : Int)) = (m : Int) := by split <;> omega
  clear em
  go_enter Try.func13, Try.ntmps13
  go_wp2_with fail
  refine (awake_any w).mono ?_
  rintro en w1 ⟨rfl, b1⟩
  have T1 : Hid (Turn (fun j => w.heap.size ≤ j) w w1) := Turn.of_below b1 (fun _ _ e => e)
  clear b1
  go_wp2_with fail
  refine (qs_new w1).mono ?_
  rintro en w2 ⟨rfl, q2, g2⟩
  obtain ⟨q, eq⟩ : ∃ q, q = w1.heap.size := ⟨_, rfl⟩
  rw [← eq] at q2 ⊢
  have hq : w.heap.size ≤ q := by rw [eq]; exact T1.out.size
  have HW : Hid (Srt w T q 0 0 none [] w2) := ⟨q2, by simp, by simp, T1.out.grown g2 (fun j e _ => by cases e)⟩
  clear q2 g2 T1 eq
  go_wp2_with fail
  clear hmin
  go_loopw [7, 8] (fun d i wr => ∃ (k : Nat) (r : Option Nat) (S : List Th), i = .int .i64 k ∧ k ≤ m ∧ S.length = k ∧ d = .int .i64 (cnt at' S : Nat) ∧ Hid (Srt w T q k k r S wr)) (fun _ i _ => m - (intOf i).toNat)
  case atStart => exact ⟨0, none, [], rfl, Nat.zero_le _, rfl, rfl, HW⟩
  case round =>
    obtain ⟨k, r, S, rfl, hk1, hk2, rfl, HD⟩ := hrel
    clear HW
    have hd0 : cnt at' S ≤ k := by rw [← hk2]; exact cnt_le _ _
    have HK := Lib.hid hk2
    clear hk2
    by_cases hkl : k < m
    · obtain ⟨b, o, rfl, c0⟩ := arg_cell HA.out HD.out.turn k (by omega)
      have h1 : (k : Int) < (m : Int) := by omega
      have h2 : (k : Int) < (len : Int) := by omega
      have h3 : (0 : Int) ≤ (k : Int) := by omega
      have h4 : (k : Int) < 60 := by omega
      have hd1 : ((cnt at' S : Nat) : Int) ≤ 60 := by omega
      have hd2 : 0 ≤ ((cnt at' S : Nat) : Int) := by omega
      go_wp2_with fail
      refine (qs_add q r S k (T k) k _ HD.out.qs (by rw [HK.out]; omega) (by omega) (by omega)).mono ?_
      rintro en w4 ⟨rfl, g, q4, a4, t4⟩
      have H4 := Lib.hid (HD.out.added q4 a4 t4 hq)
      have e4 : Hid ((ins (T k, (k : Int), (k : Int)) S).length = k + 1) := by show _ = _; rw [(ins_perm _ S).length_eq, List.length_cons, HK.out]
      clear q4 a4 t4 HD c0
      obtain ⟨b', o', e', c1⟩ := arg_cell HA.out H4.out.turn k (by omega)
      injection e' with e'
      injection e' with e1' e2' e3'
      subst e1'; subst e2'
      have hc := Lib.hid (cnt_ins at' (T k, (k : Int), (k : Int)) S)
      by_cases hdue : T k ≤ at'
      · have e5 : Hid (cnt at' (ins (T k, (k : Int), (k : Int)) S) = cnt at' S + 1) := by show _ = _; rw [hc.out, if_pos hdue]
        clear hc
        go_wp2_with fail
        refine ⟨⟨k + 1, some g, _, by rw [Int.natCast_add]; rfl, by omega, e4.out, by rw [e5.out, Int.natCast_add]; rfl, H4⟩, ?_⟩
        show m - ((k : Int) + 1).toNat < m - ((k : Int)).toNat
        omega
      · have e5 : Hid (cnt at' (ins (T k, (k : Int), (k : Int)) S) = cnt at' S) := by show _ = _; rw [hc.out, if_neg hdue]; rfl
        clear hc
        go_wp2_with fail
        refine ⟨⟨k + 1, some g, _, by rw [Int.natCast_add]; rfl, by omega, e4.out, by rw [e5.out], H4⟩, ?_⟩
        show m - ((k : Int) + 1).toNat < m - ((k : Int)).toNat
        omega
    · obtain rfl : k = m := by omega
      have hx : ¬ (k : Int) < (k : Int) := by omega
      clear hkl
      go_wp2_with fail
      refine (qs_due q r S _ at' _ HD.out.qs).mono ?_
      rintro en w5 ⟨v, A, R, rfl, d⟩
      have hso := HD.out.qs.sorted
      have hlater : ∀ y ∈ R, at' < y.1 := all_later d.qs.sorted d.later
      have hcd : cnt at' S = A.length := by rw [d.split]; exact cnt_split d.due hlater
      have hout : Hid (Out T k at' (A.map (fun x => x.2.1))) := out_of (R := R) (by rw [← d.split]; exact hso) (by rw [← d.split]; exact HD.out.mem) d.due
      have hRl : R.length + cnt at' S = k := by rw [hcd, ← HK.out, d.split, List.length_append]; omega
      generalize cnt at' S = D at *
      have H5 : Hid (DSt w q k r R v (A.map (fun x => x.2.1)) w5) := ⟨d.qs, HD.out.row, d.ints, HD.out.turn.trans d.turn (fun j hj e => by
        rcases e with e | e
        · omega
        · exact HD.out.row j e)⟩
      have hLl : (A.map (fun x => x.2.1)).length = D := by rw [List.length_map, hcd]
      obtain ⟨av, cv, rfl⟩ := d.ints.slice
      rw [hLl] at H5 ⊢
      have HR := Lib.hid hlater
      have HRl := Lib.hid hRl
      clear d hso hlater hcd hRl HD HK
      generalize A.map (fun x => x.2.1) = L at *
      have HL := Lib.hid hLl
      clear hLl
      have hDk : (D : Int) ≤ (k : Int) := by omega
      have hDD : D ≤ 9223372036854775807 := by omega
      go_wp2_with fail
      go_loopw [46] (fun i wr => ∃ (j : Nat) (x : Int), i = .int .i64 x ∧ Hid (x = (j : Int)) ∧ j ≤ D ∧ Hid (DSt w q k r R (.slice av D cv) L wr)) (fun i _ => D - (intOf i).toNat)
      case atStart => exact ⟨0, 0, rfl, Lib.hid rfl, Nat.zero_le _, H5⟩
      case round =>
        obtain ⟨j, x, rfl, HX, hj, H6⟩ := hrel
        clear H5
        by_cases hjD : j < D
        · obtain ⟨i, hi, hLi, hTi⟩ := hout.out.one j (by rw [HL.out]; exact hjD)
          obtain ⟨gv, cc, ev, hcell⟩ := H6.out.ints.cell j (by rw [HL.out]; exact hjD)
          injection ev with ev1 ev2 ev3
          subst ev1
          clear ev2 ev3
          have c1 := hcell j _ hLi
          obtain ⟨b, o, rfl, c0⟩ := arg_cell HA.out H6.out.turn i (by omega)
          obtain ⟨y, hy⟩ : ∃ y : Int, y = (i : Int) := ⟨_, rfl⟩
          rw [← hy] at c1
          have ey : y.toNat = i := by omega
          rw [← ey] at c0
          have y0 : 0 ≤ y := by omega
          have y1 : y < (len : Int) := by omega
          have y2 : decide (y < 0) = false := decide_eq_false (by omega)
          have y3 : decide ((k : Int) ≤ y) = false := decide_eq_false (by omega)
          have y4 : decide (at' < T y.toNat) = false := decide_eq_false (by rw [ey]; omega)
          have hxj := HX.out
          have ex : x.toNat = j := by omega
          rw [← ex] at c1
          have x0 : 0 ≤ x := by omega
          have x1 : x < (D : Int) := by omega
          by_cases hj0 : j = 0
          · have x2 : decide (0 < x) = false := decide_eq_false (by omega)
            have HE := Lib.hid ex
            have HY := Lib.hid hy
            have HE2 := Lib.hid ey
            clear hcell hLi hxj ex hy ey hj0
            generalize T y.toNat = ti at *
            go_wp2_with fail
            go_quiet (fail)
            go_wp2_with fail
            refine ⟨⟨j + 1, x + 1, rfl, Lib.hid (by rw [HX.out, Int.natCast_add]; rfl), by omega, H6.out.drewN _⟩, ?_⟩
            show D - (x + 1).toNat < D - x.toNat
            omega
          · obtain ⟨i', hi', hLi', hTi'⟩ := hout.out.one (j - 1) (by rw [HL.out]; omega)
            have hT2 := hout.out.two (j - 1) i i' (by rw [HL.out]; omega) hLi' (by rw [show j - 1 + 1 = j by omega]; exact hLi)
            have c2 := hcell (j - 1) _ hLi'
            obtain ⟨b', o', e', c3⟩ := arg_cell HA.out H6.out.turn i' (by omega)
            injection e' with e'
            injection e' with e1' e2' e3'
            subst e1'; subst e2'
            obtain ⟨y', hy'⟩ : ∃ y' : Int, y' = (i' : Int) := ⟨_, rfl⟩
            rw [← hy'] at c2
            have ey' : y'.toNat = i' := by omega
            rw [← ey'] at c3
            obtain ⟨z, hz⟩ : ∃ z : Int, z = x - 1 := ⟨_, rfl⟩
            have ez : z.toNat = j - 1 := by omega
            rw [← ez] at c2
            have x2 : decide (0 < x) = true := decide_eq_true (by omega)
            have z0 : 0 ≤ z := by omega
            have z1 : z < (D : Int) := by omega
            have hw : IntKind.i64.wrap (x - 1) = z := by rw [hz]; exact IntWalk.i64_in _ (by omega)
            have y0' : 0 ≤ y' := by omega
            have y1' : y' < (len : Int) := by omega
            have y5 : decide (T y.toNat < T y'.toNat) = false := decide_eq_false (by rw [ey, ey']; omega)
            have HE := Lib.hid ex
            have HY := Lib.hid hy
            have HE2 := Lib.hid ey
            clear hcell hLi hLi' hxj ex hy ey hj0 ez ey' hy' hT2 hz
            generalize T y.toNat = ti at *
            generalize T y'.toNat = ti' at *
            go_wp2_with fail
            go_quiet (fail)
            clear hw
            go_wp2_with fail
            refine ⟨⟨j + 1, x + 1, rfl, Lib.hid (by rw [HX.out, Int.natCast_add]; rfl), by omega, H6.out.drewN _⟩, ?_⟩
            show D - (x + 1).toNat < D - x.toNat
            omega
        · obtain rfl : j = D := by omega
          have hj' : ¬ x < (j : Int) := by rw [HX.out]; omega
          clear hjD
          cases R with
          | nil =>
            have hk0 : j = k := by have := HRl.out; simpa using this
            subst hk0
            go_wp2_with fail
            refine (qs_first q r [] _ _ H6.out.qs).mono ?_
            unfold firstOf
            rintro en w7 ⟨rfl, q7, g7⟩
            have T7 : Hid (Turn (fun j => w.heap.size ≤ j) w w7) := H6.out.turn.grown g7 (fun j e _ => by cases e)
            have HRow := Lib.hid H6.out.row
            have Q7 := Lib.hid q7
            clear q7 g7 H6
            go_wp2_with fail
            refine (qs_due q r [] _ at' _ Q7.out).mono ?_
            rintro en w8 ⟨v2, A2, R2, rfl, d2⟩
            obtain ⟨rfl, rfl⟩ : A2 = [] ∧ R2 = [] := by have := d2.split; exact List.append_eq_nil_iff.1 this.symm
            obtain ⟨av2, cv2, rfl⟩ := d2.ints.slice
            have T8 : Hid (Turn (fun j => w.heap.size ≤ j) w w8) := T7.out.trans d2.turn (fun j hj e => by
              rcases e with e | e
              · omega
              · exact HRow.out j e)
            have Q8 := Lib.hid d2.qs
            clear d2 T7 Q7 HRow
            go_wp2_with fail
            refine (qs_len q r [] _ w8 Q8.out).mono ?_
            rintro en w9 ⟨rfl, rfl⟩
            go_wp2_with fail
            go_ret
            exact ⟨rfl, T8.out.below (Nat.le_refl _) (fun j hj e => by omega)⟩
          | cons x R' =>
            have hx1 : at' < x.1 := HR.out x (by simp)
            have hRl1 : ((R'.length + 1 : Nat) : Int) = (k : Int) - (j : Int) := by have := HRl.out; simp at this; omega
            have hjk : (j : Int) < (k : Int) := by omega
            have hRR := Lib.hid hRl1
            clear hRl1
            go_wp2_with fail
            refine (qs_first q r _ _ _ H6.out.qs).mono ?_
            unfold firstOf
            rintro en w7 ⟨rfl, q7, g7⟩
            have T7 : Hid (Turn (fun j => w.heap.size ≤ j) w w7) := H6.out.turn.grown g7 (fun j e _ => by cases e)
            have HRow := Lib.hid H6.out.row
            have Q7 := Lib.hid q7
            clear q7 g7 H6
            go_wp2_with fail
            refine (qs_due q r _ _ at' _ Q7.out).mono ?_
            rintro en w8 ⟨v2, A2, R2, rfl, d2⟩
            have hA2 : A2 = [] := by
              cases A2 with
              | nil => rfl
              | cons y s =>
                have h1 := d2.due y (by simp)
                have h2 := HR.out y (by rw [d2.split]; simp)
                omega
            subst hA2
            have hR2 : R2 = x :: R' := d2.split.symm
            subst hR2
            obtain ⟨av2, cv2, rfl⟩ := d2.ints.slice
            have T8 : Hid (Turn (fun j => w.heap.size ≤ j) w w8) := T7.out.trans d2.turn (fun j hj e => by
              rcases e with e | e
              · omega
              · exact HRow.out j e)
            have Q8 := Lib.hid d2.qs
            clear d2 T7 Q7 HRow
            go_wp2_with fail
            have hl := qs_len q r _ _ w8 Q8.out
            rw [List.length_cons, hRR.out] at hl
            refine hl.mono ?_
            rintro en w9 ⟨rfl, rfl⟩
            clear hl
            go_wp2_with fail
            go_ret
            exact ⟨rfl, T8.out.below (Nat.le_refl _) (fun j hj e => by omega)⟩

def Arg0 (w : World) (a : Option Addr) (len cap : Nat) : Prop := ∃ T, ArgI w a len cap T

theorem walk (a0 : Option Addr) (len0 cap0 : Nat) (a1 : Int) (w : World) (w0 : Arg0 w a0 len0 cap0) (_w1 : (Lit.int .i64 a1).wf = true) :
    Calls Try.prog 13 #[.slice a0 len0 cap0, .int .i64 a1] w fun en w' => en = .returned (.bool true) ∧ Below w.heap.size w w' := by
  obtain ⟨T, hT⟩ := w0
  exact due_any a0 len0 cap0 T a1 w hT

theorem opened0 {H : Type} {enc : TypeId × Value → H} {w : World} {spare : Nat → Bool} {held : Bool} {a : Option Addr} {len cap : Nat} {d : DataW H} {p : List MemPlace} (h : DataW.Trod enc Try.prog w 0 spare held 80 (.slice a len cap) d p) : Arg0 w a len cap := openedI h

theorem own : ownKnob Try.prog.godebug = none := by kernel_rfl
theorem laidOut : laidOutB Try.prog = true := by kernel_rfl

set_option maxRecDepth 100000 in
theorem lifted (os : Os) (started : os.Started) (H : Type) (enc : TypeId × Value → H) :
    ReturnsInHanded {} Try.checked os 13 .any (Rows.rankDueSpec.pre6 enc Try.prog Try.f13 Rows.rankDueRow.domain false) (Rows.rankDueSpec.post enc Try.prog Try.f13 false true false false) := by
  refine returnsInHanded_of_change (C := Try.checked) own started (by kernel_rfl) Try.func13
    (ChangeSpec.witness6 (enc := enc) (C := Try.checked) false ⟨#[], #[.slice none 0 0, .int .i64 0], []⟩ 8 (by kernel_rfl) (by kernel_rfl) (by kernel_rfl) (by kernel_rfl)) ?_
  intro W base args ds gs before hval0 hW _ _
  have hval : ∀ (j : Nat) t v, Try.f13.params[j]? = some t → args[j]? = some v → Value.okWide Try.prog W .any base t v := hval0
  have hW' := hW
  obtain ⟨p, q, hA0, hV, rfl, _, _⟩ := hW
  have hA : DataW.TrodAll enc Try.prog W 0 (fun _ => true) true Try.f13.params.toList args.toList ds p := hA0
  rw [Try.params13] at hA hval
  obtain ⟨v0, vs0, d0, ds0, p0, q0, hargs, rfl, rfl, h0, r0⟩ := trodAll_cons hA
  obtain ⟨v1, vs1, d1, ds1, p1, q1, rfl, rfl, rfl, h1, r1⟩ := trodAll_cons r0
  obtain ⟨rfl, rfl, rfl⟩ := trodAll_nil r1
  obtain rfl : args = #[v0, v1] := by cases args; simp_all
  obtain ⟨rfl, rfl⟩ := trodVars_none hV
  obtain ⟨a0, len0, cap0, rfl⟩ := okWide_slice Try.underlying80 (hval 0 80 v0 rfl rfl)
  have k0 := h0
  have lt0 : ∀ x ∈ p0, x.block < W.heap.size := by obtain ⟨m, hm⟩ := k0; exact DataW.trod_lt m _ _ _ hm
  have w0 : Arg0 W a0 len0 cap0 := opened0 h0
  obtain ⟨a1, rfl, rfl, rfl, w1⟩ := open_int Try.underlying3 (hval 1 3 v1 rfl rfl) h1
  clear hA0 hval0
  refine (walk a0 len0 cap0 a1 W w0 w1).mono fun e W' ⟨he, bel⟩ => ?_
  subst he
  exact ⟨_, rfl, _, _, _, [], _, [], hW', trodAll_mk1 (shut_bool Try.underlying4 _), (trodAll_cons_mk (Below.trod laidOut (by kernel_rfl) (of_decide_eq_true (by kernel_rfl)) k0 bel lt0) (trodAll_cons_mk (shut_int Try.underlying3 w1) trodAll_mk0)), rfl, bel.frame _, fun h => by cases h⟩

theorem over : Rows.rankDueRow.holds Try.pinned (OpenSpec.ofChange Rows.rankDueSpec) :=
  OpenClaim.holds_of_wide 13 Try.f13 rfl rfl rfl rfl rfl rfl rfl ⟨rfl, rfl, rfl, rfl, rfl⟩ rfl rfl rfl rfl rfl (by kernel_rfl) Try.func13 (by kernel_rfl)
    (of_decide_eq_true (by kernel_rfl)) (by unfold Func.isWrapper; first | (rw [if_pos (by decide +kernel)]; kernel_rfl) | (rw [if_neg (by decide +kernel)]; exact ⟨rfl, rfl⟩))
    (fun os started H enc _ => lifted os started H enc)

theorem proved : Rows.RankDueSaid := over

end Go.Proofs.Ytpdcbfhmlgmhpaa.rankDue
