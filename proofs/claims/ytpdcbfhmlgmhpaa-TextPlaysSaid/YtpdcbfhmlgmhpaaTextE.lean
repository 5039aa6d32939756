/- text: what the document's own Check and Do give. -/
import Derived.Test.YtpdcbfhmlgmhpaaTextC
namespace Go.Proofs.Ytpdcbfhmlgmhpaa
open Go.RowKit

set_option maxRecDepth 100000 in
set_option maxHeartbeats 1000000 in
theorem fcheck_calls (k a n : Int) (x : ByteArray) (w : World) (hx : x.size ≤ maxLen) :
    Calls Try.prog 20 #[.agg #[.int .i64 k, .int .i64 a, .string x, .int .i64 n]] w fun en w' => en = .returned (.int .i64 (chk k a x.size n)) ∧ Below w.heap.size w w' := by
  have hm : x.size ≤ 9223372036854775807 := by unfold maxLen at hx; omega
  generalize hc : chk k a x.size n = c
  unfold chk at hc
  by_cases h1 : k = 1
  · subst h1
    rw [if_pos rfl] at hc
    by_cases h : 0 ≤ a ∧ a ≤ 200 ∧ 1 ≤ (x.size : Int) ∧ (x.size : Int) ≤ 40 ∧ n = 0
    · rw [if_pos h] at hc
      subst hc
      obtain ⟨h2, h3, h4, h5, rfl⟩ := h
      go_enter Try.func20, Try.ntmps20
      go_wp2_with fail
      go_ret
      refine ⟨rfl, one_box ?_⟩
      repeat (first | exact Turn.refl _ _ | refine Turn.drew ?_ | refine Turn.alloc ?_ _)
    · rw [if_neg h] at hc
      subst hc
      rcases ends4 h with h2 | ⟨h2, h3⟩ | ⟨h2, h3, h4⟩ | ⟨h2, h3, h4, h5⟩ | ⟨h2, h3, h4, h5, h6⟩
      all_goals
        clear h
        go_enter Try.func20, Try.ntmps20
        go_wp2_with fail
        go_ret
        refine ⟨rfl, one_box ?_⟩
        repeat (first | exact Turn.refl _ _ | refine Turn.drew ?_ | refine Turn.alloc ?_ _)
  · rw [if_neg h1] at hc
    by_cases h2 : k = 2
    · subst h2
      clear h1
      rw [if_pos rfl] at hc
      by_cases h : 0 ≤ a ∧ a ≤ 200 ∧ 1 ≤ n ∧ n ≤ 40 ∧ (x.size : Int) = 0
      · rw [if_pos h] at hc
        subst hc
        obtain ⟨h2, h3, h4, h5, h6⟩ := h
        have h7 : ¬ (0 : Int) < (x.size : Int) := by omega
        clear h6
        go_enter Try.func20, Try.ntmps20
        go_wp2_with fail
        go_ret
        refine ⟨rfl, one_box ?_⟩
        repeat (first | exact Turn.refl _ _ | refine Turn.drew ?_ | refine Turn.alloc ?_ _)
      · rw [if_neg h] at hc
        subst hc
        have h0 : ¬ ((x.size : Int) = 0) → (0 : Int) < (x.size : Int) := by omega
        rcases ends4 h with h2 | ⟨h2, h3⟩ | ⟨h2, h3, h4⟩ | ⟨h2, h3, h4, h5⟩ | ⟨h2, h3, h4, h5, h6⟩
        case inr.inr.inr.inr =>
          have h7 : (0 : Int) < (x.size : Int) := h0 (by simpa using h6)
          clear h h6 h0
          go_enter Try.func20, Try.ntmps20
          go_wp2_with fail
          go_ret
          refine ⟨rfl, one_box ?_⟩
          repeat (first | exact Turn.refl _ _ | refine Turn.drew ?_ | refine Turn.alloc ?_ _)
        all_goals
          clear h h0
          go_enter Try.func20, Try.ntmps20
          go_wp2_with fail
          go_ret
          refine ⟨rfl, one_box ?_⟩
          repeat (first | exact Turn.refl _ _ | refine Turn.drew ?_ | refine Turn.alloc ?_ _)
    · rw [if_neg h2] at hc
      subst hc
      have hk : k < 1 ∨ (1 ≤ k ∧ 2 < k) := by omega
      clear h1 h2
      rcases hk with h1 | ⟨h1, h2⟩
      all_goals
        go_enter Try.func20, Try.ntmps20
        go_wp2_with fail
        go_ret
        refine ⟨rfl, one_box ?_⟩
        repeat (first | exact Turn.refl _ _ | refine Turn.drew ?_ | refine Turn.alloc ?_ _)

def FDoPost (w : World) (r : ByteArray × ByteArray × Int) (en : Ending) (w' : World) : Prop :=
  en = .returned (.tuple #[.string r.1, .string r.2.1, .int .i64 r.2.2]) ∧ Below w.heap.size w w'

set_option maxRecDepth 100000 in
set_option maxHeartbeats 1000000 in
theorem fdo_calls (s : ByteArray) (k a : Int) (x : ByteArray) (n : Int) (w : World) (hs : s.size ≤ 200) (hx : x.size ≤ maxLen) :
    Calls Try.prog 18 #[.string s, .agg #[.int .i64 k, .int .i64 a, .string x, .int .i64 n]] w fun en w' => FDoPost w (doT s k a x n) en w' := by
  by_cases hc : chk k a x.size n = 0
  · obtain ⟨ha0, ha1, ho⟩ := chk_ok hc
    obtain ⟨m, em⟩ : ∃ m : Nat, a = (m : Int) := ⟨a.toNat, by omega⟩
    have HC := Lib.hid hc
    clear hc
    subst em
    rcases ho with ⟨rfl, h1, h2, rfl⟩ | ⟨rfl, h1, h2, h3⟩
    · have E0 : Hid (doT s 1 m x 0 = ((insT s m x).1, ⟨#[]⟩, (insT s m x).2)) := by show _ = _; unfold doT; rw [if_pos HC.out, if_pos rfl]; rfl
      have E : Hid (∃ s' e, doT s 1 m x 0 = (s', ⟨#[]⟩, e) ∧ ((s.size < m ∧ s' = s ∧ e = 6) ∨ (m ≤ s.size ∧ 200 < s.size + x.size ∧ s' = s ∧ e = 7) ∨ (m ≤ s.size ∧ s.size + x.size ≤ 200 ∧ s' = s.extract 0 m ++ x ++ s.extract m s.size ∧ e = 0))) := by
        refine Lib.hid ⟨_, _, E0.out, ?_⟩
        unfold insT
        by_cases k1 : s.size < m
        · rw [if_pos k1]; exact .inl ⟨k1, rfl, rfl⟩
        · rw [if_neg k1]
          by_cases k2 : 200 < s.size + x.size
          · rw [if_pos k2]; exact .inr (.inl ⟨by omega, k2, rfl, rfl⟩)
          · rw [if_neg k2]; exact .inr (.inr ⟨by omega, by omega, rfl, rfl⟩)
      clear E0
      obtain ⟨s', e, E1, E2⟩ := E.out
      have HE := Lib.hid E1
      clear E E1
      have hx40 : x.size ≤ 40 := by omega
      rcases E2 with ⟨k1, rfl, rfl⟩ | ⟨k1, k2, rfl, rfl⟩ | ⟨k1, k2, rfl, rfl⟩
      · have k1' : (s'.size : Int) < (m : Int) := by omega
        go_enter Try.func18, Try.ntmps18
        go_wp2_with fail
        refine (fcheck_calls _ _ _ _ _ hx).mono ?_
        rw [HC.out]
        rintro en w1 ⟨rfl, b1⟩
        have T1 : Hid (Turn (fun j => w.heap.size ≤ j) w w1) := ((Turn.refl _ w).alloc _).trans (Turn.of_below (F := fun j => w.heap.size ≤ j) b1 (fun j _ e => by simp at e; omega)) (fun _ _ e => e)
        have B1 : Has w1 w.heap.size 34 #[.int .i64 1, .int .i64 m, .string x, .int .i64 0] := (Has.made _ _ _).below b1 (by simp)
        have b10 : w1.cell? ⟨w.heap.size, 0, none⟩ = some (.int .i64 1) := B1.cell 0
        have b11 : w1.cell? ⟨w.heap.size, 1, none⟩ = some (.int .i64 m) := B1.cell 1
        clear b1 B1 HC
        go_wp2_with fail
        go_ret3
        rw [HE.out]
        exact ⟨rfl, one_box T1.out⟩
      · have k1' : (m : Int) ≤ (s'.size : Int) := by omega
        have k2' : (200 : Int) < (s'.size : Int) + (x.size : Int) := by omega
        go_enter Try.func18, Try.ntmps18
        go_wp2_with fail
        refine (fcheck_calls _ _ _ _ _ hx).mono ?_
        rw [HC.out]
        rintro en w1 ⟨rfl, b1⟩
        have T1 : Hid (Turn (fun j => w.heap.size ≤ j) w w1) := ((Turn.refl _ w).alloc _).trans (Turn.of_below (F := fun j => w.heap.size ≤ j) b1 (fun j _ e => by simp at e; omega)) (fun _ _ e => e)
        have B1 : Has w1 w.heap.size 34 #[.int .i64 1, .int .i64 m, .string x, .int .i64 0] := (Has.made _ _ _).below b1 (by simp)
        have b10 : w1.cell? ⟨w.heap.size, 0, none⟩ = some (.int .i64 1) := B1.cell 0
        have b11 : w1.cell? ⟨w.heap.size, 1, none⟩ = some (.int .i64 m) := B1.cell 1
        have b12 : w1.cell? ⟨w.heap.size, 2, none⟩ = some (.string x) := B1.cell 2
        clear b1 B1 HC
        go_wp2_with fail
        go_ret3
        rw [HE.out]
        exact ⟨rfl, one_box T1.out⟩
      · have k1' : (m : Int) ≤ (s.size : Int) := by omega
        have k2' : (s.size : Int) + (x.size : Int) ≤ 200 := by omega
        have k0 : (0 : Int) ≤ (m : Int) := by omega
        go_enter Try.func18, Try.ntmps18
        go_wp2_with fail
        refine (fcheck_calls _ _ _ _ _ hx).mono ?_
        rw [HC.out]
        rintro en w1 ⟨rfl, b1⟩
        have T1 : Hid (Turn (fun j => w.heap.size ≤ j) w w1) := ((Turn.refl _ w).alloc _).trans (Turn.of_below (F := fun j => w.heap.size ≤ j) b1 (fun j _ e => by simp at e; omega)) (fun _ _ e => e)
        have B1 : Has w1 w.heap.size 34 #[.int .i64 1, .int .i64 m, .string x, .int .i64 0] := (Has.made _ _ _).below b1 (by simp)
        have b10 : w1.cell? ⟨w.heap.size, 0, none⟩ = some (.int .i64 1) := B1.cell 0
        have b11 : w1.cell? ⟨w.heap.size, 1, none⟩ = some (.int .i64 m) := B1.cell 1
        have b12 : w1.cell? ⟨w.heap.size, 2, none⟩ = some (.string x) := B1.cell 2
        clear b1 B1 HC
        go_wp2_with fail
        go_region
        go_wp2_with fail
        go_ret3
        rw [HE.out]
        exact ⟨rfl, one_box T1.out.drew⟩
    · obtain ⟨l, el⟩ : ∃ l : Nat, n = (l : Int) := ⟨n.toNat, by omega⟩
      subst el
      have E0 : Hid (doT s 2 m x l = cutT s m l) := by show _ = _; unfold doT; rw [if_pos HC.out, if_neg (by decide)]; rfl
      have E : Hid (∃ s' g e, doT s 2 m x l = (s', g, e) ∧ ((s.size < m ∧ s' = s ∧ g = ⟨#[]⟩ ∧ e = 6) ∨ (m ≤ s.size ∧ s.size < m + l ∧ s' = s ∧ g = ⟨#[]⟩ ∧ e = 6) ∨ (m + l ≤ s.size ∧ s' = s.extract 0 m ++ s.extract (m + l) s.size ∧ g = s.extract m (m + l) ∧ e = 0))) := by
        refine Lib.hid ⟨(cutT s m l).1, (cutT s m l).2.1, (cutT s m l).2.2, E0.out, ?_⟩
        unfold cutT
        by_cases k1 : s.size < m + l
        · rw [if_pos k1]
          by_cases k2 : s.size < m
          · exact .inl ⟨k2, rfl, rfl, rfl⟩
          · exact .inr (.inl ⟨by omega, k1, rfl, rfl, rfl⟩)
        · rw [if_neg k1]; exact .inr (.inr ⟨by omega, rfl, rfl, rfl⟩)
      clear E0
      obtain ⟨s', g, e, E1, E2⟩ := E.out
      have HE := Lib.hid E1
      clear E E1 h3
      rcases E2 with ⟨k1, rfl, rfl, rfl⟩ | ⟨k1, k2, rfl, rfl, rfl⟩ | ⟨k1, rfl, rfl, rfl⟩
      · have k1' : (s'.size : Int) < (m : Int) := by omega
        go_enter Try.func18, Try.ntmps18
        go_wp2_with fail
        refine (fcheck_calls _ _ _ _ _ hx).mono ?_
        rw [HC.out]
        rintro en w1 ⟨rfl, b1⟩
        have T1 : Hid (Turn (fun j => w.heap.size ≤ j) w w1) := ((Turn.refl _ w).alloc _).trans (Turn.of_below (F := fun j => w.heap.size ≤ j) b1 (fun j _ e => by simp at e; omega)) (fun _ _ e => e)
        have B1 : Has w1 w.heap.size 34 #[.int .i64 2, .int .i64 m, .string x, .int .i64 l] := (Has.made _ _ _).below b1 (by simp)
        have b10 : w1.cell? ⟨w.heap.size, 0, none⟩ = some (.int .i64 2) := B1.cell 0
        have b11 : w1.cell? ⟨w.heap.size, 1, none⟩ = some (.int .i64 m) := B1.cell 1
        clear b1 B1 HC
        go_wp2_with fail
        go_ret3
        rw [HE.out]
        exact ⟨rfl, one_box T1.out⟩
      · have k1' : (m : Int) ≤ (s'.size : Int) := by omega
        have k2' : (s'.size : Int) - (m : Int) < (l : Int) := by omega
        have k3' : (0 : Int) ≤ (s'.size : Int) - (m : Int) := by omega
        go_enter Try.func18, Try.ntmps18
        go_wp2_with fail
        refine (fcheck_calls _ _ _ _ _ hx).mono ?_
        rw [HC.out]
        rintro en w1 ⟨rfl, b1⟩
        have T1 : Hid (Turn (fun j => w.heap.size ≤ j) w w1) := ((Turn.refl _ w).alloc _).trans (Turn.of_below (F := fun j => w.heap.size ≤ j) b1 (fun j _ e => by simp at e; omega)) (fun _ _ e => e)
        have B1 : Has w1 w.heap.size 34 #[.int .i64 2, .int .i64 m, .string x, .int .i64 l] := (Has.made _ _ _).below b1 (by simp)
        have b10 : w1.cell? ⟨w.heap.size, 0, none⟩ = some (.int .i64 2) := B1.cell 0
        have b11 : w1.cell? ⟨w.heap.size, 1, none⟩ = some (.int .i64 m) := B1.cell 1
        have b13 : w1.cell? ⟨w.heap.size, 3, none⟩ = some (.int .i64 l) := B1.cell 3
        clear b1 B1 HC
        go_wp2_with fail
        go_ret3
        rw [HE.out]
        exact ⟨rfl, one_box T1.out⟩
      · have k1' : (m : Int) + (l : Int) ≤ (s.size : Int) := by omega
        have k2' : ¬ (s.size : Int) - (m : Int) < (l : Int) := by omega
        have k3' : (0 : Int) ≤ (s.size : Int) - (m : Int) := by omega
        have k4' : (m : Int) ≤ (s.size : Int) := by omega
        have k0 : (0 : Int) ≤ (m : Int) := by omega
        have k5 : (0 : Int) ≤ (l : Int) := by omega
        have k6 : (m : Int) ≤ (m : Int) + (l : Int) := by omega
        have k7 : (0 : Int) ≤ (m : Int) + (l : Int) := by omega
        have e1 : ((m : Int) + (l : Int)).toNat = m + l := by omega
        go_enter Try.func18, Try.ntmps18
        go_wp2_with fail
        refine (fcheck_calls _ _ _ _ _ hx).mono ?_
        rw [HC.out]
        rintro en w1 ⟨rfl, b1⟩
        have T1 : Hid (Turn (fun j => w.heap.size ≤ j) w w1) := ((Turn.refl _ w).alloc _).trans (Turn.of_below (F := fun j => w.heap.size ≤ j) b1 (fun j _ e => by simp at e; omega)) (fun _ _ e => e)
        have B1 : Has w1 w.heap.size 34 #[.int .i64 2, .int .i64 m, .string x, .int .i64 l] := (Has.made _ _ _).below b1 (by simp)
        have b10 : w1.cell? ⟨w.heap.size, 0, none⟩ = some (.int .i64 2) := B1.cell 0
        have b11 : w1.cell? ⟨w.heap.size, 1, none⟩ = some (.int .i64 m) := B1.cell 1
        have b13 : w1.cell? ⟨w.heap.size, 3, none⟩ = some (.int .i64 l) := B1.cell 3
        clear b1 B1 HC
        go_wp2_with fail
        go_region
        go_wp2_with fail
        go_ret3
        rw [HE.out]
        exact ⟨rfl, one_box T1.out.drew⟩
  · have E : Hid (doT s k a x n = (s, ⟨#[]⟩, chk k a x.size n)) := if_neg hc
    generalize hq : chk k a x.size n = c at *
    have hc' : (c != 0) = true := by simpa using hc
    have HQ := Lib.hid hq
    clear hq hc
    go_enter Try.func18, Try.ntmps18
    go_wp2_with fail
    refine (fcheck_calls _ _ _ _ _ hx).mono ?_
    rw [HQ.out]
    rintro en w1 ⟨rfl, b1⟩
    have T1 : Hid (Turn (fun j => w.heap.size ≤ j) w w1) := ((Turn.refl _ w).alloc _).trans (Turn.of_below (F := fun j => w.heap.size ≤ j) b1 (fun j _ e => by simp at e; omega)) (fun _ _ e => e)
    have B1 : Has w1 w.heap.size 34 #[.int .i64 k, .int .i64 a, .string x, .int .i64 n] := (Has.made _ _ _).below b1 (by simp)
    have b10 : w1.cell? ⟨w.heap.size, 0, none⟩ = some (.int .i64 k) := B1.cell 0
    have b11 : w1.cell? ⟨w.heap.size, 1, none⟩ = some (.int .i64 a) := B1.cell 1
    have b12 : w1.cell? ⟨w.heap.size, 2, none⟩ = some (.string x) := B1.cell 2
    have b13 : w1.cell? ⟨w.heap.size, 3, none⟩ = some (.int .i64 n) := B1.cell 3
    clear b1 B1
    go_wp2_with fail
    refine (fcheck_calls _ _ _ _ _ hx).mono ?_
    rw [HQ.out]
    rintro en w2 ⟨rfl, b2⟩
    have T2 : Hid (Turn (fun j => w.heap.size ≤ j) w w2) := T1.out.trans (Turn.of_below (F := fun j => w1.heap.size ≤ j) b2 (fun _ _ e => e)) (fun j hj e => by have := T1.out.size; omega)
    clear b2 b10 b11 b12 b13 HQ T1
    go_wp2_with fail
    go_ret3
    rw [E.out]
    exact ⟨rfl, one_box T2.out⟩

end Go.Proofs.Ytpdcbfhmlgmhpaa
