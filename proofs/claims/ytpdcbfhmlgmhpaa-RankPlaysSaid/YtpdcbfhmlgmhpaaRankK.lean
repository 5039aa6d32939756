/- Due over the sorted list; the laws' awake. -/
import Derived.Test.YtpdcbfhmlgmhpaaRankJ
namespace Go.Proofs.Ytpdcbfhmlgmhpaa
open Go.RowKit

structure QDueSt (w : World) (q : Nat) (r : Option Nat) (n tick : Int) (S : List Th) (w' : World) (v : Value) (A R : List Th) : Prop where
  split : S = A ++ R
  due : ∀ x ∈ A, x.1 ≤ tick
  later : ∀ x t, R = x :: t → ¬ x.1 ≤ tick
  qs : Qs w' q r R n
  ints : Ints w' v (A.map (fun x => x.2.1))
  new : ∀ k, v.ownBlock = some k → w.heap.size ≤ k ∧ k ≠ q ∧ r ≠ some k
  turn : Turn (fun k => k = q ∨ r = some k) w w'

def QDuePost (w : World) (q : Nat) (r : Option Nat) (n tick : Int) (S : List Th) (en : Ending) (w' : World) : Prop :=
  ∃ v A R, en = .returned v ∧ QDueSt w q r n tick S w' v A R

theorem qs_due (q : Nat) (r : Option Nat) (S : List Th) (n tick : Int) (w : World) (h : Qs w q r S n) :
    Calls Try.prog 46 #[.pointer (some ⟨q, 0, none⟩), .int .i64 tick] w fun en w' => QDuePost w q r n tick S en w' := by
  obtain ⟨l, h1, h2⟩ := h.heap
  refine (due_calls q r l S n tick w h1 h2 h.sorted h.row h1.cell1.2.2).mono fun en w' hp => ?_
  obtain ⟨v, A, R, l', e, d, hR⟩ := hp
  have hs := h.sorted
  rw [d.split] at hs
  exact ⟨v, A, R, e, d.split, d.due, hR, ⟨⟨l', d.qh, d.perm⟩, (List.pairwise_append.1 hs).2.1, fun x hx => h.nums x (by rw [d.split]; exact List.mem_append_right _ hx), d.qh.row_lt⟩, d.ints, d.new, d.turn⟩

theorem Ints.cell {w : World} {v : Value} {L : List Int} (h : Ints w v L) (i : Nat) (hi : i < L.length) : ∃ g c, v = .slice (some ⟨g, 0, none⟩) L.length c ∧ ∀ j x, L[j]? = some x → w.cell? ⟨g, j, none⟩ = some (.int .i64 x) := by
  rcases h.2 with ⟨_, h2⟩ | ⟨g, cap, cur, e1, e2, e3, e4, e5, e6, e7⟩
  · omega
  · refine ⟨g, cap, e1, fun j x hj => ?_⟩
    have hh : Has w g 3 cur := e3
    rw [hh.cell, ← Array.getElem?_toList]
    have hjl : j < L.length := by
      rcases Nat.lt_or_ge j L.length with k | k
      · exact k
      · rw [List.getElem?_eq_none k] at hj; cases hj
    have : (cur.toList.take (L.length * 1))[j]? = cur.toList[j]? := List.getElem?_take_of_lt (by omega)
    rw [← this, e7, List.getElem?_map, hj]
    rfl

set_option maxRecDepth 100000 in
set_option maxHeartbeats 1000000 in
theorem awake_any (w : World) : Calls Try.prog 39 #[] w fun en w' => en = .returned (.bool true) ∧ Below w.heap.size w w' := by
  go_enter Try.func39, Try.ntmps39
  go_wp2_with fail
  refine (qs_new w).mono ?_
  rintro en w1 ⟨rfl, h1, g1⟩
  have H1 := Lib.hid h1
  have T1 : Hid (Turn (fun k => w.heap.size ≤ k) w w1) := (Turn.refl _ w).grown g1 (fun j e _ => by cases e)
  clear h1 g1
  go_wp2_with fail
  refine (qs_add w.heap.size none [] 0 5 1 w1 H1.out (by simp) (by omega) (by omega)).mono ?_
  rintro en w2 ⟨rfl, g, h2, a2, t2⟩
  have H2 := Lib.hid h2
  have R2 : Hid (w.heap.size ≤ g) := by
    rcases a2 with h | h
    · cases h
    · exact Nat.le_trans T1.out.size h
  have T2 : Hid (Turn (fun k => w.heap.size ≤ k) w w2) := T1.out.trans t2 (fun j hj e => by
    rcases e with e | e
    · omega
    · cases e)
  clear h2 a2 t2 H1
  go_wp2_with fail
  refine (qs_add w.heap.size (some g) _ 1 3 2 w2 H2.out (by simp [ins]) (by omega) (by omega)).mono ?_
  rintro en w3 ⟨rfl, g', h3, a3, t3⟩
  have H3 := Lib.hid h3
  have R3 : Hid (w.heap.size ≤ g') := by
    rcases a3 with h | h
    · injection h with h; rw [← h]; exact R2.out
    · exact Nat.le_trans T2.out.size h
  have T3 : Hid (Turn (fun k => w.heap.size ≤ k) w w3) := T2.out.trans t3 (fun j hj e => by
    rcases e with e | e
    · omega
    · injection e with e; rw [← e]; exact R2.out)
  clear h3 a3 t3 H2
  go_wp2_with fail
  refine (qs_add w.heap.size (some g') _ 2 5 3 w3 H3.out (by simp [ins, lt]) (by omega) (by omega)).mono ?_
  rintro en w4 ⟨rfl, g2, h4, a4, t4⟩
  have e4 : ins (5, 3, 2) (ins (3, 2, 1) (ins (5, 1, 0) [])) = [(3, 2, 1), (5, 1, 0), (5, 3, 2)] := by decide
  have H4 : Hid (Qs w4 w.heap.size (some g2) [(3, 2, 1), (5, 1, 0), (5, 3, 2)] 3) := by rw [← e4]; exact h4
  have R4 : Hid (w.heap.size ≤ g2) := by
    rcases a4 with h | h
    · injection h with h; rw [← h]; exact R3.out
    · exact Nat.le_trans T3.out.size h
  have T4 : Hid (Turn (fun k => w.heap.size ≤ k) w w4) := T3.out.trans t4 (fun j hj e => by
    rcases e with e | e
    · omega
    · injection e with e; rw [← e]; exact R3.out)
  clear h4 a4 t4 H3 e4
  go_wp2_with fail
  refine (qs_due w.heap.size (some g2) _ 3 5 w4 H4.out).mono ?_
  rintro en w5 ⟨v, A, R, rfl, d⟩
  have hR : R = [] := by
    cases R with
    | nil => rfl
    | cons x t =>
      have hx : x ∈ [((3 : Int), (2 : Int), (1 : Int)), (5, 1, 0), (5, 3, 2)] := by rw [d.split]; simp
      have := d.later x t rfl
      simp only [List.mem_cons, List.not_mem_nil, or_false] at hx
      rcases hx with rfl | rfl | rfl <;> simp at this
  subst hR
  have hA : A = [(3, 2, 1), (5, 1, 0), (5, 3, 2)] := by have := d.split; rw [List.append_nil] at this; exact this.symm
  subst hA
  obtain ⟨gv, c, rfl, hc⟩ := d.ints.cell 0 (by simp)
  have k0 : w5.cell? ⟨gv, 0, none⟩ = some (.int .i64 2) := hc 0 2 rfl
  have k1 : w5.cell? ⟨gv, 1, none⟩ = some (.int .i64 1) := hc 1 1 rfl
  have k2 : w5.cell? ⟨gv, 2, none⟩ = some (.int .i64 3) := hc 2 3 rfl
  have H5 := Lib.hid d.qs
  have T5 : Hid (Turn (fun k => w.heap.size ≤ k) w w5) := T4.out.trans d.turn (fun j hj e => by
    rcases e with e | e
    · omega
    · injection e with e; rw [← e]; exact R4.out)
  clear d hc H4 R2 R3 R4 T1 T2 T3 T4
  go_wp2_with fail
  refine (qs_len w.heap.size (some g2) [] 3 w5 H5.out).mono ?_
  rintro en w6 ⟨rfl, rfl⟩
  go_wp2_with fail
  go_ret
  exact ⟨rfl, T5.out.below (Nat.le_refl _) (fun j hj e => by omega)⟩

end Go.Proofs.Ytpdcbfhmlgmhpaa
