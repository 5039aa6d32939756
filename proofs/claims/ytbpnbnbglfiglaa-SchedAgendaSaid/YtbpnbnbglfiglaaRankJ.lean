/- rank's Queue over the list of what is due, in its order. -/
import Derived.Test.YtbpnbnbglfiglaaRankIA
namespace Go.Proofs.Ytbpnbnbglfiglaa
open Go.RowKit

def ins (x : Th) : List Th → List Th
  | [] => [x]
  | y :: t => if lt x y then x :: y :: t else y :: ins x t

theorem ins_perm (x : Th) (S : List Th) : (ins x S).Perm (x :: S) := by
  induction S with
  | nil => exact List.Perm.refl _
  | cons y t ih =>
    unfold ins
    by_cases h : lt x y
    · rw [if_pos h]
    · rw [if_neg h]
      exact (ih.cons y).trans (List.Perm.swap x y t)

theorem ins_sorted {x : Th} {S : List Th} (h : S.Pairwise lt) (hn : ∀ y ∈ S, y.2.2 < x.2.2) : (ins x S).Pairwise lt := by
  induction S with
  | nil => simp [ins]
  | cons y t ih =>
    obtain ⟨h1, h2⟩ := List.pairwise_cons.1 h
    unfold ins
    by_cases hxy : lt x y
    · rw [if_pos hxy]
      refine List.pairwise_cons.2 ⟨fun z hz => ?_, h⟩
      rcases List.mem_cons.1 hz with rfl | hz
      · exact hxy
      · exact lt_trans hxy (h1 z hz)
    · rw [if_neg hxy]
      refine List.pairwise_cons.2 ⟨fun z hz => ?_, ih h2 (fun z hz => hn z (List.mem_cons_of_mem _ hz))⟩
      rcases List.mem_cons.1 ((ins_perm x t).mem_iff.1 hz) with rfl | hz
      · have := hn y (by simp)
        unfold lt at hxy ⊢
        omega
      · exact h1 z hz

/-- The queue's block q, its row r; what is due, in its order, is S; n were added. -/
structure Qs (w : World) (q : Nat) (r : Option Nat) (S : List Th) (n : Int) : Prop where
  heap : ∃ l, Qh w q r l n ∧ l.Perm S
  sorted : S.Pairwise lt
  nums : ∀ x ∈ S, x.2.2 < n
  row : ∀ k, r = some k → k < w.heap.size

theorem Qs.few {w : World} {q : Nat} {r : Option Nat} {S : List Th} {n : Int} (h : Qs w q r S n) : S.length ≤ 1000000 := by
  obtain ⟨l, h1, h2⟩ := h.heap
  rw [← h2.length_eq]; exact h1.few

theorem Qh.row_lt {w : World} {q : Nat} {r : Option Nat} {l : List Th} {n : Int} (h : Qh w q r l n) : ∀ k, r = some k → k < w.heap.size := by
  intro k hk
  rcases h.at_ with ⟨e1, _⟩ | ⟨g, cap, e1, e2⟩
  · rw [e1] at hk; cases hk
  · rw [e1] at hk; injection hk with hk; rw [← hk]; exact e2.lie.lt

theorem Qs.turn {F : Nat → Prop} {w w' : World} {q : Nat} {r : Option Nat} {S : List Th} {n : Int} (h : Qs w q r S n) (t : Turn F w w') (hq : ¬ F q) (hr : ∀ k, r = some k → ¬ F k) : Qs w' q r S n := by
  obtain ⟨l, h1, h2⟩ := h.heap
  exact ⟨⟨l, h1.turn t hq hr, h2⟩, h.sorted, h.nums, fun k hk => Nat.lt_of_lt_of_le (h.row k hk) t.size⟩

theorem qs_new (w : World) : Calls Try.prog 22 #[] w fun en w' => en = .returned (.pointer (some ⟨w.heap.size, 0, none⟩)) ∧ Qs w' w.heap.size none [] 0 ∧ w.grownBy w' none :=
  (new_calls w).mono fun en w' hp => ⟨hp.1, ⟨⟨[], hp.2.1, List.Perm.refl _⟩, List.Pairwise.nil, by simp, by simp⟩, hp.2.2⟩

def QAddPost (w : World) (q : Nat) (r : Option Nat) (S : List Th) (n : Int) (en : Ending) (w' : World) : Prop :=
  en = .returned (.tuple #[]) ∧ ∃ g, Qs w' q (some g) S (n + 1) ∧ (r = some g ∨ w.heap.size ≤ g) ∧ Turn (fun k => k = q ∨ r = some k) w w'

theorem qs_add (q : Nat) (r : Option Nat) (S : List Th) (n tick who : Int) (w : World) (h : Qs w q r S n) (hl : S.length < 1000000) (hn0 : 0 ≤ n) (hn1 : n < 9223372036854775807) :
    Calls Try.prog 34 #[.pointer (some ⟨q, 0, none⟩), .int .i64 tick, .int .i64 who] w fun en w' => QAddPost w q r (ins (tick, who, n) S) n en w' := by
  obtain ⟨l, h1, h2⟩ := h.heap
  refine (add_calls q r l n tick who w h1 (by rw [h2.length_eq]; exact hl) hn0 hn1).mono fun en w' hp => ?_
  obtain ⟨e, g, l', q2, p2, a2, t2⟩ := hp
  refine ⟨e, g, ⟨⟨l', q2, p2.trans ?_⟩, ins_sorted h.sorted h.nums, fun x hx => ?_, q2.row_lt⟩, a2, t2⟩
  · exact ((List.perm_append_singleton _ l).trans (h2.cons _)).trans (ins_perm _ S).symm
  · rcases List.mem_cons.1 ((ins_perm _ S).mem_iff.1 hx) with rfl | hx
    · show n < n + 1; omega
    · have := h.nums x hx; omega

theorem Qs.first {w : World} {q : Nat} {r : Option Nat} {S : List Th} {n : Int} {l : List Th} (h : Qs w q r S n) (h1 : Qh w q r l n) (h2 : l.Perm S) : firstOf l = firstOf S := by
  cases S with
  | nil => rw [List.perm_nil.1 h2]
  | cons x t =>
    have e := heap_head h2 h.sorted h1.heap
    exact (firstOf_at (by rw [h2.length_eq]; simp) e).1

theorem qs_first (q : Nat) (r : Option Nat) (S : List Th) (n : Int) (w : World) (h : Qs w q r S n) :
    Calls Try.prog 43 #[.pointer (some ⟨q, 0, none⟩)] w fun en w' => en = .returned (firstOf S) ∧ Qs w' q r S n ∧ w.grownBy w' none := by
  obtain ⟨l, h1, h2⟩ := h.heap
  refine (first_calls q r l n w h1).mono fun en w' hp => ?_
  obtain ⟨e, g⟩ := hp
  exact ⟨by rw [e, h.first h1 h2], ⟨⟨l, h1.still g, h2⟩, h.sorted, h.nums, fun k hk => Nat.lt_of_lt_of_le (h.row k hk) g.size⟩, g⟩

theorem qs_take (q : Nat) (r : Option Nat) (S : List Th) (n : Int) (w : World) (h : Qs w q r S n) :
    Calls Try.prog 35 #[.pointer (some ⟨q, 0, none⟩)] w fun en w' => en = .returned (firstOf S) ∧ Qs w' q r S.tail n ∧ Turn (fun k => k = q ∨ r = some k) w w' := by
  obtain ⟨l, h1, h2⟩ := h.heap
  refine (take_calls q r l n w h1).mono fun en w' hp => ?_
  obtain ⟨e, ⟨l', q2, p2⟩, t⟩ := hp
  refine ⟨by rw [e, h.first h1 h2], ⟨⟨l', q2, p2.trans ?_⟩, ?_, ?_, q2.row_lt⟩, t⟩
  · cases S with
    | nil => rw [List.perm_nil.1 h2]
    | cons x s =>
      have e := heap_head h2 h.sorted h1.heap
      have ec := (firstOf_at (by rw [h2.length_eq]; simp) e).2
      rw [ec] at h2
      exact h2.cons_inv
  · cases S with
    | nil => exact List.Pairwise.nil
    | cons x s => exact (List.pairwise_cons.1 h.sorted).2
  · intro x hx
    exact h.nums x (List.mem_of_mem_tail hx)

theorem qs_len (q : Nat) (r : Option Nat) (S : List Th) (n : Int) (w : World) (h : Qs w q r S n) :
    Calls Try.prog 14 #[.pointer (some ⟨q, 0, none⟩)] w fun en w' => en = .returned (.int .i64 S.length) ∧ w = w' := by
  obtain ⟨l, h1, h2⟩ := h.heap
  rw [← h2.length_eq]
  exact qlen_calls q r l n w h1

end Go.Proofs.Ytbpnbnbglfiglaa
