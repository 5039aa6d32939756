/- rank's Queue: New, Len, First, Take. -/
import Derived.Test.YtbpnbnbglfiglaaRankE
namespace Go.Proofs.Ytbpnbnbglfiglaa
open Go.RowKit

/-- The queue's block q; its things, a heap, lie in row r (nothing: there was none yet); n were added. -/
structure Qh (w : World) (q : Nat) (r : Option Nat) (l : List Th) (n : Int) : Prop where
  heap : HeapFrom 0 l.length l
  few : l.length ≤ 1000000
  at_ : (r = none ∧ l = [] ∧ Has w q 68 #[.slice none 0 0, .int .i64 n]) ∨ ∃ g cap, r = some g ∧ Qa w q g cap l n

/-- What First tells of a heap. -/
def firstOf : List Th → Value
  | [] => .tuple #[.int .i64 0, .int .i64 0, .bool false]
  | x :: _ => .tuple #[.int .i64 x.1, .int .i64 x.2.1, .bool true]

theorem Qh.still {w w' : World} {q : Nat} {r : Option Nat} {l : List Th} {n : Int} (h : Qh w q r l n) (k : w.grownBy w' none) : Qh w' q r l n := by
  refine ⟨h.heap, h.few, ?_⟩
  rcases h.at_ with ⟨e1, e2, e3⟩ | ⟨g, cap, e1, e2⟩
  · exact .inl ⟨e1, e2, e3.keep (k.block q e3.lt (by simp))⟩
  · exact .inr ⟨g, cap, e1, e2.none k⟩

set_option maxRecDepth 100000 in
set_option maxHeartbeats 400000 in
theorem first_calls (q : Nat) (r : Option Nat) (l : List Th) (n : Int) (w : World) (h : Qh w q r l n) :
    Calls Try.prog 43 #[.pointer (some ⟨q, 0, none⟩)] w fun en w' => en = .returned (firstOf l) ∧ w.grownBy w' none := by
  rcases h.at_ with ⟨e1, e2, e3⟩ | ⟨g, cap, e1, e2⟩
  · subst e2
    have c0 : w.cell? ⟨q, 0, none⟩ = some (.slice none 0 0) := e3.cell 0
    clear e3 h
    go_enter Try.func43, Try.ntmps43
    go_wp2_with fail
    refine bodyPost_ret (v := firstOf []) (by simp [results, Try.results43, go_sem, firstOf]) rfl ?_
    exact ⟨rfl, grown_refl w _⟩
  · cases l with
    | nil =>
      have c0 : w.cell? ⟨q, 0, none⟩ = some (.slice (some ⟨g, 0, none⟩) 0 cap) := e2.own.cell 0
      clear e2 h
      go_enter Try.func43, Try.ntmps43
      go_wp2_with fail
      refine bodyPost_ret (v := firstOf []) (by simp [results, Try.results43, go_sem, firstOf]) rfl ?_
      exact ⟨rfl, grown_refl w _⟩
    | cons x t =>
      have hf : t.length + 1 ≤ 1000000 := h.few
      have c0 : w.cell? ⟨q, 0, none⟩ = some (.slice (some ⟨g, 0, none⟩) (t.length + 1) cap) := e2.own.cell 0
      obtain ⟨i1, i2, i3⟩ := e2.lie.cell 0 (by simp)
      obtain ⟨x1, x2, x3⟩ := x
      change w.cell? ⟨g, 0, none⟩ = some (.int .i64 x1) at i1
      change w.cell? ⟨g, 1, none⟩ = some (.int .i64 x2) at i2
      clear e2 h i3
      generalize t.length = m at *
      have h1 : ¬ ((m + 1 : Nat) : Int) = 0 := by omega
      have h2 : (0 : Int) < ((m + 1 : Nat) : Int) := by omega
      go_enter Try.func43, Try.ntmps43
      go_wp2_with fail
      go_region
      go_wp2_with fail
      refine bodyPost_ret (v := firstOf ((x1, x2, x3) :: t)) (by simp [results, Try.results43, go_sem, firstOf]) rfl ?_
      exact ⟨rfl, grown_drew (grown_refl w _)⟩

set_option maxRecDepth 100000 in
set_option maxHeartbeats 400000 in
theorem take_calls (q : Nat) (r : Option Nat) (l : List Th) (n : Int) (w : World) (h : Qh w q r l n) :
    Calls Try.prog 35 #[.pointer (some ⟨q, 0, none⟩)] w fun en w' => en = .returned (firstOf l) ∧ (∃ l', Qh w' q r l' n ∧ l'.Perm l.tail) ∧ Turn (fun k => k = q ∨ r = some k) w w' := by
  cases l with
  | nil =>
    have H := Lib.hid h
    clear h
    go_enter Try.func35, Try.ntmps35
    go_wp2_with fail
    refine (first_calls q r [] n w H.out).mono ?_
    rintro en w1 ⟨rfl, g1⟩
    unfold firstOf
    have H1 := Lib.hid (H.out.still g1)
    have G1 := Lib.hid (Turn.grown (Turn.refl (fun k => k = q ∨ r = some k) w) g1 (fun j e _ => by cases e))
    clear g1 H
    go_wp2_with fail
    refine bodyPost_ret (v := firstOf []) (by simp [results, Try.results35, go_sem, firstOf]) rfl ?_
    exact ⟨rfl, ⟨[], H1.out, List.Perm.refl _⟩, G1.out⟩
  | cons x t =>
    have H := Lib.hid h
    clear h
    go_enter Try.func35, Try.ntmps35
    go_wp2_with fail
    refine (first_calls q r (x :: t) n w H.out).mono ?_
    rintro en w1 ⟨rfl, g1⟩
    unfold firstOf
    have H1 := Lib.hid (H.out.still g1)
    have G1 := Lib.hid (Turn.grown (Turn.refl (fun k => k = q ∨ r = some k) w) g1 (fun j e _ => by cases e))
    clear g1 H
    go_wp2_with fail
    obtain ⟨g, cap, rfl, qa⟩ : ∃ g cap, r = some g ∧ Qa w1 q g cap (x :: t) n := by
      rcases H1.out.at_ with ⟨_, e, _⟩ | e
      · cases e
      · exact e
    have QA := Lib.hid qa
    clear qa
    refine (hpop_calls q g cap (x :: t) n w1 QA.out H1.out.heap (by simp) H1.out.few).mono ?_
    rintro en w2 ⟨⟨v, rfl⟩, l', q2, p2, h2, g2⟩
    have hf : l'.length ≤ 1000000 := by
      have := H1.out.few
      rw [p2.length_eq]
      simp only [List.length_cons, List.tail_cons] at this ⊢
      omega
    have Q2 : Hid (Qh w2 q (some g) l' n) := ⟨h2, hf, .inr ⟨g, cap, rfl, q2⟩⟩
    have P2 := Lib.hid p2
    have G2 := Lib.hid (G1.out.trans g2 (fun j _ e => by
      rcases e with e | e
      · exact .inl e
      · exact .inr (by rw [e])))
    clear q2 p2 h2 g2 hf G1 H1 QA
    go_wp2_with fail
    refine bodyPost_ret (v := firstOf (x :: t)) (by simp [results, Try.results35, go_sem, firstOf]) rfl ?_
    exact ⟨rfl, ⟨l', Q2.out, P2.out⟩, G2.out⟩

set_option maxRecDepth 100000 in
theorem qlen_calls (q : Nat) (r : Option Nat) (l : List Th) (n : Int) (w : World) (h : Qh w q r l n) :
    Calls Try.prog 14 #[.pointer (some ⟨q, 0, none⟩)] w fun en w' => en = .returned (.int .i64 l.length) ∧ w = w' := by
  have hf := h.few
  obtain ⟨a, cap, c0⟩ : ∃ a cap, w.cell? ⟨q, 0, none⟩ = some (.slice a l.length cap) := by
    rcases h.at_ with ⟨e1, e2, e3⟩ | ⟨g, cap, e1, e2⟩
    · subst e2; exact ⟨none, 0, e3.cell 0⟩
    · exact ⟨_, cap, e2.own.cell 0⟩
  clear h
  generalize l.length = m at *
  go_enter Try.func14, Try.ntmps14
  go_wp2_with fail
  go_ret
  exact ⟨rfl, rfl⟩

set_option maxRecDepth 100000 in
theorem new_calls (w : World) : Calls Try.prog 22 #[] w fun en w' => en = .returned (.pointer (some ⟨w.heap.size, 0, none⟩)) ∧ Qh w' w.heap.size none [] 0 ∧ w.grownBy w' none := by
  go_enter Try.func22, Try.ntmps22
  go_wp2_with fail
  go_ret
  exact ⟨rfl, ⟨fun k _ hk _ => by simp at hk, by simp, .inl ⟨rfl, rfl, Has.made w _ _⟩⟩, grown_alloc (grown_refl w _) _⟩

end Go.Proofs.Ytbpnbnbglfiglaa
