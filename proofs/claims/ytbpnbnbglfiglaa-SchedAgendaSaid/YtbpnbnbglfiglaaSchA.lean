/- sched: a schedule's block; bounded, has, await. -/
import Derived.Test.YtbpnbnbglfiglaaSchM
import Derived.Test.YtbpnbnbglfiglaaOwn
import Derived.Test.YtbpnbnbglfiglaaRow
import Derived.Deep.QuietTactic
import Derived.BigQuiet
import Derived.Lib.ItoaWalk
import Derived.IntWalk
namespace Go.Proofs.Ytbpnbnbglfiglaa.sch
open Go Go.RowKit

/-- The schedule at block s: its queue at q, the queue's row r, its paces v. -/
structure Sc (w : World) (s q : Nat) (r : Option Nat) (v : Value) (a : Ab) : Prop where
  own : Has w s 43 #[.pointer (some ⟨q, 0, none⟩), v, .int .i64 a.T]
  pac : Ints w v a.P
  qs : Qs w q r a.S a.n

section
variable {w w' : World} {s q : Nat} {r : Option Nat} {v : Value} {a : Ab}

theorem qs_box {S : List Th} {n : Int} (h : Qs w q r S n) : ∃ cs, Has w q 68 cs := by
  obtain ⟨l, h1, _⟩ := h.heap
  rcases h1.at_ with ⟨_, _, e⟩ | ⟨g, cap, _, e⟩
  · exact ⟨_, e⟩
  · exact ⟨_, e.own⟩
theorem qs_row {S : List Th} {n : Int} (h : Qs w q r S n) : ∀ k, r = some k → ∃ cs, Has w k 82 cs := by
  obtain ⟨l, h1, _⟩ := h.heap
  intro k hk
  rcases h1.at_ with ⟨e, _⟩ | ⟨g, cap, e, h2⟩
  · rw [e] at hk; cases hk
  · rw [e] at hk
    injection hk with hk
    subst hk
    obtain ⟨cs, hh, _⟩ := h2.lie
    exact ⟨cs, hh⟩

theorem Sc.sq (h : Sc w s q r v a) : s ≠ q := by
  rintro rfl
  obtain ⟨cs, e⟩ := qs_box h.qs
  exact absurd (h.own.uniq e).2 (by decide)
theorem Sc.sr (h : Sc w s q r v a) : r ≠ some s := by
  intro e
  obtain ⟨cs, e⟩ := qs_row h.qs s e
  exact absurd (h.own.uniq e).2 (by decide)
theorem Sc.vs (h : Sc w s q r v a) : v.ownBlock ≠ some s := own_ne h.pac h.own (by decide)
theorem Sc.vq (h : Sc w s q r v a) : v.ownBlock ≠ some q := by
  obtain ⟨cs, e⟩ := qs_box h.qs
  exact own_ne h.pac e (by decide)
theorem Sc.vr (h : Sc w s q r v a) : ∀ b, v.ownBlock = some b → r ≠ some b := by
  intro b hb e
  obtain ⟨cs, e⟩ := qs_row h.qs b e
  exact own_ne h.pac e (by decide) hb

theorem Sc.turn {F : Nat → Prop} (h : Sc w s q r v a) (t : Turn F w w') (h1 : ¬ F s) (h2 : ¬ F q) (h3 : ∀ b, r = some b → ¬ F b) (h4 : ∀ b, v.ownBlock = some b → ¬ F b) : Sc w' s q r v a :=
  ⟨h.own.turn t h1, h.pac.turn t h4, h.qs.turn t h2 h3⟩
theorem Sc.drew (h : Sc w s q r v a) : Sc w.drew s q r v a :=
  h.turn ((Turn.refl (fun _ => False) w).drew) (fun e => e) (fun e => e) (fun _ _ e => e) (fun _ _ e => e)
theorem Sc.drewN (h : Sc w s q r v a) (n : Nat) : Sc (w.drewN n) s q r v a :=
  h.turn ((Turn.refl (fun _ => False) w).drewN n) (fun e => e) (fun e => e) (fun _ _ e => e) (fun _ _ e => e)
theorem Sc.below (h : Sc w s q r v a) (hb : Below w.heap.size w w') : Sc w' s q r v a :=
  h.turn (Turn.of_below hb (F := fun j => w.heap.size ≤ j) (fun _ _ e => e)) (Nat.not_le_of_lt h.own.lt) (by obtain ⟨cs, e⟩ := qs_box h.qs; exact Nat.not_le_of_lt e.lt) (fun b hb => Nat.not_le_of_lt (h.qs.row b hb)) (fun b hb => Nat.not_le_of_lt (own_lt h.pac hb))

/-- The queue alone turns. -/
theorem Sc.queue {S : List Th} {n : Int} {r' : Option Nat} (h : Sc w s q r v a) (k : Qs w' q r' S n) (t : Turn (fun j => j = q ∨ r = some j) w w') : Sc w' s q r' v { a with S := S, n := n } :=
  ⟨h.own.turn t (fun e => by
    rcases e with e | e
    · exact h.sq e
    · exact h.sr e), h.pac.turn t (fun b hb e => by
    rcases e with e | e
    · exact h.vq (by rw [hb, e])
    · exact h.vr b hb e), k⟩

theorem Sc.c0 (h : Sc w s q r v a) : w.cell? ⟨s, 0, none⟩ = some (.pointer (some ⟨q, 0, none⟩)) := h.own.cell 0
theorem Sc.c1 (h : Sc w s q r v a) : w.cell? ⟨s, 1, none⟩ = some v := h.own.cell 1
theorem Sc.c2 (h : Sc w s q r v a) : w.cell? ⟨s, 2, none⟩ = some (.int .i64 a.T) := h.own.cell 2
theorem Sc.ticked (h : Sc w s q r v a) (t : Int) : Sc (w.setCell ⟨s, 2, none⟩ (.int .i64 t)) s q r v { a with T := t } := by
  have k : Turn (fun j => j = s) w (w.setCell ⟨s, 2, none⟩ (.int .i64 t)) := (Turn.refl (fun j => j = s) w).put (fun _ => rfl) 2 _
  have h0 := h.own.put 2 (.int .i64 t)
  refine ⟨by simpa using h0, h.pac.turn k (fun b hb e => h.vs (by rw [hb, e])), h.qs.turn k (fun e => h.sq e.symm) (fun b hb e => h.sr (by rw [hb, e]))⟩
/-- A pace is set in place. -/
theorem Sc.paced (h : Sc w s q r v a) {g c : Nat} (hv : v = .slice (some ⟨g, 0, none⟩) a.P.length c) (i : Nat) (p : Int) : Sc (w.setCell ⟨g, i, none⟩ (.int .i64 p)) s q r v { a with P := a.P.set i p } := by
  have k : Turn (fun j => j = g) w (w.setCell ⟨g, i, none⟩ (.int .i64 p)) := (Turn.refl (fun j => j = g) w).put (fun _ => rfl) i _
  have hb : v.ownBlock = some g := by rw [hv]; rfl
  refine ⟨h.own.turn k (fun e => h.vs (by rw [hb, e])), ?_, h.qs.turn k (fun e => h.vq (by rw [hb, e])) (fun b hr e => h.vr g hb (by rw [hr, e]))⟩
  have hp := h.pac
  unfold Ints at hp ⊢
  rw [hv] at hp ⊢
  have hS := (Seg.of_own hp).put (g := g) (off := 0) (c := c) i (.int .i64 p)
  rw [Nat.zero_add] at hS
  refine ⟨by simp, ?_⟩
  rcases hp.2 with ⟨e, _⟩ | ⟨g', cap, cur, e1, e2, e3, e4, e5, e6, e7⟩
  · cases e
  · injection e1 with e1 _ e8
    injection e1 with e1
    injection e1 with e1
    subst e1 e8
    have hh : Has w g 3 cur := e3
    refine .inr ⟨g, c, cur.setIfInBounds i (.int .i64 p), by rw [List.length_set], e2, hh.put i _, by rw [List.length_set]; exact e4, e5, by rw [Array.size_setIfInBounds]; exact e6, ?_⟩
    rw [Array.toList_setIfInBounds, List.length_set, List.take_set, e7, List.map_set]
end

theorem bounded_calls (p : Int) (w : World) : Calls Try.prog 23 #[.int .i64 p] w fun en w' => en = .returned (.int .i64 (bnd p)) ∧ w = w' := by
  by_cases h0 : p < 0
  · have e := Lib.hid (show bnd p = 0 by unfold bnd; rw [if_pos h0])
    have h1 : 0 > p := h0
    go_enter Try.func23, Try.ntmps23
    go_wp2_with fail
    go_ret
    exact ⟨by rw [e.out]; rfl, rfl⟩
  · by_cases h1 : 1048576 < p
    · have e := Lib.hid (show bnd p = 1048576 by unfold bnd; rw [if_neg h0, if_pos h1])
      have h2 : ¬ 0 > p := h0
      go_enter Try.func23, Try.ntmps23
      go_wp2_with fail
      go_ret
      exact ⟨by rw [e.out]; rfl, rfl⟩
    · have e := Lib.hid (show bnd p = p by unfold bnd; rw [if_neg h0, if_neg h1])
      have h2 : ¬ 0 > p := h0
      go_enter Try.func23, Try.ntmps23
      go_wp2_with fail
      go_ret
      exact ⟨by rw [e.out]; rfl, rfl⟩

section
variable {w : World} {s q : Nat} {r : Option Nat} {v : Value} {a : Ab}

theorem tick_calls (h : Sc w s q r v a) : Calls Try.prog 13 #[.pointer (some ⟨s, 0, none⟩)] w fun en w' => en = .returned (.int .i64 a.T) ∧ w = w' := by
  have c2 := h.c2
  clear h
  go_enter Try.func13, Try.ntmps13
  go_wp2_with fail
  go_ret
  exact ⟨rfl, rfl⟩

theorem has_in (h : Sc w s q r v a) (i : Nat) (hi : i < a.P.length) : Calls Try.prog 29 #[.pointer (some ⟨s, 0, none⟩), .int .i64 i] w fun en w' => en = .returned (.bool true) ∧ w = w' := by
  have c1 := h.c1
  obtain ⟨g, c, hv⟩ := h.pac.slice
  rw [hv] at c1
  have h1 : (i : Int) < (a.P.length : Int) := by omega
  have h2 : (0 : Int) ≤ (i : Int) := by omega
  generalize a.P.length = n at *
  clear h hv
  go_enter Try.func29, Try.ntmps29
  go_wp2_with fail
  go_ret
  exact ⟨rfl, rfl⟩

theorem has_out (h : Sc w s q r v a) (i : Int) (hi : i < 0 ∨ (a.P.length : Int) ≤ i) : Calls Try.prog 29 #[.pointer (some ⟨s, 0, none⟩), .int .i64 i] w fun en w' => en = .returned (.bool false) ∧ w = w' := by
  have c1 := h.c1
  obtain ⟨g, c, hv⟩ := h.pac.slice
  rw [hv] at c1
  generalize a.P.length = n at *
  by_cases h0 : i < 0
  · clear h hv hi
    go_enter Try.func29, Try.ntmps29
    go_wp2_with fail
    go_ret
    exact ⟨rfl, rfl⟩
  · have h1 : ¬ i < (n : Int) := by omega
    clear h hv hi
    go_enter Try.func29, Try.ntmps29
    go_wp2_with fail
    go_ret
    exact ⟨rfl, rfl⟩

def AwaitPost (w : World) (s q : Nat) (r : Option Nat) (v : Value) (a : Ab) (en : Ending) (w' : World) : Prop :=
  en = .returned (.tuple #[]) ∧ ∃ r', Sc w' s q r' v a ∧ (∀ g, r' = some g → r = some g ∨ w.heap.size ≤ g) ∧ Turn (fun j => j = q ∨ r = some j) w w'

set_option maxRecDepth 100000 in
set_option maxHeartbeats 1000000 in
theorem await_calls (h : Sc w s q r v a) (i : Nat) (hi : i < a.P.length) (ht0 : 0 ≤ a.T) (ht1 : a.T ≤ 1000000000000000) (hp : pace a.P i ≤ 1048576) (hn0 : 0 ≤ a.n) (hn1 : a.n ≤ 1000000000) (hl : a.S.length < 1000000) :
    Calls Try.prog 24 #[.pointer (some ⟨s, 0, none⟩), .int .i64 i] w (AwaitPost w s q r v (await a i)) := by
  have c0 := h.c0
  have c1 := h.c1
  have c2 := h.c2
  obtain ⟨g, c, hv, hc⟩ := h.pac.cell i hi
  have c3 := hc i _ (pace_some hi)
  rw [hv] at c1
  have H := Lib.hid h
  have h1 : (i : Int) < (a.P.length : Int) := by omega
  have hv' := Lib.hid hv
  clear h hc hv
  obtain ⟨p, hpe⟩ : ∃ p, p = pace a.P i := ⟨_, rfl⟩
  obtain ⟨n, hne⟩ : ∃ n, n = a.P.length := ⟨_, rfl⟩
  obtain ⟨T, hTe⟩ : ∃ T, T = a.T := ⟨_, rfl⟩
  rw [← hpe] at c3 hp
  rw [← hne] at c1 h1
  rw [← hTe] at c2 ht0 ht1
  by_cases h0 : 0 < p
  · have e : Hid (await a i = { a with S := ins (T + p, (i : Int), a.n) a.S, n := a.n + 1 }) := Lib.hid (by unfold await; rw [← hpe, if_pos h0, hTe])
    clear hpe hne hTe
    have HC := Lib.hid (qs_add q r a.S a.n (T + p) i w.drew H.out.drew.qs hl hn0 (by omega))
    have HWR : Hid (IntKind.i64.wrap (T + p) = T + p) := Lib.hid (IntWalk.i64_in _ (by omega))
    clear hn0 hn1 hl
    go_enter Try.func24, Try.ntmps24
    go_wp2_with fail
    go_region_law (refine step_call rfl 34 Try.f34 Try.func34 (by kernel_rfl) (by kernel_rfl) _ _ rfl #[.pointer (some ⟨q, 0, none⟩), .int .i64 (T + p), .int .i64 i] (by first | (simp [Act.eval, HWR.out]; done) | (simp [Act.eval, Act.put, HWR.out]; done)) (by exact HC.out) ?_
                   rintro en w4 ⟨rfl, g4, q4, a4, t4⟩
                   have D4 : Hid (AwaitPost w s q r v (await a i) (.returned (.tuple #[])) w4) := Lib.hid (by
                     rw [e.out]
                     exact ⟨rfl, some g4, H.out.drew.queue q4 t4, fun g hg => (by injection hg with hg; subst hg; exact a4), ⟨t4.os, t4.tape, t4.output, t4.size, t4.block⟩⟩)
                   clear q4 a4 t4 c0 c1 c2 c3 HC
                   refine ⟨_, rfl, ?_⟩)
    all_goals
      go_wp2_with fail
      go_end0
      exact D4.out
  · have e : Hid (await a i = a) := Lib.hid (by unfold await; rw [← hpe, if_neg h0])
    clear hpe hne hTe hn0 hn1 hl
    go_enter Try.func24, Try.ntmps24
    go_wp2_with fail
    go_end0
    exact ⟨rfl, r, by rw [e.out]; exact H.out, fun g hg => .inl hg, Turn.refl _ _⟩
end
end Go.Proofs.Ytbpnbnbglfiglaa.sch
