/- sched: Next, Set. -/
import Derived.Test.YtbpnbnbglfiglaaSchA
namespace Go.Proofs.Ytbpnbnbglfiglaa.sch
open Go Go.RowKit

section
variable {w : World} {s q : Nat} {r : Option Nat} {v : Value} {a : Ab} {k : Int}

theorem firstOf_cons (x : Th) (t : List Th) : firstOf (x :: t) = .tuple #[.int .i64 x.1, .int .i64 x.2.1, .bool true] := rfl
theorem firstOf_nil : firstOf [] = .tuple #[.int .i64 0, .int .i64 0, .bool false] := rfl

def NextPost (w : World) (s q : Nat) (r : Option Nat) (v : Value) (a : Ab) (who : Int) (ok : Bool) (en : Ending) (w' : World) : Prop :=
  en = .returned (.tuple #[.int .i64 who, .bool ok]) ∧ ∃ r', Sc w' s q r' v a ∧ (∀ g, r' = some g → r = some g ∨ w.heap.size ≤ g) ∧ Turn (fun j => j = s ∨ j = q ∨ r = some j) w w'

set_option maxRecDepth 100000 in
set_option maxHeartbeats 1000000 in
theorem next_none (h : Sc w s q r v a) (e : a.S = []) : Calls Try.prog 27 #[.pointer (some ⟨s, 0, none⟩)] w (NextPost w s q r v a 0 false) := by
  have c0 := h.c0
  have H := Lib.hid h
  have HC := Lib.hid (qs_take q r a.S a.n w h.qs)
  rw [e, firstOf_nil, List.tail_nil] at HC
  have HE := Lib.hid e
  clear h e
  go_enter Try.func27, Try.ntmps27
  go_wp2_with (first
    | (go_at_call 35; refine HC.out.mono ?_; rintro en w2 ⟨rfl, q2, t2⟩
       have H2 : Hid (Sc w2 s q r v a ∧ Turn (fun j => j = q ∨ r = some j) w w2) := Lib.hid ⟨(show ({ a with S := [], n := a.n } : Ab) = a by rw [← HE.out]) ▸ H.out.queue q2 t2, t2⟩
       clear q2 t2)
    | fail)
  exact bodyPost_ret (v := .tuple #[.int .i64 0, .bool false]) (by simp [results, Try.results27, go_sem]) rfl ⟨rfl, r, H2.out.1, fun g hg => .inl hg, H2.out.2.more (fun j _ e => .inr e)⟩

set_option maxRecDepth 100000 in
set_option maxHeartbeats 2000000 in
theorem next_some (h : Sc w s q r v a) (hI : Inv k a.P.length a) (hk : k ≤ 900000) {x : Th} {t : List Th} (e : a.S = x :: t) {i : Nat} (hi : x.2.1 = (i : Int)) (hil : i < a.P.length) :
    Calls Try.prog 27 #[.pointer (some ⟨s, 0, none⟩)] w (NextPost w s q r v (next a x t i) i true) := by
  have c0 := h.c0
  have H := Lib.hid h
  have HC := Lib.hid (qs_take q r a.S a.n w h.qs)
  rw [e, firstOf_cons, hi, List.tail_cons] at HC
  obtain ⟨j, k1, k2, k3, k4, k5, k6⟩ := hI.took e
  obtain rfl : j = i := by rw [hi] at k1; omega
  have hb : Hid (0 ≤ x.1 ∧ x.1 ≤ 1000000000000000 ∧ pace a.P j ≤ 1048576 ∧ 0 ≤ a.n ∧ a.n ≤ 1000000000 ∧ t.length < 1000000) := Lib.hid (by
    have h1 := k6.t0
    have h2 := k6.tk
    have h3 := k6.n0
    have h4 := k6.nk
    have h5 := k6.small
    have h6 := (hI.pace _ (pace_mem hil)).2
    have h1' : 0 ≤ x.1 := h1
    have h2' : x.1 ≤ (k + 1) * 1048576 := h2
    have h3' : 0 ≤ a.n := h3
    have h4' : a.n ≤ k + 1 := h4
    have h5' : (t.length : Int) ≤ k + 1 := h5
    exact ⟨h1', by omega, h6, h3', by omega, by omega⟩)
  have HIL := Lib.hid hil
  clear h e hI hk k1 k2 k3 k4 k5 k6 hil hi
  obtain ⟨x1, hx1⟩ : ∃ x1, x1 = x.1 := ⟨_, rfl⟩
  rw [← hx1] at HC
  have HX := Lib.hid hx1
  clear hx1
  go_enter Try.func27, Try.ntmps27
  go_wp2_with (first
    | (go_at_call 35; refine HC.out.mono ?_; rintro en w2 ⟨rfl, q2, t2⟩
       have H2 := Lib.hid (H.out.queue q2 t2)
       have T2 := Lib.hid t2
       have d0 : w2.frozen? ⟨s, 2, none⟩ = false := H2.out.own.free 2
       have d1 : w2.cell? ⟨s, 2, none⟩ = some (.int .i64 a.T) := H2.out.c2
       clear q2 t2 c0)
    | (go_at_call 29
       have H3 : Hid (Sc (w2.setCell ⟨s, 2, none⟩ (.int .i64 x1)) s q r v (took a x t)) := Lib.hid (by rw [HX.out]; exact H2.out.ticked x.1)
       refine (has_in H3.out j HIL.out).mono ?_
       rintro en w3 ⟨rfl, rfl⟩)
    | (go_at_call 24
       refine (await_calls H3.out j HIL.out (by exact hb.out.1) (by exact hb.out.2.1) (by exact hb.out.2.2.1) (by exact hb.out.2.2.2.1) (by exact hb.out.2.2.2.2.1) (by exact hb.out.2.2.2.2.2)).mono ?_
       rintro en w4 ⟨rfl, r', h4, n4, t4⟩
       have H4 : Hid (NextPost w s q r v (next a x t j) j true (.returned (.tuple #[.int .i64 j, .bool true])) w4) := Lib.hid (by
         refine ⟨rfl, r', h4, fun g hg => ?_, ?_⟩
         · rcases n4 g hg with e | e
           · exact .inl e
           · exact .inr (Nat.le_trans T2.out.size (by simpa [World.setCell] using e))
         · refine ((T2.out.more (F := fun j => j = s ∨ j = q ∨ r = some j) (fun _ _ e => .inr e)).put (fun _ => .inl rfl) 2 _).trans t4 (fun _ _ e => .inr e))
       clear h4 n4 t4)
    | fail)
  exact bodyPost_ret (v := .tuple #[.int .i64 j, .bool true]) (by simp [results, Try.results27, go_sem]) rfl H4.out

theorem set_out (h : Sc w s q r v a) (i p : Int) (hi : i < 0 ∨ (a.P.length : Int) ≤ i) : Calls Try.prog 10 #[.pointer (some ⟨s, 0, none⟩), .int .i64 i, .int .i64 p] w fun en w' => en = .returned (.int .i64 6) ∧ w = w' := by
  have H := Lib.hid (has_out h i hi)
  clear h hi
  go_enter Try.func10, Try.ntmps10
  go_wp2_with (first
    | (go_at_call 29; refine H.out.mono ?_; rintro en w2 ⟨rfl, rfl⟩)
    | fail)
  go_ret
  exact ⟨rfl, rfl⟩

def SetPost (w : World) (s q : Nat) (r : Option Nat) (v : Value) (a : Ab) (en : Ending) (w' : World) : Prop :=
  en = .returned (.int .i64 0) ∧ ∃ r', Sc w' s q r' v a ∧ (∀ g, r' = some g → r = some g ∨ w.heap.size ≤ g) ∧ Turn (fun j => v.ownBlock = some j ∨ j = q ∨ r = some j) w w'

set_option maxRecDepth 100000 in
set_option maxHeartbeats 2000000 in
theorem set_in (h : Sc w s q r v a) (hI : Inv k a.P.length a) (hk : k ≤ 900000) (i : Nat) (hi : i < a.P.length) (p : Int) :
    Calls Try.prog 10 #[.pointer (some ⟨s, 0, none⟩), .int .i64 i, .int .i64 p] w (SetPost w s q r v (setP a i p)) := by
  have c0 := h.c0
  have H := Lib.hid h
  have HH := Lib.hid (has_in h i hi)
  have HC := Lib.hid (qs_drop q r a.S i a.n w h.qs)
  have hd := hI.dropped (i := i) p
  have hb : Hid (0 ≤ a.T ∧ a.T ≤ 1000000000000000 ∧ bnd p ≤ 1048576 ∧ 0 ≤ a.n ∧ a.n ≤ 1000000000 ∧ (keep i a.S).length < 1000000) := Lib.hid (by
    have h1 := hI.t0
    have h2 := hI.tk
    have h3 := hI.n0
    have h4 := hI.nk
    have h5 := hd.small
    have h6 := (bnd_range p).2
    have h5' : ((keep i a.S).length : Int) ≤ k := h5
    exact ⟨h1, by omega, h6, h3, by omega, by omega⟩)
  have HIL := Lib.hid hi
  have hi1 : (i : Int) < (a.P.length : Int) := by omega
  have hi0 : (0 : Int) ≤ (i : Int) := by omega
  obtain ⟨n, hn⟩ : ∃ n, n = a.P.length := ⟨_, rfl⟩
  rw [← hn] at hi1
  have HN := Lib.hid hn
  clear h hI hk hd hi hn
  go_enter Try.func10, Try.ntmps10
  go_wp2_with (first
    | (go_at_call 29; refine HH.out.mono ?_; rintro en w1 ⟨rfl, rfl⟩)
    | (go_at_call 30; refine HC.out.mono ?_; rintro en w2 ⟨rfl, q2, t2⟩
       have H2 := Lib.hid (H.out.queue q2 t2)
       have T2 := Lib.hid t2
       clear q2 t2 c0)
    | fail)
  have c1 := H2.out.c1
  obtain ⟨g, c, hv, hc⟩ := H2.out.pac.cell i HIL.out
  have c3 := hc i _ (pace_some HIL.out)
  have d3 : w2.frozen? ⟨g, i, none⟩ = false := by
    have hp := H2.out.pac
    rcases hp.2 with ⟨e, _⟩ | ⟨g', cap, cur, e1, _, e3, _⟩
    · rw [hv] at e; cases e
    · rw [hv] at e1
      injection e1 with e1
      injection e1 with e1
      injection e1 with e1
      subst e1
      exact Has.free (show Has w2 g 3 cur from e3) i
  have HV : Hid (v = .slice (some ⟨g, 0, none⟩) a.P.length c) := Lib.hid hv
  rw [hv] at c1
  have c1' : w2.cell? ⟨s, 1, none⟩ = some (.slice (some ⟨g, 0, none⟩) n c) := by rw [HN.out]; exact c1
  clear c1 hc hv
  generalize pace a.P i = old at c3
  have HB := fun V => Lib.hid (bounded_calls p V)
  go_region_law (refine step_call rfl 23 Try.f23 Try.func23 (by kernel_rfl) (by kernel_rfl) _ _ rfl #[.int .i64 p] (by first | (simp [Act.eval]; done) | (simp [Act.eval, Act.put]; done)) (HB _).out ?_
                 rintro en w4 ⟨rfl, rfl⟩
                 refine ⟨_, rfl, ?_⟩)
  all_goals
    have H5 : Hid (Sc (w2.setCell ⟨g, i, none⟩ (.int .i64 (bnd p))) s q r v (dropped a i p)) := Lib.hid (H2.out.paced HV.out i (bnd p))
    have T5 : Hid (Turn (fun j => v.ownBlock = some j ∨ j = q ∨ r = some j) w (w2.setCell ⟨g, i, none⟩ (.int .i64 (bnd p)))) := Lib.hid ((T2.out.more (F := fun j => v.ownBlock = some j ∨ j = q ∨ r = some j) (fun _ _ e => .inr e)).put (fun _ => .inl (by rw [HV.out]; rfl)) i _)
    clear c1' c3 d3 H2 T2 HC HB
    go_wp2_with (first
      | (go_at_call 24
         refine (await_calls H5.out.drew i (by exact (by simpa [dropped] using HIL.out)) (by exact hb.out.1) (by exact hb.out.2.1) (by rw [show pace (dropped a i p).P i = bnd p from pace_set _ _ _ HIL.out]; exact hb.out.2.2.1) (by exact hb.out.2.2.2.1) (by exact hb.out.2.2.2.2.1) (by exact hb.out.2.2.2.2.2)).mono ?_
         rintro en w6 ⟨rfl, r', h6, n6, t6⟩
         have H6 : Hid (SetPost w s q r v (setP a i p) (.returned (.int .i64 0)) w6) := Lib.hid ⟨rfl, r', h6, fun g hg => (by
           rcases n6 g hg with e | e
           · exact .inl e
           · exact .inr (Nat.le_trans T5.out.size e)), T5.out.drew.trans t6 (fun _ _ e => .inr e)⟩
         clear h6 n6 t6)
      | fail)
    go_ret
    exact H6.out
end
end Go.Proofs.Ytbpnbnbglfiglaa.sch
