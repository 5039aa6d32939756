/- container/heap's Push; Queue's Add. -/
import Derived.Test.YtbpnbnbglfiglaaRankG
namespace Go.Proofs.Ytbpnbnbglfiglaa
open Go.RowKit

def HPushPost (w : World) (q : Nat) (r : Option Nat) (l : List Th) (n : Int) (en : Ending) (w' : World) : Prop :=
  en = .returned (.tuple #[]) ∧ ∃ g' l', Qh w' q (some g') l' n ∧ l'.Perm l ∧ (r = some g' ∨ w.heap.size ≤ g') ∧ Turn (fun k => k = q ∨ r = some k) w w'

set_option maxRecDepth 100000 in
set_option maxHeartbeats 400000 in
theorem hpush_calls (q : Nat) (r : Option Nat) (l : List Th) (n x1 x2 x3 : Int) (w : World) (h : Qh w q r l n) (hl : l.length < 1000000) :
    Calls Try.prog 42 #[ifc q, .iface 82 (.agg #[.int .i64 x1, .int .i64 x2, .int .i64 x3])] w fun en w' => HPushPost w q r (l ++ [(x1, x2, x3)]) n en w' := by
  have hz : Qz w q r l n := h.at_
  have HR := Lib.hid (Rises.start h.heap (x1, x2, x3) rfl)
  have HZ := Lib.hid hz
  clear h hz
  have mp := fun x => method_push x ⟨q, 0, none⟩ w
  go_enter Try.func42, Try.ntmps42
  go_wp2_with fail
  refine (tpush_calls q r l n x1 x2 x3 w HZ.out hl).mono ?_
  rintro en w1 ⟨rfl, g, hz1, ha, ht⟩
  obtain ⟨cap, qa⟩ : ∃ cap, Qa w1 q g cap (l ++ [(x1, x2, x3)]) n := by
    rcases hz1 with ⟨e, _⟩ | ⟨g', cap, e, qa⟩
    · cases e
    · injection e with e; subst e; exact ⟨cap, qa⟩
  obtain ⟨l', hl'⟩ : ∃ l', l' = l ++ [(x1, x2, x3)] := ⟨_, rfl⟩
  rw [← hl'] at qa
  have e : l'.length = l.length + 1 := by rw [hl']; simp
  have hle : l'.length ≤ 1000000 := by omega
  have c0 : w1.cell? ⟨q, 0, none⟩ = some (.slice (some ⟨g, 0, none⟩) l'.length cap) := qa.own.cell 0
  have HR1 : Hid (Rises l'.length l.length l') := by show Rises _ _ _; rw [e, hl']; exact HR.out
  have HL := Lib.hid hl'
  have HA := Lib.hid ha
  have HT := Lib.hid ht
  have HQ := Lib.hid qa
  have HE := Lib.hid e
  rw [e] at c0
  clear hz1 ha ht qa hl' HR HZ mp e
  generalize l.length = m at *
  have hm : ((m + 1 : Nat) : Int) - 1 = (m : Int) := by omega
  have hm2 : (m : Int) ≤ 1000000 := by omega
  have hm3 : m + 1 ≤ maxLen := by unfold maxLen; omega
  have hm4 : (0 : Int) ≤ (m : Int) := by omega
  have ml := fun x => method_len x ⟨q, 0, none⟩ _ w1 c0
  go_wp2_with fail
  refine (len_calls _ _ _ _ hm3).mono ?_
  rintro en w2 ⟨rfl, rfl⟩
  go_wp2_with fail
  refine (up_calls q g cap m l' n w1 HQ.out HR1.out (by rw [HE.out]; omega) hle).mono ?_
  rintro en w2 ⟨rfl, l2, q2, p2, h2, g2⟩
  have Q2 : Hid (Qh w2 q (some g) l2 n) := ⟨h2, by rw [p2.length_eq]; exact hle, .inr ⟨g, cap, rfl, q2⟩⟩
  have P2 := Lib.hid p2
  have T2 : Hid (Turn (fun k => k = q ∨ r = some k) w w2) := HT.out.trans (Turn.of_grown g2 rfl : Turn (fun k => k = g) w1 w2) (fun j hj e => by
    subst e
    rcases HA.out with h | h
    · exact .inr h
    · omega)
  clear q2 p2 h2 g2
  go_wp2_with fail
  go_end0
  exact ⟨rfl, g, l2, Q2.out, by rw [← HL.out]; exact P2.out, HA.out, T2.out⟩

/-- What Add leaves. -/
def AddPost (w : World) (q : Nat) (r : Option Nat) (l : List Th) (n : Int) (en : Ending) (w' : World) : Prop :=
  en = .returned (.tuple #[]) ∧ ∃ g' l', Qh w' q (some g') l' (n + 1) ∧ l'.Perm l ∧ (r = some g' ∨ w.heap.size ≤ g') ∧ Turn (fun k => k = q ∨ r = some k) w w'

theorem Qh.cell1 {w : World} {q : Nat} {r : Option Nat} {l : List Th} {n : Int} (h : Qh w q r l n) : w.cell? ⟨q, 1, none⟩ = some (.int .i64 n) ∧ w.frozen? ⟨q, 1, none⟩ = false ∧ q < w.heap.size := by
  rcases h.at_ with ⟨_, _, e⟩ | ⟨g, cap, _, e⟩
  · exact ⟨e.cell 1, e.free 1, e.lt⟩
  · exact ⟨e.own.cell 1, e.own.free 1, e.own.lt⟩

theorem Qh.added {w : World} {q : Nat} {r : Option Nat} {l : List Th} {n : Int} (h : Qh w q r l n) (k : Int) : Qh (w.setCell ⟨q, 1, none⟩ (.int .i64 k)) q r l k := by
  refine ⟨h.heap, h.few, ?_⟩
  rcases h.at_ with ⟨e1, e2, e⟩ | ⟨g, cap, e1, e⟩
  · exact .inl ⟨e1, e2, e.put 1 _⟩
  · refine .inr ⟨g, cap, e1, e.own.put 1 _, ?_⟩
    obtain ⟨cs, hh, rest⟩ := e.lie
    exact ⟨cs, hh.far (p := ⟨q, 1, none⟩) e.ne _, rest⟩

set_option maxRecDepth 100000 in
set_option maxHeartbeats 400000 in
theorem add_calls (q : Nat) (r : Option Nat) (l : List Th) (n tick who : Int) (w : World) (h : Qh w q r l n) (hl : l.length < 1000000) (hn0 : 0 ≤ n) (hn1 : n < 9223372036854775807) :
    Calls Try.prog 34 #[.pointer (some ⟨q, 0, none⟩), .int .i64 tick, .int .i64 who] w fun en w' => AddPost w q r (l ++ [(tick, who, n)]) n en w' := by
  obtain ⟨c1, f1, hq⟩ := h.cell1
  have H := Lib.hid h
  clear h
  go_enter Try.func34, Try.ntmps34
  go_wp2_with fail
  have HC := Lib.hid (hpush_calls q r l n tick who n w.drew (H.out.still (grown_drew (grown_refl w _))) hl)
  go_region_law (refine step_call rfl 42 Try.f42 Try.func42 (by kernel_rfl) (by kernel_rfl) _ _ rfl #[ifc q, .iface 82 (.agg #[.int .i64 tick, .int .i64 who, .int .i64 n])] (by simp [Act.eval, Act.put]) (by exact HC.out) ?_
                 rintro en w1 ⟨rfl, g, l2, q2, p2, a2, t2⟩
                 obtain ⟨c2, f2, hq2⟩ := q2.cell1
                 have Q2 := Lib.hid q2
                 have P2 := Lib.hid p2
                 have A2 : Hid (r = some g ∨ w.heap.size ≤ g) := a2
                 have T2 : Hid (Turn (fun k => k = q ∨ r = some k) w w1) := ⟨t2.os, t2.tape, t2.output, t2.size, t2.block⟩
                 clear q2 p2 a2 t2 c1 f1 H
                 refine ⟨_, rfl, ?_⟩)
  go_wp2_with fail
  go_end0
  exact ⟨rfl, g, l2, Q2.out.added (n + 1), P2.out, A2.out, T2.out.put (fun _ => .inl rfl) 1 _⟩

end Go.Proofs.Ytbpnbnbglfiglaa
