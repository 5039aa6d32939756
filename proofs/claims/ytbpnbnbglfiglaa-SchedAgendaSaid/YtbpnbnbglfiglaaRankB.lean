/- container/heap over rank's things: what is called through heap.Interface; up, down. -/
import Derived.Test.YtbpnbnbglfiglaaRankA
namespace Go.Proofs.Ytbpnbnbglfiglaa
open Go.RowKit

/-- The queue's block: its things lie in block g, n were added. -/
structure Qa (w : World) (q g cap : Nat) (l : List Th) (n : Int) : Prop where
  own : Has w q 68 #[.slice (some ⟨g, 0, none⟩) l.length cap, .int .i64 n]
  lie : Lie w g cap l

theorem Lie.far {w w' : World} {g cap : Nat} {l : List Th} (h : Lie w g cap l) (e : w'.heap[g]? = w.heap[g]?) : Lie w' g cap l := by
  obtain ⟨cs, hh, tl, r⟩ := h
  exact ⟨cs, hh.keep e, tl, r⟩

theorem Qa.ne {w : World} {q g cap : Nat} {l : List Th} {n : Int} (h : Qa w q g cap l n) : g ≠ q := by
  rintro rfl
  obtain ⟨cs, hh, _⟩ := h.lie
  have := (hh.uniq h.own).2
  exact absurd this (by decide)

theorem ahead_any (x : Nat) (a : Addr) (w : World) (name : String) (h : name = "Less" ∨ name = "Swap" ∨ name = "Len" ∨ name = "Push" ∨ name = "Pop") : (nilAhead (x + 1) 85 (.pointer (some a)) name).run Try.prog w = .ok (some false) w := by
  rcases h with rfl | rfl | rfl | rfl | rfl <;> kernel_rfl

theorem method_by (x : Nat) (a : Addr) (v : Value) (w : World) (name : String) (f : FuncId) (h : w.cell? a = some v)
    (hf : (Try.t85.methods.find? (fun x => x.name == name)).map (fun m => (m.path, m.func)) = some (#[], some (f, false))) :
    (method (x + 1) 85 (.pointer (some a)) name).run Try.prog w = .ok (f, v) w := by
  have hn : ∀ u : String, (Builtin.ssaWrapNilChk_ #[85] 85 #[.pointer (some a), strVal "", strVal u]).run Try.prog w = .ok (.pointer (some a)) w := fun u => rfl
  obtain ⟨m, hm, e⟩ := Option.map_eq_some_iff.1 hf
  obtain ⟨e1, e2⟩ := Prod.mk.inj e
  unfold method
  simp [go_sem, hm, e1, e2, follow, receiverAt, hn, h, Place.get]

theorem method_less (x : Nat) (a : Addr) (v : Value) (w : World) (h : w.cell? a = some v) : (method (x + 1) 85 (.pointer (some a)) "Less").run Try.prog w = .ok (87, v) w :=
  method_by x a v w _ _ h (by kernel_rfl)
theorem method_swap (x : Nat) (a : Addr) (v : Value) (w : World) (h : w.cell? a = some v) : (method (x + 1) 85 (.pointer (some a)) "Swap").run Try.prog w = .ok (88, v) w :=
  method_by x a v w _ _ h (by kernel_rfl)
theorem method_len (x : Nat) (a : Addr) (v : Value) (w : World) (h : w.cell? a = some v) : (method (x + 1) 85 (.pointer (some a)) "Len").run Try.prog w = .ok (86, v) w :=
  method_by x a v w _ _ h (by kernel_rfl)
theorem method_push (x : Nat) (a : Addr) (w : World) : (method (x + 1) 85 (.pointer (some a)) "Push").run Try.prog w = .ok (90, .pointer (some a)) w := by kernel_rfl
theorem method_pop (x : Nat) (a : Addr) (w : World) : (method (x + 1) 85 (.pointer (some a)) "Pop").run Try.prog w = .ok (89, .pointer (some a)) w := by kernel_rfl

theorem grown_more {w w' : World} (h : w.grownBy w' none) (r : Option Nat) : w.grownBy w' r := ⟨h.os, h.tape, h.output, h.size, fun i hi _ => h.block i hi (by simp)⟩

theorem Qa.none {w w' : World} {q g cap : Nat} {l : List Th} {n : Int} (h : Qa w q g cap l n) (k : w.grownBy w' none) : Qa w' q g cap l n :=
  ⟨h.own.keep (k.block q h.own.lt (by simp)), h.lie.far (k.block g h.lie.lt (by simp))⟩

theorem Qa.turn {w w' : World} {q g cap : Nat} {l l' : List Th} {n : Int} (h : Qa w q g cap l n) (k : w.grownBy w' (some g)) (e : Lie w' g cap l') (hl : l'.length = l.length) : Qa w' q g cap l' n :=
  ⟨by rw [hl]; exact h.own.keep (k.block q h.own.lt (by intro e; injection e with e; exact h.ne e.symm)), e⟩

/-- What stands behind heap.Interface. -/
abbrev ifc (q : Nat) : Value := .iface 85 (.pointer (some ⟨q, 0, none⟩))

set_option maxRecDepth 100000 in
set_option maxHeartbeats 400000 in
theorem up_calls (q g cap k : Nat) (l : List Th) (n : Int) (w : World) (h : Qa w q g cap l n) (hr : Rises l.length k l) (hk : k < l.length) (hl : l.length ≤ 1000000) :
    Calls Try.prog 50 #[ifc q, .int .i64 k] w fun en w' => en = .returned (.tuple #[]) ∧ ∃ l', Qa w' q g cap l' n ∧ l'.Perm l ∧ HeapFrom 0 l'.length l' ∧ w.grownBy w' (some g) := by
  have H := Lib.hid h
  have HR := Lib.hid hr
  clear h hr
  go_enter Try.func50, Try.ntmps50
  go_wp2_with fail
  go_loopw [1] (fun j wr => ∃ (m : Nat) (k : List Th), j = .int .i64 m ∧ m < k.length ∧ k.length ≤ 1000000 ∧ Hid (Qa wr q g cap k n) ∧ Hid (Rises k.length m k) ∧ Hid (k.Perm l) ∧ Hid (w.grownBy wr (some g))) (fun j _ => (intOf j).toNat)
  case atStart => exact ⟨k, l, rfl, hk, hl, H, HR, List.Perm.refl _, grown_refl w _⟩
  case round =>
    obtain ⟨m, l', rfl, hm, hl', HQ, HR', HP, HG⟩ := hrel
    clear hk hl H HR
    by_cases h0 : m = 0
    · subst h0
      go_wp2_with fail
      go_end0
      exact ⟨rfl, l', HQ.out, HP.out, HR'.out.top, HG.out⟩
    · obtain ⟨i, ei⟩ : ∃ i, (m - 1) / 2 = i := ⟨_, rfl⟩
      have hi : ((m : Int) - 1) / 2 = (i : Int) := by omega
      have hne : ¬ (i : Int) = (m : Int) := by omega
      have him : i < m := by omega
      have c0 := HQ.out.own.cell 0
      change wr.cell? ⟨q, 0, none⟩ = some _ at c0
      have ml := fun x => method_less x ⟨q, 0, none⟩ _ wr c0
      go_wp2_with fail
      refine (less_calls g l' cap m i wr HQ.out.lie hm (by omega)).mono ?_
      rintro en w1 ⟨rfl, g1⟩
      have Q1 := Lib.hid (HQ.out.none g1)
      have G1 := Lib.hid (grown_trans HG.out (grown_more g1 _))
      clear ml c0 g1 HQ HG
      by_cases hlt : lt (at_ l' m) (at_ l' i)
      · have E := Lib.hid (decide_eq_true hlt)
        rw [E.out]
        have c0 := Q1.out.own.cell 0
        change w1.cell? ⟨q, 0, none⟩ = some _ at c0
        have ms := fun x => method_swap x ⟨q, 0, none⟩ _ w1 c0
        go_wp2_with fail
        refine (swap_calls g l' cap i m w1 Q1.out.lie (by omega) hm).mono ?_
        rintro en w2 ⟨rfl, h2, g2⟩
        go_wp2_with fail
        subst ei
        refine ⟨⟨_, swap l' ((m - 1) / 2) m, rfl, by rw [swap_length]; omega, by rw [swap_length]; exact hl', Q1.out.turn g2 h2 (swap_length ..), ?_, (swap_perm l' _ m (by omega) hm).trans HP.out, grown_trans G1.out g2⟩, ?_⟩
        · rw [swap_length]; exact HR'.out.step (Nat.le_refl _) (by omega) hlt
        · show ((((m - 1) / 2 : Nat) : Int)).toNat < ((m : Nat) : Int).toNat
          omega
      · have E := Lib.hid (decide_eq_false hlt)
        rw [E.out]
        go_wp2_with fail
        go_end0
        subst ei
        exact ⟨rfl, l', Q1.out, HP.out, HR'.out.done hlt, G1.out⟩

end Go.Proofs.Ytbpnbnbglfiglaa
