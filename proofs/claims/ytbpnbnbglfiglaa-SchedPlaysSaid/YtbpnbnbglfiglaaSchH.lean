/- sched: law 17's few, the document's Pace. -/
import Derived.Test.YtbpnbnbglfiglaaSchG
import Derived.Test.YtbpnbnbglfiglaaInts
namespace Go.Proofs.Ytbpnbnbglfiglaa.sch
open Go Go.RowKit

theorem few_calls (a : Option Addr) (n c : Nat) (w : World) (hn : n ≤ c) (hc : c ≤ maxLen) : Calls Try.prog 6 #[.slice a n c] w fun en w' => en = .returned (.slice a (min n 6) c) ∧ w = w' := by
  have hc' : (c : Int) ≤ 9223372036854775807 := by unfold maxLen at hc; omega
  have hn' : (n : Int) ≤ (c : Int) := by omega
  by_cases h6 : 6 < n
  · have e : Hid (min n 6 = 6) := Lib.hid (by omega)
    have h6' : (6 : Int) < (n : Int) := by omega
    have hc6 : (6 : Int) ≤ (c : Int) := by omega
    clear hn hc
    go_enter Try.func6, Try.ntmps6
    go_wp2_with fail
    go_ret
    exact ⟨by rw [e.out]; rfl, rfl⟩
  · have e : Hid (min n 6 = n) := Lib.hid (by omega)
    have h6' : ¬ (6 : Int) < (n : Int) := by omega
    clear hn hc
    go_enter Try.func6, Try.ntmps6
    go_wp2_with fail
    go_ret
    exact ⟨by rw [e.out]; rfl, rfl⟩

theorem pace_calls (p : Int) (w : World) : Calls Try.prog 25 #[.int .i64 p] w fun en w' => en = .returned (.int .i64 (bnd p)) ∧ w = w' := by
  by_cases h0 : p < 0
  · have e := Lib.hid (show bnd p = 0 by unfold bnd; rw [if_pos h0])
    have h1 : 0 > p := h0
    go_enter Try.func25, Try.ntmps25
    go_wp2_with fail
    go_ret
    exact ⟨by rw [e.out]; rfl, rfl⟩
  · by_cases h1 : 1048576 < p
    · have e := Lib.hid (show bnd p = 1048576 by unfold bnd; rw [if_neg h0, if_pos h1])
      have h2 : ¬ 0 > p := h0
      go_enter Try.func25, Try.ntmps25
      go_wp2_with fail
      go_ret
      exact ⟨by rw [e.out]; rfl, rfl⟩
    · have e := Lib.hid (show bnd p = p by unfold bnd; rw [if_neg h0, if_neg h1])
      have h2 : ¬ 0 > p := h0
      go_enter Try.func25, Try.ntmps25
      go_wp2_with fail
      go_ret
      exact ⟨by rw [e.out]; rfl, rfl⟩

/-- The numbers T, as a list. -/
def lst (T : Nat → Int) (n : Nat) : List Int := (List.range n).map T
theorem lst_len (T : Nat → Int) (n : Nat) : (lst T n).length = n := by unfold lst; simp
theorem Sl.of_arg {w : World} {a : Option Addr} {n c m : Nat} {T : Nat → Int} (h : ArgI w a n c T) (hm : m ≤ n) : Sl w a (lst T m) := fun i x hx => by
  have hi : i < m := by have := (List.getElem?_eq_some_iff.1 hx).1; rw [lst_len] at this; exact this
  obtain ⟨b, o, e, hb, hc, _⟩ := h.2.2 i (by omega)
  refine ⟨b, o, e, hb, ?_⟩
  unfold lst at hx
  rw [List.getElem?_map, List.getElem?_range hi] at hx
  injection hx with hx
  rw [hc, hx]
end Go.Proofs.Ytbpnbnbglfiglaa.sch
