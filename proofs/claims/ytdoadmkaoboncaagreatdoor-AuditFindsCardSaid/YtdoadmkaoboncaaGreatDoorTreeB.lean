/- tree: the number of ones, the zeros at the end (math/bits). -/
import Derived.Test.YtdoadmkaoboncaaGreatDoorTreeA
namespace Go.Proofs.YtdoadmkaoboncaaGreatDoor.dig
open Go Go.RowKit

def pop1 (x : Int) : Int := IntKind.u64.wrap (bits .and .u64 (x / 2) 6148914691236517205 + bits .and .u64 x 6148914691236517205)
def pop2 (x : Int) : Int := IntKind.u64.wrap (bits .and .u64 (x / 4) 3689348814741910323 + bits .and .u64 x 3689348814741910323)
def pop3 (x : Int) : Int := bits .and .u64 (IntKind.u64.wrap (x / 16 + x)) 1085102592571150095
def pop4 (x : Int) : Int := IntKind.u64.wrap (x + x / 256)
def pop5 (x : Int) : Int := IntKind.u64.wrap (x + x / 65536)
def pop6 (x : Int) : Int := IntKind.u64.wrap (x + x / 4294967296)
def pop7 (x : Int) : Int := bits .and .i64 (wrap64 x) 127
/-- How many ones a number has. -/
def pop (n : Nat) : Int := pop7 (pop6 (pop5 (pop4 (pop3 (pop2 (pop1 n))))))
theorem pop_fin : ∀ n : Fin 1024, (decide (pop n.val = 1)) = (2 ^ Nat.log2 n.val == n.val) := by decide +kernel
theorem pop_one {n : Nat} (hn : n < 1024) : pop n = 1 ↔ 2 ^ Nat.log2 n = n := by
  have := pop_fin ⟨n, hn⟩
  simp only [] at this
  constructor
  · intro h
    rw [decide_eq_true h] at this
    exact eq_of_beq this.symm
  · intro h
    rw [beq_iff_eq.2 h] at this
    exact of_decide_eq_true this

set_option maxRecDepth 100000 in
set_option maxHeartbeats 1000000 in
theorem ones64_calls (n : Nat) (w : World) :
    Calls Tryz.prog 116 #[.int .u64 n] w fun en w' => en = .returned (.int .i64 (pop n)) ∧ w = w' := by
  obtain ⟨x0, h0⟩ : ∃ x : Int, x = (n : Int) := ⟨_, rfl⟩
  obtain ⟨x1, h1⟩ : ∃ x, x = pop1 x0 := ⟨_, rfl⟩
  obtain ⟨x2, h2⟩ : ∃ x, x = pop2 x1 := ⟨_, rfl⟩
  obtain ⟨x3, h3⟩ : ∃ x, x = pop3 x2 := ⟨_, rfl⟩
  obtain ⟨x4, h4⟩ : ∃ x, x = pop4 x3 := ⟨_, rfl⟩
  obtain ⟨x5, h5⟩ : ∃ x, x = pop5 x4 := ⟨_, rfl⟩
  obtain ⟨x6, h6⟩ : ∃ x, x = pop6 x5 := ⟨_, rfl⟩
  have h7 : pop n = pop7 x6 := by rw [h6, h5, h4, h3, h2, h1, h0]; rfl
  have e1 : IntKind.u64.wrap (bits .and .u64 (x0 / 2) 6148914691236517205 + bits .and .u64 x0 6148914691236517205) = x1 := h1.symm
  have e2 : IntKind.u64.wrap (bits .and .u64 (x1 / 4) 3689348814741910323 + bits .and .u64 x1 3689348814741910323) = x2 := h2.symm
  have e3 : bits .and .u64 (IntKind.u64.wrap (x2 / 16 + x2)) 1085102592571150095 = x3 := h3.symm
  have e4 : IntKind.u64.wrap (x3 + x3 / 256) = x4 := h4.symm
  have e5 : IntKind.u64.wrap (x4 + x4 / 65536) = x5 := h5.symm
  have e6 : IntKind.u64.wrap (x5 + x5 / 4294967296) = x6 := h6.symm
  rw [h7, ← h0]
  clear h1 h2 h3 h4 h5 h6 h7 h0
  go_enter Tryz.func116, Tryz.ntmps116
  go_wp2_with fail
  go_ret
  exact ⟨rfl, rfl⟩

set_option maxRecDepth 100000 in
set_option maxHeartbeats 1000000 in
theorem ones_calls (n : Nat) (w : World) :
    Calls Tryz.prog 94 #[.int .u64 n] w fun en w' => en = .returned (.int .i64 (pop n)) ∧ w = w' := by
  go_enter Tryz.func94, Tryz.ntmps94
  go_wp2_with (first
    | (go_at_call 116; refine (ones64_calls n _).mono ?_; rintro e w' ⟨rfl, rfl⟩)
    | fail)
  go_ret
  exact ⟨rfl, rfl⟩

theorem low_fin : ∀ j : Fin 64, bits .and .u64 (2 ^ j.val : Nat) (IntKind.u64.wrap (-((2 ^ j.val : Nat) : Int))) = ((2 ^ j.val : Nat) : Int) := by decide +kernel

set_option maxRecDepth 100000 in
set_option maxHeartbeats 1000000 in
theorem zeros64_calls (B j : Nat) (w : World) (hR : Rt B w) (hj : j < 64) :
    Calls Tryz.prog 118 #[.int .u64 (2 ^ j : Nat)] w fun en w' => en = .returned (.int .i64 j) ∧ w = w' := by
  have h2 := Lib.deBruijn64_at j hj
  have h0 : (2 ^ j : Nat) ≠ 0 := Nat.ne_of_gt (Nat.pow_pos (by decide))
  have h00 : ((2 ^ j : Nat) : Int) ≠ 0 := by omega
  obtain ⟨q, hq⟩ : ∃ q, q = 2 ^ j * 285870213051353865 % 18446744073709551616 / 288230376151711744 := ⟨_, rfl⟩
  rw [← hq] at h2
  have c0 : w.cell? ⟨2, q, none⟩ = some (.int .u8 (j : Int)) := hR.tz q j (by
    have hl : q < Lib.deBruijn64tab.length := h2.1
    rw [List.getElem?_eq_getElem hl, ← h2.2, List.getD_eq_getElem?_getD, List.getElem?_eq_getElem hl]
    rfl)
  have hq64 : (q : Int) < 64 := by have := h2.1; omega
  have hq0 : (0 : Int) ≤ (q : Int) := by omega
  have hj0 : (j : Int) < 64 := by omega
  have h1 : bits .and .u64 ((2 ^ j : Nat) : Int) (IntKind.u64.wrap (-((2 ^ j : Nat) : Int))) = ((2 ^ j : Nat) : Int) := low_fin ⟨j, hj⟩
  generalize (2 ^ j : Nat) = p at *
  have h3 : IntKind.u64.wrap ((p : Int) * 285870213051353865) / 288230376151711744 = (q : Int) := by
    show (p : Int) * 285870213051353865 % 18446744073709551616 / 288230376151711744 = (q : Int)
    rw [hq]
    simp only [Int.natCast_ediv, Int.natCast_emod, Int.natCast_mul]
    rfl
  clear h2 hq h0
  go_enter Tryz.func118, Tryz.ntmps118
  go_wp2_with fail
  go_ret
  exact ⟨rfl, rfl⟩

set_option maxRecDepth 100000 in
set_option maxHeartbeats 1000000 in
theorem zeros_calls (B j : Nat) (w : World) (hR : Rt B w) (hj : j < 64) :
    Calls Tryz.prog 95 #[.int .u64 (2 ^ j : Nat)] w fun en w' => en = .returned (.int .i64 j) ∧ w = w' := by
  have H := Lib.hid (zeros64_calls B j w hR hj)
  generalize (2 ^ j : Nat) = p at *
  go_enter Tryz.func95, Tryz.ntmps95
  go_wp2_with (first
    | (go_at_call 118; refine H.out.mono ?_; rintro e w' ⟨rfl, rfl⟩)
    | fail)
  go_ret
  exact ⟨rfl, rfl⟩
end Go.Proofs.YtdoadmkaoboncaaGreatDoor.dig
