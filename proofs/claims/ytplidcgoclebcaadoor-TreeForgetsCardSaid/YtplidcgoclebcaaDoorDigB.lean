/- digest: turning a word. -/
import Derived.Test.YtplidcgoclebcaaDoorDigA
import Derived.Deep.QuietTactic
import Derived.BigQuiet
import Derived.Lib.Hide
namespace Go.Proofs.YtplidcgoclebcaaDoor.dig
open Go Go.RowKit

set_option maxHeartbeats 400000 in
theorem dturn_calls (x : Int) (n : Nat) (hx : W x) (h1 : 1 ≤ n) (h2 : n ≤ 31) (w : World) :
    Calls Tryd.prog 104 #[.int .u32 x, .int .i64 n] w fun en w' => en = .returned (.int .u32 (rot n x)) ∧ w = w' := by
  have hn1 : (1 : Int) ≤ n := by omega
  have hn2 : (n : Int) ≤ 31 := by omega
  obtain ⟨m, hm⟩ : ∃ m, n + m = 32 := ⟨32 - n, by omega⟩
  have hb : bits .and .u64 (IntKind.u64.wrap (-(n : Int))) 31 = (m : Int) := by
    rw [and31, show IntKind.u64.wrap (-(n : Int)) = (-(n : Int)) % 18446744073709551616 from by unfold IntKind.wrap; simp [IntKind.bits, IntKind.signed]]
    omega
  have hc : bits .or .u32 (x * 2 ^ m % 4294967296) (x / 2 ^ (32 - m)) = rot n x := by
    rw [← rot_code n x hx h1 h2, show 32 - n = m by omega, u32_wrap, show 32 - m = n by omega]
  have hm1 : (m : Int) ≤ 31 := by omega
  have HM := Lib.hid hm
  clear hm
  go_enter Tryd.func104, Tryd.ntmps104
  go_wp2
  go_ret
  exact ⟨rfl, rfl⟩
set_option maxHeartbeats 400000 in
theorem rturn_calls (x : Int) (n : Nat) (hx : W x) (h1 : 1 ≤ n) (h2 : n ≤ 31) (w : World) :
    Calls Tryd.prog 85 #[.int .u32 x, .int .i64 n] w fun en w' => en = .returned (.int .u32 (rot n x)) ∧ w' = w.drew := by
  have hn1 : (1 : Int) ≤ n := by omega
  have hn2 : (n : Int) ≤ 31 := by omega
  have hx1 := hx.1
  obtain ⟨D, hD⟩ : ∃ D : Int, IntKind.u32.wrap (1 * 2 ^ n) = D := ⟨_, rfl⟩
  have e0 : (1 : Int) ≤ 2 ^ n ∧ (2 : Int) ^ n ≤ 2147483648 := by
    have a1 := Nat.pow_le_pow_right (n := 2) (by omega) h2
    have a2 := Nat.two_pow_pos n
    have a3 : ((2 ^ n : Nat) : Int) = (2 : Int) ^ n := by simp
    omega
  have hD2 : D = 2 ^ n := by rw [← hD, u32_wrap]; omega
  have hD1 : 1 ≤ D := by omega
  have hs : (2 : Int) ^ n % 4294967296 = D := by rw [← hD, u32_wrap, Int.one_mul]
  have hq : x.tdiv D % 4294967296 = x / D := by
    rw [Int.tdiv_eq_ediv_of_nonneg hx1]
    have h3 := Int.ediv_le_self D hx1
    have h4 : 0 ≤ x / D := Int.ediv_nonneg hx1 (by omega)
    have h5 := hx.2
    exact Int.emod_eq_of_lt h4 (by omega)
  have hc := rot_ref n x hx h1 h2
  rw [u32_wrap, u32_wrap, ← hD2] at hc
  clear e0 hD hD2
  go_enter Tryd.func85, Tryd.ntmps85
  go_wp2
  go_region
  go_wp2
  go_ret
  refine ⟨?_, rfl⟩
  rw [hq, hc]
  rfl
end Go.Proofs.YtplidcgoclebcaaDoor.dig
