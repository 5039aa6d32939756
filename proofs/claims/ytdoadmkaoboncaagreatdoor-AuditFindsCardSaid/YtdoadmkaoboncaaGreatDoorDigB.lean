/- digest: turning a word. -/
import Derived.Test.YtdoadmkaoboncaaGreatDoorDigA
import Derived.Deep.QuietTactic
import Derived.BigQuiet
import Derived.Lib.Hide
namespace Go.Proofs.YtdoadmkaoboncaaGreatDoor.dig
open Go Go.RowKit

set_option maxHeartbeats 400000 in
theorem dturn_calls (x : Int) (n : Nat) (hx : W x) (h1 : 1 ≤ n) (h2 : n ≤ 31) (w : World) :
    Calls Tryz.prog 130 #[.int .u32 x, .int .i64 n] w fun en w' => en = .returned (.int .u32 (rot n x)) ∧ w = w' := by
  have hn1 : (1 : Int) ≤ n := by omega
  have hn2 : (n : Int) ≤ 31 := by omega
  obtain ⟨m, hm⟩ : ∃ m, n + m = 32 := ⟨32 - n, by omega⟩
  have hb : bits .and .u64 (IntKind.u64.wrap (-(n : Int))) 31 = (m : Int) := by
    rw [and31, show IntKind.u64.wrap (-(n : Int)) = (-(n : Int)) % 18446744073709551616 from by unfold IntKind.wrap; simp [IntKind.bits, IntKind.signed]]
    omega
  have hc : bits .or .u32 (x * 2 ^ m % 4294967296) (x / 2 ^ (32 - m)) = rot n x := by
    rw [← rot_code n x hx h1 h2, show 32 - n = m by omega, u32_wrap, show 32 - m = n by omega]
  have hm1 : (m : Int) ≤ 31 := by omega
  have HM := Lib.hid hm
  clear hm
  go_enter Tryz.func130, Tryz.ntmps130
  go_wp2
  go_ret
  exact ⟨rfl, rfl⟩
end Go.Proofs.YtdoadmkaoboncaaGreatDoor.dig
