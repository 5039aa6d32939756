/- The laws' Cut. -/
import Derived.Test.YtbpnbnbglfiglaaBase
namespace Go.Proofs.Ytbpnbnbglfiglaa
open Go Go.RowKit

set_option maxHeartbeats 400000 in
theorem lcut_any (s : ByteArray) (n : Nat) (w : World) (hn : n ≤ 1000000) (_hs : s.size ≤ maxLen) :
    Calls Try.prog 16 #[.string s, .int .i64 n] w fun en w' => en = .returned (.string (s.extract 0 n)) ∧ w = w' := by
  unfold maxLen at _hs
  by_cases h : n < s.size
  · go_enter Try.func16, Try.ntmps16
    go_wp2
    go_ret
    exact ⟨rfl, rfl⟩
  · have e : s.extract 0 n = s := by
      apply ByteArray.ext
      simp [ByteArray.data_extract]
      omega
    have E := Lib.hid e
    clear e
    go_enter Try.func16, Try.ntmps16
    go_wp2
    go_ret
    rw [E.out]
    exact ⟨rfl, rfl⟩
end Go.Proofs.Ytbpnbnbglfiglaa
