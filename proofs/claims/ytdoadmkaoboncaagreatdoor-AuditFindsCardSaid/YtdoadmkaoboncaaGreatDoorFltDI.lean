/- Out of FltD: eqE, in_calls, in_ok, in_nil. -/
import Derived.Test.YtdoadmkaoboncaaGreatDoorFltBE
import Derived.Test.YtdoadmkaoboncaaGreatDoorRow
import Derived.Test.YtdoadmkaoboncaaGreatDoorReg
import Derived.Test.YtdoadmkaoboncaaGreatDoorOwn
namespace Go.Proofs.YtdoadmkaoboncaaGreatDoor.flt
open Go Go.RowKit Go.Extern.Stop Go.Stop Go.Extern

theorem eqE (n m : Int) (w : World) : (binOp .eql 58 (.iface 83 (.int .i64 n)) (.iface 83 (.int .i64 m))).run Tryz.prog w = .ok (.bool (n == m)) w := by kernel_rfl

theorem in_calls (L : List Sp) (n : Int) (s : ByteArray) (a : Int) (w : World) (hn : n ≠ 0) : Calls Tryz.prog 37 #[.string s, .int .i64 a, ev L n] w
    fun en w' => en = .returned (ev (⟨w.heap.size, s, a⟩ :: L) n) ∧ w' = w.alloc (.cells #[.string s, .int .i64 a, ev L n] 127) := by
  cases L with
  | nil =>
    rw [show ev [] n = .iface 83 (.int .i64 n) from rfl]
    have hne := fun w => eqE n 0 w
    have h0 : (n == 0) = false := by simpa using hn
    rw [h0] at hne
    clear hn h0
    go_enter Tryz.func37, Tryz.ntmps37
    go_wp2
    go_ret
    exact ⟨rfl, rfl⟩
  | cons x r =>
    rw [show ev (x :: r) n = .iface 125 (.pointer (some ⟨x.b, 0, none⟩)) from rfl]
    have hne := fun w => run_eql_iface_types (P := Tryz.prog) 125 83 (.pointer (some ⟨x.b, 0, none⟩)) (.int .i64 0) Tryz.underlying58 (by decide) w
    go_enter Tryz.func37, Tryz.ntmps37
    go_wp2
    go_ret
    exact ⟨rfl, rfl⟩
theorem in_ok (s : ByteArray) (a : Int) (w : World) : Calls Tryz.prog 37 #[.string s, .int .i64 a, .iface 83 (.int .i64 0)] w fun en w' => en = .returned .nilIface ∧ w = w' := by
  have hne : ∀ w, (binOp .eql 58 (.iface 83 (.int .i64 0)) (.iface 83 (.int .i64 0))).run Tryz.prog w = .ok (.bool true) w := fun w => eqE 0 0 w
  go_enter Tryz.func37, Tryz.ntmps37
  go_wp2
  go_ret
  exact ⟨rfl, rfl⟩
theorem in_nil (s : ByteArray) (a : Int) (w : World) : Calls Tryz.prog 37 #[.string s, .int .i64 a, .nilIface] w fun en w' => en = .returned .nilIface ∧ w = w' := by
  go_enter Tryz.func37, Tryz.ntmps37
  go_wp2
  go_ret
  exact ⟨rfl, rfl⟩
end Go.Proofs.YtdoadmkaoboncaaGreatDoor.flt
