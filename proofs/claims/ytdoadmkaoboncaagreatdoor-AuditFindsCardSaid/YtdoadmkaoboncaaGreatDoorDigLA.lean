/- digest: Cut; what the row's list gives. -/
import Derived.Test.YtdoadmkaoboncaaGreatDoorDigI
import Derived.Lib.LaidTab
import Derived.Deep.MidRow
namespace Go.Proofs.YtdoadmkaoboncaaGreatDoor.dig
open Go Go.RowKit

theorem gRounds : Tryz.prog.globalNamed "hindsight/digest.rounds" = some 4 := by kernel_rfl
theorem gRoundsType : (Tryz.prog.globals[4]?).map (·.type) = some 217 := by kernel_rfl
theorem cellsWords : Tryz.prog.cellsOf 217 = 64 := by kernel_rfl
theorem cellsU32 : Tryz.prog.cellsOf 158 = 1 := by kernel_rfl
theorem rk_of_laid {W : World} {rest : List (String × DataW Unit)} (h : laidMet Tryz.prog (("hindsight/digest.rounds", Rows.laid_hindsight_digest_rounds) :: rest) W) : Rk W := by
  have ht : Lib.TabIs Tryz.prog W "hindsight/digest.rounds" .u32 keys := Lib.tabIs_of_head (rest := rest) gRounds gRoundsType Tryz.underlying217 Tryz.underlying158 cellsU32 cellsWords h
  intro i x hx
  have hi : i < keys.length := (List.getElem?_eq_some_iff.1 hx).1
  have := ht.cell gRounds i hi
  rw [this]
  have e : keys.getD i 0 = x := by
    rw [List.getD_eq_getElem?_getD, hx]
    rfl
  rw [wordV]
  exact congrArg (fun z => some (Value.int .u32 z)) e

set_option maxHeartbeats 400000 in
theorem cut_any (s : ByteArray) (n : Nat) (w : World) (hn : n ≤ 1000000) (_hs : s.size ≤ maxLen) :
    Calls Tryz.prog 7 #[.string s, .int .i64 n] w fun en w' => en = .returned (.string (s.extract 0 n)) ∧ w = w' := by
  unfold maxLen at _hs
  by_cases h : n < s.size
  · go_enter Tryz.func7, Tryz.ntmps7
    go_wp2
    go_ret
    exact ⟨rfl, rfl⟩
  · have e : s.extract 0 n = s := by
      apply ByteArray.ext
      simp [ByteArray.data_extract]
      omega
    have E := Lib.hid e
    clear e
    go_enter Tryz.func7, Tryz.ntmps7
    go_wp2
    go_ret
    rw [E.out]
    exact ⟨rfl, rfl⟩
end Go.Proofs.YtdoadmkaoboncaaGreatDoor.dig
