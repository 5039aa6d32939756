/- digest: Cut; what the row's list gives. -/
import Derived.Test.YtplidcgoclebcaaDoorDigI
import Derived.Lib.LaidTab
import Derived.Deep.MidRow
namespace Go.Proofs.YtplidcgoclebcaaDoor.dig
open Go Go.RowKit

theorem gRounds : Tryd.prog.globalNamed "hindsight/digest.rounds" = some 3 := by kernel_rfl
theorem gRoundsType : (Tryd.prog.globals[3]?).map (·.type) = some 173 := by kernel_rfl
theorem cellsWords : Tryd.prog.cellsOf 173 = 64 := by kernel_rfl
theorem cellsU32 : Tryd.prog.cellsOf 105 = 1 := by kernel_rfl
theorem rk_of_laid {W : World} {rest : List (String × DataW Unit)} (h : laidMet Tryd.prog (("hindsight/digest.rounds", Rows.laid_hindsight_digest_rounds) :: rest) W) : Rk W := by
  have ht : Lib.TabIs Tryd.prog W "hindsight/digest.rounds" .u32 keys := Lib.tabIs_of_head (rest := rest) gRounds gRoundsType Tryd.underlying173 Tryd.underlying105 cellsU32 cellsWords h
  intro i x hx
  have hi : i < keys.length := (List.getElem?_eq_some_iff.1 hx).1
  have := ht.cell gRounds i hi
  rw [this]
  have e : keys.getD i 0 = x := by
    rw [List.getD_eq_getElem?_getD, hx]
    rfl
  rw [wordV]
  exact congrArg (fun z => some (Value.int .u32 z)) e

set_option maxHeartbeats 400000 in
theorem cut_any (s : ByteArray) (n : Nat) (w : World) (hn : n ≤ 1000000) (_hs : s.size ≤ maxLen) :
    Calls Tryd.prog 22 #[.string s, .int .i64 n] w fun en w' => en = .returned (.string (s.extract 0 n)) ∧ w = w' := by
  unfold maxLen at _hs
  by_cases h : n < s.size
  · go_enter Tryd.func22, Tryd.ntmps22
    go_wp2
    go_ret
    exact ⟨rfl, rfl⟩
  · have e : s.extract 0 n = s := by
      apply ByteArray.ext
      simp [ByteArray.data_extract]
      omega
    have E := Lib.hid e
    clear e
    go_enter Tryd.func22, Tryd.ntmps22
    go_wp2
    go_ret
    rw [E.out]
    exact ⟨rfl, rfl⟩
end Go.Proofs.YtplidcgoclebcaaDoor.dig
