/- digest: the laws' awake, Cut; what the row's list gives. -/
import Derived.Test.YtnbhjffmaememaaDoorDigK
import Derived.Lib.LaidTab
import Derived.Deep.MidRow
namespace Go.Proofs.YtnbhjffmaememaaDoor.dig
open Go Go.RowKit

theorem gRounds : Tryd.prog.globalNamed "hindsight/digest.rounds" = some 0 := by kernel_rfl
theorem gRoundsType : (Tryd.prog.globals[0]?).map (·.type) = some 154 := by kernel_rfl
theorem cellsWords : Tryd.prog.cellsOf 154 = 64 := by kernel_rfl
theorem cellsU32 : Tryd.prog.cellsOf 101 = 1 := by kernel_rfl
theorem rk_of_laid {W : World} {rest : List (String × DataW Unit)} (h : laidMet Tryd.prog (("hindsight/digest.rounds", Rows.laid_hindsight_digest_rounds) :: rest) W) : Rk W := by
  have ht : Lib.TabIs Tryd.prog W "hindsight/digest.rounds" .u32 keys := Lib.tabIs_of_head (rest := rest) gRounds gRoundsType Tryd.underlying154 Tryd.underlying101 cellsU32 cellsWords h
  intro i x hx
  have hi : i < keys.length := (List.getElem?_eq_some_iff.1 hx).1
  have := ht.cell gRounds i hi
  rw [this]
  have e : keys.getD i 0 = x := by
    rw [List.getD_eq_getElem?_getD, hx]
    rfl
  rw [wordV]
  exact congrArg (fun z => some (Value.int .u32 z)) e

set_option maxHeartbeats 400000 in
theorem cut_any (s : ByteArray) (n : Nat) (w : World) (hn : n ≤ 1000000) (_hs : s.size ≤ maxLen) :
    Calls Tryd.prog 19 #[.string s, .int .i64 n] w fun en w' => en = .returned (.string (s.extract 0 n)) ∧ w = w' := by
  unfold maxLen at _hs
  by_cases h : n < s.size
  · go_enter Tryd.func19, Tryd.ntmps19
    go_wp2
    go_ret
    exact ⟨rfl, rfl⟩
  · have e : s.extract 0 n = s := by
      apply ByteArray.ext
      simp [ByteArray.data_extract]
      omega
    have E := Lib.hid e
    clear e
    go_enter Tryd.func19, Tryd.ntmps19
    go_wp2
    go_ret
    rw [E.out]
    exact ⟨rfl, rfl⟩

theorem abc_str : (⟨(hex (sum ((⟨#[97, 98, 99]⟩ : ByteArray).data.toList))).toArray⟩ : ByteArray) = ⟨#[98, 97, 55, 56, 49, 54, 98, 102, 56, 102, 48, 49, 99, 102, 101, 97, 52, 49, 52, 49, 52, 48, 100, 101, 53, 100, 97, 101, 50, 50, 50, 51, 98, 48, 48, 51, 54, 49, 97, 51, 57, 54, 49, 55, 55, 97, 57, 99, 98, 52, 49, 48, 102, 102, 54, 49, 102, 50, 48, 48, 49, 53, 97, 100]⟩ := by
  rw [show (⟨#[97, 98, 99]⟩ : ByteArray).data.toList = [97, 98, 99] from rfl, abc_hex]

set_option maxRecDepth 100000 in
set_option maxHeartbeats 1000000 in
theorem awake_any (w : World) (hR : Rk w) : Calls Tryd.prog 17 #[] w fun en w' => en = .returned (.bool true) ∧ Below w.heap.size w w' := by
  have HR := Lib.hid hR
  clear hR
  go_enter Tryd.func17, Tryd.ntmps17
  go_wp2_with fail
  refine (new_calls w HR.out).mono ?_
  rintro en w1 ⟨h, rfl, hax, hb1, _, _⟩
  have HB1 := Lib.hid hb1
  have HR1 := Lib.hid (HR.out.below hb1)
  clear hax hb1
  go_wp2_with fail
  refine (of_calls _ w1 HR1.out (by decide)).mono ?_
  rintro en w2 ⟨rfl, b2⟩
  have HB2 := Lib.hid (HB1.out.trans (b2.mono HB1.out.size))
  clear b2 HB1 HR1
  go_wp2_with fail
  refine (hex_calls _ (sum_length _) w2).mono ?_
  rw [abc_str]
  rintro en w3 ⟨rfl, b3⟩
  have HB3 := Lib.hid (HB2.out.trans (b3.mono HB2.out.size))
  clear b3 HB2
  go_wp2_with fail
  go_ret
  exact ⟨rfl, HB3.out⟩
end Go.Proofs.YtnbhjffmaememaaDoor.dig
