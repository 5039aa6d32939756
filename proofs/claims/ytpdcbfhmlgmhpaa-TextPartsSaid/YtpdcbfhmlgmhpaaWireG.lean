/- What the document's own Str gives. -/
import Derived.Test.YtpdcbfhmlgmhpaaWireT
import Derived.Test.YtpdcbfhmlgmhpaaWireS
namespace Go.Proofs.Ytpdcbfhmlgmhpaa
open Go.RowKit

theorem fnum_int (x : Int) (w : World) (h0 : 0 ≤ x) (hx : x < 18446744073709551616) :
    Calls Try.prog 58 #[.int .u64 x] w fun en w' => en = .returned (.string ⟨(enc x.toNat).toArray⟩) ∧ Below w.heap.size w w' := by
  obtain ⟨n, rfl⟩ := Int.eq_ofNat_of_zero_le h0
  exact fnum_any n w (by omega)

set_option maxRecDepth 100000 in
set_option maxHeartbeats 400000 in
theorem fstr_any (s : ByteArray) (w : World) (hs : s.size ≤ 1000000) :
    Calls Try.prog 24 #[.string s] w fun en w' => en = .returned (.string (⟨(enc s.size).toArray⟩ ++ s)) ∧ Below w.heap.size w w' := by
  go_enter Try.func24, Try.ntmps24
  go_wp2_with fail
  refine (fnum_int _ w (by omega) (by omega)).mono ?_
  rw [Int.toNat_natCast]
  have hel := enc_len s.size (by omega)
  obtain ⟨l, hl⟩ : ∃ l, l = enc s.size := ⟨_, rfl⟩
  rw [← hl]
  have HL := Lib.hid hl
  rw [← hl] at hel
  clear hl
  rintro en w1 ⟨rfl, h1⟩
  go_wp2_with fail
  go_ret
  rw [← HL.out]
  exact ⟨rfl, h1⟩

end Go.Proofs.Ytpdcbfhmlgmhpaa
