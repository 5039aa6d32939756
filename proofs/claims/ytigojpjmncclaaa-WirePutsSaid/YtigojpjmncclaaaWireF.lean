/- What the document's own Int and Str give. -/
import Derived.Test.YtigojpjmncclaaaWireT
import Derived.Test.YtigojpjmncclaaaWireX
namespace Go.Proofs.Ytigojpjmncclaaa
open Go.RowKit

theorem fnum_int (x : Int) (w : World) (h0 : 0 ≤ x) (hx : x < 18446744073709551616) :
    Calls Try.prog 16 #[.int .u64 x] w fun en w' => en = .returned (.string ⟨(enc x.toNat).toArray⟩) ∧ Below w.heap.size w w' := by
  obtain ⟨n, rfl⟩ := Int.eq_ofNat_of_zero_le h0
  exact fnum_any n w (by omega)

set_option maxRecDepth 100000 in
set_option maxHeartbeats 400000 in
theorem fint_any (n : Int) (w : World) (hn0 : -9223372036854775808 ≤ n) (hn1 : n ≤ 9223372036854775807) :
    Calls Try.prog 17 #[.int .i64 n] w fun en w' => en = .returned (.string ⟨(enc (zz n)).toArray⟩) ∧ Below w.heap.size w w' := by
  by_cases hn : n < 0
  · have E : Hid (zz n = (2 * (-(n + 1)) + 1).toNat) := if_pos hn
    go_enter Try.func17, Try.ntmps17
    go_wp2_with fail
    refine (fnum_int _ w (by omega) (by omega)).mono ?_
    rw [← E.out]
    rintro en w1 ⟨rfl, h1⟩
    go_wp2_with fail
    go_ret
    exact ⟨rfl, h1⟩
  · have E : Hid (zz n = (2 * n).toNat) := if_neg hn
    have hn' : 0 ≤ n := by omega
    go_enter Try.func17, Try.ntmps17
    go_wp2_with fail
    refine (fnum_int _ w (by omega) (by omega)).mono ?_
    rw [← E.out]
    rintro en w1 ⟨rfl, h1⟩
    go_wp2_with fail
    go_ret
    exact ⟨rfl, h1⟩

set_option maxRecDepth 100000 in
set_option maxHeartbeats 400000 in
theorem fstr_any (s : ByteArray) (w : World) (hs : s.size ≤ 1000000) :
    Calls Try.prog 18 #[.string s] w fun en w' => en = .returned (.string (⟨(enc s.size).toArray⟩ ++ s)) ∧ Below w.heap.size w w' := by
  go_enter Try.func18, Try.ntmps18
  go_wp2_with fail
  refine (fnum_int _ w (by omega) (by omega)).mono ?_
  rw [Int.toNat_natCast]
  have hel := enc_len s.size (by omega)
  obtain ⟨l, hl⟩ : ∃ l, l = enc s.size := ⟨_, rfl⟩
  rw [← hl]
  have HL := Lib.hid hl
  rw [← hl] at hel
  clear hl
  rintro en w1 ⟨rfl, h1⟩
  go_wp2_with fail
  go_ret
  rw [← HL.out]
  exact ⟨rfl, h1⟩

end Go.Proofs.Ytigojpjmncclaaa
