/- The law's own look at what the document fixes ('awake') answers true. -/
import Derived.Test.YtigojpjmncclaaaWireT
namespace Go.Proofs.Ytigojpjmncclaaa
open Go.RowKit

theorem wr_new (w : World) : Wr (w.alloc (.cells #[.slice none 0 0] 29)) w.heap.size none [] :=
  ⟨_, Has.made _ _ _, World.ownsRow_nil _ _ _ _, rfl, by simp⟩

theorem enc_300 : (⟨(([] : List UInt8) ++ enc 300).toArray⟩ : ByteArray) = ⟨#[130, 44]⟩ := by
  simp [enc, hi]

set_option maxRecDepth 100000 in
set_option maxHeartbeats 1000000 in
theorem awake_any (w : World) : Calls Try.prog 14 #[] w fun en w' => en = .returned (.bool true) ∧ Below w.heap.size w w' := by
  go_enter Try.func14, Try.ntmps14
  go_wp2_with fail
  refine (wnum_any w.heap.size none [] 300 _ (by omega) (wr_new w) (by simp)).mono ?_
  rintro en w1 ⟨rfl, r1, hw1, hr1, ht1⟩
  have HB1 : Below w.heap.size w w1 := by
    have h0 : Below w.heap.size w (w.alloc (.cells #[.slice none 0 0] 29)) := (Below.refl _ _).alloc (Nat.le_refl _) _
    exact h0.trans (ht1.below (by simp) (fun j hj h => by rcases h with h | h; (omega); (cases h)))
  have HW1 := Lib.hid hw1
  clear hw1 hr1 ht1
  go_wp2_with fail
  refine (text_any _ _ _ _ HW1.out).mono ?_
  rintro en w2 ⟨rfl, rfl⟩
  rw [enc_300]
  clear HW1
  go_wp2_with fail
  refine (read_any _ _).mono ?_
  rintro en w2 ⟨rfl, _, hb2⟩
  have HB2 := HB1.trans (hb2.mono HB1.size)
  clear hb2 HB1
  go_wp2_with fail
  refine (read_any _ _).mono ?_
  rintro en w3 ⟨rfl, hr3, hb3⟩
  have HB3 := HB2.trans (hb3.mono HB2.size)
  have hsz := HB2.size
  have HR3 := Lib.hid hr3
  clear hb3 HB2 hr3
  go_wp2_with fail
  refine (num_any _ _ _ _ (by decide) HR3.out).mono ?_
  rintro en w4 ⟨rfl, _, g4⟩
  have HB4 := HB3.trans (below_grown g4 hsz HB3.size)
  clear g4 HR3 HB3
  go_wp2_with fail
  refine (read_any _ _).mono ?_
  rintro en w5 ⟨rfl, hr5, hb5⟩
  have HB5 := HB4.trans (hb5.mono HB4.size)
  have hsz5 := HB4.size
  have HR5 := Lib.hid hr5
  clear hb5 HB4 hr5
  go_wp2_with fail
  refine (rint_any _ _ _ _ (by decide) HR5.out).mono ?_
  rintro en w6 ⟨rfl, _, g6⟩
  have HB6 := HB5.trans (below_grown g6 hsz5 HB5.size)
  clear g6 HR5 HB5
  go_wp2_with fail
  go_ret
  exact ⟨rfl, HB6⟩

end Go.Proofs.Ytigojpjmncclaaa
