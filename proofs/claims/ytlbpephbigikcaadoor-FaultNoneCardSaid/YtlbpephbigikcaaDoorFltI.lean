/- fault: law 3's awake. -/
import Derived.Test.YtlbpephbigikcaaDoorFltH
import Derived.Test.YtlbpephbigikcaaDoorFltF
namespace Go.Proofs.YtlbpephbigikcaaDoor.flt
open Go Go.RowKit Go.Extern.Stop Go.Stop Go.Extern

theorem Et.whole {B : Nat} {w w' : World} (h : Et B w) (b : Below B w w') : Et w'.heap.size w' :=
  ⟨(h.below b (Nat.le_refl _)).cell, Nat.lt_of_lt_of_le h.lo (Nat.le_trans h.size b.size), Nat.le_refl _⟩

theorem awake_path (b c : Nat) : pathB [⟨c, ⟨#[98, 114, 97, 110, 99, 104]⟩, 3⟩, ⟨b, ⟨#[99, 111, 109, 109, 97, 110, 100]⟩, 7⟩] 10
    = ⟨#[98, 114, 97, 110, 99, 104, 47, 99, 111, 109, 109, 97, 110, 100, 47, 111, 118, 101, 114, 102, 108, 111, 119]⟩ := by
  rfl
theorem awake_error (b c : Nat) : (⟨(stepsL [⟨c, ⟨#[98, 114, 97, 110, 99, 104]⟩, 3⟩, ⟨b, ⟨#[99, 111, 109, 109, 97, 110, 100]⟩, 7⟩] ++ (word 10).data.toList).toArray⟩ : ByteArray)
    = ⟨#[98, 114, 97, 110, 99, 104, 32, 51, 58, 32, 99, 111, 109, 109, 97, 110, 100, 32, 55, 58, 32, 111, 118, 101, 114, 102, 108, 111, 119]⟩ := by
  kernel_rfl

theorem awake_len (b c : Nat) : (Lib.join (([⟨c, ⟨#[98, 114, 97, 110, 99, 104]⟩, 3⟩, ⟨b, ⟨#[99, 111, 109, 109, 97, 110, 100]⟩, 7⟩] : List Sp).map (fun x => x.s.data.toList) ++ [(word 10).data.toList]) [47]).length ≤ 140737488355328 := by
  show (Lib.join [[98, 114, 97, 110, 99, 104], [99, 111, 109, 109, 97, 110, 100], (word 10).data.toList] [47]).length ≤ 140737488355328
  decide
theorem awake_low (b c : Nat) : Low [⟨c, ⟨#[98, 114, 97, 110, 99, 104]⟩, 3⟩, ⟨b, ⟨#[99, 111, 109, 109, 97, 110, 100]⟩, 7⟩] := by
  refine ⟨show 2 ≤ 1000 by decide, fun x hx => ?_⟩
  rcases List.mem_cons.1 hx with rfl | hx
  · exact ⟨show 6 ≤ 1000 by decide, 3, by decide, rfl⟩
  · rcases List.mem_cons.1 hx with rfl | hx
    · exact ⟨show 7 ≤ 1000 by decide, 7, by decide, rfl⟩
    · cases hx

set_option maxRecDepth 100000 in
set_option maxHeartbeats 2000000 in
theorem awake_calls (B : Nat) (w : World) (hT : Et B w) : Calls Tryd.prog 8 #[] w fun en w' => en = .returned (.bool true) ∧ Below w.heap.size w w' := by
  obtain ⟨wa, hwa⟩ : ∃ wa : World, wa = (w.alloc (.cells #[.string ⟨#[99, 111, 109, 109, 97, 110, 100]⟩, .int .i64 7, ev [] 10] 47)).alloc (.cells #[.string ⟨#[98, 114, 97, 110, 99, 104]⟩, .int .i64 3, ev [⟨w.heap.size, ⟨#[99, 111, 109, 109, 97, 110, 100]⟩, 7⟩] 10] 47) := ⟨_, rfl⟩
  have bA : Below w.heap.size w wa := by rw [hwa]; exact ((Below.refl _ w).alloc (Nat.le_refl _) _).alloc (by simp) _
  have HA : Has wa w.heap.size 47 #[.string ⟨#[99, 111, 109, 109, 97, 110, 100]⟩, .int .i64 7, ev [] 10] := by rw [hwa]; exact Has.alloc (Has.made w 47 _) _
  have HC : Has wa (w.heap.size + 1) 47 #[.string ⟨#[98, 114, 97, 110, 99, 104]⟩, .int .i64 3, ev [⟨w.heap.size, ⟨#[99, 111, 109, 109, 97, 110, 100]⟩, 7⟩] 10] := by
    rw [hwa]
    have := Has.made (w.alloc (.cells #[.string ⟨#[99, 111, 109, 109, 97, 110, 100]⟩, .int .i64 7, ev [] 10] 47)) 47 #[.string ⟨#[98, 114, 97, 110, 99, 104]⟩, .int .i64 3, ev [⟨w.heap.size, ⟨#[99, 111, 109, 109, 97, 110, 100]⟩, 7⟩] 10]
    simpa using this
  have E : Er wa.heap.size wa [⟨w.heap.size + 1, ⟨#[98, 114, 97, 110, 99, 104]⟩, 3⟩, ⟨w.heap.size, ⟨#[99, 111, 109, 109, 97, 110, 100]⟩, 7⟩] 10 := ⟨⟨HC, HC.lt⟩, ⟨HA, HA.lt⟩, trivial⟩
  have HEE := Lib.hid E
  have TA : Et wa.heap.size wa := hT.whole (below_less bA hT.size)
  have HTA := Lib.hid TA
  have BA := Lib.hid bA
  have HWA := Lib.hid hwa
  have mE : ∀ (x : Nat) (a : Addr) (w : World), (Go.method (x + 1) 42 (.pointer (some a)) "Error").run Tryd.prog w = .ok (25, .pointer (some a)) w := fun x a w => by kernel_rfl
  clear hwa bA HA HC E TA
  have e1 : ((⟨#[98, 114, 97, 110, 99, 104, 47, 99, 111, 109, 109, 97, 110, 100, 47, 111, 118, 101, 114, 102, 108, 111, 119]⟩ : ByteArray).toList == (⟨#[98, 114, 97, 110, 99, 104, 47, 99, 111, 109, 109, 97, 110, 100, 47, 111, 118, 101, 114, 102, 108, 111, 119]⟩ : ByteArray).toList) = true := by simp
  go_enter Tryd.func8, Tryd.ntmps8
  go_wp2_with fail
  refine (in_calls [] 10 ⟨#[99, 111, 109, 109, 97, 110, 100]⟩ 7 w (by decide)).mono ?_
  rintro en w1 ⟨rfl, hw1⟩
  replace hw1 := Lib.hid hw1
  go_wp2_with fail
  refine (in_calls [⟨w.heap.size, ⟨#[99, 111, 109, 109, 97, 110, 100]⟩, 7⟩] 10 ⟨#[98, 114, 97, 110, 99, 104]⟩ 3 w1 (by decide)).mono ?_
  rintro en w2 ⟨rfl, hw2⟩
  replace hw2 := Lib.hid hw2
  have hw : w2 = wa := by
    rw [hw2.out, hw1.out, HWA.out]
  have hz : w1.heap.size = w.heap.size + 1 := by rw [hw1.out]; simp
  clear hw1 hw2
  subst hw
  clear HWA
  rw [hz, show ev [⟨w.heap.size + 1, ⟨#[98, 114, 97, 110, 99, 104]⟩, 3⟩, ⟨w.heap.size, ⟨#[99, 111, 109, 109, 97, 110, 100]⟩, 7⟩] 10 = .iface 42 (.pointer (some ⟨w.heap.size + 1, 0, none⟩)) from rfl]
  clear hz
  go_wp2_with fail
  refine (path_calls w2.heap.size [⟨w.heap.size + 1, ⟨#[98, 114, 97, 110, 99, 104]⟩, 3⟩, ⟨w.heap.size, ⟨#[99, 111, 109, 109, 97, 110, 100]⟩, 7⟩] 10 w2 HTA.out HEE.out (show 2 ≤ 1000000 by decide) (by decide) (by decide) (awake_len _ _)).mono ?_
  rw [awake_path]
  rintro en w3 ⟨rfl, b3⟩
  have B3 := Lib.hid b3
  clear b3
  have HE3 := Lib.hid (HEE.out.below B3.out (Nat.le_refl _))
  have HT3 := Lib.hid (HTA.out.below B3.out (Nat.le_refl _))
  go_wp2_with fail
  refine (error_calls w2.heap.size ⟨w.heap.size + 1, ⟨#[98, 114, 97, 110, 99, 104]⟩, 3⟩ [⟨w.heap.size, ⟨#[99, 111, 109, 109, 97, 110, 100]⟩, 7⟩] 10 w3 HT3.out HE3.out (awake_low _ _) (by decide) (by decide)).mono ?_
  rw [awake_error]
  rintro en w4 ⟨rfl, b4⟩
  have B4 := Lib.hid b4
  clear b4
  have e2 : ((⟨#[98, 114, 97, 110, 99, 104, 32, 51, 58, 32, 99, 111, 109, 109, 97, 110, 100, 32, 55, 58, 32, 111, 118, 101, 114, 102, 108, 111, 119]⟩ : ByteArray).toList == (⟨#[98, 114, 97, 110, 99, 104, 32, 51, 58, 32, 99, 111, 109, 109, 97, 110, 100, 32, 55, 58, 32, 111, 118, 101, 114, 102, 108, 111, 119]⟩ : ByteArray).toList) = true := by simp
  go_wp2_with fail
  refine (in_ok _ 1 w4).mono ?_
  rintro en w5 ⟨rfl, rfl⟩
  go_wp2_with fail
  go_ret
  exact ⟨rfl, (BA.out.trans (below_less B3.out BA.out.size)).trans (below_less B4.out (Nat.le_trans BA.out.size B3.out.size))⟩
end Go.Proofs.YtlbpephbigikcaaDoor.flt
