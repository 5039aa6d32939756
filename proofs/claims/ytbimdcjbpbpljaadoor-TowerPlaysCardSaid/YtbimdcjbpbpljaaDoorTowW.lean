/- tower: the laws' awake. -/
import Derived.Test.YtbimdcjbpbpljaaDoorTwsF
namespace Go.Proofs.YtbimdcjbpbpljaaDoor.tow
open Go Go.RowKit Go.Proofs.YtbimdcjbpbpljaaDoor.tws

def sB (b : UInt8) : ByteArray := ⟨#[b]⟩
theorem keep3 : floorK 11 (insK 12 (sB 99) (insK 8 (sB 98) (insK 4 (sB 97) []))) = (8, sB 98, true) := by rfl
theorem s98 : ((sB 98).toList == [98]) = true := by decide +kernel
theorem hgt8 : hgt 8 = 4 ∧ hgt 7 = 1 := by decide +kernel

set_option maxRecDepth 100000 in
set_option maxHeartbeats 1000000 in
theorem awake_calls (w : World) (hZ : Tz w.heap.size w) : Calls Tryd.prog 9 #[] w fun en w' => en = .returned (.bool true) ∧ Below w.heap.size w w' := by
  have HZ := Lib.hid hZ
  clear hZ
  go_enter Tryd.func9, Tryd.ntmps9
  go_wp2_with fail
  refine (tw_new w).mono ?_
  rintro en w1 ⟨b, rfl, hb, h1, b1⟩
  have H1 : Hid (Tw w1 b [] (fun k => w.heap.size ≤ k) ∧ Below w.heap.size w w1) := Lib.hid ⟨h1, b1⟩
  clear hb h1 b1
  go_wp2_with fail
  refine (H1.out.1.put_calls (HZ.out.below H1.out.2 (Nat.le_refl _)) 4 (sB 97) (by simp) (by omega)).mono ?_
  rintro en w2 ⟨was, rfl, _, h2, t2⟩
  have H2 : Hid (Tw w2 b (insK 4 (sB 97) []) (fun k => w.heap.size ≤ k) ∧ Below w.heap.size w w2) := Lib.hid ⟨h2.more (fun k _ h => h.elim id (fun e => Nat.le_trans H1.out.2.size e)), H1.out.2.trans (t2.below H1.out.2.size (fun j hj e => by omega))⟩
  clear h2 t2 H1
  go_wp2_with fail
  refine (H2.out.1.put_calls (HZ.out.below H2.out.2 (Nat.le_refl _)) 8 (sB 98) (by simp [insK]) (by omega)).mono ?_
  rintro en w3 ⟨was, rfl, _, h3, t3⟩
  have H3 : Hid (Tw w3 b (insK 8 (sB 98) (insK 4 (sB 97) [])) (fun k => w.heap.size ≤ k) ∧ Below w.heap.size w w3) := Lib.hid ⟨h3.more (fun k _ h => h.elim id (fun e => Nat.le_trans H2.out.2.size e)), H2.out.2.trans (t3.below H2.out.2.size (fun j hj e => by omega))⟩
  clear h3 t3 H2
  go_wp2_with fail
  refine (H3.out.1.put_calls (HZ.out.below H3.out.2 (Nat.le_refl _)) 12 (sB 99) (by simp [insK]) (by omega)).mono ?_
  rintro en w4 ⟨was, rfl, _, h4, t4⟩
  have H4 : Hid (Tw w4 b (insK 12 (sB 99) (insK 8 (sB 98) (insK 4 (sB 97) []))) (fun k => w.heap.size ≤ k) ∧ Below w.heap.size w w4) := Lib.hid ⟨h4.more (fun k _ h => h.elim id (fun e => Nat.le_trans H3.out.2.size e)), H3.out.2.trans (t4.below H3.out.2.size (fun j hj e => by omega))⟩
  clear h4 t4 H3
  go_wp2_with fail
  refine (H4.out.1.floor_calls 11 (by simp [insK])).mono ?_
  rw [keep3]
  rintro en w5 ⟨rfl, b5⟩
  have H5 : Hid (Tw w5 b (insK 12 (sB 99) (insK 8 (sB 98) (insK 4 (sB 97) []))) (fun k => w.heap.size ≤ k) ∧ Below w.heap.size w w5) := Lib.hid ⟨H4.out.1.below b5, H4.out.2.trans (b5.mono H4.out.2.size)⟩
  clear b5 H4
  have hs := s98
  go_wp2_with fail
  refine (H5.out.1.len_calls).mono ?_
  rintro en w6 ⟨rfl, rfl⟩
  have hl : (insK 12 (sB 99) (insK 8 (sB 98) (insK 4 (sB 97) []))).length = 3 := by simp [insK]
  rw [hl]
  go_wp2_with fail
  refine (height_calls w.heap.size 8 _ (HZ.out.below H5.out.2 (Nat.le_refl _)) (by omega)).mono ?_
  rw [hgt8.1]
  rintro en w7 ⟨rfl, rfl⟩
  go_wp2_with fail
  refine (height_calls w.heap.size 7 _ (HZ.out.below H5.out.2 (Nat.le_refl _)) (by omega)).mono ?_
  rw [hgt8.2]
  rintro en w8 ⟨rfl, rfl⟩
  go_wp2_with fail
  go_ret
  exact ⟨rfl, H5.out.2⟩
end Go.Proofs.YtbimdcjbpbpljaaDoor.tow
