/- proc: law 16's awake. -/
import Derived.Test.YtlbpephbigikcabPrcS
namespace Go.Proofs.Ytlbpephbigikcab.prc
open Go Go.RowKit Go.Maps

def aw : Nat → Ab
  | 0 => begins ab0 0 ⟨#[97]⟩
  | k + 1 => (step 1 1 (aw k) 0).1

theorem aw_no : ∀ k, k < 3 → (step 1 1 (aw k) 0).2 = nope := by
  intro k hk
  rcases (show k = 0 ∨ k = 1 ∨ k = 2 by omega) with rfl | rfl | rfl
  · rfl
  · rfl
  · rfl
theorem aw_end : (step 1 1 (aw 3) 0).2 = ⟨true, false, 0⟩ := by rfl
theorem aw_idle : ((aw 4).X 0).next = 0 := by rfl
theorem aw_slot : (aw 4).S 0 = some ⟨0, 1, ⟨#[97]⟩⟩ := by rfl
theorem aw_good : ∀ k, Good 1 1 (aw k)
  | 0 => (good0 1 (by decide)).begins (by decide) (by decide) (by decide)
  | k + 1 => (aw_good k).step (by decide)

def intOf : Value → Int
  | .int _ x => x
  | _ => 0

set_option maxRecDepth 100000 in
set_option maxHeartbeats 2000000 in
theorem awake_calls (w : World) : Calls Try.prog 9 #[] w fun en w' => en = .returned (.bool true) ∧ Below w.heap.size w w' := by
  go_enter Try.func9, Try.ntmps9
  go_wp2_with fail
  refine (cel.new_calls (H := Unit) 2 (by decide) _).mono ?_
  intro en w1 hP
  have hb0 : Below w.heap.size w (w.alloc (.cells #[.int .i64 1, .int .i64 1] 25)) := box_below _ _
  obtain ⟨d, c, m, rfl, hS⟩ := mm_new (P := 1) (L := 1) (w := w) (Turn.of_below hb0 (F := fun j => w.heap.size ≤ j) (fun _ _ e => e)) hP
  obtain ⟨_, _, _, _, hm2, hb2, _, _, _⟩ := hP
  have Z1 : Hid (Has w1 w.heap.size 25 #[.int .i64 1, .int .i64 1]) := Lib.hid ((Has.made w 25 _).below hb2 (by simp))
  have S1 := Lib.hid hS
  have z0 : w1.cell? ⟨w.heap.size, 0, none⟩ = some (.int .i64 1) := Z1.out.cell 0
  have z1 : w1.cell? ⟨w.heap.size, 1, none⟩ = some (.int .i64 1) := Z1.out.cell 1
  clear hS hb2 hb0 hm2
  go_wp2_with fail
  refine (new_calls 1 1 0 w1).mono ?_
  intro en w2 hP2
  have hb2 : Below w1.heap.size w1 w2 := by obtain ⟨_, _, _, h, _⟩ := hP2; exact h
  obtain ⟨b, rfl, hS, hbl⟩ := S1.out.more (i := 0) (by decide) (fun h => h) hP2
  have Z2 := Lib.hid (Z1.out.below hb2 Z1.out.lt)
  have z0' : w2.cell? ⟨w.heap.size, 0, none⟩ = some (.int .i64 1) := Z2.out.cell 0
  have z1' : w2.cell? ⟨w.heap.size, 1, none⟩ = some (.int .i64 1) := Z2.out.cell 1
  obtain ⟨B, hB⟩ : ∃ B, B = up (fun _ => 0) 0 b := ⟨_, rfl⟩
  have hB0 : Hid (B 0 = b) := Lib.hid (by rw [hB]; exact up_same _ _ _)
  rw [← hB] at hS
  have S2 := Lib.hid hS
  have HZ : Hid (w.heap.size < b) := Lib.hid (Nat.lt_of_lt_of_le Z1.out.lt hbl)
  clear hS hb2 hP2 z0 z1 hB hbl Z1 S1
  go_wp2_with (first
    | (go_at_call 15; refine (cellsP_calls 1 1 _ (by decide) (by decide) (by decide) (by decide)).mono ?_; rintro en w3 ⟨rfl, b3⟩
       have S3 := Lib.hid (S2.out.below b3)
       clear b3)
    | (go_at_call 27; rw [← hB0.out]; refine (S3.out.begins (i := 0) (.inl rfl) rfl ⟨#[97]⟩ (by decide) (by decide) (by decide)).mono ?_; rw [hB0.out]; rintro en w4 ⟨rfl, h4, t4⟩
       have S4 : Hid (Sys w d c m 1 1 (aw 0) 0 (fun j => j = 0 ∨ False) B w4) := Lib.hid h4
       clear h4 t4)
    | fail)
  go_loopw [25] (fun i wr => ∃ k : Nat, i = .int .i64 k ∧ k ≤ 3 ∧ Hid (Sys w d c m 1 1 (aw k) k (fun j => j = 0 ∨ False) B wr)) (fun i _ => 3 - (intOf i).toNat)
  case atStart => exact ⟨0, rfl, by omega, S4⟩
  case round =>
    obtain ⟨k, rfl, hk, HS⟩ := hrel
    by_cases hk3 : k < 3
    · have hkb : (k : Int) < 3 := by omega
      have hno := Lib.hid (aw_no k hk3)
      have hfd : ∀ w', (Instr.field 36 (.agg #[.bool false, .bool false, .int .i64 0]) 0).run Try.prog w' = .ok (.bool false) w' := fun w' => rfl
      go_wp2_with (first
        | (go_at_call 22; rw [← hB0.out]; refine (HS.out.step_is (i := 0) (aw_good k) (.inl rfl) (by decide) (by decide) (by omega) (A' := aw (k + 1)) (dn := false) (fl := false) (s := 0) rfl (by rw [hno.out]; rfl) (by rw [hno.out]; rfl) (by rw [hno.out]; rfl)).mono ?_; rw [hB0.out]; rintro en w5 ⟨rfl, h5, t5⟩
           have S5 := Lib.hid h5
           clear h5 t5)
        | fail)
      refine ⟨⟨k + 1, by rw [Int.natCast_add]; rfl, by omega, S5⟩, ?_⟩
      show 3 - ((k : Int) + 1).toNat < 3 - ((k : Int)).toNat
      omega
    · obtain rfl : k = 3 := by omega
      obtain ⟨t, ht⟩ : ∃ t, t = tx ⟨0, 1, ⟨#[97]⟩⟩ := ⟨_, rfl⟩
      have et : (t.toList == t.toList) = true := beq_self_eq_true _
      have HT := Lib.hid ht
      have htx : ∀ V, Hid (Calls Try.prog 19 #[.agg #[.int .i64 0, .int .i64 1, .string ⟨#[97]⟩]] V (ret1 (.string t) V)) := fun V => by rw [ht]; exact Lib.hid (text_calls ⟨0, 1, ⟨#[97]⟩⟩ V ⟨by decide, by decide, by decide⟩)
      clear ht
      go_wp2_with (first
        | (go_at_call 22; rw [← hB0.out]; refine (HS.out.step_is (i := 0) (aw_good 3) (.inl rfl) (by decide) (by decide) (by omega) (A' := aw 4) (dn := true) (fl := false) (s := 0) rfl (by rw [aw_end]) (by rw [aw_end]) (by rw [aw_end]; rfl)).mono ?_; rw [hB0.out]; rintro en w5 ⟨rfl, h5, t5⟩
           have S5 := Lib.hid h5
           have S5' := Lib.hid (h5.below (box_below w5 (.cells #[.bool true, .bool false, .int .i64 0] 36)))
           clear h5 t5)
        | (go_at_call 20; rw [← hB0.out]; refine (S5'.out.idle (i := 0) (.inl rfl)).mono ?_; rw [hB0.out, decide_eq_true aw_idle]; rintro en w6 ⟨rfl, rfl⟩)
        | (go_at_call 17; refine (S5'.out.look 1 (by decide) t (by rw [HT.out]; exact (cellT_slot 1 (aw 4) 0).trans (by rw [aw_slot]; rfl))).mono ?_; rintro en w7 ⟨rfl, rfl⟩)
        | (go_at_call 19; refine (htx _).out.mono ?_; rintro en w8 ⟨rfl, b8⟩
           have S8 := Lib.hid (S5'.out.below b8)
           clear b8)
        | fail)
      go_ret
      exact ⟨rfl, S8.out.ends⟩
end Go.Proofs.Ytlbpephbigikcab.prc
