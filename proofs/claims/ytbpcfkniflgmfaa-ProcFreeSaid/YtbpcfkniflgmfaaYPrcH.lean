/- proc: Step, reading, deciding, at the head, idle. -/
import Derived.Test.YtbpcfkniflgmfaaYPrcF
namespace Go.Proofs.Ytbpcfkniflgmfaa.prc
open Go Go.RowKit Go.Maps

section
variable {w V0 V V' : World} {d c m P L K b i : Nat} {A : Ab} {x : Px}


theorem bytes_nil {t : ByteArray} (h : t ≠ ⟨#[]⟩) : (t.toList == []) = false ∧ ¬ t.toList = [] ∧ (t.toList != []) = true := by
  have h1 := bytes_ne h
  have e0 : (⟨#[]⟩ : ByteArray).toList = [] := by simp [ByteArray.toList_eq]
  rw [e0] at h1
  refine ⟨h1, fun e => ?_, ?_⟩
  · rw [e] at h1; cases h1
  · rw [bne, h1]; rfl

set_option maxRecDepth 100000 in
set_option maxHeartbeats 2000000 in
theorem step_0 (h : Pr V0 b x) (hM : Mm w d c m P L A K V0) (hlo : w.heap.size ≤ b) (hn : x.next = 0) :
    Calls Try.prog 16 #[.pointer (some ⟨b, 0, none⟩), .pointer (some ⟨d, 0, none⟩)] V0 (StepPost w d c m P L A K b x false false 0 V0) := by
  have S0 := Lib.hid (sx_start h hM hlo)
  have hb : b < V0.heap.size := Has.lt h
  have c4 : V0.cell? ⟨b, 4, none⟩ = some (.int .i64 0) := by rw [← hn]; exact h.c4
  clear h hM hn
  go_enter Try.func16, Try.ntmps16
  go_wp2_with fail
  exact bodyPost_ret (res_end rfl _ _ V0.heap.size false false 0 rfl S0.out.e) rfl ⟨rfl, S0.out.pr, S0.out.mm, S0.out.turn⟩

set_option maxRecDepth 100000 in
set_option maxHeartbeats 2000000 in
theorem step_2_none (h : Pr V0 b x) (hM : Mm w d c m P L A K V0) (hlo : w.heap.size ≤ b) (hn : x.next = 2) (hi : x.who = i) (h63 : i ≤ 63) (hpr : x.procs = P) (hP : P ≤ 64) (hLb : L ≤ 256) (hK : K ≤ 900000) (k : Nat) (hk : k < L) (hs : x.seen = k) (hS : A.S k = none) :
    Calls Try.prog 16 #[.pointer (some ⟨b, 0, none⟩), .pointer (some ⟨d, 0, none⟩)] V0 (StepPost w d c m P L A (K + 1) b { x with next := 3 } false false 0 V0) := by
  have S0 := Lib.hid (sx_start h hM hlo)
  have hb : b < V0.heap.size := Has.lt h
  have c4 : V0.cell? ⟨b, 4, none⟩ = some (.int .i64 2) := by rw [← hn]; exact h.c4
  have ht : cellT P A (P + k) = ⟨#[]⟩ := by rw [cellT_slot, hS]; rfl
  have hsl : ∀ V, Pr V b x → Calls Try.prog 52 #[.pointer (some ⟨b, 0, none⟩)] V (ret1 (.int .i64 ((P + k : Nat) : Int)) V) := fun V hV => by
    have := slot_calls (w := V) hV (by rw [hpr]; omega) (by rw [hpr]; omega) (by rw [hs]; omega) (by rw [hs]; omega)
    rw [hpr, hs, show (P : Int) + (k : Int) = ((P + k : Nat) : Int) by omega] at this
    exact this
  have HSL := Lib.hid hsl
  have HR := Lib.hid (And.intro hi (And.intro h63 (And.intro hK (And.intro (show P + k < P + L by omega) ht))))
  clear h hM hn hsl ht hi h63 hK hk hs hS hpr hP hLb
  go_enter Try.func16, Try.ntmps16
  go_wp2_with (first
    | (go_at_call 52; refine (HSL.out _ S0.out.pr).mono ?_; rintro en w1 ⟨rfl, b1⟩
       have S1 := Lib.hid (S0.out.below b1)
       clear b1)
    | (go_at_call 51; refine (read_calls S1.out.pr S1.out.mm HR.out.1 HR.out.2.1 HR.out.2.2.1 (P + k) HR.out.2.2.2.1 ⟨#[]⟩ HR.out.2.2.2.2).mono ?_; rintro en w2 ⟨rfl, p2, m2, t2⟩
       have S2 := Lib.hid (S1.out.access p2 m2 t2)
       have c4 := p2.c4
       have f4 := p2.free 4
       have P3 := Lib.hid (p2.putNext 3)
       have hb2 : b < w2.heap.size := Has.lt p2
       obtain ⟨k0, k1, k2, z0, z1, z2⟩ := endAt S2.out.e
       clear p2 m2 t2)
    | fail)
  have S3 := S2.out.own P3.out ((Turn.refl (fun j => j = b) w2).put (fun _ => rfl) 4 _)
  exact step_done S3 rfl rfl rfl

/-- What slot and read give at the first slot that it hasn't seen decided. -/
theorem slot_at (hpr : x.procs = P) (hP : P ≤ 64) (hLb : L ≤ 256) (k : Nat) (hk : k < L) (hs : x.seen = k) (V : World) (hV : Pr V b x) : Calls Try.prog 52 #[.pointer (some ⟨b, 0, none⟩)] V (ret1 (.int .i64 ((P + k : Nat) : Int)) V) := by
  have := slot_calls (w := V) hV (by rw [hpr]; omega) (by rw [hpr]; omega) (by rw [hs]; omega) (by rw [hs]; omega)
  rw [hpr, hs, show (P : Int) + (k : Int) = ((P + k : Nat) : Int) by omega] at this
  exact this

set_option maxRecDepth 100000 in
set_option maxHeartbeats 2000000 in
theorem step_2_some (h : Pr V0 b x) (hM : Mm w d c m P L A K V0) (hlo : w.heap.size ≤ b) (hn : x.next = 2) (hi : x.who = i) (h63 : i ≤ 63) (hpr : x.procs = P) (hP : P ≤ 64) (hLb : L ≤ 256) (hK : K ≤ 900000) (k : Nat) (hk : k < L) (hs : x.seen = k) (r : Rc) (hr : r.Fits) (hS : A.S k = some r) :
    Calls Try.prog 16 #[.pointer (some ⟨b, 0, none⟩), .pointer (some ⟨d, 0, none⟩)] V0 (StepPost w d c m P L A (K + 1) b (decX x r) (decD x r) (decF x r) (decS x r) V0) := by
  have S0 := Lib.hid (sx_start h hM hlo)
  have hb : b < V0.heap.size := Has.lt h
  have c4 : V0.cell? ⟨b, 4, none⟩ = some (.int .i64 2) := by rw [← hn]; exact h.c4
  have ht : cellT P A (P + k) = tx r := by rw [cellT_slot, hS]; rfl
  have HSL := Lib.hid (slot_at (b := b) hpr hP hLb k hk hs)
  have hse : 0 ≤ x.seen ∧ x.seen ≤ 1000 := by rw [hs]; omega
  obtain ⟨t, htr⟩ : ∃ t, t = tx r := ⟨_, rfl⟩
  rw [← htr] at ht
  have HTR := Lib.hid htr
  have hne0 : t ≠ ⟨#[]⟩ := by rw [htr]; exact tx_ne r
  have hne : (t.toList == (⟨#[]⟩ : ByteArray).toList) = false := bytes_ne hne0
  obtain ⟨hne2, hne3, hne4⟩ := bytes_nil hne0
  have HR := Lib.hid (And.intro hi (And.intro h63 (And.intro hK (And.intro (show P + k < P + L by omega) ht))))
  have HD := Lib.hid (And.intro hr hse)
  obtain ⟨q1, e1⟩ : ∃ q, q = decD x r := ⟨_, rfl⟩
  obtain ⟨q2, e2⟩ : ∃ q, q = decF x r := ⟨_, rfl⟩
  obtain ⟨q3, e3⟩ : ∃ q, q = decS x r := ⟨_, rfl⟩
  rw [← e1, ← e2, ← e3]
  have HQ := Lib.hid (And.intro e1 (And.intro e2 e3))
  clear h hM hn ht hi h63 hK hk hs hS hpr hP hLb htr hr hse e1 e2 e3
  go_enter Try.func16, Try.ntmps16
  go_wp2_with (first
    | (go_at_call 52; refine (HSL.out _ S0.out.pr).mono ?_; rintro en w1 ⟨rfl, b1⟩
       have S1 := Lib.hid (S0.out.below b1)
       clear b1)
    | (go_at_call 51; refine (read_calls S1.out.pr S1.out.mm HR.out.1 HR.out.2.1 HR.out.2.2.1 (P + k) HR.out.2.2.2.1 t HR.out.2.2.2.2).mono ?_; rintro en w2 ⟨rfl, p2, m2, t2⟩
       have S2 := Lib.hid (S1.out.access p2 m2 t2)
       have DD := Lib.hid (decided_calls p2 r HD.out.1 HD.out.2.1 HD.out.2.2)
       rw [← HTR.out] at DD
       clear p2 m2 t2)
    | (go_at_call 53; refine DD.out.mono ?_; unfold DecPost; rw [← HQ.out.1, ← HQ.out.2.1, ← HQ.out.2.2]; rintro en w3 ⟨rfl, p3, t3⟩
       have S3 := Lib.hid (S2.out.own p3 t3)
       obtain ⟨k0, k1, k2, z0, z1, z2⟩ := endAt S3.out.e
       clear p3 t3)
    | fail)
  exact step_done S3.out rfl rfl rfl

set_option maxRecDepth 100000 in
set_option maxHeartbeats 2000000 in
theorem step_4 (h : Pr V0 b x) (hM : Mm w d c m P L A K V0) (hlo : w.heap.size ≤ b) (hn : x.next = 4) (hi : x.who = i) (h63 : i ≤ 63) (hpr : x.procs = P) (hP : P ≤ 64) (hLb : L ≤ 256) (hK : K ≤ 900000) (k : Nat) (hk : k < L) (hs : x.seen = k) (o : Rc) (ho : x.offer = tx o) (hr : (swR A k o).Fits) :
    Calls Try.prog 16 #[.pointer (some ⟨b, 0, none⟩), .pointer (some ⟨d, 0, none⟩)] V0 (StepPost w d c m P L (swA A k o) (K + 1) b (decX x (swR A k o)) (decD x (swR A k o)) (decF x (swR A k o)) (decS x (swR A k o)) V0) := by
  have S0 := Lib.hid (sx_start h hM hlo)
  have hb : b < V0.heap.size := Has.lt h
  have c4 : V0.cell? ⟨b, 4, none⟩ = some (.int .i64 4) := by rw [← hn]; exact h.c4
  have hse : 0 ≤ x.seen ∧ x.seen ≤ 1000 := by rw [hs]; omega
  have HSW := Lib.hid (swap_calls S0.out.pr S0.out.mm hi h63 hK k hk hpr hs hP hLb o ho)
  obtain ⟨r, hrr⟩ : ∃ r, r = swR A k o := ⟨_, rfl⟩
  rw [← hrr] at hr HSW ⊢
  obtain ⟨t, htr⟩ : ∃ t, t = tx r := ⟨_, rfl⟩
  unfold SwapPost at HSW
  rw [← htr] at HSW
  have HTR := Lib.hid htr
  have HD := Lib.hid (And.intro hr hse)
  obtain ⟨q1, e1⟩ : ∃ q, q = decD x r := ⟨_, rfl⟩
  obtain ⟨q2, e2⟩ : ∃ q, q = decF x r := ⟨_, rfl⟩
  obtain ⟨q3, e3⟩ : ∃ q, q = decS x r := ⟨_, rfl⟩
  rw [← e1, ← e2, ← e3]
  have HQ := Lib.hid (And.intro e1 (And.intro e2 e3))
  clear h hM hn hi h63 hK hk hs hpr hP hLb htr hr hse e1 e2 e3 ho hrr
  go_enter Try.func16, Try.ntmps16
  go_wp2_with (first
    | (go_at_call 56; refine HSW.out.mono ?_; rintro en w2 ⟨rfl, p2, m2, t2⟩
       have S2 := Lib.hid (S0.out.access p2 m2 t2)
       have DD := Lib.hid (decided_calls p2 r HD.out.1 HD.out.2.1 HD.out.2.2)
       rw [← HTR.out] at DD
       clear p2 m2 t2)
    | (go_at_call 53; refine DD.out.mono ?_; unfold DecPost; rw [← HQ.out.1, ← HQ.out.2.1, ← HQ.out.2.2]; rintro en w3 ⟨rfl, p3, t3⟩
       have S3 := Lib.hid (S2.out.own p3 t3)
       obtain ⟨k0, k1, k2, z0, z1, z2⟩ := endAt S3.out.e
       clear p3 t3)
    | fail)
  exact step_done S3.out rfl rfl rfl

set_option maxRecDepth 100000 in
set_option maxHeartbeats 2000000 in
theorem step_5_none (h : Pr V0 b x) (hM : Mm w d c m P L A K V0) (hlo : w.heap.size ≤ b) (hn : x.next = 5) (hi : x.who = i) (h63 : i ≤ 63) (hpr : x.procs = P) (hP : P ≤ 64) (hLb : L ≤ 256) (hK : K ≤ 900000) (k : Nat) (hk : k < L) (hs : x.seen = k) (hS : A.S k = none) :
    Calls Try.prog 16 #[.pointer (some ⟨b, 0, none⟩), .pointer (some ⟨d, 0, none⟩)] V0 (StepPost w d c m P L A (K + 1) b x.idle true false k V0) := by
  have S0 := Lib.hid (sx_start h hM hlo)
  have hb : b < V0.heap.size := Has.lt h
  have c4 : V0.cell? ⟨b, 4, none⟩ = some (.int .i64 5) := by rw [← hn]; exact h.c4
  have ht : cellT P A (P + k) = ⟨#[]⟩ := by rw [cellT_slot, hS]; rfl
  have HSL := Lib.hid (slot_at (b := b) hpr hP hLb k hk hs)
  have HR := Lib.hid (And.intro hi (And.intro h63 (And.intro hK (And.intro (show P + k < P + L by omega) ht))))
  have HS := Lib.hid hs
  clear h hM hn ht hi h63 hK hk hs hS hpr hP hLb
  go_enter Try.func16, Try.ntmps16
  go_wp2_with (first
    | (go_at_call 52; refine (HSL.out _ S0.out.pr).mono ?_; rintro en w1 ⟨rfl, b1⟩
       have S1 := Lib.hid (S0.out.below b1)
       clear b1)
    | (go_at_call 51; refine (read_calls S1.out.pr S1.out.mm HR.out.1 HR.out.2.1 HR.out.2.2.1 (P + k) HR.out.2.2.2.1 ⟨#[]⟩ HR.out.2.2.2.2).mono ?_; rintro en w2 ⟨rfl, p2, m2, t2⟩
       have S2 := Lib.hid (S1.out.access p2 m2 t2)
       have c5 : w2.cell? ⟨b, 5, none⟩ = some (.int .i64 k) := by rw [← HS.out]; exact p2.c5
       clear p2 m2 t2)
    | (go_at_call 57; refine (done_calls S2.out.pr false false k).mono ?_; rintro en w3 ⟨rfl, p3, t3⟩
       have S3 := Lib.hid (S2.out.own p3 t3)
       obtain ⟨k0, k1, k2, z0, z1, z2⟩ := endAt S3.out.e
       clear p3 t3)
    | fail)
  exact step_done S3.out rfl rfl rfl

set_option maxRecDepth 100000 in
set_option maxHeartbeats 2000000 in
theorem step_5_some (h : Pr V0 b x) (hM : Mm w d c m P L A K V0) (hlo : w.heap.size ≤ b) (hn : x.next = 5) (hi : x.who = i) (h63 : i ≤ 63) (hpr : x.procs = P) (hP : P ≤ 64) (hLb : L ≤ 256) (hK : K ≤ 900000) (k : Nat) (hk : k < L) (hs : x.seen = k) (r : Rc) (hr : r.Fits) (hS : A.S k = some r) :
    Calls Try.prog 16 #[.pointer (some ⟨b, 0, none⟩), .pointer (some ⟨d, 0, none⟩)] V0 (StepPost w d c m P L A (K + 1) b (toHeadX (seeX x r)) false false 0 V0) := by
  have S0 := Lib.hid (sx_start h hM hlo)
  have hb : b < V0.heap.size := Has.lt h
  have c4 : V0.cell? ⟨b, 4, none⟩ = some (.int .i64 5) := by rw [← hn]; exact h.c4
  have ht : cellT P A (P + k) = tx r := by rw [cellT_slot, hS]; rfl
  have HSL := Lib.hid (slot_at (b := b) hpr hP hLb k hk hs)
  have hse : 0 ≤ x.seen ∧ x.seen ≤ 1000 := by rw [hs]; omega
  obtain ⟨t, htr⟩ : ∃ t, t = tx r := ⟨_, rfl⟩
  rw [← htr] at ht
  have HTR := Lib.hid htr
  have hne0 : t ≠ ⟨#[]⟩ := by rw [htr]; exact tx_ne r
  have hne : (t.toList == (⟨#[]⟩ : ByteArray).toList) = false := bytes_ne hne0
  obtain ⟨hne2, hne3, hne4⟩ := bytes_nil hne0
  have HR := Lib.hid (And.intro hi (And.intro h63 (And.intro hK (And.intro (show P + k < P + L by omega) ht))))
  have HD := Lib.hid (And.intro hr hse)
  clear h hM hn ht hi h63 hK hk hs hS hpr hP hLb htr hr hse
  go_enter Try.func16, Try.ntmps16
  go_wp2_with (first
    | (go_at_call 52; refine (HSL.out _ S0.out.pr).mono ?_; rintro en w1 ⟨rfl, b1⟩
       have S1 := Lib.hid (S0.out.below b1)
       clear b1)
    | (go_at_call 51; refine (read_calls S1.out.pr S1.out.mm HR.out.1 HR.out.2.1 HR.out.2.2.1 (P + k) HR.out.2.2.2.1 t HR.out.2.2.2.2).mono ?_; rintro en w2 ⟨rfl, p2, m2, t2⟩
       have S2 := Lib.hid (S1.out.access p2 m2 t2)
       have DD := Lib.hid (see_calls p2 r HD.out.1 HD.out.2.1 HD.out.2.2)
       rw [← HTR.out] at DD
       clear p2 m2 t2)
    | (go_at_call 58; refine DD.out.mono ?_; rintro en w3 ⟨rfl, p3, t3⟩
       have S3 := Lib.hid (S2.out.own p3 t3)
       clear p3 t3)
    | (go_at_call 59; refine (toHead_calls S3.out.pr).mono ?_; rintro en w4 ⟨rfl, p4, t4⟩
       have S4 := Lib.hid (S3.out.own p4 t4)
       obtain ⟨k0, k1, k2, z0, z1, z2⟩ := endAt S4.out.e
       clear p4 t4)
    | fail)
  exact step_done S4.out rfl rfl rfl

end
end Go.Proofs.Ytbpcfkniflgmfaa.prc
