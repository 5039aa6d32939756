/- proc: Step, at the end, helping. -/
import Derived.Test.YtbpcfkniflgmfaaYPrcF
namespace Go.Proofs.Ytbpcfkniflgmfaa.prc
open Go Go.RowKit Go.Maps

section
variable {w V0 V V' : World} {d c m P L K b i : Nat} {A : Ab} {x : Px}

set_option maxRecDepth 100000 in
set_option maxHeartbeats 4000000 in
theorem step_6 (h : Pr V0 b x) (hM : Mm w d c m P L A K V0) (hlo : w.heap.size ≤ b) (hn : x.next = 6) (hi : x.who = i) (hiP : i < P) (hP : P ≤ 64) (hK : K ≤ 900000) (k : Nat) (hs : x.seen = k) :
    Calls Try.prog 16 #[.pointer (some ⟨b, 0, none⟩), .pointer (some ⟨d, 0, none⟩)] V0 (StepPost w d c m P L A (K + 1) b x.idle true false k V0) := by
  have S0 := Lib.hid (sx_start h hM hlo)
  have hb : b < V0.heap.size := Has.lt h
  have c4 : V0.cell? ⟨b, 4, none⟩ = some (.int .i64 6) := by rw [← hn]; exact h.c4
  have c0 := h.c0
  have c1 := h.c1
  have c2 : V0.cell? ⟨b, 2, none⟩ = some (.int .i64 i) := by rw [← hi]; exact h.c2
  have HI := Lib.hid hi
  have HR := Lib.hid (And.intro (show i ≤ 63 by omega) (And.intro hK (show i < P + L by omega)))
  have HS := Lib.hid hs
  clear h hM hn hi hiP hP hK hs
  go_enter Try.func16, Try.ntmps16
  go_wp2_with fail
  go_region_law (first
    | (refine step_call rfl 49 Try.f49 Try.func49 (by kernel_rfl) (by kernel_rfl) _ _ rfl #[.agg #[.int .i64 x.procs, .int .i64 x.slots], .int .i64 i] (by first | (simp [Act.eval]; done) | (simp [Act.eval, Act.put]; done)) (wishP_calls x.procs x.slots i _) ?_
       rintro en w2 ⟨rfl, b2⟩
       have S2 := Lib.hid (S0.out.drew.below b2)
       have HC := Lib.hid (read_calls S2.out.pr S2.out.mm HI.out HR.out.1 HR.out.2.1 i HR.out.2.2 _ rfl)
       clear b2
       refine ⟨_, rfl, ?_⟩)
    | (refine step_call rfl 51 Try.f51 Try.func51 (by kernel_rfl) (by kernel_rfl) _ _ rfl #[.pointer (some ⟨b, 0, none⟩), .pointer (some ⟨d, 0, none⟩), .int .i64 i] (by first | (simp [Act.eval]; done) | (simp [Act.eval, Act.put]; done)) (by exact HC.out) ?_
       rintro en w3 ⟨rfl, p3, m3, t3⟩
       have S3 := Lib.hid (S2.out.access p3 m3 t3)
       have c5 : w3.cell? ⟨b, 5, none⟩ = some (.int .i64 k) := by rw [← HS.out]; exact p3.c5
       clear p3 m3 t3
       refine ⟨_, rfl, ?_⟩))
  all_goals
    go_wp2_with (first
      | (go_at_call 57; refine (done_calls S3.out.pr false false k).mono ?_; rintro en w4 ⟨rfl, p4, t4⟩
         have S4 := Lib.hid (S3.out.own p4 t4)
         obtain ⟨k0, k1, k2, z0, z1, z2⟩ := endAt S4.out.e
         clear p4 t4)
      | fail)
    exact step_done S4.out rfl rfl rfl

set_option maxRecDepth 100000 in
set_option maxHeartbeats 8000000 in
theorem step_3 (h : Pr V0 b x) (hM : Mm w d c m P L A K V0) (hlo : w.heap.size ≤ b) (hn : x.next = 3) (hi : x.who = i) (h63 : i ≤ 63) (hpr : x.procs = P) (hP1 : 1 ≤ P) (hP : P ≤ 64) (hK : K ≤ 900000) (k : Nat) (hk : k ≤ 1000) (hs : x.seen = k) (hfw : ∀ r, A.W (k % P) = some r → r.Fits) :
    Calls Try.prog 16 #[.pointer (some ⟨b, 0, none⟩), .pointer (some ⟨d, 0, none⟩)] V0 (StepPost w d c m P L A (K + 1) b { ({ x with offer := chooseX x (A.W (k % P)) } : Px) with next := 4 } false false 0 V0) := by
  have S0 := Lib.hid (sx_start h hM hlo)
  have hb : b < V0.heap.size := Has.lt h
  have c4 : V0.cell? ⟨b, 4, none⟩ = some (.int .i64 3) := by rw [← hn]; exact h.c4
  have c0 : V0.cell? ⟨b, 0, none⟩ = some (.int .i64 P) := by rw [← hpr]; exact h.c0
  have c1 := h.c1
  have c5 : V0.cell? ⟨b, 5, none⟩ = some (.int .i64 k) := by rw [← hs]; exact h.c5
  have HI := Lib.hid (And.intro hi (And.intro hpr hs))
  have hm : k % P < P := Nat.mod_lt _ hP1
  obtain ⟨j, hj⟩ : ∃ j, j = k % P := ⟨_, rfl⟩
  have hji : (k : Int) % (P : Int) = (j : Int) := by rw [hj]; rfl
  rw [← hj] at hm hfw ⊢
  have HJ := Lib.hid hji
  have ht : cellT P A j = txo (A.W j) := cellT_wish A hm
  have HR := Lib.hid (And.intro h63 (And.intro hK (And.intro (show j < P + L by omega) ht)))
  have HB := Lib.hid (And.intro (show (1 : Int) ≤ (P : Int) by omega) (And.intro (show (P : Int) ≤ 1000 by omega) hk))
  have HF := Lib.hid hfw
  clear h hM hn hi h63 hpr hP1 hP hK hk hs hfw hm hj hji ht
  go_enter Try.func16, Try.ntmps16
  go_wp2_with fail
  go_region_law (first
    | (refine step_call rfl 55 Try.f55 Try.func55 (by kernel_rfl) (by kernel_rfl) _ _ rfl #[.agg #[.int .i64 P, .int .i64 x.slots], .int .i64 k] (by first | (simp [Act.eval]; done) | (simp [Act.eval, Act.put]; done)) (helpedP_calls P x.slots k _ HB.out.1 HB.out.2.1 HB.out.2.2) ?_
       rw [HJ.out]
       rintro en w2 ⟨rfl, b2⟩
       have S2 := Lib.hid (S0.out.drew.below b2)
       have d0 : w2.cell? ⟨b, 0, none⟩ = some (.int .i64 P) := by rw [← HI.out.2.1]; exact S2.out.pr.c0
       have d1 := S2.out.pr.c1
       clear b2
       refine ⟨_, rfl, ?_⟩)
    | (refine step_call rfl 49 Try.f49 Try.func49 (by kernel_rfl) (by kernel_rfl) _ _ rfl #[.agg #[.int .i64 P, .int .i64 x.slots], .int .i64 j] (by first | (simp [Act.eval]; done) | (simp [Act.eval, Act.put]; done)) (wishP_calls P x.slots j _) ?_
       rintro en w3 ⟨rfl, b3⟩
       have S3 := Lib.hid (S2.out.below b3)
       have HC := Lib.hid (read_calls S3.out.pr S3.out.mm HI.out.1 HR.out.1 HR.out.2.1 j HR.out.2.2.1 _ HR.out.2.2.2)
       clear b3 d0 d1
       refine ⟨_, rfl, ?_⟩)
    | (refine step_call rfl 51 Try.f51 Try.func51 (by kernel_rfl) (by kernel_rfl) _ _ rfl #[.pointer (some ⟨b, 0, none⟩), .pointer (some ⟨d, 0, none⟩), .int .i64 j] (by first | (simp [Act.eval]; done) | (simp [Act.eval, Act.put]; done)) (by exact HC.out) ?_
       rintro en w4 ⟨rfl, p4, m4, t4⟩
       have S4 := Lib.hid (S3.out.access p4 m4 t4)
       have HCH := Lib.hid (choose_calls p4 (A.W j) HF.out)
       clear p4 m4 t4
       refine ⟨_, rfl, ?_⟩)
    | (refine step_call rfl 54 Try.f54 Try.func54 (by kernel_rfl) (by kernel_rfl) _ _ rfl #[.pointer (some ⟨b, 0, none⟩), .string (txo (A.W j))] (by first | (simp [Act.eval]; done) | (simp [Act.eval, Act.put]; done)) (by exact HCH.out) ?_
       rintro en w5 ⟨rfl, b5⟩
       have S5 := Lib.hid (S4.out.below b5)
       have c71 := S5.out.pr.c71
       have f71 := S5.out.pr.free 71
       clear b5
       refine ⟨_, rfl, ?_⟩))
  all_goals
    have S6 := Lib.hid (S5.out.own (S5.out.pr.putOffer (chooseX x (A.W j))) ((Turn.refl (fun j => j = b) w5).put (fun _ => rfl) 71 _))
    clear c71 f71
    generalize w5.setCell ⟨b, 71, none⟩ (.string (chooseX x (A.W j))) = W6 at *
    have e4 : W6.cell? ⟨b, 4, none⟩ = some (.int .i64 x.next) := S6.out.pr.c4
    have g4 := S6.out.pr.free 4
    have P7 := Lib.hid (S6.out.pr.putNext 4)
    have hb6 : b < W6.heap.size := Has.lt S6.out.pr
    obtain ⟨k0, k1, k2, z0, z1, z2⟩ := endAt S6.out.e
    go_wp2_with fail
    exact step_done (S6.out.own P7.out ((Turn.refl (fun j => j = b) W6).put (fun _ => rfl) 4 _)) rfl rfl rfl
end
end Go.Proofs.Ytbpcfkniflgmfaa.prc
