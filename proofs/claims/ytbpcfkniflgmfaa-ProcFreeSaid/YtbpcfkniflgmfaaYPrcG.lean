/- proc: Step, wishing. -/
import Derived.Test.YtbpcfkniflgmfaaYPrcF
namespace Go.Proofs.Ytbpcfkniflgmfaa.prc
open Go Go.RowKit Go.Maps

section
variable {w V0 V V' : World} {d c m P L K b i : Nat} {A : Ab} {x : Px}

/-- It writes its record into its wish. -/
def wiA (A : Ab) (i : Nat) (r : Rc) : Ab := { A with W := up A.W i (some r) }

set_option maxRecDepth 100000 in
set_option maxHeartbeats 4000000 in
theorem step_1 (h : Pr V0 b x) (hM : Mm w d c m P L A K V0) (hlo : w.heap.size ≤ b) (hn : x.next = 1) (hi : x.who = i) (hiP : i < P) (hP : P ≤ 64) (hK : K ≤ 900000) (r : Rc) (ho : x.own = tx r) :
    Calls Try.prog 16 #[.pointer (some ⟨b, 0, none⟩), .pointer (some ⟨d, 0, none⟩)] V0 (StepPost w d c m P L (wiA A i r) (K + 1) b (toSlotX x) (decide (x.slots ≤ x.seen)) (decide (x.slots ≤ x.seen)) 0 V0) := by
  have S0 := Lib.hid (sx_start h hM hlo)
  have hb : b < V0.heap.size := Has.lt h
  have c4 : V0.cell? ⟨b, 4, none⟩ = some (.int .i64 1) := by rw [← hn]; exact h.c4
  have c0 := h.c0
  have c1 := h.c1
  have c2 : V0.cell? ⟨b, 2, none⟩ = some (.int .i64 i) := by rw [← hi]; exact h.c2
  have c70 : V0.cell? ⟨b, 70, none⟩ = some (.string (tx r)) := by rw [← ho]; exact h.c70
  have HI := Lib.hid hi
  have HO := Lib.hid ho
  obtain ⟨dd, hdd⟩ : ∃ dd, dd = decide (x.slots ≤ x.seen) := ⟨_, rfl⟩
  rw [← hdd]
  have HDD := Lib.hid hdd
  have hcall : ∀ V', Mm w d c m P L A K V' → Calls Try.prog 48 #[.pointer (some ⟨d, 0, none⟩), .int .i64 i, .agg #[.int .i64 2, .int .i64 i, .string ⟨#[]⟩, .string (tx r)]] V' (fun en w' => (∃ t, en = .returned (.tuple #[.string t, .bool true, .int .i64 0])) ∧ Mm w d c m P L (wiA A i r) (K + 1) w' ∧ Turn (Mb d c m) V' w') := fun V' hM' => by
    obtain ⟨D, a, h1, h2⟩ := hM'
    refine (h1.do_turn (i : Int) 2 i ⟨#[]⟩ (tx r) (by omega) (by decide) (by decide) (fits_who (by omega)) (by omega) _ rfl true rfl (cellT P (wiA A i r)) ?_ (cellN P (wiA A i r)) ?_).mono ?_
    · rw [show ∀ t, cel.aftT 2 t ⟨#[]⟩ (tx r) = tx r from fun _ => rfl]
      exact cellT_setW A hiP r
    · rw [show cel.aftN 2 (cellT P A i) ⟨#[]⟩ (cellN P A i) = cellN P A i from if_neg (fun e => absurd e.1 (by decide)), cel.upd_self]
      rfl
    · rintro en w' ⟨rfl, h3, h4⟩
      exact ⟨⟨_, rfl⟩, ⟨_, _, h3, by omega⟩, h4⟩
  have HC := Lib.hid hcall
  clear h hM hn hi ho hdd hcall
  go_enter Try.func16, Try.ntmps16
  go_wp2_with fail
  go_region_law (first
    | (refine step_call rfl 49 Try.f49 Try.func49 (by kernel_rfl) (by kernel_rfl) _ _ rfl #[.agg #[.int .i64 x.procs, .int .i64 x.slots], .int .i64 i] (by first | (simp [Act.eval]; done) | (simp [Act.put]; done)) (wishP_calls x.procs x.slots i _) ?_
       rintro en w2 ⟨rfl, b2⟩
       have S2 := Lib.hid (S0.out.drew.below b2)
       have d2 : w2.cell? ⟨b, 2, none⟩ = some (.int .i64 i) := by rw [← HI.out]; exact S2.out.pr.c2
       have d70 : w2.cell? ⟨b, 70, none⟩ = some (.string (tx r)) := by rw [← HO.out]; exact S2.out.pr.c70
       clear b2
       refine ⟨_, rfl, ?_⟩)
    | (refine step_call rfl 48 Try.f48 Try.func48 (by kernel_rfl) (by kernel_rfl) _ _ rfl #[.pointer (some ⟨d, 0, none⟩), .int .i64 i, .agg #[.int .i64 2, .int .i64 i, .string ⟨#[]⟩, .string (tx r)]] (by first | (simp [Act.eval]; done) | (simp [Act.eval, Act.put]; done)) (by exact HC.out w2 S2.out.mm) ?_
       rintro en w3 ⟨⟨t, rfl⟩, m3, t3⟩
       have S3 := Lib.hid (S2.out.access (S2.out.pr.turn t3 (S2.out.pr.apart S2.out.mm)) m3 t3)
       clear m3 t3 d2 d70
       refine ⟨_, rfl, ?_⟩))
  all_goals
    go_wp2_with (first
      | (go_at_call 50; refine (toSlot_calls S3.out.pr).mono ?_; unfold ToSlotPost; rw [← HDD.out]; rintro en w4 ⟨rfl, h4, t4⟩
         have S4 := Lib.hid (S3.out.own h4 t4)
         obtain ⟨k0, k1, k2, z0, z1, z2⟩ := endAt S4.out.e
         clear h4 t4)
      | fail)
    exact step_done S4.out rfl rfl rfl

end
end Go.Proofs.Ytbpcfkniflgmfaa.prc
