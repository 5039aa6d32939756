/- tree: row.first; Clone. -/
import Derived.Test.YtplidcgoclebcaaDoorTreeR
import Derived.Test.YtplidcgoclebcaaDoorTreeH
namespace Go.Proofs.YtplidcgoclebcaaDoor.dig
open Go Go.RowKit

/-- A row was answered, in new memory: of the first x. -/
def FirstPost (w : World) (g x : Nat) (f : Nat → List UInt8) (j : Nat) (en : Ending) (w' : World) : Prop :=
  ∃ y, en = .returned (.agg #[.int .i64 g, y, .int .i64 0]) ∧ Seg w' 32 32 y (x - g) (flat (nodeC f j) g (x - g)) ∧ (∀ b, y.ownBlock = some b → w.heap.size ≤ b) ∧ Below w.heap.size w w'

set_option maxRecDepth 100000 in
set_option maxHeartbeats 2000000 in
theorem first_calls (R o j g c x : Nat) (v : Value) (f : Nat → List UInt8) (w : World) (k0 : w.cell? ⟨R, o, none⟩ = some (.int .i64 g)) (k1 : w.cell? ⟨R, o + 1, none⟩ = some v) (hR : R < w.heap.size)
    (hs : Seg w 32 32 v (c - g) (flat (nodeC f j) g (c - g))) (hg : g ≤ x) (hx : x ≤ c) (hc : c ≤ 1000000) (hlen : ∀ i, (f i).length = 32) :
    Calls Tryd.prog 45 #[.pointer (some ⟨R, o, none⟩), .int .i64 x] w (FirstPost w g x f j) := by
  obtain ⟨a, cc, hv, hc1, hc2⟩ := hs.slice
  subst hv
  have hfr : Seg w 32 32 (.slice a (x - g) cc) (x - g) (flat (nodeC f j) g (x - g)) := by
    rcases hs.2 with ⟨h1, h2⟩ | ⟨gg, off, cap, cur, h1, h2, h3, h4, h5, h6⟩
    · simp only [Value.slice.injEq] at h1
      obtain ⟨rfl, h3, rfl⟩ := h1
      rw [show x - g = 0 by omega]
      exact Seg.nil _ _ _
    · simp only [Value.slice.injEq] at h1
      obtain ⟨rfl, _, rfl⟩ := h1
      refine ⟨flat_len (fun i _ _ => nodeC_len hlen j i), .inr ⟨gg, off, cc, cur, rfl, h2, by omega, h4, h5, ?_⟩⟩
      rw [← flat_take (k := c - g) (fun i _ _ => nodeC_len hlen j i) (show x - g ≤ c - g by omega), ← h6, List.take_take]
      congr 1
      have : (x - g) * 32 ≤ (c - g) * 32 := Nat.mul_le_mul_right _ (by omega)
      omega
  obtain ⟨d, hd⟩ : ∃ d, d = x - g := ⟨_, rfl⟩
  obtain ⟨m, hm⟩ : ∃ m, m = c - g := ⟨_, rfl⟩
  have hd1 : (x : Int) - (g : Int) = (d : Int) := by omega
  have hdm : (d : Int) ≤ (m : Int) := by omega
  have hd0 : (0 : Int) ≤ (d : Int) := by omega
  have hm6 : m ≤ 1000000 := by omega
  have hd6 : (d : Int) ≤ 1000000 := by omega
  have i0 : IntKind.i64.wrap (d : Int) = (d : Int) := IntWalk.i64_in _ ⟨by omega, by omega⟩
  have hmc : (m : Int) ≤ (cc : Int) := by omega
  have hcc6 : (cc : Int) ≤ 9223372036854775807 := by unfold maxLen at hc2; omega
  have hdc : (d : Int) ≤ (cc : Int) := by omega
  unfold FirstPost
  rw [← hd] at hfr ⊢
  rw [← hm] at k1
  have HS := Lib.hid hfr
  have HD := Lib.hid (show _ ∧ _ from ⟨hd, hm⟩)
  clear hs hfr hd hm hc1 hc2 hg hx
  go_enter Tryd.func45, Tryd.ntmps45
  go_wp2_with fail
  go_name_world W hW
  have B0 : Below w.heap.size w W := by rw [← hW]; exact (Below.refl _ _).alloc (Nat.le_refl _) _
  have Z0 : Has W w.heap.size 74 #[.int .i64 0, .slice none 0 0, .int .i64 0] := by rw [← hW]; exact made_at _ _ rfl
  have hs0 : W.heap.size = w.heap.size + 1 := by rw [← hW]; simp
  have d0 : W.cell? ⟨R, o, none⟩ = some (.int .i64 g) := by rw [← k0]; unfold World.cell?; rw [B0.block R hR]
  have d1 : W.cell? ⟨R, o + 1, none⟩ = some (.slice a m cc) := by rw [← k1]; unfold World.cell?; rw [B0.block R hR]
  have hc5 := copied_calls (.slice a d cc) d _ W.drew ((HS.out.below B0 (fun x hx => HS.out.lt hx)).drew) sum_one (by omega)
  have HC := Lib.hid hc5
  have HB := Lib.hid (show _ ∧ _ from ⟨B0, Z0⟩)
  have hRW : R < W.heap.size := by omega
  clear hW k0 k1 hc5 B0 Z0
  go_region_law (refine step_call rfl 61 Tryd.f61 Tryd.func61 (by kernel_rfl) (by kernel_rfl) _ _ rfl #[.slice a d cc] (by first | (simp [Act.eval]; done) | (simp [Act.eval, Act.put]; done)) (by exact HC.out) ?_
                 rintro en w5 ⟨y, rfl, s5, o5, b5⟩
                 obtain ⟨ya, yc, rfl, _, _⟩ := s5.slice
                 have k5 : w5.cell? ⟨R, o, none⟩ = some (.int .i64 g) := by rw [← d0]; unfold World.cell?; rw [b5.block R hRW]; rfl
                 have Z5 : Has w5 w.heap.size 74 #[.int .i64 0, .slice none 0 0, .int .i64 0] := (HB.out.2.drew).below b5 (by show w.heap.size < W.heap.size; omega)
                 have z0 := Z5.cell 0
                 have z1 := Z5.cell 1
                 have z2 := Z5.cell 2
                 have zf := Z5.free
                 simp at z0 z1 z2
                 have S5 := Lib.hid (show _ ∧ _ ∧ _ ∧ _ from ⟨s5, o5, b5, Z5⟩)
                 clear s5 o5 b5 Z5
                 refine ⟨_, rfl, ?_⟩)
  all_goals
    have T0 : Turn (fun k => w.heap.size ≤ k) w w5 := (Turn.of_below (F := fun k => w.heap.size ≤ k) HB.out.1 (fun _ _ h => h)).drew.trans (Turn.of_below (F := fun k => W.heap.size ≤ k) S5.out.2.2.1 (fun _ _ h => h)) (fun k h1 h2 => by omega)
    have T7 := ((T0.put (b := w.heap.size) (fun _ => Nat.le_refl _) 0 (.int .i64 g)).put (b := w.heap.size) (fun _ => Nat.le_refl _) 1 (.slice ya d yc)).put (b := w.heap.size) (fun _ => Nat.le_refl _) 2 (.int .i64 0)
    have hown : ∀ x, (Value.slice ya d yc).ownBlock = some x → W.heap.size ≤ x := fun x hx => S5.out.2.1 x hx
    have hne : (Value.slice ya d yc).ownBlock ≠ some w.heap.size := fun e => by have := hown _ e; omega
    have s7 := Seg.far (Seg.far (Seg.far S5.out.1 (p := ⟨w.heap.size, 0, none⟩) hne (.int .i64 g)) (p := ⟨w.heap.size, 1, none⟩) hne (.slice ya d yc)) (p := ⟨w.heap.size, 2, none⟩) hne (.int .i64 0)
    have Z7 : Has _ w.heap.size 74 #[.int .i64 g, .slice ya d yc, .int .i64 0] := ((S5.out.2.2.2.put 0 (.int .i64 g)).put 1 (.slice ya d yc)).put 2 (.int .i64 0)
    have N := Lib.hid (show _ ∧ _ ∧ _ from ⟨s7, T7, Z7⟩)
    generalize ((w5.setCell ⟨w.heap.size, 0, none⟩ (.int .i64 g)).setCell ⟨w.heap.size, 1, none⟩ (.slice ya d yc)).setCell ⟨w.heap.size, 2, none⟩ (.int .i64 0) = W7 at N ⊢
    clear T0 T7 s7 Z7 z0 z1 z2 zf k5 hne d0 d1 hs0
    have y0 := N.out.2.2.cell 0
    have y1 := N.out.2.2.cell 1
    have y2 := N.out.2.2.cell 2
    simp at y0 y1 y2
    go_wp2_with fail
    refine bodyPost_ret (v := .agg #[.int .i64 g, .slice ya d yc, .int .i64 0]) (by simp [results, Tryd.results45, go_sem, y0, y1, y2]) rfl ?_
    exact ⟨_, rfl, N.out.1, fun x hx => Nat.le_trans HB.out.1.size (hown x hx), N.out.2.1.below (Nat.le_refl _) (fun k hk h => by omega)⟩
end Go.Proofs.YtplidcgoclebcaaDoor.dig
