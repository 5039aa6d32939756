/- ledger: what Sum, Inverse give. -/
import Derived.Test.YtfhpcodjmmidhaaLedF
namespace Go.Proofs.Ytfhpcodjmmidhaa
open Go.RowKit Go.Maps Go.Sort

theorem turn_box {w w' : World} (h : Turn (fun k => w.heap.size ≤ k) w w') : Below w.heap.size w w' := h.below (Nat.le_refl _) (fun j hj e => by omega)

section
variable {H : Type}

/-- What is under a name, said by its bytes. -/
def amtL (D : DataW H) (x : List UInt8) : Int := amt D ⟨x.toArray⟩
def sumL (D : DataW H) (l : List (List UInt8)) : Int := (l.map (amtL D)).foldr (· + ·) 0
/-- The sum of all. -/
def sumD (D : DataW H) : Int := sumL D (strKeys D)

theorem sumL_snoc (D : DataW H) (l : List (List UInt8)) (x : List UInt8) : sumL D (l ++ [x]) = sumL D l + amtL D x := by
  unfold sumL
  induction l with
  | nil => simp
  | cons y r ih => simp at ih ⊢; omega

theorem sumL_perm (D : DataW H) {l l' : List (List UInt8)} (h : l.Perm l') : sumL D l = sumL D l' := by
  unfold sumL
  induction h with
  | nil => rfl
  | cons x _ ih => simp at ih ⊢; omega
  | swap x y l => simp; omega
  | trans _ _ i1 i2 => exact i1.trans i2

theorem sumL_bound (D : DataW H) (hb : ∀ x, -1152921504606846 ≤ amtL D x ∧ amtL D x ≤ 1152921504606846) (l : List (List UInt8)) :
    -1152921504606846 * (l.length : Int) ≤ sumL D l ∧ sumL D l ≤ 1152921504606846 * (l.length : Int) := by
  unfold sumL
  induction l with
  | nil => simp
  | cons y r ih => have := hb y; simp at ih ⊢; omega

set_option maxRecDepth 100000 in
set_option maxHeartbeats 1000000 in
theorem bsum_calls (d m : Nat) (D : DataW H) (w : World) (h : Bk w d m D) (hmax : Maps.size D ≤ 1000) (hb : ∀ x, -1152921504606846 ≤ amtL D x ∧ amtL D x ≤ 1152921504606846) :
    Calls Try.prog 21 #[.pointer (some ⟨d, 0, none⟩)] w fun en w' => en = .returned (.int .i64 (sumD D)) ∧ Below w.heap.size w w' := by
  have c0 : w.cell? ⟨d, 0, none⟩ = some (.map (some m)) := h.box.cell 0
  have hown : w.ownsMap Try.prog 9 (plainElem Try.prog 3) m (Maps.size D) D := h.map
  have hbl := hown.lt
  have HB := Lib.hid hb
  clear h hb
  go_enter Try.func21, Try.ntmps21
  go_wp2_with (first
    | (at_range; refine wpList_range_own _ rfl _ 88 rfl 9 3 strKeyed Try.underlying88 _ m (Maps.size D) D rfl hown ?_; intro w0 hrg0 hg0 hs0)
    | go_in)
  go_frame
  go_loopw [3] (fun v wr => ∃ (left : Lit → Bool) (cnt : Nat) (ss : List (List UInt8)) (z : Int), v = .int .i64 z ∧ z = sumL D ss ∧ wr.ranges Try.prog 9 (plainElem Try.prog 3) m w.heap.size (Maps.size D) D left cnt ∧ ss.length + cnt ≤ Maps.size D ∧
      Collected D left ss ∧ Below w.heap.size w wr)
    (fun _ wr => wr.rangeLeft m w.heap.size)
  case atStart =>
    exact ⟨_, _, [], 0, rfl, rfl, hrg0, by simp, Collected.start D, (Below.refl _ _).grown hg0 (Nat.le_refl _) (fun j hj => by cases hj)⟩
  case round =>
    obtain ⟨left, cnt, ss, z, rfl, hz, hrg, hcs, hC, hnx⟩ := hrel
    have hzb := sumL_bound D HB.out ss
    have hz1 : -1152921504606846976 ≤ z := by omega
    have hz2 : z ≤ 1152921504606846976 := by omega
    have HZ := Lib.hid hz
    clear hz hzb
    go_wp2_with (first
      | (at_next; refine wpList_next_ranges _ rfl _ rfl 9 strKeyed (plainElem Try.prog 3) encStr (Value.int .i64) (fun key kl hk => by obtain ⟨x, hx, _⟩ := Maps.keyOf_str Try.underlying9 hk; exact ⟨x, hx⟩) (fun v y hv => by obtain ⟨c, rfl, _⟩ := plainElem_int_inv Try.underlying3 hv; exact ⟨c, rfl⟩) m w.heap.size (Maps.size D) D left cnt rfl hrg ?_ ?_)
      | go_in)
    · -- nothing is left
      intro hc0 hl0
      have hperm := Lib.hid (hC.perm hown strKeyed Try.underlying9 hl0)
      go_wp2_with fail
      go_ret
      refine ⟨?_, hnx⟩
      show Ending.returned (.int .i64 z) = _
      rw [HZ.out, sumL_perm D hperm.out]
      rfl
    · -- an entry has come
      intro x c kl yd yp w2 cnt2 hkey hlk hv hat hrg2 hlt hg2 hs2 hen
      obtain ⟨x', ex, rfl, _⟩ := Maps.keyOf_str Try.underlying9 hkey
      obtain rfl : x = x' := encStr_inj ex
      clear hs2
      obtain ⟨c', ec, hyd, _⟩ := plainElem_int_inv Try.underlying3 hv
      have hc' : c = c' := by injection ec
      subst hc'
      have hyd' : yd = .lit (.int .i64 c) := congrArg Prod.fst hyd
      have hac : amtL D x = c := amt_of (D := D) (s := ⟨x.toArray⟩) (by have := hat (.lit (.int .i64 0)); rw [hyd'] at this; exact this)
      have hcb := HB.out x
      rw [hac] at hcb
      obtain ⟨hc1, hc2⟩ := hcb
      have HC := Lib.hid hac
      clear hac hyd hyd' ec
      go_wp2_with fail
      go_roundw
      case rel =>
        refine ⟨_, cnt2, ss ++ [x], z + c, rfl, ?_, hrg2, by simp; omega, hC.step hlk hat, hnx.grown hg2 hnx.size (fun j hj => by cases hj; exact Nat.le_refl _)⟩
        rw [sumL_snoc, HC.out, ← HZ.out]
      case measure => rw [hrg2.left_eq, hrg.left_eq]; exact hlt

end
end Go.Proofs.Ytfhpcodjmmidhaa
