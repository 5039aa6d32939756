/- tree: root. -/
import Derived.Test.YtdoadmkaoboncaaGreatDoorTreeC
namespace Go.Proofs.YtdoadmkaoboncaaGreatDoor.dig
open Go Go.RowKit

set_option maxRecDepth 100000 in
set_option maxHeartbeats 2000000 in
theorem root_calls (B : Nat) (F : Nat → Prop) (b N fl : Nat) (f : Nat → List UInt8) (hN : N < 1024) : ∀ (n a : Nat) (w : World), Tr B F w b N fl f → Av fl a n → a + n ≤ N →
    Calls Tryz.prog 66 #[.pointer (some ⟨b, 0, none⟩), .int .i64 a, .int .i64 n] w fun en w' => en = .returned (.agg (cellsOf (rt f a n))) ∧ Below w.heap.size w w' := by
  intro n
  induction n using Nat.strongRecOn with
  | _ n ih =>
  intro a w hT hA han
  have HT := Lib.hid hT
  have hn0 := hA.pos
  by_cases hp : 2 ^ Nat.log2 n = n
  · obtain ⟨j, hj⟩ : ∃ j, j = Nat.log2 n := ⟨_, rfl⟩
    rw [← hj] at hp
    have hpop : pop n = 1 := (pop_one (by omega)).2 (by rw [← hj]; exact hp)
    have hA2 : Av fl a (2 ^ j) := by rw [hp]; exact hA
    obtain ⟨hd, hg⟩ := hA2.row
    have hjn : j < 64 := by
      rcases Nat.lt_or_ge j 64 with h | h
      · exact h
      · have := Nat.pow_le_pow_right (n := 2) (by decide) h
        omega
    have hjt : j < tops N := lt_tops.2 (by omega)
    have hq : a / 2 ^ j < N / 2 ^ j := by
      have h1 := Nat.div_le_div_right (c := 2 ^ j) han
      rw [← hp, Nat.add_div_right _ (Nat.pow_pos (by decide))] at h1
      omega
    have hz : ∀ w', Rt B w' → Calls Tryz.prog 95 #[.int .u64 n] w' fun en w2 => en = .returned (.int .i64 j) ∧ w' = w2 := fun w' h => by
      have := zeros_calls B j w' h hjn
      rw [hp] at this
      exact this
    have HZ := Lib.hid hz
    have HP := Lib.hid hp
    have HD := Lib.hid hd
    have HQ := Lib.hid hq
    have HG := Lib.hid hg
    have HPOP := Lib.hid hpop
    have HNT := Lib.hid (show a ≤ 1000000 ∧ N / 2 ^ j ≤ 1000000 ∧ a / 2 ^ j ≤ 1000000 by have := Nat.div_le_self N (2 ^ j); have := Nat.div_le_self a (2 ^ j); omega)
    obtain ⟨q, hqq⟩ : ∃ q, q = a / 2 ^ j := ⟨_, rfl⟩
    have eq1 : (a : Int) / 2 ^ j = (q : Int) := by rw [hqq, Int.natCast_ediv]; simp
    have HQQ := Lib.hid hqq
    have hjK : (j : Int) < (tops N : Int) := by omega
    have hj0 : (0 : Int) ≤ (j : Int) := by omega
    have hj64 : (j : Int) < 64 := by omega
    have ha0 : (0 : Int) ≤ (a : Int) := by omega
    have ha1 : (a : Int) ≤ 1000000 := by omega
    have i1 : IntKind.u64.wrap (n : Int) = (n : Int) := IntWalk.u64_in _ ⟨by omega, by omega⟩
    clear hqq hT hA hA2 hp hd hq hg hj hz han ih hpop hjn
    go_enter Tryz.func66, Tryz.ntmps66
    go_wp2_with fail
    refine callsName (fun W hW => ?_)
    have B0 : Hid (Below w.heap.size w W) := by rw [← hW]; exact Lib.hid ((Below.refl _ _).alloc (Nat.le_refl _) _)
    have Z0 : Hid (Has W w.heap.size 38 (cellsOf (List.replicate 32 0))) := by rw [← hW]; exact Lib.hid (made_at _ _ rfl)
    have T : Hid (Tr B F W b N fl f) := Lib.hid (HT.out.below B0.out)
    clear hW HT
    refine (ones_calls n _).mono ?_
    rw [HPOP.out]
    rintro e w' ⟨rfl, rfl⟩
    go_wp2_with fail
    refine (HZ.out _ T.out.rt).mono ?_
    rintro e w' ⟨rfl, rfl⟩
    go_wp2_with fail
    obtain ⟨R, o, C, hh, v, c0, c1, hRl, hs⟩ := T.out.row hjt
    have HS := Lib.hid hs
    have e2 := hh.cell 2
    simp at e2
    clear hs hh
    obtain ⟨V, hV⟩ : ∃ V, V = W.drew := ⟨_, rfl⟩
    refine still_tail_at V hV 9 (by kernel_rfl) (by kernel_rfl) ?_
    have BV : Hid (Below w.heap.size w V ∧ Has V w.heap.size 38 (cellsOf (List.replicate 32 0)) ∧ Tr B F V b N fl f ∧ Seg V 38 32 v (N / 2 ^ j - gone fl j) (flat (nodeC f j) (gone fl j) (N / 2 ^ j - gone fl j))) := by rw [hV]; exact Lib.hid ⟨B0.out.drew, Z0.out, T.out.drew, HS.out⟩
    have c0 : V.cell? ⟨R, o + j * 3, none⟩ = some (.int .i64 (gone fl j)) := by rw [hV]; exact c0
    have c1 : V.cell? ⟨R, o + (j * 3 + 1), none⟩ = some v := by rw [hV]; exact c1
    have e2 : V.cell? ⟨b, 2, none⟩ = some (.slice (some ⟨R, o, none⟩) (tops N) C) := by rw [hV]; exact e2
    clear hV B0 Z0 T HS HZ
    simp only [List.take_succ_cons, List.take_zero, List.drop_succ_cons, List.drop_zero]
    repeat still_step
    refine wpStill_nil ?_
    rw [← Nat.add_assoc] at c1
    have X : Hid (∀ r, r < 32 → (flat (nodeC f j) (gone fl j) (N / 2 ^ j - gone fl j))[(q - gone fl j) * 32 + r]? = (cellsOf (rt f a n))[r]?) := Lib.hid fun r hr => by
      have h1 := HQ.out
      have h2 := HG.out
      rw [← HQQ.out] at h1 h2
      rw [flat_get (w := 32) (fun i _ _ => nodeC_len BV.out.2.2.1.len j i) (by omega) hr, Nat.add_sub_cancel' h2]
      have e : q * 2 ^ j = a := by rw [HQQ.out]; exact Nat.div_mul_cancel HD.out
      unfold nodeC
      rw [e, HP.out]
      simp
    have hl : Hid ((rt f a n).length = 32) := Lib.hid (rt_len BV.out.2.2.1.len _ _ hn0)
    clear e2
    go_wp2_with (first
      | (go_at_call 96; refine (at_calls R (o + j * 3) q (gone fl j) (N / 2 ^ j - gone fl j) v _ (rt f a n) V c0 c1 BV.out.2.2.2 (by rw [HQQ.out]; exact HG.out) (by have h1 := HQ.out; have h2 := HG.out; rw [← HQQ.out] at h1 h2; omega) (by have := HNT.out; omega) (by have := HNT.out; rw [HQQ.out]; omega) X.out hl.out).mono ?_)
      | fail)
    rintro e w' ⟨rfl, b5⟩
    have S5 : Hid (Has w' w.heap.size 38 (cellsOf (List.replicate 32 0)) ∧ Below w.heap.size w w') := Lib.hid ⟨BV.out.2.1.below b5 BV.out.2.1.lt, BV.out.1.trans (b5.mono BV.out.1.size)⟩
    clear b5 c0 c1 X BV
    go_wp2_with (first
      | (refine wpList_store_arr (o := ⟨none, _, _, _, _, _⟩) rfl 38 _ _ rfl w.heap.size (rt f a n) (List.replicate 32 0) rfl rfl _ S5.out.1 32 (by kernel_rfl) (by simp) hl.out ?_; intro W6 HW6 TW6)
      | fail)
    exact bodyPost_ret (v := .agg (cellsOf (rt f a n))) (results_cell_row rfl _ _ w.heap.size 38 _ _ _ rfl HW6 Tryz.underlying38 rfl (by rw [cellsOf_size, hl.out]; kernel_rfl)) rfl
      ⟨rfl, S5.out.2.trans (TW6.below S5.out.2.size (fun j hj e => by omega))⟩
  · have hpop : pop n ≠ 1 := fun h => hp ((pop_one (by omega)).1 h)
    have hp2 : ∀ j, n ≠ 2 ^ j := fun j e => hp (by rw [e, Nat.log2_two_pow])
    have hn2 : 2 ≤ n := by
      rcases Nat.lt_or_ge n 2 with h | h
      · exact absurd (show n = 2 ^ 0 by simp; omega) (hp2 0)
      · exact h
    obtain ⟨hA1, hA2⟩ := hA.halves hn2 hp2
    have h1 := half_lt hn2
    have h2 := half_pos n
    obtain ⟨k, hk⟩ : ∃ k, k = half n := ⟨_, rfl⟩
    rw [← hk] at h1 h2 hA1 hA2
    have HI1 := Lib.hid (fun w' (h : Tr B F w' b N fl f) => ih k h1 a w' h hA1 (by omega))
    obtain ⟨n', hn'⟩ : ∃ n', n' = n - k := ⟨_, rfl⟩
    obtain ⟨a', ha'⟩ : ∃ a', a' = a + k := ⟨_, rfl⟩
    have HI2 := Lib.hid (fun w' (h : Tr B F w' b N fl f) => ih n' (by omega) a' w' h (by rw [hn', ha']; exact hA2) (by omega))
    have HX : Hid (nodeS (rt f a k) (rt f a' n') = rt f a n) := Lib.hid (by rw [rt_two f a hn2, ← hk, hn', ha'])
    have HL : Hid ((rt f a k).length = 32 ∧ (rt f a' n').length = 32 ∧ (rt f a n).length = 32) := Lib.hid ⟨rt_len hT.len _ _ h2, rt_len hT.len _ _ (by omega), rt_len hT.len _ _ hn0⟩
    have HK := Lib.hid hk
    have hk1 : (n : Int) - (k : Int) = (n' : Int) := by omega
    have hk2 : (a : Int) + (k : Int) = (a' : Int) := by omega
    have hk3 : (a' : Int) ≤ 1000000 := by omega
    have hk4 : (n' : Int) ≤ 1000000 := by omega
    have hb1 : (n : Int) ≤ 1000000 := by omega
    have hb2 : (a : Int) ≤ 1000000 := by omega
    have hb3 : (k : Int) ≤ 1000000 := by omega
    have i1 : IntKind.u64.wrap (n : Int) = (n : Int) := IntWalk.u64_in _ ⟨by omega, by omega⟩
    have hn1000 : n ≤ 1000000000000 := by omega
    clear hT hA hp hp2 hA1 hA2 h1 h2 hk han ih hn' ha'
    go_enter Tryz.func66, Tryz.ntmps66
    go_wp2_with fail
    refine callsName (fun W hW => ?_)
    have B0 : Hid (Below w.heap.size w W) := by rw [← hW]; exact Lib.hid ((Below.refl _ _).alloc (Nat.le_refl _) _)
    have Z0 : Hid (Has W w.heap.size 38 (cellsOf (List.replicate 32 0))) := by rw [← hW]; exact Lib.hid (made_at _ _ rfl)
    have T : Hid (Tr B F W b N fl f) := Lib.hid (HT.out.below B0.out)
    clear hW HT
    refine (ones_calls n _).mono ?_
    rintro e w' ⟨rfl, rfl⟩
    go_wp2_with fail
    refine (half_calls n W hn2 hn1000).mono ?_
    rw [← HK.out]
    rintro e w' ⟨rfl, rfl⟩
    go_wp2_with fail
    refine (HI1.out _ T.out).mono ?_
    rintro e w1 ⟨rfl, b1⟩
    have T1 : Hid (Tr B F w1 b N fl f ∧ Below w.heap.size w w1 ∧ Has w1 w.heap.size 38 (cellsOf (List.replicate 32 0))) := Lib.hid ⟨T.out.below b1, B0.out.trans (b1.mono B0.out.size), Z0.out.below b1 Z0.out.lt⟩
    clear T B0 Z0 b1
    go_wp2_with fail
    refine (HI2.out _ T1.out.1).mono ?_
    rintro e w2 ⟨rfl, b2⟩
    have T2 : Hid (Tr B F w2 b N fl f ∧ Below w.heap.size w w2 ∧ Has w2 w.heap.size 38 (cellsOf (List.replicate 32 0))) := Lib.hid ⟨T1.out.1.below b2, T1.out.2.1.trans (b2.mono T1.out.2.1.size), T1.out.2.2.below b2 T1.out.2.2.lt⟩
    clear T1 b2
    go_wp2_with fail
    refine (node_calls _ _ w2 T2.out.1.rt.rk HL.out.1 HL.out.2.1).mono ?_
    rw [HX.out]
    rintro e w3 ⟨rfl, b3⟩
    have S5 : Hid (Has w3 w.heap.size 38 (cellsOf (List.replicate 32 0)) ∧ Below w.heap.size w w3) := Lib.hid ⟨T2.out.2.2.below b3 T2.out.2.2.lt, T2.out.2.1.trans (b3.mono T2.out.2.1.size)⟩
    clear T2 b3
    go_wp2_with (first
      | (refine wpList_store_arr (o := ⟨none, _, _, _, _, _⟩) rfl 38 _ _ rfl w.heap.size (rt f a n) (List.replicate 32 0) rfl rfl _ S5.out.1 32 (by kernel_rfl) (by simp) HL.out.2.2 ?_; intro W6 HW6 TW6)
      | fail)
    exact bodyPost_ret (v := .agg (cellsOf (rt f a n))) (results_cell_row rfl _ _ w.heap.size 38 _ _ _ rfl HW6 Tryz.underlying38 rfl (by rw [cellsOf_size, HL.out.2.2]; kernel_rfl)) rfl
      ⟨rfl, S5.out.2.trans (TW6.below S5.out.2.size (fun j hj e => by omega))⟩
end Go.Proofs.YtdoadmkaoboncaaGreatDoor.dig
