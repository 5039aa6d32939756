/- proof: Inclusion, elder, Consistency whole. -/
import Derived.Test.YtiogjmlkogeibaaDoorPrfI
namespace Go.Proofs.YtiogjmlkogeibaaDoor.prf
open Go Go.RowKit Go.Proofs.YtiogjmlkogeibaaDoor.dig

theorem incl_calls (leaf : ByteArray) (i n : Int) (root : List UInt8) (hr : root.length = 32) (hn : n ≤ 1000000) (r : List (List UInt8)) (a : Option Addr) (c : Nat) (w : World) (hR : Rk w) (hS : Sms w (.slice a r.length c) r) (hl : leaf.size < 1000000000000000000) :
    Calls Tryd.prog 11 #[.string leaf, .int .i64 i, .agg (headC n root), .slice a r.length c] w (ErrPost w ⟨#[108, 101, 97, 102]⟩ i (inclE leaf.data.toList i n root r)) := by
  by_cases h : i < 0 ∨ n ≤ i
  · unfold inclE
    rw [if_pos h]
    exact incl_out leaf i n root h _ w
  · unfold inclE
    rw [if_neg h]
    have hi : i = (i.toNat : Int) := by omega
    have hn' : n = (n.toNat : Int) := by omega
    obtain ⟨j, hj⟩ : ∃ j, j = i.toNat := ⟨_, rfl⟩
    obtain ⟨k, hk⟩ : ∃ k, k = n.toNat := ⟨_, rfl⟩
    rw [← hj] at hi ⊢
    rw [← hk] at hn' ⊢
    subst hi hn'
    have hjk : j < k := by omega
    exact incl_in hr (up_len Z_len (leafS_length _) r j k) j k hjk (by omega) a _ c w (fun V b => leaf_calls leaf V (hR.below b) hl)
      (fun V b => rootOf_calls (leafS_length _) r j k a c V (hR.below b) (hS.below b) hjk (by omega))

theorem elder_calls {old root : List UInt8} (ho : old.length = 32) (hr : root.length = 32) (m n : Nat) (hm : m ≤ n) (hn : n ≤ 1000000) (r : List (List UInt8)) (a : Option Addr) (c : Nat) (w : World) (hR : Rk w) (hS : Sms w (.slice a r.length c) r) :
    Calls Tryd.prog 23 #[.agg (headC m old), .agg (headC n root), .slice a r.length c] w fun en w' => en = .returned (.bool (elderB m old n root r)) ∧ Below w.heap.size w w' := by
  unfold elderB
  by_cases h : m = n
  · subst h
    rw [if_pos rfl]
    exact elder_same ho hr m a _ c w _ (isEmpty_len r)
  · rw [if_neg h]
    by_cases h0 : m = 0
    · subst h0
      rw [if_pos rfl]
      exact elder_zero ho n (by omega) a _ c w hR _ (isEmpty_len r)
    · rw [if_neg h0]
      obtain ⟨l1, l2⟩ := both_len Z_len ho r true m n hS.2
      exact elder_more ho hr l1 l2 m n (by omega) (by omega) a _ c w (fun V b => both_calls ho r m 0 m n a c V (hR.below b) (hS.below b) (by omega) (by omega) hm hn (by omega))

set_option maxRecDepth 100000 in
set_option maxHeartbeats 1000000 in
theorem cons_out (m n : Int) (old root : List UInt8) (h : m < 0 ∨ n < m) (v : Value) (w : World) : Calls Tryd.prog 12 #[.agg (headC m old), .agg (headC n root), v] w (ErrPost w ⟨#[112, 114, 101, 102, 105, 120]⟩ m 6) := by
  have c0 : ∀ A, ((w.alloc (.cells (headC m old) 33)).alloc A).cell? ⟨w.heap.size, 0, none⟩ = some (.int .i64 m) := fun A => Has.num ((made_at _ _ rfl).alloc A)
  have c1 : ∀ A, ((w.alloc A).alloc (.cells (headC n root) 33)).cell? ⟨w.heap.size + 1, 0, none⟩ = some (.int .i64 n) := fun A => Has.num (made_at _ _ (by simp))
  have HI := fun V => Lib.hid (in_post ⟨#[112, 114, 101, 102, 105, 120]⟩ m 6 (by decide) V)
  by_cases h0 : m < 0
  · clear h
    go_enter Tryd.func12, Tryd.ntmps12
    go_wp2_with fail
    refine (HI _).out.mono ?_
    rintro en w1 ⟨v, rfl, he, b⟩
    go_wp2_with fail
    go_ret
    exact ⟨v, rfl, he, (((Below.refl _ _).alloc (Nat.le_refl _) _).alloc (by simp) _).trans (b.mono (by simp; omega))⟩
  · have h1 : n < m := h.resolve_left h0
    clear h
    go_enter Tryd.func12, Tryd.ntmps12
    go_wp2_with fail
    refine (HI _).out.mono ?_
    rintro en w1 ⟨v, rfl, he, b⟩
    go_wp2_with fail
    go_ret
    exact ⟨v, rfl, he, (((Below.refl _ _).alloc (Nat.le_refl _) _).alloc (by simp) _).trans (b.mono (by simp; omega))⟩

set_option maxRecDepth 100000 in
set_option maxHeartbeats 1000000 in
theorem cons_in {m n : Int} {old root : List UInt8} (ho : old.length = 32) (hr : root.length = 32) (h0 : 0 ≤ m) (h1 : m ≤ n) (v : Value) (w : World) (e : Bool)
    (hc : ∀ V, Below w.heap.size w V → Calls Tryd.prog 23 #[.agg (headC m old), .agg (headC n root), v] V fun en w' => en = .returned (.bool e) ∧ Below V.heap.size V w') :
    Calls Tryd.prog 12 #[.agg (headC m old), .agg (headC n root), v] w (ErrPost w ⟨#[112, 114, 101, 102, 105, 120]⟩ m (if e = true then 0 else 12)) := by
  have HO := Lib.hid ho
  have HRT := Lib.hid hr
  have HC := Lib.hid hc
  clear ho hr hc
  have c0 : ∀ A, ((w.alloc (.cells (headC m old) 33)).alloc A).cell? ⟨w.heap.size, 0, none⟩ = some (.int .i64 m) := fun A => Has.num ((made_at _ _ rfl).alloc A)
  have c1 : ∀ A, ((w.alloc A).alloc (.cells (headC n root) 33)).cell? ⟨w.heap.size + 1, 0, none⟩ = some (.int .i64 n) := fun A => Has.num (made_at _ _ (by simp))
  have HI := fun V => Lib.hid (in_post ⟨#[112, 114, 101, 102, 105, 120]⟩ m 12 (by decide) V)
  cases e
  all_goals
    go_enter Tryd.func12, Tryd.ntmps12
    go_wp2_with (first
      | ((with_reducible refine at_op 21 ?_); refine wpList_load_row (o := ⟨some 21, _, _, _, _, _⟩) rfl 33 _ rfl w.heap.size rfl 33 (headC m old) (0, 0) _ ((made_at _ _ rfl).alloc _) Tryd.underlying33 rfl (by rw [headC_size, HO.out]; kernel_rfl) ?_)
      | ((with_reducible refine at_op 22 ?_); refine wpList_load_row (o := ⟨some 22, _, _, _, _, _⟩) rfl 33 _ rfl (w.heap.size + 1) rfl 33 (headC n root) (0, 0) _ (made_at _ _ (by simp)) Tryd.underlying33 rfl (by rw [headC_size, HRT.out]; kernel_rfl) ?_)
      | fail)
    refine callsName (fun W hW => ?_)
    have B0 : Hid (Below w.heap.size w W ∧ Has W w.heap.size 33 (headC m old)) := by rw [← hW]; exact Lib.hid ⟨((Below.refl _ _).alloc (Nat.le_refl _) _).alloc (by simp) _, (made_at _ _ rfl).alloc _⟩
    clear hW c0 c1
    refine (HC.out W B0.out.1).mono ?_
    rintro en w1 ⟨rfl, b⟩
    have B1 : Hid (Below w.heap.size w w1 ∧ Has w1 w.heap.size 33 (headC m old)) := Lib.hid ⟨B0.out.1.trans (b.mono B0.out.1.size), B0.out.2.below b B0.out.2.lt⟩
    clear b B0 HC
    have c0 := Has.num B1.out.2
  · go_wp2_with fail
    refine (HI _).out.mono ?_
    rintro en w2 ⟨v, rfl, he, b⟩
    go_wp2_with fail
    go_ret
    exact ⟨v, rfl, he, B1.out.1.trans (b.mono B1.out.1.size)⟩
  · go_wp2_with fail
    go_ret
    exact ⟨_, rfl, IsErr.ok _ _ _, B1.out.1⟩

theorem cons_calls {old root : List UInt8} (ho : old.length = 32) (hr : root.length = 32) (m n : Int) (hn : n ≤ 1000000) (r : List (List UInt8)) (a : Option Addr) (c : Nat) (w : World) (hR : Rk w) (hS : Sms w (.slice a r.length c) r) :
    Calls Tryd.prog 12 #[.agg (headC m old), .agg (headC n root), .slice a r.length c] w (ErrPost w ⟨#[112, 114, 101, 102, 105, 120]⟩ m (consE m old n root r)) := by
  unfold consE
  by_cases h : m < 0 ∨ n < m
  · rw [if_pos h]; exact cons_out m n old root h _ w
  · rw [if_neg h]
    have hm : m = (m.toNat : Int) := by omega
    have hn' : n = (n.toNat : Int) := by omega
    obtain ⟨j, hj⟩ : ∃ j, j = m.toNat := ⟨_, rfl⟩
    obtain ⟨k, hk⟩ : ∃ k, k = n.toNat := ⟨_, rfl⟩
    rw [← hj] at hm ⊢
    rw [← hk] at hn' ⊢
    subst hm hn'
    exact cons_in ho hr (by omega) (by omega) _ w _ (fun V b => elder_calls ho hr j k (by omega) (by omega) r a c V (hR.below b) (hS.below b))
end Go.Proofs.YtiogjmlkogeibaaDoor.prf
