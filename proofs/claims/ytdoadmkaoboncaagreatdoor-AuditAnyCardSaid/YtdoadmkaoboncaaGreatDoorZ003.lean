/- Texts laid into one: PrfJ, PrfY, AudA, HeadQ, AudB, ClaA, ClaB, ClaM, ClaI. -/
import Derived.Test.YtdoadmkaoboncaaGreatDoorZ002
import Derived.Test.YtdoadmkaoboncaaGreatDoorZ000
import Derived.Test.YtdoadmkaoboncaaGreatDoorZ001
import Derived.Test.YtdoadmkaoboncaaGreatDoorSums
import Derived.Test.YtdoadmkaoboncaaGreatDoorDigM
import Derived.Test.YtdoadmkaoboncaaGreatDoorDigI
import Derived.Test.YtdoadmkaoboncaaGreatDoorAny
import Derived.StillTailTactics
import Derived.Test.YtdoadmkaoboncaaGreatDoorHalf
import Derived.Test.YtdoadmkaoboncaaGreatDoorRow
import Derived.Test.YtdoadmkaoboncaaGreatDoorTreeE
section
/- proof: Inclusion, elder, Consistency whole. -/
namespace Go.Proofs.YtdoadmkaoboncaaGreatDoor.prf
open Go Go.RowKit Go.Proofs.YtdoadmkaoboncaaGreatDoor.dig

theorem incl_calls (leaf : ByteArray) (i n : Int) (root : List UInt8) (hr : root.length = 32) (hn : n ≤ 1000000) (r : List (List UInt8)) (a : Option Addr) (c : Nat) (w : World) (hR : Rk w) (hS : Sms w (.slice a r.length c) r) (hl : leaf.size < 1000000000000000000) :
    Calls Tryz.prog 54 #[.string leaf, .int .i64 i, .agg (headC n root), .slice a r.length c] w (ErrPost w ⟨#[108, 101, 97, 102]⟩ i (inclE leaf.data.toList i n root r)) := by
  by_cases h : i < 0 ∨ n ≤ i
  · unfold inclE
    rw [if_pos h]
    exact incl_out leaf i n root h _ w
  · unfold inclE
    rw [if_neg h]
    have hi : i = (i.toNat : Int) := by omega
    have hn' : n = (n.toNat : Int) := by omega
    obtain ⟨j, hj⟩ : ∃ j, j = i.toNat := ⟨_, rfl⟩
    obtain ⟨k, hk⟩ : ∃ k, k = n.toNat := ⟨_, rfl⟩
    rw [← hj] at hi ⊢
    rw [← hk] at hn' ⊢
    subst hi hn'
    have hjk : j < k := by omega
    exact incl_in hr (up_len Z_len (leafS_length _) r j k) j k hjk (by omega) a _ c w (fun V b => leaf_calls leaf V (hR.below b) hl)
      (fun V b => rootOf_calls (leafS_length _) r j k a c V (hR.below b) (hS.below b) hjk (by omega))

theorem elder_calls {old root : List UInt8} (ho : old.length = 32) (hr : root.length = 32) (m n : Nat) (hm : m ≤ n) (hn : n ≤ 1000000) (r : List (List UInt8)) (a : Option Addr) (c : Nat) (w : World) (hR : Rk w) (hS : Sms w (.slice a r.length c) r) :
    Calls Tryz.prog 68 #[.agg (headC m old), .agg (headC n root), .slice a r.length c] w fun en w' => en = .returned (.bool (elderB m old n root r)) ∧ Below w.heap.size w w' := by
  unfold elderB
  by_cases h : m = n
  · subst h
    rw [if_pos rfl]
    exact elder_same ho hr m a _ c w _ (isEmpty_len r)
  · rw [if_neg h]
    by_cases h0 : m = 0
    · subst h0
      rw [if_pos rfl]
      exact elder_zero ho n (by omega) a _ c w hR _ (isEmpty_len r)
    · rw [if_neg h0]
      obtain ⟨l1, l2⟩ := both_len Z_len ho r true m n hS.2
      exact elder_more ho hr l1 l2 m n (by omega) (by omega) a _ c w (fun V b => both_calls ho r m 0 m n a c V (hR.below b) (hS.below b) (by omega) (by omega) hm hn (by omega))

set_option maxRecDepth 100000 in
set_option maxHeartbeats 1000000 in
theorem cons_out (m n : Int) (old root : List UInt8) (h : m < 0 ∨ n < m) (v : Value) (w : World) : Calls Tryz.prog 40 #[.agg (headC m old), .agg (headC n root), v] w (ErrPost w ⟨#[112, 114, 101, 102, 105, 120]⟩ m 6) := by
  have c0 : ∀ A, ((w.alloc (.cells (headC m old) 41)).alloc A).cell? ⟨w.heap.size, 0, none⟩ = some (.int .i64 m) := fun A => Has.num ((made_at _ _ rfl).alloc A)
  have c1 : ∀ A, ((w.alloc A).alloc (.cells (headC n root) 41)).cell? ⟨w.heap.size + 1, 0, none⟩ = some (.int .i64 n) := fun A => Has.num (made_at _ _ (by simp))
  have HI := fun V => Lib.hid (in_post ⟨#[112, 114, 101, 102, 105, 120]⟩ m 6 (by decide) V)
  by_cases h0 : m < 0
  · clear h
    go_enter Tryz.func40, Tryz.ntmps40
    go_wp2_with fail
    refine (HI _).out.mono ?_
    rintro en w1 ⟨v, rfl, he, b⟩
    go_wp2_with fail
    go_ret
    exact ⟨v, rfl, he, (((Below.refl _ _).alloc (Nat.le_refl _) _).alloc (by simp) _).trans (b.mono (by simp; omega))⟩
  · have h1 : n < m := h.resolve_left h0
    clear h
    go_enter Tryz.func40, Tryz.ntmps40
    go_wp2_with fail
    refine (HI _).out.mono ?_
    rintro en w1 ⟨v, rfl, he, b⟩
    go_wp2_with fail
    go_ret
    exact ⟨v, rfl, he, (((Below.refl _ _).alloc (Nat.le_refl _) _).alloc (by simp) _).trans (b.mono (by simp; omega))⟩

set_option maxRecDepth 100000 in
set_option maxHeartbeats 1000000 in
theorem cons_in {m n : Int} {old root : List UInt8} (ho : old.length = 32) (hr : root.length = 32) (h0 : 0 ≤ m) (h1 : m ≤ n) (v : Value) (w : World) (e : Bool)
    (hc : ∀ V, Below w.heap.size w V → Calls Tryz.prog 68 #[.agg (headC m old), .agg (headC n root), v] V fun en w' => en = .returned (.bool e) ∧ Below V.heap.size V w') :
    Calls Tryz.prog 40 #[.agg (headC m old), .agg (headC n root), v] w (ErrPost w ⟨#[112, 114, 101, 102, 105, 120]⟩ m (if e = true then 0 else 12)) := by
  have HO := Lib.hid ho
  have HRT := Lib.hid hr
  have HC := Lib.hid hc
  clear ho hr hc
  have c0 : ∀ A, ((w.alloc (.cells (headC m old) 41)).alloc A).cell? ⟨w.heap.size, 0, none⟩ = some (.int .i64 m) := fun A => Has.num ((made_at _ _ rfl).alloc A)
  have c1 : ∀ A, ((w.alloc A).alloc (.cells (headC n root) 41)).cell? ⟨w.heap.size + 1, 0, none⟩ = some (.int .i64 n) := fun A => Has.num (made_at _ _ (by simp))
  have HI := fun V => Lib.hid (in_post ⟨#[112, 114, 101, 102, 105, 120]⟩ m 12 (by decide) V)
  cases e
  all_goals
    go_enter Tryz.func40, Tryz.ntmps40
    go_wp2_with (first
      | ((with_reducible refine at_op 21 ?_); refine wpList_load_row (o := ⟨some 21, _, _, _, _, _⟩) rfl 41 _ rfl w.heap.size rfl 41 (headC m old) (0, 0) _ ((made_at _ _ rfl).alloc _) Tryz.underlying41 rfl (by rw [headC_size, HO.out]; kernel_rfl) ?_)
      | ((with_reducible refine at_op 22 ?_); refine wpList_load_row (o := ⟨some 22, _, _, _, _, _⟩) rfl 41 _ rfl (w.heap.size + 1) rfl 41 (headC n root) (0, 0) _ (made_at _ _ (by simp)) Tryz.underlying41 rfl (by rw [headC_size, HRT.out]; kernel_rfl) ?_)
      | fail)
    refine callsName (fun W hW => ?_)
    have B0 : Hid (Below w.heap.size w W ∧ Has W w.heap.size 41 (headC m old)) := by rw [← hW]; exact Lib.hid ⟨((Below.refl _ _).alloc (Nat.le_refl _) _).alloc (by simp) _, (made_at _ _ rfl).alloc _⟩
    clear hW c0 c1
    refine (HC.out W B0.out.1).mono ?_
    rintro en w1 ⟨rfl, b⟩
    have B1 : Hid (Below w.heap.size w w1 ∧ Has w1 w.heap.size 41 (headC m old)) := Lib.hid ⟨B0.out.1.trans (b.mono B0.out.1.size), B0.out.2.below b B0.out.2.lt⟩
    clear b B0 HC
    have c0 := Has.num B1.out.2
  · go_wp2_with fail
    refine (HI _).out.mono ?_
    rintro en w2 ⟨v, rfl, he, b⟩
    go_wp2_with fail
    go_ret
    exact ⟨v, rfl, he, B1.out.1.trans (b.mono B1.out.1.size)⟩
  · go_wp2_with fail
    go_ret
    exact ⟨_, rfl, IsErr.ok _ _ _, B1.out.1⟩

theorem cons_calls {old root : List UInt8} (ho : old.length = 32) (hr : root.length = 32) (m n : Int) (hn : n ≤ 1000000) (r : List (List UInt8)) (a : Option Addr) (c : Nat) (w : World) (hR : Rk w) (hS : Sms w (.slice a r.length c) r) :
    Calls Tryz.prog 40 #[.agg (headC m old), .agg (headC n root), .slice a r.length c] w (ErrPost w ⟨#[112, 114, 101, 102, 105, 120]⟩ m (consE m old n root r)) := by
  unfold consE
  by_cases h : m < 0 ∨ n < m
  · rw [if_pos h]; exact cons_out m n old root h _ w
  · rw [if_neg h]
    have hm : m = (m.toNat : Int) := by omega
    have hn' : n = (n.toNat : Int) := by omega
    obtain ⟨j, hj⟩ : ∃ j, j = m.toNat := ⟨_, rfl⟩
    obtain ⟨k, hk⟩ : ∃ k, k = n.toNat := ⟨_, rfl⟩
    rw [← hj] at hm ⊢
    rw [← hk] at hn' ⊢
    subst hm hn'
    exact cons_in ho hr (by omega) (by omega) _ w _ (fun V b => elder_calls ho hr j k (by omega) (by omega) r a c V (hR.below b) (hS.below b))
end Go.Proofs.YtdoadmkaoboncaaGreatDoor.prf
end

section
/- proof: Proves. -/
namespace Go.Proofs.YtdoadmkaoboncaaGreatDoor.prf
open Go Go.RowKit Go.Proofs.YtdoadmkaoboncaaGreatDoor.dig

def leafB : ByteArray := ⟨#[108, 101, 97, 102]⟩
def prefixB : ByteArray := ⟨#[112, 114, 101, 102, 105, 120]⟩
def proofB : ByteArray := ⟨#[112, 114, 111, 111, 102]⟩
/-- Which question a proof puts: 1: of a leaf, 2: of a prefix, 0: none. -/
def kindOf (K I N m n : Int) : Nat := if K = 1 ∧ N = n then 1 else if K = 2 ∧ N = n ∧ I = m then 2 else 0

set_option maxRecDepth 100000 in
set_option maxHeartbeats 2000000 in
theorem proves_leaf {old root : List UInt8} (hr : root.length = 32) (leaf : ByteArray) (I N m : Int) (v : Value) (w : World) (E : Int)
    (hc : ∀ V, Below w.heap.size w V → Calls Tryz.prog 54 #[.string leaf, .int .i64 I, .agg (headC N root), v] V (ErrPost V leafB I E)) :
    Calls Tryz.prog 27 #[.agg (prC 1 I N v), .string leaf, .agg (headC m old), .agg (headC N root)] w (ErrPost w leafB I E) := by
  have HR := Lib.hid hr
  have HC := Lib.hid hc
  clear hr hc
  have p0 : ∀ A B, (((w.alloc (.cells (prC 1 I N v) 25)).alloc A).alloc B).cell? ⟨w.heap.size, 0, none⟩ = some (.int .i64 1) := fun A B => (((made_at _ _ rfl).alloc A).alloc B).cell 0
  have p1 : ∀ A B, (((w.alloc (.cells (prC 1 I N v) 25)).alloc A).alloc B).cell? ⟨w.heap.size, 1, none⟩ = some (.int .i64 I) := fun A B => (((made_at _ _ rfl).alloc A).alloc B).cell 1
  have p2 : ∀ A B, (((w.alloc (.cells (prC 1 I N v) 25)).alloc A).alloc B).cell? ⟨w.heap.size, 2, none⟩ = some (.int .i64 N) := fun A B => (((made_at _ _ rfl).alloc A).alloc B).cell 2
  have p3 : ∀ A B, (((w.alloc (.cells (prC 1 I N v) 25)).alloc A).alloc B).cell? ⟨w.heap.size, 3, none⟩ = some v := fun A B => (((made_at _ _ rfl).alloc A).alloc B).cell 3
  have n0 : ∀ A B, (((w.alloc A).alloc B).alloc (.cells (headC N root) 41)).cell? ⟨w.heap.size + 1 + 1, 0, none⟩ = some (.int .i64 N) := fun A B => Has.num (made_at _ _ (by simp))
  go_enter Tryz.func27, Tryz.ntmps27
  go_wp2_with (first
    | ((with_reducible refine at_op 23 ?_); refine wpList_load_row (o := ⟨some 23, _, _, _, _, _⟩) rfl 41 _ rfl (w.heap.size + 1 + 1) rfl 41 (headC N root) (0, 0) _ (made_at _ _ (by simp)) Tryz.underlying41 rfl (by rw [headC_size, HR.out]; kernel_rfl) ?_)
    | fail)
  have bw : ∀ A B C, Below w.heap.size w (((w.alloc A).alloc B).alloc C) := fun A B C => (((Below.refl _ _).alloc (Nat.le_refl _) _).alloc (by simp) _).alloc (by simp; omega) _
  refine (HC.out _ (bw _ _ _)).mono ?_
  rintro en w1 ⟨e, rfl, he, b⟩
  have B1 : Hid (Below w.heap.size w w1) := Lib.hid ((bw _ _ _).trans (b.mono (bw _ _ _).size))
  have HE := Lib.hid he
  clear b he bw p0 p1 p2 p3 n0
  go_wp2_with fail
  go_ret
  exact ⟨e, rfl, HE.out, B1.out⟩

set_option maxRecDepth 100000 in
set_option maxHeartbeats 2000000 in
theorem proves_prefix {old root : List UInt8} (ho : old.length = 32) (hr : root.length = 32) (leaf : ByteArray) (I N : Int) (v : Value) (w : World) (E : Int)
    (hc : ∀ V, Below w.heap.size w V → Calls Tryz.prog 40 #[.agg (headC I old), .agg (headC N root), v] V (ErrPost V prefixB I E)) :
    Calls Tryz.prog 27 #[.agg (prC 2 I N v), .string leaf, .agg (headC I old), .agg (headC N root)] w (ErrPost w prefixB I E) := by
  have HO := Lib.hid ho
  have HR := Lib.hid hr
  have HC := Lib.hid hc
  clear ho hr hc
  have p0 : ∀ A B, (((w.alloc (.cells (prC 2 I N v) 25)).alloc A).alloc B).cell? ⟨w.heap.size, 0, none⟩ = some (.int .i64 2) := fun A B => (((made_at _ _ rfl).alloc A).alloc B).cell 0
  have p1 : ∀ A B, (((w.alloc (.cells (prC 2 I N v) 25)).alloc A).alloc B).cell? ⟨w.heap.size, 1, none⟩ = some (.int .i64 I) := fun A B => (((made_at _ _ rfl).alloc A).alloc B).cell 1
  have p2 : ∀ A B, (((w.alloc (.cells (prC 2 I N v) 25)).alloc A).alloc B).cell? ⟨w.heap.size, 2, none⟩ = some (.int .i64 N) := fun A B => (((made_at _ _ rfl).alloc A).alloc B).cell 2
  have p3 : ∀ A B, (((w.alloc (.cells (prC 2 I N v) 25)).alloc A).alloc B).cell? ⟨w.heap.size, 3, none⟩ = some v := fun A B => (((made_at _ _ rfl).alloc A).alloc B).cell 3
  have m0 : ∀ A B, (((w.alloc A).alloc (.cells (headC I old) 41)).alloc B).cell? ⟨w.heap.size + 1, 0, none⟩ = some (.int .i64 I) := fun A B => Has.num ((made_at _ _ (by simp)).alloc _)
  have n0 : ∀ A B, (((w.alloc A).alloc B).alloc (.cells (headC N root) 41)).cell? ⟨w.heap.size + 1 + 1, 0, none⟩ = some (.int .i64 N) := fun A B => Has.num (made_at _ _ (by simp))
  go_enter Tryz.func27, Tryz.ntmps27
  go_wp2_with (first
    | ((with_reducible refine at_op 45 ?_); refine wpList_load_row (o := ⟨some 45, _, _, _, _, _⟩) rfl 41 _ rfl (w.heap.size + 1) rfl 41 (headC I old) (0, 0) _ ((made_at _ _ (by simp)).alloc _) Tryz.underlying41 rfl (by rw [headC_size, HO.out]; kernel_rfl) ?_)
    | ((with_reducible refine at_op 46 ?_); refine wpList_load_row (o := ⟨some 46, _, _, _, _, _⟩) rfl 41 _ rfl (w.heap.size + 1 + 1) rfl 41 (headC N root) (0, 0) _ (made_at _ _ (by simp)) Tryz.underlying41 rfl (by rw [headC_size, HR.out]; kernel_rfl) ?_)
    | fail)
  have bw : ∀ A B C, Below w.heap.size w (((w.alloc A).alloc B).alloc C) := fun A B C => (((Below.refl _ _).alloc (Nat.le_refl _) _).alloc (by simp) _).alloc (by simp; omega) _
  refine (HC.out _ (bw _ _ _)).mono ?_
  rintro en w1 ⟨e, rfl, he, b⟩
  have B1 : Hid (Below w.heap.size w w1) := Lib.hid ((bw _ _ _).trans (b.mono (bw _ _ _).size))
  have HE := Lib.hid he
  clear b he bw p0 p1 p2 p3 m0 n0
  go_wp2_with fail
  go_ret
  exact ⟨e, rfl, HE.out, B1.out⟩

set_option maxRecDepth 100000 in
set_option maxHeartbeats 4000000 in
theorem proves_none {old root : List UInt8} (leaf : ByteArray) (K I N m n : Int) (hk : kindOf K I N m n = 0) (v : Value) (w : World) :
    Calls Tryz.prog 27 #[.agg (prC K I N v), .string leaf, .agg (headC m old), .agg (headC n root)] w (ErrPost w proofB N 4) := by
  have HI := fun V => Lib.hid (in_post proofB N 4 (by decide) V)
  have p0 : ∀ A B, (((w.alloc (.cells (prC K I N v) 25)).alloc A).alloc B).cell? ⟨w.heap.size, 0, none⟩ = some (.int .i64 K) := fun A B => (((made_at _ _ rfl).alloc A).alloc B).cell 0
  have p1 : ∀ A B, (((w.alloc (.cells (prC K I N v) 25)).alloc A).alloc B).cell? ⟨w.heap.size, 1, none⟩ = some (.int .i64 I) := fun A B => (((made_at _ _ rfl).alloc A).alloc B).cell 1
  have p2 : ∀ A B, (((w.alloc (.cells (prC K I N v) 25)).alloc A).alloc B).cell? ⟨w.heap.size, 2, none⟩ = some (.int .i64 N) := fun A B => (((made_at _ _ rfl).alloc A).alloc B).cell 2
  have m0 : ∀ A B, (((w.alloc A).alloc (.cells (headC m old) 41)).alloc B).cell? ⟨w.heap.size + 1, 0, none⟩ = some (.int .i64 m) := fun A B => Has.num ((made_at _ _ (by simp)).alloc _)
  have n0 : ∀ A B, (((w.alloc A).alloc B).alloc (.cells (headC n root) 41)).cell? ⟨w.heap.size + 1 + 1, 0, none⟩ = some (.int .i64 n) := fun A B => Has.num (made_at _ _ (by simp))
  have key : (K = 1 ∧ (N == n) = false) ∨ (K = 2 ∧ (N == n) = false) ∨ (K = 2 ∧ N = n ∧ (I == m) = false) ∨ ((K == 1) = false ∧ (K == 2) = false) := by
    unfold kindOf at hk
    by_cases h1 : K = 1
    · by_cases h2 : N = n
      · rw [if_pos ⟨h1, h2⟩] at hk; cases hk
      · exact .inl ⟨h1, by simpa using h2⟩
    · rw [if_neg (fun h => h1 h.1)] at hk
      by_cases h3 : K = 2
      · by_cases h2 : N = n
        · by_cases h4 : I = m
          · rw [if_pos ⟨h3, h2, h4⟩] at hk; cases hk
          · exact .inr (.inr (.inl ⟨h3, h2, by simpa using h4⟩))
        · exact .inr (.inl ⟨h3, by simpa using h2⟩)
      · exact .inr (.inr (.inr ⟨by simpa using h1, by simpa using h3⟩))
  have bw : Hid (∀ A B C, Below w.heap.size w (((w.alloc A).alloc B).alloc C)) := Lib.hid fun A B C => (((Below.refl _ _).alloc (Nat.le_refl _) _).alloc (by simp) _).alloc (by simp; omega) _
  clear hk
  rcases key with ⟨rfl, h1⟩ | ⟨rfl, h1⟩ | ⟨rfl, rfl, h1⟩ | ⟨h1, h2⟩
  all_goals
    go_enter Tryz.func27, Tryz.ntmps27
    go_wp2_with fail
    refine (HI _).out.mono ?_
    rintro en w1 ⟨e, rfl, he, b⟩
    have B1 : Hid (Below w.heap.size w w1) := Lib.hid ((bw.out _ _ _).trans (b.mono (bw.out _ _ _).size))
    have HE := Lib.hid he
    clear b he p0 p1 p2 m0 n0
    go_wp2_with fail
    go_ret
    exact ⟨e, rfl, HE.out, B1.out⟩
end Go.Proofs.YtdoadmkaoboncaaGreatDoor.prf
end

section
/- audit: Leaf, where it refuses, and where what is proved is so, or is gone. -/
namespace Go.Proofs.YtdoadmkaoboncaaGreatDoor.aud
open Go Go.RowKit Go.Proofs.YtdoadmkaoboncaaGreatDoor.dig Go.Proofs.YtdoadmkaoboncaaGreatDoor.prf Go.Proofs.YtdoadmkaoboncaaGreatDoor.prn

/-- A verdict's cells. -/
abbrev verC (k : Int) (a b : ByteArray) : Array Value := #[.int .i64 k, .string a, .string b]

section
variable {B : Nat} {F : Nat → Prop} {w : World} {vb fl : Nat} {L : List ByteArray}

set_option maxRecDepth 100000 in
set_option maxHeartbeats 2000000 in
theorem aleaf_nohead (h : Va B F w vb L fl) (text : ByteArray) (K I N : Int) (v : Value) (E : Int) (hx : (E = 6 ∧ (N < 0 ∨ N > L.length)) ∨ (E = 14 ∧ 0 ≤ N ∧ N ≤ L.length ∧ N < fl)) :
    Calls Tryz.prog 11 #[.pointer (some ⟨vb, 0, none⟩), .string text, .agg (prC K I N v)] w fun en w' => en = .returned (.agg (verC 0 ⟨#[]⟩ ⟨#[]⟩)) ∧ Below w.heap.size w w' := by
  have H := Lib.hid h
  have HX := Lib.hid hx
  have p2 : ∀ A, ((w.alloc (.cells (prC K I N v) 25)).alloc A).cell? ⟨w.heap.size, 2, none⟩ = some (.int .i64 N) := fun A => ((made_at _ _ rfl).alloc A).cell 2
  clear h hx
  go_enter Tryz.func11, Tryz.ntmps11
  go_wp2_with fail
  refine callsName (fun W hW => ?_)
  have B0 : Hid (Below w.heap.size w W ∧ Has W (w.heap.size + 1) 46 (verC 0 ⟨#[]⟩ ⟨#[]⟩)) := by rw [← hW]; exact Lib.hid ⟨((Below.refl _ _).alloc (Nat.le_refl _) _).alloc (by simp) _, made_at _ _ (by simp)⟩
  clear hW p2
  refine ((H.out.below B0.out.1).head_err N E HX.out).mono ?_
  obtain ⟨q, hq⟩ : ∃ q : List UInt8, q = List.replicate 32 0 := ⟨_, rfl⟩
  have QL : Hid (q.length = 32) := Lib.hid (by rw [hq]; simp)
  have HQ := Lib.hid hq
  rw [← hq]
  clear hq
  rintro en w1 ⟨b, rfl, hb, her, b1⟩
  have hev : flt.ev [⟨b, headNm, N⟩] E = .iface 125 (.pointer (some ⟨b, 0, none⟩)) := rfl
  rw [hev]
  have S1 : Hid (Below w.heap.size w w1 ∧ Has w1 (w.heap.size + 1) 46 (verC 0 ⟨#[]⟩ ⟨#[]⟩)) := Lib.hid ⟨B0.out.1.trans (b1.mono B0.out.1.size), B0.out.2.below b1 B0.out.2.lt⟩
  clear b1 B0 her hb hev
  go_wp2_with (first
    | ((with_reducible refine at_store (.tmp 7) ?_); refine wpList_store_head (o := ⟨none, _, _, _, _, _⟩) rfl (.tmp 7) (.tmp 19) rfl w1.heap.size 0 0 q (List.replicate 32 0) rfl rfl (made_at _ _ rfl) QL.out (by simp) ?_; intro Wb HWb TWb;
       (have S2 : Hid (Below w.heap.size w Wb ∧ Has Wb (w.heap.size + 1) 46 (verC 0 ⟨#[]⟩ ⟨#[]⟩)) := (by
         have bb : Below w1.heap.size w1 Wb := ((Below.refl _ _).alloc (Nat.le_refl _) _).trans (TWb.below (by simp) (fun j hj e => by omega))
         exact Lib.hid ⟨S1.out.1.trans (bb.mono S1.out.1.size), S1.out.2.below bb S1.out.2.lt⟩));
       clear HWb TWb S1)
    | ((with_reducible refine at_store (.tmp 6) ?_); refine wpList_store_cells (o := ⟨none, _, _, _, _, _⟩) rfl 46 (.tmp 6) (.tmp 36) rfl (w.heap.size + 1) (verC 0 ⟨#[]⟩ ⟨#[]⟩) (verC 0 ⟨#[]⟩ ⟨#[]⟩) rfl rfl _ S2.out.2 (by kernel_rfl) rfl (by simp [verC, Value.oneCell']) ?_; intro W9 HW9 TW9)
    | fail)
  exact bodyPost_ret (v := .agg (verC 0 ⟨#[]⟩ ⟨#[]⟩)) (results_cell_row rfl _ _ (w.heap.size + 1) 46 _ _ _ rfl HW9 Tryz.underlying46 rfl (by kernel_rfl)) rfl
    ⟨rfl, S2.out.1.trans (TW9.below S2.out.1.size (fun j hj e => by omega))⟩

/-- How a look at a leaf's proof ends, if it doesn't end with a clash; E: what Proves answers, 1 of a proof of another kind. -/
def EndsL (L : List ByteArray) (fl : Nat) (text : ByteArray) (I E k : Int) : Prop :=
  (E ≠ 0 ∧ k = 0) ∨ (E = 0 ∧ ∃ i : Nat, I = i ∧ ((i < fl ∧ k = 3) ∨ (fl ≤ i ∧ L[i]? = some text ∧ k = 1)))

set_option maxRecDepth 100000 in
set_option maxHeartbeats 4000000 in
theorem aleaf_ok (h : Va B F w vb L fl) (hN : L.length < 1024) (text : ByteArray) (hts : text.size < 1000000000000000000) (K I : Int) (n : Nat) (hf : fl ≤ n) (hn : n ≤ L.length) (r : List (List UInt8)) (a : Option Addr) (c : Nat) (hS : Sms w (.slice a r.length c) r)
    (E k : Int) (hE : E = if K = 1 then inclE text.data.toList I n (rtAll (leafF L) n) r else 1) (hk : EndsL L fl text I E k) :
    Calls Tryz.prog 11 #[.pointer (some ⟨vb, 0, none⟩), .string text, .agg (prC K I n (.slice a r.length c))] w fun en w' => en = .returned (.agg (verC k ⟨#[]⟩ ⟨#[]⟩)) ∧ Below w.heap.size w w' := by
  have H := Lib.hid h
  have HK := Lib.hid hk
  have HE := Lib.hid hE
  have HNN := Lib.hid (show _ ∧ _ ∧ _ ∧ _ from ⟨hN, hf, hn, hts⟩)
  have HS := Lib.hid hS
  have RL : Hid ((rtAll (leafF L) n).length = 32) := Lib.hid (rtAll_len (leafF_len L) n)
  obtain ⟨R, hR⟩ : ∃ R, R = rtAll (leafF L) n := ⟨_, rfl⟩
  obtain ⟨lr, hlr⟩ : ∃ lr, lr = r.length := ⟨_, rfl⟩
  have HLR := Lib.hid hlr
  rw [← hR] at RL HE
  rw [← hlr] at HS ⊢
  have HR := Lib.hid hR
  have p2 : ∀ A, ((w.alloc (.cells (prC K I n (.slice a lr c)) 25)).alloc A).cell? ⟨w.heap.size, 2, none⟩ = some (.int .i64 n) := fun A => ((made_at _ _ rfl).alloc A).cell 2
  clear h hk hE hN hf hn hS hR hlr hts
  go_enter Tryz.func11, Tryz.ntmps11
  go_wp2_with fail
  refine callsName (fun W hW => ?_)
  have B0 : Hid (Below w.heap.size w W ∧ Has W (w.heap.size + 1) 46 (verC 0 ⟨#[]⟩ ⟨#[]⟩) ∧ Has W w.heap.size 25 (prC K I n (.slice a lr c))) := by rw [← hW]; exact Lib.hid ⟨((Below.refl _ _).alloc (Nat.le_refl _) _).alloc (by simp) _, made_at _ _ (by simp), (made_at _ _ rfl).alloc _⟩
  clear hW p2
  refine ((H.out.below B0.out.1).head HNN.out.1 n HNN.out.2.1 HNN.out.2.2.1).mono ?_
  rw [← HR.out]
  rintro en w1 ⟨rfl, b1⟩
  have S1 : Hid (Below w.heap.size w w1 ∧ Has w1 (w.heap.size + 1) 46 (verC 0 ⟨#[]⟩ ⟨#[]⟩) ∧ Has w1 w.heap.size 25 (prC K I n (.slice a lr c))) := Lib.hid ⟨B0.out.1.trans (b1.mono B0.out.1.size), B0.out.2.1.below b1 B0.out.2.1.lt, B0.out.2.2.below b1 B0.out.2.2.lt⟩
  clear b1 B0
  have hkk : (K == 1) = decide (K = 1) := by by_cases h : K = 1 <;> simp [h]
  by_cases hK : K = 1
  · subst hK
    clear hkk
    rw [if_pos rfl] at HE
    go_wp2_with (first
      | ((with_reducible refine at_store (.tmp 7) ?_); refine wpList_store_head (o := ⟨none, _, _, _, _, _⟩) rfl (.tmp 7) (.tmp 19) rfl w1.heap.size n 0 R (List.replicate 32 0) rfl rfl (made_at _ _ rfl) RL.out (by simp) ?_; intro Wb HWb TWb;
         (have S2 : Hid (Below w.heap.size w Wb ∧ Has Wb (w.heap.size + 1) 46 (verC 0 ⟨#[]⟩ ⟨#[]⟩) ∧ Has Wb w.heap.size 25 (prC 1 I n (.slice a lr c)) ∧ Has Wb w1.heap.size 41 (headC n R)) := (by
           have bb : Below w1.heap.size w1 Wb := ((Below.refl _ _).alloc (Nat.le_refl _) _).trans (TWb.below (by simp) (fun j hj e => by omega))
           exact Lib.hid ⟨S1.out.1.trans (bb.mono S1.out.1.size), S1.out.2.1.below bb S1.out.2.1.lt, S1.out.2.2.below bb S1.out.2.2.lt, HWb⟩));
         have q0 : Wb.cell? ⟨w.heap.size, 0, none⟩ = some (.int .i64 1) := S2.out.2.2.1.cell 0;
         have q1 : Wb.cell? ⟨w.heap.size, 1, none⟩ = some (.int .i64 I) := S2.out.2.2.1.cell 1;
         have q2 : Wb.cell? ⟨w.heap.size, 2, none⟩ = some (.int .i64 n) := S2.out.2.2.1.cell 2;
         have q3 : Wb.cell? ⟨w.heap.size, 3, none⟩ = some (.slice a lr c) := S2.out.2.2.1.cell 3;
         have hlh : (Instr.loadAt 41 (.pointer (some ⟨w1.heap.size, 0, none⟩))).run Tryz.prog Wb = .ok (.agg (headC n R)) Wb := prf.Has.load_hd S2.out.2.2.2 RL.out;
         clear HWb TWb S1)
      | ((with_reducible refine at_opg 32 ?_); refine wpList_load_if (o := ⟨some 32, _, _, _, _, _⟩) (by kernel_rfl) 41 (.tmp 7) rfl (.pointer (some ⟨w1.heap.size, 0, none⟩)) rfl hlh ?_)
      | fail)
    have HPV : Hid (Calls Tryz.prog 27 #[.agg (prC 1 I n (.slice a lr c)), .string text, .agg (headC 0 (List.replicate 32 0)), .agg (headC n R)] Wb (ErrPost Wb leafB I E)) := Lib.hid (by
      refine proves_leaf (old := List.replicate 32 0) (root := R) RL.out text I n 0 (.slice a lr c) Wb E (fun U hU => ?_)
      have h1 := incl_calls text I n R RL.out (by have := HNN.out; omega) r a c U ((H.out.below (S2.out.1.trans (hU.mono S2.out.1.size))).rt.rk) (by rw [← HLR.out]; exact HS.out.below (S2.out.1.trans (hU.mono S2.out.1.size))) HNN.out.2.2.2
      rw [← HLR.out, ← HE.out] at h1
      exact h1)
    refine HPV.out.mono ?_
    rintro en w2 ⟨e, rfl, he, b2⟩
    have S3 : Hid (Below w.heap.size w w2 ∧ Has w2 (w.heap.size + 1) 46 (verC 0 ⟨#[]⟩ ⟨#[]⟩) ∧ Has w2 w.heap.size 25 (prC 1 I n (.slice a lr c)) ∧ Has w2 w1.heap.size 41 (headC n R)) :=
      Lib.hid ⟨S2.out.1.trans (b2.mono S2.out.1.size), S2.out.2.1.below b2 S2.out.2.1.lt, S2.out.2.2.1.below b2 S2.out.2.2.1.lt, S2.out.2.2.2.below b2 S2.out.2.2.2.lt⟩
    have HER := Lib.hid he
    clear b2 S2 HPV q0 q1 q2 q3 hlh he
    by_cases hE0 : E = 0
    · subst hE0
      obtain rfl : e = .nilIface := by
        rcases HER.out with ⟨_, h⟩ | ⟨h, _⟩
        · exact h
        · exact absurd rfl h
      obtain ⟨i, rfl, hk⟩ : ∃ i : Nat, I = i ∧ ((i < fl ∧ k = 3) ∨ (fl ≤ i ∧ L[i]? = some text ∧ k = 1)) := by
        rcases HK.out with h | h
        · exact absurd rfl h.1
        · exact h.2
      have q1 : w2.cell? ⟨w.heap.size, 1, none⟩ = some (.int .i64 i) := S3.out.2.2.1.cell 1
      go_wp2_with fail
      rcases hk with ⟨h1, rfl⟩ | ⟨h1, h2, rfl⟩
      · refine ((H.out.below S3.out.1).at_pruned i h1).mono ?_
        rintro en w3 ⟨b, rfl, hb, her, b3⟩
        have hev : flt.ev [⟨b, commandB, (i : Int)⟩] 14 = .iface 125 (.pointer (some ⟨b, 0, none⟩)) := rfl
        rw [hev]
        have S4 : Hid (Below w.heap.size w w3 ∧ Has w3 (w.heap.size + 1) 46 (verC 0 ⟨#[]⟩ ⟨#[]⟩)) := Lib.hid ⟨S3.out.1.trans (b3.mono S3.out.1.size), S3.out.2.1.below b3 S3.out.2.1.lt⟩
        clear b3 S3 her hb hev q1
        go_wp2_with (first
          | ((with_reducible refine at_store (.tmp 6) ?_); refine wpList_store_cells (o := ⟨none, _, _, _, _, _⟩) rfl 46 (.tmp 6) (.tmp 46) rfl (w.heap.size + 1) (verC 3 ⟨#[]⟩ ⟨#[]⟩) (verC 0 ⟨#[]⟩ ⟨#[]⟩) rfl rfl _ S4.out.2 (by kernel_rfl) rfl (by simp [verC, Value.oneCell']) ?_; intro W9 HW9 TW9)
          | fail)
        exact bodyPost_ret (v := .agg (verC 3 ⟨#[]⟩ ⟨#[]⟩)) (results_cell_row rfl _ _ (w.heap.size + 1) 46 _ _ _ rfl HW9 Tryz.underlying46 rfl (by kernel_rfl)) rfl
          ⟨rfl, S4.out.1.trans (TW9.below S4.out.1.size (fun j hj e => by omega))⟩
      · refine ((H.out.below S3.out.1).at_ok i h1 text h2).mono ?_
        rintro en w3 ⟨rfl, b3⟩
        have S4 : Hid (Below w.heap.size w w3 ∧ Has w3 (w.heap.size + 1) 46 (verC 0 ⟨#[]⟩ ⟨#[]⟩)) := Lib.hid ⟨S3.out.1.trans (b3.mono S3.out.1.size), S3.out.2.1.below b3 S3.out.2.1.lt⟩
        clear b3 S3 q1
        have hss : (text.toList == text.toList) = true := by simp
        go_wp2_with (first
          | ((with_reducible refine at_store (.tmp 6) ?_); refine wpList_store_cells (o := ⟨none, _, _, _, _, _⟩) rfl 46 (.tmp 6) (.tmp 50) rfl (w.heap.size + 1) (verC 1 ⟨#[]⟩ ⟨#[]⟩) (verC 0 ⟨#[]⟩ ⟨#[]⟩) rfl rfl _ S4.out.2 (by kernel_rfl) rfl (by simp [verC, Value.oneCell']) ?_; intro W9 HW9 TW9)
          | fail)
        exact bodyPost_ret (v := .agg (verC 1 ⟨#[]⟩ ⟨#[]⟩)) (results_cell_row rfl _ _ (w.heap.size + 1) 46 _ _ _ rfl HW9 Tryz.underlying46 rfl (by kernel_rfl)) rfl
          ⟨rfl, S4.out.1.trans (TW9.below S4.out.1.size (fun j hj e => by omega))⟩
    · obtain ⟨b, rfl⟩ : ∃ b, e = .iface 125 (.pointer (some ⟨b, 0, none⟩)) := by
        rcases HER.out with ⟨h, _⟩ | ⟨_, b, h, _⟩
        · exact absurd h hE0
        · exact ⟨b, h⟩
      obtain rfl : k = 0 := by
        rcases HK.out with h | h
        · exact h.2
        · exact absurd h.1 hE0
      clear hE0
      go_wp2_with (first
        | ((with_reducible refine at_store (.tmp 6) ?_); refine wpList_store_cells (o := ⟨none, _, _, _, _, _⟩) rfl 46 (.tmp 6) (.tmp 36) rfl (w.heap.size + 1) (verC 0 ⟨#[]⟩ ⟨#[]⟩) (verC 0 ⟨#[]⟩ ⟨#[]⟩) rfl rfl _ S3.out.2.1 (by kernel_rfl) rfl (by simp [verC, Value.oneCell']) ?_; intro W9 HW9 TW9)
        | fail)
      exact bodyPost_ret (v := .agg (verC 0 ⟨#[]⟩ ⟨#[]⟩)) (results_cell_row rfl _ _ (w.heap.size + 1) 46 _ _ _ rfl HW9 Tryz.underlying46 rfl (by kernel_rfl)) rfl
        ⟨rfl, S3.out.1.trans (TW9.below S3.out.1.size (fun j hj e => by omega))⟩
  · rw [if_neg hK] at HE
    obtain rfl : k = 0 := by
      rcases HK.out with h | h
      · exact h.2
      · have := HE.out; omega
    have hK1 : (K != 1) = true := by simpa using hK
    have hK2 : (K == 1) = false := by simpa using hK
    clear hK hkk
    go_wp2_with (first
      | ((with_reducible refine at_store (.tmp 7) ?_); refine wpList_store_head (o := ⟨none, _, _, _, _, _⟩) rfl (.tmp 7) (.tmp 19) rfl w1.heap.size n 0 R (List.replicate 32 0) rfl rfl (made_at _ _ rfl) RL.out (by simp) ?_; intro Wb HWb TWb;
         (have S2 : Hid (Below w.heap.size w Wb ∧ Has Wb (w.heap.size + 1) 46 (verC 0 ⟨#[]⟩ ⟨#[]⟩) ∧ Has Wb w.heap.size 25 (prC K I n (.slice a lr c))) := (by
           have bb : Below w1.heap.size w1 Wb := ((Below.refl _ _).alloc (Nat.le_refl _) _).trans (TWb.below (by simp) (fun j hj e => by omega))
           exact Lib.hid ⟨S1.out.1.trans (bb.mono S1.out.1.size), S1.out.2.1.below bb S1.out.2.1.lt, S1.out.2.2.below bb S1.out.2.2.lt⟩));
         have q0 : Wb.cell? ⟨w.heap.size, 0, none⟩ = some (.int .i64 K) := S2.out.2.2.cell 0;
         clear HWb TWb S1)
      | ((with_reducible refine at_store (.tmp 6) ?_); refine wpList_store_cells (o := ⟨none, _, _, _, _, _⟩) rfl 46 (.tmp 6) (.tmp 36) rfl (w.heap.size + 1) (verC 0 ⟨#[]⟩ ⟨#[]⟩) (verC 0 ⟨#[]⟩ ⟨#[]⟩) rfl rfl _ S2.out.2.1 (by kernel_rfl) rfl (by simp [verC, Value.oneCell']) ?_; intro W9 HW9 TW9)
      | fail)
    exact bodyPost_ret (v := .agg (verC 0 ⟨#[]⟩ ⟨#[]⟩)) (results_cell_row rfl _ _ (w.heap.size + 1) 46 _ _ _ rfl HW9 Tryz.underlying46 rfl (by kernel_rfl)) rfl
      ⟨rfl, S2.out.1.trans (TW9.below S2.out.1.size (fun j hj e => by omega))⟩
end
end Go.Proofs.YtdoadmkaoboncaaGreatDoor.aud
end

section
/- proof: heads compared. -/
namespace Go.Proofs.YtdoadmkaoboncaaGreatDoor.prf
open Go Go.RowKit Go.Proofs.YtdoadmkaoboncaaGreatDoor.dig

theorem headFields : ∃ f0 f1 : Field, (Tryz.prog.fieldsOf 41).toList = [f0, f1] ∧ f0.name = "N" ∧ f0.type = 3 ∧ f0.offset = 0 ∧ f1.name = "Root" ∧ f1.type = 38 ∧ f1.offset = 1 := by
  have h : (Tryz.prog.fieldsOf 41).toList.map (fun f => (f.name, f.type, f.offset)) = [("N", 3, 0), ("Root", 38, 1)] := by kernel_rfl
  generalize (Tryz.prog.fieldsOf 41).toList = l at h
  rcases l with _ | ⟨f0, _ | ⟨f1, _ | ⟨f2, l⟩⟩⟩
  · simp at h
  · simp at h
  · simp only [List.map_cons, List.map_nil, List.cons.injEq, Prod.mk.injEq, and_true] at h
    exact ⟨f0, f1, rfl, h.1.1, h.1.2.1, h.1.2.2, h.2.1, h.2.2.1, h.2.2.2⟩
  · simp at h

theorem headC_cut (n : Int) (xs : List UInt8) (h : xs.length = 32) : (headC n xs).extract 1 (1 + 32) = cellsOf xs := by
  unfold headC cellsOf
  apply Array.toList_inj.1
  simp [h, List.take_of_length_le]

theorem hq_p0 (n : Int) (xs : List UInt8) (w : World) : (part 3 (headC n xs) 0).run Tryz.prog w = .ok (.int .i64 n) w := by
  have h0 : (headC n xs)[0]? = some (.int .i64 n) := by simp [headC]
  simp [part, Tryz.isAgg3, h0]
theorem hq_q0 (n : Int) (xs : List UInt8) (hx : xs.length = 32) (w : World) : (part 38 (headC n xs) 1).run Tryz.prog w = .ok (.agg (cellsOf xs)) w := by
  have h0 := headC_cut n xs hx
  simp only [part, Sem.run_bind, Tryz.isAgg38, Tryz.sizeOf38, Result.andThen_ok, if_true, Sem.run_pure, h0]
theorem eqFields_cons {P : Program} (d : Nat) (xs ys : Array Value) (f : Field) (fs : List Field) (hn : f.name ≠ "_") (a b : Value) (r : Bool) (w : World)
    (ha : (part f.type xs f.offset).run P w = .ok a w) (hb : (part f.type ys f.offset).run P w = .ok b w) (hr : (Op.equalIn d f.type a b).run P w = .ok r w) :
    (Op.eqFields d xs ys (f :: fs)).run P w = if r = true then (Op.eqFields d xs ys fs).run P w else .ok false w := by
  rw [Op.eqFields, if_pos hn]
  simp only [Sem.run_bind, ha, hb, hr, Result.andThen_ok]
  cases r <;> simp
theorem hq_fields (d : Nat) (n m : Int) (xs ys : List UInt8) (hx : xs.length = 32) (hy : ys.length = 32) (w : World) (f0 f1 : Field) (a1 : f0.name = "N") (a2 : f0.type = 3) (a3 : f0.offset = 0) (b1 : f1.name = "Root") (b2 : f1.type = 38) (b3 : f1.offset = 1) :
    (Op.eqFields (d + 2) (headC n xs) (headC m ys) [f0, f1]).run Tryz.prog w = .ok (n == m && xs == ys) w := by
  have hs := run_equalIn_bytes (P := Tryz.prog) d (t := 38) (e := 5) 32 Tryz.underlying38 Tryz.underlying5 (by kernel_rfl) xs ys hx hy w
  have hi : (Op.equalIn (d + 2) 3 (.int .i64 n) (.int .i64 m)).run Tryz.prog w = .ok (n == m) w := run_equalIn_int w (P := Tryz.prog) (d + 1) 3 .i64 .i64 n m Tryz.underlying3
  rw [eqFields_cons (d + 2) _ _ f0 [f1] (by rw [a1]; decide) (.int .i64 n) (.int .i64 m) (n == m) w (by rw [a2, a3]; exact hq_p0 n xs w) (by rw [a2, a3]; exact hq_p0 m ys w) (by rw [a2]; exact hi)]
  rw [eqFields_cons (d + 2) _ _ f1 [] (by rw [b1]; decide) (.agg (cellsOf xs)) (.agg (cellsOf ys)) (xs == ys) w (by rw [b2, b3]; exact hq_q0 n xs hx w) (by rw [b2, b3]; exact hq_q0 m ys hy w) (by rw [b2]; exact hs)]
  have h0 : (Op.eqFields (d + 2) (headC n xs) (headC m ys) []).run Tryz.prog w = .ok true w := by unfold Op.eqFields; simp
  rw [h0]
  cases n == m <;> cases xs == ys <;> simp
theorem run_equalIn_head (d : Nat) (n m : Int) (xs ys : List UInt8) (hx : xs.length = 32) (hy : ys.length = 32) (w : World) :
    (Op.equalIn (d + 2 + 1) 41 (.agg (headC n xs)) (.agg (headC m ys))).run Tryz.prog w = .ok (n == m && xs == ys) w := by
  rw [run_equalIn_struct w (d + 2) 41 _ _ (by kernel_rfl) (by kernel_rfl)]
  obtain ⟨f0, f1, hf, a1, a2, a3, b1, b2, b3⟩ := headFields
  rw [hf]
  exact hq_fields d n m xs ys hx hy w f0 f1 a1 a2 a3 b1 b2 b3
theorem run_eql_head (n m : Int) (xs ys : List UInt8) (hx : xs.length = 32) (hy : ys.length = 32) (w : World) :
    (binOp .eql 41 (.agg (headC n xs)) (.agg (headC m ys))).run Tryz.prog w = .ok (.bool (n == m && xs == ys)) w := by
  rw [run_eql_struct, run_equalIn_head 9997 n m xs ys hx hy]
  rfl
theorem run_eql_head_same (n : Int) (xs : List UInt8) (hx : xs.length = 32) (w : World) :
    (binOp .eql 41 (.agg (headC n xs)) (.agg (headC n xs))).run Tryz.prog w = .ok (.bool true) w := by
  rw [run_eql_head n n xs xs hx hx]
  simp
end Go.Proofs.YtdoadmkaoboncaaGreatDoor.prf
end

section
/- audit: Prefix, where it refuses, and where what is proved is so, or is gone. -/
namespace Go.Proofs.YtdoadmkaoboncaaGreatDoor.aud
open Go Go.RowKit Go.Proofs.YtdoadmkaoboncaaGreatDoor.dig Go.Proofs.YtdoadmkaoboncaaGreatDoor.prf Go.Proofs.YtdoadmkaoboncaaGreatDoor.prn

section
variable {B : Nat} {F : Nat → Prop} {w : World} {vb fl : Nat} {L : List ByteArray}

set_option maxRecDepth 100000 in
set_option maxHeartbeats 2000000 in
theorem aprefix_nohead (h : Va B F w vb L fl) (m : Int) {old : List UInt8} (_ho : old.length = 32) (K I N : Int) (v : Value) (E : Int) (hx : (E = 6 ∧ (N < 0 ∨ N > L.length)) ∨ (E = 14 ∧ 0 ≤ N ∧ N ≤ L.length ∧ N < fl)) :
    Calls Tryz.prog 13 #[.pointer (some ⟨vb, 0, none⟩), .agg (headC m old), .agg (prC K I N v)] w fun en w' => en = .returned (.agg (verC 0 ⟨#[]⟩ ⟨#[]⟩)) ∧ Below w.heap.size w w' := by
  have H := Lib.hid h
  have HX := Lib.hid hx
  have p2 : ∀ A C, (((w.alloc A).alloc (.cells (prC K I N v) 25)).alloc C).cell? ⟨w.heap.size + 1, 2, none⟩ = some (.int .i64 N) := fun A C => ((made_at _ _ (by simp)).alloc _).cell 2
  clear h hx
  go_enter Tryz.func13, Tryz.ntmps13
  go_wp2_with fail
  refine callsName (fun W hW => ?_)
  have B0 : Hid (Below w.heap.size w W ∧ Has W (w.heap.size + 1 + 1) 46 (verC 0 ⟨#[]⟩ ⟨#[]⟩)) := by rw [← hW]; exact Lib.hid ⟨(((Below.refl _ _).alloc (Nat.le_refl _) _).alloc (by simp) _).alloc (by simp; omega) _, made_at _ _ (by simp)⟩
  clear hW p2
  refine ((H.out.below B0.out.1).head_err N E HX.out).mono ?_
  obtain ⟨q, hq⟩ : ∃ q : List UInt8, q = List.replicate 32 0 := ⟨_, rfl⟩
  have QL : Hid (q.length = 32) := Lib.hid (by rw [hq]; simp)
  rw [← hq]
  clear hq
  rintro en w1 ⟨b, rfl, hb, her, b1⟩
  have hev : flt.ev [⟨b, headNm, N⟩] E = .iface 125 (.pointer (some ⟨b, 0, none⟩)) := rfl
  rw [hev]
  have S1 : Hid (Below w.heap.size w w1 ∧ Has w1 (w.heap.size + 1 + 1) 46 (verC 0 ⟨#[]⟩ ⟨#[]⟩)) := Lib.hid ⟨B0.out.1.trans (b1.mono B0.out.1.size), B0.out.2.below b1 B0.out.2.lt⟩
  clear b1 B0 her hb hev
  go_wp2_with (first
    | ((with_reducible refine at_store (.tmp 7) ?_); refine wpList_store_head (o := ⟨none, _, _, _, _, _⟩) rfl (.tmp 7) (.tmp 18) rfl w1.heap.size 0 0 q (List.replicate 32 0) rfl rfl (made_at _ _ rfl) QL.out (by simp) ?_; intro Wb HWb TWb;
       (have S2 : Hid (Below w.heap.size w Wb ∧ Has Wb (w.heap.size + 1 + 1) 46 (verC 0 ⟨#[]⟩ ⟨#[]⟩)) := (by
         have bb : Below w1.heap.size w1 Wb := ((Below.refl _ _).alloc (Nat.le_refl _) _).trans (TWb.below (by simp) (fun j hj e => by omega))
         exact Lib.hid ⟨S1.out.1.trans (bb.mono S1.out.1.size), S1.out.2.below bb S1.out.2.lt⟩));
       clear HWb TWb S1)
    | ((with_reducible refine at_store (.tmp 6) ?_); refine wpList_store_cells (o := ⟨none, _, _, _, _, _⟩) rfl 46 (.tmp 6) (.tmp 34) rfl (w.heap.size + 1 + 1) (verC 0 ⟨#[]⟩ ⟨#[]⟩) (verC 0 ⟨#[]⟩ ⟨#[]⟩) rfl rfl _ S2.out.2 (by kernel_rfl) rfl (by simp [verC, Value.oneCell']) ?_; intro W9 HW9 TW9)
    | fail)
  exact bodyPost_ret (v := .agg (verC 0 ⟨#[]⟩ ⟨#[]⟩)) (results_cell_row rfl _ _ (w.heap.size + 1 + 1) 46 _ _ _ rfl HW9 Tryz.underlying46 rfl (by kernel_rfl)) rfl
    ⟨rfl, S2.out.1.trans (TW9.below S2.out.1.size (fun j hj e => by omega))⟩

/-- How a look at a prefix's proof ends, if it ends without a look at the commands; E: what Proves answers, 1 of a proof of another kind. -/
def EndsP (L : List ByteArray) (fl : Nat) (m : Int) (old : List UInt8) (E k : Int) : Prop :=
  (E ≠ 0 ∧ k = 0) ∨ (E = 0 ∧ ∃ j : Nat, m = j ∧ j ≤ L.length ∧ ((j < fl ∧ k = 3) ∨ (fl ≤ j ∧ old = rtAll (leafF L) j ∧ k = 1)))
/-- What Proves answers of a prefix's proof. -/
def provE (K I m : Int) (old : List UInt8) (n : Int) (root : List UInt8) (r : List (List UInt8)) : Int := if K = 2 then (if I = m then consE m old n root r else 4) else 1

set_option maxRecDepth 100000 in
set_option maxHeartbeats 4000000 in
theorem aprefix_ok (h : Va B F w vb L fl) (hN : L.length < 1024) (m : Int) {old : List UInt8} (ho : old.length = 32) (K I : Int) (n : Nat) (hf : fl ≤ n) (hn : n ≤ L.length) (r : List (List UInt8)) (a : Option Addr) (c : Nat) (hS : Sms w (.slice a r.length c) r)
    (E k : Int) (hE : E = provE K I m old n (rtAll (leafF L) n) r) (hk : EndsP L fl m old E k) :
    Calls Tryz.prog 13 #[.pointer (some ⟨vb, 0, none⟩), .agg (headC m old), .agg (prC K I n (.slice a r.length c))] w fun en w' => en = .returned (.agg (verC k ⟨#[]⟩ ⟨#[]⟩)) ∧ Below w.heap.size w w' := by
  have H := Lib.hid h
  have HK := Lib.hid hk
  have HE := Lib.hid hE
  have HNN := Lib.hid (show _ ∧ _ ∧ _ from ⟨hN, hf, hn⟩)
  have HS := Lib.hid hS
  have HO := Lib.hid ho
  have RL : Hid ((rtAll (leafF L) n).length = 32) := Lib.hid (rtAll_len (leafF_len L) n)
  obtain ⟨R, hR⟩ : ∃ R, R = rtAll (leafF L) n := ⟨_, rfl⟩
  obtain ⟨lr, hlr⟩ : ∃ lr, lr = r.length := ⟨_, rfl⟩
  have HLR := Lib.hid hlr
  rw [← hR] at RL HE
  rw [← hlr] at HS ⊢
  have HR := Lib.hid hR
  have p2 : ∀ A C, (((w.alloc A).alloc (.cells (prC K I n (.slice a lr c)) 25)).alloc C).cell? ⟨w.heap.size + 1, 2, none⟩ = some (.int .i64 n) := fun A C => ((made_at _ _ (by simp)).alloc _).cell 2
  clear h hk hE hN hf hn hS hR hlr ho
  go_enter Tryz.func13, Tryz.ntmps13
  go_wp2_with fail
  refine callsName (fun W hW => ?_)
  have B0 : Hid (Below w.heap.size w W ∧ Has W (w.heap.size + 1 + 1) 46 (verC 0 ⟨#[]⟩ ⟨#[]⟩) ∧ Has W (w.heap.size + 1) 25 (prC K I n (.slice a lr c)) ∧ Has W w.heap.size 41 (headC m old)) := by
    rw [← hW]
    exact Lib.hid ⟨(((Below.refl _ _).alloc (Nat.le_refl _) _).alloc (by simp) _).alloc (by simp; omega) _, made_at _ _ (by simp), (made_at _ _ (by simp)).alloc _, ((made_at _ _ rfl).alloc _).alloc _⟩
  clear hW p2
  refine ((H.out.below B0.out.1).head HNN.out.1 n HNN.out.2.1 HNN.out.2.2).mono ?_
  rw [← HR.out]
  rintro en w1 ⟨rfl, b1⟩
  have S1 : Hid (Below w.heap.size w w1 ∧ Has w1 (w.heap.size + 1 + 1) 46 (verC 0 ⟨#[]⟩ ⟨#[]⟩) ∧ Has w1 (w.heap.size + 1) 25 (prC K I n (.slice a lr c)) ∧ Has w1 w.heap.size 41 (headC m old)) := Lib.hid ⟨B0.out.1.trans (b1.mono B0.out.1.size), B0.out.2.1.below b1 B0.out.2.1.lt, B0.out.2.2.1.below b1 B0.out.2.2.1.lt, B0.out.2.2.2.below b1 B0.out.2.2.2.lt⟩
  clear b1 B0
  by_cases hK : K = 2
  · subst hK
    go_wp2_with (first
      | ((with_reducible refine at_store (.tmp 7) ?_); refine wpList_store_head (o := ⟨none, _, _, _, _, _⟩) rfl (.tmp 7) (.tmp 18) rfl w1.heap.size n 0 R (List.replicate 32 0) rfl rfl (made_at _ _ rfl) RL.out (by simp) ?_; intro Wb HWb TWb;
         (have S2 : Hid (Below w.heap.size w Wb ∧ Has Wb (w.heap.size + 1 + 1) 46 (verC 0 ⟨#[]⟩ ⟨#[]⟩) ∧ Has Wb (w.heap.size + 1) 25 (prC 2 I n (.slice a lr c)) ∧ Has Wb w.heap.size 41 (headC m old) ∧ Has Wb w1.heap.size 41 (headC n R)) := (by
           have bb : Below w1.heap.size w1 Wb := ((Below.refl _ _).alloc (Nat.le_refl _) _).trans (TWb.below (by simp) (fun j hj e => by omega))
           exact Lib.hid ⟨S1.out.1.trans (bb.mono S1.out.1.size), S1.out.2.1.below bb S1.out.2.1.lt, S1.out.2.2.1.below bb S1.out.2.2.1.lt, S1.out.2.2.2.below bb S1.out.2.2.2.lt, HWb⟩));
         have q0 : Wb.cell? ⟨w.heap.size + 1, 0, none⟩ = some (.int .i64 2) := S2.out.2.2.1.cell 0;
         have q1 : Wb.cell? ⟨w.heap.size + 1, 1, none⟩ = some (.int .i64 I) := S2.out.2.2.1.cell 1;
         have q2 : Wb.cell? ⟨w.heap.size + 1, 2, none⟩ = some (.int .i64 n) := S2.out.2.2.1.cell 2;
         have q3 : Wb.cell? ⟨w.heap.size + 1, 3, none⟩ = some (.slice a lr c) := S2.out.2.2.1.cell 3;
         have hlh : (Instr.loadAt 41 (.pointer (some ⟨w1.heap.size, 0, none⟩))).run Tryz.prog Wb = .ok (.agg (headC n R)) Wb := prf.Has.load_hd S2.out.2.2.2.2 RL.out;
         have hlo : (Instr.loadAt 41 (.pointer (some ⟨w.heap.size, 0, none⟩))).run Tryz.prog Wb = .ok (.agg (headC m old)) Wb := prf.Has.load_hd S2.out.2.2.2.1 HO.out;
         clear HWb TWb S1)
      | ((with_reducible refine at_opg 29 ?_); refine wpList_load_if (o := ⟨some 29, _, _, _, _, _⟩) (by kernel_rfl) 41 (.tmp 4) rfl (.pointer (some ⟨w.heap.size, 0, none⟩)) rfl hlo ?_)
      | ((with_reducible refine at_opg 30 ?_); refine wpList_load_if (o := ⟨some 30, _, _, _, _, _⟩) (by kernel_rfl) 41 (.tmp 7) rfl (.pointer (some ⟨w1.heap.size, 0, none⟩)) rfl hlh ?_)
      | fail)
    have HPV : Hid (Calls Tryz.prog 27 #[.agg (prC 2 I n (.slice a lr c)), .string ⟨#[]⟩, .agg (headC m old), .agg (headC n R)] Wb fun en w' => ∃ e, en = .returned e ∧ ((E = 0 ∧ e = .nilIface) ∨ (E ≠ 0 ∧ ∃ b, e = .iface 125 (.pointer (some ⟨b, 0, none⟩)))) ∧ Below Wb.heap.size Wb w') := Lib.hid (by
      have conv : ∀ {s : ByteArray} {x : Int} {en : Ending} {w' : World}, ErrPost Wb s x E en w' → ∃ e, en = .returned e ∧ ((E = 0 ∧ e = .nilIface) ∨ (E ≠ 0 ∧ ∃ b, e = .iface 125 (.pointer (some ⟨b, 0, none⟩)))) ∧ Below Wb.heap.size Wb w' := by
        rintro s x en w' ⟨e, rfl, he, b⟩
        refine ⟨e, rfl, ?_, b⟩
        rcases he with h | ⟨h, bb, rfl, _⟩
        · exact .inl h
        · exact .inr ⟨h, bb, rfl⟩
      have hE := HE.out
      unfold provE at hE
      rw [if_pos rfl] at hE
      by_cases hI : I = m
      · subst hI
        rw [if_pos rfl] at hE
        refine (proves_prefix HO.out RL.out ⟨#[]⟩ I n (.slice a lr c) Wb E (fun U hU => ?_)).mono fun _ _ => conv
        have h1 := cons_calls HO.out RL.out I n (by have := HNN.out; omega) r a c U ((H.out.below (S2.out.1.trans (hU.mono S2.out.1.size))).rt.rk) (by rw [← HLR.out]; exact HS.out.below (S2.out.1.trans (hU.mono S2.out.1.size)))
        rw [← HLR.out, ← hE] at h1
        exact h1
      · rw [if_neg hI] at hE
        have h1 := proves_none (old := old) (root := R) ⟨#[]⟩ 2 I n m n (by unfold kindOf; rw [if_neg (by omega), if_neg (by omega)]) (.slice a lr c) Wb
        rw [← hE] at h1
        exact h1.mono fun _ _ => conv)
    refine HPV.out.mono ?_
    rintro en w2 ⟨e, rfl, he, b2⟩
    have S3 : Hid (Below w.heap.size w w2 ∧ Has w2 (w.heap.size + 1 + 1) 46 (verC 0 ⟨#[]⟩ ⟨#[]⟩) ∧ Has w2 w.heap.size 41 (headC m old)) :=
      Lib.hid ⟨S2.out.1.trans (b2.mono S2.out.1.size), S2.out.2.1.below b2 S2.out.2.1.lt, S2.out.2.2.2.1.below b2 S2.out.2.2.2.1.lt⟩
    have HER := Lib.hid he
    clear b2 S2 HPV q0 q1 q2 q3 hlh hlo he
    by_cases hE0 : E = 0
    · subst hE0
      obtain rfl : e = .nilIface := by
        rcases HER.out with ⟨_, h⟩ | ⟨h, _⟩
        · exact h
        · exact absurd rfl h
      obtain ⟨j, rfl, hjl, hk⟩ : ∃ j : Nat, m = j ∧ j ≤ L.length ∧ ((j < fl ∧ k = 3) ∨ (fl ≤ j ∧ old = rtAll (leafF L) j ∧ k = 1)) := by
        rcases HK.out with h | h
        · exact absurd rfl h.1
        · exact h.2
      have q1 : w2.cell? ⟨w.heap.size, 0, none⟩ = some (.int .i64 j) := prf.Has.num S3.out.2.2
      go_wp2_with fail
      rcases hk with ⟨h1, rfl⟩ | ⟨h1, h2, rfl⟩
      · refine ((H.out.below S3.out.1).head_err j 14 (.inr ⟨rfl, by omega, by omega, by omega⟩)).mono ?_
        obtain ⟨q, hq⟩ : ∃ q : List UInt8, q = List.replicate 32 0 := ⟨_, rfl⟩
        have QL : Hid (q.length = 32) := Lib.hid (by rw [hq]; simp)
        rw [← hq]
        clear hq
        rintro en w3 ⟨b, rfl, hb, her, b3⟩
        have hev : flt.ev [⟨b, headNm, (j : Int)⟩] 14 = .iface 125 (.pointer (some ⟨b, 0, none⟩)) := rfl
        rw [hev]
        have S4 : Hid (Below w.heap.size w w3 ∧ Has w3 (w.heap.size + 1 + 1) 46 (verC 0 ⟨#[]⟩ ⟨#[]⟩)) := Lib.hid ⟨S3.out.1.trans (b3.mono S3.out.1.size), S3.out.2.1.below b3 S3.out.2.1.lt⟩
        clear b3 S3 her hb hev q1
        go_wp2_with (first
          | ((with_reducible refine at_store (.tmp 9) ?_); refine wpList_store_head (o := ⟨none, _, _, _, _, _⟩) rfl (.tmp 9) (.tmp 40) rfl w3.heap.size 0 0 q (List.replicate 32 0) rfl rfl (made_at _ _ rfl) QL.out (by simp) ?_; intro Wc HWb TWb;
             (have S5 : Hid (Below w.heap.size w Wc ∧ Has Wc (w.heap.size + 1 + 1) 46 (verC 0 ⟨#[]⟩ ⟨#[]⟩)) := (by
               have bb : Below w3.heap.size w3 Wc := ((Below.refl _ _).alloc (Nat.le_refl _) _).trans (TWb.below (by simp) (fun j hj e => by omega))
               exact Lib.hid ⟨S4.out.1.trans (bb.mono S4.out.1.size), S4.out.2.below bb S4.out.2.lt⟩));
             clear HWb TWb S4)
          | ((with_reducible refine at_store (.tmp 6) ?_); refine wpList_store_cells (o := ⟨none, _, _, _, _, _⟩) rfl 46 (.tmp 6) (.tmp 44) rfl (w.heap.size + 1 + 1) (verC 3 ⟨#[]⟩ ⟨#[]⟩) (verC 0 ⟨#[]⟩ ⟨#[]⟩) rfl rfl _ S5.out.2 (by kernel_rfl) rfl (by simp [verC, Value.oneCell']) ?_; intro W9 HW9 TW9)
          | fail)
        exact bodyPost_ret (v := .agg (verC 3 ⟨#[]⟩ ⟨#[]⟩)) (results_cell_row rfl _ _ (w.heap.size + 1 + 1) 46 _ _ _ rfl HW9 Tryz.underlying46 rfl (by kernel_rfl)) rfl
          ⟨rfl, S5.out.1.trans (TW9.below S5.out.1.size (fun j hj e => by omega))⟩
      · refine ((H.out.below S3.out.1).head HNN.out.1 j h1 hjl).mono ?_
        rw [← h2]
        clear h1 h2 hjl
        rintro en w3 ⟨rfl, b3⟩
        have S4 : Hid (Below w.heap.size w w3 ∧ Has w3 (w.heap.size + 1 + 1) 46 (verC 0 ⟨#[]⟩ ⟨#[]⟩) ∧ Has w3 w.heap.size 41 (headC j old)) := Lib.hid ⟨S3.out.1.trans (b3.mono S3.out.1.size), S3.out.2.1.below b3 S3.out.2.1.lt, S3.out.2.2.below b3 S3.out.2.2.lt⟩
        clear b3 S3 q1
        have he := fun V => run_eql_head_same (j : Int) old HO.out V
        have hh1 : Hid ((headC (j : Int) old).size = 33) := Lib.hid (by rw [headC_size, HO.out])
        go_wp2_with (first
          | ((with_reducible refine at_store (.tmp 9) ?_); refine wpList_store_head (o := ⟨none, _, _, _, _, _⟩) rfl (.tmp 9) (.tmp 40) rfl w3.heap.size j 0 old (List.replicate 32 0) rfl rfl (made_at _ _ rfl) HO.out (by simp) ?_; intro Wc HWb TWb;
             (have S5 : Hid (Below w.heap.size w Wc ∧ Has Wc (w.heap.size + 1 + 1) 46 (verC 0 ⟨#[]⟩ ⟨#[]⟩) ∧ Has Wc w.heap.size 41 (headC j old) ∧ Has Wc w3.heap.size 41 (headC j old)) := (by
               have bb : Below w3.heap.size w3 Wc := ((Below.refl _ _).alloc (Nat.le_refl _) _).trans (TWb.below (by simp) (fun j hj e => by omega))
               exact Lib.hid ⟨S4.out.1.trans (bb.mono S4.out.1.size), S4.out.2.1.below bb S4.out.2.1.lt, S4.out.2.2.below bb S4.out.2.2.lt, HWb⟩));
             clear HWb TWb S4)
          | ((with_reducible refine at_op 45 ?_); refine wpList_load_row (o := ⟨some 45, _, _, _, _, _⟩) rfl 41 _ rfl w3.heap.size rfl 41 (headC j old) (0, 0) _ S5.out.2.2.2 Tryz.underlying41 rfl (by rw [hh1.out]; kernel_rfl) ?_)
          | ((with_reducible refine at_op 46 ?_); refine wpList_load_row (o := ⟨some 46, _, _, _, _, _⟩) rfl 41 _ rfl w.heap.size rfl 41 (headC j old) (0, 0) _ S5.out.2.2.1 Tryz.underlying41 rfl (by rw [hh1.out]; kernel_rfl) ?_)
          | ((with_reducible refine at_store (.tmp 6) ?_); refine wpList_store_cells (o := ⟨none, _, _, _, _, _⟩) rfl 46 (.tmp 6) (.tmp 48) rfl (w.heap.size + 1 + 1) (verC 1 ⟨#[]⟩ ⟨#[]⟩) (verC 0 ⟨#[]⟩ ⟨#[]⟩) rfl rfl _ S5.out.2.1 (by kernel_rfl) rfl (by simp [verC, Value.oneCell']) ?_; intro W9 HW9 TW9)
          | fail)
        exact bodyPost_ret (v := .agg (verC 1 ⟨#[]⟩ ⟨#[]⟩)) (results_cell_row rfl _ _ (w.heap.size + 1 + 1) 46 _ _ _ rfl HW9 Tryz.underlying46 rfl (by kernel_rfl)) rfl
          ⟨rfl, S5.out.1.trans (TW9.below S5.out.1.size (fun j hj e => by omega))⟩
    · obtain ⟨b, rfl⟩ : ∃ b, e = .iface 125 (.pointer (some ⟨b, 0, none⟩)) := by
        rcases HER.out with ⟨h, _⟩ | ⟨_, b, h⟩
        · exact absurd h hE0
        · exact ⟨b, h⟩
      obtain rfl : k = 0 := by
        rcases HK.out with h | h
        · exact h.2
        · exact absurd h.1 hE0
      clear hE0
      go_wp2_with (first
        | ((with_reducible refine at_store (.tmp 6) ?_); refine wpList_store_cells (o := ⟨none, _, _, _, _, _⟩) rfl 46 (.tmp 6) (.tmp 34) rfl (w.heap.size + 1 + 1) (verC 0 ⟨#[]⟩ ⟨#[]⟩) (verC 0 ⟨#[]⟩ ⟨#[]⟩) rfl rfl _ S3.out.2.1 (by kernel_rfl) rfl (by simp [verC, Value.oneCell']) ?_; intro W9 HW9 TW9)
        | fail)
      exact bodyPost_ret (v := .agg (verC 0 ⟨#[]⟩ ⟨#[]⟩)) (results_cell_row rfl _ _ (w.heap.size + 1 + 1) 46 _ _ _ rfl HW9 Tryz.underlying46 rfl (by kernel_rfl)) rfl
        ⟨rfl, S3.out.1.trans (TW9.below S3.out.1.size (fun j hj e => by omega))⟩
  · have hE := HE.out
    unfold provE at hE
    rw [if_neg hK] at hE
    obtain rfl : k = 0 := by
      rcases HK.out with h | h
      · exact h.2
      · have := h.1; omega
    have hK1 : (K != 2) = true := by simpa using hK
    have hK2 : (K == 2) = false := by simpa using hK
    clear hK hE
    go_wp2_with (first
      | ((with_reducible refine at_store (.tmp 7) ?_); refine wpList_store_head (o := ⟨none, _, _, _, _, _⟩) rfl (.tmp 7) (.tmp 18) rfl w1.heap.size n 0 R (List.replicate 32 0) rfl rfl (made_at _ _ rfl) RL.out (by simp) ?_; intro Wb HWb TWb;
         (have S2 : Hid (Below w.heap.size w Wb ∧ Has Wb (w.heap.size + 1 + 1) 46 (verC 0 ⟨#[]⟩ ⟨#[]⟩) ∧ Has Wb (w.heap.size + 1) 25 (prC K I n (.slice a lr c))) := (by
           have bb : Below w1.heap.size w1 Wb := ((Below.refl _ _).alloc (Nat.le_refl _) _).trans (TWb.below (by simp) (fun j hj e => by omega))
           exact Lib.hid ⟨S1.out.1.trans (bb.mono S1.out.1.size), S1.out.2.1.below bb S1.out.2.1.lt, S1.out.2.2.1.below bb S1.out.2.2.1.lt⟩));
         have q0 : Wb.cell? ⟨w.heap.size + 1, 0, none⟩ = some (.int .i64 K) := S2.out.2.2.cell 0;
         clear HWb TWb S1)
      | ((with_reducible refine at_store (.tmp 6) ?_); refine wpList_store_cells (o := ⟨none, _, _, _, _, _⟩) rfl 46 (.tmp 6) (.tmp 34) rfl (w.heap.size + 1 + 1) (verC 0 ⟨#[]⟩ ⟨#[]⟩) (verC 0 ⟨#[]⟩ ⟨#[]⟩) rfl rfl _ S2.out.2.1 (by kernel_rfl) rfl (by simp [verC, Value.oneCell']) ?_; intro W9 HW9 TW9)
      | fail)
    exact bodyPost_ret (v := .agg (verC 0 ⟨#[]⟩ ⟨#[]⟩)) (results_cell_row rfl _ _ (w.heap.size + 1 + 1) 46 _ _ _ rfl HW9 Tryz.underlying46 rfl (by kernel_rfl)) rfl
      ⟨rfl, S2.out.1.trans (TW9.below S2.out.1.size (fun j hj e => by omega))⟩
end
end Go.Proofs.YtdoadmkaoboncaaGreatDoor.aud
end

section
/- clash: under, Is. -/
namespace Go.Proofs.YtdoadmkaoboncaaGreatDoor.clash
open Go Go.RowKit Go.Proofs.YtdoadmkaoboncaaGreatDoor.dig

/-- The text under the Node of two sums. -/
def underS (a b : List UInt8) : ByteArray := ⟨(1 :: (a ++ b)).toArray⟩
theorem underS_of (a b : List UInt8) : (⟨#[1]⟩ ++ (⟨a.toArray⟩ : ByteArray) ++ (⟨b.toArray⟩ : ByteArray) : ByteArray) = underS a b := by
  apply ByteArray.ext
  simp [underS, ByteArray.data_append]

set_option maxRecDepth 100000 in
set_option maxHeartbeats 1000000 in
theorem under_calls (a b : List UInt8) (w : World) (ha : a.length = 32) (hb : b.length = 32) :
    Calls Tryz.prog 109 #[.agg (cellsOf a), .agg (cellsOf b)] w fun en w' => en = .returned (.string (underS a b)) ∧ Below w.heap.size w w' := by
  have HA := Lib.hid ha
  have HB := Lib.hid hb
  clear ha hb
  obtain ⟨sa, hsa⟩ : ∃ sa : ByteArray, sa = ⟨a.toArray⟩ := ⟨_, rfl⟩
  obtain ⟨sb, hsb⟩ : ∃ sb : ByteArray, sb = ⟨b.toArray⟩ := ⟨_, rfl⟩
  have za : sa.size = 32 := by rw [hsa]; simpa [ByteArray.size] using HA.out
  have zb : sb.size = 32 := by rw [hsb]; simpa [ByteArray.size] using HB.out
  have HU : Hid ((⟨#[1]⟩ : ByteArray) ++ sa ++ sb = underS a b) := Lib.hid (by rw [hsa, hsb]; exact underS_of a b)
  have HSA := Lib.hid hsa
  have HSB := Lib.hid hsb
  clear hsa hsb
  go_enter Tryz.func109, Tryz.ntmps109
  go_wp2_with fail
  go_name_world W hW
  have B0 : Below w.heap.size w W := by rw [← hW]; exact ((Below.refl _ _).alloc (Nat.le_refl _) _).alloc (by simp) _
  have PA : Has W w.heap.size 38 (cellsOf a) := by rw [← hW]; exact Has.alloc (made_at _ _ rfl) _
  have PB : Has W (w.heap.size + 1) 38 (cellsOf b) := by rw [← hW]; exact made_at _ _ (by simp)
  clear hW
  have ca := run_str_arr (P := Tryz.prog) 51 9 5 Tryz.underlying51 Tryz.underlying5 Tryz.underlying9 _ _ a 32 W.drew PA.drew
  have cb := run_str_arr (P := Tryz.prog) 51 9 5 Tryz.underlying51 Tryz.underlying5 Tryz.underlying9 _ _ b 32 W.drew PB.drew
  rw [HA.out, ← HSA.out] at ca
  rw [HB.out, ← HSB.out] at cb
  have hul := Tryz.underlying38
  have BB := Lib.hid B0.drew
  clear PA PB B0
  have e1 : (⟨#[1]⟩ : ByteArray).size = 1 := rfl
  have e2 : ((⟨#[1]⟩ : ByteArray) ++ sa).size = 33 := by rw [ByteArray.size_append, za]; rfl
  refine wp_region_still_lit (by kernel_rfl) (by kernel_rfl) ?_
  repeat still_step
  refine wpStill_nil ?_
  clear ca cb hul e1 e2
  go_wp2_with fail
  go_ret
  rw [HU.out]
  exact ⟨rfl, BB.out⟩

theorem run_equal_sum' (xs ys : List UInt8) (hx : xs.length = 32) (hy : ys.length = 32) (w : World) : (Op.equalIn 10000 38 (.agg (cellsOf xs)) (.agg (cellsOf ys))).run Tryz.prog w = .ok (xs == ys) w := by
  have := run_equalIn_bytes (P := Tryz.prog) 9998 (t := 38) (e := 5) 32 Tryz.underlying38 Tryz.underlying5 (by kernel_rfl) xs ys hx hy w
  simpa using this

/-- Are two texts a clash? -/
def clashB (s t : ByteArray) : Bool := decide (s ≠ t) && (sum s.data.toList == sum t.data.toList)
theorem clashB_self (s : ByteArray) : clashB s s = false := by simp [clashB]

/-- What lasts while a pair is looked at. -/
structure PairS (w : World) (g : Nat) (s t : ByteArray) (V : World) : Prop where
  rk : Rk V
  own : Has V g 44 #[.string s, .string t]
  bel : Below w.heap.size w V
theorem PairS.below {w V V' : World} {g : Nat} {s t : ByteArray} (h : PairS w g s t V) (b : Below V.heap.size V V') : PairS w g s t V' :=
  ⟨h.rk.below b, h.own.below b h.own.lt, h.bel.trans (b.mono h.bel.size)⟩

set_option maxRecDepth 100000 in
set_option maxHeartbeats 1000000 in
theorem is_calls (s t : ByteArray) (w : World) (hR : Rk w) (hs : s.size < 1000000000) (ht : t.size < 1000000000) :
    Calls Tryz.prog 26 #[.agg #[.string s, .string t]] w fun en w' => en = .returned (.bool (clashB s t)) ∧ Below w.heap.size w w' := by
  have HR := Lib.hid hR
  clear hR
  by_cases he : s = t
  · subst he
    rw [clashB_self]
    go_enter Tryz.func26, Tryz.ntmps26
    go_wp2_with fail
    go_name_world W hW
    have P0 : Hid (PairS w w.heap.size s s W) := by
      have b0 : Below w.heap.size w W := by rw [← hW]; exact (Below.refl _ _).alloc (Nat.le_refl _) _
      exact Lib.hid ⟨HR.out.below b0, by rw [← hW]; exact made_at _ _ rfl, b0⟩
    clear hW HR
    have c0 : W.cell? ⟨w.heap.size, 0, none⟩ = some (.string s) := P0.out.own.cell 0
    have c1 : W.cell? ⟨w.heap.size, 1, none⟩ = some (.string s) := P0.out.own.cell 1
    go_quiet (fail)
    go_wp2_with fail
    go_ret
    exact ⟨rfl, ⟨P0.out.bel.os, P0.out.bel.tape, P0.out.bel.output, P0.out.bel.size, P0.out.bel.block⟩⟩
  · have hq : clashB s t = (sum s.data.toList == sum t.data.toList) := by simp [clashB, he]
    rw [hq]
    have hne : ¬ s.toList = t.toList := fun e => he (by
      rw [ByteArray.toList_eq, ByteArray.toList_eq] at e
      apply ByteArray.ext
      exact Array.toList_inj.1 e)
    have HQ := Lib.hid hq
    clear hq
    go_enter Tryz.func26, Tryz.ntmps26
    go_wp2_with fail
    go_name_world W hW
    have P0 : Hid (PairS w w.heap.size s t W) := by
      have b0 : Below w.heap.size w W := by rw [← hW]; exact (Below.refl _ _).alloc (Nat.le_refl _) _
      exact Lib.hid ⟨HR.out.below b0, by rw [← hW]; exact made_at _ _ rfl, b0⟩
    clear hW HR
    refine wp_region_S (S := PairS w w.heap.size s t) (by kernel_rfl) (P0.out.below (Below.refl _ _).drew) ?_
    refine AnyS.pure 0 (some 3) (v := .pointer (some ⟨w.heap.size, 0, none⟩)) rfl rfl (by kernel_rfl) (by kernel_rfl) (by kernel_rfl) (fun _ _ _ h => h) (by kernel_rfl) (fun V _ => by go_simp) ?_
    refine AnyS.pure 1 (some 4) (v := .string s) rfl rfl (by kernel_rfl) (by kernel_rfl) (by kernel_rfl) (fun _ _ _ h => h) (by kernel_rfl) (fun V hV => by have c0 := hV.own.cell 0; have c1 := hV.own.cell 1; simp at c0 c1; go_simp) ?_
    refine AnyS.pure 2 (some 5) (v := .pointer (some ⟨w.heap.size, 1, none⟩)) rfl rfl (by kernel_rfl) (by kernel_rfl) (by kernel_rfl) (fun _ _ _ h => h) (by kernel_rfl) (fun V _ => by go_simp) ?_
    refine AnyS.pure 3 (some 6) (v := .string t) rfl rfl (by kernel_rfl) (by kernel_rfl) (by kernel_rfl) (fun _ _ _ h => h) (by kernel_rfl) (fun V hV => by have c0 := hV.own.cell 0; have c1 := hV.own.cell 1; simp at c0 c1; go_simp) ?_
    refine AnyS.pure 4 (some 7) (v := .bool true) rfl rfl (by kernel_rfl) (by kernel_rfl) (by kernel_rfl) (fun _ _ _ h => h) (by kernel_rfl) (fun V _ => by go_simp) ?_
    refine AnyS.pure 5 (some 8) rfl rfl (by kernel_rfl) (by kernel_rfl) (by kernel_rfl) (fun _ _ _ h => h) (by kernel_rfl) (fun _ _ => rfl) ?_
    refine AnyS.pure 6 (some 9) (v := .pointer (some ⟨w.heap.size, 0, none⟩)) rfl rfl (by kernel_rfl) (by kernel_rfl) (by kernel_rfl) (fun _ _ _ h => h) (by kernel_rfl) (fun V _ => by go_simp) ?_
    refine AnyS.pure 7 (some 10) (v := .string s) rfl rfl (by kernel_rfl) (by kernel_rfl) (by kernel_rfl) (fun _ _ _ h => h) (by kernel_rfl) (fun V hV => by have c0 := hV.own.cell 0; have c1 := hV.own.cell 1; simp at c0 c1; go_simp) ?_
    refine AnyS.pure 9 (some 12) (v := .pointer (some ⟨w.heap.size, 1, none⟩)) rfl rfl (by kernel_rfl) (by kernel_rfl) (by kernel_rfl) (fun _ _ _ h => h) (by kernel_rfl) (fun V _ => by go_simp) ?_
    refine AnyS.pure 10 (some 13) (v := .string t) rfl rfl (by kernel_rfl) (by kernel_rfl) (by kernel_rfl) (fun _ _ _ h => h) (by kernel_rfl) (fun V hV => by have c0 := hV.own.cell 0; have c1 := hV.own.cell 1; simp at c0 c1; go_simp) ?_
    refine AnyS.call 8 (some 11) (.agg (cellsOf (sum s.data.toList))) rfl rfl (by kernel_rfl) (by kernel_rfl) (by kernel_rfl) (fun _ _ _ h => h) (by kernel_rfl) 53 Tryz.f53 Tryz.func53 (by kernel_rfl) (by kernel_rfl) _ _ rfl #[.string s] (by first | (simp [Act.eval]; done) | (simp [Act.eval, Act.put]; done)) (fun V hV => (of_calls s V hV.rk (by omega)).mono (fun _ _ h => ⟨h.1, hV.below h.2⟩)) ?_
    simp only [Act.put, List.setIfInBounds_toArray, List.set_cons_zero, List.set_cons_succ]
    refine AnyS.call 11 (some 14) (.agg (cellsOf (sum t.data.toList))) rfl rfl (by kernel_rfl) (by kernel_rfl) (by kernel_rfl) (fun _ _ _ h => h) (by kernel_rfl) 53 Tryz.f53 Tryz.func53 (by kernel_rfl) (by kernel_rfl) _ _ rfl #[.string t] (by first | (simp [Act.eval]; done) | (simp [Act.eval, Act.put]; done)) (fun V hV => (of_calls t V hV.rk (by omega)).mono (fun _ _ h => ⟨h.1, hV.below h.2⟩)) ?_
    simp only [Act.put, List.setIfInBounds_toArray, List.set_cons_zero, List.set_cons_succ]
    refine AnyS.pure 12 (some 15) (v := .bool (sum s.data.toList == sum t.data.toList)) rfl rfl (by kernel_rfl) (by kernel_rfl) (by kernel_rfl) (fun _ _ _ h => h) (by kernel_rfl) (fun V _ => by have he := run_equal_sum' (sum s.data.toList) (sum t.data.toList) (sum_length _) (sum_length _) V; go_simp) ?_
    refine AnyS.pure 13 (some 16) (v := .bool (sum s.data.toList == sum t.data.toList)) rfl rfl (by kernel_rfl) (by kernel_rfl) (by kernel_rfl) (fun _ _ _ h => h) (by kernel_rfl) (fun V _ => by go_simp) ?_
    refine AnyS.pure 14 (some 2) rfl rfl (by kernel_rfl) (by kernel_rfl) (by kernel_rfl) (fun _ _ _ h => h) (by kernel_rfl) (fun _ _ => rfl) ?_
    refine AnyS.done (by kernel_rfl) (fun V hV => ?_) _
    have HB := Lib.hid hV.bel
    clear hV P0
    go_wp2_with fail
    go_ret
    exact ⟨rfl, HB.out⟩
end Go.Proofs.YtdoadmkaoboncaaGreatDoor.clash
end

section
/- clash: turnsTo, to a leaf that is alone. -/
namespace Go.Proofs.YtdoadmkaoboncaaGreatDoor.clash
open Go Go.RowKit Go.Proofs.YtdoadmkaoboncaaGreatDoor.dig

/-- The turns from all of n leaves to the i-th: left? -/
def turnsL (i n : Nat) : List Bool :=
  if _h : 2 ≤ n then (if i < half n then true :: turnsL i (half n) else false :: turnsL (i - half n) (n - half n)) else []
termination_by n
decreasing_by
  · exact half_lt _h
  · have := half_pos n; omega
theorem turnsL_one (i : Nat) : turnsL i 1 = [] := by rw [turnsL, dif_neg (by decide)]
theorem turnsL_left {i n : Nat} (h : 2 ≤ n) (hi : i < half n) : turnsL i n = true :: turnsL i (half n) := by rw [turnsL, dif_pos h, if_pos hi]
theorem turnsL_right {i n : Nat} (h : 2 ≤ n) (hi : ¬ i < half n) : turnsL i n = false :: turnsL (i - half n) (n - half n) := by rw [turnsL, dif_pos h, if_neg hi]
theorem turnsL_le : ∀ (D n i : Nat), n ≤ 2 ^ D → (turnsL i n).length ≤ D := by
  intro D
  induction D with
  | zero => intro n i h; rw [turnsL, dif_neg (by simp at h; omega)]; simp
  | succ d ih =>
    intro n i h
    rw [turnsL]
    split
    · rename_i h2
      obtain ⟨d', e, h3, h4⟩ := half_pow_le h2 h
      obtain rfl : d = d' := by omega
      split
      · have := ih _ i h3; simp; omega
      · have := ih _ (i - half n) h4; simp; omega
    · simp

set_option maxHeartbeats 400000 in
theorem alone_calls (i n : Int) (w : World) : Calls Tryz.prog 83 #[.int .i64 i, .int .i64 n] w fun en w' => en = .returned (.bool (n == 1)) ∧ w = w' := by
  go_enter Tryz.func83, Tryz.ntmps83
  go_wp2_with fail
  go_ret
  exact ⟨rfl, rfl⟩

theorem boolInfo : ∃ i z, Tryz.prog.info? 4 = some i ∧ i.zero = some z ∧ i.size = 1 ∧ z.cells.size = 1 ∧ i.bytes = 1 := by
  have h2 : (Tryz.prog.info? 4).map (fun i => (i.zero.map (fun z => z.cells.size), i.size, i.bytes)) = some (some 1, 1, 1) := by kernel_rfl
  obtain ⟨i, hi, e⟩ := Option.map_eq_some_iff.1 h2
  simp only [Prod.mk.injEq] at e
  obtain ⟨e1, e2, e3⟩ := e
  obtain ⟨z, hz, e4⟩ := Option.map_eq_some_iff.1 e1
  exact ⟨i, z, hi, hz, e2, e4, e3⟩

/-- Turns were answered, in new memory. -/
def TurnsPost (w : World) (l : List Bool) (en : Ending) (w' : World) : Prop :=
  ∃ v, en = .returned v ∧ Seg w' 4 1 v l.length (l.map Value.bool) ∧ (∀ x, v.ownBlock = some x → w.heap.size ≤ x) ∧ Below w.heap.size w w'

set_option maxRecDepth 100000 in
set_option maxHeartbeats 2000000 in
theorem turns_calls (i n : Nat) (w : World) (hi : i < n) (hn : n ≤ 1000000) :
    Calls Tryz.prog 82 #[.int .i64 i, .int .i64 n, .func (.func 83) #[] #[]] w (TurnsPost w (turnsL i n)) := by
  obtain ⟨L, hL⟩ : ∃ L, L = turnsL i n := ⟨_, rfl⟩
  have HL := Lib.hid hL
  rw [← hL]
  have hL64 : L.length ≤ 64 := by rw [hL]; have := turnsL_le 20 n i (by omega); omega
  go_enter Tryz.func82, Tryz.ntmps82
  go_wp2_with fail
  go_loopw [0, 1, 7] (fun x y v wr => ∃ (i' n' : Nat) (acc : List Bool), x = .int .i64 i' ∧ y = .int .i64 n' ∧ i' < n' ∧ n' ≤ 1000000 ∧ Hid (acc ++ turnsL i' n' = L) ∧ Hid (Seg wr 4 1 v acc.length (acc.map Value.bool) ∧ (∀ x, v.ownBlock = some x → w.heap.size ≤ x) ∧ Below w.heap.size w wr)) (fun _ y _ _ => (intOf y).toNat)
  case atStart => exact ⟨i, n, [], rfl, rfl, hi, hn, Lib.hid hL.symm, Lib.hid ⟨Seg.nil _ _ _, (fun x (hx : (Value.slice none 0 0).ownBlock = some x) => by cases hx), Below.refl _ _⟩⟩
  case round =>
    obtain ⟨i', n', acc, rfl, rfl, hin, hn', HA, HS⟩ := hrel
    clear hL
    by_cases h1 : n' = 1
    · subst h1
      have he : acc = L := by have := HA.out; rw [turnsL_one, List.append_nil] at this; exact this
      go_wp2_with (first
        | (go_at_call 83; refine (alone_calls _ _ _).mono ?_; rintro e w' ⟨rfl, rfl⟩)
        | fail)
      go_ret
      rw [← he]
      exact ⟨_, rfl, HS.out⟩
    · have hn2 : 2 ≤ n' := by omega
      have hne : ((n' : Int) == 1) = false := by simp; omega
      have h3 := half_lt hn2
      have h4 := half_pos n'
      obtain ⟨k, hk⟩ : ∃ k, k = half n' := ⟨_, rfl⟩
      rw [← hk] at h3 h4
      have HK := Lib.hid hk
      have hn1000 : n' ≤ 1000000000000 := by omega
      have hb1 : (n' : Int) ≤ 1000000 := by omega
      have hb2 : (k : Int) ≤ 1000000 := by omega
      have hb3 : (i' : Int) ≤ 1000000 := by omega
      have hacc : acc.length < 64 := by
        have h5 := congrArg List.length HA.out
        rw [List.length_append] at h5
        rcases Nat.lt_or_ge i' (half n') with h6 | h6
        · rw [turnsL_left hn2 h6] at h5; simp at h5; omega
        · rw [turnsL_right hn2 (by omega)] at h5; simp at h5; omega
      obtain ⟨z0i, z0, hi0, hz0, hz1, hz2, hz3⟩ := boolInfo
      have HI0 := Lib.hid hi0
      have HZ0 := Lib.hid hz0
      clear hi0 hz0
      by_cases hik : i' < k
      case' pos =>
        have hik2 : (i' : Int) < (k : Int) := by omega
        have HA2 : Hid ((acc ++ [true]) ++ turnsL i' k = L) := Lib.hid (by rw [← HA.out, turnsL_left hn2 (by rw [← hk]; exact hik), ← hk]; simp)
        obtain ⟨lb, hlb⟩ : ∃ lb, lb = true := ⟨_, rfl⟩
        obtain ⟨i2, hi2⟩ : ∃ i2, i2 = i' := ⟨_, rfl⟩
        obtain ⟨n2, hn2'⟩ : ∃ n2, n2 = k := ⟨_, rfl⟩
        have HG : Hid (i2 < n2 ∧ n2 < n') := Lib.hid (by omega)
      case' neg =>
        have hik2 : ¬ (i' : Int) < (k : Int) := by omega
        have HA2 : Hid ((acc ++ [false]) ++ turnsL (i' - k) (n' - k) = L) := Lib.hid (by rw [← HA.out, turnsL_right hn2 (by rw [← hk]; exact hik), ← hk]; simp)
        obtain ⟨lb, hlb⟩ : ∃ lb, lb = false := ⟨_, rfl⟩
        obtain ⟨i2, hi2⟩ : ∃ i2, i2 = i' - k := ⟨_, rfl⟩
        obtain ⟨n2, hn2'⟩ : ∃ n2, n2 = n' - k := ⟨_, rfl⟩
        have hm1 : (i' : Int) - (k : Int) = (i2 : Int) := by omega
        have hm2 : (n' : Int) - (k : Int) = (n2 : Int) := by omega
        have hm3 : (i2 : Int) ≤ 1000000 := by omega
        have hm4 : (n2 : Int) ≤ 1000000 := by omega
        have HG : Hid (i2 < n2 ∧ n2 < n') := Lib.hid (by omega)
      all_goals
        rw [← hi2, ← hn2'] at HA2
        rw [← hlb] at HA2
        have HLB := Lib.hid hlb
        have HI2 := Lib.hid (And.intro hi2 hn2')
        clear hk hik h3 h4 HA hlb hi2 hn2' h1 hin
        go_wp2_with (first
          | (go_at_call 83; refine (alone_calls _ _ _).mono ?_; rw [hne]; rintro e w' ⟨rfl, rfl⟩)
          | (go_at_call 87; refine (half_calls n' _ hn2 hn1000).mono ?_; rw [← HK.out]; rintro e w' ⟨rfl, rfl⟩)
          | ((with_reducible refine at_op 31 ?_); refine wpList_append_seg (o := ⟨some 31, _, _, _, _, _⟩) _ rfl (.tmp 28) (.tmp 30) 148 rfl 4 z0i z0 1 1 Tryz.underlying148 HI0.out HZ0.out hz1 hz3 hz2 (by decide) u7 acc.length (acc.map Value.bool) rfl (HS.out.1.alloc _) ⟨wr.heap.size, 0, none⟩ 1 1 [.bool _] rfl rfl (World.news_of_block (heap_alloc_new _ _)) (by simp [Value.oneCell']) (by decide) (by unfold maxLen; omega) (by omega) _ rfl ?_;
             intro g off cp w4 hown hgrow hat hlt)
          | fail)
        have hms : ((n2 : Int)).toNat < ((n' : Int)).toNat := by have := HG.out.2; omega
        refine ⟨⟨i2, n2, acc ++ [lb], by rw [HI2.out.1], by rw [HI2.out.2], HG.out.1, by have := HG.out.2; omega, HA2, Lib.hid ⟨?_, fun x hx => ?_, ?_⟩⟩, by first | exact hms | (rw [HI2.out.2] at hms; exact hms)⟩
        · rw [List.length_append, List.map_append, HLB.out]; exact hown
        · have e : g = x := by simpa [Value.ownBlock] using hx
          rw [← e]
          rcases hat with h | h
          · exact HS.out.2.1 g h
          · rw [h]; exact Nat.le_trans HS.out.2.2.size (by simp)
        · exact (HS.out.2.2.alloc HS.out.2.2.size _).trans (below_own hgrow HS.out.2.1 (Nat.le_trans HS.out.2.2.size (by simp)))
end Go.Proofs.YtdoadmkaoboncaaGreatDoor.clash
end

section
/- clash: the mathematics: two ways that come to one sum have two unlike texts of one sum, or are the same. -/
namespace Go.Proofs.YtdoadmkaoboncaaGreatDoor.clash
open Go Go.Proofs.YtdoadmkaoboncaaGreatDoor.dig Go.Proofs.YtdoadmkaoboncaaGreatDoor.prf

/-- What comes, by turns and sums from outside in; c: what stands where they end. -/
def comeX : List Bool → List (List UInt8) → List UInt8 → List UInt8
  | t :: ts, o :: r, c => if t = true then nodeS (comeX ts r c) o else nodeS o (comeX ts r c)
  | _, _, c => c
/-- The texts, from outside in. -/
def texX : List Bool → List (List UInt8) → List UInt8 → List (List UInt8)
  | t :: ts, o :: r, c => (1 :: (if t = true then comeX ts r c ++ o else o ++ comeX ts r c)) :: texX ts r c
  | _, _, _ => []
theorem comeX_len : ∀ (T : List Bool) (r : List (List UInt8)) {c : List UInt8}, c.length = 32 → (comeX T r c).length = 32
  | [], _, _, h => by simpa [comeX] using h
  | _ :: _, [], _, h => by simpa [comeX] using h
  | t :: ts, o :: r, c, h => by
    rw [comeX]
    split <;> exact nodeS_length _ _
theorem texX_len : ∀ (T : List Bool) (r : List (List UInt8)) (c : List UInt8), T.length = r.length → (texX T r c).length = T.length
  | [], _, _, _ => by simp [texX]
  | _ :: _, [], _, h => by simp at h
  | t :: ts, o :: r, c, h => by
    rw [texX, List.length_cons, List.length_cons, texX_len ts r c (by simpa using h)]
theorem comeX_sum (t : Bool) (ts : List Bool) (o : List UInt8) (r : List (List UInt8)) (c : List UInt8) : comeX (t :: ts) (o :: r) c = sum (1 :: (if t = true then comeX ts r c ++ o else o ++ comeX ts r c)) := by
  rw [comeX]
  cases t <;> rfl

/-- Two ways of the same turns that come to one sum: two unlike texts of one sum, or the same sums. -/
theorem sure : ∀ (T : List Bool) (r1 r2 : List (List UInt8)) (c1 c2 : List UInt8), T.length = r1.length → T.length = r2.length → (∀ x ∈ r1, x.length = 32) → (∀ x ∈ r2, x.length = 32) → c1.length = 32 → c2.length = 32 → comeX T r1 c1 = comeX T r2 c2 →
    (∃ (p : Nat) (x y : List UInt8), (texX T r1 c1)[p]? = some x ∧ (texX T r2 c2)[p]? = some y ∧ x ≠ y ∧ sum x = sum y ∧ ∀ q < p, (texX T r1 c1)[q]? = (texX T r2 c2)[q]?) ∨ (r1 = r2 ∧ c1 = c2)
  | [], [], [], c1, c2, _, _, _, _, _, _, h => .inr ⟨rfl, by simpa [comeX] using h⟩
  | [], _ :: _, _, _, _, h, _, _, _, _, _, _ => by simp at h
  | [], [], _ :: _, _, _, _, h, _, _, _, _, _ => by simp at h
  | _ :: _, [], _, _, _, h, _, _, _, _, _, _ => by simp at h
  | _ :: _, _ :: _, [], _, _, _, h, _, _, _, _, _ => by simp at h
  | t :: ts, o1 :: r1, o2 :: r2, c1, c2, h1, h2, hr1, hr2, hc1, hc2, h => by
    rw [comeX_sum, comeX_sum] at h
    by_cases he : (1 :: (if t = true then comeX ts r1 c1 ++ o1 else o1 ++ comeX ts r1 c1)) = (1 :: (if t = true then comeX ts r2 c2 ++ o2 else o2 ++ comeX ts r2 c2))
    · have l1 := comeX_len ts r1 hc1
      have l2 := comeX_len ts r2 hc2
      have lo1 := hr1 o1 (by simp)
      have lo2 := hr2 o2 (by simp)
      have key : comeX ts r1 c1 = comeX ts r2 c2 ∧ o1 = o2 := by
        have he' := (List.cons.inj he).2
        cases t
        · simp only [Bool.false_eq_true, if_false] at he'
          have := List.append_inj he' (by rw [lo1, lo2])
          exact ⟨this.2, this.1⟩
        · simp only [if_true] at he'
          have := List.append_inj he' (by rw [l1, l2])
          exact this
      rcases sure ts r1 r2 c1 c2 (by simpa using h1) (by simpa using h2) (fun x hx => hr1 x (by simp [hx])) (fun x hx => hr2 x (by simp [hx])) hc1 hc2 key.1 with ⟨p, x, y, e1, e2, ne, es, hq⟩ | ⟨e1, e2⟩
      · refine .inl ⟨p + 1, x, y, ?_, ?_, ne, es, fun q hq' => ?_⟩
        · rw [texX, List.getElem?_cons_succ]; exact e1
        · rw [texX, List.getElem?_cons_succ]; exact e2
        · cases q with
          | zero => rw [texX, texX, List.getElem?_cons_zero, List.getElem?_cons_zero, he]
          | succ q => rw [texX, texX, List.getElem?_cons_succ, List.getElem?_cons_succ]; exact hq q (by omega)
      · exact .inr ⟨by rw [e1, key.2], e2⟩
    · refine .inl ⟨0, _, _, by rw [texX, List.getElem?_cons_zero], by rw [texX, List.getElem?_cons_zero], he, h, fun q hq => absurd hq (by omega)⟩

/-- A leaf's way. -/
theorem up_come (z x : List UInt8) : ∀ (r : List (List UInt8)) (n i : Nat), i < n → (up z x r i n).2 = true → (turnsL i n).length = r.length ∧ (up z x r i n).1 = comeX (turnsL i n) r x
  | [], n, i, hi, h => by
    by_cases h1 : n = 1
    · subst h1
      rw [turnsL_one, up_one]
      exact ⟨rfl, rfl⟩
    · rw [up_nil _ _ _ h1] at h; cases h
  | s :: r, n, i, hi, h => by
    by_cases h1 : n = 1
    · subst h1; rw [up_one] at h; cases h
    · have h2 : 2 ≤ n := by omega
      have hl := half_lt h2
      have hp := half_pos n
      by_cases hh : i < half n
      · rw [up_left _ _ _ _ h1 hh] at h ⊢
        obtain ⟨e1, e2⟩ := up_come z x r (half n) i hh h
        rw [turnsL_left h2 hh, comeX, if_pos rfl, List.length_cons, List.length_cons, e1]
        exact ⟨rfl, by show nodeS _ _ = nodeS _ _; rw [e2]⟩
      · rw [up_right _ _ _ _ h1 hh] at h ⊢
        obtain ⟨e1, e2⟩ := up_come z x r (n - half n) (i - half n) (by omega) h
        rw [turnsL_right h2 hh, comeX, if_neg (by simp), List.length_cons, List.length_cons, e1]
        exact ⟨rfl, by show nodeS _ _ = nodeS _ _; rw [e2]⟩

/-- The turns from all of n leaves to where the i-th is the last one. -/
def turnsP (i n : Nat) : List Bool :=
  if _h : i + 1 < n then (if i < half n then true :: turnsP i (half n) else false :: turnsP (i - half n) (n - half n)) else []
termination_by n
decreasing_by
  · exact half_lt (by omega)
  · have := half_pos n; omega
theorem turnsP_end {i n : Nat} (h : n ≤ i + 1) : turnsP i n = [] := by rw [turnsP, dif_neg (by omega)]
theorem turnsP_left {i n : Nat} (h : i + 1 < n) (hi : i < half n) : turnsP i n = true :: turnsP i (half n) := by rw [turnsP, dif_pos h, if_pos hi]
theorem turnsP_right {i n : Nat} (h : i + 1 < n) (hi : ¬ i < half n) : turnsP i n = false :: turnsP (i - half n) (n - half n) := by rw [turnsP, dif_pos h, if_neg hi]
theorem turnsP_le : ∀ (D n i : Nat), n ≤ 2 ^ D → (turnsP i n).length ≤ D := by
  intro D
  induction D with
  | zero => intro n i h; rw [turnsP, dif_neg (by simp at h; omega)]; simp
  | succ d ih =>
    intro n i h
    rw [turnsP]
    split
    · rename_i h2
      obtain ⟨d', e, h3, h4⟩ := half_pow_le (by omega : 2 ≤ n) h
      obtain rfl : d = d' := by omega
      split
      · have := ih _ i h3; simp; omega
      · have := ih _ (i - half n) h4; simp; omega
    · simp

/-- The roots beside turns, from outside in, and the one where they end. -/
def besideX (f : Nat → List UInt8) : List Bool → Nat → Nat → List (List UInt8)
  | [], _, _ => []
  | true :: t, a, n => rt f (a + half n) (n - half n) :: besideX f t a (half n)
  | false :: t, a, n => rt f a (half n) :: besideX f t (a + half n) (n - half n)
def endX (f : Nat → List UInt8) : List Bool → Nat → Nat → List UInt8
  | [], a, n => rt f a n
  | true :: t, a, n => endX f t a (half n)
  | false :: t, a, n => endX f t (a + half n) (n - half n)
theorem besideX_len (f : Nat → List UInt8) : ∀ (t : List Bool) (a n : Nat), (besideX f t a n).length = t.length
  | [], _, _ => rfl
  | true :: t, a, n => by rw [besideX, List.length_cons, List.length_cons, besideX_len f t]
  | false :: t, a, n => by rw [besideX, List.length_cons, List.length_cons, besideX_len f t]

/-- Right turns come to the root. -/
theorem come_right (f : Nat → List UInt8) : ∀ (n i a : Nat), i < n → comeX (turnsP i n) (besideX f (turnsP i n) a n) (endX f (turnsP i n) a n) = rt f a n := by
  intro n
  induction n using Nat.strongRecOn with
  | _ n ih =>
    intro i a hi
    by_cases h : i + 1 < n
    · have h2 : 2 ≤ n := by omega
      have hl := half_lt h2
      have hp := half_pos n
      by_cases hh : i < half n
      · rw [turnsP_left h hh, besideX, endX, comeX, if_pos rfl, ih _ hl i a hh, rt_two f a h2]
      · rw [turnsP_right h hh, besideX, endX, comeX, if_neg (by simp), ih _ (by omega) (i - half n) (a + half n) (by omega), rt_two f a h2]
    · rw [turnsP_end (by omega)]
      rfl
theorem beside_all (f : Nat → List UInt8) (hf : ∀ i, (f i).length = 32) : ∀ (n i a : Nat), i < n → (∀ x ∈ besideX f (turnsP i n) a n, x.length = 32) ∧ (endX f (turnsP i n) a n).length = 32 := by
  intro n
  induction n using Nat.strongRecOn with
  | _ n ih =>
    intro i a hi
    by_cases h : i + 1 < n
    · have h2 : 2 ≤ n := by omega
      have hl := half_lt h2
      have hp := half_pos n
      by_cases hh : i < half n
      · rw [turnsP_left h hh, besideX, endX]
        obtain ⟨h1, h3⟩ := ih _ hl i a hh
        refine ⟨fun x hx => ?_, h3⟩
        rcases List.mem_cons.1 hx with rfl | hx
        · exact rt_len hf _ _ (by omega)
        · exact h1 x hx
      · rw [turnsP_right h hh, besideX, endX]
        obtain ⟨h1, h3⟩ := ih (n - half n) (by omega) (i - half n) (a + half n) (by omega)
        refine ⟨fun x hx => ?_, h3⟩
        rcases List.mem_cons.1 hx with rfl | hx
        · exact rt_len hf _ _ hp
        · exact h1 x hx
    · rw [turnsP_end (by omega)]
      exact ⟨fun x hx => (by cases hx), rt_len hf _ _ (by omega)⟩

/-- Do turns lead to the first ones of all? -/
def allL (T : List Bool) : Bool := T.all (· == true)

/-- What a proof of a prefix tells: where turns end stands o, if they lead to the first ones, or its innermost sum. -/
theorem both_come (z o : List UInt8) : ∀ (r : List (List UInt8)) (n m : Nat) (first : Bool), 0 < m → m ≤ n → (both z o r first m n).2.2 = true →
    ((first && allL (turnsP (m - 1) n)) = true ∧ (turnsP (m - 1) n).length = r.length ∧ (both z o r first m n).1 = o ∧ (both z o r first m n).2.1 = comeX (turnsP (m - 1) n) r o)
    ∨ ((first && allL (turnsP (m - 1) n)) = false ∧ ∃ r' s, r = r' ++ [s] ∧ (turnsP (m - 1) n).length = r'.length ∧ (both z o r first m n).2.1 = comeX (turnsP (m - 1) n) r' s)
  | [], n, m, first, h0, hm, h => by
    by_cases he : m = n ∧ first = true
    · obtain ⟨rfl, rfl⟩ := he
      rw [turnsP_end (by omega), both_known]
      exact .inl ⟨rfl, rfl, rfl, rfl⟩
    · rw [both_nil z o first he] at h; cases h
  | s :: r, n, m, first, h0, hm, h => by
    by_cases he : m = n
    · subst he
      cases first
      · rw [both_all] at h ⊢
        have hr : r = [] := by simpa using h
        subst hr
        rw [turnsP_end (by omega)]
        exact .inr ⟨rfl, [], s, rfl, rfl, rfl⟩
      · rw [both_known] at h; cases h
    · have h2 : 2 ≤ n := by omega
      have hl := half_lt h2
      have hp := half_pos n
      by_cases hh : m ≤ half n
      · rw [both_left _ _ _ _ _ he hh] at h ⊢
        rw [turnsP_left (by omega) (by omega)]
        rcases both_come z o r (half n) m first h0 hh h with ⟨e1, e2, e3, e4⟩ | ⟨e1, r', x, e2, e3, e4⟩
        · refine .inl ⟨by simpa [allL] using e1, by rw [List.length_cons, List.length_cons, e2], e3, ?_⟩
          rw [comeX, if_pos rfl]; show nodeS _ _ = nodeS _ _; rw [e4]
        · refine .inr ⟨by simpa [allL] using e1, s :: r', x, by rw [e2]; rfl, by rw [List.length_cons, List.length_cons, e3], ?_⟩
          rw [comeX, if_pos rfl]; show nodeS _ _ = nodeS _ _; rw [e4]
      · rw [both_right _ _ _ _ _ he hh] at h ⊢
        rw [turnsP_right (by omega) (by omega), show m - 1 - half n = m - half n - 1 by omega]
        rcases both_come z o r (n - half n) (m - half n) false (by omega) (by omega) h with ⟨e1, e2, e3, e4⟩ | ⟨e1, r', x, e2, e3, e4⟩
        · simp at e1
        · refine .inr ⟨by simp [allL], s :: r', x, by rw [e2]; rfl, by rw [List.length_cons, List.length_cons, e3], ?_⟩
          rw [comeX, if_neg (by simp)]; show nodeS _ _ = nodeS _ _; rw [e4]

/-- The proof that is right, from outside in. -/
theorem steps_beside (f : Nat → List UInt8) : ∀ (n m a : Nat) (first : Bool), 0 < m → m ≤ n →
    (steps f m a n first).reverse = besideX f (turnsP (m - 1) n) a n ++ (if (first && allL (turnsP (m - 1) n)) = true then [] else [endX f (turnsP (m - 1) n) a n]) := by
  intro n
  induction n using Nat.strongRecOn with
  | _ n ih =>
    intro m a first h0 hm
    by_cases he : m = n
    · subst he
      rw [steps, if_pos rfl, turnsP_end (by omega)]
      cases first <;> rfl
    · have h2 : 2 ≤ n := by omega
      have hp := half_pos n
      have hl := half_lt h2
      rw [steps, if_neg he, dif_pos h2]
      by_cases hh : m ≤ half n
      · rw [if_pos hh, List.reverse_append, List.reverse_singleton, List.singleton_append, turnsP_left (by omega) (by omega), besideX, endX, ih (half n) hl m a first h0 hh, List.cons_append]
        rfl
      · rw [if_neg hh, List.reverse_append, List.reverse_singleton, List.singleton_append, turnsP_right (by omega) (by omega), besideX, endX, show m - 1 - half n = m - half n - 1 by omega, ih (n - half n) (by omega) (m - half n) (a + half n) false (by omega) (by omega), List.cons_append]
        simp [allL]
theorem end_first (f : Nat → List UInt8) : ∀ (n m a : Nat), 0 < m → m ≤ n → allL (turnsP (m - 1) n) = true → endX f (turnsP (m - 1) n) a n = rt f a m := by
  intro n
  induction n using Nat.strongRecOn with
  | _ n ih =>
    intro m a h0 hm h
    by_cases he : m = n
    · subst he
      rw [turnsP_end (by omega)]
      rfl
    · have h2 : 2 ≤ n := by omega
      have hl := half_lt h2
      by_cases hh : m ≤ half n
      · rw [turnsP_left (by omega) (by omega)] at h ⊢
        rw [endX]
        exact ih _ hl m a h0 hh (by simpa [allL] using h)
      · rw [turnsP_right (by omega) (by omega)] at h
        simp [allL] at h
/-- Behind the first ones what is known of them doesn't matter. -/
theorem both_free (z o o' : List UInt8) : ∀ (r : List (List UInt8)) (n m : Nat) (first : Bool), 0 < m → m ≤ n → (first && allL (turnsP (m - 1) n)) = false → both z o r first m n = both z o' r first m n
  | [], n, m, first, h0, hm, h => by
    by_cases he : m = n ∧ first = true
    · obtain ⟨rfl, rfl⟩ := he
      rw [turnsP_end (by omega)] at h
      simp [allL] at h
    · rw [both_nil _ _ _ he, both_nil _ _ _ he]
  | s :: r, n, m, first, h0, hm, h => by
    by_cases he : m = n
    · subst he
      cases first
      · rw [both_all, both_all]
      · rw [turnsP_end (by omega)] at h
        simp [allL] at h
    · have h2 : 2 ≤ n := by omega
      have hl := half_lt h2
      have hp := half_pos n
      by_cases hh : m ≤ half n
      · rw [turnsP_left (by omega) (by omega)] at h
        rw [both_left _ _ _ _ _ he hh, both_left _ _ _ _ _ he hh, both_free z o o' r (half n) m first h0 hh (by simpa [allL] using h)]
      · rw [both_right _ _ _ _ _ he hh, both_right _ _ _ _ _ he hh, both_free z o o' r (n - half n) (m - half n) false (by omega) (by omega) rfl]

/-- SURE, of a prefix: what is proved, and isn't so, has two unlike texts of one sum on its way. -/
theorem sure_prefix {f : Nat → List UInt8} (hf : ∀ i, (f i).length = 32) {m n : Nat} {old : List UInt8} (ho : old.length = 32) {r : List (List UInt8)} (hr : ∀ x ∈ r, x.length = 32) (hm : m ≤ n) (h : elderB m old n (rtAll f n) r = true) (hne : old ≠ rtAll f m) :
    0 < m ∧ m < n ∧ ∃ r' s, (turnsP (m - 1) n).length = r'.length ∧ r = (if allL (turnsP (m - 1) n) = true then r' else r' ++ [s]) ∧ (allL (turnsP (m - 1) n) = true → s = old) ∧ s.length = 32 ∧ (∀ x ∈ r', x.length = 32) ∧
      ∃ (p : Nat) (x y : List UInt8), (texX (turnsP (m - 1) n) (besideX f (turnsP (m - 1) n) 0 n) (endX f (turnsP (m - 1) n) 0 n))[p]? = some x ∧ (texX (turnsP (m - 1) n) r' s)[p]? = some y ∧ x ≠ y ∧ sum x = sum y ∧
        ∀ q < p, (texX (turnsP (m - 1) n) (besideX f (turnsP (m - 1) n) 0 n) (endX f (turnsP (m - 1) n) 0 n))[q]? = (texX (turnsP (m - 1) n) r' s)[q]? := by
  have hra : ∀ k, 0 < k → rtAll f k = rt f 0 k := fun k hk => by unfold rtAll; rw [if_neg (by omega)]
  unfold elderB at h
  by_cases he : m = n
  · subst he
    rw [if_pos rfl] at h
    simp at h
    exact absurd h.2 hne
  rw [if_neg he] at h
  by_cases h0 : m = 0
  · subst h0
    rw [if_pos rfl] at h
    simp at h
    exact absurd h.2 (by intro e; exact hne (by rw [e]; rfl))
  rw [if_neg h0] at h
  simp only [Bool.and_eq_true, beq_iff_eq] at h
  obtain ⟨⟨h1, h2⟩, h3⟩ := h
  rw [hra n (by omega)] at h3
  rw [hra m (by omega)] at hne
  refine ⟨by omega, by omega, ?_⟩
  obtain ⟨ba, bl⟩ := beside_all f hf n (m - 1) 0 (by omega)
  have hcr := come_right f n (m - 1) 0 (by omega)
  rcases both_come (List.replicate 32 0) old r n m true (by omega) hm h1 with ⟨e1, e2, e3, e4⟩ | ⟨e1, r', s, e2, e3, e4⟩
  · have e1' : allL (turnsP (m - 1) n) = true := by simpa using e1
    refine ⟨r, old, e2, by rw [if_pos e1'], fun _ => rfl, ho, hr, ?_⟩
    rcases sure (turnsP (m - 1) n) _ r _ old (besideX_len f _ 0 n).symm e2 ba hr bl ho (by rw [hcr, ← h3, e4]) with hx | ⟨_, e6⟩
    · exact hx
    · rw [end_first f n m 0 (by omega) hm e1'] at e6
      exact absurd e6.symm hne
  · have e1' : allL (turnsP (m - 1) n) = false := by simpa using e1
    have hs : s.length = 32 := hr s (by rw [e2]; simp)
    have hr' : ∀ x ∈ r', x.length = 32 := fun x hx => hr x (by rw [e2]; simp [hx])
    refine ⟨r', s, e3, by rw [e1', e2]; rfl, fun h => (by rw [e1'] at h; cases h), hs, hr', ?_⟩
    rcases sure (turnsP (m - 1) n) _ r' _ s (besideX_len f _ 0 n).symm e3 ba hr' bl hs (by rw [hcr, ← h3, e4]) with hx | ⟨e5, e6⟩
    · exact hx
    · have hst := steps_beside f n m 0 true (by omega) hm
      rw [if_neg (by rw [e1]; simp), e5, e6, ← e2] at hst
      have hb := prn.both_steps (List.replicate 32 0) (rt f 0 m) f n m 0 true (by omega) hm (fun _ => rfl)
      rw [hst, both_free _ _ old _ _ _ _ (by omega) hm e1] at hb
      rw [hb] at h2
      exact absurd h2.symm hne

/-- SURE, of leaves. -/
theorem sure_leaves {a b root : List UInt8} {i n : Nat} (hi : i < n) {p q : List (List UInt8)} (hp : ∀ x ∈ p, x.length = 32) (hq : ∀ x ∈ q, x.length = 32) (ha : inclE a i n root p = 0) (hb : inclE b i n root q = 0) (_hne : a ≠ b) :
    (turnsL i n).length = p.length ∧ (turnsL i n).length = q.length ∧
      ((∃ (k : Nat) (x y : List UInt8), (texX (turnsL i n) p (leafS a))[k]? = some x ∧ (texX (turnsL i n) q (leafS b))[k]? = some y ∧ x ≠ y ∧ sum x = sum y ∧ ∀ j < k, (texX (turnsL i n) p (leafS a))[j]? = (texX (turnsL i n) q (leafS b))[j]?)
      ∨ (texX (turnsL i n) p (leafS a) = texX (turnsL i n) q (leafS b) ∧ sum (0 :: a) = sum (0 :: b))) := by
  have key : ∀ (x : List UInt8) (r : List (List UInt8)), inclE x i n root r = 0 → (turnsL i n).length = r.length ∧ comeX (turnsL i n) r (leafS x) = root := by
    intro x r h
    unfold inclE at h
    rw [if_neg (by omega)] at h
    split at h
    · rename_i h1
      rw [Int.toNat_natCast, Int.toNat_natCast] at h1
      obtain ⟨e1, e2⟩ := up_come _ _ r n i hi h1.1
      exact ⟨e1, by rw [← e2]; exact h1.2⟩
    · cases h
  obtain ⟨l1, k1⟩ := key a p ha
  obtain ⟨l2, k2⟩ := key b q hb
  refine ⟨l1, l2, ?_⟩
  rcases sure (turnsL i n) p q (leafS a) (leafS b) l1 l2 hp hq (leafS_length _) (leafS_length _) (by rw [k1, k2]) with h | ⟨e1, e2⟩
  · exact .inl h
  · exact .inr ⟨by rw [e1, e2], e2⟩
end Go.Proofs.YtdoadmkaoboncaaGreatDoor.clash
end

section
/- clash: turnsTo, to where the i-th is the last one; allLeft. -/
namespace Go.Proofs.YtdoadmkaoboncaaGreatDoor.clash
open Go Go.RowKit Go.Proofs.YtdoadmkaoboncaaGreatDoor.dig

set_option maxHeartbeats 400000 in
theorem last_calls (i n : Int) (w : World) (h1 : -1000000 ≤ n) (h2 : n ≤ 1000000) : Calls Tryz.prog 89 #[.int .i64 i, .int .i64 n] w fun en w' => en = .returned (.bool (i == n - 1)) ∧ w = w' := by
  go_enter Tryz.func89, Tryz.ntmps89
  go_wp2_with fail
  go_ret
  exact ⟨rfl, rfl⟩

set_option maxRecDepth 100000 in
set_option maxHeartbeats 2000000 in
theorem turnsP_calls (i n : Nat) (w : World) (hi : i < n) (hn : n ≤ 1000000) :
    Calls Tryz.prog 82 #[.int .i64 i, .int .i64 n, .func (.func 89) #[] #[]] w (TurnsPost w (turnsP i n)) := by
  obtain ⟨L, hL⟩ : ∃ L, L = turnsP i n := ⟨_, rfl⟩
  have HL := Lib.hid hL
  rw [← hL]
  have hL64 : L.length ≤ 64 := by rw [hL]; have := turnsP_le 20 n i (by omega); omega
  go_enter Tryz.func82, Tryz.ntmps82
  go_wp2_with fail
  go_loopw [0, 1, 7] (fun x y v wr => ∃ (i' n' : Nat) (acc : List Bool), x = .int .i64 i' ∧ y = .int .i64 n' ∧ i' < n' ∧ n' ≤ 1000000 ∧ Hid (acc ++ turnsP i' n' = L) ∧ Hid (Seg wr 4 1 v acc.length (acc.map Value.bool) ∧ (∀ x, v.ownBlock = some x → w.heap.size ≤ x) ∧ Below w.heap.size w wr)) (fun _ y _ _ => (intOf y).toNat)
  case atStart => exact ⟨i, n, [], rfl, rfl, hi, hn, Lib.hid hL.symm, Lib.hid ⟨Seg.nil _ _ _, (fun x (hx : (Value.slice none 0 0).ownBlock = some x) => by cases hx), Below.refl _ _⟩⟩
  case round =>
    obtain ⟨i', n', acc, rfl, rfl, hin, hn', HA, HS⟩ := hrel
    clear hL
    by_cases h1 : n' = i' + 1
    · have he : acc = L := by have := HA.out; rw [turnsP_end (by omega), List.append_nil] at this; exact this
      have hee : ((i' : Int) == (n' : Int) - 1) = true := by simp; omega
      have HLC : Hid (∀ V, Calls Tryz.prog 89 #[.int .i64 i', .int .i64 n'] V fun en w' => en = .returned (.bool true) ∧ V = w') := Lib.hid fun V => by
        have h5 := last_calls (i' : Int) (n' : Int) V (by omega) (by omega)
        rw [hee] at h5
        exact h5
      clear hee h1
      go_wp2_with (first
        | (go_at_call 89; refine (HLC.out _).mono ?_; rintro e w' ⟨rfl, rfl⟩)
        | fail)
      go_ret
      rw [← he]
      exact ⟨_, rfl, HS.out⟩
    · have hn2 : 2 ≤ n' := by omega
      have hlt1 : i' + 1 < n' := by omega
      have hne : ((i' : Int) == (n' : Int) - 1) = false := by simp; omega
      have h3 := half_lt hn2
      have h4 := half_pos n'
      obtain ⟨k, hk⟩ : ∃ k, k = half n' := ⟨_, rfl⟩
      rw [← hk] at h3 h4
      have HK := Lib.hid hk
      have hn1000 : n' ≤ 1000000000000 := by omega
      have hb1 : (n' : Int) ≤ 1000000 := by omega
      have hb2 : (k : Int) ≤ 1000000 := by omega
      have hb3 : (i' : Int) ≤ 1000000 := by omega
      have hacc : acc.length < 64 := by
        have h5 := congrArg List.length HA.out
        rw [List.length_append] at h5
        rcases Nat.lt_or_ge i' (half n') with h6 | h6
        · rw [turnsP_left hlt1 h6] at h5; simp at h5; omega
        · rw [turnsP_right hlt1 (by omega)] at h5; simp at h5; omega
      obtain ⟨z0i, z0, hi0, hz0, hz1, hz2, hz3⟩ := boolInfo
      have HI0 := Lib.hid hi0
      have HZ0 := Lib.hid hz0
      clear hi0 hz0
      by_cases hik : i' < k
      case' pos =>
        have hik2 : (i' : Int) < (k : Int) := by omega
        have HA2 : Hid ((acc ++ [true]) ++ turnsP i' k = L) := Lib.hid (by rw [← HA.out, turnsP_left hlt1 (by rw [← hk]; exact hik), ← hk]; simp)
        obtain ⟨lb, hlb⟩ : ∃ lb, lb = true := ⟨_, rfl⟩
        obtain ⟨i2, hi2⟩ : ∃ i2, i2 = i' := ⟨_, rfl⟩
        obtain ⟨n2, hn2'⟩ : ∃ n2, n2 = k := ⟨_, rfl⟩
        have HG : Hid (i2 < n2 ∧ n2 < n') := Lib.hid (by omega)
      case' neg =>
        have hik2 : ¬ (i' : Int) < (k : Int) := by omega
        have HA2 : Hid ((acc ++ [false]) ++ turnsP (i' - k) (n' - k) = L) := Lib.hid (by rw [← HA.out, turnsP_right hlt1 (by rw [← hk]; exact hik), ← hk]; simp)
        obtain ⟨lb, hlb⟩ : ∃ lb, lb = false := ⟨_, rfl⟩
        obtain ⟨i2, hi2⟩ : ∃ i2, i2 = i' - k := ⟨_, rfl⟩
        obtain ⟨n2, hn2'⟩ : ∃ n2, n2 = n' - k := ⟨_, rfl⟩
        have hm1 : (i' : Int) - (k : Int) = (i2 : Int) := by omega
        have hm2 : (n' : Int) - (k : Int) = (n2 : Int) := by omega
        have hm3 : (i2 : Int) ≤ 1000000 := by omega
        have hm4 : (n2 : Int) ≤ 1000000 := by omega
        have HG : Hid (i2 < n2 ∧ n2 < n') := Lib.hid (by omega)
      all_goals
        rw [← hi2, ← hn2'] at HA2
        rw [← hlb] at HA2
        have HLB := Lib.hid hlb
        have HI2 := Lib.hid (And.intro hi2 hn2')
        clear hk hik h3 h4 HA hlb hi2 hn2' h1 hin hlt1
        go_wp2_with (first
          | (go_at_call 89; refine (last_calls (i' : Int) (n' : Int) _ (by omega) (by omega)).mono ?_; rw [hne]; rintro e w' ⟨rfl, rfl⟩)
          | (go_at_call 87; refine (half_calls n' _ hn2 hn1000).mono ?_; rw [← HK.out]; rintro e w' ⟨rfl, rfl⟩)
          | ((with_reducible refine at_op 31 ?_); refine wpList_append_seg (o := ⟨some 31, _, _, _, _, _⟩) _ rfl (.tmp 28) (.tmp 30) 148 rfl 4 z0i z0 1 1 Tryz.underlying148 HI0.out HZ0.out hz1 hz3 hz2 (by decide) u7 acc.length (acc.map Value.bool) rfl (HS.out.1.alloc _) ⟨wr.heap.size, 0, none⟩ 1 1 [.bool _] rfl rfl (World.news_of_block (heap_alloc_new _ _)) (by simp [Value.oneCell']) (by decide) (by unfold maxLen; omega) (by omega) _ rfl ?_;
             intro g off cp w4 hown hgrow hat hlt)
          | fail)
        have hms : ((n2 : Int)).toNat < ((n' : Int)).toNat := by have := HG.out.2; omega
        refine ⟨⟨i2, n2, acc ++ [lb], by rw [HI2.out.1], by rw [HI2.out.2], HG.out.1, by have := HG.out.2; omega, HA2, Lib.hid ⟨?_, fun x hx => ?_, ?_⟩⟩, by first | exact hms | (rw [HI2.out.2] at hms; exact hms)⟩
        · rw [List.length_append, List.map_append, HLB.out]; exact hown
        · have e : g = x := by simpa [Value.ownBlock] using hx
          rw [← e]
          rcases hat with h | h
          · exact HS.out.2.1 g h
          · rw [h]; exact Nat.le_trans HS.out.2.2.size (by simp)
        · exact (HS.out.2.2.alloc HS.out.2.2.size _).trans (below_own hgrow HS.out.2.1 (Nat.le_trans HS.out.2.2.size (by simp)))

set_option maxRecDepth 100000 in
set_option maxHeartbeats 1000000 in
/-- Index of false among bools. -/
theorem indexB_calls (v : Value) (T : List Bool) (w : World) (hs : Seg w 4 1 v T.length (T.map Value.bool)) (hlen : T.length ≤ 1000) :
    Calls Tryz.prog 128 #[v, .bool false] w fun en w' => (∃ k : Int, en = .returned (.int .i64 k) ∧ (0 ≤ k ↔ allL T = false)) ∧ w = w' := by
  obtain ⟨sa, sc, rfl, hs1, hs2⟩ := hs.slice
  obtain ⟨n, hn⟩ : ∃ n, n = T.length := ⟨_, rfl⟩
  have HC0 : Hid (∀ (i : Nat) b, T[i]? = some b → ∃ g o, sa = some ⟨g, o, none⟩ ∧ w.cell? ⟨g, o + i, none⟩ = some (.bool b)) := Lib.hid fun i b hb => by
    have hi := (List.getElem?_eq_some_iff.1 hb).1
    obtain ⟨g, o, c', hv, hg, _, _, hcell⟩ := hs.cells (by omega)
    simp only [Value.slice.injEq] at hv
    exact ⟨g, o, hv.1, hcell i _ (by rw [List.getElem?_map, hb]; rfl)⟩
  have HN := Lib.hid hn
  have hsc : (n : Int) ≤ 1000 := by omega
  have hs1' : (n : Int) ≤ (sc : Int) := by omega
  rw [← hn]
  clear hs hs1 hs2 hlen hn
  go_enter Tryz.func128, Tryz.ntmps128
  go_wp2_with fail
  go_loopw [8] (fun x wr => ∃ i : Nat, x = .int .i64 i ∧ i ≤ n ∧ Hid (∀ (j : Nat) b, j < i → T[j]? = some b → b = true) ∧ wr = w) (fun x _ => n - (intOf x).toNat)
  case atStart => exact ⟨0, rfl, Nat.zero_le _, Lib.hid (fun j b hj => absurd hj (by omega)), rfl⟩
  case round =>
    obtain ⟨i, rfl, hin, HI, rfl⟩ := hrel
    by_cases h : i < n
    · have h1 : (i : Int) < (n : Int) := by omega
      obtain ⟨b, hb⟩ : ∃ b, T[i]? = some b := ⟨_, List.getElem?_eq_getElem (by have := HN.out; omega)⟩
      obtain ⟨g, o, rfl, hcell⟩ := HC0.out i b hb
      have HB := Lib.hid hb
      clear hb
      cases b
      · go_wp2_with fail
        go_ret
        refine ⟨⟨(i : Int), rfl, ⟨fun _ => ?_, fun _ => by omega⟩⟩, rfl⟩
        have hm := List.mem_of_getElem? HB.out
        have : ¬ (∀ x ∈ T, (x == true) = true) := fun e => by have := e false hm; simp at this
        unfold allL
        rw [← Bool.not_eq_true, List.all_eq_true]
        exact this
      · go_wp2_with fail
        refine ⟨⟨i + 1, by rw [Int.natCast_add]; rfl, by omega, Lib.hid fun j b hj hb => ?_, by first | rfl | trivial⟩, ?_⟩
        · rcases Nat.lt_or_ge j i with h2 | h2
          · exact HI.out j b h2 hb
          · obtain rfl : j = i := by omega
            have := HB.out
            rw [this] at hb
            simpa using hb.symm
        · show n - ((i : Int) + 1).toNat < n - ((i : Int)).toNat
          omega
    · obtain rfl : i = n := by omega
      have h1 : ¬ (i : Int) < (i : Int) := by omega
      go_wp2_with fail
      go_ret
      refine ⟨⟨-1, rfl, ⟨fun h => absurd h (by omega), fun h => ?_⟩⟩, rfl⟩
      have : allL T = true := by
        unfold allL
        rw [List.all_eq_true]
        intro x hx
        obtain ⟨j, hj⟩ := List.getElem?_of_mem hx
        have hl := (List.getElem?_eq_some_iff.1 hj).1
        rw [HI.out j x (by have := HN.out; omega) hj]
        rfl
      rw [this] at h
      cases h

set_option maxHeartbeats 400000 in
theorem allLeft_calls (v : Value) (T : List Bool) (w : World) (hs : Seg w 4 1 v T.length (T.map Value.bool)) (hlen : T.length ≤ 1000) :
    Calls Tryz.prog 90 #[v] w fun en w' => en = .returned (.bool (allL T)) ∧ w = w' := by
  obtain ⟨b, hb⟩ : ∃ b, b = allL T := ⟨_, rfl⟩
  have H1 : Hid (Calls Tryz.prog 111 #[v, .bool false] w fun en w' => en = .returned (.bool (!b)) ∧ w = w') := Lib.hid (by
    have hi := indexB_calls v T w hs hlen
    rw [← hb] at hi
    have HI := Lib.hid hi
    clear hs hlen hb hi
    cases b
    · go_enter Tryz.func111, Tryz.ntmps111
      go_wp2_with fail
      refine HI.out.mono ?_
      rintro en w' ⟨⟨k, rfl, hk⟩, rfl⟩
      have h1 : k ≥ 0 := hk.2 (by first | rfl | trivial)
      clear hk
      go_wp2_with fail
      go_ret
      exact ⟨by first | rfl | (have h2 : decide (0 ≤ k) = true := (by simpa using h1); simp [h2]), rfl⟩
    · go_enter Tryz.func111, Tryz.ntmps111
      go_wp2_with fail
      refine HI.out.mono ?_
      rintro en w' ⟨⟨k, rfl, hk⟩, rfl⟩
      have h1 : ¬ k ≥ 0 := fun h => by have := hk.1 h; cases this
      clear hk
      go_wp2_with fail
      go_ret
      exact ⟨by first | rfl | (have h2 : decide (0 ≤ k) = false := (by simpa using h1); simp [h2]), rfl⟩)
  clear hs hlen
  rw [← hb]
  clear hb
  cases b
  all_goals
    go_enter Tryz.func90, Tryz.ntmps90
    go_wp2_with fail
    refine H1.out.mono ?_
    rintro en w' ⟨rfl, rfl⟩
    go_wp2_with fail
    go_ret
    exact ⟨rfl, rfl⟩
end Go.Proofs.YtdoadmkaoboncaaGreatDoor.clash
end

