/- proof: Proves. -/
import Derived.Test.YtiogjmlkogeibaaDoorPrfX
namespace Go.Proofs.YtiogjmlkogeibaaDoor.prf
open Go Go.RowKit Go.Proofs.YtiogjmlkogeibaaDoor.dig

/-- A proof's cells. -/
abbrev prC (K I N : Int) (v : Value) : Array Value := #[.int .i64 K, .int .i64 I, .int .i64 N, v]
def leafB : ByteArray := ⟨#[108, 101, 97, 102]⟩
def prefixB : ByteArray := ⟨#[112, 114, 101, 102, 105, 120]⟩
def proofB : ByteArray := ⟨#[112, 114, 111, 111, 102]⟩
/-- Which question a proof puts: 1: of a leaf, 2: of a prefix, 0: none. -/
def kindOf (K I N m n : Int) : Nat := if K = 1 ∧ N = n then 1 else if K = 2 ∧ N = n ∧ I = m then 2 else 0

set_option maxRecDepth 100000 in
set_option maxHeartbeats 2000000 in
theorem proves_leaf {old root : List UInt8} (hr : root.length = 32) (leaf : ByteArray) (I N m : Int) (v : Value) (w : World) (E : Int)
    (hc : ∀ V, Below w.heap.size w V → Calls Tryd.prog 11 #[.string leaf, .int .i64 I, .agg (headC N root), v] V (ErrPost V leafB I E)) :
    Calls Tryd.prog 18 #[.agg (prC 1 I N v), .string leaf, .agg (headC m old), .agg (headC N root)] w (ErrPost w leafB I E) := by
  have HR := Lib.hid hr
  have HC := Lib.hid hc
  clear hr hc
  have p0 : ∀ A B, (((w.alloc (.cells (prC 1 I N v) 48)).alloc A).alloc B).cell? ⟨w.heap.size, 0, none⟩ = some (.int .i64 1) := fun A B => (((made_at _ _ rfl).alloc A).alloc B).cell 0
  have p1 : ∀ A B, (((w.alloc (.cells (prC 1 I N v) 48)).alloc A).alloc B).cell? ⟨w.heap.size, 1, none⟩ = some (.int .i64 I) := fun A B => (((made_at _ _ rfl).alloc A).alloc B).cell 1
  have p2 : ∀ A B, (((w.alloc (.cells (prC 1 I N v) 48)).alloc A).alloc B).cell? ⟨w.heap.size, 2, none⟩ = some (.int .i64 N) := fun A B => (((made_at _ _ rfl).alloc A).alloc B).cell 2
  have p3 : ∀ A B, (((w.alloc (.cells (prC 1 I N v) 48)).alloc A).alloc B).cell? ⟨w.heap.size, 3, none⟩ = some v := fun A B => (((made_at _ _ rfl).alloc A).alloc B).cell 3
  have n0 : ∀ A B, (((w.alloc A).alloc B).alloc (.cells (headC N root) 33)).cell? ⟨w.heap.size + 1 + 1, 0, none⟩ = some (.int .i64 N) := fun A B => Has.num (made_at _ _ (by simp))
  go_enter Tryd.func18, Tryd.ntmps18
  go_wp2_with (first
    | ((with_reducible refine at_op 23 ?_); refine wpList_load_row (o := ⟨some 23, _, _, _, _, _⟩) rfl 33 _ rfl (w.heap.size + 1 + 1) rfl 33 (headC N root) (0, 0) _ (made_at _ _ (by simp)) Tryd.underlying33 rfl (by rw [headC_size, HR.out]; kernel_rfl) ?_)
    | fail)
  have bw : ∀ A B C, Below w.heap.size w (((w.alloc A).alloc B).alloc C) := fun A B C => (((Below.refl _ _).alloc (Nat.le_refl _) _).alloc (by simp) _).alloc (by simp; omega) _
  refine (HC.out _ (bw _ _ _)).mono ?_
  rintro en w1 ⟨e, rfl, he, b⟩
  have B1 : Hid (Below w.heap.size w w1) := Lib.hid ((bw _ _ _).trans (b.mono (bw _ _ _).size))
  have HE := Lib.hid he
  clear b he bw p0 p1 p2 p3 n0
  go_wp2_with fail
  go_ret
  exact ⟨e, rfl, HE.out, B1.out⟩

set_option maxRecDepth 100000 in
set_option maxHeartbeats 2000000 in
theorem proves_prefix {old root : List UInt8} (ho : old.length = 32) (hr : root.length = 32) (leaf : ByteArray) (I N : Int) (v : Value) (w : World) (E : Int)
    (hc : ∀ V, Below w.heap.size w V → Calls Tryd.prog 12 #[.agg (headC I old), .agg (headC N root), v] V (ErrPost V prefixB I E)) :
    Calls Tryd.prog 18 #[.agg (prC 2 I N v), .string leaf, .agg (headC I old), .agg (headC N root)] w (ErrPost w prefixB I E) := by
  have HO := Lib.hid ho
  have HR := Lib.hid hr
  have HC := Lib.hid hc
  clear ho hr hc
  have p0 : ∀ A B, (((w.alloc (.cells (prC 2 I N v) 48)).alloc A).alloc B).cell? ⟨w.heap.size, 0, none⟩ = some (.int .i64 2) := fun A B => (((made_at _ _ rfl).alloc A).alloc B).cell 0
  have p1 : ∀ A B, (((w.alloc (.cells (prC 2 I N v) 48)).alloc A).alloc B).cell? ⟨w.heap.size, 1, none⟩ = some (.int .i64 I) := fun A B => (((made_at _ _ rfl).alloc A).alloc B).cell 1
  have p2 : ∀ A B, (((w.alloc (.cells (prC 2 I N v) 48)).alloc A).alloc B).cell? ⟨w.heap.size, 2, none⟩ = some (.int .i64 N) := fun A B => (((made_at _ _ rfl).alloc A).alloc B).cell 2
  have p3 : ∀ A B, (((w.alloc (.cells (prC 2 I N v) 48)).alloc A).alloc B).cell? ⟨w.heap.size, 3, none⟩ = some v := fun A B => (((made_at _ _ rfl).alloc A).alloc B).cell 3
  have m0 : ∀ A B, (((w.alloc A).alloc (.cells (headC I old) 33)).alloc B).cell? ⟨w.heap.size + 1, 0, none⟩ = some (.int .i64 I) := fun A B => Has.num ((made_at _ _ (by simp)).alloc _)
  have n0 : ∀ A B, (((w.alloc A).alloc B).alloc (.cells (headC N root) 33)).cell? ⟨w.heap.size + 1 + 1, 0, none⟩ = some (.int .i64 N) := fun A B => Has.num (made_at _ _ (by simp))
  go_enter Tryd.func18, Tryd.ntmps18
  go_wp2_with (first
    | ((with_reducible refine at_op 45 ?_); refine wpList_load_row (o := ⟨some 45, _, _, _, _, _⟩) rfl 33 _ rfl (w.heap.size + 1) rfl 33 (headC I old) (0, 0) _ ((made_at _ _ (by simp)).alloc _) Tryd.underlying33 rfl (by rw [headC_size, HO.out]; kernel_rfl) ?_)
    | ((with_reducible refine at_op 46 ?_); refine wpList_load_row (o := ⟨some 46, _, _, _, _, _⟩) rfl 33 _ rfl (w.heap.size + 1 + 1) rfl 33 (headC N root) (0, 0) _ (made_at _ _ (by simp)) Tryd.underlying33 rfl (by rw [headC_size, HR.out]; kernel_rfl) ?_)
    | fail)
  have bw : ∀ A B C, Below w.heap.size w (((w.alloc A).alloc B).alloc C) := fun A B C => (((Below.refl _ _).alloc (Nat.le_refl _) _).alloc (by simp) _).alloc (by simp; omega) _
  refine (HC.out _ (bw _ _ _)).mono ?_
  rintro en w1 ⟨e, rfl, he, b⟩
  have B1 : Hid (Below w.heap.size w w1) := Lib.hid ((bw _ _ _).trans (b.mono (bw _ _ _).size))
  have HE := Lib.hid he
  clear b he bw p0 p1 p2 p3 m0 n0
  go_wp2_with fail
  go_ret
  exact ⟨e, rfl, HE.out, B1.out⟩

set_option maxRecDepth 100000 in
set_option maxHeartbeats 4000000 in
theorem proves_none {old root : List UInt8} (leaf : ByteArray) (K I N m n : Int) (hk : kindOf K I N m n = 0) (v : Value) (w : World) :
    Calls Tryd.prog 18 #[.agg (prC K I N v), .string leaf, .agg (headC m old), .agg (headC n root)] w (ErrPost w proofB N 4) := by
  have HI := fun V => Lib.hid (in_post proofB N 4 (by decide) V)
  have p0 : ∀ A B, (((w.alloc (.cells (prC K I N v) 48)).alloc A).alloc B).cell? ⟨w.heap.size, 0, none⟩ = some (.int .i64 K) := fun A B => (((made_at _ _ rfl).alloc A).alloc B).cell 0
  have p1 : ∀ A B, (((w.alloc (.cells (prC K I N v) 48)).alloc A).alloc B).cell? ⟨w.heap.size, 1, none⟩ = some (.int .i64 I) := fun A B => (((made_at _ _ rfl).alloc A).alloc B).cell 1
  have p2 : ∀ A B, (((w.alloc (.cells (prC K I N v) 48)).alloc A).alloc B).cell? ⟨w.heap.size, 2, none⟩ = some (.int .i64 N) := fun A B => (((made_at _ _ rfl).alloc A).alloc B).cell 2
  have m0 : ∀ A B, (((w.alloc A).alloc (.cells (headC m old) 33)).alloc B).cell? ⟨w.heap.size + 1, 0, none⟩ = some (.int .i64 m) := fun A B => Has.num ((made_at _ _ (by simp)).alloc _)
  have n0 : ∀ A B, (((w.alloc A).alloc B).alloc (.cells (headC n root) 33)).cell? ⟨w.heap.size + 1 + 1, 0, none⟩ = some (.int .i64 n) := fun A B => Has.num (made_at _ _ (by simp))
  have key : (K = 1 ∧ (N == n) = false) ∨ (K = 2 ∧ (N == n) = false) ∨ (K = 2 ∧ N = n ∧ (I == m) = false) ∨ ((K == 1) = false ∧ (K == 2) = false) := by
    unfold kindOf at hk
    by_cases h1 : K = 1
    · by_cases h2 : N = n
      · rw [if_pos ⟨h1, h2⟩] at hk; cases hk
      · exact .inl ⟨h1, by simpa using h2⟩
    · rw [if_neg (fun h => h1 h.1)] at hk
      by_cases h3 : K = 2
      · by_cases h2 : N = n
        · by_cases h4 : I = m
          · rw [if_pos ⟨h3, h2, h4⟩] at hk; cases hk
          · exact .inr (.inr (.inl ⟨h3, h2, by simpa using h4⟩))
        · exact .inr (.inl ⟨h3, by simpa using h2⟩)
      · exact .inr (.inr (.inr ⟨by simpa using h1, by simpa using h3⟩))
  have bw : Hid (∀ A B C, Below w.heap.size w (((w.alloc A).alloc B).alloc C)) := Lib.hid fun A B C => (((Below.refl _ _).alloc (Nat.le_refl _) _).alloc (by simp) _).alloc (by simp; omega) _
  clear hk
  rcases key with ⟨rfl, h1⟩ | ⟨rfl, h1⟩ | ⟨rfl, rfl, h1⟩ | ⟨h1, h2⟩
  all_goals
    go_enter Tryd.func18, Tryd.ntmps18
    go_wp2_with fail
    refine (HI _).out.mono ?_
    rintro en w1 ⟨e, rfl, he, b⟩
    have B1 : Hid (Below w.heap.size w w1) := Lib.hid ((bw.out _ _ _).trans (b.mono (bw.out _ _ _).size))
    have HE := Lib.hid he
    clear b he p0 p1 p2 m0 n0
    go_wp2_with fail
    go_ret
    exact ⟨e, rfl, HE.out, B1.out⟩
end Go.Proofs.YtiogjmlkogeibaaDoor.prf
