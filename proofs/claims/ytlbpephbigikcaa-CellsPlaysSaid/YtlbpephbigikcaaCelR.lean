/- cells: the document's list of accesses: what a cell holds, how many are of a process, how many Swaps were done. -/
import Derived.Test.YtlbpephbigikcaaRow
import Derived.Lib.ItoaWalk
namespace Go.Proofs.Ytlbpephbigikcaa.cel
open Go Go.RowKit

/-- An access of a process, and was it done? -/
structure Dn where
  who : Int
  k : Int
  z : Int
  old : ByteArray
  new : ByteArray
  is : Bool

def dnC (x : Dn) : List Value := [.int .i64 x.who, .int .i64 x.k, .int .i64 x.z, .string x.old, .string x.new, .bool x.is]
def rowD (l : List Dn) : List Value := l.flatMap dnC

theorem rowD_len : ∀ l : List Dn, (rowD l).length = l.length * 6
  | [] => rfl
  | x :: r => by
    show (dnC x ++ rowD r).length = _
    rw [List.length_append, rowD_len r, List.length_cons]
    show 6 + _ = _
    omega

theorem rowD_get : ∀ {l : List Dn} {i : Nat} {x : Dn}, l[i]? = some x → ∀ q u, q < 6 → (dnC x)[q]? = some u → (rowD l)[i * 6 + q]? = some u
  | [], i, x, h, _, _, _, _ => by simp at h
  | y :: r, 0, x, h, q, u, hq, hu => by
    obtain rfl : y = x := by simpa using h
    show (dnC y ++ rowD r)[0 * 6 + q]? = _
    rw [show 0 * 6 + q = q by omega, List.getElem?_append_left (by show q < 6; exact hq)]
    exact hu
  | y :: r, i + 1, x, h, q, u, hq, hu => by
    show (dnC y ++ rowD r)[(i + 1) * 6 + q]? = _
    rw [List.getElem?_append_right (by show 6 ≤ _; omega), show (i + 1) * 6 + q - (dnC y).length = i * 6 + q by show (i + 1) * 6 + q - 6 = _; omega]
    exact rowD_get (by simpa using h) q u hq hu

theorem rowD_snoc (l : List Dn) (x : Dn) : rowD (l ++ [x]) = rowD l ++ dnC x := by
  unfold rowD; simp

/-- What a cell holds behind them. -/
def stepH (z : Int) (s : ByteArray) (x : Dn) : ByteArray := if x.z = z ∧ 1 < x.k ∧ x.is = true then x.new else s
def holds (l : List Dn) (z : Int) : ByteArray := l.foldl (stepH z) ⟨#[]⟩
def stepC (p : Int) (n : Nat) (x : Dn) : Nat := if x.who = p then n + 1 else n
def count (l : List Dn) (p : Int) : Nat := l.foldl (stepC p) 0
def stepS (z : Int) (n : Nat) (x : Dn) : Nat := if x.z = z ∧ x.k = 3 ∧ x.is = true then n + 1 else n
def swaps (l : List Dn) (z : Int) : Nat := l.foldl (stepS z) 0

theorem take_next {α : Type} {l : List α} {i : Nat} {x : α} (h : l[i]? = some x) : l.take (i + 1) = l.take i ++ [x] := by
  rw [List.take_add_one, h]; rfl

theorem holds_next {l : List Dn} {i : Nat} {x : Dn} (z : Int) (h : l[i]? = some x) : holds (l.take (i + 1)) z = stepH z (holds (l.take i) z) x := by
  unfold holds; rw [take_next h, List.foldl_append]; rfl
theorem count_next {l : List Dn} {i : Nat} {x : Dn} (z : Int) (h : l[i]? = some x) : count (l.take (i + 1)) z = stepC z (count (l.take i) z) x := by
  unfold count; rw [take_next h, List.foldl_append]; rfl
theorem swaps_next {l : List Dn} {i : Nat} {x : Dn} (z : Int) (h : l[i]? = some x) : swaps (l.take (i + 1)) z = stepS z (swaps (l.take i) z) x := by
  unfold swaps; rw [take_next h, List.foldl_append]; rfl

theorem count_le (l : List Dn) (p : Int) : count l p ≤ l.length := by
  have : ∀ (l : List Dn) (a : Nat), l.foldl (stepC p) a ≤ a + l.length := by
    intro l
    induction l with
    | nil => intro a; exact Nat.le_refl _
    | cons x r ih =>
      intro a
      refine Nat.le_trans (ih (stepC p a x)) ?_
      unfold stepC
      rw [List.length_cons]
      split <;> omega
  simpa [count] using this l 0
theorem swaps_le (l : List Dn) (p : Int) : swaps l p ≤ l.length := by
  have : ∀ (l : List Dn) (a : Nat), l.foldl (stepS p) a ≤ a + l.length := by
    intro l
    induction l with
    | nil => intro a; exact Nat.le_refl _
    | cons x r ih =>
      intro a
      refine Nat.le_trans (ih (stepS p a x)) ?_
      unfold stepS
      rw [List.length_cons]
      split <;> omega
  simpa [swaps] using this l 0

section
variable {w : World} {l : List Dn} {v : Value}

/-- What is read of one of them. -/
theorem dn_at (h : Seg w 54 6 v l.length (rowD l)) {i : Nat} {x : Dn} (hx : l[i]? = some x) : ∃ g off c, v = .slice (some ⟨g, off, none⟩) l.length c ∧ g < w.heap.size ∧ ∀ q u, q < 6 → (dnC x)[q]? = some u → w.cell? ⟨g, off + (i * 6 + q), none⟩ = some u := by
  have hi : i < l.length := by
    rcases Nat.lt_or_ge i l.length with k | k
    · exact k
    · rw [List.getElem?_eq_none k] at hx; cases hx
  obtain ⟨g, off, c, e, hg, _, _, hc⟩ := h.cells (by omega)
  exact ⟨g, off, c, e, hg, fun q u hq hu => hc _ _ (rowD_get hx q u hq hu)⟩

def intOf2 : Value → Int
  | .int _ x => x
  | _ => 0


set_option maxHeartbeats 1000000 in
theorem holds_calls (h : Seg w 54 6 v l.length (rowD l)) (hl : l.length ≤ 1000000) (z : Int) : Calls Try.prog 13 #[v, .int .i64 z] w fun en w' => en = .returned (.string (holds l z)) ∧ Below w.heap.size w w' := by
  have HS := Lib.hid h
  obtain ⟨qa, qc, hv, -, -⟩ := h.slice
  have HV := Lib.hid hv
  rw [hv]
  have hL : (l.length : Int) ≤ 1000000 := by omega
  obtain ⟨N, hN⟩ : ∃ N, N = l.length := ⟨_, rfl⟩
  rw [← hN] at hL ⊢
  have HN := Lib.hid hN
  clear h hv hl hN
  go_enter Try.func13, Try.ntmps13
  go_wp2_with fail
  go_loopw [5, 10] (fun a i wr => ∃ k : Nat, i = .int .i64 k ∧ a = .string (holds (l.take k) z) ∧ k ≤ N ∧ Hid (Below w.heap.size w wr)) (fun _ i _ => N - (intOf2 i).toNat)
  case atStart => exact ⟨0, rfl, rfl, Nat.zero_le _, Lib.hid (Below.refl _ _)⟩
  case round =>
    obtain ⟨k, rfl, rfl, hk, HB⟩ := hrel
    by_cases hk1 : k < N
    · have hk1b : (k : Int) < (N : Int) := by omega
      have hk0b : (0 : Int) ≤ (k : Int) := by omega
      obtain ⟨x, hx⟩ : ∃ x, l[k]? = some x := ⟨_, List.getElem?_eq_getElem (by have := HN.out; omega)⟩
      obtain ⟨g, off, c', e, hg, hc⟩ := dn_at HS.out hx
      have e2 := HV.out.symm.trans e
      injection e2 with e2 e3 e4
      subst e2
      subst e4
      clear e e3
      have ht : ∀ q : Nat, wr.cell? ⟨g, q, none⟩ = w.cell? ⟨g, q, none⟩ := fun q => by
        unfold World.cell?
        rw [HB.out.block g hg]
      have c0 : wr.cell? ⟨g, off + k * 6, none⟩ = some (.int .i64 x.who) := (ht _).trans (hc 0 _ (by decide) rfl)
      have c1 : wr.cell? ⟨g, off + k * 6 + 1, none⟩ = some (.int .i64 x.k) := (ht _).trans (hc 1 _ (by decide) rfl)
      have c2 : wr.cell? ⟨g, off + k * 6 + 2, none⟩ = some (.int .i64 x.z) := (ht _).trans (hc 2 _ (by decide) rfl)
      have c3 : wr.cell? ⟨g, off + k * 6 + 3, none⟩ = some (.string x.old) := (ht _).trans (hc 3 _ (by decide) rfl)
      have c4 : wr.cell? ⟨g, off + k * 6 + 4, none⟩ = some (.string x.new) := (ht _).trans (hc 4 _ (by decide) rfl)
      have c5 : wr.cell? ⟨g, off + k * 6 + 5, none⟩ = some (.bool x.is) := (ht _).trans (hc 5 _ (by decide) rfl)
      have HNX := Lib.hid (holds_next z hx)
      clear ht hc hx hg
      obtain ⟨xw, xk, xz, xo, xn, xi⟩ := x
      dsimp only at c0 c1 c2 c3 c4 c5
      have h3 : (xz = z ∧ 1 < xk ∧ xi = true) ∨ (xz = z ∧ 1 < xk ∧ xi = false) ∨ (xz = z ∧ ¬ 1 < xk) ∨ ¬ xz = z := by
        cases xi <;> by_cases e1 : xz = z <;> by_cases e2 : 1 < xk <;> simp [e1, e2]
      rcases h3 with ⟨e1, e2, e3⟩ | ⟨e1, e2, e3⟩ | ⟨e1, e2⟩ | e1
      · subst e1 e3
        have HE := Lib.hid e2
        go_wp2_with fail
        refine ⟨⟨k + 1, by rw [Int.natCast_add]; rfl, ?_, by omega, Lib.hid ((HB.out.alloc HB.out.size _))⟩, ?_⟩
        · rw [HNX.out]
          unfold stepH; rw [if_pos ⟨rfl, HE.out, rfl⟩]
        show N - ((k : Int) + 1).toNat < N - ((k : Int)).toNat
        omega
      · subst e1 e3
        go_wp2_with fail
        refine ⟨⟨k + 1, by rw [Int.natCast_add]; rfl, ?_, by omega, Lib.hid ((HB.out.alloc HB.out.size _))⟩, ?_⟩
        · rw [HNX.out]
          unfold stepH; rw [if_neg (by simp)]
        show N - ((k : Int) + 1).toNat < N - ((k : Int)).toNat
        omega
      · subst e1
        have HE := Lib.hid e2
        go_wp2_with fail
        refine ⟨⟨k + 1, by rw [Int.natCast_add]; rfl, ?_, by omega, Lib.hid ((HB.out.alloc HB.out.size _))⟩, ?_⟩
        · rw [HNX.out]
          unfold stepH; rw [if_neg (fun e => HE.out e.2.1)]
        show N - ((k : Int) + 1).toNat < N - ((k : Int)).toNat
        omega
      · have HE := Lib.hid e1
        go_wp2_with fail
        refine ⟨⟨k + 1, by rw [Int.natCast_add]; rfl, ?_, by omega, Lib.hid ((HB.out.alloc HB.out.size _))⟩, ?_⟩
        · rw [HNX.out]
          unfold stepH; rw [if_neg (fun e => HE.out e.1)]
        show N - ((k : Int) + 1).toNat < N - ((k : Int)).toNat
        omega

    · obtain rfl : k = N := by omega
      have e : Hid (l.take k = l) := Lib.hid (by rw [HN.out]; exact List.take_length)
      go_wp2_with fail
      go_ret
      refine ⟨?_, HB.out⟩
      rw [e.out]
      rfl

set_option maxHeartbeats 1000000 in
theorem swaps_calls (h : Seg w 54 6 v l.length (rowD l)) (hl : l.length ≤ 1000000) (z : Int) : Calls Try.prog 15 #[v, .int .i64 z] w fun en w' => en = .returned (.int .i64 ((swaps l z) : Nat)) ∧ Below w.heap.size w w' := by
  have HS := Lib.hid h
  obtain ⟨qa, qc, hv, -, -⟩ := h.slice
  have HV := Lib.hid hv
  rw [hv]
  have hL : (l.length : Int) ≤ 1000000 := by omega
  obtain ⟨N, hN⟩ : ∃ N, N = l.length := ⟨_, rfl⟩
  rw [← hN] at hL ⊢
  have HN := Lib.hid hN
  clear h hv hl hN
  go_enter Try.func15, Try.ntmps15
  go_wp2_with fail
  go_loopw [5, 10] (fun a i wr => ∃ k : Nat, i = .int .i64 k ∧ a = .int .i64 ((swaps (l.take k) z) : Nat) ∧ k ≤ N ∧ Hid (Below w.heap.size w wr)) (fun _ i _ => N - (intOf2 i).toNat)
  case atStart => exact ⟨0, rfl, rfl, Nat.zero_le _, Lib.hid (Below.refl _ _)⟩
  case round =>
    obtain ⟨k, rfl, rfl, hk, HB⟩ := hrel
    by_cases hk1 : k < N
    · have hk1b : (k : Int) < (N : Int) := by omega
      have hk0b : (0 : Int) ≤ (k : Int) := by omega
      obtain ⟨x, hx⟩ : ∃ x, l[k]? = some x := ⟨_, List.getElem?_eq_getElem (by have := HN.out; omega)⟩
      obtain ⟨g, off, c', e, hg, hc⟩ := dn_at HS.out hx
      have e2 := HV.out.symm.trans e
      injection e2 with e2 e3 e4
      subst e2
      subst e4
      clear e e3
      have ht : ∀ q : Nat, wr.cell? ⟨g, q, none⟩ = w.cell? ⟨g, q, none⟩ := fun q => by
        unfold World.cell?
        rw [HB.out.block g hg]
      have c0 : wr.cell? ⟨g, off + k * 6, none⟩ = some (.int .i64 x.who) := (ht _).trans (hc 0 _ (by decide) rfl)
      have c1 : wr.cell? ⟨g, off + k * 6 + 1, none⟩ = some (.int .i64 x.k) := (ht _).trans (hc 1 _ (by decide) rfl)
      have c2 : wr.cell? ⟨g, off + k * 6 + 2, none⟩ = some (.int .i64 x.z) := (ht _).trans (hc 2 _ (by decide) rfl)
      have c3 : wr.cell? ⟨g, off + k * 6 + 3, none⟩ = some (.string x.old) := (ht _).trans (hc 3 _ (by decide) rfl)
      have c4 : wr.cell? ⟨g, off + k * 6 + 4, none⟩ = some (.string x.new) := (ht _).trans (hc 4 _ (by decide) rfl)
      have c5 : wr.cell? ⟨g, off + k * 6 + 5, none⟩ = some (.bool x.is) := (ht _).trans (hc 5 _ (by decide) rfl)
      have HNX := Lib.hid (swaps_next z hx)
      have hbd : (swaps (l.take k) z : Int) ≤ 1000000 := by have h1 := swaps_le (l.take k) z; have h2 := List.length_take_le k l; have := HN.out; omega
      have hbd0 : 0 ≤ (swaps (l.take k) z : Int) := by omega
      clear ht hc hx hg
      obtain ⟨xw, xk, xz, xo, xn, xi⟩ := x
      dsimp only at c0 c1 c2 c3 c4 c5
      have h3 : (xz = z ∧ xk = 3 ∧ xi = true) ∨ (xz = z ∧ xk = 3 ∧ xi = false) ∨ (xz = z ∧ ¬ xk = 3) ∨ ¬ xz = z := by
        cases xi <;> by_cases e1 : xz = z <;> by_cases e2 : xk = 3 <;> simp [e1, e2]
      rcases h3 with ⟨e1, e2, e3⟩ | ⟨e1, e2, e3⟩ | ⟨e1, e2⟩ | e1
      · subst e1 e3
        have HE := Lib.hid e2
        go_wp2_with fail
        refine ⟨⟨k + 1, by rw [Int.natCast_add]; rfl, ?_, by omega, Lib.hid ((HB.out.alloc HB.out.size _))⟩, ?_⟩
        · rw [HNX.out]
          unfold stepS; rw [if_pos ⟨rfl, HE.out, rfl⟩]; rw [Int.natCast_add]; rfl
        show N - ((k : Int) + 1).toNat < N - ((k : Int)).toNat
        omega
      · subst e1 e3
        go_wp2_with fail
        refine ⟨⟨k + 1, by rw [Int.natCast_add]; rfl, ?_, by omega, Lib.hid ((HB.out.alloc HB.out.size _))⟩, ?_⟩
        · rw [HNX.out]
          unfold stepS; rw [if_neg (by simp)]
        show N - ((k : Int) + 1).toNat < N - ((k : Int)).toNat
        omega
      · subst e1
        have HE := Lib.hid e2
        go_wp2_with fail
        refine ⟨⟨k + 1, by rw [Int.natCast_add]; rfl, ?_, by omega, Lib.hid ((HB.out.alloc HB.out.size _))⟩, ?_⟩
        · rw [HNX.out]
          unfold stepS; rw [if_neg (fun e => HE.out e.2.1)]
        show N - ((k : Int) + 1).toNat < N - ((k : Int)).toNat
        omega
      · have HE := Lib.hid e1
        go_wp2_with fail
        refine ⟨⟨k + 1, by rw [Int.natCast_add]; rfl, ?_, by omega, Lib.hid ((HB.out.alloc HB.out.size _))⟩, ?_⟩
        · rw [HNX.out]
          unfold stepS; rw [if_neg (fun e => HE.out e.1)]
        show N - ((k : Int) + 1).toNat < N - ((k : Int)).toNat
        omega

    · obtain rfl : k = N := by omega
      have e : Hid (l.take k = l) := Lib.hid (by rw [HN.out]; exact List.take_length)
      go_wp2_with fail
      go_ret
      refine ⟨?_, HB.out⟩
      rw [e.out]
      rfl

set_option maxHeartbeats 1000000 in
theorem count_calls (h : Seg w 54 6 v l.length (rowD l)) (hl : l.length ≤ 1000000) (z : Int) : Calls Try.prog 10 #[v, .int .i64 z] w fun en w' => en = .returned (.int .i64 ((count l z) : Nat)) ∧ Below w.heap.size w w' := by
  have HS := Lib.hid h
  obtain ⟨qa, qc, hv, -, -⟩ := h.slice
  have HV := Lib.hid hv
  rw [hv]
  have hL : (l.length : Int) ≤ 1000000 := by omega
  obtain ⟨N, hN⟩ : ∃ N, N = l.length := ⟨_, rfl⟩
  rw [← hN] at hL ⊢
  have HN := Lib.hid hN
  clear h hv hl hN
  go_enter Try.func10, Try.ntmps10
  go_wp2_with fail
  go_loopw [5, 10] (fun a i wr => ∃ k : Nat, i = .int .i64 k ∧ a = .int .i64 ((count (l.take k) z) : Nat) ∧ k ≤ N ∧ Hid (Below w.heap.size w wr)) (fun _ i _ => N - (intOf2 i).toNat)
  case atStart => exact ⟨0, rfl, rfl, Nat.zero_le _, Lib.hid (Below.refl _ _)⟩
  case round =>
    obtain ⟨k, rfl, rfl, hk, HB⟩ := hrel
    by_cases hk1 : k < N
    · have hk1b : (k : Int) < (N : Int) := by omega
      have hk0b : (0 : Int) ≤ (k : Int) := by omega
      obtain ⟨x, hx⟩ : ∃ x, l[k]? = some x := ⟨_, List.getElem?_eq_getElem (by have := HN.out; omega)⟩
      obtain ⟨g, off, c', e, hg, hc⟩ := dn_at HS.out hx
      have e2 := HV.out.symm.trans e
      injection e2 with e2 e3 e4
      subst e2
      subst e4
      clear e e3
      have ht : ∀ q : Nat, wr.cell? ⟨g, q, none⟩ = w.cell? ⟨g, q, none⟩ := fun q => by
        unfold World.cell?
        rw [HB.out.block g hg]
      have c0 : wr.cell? ⟨g, off + k * 6, none⟩ = some (.int .i64 x.who) := (ht _).trans (hc 0 _ (by decide) rfl)
      have c1 : wr.cell? ⟨g, off + k * 6 + 1, none⟩ = some (.int .i64 x.k) := (ht _).trans (hc 1 _ (by decide) rfl)
      have c2 : wr.cell? ⟨g, off + k * 6 + 2, none⟩ = some (.int .i64 x.z) := (ht _).trans (hc 2 _ (by decide) rfl)
      have c3 : wr.cell? ⟨g, off + k * 6 + 3, none⟩ = some (.string x.old) := (ht _).trans (hc 3 _ (by decide) rfl)
      have c4 : wr.cell? ⟨g, off + k * 6 + 4, none⟩ = some (.string x.new) := (ht _).trans (hc 4 _ (by decide) rfl)
      have c5 : wr.cell? ⟨g, off + k * 6 + 5, none⟩ = some (.bool x.is) := (ht _).trans (hc 5 _ (by decide) rfl)
      have HNX := Lib.hid (count_next z hx)
      have hbd : (count (l.take k) z : Int) ≤ 1000000 := by have h1 := count_le (l.take k) z; have h2 := List.length_take_le k l; have := HN.out; omega
      have hbd0 : 0 ≤ (count (l.take k) z : Int) := by omega
      clear ht hc hx hg
      obtain ⟨xw, xk, xz, xo, xn, xi⟩ := x
      dsimp only at c0 c1 c2 c3 c4 c5
      by_cases e1 : xw = z
      · subst e1
        go_wp2_with fail
        refine ⟨⟨k + 1, by rw [Int.natCast_add]; rfl, ?_, by omega, Lib.hid ((HB.out.alloc HB.out.size _))⟩, ?_⟩
        · rw [HNX.out]
          unfold stepC; rw [if_pos rfl]; rw [Int.natCast_add]; rfl
        show N - ((k : Int) + 1).toNat < N - ((k : Int)).toNat
        omega
      · have HE := Lib.hid e1
        go_wp2_with fail
        refine ⟨⟨k + 1, by rw [Int.natCast_add]; rfl, ?_, by omega, Lib.hid ((HB.out.alloc HB.out.size _))⟩, ?_⟩
        · rw [HNX.out]
          unfold stepC; rw [if_neg (fun e => HE.out e)]
        show N - ((k : Int) + 1).toNat < N - ((k : Int)).toNat
        omega

    · obtain rfl : k = N := by omega
      have e : Hid (l.take k = l) := Lib.hid (by rw [HN.out]; exact List.take_length)
      go_wp2_with fail
      go_ret
      refine ⟨?_, HB.out⟩
      rw [e.out]
      rfl

end
end Go.Proofs.Ytlbpephbigikcaa.cel
