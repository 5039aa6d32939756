/- fault: an error's path, one step more; what stands behind a new step is another one. -/
import Derived.Test.YtlbpephbigikcaaDoorFltL
namespace Go.Proofs.YtlbpephbigikcaaDoor.flt
open Go Go.RowKit

theorem Er.lt {B : Nat} {w : World} {n : Int} : ∀ {L : List Sp}, Er B w L n → ∀ y ∈ L, y.b < B
  | [], _, y, hy => by cases hy
  | x :: r, h, y, hy => by
    rcases List.mem_cons.1 hy with rfl | hy
    · exact h.1.2
    · exact Er.lt h.2 y hy

theorem Mt.small {T : Nat → ByteArray × Int} : ∀ {L : List Sp} {j : Nat}, Mt T j L → ∀ y ∈ L, y.s.size ≤ 10
  | [], _, _, y, hy => by cases hy
  | x :: r, j, h, y, hy => by
    rcases List.mem_cons.1 hy with rfl | hy
    · rw [h.1.1]; exact cut10_size _
    · exact Mt.small h.2 y hy

theorem lens_le : ∀ {L : List Sp} (n : Int), (∀ y ∈ L, y.s.size ≤ 10) → Lib.lens (L.map (fun x => x.s.data.toList) ++ [(word n).data.toList]) ≤ 10 * L.length + 1000
  | [], n, _ => by
    have := word_size n
    show Lib.lens [(word n).data.toList] ≤ _
    simp only [Lib.lens, List.map_cons, List.map_nil, List.sum_cons, List.sum_nil, List.length_nil, Array.length_toList]
    exact this
  | x :: r, n, h => by
    have e := lens_le (L := r) n (fun y hy => h y (List.mem_cons_of_mem _ hy))
    have hx := h x (List.mem_cons_self ..)
    show Lib.lens (x.s.data.toList :: (r.map (fun x => x.s.data.toList) ++ [(word n).data.toList])) ≤ _
    have : Lib.lens (x.s.data.toList :: (r.map (fun x => x.s.data.toList) ++ [(word n).data.toList])) = x.s.data.toList.length + Lib.lens (r.map (fun x => x.s.data.toList) ++ [(word n).data.toList]) := by
      simp [Lib.lens]
    rw [this, Array.length_toList, List.length_cons]
    have hx' : x.s.data.size ≤ 10 := hx
    omega

theorem path_len {L : List Sp} (n : Int) (h : ∀ y ∈ L, y.s.size ≤ 10) (hl : L.length ≤ 1000) : (Lib.join ((L.map (fun x => x.s.data.toList)) ++ [(word n).data.toList]) [47]).length ≤ 20000 := by
  have h1 := lens_le n h
  cases L with
  | nil =>
    show (Lib.join [(word n).data.toList] [47]).length ≤ _
    rw [Lib.join_one, Array.length_toList]
    exact Nat.le_trans (word_size n) (by decide)
  | cons x r =>
    show (Lib.join (x.s.data.toList :: (r.map (fun x => x.s.data.toList) ++ [(word n).data.toList])) [47]).length ≤ _
    rw [Lib.join_length]
    have h2 : Lib.lens (x.s.data.toList :: (r.map (fun x => x.s.data.toList) ++ [(word n).data.toList])) ≤ 10 * (x :: r).length + 1000 := h1
    rw [List.length_append, List.length_map]
    simp only [List.length_cons, List.length_nil] at *
    omega

theorem join_step (a b : List UInt8) (r : List (List UInt8)) : Lib.join (a :: b :: r) [47] = a ++ [47] ++ Lib.join (b :: r) [47] := by
  rw [Lib.join_cons, Lib.join_cons]
  simp [Lib.joinTail]

theorem path_more (x : Sp) (L : List Sp) (n : Int) : pathB (x :: L) n = x.s ++ ⟨#[47]⟩ ++ pathB L n := by
  unfold pathB
  apply ByteArray.ext
  apply Array.ext'
  show Lib.join (x.s.data.toList :: (L.map (fun x => x.s.data.toList) ++ [(word n).data.toList])) [47] = _
  cases L with
  | nil =>
    show Lib.join (x.s.data.toList :: (word n).data.toList :: []) [47] = _
    rw [join_step]
    simp [ByteArray.data_append]
  | cons y r =>
    show Lib.join (x.s.data.toList :: y.s.data.toList :: (r.map (fun x => x.s.data.toList) ++ [(word n).data.toList])) [47] = _
    rw [join_step]
    simp [ByteArray.data_append]

theorem place_more (x : Sp) (L : List Sp) : place (x :: L) = if L = [] then x.a else place L := by
  cases L with
  | nil => rfl
  | cons y r =>
    rw [if_neg (by simp)]
    unfold place
    rw [List.getLast?_cons_cons]

theorem pathB_size {L : List Sp} (n : Int) (h : ∀ y ∈ L, y.s.size ≤ 10) (hl : L.length ≤ 1000) : (pathB L n).size ≤ 20000 := by
  have := path_len n h hl
  unfold pathB
  show (List.toArray _).size ≤ _
  rw [List.size_toArray]
  exact this
end Go.Proofs.YtlbpephbigikcaaDoor.flt
