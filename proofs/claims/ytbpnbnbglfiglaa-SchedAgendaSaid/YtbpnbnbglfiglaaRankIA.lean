/- Slices of numbers that are owned; the queue under a turn. -/
import Derived.Test.YtbpnbnbglfiglaaRankH
namespace Go.Proofs.Ytbpnbnbglfiglaa
open Go.RowKit

def lenOf : Value → Nat
  | .slice _ n _ => n
  | _ => 0

/-- A slice of numbers that is owned. -/
def Ints (w : World) (v : Value) (L : List Int) : Prop := w.ownsRow 0 3 1 v L.length (L.map (Value.int .i64))

theorem Ints.slice {w : World} {v : Value} {L : List Int} (h : Ints w v L) : ∃ a c, v = .slice a L.length c := by
  rcases h.2 with ⟨h1, h2⟩ | ⟨g, cap, cur, h1, _⟩
  · exact ⟨none, 0, by rw [h1, h2]⟩
  · exact ⟨_, _, h1⟩

theorem Ints.turn {F : Nat → Prop} {w w' : World} {v : Value} {L : List Int} (h : Ints w v L) (t : Turn F w w') (hr : ∀ k, v.ownBlock = some k → ¬ F k) : Ints w' v L := by
  refine ⟨h.1, ?_⟩
  rcases h.2 with h | ⟨g, cap, cur, e1, e2, e3, e4⟩
  · exact .inl h
  · have hg : g < w.heap.size := by
      rcases Nat.lt_or_ge g w.heap.size with k | k
      · exact k
      · rw [Array.getElem?_eq_none k] at e3; cases e3
    exact .inr ⟨g, cap, cur, e1, e2, (t.block g hg (hr g (by rw [e1]; rfl))).trans e3, e4⟩

/-- What stands in the queue's first cell. -/
theorem Qh.cell0 {w : World} {q : Nat} {r : Option Nat} {l : List Th} {n : Int} (h : Qh w q r l n) :
    ∃ a cap, w.cell? ⟨q, 0, Option.none⟩ = some (.slice a l.length cap) ∧ (0 < l.length → ∃ g, a = some ⟨g, 0, Option.none⟩ ∧ w.cell? ⟨g, 0, Option.none⟩ = some (.int .i64 (Go.Proofs.Ytbpnbnbglfiglaa.at_ l 0).1)) := by
  rcases h.at_ with ⟨e1, e2, e3⟩ | ⟨g, cap, e1, e2⟩
  · subst e2; exact ⟨_, 0, e3.cell 0, fun h => by simp at h⟩
  · exact ⟨_, cap, e2.own.cell 0, fun h => ⟨g, rfl, by have := (e2.lie.cell 0 h).1; simpa using this⟩⟩

theorem Try.zeroInt : ∃ i z, Try.prog.info? 3 = some i ∧ i.zero = some z ∧ i.size = 1 ∧ z.cells.size = 1 ∧ i.bytes = 8 := by
  have h2 : (Try.prog.info? 3).map (fun i => (i.zero.map (fun z => z.cells.size), i.size, i.bytes)) = some (some 1, 1, 8) := by kernel_rfl
  obtain ⟨i, hi, e⟩ := Option.map_eq_some_iff.1 h2
  simp at e
  obtain ⟨⟨z, hz, hz2⟩, h3, h4⟩ := e
  exact ⟨i, z, hi, hz, h3, hz2, h4⟩

theorem firstOf_at {l : List Th} {x : Th} (h : 0 < l.length) (e : Go.Proofs.Ytbpnbnbglfiglaa.at_ l 0 = x) : firstOf l = .tuple #[.int .i64 x.1, .int .i64 x.2.1, .bool true] ∧ l = x :: l.tail := by
  cases l with
  | nil => simp at h
  | cons y t => have : y = x := e; subst this; exact ⟨rfl, rfl⟩

theorem Qh.turn {F : Nat → Prop} {w w' : World} {q : Nat} {r : Option Nat} {l : List Th} {n : Int} (h : Qh w q r l n) (t : Turn F w w') (hq : ¬ F q) (hr : ∀ k, r = some k → ¬ F k) : Qh w' q r l n := by
  refine ⟨h.heap, h.few, ?_⟩
  rcases h.at_ with ⟨e1, e2, e3⟩ | ⟨g, cap, e1, e2⟩
  · exact .inl ⟨e1, e2, e3.turn t hq⟩
  · exact .inr ⟨g, cap, e1, e2.own.turn t hq, e2.lie.turn t (hr g e1)⟩

theorem Ints.cell {w : World} {v : Value} {L : List Int} (h : Ints w v L) (i : Nat) (hi : i < L.length) : ∃ g c, v = .slice (some ⟨g, 0, none⟩) L.length c ∧ ∀ j x, L[j]? = some x → w.cell? ⟨g, j, none⟩ = some (.int .i64 x) := by
  rcases h.2 with ⟨_, h2⟩ | ⟨g, cap, cur, e1, e2, e3, e4, e5, e6, e7⟩
  · omega
  · refine ⟨g, cap, e1, fun j x hj => ?_⟩
    have hh : Has w g 3 cur := e3
    rw [hh.cell, ← Array.getElem?_toList]
    have hjl : j < L.length := by
      rcases Nat.lt_or_ge j L.length with k | k
      · exact k
      · rw [List.getElem?_eq_none k] at hj; cases hj
    have : (cur.toList.take (L.length * 1))[j]? = cur.toList[j]? := List.getElem?_take_of_lt (by omega)
    rw [← this, e7, List.getElem?_map, hj]
    rfl

end Go.Proofs.Ytbpnbnbglfiglaa
