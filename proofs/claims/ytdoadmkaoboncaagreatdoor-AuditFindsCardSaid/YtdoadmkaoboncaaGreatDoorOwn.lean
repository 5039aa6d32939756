/- Rows that are owned (slices that grew by append, or were laid as literals): what keeps them, what stands in them. Of no program. -/
import Derived.Test.YtdoadmkaoboncaaGreatDoorReg
import Derived.Laws.OwnMore
namespace Go.Proofs.YtdoadmkaoboncaaGreatDoor
open Go.RowKit

section
variable {w w' : World} {e : TypeId} {size n : Nat} {v : Value} {xs : List Value}

theorem own_lt {b : Nat} (h : w.ownsRow 0 e size v n xs) (hb : v.ownBlock = some b) : b < w.heap.size := by
  rcases h.2 with ⟨rfl, _⟩ | ⟨g, cap, cur, rfl, _, hg, _⟩
  · cases hb
  · injection hb with hb
    subst hb
    rcases Nat.lt_or_ge g w.heap.size with k | k
    · exact k
    · rw [Array.getElem?_eq_none k] at hg; cases hg

theorem own_turn {F : Nat → Prop} (h : w.ownsRow 0 e size v n xs) (t : Turn F w w') (hr : ∀ b, v.ownBlock = some b → ¬ F b) : w'.ownsRow 0 e size v n xs := by
  refine ⟨h.1, ?_⟩
  rcases h.2 with k | ⟨g, cap, cur, e1, e2, e3, e4⟩
  · exact .inl k
  · have hg : g < w.heap.size := own_lt h (by rw [e1]; rfl)
    exact .inr ⟨g, cap, cur, e1, e2, (t.block g hg (hr g (by rw [e1]; rfl))).trans e3, e4⟩

theorem own_ne {b : Nat} {t : TypeId} {cs : Array Value} (h : w.ownsRow 0 e size v n xs) (hb : Has w b t cs) (hne : e ≠ t) : v.ownBlock ≠ some b := by
  rcases h.2 with ⟨rfl, _⟩ | ⟨g, cap, cur, rfl, _, hg, _⟩
  · intro k; cases k
  · intro k
    injection k with k
    obtain rfl : g = b := k
    have hg' : Has w g e cur := hg
    exact hne (hg'.uniq hb).2

theorem own_own {e' : TypeId} {size' n' : Nat} {v' : Value} {xs' : List Value} (h : w.ownsRow 0 e size v n xs) (h' : w.ownsRow 0 e' size' v' n' xs') (hne : e ≠ e') : ∀ b, v.ownBlock = some b → v'.ownBlock ≠ some b := by
  intro b hb
  rcases h.2 with ⟨rfl, _⟩ | ⟨g, cap, cur, rfl, _, hg, _⟩
  · cases hb
  · injection hb with hb
    obtain rfl : g = b := hb
    have hg' : Has w g e cur := hg
    exact own_ne h' hg' (fun k => hne k.symm)

/-- What stands in the row. -/
theorem own_cell (h : w.ownsRow 0 e size v n xs) (hn : 0 < n) : ∃ g c, v = .slice (some ⟨g, 0, none⟩) n c ∧ n ≤ c ∧ c ≤ maxLen ∧ ∀ j u, xs[j]? = some u → w.cell? ⟨g, j, none⟩ = some u := by
  rcases h.2 with ⟨_, h0⟩ | ⟨g, cap, cur, rfl, _, hg, hc1, hc2, _, hx⟩
  · omega
  · refine ⟨g, cap, rfl, hc1, hc2, fun j u hj => ?_⟩
    have hg' : Has w g e cur := hg
    rw [hg'.cell, ← Array.getElem?_toList]
    have hjl : j < xs.length := by
      rcases Nat.lt_or_ge j xs.length with k | k
      · exact k
      · rw [List.getElem?_eq_none k] at hj; cases hj
    have hl : xs.length ≤ n * size := by rw [h.1]; exact Nat.le_refl _
    have h1 : (cur.toList.take (n * size))[j]? = cur.toList[j]? := List.getElem?_take_of_lt (by omega)
    rw [← h1, hx, hj]

theorem own_slice (h : w.ownsRow 0 e size v n xs) : ∃ a c, v = .slice a n c := by
  rcases h.2 with ⟨h1, h2⟩ | ⟨g, cap, cur, h1, _⟩
  · exact ⟨none, 0, by rw [h1, h2]⟩
  · exact ⟨_, _, h1⟩
end

end Go.Proofs.YtdoadmkaoboncaaGreatDoor
