/- tower: how many a search goes past, by heights alone. -/
import Derived.Test.YtbimdcjbpbpljaaDoorTowH
namespace Go.Proofs.YtbimdcjbpbpljaaDoor.tow
open Go Go.RowKit

/-- How many a search goes past, by how high they are. -/
def stpL : List Nat → Nat
  | [] => 0
  | x :: l => stpL l + if l.all (fun y => decide (y ≤ x)) then 1 else 0
theorem stpL_cons (x : Nat) (l : List Nat) : stpL (x :: l) = stpL l + if l.all (fun y => decide (y ≤ x)) then 1 else 0 := rfl
theorem stp_heights {V : Type} (l : List (Nd V)) : stp l = stpL (l.map (·.k)) := by
  induction l with
  | nil => rfl
  | cons x l ih =>
    rw [stp_cons, List.map_cons, stpL_cons, ih, List.all_map]
    rfl
theorem stpL_le (l : List Nat) : stpL l ≤ l.length := by
  induction l with
  | nil => exact Nat.le_refl _
  | cons x l ih => rw [stpL_cons, List.length_cons]; split <;> omega
end Go.Proofs.YtbimdcjbpbpljaaDoor.tow
