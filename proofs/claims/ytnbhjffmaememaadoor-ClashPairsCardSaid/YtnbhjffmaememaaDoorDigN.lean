/- digest: the world that the program's own initialisers leave meets the rows' condition (of the rows that list the table of rounds alone). -/
import Derived.Test.YtnbhjffmaememaaDoorRows
import Derived.LaidMore
import Derived.ProofKit
namespace Go.Proofs.YtnbhjffmaememaaDoor.dig
open Go Go.ChangeShapes Go.WideShapes Go.ChangeAt Go.RowKit

theorem door_met (os : Os) (args : Array Value) : laidMetH Tryd.prog [("hindsight/digest.rounds", Rows.laid_hindsight_digest_rounds)] ((World.doorLaid Tryd.prog 31 os).forCall (fun _ _ => 0) ⟨#[], args, []⟩).memory :=
  laidMetH_of_parts3 (fuel := 8) (laidMet_of_run' 8 (by kernel_rfl) (by kernel_rfl)) (by kernel_rfl) (by kernel_rfl)
theorem door_shaped (os : Os) (args : Array Value) : ((World.doorLaid Tryd.prog 31 os).forCall (fun _ _ => 0) ⟨#[], args, []⟩).Shaped Tryd.prog :=
  World.shaped_of_RefB (by kernel_rfl) (by kernel_rfl)
end Go.Proofs.YtnbhjffmaememaaDoor.dig
