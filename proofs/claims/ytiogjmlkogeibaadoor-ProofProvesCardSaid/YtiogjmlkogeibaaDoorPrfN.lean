/- proof: what the rows' list (digest's rounds, errors.errorType) gives; the world that the program's own initialisers leave meets the rows' condition. -/
import Derived.Test.YtiogjmlkogeibaaDoorDigLA
import Derived.Test.YtiogjmlkogeibaaDoorFltK
namespace Go.Proofs.YtiogjmlkogeibaaDoor.prf
open Go Go.ChangeShapes Go.WideShapes Go.ChangeAt Go.RowKit Go.Proofs.YtiogjmlkogeibaaDoor.dig

/-- What a law finds: the table of the rounds; what errors.As asks for. -/
structure Lw (W : World) : Prop where
  rk : Rk W
  et : flt.Et W.heap.size W
theorem lw_of_laid {W : World} (h : laidMetH Tryd.prog [("hindsight/digest.rounds", Rows.laid_hindsight_digest_rounds), ("errors.errorType", Rows.laid_errors_errorType)] W) : Lw W := by
  have h' : laidMet Tryd.prog [("hindsight/digest.rounds", Rows.laid_hindsight_digest_rounds)] W ∧ handlesMet Tryd.prog [("errors.errorType", Rows.laid_errors_errorType)] W := h
  have h2 : laidMet Tryd.prog [] W ∧ handlesMet Tryd.prog [("errors.errorType", Rows.laid_errors_errorType)] W := ⟨⟨[], rfl, List.nodup_nil, fun _ _ h => by cases h⟩, h'.2⟩
  exact ⟨rk_of_laid (rest := []) h'.1, flt.et_of_laid h2⟩
theorem door_met (os : Os) (args : Array Value) : laidMetH Tryd.prog [("hindsight/digest.rounds", Rows.laid_hindsight_digest_rounds), ("errors.errorType", Rows.laid_errors_errorType)] ((World.doorLaid Tryd.prog 31 os).forCall (fun _ _ => 0) ⟨#[], args, []⟩).memory :=
  laidMetH_of_parts3 (fuel := 8) (laidMet_of_run' 8 (by kernel_rfl) (by kernel_rfl)) (by kernel_rfl) (by kernel_rfl)
theorem door_shaped (os : Os) (args : Array Value) : ((World.doorLaid Tryd.prog 31 os).forCall (fun _ _ => 0) ⟨#[], args, []⟩).Shaped Tryd.prog :=
  World.shaped_of_RefB (by kernel_rfl) (by kernel_rfl)
end Go.Proofs.YtiogjmlkogeibaaDoor.prf
