/-
  DERIVED. GIVEN WITH THE SEED: THE CARDS: each row of YtiogjmlkogeibaaDoorRows.lean that lists a variable, with what it lists TIED to the program's text (the seventh form; the later family's looks); each row that meets fmt, with fmt's text TOLD by the authors' own Lean function (tested against real Go, not proved from fmt's source: count such statements apart). THE CARD IS WHAT COUNTS. Prove the row's statement (the work); the ties are given (YtiogjmlkogeibaaDoorTie.lean); close each card by the builder's one call (the guide's Derived/Test/ToyasCard.lean, 'card_holds'). Laid BY PROGRAM, IN A SANDBOX (cutbox-door.mjs). By AI agents, Wed Nov 11 2026. No macro, syntax, notation, axiom, sorry.
-/
import Derived.Test.YtiogjmlkogeibaaDoorRows
import GoSem.ClaimSeven
namespace Go.Proofs.YtiogjmlkogeibaaDoor
namespace Rows

/-- THE TIED CARD OF 'hindsightlaw10.ProofAny'. -/
def proofAnyCard : Claim7 := { stood := { row := proofAnyRow, standIns := [], harness := (true, "dd77f1a3ce27cd2dbffbfa67e26c5393ebf96cf007c9aedd399d3f80ba9dd708"), looks := true }, kinds := [], alts := [], laidByText := true, laidKinds := [.data, .handle], laidTests := true, laidLooks := .later }
def ProofAnyCardSaid : Prop := Claim7.holds Tryd.pinned (.plain (OpenSpec.ofChange proofAnySpec)) proofAnyCard

/-- THE TIED CARD OF 'hindsightlaw10.ProofRight'. -/
def proofRightCard : Claim7 := { stood := { row := proofRightRow, standIns := [], harness := (true, "dd77f1a3ce27cd2dbffbfa67e26c5393ebf96cf007c9aedd399d3f80ba9dd708"), looks := true }, kinds := [], alts := [], laidByText := true, laidKinds := [.data, .handle], laidTests := true, laidLooks := .later }
def ProofRightCardSaid : Prop := Claim7.holds Tryd.pinned (.plain (OpenSpec.ofChange proofRightSpec)) proofRightCard

/-- THE TIED CARD OF 'hindsightlaw10.ProofProves'. -/
def proofProvesCard : Claim7 := { stood := { row := proofProvesRow, standIns := [], harness := (true, "dd77f1a3ce27cd2dbffbfa67e26c5393ebf96cf007c9aedd399d3f80ba9dd708"), looks := true }, kinds := [], alts := [], laidByText := true, laidKinds := [.data, .handle], laidTests := true, laidLooks := .later }
def ProofProvesCardSaid : Prop := Claim7.holds Tryd.pinned (.plain (OpenSpec.ofChange proofProvesSpec)) proofProvesCard

/-- THE SECOND FORM's CARD OF 'hindsightlaw10.ProofAny'. -/
def proofAnyUptoCard : Claim7 := { stood := { row := proofAnyUptoRow, standIns := [], harness := (true, "dd77f1a3ce27cd2dbffbfa67e26c5393ebf96cf007c9aedd399d3f80ba9dd708"), looks := true }, kinds := [], alts := [], laidByText := true, laidKinds := [.data, .handle], laidTests := true, laidLooks := .later }
def ProofAnyUptoCardSaid : Prop := Claim7.holds Tryd.pinned (.plain (OpenSpec.upto proofAnySpec)) proofAnyUptoCard

/-- THE SECOND FORM's CARD OF 'hindsightlaw10.ProofRight'. -/
def proofRightUptoCard : Claim7 := { stood := { row := proofRightUptoRow, standIns := [], harness := (true, "dd77f1a3ce27cd2dbffbfa67e26c5393ebf96cf007c9aedd399d3f80ba9dd708"), looks := true }, kinds := [], alts := [], laidByText := true, laidKinds := [.data, .handle], laidTests := true, laidLooks := .later }
def ProofRightUptoCardSaid : Prop := Claim7.holds Tryd.pinned (.plain (OpenSpec.upto proofRightSpec)) proofRightUptoCard

/-- THE SECOND FORM's CARD OF 'hindsightlaw10.ProofProves'. -/
def proofProvesUptoCard : Claim7 := { stood := { row := proofProvesUptoRow, standIns := [], harness := (true, "dd77f1a3ce27cd2dbffbfa67e26c5393ebf96cf007c9aedd399d3f80ba9dd708"), looks := true }, kinds := [], alts := [], laidByText := true, laidKinds := [.data, .handle], laidTests := true, laidLooks := .later }
def ProofProvesUptoCardSaid : Prop := Claim7.holds Tryd.pinned (.plain (OpenSpec.upto proofProvesSpec)) proofProvesUptoCard
end Rows
end Go.Proofs.YtiogjmlkogeibaaDoor
