/-
  DERIVED. GIVEN WITH THE SEED: THE CARDS: each row of YtdlkdgajoafkaaaGreatDoorRows.lean that lists a variable, with what it lists TIED to the program's text (the seventh form; the later family's looks); each row that meets fmt, with fmt's text TOLD by the authors' own Lean function (tested against real Go, not proved from fmt's source: count such statements apart). THE CARD IS WHAT COUNTS. Prove the row's statement (the work); the ties are given (YtdlkdgajoafkaaaGreatDoorTie.lean); close each card by the builder's one call (the guide's Derived/Test/ToyasCard.lean, 'card_holds'). Laid BY PROGRAM, IN A SANDBOX (cutbox-door.mjs). By AI agents, Wed Nov 11 2026. No macro, syntax, notation, axiom, sorry.
-/
import Derived.Test.YtdlkdgajoafkaaaGreatDoorRows
import GoSem.ClaimSeven
namespace Go.Proofs.YtdlkdgajoafkaaaGreatDoor
namespace Rows

/-- THE TIED CARD OF 'hindsightlaw12.PrunePlays'. -/
def prunePlaysCard : Claim7 := { stood := { row := prunePlaysRow, standIns := [], harness := (true, "649ac9aa8fa29423e7ffd28c834e8dead024cabff6d586b5eafaf2478bb87429"), looks := true }, kinds := [], alts := [], laidByText := true, laidKinds := [.data, .data, .data, .handle], laidTests := true, laidLooks := .later }
def PrunePlaysCardSaid : Prop := Claim7.holds Tryz.pinned (.plain (OpenSpec.ofChange prunePlaysSpec)) prunePlaysCard

/-- THE SECOND FORM's CARD OF 'hindsightlaw12.PrunePlays'. -/
def prunePlaysUptoCard : Claim7 := { stood := { row := prunePlaysUptoRow, standIns := [], harness := (true, "649ac9aa8fa29423e7ffd28c834e8dead024cabff6d586b5eafaf2478bb87429"), looks := true }, kinds := [], alts := [], laidByText := true, laidKinds := [.data, .data, .data, .handle], laidTests := true, laidLooks := .later }
def PrunePlaysUptoCardSaid : Prop := Claim7.holds Tryz.pinned (.plain (OpenSpec.upto prunePlaysSpec)) prunePlaysUptoCard
end Rows
end Go.Proofs.YtdlkdgajoafkaaaGreatDoor
