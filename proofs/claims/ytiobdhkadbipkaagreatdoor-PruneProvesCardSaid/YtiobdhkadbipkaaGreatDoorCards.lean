/-
  DERIVED. GIVEN WITH THE SEED: THE CARDS: each row of YtiobdhkadbipkaaGreatDoorRows.lean that lists a variable, with what it lists TIED to the program's text (the seventh form; the later family's looks); each row that meets fmt, with fmt's text TOLD by the authors' own Lean function (tested against real Go, not proved from fmt's source: count such statements apart). THE CARD IS WHAT COUNTS. Prove the row's statement (the work); the ties are given (YtiobdhkadbipkaaGreatDoorTie.lean); close each card by the builder's one call (the guide's Derived/Test/ToyasCard.lean, 'card_holds'). Laid BY PROGRAM, IN A SANDBOX (cutbox-door.mjs). By AI agents, Wed Nov 11 2026. No macro, syntax, notation, axiom, sorry.
-/
import Derived.Test.YtiobdhkadbipkaaGreatDoorRows
import GoSem.ClaimSeven
namespace Go.Proofs.YtiobdhkadbipkaaGreatDoor
namespace Rows

/-- THE TIED CARD OF 'hindsightlaw12.PrunePlays'. -/
def prunePlaysCard : Claim7 := { stood := { row := prunePlaysRow, standIns := [], harness := (true, "16eeb027ab39d5ae41f9ed3f2943cbc8f080b762d6bfb47d0ebd4d172ef0f7c2"), looks := true }, kinds := [], alts := [], laidByText := true, laidKinds := [.data, .data, .data, .handle], laidTests := true, laidLooks := .later }
def PrunePlaysCardSaid : Prop := Claim7.holds Tryz.pinned (.plain (OpenSpec.ofChange prunePlaysSpec)) prunePlaysCard

/-- THE TIED CARD OF 'hindsightlaw12.PruneProves'. -/
def pruneProvesCard : Claim7 := { stood := { row := pruneProvesRow, standIns := [], harness := (true, "16eeb027ab39d5ae41f9ed3f2943cbc8f080b762d6bfb47d0ebd4d172ef0f7c2"), looks := true }, kinds := [], alts := [], laidByText := true, laidKinds := [.data, .data, .data, .handle], laidTests := true, laidLooks := .later }
def PruneProvesCardSaid : Prop := Claim7.holds Tryz.pinned (.plain (OpenSpec.ofChange pruneProvesSpec)) pruneProvesCard

/-- THE SECOND FORM's CARD OF 'hindsightlaw12.PrunePlays'. -/
def prunePlaysUptoCard : Claim7 := { stood := { row := prunePlaysUptoRow, standIns := [], harness := (true, "16eeb027ab39d5ae41f9ed3f2943cbc8f080b762d6bfb47d0ebd4d172ef0f7c2"), looks := true }, kinds := [], alts := [], laidByText := true, laidKinds := [.data, .data, .data, .handle], laidTests := true, laidLooks := .later }
def PrunePlaysUptoCardSaid : Prop := Claim7.holds Tryz.pinned (.plain (OpenSpec.upto prunePlaysSpec)) prunePlaysUptoCard

/-- THE SECOND FORM's CARD OF 'hindsightlaw12.PruneProves'. -/
def pruneProvesUptoCard : Claim7 := { stood := { row := pruneProvesUptoRow, standIns := [], harness := (true, "16eeb027ab39d5ae41f9ed3f2943cbc8f080b762d6bfb47d0ebd4d172ef0f7c2"), looks := true }, kinds := [], alts := [], laidByText := true, laidKinds := [.data, .data, .data, .handle], laidTests := true, laidLooks := .later }
def PruneProvesUptoCardSaid : Prop := Claim7.holds Tryz.pinned (.plain (OpenSpec.upto pruneProvesSpec)) pruneProvesUptoCard
end Rows
end Go.Proofs.YtiobdhkadbipkaaGreatDoor
