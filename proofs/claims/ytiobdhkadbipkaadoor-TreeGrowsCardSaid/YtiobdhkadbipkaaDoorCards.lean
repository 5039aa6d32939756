/-
  DERIVED. GIVEN WITH THE SEED: THE CARDS: each row of YtiobdhkadbipkaaDoorRows.lean that lists a variable, with what it lists TIED to the program's text (the seventh form; the later family's looks); each row that meets fmt, with fmt's text TOLD by the authors' own Lean function (tested against real Go, not proved from fmt's source: count such statements apart). THE CARD IS WHAT COUNTS. Prove the row's statement (the work); the ties are given (YtiobdhkadbipkaaDoorTie.lean); close each card by the builder's one call (the guide's Derived/Test/ToyasCard.lean, 'card_holds'). Laid BY PROGRAM, IN A SANDBOX (cutbox-door.mjs). By AI agents, Wed Nov 11 2026. No macro, syntax, notation, axiom, sorry.
-/
import Derived.Test.YtiobdhkadbipkaaDoorRows
import GoSem.ClaimSeven
namespace Go.Proofs.YtiobdhkadbipkaaDoor
namespace Rows

/-- THE TIED CARD OF 'hindsightlaw09.TreeGrows'. -/
def treeGrowsCard : Claim7 := { stood := { row := treeGrowsRow, standIns := [], harness := (true, "389ca216c0d1a1ee8e901eda9408de83e50e481d7c77d0d1115306276673a63f"), looks := true }, kinds := [], alts := [], laidByText := true, laidKinds := [.data, .data, .data], laidTests := true, laidLooks := .later }
def TreeGrowsCardSaid : Prop := Claim7.holds Tryd.pinned (.plain (OpenSpec.ofChange treeGrowsSpec)) treeGrowsCard

/-- THE TIED CARD OF 'hindsightlaw12.PruneApart'. -/
def pruneApartCard : Claim7 := { stood := { row := pruneApartRow, standIns := [], harness := (true, "389ca216c0d1a1ee8e901eda9408de83e50e481d7c77d0d1115306276673a63f"), looks := true }, kinds := [], alts := [], laidByText := true, laidKinds := [.data, .data, .data, .handle], laidTests := true, laidLooks := .later }
def PruneApartCardSaid : Prop := Claim7.holds Tryd.pinned (.plain (OpenSpec.ofChange pruneApartSpec)) pruneApartCard

/-- THE TIED CARD OF 'hindsightlaw12.PruneSteps'. -/
def pruneStepsCard : Claim7 := { stood := { row := pruneStepsRow, standIns := [], harness := (true, "389ca216c0d1a1ee8e901eda9408de83e50e481d7c77d0d1115306276673a63f"), looks := true }, kinds := [], alts := [], laidByText := true, laidKinds := [.data, .data, .data, .handle], laidTests := true, laidLooks := .later }
def PruneStepsCardSaid : Prop := Claim7.holds Tryd.pinned (.plain (OpenSpec.ofChange pruneStepsSpec)) pruneStepsCard

/-- THE TIED CARD OF 'hindsightlaw12.PruneLeaf'. -/
def pruneLeafCard : Claim7 := { stood := { row := pruneLeafRow, standIns := [], harness := (true, "389ca216c0d1a1ee8e901eda9408de83e50e481d7c77d0d1115306276673a63f"), looks := true }, kinds := [], alts := [], laidByText := true, laidKinds := [.data, .data, .data, .handle], laidTests := true, laidLooks := .later }
def PruneLeafCardSaid : Prop := Claim7.holds Tryd.pinned (.plain (OpenSpec.ofChange pruneLeafSpec)) pruneLeafCard

/-- THE SECOND FORM's CARD OF 'hindsightlaw09.TreeGrows'. -/
def treeGrowsUptoCard : Claim7 := { stood := { row := treeGrowsUptoRow, standIns := [], harness := (true, "389ca216c0d1a1ee8e901eda9408de83e50e481d7c77d0d1115306276673a63f"), looks := true }, kinds := [], alts := [], laidByText := true, laidKinds := [.data, .data, .data], laidTests := true, laidLooks := .later }
def TreeGrowsUptoCardSaid : Prop := Claim7.holds Tryd.pinned (.plain (OpenSpec.upto treeGrowsSpec)) treeGrowsUptoCard

/-- THE SECOND FORM's CARD OF 'hindsightlaw12.PruneApart'. -/
def pruneApartUptoCard : Claim7 := { stood := { row := pruneApartUptoRow, standIns := [], harness := (true, "389ca216c0d1a1ee8e901eda9408de83e50e481d7c77d0d1115306276673a63f"), looks := true }, kinds := [], alts := [], laidByText := true, laidKinds := [.data, .data, .data, .handle], laidTests := true, laidLooks := .later }
def PruneApartUptoCardSaid : Prop := Claim7.holds Tryd.pinned (.plain (OpenSpec.upto pruneApartSpec)) pruneApartUptoCard

/-- THE SECOND FORM's CARD OF 'hindsightlaw12.PruneSteps'. -/
def pruneStepsUptoCard : Claim7 := { stood := { row := pruneStepsUptoRow, standIns := [], harness := (true, "389ca216c0d1a1ee8e901eda9408de83e50e481d7c77d0d1115306276673a63f"), looks := true }, kinds := [], alts := [], laidByText := true, laidKinds := [.data, .data, .data, .handle], laidTests := true, laidLooks := .later }
def PruneStepsUptoCardSaid : Prop := Claim7.holds Tryd.pinned (.plain (OpenSpec.upto pruneStepsSpec)) pruneStepsUptoCard

/-- THE SECOND FORM's CARD OF 'hindsightlaw12.PruneLeaf'. -/
def pruneLeafUptoCard : Claim7 := { stood := { row := pruneLeafUptoRow, standIns := [], harness := (true, "389ca216c0d1a1ee8e901eda9408de83e50e481d7c77d0d1115306276673a63f"), looks := true }, kinds := [], alts := [], laidByText := true, laidKinds := [.data, .data, .data, .handle], laidTests := true, laidLooks := .later }
def PruneLeafUptoCardSaid : Prop := Claim7.holds Tryd.pinned (.plain (OpenSpec.upto pruneLeafSpec)) pruneLeafUptoCard
end Rows
end Go.Proofs.YtiobdhkadbipkaaDoor
