/-
  DERIVED. GIVEN WITH THE SEED: THE CARDS: each row of YtnbhjffmaememaaDoorRows.lean that lists a variable, with what it lists TIED to the program's text (the seventh form; the later family's looks); each row that meets fmt, with fmt's text TOLD by the authors' own Lean function (tested against real Go, not proved from fmt's source: count such statements apart). THE CARD IS WHAT COUNTS. Prove the row's statement (the work); the ties are given (YtnbhjffmaememaaDoorTie.lean); close each card by the builder's one call (the guide's Derived/Test/ToyasCard.lean, 'card_holds'). Laid BY PROGRAM, IN A SANDBOX (cutbox-door.mjs). By AI agents, Wed Nov 11 2026. No macro, syntax, notation, axiom, sorry.
-/
import Derived.Test.YtnbhjffmaememaaDoorRows
import GoSem.ClaimSeven
namespace Go.Proofs.YtnbhjffmaememaaDoor
namespace Rows

/-- THE TIED CARD OF 'hindsightlaw01.DigestParts'. -/
def digestPartsCard : Claim7 := { stood := { row := digestPartsRow, standIns := [], harness := (true, "0f122bdd2ad2cfb0196fdc53f85cf6aaa7bcc88f32ff4e3aab467a2e8e3172b4"), looks := true }, kinds := [], alts := [], laidByText := true, laidKinds := [.data], laidTests := true, laidLooks := .later }
def DigestPartsCardSaid : Prop := Claim7.holds Tryd.pinned (.plain (OpenSpec.ofChange digestPartsSpec)) digestPartsCard

/-- THE TIED CARD OF 'hindsightlaw09.TreeGrows'. -/
def treeGrowsCard : Claim7 := { stood := { row := treeGrowsRow, standIns := [], harness := (true, "0f122bdd2ad2cfb0196fdc53f85cf6aaa7bcc88f32ff4e3aab467a2e8e3172b4"), looks := true }, kinds := [], alts := [], laidByText := true, laidKinds := [.data, .data, .data], laidTests := true, laidLooks := .later }
def TreeGrowsCardSaid : Prop := Claim7.holds Tryd.pinned (.plain (OpenSpec.ofChange treeGrowsSpec)) treeGrowsCard

/-- THE TIED CARD OF 'hindsightlaw09.TreeForgets'. -/
def treeForgetsCard : Claim7 := { stood := { row := treeForgetsRow, standIns := [], harness := (true, "0f122bdd2ad2cfb0196fdc53f85cf6aaa7bcc88f32ff4e3aab467a2e8e3172b4"), looks := true }, kinds := [], alts := [], laidByText := true, laidKinds := [.data, .data, .data], laidTests := true, laidLooks := .later }
def TreeForgetsCardSaid : Prop := Claim7.holds Tryd.pinned (.plain (OpenSpec.ofChange treeForgetsSpec)) treeForgetsCard

/-- THE TIED CARD OF 'hindsightlaw09.TreeParts'. -/
def treePartsCard : Claim7 := { stood := { row := treePartsRow, standIns := [], harness := (true, "0f122bdd2ad2cfb0196fdc53f85cf6aaa7bcc88f32ff4e3aab467a2e8e3172b4"), looks := true }, kinds := [], alts := [], laidByText := true, laidKinds := [.data, .data, .data], laidTests := true, laidLooks := .later }
def TreePartsCardSaid : Prop := Claim7.holds Tryd.pinned (.plain (OpenSpec.ofChange treePartsSpec)) treePartsCard

/-- THE TIED CARD OF 'hindsightlaw09.TreeDepth'. -/
def treeDepthCard : Claim7 := { stood := { row := treeDepthRow, standIns := [], harness := (true, "0f122bdd2ad2cfb0196fdc53f85cf6aaa7bcc88f32ff4e3aab467a2e8e3172b4"), looks := true }, kinds := [], alts := [], laidByText := true, laidKinds := [.data, .data, .data], laidTests := true, laidLooks := .later }
def TreeDepthCardSaid : Prop := Claim7.holds Tryd.pinned (.plain (OpenSpec.ofChange treeDepthSpec)) treeDepthCard

/-- THE TIED CARD OF 'hindsightlaw10.ProofAny'. -/
def proofAnyCard : Claim7 := { stood := { row := proofAnyRow, standIns := [], harness := (true, "0f122bdd2ad2cfb0196fdc53f85cf6aaa7bcc88f32ff4e3aab467a2e8e3172b4"), looks := true }, kinds := [], alts := [], laidByText := true, laidKinds := [.data, .handle], laidTests := true, laidLooks := .later }
def ProofAnyCardSaid : Prop := Claim7.holds Tryd.pinned (.plain (OpenSpec.ofChange proofAnySpec)) proofAnyCard

/-- THE TIED CARD OF 'hindsightlaw10.ProofRight'. -/
def proofRightCard : Claim7 := { stood := { row := proofRightRow, standIns := [], harness := (true, "0f122bdd2ad2cfb0196fdc53f85cf6aaa7bcc88f32ff4e3aab467a2e8e3172b4"), looks := true }, kinds := [], alts := [], laidByText := true, laidKinds := [.data, .handle], laidTests := true, laidLooks := .later }
def ProofRightCardSaid : Prop := Claim7.holds Tryd.pinned (.plain (OpenSpec.ofChange proofRightSpec)) proofRightCard

/-- THE TIED CARD OF 'hindsightlaw10.ProofProves'. -/
def proofProvesCard : Claim7 := { stood := { row := proofProvesRow, standIns := [], harness := (true, "0f122bdd2ad2cfb0196fdc53f85cf6aaa7bcc88f32ff4e3aab467a2e8e3172b4"), looks := true }, kinds := [], alts := [], laidByText := true, laidKinds := [.data, .handle], laidTests := true, laidLooks := .later }
def ProofProvesCardSaid : Prop := Claim7.holds Tryd.pinned (.plain (OpenSpec.ofChange proofProvesSpec)) proofProvesCard

/-- THE TIED CARD OF 'hindsightlaw11.ClashSure'. -/
def clashSureCard : Claim7 := { stood := { row := clashSureRow, standIns := [], harness := (true, "0f122bdd2ad2cfb0196fdc53f85cf6aaa7bcc88f32ff4e3aab467a2e8e3172b4"), looks := true }, kinds := [], alts := [], laidByText := true, laidKinds := [.data, .data, .data], laidTests := true, laidLooks := .later }
def ClashSureCardSaid : Prop := Claim7.holds Tryd.pinned (.plain (OpenSpec.ofChange clashSureSpec)) clashSureCard

/-- THE TIED CARD OF 'hindsightlaw11.ClashPairs'. -/
def clashPairsCard : Claim7 := { stood := { row := clashPairsRow, standIns := [], harness := (true, "0f122bdd2ad2cfb0196fdc53f85cf6aaa7bcc88f32ff4e3aab467a2e8e3172b4"), looks := true }, kinds := [], alts := [], laidByText := true, laidKinds := [.data], laidTests := true, laidLooks := .later }
def ClashPairsCardSaid : Prop := Claim7.holds Tryd.pinned (.plain (OpenSpec.ofChange clashPairsSpec)) clashPairsCard

/-- THE TIED CARD OF 'hindsightlaw11.ClashWhole'. -/
def clashWholeCard : Claim7 := { stood := { row := clashWholeRow, standIns := [], harness := (true, "0f122bdd2ad2cfb0196fdc53f85cf6aaa7bcc88f32ff4e3aab467a2e8e3172b4"), looks := true }, kinds := [], alts := [], laidByText := true, laidKinds := [.data, .data, .data], laidTests := true, laidLooks := .later }
def ClashWholeCardSaid : Prop := Claim7.holds Tryd.pinned (.plain (OpenSpec.ofChange clashWholeSpec)) clashWholeCard

/-- THE TIED CARD OF 'hindsightlaw12.PruneApart'. -/
def pruneApartCard : Claim7 := { stood := { row := pruneApartRow, standIns := [], harness := (true, "0f122bdd2ad2cfb0196fdc53f85cf6aaa7bcc88f32ff4e3aab467a2e8e3172b4"), looks := true }, kinds := [], alts := [], laidByText := true, laidKinds := [.data, .data, .data, .handle], laidTests := true, laidLooks := .later }
def PruneApartCardSaid : Prop := Claim7.holds Tryd.pinned (.plain (OpenSpec.ofChange pruneApartSpec)) pruneApartCard

/-- THE TIED CARD OF 'hindsightlaw12.PruneSteps'. -/
def pruneStepsCard : Claim7 := { stood := { row := pruneStepsRow, standIns := [], harness := (true, "0f122bdd2ad2cfb0196fdc53f85cf6aaa7bcc88f32ff4e3aab467a2e8e3172b4"), looks := true }, kinds := [], alts := [], laidByText := true, laidKinds := [.data, .data, .data, .handle], laidTests := true, laidLooks := .later }
def PruneStepsCardSaid : Prop := Claim7.holds Tryd.pinned (.plain (OpenSpec.ofChange pruneStepsSpec)) pruneStepsCard

/-- THE TIED CARD OF 'hindsightlaw12.PruneLeaf'. -/
def pruneLeafCard : Claim7 := { stood := { row := pruneLeafRow, standIns := [], harness := (true, "0f122bdd2ad2cfb0196fdc53f85cf6aaa7bcc88f32ff4e3aab467a2e8e3172b4"), looks := true }, kinds := [], alts := [], laidByText := true, laidKinds := [.data, .data, .data, .handle], laidTests := true, laidLooks := .later }
def PruneLeafCardSaid : Prop := Claim7.holds Tryd.pinned (.plain (OpenSpec.ofChange pruneLeafSpec)) pruneLeafCard

/-- THE SECOND FORM's CARD OF 'hindsightlaw01.DigestParts'. -/
def digestPartsUptoCard : Claim7 := { stood := { row := digestPartsUptoRow, standIns := [], harness := (true, "0f122bdd2ad2cfb0196fdc53f85cf6aaa7bcc88f32ff4e3aab467a2e8e3172b4"), looks := true }, kinds := [], alts := [], laidByText := true, laidKinds := [.data], laidTests := true, laidLooks := .later }
def DigestPartsUptoCardSaid : Prop := Claim7.holds Tryd.pinned (.plain (OpenSpec.upto digestPartsSpec)) digestPartsUptoCard

/-- THE SECOND FORM's CARD OF 'hindsightlaw09.TreeGrows'. -/
def treeGrowsUptoCard : Claim7 := { stood := { row := treeGrowsUptoRow, standIns := [], harness := (true, "0f122bdd2ad2cfb0196fdc53f85cf6aaa7bcc88f32ff4e3aab467a2e8e3172b4"), looks := true }, kinds := [], alts := [], laidByText := true, laidKinds := [.data, .data, .data], laidTests := true, laidLooks := .later }
def TreeGrowsUptoCardSaid : Prop := Claim7.holds Tryd.pinned (.plain (OpenSpec.upto treeGrowsSpec)) treeGrowsUptoCard

/-- THE SECOND FORM's CARD OF 'hindsightlaw09.TreeForgets'. -/
def treeForgetsUptoCard : Claim7 := { stood := { row := treeForgetsUptoRow, standIns := [], harness := (true, "0f122bdd2ad2cfb0196fdc53f85cf6aaa7bcc88f32ff4e3aab467a2e8e3172b4"), looks := true }, kinds := [], alts := [], laidByText := true, laidKinds := [.data, .data, .data], laidTests := true, laidLooks := .later }
def TreeForgetsUptoCardSaid : Prop := Claim7.holds Tryd.pinned (.plain (OpenSpec.upto treeForgetsSpec)) treeForgetsUptoCard

/-- THE SECOND FORM's CARD OF 'hindsightlaw09.TreeParts'. -/
def treePartsUptoCard : Claim7 := { stood := { row := treePartsUptoRow, standIns := [], harness := (true, "0f122bdd2ad2cfb0196fdc53f85cf6aaa7bcc88f32ff4e3aab467a2e8e3172b4"), looks := true }, kinds := [], alts := [], laidByText := true, laidKinds := [.data, .data, .data], laidTests := true, laidLooks := .later }
def TreePartsUptoCardSaid : Prop := Claim7.holds Tryd.pinned (.plain (OpenSpec.upto treePartsSpec)) treePartsUptoCard

/-- THE SECOND FORM's CARD OF 'hindsightlaw09.TreeDepth'. -/
def treeDepthUptoCard : Claim7 := { stood := { row := treeDepthUptoRow, standIns := [], harness := (true, "0f122bdd2ad2cfb0196fdc53f85cf6aaa7bcc88f32ff4e3aab467a2e8e3172b4"), looks := true }, kinds := [], alts := [], laidByText := true, laidKinds := [.data, .data, .data], laidTests := true, laidLooks := .later }
def TreeDepthUptoCardSaid : Prop := Claim7.holds Tryd.pinned (.plain (OpenSpec.upto treeDepthSpec)) treeDepthUptoCard

/-- THE SECOND FORM's CARD OF 'hindsightlaw10.ProofAny'. -/
def proofAnyUptoCard : Claim7 := { stood := { row := proofAnyUptoRow, standIns := [], harness := (true, "0f122bdd2ad2cfb0196fdc53f85cf6aaa7bcc88f32ff4e3aab467a2e8e3172b4"), looks := true }, kinds := [], alts := [], laidByText := true, laidKinds := [.data, .handle], laidTests := true, laidLooks := .later }
def ProofAnyUptoCardSaid : Prop := Claim7.holds Tryd.pinned (.plain (OpenSpec.upto proofAnySpec)) proofAnyUptoCard

/-- THE SECOND FORM's CARD OF 'hindsightlaw10.ProofRight'. -/
def proofRightUptoCard : Claim7 := { stood := { row := proofRightUptoRow, standIns := [], harness := (true, "0f122bdd2ad2cfb0196fdc53f85cf6aaa7bcc88f32ff4e3aab467a2e8e3172b4"), looks := true }, kinds := [], alts := [], laidByText := true, laidKinds := [.data, .handle], laidTests := true, laidLooks := .later }
def ProofRightUptoCardSaid : Prop := Claim7.holds Tryd.pinned (.plain (OpenSpec.upto proofRightSpec)) proofRightUptoCard

/-- THE SECOND FORM's CARD OF 'hindsightlaw10.ProofProves'. -/
def proofProvesUptoCard : Claim7 := { stood := { row := proofProvesUptoRow, standIns := [], harness := (true, "0f122bdd2ad2cfb0196fdc53f85cf6aaa7bcc88f32ff4e3aab467a2e8e3172b4"), looks := true }, kinds := [], alts := [], laidByText := true, laidKinds := [.data, .handle], laidTests := true, laidLooks := .later }
def ProofProvesUptoCardSaid : Prop := Claim7.holds Tryd.pinned (.plain (OpenSpec.upto proofProvesSpec)) proofProvesUptoCard

/-- THE SECOND FORM's CARD OF 'hindsightlaw11.ClashSure'. -/
def clashSureUptoCard : Claim7 := { stood := { row := clashSureUptoRow, standIns := [], harness := (true, "0f122bdd2ad2cfb0196fdc53f85cf6aaa7bcc88f32ff4e3aab467a2e8e3172b4"), looks := true }, kinds := [], alts := [], laidByText := true, laidKinds := [.data, .data, .data], laidTests := true, laidLooks := .later }
def ClashSureUptoCardSaid : Prop := Claim7.holds Tryd.pinned (.plain (OpenSpec.upto clashSureSpec)) clashSureUptoCard

/-- THE SECOND FORM's CARD OF 'hindsightlaw11.ClashPairs'. -/
def clashPairsUptoCard : Claim7 := { stood := { row := clashPairsUptoRow, standIns := [], harness := (true, "0f122bdd2ad2cfb0196fdc53f85cf6aaa7bcc88f32ff4e3aab467a2e8e3172b4"), looks := true }, kinds := [], alts := [], laidByText := true, laidKinds := [.data], laidTests := true, laidLooks := .later }
def ClashPairsUptoCardSaid : Prop := Claim7.holds Tryd.pinned (.plain (OpenSpec.upto clashPairsSpec)) clashPairsUptoCard

/-- THE SECOND FORM's CARD OF 'hindsightlaw11.ClashWhole'. -/
def clashWholeUptoCard : Claim7 := { stood := { row := clashWholeUptoRow, standIns := [], harness := (true, "0f122bdd2ad2cfb0196fdc53f85cf6aaa7bcc88f32ff4e3aab467a2e8e3172b4"), looks := true }, kinds := [], alts := [], laidByText := true, laidKinds := [.data, .data, .data], laidTests := true, laidLooks := .later }
def ClashWholeUptoCardSaid : Prop := Claim7.holds Tryd.pinned (.plain (OpenSpec.upto clashWholeSpec)) clashWholeUptoCard

/-- THE SECOND FORM's CARD OF 'hindsightlaw12.PruneApart'. -/
def pruneApartUptoCard : Claim7 := { stood := { row := pruneApartUptoRow, standIns := [], harness := (true, "0f122bdd2ad2cfb0196fdc53f85cf6aaa7bcc88f32ff4e3aab467a2e8e3172b4"), looks := true }, kinds := [], alts := [], laidByText := true, laidKinds := [.data, .data, .data, .handle], laidTests := true, laidLooks := .later }
def PruneApartUptoCardSaid : Prop := Claim7.holds Tryd.pinned (.plain (OpenSpec.upto pruneApartSpec)) pruneApartUptoCard

/-- THE SECOND FORM's CARD OF 'hindsightlaw12.PruneSteps'. -/
def pruneStepsUptoCard : Claim7 := { stood := { row := pruneStepsUptoRow, standIns := [], harness := (true, "0f122bdd2ad2cfb0196fdc53f85cf6aaa7bcc88f32ff4e3aab467a2e8e3172b4"), looks := true }, kinds := [], alts := [], laidByText := true, laidKinds := [.data, .data, .data, .handle], laidTests := true, laidLooks := .later }
def PruneStepsUptoCardSaid : Prop := Claim7.holds Tryd.pinned (.plain (OpenSpec.upto pruneStepsSpec)) pruneStepsUptoCard

/-- THE SECOND FORM's CARD OF 'hindsightlaw12.PruneLeaf'. -/
def pruneLeafUptoCard : Claim7 := { stood := { row := pruneLeafUptoRow, standIns := [], harness := (true, "0f122bdd2ad2cfb0196fdc53f85cf6aaa7bcc88f32ff4e3aab467a2e8e3172b4"), looks := true }, kinds := [], alts := [], laidByText := true, laidKinds := [.data, .data, .data, .handle], laidTests := true, laidLooks := .later }
def PruneLeafUptoCardSaid : Prop := Claim7.holds Tryd.pinned (.plain (OpenSpec.upto pruneLeafSpec)) pruneLeafUptoCard
end Rows
end Go.Proofs.YtnbhjffmaememaaDoor
