/-
  DERIVED. GIVEN WITH THE SEED: THE CARDS: each row of YthbncejbcegmgaaDoorRows.lean that lists a variable, with what it lists TIED to the program's text (the seventh form; the later family's looks); each row that meets fmt, with fmt's text TOLD by the authors' own Lean function (tested against real Go, not proved from fmt's source: count such statements apart). THE CARD IS WHAT COUNTS. Prove the row's statement (the work); the ties are given (YthbncejbcegmgaaDoorTie.lean); close each card by the builder's one call (the guide's Derived/Test/ToyasCard.lean, 'card_holds'). Laid BY PROGRAM, IN A SANDBOX (cutbox-door.mjs). By AI agents, Wed Nov 11 2026. No macro, syntax, notation, axiom, sorry.
-/
import Derived.Test.YthbncejbcegmgaaDoorRows
import GoSem.ClaimSeven
namespace Go.Proofs.YthbncejbcegmgaaDoor
namespace Rows

/-- THE TIED CARD OF 'hindsightlaw11.ClashSure'. -/
def clashSureCard : Claim7 := { stood := { row := clashSureRow, standIns := [], harness := (true, "742b06a863492e7497bd0c2773c59e4a8cf759fa0bcb26f542024788e6118187"), looks := true }, kinds := [], alts := [], laidByText := true, laidKinds := [.data, .data, .data], laidTests := true, laidLooks := .later }
def ClashSureCardSaid : Prop := Claim7.holds Tryd.pinned (.plain (OpenSpec.ofChange clashSureSpec)) clashSureCard

/-- THE TIED CARD OF 'hindsightlaw11.ClashWhole'. -/
def clashWholeCard : Claim7 := { stood := { row := clashWholeRow, standIns := [], harness := (true, "742b06a863492e7497bd0c2773c59e4a8cf759fa0bcb26f542024788e6118187"), looks := true }, kinds := [], alts := [], laidByText := true, laidKinds := [.data, .data, .data], laidTests := true, laidLooks := .later }
def ClashWholeCardSaid : Prop := Claim7.holds Tryd.pinned (.plain (OpenSpec.ofChange clashWholeSpec)) clashWholeCard

/-- THE TIED CARD OF 'hindsightlaw25.AuditKinds'. -/
def auditKindsCard : Claim7 := { stood := { row := auditKindsRow, standIns := [], harness := (true, "742b06a863492e7497bd0c2773c59e4a8cf759fa0bcb26f542024788e6118187"), looks := true }, kinds := [], alts := [], laidByText := true, laidKinds := [.data, .data, .data], laidTests := true, laidLooks := .later }
def AuditKindsCardSaid : Prop := Claim7.holds Tryd.pinned (.plain (OpenSpec.ofChange auditKindsSpec)) auditKindsCard

/-- THE SECOND FORM's CARD OF 'hindsightlaw11.ClashSure'. -/
def clashSureUptoCard : Claim7 := { stood := { row := clashSureUptoRow, standIns := [], harness := (true, "742b06a863492e7497bd0c2773c59e4a8cf759fa0bcb26f542024788e6118187"), looks := true }, kinds := [], alts := [], laidByText := true, laidKinds := [.data, .data, .data], laidTests := true, laidLooks := .later }
def ClashSureUptoCardSaid : Prop := Claim7.holds Tryd.pinned (.plain (OpenSpec.upto clashSureSpec)) clashSureUptoCard

/-- THE SECOND FORM's CARD OF 'hindsightlaw11.ClashWhole'. -/
def clashWholeUptoCard : Claim7 := { stood := { row := clashWholeUptoRow, standIns := [], harness := (true, "742b06a863492e7497bd0c2773c59e4a8cf759fa0bcb26f542024788e6118187"), looks := true }, kinds := [], alts := [], laidByText := true, laidKinds := [.data, .data, .data], laidTests := true, laidLooks := .later }
def ClashWholeUptoCardSaid : Prop := Claim7.holds Tryd.pinned (.plain (OpenSpec.upto clashWholeSpec)) clashWholeUptoCard

/-- THE SECOND FORM's CARD OF 'hindsightlaw25.AuditKinds'. -/
def auditKindsUptoCard : Claim7 := { stood := { row := auditKindsUptoRow, standIns := [], harness := (true, "742b06a863492e7497bd0c2773c59e4a8cf759fa0bcb26f542024788e6118187"), looks := true }, kinds := [], alts := [], laidByText := true, laidKinds := [.data, .data, .data], laidTests := true, laidLooks := .later }
def AuditKindsUptoCardSaid : Prop := Claim7.holds Tryd.pinned (.plain (OpenSpec.upto auditKindsSpec)) auditKindsUptoCard
end Rows
end Go.Proofs.YthbncejbcegmgaaDoor
