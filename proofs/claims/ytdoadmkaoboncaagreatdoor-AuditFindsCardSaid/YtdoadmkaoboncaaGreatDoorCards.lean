/-
  DERIVED. GIVEN WITH THE SEED: THE CARDS: each row of YtdoadmkaoboncaaGreatDoorRows.lean that lists a variable, with what it lists TIED to the program's text (the seventh form; the later family's looks); each row that meets fmt, with fmt's text TOLD by the authors' own Lean function (tested against real Go, not proved from fmt's source: count such statements apart). THE CARD IS WHAT COUNTS. Prove the row's statement (the work); the ties are given (YtdoadmkaoboncaaGreatDoorTie.lean); close each card by the builder's one call (the guide's Derived/Test/ToyasCard.lean, 'card_holds'). Laid BY PROGRAM, IN A SANDBOX (cutbox-door.mjs). By AI agents, Wed Nov 11 2026. No macro, syntax, notation, axiom, sorry.
-/
import Derived.Test.YtdoadmkaoboncaaGreatDoorRows
import GoSem.ClaimSeven
namespace Go.Proofs.YtdoadmkaoboncaaGreatDoor
namespace Rows

/-- THE TIED CARD OF 'hindsightlaw25.AuditAny'. -/
def auditAnyCard : Claim7 := { stood := { row := auditAnyRow, standIns := [], harness := (true, "364d3926f62f0e638ba7ea58d013e4291b60cb724471679d2c17f44bc5f06b89"), looks := true }, kinds := [], alts := [], laidByText := true, laidKinds := [.data, .data, .data], laidTests := true, laidLooks := .later }
def AuditAnyCardSaid : Prop := Claim7.holds Tryz.pinned (.plain (OpenSpec.ofChange auditAnySpec)) auditAnyCard

/-- THE TIED CARD OF 'hindsightlaw25.AuditFinds'. -/
def auditFindsCard : Claim7 := { stood := { row := auditFindsRow, standIns := [], harness := (true, "364d3926f62f0e638ba7ea58d013e4291b60cb724471679d2c17f44bc5f06b89"), looks := true }, kinds := [], alts := [], laidByText := true, laidKinds := [.data, .data, .data, .handle], laidTests := true, laidLooks := .later }
def AuditFindsCardSaid : Prop := Claim7.holds Tryz.pinned (.plain (OpenSpec.ofChange auditFindsSpec)) auditFindsCard

/-- THE SECOND FORM's CARD OF 'hindsightlaw25.AuditAny'. -/
def auditAnyUptoCard : Claim7 := { stood := { row := auditAnyUptoRow, standIns := [], harness := (true, "364d3926f62f0e638ba7ea58d013e4291b60cb724471679d2c17f44bc5f06b89"), looks := true }, kinds := [], alts := [], laidByText := true, laidKinds := [.data, .data, .data], laidTests := true, laidLooks := .later }
def AuditAnyUptoCardSaid : Prop := Claim7.holds Tryz.pinned (.plain (OpenSpec.upto auditAnySpec)) auditAnyUptoCard

/-- THE SECOND FORM's CARD OF 'hindsightlaw25.AuditFinds'. -/
def auditFindsUptoCard : Claim7 := { stood := { row := auditFindsUptoRow, standIns := [], harness := (true, "364d3926f62f0e638ba7ea58d013e4291b60cb724471679d2c17f44bc5f06b89"), looks := true }, kinds := [], alts := [], laidByText := true, laidKinds := [.data, .data, .data, .handle], laidTests := true, laidLooks := .later }
def AuditFindsUptoCardSaid : Prop := Claim7.holds Tryz.pinned (.plain (OpenSpec.upto auditFindsSpec)) auditFindsUptoCard
end Rows
end Go.Proofs.YtdoadmkaoboncaaGreatDoor
