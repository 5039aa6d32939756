/-
  DERIVED. GIVEN WITH THE SEED: THE CARDS: each row of YtcdedkgkingbdaaGreatDoorRows.lean that lists a variable, with what it lists TIED to the program's text (the seventh form; the later family's looks); each row that meets fmt, with fmt's text TOLD by the authors' own Lean function (tested against real Go, not proved from fmt's source: count such statements apart). THE CARD IS WHAT COUNTS. Prove the row's statement (the work); the ties are given (YtcdedkgkingbdaaGreatDoorTie.lean); close each card by the builder's one call (the guide's Derived/Test/ToyasCard.lean, 'card_holds'). Laid BY PROGRAM, IN A SANDBOX (cutbox-door.mjs). By AI agents, Wed Nov 11 2026. No macro, syntax, notation, axiom, sorry.
-/
import Derived.Test.YtcdedkgkingbdaaGreatDoorRows
import GoSem.ClaimSeven
namespace Go.Proofs.YtcdedkgkingbdaaGreatDoor
namespace Rows

/-- THE TIED CARD OF 'hindsightlaw14.ReplayPlays'. -/
def replayPlaysCard : Claim7 := { stood := { row := replayPlaysRow, standIns := [], harness := (true, "9a6750587fc11d50f57cf92102fcb2fea2f543f0e89b7eb493c61247b2b9a5e5"), looks := true }, kinds := [], alts := [], laidByText := true, laidKinds := [.data, .data, .data, .handle], laidTests := true, laidLooks := .later }
def ReplayPlaysCardSaid : Prop := Claim7.holds Tryz.pinned (.plain (OpenSpec.ofChange replayPlaysSpec)) replayPlaysCard

/-- THE TIED CARD OF 'hindsightlaw14.ReplayMarks'. -/
def replayMarksCard : Claim7 := { stood := { row := replayMarksRow, standIns := [], harness := (true, "9a6750587fc11d50f57cf92102fcb2fea2f543f0e89b7eb493c61247b2b9a5e5"), looks := true }, kinds := [], alts := [], laidByText := true, laidKinds := [.data, .data, .data, .handle], laidTests := true, laidLooks := .later }
def ReplayMarksCardSaid : Prop := Claim7.holds Tryz.pinned (.plain (OpenSpec.ofChange replayMarksSpec)) replayMarksCard

/-- THE TIED CARD OF 'hindsightlaw14.ReplayApart'. -/
def replayApartCard : Claim7 := { stood := { row := replayApartRow, standIns := [], harness := (true, "9a6750587fc11d50f57cf92102fcb2fea2f543f0e89b7eb493c61247b2b9a5e5"), looks := true }, kinds := [], alts := [], laidByText := true, laidKinds := [.data, .data, .data, .handle], laidTests := true, laidLooks := .later }
def ReplayApartCardSaid : Prop := Claim7.holds Tryz.pinned (.plain (OpenSpec.ofChange replayApartSpec)) replayApartCard

/-- THE TIED CARD OF 'hindsighttop.HindsightAsOf'. -/
def hindsightAsOfCard : Claim7 := { stood := { row := hindsightAsOfRow, standIns := [], harness := (true, "9a6750587fc11d50f57cf92102fcb2fea2f543f0e89b7eb493c61247b2b9a5e5"), looks := true }, kinds := [], alts := [], laidByText := true, laidKinds := [.data, .data, .data], laidTests := true, laidLooks := .later }
def HindsightAsOfCardSaid : Prop := Claim7.holds Tryz.pinned (.plain (OpenSpec.ofChange hindsightAsOfSpec)) hindsightAsOfCard

/-- THE TIED CARD OF 'hindsighttop.HindsightHead'. -/
def hindsightHeadCard : Claim7 := { stood := { row := hindsightHeadRow, standIns := [], harness := (true, "9a6750587fc11d50f57cf92102fcb2fea2f543f0e89b7eb493c61247b2b9a5e5"), looks := true }, kinds := [], alts := [], laidByText := true, laidKinds := [.data, .data, .data], laidTests := true, laidLooks := .later }
def HindsightHeadCardSaid : Prop := Claim7.holds Tryz.pinned (.plain (OpenSpec.ofChange hindsightHeadSpec)) hindsightHeadCard

/-- THE SECOND FORM's CARD OF 'hindsightlaw14.ReplayPlays'. -/
def replayPlaysUptoCard : Claim7 := { stood := { row := replayPlaysUptoRow, standIns := [], harness := (true, "9a6750587fc11d50f57cf92102fcb2fea2f543f0e89b7eb493c61247b2b9a5e5"), looks := true }, kinds := [], alts := [], laidByText := true, laidKinds := [.data, .data, .data, .handle], laidTests := true, laidLooks := .later }
def ReplayPlaysUptoCardSaid : Prop := Claim7.holds Tryz.pinned (.plain (OpenSpec.upto replayPlaysSpec)) replayPlaysUptoCard

/-- THE SECOND FORM's CARD OF 'hindsightlaw14.ReplayMarks'. -/
def replayMarksUptoCard : Claim7 := { stood := { row := replayMarksUptoRow, standIns := [], harness := (true, "9a6750587fc11d50f57cf92102fcb2fea2f543f0e89b7eb493c61247b2b9a5e5"), looks := true }, kinds := [], alts := [], laidByText := true, laidKinds := [.data, .data, .data, .handle], laidTests := true, laidLooks := .later }
def ReplayMarksUptoCardSaid : Prop := Claim7.holds Tryz.pinned (.plain (OpenSpec.upto replayMarksSpec)) replayMarksUptoCard

/-- THE SECOND FORM's CARD OF 'hindsightlaw14.ReplayApart'. -/
def replayApartUptoCard : Claim7 := { stood := { row := replayApartUptoRow, standIns := [], harness := (true, "9a6750587fc11d50f57cf92102fcb2fea2f543f0e89b7eb493c61247b2b9a5e5"), looks := true }, kinds := [], alts := [], laidByText := true, laidKinds := [.data, .data, .data, .handle], laidTests := true, laidLooks := .later }
def ReplayApartUptoCardSaid : Prop := Claim7.holds Tryz.pinned (.plain (OpenSpec.upto replayApartSpec)) replayApartUptoCard

/-- THE SECOND FORM's CARD OF 'hindsighttop.HindsightAsOf'. -/
def hindsightAsOfUptoCard : Claim7 := { stood := { row := hindsightAsOfUptoRow, standIns := [], harness := (true, "9a6750587fc11d50f57cf92102fcb2fea2f543f0e89b7eb493c61247b2b9a5e5"), looks := true }, kinds := [], alts := [], laidByText := true, laidKinds := [.data, .data, .data], laidTests := true, laidLooks := .later }
def HindsightAsOfUptoCardSaid : Prop := Claim7.holds Tryz.pinned (.plain (OpenSpec.upto hindsightAsOfSpec)) hindsightAsOfUptoCard

/-- THE SECOND FORM's CARD OF 'hindsighttop.HindsightHead'. -/
def hindsightHeadUptoCard : Claim7 := { stood := { row := hindsightHeadUptoRow, standIns := [], harness := (true, "9a6750587fc11d50f57cf92102fcb2fea2f543f0e89b7eb493c61247b2b9a5e5"), looks := true }, kinds := [], alts := [], laidByText := true, laidKinds := [.data, .data, .data], laidTests := true, laidLooks := .later }
def HindsightHeadUptoCardSaid : Prop := Claim7.holds Tryz.pinned (.plain (OpenSpec.upto hindsightHeadSpec)) hindsightHeadUptoCard
end Rows
end Go.Proofs.YtcdedkgkingbdaaGreatDoor
