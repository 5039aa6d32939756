/-
  NARROWER THAN 'FOR EVERY INPUT', by the rows' own cells (each row's printed sentence says how): TowerPlays: laid · TowerShape: laid · TowerShort: laid · TowerHeights: laid · TowerCuts: laid · TowerFloors: laid.
  DERIVED. THE GIVEN ROWS OF THIS SEAT. 6 by the template 'for every input the law returns true; each argument reads behind the call as it read before'; 0 by the template 'total and deterministic' (their statements: YtbimdcjbpbpljaaDoorTotals.lean).
  GIVEN WITH THE SEED: the statements are not yours to turn. If you find one false, say at which input.
  Laid BY PROGRAM, IN A SANDBOX (cutbox-rows.mjs): the forced cells as the released guide's own fill.sh prints them over the translation f1d9720a55e8e651… (all of the seat's roots in one cut). By AI agents, Wed Nov 11 2026. No macro, syntax, notation, axiom, sorry.
-/
import Derived.Test.YtbimdcjbpbpljaaDoorChecked
import GoSem.Claim
import GoSem.ClaimJoined
import GoSem.ClaimMapViews
import Derived.JoinedTies
import Derived.KernelRfl
namespace Go.Proofs.YtbimdcjbpbpljaaDoor
/- THE CELL 'sum', in the pinned program and in every row, IS THE sha256 OF THE DUMP (.gsa) THAT YtbimdcjbpbpljaaDoorProg.lean LOADS. Nothing in Lean hashes anything: it is a label: what it is worth is what the hold of that sum in a sandbox is worth. -/
noncomputable def Tryd.pinned : Pinned := { name := "ytbimdcjbpbpljaadoor", sum := "f1d9720a55e8e651d9b0ffe326e013d01793e4ed9eb23dc5b5e7180582227bf1", checked := Tryd.checked }
namespace Rows
def none {H : Type} : Left H := { results := [], args := [] }

/- WHAT THE LISTED PACKAGE-LEVEL VARIABLES READ AS WHEN THE CALL BEGINS. Each datum BY PROGRAM (the guide's laid-datum.mjs) off the statement by which the dump's own 'gosem.cut.vars' lays the variable. In a bare row this is a premise. The card (YtbimdcjbpbpljaaDoorCards.lean) ties it to the program's text. -/
def laid_math_bits_deBruijn32tab {H : Type} : DataW H := .agg [.lit (.int .u8 0), .lit (.int .u8 1), .lit (.int .u8 28), .lit (.int .u8 2), .lit (.int .u8 29), .lit (.int .u8 14), .lit (.int .u8 24), .lit (.int .u8 3), .lit (.int .u8 30), .lit (.int .u8 22), .lit (.int .u8 20), .lit (.int .u8 15), .lit (.int .u8 25), .lit (.int .u8 17), .lit (.int .u8 4), .lit (.int .u8 8), .lit (.int .u8 31), .lit (.int .u8 27), .lit (.int .u8 13), .lit (.int .u8 23), .lit (.int .u8 21), .lit (.int .u8 19), .lit (.int .u8 16), .lit (.int .u8 7), .lit (.int .u8 26), .lit (.int .u8 12), .lit (.int .u8 18), .lit (.int .u8 6), .lit (.int .u8 11), .lit (.int .u8 5), .lit (.int .u8 10), .lit (.int .u8 9)]
def laid_math_bits_deBruijn64tab {H : Type} : DataW H := .agg [.lit (.int .u8 0), .lit (.int .u8 1), .lit (.int .u8 56), .lit (.int .u8 2), .lit (.int .u8 57), .lit (.int .u8 49), .lit (.int .u8 28), .lit (.int .u8 3), .lit (.int .u8 61), .lit (.int .u8 58), .lit (.int .u8 42), .lit (.int .u8 50), .lit (.int .u8 38), .lit (.int .u8 29), .lit (.int .u8 17), .lit (.int .u8 4), .lit (.int .u8 62), .lit (.int .u8 47), .lit (.int .u8 59), .lit (.int .u8 36), .lit (.int .u8 45), .lit (.int .u8 43), .lit (.int .u8 51), .lit (.int .u8 22), .lit (.int .u8 53), .lit (.int .u8 39), .lit (.int .u8 33), .lit (.int .u8 30), .lit (.int .u8 24), .lit (.int .u8 18), .lit (.int .u8 12), .lit (.int .u8 5), .lit (.int .u8 63), .lit (.int .u8 55), .lit (.int .u8 48), .lit (.int .u8 27), .lit (.int .u8 60), .lit (.int .u8 41), .lit (.int .u8 37), .lit (.int .u8 16), .lit (.int .u8 46), .lit (.int .u8 35), .lit (.int .u8 44), .lit (.int .u8 21), .lit (.int .u8 52), .lit (.int .u8 32), .lit (.int .u8 23), .lit (.int .u8 11), .lit (.int .u8 54), .lit (.int .u8 26), .lit (.int .u8 40), .lit (.int .u8 15), .lit (.int .u8 34), .lit (.int .u8 20), .lit (.int .u8 31), .lit (.int .u8 10), .lit (.int .u8 25), .lit (.int .u8 14), .lit (.int .u8 19), .lit (.int .u8 9), .lit (.int .u8 13), .lit (.int .u8 8), .lit (.int .u8 7), .lit (.int .u8 6)]

/-- 'hindsightlaw13.TowerPlays': WHATEVER THE INPUT: true; the input reads as it did. -/
def towerPlaysSpec : ChangeSpec := { name := "towerPlays", fn := fun _ => fun
  | [d1, d2] => { results := [.lit (.bool true)], args := [d1, d2] }
  | _ => none }
def towerPlaysRow : OpenClaim := { program := "ytbimdcjbpbpljaadoor", sum := "f1d9720a55e8e651d9b0ffe326e013d01793e4ed9eb23dc5b5e7180582227bf1", func := "hindsight/hindsightlaw13.TowerPlays", spec := "towerPlays", unfollowed := true, recurses := true, named := ["math/bits.deBruijn32tab", "math/bits.deBruijn64tab"], apart := false, laid := [("math/bits.deBruijn32tab", laid_math_bits_deBruijn32tab), ("math/bits.deBruijn64tab", laid_math_bits_deBruijn64tab)] }
def TowerPlaysSaid : Prop := towerPlaysRow.holds Tryd.pinned (OpenSpec.ofChange towerPlaysSpec)

/-- ITS FALSE NEIGHBOUR: 'it returns false'. Refute it at one input. -/
def towerPlaysWrong : ChangeSpec := { name := "towerPlays", fn := fun _ => fun
  | [d1, d2] => { results := [.lit (.bool false)], args := [d1, d2] }
  | _ => none }
def TowerPlaysWrongFalsely : Prop := towerPlaysRow.holds Tryd.pinned (OpenSpec.ofChange towerPlaysWrong)

/-- 'hindsightlaw13.TowerShape': WHATEVER THE INPUT: true; the input reads as it did. -/
def towerShapeSpec : ChangeSpec := { name := "towerShape", fn := fun _ => fun
  | [d1, d2] => { results := [.lit (.bool true)], args := [d1, d2] }
  | _ => none }
def towerShapeRow : OpenClaim := { program := "ytbimdcjbpbpljaadoor", sum := "f1d9720a55e8e651d9b0ffe326e013d01793e4ed9eb23dc5b5e7180582227bf1", func := "hindsight/hindsightlaw13.TowerShape", spec := "towerShape", unfollowed := true, recurses := true, named := ["math/bits.deBruijn32tab", "math/bits.deBruijn64tab"], apart := false, laid := [("math/bits.deBruijn32tab", laid_math_bits_deBruijn32tab), ("math/bits.deBruijn64tab", laid_math_bits_deBruijn64tab)] }
def TowerShapeSaid : Prop := towerShapeRow.holds Tryd.pinned (OpenSpec.ofChange towerShapeSpec)

/-- ITS FALSE NEIGHBOUR: 'it returns false'. Refute it at one input. -/
def towerShapeWrong : ChangeSpec := { name := "towerShape", fn := fun _ => fun
  | [d1, d2] => { results := [.lit (.bool false)], args := [d1, d2] }
  | _ => none }
def TowerShapeWrongFalsely : Prop := towerShapeRow.holds Tryd.pinned (OpenSpec.ofChange towerShapeWrong)

/-- 'hindsightlaw13.TowerShort': WHATEVER THE INPUT: true; the input reads as it did. -/
def towerShortSpec : ChangeSpec := { name := "towerShort", fn := fun _ => fun
  | [d1, d2] => { results := [.lit (.bool true)], args := [d1, d2] }
  | _ => none }
def towerShortRow : OpenClaim := { program := "ytbimdcjbpbpljaadoor", sum := "f1d9720a55e8e651d9b0ffe326e013d01793e4ed9eb23dc5b5e7180582227bf1", func := "hindsight/hindsightlaw13.TowerShort", spec := "towerShort", unfollowed := true, recurses := true, named := ["math/bits.deBruijn32tab", "math/bits.deBruijn64tab"], apart := false, laid := [("math/bits.deBruijn32tab", laid_math_bits_deBruijn32tab), ("math/bits.deBruijn64tab", laid_math_bits_deBruijn64tab)] }
def TowerShortSaid : Prop := towerShortRow.holds Tryd.pinned (OpenSpec.ofChange towerShortSpec)

/-- ITS FALSE NEIGHBOUR: 'it returns false'. Refute it at one input. -/
def towerShortWrong : ChangeSpec := { name := "towerShort", fn := fun _ => fun
  | [d1, d2] => { results := [.lit (.bool false)], args := [d1, d2] }
  | _ => none }
def TowerShortWrongFalsely : Prop := towerShortRow.holds Tryd.pinned (OpenSpec.ofChange towerShortWrong)

/-- 'hindsightlaw13.TowerHeights': WHATEVER THE INPUT: true; the input reads as it did. -/
def towerHeightsSpec : ChangeSpec := { name := "towerHeights", fn := fun _ => fun
  | [d] => { results := [.lit (.bool true)], args := [d] }
  | _ => none }
def towerHeightsRow : OpenClaim := { program := "ytbimdcjbpbpljaadoor", sum := "f1d9720a55e8e651d9b0ffe326e013d01793e4ed9eb23dc5b5e7180582227bf1", func := "hindsight/hindsightlaw13.TowerHeights", spec := "towerHeights", unfollowed := true, recurses := true, named := ["math/bits.deBruijn32tab", "math/bits.deBruijn64tab"], apart := false, laid := [("math/bits.deBruijn32tab", laid_math_bits_deBruijn32tab), ("math/bits.deBruijn64tab", laid_math_bits_deBruijn64tab)] }
def TowerHeightsSaid : Prop := towerHeightsRow.holds Tryd.pinned (OpenSpec.ofChange towerHeightsSpec)

/-- ITS FALSE NEIGHBOUR: 'it returns false'. Refute it at one input. -/
def towerHeightsWrong : ChangeSpec := { name := "towerHeights", fn := fun _ => fun
  | [d] => { results := [.lit (.bool false)], args := [d] }
  | _ => none }
def TowerHeightsWrongFalsely : Prop := towerHeightsRow.holds Tryd.pinned (OpenSpec.ofChange towerHeightsWrong)

/-- 'hindsightlaw13.TowerCuts': WHATEVER THE INPUT: true; the input reads as it did. -/
def towerCutsSpec : ChangeSpec := { name := "towerCuts", fn := fun _ => fun
  | [d1, d2, d3] => { results := [.lit (.bool true)], args := [d1, d2, d3] }
  | _ => none }
def towerCutsRow : OpenClaim := { program := "ytbimdcjbpbpljaadoor", sum := "f1d9720a55e8e651d9b0ffe326e013d01793e4ed9eb23dc5b5e7180582227bf1", func := "hindsight/hindsightlaw13.TowerCuts", spec := "towerCuts", unfollowed := true, recurses := true, named := ["math/bits.deBruijn32tab", "math/bits.deBruijn64tab"], apart := false, laid := [("math/bits.deBruijn32tab", laid_math_bits_deBruijn32tab), ("math/bits.deBruijn64tab", laid_math_bits_deBruijn64tab)] }
def TowerCutsSaid : Prop := towerCutsRow.holds Tryd.pinned (OpenSpec.ofChange towerCutsSpec)

/-- ITS FALSE NEIGHBOUR: 'it returns false'. Refute it at one input. -/
def towerCutsWrong : ChangeSpec := { name := "towerCuts", fn := fun _ => fun
  | [d1, d2, d3] => { results := [.lit (.bool false)], args := [d1, d2, d3] }
  | _ => none }
def TowerCutsWrongFalsely : Prop := towerCutsRow.holds Tryd.pinned (OpenSpec.ofChange towerCutsWrong)

/-- 'hindsightlaw13.TowerFloors': WHATEVER THE INPUT: true; the input reads as it did. -/
def towerFloorsSpec : ChangeSpec := { name := "towerFloors", fn := fun _ => fun
  | [d1, d2] => { results := [.lit (.bool true)], args := [d1, d2] }
  | _ => none }
def towerFloorsRow : OpenClaim := { program := "ytbimdcjbpbpljaadoor", sum := "f1d9720a55e8e651d9b0ffe326e013d01793e4ed9eb23dc5b5e7180582227bf1", func := "hindsight/hindsightlaw13.TowerFloors", spec := "towerFloors", unfollowed := true, recurses := true, named := ["math/bits.deBruijn32tab", "math/bits.deBruijn64tab"], apart := false, laid := [("math/bits.deBruijn32tab", laid_math_bits_deBruijn32tab), ("math/bits.deBruijn64tab", laid_math_bits_deBruijn64tab)] }
def TowerFloorsSaid : Prop := towerFloorsRow.holds Tryd.pinned (OpenSpec.ofChange towerFloorsSpec)

/-- ITS FALSE NEIGHBOUR: 'it returns false'. Refute it at one input. -/
def towerFloorsWrong : ChangeSpec := { name := "towerFloors", fn := fun _ => fun
  | [d1, d2] => { results := [.lit (.bool false)], args := [d1, d2] }
  | _ => none }
def TowerFloorsWrongFalsely : Prop := towerFloorsRow.holds Tryd.pinned (OpenSpec.ofChange towerFloorsWrong)

/- THE SECOND FORM. 'bulk': how many values and letters a reading holds, each counted each time it is reached (what is shared counts as often as it is met; a slice's spare places count too). A statement '..UptoSaid' is the law's where the arguments, and the package variables that the reading takes, are together of bulk at most 1048576: NARROWER than '..Said'. Prove '..Said' where nothing that the law and all that it calls make is longer than what came in: it says more and counts as full. Else prove '..UptoSaid'. A law counts once. -/
mutual
def uptoBulk {H : Type} : DataW H → Nat
  | .lit (.string bytes) => bytes.length + 1
  | .lit _ => 1
  | .nil => 1
  | .ptr d => uptoBulk d + 1
  | .slice elems spare => uptoBulkAll elems + uptoBulkAll spare + 1
  | .agg parts => uptoBulkAll parts + 1
  | .iface _ d => uptoBulk d + 1
  | .map entries => uptoBulkEntries entries + 1
  | .held _ => 1
def uptoBulkAll {H : Type} : List (DataW H) → Nat
  | [] => 0
  | d :: r => uptoBulk d + uptoBulkAll r
def uptoBulkEntries {H : Type} : List (Lit × DataW H) → Nat
  | [] => 0
  | x :: r => uptoBulkEntry x + uptoBulkEntries r
def uptoBulkEntry {H : Type} : Lit × DataW H → Nat
  | (.string bytes, d) => bytes.length + uptoBulk d + 1
  | (_, d) => uptoBulk d + 1
 end
def uptoSmall : (H : Type) → List (DataW H) → Bool := fun _ ds => decide (uptoBulkAll ds ≤ 1048576)
def OpenSpec.upto (s : _root_.Go.ChangeSpec) : _root_.Go.OpenSpec := { _root_.Go.OpenSpec.ofChange s with cond := some uptoSmall }

/-- 'hindsightlaw13.TowerPlays', WHERE WHAT IT READS IS OF BULK AT MOST 1048576: true; the input reads as it did. -/
def towerPlaysUptoRow : OpenClaim := { program := "ytbimdcjbpbpljaadoor", sum := "f1d9720a55e8e651d9b0ffe326e013d01793e4ed9eb23dc5b5e7180582227bf1", func := "hindsight/hindsightlaw13.TowerPlays", spec := "towerPlays", unfollowed := true, recurses := true, named := ["math/bits.deBruijn32tab", "math/bits.deBruijn64tab"], apart := false, laid := [("math/bits.deBruijn32tab", laid_math_bits_deBruijn32tab), ("math/bits.deBruijn64tab", laid_math_bits_deBruijn64tab)], narrowed := true }
def TowerPlaysUptoSaid : Prop := towerPlaysUptoRow.holds Tryd.pinned (OpenSpec.upto towerPlaysSpec)

/-- 'hindsightlaw13.TowerShape', WHERE WHAT IT READS IS OF BULK AT MOST 1048576: true; the input reads as it did. -/
def towerShapeUptoRow : OpenClaim := { program := "ytbimdcjbpbpljaadoor", sum := "f1d9720a55e8e651d9b0ffe326e013d01793e4ed9eb23dc5b5e7180582227bf1", func := "hindsight/hindsightlaw13.TowerShape", spec := "towerShape", unfollowed := true, recurses := true, named := ["math/bits.deBruijn32tab", "math/bits.deBruijn64tab"], apart := false, laid := [("math/bits.deBruijn32tab", laid_math_bits_deBruijn32tab), ("math/bits.deBruijn64tab", laid_math_bits_deBruijn64tab)], narrowed := true }
def TowerShapeUptoSaid : Prop := towerShapeUptoRow.holds Tryd.pinned (OpenSpec.upto towerShapeSpec)

/-- 'hindsightlaw13.TowerShort', WHERE WHAT IT READS IS OF BULK AT MOST 1048576: true; the input reads as it did. -/
def towerShortUptoRow : OpenClaim := { program := "ytbimdcjbpbpljaadoor", sum := "f1d9720a55e8e651d9b0ffe326e013d01793e4ed9eb23dc5b5e7180582227bf1", func := "hindsight/hindsightlaw13.TowerShort", spec := "towerShort", unfollowed := true, recurses := true, named := ["math/bits.deBruijn32tab", "math/bits.deBruijn64tab"], apart := false, laid := [("math/bits.deBruijn32tab", laid_math_bits_deBruijn32tab), ("math/bits.deBruijn64tab", laid_math_bits_deBruijn64tab)], narrowed := true }
def TowerShortUptoSaid : Prop := towerShortUptoRow.holds Tryd.pinned (OpenSpec.upto towerShortSpec)

/-- 'hindsightlaw13.TowerHeights', WHERE WHAT IT READS IS OF BULK AT MOST 1048576: true; the input reads as it did. -/
def towerHeightsUptoRow : OpenClaim := { program := "ytbimdcjbpbpljaadoor", sum := "f1d9720a55e8e651d9b0ffe326e013d01793e4ed9eb23dc5b5e7180582227bf1", func := "hindsight/hindsightlaw13.TowerHeights", spec := "towerHeights", unfollowed := true, recurses := true, named := ["math/bits.deBruijn32tab", "math/bits.deBruijn64tab"], apart := false, laid := [("math/bits.deBruijn32tab", laid_math_bits_deBruijn32tab), ("math/bits.deBruijn64tab", laid_math_bits_deBruijn64tab)], narrowed := true }
def TowerHeightsUptoSaid : Prop := towerHeightsUptoRow.holds Tryd.pinned (OpenSpec.upto towerHeightsSpec)

/-- 'hindsightlaw13.TowerCuts', WHERE WHAT IT READS IS OF BULK AT MOST 1048576: true; the input reads as it did. -/
def towerCutsUptoRow : OpenClaim := { program := "ytbimdcjbpbpljaadoor", sum := "f1d9720a55e8e651d9b0ffe326e013d01793e4ed9eb23dc5b5e7180582227bf1", func := "hindsight/hindsightlaw13.TowerCuts", spec := "towerCuts", unfollowed := true, recurses := true, named := ["math/bits.deBruijn32tab", "math/bits.deBruijn64tab"], apart := false, laid := [("math/bits.deBruijn32tab", laid_math_bits_deBruijn32tab), ("math/bits.deBruijn64tab", laid_math_bits_deBruijn64tab)], narrowed := true }
def TowerCutsUptoSaid : Prop := towerCutsUptoRow.holds Tryd.pinned (OpenSpec.upto towerCutsSpec)

/-- 'hindsightlaw13.TowerFloors', WHERE WHAT IT READS IS OF BULK AT MOST 1048576: true; the input reads as it did. -/
def towerFloorsUptoRow : OpenClaim := { program := "ytbimdcjbpbpljaadoor", sum := "f1d9720a55e8e651d9b0ffe326e013d01793e4ed9eb23dc5b5e7180582227bf1", func := "hindsight/hindsightlaw13.TowerFloors", spec := "towerFloors", unfollowed := true, recurses := true, named := ["math/bits.deBruijn32tab", "math/bits.deBruijn64tab"], apart := false, laid := [("math/bits.deBruijn32tab", laid_math_bits_deBruijn32tab), ("math/bits.deBruijn64tab", laid_math_bits_deBruijn64tab)], narrowed := true }
def TowerFloorsUptoSaid : Prop := towerFloorsUptoRow.holds Tryd.pinned (OpenSpec.upto towerFloorsSpec)

end Rows
end Go.Proofs.YtbimdcjbpbpljaaDoor
