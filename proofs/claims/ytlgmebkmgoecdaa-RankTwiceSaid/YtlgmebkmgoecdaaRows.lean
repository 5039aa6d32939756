/-
  No cell of these rows narrows 'for every input' (looked for: loops, veiled, ifaces, maps, wideKeys, modest, calm, conditions, laid).
  DERIVED. THE GIVEN ROWS OF THIS SEAT. 5 by the template 'for every input the law returns true; each argument reads behind the call as it read before'; 0 by the template 'total and deterministic' (their statements: YtlgmebkmgoecdaaTotals.lean).
  GIVEN WITH THE SEED: the statements are not yours to turn. If you find one false, say at which input.
  Laid BY PROGRAM, IN A SANDBOX (cutbox-rows.mjs): the forced cells as the released guide's own fill.sh prints them over the translation 96433fa5ec32a8d7… (all of the seat's roots in one cut). By AI agents, Wed Nov 11 2026. No macro, syntax, notation, axiom, sorry.
-/
import Derived.Test.YtlgmebkmgoecdaaChecked
import GoSem.Claim
import GoSem.ClaimJoined
import GoSem.ClaimMapViews
import Derived.JoinedTies
import Derived.KernelRfl
namespace Go.Proofs.Ytlgmebkmgoecdaa
/- THE CELL 'sum', in the pinned program and in every row, IS THE sha256 OF THE DUMP (.gsa) THAT YtlgmebkmgoecdaaProg.lean LOADS. Nothing in Lean hashes anything: it is a label: what it is worth is what the hold of that sum in a sandbox is worth. -/
noncomputable def Try.pinned : Pinned := { name := "ytlgmebkmgoecdaa", sum := "96433fa5ec32a8d72e948543ba0f6d83015585e10e1df4b9c5317e5629ea5004", checked := Try.checked }
namespace Rows
def none {H : Type} : Left H := { results := [], args := [] }

/-- 'hindsightlaw04.RankPlays': WHATEVER THE INPUT: true; the input reads as it did. -/
def rankPlaysSpec : ChangeSpec := { name := "rankPlays", fn := fun _ => fun
  | [d] => { results := [.lit (.bool true)], args := [d] }
  | _ => none }
def rankPlaysRow : OpenClaim := { program := "ytlgmebkmgoecdaa", sum := "96433fa5ec32a8d72e948543ba0f6d83015585e10e1df4b9c5317e5629ea5004", func := "hindsight/hindsightlaw04.RankPlays", spec := "rankPlays", unfollowed := true, recurses := true, apart := false }
def RankPlaysSaid : Prop := rankPlaysRow.holds Try.pinned (OpenSpec.ofChange rankPlaysSpec)

/-- ITS FALSE NEIGHBOUR: 'it returns false'. Refute it at one input. -/
def rankPlaysWrong : ChangeSpec := { name := "rankPlays", fn := fun _ => fun
  | [d] => { results := [.lit (.bool false)], args := [d] }
  | _ => none }
def RankPlaysWrongFalsely : Prop := rankPlaysRow.holds Try.pinned (OpenSpec.ofChange rankPlaysWrong)

/-- 'hindsightlaw04.RankSorts': WHATEVER THE INPUT: true; the input reads as it did. -/
def rankSortsSpec : ChangeSpec := { name := "rankSorts", fn := fun _ => fun
  | [d] => { results := [.lit (.bool true)], args := [d] }
  | _ => none }
def rankSortsRow : OpenClaim := { program := "ytlgmebkmgoecdaa", sum := "96433fa5ec32a8d72e948543ba0f6d83015585e10e1df4b9c5317e5629ea5004", func := "hindsight/hindsightlaw04.RankSorts", spec := "rankSorts", unfollowed := true, recurses := true, apart := false }
def RankSortsSaid : Prop := rankSortsRow.holds Try.pinned (OpenSpec.ofChange rankSortsSpec)

/-- ITS FALSE NEIGHBOUR: 'it returns false'. Refute it at one input. -/
def rankSortsWrong : ChangeSpec := { name := "rankSorts", fn := fun _ => fun
  | [d] => { results := [.lit (.bool false)], args := [d] }
  | _ => none }
def RankSortsWrongFalsely : Prop := rankSortsRow.holds Try.pinned (OpenSpec.ofChange rankSortsWrong)

/-- 'hindsightlaw04.RankDrops': WHATEVER THE INPUT: true; the input reads as it did. -/
def rankDropsSpec : ChangeSpec := { name := "rankDrops", fn := fun _ => fun
  | [d1, d2, d3] => { results := [.lit (.bool true)], args := [d1, d2, d3] }
  | _ => none }
def rankDropsRow : OpenClaim := { program := "ytlgmebkmgoecdaa", sum := "96433fa5ec32a8d72e948543ba0f6d83015585e10e1df4b9c5317e5629ea5004", func := "hindsight/hindsightlaw04.RankDrops", spec := "rankDrops", unfollowed := true, recurses := true, apart := false }
def RankDropsSaid : Prop := rankDropsRow.holds Try.pinned (OpenSpec.ofChange rankDropsSpec)

/-- ITS FALSE NEIGHBOUR: 'it returns false'. Refute it at one input. -/
def rankDropsWrong : ChangeSpec := { name := "rankDrops", fn := fun _ => fun
  | [d1, d2, d3] => { results := [.lit (.bool false)], args := [d1, d2, d3] }
  | _ => none }
def RankDropsWrongFalsely : Prop := rankDropsRow.holds Try.pinned (OpenSpec.ofChange rankDropsWrong)

/-- 'hindsightlaw04.RankDue': WHATEVER THE INPUT: true; the input reads as it did. -/
def rankDueSpec : ChangeSpec := { name := "rankDue", fn := fun _ => fun
  | [d1, d2] => { results := [.lit (.bool true)], args := [d1, d2] }
  | _ => none }
def rankDueRow : OpenClaim := { program := "ytlgmebkmgoecdaa", sum := "96433fa5ec32a8d72e948543ba0f6d83015585e10e1df4b9c5317e5629ea5004", func := "hindsight/hindsightlaw04.RankDue", spec := "rankDue", unfollowed := true, recurses := true, apart := false }
def RankDueSaid : Prop := rankDueRow.holds Try.pinned (OpenSpec.ofChange rankDueSpec)

/-- ITS FALSE NEIGHBOUR: 'it returns false'. Refute it at one input. -/
def rankDueWrong : ChangeSpec := { name := "rankDue", fn := fun _ => fun
  | [d1, d2] => { results := [.lit (.bool false)], args := [d1, d2] }
  | _ => none }
def RankDueWrongFalsely : Prop := rankDueRow.holds Try.pinned (OpenSpec.ofChange rankDueWrong)

/-- 'hindsightlaw04.RankTwice': WHATEVER THE INPUT: true; the input reads as it did. -/
def rankTwiceSpec : ChangeSpec := { name := "rankTwice", fn := fun _ => fun
  | [d] => { results := [.lit (.bool true)], args := [d] }
  | _ => none }
def rankTwiceRow : OpenClaim := { program := "ytlgmebkmgoecdaa", sum := "96433fa5ec32a8d72e948543ba0f6d83015585e10e1df4b9c5317e5629ea5004", func := "hindsight/hindsightlaw04.RankTwice", spec := "rankTwice", unfollowed := true, recurses := true, apart := false }
def RankTwiceSaid : Prop := rankTwiceRow.holds Try.pinned (OpenSpec.ofChange rankTwiceSpec)

/-- ITS FALSE NEIGHBOUR: 'it returns false'. Refute it at one input. -/
def rankTwiceWrong : ChangeSpec := { name := "rankTwice", fn := fun _ => fun
  | [d] => { results := [.lit (.bool false)], args := [d] }
  | _ => none }
def RankTwiceWrongFalsely : Prop := rankTwiceRow.holds Try.pinned (OpenSpec.ofChange rankTwiceWrong)

/- THE SECOND FORM. 'bulk': how many values and letters a reading holds, each counted each time it is reached (what is shared counts as often as it is met; a slice's spare places count too). A statement '..UptoSaid' is the law's where the arguments, and the package variables that the reading takes, are together of bulk at most 1048576: NARROWER than '..Said'. Prove '..Said' where nothing that the law and all that it calls make is longer than what came in: it says more and counts as full. Else prove '..UptoSaid'. A law counts once. -/
mutual
def uptoBulk {H : Type} : DataW H → Nat
  | .lit (.string bytes) => bytes.length + 1
  | .lit _ => 1
  | .nil => 1
  | .ptr d => uptoBulk d + 1
  | .slice elems spare => uptoBulkAll elems + uptoBulkAll spare + 1
  | .agg parts => uptoBulkAll parts + 1
  | .iface _ d => uptoBulk d + 1
  | .map entries => uptoBulkEntries entries + 1
  | .held _ => 1
def uptoBulkAll {H : Type} : List (DataW H) → Nat
  | [] => 0
  | d :: r => uptoBulk d + uptoBulkAll r
def uptoBulkEntries {H : Type} : List (Lit × DataW H) → Nat
  | [] => 0
  | x :: r => uptoBulkEntry x + uptoBulkEntries r
def uptoBulkEntry {H : Type} : Lit × DataW H → Nat
  | (.string bytes, d) => bytes.length + uptoBulk d + 1
  | (_, d) => uptoBulk d + 1
 end
def uptoSmall : (H : Type) → List (DataW H) → Bool := fun _ ds => decide (uptoBulkAll ds ≤ 1048576)
def OpenSpec.upto (s : _root_.Go.ChangeSpec) : _root_.Go.OpenSpec := { _root_.Go.OpenSpec.ofChange s with cond := some uptoSmall }

/-- 'hindsightlaw04.RankPlays', WHERE WHAT IT READS IS OF BULK AT MOST 1048576: true; the input reads as it did. -/
def rankPlaysUptoRow : OpenClaim := { program := "ytlgmebkmgoecdaa", sum := "96433fa5ec32a8d72e948543ba0f6d83015585e10e1df4b9c5317e5629ea5004", func := "hindsight/hindsightlaw04.RankPlays", spec := "rankPlays", unfollowed := true, recurses := true, apart := false, narrowed := true }
def RankPlaysUptoSaid : Prop := rankPlaysUptoRow.holds Try.pinned (OpenSpec.upto rankPlaysSpec)

/-- 'hindsightlaw04.RankSorts', WHERE WHAT IT READS IS OF BULK AT MOST 1048576: true; the input reads as it did. -/
def rankSortsUptoRow : OpenClaim := { program := "ytlgmebkmgoecdaa", sum := "96433fa5ec32a8d72e948543ba0f6d83015585e10e1df4b9c5317e5629ea5004", func := "hindsight/hindsightlaw04.RankSorts", spec := "rankSorts", unfollowed := true, recurses := true, apart := false, narrowed := true }
def RankSortsUptoSaid : Prop := rankSortsUptoRow.holds Try.pinned (OpenSpec.upto rankSortsSpec)

/-- 'hindsightlaw04.RankDrops', WHERE WHAT IT READS IS OF BULK AT MOST 1048576: true; the input reads as it did. -/
def rankDropsUptoRow : OpenClaim := { program := "ytlgmebkmgoecdaa", sum := "96433fa5ec32a8d72e948543ba0f6d83015585e10e1df4b9c5317e5629ea5004", func := "hindsight/hindsightlaw04.RankDrops", spec := "rankDrops", unfollowed := true, recurses := true, apart := false, narrowed := true }
def RankDropsUptoSaid : Prop := rankDropsUptoRow.holds Try.pinned (OpenSpec.upto rankDropsSpec)

/-- 'hindsightlaw04.RankDue', WHERE WHAT IT READS IS OF BULK AT MOST 1048576: true; the input reads as it did. -/
def rankDueUptoRow : OpenClaim := { program := "ytlgmebkmgoecdaa", sum := "96433fa5ec32a8d72e948543ba0f6d83015585e10e1df4b9c5317e5629ea5004", func := "hindsight/hindsightlaw04.RankDue", spec := "rankDue", unfollowed := true, recurses := true, apart := false, narrowed := true }
def RankDueUptoSaid : Prop := rankDueUptoRow.holds Try.pinned (OpenSpec.upto rankDueSpec)

/-- 'hindsightlaw04.RankTwice', WHERE WHAT IT READS IS OF BULK AT MOST 1048576: true; the input reads as it did. -/
def rankTwiceUptoRow : OpenClaim := { program := "ytlgmebkmgoecdaa", sum := "96433fa5ec32a8d72e948543ba0f6d83015585e10e1df4b9c5317e5629ea5004", func := "hindsight/hindsightlaw04.RankTwice", spec := "rankTwice", unfollowed := true, recurses := true, apart := false, narrowed := true }
def RankTwiceUptoSaid : Prop := rankTwiceUptoRow.holds Try.pinned (OpenSpec.upto rankTwiceSpec)

end Rows
end Go.Proofs.Ytlgmebkmgoecdaa
