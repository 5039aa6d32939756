/-
  No cell of these rows narrows 'for every input' (looked for: loops, veiled, ifaces, maps, wideKeys, modest, calm, conditions, laid).
  DERIVED. THE GIVEN ROWS OF THIS SEAT. 3 by the template 'for every input the law returns true; each argument reads behind the call as it read before'; 0 by the template 'total and deterministic' (their statements: YtjfilakhahnpeabTotals.lean).
  GIVEN WITH THE SEED: the statements are not yours to turn. If you find one false, say at which input.
  Laid BY PROGRAM, IN A SANDBOX (cutbox-rows.mjs): the forced cells as the released guide's own fill.sh prints them over the translation d28293ea9d75bb5a… (all of the seat's roots in one cut). By AI agents, Wed Nov 11 2026. No macro, syntax, notation, axiom, sorry.
-/
import Derived.Test.YtjfilakhahnpeabChecked
import GoSem.Claim
import GoSem.ClaimJoined
import GoSem.ClaimMapViews
import Derived.JoinedTies
import Derived.KernelRfl
namespace Go.Proofs.Ytjfilakhahnpeab
/- THE CELL 'sum', in the pinned program and in every row, IS THE sha256 OF THE DUMP (.gsa) THAT YtjfilakhahnpeabProg.lean LOADS. Nothing in Lean hashes anything: it is a label: what it is worth is what the hold of that sum in a sandbox is worth. -/
noncomputable def Try.pinned : Pinned := { name := "ytjfilakhahnpeab", sum := "d28293ea9d75bb5a269ba8fe1d18568a8a19c05c0ccc89c4cf69ac29a21d63fa", checked := Try.checked }
namespace Rows
def none {H : Type} : Left H := { results := [], args := [] }

/-- 'hindsightlaw17.SchedAgenda': WHATEVER THE INPUT: true; the input reads as it did. -/
def schedAgendaSpec : ChangeSpec := { name := "schedAgenda", fn := fun _ => fun
  | [d1, d2] => { results := [.lit (.bool true)], args := [d1, d2] }
  | _ => none }
def schedAgendaRow : OpenClaim := { program := "ytjfilakhahnpeab", sum := "d28293ea9d75bb5a269ba8fe1d18568a8a19c05c0ccc89c4cf69ac29a21d63fa", func := "hindsight/hindsightlaw17.SchedAgenda", spec := "schedAgenda", unfollowed := true, recurses := true, apart := false }
def SchedAgendaSaid : Prop := schedAgendaRow.holds Try.pinned (OpenSpec.ofChange schedAgendaSpec)

/-- ITS FALSE NEIGHBOUR: 'it returns false'. Refute it at one input. -/
def schedAgendaWrong : ChangeSpec := { name := "schedAgenda", fn := fun _ => fun
  | [d1, d2] => { results := [.lit (.bool false)], args := [d1, d2] }
  | _ => none }
def SchedAgendaWrongFalsely : Prop := schedAgendaRow.holds Try.pinned (OpenSpec.ofChange schedAgendaWrong)

/-- 'hindsightlaw17.SchedSet': WHATEVER THE INPUT: true; the input reads as it did. -/
def schedSetSpec : ChangeSpec := { name := "schedSet", fn := fun _ => fun
  | [d1, d2, d3, d4] => { results := [.lit (.bool true)], args := [d1, d2, d3, d4] }
  | _ => none }
def schedSetRow : OpenClaim := { program := "ytjfilakhahnpeab", sum := "d28293ea9d75bb5a269ba8fe1d18568a8a19c05c0ccc89c4cf69ac29a21d63fa", func := "hindsight/hindsightlaw17.SchedSet", spec := "schedSet", unfollowed := true, recurses := true, apart := false }
def SchedSetSaid : Prop := schedSetRow.holds Try.pinned (OpenSpec.ofChange schedSetSpec)

/-- ITS FALSE NEIGHBOUR: 'it returns false'. Refute it at one input. -/
def schedSetWrong : ChangeSpec := { name := "schedSet", fn := fun _ => fun
  | [d1, d2, d3, d4] => { results := [.lit (.bool false)], args := [d1, d2, d3, d4] }
  | _ => none }
def SchedSetWrongFalsely : Prop := schedSetRow.holds Try.pinned (OpenSpec.ofChange schedSetWrong)

/-- 'hindsightlaw17.SchedFair': WHATEVER THE INPUT: true; the input reads as it did. -/
def schedFairSpec : ChangeSpec := { name := "schedFair", fn := fun _ => fun
  | [d1, d2, d3] => { results := [.lit (.bool true)], args := [d1, d2, d3] }
  | _ => none }
def schedFairRow : OpenClaim := { program := "ytjfilakhahnpeab", sum := "d28293ea9d75bb5a269ba8fe1d18568a8a19c05c0ccc89c4cf69ac29a21d63fa", func := "hindsight/hindsightlaw17.SchedFair", spec := "schedFair", unfollowed := true, recurses := true, apart := false }
def SchedFairSaid : Prop := schedFairRow.holds Try.pinned (OpenSpec.ofChange schedFairSpec)

/-- ITS FALSE NEIGHBOUR: 'it returns false'. Refute it at one input. -/
def schedFairWrong : ChangeSpec := { name := "schedFair", fn := fun _ => fun
  | [d1, d2, d3] => { results := [.lit (.bool false)], args := [d1, d2, d3] }
  | _ => none }
def SchedFairWrongFalsely : Prop := schedFairRow.holds Try.pinned (OpenSpec.ofChange schedFairWrong)

/- THE SECOND FORM. 'bulk': how many values and letters a reading holds, each counted each time it is reached (what is shared counts as often as it is met; a slice's spare places count too). A statement '..UptoSaid' is the law's where the arguments, and the package variables that the reading takes, are together of bulk at most 1048576: NARROWER than '..Said'. Prove '..Said' where nothing that the law and all that it calls make is longer than what came in: it says more and counts as full. Else prove '..UptoSaid'. A law counts once. -/
mutual
def uptoBulk {H : Type} : DataW H → Nat
  | .lit (.string bytes) => bytes.length + 1
  | .lit _ => 1
  | .nil => 1
  | .ptr d => uptoBulk d + 1
  | .slice elems spare => uptoBulkAll elems + uptoBulkAll spare + 1
  | .agg parts => uptoBulkAll parts + 1
  | .iface _ d => uptoBulk d + 1
  | .map entries => uptoBulkEntries entries + 1
  | .held _ => 1
def uptoBulkAll {H : Type} : List (DataW H) → Nat
  | [] => 0
  | d :: r => uptoBulk d + uptoBulkAll r
def uptoBulkEntries {H : Type} : List (Lit × DataW H) → Nat
  | [] => 0
  | x :: r => uptoBulkEntry x + uptoBulkEntries r
def uptoBulkEntry {H : Type} : Lit × DataW H → Nat
  | (.string bytes, d) => bytes.length + uptoBulk d + 1
  | (_, d) => uptoBulk d + 1
 end
def uptoSmall : (H : Type) → List (DataW H) → Bool := fun _ ds => decide (uptoBulkAll ds ≤ 1048576)
def OpenSpec.upto (s : _root_.Go.ChangeSpec) : _root_.Go.OpenSpec := { _root_.Go.OpenSpec.ofChange s with cond := some uptoSmall }

/-- 'hindsightlaw17.SchedAgenda', WHERE WHAT IT READS IS OF BULK AT MOST 1048576: true; the input reads as it did. -/
def schedAgendaUptoRow : OpenClaim := { program := "ytjfilakhahnpeab", sum := "d28293ea9d75bb5a269ba8fe1d18568a8a19c05c0ccc89c4cf69ac29a21d63fa", func := "hindsight/hindsightlaw17.SchedAgenda", spec := "schedAgenda", unfollowed := true, recurses := true, apart := false, narrowed := true }
def SchedAgendaUptoSaid : Prop := schedAgendaUptoRow.holds Try.pinned (OpenSpec.upto schedAgendaSpec)

/-- 'hindsightlaw17.SchedSet', WHERE WHAT IT READS IS OF BULK AT MOST 1048576: true; the input reads as it did. -/
def schedSetUptoRow : OpenClaim := { program := "ytjfilakhahnpeab", sum := "d28293ea9d75bb5a269ba8fe1d18568a8a19c05c0ccc89c4cf69ac29a21d63fa", func := "hindsight/hindsightlaw17.SchedSet", spec := "schedSet", unfollowed := true, recurses := true, apart := false, narrowed := true }
def SchedSetUptoSaid : Prop := schedSetUptoRow.holds Try.pinned (OpenSpec.upto schedSetSpec)

/-- 'hindsightlaw17.SchedFair', WHERE WHAT IT READS IS OF BULK AT MOST 1048576: true; the input reads as it did. -/
def schedFairUptoRow : OpenClaim := { program := "ytjfilakhahnpeab", sum := "d28293ea9d75bb5a269ba8fe1d18568a8a19c05c0ccc89c4cf69ac29a21d63fa", func := "hindsight/hindsightlaw17.SchedFair", spec := "schedFair", unfollowed := true, recurses := true, apart := false, narrowed := true }
def SchedFairUptoSaid : Prop := schedFairUptoRow.holds Try.pinned (OpenSpec.upto schedFairSpec)

end Rows
end Go.Proofs.Ytjfilakhahnpeab
