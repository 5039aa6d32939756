/- Out of FltB: Sp, ev, Er, Er.below, Er.more. -/
import Derived.LaidEql
import Derived.Stop.Asserts
import Derived.RowKitTokens
import Derived.Test.YtdoadmkaoboncaaGreatDoorBase
import Derived.Lib.ItoaWalk
namespace Go.Proofs.YtdoadmkaoboncaaGreatDoor.flt
open Go Go.RowKit Go.Extern.Stop Go.Stop Go.Extern

/-- A step of an error: its block, its name, its place. -/
structure Sp where
  b : Nat
  s : ByteArray
  a : Int

/-- An error as a value: steps around a number, from outside in. -/
def ev : List Sp → Int → Value
  | [], n => .iface 83 (.int .i64 n)
  | x :: _, _ => .iface 125 (.pointer (some ⟨x.b, 0, none⟩))

/-- The blocks of an error's steps, all below B. -/
def Er (B : Nat) (w : World) : List Sp → Int → Prop
  | [], _ => True
  | x :: r, n => (Has w x.b 127 #[.string x.s, .int .i64 x.a, ev r n] ∧ x.b < B) ∧ Er B w r n

theorem Er.below {B C : Nat} {w w' : World} {n : Int} : ∀ {L : List Sp}, Er B w L n → Below C w w' → B ≤ C → Er B w' L n
  | [], _, _, _ => trivial
  | _ :: _, h, b, hC => ⟨⟨h.1.1.below b (by have := h.1.2; omega), h.1.2⟩, Er.below h.2 b hC⟩
theorem Er.more {B C : Nat} {w : World} {n : Int} (hC : B ≤ C) : ∀ {L : List Sp}, Er B w L n → Er C w L n
  | [], _ => trivial
  | _ :: _, h => ⟨⟨h.1.1, by have := h.1.2; omega⟩, Er.more hC h.2⟩
end Go.Proofs.YtdoadmkaoboncaaGreatDoor.flt
