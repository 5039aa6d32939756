/- A whole struct is stored into an old box: the world behind it as a letter. Of no program. -/
import Derived.Test.YtndnjeahepahkaaY000
namespace Go.Proofs.Ytndnjeahepahkaa
open Go.RowKit
section
variable {P : Program}
theorem wpList_store_all {w : World} {ops : Array Oper} {rest : List Oper} {o : Oper} {a : Act} {Q : Exit → Act → World → Prop} (hgd : o.guard = none) (ty : TypeId) (x y : Operand) (ho : o.op = .store ty x y)
    (g : Nat) (cs old : Array Value) (hx : a.eval x = .pointer (some ⟨g, 0, none⟩)) (hy : a.eval y = .agg cs)
    (t : TypeId) (hg : Has w g t old) (hi : (P.info? ty).map (·.size) = some cs.size) (hold : old.size = cs.size) (h1 : cs.all (·.oneCell') = true)
    (h : ∀ w', Has w' g t cs → Turn (fun k => k = g) w w' → wpList P ops Q rest (a.put o.dst undef) w') : wpList P ops Q (o :: rest) a w :=
  wpList_store_row hgd ty x y ho g cs hx hy t old hg hi hold h1 (h _ (hg.row _) (turn_row _ _ _))
end
end Go.Proofs.Ytndnjeahepahkaa
