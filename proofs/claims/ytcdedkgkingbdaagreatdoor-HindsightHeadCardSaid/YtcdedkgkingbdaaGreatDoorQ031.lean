/- A struct is stored into a piece of an old box: the world behind it as a letter. Of no program. -/
import Derived.Test.YtcdedkgkingbdaaGreatDoorQ029
import Derived.Deep.MidRow
namespace Go.Proofs.YtcdedkgkingbdaaGreatDoor
open Go.RowKit

/-- Cells written from a place on. -/
def setL : Array Value → Nat → List Value → Array Value
  | cs, _, [] => cs
  | cs, o, v :: r => setL (cs.setIfInBounds o v) (o + 1) r

theorem Has.piece {t : TypeId} {g : Nat} : ∀ (l : List Value) (w : World) (cs : Array Value) (o : Nat), Has w g t cs → Has (w.setCells g o l) g t (setL cs o l)
  | [], _, _, _, h => h
  | v :: r, w, _, o, h => Has.piece r (w.setCell ⟨g, o, none⟩ v) _ (o + 1) (h.put o v)
theorem turn_piece {g : Nat} {w0 : World} : ∀ (l : List Value) (w : World) (o : Nat), Turn (fun k => k = g) w0 w → Turn (fun k => k = g) w0 (w.setCells g o l)
  | [], _, _, h => h
  | v :: r, w, o, h => turn_piece r (w.setCell ⟨g, o, none⟩ v) (o + 1) (h.put (fun _ => rfl) o v)
theorem Has.there {w : World} {g : Nat} {t : TypeId} {cs : Array Value} (h : Has w g t cs) (o n : Nat) (hn : o + n ≤ cs.size) : w.there g o n := fun j hj => by
  refine ⟨?_, h.free _⟩
  rw [h.cell, Array.getElem?_eq_getElem (by omega)]
  rfl

section
variable {P : Program}
theorem wp_store_piece {w : World} {o : Oper} {a : Act} {K : Act → World → Prop} {Q : Exit → Act → World → Prop} (ty : TypeId) (x y : Operand) (ho : o.op = .store ty x y)
    (g i : Nat) (cs old cs2 : Array Value) (hx : a.eval x = .pointer (some ⟨g, i, none⟩)) (hy : a.eval y = .agg cs)
    (t : TypeId) (hg : Has w g t old) (hi : (P.info? ty).map (·.size) = some cs.size) (hold : i + cs.size ≤ old.size) (h1 : cs.all (·.oneCell') = true) (he : setL old i cs.toList = cs2)
    (h : ∀ w', Has w' g t cs2 → Turn (fun k => k = g) w w' → K (a.put o.dst undef) w') : o.wp P a w K Q := by
  refine wp_store_mid ty x y ho g i cs hx hy (hg.there i cs.size hold) hi h1 (h _ ?_ (turn_piece _ w i (Turn.refl _ w)))
  rw [← he]
  exact Has.piece _ w old i hg
theorem wpList_store_piece {w : World} {ops : Array Oper} {rest : List Oper} {o : Oper} {a : Act} {Q : Exit → Act → World → Prop} (hgd : o.guard = none) (ty : TypeId) (x y : Operand) (ho : o.op = .store ty x y)
    (g i : Nat) (cs old cs2 : Array Value) (hx : a.eval x = .pointer (some ⟨g, i, none⟩)) (hy : a.eval y = .agg cs)
    (t : TypeId) (hg : Has w g t old) (hi : (P.info? ty).map (·.size) = some cs.size) (hold : i + cs.size ≤ old.size) (h1 : cs.all (·.oneCell') = true) (he : setL old i cs.toList = cs2)
    (h : ∀ w', Has w' g t cs2 → Turn (fun k => k = g) w w' → wpList P ops Q rest (a.put o.dst undef) w') : wpList P ops Q (o :: rest) a w :=
  wpList_plain hgd fun _ hK => wp_store_piece ty x y ho g i cs old cs2 hx hy t hg hi hold h1 he fun w' h2 h3 => hK _ _ (h w' h2 h3)
end
end Go.Proofs.YtcdedkgkingbdaaGreatDoor
