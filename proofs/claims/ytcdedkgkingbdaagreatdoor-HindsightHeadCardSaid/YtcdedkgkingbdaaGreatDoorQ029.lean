/- Texts laid into one: Wf, ObjD, ObjE, Inv, ObjF, StoR, ObjG, ObjH. -/
import Derived.Test.YtcdedkgkingbdaaGreatDoorQ000
import Derived.ProofKit
import Derived.Test.YtcdedkgkingbdaaGreatDoorQ026
import Derived.Test.YtcdedkgkingbdaaGreatDoorQ028
import Derived.Test.YtcdedkgkingbdaaGreatDoorQ009
section
/- Integers that fit. Of no program. -/
namespace Go.Proofs.YtcdedkgkingbdaaGreatDoor
open Go.ChangeShapes Go.WideShapes Go.ChangeAt Go.RowKit

theorem wf_i64 {y : Int} (h : (Lit.int .i64 y).wf = true) : -9223372036854775808 ≤ y ∧ y ≤ 9223372036854775807 := by
  have m0 : IntKind.i64.min = -9223372036854775808 := by decide
  have m1 : IntKind.i64.max = 9223372036854775807 := by decide
  have h' : (decide (IntKind.i64.min ≤ y) && decide (y ≤ IntKind.i64.max)) = true := h
  rw [m0, m1] at h'
  simpa using h'
end Go.Proofs.YtcdedkgkingbdaaGreatDoor
end

section
/- object: Clone of each kind: another one that says the same, of blocks of its own. -/
namespace Go.Proofs.YtcdedkgkingbdaaGreatDoor.object
open Go.RowKit Go.Maps

/-- Two objects that say the same. -/
def Ob.Like : Ob → Ob → Prop
  | .doc s, .doc s' => s = s'
  | .led D, .led D' => Alike D D'
  | .sto D, .sto D' => Alike D D'
  | _, _ => False

theorem Ob.Like.save {x y : Ob} (h : x.Like y) : x.save = y.save := by
  cases x <;> cases y
  case doc.doc s s' => exact congrArg text.encT h
  case led.led D D' => exact Alike.saveB h
  case sto.sto D D' => exact Alike.saveB h
  all_goals exact h.elim
theorem Ob.Like.kd {x y : Ob} (h : x.Like y) : x.kd = y.kd := by
  cases x <;> cases y
  case doc.doc s s' => rfl
  case led.led D D' => rfl
  case sto.sto D D' => rfl
  all_goals exact h.elim

def ClonePost (x : Ob) (w : World) (en : Ending) (w' : World) : Prop :=
  ∃ v y, en = .returned v ∧ St w' v w.heap.size w'.heap.size y ∧ y.Like x ∧ Below w.heap.size w w'

end Go.Proofs.YtcdedkgkingbdaaGreatDoor.object
end

section
/- object: the laws' own awake answers true. -/
namespace Go.Proofs.YtcdedkgkingbdaaGreatDoor.object
open Go.RowKit Go.Maps Go.Sort

end Go.Proofs.YtcdedkgkingbdaaGreatDoor.object
end

section
/- A method called through an interface value inside a region: one operation of it. Of no program. -/
namespace Go.Proofs.YtcdedkgkingbdaaGreatDoor
open Go.RowKit

section
variable {P : Program} {ops : Array Oper} {Q : Exit → Act → World → Prop} {md : Region.Mode} {S : World → Prop}

theorem wpOp_invoke (d : Option Tmp) {i : Nat} {o : Oper} {K : Act → World → Prop} {a : Act} {w : World} (hi : ops[i]? = some o) (hd : o.dst = d) (hw : Region.wanted o (yielded ops a.tmps) = true)
    (x : Operand) (name : String) (t : TypeId) (u : Value) (hx : a.eval x = .iface t u) (f : FuncId) (r : Value)
    (hm : (method (P.types.size + Made.depth) t u name).run P w = .ok (f, r) w)
    (he0 : ∀ args w, (callFunc f args).run P w = .ok (.enter f args) w) (xs : Array Operand) (ts : Array TypeId)
    (ho : o.op = .call { callee := .invoke x name, args := xs, argTypes := ts }) (vs : Array Value) (hv : xs.map a.eval = vs) {R : Ending → World → Prop} (hc : Calls P f (#[r] ++ vs) w R)
    (h : ∀ en w', R en w' → ∃ v, en = .returned v ∧ K (a.put d v) w') : wpOp P ops Q i K a w := by
  subst hd
  have he : (execOp a.eval o).run P w = .ok (.enter f (#[r] ++ vs)) w := by
    simp only [execOp, ho]
    have h2 : ((#[Value.iface t u] : Array Value) ++ vs).extract 1 ((#[Value.iface t u] : Array Value) ++ vs).size = vs := by
      apply Array.ext'
      simp [List.extract]
    have h3 : ((#[Value.iface t u] : Array Value) ++ vs)[0]? = some (.iface t u) := by rw [Array.getElem?_append_left (by simp)]; rfl
    have hs : (invoke (.fn (.method name) #[]) (#[Value.iface t u] ++ vs)).run P w = .ok (.enter f (#[r] ++ vs)) w := by
      simp only [invoke, h3, h2, callMethod]
      simp [hm, he0]
    simp only [resolve, hv, hx]
    simpa using hs
  unfold wpOp
  simp only [hi, hw, if_true]
  refine .inl ?_
  unfold Oper.wp
  rw [he, Oper.upon_enter]
  refine hc.mono ?_
  intro en w' hR
  obtain ⟨v, rfl, hK⟩ := h en w' hR
  exact hK

end
end Go.Proofs.YtcdedkgkingbdaaGreatDoor
end

section
/- object: what the check of a method value reads behind an object's interface; the names of the calls of it. -/
namespace Go.Proofs.YtcdedkgkingbdaaGreatDoor.object
open Go.RowKit Go.Maps Go.Sort

end Go.Proofs.YtcdedkgkingbdaaGreatDoor.object
end

section
/- A whole struct is stored into an old box: the world behind it as a letter. Of no program. -/
namespace Go.Proofs.YtcdedkgkingbdaaGreatDoor
open Go.RowKit
section
variable {P : Program}
theorem wpList_store_all {w : World} {ops : Array Oper} {rest : List Oper} {o : Oper} {a : Act} {Q : Exit → Act → World → Prop} (hgd : o.guard = none) (ty : TypeId) (x y : Operand) (ho : o.op = .store ty x y)
    (g : Nat) (cs old : Array Value) (hx : a.eval x = .pointer (some ⟨g, 0, none⟩)) (hy : a.eval y = .agg cs)
    (t : TypeId) (hg : Has w g t old) (hi : (P.info? ty).map (·.size) = some cs.size) (hold : old.size = cs.size) (h1 : cs.all (·.oneCell') = true)
    (h : ∀ w', Has w' g t cs → Turn (fun k => k = g) w w' → wpList P ops Q rest (a.put o.dst undef) w') : wpList P ops Q (o :: rest) a w :=
  wpList_store_row hgd ty x y ho g cs hx hy t old hg hi hold h1 (h _ (hg.row _) (turn_row _ _ _))
end
end Go.Proofs.YtcdedkgkingbdaaGreatDoor
end

section
/- object: Inverse of an op that was done; an op told as the document's; the document's Inverse. -/
namespace Go.Proofs.YtcdedkgkingbdaaGreatDoor.object
open Go.RowKit Go.Maps Go.Sort

/-- The op that takes it back. -/
def OpO.inv (o : OpO) (g : ByteArray) : OpO := if o.k = 1 then ⟨1, text.inv o.t g, zL, zS⟩ else if o.k = 2 then ⟨2, zT, o.l.inv, zS⟩ else ⟨3, zT, zL, o.s.inv⟩

abbrev c12 (k : Int) (t : text.OpV) (l : OpL) (z : stock.OpS) : Array Value := (OpO.mk k t l z).cells
theorem tdo_not {s : ByteArray} {o : text.OpV} (e : ¬ (text.doV s o).2.2 = 0) : (text.doV s o).1 = s := by
  unfold text.doV text.doT at e ⊢
  split at e
  · rename_i h1
    rw [if_pos h1]
    split at e
    · rename_i h2
      rw [if_pos h2]
      dsimp only at e ⊢
      unfold text.insT at e ⊢
      split at e
      · rename_i h3; rw [if_pos h3]
      · rename_i h3
        split at e
        · rename_i h4; rw [if_neg h3, if_pos h4]
        · exact absurd rfl e
    · rename_i h2
      rw [if_neg h2]
      unfold text.cutT at e ⊢
      split at e
      · rename_i h3; rw [if_pos h3]
      · exact absurd rfl e
  · rename_i h1
    rw [if_neg h1]
/-- An op that was not OK changed nothing. -/
theorem act_not {x : Ob} {o : OpO} (e : ¬ (x.act o).2.1 = 0) : (x.act o).1 = x := by
  unfold Ob.act at e ⊢
  split
  · rename_i hk
    rw [if_pos hk] at e
    cases x with
    | doc s => exact congrArg Ob.doc (tdo_not e)
    | led D => exact congrArg Ob.led (doO_not e)
    | sto D => exact congrArg Ob.sto (stock.doO_not e)
  · rfl
end Go.Proofs.YtcdedkgkingbdaaGreatDoor.object
end

section
/- object: an object that lasts from round to round; Clone through its interface. -/
namespace Go.Proofs.YtcdedkgkingbdaaGreatDoor.object
open Go.RowKit Go.Maps Go.Sort

theorem wp_region_heldV {P : Program} {ops : Array Oper} {Q : Exit → Act → World → Prop} {id : Nat} {a : Act} {w : World} (S : World → Prop) (V : World) (hV : V = w.drew) (hm : P.follows .mixedOrders = true)
    (h : wpAnyH P .any ops Q S ops.size (Array.replicate ops.size false) a V) : (Code.region id ops true).wp P Q a w := by
  subst hV
  exact wp_region_any hm (wpAny_of_held _ _ _ _ h)

/-- What lasts from round to round. -/
structure Lb (w : World) (v : Value) (lo hi : Nat) (K : Int) (x : Ob) (w' : World) : Prop where
  st : St w' v lo hi x
  kd : x.kd = K
  plo : w.heap.size ≤ lo
  phi : hi ≤ w'.heap.size
  turn : Turn (fun j => w.heap.size ≤ j) w w'
theorem Lb.more {w w' w2 : World} {v : Value} {lo hi : Nat} {K : Int} {x : Ob} (h : Lb w v lo hi K x w') (b : Below w'.heap.size w' w2) : Lb w v lo hi K x w2 :=
  ⟨h.st.below b h.phi, h.kd, h.plo, Nat.le_trans h.phi b.size, h.turn.trans (Turn.of_below b (F := fun j => w'.heap.size ≤ j) (fun _ _ e => e)) (fun _ _ e => Nat.le_trans h.turn.size e)⟩
theorem Lb.did {w w' w2 : World} {v : Value} {lo hi : Nat} {K : Int} {x y : Ob} (h : Lb w v lo hi K x w') (s : St w2 v lo hi y) (hk : y.kd = K) (t : Turn (fun j => lo ≤ j ∧ j < hi) w' w2) : Lb w v lo hi K y w2 :=
  ⟨s, hk, h.plo, Nat.le_trans h.phi t.size, h.turn.trans t (fun j _ e => by have := h.plo; omega)⟩
theorem lo_hi {w : World} {v : Value} {lo hi : Nat} {x : Ob} (h : St w v lo hi x) : lo < hi := by
  cases x with
  | doc s => obtain ⟨d, _, h1, h2, _⟩ := h; omega
  | led D => obtain ⟨d, m, _, h1, h2, _⟩ := h; omega
  | sto D => obtain ⟨d, m, _, h1, h2, _⟩ := h; omega
theorem Lb.other {w w' w2 : World} {v : Value} {lo hi lo2 hi2 : Nat} {K : Int} {x : Ob} (h : Lb w v lo hi K x w') (t : Turn (fun j => lo2 ≤ j ∧ j < hi2) w' w2) (hlo : hi ≤ lo2) : Lb w v lo hi K x w2 :=
  ⟨h.st.turn t (fun j h1 h2 e => by omega), h.kd, h.plo, Nat.le_trans h.phi t.size, h.turn.trans t (fun j h1 e => by have := h.plo; have := lo_hi h.st; omega)⟩

end Go.Proofs.YtcdedkgkingbdaaGreatDoor.object
end

