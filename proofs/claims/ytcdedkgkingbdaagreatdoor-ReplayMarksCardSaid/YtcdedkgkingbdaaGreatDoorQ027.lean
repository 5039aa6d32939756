/- object: ops that are handed in, in a slice or by value (a struct of structs). -/
import Derived.Test.YtcdedkgkingbdaaGreatDoorQ026
namespace Go.Proofs.YtcdedkgkingbdaaGreatDoor.object
open Go.ChangeShapes Go.WideShapes Go.ChangeAt Go.RowKit Go.Maps

/-- The elements of a slice that is handed in, as cells that read. -/
theorem opened_raw {H : Type} {enc : TypeId × Value → H} {P : Program} {w : World} {spare : Nat → Bool} {held : Bool} {t e : TypeId} {n0 : Nat}
    (ht : P.underlying t = some (.slice e)) (hC : P.cellsOf e = n0) (h0 : 0 < n0)
    {a : Option Addr} {len cap : Nat} {d : DataW H} {p : List MemPlace} (h : DataW.Trod enc P w 0 spare held t (.slice a len cap) d p) :
    len ≤ cap ∧ cap ≤ maxLen ∧ ∀ i, i < len → ∃ b o, a = some ⟨b, o, none⟩ ∧ b < w.heap.size ∧ ∃ (cs : List Value) (n : Nat) (y : DataW H × List MemPlace), cs.length = n0 ∧ DataW.trod enc P w 0 spare held n e cs = some y ∧
      ∀ j v, cs[j]? = some v → w.cell? ⟨b, o + i * n0 + j, none⟩ = some v := by
  obtain ⟨fuel, h⟩ := h
  rcases Go.Deep.open_slice ht h with ⟨hn, _⟩ | ⟨g, l, c, m, n, D, Pl, hn, _, hlc, hcm, hm, _, hall⟩
  · simp [Value.cells] at hn
    obtain ⟨rfl, rfl, rfl⟩ := hn
    exact ⟨Nat.le_refl _, Nat.zero_le _, fun i hi => absurd hi (Nat.not_lt_zero _)⟩
  · simp [Value.cells] at hn
    obtain ⟨rfl, rfl, rfl⟩ := hn
    refine ⟨hlc, hcm, fun i hi => ?_⟩
    obtain ⟨cs, hc, hd⟩ := hall i (by rw [hm]; split <;> omega)
    rw [hC] at hc
    obtain ⟨_, hcl, hat⟩ := World.cells?_some hc
    obtain ⟨gb, go, gs⟩ := g
    have hcell : ∀ j, j < n0 → ∃ v, cs[j]? = some v ∧ w.cell? (((⟨gb, go, gs⟩ : Addr).add (i * n0)).add j) = some v := fun j hj => by
      have hv : cs[j]? = some (cs[j]'(by omega)) := List.getElem?_eq_getElem (by omega)
      exact ⟨_, hv, by rw [hat j hj, hv]⟩
    have hs : gs = none := by
      obtain ⟨cs0, hc0, _⟩ := hall 0 (by rw [hm]; split <;> omega)
      rw [hC, Nat.zero_mul] at hc0
      obtain ⟨_, hcl0, hat0⟩ := World.cells?_some hc0
      have hv : cs0[0]? = some (cs0[0]'(by omega)) := List.getElem?_eq_getElem (by omega)
      have h1 := World.cell?_spot ((hat0 0 h0).trans hv)
      simpa [Addr.add] using h1
    subst hs
    have hb : gb < w.heap.size := by
      obtain ⟨v, _, hv⟩ := hcell 0 h0
      rw [Addr.add_mid, Addr.add_mid] at hv
      rcases Nat.lt_or_ge gb w.heap.size with k | k
      · exact k
      · unfold World.cell? at hv
        simp [Array.getElem?_eq_none k] at hv
    refine ⟨gb, go, rfl, hb, cs, _, _, hcl, hd, fun j v hj => ?_⟩
    have hjl : j < cs.length := (List.getElem?_eq_some_iff.1 hj).1
    obtain ⟨v', hv', hw⟩ := hcell j (by omega)
    rw [hj] at hv'
    injection hv' with hv'
    subst hv'
    rw [Addr.add_mid, Addr.add_mid] at hw
    exact hw

theorem len12 {cs : List Value} (h : cs.length = 12) : ∃ c0 c1 c2 c3 c4 c5 c6 c7 c8 c9 c10 c11, cs = [c0, c1, c2, c3, c4, c5, c6, c7, c8, c9, c10, c11] := by
  match cs, h with
  | [c0, c1, c2, c3, c4, c5, c6, c7, c8, c9, c10, c11], _ => exact ⟨c0, c1, c2, c3, c4, c5, c6, c7, c8, c9, c10, c11, rfl⟩

/-- Bounds of an op that is handed in. -/
def OpO.Fits (o : OpO) : Prop := o.t.x.size ≤ maxLen ∧ o.l.s.size ≤ maxLen ∧ o.l.t.size ≤ maxLen ∧ o.s.s.size ≤ maxLen

set_option maxRecDepth 100000 in
theorem op_of {H : Type} {enc : TypeId × Value → H} {w : World} {spare : Nat → Bool} {held : Bool} {cs : List Value} {n : Nat} {y : DataW H × List MemPlace} (hl : cs.length = 12) (h : DataW.trod enc Tryz.prog w 0 spare held n 39 cs = some y) :
    ∃ o : OpO, o.Fits ∧ cs = o.cells.toList := by
  obtain ⟨c0, c1, c2, c3, c4, c5, c6, c7, c8, c9, c10, c11, rfl⟩ := len12 hl
  have lt1 : ∀ {m : Nat} {t : TypeId} {l : List Value} {x : Option (DataW H × List MemPlace)} {k : Nat} {ys : List (DataW H × List MemPlace)}, DataW.trod enc Tryz.prog w 0 spare held m t l = ys[k]? → k < ys.length → ∃ z, DataW.trod enc Tryz.prog w 0 spare held m t l = some z := fun h1 h2 => ⟨_, h1.trans (List.getElem?_eq_getElem h2)⟩
  obtain ⟨xs, k, _, _, _, hxl, hf⟩ := DataW.trod_struct Tryz.underlying39 h
  have hxl' : xs.length = 4 := hxl
  obtain ⟨z0, t0⟩ := lt1 (x := none) (hf 0 _ rfl) (by omega)
  obtain ⟨z1, t1⟩ := lt1 (x := none) (hf 1 _ rfl) (by omega)
  obtain ⟨z2, t2⟩ := lt1 (x := none) (hf 2 _ rfl) (by omega)
  obtain ⟨z3, t3⟩ := lt1 (x := none) (hf 3 _ rfl) (by omega)
  obtain ⟨as', ka, _, _, _, hal, ha⟩ := DataW.trod_struct Tryz.underlying33 (cs := [c1, c2, c3, c4]) t1
  obtain ⟨bs, kb, _, _, _, hbl, hb⟩ := DataW.trod_struct Tryz.underlying35 (cs := [c5, c6, c7, c8]) t2
  obtain ⟨ds, kd, _, _, _, hdl, hd⟩ := DataW.trod_struct Tryz.underlying37 (cs := [c9, c10, c11]) t3
  have hal' : as'.length = 4 := hal
  have hbl' : bs.length = 4 := hbl
  have hdl' : ds.length = 3 := hdl
  obtain ⟨_, a0⟩ := lt1 (x := none) (ha 0 _ rfl) (by omega)
  obtain ⟨_, a1⟩ := lt1 (x := none) (ha 1 _ rfl) (by omega)
  obtain ⟨_, a2⟩ := lt1 (x := none) (ha 2 _ rfl) (by omega)
  obtain ⟨_, a3⟩ := lt1 (x := none) (ha 3 _ rfl) (by omega)
  obtain ⟨_, b0⟩ := lt1 (x := none) (hb 0 _ rfl) (by omega)
  obtain ⟨_, b1⟩ := lt1 (x := none) (hb 1 _ rfl) (by omega)
  obtain ⟨_, b2⟩ := lt1 (x := none) (hb 2 _ rfl) (by omega)
  obtain ⟨_, b3⟩ := lt1 (x := none) (hb 3 _ rfl) (by omega)
  obtain ⟨_, d0⟩ := lt1 (x := none) (hd 0 _ rfl) (by omega)
  obtain ⟨_, d1⟩ := lt1 (x := none) (hd 1 _ rfl) (by omega)
  obtain ⟨_, d2⟩ := lt1 (x := none) (hd 2 _ rfl) (by omega)
  obtain ⟨k0, e0, _, _⟩ := DataW.trod_int Tryz.underlying3 (show DataW.trod enc Tryz.prog w 0 spare held _ 3 [c0] = _ from t0)
  obtain ⟨tk, e1, _, _⟩ := DataW.trod_int Tryz.underlying3 (show DataW.trod enc Tryz.prog w 0 spare held _ 3 [c1] = _ from a0)
  obtain ⟨ta, e2, _, _⟩ := DataW.trod_int Tryz.underlying3 (show DataW.trod enc Tryz.prog w 0 spare held _ 3 [c2] = _ from a1)
  obtain ⟨tx, e3, _, hx⟩ := DataW.trod_string Tryz.underlying9 (show DataW.trod enc Tryz.prog w 0 spare held _ 9 [c3] = _ from a2)
  obtain ⟨tn, e4, _, _⟩ := DataW.trod_int Tryz.underlying3 (show DataW.trod enc Tryz.prog w 0 spare held _ 3 [c4] = _ from a3)
  obtain ⟨lk, e5, _, _⟩ := DataW.trod_int Tryz.underlying3 (show DataW.trod enc Tryz.prog w 0 spare held _ 3 [c5] = _ from b0)
  obtain ⟨ls, e6, _, hs⟩ := DataW.trod_string Tryz.underlying9 (show DataW.trod enc Tryz.prog w 0 spare held _ 9 [c6] = _ from b1)
  obtain ⟨lt, e7, _, ht⟩ := DataW.trod_string Tryz.underlying9 (show DataW.trod enc Tryz.prog w 0 spare held _ 9 [c7] = _ from b2)
  obtain ⟨ln, e8, _, _⟩ := DataW.trod_int Tryz.underlying3 (show DataW.trod enc Tryz.prog w 0 spare held _ 3 [c8] = _ from b3)
  obtain ⟨sk, e9, _, _⟩ := DataW.trod_int Tryz.underlying3 (show DataW.trod enc Tryz.prog w 0 spare held _ 3 [c9] = _ from d0)
  obtain ⟨ss, e10, _, hss⟩ := DataW.trod_string Tryz.underlying9 (show DataW.trod enc Tryz.prog w 0 spare held _ 9 [c10] = _ from d1)
  obtain ⟨sn, e11, _, _⟩ := DataW.trod_int Tryz.underlying3 (show DataW.trod enc Tryz.prog w 0 spare held _ 3 [c11] = _ from d2)
  simp only [List.cons.injEq, and_true] at e0 e1 e2 e3 e4 e5 e6 e7 e8 e9 e10 e11
  subst e0; subst e1; subst e2; subst e3; subst e4; subst e5; subst e6; subst e7; subst e8; subst e9; subst e10; subst e11
  exact ⟨⟨k0, ⟨tk, ta, tx, tn⟩, ⟨lk, ls, lt, ln⟩, ⟨sk, ss, sn⟩⟩, ⟨hx, hs, ht, hss⟩, rfl⟩

end Go.Proofs.YtcdedkgkingbdaaGreatDoor.object
