/- Texts laid into one: Wf, PruAc. -/
import Derived.Test.YtdlkdgajoafkaaaGreatDoorY000
import Derived.ProofKit
import Derived.Test.YtdlkdgajoafkaaaGreatDoorY012
section
/- Integers that fit. Of no program. -/
namespace Go.Proofs.YtdlkdgajoafkaaaGreatDoor
open Go.ChangeShapes Go.WideShapes Go.ChangeAt Go.RowKit

theorem wf_i64 {y : Int} (h : (Lit.int .i64 y).wf = true) : -9223372036854775808 ≤ y ∧ y ≤ 9223372036854775807 := by
  have m0 : IntKind.i64.min = -9223372036854775808 := by decide
  have m1 : IntKind.i64.max = 9223372036854775807 := by decide
  have h' : (decide (IntKind.i64.min ≤ y) && decide (y ≤ IntKind.i64.max)) = true := h
  rw [m0, m1] at h'
  simpa using h'
end Go.Proofs.YtdlkdgajoafkaaaGreatDoor
end

section
/- law 12's acts that are handed in. -/
namespace Go.Proofs.YtdlkdgajoafkaaaGreatDoor.prn
open Go Go.ChangeShapes Go.WideShapes Go.ChangeAt Go.RowKit Go.Maps

/-- An act that is handed in. -/
structure Ap where
  kind : Int
  m : Int
  n : Int
  s : ByteArray
def Ap.Fits (x : Ap) : Prop := (-9223372036854775808 ≤ x.n ∧ x.n ≤ 9223372036854775807) ∧ x.s.size ≤ maxLen
theorem len4 {cs : List Value} (h : cs.length = 4) : ∃ c0 c1 c2 c3, cs = [c0, c1, c2, c3] := by
  match cs, h with
  | [c0, c1, c2, c3], _ => exact ⟨c0, c1, c2, c3, rfl⟩

set_option maxRecDepth 100000 in
theorem ap_of {H : Type} {enc : TypeId × Value → H} {w : World} {spare : Nat → Bool} {held : Bool} {cs : List Value} {n : Nat} {y : DataW H × List MemPlace} (hl : cs.length = 4) (h : DataW.trod enc Tryz.prog w 0 spare held n 32 cs = some y) :
    ∃ x : Ap, x.Fits ∧ cs = [.int .i64 x.kind, .int .i64 x.m, .int .i64 x.n, .string x.s] := by
  obtain ⟨c0, c1, c2, c3, rfl⟩ := len4 hl
  have lt1 : ∀ {m : Nat} {t : TypeId} {l : List Value} {k : Nat} {ys : List (DataW H × List MemPlace)}, DataW.trod enc Tryz.prog w 0 spare held m t l = ys[k]? → k < ys.length → ∃ z, DataW.trod enc Tryz.prog w 0 spare held m t l = some z := fun h1 h2 => ⟨_, h1.trans (List.getElem?_eq_getElem h2)⟩
  obtain ⟨xs, k, _, _, _, hxl, hf⟩ := DataW.trod_struct Tryz.underlying32 h
  have hxl' : xs.length = 4 := hxl
  obtain ⟨z0, t0⟩ := lt1 (hf 0 _ rfl) (by omega)
  obtain ⟨z1, t1⟩ := lt1 (hf 1 _ rfl) (by omega)
  obtain ⟨z2, t2⟩ := lt1 (hf 2 _ rfl) (by omega)
  obtain ⟨z3, t3⟩ := lt1 (hf 3 _ rfl) (by omega)
  obtain ⟨k0, e0, _, f0⟩ := DataW.trod_int Tryz.underlying3 (show DataW.trod enc Tryz.prog w 0 spare held _ 3 [c0] = _ from t0)
  obtain ⟨k1, e1, _, f1⟩ := DataW.trod_int Tryz.underlying3 (show DataW.trod enc Tryz.prog w 0 spare held _ 3 [c1] = _ from t1)
  obtain ⟨k2, e2, _, f2⟩ := DataW.trod_int Tryz.underlying3 (show DataW.trod enc Tryz.prog w 0 spare held _ 3 [c2] = _ from t2)
  obtain ⟨s3, e3, _, f3⟩ := DataW.trod_string Tryz.underlying9 (show DataW.trod enc Tryz.prog w 0 spare held _ 9 [c3] = _ from t3)
  simp only [List.cons.injEq, and_true] at e0 e1 e2 e3
  subst e0; subst e1; subst e2; subst e3
  exact ⟨⟨k0, k1, k2, s3⟩, ⟨wf_i64 f2, f3⟩, rfl⟩

/-- A slice of acts that is handed in. -/
def ArgP (w : World) (a : Option Addr) (len : Nat) (T : Nat → Ap) : Prop :=
  len ≤ maxLen ∧ ∀ i, i < len → ∃ b p, a = some ⟨b, p, none⟩ ∧ b < w.heap.size ∧ (T i).Fits ∧
    w.cell? ⟨b, p + i * 4, none⟩ = some (.int .i64 (T i).kind) ∧ w.cell? ⟨b, p + i * 4 + 1, none⟩ = some (.int .i64 (T i).m) ∧ w.cell? ⟨b, p + i * 4 + 2, none⟩ = some (.int .i64 (T i).n) ∧ w.cell? ⟨b, p + i * 4 + 3, none⟩ = some (.string (T i).s)

set_option maxRecDepth 100000 in
theorem openedP {H : Type} {enc : TypeId × Value → H} {w : World} {spare : Nat → Bool} {held : Bool} {a : Option Addr} {len cap : Nat} {d : DataW H} {p : List MemPlace} (h : DataW.Trod enc Tryz.prog w 0 spare held 22 (.slice a len cap) d p) : ∃ T, ArgP w a len T := by
  obtain ⟨h1, h2, h3⟩ := opened_raw (n0 := 4) Tryz.underlying22 (by kernel_rfl) (by decide) h
  have key : ∀ i, i < len → ∃ x : Ap, ∃ b p, a = some ⟨b, p, none⟩ ∧ b < w.heap.size ∧ x.Fits ∧
      w.cell? ⟨b, p + i * 4, none⟩ = some (.int .i64 x.kind) ∧ w.cell? ⟨b, p + i * 4 + 1, none⟩ = some (.int .i64 x.m) ∧ w.cell? ⟨b, p + i * 4 + 2, none⟩ = some (.int .i64 x.n) ∧ w.cell? ⟨b, p + i * 4 + 3, none⟩ = some (.string x.s) := fun i hi => by
    obtain ⟨b, q, e, hb, cs, n, y, hl, hd, hc⟩ := h3 i hi
    obtain ⟨x, hx, rfl⟩ := ap_of hl hd
    exact ⟨x, b, q, e, hb, hx, hc 0 _ rfl, hc 1 _ rfl, hc 2 _ rfl, hc 3 _ rfl⟩
  refine ⟨fun i => if hi : i < len then Classical.choose (key i hi) else ⟨0, 0, 0, ⟨#[]⟩⟩, Nat.le_trans h1 h2, fun i hi => ?_⟩
  have hs := Classical.choose_spec (key i hi)
  simp only [dif_pos hi]
  exact hs
theorem ArgP.at {w V : World} {a : Option Addr} {len : Nat} {T : Nat → Ap} (h : ArgP w a len T) (t : Below w.heap.size w V) {i : Nat} (hi : i < len) :
    ∃ b p, a = some ⟨b, p, none⟩ ∧ b < w.heap.size ∧ (T i).Fits ∧
      V.cell? ⟨b, p + i * 4, none⟩ = some (.int .i64 (T i).kind) ∧ V.cell? ⟨b, p + i * 4 + 1, none⟩ = some (.int .i64 (T i).m) ∧ V.cell? ⟨b, p + i * 4 + 2, none⟩ = some (.int .i64 (T i).n) ∧ V.cell? ⟨b, p + i * 4 + 3, none⟩ = some (.string (T i).s) := by
  obtain ⟨b, p, e, hb, hf, c0, c1, c2, c3⟩ := h.2 i hi
  have ht : ∀ q : Nat, V.cell? ⟨b, q, none⟩ = w.cell? ⟨b, q, none⟩ := fun q => by unfold World.cell?; rw [t.block b hb]
  exact ⟨b, p, e, hb, hf, (ht _).trans c0, (ht _).trans c1, (ht _).trans c2, (ht _).trans c3⟩
end Go.Proofs.YtdlkdgajoafkaaaGreatDoor.prn
end

