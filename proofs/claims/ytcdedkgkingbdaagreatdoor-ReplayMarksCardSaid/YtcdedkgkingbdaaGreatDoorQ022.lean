/- Texts laid into one: LedR, Open, LedS, LedT, LedU, LedVN, StoA. -/
import Derived.Test.YtcdedkgkingbdaaGreatDoorQ021
import Derived.Test.YtcdedkgkingbdaaGreatDoorQ010
import Derived.Test.YtcdedkgkingbdaaGreatDoorQ000
import Derived.Deep.Slices
import Derived.Deep.Fields
import Derived.ChangeSame
import Derived.ChangeSlices
import Derived.ProofKit
import Derived.OpenShut
import Derived.Deep.MidRow
import Derived.ChangeOld
import Derived.Test.YtcdedkgkingbdaaGreatDoorQ018
import Derived.Test.YtcdedkgkingbdaaGreatDoorQ020
section
/- ledger: what Few gives. -/
namespace Go.Proofs.YtcdedkgkingbdaaGreatDoor
open Go.RowKit Go.Maps

def few14 (s : ByteArray) : ByteArray := s.extract 0 14
theorem few14_size (s : ByteArray) : (few14 s).size ≤ 14 := by
  unfold few14
  rw [ByteArray.size_extract]
  omega

theorem cut14_any (s : ByteArray) (w : World) (hs : s.size ≤ maxLen) : Calls Tryz.prog 107 #[.string s, .int .i64 14] w fun en w' => en = .returned (.string (few14 s)) ∧ w = w' := cut_any s 14 w (by omega) hs

set_option maxRecDepth 100000 in
set_option maxHeartbeats 1000000 in
theorem lfew_calls (k n : Int) (s t : ByteArray) (w : World) (hs : s.size ≤ maxLen) (ht : t.size ≤ maxLen) :
    Calls Tryz.prog 65 #[.agg #[.int .i64 k, .string s, .string t, .int .i64 n]] w fun en w' => en = .returned (.agg #[.int .i64 k, .string (few14 s), .string (few14 t), .int .i64 n]) ∧ Below w.heap.size w w' := by
  have HS := fun W => Lib.hid (cut14_any s W hs)
  have HT := fun W => Lib.hid (cut14_any t W ht)
  clear hs ht
  go_enter Tryz.func65, Tryz.ntmps65
  go_wp2_with fail
  go_name_world W hW
  obtain ⟨p, ep⟩ : ∃ p, p = w.heap.size := ⟨_, rfl⟩
  have H1 : Hid (Has W p 35 #[.int .i64 k, .string s, .string t, .int .i64 n]) := by show Has _ _ _ _; rw [← hW, ep]; exact (Has.made _ _ _).alloc _
  have H2 : Hid (Has W (p + 1) 35 #[.int .i64 0, .string ⟨#[]⟩, .string ⟨#[]⟩, .int .i64 0]) := by show Has _ _ _ _; rw [← hW, ep]; exact made_at _ _ (by simp)
  have T0 : Hid (Turn (fun k => w.heap.size ≤ k) w W) := by show Turn _ _ _; rw [← hW]; exact ((Turn.refl _ _).alloc _).alloc _
  rw [← ep]
  have hq : Hid (w.heap.size ≤ p) := Nat.le_of_eq ep.symm
  have c1 : W.cell? ⟨p, 1, none⟩ = some (.string s) := H1.out.cell 1
  have c2 : W.cell? ⟨p, 2, none⟩ = some (.string t) := H1.out.cell 2
  have f1 : W.frozen? ⟨p, 1, none⟩ = false := H1.out.free 1
  have f2 : W.frozen? ⟨p, 2, none⟩ = false := H1.out.free 2
  clear hW ep
  go_wp2_with fail
  refine wp_region_quiet (fun V => Has V p 35 #[.int .i64 k, .string s, .string t, .int .i64 n]) [7, 9] (by kernel_rfl) ?_
  have hC : (fun V => Has V p 35 #[.int .i64 k, .string s, .string t, .int .i64 n]) W.drew := H1.out.drew
  clear c1 c2 f1 f2
  refine quiet_take 0 (some 3) (v := .pointer (some ⟨p, 1, none⟩)) rfl rfl (by kernel_rfl) (by kernel_rfl) (by kernel_rfl) (fun _ _ _ h => h) (by kernel_rfl) (by kernel_rfl) (by kernel_rfl) (fun V _ => by go_simp) hC ?_
  refine quiet_take 1 (some 4) (v := .string s) rfl rfl (by kernel_rfl) (by kernel_rfl) (by kernel_rfl) (fun _ _ _ h => h) (by kernel_rfl) (by kernel_rfl) (by kernel_rfl) (fun V hV => by have c1 := Has.cell hV 1; go_simp) hC ?_
  refine quiet_call 2 (some 5) (.string (few14 s)) rfl rfl (by kernel_rfl) (by kernel_rfl) (by kernel_rfl) (fun _ _ _ h => h) (by kernel_rfl) (by kernel_rfl) (by kernel_rfl) 107 Tryz.f107 Tryz.func107 (by kernel_rfl) (by kernel_rfl) _ _ rfl #[.string s, .int .i64 14] (by first | (simp [Act.eval]; done) | (simp [Act.eval, Act.put]; done)) (fun V _ => (HS V).out) hC ?_
  refine quiet_take 3 (some 6) (v := .pointer (some ⟨p, 2, none⟩)) rfl rfl (by kernel_rfl) (by kernel_rfl) (by kernel_rfl) (fun _ _ _ h => h) (by kernel_rfl) (by kernel_rfl) (by kernel_rfl) (fun V _ => by go_simp) hC ?_
  refine quiet_take 4 (some 7) (v := .string t) rfl rfl (by kernel_rfl) (by kernel_rfl) (by kernel_rfl) (fun _ _ _ h => h) (by kernel_rfl) (by kernel_rfl) (by kernel_rfl) (fun V hV => by have c1 := Has.cell hV 2; go_simp) hC ?_
  refine quiet_call 5 (some 8) (.string (few14 t)) rfl rfl (by kernel_rfl) (by kernel_rfl) (by kernel_rfl) (fun _ _ _ h => h) (by kernel_rfl) (by kernel_rfl) (by kernel_rfl) 107 Tryz.f107 Tryz.func107 (by kernel_rfl) (by kernel_rfl) _ _ rfl #[.string t, .int .i64 14] (by first | (simp [Act.eval]; done) | (simp [Act.eval, Act.put]; done)) (fun V _ => (HT V).out) hC ?_
  simp only [Act.put, List.setIfInBounds_toArray, List.set_cons_zero, List.set_cons_succ]
  refine quiet_one (i := 6) (by kernel_rfl) ?_
  refine wpOp_value (some 9) (v := .pointer (some ⟨p, 1, none⟩)) (w' := W.drew) rfl rfl (by kernel_rfl) (by go_simp) ⟨fun _ => hC, ?_⟩
  have f1 : W.frozen? ⟨p, 1, none⟩ = false := H1.out.free 1
  have f2 : W.frozen? ⟨p, 2, none⟩ = false := H1.out.free 2
  have k1 : W.cell? ⟨p, 1, none⟩ = some (.string s) := H1.out.cell 1
  have k2 : W.cell? ⟨p, 2, none⟩ = some (.string t) := H1.out.cell 2
  refine quiet_one (i := 7) (by kernel_rfl) ?_
  refine wpOp_skip (w' := (W.setCell ⟨p, 1, none⟩ (.string (few14 s))).drew) rfl rfl (by kernel_rfl) (by go_simp) ⟨(fun h => by cases h), ?_⟩
  refine quiet_one (i := 8) (by kernel_rfl) ?_
  refine wpOp_value (some 10) (v := .pointer (some ⟨p, 2, none⟩)) (w' := (W.setCell ⟨p, 1, none⟩ (.string (few14 s))).drew) rfl rfl (by kernel_rfl) (by go_simp) ⟨(fun h => by cases h), ?_⟩
  refine quiet_one (i := 9) (by kernel_rfl) ?_
  refine wpOp_skip (w' := ((W.setCell ⟨p, 1, none⟩ (.string (few14 s))).setCell ⟨p, 2, none⟩ (.string (few14 t))).drew) rfl rfl (by kernel_rfl) (by go_simp) ⟨(fun h => by cases h), ?_⟩
  refine quiet_done (by kernel_rfl) ?_ _
  have E1 : Hid (Has (((W.setCell ⟨p, 1, none⟩ (.string (few14 s))).setCell ⟨p, 2, none⟩ (.string (few14 t))).drew) p 35 #[.int .i64 k, .string (few14 s), .string (few14 t), .int .i64 n]) := by
    show Has _ _ _ _
    simpa using ((H1.out.put 1 (.string (few14 s))).put 2 (.string (few14 t))).drew
  have E2 : Hid (Has (((W.setCell ⟨p, 1, none⟩ (.string (few14 s))).setCell ⟨p, 2, none⟩ (.string (few14 t))).drew) (p + 1) 35 #[.int .i64 0, .string ⟨#[]⟩, .string ⟨#[]⟩, .int .i64 0]) := 
    ((H2.out.far (p := ⟨p, 1, none⟩) (Nat.succ_ne_self p) _).far (p := ⟨p, 2, none⟩) (Nat.succ_ne_self p) _).drew
  have T1 : Hid (Turn (fun k => w.heap.size ≤ k) w (((W.setCell ⟨p, 1, none⟩ (.string (few14 s))).setCell ⟨p, 2, none⟩ (.string (few14 t))).drew)) :=
    ((T0.out.put (fun h => by have := hq.out; omega) 1 _).put (fun h => by have := hq.out; omega) 2 _).drew
  generalize ((W.setCell ⟨p, 1, none⟩ (.string (few14 s))).setCell ⟨p, 2, none⟩ (.string (few14 t))).drew = W1 at *
  have x0 : W1.cell? ⟨p, 0, none⟩ = some (.int .i64 k) := E1.out.cell 0
  have x1 : W1.cell? ⟨p, 1, none⟩ = some (.string (few14 s)) := E1.out.cell 1
  have x2 : W1.cell? ⟨p, 2, none⟩ = some (.string (few14 t)) := E1.out.cell 2
  have x3 : W1.cell? ⟨p, 3, none⟩ = some (.int .i64 n) := E1.out.cell 3
  have y0 : W1.cell? ⟨p + 1, 0, none⟩ = some (.int .i64 0) := E2.out.cell 0
  have y1 : W1.cell? ⟨p + 1, 1, none⟩ = some (.string ⟨#[]⟩) := E2.out.cell 1
  have y2 : W1.cell? ⟨p + 1, 2, none⟩ = some (.string ⟨#[]⟩) := E2.out.cell 2
  have y3 : W1.cell? ⟨p + 1, 3, none⟩ = some (.int .i64 0) := E2.out.cell 3
  have z0 : W1.frozen? ⟨p + 1, 0, none⟩ = false := E2.out.free 0
  have z1 : W1.frozen? ⟨p + 1, 1, none⟩ = false := E2.out.free 1
  have z2 : W1.frozen? ⟨p + 1, 2, none⟩ = false := E2.out.free 2
  have z3 : W1.frozen? ⟨p + 1, 3, none⟩ = false := E2.out.free 3
  go_wp2_with fail
  have E3 : Has ((((W1.setCell ⟨p + 1, 0, none⟩ (.int .i64 k)).setCell ⟨p + 1, 1, none⟩ (.string (few14 s))).setCell ⟨p + 1, 2, none⟩ (.string (few14 t))).setCell ⟨p + 1, 3, none⟩ (.int .i64 n)) (p + 1) 35 #[.int .i64 k, .string (few14 s), .string (few14 t), .int .i64 n] := by
    simpa using (((E2.out.put 0 (.int .i64 k)).put 1 (.string (few14 s))).put 2 (.string (few14 t))).put 3 (.int .i64 n)
  have T3 : Hid (Turn (fun k => w.heap.size ≤ k) w ((((W1.setCell ⟨p + 1, 0, none⟩ (.int .i64 k)).setCell ⟨p + 1, 1, none⟩ (.string (few14 s))).setCell ⟨p + 1, 2, none⟩ (.string (few14 t))).setCell ⟨p + 1, 3, none⟩ (.int .i64 n))) :=
    (((T1.out.put (fun h => by have := hq.out; omega) _ _).put (fun h => by have := hq.out; omega) _ _).put (fun h => by have := hq.out; omega) _ _).put (fun h => by have := hq.out; omega) _ _
  generalize (((W1.setCell ⟨p + 1, 0, none⟩ (.int .i64 k)).setCell ⟨p + 1, 1, none⟩ (.string (few14 s))).setCell ⟨p + 1, 2, none⟩ (.string (few14 t))).setCell ⟨p + 1, 3, none⟩ (.int .i64 n) = W2 at *
  have w0 : W2.cell? ⟨p + 1, 0, none⟩ = some (.int .i64 k) := E3.cell 0
  have w1 : W2.cell? ⟨p + 1, 1, none⟩ = some (.string (few14 s)) := E3.cell 1
  have w2 : W2.cell? ⟨p + 1, 2, none⟩ = some (.string (few14 t)) := E3.cell 2
  have w3 : W2.cell? ⟨p + 1, 3, none⟩ = some (.int .i64 n) := E3.cell 3
  exact bodyPost_ret (v := .agg #[.int .i64 k, .string (few14 s), .string (few14 t), .int .i64 n]) (by simp [results, Tryz.results65, go_sem, w0, w1, w2, w3]) rfl ⟨rfl, turn_box T3.out⟩

end Go.Proofs.YtcdedkgkingbdaaGreatDoor
end

section
/- A slice of structs that is handed in: what stands in the cells of its elements. Of no program. -/
namespace Go.Proofs.YtcdedkgkingbdaaGreatDoor
open Go.ChangeShapes Go.WideShapes Go.ChangeAt Go.RowKit

end Go.Proofs.YtcdedkgkingbdaaGreatDoor
end

section
/- ledger: an op as a struct; slices of ops that are handed in; Do of any op at a book that was reached. -/
namespace Go.Proofs.YtcdedkgkingbdaaGreatDoor
open Go.ChangeShapes Go.WideShapes Go.ChangeAt Go.RowKit Go.Maps Go.Sort

/-- An op. -/
structure OpL where
  k : Int
  s : ByteArray
  t : ByteArray
  n : Int

def OpL.cells (o : OpL) : List Value := [.int .i64 o.k, .string o.s, .string o.t, .int .i64 o.n]
def OpL.val (o : OpL) : Value := .agg #[.int .i64 o.k, .string o.s, .string o.t, .int .i64 o.n]
def OpL.few (o : OpL) : OpL := ⟨o.k, few14 o.s, few14 o.t, o.n⟩
def OpL.inv (o : OpL) : OpL := ⟨invK o.k, invS o.k o.s o.t, invT o.k o.s, invN o.k o.n⟩
/-- Short names. -/
def OpL.Short (o : OpL) : Prop := o.s.size ≤ 14 ∧ o.t.size ≤ 14
theorem few_short (o : OpL) : o.few.Short := ⟨few14_size _, few14_size _⟩
section
variable {H : Type}
def doO (D : DataW H) (o : OpL) : DataW H × Int := doL D o.k o.s o.t o.n

theorem invF_doO {D : DataW H} (I : InvF D) (o : OpL) : InvF (doO D o).1 := invF_do I _ _ _ _

theorem bdo_any (d m : Nat) (D : DataW H) (o : OpL) (w : World) (h : Bk w d m D) (I : InvF D) (ho : o.Short) :
    Calls Tryz.prog 216 #[.pointer (some ⟨d, 0, none⟩), .agg #[.int .i64 o.k, .string o.s, .string o.t, .int .i64 o.n]] w fun en w' => DPost d m w (doO D o) en w' := by
  have h1 := I.small o.s
  have h2 := I.small o.t
  have h3 := I.inv.size
  have h4 := ho.1
  have h5 := ho.2
  exact bdo_calls d m D o.k o.n o.s o.t w h (by unfold maxLen; omega) (by unfold maxLen; omega) (by unfold maxLen; omega) (by omega) (by omega) (by omega) (by omega)

theorem doO_not {D : DataW H} {o : OpL} (h : ¬ (doO D o).2 = 0) : (doO D o).1 = D := do_not h
theorem doO_alike {D D' : DataW H} (a : Alike D D') (o : OpL) : ((doO D o).2 = 0 ↔ (doO D' o).2 = 0) ∧ Alike (doO D o).1 (doO D' o).1 := do_alike a _ _ _ _

end

/-- Two moves of the same names in one. -/
theorem lfew_any (o : OpL) (w : World) (hs : o.s.size ≤ maxLen) (ht : o.t.size ≤ maxLen) :
    Calls Tryz.prog 65 #[.agg #[.int .i64 o.k, .string o.s, .string o.t, .int .i64 o.n]] w fun en w' => en = .returned (.agg #[.int .i64 o.few.k, .string o.few.s, .string o.few.t, .int .i64 o.few.n]) ∧ Below w.heap.size w w' := lfew_calls o.k o.n o.s o.t w hs ht

end Go.Proofs.YtcdedkgkingbdaaGreatDoor
end

section
/- ledger: the laws' own awake answers true. -/
namespace Go.Proofs.YtcdedkgkingbdaaGreatDoor
open Go.RowKit Go.Maps Go.Sort

section
variable {H : Type}

end

end Go.Proofs.YtcdedkgkingbdaaGreatDoor
end

section
/- ledger: two moves in one (no program's walk); the play of any ops into one book. -/
namespace Go.Proofs.YtcdedkgkingbdaaGreatDoor
open Go.RowKit Go.Maps Go.Sort

section
variable {H : Type}

end

/-- A book that was reached, made since w. -/
structure Own1 (H : Type) (w : World) (d m : Nat) (D : DataW H) (V : World) : Prop where
  bk : Bk V d m D
  inv : InvF D
  newd : w.heap.size ≤ d
  newm : w.heap.size ≤ m
  turn : Turn (fun j => w.heap.size ≤ j) w V

section
variable {H : Type} {w V V' : World} {d m : Nat} {D D' : DataW H}
theorem Own1.more (h : Own1 H w d m D V) (t : Turn (fun j => V.heap.size ≤ j) V V') : Own1 H w d m D V' :=
  ⟨h.bk.turn t (Nat.not_le_of_lt h.bk.box.lt) (Nat.not_le_of_lt (World.ownsMap.lt h.bk.map)), h.inv, h.newd, h.newm, h.turn.trans t (fun _ _ e => Nat.le_trans h.turn.size e)⟩
theorem Own1.below (h : Own1 H w d m D V) (b : Below V.heap.size V V') : Own1 H w d m D V' := h.more (Turn.of_below b (fun _ _ e => e))
theorem Own1.did (h : Own1 H w d m D V) (e : Bk V' d m D') (f : InvF D') (g : V.grownBy V' (some m)) : Own1 H w d m D' V' :=
  ⟨e, f, h.newd, h.newm, h.turn.trans (Turn.of_grown (F := fun j => j = m) g rfl) (fun j _ e => by rw [e]; exact h.newm)⟩
/-- Another book has turned. -/
theorem Own1.far (h : Own1 H w d m D V) {d2 m2 : Nat} {D2 : DataW H} (h2 : Own1 H w d2 m2 D2 V) (hne : m ≠ m2) (g : V.grownBy V' (some m2)) : Own1 H w d m D V' :=
  ⟨h.bk.kept g (fun e => by injection e with e; exact h2.bk.map.ne h.bk.box e.symm) (fun e => by injection e with e; exact hne e), h.inv, h.newd, h.newm, h.turn.trans (Turn.of_grown (F := fun j => j = m2) g rfl) (fun j _ e => by rw [e]; exact h2.newm)⟩
theorem Own1.ends (h : Own1 H w d m D V) : Below w.heap.size w V := h.turn.below (Nat.le_refl _) (fun j hj e => by omega)
end

end Go.Proofs.YtcdedkgkingbdaaGreatDoor
end

section
/- Out of LedV: callsName. -/
namespace Go.Proofs.YtcdedkgkingbdaaGreatDoor
open Go.RowKit

theorem callsName {P : Program} {f : FuncId} {args : Array Value} {w : World} {R : Ending → World → Prop} (h : ∀ W, w = W → Calls P f args W R) : Calls P f args w R := h w rfl
end Go.Proofs.YtcdedkgkingbdaaGreatDoor
end

section
/- stock: a shelf whose map reads as D; what New, Count, add, take give. -/
namespace Go.Proofs.YtcdedkgkingbdaaGreatDoor.stock
open Go.RowKit Go.Maps Go.Sort

section
variable {H : Type}

/-- The shelf at block d, whose map is in block m. -/
structure Sk (w : World) (d m : Nat) (D : DataW H) : Prop where
  box : Has w d 242 #[.map (some m)]
  map : Mp w m D

theorem Sk.kept {w w' : World} {d m : Nat} {D : DataW H} {row : Option Nat} (h : Sk w d m D) (hg : w.grownBy w' row) (h1 : some d ≠ row) (h2 : some m ≠ row) : Sk w' d m D :=
  ⟨h.box.grown hg h1, h.map.kept hg h2⟩
theorem Sk.turned {w w' : World} {d m : Nat} {D D' : DataW H} {n : Nat} (h : Sk w d m D) (hm : w'.ownsMap Tryz.prog 9 (plainElem Tryz.prog 3) m n D') (ht : w.mapTurned w' m) : Sk w' d m D' :=
  ⟨h.box.grown ht.grown (fun e => h.map.ne h.box (by injection e with e; exact e.symm)), ownsMap_tight hm⟩
theorem Sk.turn {w w' : World} {d m : Nat} {D : DataW H} {F : Nat → Prop} (h : Sk w d m D) (t : Turn F w w') (hd : ¬ F d) (hm : ¬ F m) : Sk w' d m D := ⟨h.box.turn t hd, h.map.turn t hm⟩
theorem Sk.more {w w' : World} {d m : Nat} {D : DataW H} (h : Sk w d m D) (hb : Below w.heap.size w w') : Sk w' d m D :=
  h.kept (below_any hb none) (by simp) (by simp)

/-- add, take of the program: the map, the error. -/
def adS (D : DataW H) (s : ByteArray) (n : Int) : DataW H × Int :=
  if isIn D s = false ∧ 16 ≤ Maps.size D then (D, 7) else if 1099511627776 < amt D s + n then (D, 10) else (D.put (kS s) (nI (amt D s + n)), 0)
def tkS (D : DataW H) (s : ByteArray) (n : Int) : DataW H × Int :=
  if isIn D s = false then (D, 8) else if amt D s < n then (D, 11) else if amt D s = n then (D.del (kS s), 0) else (D.put (kS s) (nI (amt D s - n)), 0)

def SPost (d m : Nat) (w : World) (r : DataW H × Int) (en : Ending) (w' : World) : Prop :=
  en = .returned (.int .i64 r.2) ∧ Sk w' d m r.1 ∧ w.grownBy w' (some m)

set_option maxRecDepth 100000 in
set_option maxHeartbeats 1000000 in
theorem sadd_calls (d m : Nat) (D : DataW H) (s : ByteArray) (n : Int) (w : World) (h : Sk w d m D) (hs : s.size ≤ maxLen) (hD : Maps.size D < maxLen)
    (hn : 0 ≤ n) (hn' : n ≤ 1099511627776) (ha : 0 ≤ amt D s) (ha' : amt D s ≤ 1099511627776) :
    Calls Tryz.prog 245 #[.pointer (some ⟨d, 0, none⟩), .string s, .int .i64 n] w fun en w' => SPost d m w (adS D s n) en w' := by
  have hkey := kS_of hs
  have c0 : w.cell? ⟨d, 0, none⟩ = some (.map (some m)) := h.box.cell 0
  have hown : w.ownsMap Tryz.prog 9 (plainElem Tryz.prog 3) m (Maps.size D) D := h.map
  have B := Lib.hid h
  have hlen := hown.len Tryz.underlying238 3
  have hw1 : (Lit.int .i64 (amt D s + n)).wf = true := wf64 (by omega) (by omega)
  obtain ⟨w1, hrun1, hown1, hturn1⟩ := hown.store strKeyed Tryz.underlying238 hD hkey (plainElem_int Tryz.underlying3 hw1)
  have B1 := Lib.hid (B.out.turned hown1 hturn1)
  have G1 := Lib.hid hturn1.grown
  generalize h1 : amt D s = a at *
  have H1 := Lib.hid h1
  clear h hs hown1 hturn1 hw1 h1
  cases hi : isIn D s
  · have hi' : Maps.has D (kS s) = false := hi
    by_cases h2 : 16 ≤ Maps.size D
    · have E : Hid (adS D s n = (D, 7)) := if_pos ⟨hi, h2⟩
      have h2' : (16 : Int) ≤ (Maps.size D : Int) := by omega
      clear hi h2
      go_enter Tryz.func245, Tryz.ntmps245
      go_wp2_with (first
        | (at_lookup; refine wpList_lookup_own_ok_int _ rfl _ _ 238 rfl 9 3 .i64 strKeyed Tryz.underlying238 Tryz.underlying3 (zeroInt _) m (Maps.size D) D rfl hown _ _ rfl hkey ?_; intro c hat hwc)
        | fail)
      go_ret
      rw [E.out]
      exact ⟨rfl, B.out, grown_refl w _⟩
    · have h2' : (Maps.size D : Int) < (16 : Int) := by omega
      have hno : ¬ (isIn D s = false ∧ 16 ≤ Maps.size D) := fun e => h2 e.2
      by_cases h3 : 1099511627776 < a + n
      · have E : Hid (adS D s n = (D, 10)) := by show _ = _; unfold adS; rw [if_neg hno, H1.out, if_pos h3]
        clear hi h2 hno
        go_enter Tryz.func245, Tryz.ntmps245
        go_wp2_with (first
          | (at_lookup; refine wpList_lookup_own_ok_int _ rfl _ _ 238 rfl 9 3 .i64 strKeyed Tryz.underlying238 Tryz.underlying3 (zeroInt _) m (Maps.size D) D rfl hown _ _ rfl hkey ?_; intro c hat hwc; obtain rfl : c = a := (amt_of hat).symm.trans H1.out)
            | fail)
        go_ret
        rw [E.out]
        exact ⟨rfl, B.out, grown_refl w _⟩
      · have E : Hid (adS D s n = (D.put (kS s) (nI (a + n)), 0)) := by show _ = _; unfold adS; rw [if_neg hno, H1.out, if_neg h3]
        have h3' : a + n ≤ 1099511627776 := by omega
        clear hi h2 hno h3
        go_enter Tryz.func245, Tryz.ntmps245
        go_wp2_with (first
          | (at_lookup; refine wpList_lookup_own_ok_int _ rfl _ _ 238 rfl 9 3 .i64 strKeyed Tryz.underlying238 Tryz.underlying3 (zeroInt _) m (Maps.size D) D rfl hown _ _ rfl hkey ?_; intro c hat hwc; obtain rfl : c = a := (amt_of hat).symm.trans H1.out)
            | fail)
        go_ret
        rw [E.out]
        exact ⟨rfl, B1.out, G1.out⟩
  · have hi' : Maps.has D (kS s) = true := hi
    have hno : ¬ (isIn D s = false ∧ 16 ≤ Maps.size D) := fun e => by rw [hi] at e; exact absurd e.1 (by decide)
    by_cases h3 : 1099511627776 < a + n
    · have E : Hid (adS D s n = (D, 10)) := by show _ = _; unfold adS; rw [if_neg hno, H1.out, if_pos h3]
      clear hi hno
      go_enter Tryz.func245, Tryz.ntmps245
      go_wp2_with (first
        | (at_lookup; refine wpList_lookup_own_ok_int _ rfl _ _ 238 rfl 9 3 .i64 strKeyed Tryz.underlying238 Tryz.underlying3 (zeroInt _) m (Maps.size D) D rfl hown _ _ rfl hkey ?_; intro c hat hwc; obtain rfl : c = a := (amt_of hat).symm.trans H1.out)
        | fail)
      go_ret
      rw [E.out]
      exact ⟨rfl, B.out, grown_refl w _⟩
    · have E : Hid (adS D s n = (D.put (kS s) (nI (a + n)), 0)) := by show _ = _; unfold adS; rw [if_neg hno, H1.out, if_neg h3]
      have h3' : a + n ≤ 1099511627776 := by omega
      clear hi hno h3
      go_enter Tryz.func245, Tryz.ntmps245
      go_wp2_with (first
        | (at_lookup; refine wpList_lookup_own_ok_int _ rfl _ _ 238 rfl 9 3 .i64 strKeyed Tryz.underlying238 Tryz.underlying3 (zeroInt _) m (Maps.size D) D rfl hown _ _ rfl hkey ?_; intro c hat hwc; obtain rfl : c = a := (amt_of hat).symm.trans H1.out)
        | fail)
      go_ret
      rw [E.out]
      exact ⟨rfl, B1.out, G1.out⟩

set_option maxRecDepth 100000 in
set_option maxHeartbeats 1000000 in
theorem stake_calls (d m : Nat) (D : DataW H) (s : ByteArray) (n : Int) (w : World) (h : Sk w d m D) (hs : s.size ≤ maxLen) (hD : Maps.size D < maxLen)
    (hn : 0 ≤ n) (hn' : n ≤ 1099511627776) (ha : 0 ≤ amt D s) (ha' : amt D s ≤ 1099511627776) :
    Calls Tryz.prog 246 #[.pointer (some ⟨d, 0, none⟩), .string s, .int .i64 n] w fun en w' => SPost d m w (tkS D s n) en w' := by
  have hkey := kS_of hs
  have c0 : w.cell? ⟨d, 0, none⟩ = some (.map (some m)) := h.box.cell 0
  have hown : w.ownsMap Tryz.prog 9 (plainElem Tryz.prog 3) m (Maps.size D) D := h.map
  have B := Lib.hid h
  have hw1 : (Lit.int .i64 (amt D s - n)).wf = true := wf64 (by omega) (by omega)
  obtain ⟨w1, hrun1, hown1, hturn1⟩ := hown.store strKeyed Tryz.underlying238 hD hkey (plainElem_int Tryz.underlying3 hw1)
  have B1 := Lib.hid (B.out.turned hown1 hturn1)
  have G1 := Lib.hid hturn1.grown
  generalize h1 : amt D s = a at *
  have H1 := Lib.hid h1
  clear h hs hown1 hturn1 hw1 h1
  cases hi : isIn D s
  · have hi' : Maps.has D (kS s) = false := hi
    have E : Hid (tkS D s n = (D, 8)) := if_pos hi
    clear hi
    go_enter Tryz.func246, Tryz.ntmps246
    go_wp2_with (first
      | (at_lookup; refine wpList_lookup_own_ok_int _ rfl _ _ 238 rfl 9 3 .i64 strKeyed Tryz.underlying238 Tryz.underlying3 (zeroInt _) m (Maps.size D) D rfl hown _ _ rfl hkey ?_; intro c hat hwc)
      | go_in)
    go_ret
    rw [E.out]
    exact ⟨rfl, B.out, grown_refl w _⟩
  · have hi' : Maps.has D (kS s) = true := hi
    have hno : ¬ (isIn D s = false) := fun e => by rw [hi] at e; exact absurd e (by decide)
    by_cases h2 : a < n
    · have E : Hid (tkS D s n = (D, 11)) := by show _ = _; unfold tkS; rw [if_neg hno, H1.out, if_pos h2]
      clear hi hno
      go_enter Tryz.func246, Tryz.ntmps246
      go_wp2_with (first
        | (at_lookup; refine wpList_lookup_own_ok_int _ rfl _ _ 238 rfl 9 3 .i64 strKeyed Tryz.underlying238 Tryz.underlying3 (zeroInt _) m (Maps.size D) D rfl hown _ _ rfl hkey ?_; intro c hat hwc; obtain rfl : c = a := (amt_of hat).symm.trans H1.out)
        | go_in)
      go_ret
      rw [E.out]
      exact ⟨rfl, B.out, grown_refl w _⟩
    · have h2' : n ≤ a := by omega
      by_cases h3 : a = n
      · have E : Hid (tkS D s n = (D.del (kS s), 0)) := by show _ = _; unfold tkS; rw [if_neg hno, H1.out, if_neg h2, if_pos h3]
        subst h3
        clear hi hno h2 hrun1 B1 G1
        go_enter Tryz.func246, Tryz.ntmps246
        go_wp2_with (first
          | (at_lookup; refine wpList_lookup_own_ok_int _ rfl _ _ 238 rfl 9 3 .i64 strKeyed Tryz.underlying238 Tryz.underlying3 (zeroInt _) m (Maps.size D) D rfl hown _ _ rfl hkey ?_; intro c hat hwc; obtain rfl : a = c := H1.out.symm.trans (amt_of hat))
          | (at_delete; refine wpList_delete_own _ rfl _ _ 238 9 rfl 3 strKeyed Tryz.underlying238 _ m (Maps.size D) D rfl hown _ _ rfl hkey ?_; intro w2 hown2 hturn2)
          | go_in)
        go_ret
        rw [E.out]
        exact ⟨rfl, B.out.turned hown2 hturn2, hturn2.grown⟩
      · have E : Hid (tkS D s n = (D.put (kS s) (nI (a - n)), 0)) := by show _ = _; unfold tkS; rw [if_neg hno, H1.out, if_neg h2, if_neg h3]
        have h3' : (a == n) = false := by simpa using h3
        clear hi hno h2 h3
        go_enter Tryz.func246, Tryz.ntmps246
        go_wp2_with (first
          | (at_lookup; refine wpList_lookup_own_ok_int _ rfl _ _ 238 rfl 9 3 .i64 strKeyed Tryz.underlying238 Tryz.underlying3 (zeroInt _) m (Maps.size D) D rfl hown _ _ rfl hkey ?_; intro c hat hwc; obtain rfl : c = a := (amt_of hat).symm.trans H1.out)
          | fail)
        go_ret
        rw [E.out]
        exact ⟨rfl, B1.out, G1.out⟩

def SNewPost (H : Type) (w : World) (en : Ending) (w' : World) : Prop :=
  ∃ d m, en = .returned (.pointer (some ⟨d, 0, none⟩)) ∧ Sk (H := H) w' d m (.map []) ∧ Below w.heap.size w w' ∧ w.heap.size ≤ d ∧ w.heap.size ≤ m

set_option maxRecDepth 100000 in
set_option maxHeartbeats 400000 in
theorem snew_calls (w : World) : Calls Tryz.prog 88 #[] w fun en w' => SNewPost H w en w' := by
  have hrun0 := run_makeMap (P := Tryz.prog) 238 w
  have hown := World.ownsMap_made (H := H) w Tryz.prog 9 (plainElem Tryz.prog 3)
  go_enter Tryz.func88, Tryz.ntmps88
  go_wp2_with fail
  go_ret
  refine ⟨w.heap.size + 1, w.heap.size, rfl, ⟨made_at _ _ (by simp), (show Mp _ _ (DataW.map []) from ownsMap_tight hown).alloc _⟩, ?_, by omega, Nat.le_refl _⟩
  exact ((Below.refl w.heap.size w).alloc (Nat.le_refl _) _).alloc (by simp) _

end
end Go.Proofs.YtcdedkgkingbdaaGreatDoor.stock
end

