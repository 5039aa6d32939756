/- Texts laid into one: TopB, TopC. -/
import Derived.Test.YtcdedkgkingbdaaGreatDoorQ044
import Derived.Test.YtcdedkgkingbdaaGreatDoorQ014
import Derived.Test.YtcdedkgkingbdaaGreatDoorQ005
import Derived.Test.YtcdedkgkingbdaaGreatDoorQ006
import Derived.Test.YtcdedkgkingbdaaGreatDoorQ043
import Derived.Test.YtcdedkgkingbdaaGreatDoorQ012
import Derived.Test.YtcdedkgkingbdaaGreatDoorQ000
section
/- hindsighttop: live, up to what is looked at. -/
namespace Go.Proofs.YtcdedkgkingbdaaGreatDoor.rep
open Go Go.RowKit Go.Maps Go.Proofs.YtcdedkgkingbdaaGreatDoor.object Go.Proofs.YtcdedkgkingbdaaGreatDoor.prn Go.Proofs.YtcdedkgkingbdaaGreatDoor.tws

theorem exec_eql {P : Program} {ev : Operand → Value} {o : Oper} (ty : TypeId) (x y : Operand) {z : TypeId} (ho : o.op = .binOp .eql ty x y z) {a b v : Value} (hx : ev x = a) (hy : ev y = b) {V : World} (hq : (eqGuard .eql ty x y a b).run P V = .ok () V) (h : (binOp .eql ty a b).run P V = .ok v V) : (execOp ev o).run P V = .ok (.value v) V := by
  simp [execOp, ho, hx, hy, hq, h, Result.andThen]

set_option maxRecDepth 100000 in
set_option maxHeartbeats 4000000 in
theorem live_calls (w : World) (hP : dig.Rt w.heap.size w) : Calls Tryz.prog 26 #[] w fun en w' => en = .returned (.bool true) ∧ Below w.heap.size w w' := by
  have HP := Lib.hid hP
  have hfd : ∀ (e : Int) (g : ByteArray) (w' : World), (Instr.field 57 (.agg #[.int .i64 e, .string g]) 0).run Tryz.prog w' = .ok (.int .i64 e) w' := fun _ _ _ => rfl
  clear hP
  go_enter Tryz.func26, Tryz.ntmps26
  go_wp2_with fail
  refine (lw_new w w (Below.refl _ _) HP.out 3 (.inr (.inr rfl))).mono ?_
  rintro en w1 ⟨b, rfl, _, l1⟩
  have L1 := Lib.hid l1
  clear l1
  go_wp2_with fail
  refine (adds_calls nutS 2 w1).mono ?_
  rintro en w2 ⟨rfl, b2⟩
  have L2 := Lib.hid (L1.out.below b2)
  clear L1 b2
  go_wp2_with fail
  refine (L2.out.did (o := addO nutS 2) nut_short (by decide) nut_good act_nut).mono ?_
  rintro en w3 ⟨⟨g3, rfl⟩, l3⟩
  have L3 := Lib.hid (show Lw w w3 b 3 [⟨addO nutS 2, 0⟩] 0 from l3)
  obtain ⟨vb, F1, cv, hva, _⟩ := L3.out.1.vault
  rw [show texts [(⟨addO nutS 2, 0⟩ : Cm)] = [⟨#[0, 3, 1, 3, 110, 117, 116, 2]⟩] by unfold texts; rw [List.map_cons, List.map_nil, nut_text]] at hva
  have HLE : Hid (Calls Tryz.prog 15 #[.pointer (some ⟨vb, 0, none⟩)] w3 fun en w' => en = .returned (.int .i64 1) ∧ w3 = w') := Lib.hid hva.len_calls
  have HHD := Lib.hid (hva.head (by decide) 1 (by decide) (by decide))
  clear L2 l3 hva
  go_wp2_with fail
  refine HLE.out.mono ?_
  rintro en w4 ⟨rfl, rfl⟩
  go_wp2_with fail
  refine HHD.out.mono ?_
  rintro en w5 ⟨rfl, b5⟩
  have L5 := Lib.hid (L3.out.below b5)
  obtain ⟨R, hR⟩ : ∃ R, R = dig.rtAll (dig.leafF [(⟨#[0, 3, 1, 3, 110, 117, 116, 2]⟩ : ByteArray)]) 1 := ⟨_, rfl⟩
  have hRL : R.length = 32 := by rw [hR]; exact dig.rtAll_len (dig.leafF_len _) 1
  rw [← hR]
  have HRR := Lib.hid hR
  have HRL := Lib.hid hRL
  have hall : (prf.headC 1 R).all (·.oneCell') = true := by
    unfold prf.headC
    simp [Value.oneCell']
    intro x _
    rfl
  have hsz : (prf.headC 1 R).size = 33 := by rw [prf.headC_size, hRL]
  have HAL := Lib.hid (And.intro hall hsz)
  clear L3 HHD HLE cv b5 hR hRL hall hsz
  go_wp2_with (first
    | ((with_reducible refine at_store (.tmp 2) ?_); refine wpList_store_all (o := ⟨none, _, _, _, _, _⟩) rfl 86 (.tmp 2) (.tmp 28) rfl w5.heap.size (prf.headC 1 R) (prf.headC 0 (List.replicate 32 0)) rfl rfl _ (made_at _ _ rfl) (by rw [HAL.out.2]; kernel_rfl) (by rw [HAL.out.2]; kernel_rfl) HAL.out.1 ?_; intro Wb HWb TWb)
    | fail)
  have HW5 : Hid (Has Wb w5.heap.size 86 (prf.headC 1 R) ∧ Below w.heap.size w Wb) := Lib.hid ⟨HWb, (L5.out.2.trans (((Below.refl _ _).alloc (Nat.le_refl _) _).mono L5.out.2.size)).trans (TWb.below (by have := L5.out.2.size; simp; omega) (fun j hj e => by have := L5.out.2.size; omega))⟩
  obtain ⟨g, hg⟩ : ∃ g, g = w5.heap.size := ⟨_, rfl⟩
  rw [← hg] at HW5 ⊢
  clear HWb TWb L5 hg HAL
  have HLF : Hid (R = dig.leafS [0, 3, 1, 3, 110, 117, 116, 2]) := Lib.hid (by rw [HRR.out]; kernel_rfl)
  have HEQ : Hid (∀ V : World, (binOp .eql 84 (.agg (cellsOf R)) (.agg (cellsOf R))).run Tryz.prog V = .ok (.bool true) V) := Lib.hid fun V => dig.run_eql_same R HRL.out V
  have HX : Hid (dig.hex (dig.sum []) = [101, 51, 98, 48, 99, 52, 52, 50, 57, 56, 102, 99, 49, 99, 49, 52, 57, 97, 102, 98, 102, 52, 99, 56, 57, 57, 54, 102, 98, 57, 50, 52, 50, 55, 97, 101, 52, 49, 101, 52, 54, 52, 57, 98, 57, 51, 52, 99, 97, 52, 57, 53, 57, 57, 49, 98, 55, 56, 53, 50, 98, 56, 53, 53]) := Lib.hid (by kernel_rfl)
  obtain ⟨V, hV⟩ : ∃ V, V = Wb.drew := ⟨_, rfl⟩
  refine wp_region_heldV (fun V => Has V g 86 (prf.headC 1 R) ∧ Below w.heap.size w V) V hV (by kernel_rfl) ?_
  have S0 : Has V g 86 (prf.headC 1 R) ∧ Below w.heap.size w V := by rw [hV]; exact ⟨HW5.out.1.drew, HW5.out.2.drew⟩
  clear hV HW5
  refine held_take 0 (some 30) (v := .nilIface) rfl rfl (by kernel_rfl) (by kernel_rfl) (by kernel_rfl) (fun _ _ _ h => h) (.inl ⟨by kernel_rfl, fun V hV => by rfl⟩) S0 ?_
  simp only [Act.put, List.setIfInBounds_toArray, List.set_cons_zero, List.set_cons_succ]
  refine held_take 1 (some 31) (v := .bool true) rfl rfl (by kernel_rfl) (by kernel_rfl) (by kernel_rfl) (fun _ _ _ h => h) (.inl ⟨by kernel_rfl, fun V hV => by go_simp⟩) S0 ?_
  simp only [Act.put, List.setIfInBounds_toArray, List.set_cons_zero, List.set_cons_succ]
  refine held_take 2 (some 32) (v := .bool true) rfl rfl (by kernel_rfl) (by kernel_rfl) (by kernel_rfl) (fun _ _ _ h => h) (.inl ⟨by kernel_rfl, fun V hV => by go_simp⟩) S0 ?_
  simp only [Act.put, List.setIfInBounds_toArray, List.set_cons_zero, List.set_cons_succ]
  refine held_take 3 (some 33) (v := .pointer (some ⟨g, 1, none⟩)) rfl rfl (by kernel_rfl) (by kernel_rfl) (by kernel_rfl) (fun _ _ _ h => h) (.inl ⟨by kernel_rfl, fun V hV => by go_simp⟩) S0 ?_
  simp only [Act.put, List.setIfInBounds_toArray, List.set_cons_zero, List.set_cons_succ]
  refine held_take 4 (some 34) (v := .agg (cellsOf R)) rfl rfl (by kernel_rfl) (by kernel_rfl) (by kernel_rfl) (fun _ _ _ h => h) (.inl ⟨by kernel_rfl, fun V hV => by exact dig.exec_load 84 (.tmp 33) rfl (.pointer (some ⟨g, 1, none⟩)) rfl (prf.Has.load_root hV.1 HRL.out)⟩) S0 ?_
  simp only [Act.put, List.setIfInBounds_toArray, List.set_cons_zero, List.set_cons_succ]
  refine held_one (i := 5) (by kernel_rfl) ?_
  refine wpOp_call (some 35) rfl rfl (by kernel_rfl) 70 Tryz.f70 Tryz.func70 (by kernel_rfl) (by kernel_rfl) _ _ rfl #[.string ⟨#[0, 3, 1, 3, 110, 117, 116, 2]⟩] (by first | (simp [Act.eval]; done) | (simp [Act.eval, Act.put]; done)) (dig.leaf_calls _ _ (HP.out.below S0.2 (Nat.le_refl _)).rk (by decide)) ?_
  rintro en w6 ⟨rfl, b6⟩
  have S1 : Has w6 g 86 (prf.headC 1 R) ∧ Below w.heap.size w w6 := ⟨S0.1.below b6 S0.1.lt, S0.2.trans (b6.mono S0.2.size)⟩
  rw [show dig.leafS (⟨#[0, 3, 1, 3, 110, 117, 116, 2]⟩ : ByteArray).data.toList = R from HLF.out.symm]
  clear b6 S0
  refine ⟨.agg (cellsOf R), rfl, S1, ?_⟩
  simp only [Act.put, List.setIfInBounds_toArray, List.set_cons_zero, List.set_cons_succ]
  refine held_take 6 (some 36) (v := .bool true) rfl rfl (by kernel_rfl) (by kernel_rfl) (by kernel_rfl) (fun _ _ _ h => h) (.inl ⟨by kernel_rfl, fun V hV => by exact exec_eql 84 (.tmp 34) (.tmp 35) rfl rfl rfl rfl (HEQ.out V)⟩) S1 ?_
  simp only [Act.put, List.setIfInBounds_toArray, List.set_cons_zero, List.set_cons_succ]
  refine held_take 7 (some 37) (v := .bool true) rfl rfl (by kernel_rfl) (by kernel_rfl) (by kernel_rfl) (fun _ _ _ h => h) (.inl ⟨by kernel_rfl, fun V hV => by go_simp⟩) S1 ?_
  simp only [Act.put, List.setIfInBounds_toArray, List.set_cons_zero, List.set_cons_succ]
  refine held_take 8 (some 38) (v := .bool true) rfl rfl (by kernel_rfl) (by kernel_rfl) (by kernel_rfl) (fun _ _ _ h => h) (.inl ⟨by kernel_rfl, fun V hV => by go_simp⟩) S1 ?_
  simp only [Act.put, List.setIfInBounds_toArray, List.set_cons_zero, List.set_cons_succ]
  refine held_one (i := 9) (by kernel_rfl) ?_
  refine wpOp_call (some 39) rfl rfl (by kernel_rfl) 72 Tryz.f72 Tryz.func72 (by kernel_rfl) (by kernel_rfl) _ _ rfl #[.string ⟨#[]⟩] (by first | (simp [Act.eval]; done) | (simp [Act.eval, Act.put]; done)) (dig.of_calls _ _ (HP.out.below S1.2 (Nat.le_refl _)).rk (by decide)) ?_
  rintro en w7 ⟨rfl, b7⟩
  have S2 : Has w7 g 86 (prf.headC 1 R) ∧ Below w.heap.size w w7 := ⟨S1.1.below b7 S1.1.lt, S1.2.trans (b7.mono S1.2.size)⟩
  clear b7 S1
  refine ⟨.agg (cellsOf (dig.sum [])), rfl, S2, ?_⟩
  simp only [Act.put, List.setIfInBounds_toArray, List.set_cons_zero, List.set_cons_succ]
  refine held_one (i := 10) (by kernel_rfl) ?_
  refine wpOp_call (some 40) rfl rfl (by kernel_rfl) 71 Tryz.f71 Tryz.func71 (by kernel_rfl) (by kernel_rfl) _ _ rfl #[.agg (cellsOf (dig.sum []))] (by first | (simp [Act.eval]; done) | (simp [Act.eval, Act.put]; done)) (dig.hex_calls (dig.sum []) (dig.sum_length _) _) ?_
  rintro en w8 ⟨rfl, b8⟩
  have S3 : Has w8 g 86 (prf.headC 1 R) ∧ Below w.heap.size w w8 := ⟨S2.1.below b8 S2.1.lt, S2.2.trans (b8.mono S2.2.size)⟩
  rw [HX.out]
  clear b8 S2
  refine ⟨.string ⟨#[101, 51, 98, 48, 99, 52, 52, 50, 57, 56, 102, 99, 49, 99, 49, 52, 57, 97, 102, 98, 102, 52, 99, 56, 57, 57, 54, 102, 98, 57, 50, 52, 50, 55, 97, 101, 52, 49, 101, 52, 54, 52, 57, 98, 57, 51, 52, 99, 97, 52, 57, 53, 57, 57, 49, 98, 55, 56, 53, 50, 98, 56, 53, 53]⟩, rfl, S3, ?_⟩
  simp only [Act.put, List.setIfInBounds_toArray, List.set_cons_zero, List.set_cons_succ]
  refine held_take 11 (some 41) (v := .string ⟨#[101, 51, 98, 48, 99, 52, 52, 50]⟩) rfl rfl (by kernel_rfl) (by kernel_rfl) (by kernel_rfl) (fun _ _ _ h => h) (.inl ⟨by kernel_rfl, fun V hV => by go_simp; try rfl⟩) S3 ?_
  simp only [Act.put, List.setIfInBounds_toArray, List.set_cons_zero, List.set_cons_succ]
  refine held_take 12 (some 42) (v := .bool true) rfl rfl (by kernel_rfl) (by kernel_rfl) (by kernel_rfl) (fun _ _ _ h => h) (.inl ⟨by kernel_rfl, fun V hV => by go_simp⟩) S3 ?_
  simp only [Act.put, List.setIfInBounds_toArray, List.set_cons_zero, List.set_cons_succ]
  refine held_take 13 (some 43) (v := .bool true) rfl rfl (by kernel_rfl) (by kernel_rfl) (by kernel_rfl) (fun _ _ _ h => h) (.inl ⟨by kernel_rfl, fun V hV => by go_simp⟩) S3 ?_
  simp only [Act.put, List.setIfInBounds_toArray, List.set_cons_zero, List.set_cons_succ]
  refine held_take 14 (some 0) (v := .bool true) rfl rfl (by kernel_rfl) (by kernel_rfl) (by kernel_rfl) (fun _ _ _ h => h) (.inl ⟨by kernel_rfl, fun V hV => by go_simp⟩) S3 ?_
  simp only [Act.put, List.setIfInBounds_toArray, List.set_cons_zero]
  refine wpAnyH_done (by kernel_rfl) ?_ _
  go_wp2_with fail
  go_ret
  exact ⟨rfl, S3.2⟩
end Go.Proofs.YtcdedkgkingbdaaGreatDoor.rep
end

section
/- hindsighttop: line: a line of ops that were done; the object behind each. -/
namespace Go.Proofs.YtcdedkgkingbdaaGreatDoor.rep
open Go Go.RowKit Go.Maps Go.Proofs.YtcdedkgkingbdaaGreatDoor.object Go.Proofs.YtcdedkgkingbdaaGreatDoor.prn Go.Proofs.YtcdedkgkingbdaaGreatDoor.tws

theorem few_parts2 (o : OpO) (ho : o.Fits) : ∃ ok tk ta tx tn lk ls lt ln sk ss sn, (OpO.Short ⟨ok, ⟨tk, ta, tx, tn⟩, ⟨lk, ls, lt, ln⟩, ⟨sk, ss, sn⟩⟩ ∧ ∀ x : Ob, (x.act ⟨ok, ⟨tk, ta, tx, tn⟩, ⟨lk, ls, lt, ln⟩, ⟨sk, ss, sn⟩⟩).2.1 = 0 → OpO.Good ⟨ok, ⟨tk, ta, tx, tn⟩, ⟨lk, ls, lt, ln⟩, ⟨sk, ss, sn⟩⟩) ∧
    ∀ V, Calls Tryz.prog 22 #[.agg o.cells] V fun en w' => en = .returned (.agg #[.int .i64 ok, .int .i64 tk, .int .i64 ta, .string tx, .int .i64 tn, .int .i64 lk, .string ls, .string lt, .int .i64 ln, .int .i64 sk, .string ss, .int .i64 sn]) ∧ Below V.heap.size V w' :=
  ⟨o.few.k, o.few.t.k, o.few.t.a, o.few.t.x, o.few.t.n, o.few.l.k, o.few.l.s, o.few.l.t, o.few.l.n, o.few.s.k, o.few.s.s, o.few.s.n, ⟨o.few_short, fun _ h => few_good h⟩, fun V => ofew_calls o V ho⟩

/-- The object's bytes at each version. -/
def saves (k : Int) (C : List Cm) : List Value := (List.range (C.length + 1)).map fun i => .string (fold k C i).save
theorem saves_at (k : Int) (C : List Cm) {i : Nat} (h : i ≤ C.length) : (saves k C)[i]? = some (.string (fold k C i).save) := by
  unfold saves
  rw [List.getElem?_map, List.getElem?_range (by omega)]; rfl
theorem saves_snoc (k : Int) (C : List Cm) (c : Cm) : saves k (C ++ [c]) = saves k C ++ [.string (fold k (C ++ [c]) (C ++ [c]).length).save] := by
  unfold saves
  rw [show (C ++ [c]).length = C.length + 1 by simp, List.range_succ (n := C.length + 1), List.map_append, List.map_singleton]
  congr 1
  apply List.map_congr_left
  intro i hi
  rw [List.mem_range] at hi
  rw [fold_app (by omega)]

/-- A line that was made since w, and what it was at each version, in a slice of another block. -/
structure Lg (w V : World) (b : Nat) (k : Int) (C : List Cm) (v : Value) : Prop where
  ln : Ln w.heap.size (fun j => w.heap.size ≤ j ∧ v.ownBlock ≠ some j) V b k C 0
  bel : Below w.heap.size w V
  row : Seg V 9 1 v (C.length + 1) (saves k C)
  own : ∀ x, v.ownBlock = some x → w.heap.size ≤ x
section
variable {w V V' : World} {b g off cp : Nat} {k : Int} {C : List Cm} {v : Value}
theorem Lg.below (h : Lg w V b k C v) (t : Below V.heap.size V V') : Lg w V' b k C v :=
  ⟨h.ln.below t, h.bel.trans (t.mono h.bel.size), h.row.below t (fun _ hx => h.row.lt hx), h.own⟩
theorem Lg.lw (h : Lg w V b k C v) : Lw w V b k C 0 := ⟨h.ln.more fun _ _ e => e.1, h.bel⟩
/-- Behind a Do that ended well: the slice is one short. -/
structure Lh (w V : World) (b : Nat) (k : Int) (C : List Cm) (c : Cm) (v : Value) : Prop where
  ln : Ln w.heap.size (fun j => w.heap.size ≤ j ∧ v.ownBlock ≠ some j) V b k (C ++ [c]) 0
  bel : Below w.heap.size w V
  row : Seg V 9 1 v (C.length + 1) (saves k C)
  own : ∀ x, v.ownBlock = some x → w.heap.size ≤ x
theorem Lg.stay (h : Lg w V b k C v) (s : Ln w.heap.size (fun j => w.heap.size ≤ j ∧ v.ownBlock ≠ some j) V' b k C 0) (t : Turn (fun j => w.heap.size ≤ j ∧ v.ownBlock ≠ some j) V V') : Lg w V' b k C v :=
  ⟨s, h.bel.trans (t.below h.bel.size (fun j hj e => by have := e.1; omega)), h.row.turn t (fun _ hx e => e.2 hx), h.own⟩
theorem Lg.did {c : Cm} (h : Lg w V b k C v) (s : Ln w.heap.size (fun j => (w.heap.size ≤ j ∧ v.ownBlock ≠ some j) ∨ V.heap.size ≤ j) V' b k (C ++ [c]) 0) (t : Turn (fun j => w.heap.size ≤ j ∧ v.ownBlock ≠ some j) V V') : Lh w V' b k C c v :=
  ⟨s.more fun j _ e => e.elim id (fun x => ⟨Nat.le_trans h.bel.size x, fun hx => by have := h.row.lt hx; omega⟩), h.bel.trans (t.below h.bel.size (fun j hj e => by have := e.1; omega)), h.row.turn t (fun _ hx e => e.2 hx), h.own⟩
theorem Lh.below {c : Cm} (h : Lh w V b k C c v) (t : Below V.heap.size V V') : Lh w V' b k C c v :=
  ⟨h.ln.below t, h.bel.trans (t.mono h.bel.size), h.row.below t (fun _ hx => h.row.lt hx), h.own⟩
theorem Lh.app {c : Cm} {o : Obj} (h : Lh w V b k C c v) (s : Seg V' 9 1 (.slice (some ⟨g, off, none⟩) (C.length + 1 + 1) cp) (C.length + 1 + 1) (saves k C ++ [.string (fold k (C ++ [c]) (C ++ [c]).length).save])) (t : (V.alloc o).grownBy V' v.ownBlock) (hg : v.ownBlock = some g ∨ g = (V.alloc o).heap.size) : Lg w V' b k (C ++ [c]) (.slice (some ⟨g, off, none⟩) (C.length + 1 + 1) cp) := by
  have hb : Below V.heap.size V (V.alloc o) := (Below.refl _ _).alloc (Nat.le_refl _) _
  have h1 := h.below hb
  have hT : Turn (fun j => v.ownBlock = some j) (V.alloc o) V' := (Turn.refl _ _).grown t (fun j hj _ => hj)
  have hl : V.heap.size ≤ (V.alloc o).heap.size := hb.size
  refine ⟨?_, h1.bel.trans (hT.below h1.bel.size (fun j hj e => by have := h.own j e; omega)), ?_, ?_⟩
  · have h2 : Ln w.heap.size (fun j => (w.heap.size ≤ j ∧ v.ownBlock ≠ some j) ∧ j < (V.alloc o).heap.size) (V.alloc o) b k (C ++ [c]) 0 := h1.ln.more fun j hj e => ⟨e, hj⟩
    refine (h2.turn hT (fun j hj _ e => hj.1.2 e) (fun j e => h.own j e)).more fun j _ e => ⟨e.1.1, fun hx => ?_⟩
    obtain rfl : g = j := by injection hx
    rcases hg with hg | hg
    · exact e.1.2 hg
    · have := e.2; omega
  · rw [saves_snoc, show (C ++ [c]).length = C.length + 1 by simp]
    rw [show (C ++ [c]).length = C.length + 1 by simp] at s
    exact s
  · intro x hx
    obtain rfl : g = x := by injection hx
    rcases hg with hg | hg
    · exact h.own _ hg
    · have := h.bel.size; omega
theorem Lw.begin {s : ByteArray} (h : Lw w V b k [] 0) (hs : s = (fold k [] 0).save) : Lg w (V.alloc (.cells #[.string s] 9)) b k [] (.slice (some ⟨V.heap.size, 0, none⟩) 1 1) := by
  have hb : Below V.heap.size V (V.alloc (.cells #[.string s] 9)) := (Below.refl _ _).alloc (Nat.le_refl _) _
  refine ⟨((h.1.more (G := fun j => w.heap.size ≤ j ∧ (Value.slice (some ⟨V.heap.size, 0, none⟩) 1 1).ownBlock ≠ some j) fun j hj e => ⟨e, fun hx => ?_⟩)).below hb, h.2.trans (hb.mono h.2.size), ?_, ?_⟩
  · have : V.heap.size = j := by injection hx
    omega
  · subst hs
    exact Seg.whole (heap_alloc_new _ _) rfl (by unfold maxLen; decide)
  · intro x hx
    have : V.heap.size = x := by injection hx
    have := h.2.size
    omega
end
def LinePost (w : World) (k : Int) (en : Ending) (w' : World) : Prop :=
  ∃ b C v, en = .returned (.tuple #[.pointer (some ⟨b, 0, none⟩), v]) ∧ Lg w w' b k C v ∧ C.length ≤ 16

set_option maxRecDepth 100000 in
set_option maxHeartbeats 8000000 in
theorem line_calls (w0 w : World) (hb : Below w0.heap.size w0 w) (hR : dig.Rt w0.heap.size w) (k : Int) (hk : k = 1 ∨ k = 2 ∨ k = 3) (a1 : Option Addr) (len1 cap1 : Nat) (hA : ∃ T, ArgA w0 a1 len1 T) :
    Calls Tryz.prog 27 #[.int .i64 k, .slice a1 len1 cap1] w (LinePost w0 k) := by
  obtain ⟨T1, hT1⟩ := hA
  obtain ⟨z0i, z0, hi0, hz0, hz1, hz2, hz3⟩ := flt.strInfo
  have HI0 := Lib.hid hi0
  have HZ0 := Lib.hid hz0
  have HT1 := Lib.hid hT1
  have hlb1 : (len1 : Int) ≤ 9223372036854775807 := by have := hT1.1; unfold maxLen at this; omega
  have HN := Lib.hid (lw_new w0 w hb hR k hk)
  have hfd : ∀ (e : Int) (g : ByteArray) (w' : World), (Instr.field 57 (.agg #[.int .i64 e, .string g]) 0).run Tryz.prog w' = .ok (.int .i64 e) w' := fun _ _ _ => rfl
  clear hT1 hi0 hz0 hb hR hk
  go_enter Tryz.func27, Tryz.ntmps27
  go_wp2_with fail
  refine HN.out.mono ?_
  rintro en w3 ⟨b, rfl, _, l3⟩
  have L3 := Lib.hid l3
  clear l3 HN
  go_wp2_with fail
  refine (L3.out.1.save_calls).mono ?_
  obtain ⟨s0, hs0⟩ : ∃ s0, s0 = (fold k [] ([] : List Cm).length).save := ⟨_, rfl⟩
  rw [← hs0]
  rintro en w4 ⟨rfl, b4⟩
  have L4 : Hid (Lg w0 (w4.alloc (.cells #[.string s0] 9)) b k [] (.slice (some ⟨w4.heap.size, 0, none⟩) 1 1)) := Lib.hid ((L3.out.below b4).begin hs0)
  clear L3 b4 hs0
  go_wp2_with fail
  go_loopw [7, 8] (fun v i wr => ∃ (i' : Nat) (C : List Cm), i = .int .i64 i' ∧ i' ≤ 16 ∧ Hid (Lg w0 wr b k C v ∧ C.length ≤ i')) (fun _ i _ => 16 - (intOf i).toNat)
  case atStart => exact ⟨0, [], rfl, by omega, Lib.hid ⟨L4.out, Nat.le_refl _⟩⟩
  case round =>
    clear L4
    obtain ⟨i, C, rfl, hi, HS⟩ := hrel
    have hi0 : (0 : Int) ≤ (i : Int) := by omega
    by_cases hik : i < len1 ∧ i < 16
    · obtain ⟨hi1, hi2⟩ := hik
      have hi3 : (i : Int) < (len1 : Int) := by omega
      have hi4 : (i : Int) < 16 := by omega
      have i1 : IntKind.i64.wrap ((i : Int) + 1) = (i : Int) + 1 := IntWalk.i64_in _ ⟨by omega, by omega⟩
      obtain ⟨g, p, ha, hb, hf, hc⟩ := HT1.out.at HS.out.1.bel hi1
      subst ha
      obtain ⟨o, ho⟩ : ∃ o, o = (T1 i).o := ⟨_, rfl⟩
      have hld := load_act hc
      have hfo := hf.2.2
      rw [← ho] at hld hfo
      obtain ⟨ok, tk, ta, tx, tn, lk, ls, lt, ln, sk, ss, sn, hq, hfew⟩ := few_parts2 o hfo
      have HQ := Lib.hid hq
      have HFW := Lib.hid hfew
      have HC := Lib.hid (show C.length ≤ 16 from by have := HS.out.2; omega)
      clear hf hc hb ho hfo hq hfew
      go_wp2_with (first
        | ((with_reducible refine at_op 29 ?_); refine dig.wpList_load_if (o := ⟨some 29, _, _, _, _, _⟩) (by kernel_rfl) 39 (.tmp 28) rfl (.pointer (some ⟨g, p + i * 15 + 3, none⟩)) rfl hld ?_)
        | fail)
      refine (HFW.out _).mono ?_
      rintro en w4 ⟨rfl, b4⟩
      have L4 := Lib.hid (HS.out.1.below b4)
      have HL := Lib.hid HS.out.2
      clear hld HS b4
      go_wp2_with fail
      refine (ldo_calls L4.out.ln ⟨ok, ⟨tk, ta, tx, tn⟩, ⟨lk, ls, lt, ln⟩, ⟨sk, ss, sn⟩⟩ HQ.out.1 (by have := HC.out; omega) (HQ.out.2 _)).mono ?_
      rintro en w5 (⟨_, rfl, s, t⟩ | ⟨e5, rfl, s, t⟩)
      · have L5 := Lib.hid (L4.out.did s t)
        clear s t L4 HQ HFW
        go_wp2_with fail
        obtain ⟨sv, hsv⟩ : ∃ sv, sv = (fold k (C ++ [(⟨⟨ok, ⟨tk, ta, tx, tn⟩, ⟨lk, ls, lt, ln⟩, ⟨sk, ss, sn⟩⟩, 0⟩ : Cm)]) (C ++ [(⟨⟨ok, ⟨tk, ta, tx, tn⟩, ⟨lk, ls, lt, ln⟩, ⟨sk, ss, sn⟩⟩, 0⟩ : Cm)]).length).save := ⟨_, rfl⟩
        have hsc := L5.out.ln.save_calls
        rw [← hsv] at hsc
        refine hsc.mono ?_
        clear hsc
        rintro en w6 ⟨rfl, b6⟩
        have L6 := Lib.hid (L5.out.below b6)
        have HSV := Lib.hid hsv
        clear L5 b6 hsv
        go_wp2_with (first
          | ((with_reducible refine at_op 39 ?_); refine wpList_append_seg (o := ⟨some 39, _, _, _, _, _⟩) _ rfl (.tmp 35) (.tmp 38) 74 rfl 9 z0i z0 1 16 Tryz.underlying74 HI0.out HZ0.out hz1 hz3 hz2 (by decide) u7 (C.length + 1) (saves k C) rfl (L6.out.row.alloc _) ⟨w6.heap.size, 0, none⟩ 1 1 [.string sv] rfl rfl (World.news_of_block (heap_alloc_new _ _)) (by simp [Value.oneCell']) (by decide) (by have := HC.out; unfold maxLen; omega) (by have := HC.out; omega) _ rfl ?_;
             intro g7 off7 cp7 w7 hown hgrow hat hlt;
             have L7 := Lib.hid (L6.out.app (HSV.out ▸ hown) hgrow hat);
             clear hown hgrow hat hlt)
          | fail)
        refine ⟨⟨i + 1, _, by rw [Int.natCast_add]; rfl, by omega, Lib.hid ⟨L7.out, by have := HL.out; rw [List.length_append]; simp; omega⟩⟩, ?_⟩
        show 16 - ((i : Int) + 1).toNat < 16 - ((i : Int)).toNat
        omega
      · have L5 := Lib.hid (show Lg w0 w5 b k C _ ∧ C.length ≤ i + 1 from ⟨L4.out.stay s t, by have := HL.out; omega⟩)
        clear L4 s t HL HC HQ HFW
        go_wp2_with fail
        refine ⟨⟨i + 1, _, by rw [Int.natCast_add]; rfl, by omega, L5⟩, ?_⟩
        show 16 - ((i : Int) + 1).toNat < 16 - ((i : Int)).toNat
        omega
    · have L3 := Lib.hid (show Lg w0 wr b k C _ ∧ C.length ≤ 16 from ⟨HS.out.1, by have := HS.out.2; omega⟩)
      clear HS
      rcases (by omega : ¬ (i : Int) < (len1 : Int) ∨ ((i : Int) < (len1 : Int) ∧ ¬ (i : Int) < 16)) with hi5 | ⟨hi5, hi6⟩
      all_goals
        go_wp2_with fail
        go_ret2
        exact ⟨_, _, _, rfl, L3.out⟩
end Go.Proofs.YtcdedkgkingbdaaGreatDoor.rep
end

