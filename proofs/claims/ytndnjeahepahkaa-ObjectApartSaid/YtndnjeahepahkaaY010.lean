/- Texts laid into one: ObjG, ObjH. -/
import Derived.Test.YtndnjeahepahkaaY007
import Derived.Test.YtndnjeahepahkaaYStoR
section
/- object: Inverse of an op that was done; an op told as the document's; the document's Inverse. -/
namespace Go.Proofs.Ytndnjeahepahkaa.object
open Go.RowKit Go.Maps Go.Sort

/-- An op that may have been done: its number is one of its kind. -/
def OpO.Vd (o : OpO) : Prop := (o.k = 1 ∧ (o.t.k = 1 ∨ o.t.k = 2)) ∨ (o.k = 2 ∧ (o.l.k = 1 ∨ o.l.k = 2 ∨ o.l.k = 3)) ∨ (o.k = 3 ∧ (o.s.k = 1 ∨ o.s.k = 2))
/-- The op that takes it back. -/
def OpO.inv (o : OpO) (g : ByteArray) : OpO := if o.k = 1 then ⟨1, text.inv o.t g, zL, zS⟩ else if o.k = 2 then ⟨2, zT, o.l.inv, zS⟩ else ⟨3, zT, zL, o.s.inv⟩

theorem tinv_any (o : text.OpV) (g : ByteArray) (w : World) (h : o.k = 1 ∨ o.k = 2) :
    Calls Try.prog 22 #[.agg #[.int .i64 o.k, .int .i64 o.a, .string o.x, .int .i64 o.n], .string g] w fun en w' => en = .returned (.agg #[.int .i64 (text.inv o g).k, .int .i64 (text.inv o g).a, .string (text.inv o g).x, .int .i64 (text.inv o g).n]) ∧ Below w.heap.size w w' := by
  obtain ⟨k, a, x, n⟩ := o
  have h' : k = 1 ∨ k = 2 := h
  rcases h' with rfl | rfl
  · exact text.inv1_calls a n x g w
  · exact text.inv2_calls a n x g w

abbrev c12 (k : Int) (t : text.OpV) (l : OpL) (z : stock.OpS) : Array Value := (OpO.mk k t l z).cells
theorem res_op {fn : Func} {p : Tmp} (h : fn.results = #[.cell p 35]) (tmps : Array Value) (w : World) (g : Nat) (cs : Array Value) (hp : tmps.getD p undef = .pointer (some ⟨g, 0, none⟩)) (hg : Has w g 35 cs) (hi : cs.size = 12) : (results fn tmps).run Try.prog w = .ok (.agg cs) w :=
  results_cell_row h tmps w g 35 cs (0, 0) _ hp hg Try.underlying35 rfl (by rw [hi]; kernel_rfl)
theorem res_ro {fn : Func} {p : Tmp} (h : fn.results = #[.cell p 48]) (tmps : Array Value) (w : World) (g : Nat) (cs : Array Value) (hp : tmps.getD p undef = .pointer (some ⟨g, 0, none⟩)) (hg : Has w g 48 cs) (hi : cs.size = 12) : (results fn tmps).run Try.prog w = .ok (.agg cs) w :=
  results_cell_row h tmps w g 48 cs (0, 0) _ hp hg Try.underlying48 rfl (by rw [hi]; kernel_rfl)

set_option maxRecDepth 100000 in
set_option maxHeartbeats 2000000 in
theorem told_calls (o : OpO) (w : World) : Calls Try.prog 11 #[.agg o.cells] w fun en w' => en = .returned (.agg o.cells) ∧ Below w.heap.size w w' := by
  obtain ⟨k, t, l, z⟩ := o
  unfold OpO.cells
  go_enter Try.func11, Try.ntmps11
  go_wp2_with fail
  refine bodyPost_ret (v := .agg #[.int .i64 k, .int .i64 t.k, .int .i64 t.a, .string t.x, .int .i64 t.n, .int .i64 l.k, .string l.s, .string l.t, .int .i64 l.n, .int .i64 z.k, .string z.s, .int .i64 z.n]) (by simp [results, Try.results11, go_sem]) rfl ⟨rfl, turn_box ?_⟩
  repeat (first | exact Turn.refl _ _ | refine Turn.drew ?_ | refine Turn.alloc ?_ _ | refine Turn.put ?_ (fun h => by omega) _ _)

set_option maxRecDepth 100000 in
set_option maxHeartbeats 2000000 in
theorem oinv_calls (o : OpO) (e : Int) (g : ByteArray) (w : World) (ho : o.Vd) : Calls Try.prog 10 #[.agg o.cells, rv e g] w fun en w' => en = .returned (.agg (o.inv g).cells) ∧ Below w.heap.size w w' := by
  obtain ⟨k, t, l, z⟩ := o
  have h' : (k = 1 ∧ (t.k = 1 ∨ t.k = 2)) ∨ (k = 2 ∧ (l.k = 1 ∨ l.k = 2 ∨ l.k = 3)) ∨ (k = 3 ∧ (z.k = 1 ∨ z.k = 2)) := ho
  clear ho
  obtain ⟨tk, ta, tx, tn⟩ := t
  obtain ⟨lk, ls, lt, ln⟩ := l
  obtain ⟨sk, ss, sn⟩ := z
  dsimp only at h'
  unfold OpO.cells
  rcases h' with ⟨rfl, hk⟩ | ⟨rfl, hk⟩ | ⟨rfl, hk⟩
  · have HC := fun W => Lib.hid (tinv_any ⟨tk, ta, tx, tn⟩ g W hk)
    have HR : Hid ((OpO.mk 1 ⟨tk, ta, tx, tn⟩ ⟨lk, ls, lt, ln⟩ ⟨sk, ss, sn⟩).inv g = ⟨1, text.inv ⟨tk, ta, tx, tn⟩ g, zL, zS⟩) := Lib.hid (if_pos rfl)
    rw [HR.out]
    generalize text.inv ⟨tk, ta, tx, tn⟩ g = t2 at HC ⊢
    obtain ⟨tk2, ta2, tx2, tn2⟩ := t2
    clear hk HR
    go_enter Try.func10, Try.ntmps10
    go_wp2_with fail
    refine callsName (fun W hW => ?_)
    have HW : Hid (Has W (w.heap.size + 1 + 1) 35 (c12 0 zT zL zS) ∧ Turn (fun j => w.heap.size ≤ j) w W) := by
      rw [← hW]
      exact Lib.hid ⟨made_at _ _ (by simp), (((Turn.refl _ _).alloc _).alloc _).alloc _⟩
    clear hW
    refine (HC W).out.mono ?_
    rintro en w1 ⟨rfl, b1⟩
    have H1 := Lib.hid (HW.out.1.below b1 HW.out.1.lt)
    have T1 : Hid (Turn (fun j => w.heap.size ≤ j) w w1) := Lib.hid (HW.out.2.trans (Turn.of_below b1 (F := fun j => W.heap.size ≤ j) (fun _ _ e => e)) (fun j h1 h2 => Nat.le_trans HW.out.2.size h2))
    clear b1 HW HC
    go_wp2_with (first
      | ((with_reducible refine at_store (.tmp 4) ?_); refine wpList_store_all (o := ⟨none, _, _, _, _, _⟩) rfl 35 _ _ rfl (w.heap.size + 1 + 1) (c12 1 ⟨tk2, ta2, tx2, tn2⟩ zL zS) (c12 0 zT zL zS) rfl rfl 35 H1.out (by kernel_rfl) rfl (by simp [Value.oneCell', OpO.cells, c12]) ?_; intro w5 h5 t5)
      | fail)
    refine bodyPost_ret (res_op rfl _ _ (w.heap.size + 1 + 1) _ rfl h5 rfl) rfl ⟨rfl, turn_box (T1.out.trans t5 (fun j h1 h2 => by omega))⟩
  · have HC := fun W => Lib.hid (linv_any ⟨lk, ls, lt, ln⟩ W hk)
    have HR : Hid ((OpO.mk 2 ⟨tk, ta, tx, tn⟩ ⟨lk, ls, lt, ln⟩ ⟨sk, ss, sn⟩).inv g = ⟨2, zT, OpL.inv ⟨lk, ls, lt, ln⟩, zS⟩) := Lib.hid rfl
    rw [HR.out]
    generalize OpL.inv ⟨lk, ls, lt, ln⟩ = l2 at HC ⊢
    obtain ⟨lk2, ls2, lt2, ln2⟩ := l2
    clear hk HR
    go_enter Try.func10, Try.ntmps10
    go_wp2_with fail
    refine callsName (fun W hW => ?_)
    have HW : Hid (Has W (w.heap.size + 1 + 1) 35 (c12 0 zT zL zS) ∧ Turn (fun j => w.heap.size ≤ j) w W) := by
      rw [← hW]
      exact Lib.hid ⟨made_at _ _ (by simp), (((Turn.refl _ _).alloc _).alloc _).alloc _⟩
    clear hW
    refine (HC W).out.mono ?_
    rintro en w1 ⟨rfl, b1⟩
    have H1 := Lib.hid (HW.out.1.below b1 HW.out.1.lt)
    have T1 : Hid (Turn (fun j => w.heap.size ≤ j) w w1) := Lib.hid (HW.out.2.trans (Turn.of_below b1 (F := fun j => W.heap.size ≤ j) (fun _ _ e => e)) (fun j h1 h2 => Nat.le_trans HW.out.2.size h2))
    clear b1 HW HC
    go_wp2_with (first
      | ((with_reducible refine at_store (.tmp 4) ?_); refine wpList_store_all (o := ⟨none, _, _, _, _, _⟩) rfl 35 _ _ rfl (w.heap.size + 1 + 1) (c12 2 zT ⟨lk2, ls2, lt2, ln2⟩ zS) (c12 0 zT zL zS) rfl rfl 35 H1.out (by kernel_rfl) rfl (by simp [Value.oneCell', OpO.cells, c12]) ?_; intro w5 h5 t5)
      | fail)
    refine bodyPost_ret (res_op rfl _ _ (w.heap.size + 1 + 1) _ rfl h5 rfl) rfl ⟨rfl, turn_box (T1.out.trans t5 (fun j h1 h2 => by omega))⟩
  · have HC := fun W => Lib.hid (stock.sinv_any ⟨sk, ss, sn⟩ W hk)
    have HR : Hid ((OpO.mk 3 ⟨tk, ta, tx, tn⟩ ⟨lk, ls, lt, ln⟩ ⟨sk, ss, sn⟩).inv g = ⟨3, zT, zL, stock.OpS.inv ⟨sk, ss, sn⟩⟩) := Lib.hid rfl
    rw [HR.out]
    generalize stock.OpS.inv ⟨sk, ss, sn⟩ = z2 at HC ⊢
    obtain ⟨sk2, ss2, sn2⟩ := z2
    clear hk HR
    go_enter Try.func10, Try.ntmps10
    go_wp2_with fail
    refine callsName (fun W hW => ?_)
    have HW : Hid (Has W (w.heap.size + 1 + 1) 35 (c12 0 zT zL zS) ∧ Turn (fun j => w.heap.size ≤ j) w W) := by
      rw [← hW]
      exact Lib.hid ⟨made_at _ _ (by simp), (((Turn.refl _ _).alloc _).alloc _).alloc _⟩
    clear hW
    refine (HC W).out.mono ?_
    rintro en w1 ⟨rfl, b1⟩
    have H1 := Lib.hid (HW.out.1.below b1 HW.out.1.lt)
    have T1 : Hid (Turn (fun j => w.heap.size ≤ j) w w1) := Lib.hid (HW.out.2.trans (Turn.of_below b1 (F := fun j => W.heap.size ≤ j) (fun _ _ e => e)) (fun j h1 h2 => Nat.le_trans HW.out.2.size h2))
    clear b1 HW HC
    go_wp2_with (first
      | ((with_reducible refine at_store (.tmp 4) ?_); refine wpList_store_all (o := ⟨none, _, _, _, _, _⟩) rfl 35 _ _ rfl (w.heap.size + 1 + 1) (c12 3 zT zL ⟨sk2, ss2, sn2⟩) (c12 0 zT zL zS) rfl rfl 35 H1.out (by kernel_rfl) rfl (by simp [Value.oneCell', OpO.cells, c12]) ?_; intro w5 h5 t5)
      | fail)
    refine bodyPost_ret (res_op rfl _ _ (w.heap.size + 1 + 1) _ rfl h5 rfl) rfl ⟨rfl, turn_box (T1.out.trans t5 (fun j h1 h2 => by omega))⟩

set_option maxRecDepth 100000 in
set_option maxHeartbeats 4000000 in
theorem rinv_calls (o : OpO) (g : ByteArray) (w : World) (ho : o.Vd) (hx : o.t.x.size ≤ 1000) : Calls Try.prog 12 #[.agg o.cells, .string g] w fun en w' => en = .returned (.agg (o.inv g).cells) ∧ Below w.heap.size w w' := by
  obtain ⟨k, t, l, z⟩ := o
  have h' : (k = 1 ∧ (t.k = 1 ∨ t.k = 2)) ∨ (k = 2 ∧ (l.k = 1 ∨ l.k = 2 ∨ l.k = 3)) ∨ (k = 3 ∧ (z.k = 1 ∨ z.k = 2)) := ho
  clear ho
  obtain ⟨tk, ta, tx, tn⟩ := t
  obtain ⟨lk, ls, lt, ln⟩ := l
  obtain ⟨sk, ss, sn⟩ := z
  dsimp only at h' hx
  unfold OpO.cells
  rcases h' with ⟨rfl, rfl | rfl⟩ | ⟨rfl, rfl | rfl | rfl⟩ | ⟨rfl, rfl | rfl⟩
  all_goals
    go_enter Try.func12, Try.ntmps12
    go_wp2_with fail
    exact bodyPost_ret (res_ro rfl _ _ (w.heap.size + 1) _ rfl (made_at _ _ (by simp)) rfl) rfl ⟨rfl, turn_box (((Turn.refl _ _).alloc _).alloc _)⟩

/-- An op that was OK is one of its kind. -/
theorem act_ok {x : Ob} {o : OpO} {w : World} {v : Value} {lo hi : Nat} (h : St w v lo hi x) (e : (x.act o).2.1 = 0) : o.Vd ∧ o.k = x.kd := by
  by_cases hk : o.k = x.kd
  · rw [show x.act o = x.did o from if_pos hk] at e
    refine ⟨?_, hk⟩
    cases x with
    | doc s =>
      obtain ⟨d, _, _, _, _, hs⟩ := h
      exact .inl ⟨hk, (text.do_back hs e).2.2.2.2⟩
    | led D => exact .inr (.inl ⟨hk, doO_kind e⟩)
    | sto D => exact .inr (.inr ⟨hk, stock.doO_kind e⟩)
  · rw [show x.act o = (x, 5, ⟨#[]⟩) from if_neg hk] at e
    exact absurd (show (5 : Int) = 0 from e) (by decide)
theorem tdo_not {s : ByteArray} {o : text.OpV} (e : ¬ (text.doV s o).2.2 = 0) : (text.doV s o).1 = s := by
  unfold text.doV text.doT at e ⊢
  split at e
  · rename_i h1
    rw [if_pos h1]
    split at e
    · rename_i h2
      rw [if_pos h2]
      dsimp only at e ⊢
      unfold text.insT at e ⊢
      split at e
      · rename_i h3; rw [if_pos h3]
      · rename_i h3
        split at e
        · rename_i h4; rw [if_neg h3, if_pos h4]
        · exact absurd rfl e
    · rename_i h2
      rw [if_neg h2]
      unfold text.cutT at e ⊢
      split at e
      · rename_i h3; rw [if_pos h3]
      · exact absurd rfl e
  · rename_i h1
    rw [if_neg h1]
/-- An op that was not OK changed nothing. -/
theorem act_not {x : Ob} {o : OpO} (e : ¬ (x.act o).2.1 = 0) : (x.act o).1 = x := by
  unfold Ob.act at e ⊢
  split
  · rename_i hk
    rw [if_pos hk] at e
    cases x with
    | doc s => exact congrArg Ob.doc (tdo_not e)
    | led D => exact congrArg Ob.led (doO_not e)
    | sto D => exact congrArg Ob.sto (stock.doO_not e)
  · rfl
/-- BACK. -/
theorem act_back {x y : Ob} {o : OpO} {w w2 : World} {v v2 : Value} {lo hi lo2 hi2 : Nat} (h : St w v lo hi x) (h2 : St w2 v2 lo2 hi2 y) (e : (x.act o).2.1 = 0) (hl : y.Like (x.act o).1) :
    (y.act (o.inv (x.act o).2.2)).2.1 = 0 ∧ (y.act (o.inv (x.act o).2.2)).1.Like x := by
  obtain ⟨hv, hk⟩ := act_ok h e
  rw [show x.act o = x.did o from if_pos hk] at e hl ⊢
  cases x with
  | doc s =>
    obtain ⟨d, _, _, _, _, hs⟩ := h
    have hk1 : o.k = 1 := hk
    obtain ⟨b1, b2, _⟩ := text.do_back hs e
    cases y with
    | doc s' =>
      obtain rfl : s' = (text.doV s o.t).1 := hl
      have ei : o.inv (Ob.did (.doc s) o).2.2 = ⟨1, text.inv o.t (text.doV s o.t).2.1, zL, zS⟩ := if_pos hk1
      rw [ei, show (Ob.doc (text.doV s o.t).1).act ⟨1, text.inv o.t (text.doV s o.t).2.1, zL, zS⟩ = (Ob.doc (text.doV s o.t).1).did ⟨1, text.inv o.t (text.doV s o.t).2.1, zL, zS⟩ from if_pos rfl]
      exact ⟨b2, b1⟩
    | led D => exact hl.elim
    | sto D => exact hl.elim
  | led D =>
    obtain ⟨d, m, _, _, _, _, _, _, I⟩ := h
    have hk1 : o.k = 2 := hk
    obtain ⟨b1, b2⟩ := doO_back I e
    cases y with
    | led D' =>
      obtain ⟨d2, m2, _, _, _, _, _, _, I2⟩ := h2
      have al : Alike D' (doO D o.l).1 := hl
      have ei : o.inv (Ob.did (.led D) o).2.2 = ⟨2, zT, o.l.inv, zS⟩ := (if_neg (by omega)).trans (if_pos hk1)
      obtain ⟨a1, a2⟩ := doO_alike al o.l.inv
      rw [ei, show (Ob.led D').act ⟨2, zT, o.l.inv, zS⟩ = (Ob.led D').did ⟨2, zT, o.l.inv, zS⟩ from if_pos rfl]
      exact ⟨a1.2 b1, a2.trans b2⟩
    | doc s => exact hl.elim
    | sto D => exact hl.elim
  | sto D =>
    obtain ⟨d, m, _, _, _, _, _, _, I⟩ := h
    have hk1 : o.k = 3 := hk
    obtain ⟨b1, b2⟩ := stock.doO_back I e
    cases y with
    | sto D' =>
      have al : Alike D' (stock.doO D o.s).1 := hl
      have ei : o.inv (Ob.did (.sto D) o).2.2 = ⟨3, zT, zL, o.s.inv⟩ := (if_neg (by omega)).trans (if_neg (by omega))
      obtain ⟨a1, a2⟩ := stock.doO_alike al (stock.invS_doO I _) o.s.inv
      rw [ei, show (Ob.sto D').act ⟨3, zT, zL, o.s.inv⟩ = (Ob.sto D').did ⟨3, zT, zL, o.s.inv⟩ from if_pos rfl]
      exact ⟨a1.2 b1, a2.trans b2⟩
    | doc s => exact hl.elim
    | led D => exact hl.elim
theorem OpO.inv_short {o : OpO} (h : o.Short) {g : ByteArray} (hg : g.size ≤ maxLen) : (o.inv g).Short := by
  obtain ⟨z1, z2, z3⟩ := z_short
  unfold OpO.inv
  split
  · refine ⟨?_, z2, z3⟩
    show (text.inv o.t g).x.size ≤ maxLen
    unfold text.inv
    split
    · exact Nat.zero_le _
    · exact hg
  · split
    · exact ⟨z1, Proofs.Ytndnjeahepahkaa.inv_short h.2.1, z3⟩
    · exact ⟨z1, z2, stock.inv_short h.2.2⟩
end Go.Proofs.Ytndnjeahepahkaa.object
end

section
/- object: an object that lasts from round to round; Clone through its interface. -/
namespace Go.Proofs.Ytndnjeahepahkaa.object
open Go.RowKit Go.Maps Go.Sort

theorem act_kd (x : Ob) (o : OpO) : (x.act o).1.kd = x.kd := by
  unfold Ob.act
  split
  · cases x <;> rfl
  · rfl
theorem few_text (o : OpO) : o.few.t.x.size ≤ 1000 := by
  unfold OpO.few
  split
  · have := text.cutB_size o.t.x 45
    show (text.cutB o.t.x 45).size ≤ 1000
    omega
  · split
    · exact Nat.zero_le _
    · split
      · exact Nat.zero_le _
      · exact Nat.zero_le _

/-- What went is short. -/
theorem act_gone {x : Ob} {o : OpO} {w : World} {v : Value} {lo hi : Nat} (h : St w v lo hi x) : (x.act o).2.2.size ≤ maxLen := by
  unfold Ob.act
  split
  · cases x with
    | doc s =>
      obtain ⟨d, _, _, _, _, hs⟩ := h
      show (text.doV s o.t).2.1.size ≤ maxLen
      unfold text.doV text.doT
      have h0 : (200 : Nat) ≤ maxLen := by unfold maxLen; omega
      split
      · split
        · exact Nat.zero_le _
        · unfold text.cutT
          split
          · exact Nat.zero_le _
          · rw [ByteArray.size_extract]; omega
      · exact Nat.zero_le _
    | led D => exact Nat.zero_le _
    | sto D => exact Nat.zero_le _
  · exact Nat.zero_le _
theorem wp_region_heldV {P : Program} {ops : Array Oper} {Q : Exit → Act → World → Prop} {id : Nat} {a : Act} {w : World} (S : World → Prop) (V : World) (hV : V = w.drew) (hm : P.follows .mixedOrders = true)
    (h : wpAnyH P .any ops Q S ops.size (Array.replicate ops.size false) a V) : (Code.region id ops true).wp P Q a w := by
  subst hV
  exact wp_region_any hm (wpAny_of_held _ _ _ _ h)

/-- What lasts from round to round. -/
structure Lb (w : World) (v : Value) (lo hi : Nat) (K : Int) (x : Ob) (w' : World) : Prop where
  st : St w' v lo hi x
  kd : x.kd = K
  plo : w.heap.size ≤ lo
  phi : hi ≤ w'.heap.size
  turn : Turn (fun j => w.heap.size ≤ j) w w'
theorem Lb.more {w w' w2 : World} {v : Value} {lo hi : Nat} {K : Int} {x : Ob} (h : Lb w v lo hi K x w') (b : Below w'.heap.size w' w2) : Lb w v lo hi K x w2 :=
  ⟨h.st.below b h.phi, h.kd, h.plo, Nat.le_trans h.phi b.size, h.turn.trans (Turn.of_below b (F := fun j => w'.heap.size ≤ j) (fun _ _ e => e)) (fun _ _ e => Nat.le_trans h.turn.size e)⟩
theorem Lb.did {w w' w2 : World} {v : Value} {lo hi : Nat} {K : Int} {x y : Ob} (h : Lb w v lo hi K x w') (s : St w2 v lo hi y) (hk : y.kd = K) (t : Turn (fun j => lo ≤ j ∧ j < hi) w' w2) : Lb w v lo hi K y w2 :=
  ⟨s, hk, h.plo, Nat.le_trans h.phi t.size, h.turn.trans t (fun j _ e => by have := h.plo; omega)⟩
theorem lo_hi {w : World} {v : Value} {lo hi : Nat} {x : Ob} (h : St w v lo hi x) : lo < hi := by
  cases x with
  | doc s => obtain ⟨d, _, h1, h2, _⟩ := h; omega
  | led D => obtain ⟨d, m, _, h1, h2, _⟩ := h; omega
  | sto D => obtain ⟨d, m, _, h1, h2, _⟩ := h; omega
theorem Lb.other {w w' w2 : World} {v : Value} {lo hi lo2 hi2 : Nat} {K : Int} {x : Ob} (h : Lb w v lo hi K x w') (t : Turn (fun j => lo2 ≤ j ∧ j < hi2) w' w2) (hlo : hi ≤ lo2) : Lb w v lo hi K x w2 :=
  ⟨h.st.turn t (fun j h1 h2 e => by omega), h.kd, h.plo, Nat.le_trans h.phi t.size, h.turn.trans t (fun j h1 e => by have := h.plo; have := lo_hi h.st; omega)⟩

theorem pv_inj {T T' : TypeId} {d d' : Nat} (e : Value.iface T (pv d) = .iface T' (pv d')) : T = T' ∧ d = d' := by
  injection e with e1 e2
  injection e2 with e2
  exact ⟨e1, by simpa using e2⟩
theorem Face.cC {v : Value} {lo hi : Nat} {k : Int} {T : TypeId} {d : Nat} {fK fD fC fS : FuncId} (F : Face v lo hi k T d fK fD fC fS) {w : World} {x : Ob} (h : St w v lo hi x) : Calls Try.prog fC #[pv d] w (fun en w' => ClonePost x w en w') := by
  have hm := F.mC 0 w
  have hv := F.is
  cases x with
  | doc s =>
    obtain ⟨d', e, _, _, h4, h5⟩ := h
    rw [hv] at e
    obtain ⟨rfl, rfl⟩ := pv_inj e
    have := hm.symm.trans (m_dclone 0 d w)
    injection this with e1
    injection e1 with e1
    subst e1
    exact dclone_calls d s w h4 h5
  | led D =>
    obtain ⟨d', m, e, _, _, _, _, h4, h5⟩ := h
    rw [hv] at e
    obtain ⟨rfl, rfl⟩ := pv_inj e
    have := hm.symm.trans (m_aclone 0 d w)
    injection this with e1
    injection e1 with e1
    subst e1
    exact aclone_calls d m D w h4 h5
  | sto D =>
    obtain ⟨d', m, e, _, _, _, _, h4, h5⟩ := h
    rw [hv] at e
    obtain ⟨rfl, rfl⟩ := pv_inj e
    have := hm.symm.trans (m_gclone 0 d w)
    injection this with e1
    injection e1 with e1
    subst e1
    exact gclone_calls d m D w h4 h5
end Go.Proofs.Ytndnjeahepahkaa.object
end

