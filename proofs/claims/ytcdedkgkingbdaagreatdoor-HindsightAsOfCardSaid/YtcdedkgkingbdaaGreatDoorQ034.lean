/- Texts laid into one: RepL, RepD, TowM, TowH. -/
import Derived.Test.YtcdedkgkingbdaaGreatDoorQ029
import Derived.Test.YtcdedkgkingbdaaGreatDoorQ033
import Derived.Test.YtcdedkgkingbdaaGreatDoorQ000
import Derived.Lib.TrailingZeros
import Derived.Laws.Bits64b
section
/- replay: commands folded over a first object; objects that say the same go on alike. -/
namespace Go.Proofs.YtcdedkgkingbdaaGreatDoor.object
open Go.RowKit Go.Maps

/-- What holds of each object. -/
def Ob.Inv : Ob → Prop
  | .doc s => s.size ≤ 200
  | .led D => InvF D
  | .sto D => stock.InvS D
theorem St.inv {w : World} {v : Value} {lo hi : Nat} {x : Ob} (h : St w v lo hi x) : x.Inv := by
  cases x with
  | doc s => obtain ⟨d, _, _, _, _, h⟩ := h; exact h
  | led D => obtain ⟨d, m, _, _, _, _, _, _, h⟩ := h; exact h
  | sto D => obtain ⟨d, m, _, _, _, _, _, _, h⟩ := h; exact h
theorem inv_first (k : Int) : (first k).Inv := by
  unfold first
  split
  · exact Nat.zero_le _
  · split
    · exact invF_new
    · exact stock.invS_new
theorem inv_act {x : Ob} (h : x.Inv) (o : OpO) : (x.act o).1.Inv := by
  unfold Ob.act
  split
  · cases x with
    | doc s => exact text.do_size h
    | led D => exact invF_doO h _
    | sto D => exact stock.invS_doO h _
  · exact h
theorem Ob.Like.refl {x : Ob} (h : x.Inv) : x.Like x := by
  cases x with
  | doc s => exact rfl
  | led D => exact Alike.refl (InvF.good h)
  | sto D => exact Alike.refl (stock.InvS.good h)
theorem Ob.Like.trans {x y z : Ob} (h : x.Like y) (h2 : y.Like z) : x.Like z := by
  cases x <;> cases y <;> cases z
  case doc.doc.doc => exact Eq.trans h h2
  case led.led.led => exact Alike.trans h h2
  case sto.sto.sto => exact Alike.trans h h2
  all_goals first | exact h.elim | exact h2.elim
theorem Ob.Like.symm {x y : Ob} (h : x.Like y) : y.Like x := by
  cases x <;> cases y
  case doc.doc => exact Eq.symm h
  case led.led => exact Alike.symm h
  case sto.sto => exact Alike.symm h
  all_goals exact h.elim

theorem err_led {D D' : DataW Unit} (a : Alike D D') (o : OpL) : (doO D o).2 = (doO D' o).2 := by
  have hi : ∀ x, isIn D x = isIn D' x := fun x => (a.same x).1
  have hm : ∀ x, amt D x = amt D' x := fun x => (a.same x).2
  unfold doO doL opn cls mov
  rw [a.size, hi o.s, hi o.t, hm o.s, hm o.t]
  (repeat' split) <;> rfl
theorem err_sto {D D' : DataW Unit} (a : Alike D D') (o : stock.OpS) : (stock.doO D o).2 = (stock.doO D' o).2 := by
  have hi : ∀ x, isIn D x = isIn D' x := fun x => (a.same x).1
  have hm : ∀ x, amt D x = amt D' x := fun x => (a.same x).2
  unfold stock.doO stock.doS stock.adS stock.tkS
  rw [a.size, hi o.s, hm o.s]
  (repeat' split) <;> rfl
theorem like_act {x y : Ob} (h : y.Like x) (hx : x.Inv) (o : OpO) : (y.act o).1.Like (x.act o).1 ∧ (y.act o).2 = (x.act o).2 := by
  have hk : y.kd = x.kd := h.kd
  unfold Ob.act
  rw [hk]
  split
  · cases x with
    | doc s =>
      cases y with
      | doc s' =>
        obtain rfl : s' = s := h
        exact ⟨rfl, rfl⟩
      | led D' => exact h.elim
      | sto D' => exact h.elim
    | led D =>
      cases y with
      | doc s' => exact h.elim
      | led D' => exact ⟨(doO_alike h o.l).2, Prod.ext (err_led h o.l) rfl⟩
      | sto D' => exact h.elim
    | sto D =>
      cases y with
      | doc s' => exact h.elim
      | led D' => exact h.elim
      | sto D' => exact ⟨(stock.doO_alike h hx o.s).2, Prod.ext (err_sto h o.s) rfl⟩
  · exact ⟨h, rfl⟩

/-- The first so many commands, done one behind the other. -/
structure Cm where
  o : OpO
  f : Nat
def fold (k : Int) (C : List Cm) (v : Nat) : Ob := (C.take v).foldl (fun x c => (x.act c.o).1) (first k)
theorem fold_zero (k : Int) (C : List Cm) : fold k C 0 = first k := by simp [fold]
theorem fold_succ {k : Int} {C : List Cm} {v : Nat} {c : Cm} (h : C[v]? = some c) : fold k C (v + 1) = ((fold k C v).act c.o).1 := by
  have hv : v < C.length := (List.getElem?_eq_some_iff.1 h).1
  have e : C.take (v + 1) = C.take v ++ [c] := by rw [List.take_add_one, h]; rfl
  unfold fold
  rw [e, List.foldl_append]
  rfl
theorem fold_app {k : Int} {C D : List Cm} {v : Nat} (h : v ≤ C.length) : fold k (C ++ D) v = fold k C v := by
  unfold fold
  rw [List.take_append_of_le_length h]
theorem fold_take {k : Int} {C : List Cm} {n v : Nat} (h : v ≤ n) : fold k (C.take n) v = fold k C v := by
  unfold fold
  rw [List.take_take, Nat.min_eq_left h]
theorem fold_inv (k : Int) (C : List Cm) : ∀ v, (fold k C v).Inv
  | 0 => by rw [fold_zero]; exact inv_first k
  | v + 1 => by
    rcases hv : C[v]? with _ | c
    · have h : C.length ≤ v := List.getElem?_eq_none_iff.1 hv
      have e : fold k C (v + 1) = fold k C v := by
        unfold fold
        rw [List.take_of_length_le (by omega), List.take_of_length_le h]
      rw [e]; exact fold_inv k C v
    · rw [fold_succ hv]; exact inv_act (fold_inv k C v) _
theorem act_kd2 (x : Ob) (o : OpO) : (x.act o).1.kd = x.kd := by
  unfold Ob.act
  split
  · cases x <;> rfl
  · rfl
theorem first_kd {k : Int} (h : k = 1 ∨ k = 2 ∨ k = 3) : (first k).kd = k := by
  rcases h with rfl | rfl | rfl <;> rfl
theorem fold_kd {k : Int} (hk : k = 1 ∨ k = 2 ∨ k = 3) (C : List Cm) : ∀ v, (fold k C v).kd = k
  | 0 => by rw [fold_zero]; exact first_kd hk
  | v + 1 => by
    rcases hv : C[v]? with _ | c
    · have h : C.length ≤ v := List.getElem?_eq_none_iff.1 hv
      have e : fold k C (v + 1) = fold k C v := by
        unfold fold
        rw [List.take_of_length_le (by omega), List.take_of_length_le h]
      rw [e]; exact fold_kd hk C v
    · rw [fold_succ hv, act_kd2]; exact fold_kd hk C v

/-- Commands that were done, each one well. -/
def Did (k : Int) (C : List Cm) : Prop := ∀ (i : Nat) c, C[i]? = some c → rep.OpO.Good c.o ∧ ((fold k C i).act c.o).2.1 = 0 ∧ c.f < 1000000000
theorem Did.nil (k : Int) : Did k [] := fun i c h => by simp at h
theorem Did.snoc {k : Int} {C : List Cm} (h : Did k C) {c : Cm} (h1 : rep.OpO.Good c.o) (h2 : ((fold k C C.length).act c.o).2.1 = 0) (h3 : c.f < 1000000000) : Did k (C ++ [c]) := fun i d hd => by
  rcases Nat.lt_or_ge i C.length with hi | hi
  · rw [List.getElem?_append_left hi] at hd
    rw [fold_app (by omega)]
    exact h i d hd
  · rw [List.getElem?_append_right hi] at hd
    have hi0 : i - C.length = 0 := by
      have := (List.getElem?_eq_some_iff.1 hd).1
      simp at this
      omega
    rw [hi0] at hd
    obtain rfl : c = d := by simpa using hd
    obtain rfl : i = C.length := by omega
    rw [fold_app (Nat.le_refl _)]
    exact ⟨h1, h2, h3⟩
theorem Did.take {k : Int} {C : List Cm} (h : Did k C) (n : Nat) : Did k (C.take n) := fun i c hc => by
  have hi : i < n := by
    have := (List.getElem?_eq_some_iff.1 hc).1
    rw [List.length_take] at this
    omega
  rw [List.getElem?_take_of_lt hi] at hc
  rw [fold_take (by omega)]
  exact h i c hc
/-- An op that was done well, of a kind with the other kinds' parts zero, may be read back. -/
theorem good_of {x : Ob} {o : OpO} (h : (x.act o).2.1 = 0) (h1 : o.k = 1 → o.l = zL ∧ o.s = zS) (h2 : o.k = 2 → o.t = zT ∧ o.s = zS) (h3 : o.k = 3 → o.t = zT ∧ o.l = zL) : rep.OpO.Good o := by
  unfold Ob.act at h
  split at h
  · rename_i hk
    cases x with
    | doc s =>
      refine .inl ⟨hk, ?_, h1 hk⟩
      have h : (text.doT s o.t.k o.t.a o.t.x o.t.n).2.2 = 0 := h
      unfold rep.GT
      unfold text.doT at h
      by_cases hc : text.chk o.t.k o.t.a o.t.x.size o.t.n = 0
      · exact hc
      · rw [if_neg hc] at h; exact absurd h hc
    | led D => exact .inr (.inl ⟨hk, do_chk h, h2 hk⟩)
    | sto D => exact .inr (.inr ⟨hk, stock.doS_chk h, h3 hk⟩)
  · exact absurd h (show ¬ ((5 : Int) = 0) by decide)
end Go.Proofs.YtcdedkgkingbdaaGreatDoor.object
end

section
/- object: Load of what was saved: another object that says the same. -/
namespace Go.Proofs.YtcdedkgkingbdaaGreatDoor.object
open Go Go.RowKit Go.Maps

set_option maxRecDepth 100000 in
set_option maxHeartbeats 1000000 in
theorem loaded_calls (v : Value) (w : World) : Calls Tryz.prog 148 #[v, .int .i64 0] w fun en w' => en = .returned (.tuple #[v, .int .i64 0]) ∧ w = w' := by
  go_enter Tryz.func148, Tryz.ntmps148
  go_wp2_with fail
  go_ret2
  exact ⟨rfl, rfl⟩

def LoadPost (x : Ob) (w : World) (en : Ending) (w' : World) : Prop :=
  ∃ v y, en = .returned (.tuple #[v, .int .i64 0]) ∧ St w' v w.heap.size w'.heap.size y ∧ y.Like x ∧ Below w.heap.size w w'

set_option maxRecDepth 100000 in
set_option maxHeartbeats 1000000 in
theorem oload_calls (x : Ob) (hx : x.Inv) (w : World) : Calls Tryz.prog 106 #[.int .i64 x.kd, .string x.save] w (LoadPost x w) := by
  cases x with
  | doc s =>
    have hs : s.size ≤ 200 := hx
    show Calls Tryz.prog 106 #[.int .i64 1, .string (text.encT s)] w _
    go_enter Tryz.func106, Tryz.ntmps106
    go_wp2_with fail
    refine (text.dload_calls s w hs).mono ?_
    rintro en w2 ⟨e, rfl, h2, h3, b2⟩
    have H3 := Lib.hid (show _ ∧ _ ∧ _ from ⟨h3, h2, b2⟩)
    clear h3 b2 h2
    go_wp2_with fail
    refine (loaded_calls (.iface 169 (pv e)) w2).mono ?_
    rintro en w3 ⟨rfl, rfl⟩
    go_wp2_with fail
    go_ret2
    exact ⟨_, .doc s, rfl, ⟨e, rfl, H3.out.2.1, Has.lt H3.out.1, H3.out.1, hs⟩, rfl, H3.out.2.2⟩
  | led D =>
    have I := Lib.hid (show InvF D from hx)
    show Calls Tryz.prog 106 #[.int .i64 2, .string (saveB D)] w _
    go_enter Tryz.func106, Tryz.ntmps106
    go_wp2_with fail
    refine (bload_calls D w I.out).mono ?_
    rintro en w2 ⟨e, n, E, rfl, h2, al, b2, hd, hm⟩
    have H2 := Lib.hid (show _ ∧ _ ∧ _ ∧ _ ∧ _ from ⟨h2, al, b2, hd, hm⟩)
    clear h2 b2 al hd hm
    go_wp2_with fail
    refine (loaded_calls (.iface 173 (pv e)) w2).mono ?_
    rintro en w3 ⟨rfl, rfl⟩
    go_wp2_with fail
    go_ret2
    exact ⟨_, .led E, rfl, ⟨e, n, rfl, H2.out.2.2.2.1, H2.out.1.box.lt, H2.out.2.2.2.2, World.ownsMap.lt H2.out.1.map, H2.out.1, H2.out.2.1.inv I.out⟩, H2.out.2.1, H2.out.2.2.1⟩
  | sto D =>
    have I := Lib.hid (show stock.InvS D from hx)
    show Calls Tryz.prog 106 #[.int .i64 3, .string (saveB D)] w _
    go_enter Tryz.func106, Tryz.ntmps106
    go_wp2_with fail
    refine (stock.sload_calls D w I.out).mono ?_
    rintro en w2 ⟨e, n, E, rfl, h2, al, b2, hd, hm⟩
    have H2 := Lib.hid (show _ ∧ _ ∧ _ ∧ _ ∧ _ from ⟨h2, al, b2, hd, hm⟩)
    clear h2 b2 al hd hm
    go_wp2_with fail
    refine (loaded_calls (.iface 177 (pv e)) w2).mono ?_
    rintro en w3 ⟨rfl, rfl⟩
    go_wp2_with fail
    go_ret2
    exact ⟨_, .sto E, rfl, ⟨e, n, rfl, H2.out.2.2.2.1, H2.out.1.box.lt, H2.out.2.2.2.2, World.ownsMap.lt H2.out.1.map, H2.out.1, stock.Alike.invS H2.out.2.1 I.out⟩, H2.out.2.1, H2.out.2.2.1⟩
end Go.Proofs.YtcdedkgkingbdaaGreatDoor.object
end

section
/- tower, of no program: nodes in a row, their towers, what a node's tower points at. -/
namespace Go.Proofs.YtcdedkgkingbdaaGreatDoor
open Go.RowKit

theorem below_drewN {B : Nat} {w w' : World} (h : Below B w w') (n : Nat) : Below B w (w'.drewN n) := ⟨h.os, h.tape, h.output, h.size, h.block⟩

/-- A version, what is kept of it, how high its tower is; its block, and its tower's. -/
structure Nd (V : Type) where
  a : Int
  v : V
  k : Nat
  g : Nat
  r : Nat

def ptrV : Option Nat → Value
  | none => .pointer none
  | some g => .pointer (some ⟨g, 0, none⟩)

section
variable {V : Type}

/-- The first one that is on level h. -/
def nx (h : Nat) : List (Nd V) → Option Nat
  | [] => none
  | x :: l => if h < x.k then some x.g else nx h l

theorem nx_hit {h : Nat} {x : Nd V} (hx : h < x.k) (l : List (Nd V)) : nx h (x :: l) = some x.g := if_pos hx
theorem nx_miss {h : Nat} {x : Nd V} (hx : ¬ h < x.k) (l : List (Nd V)) : nx h (x :: l) = nx h l := if_neg hx
theorem nx_append (h : Nat) (l t : List (Nd V)) : nx h (l ++ t) = if (nx h l).isSome then nx h l else nx h t := by
  induction l with
  | nil => rfl
  | cons x l ih =>
    rw [List.cons_append]
    by_cases hx : h < x.k
    · rw [nx_hit hx, nx_hit hx]; rfl
    · rw [nx_miss hx, nx_miss hx]; exact ih

theorem nx_congr {h : Nat} {l t t' : List (Nd V)} (e : nx h t = nx h t') : nx h (l ++ t) = nx h (l ++ t') := by
  rw [nx_append, nx_append, e]

theorem nx_none {h : Nat} {l : List (Nd V)} (hl : ∀ y ∈ l, y.k ≤ h) : nx h l = none := by
  induction l with
  | nil => rfl
  | cons x l ih =>
    unfold nx
    rw [if_neg (by have := hl x (by simp); omega)]
    exact ih (fun y hy => hl y (by simp [hy]))

theorem nx_low {h : Nat} {l t : List (Nd V)} (hl : ∀ y ∈ l, y.k ≤ h) : nx h (l ++ t) = nx h t := by
  rw [nx_append, nx_none hl]; rfl

theorem nx_past {h : Nat} {l : List (Nd V)} {c : Nd V} (hc : h < c.k) (m t t' : List (Nd V)) : nx h (l ++ c :: m ++ t) = nx h (l ++ c :: m ++ t') := by
  induction l with
  | nil => simp [nx, hc]
  | cons x l ih =>
    simp only [List.cons_append] at ih ⊢
    unfold nx
    by_cases hx : h < x.k
    · rw [if_pos hx, if_pos hx]
    · rw [if_neg hx, if_neg hx]; exact ih

theorem nx_cases (h : Nat) (l : List (Nd V)) : (nx h l = none ∧ ∀ z ∈ l, z.k ≤ h) ∨ ∃ l1 y l2, l = l1 ++ y :: l2 ∧ h < y.k ∧ (∀ z ∈ l1, z.k ≤ h) ∧ nx h l = some y.g := by
  induction l with
  | nil => exact .inl ⟨rfl, fun z hz => by cases hz⟩
  | cons x l ih =>
    by_cases hx : h < x.k
    · exact .inr ⟨[], x, l, rfl, hx, (by intro z hz; cases hz), nx_hit hx _⟩
    · rcases ih with ⟨e, hl⟩ | ⟨l1, y, l2, rfl, hy, hl, e⟩
      · refine .inl ⟨by rw [nx_miss hx]; exact e, fun z hz => ?_⟩
        rcases List.mem_cons.1 hz with rfl | hz
        · omega
        · exact hl z hz
      · refine .inr ⟨x :: l1, y, l2, rfl, hy, fun z hz => ?_, by rw [nx_miss hx]; exact e⟩
        rcases List.mem_cons.1 hz with rfl | hz
        · omega
        · exact hl z hz

theorem nx_zero {l : List (Nd V)} (hk : ∀ x ∈ l, 0 < x.k) : nx 0 l = l.head?.map (·.g) := by
  cases l with
  | nil => rfl
  | cons x l => unfold nx; rw [if_pos (hk x (by simp))]; rfl

/-- A tower's cells: what comes first behind, on each level; behind l comes T h on level h. -/
def rowT (k : Nat) (l : List (Nd V)) (T : Nat → List (Nd V)) : Array Value := ((List.range k).map fun h => ptrV (nx h (l ++ T h))).toArray

theorem rowT_size (k : Nat) (l : List (Nd V)) (T : Nat → List (Nd V)) : (rowT k l T).size = k := by simp [rowT]
theorem rowT_at {k h : Nat} (hh : h < k) (l : List (Nd V)) (T : Nat → List (Nd V)) : (rowT k l T)[h]? = some (ptrV (nx h (l ++ T h))) := by simp [rowT, hh]
theorem rowT_congr {k : Nat} {l l' : List (Nd V)} {T T' : Nat → List (Nd V)} (e : ∀ h, h < k → nx h (l ++ T h) = nx h (l' ++ T' h)) : rowT k l T = rowT k l' T' := by
  unfold rowT
  congr 1
  exact List.map_congr_left fun h hh => by rw [e h (List.mem_range.1 hh)]
theorem rowT_set {k h : Nat} (l l' : List (Nd V)) (T T' : Nat → List (Nd V)) (e : ∀ i, i < k → i ≠ h → nx i (l ++ T i) = nx i (l' ++ T' i)) (v : Value) (hv : h < k → v = ptrV (nx h (l' ++ T' h))) :
    (rowT k l T).setIfInBounds h v = rowT k l' T' := by
  apply Array.ext_getElem?
  intro i
  rw [Array.getElem?_setIfInBounds, rowT_size]
  by_cases hi : i < k
  · rw [rowT_at hi, rowT_at hi]
    by_cases hh : h = i
    · subst hh
      rw [if_pos rfl, if_pos hi, hv hi]
    · rw [if_neg hh, e i hi (fun x => hh x.symm)]
  · have h1 : (rowT k l T)[i]? = none := Array.getElem?_eq_none (by rw [rowT_size]; omega)
    have h2 : (rowT k l' T')[i]? = none := Array.getElem?_eq_none (by rw [rowT_size]; omega)
    rw [h1, h2]
    by_cases hh : h = i
    · rw [if_pos hh, if_neg (by omega)]
    · rw [if_neg hh]

/-- The nodes lie in memory; behind the last one comes T h on level h. -/
def Lay (w : World) (tn tp : TypeId) (mk : V → Value) (T : Nat → List (Nd V)) : List (Nd V) → Prop
  | [] => True
  | x :: l => Has w x.g tn #[.int .i64 x.a, mk x.v, .slice (some ⟨x.r, 0, none⟩) x.k x.k] ∧ Has w x.r tp (rowT x.k l T) ∧ Lay w tn tp mk T l

variable {w w' : World} {tn tp : TypeId} {mk : V → Value} {T T' : Nat → List (Nd V)} {L : List (Nd V)}

theorem Lay.congr (h : Lay w tn tp mk T L) (e : ∀ i, nx i (T i) = nx i (T' i)) : Lay w tn tp mk T' L := by
  induction L with
  | nil => trivial
  | cons x l ih =>
    refine ⟨h.1, ?_, ih h.2.2⟩
    rw [← rowT_congr (fun i _ => nx_congr (e i))]
    exact h.2.1

theorem Lay.append {A B : List (Nd V)} : Lay w tn tp mk T (A ++ B) ↔ Lay w tn tp mk (fun i => B ++ T i) A ∧ Lay w tn tp mk T B := by
  induction A with
  | nil => exact ⟨fun h => ⟨trivial, h⟩, fun h => h.2⟩
  | cons x A ih =>
    have e : rowT x.k (A ++ B) T = rowT x.k A (fun i => B ++ T i) := by unfold rowT; simp only [List.append_assoc]
    constructor
    · intro h
      exact ⟨⟨h.1, e ▸ h.2.1, (ih.1 h.2.2).1⟩, (ih.1 h.2.2).2⟩
    · intro h
      exact ⟨h.1.1, e.symm ▸ h.1.2.1, ih.2 ⟨h.1.2.2, h.2⟩⟩

theorem Lay.mem (h : Lay w tn tp mk T L) {x : Nd V} (hx : x ∈ L) : x.g < w.heap.size ∧ x.r < w.heap.size := by
  induction L with
  | nil => cases hx
  | cons y l ih =>
    rcases List.mem_cons.1 hx with rfl | hx
    · exact ⟨h.1.lt, h.2.1.lt⟩
    · exact ih h.2.2 hx

theorem Lay.turn {F : Nat → Prop} (h : Lay w tn tp mk T L) (t : Turn F w w') (hF : ∀ x ∈ L, ¬ F x.g ∧ ¬ F x.r) : Lay w' tn tp mk T L := by
  induction L with
  | nil => trivial
  | cons x l ih =>
    have := hF x (by simp)
    exact ⟨h.1.turn t this.1, h.2.1.turn t this.2, ih h.2.2 (fun y hy => hF y (by simp [hy]))⟩

theorem Lay.at_ {X Y : List (Nd V)} {c : Nd V} (h : Lay w tn tp mk T (X ++ c :: Y)) : Has w c.g tn #[.int .i64 c.a, mk c.v, .slice (some ⟨c.r, 0, none⟩) c.k c.k] ∧ Has w c.r tp (rowT c.k Y T) := by
  have := (Lay.append.1 h).2
  exact ⟨this.1, this.2.1⟩

/-- A block of another kind isn't a node's, or isn't a tower's. -/
theorem Lay.not_g (h : Lay w tn tp mk T L) {b : Nat} {t : TypeId} {cs : Array Value} (hb : Has w b t cs) (ht : t ≠ tn) : ∀ x ∈ L, x.g ≠ b := by
  induction L with
  | nil => intro x hx; cases hx
  | cons y l ih =>
    intro x hx
    rcases List.mem_cons.1 hx with rfl | hx
    · intro e
      have := h.1
      rw [e] at this
      exact ht (hb.uniq this).2
    · exact ih h.2.2 x hx
theorem Lay.not_r (h : Lay w tn tp mk T L) {b : Nat} {t : TypeId} {cs : Array Value} (hb : Has w b t cs) (ht : t ≠ tp) : ∀ x ∈ L, x.r ≠ b := by
  induction L with
  | nil => intro x hx; cases hx
  | cons y l ih =>
    intro x hx
    rcases List.mem_cons.1 hx with rfl | hx
    · intro e
      have := h.2.1
      rw [e] at this
      exact ht (hb.uniq this).2
    · exact ih h.2.2 x hx

/-- c is the last one that is on level h. -/
def On (L : List (Nd V)) (h : Nat) (c : Nd V) : Prop := ∃ X Y, L = X ++ c :: Y ∧ h < c.k ∧ ∀ y ∈ Y, y.k ≤ h

/-- What the last one on level h points at is turned. -/
theorem Lay.set {h : Nat} {c : Nd V} (hl : Lay w tn tp mk T L) (ho : On L h c) (hne : tn ≠ tp) (hr : (L.map (·.r)).Nodup) (e : ∀ i, i ≠ h → nx i (T i) = nx i (T' i)) :
    Lay (w.setCell ⟨c.r, h, none⟩ (ptrV (nx h (T' h)))) tn tp mk T' L := by
  obtain ⟨X, Y, rfl, hc, hY⟩ := ho
  have hcr := hl.at_.2
  have hg := hl.not_g hcr (fun e => hne e.symm)
  clear hcr
  induction X with
  | nil =>
    rw [List.nil_append] at hl hr hg ⊢
    rw [List.map_cons, List.nodup_cons] at hr
    refine ⟨hl.1.far (hg c (by simp)) _, ?_, ?_⟩
    · have h2 := hl.2.1.put h (ptrV (nx h (T' h)))
      rw [rowT_set Y Y T T' (fun i _ hi => nx_congr (e i hi)) _ (fun _ => by rw [nx_low hY])] at h2
      exact h2
    · have h3 := hl.2.2
      have hr2 := hr.1
      clear hr hl
      induction Y with
      | nil => trivial
      | cons y Y ih =>
        rw [List.map_cons, List.mem_cons] at hr2
        refine ⟨h3.1.far (hg y (by simp)) _, ?_, ih (fun z hz => hY z (by simp [hz])) (fun z hz => hg z (by
          rcases List.mem_cons.1 hz with rfl | hz
          · simp
          · simp [hz])) h3.2.2 (fun hm => hr2 (.inr hm))⟩
        have h4 := h3.2.1.far (p := ⟨c.r, h, none⟩) (fun e => hr2 (.inl e.symm)) (ptrV (nx h (T' h)))
        rw [rowT_congr (fun i hi => nx_congr (e i (by have := hY y (by simp); omega)))] at h4
        exact h4
  | cons x X ih =>
    rw [List.cons_append] at hl hr hg ⊢
    rw [List.map_cons, List.nodup_cons] at hr
    have hxr : x.r ≠ c.r := fun e => hr.1 (by rw [e]; simp)
    refine ⟨hl.1.far (hg x (by simp)) _, ?_, ih hl.2.2 hr.2 (fun z hz => hg z (List.mem_cons_of_mem _ hz))⟩
    have h4 := hl.2.1.far (p := ⟨c.r, h, none⟩) hxr (ptrV (nx h (T' h)))
    rw [rowT_congr (T' := T') (l' := X ++ c :: Y) (fun i hi => by
      by_cases hih : i = h
      · subst hih; exact nx_past hc Y _ _
      · exact nx_congr (e i hih))] at h4
    exact h4

/-- A far block is turned. -/
theorem Lay.far (hl : Lay w tn tp mk T L) {p : Addr} (hp : ∀ x ∈ L, x.g ≠ p.block ∧ x.r ≠ p.block) (u : Value) : Lay (w.setCell p u) tn tp mk T L := by
  induction L with
  | nil => trivial
  | cons x l ih =>
    have := hp x (by simp)
    exact ⟨hl.1.far this.1 u, hl.2.1.far this.2 u, ih hl.2.2 (fun y hy => hp y (by simp [hy]))⟩

theorem nx_value (h : Nat) (X Y : List (Nd V)) (y : Nd V) (v : V) : nx h (X ++ { y with v := v } :: Y) = nx h (X ++ y :: Y) := by
  rw [nx_append, nx_append (t := y :: Y)]
  rfl
/-- What is kept of a version is turned. -/
theorem Lay.value {X Y : List (Nd V)} {y : Nd V} (hl : Lay w tn tp mk T (X ++ y :: Y)) (hne : tn ≠ tp) (hg : ((X ++ y :: Y).map (·.g)).Nodup) (v : V) : Lay (w.setCell ⟨y.g, 1, none⟩ (mk v)) tn tp mk T (X ++ { y with v := v } :: Y) := by
  have hr := hl.not_r hl.at_.1 hne
  induction X with
  | nil =>
    rw [List.nil_append] at hl hg hr ⊢
    rw [List.map_cons, List.nodup_cons] at hg
    refine ⟨?_, hl.2.1.far (hr y (by simp)) _, hl.2.2.far (fun x hx => ⟨fun e => hg.1 (by rw [← show x.g = y.g from e]; exact List.mem_map_of_mem hx), hr x (by simp [hx])⟩) _⟩
    have := hl.1.put 1 (mk v)
    simpa using this
  | cons x X ih =>
    rw [List.cons_append] at hl hg hr ⊢
    rw [List.map_cons, List.nodup_cons] at hg
    refine ⟨hl.1.far (fun e => hg.1 (by rw [show x.g = y.g from e]; simp)) _, ?_, ih hl.2.2 hg.2 (fun z hz => hr z (List.mem_cons_of_mem _ hz))⟩
    have := hl.2.1.far (p := ⟨y.g, 1, none⟩) (hr x (by simp)) (mk v)
    rw [rowT_congr (T' := T) (l' := X ++ { y with v := v } :: Y) (fun i _ => by rw [List.append_assoc, List.append_assoc, List.cons_append, List.cons_append]; exact (nx_value i X _ y v).symm)] at this
    exact this

/-- How many a search goes past: those that none behind is higher than. -/
def stp : List (Nd V) → Nat
  | [] => 0
  | x :: l => stp l + if l.all (fun y => decide (y.k ≤ x.k)) then 1 else 0

theorem stp_cons (x : Nd V) (l : List (Nd V)) : stp (x :: l) = stp l + if l.all (fun y => decide (y.k ≤ x.k)) then 1 else 0 := rfl
theorem stp_le (l : List (Nd V)) : stp l ≤ l.length := by
  induction l with
  | nil => exact Nat.le_refl _
  | cons x l ih => rw [stp_cons, List.length_cons]; split <;> omega
theorem stp_hit {h : Nat} {l1 l2 : List (Nd V)} {y : Nd V} (h1 : ∀ z ∈ l1, z.k ≤ h) (hy : h < y.k) (h2 : ∀ z ∈ l2, z.k ≤ y.k) : stp (l1 ++ y :: l2) = stp l2 + 1 := by
  induction l1 with
  | nil =>
    rw [List.nil_append, stp_cons, if_pos (by rw [List.all_eq_true]; intro z hz; exact decide_eq_true (h2 z hz))]
  | cons x l1 ih =>
    have hx := h1 x (by simp)
    rw [List.cons_append, stp_cons, if_neg (by
      rw [List.all_eq_true]
      intro hh
      have := of_decide_eq_true (hh y (by simp))
      omega), Nat.add_zero]
    exact ih (fun z hz => h1 z (by simp [hz]))

end
end Go.Proofs.YtcdedkgkingbdaaGreatDoor
end

section
/- tower: the table of trailing zeros; how high a tower is: the code's Height, and the document's. -/
namespace Go.Proofs.YtcdedkgkingbdaaGreatDoor.tow
open Go Go.RowKit

/-- The table that is laid; its block lies below B. -/
structure Tz (B : Nat) (w : World) : Prop where
  tz : ∀ (i x : Nat), Lib.deBruijn64tab[i]? = some x → w.cell? ⟨2, i, none⟩ = some (.int .u8 (x : Int))
  lo : 2 < B
  size : B ≤ w.heap.size
section
variable {B : Nat} {w w' : World}
theorem Tz.keep (h : Tz B w) (s : w.heap.size ≤ w'.heap.size) (e : ∀ k, k < B → w'.heap[k]? = w.heap[k]?) : Tz B w' :=
  ⟨fun i x hx => by
    have := h.tz i x hx
    unfold World.cell? at *
    rw [e _ h.lo]
    exact this, h.lo, Nat.le_trans h.size s⟩
theorem Tz.below {C : Nat} (h : Tz B w) (b : Below C w w') (hC : B ≤ C) : Tz B w' := h.keep b.size fun k hk => b.block k (by omega)
theorem Tz.turn {F : Nat → Prop} (h : Tz B w) (t : Turn F w w') (hF : ∀ k, F k → B ≤ k) : Tz B w' :=
  h.keep t.size fun k hk => t.block k (by have := h.size; omega) (fun f => by have := hF k f; omega)
end

set_option maxRecDepth 100000 in
set_option maxHeartbeats 1000000 in
theorem zeros64_calls (B n : Nat) (w : World) (hR : Tz B w) (hn : 0 < n) (hn2 : n < 18446744073709551616) :
    Calls Tryz.prog 165 #[.int .u64 n] w fun en w' => en = .returned (.int .i64 (Lib.ctz 64 n)) ∧ w = w' := by
  obtain ⟨hlow, hj⟩ := Lib.lowest_bit 64 n (by omega) hn2
  obtain ⟨j, hjj⟩ : ∃ j, j = Lib.ctz 64 n := ⟨_, rfl⟩
  rw [← hjj] at hlow hj ⊢
  have h2 := Lib.deBruijn64_at j hj
  have h00 : (n : Int) ≠ 0 := by omega
  obtain ⟨q, hq⟩ : ∃ q, q = 2 ^ j * 285870213051353865 % 18446744073709551616 / 288230376151711744 := ⟨_, rfl⟩
  rw [← hq] at h2
  have c0 : w.cell? ⟨2, q, none⟩ = some (.int .u8 (j : Int)) := hR.tz q j (by
    have hl : q < Lib.deBruijn64tab.length := h2.1
    rw [List.getElem?_eq_getElem hl, ← h2.2, List.getD_eq_getElem?_getD, List.getElem?_eq_getElem hl]
    rfl)
  have hq64 : (q : Int) < 64 := by have := h2.1; omega
  have hq0 : (0 : Int) ≤ (q : Int) := by omega
  have hj0 : (j : Int) < 64 := by omega
  have hneg : IntKind.u64.wrap (-(n : Int)) = ((18446744073709551616 - n : Nat) : Int) := by
    show (-(n : Int)) % 18446744073709551616 = _
    omega
  have h1 : bits .and .u64 (n : Int) (IntKind.u64.wrap (-(n : Int))) = ((2 ^ j : Nat) : Int) := by
    rw [hneg, bits_and_u64_nat n _ hn2 (by omega)]
    exact congrArg _ hlow
  obtain ⟨p, hp⟩ : ∃ p, p = 2 ^ j := ⟨_, rfl⟩
  rw [← hp] at hq h1
  have h3 : IntKind.u64.wrap ((p : Int) * 285870213051353865) / 288230376151711744 = (q : Int) := by
    show (p : Int) * 285870213051353865 % 18446744073709551616 / 288230376151711744 = (q : Int)
    rw [hq]
    simp only [Int.natCast_ediv, Int.natCast_emod, Int.natCast_mul]
    rfl
  clear h2 hq hlow hneg hp hjj hn hn2
  go_enter Tryz.func165, Tryz.ntmps165
  go_wp2_with fail
  go_ret
  exact ⟨rfl, rfl⟩

set_option maxRecDepth 100000 in
set_option maxHeartbeats 1000000 in
theorem zeros_calls (B n : Nat) (w : World) (hR : Tz B w) (hn : 0 < n) (hn2 : n < 18446744073709551616) :
    Calls Tryz.prog 121 #[.int .u64 n] w fun en w' => en = .returned (.int .i64 (Lib.ctz 64 n)) ∧ w = w' := by
  have H := Lib.hid (zeros64_calls B n w hR hn hn2)
  generalize Lib.ctz 64 n = j at *
  go_enter Tryz.func121, Tryz.ntmps121
  go_wp2_with (first
    | (go_at_call 165; refine H.out.mono ?_; rintro e w' ⟨rfl, rfl⟩)
    | fail)
  go_ret
  exact ⟨rfl, rfl⟩

/-- How high a version's tower is. -/
def hgt (a : Int) : Nat := if a ≤ 0 then 10 else min (Lib.ctz 64 a.toNat + 1) 10
theorem hgt_bounds (a : Int) : 1 ≤ hgt a ∧ hgt a ≤ 10 := by unfold hgt; split <;> omega
set_option maxRecDepth 100000 in
set_option maxHeartbeats 1000000 in
theorem height_calls (B : Nat) (a : Int) (w : World) (hR : Tz B w) (ha : a ≤ 9223372036854775807) :
    Calls Tryz.prog 91 #[.int .i64 a] w fun en w' => en = .returned (.int .i64 (hgt a)) ∧ w = w' := by
  by_cases h0 : a ≤ 0
  · have e : hgt a = 10 := if_pos h0
    rw [e]
    clear e ha
    go_enter Tryz.func91, Tryz.ntmps91
    go_wp2_with fail
    go_ret
    exact ⟨rfl, rfl⟩
  · obtain ⟨n, rfl⟩ := Int.eq_ofNat_of_zero_le (show 0 ≤ a by omega)
    have hz := zeros_calls B n w hR (by omega) (by omega)
    have e : (hgt (n : Int) : Int) = if 10 < ((Lib.ctz 64 n : Nat) : Int) + 1 then 10 else ((Lib.ctz 64 n : Nat) : Int) + 1 := by
      unfold hgt
      rw [if_neg h0]
      show ((min (Lib.ctz 64 n + 1) 10 : Nat) : Int) = _
      split <;> omega
    obtain ⟨j, hj⟩ : ∃ j, j = Lib.ctz 64 n := ⟨_, rfl⟩
    have hjb : (j : Int) < 64 := by have := (Lib.lowest_bit 64 n (by omega) (by omega)).2; omega
    have hj0 : (0 : Int) ≤ (j : Int) := by omega
    rw [← hj] at hz e
    rw [e]
    have HZ := Lib.hid hz
    have i1 : IntKind.u64.wrap (n : Int) = (n : Int) := IntWalk.u64_in _ ⟨by omega, by omega⟩
    clear hz hj e
    go_enter Tryz.func91, Tryz.ntmps91
    go_wp2_with fail
    refine HZ.out.mono ?_
    rintro en w1 ⟨rfl, rfl⟩
    go_wp2_with fail
    all_goals
      go_ret
      first
        | exact ⟨rfl, rfl⟩
        | (refine ⟨?_, rfl⟩
           show Ending.returned (Value.int .i64 (min ((j : Int) + 1) 10)) = Ending.returned (Value.int .i64 _)
           congr 2
           first | omega | (split <;> omega))

end Go.Proofs.YtcdedkgkingbdaaGreatDoor.tow
end

