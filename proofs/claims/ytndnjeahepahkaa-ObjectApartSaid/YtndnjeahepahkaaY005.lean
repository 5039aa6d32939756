/- Texts laid into one: LedT, LedU, LedV, StoA, StoB, StoN, StoC. -/
import Derived.Test.YtndnjeahepahkaaY004
import Derived.Shelf.SlGeneric
import Derived.Shelf.SlicesE.DeleteFunc
import Derived.Ground.SlgfProg
import Derived.Test.YtndnjeahepahkaaY003
import Derived.Shelf.SlIter.Nil
import Derived.Shelf.SortM.Plain
import Derived.Shelf.SortM.SortNone
import Derived.Ground.GgzProg
import Derived.Ground.SlgmProg
section
/- ledger: the laws' own awake answers true. -/
namespace Go.Proofs.Ytndnjeahepahkaa
open Go.RowKit Go.Maps Go.Sort

section
variable {H : Type}

def nameA : ByteArray := ⟨#[97]⟩
def opA1 : OpL := ⟨1, ⟨#[97]⟩, ⟨#[]⟩, 0⟩
def opA2 : OpL := ⟨3, ⟨#[]⟩, ⟨#[97]⟩, 5⟩
def DA1 : DataW H := (doO D0 opA1).1
def DA2 : DataW H := (doO DA1 opA2).1

theorem nameA_ne : (⟨#[97]⟩ : ByteArray) ≠ ⟨#[]⟩ := by decide
theorem nameA_list : (⟨#[97]⟩ : ByteArray).toList = [97] := by rw [ByteArray.toList_eq]

theorem d0_in (s : ByteArray) : isIn (D0 (H := H)) s = if s = ⟨#[]⟩ then true else false := by
  have := isIn_put (H := H) (D := .map []) isMap_empty ⟨#[]⟩ s (nI 0)
  exact this
theorem d0_amt (s : ByteArray) : amt (D0 (H := H)) s = 0 := by
  have := amt_put (H := H) (D := .map []) isMap_empty ⟨#[]⟩ s 0
  refine this.trans ?_
  split
  · rfl
  · exact amt_absent rfl
theorem d0_size : Maps.size (D0 (H := H)) = 1 := rfl

theorem a1_ok : (doO (D0 (H := H)) opA1).2 = 0 := by
  refine do_ok.2 ⟨?_, fun _ => ⟨?_, by rw [d0_size]; omega⟩, fun e => absurd e (by decide), fun e => absurd e (by decide)⟩
  · show chkL 1 ⟨#[97]⟩ ⟨#[]⟩ 0 = 0
    unfold chkL
    rw [if_pos (.inl rfl), if_pos ⟨by rw [nameA_list]; simp, list_nil0, rfl, by decide, by decide⟩]
  · show isIn D0 ⟨#[97]⟩ = false
    rw [d0_in, if_neg nameA_ne]

theorem a1_eff (x : ByteArray) : isIn (DA1 (H := H)) x = (if x = ⟨#[97]⟩ then true else if x = ⟨#[]⟩ then true else false) ∧ amt (DA1 (H := H)) x = 0 := by
  have h := do_eff (inv_new (H := H)).tidy.isMap a1_ok x
  refine ⟨h.1.trans ?_, h.2.trans ?_⟩
  · show isInD 1 ⟨#[97]⟩ (isIn D0 x) x = _
    unfold isInD
    rw [d0_in]
    by_cases hx : x = ⟨#[97]⟩
    · rw [if_pos ⟨rfl, hx⟩, if_pos hx]
    · rw [if_neg (fun e => hx e.2), if_neg (fun e => absurd e.1 (by decide)), if_neg hx]
  · show amt D0 x + 0 = 0
    rw [d0_amt]
    rfl

theorem a2_ok : (doO (DA1 (H := H)) opA2).2 = 0 := by
  refine do_ok.2 ⟨?_, fun e => absurd e (by decide), fun e => absurd e (by decide), fun _ => ⟨?_, ?_, fun e => absurd rfl e, fun _ => ?_⟩⟩
  · show chkL 3 ⟨#[]⟩ ⟨#[97]⟩ 5 = 0
    unfold chkL
    rw [if_neg (by decide), if_pos rfl, if_pos ⟨by rw [nameA_list, list_nil0]; simp, by decide, by decide, by decide, by decide⟩]
  · exact (a1_eff ⟨#[]⟩).1.trans (by rw [if_neg nameA_ne.symm]; rfl)
  · exact (a1_eff ⟨#[97]⟩).1.trans (if_pos rfl)
  · show amt DA1 ⟨#[97]⟩ + 5 ≤ _
    rw [(a1_eff _).2]
    decide

theorem a2_eff : amt (DA2 (H := H)) ⟨#[97]⟩ = 5 ∧ isIn (DA2 (H := H)) ⟨#[97]⟩ = true ∧ amt (DA2 (H := H)) ⟨#[]⟩ = -5 := by
  have h := do_eff (H := H) (invF_doO invF_new opA1).inv.tidy.isMap a2_ok
  have h1 := h ⟨#[97]⟩
  have h2 := h ⟨#[]⟩
  have e1 : amt (DA2 (H := H)) ⟨#[97]⟩ = amt DA1 ⟨#[97]⟩ + dlt 3 ⟨#[]⟩ ⟨#[97]⟩ 5 ⟨#[97]⟩ := h1.2
  have e2 : amt (DA2 (H := H)) ⟨#[]⟩ = amt DA1 ⟨#[]⟩ + dlt 3 ⟨#[]⟩ ⟨#[97]⟩ 5 ⟨#[]⟩ := h2.2
  have e3 : isIn (DA2 (H := H)) ⟨#[97]⟩ = isInD 3 ⟨#[]⟩ (isIn DA1 ⟨#[97]⟩) ⟨#[97]⟩ := h1.1
  rw [e1, e2, e3, (a1_eff _).2, (a1_eff _).2, (a1_eff _).1]
  refine ⟨by decide, by decide, by decide⟩

theorem a2_size : Maps.size (DA2 (H := H)) = 2 := by
  have o1 := do_of (H := H) (D := D0) (do_chk (D := D0 (H := H)) (k := 1) (s := ⟨#[97]⟩) (t := ⟨#[]⟩) (n := 0) a1_ok)
  rw [if_pos rfl] at o1
  have e1 : DA1 (H := H) = D0.put (kS ⟨#[97]⟩) (nI 0) := by
    show (doL D0 1 ⟨#[97]⟩ ⟨#[]⟩ 0).1 = _
    rw [o1]
    exact opn_is (by rw [← o1]; exact a1_ok)
  have s1 : Maps.size (DA1 (H := H)) = 2 := by
    rw [e1, size_put (inv_new (H := H)).tidy]
    rw [if_neg (by have := d0_in (H := H) ⟨#[97]⟩; rw [if_neg nameA_ne] at this; unfold isIn at this; rw [this]; simp), d0_size]
  have t1 : Tidy (DA1 (H := H)) := (invF_doO invF_new opA1).inv.tidy
  have o2 := do_of (H := H) (D := DA1) (do_chk (D := DA1 (H := H)) (k := 3) (s := ⟨#[]⟩) (t := ⟨#[97]⟩) (n := 5) a2_ok)
  rw [if_neg (by decide), if_neg (by decide)] at o2
  have e2 : DA2 (H := H) = (DA1.put (kS ⟨#[]⟩) (nI (amt (DA1 (H := H)) ⟨#[]⟩ - 5))).put (kS ⟨#[97]⟩) (nI (amt (DA1 (H := H)) ⟨#[97]⟩ + 5)) := by
    show (doL DA1 3 ⟨#[]⟩ ⟨#[97]⟩ 5).1 = _
    rw [o2]
    exact mov_is (by rw [← o2]; exact a2_ok)
  have i1 : has (DA1 (H := H)) (kS ⟨#[]⟩) = true := (a1_eff (H := H) ⟨#[]⟩).1.trans (by rw [if_neg nameA_ne.symm]; rfl)
  have i2 : has ((DA1 (H := H)).put (kS ⟨#[]⟩) (nI (amt (DA1 (H := H)) ⟨#[]⟩ - 5))) (kS ⟨#[97]⟩) = true := by
    have := isIn_put (H := H) t1.isMap ⟨#[]⟩ ⟨#[97]⟩ (nI (amt (DA1 (H := H)) ⟨#[]⟩ - 5))
    rw [if_neg nameA_ne, (a1_eff _).1, if_pos rfl] at this
    exact this
  rw [e2, size_put (t1.put (kS_key _) _), if_pos i2, size_put t1, if_pos i1, s1]

end

end Go.Proofs.Ytndnjeahepahkaa
end

section
/- ledger: two moves in one (no program's walk); the play of any ops into one book. -/
namespace Go.Proofs.Ytndnjeahepahkaa
open Go.RowKit Go.Maps Go.Sort

section
variable {H : Type}

def opM (to : ByteArray) (n : Int) : OpL := ⟨3, ⟨#[]⟩, to, n⟩

theorem opM_chk {to : ByteArray} {n : Int} (h0 : to ≠ .empty) (hz : to.size ≤ 12) (h1 : 1 ≤ n) (h2 : n ≤ 1099511627776) : chkL 3 ⟨#[]⟩ to n = 0 := by
  unfold chkL
  rw [if_neg (by decide), if_pos rfl, if_pos ⟨fun e => h0 (emp_iff.2 (e.symm.trans list_nil0)), h1, h2, by decide, hz⟩]

theorem opM_ok {D : DataW H} (I : InvF D) {to : ByteArray} {n : Int} (h0 : to ≠ .empty) (hi : isIn D to = true) (h1 : 1 ≤ n) (h2 : amt D to + n ≤ 1099511627776) : (doO D (opM to n)).2 = 0 := by
  have hl := I.inv.lo to h0
  have h3 : n ≤ 1099511627776 := by omega
  exact do_ok.2 ⟨opM_chk h0 (I.keys to hi) h1 h3, fun e => absurd (show (3 : Int) = 1 from e) (by decide), fun e => absurd (show (3 : Int) = 2 from e) (by decide), fun _ => ⟨I.house, hi, fun e => absurd rfl e, fun _ => h2⟩⟩

theorem opM_eff {D : DataW H} (I : InvF D) {to : ByteArray} {n : Int} (h : (doO D (opM to n)).2 = 0) (x : ByteArray) :
    isIn (doO D (opM to n)).1 x = isIn D x ∧ amt (doO D (opM to n)).1 x = amt D x + ((if x = to then n else 0) - (if x = .empty then n else 0)) := by
  have := do_eff I.inv.tidy.isMap h x
  refine ⟨this.1.trans ?_, this.2.trans ?_⟩
  · rfl
  · rfl

theorem moves_math {D : DataW H} (I : InvF D) {to : ByteArray} {a b : Int} (h0 : to ≠ .empty) (hi : isIn D to = true) (ha : 1 ≤ a) (hb : 1 ≤ b) (hab : amt D to + a + b ≤ 1099511627776) :
    (doO D (opM to (a + b))).2 = 0 ∧ ∀ D', Alike D' D → (doO D' (opM to a)).2 = 0 ∧ (doO (doO D' (opM to a)).1 (opM to b)).2 = 0 ∧ Alike (doO (doO D' (opM to a)).1 (opM to b)).1 (doO D (opM to (a + b))).1 := by
  have k0 := opM_ok I h0 hi (n := a + b) (by omega) (by omega)
  refine ⟨k0, fun D' al => ?_⟩
  have I' := al.inv I
  have hi' : isIn D' to = true := (al.same to).1.trans hi
  have e' := (al.same to).2
  have k1 := opM_ok I' h0 hi' (n := a) ha (by omega)
  have f1 := opM_eff I' k1
  have I1 := invF_doO I' (opM to a)
  have k2 := opM_ok I1 h0 ((f1 to).1.trans hi') (n := b) hb (by rw [(f1 to).2, if_pos rfl, if_neg h0]; omega)
  have f2 := opM_eff I1 k2
  have f0 := opM_eff I k0
  refine ⟨k1, k2, (invF_doO I1 _).good, (invF_doO I _).good, fun x => ?_⟩
  rw [(f2 x).1, (f1 x).1, (f0 x).1, (f2 x).2, (f1 x).2, (f0 x).2, (al.same x).1, (al.same x).2]
  refine ⟨rfl, ?_⟩
  split <;> split <;> omega

theorem first_name {D : DataW H} (I : InvF D) (h : 0 < (namesD D).length) : (⟨(namesD D)[0].toArray⟩ : ByteArray) ≠ .empty ∧ isIn D ⟨(namesD D)[0].toArray⟩ = true ∧ (⟨(namesD D)[0].toArray⟩ : ByteArray).size ≤ 12 := by
  have h1 := (mem_namesD I.good _).1 (List.getElem_mem h)
  exact ⟨empty_toArray h1.1, h1.2, I.keys _ h1.2⟩

end

/-- A book that was reached, made since w. -/
structure Own1 (H : Type) (w : World) (d m : Nat) (D : DataW H) (V : World) : Prop where
  bk : Bk V d m D
  inv : InvF D
  newd : w.heap.size ≤ d
  newm : w.heap.size ≤ m
  turn : Turn (fun j => w.heap.size ≤ j) w V

section
variable {H : Type} {w V V' : World} {d m : Nat} {D D' : DataW H}
theorem Own1.more (h : Own1 H w d m D V) (t : Turn (fun j => V.heap.size ≤ j) V V') : Own1 H w d m D V' :=
  ⟨h.bk.turn t (Nat.not_le_of_lt h.bk.box.lt) (Nat.not_le_of_lt (World.ownsMap.lt h.bk.map)), h.inv, h.newd, h.newm, h.turn.trans t (fun _ _ e => Nat.le_trans h.turn.size e)⟩
theorem Own1.below (h : Own1 H w d m D V) (b : Below V.heap.size V V') : Own1 H w d m D V' := h.more (Turn.of_below b (fun _ _ e => e))
theorem Own1.did (h : Own1 H w d m D V) (e : Bk V' d m D') (f : InvF D') (g : V.grownBy V' (some m)) : Own1 H w d m D' V' :=
  ⟨e, f, h.newd, h.newm, h.turn.trans (Turn.of_grown (F := fun j => j = m) g rfl) (fun j _ e => by rw [e]; exact h.newm)⟩
/-- Another book has turned. -/
theorem Own1.far (h : Own1 H w d m D V) {d2 m2 : Nat} {D2 : DataW H} (h2 : Own1 H w d2 m2 D2 V) (hne : m ≠ m2) (g : V.grownBy V' (some m2)) : Own1 H w d m D V' :=
  ⟨h.bk.kept g (fun e => by injection e with e; exact h2.bk.map.ne h.bk.box e.symm) (fun e => by injection e with e; exact hne e), h.inv, h.newd, h.newm, h.turn.trans (Turn.of_grown (F := fun j => j = m2) g rfl) (fun j _ e => by rw [e]; exact h2.newm)⟩
theorem Own1.ends (h : Own1 H w d m D V) : Below w.heap.size w V := h.turn.below (Nat.le_refl _) (fun j hj e => by omega)
end

end Go.Proofs.Ytndnjeahepahkaa
end

section
/- ledger: what Touches gives (slices.DeleteFunc off the shelf). -/
namespace Go.Proofs
open Go.Shelf
shelf_lay_g SlLaysH.n10 Slgf 10 at Try 34 as Try.del10
end Go.Proofs
namespace Go.Proofs.Ytndnjeahepahkaa
open Go.RowKit Go.Maps Go.Sort

/-- The names that an op touches, but the house. -/
def tch (s t : ByteArray) : List (List UInt8) := nb [s.data.toList, t.data.toList]

theorem clo_gives (x : List UInt8) (w : World) : FnGives Try.prog 35 #[] #[encStr x] (.bool x.isEmpty) w := by
  show Calls Try.prog 35 #[encStr x] w _
  unfold encStr
  go_enter Try.func35, Try.ntmps35
  go_wp2_with fail
  all_goals
    go_ret
    exact ⟨by simp_all, 0, rfl⟩

theorem del_strs (blk cap : Nat) (ss : List (List UInt8)) (w : World) (hH : Holds encStr w blk 0 ss.toArray) (hsz : ss.length < 4611686018427387904) (hcap : ss.length ≤ cap) :
    Calls Try.prog 34 #[.slice (some ⟨blk, 0, none⟩) ss.length cap, .func (.func 35) #[] #[]] w fun e w' =>
      e = .returned (.slice (some ⟨blk, 0, none⟩) (nb ss).length cap) ∧ ∃ q, w' = putRow encStr (Sort.ahead w q) blk 0 (nb ss ++ List.replicate (ss.length - (nb ss).length) []).toArray := by
  have eg : ∀ args w, (callFunc 35 args).run Try.prog w = .ok (.enter 35 args) w := enters_of Try.func35 (by kernel_rfl) rfl
  have h := AnyE.slices_DeleteFunc Try.del10 encStr (fun _ => rfl) (fun x => x.isEmpty) 35 #[] eg ([] : List UInt8) (fun w => by kernel_rfl) blk 0 cap ss.toArray w
    (fun W x _ => clo_gives x W) (fun n os dk x _ => clo_gives x _) hH (by simp; omega) (by simpa using hcap)
  exact h

theorem del_row {w : World} {g cap n N : Nat} {ss ts : List (List UInt8)} (hH : Has w g 9 (ts.map encStr).toArray) (hl : ss.length = ts.length) (hc : ts.length = cap) (hcm : cap ≤ maxLen) (hn : n ≤ ss.length) :
    (putRow encStr (Sort.ahead w N) g 0 ss.toArray).ownsRow 0 9 1 (.slice (some ⟨g, 0, none⟩) n cap) n ((ss.take n).map encStr) := by
  have h := ownsRow_sorted (w := w) (n := N) (os := #[]) (e := 9) (ss := ts) hl (Nat.zero_le g) hH (Nat.le_of_eq hc) hcm (by simp [hc])
  have e : ∀ W : World, grow W #[] = W := fun W => by cases W; simp [grow]
  rw [e] at h
  refine ⟨by rw [List.length_map, List.length_take]; omega, ?_⟩
  rcases h.2 with ⟨h1, h2⟩ | ⟨g', cap', cur, h1, h2, h3, h4, h5, h6, h7⟩
  · cases h1
  · injection h1 with k1 k2 k3
    injection k1 with k1
    injection k1 with k1
    subst k1
    subst k3
    refine .inr ⟨g, cap, cur, rfl, h2, h3, by omega, h5, h6, ?_⟩
    have h7' : cur.toList.take (ts.length * 1) = ss.map encStr := h7
    rw [Nat.mul_one] at h7' ⊢
    have : (cur.toList.take ts.length).take n = (ss.map encStr).take n := by rw [h7']
    rw [List.take_take, Nat.min_eq_left (by omega)] at this
    rw [this, List.map_take]

def TchPost (s t : ByteArray) (w : World) (en : Ending) (w' : World) : Prop :=
  ∃ v, en = .returned v ∧ w'.ownsRow 0 9 1 v (tch s t).length ((tch s t).map encStr) ∧ Below w.heap.size w w'

theorem callsName {P : Program} {f : FuncId} {args : Array Value} {w : World} {R : Ending → World → Prop} (h : ∀ W, w = W → Calls P f args W R) : Calls P f args w R := h w rfl

theorem encStr_of (s : ByteArray) : encStr s.data.toList = .string s := by simp [encStr]

set_option maxRecDepth 100000 in
set_option maxHeartbeats 1000000 in
theorem ltouches_calls (k n : Int) (s t : ByteArray) (w : World) :
    Calls Try.prog 25 #[.agg #[.int .i64 k, .string s, .string t, .int .i64 n]] w fun en w' => TchPost s t w en w' := by
  go_enter Try.func25, Try.ntmps25
  go_wp2_with fail
  refine callsName (fun W hW => ?_)
  obtain ⟨g, eg⟩ : ∃ g, g = w.heap.size + 1 := ⟨_, rfl⟩
  have HH : Has W g 9 ([s.data.toList, t.data.toList].map encStr).toArray := by
    rw [← hW, eg]
    have := made_at (w := w.alloc (.cells #[.int .i64 k, .string s, .string t, .int .i64 n] 31)) (g := w.heap.size + 1) 9 #[.string s, .string t] (by simp)
    simpa [encStr] using this
  have T0 : Below w.heap.size w W := by rw [← hW]; exact ((Below.refl _ _).alloc (Nat.le_refl _) _).alloc (by simp) _
  rw [← eg]
  have hg : w.heap.size ≤ g := by omega
  clear hW eg
  have HT := Lib.hid T0
  have HX := Lib.hid HH
  clear T0 HH
  refine (del_strs g 2 [s.data.toList, t.data.toList] W (holds_of_block HX.out (by simp)) (by simp) (by simp)).mono ?_
  rintro en w1 ⟨rfl, q, rfl⟩
  go_wp2_with fail
  go_ret
  have hle : (tch s t).length ≤ 2 := nb_le [s.data.toList, t.data.toList]
  refine ⟨_, rfl, ?_, ?_⟩
  · have h := del_row (N := q) (n := (tch s t).length) (cap := 2) (ss := tch s t ++ List.replicate (2 - (tch s t).length) []) HX.out (by simp; omega) rfl (by unfold maxLen; omega) (by simp)
    rw [List.take_left] at h
    exact h
  · have h := grownBy_sorted (w := W) (g := g) (n := q) (os := #[]) (tch s t ++ List.replicate (2 - (tch s t).length) []).toArray
    have e : ∀ W : World, grow W #[] = W := fun W => by cases W; simp [grow]
    rw [e] at h
    exact HT.out.grown h HT.out.size (fun j hj => by cases hj; exact hg)

end Go.Proofs.Ytndnjeahepahkaa
end

section
/- stock: a shelf whose map reads as D; what New, Count, add, take give. -/
namespace Go.Proofs.Ytndnjeahepahkaa.stock
open Go.RowKit Go.Maps Go.Sort

section
variable {H : Type}

/-- The shelf at block d, whose map is in block m. -/
structure Sk (w : World) (d m : Nat) (D : DataW H) : Prop where
  box : Has w d 89 #[.map (some m)]
  map : Mp w m D

theorem Sk.kept {w w' : World} {d m : Nat} {D : DataW H} {row : Option Nat} (h : Sk w d m D) (hg : w.grownBy w' row) (h1 : some d ≠ row) (h2 : some m ≠ row) : Sk w' d m D :=
  ⟨h.box.grown hg h1, h.map.kept hg h2⟩
theorem Sk.turned {w w' : World} {d m : Nat} {D D' : DataW H} {n : Nat} (h : Sk w d m D) (hm : w'.ownsMap Try.prog 9 (plainElem Try.prog 3) m n D') (ht : w.mapTurned w' m) : Sk w' d m D' :=
  ⟨h.box.grown ht.grown (fun e => h.map.ne h.box (by injection e with e; exact e.symm)), ownsMap_tight hm⟩
theorem Sk.turn {w w' : World} {d m : Nat} {D : DataW H} {F : Nat → Prop} (h : Sk w d m D) (t : Turn F w w') (hd : ¬ F d) (hm : ¬ F m) : Sk w' d m D := ⟨h.box.turn t hd, h.map.turn t hm⟩
theorem Sk.more {w w' : World} {d m : Nat} {D : DataW H} (h : Sk w d m D) (hb : Below w.heap.size w w') : Sk w' d m D :=
  h.kept (below_any hb none) (by simp) (by simp)

/-- add, take of the program: the map, the error. -/
def adS (D : DataW H) (s : ByteArray) (n : Int) : DataW H × Int :=
  if isIn D s = false ∧ 16 ≤ Maps.size D then (D, 7) else if 1099511627776 < amt D s + n then (D, 10) else (D.put (kS s) (nI (amt D s + n)), 0)
def tkS (D : DataW H) (s : ByteArray) (n : Int) : DataW H × Int :=
  if isIn D s = false then (D, 8) else if amt D s < n then (D, 11) else if amt D s = n then (D.del (kS s), 0) else (D.put (kS s) (nI (amt D s - n)), 0)

def SPost (d m : Nat) (w : World) (r : DataW H × Int) (en : Ending) (w' : World) : Prop :=
  en = .returned (.int .i64 r.2) ∧ Sk w' d m r.1 ∧ w.grownBy w' (some m)

set_option maxRecDepth 100000 in
set_option maxHeartbeats 1000000 in
theorem sadd_calls (d m : Nat) (D : DataW H) (s : ByteArray) (n : Int) (w : World) (h : Sk w d m D) (hs : s.size ≤ maxLen) (hD : Maps.size D < maxLen)
    (hn : 0 ≤ n) (hn' : n ≤ 1099511627776) (ha : 0 ≤ amt D s) (ha' : amt D s ≤ 1099511627776) :
    Calls Try.prog 108 #[.pointer (some ⟨d, 0, none⟩), .string s, .int .i64 n] w fun en w' => SPost d m w (adS D s n) en w' := by
  have hkey := kS_of hs
  have c0 : w.cell? ⟨d, 0, none⟩ = some (.map (some m)) := h.box.cell 0
  have hown : w.ownsMap Try.prog 9 (plainElem Try.prog 3) m (Maps.size D) D := h.map
  have B := Lib.hid h
  have hlen := hown.len Try.underlying85 3
  have hw1 : (Lit.int .i64 (amt D s + n)).wf = true := wf64 (by omega) (by omega)
  obtain ⟨w1, hrun1, hown1, hturn1⟩ := hown.store strKeyed Try.underlying85 hD hkey (plainElem_int Try.underlying3 hw1)
  have B1 := Lib.hid (B.out.turned hown1 hturn1)
  have G1 := Lib.hid hturn1.grown
  generalize h1 : amt D s = a at *
  have H1 := Lib.hid h1
  clear h hs hown1 hturn1 hw1 h1
  cases hi : isIn D s
  · have hi' : Maps.has D (kS s) = false := hi
    by_cases h2 : 16 ≤ Maps.size D
    · have E : Hid (adS D s n = (D, 7)) := if_pos ⟨hi, h2⟩
      have h2' : (16 : Int) ≤ (Maps.size D : Int) := by omega
      clear hi h2
      go_enter Try.func108, Try.ntmps108
      go_wp2_with (first
        | (at_lookup; refine wpList_lookup_own_ok_int _ rfl _ _ 85 rfl 9 3 .i64 strKeyed Try.underlying85 Try.underlying3 (zeroInt _) m (Maps.size D) D rfl hown _ _ rfl hkey ?_; intro c hat hwc)
        | fail)
      go_ret
      rw [E.out]
      exact ⟨rfl, B.out, grown_refl w _⟩
    · have h2' : (Maps.size D : Int) < (16 : Int) := by omega
      have hno : ¬ (isIn D s = false ∧ 16 ≤ Maps.size D) := fun e => h2 e.2
      by_cases h3 : 1099511627776 < a + n
      · have E : Hid (adS D s n = (D, 10)) := by show _ = _; unfold adS; rw [if_neg hno, H1.out, if_pos h3]
        clear hi h2 hno
        go_enter Try.func108, Try.ntmps108
        go_wp2_with (first
          | (at_lookup; refine wpList_lookup_own_ok_int _ rfl _ _ 85 rfl 9 3 .i64 strKeyed Try.underlying85 Try.underlying3 (zeroInt _) m (Maps.size D) D rfl hown _ _ rfl hkey ?_; intro c hat hwc; obtain rfl : c = a := (amt_of hat).symm.trans H1.out)
            | fail)
        go_ret
        rw [E.out]
        exact ⟨rfl, B.out, grown_refl w _⟩
      · have E : Hid (adS D s n = (D.put (kS s) (nI (a + n)), 0)) := by show _ = _; unfold adS; rw [if_neg hno, H1.out, if_neg h3]
        have h3' : a + n ≤ 1099511627776 := by omega
        clear hi h2 hno h3
        go_enter Try.func108, Try.ntmps108
        go_wp2_with (first
          | (at_lookup; refine wpList_lookup_own_ok_int _ rfl _ _ 85 rfl 9 3 .i64 strKeyed Try.underlying85 Try.underlying3 (zeroInt _) m (Maps.size D) D rfl hown _ _ rfl hkey ?_; intro c hat hwc; obtain rfl : c = a := (amt_of hat).symm.trans H1.out)
            | fail)
        go_ret
        rw [E.out]
        exact ⟨rfl, B1.out, G1.out⟩
  · have hi' : Maps.has D (kS s) = true := hi
    have hno : ¬ (isIn D s = false ∧ 16 ≤ Maps.size D) := fun e => by rw [hi] at e; exact absurd e.1 (by decide)
    by_cases h3 : 1099511627776 < a + n
    · have E : Hid (adS D s n = (D, 10)) := by show _ = _; unfold adS; rw [if_neg hno, H1.out, if_pos h3]
      clear hi hno
      go_enter Try.func108, Try.ntmps108
      go_wp2_with (first
        | (at_lookup; refine wpList_lookup_own_ok_int _ rfl _ _ 85 rfl 9 3 .i64 strKeyed Try.underlying85 Try.underlying3 (zeroInt _) m (Maps.size D) D rfl hown _ _ rfl hkey ?_; intro c hat hwc; obtain rfl : c = a := (amt_of hat).symm.trans H1.out)
        | fail)
      go_ret
      rw [E.out]
      exact ⟨rfl, B.out, grown_refl w _⟩
    · have E : Hid (adS D s n = (D.put (kS s) (nI (a + n)), 0)) := by show _ = _; unfold adS; rw [if_neg hno, H1.out, if_neg h3]
      have h3' : a + n ≤ 1099511627776 := by omega
      clear hi hno h3
      go_enter Try.func108, Try.ntmps108
      go_wp2_with (first
        | (at_lookup; refine wpList_lookup_own_ok_int _ rfl _ _ 85 rfl 9 3 .i64 strKeyed Try.underlying85 Try.underlying3 (zeroInt _) m (Maps.size D) D rfl hown _ _ rfl hkey ?_; intro c hat hwc; obtain rfl : c = a := (amt_of hat).symm.trans H1.out)
        | fail)
      go_ret
      rw [E.out]
      exact ⟨rfl, B1.out, G1.out⟩

set_option maxRecDepth 100000 in
set_option maxHeartbeats 1000000 in
theorem stake_calls (d m : Nat) (D : DataW H) (s : ByteArray) (n : Int) (w : World) (h : Sk w d m D) (hs : s.size ≤ maxLen) (hD : Maps.size D < maxLen)
    (hn : 0 ≤ n) (hn' : n ≤ 1099511627776) (ha : 0 ≤ amt D s) (ha' : amt D s ≤ 1099511627776) :
    Calls Try.prog 109 #[.pointer (some ⟨d, 0, none⟩), .string s, .int .i64 n] w fun en w' => SPost d m w (tkS D s n) en w' := by
  have hkey := kS_of hs
  have c0 : w.cell? ⟨d, 0, none⟩ = some (.map (some m)) := h.box.cell 0
  have hown : w.ownsMap Try.prog 9 (plainElem Try.prog 3) m (Maps.size D) D := h.map
  have B := Lib.hid h
  have hw1 : (Lit.int .i64 (amt D s - n)).wf = true := wf64 (by omega) (by omega)
  obtain ⟨w1, hrun1, hown1, hturn1⟩ := hown.store strKeyed Try.underlying85 hD hkey (plainElem_int Try.underlying3 hw1)
  have B1 := Lib.hid (B.out.turned hown1 hturn1)
  have G1 := Lib.hid hturn1.grown
  generalize h1 : amt D s = a at *
  have H1 := Lib.hid h1
  clear h hs hown1 hturn1 hw1 h1
  cases hi : isIn D s
  · have hi' : Maps.has D (kS s) = false := hi
    have E : Hid (tkS D s n = (D, 8)) := if_pos hi
    clear hi
    go_enter Try.func109, Try.ntmps109
    go_wp2_with (first
      | (at_lookup; refine wpList_lookup_own_ok_int _ rfl _ _ 85 rfl 9 3 .i64 strKeyed Try.underlying85 Try.underlying3 (zeroInt _) m (Maps.size D) D rfl hown _ _ rfl hkey ?_; intro c hat hwc)
      | go_in)
    go_ret
    rw [E.out]
    exact ⟨rfl, B.out, grown_refl w _⟩
  · have hi' : Maps.has D (kS s) = true := hi
    have hno : ¬ (isIn D s = false) := fun e => by rw [hi] at e; exact absurd e (by decide)
    by_cases h2 : a < n
    · have E : Hid (tkS D s n = (D, 11)) := by show _ = _; unfold tkS; rw [if_neg hno, H1.out, if_pos h2]
      clear hi hno
      go_enter Try.func109, Try.ntmps109
      go_wp2_with (first
        | (at_lookup; refine wpList_lookup_own_ok_int _ rfl _ _ 85 rfl 9 3 .i64 strKeyed Try.underlying85 Try.underlying3 (zeroInt _) m (Maps.size D) D rfl hown _ _ rfl hkey ?_; intro c hat hwc; obtain rfl : c = a := (amt_of hat).symm.trans H1.out)
        | go_in)
      go_ret
      rw [E.out]
      exact ⟨rfl, B.out, grown_refl w _⟩
    · have h2' : n ≤ a := by omega
      by_cases h3 : a = n
      · have E : Hid (tkS D s n = (D.del (kS s), 0)) := by show _ = _; unfold tkS; rw [if_neg hno, H1.out, if_neg h2, if_pos h3]
        subst h3
        clear hi hno h2 hrun1 B1 G1
        go_enter Try.func109, Try.ntmps109
        go_wp2_with (first
          | (at_lookup; refine wpList_lookup_own_ok_int _ rfl _ _ 85 rfl 9 3 .i64 strKeyed Try.underlying85 Try.underlying3 (zeroInt _) m (Maps.size D) D rfl hown _ _ rfl hkey ?_; intro c hat hwc; obtain rfl : a = c := H1.out.symm.trans (amt_of hat))
          | (at_delete; refine wpList_delete_own _ rfl _ _ 85 9 rfl 3 strKeyed Try.underlying85 _ m (Maps.size D) D rfl hown _ _ rfl hkey ?_; intro w2 hown2 hturn2)
          | go_in)
        go_ret
        rw [E.out]
        exact ⟨rfl, B.out.turned hown2 hturn2, hturn2.grown⟩
      · have E : Hid (tkS D s n = (D.put (kS s) (nI (a - n)), 0)) := by show _ = _; unfold tkS; rw [if_neg hno, H1.out, if_neg h2, if_neg h3]
        have h3' : (a == n) = false := by simpa using h3
        clear hi hno h2 h3
        go_enter Try.func109, Try.ntmps109
        go_wp2_with (first
          | (at_lookup; refine wpList_lookup_own_ok_int _ rfl _ _ 85 rfl 9 3 .i64 strKeyed Try.underlying85 Try.underlying3 (zeroInt _) m (Maps.size D) D rfl hown _ _ rfl hkey ?_; intro c hat hwc; obtain rfl : c = a := (amt_of hat).symm.trans H1.out)
          | fail)
        go_ret
        rw [E.out]
        exact ⟨rfl, B1.out, G1.out⟩

def SNewPost (H : Type) (w : World) (en : Ending) (w' : World) : Prop :=
  ∃ d m, en = .returned (.pointer (some ⟨d, 0, none⟩)) ∧ Sk (H := H) w' d m (.map []) ∧ Below w.heap.size w w' ∧ w.heap.size ≤ d ∧ w.heap.size ≤ m

set_option maxRecDepth 100000 in
set_option maxHeartbeats 400000 in
theorem snew_calls (w : World) : Calls Try.prog 18 #[] w fun en w' => SNewPost H w en w' := by
  have hrun0 := run_makeMap (P := Try.prog) 85 w
  have hown := World.ownsMap_made (H := H) w Try.prog 9 (plainElem Try.prog 3)
  go_enter Try.func18, Try.ntmps18
  go_wp2_with fail
  go_ret
  refine ⟨w.heap.size + 1, w.heap.size, rfl, ⟨made_at _ _ (by simp), (show Mp _ _ (DataW.map []) from ownsMap_tight hown).alloc _⟩, ?_, by omega, Nat.le_refl _⟩
  exact ((Below.refl w.heap.size w).alloc (Nat.le_refl _) _).alloc (by simp) _

end
end Go.Proofs.Ytndnjeahepahkaa.stock
end

section
/- stock: what every shelf keeps; when an op is done, what it does, what takes it back (no program's walk). -/
namespace Go.Proofs.Ytndnjeahepahkaa.stock
open Go.RowKit Go.Maps Go.Sort

section
variable {H : Type}

/-- What every shelf that is reached keeps. -/
structure InvS (D : DataW H) : Prop where
  good : Good D
  size : Maps.size D ≤ 16
  keys : ∀ s : ByteArray, isIn D s = true → s ≠ .empty ∧ s.size ≤ 12 ∧ 1 ≤ amt D s ∧ amt D s ≤ 1099511627776

theorem InvS.map {D : DataW H} (I : InvS D) : IsMap D := I.good.tidy.isMap
theorem InvS.small {D : DataW H} (I : InvS D) (s : ByteArray) : 0 ≤ amt D s ∧ amt D s ≤ 1099511627776 := by
  cases h : isIn D s
  · rw [amt_absent h]; omega
  · have := I.keys s h; omega
theorem InvS.isIn_iff {D : DataW H} (I : InvS D) (s : ByteArray) : isIn D s = true ↔ 1 ≤ amt D s := by
  constructor
  · intro h; exact (I.keys s h).2.2.1
  · intro h
    cases h2 : isIn D s
    · rw [amt_absent h2] at h; omega
    · rfl
theorem InvS.absent {D : DataW H} (I : InvS D) {s : ByteArray} : isIn D s = false ↔ amt D s = 0 := by
  have h := I.isIn_iff s
  have h2 := (I.small s).1
  constructor
  · intro e; exact amt_absent e
  · intro e
    cases h3 : isIn D s
    · rfl
    · have := h.1 h3; omega

theorem alike_of {D D' : DataW H} (I : InvS D) (I' : InvS D') (h : ∀ s, amt D s = amt D' s) : Alike D D' := by
  refine ⟨I.good, I'.good, fun s => ⟨?_, h s⟩⟩
  have h1 := I.isIn_iff s
  have h2 := I'.isIn_iff s
  rw [h s, ← h2] at h1
  cases e1 : isIn D s <;> cases e2 : isIn D' s
  · rfl
  · rw [e1, e2] at h1; simp at h1
  · rw [e1, e2] at h1; simp at h1
  · rfl
theorem Alike.invS {D D' : DataW H} (h : Alike D D') (I : InvS D') : InvS D :=
  ⟨h.l, by rw [h.size]; exact I.size, fun s hs => by rw [(h.same s).2]; exact I.keys s (by rw [← (h.same s).1]; exact hs)⟩

/-- The error of an op. -/
def chkS (k : Int) (s : ByteArray) (n : Int) : Int :=
  if k = 1 ∨ k = 2 then (if ¬ s.toList = [] ∧ s.size ≤ 12 ∧ 1 ≤ n ∧ n ≤ 1099511627776 then 0 else 4) else 5
/-- An op done: the map, the error. -/
def doS (D : DataW H) (k : Int) (s : ByteArray) (n : Int) : DataW H × Int :=
  if ¬ chkS k s n = 0 then (D, chkS k s n) else if k = 1 then adS D s n else tkS D s n

theorem chkS_ok {k n : Int} {s : ByteArray} (h : chkS k s n = 0) : (k = 1 ∨ k = 2) ∧ ¬ s.toList = [] ∧ s.size ≤ 12 ∧ 1 ≤ n ∧ n ≤ 1099511627776 := by
  unfold chkS at h
  split at h
  · rename_i h1
    split at h
    · rename_i h2; exact ⟨h1, h2⟩
    · omega
  · omega
theorem chkS_of {k n : Int} {s : ByteArray} (h : k = 1 ∨ k = 2) (h1 : s ≠ .empty) (h2 : s.size ≤ 12) (h3 : 1 ≤ n) (h4 : n ≤ 1099511627776) : chkS k s n = 0 := by
  unfold chkS
  rw [if_pos h, if_pos ⟨fun e => h1 (emp_iff.2 e), h2, h3, h4⟩]

/-- When an op is done. -/
structure okS (D : DataW H) (k : Int) (s : ByteArray) (n : Int) : Prop where
  chk : chkS k s n = 0
  one : k = 1 → (amt D s = 0 → Maps.size D < 16) ∧ amt D s + n ≤ 1099511627776
  two : k = 2 → n ≤ amt D s

theorem doS_chk {D : DataW H} {k n : Int} {s : ByteArray} (h : (doS D k s n).2 = 0) : chkS k s n = 0 := by
  by_cases hc : chkS k s n = 0
  · exact hc
  · unfold doS at h; rw [if_pos hc] at h; exact absurd h hc
theorem doS_of {D : DataW H} {k n : Int} {s : ByteArray} (h : chkS k s n = 0) : doS D k s n = if k = 1 then adS D s n else tkS D s n := by
  unfold doS; rw [if_neg (by simpa using h)]

theorem adS_ok {D : DataW H} (I : InvS D) {s : ByteArray} {n : Int} : (adS D s n).2 = 0 ↔ (amt D s = 0 → Maps.size D < 16) ∧ amt D s + n ≤ 1099511627776 := by
  unfold adS
  by_cases h1 : isIn D s = false ∧ 16 ≤ Maps.size D
  · rw [if_pos h1]
    constructor
    · intro h; simp at h
    · rintro ⟨h, _⟩
      have := h (I.absent.1 h1.1)
      omega
  · rw [if_neg h1]
    have h1' : amt D s = 0 → Maps.size D < 16 := fun e => Nat.lt_of_not_le (fun k => h1 ⟨I.absent.2 e, k⟩)
    by_cases h2 : 1099511627776 < amt D s + n
    · rw [if_pos h2]
      constructor
      · intro h; simp at h
      · rintro ⟨_, h⟩; omega
    · rw [if_neg h2]
      exact ⟨fun _ => ⟨h1', by omega⟩, fun _ => rfl⟩
theorem adS_is {D : DataW H} (I : InvS D) {s : ByteArray} {n : Int} (h : (adS D s n).2 = 0) : (adS D s n).1 = D.put (kS s) (nI (amt D s + n)) := by
  obtain ⟨h1, h2⟩ := (adS_ok I).1 h
  unfold adS
  rw [if_neg (fun e => by have := h1 (I.absent.1 e.1); omega), if_neg (by omega)]
theorem tkS_ok {D : DataW H} (I : InvS D) {s : ByteArray} {n : Int} (hn : 1 ≤ n) : (tkS D s n).2 = 0 ↔ n ≤ amt D s := by
  unfold tkS
  cases h1 : isIn D s
  · rw [if_pos rfl]
    have := I.absent.1 h1
    constructor
    · intro h; simp at h
    · intro h; omega
  · rw [if_neg (by simp)]
    by_cases h2 : amt D s < n
    · rw [if_pos h2]
      constructor
      · intro h; simp at h
      · intro h; omega
    · rw [if_neg h2]
      refine ⟨fun _ => by omega, fun _ => ?_⟩
      split <;> rfl
theorem tkS_is {D : DataW H} (I : InvS D) {s : ByteArray} {n : Int} (hn : 1 ≤ n) (h : (tkS D s n).2 = 0) : (tkS D s n).1 = if amt D s = n then D.del (kS s) else D.put (kS s) (nI (amt D s - n)) := by
  have h1 := (tkS_ok I hn).1 h
  have h2 : isIn D s = true := (I.isIn_iff s).2 (by omega)
  unfold tkS
  rw [if_neg (by rw [h2]; simp), if_neg (by omega)]
  split <;> rfl

theorem doS_ok {D : DataW H} (I : InvS D) {k n : Int} {s : ByteArray} : (doS D k s n).2 = 0 ↔ okS D k s n := by
  constructor
  · intro h
    have hc := doS_chk h
    obtain ⟨hk, h0, _, h1, _⟩ := chkS_ok hc
    rw [doS_of hc] at h
    rcases hk with rfl | rfl
    · rw [if_pos rfl] at h
      exact ⟨hc, fun _ => (adS_ok I).1 h, fun e => by omega⟩
    · rw [if_neg (by decide)] at h
      exact ⟨hc, fun e => by omega, fun _ => (tkS_ok I h1).1 h⟩
  · intro h
    obtain ⟨hk, h0, _, h1, _⟩ := chkS_ok h.chk
    rw [doS_of h.chk]
    rcases hk with rfl | rfl
    · rw [if_pos rfl]; exact (adS_ok I).2 (h.one rfl)
    · rw [if_neg (by decide)]; exact (tkS_ok I h1).2 (h.two rfl)

/-- What an op adds to a name's amount. -/
def dltS (k : Int) (s : ByteArray) (n : Int) (x : ByteArray) : Int := if x = s then (if k = 1 then n else -n) else 0

theorem doS_amt {D : DataW H} (I : InvS D) {k n : Int} {s : ByteArray} (h : (doS D k s n).2 = 0) (x : ByteArray) : amt (doS D k s n).1 x = amt D x + dltS k s n x := by
  have hc := doS_chk h
  have ho := (doS_ok I).1 h
  obtain ⟨hk, h0, _, h1, _⟩ := chkS_ok hc
  rw [doS_of hc] at h ⊢
  unfold dltS
  rcases hk with rfl | rfl
  · rw [if_pos rfl] at h ⊢
    rw [adS_is I h, amt_put I.map]
    by_cases hx : x = s
    · subst hx; simp
    · simp [hx]
  · rw [if_neg (by decide)] at h ⊢
    rw [tkS_is I h1 h]
    split
    · rename_i he
      rw [amt_del]
      by_cases hx : x = s
      · subst hx; simp; omega
      · simp [hx]
    · rw [amt_put I.map]
      by_cases hx : x = s
      · subst hx; simp; omega
      · simp [hx]

theorem doS_not {D : DataW H} {k n : Int} {s : ByteArray} (h : ¬ (doS D k s n).2 = 0) : (doS D k s n).1 = D := by
  unfold doS at h ⊢
  split at h
  · rename_i h1; rw [if_pos h1]
  · rename_i h1
    rw [if_neg h1]
    split at h
    · rename_i h2
      rw [if_pos h2]
      unfold adS at h ⊢
      split at h <;> rename_i h3
      · rw [if_pos h3]
      · rw [if_neg h3]
        split at h <;> rename_i h4
        · rw [if_pos h4]
        · exact absurd rfl h
    · rename_i h2
      rw [if_neg h2]
      unfold tkS at h ⊢
      split at h <;> rename_i h3
      · rw [if_pos h3]
      · rw [if_neg h3]
        split at h <;> rename_i h4
        · rw [if_pos h4]
        · rw [if_neg h4]
          split at h <;> exact absurd rfl h

/-- The invariant stays; there is at most one good more. -/
theorem doS_inv {D : DataW H} (I : InvS D) (k n : Int) (s : ByteArray) : InvS (doS D k s n).1 ∧ Maps.size (doS D k s n).1 ≤ Maps.size D + 1 := by
  by_cases h : (doS D k s n).2 = 0
  · have hc := doS_chk h
    have ho := (doS_ok I).1 h
    have ha := doS_amt I h
    obtain ⟨hk, h0, hz, h1, h2⟩ := chkS_ok hc
    have hs0 : s ≠ .empty := empty_list h0
    have hsm := I.small s
    have key : Good (doS D k s n).1 ∧ Maps.size (doS D k s n).1 ≤ 16 ∧ Maps.size (doS D k s n).1 ≤ Maps.size D + 1 ∧ ∀ x, isIn (doS D k s n).1 x = true → x = s ∨ isIn D x = true := by
      have hI := I.size
      rw [doS_of hc] at h ⊢
      rcases hk with rfl | rfl
      · rw [if_pos rfl] at h ⊢
        rw [adS_is I h]
        have hz := (ho.one rfl).1
        refine ⟨I.good.put _ _, ?_, ?_, fun x hx => ?_⟩
        · rw [size_put I.good.tidy]
          split
          · exact hI
          · rename_i hn
            have : amt D s = 0 := I.absent.1 (by show has D (kS s) = false; simpa using hn)
            have := hz this
            omega
        · rw [size_put I.good.tidy]
          split <;> omega
        · rw [isIn_put I.map] at hx
          split at hx
          · exact .inl (by assumption)
          · exact .inr hx
      · rw [if_neg (by decide)] at h ⊢
        rw [tkS_is I h1 h]
        have hin : has D (kS s) = true := (I.isIn_iff s).2 (by have := ho.two rfl; omega)
        split
        · have := size_del (k := kS s) I.good.tidy
          refine ⟨I.good.del _, by omega, by omega, fun x hx => ?_⟩
          rw [isIn_del] at hx
          split at hx
          · cases hx
          · exact .inr hx
        · refine ⟨I.good.put _ _, ?_, ?_, fun x hx => ?_⟩
          · rw [size_put I.good.tidy, if_pos hin]; exact hI
          · rw [size_put I.good.tidy, if_pos hin]; omega
          · rw [isIn_put I.map] at hx
            split at hx
            · exact .inl (by assumption)
            · exact .inr hx
    have pos : ∀ x, isIn (doS D k s n).1 x = true → 1 ≤ amt (doS D k s n).1 x := fun x hx => by
      rw [ha x]
      unfold dltS
      by_cases hxs : x = s
      · subst hxs
        rw [if_pos rfl]
        rcases hk with rfl | rfl
        · rw [if_pos rfl]; omega
        · rw [if_neg (by decide)]
          have h5 := ho.two rfl
          rcases Int.lt_or_eq_of_le h5 with h6 | h6
          · omega
          · exfalso
            rw [doS_of hc, if_neg (by decide)] at h hx
            rw [tkS_is I h1 h, if_pos h6.symm, isIn_del, if_pos rfl] at hx
            cases hx
      · rw [if_neg hxs]
        rcases key.2.2.2 x hx with h6 | h6
        · exact absurd h6 hxs
        · have := I.keys x h6; omega
    refine ⟨⟨key.1, key.2.1, fun x hx => ?_⟩, key.2.2.1⟩
    have hp := pos x hx
    rcases key.2.2.2 x hx with rfl | h6
    · refine ⟨hs0, hz, hp, ?_⟩
      rw [ha x]
      unfold dltS
      rw [if_pos rfl]
      rcases hk with rfl | rfl
      · rw [if_pos rfl]; exact (ho.one rfl).2
      · rw [if_neg (by decide)]; omega
    · have h7 := I.keys x h6
      refine ⟨h7.1, h7.2.1, hp, ?_⟩
      rw [ha x]
      unfold dltS
      by_cases hxs : x = s
      · subst hxs
        rw [if_pos rfl]
        rcases hk with rfl | rfl
        · rw [if_pos rfl]; exact (ho.one rfl).2
        · rw [if_neg (by decide)]; omega
      · rw [if_neg hxs]; omega
  · rw [doS_not h]; exact ⟨I, by omega⟩

theorem invS_new : InvS (.map [] : DataW H) := ⟨good_empty, by show (0 : Nat) ≤ 16; omega, fun s hs => by cases hs⟩

/-- What is alike stays alike. -/
theorem doS_alike {D D' : DataW H} (a : Alike D D') (I' : InvS D') (k n : Int) (s : ByteArray) :
    ((doS D k s n).2 = 0 ↔ (doS D' k s n).2 = 0) ∧ Alike (doS D k s n).1 (doS D' k s n).1 := by
  have I : InvS D := Alike.invS a I'
  have hiff : (doS D k s n).2 = 0 ↔ (doS D' k s n).2 = 0 := by
    rw [doS_ok I, doS_ok I']
    constructor
    · intro h
      exact ⟨h.chk, fun e => by rw [← (a.same s).2, ← a.size]; exact h.one e, fun e => by rw [← (a.same s).2]; exact h.two e⟩
    · intro h
      exact ⟨h.chk, fun e => by rw [(a.same s).2, a.size]; exact h.one e, fun e => by rw [(a.same s).2]; exact h.two e⟩
  refine ⟨hiff, ?_⟩
  by_cases h : (doS D k s n).2 = 0
  · refine alike_of (doS_inv I k n s).1 (doS_inv I' k n s).1 (fun x => ?_)
    rw [doS_amt I h, doS_amt I' (hiff.1 h), (a.same x).2]
  · rw [doS_not h, doS_not (fun e => h (hiff.2 e))]; exact a

/-- What was done is taken back. -/
theorem doS_back {D : DataW H} (I : InvS D) {k n : Int} {s : ByteArray} (h : (doS D k s n).2 = 0) :
    (doS (doS D k s n).1 (3 - k) s n).2 = 0 ∧ Alike (doS (doS D k s n).1 (3 - k) s n).1 D := by
  have I1 := (doS_inv I k n s).1
  have ho := (doS_ok I).1 h
  have ha := doS_amt I h s
  obtain ⟨hk, h0, hz, h1, h2⟩ := chkS_ok ho.chk
  have hsm := I.small s
  have k2 : (doS (doS D k s n).1 (3 - k) s n).2 = 0 := by
    rw [doS_ok I1]
    refine ⟨chkS_of (by omega) (empty_list h0) hz h1 h2, fun e => ?_, fun e => ?_⟩
    · obtain rfl : k = 2 := by omega
      have h3 := ho.two rfl
      rw [ha]
      unfold dltS
      rw [if_pos rfl, if_neg (by decide)]
      refine ⟨fun e2 => ?_, by omega⟩
      have h4 : amt D s = n := by omega
      have h5 : (doS D 2 s n).1 = D.del (kS s) := by
        rw [doS_of ho.chk, if_neg (by decide)] at h ⊢
        rw [tkS_is I h1 h, if_pos h4]
      rw [h5]
      have h6 := size_del (k := kS s) I.good.tidy
      have h7 : has D (kS s) = true := (I.isIn_iff s).2 (by omega)
      rw [h7] at h6
      have := I.size
      simp at h6
      omega
    · obtain rfl : k = 1 := by omega
      rw [ha]
      unfold dltS
      rw [if_pos rfl, if_pos rfl]
      omega
  refine ⟨k2, alike_of (doS_inv I1 _ _ _).1 I (fun x => ?_)⟩
  rw [doS_amt I1 k2, doS_amt I h]
  unfold dltS
  by_cases hx : x = s
  · rw [if_pos hx, if_pos hx]
    rcases hk with rfl | rfl
    · rw [if_pos rfl, if_neg (by decide)]; omega
    · rw [if_neg (by decide), if_pos (by decide)]; omega
  · rw [if_neg hx, if_neg hx]; omega

/-- No name is empty: all are told. -/
theorem names_all {D : DataW H} (I : InvS D) : nb (strKeys D) = strKeys D := by
  unfold nb
  rw [List.filter_eq_self]
  intro x hx
  have h := (I.keys ⟨x.toArray⟩ (by have := (mem_strKeys I.good x).1 hx; unfold isIn kS; simpa using this)).1
  cases x with
  | nil => exact absurd rfl h
  | cons a b => rfl
theorem names_is {D : DataW H} (I : InvS D) : namesD D = (strKeys D).mergeSort leB := by unfold namesD; rw [names_all I]
theorem names_size {D : DataW H} (I : InvS D) : (namesD D).length = Maps.size D := by
  rw [names_is I, List.length_mergeSort, strKeys_len I.good]
theorem piece_lenS {D : DataW H} (I : InvS D) {x : List UInt8} (hx : x ∈ namesD D) : (pieceD D x).length ≤ 34 ∧ x.length ≤ 12 ∧ 1 ≤ amtL D x ∧ amtL D x ≤ 1099511627776 := by
  obtain ⟨h1, h2⟩ := (mem_namesD I.good x).1 hx
  have h3 := I.keys _ h2
  have h4 : x.length ≤ 12 := h3.2.1
  have h7 : amtL D x = amt D ⟨x.toArray⟩ := rfl
  have e1 := enc_len x.length (by omega)
  have e2 := enc_len (amtL D x).toNat (by omega)
  refine ⟨?_, h4, by omega, by omega⟩
  unfold pieceD
  rw [List.length_append, List.length_append]
  omega

end
end Go.Proofs.Ytndnjeahepahkaa.stock
end

section
/- stock: slices.Sorted(maps.Keys(m)) off the shelf; what Names gives. -/
namespace Go.Proofs
open Go.RowKit Go.Maps Go.Sort Go.Shelf

shelf_lay_g SlLaysZ.n7 Ggz 7 at Try 112 as Try.stKeys
shelf_lay_g SlLaysZ.n6 Ggz 6 at Try 111 as Try.stSorted
shelf_lay_g SlLaysM.n6 Slgm 6 at Try 80 as Try.stSort

/-- slices.Sort's two contracts at this dump, at the fence that asks nothing. -/
theorem Try.stSorts (m : Nat) : AnyZ.SortsIn Try.prog Try.stSorted_ren Fence.wide m :=
  ⟨fun blk off cap ss W hH hblk hsz => callsIn_wide.2 (AnyM.slices_Sort_string Try.stSort blk off cap ss W hH hblk hsz),
   fun p cap W => callsIn_wide.2 (AnyM.slices_Sort_string_none Try.stSort p cap W)⟩

/-- **maps.Keys[map[string]int,string,int], at whatever map, the nil one too:** a function value over ONE NEW BLOCK, which holds the map. -/
theorem Try.st_maps_Keys (mb : Option Nat) (W : World) : CallsIn Fence.wide 5 Try.prog 112 #[.map mb] W fun e w' => e = .returned (.func (.func 114) #[] #[.pointer (some ⟨W.heap.size, 0, none⟩)]) ∧ w' = W.alloc (.cells #[.map mb] 85) :=
  AnyZ.keys_in Try.stKeys Fence.wide 5 trivial rfl mb W

set_option maxHeartbeats 1000000 in
/-- **slices.Sorted[string] AT WHAT maps.Keys[map[string]int,string,int] HANDED BACK FOR A MAP THAT IS NOT nil** ('w': the world AHEAD of maps.Keys' call): A NEW SLICE THAT HOLDS THE MAP's KEYS, SORTED; nil just where it has none; nothing that lay before has turned. -/
theorem Try.st_sorted_keys {H : Type} (b nn : Nat) (D0 : DataW H) (R : Value → Option (DataW H × List MemPlace)) (w : World) (hown : w.ownsMap Try.prog 9 R b nn D0) (hmax : Maps.size D0 ≤ maxLen) (hbytes : Maps.size D0 * 16 ≤ 140737488355328) :
    CallsIn Fence.wide 5 Try.prog 111 #[.func (.func 114) #[] #[.pointer (some ⟨w.heap.size, 0, none⟩)]] (w.alloc (.cells #[.map (some b)] 85)) fun e w' => ∃ (v : Value) (ss : List (List UInt8)), e = .returned v ∧ ss.Perm (strKeys D0) ∧
      w'.ownsRow (w.alloc (.cells #[.map (some b)] 85)).heap.size 9 1 v ss.length ((ss.mergeSort (fun x y => decide (x ≤ y))).map encStr) ∧ (v = .slice none 0 0 ↔ ss = []) ∧ Below (w.alloc (.cells #[.map (some b)] 85)).heap.size (w.alloc (.cells #[.map (some b)] 85)) w' := by
  have hbl := hown.lt
  have hseq : SeqGives Fence.wide 2 Try.prog 114 #[.pointer (some ⟨w.heap.size, 0, none⟩)] encStr (fun ss => ss.Perm (strKeys D0)) (Maps.size D0) (w.alloc (.cells #[.map (some b)] 85)) :=
    AnyZ.keys_gives (ρ := Try.stKeys_ren) { Try.stKeys with } Fence.wide _ trivial rfl (by omega) w.heap.size b nn D0 _ (by simp) (by simp) (by
      obtain ⟨es, clock, hb, Ft, hs, hD⟩ := hown
      exact ⟨es, clock, (Below.heap_alloc _ _ b hbl).trans hb, Ft, hs, hD⟩)
  exact AnyZ.sorted_in Try.stSorted Fence.wide 5 trivial trivial trivial trivial rfl (by omega) (Try.stSorts _) (enters_of Try.func80 (by kernel_rfl) rfl) 114 #[.pointer (some ⟨w.heap.size, 0, none⟩)] trivial (enters_of Try.func114 (by kernel_rfl) rfl) _ _ hmax hbytes _ hseq

end Go.Proofs
namespace Go.Proofs.Ytndnjeahepahkaa.stock
open Go.RowKit Go.Maps Go.Sort

section
variable {H : Type}

def SNamesPost (D : DataW H) (w : World) (en : Ending) (w' : World) : Prop :=
  ∃ v, en = .returned v ∧ w'.ownsRow 0 9 1 v (namesD D).length ((namesD D).map encStr) ∧ Below w.heap.size w w'

set_option maxRecDepth 100000 in
set_option maxHeartbeats 1000000 in
theorem snames_calls (d m : Nat) (D : DataW H) (w : World) (h : Sk w d m D) (I : InvS D) :
    Calls Try.prog 110 #[.pointer (some ⟨d, 0, none⟩)] w fun en w' => SNamesPost D w en w' := by
  have c0 : w.cell? ⟨d, 0, none⟩ = some (.map (some m)) := h.box.cell 0
  have hown : w.ownsMap Try.prog 9 (plainElem Try.prog 3) m (Maps.size D) D := h.map
  have hsz := I.size
  have hm1 : Maps.size D ≤ maxLen := by unfold maxLen; omega
  have hm2 : Maps.size D * 16 ≤ 140737488355328 := by omega
  have hK := Lib.hid (callsIn_wide.1 (Try.st_maps_Keys (some m) w))
  have hS := Lib.hid (callsIn_wide.1 (Try.st_sorted_keys m (Maps.size D) D (plainElem Try.prog 3) w hown hm1 hm2))
  have II := Lib.hid I
  clear h hown hsz hm1 hm2 I
  go_enter Try.func110, Try.ntmps110
  go_wp2_with fail
  refine hK.out.mono ?_
  rintro en w1 ⟨rfl, rfl⟩
  go_wp2_with fail
  refine hS.out.mono ?_
  rintro en w2 ⟨v, ss, rfl, hp, hrow, _, hb⟩
  go_wp2_with fail
  go_ret
  have e : ss.mergeSort leB = namesD D := by rw [names_is II.out, mergeSort_of_perm hp]
  have e2 : ss.length = (namesD D).length := by rw [← e, List.length_mergeSort]
  refine ⟨v, rfl, ?_, ((Below.refl _ w).alloc (Nat.le_refl _) _).trans (hb.mono (by simp))⟩
  rw [← e2, ← e]
  exact row_low hrow

end
end Go.Proofs.Ytndnjeahepahkaa.stock
end

section
/- stock: what Check, Do, Inverse give. -/
namespace Go.Proofs.Ytndnjeahepahkaa.stock
open Go.RowKit Go.Maps

section
variable (k n : Int) (s : ByteArray) (w : World)
def CkPost (c : Int) (w : World) (en : Ending) (w' : World) : Prop := en = .returned (.int .i64 c) ∧ Below w.heap.size w w'
set_option maxRecDepth 100000 in
set_option maxHeartbeats 1000000 in
theorem chk1_a (h : s.toList = []) (hs : (s.size : Int) ≤ 9223372036854775807) (e : chkS 1 s n = 4) :
    Calls Try.prog 32 #[.agg #[.int .i64 1, .string s, .int .i64 n]] w (CkPost (chkS 1 s n) w) := by
  obtain rfl := nil_of h
  clear h
  have _u := Lib.hid hs
  have E := Lib.hid e
  clear e
  go_enter Try.func32, Try.ntmps32
  go_wp2_with fail
  go_ret
  rw [E.out]
  exact ⟨rfl, new_box _ _⟩

set_option maxRecDepth 100000 in
set_option maxHeartbeats 1000000 in
theorem chk1_b (h : ¬ s.toList = []) (h2 : 12 < s.size) (hs : (s.size : Int) ≤ 9223372036854775807) (e : chkS 1 s n = 4) :
    Calls Try.prog 32 #[.agg #[.int .i64 1, .string s, .int .i64 n]] w (CkPost (chkS 1 s n) w) := by
  obtain ⟨a1, a2, a3⟩ := some_of h
  have _u := Lib.hid hs
  have E := Lib.hid e
  clear e
  go_enter Try.func32, Try.ntmps32
  go_wp2_with fail
  go_ret
  rw [E.out]
  exact ⟨rfl, new_box _ _⟩

set_option maxRecDepth 100000 in
set_option maxHeartbeats 1000000 in
theorem chk1_c (h : ¬ s.toList = []) (h2 : s.size ≤ 12) (h3 : n < 1) (hs : (s.size : Int) ≤ 9223372036854775807) (e : chkS 1 s n = 4) :
    Calls Try.prog 32 #[.agg #[.int .i64 1, .string s, .int .i64 n]] w (CkPost (chkS 1 s n) w) := by
  obtain ⟨a1, a2, a3⟩ := some_of h
  have _u := Lib.hid hs
  have E := Lib.hid e
  clear e
  go_enter Try.func32, Try.ntmps32
  go_wp2_with fail
  go_ret
  rw [E.out]
  exact ⟨rfl, new_box _ _⟩

set_option maxRecDepth 100000 in
set_option maxHeartbeats 1000000 in
theorem chk1_d (h : ¬ s.toList = []) (h2 : s.size ≤ 12) (h3 : 1 ≤ n) (h4 : 1099511627776 < n) (hs : (s.size : Int) ≤ 9223372036854775807) (e : chkS 1 s n = 4) :
    Calls Try.prog 32 #[.agg #[.int .i64 1, .string s, .int .i64 n]] w (CkPost (chkS 1 s n) w) := by
  obtain ⟨a1, a2, a3⟩ := some_of h
  have _u := Lib.hid hs
  have E := Lib.hid e
  clear e
  go_enter Try.func32, Try.ntmps32
  go_wp2_with fail
  go_ret
  rw [E.out]
  exact ⟨rfl, new_box _ _⟩

set_option maxRecDepth 100000 in
set_option maxHeartbeats 1000000 in
theorem chk1_f (h : ¬ s.toList = []) (h2 : s.size ≤ 12) (h3 : 1 ≤ n) (h4 : n ≤ 1099511627776) (hs : (s.size : Int) ≤ 9223372036854775807) (e : chkS 1 s n = 0) :
    Calls Try.prog 32 #[.agg #[.int .i64 1, .string s, .int .i64 n]] w (CkPost (chkS 1 s n) w) := by
  obtain ⟨a1, a2, a3⟩ := some_of h
  have _u := Lib.hid hs
  have E := Lib.hid e
  clear e
  go_enter Try.func32, Try.ntmps32
  go_wp2_with fail
  go_ret
  rw [E.out]
  exact ⟨rfl, new_box _ _⟩

set_option maxRecDepth 100000 in
set_option maxHeartbeats 1000000 in
theorem chk2_a (h : s.toList = []) (hs : (s.size : Int) ≤ 9223372036854775807) (e : chkS 2 s n = 4) :
    Calls Try.prog 32 #[.agg #[.int .i64 2, .string s, .int .i64 n]] w (CkPost (chkS 2 s n) w) := by
  obtain rfl := nil_of h
  clear h
  have _u := Lib.hid hs
  have E := Lib.hid e
  clear e
  go_enter Try.func32, Try.ntmps32
  go_wp2_with fail
  go_ret
  rw [E.out]
  exact ⟨rfl, new_box _ _⟩

set_option maxRecDepth 100000 in
set_option maxHeartbeats 1000000 in
theorem chk2_b (h : ¬ s.toList = []) (h2 : 12 < s.size) (hs : (s.size : Int) ≤ 9223372036854775807) (e : chkS 2 s n = 4) :
    Calls Try.prog 32 #[.agg #[.int .i64 2, .string s, .int .i64 n]] w (CkPost (chkS 2 s n) w) := by
  obtain ⟨a1, a2, a3⟩ := some_of h
  have _u := Lib.hid hs
  have E := Lib.hid e
  clear e
  go_enter Try.func32, Try.ntmps32
  go_wp2_with fail
  go_ret
  rw [E.out]
  exact ⟨rfl, new_box _ _⟩

set_option maxRecDepth 100000 in
set_option maxHeartbeats 1000000 in
theorem chk2_c (h : ¬ s.toList = []) (h2 : s.size ≤ 12) (h3 : n < 1) (hs : (s.size : Int) ≤ 9223372036854775807) (e : chkS 2 s n = 4) :
    Calls Try.prog 32 #[.agg #[.int .i64 2, .string s, .int .i64 n]] w (CkPost (chkS 2 s n) w) := by
  obtain ⟨a1, a2, a3⟩ := some_of h
  have _u := Lib.hid hs
  have E := Lib.hid e
  clear e
  go_enter Try.func32, Try.ntmps32
  go_wp2_with fail
  go_ret
  rw [E.out]
  exact ⟨rfl, new_box _ _⟩

set_option maxRecDepth 100000 in
set_option maxHeartbeats 1000000 in
theorem chk2_d (h : ¬ s.toList = []) (h2 : s.size ≤ 12) (h3 : 1 ≤ n) (h4 : 1099511627776 < n) (hs : (s.size : Int) ≤ 9223372036854775807) (e : chkS 2 s n = 4) :
    Calls Try.prog 32 #[.agg #[.int .i64 2, .string s, .int .i64 n]] w (CkPost (chkS 2 s n) w) := by
  obtain ⟨a1, a2, a3⟩ := some_of h
  have _u := Lib.hid hs
  have E := Lib.hid e
  clear e
  go_enter Try.func32, Try.ntmps32
  go_wp2_with fail
  go_ret
  rw [E.out]
  exact ⟨rfl, new_box _ _⟩

set_option maxRecDepth 100000 in
set_option maxHeartbeats 1000000 in
theorem chk2_f (h : ¬ s.toList = []) (h2 : s.size ≤ 12) (h3 : 1 ≤ n) (h4 : n ≤ 1099511627776) (hs : (s.size : Int) ≤ 9223372036854775807) (e : chkS 2 s n = 0) :
    Calls Try.prog 32 #[.agg #[.int .i64 2, .string s, .int .i64 n]] w (CkPost (chkS 2 s n) w) := by
  obtain ⟨a1, a2, a3⟩ := some_of h
  have _u := Lib.hid hs
  have E := Lib.hid e
  clear e
  go_enter Try.func32, Try.ntmps32
  go_wp2_with fail
  go_ret
  rw [E.out]
  exact ⟨rfl, new_box _ _⟩

set_option maxRecDepth 100000 in
set_option maxHeartbeats 1000000 in
theorem chk0 (h1 : ¬ k = 1) (h2 : ¬ k = 2) (hs : (s.size : Int) ≤ 9223372036854775807) (e : chkS k s n = 5) :
    Calls Try.prog 32 #[.agg #[.int .i64 k, .string s, .int .i64 n]] w (CkPost (chkS k s n) w) := by
  have k1 : (k != 1) = true := by simpa using h1
  have k2 : (k != 2) = true := by simpa using h2
  clear h1 h2
  have _u := Lib.hid hs
  have E := Lib.hid e
  clear e
  go_enter Try.func32, Try.ntmps32
  go_wp2_with fail
  go_ret
  rw [E.out]
  exact ⟨rfl, new_box _ _⟩

theorem scheck_calls (hs : s.size ≤ maxLen) :
    Calls Try.prog 32 #[.agg #[.int .i64 k, .string s, .int .i64 n]] w fun en w' => en = .returned (.int .i64 (chkS k s n)) ∧ Below w.heap.size w w' := by
  have hs' : (s.size : Int) ≤ 9223372036854775807 := by unfold maxLen at hs; omega
  by_cases h1 : k = 1
  · subst h1
    by_cases a : s.toList = []
    · exact chk1_a n s w a hs' (by unfold chkS; rw [if_pos (.inl rfl), if_neg (fun e => e.1 a)])
    by_cases b : s.size ≤ 12
    · by_cases c : 1 ≤ n
      · by_cases d : n ≤ 1099511627776
        · exact chk1_f n s w a b c d hs' (by unfold chkS; rw [if_pos (.inl rfl), if_pos ⟨a, b, c, d⟩])
        · exact chk1_d n s w a b c (by omega) hs' (by unfold chkS; rw [if_pos (.inl rfl), if_neg (fun e => d e.2.2.2)])
      · exact chk1_c n s w a b (by omega) hs' (by unfold chkS; rw [if_pos (.inl rfl), if_neg (fun e => c e.2.2.1)])
    · exact chk1_b n s w a (by omega) hs' (by unfold chkS; rw [if_pos (.inl rfl), if_neg (fun e => b e.2.1)])
  by_cases h2 : k = 2
  · subst h2
    by_cases a : s.toList = []
    · exact chk2_a n s w a hs' (by unfold chkS; rw [if_pos (.inr rfl), if_neg (fun e => e.1 a)])
    by_cases b : s.size ≤ 12
    · by_cases c : 1 ≤ n
      · by_cases d : n ≤ 1099511627776
        · exact chk2_f n s w a b c d hs' (by unfold chkS; rw [if_pos (.inr rfl), if_pos ⟨a, b, c, d⟩])
        · exact chk2_d n s w a b c (by omega) hs' (by unfold chkS; rw [if_pos (.inr rfl), if_neg (fun e => d e.2.2.2)])
      · exact chk2_c n s w a b (by omega) hs' (by unfold chkS; rw [if_pos (.inr rfl), if_neg (fun e => c e.2.2.1)])
    · exact chk2_b n s w a (by omega) hs' (by unfold chkS; rw [if_pos (.inr rfl), if_neg (fun e => b e.2.1)])
  exact chk0 k n s w h1 h2 hs' (by unfold chkS; rw [if_neg (by omega)])
end

/-- The op that takes one back. -/
def invV (k n : Int) (s : ByteArray) : Value := .agg #[.int .i64 (3 - k), .string s, .int .i64 n]

set_option maxRecDepth 100000 in
set_option maxHeartbeats 1000000 in
theorem sinverse_calls (k n : Int) (s : ByteArray) (w : World) (h : k = 1 ∨ k = 2) :
    Calls Try.prog 24 #[.agg #[.int .i64 k, .string s, .int .i64 n]] w fun en w' => en = .returned (invV k n s) ∧ Below w.heap.size w w' := by
  rcases h with h1 | h1
  · subst h1
    go_enter Try.func24, Try.ntmps24
    go_wp2_with fail
    refine bodyPost_ret (v := .agg #[.int .i64 2, .string s, .int .i64 n]) (by simp [results, Try.results24, go_sem]) rfl ⟨rfl, turn_box ?_⟩
    repeat (first | exact Turn.refl _ _ | refine Turn.drew ?_ | refine Turn.alloc ?_ _ | refine Turn.put ?_ (fun h => by omega) _ _)
  · subst h1
    go_enter Try.func24, Try.ntmps24
    go_wp2_with fail
    refine bodyPost_ret (v := .agg #[.int .i64 1, .string s, .int .i64 n]) (by simp [results, Try.results24, go_sem]) rfl ⟨rfl, turn_box ?_⟩
    repeat (first | exact Turn.refl _ _ | refine Turn.drew ?_ | refine Turn.alloc ?_ _ | refine Turn.put ?_ (fun h => by omega) _ _)

section
variable {H : Type}
set_option maxRecDepth 100000 in
set_option maxHeartbeats 1000000 in
theorem sdo_calls (d m : Nat) (D : DataW H) (k n : Int) (s : ByteArray) (w : World) (h : Sk w d m D) (I : InvS D) (hs : s.size ≤ maxLen) :
    Calls Try.prog 106 #[.pointer (some ⟨d, 0, none⟩), .agg #[.int .i64 k, .string s, .int .i64 n]] w fun en w' => SPost d m w (doS D k s n) en w' := by
  have hck := fun W => scheck_calls k n s W hs
  obtain ⟨hb1, hb2⟩ := I.small s
  have hD := I.size
  have hD2 : Maps.size D < maxLen := by unfold maxLen; omega
  by_cases hc : chkS k s n = 0
  · rw [hc] at hck
    have E0 : doS D k s n = if k = 1 then adS D s n else tkS D s n := doS_of hc
    obtain ⟨hk, _, _, hn1, hn2⟩ := chkS_ok hc
    have HB := Lib.hid (And.intro (And.intro hb1 hb2) (And.intro hn1 hn2))
    have B := Lib.hid h
    clear hc h hb1 hb2 hn1 hn2
    rcases hk with rfl | rfl
    · have E := Lib.hid (E0.trans (if_pos rfl))
      clear E0
      go_enter Try.func106, Try.ntmps106
      go_wp2_with fail
      refine (hck _).mono ?_
      rintro en w1 ⟨rfl, b1⟩
      have hz := b1.size
      simp at hz
      have G1 : Hid (w.grownBy w1 (some m)) := grown_trans (grown_alloc (grown_refl w _) _) (below_any b1 _)
      have B1 : Hid (Sk w1 d m D) := (B.out.more (new_box _ _)).more b1
      have C1 : Has w1 w.heap.size 33 #[.int .i64 1, .string s, .int .i64 n] := (Has.made _ _ _).below b1 (by simp)
      have b10 : w1.cell? ⟨w.heap.size, 0, none⟩ = some (.int .i64 1) := C1.cell 0
      have b11 : w1.cell? ⟨w.heap.size, 1, none⟩ = some (.string s) := C1.cell 1
      have b12 : w1.cell? ⟨w.heap.size, 2, none⟩ = some (.int .i64 n) := C1.cell 2
      clear b1 C1 B
      go_wp2_with fail
      refine (sadd_calls d m D s n w1 B1.out hs hD2 (by have := HB.out.2.1; omega) HB.out.2.2 HB.out.1.1 HB.out.1.2).mono ?_
      rintro en w2 ⟨rfl, h2, g2⟩
      have H2 := Lib.hid h2
      have G2 := Lib.hid (grown_trans G1.out g2)
      clear h2 g2
      go_wp2_with fail
      go_ret
      rw [E.out]
      exact ⟨rfl, H2.out, G2.out⟩
    · have E := Lib.hid (E0.trans (if_neg (by decide)))
      clear E0
      go_enter Try.func106, Try.ntmps106
      go_wp2_with fail
      refine (hck _).mono ?_
      rintro en w1 ⟨rfl, b1⟩
      have hz := b1.size
      simp at hz
      have G1 : Hid (w.grownBy w1 (some m)) := grown_trans (grown_alloc (grown_refl w _) _) (below_any b1 _)
      have B1 : Hid (Sk w1 d m D) := (B.out.more (new_box _ _)).more b1
      have C1 : Has w1 w.heap.size 33 #[.int .i64 2, .string s, .int .i64 n] := (Has.made _ _ _).below b1 (by simp)
      have b10 : w1.cell? ⟨w.heap.size, 0, none⟩ = some (.int .i64 2) := C1.cell 0
      have b11 : w1.cell? ⟨w.heap.size, 1, none⟩ = some (.string s) := C1.cell 1
      have b12 : w1.cell? ⟨w.heap.size, 2, none⟩ = some (.int .i64 n) := C1.cell 2
      clear b1 C1 B
      go_wp2_with fail
      refine (stake_calls d m D s n w1 B1.out hs hD2 (by have := HB.out.2.1; omega) HB.out.2.2 HB.out.1.1 HB.out.1.2).mono ?_
      rintro en w2 ⟨rfl, h2, g2⟩
      have H2 := Lib.hid h2
      have G2 := Lib.hid (grown_trans G1.out g2)
      clear h2 g2
      go_wp2_with fail
      go_ret
      rw [E.out]
      exact ⟨rfl, H2.out, G2.out⟩
  · have E : Hid (doS D k s n = (D, chkS k s n)) := if_pos hc
    generalize hq : chkS k s n = c at *
    have hc' : (c != 0) = true := by simpa using hc
    have B := Lib.hid h
    clear hq hc h hb1 hb2
    go_enter Try.func106, Try.ntmps106
    go_wp2_with fail
    refine (hck _).mono ?_
    rintro en w1 ⟨rfl, b1⟩
    have hz := b1.size
    simp at hz
    have G1 : Hid (w.grownBy w1 (some m)) := grown_trans (grown_alloc (grown_refl w _) _) (below_any b1 _)
    have B1 : Hid (Sk w1 d m D) := (B.out.more (new_box _ _)).more b1
    clear b1 B
    go_wp2_with fail
    go_ret
    rw [E.out]
    exact ⟨rfl, B1.out, G1.out⟩
end

end Go.Proofs.Ytndnjeahepahkaa.stock
end

