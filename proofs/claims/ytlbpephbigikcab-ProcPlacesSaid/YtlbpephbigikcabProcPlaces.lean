/- ProcPlaces: for any two numbers the law answers true. Conditions: none. -/
import Derived.Test.YtlbpephbigikcabPrcT
import Derived.Maps.RangeWalk
import Derived.ProofKit
import Derived.OpenShut
import Derived.ChangeOld
namespace Go.Proofs.Ytlbpephbigikcab.procPlaces
open Go Go.ChangeShapes Go.WideShapes Go.ChangeAt Go.RowKit Go.Maps Go.Proofs.Ytlbpephbigikcab.prc

/-- A map with the keys 0 to k - 1, each with a 1. -/
def mp : Nat → DataW Unit
  | 0 => .map []
  | k + 1 => (mp k).put (cel.kI k) (cel.nI 1)
theorem mp_tidy : ∀ k, Tidy (mp k)
  | 0 => tidy_empty
  | k + 1 => (mp_tidy k).put (by simp [WideAt.IsKeyLit]) _
theorem mp_at : ∀ (k : Nat) (x : Int) (z : DataW Unit), (mp k).atKey (cel.kI x) z = if 0 ≤ x ∧ x < (k : Int) then cel.nI 1 else z
  | 0, x, z => by rw [if_neg (by omega)]; rfl
  | k + 1, x, z => by
    by_cases e : x = (k : Int)
    · subst e
      rw [if_pos (by omega)]
      exact atKey_put_same (mp_tidy k).isMap (by simp [WideAt.IsKeyLit]) _ _
    · show ((mp k).put (cel.kI k) (cel.nI 1)).atKey (cel.kI x) z = _
      rw [atKey_put_other (fun h => e (cel.kI_inj h)), mp_at k x z]
      by_cases h : 0 ≤ x ∧ x < (k : Int)
      · rw [if_pos h, if_pos (by omega)]
      · rw [if_neg h, if_neg (by omega)]
theorem mp_has : ∀ (k : Nat) (x : Int), (k : Int) ≤ x → Maps.has (mp k) (cel.kI x) = false
  | 0, _, _ => rfl
  | k + 1, x, h => by
    show Maps.has ((mp k).put (cel.kI k) (cel.nI 1)) (cel.kI x) = false
    rw [has_put_other (fun e => by have := cel.kI_inj e; omega)]
    exact mp_has k x (by omega)
theorem mp_size : ∀ k, Maps.size (mp k) = k
  | 0 => rfl
  | k + 1 => by
    show Maps.size ((mp k).put (cel.kI k) (cel.nI 1)) = _
    rw [size_put (mp_tidy k), mp_has k k (Int.le_refl _), mp_size k]
    rfl
theorem mp_in {k : Nat} {x e : Int} (h : ∀ z, (mp k).atKey (cel.kI x) z = cel.nI e) : 0 ≤ x ∧ x < (k : Int) ∧ e = 1 := by
  by_cases hx : 0 ≤ x ∧ x < (k : Int)
  · have := h (cel.nI 0)
    rw [mp_at, if_pos hx] at this
    refine ⟨hx.1, hx.2, ?_⟩
    simpa [cel.nI] using this.symm
  · have := h (cel.nI (e + 1))
    rw [mp_at, if_neg hx] at this
    have h2 : e + 1 = e := by simpa [cel.nI] using this
    omega

/-- What lasts: the place's block, the map with k keys. -/
structure St (w : World) (z y : Nat) (P L : Int) (k : Nat) (V : World) : Prop where
  map : cel.Mp V y (mp k)
  box : Has V z 25 #[.int .i64 P, .int .i64 L]
  nz : w.heap.size ≤ z
  ny : w.heap.size ≤ y
  turn : Turn (fun j => w.heap.size ≤ j) w V

section
variable {w V V' : World} {z y : Nat} {P L : Int} {k : Nat}
theorem St.zy (h : St w z y P L k V) : y ≠ z := h.map.ne h.box
theorem mp_below {w w' : World} {m : Nat} {D : DataW Unit} (h : cel.Mp w m D) (hb : Below w.heap.size w w') : cel.Mp w' m D := by
  have hlt := h.lt
  obtain ⟨es, clock, k1, k2⟩ := h
  exact ⟨es, clock, (hb.block m hlt).trans k1, k2⟩
theorem St.below (h : St w z y P L k V) (hb : Below V.heap.size V V') : St w z y P L k V' :=
  ⟨mp_below h.map hb, h.box.below hb h.box.lt, h.nz, h.ny, h.turn.trans (Turn.of_below hb (F := fun j => V.heap.size ≤ j) (fun _ _ e => e)) (fun j h1 h2 => absurd h2 (by have := h.turn.size; omega))⟩
theorem St.ends (h : St w z y P L k V) : Below w.heap.size w V := h.turn.below (Nat.le_refl _) (fun _ hj e => by omega)

set_option maxRecDepth 100000 in
/-- One entry more: what the walk wants. -/
theorem St.put (h : St w z y P L k V) (hk : k ≤ 1000) : (Instr.lookup 55 (.map (some y)) (.int .i64 (k : Int)) false).run Try.prog V = .ok (.int .i64 0) V ∧
    ∃ w', (Instr.mapUpdate 55 (.map (some y)) (.int .i64 (k : Int)) (.int .i64 1)).run Try.prog V = .ok () w' ∧ St w z y P L (k + 1) w' := by
  have hown : V.ownsMap Try.prog 3 (plainElem Try.prog 3) y (Maps.size (mp k)) (mp k) := h.map
  have hkey := cel.kI_of (show cel.Fits (k : Int) from ⟨by omega, by omega⟩)
  have hD : Maps.size (mp k) < maxLen := by rw [mp_size]; unfold maxLen; omega
  obtain ⟨c, hlook, hat, _⟩ := World.ownsMap.lookup_int hown cel.intKeyed Try.underlying55 Try.underlying3 (cel.zeroInt V) hkey
  have hc : c = 0 := by
    rw [mp_at, if_neg (by omega)] at hat
    simpa using hat.symm
  subst hc
  have hw1 : (Lit.int .i64 1).wf = true := by decide
  obtain ⟨w', hrun, hown', hturn⟩ := hown.store cel.intKeyed Try.underlying55 hD hkey (plainElem_int Try.underlying3 hw1)
  have hzy := h.zy
  refine ⟨hlook, w', hrun, cel.tight hown', h.box.grown hturn.grown (fun e => hzy (by injection e with e; exact e.symm)), h.nz, h.ny, h.turn.grown hturn.grown (fun j e _ => by injection e with e; rw [← e]; exact h.ny)⟩
end

set_option maxRecDepth 100000 in
set_option maxHeartbeats 4000000 in
theorem places_any (P L : Int) (w : World) : Calls Try.prog 7 #[.int .i64 P, .int .i64 L] w fun en w' => en = .returned (.bool true) ∧ Below w.heap.size w w' := by
  have hcases : P < 1 ∨ (1 ≤ P ∧ 64 < P) ∨ (1 ≤ P ∧ P ≤ 64 ∧ L < 0) ∨ (1 ≤ P ∧ P ≤ 64 ∧ 0 ≤ L ∧ 256 < L) ∨ (1 ≤ P ∧ P ≤ 64 ∧ 0 ≤ L ∧ L ≤ 256) := by omega
  rcases hcases with h1 | ⟨h1, h2⟩ | ⟨h1, h2, h3⟩ | ⟨h1, h2, h3, h4⟩ | ⟨h1, h2, h3, h4⟩
  case' inl => have hE : Hid (checkE P L = 4) := Lib.hid (by unfold checkE mayP; rw [if_neg]; simp; omega)
  case' inr.inl => have hE : Hid (checkE P L = 4) := Lib.hid (by unfold checkE mayP; rw [if_neg]; simp; omega)
  case' inr.inr.inl => have hE : Hid (checkE P L = 4) := Lib.hid (by unfold checkE mayP; rw [if_neg]; simp; omega)
  case' inr.inr.inr.inl =>
    have hE : Hid (checkE P L = 4) := Lib.hid (by unfold checkE mayP; rw [if_neg]; simp; omega)
    have h5 : ¬ L ≤ 256 := by omega
  case inl | inr.inl | inr.inr.inl | inr.inr.inr.inl =>
    go_enter Try.func7, Try.ntmps7
    go_wp2_with (first
      | (go_at_call 9; refine (awake_calls _).mono ?_; rintro en w1 ⟨rfl, b1⟩
         have B1 : Hid (Below w.heap.size w w1) := Lib.hid (((Below.refl _ w).alloc (Nat.le_refl _) _).trans (b1.mono (by simp)))
         have Z1 := Lib.hid ((Has.made w 25 #[.int .i64 P, .int .i64 L]).below b1 (by simp))
         have z0 : w1.cell? ⟨w.heap.size, 0, none⟩ = some (.int .i64 P) := Z1.out.cell 0
         have z1 : w1.cell? ⟨w.heap.size, 1, none⟩ = some (.int .i64 L) := Z1.out.cell 1
         clear b1)
      | (go_at_call 13; refine (checkP_calls P L _).mono ?_; rw [hE.out]; rintro en w1 ⟨rfl, b1⟩
         replace Z1 := Lib.hid (Z1.out.below b1 Z1.out.lt)
         have z0 : w1.cell? ⟨w.heap.size, 0, none⟩ = some (.int .i64 P) := Z1.out.cell 0
         have z1 : w1.cell? ⟨w.heap.size, 1, none⟩ = some (.int .i64 L) := Z1.out.cell 1
         replace B1 := Lib.hid (B1.out.trans (b1.mono B1.out.size))
         clear b1)
      | fail)
    go_ret
    exact ⟨rfl, B1.out⟩
  · have hE : Hid (checkE P L = 0) := Lib.hid (by unfold checkE mayP; rw [if_pos]; simp; omega)
    obtain ⟨p, rfl⟩ : ∃ p : Nat, P = (p : Int) := ⟨P.toNat, by omega⟩
    obtain ⟨l, rfl⟩ : ∃ l : Nat, L = (l : Int) := ⟨L.toNat, by omega⟩
    go_enter Try.func7, Try.ntmps7
    go_wp2_with (first
      | (go_at_call 9; refine (awake_calls _).mono ?_; rintro en w1 ⟨rfl, b1⟩
         have B1 : Hid (Below w.heap.size w w1) := Lib.hid (((Below.refl _ w).alloc (Nat.le_refl _) _).trans (b1.mono (by simp)))
         have Z1 := Lib.hid ((Has.made w 25 #[.int .i64 p, .int .i64 l]).below b1 (by simp))
         have z0 : w1.cell? ⟨w.heap.size, 0, none⟩ = some (.int .i64 p) := Z1.out.cell 0
         have z1 : w1.cell? ⟨w.heap.size, 1, none⟩ = some (.int .i64 l) := Z1.out.cell 1
         clear b1)
      | (go_at_call 13; refine (checkP_calls p l _).mono ?_; rw [hE.out]; rintro en w2 ⟨rfl, b2⟩
         have Z2 := Lib.hid (Z1.out.below b2 Z1.out.lt)
         have B2 := Lib.hid (B1.out.trans (b2.mono B1.out.size))
         have hrun0 := run_makeMap (P := Try.prog) 55 w2
         have hown := World.ownsMap_made (H := Unit) w2 Try.prog 3 (plainElem Try.prog 3)
         have HM : Hid (cel.Mp _ w2.heap.size (DataW.map (H := Unit) [])) := cel.tight hown
         clear hown b2 z0 z1)
      | fail)
    go_name_world W hW
    have S0 : Hid (St w w.heap.size w2.heap.size p l 0 W) := by
      rw [← hW]
      exact Lib.hid ⟨HM.out, Z2.out.alloc _, Nat.le_refl _, B2.out.size, (Turn.of_below B2.out (F := fun j => w.heap.size ≤ j) (fun _ _ e => e)).alloc _⟩
    clear hW hrun0 HM Z2 B2 Z1 B1
    generalize w2.heap.size = y at *
    obtain ⟨z, hz⟩ : ∃ z, z = w.heap.size := ⟨_, rfl⟩
    rw [← hz] at S0 ⊢
    have HZ := Lib.hid hz
    clear hz
    have hpb : p ≤ 64 := by omega
    have hlb : l ≤ 256 := by omega
    go_loopw [45] (fun i wr => ∃ k : Nat, i = .int .i64 k ∧ k ≤ p ∧ Hid (St w z y p l k wr)) (fun i _ => p - (prc.intOf i).toNat)
    case atStart => exact ⟨0, rfl, Nat.zero_le _, S0⟩
    case round =>
      clear S0
      obtain ⟨k, rfl, hk, HS⟩ := hrel
      by_cases hk1 : k < p
      · have hkb : (k : Int) < (p : Int) := by omega
        have z0 : wr.cell? ⟨z, 0, none⟩ = some (.int .i64 p) := HS.out.box.cell 0
        have z1 : wr.cell? ⟨z, 1, none⟩ = some (.int .i64 l) := HS.out.box.cell 1
        go_wp2_with (first
          | (go_at_call 24; refine (wishP_calls p l k _).mono ?_; rintro en w5 ⟨rfl, b5⟩
             have S5 := HS.out.below b5
             obtain ⟨hlook, w6, hrun6, S6⟩ := S5.put (by omega)
             replace S6 := Lib.hid S6
             clear S5 b5)
          | fail)
        refine ⟨⟨k + 1, by rw [Int.natCast_add]; rfl, by omega, S6⟩, ?_⟩
        show p - ((k : Int) + 1).toNat < p - ((k : Int)).toNat
        omega
      · obtain rfl : k = p := by omega
        go_wp2_with fail
        go_loopw [56] (fun i wr2 => ∃ j : Nat, i = .int .i64 j ∧ j ≤ l ∧ Hid (St w z y k l (k + j) wr2)) (fun i _ => l - (prc.intOf i).toNat)
        case atStart => exact ⟨0, rfl, Nat.zero_le _, HS⟩
        case round =>
          clear HS
          obtain ⟨j, rfl, hj, HS⟩ := hrel
          by_cases hj1 : j < l
          · have hjb : (j : Int) < (l : Int) := by omega
            have z0 : wr.cell? ⟨z, 0, none⟩ = some (.int .i64 k) := HS.out.box.cell 0
            have z1 : wr.cell? ⟨z, 1, none⟩ = some (.int .i64 l) := HS.out.box.cell 1
            obtain ⟨q, hq⟩ : ∃ q : Nat, q = k + j := ⟨_, rfl⟩
            have hqi : (k : Int) + (j : Int) = (q : Int) := by omega
            have HQ := Lib.hid hqi
            rw [← hq] at HS
            have HQN := Lib.hid hq
            clear hq
            go_wp2_with (first
              | (go_at_call 18; refine (slotP_calls k l j _ (by omega) (by omega) (by omega) (by omega)).mono ?_; rw [HQ.out]; rintro en w5 ⟨rfl, b5⟩
                 have S5 := HS.out.below b5
                 obtain ⟨hlook, w6, hrun6, S6⟩ := S5.put (by have := HQN.out; omega)
                 replace S6 := Lib.hid S6
                 clear S5 b5)
              | fail)
            refine ⟨⟨j + 1, by rw [Int.natCast_add]; rfl, by omega, by rw [show k + (j + 1) = q + 1 by have := HQN.out; omega]; exact S6⟩, ?_⟩
            show l - ((j : Int) + 1).toNat < l - ((j : Int)).toNat
            omega
          · obtain rfl : j = l := by omega
            obtain ⟨q, hq⟩ : ∃ q : Nat, q = k + j := ⟨_, rfl⟩
            rw [← hq] at HS
            have HQN := Lib.hid hq
            have hqi : Hid ((k : Int) + (j : Int) = (q : Int)) := Lib.hid (by omega)
            clear hq
            have hown : wr.ownsMap Try.prog 3 (plainElem Try.prog 3) y (Maps.size (mp q)) (mp q) := HS.out.map
            have hrz : Hid (w.heap.size ≤ wr.heap.size ∧ wr.heap.size ≠ z ∧ wr.heap.size ≠ y) := Lib.hid ⟨HS.out.turn.size, by have := HS.out.box.lt; omega, by have := HS.out.map.lt; omega⟩
            have HS' := Lib.hid (And.intro HS.out.box (And.intro HS.out.turn (And.intro HS.out.nz HS.out.ny)))
            clear HS
            go_wp2_with (first
              | (at_range; refine wpList_range_own _ rfl _ 55 rfl 3 3 cel.intKeyed Try.underlying55 _ y (Maps.size (mp q)) (mp q) rfl hown ?_; intro w0 hrg0 hg0 hs0)
              | fail)
            have HX0 : Hid (Has w0 z 25 #[.int .i64 k, .int .i64 j] ∧ Turn (fun i => w.heap.size ≤ i) w w0) := Lib.hid ⟨HS'.out.1.grown hg0 (by simp), HS'.out.2.1.grown hg0 (fun i e _ => by cases e)⟩
            have HN := Lib.hid HS'.out.2.2
            clear HS' hown hg0 hs0
            try go_frame
            generalize wr.heap.size = r at *
            go_loopw [10] (fun _ wr2 => ∃ (left : Lit → Bool) (cn : Nat), wr2.ranges Try.prog 3 (plainElem Try.prog 3) y r (Maps.size (mp q)) (mp q) left cn ∧ Hid (Has wr2 z 25 #[.int .i64 k, .int .i64 j] ∧ Turn (fun i => w.heap.size ≤ i) w wr2)) (fun _ wr2 => wr2.rangeLeft y r)
            case atStart => exact ⟨_, _, hrg0, HX0⟩
            case round =>
              clear hrg0 HX0
              obtain ⟨left, cn, hrg, HX⟩ := hrel
              go_wp2_with (first
                | (at_next; refine wpList_next_ranges_ii _ rfl _ rfl 3 3 .i64 .i64 cel.intKeyed Try.underlying3 Try.underlying3 y r (Maps.size (mp q)) _ _ _ rfl hrg ?_ ?_)
                | fail)
              · intro _ hl0
                have hlen := (World.ranges.owns hrg).len Try.underlying55 3
                rw [mp_size] at hlen
                have z0 : wr.cell? ⟨z, 0, none⟩ = some (.int .i64 k) := HX.out.1.cell 0
                have z1 : wr.cell? ⟨z, 1, none⟩ = some (.int .i64 j) := HX.out.1.cell 1
                have BE := Lib.hid (HX.out.2.below (Nat.le_refl _) (fun _ hj e => by omega))
                have HB1 := Lib.hid HX.out.1
                clear hrg hl0 HX
                go_wp2_with (first
                  | (go_at_call 15
                     refine (cellsP_calls k j _ (by omega) (by omega) (by omega) (by omega)).mono ?_
                     rw [hqi.out]
                     rintro en w5 ⟨rfl, b5⟩
                     have Z5 := Lib.hid (HB1.out.below b5 HB1.out.lt)
                     have B5 := Lib.hid (BE.out.trans (b5.mono BE.out.size))
                     have z0' : w5.cell? ⟨z, 0, none⟩ = some (.int .i64 k) := Z5.out.cell 0
                     have z1' : w5.cell? ⟨z, 1, none⟩ = some (.int .i64 j) := Z5.out.cell 1
                     clear b5)
                  | (go_at_call 21; refine (boundP_calls k j _ (by omega) (by omega)).mono ?_; rintro en w6 ⟨rfl, b6⟩
                     have B6 := Lib.hid (B5.out.trans (b6.mono B5.out.size))
                     clear b6)
                  | fail)
                go_ret
                exact ⟨rfl, B6.out⟩
              · intro x e w4 cn1 hwx hwc hlx hat hrg1 hlt hg1 hs1 hen
                obtain ⟨hx0, hx1, rfl⟩ := mp_in hat
                have HX4 : Hid (Has w4 z 25 #[.int .i64 k, .int .i64 j] ∧ Turn (fun i => w.heap.size ≤ i) w w4) := Lib.hid ⟨HX.out.1.grown hg1 (fun e => hrz.out.2.1 (by injection e with e; exact e.symm)), HX.out.2.grown hg1 (fun i e _ => by injection e with e; rw [← e]; exact hrz.out.1)⟩
                have HLT := Lib.hid hlt
                have HCN := Lib.hid hrg.left_eq
                have HRG := Lib.hid hrg1
                have z0 : w4.cell? ⟨z, 0, none⟩ = some (.int .i64 k) := HX4.out.1.cell 0
                have z1 : w4.cell? ⟨z, 1, none⟩ = some (.int .i64 j) := HX4.out.1.cell 1
                clear hwx hwc hlx hat hrg hrg1 hlt hg1 hs1 HX
                go_wp2_with (first
                  | (go_at_call 15; refine (cellsP_calls k j _ (by omega) (by omega) (by omega) (by omega)).mono ?_; rw [hqi.out]; rintro en w5 ⟨rfl, b5⟩
                     have HR5 := Lib.hid (HRG.out.kept (row := none) (w' := w5) ⟨b5.os, b5.tape, b5.output, b5.size, fun k hk _ => b5.block k hk⟩ (by simp) (by simp))
                     have HX5 : Hid (Has w5 z 25 #[.int .i64 k, .int .i64 j] ∧ Turn (fun i => w.heap.size ≤ i) w w5) := Lib.hid ⟨HX4.out.1.below b5 HX4.out.1.lt, HX4.out.2.trans (Turn.of_below b5 (F := fun j => w4.heap.size ≤ j) (fun _ _ e => e)) (fun j h1 h2 => absurd h2 (by have := HX4.out.2.size; omega))⟩
                     clear b5)
                  | fail)
                exact ⟨⟨_, _, HR5.out, HX5⟩, by rw [HR5.out.left_eq, HCN.out]; exact HLT.out⟩

theorem walk (n st : Int) (w : World) (_ : (Lit.int .i64 n).wf = true) (_ : (Lit.int .i64 st).wf = true) :
    Calls Try.prog 7 #[.int .i64 n, .int .i64 st] w fun en w' => en = .returned (.bool true) ∧ Below w.heap.size w w' := places_any n st w

theorem own : ownKnob Try.prog.godebug = none := by kernel_rfl
theorem laidOut : laidOutB Try.prog = true := by kernel_rfl

set_option maxRecDepth 100000 in
theorem lifted (os : Os) (started : os.Started) (H : Type) (enc : TypeId × Value → H) :
    ReturnsInHanded {} Try.checked os 7 .any (Rows.procPlacesSpec.pre6 enc Try.prog Try.f7 Rows.procPlacesRow.domain false) (Rows.procPlacesSpec.post enc Try.prog Try.f7 false true false false) := by
  refine returnsInHanded_of_change (C := Try.checked) own started (by kernel_rfl) Try.func7
    (ChangeSpec.witness6 (enc := enc) (C := Try.checked) false ⟨#[], #[.int .i64 0, .int .i64 0], []⟩ 8 (by kernel_rfl) (by kernel_rfl) (by kernel_rfl) (by kernel_rfl)) ?_
  intro W base args ds gs before hval0 hW _ _
  have hval : ∀ (j : Nat) t v, Try.f7.params[j]? = some t → args[j]? = some v → Value.okWide Try.prog W .any base t v := hval0
  have hW' := hW
  obtain ⟨p, q, hA0, hV, rfl, _, _⟩ := hW
  have hA : DataW.TrodAll enc Try.prog W 0 (fun _ => true) true Try.f7.params.toList args.toList ds p := hA0
  rw [Try.params7] at hA hval
  obtain ⟨v0, vs0, d0, ds0, p0, q0, hargs, rfl, rfl, h0, r0⟩ := trodAll_cons hA
  obtain ⟨v1, vs1, d1, ds1, p1, q1, rfl, rfl, rfl, h1, r1⟩ := trodAll_cons r0
  obtain ⟨rfl, rfl, rfl⟩ := trodAll_nil r1
  obtain rfl : args = #[v0, v1] := by cases args; simp_all
  obtain ⟨rfl, rfl⟩ := trodVars_none hV
  obtain ⟨a0, rfl, rfl, rfl, w0⟩ := open_int Try.underlying3 (hval 0 3 v0 rfl rfl) h0
  obtain ⟨a1, rfl, rfl, rfl, w1⟩ := open_int Try.underlying3 (hval 1 3 v1 rfl rfl) h1
  clear hA0 hval0
  refine (walk a0 a1 W w0 w1).mono fun e W' ⟨he, bel⟩ => ?_
  subst he
  exact ⟨_, rfl, _, _, _, [], _, [], hW', trodAll_mk1 (shut_bool Try.underlying4 _), (trodAll_cons_mk (shut_int Try.underlying3 w0) (trodAll_cons_mk (shut_int Try.underlying3 w1) trodAll_mk0)), rfl, bel.frame _, fun h => by cases h⟩

theorem over : Rows.procPlacesRow.holds Try.pinned (OpenSpec.ofChange Rows.procPlacesSpec) :=
  OpenClaim.holds_of_wide 7 Try.f7 rfl rfl rfl rfl rfl rfl rfl ⟨rfl, rfl, rfl, rfl, rfl⟩ rfl rfl rfl rfl rfl (by kernel_rfl) Try.func7 (by kernel_rfl)
    (of_decide_eq_true (by kernel_rfl)) (by unfold Func.isWrapper; first | (rw [if_pos (by decide +kernel)]; kernel_rfl) | (rw [if_neg (by decide +kernel)]; exact ⟨rfl, rfl⟩))
    (fun os started H enc _ => lifted os started H enc)

theorem proved : Rows.ProcPlacesSaid := over

end Go.Proofs.Ytlbpephbigikcab.procPlaces
