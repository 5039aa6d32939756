/- sched: an agenda: Plan, Add, Left, Take. -/
import Derived.Test.YtbpnbnbglfiglaaRow
import Derived.Test.YtbpnbnbglfiglaaCopy
import Derived.Maps.OwnSet
import Derived.Deep.QuietTactic
import Derived.BigQuiet
import Derived.Lib.ItoaWalk
namespace Go.Proofs.Ytbpnbnbglfiglaa.sch
open Go Go.RowKit Go.Maps

abbrev kI (n : Int) : Lit := .int .i64 n
theorem kI_inj {x y : Int} (h : kI x = kI y) : x = y := by injection h
def Fits (n : Int) : Prop := -9223372036854775808 ≤ n ∧ n ≤ 9223372036854775807
theorem wf64 {n : Int} (h : Fits n) : (Lit.int .i64 n).wf = true := by
  have m0 : IntKind.i64.min = -9223372036854775808 := by decide
  have m1 : IntKind.i64.max = 9223372036854775807 := by decide
  show (decide (IntKind.i64.min ≤ n) && decide (n ≤ IntKind.i64.max)) = true
  rw [m0, m1]
  simpa [Fits] using h
theorem intKeyed : Keyed Try.prog 3 := int_keyed Try.underlying3
theorem kI_of {n : Int} (h : Fits n) : keyOf Try.prog 3 (.int .i64 n) = some (kI n) := keyOf_int_mk Try.underlying3 (wf64 h)

/-- Each element stands for itself. -/
def anyR (v : Value) : Option (DataW Value × List MemPlace) := some (.held v, [])
abbrev nilS : Value := .slice none 0 0
theorem zeroS (w : World) : (zeroValue 45).run Try.prog w = .ok nilS w := by kernel_rfl

/-- Block m is a map from numbers to slices that reads as D. -/
def Mv (w : World) (m : Nat) (D : DataW Value) : Prop := w.ownsMap Try.prog 3 anyR m (Maps.size D) D

theorem mv_tight {w : World} {b n : Nat} {D : DataW Value} (h : w.ownsMap Try.prog 3 anyR b n D) : Mv w b D := by
  obtain ⟨es, clock, hb, F, _, rfl⟩ := h
  exact ⟨es, clock, hb, F, by simp [Maps.size, length_sorted], rfl⟩
theorem Mv.lt {w : World} {m : Nat} {D : DataW Value} (h : Mv w m D) : m < w.heap.size := World.ownsMap.lt h
theorem Mv.ne {w : World} {d m : Nat} {D : DataW Value} {t : TypeId} {cs : Array Value} (h : Mv w m D) (hb : Has w d t cs) : m ≠ d := by
  rintro rfl
  obtain ⟨es, clock, h1, _⟩ := h
  unfold Has at hb
  rw [h1] at hb
  cases hb
theorem Mv.keep {w w' : World} {m : Nat} {D : DataW Value} (h : Mv w m D) (e : w'.heap[m]? = w.heap[m]?) : Mv w' m D := by
  obtain ⟨es, clock, h1, h2⟩ := h
  exact ⟨es, clock, e.trans h1, h2⟩
theorem Mv.seg {w : World} {m : Nat} {D : DataW Value} {e : TypeId} {sz n : Nat} {v : Value} {xs : List Value} (h : Mv w m D) (hs : Seg w e sz v n xs) : v.ownBlock ≠ some m := by
  intro hb
  obtain ⟨es, clock, h1, _⟩ := h
  rcases hs.2 with ⟨rfl, _⟩ | ⟨g, off, cap, cur, rfl, hg, _⟩
  · cases hb
  · injection hb with hb
    obtain rfl : g = m := hb
    rw [h1] at hg
    cases hg

def updI {α : Type} (F : Int → α) (k : Int) (v : α) (i : Int) : α := if i = k then v else F i
theorem updI_same {α : Type} (F : Int → α) (k : Int) (v : α) : updI F k v k = v := if_pos rfl
theorem updI_other {α : Type} (F : Int → α) {k i : Int} (v : α) (h : i ≠ k) : updI F k v i = F i := if_neg h

abbrev strs (l : List ByteArray) : List Value := l.map Value.string

/-- The agenda at block g, its map m: of each process the list L of its things lies in slice V. -/
structure Ag (w : World) (g m : Nat) (D : DataW Value) (V : Int → Value) (L : Int → List ByteArray) (W : World) : Prop where
  box : Has W g 70 #[.map (some m)]
  map : Mv W m D
  at_ : ∀ x, Fits x → D.atKey (kI x) (.held nilS) = .held (V x)
  has : ∀ x, Maps.has D (kI x) = true ↔ L x ≠ []
  seg : ∀ x, Seg W 9 1 (V x) (L x).length (strs (L x))
  apart : ∀ x y b, x ≠ y → (V x).ownBlock = some b → (V y).ownBlock ≠ some b
  ng : w.heap.size ≤ g
  nm : w.heap.size ≤ m
  nv : ∀ x b, (V x).ownBlock = some b → w.heap.size ≤ b
  turn : Turn (fun j => w.heap.size ≤ j) w W

section
variable {w W W' : World} {g m : Nat} {D : DataW Value} {V : Int → Value} {L : Int → List ByteArray}

theorem Ag.ends (h : Ag w g m D V L W) : Below w.heap.size w W := h.turn.below (Nat.le_refl _) (fun _ hj e => by omega)
theorem Ag.other {F : Nat → Prop} (h : Ag w g m D V L W) (t : Turn F W W') (hF : ∀ j, F j → w.heap.size ≤ j) (h1 : ¬ F g) (h2 : ¬ F m) (h3 : ∀ x b, (V x).ownBlock = some b → ¬ F b) : Ag w g m D V L W' :=
  ⟨h.box.turn t h1, h.map.keep (t.block m h.map.lt h2), h.at_, h.has, fun x => (h.seg x).turn t (h3 x), h.apart, h.ng, h.nm, h.nv, h.turn.trans t (fun j _ e => hF j e)⟩
theorem Ag.below (h : Ag w g m D V L W) (hb : Below W.heap.size W W') : Ag w g m D V L W' :=
  ⟨h.box.below hb h.box.lt, h.map.keep (hb.block m h.map.lt), h.at_, h.has, fun x => (h.seg x).below hb (fun b hb => (h.seg x).lt hb), h.apart, h.ng, h.nm, h.nv, h.turn.trans (Turn.of_below hb (F := fun j => W.heap.size ≤ j) (fun _ _ e => e)) (fun j h1 h2 => absurd h2 (by have := h.turn.size; omega))⟩
theorem Ag.drew (h : Ag w g m D V L W) : Ag w g m D V L W.drew := ⟨h.box, h.map, h.at_, h.has, h.seg, h.apart, h.ng, h.nm, h.nv, h.turn.drew⟩

set_option maxRecDepth 100000 in
/-- Looked up. -/
theorem Ag.look (h : Ag w g m D V L W) (x : Int) (hx : Fits x) : (Instr.lookup 48 (.map (some m)) (.int .i64 x) false).run Try.prog W = .ok (V x) W := by
  obtain ⟨v, ps, hrun, hv⟩ := World.ownsMap.lookup (e := 45) (show W.ownsMap Try.prog 3 anyR m (Maps.size D) D from h.map) intKeyed Try.underlying48 (zeroS W) (zd := .held nilS) rfl (kI_of hx)
  rw [hrun]
  unfold anyR at hv
  rw [h.at_ x hx] at hv
  injection hv with hv
  injection hv with hv
  injection hv with hv
  rw [hv]

set_option maxRecDepth 100000 in
/-- Stored, where the slice that is stored lies in the world already. -/
theorem Ag.store {v : Value} {l : List ByteArray} (h1 : Has W g 70 #[.map (some m)]) (h2 : Mv W m D) (h3 : ∀ x, Fits x → D.atKey (kI x) (.held nilS) = .held (V x)) (h4 : ∀ x, Maps.has D (kI x) = true ↔ L x ≠ []) (who : Int) (hw : Fits who)
    (h5 : ∀ x, x ≠ who → Seg W 9 1 (V x) (L x).length (strs (L x))) (h6 : Seg W 9 1 v l.length (strs l)) (h7 : ∀ x y b, x ≠ y → (updI V who v x).ownBlock = some b → (updI V who v y).ownBlock ≠ some b) (hl : l ≠ [])
    (h8 : w.heap.size ≤ g) (h9 : w.heap.size ≤ m) (h10 : ∀ x b, (updI V who v x).ownBlock = some b → w.heap.size ≤ b) (h11 : Turn (fun j => w.heap.size ≤ j) w W) (hs : Maps.size D < 1000000) :
    ∃ W', (Instr.mapUpdate 48 (.map (some m)) (.int .i64 who) v).run Try.prog W = .ok () W' ∧ Ag w g m (D.put (kI who) (.held v)) (updI V who v) (updI L who l) W' ∧ W.grownBy W' (some m) := by
  have hown : W.ownsMap Try.prog 3 anyR m (Maps.size D) D := h2
  obtain ⟨W', hrun, hown', hturn⟩ := hown.store intKeyed Try.underlying48 (by unfold maxLen; omega) (kI_of hw) (d := .held v) (ps := []) rfl
  have hg := hturn.grown
  have hgm : m ≠ g := h2.ne h1
  have t : Turn (fun j => j = m) W W' := (Turn.refl _ W).grown hg (fun j e _ => by injection e with e; exact e.symm)
  refine ⟨W', hrun, ⟨h1.turn t (fun e => hgm e.symm), mv_tight hown', fun x hx => ?_, fun x => ?_, fun x => ?_, h7, h8, h9, h10, h11.trans t (fun j _ e => by rw [e]; exact h9)⟩, hg⟩
  · by_cases e : x = who
    · subst e
      rw [updI_same]
      exact atKey_put_same (World.ownsMap.isMap hown) (by simp [WideAt.IsKeyLit]) _ _
    · rw [updI_other _ _ e, atKey_put_other (fun h => e (kI_inj h))]
      exact h3 x hx
  · by_cases e : x = who
    · subst e
      rw [updI_same, has_put_same (World.ownsMap.isMap hown) (by simp [WideAt.IsKeyLit])]
      exact ⟨fun _ => hl, fun _ => rfl⟩
    · rw [updI_other _ _ e, has_put_other (fun h => e (kI_inj h))]
      exact h4 x
  · by_cases e : x = who
    · subst e
      rw [updI_same, updI_same]
      exact h6.turn t (fun b hb e => h2.seg h6 (by rw [hb, e]))
    · rw [updI_other _ _ e, updI_other _ _ e]
      exact (h5 x e).turn t (fun b hb e2 => h2.seg (h5 x e) (by rw [hb, e2]))
end

def PlanPost (w W : World) (en : Ending) (W' : World) : Prop := ∃ g m, en = .returned (.pointer (some ⟨g, 0, none⟩)) ∧ W.heap.size ≤ g ∧ W.heap.size ≤ m ∧ Below W.heap.size W W' ∧ Ag w g m (.map []) (fun _ => nilS) (fun _ => []) W'

theorem plan_calls (w W : World) (hT : Turn (fun j => w.heap.size ≤ j) w W) : Calls Try.prog 15 #[] W (PlanPost w W) := by
  have hrun0 := run_makeMap (P := Try.prog) 48 W
  have hown := World.ownsMap_made (H := Value) W Try.prog 3 anyR
  have HM : Hid (Mv (W.alloc (.map #[] 0)) W.heap.size (.map [])) := Lib.hid (mv_tight hown)
  have HT := Lib.hid hT
  clear hown hT
  go_enter Try.func15, Try.ntmps15
  go_wp2_with fail
  go_ret
  refine ⟨W.heap.size + 1, W.heap.size, rfl, by omega, Nat.le_refl _, ?_, ⟨?_, HM.out.keep (Below.heap_alloc _ _ _ HM.out.lt), fun _ _ => rfl, fun x => ⟨fun h => (by cases h), fun h => absurd rfl h⟩, fun x => Seg.nil _ _ _, fun _ _ _ _ h => (by cases h), Nat.le_succ_of_le HT.out.size, HT.out.size, fun _ _ h => (by cases h), (HT.out.alloc _).alloc _⟩⟩
  · exact ((Below.refl _ W).alloc (Nat.le_refl _) _).alloc (by simp) _
  · exact made_at _ _ (by simp)

section
variable {w W W' : World} {g m : Nat} {D : DataW Value} {V : Int → Value} {L : Int → List ByteArray}

def Kin (g m : Nat) (V : Int → Value) (j : Nat) : Prop := j = g ∨ j = m ∨ ∃ x, (V x).ownBlock = some j

theorem left_calls (h : Ag w g m D V L W) (who : Int) (hw : Fits who) : Calls Try.prog 19 #[.pointer (some ⟨g, 0, none⟩), .int .i64 who] W fun en W' => en = .returned (.int .i64 (L who).length) ∧ W = W' := by
  have c0 : W.cell? ⟨g, 0, none⟩ = some (.map (some m)) := h.box.cell 0
  have hl := h.look who hw
  obtain ⟨a, c, hv, _⟩ := (h.seg who).slice
  rw [hv] at hl
  clear h hv
  go_enter Try.func19, Try.ntmps19
  go_wp2_with fail
  go_ret
  exact ⟨rfl, rfl⟩

def AddPost (w : World) (g m : Nat) (D : DataW Value) (V : Int → Value) (L : Int → List ByteArray) (who : Int) (l : List ByteArray) (W : World) (en : Ending) (W' : World) : Prop :=
  en = .returned (.tuple #[]) ∧ ∃ v, Ag w g m (D.put (kI who) (.held v)) (updI V who v) (updI L who (L who ++ l)) W' ∧ (∀ b, v.ownBlock = some b → (V who).ownBlock = some b ∨ W.heap.size ≤ b) ∧ Turn (Kin g m V) W W'

theorem one_strs (l : List ByteArray) : ∀ u ∈ strs l, u.oneCell' = true := by
  intro u hu
  obtain ⟨s, _, rfl⟩ := List.mem_map.1 hu
  rfl

set_option maxRecDepth 100000 in
set_option maxHeartbeats 4000000 in
theorem add_calls (h : Ag w g m D V L W) (who : Int) (hw : Fits who) (b o n c : Nat) (l : List ByteArray) (hn : l.length = n) (hn0 : 0 < n) (hn1 : n ≤ 1000) (hL : (L who).length ≤ 1000) (hs : Maps.size D < 1000000)
    (hS : Seg W 9 1 (.slice (some ⟨b, o, none⟩) n c) n (strs l)) :
    Calls Try.prog 17 #[.pointer (some ⟨g, 0, none⟩), .int .i64 who, .slice (some ⟨b, o, none⟩) n c] W (AddPost w g m D V L who l W) := by
  obtain ⟨i0, z0, hi0, hz0, hz1, hz2, hz3⟩ : ∃ i z, Try.prog.info? 9 = some i ∧ i.zero = some z ∧ i.size = 1 ∧ z.cells.size = 1 ∧ i.bytes = 16 := by
    have h2 : (Try.prog.info? 9).map (fun i => (i.zero.map (fun z => z.cells.size), i.size, i.bytes)) = some (some 1, 1, 16) := by kernel_rfl
    obtain ⟨i, hi, e⟩ := Option.map_eq_some_iff.1 h2
    simp at e
    obtain ⟨⟨z, hz, hz2⟩, h3, h4⟩ := e
    exact ⟨i, z, hi, hz, h3, hz2, h4⟩
  have HI0 := Lib.hid hi0
  have HZ0 := Lib.hid hz0
  have H := Lib.hid h
  have c0 : W.cell? ⟨g, 0, none⟩ = some (.map (some m)) := h.box.cell 0
  have hl : (Instr.lookup 48 (.map (some m)) (.int .i64 who) false).run Try.prog W.drew = .ok (V who) W.drew := h.drew.look who hw
  have HS := Lib.hid hS
  have HL := Lib.hid (And.intro hL (And.intro hs hw))
  have hn0' : (0 : Int) < (n : Int) := by omega
  have HN := Lib.hid hn
  clear hi0 hz0 h hS hL hs hn hw
  go_enter Try.func17, Try.ntmps17
  go_wp2_with fail
  go_region_law (refine step_append_seg _ rfl (.tmp 19) (.tmp 20) 45 rfl 9 i0 z0 1 16 Try.underlying45 HI0.out HZ0.out hz1 hz3 hz2 (by decide) (V who) (L who).length _ (by simp [Act.eval]) ((H.out.seg who).drew) ⟨b, o, none⟩ n c (strs l) (by simp [Act.eval]) (by rw [List.length_map, HN.out, Nat.mul_one]) (by exact HS.out.drew.news) (one_strs l) hn0 (by have := HL.out.1; unfold maxLen; omega) (by have := HL.out.1; omega) _ rfl ?_
                 intro b2 o2 c2 w2 hown hg hat hlt
                 have t2 : Turn (fun j => (V who).ownBlock = some j) W w2 := ((Turn.refl (fun j => (V who).ownBlock = some j) W).drew).grown hg (fun j e _ => e)
                 obtain ⟨W3, hrun3, A3, hg3⟩ := Ag.store (w := w) (W := w2) (g := g) (m := m) (D := D) (V := V) (L := L) (v := .slice (some ⟨b2, o2, none⟩) ((L who).length + n) c2) (l := L who ++ l) (H.out.box.turn t2 (fun e => (H.out.seg who).ne H.out.box (by decide) e)) (H.out.map.keep (t2.block m H.out.map.lt (H.out.map.seg (H.out.seg who)))) H.out.at_ H.out.has who HL.out.2.2
                   (fun x hx => (H.out.seg x).turn t2 (fun b hb e => H.out.apart x who b hx hb e)) (by have e : (L who ++ l).length = (L who).length + n := by rw [List.length_append, HN.out]
                                                                                                       rw [e]; unfold strs; rw [List.map_append]; exact hown)
                   (by
                     have new : ∀ x b, x ≠ who → (V x).ownBlock = some b → b ≠ b2 := fun x b hx hb e => by
                       rcases hat with k | k
                       · exact H.out.apart x who b hx hb (by rw [k, e])
                       · have := (H.out.seg x).lt hb
                         have k' : b2 = W.heap.size := k
                         omega
                     intro x y b hxy hb hb2
                     by_cases ex : x = who
                     · subst ex
                       rw [updI_same] at hb
                       rw [updI_other _ _ (fun e => hxy e.symm)] at hb2
                       exact new y b (fun e => hxy e.symm) hb2 (by injection hb with hb; exact hb.symm)
                     · rw [updI_other _ _ ex] at hb
                       by_cases ey : y = who
                       · subst ey
                         rw [updI_same] at hb2
                         exact new x b ex hb (by injection hb2 with hb2; exact hb2.symm)
                       · rw [updI_other _ _ ey] at hb2
                         exact H.out.apart x y b hxy hb hb2)
                   (by intro e; have := congrArg List.length e; rw [List.length_append, HN.out] at this; simp at this; omega) H.out.ng H.out.nm
                   (by
                     intro x b hb
                     by_cases ex : x = who
                     · subst ex
                       rw [updI_same] at hb
                       obtain rfl : b2 = b := by injection hb with hb
                       rcases hat with k | k
                       · exact H.out.nv x b2 k
                       · have k' : b2 = W.heap.size := k
                         rw [k']; exact H.out.turn.size
                     · rw [updI_other _ _ ex] at hb
                       exact H.out.nv x b hb)
                   (H.out.turn.trans t2 (fun j _ e => H.out.nv who j e)) HL.out.2.1
                 have P3 : Hid (AddPost w g m D V L who l W (.returned (.tuple #[])) W3) := Lib.hid ⟨rfl, _, A3, fun b hb => by
                   obtain rfl : b2 = b := by injection hb with hb
                   rcases hat with k | k
                   · exact .inl k
                   · exact .inr (Nat.le_of_eq k.symm), (t2.more (F := Kin g m V) (fun j _ e => .inr (.inr ⟨who, e⟩))).grown hg3 (fun j e _ => by injection e with e; exact .inr (.inl e.symm))⟩
                 have c2 : w2.cell? ⟨g, 0, none⟩ = some (.map (some m)) := (H.out.box.turn t2 (fun e => (H.out.seg who).ne H.out.box (by decide) e)).cell 0
                 clear hown hg hat hlt t2 A3 hg3)
  all_goals
    go_wp2_with fail
    go_end0
    exact P3.out
end
end Go.Proofs.Ytbpnbnbglfiglaa.sch
