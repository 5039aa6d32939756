/- sched: a law's own map from numbers to lists of things, beside an agenda. -/
import Derived.Test.YtbpnbnbglfiglaaSchJ
import Derived.Test.YtbpnbnbglfiglaaSchG
namespace Go.Proofs.Ytbpnbnbglfiglaa.sch
open Go Go.RowKit Go.Maps

/-- The map m: at each number x the list L x lies in slice V x. -/
structure Mp (w : World) (m : Nat) (D : DataW Value) (V : Int → Value) (L : Int → List ByteArray) (W : World) : Prop where
  map : Mv W m D
  at_ : ∀ x, Fits x → D.atKey (kI x) (.held nilS) = .held (V x)
  has : ∀ x, Maps.has D (kI x) = true ↔ L x ≠ []
  seg : ∀ x, Seg W 9 1 (V x) (L x).length (strs (L x))
  apart : ∀ x y b, x ≠ y → (V x).ownBlock = some b → (V y).ownBlock ≠ some b
  nm : w.heap.size ≤ m
  nv : ∀ x b, (V x).ownBlock = some b → w.heap.size ≤ b

section
variable {w W W' : World} {g m : Nat} {D : DataW Value} {V : Int → Value} {L : Int → List ByteArray}
theorem Mp.turn {F : Nat → Prop} (h : Mp w m D V L W) (t : Turn F W W') (h2 : ¬ F m) (h3 : ∀ x b, (V x).ownBlock = some b → ¬ F b) : Mp w m D V L W' :=
  ⟨h.map.keep (t.block m h.map.lt h2), h.at_, h.has, fun x => (h.seg x).turn t (h3 x), h.apart, h.nm, h.nv⟩
theorem Mp.below (h : Mp w m D V L W) (hb : Below W.heap.size W W') : Mp w m D V L W' :=
  ⟨h.map.keep (hb.block m h.map.lt), h.at_, h.has, fun x => (h.seg x).below hb (fun _ e => (h.seg x).lt e), h.apart, h.nm, h.nv⟩
theorem Mp.drew (h : Mp w m D V L W) : Mp w m D V L W.drew := ⟨h.map, h.at_, h.has, h.seg, h.apart, h.nm, h.nv⟩
theorem Mp.drewN (h : Mp w m D V L W) (n : Nat) : Mp w m D V L (W.drewN n) := ⟨h.map, h.at_, h.has, h.seg, h.apart, h.nm, h.nv⟩
theorem Mp.made (w W : World) (hw : w.heap.size ≤ W.heap.size) : Mp w W.heap.size (.map []) (fun _ => nilS) (fun _ => []) (W.alloc (.map #[] 0)) :=
  ⟨mv_tight (World.ownsMap_made (H := Value) W Try.prog 3 anyR), fun _ _ => rfl, fun x => ⟨fun h => (by cases h), fun h => absurd rfl h⟩, fun x => Seg.nil _ _ _, fun _ _ _ _ h => (by cases h), hw, fun _ _ h => (by cases h)⟩
set_option maxRecDepth 100000 in
theorem Mp.look (h : Mp w m D V L W) (x : Int) (hx : Fits x) : (Instr.lookup 48 (.map (some m)) (.int .i64 x) false).run Try.prog W = .ok (V x) W := by
  obtain ⟨v, ps, hrun, hv⟩ := World.ownsMap.lookup (e := 45) (show W.ownsMap Try.prog 3 anyR m (Maps.size D) D from h.map) intKeyed Try.underlying48 (zeroS W) (zd := .held nilS) rfl (kI_of hx)
  rw [hrun]
  unfold anyR at hv
  rw [h.at_ x hx] at hv
  injection hv with hv
  injection hv with hv
  injection hv with hv
  rw [hv]
theorem Mp.len (h : Mp w m D V L W) : (Builtin.len_ #[48] 3 #[.map (some m)]).run Try.prog W = .ok (.int .i64 (Maps.size D)) W :=
  World.ownsMap.len (show W.ownsMap Try.prog 3 anyR m (Maps.size D) D from h.map) Try.underlying48 3
theorem Mp.tidy (h : Mp w m D V L W) : Tidy D := World.ownsMap.tidy (show W.ownsMap Try.prog 3 anyR m (Maps.size D) D from h.map) intKeyed
theorem Ag.tidy (h : Ag w g m D V L W) : Tidy D := World.ownsMap.tidy (show W.ownsMap Try.prog 3 anyR m (Maps.size D) D from h.map) intKeyed
theorem Mp.size {m2 : Nat} {D2 : DataW Value} {V2 : Int → Value} (h : Mp w m D V L W) (h2 : Ag w g m2 D2 V2 L W) : Maps.size D2 = Maps.size D := by
  obtain ⟨k1, k2, k3, _⟩ := keysI_spec (show W.ownsMap Try.prog 3 anyR m (Maps.size D) D from h.map) intKeyed Try.underlying3
  obtain ⟨j1, j2, j3, _⟩ := keysI_spec (show W.ownsMap Try.prog 3 anyR m2 (Maps.size D2) D2 from h2.map) intKeyed Try.underlying3
  have hp : (intKeys D2).Perm (intKeys D) := (List.perm_ext_iff_of_nodup j1 k1).2 fun x => by
    rw [j2, k2]
    exact (h2.has x).trans (h.has x).symm
  rw [← j3, ← k3, hp.length_eq]

set_option maxRecDepth 100000 in
/-- Stored at one number: a slice that lies in the world already. -/
theorem Mp.store {v : Value} {l : List ByteArray} (h2 : Mv W m D) (h3 : ∀ x, Fits x → D.atKey (kI x) (.held nilS) = .held (V x)) (h4 : ∀ x, Maps.has D (kI x) = true ↔ L x ≠ []) (who : Int) (hw : Fits who)
    (h5 : ∀ x, x ≠ who → Seg W 9 1 (V x) (L x).length (strs (L x))) (h6 : Seg W 9 1 v l.length (strs l)) (h7 : ∀ x y b, x ≠ y → (updI V who v x).ownBlock = some b → (updI V who v y).ownBlock ≠ some b) (hl : l ≠ [])
    (h9 : w.heap.size ≤ m) (h10 : ∀ x b, (updI V who v x).ownBlock = some b → w.heap.size ≤ b) (hs : Maps.size D < 1000000) :
    ∃ W', (Instr.mapUpdate 48 (.map (some m)) (.int .i64 who) v).run Try.prog W = .ok () W' ∧ Mp w m (D.put (kI who) (.held v)) (updI V who v) (updI L who l) W' ∧ W.grownBy W' (some m) := by
  have hown : W.ownsMap Try.prog 3 anyR m (Maps.size D) D := h2
  obtain ⟨W', hrun, hown', hturn⟩ := hown.store intKeyed Try.underlying48 (by unfold maxLen; omega) (kI_of hw) (d := .held v) (ps := []) rfl
  have hg := hturn.grown
  have t : Turn (fun j => j = m) W W' := (Turn.refl _ W).grown hg (fun j e _ => by injection e with e; exact e.symm)
  refine ⟨W', hrun, ⟨mv_tight hown', fun x hx => ?_, fun x => ?_, fun x => ?_, h7, h9, h10⟩, hg⟩
  · by_cases e : x = who
    · subst e
      rw [updI_same]
      exact atKey_put_same (World.ownsMap.isMap hown) (by simp [WideAt.IsKeyLit]) _ _
    · rw [updI_other _ _ e, atKey_put_other (fun h => e (kI_inj h))]
      exact h3 x hx
  · by_cases e : x = who
    · subst e
      rw [updI_same, has_put_same (World.ownsMap.isMap hown) (by simp [WideAt.IsKeyLit])]
      exact ⟨fun _ => hl, fun _ => rfl⟩
    · rw [updI_other _ _ e, has_put_other (fun h => e (kI_inj h))]
      exact h4 x
  · by_cases e : x = who
    · subst e
      rw [updI_same, updI_same]
      exact h6.turn t (fun b hb e => h2.seg h6 (by rw [hb, e]))
    · rw [updI_other _ _ e, updI_other _ _ e]
      exact (h5 x e).turn t (fun b hb e2 => h2.seg (h5 x e) (by rw [hb, e2]))
end

/-- An agenda of lists L1, and a map of lists L2, no block in common. -/
structure Bm (w : World) (g m : Nat) (D : DataW Value) (V : Int → Value) (L : Int → List ByteArray) (m2 : Nat) (D2 : DataW Value) (V2 : Int → Value) (L2 : Int → List ByteArray) (W : World) : Prop where
  ag : Ag w g m D V L W
  mp : Mp w m2 D2 V2 L2 W
  sep : ∀ x y b, (V x).ownBlock = some b → (V2 y).ownBlock ≠ some b
  mm : m ≠ m2

section
variable {w W W' : World} {g m m2 : Nat} {D D' D2 D2' : DataW Value} {V V' V2 V2' : Int → Value} {L L' L2 L2' : Int → List ByteArray}
theorem Bm.below (h : Bm w g m D V L m2 D2 V2 L2 W) (hb : Below W.heap.size W W') : Bm w g m D V L m2 D2 V2 L2 W' := ⟨h.ag.below hb, h.mp.below hb, h.sep, h.mm⟩
theorem Ag.drewN (h : Ag w g m D V L W) (n : Nat) : Ag w g m D V L (W.drewN n) := ⟨h.box, h.map, h.at_, h.has, h.seg, h.apart, h.ng, h.nm, h.nv, h.turn.drewN n⟩
theorem Bm.drewN (h : Bm w g m D V L m2 D2 V2 L2 W) (n : Nat) : Bm w g m D V L m2 D2 V2 L2 (W.drewN n) := ⟨h.ag.drewN n, h.mp.drewN n, h.sep, h.mm⟩
/-- The agenda turns. -/
theorem Bm.did (h : Bm w g m D V L m2 D2 V2 L2 W) (a : Ag w g m D' V' L' W') (t : Turn (Kin g m V) W W') (n : ∀ x b, (V' x).ownBlock = some b → (∃ y, (V y).ownBlock = some b) ∨ W.heap.size ≤ b) : Bm w g m D' V' L' m2 D2 V2 L2 W' :=
  ⟨a, h.mp.turn t (fun e => by
      rcases e with e | e | ⟨x, e⟩
      · exact h.mp.map.ne h.ag.box e
      · exact h.mm e.symm
      · exact h.mp.map.seg (h.ag.seg x) e) (fun x b hb e => by
      rcases e with e | e | ⟨y, e⟩
      · subst e; exact (h.mp.seg x).ne h.ag.box (by decide) hb
      · subst e; exact h.ag.map.seg (h.mp.seg x) hb
      · exact h.sep y x b e hb), fun x y b hb hb2 => by
      rcases n x b hb with ⟨z, e⟩ | e
      · exact h.sep z y b e hb2
      · have := (h.mp.seg y).lt hb2; omega, h.mm⟩
/-- The map turns. -/
theorem Bm.did2 (h : Bm w g m D V L m2 D2 V2 L2 W) (a : Mp w m2 D2' V2' L2' W') (who : Int) (t : Turn (fun j => j = m2 ∨ (V2 who).ownBlock = some j) W W') (n : ∀ x b, (V2' x).ownBlock = some b → (∃ y, (V2 y).ownBlock = some b) ∨ W.heap.size ≤ b) : Bm w g m D V L m2 D2' V2' L2' W' :=
  ⟨h.ag.other t (fun j e => by
      rcases e with e | e
      · rw [e]; exact h.mp.nm
      · exact h.mp.nv who j e) (fun e => by
      rcases e with e | e
      · exact h.mp.map.ne h.ag.box e.symm
      · exact (h.mp.seg who).ne h.ag.box (by decide) e) (fun e => by
      rcases e with e | e
      · exact h.mm e
      · exact h.ag.map.seg (h.mp.seg who) e) (fun x b hb e => by
      rcases e with e | e
      · subst e; exact h.mp.map.seg (h.ag.seg x) hb
      · exact h.sep x who b hb e), a, fun x y b hb hb2 => by
      rcases n y b hb2 with ⟨z, e⟩ | e
      · exact h.sep x z b hb e
      · have := (h.ag.seg x).lt hb; omega, h.mm⟩
end
end Go.Proofs.Ytbpnbnbglfiglaa.sch
