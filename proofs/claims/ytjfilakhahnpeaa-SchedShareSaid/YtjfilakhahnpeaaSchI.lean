/- sched: how many turns each had, in a map. -/
import Derived.Test.YtjfilakhahnpeaaSchG
namespace Go.Proofs.Ytjfilakhahnpeaa.sch
open Go Go.RowKit Go.Maps

theorem zeroI (w : World) : (zeroValue 3).run Try.prog w = .ok (.int .i64 0) w := by kernel_rfl

set_option maxRecDepth 100000 in
theorem Mv.lookI {w : World} {m : Nat} {D : DataW Value} (h : Mv w m D) {x c : Int} (hx : Fits x) (hat : D.atKey (kI x) (.held (.int .i64 0)) = .held (.int .i64 c)) : (Instr.lookup 55 (.map (some m)) (.int .i64 x) false).run Try.prog w = .ok (.int .i64 c) w := by
  obtain ⟨v, ps, hrun, hv⟩ := World.ownsMap.lookup (e := 3) (show w.ownsMap Try.prog 3 anyR m (Maps.size D) D from h) intKeyed Try.underlying55 (zeroI w) (zd := .held (.int .i64 0)) rfl (kI_of hx)
  rw [hrun]
  unfold anyR at hv
  rw [hat] at hv
  injection hv with hv
  injection hv with hv
  injection hv with hv
  rw [hv]

set_option maxRecDepth 100000 in
theorem Mv.storeI {w : World} {m : Nat} {D : DataW Value} (h : Mv w m D) (hs : Maps.size D < 1000000) {x : Int} (hx : Fits x) (v : Value) : ∃ w', (Instr.mapUpdate 55 (.map (some m)) (.int .i64 x) v).run Try.prog w = .ok () w' ∧ Mv w' m (D.put (kI x) (.held v)) ∧ w.grownBy w' (some m) := by
  have hown : w.ownsMap Try.prog 3 anyR m (Maps.size D) D := h
  obtain ⟨w', hrun, hown', hturn⟩ := hown.store intKeyed Try.underlying55 (by unfold maxLen; omega) (kI_of hx) (d := .held v) (ps := []) rfl
  exact ⟨w', hrun, mv_tight hown', hturn.grown⟩

theorem Mv.tidy {w : World} {m : Nat} {D : DataW Value} (h : Mv w m D) : Tidy D := World.ownsMap.tidy (show w.ownsMap Try.prog 3 anyR m (Maps.size D) D from h) intKeyed

/-- The map at block m tells had. -/
structure Hd (w : World) (m : Nat) (had : Nat → Nat) (k : Nat) (W : World) : Prop where
  map : ∃ D, Mv W m D ∧ (∀ i : Nat, D.atKey (kI i) (.held (.int .i64 0)) = .held (.int .i64 (had i))) ∧ Maps.size D ≤ k
  new : w.heap.size ≤ m

section
variable {w W W' : World} {m s q : Nat} {had : Nat → Nat} {k : Nat} {r : Option Nat} {v : Value} {a : Ab}

theorem Hd.keep (h : Hd w m had k W) (e : W'.heap[m]? = W.heap[m]?) : Hd w m had k W' := by
  obtain ⟨D, h1, h2⟩ := h.map
  exact ⟨⟨D, h1.keep e, h2⟩, h.new⟩
theorem Hd.lt (h : Hd w m had k W) : m < W.heap.size := by obtain ⟨D, h1, _⟩ := h.map; exact h1.lt
theorem Hd.below (h : Hd w m had k W) (hb : Below W.heap.size W W') : Hd w m had k W' := h.keep (hb.block m h.lt)
theorem Hd.drew (h : Hd w m had k W) : Hd w m had k W.drew := h.keep rfl
theorem Hd.drewN (h : Hd w m had k W) (n : Nat) : Hd w m had k (W.drewN n) := h.keep rfl
theorem Hd.look (h : Hd w m had k W) (i : Nat) (hi : i ≤ 1000) : (Instr.lookup 55 (.map (some m)) (.int .i64 i) false).run Try.prog W = .ok (.int .i64 (had i)) W := by
  obtain ⟨D, h1, h2, _⟩ := h.map
  exact h1.lookI ⟨by omega, by omega⟩ (h2 i)
theorem Hd.put (h : Hd w m had k W) (hk : k < 100000) (i : Nat) (hi : i ≤ 1000) : ∃ W', (Instr.mapUpdate 55 (.map (some m)) (.int .i64 i) (.int .i64 ((had i : Int) + 1))).run Try.prog W = .ok () W' ∧ Hd w m (fun j => if j = i then had i + 1 else had j) (k + 1) W' ∧ W.grownBy W' (some m) := by
  obtain ⟨D, h1, h2, h3⟩ := h.map
  obtain ⟨W', hrun, hm, hg⟩ := h1.storeI (by omega) (x := (i : Int)) ⟨by omega, by omega⟩ (.int .i64 ((had i : Int) + 1))
  refine ⟨W', hrun, ⟨⟨_, hm, fun j => ?_, Nat.le_trans (sizeD_put h1.tidy _ _) (by omega)⟩, h.new⟩, hg⟩
  by_cases e : j = i
  · subst e
    rw [if_pos rfl, atKey_put_same (World.ownsMap.isMap (show W.ownsMap Try.prog 3 anyR m (Maps.size D) D from h1)) (by simp [WideAt.IsKeyLit])]
    rfl
  · rw [if_neg e, atKey_put_other (fun h => e (by have := kI_inj h; omega))]
    exact h2 j

/-- The map's block is none of the schedule's. -/
theorem Hd.ne (h : Hd w m had k W) (n : Nw w s q r v a W) : m ≠ s ∧ m ≠ q ∧ (∀ b, r = some b → m ≠ b) ∧ v.ownBlock ≠ some m := by
  obtain ⟨D, h1, _⟩ := h.map
  refine ⟨h1.ne n.sc.own, ?_, fun b hb => ?_, h1.seg (Seg.of_own n.sc.pac)⟩
  · obtain ⟨cs, e⟩ := qs_box n.sc.qs
    exact h1.ne e
  · obtain ⟨cs, e⟩ := qs_row n.sc.qs b hb
    exact h1.ne e
theorem Hd.sched (h : Hd w m had k W) (n : Nw w s q r v a W) (t : Turn (fun j => v.ownBlock = some j ∨ j = s ∨ j = q ∨ r = some j) W W') : Hd w m had k W' := by
  obtain ⟨h1, h2, h3, h4⟩ := h.ne n
  refine h.keep (t.block m h.lt (fun e => ?_))
  rcases e with e | e | e | e
  · exact h4 e
  · exact h1 e
  · exact h2 e
  · exact h3 m e rfl
theorem Nw.map (n : Nw w s q r v a W) (h : Hd w m had k W) (g : W.grownBy W' (some m)) : Nw w s q r v a W' := by
  obtain ⟨h1, h2, h3, h4⟩ := h.ne n
  refine n.other (F := fun j => j = m) ((Turn.refl _ W).grown g (fun j e _ => by injection e with e; exact e.symm)) (fun j e => by rw [e]; exact h.new) (fun e => h1 e.symm) (fun e => h2 e.symm) (fun b hb e => h3 b hb e.symm) (fun b hb e => h4 (by rw [hb, e]))
end
end Go.Proofs.Ytjfilakhahnpeaa.sch
