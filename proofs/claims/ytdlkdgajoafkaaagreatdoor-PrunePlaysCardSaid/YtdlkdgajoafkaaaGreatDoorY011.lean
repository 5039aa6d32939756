/- Texts laid into one: RefA, PruR, PathN, FltF, PruU, PruY, PruZ. -/
import Derived.Test.YtdlkdgajoafkaaaGreatDoorY010
import Derived.Test.YtdlkdgajoafkaaaGreatDoorY009
import Derived.Test.YtdlkdgajoafkaaaGreatDoorY008
import Derived.Test.YtdlkdgajoafkaaaGreatDoorY007
import Derived.Test.YtdlkdgajoafkaaaGreatDoorY006
section
/- the document's vault: Add. (The region's script is written by tools/example-refadd-writer.py.) -/
namespace Go.Proofs.YtdlkdgajoafkaaaGreatDoor.prf
open Go Go.RowKit Go.Proofs.YtdlkdgajoafkaaaGreatDoor.dig

/-- What lasts in Add: the argument's box, the result's box, the argument's texts. -/
structure Am (w : World) (v : Value) (fl : Int) (L : List ByteArray) (W : World) : Prop where
  bel : Below w.heap.size w W
  bx : Has W w.heap.size 28 #[v, .int .i64 fl]
  rs : ∃ x y, Has W (w.heap.size + 1) 28 #[x, y]
  dc : Strs W v L
  vl : ∀ x, v.ownBlock = some x → x < w.heap.size
section
variable {w W W' : World} {v : Value} {fl : Int} {L : List ByteArray}
theorem Am.below (h : Am w v fl L W) (b : Below W.heap.size W W') : Am w v fl L W' :=
  ⟨h.bel.trans (b.mono h.bel.size), h.bx.below b h.bx.lt, (by obtain ⟨x, y, h0⟩ := h.rs; exact ⟨x, y, h0.below b h0.lt⟩), ⟨h.dc.1.below b (fun x hx => h.dc.1.lt hx), h.dc.2⟩, h.vl⟩
theorem Am.alloc (h : Am w v fl L W) (o : Obj) : Am w v fl L (W.alloc o) := h.below ((Below.refl _ _).alloc (Nat.le_refl _) o)
theorem Am.drew (h : Am w v fl L W) : Am w v fl L W.drew := h.below (Below.refl _ _).drew
theorem Am.stored (h : Am w v fl L W) (p q : Value) : Am w v fl L (W.setRow (w.heap.size + 1) #[p, q]) := by
  have t := turn_row W (w.heap.size + 1) #[p, q]
  obtain ⟨x, y, h0⟩ := h.rs
  exact ⟨h.bel.trans (t.below h.bel.size (fun j hj e => by omega)), h.bx.turn t (by omega), ⟨p, q, h0.row _⟩, ⟨h.dc.1.turn t (fun x hx e => by have := h.vl x hx; omega), h.dc.2⟩, h.vl⟩
theorem Am.app (h : Am w v fl L W) {u : Value} {n : Nat} {xs : List Value} (hu : Seg W 9 1 u n xs) (hl : ∀ x, u.ownBlock = some x → w.heap.size ≤ x) (g : W.grownBy W' u.ownBlock) : Am w v fl L W' :=
  ⟨h.bel.trans (flt.below_own g hl h.bel.size), h.bx.keep (g.block _ h.bx.lt (fun e => hu.ne h.bx (by decide) e.symm)), (by obtain ⟨x, y, h0⟩ := h.rs; exact ⟨x, y, h0.keep (g.block _ h0.lt (fun e => hu.ne h0 (by decide) e.symm))⟩),
   ⟨h.dc.1.keep (fun b hb => g.block b (h.dc.1.lt hb) (fun e => by have := hl b e.symm; have := h.vl b hb; omega)), h.dc.2⟩, h.vl⟩
end

theorem res_dv {fn : Func} {p : Tmp} (h : fn.results = #[.cell p 28]) (tmps : Array Value) (w : World) (g : Nat) (cs : Array Value) (hp : tmps.getD p undef = .pointer (some ⟨g, 0, none⟩)) (hg : Has w g 28 cs) (hi : (Tryz.prog.info? 28).map (·.size) = some cs.size) : (results fn tmps).run Tryz.prog w = .ok (.agg cs) w := by
  have hp' : tmps[p]?.getD undef = .pointer (some ⟨g, 0, none⟩) := by simpa using hp
  simp [results, h, hp', asAddr, run_loadVar_row w g 28 28 cs (0, 0) _ hg Tryz.underlying28 rfl hi]

/-- What Add answers. -/
def AddPost (w : World) (fl : Int) (L : List ByteArray) (en : Ending) (w' : World) : Prop :=
  ∃ y, en = .returned (dvC y fl) ∧ Strs w' y L ∧ (∀ x, y.ownBlock = some x → w.heap.size ≤ x) ∧ Below w.heap.size w w'

theorem addv_close {w W : World} {v : Value} {fl : Int} {L : List ByteArray} {s : ByteArray} {n : Nat} {y : Value} (h : Am w v fl L W) (hn : L.length = n) (hs : Seg W 9 1 y (0 + n + 1) ([] ++ L.map Value.string ++ [.string s])) (_hl : ∀ x, y.ownBlock = some x → w.heap.size ≤ x)
    (hs1 : s.size ≤ 1000000) (p q : Value) : Strs (W.setRow (w.heap.size + 1) #[p, q]) y (L ++ [s]) := by
  have t := turn_row W (w.heap.size + 1) #[p, q]
  obtain ⟨x0, y0, h0⟩ := h.rs
  refine ⟨?_, fun u hu => ?_⟩
  · have e : (L ++ [s]).length = 0 + n + 1 := by simp [hn]
    rw [e, List.map_append]
    exact hs.turn t (fun x hx e => hs.ne h0 (by decide) (by rw [hx, e]))
  · rcases List.mem_append.1 hu with hu | hu
    · exact h.dc.2 u hu
    · rw [List.mem_singleton.1 hu]; exact hs1

set_option maxRecDepth 100000 in
set_option maxHeartbeats 4000000 in
theorem raddv_calls {a : Option Addr} {c : Nat} {L : List ByteArray} (fl : Int) (s : ByteArray) (hs : s.size ≤ 1000000) (hLL : L.length ≤ 1000000) (w : World) (hL : Strs w (.slice a L.length c) L) :
    Calls Tryz.prog 15 #[dvC (.slice a L.length c) fl, .string s] w (AddPost w fl (L ++ [s])) := by
  unfold dvC
  obtain ⟨i0, z0, hi0, hz0, hz1, hz2, hz3⟩ := flt.strInfo
  have HI := Lib.hid (show _ ∧ _ from ⟨hi0, hz0⟩)
  have HS := Lib.hid (show _ ∧ _ from ⟨hs, hL⟩)
  obtain ⟨n, hn⟩ : ∃ n, n = L.length := ⟨_, rfl⟩
  have HN := Lib.hid hn.symm
  rw [← hn] at HS hLL ⊢
  clear hL hs hn hi0 hz0
  go_enter Tryz.func15, Tryz.ntmps15
  go_wp2_with fail
  go_name_world W hW
  have A00 : Am w (.slice a n c) fl L W := by
    rw [← hW]
    have b : Below w.heap.size w ((w.alloc (.cells #[.slice a n c, .int .i64 fl] 28)).alloc (.cells #[.slice none 0 0, .int .i64 0] 28)) := ((Below.refl _ _).alloc (Nat.le_refl _) _).alloc (by simp) _
    exact ⟨b, (made_at _ _ rfl).alloc _, ⟨_, _, made_at _ _ (by simp)⟩, ⟨HN.out ▸ HS.out.2.1.below b (fun x hx => HS.out.2.1.lt hx), HS.out.2.2⟩, fun x hx => HS.out.2.1.lt hx⟩
  clear hW
  have A0 : Am w (.slice a n c) fl L W.drew := A00.drew
  clear A00
  refine Go.wp_region_held (P := Tryz.prog) (S := fun V => Am w (.slice a n c) fl L V) (by kernel_rfl) ?_
  refine held_take 1 (some 6) (v := .pointer (some ⟨w.heap.size, 0, none⟩)) rfl rfl (by kernel_rfl) (by kernel_rfl) (by kernel_rfl) (fun _ _ _ h => h) (.inl ⟨by kernel_rfl, fun V hV => by go_simp⟩) A0 ?_
  simp only [Act.put, List.setIfInBounds_toArray, List.set_cons_zero, List.set_cons_succ]
  refine held_take 2 (some 7) (v := .slice a n c) rfl rfl (by kernel_rfl) (by kernel_rfl) (by kernel_rfl) (fun _ _ _ h => h) (.inl ⟨by kernel_rfl, fun V hV => by have c0 := hV.bx.cell 0; simp at c0; go_simp⟩) A0 ?_
  simp only [Act.put, List.setIfInBounds_toArray, List.set_cons_zero, List.set_cons_succ]
  refine held_take 4 (some 9) (v := .string s) rfl rfl (by kernel_rfl) (by kernel_rfl) (by kernel_rfl) (fun _ _ _ h => h) (.inl ⟨by kernel_rfl, fun V hV => by rfl⟩) A0 ?_
  simp only [Act.put, List.setIfInBounds_toArray, List.set_cons_zero, List.set_cons_succ]
  refine held_take 7 (some 12) (v := .pointer (some ⟨w.heap.size, 1, none⟩)) rfl rfl (by kernel_rfl) (by kernel_rfl) (by kernel_rfl) (fun _ _ _ h => h) (.inl ⟨by kernel_rfl, fun V hV => by go_simp⟩) A0 ?_
  simp only [Act.put, List.setIfInBounds_toArray, List.set_cons_zero, List.set_cons_succ]
  refine held_take 8 (some 13) (v := .int .i64 fl) rfl rfl (by kernel_rfl) (by kernel_rfl) (by kernel_rfl) (fun _ _ _ h => h) (.inl ⟨by kernel_rfl, fun V hV => by have c1 := hV.bx.cell 1; simp at c1; go_simp⟩) A0 ?_
  simp only [Act.put, List.setIfInBounds_toArray, List.set_cons_zero, List.set_cons_succ]
  refine held_two (i := 0) (j := 5) (by kernel_rfl) ?_ ?_
  · skip
    refine wpOp_value (some 5) (v := .slice (some ⟨W.drew.heap.size, 0, none⟩) 0 0) (w' := W.drew.alloc (.cells #[] 9)) rfl rfl (by kernel_rfl) (by go_simp) ?_
    have A1 := A0.alloc (.cells #[] 9)
    have E1 : Seg (W.drew.alloc (.cells #[] 9)) 9 1 (.slice (some ⟨W.drew.heap.size, 0, none⟩) 0 0) 0 [] := Seg.empty (heap_alloc_new _ _)
    refine ⟨A1, ?_⟩
    simp only [Act.put, List.setIfInBounds_toArray, List.set_cons_zero, List.set_cons_succ]
    refine held_two (i := 3) (j := 5) (by kernel_rfl) ?_ ?_
    · skip
      refine wpOp_wp (o := ⟨some 8, _, _, _, _, _⟩) rfl (by kernel_rfl) ?_
      refine wp_append_every _ (.tmp 5) (.tmp 7) 26 rfl 9 i0 z0 1 16 Tryz.underlying26 HI.out.1 HI.out.2 hz1 hz3 hz2 (by decide) _ 0 [] (by first | rfl | simp [Act.eval]) E1 _ n (L.map Value.string) (by first | rfl | simp [Act.eval]) (HN.out ▸ A1.dc.1) (fun u hu => by obtain ⟨s, _, rfl⟩ := List.mem_map.1 hu; rfl) (by unfold maxLen; omega) (by omega) ?_
      intro y2 w2 s2 g2 o2
      have A2 := A1.app E1 (by intro x hx; injection hx with hx; subst hx; exact A0.bel.size) g2
      have L2 : ∀ x, y2.ownBlock = some x → w.heap.size ≤ x := fun x hx => by
        rcases o2 x hx with e | e
        · injection e with e; subst e; exact A0.bel.size
        · exact Nat.le_trans A1.bel.size e
      refine ⟨A2, ?_⟩
      simp only [Act.put, List.setIfInBounds_toArray, List.set_cons_zero, List.set_cons_succ]
      refine held_one (i := 5) (by kernel_rfl) ?_
      refine wpOp_value (some 10) (v := .slice (some ⟨w2.heap.size, 0, none⟩) 1 1) (w' := w2.alloc (.cells #[.string s] 9)) rfl rfl (by kernel_rfl) (by go_simp) ?_
      have A3 := A2.alloc (.cells #[.string s] 9)
      have N3 : Seg (w2.alloc (.cells #[.string s] 9)) 9 1 (.slice (some ⟨w2.heap.size, 0, none⟩) 1 1) 1 [.string s] := Seg.whole (m := 1) (cs := #[.string s]) (heap_alloc_new _ _) rfl (by unfold maxLen; omega)
      refine ⟨A3, ?_⟩
      simp only [Act.put, List.setIfInBounds_toArray, List.set_cons_zero, List.set_cons_succ]
      have s8 := s2.alloc (.cells #[.string s] 9)
      refine held_one (i := 6) (by kernel_rfl) ?_
      refine wpOp_wp (o := ⟨some 11, _, _, _, _, _⟩) rfl (by kernel_rfl) ?_
      refine wp_append_every _ (.tmp 8) (.tmp 10) 26 rfl 9 i0 z0 1 16 Tryz.underlying26 HI.out.1 HI.out.2 hz1 hz3 hz2 (by decide) _ (0 + n) ([] ++ L.map Value.string) (by first | rfl | simp [Act.eval]) s8 _ 1 [.string s] (by first | rfl | simp [Act.eval]) N3 (by simp [Value.oneCell']) (by unfold maxLen; omega) (by omega) ?_
      intro y6 w6 s6 g6 o6
      obtain ⟨ay, cy, rfl, _, _⟩ := s6.slice
      have A6 := A3.app s8 L2 g6
      have L6 : ∀ x, (Value.slice ay (0 + n + 1) cy).ownBlock = some x → w.heap.size ≤ x := fun x hx => by
        rcases o6 x hx with e | e
        · exact L2 x e
        · exact Nat.le_trans A3.bel.size e
      refine ⟨A6, ?_⟩
      simp only [Act.put, List.setIfInBounds_toArray, List.set_cons_zero, List.set_cons_succ]
      refine held_take 9 (some 14) (v := .agg #[.slice ay (0 + n + 1) cy, .int .i64 fl]) rfl rfl (by kernel_rfl) (by kernel_rfl) (by kernel_rfl) (fun _ _ _ h => h) (.inl ⟨by kernel_rfl, fun V hV => by go_simp⟩) A6 ?_
      simp only [Act.put, List.setIfInBounds_toArray, List.set_cons_zero, List.set_cons_succ]
      obtain ⟨x6, z6, R6⟩ := A6.rs
      refine held_one (i := 10) (by kernel_rfl) ?_
      refine wpOp_wp (o := ⟨none, _, _, _, _, _⟩) rfl (by kernel_rfl) ?_
      refine wp_store_row 28 (.tmp 4) (.tmp 14) rfl (w.heap.size + 1) #[.slice ay (0 + n + 1) cy, .int .i64 fl] (by first | rfl | simp [Act.eval]) (by first | rfl | simp [Act.eval]) 28 _ R6 (by kernel_rfl) rfl (by simp [Value.oneCell']) ?_
      refine ⟨A6.stored (.slice ay (0 + n + 1) cy) (.int .i64 fl), ?_⟩
      simp only [Act.put]
      refine wpAnyH_done (by kernel_rfl) ?_ _
      go_wp2_with fail
      exact bodyPost_ret (v := dvC (.slice ay (0 + n + 1) cy) fl) (res_dv rfl _ _ (w.heap.size + 1) _ rfl (R6.row _) (by kernel_rfl)) rfl ⟨_, rfl, addv_close A6 HN.out s6 L6 HS.out.1 _ _, L6, (A6.stored _ _).bel⟩
    · skip
      refine wpOp_value (some 10) (v := .slice (some ⟨(W.drew.alloc (.cells #[] 9)).heap.size, 0, none⟩) 1 1) (w' := (W.drew.alloc (.cells #[] 9)).alloc (.cells #[.string s] 9)) rfl rfl (by kernel_rfl) (by go_simp) ?_
      have A2 := A1.alloc (.cells #[.string s] 9)
      have N2 : Seg ((W.drew.alloc (.cells #[] 9)).alloc (.cells #[.string s] 9)) 9 1 (.slice (some ⟨(W.drew.alloc (.cells #[] 9)).heap.size, 0, none⟩) 1 1) 1 [.string s] := Seg.whole (m := 1) (cs := #[.string s]) (heap_alloc_new _ _) rfl (by unfold maxLen; omega)
      refine ⟨A2, ?_⟩
      simp only [Act.put, List.setIfInBounds_toArray, List.set_cons_zero, List.set_cons_succ]
      have E2 := E1.alloc (.cells #[.string s] 9)
      refine held_one (i := 3) (by kernel_rfl) ?_
      refine wpOp_wp (o := ⟨some 8, _, _, _, _, _⟩) rfl (by kernel_rfl) ?_
      refine wp_append_every _ (.tmp 5) (.tmp 7) 26 rfl 9 i0 z0 1 16 Tryz.underlying26 HI.out.1 HI.out.2 hz1 hz3 hz2 (by decide) _ 0 [] (by first | rfl | simp [Act.eval]) E2 _ n (L.map Value.string) (by first | rfl | simp [Act.eval]) (HN.out ▸ A2.dc.1) (fun u hu => by obtain ⟨s, _, rfl⟩ := List.mem_map.1 hu; rfl) (by unfold maxLen; omega) (by omega) ?_
      intro y3 w3 s3 g3 o3
      have A3 := A2.app E2 (by intro x hx; injection hx with hx; subst hx; exact A0.bel.size) g3
      have L3 : ∀ x, y3.ownBlock = some x → w.heap.size ≤ x := fun x hx => by
        rcases o3 x hx with e | e
        · injection e with e; subst e; exact A0.bel.size
        · exact Nat.le_trans A2.bel.size e
      refine ⟨A3, ?_⟩
      simp only [Act.put, List.setIfInBounds_toArray, List.set_cons_zero, List.set_cons_succ]
      have N3 := N2.keep (fun b hb => g3.block b (N2.lt hb) (fun e => by have h1 := Option.some.inj hb; have h2 := Option.some.inj e; simp at h1 h2; omega))
      refine held_one (i := 6) (by kernel_rfl) ?_
      refine wpOp_wp (o := ⟨some 11, _, _, _, _, _⟩) rfl (by kernel_rfl) ?_
      refine wp_append_every _ (.tmp 8) (.tmp 10) 26 rfl 9 i0 z0 1 16 Tryz.underlying26 HI.out.1 HI.out.2 hz1 hz3 hz2 (by decide) _ (0 + n) ([] ++ L.map Value.string) (by first | rfl | simp [Act.eval]) s3 _ 1 [.string s] (by first | rfl | simp [Act.eval]) N3 (by simp [Value.oneCell']) (by unfold maxLen; omega) (by omega) ?_
      intro y6 w6 s6 g6 o6
      obtain ⟨ay, cy, rfl, _, _⟩ := s6.slice
      have A6 := A3.app s3 L3 g6
      have L6 : ∀ x, (Value.slice ay (0 + n + 1) cy).ownBlock = some x → w.heap.size ≤ x := fun x hx => by
        rcases o6 x hx with e | e
        · exact L3 x e
        · exact Nat.le_trans A3.bel.size e
      refine ⟨A6, ?_⟩
      simp only [Act.put, List.setIfInBounds_toArray, List.set_cons_zero, List.set_cons_succ]
      refine held_take 9 (some 14) (v := .agg #[.slice ay (0 + n + 1) cy, .int .i64 fl]) rfl rfl (by kernel_rfl) (by kernel_rfl) (by kernel_rfl) (fun _ _ _ h => h) (.inl ⟨by kernel_rfl, fun V hV => by go_simp⟩) A6 ?_
      simp only [Act.put, List.setIfInBounds_toArray, List.set_cons_zero, List.set_cons_succ]
      obtain ⟨x6, z6, R6⟩ := A6.rs
      refine held_one (i := 10) (by kernel_rfl) ?_
      refine wpOp_wp (o := ⟨none, _, _, _, _, _⟩) rfl (by kernel_rfl) ?_
      refine wp_store_row 28 (.tmp 4) (.tmp 14) rfl (w.heap.size + 1) #[.slice ay (0 + n + 1) cy, .int .i64 fl] (by first | rfl | simp [Act.eval]) (by first | rfl | simp [Act.eval]) 28 _ R6 (by kernel_rfl) rfl (by simp [Value.oneCell']) ?_
      refine ⟨A6.stored (.slice ay (0 + n + 1) cy) (.int .i64 fl), ?_⟩
      simp only [Act.put]
      refine wpAnyH_done (by kernel_rfl) ?_ _
      go_wp2_with fail
      exact bodyPost_ret (v := dvC (.slice ay (0 + n + 1) cy) fl) (res_dv rfl _ _ (w.heap.size + 1) _ rfl (R6.row _) (by kernel_rfl)) rfl ⟨_, rfl, addv_close A6 HN.out s6 L6 HS.out.1 _ _, L6, (A6.stored _ _).bel⟩
  · skip
    refine wpOp_value (some 10) (v := .slice (some ⟨W.drew.heap.size, 0, none⟩) 1 1) (w' := W.drew.alloc (.cells #[.string s] 9)) rfl rfl (by kernel_rfl) (by go_simp) ?_
    have A1 := A0.alloc (.cells #[.string s] 9)
    have N1 : Seg (W.drew.alloc (.cells #[.string s] 9)) 9 1 (.slice (some ⟨W.drew.heap.size, 0, none⟩) 1 1) 1 [.string s] := Seg.whole (m := 1) (cs := #[.string s]) (heap_alloc_new _ _) rfl (by unfold maxLen; omega)
    refine ⟨A1, ?_⟩
    simp only [Act.put, List.setIfInBounds_toArray, List.set_cons_zero, List.set_cons_succ]
    refine held_one (i := 0) (by kernel_rfl) ?_
    refine wpOp_value (some 5) (v := .slice (some ⟨(W.drew.alloc (.cells #[.string s] 9)).heap.size, 0, none⟩) 0 0) (w' := (W.drew.alloc (.cells #[.string s] 9)).alloc (.cells #[] 9)) rfl rfl (by kernel_rfl) (by go_simp) ?_
    have A2 := A1.alloc (.cells #[] 9)
    have E2 : Seg ((W.drew.alloc (.cells #[.string s] 9)).alloc (.cells #[] 9)) 9 1 (.slice (some ⟨(W.drew.alloc (.cells #[.string s] 9)).heap.size, 0, none⟩) 0 0) 0 [] := Seg.empty (heap_alloc_new _ _)
    refine ⟨A2, ?_⟩
    simp only [Act.put, List.setIfInBounds_toArray, List.set_cons_zero, List.set_cons_succ]
    have N2 := N1.alloc (.cells #[] 9)
    refine held_one (i := 3) (by kernel_rfl) ?_
    refine wpOp_wp (o := ⟨some 8, _, _, _, _, _⟩) rfl (by kernel_rfl) ?_
    refine wp_append_every _ (.tmp 5) (.tmp 7) 26 rfl 9 i0 z0 1 16 Tryz.underlying26 HI.out.1 HI.out.2 hz1 hz3 hz2 (by decide) _ 0 [] (by first | rfl | simp [Act.eval]) E2 _ n (L.map Value.string) (by first | rfl | simp [Act.eval]) (HN.out ▸ A2.dc.1) (fun u hu => by obtain ⟨s, _, rfl⟩ := List.mem_map.1 hu; rfl) (by unfold maxLen; omega) (by omega) ?_
    intro y3 w3 s3 g3 o3
    have A3 := A2.app E2 (by intro x hx; injection hx with hx; subst hx; exact A1.bel.size) g3
    have L3 : ∀ x, y3.ownBlock = some x → w.heap.size ≤ x := fun x hx => by
      rcases o3 x hx with e | e
      · injection e with e; subst e; exact A1.bel.size
      · exact Nat.le_trans A2.bel.size e
    refine ⟨A3, ?_⟩
    simp only [Act.put, List.setIfInBounds_toArray, List.set_cons_zero, List.set_cons_succ]
    have N3 := N2.keep (fun b hb => g3.block b (N2.lt hb) (fun e => by have h1 := Option.some.inj hb; have h2 := Option.some.inj e; simp at h1 h2; omega))
    refine held_one (i := 6) (by kernel_rfl) ?_
    refine wpOp_wp (o := ⟨some 11, _, _, _, _, _⟩) rfl (by kernel_rfl) ?_
    refine wp_append_every _ (.tmp 8) (.tmp 10) 26 rfl 9 i0 z0 1 16 Tryz.underlying26 HI.out.1 HI.out.2 hz1 hz3 hz2 (by decide) _ (0 + n) ([] ++ L.map Value.string) (by first | rfl | simp [Act.eval]) s3 _ 1 [.string s] (by first | rfl | simp [Act.eval]) N3 (by simp [Value.oneCell']) (by unfold maxLen; omega) (by omega) ?_
    intro y6 w6 s6 g6 o6
    obtain ⟨ay, cy, rfl, _, _⟩ := s6.slice
    have A6 := A3.app s3 L3 g6
    have L6 : ∀ x, (Value.slice ay (0 + n + 1) cy).ownBlock = some x → w.heap.size ≤ x := fun x hx => by
      rcases o6 x hx with e | e
      · exact L3 x e
      · exact Nat.le_trans A3.bel.size e
    refine ⟨A6, ?_⟩
    simp only [Act.put, List.setIfInBounds_toArray, List.set_cons_zero, List.set_cons_succ]
    refine held_take 9 (some 14) (v := .agg #[.slice ay (0 + n + 1) cy, .int .i64 fl]) rfl rfl (by kernel_rfl) (by kernel_rfl) (by kernel_rfl) (fun _ _ _ h => h) (.inl ⟨by kernel_rfl, fun V hV => by go_simp⟩) A6 ?_
    simp only [Act.put, List.setIfInBounds_toArray, List.set_cons_zero, List.set_cons_succ]
    obtain ⟨x6, z6, R6⟩ := A6.rs
    refine held_one (i := 10) (by kernel_rfl) ?_
    refine wpOp_wp (o := ⟨none, _, _, _, _, _⟩) rfl (by kernel_rfl) ?_
    refine wp_store_row 28 (.tmp 4) (.tmp 14) rfl (w.heap.size + 1) #[.slice ay (0 + n + 1) cy, .int .i64 fl] (by first | rfl | simp [Act.eval]) (by first | rfl | simp [Act.eval]) 28 _ R6 (by kernel_rfl) rfl (by simp [Value.oneCell']) ?_
    refine ⟨A6.stored (.slice ay (0 + n + 1) cy) (.int .i64 fl), ?_⟩
    simp only [Act.put]
    refine wpAnyH_done (by kernel_rfl) ?_ _
    go_wp2_with fail
    exact bodyPost_ret (v := dvC (.slice ay (0 + n + 1) cy) fl) (res_dv rfl _ _ (w.heap.size + 1) _ rfl (R6.row _) (by kernel_rfl)) rfl ⟨_, rfl, addv_close A6 HN.out s6 L6 HS.out.1 _ _, L6, (A6.stored _ _).bel⟩
end Go.Proofs.YtdlkdgajoafkaaaGreatDoor.prf
end

section
/- law 12's proves: a proof against the document's. -/
namespace Go.Proofs.YtdlkdgajoafkaaaGreatDoor.prn
open Go Go.RowKit Go.Proofs.YtdlkdgajoafkaaaGreatDoor.dig Go.Proofs.YtdlkdgajoafkaaaGreatDoor.prf

/-- The error e reads as number f, in every world from here on. -/
def OfIs (W : World) (e : Value) (f : Int) : Prop := ∀ V, Below W.heap.size W V → Calls Tryz.prog 17 #[e] V fun en w' => en = .returned (.int .i64 f) ∧ Below V.heap.size V w'
theorem OfIs.below {W W' : World} {e : Value} {f : Int} (h : OfIs W e f) (b : Below W.heap.size W W') : OfIs W' e f := fun V hV => h V (b.trans (hV.mono b.size))

set_option maxRecDepth 100000 in
set_option maxHeartbeats 2000000 in
theorem proves_calls (K I N f : Int) (l : List (List UInt8)) (hl : ∀ x ∈ l, x.length = 32) (a1 a2 : Option Addr) (c1 c2 : Nat) (e : Value) (w : World) (hf : OfIs w e f)
    (h1 : Seg w 56 32 (.slice a1 l.length c1) l.length (sumsC l)) (h2 : Seg w 9 1 (.slice a2 l.length c2) l.length (l.map fun x => Value.string (bs x))) :
    Calls Tryz.prog 24 #[.agg (prC K I N (.slice a1 l.length c1)), e, .agg (prC K I N (.slice a2 l.length c2)), .int .i64 f] w fun en w' => en = .returned (.bool true) ∧ Below w.heap.size w w' := by
  have HS := Lib.hid (show _ ∧ _ ∧ _ ∧ _ from ⟨hl, h1, h2, hf⟩)
  obtain ⟨n, hn⟩ : ∃ n, n = l.length := ⟨_, rfl⟩
  have HN := Lib.hid hn
  rw [← hn] at HS ⊢
  clear hl h1 h2 hf hn
  go_enter Tryz.func24, Tryz.ntmps24
  go_wp2_with fail
  refine callsName (fun W hW => ?_)
  have B0 : Hid (Below w.heap.size w W) := by rw [← hW]; exact Lib.hid (((Below.refl _ _).alloc (Nat.le_refl _) _).alloc (by simp) _)
  have X0 : Hid (Has W w.heap.size 64 (prC K I N (.slice a1 n c1)) ∧ Has W (w.heap.size + 1) 68 (prC K I N (.slice a2 n c2))) := by rw [← hW]; exact Lib.hid ⟨(made_at _ _ rfl).alloc _, made_at _ _ (by simp)⟩
  clear hW
  refine (HS.out.2.2.2 W B0.out).mono ?_
  rintro en w1 ⟨rfl, b1⟩
  have X1 : Hid (Has w1 w.heap.size 64 (prC K I N (.slice a1 n c1)) ∧ Has w1 (w.heap.size + 1) 68 (prC K I N (.slice a2 n c2)) ∧ Below w.heap.size w w1) := Lib.hid ⟨X0.out.1.below b1 X0.out.1.lt, X0.out.2.below b1 X0.out.2.lt, B0.out.trans (b1.mono B0.out.size)⟩
  have p0 := X1.out.1.cell 0
  have p1 := X1.out.1.cell 1
  have p2 := X1.out.1.cell 2
  have p3 := X1.out.1.cell 3
  have q0 := X1.out.2.1.cell 0
  have q1 := X1.out.2.1.cell 1
  have q2 := X1.out.2.1.cell 2
  have q3 := X1.out.2.1.cell 3
  simp [prC] at p0 p1 p2 p3 q0 q1 q2 q3
  clear b1 X0 B0
  go_wp2_with fail
  have hsm := same_calls l HS.out.1 a1 c1 (.slice a2 n c2) w1 (HN.out ▸ HS.out.2.1.below X1.out.2.2 (fun x hx => HS.out.2.1.lt hx)) (HN.out ▸ HS.out.2.2.1.below X1.out.2.2 (fun x hx => HS.out.2.2.1.lt hx))
  rw [← HN.out] at hsm
  refine hsm.mono ?_
  rintro en w2 ⟨rfl, b2⟩
  go_wp2_with fail
  go_ret
  exact ⟨rfl, X1.out.2.2.trans (b2.mono X1.out.2.2.size)⟩
end Go.Proofs.YtdlkdgajoafkaaaGreatDoor.prn
end

section
/- fault: Path of no error. -/
namespace Go.Proofs.YtdlkdgajoafkaaaGreatDoor.prf
open Go Go.RowKit

def okB : ByteArray := ⟨#[111, 107]⟩
set_option maxRecDepth 100000 in
set_option maxHeartbeats 1000000 in
theorem err_zero (w : World) : Calls Tryz.prog 36 #[.int .i64 0] w fun en w' => en = .returned (.string okB) ∧ Below w.heap.size w w' := by
  go_enter Tryz.func36, Tryz.ntmps36
  go_wp2_with fail
  go_name_world W hW
  have hT : Has W w.heap.size 111 flt.tab := by rw [← hW]; exact Has.made w 111 _
  have hB : Below w.heap.size w W := by rw [← hW]; exact (Below.refl _ w).alloc (Nat.le_refl _) _
  clear hW
  have HT := Lib.hid hT
  have HB := Lib.hid hB
  clear hT hB
  go_loopw [27] (fun x wr => ∃ i : Nat, x = .int .i64 i ∧ i ≤ 20 ∧ Hid (Has wr w.heap.size 111 flt.tab ∧ Below w.heap.size w wr)) (fun x _ => 20 - (intOf x).toNat)
  case atStart => exact ⟨0, rfl, by omega, Lib.hid ⟨HT.out, HB.out⟩⟩
  case round =>
    obtain ⟨i, rfl, hi, HS⟩ := hrel
    by_cases hlt : i < 20
    · have c0 : wr.cell? ⟨w.heap.size, i * 2, none⟩ = some (.int .i64 ((i : Int) + 1)) := by rw [Nat.mul_comm]; exact (HS.out.1.cell _).trans (flt.tab0 ⟨i, hlt⟩)
      have c1 : wr.cell? ⟨w.heap.size, i * 2 + 1, none⟩ = some (.string (flt.words.getD i ⟨#[]⟩)) := by rw [Nat.mul_comm]; exact (HS.out.1.cell _).trans (flt.tab1 ⟨i, hlt⟩)
      have hi2 : (i : Int) < 20 := by omega
      have hi3 : (0 : Int) ≤ (i : Int) := by omega
      obtain ⟨s, hs⟩ : ∃ s, s = flt.words.getD i ⟨#[]⟩ := ⟨_, rfl⟩
      rw [← hs] at c1
      have hq : ¬ (i : Int) + 1 = 0 := by omega
      clear hs
      go_wp2_with fail
      refine ⟨⟨i + 1, by rw [Int.natCast_add]; rfl, by omega, Lib.hid ⟨HS.out.1.alloc _, HS.out.2.alloc HS.out.2.size _⟩⟩, ?_⟩
      show 20 - ((i : Int) + 1).toNat < 20 - ((i : Int)).toNat
      omega
    · have hi2 : ¬ (i : Int) < 20 := by omega
      go_wp2_with fail
      go_ret
      exact ⟨rfl, HS.out.2⟩

theorem as_nil (t : Value) (w : World) : Calls Tryz.prog 37 #[.nilIface, t] w fun en w' => en = .returned (.bool false) ∧ w = w' := by
  go_enter Tryz.func37, Tryz.ntmps37
  go_wp2
  go_ret
  exact ⟨rfl, rfl⟩
theorem outermost_nil (w : World) : Calls Tryz.prog 51 #[.nilIface] w fun en w' => en = .returned (.pointer none) ∧ Below w.heap.size w w' := by
  go_enter Tryz.func51, Tryz.ntmps51
  go_wp2_with (go_at_call 37; refine (as_nil _ _).mono ?_; rintro en w1 ⟨rfl, rfl⟩)
  go_ret
  exact ⟨rfl, (Below.refl w.heap.size w).alloc (Nat.le_refl _) _⟩
set_option maxRecDepth 100000 in
set_option maxHeartbeats 1000000 in
theorem where_nil (w : World) : Calls Tryz.prog 34 #[.nilIface] w fun en w' => en = .returned (.tuple #[.slice none 0 0, .int .i64 (-1)]) ∧ Below w.heap.size w w' := by
  go_enter Tryz.func34, Tryz.ntmps34
  go_wp2_with fail
  refine (outermost_nil w).mono ?_
  rintro en w1 ⟨rfl, b1⟩
  have B1 := Lib.hid b1
  clear b1
  go_wp2_with fail
  go_loopg [4, 5, 6] 0 (fun k v a p wr => k = 0 ∧ v = .slice none 0 0 ∧ a = .int .i64 (-1) ∧ p = .pointer none ∧ wr = w1)
  case atStart => exact ⟨rfl, rfl, rfl, rfl, rfl⟩
  case round =>
    obtain ⟨-, rfl, rfl, rfl, rfl⟩ := hrel
    go_wp2_with fail
    go_ret2
    exact ⟨rfl, B1.out⟩

theorem of_nil (w : World) : Calls Tryz.prog 17 #[.nilIface] w fun en w' => en = .returned (.int .i64 0) ∧ Below w.heap.size w w' := by
  go_enter Tryz.func17, Tryz.ntmps17
  go_wp2_with fail
  go_ret
  exact ⟨rfl, Below.refl _ _⟩

/-- What Path tells of no error. -/
def nilPath : ByteArray := ⟨(Lib.join [okB.data.toList] [47]).toArray⟩

set_option maxRecDepth 100000 in
set_option maxHeartbeats 2000000 in
theorem path_nil (w : World) : Calls Tryz.prog 12 #[.nilIface] w fun en w' => en = .returned (.string nilPath) ∧ Below w.heap.size w w' := by
  obtain ⟨z0i, z0, hi0, hz0, hz1, hz2, hz3⟩ := flt.strInfo
  have HI0 := Lib.hid hi0
  have HZ0 := Lib.hid hz0
  clear hi0 hz0
  obtain ⟨wd, hwd⟩ : ∃ wd, wd = okB := ⟨_, rfl⟩
  have HWD := Lib.hid hwd
  clear hwd
  go_enter Tryz.func12, Tryz.ntmps12
  go_wp2_with fail
  refine (where_nil w).mono ?_
  rintro en w1 ⟨rfl, b1⟩
  go_wp2_with fail
  refine (of_nil w1).mono ?_
  rintro en w2 ⟨rfl, b2⟩
  have B2 : Hid (Below w.heap.size w w2) := Lib.hid (b1.trans (b2.mono b1.size))
  clear b1 b2
  go_wp2_with fail
  refine (err_zero w2).mono ?_
  rw [← HWD.out]
  rintro en w3 ⟨rfl, b3⟩
  have B3 : Hid (Below w.heap.size w w3) := Lib.hid (B2.out.trans (b3.mono B2.out.size))
  clear b3 B2
  go_wp2_with (first
    | ((with_reducible refine at_op 15 ?_); refine wpList_append_seg (o := ⟨some 15, _, _, _, _, _⟩) _ rfl (.tmp 10) (.tmp 14) 26 rfl 9 z0i z0 1 16 Tryz.underlying26 HI0.out HZ0.out hz1 hz3 hz2 (by decide) (.slice none 0 0) 0 [] rfl (Seg.nil _ _ _) ⟨w3.heap.size, 0, none⟩ 1 1 [.string wd] rfl rfl (World.news_of_block (heap_alloc_new _ _)) (by simp [Value.oneCell']) (by decide) (by unfold maxLen; omega) (by omega) _ rfl ?_
       intro g off cp w4 hown hgrow hat hlt
       (have OW := Lib.hid hown)
       (have B4 : Hid (Below w.heap.size w w4) := Lib.hid ((B3.out.alloc B3.out.size _).trans (flt.below_own hgrow (fun y hy => by cases hy) (Nat.le_trans B3.out.size (by simp)))))
       (clear hown hgrow hat hlt))
    | (go_at_call 35; refine (flt.join_calls w4 g off cp [wd] 1 (by simp) (by exact OW.out) (by omega) (by rw [HWD.out]; decide)).mono ?_; rintro en w5 ⟨rfl, b5⟩)
    | fail)
  go_ret
  refine ⟨?_, B4.out.trans (flt.below_less b5 B4.out.size)⟩
  unfold nilPath
  rw [← HWD.out]
  rfl
end Go.Proofs.YtdlkdgajoafkaaaGreatDoor.prf
end

section
/- fault: slices.Contains over steps' names, Within. -/
namespace Go.Proofs.YtdlkdgajoafkaaaGreatDoor.flt
open Go Go.RowKit Go.Extern.Stop Go.Stop Go.Extern

/-- Is one of the steps of that name? -/
def within (L : List Sp) (s : ByteArray) : Bool := L.any fun x => decide (x.s = s)

def IndexPost (w : World) (L : List Sp) (s : ByteArray) (en : Ending) (w' : World) : Prop :=
  ∃ z : Int, en = .returned (.int .i64 z) ∧ (within L s = true → 0 ≤ z) ∧ (within L s = false → z < 0) ∧ w = w'

set_option maxHeartbeats 1000000 in
theorem index_calls (L : List Sp) (v : Value) (s : ByteArray) (w : World) (h : Seg w 9 1 v L.length (names L)) : Calls Tryz.prog 59 #[v, .string s] w (IndexPost w L s) := by
  obtain ⟨a, c, rfl, hc1, hc2⟩ := h.slice
  have hlen : (L.length : Int) ≤ 9223372036854775807 := by unfold maxLen at hc2; omega
  have H := Lib.hid h
  clear h
  go_enter Tryz.func59, Tryz.ntmps59
  go_wp2_with fail
  go_loopw [8] (fun x wr => ∃ i : Nat, x = .int .i64 i ∧ i ≤ L.length ∧ wr = w ∧ Hid (∀ (j : Nat) y, j < i → L[j]? = some y → ¬ y.s = s)) (fun x _ => L.length - (intOf x).toNat)
  case atStart => exact ⟨0, rfl, by omega, rfl, Lib.hid fun j y hj => by omega⟩
  case round =>
    obtain ⟨i, rfl, hi, rfl, HN⟩ := hrel
    by_cases hlt : i < L.length
    · obtain ⟨g, off, c', e, hg, _, _, hcells⟩ := H.out.cells (by omega)
      injection e with e1 e2 e3
      subst e1
      obtain ⟨y, hy⟩ : ∃ y, L[i]? = some y := ⟨_, List.getElem?_eq_getElem hlt⟩
      have c0 : wr.cell? ⟨g, off + i, none⟩ = some (.string y.s) := hcells i _ (by unfold names; rw [List.getElem?_map, hy]; rfl)
      have hi2 : (i : Int) < (L.length : Int) := by omega
      have HY := Lib.hid hy
      obtain ⟨t, ht⟩ : ∃ t, t = y.s := ⟨_, rfl⟩
      rw [← ht] at c0
      have HTT := Lib.hid ht
      clear ht hy hcells hg hc1 hc2
      by_cases hst : s = t
      · have HST := Lib.hid hst
        have HS2 : Hid (within L s = true) := Lib.hid (by
          unfold within
          rw [List.any_eq_true]
          exact ⟨y, List.mem_of_getElem? HY.out, by rw [← HTT.out, ← hst]; exact decide_eq_true rfl⟩)
        subst hst
        have hne : (s.toList == s.toList) = true := by simp
        go_wp2_with fail
        go_ret
        refine ⟨_, rfl, fun _ => by omega, fun (e : within L s = false) => ?_, rfl⟩
        rw [HS2.out] at e; cases e
      · have HST := Lib.hid hst
        have hne : (s.toList == t.toList) = false := by
          rw [beq_eq_false_iff_ne]
          intro e
          rw [ByteArray.toList_eq, ByteArray.toList_eq] at e
          exact hst (ByteArray.ext (Array.toList_inj.1 e))
        clear hst
        go_wp2_with fail
        refine ⟨⟨i + 1, by rw [Int.natCast_add]; rfl, by omega, trivial, Lib.hid fun j z hj hz => ?_⟩, ?_⟩
        · rcases Nat.lt_or_ge j i with h | h
          · exact HN.out j z h hz
          · obtain rfl : j = i := by omega
            have e := HY.out.symm.trans hz
            injection e with e
            rw [← e, ← HTT.out]
            exact fun e => HST.out e.symm
        · show L.length - ((i : Int) + 1).toNat < L.length - ((i : Int)).toNat
          omega
    · have hi2 : ¬ (i : Int) < (L.length : Int) := by omega
      have HS2 : Hid (within L s = false) := Lib.hid (by
        unfold within
        rw [List.any_eq_false]
        intro y hy
        obtain ⟨j, hj, e⟩ := List.getElem_of_mem hy
        have := HN.out j y (by omega) (by rw [List.getElem?_eq_getElem hj, e])
        exact fun h => this (of_decide_eq_true h))
      go_wp2_with fail
      go_ret
      refine ⟨_, rfl, fun (e : within L s = true) => ?_, fun _ => by decide, rfl⟩
      rw [HS2.out] at e; cases e

theorem contains_calls (L : List Sp) (v : Value) (s : ByteArray) (w : World) (h : Seg w 9 1 v L.length (names L)) : Calls Tryz.prog 38 #[v, .string s] w fun en w' => en = .returned (.bool (within L s)) ∧ w = w' := by
  have H := Lib.hid h
  clear h
  go_enter Tryz.func38, Tryz.ntmps38
  go_wp2_with (first
    | (go_at_call 59; refine (index_calls L v s _ H.out).mono ?_; rintro en w1 ⟨z, rfl, h1, h2, rfl⟩)
    | fail)
  go_ret
  refine ⟨?_, rfl⟩
  cases hb : within L s with
  | true => exact ret_bool (decide_eq_true (h1 hb))
  | false => exact ret_bool (decide_eq_false (by have := h2 hb; omega))

theorem within_calls (B : Nat) (L : List Sp) (n : Int) (s : ByteArray) (w : World) (hT : Et B w) (hE : Er B w L n) (hl : L.length ≤ 1000000) : Calls Tryz.prog 18 #[ev L n, .string s] w fun en w' => en = .returned (.bool (within L s)) ∧ Below B w w' := by
  have HT := Lib.hid hT
  have HE := Lib.hid hE
  clear hT hE
  go_enter Tryz.func18, Tryz.ntmps18
  go_wp2_with (first
    | (go_at_call 34; refine (where_calls B L n _ HT.out HE.out hl).mono ?_; rintro en w1 ⟨v, rfl, hS, hO, b1⟩)
    | (go_at_call 38; refine (contains_calls L v s _ hS).mono ?_; rintro en w2 ⟨rfl, rfl⟩)
    | fail)
  go_ret
  exact ⟨rfl, b1⟩
end Go.Proofs.YtdlkdgajoafkaaaGreatDoor.flt
end

section
/- law 12's does: what lasts, and the call of At. -/
namespace Go.Proofs.YtdlkdgajoafkaaaGreatDoor.prn
open Go Go.RowKit Go.Proofs.YtdlkdgajoafkaaaGreatDoor.dig Go.Proofs.YtdlkdgajoafkaaaGreatDoor.prf

/-- The step s stands in the error e, in every world from here on. -/
def InIs (W : World) (e : Value) (s : ByteArray) : Prop := ∀ V, Below W.heap.size W V → Calls Tryz.prog 18 #[e, .string s] V fun en w' => en = .returned (.bool true) ∧ Below V.heap.size V w'
theorem InIs.below {W W' : World} {e : Value} {s : ByteArray} (h : InIs W e s) (b : Below W.heap.size W W') : InIs W' e s := fun V hV => h V (b.trans (hV.mono b.size))
/-- An error as the law looks at it: its number, and its step if there is one. -/
def ErrIs (W : World) (e : Value) (s : ByteArray) (f : Int) : Prop := OfIs W e f ∧ (f ≠ 0 → InIs W e s)
theorem ErrIs.below {W W' : World} {e : Value} {s : ByteArray} {f : Int} (h : ErrIs W e s f) (b : Below W.heap.size W W') : ErrIs W' e s f := ⟨h.1.below b, fun h0 => (h.2 h0).below b⟩
theorem ErrIs.none (W : World) (s : ByteArray) : ErrIs W .nilIface s 0 := ⟨fun V _ => of_nil V, fun h => absurd rfl h⟩
theorem ErrIs.err {W : World} (hP : Pw W) {b : Nat} {s : ByteArray} {a n : Int} (he : flt.Er W.heap.size W [⟨b, s, a⟩] n) : ErrIs W (flt.ev [⟨b, s, a⟩] n) s n := by
  refine ⟨fun V hV => ?_, fun _ V hV => ?_⟩
  · exact flt.of_calls V.heap.size [⟨b, s, a⟩] n V (hP.below hV).et ((he.below hV (Nat.le_refl _)).more hV.size)
  · have h1 := flt.within_calls V.heap.size [⟨b, s, a⟩] n s V (hP.below hV).et ((he.below hV (Nat.le_refl _)).more hV.size) (by simp)
    have h2 : flt.within [⟨b, s, a⟩] s = true := by simp [flt.within]
    rw [h2] at h1
    exact h1

/-- The law's first world, and a block that does leaves alone: the law's own box, its cells. -/
structure Gh where
  w : World
  g : Nat
  C : Array Value
/-- What lasts between two calls: the vault, the document's, and that they lie apart. -/
structure Dx (B : Nat) (w : Gh) (vb : Nat) (v : Value) (L : List ByteArray) (fl : Nat) (W : World) : Prop where
  va : ∃ F, Va B F W vb L fl ∧ (∀ j, F j → j < W.heap.size) ∧ (∀ x, v.ownBlock = some x → ¬ F x) ∧ ¬ F w.g
  bel : Below w.w.heap.size w.w W
  lo : w.w.heap.size ≤ B
  pr : Has W w.g 28 w.C
  dc : Strs W v L
theorem Dx.below {B : Nat} {w : Gh} {vb : Nat} {v : Value} {L : List ByteArray} {fl : Nat} {W W' : World} (h : Dx B w vb v L fl W) (b : Below W.heap.size W W') : Dx B w vb v L fl W' := by
  obtain ⟨F, h1, h2, h3⟩ := h.va
  exact ⟨⟨F, h1.below b, fun j hj => Nat.lt_of_lt_of_le (h2 j hj) b.size, h3⟩, h.bel.trans (b.mono h.bel.size), h.lo, h.pr.below b h.pr.lt, ⟨h.dc.1.below b (fun x hx => h.dc.1.lt hx), h.dc.2⟩⟩

/-- does's boxes: the document's vault, the act, the answer. -/
structure Bx (w : World) (v : Value) (fl k m n : Int) (s : ByteArray) (W : World) : Prop where
  x : Has W w.heap.size 28 #[v, .int .i64 fl]
  a : Has W (w.heap.size + 1) 32 #[.int .i64 k, .int .i64 m, .int .i64 n, .string s]
  r : Has W (w.heap.size + 2) 28 #[.slice none 0 0, .int .i64 0]
  bel : Below w.heap.size w W
section
variable {w W W' : World} {v : Value} {fl k m n : Int} {s : ByteArray}
theorem Bx.below (h : Bx w v fl k m n s W) (b : Below W.heap.size W W') : Bx w v fl k m n s W' := ⟨h.x.below b h.x.lt, h.a.below b h.a.lt, h.r.below b h.r.lt, h.bel.trans (b.mono h.bel.size)⟩
theorem Bx.cells (h : Bx w v fl k m n s W) : W.cell? ⟨w.heap.size, 0, none⟩ = some v ∧ W.cell? ⟨w.heap.size, 1, none⟩ = some (.int .i64 fl) ∧ W.cell? ⟨w.heap.size + 1, 1, none⟩ = some (.int .i64 m) ∧ W.cell? ⟨w.heap.size + 1, 2, none⟩ = some (.int .i64 n) ∧ W.cell? ⟨w.heap.size + 1, 3, none⟩ = some (.string s) :=
  ⟨by simpa using h.x.cell 0, by simpa using h.x.cell 1, by simpa using h.a.cell 1, by simpa using h.a.cell 2, by simpa using h.a.cell 3⟩
theorem Bx.kind (h : Bx w v fl k m n s W) : W.cell? ⟨w.heap.size + 1, 0, none⟩ = some (.int .i64 k) := by simpa using h.a.cell 0
end

/-- What a drawn region of does keeps. -/
def Sx (w : World) (v : Value) (fl : Int) (V : World) : Prop := Has V w.heap.size 28 #[v, .int .i64 fl] ∧ ∃ x y, Has V (w.heap.size + 2) 28 #[x, y]
theorem Sx.below {w W W' : World} {v : Value} {fl : Int} (h : Sx w v fl W) (b : Below W.heap.size W W') : Sx w v fl W' := by
  obtain ⟨h1, x, y, h2⟩ := h
  exact ⟨h1.below b h1.lt, x, y, h2.below b h2.lt⟩
theorem Sx.stored {w W : World} {v : Value} {fl : Int} (h : Sx w v fl W) (p q : Value) : Sx w v fl (W.setRow (w.heap.size + 2) #[p, q]) := by
  obtain ⟨h1, x, y, h2⟩ := h
  exact ⟨h1.turn (turn_row W (w.heap.size + 2) #[p, q]) (by omega), p, q, h2.row _⟩

/-- Results: a plain one, a whole row out of its cell, a plain one. -/
theorem res_does {fn : Func} {p q r : Tmp} (h : fn.results = #[.tmp p, .cell q 28, .tmp r]) (tmps : Array Value) (w : World) (g : Nat) (cs : Array Value) (x y : Value) (hp : tmps.getD p undef = x) (hq : tmps.getD q undef = .pointer (some ⟨g, 0, none⟩)) (hr : tmps.getD r undef = y) (hg : Has w g 28 cs) (hi : (Tryz.prog.info? 28).map (·.size) = some cs.size) :
    (results fn tmps).run Tryz.prog w = .ok (.tuple #[x, .agg cs, y]) w := by
  have hp' : tmps[p]?.getD undef = x := by simpa using hp
  have hq' : tmps[q]?.getD undef = .pointer (some ⟨g, 0, none⟩) := by simpa using hq
  have hr' : tmps[r]?.getD undef = y := by simpa using hr
  simp [results, h, hp', hq', hr', asAddr, run_loadVar_row w g 28 28 cs (0, 0) _ hg Tryz.underlying28 rfl hi]

set_option maxRecDepth 100000 in
set_option maxHeartbeats 4000000 in
theorem does_at (vb : Nat) (a : Option Addr) (ln c : Nat) (fl m n f : Int) (s t : ByteArray) (w : World)
    (hA : ∀ V, Below w.heap.size w V → Calls Tryz.prog 11 #[.pointer (some ⟨vb, 0, none⟩), .int .i64 n] V fun en w' => ∃ e, en = .returned (.tuple #[.string t, e]) ∧ ErrIs w' e commandB f ∧ Below V.heap.size V w')
    (hD : ∀ V, Below w.heap.size w V → Calls Tryz.prog 19 #[dvC (.slice a ln c) fl, .int .i64 n] V fun en w' => en = .returned (.tuple #[.string t, .int .i64 f]) ∧ Below V.heap.size V w') :
    Calls Tryz.prog 6 #[.pointer (some ⟨vb, 0, none⟩), dvC (.slice a ln c) fl, .agg #[.int .i64 3, .int .i64 m, .int .i64 n, .string s]] w fun en w' =>
      en = .returned (.tuple #[.pointer (some ⟨vb, 0, none⟩), dvC (.slice a ln c) fl, .bool true]) ∧ Below w.heap.size w w' := by
  unfold dvC at *
  have HA := Lib.hid (show _ ∧ _ from ⟨hA, hD⟩)
  clear hA hD
  go_enter Tryz.func6, Tryz.ntmps6
  go_wp2_with fail
  refine callsName (fun W hW => ?_)
  have B0 : Hid (Bx w (.slice a ln c) fl 3 m n s W) := by
    rw [← hW]
    exact Lib.hid ⟨((made_at _ _ rfl).alloc _).alloc _, (made_at _ _ (by simp)).alloc _, made_at _ _ (by simp), (((Below.refl _ _).alloc (Nat.le_refl _) _).alloc (by simp) _).alloc (by simp; omega) _⟩
  clear hW
  refine (HA.out.1 W B0.out.bel).mono ?_
  rintro en w1 ⟨e, rfl, he, b1⟩
  have B1 : Hid (Bx w (.slice a ln c) fl 3 m n s w1) := Lib.hid (B0.out.below b1)
  have E1 := Lib.hid he
  obtain ⟨c0, c1, d1, d2, d3⟩ := B1.out.cells
  clear b1 he B0
  go_wp2_with fail
  refine (HA.out.2 w1 B1.out.bel).mono ?_
  rintro en w2 ⟨rfl, b2⟩
  have B2 : Hid (Bx w (.slice a ln c) fl 3 m n s w2) := Lib.hid (B1.out.below b2)
  have E2 := Lib.hid (E1.out.below b2)
  clear b2 E1 B1 c0 c1 d1 d2 d3
  obtain ⟨c0, c1, d1, d2, d3⟩ := B2.out.cells
  go_wp2_with fail
  have S2 : Sx w (.slice a ln c) fl w2.drew := ⟨B2.out.x.drew, _, _, B2.out.r.drew⟩
  refine Go.wp_region_held (P := Tryz.prog) (S := Sx w (.slice a ln c) fl) (by kernel_rfl) ?_
  clear c0 c1 d1 d2 d3
  by_cases hf : f = 0
  · subst hf
    refine held_take 0 (some 89) rfl rfl (by kernel_rfl) (by kernel_rfl) (by kernel_rfl) (fun _ _ _ h => h) (.inl ⟨by kernel_rfl, fun _ _ => rfl⟩) S2 ?_
    simp only [Act.put, List.setIfInBounds_toArray, List.set_cons_zero, List.set_cons_succ]
    refine held_take 1 (some 90) (v := .agg #[.slice a ln c, .int .i64 fl]) rfl rfl (by kernel_rfl) (by kernel_rfl) (by kernel_rfl) (fun _ _ _ h => h) (.inl ⟨by kernel_rfl, fun V hV => by have c0 := hV.1.cell 0; have c1 := hV.1.cell 1; simp at c0 c1; go_simp⟩) S2 ?_
    simp only [Act.put, List.setIfInBounds_toArray, List.set_cons_zero, List.set_cons_succ]
    refine held_take 2 (some 91) rfl rfl (by kernel_rfl) (by kernel_rfl) (by kernel_rfl) (fun _ _ _ h => h) (.inl ⟨by kernel_rfl, fun _ _ => rfl⟩) S2 ?_
    simp only [Act.put, List.setIfInBounds_toArray, List.set_cons_zero, List.set_cons_succ]
    refine held_take 3 (some 92) rfl rfl (by kernel_rfl) (by kernel_rfl) (by kernel_rfl) (fun _ _ _ h => h) (.inl ⟨by kernel_rfl, fun _ _ => rfl⟩) S2 ?_
    simp only [Act.put, List.setIfInBounds_toArray, List.set_cons_zero, List.set_cons_succ]
    refine held_take 4 (some 93) (v := .bool true) rfl rfl (by kernel_rfl) (by kernel_rfl) (by kernel_rfl) (fun _ _ _ h => h) (.inl ⟨by kernel_rfl, fun V hV => by have hss : (t.toList == t.toList) = true := (by simp); go_simp⟩) S2 ?_
    simp only [Act.put, List.setIfInBounds_toArray, List.set_cons_zero, List.set_cons_succ]
    refine held_take 5 (some 94) rfl rfl (by kernel_rfl) (by kernel_rfl) (by kernel_rfl) (fun _ _ _ h => h) (.inl ⟨by kernel_rfl, fun _ _ => rfl⟩) S2 ?_
    simp only [Act.put, List.setIfInBounds_toArray, List.set_cons_zero, List.set_cons_succ]
    refine held_take 6 (some 95) rfl rfl (by kernel_rfl) (by kernel_rfl) (by kernel_rfl) (fun _ _ _ h => h) (.inl ⟨by kernel_rfl, fun _ _ => rfl⟩) S2 ?_
    simp only [Act.put, List.setIfInBounds_toArray, List.set_cons_zero, List.set_cons_succ]
    refine held_take 8 (some 97) rfl rfl (by kernel_rfl) (by kernel_rfl) (by kernel_rfl) (fun _ _ _ h => h) (.inl ⟨by kernel_rfl, fun _ _ => rfl⟩) S2 ?_
    simp only [Act.put, List.setIfInBounds_toArray, List.set_cons_zero, List.set_cons_succ]
    refine held_one (i := 7) (by kernel_rfl) ?_
    refine wpOp_call (some 96) rfl rfl (by kernel_rfl) 17 Tryz.f17 Tryz.func17 (by kernel_rfl) (by kernel_rfl) _ _ rfl #[e] (by first | (simp [Act.eval]; done) | (simp [Act.eval, Act.put]; done)) (E2.out.1 _ ((Below.refl _ _).drew)) ?_
    rintro en w3 ⟨rfl, b3⟩
    have S3 := S2.below b3
    refine ⟨_, rfl, S3, ?_⟩
    simp only [Act.put, List.setIfInBounds_toArray, List.set_cons_zero, List.set_cons_succ]
    refine held_take 9 (some 98) (v := .bool true) rfl rfl (by kernel_rfl) (by kernel_rfl) (by kernel_rfl) (fun _ _ _ h => h) (.inl ⟨by kernel_rfl, fun V hV => by go_simp⟩) S3 ?_
    simp only [Act.put, List.setIfInBounds_toArray, List.set_cons_zero, List.set_cons_succ]
    refine held_take 10 (some 99) (v := .bool true) rfl rfl (by kernel_rfl) (by kernel_rfl) (by kernel_rfl) (fun _ _ _ h => h) (.inl ⟨by kernel_rfl, fun V hV => by go_simp⟩) S3 ?_
    simp only [Act.put, List.setIfInBounds_toArray, List.set_cons_zero, List.set_cons_succ]
    refine held_take 11 (some 100) rfl rfl (by kernel_rfl) (by kernel_rfl) (by kernel_rfl) (fun _ _ _ h => h) (.inl ⟨by kernel_rfl, fun _ _ => rfl⟩) S3 ?_
    simp only [Act.put, List.setIfInBounds_toArray, List.set_cons_zero, List.set_cons_succ]
    refine held_take 12 (some 101) rfl rfl (by kernel_rfl) (by kernel_rfl) (by kernel_rfl) (fun _ _ _ h => h) (.inl ⟨by kernel_rfl, fun _ _ => rfl⟩) S3 ?_
    simp only [Act.put, List.setIfInBounds_toArray, List.set_cons_zero, List.set_cons_succ]
    refine held_take 13 (some 102) (v := .bool true) rfl rfl (by kernel_rfl) (by kernel_rfl) (by kernel_rfl) (fun _ _ _ h => h) (.inl ⟨by kernel_rfl, fun V hV => by go_simp⟩) S3 ?_
    simp only [Act.put, List.setIfInBounds_toArray, List.set_cons_zero, List.set_cons_succ]
    refine held_take 14 (some 103) rfl rfl (by kernel_rfl) (by kernel_rfl) (by kernel_rfl) (fun _ _ _ h => h) (.inl ⟨by kernel_rfl, fun _ _ => rfl⟩) S3 ?_
    simp only [Act.put, List.setIfInBounds_toArray, List.set_cons_zero, List.set_cons_succ]
    refine held_take 15 (some 104) (v := undef) rfl rfl (by kernel_rfl) (by kernel_rfl) (by kernel_rfl) (fun _ _ _ h => h) (.inr ⟨by kernel_rfl, rfl⟩) S3 ?_
    simp only [Act.put, List.setIfInBounds_toArray, List.set_cons_zero, List.set_cons_succ]
    refine held_take 16 (some 105) (v := undef) rfl rfl (by kernel_rfl) (by kernel_rfl) (by kernel_rfl) (fun _ _ _ h => h) (.inr ⟨by kernel_rfl, rfl⟩) S3 ?_
    simp only [Act.put, List.setIfInBounds_toArray, List.set_cons_zero, List.set_cons_succ]
    refine held_take 17 (some 106) (v := .bool true) rfl rfl (by kernel_rfl) (by kernel_rfl) (by kernel_rfl) (fun _ _ _ h => h) (.inl ⟨by kernel_rfl, fun V hV => by go_simp⟩) S3 ?_
    simp only [Act.put, List.setIfInBounds_toArray, List.set_cons_zero, List.set_cons_succ]
    refine held_take 18 (some 107) (v := .bool true) rfl rfl (by kernel_rfl) (by kernel_rfl) (by kernel_rfl) (fun _ _ _ h => h) (.inl ⟨by kernel_rfl, fun V hV => by go_simp⟩) S3 ?_
    simp only [Act.put, List.setIfInBounds_toArray, List.set_cons_zero, List.set_cons_succ]
    refine held_take 19 (some 6) rfl rfl (by kernel_rfl) (by kernel_rfl) (by kernel_rfl) (fun _ _ _ h => h) (.inl ⟨by kernel_rfl, fun _ _ => rfl⟩) S3 ?_
    simp only [Act.put, List.setIfInBounds_toArray, List.set_cons_zero, List.set_cons_succ]
    obtain ⟨x7, y7, R7⟩ := S3.2
    refine held_one (i := 20) (by kernel_rfl) ?_
    refine wpOp_wp (o := ⟨none, _, _, _, _, _⟩) rfl (by kernel_rfl) ?_
    refine wp_store_row 28 (.tmp 7) (.tmp 90) rfl (w.heap.size + 2) #[.slice a ln c, .int .i64 fl] (by first | rfl | simp [Act.eval]) (by first | rfl | simp [Act.eval]) 28 _ R7 (by kernel_rfl) rfl (by simp [Value.oneCell']) ?_
    have S9 := S3.stored (.slice a ln c) (.int .i64 fl)
    refine ⟨S9, ?_⟩
    simp only [Act.put]
    refine held_take 21 (some 8) rfl rfl (by kernel_rfl) (by kernel_rfl) (by kernel_rfl) (fun _ _ _ h => h) (.inl ⟨by kernel_rfl, fun _ _ => rfl⟩) S9 ?_
    simp only [Act.put, List.setIfInBounds_toArray, List.set_cons_zero, List.set_cons_succ]
    refine wpAnyH_done (by kernel_rfl) ?_ _
    go_wp2_with fail
    exact bodyPost_ret (v := .tuple #[.pointer (some ⟨vb, 0, none⟩), .agg #[.slice a ln c, .int .i64 fl], .bool true]) (res_does rfl _ _ (w.heap.size + 2) _ _ _ rfl rfl rfl (R7.row _) (by kernel_rfl)) rfl ⟨rfl, (B2.out.bel.drew.trans (b3.mono B2.out.bel.drew.size)).trans ((turn_row _ (w.heap.size + 2) _).below (B2.out.bel.drew.trans (b3.mono B2.out.bel.drew.size)).size (fun j hj e => by omega))⟩
  · skip
    refine held_take 0 (some 89) rfl rfl (by kernel_rfl) (by kernel_rfl) (by kernel_rfl) (fun _ _ _ h => h) (.inl ⟨by kernel_rfl, fun _ _ => rfl⟩) S2 ?_
    simp only [Act.put, List.setIfInBounds_toArray, List.set_cons_zero, List.set_cons_succ]
    refine held_take 1 (some 90) (v := .agg #[.slice a ln c, .int .i64 fl]) rfl rfl (by kernel_rfl) (by kernel_rfl) (by kernel_rfl) (fun _ _ _ h => h) (.inl ⟨by kernel_rfl, fun V hV => by have c0 := hV.1.cell 0; have c1 := hV.1.cell 1; simp at c0 c1; go_simp⟩) S2 ?_
    simp only [Act.put, List.setIfInBounds_toArray, List.set_cons_zero, List.set_cons_succ]
    refine held_take 2 (some 91) rfl rfl (by kernel_rfl) (by kernel_rfl) (by kernel_rfl) (fun _ _ _ h => h) (.inl ⟨by kernel_rfl, fun _ _ => rfl⟩) S2 ?_
    simp only [Act.put, List.setIfInBounds_toArray, List.set_cons_zero, List.set_cons_succ]
    refine held_take 3 (some 92) rfl rfl (by kernel_rfl) (by kernel_rfl) (by kernel_rfl) (fun _ _ _ h => h) (.inl ⟨by kernel_rfl, fun _ _ => rfl⟩) S2 ?_
    simp only [Act.put, List.setIfInBounds_toArray, List.set_cons_zero, List.set_cons_succ]
    refine held_take 4 (some 93) (v := .bool true) rfl rfl (by kernel_rfl) (by kernel_rfl) (by kernel_rfl) (fun _ _ _ h => h) (.inl ⟨by kernel_rfl, fun V hV => by have hss : (t.toList == t.toList) = true := (by simp); go_simp⟩) S2 ?_
    simp only [Act.put, List.setIfInBounds_toArray, List.set_cons_zero, List.set_cons_succ]
    refine held_take 5 (some 94) rfl rfl (by kernel_rfl) (by kernel_rfl) (by kernel_rfl) (fun _ _ _ h => h) (.inl ⟨by kernel_rfl, fun _ _ => rfl⟩) S2 ?_
    simp only [Act.put, List.setIfInBounds_toArray, List.set_cons_zero, List.set_cons_succ]
    refine held_take 6 (some 95) rfl rfl (by kernel_rfl) (by kernel_rfl) (by kernel_rfl) (fun _ _ _ h => h) (.inl ⟨by kernel_rfl, fun _ _ => rfl⟩) S2 ?_
    simp only [Act.put, List.setIfInBounds_toArray, List.set_cons_zero, List.set_cons_succ]
    refine held_take 8 (some 97) rfl rfl (by kernel_rfl) (by kernel_rfl) (by kernel_rfl) (fun _ _ _ h => h) (.inl ⟨by kernel_rfl, fun _ _ => rfl⟩) S2 ?_
    simp only [Act.put, List.setIfInBounds_toArray, List.set_cons_zero, List.set_cons_succ]
    refine held_one (i := 7) (by kernel_rfl) ?_
    refine wpOp_call (some 96) rfl rfl (by kernel_rfl) 17 Tryz.f17 Tryz.func17 (by kernel_rfl) (by kernel_rfl) _ _ rfl #[e] (by first | (simp [Act.eval]; done) | (simp [Act.eval, Act.put]; done)) (E2.out.1 _ ((Below.refl _ _).drew)) ?_
    rintro en w3 ⟨rfl, b3⟩
    have S3 := S2.below b3
    refine ⟨_, rfl, S3, ?_⟩
    simp only [Act.put, List.setIfInBounds_toArray, List.set_cons_zero, List.set_cons_succ]
    refine held_take 9 (some 98) (v := .bool true) rfl rfl (by kernel_rfl) (by kernel_rfl) (by kernel_rfl) (fun _ _ _ h => h) (.inl ⟨by kernel_rfl, fun V hV => by go_simp⟩) S3 ?_
    simp only [Act.put, List.setIfInBounds_toArray, List.set_cons_zero, List.set_cons_succ]
    refine held_take 10 (some 99) (v := .bool true) rfl rfl (by kernel_rfl) (by kernel_rfl) (by kernel_rfl) (fun _ _ _ h => h) (.inl ⟨by kernel_rfl, fun V hV => by go_simp⟩) S3 ?_
    simp only [Act.put, List.setIfInBounds_toArray, List.set_cons_zero, List.set_cons_succ]
    refine held_take 11 (some 100) rfl rfl (by kernel_rfl) (by kernel_rfl) (by kernel_rfl) (fun _ _ _ h => h) (.inl ⟨by kernel_rfl, fun _ _ => rfl⟩) S3 ?_
    simp only [Act.put, List.setIfInBounds_toArray, List.set_cons_zero, List.set_cons_succ]
    refine held_take 12 (some 101) rfl rfl (by kernel_rfl) (by kernel_rfl) (by kernel_rfl) (fun _ _ _ h => h) (.inl ⟨by kernel_rfl, fun _ _ => rfl⟩) S3 ?_
    simp only [Act.put, List.setIfInBounds_toArray, List.set_cons_zero, List.set_cons_succ]
    refine held_take 13 (some 102) (v := .bool false) rfl rfl (by kernel_rfl) (by kernel_rfl) (by kernel_rfl) (fun _ _ _ h => h) (.inl ⟨by kernel_rfl, fun V hV => by go_simp⟩) S3 ?_
    simp only [Act.put, List.setIfInBounds_toArray, List.set_cons_zero, List.set_cons_succ]
    refine held_take 14 (some 103) rfl rfl (by kernel_rfl) (by kernel_rfl) (by kernel_rfl) (fun _ _ _ h => h) (.inl ⟨by kernel_rfl, fun _ _ => rfl⟩) S3 ?_
    simp only [Act.put, List.setIfInBounds_toArray, List.set_cons_zero, List.set_cons_succ]
    refine held_take 15 (some 104) rfl rfl (by kernel_rfl) (by kernel_rfl) (by kernel_rfl) (fun _ _ _ h => h) (.inl ⟨by kernel_rfl, fun _ _ => rfl⟩) S3 ?_
    simp only [Act.put, List.setIfInBounds_toArray, List.set_cons_zero, List.set_cons_succ]
    refine held_one (i := 16) (by kernel_rfl) ?_
    refine wpOp_call (some 105) rfl rfl (by kernel_rfl) 18 Tryz.f18 Tryz.func18 (by kernel_rfl) (by kernel_rfl) _ _ rfl #[e, .string commandB] (by first | (simp [Act.eval, commandB]; done) | (simp [Act.eval, Act.put]; done)) (E2.out.2 hf _ (((Below.refl _ _).drew).trans b3)) ?_
    rintro en w4 ⟨rfl, b4⟩
    have S4 := S3.below b4
    refine ⟨_, rfl, S4, ?_⟩
    simp only [Act.put, List.setIfInBounds_toArray, List.set_cons_zero, List.set_cons_succ]
    refine held_take 17 (some 106) (v := .bool true) rfl rfl (by kernel_rfl) (by kernel_rfl) (by kernel_rfl) (fun _ _ _ h => h) (.inl ⟨by kernel_rfl, fun V hV => by go_simp⟩) S4 ?_
    simp only [Act.put, List.setIfInBounds_toArray, List.set_cons_zero, List.set_cons_succ]
    refine held_take 18 (some 107) (v := .bool true) rfl rfl (by kernel_rfl) (by kernel_rfl) (by kernel_rfl) (fun _ _ _ h => h) (.inl ⟨by kernel_rfl, fun V hV => by go_simp⟩) S4 ?_
    simp only [Act.put, List.setIfInBounds_toArray, List.set_cons_zero, List.set_cons_succ]
    refine held_take 19 (some 6) rfl rfl (by kernel_rfl) (by kernel_rfl) (by kernel_rfl) (fun _ _ _ h => h) (.inl ⟨by kernel_rfl, fun _ _ => rfl⟩) S4 ?_
    simp only [Act.put, List.setIfInBounds_toArray, List.set_cons_zero, List.set_cons_succ]
    obtain ⟨x7, y7, R7⟩ := S4.2
    refine held_one (i := 20) (by kernel_rfl) ?_
    refine wpOp_wp (o := ⟨none, _, _, _, _, _⟩) rfl (by kernel_rfl) ?_
    refine wp_store_row 28 (.tmp 7) (.tmp 90) rfl (w.heap.size + 2) #[.slice a ln c, .int .i64 fl] (by first | rfl | simp [Act.eval]) (by first | rfl | simp [Act.eval]) 28 _ R7 (by kernel_rfl) rfl (by simp [Value.oneCell']) ?_
    have S9 := S4.stored (.slice a ln c) (.int .i64 fl)
    refine ⟨S9, ?_⟩
    simp only [Act.put]
    refine held_take 21 (some 8) rfl rfl (by kernel_rfl) (by kernel_rfl) (by kernel_rfl) (fun _ _ _ h => h) (.inl ⟨by kernel_rfl, fun _ _ => rfl⟩) S9 ?_
    simp only [Act.put, List.setIfInBounds_toArray, List.set_cons_zero, List.set_cons_succ]
    refine wpAnyH_done (by kernel_rfl) ?_ _
    go_wp2_with fail
    exact bodyPost_ret (v := .tuple #[.pointer (some ⟨vb, 0, none⟩), .agg #[.slice a ln c, .int .i64 fl], .bool true]) (res_does rfl _ _ (w.heap.size + 2) _ _ _ rfl rfl rfl (R7.row _) (by kernel_rfl)) rfl ⟨rfl, ((B2.out.bel.drew.trans (b3.mono B2.out.bel.drew.size)).trans (b4.mono (B2.out.bel.drew.trans (b3.mono B2.out.bel.drew.size)).size)).trans ((turn_row _ (w.heap.size + 2) _).below ((B2.out.bel.drew.trans (b3.mono B2.out.bel.drew.size)).trans (b4.mono (B2.out.bel.drew.trans (b3.mono B2.out.bel.drew.size)).size)).size (fun j hj e => by omega))⟩
end Go.Proofs.YtdlkdgajoafkaaaGreatDoor.prn
end

section
/- law 12's does: the calls of Leaf and of Prefix. -/
namespace Go.Proofs.YtdlkdgajoafkaaaGreatDoor.prn
open Go Go.RowKit Go.Proofs.YtdlkdgajoafkaaaGreatDoor.dig Go.Proofs.YtdlkdgajoafkaaaGreatDoor.prf

/-- What a drawn region of does keeps beside two proofs. -/
def Sy (w : World) (v : Value) (fl : Int) (p1 p2 : Nat) (C1 C2 : Array Value) (V : World) : Prop := Sx w v fl V ∧ Has V p1 64 C1 ∧ Has V p2 68 C2
theorem Sy.below {w W W' : World} {v : Value} {fl : Int} {p1 p2 : Nat} {C1 C2 : Array Value} (h : Sy w v fl p1 p2 C1 C2 W) (b : Below W.heap.size W W') : Sy w v fl p1 p2 C1 C2 W' := ⟨h.1.below b, h.2.1.below b h.2.1.lt, h.2.2.below b h.2.2.lt⟩
theorem Sy.stored {w W : World} {v : Value} {fl : Int} {p1 p2 : Nat} {C1 C2 : Array Value} (h : Sy w v fl p1 p2 C1 C2 W) (p q : Value) (h1 : w.heap.size + 2 < p1) (h2 : w.heap.size + 2 < p2) : Sy w v fl p1 p2 C1 C2 (W.setRow (w.heap.size + 2) #[p, q]) :=
  ⟨h.1.stored p q, h.2.1.turn (turn_row W (w.heap.size + 2) #[p, q]) (by omega), h.2.2.turn (turn_row W (w.heap.size + 2) #[p, q]) (by omega)⟩

set_option maxRecDepth 100000 in
set_option maxHeartbeats 4000000 in
theorem does_leaf (vb : Nat) (a : Option Addr) (ln c : Nat) (fl m n f K I N : Int) (l : List (List UInt8)) (hl : ∀ x ∈ l, x.length = 32) (s : ByteArray) (w : World)
    (hA : ∀ V, Below w.heap.size w V → Calls Tryz.prog 22 #[.pointer (some ⟨vb, 0, none⟩), .int .i64 m, .int .i64 n] V fun en w' => ∃ e a1 c1, en = .returned (.tuple #[.agg (prC K I N (.slice a1 l.length c1)), e]) ∧ Seg w' 56 32 (.slice a1 l.length c1) l.length (sumsC l) ∧ ErrIs w' e leafNm f ∧ Below V.heap.size V w')
    (hD : ∀ V, Below w.heap.size w V → Calls Tryz.prog 23 #[dvC (.slice a ln c) fl, .int .i64 m, .int .i64 n] V (DrPost V K I N l f)) :
    Calls Tryz.prog 6 #[.pointer (some ⟨vb, 0, none⟩), dvC (.slice a ln c) fl, .agg #[.int .i64 5, .int .i64 m, .int .i64 n, .string s]] w fun en w' =>
      en = .returned (.tuple #[.pointer (some ⟨vb, 0, none⟩), dvC (.slice a ln c) fl, .bool true]) ∧ Below w.heap.size w w' := by
  unfold dvC at *
  have HA := Lib.hid (show _ ∧ _ from ⟨hA, hD⟩)
  obtain ⟨q, hq⟩ : ∃ q, q = l.length := ⟨_, rfl⟩
  have HQ := Lib.hid (show _ ∧ _ from ⟨hq, hl⟩)
  rw [← hq] at HA
  clear hA hD hq hl
  go_enter Tryz.func6, Tryz.ntmps6
  go_wp2_with fail
  refine callsName (fun W hW => ?_)
  have B0 : Hid (Bx w (.slice a ln c) fl 5 m n s W) := by
    rw [← hW]
    exact Lib.hid ⟨((made_at _ _ rfl).alloc _).alloc _, (made_at _ _ (by simp)).alloc _, made_at _ _ (by simp), (((Below.refl _ _).alloc (Nat.le_refl _) _).alloc (by simp) _).alloc (by simp; omega) _⟩
  clear hW
  refine (HA.out.1 W B0.out.bel).mono ?_
  rintro en w1 ⟨e, a1, c1, rfl, s1, he, b1⟩
  have B1 : Hid (Bx w (.slice a ln c) fl 5 m n s w1) := Lib.hid (B0.out.below b1)
  have E1 := Lib.hid (show _ ∧ _ from ⟨he, s1⟩)
  have c0 := fun O => ((B1.out.below ((Below.refl _ _).alloc (Nat.le_refl _) O)).cells).1
  have c1' := fun O => ((B1.out.below ((Below.refl _ _).alloc (Nat.le_refl _) O)).cells).2.1
  have d1 := fun O => ((B1.out.below ((Below.refl _ _).alloc (Nat.le_refl _) O)).cells).2.2.1
  have d2 := fun O => ((B1.out.below ((Below.refl _ _).alloc (Nat.le_refl _) O)).cells).2.2.2.1
  have d3 := trivial
  clear b1 he B0 s1
  go_wp2_with fail
  refine callsName (fun W1 hW1 => ?_)
  have G1 : Hid (Below w1.heap.size w1 W1 ∧ Has W1 w1.heap.size 64 (prC K I N (.slice a1 q c1))) := by
    rw [← hW1]
    exact Lib.hid ⟨(Below.refl _ _).alloc (Nat.le_refl _) _, made_at _ _ rfl⟩
  clear hW1 c0 c1' d1 d2 d3
  refine (HA.out.2 W1 (B1.out.bel.trans (G1.out.1.mono B1.out.bel.size))).mono ?_
  rintro en w2 ⟨a2, c2, h0, s2, b2⟩
  rw [← HQ.out.1] at h0 s2
  subst h0
  have B2 : Hid (Bx w (.slice a ln c) fl 5 m n s w2) := Lib.hid ((B1.out.below G1.out.1).below b2)
  have P2 : Hid (Has w2 w1.heap.size 64 (prC K I N (.slice a1 q c1)) ∧ w.heap.size + 2 < w1.heap.size) := Lib.hid ⟨G1.out.2.below b2 G1.out.2.lt, B1.out.r.lt⟩
  have E2 : Hid (ErrIs w2 e leafNm f ∧ Seg w2 56 32 (.slice a1 q c1) q (sumsC l) ∧ Seg w2 9 1 (.slice a2 q c2) q (l.map fun x => Value.string (bs x))) :=
    Lib.hid ⟨(E1.out.1.below G1.out.1).below b2, (E1.out.2.below G1.out.1 (fun x hx => E1.out.2.lt hx)).below b2 (fun x hx => Nat.lt_of_lt_of_le (E1.out.2.lt hx) G1.out.1.size), s2⟩
  clear b2 E1 B1 s2 G1
  obtain ⟨c0, c1', d1, d2, d3⟩ := B2.out.cells
  go_wp2_with fail
  go_name_world W3 hW3
  have S3 : Sy w (.slice a ln c) fl w1.heap.size w2.heap.size (prC K I N (.slice a1 q c1)) (prC K I N (.slice a2 q c2)) W3.drew := by
    rw [← hW3]
    exact ⟨⟨(B2.out.x.alloc _).drew, _, _, (B2.out.r.alloc _).drew⟩, (P2.out.1.alloc _).drew, (made_at _ _ rfl).drew⟩
  have b3 : Below w2.heap.size w2 W3 := by rw [← hW3]; exact (Below.refl _ _).alloc (Nat.le_refl _) _
  have HL : Hid (w.heap.size + 2 < w1.heap.size ∧ w.heap.size + 2 < w2.heap.size ∧ Below w.heap.size w W3.drew) := Lib.hid ⟨P2.out.2, B2.out.r.lt, (B2.out.bel.trans (b3.mono B2.out.bel.size)).drew⟩
  have E3 := Lib.hid (E2.out.1.below b3)
  have HP : Hid (∀ V, Below W3.heap.size W3 V → Calls Tryz.prog 24 #[.agg (prC K I N (.slice a1 q c1)), e, .agg (prC K I N (.slice a2 q c2)), .int .i64 f] V fun en w' => en = .returned (.bool true) ∧ Below V.heap.size V w') := Lib.hid fun V hV => by
    have bV := b3.trans (hV.mono b3.size)
    have h1 := proves_calls K I N f l HQ.out.2 a1 a2 c1 c2 e V ((E2.out.1.below bV).1) (HQ.out.1 ▸ E2.out.2.1.below bV (fun x hx => E2.out.2.1.lt hx)) (HQ.out.1 ▸ E2.out.2.2.below bV (fun x hx => E2.out.2.2.lt hx))
    rw [← HQ.out.1] at h1
    exact h1
  clear hW3 b3 E2 c0 c1' d1 d2 d3 P2 B2
  refine Go.wp_region_held (P := Tryz.prog) (S := Sy w (.slice a ln c) fl w1.heap.size w2.heap.size (prC K I N (.slice a1 q c1)) (prC K I N (.slice a2 q c2))) (by kernel_rfl) ?_
  by_cases hf : f = 0
  · subst hf
    refine held_take 0 (some 179) rfl rfl (by kernel_rfl) (by kernel_rfl) (by kernel_rfl) (fun _ _ _ h => h) (.inl ⟨by kernel_rfl, fun _ _ => rfl⟩) S3 ?_
    simp only [Act.put, List.setIfInBounds_toArray, List.set_cons_zero, List.set_cons_succ]
    refine held_take 1 (some 180) (v := .agg #[.slice a ln c, .int .i64 fl]) rfl rfl (by kernel_rfl) (by kernel_rfl) (by kernel_rfl) (fun _ _ _ h => h) (.inl ⟨by kernel_rfl, fun V hV => by have c0 := hV.1.1.cell 0; have c1 := hV.1.1.cell 1; simp at c0 c1; go_simp⟩) S3 ?_
    simp only [Act.put, List.setIfInBounds_toArray, List.set_cons_zero, List.set_cons_succ]
    refine held_take 2 (some 181) (v := .agg (prC K I N (.slice a1 q c1))) rfl rfl (by kernel_rfl) (by kernel_rfl) (by kernel_rfl) (fun _ _ _ h => h) (.inl ⟨by kernel_rfl, fun V hV => by have p0 := hV.2.1.cell 0; have p1 := hV.2.1.cell 1; have p2 := hV.2.1.cell 2; have p3 := hV.2.1.cell 3; simp [prC] at p0 p1 p2 p3; go_simp; first | done | rfl⟩) S3 ?_
    simp only [Act.put, List.setIfInBounds_toArray, List.set_cons_zero, List.set_cons_succ]
    refine held_take 3 (some 182) rfl rfl (by kernel_rfl) (by kernel_rfl) (by kernel_rfl) (fun _ _ _ h => h) (.inl ⟨by kernel_rfl, fun _ _ => rfl⟩) S3 ?_
    simp only [Act.put, List.setIfInBounds_toArray, List.set_cons_zero, List.set_cons_succ]
    refine held_take 4 (some 183) (v := .agg (prC K I N (.slice a2 q c2))) rfl rfl (by kernel_rfl) (by kernel_rfl) (by kernel_rfl) (fun _ _ _ h => h) (.inl ⟨by kernel_rfl, fun V hV => by have p0 := hV.2.2.cell 0; have p1 := hV.2.2.cell 1; have p2 := hV.2.2.cell 2; have p3 := hV.2.2.cell 3; simp [prC] at p0 p1 p2 p3; go_simp; first | done | rfl⟩) S3 ?_
    simp only [Act.put, List.setIfInBounds_toArray, List.set_cons_zero, List.set_cons_succ]
    refine held_take 5 (some 184) rfl rfl (by kernel_rfl) (by kernel_rfl) (by kernel_rfl) (fun _ _ _ h => h) (.inl ⟨by kernel_rfl, fun _ _ => rfl⟩) S3 ?_
    simp only [Act.put, List.setIfInBounds_toArray, List.set_cons_zero, List.set_cons_succ]
    refine held_one (i := 6) (by kernel_rfl) ?_
    refine wpOp_call (some 185) rfl rfl (by kernel_rfl) 24 Tryz.f24 Tryz.func24 (by kernel_rfl) (by kernel_rfl) _ _ rfl #[.agg (prC K I N (.slice a1 q c1)), e, .agg (prC K I N (.slice a2 q c2)), .int .i64 0] (by first | (simp [Act.eval]; done) | (simp [Act.eval, Act.put]; done)) (HP.out _ (Below.refl _ _).drew) ?_
    rintro en w5 ⟨rfl, b5⟩
    have S5 := S3.below b5
    refine ⟨_, rfl, S5, ?_⟩
    simp only [Act.put, List.setIfInBounds_toArray, List.set_cons_zero, List.set_cons_succ]
    refine held_take 7 (some 186) rfl rfl (by kernel_rfl) (by kernel_rfl) (by kernel_rfl) (fun _ _ _ h => h) (.inl ⟨by kernel_rfl, fun _ _ => rfl⟩) S5 ?_
    simp only [Act.put, List.setIfInBounds_toArray, List.set_cons_zero, List.set_cons_succ]
    refine held_take 8 (some 187) rfl rfl (by kernel_rfl) (by kernel_rfl) (by kernel_rfl) (fun _ _ _ h => h) (.inl ⟨by kernel_rfl, fun _ _ => rfl⟩) S5 ?_
    simp only [Act.put, List.setIfInBounds_toArray, List.set_cons_zero, List.set_cons_succ]
    refine held_take 9 (some 188) (v := .bool true) rfl rfl (by kernel_rfl) (by kernel_rfl) (by kernel_rfl) (fun _ _ _ h => h) (.inl ⟨by kernel_rfl, fun V hV => by go_simp⟩) S5 ?_
    simp only [Act.put, List.setIfInBounds_toArray, List.set_cons_zero, List.set_cons_succ]
    refine held_take 10 (some 189) rfl rfl (by kernel_rfl) (by kernel_rfl) (by kernel_rfl) (fun _ _ _ h => h) (.inl ⟨by kernel_rfl, fun _ _ => rfl⟩) S5 ?_
    simp only [Act.put, List.setIfInBounds_toArray, List.set_cons_zero, List.set_cons_succ]
    refine held_take 11 (some 190) (v := undef) rfl rfl (by kernel_rfl) (by kernel_rfl) (by kernel_rfl) (fun _ _ _ h => h) (.inr ⟨by kernel_rfl, rfl⟩) S5 ?_
    simp only [Act.put, List.setIfInBounds_toArray, List.set_cons_zero, List.set_cons_succ]
    refine held_take 12 (some 191) (v := undef) rfl rfl (by kernel_rfl) (by kernel_rfl) (by kernel_rfl) (fun _ _ _ h => h) (.inr ⟨by kernel_rfl, rfl⟩) S5 ?_
    simp only [Act.put, List.setIfInBounds_toArray, List.set_cons_zero, List.set_cons_succ]
    refine held_take 13 (some 192) (v := .bool true) rfl rfl (by kernel_rfl) (by kernel_rfl) (by kernel_rfl) (fun _ _ _ h => h) (.inl ⟨by kernel_rfl, fun V hV => by go_simp⟩) S5 ?_
    simp only [Act.put, List.setIfInBounds_toArray, List.set_cons_zero, List.set_cons_succ]
    refine held_take 14 (some 193) (v := .bool true) rfl rfl (by kernel_rfl) (by kernel_rfl) (by kernel_rfl) (fun _ _ _ h => h) (.inl ⟨by kernel_rfl, fun V hV => by go_simp⟩) S5 ?_
    simp only [Act.put, List.setIfInBounds_toArray, List.set_cons_zero, List.set_cons_succ]
    refine held_take 15 (some 6) rfl rfl (by kernel_rfl) (by kernel_rfl) (by kernel_rfl) (fun _ _ _ h => h) (.inl ⟨by kernel_rfl, fun _ _ => rfl⟩) S5 ?_
    simp only [Act.put, List.setIfInBounds_toArray, List.set_cons_zero, List.set_cons_succ]
    obtain ⟨x7, y7, R7⟩ := S5.1.2
    refine held_one (i := 16) (by kernel_rfl) ?_
    refine wpOp_wp (o := ⟨none, _, _, _, _, _⟩) rfl (by kernel_rfl) ?_
    refine wp_store_row 28 (.tmp 7) (.tmp 180) rfl (w.heap.size + 2) #[.slice a ln c, .int .i64 fl] (by first | rfl | simp [Act.eval]) (by first | rfl | simp [Act.eval]) 28 _ R7 (by kernel_rfl) rfl (by simp [Value.oneCell']) ?_
    have S9 := S5.stored (.slice a ln c) (.int .i64 fl) HL.out.1 HL.out.2.1
    refine ⟨S9, ?_⟩
    simp only [Act.put]
    refine held_take 17 (some 8) rfl rfl (by kernel_rfl) (by kernel_rfl) (by kernel_rfl) (fun _ _ _ h => h) (.inl ⟨by kernel_rfl, fun _ _ => rfl⟩) S9 ?_
    simp only [Act.put, List.setIfInBounds_toArray, List.set_cons_zero, List.set_cons_succ]
    refine wpAnyH_done (by kernel_rfl) ?_ _
    go_wp2_with fail
    exact bodyPost_ret (v := .tuple #[.pointer (some ⟨vb, 0, none⟩), .agg #[.slice a ln c, .int .i64 fl], .bool true]) (res_does rfl _ _ (w.heap.size + 2) _ _ _ rfl rfl rfl (R7.row _) (by kernel_rfl)) rfl ⟨rfl, (HL.out.2.2.trans (b5.mono HL.out.2.2.size)).trans ((turn_row _ (w.heap.size + 2) _).below (HL.out.2.2.trans (b5.mono HL.out.2.2.size)).size (fun j hj e => by omega))⟩
  · skip
    refine held_take 0 (some 179) rfl rfl (by kernel_rfl) (by kernel_rfl) (by kernel_rfl) (fun _ _ _ h => h) (.inl ⟨by kernel_rfl, fun _ _ => rfl⟩) S3 ?_
    simp only [Act.put, List.setIfInBounds_toArray, List.set_cons_zero, List.set_cons_succ]
    refine held_take 1 (some 180) (v := .agg #[.slice a ln c, .int .i64 fl]) rfl rfl (by kernel_rfl) (by kernel_rfl) (by kernel_rfl) (fun _ _ _ h => h) (.inl ⟨by kernel_rfl, fun V hV => by have c0 := hV.1.1.cell 0; have c1 := hV.1.1.cell 1; simp at c0 c1; go_simp⟩) S3 ?_
    simp only [Act.put, List.setIfInBounds_toArray, List.set_cons_zero, List.set_cons_succ]
    refine held_take 2 (some 181) (v := .agg (prC K I N (.slice a1 q c1))) rfl rfl (by kernel_rfl) (by kernel_rfl) (by kernel_rfl) (fun _ _ _ h => h) (.inl ⟨by kernel_rfl, fun V hV => by have p0 := hV.2.1.cell 0; have p1 := hV.2.1.cell 1; have p2 := hV.2.1.cell 2; have p3 := hV.2.1.cell 3; simp [prC] at p0 p1 p2 p3; go_simp; first | done | rfl⟩) S3 ?_
    simp only [Act.put, List.setIfInBounds_toArray, List.set_cons_zero, List.set_cons_succ]
    refine held_take 3 (some 182) rfl rfl (by kernel_rfl) (by kernel_rfl) (by kernel_rfl) (fun _ _ _ h => h) (.inl ⟨by kernel_rfl, fun _ _ => rfl⟩) S3 ?_
    simp only [Act.put, List.setIfInBounds_toArray, List.set_cons_zero, List.set_cons_succ]
    refine held_take 4 (some 183) (v := .agg (prC K I N (.slice a2 q c2))) rfl rfl (by kernel_rfl) (by kernel_rfl) (by kernel_rfl) (fun _ _ _ h => h) (.inl ⟨by kernel_rfl, fun V hV => by have p0 := hV.2.2.cell 0; have p1 := hV.2.2.cell 1; have p2 := hV.2.2.cell 2; have p3 := hV.2.2.cell 3; simp [prC] at p0 p1 p2 p3; go_simp; first | done | rfl⟩) S3 ?_
    simp only [Act.put, List.setIfInBounds_toArray, List.set_cons_zero, List.set_cons_succ]
    refine held_take 5 (some 184) rfl rfl (by kernel_rfl) (by kernel_rfl) (by kernel_rfl) (fun _ _ _ h => h) (.inl ⟨by kernel_rfl, fun _ _ => rfl⟩) S3 ?_
    simp only [Act.put, List.setIfInBounds_toArray, List.set_cons_zero, List.set_cons_succ]
    refine held_one (i := 6) (by kernel_rfl) ?_
    refine wpOp_call (some 185) rfl rfl (by kernel_rfl) 24 Tryz.f24 Tryz.func24 (by kernel_rfl) (by kernel_rfl) _ _ rfl #[.agg (prC K I N (.slice a1 q c1)), e, .agg (prC K I N (.slice a2 q c2)), .int .i64 f] (by first | (simp [Act.eval]; done) | (simp [Act.eval, Act.put]; done)) (HP.out _ (Below.refl _ _).drew) ?_
    rintro en w5 ⟨rfl, b5⟩
    have S5 := S3.below b5
    refine ⟨_, rfl, S5, ?_⟩
    simp only [Act.put, List.setIfInBounds_toArray, List.set_cons_zero, List.set_cons_succ]
    refine held_take 7 (some 186) rfl rfl (by kernel_rfl) (by kernel_rfl) (by kernel_rfl) (fun _ _ _ h => h) (.inl ⟨by kernel_rfl, fun _ _ => rfl⟩) S5 ?_
    simp only [Act.put, List.setIfInBounds_toArray, List.set_cons_zero, List.set_cons_succ]
    refine held_take 8 (some 187) rfl rfl (by kernel_rfl) (by kernel_rfl) (by kernel_rfl) (fun _ _ _ h => h) (.inl ⟨by kernel_rfl, fun _ _ => rfl⟩) S5 ?_
    simp only [Act.put, List.setIfInBounds_toArray, List.set_cons_zero, List.set_cons_succ]
    refine held_take 9 (some 188) (v := .bool false) rfl rfl (by kernel_rfl) (by kernel_rfl) (by kernel_rfl) (fun _ _ _ h => h) (.inl ⟨by kernel_rfl, fun V hV => by go_simp⟩) S5 ?_
    simp only [Act.put, List.setIfInBounds_toArray, List.set_cons_zero, List.set_cons_succ]
    refine held_take 10 (some 189) rfl rfl (by kernel_rfl) (by kernel_rfl) (by kernel_rfl) (fun _ _ _ h => h) (.inl ⟨by kernel_rfl, fun _ _ => rfl⟩) S5 ?_
    simp only [Act.put, List.setIfInBounds_toArray, List.set_cons_zero, List.set_cons_succ]
    refine held_take 11 (some 190) rfl rfl (by kernel_rfl) (by kernel_rfl) (by kernel_rfl) (fun _ _ _ h => h) (.inl ⟨by kernel_rfl, fun _ _ => rfl⟩) S5 ?_
    simp only [Act.put, List.setIfInBounds_toArray, List.set_cons_zero, List.set_cons_succ]
    refine held_one (i := 12) (by kernel_rfl) ?_
    refine wpOp_call (some 191) rfl rfl (by kernel_rfl) 18 Tryz.f18 Tryz.func18 (by kernel_rfl) (by kernel_rfl) _ _ rfl #[e, .string leafNm] (by first | (simp [Act.eval, leafNm]; done) | (simp [Act.eval, Act.put]; done)) (E3.out.2 hf _ (((Below.refl _ _).drew).trans b5)) ?_
    rintro en w6 ⟨rfl, b6⟩
    have S6 := S5.below b6
    refine ⟨_, rfl, S6, ?_⟩
    simp only [Act.put, List.setIfInBounds_toArray, List.set_cons_zero, List.set_cons_succ]
    refine held_take 13 (some 192) (v := .bool true) rfl rfl (by kernel_rfl) (by kernel_rfl) (by kernel_rfl) (fun _ _ _ h => h) (.inl ⟨by kernel_rfl, fun V hV => by go_simp⟩) S6 ?_
    simp only [Act.put, List.setIfInBounds_toArray, List.set_cons_zero, List.set_cons_succ]
    refine held_take 14 (some 193) (v := .bool true) rfl rfl (by kernel_rfl) (by kernel_rfl) (by kernel_rfl) (fun _ _ _ h => h) (.inl ⟨by kernel_rfl, fun V hV => by go_simp⟩) S6 ?_
    simp only [Act.put, List.setIfInBounds_toArray, List.set_cons_zero, List.set_cons_succ]
    refine held_take 15 (some 6) rfl rfl (by kernel_rfl) (by kernel_rfl) (by kernel_rfl) (fun _ _ _ h => h) (.inl ⟨by kernel_rfl, fun _ _ => rfl⟩) S6 ?_
    simp only [Act.put, List.setIfInBounds_toArray, List.set_cons_zero, List.set_cons_succ]
    obtain ⟨x7, y7, R7⟩ := S6.1.2
    refine held_one (i := 16) (by kernel_rfl) ?_
    refine wpOp_wp (o := ⟨none, _, _, _, _, _⟩) rfl (by kernel_rfl) ?_
    refine wp_store_row 28 (.tmp 7) (.tmp 180) rfl (w.heap.size + 2) #[.slice a ln c, .int .i64 fl] (by first | rfl | simp [Act.eval]) (by first | rfl | simp [Act.eval]) 28 _ R7 (by kernel_rfl) rfl (by simp [Value.oneCell']) ?_
    have S9 := S6.stored (.slice a ln c) (.int .i64 fl) HL.out.1 HL.out.2.1
    refine ⟨S9, ?_⟩
    simp only [Act.put]
    refine held_take 17 (some 8) rfl rfl (by kernel_rfl) (by kernel_rfl) (by kernel_rfl) (fun _ _ _ h => h) (.inl ⟨by kernel_rfl, fun _ _ => rfl⟩) S9 ?_
    simp only [Act.put, List.setIfInBounds_toArray, List.set_cons_zero, List.set_cons_succ]
    refine wpAnyH_done (by kernel_rfl) ?_ _
    go_wp2_with fail
    exact bodyPost_ret (v := .tuple #[.pointer (some ⟨vb, 0, none⟩), .agg #[.slice a ln c, .int .i64 fl], .bool true]) (res_does rfl _ _ (w.heap.size + 2) _ _ _ rfl rfl rfl (R7.row _) (by kernel_rfl)) rfl ⟨rfl, ((HL.out.2.2.trans (b5.mono HL.out.2.2.size)).trans (b6.mono (HL.out.2.2.trans (b5.mono HL.out.2.2.size)).size)).trans ((turn_row _ (w.heap.size + 2) _).below ((HL.out.2.2.trans (b5.mono HL.out.2.2.size)).trans (b6.mono (HL.out.2.2.trans (b5.mono HL.out.2.2.size)).size)).size (fun j hj e => by omega))⟩

set_option maxRecDepth 100000 in
set_option maxHeartbeats 4000000 in
theorem does_prefix (vb : Nat) (a : Option Addr) (ln c : Nat) (fl m n f K I N : Int) (l : List (List UInt8)) (hl : ∀ x ∈ l, x.length = 32) (s : ByteArray) (w : World)
    (hA : ∀ V, Below w.heap.size w V → Calls Tryz.prog 25 #[.pointer (some ⟨vb, 0, none⟩), .int .i64 m, .int .i64 n] V fun en w' => ∃ e a1 c1, en = .returned (.tuple #[.agg (prC K I N (.slice a1 l.length c1)), e]) ∧ Seg w' 56 32 (.slice a1 l.length c1) l.length (sumsC l) ∧ ErrIs w' e prefixNm f ∧ Below V.heap.size V w')
    (hD : ∀ V, Below w.heap.size w V → Calls Tryz.prog 26 #[dvC (.slice a ln c) fl, .int .i64 m, .int .i64 n] V (DrPost V K I N l f)) :
    Calls Tryz.prog 6 #[.pointer (some ⟨vb, 0, none⟩), dvC (.slice a ln c) fl, .agg #[.int .i64 6, .int .i64 m, .int .i64 n, .string s]] w fun en w' =>
      en = .returned (.tuple #[.pointer (some ⟨vb, 0, none⟩), dvC (.slice a ln c) fl, .bool true]) ∧ Below w.heap.size w w' := by
  unfold dvC at *
  have HA := Lib.hid (show _ ∧ _ from ⟨hA, hD⟩)
  obtain ⟨q, hq⟩ : ∃ q, q = l.length := ⟨_, rfl⟩
  have HQ := Lib.hid (show _ ∧ _ from ⟨hq, hl⟩)
  rw [← hq] at HA
  clear hA hD hq hl
  go_enter Tryz.func6, Tryz.ntmps6
  go_wp2_with fail
  refine callsName (fun W hW => ?_)
  have B0 : Hid (Bx w (.slice a ln c) fl 6 m n s W) := by
    rw [← hW]
    exact Lib.hid ⟨((made_at _ _ rfl).alloc _).alloc _, (made_at _ _ (by simp)).alloc _, made_at _ _ (by simp), (((Below.refl _ _).alloc (Nat.le_refl _) _).alloc (by simp) _).alloc (by simp; omega) _⟩
  clear hW
  refine (HA.out.1 W B0.out.bel).mono ?_
  rintro en w1 ⟨e, a1, c1, rfl, s1, he, b1⟩
  have B1 : Hid (Bx w (.slice a ln c) fl 6 m n s w1) := Lib.hid (B0.out.below b1)
  have E1 := Lib.hid (show _ ∧ _ from ⟨he, s1⟩)
  have c0 := fun O => ((B1.out.below ((Below.refl _ _).alloc (Nat.le_refl _) O)).cells).1
  have c1' := fun O => ((B1.out.below ((Below.refl _ _).alloc (Nat.le_refl _) O)).cells).2.1
  have d1 := fun O => ((B1.out.below ((Below.refl _ _).alloc (Nat.le_refl _) O)).cells).2.2.1
  have d2 := fun O => ((B1.out.below ((Below.refl _ _).alloc (Nat.le_refl _) O)).cells).2.2.2.1
  have d3 := trivial
  clear b1 he B0 s1
  go_wp2_with fail
  refine callsName (fun W1 hW1 => ?_)
  have G1 : Hid (Below w1.heap.size w1 W1 ∧ Has W1 w1.heap.size 64 (prC K I N (.slice a1 q c1))) := by
    rw [← hW1]
    exact Lib.hid ⟨(Below.refl _ _).alloc (Nat.le_refl _) _, made_at _ _ rfl⟩
  clear hW1 c0 c1' d1 d2 d3
  refine (HA.out.2 W1 (B1.out.bel.trans (G1.out.1.mono B1.out.bel.size))).mono ?_
  rintro en w2 ⟨a2, c2, h0, s2, b2⟩
  rw [← HQ.out.1] at h0 s2
  subst h0
  have B2 : Hid (Bx w (.slice a ln c) fl 6 m n s w2) := Lib.hid ((B1.out.below G1.out.1).below b2)
  have P2 : Hid (Has w2 w1.heap.size 64 (prC K I N (.slice a1 q c1)) ∧ w.heap.size + 2 < w1.heap.size) := Lib.hid ⟨G1.out.2.below b2 G1.out.2.lt, B1.out.r.lt⟩
  have E2 : Hid (ErrIs w2 e prefixNm f ∧ Seg w2 56 32 (.slice a1 q c1) q (sumsC l) ∧ Seg w2 9 1 (.slice a2 q c2) q (l.map fun x => Value.string (bs x))) :=
    Lib.hid ⟨(E1.out.1.below G1.out.1).below b2, (E1.out.2.below G1.out.1 (fun x hx => E1.out.2.lt hx)).below b2 (fun x hx => Nat.lt_of_lt_of_le (E1.out.2.lt hx) G1.out.1.size), s2⟩
  clear b2 E1 B1 s2 G1
  obtain ⟨c0, c1', d1, d2, d3⟩ := B2.out.cells
  go_wp2_with fail
  go_name_world W3 hW3
  have S3 : Sy w (.slice a ln c) fl w1.heap.size w2.heap.size (prC K I N (.slice a1 q c1)) (prC K I N (.slice a2 q c2)) W3.drew := by
    rw [← hW3]
    exact ⟨⟨(B2.out.x.alloc _).drew, _, _, (B2.out.r.alloc _).drew⟩, (P2.out.1.alloc _).drew, (made_at _ _ rfl).drew⟩
  have b3 : Below w2.heap.size w2 W3 := by rw [← hW3]; exact (Below.refl _ _).alloc (Nat.le_refl _) _
  have HL : Hid (w.heap.size + 2 < w1.heap.size ∧ w.heap.size + 2 < w2.heap.size ∧ Below w.heap.size w W3.drew) := Lib.hid ⟨P2.out.2, B2.out.r.lt, (B2.out.bel.trans (b3.mono B2.out.bel.size)).drew⟩
  have E3 := Lib.hid (E2.out.1.below b3)
  have HP : Hid (∀ V, Below W3.heap.size W3 V → Calls Tryz.prog 24 #[.agg (prC K I N (.slice a1 q c1)), e, .agg (prC K I N (.slice a2 q c2)), .int .i64 f] V fun en w' => en = .returned (.bool true) ∧ Below V.heap.size V w') := Lib.hid fun V hV => by
    have bV := b3.trans (hV.mono b3.size)
    have h1 := proves_calls K I N f l HQ.out.2 a1 a2 c1 c2 e V ((E2.out.1.below bV).1) (HQ.out.1 ▸ E2.out.2.1.below bV (fun x hx => E2.out.2.1.lt hx)) (HQ.out.1 ▸ E2.out.2.2.below bV (fun x hx => E2.out.2.2.lt hx))
    rw [← HQ.out.1] at h1
    exact h1
  clear hW3 b3 E2 c0 c1' d1 d2 d3 P2 B2
  refine Go.wp_region_held (P := Tryz.prog) (S := Sy w (.slice a ln c) fl w1.heap.size w2.heap.size (prC K I N (.slice a1 q c1)) (prC K I N (.slice a2 q c2))) (by kernel_rfl) ?_
  by_cases hf : f = 0
  · subst hf
    refine held_take 0 (some 214) rfl rfl (by kernel_rfl) (by kernel_rfl) (by kernel_rfl) (fun _ _ _ h => h) (.inl ⟨by kernel_rfl, fun _ _ => rfl⟩) S3 ?_
    simp only [Act.put, List.setIfInBounds_toArray, List.set_cons_zero, List.set_cons_succ]
    refine held_take 1 (some 215) (v := .agg #[.slice a ln c, .int .i64 fl]) rfl rfl (by kernel_rfl) (by kernel_rfl) (by kernel_rfl) (fun _ _ _ h => h) (.inl ⟨by kernel_rfl, fun V hV => by have c0 := hV.1.1.cell 0; have c1 := hV.1.1.cell 1; simp at c0 c1; go_simp⟩) S3 ?_
    simp only [Act.put, List.setIfInBounds_toArray, List.set_cons_zero, List.set_cons_succ]
    refine held_take 2 (some 216) (v := .agg (prC K I N (.slice a1 q c1))) rfl rfl (by kernel_rfl) (by kernel_rfl) (by kernel_rfl) (fun _ _ _ h => h) (.inl ⟨by kernel_rfl, fun V hV => by have p0 := hV.2.1.cell 0; have p1 := hV.2.1.cell 1; have p2 := hV.2.1.cell 2; have p3 := hV.2.1.cell 3; simp [prC] at p0 p1 p2 p3; go_simp; first | done | rfl⟩) S3 ?_
    simp only [Act.put, List.setIfInBounds_toArray, List.set_cons_zero, List.set_cons_succ]
    refine held_take 3 (some 217) rfl rfl (by kernel_rfl) (by kernel_rfl) (by kernel_rfl) (fun _ _ _ h => h) (.inl ⟨by kernel_rfl, fun _ _ => rfl⟩) S3 ?_
    simp only [Act.put, List.setIfInBounds_toArray, List.set_cons_zero, List.set_cons_succ]
    refine held_take 4 (some 218) (v := .agg (prC K I N (.slice a2 q c2))) rfl rfl (by kernel_rfl) (by kernel_rfl) (by kernel_rfl) (fun _ _ _ h => h) (.inl ⟨by kernel_rfl, fun V hV => by have p0 := hV.2.2.cell 0; have p1 := hV.2.2.cell 1; have p2 := hV.2.2.cell 2; have p3 := hV.2.2.cell 3; simp [prC] at p0 p1 p2 p3; go_simp; first | done | rfl⟩) S3 ?_
    simp only [Act.put, List.setIfInBounds_toArray, List.set_cons_zero, List.set_cons_succ]
    refine held_take 5 (some 219) rfl rfl (by kernel_rfl) (by kernel_rfl) (by kernel_rfl) (fun _ _ _ h => h) (.inl ⟨by kernel_rfl, fun _ _ => rfl⟩) S3 ?_
    simp only [Act.put, List.setIfInBounds_toArray, List.set_cons_zero, List.set_cons_succ]
    refine held_one (i := 6) (by kernel_rfl) ?_
    refine wpOp_call (some 220) rfl rfl (by kernel_rfl) 24 Tryz.f24 Tryz.func24 (by kernel_rfl) (by kernel_rfl) _ _ rfl #[.agg (prC K I N (.slice a1 q c1)), e, .agg (prC K I N (.slice a2 q c2)), .int .i64 0] (by first | (simp [Act.eval]; done) | (simp [Act.eval, Act.put]; done)) (HP.out _ (Below.refl _ _).drew) ?_
    rintro en w5 ⟨rfl, b5⟩
    have S5 := S3.below b5
    refine ⟨_, rfl, S5, ?_⟩
    simp only [Act.put, List.setIfInBounds_toArray, List.set_cons_zero, List.set_cons_succ]
    refine held_take 7 (some 221) rfl rfl (by kernel_rfl) (by kernel_rfl) (by kernel_rfl) (fun _ _ _ h => h) (.inl ⟨by kernel_rfl, fun _ _ => rfl⟩) S5 ?_
    simp only [Act.put, List.setIfInBounds_toArray, List.set_cons_zero, List.set_cons_succ]
    refine held_take 8 (some 222) rfl rfl (by kernel_rfl) (by kernel_rfl) (by kernel_rfl) (fun _ _ _ h => h) (.inl ⟨by kernel_rfl, fun _ _ => rfl⟩) S5 ?_
    simp only [Act.put, List.setIfInBounds_toArray, List.set_cons_zero, List.set_cons_succ]
    refine held_take 9 (some 223) (v := .bool true) rfl rfl (by kernel_rfl) (by kernel_rfl) (by kernel_rfl) (fun _ _ _ h => h) (.inl ⟨by kernel_rfl, fun V hV => by go_simp⟩) S5 ?_
    simp only [Act.put, List.setIfInBounds_toArray, List.set_cons_zero, List.set_cons_succ]
    refine held_take 10 (some 224) rfl rfl (by kernel_rfl) (by kernel_rfl) (by kernel_rfl) (fun _ _ _ h => h) (.inl ⟨by kernel_rfl, fun _ _ => rfl⟩) S5 ?_
    simp only [Act.put, List.setIfInBounds_toArray, List.set_cons_zero, List.set_cons_succ]
    refine held_take 11 (some 225) (v := undef) rfl rfl (by kernel_rfl) (by kernel_rfl) (by kernel_rfl) (fun _ _ _ h => h) (.inr ⟨by kernel_rfl, rfl⟩) S5 ?_
    simp only [Act.put, List.setIfInBounds_toArray, List.set_cons_zero, List.set_cons_succ]
    refine held_take 12 (some 226) (v := undef) rfl rfl (by kernel_rfl) (by kernel_rfl) (by kernel_rfl) (fun _ _ _ h => h) (.inr ⟨by kernel_rfl, rfl⟩) S5 ?_
    simp only [Act.put, List.setIfInBounds_toArray, List.set_cons_zero, List.set_cons_succ]
    refine held_take 13 (some 227) (v := .bool true) rfl rfl (by kernel_rfl) (by kernel_rfl) (by kernel_rfl) (fun _ _ _ h => h) (.inl ⟨by kernel_rfl, fun V hV => by go_simp⟩) S5 ?_
    simp only [Act.put, List.setIfInBounds_toArray, List.set_cons_zero, List.set_cons_succ]
    refine held_take 14 (some 228) (v := .bool true) rfl rfl (by kernel_rfl) (by kernel_rfl) (by kernel_rfl) (fun _ _ _ h => h) (.inl ⟨by kernel_rfl, fun V hV => by go_simp⟩) S5 ?_
    simp only [Act.put, List.setIfInBounds_toArray, List.set_cons_zero, List.set_cons_succ]
    refine held_take 15 (some 6) rfl rfl (by kernel_rfl) (by kernel_rfl) (by kernel_rfl) (fun _ _ _ h => h) (.inl ⟨by kernel_rfl, fun _ _ => rfl⟩) S5 ?_
    simp only [Act.put, List.setIfInBounds_toArray, List.set_cons_zero, List.set_cons_succ]
    obtain ⟨x7, y7, R7⟩ := S5.1.2
    refine held_one (i := 16) (by kernel_rfl) ?_
    refine wpOp_wp (o := ⟨none, _, _, _, _, _⟩) rfl (by kernel_rfl) ?_
    refine wp_store_row 28 (.tmp 7) (.tmp 215) rfl (w.heap.size + 2) #[.slice a ln c, .int .i64 fl] (by first | rfl | simp [Act.eval]) (by first | rfl | simp [Act.eval]) 28 _ R7 (by kernel_rfl) rfl (by simp [Value.oneCell']) ?_
    have S9 := S5.stored (.slice a ln c) (.int .i64 fl) HL.out.1 HL.out.2.1
    refine ⟨S9, ?_⟩
    simp only [Act.put]
    refine held_take 17 (some 8) rfl rfl (by kernel_rfl) (by kernel_rfl) (by kernel_rfl) (fun _ _ _ h => h) (.inl ⟨by kernel_rfl, fun _ _ => rfl⟩) S9 ?_
    simp only [Act.put, List.setIfInBounds_toArray, List.set_cons_zero, List.set_cons_succ]
    refine wpAnyH_done (by kernel_rfl) ?_ _
    go_wp2_with fail
    exact bodyPost_ret (v := .tuple #[.pointer (some ⟨vb, 0, none⟩), .agg #[.slice a ln c, .int .i64 fl], .bool true]) (res_does rfl _ _ (w.heap.size + 2) _ _ _ rfl rfl rfl (R7.row _) (by kernel_rfl)) rfl ⟨rfl, (HL.out.2.2.trans (b5.mono HL.out.2.2.size)).trans ((turn_row _ (w.heap.size + 2) _).below (HL.out.2.2.trans (b5.mono HL.out.2.2.size)).size (fun j hj e => by omega))⟩
  · skip
    refine held_take 0 (some 214) rfl rfl (by kernel_rfl) (by kernel_rfl) (by kernel_rfl) (fun _ _ _ h => h) (.inl ⟨by kernel_rfl, fun _ _ => rfl⟩) S3 ?_
    simp only [Act.put, List.setIfInBounds_toArray, List.set_cons_zero, List.set_cons_succ]
    refine held_take 1 (some 215) (v := .agg #[.slice a ln c, .int .i64 fl]) rfl rfl (by kernel_rfl) (by kernel_rfl) (by kernel_rfl) (fun _ _ _ h => h) (.inl ⟨by kernel_rfl, fun V hV => by have c0 := hV.1.1.cell 0; have c1 := hV.1.1.cell 1; simp at c0 c1; go_simp⟩) S3 ?_
    simp only [Act.put, List.setIfInBounds_toArray, List.set_cons_zero, List.set_cons_succ]
    refine held_take 2 (some 216) (v := .agg (prC K I N (.slice a1 q c1))) rfl rfl (by kernel_rfl) (by kernel_rfl) (by kernel_rfl) (fun _ _ _ h => h) (.inl ⟨by kernel_rfl, fun V hV => by have p0 := hV.2.1.cell 0; have p1 := hV.2.1.cell 1; have p2 := hV.2.1.cell 2; have p3 := hV.2.1.cell 3; simp [prC] at p0 p1 p2 p3; go_simp; first | done | rfl⟩) S3 ?_
    simp only [Act.put, List.setIfInBounds_toArray, List.set_cons_zero, List.set_cons_succ]
    refine held_take 3 (some 217) rfl rfl (by kernel_rfl) (by kernel_rfl) (by kernel_rfl) (fun _ _ _ h => h) (.inl ⟨by kernel_rfl, fun _ _ => rfl⟩) S3 ?_
    simp only [Act.put, List.setIfInBounds_toArray, List.set_cons_zero, List.set_cons_succ]
    refine held_take 4 (some 218) (v := .agg (prC K I N (.slice a2 q c2))) rfl rfl (by kernel_rfl) (by kernel_rfl) (by kernel_rfl) (fun _ _ _ h => h) (.inl ⟨by kernel_rfl, fun V hV => by have p0 := hV.2.2.cell 0; have p1 := hV.2.2.cell 1; have p2 := hV.2.2.cell 2; have p3 := hV.2.2.cell 3; simp [prC] at p0 p1 p2 p3; go_simp; first | done | rfl⟩) S3 ?_
    simp only [Act.put, List.setIfInBounds_toArray, List.set_cons_zero, List.set_cons_succ]
    refine held_take 5 (some 219) rfl rfl (by kernel_rfl) (by kernel_rfl) (by kernel_rfl) (fun _ _ _ h => h) (.inl ⟨by kernel_rfl, fun _ _ => rfl⟩) S3 ?_
    simp only [Act.put, List.setIfInBounds_toArray, List.set_cons_zero, List.set_cons_succ]
    refine held_one (i := 6) (by kernel_rfl) ?_
    refine wpOp_call (some 220) rfl rfl (by kernel_rfl) 24 Tryz.f24 Tryz.func24 (by kernel_rfl) (by kernel_rfl) _ _ rfl #[.agg (prC K I N (.slice a1 q c1)), e, .agg (prC K I N (.slice a2 q c2)), .int .i64 f] (by first | (simp [Act.eval]; done) | (simp [Act.eval, Act.put]; done)) (HP.out _ (Below.refl _ _).drew) ?_
    rintro en w5 ⟨rfl, b5⟩
    have S5 := S3.below b5
    refine ⟨_, rfl, S5, ?_⟩
    simp only [Act.put, List.setIfInBounds_toArray, List.set_cons_zero, List.set_cons_succ]
    refine held_take 7 (some 221) rfl rfl (by kernel_rfl) (by kernel_rfl) (by kernel_rfl) (fun _ _ _ h => h) (.inl ⟨by kernel_rfl, fun _ _ => rfl⟩) S5 ?_
    simp only [Act.put, List.setIfInBounds_toArray, List.set_cons_zero, List.set_cons_succ]
    refine held_take 8 (some 222) rfl rfl (by kernel_rfl) (by kernel_rfl) (by kernel_rfl) (fun _ _ _ h => h) (.inl ⟨by kernel_rfl, fun _ _ => rfl⟩) S5 ?_
    simp only [Act.put, List.setIfInBounds_toArray, List.set_cons_zero, List.set_cons_succ]
    refine held_take 9 (some 223) (v := .bool false) rfl rfl (by kernel_rfl) (by kernel_rfl) (by kernel_rfl) (fun _ _ _ h => h) (.inl ⟨by kernel_rfl, fun V hV => by go_simp⟩) S5 ?_
    simp only [Act.put, List.setIfInBounds_toArray, List.set_cons_zero, List.set_cons_succ]
    refine held_take 10 (some 224) rfl rfl (by kernel_rfl) (by kernel_rfl) (by kernel_rfl) (fun _ _ _ h => h) (.inl ⟨by kernel_rfl, fun _ _ => rfl⟩) S5 ?_
    simp only [Act.put, List.setIfInBounds_toArray, List.set_cons_zero, List.set_cons_succ]
    refine held_take 11 (some 225) rfl rfl (by kernel_rfl) (by kernel_rfl) (by kernel_rfl) (fun _ _ _ h => h) (.inl ⟨by kernel_rfl, fun _ _ => rfl⟩) S5 ?_
    simp only [Act.put, List.setIfInBounds_toArray, List.set_cons_zero, List.set_cons_succ]
    refine held_one (i := 12) (by kernel_rfl) ?_
    refine wpOp_call (some 226) rfl rfl (by kernel_rfl) 18 Tryz.f18 Tryz.func18 (by kernel_rfl) (by kernel_rfl) _ _ rfl #[e, .string prefixNm] (by first | (simp [Act.eval, prefixNm]; done) | (simp [Act.eval, Act.put]; done)) (E3.out.2 hf _ (((Below.refl _ _).drew).trans b5)) ?_
    rintro en w6 ⟨rfl, b6⟩
    have S6 := S5.below b6
    refine ⟨_, rfl, S6, ?_⟩
    simp only [Act.put, List.setIfInBounds_toArray, List.set_cons_zero, List.set_cons_succ]
    refine held_take 13 (some 227) (v := .bool true) rfl rfl (by kernel_rfl) (by kernel_rfl) (by kernel_rfl) (fun _ _ _ h => h) (.inl ⟨by kernel_rfl, fun V hV => by go_simp⟩) S6 ?_
    simp only [Act.put, List.setIfInBounds_toArray, List.set_cons_zero, List.set_cons_succ]
    refine held_take 14 (some 228) (v := .bool true) rfl rfl (by kernel_rfl) (by kernel_rfl) (by kernel_rfl) (fun _ _ _ h => h) (.inl ⟨by kernel_rfl, fun V hV => by go_simp⟩) S6 ?_
    simp only [Act.put, List.setIfInBounds_toArray, List.set_cons_zero, List.set_cons_succ]
    refine held_take 15 (some 6) rfl rfl (by kernel_rfl) (by kernel_rfl) (by kernel_rfl) (fun _ _ _ h => h) (.inl ⟨by kernel_rfl, fun _ _ => rfl⟩) S6 ?_
    simp only [Act.put, List.setIfInBounds_toArray, List.set_cons_zero, List.set_cons_succ]
    obtain ⟨x7, y7, R7⟩ := S6.1.2
    refine held_one (i := 16) (by kernel_rfl) ?_
    refine wpOp_wp (o := ⟨none, _, _, _, _, _⟩) rfl (by kernel_rfl) ?_
    refine wp_store_row 28 (.tmp 7) (.tmp 215) rfl (w.heap.size + 2) #[.slice a ln c, .int .i64 fl] (by first | rfl | simp [Act.eval]) (by first | rfl | simp [Act.eval]) 28 _ R7 (by kernel_rfl) rfl (by simp [Value.oneCell']) ?_
    have S9 := S6.stored (.slice a ln c) (.int .i64 fl) HL.out.1 HL.out.2.1
    refine ⟨S9, ?_⟩
    simp only [Act.put]
    refine held_take 17 (some 8) rfl rfl (by kernel_rfl) (by kernel_rfl) (by kernel_rfl) (fun _ _ _ h => h) (.inl ⟨by kernel_rfl, fun _ _ => rfl⟩) S9 ?_
    simp only [Act.put, List.setIfInBounds_toArray, List.set_cons_zero, List.set_cons_succ]
    refine wpAnyH_done (by kernel_rfl) ?_ _
    go_wp2_with fail
    exact bodyPost_ret (v := .tuple #[.pointer (some ⟨vb, 0, none⟩), .agg #[.slice a ln c, .int .i64 fl], .bool true]) (res_does rfl _ _ (w.heap.size + 2) _ _ _ rfl rfl rfl (R7.row _) (by kernel_rfl)) rfl ⟨rfl, ((HL.out.2.2.trans (b5.mono HL.out.2.2.size)).trans (b6.mono (HL.out.2.2.trans (b5.mono HL.out.2.2.size)).size)).trans ((turn_row _ (w.heap.size + 2) _).below ((HL.out.2.2.trans (b5.mono HL.out.2.2.size)).trans (b6.mono (HL.out.2.2.trans (b5.mono HL.out.2.2.size)).size)).size (fun j hj e => by omega))⟩

end Go.Proofs.YtdlkdgajoafkaaaGreatDoor.prn
end

section
/- law 12's does: the calls of Keep, of Add, of none. -/
namespace Go.Proofs.YtdlkdgajoafkaaaGreatDoor.prn
open Go Go.RowKit Go.Proofs.YtdlkdgajoafkaaaGreatDoor.dig Go.Proofs.YtdlkdgajoafkaaaGreatDoor.prf

/-- does's boxes alone. -/
structure Bw (w : World) (v : Value) (fl k m n : Int) (s : ByteArray) (W : World) : Prop where
  x : Has W w.heap.size 28 #[v, .int .i64 fl]
  a : Has W (w.heap.size + 1) 32 #[.int .i64 k, .int .i64 m, .int .i64 n, .string s]
  r : Has W (w.heap.size + 2) 28 #[.slice none 0 0, .int .i64 0]
section
variable {w W W' : World} {v : Value} {fl k m n : Int} {s : ByteArray}
theorem Bw.turn (h : Bw w v fl k m n s W) {G : Nat → Prop} (t : Turn G W W') (hG : ∀ j, G j → j < w.heap.size ∨ W.heap.size ≤ j) : Bw w v fl k m n s W' :=
  ⟨h.x.turn t (fun e => by have := hG _ e; have := h.x.lt; omega), h.a.turn t (fun e => by have := hG _ e; have := h.a.lt; omega), h.r.turn t (fun e => by have := hG _ e; have := h.r.lt; omega)⟩
theorem Bw.below (h : Bw w v fl k m n s W) (b : Below W.heap.size W W') : Bw w v fl k m n s W' := ⟨h.x.below b h.x.lt, h.a.below b h.a.lt, h.r.below b h.r.lt⟩
theorem Bw.cells (h : Bw w v fl k m n s W) : W.cell? ⟨w.heap.size, 0, none⟩ = some v ∧ W.cell? ⟨w.heap.size, 1, none⟩ = some (.int .i64 fl) ∧ W.cell? ⟨w.heap.size + 1, 1, none⟩ = some (.int .i64 m) ∧ W.cell? ⟨w.heap.size + 1, 2, none⟩ = some (.int .i64 n) ∧ W.cell? ⟨w.heap.size + 1, 3, none⟩ = some (.string s) :=
  ⟨by simpa using h.x.cell 0, by simpa using h.x.cell 1, by simpa using h.a.cell 1, by simpa using h.a.cell 2, by simpa using h.a.cell 3⟩
end

/-- What lasts within does: as Dx, and does's boxes (from s on, three) lie apart. -/
structure Dz (s B : Nat) (w : Gh) (vb : Nat) (v : Value) (L : List ByteArray) (fl : Nat) (W : World) : Prop where
  va : ∃ F, Va B F W vb L fl ∧ (∀ j, F j → j < W.heap.size) ∧ (∀ x, v.ownBlock = some x → ¬ F x) ∧ (∀ j, F j → ¬ (s ≤ j ∧ j < s + 3)) ∧ ¬ F w.g
  vs : ∀ x, v.ownBlock = some x → ¬ (s ≤ x ∧ x < s + 3)
  bel : Below w.w.heap.size w.w W
  lo : w.w.heap.size ≤ B ∧ w.w.heap.size ≤ s ∧ B ≤ s
  gs : w.g < s
  pr : Has W w.g 28 w.C
  dc : Strs W v L
section
variable {s B : Nat} {w : Gh} {vb : Nat} {v : Value} {L : List ByteArray} {fl : Nat} {W W' : World}
theorem Dz.below (h : Dz s B w vb v L fl W) (b : Below W.heap.size W W') : Dz s B w vb v L fl W' := by
  obtain ⟨F, h1, h2, h3, h4⟩ := h.va
  exact ⟨⟨F, h1.below b, fun j hj => Nat.lt_of_lt_of_le (h2 j hj) b.size, h3, h4⟩, h.vs, h.bel.trans (b.mono h.bel.size), h.lo, h.gs, h.pr.below b h.pr.lt, ⟨h.dc.1.below b (fun x hx => h.dc.1.lt hx), h.dc.2⟩⟩
theorem Dz.dx (h : Dz s B w vb v L fl W) : Dx B w vb v L fl W := by
  obtain ⟨F, h1, h2, h3, _, h5⟩ := h.va
  exact ⟨⟨F, h1, h2, h3, h5⟩, h.bel, h.lo.1, h.pr, h.dc⟩
theorem Dz.box (h : Dz s B w vb v L fl W) {b : Nat} (hb : s ≤ b ∧ b < s + 3) (cs : Array Value) : Dz s B w vb v L fl (W.setRow b cs) := by
  have t := turn_row W b cs
  obtain ⟨F, h1, h2, h3, h4⟩ := h.va
  exact ⟨⟨F, h1.turn t (fun k hk _ e => h4.1 k hk (by subst e; exact hb)) (fun k e => by have := h.lo.2.2; omega), fun j hj => Nat.lt_of_lt_of_le (h2 j hj) t.size, h3, h4⟩, h.vs,
    h.bel.trans (t.below h.bel.size (fun j hj e => by have := h.lo.2.1; omega)), h.lo, h.gs, h.pr.turn t (fun e => by have := h.gs; omega), ⟨h.dc.1.turn t (fun x hx e => h.vs x hx (by subst e; exact hb)), h.dc.2⟩⟩
/-- does begins. -/
theorem Dx.enter (h : Dx B w vb v L fl W) (hB : B ≤ W.heap.size) (b : Below W.heap.size W W') : Dz W.heap.size B w vb v L fl W' := by
  obtain ⟨F, h1, h2, h3, h5⟩ := h.va
  exact ⟨⟨F, h1.below b, fun j hj => Nat.lt_of_lt_of_le (h2 j hj) b.size, h3, fun j hj e => by have := h2 j hj; omega, h5⟩, fun x hx e => by have := h.dc.1.lt hx; omega, h.bel.trans (b.mono h.bel.size), ⟨h.lo, h.bel.size, hB⟩, h.pr.lt, h.pr.below b h.pr.lt, ⟨h.dc.1.below b (fun x hx => h.dc.1.lt hx), h.dc.2⟩⟩
/-- The vault turns, the document's stays. -/
theorem Dz.turned (h : Dz s B w vb v L fl W) {F : Nat → Prop} {fl' : Nat} (_h2 : ∀ j, F j → j < W.heap.size) (h3 : ∀ x, v.ownBlock = some x → ¬ F x) (h4 : ∀ j, F j → ¬ (s ≤ j ∧ j < s + 3)) (hB : ∀ j, F j → B ≤ j) (h5 : ¬ F w.g)
    (n : Va B (fun k => F k ∨ W.heap.size ≤ k) W' vb L fl') (t : Turn F W W') (hs : s + 3 ≤ W.heap.size) : Dz s B w vb v L fl' W' :=
  ⟨⟨_, n.tight, fun j hj => hj.2, fun x hx e => by
    rcases e.1 with e1 | e1
    · exact h3 x hx e1
    · have := h.dc.1.lt hx; omega, fun j hj e => by
    rcases hj.1 with e1 | e1
    · exact h4 j e1 e
    · omega, fun e => by
    rcases e.1 with e1 | e1
    · exact h5 e1
    · have := h.pr.lt; omega⟩, h.vs, h.bel.trans (t.below h.bel.size (fun j hj e => by have := hB j e; have := h.lo.1; omega)), h.lo, h.gs, h.pr.turn t h5, ⟨h.dc.1.turn t h3, h.dc.2⟩⟩
end

/-- What does comes to: true, and both vaults. -/
def DoPost (B : Nat) (w : Gh) (L : List ByteArray) (en : Ending) (w' : World) : Prop :=
  ∃ vb v L' fl, en = .returned (.tuple #[.pointer (some ⟨vb, 0, none⟩), dvC v (fl : Nat), .bool true]) ∧ Dx B w vb v L' fl w' ∧ L'.length ≤ L.length + 1

/-- What Keep's drawn region keeps. -/
def Sk (w : World) (v : Value) (fl : Int) (p : Nat) (V : World) : Prop := Has V p 28 #[v, .int .i64 fl] ∧ ∃ x y, Has V (w.heap.size + 2) 28 #[x, y]
theorem Sk.below {w W W' : World} {v : Value} {fl : Int} {p : Nat} (h : Sk w v fl p W) (b : Below W.heap.size W W') : Sk w v fl p W' := by
  obtain ⟨h1, x, y, h2⟩ := h
  exact ⟨h1.below b h1.lt, x, y, h2.below b h2.lt⟩
theorem Sk.stored {w W : World} {v : Value} {fl : Int} {p : Nat} (h : Sk w v fl p W) (x y : Value) (hp : w.heap.size + 2 < p) : Sk w v fl p (W.setRow (w.heap.size + 2) #[x, y]) := by
  obtain ⟨h1, _, _, h2⟩ := h
  exact ⟨h1.turn (turn_row W (w.heap.size + 2) #[x, y]) (by omega), x, y, h2.row _⟩

set_option maxRecDepth 100000 in
set_option maxHeartbeats 4000000 in
theorem does_keep {B : Nat} {w0 : Gh} (vb : Nat) (a : Option Addr) (ln c : Nat) (fl : Nat) (m n f : Int) (p : Nat) (s : ByteArray) (L : List ByteArray) (w : World)
    (_hZ : ∀ V, Below w.heap.size w V → Dz w.heap.size B w0 vb (.slice a ln c) L fl V)
    (hA : ∀ V, Below w.heap.size w V → w.heap.size + 3 ≤ V.heap.size → Calls Tryz.prog 10 #[.pointer (some ⟨vb, 0, none⟩), .int .i64 n] V fun en w' => ∃ e, en = .returned e ∧ ErrIs w' e floorB f ∧ Turn (fun j => j < w.heap.size ∨ V.heap.size ≤ j) V w' ∧ Dz w.heap.size B w0 vb (.slice a ln c) L p w')
    (hD : ∀ V, Calls Tryz.prog 16 #[dvC (.slice a ln c) fl, .int .i64 n] V fun en w' => en = .returned (.tuple #[dvC (.slice a ln c) p, .int .i64 f]) ∧ Below V.heap.size V w') :
    Calls Tryz.prog 6 #[.pointer (some ⟨vb, 0, none⟩), dvC (.slice a ln c) fl, .agg #[.int .i64 2, .int .i64 m, .int .i64 n, .string s]] w (DoPost B w0 L) := by
  unfold dvC at *
  have HA := Lib.hid (show _ ∧ _ from ⟨hA, hD⟩)
  clear hA hD
  go_enter Tryz.func6, Tryz.ntmps6
  go_wp2_with fail
  refine callsName (fun W hW => ?_)
  have B0 : Hid (Bw w (.slice a ln c) fl 2 m n s W ∧ Below w.heap.size w W) := by
    rw [← hW]
    exact Lib.hid ⟨⟨((made_at _ _ rfl).alloc _).alloc _, (made_at _ _ (by simp)).alloc _, made_at _ _ (by simp)⟩, (((Below.refl _ _).alloc (Nat.le_refl _) _).alloc (by simp) _).alloc (by simp; omega) _⟩
  clear hW
  refine (HA.out.1 W B0.out.2 B0.out.1.r.lt).mono ?_
  rintro en w1 ⟨e, rfl, he, t1, z1⟩
  have B1 : Hid (Bw w (.slice a ln c) fl 2 m n s w1) := Lib.hid (B0.out.1.turn t1 (fun j hj => hj))
  have E1 := Lib.hid (show _ ∧ _ from ⟨he, z1⟩)
  obtain ⟨c0, c1, d1, d2, d3⟩ := B1.out.cells
  clear t1 z1 he B0
  go_wp2_with fail
  refine (HA.out.2 w1).mono ?_
  rintro en w2 ⟨rfl, b2⟩
  have B2 : Hid (Bw w (.slice a ln c) fl 2 m n s w2) := Lib.hid (B1.out.below b2)
  have E2 : Hid (ErrIs w2 e floorB f ∧ Dz w.heap.size B w0 vb (.slice a ln c) L p w2) := Lib.hid ⟨E1.out.1.below b2, E1.out.2.below b2⟩
  clear b2 E1 B1 c0 c1 d1 d2 d3
  go_wp2_with fail
  go_name_world W3 hW3
  have S2 : Sk w (.slice a ln c) p w2.heap.size W3.drew := by
    rw [← hW3]
    exact ⟨(made_at _ _ rfl).drew, _, _, (B2.out.r.alloc _).drew⟩
  have b3 : Below w2.heap.size w2 W3 := by rw [← hW3]; exact (Below.refl _ _).alloc (Nat.le_refl _) _
  have E3 : Hid (ErrIs W3 e floorB f ∧ Dz w.heap.size B w0 vb (.slice a ln c) L p W3.drew ∧ w.heap.size + 2 < w2.heap.size) := Lib.hid ⟨E2.out.1.below b3, E2.out.2.below b3.drew, B2.out.r.lt⟩
  clear hW3 b3 E2 B2
  refine Go.wp_region_held (P := Tryz.prog) (S := Sk w (.slice a ln c) p w2.heap.size) (by kernel_rfl) ?_
  by_cases hf : f = 0
  · subst hf
    refine held_take 0 (some 59) rfl rfl (by kernel_rfl) (by kernel_rfl) (by kernel_rfl) (fun _ _ _ h => h) (.inl ⟨by kernel_rfl, fun _ _ => rfl⟩) S2 ?_
    simp only [Act.put, List.setIfInBounds_toArray, List.set_cons_zero, List.set_cons_succ]
    refine held_take 1 (some 60) (v := .agg #[.slice a ln c, .int .i64 p]) rfl rfl (by kernel_rfl) (by kernel_rfl) (by kernel_rfl) (fun _ _ _ h => h) (.inl ⟨by kernel_rfl, fun V hV => by have c0 := hV.1.cell 0; have c1 := hV.1.cell 1; simp at c0 c1; go_simp⟩) S2 ?_
    simp only [Act.put, List.setIfInBounds_toArray, List.set_cons_zero, List.set_cons_succ]
    refine held_take 2 (some 61) rfl rfl (by kernel_rfl) (by kernel_rfl) (by kernel_rfl) (fun _ _ _ h => h) (.inl ⟨by kernel_rfl, fun _ _ => rfl⟩) S2 ?_
    simp only [Act.put, List.setIfInBounds_toArray, List.set_cons_zero, List.set_cons_succ]
    refine held_take 4 (some 63) rfl rfl (by kernel_rfl) (by kernel_rfl) (by kernel_rfl) (fun _ _ _ h => h) (.inl ⟨by kernel_rfl, fun _ _ => rfl⟩) S2 ?_
    simp only [Act.put, List.setIfInBounds_toArray, List.set_cons_zero, List.set_cons_succ]
    refine held_one (i := 3) (by kernel_rfl) ?_
    refine wpOp_call (some 62) rfl rfl (by kernel_rfl) 17 Tryz.f17 Tryz.func17 (by kernel_rfl) (by kernel_rfl) _ _ rfl #[e] (by first | (simp [Act.eval]; done) | (simp [Act.eval, Act.put]; done)) (E3.out.1.1 _ (Below.refl _ _).drew) ?_
    rintro en w5 ⟨rfl, b5⟩
    have S5 := S2.below b5
    have Z5 := E3.out.2.1.below b5
    refine ⟨_, rfl, S5, ?_⟩
    simp only [Act.put, List.setIfInBounds_toArray, List.set_cons_zero, List.set_cons_succ]
    refine held_take 5 (some 64) (v := .bool true) rfl rfl (by kernel_rfl) (by kernel_rfl) (by kernel_rfl) (fun _ _ _ h => h) (.inl ⟨by kernel_rfl, fun V hV => by go_simp⟩) S5 ?_
    simp only [Act.put, List.setIfInBounds_toArray, List.set_cons_zero, List.set_cons_succ]
    refine held_take 6 (some 65) rfl rfl (by kernel_rfl) (by kernel_rfl) (by kernel_rfl) (fun _ _ _ h => h) (.inl ⟨by kernel_rfl, fun _ _ => rfl⟩) S5 ?_
    simp only [Act.put, List.setIfInBounds_toArray, List.set_cons_zero, List.set_cons_succ]
    refine held_take 7 (some 66) rfl rfl (by kernel_rfl) (by kernel_rfl) (by kernel_rfl) (fun _ _ _ h => h) (.inl ⟨by kernel_rfl, fun _ _ => rfl⟩) S5 ?_
    simp only [Act.put, List.setIfInBounds_toArray, List.set_cons_zero, List.set_cons_succ]
    refine held_take 8 (some 67) (v := .bool true) rfl rfl (by kernel_rfl) (by kernel_rfl) (by kernel_rfl) (fun _ _ _ h => h) (.inl ⟨by kernel_rfl, fun V hV => by go_simp⟩) S5 ?_
    simp only [Act.put, List.setIfInBounds_toArray, List.set_cons_zero, List.set_cons_succ]
    refine held_take 9 (some 68) rfl rfl (by kernel_rfl) (by kernel_rfl) (by kernel_rfl) (fun _ _ _ h => h) (.inl ⟨by kernel_rfl, fun _ _ => rfl⟩) S5 ?_
    simp only [Act.put, List.setIfInBounds_toArray, List.set_cons_zero, List.set_cons_succ]
    have Z6 := Z5
    refine held_take 10 (some 69) (v := undef) rfl rfl (by kernel_rfl) (by kernel_rfl) (by kernel_rfl) (fun _ _ _ h => h) (.inr ⟨by kernel_rfl, rfl⟩) S5 ?_
    simp only [Act.put, List.setIfInBounds_toArray, List.set_cons_zero, List.set_cons_succ]
    refine held_take 11 (some 70) (v := undef) rfl rfl (by kernel_rfl) (by kernel_rfl) (by kernel_rfl) (fun _ _ _ h => h) (.inr ⟨by kernel_rfl, rfl⟩) S5 ?_
    simp only [Act.put, List.setIfInBounds_toArray, List.set_cons_zero, List.set_cons_succ]
    refine held_take 12 (some 71) (v := .bool true) rfl rfl (by kernel_rfl) (by kernel_rfl) (by kernel_rfl) (fun _ _ _ h => h) (.inl ⟨by kernel_rfl, fun V hV => by go_simp⟩) S5 ?_
    simp only [Act.put, List.setIfInBounds_toArray, List.set_cons_zero, List.set_cons_succ]
    refine held_take 13 (some 72) (v := .bool true) rfl rfl (by kernel_rfl) (by kernel_rfl) (by kernel_rfl) (fun _ _ _ h => h) (.inl ⟨by kernel_rfl, fun V hV => by go_simp⟩) S5 ?_
    simp only [Act.put, List.setIfInBounds_toArray, List.set_cons_zero, List.set_cons_succ]
    refine held_take 14 (some 6) rfl rfl (by kernel_rfl) (by kernel_rfl) (by kernel_rfl) (fun _ _ _ h => h) (.inl ⟨by kernel_rfl, fun _ _ => rfl⟩) S5 ?_
    simp only [Act.put, List.setIfInBounds_toArray, List.set_cons_zero, List.set_cons_succ]
    obtain ⟨x7, y7, R7⟩ := S5.2
    refine held_one (i := 15) (by kernel_rfl) ?_
    refine wpOp_wp (o := ⟨none, _, _, _, _, _⟩) rfl (by kernel_rfl) ?_
    refine wp_store_row 28 (.tmp 7) (.tmp 60) rfl (w.heap.size + 2) #[.slice a ln c, .int .i64 p] (by first | rfl | simp [Act.eval]) (by first | rfl | simp [Act.eval]) 28 _ R7 (by kernel_rfl) rfl (by simp [Value.oneCell']) ?_
    have S9 := S5.stored (.slice a ln c) (.int .i64 p) E3.out.2.2
    refine ⟨S9, ?_⟩
    simp only [Act.put]
    refine held_take 16 (some 8) rfl rfl (by kernel_rfl) (by kernel_rfl) (by kernel_rfl) (fun _ _ _ h => h) (.inl ⟨by kernel_rfl, fun _ _ => rfl⟩) S9 ?_
    simp only [Act.put, List.setIfInBounds_toArray, List.set_cons_zero, List.set_cons_succ]
    refine wpAnyH_done (by kernel_rfl) ?_ _
    go_wp2_with fail
    exact bodyPost_ret (v := .tuple #[.pointer (some ⟨vb, 0, none⟩), .agg #[.slice a ln c, .int .i64 p], .bool true]) (res_does rfl _ _ (w.heap.size + 2) _ _ _ rfl rfl rfl (R7.row _) (by kernel_rfl)) rfl ⟨vb, .slice a ln c, L, p, rfl, (Z6.box ⟨by omega, by omega⟩ _).dx, by omega⟩
  · skip
    refine held_take 0 (some 59) rfl rfl (by kernel_rfl) (by kernel_rfl) (by kernel_rfl) (fun _ _ _ h => h) (.inl ⟨by kernel_rfl, fun _ _ => rfl⟩) S2 ?_
    simp only [Act.put, List.setIfInBounds_toArray, List.set_cons_zero, List.set_cons_succ]
    refine held_take 1 (some 60) (v := .agg #[.slice a ln c, .int .i64 p]) rfl rfl (by kernel_rfl) (by kernel_rfl) (by kernel_rfl) (fun _ _ _ h => h) (.inl ⟨by kernel_rfl, fun V hV => by have c0 := hV.1.cell 0; have c1 := hV.1.cell 1; simp at c0 c1; go_simp⟩) S2 ?_
    simp only [Act.put, List.setIfInBounds_toArray, List.set_cons_zero, List.set_cons_succ]
    refine held_take 2 (some 61) rfl rfl (by kernel_rfl) (by kernel_rfl) (by kernel_rfl) (fun _ _ _ h => h) (.inl ⟨by kernel_rfl, fun _ _ => rfl⟩) S2 ?_
    simp only [Act.put, List.setIfInBounds_toArray, List.set_cons_zero, List.set_cons_succ]
    refine held_take 4 (some 63) rfl rfl (by kernel_rfl) (by kernel_rfl) (by kernel_rfl) (fun _ _ _ h => h) (.inl ⟨by kernel_rfl, fun _ _ => rfl⟩) S2 ?_
    simp only [Act.put, List.setIfInBounds_toArray, List.set_cons_zero, List.set_cons_succ]
    refine held_one (i := 3) (by kernel_rfl) ?_
    refine wpOp_call (some 62) rfl rfl (by kernel_rfl) 17 Tryz.f17 Tryz.func17 (by kernel_rfl) (by kernel_rfl) _ _ rfl #[e] (by first | (simp [Act.eval]; done) | (simp [Act.eval, Act.put]; done)) (E3.out.1.1 _ (Below.refl _ _).drew) ?_
    rintro en w5 ⟨rfl, b5⟩
    have S5 := S2.below b5
    have Z5 := E3.out.2.1.below b5
    refine ⟨_, rfl, S5, ?_⟩
    simp only [Act.put, List.setIfInBounds_toArray, List.set_cons_zero, List.set_cons_succ]
    refine held_take 5 (some 64) (v := .bool true) rfl rfl (by kernel_rfl) (by kernel_rfl) (by kernel_rfl) (fun _ _ _ h => h) (.inl ⟨by kernel_rfl, fun V hV => by go_simp⟩) S5 ?_
    simp only [Act.put, List.setIfInBounds_toArray, List.set_cons_zero, List.set_cons_succ]
    refine held_take 6 (some 65) rfl rfl (by kernel_rfl) (by kernel_rfl) (by kernel_rfl) (fun _ _ _ h => h) (.inl ⟨by kernel_rfl, fun _ _ => rfl⟩) S5 ?_
    simp only [Act.put, List.setIfInBounds_toArray, List.set_cons_zero, List.set_cons_succ]
    refine held_take 7 (some 66) rfl rfl (by kernel_rfl) (by kernel_rfl) (by kernel_rfl) (fun _ _ _ h => h) (.inl ⟨by kernel_rfl, fun _ _ => rfl⟩) S5 ?_
    simp only [Act.put, List.setIfInBounds_toArray, List.set_cons_zero, List.set_cons_succ]
    refine held_take 8 (some 67) (v := .bool false) rfl rfl (by kernel_rfl) (by kernel_rfl) (by kernel_rfl) (fun _ _ _ h => h) (.inl ⟨by kernel_rfl, fun V hV => by go_simp⟩) S5 ?_
    simp only [Act.put, List.setIfInBounds_toArray, List.set_cons_zero, List.set_cons_succ]
    refine held_take 9 (some 68) rfl rfl (by kernel_rfl) (by kernel_rfl) (by kernel_rfl) (fun _ _ _ h => h) (.inl ⟨by kernel_rfl, fun _ _ => rfl⟩) S5 ?_
    simp only [Act.put, List.setIfInBounds_toArray, List.set_cons_zero, List.set_cons_succ]
    refine held_take 10 (some 69) rfl rfl (by kernel_rfl) (by kernel_rfl) (by kernel_rfl) (fun _ _ _ h => h) (.inl ⟨by kernel_rfl, fun _ _ => rfl⟩) S5 ?_
    simp only [Act.put, List.setIfInBounds_toArray, List.set_cons_zero, List.set_cons_succ]
    refine held_one (i := 11) (by kernel_rfl) ?_
    refine wpOp_call (some 70) rfl rfl (by kernel_rfl) 18 Tryz.f18 Tryz.func18 (by kernel_rfl) (by kernel_rfl) _ _ rfl #[e, .string floorB] (by first | (simp [Act.eval, floorB]; done) | (simp [Act.eval, Act.put]; done)) (E3.out.1.2 hf _ (((Below.refl _ _).drew).trans b5)) ?_
    rintro en w6 ⟨rfl, b6⟩
    have S6 := S5.below b6
    have Z6 := Z5.below b6
    refine ⟨_, rfl, S6, ?_⟩
    simp only [Act.put, List.setIfInBounds_toArray, List.set_cons_zero, List.set_cons_succ]
    refine held_take 12 (some 71) (v := .bool true) rfl rfl (by kernel_rfl) (by kernel_rfl) (by kernel_rfl) (fun _ _ _ h => h) (.inl ⟨by kernel_rfl, fun V hV => by go_simp⟩) S6 ?_
    simp only [Act.put, List.setIfInBounds_toArray, List.set_cons_zero, List.set_cons_succ]
    refine held_take 13 (some 72) (v := .bool true) rfl rfl (by kernel_rfl) (by kernel_rfl) (by kernel_rfl) (fun _ _ _ h => h) (.inl ⟨by kernel_rfl, fun V hV => by go_simp⟩) S6 ?_
    simp only [Act.put, List.setIfInBounds_toArray, List.set_cons_zero, List.set_cons_succ]
    refine held_take 14 (some 6) rfl rfl (by kernel_rfl) (by kernel_rfl) (by kernel_rfl) (fun _ _ _ h => h) (.inl ⟨by kernel_rfl, fun _ _ => rfl⟩) S6 ?_
    simp only [Act.put, List.setIfInBounds_toArray, List.set_cons_zero, List.set_cons_succ]
    obtain ⟨x7, y7, R7⟩ := S6.2
    refine held_one (i := 15) (by kernel_rfl) ?_
    refine wpOp_wp (o := ⟨none, _, _, _, _, _⟩) rfl (by kernel_rfl) ?_
    refine wp_store_row 28 (.tmp 7) (.tmp 60) rfl (w.heap.size + 2) #[.slice a ln c, .int .i64 p] (by first | rfl | simp [Act.eval]) (by first | rfl | simp [Act.eval]) 28 _ R7 (by kernel_rfl) rfl (by simp [Value.oneCell']) ?_
    have S9 := S6.stored (.slice a ln c) (.int .i64 p) E3.out.2.2
    refine ⟨S9, ?_⟩
    simp only [Act.put]
    refine held_take 16 (some 8) rfl rfl (by kernel_rfl) (by kernel_rfl) (by kernel_rfl) (fun _ _ _ h => h) (.inl ⟨by kernel_rfl, fun _ _ => rfl⟩) S9 ?_
    simp only [Act.put, List.setIfInBounds_toArray, List.set_cons_zero, List.set_cons_succ]
    refine wpAnyH_done (by kernel_rfl) ?_ _
    go_wp2_with fail
    exact bodyPost_ret (v := .tuple #[.pointer (some ⟨vb, 0, none⟩), .agg #[.slice a ln c, .int .i64 p], .bool true]) (res_does rfl _ _ (w.heap.size + 2) _ _ _ rfl rfl rfl (R7.row _) (by kernel_rfl)) rfl ⟨vb, .slice a ln c, L, p, rfl, (Z6.box ⟨by omega, by omega⟩ _).dx, by omega⟩

set_option maxRecDepth 100000 in
set_option maxHeartbeats 4000000 in
theorem does_none (vb : Nat) (a : Option Addr) (ln c : Nat) (fl k m n : Int) (s : ByteArray) (w : World) (hk : ¬ k = 1 ∧ ¬ k = 2 ∧ ¬ k = 3 ∧ ¬ k = 4 ∧ ¬ k = 5 ∧ ¬ k = 6 ∧ ¬ k = 7) :
    Calls Tryz.prog 6 #[.pointer (some ⟨vb, 0, none⟩), dvC (.slice a ln c) fl, .agg #[.int .i64 k, .int .i64 m, .int .i64 n, .string s]] w fun en w' =>
      en = .returned (.tuple #[.pointer (some ⟨vb, 0, none⟩), dvC (.slice a ln c) fl, .bool true]) ∧ Below w.heap.size w w' := by
  unfold dvC
  obtain ⟨k1, k2, k3, k4, k5, k6, k7⟩ := hk
  go_enter Tryz.func6, Tryz.ntmps6
  go_wp2_with fail
  go_name_world W hW
  have B0 : Hid (Bx w (.slice a ln c) fl k m n s W) := by
    rw [← hW]
    exact Lib.hid ⟨((made_at _ _ rfl).alloc _).alloc _, (made_at _ _ (by simp)).alloc _, made_at _ _ (by simp), (((Below.refl _ _).alloc (Nat.le_refl _) _).alloc (by simp) _).alloc (by simp; omega) _⟩
  clear hW
  have S2 : Sx w (.slice a ln c) fl W.drew := ⟨B0.out.x.drew, _, _, B0.out.r.drew⟩
  refine Go.wp_region_held (P := Tryz.prog) (S := Sx w (.slice a ln c) fl) (by kernel_rfl) ?_
  refine held_take 0 (some 278) rfl rfl (by kernel_rfl) (by kernel_rfl) (by kernel_rfl) (fun _ _ _ h => h) (.inl ⟨by kernel_rfl, fun _ _ => rfl⟩) S2 ?_
  simp only [Act.put, List.setIfInBounds_toArray, List.set_cons_zero, List.set_cons_succ]
  refine held_take 1 (some 279) (v := .agg #[.slice a ln c, .int .i64 fl]) rfl rfl (by kernel_rfl) (by kernel_rfl) (by kernel_rfl) (fun _ _ _ h => h) (.inl ⟨by kernel_rfl, fun V hV => by have c0 := hV.1.cell 0; have c1 := hV.1.cell 1; simp at c0 c1; go_simp⟩) S2 ?_
  simp only [Act.put, List.setIfInBounds_toArray, List.set_cons_zero, List.set_cons_succ]
  refine held_take 2 (some 6) rfl rfl (by kernel_rfl) (by kernel_rfl) (by kernel_rfl) (fun _ _ _ h => h) (.inl ⟨by kernel_rfl, fun _ _ => rfl⟩) S2 ?_
  simp only [Act.put, List.setIfInBounds_toArray, List.set_cons_zero, List.set_cons_succ]
  obtain ⟨x7, y7, R7⟩ := S2.2
  refine held_one (i := 3) (by kernel_rfl) ?_
  refine wpOp_wp (o := ⟨none, _, _, _, _, _⟩) rfl (by kernel_rfl) ?_
  refine wp_store_row 28 (.tmp 7) (.tmp 279) rfl (w.heap.size + 2) #[.slice a ln c, .int .i64 fl] (by first | rfl | simp [Act.eval]) (by first | rfl | simp [Act.eval]) 28 _ R7 (by kernel_rfl) rfl (by simp [Value.oneCell']) ?_
  have S9 := S2.stored (.slice a ln c) (.int .i64 fl)
  refine ⟨S9, ?_⟩
  simp only [Act.put]
  refine held_take 4 (some 8) rfl rfl (by kernel_rfl) (by kernel_rfl) (by kernel_rfl) (fun _ _ _ h => h) (.inl ⟨by kernel_rfl, fun _ _ => rfl⟩) S9 ?_
  simp only [Act.put, List.setIfInBounds_toArray, List.set_cons_zero, List.set_cons_succ]
  refine wpAnyH_done (by kernel_rfl) ?_ _
  go_wp2_with fail
  exact bodyPost_ret (v := .tuple #[.pointer (some ⟨vb, 0, none⟩), .agg #[.slice a ln c, .int .i64 fl], .bool true]) (res_does rfl _ _ (w.heap.size + 2) _ _ _ rfl rfl rfl (R7.row _) (by kernel_rfl)) rfl ⟨rfl, (B0.out.bel.drew).trans ((turn_row _ (w.heap.size + 2) _).below (B0.out.bel.drew).size (fun j hj e => by omega))⟩
end Go.Proofs.YtdlkdgajoafkaaaGreatDoor.prn
end

