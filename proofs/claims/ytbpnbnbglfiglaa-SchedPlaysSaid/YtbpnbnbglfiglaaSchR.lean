/- sched: the document's drop. -/
import Derived.Test.YtbpnbnbglfiglaaSchQ
namespace Go.Proofs.Ytbpnbnbglfiglaa.sch
open Go Go.RowKit

/-- What lasts in drop. -/
structure Dr (W : World) (pa : Option Addr) (pn pc : Nat) (la : Option Addr) (ln lc : Nat) (d : Dc) (T c : Int) (r : List On) (gr ro n1 cr : Nat) (V : World) : Prop where
  dm : Dm V pa pn pc la ln lc d
  bx : Has V W.heap.size 30 (dsC pa pn pc la ln lc T c)
  rz : Has V (W.heap.size + 1) 30 dsZ
  bel : Below W.heap.size W V
  out : Seg V 77 3 (.slice (some ⟨gr, ro, none⟩) n1 cr) n1 (ones r)
  new : W.heap.size + 1 < gr

section
variable {W V V' : World} {pa la : Option Addr} {pn pc ln lc gr ro n1 cr : Nat} {d : Dc} {T c : Int} {r : List On}
theorem Dr.below (h : Dr W pa pn pc la ln lc d T c r gr ro n1 cr V) (hb : Below V.heap.size V V') : Dr W pa pn pc la ln lc d T c r gr ro n1 cr V' :=
  ⟨h.dm.below hb, h.bx.below hb h.bx.lt, h.rz.below hb h.rz.lt, h.bel.trans (hb.mono h.bel.size), h.out.below hb (fun _ e => h.out.lt e), h.new⟩
theorem Dr.len (h : Dr W pa pn pc la ln lc d T c r gr ro n1 cr V) : r.length = n1 := by have := h.out.1; rw [ones_len] at this; omega
end

set_option maxRecDepth 100000 in
set_option maxHeartbeats 4000000 in
theorem Dm.drop {W : World} {pa la : Option Addr} {pn pc ln lc : Nat} {d : Dc} (h : Dm W pa pn pc la ln lc d) (i : Nat) (hl : d.L.length ≤ 100000) :
    Calls Try.prog 31 #[.agg (dsC pa pn pc la ln lc d.T d.c), .int .i64 i] W (DuPost pa pn pc (dropD d i) W) := by
  obtain ⟨z0i, z0, hi0, hz0, hz1, hz2, hz3⟩ := oneInfo
  have HI0 := Lib.hid hi0
  have HZ0 := Lib.hid hz0
  have hln := h.ln_
  have hlni : (ln : Int) ≤ 100000 := by omega
  have H := Lib.hid h
  obtain ⟨T, hTT⟩ : ∃ T, T = d.T := ⟨_, rfl⟩
  obtain ⟨cc, hcc⟩ : ∃ cc, cc = d.c := ⟨_, rfl⟩
  rw [← hTT, ← hcc]
  have HE := Lib.hid (And.intro hTT hcc)
  have HLN := Lib.hid (And.intro hl hln)
  clear h hi0 hz0 hl hln hTT hcc
  go_enter Try.func31, Try.ntmps31
  go_wp2_with fail
  go_name_world U hU
  have HU : Hid (Dr W pa pn pc la ln lc d T cc [] (W.heap.size + 1 + 1) 0 0 0 U) := by
    rw [← hU]
    exact Lib.hid ⟨((H.out.alloc _).alloc _).alloc _, ((Has.made W _ _).alloc _).alloc _, (made_at _ _ (by simp)).alloc _, (((Below.refl _ W).alloc (Nat.le_refl _) _).alloc (by simp) _).alloc (by simp; omega) _, Seg.empty (made_at _ _ (by simp)), by omega⟩
  clear hU
  go_loopw [12, 5] (fun x v wr => ∃ (k gr ro n1 cr : Nat), x = .int .i64 k ∧ v = .slice (some ⟨gr, ro, none⟩) n1 cr ∧ k ≤ ln ∧ Hid (Dr W pa pn pc la ln lc d T cc (keepO (i : Int) (d.L.take k)) gr ro n1 cr wr)) (fun x _ _ => ln - (intOf x).toNat)
  case atStart => exact ⟨0, _, _, _, _, rfl, rfl, Nat.zero_le _, HU⟩
  case round =>
    clear HU
    obtain ⟨k, gr, ro, n1, cr, rfl, rfl, hk, HS⟩ := hrel
    by_cases hkl : k < ln
    · have hki : (k : Int) < (ln : Int) := by omega
      have k0 : (0 : Int) ≤ (k : Int) := by omega
      obtain ⟨x, hx⟩ : ∃ x, d.L[k]? = some x := ⟨_, List.getElem?_eq_getElem (by have := HLN.out; omega)⟩
      obtain ⟨g, o, rfl, hg, c0, c1, c2⟩ := HS.out.dm.one hx
      have ht : d.L.take (k + 1) = d.L.take k ++ [x] := by rw [List.take_add_one, hx]; rfl
      have HT := Lib.hid ht
      have HX := Lib.hid hx
      obtain ⟨xw, xa, xs⟩ := x
      dsimp only at c0 c1 c2
      clear hx ht
      by_cases hw : xw = (i : Int)
      · have hw2 : (xw == (i : Int)) = true := by simpa using hw
        go_wp2_with fail
        refine ⟨⟨k + 1, gr, ro, n1, cr, by rw [Int.natCast_add]; rfl, rfl, by omega, Lib.hid ?_⟩, ?_⟩
        · have e : keepO (i : Int) (d.L.take (k + 1)) = keepO (i : Int) (d.L.take k) := by
            rw [HT.out]; unfold keepO; rw [List.filter_append, List.filter_cons, if_neg (by simpa using hw), List.filter_nil, List.append_nil]
          rw [e]
          exact HS.out.below ((Below.refl _ _).alloc (Nat.le_refl _) _)
        · show ln - ((k : Int) + 1).toNat < ln - ((k : Int)).toNat
          omega
      · have hw2 : (xw == (i : Int)) = false := by simpa using hw
        go_wp2_with (first
          | ((with_reducible refine at_op 23 ?_); refine wpList_append_any (o := ⟨some 23, _, _, _, _, _⟩) _ rfl (.tmp 20) (.tmp 22) 28 rfl 77 z0i z0 3 24 Try.underlying28 HI0.out HZ0.out hz1 hz3 hz2 (by decide) (.slice (some ⟨gr, ro, none⟩) n1 cr) n1 (ones (keepO (i : Int) (d.L.take k))) rfl (((HS.out.out.below ((Below.refl _ _).alloc (Nat.le_refl _) _) (fun _ e => HS.out.out.lt e))).below ((Below.refl _ _).alloc (Nat.le_refl _) _) (fun _ e => by have := HS.out.out.lt e; simp; omega)) ⟨_, _, _, rfl⟩ (.slice (some ⟨wr.heap.size + 1, 0, none⟩) 1 1) 1 (oneC (xw, xa, xs)) rfl (Seg.whole (made_at _ #[.int .i64 xw, .int .i64 xa, .int .i64 xs] (by simp)) (by rfl) (by unfold maxLen; omega)) (.inl ⟨_, _, _, rfl⟩) (fun u hu => one_ones [(xw, xa, xs)] u (by simpa [ones] using hu)) (by have := HLN.out; have := HS.out.len; have h3 : (keepO (i : Int) (d.L.take k)).length ≤ (d.L.take k).length := List.length_filter_le _ _; rw [List.length_take] at h3; unfold maxLen; omega) (by have := HLN.out; have := HS.out.len; have h3 : (keepO (i : Int) (d.L.take k)).length ≤ (d.L.take k).length := List.length_filter_le _ _; rw [List.length_take] at h3; omega) ?_
             intro q w3 th sg gr3 nw
             obtain ⟨gq, oq, cq, rfl⟩ := th
             (have H3 : Hid (Dr W pa pn pc (some ⟨g, o, none⟩) ln lc d T cc (keepO (i : Int) (d.L.take (k + 1))) gq oq (n1 + 1) cq w3) := by
               have b2 : Below wr.heap.size wr ((wr.alloc (.cells #[.int .i64 xw, .int .i64 xa, .int .i64 xs] 77)).alloc (.cells #[.int .i64 xw, .int .i64 xa, .int .i64 xs] 77)) := ((Below.refl _ _).alloc (Nat.le_refl _) _).alloc (by simp) _
               have h2 := HS.out.below b2
               have hne : ∀ {z : Nat} {cs : Array Value}, Has wr z 30 cs → z ≠ gr := fun hz e => HS.out.out.ne hz (by decide) (by show some gr = some _; rw [e])
               have tg : Turn (fun j => j = gr) _ w3 := (Turn.refl (fun j => j = gr) _).grown gr3 (fun j e _ => by have e2 : some gr = some j := e; injection e2 with e2; exact e2.symm)
               have hnew := HS.out.new
               have hlt := h2.rz.lt
               refine Lib.hid ⟨h2.dm.turn tg (fun b hb e => by have := H.out.pac.lt hb; omega) (fun b hb e => by have := H.out.lst.lt hb; omega), h2.bx.turn tg (by omega), h2.rz.turn tg (by omega), h2.bel.trans (tg.below h2.bel.size (fun j hj e => by omega)), ?_, ?_⟩
               · have e : keepO (i : Int) (d.L.take (k + 1)) = keepO (i : Int) (d.L.take k) ++ [(xw, xa, xs)] := by
                   rw [HT.out]; unfold keepO; rw [List.filter_append]; congr 1; rw [List.filter_cons, if_pos (by simpa using hw)]; rfl
                 rw [e, ones_snoc]
                 exact sg
               · rcases nw gq rfl with e | e
                 · have e2 : some gr = some gq := e
                   injection e2 with e2
                   omega
                 · omega)
             (clear sg gr3 nw))
          | fail)
        refine ⟨⟨k + 1, gq, oq, n1 + 1, cq, by rw [Int.natCast_add]; rfl, rfl, by omega, H3⟩, ?_⟩
        show ln - ((k : Int) + 1).toNat < ln - ((k : Int)).toNat
        omega
    · obtain rfl : k = ln := by omega
      have hkn : ¬ (k : Int) < (k : Int) := by omega
      have x0 : wr.cell? ⟨W.heap.size, 0, none⟩ = some (.slice pa pn pc) := HS.out.bx.cell 0
      have x1 : wr.cell? ⟨W.heap.size, 1, none⟩ = some (.slice la k lc) := HS.out.bx.cell 1
      have x2 : wr.cell? ⟨W.heap.size, 2, none⟩ = some (.int .i64 T) := HS.out.bx.cell 2
      have x3 : wr.cell? ⟨W.heap.size, 3, none⟩ = some (.int .i64 cc) := HS.out.bx.cell 3
      have f1 : wr.frozen? ⟨W.heap.size, 1, none⟩ = false := HS.out.bx.free 1
      have r0 : wr.cell? ⟨W.heap.size + 1, 0, none⟩ = some (.slice none 0 0) := HS.out.rz.cell 0
      have r1 : wr.cell? ⟨W.heap.size + 1, 1, none⟩ = some (.slice none 0 0) := HS.out.rz.cell 1
      have r2 : wr.cell? ⟨W.heap.size + 1, 2, none⟩ = some (.int .i64 0) := HS.out.rz.cell 2
      have r3 : wr.cell? ⟨W.heap.size + 1, 3, none⟩ = some (.int .i64 0) := HS.out.rz.cell 3
      have s0 := HS.out.rz.free 0
      have s1 := HS.out.rz.free 1
      have s2 := HS.out.rz.free 2
      have s3 := HS.out.rz.free 3
      go_wp2_with fail
      have t5 : Turn (fun j => j = W.heap.size) wr (wr.setCell ⟨W.heap.size, 1, none⟩ (.slice (some ⟨gr, ro, none⟩) n1 cr)) := (Turn.refl (fun j => j = W.heap.size) wr).put (fun _ => rfl) 1 _
      have rz5 := HS.out.rz.turn t5 (by omega)
      obtain ⟨h6, t6⟩ := put4 (a' := .slice pa pn pc) (b' := .slice (some ⟨gr, ro, none⟩) n1 cr) (c' := .int .i64 T) (d' := .int .i64 cc) rz5
      have tt : Turn (fun j => j = W.heap.size ∨ j = W.heap.size + 1) wr _ := (t5.more (fun j _ e => .inl e)).trans t6 (fun j _ e => .inr e)
      have hnew := HS.out.new
      have hk2 : d.L.take k = d.L := List.take_of_length_le (by have := HLN.out; omega)
      have ho := HS.out.out
      rw [hk2] at ho
      refine bodyPost_ret (res_ds rfl _ _ (W.heap.size + 1) _ _ _ _ rfl h6) rfl ⟨some ⟨gr, ro, none⟩, n1, cr, ?_, ⟨HS.out.dm.pac.turn tt (fun b hb e => by have := H.out.pac.lt hb; omega), ho.turn tt (fun b hb e => by have e2 : some gr = some b := hb; injection e2 with e2; omega)⟩, HS.out.bel.trans (tt.below HS.out.bel.size (fun j hj e => by omega))⟩
      show _ = Ending.returned (.agg (dsC _ _ _ _ _ _ d.T d.c))
      rw [← HE.out.1, ← HE.out.2]
end Go.Proofs.Ytbpnbnbglfiglaa.sch
