/- sched: the document's New. -/
import Derived.Test.YtbpnbnbglfiglaaSchS
namespace Go.Proofs.Ytbpnbnbglfiglaa.sch
open Go Go.RowKit

/-- What lasts in New. -/
structure NwD (W : World) (k : Nat) (d : Dc) (pa : Option Addr) (pn pc : Nat) (la : Option Addr) (ln lc : Nat) (V : World) : Prop where
  dm : Dm V pa pn pc la ln lc d
  bx : Has V (W.heap.size + 1) 30 (dsC pa pn pc la ln lc d.T d.c)
  rz : Has V W.heap.size 30 dsZ
  bel : Below W.heap.size W V
  lo : ∀ b, (Value.slice pa pn pc).ownBlock = some b → W.heap.size ≤ b
  fa : d.P.length = k ∧ d.T = 0 ∧ d.c = k ∧ d.L.length ≤ k

theorem madeD_more {l : List Int} {k : Nat} {x : Int} (h : l[k]? = some x) : madeD (l.take (k + 1)) = pushD (madeD (l.take k)) x := by
  unfold madeD
  rw [List.take_add_one, h, List.foldl_append]; rfl

theorem seg_has {w : World} {e : TypeId} {size n : Nat} {v : Value} {xs : List Value} (h : Seg w e size v n xs) {b : Nat} (hb : v.ownBlock = some b) : ∃ cs, Has w b e cs := by
  rcases h.2 with ⟨rfl, _⟩ | ⟨g, off, cap, cur, rfl, hg, _⟩
  · cases hb
  · obtain rfl := own_of hb
    exact ⟨cur, hg⟩

set_option maxRecDepth 100000 in
set_option maxHeartbeats 4000000 in
theorem dnew_calls (l : List Int) (a : Option Addr) (cap : Nat) (W : World) (hA : ∀ j x, l[j]? = some x → ∃ g o, a = some ⟨g, o, none⟩ ∧ g < W.heap.size ∧ W.cell? ⟨g, o + j, none⟩ = some (.int .i64 x)) (hl : l.length ≤ 10) :
    Calls Try.prog 8 #[.slice a l.length cap] W (DlPost (madeD l) W) := by
  obtain ⟨z0i, z0, hi0, hz0, hz1, hz2, hz3⟩ := intInfo
  have HI0 := Lib.hid hi0
  have HZ0 := Lib.hid hz0
  have HA := Lib.hid hA
  obtain ⟨n, hn⟩ : ∃ n, n = l.length := ⟨_, rfl⟩
  rw [← hn]
  have HN := Lib.hid (And.intro hn hl)
  have hni : (n : Int) ≤ 10 := by omega
  clear hi0 hz0 hA hn hl
  go_enter Try.func8, Try.ntmps8
  go_wp2_with fail
  go_name_world U hU
  have HU : Hid (NwD W 0 (madeD (l.take 0)) none 0 0 none 0 0 U) := by
    rw [← hU]
    exact Lib.hid ⟨⟨Seg.nil _ _ _, Seg.nil _ _ _⟩, made_at _ _ (by simp), (Has.made W _ _).alloc _, ((Below.refl _ W).alloc (Nat.le_refl _) _).alloc (by simp) _, fun b hb => (by cases hb), rfl, rfl, rfl, Nat.le_refl _⟩
  clear hU
  go_loopw [9] (fun x wr => ∃ (k : Nat) (pa : Option Addr) (pn pc : Nat) (la : Option Addr) (ln lc : Nat), x = .int .i64 k ∧ k ≤ n ∧ Hid (NwD W k (madeD (l.take k)) pa pn pc la ln lc wr)) (fun x _ => n - (intOf x).toNat)
  case atStart => exact ⟨0, _, _, _, _, _, _, rfl, Nat.zero_le _, HU⟩
  case round =>
    clear HU
    obtain ⟨k, pa, pn, pc, la, ln, lc, rfl, hk, HS⟩ := hrel
    by_cases hkl : k < n
    · have hki : (k : Int) < (n : Int) := by omega
      have k0 : (0 : Int) ≤ (k : Int) := by omega
      obtain ⟨x, hx⟩ : ∃ x, l[k]? = some x := ⟨_, List.getElem?_eq_getElem (by have := HN.out; omega)⟩
      obtain ⟨g, o, rfl, hg, hc⟩ := HA.out k x hx
      have c0 : wr.cell? ⟨g, o + k, none⟩ = some (.int .i64 x) := (HS.out.bel.cell (p := ⟨g, o + k, none⟩) hg).trans hc
      obtain ⟨d, hd⟩ : ∃ d, d = madeD (l.take k) := ⟨_, rfl⟩
      have HM : Hid (madeD (l.take (k + 1)) = pushD d x) := Lib.hid (by rw [hd]; exact madeD_more hx)
      rw [← hd] at HS
      clear hg hc hx hd
      go_wp2_with fail
      clear c0
      obtain ⟨T, hT⟩ : ∃ T, T = d.T := ⟨_, rfl⟩
      obtain ⟨cc, hcc⟩ : ∃ cc, cc = d.c := ⟨_, rfl⟩
      obtain ⟨V0, hV0⟩ : ∃ V, V = wr.drew := ⟨_, rfl⟩
      refine wp_region_heldK 7 (fun V => Has V (W.heap.size + 1) 30 (dsC pa pn pc la ln lc T cc)) V0 hV0 (by kernel_rfl) ?_
      have S0 : Has V0 (W.heap.size + 1) 30 (dsC pa pn pc la ln lc T cc) := by rw [hV0, hT, hcc]; exact HS.out.bx
      have N0 : Hid (NwD W k d pa pn pc la ln lc V0) := by rw [hV0]; exact Lib.hid ⟨HS.out.dm.drew, HS.out.bx, HS.out.rz, HS.out.bel.drew, HS.out.lo, HS.out.fa⟩
      clear hV0 HS
      have HTC := Lib.hid (And.intro hT hcc)
      clear hT hcc
      refine heldK_take 0 (some 14) (v := .pointer (some ⟨W.heap.size + 1, 0, none⟩)) rfl rfl (by kernel_rfl) (by kernel_rfl) (by kernel_rfl) (by kernel_rfl) (by kernel_rfl) (by decide) (fun _ _ _ h => h) (.inl ⟨by kernel_rfl, fun V hV => by go_simp⟩) S0 ?_
      refine heldK_take 1 (some 15) (v := .slice pa pn pc) rfl rfl (by kernel_rfl) (by kernel_rfl) (by kernel_rfl) (by kernel_rfl) (by kernel_rfl) (by decide) (fun _ _ _ h => h) (.inl ⟨by kernel_rfl, fun V hV => by (have c1 : V.cell? ⟨W.heap.size + 1, 0, none⟩ = some (.slice pa pn pc) := Has.cell (show Has V (W.heap.size + 1) 30 (dsC pa pn pc la ln lc T cc) from hV) 0); go_simp⟩) S0 ?_
      refine heldK_take 2 (some 16) (v := .int .i64 x) rfl rfl (by kernel_rfl) (by kernel_rfl) (by kernel_rfl) (by kernel_rfl) (by kernel_rfl) (by decide) (fun _ _ _ h => h) (.inl ⟨by kernel_rfl, fun V hV => by go_simp⟩) S0 ?_
      simp only [Act.put, List.setIfInBounds_toArray, List.set_cons_zero, List.set_cons_succ]
      refine heldK_one (i := 3) (by kernel_rfl) ?_
      refine wpOp_call (some 17) rfl rfl (by kernel_rfl) 25 Try.f25 Try.func25 (by kernel_rfl) (by kernel_rfl) _ _ rfl #[.int .i64 x] (by first | (simp [Act.eval]; done) | (simp [Act.eval, Act.put]; done)) (dpace_calls x V0) ?_
      rintro en V1 ⟨rfl, rfl⟩
      refine ⟨_, rfl, S0, ?_⟩
      simp only [Act.put, List.setIfInBounds_toArray, List.set_cons_zero, List.set_cons_succ]
      refine heldK_one (i := 4) (by kernel_rfl) ?_
      refine wpOp_value (some 18) (v := .slice (some ⟨V0.heap.size, 0, none⟩) 1 1) (w' := V0.alloc (.cells #[.int .i64 (bnd x)] 3)) rfl rfl (by kernel_rfl) (by go_simp) ⟨S0.alloc _, ?_⟩
      simp only [Act.put, List.setIfInBounds_toArray, List.set_cons_zero, List.set_cons_succ]
      refine heldK_one (i := 5) (by kernel_rfl) ?_
      refine wpOp_wp (o := ⟨some 19, _, _, _, _, _⟩) rfl (by kernel_rfl) (wp_append_seg _ (.tmp 15) (.tmp 18) 22 rfl 3 z0i z0 1 8 Try.underlying22 HI0.out HZ0.out hz1 hz3 hz2 (by decide) (.slice pa pn pc) pn (d.P.map (Value.int .i64)) rfl ((N0.out.dm.alloc _).pac) ⟨V0.heap.size, 0, none⟩ 1 1 [.int .i64 (bnd x)] rfl rfl (World.news_of_block (heap_alloc_new _ _)) (by simp [Value.oneCell']) (by decide) (by have := N0.out.fa; have := N0.out.dm.pn_; unfold maxLen; omega) (by have := N0.out.fa; have := N0.out.dm.pn_; omega) _ rfl ?_)
      intro g3 o3 c3 V2 sg gr hat hlt
      have X2 : Has V2 (W.heap.size + 1) 30 (dsC pa pn pc la ln lc T cc) := (S0.alloc _).grown gr (fun e => N0.out.dm.pac.ne N0.out.bx (by decide) e.symm)
      have K2 : Hid (Dm V2 (some ⟨g3, o3, none⟩) (pn + 1) c3 la ln lc { d with P := d.P ++ [bnd x] } ∧ Has V2 W.heap.size 30 dsZ ∧ Below W.heap.size W V2 ∧ W.heap.size ≤ g3) := by
        have t2 : Turn (fun j => (Value.slice pa pn pc).ownBlock = some j) _ V2 := (Turn.refl (fun j => (Value.slice pa pn pc).ownBlock = some j) _).grown gr (fun j e _ => e)
        have bl := N0.out.bel.size
        refine Lib.hid ⟨⟨by rw [List.map_append]; exact sg, (N0.out.dm.alloc _).lst.turn t2 (fun b hb e => ?_)⟩, (N0.out.rz.alloc _).grown gr (fun e => N0.out.dm.pac.ne N0.out.rz (by decide) e.symm), Below.grown (N0.out.bel.alloc bl _) gr (by simp; omega) (fun k e => N0.out.lo k e), ?_⟩
        · obtain ⟨cs, hh⟩ := seg_has N0.out.dm.pac e
          exact N0.out.dm.lst.ne hh (by decide) hb
        · rcases hat with e | e
          · exact N0.out.lo _ e
          · rw [e]; simp; omega
      clear sg gr hat hlt S0
      refine ⟨X2, ?_⟩
      simp only [Act.put, List.setIfInBounds_toArray, List.set_cons_zero, List.set_cons_succ]
      refine heldK_take 6 (some 20) (v := .pointer (some ⟨W.heap.size + 1, 0, none⟩)) rfl rfl (by kernel_rfl) (by kernel_rfl) (by kernel_rfl) (by kernel_rfl) (by kernel_rfl) (by decide) (fun _ _ _ h => h) (.inl ⟨by kernel_rfl, fun V hV => by go_simp⟩) X2 ?_
      simp only [Act.put, List.setIfInBounds_toArray, List.set_cons_zero, List.set_cons_succ]
      have k1 : V2.cell? ⟨W.heap.size + 1, 0, none⟩ = some (.slice pa pn pc) := X2.cell 0
      have f1 : V2.frozen? ⟨W.heap.size + 1, 0, none⟩ = false := X2.free 0
      refine heldK_at (by kernel_rfl) ?_
      refine wpOp_skip (w' := V2.setCell ⟨W.heap.size + 1, 0, none⟩ (.slice (some ⟨g3, o3, none⟩) (pn + 1) c3)) rfl rfl (by kernel_rfl) (by go_simp) ?_
      refine heldK_done (by kernel_rfl) ?_ _
      obtain ⟨V3, hV3⟩ : ∃ V3, V3 = V2.setCell ⟨W.heap.size + 1, 0, none⟩ (.slice (some ⟨g3, o3, none⟩) (pn + 1) c3) := ⟨_, rfl⟩
      have K3 : Hid (Dm V3 (some ⟨g3, o3, none⟩) (pn + 1) c3 la ln lc { d with P := d.P ++ [bnd x] } ∧ Has V3 (W.heap.size + 1) 30 (dsC (some ⟨g3, o3, none⟩) (pn + 1) c3 la ln lc T cc) ∧ Has V3 W.heap.size 30 dsZ ∧ Below W.heap.size W V3) := by
        have t3 : Turn (fun j => j = W.heap.size + 1) V2 V3 := by rw [hV3]; exact (Turn.refl (fun j => j = W.heap.size + 1) V2).put (fun _ => rfl) 0 _
        exact Lib.hid ⟨K2.out.1.other X2 t3 (by decide) (by decide), by rw [hV3]; simpa using X2.put 0 (.slice (some ⟨g3, o3, none⟩) (pn + 1) c3), K2.out.2.1.turn t3 (by omega), K2.out.2.2.1.trans (t3.below K2.out.2.2.1.size (fun j hj e => by omega))⟩
      rw [← hV3]
      clear hV3 X2 k1 f1
      have x0 : V3.cell? ⟨W.heap.size + 1, 0, none⟩ = some (.slice (some ⟨g3, o3, none⟩) (pn + 1) c3) := K3.out.2.1.cell 0
      have x1 : V3.cell? ⟨W.heap.size + 1, 1, none⟩ = some (.slice la ln lc) := K3.out.2.1.cell 1
      have x2 : V3.cell? ⟨W.heap.size + 1, 2, none⟩ = some (.int .i64 T) := K3.out.2.1.cell 2
      have x3 : V3.cell? ⟨W.heap.size + 1, 3, none⟩ = some (.int .i64 cc) := K3.out.2.1.cell 3
      go_wp2_with fail
      clear x0 x1 x2 x3
      have hfa := N0.out.fa
      have hpc : sch.pace (d.P ++ [bnd x]) k = bnd x := pace_get (by rw [List.getElem?_append_right (by omega), hfa.1, Nat.sub_self]; rfl)
      have hdue := K3.out.1.due1 k (by show k < (d.P ++ [bnd x]).length; rw [List.length_append, hfa.1]; simp) (by show 0 ≤ d.T; omega) (by show d.T ≤ _; omega) (by show sch.pace (d.P ++ [bnd x]) k ≤ _; rw [hpc]; exact (bnd_range x).2) (by show 0 ≤ d.c; omega) (by show d.c ≤ _; have := HN.out; omega) (by show d.L.length ≤ _; have := HN.out; omega) (by show (d.P ++ [bnd x]).length ≤ _; rw [List.length_append, hfa.1]; have := HN.out; simp; omega)
      have hdue2 : Calls Try.prog 26 #[.agg (dsC (some ⟨g3, o3, none⟩) (pn + 1) c3 la ln lc T cc), .int .i64 k] V3 (DuPost (some ⟨g3, o3, none⟩) (pn + 1) c3 (pushD d x) V3) := by
        rw [HTC.out.1, HTC.out.2]
        have e : pushD d x = sch.due { d with P := d.P ++ [bnd x] } k := by unfold pushD; rw [hfa.1]
        rw [e]
        exact hdue
      have hfa2 : (pushD d x).P.length = k + 1 ∧ (pushD d x).T = 0 ∧ (pushD d x).c = ((k + 1 : Nat) : Int) ∧ (pushD d x).L.length ≤ k + 1 := by
        unfold pushD sch.due
        split
        · exact ⟨by show (d.P ++ [bnd x]).length = _; rw [List.length_append, hfa.1]; rfl, hfa.2.1, by show d.c + 1 = _; omega, by show (d.L ++ _).length ≤ _; rw [List.length_append]; simp; omega⟩
        · exact ⟨by show (d.P ++ [bnd x]).length = _; rw [List.length_append, hfa.1]; rfl, hfa.2.1, by show d.c + 1 = _; omega, by show d.L.length ≤ _; omega⟩
      have HFA := Lib.hid hfa2
      clear hdue hfa hpc hfa2
      refine hdue2.mono ?_
      rintro en w6 ⟨la6, ln6, lc6, rfl, hd6, b6⟩
      have K6 : Hid (Dm w6 (some ⟨g3, o3, none⟩) (pn + 1) c3 la6 ln6 lc6 (pushD d x) ∧ Has w6 (W.heap.size + 1) 30 (dsC (some ⟨g3, o3, none⟩) (pn + 1) c3 la ln lc T cc) ∧ Has w6 W.heap.size 30 dsZ ∧ Below W.heap.size W w6) := Lib.hid ⟨hd6, K3.out.2.1.below b6 K3.out.2.1.lt, K3.out.2.2.1.below b6 K3.out.2.2.1.lt, K3.out.2.2.2.trans (b6.mono K3.out.2.2.2.size)⟩
      have HG := Lib.hid K2.out.2.2.2
      clear hd6 b6 hdue2 K3 K2 N0
      go_wp2_with (first
        | ((with_reducible refine at_store (.tmp 3) ?_); refine wpList_store_ds (o := ⟨none, _, _, _, _, _⟩) rfl _ _ rfl (W.heap.size + 1) rfl rfl K6.out.2.1 (by simp [Value.oneCell']) ?_; intro W7 h7 t7
           (have K7 : Hid (NwD W (k + 1) (madeD (l.take (k + 1))) (some ⟨g3, o3, none⟩) (pn + 1) c3 la6 ln6 lc6 W7) := by
             rw [HM.out]
             exact Lib.hid ⟨K6.out.1.other K6.out.2.1 t7 (by decide) (by decide), h7, K6.out.2.2.1.turn t7 (by omega), K6.out.2.2.2.trans (t7.below K6.out.2.2.2.size (fun j hj e => by omega)), fun b hb => by have := own_of hb; have := HG.out; omega, HFA.out⟩)
           (clear h7 t7 K6))
        | fail)
      refine ⟨⟨k + 1, _, _, _, _, _, _, by rw [Int.natCast_add]; rfl, by omega, K7⟩, ?_⟩
      show n - ((k : Int) + 1).toNat < n - ((k : Int)).toNat
      omega
    · obtain rfl : k = n := by omega
      have hkn : ¬ (k : Int) < (k : Int) := by omega
      have x0 : wr.cell? ⟨W.heap.size + 1, 0, none⟩ = some (.slice pa pn pc) := HS.out.bx.cell 0
      have x1 : wr.cell? ⟨W.heap.size + 1, 1, none⟩ = some (.slice la ln lc) := HS.out.bx.cell 1
      have x2 : wr.cell? ⟨W.heap.size + 1, 2, none⟩ = some (.int .i64 (madeD (l.take k)).T) := HS.out.bx.cell 2
      have x3 : wr.cell? ⟨W.heap.size + 1, 3, none⟩ = some (.int .i64 (madeD (l.take k)).c) := HS.out.bx.cell 3
      go_wp2_with (first
        | ((with_reducible refine at_store (.tmp 2) ?_); refine wpList_store_ds (o := ⟨none, _, _, _, _, _⟩) rfl _ _ rfl W.heap.size rfl rfl HS.out.rz (by simp [Value.oneCell']) ?_; intro W7 h7 t7)
        | fail)
      have e : l.take k = l := List.take_of_length_le (by have := HN.out; omega)
      refine bodyPost_ret (res_ds rfl _ _ W.heap.size _ _ _ _ rfl h7) rfl ?_
      have h8 := HS.out.dm.other HS.out.rz t7 (by decide) (by decide)
      rw [e] at h8 ⊢
      exact ⟨_, _, _, _, _, _, rfl, h8, HS.out.bel.trans (t7.below HS.out.bel.size (fun j hj e => by omega)), HS.out.lo⟩
end Go.Proofs.Ytbpnbnbglfiglaa.sch
