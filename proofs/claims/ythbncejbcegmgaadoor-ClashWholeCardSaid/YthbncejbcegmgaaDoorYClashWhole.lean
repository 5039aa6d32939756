/- ClashWhole: for every list of texts and all numbers the law answers true, and its arguments read afterwards as they did. Conditions: the row lists three package-level variables (digest's table of rounds, both tables of math/bits), which the card ties to the program's text. -/
import Derived.Test.YthbncejbcegmgaaDoorY014
import Derived.Test.YthbncejbcegmgaaDoorYClaE
import Derived.Test.YthbncejbcegmgaaDoorY010
import Derived.Test.YthbncejbcegmgaaDoorY011
import Derived.Test.YthbncejbcegmgaaDoorCards
import Derived.Test.YthbncejbcegmgaaDoorTie
import Derived.ProofKit
import Derived.OpenShut
import Derived.SevenTiedAt
namespace Go.Proofs.YthbncejbcegmgaaDoor.clashWhole
open Go Go.ChangeShapes Go.WideShapes Go.ChangeAt Go.RowKit Go.Proofs.YthbncejbcegmgaaDoor.dig Go.Proofs.YthbncejbcegmgaaDoor.prf Go.Proofs.YthbncejbcegmgaaDoor.prn Go.Proofs.YthbncejbcegmgaaDoor.clash Go.Proofs.YthbncejbcegmgaaDoor.tree

def Arg0 (w : World) (a : Option Addr) (len cap : Nat) : Prop := ∃ T, ArgS w a len cap T
theorem opened0 {H : Type} {enc : TypeId × Value → H} {w : World} {spare : Nat → Bool} {held : Bool} {a : Option Addr} {len cap : Nat} {d : DataW H} {p : List MemPlace} (h : DataW.Trod enc Tryd.prog w 0 spare held 22 (.slice a len cap) d p) : Arg0 w a len cap := openedStrs h

/-- What lasts where the numbers are made. -/
def Nu (w : World) (g off c : Nat) (L : List ByteArray) (V : World) : Prop := Rt w.heap.size V ∧ Below w.heap.size w V ∧ Strs V (.slice (some ⟨g, off, none⟩) L.length c) L ∧ g < V.heap.size
theorem Nu.below {w : World} {g off c : Nat} {L : List ByteArray} {V V' : World} (h : Nu w g off c L V) (b : Below V.heap.size V V') : Nu w g off c L V' :=
  ⟨h.1.below b h.2.1.size, h.2.1.trans (b.mono h.2.1.size), ⟨h.2.2.1.1.below b (fun _ hx => h.2.2.1.1.lt hx), h.2.2.1.2⟩, Nat.lt_of_lt_of_le h.2.2.2 b.size⟩

/-- What lasts where the way is looked at. -/
structure Wy (w : World) (tb g off c : Nat) (L : List ByteArray) (p : Nat) (s : ByteArray) (gw ow M : Nat) (t0 tl : ByteArray) (g15 : Nat) (R : List UInt8) (V : World) : Prop where
  k : Cw w tb g off c L V
  c0 : V.cell? ⟨gw, ow, none⟩ = some (.string t0)
  c1 : V.cell? ⟨gw, ow + M, none⟩ = some (.string tl)
  c2 : V.cell? ⟨g, off + p, none⟩ = some (.string s)
  lt : gw < V.heap.size
  r : Has V g15 33 (cellsOf R)
theorem Wy.below {w : World} {tb g off c : Nat} {L : List ByteArray} {p : Nat} {s : ByteArray} {gw ow M : Nat} {t0 tl : ByteArray} {g15 : Nat} {R : List UInt8} {V V' : World} (h : Wy w tb g off c L p s gw ow M t0 tl g15 R V) (b : Below V.heap.size V V') : Wy w tb g off c L p s gw ow M t0 tl g15 R V' :=
  ⟨h.k.below b, by rw [← h.c0]; unfold World.cell?; rw [b.block gw h.lt], by rw [← h.c1]; unfold World.cell?; rw [b.block gw h.lt], by rw [← h.c2]; unfold World.cell?; rw [b.block g h.k.glt], Nat.lt_of_lt_of_le h.lt b.size, h.r.below b h.r.lt⟩

set_option maxRecDepth 100000 in
set_option maxHeartbeats 8000000 in
theorem walk (a : Option Addr) (len cap : Nat) (n i m : Int) (w : World) (hA : Arg0 w a len cap) (hn : (Lit.int .i64 n).wf = true) (_hi : (Lit.int .i64 i).wf = true) (_hm : (Lit.int .i64 m).wf = true) (hP : Rt w.heap.size w) :
    Calls Tryd.prog 4 #[.slice a len cap, .int .i64 n, .int .i64 i, .int .i64 m] w fun en w' => en = .returned (.bool true) ∧ Below w.heap.size w w' := by
  obtain ⟨T, hT⟩ := hA
  have hn2 := wf_i64 hn
  obtain ⟨x, hx⟩ : ∃ x : Int, max n 0 = x := ⟨_, rfl⟩
  obtain ⟨k, hk⟩ : ∃ k : Nat, min x 24 = (k : Int) := ⟨(min x 24).toNat, by omega⟩
  have hk24 : k ≤ 24 := by omega
  have HT := Lib.hid (show _ ∧ _ from ⟨hT, hP⟩)
  clear hT hP hn hn2
  go_enter Tryd.func4, Tryd.ntmps4
  go_wp2_with fail
  refine (clawake_calls w HT.out.2.rk).mono ?_
  rintro en w1 ⟨rfl, b1⟩
  have R1 : Hid (Rt w.heap.size w1 ∧ Below w.heap.size w w1 ∧ ArgS w1 a len cap T) := Lib.hid ⟨HT.out.2.below b1 (Nat.le_refl _), b1, HT.out.1.1, HT.out.1.2.1, fun k hk => by
    obtain ⟨gb, go, h1, h2, h3, h4⟩ := HT.out.1.2.2 k hk
    exact ⟨gb, go, h1, Nat.lt_of_lt_of_le h2 b1.size, by rw [← h3]; unfold World.cell?; rw [b1.block gb h2], h4⟩⟩
  clear b1 HT
  go_wp2_with fail
  refine (leaves_calls a len cap T k w1 R1.out.2.2 (by omega) (by omega)).mono ?_
  rintro en w2 ⟨v, L, rfl, hs2, hlen, lo2, b2, hne⟩
  have hlen2 : L.length = k := by omega
  obtain ⟨a0, c, rfl, hc1, hc2⟩ := hs2.1.slice
  obtain ⟨g, off, rfl⟩ : ∃ g off, a0 = some ⟨g, off, none⟩ := by
    rcases hs2.1.2 with ⟨h, _⟩ | ⟨g, off, cp, cur, h, _⟩
    · exact absurd h hne
    · simp only [Value.slice.injEq] at h; exact ⟨g, off, h.1⟩
  have R2 : Hid (Nu w g off c L w2 ∧ w1.heap.size ≤ g) := Lib.hid ⟨⟨R1.out.1.below b2 R1.out.2.1.size, R1.out.2.1.trans (b2.mono R1.out.2.1.size), hs2, hs2.1.lt rfl⟩, lo2 g rfl⟩
  rw [hlen2]
  have HL := Lib.hid hlen2
  clear hs2 lo2 b2 R1 hlen hlen2 hc2 hc1 hne hx hk
  by_cases hk0 : k = 0
  · subst hk0
    go_wp2_with fail
    go_ret
    exact ⟨rfl, R2.out.1.2.1⟩
  · have hk1 : ¬ (k : Int) = 0 := by omega
    have hk2 : 1 ≤ k := by omega
    have ha := and255 i
    obtain ⟨y1, hy⟩ : ∃ y : Nat, i % 256 = (y : Int) := ⟨(i % 256).toNat, by omega⟩
    rw [hy] at ha
    obtain ⟨p, hp⟩ : ∃ p : Nat, p = y1 % k := ⟨_, rfl⟩
    have hpk : p < k := by rw [hp]; exact Nat.mod_lt _ (by omega)
    have hr : (y1 : Int).tmod (k : Int) = (p : Int) := by rw [hp]; rfl
    have hb := and255 m
    obtain ⟨y2, hy2⟩ : ∃ y : Nat, m % 256 = (y : Int) := ⟨(m % 256).toNat, by omega⟩
    rw [hy2] at hb
    obtain ⟨p2, hp2⟩ : ∃ p : Nat, p = y2 % k := ⟨_, rfl⟩
    have hpk2 : p2 < k := by rw [hp2]; exact Nat.mod_lt _ (by omega)
    have hr2 : (y2 : Int).tmod (k : Int) = (p2 : Int) := by rw [hp2]; rfl
    have hr3 : (y1 : Int) % (k : Int) = (p : Int) := by rw [hp]; rfl
    have hr4 : (y2 : Int) % (k : Int) = (p2 : Int) := by rw [hp2]; rfl
    obtain ⟨m1, hm1⟩ : ∃ m1 : Nat, 1 + (p2 : Int) = (m1 : Int) := ⟨1 + p2, by omega⟩
    have hmk : m1 ≤ k ∧ 0 < m1 := by omega
    have hw1 : IntKind.i64.wrap (1 + (p2 : Int)) = (m1 : Int) := by rw [hm1]; exact IntWalk.i64_in _ ⟨by omega, by omega⟩
    have hw4 : IntKind.i64.wrap (m1 : Int) = (m1 : Int) := IntWalk.i64_in _ ⟨by omega, by omega⟩
    have hw2 : IntKind.i64.wrap (p : Int) = (p : Int) := IntWalk.i64_in _ ⟨by omega, by omega⟩
    have hw3 : IntKind.i64.wrap (p2 : Int) = (p2 : Int) := IntWalk.i64_in _ ⟨by omega, by omega⟩
    have HN := Lib.hid (show _ ∧ _ ∧ _ ∧ _ ∧ _ ∧ _ from ⟨hpk, hmk.1, hmk.2, hk24, hk2, HL.out⟩)
    clear hy hy2 hp hp2 hmk
    go_wp2_with fail
    refine wp_region_S (S := Nu w g off c L) (by kernel_rfl) (R2.out.1.below (Below.refl _ _).drew) ?_
    refine AnyS.pure 0 (some 37) (v := .int .i64 i) rfl rfl (by kernel_rfl) (by kernel_rfl) (by kernel_rfl) (fun _ _ _ h => h) (by kernel_rfl) (fun V hV => by rfl) ?_
    refine AnyS.pure 1 (some 38) (v := .int .i64 y1) rfl rfl (by kernel_rfl) (by kernel_rfl) (by kernel_rfl) (fun _ _ _ h => h) (by kernel_rfl) (fun V hV => by go_simp) ?_
    simp only [Act.put, List.setIfInBounds_toArray, List.set_cons_zero, List.set_cons_succ]
    refine AnyS.pure 2 (some 39) (v := .int .i64 k) rfl rfl (by kernel_rfl) (by kernel_rfl) (by kernel_rfl) (fun _ _ _ h => h) (by kernel_rfl) (fun V hV => by rfl) ?_
    refine AnyS.pure 3 (some 40) (v := .int .i64 p) rfl rfl (by kernel_rfl) (by kernel_rfl) (by kernel_rfl) (fun _ _ _ h => h) (by kernel_rfl) (fun V hV => by go_simp) ?_
    simp only [Act.put, List.setIfInBounds_toArray, List.set_cons_zero, List.set_cons_succ]
    refine AnyS.pure 4 (some 41) (v := .int .i64 m) rfl rfl (by kernel_rfl) (by kernel_rfl) (by kernel_rfl) (fun _ _ _ h => h) (by kernel_rfl) (fun V hV => by rfl) ?_
    refine AnyS.pure 5 (some 42) (v := .int .i64 y2) rfl rfl (by kernel_rfl) (by kernel_rfl) (by kernel_rfl) (fun _ _ _ h => h) (by kernel_rfl) (fun V hV => by go_simp) ?_
    simp only [Act.put, List.setIfInBounds_toArray, List.set_cons_zero, List.set_cons_succ]
    refine AnyS.pure 6 (some 43) (v := .int .i64 k) rfl rfl (by kernel_rfl) (by kernel_rfl) (by kernel_rfl) (fun _ _ _ h => h) (by kernel_rfl) (fun V hV => by rfl) ?_
    refine AnyS.pure 7 (some 44) (v := .int .i64 p2) rfl rfl (by kernel_rfl) (by kernel_rfl) (by kernel_rfl) (fun _ _ _ h => h) (by kernel_rfl) (fun V hV => by go_simp) ?_
    simp only [Act.put, List.setIfInBounds_toArray, List.set_cons_zero, List.set_cons_succ]
    refine AnyS.pure 8 (some 45) (v := .int .i64 m1) rfl rfl (by kernel_rfl) (by kernel_rfl) (by kernel_rfl) (fun _ _ _ h => h) (by kernel_rfl) (fun V hV => by go_simp) ?_
    refine AnyS.pure 9 (some 2) (v := .int .i64 p) rfl rfl (by kernel_rfl) (by kernel_rfl) (by kernel_rfl) (fun _ _ _ h => h) (by kernel_rfl) (fun V hV => by rfl) ?_
    simp only [Act.put, List.setIfInBounds_toArray, List.set_cons_zero, List.set_cons_succ]
    refine AnyS.pure 10 (some 3) (v := .int .i64 m1) rfl rfl (by kernel_rfl) (by kernel_rfl) (by kernel_rfl) (fun _ _ _ h => h) (by kernel_rfl) (fun V hV => by rfl) ?_
    simp only [Act.put, List.setIfInBounds_toArray, List.set_cons_zero, List.set_cons_succ]
    refine AnyS.done (by kernel_rfl) (fun V hV => ?_) _
    have RV := Lib.hid (show _ ∧ _ from ⟨hV, R2.out.2⟩)
    clear hV ha hb hr hr2 hr3 hr4 hm1 hw1 hw2 hw3 hw4 R2
    go_wp2_with fail
    refine (tnew_calls w.heap.size (leafF L) V RV.out.1.1 (leafF_len L)).mono ?_
    rintro en w3 ⟨tb, rfl, htb, tr3, b3⟩
    have R3 : Hid (Tr w.heap.size (fun k => k = tb) w3 tb 0 0 (leafF L) ∧ Nu w g off c L w3 ∧ g < tb) := Lib.hid ⟨tr3, RV.out.1.below b3, Nat.lt_of_lt_of_le RV.out.1.2.2.2 htb⟩
    clear tr3 b3 htb RV
    have hap := R3.out.1.append_calls (some ⟨g, off, none⟩) c L R3.out.2.1.2.2.1 (fun x hx e => by
      have h1 : g = x := by simpa [Value.ownBlock] using hx
      have := R3.out.2.2
      omega) (fun i s hs => by rw [Nat.zero_add]; exact leafF_at L i s hs) (by have := HN.out; omega)
    rw [HL.out, Nat.zero_add] at hap
    have HAP := Lib.hid hap
    clear hap
    go_wp2_with fail
    refine HAP.out.mono ?_
    rintro en w4 ⟨rfl, tr4, t4⟩
    have R4 : Hid (Cw w tb g off c L w4) := by
      obtain ⟨h1, h2, h3⟩ := R3.out
      refine Lib.hid ⟨⟨_, by rw [HL.out]; exact tr4⟩, ⟨h2.2.2.1.1.turn t4 (fun x hx e => ?_), h2.2.2.1.2⟩, Nat.lt_of_lt_of_le h2.2.2.2 t4.size, h2.2.1.trans (t4.below h2.2.1.size (fun j hj e => by have := h1.hF j e; omega))⟩
      have h8 : g = x := by simpa [Value.ownBlock] using hx
      omega
    clear tr4 t4 HAP R3
    obtain ⟨s, hs⟩ : ∃ s, L[p]? = some s := ⟨_, List.getElem?_eq_getElem (by have := HN.out; omega)⟩
    have HSS := Lib.hid hs
    have hss : s.size ≤ 1000000 := R4.out.str.2 s (List.mem_of_getElem? hs)
    have HSZ := Lib.hid hss
    obtain ⟨e1, e2⟩ := come_path (n := k) HN.out.1 hs
    obtain ⟨r, hrr⟩ : ∃ r, r = path (leafF L) p 0 k := ⟨_, rfl⟩
    rw [← hrr] at e1 e2
    obtain ⟨M, hM⟩ : ∃ M, M = r.length := ⟨_, rfl⟩
    have hM64 : M ≤ 64 := by have h1 := turnsL_le 20 k p (by have := HN.out; omega); rw [e1, List.length_reverse, ← hM] at h1; omega
    obtain ⟨R, hR⟩ : ∃ R, R = rtAll (leafF L) k := ⟨_, rfl⟩
    have RL : Hid (R.length = 32) := Lib.hid (by rw [hR]; exact rtAll_len (leafF_len L) _)
    rw [← hR] at e2
    have HI : Hid (∀ V, Cw w tb g off c L V → Calls Tryd.prog 17 #[.pointer (some ⟨tb, 0, none⟩), .int .i64 p, .int .i64 k] V (SmPost V r)) := Lib.hid fun V hV => by
      have h := hV.incl (by have := HN.out; omega) p (by have := HN.out; omega)
      rw [HL.out, ← hrr] at h
      exact h
    have HRT : Hid (∀ V (j : Nat), Cw w tb g off c L V → j ≤ k → Calls Tryd.prog 12 #[.pointer (some ⟨tb, 0, none⟩), .int .i64 j] V fun en w' => en = .returned (.tuple #[.agg (cellsOf (rtAll (leafF L) j)), .int .i64 0]) ∧ Below V.heap.size V w') := Lib.hid fun V j hV hj => hV.root (by have := HN.out; omega) j (by have := HN.out; omega)
    have HE := Lib.hid (show _ ∧ _ ∧ _ ∧ _ ∧ _ ∧ _ from ⟨e1, e2, hrr, hM, hM64, hR⟩)
    clear hs hss e1 e2 hrr hM hR
    go_wp2_with fail
    refine (HI.out _ R4.out).mono ?_
    rintro en w5 ⟨pa, pc, rfl, sm5, b5⟩
    rw [← HE.out.2.2.2.1] at sm5 ⊢
    have R5 : Hid (Cw w tb g off c L w5 ∧ SmS w5 (.slice pa M pc) r.reverse) := Lib.hid ⟨R4.out.below b5, sm5⟩
    clear sm5 b5 R4 HI
    have q0 : w5.cell? ⟨g, off + p, none⟩ = some (.string s) := R5.out.1.cell p s HSS.out
    have hpk1 : (p : Int) < (k : Int) := by omega
    have W1 : Hid (Calls Tryd.prog 21 #[.string s, .int .i64 p, .int .i64 k, .slice pa M pc] w5 fun en w' => ∃ v, en = .returned (.tuple #[v, .bool true]) ∧ Seg w' 9 1 v (M + 1) ((txL (turnsL p k) r.reverse (leafS s.data.toList) ++ [leafT s]).map Value.string) ∧ Below w5.heap.size w5 w') := Lib.hid (by
      have h := way_calls s p k (.slice pa M pc) r w5 R5.out.1.rk HN.out.1 (by have := HN.out; omega) (by have := HSZ.out; omega) (by rw [HE.out.1, List.length_reverse]) (by
        have := R5.out.2.1
        rw [List.length_reverse, List.reverse_reverse] at this
        exact this) (fun x hx => R5.out.2.2 x (List.mem_reverse.2 hx))
      refine h.mono ?_
      rintro en w' ⟨v, rfl, sg, _, bb⟩
      refine ⟨v, rfl, ?_, bb⟩
      rw [← HE.out.2.2.2.1] at sg
      have hTM : (turnsL p k).length = M := by rw [HE.out.1, List.length_reverse, HE.out.2.2.2.1]
      rw [wayL_at (l := txL (turnsL p k) r.reverse (leafS s.data.toList)) (by rw [txL_len _ _ _ HE.out.1, hTM]) (fun q hq => by
        have h3 := txL_at (turnsL p k) r.reverse (leafS s.data.toList) HE.out.1 q (by rw [hTM]; exact hq)
        rw [hTM, List.reverse_reverse] at h3
        rw [h3, leafT_list]
        rfl)] at sg
      exact sg)
    go_wp2_with fail
    refine W1.out.mono ?_
    rintro en w6 ⟨v, rfl, sg6, b6⟩
    obtain ⟨va, wc, rfl, hv1, hv2⟩ := sg6.slice
    obtain ⟨gw, ow, hcell6⟩ : ∃ gw ow, va = some ⟨gw, ow, none⟩ ∧ gw < w6.heap.size ∧ ∀ j u, ((txL (turnsL p k) r.reverse (leafS s.data.toList) ++ [leafT s]).map Value.string)[j]? = some u → w6.cell? ⟨gw, ow + j, none⟩ = some u := by
      obtain ⟨g', o', c', e, hg, _, _, hc⟩ := sg6.cells (by omega)
      simp only [Value.slice.injEq] at e
      exact ⟨g', o', e.1, hg, hc⟩
    obtain ⟨rfl, hgw, hcc⟩ := hcell6
    obtain ⟨tl, htl⟩ : ∃ tl, tl = leafT s := ⟨_, rfl⟩
    obtain ⟨t0, ht0, ht1⟩ := way_root (turnsL p k) r.reverse tl HE.out.1
    rw [htl, leafT_list] at ht0 ht1
    have ht2 : sum t0.data.toList = R := by
      rw [ht1]
      exact HE.out.2.1
    have hTM : (turnsL p k).length = M := by rw [HE.out.1, List.length_reverse, HE.out.2.2.2.1]
    have k0 : w6.cell? ⟨gw, ow, none⟩ = some (.string t0) := hcc 0 _ (by rw [List.getElem?_map]; exact congrArg (Option.map Value.string) ht0)
    have k1 : w6.cell? ⟨gw, ow + M, none⟩ = some (.string tl) := hcc M _ (by rw [List.getElem?_map, List.getElem?_append_right (by rw [txL_len _ _ _ HE.out.1]; omega), txL_len _ _ _ HE.out.1, hTM, Nat.sub_self, htl]; rfl)
    have ht3 : t0.size < 1000000000000000000 := by
      have h1 := List.mem_of_getElem? ht0
      rcases List.mem_append.1 h1 with h2 | h2
      · rw [txL] at h2
        obtain ⟨y, hy, rfl⟩ := List.mem_map.1 h2
        have := texX_size _ _ _ (leafS_length _) (fun x hx => R5.out.2.2 x hx) y hy
        simp [ByteArray.size, this]
      · rw [List.mem_singleton.1 h2, leafT_size]
        have := HSZ.out
        omega
    have R6 : Hid (Cw w tb g off c L w6 ∧ w6.cell? ⟨gw, ow, none⟩ = some (.string t0) ∧ w6.cell? ⟨gw, ow + M, none⟩ = some (.string tl) ∧ gw < w6.heap.size) := Lib.hid ⟨R5.out.1.below b6, k0, k1, hgw⟩
    have HTL : Hid ((⟨#[0]⟩ : ByteArray) ++ s = tl ∧ s.size ≤ 1000000) := Lib.hid ⟨htl.symm, HSZ.out⟩
    have HT0 := Lib.hid (show _ ∧ _ from ⟨ht2, ht3⟩)
    obtain ⟨lw, hlw⟩ : ∃ lw, lw = M + 1 := ⟨_, rfl⟩
    rw [← hlw] at hv1 ⊢
    have f1 : (M : Int) + 1 = (lw : Int) := by omega
    have f2 : (lw : Int) - 1 = (M : Int) := by omega
    have f3 : (M : Int) < (lw : Int) := by omega
    have f4 : (0 : Int) < (lw : Int) := by omega
    have f5 : ¬ lw = 0 := by omega
    have f6 : (lw : Int) ≤ 65 := by omega
    have f7 : (M : Int) ≤ 64 := by omega
    have hwl : IntKind.i64.wrap (lw : Int) = (lw : Int) := IntWalk.i64_in _ ⟨by omega, by omega⟩
    have hwM : IntKind.i64.wrap (M : Int) = (M : Int) := IntWalk.i64_in _ ⟨by omega, by omega⟩
    have HLW := Lib.hid hlw
    clear hlw sg6 b6 hcc htl ht0 ht1 ht2 ht3 k0 k1 hgw hTM R5 q0 W1 hv2
    go_wp2_with fail
    refine (HRT.out _ k R6.out.1 (Nat.le_refl _)).mono ?_
    rw [← HE.out.2.2.2.2.2]
    rintro en w7 ⟨rfl, b7⟩
    have R7 : Hid (Cw w tb g off c L w7 ∧ w7.cell? ⟨gw, ow, none⟩ = some (.string t0) ∧ w7.cell? ⟨gw, ow + M, none⟩ = some (.string tl) ∧ gw < w7.heap.size) := Lib.hid ⟨R6.out.1.below b7, by rw [← R6.out.2.1]; unfold World.cell?; rw [b7.block gw R6.out.2.2.2], by rw [← R6.out.2.2.1]; unfold World.cell?; rw [b7.block gw R6.out.2.2.2], Nat.lt_of_lt_of_le R6.out.2.2.2 b7.size⟩
    clear b7 R6
    have HRC : Hid ((cellsOf R).size = 32) := Lib.hid (by rw [cellsOf_size, RL.out])
    go_wp2_with (first
      | ((with_reducible refine at_store (.tmp 15) ?_); refine wpList_store_cells (o := ⟨none, _, _, _, _, _⟩) rfl 33 (.tmp 15) (.tmp 72) rfl w7.heap.size (cellsOf R) _ rfl rfl _ (made_at _ _ rfl) (HRC.out.symm ▸ (by kernel_rfl)) (HRC.out.symm ▸ rfl) (cellsOf_one _) ?_; intro W8 HW8 TW8;
         (have R8 : Hid (Wy w tb g off c L p s gw ow M t0 tl w7.heap.size R W8) := (by
           have bb : Below w7.heap.size w7 W8 := ((Below.refl _ _).alloc (Nat.le_refl _) _).trans (TW8.below (by simp) (fun j hj e => by omega))
           have h := R7.out.1.below bb
           exact Lib.hid ⟨h, by rw [← R7.out.2.1]; unfold World.cell?; rw [bb.block gw R7.out.2.2.2], by rw [← R7.out.2.2.1]; unfold World.cell?; rw [bb.block gw R7.out.2.2.2], h.cell p s HSS.out, Nat.lt_of_lt_of_le R7.out.2.2.2 bb.size, HW8⟩));
         clear HW8 TW8 R7)
      | fail)
    obtain ⟨g15, hg15⟩ : ∃ gg, gg = w7.heap.size := ⟨_, rfl⟩
    rw [← hg15] at R8 ⊢
    clear hg15
    have OF : Hid (∀ V, Wy w tb g off c L p s gw ow M t0 tl g15 R V → Calls Tryd.prog 22 #[.string t0] V fun en w' => en = .returned (.agg (cellsOf R)) ∧ Wy w tb g off c L p s gw ow M t0 tl g15 R w') := Lib.hid fun V hV => by
      have h := of_calls t0 V hV.k.rk HT0.out.2
      rw [HT0.out.1] at h
      exact h.mono fun _ _ h => ⟨h.1, hV.below h.2⟩
    refine wp_region_S (S := Wy w tb g off c L p s gw ow M t0 tl g15 R) (by kernel_rfl) (R8.out.below (Below.refl _ _).drew) ?_
    refine AnyS.pure 0 (some 74) (v := .bool true) rfl rfl (by kernel_rfl) (by kernel_rfl) (by kernel_rfl) (fun _ _ _ h => h) (by kernel_rfl) (fun V hV => by rfl) ?_
    refine AnyS.pure 1 (some 75) (v := .bool false) rfl rfl (by kernel_rfl) (by kernel_rfl) (by kernel_rfl) (fun _ _ _ h => h) (by kernel_rfl) (fun V hV => by go_simp) ?_
    simp only [Act.put, List.setIfInBounds_toArray, List.set_cons_zero, List.set_cons_succ]
    refine AnyS.pure 2 (some 76) (v := .bool false) rfl rfl (by kernel_rfl) (by kernel_rfl) (by kernel_rfl) (fun _ _ _ h => h) (by kernel_rfl) (fun V hV => by rfl) ?_
    refine AnyS.pure 3 (some 77) (v := .slice (some ⟨gw, ow, none⟩) lw wc) rfl rfl (by kernel_rfl) (by kernel_rfl) (by kernel_rfl) (fun _ _ _ h => h) (by kernel_rfl) (fun V hV => by rfl) ?_
    simp only [Act.put, List.setIfInBounds_toArray, List.set_cons_zero, List.set_cons_succ]
    refine AnyS.pure 4 (some 78) (v := .pointer (some ⟨gw, ow, none⟩)) rfl rfl (by kernel_rfl) (by kernel_rfl) (by kernel_rfl) (fun _ _ _ h => h) (by kernel_rfl) (fun V hV => by go_simp) ?_
    refine AnyS.pure 5 (some 79) (v := .string t0) rfl rfl (by kernel_rfl) (by kernel_rfl) (by kernel_rfl) (fun _ _ _ h => h) (by kernel_rfl) (fun V hV => by have c0 := hV.c0; go_simp) ?_
    simp only [Act.put, List.setIfInBounds_toArray, List.set_cons_zero, List.set_cons_succ]
    refine AnyS.call 6 (some 80) (.agg (cellsOf R)) rfl rfl (by kernel_rfl) (by kernel_rfl) (by kernel_rfl) (fun _ _ _ h => h) (by kernel_rfl) 22 Tryd.f22 Tryd.func22 (by kernel_rfl) (by kernel_rfl) _ _ rfl #[.string t0] (by first | (simp [Act.eval]; done) | (simp [Act.eval, Act.put]; done)) (fun V hV => OF.out V hV) ?_
    refine AnyS.pure 7 (some 81) (v := .agg (cellsOf R)) rfl rfl (by kernel_rfl) (by kernel_rfl) (by kernel_rfl) (fun _ _ _ h => h) (by kernel_rfl) (fun V hV => exec_load 33 (.tmp 15) rfl (.pointer (some ⟨g15, 0, none⟩)) (by kernel_rfl) (run_loadAt_mid V g15 0 33 (R.map byteV) _ (Has.range hV.r) Tryd.underlying33 rfl (by rw [List.length_map, RL.out]; kernel_rfl))) ?_
    simp only [Act.put, List.setIfInBounds_toArray, List.set_cons_zero, List.set_cons_succ]
    refine AnyS.pure 8 (some 82) (v := .bool false) rfl rfl (by kernel_rfl) (by kernel_rfl) (by kernel_rfl) (fun _ _ _ h => h) (by kernel_rfl) (fun V hV => by have he := run_equal_sum' R R RL.out RL.out V; simp only [beq_self_eq_true] at he; go_simp) ?_
    refine AnyS.pure 9 (some 83) (v := .bool false) rfl rfl (by kernel_rfl) (by kernel_rfl) (by kernel_rfl) (fun _ _ _ h => h) (by kernel_rfl) (fun V hV => by rfl) ?_
    simp only [Act.put, List.setIfInBounds_toArray, List.set_cons_zero, List.set_cons_succ]
    refine AnyS.pure 10 (some 84) (v := .bool false) rfl rfl (by kernel_rfl) (by kernel_rfl) (by kernel_rfl) (fun _ _ _ h => h) (by kernel_rfl) (fun V hV => by rfl) ?_
    refine AnyS.pure 11 (some 85) (v := .slice (some ⟨gw, ow, none⟩) lw wc) rfl rfl (by kernel_rfl) (by kernel_rfl) (by kernel_rfl) (fun _ _ _ h => h) (by kernel_rfl) (fun V hV => by rfl) ?_
    simp only [Act.put, List.setIfInBounds_toArray, List.set_cons_zero, List.set_cons_succ]
    refine AnyS.pure 12 (some 86) (v := .int .i64 lw) rfl rfl (by kernel_rfl) (by kernel_rfl) (by kernel_rfl) (fun _ _ _ h => h) (by kernel_rfl) (fun V hV => by go_simp) ?_
    refine AnyS.pure 13 (some 87) (v := .slice pa M pc) rfl rfl (by kernel_rfl) (by kernel_rfl) (by kernel_rfl) (fun _ _ _ h => h) (by kernel_rfl) (fun V hV => by rfl) ?_
    simp only [Act.put, List.setIfInBounds_toArray, List.set_cons_zero, List.set_cons_succ]
    refine AnyS.pure 14 (some 88) (v := .int .i64 M) rfl rfl (by kernel_rfl) (by kernel_rfl) (by kernel_rfl) (fun _ _ _ h => h) (by kernel_rfl) (fun V hV => by go_simp) ?_
    refine AnyS.pure 15 (some 89) (v := .int .i64 lw) rfl rfl (by kernel_rfl) (by kernel_rfl) (by kernel_rfl) (fun _ _ _ h => h) (by kernel_rfl) (fun V hV => by go_simp) ?_
    simp only [Act.put, List.setIfInBounds_toArray, List.set_cons_zero, List.set_cons_succ]
    refine AnyS.pure 16 (some 90) (v := .bool false) rfl rfl (by kernel_rfl) (by kernel_rfl) (by kernel_rfl) (fun _ _ _ h => h) (by kernel_rfl) (fun V hV => by go_simp) ?_
    refine AnyS.pure 17 (some 91) (v := .bool false) rfl rfl (by kernel_rfl) (by kernel_rfl) (by kernel_rfl) (fun _ _ _ h => h) (by kernel_rfl) (fun V hV => by rfl) ?_
    simp only [Act.put, List.setIfInBounds_toArray, List.set_cons_zero, List.set_cons_succ]
    refine AnyS.pure 18 (some 92) (v := .bool false) rfl rfl (by kernel_rfl) (by kernel_rfl) (by kernel_rfl) (fun _ _ _ h => h) (by kernel_rfl) (fun V hV => by rfl) ?_
    refine AnyS.pure 19 (some 93) (v := .slice (some ⟨gw, ow, none⟩) lw wc) rfl rfl (by kernel_rfl) (by kernel_rfl) (by kernel_rfl) (fun _ _ _ h => h) (by kernel_rfl) (fun V hV => by rfl) ?_
    simp only [Act.put, List.setIfInBounds_toArray, List.set_cons_zero, List.set_cons_succ]
    refine AnyS.pure 20 (some 94) (v := .slice (some ⟨gw, ow, none⟩) lw wc) rfl rfl (by kernel_rfl) (by kernel_rfl) (by kernel_rfl) (fun _ _ _ h => h) (by kernel_rfl) (fun V hV => by rfl) ?_
    refine AnyS.pure 21 (some 95) (v := .int .i64 lw) rfl rfl (by kernel_rfl) (by kernel_rfl) (by kernel_rfl) (fun _ _ _ h => h) (by kernel_rfl) (fun V hV => by go_simp) ?_
    simp only [Act.put, List.setIfInBounds_toArray, List.set_cons_zero, List.set_cons_succ]
    refine AnyS.pure 22 (some 96) (v := .int .i64 M) rfl rfl (by kernel_rfl) (by kernel_rfl) (by kernel_rfl) (fun _ _ _ h => h) (by kernel_rfl) (fun V hV => by go_simp) ?_
    refine AnyS.pure 23 (some 97) (v := .pointer (some ⟨gw, ow + M, none⟩)) rfl rfl (by kernel_rfl) (by kernel_rfl) (by kernel_rfl) (fun _ _ _ h => h) (by kernel_rfl) (fun V hV => by go_simp) ?_
    simp only [Act.put, List.setIfInBounds_toArray, List.set_cons_zero, List.set_cons_succ]
    refine AnyS.pure 24 (some 98) (v := .string tl) rfl rfl (by kernel_rfl) (by kernel_rfl) (by kernel_rfl) (fun _ _ _ h => h) (by kernel_rfl) (fun V hV => by have c1 := hV.c1; go_simp) ?_
    refine AnyS.pure 25 (some 99) (v := .slice (some ⟨g, off, none⟩) k c) rfl rfl (by kernel_rfl) (by kernel_rfl) (by kernel_rfl) (fun _ _ _ h => h) (by kernel_rfl) (fun V hV => by rfl) ?_
    simp only [Act.put, List.setIfInBounds_toArray, List.set_cons_zero, List.set_cons_succ]
    refine AnyS.pure 26 (some 100) (v := .int .i64 p) rfl rfl (by kernel_rfl) (by kernel_rfl) (by kernel_rfl) (fun _ _ _ h => h) (by kernel_rfl) (fun V hV => by rfl) ?_
    refine AnyS.pure 27 (some 101) (v := .pointer (some ⟨g, off + p, none⟩)) rfl rfl (by kernel_rfl) (by kernel_rfl) (by kernel_rfl) (fun _ _ _ h => h) (by kernel_rfl) (fun V hV => by go_simp) ?_
    simp only [Act.put, List.setIfInBounds_toArray, List.set_cons_zero, List.set_cons_succ]
    refine AnyS.pure 28 (some 102) (v := .string s) rfl rfl (by kernel_rfl) (by kernel_rfl) (by kernel_rfl) (fun _ _ _ h => h) (by kernel_rfl) (fun V hV => by have c2 := hV.c2; go_simp) ?_
    refine AnyS.pure 29 (some 103) (v := .string tl) rfl rfl (by kernel_rfl) (by kernel_rfl) (by kernel_rfl) (fun _ _ _ h => h) (by kernel_rfl) (fun V hV => by have c3 := HTL.out.1; have c4 := HTL.out.2; have c5 : (⟨#[0]⟩ : ByteArray).size = 1 := rfl; go_simp; omega) ?_
    simp only [Act.put, List.setIfInBounds_toArray, List.set_cons_zero, List.set_cons_succ]
    refine AnyS.pure 30 (some 104) (v := .bool false) rfl rfl (by kernel_rfl) (by kernel_rfl) (by kernel_rfl) (fun _ _ _ h => h) (by kernel_rfl) (fun V hV => by have hss : (tl.toList == tl.toList) = true := (by simp); go_simp) ?_
    refine AnyS.pure 31 (some 105) (v := .bool false) rfl rfl (by kernel_rfl) (by kernel_rfl) (by kernel_rfl) (fun _ _ _ h => h) (by kernel_rfl) (fun V hV => by rfl) ?_
    simp only [Act.put, List.setIfInBounds_toArray, List.set_cons_zero, List.set_cons_succ]
    refine AnyS.done (by kernel_rfl) (fun V hV => ?_) _
    have R9 := Lib.hid hV.k
    clear hV R8 OF hwl hwM f1 f2 f3 f4 f5 f6 hv1 HT0 HTL
    obtain ⟨Q, hQ⟩ : ∃ Q, Q = rtAll (leafF L) m1 := ⟨_, rfl⟩
    have QL : Hid (Q.length = 32) := Lib.hid (by rw [hQ]; exact rtAll_len (leafF_len L) _)
    have HQC : Hid ((cellsOf Q).size = 32) := Lib.hid (by rw [cellsOf_size, QL.out])
    have HQ := Lib.hid hQ
    clear hQ
    go_wp2_with fail
    refine (HRT.out _ m1 R9.out HN.out.2.1).mono ?_
    rw [← HQ.out]
    rintro en wa ⟨rfl, ba⟩
    have RA := Lib.hid (R9.out.below ba)
    clear ba R9
    have hst := steps_told (L := L) (m := m1) (n := k) HN.out.2.2.1 HN.out.2.1
    obtain ⟨SL, hSL⟩ : ∃ SL, SL = stepsL L m1 k := ⟨_, rfl⟩
    rw [← hSL] at hst
    have HC : Hid (∀ V, Cw w tb g off c L V → Calls Tryd.prog 19 #[.pointer (some ⟨tb, 0, none⟩), .int .i64 m1, .int .i64 k] V (SmPost V SL)) := Lib.hid fun V hV => by
      have h := hV.cons (by have := HN.out; omega) m1 (by have := HN.out; omega)
      rw [HL.out, ← hSL] at h
      exact h
    have HSL := Lib.hid (show _ ∧ _ from ⟨hst, hSL⟩)
    clear hst hSL
    go_wp2_with (first
      | ((with_reducible refine at_store (.tmp 17) ?_); refine wpList_store_cells (o := ⟨none, _, _, _, _, _⟩) rfl 33 (.tmp 17) (.tmp 110) rfl wa.heap.size (cellsOf Q) _ rfl rfl _ (made_at _ _ rfl) (HQC.out.symm ▸ (by kernel_rfl)) (HQC.out.symm ▸ rfl) (cellsOf_one _) ?_; intro Wb HWb TWb;
         (have RB : Hid (Cw w tb g off c L Wb ∧ Has Wb wa.heap.size 33 (cellsOf Q)) := (by
           have bb : Below wa.heap.size wa Wb := ((Below.refl _ _).alloc (Nat.le_refl _) _).trans (TWb.below (by simp) (fun j hj e => by omega))
           exact Lib.hid ⟨RA.out.below bb, HWb⟩));
         clear HWb TWb RA)
      | fail)
    refine (HC.out _ RB.out.1).mono ?_
    rintro en wc2 ⟨qa, qc, rfl, smc, bc⟩
    obtain ⟨q, hq⟩ : ∃ q, q = SL.length := ⟨_, rfl⟩
    rw [← hq] at smc ⊢
    have HQL := Lib.hid hq
    have RC : Hid (Cw w tb g off c L wc2 ∧ Has wc2 wa.heap.size 33 (cellsOf Q) ∧ SmS wc2 (.slice qa q qc) SL.reverse) := Lib.hid ⟨RB.out.1.below bc, RB.out.2.below bc RB.out.2.lt, smc⟩
    clear hq smc bc RB HC
    obtain ⟨BX, hBX⟩ : ∃ BX, BX = besideX (leafF L) (turnsP (m1 - 1) k) 0 k := ⟨_, rfl⟩
    obtain ⟨EX, hEX⟩ : ∃ EX, EX = endX (leafF L) (turnsP (m1 - 1) k) 0 k := ⟨_, rfl⟩
    have hst := HSL.out.1
    rw [← hBX, ← hEX] at hst
    obtain ⟨PL, hPL⟩ : ∃ PL, PL = (txL (turnsP (m1 - 1) k) BX EX).zip (txL (turnsP (m1 - 1) k) BX EX) := ⟨_, rfl⟩
    have HSD : Hid (Calls Tryd.prog 23 #[.int .i64 m1, .agg (cellsOf Q), .slice (some ⟨g, off, none⟩) k c, .slice qa q qc] wc2 (SidesPost wc2 PL)) := Lib.hid (by
      have h := sides_calls L RC.out.1.str.2 (by have := HN.out; omega) g off c m1 HN.out.2.2.1 (by have := HN.out; omega) RC.out.1.cap.1 RC.out.1.cap.2 Q QL.out (.slice qa q qc) SL (fun x hx => RC.out.2.2.2 x (List.mem_reverse.2 hx)) EX BX.reverse (by rw [List.length_reverse, hBX, besideX_len, HL.out]) (by
        rw [HL.out]
        rcases hst with ⟨h1, h2, h3⟩ | ⟨h1, h2⟩
        · exact .inl ⟨h1, h2, by rw [h3, HQ.out]⟩
        · exact .inr ⟨h1, h2⟩) wc2 RC.out.1.rk RC.out.1.glt (fun i s hs => RC.out.1.cell i s hs) (by
          have := RC.out.2.2.1
          rw [List.length_reverse, List.reverse_reverse] at this
          rw [HQL.out] at this ⊢
          exact this)
      rw [HL.out, ← hBX, ← hEX, List.reverse_reverse, ← hPL] at h
      exact h)
    obtain ⟨lq, hlq⟩ : ∃ lq, lq = PL.length := ⟨_, rfl⟩
    have hlq2 : lq = (turnsP (m1 - 1) k).length := by
      rw [hlq, hPL, List.length_zip, txL_len _ _ _ (by rw [hBX, besideX_len]), Nat.min_self]
    have hlq3 : lq ≤ 64 := by rw [hlq2]; have := turnsP_le 20 k (m1 - 1) (by have := HN.out; omega); omega
    have hlq4 : lq = 0 ↔ m1 = k := by
      rw [hlq2]
      have := HN.out
      constructor
      · intro h
        rcases Nat.lt_or_ge m1 k with h2 | h2
        · rw [turnsP, dif_pos (by omega)] at h
          split at h <;> simp at h
        · omega
      · intro h
        rw [turnsP_end (by omega)]
        rfl
    have hsame : ∀ (j : Nat) q, PL[j]? = some q → q.1 = q.2 ∧ q.1.size < 1000000 := fun j q hj => by
      rw [hPL] at hj
      obtain ⟨h1, h2⟩ := List.getElem?_zip_eq_some.1 hj
      rw [h1] at h2
      refine ⟨Option.some.inj h2, ?_⟩
      have h3 := List.mem_of_getElem? h1
      rw [txL] at h3
      obtain ⟨y, hy, e⟩ := List.mem_map.1 h3
      have hball := beside_all (leafF L) (leafF_len L) k (m1 - 1) 0 (by have := HN.out; omega)
      rw [← hBX, ← hEX] at hball
      have := texX_size _ _ _ hball.2 hball.1 y hy
      rw [← e]
      simp [ByteArray.size, this]
    have HPQ := Lib.hid (show _ ∧ _ ∧ _ ∧ _ from ⟨hlq, hlq3, hlq4, hsame⟩)
    clear hst hBX hEX hPL hlq hlq2 hlq3 hlq4 hsame
    obtain ⟨g17, hg17⟩ : ∃ gg, gg = wa.heap.size := ⟨_, rfl⟩
    rw [← hg17] at RC ⊢
    clear hg17
    go_wp2_with (first
      | ((with_reducible refine at_op 121 ?_); refine wpList_load_row (o := ⟨some 121, _, _, _, _, _⟩) rfl 33 _ rfl g17 rfl 33 (cellsOf Q) (0, 0) _ RC.out.2.1 Tryd.underlying33 rfl (by rw [HQC.out]; kernel_rfl) ?_)
      | fail)
    refine HSD.out.mono ?_
    rintro en wd ⟨gq, rfl, sgd, bd⟩
    rw [← HPQ.out.1] at sgd ⊢
    have hlq64 : (lq : Int) ≤ 64 := by have := HPQ.out.2.1; omega
    have HCQ : Hid (∀ (j : Nat) pr, PL[j]? = some pr → gq < wd.heap.size ∧ wd.rangeAt gq (j * 2) (pairC pr)) := Lib.hid fun j pr hj => by
      have hjl := (List.getElem?_eq_some_iff.1 hj).1
      obtain ⟨g', o', c', e, hg, _, _, hc⟩ := sgd.cells (by have := HPQ.out.1; omega)
      simp only [Value.slice.injEq, Option.some.injEq, Addr.mk.injEq] at e
      obtain ⟨⟨rfl, rfl, _⟩, _, _⟩ := e
      refine ⟨hg, fun r u hr => ?_⟩
      have h2 : r < 2 := by have := (List.getElem?_eq_some_iff.1 hr).1; simpa [pairC] using this
      have h3 := hc (j * 2 + r) u ((pairsC_get PL j pr hj r h2).trans hr)
      rw [Nat.zero_add] at h3
      exact h3
    have RD := Lib.hid (RC.out.1.below bd)
    clear sgd bd RC HSD
    go_wp2_with fail
    go_loopw [129] (fun x wr => ∃ j : Nat, x = .int .i64 j ∧ j ≤ lq ∧ Hid (Below wd.heap.size wd wr ∧ Cw w tb g off c L wr)) (fun x _ => lq - (intOf x).toNat)
    case atStart => exact ⟨0, rfl, Nat.zero_le _, Lib.hid ⟨Below.refl _ _, RD.out⟩⟩
    case round =>
      obtain ⟨j, rfl, hj, HS⟩ := hrel
      by_cases hjl : j < lq
      · have h1 : (j : Int) < (lq : Int) := by omega
        obtain ⟨pr, hpr⟩ : ∃ pr, PL[j]? = some pr := ⟨_, List.getElem?_eq_getElem (by have := HPQ.out.1; omega)⟩
        obtain ⟨hq1, hq2⟩ := HPQ.out.2.2.2 j pr hpr
        obtain ⟨x, y⟩ := pr
        obtain rfl : x = y := hq1
        obtain ⟨hgq, hrg⟩ := HCQ.out j _ hpr
        have hrg2 : Hid (wr.rangeAt gq (j * 2) (pairC (x, x))) := Lib.hid fun r u hr => by rw [← hrg r u hr]; unfold World.cell?; rw [HS.out.1.block gq hgq]
        have HX2 : Hid (x.size < 1000000) := Lib.hid hq2
        clear hrg hgq hpr hq2
        have hss : (x.toList == x.toList) = true := by simp
        go_wp2_with (first
          | ((with_reducible refine at_op 132 ?_); refine wpList_load_mid (op := ⟨some 132, _, _, _, _, _⟩) rfl 40 _ rfl gq (j * 2) rfl (pairC (x, x)) _ hrg2.out Tryd.underlying40 rfl (by kernel_rfl) ?_)
          | ((with_reducible refine at_store (.tmp 24) ?_); refine wpList_store_cells (o := ⟨none, _, _, _, _, _⟩) rfl 40 _ _ rfl wr.heap.size #[.string x, .string x] _ rfl rfl _ (made_at _ _ rfl) (by kernel_rfl) rfl (by simp [Value.oneCell']) ?_; intro Ws HWs TWs;
             (have KS : Hid (Below wd.heap.size wd Ws ∧ Cw w tb g off c L Ws ∧ Has Ws wr.heap.size 40 #[.string x, .string x]) := (by
               have bb : Below wr.heap.size wr Ws := ((Below.refl _ _).alloc (Nat.le_refl _) _).trans (TWs.below (by simp) (fun j hj e => by omega))
               exact Lib.hid ⟨HS.out.1.trans (bb.mono HS.out.1.size), HS.out.2.below bb, HWs⟩));
             have c0 : Ws.cell? ⟨wr.heap.size, 0, none⟩ = some (.string x) := KS.out.2.2.cell 0;
             have c1 : Ws.cell? ⟨wr.heap.size, 1, none⟩ = some (.string x) := KS.out.2.2.cell 1;
             clear HWs TWs HS hrg2)
          | fail)
        have hic := is_calls x x Ws KS.out.2.1.rk (by have := HX2.out; omega) (by have := HX2.out; omega)
        rw [clashB_self] at hic
        have HIC := Lib.hid hic
        clear hic
        refine HIC.out.mono ?_
        rintro en we ⟨rfl, be⟩
        have KE : Hid (Below wd.heap.size wd we ∧ Cw w tb g off c L we) := Lib.hid ⟨KS.out.1.trans (be.mono KS.out.1.size), KS.out.2.1.below be⟩
        clear be KS HIC c0 c1
        go_wp2_with fail
        refine ⟨⟨j + 1, by rw [Int.natCast_add]; rfl, by omega, KE⟩, ?_⟩
        show lq - ((j : Int) + 1).toNat < lq - ((j : Int)).toNat
        omega
      · obtain rfl : j = lq := by omega
        have h1 : ¬ (j : Int) < (j : Int) := by omega
        have hb : ((j : Int) == 0) = ((m1 : Int) == (k : Int)) := by
          have := HPQ.out.2.2.1
          by_cases h : j = 0
          · have h2 := this.1 h
            simp [h, h2]
          · have h2 : ¬ m1 = k := fun e => h (this.2 e)
            rw [beq_eq_false_iff_ne.2 (by omega), beq_eq_false_iff_ne.2 (by omega)]
        go_wp2_with fail
        go_ret
        exact ⟨rfl, HS.out.2.bel⟩
theorem own : ownKnob Tryd.prog.godebug = none := by kernel_rfl
theorem laidOut : laidOutB Tryd.prog = true := by kernel_rfl

set_option maxRecDepth 100000 in
theorem lifted (os : Os) (started : os.Started) (H : Type) (enc : TypeId × Value → H) :
    ReturnsInHanded {} Tryd.checked os 4 .any (fun w args => (Rows.clashWholeSpec.pre enc Tryd.prog Tryd.f4 [] false w args ∧ laidMetH Tryd.prog Rows.clashWholeRow.laid w) ∧ sizedMet enc Tryd.prog Tryd.f4 (OpenSpec.ofChange Rows.clashWholeSpec) false w args)
      (Rows.clashWholeSpec.post enc Tryd.prog Tryd.f4 false true false false) := by
  refine returnsInHanded_of_change_and (C := Tryd.checked) (X := fun w _ => laidMetH Tryd.prog Rows.clashWholeRow.laid w) (fun _ _ _ hh h => h.of_heap hh) own started (by kernel_rfl) Tryd.func4
    (ChangeSpec.witness_shaped (enc := enc) (C := Tryd.checked) (os := os) (X := fun w _ => laidMetH Tryd.prog Rows.clashWholeRow.laid w) false (World.doorLaid Tryd.prog 31 os) #[.slice none 0 0, .int .i64 0, .int .i64 0, .int .i64 0] 8 rfl (door_shaped os _) (by kernel_rfl) (by kernel_rfl) (by kernel_rfl) (door_met os _)) ?_
  intro W base args ds gs before hval0 hW _ _ hL _
  have hval : ∀ (j : Nat) t v, Tryd.f4.params[j]? = some t → args[j]? = some v → Value.okWide Tryd.prog W .any base t v := hval0
  have hW' := hW
  obtain ⟨p, q, hA0, hV, rfl, _, _⟩ := hW
  have hA : DataW.TrodAll enc Tryd.prog W 0 (fun _ => true) true Tryd.f4.params.toList args.toList ds p := hA0
  rw [Tryd.params4] at hA hval
  obtain ⟨v0, vs0, d0, ds0, p0, q0, hargs, rfl, rfl, h0, r0⟩ := trodAll_cons hA
  obtain ⟨v1, vs1, d1, ds1, p1, q1, rfl, rfl, rfl, h1, r1⟩ := trodAll_cons r0
  obtain ⟨v2, vs2, d2, ds2, p2, q2, rfl, rfl, rfl, h2, r2⟩ := trodAll_cons r1
  obtain ⟨v3, vs3, d3, ds3, p3, q3, rfl, rfl, rfl, h3, r3⟩ := trodAll_cons r2
  obtain ⟨rfl, rfl, rfl⟩ := trodAll_nil r3
  obtain rfl : args = #[v0, v1, v2, v3] := by cases args; simp_all
  obtain ⟨rfl, rfl⟩ := trodVars_none hV
  obtain ⟨a0, len0, cap0, rfl⟩ := okWide_slice Tryd.underlying22 (hval 0 22 v0 rfl rfl)
  have k0 := h0
  have lt0 : ∀ x ∈ p0, x.block < W.heap.size := by obtain ⟨m, hm⟩ := k0; exact DataW.trod_lt m _ _ _ hm
  have w0 : Arg0 W a0 len0 cap0 := opened0 h0
  obtain ⟨a1, rfl, rfl, rfl, w1⟩ := open_int Tryd.underlying3 (hval 1 3 v1 rfl rfl) h1
  obtain ⟨a2, rfl, rfl, rfl, w2⟩ := open_int Tryd.underlying3 (hval 2 3 v2 rfl rfl) h2
  obtain ⟨a3, rfl, rfl, rfl, w3⟩ := open_int Tryd.underlying3 (hval 3 3 v3 rfl rfl) h3
  clear hA0 hval0
  refine (walk a0 len0 cap0 a1 a2 a3 W w0 w1 w2 w3 (rt_of_laid (rest := []) hL)).mono fun e W' ⟨he, bel⟩ => ?_
  subst he
  exact ⟨_, rfl, _, _, _, [], _, [], hW', trodAll_mk1 (shut_bool Tryd.underlying4 _), (trodAll_cons_mk (Below.trod laidOut (by kernel_rfl) (of_decide_eq_true (by kernel_rfl)) k0 bel lt0) (trodAll_cons_mk (shut_int Tryd.underlying3 w1) (trodAll_cons_mk (shut_int Tryd.underlying3 w2) (trodAll_cons_mk (shut_int Tryd.underlying3 w3) trodAll_mk0)))), rfl, bel.frame _, fun h => by cases h⟩

theorem over : Rows.clashWholeRow.holds Tryd.pinned (OpenSpec.ofChange Rows.clashWholeSpec) :=
  OpenClaim.holds_of_wide 4 Tryd.f4 rfl rfl rfl rfl rfl rfl rfl ⟨rfl, rfl, rfl, rfl, rfl⟩ rfl rfl rfl rfl rfl (by kernel_rfl) Tryd.func4 (by kernel_rfl)
    (of_decide_eq_true (by kernel_rfl)) (by unfold Func.isWrapper; first | (rw [if_pos (by decide +kernel)]; kernel_rfl) | (rw [if_neg (by decide +kernel)]; exact ⟨rfl, rfl⟩))
    (fun os started H enc _ => lifted os started H enc)

theorem plain (f : FuncId) (fn : Func) (hf : Tryd.pinned.checked.prog.funcNamed "hindsight/hindsightlaw11.ClashWhole" = some f) (hfn : Tryd.pinned.checked.prog.funcs[f]? = some fn) :
    (true : Bool) = Tryd.pinned.checked.prog.looks [] ∧ ∀ (j : Nat) t, fn.params[j]? = some t → Tryd.pinned.checked.prog.wantsStandIn t = false := by
  obtain rfl : f = 4 := Option.some.inj ((show Tryd.prog.funcNamed "hindsight/hindsightlaw11.ClashWhole" = some 4 by kernel_rfl).symm.trans hf) |>.symm
  obtain rfl : fn = Tryd.f4 := (Option.some.inj (Tryd.func4.symm.trans hfn)).symm
  refine ⟨by kernel_rfl, fun j t ht => ?_⟩
  rw [Tryd.params4] at ht
  have hm := Array.mem_of_getElem? ht
  simp only [List.mem_toArray, List.mem_cons, List.not_mem_nil, or_false] at hm
  rcases hm with rfl | rfl | rfl | rfl
  · exact (show Tryd.prog.wantsStandIn 22 = false by kernel_rfl)
  · exact (show Tryd.prog.wantsStandIn 3 = false by kernel_rfl)
  · exact (show Tryd.prog.wantsStandIn 3 = false by kernel_rfl)
  · exact (show Tryd.prog.wantsStandIn 3 = false by kernel_rfl)

theorem card : Rows.ClashWholeCardSaid :=
  Claim7.holds_tied_plain_at .later [] _ _ _ _ over (fun _ h => by cases h) (by kernel_rfl) (fun _ h => by cases h) clashWhole_row_tie rfl ⟨rfl, rfl⟩ (by kernel_rfl) rfl plain (by kernel_rfl)

theorem proved : Rows.ClashWholeCardSaid := card

end Go.Proofs.YthbncejbcegmgaaDoor.clashWhole
