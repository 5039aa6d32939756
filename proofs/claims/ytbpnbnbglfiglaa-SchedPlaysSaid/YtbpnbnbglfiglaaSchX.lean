/- sched: the law's picks. -/
import Derived.Test.YtbpnbnbglfiglaaSchW
namespace Go.Proofs.Ytbpnbnbglfiglaa.sch
open Go Go.RowKit

/-- So many turns on both. -/
def nxs : Nat → Ab → Dc → Ab × Dc
  | 0, a, d => (a, d)
  | m + 1, a, d => nxs m (nxA a) (nxD a d)
theorem nxs_nil {a : Ab} (d : Dc) (e : a.S = []) : ∀ m, nxs m a d = (a, d)
  | 0 => rfl
  | m + 1 => by
    rw [nxs, (nx_nil d e).1, (nx_nil d e).2]
    exact nxs_nil d e m
theorem nxs_turns : ∀ (m : Nat) {k : Int} {a : Ab} (d : Dc), Inv k a.P.length a → (nxs m a d).1 = (turns m a).2
  | 0, _, _, _, _ => rfl
  | m + 1, k, a, d, h => by
    cases e : a.S with
    | nil => rw [nxs_nil d e, turns_nil e]
    | cons x t =>
      obtain ⟨i, h1, h2, h3, h4, h5, h6, h7, h8⟩ := h.next e
      rw [turns_cons e h1, nxs, (nx_cons d e h1).1]
      rw [← h7] at h6
      exact nxs_turns m _ h6

/-- Within picks, behind j turns of the document's. -/
structure Pw (w V : World) (s q : Nat) (r0 r : Option Nat) (v u : Value) (L : List Int) (af : Ab) (df : Dc) (pa : Option Addr) (pn pc : Nat) (k : Int) (M : Nat) (j : Nat) (la : Option Addr) (ln lc : Nat) (a : Ab) (d : Dc) (T c : Int) (A : List Int) (W : World) : Prop where
  nw : Nw w s q r v af W
  dm : Dm W pa pn pc la ln lc d
  bx : Has W V.heap.size 30 (dsC pa pn pc la ln lc T c)
  rz : Has W (V.heap.size + 1) 30 dsZ
  ints : Ints W u L
  new : ∀ b, u.ownBlock = some b → V.heap.size + 1 < b
  turn : Turn (fun j => v.ownBlock = some j ∨ j = s ∨ j = q ∨ r0 = some j) V W
  eqT : T = d.T ∧ c = d.c
  eqL : L = A ++ (turns (M - j) a).1
  len : A.length = j
  fin : nxs (M - j) a d = (af, df)
  like : Like a d
  inv : Inv (k + 2 * j) a.P.length a
  c0 : 0 ≤ d.c
  ck : d.c ≤ k + 2 * j

section
variable {w V W W' : World} {s q : Nat} {r0 r r' : Option Nat} {v u : Value} {L A : List Int} {a a' af : Ab} {pa la : Option Addr} {pn pc ln lc M j : Nat} {d df : Dc} {k T c : Int}
theorem Pw.below (h : Pw w V s q r0 r v u L af df pa pn pc k M j la ln lc a d T c A W) (hb : Below W.heap.size W W') : Pw w V s q r0 r v u L af df pa pn pc k M j la ln lc a d T c A W' :=
  ⟨h.nw.below hb, h.dm.below hb, h.bx.below hb h.bx.lt, h.rz.below hb h.rz.lt, h.ints.turn (Turn.of_below hb (F := fun j => W.heap.size ≤ j) (fun _ _ e => e)) (fun b hb2 e => by have := own_lt h.ints hb2; omega), h.new,
   h.turn.trans (Turn.of_below hb (F := fun j => W.heap.size ≤ j) (fun _ _ e => e)) (fun j h1 h2 => by have := h.turn.size; omega), h.eqT, h.eqL, h.len, h.fin, h.like, h.inv, h.c0, h.ck⟩

set_option maxRecDepth 100000 in
set_option maxHeartbeats 4000000 in
theorem lpicks_calls (h : Bo w s q r v a pa pn pc la ln lc d k V) (hk : k ≤ 3000) (hk0 : 0 ≤ k) (n : Int) :
    ∃ a' d', a'.P.length = a.P.length ∧ Calls Try.prog 12 #[.pointer (some ⟨s, 0, none⟩), .agg (dsC pa pn pc la ln lc d.T d.c), .int .i64 n] V (LnPost w V s q r v a' pa pn pc d' (k + 18)) := by
  obtain ⟨m, hm⟩ : ∃ m, (if (9 : Int) < n then 9 else n) = m := ⟨_, rfl⟩
  have hm9 : m ≤ 9 := by split at hm <;> omega
  obtain ⟨M, hM⟩ : ∃ M, M = m.toNat := ⟨_, rfl⟩
  refine ⟨(nxs M a d).1, (nxs M a d).2, by rw [nxs_turns M d h.inv, (turns_inv M h.inv).2], ?_⟩
  obtain ⟨af, df, hf⟩ : ∃ af df, nxs M a d = (af, df) := ⟨_, _, rfl⟩
  have hft := nxs_turns M d h.inv
  rw [hf] at hft ⊢
  dsimp only at hft ⊢
  obtain ⟨T, hTT⟩ : ∃ T, T = d.T := ⟨_, rfl⟩
  obtain ⟨cc, hcc⟩ : ∃ cc, cc = d.c := ⟨_, rfl⟩
  rw [← hTT, ← hcc]
  have hmx : (if m < 0 then 0 else m) = (M : Int) := by split <;> omega
  have HE := Lib.hid (And.intro hTT (And.intro hcc (And.intro hf hft)))
  have HK := Lib.hid (And.intro hk (And.intro hk0 (And.intro hM hm9)))
  have H := Lib.hid h
  generalize hPost : LnPost w V s q r v af pa pn pc df (k + 18) = Post
  have HP := Lib.hid hPost
  clear h hk hk0 hTT hcc hPost hf hft hM
  go_enter Try.func12, Try.ntmps12
  go_wp2_with fail
  refine calls_name (fun U hU => ?_)
  have HU : Hid (Bo w s q r v a pa pn pc la ln lc d k U ∧ Has U V.heap.size 30 (dsC pa pn pc la ln lc T cc) ∧ Has U (V.heap.size + 1) 30 dsZ ∧ Below V.heap.size V U) := by
    rw [← hU]
    have b : Below V.heap.size V ((V.alloc (.cells (dsC pa pn pc la ln lc T cc) 30)).alloc (.cells dsZ 30)) := ((Below.refl _ V).alloc (Nat.le_refl _) _).alloc (by simp) _
    exact Lib.hid ⟨H.out.below b, (Has.made V _ _).alloc _, made_at _ _ (by simp), b⟩
  clear hU
  refine (HU.out.1.nw.picks HU.out.1.inv m (by have := HK.out; omega) (by omega) HK.out.2.1).mono ?_
  rw [← HK.out.2.2.1]
  rintro en w1 ⟨u, r1, rfl, n1, i1, u1, rr1, t1⟩
  obtain ⟨L, hL⟩ : ∃ L, L = (turns M a).1 := ⟨_, rfl⟩
  rw [← hL] at i1
  rw [← HE.out.2.2.2] at n1
  have H1 : Hid (Pw w V s q r r1 v u L af df pa pn pc k M 0 la ln lc a d T cc [] w1) := Lib.hid ⟨n1, HU.out.1.nw.keeps HU.out.1.dm HU.out.1.ap t1, HU.out.1.nw.box HU.out.2.1 t1, HU.out.1.nw.box HU.out.2.2.1 t1, i1, fun b hb => by have := u1 b hb; have := HU.out.2.2.1.lt; omega,
    (Turn.of_below HU.out.2.2.2 (F := fun j => v.ownBlock = some j ∨ j = s ∨ j = q ∨ r = some j) (fun j h1 h2 => by omega)).trans t1 (fun _ _ e => e), ⟨HE.out.1, HE.out.2.1⟩, by rw [hL]; rfl, rfl, HE.out.2.2.1, H.out.like, by simpa using H.out.inv, H.out.c0, by simpa using H.out.ck⟩
  obtain ⟨ua, uc, rfl⟩ := i1.slice
  obtain ⟨nl, hnl⟩ : ∃ nl, nl = L.length := ⟨_, rfl⟩
  rw [← hnl] at H1 ⊢
  have HNL := Lib.hid (And.intro hnl hL)
  have HW := Lib.hid H.out.nw.turn.size
  have HAP := Lib.hid H.out.ap
  clear n1 i1 u1 rr1 t1 HU H hnl hL
  go_wp2_with fail
  go_loopw [9] (fun x wr => ∃ (j : Nat) (la : Option Addr) (ln lc : Nat) (a : Ab) (d : Dc) (T c : Int) (A : List Int), x = .int .i64 j ∧ j ≤ M ∧ Hid (Pw w V s q r r1 v (.slice ua nl uc) L af df pa pn pc k M j la ln lc a d T c A wr)) (fun x _ => M - (intOf x).toNat)
  case atStart => exact ⟨0, la, ln, lc, a, d, T, cc, [], rfl, Nat.zero_le _, H1⟩
  case round =>
    clear H1 HE
    obtain ⟨j, la, ln, lc, a, d, T, c, A, rfl, hj, HS⟩ := hrel
    by_cases hjm : j < M
    · have hj1 : (j : Int) < m := by have := HK.out; omega
      have x0 : wr.cell? ⟨V.heap.size, 0, none⟩ = some (.slice pa pn pc) := HS.out.bx.cell 0
      have x1 : wr.cell? ⟨V.heap.size, 1, none⟩ = some (.slice la ln lc) := HS.out.bx.cell 1
      have x2 : wr.cell? ⟨V.heap.size, 2, none⟩ = some (.int .i64 T) := HS.out.bx.cell 2
      have x3 : wr.cell? ⟨V.heap.size, 3, none⟩ = some (.int .i64 c) := HS.out.bx.cell 3
      have hM9 : M ≤ 9 := by have := HK.out; omega
      cases e : a.S with
      | nil =>
        have hd := like_none HS.out.like HS.out.inv (by have := HK.out; omega) HS.out.c0 HS.out.ck HS.out.dm e
        rw [← HS.out.eqT.1, ← HS.out.eqT.2] at hd
        have HD := Lib.hid hd
        have hll : ((nl : Int) == (j : Int)) = true := by
          have h1 := HS.out.eqL
          rw [turns_nil e, List.append_nil] at h1
          have h2 := HS.out.len
          have h3 := HNL.out.1
          rw [h1, h2] at h3
          simp [h3]
        have HF : Hid (af = a ∧ df = d) := Lib.hid (by
          have h1 := HS.out.fin
          rw [nxs_nil d e] at h1
          injection h1 with h1 h2
          exact ⟨h1.symm, h2.symm⟩)
        clear hd e
        go_wp2_with (first
          | (go_at_call 28; refine HD.out.mono ?_; rintro en w3 ⟨la3, ln3, lc3, rfl, hd3, b3⟩
             (have K3 : Hid (Pw w V s q r r1 v (.slice ua nl uc) L af df pa pn pc k M j la ln lc a d T c A w3) := Lib.hid (HS.out.below b3))
             (have y0 : w3.cell? ⟨V.heap.size, 0, none⟩ = some (.slice pa pn pc) := K3.out.bx.cell 0)
             (have y1 : w3.cell? ⟨V.heap.size, 1, none⟩ = some (.slice la ln lc) := K3.out.bx.cell 1)
             (have y2 : w3.cell? ⟨V.heap.size, 2, none⟩ = some (.int .i64 T) := K3.out.bx.cell 2)
             (have y3 : w3.cell? ⟨V.heap.size, 3, none⟩ = some (.int .i64 c) := K3.out.bx.cell 3)
             (have hyl : V.heap.size < w3.heap.size := K3.out.bx.lt)
             (clear hd3 b3 HD HS x0 x1 x2 x3))
          | ((with_reducible refine at_store (.tmp 6) ?_); refine wpList_store_ds (o := ⟨none, _, _, _, _, _⟩) rfl _ _ rfl (V.heap.size + 1) rfl rfl (K3.out.rz.alloc _) (by simp [Value.oneCell']) ?_; intro W7 h7 t7)
          | fail)
        refine bodyPost_ret (res_ds2 rfl _ _ (V.heap.size + 1) _ _ _ _ (.bool true) rfl rfl h7) rfl ?_
        rw [← HP.out, HF.out.1, HF.out.2]
        have k8 := K3.out.below (W' := w3.alloc (.cells (dsC pa pn pc la3 ln3 lc3 d.T d.c) 30)) ((Below.refl _ w3).alloc (Nat.le_refl _) _)
        have hw := HW.out
        have hnw := k8.nw
        rw [HF.out.1] at hnw
        have k9 : Bo w s q r1 v a pa pn pc la ln lc d (k + 18) _ := ⟨hnw, k8.dm, k8.like, k8.inv.more (by omega), k8.c0, by have := k8.ck; omega, HAP.out⟩
        have k10 := k9.boxed k8.rz (by omega) t7
        rw [k8.eqT.1, k8.eqT.2]
        exact ⟨r1, la, ln, lc, rfl, k10, k8.turn.trans t7 (fun j h1 h2 => by omega)⟩
      | cons x t =>
        obtain ⟨i, i1, i2, i3, i4, i5, i6, i7, i8⟩ := HS.out.inv.next e
        have hd := like_next HS.out.like HS.out.inv (by have := HK.out; omega) HS.out.c0 HS.out.ck HS.out.dm e i1 i2
        rw [← HS.out.eqT.1, ← HS.out.eqT.2] at hd
        obtain ⟨d2, hd2⟩ : ∃ d2, d2 = nextD d i x.1 := ⟨_, rfl⟩
        rw [← hd2] at hd
        have HD := Lib.hid hd
        have hmj : M - j = M - (j + 1) + 1 := by omega
        have hLx : L = (A ++ [(i : Int)]) ++ (turns (M - (j + 1)) (next a x t i)).1 := by
          rw [HS.out.eqL, hmj, turns_cons e i1, List.append_assoc]; rfl
        have hxn : nxs (M - (j + 1)) (next a x t i) d2 = (af, df) := by
          have h1 := HS.out.fin
          rw [hmj, nxs, (nx_cons d e i1).1, (nx_cons d e i1).2, ← hd2] at h1
          exact h1
        have hl2 := HS.out.like.next HS.out.inv e i1
        have hc2 : d2.c = d.c + 1 := by rw [hd2]; unfold nextD sch.due; split <;> rfl
        rw [← hd2] at hl2
        rw [← i7] at i6
        have HX := Lib.hid (And.intro hLx (And.intro hxn (And.intro hl2 (And.intro hc2 i6))))
        have hLj : L[j]? = some (i : Int) := by
          rw [hLx, List.getElem?_append_left (by rw [List.length_append, HS.out.len]; simp), List.getElem?_append_right (by rw [HS.out.len]; exact Nat.le_refl _), HS.out.len, Nat.sub_self]
          rfl
        have hjl : j < L.length := (List.getElem?_eq_some_iff.1 hLj).1
        obtain ⟨g, c', hu, hcell⟩ := HS.out.ints.cell j hjl
        simp only [Value.slice.injEq] at hu
        obtain ⟨rfl, -, -⟩ := hu
        have hjn : ¬ (nl : Int) ≤ (j : Int) := by have := HNL.out.1; omega
        have hjn2 : (j : Int) < (nl : Int) := by omega
        have hj0 : (0 : Int) ≤ (j : Int) := by omega
        have hi0 : ¬ (i : Int) < 0 := by omega
        have HC : Hid (∀ W : World, Ints W (.slice (some ⟨g, 0, none⟩) nl uc) L → W.cell? ⟨g, j, none⟩ = some (.int .i64 i)) := Lib.hid (fun W hW => by
          obtain ⟨g2, c2, hu2, hcell2⟩ := hW.cell j hjl
          simp only [Value.slice.injEq, Option.some.injEq, Addr.mk.injEq, and_true] at hu2
          obtain ⟨rfl, -, -⟩ := hu2
          exact hcell2 j _ hLj)
        clear hd hd2 hmj hLx hxn hl2 hc2 i1 i2 i3 i4 i5 i6 i7 i8 e hLj hjl hcell
        go_wp2_with (first
          | (go_at_call 28; refine HD.out.mono ?_; rintro en w3 ⟨la3, ln3, lc3, rfl, hd3, b3⟩
             (have K3 : Hid (Pw w V s q r r1 v (.slice (some ⟨g, 0, none⟩) nl uc) L af df pa pn pc k M j la ln lc a d T c A w3 ∧ Dm w3 pa pn pc la3 ln3 lc3 d2) := Lib.hid ⟨HS.out.below b3, hd3⟩)
             (have z2 : w3.cell? ⟨g, j, none⟩ = some (.int .i64 i) := HC.out w3 K3.out.1.ints)
             (have z3 : g < w3.heap.size := own_lt K3.out.1.ints rfl)
             (have z4 : ¬ V.heap.size = g := by have := K3.out.1.new g rfl; omega)
             (clear hd3 b3 HD HS x0 x1 x2 x3))
          | ((with_reducible refine at_store (.tmp 4) ?_); refine wpList_store_ds (o := ⟨none, _, _, _, _, _⟩) rfl _ _ rfl V.heap.size rfl rfl (K3.out.1.bx.alloc _) (by simp [Value.oneCell']) ?_; intro W7 h7 t7
             (have K7 : Hid (Pw w V s q r r1 v (.slice (some ⟨g, 0, none⟩) nl uc) L af df pa pn pc k M (j + 1) la3 ln3 lc3 (next a x t i) d2 d2.T d2.c (A ++ [(i : Int)]) W7) := by
               have k8 := K3.out.1.below (W' := w3.alloc (.cells (dsC pa pn pc la3 ln3 lc3 d2.T d2.c) 30)) ((Below.refl _ w3).alloc (Nat.le_refl _) _)
               have hw := HW.out
               have hnew := k8.new
               exact Lib.hid ⟨k8.nw.boxed k8.bx hw t7, (K3.out.2.alloc _).other k8.bx t7 (by decide) (by decide), h7, k8.rz.turn t7 (by omega), k8.ints.turn t7 (fun b hb e => by have := hnew b hb; omega), hnew, k8.turn.trans t7 (fun j h1 h2 => by omega), ⟨rfl, rfl⟩, HX.out.1, by rw [List.length_append, k8.len]; rfl, HX.out.2.1, HX.out.2.2.1, by
                 have h6 := HX.out.2.2.2.2
                 rw [show k + 2 * ((j + 1 : Nat) : Int) = k + 2 * (j : Int) + 2 by omega]
                 exact h6, by have := k8.c0; have := HX.out.2.2.2.1; omega, by have := k8.ck; have := HX.out.2.2.2.1; omega⟩)
             (have z5 : W7.cell? ⟨g, j, none⟩ = some (.int .i64 i) := HC.out W7 K7.out.ints)
             (clear h7 t7 K3 z2 z3 z4))
          | fail)
        refine ⟨⟨j + 1, la3, ln3, lc3, _, d2, _, _, _, by rw [Int.natCast_add]; rfl, by omega, K7⟩, ?_⟩
        show M - ((j : Int) + 1).toNat < M - ((j : Int)).toNat
        omega
    · have hjM : j = M := by omega
      have hj1 : ¬ (j : Int) < m := by have := HK.out; omega
      have x0 : wr.cell? ⟨V.heap.size, 0, none⟩ = some (.slice pa pn pc) := HS.out.bx.cell 0
      have x1 : wr.cell? ⟨V.heap.size, 1, none⟩ = some (.slice la ln lc) := HS.out.bx.cell 1
      have x2 : wr.cell? ⟨V.heap.size, 2, none⟩ = some (.int .i64 T) := HS.out.bx.cell 2
      have x3 : wr.cell? ⟨V.heap.size, 3, none⟩ = some (.int .i64 c) := HS.out.bx.cell 3
      have hll : ((nl : Int) == (M : Int)) = true := by
        have h1 := HS.out.eqL
        rw [hjM, Nat.sub_self] at h1
        have h2 := HS.out.len
        have h3 := HNL.out.1
        have h4 : L = A := by rw [h1]; exact List.append_nil A
        rw [h4, h2] at h3
        simp [h3, hjM]
      have HF : Hid (af = a ∧ df = d) := Lib.hid (by
        have h1 := HS.out.fin
        rw [hjM, Nat.sub_self] at h1
        injection h1 with h1 h2
        exact ⟨h1.symm, h2.symm⟩)
      have HJ := Lib.hid hjM
      have hM9 : Hid (M ≤ 9) := Lib.hid (by have := HK.out; omega)
      clear hjM
      go_wp2_with (first
        | ((with_reducible refine at_store (.tmp 6) ?_); refine wpList_store_ds (o := ⟨none, _, _, _, _, _⟩) rfl _ _ rfl (V.heap.size + 1) rfl rfl HS.out.rz (by simp [Value.oneCell']) ?_; intro W7 h7 t7)
        | fail)
      refine bodyPost_ret (res_ds2 rfl _ _ (V.heap.size + 1) _ _ _ _ (.bool true) rfl rfl h7) rfl ?_
      rw [← HP.out, HF.out.1, HF.out.2]
      have k8 := HS.out
      have hw := HW.out
      have hnw := k8.nw
      rw [HF.out.1] at hnw
      have hM9 := hM9.out
      have hjM := HJ.out
      have k9 : Bo w s q r1 v a pa pn pc la ln lc d (k + 18) _ := ⟨hnw, k8.dm, k8.like, k8.inv.more (by omega), k8.c0, by have := k8.ck; omega, HAP.out⟩
      have k10 := k9.boxed k8.rz (by omega) t7
      rw [k8.eqT.1, k8.eqT.2]
      exact ⟨r1, la, ln, lc, rfl, k10, k8.turn.trans t7 (fun j h1 h2 => by omega)⟩
end
end Go.Proofs.Ytbpnbnbglfiglaa.sch
