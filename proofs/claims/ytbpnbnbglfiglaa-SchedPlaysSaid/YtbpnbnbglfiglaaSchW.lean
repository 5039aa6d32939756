/- sched: a schedule and the document's beside it; the law's next. -/
import Derived.Test.YtbpnbnbglfiglaaSchV
import Derived.Test.YtbpnbnbglfiglaaSchH
namespace Go.Proofs.Ytbpnbnbglfiglaa.sch
open Go Go.RowKit

/-- A schedule, all of whose blocks were made since w, and the document's beside it. -/
structure Bo (w : World) (s q : Nat) (r : Option Nat) (v : Value) (a : Ab) (pa : Option Addr) (pn pc : Nat) (la : Option Addr) (ln lc : Nat) (d : Dc) (k : Int) (V : World) : Prop where
  nw : Nw w s q r v a V
  dm : Dm V pa pn pc la ln lc d
  like : Like a d
  inv : Inv k a.P.length a
  c0 : 0 ≤ d.c
  ck : d.c ≤ k
  ap : ∀ b, (Value.slice pa pn pc).ownBlock = some b → v.ownBlock ≠ some b

section
variable {w V V' : World} {s q : Nat} {r r' : Option Nat} {v : Value} {a a' : Ab} {pa la : Option Addr} {pn pc ln lc : Nat} {d : Dc} {k : Int}
theorem Bo.below (h : Bo w s q r v a pa pn pc la ln lc d k V) (hb : Below V.heap.size V V') : Bo w s q r v a pa pn pc la ln lc d k V' :=
  ⟨h.nw.below hb, h.dm.below hb, h.like, h.inv, h.c0, h.ck, h.ap⟩
theorem Nw.box (n : Nw w s q r v a V) {b : Nat} {cs : Array Value} (hb : Has V b 30 cs) (t : Turn (fun j => v.ownBlock = some j ∨ j = s ∨ j = q ∨ r = some j) V V') : Has V' b 30 cs :=
  hb.turn t (fun e => by
    rcases e with e | e | e | e
    · exact own_ne n.sc.pac hb (by decide) e
    · subst e
      exact absurd (n.sc.own.uniq hb).2 (by decide)
    · subst e
      obtain ⟨cs', e⟩ := qs_box n.sc.qs
      exact absurd (e.uniq hb).2 (by decide)
    · obtain ⟨cs', e2⟩ := qs_row n.sc.qs b e
      exact absurd (e2.uniq hb).2 (by decide))
theorem Nw.keeps (n : Nw w s q r v a V) (h : Dm V pa pn pc la ln lc d) (hap : ∀ b, (Value.slice pa pn pc).ownBlock = some b → v.ownBlock ≠ some b) (t : Turn (fun j => v.ownBlock = some j ∨ j = s ∨ j = q ∨ r = some j) V V') : Dm V' pa pn pc la ln lc d :=
  h.turn t (fun b hb e => by
    rcases e with e | e | e | e
    · exact hap b hb e
    · subst e; exact h.pac.ne n.sc.own (by decide) hb
    · subst e
      obtain ⟨cs', e⟩ := qs_box n.sc.qs
      exact h.pac.ne e (by decide) hb
    · obtain ⟨cs', e2⟩ := qs_row n.sc.qs b e
      exact h.pac.ne e2 (by decide) hb) (fun b hb e => by
    rcases e with e | e | e | e
    · exact h.lst.apart (Seg.of_own n.sc.pac) (by decide) b hb e
    · subst e; exact h.lst.ne n.sc.own (by decide) hb
    · subst e
      obtain ⟨cs', e⟩ := qs_box n.sc.qs
      exact h.lst.ne e (by decide) hb
    · obtain ⟨cs', e2⟩ := qs_row n.sc.qs b e
      exact h.lst.ne e2 (by decide) hb)
/-- A box of a schedule turns. -/
theorem Nw.boxed (n : Nw w s q r v a V) {b : Nat} {cs : Array Value} (hb : Has V b 30 cs) (hwb : w.heap.size ≤ b) (t : Turn (fun j => j = b) V V') : Nw w s q r v a V' :=
  n.other t (fun j e => by rw [e]; exact hwb) (fun e => by
      subst e
      exact absurd (n.sc.own.uniq hb).2 (by decide)) (fun e => by
      subst e
      obtain ⟨cs', e⟩ := qs_box n.sc.qs
      exact absurd (e.uniq hb).2 (by decide)) (fun b' h e => by
      subst e
      obtain ⟨cs', e2⟩ := qs_row n.sc.qs _ h
      exact absurd (e2.uniq hb).2 (by decide)) (fun b' h e => by
      subst e
      exact own_ne n.sc.pac hb (by decide) h)
theorem Bo.boxed (h : Bo w s q r v a pa pn pc la ln lc d k V) {b : Nat} {cs : Array Value} (hb : Has V b 30 cs) (hwb : w.heap.size ≤ b) (t : Turn (fun j => j = b) V V') : Bo w s q r v a pa pn pc la ln lc d k V' :=
  ⟨h.nw.boxed hb hwb t, h.dm.other hb t (by decide) (by decide), h.like, h.inv, h.c0, h.ck, h.ap⟩
theorem Inv.few_due (h : Inv k a.P.length a) (hk : k ≤ 4000) (hd : Like a d) : d.L.length ≤ 10000 := by
  have := h.small
  have := hd.rel.len
  omega
end

/-- Next on both. -/
def nxA (a : Ab) : Ab := match a.S with
  | [] => a
  | x :: t => next a x t x.2.1.toNat
def nxD (a : Ab) (d : Dc) : Dc := match a.S with
  | [] => d
  | x :: _ => nextD d x.2.1.toNat x.1
theorem nx_nil {a : Ab} (d : Dc) (e : a.S = []) : nxA a = a ∧ nxD a d = d := by unfold nxA nxD; rw [e]; exact ⟨rfl, rfl⟩
theorem nx_cons {a : Ab} (d : Dc) {x : Th} {t : List Th} {i : Nat} (e : a.S = x :: t) (hi : x.2.1 = (i : Int)) : nxA a = next a x t i ∧ nxD a d = nextD d i x.1 := by
  unfold nxA nxD
  rw [e]
  dsimp only
  rw [hi]
  exact ⟨rfl, rfl⟩

section
variable {w V V' : World} {s q : Nat} {r r' : Option Nat} {v : Value} {a a' : Ab} {pa la : Option Addr} {pn pc ln lc : Nat} {d : Dc} {k : Int}
/-- What the document's Next does, beside the program's schedule. -/
theorem like_next (hl : Like a d) (hI : Inv k a.P.length a) (hk : k ≤ 4000) (c0 : 0 ≤ d.c) (ck : d.c ≤ k) (hm : Dm V pa pn pc la ln lc d) {x : Th} {t : List Th} {i : Nat} (e : a.S = x :: t) (hi : x.2.1 = (i : Int)) (hil : i < a.P.length) :
    Calls Try.prog 28 #[.agg (dsC pa pn pc la ln lc d.T d.c)] V (NxPost pa pn pc (nextD d i x.1) i V) := by
  obtain ⟨j, h1, h2, h3, h4, h5, _⟩ := hI.next e
  have ht := hI.t0
  have htk := hI.tk
  have hp := hI.pace _ (pace_mem hil)
  have hf := hI.few
  have hji : j = i := by omega
  subst hji
  have := hm.next (hI.few_due hk hl) j x.1 (fun b o hb hmin => by
      have := hl.rel.best hI.sorted e b o hb hmin
      rw [← hi]
      exact this) (fun _ => by rw [hl.P]; exact hil) (by omega) (by omega) (by rw [hl.P]; exact hp.2) c0 (by omega) (by rw [hl.P]; omega)
  rw [if_neg (fun e2 => by have := hl.none.2 e2; rw [e] at this; cases this)] at this
  exact this
theorem like_none (hl : Like a d) (hI : Inv k a.P.length a) (hk : k ≤ 4000) (c0 : 0 ≤ d.c) (ck : d.c ≤ k) (hm : Dm V pa pn pc la ln lc d) (e : a.S = []) :
    Calls Try.prog 28 #[.agg (dsC pa pn pc la ln lc d.T d.c)] V (NxPost pa pn pc d (-1) V) := by
  have hd := hl.none.1 e
  have := hm.next (hI.few_due hk hl) d.P.length 0 (fun b o hb => by rw [hd] at hb; cases hb) (fun h => absurd hd h) (by omega) (by omega) (by unfold pace; rw [List.getD_eq_getElem?_getD, List.getElem?_eq_none (Nat.le_refl _)]; decide) c0 (by omega) (by have := hI.few; rw [hl.P]; omega)
  rw [if_pos hd] at this
  exact this
end
def LnPost (w V : World) (s q : Nat) (r0 : Option Nat) (v : Value) (a : Ab) (pa : Option Addr) (pn pc : Nat) (d : Dc) (k : Int) (en : Ending) (V' : World) : Prop :=
  ∃ (r : Option Nat) (la : Option Addr) (ln lc : Nat), en = .returned (.tuple #[.agg (dsC pa pn pc la ln lc d.T d.c), .bool true]) ∧ Bo w s q r v a pa pn pc la ln lc d k V' ∧ Turn (fun j => v.ownBlock = some j ∨ j = s ∨ j = q ∨ r0 = some j) V V'

section
variable {w V V' : World} {s q : Nat} {r r' : Option Nat} {v : Value} {a a' : Ab} {pa la : Option Addr} {pn pc ln lc : Nat} {d : Dc} {k : Int}
set_option maxRecDepth 100000 in
set_option maxHeartbeats 4000000 in
theorem lnext_calls (h : Bo w s q r v a pa pn pc la ln lc d k V) (hk : k ≤ 4000) (hk0 : 0 ≤ k) :
    Calls Try.prog 9 #[.pointer (some ⟨s, 0, none⟩), .agg (dsC pa pn pc la ln lc d.T d.c)] V (LnPost w V s q r v (nxA a) pa pn pc (nxD a d) (k + 2)) := by
  obtain ⟨T, hTT⟩ : ∃ T, T = d.T := ⟨_, rfl⟩
  obtain ⟨cc, hcc⟩ : ∃ cc, cc = d.c := ⟨_, rfl⟩
  rw [← hTT, ← hcc]
  have HE := Lib.hid (And.intro hTT hcc)
  have HK := Lib.hid (And.intro hk hk0)
  have H := Lib.hid h
  generalize hPost : LnPost w V s q r v (nxA a) pa pn pc (nxD a d) (k + 2) = Post
  have HP := Lib.hid hPost
  clear h hk hk0 hTT hcc hPost
  go_enter Try.func9, Try.ntmps9
  go_wp2_with fail
  refine calls_name (fun U hU => ?_)
  have HU : Hid (Bo w s q r v a pa pn pc la ln lc d k U ∧ Has U V.heap.size 30 (dsC pa pn pc la ln lc T cc) ∧ Has U (V.heap.size + 1) 30 dsZ ∧ Below V.heap.size V U) := by
    rw [← hU]
    have b : Below V.heap.size V ((V.alloc (.cells (dsC pa pn pc la ln lc T cc) 30)).alloc (.cells dsZ 30)) := ((Below.refl _ V).alloc (Nat.le_refl _) _).alloc (by simp) _
    exact Lib.hid ⟨H.out.below b, (Has.made V _ _).alloc _, made_at _ _ (by simp), b⟩
  clear hU
  cases e : a.S with
  | nil =>
    have HX := Lib.hid (nx_nil d e)
    have HE0 := Lib.hid e
    have hc := HU.out.1.nw.next_none e
    clear e
    refine hc.mono ?_
    rintro en w2 ⟨rfl, r2, n2, rr2, t2'⟩
    have t2 : Turn (fun j => v.ownBlock = some j ∨ j = s ∨ j = q ∨ r = some j) U w2 := t2'.more (fun _ _ e => .inr e)
    have K2 : Hid (Nw w s q r2 v a w2 ∧ Dm w2 pa pn pc la ln lc d ∧ Has w2 V.heap.size 30 (dsC pa pn pc la ln lc T cc) ∧ Has w2 (V.heap.size + 1) 30 dsZ ∧ Turn (fun j => v.ownBlock = some j ∨ j = s ∨ j = q ∨ r = some j) V w2) :=
      Lib.hid ⟨n2, HU.out.1.nw.keeps HU.out.1.dm HU.out.1.ap t2, HU.out.1.nw.box HU.out.2.1 t2, HU.out.1.nw.box HU.out.2.2.1 t2, (Turn.of_below HU.out.2.2.2 (F := fun j => v.ownBlock = some j ∨ j = s ∨ j = q ∨ r = some j) (fun j h1 h2 => by omega)).trans t2 (fun _ _ e => e)⟩
    have hd := like_none H.out.like H.out.inv HK.out.1 H.out.c0 H.out.ck K2.out.2.1 HE0.out
    rw [← HE.out.1, ← HE.out.2] at hd
    have x0 : w2.cell? ⟨V.heap.size, 0, none⟩ = some (.slice pa pn pc) := K2.out.2.2.1.cell 0
    have x1 : w2.cell? ⟨V.heap.size, 1, none⟩ = some (.slice la ln lc) := K2.out.2.2.1.cell 1
    have x2 : w2.cell? ⟨V.heap.size, 2, none⟩ = some (.int .i64 T) := K2.out.2.2.1.cell 2
    have x3 : w2.cell? ⟨V.heap.size, 3, none⟩ = some (.int .i64 cc) := K2.out.2.2.1.cell 3
    have HD := Lib.hid hd
    clear n2 rr2 t2 t2' hd hc
    go_wp2_with (first
      | (go_at_call 28; refine HD.out.mono ?_; rintro en w3 ⟨la3, ln3, lc3, rfl, hd3, b3⟩
         (have K3 : Hid (Nw w s q r2 v a w3 ∧ Dm w3 pa pn pc la3 ln3 lc3 d ∧ Has w3 (V.heap.size + 1) 30 dsZ ∧ Turn (fun j => v.ownBlock = some j ∨ j = s ∨ j = q ∨ r = some j) V w3) :=
            Lib.hid ⟨K2.out.1.below b3, hd3, K2.out.2.2.2.1.below b3 K2.out.2.2.2.1.lt, K2.out.2.2.2.2.trans (Turn.of_below b3 (F := fun j => w2.heap.size ≤ j) (fun _ _ e => e)) (fun j h1 h2 => by have := K2.out.2.2.2.2.size; omega)⟩)
         (clear hd3 b3 HD K2 x0 x1 x2 x3))
      | ((with_reducible refine at_store (.tmp 4) ?_); refine wpList_store_ds (o := ⟨none, _, _, _, _, _⟩) rfl _ _ rfl (V.heap.size + 1) rfl rfl (K3.out.2.2.1.alloc _) (by simp [Value.oneCell']) ?_; intro W7 h7 t7)
      | fail)
    refine bodyPost_ret (res_ds2 rfl _ _ (V.heap.size + 1) _ _ _ _ (.bool true) rfl rfl h7) rfl ?_
    rw [← HP.out, HX.out.1, HX.out.2]
    have b7 : Below w3.heap.size w3 (w3.alloc (.cells (dsC pa pn pc la3 ln3 lc3 d.T d.c) 30)) := (Below.refl _ w3).alloc (Nat.le_refl _) _
    have hwv := H.out.nw.turn.size
    have k7 : Bo w s q r2 v a pa pn pc la3 ln3 lc3 d (k + 2) w3 := ⟨K3.out.1, K3.out.2.1, H.out.like, H.out.inv.more (by omega), H.out.c0, by have := H.out.ck; omega, H.out.ap⟩
    exact ⟨r2, la3, ln3, lc3, rfl, (k7.below b7).boxed (K3.out.2.2.1.below b7 K3.out.2.2.1.lt) (by omega) t7, (K3.out.2.2.2.alloc _).trans t7 (fun j h1 h2 => by omega)⟩
  | cons x t =>
    obtain ⟨i, i1, i2, i3, i4, i5, i6, i7, i8⟩ := H.out.inv.next e
    have HX := Lib.hid (nx_cons d e i1)
    have HE0 := Lib.hid (And.intro e (And.intro i1 (And.intro i2 (And.intro i6 i7))))
    have hc := HU.out.1.nw.next_some H.out.inv (by have := HK.out; omega) e i1 i2
    have hi0 : (0 : Int) ≤ (i : Int) := by omega
    have hi1 : ¬ (i : Int) < 0 := by omega
    clear e i1 i2 i3 i4 i5 i6 i7 i8
    refine hc.mono ?_
    rintro en w2 ⟨rfl, r2, n2, rr2, t2'⟩
    have t2 : Turn (fun j => v.ownBlock = some j ∨ j = s ∨ j = q ∨ r = some j) U w2 := t2'.more (fun _ _ e => .inr e)
    have K2 : Hid (Nw w s q r2 v (next a x t i) w2 ∧ Dm w2 pa pn pc la ln lc d ∧ Has w2 V.heap.size 30 (dsC pa pn pc la ln lc T cc) ∧ Has w2 (V.heap.size + 1) 30 dsZ ∧ Turn (fun j => v.ownBlock = some j ∨ j = s ∨ j = q ∨ r = some j) V w2) :=
      Lib.hid ⟨n2, HU.out.1.nw.keeps HU.out.1.dm HU.out.1.ap t2, HU.out.1.nw.box HU.out.2.1 t2, HU.out.1.nw.box HU.out.2.2.1 t2, (Turn.of_below HU.out.2.2.2 (F := fun j => v.ownBlock = some j ∨ j = s ∨ j = q ∨ r = some j) (fun j h1 h2 => by omega)).trans t2 (fun _ _ e => e)⟩
    have hd := like_next H.out.like H.out.inv HK.out.1 H.out.c0 H.out.ck K2.out.2.1 HE0.out.1 HE0.out.2.1 HE0.out.2.2.1
    rw [← HE.out.1, ← HE.out.2] at hd
    have x0 : w2.cell? ⟨V.heap.size, 0, none⟩ = some (.slice pa pn pc) := K2.out.2.2.1.cell 0
    have x1 : w2.cell? ⟨V.heap.size, 1, none⟩ = some (.slice la ln lc) := K2.out.2.2.1.cell 1
    have x2 : w2.cell? ⟨V.heap.size, 2, none⟩ = some (.int .i64 T) := K2.out.2.2.1.cell 2
    have x3 : w2.cell? ⟨V.heap.size, 3, none⟩ = some (.int .i64 cc) := K2.out.2.2.1.cell 3
    have HD := Lib.hid hd
    obtain ⟨d2, hd2⟩ : ∃ d2, d2 = nextD d i x.1 := ⟨_, rfl⟩
    rw [← hd2] at HD HX
    have HD2 := Lib.hid hd2
    clear n2 rr2 t2 t2' hd hc hd2
    go_wp2_with (first
      | (go_at_call 28; refine HD.out.mono ?_; rintro en w3 ⟨la3, ln3, lc3, rfl, hd3, b3⟩
         (have K3 : Hid (Nw w s q r2 v (next a x t i) w3 ∧ Dm w3 pa pn pc la3 ln3 lc3 d2 ∧ Has w3 (V.heap.size + 1) 30 dsZ ∧ Turn (fun j => v.ownBlock = some j ∨ j = s ∨ j = q ∨ r = some j) V w3) :=
            Lib.hid ⟨K2.out.1.below b3, hd3, K2.out.2.2.2.1.below b3 K2.out.2.2.2.1.lt, K2.out.2.2.2.2.trans (Turn.of_below b3 (F := fun j => w2.heap.size ≤ j) (fun _ _ e => e)) (fun j h1 h2 => by have := K2.out.2.2.2.2.size; omega)⟩)
         (clear hd3 b3 HD K2 x0 x1 x2 x3))
      | ((with_reducible refine at_store (.tmp 4) ?_); refine wpList_store_ds (o := ⟨none, _, _, _, _, _⟩) rfl _ _ rfl (V.heap.size + 1) rfl rfl (K3.out.2.2.1.alloc _) (by simp [Value.oneCell']) ?_; intro W7 h7 t7)
      | fail)
    refine bodyPost_ret (res_ds2 rfl _ _ (V.heap.size + 1) _ _ _ _ (.bool true) rfl rfl h7) rfl ?_
    rw [← HP.out, HX.out.1, HX.out.2]
    have b7 : Below w3.heap.size w3 (w3.alloc (.cells (dsC pa pn pc la3 ln3 lc3 d2.T d2.c) 30)) := (Below.refl _ w3).alloc (Nat.le_refl _) _
    have hwv := H.out.nw.turn.size
    have hl2 := H.out.like.next H.out.inv HE0.out.1 HE0.out.2.1
    have hc2 : d2.c = d.c + 1 := by rw [HD2.out]; unfold nextD sch.due; split <;> rfl
    rw [← HD2.out] at hl2
    have hI2 := HE0.out.2.2.2.1
    rw [← HE0.out.2.2.2.2] at hI2
    have k7 : Bo w s q r2 v (next a x t i) pa pn pc la3 ln3 lc3 d2 (k + 2) w3 := ⟨K3.out.1, K3.out.2.1, hl2, hI2, by have := H.out.c0; omega, by have := H.out.ck; omega, H.out.ap⟩
    exact ⟨r2, la3, ln3, lc3, rfl, (k7.below b7).boxed (K3.out.2.2.1.below b7 K3.out.2.2.1.lt) (by omega) t7, (K3.out.2.2.2.alloc _).trans t7 (fun j h1 h2 => by omega)⟩
end
end Go.Proofs.Ytbpnbnbglfiglaa.sch
