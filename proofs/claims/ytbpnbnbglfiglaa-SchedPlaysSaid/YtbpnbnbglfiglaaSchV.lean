/- sched: the document's Next. -/
import Derived.Test.YtbpnbnbglfiglaaSchT
import Derived.BigQuiet
namespace Go.Proofs.Ytbpnbnbglfiglaa.sch
open Go Go.RowKit

/-- Of the first k of L the place of the first one that comes first (of none: -1). -/
def Bst (L : List On) (k : Nat) (B : Int) : Prop := (k = 0 ∧ B = -1) ∨ ∃ (b : Nat) (o : On), B = b ∧ b < k ∧ L[b]? = some o ∧ ∀ (j : Nat) o', j < k → L[j]? = some o' → ¬ onLt o' o
theorem Bst.first {L : List On} {x : On} (hx : L[0]? = some x) : Bst L 1 0 := .inr ⟨0, x, rfl, by omega, hx, fun j o' hj h => by
  obtain rfl : j = 0 := by omega
  rw [hx] at h
  injection h with h
  subst h
  unfold onLt
  omega⟩
theorem Bst.more {L : List On} {k b : Nat} {x o : On} (hx : L[k]? = some x) (ho : L[b]? = some o) (hb : b < k) (h : ∀ (j : Nat) o', j < k → L[j]? = some o' → ¬ onLt o' o) (hn : ¬ onLt x o) : Bst L (k + 1) b := .inr ⟨b, o, rfl, by omega, ho, fun j o' hj hj2 => by
  by_cases e : j = k
  · subst e
    rw [hx] at hj2
    injection hj2 with hj2
    subst hj2
    exact hn
  · exact h j o' (by omega) hj2⟩
theorem Bst.new {L : List On} {k : Nat} {x o : On} (hx : L[k]? = some x) (h : ∀ (j : Nat) o', j < k → L[j]? = some o' → ¬ onLt o' o) (hn : onLt x o) : Bst L (k + 1) k := .inr ⟨k, x, rfl, by omega, hx, fun j o' hj hj2 => by
  by_cases e : j = k
  · subst e
    rw [hx] at hj2
    injection hj2 with hj2
    subst hj2
    unfold onLt
    omega
  · have := h j o' (by omega) hj2
    unfold onLt at *
    omega⟩

theorem res_ds2 {fn : Func} {t t2 : Tmp} (h : fn.results = #[.cell t 30, .tmp t2]) (tmps : Array Value) (w : World) (g : Nat) (a b c d : Value) (u : Value) (hx : tmps.getD t undef = .pointer (some ⟨g, 0, none⟩)) (hy : tmps.getD t2 undef = u) (hE : Has w g 30 #[a, b, c, d]) :
    (results fn tmps).run Try.prog w = .ok (.tuple #[.agg #[a, b, c, d], u]) w := by
  have c0 : w.cell? ⟨g, 0, none⟩ = some a := hE.cell 0
  have c1 : w.cell? ⟨g, 1, none⟩ = some b := hE.cell 1
  have c2 : w.cell? ⟨g, 2, none⟩ = some c := hE.cell 2
  have c3 : w.cell? ⟨g, 3, none⟩ = some d := hE.cell 3
  rw [Array.getD_eq_getD_getElem?] at hx hy
  simp [results, h, hx, hy, go_sem, c0, c1, c2, c3]

def NxPost (pa : Option Addr) (pn pc : Nat) (d : Dc) (n : Int) (W : World) (en : Ending) (W' : World) : Prop :=
  ∃ (la : Option Addr) (ln lc : Nat), en = .returned (.tuple #[.agg (dsC pa pn pc la ln lc d.T d.c), .int .i64 n]) ∧ Dm W' pa pn pc la ln lc d ∧ Below W.heap.size W W'

/-- What lasts in Next's loop. -/
structure Nx (W : World) (pa : Option Addr) (pn pc : Nat) (la : Option Addr) (ln lc : Nat) (d : Dc) (T c : Int) (V : World) : Prop where
  dm : Dm V pa pn pc la ln lc d
  bx : Has V W.heap.size 30 (dsC pa pn pc la ln lc T c)
  rz : Has V (W.heap.size + 1) 30 dsZ
  bel : Below W.heap.size W V

section
variable {W V V' : World} {pa la : Option Addr} {pn pc ln lc : Nat} {d : Dc} {T c : Int}
theorem Nx.below (h : Nx W pa pn pc la ln lc d T c V) (hb : Below V.heap.size V V') : Nx W pa pn pc la ln lc d T c V' :=
  ⟨h.dm.below hb, h.bx.below hb h.bx.lt, h.rz.below hb h.rz.lt, h.bel.trans (hb.mono h.bel.size)⟩
theorem Nx.alloc (h : Nx W pa pn pc la ln lc d T c V) (o : Obj) : Nx W pa pn pc la ln lc d T c (V.alloc o) := h.below ((Below.refl _ V).alloc (Nat.le_refl _) o)
end

theorem wp_region_heldV {P : Program} {ops : Array Oper} {Q : Exit → Act → World → Prop} {id : Nat} {a : Act} {w : World} (S : World → Prop) (V : World) (hV : V = w.drew) (hm : P.follows .mixedOrders = true)
    (h : wpAnyH P .any ops Q S ops.size (Array.replicate ops.size false) a V) : (Code.region id ops true).wp P Q a w := by
  subst hV
  exact wp_region_any hm (wpAny_of_held _ _ _ _ h)

set_option maxRecDepth 100000 in
set_option maxHeartbeats 4000000 in
theorem Dm.next {W : World} {pa la : Option Addr} {pn pc ln lc : Nat} {d : Dc} (h : Dm W pa pn pc la ln lc d) (hl : d.L.length ≤ 10000) (i : Nat) (t : Int)
    (hmin : ∀ (b : Nat) o, d.L[b]? = some o → (∀ (j : Nat) o', d.L[j]? = some o' → ¬ onLt o' o) → o.1 = (i : Int) ∧ o.2.1 = t)
    (hi : d.L ≠ [] → i < d.P.length) (hT0 : 0 ≤ t) (hT : t ≤ 1000000000000000) (hp1 : sch.pace d.P i ≤ 1048576) (hc0 : 0 ≤ d.c) (hc : d.c ≤ 1000000000) (hpl : d.P.length ≤ 1000) :
    Calls Try.prog 28 #[.agg (dsC pa pn pc la ln lc d.T d.c)] W (if d.L = [] then NxPost pa pn pc d (-1) W else NxPost pa pn pc (nextD d i t) i W) := by
  have hln := h.ln_
  have hlni : (ln : Int) ≤ 10000 := by omega
  have H := Lib.hid h
  obtain ⟨T, hTT⟩ : ∃ T, T = d.T := ⟨_, rfl⟩
  obtain ⟨cc, hcc⟩ : ∃ cc, cc = d.c := ⟨_, rfl⟩
  rw [← hTT, ← hcc]
  have HE := Lib.hid (And.intro hTT hcc)
  have HN := Lib.hid (And.intro hln (And.intro hi (And.intro hT0 (And.intro hT (And.intro hp1 (And.intro hc0 (And.intro hc (And.intro hpl hl))))))))
  have HM := Lib.hid hmin
  generalize hPost : (if d.L = [] then NxPost pa pn pc d (-1) W else NxPost pa pn pc (nextD d i t) i W) = Post
  have HP := Lib.hid hPost
  clear h hl hln hi hT0 hT hp1 hc0 hc hpl hmin hTT hcc hPost
  go_enter Try.func28, Try.ntmps28
  go_wp2_with fail
  go_name_world U hU
  have HU : Hid (Nx W pa pn pc la ln lc d T cc U) := by
    rw [← hU]
    exact Lib.hid ⟨(H.out.alloc _).alloc _, (Has.made W _ _).alloc _, made_at _ _ (by simp), ((Below.refl _ W).alloc (Nat.le_refl _) _).alloc (by simp) _⟩
  have u1 : U.cell? ⟨W.heap.size, 1, none⟩ = some (.slice la ln lc) := HU.out.bx.cell 1
  clear hU
  go_wp2_with fail
  clear u1
  go_loopw [11, 4] (fun x v wr => ∃ (k : Nat) (B : Int), x = .int .i64 k ∧ v = .int .i64 B ∧ k ≤ ln ∧ Hid (Bst d.L k B) ∧ Hid (Nx W pa pn pc la ln lc d T cc wr)) (fun x _ _ => ln - (intOf x).toNat)
  case atStart => exact ⟨0, -1, rfl, rfl, Nat.zero_le _, Lib.hid (.inl ⟨rfl, rfl⟩), HU⟩
  case round =>
    clear HU
    obtain ⟨k, B, rfl, rfl, hk, HB, HS⟩ := hrel
    have w1 : wr.cell? ⟨W.heap.size, 1, none⟩ = some (.slice la ln lc) := HS.out.bx.cell 1
    have wl : W.heap.size < wr.heap.size := HS.out.bx.lt
    by_cases hkl : k < ln
    · have hki : (k : Int) < (ln : Int) := by omega
      have k0 : (0 : Int) ≤ (k : Int) := by omega
      obtain ⟨x, hx⟩ : ∃ x, d.L[k]? = some x := ⟨_, List.getElem?_eq_getElem (by have := HN.out.1; omega)⟩
      obtain ⟨g, o, rfl, hg, c0, c1, c2⟩ := HS.out.dm.one hx
      have HX := Lib.hid hx
      have HS2 : Hid (Nx W pa pn pc (some ⟨g, o, none⟩) ln lc d T cc (wr.alloc (.cells #[.int .i64 x.1, .int .i64 x.2.1, .int .i64 x.2.2] 77))) := Lib.hid (HS.out.alloc _)
      obtain ⟨xw, xa, xs⟩ := x
      dsimp only at c0 c1 c2 HS2
      clear hx
      rcases HB.out with ⟨hk0, hB0⟩ | ⟨b, o1, hB, hbk, ho, hmn⟩
      · subst hk0 hB0
        clear HB
        rw [Nat.zero_mul, Nat.add_zero] at c0 c1 c2
        go_wp2_with fail
        go_quiet (fail)
        go_wp2_with fail
        refine ⟨⟨1, 0, rfl, rfl, by omega, Lib.hid (Bst.first HX.out), ?_⟩, by show ln - 1 < ln - 0; omega⟩
        exact Lib.hid (HS2.out.below ⟨rfl, rfl, rfl, Nat.le_refl _, fun _ _ => rfl⟩)
      · have hbi : B.toNat = b := by omega
        have hb0 : 0 ≤ B := by omega
        have hb1 : B < (ln : Int) := by omega
        obtain ⟨g', o', e', hg', k0', k1, k2⟩ := HS.out.dm.one ho
        injection e' with e'
        injection e' with e1 e2 e3
        subst e1
        subst e2
        rw [← hbi] at k0' k1 k2
        have d0 : decide (B < 0) = false := decide_eq_false (by omega)
        obtain ⟨ow, oa, os⟩ := o1
        dsimp only at k0' k1 k2
        have HO := Lib.hid (And.intro hB (And.intro hbk (And.intro ho hmn)))
        have h8 : ∀ v : Nat, ln - ((k : Int) + 1).toNat < ln - ((k : Int)).toNat := fun _ => by omega
        have H8 := Lib.hid (h8 0)
        clear hmn ho hB hbk hbi HB h8 e3
        by_cases h1 : xa < oa
        · have d1 : decide (xa < oa) = true := decide_eq_true h1
          go_wp2_with fail
          go_quiet (fail)
          go_wp2_with fail
          refine ⟨⟨k + 1, k, by rw [Int.natCast_add]; rfl, rfl, by omega, Lib.hid (Bst.new HX.out HO.out.2.2.2 (.inl h1)), Lib.hid (HS2.out.below ⟨rfl, rfl, rfl, Nat.le_refl _, fun _ _ => rfl⟩)⟩, H8.out⟩
        · have d1 : decide (xa < oa) = false := decide_eq_false h1
          by_cases h2 : xa = oa
          · have d2 : (xa == oa) = true := by simpa using h2
            have H1 := Lib.hid h1
            have H2 := Lib.hid h2
            clear h1 h2
            by_cases h3 : xs < os
            · have d3 : decide (xs < os) = true := decide_eq_true h3
              go_wp2_with fail
              go_quiet (fail)
              go_wp2_with fail
              refine ⟨⟨k + 1, k, by rw [Int.natCast_add]; rfl, rfl, by omega, Lib.hid (Bst.new HX.out HO.out.2.2.2 (.inr ⟨H2.out, h3⟩)), Lib.hid (HS2.out.below ⟨rfl, rfl, rfl, Nat.le_refl _, fun _ _ => rfl⟩)⟩, H8.out⟩
            · have d3 : decide (xs < os) = false := decide_eq_false h3
              go_wp2_with fail
              go_quiet (fail)
              go_wp2_with fail
              refine ⟨⟨k + 1, B, by rw [Int.natCast_add]; rfl, rfl, by omega, Lib.hid (by rw [HO.out.1]; exact Bst.more HX.out HO.out.2.2.1 HO.out.2.1 HO.out.2.2.2 (by have := H1.out; unfold onLt; dsimp only; omega)), Lib.hid (HS2.out.below ⟨rfl, rfl, rfl, Nat.le_refl _, fun _ _ => rfl⟩)⟩, H8.out⟩
          · have d2 : (xa == oa) = false := by simpa using h2
            go_wp2_with fail
            go_quiet (fail)
            go_wp2_with fail
            refine ⟨⟨k + 1, B, by rw [Int.natCast_add]; rfl, rfl, by omega, Lib.hid (by rw [HO.out.1]; exact Bst.more HX.out HO.out.2.2.1 HO.out.2.1 HO.out.2.2.2 (by unfold onLt; dsimp only; omega)), Lib.hid (HS2.out.below ⟨rfl, rfl, rfl, Nat.le_refl _, fun _ _ => rfl⟩)⟩, H8.out⟩
    · obtain rfl : k = ln := by omega
      have hki : ¬ (k : Int) < (k : Int) := by omega
      have s0 : wr.cell? ⟨W.heap.size, 0, none⟩ = some (.slice pa pn pc) := HS.out.bx.cell 0
      have s2 : wr.cell? ⟨W.heap.size, 2, none⟩ = some (.int .i64 T) := HS.out.bx.cell 2
      have s3 : wr.cell? ⟨W.heap.size, 3, none⟩ = some (.int .i64 cc) := HS.out.bx.cell 3
      rcases HB.out with ⟨hk0, hB0⟩ | ⟨b, o1, hB, hbk, ho, hmn⟩
      · subst hB0
        have HK0 := Lib.hid hk0
        clear hk0
        go_wp2_with (first
          | ((with_reducible refine at_store (.tmp 2) ?_); refine wpList_store_ds (o := ⟨none, _, _, _, _, _⟩) rfl _ _ rfl (W.heap.size + 1) rfl rfl HS.out.rz (by simp [Value.oneCell']) ?_; intro W7 h7 t7)
          | fail)
        have hnil : d.L = [] := List.eq_nil_of_length_eq_zero (by have := HN.out.1; have := HK0.out; omega)
        refine bodyPost_ret (res_ds2 rfl _ _ (W.heap.size + 1) _ _ _ _ (.int .i64 (-1)) rfl rfl h7) rfl ?_
        rw [← HP.out, if_pos hnil, HE.out.1, HE.out.2]
        exact ⟨_, _, _, rfl, HS.out.dm.other HS.out.rz t7 (by decide) (by decide), HS.out.bel.trans (t7.below HS.out.bel.size (fun j hj e => by omega))⟩
      · have hbi : B.toNat = b := by omega
        have hb0 : 0 ≤ B := by omega
        have hb2 : ¬ B < 0 := by omega
        have hb1 : B < (k : Int) := by omega
        obtain ⟨hxi, hxt⟩ := HM.out b o1 ho (fun j o' h => hmn j o' (by have := (List.getElem?_eq_some_iff.1 h).1; have := HN.out.1; omega) h)
        have hne : d.L ≠ [] := by
          intro e
          rw [e] at ho
          cases ho
        obtain ⟨g, o, rfl, hg, k0', k1, k2⟩ := HS.out.dm.one ho
        rw [← hbi] at k0' k1 k2
        obtain ⟨ow, oa, os⟩ := o1
        dsimp only at k0' k1 k2 hxi hxt
        subst hxi
        subst hxt
        have HPost : Hid (Post = NxPost pa pn pc (nextD d i oa) i W) := Lib.hid (by rw [← HP.out, if_neg hne])
        have HI := Lib.hid (HN.out.2.1 hne)
        have HBB := Lib.hid (And.intro hbi hbk)
        clear hne hbi hbk hmn ho HB HP hB
        go_wp2_with fail
        refine calls_name (fun U hU => ?_)
        obtain ⟨xb, hxb⟩ : ∃ xb, xb = wr.heap.size := ⟨_, rfl⟩
        have HU : Hid (Nx W pa pn pc (some ⟨g, o, none⟩) k lc d T cc U ∧ Has U xb 77 #[.int .i64 i, .int .i64 oa, .int .i64 os] ∧ W.heap.size + 1 < xb) := by
          rw [← hU, hxb]
          exact Lib.hid ⟨HS.out.alloc _, Has.made _ _ _, HS.out.rz.lt⟩
        rw [← hxb]
        have hd := HU.out.1.dm.drop i (by have := HN.out.2.2.2.2.2.2.2.2; omega)
        rw [← HE.out.1, ← HE.out.2] at hd
        clear hU hxb s0 s2 s3 w1 k0' k1 k2 hg hb0 hb1 hb2 hki
        refine hd.mono ?_
        rintro en w1 ⟨la1, ln1, lc1, rfl, hd1, b1⟩
        have e1 : (dropD d i).T = T := HE.out.1.symm
        have e2 : (dropD d i).c = cc := HE.out.2.symm
        rw [e1, e2]
        have K1 : Hid (Dm w1 pa pn pc la1 ln1 lc1 (dropD d i) ∧ Has w1 W.heap.size 30 (dsC pa pn pc (some ⟨g, o, none⟩) k lc T cc) ∧ Has w1 (W.heap.size + 1) 30 dsZ ∧ Has w1 xb 77 #[.int .i64 i, .int .i64 oa, .int .i64 os] ∧ Below W.heap.size W w1) :=
          Lib.hid ⟨hd1, HU.out.1.bx.below b1 HU.out.1.bx.lt, HU.out.1.rz.below b1 HU.out.1.rz.lt, HU.out.2.1.below b1 HU.out.2.1.lt, HU.out.1.bel.trans (b1.mono HU.out.1.bel.size)⟩
        have HXB := Lib.hid HU.out.2.2
        clear hd hd1 b1 HU e1 e2 HS
        go_wp2_with (first
          | ((with_reducible refine at_store (.tmp 1) ?_); refine wpList_store_ds (o := ⟨none, _, _, _, _, _⟩) rfl _ _ rfl W.heap.size rfl rfl K1.out.2.1 (by simp [Value.oneCell']) ?_; intro W2 h2 t2
             (have K2 : Hid (Dm W2 pa pn pc la1 ln1 lc1 (dropD d i) ∧ Has W2 W.heap.size 30 (dsC pa pn pc la1 ln1 lc1 T cc) ∧ Has W2 (W.heap.size + 1) 30 dsZ ∧ Has W2 xb 77 #[.int .i64 i, .int .i64 oa, .int .i64 os] ∧ Below W.heap.size W W2) := Lib.hid ⟨K1.out.1.other K1.out.2.1 t2 (by decide) (by decide), h2, K1.out.2.2.1.turn t2 (by omega), K1.out.2.2.2.1.turn t2 (by have := HXB.out; omega), K1.out.2.2.2.2.trans (t2.below K1.out.2.2.2.2.size (fun j hj e => by omega))⟩)
             (have x1 : W2.cell? ⟨xb, 1, none⟩ = some (.int .i64 oa) := K2.out.2.2.2.1.cell 1)
             (have x2 : W2.cell? ⟨W.heap.size, 2, none⟩ = some (.int .i64 T) := h2.cell 2)
             (have f2 : W2.frozen? ⟨W.heap.size, 2, none⟩ = false := h2.free 2)
             (clear h2 t2 K1))
          | fail)
        clear x1 x2 f2
        obtain ⟨V0, hV0⟩ : ∃ V, V = World.drew (W2.setCell ⟨W.heap.size, 2, none⟩ (.int .i64 oa)) := ⟨_, rfl⟩
        obtain ⟨d2, hd2⟩ : ∃ d2 : Dc, d2 = { dropD d i with T := oa } := ⟨_, rfl⟩
        have K3 : Hid (Dm V0 pa pn pc la1 ln1 lc1 d2 ∧ Has V0 W.heap.size 30 (dsC pa pn pc la1 ln1 lc1 oa cc) ∧ Has V0 (W.heap.size + 1) 30 dsZ ∧ Has V0 xb 77 #[.int .i64 i, .int .i64 oa, .int .i64 os] ∧ Below W.heap.size W V0) := by
          have t3 : Turn (fun j => j = W.heap.size) W2 V0 := by
            rw [hV0]
            exact ((Turn.refl (fun j => j = W.heap.size) W2).put (fun _ => rfl) 2 _).drew
          have h3 : Has V0 W.heap.size 30 (dsC pa pn pc la1 ln1 lc1 oa cc) := by
            rw [hV0]
            exact (K2.out.2.1.put 2 (.int .i64 oa)).drew
          have hd3 := K2.out.1.other K2.out.2.1 t3 (by decide) (by decide)
          exact Lib.hid ⟨by rw [hd2]; exact ⟨hd3.pac, hd3.lst⟩, h3, K2.out.2.2.1.turn t3 (by omega), K2.out.2.2.2.1.turn t3 (by have := HXB.out; omega), K2.out.2.2.2.2.trans (t3.below K2.out.2.2.2.2.size (fun j hj e => by omega))⟩
        refine wp_region_heldV (fun V => Has V W.heap.size 30 (dsC pa pn pc la1 ln1 lc1 oa cc) ∧ Has V xb 77 #[.int .i64 i, .int .i64 oa, .int .i64 os]) V0 hV0 (by kernel_rfl) ?_
        have HS0 : (fun V => Has V W.heap.size 30 (dsC pa pn pc la1 ln1 lc1 oa cc) ∧ Has V xb 77 #[.int .i64 i, .int .i64 oa, .int .i64 os]) V0 := ⟨K3.out.2.1, K3.out.2.2.2.1⟩
        clear hV0 K2
        refine held_take 0 (some 68) (v := .agg (dsC pa pn pc la1 ln1 lc1 oa cc)) rfl rfl (by kernel_rfl) (by kernel_rfl) (by kernel_rfl) (fun _ _ _ h => h) (.inl ⟨by kernel_rfl, fun V hV => by
          have c0 : V.cell? ⟨W.heap.size, 0, none⟩ = some (.slice pa pn pc) := hV.1.cell 0
          have c1 : V.cell? ⟨W.heap.size, 1, none⟩ = some (.slice la1 ln1 lc1) := hV.1.cell 1
          have c2 : V.cell? ⟨W.heap.size, 2, none⟩ = some (.int .i64 oa) := hV.1.cell 2
          have c3 : V.cell? ⟨W.heap.size, 3, none⟩ = some (.int .i64 cc) := hV.1.cell 3
          go_simp⟩) HS0 ?_
        refine held_take 1 (some 69) (v := .pointer (some ⟨xb, 0, none⟩)) rfl rfl (by kernel_rfl) (by kernel_rfl) (by kernel_rfl) (fun _ _ _ h => h) (.inl ⟨by kernel_rfl, fun V hV => by go_simp⟩) HS0 ?_
        refine held_take 2 (some 70) (v := .int .i64 i) rfl rfl (by kernel_rfl) (by kernel_rfl) (by kernel_rfl) (fun _ _ _ h => h) (.inl ⟨by kernel_rfl, fun V hV => by
          have c0 : V.cell? ⟨xb, 0, none⟩ = some (.int .i64 i) := hV.2.cell 0
          go_simp⟩) HS0 ?_
        refine held_take 4 (some 72) (v := .pointer (some ⟨xb, 0, none⟩)) rfl rfl (by kernel_rfl) (by kernel_rfl) (by kernel_rfl) (fun _ _ _ h => h) (.inl ⟨by kernel_rfl, fun V hV => by go_simp⟩) HS0 ?_
        refine held_take 5 (some 73) (v := .int .i64 i) rfl rfl (by kernel_rfl) (by kernel_rfl) (by kernel_rfl) (fun _ _ _ h => h) (.inl ⟨by kernel_rfl, fun V hV => by
          have c0 : V.cell? ⟨xb, 0, none⟩ = some (.int .i64 i) := hV.2.cell 0
          go_simp⟩) HS0 ?_
        simp only [Act.put, List.setIfInBounds_toArray, List.set_cons_zero, List.set_cons_succ]
        have hn := HN.out
        have hT2 : d2.T = oa := by rw [hd2]
        have hc2 : d2.c = d.c := by rw [hd2]; rfl
        have hP2 : d2.P = d.P := by rw [hd2]; rfl
        have hL2 : d2.L.length ≤ d.L.length := by rw [hd2]; exact List.length_filter_le _ _
        have HNE : Hid (nextD d i oa = sch.due d2 i) := Lib.hid (by rw [hd2]; rfl)
        have hdue := K3.out.1.due1 i (by rw [hP2]; exact HI.out) (by omega) (by omega) (by rw [hP2]; omega) (by omega) (by omega) (by omega) (by rw [hP2]; omega)
        rw [hT2, hc2, ← HE.out.2] at hdue
        clear hn hT2 hc2 hP2 hL2 hd2
        refine held_one (i := 3) (by kernel_rfl) ?_
        refine wpOp_call (some 71) rfl rfl (by kernel_rfl) 26 Try.f26 Try.func26 (by kernel_rfl) (by kernel_rfl) _ _ rfl #[.agg (dsC pa pn pc la1 ln1 lc1 oa cc), .int .i64 i] (by first | (simp [Act.eval]; done) | (simp [Act.eval, Act.put]; done)) hdue ?_
        rintro en w6 ⟨la6, ln6, lc6, rfl, hd6, b6⟩
        have K6 : Hid (Dm w6 pa pn pc la6 ln6 lc6 (sch.due d2 i) ∧ Has w6 (W.heap.size + 1) 30 dsZ ∧ Below W.heap.size W w6) := Lib.hid ⟨hd6, K3.out.2.2.1.below b6 K3.out.2.2.1.lt, K3.out.2.2.2.2.trans (b6.mono K3.out.2.2.2.2.size)⟩
        have HS6 : (fun V => Has V W.heap.size 30 (dsC pa pn pc la1 ln1 lc1 oa cc) ∧ Has V xb 77 #[.int .i64 i, .int .i64 oa, .int .i64 os]) w6 := ⟨HS0.1.below b6 HS0.1.lt, HS0.2.below b6 HS0.2.lt⟩
        clear hd6 b6 hdue K3 HS0
        refine ⟨_, rfl, HS6, ?_⟩
        simp only [Act.put, List.setIfInBounds_toArray, List.set_cons_zero, List.set_cons_succ]
        refine held_one (i := 6) (by kernel_rfl) ?_
        refine wpOp_wp (o := ⟨none, _, _, _, _, _⟩) rfl (by kernel_rfl) (wp_store_row 30 _ _ rfl (W.heap.size + 1) (dsC pa pn pc la6 ln6 lc6 (sch.due d2 i).T (sch.due d2 i).c) rfl rfl 30 dsZ K6.out.2.1 (by kernel_rfl) rfl (by simp [Value.oneCell']) ?_)
        have h7 := K6.out.2.1.row (dsC pa pn pc la6 ln6 lc6 (sch.due d2 i).T (sch.due d2 i).c)
        have t7 := turn_row w6 (W.heap.size + 1) (dsC pa pn pc la6 ln6 lc6 (sch.due d2 i).T (sch.due d2 i).c)
        generalize w6.setRow (W.heap.size + 1) (dsC pa pn pc la6 ln6 lc6 (sch.due d2 i).T (sch.due d2 i).c) = w7 at *
        have HS7 : (fun V => Has V W.heap.size 30 (dsC pa pn pc la1 ln1 lc1 oa cc) ∧ Has V xb 77 #[.int .i64 i, .int .i64 oa, .int .i64 os]) w7 := ⟨HS6.1.turn t7 (by omega), HS6.2.turn t7 (by have := HXB.out; omega)⟩
        have K7 : Hid (NxPost pa pn pc (nextD d i oa) i W (.returned (.tuple #[.agg (dsC pa pn pc la6 ln6 lc6 (sch.due d2 i).T (sch.due d2 i).c), .int .i64 i])) w7) := Lib.hid (by
          rw [HNE.out]
          exact ⟨_, _, _, rfl, K6.out.1.other K6.out.2.1 t7 (by decide) (by decide), K6.out.2.2.trans (t7.below K6.out.2.2.size (fun j hj e => by omega))⟩)
        have H7 := Lib.hid h7
        clear h7 t7 K6 HS6
        refine ⟨HS7, ?_⟩
        simp only [Act.put]
        refine held_one (i := 7) (by kernel_rfl) ?_
        refine wpOp_value (some 3) (v := .int .i64 i) (w' := w7) rfl rfl (by kernel_rfl) (by go_simp) ⟨HS7, ?_⟩
        simp only [Act.put, List.setIfInBounds_toArray, List.set_cons_zero, List.set_cons_succ]
        refine wpAnyH_done (by kernel_rfl) ?_ _
        clear HS7
        go_wp2_with fail
        refine bodyPost_ret (res_ds2 rfl _ _ (W.heap.size + 1) _ _ _ _ (.int .i64 i) rfl rfl H7.out) rfl ?_
        rw [HPost.out]
        exact K7.out
end Go.Proofs.Ytbpnbnbglfiglaa.sch
