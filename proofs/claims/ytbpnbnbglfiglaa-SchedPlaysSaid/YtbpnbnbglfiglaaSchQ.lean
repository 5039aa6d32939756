/- sched: the document's schedule in memory; due. -/
import Derived.Test.YtbpnbnbglfiglaaSchN
import Derived.Test.YtbpnbnbglfiglaaCopyN
import Derived.Test.YtbpnbnbglfiglaaHeldK
import Derived.Test.YtbpnbnbglfiglaaHold
import Derived.Test.YtbpnbnbglfiglaaLate
import Derived.Test.YtbpnbnbglfiglaaOwn
import Derived.Test.YtbpnbnbglfiglaaReg
import Derived.Lib.ItoaWalk
namespace Go.Proofs.Ytbpnbnbglfiglaa.sch
open Go Go.RowKit

theorem oneInfo : ∃ i z, Try.prog.info? 77 = some i ∧ i.zero = some z ∧ i.size = 3 ∧ z.cells.size = 3 ∧ i.bytes = 24 := by
  have h2 : (Try.prog.info? 77).map (fun i => (i.zero.map (fun z => z.cells.size), i.size, i.bytes)) = some (some 3, 3, 24) := by kernel_rfl
  obtain ⟨i, hi, e⟩ := Option.map_eq_some_iff.1 h2
  simp only [Prod.mk.injEq] at e
  obtain ⟨e1, e2, e3⟩ := e
  obtain ⟨z, hz, e4⟩ := Option.map_eq_some_iff.1 e1
  exact ⟨i, z, hi, hz, e2, e4, e3⟩

def oneC (o : On) : List Value := [.int .i64 o.1, .int .i64 o.2.1, .int .i64 o.2.2]
def ones (L : List On) : List Value := L.flatMap oneC
theorem ones_len : ∀ L : List On, (ones L).length = L.length * 3
  | [] => rfl
  | o :: L => by
    have := ones_len L
    unfold ones at this ⊢
    rw [List.flatMap_cons, List.length_append, this, List.length_cons]
    show 3 + _ = _
    omega
theorem ones_snoc (L : List On) (o : On) : ones (L ++ [o]) = ones L ++ oneC o := by unfold ones; rw [List.flatMap_append]; simp
theorem ones_at : ∀ (L : List On) (i : Nat) (o : On) (r : Nat), L[i]? = some o → r < 3 → (ones L)[i * 3 + r]? = (oneC o)[r]?
  | [], i, o, r, h, _ => by cases h
  | x :: L, 0, o, r, h, hr => by
    obtain rfl : x = o := by simpa using h
    show (oneC x ++ ones L)[0 * 3 + r]? = _
    rw [List.getElem?_append_left (by show 0 * 3 + r < 3; omega), Nat.zero_mul, Nat.zero_add]
  | x :: L, i + 1, o, r, h, hr => by
    show (oneC x ++ ones L)[(i + 1) * 3 + r]? = _
    rw [List.getElem?_append_right (by show 3 ≤ _; omega)]
    have := ones_at L i o r (by simpa using h) hr
    rw [← this]
    congr 1
    show (i + 1) * 3 + r - 3 = _
    omega
theorem one_ones (L : List On) : ∀ u ∈ ones L, u.oneCell' = true := by
  intro u hu
  obtain ⟨o, _, h⟩ := List.mem_flatMap.1 hu
  unfold oneC at h
  simp only [List.mem_cons, List.not_mem_nil, or_false] at h
  rcases h with rfl | rfl | rfl <;> rfl

theorem seg_thin {w : World} {e : TypeId} {size n : Nat} {v : Value} {xs : List Value} (h : Seg w e size v n xs) : Thick v n ∨ v = .slice none 0 0 := by
  rcases h.2 with ⟨h0, _⟩ | ⟨g, off, cap, cur, h0, _⟩
  · exact .inr h0
  · exact .inl ⟨g, off, cap, h0⟩

/-- The document's schedule in memory. -/
structure Dm (W : World) (pa : Option Addr) (pn pc : Nat) (la : Option Addr) (ln lc : Nat) (d : Dc) : Prop where
  pac : Seg W 3 1 (.slice pa pn pc) pn (d.P.map (Value.int .i64))
  lst : Seg W 77 3 (.slice la ln lc) ln (ones d.L)

abbrev dsC (pa : Option Addr) (pn pc : Nat) (la : Option Addr) (ln lc : Nat) (T c : Int) : Array Value := #[.slice pa pn pc, .slice la ln lc, .int .i64 T, .int .i64 c]
abbrev dsZ : Array Value := dsC none 0 0 none 0 0 0 0

section
variable {W W' : World} {pa la : Option Addr} {pn pc ln lc : Nat} {d : Dc}
theorem Dm.pn_ (h : Dm W pa pn pc la ln lc d) : d.P.length = pn := by have := h.pac.1; simpa using this
theorem Dm.ln_ (h : Dm W pa pn pc la ln lc d) : d.L.length = ln := by have := h.lst.1; rw [ones_len] at this; omega
theorem Dm.below (h : Dm W pa pn pc la ln lc d) (hb : Below W.heap.size W W') : Dm W' pa pn pc la ln lc d := ⟨h.pac.below hb (fun _ e => h.pac.lt e), h.lst.below hb (fun _ e => h.lst.lt e)⟩
theorem Dm.drew (h : Dm W pa pn pc la ln lc d) : Dm W.drew pa pn pc la ln lc d := ⟨h.pac, h.lst⟩
theorem Dm.alloc (h : Dm W pa pn pc la ln lc d) (o : Obj) : Dm (W.alloc o) pa pn pc la ln lc d := h.below ((Below.refl _ W).alloc (Nat.le_refl _) o)
theorem Dm.turn {F : Nat → Prop} (h : Dm W pa pn pc la ln lc d) (t : Turn F W W') (h1 : ∀ b, (Value.slice pa pn pc).ownBlock = some b → ¬ F b) (h2 : ∀ b, (Value.slice la ln lc).ownBlock = some b → ¬ F b) : Dm W' pa pn pc la ln lc d := ⟨h.pac.turn t h1, h.lst.turn t h2⟩
/-- A block of another type turns. -/
theorem Dm.other (h : Dm W pa pn pc la ln lc d) {x : Nat} {t : TypeId} {cs : Array Value} (hx : Has W x t cs) (t1 : Turn (fun j => j = x) W W') (h1 : 3 ≠ t) (h2 : 77 ≠ t) : Dm W' pa pn pc la ln lc d :=
  h.turn t1 (fun b hb e => h.pac.ne hx h1 (by rw [hb, e])) (fun b hb e => h.lst.ne hx h2 (by rw [hb, e]))
theorem Dm.pace (h : Dm W pa pn pc la ln lc d) {i : Nat} (hi : i < d.P.length) : ∃ g o, pa = some ⟨g, o, none⟩ ∧ g < W.heap.size ∧ W.cell? ⟨g, o + i, none⟩ = some (.int .i64 (pace d.P i)) := by
  have hp := h.pn_
  obtain ⟨g, o, c, e, hg, _, _, hc⟩ := h.pac.cells (by omega)
  injection e with e1 e2 e3
  refine ⟨g, o, e1, hg, hc i _ ?_⟩
  rw [List.getElem?_map, List.getElem?_eq_getElem hi]
  show some (Value.int .i64 _) = _
  rw [pace_get (List.getElem?_eq_getElem hi)]
theorem Dm.one (h : Dm W pa pn pc la ln lc d) {i : Nat} {x : On} (hi : d.L[i]? = some x) : ∃ g o, la = some ⟨g, o, none⟩ ∧ g < W.heap.size ∧ W.cell? ⟨g, o + i * 3, none⟩ = some (.int .i64 x.1) ∧ W.cell? ⟨g, o + i * 3 + 1, none⟩ = some (.int .i64 x.2.1) ∧ W.cell? ⟨g, o + i * 3 + 2, none⟩ = some (.int .i64 x.2.2) := by
  have hp := h.ln_
  have hl := (List.getElem?_eq_some_iff.1 hi).1
  obtain ⟨g, o, c, e, hg, _, _, hc⟩ := h.lst.cells (by omega)
  injection e with e1 e2 e3
  exact ⟨g, o, e1, hg, hc (i * 3) _ (ones_at _ i x 0 hi (by omega)), hc (i * 3 + 1) _ (ones_at _ i x 1 hi (by omega)), hc (i * 3 + 2) _ (ones_at _ i x 2 hi (by omega))⟩
end

def DmPost (d : Dc) (W : World) (en : Ending) (W' : World) : Prop :=
  ∃ (pa : Option Addr) (pn pc : Nat) (la : Option Addr) (ln lc : Nat), en = .returned (.agg (dsC pa pn pc la ln lc d.T d.c)) ∧ Dm W' pa pn pc la ln lc d ∧ Below W.heap.size W W'

theorem res_ds {fn : Func} {t : Tmp} (h : fn.results = #[.cell t 30]) (tmps : Array Value) (w : World) (g : Nat) (a b c d : Value) (hx : tmps.getD t undef = .pointer (some ⟨g, 0, none⟩)) (hE : Has w g 30 #[a, b, c, d]) :
    (results fn tmps).run Try.prog w = .ok (.agg #[a, b, c, d]) w := by
  have c0 : w.cell? ⟨g, 0, none⟩ = some a := hE.cell 0
  have c1 : w.cell? ⟨g, 1, none⟩ = some b := hE.cell 1
  have c2 : w.cell? ⟨g, 2, none⟩ = some c := hE.cell 2
  have c3 : w.cell? ⟨g, 3, none⟩ = some d := hE.cell 3
  rw [Array.getD_eq_getD_getElem?] at hx
  simp [results, h, hx, go_sem, c0, c1, c2, c3]

/-- Four cells are stored. -/
theorem put4 {V : World} {x : Nat} {t : TypeId} {a b c d a' b' c' d' : Value} (hx : Has V x t #[a, b, c, d]) :
    Has ((((V.setCell ⟨x, 0, none⟩ a').setCell ⟨x, 1, none⟩ b').setCell ⟨x, 2, none⟩ c').setCell ⟨x, 3, none⟩ d') x t #[a', b', c', d'] ∧
    Turn (fun j => j = x) V ((((V.setCell ⟨x, 0, none⟩ a').setCell ⟨x, 1, none⟩ b').setCell ⟨x, 2, none⟩ c').setCell ⟨x, 3, none⟩ d') :=
  ⟨by simpa using (((hx.put 0 a').put 1 b').put 2 c').put 3 d', ((((Turn.refl (fun j => j = x) V).put (fun _ => rfl) 0 _).put (fun _ => rfl) 1 _).put (fun _ => rfl) 2 _).put (fun _ => rfl) 3 _⟩

/-- As DmPost; the paces lie where they did. -/
def DuPost (pa : Option Addr) (pn pc : Nat) (d : Dc) (W : World) (en : Ending) (W' : World) : Prop :=
  ∃ (la : Option Addr) (ln lc : Nat), en = .returned (.agg (dsC pa pn pc la ln lc d.T d.c)) ∧ Dm W' pa pn pc la ln lc d ∧ Below W.heap.size W W'
theorem DuPost.dm {pa : Option Addr} {pn pc : Nat} {d : Dc} {W : World} {en : Ending} {W' : World} (h : DuPost pa pn pc d W en W') : DmPost d W en W' := by
  obtain ⟨la, ln, lc, h1, h2, h3⟩ := h
  exact ⟨pa, pn, pc, la, ln, lc, h1, h2, h3⟩
/-- As DmPost; the paces lie in new memory. -/
def DlPost (d : Dc) (W : World) (en : Ending) (W' : World) : Prop :=
  ∃ (pa : Option Addr) (pn pc : Nat) (la : Option Addr) (ln lc : Nat), en = .returned (.agg (dsC pa pn pc la ln lc d.T d.c)) ∧ Dm W' pa pn pc la ln lc d ∧ Below W.heap.size W W' ∧ ∀ b, (Value.slice pa pn pc).ownBlock = some b → W.heap.size ≤ b

set_option maxRecDepth 100000 in
set_option maxHeartbeats 4000000 in
theorem Dm.due1 {W : World} {pa la : Option Addr} {pn pc ln lc : Nat} {d : Dc} (h : Dm W pa pn pc la ln lc d) (i : Nat) (hi : i < d.P.length) (hT0 : 0 ≤ d.T) (hT : d.T ≤ 1000000000000000) (hp1 : sch.pace d.P i ≤ 1048576) (hc0 : 0 ≤ d.c) (hc : d.c ≤ 1000000000) (hl : d.L.length ≤ 100000) (hpl : d.P.length ≤ 1000) :
    Calls Try.prog 26 #[.agg (dsC pa pn pc la ln lc d.T d.c), .int .i64 i] W (DuPost pa pn pc (sch.due d i) W) := by
  obtain ⟨z0i, z0, hi0, hz0, hz1, hz2, hz3⟩ := oneInfo
  have HI0 := Lib.hid hi0
  have HZ0 := Lib.hid hz0
  obtain ⟨g, o, rfl, hg, q0⟩ := h.pace hi
  have hpn := h.pn_
  have hln := h.ln_
  have H := Lib.hid h
  obtain ⟨pi, hpi⟩ : ∃ pi, pi = sch.pace d.P i := ⟨_, rfl⟩
  obtain ⟨T, hTT⟩ : ∃ T, T = d.T := ⟨_, rfl⟩
  obtain ⟨cc, hcc⟩ : ∃ cc, cc = d.c := ⟨_, rfl⟩
  rw [← hpi] at q0 hp1
  rw [← hTT] at hT0 hT ⊢
  rw [← hcc] at hc0 hc ⊢
  have i0 : (0 : Int) ≤ (i : Int) := by omega
  have i1 : (i : Int) < (pn : Int) := by omega
  have HLN := Lib.hid (And.intro hl (And.intro hln (And.intro hpl hpn)))
  have HE := Lib.hid (And.intro hpi (And.intro hTT hcc))
  have z0' : g < W.heap.size + 1 := by omega
  have z1' : g < W.heap.size + 1 + 1 := by omega
  clear h hi hi0 hz0 hl hpl hln hpn hpi hTT hcc
  obtain ⟨tp, htp⟩ : ∃ tp, IntKind.i64.wrap (T + pi) = tp := ⟨_, rfl⟩
  have HTP := Lib.hid htp
  by_cases hp : 0 < pi
  · have HP := Lib.hid hp
    go_enter Try.func26, Try.ntmps26
    go_wp2_with fail
    go_name_world U hU
    have HU : Hid (Dm U (some ⟨g, o, none⟩) pn pc la ln lc d ∧ Has U W.heap.size 30 (dsC (some ⟨g, o, none⟩) pn pc la ln lc T (cc + 1)) ∧ Has U (W.heap.size + 1) 30 dsZ ∧ Below W.heap.size W U) := by
      rw [← hU]
      exact Lib.hid ⟨(H.out.alloc _).alloc _, (Has.made W _ _).alloc _, made_at _ _ (by simp), ((Below.refl _ W).alloc (Nat.le_refl _) _).alloc (by simp) _⟩
    have x0 : U.cell? ⟨W.heap.size, 0, none⟩ = some (.slice (some ⟨g, o, none⟩) pn pc) := HU.out.2.1.cell 0
    have x1 : U.cell? ⟨W.heap.size, 1, none⟩ = some (.slice la ln lc) := HU.out.2.1.cell 1
    have x2 : U.cell? ⟨W.heap.size, 2, none⟩ = some (.int .i64 T) := HU.out.2.1.cell 2
    have x3 : U.cell? ⟨W.heap.size, 3, none⟩ = some (.int .i64 (cc + 1)) := HU.out.2.1.cell 3
    have p0 : U.cell? ⟨g, o + i, none⟩ = some (.int .i64 pi) := by
      obtain ⟨g', o', e, _, h2⟩ := HU.out.1.pace (i := i) (by have := HLN.out; omega)
      rw [HE.out.1]
      injection e with e
      injection e with e1 e2
      subst e1 e2
      exact h2
    have hgU : g < U.heap.size := by have := HU.out.2.2.1.lt; omega
    have hbU : W.heap.size < U.heap.size := HU.out.2.1.lt
    clear hU q0 hg z0' z1'
    obtain ⟨V0, hV0⟩ : ∃ V, V = U.drew := ⟨_, rfl⟩
    refine wp_region_heldK 19 (fun V => Below U.heap.size U V) V0 hV0 (by kernel_rfl) ?_
    have HS : ∀ V, Below U.heap.size U V → Below U.heap.size U V := fun V h => h
    have S0 : Below U.heap.size U V0 := by rw [hV0]; exact (Below.refl _ _).drew
    clear hV0 x0 x1 x2 x3
    refine heldK_take 1 (some 16) (v := .pointer (some ⟨W.heap.size, 1, none⟩)) rfl rfl (by kernel_rfl) (by kernel_rfl) (by kernel_rfl) (by kernel_rfl) (by kernel_rfl) (by decide) (fun _ _ _ h => h) (.inl ⟨by kernel_rfl, fun V hV => by go_simp⟩) S0 ?_
    refine heldK_take 2 (some 17) (v := .slice la ln lc) rfl rfl (by kernel_rfl) (by kernel_rfl) (by kernel_rfl) (by kernel_rfl) (by kernel_rfl) (by decide) (fun _ _ _ h => h) (.inl ⟨by kernel_rfl, fun V hV => by (have c1 : V.cell? ⟨W.heap.size, 1, none⟩ = some (.slice la ln lc) := ((HU.out.2.1.below (HS V hV) HU.out.2.1.lt).cell 1)); go_simp⟩) S0 ?_
    refine heldK_take 4 (some 19) (v := .int .i64 i) rfl rfl (by kernel_rfl) (by kernel_rfl) (by kernel_rfl) (by kernel_rfl) (by kernel_rfl) (by decide) (fun _ _ _ h => h) (.inl ⟨by kernel_rfl, fun V hV => by go_simp⟩) S0 ?_
    refine heldK_take 5 (some 20) (v := .pointer (some ⟨W.heap.size, 2, none⟩)) rfl rfl (by kernel_rfl) (by kernel_rfl) (by kernel_rfl) (by kernel_rfl) (by kernel_rfl) (by decide) (fun _ _ _ h => h) (.inl ⟨by kernel_rfl, fun V hV => by go_simp⟩) S0 ?_
    refine heldK_take 6 (some 21) (v := .int .i64 T) rfl rfl (by kernel_rfl) (by kernel_rfl) (by kernel_rfl) (by kernel_rfl) (by kernel_rfl) (by decide) (fun _ _ _ h => h) (.inl ⟨by kernel_rfl, fun V hV => by (have c1 : V.cell? ⟨W.heap.size, 2, none⟩ = some (.int .i64 T) := ((HU.out.2.1.below (HS V hV) HU.out.2.1.lt).cell 2)); go_simp⟩) S0 ?_
    refine heldK_take 7 (some 22) (v := .pointer (some ⟨W.heap.size, 0, none⟩)) rfl rfl (by kernel_rfl) (by kernel_rfl) (by kernel_rfl) (by kernel_rfl) (by kernel_rfl) (by decide) (fun _ _ _ h => h) (.inl ⟨by kernel_rfl, fun V hV => by go_simp⟩) S0 ?_
    refine heldK_take 8 (some 23) (v := .slice (some ⟨g, o, none⟩) pn pc) rfl rfl (by kernel_rfl) (by kernel_rfl) (by kernel_rfl) (by kernel_rfl) (by kernel_rfl) (by decide) (fun _ _ _ h => h) (.inl ⟨by kernel_rfl, fun V hV => by (have c1 : V.cell? ⟨W.heap.size, 0, none⟩ = some (.slice (some ⟨g, o, none⟩) pn pc) := ((HU.out.2.1.below (HS V hV) HU.out.2.1.lt).cell 0)); go_simp⟩) S0 ?_
    refine heldK_take 9 (some 24) (v := .int .i64 i) rfl rfl (by kernel_rfl) (by kernel_rfl) (by kernel_rfl) (by kernel_rfl) (by kernel_rfl) (by decide) (fun _ _ _ h => h) (.inl ⟨by kernel_rfl, fun V hV => by go_simp⟩) S0 ?_
    refine heldK_take 10 (some 25) (v := .pointer (some ⟨g, o + i, none⟩)) rfl rfl (by kernel_rfl) (by kernel_rfl) (by kernel_rfl) (by kernel_rfl) (by kernel_rfl) (by decide) (fun _ _ _ h => h) (.inl ⟨by kernel_rfl, fun V hV => by go_simp⟩) S0 ?_
    refine heldK_take 11 (some 26) (v := .int .i64 pi) rfl rfl (by kernel_rfl) (by kernel_rfl) (by kernel_rfl) (by kernel_rfl) (by kernel_rfl) (by decide) (fun _ _ _ h => h) (.inl ⟨by kernel_rfl, fun V hV => by (have c1 : V.cell? ⟨g, o + i, none⟩ = some (.int .i64 pi) := (Turn.cell (F := fun j => U.heap.size ≤ j) (Turn.of_below (HS V hV) (fun _ _ e => e)) hgU (by show ¬ U.heap.size ≤ g; omega)).trans p0); go_simp⟩) S0 ?_
    refine heldK_take 12 (some 27) (v := .int .i64 tp) rfl rfl (by kernel_rfl) (by kernel_rfl) (by kernel_rfl) (by kernel_rfl) (by kernel_rfl) (by decide) (fun _ _ _ h => h) (.inl ⟨by kernel_rfl, fun V hV => by go_simp⟩) S0 ?_
    refine heldK_take 13 (some 28) (v := .pointer (some ⟨W.heap.size, 3, none⟩)) rfl rfl (by kernel_rfl) (by kernel_rfl) (by kernel_rfl) (by kernel_rfl) (by kernel_rfl) (by decide) (fun _ _ _ h => h) (.inl ⟨by kernel_rfl, fun V hV => by go_simp⟩) S0 ?_
    refine heldK_take 14 (some 29) (v := .int .i64 (cc + 1)) rfl rfl (by kernel_rfl) (by kernel_rfl) (by kernel_rfl) (by kernel_rfl) (by kernel_rfl) (by decide) (fun _ _ _ h => h) (.inl ⟨by kernel_rfl, fun V hV => by (have c1 : V.cell? ⟨W.heap.size, 3, none⟩ = some (.int .i64 (cc + 1)) := ((HU.out.2.1.below (HS V hV) HU.out.2.1.lt).cell 3)); go_simp⟩) S0 ?_
    refine heldK_take 15 (some 30) (v := .agg #[.int .i64 i, .int .i64 tp, .int .i64 (cc + 1)]) rfl rfl (by kernel_rfl) (by kernel_rfl) (by kernel_rfl) (by kernel_rfl) (by kernel_rfl) (by decide) (fun _ _ _ h => h) (.inl ⟨by kernel_rfl, fun V hV => by go_simp⟩) S0 ?_
    simp only [Act.put, List.setIfInBounds_toArray, List.set_cons_zero, List.set_cons_succ]
    refine heldK_two (i := 0) (j := 16) (by kernel_rfl) ?_ ?_
    · refine wpOp_value (some 15) (v := .slice (some ⟨V0.heap.size, 0, none⟩) 0 0) (w' := V0.alloc (.cells #[] 77)) rfl rfl (by kernel_rfl) (by go_simp) ?_
      have b0 : Below V0.heap.size V0 (V0.alloc (.cells #[] 77)) := (Below.refl _ _).alloc (Nat.le_refl _) _
      have S1 : Below U.heap.size U (V0.alloc (.cells #[] 77)) := S0.trans (b0.mono S0.size)
      have E1 : Seg (V0.alloc (.cells #[] 77)) 77 3 (.slice (some ⟨V0.heap.size, 0, none⟩) 0 0) 0 [] := Seg.empty (Has.made V0 77 #[])
      have le0 : U.heap.size ≤ V0.heap.size := S0.size
      obtain ⟨e0, he0⟩ : ∃ x, x = V0.heap.size := ⟨_, rfl⟩
      obtain ⟨V1, hV1⟩ : ∃ x, x = V0.alloc (.cells #[] 77) := ⟨_, rfl⟩
      rw [← hV1] at S1 E1 ⊢
      rw [← he0] at le0 E1 ⊢
      clear b0
      refine ⟨S1, ?_⟩
      simp only [Act.put, List.setIfInBounds_toArray, List.set_cons_zero, List.set_cons_succ]
      refine heldK_two (i := 3) (j := 16) (by kernel_rfl) ?_ ?_
      · refine wpOp_wp (o := ⟨some 18, _, _, _, _, _⟩) rfl (by kernel_rfl) (wp_append_any V1 (.tmp 15) (.tmp 17) 28 rfl 77 z0i z0 3 24 Try.underlying28 HI0.out HZ0.out hz1 hz3 hz2 (by decide) (.slice (some ⟨e0, 0, none⟩) 0 0) 0 [] rfl E1 ⟨_, _, _, rfl⟩ (.slice la ln lc) ln (ones d.L) rfl ((HU.out.1.below S1).lst) (seg_thin HU.out.1.lst) (one_ones _) (by have := HLN.out; unfold maxLen; omega) (by have := HLN.out; omega) ?_)
        intro r V2 th sg gr nw
        rw [Nat.zero_add] at th sg
        rw [List.nil_append] at sg
        have A2 : Seg V2 77 3 r ln (ones d.L) := sg
        have S2 : Below U.heap.size U V2 := S1.grown gr S1.size (fun k e => by have := own_of e; omega)
        have NB : ∀ b, r.ownBlock = some b → U.heap.size ≤ b := fun b hb => by
          rcases nw b hb with e | e
          · have := own_of e; omega
          · rw [e]; exact S1.size
        clear sg gr nw
        refine ⟨S2, ?_⟩
        simp only [Act.put, List.setIfInBounds_toArray, List.set_cons_zero, List.set_cons_succ]
        refine heldK_one (i := 16) (by kernel_rfl) ?_
        refine wpOp_value (some 31) (v := .slice (some ⟨V2.heap.size, 0, none⟩) 1 1) (w' := V2.alloc (.cells #[.int .i64 i, .int .i64 tp, .int .i64 (cc + 1)] 77)) rfl rfl (by kernel_rfl) (by go_simp) ?_
        have b2 : Below V2.heap.size V2 (V2.alloc (.cells #[.int .i64 i, .int .i64 tp, .int .i64 (cc + 1)] 77)) := (Below.refl _ _).alloc (Nat.le_refl _) _
        have S3 : Below U.heap.size U (V2.alloc (.cells #[.int .i64 i, .int .i64 tp, .int .i64 (cc + 1)] 77)) := S2.trans (b2.mono S2.size)
        have D3 : Has (V2.alloc (.cells #[.int .i64 i, .int .i64 tp, .int .i64 (cc + 1)] 77)) V2.heap.size 77 #[.int .i64 i, .int .i64 tp, .int .i64 (cc + 1)] := Has.made V2 77 _
        have A3 := A2.below b2 (fun _ e => A2.lt e)
        have ld0 : U.heap.size ≤ V2.heap.size := S2.size
        obtain ⟨d0, hd0⟩ : ∃ x, x = V2.heap.size := ⟨_, rfl⟩
        obtain ⟨V3, hV3⟩ : ∃ x, x = V2.alloc (.cells #[.int .i64 i, .int .i64 tp, .int .i64 (cc + 1)] 77) := ⟨_, rfl⟩
        rw [← hV3] at S3 D3 A3 ⊢
        rw [← hd0] at ld0 D3 ⊢
        clear b2
        refine ⟨S3, ?_⟩
        simp only [Act.put, List.setIfInBounds_toArray, List.set_cons_zero, List.set_cons_succ]
        refine heldK_one (i := 17) (by kernel_rfl) ?_
        refine wpOp_wp (o := ⟨some 32, _, _, _, _, _⟩) rfl (by kernel_rfl) (wp_append_any V3 (.tmp 18) (.tmp 31) 28 rfl 77 z0i z0 3 24 Try.underlying28 HI0.out HZ0.out hz1 hz3 hz2 (by decide) r ln (ones d.L) rfl A3 th (.slice (some ⟨d0, 0, none⟩) 1 1) 1 (oneC ((i : Int), tp, cc + 1)) rfl (Seg.whole D3 (by rfl) (by unfold maxLen; omega)) (.inl ⟨_, _, _, rfl⟩) (fun u hu => one_ones [((i : Int), tp, cc + 1)] u (by simpa [ones] using hu)) (by have := HLN.out; unfold maxLen; omega) (by have := HLN.out; omega) ?_)
        intro q V4 th4 sg4 gr4 nw4
        have S4 : Below U.heap.size U V4 := S3.grown gr4 S3.size (fun k e => NB k e)
        rw [← ones_snoc] at sg4
        have NB4 : ∀ b, q.ownBlock = some b → U.heap.size ≤ b := fun b hb => by
          rcases nw4 b hb with e | e
          · exact NB b e
          · rw [e]; exact S3.size
        clear gr4 nw4
        refine ⟨S4, ?_⟩
        simp only [Act.put, List.setIfInBounds_toArray, List.set_cons_zero, List.set_cons_succ]
        refine heldK_take 18 (some 33) (v := .pointer (some ⟨W.heap.size, 1, none⟩)) rfl rfl (by kernel_rfl) (by kernel_rfl) (by kernel_rfl) (by kernel_rfl) (by kernel_rfl) (by decide) (fun _ _ _ h => h) (.inl ⟨by kernel_rfl, fun V hV => by go_simp⟩) S4 ?_
        simp only [Act.put, List.setIfInBounds_toArray, List.set_cons_zero, List.set_cons_succ]
        have X4 := HU.out.2.1.below S4 HU.out.2.1.lt
        have k1 : V4.cell? ⟨W.heap.size, 1, none⟩ = some (.slice la ln lc) := X4.cell 1
        have f1 : V4.frozen? ⟨W.heap.size, 1, none⟩ = false := X4.free 1
        obtain ⟨gq, oq, cq, rfl⟩ := th4
        refine heldK_at (by kernel_rfl) ?_
        refine wpOp_skip (w' := V4.setCell ⟨W.heap.size, 1, none⟩ (.slice (some ⟨gq, oq, none⟩) (ln + 1) cq)) rfl rfl (by kernel_rfl) (by go_simp) ?_
        refine heldK_done (by kernel_rfl) ?_ _
        obtain ⟨V5, hV5⟩ : ∃ V5, V5 = V4.setCell ⟨W.heap.size, 1, none⟩ (.slice (some ⟨gq, oq, none⟩) (ln + 1) cq) := ⟨_, rfl⟩
        have K5 : Hid (Has V5 W.heap.size 30 (dsC (some ⟨g, o, none⟩) pn pc (some ⟨gq, oq, none⟩) (ln + 1) cq T (cc + 1)) ∧ Has V5 (W.heap.size + 1) 30 dsZ ∧ Below W.heap.size W V5 ∧ Seg V5 3 1 (.slice (some ⟨g, o, none⟩) pn pc) pn (d.P.map (Value.int .i64)) ∧ Seg V5 77 3 (.slice (some ⟨gq, oq, none⟩) (ln + 1) cq) (ln + 1) (ones (d.L ++ [((i : Int), tp, cc + 1)]))) := by
          have t5 : Turn (fun j => j = W.heap.size) V4 V5 := by rw [hV5]; exact (Turn.refl (fun j => j = W.heap.size) V4).put (fun _ => rfl) 1 _
          have hb := HU.out.2.1.lt
          have bw := HU.out.2.2.2.trans (S4.mono HU.out.2.2.2.size)
          refine Lib.hid ⟨by rw [hV5]; simpa using X4.put 1 (.slice (some ⟨gq, oq, none⟩) (ln + 1) cq), (HU.out.2.2.1.below S4 HU.out.2.2.1.lt).turn t5 (by omega), bw.trans (t5.below bw.size (fun j hj e => by omega)), ((HU.out.1.below S4).pac).turn t5 (fun b hb2 e => (HU.out.1.below S4).pac.ne X4 (by decide) (by rw [hb2, e])), sg4.turn t5 (fun b hb2 e => by have := NB4 b hb2; omega)⟩
        rw [← hV5]
        clear hV5 X4 k1 f1 sg4 NB4 S4
        have r0 : V5.cell? ⟨W.heap.size + 1, 0, none⟩ = some (.slice none 0 0) := K5.out.2.1.cell 0
        have r1 : V5.cell? ⟨W.heap.size + 1, 1, none⟩ = some (.slice none 0 0) := K5.out.2.1.cell 1
        have r2 : V5.cell? ⟨W.heap.size + 1, 2, none⟩ = some (.int .i64 0) := K5.out.2.1.cell 2
        have r3 : V5.cell? ⟨W.heap.size + 1, 3, none⟩ = some (.int .i64 0) := K5.out.2.1.cell 3
        have s0 := K5.out.2.1.free 0
        have s1 := K5.out.2.1.free 1
        have s2 := K5.out.2.1.free 2
        have s3 := K5.out.2.1.free 3
        have x0 : V5.cell? ⟨W.heap.size, 0, none⟩ = some (.slice (some ⟨g, o, none⟩) pn pc) := K5.out.1.cell 0
        have x1 : V5.cell? ⟨W.heap.size, 1, none⟩ = some (.slice (some ⟨gq, oq, none⟩) (ln + 1) cq) := K5.out.1.cell 1
        have x2 : V5.cell? ⟨W.heap.size, 2, none⟩ = some (.int .i64 T) := K5.out.1.cell 2
        have x3 : V5.cell? ⟨W.heap.size, 3, none⟩ = some (.int .i64 (cc + 1)) := K5.out.1.cell 3
        go_wp2_with fail
        obtain ⟨h6, t6⟩ := put4 (a' := .slice (some ⟨g, o, none⟩) pn pc) (b' := .slice (some ⟨gq, oq, none⟩) (ln + 1) cq) (c' := .int .i64 T) (d' := .int .i64 (cc + 1)) K5.out.2.1
        have e : sch.due d i = { d with c := d.c + 1, L := d.L ++ [((i : Int), tp, cc + 1)] } := by
          have hw := HTP.out
          rw [IntWalk.i64_in _ (by have := HP.out; omega)] at hw
          unfold sch.due
          rw [if_pos (by rw [← HE.out.1]; exact HP.out), ← hw, HE.out.2.1, HE.out.2.2, HE.out.1]
        rw [e]
        refine bodyPost_ret (res_ds rfl _ _ (W.heap.size + 1) _ _ _ _ rfl h6) rfl ⟨some ⟨gq, oq, none⟩, ln + 1, cq, ?_, ⟨K5.out.2.2.2.1.turn t6 (fun b hb e => K5.out.2.2.2.1.ne K5.out.2.1 (by decide) (by rw [hb, e])), K5.out.2.2.2.2.turn t6 (fun b hb e => K5.out.2.2.2.2.ne K5.out.2.1 (by decide) (by rw [hb, e]))⟩, K5.out.2.2.1.trans (t6.below K5.out.2.2.1.size (fun j hj e => by omega))⟩
        show _ = Ending.returned (.agg (dsC _ _ _ _ _ _ d.T (d.c + 1)))
        rw [← HE.out.2.1, ← HE.out.2.2]
      · refine wpOp_value (some 31) (v := .slice (some ⟨V1.heap.size, 0, none⟩) 1 1) (w' := V1.alloc (.cells #[.int .i64 i, .int .i64 tp, .int .i64 (cc + 1)] 77)) rfl rfl (by kernel_rfl) (by go_simp) ?_
        have b1 : Below V1.heap.size V1 (V1.alloc (.cells #[.int .i64 i, .int .i64 tp, .int .i64 (cc + 1)] 77)) := (Below.refl _ _).alloc (Nat.le_refl _) _
        have S2 : Below U.heap.size U (V1.alloc (.cells #[.int .i64 i, .int .i64 tp, .int .i64 (cc + 1)] 77)) := S1.trans (b1.mono S1.size)
        have D2 : Has (V1.alloc (.cells #[.int .i64 i, .int .i64 tp, .int .i64 (cc + 1)] 77)) V1.heap.size 77 #[.int .i64 i, .int .i64 tp, .int .i64 (cc + 1)] := Has.made V1 77 _
        have E2 := E1.below b1 (fun _ e => E1.lt e)
        have ne : e0 ≠ V1.heap.size := by have := E1.lt (b := e0) rfl; omega
        have ld0 : U.heap.size ≤ V1.heap.size := S1.size
        obtain ⟨d0, hd0⟩ : ∃ x, x = V1.heap.size := ⟨_, rfl⟩
        obtain ⟨V2, hV2⟩ : ∃ x, x = V1.alloc (.cells #[.int .i64 i, .int .i64 tp, .int .i64 (cc + 1)] 77) := ⟨_, rfl⟩
        rw [← hV2] at S2 D2 E2 ⊢
        rw [← hd0] at ld0 D2 ne ⊢
        clear b1
        refine ⟨S2, ?_⟩
        simp only [Act.put, List.setIfInBounds_toArray, List.set_cons_zero, List.set_cons_succ]
        refine heldK_one (i := 3) (by kernel_rfl) ?_
        refine wpOp_wp (o := ⟨some 18, _, _, _, _, _⟩) rfl (by kernel_rfl) (wp_append_any V2 (.tmp 15) (.tmp 17) 28 rfl 77 z0i z0 3 24 Try.underlying28 HI0.out HZ0.out hz1 hz3 hz2 (by decide) (.slice (some ⟨e0, 0, none⟩) 0 0) 0 [] rfl E2 ⟨_, _, _, rfl⟩ (.slice la ln lc) ln (ones d.L) rfl ((HU.out.1.below S2).lst) (seg_thin HU.out.1.lst) (one_ones _) (by have := HLN.out; unfold maxLen; omega) (by have := HLN.out; omega) ?_)
        intro r V3 th sg gr nw
        rw [Nat.zero_add] at th sg
        rw [List.nil_append] at sg
        have A3 : Seg V3 77 3 r ln (ones d.L) := sg
        have S3 : Below U.heap.size U V3 := S2.grown gr S2.size (fun k e => by have := own_of e; omega)
        have NB : ∀ b, r.ownBlock = some b → U.heap.size ≤ b := fun b hb => by
          rcases nw b hb with e | e
          · have := own_of e; omega
          · rw [e]; exact S2.size
        have D3 := D2.grown gr (fun e => by have := own_of e.symm; omega)
        clear sg gr nw
        refine ⟨S3, ?_⟩
        simp only [Act.put, List.setIfInBounds_toArray, List.set_cons_zero, List.set_cons_succ]
        refine heldK_one (i := 17) (by kernel_rfl) ?_
        refine wpOp_wp (o := ⟨some 32, _, _, _, _, _⟩) rfl (by kernel_rfl) (wp_append_any V3 (.tmp 18) (.tmp 31) 28 rfl 77 z0i z0 3 24 Try.underlying28 HI0.out HZ0.out hz1 hz3 hz2 (by decide) r ln (ones d.L) rfl A3 th (.slice (some ⟨d0, 0, none⟩) 1 1) 1 (oneC ((i : Int), tp, cc + 1)) rfl (Seg.whole D3 (by rfl) (by unfold maxLen; omega)) (.inl ⟨_, _, _, rfl⟩) (fun u hu => one_ones [((i : Int), tp, cc + 1)] u (by simpa [ones] using hu)) (by have := HLN.out; unfold maxLen; omega) (by have := HLN.out; omega) ?_)
        intro q V4 th4 sg4 gr4 nw4
        have S4 : Below U.heap.size U V4 := S3.grown gr4 S3.size (fun k e => NB k e)
        rw [← ones_snoc] at sg4
        have NB4 : ∀ b, q.ownBlock = some b → U.heap.size ≤ b := fun b hb => by
          rcases nw4 b hb with e | e
          · exact NB b e
          · rw [e]; exact S3.size
        clear gr4 nw4
        refine ⟨S4, ?_⟩
        simp only [Act.put, List.setIfInBounds_toArray, List.set_cons_zero, List.set_cons_succ]
        refine heldK_take 18 (some 33) (v := .pointer (some ⟨W.heap.size, 1, none⟩)) rfl rfl (by kernel_rfl) (by kernel_rfl) (by kernel_rfl) (by kernel_rfl) (by kernel_rfl) (by decide) (fun _ _ _ h => h) (.inl ⟨by kernel_rfl, fun V hV => by go_simp⟩) S4 ?_
        simp only [Act.put, List.setIfInBounds_toArray, List.set_cons_zero, List.set_cons_succ]
        have X4 := HU.out.2.1.below S4 HU.out.2.1.lt
        have k1 : V4.cell? ⟨W.heap.size, 1, none⟩ = some (.slice la ln lc) := X4.cell 1
        have f1 : V4.frozen? ⟨W.heap.size, 1, none⟩ = false := X4.free 1
        obtain ⟨gq, oq, cq, rfl⟩ := th4
        refine heldK_at (by kernel_rfl) ?_
        refine wpOp_skip (w' := V4.setCell ⟨W.heap.size, 1, none⟩ (.slice (some ⟨gq, oq, none⟩) (ln + 1) cq)) rfl rfl (by kernel_rfl) (by go_simp) ?_
        refine heldK_done (by kernel_rfl) ?_ _
        obtain ⟨V5, hV5⟩ : ∃ V5, V5 = V4.setCell ⟨W.heap.size, 1, none⟩ (.slice (some ⟨gq, oq, none⟩) (ln + 1) cq) := ⟨_, rfl⟩
        have K5 : Hid (Has V5 W.heap.size 30 (dsC (some ⟨g, o, none⟩) pn pc (some ⟨gq, oq, none⟩) (ln + 1) cq T (cc + 1)) ∧ Has V5 (W.heap.size + 1) 30 dsZ ∧ Below W.heap.size W V5 ∧ Seg V5 3 1 (.slice (some ⟨g, o, none⟩) pn pc) pn (d.P.map (Value.int .i64)) ∧ Seg V5 77 3 (.slice (some ⟨gq, oq, none⟩) (ln + 1) cq) (ln + 1) (ones (d.L ++ [((i : Int), tp, cc + 1)]))) := by
          have t5 : Turn (fun j => j = W.heap.size) V4 V5 := by rw [hV5]; exact (Turn.refl (fun j => j = W.heap.size) V4).put (fun _ => rfl) 1 _
          have hb := HU.out.2.1.lt
          have bw := HU.out.2.2.2.trans (S4.mono HU.out.2.2.2.size)
          refine Lib.hid ⟨by rw [hV5]; simpa using X4.put 1 (.slice (some ⟨gq, oq, none⟩) (ln + 1) cq), (HU.out.2.2.1.below S4 HU.out.2.2.1.lt).turn t5 (by omega), bw.trans (t5.below bw.size (fun j hj e => by omega)), ((HU.out.1.below S4).pac).turn t5 (fun b hb2 e => (HU.out.1.below S4).pac.ne X4 (by decide) (by rw [hb2, e])), sg4.turn t5 (fun b hb2 e => by have := NB4 b hb2; omega)⟩
        rw [← hV5]
        clear hV5 X4 k1 f1 sg4 NB4 S4
        have r0 : V5.cell? ⟨W.heap.size + 1, 0, none⟩ = some (.slice none 0 0) := K5.out.2.1.cell 0
        have r1 : V5.cell? ⟨W.heap.size + 1, 1, none⟩ = some (.slice none 0 0) := K5.out.2.1.cell 1
        have r2 : V5.cell? ⟨W.heap.size + 1, 2, none⟩ = some (.int .i64 0) := K5.out.2.1.cell 2
        have r3 : V5.cell? ⟨W.heap.size + 1, 3, none⟩ = some (.int .i64 0) := K5.out.2.1.cell 3
        have s0 := K5.out.2.1.free 0
        have s1 := K5.out.2.1.free 1
        have s2 := K5.out.2.1.free 2
        have s3 := K5.out.2.1.free 3
        have x0 : V5.cell? ⟨W.heap.size, 0, none⟩ = some (.slice (some ⟨g, o, none⟩) pn pc) := K5.out.1.cell 0
        have x1 : V5.cell? ⟨W.heap.size, 1, none⟩ = some (.slice (some ⟨gq, oq, none⟩) (ln + 1) cq) := K5.out.1.cell 1
        have x2 : V5.cell? ⟨W.heap.size, 2, none⟩ = some (.int .i64 T) := K5.out.1.cell 2
        have x3 : V5.cell? ⟨W.heap.size, 3, none⟩ = some (.int .i64 (cc + 1)) := K5.out.1.cell 3
        go_wp2_with fail
        obtain ⟨h6, t6⟩ := put4 (a' := .slice (some ⟨g, o, none⟩) pn pc) (b' := .slice (some ⟨gq, oq, none⟩) (ln + 1) cq) (c' := .int .i64 T) (d' := .int .i64 (cc + 1)) K5.out.2.1
        have e : sch.due d i = { d with c := d.c + 1, L := d.L ++ [((i : Int), tp, cc + 1)] } := by
          have hw := HTP.out
          rw [IntWalk.i64_in _ (by have := HP.out; omega)] at hw
          unfold sch.due
          rw [if_pos (by rw [← HE.out.1]; exact HP.out), ← hw, HE.out.2.1, HE.out.2.2, HE.out.1]
        rw [e]
        refine bodyPost_ret (res_ds rfl _ _ (W.heap.size + 1) _ _ _ _ rfl h6) rfl ⟨some ⟨gq, oq, none⟩, ln + 1, cq, ?_, ⟨K5.out.2.2.2.1.turn t6 (fun b hb e => K5.out.2.2.2.1.ne K5.out.2.1 (by decide) (by rw [hb, e])), K5.out.2.2.2.2.turn t6 (fun b hb e => K5.out.2.2.2.2.ne K5.out.2.1 (by decide) (by rw [hb, e]))⟩, K5.out.2.2.1.trans (t6.below K5.out.2.2.1.size (fun j hj e => by omega))⟩
        show _ = Ending.returned (.agg (dsC _ _ _ _ _ _ d.T (d.c + 1)))
        rw [← HE.out.2.1, ← HE.out.2.2]
    · refine wpOp_value (some 31) (v := .slice (some ⟨V0.heap.size, 0, none⟩) 1 1) (w' := V0.alloc (.cells #[.int .i64 i, .int .i64 tp, .int .i64 (cc + 1)] 77)) rfl rfl (by kernel_rfl) (by go_simp) ?_
      have b0 : Below V0.heap.size V0 (V0.alloc (.cells #[.int .i64 i, .int .i64 tp, .int .i64 (cc + 1)] 77)) := (Below.refl _ _).alloc (Nat.le_refl _) _
      have S1 : Below U.heap.size U (V0.alloc (.cells #[.int .i64 i, .int .i64 tp, .int .i64 (cc + 1)] 77)) := S0.trans (b0.mono S0.size)
      have D1 : Has (V0.alloc (.cells #[.int .i64 i, .int .i64 tp, .int .i64 (cc + 1)] 77)) V0.heap.size 77 #[.int .i64 i, .int .i64 tp, .int .i64 (cc + 1)] := Has.made V0 77 _
      have ld0 : U.heap.size ≤ V0.heap.size := S0.size
      obtain ⟨d0, hd0⟩ : ∃ x, x = V0.heap.size := ⟨_, rfl⟩
      obtain ⟨V1, hV1⟩ : ∃ x, x = V0.alloc (.cells #[.int .i64 i, .int .i64 tp, .int .i64 (cc + 1)] 77) := ⟨_, rfl⟩
      rw [← hV1] at S1 D1 ⊢
      rw [← hd0] at ld0 D1 ⊢
      clear b0
      refine ⟨S1, ?_⟩
      simp only [Act.put, List.setIfInBounds_toArray, List.set_cons_zero, List.set_cons_succ]
      refine heldK_one (i := 0) (by kernel_rfl) ?_
      refine wpOp_value (some 15) (v := .slice (some ⟨V1.heap.size, 0, none⟩) 0 0) (w' := V1.alloc (.cells #[] 77)) rfl rfl (by kernel_rfl) (by go_simp) ?_
      have b1 : Below V1.heap.size V1 (V1.alloc (.cells #[] 77)) := (Below.refl _ _).alloc (Nat.le_refl _) _
      have S2 : Below U.heap.size U (V1.alloc (.cells #[] 77)) := S1.trans (b1.mono S1.size)
      have E2 : Seg (V1.alloc (.cells #[] 77)) 77 3 (.slice (some ⟨V1.heap.size, 0, none⟩) 0 0) 0 [] := Seg.empty (Has.made V1 77 #[])
      have D2 := D1.below b1 D1.lt
      have ne : V1.heap.size ≠ d0 := by have := D1.lt; omega
      have le0 : U.heap.size ≤ V1.heap.size := S1.size
      obtain ⟨e0, he0⟩ : ∃ x, x = V1.heap.size := ⟨_, rfl⟩
      obtain ⟨V2, hV2⟩ : ∃ x, x = V1.alloc (.cells #[] 77) := ⟨_, rfl⟩
      rw [← hV2] at S2 E2 D2 ⊢
      rw [← he0] at le0 E2 ne ⊢
      clear b1
      refine ⟨S2, ?_⟩
      simp only [Act.put, List.setIfInBounds_toArray, List.set_cons_zero, List.set_cons_succ]
      refine heldK_one (i := 3) (by kernel_rfl) ?_
      refine wpOp_wp (o := ⟨some 18, _, _, _, _, _⟩) rfl (by kernel_rfl) (wp_append_any V2 (.tmp 15) (.tmp 17) 28 rfl 77 z0i z0 3 24 Try.underlying28 HI0.out HZ0.out hz1 hz3 hz2 (by decide) (.slice (some ⟨e0, 0, none⟩) 0 0) 0 [] rfl E2 ⟨_, _, _, rfl⟩ (.slice la ln lc) ln (ones d.L) rfl ((HU.out.1.below S2).lst) (seg_thin HU.out.1.lst) (one_ones _) (by have := HLN.out; unfold maxLen; omega) (by have := HLN.out; omega) ?_)
      intro r V3 th sg gr nw
      rw [Nat.zero_add] at th sg
      rw [List.nil_append] at sg
      have A3 : Seg V3 77 3 r ln (ones d.L) := sg
      have S3 : Below U.heap.size U V3 := S2.grown gr S2.size (fun k e => by have := own_of e; omega)
      have NB : ∀ b, r.ownBlock = some b → U.heap.size ≤ b := fun b hb => by
        rcases nw b hb with e | e
        · have := own_of e; omega
        · rw [e]; exact S2.size
      have D3 := D2.grown gr (fun e => by have := own_of e.symm; omega)
      clear sg gr nw
      refine ⟨S3, ?_⟩
      simp only [Act.put, List.setIfInBounds_toArray, List.set_cons_zero, List.set_cons_succ]
      refine heldK_one (i := 17) (by kernel_rfl) ?_
      refine wpOp_wp (o := ⟨some 32, _, _, _, _, _⟩) rfl (by kernel_rfl) (wp_append_any V3 (.tmp 18) (.tmp 31) 28 rfl 77 z0i z0 3 24 Try.underlying28 HI0.out HZ0.out hz1 hz3 hz2 (by decide) r ln (ones d.L) rfl A3 th (.slice (some ⟨d0, 0, none⟩) 1 1) 1 (oneC ((i : Int), tp, cc + 1)) rfl (Seg.whole D3 (by rfl) (by unfold maxLen; omega)) (.inl ⟨_, _, _, rfl⟩) (fun u hu => one_ones [((i : Int), tp, cc + 1)] u (by simpa [ones] using hu)) (by have := HLN.out; unfold maxLen; omega) (by have := HLN.out; omega) ?_)
      intro q V4 th4 sg4 gr4 nw4
      have S4 : Below U.heap.size U V4 := S3.grown gr4 S3.size (fun k e => NB k e)
      rw [← ones_snoc] at sg4
      have NB4 : ∀ b, q.ownBlock = some b → U.heap.size ≤ b := fun b hb => by
        rcases nw4 b hb with e | e
        · exact NB b e
        · rw [e]; exact S3.size
      clear gr4 nw4
      refine ⟨S4, ?_⟩
      simp only [Act.put, List.setIfInBounds_toArray, List.set_cons_zero, List.set_cons_succ]
      refine heldK_take 18 (some 33) (v := .pointer (some ⟨W.heap.size, 1, none⟩)) rfl rfl (by kernel_rfl) (by kernel_rfl) (by kernel_rfl) (by kernel_rfl) (by kernel_rfl) (by decide) (fun _ _ _ h => h) (.inl ⟨by kernel_rfl, fun V hV => by go_simp⟩) S4 ?_
      simp only [Act.put, List.setIfInBounds_toArray, List.set_cons_zero, List.set_cons_succ]
      have X4 := HU.out.2.1.below S4 HU.out.2.1.lt
      have k1 : V4.cell? ⟨W.heap.size, 1, none⟩ = some (.slice la ln lc) := X4.cell 1
      have f1 : V4.frozen? ⟨W.heap.size, 1, none⟩ = false := X4.free 1
      obtain ⟨gq, oq, cq, rfl⟩ := th4
      refine heldK_at (by kernel_rfl) ?_
      refine wpOp_skip (w' := V4.setCell ⟨W.heap.size, 1, none⟩ (.slice (some ⟨gq, oq, none⟩) (ln + 1) cq)) rfl rfl (by kernel_rfl) (by go_simp) ?_
      refine heldK_done (by kernel_rfl) ?_ _
      obtain ⟨V5, hV5⟩ : ∃ V5, V5 = V4.setCell ⟨W.heap.size, 1, none⟩ (.slice (some ⟨gq, oq, none⟩) (ln + 1) cq) := ⟨_, rfl⟩
      have K5 : Hid (Has V5 W.heap.size 30 (dsC (some ⟨g, o, none⟩) pn pc (some ⟨gq, oq, none⟩) (ln + 1) cq T (cc + 1)) ∧ Has V5 (W.heap.size + 1) 30 dsZ ∧ Below W.heap.size W V5 ∧ Seg V5 3 1 (.slice (some ⟨g, o, none⟩) pn pc) pn (d.P.map (Value.int .i64)) ∧ Seg V5 77 3 (.slice (some ⟨gq, oq, none⟩) (ln + 1) cq) (ln + 1) (ones (d.L ++ [((i : Int), tp, cc + 1)]))) := by
        have t5 : Turn (fun j => j = W.heap.size) V4 V5 := by rw [hV5]; exact (Turn.refl (fun j => j = W.heap.size) V4).put (fun _ => rfl) 1 _
        have hb := HU.out.2.1.lt
        have bw := HU.out.2.2.2.trans (S4.mono HU.out.2.2.2.size)
        refine Lib.hid ⟨by rw [hV5]; simpa using X4.put 1 (.slice (some ⟨gq, oq, none⟩) (ln + 1) cq), (HU.out.2.2.1.below S4 HU.out.2.2.1.lt).turn t5 (by omega), bw.trans (t5.below bw.size (fun j hj e => by omega)), ((HU.out.1.below S4).pac).turn t5 (fun b hb2 e => (HU.out.1.below S4).pac.ne X4 (by decide) (by rw [hb2, e])), sg4.turn t5 (fun b hb2 e => by have := NB4 b hb2; omega)⟩
      rw [← hV5]
      clear hV5 X4 k1 f1 sg4 NB4 S4
      have r0 : V5.cell? ⟨W.heap.size + 1, 0, none⟩ = some (.slice none 0 0) := K5.out.2.1.cell 0
      have r1 : V5.cell? ⟨W.heap.size + 1, 1, none⟩ = some (.slice none 0 0) := K5.out.2.1.cell 1
      have r2 : V5.cell? ⟨W.heap.size + 1, 2, none⟩ = some (.int .i64 0) := K5.out.2.1.cell 2
      have r3 : V5.cell? ⟨W.heap.size + 1, 3, none⟩ = some (.int .i64 0) := K5.out.2.1.cell 3
      have s0 := K5.out.2.1.free 0
      have s1 := K5.out.2.1.free 1
      have s2 := K5.out.2.1.free 2
      have s3 := K5.out.2.1.free 3
      have x0 : V5.cell? ⟨W.heap.size, 0, none⟩ = some (.slice (some ⟨g, o, none⟩) pn pc) := K5.out.1.cell 0
      have x1 : V5.cell? ⟨W.heap.size, 1, none⟩ = some (.slice (some ⟨gq, oq, none⟩) (ln + 1) cq) := K5.out.1.cell 1
      have x2 : V5.cell? ⟨W.heap.size, 2, none⟩ = some (.int .i64 T) := K5.out.1.cell 2
      have x3 : V5.cell? ⟨W.heap.size, 3, none⟩ = some (.int .i64 (cc + 1)) := K5.out.1.cell 3
      go_wp2_with fail
      obtain ⟨h6, t6⟩ := put4 (a' := .slice (some ⟨g, o, none⟩) pn pc) (b' := .slice (some ⟨gq, oq, none⟩) (ln + 1) cq) (c' := .int .i64 T) (d' := .int .i64 (cc + 1)) K5.out.2.1
      have e : sch.due d i = { d with c := d.c + 1, L := d.L ++ [((i : Int), tp, cc + 1)] } := by
        have hw := HTP.out
        rw [IntWalk.i64_in _ (by have := HP.out; omega)] at hw
        unfold sch.due
        rw [if_pos (by rw [← HE.out.1]; exact HP.out), ← hw, HE.out.2.1, HE.out.2.2, HE.out.1]
      rw [e]
      refine bodyPost_ret (res_ds rfl _ _ (W.heap.size + 1) _ _ _ _ rfl h6) rfl ⟨some ⟨gq, oq, none⟩, ln + 1, cq, ?_, ⟨K5.out.2.2.2.1.turn t6 (fun b hb e => K5.out.2.2.2.1.ne K5.out.2.1 (by decide) (by rw [hb, e])), K5.out.2.2.2.2.turn t6 (fun b hb e => K5.out.2.2.2.2.ne K5.out.2.1 (by decide) (by rw [hb, e]))⟩, K5.out.2.2.1.trans (t6.below K5.out.2.2.1.size (fun j hj e => by omega))⟩
      show _ = Ending.returned (.agg (dsC _ _ _ _ _ _ d.T (d.c + 1)))
      rw [← HE.out.2.1, ← HE.out.2.2]
  · have HP := Lib.hid hp
    go_enter Try.func26, Try.ntmps26
    go_wp2_with fail
    have e : sch.due d i = { d with c := d.c + 1 } := by unfold sch.due; rw [if_neg (by rw [← HE.out.1]; have := HP.out; omega)]
    rw [e]
    refine bodyPost_ret (res_ds rfl _ _ (W.heap.size + 1) _ _ _ _ rfl (made_at _ _ (by simp))) rfl ⟨_, _, _, ?_, ⟨((H.out.alloc _).alloc _).pac, ((H.out.alloc _).alloc _).lst⟩, ((Below.refl _ W).alloc (Nat.le_refl _) _).alloc (by simp) _⟩
    show _ = Ending.returned (.agg (dsC _ _ _ _ _ _ d.T (d.c + 1)))
    rw [← HE.out.2.1, ← HE.out.2.2]
theorem Dm.due {W : World} {pa la : Option Addr} {pn pc ln lc : Nat} {d : Dc} (h : Dm W pa pn pc la ln lc d) (i : Nat) (hi : i < d.P.length) (hT0 : 0 ≤ d.T) (hT : d.T ≤ 1000000000000000) (hp1 : sch.pace d.P i ≤ 1048576) (hc0 : 0 ≤ d.c) (hc : d.c ≤ 1000000000) (hl : d.L.length ≤ 100000) (hpl : d.P.length ≤ 1000) :
    Calls Try.prog 26 #[.agg (dsC pa pn pc la ln lc d.T d.c), .int .i64 i] W (DmPost (sch.due d i) W) :=
  (h.due1 i hi hT0 hT hp1 hc0 hc hl hpl).mono fun _ _ ⟨a, b, c, h1, h2, h3⟩ => ⟨_, _, _, a, b, c, h1, h2, h3⟩
end Go.Proofs.Ytbpnbnbglfiglaa.sch
