/- replay: a line's Do, of a command that takes none back. -/
import Derived.Test.YtcdedkgkingbdaaGreatDoorQ041
namespace Go.Proofs.YtcdedkgkingbdaaGreatDoor.rep
open Go Go.RowKit Go.Maps Go.Proofs.YtcdedkgkingbdaaGreatDoor.object Go.Proofs.YtcdedkgkingbdaaGreatDoor.prn Go.Proofs.YtcdedkgkingbdaaGreatDoor.tws

theorem act_stays {x : Ob} {o : OpO} (e : ¬ (x.act o).2.1 = 0) : (x.act o).1 = x := act_not e
theorem marks_more {k : Int} {C : List Cm} {c : Cm} {fl : Nat} {l : List (Int × ByteArray)} (h : Marks k C fl l) (hf : fl ≤ C.length) (h4 : ¬ (C.length + 1) % 4 = 0) : Marks k (C ++ [c]) fl l := fun x => by
  rw [h x]
  unfold MarkAt
  rw [List.length_append, List.length_singleton]
  constructor
  · rintro ⟨v, h1, h2, rfl⟩
    exact ⟨v, h1, by omega, by rw [fold_app (by omega)]⟩
  · rintro ⟨v, h1, h2, rfl⟩
    have hv : v ≤ C.length := by
      rcases Nat.lt_or_ge C.length v with h | h
      · have e : v = C.length + 1 := by omega
        subst e
        rcases h1 with h1 | ⟨_, h1⟩
        · omega
        · exact absurd h1 h4
      · exact h
    exact ⟨v, h1, hv, by rw [fold_app (by omega)]⟩
theorem marks_put {k : Int} {C : List Cm} {c : Cm} {fl : Nat} {l : List (Int × ByteArray)} (h : Marks k C fl l) (hs : l.Pairwise (fun x y => x.1 < y.1)) (hf : fl ≤ C.length) (h4 : (C.length + 1) % 4 = 0) :
    Marks k (C ++ [c]) fl (insK ((C.length : Int) + 1) (fold k (C ++ [c]) (C.length + 1)).save l) := fun x => by
  rw [mem_insK hs x, h x]
  unfold MarkAt
  rw [List.length_append, List.length_singleton]
  constructor
  · rintro (rfl | ⟨⟨v, h1, h2, rfl⟩, _⟩)
    · exact ⟨C.length + 1, .inr ⟨by omega, h4⟩, Nat.le_refl _, by rw [Int.natCast_add]; rfl⟩
    · exact ⟨v, h1, by omega, by rw [fold_app (by omega)]⟩
  · rintro ⟨v, h1, h2, rfl⟩
    by_cases hv : v ≤ C.length
    · exact .inr ⟨⟨v, h1, hv, by rw [fold_app (by omega)]⟩, by show (v : Int) ≠ _; omega⟩
    · obtain rfl : v = C.length + 1 := by omega
      exact .inl (by rw [Int.natCast_add]; rfl)

/-- What lasts while an op is done. -/
structure Dq (B : Nat) (w0 : World) (b vb tb m : Nat) (v : Value) (lo hi : Nat) (y : Ob) (L : List ByteArray) (fl : Nat) (l : List (Int × ByteArray)) (F1 F2 FF : Nat → Prop) (cc : Array Value) (V : World) : Prop where
  own : Has V b 53 #[.pointer (some ⟨vb, 0, none⟩), v, .pointer (some ⟨tb, 0, none⟩), .map (some m)]
  va : Va B F1 V vb L fl
  st : St V v lo hi y
  tw : Tw V tb l F2
  mp : V.ownsMap Tryz.prog 3 anyR m 0 (.map [])
  ap : Ap B V b m lo hi F1 F2
  turn : Turn FF w0 V
  cmd : Has V w0.heap.size 60 cc
  res : Has V (w0.heap.size + 1) 57 #[.int .i64 0, .string ⟨#[]⟩]
section
variable {B : Nat} {w0 V V' : World} {b vb tb m lo hi fl : Nat} {v : Value} {y y' : Ob} {L : List ByteArray} {l : List (Int × ByteArray)} {F1 F2 FF G : Nat → Prop} {cc : Array Value}
theorem Dq.below (h : Dq B w0 b vb tb m v lo hi y L fl l F1 F2 FF cc V) (t : Below V.heap.size V V') : Dq B w0 b vb tb m v lo hi y L fl l F1 F2 FF cc V' := by
  have tt := Turn.of_below (F := fun k => V.heap.size ≤ k) t (fun _ _ h => h)
  refine ⟨h.own.below t h.own.lt, h.va.below t, h.st.below t h.ap.rng.2, h.tw.below t, ?_, h.ap.turn t.size, h.turn.trans tt (fun j h1 h2 => by have := h.turn.size; omega), h.cmd.below t h.cmd.lt, h.res.below t h.res.lt⟩
  obtain ⟨es, clock, h1, h2⟩ := h.mp
  exact ⟨es, clock, (t.block m (map_lt h.mp)).trans h1, h2⟩
/-- The object's blocks turn. -/
theorem Dq.did (h : Dq B w0 b vb tb m v lo hi y L fl l F1 F2 FF cc V) (hw : hi ≤ w0.heap.size) (hFF : ∀ j, lo ≤ j → j < hi → FF j) (s : St V' v lo hi y') (t : Turn (fun j => lo ≤ j ∧ j < hi) V V') : Dq B w0 b vb tb m v lo hi y' L fl l F1 F2 FF cc V' := by
  refine ⟨h.own.turn t (fun e => (h.ap.ho b e.1 e.2).1 rfl), h.va.turn t (fun j hj _ e => (h.ap.h1 j hj).2.2.2.2.1 e) (fun j e => Nat.le_trans h.ap.rng.1 e.1), s, h.tw.turn t (fun j _ hj e => (h.ap.h2 j hj).2.2.2.2 e), ?_, h.ap.turn t.size, h.turn.trans t (fun j _ e => hFF j e.1 e.2), h.cmd.turn t (by omega), h.res.turn t (by omega)⟩
  obtain ⟨es, clock, h1, h2⟩ := h.mp
  exact ⟨es, clock, (t.block m (map_lt h.mp) (fun e => (h.ap.ho m e.1 e.2).2 rfl)).trans h1, h2⟩
/-- A new block turns. -/
theorem Dq.far (h : Dq B w0 b vb tb m v lo hi y L fl l F1 F2 FF cc V) {g : Nat} (hg : w0.heap.size + 1 < g) (hb : ∀ j, Fp b m lo hi F1 F2 j → j < w0.heap.size) (hB : B ≤ w0.heap.size) (t : Turn (fun j => j = g) V V') : Dq B w0 b vb tb m v lo hi y L fl l F1 F2 FF cc V' := by
  have hn : ∀ j, Fp b m lo hi F1 F2 j → j ≠ g := fun j hj e => by have := hb j hj; omega
  refine ⟨h.own.turn t (hn b (.inl rfl)), h.va.turn t (fun j hj _ => hn j (.inr (.inr (.inr (.inl hj))))) (fun j e => by omega), h.st.turn t (fun j a1 a2 => hn j (.inr (.inr (.inl ⟨a1, a2⟩)))), h.tw.turn t (fun j _ hj => hn j (.inr (.inr (.inr (.inr hj))))), ?_, h.ap.turn t.size, h.turn.trans t (fun j hj e => by omega), h.cmd.turn t (by omega), h.res.turn t (by omega)⟩
  obtain ⟨es, clock, h1, h2⟩ := h.mp
  exact ⟨es, clock, (t.block m (map_lt h.mp) (hn m (.inr (.inl rfl)))).trans h1, h2⟩
end

/-- What lasts behind the op: the vault has the command. -/
structure Dz (B : Nat) (w0 : World) (b vb tb m : Nat) (v : Value) (lo hi : Nat) (y : Ob) (L : List ByteArray) (fl : Nat) (l : List (Int × ByteArray)) (F1 F2 FF : Nat → Prop) (g5 : Nat) (rc : Array Value) (V : World) : Prop where
  own : Has V b 53 #[.pointer (some ⟨vb, 0, none⟩), v, .pointer (some ⟨tb, 0, none⟩), .map (some m)]
  va : Va B F1 V vb L fl
  st : St V v lo hi y
  tw : Tw V tb l F2
  mp : V.ownsMap Tryz.prog 3 anyR m 0 (.map [])
  turn : Turn FF w0 V
  res : Has V (w0.heap.size + 1) 57 #[.int .i64 0, .string ⟨#[]⟩]
  r5 : Has V g5 57 rc
  ap : Ap B V b m lo hi F1 F2
theorem Dz.below {B : Nat} {w0 V V' : World} {b vb tb m lo hi fl g5 : Nat} {v : Value} {y : Ob} {L : List ByteArray} {l : List (Int × ByteArray)} {F1 F2 FF : Nat → Prop} {rc : Array Value} (h : Dz B w0 b vb tb m v lo hi y L fl l F1 F2 FF g5 rc V) (t : Below V.heap.size V V') : Dz B w0 b vb tb m v lo hi y L fl l F1 F2 FF g5 rc V' := by
  have tt := Turn.of_below (F := fun k => V.heap.size ≤ k) t (fun _ _ h => h)
  refine ⟨h.own.below t h.own.lt, h.va.below t, h.st.below t h.ap.rng.2, h.tw.below t, ?_, h.turn.trans tt (fun j h1 h2 => by have := h.turn.size; omega), h.res.below t h.res.lt, h.r5.below t h.r5.lt, h.ap.turn t.size⟩
  obtain ⟨es, clock, h1, h2⟩ := h.mp
  exact ⟨es, clock, (t.block m (map_lt h.mp)).trans h1, h2⟩
section
variable {B : Nat} {F G : Nat → Prop} {w w' : World} {b fl : Nat} {k : Int} {C : List Cm}
/-- Behind a Do that ended well. -/
def DidPost (B : Nat) (F : Nat → Prop) (w : World) (b : Nat) (k : Int) (C : List Cm) (fl : Nat) (g : ByteArray) (en : Ending) (w' : World) : Prop :=
  en = .returned (rv 0 g) ∧ Ln B (fun j => F j ∨ w.heap.size ≤ j) w' b k C fl ∧ Turn F w w'
/-- Behind one that didn't. -/
def NotPost (B : Nat) (F : Nat → Prop) (w : World) (b : Nat) (k : Int) (C : List Cm) (fl : Nat) (r : Int × ByteArray) (en : Ending) (w' : World) : Prop :=
  en = .returned (rv r.1 r.2) ∧ Ln B F w' b k C fl ∧ Turn F w w'

set_option maxRecDepth 100000 in
set_option maxHeartbeats 8000000 in
theorem ldo_calls (h0 : Ln B F w b k C fl) (o : OpO) (hs0 : o.Short) (hC : C.length ≤ 10000) (hgood : ((fold k C C.length).act o).2.1 = 0 → OpO.Good o) :
    Calls Tryz.prog 17 #[.pointer (some ⟨b, 0, none⟩), .agg (cmdC o 0)] w fun en w' =>
      (((fold k C C.length).act o).2.1 = 0 ∧ DidPost B F w b k (C ++ [(⟨o, 0⟩ : Cm)]) fl ((fold k C C.length).act o).2.2 en w') ∨ (((fold k C C.length).act o).2.1 ≠ 0 ∧ NotPost B F w b k C fl ((fold k C C.length).act o).2 en w') := by
  have h : Ln B (fun j => F j ∧ j < w.heap.size) w b k C fl := h0.more fun j hl hj => ⟨hj, hl⟩
  have HB0 : Hid (B ≤ w.heap.size) := Lib.hid h0.rt.size
  obtain ⟨vb, tb, m, v, lo, hi, y, l, F1, F2, h1, h2, h3⟩ := h
  obtain ⟨T, d, fK, fD, fC, fS, Fc⟩ := face_of h1.st
  obtain rfl := Fc.is
  have md := Fc.mD
  have ed := Fc.eD
  obtain ⟨hlk, hres⟩ := like_act h1.like (fold_inv k C C.length) o
  obtain ⟨ob, hob⟩ : ∃ ob, ob = (y.act o).1 := ⟨_, rfl⟩
  obtain ⟨e, he⟩ : ∃ e, e = ((fold k C C.length).act o).2.1 := ⟨_, rfl⟩
  obtain ⟨g, hg⟩ : ∃ g, g = ((fold k C C.length).act o).2.2 := ⟨_, rfl⟩
  have HFC : Hid (∀ (V : World), St V (.iface T (pv d)) lo hi y → hi ≤ V.heap.size → Calls Tryz.prog fD #[pv d, .agg o.cells] V fun en w' => en = .returned (rv e g) ∧ St w' (.iface T (pv d)) lo hi ob ∧ Turn (fun j => lo ≤ j ∧ j < hi) V w') := Lib.hid fun V hs hh => by
    have := Fc.cD V y o hs hh hs0
    rw [hres, ← hob, ← he, ← hg] at this
    exact this
  have HLK : Hid (ob.Like ((fold k C C.length).act o).1) := Lib.hid (by rw [hob]; exact hlk)
  have HE := Lib.hid (show _ ∧ _ from ⟨he, hg⟩)
  have HGO : Hid (e = 0 → OpO.Good o) := Lib.hid (by rw [he]; exact hgood)
  have HF3 : Hid (∀ j, Fp b m lo hi F1 F2 j → F j ∧ j < w.heap.size) := Lib.hid h3
  have H1 := Lib.hid h1
  have H2 := Lib.hid h2
  have HC := Lib.hid hC
  obtain ⟨⟨ok, tk, ta, tx, tn, lk, ls, lt, ln, sk, ss, sn⟩, hoo⟩ : ∃ z : Int × Int × Int × ByteArray × Int × Int × ByteArray × ByteArray × Int × Int × ByteArray × Int, o = ⟨z.1, ⟨z.2.1, z.2.2.1, z.2.2.2.1, z.2.2.2.2.1⟩, ⟨z.2.2.2.2.2.1, z.2.2.2.2.2.2.1, z.2.2.2.2.2.2.2.1, z.2.2.2.2.2.2.2.2.1⟩, ⟨z.2.2.2.2.2.2.2.2.2.1, z.2.2.2.2.2.2.2.2.2.2.1, z.2.2.2.2.2.2.2.2.2.2.2⟩⟩ := ⟨⟨o.k, o.t.k, o.t.a, o.t.x, o.t.n, o.l.k, o.l.s, o.l.t, o.l.n, o.s.k, o.s.s, o.s.n⟩, rfl⟩
  dsimp only at hoo
  have hcc : cmdC o 0 = #[.int .i64 ok, .int .i64 tk, .int .i64 ta, .string tx, .int .i64 tn, .int .i64 lk, .string ls, .string lt, .int .i64 ln, .int .i64 sk, .string ss, .int .i64 sn, .int .i64 0] := by rw [hoo]; rfl
  have hoc : o.cells = #[.int .i64 ok, .int .i64 tk, .int .i64 ta, .string tx, .int .i64 tn, .int .i64 lk, .string ls, .string lt, .int .i64 ln, .int .i64 sk, .string ss, .int .i64 sn] := by rw [hoo]; rfl
  have HCC := Lib.hid hcc
  rw [hcc]
  rw [hoc] at HFC
  clear h0 h1 h2 h3 hs0 hgood hlk hres hob he hg hC hoo hcc hoc Fc
  go_enter Tryz.func17, Tryz.ntmps17
  go_wp2_with fail
  refine wp_named (fun W hW => ?_)
  have D0 : Hid (Dq B w b vb tb m (.iface T (pv d)) lo hi y (texts C) fl l F1 F2 (Fp b m lo hi F1 F2) #[.int .i64 ok, .int .i64 tk, .int .i64 ta, .string tx, .int .i64 tn, .int .i64 lk, .string ls, .string lt, .int .i64 ln, .int .i64 sk, .string ss, .int .i64 sn, .int .i64 0] W) := by
    have bb : Below w.heap.size w W := by rw [← hW]; exact ((Below.refl _ _).alloc (Nat.le_refl _) _).alloc (by simp) _
    have h1 := H1.out
    obtain ⟨es, clock, x1, x2⟩ := h1.mp
    exact Lib.hid ⟨h1.own.below bb h1.own.lt, h1.va.below bb, h1.st.below bb H2.out.rng.2, h1.tw.below bb, ⟨es, clock, (bb.block m (map_lt h1.mp)).trans x1, x2⟩, H2.out.turn bb.size, Turn.of_below bb (fun j x y => by omega), by rw [← hW]; exact (made_at _ _ rfl).alloc _, by rw [← hW]; exact made_at _ _ (by simp)⟩
  clear hW
  obtain ⟨V, hV⟩ : ∃ V, V = W.drew := ⟨_, rfl⟩
  refine wp_region_heldV (fun V => Has V b 53 #[.pointer (some ⟨vb, 0, none⟩), .iface T (pv d), .pointer (some ⟨tb, 0, none⟩), .map (some m)] ∧ Has V w.heap.size 60 #[.int .i64 ok, .int .i64 tk, .int .i64 ta, .string tx, .int .i64 tn, .int .i64 lk, .string ls, .string lt, .int .i64 ln, .int .i64 sk, .string ss, .int .i64 sn, .int .i64 0]) V hV (by kernel_rfl) ?_
  have D1 := D0.out.below (V' := V) (by rw [hV]; exact (Below.refl _ _).drew)
  have S0 := And.intro D1.own D1.cmd
  clear hV D0
  refine held_take 0 (some 6) (v := .pointer (some ⟨b, 0, none⟩)) rfl rfl (by kernel_rfl) (by kernel_rfl) (by kernel_rfl) (fun _ _ _ h => h) (.inl ⟨by kernel_rfl, fun V hV => by rfl⟩) S0 ?_
  simp only [Act.put, List.setIfInBounds_toArray, List.set_cons_zero, List.set_cons_succ]
  refine held_take 1 (some 7) (v := .pointer (some ⟨b, 0, none⟩)) rfl rfl (by kernel_rfl) (by kernel_rfl) (by kernel_rfl) (fun _ _ _ h => h) (.inl ⟨by kernel_rfl, fun V hV => by go_simp⟩) S0 ?_
  simp only [Act.put, List.setIfInBounds_toArray, List.set_cons_zero, List.set_cons_succ]
  refine held_take 2 (some 8) (v := .pointer (some ⟨b, 1, none⟩)) rfl rfl (by kernel_rfl) (by kernel_rfl) (by kernel_rfl) (fun _ _ _ h => h) (.inl ⟨by kernel_rfl, fun V hV => by go_simp⟩) S0 ?_
  simp only [Act.put, List.setIfInBounds_toArray, List.set_cons_zero, List.set_cons_succ]
  refine held_take 3 (some 9) (v := .iface T (pv d)) rfl rfl (by kernel_rfl) (by kernel_rfl) (by kernel_rfl) (fun _ _ _ h => h) (.inl ⟨by kernel_rfl, fun V hV => by have c2 : V.cell? ⟨b, 1, none⟩ = some (.iface T (pv d)) := hV.1.cell 1; go_simp⟩) S0 ?_
  simp only [Act.put, List.setIfInBounds_toArray, List.set_cons_zero, List.set_cons_succ]
  refine held_take 4 (some 10) (v := .pointer (some ⟨w.heap.size, 0, none⟩)) rfl rfl (by kernel_rfl) (by kernel_rfl) (by kernel_rfl) (fun _ _ _ h => h) (.inl ⟨by kernel_rfl, fun V hV => by go_simp⟩) S0 ?_
  simp only [Act.put, List.setIfInBounds_toArray, List.set_cons_zero, List.set_cons_succ]
  refine held_take 5 (some 11) (v := .agg #[.int .i64 ok, .int .i64 tk, .int .i64 ta, .string tx, .int .i64 tn, .int .i64 lk, .string ls, .string lt, .int .i64 ln, .int .i64 sk, .string ss, .int .i64 sn]) rfl rfl (by kernel_rfl) (by kernel_rfl) (by kernel_rfl) (fun _ _ _ h => h) (.inl ⟨by kernel_rfl, fun V hV => by exact dig.exec_load 39 (.tmp 10) rfl (.pointer (some ⟨w.heap.size, 0, none⟩)) (by kernel_rfl) (load_op hV.2)⟩) S0 ?_
  simp only [Act.put, List.setIfInBounds_toArray, List.set_cons_zero, List.set_cons_succ]
  have HLO : Hid (hi ≤ w.heap.size ∧ ∀ j, lo ≤ j → j < hi → Fp b m lo hi F1 F2 j) := Lib.hid ⟨H2.out.rng.2, fun j a1 a2 => .inr (.inr (.inl ⟨a1, a2⟩))⟩
  have hne : w.heap.size + 1 < V.heap.size := D1.res.lt
  refine held_two (i := 6) (j := 7) (by kernel_rfl) ?_ ?_
  · refine wpOp_invoke (some 12) rfl rfl (by kernel_rfl) (.tmp 9) "Do" T (pv d) (by first | (simp [Act.eval]; done) | (simp [Act.eval, Act.put]; done)) fD (pv d) (md _ _) ed #[.tmp 11] _ rfl #[.agg #[.int .i64 ok, .int .i64 tk, .int .i64 ta, .string tx, .int .i64 tn, .int .i64 lk, .string ls, .string lt, .int .i64 ln, .int .i64 sk, .string ss, .int .i64 sn]] (by first | (simp [Act.eval]; done) | (simp [Act.eval, Act.put]; done)) (HFC.out _ D1.st D1.ap.rng.2) ?_
    rintro en w2 ⟨rfl, s2, t2⟩
    have D2 := D1.did HLO.out.1 HLO.out.2 s2 t2
    refine ⟨_, rfl, ⟨D2.own, D2.cmd⟩, ?_⟩
    simp only [Act.put, List.setIfInBounds_toArray, List.set_cons_zero, List.set_cons_succ]
    obtain ⟨g5, hg5e⟩ : ∃ g5, g5 = w2.heap.size := ⟨_, rfl⟩
    have hg5 : w.heap.size + 1 < g5 := by rw [hg5e]; exact D2.res.lt
    refine held_one (i := 7) (by kernel_rfl) ?_
    refine wpOp_value (some 5) (v := .pointer (some ⟨g5, 0, none⟩)) (w' := w2.alloc (.cells #[.int .i64 0, .string ⟨#[]⟩] 57)) rfl rfl (by kernel_rfl) (by rw [hg5e]; go_simp) ?_
    have D4 := D2.below ((Below.refl _ w2).alloc (Nat.le_refl _) (.cells #[.int .i64 0, .string ⟨#[]⟩] 57))
    refine ⟨⟨D4.own, D4.cmd⟩, ?_⟩
    simp only [Act.put, List.setIfInBounds_toArray, List.set_cons_zero, List.set_cons_succ]
    refine held_one (i := 8) (by kernel_rfl) ?_
    refine wpOp_wp (o := ⟨none, _, _, _, _, _⟩) rfl (by kernel_rfl) ?_
    refine wp_store_piece 57 (.tmp 5) (.tmp 12) rfl g5 0 #[.int .i64 e, .string g] #[.int .i64 0, .string ⟨#[]⟩] #[.int .i64 e, .string g] (by first | (simp [Act.eval]; done) | rfl) (by first | (simp [Act.eval]; done) | rfl) 57 (made_at _ _ hg5e) (by kernel_rfl) (by show 0 + 2 ≤ 2; omega) (by simp [Value.oneCell']) rfl ?_
    intro w5 R5 t5
    have D5 := D4.far hg5 (fun j hj => (HF3.out j hj).2) HB0.out t5
    refine ⟨⟨D5.own, D5.cmd⟩, ?_⟩
    simp only [Act.put]
    refine wpAnyH_done (by kernel_rfl) ?_ _
    have P5 := Lib.hid (show _ ∧ _ ∧ _ from ⟨D5, R5, hg5⟩)
    clear D1 D2 D4 D5 S0 s2 t2 R5 t5 hg5 hg5e hne
    have q0 : w5.cell? ⟨g5, 0, none⟩ = some (.int .i64 e) := P5.out.2.1.cell 0
    have q1 : w5.cell? ⟨g5, 1, none⟩ = some (.string g) := P5.out.2.1.cell 1
    by_cases h0e : e = 0
    · have c12 : w5.cell? ⟨w.heap.size, 12, none⟩ = some (.int .i64 0) := P5.out.1.cmd.cell 12
      have HG := Lib.hid (HGO.out h0e)
      have HEZ := Lib.hid h0e
      subst h0e
      go_wp2_with fail
      obtain ⟨t, ht⟩ : ∃ t, t = cmdT o 0 := ⟨_, rfl⟩
      have HTX : Hid (∀ V, Calls Tryz.prog 31 #[.agg #[.int .i64 ok, .int .i64 tk, .int .i64 ta, .string tx, .int .i64 tn, .int .i64 lk, .string ls, .string lt, .int .i64 ln, .int .i64 sk, .string ss, .int .i64 sn, .int .i64 0]] V fun en w' => en = .returned (.string t) ∧ Below V.heap.size V w') := Lib.hid fun V => by
        have := ctext_calls o HG.out 0 (by omega) V
        rw [show ((0 : Nat) : Int) = 0 from rfl, HCC.out, ← ht] at this
        exact this
      have HTS : Hid (t.size ≤ 1000000) := Lib.hid (by rw [ht]; have := cmdT_size HG.out (f := 0) (by omega); omega)
      have HT := Lib.hid ht
      clear ht
      obtain ⟨V6, hV6⟩ : ∃ V, V = w5.drew := ⟨_, rfl⟩
      refine wp_region_heldV (fun V => Has V b 53 #[.pointer (some ⟨vb, 0, none⟩), .iface T (pv d), .pointer (some ⟨tb, 0, none⟩), .map (some m)] ∧ Has V w.heap.size 60 #[.int .i64 ok, .int .i64 tk, .int .i64 ta, .string tx, .int .i64 tn, .int .i64 lk, .string ls, .string lt, .int .i64 ln, .int .i64 sk, .string ss, .int .i64 sn, .int .i64 0]) V6 hV6 (by kernel_rfl) ?_
      have D5 := P5.out.1.below (V' := V6) (by rw [hV6]; exact (Below.refl _ _).drew)
      have R5 : Has V6 g5 57 #[.int .i64 0, .string g] := by rw [hV6]; exact P5.out.2.1
      have S0 := And.intro D5.own D5.cmd
      clear hV6 q0 q1 c12
      refine held_take 0 (some 42) (v := .pointer (some ⟨b, 0, none⟩)) rfl rfl (by kernel_rfl) (by kernel_rfl) (by kernel_rfl) (fun _ _ _ h => h) (.inl ⟨by kernel_rfl, fun V hV => by rfl⟩) S0 ?_
      simp only [Act.put, List.setIfInBounds_toArray, List.set_cons_zero, List.set_cons_succ]
      refine held_take 1 (some 43) (v := .pointer (some ⟨b, 0, none⟩)) rfl rfl (by kernel_rfl) (by kernel_rfl) (by kernel_rfl) (fun _ _ _ h => h) (.inl ⟨by kernel_rfl, fun V hV => by go_simp⟩) S0 ?_
      simp only [Act.put, List.setIfInBounds_toArray, List.set_cons_zero, List.set_cons_succ]
      refine held_take 2 (some 44) (v := .pointer (some ⟨b, 0, none⟩)) rfl rfl (by kernel_rfl) (by kernel_rfl) (by kernel_rfl) (fun _ _ _ h => h) (.inl ⟨by kernel_rfl, fun V hV => by go_simp⟩) S0 ?_
      simp only [Act.put, List.setIfInBounds_toArray, List.set_cons_zero, List.set_cons_succ]
      refine held_take 3 (some 45) (v := .pointer (some ⟨vb, 0, none⟩)) rfl rfl (by kernel_rfl) (by kernel_rfl) (by kernel_rfl) (fun _ _ _ h => h) (.inl ⟨by kernel_rfl, fun V hV => by have c2 : V.cell? ⟨b, 0, none⟩ = some (.pointer (some ⟨vb, 0, none⟩)) := hV.1.cell 0; go_simp⟩) S0 ?_
      simp only [Act.put, List.setIfInBounds_toArray, List.set_cons_zero, List.set_cons_succ]
      refine held_take 4 (some 46) (v := .agg #[.int .i64 ok, .int .i64 tk, .int .i64 ta, .string tx, .int .i64 tn, .int .i64 lk, .string ls, .string lt, .int .i64 ln, .int .i64 sk, .string ss, .int .i64 sn, .int .i64 0]) rfl rfl (by kernel_rfl) (by kernel_rfl) (by kernel_rfl) (fun _ _ _ h => h) (.inl ⟨by kernel_rfl, fun V hV => by exact dig.exec_load 60 (.tmp 3) rfl (.pointer (some ⟨w.heap.size, 0, none⟩)) (by kernel_rfl) (run_loadAt_mid V w.heap.size 0 60 [.int .i64 ok, .int .i64 tk, .int .i64 ta, .string tx, .int .i64 tn, .int .i64 lk, .string ls, .string lt, .int .i64 ln, .int .i64 sk, .string ss, .int .i64 sn, .int .i64 0] _ (Has.range hV.2) Tryz.underlying60 rfl (by kernel_rfl))⟩) S0 ?_
      simp only [Act.put, List.setIfInBounds_toArray, List.set_cons_zero, List.set_cons_succ]
      refine held_one (i := 5) (by kernel_rfl) ?_
      refine wpOp_call (some 47) rfl rfl (by kernel_rfl) 31 Tryz.f31 Tryz.func31 (by kernel_rfl) (by kernel_rfl) _ _ rfl #[.agg #[.int .i64 ok, .int .i64 tk, .int .i64 ta, .string tx, .int .i64 tn, .int .i64 lk, .string ls, .string lt, .int .i64 ln, .int .i64 sk, .string ss, .int .i64 sn, .int .i64 0]] (by first | (simp [Act.eval]; done) | (simp [Act.eval, Act.put]; done)) (HTX.out _) ?_
      rintro en w6 ⟨rfl, b6⟩
      have D6 := D5.below b6
      have R6 := R5.below b6 R5.lt
      refine ⟨.string t, rfl, ⟨D6.own, D6.cmd⟩, ?_⟩
      simp only [Act.put, List.setIfInBounds_toArray, List.set_cons_zero, List.set_cons_succ]
      refine held_one (i := 6) (by kernel_rfl) ?_
      obtain ⟨g8, hg8⟩ : ∃ g8, g8 = w6.heap.size := ⟨_, rfl⟩
      refine wpOp_value (some 48) (v := .slice (some ⟨g8, 0, none⟩) 1 1) (w' := w6.alloc (.cells #[.string t] 9)) rfl rfl (by kernel_rfl) (by rw [hg8]; go_simp) ?_
      have b7 : Below w6.heap.size w6 (w6.alloc (.cells #[.string t] 9)) := (Below.refl _ _).alloc (Nat.le_refl _) _
      have D7 := D6.below b7
      have R7 := R6.below b7 R6.lt
      have n7 : Seg (w6.alloc (.cells #[.string t] 9)) 9 1 (.slice (some ⟨g8, 0, none⟩) 1 1) 1 [.string t] := by rw [hg8]; exact Seg.whole (m := 1) (cs := #[.string t]) (heap_alloc_new _ _) rfl (by unfold maxLen; omega)
      have hf1 : ∀ j, F1 j → j < w.heap.size := fun j hj => (HF3.out j (.inr (.inr (.inr (.inl hj))))).2
      have hg8w : w.heap.size < g8 := by rw [hg8]; have := D6.cmd.lt; omega
      refine ⟨⟨D7.own, D7.cmd⟩, ?_⟩
      simp only [Act.put, List.setIfInBounds_toArray, List.set_cons_zero, List.set_cons_succ]
      refine held_one (i := 7) (by kernel_rfl) ?_
      obtain ⟨w7, hw7⟩ : ∃ w7, w7 = w6.alloc (.cells #[.string t] 9) := ⟨_, rfl⟩
      rw [← hw7] at D7 R7 n7 ⊢
      refine wpOp_call (some 49) rfl rfl (by kernel_rfl) 56 Tryz.f56 Tryz.func56 (by kernel_rfl) (by kernel_rfl) _ _ rfl #[.pointer (some ⟨vb, 0, none⟩), .slice (some ⟨g8, 0, none⟩) 1 1] (by first | (simp [Act.eval]; done) | (simp [Act.eval, Act.put]; done)) (D7.va.add (some ⟨g8, 0, none⟩) 1 [t] ⟨n7, fun s hs => by rw [List.mem_singleton.1 hs]; exact HTS.out⟩ (fun x hx e => by have hx2 : g8 = x := (by simpa [Value.ownBlock] using hx); have := hf1 x e; omega) (by rw [texts_len]; have := HC.out; simp; omega)) ?_
      rintro en w8 ⟨rfl, va8, t8⟩
      have hn1 : ∀ j, F1 j → j ≠ w.heap.size + 1 ∧ j ≠ g5 ∧ j ≠ w.heap.size := fun j hj => by have := hf1 j hj; have := P5.out.2.2; omega
      have O8 := D7.own.turn t8 (fun e => (D7.ap.h1 _ e).2.2.1 rfl)
      have C8 := D7.cmd.turn t8 (fun e => (hn1 _ e).2.2 rfl)
      have P8 : Hid (Dz B w b vb tb m (.iface T (pv d)) lo hi ob (texts C ++ [t]) fl l (fun j => F1 j ∨ (w7.heap.size ≤ j ∧ j < w8.heap.size)) F2 (Fp b m lo hi F1 F2) g5 #[.int .i64 0, .string g] w8 ∧ w.heap.size + 1 < w7.heap.size ∧ w7.heap.size ≤ w8.heap.size) := by
        obtain ⟨es, clock, x1, x2⟩ := D7.mp
        have hbl := H1.out.own.lt
        have hml := map_lt H1.out.mp
        have hrg := H2.out.rng.2
        have hwr := D7.res.lt
        have hB := HB0.out
        refine Lib.hid ⟨⟨O8, va8.more (fun j h1 h2 => h2.imp id (fun h => ⟨h, h1⟩)) (fun j hj => ?_), D7.st.turn t8 (fun j a1 a2 e => (D7.ap.h1 j e).2.2.2.2.1 ⟨a1, a2⟩), D7.tw.turn t8 (fun j _ hj e => (D7.ap.h1 j e).2.2.2.2.2 hj), ⟨es, clock, (t8.block m (map_lt D7.mp) (fun e => (D7.ap.h1 _ e).2.2.2.1 rfl)).trans x1, x2⟩, D7.turn.trans t8 (fun j _ e => .inr (.inr (.inr (.inl e)))), D7.res.turn t8 (fun e => (hn1 _ e).1 rfl), R7.turn t8 (fun e => (hn1 _ e).2.1 rfl), ⟨⟨H2.out.rng.1, by have := t8.size; omega⟩, H2.out.hb, fun j hj => ?_, fun j hj => ⟨(H2.out.h2 j hj).1, by have := (H2.out.h2 j hj).2.1; have := t8.size; omega, (H2.out.h2 j hj).2.2⟩, H2.out.ho⟩⟩, hwr, t8.size⟩
        · rcases hj with e | e
          · exact (D7.ap.h1 j e).1
          · omega
        · rcases hj with e | e
          · exact ⟨(H2.out.h1 j e).1, by have := (H2.out.h1 j e).2.1; have := t8.size; omega, (H2.out.h1 j e).2.2⟩
          · exact ⟨by omega, e.2, by omega, by omega, by omega, fun e2 => by have := (H2.out.h2 j e2).2.1; omega⟩
      refine ⟨_, rfl, ⟨O8, C8⟩, ?_⟩
      simp only [Act.put, List.setIfInBounds_toArray, List.set_cons_zero, List.set_cons_succ]
      refine wpAnyH_done (by kernel_rfl) ?_ _
      clear D5 D6 D7 R5 R6 R7 b6 b7 n7 va8 t8 O8 C8 hg8 hg8w hw7
      clear S0
      have P9 := Lib.hid P5.out.2.2
      clear P5
      obtain ⟨nn, hnn⟩ : ∃ nn, nn = C.length + 1 := ⟨_, rfl⟩
      have HLN : Hid (Calls Tryz.prog 15 #[.pointer (some ⟨vb, 0, none⟩)] w8 fun en w' => en = .returned (.int .i64 nn) ∧ w8 = w') := Lib.hid (by
        have := P8.out.1.va.len_calls
        rw [List.length_append, texts_len, List.length_singleton, ← hnn] at this
        exact this)
      have HNN := Lib.hid hnn
      have c80 : w8.cell? ⟨b, 0, none⟩ = some (.pointer (some ⟨vb, 0, none⟩)) := P8.out.1.own.cell 0
      have q0 : w8.cell? ⟨g5, 0, none⟩ = some (.int .i64 0) := P8.out.1.r5.cell 0
      have q1 : w8.cell? ⟨g5, 1, none⟩ = some (.string g) := P8.out.1.r5.cell 1
      have HCN : Hid (Did k (C ++ [(⟨o, 0⟩ : Cm)]) ∧ ob.Like (fold k (C ++ [(⟨o, 0⟩ : Cm)]) (C ++ [(⟨o, 0⟩ : Cm)]).length) ∧ texts C ++ [t] = texts (C ++ [(⟨o, 0⟩ : Cm)])) := Lib.hid ⟨H1.out.did.snoc (c := ⟨o, 0⟩) HG.out HE.out.1.symm (show (0 : Nat) < 1000000000 by omega), by
        have e : (C ++ [(⟨o, 0⟩ : Cm)])[C.length]? = some ⟨o, 0⟩ := by simp
        have e2 := fold_succ (k := k) e
        rw [List.length_append, List.length_singleton, e2, fold_app (Nat.le_refl _)]
        exact HLK.out, by rw [texts_app, HT.out]; rfl⟩
      clear hnn
      by_cases h4 : nn % 4 = 0
      · have hr1 : (nn : Int).tmod 4 = 0 := (show (nn : Int).tmod 4 = ((nn % 4 : Nat) : Int) from rfl).trans (by rw [h4]; rfl)
        have hr2 : (nn : Int) % 4 = 0 := by omega
        have H4 := Lib.hid h4
        clear h4
        go_wp2_with fail
        refine HLN.out.mono ?_
        rintro en wx ⟨rfl, rfl⟩
        go_wp2_with fail
        obtain ⟨V8, hV8⟩ : ∃ V, V = w8.drew := ⟨_, rfl⟩
        refine wp_region_heldV (fun V => Has V b 53 #[.pointer (some ⟨vb, 0, none⟩), .iface T (pv d), .pointer (some ⟨tb, 0, none⟩), .map (some m)]) V8 hV8 (by kernel_rfl) ?_
        have Z8 := P8.out.1.below (V' := V8) (by rw [hV8]; exact (Below.refl _ _).drew)
        have hz8 : V8.heap.size = w8.heap.size := by rw [hV8]; rfl
        have S0 := Z8.own
        clear hV8 c80 q0 q1
        refine held_take 0 (some 57) (v := .pointer (some ⟨b, 0, none⟩)) rfl rfl (by kernel_rfl) (by kernel_rfl) (by kernel_rfl) (fun _ _ _ h => h) (.inl ⟨by kernel_rfl, fun V hV => by rfl⟩) S0 ?_
        simp only [Act.put, List.setIfInBounds_toArray, List.set_cons_zero, List.set_cons_succ]
        refine held_take 1 (some 58) (v := .pointer (some ⟨b, 0, none⟩)) rfl rfl (by kernel_rfl) (by kernel_rfl) (by kernel_rfl) (fun _ _ _ h => h) (.inl ⟨by kernel_rfl, fun V hV => by go_simp⟩) S0 ?_
        simp only [Act.put, List.setIfInBounds_toArray, List.set_cons_zero, List.set_cons_succ]
        refine held_take 2 (some 59) (v := .pointer (some ⟨b, 2, none⟩)) rfl rfl (by kernel_rfl) (by kernel_rfl) (by kernel_rfl) (fun _ _ _ h => h) (.inl ⟨by kernel_rfl, fun V hV => by go_simp⟩) S0 ?_
        simp only [Act.put, List.setIfInBounds_toArray, List.set_cons_zero, List.set_cons_succ]
        refine held_take 3 (some 60) (v := .pointer (some ⟨tb, 0, none⟩)) rfl rfl (by kernel_rfl) (by kernel_rfl) (by kernel_rfl) (fun _ _ _ h => h) (.inl ⟨by kernel_rfl, fun V hV => by have c2 : V.cell? ⟨b, 2, none⟩ = some (.pointer (some ⟨tb, 0, none⟩)) := hV.cell 2; go_simp⟩) S0 ?_
        simp only [Act.put, List.setIfInBounds_toArray, List.set_cons_zero, List.set_cons_succ]
        refine held_take 4 (some 61) (v := .pointer (some ⟨b, 0, none⟩)) rfl rfl (by kernel_rfl) (by kernel_rfl) (by kernel_rfl) (fun _ _ _ h => h) (.inl ⟨by kernel_rfl, fun V hV => by rfl⟩) S0 ?_
        simp only [Act.put, List.setIfInBounds_toArray, List.set_cons_zero, List.set_cons_succ]
        refine held_take 5 (some 62) (v := .pointer (some ⟨b, 0, none⟩)) rfl rfl (by kernel_rfl) (by kernel_rfl) (by kernel_rfl) (fun _ _ _ h => h) (.inl ⟨by kernel_rfl, fun V hV => by go_simp⟩) S0 ?_
        simp only [Act.put, List.setIfInBounds_toArray, List.set_cons_zero, List.set_cons_succ]
        refine held_take 6 (some 63) (v := .pointer (some ⟨b, 0, none⟩)) rfl rfl (by kernel_rfl) (by kernel_rfl) (by kernel_rfl) (fun _ _ _ h => h) (.inl ⟨by kernel_rfl, fun V hV => by go_simp⟩) S0 ?_
        simp only [Act.put, List.setIfInBounds_toArray, List.set_cons_zero, List.set_cons_succ]
        refine held_take 7 (some 64) (v := .pointer (some ⟨vb, 0, none⟩)) rfl rfl (by kernel_rfl) (by kernel_rfl) (by kernel_rfl) (fun _ _ _ h => h) (.inl ⟨by kernel_rfl, fun V hV => by have c2 : V.cell? ⟨b, 0, none⟩ = some (.pointer (some ⟨vb, 0, none⟩)) := hV.cell 0; go_simp⟩) S0 ?_
        simp only [Act.put, List.setIfInBounds_toArray, List.set_cons_zero, List.set_cons_succ]
        refine held_take 9 (some 66) (v := .pointer (some ⟨b, 0, none⟩)) rfl rfl (by kernel_rfl) (by kernel_rfl) (by kernel_rfl) (fun _ _ _ h => h) (.inl ⟨by kernel_rfl, fun V hV => by rfl⟩) S0 ?_
        simp only [Act.put, List.setIfInBounds_toArray, List.set_cons_zero, List.set_cons_succ]
        refine held_one (i := 8) (by kernel_rfl) ?_
        refine wpOp_call (some 65) rfl rfl (by kernel_rfl) 15 Tryz.f15 Tryz.func15 (by kernel_rfl) (by kernel_rfl) _ _ rfl #[.pointer (some ⟨vb, 0, none⟩)] (by first | (simp [Act.eval]; done) | (simp [Act.eval, Act.put]; done)) ((by have := Z8.va.len_calls; rw [List.length_append, texts_len, List.length_singleton, ← HNN.out] at this; exact this)) ?_
        rintro en w9 ⟨rfl, rfl⟩
        refine ⟨.int .i64 nn, rfl, S0, ?_⟩
        simp only [Act.put, List.setIfInBounds_toArray, List.set_cons_zero, List.set_cons_succ]
        refine held_one (i := 10) (by kernel_rfl) ?_
        refine wpOp_call (some 67) rfl rfl (by kernel_rfl) 25 Tryz.f25 Tryz.func25 (by kernel_rfl) (by kernel_rfl) _ _ rfl #[.pointer (some ⟨b, 0, none⟩)] (by first | (simp [Act.eval]; done) | (simp [Act.eval, Act.put]; done)) (save_parts (Z8.own.cell 1) Z8.st) ?_
        rintro en w10 ⟨rfl, b10⟩
        have Z10 := Z8.below b10
        have hz10 := b10.size
        refine ⟨.string ob.save, rfl, Z10.own, ?_⟩
        simp only [Act.put, List.setIfInBounds_toArray, List.set_cons_zero, List.set_cons_succ]
        refine held_one (i := 11) (by kernel_rfl) ?_
        refine wpOp_call (some 68) rfl rfl (by kernel_rfl) 41 Tryz.f41 Tryz.func41 (by kernel_rfl) (by kernel_rfl) _ _ rfl #[.pointer (some ⟨tb, 0, none⟩), .int .i64 nn, .string ob.save] (by first | (simp [Act.eval]; done) | (simp [Act.eval, Act.put]; done)) (Z10.tw.put_calls (tz_of Z10.va.rt) nn ob.save (by have := H1.out.marks.len H1.out.tw.sorted; have := HC.out; omega) (by have := HNN.out; have := HC.out; omega)) ?_
        rintro en w11 ⟨was, rfl, _, tw11, t11⟩
        have O11 := Z10.own.turn t11 (fun e => (Z10.ap.h2 _ e).2.2.1 rfl)
        have hf2 : ∀ j, F2 j → j < w.heap.size := fun j hj => (HF3.out j (.inr (.inr (.inr (.inr hj))))).2
        have P11 : Hid (Dz B w b vb tb m (.iface T (pv d)) lo hi ob (texts C ++ [t]) fl (insK nn ob.save l) (fun j => F1 j ∨ (w7.heap.size ≤ j ∧ j < w8.heap.size)) (fun j => F2 j ∨ (w10.heap.size ≤ j ∧ j < w11.heap.size)) (Fp b m lo hi F1 F2) g5 #[.int .i64 0, .string g] w11 ∧ w.heap.size + 1 < w7.heap.size ∧ w7.heap.size ≤ w8.heap.size ∧ w8.heap.size ≤ w10.heap.size) := by
          obtain ⟨es, clock, x1, x2⟩ := Z10.mp
          have hbl := H1.out.own.lt
          have hml := map_lt H1.out.mp
          have hrg := H2.out.rng.2
          have hP := P8.out.2
          have hB := HB0.out
          have h5 := P9.out
          refine Lib.hid ⟨⟨O11, Z10.va.turn t11 (fun j hj _ e => (Z10.ap.h1 j hj).2.2.2.2.2 e) (fun j e => (Z10.ap.h2 j e).1), Z10.st.turn t11 (fun j a1 a2 e => (Z10.ap.h2 j e).2.2.2.2 ⟨a1, a2⟩), tw11.more (fun j h1 h2 => h2.imp id (fun h => ⟨h, h1⟩)), ⟨es, clock, (t11.block m (map_lt Z10.mp) (fun e => (Z10.ap.h2 _ e).2.2.2.1 rfl)).trans x1, x2⟩, Z10.turn.trans t11 (fun j _ e => .inr (.inr (.inr (.inr e)))), Z10.res.turn t11 (fun e => by have := hf2 _ e; omega), Z10.r5.turn t11 (fun e => by have := hf2 _ e; omega), ⟨⟨H2.out.rng.1, by have := t11.size; omega⟩, H2.out.hb, fun j hj => ⟨(Z10.ap.h1 j hj).1, by have := (Z10.ap.h1 j hj).2.1; have := t11.size; omega, (Z10.ap.h1 j hj).2.2.1, (Z10.ap.h1 j hj).2.2.2.1, (Z10.ap.h1 j hj).2.2.2.2.1, fun e => ?_⟩, fun j hj => ?_, H2.out.ho⟩⟩, hP.1, hP.2, by omega⟩
          · rcases e with e | e
            · exact (Z10.ap.h1 j hj).2.2.2.2.2 e
            · have := (Z10.ap.h1 j hj).2.1; omega
          · rcases hj with e | e
            · exact ⟨(Z10.ap.h2 j e).1, by have := (Z10.ap.h2 j e).2.1; have := t11.size; omega, (Z10.ap.h2 j e).2.2⟩
            · exact ⟨by omega, e.2, by omega, by omega, by omega⟩
        have HMK : Hid (Marks k (C ++ [(⟨o, 0⟩ : Cm)]) fl (insK nn ob.save l)) := Lib.hid (by
          have h := marks_put (c := ⟨o, 0⟩) H1.out.marks H1.out.tw.sorted H1.out.fln (by rw [← HNN.out]; exact H4.out)
          have hsv := HCN.out.2.1.save
          rw [List.length_append, List.length_singleton] at hsv
          rw [hsv, HNN.out, Int.natCast_add]
          exact h)
        clear Z8 Z10 tw11 t11 b10 hf2 hz8 hz10
        refine ⟨.bool was, rfl, O11, ?_⟩
        simp only [Act.put, List.setIfInBounds_toArray, List.set_cons_zero, List.set_cons_succ]
        refine wpAnyH_done (by kernel_rfl) ?_ _
        have q0 : w11.cell? ⟨g5, 0, none⟩ = some (.int .i64 0) := P11.out.1.r5.cell 0
        have q1 : w11.cell? ⟨g5, 1, none⟩ = some (.string g) := P11.out.1.r5.cell 1
        clear S0
        go_wp2_with (first
          | ((with_reducible refine at_store (.tmp 4) ?_); refine wpList_store_all (o := ⟨none, _, _, _, _, _⟩) rfl 57 (.tmp 4) (.tmp 69) rfl (w.heap.size + 1) #[.int .i64 0, .string g] #[.int .i64 0, .string ⟨#[]⟩] rfl rfl _ P11.out.1.res (by kernel_rfl) rfl (by simp [Value.oneCell']) ?_; intro Wb HWb TWb)
          | fail)
        refine bodyPost_ret (v := rv 0 g) (results_cell_row rfl _ _ (w.heap.size + 1) 57 _ _ _ rfl HWb Tryz.underlying57 rfl (by kernel_rfl)) rfl ?_
        refine .inl ⟨HE.out.1.symm, by rw [← HE.out.2], ?_, ?_⟩
        · have D := P11.out.1
          have hx := P11.out.2
          have hn : ∀ j, Fp b m lo hi (fun j => F1 j ∨ (w7.heap.size ≤ j ∧ j < w8.heap.size)) (fun j => F2 j ∨ (w10.heap.size ≤ j ∧ j < w11.heap.size)) j → j ≠ w.heap.size + 1 := fun j hj e => by
            have h0 := fun h => (HF3.out j h).2
            rcases hj with h | h | h | (h | h) | (h | h)
            · have := h0 (.inl h); omega
            · have := h0 (.inr (.inl h)); omega
            · have := h0 (.inr (.inr (.inl h))); omega
            · have := h0 (.inr (.inr (.inr (.inl h)))); omega
            · omega
            · have := h0 (.inr (.inr (.inr (.inr h)))); omega
            · omega
          obtain ⟨es, clock, x1, x2⟩ := D.mp
          refine ⟨vb, tb, m, .iface T (pv d), lo, hi, ob, (insK nn ob.save l), (fun j => F1 j ∨ (w7.heap.size ≤ j ∧ j < w8.heap.size)), (fun j => F2 j ∨ (w10.heap.size ≤ j ∧ j < w11.heap.size)), ⟨D.own.turn TWb (hn b (.inl rfl)), by rw [← HCN.out.2.2]; exact D.va.turn TWb (fun j hj _ => hn j (.inr (.inr (.inr (.inl hj))))) (fun j e => by have := HB0.out; omega), D.st.turn TWb (fun j a1 a2 => hn j (.inr (.inr (.inl ⟨a1, a2⟩)))), HCN.out.2.1, D.tw.turn TWb (fun j _ hj => hn j (.inr (.inr (.inr (.inr hj))))), ⟨es, clock, (TWb.block m (map_lt D.mp) (hn m (.inr (.inl rfl)))).trans x1, x2⟩, HCN.out.1, H1.out.kk, HMK.out, by have := H1.out.fln; rw [List.length_append]; omega⟩, D.ap.turn TWb.size, fun j hj => ?_⟩
          rcases hj with h | h | h | (h | h) | (h | h)
          · exact .inl (HF3.out j (.inl h)).1
          · exact .inl (HF3.out j (.inr (.inl h))).1
          · exact .inl (HF3.out j (.inr (.inr (.inl h)))).1
          · exact .inl (HF3.out j (.inr (.inr (.inr (.inl h))))).1
          · exact .inr (by omega)
          · exact .inl (HF3.out j (.inr (.inr (.inr (.inr h))))).1
          · exact .inr (by omega)
        · exact (P11.out.1.turn.trans TWb (fun j hj e => by omega)).more (fun j _ hj => (HF3.out j hj).1)
      · obtain ⟨r, hr⟩ : ∃ r, r = nn % 4 := ⟨_, rfl⟩
        have hr1 : (nn : Int).tmod 4 = (r : Int) := by rw [hr]; rfl
        have hr2 : (nn : Int) % 4 = (r : Int) := by omega
        have hr3 : ((r : Int) == 0) = false := by simp; omega
        have hr4 : ¬ (r : Int) = 0 := by omega
        have H4 := Lib.hid h4
        clear h4 hr
        go_wp2_with fail
        refine HLN.out.mono ?_
        rintro en wx ⟨rfl, rfl⟩
        go_wp2_with (first
          | ((with_reducible refine at_store (.tmp 4) ?_); refine wpList_store_all (o := ⟨none, _, _, _, _, _⟩) rfl 57 (.tmp 4) (.tmp 69) rfl (w.heap.size + 1) #[.int .i64 0, .string g] #[.int .i64 0, .string ⟨#[]⟩] rfl rfl _ P8.out.1.res (by kernel_rfl) rfl (by simp [Value.oneCell']) ?_; intro Wb HWb TWb)
          | fail)
        refine bodyPost_ret (v := rv 0 g) (results_cell_row rfl _ _ (w.heap.size + 1) 57 _ _ _ rfl HWb Tryz.underlying57 rfl (by kernel_rfl)) rfl ?_
        refine .inl ⟨HE.out.1.symm, by rw [← HE.out.2], ?_, ?_⟩
        · have D := P8.out.1
          have hx := P8.out.2
          have hn : ∀ j, Fp b m lo hi (fun j => F1 j ∨ (w7.heap.size ≤ j ∧ j < w8.heap.size)) F2 j → j ≠ w.heap.size + 1 := fun j hj e => by
            have h0 := fun h => (HF3.out j h).2
            rcases hj with h | h | h | (h | h) | h
            · have := h0 (.inl h); omega
            · have := h0 (.inr (.inl h)); omega
            · have := h0 (.inr (.inr (.inl h))); omega
            · have := h0 (.inr (.inr (.inr (.inl h)))); omega
            · omega
            · have := h0 (.inr (.inr (.inr (.inr h)))); omega
          obtain ⟨es, clock, x1, x2⟩ := D.mp
          refine ⟨vb, tb, m, .iface T (pv d), lo, hi, ob, l, (fun j => F1 j ∨ (w7.heap.size ≤ j ∧ j < w8.heap.size)), F2, ⟨D.own.turn TWb (hn b (.inl rfl)), by rw [← HCN.out.2.2]; exact D.va.turn TWb (fun j hj _ => hn j (.inr (.inr (.inr (.inl hj))))) (fun j e => by have := HB0.out; omega), D.st.turn TWb (fun j a1 a2 => hn j (.inr (.inr (.inl ⟨a1, a2⟩)))), HCN.out.2.1, D.tw.turn TWb (fun j _ hj => hn j (.inr (.inr (.inr (.inr hj))))), ⟨es, clock, (TWb.block m (map_lt D.mp) (hn m (.inr (.inl rfl)))).trans x1, x2⟩, HCN.out.1, H1.out.kk, marks_more H1.out.marks H1.out.fln (by rw [← HNN.out]; exact H4.out), by have := H1.out.fln; rw [List.length_append]; omega⟩, D.ap.turn TWb.size, fun j hj => ?_⟩
          rcases hj with h | h | h | (h | h) | h
          · exact .inl (HF3.out j (.inl h)).1
          · exact .inl (HF3.out j (.inr (.inl h))).1
          · exact .inl (HF3.out j (.inr (.inr (.inl h)))).1
          · exact .inl (HF3.out j (.inr (.inr (.inr (.inl h))))).1
          · exact .inr (by omega)
          · exact .inl (HF3.out j (.inr (.inr (.inr (.inr h))))).1
        · exact (P8.out.1.turn.trans TWb (fun j hj e => by omega)).more (fun j _ hj => (HF3.out j hj).1)
    · have hb : (e != 0) = true := by simpa using h0e
      have HEZ := Lib.hid h0e
      clear h0e
      go_wp2_with (first
        | ((with_reducible refine at_store (.tmp 4) ?_); refine wpList_store_all (o := ⟨none, _, _, _, _, _⟩) rfl 57 (.tmp 4) (.tmp 16) rfl (w.heap.size + 1) #[.int .i64 e, .string g] #[.int .i64 0, .string ⟨#[]⟩] rfl rfl _ P5.out.1.res (by kernel_rfl) rfl (by simp [Value.oneCell']) ?_; intro Wb HWb TWb)
        | fail)
      refine bodyPost_ret (v := rv e g) (results_cell_row rfl _ _ (w.heap.size + 1) 57 _ _ _ rfl HWb Tryz.underlying57 rfl (by kernel_rfl)) rfl ?_
      refine .inr ⟨by rw [← HE.out.1]; exact HEZ.out, by rw [← HE.out.1, ← HE.out.2], ?_, ?_⟩
      · have D := P5.out.1
        have hn : ∀ j, Fp b m lo hi F1 F2 j → j ≠ w.heap.size + 1 := fun j hj e => by have := (HF3.out j hj).2; omega
        obtain ⟨es, clock, x1, x2⟩ := D.mp
        refine ⟨vb, tb, m, .iface T (pv d), lo, hi, ob, l, F1, F2, ⟨D.own.turn TWb (hn b (.inl rfl)), D.va.turn TWb (fun j hj _ => hn j (.inr (.inr (.inr (.inl hj))))) (fun j e => by have := HB0.out; omega), D.st.turn TWb (fun j a1 a2 => hn j (.inr (.inr (.inl ⟨a1, a2⟩)))), ?_, D.tw.turn TWb (fun j _ hj => hn j (.inr (.inr (.inr (.inr hj))))), ⟨es, clock, (TWb.block m (map_lt D.mp) (hn m (.inr (.inl rfl)))).trans x1, x2⟩, H1.out.did, H1.out.kk, H1.out.marks, H1.out.fln⟩, D.ap.turn TWb.size, fun j hj => (HF3.out j hj).1⟩
        have := HLK.out
        rw [act_stays (by rw [← HE.out.1]; exact HEZ.out)] at this
        exact this
      · exact (P5.out.1.turn.trans TWb (fun j hj e => by omega)).more (fun j _ hj => (HF3.out j hj).1)
  · obtain ⟨g5, hg5e⟩ : ∃ g5, g5 = V.heap.size := ⟨_, rfl⟩
    have hg5 : w.heap.size + 1 < g5 := by rw [hg5e]; exact hne
    refine wpOp_value (some 5) (v := .pointer (some ⟨g5, 0, none⟩)) (w' := V.alloc (.cells #[.int .i64 0, .string ⟨#[]⟩] 57)) rfl rfl (by kernel_rfl) (by rw [hg5e]; go_simp) ?_
    have D2 := D1.below ((Below.refl _ V).alloc (Nat.le_refl _) (.cells #[.int .i64 0, .string ⟨#[]⟩] 57))
    have R2 : Has (V.alloc (.cells #[.int .i64 0, .string ⟨#[]⟩] 57)) g5 57 #[.int .i64 0, .string ⟨#[]⟩] := made_at _ _ hg5e
    refine ⟨⟨D2.own, D2.cmd⟩, ?_⟩
    simp only [Act.put, List.setIfInBounds_toArray, List.set_cons_zero, List.set_cons_succ]
    refine held_one (i := 6) (by kernel_rfl) ?_
    refine wpOp_invoke (some 12) rfl rfl (by kernel_rfl) (.tmp 9) "Do" T (pv d) (by first | (simp [Act.eval]; done) | (simp [Act.eval, Act.put]; done)) fD (pv d) (md _ _) ed #[.tmp 11] _ rfl #[.agg #[.int .i64 ok, .int .i64 tk, .int .i64 ta, .string tx, .int .i64 tn, .int .i64 lk, .string ls, .string lt, .int .i64 ln, .int .i64 sk, .string ss, .int .i64 sn]] (by first | (simp [Act.eval]; done) | (simp [Act.eval, Act.put]; done)) (HFC.out _ D2.st D2.ap.rng.2) ?_
    rintro en w2 ⟨rfl, s2, t2⟩
    have D4 := D2.did HLO.out.1 HLO.out.2 s2 t2
    have R4 := R2.turn t2 (by have := HLO.out.1; omega)
    refine ⟨_, rfl, ⟨D4.own, D4.cmd⟩, ?_⟩
    simp only [Act.put, List.setIfInBounds_toArray, List.set_cons_zero, List.set_cons_succ]
    refine held_one (i := 8) (by kernel_rfl) ?_
    refine wpOp_wp (o := ⟨none, _, _, _, _, _⟩) rfl (by kernel_rfl) ?_
    refine wp_store_piece 57 (.tmp 5) (.tmp 12) rfl g5 0 #[.int .i64 e, .string g] #[.int .i64 0, .string ⟨#[]⟩] #[.int .i64 e, .string g] (by first | (simp [Act.eval]; done) | rfl) (by first | (simp [Act.eval]; done) | rfl) 57 R4 (by kernel_rfl) (by show 0 + 2 ≤ 2; omega) (by simp [Value.oneCell']) rfl ?_
    intro w5 R5 t5
    have D5 := D4.far hg5 (fun j hj => (HF3.out j hj).2) HB0.out t5
    refine ⟨⟨D5.own, D5.cmd⟩, ?_⟩
    simp only [Act.put]
    refine wpAnyH_done (by kernel_rfl) ?_ _
    have P5 := Lib.hid (show _ ∧ _ ∧ _ from ⟨D5, R5, hg5⟩)
    clear D1 D2 D4 D5 R2 R4 S0 s2 t2 R5 t5 hg5 hg5e hne
    have q0 : w5.cell? ⟨g5, 0, none⟩ = some (.int .i64 e) := P5.out.2.1.cell 0
    have q1 : w5.cell? ⟨g5, 1, none⟩ = some (.string g) := P5.out.2.1.cell 1
    by_cases h0e : e = 0
    · have c12 : w5.cell? ⟨w.heap.size, 12, none⟩ = some (.int .i64 0) := P5.out.1.cmd.cell 12
      have HG := Lib.hid (HGO.out h0e)
      have HEZ := Lib.hid h0e
      subst h0e
      go_wp2_with fail
      obtain ⟨t, ht⟩ : ∃ t, t = cmdT o 0 := ⟨_, rfl⟩
      have HTX : Hid (∀ V, Calls Tryz.prog 31 #[.agg #[.int .i64 ok, .int .i64 tk, .int .i64 ta, .string tx, .int .i64 tn, .int .i64 lk, .string ls, .string lt, .int .i64 ln, .int .i64 sk, .string ss, .int .i64 sn, .int .i64 0]] V fun en w' => en = .returned (.string t) ∧ Below V.heap.size V w') := Lib.hid fun V => by
        have := ctext_calls o HG.out 0 (by omega) V
        rw [show ((0 : Nat) : Int) = 0 from rfl, HCC.out, ← ht] at this
        exact this
      have HTS : Hid (t.size ≤ 1000000) := Lib.hid (by rw [ht]; have := cmdT_size HG.out (f := 0) (by omega); omega)
      have HT := Lib.hid ht
      clear ht
      obtain ⟨V6, hV6⟩ : ∃ V, V = w5.drew := ⟨_, rfl⟩
      refine wp_region_heldV (fun V => Has V b 53 #[.pointer (some ⟨vb, 0, none⟩), .iface T (pv d), .pointer (some ⟨tb, 0, none⟩), .map (some m)] ∧ Has V w.heap.size 60 #[.int .i64 ok, .int .i64 tk, .int .i64 ta, .string tx, .int .i64 tn, .int .i64 lk, .string ls, .string lt, .int .i64 ln, .int .i64 sk, .string ss, .int .i64 sn, .int .i64 0]) V6 hV6 (by kernel_rfl) ?_
      have D5 := P5.out.1.below (V' := V6) (by rw [hV6]; exact (Below.refl _ _).drew)
      have R5 : Has V6 g5 57 #[.int .i64 0, .string g] := by rw [hV6]; exact P5.out.2.1
      have S0 := And.intro D5.own D5.cmd
      clear hV6 q0 q1 c12
      refine held_take 0 (some 42) (v := .pointer (some ⟨b, 0, none⟩)) rfl rfl (by kernel_rfl) (by kernel_rfl) (by kernel_rfl) (fun _ _ _ h => h) (.inl ⟨by kernel_rfl, fun V hV => by rfl⟩) S0 ?_
      simp only [Act.put, List.setIfInBounds_toArray, List.set_cons_zero, List.set_cons_succ]
      refine held_take 1 (some 43) (v := .pointer (some ⟨b, 0, none⟩)) rfl rfl (by kernel_rfl) (by kernel_rfl) (by kernel_rfl) (fun _ _ _ h => h) (.inl ⟨by kernel_rfl, fun V hV => by go_simp⟩) S0 ?_
      simp only [Act.put, List.setIfInBounds_toArray, List.set_cons_zero, List.set_cons_succ]
      refine held_take 2 (some 44) (v := .pointer (some ⟨b, 0, none⟩)) rfl rfl (by kernel_rfl) (by kernel_rfl) (by kernel_rfl) (fun _ _ _ h => h) (.inl ⟨by kernel_rfl, fun V hV => by go_simp⟩) S0 ?_
      simp only [Act.put, List.setIfInBounds_toArray, List.set_cons_zero, List.set_cons_succ]
      refine held_take 3 (some 45) (v := .pointer (some ⟨vb, 0, none⟩)) rfl rfl (by kernel_rfl) (by kernel_rfl) (by kernel_rfl) (fun _ _ _ h => h) (.inl ⟨by kernel_rfl, fun V hV => by have c2 : V.cell? ⟨b, 0, none⟩ = some (.pointer (some ⟨vb, 0, none⟩)) := hV.1.cell 0; go_simp⟩) S0 ?_
      simp only [Act.put, List.setIfInBounds_toArray, List.set_cons_zero, List.set_cons_succ]
      refine held_take 4 (some 46) (v := .agg #[.int .i64 ok, .int .i64 tk, .int .i64 ta, .string tx, .int .i64 tn, .int .i64 lk, .string ls, .string lt, .int .i64 ln, .int .i64 sk, .string ss, .int .i64 sn, .int .i64 0]) rfl rfl (by kernel_rfl) (by kernel_rfl) (by kernel_rfl) (fun _ _ _ h => h) (.inl ⟨by kernel_rfl, fun V hV => by exact dig.exec_load 60 (.tmp 3) rfl (.pointer (some ⟨w.heap.size, 0, none⟩)) (by kernel_rfl) (run_loadAt_mid V w.heap.size 0 60 [.int .i64 ok, .int .i64 tk, .int .i64 ta, .string tx, .int .i64 tn, .int .i64 lk, .string ls, .string lt, .int .i64 ln, .int .i64 sk, .string ss, .int .i64 sn, .int .i64 0] _ (Has.range hV.2) Tryz.underlying60 rfl (by kernel_rfl))⟩) S0 ?_
      simp only [Act.put, List.setIfInBounds_toArray, List.set_cons_zero, List.set_cons_succ]
      refine held_one (i := 5) (by kernel_rfl) ?_
      refine wpOp_call (some 47) rfl rfl (by kernel_rfl) 31 Tryz.f31 Tryz.func31 (by kernel_rfl) (by kernel_rfl) _ _ rfl #[.agg #[.int .i64 ok, .int .i64 tk, .int .i64 ta, .string tx, .int .i64 tn, .int .i64 lk, .string ls, .string lt, .int .i64 ln, .int .i64 sk, .string ss, .int .i64 sn, .int .i64 0]] (by first | (simp [Act.eval]; done) | (simp [Act.eval, Act.put]; done)) (HTX.out _) ?_
      rintro en w6 ⟨rfl, b6⟩
      have D6 := D5.below b6
      have R6 := R5.below b6 R5.lt
      refine ⟨.string t, rfl, ⟨D6.own, D6.cmd⟩, ?_⟩
      simp only [Act.put, List.setIfInBounds_toArray, List.set_cons_zero, List.set_cons_succ]
      refine held_one (i := 6) (by kernel_rfl) ?_
      obtain ⟨g8, hg8⟩ : ∃ g8, g8 = w6.heap.size := ⟨_, rfl⟩
      refine wpOp_value (some 48) (v := .slice (some ⟨g8, 0, none⟩) 1 1) (w' := w6.alloc (.cells #[.string t] 9)) rfl rfl (by kernel_rfl) (by rw [hg8]; go_simp) ?_
      have b7 : Below w6.heap.size w6 (w6.alloc (.cells #[.string t] 9)) := (Below.refl _ _).alloc (Nat.le_refl _) _
      have D7 := D6.below b7
      have R7 := R6.below b7 R6.lt
      have n7 : Seg (w6.alloc (.cells #[.string t] 9)) 9 1 (.slice (some ⟨g8, 0, none⟩) 1 1) 1 [.string t] := by rw [hg8]; exact Seg.whole (m := 1) (cs := #[.string t]) (heap_alloc_new _ _) rfl (by unfold maxLen; omega)
      have hf1 : ∀ j, F1 j → j < w.heap.size := fun j hj => (HF3.out j (.inr (.inr (.inr (.inl hj))))).2
      have hg8w : w.heap.size < g8 := by rw [hg8]; have := D6.cmd.lt; omega
      refine ⟨⟨D7.own, D7.cmd⟩, ?_⟩
      simp only [Act.put, List.setIfInBounds_toArray, List.set_cons_zero, List.set_cons_succ]
      refine held_one (i := 7) (by kernel_rfl) ?_
      obtain ⟨w7, hw7⟩ : ∃ w7, w7 = w6.alloc (.cells #[.string t] 9) := ⟨_, rfl⟩
      rw [← hw7] at D7 R7 n7 ⊢
      refine wpOp_call (some 49) rfl rfl (by kernel_rfl) 56 Tryz.f56 Tryz.func56 (by kernel_rfl) (by kernel_rfl) _ _ rfl #[.pointer (some ⟨vb, 0, none⟩), .slice (some ⟨g8, 0, none⟩) 1 1] (by first | (simp [Act.eval]; done) | (simp [Act.eval, Act.put]; done)) (D7.va.add (some ⟨g8, 0, none⟩) 1 [t] ⟨n7, fun s hs => by rw [List.mem_singleton.1 hs]; exact HTS.out⟩ (fun x hx e => by have hx2 : g8 = x := (by simpa [Value.ownBlock] using hx); have := hf1 x e; omega) (by rw [texts_len]; have := HC.out; simp; omega)) ?_
      rintro en w8 ⟨rfl, va8, t8⟩
      have hn1 : ∀ j, F1 j → j ≠ w.heap.size + 1 ∧ j ≠ g5 ∧ j ≠ w.heap.size := fun j hj => by have := hf1 j hj; have := P5.out.2.2; omega
      have O8 := D7.own.turn t8 (fun e => (D7.ap.h1 _ e).2.2.1 rfl)
      have C8 := D7.cmd.turn t8 (fun e => (hn1 _ e).2.2 rfl)
      have P8 : Hid (Dz B w b vb tb m (.iface T (pv d)) lo hi ob (texts C ++ [t]) fl l (fun j => F1 j ∨ (w7.heap.size ≤ j ∧ j < w8.heap.size)) F2 (Fp b m lo hi F1 F2) g5 #[.int .i64 0, .string g] w8 ∧ w.heap.size + 1 < w7.heap.size ∧ w7.heap.size ≤ w8.heap.size) := by
        obtain ⟨es, clock, x1, x2⟩ := D7.mp
        have hbl := H1.out.own.lt
        have hml := map_lt H1.out.mp
        have hrg := H2.out.rng.2
        have hwr := D7.res.lt
        have hB := HB0.out
        refine Lib.hid ⟨⟨O8, va8.more (fun j h1 h2 => h2.imp id (fun h => ⟨h, h1⟩)) (fun j hj => ?_), D7.st.turn t8 (fun j a1 a2 e => (D7.ap.h1 j e).2.2.2.2.1 ⟨a1, a2⟩), D7.tw.turn t8 (fun j _ hj e => (D7.ap.h1 j e).2.2.2.2.2 hj), ⟨es, clock, (t8.block m (map_lt D7.mp) (fun e => (D7.ap.h1 _ e).2.2.2.1 rfl)).trans x1, x2⟩, D7.turn.trans t8 (fun j _ e => .inr (.inr (.inr (.inl e)))), D7.res.turn t8 (fun e => (hn1 _ e).1 rfl), R7.turn t8 (fun e => (hn1 _ e).2.1 rfl), ⟨⟨H2.out.rng.1, by have := t8.size; omega⟩, H2.out.hb, fun j hj => ?_, fun j hj => ⟨(H2.out.h2 j hj).1, by have := (H2.out.h2 j hj).2.1; have := t8.size; omega, (H2.out.h2 j hj).2.2⟩, H2.out.ho⟩⟩, hwr, t8.size⟩
        · rcases hj with e | e
          · exact (D7.ap.h1 j e).1
          · omega
        · rcases hj with e | e
          · exact ⟨(H2.out.h1 j e).1, by have := (H2.out.h1 j e).2.1; have := t8.size; omega, (H2.out.h1 j e).2.2⟩
          · exact ⟨by omega, e.2, by omega, by omega, by omega, fun e2 => by have := (H2.out.h2 j e2).2.1; omega⟩
      refine ⟨_, rfl, ⟨O8, C8⟩, ?_⟩
      simp only [Act.put, List.setIfInBounds_toArray, List.set_cons_zero, List.set_cons_succ]
      refine wpAnyH_done (by kernel_rfl) ?_ _
      clear D5 D6 D7 R5 R6 R7 b6 b7 n7 va8 t8 O8 C8 hg8 hg8w hw7
      clear S0
      have P9 := Lib.hid P5.out.2.2
      clear P5
      obtain ⟨nn, hnn⟩ : ∃ nn, nn = C.length + 1 := ⟨_, rfl⟩
      have HLN : Hid (Calls Tryz.prog 15 #[.pointer (some ⟨vb, 0, none⟩)] w8 fun en w' => en = .returned (.int .i64 nn) ∧ w8 = w') := Lib.hid (by
        have := P8.out.1.va.len_calls
        rw [List.length_append, texts_len, List.length_singleton, ← hnn] at this
        exact this)
      have HNN := Lib.hid hnn
      have c80 : w8.cell? ⟨b, 0, none⟩ = some (.pointer (some ⟨vb, 0, none⟩)) := P8.out.1.own.cell 0
      have q0 : w8.cell? ⟨g5, 0, none⟩ = some (.int .i64 0) := P8.out.1.r5.cell 0
      have q1 : w8.cell? ⟨g5, 1, none⟩ = some (.string g) := P8.out.1.r5.cell 1
      have HCN : Hid (Did k (C ++ [(⟨o, 0⟩ : Cm)]) ∧ ob.Like (fold k (C ++ [(⟨o, 0⟩ : Cm)]) (C ++ [(⟨o, 0⟩ : Cm)]).length) ∧ texts C ++ [t] = texts (C ++ [(⟨o, 0⟩ : Cm)])) := Lib.hid ⟨H1.out.did.snoc (c := ⟨o, 0⟩) HG.out HE.out.1.symm (show (0 : Nat) < 1000000000 by omega), by
        have e : (C ++ [(⟨o, 0⟩ : Cm)])[C.length]? = some ⟨o, 0⟩ := by simp
        have e2 := fold_succ (k := k) e
        rw [List.length_append, List.length_singleton, e2, fold_app (Nat.le_refl _)]
        exact HLK.out, by rw [texts_app, HT.out]; rfl⟩
      clear hnn
      by_cases h4 : nn % 4 = 0
      · have hr1 : (nn : Int).tmod 4 = 0 := (show (nn : Int).tmod 4 = ((nn % 4 : Nat) : Int) from rfl).trans (by rw [h4]; rfl)
        have hr2 : (nn : Int) % 4 = 0 := by omega
        have H4 := Lib.hid h4
        clear h4
        go_wp2_with fail
        refine HLN.out.mono ?_
        rintro en wx ⟨rfl, rfl⟩
        go_wp2_with fail
        obtain ⟨V8, hV8⟩ : ∃ V, V = w8.drew := ⟨_, rfl⟩
        refine wp_region_heldV (fun V => Has V b 53 #[.pointer (some ⟨vb, 0, none⟩), .iface T (pv d), .pointer (some ⟨tb, 0, none⟩), .map (some m)]) V8 hV8 (by kernel_rfl) ?_
        have Z8 := P8.out.1.below (V' := V8) (by rw [hV8]; exact (Below.refl _ _).drew)
        have hz8 : V8.heap.size = w8.heap.size := by rw [hV8]; rfl
        have S0 := Z8.own
        clear hV8 c80 q0 q1
        refine held_take 0 (some 57) (v := .pointer (some ⟨b, 0, none⟩)) rfl rfl (by kernel_rfl) (by kernel_rfl) (by kernel_rfl) (fun _ _ _ h => h) (.inl ⟨by kernel_rfl, fun V hV => by rfl⟩) S0 ?_
        simp only [Act.put, List.setIfInBounds_toArray, List.set_cons_zero, List.set_cons_succ]
        refine held_take 1 (some 58) (v := .pointer (some ⟨b, 0, none⟩)) rfl rfl (by kernel_rfl) (by kernel_rfl) (by kernel_rfl) (fun _ _ _ h => h) (.inl ⟨by kernel_rfl, fun V hV => by go_simp⟩) S0 ?_
        simp only [Act.put, List.setIfInBounds_toArray, List.set_cons_zero, List.set_cons_succ]
        refine held_take 2 (some 59) (v := .pointer (some ⟨b, 2, none⟩)) rfl rfl (by kernel_rfl) (by kernel_rfl) (by kernel_rfl) (fun _ _ _ h => h) (.inl ⟨by kernel_rfl, fun V hV => by go_simp⟩) S0 ?_
        simp only [Act.put, List.setIfInBounds_toArray, List.set_cons_zero, List.set_cons_succ]
        refine held_take 3 (some 60) (v := .pointer (some ⟨tb, 0, none⟩)) rfl rfl (by kernel_rfl) (by kernel_rfl) (by kernel_rfl) (fun _ _ _ h => h) (.inl ⟨by kernel_rfl, fun V hV => by have c2 : V.cell? ⟨b, 2, none⟩ = some (.pointer (some ⟨tb, 0, none⟩)) := hV.cell 2; go_simp⟩) S0 ?_
        simp only [Act.put, List.setIfInBounds_toArray, List.set_cons_zero, List.set_cons_succ]
        refine held_take 4 (some 61) (v := .pointer (some ⟨b, 0, none⟩)) rfl rfl (by kernel_rfl) (by kernel_rfl) (by kernel_rfl) (fun _ _ _ h => h) (.inl ⟨by kernel_rfl, fun V hV => by rfl⟩) S0 ?_
        simp only [Act.put, List.setIfInBounds_toArray, List.set_cons_zero, List.set_cons_succ]
        refine held_take 5 (some 62) (v := .pointer (some ⟨b, 0, none⟩)) rfl rfl (by kernel_rfl) (by kernel_rfl) (by kernel_rfl) (fun _ _ _ h => h) (.inl ⟨by kernel_rfl, fun V hV => by go_simp⟩) S0 ?_
        simp only [Act.put, List.setIfInBounds_toArray, List.set_cons_zero, List.set_cons_succ]
        refine held_take 6 (some 63) (v := .pointer (some ⟨b, 0, none⟩)) rfl rfl (by kernel_rfl) (by kernel_rfl) (by kernel_rfl) (fun _ _ _ h => h) (.inl ⟨by kernel_rfl, fun V hV => by go_simp⟩) S0 ?_
        simp only [Act.put, List.setIfInBounds_toArray, List.set_cons_zero, List.set_cons_succ]
        refine held_take 7 (some 64) (v := .pointer (some ⟨vb, 0, none⟩)) rfl rfl (by kernel_rfl) (by kernel_rfl) (by kernel_rfl) (fun _ _ _ h => h) (.inl ⟨by kernel_rfl, fun V hV => by have c2 : V.cell? ⟨b, 0, none⟩ = some (.pointer (some ⟨vb, 0, none⟩)) := hV.cell 0; go_simp⟩) S0 ?_
        simp only [Act.put, List.setIfInBounds_toArray, List.set_cons_zero, List.set_cons_succ]
        refine held_take 9 (some 66) (v := .pointer (some ⟨b, 0, none⟩)) rfl rfl (by kernel_rfl) (by kernel_rfl) (by kernel_rfl) (fun _ _ _ h => h) (.inl ⟨by kernel_rfl, fun V hV => by rfl⟩) S0 ?_
        simp only [Act.put, List.setIfInBounds_toArray, List.set_cons_zero, List.set_cons_succ]
        refine held_one (i := 8) (by kernel_rfl) ?_
        refine wpOp_call (some 65) rfl rfl (by kernel_rfl) 15 Tryz.f15 Tryz.func15 (by kernel_rfl) (by kernel_rfl) _ _ rfl #[.pointer (some ⟨vb, 0, none⟩)] (by first | (simp [Act.eval]; done) | (simp [Act.eval, Act.put]; done)) ((by have := Z8.va.len_calls; rw [List.length_append, texts_len, List.length_singleton, ← HNN.out] at this; exact this)) ?_
        rintro en w9 ⟨rfl, rfl⟩
        refine ⟨.int .i64 nn, rfl, S0, ?_⟩
        simp only [Act.put, List.setIfInBounds_toArray, List.set_cons_zero, List.set_cons_succ]
        refine held_one (i := 10) (by kernel_rfl) ?_
        refine wpOp_call (some 67) rfl rfl (by kernel_rfl) 25 Tryz.f25 Tryz.func25 (by kernel_rfl) (by kernel_rfl) _ _ rfl #[.pointer (some ⟨b, 0, none⟩)] (by first | (simp [Act.eval]; done) | (simp [Act.eval, Act.put]; done)) (save_parts (Z8.own.cell 1) Z8.st) ?_
        rintro en w10 ⟨rfl, b10⟩
        have Z10 := Z8.below b10
        have hz10 := b10.size
        refine ⟨.string ob.save, rfl, Z10.own, ?_⟩
        simp only [Act.put, List.setIfInBounds_toArray, List.set_cons_zero, List.set_cons_succ]
        refine held_one (i := 11) (by kernel_rfl) ?_
        refine wpOp_call (some 68) rfl rfl (by kernel_rfl) 41 Tryz.f41 Tryz.func41 (by kernel_rfl) (by kernel_rfl) _ _ rfl #[.pointer (some ⟨tb, 0, none⟩), .int .i64 nn, .string ob.save] (by first | (simp [Act.eval]; done) | (simp [Act.eval, Act.put]; done)) (Z10.tw.put_calls (tz_of Z10.va.rt) nn ob.save (by have := H1.out.marks.len H1.out.tw.sorted; have := HC.out; omega) (by have := HNN.out; have := HC.out; omega)) ?_
        rintro en w11 ⟨was, rfl, _, tw11, t11⟩
        have O11 := Z10.own.turn t11 (fun e => (Z10.ap.h2 _ e).2.2.1 rfl)
        have hf2 : ∀ j, F2 j → j < w.heap.size := fun j hj => (HF3.out j (.inr (.inr (.inr (.inr hj))))).2
        have P11 : Hid (Dz B w b vb tb m (.iface T (pv d)) lo hi ob (texts C ++ [t]) fl (insK nn ob.save l) (fun j => F1 j ∨ (w7.heap.size ≤ j ∧ j < w8.heap.size)) (fun j => F2 j ∨ (w10.heap.size ≤ j ∧ j < w11.heap.size)) (Fp b m lo hi F1 F2) g5 #[.int .i64 0, .string g] w11 ∧ w.heap.size + 1 < w7.heap.size ∧ w7.heap.size ≤ w8.heap.size ∧ w8.heap.size ≤ w10.heap.size) := by
          obtain ⟨es, clock, x1, x2⟩ := Z10.mp
          have hbl := H1.out.own.lt
          have hml := map_lt H1.out.mp
          have hrg := H2.out.rng.2
          have hP := P8.out.2
          have hB := HB0.out
          have h5 := P9.out
          refine Lib.hid ⟨⟨O11, Z10.va.turn t11 (fun j hj _ e => (Z10.ap.h1 j hj).2.2.2.2.2 e) (fun j e => (Z10.ap.h2 j e).1), Z10.st.turn t11 (fun j a1 a2 e => (Z10.ap.h2 j e).2.2.2.2 ⟨a1, a2⟩), tw11.more (fun j h1 h2 => h2.imp id (fun h => ⟨h, h1⟩)), ⟨es, clock, (t11.block m (map_lt Z10.mp) (fun e => (Z10.ap.h2 _ e).2.2.2.1 rfl)).trans x1, x2⟩, Z10.turn.trans t11 (fun j _ e => .inr (.inr (.inr (.inr e)))), Z10.res.turn t11 (fun e => by have := hf2 _ e; omega), Z10.r5.turn t11 (fun e => by have := hf2 _ e; omega), ⟨⟨H2.out.rng.1, by have := t11.size; omega⟩, H2.out.hb, fun j hj => ⟨(Z10.ap.h1 j hj).1, by have := (Z10.ap.h1 j hj).2.1; have := t11.size; omega, (Z10.ap.h1 j hj).2.2.1, (Z10.ap.h1 j hj).2.2.2.1, (Z10.ap.h1 j hj).2.2.2.2.1, fun e => ?_⟩, fun j hj => ?_, H2.out.ho⟩⟩, hP.1, hP.2, by omega⟩
          · rcases e with e | e
            · exact (Z10.ap.h1 j hj).2.2.2.2.2 e
            · have := (Z10.ap.h1 j hj).2.1; omega
          · rcases hj with e | e
            · exact ⟨(Z10.ap.h2 j e).1, by have := (Z10.ap.h2 j e).2.1; have := t11.size; omega, (Z10.ap.h2 j e).2.2⟩
            · exact ⟨by omega, e.2, by omega, by omega, by omega⟩
        have HMK : Hid (Marks k (C ++ [(⟨o, 0⟩ : Cm)]) fl (insK nn ob.save l)) := Lib.hid (by
          have h := marks_put (c := ⟨o, 0⟩) H1.out.marks H1.out.tw.sorted H1.out.fln (by rw [← HNN.out]; exact H4.out)
          have hsv := HCN.out.2.1.save
          rw [List.length_append, List.length_singleton] at hsv
          rw [hsv, HNN.out, Int.natCast_add]
          exact h)
        clear Z8 Z10 tw11 t11 b10 hf2 hz8 hz10
        refine ⟨.bool was, rfl, O11, ?_⟩
        simp only [Act.put, List.setIfInBounds_toArray, List.set_cons_zero, List.set_cons_succ]
        refine wpAnyH_done (by kernel_rfl) ?_ _
        have q0 : w11.cell? ⟨g5, 0, none⟩ = some (.int .i64 0) := P11.out.1.r5.cell 0
        have q1 : w11.cell? ⟨g5, 1, none⟩ = some (.string g) := P11.out.1.r5.cell 1
        clear S0
        go_wp2_with (first
          | ((with_reducible refine at_store (.tmp 4) ?_); refine wpList_store_all (o := ⟨none, _, _, _, _, _⟩) rfl 57 (.tmp 4) (.tmp 69) rfl (w.heap.size + 1) #[.int .i64 0, .string g] #[.int .i64 0, .string ⟨#[]⟩] rfl rfl _ P11.out.1.res (by kernel_rfl) rfl (by simp [Value.oneCell']) ?_; intro Wb HWb TWb)
          | fail)
        refine bodyPost_ret (v := rv 0 g) (results_cell_row rfl _ _ (w.heap.size + 1) 57 _ _ _ rfl HWb Tryz.underlying57 rfl (by kernel_rfl)) rfl ?_
        refine .inl ⟨HE.out.1.symm, by rw [← HE.out.2], ?_, ?_⟩
        · have D := P11.out.1
          have hx := P11.out.2
          have hn : ∀ j, Fp b m lo hi (fun j => F1 j ∨ (w7.heap.size ≤ j ∧ j < w8.heap.size)) (fun j => F2 j ∨ (w10.heap.size ≤ j ∧ j < w11.heap.size)) j → j ≠ w.heap.size + 1 := fun j hj e => by
            have h0 := fun h => (HF3.out j h).2
            rcases hj with h | h | h | (h | h) | (h | h)
            · have := h0 (.inl h); omega
            · have := h0 (.inr (.inl h)); omega
            · have := h0 (.inr (.inr (.inl h))); omega
            · have := h0 (.inr (.inr (.inr (.inl h)))); omega
            · omega
            · have := h0 (.inr (.inr (.inr (.inr h)))); omega
            · omega
          obtain ⟨es, clock, x1, x2⟩ := D.mp
          refine ⟨vb, tb, m, .iface T (pv d), lo, hi, ob, (insK nn ob.save l), (fun j => F1 j ∨ (w7.heap.size ≤ j ∧ j < w8.heap.size)), (fun j => F2 j ∨ (w10.heap.size ≤ j ∧ j < w11.heap.size)), ⟨D.own.turn TWb (hn b (.inl rfl)), by rw [← HCN.out.2.2]; exact D.va.turn TWb (fun j hj _ => hn j (.inr (.inr (.inr (.inl hj))))) (fun j e => by have := HB0.out; omega), D.st.turn TWb (fun j a1 a2 => hn j (.inr (.inr (.inl ⟨a1, a2⟩)))), HCN.out.2.1, D.tw.turn TWb (fun j _ hj => hn j (.inr (.inr (.inr (.inr hj))))), ⟨es, clock, (TWb.block m (map_lt D.mp) (hn m (.inr (.inl rfl)))).trans x1, x2⟩, HCN.out.1, H1.out.kk, HMK.out, by have := H1.out.fln; rw [List.length_append]; omega⟩, D.ap.turn TWb.size, fun j hj => ?_⟩
          rcases hj with h | h | h | (h | h) | (h | h)
          · exact .inl (HF3.out j (.inl h)).1
          · exact .inl (HF3.out j (.inr (.inl h))).1
          · exact .inl (HF3.out j (.inr (.inr (.inl h)))).1
          · exact .inl (HF3.out j (.inr (.inr (.inr (.inl h))))).1
          · exact .inr (by omega)
          · exact .inl (HF3.out j (.inr (.inr (.inr (.inr h))))).1
          · exact .inr (by omega)
        · exact (P11.out.1.turn.trans TWb (fun j hj e => by omega)).more (fun j _ hj => (HF3.out j hj).1)
      · obtain ⟨r, hr⟩ : ∃ r, r = nn % 4 := ⟨_, rfl⟩
        have hr1 : (nn : Int).tmod 4 = (r : Int) := by rw [hr]; rfl
        have hr2 : (nn : Int) % 4 = (r : Int) := by omega
        have hr3 : ((r : Int) == 0) = false := by simp; omega
        have hr4 : ¬ (r : Int) = 0 := by omega
        have H4 := Lib.hid h4
        clear h4 hr
        go_wp2_with fail
        refine HLN.out.mono ?_
        rintro en wx ⟨rfl, rfl⟩
        go_wp2_with (first
          | ((with_reducible refine at_store (.tmp 4) ?_); refine wpList_store_all (o := ⟨none, _, _, _, _, _⟩) rfl 57 (.tmp 4) (.tmp 69) rfl (w.heap.size + 1) #[.int .i64 0, .string g] #[.int .i64 0, .string ⟨#[]⟩] rfl rfl _ P8.out.1.res (by kernel_rfl) rfl (by simp [Value.oneCell']) ?_; intro Wb HWb TWb)
          | fail)
        refine bodyPost_ret (v := rv 0 g) (results_cell_row rfl _ _ (w.heap.size + 1) 57 _ _ _ rfl HWb Tryz.underlying57 rfl (by kernel_rfl)) rfl ?_
        refine .inl ⟨HE.out.1.symm, by rw [← HE.out.2], ?_, ?_⟩
        · have D := P8.out.1
          have hx := P8.out.2
          have hn : ∀ j, Fp b m lo hi (fun j => F1 j ∨ (w7.heap.size ≤ j ∧ j < w8.heap.size)) F2 j → j ≠ w.heap.size + 1 := fun j hj e => by
            have h0 := fun h => (HF3.out j h).2
            rcases hj with h | h | h | (h | h) | h
            · have := h0 (.inl h); omega
            · have := h0 (.inr (.inl h)); omega
            · have := h0 (.inr (.inr (.inl h))); omega
            · have := h0 (.inr (.inr (.inr (.inl h)))); omega
            · omega
            · have := h0 (.inr (.inr (.inr (.inr h)))); omega
          obtain ⟨es, clock, x1, x2⟩ := D.mp
          refine ⟨vb, tb, m, .iface T (pv d), lo, hi, ob, l, (fun j => F1 j ∨ (w7.heap.size ≤ j ∧ j < w8.heap.size)), F2, ⟨D.own.turn TWb (hn b (.inl rfl)), by rw [← HCN.out.2.2]; exact D.va.turn TWb (fun j hj _ => hn j (.inr (.inr (.inr (.inl hj))))) (fun j e => by have := HB0.out; omega), D.st.turn TWb (fun j a1 a2 => hn j (.inr (.inr (.inl ⟨a1, a2⟩)))), HCN.out.2.1, D.tw.turn TWb (fun j _ hj => hn j (.inr (.inr (.inr (.inr hj))))), ⟨es, clock, (TWb.block m (map_lt D.mp) (hn m (.inr (.inl rfl)))).trans x1, x2⟩, HCN.out.1, H1.out.kk, marks_more H1.out.marks H1.out.fln (by rw [← HNN.out]; exact H4.out), by have := H1.out.fln; rw [List.length_append]; omega⟩, D.ap.turn TWb.size, fun j hj => ?_⟩
          rcases hj with h | h | h | (h | h) | h
          · exact .inl (HF3.out j (.inl h)).1
          · exact .inl (HF3.out j (.inr (.inl h))).1
          · exact .inl (HF3.out j (.inr (.inr (.inl h)))).1
          · exact .inl (HF3.out j (.inr (.inr (.inr (.inl h))))).1
          · exact .inr (by omega)
          · exact .inl (HF3.out j (.inr (.inr (.inr (.inr h))))).1
        · exact (P8.out.1.turn.trans TWb (fun j hj e => by omega)).more (fun j _ hj => (HF3.out j hj).1)
    · have hb : (e != 0) = true := by simpa using h0e
      have HEZ := Lib.hid h0e
      clear h0e
      go_wp2_with (first
        | ((with_reducible refine at_store (.tmp 4) ?_); refine wpList_store_all (o := ⟨none, _, _, _, _, _⟩) rfl 57 (.tmp 4) (.tmp 16) rfl (w.heap.size + 1) #[.int .i64 e, .string g] #[.int .i64 0, .string ⟨#[]⟩] rfl rfl _ P5.out.1.res (by kernel_rfl) rfl (by simp [Value.oneCell']) ?_; intro Wb HWb TWb)
        | fail)
      refine bodyPost_ret (v := rv e g) (results_cell_row rfl _ _ (w.heap.size + 1) 57 _ _ _ rfl HWb Tryz.underlying57 rfl (by kernel_rfl)) rfl ?_
      refine .inr ⟨by rw [← HE.out.1]; exact HEZ.out, by rw [← HE.out.1, ← HE.out.2], ?_, ?_⟩
      · have D := P5.out.1
        have hn : ∀ j, Fp b m lo hi F1 F2 j → j ≠ w.heap.size + 1 := fun j hj e => by have := (HF3.out j hj).2; omega
        obtain ⟨es, clock, x1, x2⟩ := D.mp
        refine ⟨vb, tb, m, .iface T (pv d), lo, hi, ob, l, F1, F2, ⟨D.own.turn TWb (hn b (.inl rfl)), D.va.turn TWb (fun j hj _ => hn j (.inr (.inr (.inr (.inl hj))))) (fun j e => by have := HB0.out; omega), D.st.turn TWb (fun j a1 a2 => hn j (.inr (.inr (.inl ⟨a1, a2⟩)))), ?_, D.tw.turn TWb (fun j _ hj => hn j (.inr (.inr (.inr (.inr hj))))), ⟨es, clock, (TWb.block m (map_lt D.mp) (hn m (.inr (.inl rfl)))).trans x1, x2⟩, H1.out.did, H1.out.kk, H1.out.marks, H1.out.fln⟩, D.ap.turn TWb.size, fun j hj => (HF3.out j hj).1⟩
        have := HLK.out
        rw [act_stays (by rw [← HE.out.1]; exact HEZ.out)] at this
        exact this
      · exact (P5.out.1.turn.trans TWb (fun j hj e => by omega)).more (fun j _ hj => (HF3.out j hj).1)
end
end Go.Proofs.YtcdedkgkingbdaaGreatDoor.rep
