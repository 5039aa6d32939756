/- ObjectKinds: for every number, every list of ops and every op the law answers true, and its arguments read afterwards as they did. Conditions: none. -/
import Derived.Test.YtndnjeahepahkaaY007
import Derived.Test.YtndnjeahepahkaaYStoR
import Derived.Lib.ItoaWalk
namespace Go.Proofs.Ytndnjeahepahkaa.object.objectKinds
open Go.ChangeShapes Go.WideShapes Go.ChangeAt Go.RowKit Go.Maps Go.Sort

/-- What lasts from round to round: the object, and the argument's box. -/
structure Lk (w : World) (v : Value) (lo hi q : Nat) (K : Int) (x : Ob) (cs : Array Value) (w' : World) : Prop where
  st : St w' v lo hi x
  kd : x.kd = K
  plo : w.heap.size < lo
  phi : hi ≤ w'.heap.size
  pq : q = w.heap.size
  box : Has w' q 35 cs
  turn : Turn (fun j => w.heap.size ≤ j) w w'

theorem Lk.more {w w' w2 : World} {v : Value} {lo hi q : Nat} {K : Int} {x : Ob} {cs : Array Value} (h : Lk w v lo hi q K x cs w') (b : Below w'.heap.size w' w2) : Lk w v lo hi q K x cs w2 :=
  ⟨h.st.below b h.phi, h.kd, h.plo, Nat.le_trans h.phi b.size, h.pq, h.box.below b h.box.lt,
    h.turn.trans (Turn.of_below b (F := fun j => w'.heap.size ≤ j) (fun _ _ e => e)) (fun _ _ e => Nat.le_trans h.turn.size e)⟩

theorem Lk.did {w w' w2 : World} {v : Value} {lo hi q : Nat} {K : Int} {x y : Ob} {cs : Array Value} (h : Lk w v lo hi q K x cs w') (s : St w2 v lo hi y) (hk : y.kd = K)
    (t : Turn (fun j => lo ≤ j ∧ j < hi) w' w2) : Lk w v lo hi q K y cs w2 :=
  ⟨s, hk, h.plo, Nat.le_trans h.phi t.size, h.pq, Has.turn h.box t (fun e => by have := h.plo; have := h.pq; omega),
    h.turn.trans t (fun j _ e => by have := h.plo; omega)⟩

theorem Lk.put {w w' : World} {v : Value} {lo hi q : Nat} {K : Int} {x : Ob} {cs cs2 : Array Value} (h : Lk w v lo hi q K x cs w') (i : Nat) (u : Value) (e : cs.setIfInBounds i u = cs2) : Lk w v lo hi q K x cs2 (w'.setCell ⟨q, i, none⟩ u) :=
  ⟨h.st.turn (Turn.put (F := fun j => j = q) (Turn.refl _ _) (fun _ => rfl) i u) (fun j h1 _ e => by have := h.plo; have := h.pq; omega), h.kd, h.plo, by have := h.phi; simpa [World.setCell] using this, h.pq, set12 h.box i u e,
    h.turn.put (fun e => by have := h.pq; omega) i u⟩

theorem Lk.stored {w w' w2 : World} {v : Value} {lo hi q : Nat} {K : Int} {x : Ob} {cs cs2 : Array Value} (h : Lk w v lo hi q K x cs w') (b : Has w2 q 35 cs2) (t : Turn (fun j => j = q) w' w2) : Lk w v lo hi q K x cs2 w2 :=
  ⟨h.st.turn t (fun _ h1 _ e => by have := h.plo; have := h.pq; omega), h.kd, h.plo, Nat.le_trans h.phi t.size, h.pq, b, h.turn.trans t (fun j _ e => by have := h.pq; omega)⟩

theorem saveB_none {D : DataW Unit} (h : namesD D = []) : saveB D = ⟨#[0]⟩ := by
  unfold saveB saveL
  rw [h, List.length_nil, List.flatMap_nil, List.append_nil, enc_small 0 (by decide)]
  rfl
theorem first_save {K : Int} (h : K = 1 ∨ K = 2 ∨ K = 3) : (first K).save = ⟨#[0]⟩ := by
  rcases h with rfl | rfl | rfl
  · show text.encT ⟨#[]⟩ = _
    unfold text.encT
    rw [enc_small _ (by decide)]
    rfl
  · refine saveB_none ?_
    refine List.eq_nil_iff_forall_not_mem.2 fun x hx => ?_
    obtain ⟨h1, h2⟩ := (mem_namesD invF_new.good x).1 hx
    rw [d0_in] at h2
    by_cases e : (⟨x.toArray⟩ : ByteArray) = ⟨#[]⟩
    · exact h1 (by have := congrArg (fun b : ByteArray => b.data.toList) e; simpa using this)
    · rw [if_neg e] at h2; cases h2
  · refine saveB_none ?_
    refine List.eq_nil_iff_forall_not_mem.2 fun x hx => ?_
    obtain ⟨h1, h2⟩ := (mem_namesD stock.invS_new.good x).1 hx
    exact absurd (show false = true from h2) (by decide)

theorem act_kd (x : Ob) (o : OpO) : (x.act o).1.kd = x.kd := by
  unfold Ob.act
  split
  · cases x <;> rfl
  · rfl

set_option maxRecDepth 100000 in
set_option maxHeartbeats 4000000 in
theorem kinds_any (n : Int) (a : Option Addr) (len cap : Nat) (o : OpO) (w : World) (hA : ArgO w a len) (ho : o.Fits) :
    Calls Try.prog 5 #[.int .i64 n, .slice a len cap, .agg o.cells] w fun en w' => en = .returned (.bool true) ∧ Below w.heap.size w w' := by
  have HA := Lib.hid hA
  have HO := Lib.hid ho
  obtain ⟨cs, ecs⟩ : ∃ cs, cs = o.cells := ⟨_, rfl⟩
  have HCS := Lib.hid ecs
  have HSZ : Hid (len ≤ maxLen) := Lib.hid hA.1
  rw [← ecs]
  clear hA ho ecs
  go_enter Try.func5, Try.ntmps5
  go_wp2_with fail
  refine callsName (fun W hW => ?_)
  obtain ⟨q, eq⟩ : ∃ q, q = w.heap.size := ⟨_, rfl⟩
  have HB : Hid (Has W q 35 cs) := by show Has _ _ _ _; rw [← hW, eq]; exact Has.made _ _ _
  have T0 : Hid (Turn (fun j => w.heap.size ≤ j) w W) := by show Turn _ _ _; rw [← hW]; exact (Turn.refl _ _).alloc _
  have HQ := Lib.hid eq
  rw [← eq]
  clear hW eq
  refine (oawake_any W).mono ?_
  rintro en w1 ⟨rfl, b1⟩
  have T1 : Hid (Turn (fun j => w.heap.size ≤ j) w w1) := T0.out.trans (Turn.of_below b1 (F := fun j => W.heap.size ≤ j) (fun _ _ e => e)) (fun j _ e => Nat.le_trans T0.out.size e)
  have HB1 := Lib.hid (HB.out.below b1 HB.out.lt)
  clear b1 T0 HB
  go_wp2_with fail
  refine (lkind_calls n w1).mono ?_
  have hK := kind_of n
  generalize 1 + (n.tmod 3 + 3).tmod 3 = K at *
  have HK := Lib.hid hK
  clear hK
  rintro en w2 ⟨rfl, rfl⟩
  go_wp2_with fail
  refine (onew_calls K w1 HK.out).mono ?_
  rintro en w2 ⟨v, rfl, st, b2⟩
  obtain ⟨lo, elo⟩ : ∃ lo, lo = w1.heap.size := ⟨_, rfl⟩
  obtain ⟨hi, ehi⟩ : ∃ hi, hi = w2.heap.size := ⟨_, rfl⟩
  have L0 : Hid (∃ x, Lk w v lo hi q K x cs w2) := by
    refine ⟨first K, ?_⟩
    subst elo ehi
    refine ⟨st, ?_, ?_, Nat.le_refl _, HQ.out, HB1.out.below b2 HB1.out.lt, T1.out.trans (Turn.of_below b2 (F := fun j => w1.heap.size ≤ j) (fun _ _ e => e)) (fun j _ e => Nat.le_trans T1.out.size e)⟩
    · rcases HK.out with rfl | rfl | rfl <;> rfl
    · rw [← HQ.out]; exact HB1.out.lt
  clear st b2 elo ehi T1 HB1
  go_wp2_with fail
  go_loopw [8] (fun i wr => ∃ (k : Nat) (x : Ob), i = .int .i64 k ∧ k ≤ 10 ∧ k ≤ len ∧ Hid (Lk w v lo hi q K x cs wr)) (fun i _ => 10 - (intOf i).toNat)
  case atStart => obtain ⟨x, hx⟩ := L0; exact ⟨0, x, rfl, by omega, Nat.zero_le _, hx⟩
  case round =>
    obtain ⟨k, x, rfl, hk10, hkl, HD⟩ := hrel
    clear L0
    by_cases hk : k < len ∧ k < 10
    · obtain ⟨hk1, hk2⟩ := hk
      have hk1' : (k : Int) < (len : Int) := by omega
      have hk2' : (k : Int) < 10 := by omega
      have hk0' : (0 : Int) ≤ (k : Int) := by omega
      obtain ⟨T, d, fK, fD, fC, fS, F⟩ := face_of HD.out.st
      obtain rfl := F.is
      have NA := Lib.hid (na_any HD.out.st rfl)
      have HF := Lib.hid F
      clear F
      obtain ⟨b, p, rfl, hb, op, hop, hc⟩ := HA.out.2 k hk1
      have hbr : b < wr.heap.size := Nat.lt_of_lt_of_le hb HD.out.turn.size
      obtain ⟨S, eS⟩ : ∃ S : World → Prop, S = fun V => ∀ j u, op.cells[j]? = some u → V.cell? ⟨b, p + k * 12 + j, none⟩ = some u := ⟨_, rfl⟩
      have HS0 : S wr := by rw [eS]; exact fun j u hu => (Turn.cell HD.out.turn (p := ⟨b, p + k * 12 + j, none⟩) hb (fun h3 => Nat.not_lt_of_le h3 hb)).trans (hc j u hu)
      have HES := Lib.hid eS
      have HOP := Lib.hid hop
      clear eS hop hc
      go_wp2_with fail
      have HS1 : S wr.drew := by rw [HES.out] at HS0 ⊢; exact HS0
      have HD1 := Lib.hid (HD.out.more (w2 := wr.drew) ⟨rfl, rfl, rfl, Nat.le_refl _, fun _ _ => rfl⟩)
      clear HD HS0
      refine wp_region_held (S := S) (by kernel_rfl) ?_
      refine held_take 0 (some 27) (v := .iface T (pv d)) rfl rfl (by kernel_rfl) (by kernel_rfl) (by kernel_rfl) (fun _ _ _ h => h) (.inl ⟨by kernel_rfl, fun _ _ => rfl⟩) HS1 ?_
      refine held_take 1 (some 28) (v := .slice (some ⟨b, p, none⟩) len cap) rfl rfl (by kernel_rfl) (by kernel_rfl) (by kernel_rfl) (fun _ _ _ h => h) (.inl ⟨by kernel_rfl, fun _ _ => rfl⟩) HS1 ?_
      refine held_take 2 (some 29) (v := .int .i64 k) rfl rfl (by kernel_rfl) (by kernel_rfl) (by kernel_rfl) (fun _ _ _ h => h) (.inl ⟨by kernel_rfl, fun _ _ => rfl⟩) HS1 ?_
      refine held_take 3 (some 30) (v := .pointer (some ⟨b, p + k * 12, none⟩)) rfl rfl (by kernel_rfl) (by kernel_rfl) (by kernel_rfl) (fun _ _ _ h => h) (.inl ⟨by kernel_rfl, fun V _ => by go_simp⟩) HS1 ?_
      refine held_take 4 (some 31) (v := .agg op.cells) rfl rfl (by kernel_rfl) (by kernel_rfl) (by kernel_rfl) (fun _ _ _ h => h) (.inl ⟨by kernel_rfl, fun V hV => by rw [HES.out] at hV; have z0 := hV 0 _ rfl; have z1 := hV 1 _ rfl; have z2 := hV 2 _ rfl; have z3 := hV 3 _ rfl; have z4 := hV 4 _ rfl; have z5 := hV 5 _ rfl; have z6 := hV 6 _ rfl; have z7 := hV 7 _ rfl; have z8 := hV 8 _ rfl; have z9 := hV 9 _ rfl; have z10 := hV 10 _ rfl; have z11 := hV 11 _ rfl; unfold OpO.cells; clear hV; simp only [Nat.add_zero] at z0; go_simp; exact ⟨rfl, rfl, rfl, rfl, rfl, rfl, rfl, rfl, rfl, rfl, rfl, rfl⟩⟩) HS1 ?_
      simp only [Act.put, List.setIfInBounds_toArray, List.set_cons_zero, List.set_cons_succ]
      refine held_take 6 (some 33) (v := .func (.method "Do") #[.iface T (pv d)] #[]) rfl rfl (by kernel_rfl) (by kernel_rfl) (by kernel_rfl) (fun _ _ _ h => h) (.inl ⟨by kernel_rfl, fun V _ => by have hmf : ∀ fn first cap w, (Instr.makeFunc fn first cap).run Try.prog w = .ok (.func fn first cap) w := (fun _ _ _ _ => rfl); go_simp⟩) HS1 ?_
      refine held_take 7 (some 34) (v := .func (.method "Do") #[.iface T (pv d)] #[]) rfl rfl (by kernel_rfl) (by kernel_rfl) (by kernel_rfl) (fun _ _ _ h => h) (.inl ⟨by kernel_rfl, fun V _ => by have hn := NA.out; go_simp⟩) HS1 ?_
      refine held_take 8 (some 35) (v := .iface T (pv d)) rfl rfl (by kernel_rfl) (by kernel_rfl) (by kernel_rfl) (fun _ _ _ h => h) (.inl ⟨by kernel_rfl, fun _ _ => rfl⟩) HS1 ?_
      simp only [Act.put, List.setIfInBounds_toArray, List.set_cons_zero, List.set_cons_succ]
      refine held_one (i := 5) (by kernel_rfl) ?_
      refine wpOp_call (some 32) rfl rfl (by kernel_rfl) 9 Try.f9 Try.func9 (by kernel_rfl) (by kernel_rfl) _ _ rfl #[.agg op.cells] (by first | (simp [Act.eval]; done) | (simp [Act.eval, Act.put]; done)) (ofew_calls op _ HOP.out) ?_
      have hfs := OpO.few_short op
      generalize op.few = oq at hfs ⊢
      have HFS := Lib.hid hfs
      clear hfs
      rintro en w6 ⟨rfl, b6⟩
      have HS2 : S w6 := by
        rw [HES.out] at HS1 ⊢
        exact fun j u hu => (Turn.cell (Turn.of_below b6 (F := fun j => wr.drew.heap.size ≤ j) (fun _ _ e => e)) (p := ⟨b, p + k * 12 + j, none⟩) hbr (fun h3 => Nat.not_lt_of_le h3 hbr)).trans (HS1 j u hu)
      have D6 := Lib.hid (HD1.out.more b6)
      clear b6 HD1 HS1
      refine ⟨_, rfl, HS2, ?_⟩
      simp only [Act.put, List.setIfInBounds_toArray, List.set_cons_zero, List.set_cons_succ]
      refine held_one (i := 9) (by kernel_rfl) ?_
      refine wpOp_invoke (some 36) rfl rfl (by kernel_rfl) (.tmp 35) "Do" T (pv d) (by first | (simp [Act.eval]; done) | (simp [Act.eval, Act.put]; done)) fD (pv d) (HF.out.mD _ _) HF.out.eD _ _ rfl #[.agg oq.cells] (by first | (simp [Act.eval]; done) | (simp [Act.eval, Act.put]; done)) (HF.out.cD w6 x oq D6.out.st D6.out.phi HFS.out) ?_
      have hkd := act_kd x oq
      generalize x.act oq = r at hkd ⊢
      obtain ⟨y, e, z⟩ := r
      rintro en w7 ⟨rfl, st, t7⟩
      have HS3 : S w7 := by
        rw [HES.out] at HS2 ⊢
        exact fun j u hu => (Turn.cell t7 (p := ⟨b, p + k * 12 + j, none⟩) (Nat.lt_of_lt_of_le hb D6.out.turn.size) (fun h3 => by have h4 := D6.out.plo; have h5 : lo ≤ b := h3.1; omega)).trans (HS2 j u hu)
      have D7 : Hid (Lk w (.iface T (pv d)) lo hi q K y cs w7) := Lib.hid (D6.out.did st (hkd.trans D6.out.kd) t7)
      clear st t7 D6 HS2
      refine ⟨_, rfl, HS3, ?_⟩
      simp only [Act.put, List.setIfInBounds_toArray, List.set_cons_zero, List.set_cons_succ]
      refine wpAnyH_done (by kernel_rfl) ?_ _
      clear HS3 HES
      go_wp2_with fail
      refine ⟨⟨k + 1, y, by rw [Int.natCast_add]; rfl, by omega, by omega, D7⟩, ?_⟩
      show 10 - ((k : Int) + 1).toNat < 10 - ((k : Int)).toNat
      omega
    · have hx : ((k : Int) < (len : Int) ∧ ¬ (k : Int) < 10) ∨ ¬ (k : Int) < (len : Int) := by omega
      clear hk
      obtain ⟨T, d, fK, fD, fC, fS, F⟩ := face_of HD.out.st
      obtain rfl := F.is
      have HF := Lib.hid F
      have ms := F.mS
      have es := F.eS
      clear F
      rcases hx with ⟨hx1, hx2⟩ | hx1
      all_goals
        go_wp2_with fail
        refine (HF.out.cS _ x HD.out.st).mono ?_
        rintro en w3 ⟨rfl, b3⟩
        have H3 := Lib.hid (HD.out.more b3)
        clear b3 HD ms es
        have HB3 := Lib.hid H3.out.box
        rw [HCS.out] at HB3
        have z0 : w3.cell? ⟨q, 0, none⟩ = some (.int .i64 o.k) := HB3.out.cell 0
        have z1 : w3.cell? ⟨q, 1, none⟩ = some (.int .i64 o.t.k) := HB3.out.cell 1
        have z2 : w3.cell? ⟨q, 2, none⟩ = some (.int .i64 o.t.a) := HB3.out.cell 2
        have z3 : w3.cell? ⟨q, 3, none⟩ = some (.string o.t.x) := HB3.out.cell 3
        have z4 : w3.cell? ⟨q, 4, none⟩ = some (.int .i64 o.t.n) := HB3.out.cell 4
        have z5 : w3.cell? ⟨q, 5, none⟩ = some (.int .i64 o.l.k) := HB3.out.cell 5
        have z6 : w3.cell? ⟨q, 6, none⟩ = some (.string o.l.s) := HB3.out.cell 6
        have z7 : w3.cell? ⟨q, 7, none⟩ = some (.string o.l.t) := HB3.out.cell 7
        have z8 : w3.cell? ⟨q, 8, none⟩ = some (.int .i64 o.l.n) := HB3.out.cell 8
        have z9 : w3.cell? ⟨q, 9, none⟩ = some (.int .i64 o.s.k) := HB3.out.cell 9
        have z10 : w3.cell? ⟨q, 10, none⟩ = some (.string o.s.s) := HB3.out.cell 10
        have z11 : w3.cell? ⟨q, 11, none⟩ = some (.int .i64 o.s.n) := HB3.out.cell 11
        go_wp2_with fail
        refine (ofew_calls o _ HO.out).mono ?_
        have hfs := OpO.few_short o
        generalize o.few = oq at hfs ⊢
        rintro en w4 ⟨rfl, b4⟩
        have H4 := Lib.hid (H3.out.more b4)
        have HFS := Lib.hid hfs
        clear b4 H3 HB3 z0 z1 z2 z3 z4 z5 z6 z7 z8 z9 z10 z11 hfs
        have HB4 := Lib.hid H4.out.box
        rw [HCS.out] at HB4
        obtain ⟨K0, ⟨tk, ta, tx, tn⟩, ⟨lk, ls, lt, ln⟩, ⟨sk, ss, sn⟩⟩ := oq
        unfold OpO.cells
        obtain ⟨K2, HK2⟩ : ∃ K2, Hid (K2 = 1 + (K.tmod 3 + 3).tmod 3) := ⟨_, rfl⟩
        have HNE : Hid (K2 ≠ K) := by show _ ≠ _; rw [HK2.out]; rcases HK.out with rfl | rfl | rfl <;> decide
        by_cases hkk : K0 = K
        · have e0 : (K0 == K) = true := by simpa using hkk
          have e2 : (K2 == K) = false := by simpa using HNE.out
          have HS9 : Hid (OpO.Short ⟨K2, ⟨tk, ta, tx, tn⟩, ⟨lk, ls, lt, ln⟩, ⟨sk, ss, sn⟩⟩) := Lib.hid HFS.out
          have HN9 : Hid ((OpO.mk K2 ⟨tk, ta, tx, tn⟩ ⟨lk, ls, lt, ln⟩ ⟨sk, ss, sn⟩).k ≠ K) := Lib.hid HNE.out
          have md := HF.out.mD
          have ed := HF.out.eD
          clear hkk
          go_wp2_with (first
            | ((with_reducible refine at_store (.tmp 5) ?_); refine wpList_store_all (o := ⟨none, _, _, _, _, _⟩) rfl 35 _ _ rfl q #[.int .i64 K0, .int .i64 tk, .int .i64 ta, .string tx, .int .i64 tn, .int .i64 lk, .string ls, .string lt, .int .i64 ln, .int .i64 sk, .string ss, .int .i64 sn] o.cells rfl rfl 35 HB4.out (by kernel_rfl) rfl (by simp [Value.oneCell']) ?_; intro w5 h5 t5
               (have H5 : Hid (Lk w (.iface T (pv d)) lo hi q K x #[.int .i64 K0, .int .i64 tk, .int .i64 ta, .string tx, .int .i64 tn, .int .i64 lk, .string ls, .string lt, .int .i64 ln, .int .i64 sk, .string ss, .int .i64 sn] w5) := Lib.hid (H4.out.stored h5 t5))
               (have y0 : w5.cell? ⟨q, 0, none⟩ = some (.int .i64 K0) := h5.cell 0)
               (have y1 : w5.cell? ⟨q, 1, none⟩ = some (.int .i64 tk) := h5.cell 1)
               (have y2 : w5.cell? ⟨q, 2, none⟩ = some (.int .i64 ta) := h5.cell 2)
               (have y3 : w5.cell? ⟨q, 3, none⟩ = some (.string tx) := h5.cell 3)
               (have y4 : w5.cell? ⟨q, 4, none⟩ = some (.int .i64 tn) := h5.cell 4)
               (have y5 : w5.cell? ⟨q, 5, none⟩ = some (.int .i64 lk) := h5.cell 5)
               (have y6 : w5.cell? ⟨q, 6, none⟩ = some (.string ls) := h5.cell 6)
               (have y7 : w5.cell? ⟨q, 7, none⟩ = some (.string lt) := h5.cell 7)
               (have y8 : w5.cell? ⟨q, 8, none⟩ = some (.int .i64 ln) := h5.cell 8)
               (have y9 : w5.cell? ⟨q, 9, none⟩ = some (.int .i64 sk) := h5.cell 9)
               (have y10 : w5.cell? ⟨q, 10, none⟩ = some (.string ss) := h5.cell 10)
               (have y11 : w5.cell? ⟨q, 11, none⟩ = some (.int .i64 sn) := h5.cell 11)
               (have f0 : w5.frozen? ⟨q, 0, none⟩ = false := h5.free 0)
               (have hlk := lkind_calls K w5)
               (rw [← HK2.out] at hlk)
               (have HLK := Lib.hid hlk)
               (clear h5 t5 H4 HB4 hlk))
            | (go_at_call 7; refine HLK.out.mono ?_; rintro en w5' ⟨rfl, rfl⟩)
            | fail)
          refine callsName (fun W9 hW9 => ?_)
          have H9 : Hid (Lk w (.iface T (pv d)) lo hi q K x #[.int .i64 K2, .int .i64 tk, .int .i64 ta, .string tx, .int .i64 tn, .int .i64 lk, .string ls, .string lt, .int .i64 ln, .int .i64 sk, .string ss, .int .i64 sn] W9) := by rw [← hW9]; exact Lib.hid (H5.out.put 0 (.int .i64 K2) rfl)
          clear hW9 y0 y1 y2 y3 y4 y5 y6 y7 y8 y9 y10 y11 f0 H5 HLK e0 e2 md ed
          have HX := Lib.hid (HF.out.cD W9 x ⟨K2, ⟨tk, ta, tx, tn⟩, ⟨lk, ls, lt, ln⟩, ⟨sk, ss, sn⟩⟩ H9.out.st H9.out.phi HS9.out)
          rw [show x.act ⟨K2, ⟨tk, ta, tx, tn⟩, ⟨lk, ls, lt, ln⟩, ⟨sk, ss, sn⟩⟩ = (x, 5, ⟨#[]⟩) from if_neg (fun e => HN9.out (e.trans H9.out.kd))] at HX
          have HX2 : Hid (Calls Try.prog fD #[pv d, .agg #[.int .i64 K2, .int .i64 tk, .int .i64 ta, .string tx, .int .i64 tn, .int .i64 lk, .string ls, .string lt, .int .i64 ln, .int .i64 sk, .string ss, .int .i64 sn]] W9 fun en w' => en = .returned (rv 5 ⟨#[]⟩) ∧ St w' (.iface T (pv d)) lo hi x ∧ Turn (fun j => lo ≤ j ∧ j < hi) W9 w') := Lib.hid HX.out
          clear HX
          refine HX2.out.mono ?_
          rintro en w6 ⟨rfl, st6, t6⟩
          have H6 : Hid (Lk w (.iface T (pv d)) lo hi q K x #[.int .i64 K2, .int .i64 tk, .int .i64 ta, .string tx, .int .i64 tn, .int .i64 lk, .string ls, .string lt, .int .i64 ln, .int .i64 sk, .string ss, .int .i64 sn] w6) := Lib.hid (H9.out.did st6 H9.out.kd t6)
          clear st6 t6 HX2 H9
          have ms := HF.out.mS
          have es := HF.out.eS
          go_wp2_with fail
          refine callsName (fun W hW => ?_)
          have H7 : Hid (Lk w (.iface T (pv d)) lo hi q K x #[.int .i64 K2, .int .i64 tk, .int .i64 ta, .string tx, .int .i64 tn, .int .i64 lk, .string ls, .string lt, .int .i64 ln, .int .i64 sk, .string ss, .int .i64 sn] W) := Lib.hid (H6.out.more (by rw [← hW]; exact (Below.refl _ _).alloc (Nat.le_refl _) _))
          clear hW H6
          refine (HF.out.cS W x H7.out.st).mono ?_
          rintro en w8 ⟨rfl, b8⟩
          have H8 : Hid (Lk w (.iface T (pv d)) lo hi q K x #[.int .i64 K2, .int .i64 tk, .int .i64 ta, .string tx, .int .i64 tn, .int .i64 lk, .string ls, .string lt, .int .i64 ln, .int .i64 sk, .string ss, .int .i64 sn] w8) := Lib.hid (H7.out.more b8)
          have HCK : Hid (Calls Try.prog 15 #[.agg #[.int .i64 K2, .int .i64 tk, .int .i64 ta, .string tx, .int .i64 tn, .int .i64 lk, .string ls, .string lt, .int .i64 ln, .int .i64 sk, .string ss, .int .i64 sn], .int .i64 K] w8 fun en w' => en = .returned (.int .i64 5) ∧ Below w8.heap.size w8 w') := Lib.hid (ocheck_other ⟨K2, ⟨tk, ta, tx, tn⟩, ⟨lk, ls, lt, ln⟩, ⟨sk, ss, sn⟩⟩ K w8 HN9.out)
          have HSS : (x.save.toList == x.save.toList) = true := by simp
          clear b8 H7 ms es
          have z0 : w8.cell? ⟨q, 0, none⟩ = some (.int .i64 K2) := H8.out.box.cell 0
          have z1 : w8.cell? ⟨q, 1, none⟩ = some (.int .i64 tk) := H8.out.box.cell 1
          have z2 : w8.cell? ⟨q, 2, none⟩ = some (.int .i64 ta) := H8.out.box.cell 2
          have z3 : w8.cell? ⟨q, 3, none⟩ = some (.string tx) := H8.out.box.cell 3
          have z4 : w8.cell? ⟨q, 4, none⟩ = some (.int .i64 tn) := H8.out.box.cell 4
          have z5 : w8.cell? ⟨q, 5, none⟩ = some (.int .i64 lk) := H8.out.box.cell 5
          have z6 : w8.cell? ⟨q, 6, none⟩ = some (.string ls) := H8.out.box.cell 6
          have z7 : w8.cell? ⟨q, 7, none⟩ = some (.string lt) := H8.out.box.cell 7
          have z8 : w8.cell? ⟨q, 8, none⟩ = some (.int .i64 ln) := H8.out.box.cell 8
          have z9 : w8.cell? ⟨q, 9, none⟩ = some (.int .i64 sk) := H8.out.box.cell 9
          have z10 : w8.cell? ⟨q, 10, none⟩ = some (.string ss) := H8.out.box.cell 10
          have z11 : w8.cell? ⟨q, 11, none⟩ = some (.int .i64 sn) := H8.out.box.cell 11
          go_wp2_with (first
            | (go_at_call 15; refine HCK.out.mono ?_; rintro en w10 ⟨rfl, b10⟩
               have H10 := Lib.hid (H8.out.more b10)
               have HNW := Lib.hid (onew_calls K w10 HK.out)
               clear b10 H8 HCK z0 z1 z2 z3 z4 z5 z6 z7 z8 z9 z10 z11)
            | (go_at_call 8; refine HNW.out.mono ?_; rintro en w11 ⟨v11, rfl, st11, b11⟩
               obtain ⟨T11, d11, fK11, fD11, fC11, fS11, F11⟩ := face_of st11
               obtain rfl := F11.is
               have H11 := Lib.hid (H10.out.more b11)
               have ms11 := F11.mS
               have es11 := F11.eS
               have hc11 := F11.cS w11 _ st11
               rw [first_save HK.out] at hc11
               have HC11 := Lib.hid hc11
               clear st11 b11 F11 H10 HNW hc11)
            | fail)
          refine HC11.out.mono ?_
          rintro en w12 ⟨rfl, b12⟩
          have H12 := Lib.hid (H11.out.more b12)
          clear b12 H11 HC11 ms11 es11
          have mk := HF.out.mK
          have ek := HF.out.eK
          go_wp2_with fail
          refine (HF.out.cK w12).mono ?_
          rintro en w13 ⟨rfl, b13⟩
          rw [H12.out.kd]
          have H13 := Lib.hid (H12.out.more b13)
          have hkk2 : (K == K) = true := by simp
          clear b13 H12 mk ek
          go_wp2_with fail
          go_ret
          exact ⟨rfl, H13.out.turn.below (Nat.le_refl _) (fun _ hj e => by omega)⟩
        · have e0 : (K0 == K) = false := by simpa using hkk
          have HS9 : Hid (OpO.Short ⟨K0, ⟨tk, ta, tx, tn⟩, ⟨lk, ls, lt, ln⟩, ⟨sk, ss, sn⟩⟩) := Lib.hid HFS.out
          have HN9 : Hid ((OpO.mk K0 ⟨tk, ta, tx, tn⟩ ⟨lk, ls, lt, ln⟩ ⟨sk, ss, sn⟩).k ≠ K) := Lib.hid hkk
          have md := HF.out.mD
          have ed := HF.out.eD
          clear hkk
          go_wp2_with (first
            | ((with_reducible refine at_store (.tmp 5) ?_); refine wpList_store_all (o := ⟨none, _, _, _, _, _⟩) rfl 35 _ _ rfl q #[.int .i64 K0, .int .i64 tk, .int .i64 ta, .string tx, .int .i64 tn, .int .i64 lk, .string ls, .string lt, .int .i64 ln, .int .i64 sk, .string ss, .int .i64 sn] o.cells rfl rfl 35 HB4.out (by kernel_rfl) rfl (by simp [Value.oneCell']) ?_; intro w5 h5 t5
               (have H5 : Hid (Lk w (.iface T (pv d)) lo hi q K x #[.int .i64 K0, .int .i64 tk, .int .i64 ta, .string tx, .int .i64 tn, .int .i64 lk, .string ls, .string lt, .int .i64 ln, .int .i64 sk, .string ss, .int .i64 sn] w5) := Lib.hid (H4.out.stored h5 t5))
               (have y0 : w5.cell? ⟨q, 0, none⟩ = some (.int .i64 K0) := h5.cell 0)
               (have y1 : w5.cell? ⟨q, 1, none⟩ = some (.int .i64 tk) := h5.cell 1)
               (have y2 : w5.cell? ⟨q, 2, none⟩ = some (.int .i64 ta) := h5.cell 2)
               (have y3 : w5.cell? ⟨q, 3, none⟩ = some (.string tx) := h5.cell 3)
               (have y4 : w5.cell? ⟨q, 4, none⟩ = some (.int .i64 tn) := h5.cell 4)
               (have y5 : w5.cell? ⟨q, 5, none⟩ = some (.int .i64 lk) := h5.cell 5)
               (have y6 : w5.cell? ⟨q, 6, none⟩ = some (.string ls) := h5.cell 6)
               (have y7 : w5.cell? ⟨q, 7, none⟩ = some (.string lt) := h5.cell 7)
               (have y8 : w5.cell? ⟨q, 8, none⟩ = some (.int .i64 ln) := h5.cell 8)
               (have y9 : w5.cell? ⟨q, 9, none⟩ = some (.int .i64 sk) := h5.cell 9)
               (have y10 : w5.cell? ⟨q, 10, none⟩ = some (.string ss) := h5.cell 10)
               (have y11 : w5.cell? ⟨q, 11, none⟩ = some (.int .i64 sn) := h5.cell 11)
               (clear h5 t5 H4 HB4))
            | fail)
          have H9 := H5
          clear H5 y0 y1 y2 y3 y4 y5 y6 y7 y8 y9 y10 y11 e0 md ed
          have HX := Lib.hid (HF.out.cD w5 x ⟨K0, ⟨tk, ta, tx, tn⟩, ⟨lk, ls, lt, ln⟩, ⟨sk, ss, sn⟩⟩ H9.out.st H9.out.phi HS9.out)
          rw [show x.act ⟨K0, ⟨tk, ta, tx, tn⟩, ⟨lk, ls, lt, ln⟩, ⟨sk, ss, sn⟩⟩ = (x, 5, ⟨#[]⟩) from if_neg (fun e => HN9.out (e.trans H9.out.kd))] at HX
          have HX2 : Hid (Calls Try.prog fD #[pv d, .agg #[.int .i64 K0, .int .i64 tk, .int .i64 ta, .string tx, .int .i64 tn, .int .i64 lk, .string ls, .string lt, .int .i64 ln, .int .i64 sk, .string ss, .int .i64 sn]] w5 fun en w' => en = .returned (rv 5 ⟨#[]⟩) ∧ St w' (.iface T (pv d)) lo hi x ∧ Turn (fun j => lo ≤ j ∧ j < hi) w5 w') := Lib.hid HX.out
          clear HX
          refine HX2.out.mono ?_
          rintro en w6 ⟨rfl, st6, t6⟩
          have H6 : Hid (Lk w (.iface T (pv d)) lo hi q K x #[.int .i64 K0, .int .i64 tk, .int .i64 ta, .string tx, .int .i64 tn, .int .i64 lk, .string ls, .string lt, .int .i64 ln, .int .i64 sk, .string ss, .int .i64 sn] w6) := Lib.hid (H9.out.did st6 H9.out.kd t6)
          clear st6 t6 HX2 H9
          have ms := HF.out.mS
          have es := HF.out.eS
          go_wp2_with fail
          refine callsName (fun W hW => ?_)
          have H7 : Hid (Lk w (.iface T (pv d)) lo hi q K x #[.int .i64 K0, .int .i64 tk, .int .i64 ta, .string tx, .int .i64 tn, .int .i64 lk, .string ls, .string lt, .int .i64 ln, .int .i64 sk, .string ss, .int .i64 sn] W) := Lib.hid (H6.out.more (by rw [← hW]; exact (Below.refl _ _).alloc (Nat.le_refl _) _))
          clear hW H6
          refine (HF.out.cS W x H7.out.st).mono ?_
          rintro en w8 ⟨rfl, b8⟩
          have H8 : Hid (Lk w (.iface T (pv d)) lo hi q K x #[.int .i64 K0, .int .i64 tk, .int .i64 ta, .string tx, .int .i64 tn, .int .i64 lk, .string ls, .string lt, .int .i64 ln, .int .i64 sk, .string ss, .int .i64 sn] w8) := Lib.hid (H7.out.more b8)
          have HCK : Hid (Calls Try.prog 15 #[.agg #[.int .i64 K0, .int .i64 tk, .int .i64 ta, .string tx, .int .i64 tn, .int .i64 lk, .string ls, .string lt, .int .i64 ln, .int .i64 sk, .string ss, .int .i64 sn], .int .i64 K] w8 fun en w' => en = .returned (.int .i64 5) ∧ Below w8.heap.size w8 w') := Lib.hid (ocheck_other ⟨K0, ⟨tk, ta, tx, tn⟩, ⟨lk, ls, lt, ln⟩, ⟨sk, ss, sn⟩⟩ K w8 HN9.out)
          have HSS : (x.save.toList == x.save.toList) = true := by simp
          clear b8 H7 ms es
          have z0 : w8.cell? ⟨q, 0, none⟩ = some (.int .i64 K0) := H8.out.box.cell 0
          have z1 : w8.cell? ⟨q, 1, none⟩ = some (.int .i64 tk) := H8.out.box.cell 1
          have z2 : w8.cell? ⟨q, 2, none⟩ = some (.int .i64 ta) := H8.out.box.cell 2
          have z3 : w8.cell? ⟨q, 3, none⟩ = some (.string tx) := H8.out.box.cell 3
          have z4 : w8.cell? ⟨q, 4, none⟩ = some (.int .i64 tn) := H8.out.box.cell 4
          have z5 : w8.cell? ⟨q, 5, none⟩ = some (.int .i64 lk) := H8.out.box.cell 5
          have z6 : w8.cell? ⟨q, 6, none⟩ = some (.string ls) := H8.out.box.cell 6
          have z7 : w8.cell? ⟨q, 7, none⟩ = some (.string lt) := H8.out.box.cell 7
          have z8 : w8.cell? ⟨q, 8, none⟩ = some (.int .i64 ln) := H8.out.box.cell 8
          have z9 : w8.cell? ⟨q, 9, none⟩ = some (.int .i64 sk) := H8.out.box.cell 9
          have z10 : w8.cell? ⟨q, 10, none⟩ = some (.string ss) := H8.out.box.cell 10
          have z11 : w8.cell? ⟨q, 11, none⟩ = some (.int .i64 sn) := H8.out.box.cell 11
          go_wp2_with (first
            | (go_at_call 15; refine HCK.out.mono ?_; rintro en w10 ⟨rfl, b10⟩
               have H10 := Lib.hid (H8.out.more b10)
               have HNW := Lib.hid (onew_calls K w10 HK.out)
               clear b10 H8 HCK z0 z1 z2 z3 z4 z5 z6 z7 z8 z9 z10 z11)
            | (go_at_call 8; refine HNW.out.mono ?_; rintro en w11 ⟨v11, rfl, st11, b11⟩
               obtain ⟨T11, d11, fK11, fD11, fC11, fS11, F11⟩ := face_of st11
               obtain rfl := F11.is
               have H11 := Lib.hid (H10.out.more b11)
               have ms11 := F11.mS
               have es11 := F11.eS
               have hc11 := F11.cS w11 _ st11
               rw [first_save HK.out] at hc11
               have HC11 := Lib.hid hc11
               clear st11 b11 F11 H10 HNW hc11)
            | fail)
          refine HC11.out.mono ?_
          rintro en w12 ⟨rfl, b12⟩
          have H12 := Lib.hid (H11.out.more b12)
          clear b12 H11 HC11 ms11 es11
          have mk := HF.out.mK
          have ek := HF.out.eK
          go_wp2_with fail
          refine (HF.out.cK w12).mono ?_
          rintro en w13 ⟨rfl, b13⟩
          rw [H12.out.kd]
          have H13 := Lib.hid (H12.out.more b13)
          have hkk2 : (K == K) = true := by simp
          clear b13 H12 mk ek
          go_wp2_with fail
          go_ret
          exact ⟨rfl, H13.out.turn.below (Nat.le_refl _) (fun _ hj e => by omega)⟩
def Arg1 (w : World) (a : Option Addr) (len _cap : Nat) : Prop := ArgO w a len
set_option maxRecDepth 100000 in
theorem opened1 {H : Type} {enc : TypeId × Value → H} {w : World} {spare : Nat → Bool} {held : Bool} {a : Option Addr} {len cap : Nat} {d : DataW H} {p : List MemPlace} (h : DataW.Trod enc Try.prog w 0 spare held 22 (.slice a len cap) d p) : Arg1 w a len cap := openedO h
set_option maxRecDepth 100000 in
theorem openedS2 {H : Type} {enc : TypeId × Value → H} {w W : World} {spare : Nat → Bool} {held : Bool} {r : Reach} {b0 : Nat} {v : Value} {d : DataW H} {p : List MemPlace} (hw : Value.okWide Try.prog W r b0 35 v) (h : DataW.Trod enc Try.prog w 0 spare held 35 v d p) :
    ∃ o : OpO, o.Fits ∧ v = .agg o.cells := openedV hw h

set_option maxRecDepth 100000 in
theorem walk (a0 : Int) (a1 : Option Addr) (len1 cap1 : Nat) (a2 : OpO) (w : World) (_w0 : (Lit.int .i64 a0).wf = true) (w1 : Arg1 w a1 len1 cap1) (w2 : a2.Fits) :
    Calls Try.prog 5 #[.int .i64 a0, .slice a1 len1 cap1, .agg a2.cells] w fun en w' => en = .returned (.bool true) ∧ Below w.heap.size w w' := kinds_any a0 a1 len1 cap1 a2 w w1 w2

theorem own : ownKnob Try.prog.godebug = none := by kernel_rfl
theorem laidOut : laidOutB Try.prog = true := by kernel_rfl

set_option maxRecDepth 100000 in
theorem lifted (os : Os) (started : os.Started) (H : Type) (enc : TypeId × Value → H) :
    ReturnsInHanded {} Try.checked os 5 .any (Rows.objectKindsSpec.pre6 enc Try.prog Try.f5 Rows.objectKindsRow.domain false) (Rows.objectKindsSpec.post enc Try.prog Try.f5 false true false false) := by
  refine returnsInHanded_of_change (C := Try.checked) own started (by kernel_rfl) Try.func5
    (ChangeSpec.witness6 (enc := enc) (C := Try.checked) false ⟨#[], #[.int .i64 0, .slice none 0 0, .agg #[.int .i64 0, .int .i64 0, .int .i64 0, .string ByteArray.empty, .int .i64 0, .int .i64 0, .string ByteArray.empty, .string ByteArray.empty, .int .i64 0, .int .i64 0, .string ByteArray.empty, .int .i64 0]], []⟩ 8 (by kernel_rfl) (by kernel_rfl) (by kernel_rfl) (by kernel_rfl)) ?_
  intro W base args ds gs before hval0 hW _ _
  have hval : ∀ (j : Nat) t v, Try.f5.params[j]? = some t → args[j]? = some v → Value.okWide Try.prog W .any base t v := hval0
  have hW' := hW
  obtain ⟨p, q, hA0, hV, rfl, _, _⟩ := hW
  have hA : DataW.TrodAll enc Try.prog W 0 (fun _ => true) true Try.f5.params.toList args.toList ds p := hA0
  rw [Try.params5] at hA hval
  obtain ⟨v0, vs0, d0, ds0, p0, q0, hargs, rfl, rfl, h0, r0⟩ := trodAll_cons hA
  obtain ⟨v1, vs1, d1, ds1, p1, q1, rfl, rfl, rfl, h1, r1⟩ := trodAll_cons r0
  obtain ⟨v2, vs2, d2, ds2, p2, q2, rfl, rfl, rfl, h2, r2⟩ := trodAll_cons r1
  obtain ⟨rfl, rfl, rfl⟩ := trodAll_nil r2
  obtain rfl : args = #[v0, v1, v2] := by cases args; simp_all
  obtain ⟨rfl, rfl⟩ := trodVars_none hV
  obtain ⟨a0, rfl, rfl, rfl, w0⟩ := open_int Try.underlying3 (hval 0 3 v0 rfl rfl) h0
  obtain ⟨a1, len1, cap1, rfl⟩ := okWide_slice Try.underlying22 (hval 1 22 v1 rfl rfl)
  have k1 := h1
  have lt1 : ∀ x ∈ p1, x.block < W.heap.size := by obtain ⟨m, hm⟩ := k1; exact DataW.trod_lt m _ _ _ hm
  have w1 : Arg1 W a1 len1 cap1 := opened1 h1
  obtain ⟨a2, w2, rfl⟩ := openedS2 (hval 2 35 v2 rfl rfl) h2
  have k2 := h2
  have lt2 : ∀ x ∈ p2, x.block < W.heap.size := by obtain ⟨m, hm⟩ := k2; exact DataW.trod_lt m _ _ _ hm
  clear hA0 hval0
  refine (walk a0 a1 len1 cap1 a2 W w0 w1 w2).mono fun e W' ⟨he, bel⟩ => ?_
  subst he
  exact ⟨_, rfl, _, _, _, [], _, [], hW', trodAll_mk1 (shut_bool Try.underlying4 _), (trodAll_cons_mk (shut_int Try.underlying3 w0) (trodAll_cons_mk (Below.trod laidOut (by kernel_rfl) (of_decide_eq_true (by kernel_rfl)) k1 bel lt1) (trodAll_cons_mk (Below.trod laidOut (by kernel_rfl) (of_decide_eq_true (by kernel_rfl)) k2 bel lt2) trodAll_mk0))), rfl, bel.frame _, fun h => by cases h⟩

theorem over : Rows.objectKindsRow.holds Try.pinned (OpenSpec.ofChange Rows.objectKindsSpec) :=
  OpenClaim.holds_of_wide 5 Try.f5 rfl rfl rfl rfl rfl rfl rfl ⟨rfl, rfl, rfl, rfl, rfl⟩ rfl rfl rfl rfl rfl (by kernel_rfl) Try.func5 (by kernel_rfl)
    (of_decide_eq_true (by kernel_rfl)) (by unfold Func.isWrapper; first | (rw [if_pos (by decide +kernel)]; kernel_rfl) | (rw [if_neg (by decide +kernel)]; exact ⟨rfl, rfl⟩))
    (fun os started H enc _ => lifted os started H enc)

theorem proved : Rows.ObjectKindsSaid := over

end Go.Proofs.Ytndnjeahepahkaa.object.objectKinds
