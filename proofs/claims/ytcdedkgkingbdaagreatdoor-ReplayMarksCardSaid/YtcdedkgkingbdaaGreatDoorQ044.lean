/- Texts laid into one: RepJ, TopA, DigK. -/
import Derived.Test.YtcdedkgkingbdaaGreatDoorQ043
import Derived.Test.YtcdedkgkingbdaaGreatDoorQ004
section
/- replay: at which versions the object is kept whole; another line of the first commands. -/
namespace Go.Proofs.YtcdedkgkingbdaaGreatDoor.rep
open Go Go.RowKit Go.Maps Go.Proofs.YtcdedkgkingbdaaGreatDoor.object Go.Proofs.YtcdedkgkingbdaaGreatDoor.prn Go.Proofs.YtcdedkgkingbdaaGreatDoor.tws Go.Proofs.YtcdedkgkingbdaaGreatDoor.tow

theorem calls_name {P : Program} {f : FuncId} {args : Array Value} {w : World} {R : Ending → World → Prop} (h : ∀ W, w = W → Calls P f args W R) : Calls P f args w R := h w rfl
theorem levK_none (l : List (Int × ByteArray)) : levK 0 l = l.map (·.1) := by
  unfold levK
  rw [List.filter_eq_self.2 (fun x _ => decide_eq_true (show 0 < hgt _ from (hgt_bounds _).1))]

set_option maxRecDepth 100000 in
set_option maxHeartbeats 1000000 in
theorem wversions_calls {w : World} {b : Nat} {l : List (Int × ByteArray)} {F : Nat → Prop} (h : Tw w b l F) (hl : l.length ≤ 100000) :
    Calls Tryz.prog 53 #[.pointer (some ⟨b, 0, none⟩)] w (IntsPost w (l.map (·.1))) := by
  have H := Lib.hid h
  clear h
  go_enter Tryz.func53, Tryz.ntmps53
  go_wp2_with fail
  refine (Tw.level_calls H.out 0 (by decide) hl).mono ?_
  rw [levK_none]
  rintro en w2 ⟨v, rfl, i2, n2, b2⟩
  have R := Lib.hid (And.intro i2 (And.intro n2 b2))
  clear i2 n2 b2
  go_wp2_with fail
  go_ret
  exact ⟨v, rfl, R.out.1, R.out.2.1, R.out.2.2⟩

set_option maxRecDepth 100000 in
set_option maxHeartbeats 1000000 in
theorem lmarks_calls {w : World} {b vb tb m : Nat} {v : Value} {l : List (Int × ByteArray)} {F : Nat → Prop} (h0 : Has w b 53 #[.pointer (some ⟨vb, 0, none⟩), v, .pointer (some ⟨tb, 0, none⟩), .map (some m)]) (h : Tw w tb l F) (hl : l.length ≤ 100000) :
    Calls Tryz.prog 14 #[.pointer (some ⟨b, 0, none⟩)] w (IntsPost w (l.map (·.1))) := by
  have H := Lib.hid h
  have c2 : w.cell? ⟨b, 2, none⟩ = some (.pointer (some ⟨tb, 0, none⟩)) := h0.cell 2
  clear h h0
  go_enter Tryz.func14, Tryz.ntmps14
  go_wp2_with fail
  refine (wversions_calls H.out hl).mono ?_
  rintro en w2 ⟨v, rfl, i2, n2, b2⟩
  have R := Lib.hid (And.intro i2 (And.intro n2 b2))
  clear i2 n2 b2
  go_wp2_with fail
  go_ret
  exact ⟨v, rfl, R.out.1, R.out.2.1, R.out.2.2⟩

/-- A list that rises, at one of its versions. -/
theorem floorK_at {l : List (Int × ByteArray)} (hs : l.Pairwise (fun x y => x.1 < y.1)) {j : Nat} {x : Int × ByteArray} (hx : l[j]? = some x) : floorK x.1 l = (x.1, x.2, true) := by
  obtain ⟨hj, e0⟩ := List.getElem?_eq_some_iff.1 hx
  have e : l = l.take j ++ x :: l.drop (j + 1) := by rw [← e0, ← List.drop_eq_getElem_cons hj, List.take_append_drop]
  clear e0 hx
  generalize l.take j = A at e
  generalize l.drop (j + 1) = D at e
  clear hj
  subst e
  obtain ⟨_, h2, h3⟩ := List.pairwise_append.1 hs
  obtain ⟨h4, _⟩ := List.pairwise_cons.1 h2
  have ef : (A ++ x :: D).filter (fun y => decide (y.1 ≤ x.1)) = A ++ [x] := by
    rw [List.filter_append, List.filter_cons_of_pos (by simp), List.filter_eq_self.2 (fun y hy => by have := h3 y hy x (by simp); exact decide_eq_true (by omega)), List.filter_eq_nil_iff.2 (fun y hy => by have := h4 y hy; simp; omega)]
  unfold floorK
  rw [ef, List.getLast?_append]
  rfl

theorem marks_part {k : Int} {C : List Cm} {fl : Nat} {l l' : List (Int × ByteArray)} (h : Marks k C fl l) (v : Nat) (hn : v ≤ C.length) (he : ∀ x, x ∈ l' ↔ x ∈ l ∧ x.1 ≤ v) : Marks k (C.take v) fl l' := fun x => by
  rw [he x, h x]
  unfold MarkAt
  rw [List.length_take, Nat.min_eq_left hn]
  constructor
  · rintro ⟨⟨u, h1, h2, rfl⟩, h3⟩
    have h3 : (u : Int) ≤ v := h3
    exact ⟨u, h1, by omega, by rw [fold_take (by omega)]⟩
  · rintro ⟨u, h1, h2, rfl⟩
    exact ⟨⟨u, h1, by omega, by rw [fold_take h2]⟩, by show (u : Int) ≤ v; omega⟩

section
variable {B : Nat} {w0 V V' : World} {b vb tb m lo hi fl : Nat} {v : Value} {y : Ob} {L : List ByteArray} {l l' : List (Int × ByteArray)} {F1 F2 : Nat → Prop}
theorem Lq.tower (h : Lq B w0 b vb tb m v lo hi y L fl l F1 F2 V) (hw : ∀ j, F2 j → w0.heap.size ≤ j) (s : Tw V' tb l' (fun j => F2 j ∨ V.heap.size ≤ j)) (t : Turn F2 V V') : Lq B w0 b vb tb m v lo hi y L fl l' F1 (fun j => F2 j ∨ (V.heap.size ≤ j ∧ j < V'.heap.size)) V' := by
  have hs := t.size
  have hB := h.va.rt.size
  refine ⟨h.own.turn t (fun e => (h.ap.h2 b e).2.2.1 rfl), h.va.turn t (fun j hj _ e => (h.ap.h1 j hj).2.2.2.2.2 e) (fun j e => (h.ap.h2 j e).1), h.st.turn t (fun j a1 a2 e => (h.ap.h2 j e).2.2.2.2 ⟨a1, a2⟩), s.more (fun j hj e => e.imp id (fun x => ⟨x, hj⟩)), ?_, ?_, h.bel.trans (t.below h.bel.size (fun j _ e => by have := hw j e; omega))⟩
  · obtain ⟨es, clock, h1, h2⟩ := h.mp
    exact ⟨es, clock, (t.block m (map_lt h.mp) (fun e => (h.ap.h2 m e).2.2.2.1 rfl)).trans h1, h2⟩
  · have hm := map_lt h.mp
    have hb := h.own.lt
    have hr := h.ap.rng
    refine ⟨⟨hr.1, by omega⟩, h.ap.hb, fun j e => ?_, fun j e => ?_, h.ap.ho⟩
    · obtain ⟨x1, x2, x3, x4, x5, x6⟩ := h.ap.h1 j e
      exact ⟨x1, by omega, x3, x4, x5, fun z => z.elim x6 (fun z => by omega)⟩
    · rcases e with e | e
      · obtain ⟨x1, x2, x3⟩ := h.ap.h2 j e
        exact ⟨x1, by omega, x3⟩
      · exact ⟨by omega, e.2, by omega, by omega, by omega⟩
end

section
variable {B : Nat} {F G : Nat → Prop} {w w' : World} {b fl : Nat} {k : Int} {C : List Cm}
/-- Behind a Branch that was made. -/
def BranPost (B : Nat) (w : World) (k : Int) (C : List Cm) (fl v : Nat) (en : Ending) (w' : World) : Prop :=
  ∃ nb, en = .returned (.tuple #[.pointer (some ⟨nb, 0, none⟩), .nilIface]) ∧ w.heap.size ≤ nb ∧ Ln B (fun j => w.heap.size ≤ j) w' nb k (C.take v) fl ∧ Below w.heap.size w w'

/-- While the versions are put in. -/
structure Bq (B : Nat) (w : World) (b vb tb m : Nat) (va : Value) (l : List (Int × ByteArray)) (F2 : Nat → Prop) (nb c t2 m2 : Nat) (u : Value) (lo hi : Nat) (y : Ob) (L : List ByteArray) (fl v j : Nat) (av : Value) (V : World) : Prop where
  src : Has V b 53 #[.pointer (some ⟨vb, 0, none⟩), va, .pointer (some ⟨tb, 0, none⟩), .map (some m)] ∧ Tw V tb l F2 ∧ V.ownsMap Tryz.prog 3 anyR m 0 (.map [])
  ints : Ints V av (l.map (·.1))
  new : ∃ l' G1 G2, Lq B w nb c t2 m2 u lo hi y L fl l' G1 G2 V ∧ (∀ x, x ∈ l' ↔ x ∈ l.take j ∧ x.1 ≤ v) ∧ l'.length ≤ j ∧ (∀ j, Fp nb m2 lo hi G1 G2 j → w.heap.size ≤ j) ∧ (∀ k, av.ownBlock = some k → ¬ G2 k)

section
variable {vb tb m nb c t2 m2 lo hi v j : Nat} {va u av : Value} {l : List (Int × ByteArray)} {F2 : Nat → Prop} {y : Ob} {L : List ByteArray} {V V' : World}
theorem Bq.below (h : Bq B w b vb tb m va l F2 nb c t2 m2 u lo hi y L fl v j av V) (t : Below V.heap.size V V') : Bq B w b vb tb m va l F2 nb c t2 m2 u lo hi y L fl v j av V' := by
  obtain ⟨⟨h1, h2, h3⟩, h4, l', G1, G2, Q, h5, h6, h7, h8⟩ := h
  have hm := map_lt h3
  refine ⟨⟨h1.below t h1.lt, h2.below t, ?_⟩, h4.below t, l', G1, G2, Q.below t, h5, h6, h7, h8⟩
  obtain ⟨es, clock, x1, x2⟩ := h3
  exact ⟨es, clock, (t.block m hm).trans x1, x2⟩
theorem Bq.pass (h : Bq B w b vb tb m va l F2 nb c t2 m2 u lo hi y L fl v j av V) {x : Int × ByteArray} (hx : l[j]? = some x) (hv : ¬ x.1 ≤ v) : Bq B w b vb tb m va l F2 nb c t2 m2 u lo hi y L fl v (j + 1) av V := by
  obtain ⟨h1, h4, l', G1, G2, Q, h5, h6, h7, h8⟩ := h
  refine ⟨h1, h4, l', G1, G2, Q, fun z => ?_, by omega, h7, h8⟩
  rw [h5 z, List.take_add_one, hx, Option.toList_some, List.mem_append, List.mem_singleton]
  constructor
  · rintro ⟨a, b⟩; exact ⟨.inl a, b⟩
  · rintro ⟨a | rfl, b⟩
    · exact ⟨a, b⟩
    · exact absurd b hv
end

set_option maxRecDepth 100000 in
set_option maxHeartbeats 8000000 in
theorem Ln.branch_calls (h0 : Ln B F w b k C fl) (v : Nat) (hv : fl ≤ v) (hn : v ≤ C.length) (hC : C.length ≤ 10000) :
    Calls Tryz.prog 23 #[.pointer (some ⟨b, 0, none⟩), .int .i64 v] w (BranPost B w k C fl v) := by
  have HW : Hid (Calls Tryz.prog 62 #[.pointer (some ⟨b, 0, none⟩), .int .i64 v] w fun en w' => en = .returned (.int .i64 0) ∧ w = w') := Lib.hid (by
    have := h0.wrong_calls (v : Int)
    rw [show wrongE C.length fl (v : Int) = 0 by unfold wrongE; rw [if_neg (by omega), if_neg (by omega)]] at this
    exact this)
  have HS := Lib.hid h0
  have HC := Lib.hid (And.intro hv (And.intro hn hC))
  obtain ⟨vb, tb, m, va, lo, hi, y, l, F1, F2, h1, h2, h3⟩ := h0
  have P0 := Lib.hid h1
  have hrun0 := fun W => run_makeMap (P := Tryz.prog) 51 W
  have c0 : w.cell? ⟨b, 0, none⟩ = some (.pointer (some ⟨vb, 0, none⟩)) := h1.own.cell 0
  clear h1 h2 h3 hv hn hC
  go_enter Tryz.func23, Tryz.ntmps23
  go_wp2_with fail
  refine HW.out.mono ?_
  rintro en w1 ⟨rfl, rfl⟩
  go_wp2_with fail
  refine (P0.out.va.clone v HC.out.1 (by rw [texts_len]; exact HC.out.2.1)).mono ?_
  rintro en w2 ⟨c, rfl, hc, va2, b2⟩
  have P2 := Lib.hid (show Va B (fun j => w.heap.size ≤ j ∧ j < w2.heap.size) w2 c ((texts C).take v) fl ∧ Below w.heap.size w w2 from ⟨va2.more (fun j h1 h2 => ⟨h2, h1⟩) (fun j hj => Nat.le_trans P0.out.va.rt.size hj.1), b2⟩)
  clear c0 hc va2 b2 HW
  go_wp2_with fail
  refine ((HS.out.below P2.out.2).version_calls v HC.out.1 HC.out.2.1 HC.out.2.2).mono ?_
  rintro en w3 ⟨u, y3, rfl, st3, lk3, b3⟩
  obtain ⟨T, d, fK, fD, fC, fS, Fc⟩ := face_of st3
  obtain rfl := Fc.is
  clear Fc
  have P3 := Lib.hid (show Va B (fun j => w.heap.size ≤ j ∧ j < w2.heap.size) w3 c ((texts C).take v) fl ∧ St w3 (.iface T (pv d)) w2.heap.size w3.heap.size y3 ∧ y3.Like (fold k C v) ∧ Below w.heap.size w w3 ∧ w.heap.size ≤ w2.heap.size ∧ w2.heap.size ≤ w3.heap.size from ⟨P2.out.1.below b3, st3, lk3, P2.out.2.trans (b3.mono P2.out.2.size), P2.out.2.size, b3.size⟩)
  clear st3 lk3 b3 P2
  go_wp2_with fail
  refine (tw_new w3).mono ?_
  rintro en w4 ⟨t2, rfl, ht2, tw4, b4⟩
  have P4 := Lib.hid (show Va B (fun j => w.heap.size ≤ j ∧ j < w2.heap.size) w4 c ((texts C).take v) fl ∧ St w4 (.iface T (pv d)) w2.heap.size w3.heap.size y3 ∧ Tw w4 t2 [] (fun j => w3.heap.size ≤ j ∧ j < w4.heap.size) ∧ y3.Like (fold k C v) ∧ Below w.heap.size w w4 ∧ w.heap.size ≤ w2.heap.size ∧ w2.heap.size ≤ w3.heap.size ∧ w3.heap.size ≤ w4.heap.size from ⟨P3.out.1.below b4, P3.out.2.1.below b4 (Nat.le_refl _), tw4.more (fun j h1 h2 => ⟨h2, h1⟩), P3.out.2.2.1, P3.out.2.2.2.1.trans (b4.mono P3.out.2.2.2.1.size), P3.out.2.2.2.2.1, P3.out.2.2.2.2.2, b4.size⟩)
  clear ht2 tw4 b4 P3
  go_wp2_with fail
  refine calls_name (fun W hW => ?_)
  have Q0 : Hid (Lq B w (w4.heap.size + 1) c t2 w4.heap.size (.iface T (pv d)) w2.heap.size w3.heap.size y3 ((texts C).take v) fl [] (fun j => w.heap.size ≤ j ∧ j < w2.heap.size) (fun j => w3.heap.size ≤ j ∧ j < w4.heap.size) W) := by
    obtain ⟨h1, h2, h3, h4, h5, h6, h7, h8⟩ := P4.out
    have hb := P0.out.va.rt.size
    have bb : Below w4.heap.size w4 W := by rw [← hW]; exact ((Below.refl _ _).alloc (Nat.le_refl _) _).alloc (by simp) _
    have hsz : W.heap.size = w4.heap.size + 2 := by rw [← hW]; simp
    refine Lib.hid ⟨by rw [← hW]; exact made_at _ _ (by simp), h1.below bb, h2.below bb (by omega), h3.below bb, ?_, ⟨⟨by omega, by omega⟩, ⟨by omega, by omega, by omega⟩, fun j hj => ⟨by omega, by omega, by omega, by omega, by omega, by omega⟩, fun j hj => ⟨by omega, by omega, by omega, by omega, by omega⟩, fun j a1 a2 => ⟨by omega, by omega⟩⟩, h5.trans (bb.mono h5.size)⟩
    rw [← hW]
    exact (World.ownsMap_made w4 Tryz.prog 3 anyR).alloc _
  have HLK : Hid (y3.Like (fold k C v)) := Lib.hid P4.out.2.2.2.1
  have hlt : Hid (w.heap.size ≤ w2.heap.size ∧ w2.heap.size ≤ w3.heap.size ∧ w3.heap.size ≤ w4.heap.size) := Lib.hid P4.out.2.2.2.2.2
  obtain ⟨nb, hnb⟩ : ∃ b, b = w4.heap.size + 1 := ⟨_, rfl⟩
  obtain ⟨m2, hm2⟩ : ∃ b, b = w4.heap.size := ⟨_, rfl⟩
  rw [← hnb] at Q0 ⊢
  have HNB : Hid (w.heap.size ≤ nb ∧ w.heap.size ≤ m2) := Lib.hid ⟨by have := hlt.out; omega, by have := hlt.out; omega⟩
  clear hW P4 hrun0 hnb
  have HL : Hid (l.length ≤ 10001) := Lib.hid (by have := P0.out.marks.len P0.out.tw.sorted; have := HC.out; omega)
  refine (lmarks_calls (P0.out.own.below Q0.out.bel P0.out.own.lt) (P0.out.tw.below Q0.out.bel) (by have := HL.out; omega)).mono ?_
  rintro en w5 ⟨av, rfl, i5, n5, b5⟩
  obtain ⟨aa, cc, rfl⟩ := i5.slice
  have D0 : Hid (Bq B w b vb tb m va l F2 nb c t2 w4.heap.size (.iface T (pv d)) w2.heap.size w3.heap.size y3 ((texts C).take v) fl v 0 (.slice aa (l.map (·.1)).length cc) w5) := by
    have Q := Q0.out.below b5
    have hx := hlt.out
    have hz := HNB.out
    refine Lib.hid ⟨⟨P0.out.own.below Q.bel P0.out.own.lt, P0.out.tw.below Q.bel, ?_⟩, i5, [], _, _, Q, by simp, by simp, fun j hj => ?_, fun k hk e => ?_⟩
    · obtain ⟨es, clock, x1, x2⟩ := P0.out.mp
      exact ⟨es, clock, (Q.bel.block m (map_lt P0.out.mp)).trans x1, x2⟩
    · rcases hj with e | e | e | e | e <;> omega
    · have := n5 k hk
      have := Q0.out.ap.h2 k e
      omega
  rw [List.length_map] at D0 ⊢
  obtain ⟨N, hN⟩ : ∃ N, N = l.length := ⟨_, rfl⟩
  rw [← hN] at D0 ⊢
  obtain ⟨lo2, hlo⟩ : ∃ x, x = w2.heap.size := ⟨_, rfl⟩
  obtain ⟨hi2, hhi⟩ : ∃ x, x = w3.heap.size := ⟨_, rfl⟩
  rw [← hlo, ← hhi, ← hm2] at D0
  have HN := Lib.hid hN
  clear Q0 i5 n5 b5 hN hlo hhi hlt hm2
  go_wp2_with fail
  go_loopw [47] (fun i wr => ∃ j : Nat, i = .int .i64 j ∧ j ≤ N ∧ Hid (Bq B w b vb tb m va l F2 nb c t2 m2 (.iface T (pv d)) lo2 hi2 y3 ((texts C).take v) fl v j (.slice aa N cc) wr)) (fun i _ => N - (intOf i).toNat)
  case atStart => exact ⟨0, rfl, Nat.zero_le _, D0⟩
  case round =>
    clear D0
    obtain ⟨j, rfl, hj, HD⟩ := hrel
    by_cases hjn : j < N
    · have hli : (j : Int) < (N : Int) := by omega
      have hlb : (N : Int) ≤ 10001 := by have := HL.out; have := HN.out; omega
      obtain ⟨⟨a, s⟩, hx⟩ : ∃ x, l[j]? = some x := ⟨_, List.getElem?_eq_getElem (by rw [← HN.out]; exact hjn)⟩
      obtain ⟨g, cg, e, _, _, hc⟩ := HD.out.ints.cell j (by rw [List.length_map, ← HN.out]; exact hjn)
      have cj : wr.cell? ⟨g, j, none⟩ = some (.int .i64 a) := hc j a (by rw [List.getElem?_map, hx]; rfl)
      simp only [Value.slice.injEq] at e
      obtain ⟨rfl, e2, rfl⟩ := e
      clear e2
      have HX := Lib.hid hx
      have HF := Lib.hid (floorK_at P0.out.tw.sorted hx)
      have HA := Lib.hid (P0.out.tw.num _ (List.mem_of_getElem? hx))
      have c2 : wr.cell? ⟨b, 2, none⟩ = some (.pointer (some ⟨tb, 0, none⟩)) := HD.out.src.1.cell 2
      clear hc hx
      by_cases hle : a ≤ (v : Int)
      · go_wp2_with fail
        refine (HD.out.src.2.1.floor_calls a (by have := HL.out; omega)).mono ?_
        rw [HF.out]
        rintro en w6 ⟨rfl, b6⟩
        have H6 := Lib.hid (HD.out.below b6)
        obtain ⟨l', G1, G2, q1, q2, q3, q4, q5⟩ := H6.out.new
        have Q := Lib.hid q1
        have R := Lib.hid (And.intro q2 (And.intro q3 (And.intro q4 q5)))
        have n2 : w6.cell? ⟨nb, 2, none⟩ = some (.pointer (some ⟨t2, 0, none⟩)) := q1.own.cell 2
        clear q1 q2 q3 q4 q5 b6 HD cj c2
        go_wp2_with fail
        refine (Q.out.tw.put_calls (tz_of Q.out.va.rt) a s (by have := R.out.2.1; have := HL.out; have := HN.out; omega) HA.out).mono ?_
        rintro en w7 ⟨was, rfl, _, tw7, t7⟩
        have D7 : Hid (Bq B w b vb tb m va l F2 nb c t2 m2 (.iface T (pv d)) lo2 hi2 y3 ((texts C).take v) fl v (j + 1) (.slice (some ⟨g, 0, none⟩) N cc) w7) := by
          have hG : ∀ k, G2 k → w.heap.size ≤ k := fun k hk => R.out.2.2.1 k (.inr (.inr (.inr (.inr hk))))
          have Q7 := Q.out.tower hG tw7 t7
          have hsz := Q.out.bel.size
          refine Lib.hid ⟨⟨P0.out.own.below Q7.bel P0.out.own.lt, P0.out.tw.below Q7.bel, ?_⟩, H6.out.ints.turn t7 (fun k hk => R.out.2.2.2 k hk), insK a s l', G1, _, Q7, fun z => ?_, ?_, fun i hi => ?_, fun k hk e => ?_⟩
          · obtain ⟨es, clock, x1, x2⟩ := P0.out.mp
            exact ⟨es, clock, (Q7.bel.block m (map_lt P0.out.mp)).trans x1, x2⟩
          · rw [mem_insK Q.out.tw.sorted z, R.out.1 z, List.take_add_one, HX.out, Option.toList_some, List.mem_append, List.mem_singleton]
            constructor
            · rintro (rfl | ⟨⟨z1, z2⟩, _⟩)
              · exact ⟨.inr rfl, hle⟩
              · exact ⟨.inl z1, z2⟩
            · rintro ⟨z1 | rfl, z2⟩
              · refine .inr ⟨⟨z1, z2⟩, ?_⟩
                have hp := P0.out.tw.sorted
                have hjl : j < l.length := by rw [← HN.out]; exact hjn
                rw [← List.take_append_drop j l] at hp
                have h3 := (List.pairwise_append.1 hp).2.2 z z1 (a, s) (by rw [List.drop_eq_getElem_cons hjl]; have e := List.getElem?_eq_some_iff.1 HX.out; obtain ⟨_, e⟩ := e; rw [e]; exact List.mem_cons_self ..)
                have h3 : z.1 < a := h3
                omega
              · exact .inl rfl
          · have := length_insK a s l'
            have := R.out.2.1
            omega
          · rcases hi with e | e | e | e | e | e
            · exact R.out.2.2.1 i (.inl e)
            · exact R.out.2.2.1 i (.inr (.inl e))
            · exact R.out.2.2.1 i (.inr (.inr (.inl e)))
            · exact R.out.2.2.1 i (.inr (.inr (.inr (.inl e))))
            · exact hG i e
            · omega
          · rcases e with e | e
            · exact R.out.2.2.2 k hk e
            · have := H6.out.ints.lt hk
              omega
        clear H6 Q R tw7 t7 n2
        go_wp2_with fail
        refine ⟨⟨j + 1, by rw [Int.natCast_add]; rfl, by omega, D7⟩, ?_⟩
        show N - ((j : Int) + 1).toNat < N - ((j : Int)).toNat
        omega
      · have D7 := Lib.hid (HD.out.pass HX.out hle)
        clear HD
        go_wp2_with fail
        refine ⟨⟨j + 1, by rw [Int.natCast_add]; rfl, by omega, D7⟩, ?_⟩
        show N - ((j : Int) + 1).toNat < N - ((j : Int)).toNat
        omega
    · obtain rfl : j = N := by omega
      have hli : ¬ (j : Int) < (j : Int) := by omega
      have c3 : wr.cell? ⟨b, 3, none⟩ = some (.map (some m)) := HD.out.src.1.cell 3
      have hown : wr.ownsMap Tryz.prog 3 anyR m 0 (.map []) := HD.out.src.2.2
      go_wp2_with (first
        | (at_range; refine wpList_range_own _ rfl _ 51 rfl 3 44 (int_keyed Tryz.underlying3) Tryz.underlying51 anyR m 0 (.map []) rfl hown ?_; intro w8 hrg0 hg0 hs0)
        | fail)
      try go_frame
      have hrg : w8.ranges Tryz.prog 3 anyR m wr.heap.size 0 (.map []) (Maps.has (.map [])) 0 := hrg0
      have D8 := Lib.hid (HD.out.below (V' := w8) ⟨hg0.os, hg0.tape, hg0.output, hg0.size, fun i hi => hg0.block i hi (by simp)⟩)
      generalize wr.heap.size = r at *
      clear HD c3 hown hrg0 hg0 hs0
      go_loopw [78] (fun _ wr => wr = w8) (fun _ _ => 0)
      case atStart => rfl
      case round =>
        obtain rfl := hrel
        go_wp2_with (first
          | (at_next; refine next_none rfl _ rfl 3 .i64 (int_keyed Tryz.underlying3) Tryz.underlying3 m r 0 (.map []) _ rfl hrg ?_)
          | fail)
        go_ret2
        obtain ⟨l', G1, G2, Q, q2, q3, q4, q5⟩ := D8.out.new
        refine ⟨nb, rfl, HNB.out.1, ⟨c, t2, m2, .iface T (pv d), lo2, hi2, y3, l', G1, G2, ⟨Q.own, ?_, Q.st, ?_, Q.tw, Q.mp, HS.out.did.take v, HS.out.kk, ?_, ?_⟩, Q.ap, q4⟩, Q.bel⟩
        · rw [show texts (C.take v) = (texts C).take v by unfold texts; rw [List.map_take]]
          exact Q.va
        · rw [List.length_take, Nat.min_eq_left HC.out.2.1, fold_take (Nat.le_refl _)]
          exact HLK.out
        · refine marks_part P0.out.marks v HC.out.2.1 (fun x => ?_)
          rw [q2 x, HN.out, List.take_length]
        · rw [List.length_take, Nat.min_eq_left HC.out.2.1]
          exact HC.out.1
end
end Go.Proofs.YtcdedkgkingbdaaGreatDoor.rep
end

section
/- hindsighttop: an op that adds, and a line with it. -/
namespace Go.Proofs.YtcdedkgkingbdaaGreatDoor.rep
open Go Go.RowKit Go.Maps Go.Proofs.YtcdedkgkingbdaaGreatDoor.object Go.Proofs.YtcdedkgkingbdaaGreatDoor.prn Go.Proofs.YtcdedkgkingbdaaGreatDoor.tws

/-- An op that adds. -/
def addO (s : ByteArray) (n : Int) : OpO := ⟨3, zT, zL, ⟨1, s, n⟩⟩
set_option maxRecDepth 100000 in
set_option maxHeartbeats 1000000 in
theorem adds_calls (s : ByteArray) (n : Int) (w : World) : Calls Tryz.prog 69 #[.string s, .int .i64 n] w fun en w' => en = .returned (.agg (cmdC (addO s n) 0)) ∧ Below w.heap.size w w' := by
  go_enter Tryz.func69, Tryz.ntmps69
  go_wp2_with (first
    | ((with_reducible refine at_store (.tmp 4) ?_); refine wpList_store_all (o := ⟨none, _, _, _, _, _⟩) rfl 60 (.tmp 4) (.tmp 9) rfl w.heap.size (cmdC (addO s n) 0) (cmdC ⟨0, zT, zL, zS⟩ 0) rfl rfl _ (made_at _ _ rfl) (by kernel_rfl) rfl (by simp [cmdC, addO, zL, zT, Value.oneCell']) ?_; intro Wb HWb TWb)
    | fail)
  refine bodyPost_ret (v := .agg (cmdC (addO s n) 0)) (results_cell_row rfl _ _ w.heap.size 60 _ _ _ rfl HWb Tryz.underlying60 rfl (by kernel_rfl)) rfl ?_
  exact ⟨rfl, ((Below.refl _ _).alloc (Nat.le_refl _) _).trans (TWb.below (by simp) (fun j hj e => by omega))⟩

def nutS : ByteArray := ⟨#[110, 117, 116]⟩
theorem act_nut : ((fold 3 [] 0).act (addO nutS 2)).2.1 = 0 := by kernel_rfl
theorem nut_good : OpO.Good (addO nutS 2) := good_of act_nut (fun e => by have e : (3 : Int) = 1 := e; omega) (fun e => by have e : (3 : Int) = 2 := e; omega) (fun _ => ⟨rfl, rfl⟩)
theorem nut_short : (addO nutS 2).Short := ⟨z_short.1, z_short.2.1, by unfold stock.OpS.Short; decide⟩
/-- Its bytes. -/
theorem nut_text : cmdT (addO nutS 2) 0 = ⟨#[0, 3, 1, 3, 110, 117, 116, 2]⟩ := by kernel_rfl
end Go.Proofs.YtcdedkgkingbdaaGreatDoor.rep
end

section
/- digest: Hex. -/
namespace Go.Proofs.YtcdedkgkingbdaaGreatDoor.dig
open Go Go.RowKit

theorem run_digit (v : Nat) (k : IntKind) (h : v < 16) (w : World) : (Instr.index 9 (.string ⟨#[48, 49, 50, 51, 52, 53, 54, 55, 56, 57, 97, 98, 99, 100, 101, 102]⟩) (.int k v)).run Tryz.prog w = .ok (byteV (dig1 (UInt8.ofNat v))) w := by
  refine run_index_strb 9 _ k v _ Tryz.underlying9 ?_ w
  have : v = 0 ∨ v = 1 ∨ v = 2 ∨ v = 3 ∨ v = 4 ∨ v = 5 ∨ v = 6 ∨ v = 7 ∨ v = 8 ∨ v = 9 ∨ v = 10 ∨ v = 11 ∨ v = 12 ∨ v = 13 ∨ v = 14 ∨ v = 15 := by omega
  rcases this with rfl | rfl | rfl | rfl | rfl | rfl | rfl | rfl | rfl | rfl | rfl | rfl | rfl | rfl | rfl | rfl <;> rfl
set_option maxRecDepth 100000 in
theorem and15 (n : Int) (h0 : 0 ≤ n) (h1 : n < 256) : bits .and .u8 n 15 = n % 16 := by
  obtain ⟨a, rfl⟩ := Int.eq_ofNat_of_zero_le h0
  have : ∀ a : Nat, a < 256 → bits .and .u8 (a : Int) 15 = (a : Int) % 16 := by decide
  exact this a (by omega)
theorem hex_step (xs : List UInt8) (k : Nat) (c : UInt8) (h : xs[k]? = some c) : hex (xs.take (k + 1)) = hex (xs.take k) ++ [dig1 (c / 16), dig1 (c % 16)] := by
  unfold hex
  rw [List.take_add_one, h]
  simp
set_option maxRecDepth 100000 in
set_option maxHeartbeats 1000000 in
theorem hex_calls (xs : List UInt8) (hx : xs.length = 32) (w : World) :
    Calls Tryz.prog 71 #[.agg (cellsOf xs)] w fun en w' => en = .returned (.string ⟨(hex xs).toArray⟩) ∧ Below w.heap.size w w' := by
  have HX := Lib.hid hx
  obtain ⟨i0, hi0, e⟩ := Option.map_eq_some_iff.1 byteInfo
  simp only [Prod.mk.injEq] at e
  obtain ⟨hz0, hz1, hz2⟩ := e
  obtain ⟨W0, hW0⟩ : ∃ W0, W0 = w.alloc (.cells (cellsOf xs) 84) := ⟨_, rfl⟩
  have hmk0 := run_make (P := Tryz.prog) W0 150 5 i0 (.int .u8 0) Tryz.underlying150 hi0 hz0 .i64 .i64 0 64 (by omega) (by omega) (by rw [hz2]; omega) (by omega)
  rw [hz1] at hmk0
  obtain ⟨W1, hW1⟩ : ∃ W1, W1 = W0.alloc (.cells (madeCells (Value.int .u8 0).cells ((64 : Int).toNat * 1)) 5) := ⟨_, rfl⟩
  have hmk : (Instr.makeSlice 150 (.int .i64 0) (.int .i64 64)).run Tryz.prog W0 = .ok (.slice (some ⟨w.heap.size + 1, 0, none⟩) 0 64) W1 := by
    rw [hW1, hmk0, hW0]
    simp
  have HS1 : Hid (Has W1 w.heap.size 84 (cellsOf xs) ∧ Below w.heap.size w W1 ∧ W1.ownsRow w.heap.size 5 1 (.slice (some ⟨w.heap.size + 1, 0, none⟩) 0 64) 0 [] ∧ w.heap.size ≤ W1.heap.size) := by
    rw [hW1, hW0]
    refine Lib.hid ⟨Has.alloc (made_at _ _ rfl) _, ((Below.refl _ _).alloc (Nat.le_refl _) _).alloc (by simp) _, ⟨rfl, .inr ⟨w.heap.size + 1, 64, _, rfl, by omega, made_at _ _ (by simp), by omega, by unfold maxLen; omega, by rw [size_madeCells]; rfl, rfl⟩⟩, by simp; omega⟩
  have HI := Lib.hid hi0
  have HZ0 := Lib.hid hz0
  have HZ1 := Lib.hid hz1
  have HZ2 := Lib.hid hz2
  have HW0 := Lib.hid hW0
  clear hi0 hz0 hz1 hz2 hmk0 hW1 hx
  rw [hW0] at hmk
  clear hW0
  go_enter Tryz.func71, Tryz.ntmps71
  go_wp2_with (first
    | ((with_reducible refine at_op 7 ?_); refine wpList_load_arr (o := ⟨some 7, _, _, _, _, _⟩) rfl 84 _ rfl w.heap.size rfl _ xs 5 32 HS1.out.1 Tryz.underlying84 (by kernel_rfl) HX.out ?_)
    | fail)
  have S0 : Hid (W1.ownsRow w.heap.size 5 1 (.slice (some ⟨w.heap.size + 1, 0, none⟩) 0 64) (2 * 0) ((hex (xs.take 0)).map byteV) ∧ Below w.heap.size w W1 ∧ w.heap.size ≤ W1.heap.size) := Lib.hid ⟨HS1.out.2.2.1, HS1.out.2.1, HS1.out.2.2.2⟩
  clear hmk HS1 HW0 W0
  go_loopw [3, 8] (fun v i wr => ∃ k : Nat, i = .int .i64 k ∧ k ≤ 32 ∧ Hid (wr.ownsRow w.heap.size 5 1 v (2 * k) ((hex (xs.take k)).map byteV) ∧ Below w.heap.size w wr ∧ w.heap.size ≤ wr.heap.size)) (fun _ i _ => 32 - (intOf i).toNat)
  case atStart => exact ⟨0, rfl, by omega, S0⟩
  case round =>
    obtain ⟨k, rfl, hk, HS⟩ := hrel
    clear S0
    by_cases hkl : k < 32
    · have hk1 : (k : Int) < 32 := by omega
      obtain ⟨c, hc⟩ : ∃ c, xs[k]? = some c := ⟨_, List.getElem?_eq_getElem (by rw [HX.out]; exact hkl)⟩
      have hidx : ∀ w, (Instr.index 84 (.agg (cellsOf xs)) (.int .i64 k)).run Tryz.prog w = .ok (.int .u8 (c.toNat : Nat)) w :=
        run_index_arr 84 5 32 (cellsOf xs) .i64 k _ Tryz.underlying84 (by kernel_rfl) (by kernel_rfl) hkl (cells_at xs k c hc)
      have hct := c.toNat_lt
      obtain ⟨hi, ehi⟩ : ∃ hi, hi = c.toNat / 16 := ⟨_, rfl⟩
      obtain ⟨lo, elo⟩ : ∃ lo, lo = c.toNat % 16 := ⟨_, rfl⟩
      have e1 : (c.toNat : Int) / 16 = (hi : Int) := by omega
      have e2 : bits .and .u8 (c.toNat : Int) 15 = (lo : Int) := by rw [and15 _ (by omega) (by omega)]; omega
      have h1 : ∀ w, _ := run_digit hi .u8 (by omega)
      have h2 : ∀ w, _ := run_digit lo .u8 (by omega)
      have d1 : dig1 (UInt8.ofNat hi) = dig1 (c / 16) := by
        congr 1
        apply UInt8.toNat_inj.1
        simp
        omega
      have d2 : dig1 (UInt8.ofNat lo) = dig1 (c % 16) := by
        congr 1
        apply UInt8.toNat_inj.1
        simp
        omega
      rw [d1] at h1
      rw [d2] at h2
      have HST := Lib.hid (hex_step xs k c hc)
      generalize dig1 (c / 16) = x1 at *
      generalize dig1 (c % 16) = x2 at *
      clear hc ehi elo d1 d2
      unfold byteV at h1 h2
      go_wp2_with fail
      go_region_law (refine step_append_lies _ rfl (.tmp 11) (.tmp 18) 150 rfl w.heap.size 5 i0 (.int .u8 0) 1 1 Tryz.underlying150 HI.out HZ0.out HZ1.out HZ2.out rfl (by decide) u3 (2 * k) _ (by simp [Act.eval]) (by exact (HS.out.1.alloc _).drew) ⟨wr.heap.size, 0, none⟩ 2 2 [byteV x1, byteV x2] (by simp [Act.eval]) rfl (by exact World.news_of_block (heap_alloc_new _ _)) (by simp [byteV, Value.oneCell']) (by decide) (by unfold maxLen; omega) (by omega) (by simp; have := HS.out.2.2; omega) _ rfl ?_
                     intro g cap w' hown hgr _ _
                     have HOWN := Lib.hid hown
                     have HGR := Lib.hid hgr
                     clear hown hgr)
      clear e1 e2 h1 h2 hidx
      all_goals
        have hown := HOWN.out
        have hgr := HGR.out
        rw [show (List.map byteV (hex (xs.take k)) ++ [byteV x1, byteV x2]) = List.map byteV (hex (xs.take (k + 1))) by rw [HST.out, List.map_append]; rfl] at hown
        have HO2 : Hid (w'.ownsRow w.heap.size 5 1 (.slice (some ⟨g, 0, none⟩) (2 * k + 2) cap) (2 * (k + 1)) ((hex (xs.take (k + 1))).map byteV) ∧ Below w.heap.size w w' ∧ w.heap.size ≤ w'.heap.size) := by
          have hb1 := HS.out.2.1.alloc HS.out.2.2 (.cells #[byteV x1, byteV x2] 5)
          refine Lib.hid ⟨hown, hb1.trans ⟨hgr.os, hgr.tape, hgr.output, hgr.size, fun j hj => hgr.block j (by simp; have := HS.out.2.2; omega) (fun e => ?_)⟩, ?_⟩
          · have := own_base HS.out.1 e.symm
            omega
          · have h1 := hgr.size; have h2 := HS.out.2.2; simp at h1; omega
        clear hown hgr HS HOWN HGR
        go_wp2_with fail
        refine ⟨⟨k + 1, by rw [Int.natCast_add]; rfl, by omega, HO2⟩, ?_⟩
        show 32 - ((k : Int) + 1).toNat < 32 - ((k : Int)).toNat
        omega
    · obtain rfl : k = 32 := by omega
      have e1 : xs.take 32 = xs := List.take_of_length_le (by rw [HX.out]; exact Nat.le_refl _)
      rw [e1] at HS
      have ht := own_str (P := Tryz.prog) wr w.heap.size 150 9 5 Tryz.underlying150 Tryz.underlying5 Tryz.underlying9 HS.out.1
      clear e1
      go_wp2_with fail
      go_ret
      exact ⟨rfl, HS.out.2.1⟩
end Go.Proofs.YtcdedkgkingbdaaGreatDoor.dig
end

