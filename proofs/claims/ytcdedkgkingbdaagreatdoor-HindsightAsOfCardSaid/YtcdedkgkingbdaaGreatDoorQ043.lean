/- Texts laid into one: RepI, RepK, RepN. -/
import Derived.Test.YtcdedkgkingbdaaGreatDoorQ041
import Derived.Test.YtcdedkgkingbdaaGreatDoorQ013
import Derived.Maps.RangeWalk
import Derived.Test.YtcdedkgkingbdaaGreatDoorQ042
import Derived.Test.YtcdedkgkingbdaaGreatDoorQ016
import Derived.Test.YtcdedkgkingbdaaGreatDoorQ027
import Derived.Test.YtcdedkgkingbdaaGreatDoorQ028
import Derived.Test.YtcdedkgkingbdaaGreatDoorQ029
section
/- replay: a line forgets the versions below one. -/
namespace Go.Proofs.YtcdedkgkingbdaaGreatDoor.rep
open Go Go.RowKit Go.Maps Go.Proofs.YtcdedkgkingbdaaGreatDoor.object Go.Proofs.YtcdedkgkingbdaaGreatDoor.prn Go.Proofs.YtcdedkgkingbdaaGreatDoor.tws

/-- A step over an empty map: nothing is left. -/
theorem next_none {P : Program} {w : World} {ops : Array Oper} {rest : List Oper} {o : Oper} {a : Act} {Q : Exit → Act → World → Prop} (hg : o.guard = none) (it : Operand) (hop : o.op = Op.next it false) (k : TypeId) (q : IntKind) (K : Keyed P k) (hk : P.underlying k = some (.int q)) (b r n : Nat) (D : DataW Value) (left : Lit → Bool)
    (hit : a.eval it = .pointer (some ⟨r, 0, none⟩)) (h : w.ranges P k anyR b r n D left 0)
    (hDone : wpList P ops Q rest (a.put o.dst (.tuple #[.bool false])) w) : wpList P ops Q (o :: rest) a w :=
  wpList_next_ranges w hg it hop k K anyR (Value.int q) id (fun key kl hkey => by obtain ⟨x, rfl, _⟩ := Maps.keyOf_int_inv hk hkey; exact ⟨x, rfl⟩) (fun v y hv => ⟨v, rfl⟩) b r n D left 0 hit h (fun _ _ => hDone) (fun x c kl y w' cnt' _ _ _ _ _ hlt => absurd hlt (Nat.not_lt_zero _))

theorem marks_keep {k : Int} {C : List Cm} {fl : Nat} {l : List (Int × ByteArray)} (h : Marks k C fl l) (hs : l.Pairwise (fun x y => x.1 < y.1)) (v : Nat) (hv : fl ≤ v) (hn : v ≤ C.length) : Marks k C v (cutK 0 v (insK v (fold k C v).save l)) := fun x => by
  unfold cutK
  rw [List.mem_filter, mem_insK hs x, h x]
  unfold MarkAt
  constructor
  · rintro ⟨rfl | ⟨⟨u, h1, h2, rfl⟩, h3⟩, h4⟩
    · exact ⟨v, .inl rfl, hn, rfl⟩
    · simp at h4
      refine ⟨u, .inr ⟨?_, ?_⟩, h2, rfl⟩
      · have : ((u : Int)) ≠ v := h3
        omega
      · rcases h1 with h1 | h1
        · have : ((u : Int)) ≠ v := h3
          omega
        · exact h1.2
  · rintro ⟨u, h1, h2, rfl⟩
    rcases h1 with rfl | ⟨h1, h3⟩
    · exact ⟨.inl rfl, by simp⟩
    · refine ⟨.inr ⟨⟨u, .inr ⟨by omega, h3⟩, h2, rfl⟩, by show (u : Int) ≠ v; omega⟩, by simp; omega⟩

/-- What lasts while a line forgets. -/
structure Kq (B : Nat) (w0 : World) (b vb tb m : Nat) (v : Value) (lo hi : Nat) (y : Ob) (L : List ByteArray) (fl : Nat) (l : List (Int × ByteArray)) (F1 F2 FF : Nat → Prop) (V : World) : Prop where
  own : Has V b 53 #[.pointer (some ⟨vb, 0, none⟩), v, .pointer (some ⟨tb, 0, none⟩), .map (some m)]
  va : Va B F1 V vb L fl
  st : St V v lo hi y
  tw : Tw V tb l F2
  mp : V.ownsMap Tryz.prog 3 anyR m 0 (.map [])
  ap : Ap B V b m lo hi F1 F2
  turn : Turn FF w0 V
section
variable {B : Nat} {w0 V V' : World} {b vb tb m lo hi fl fl' : Nat} {v : Value} {y : Ob} {L : List ByteArray} {l l' : List (Int × ByteArray)} {F1 F2 FF : Nat → Prop}
theorem Kq.below (h : Kq B w0 b vb tb m v lo hi y L fl l F1 F2 FF V) (t : Below V.heap.size V V') : Kq B w0 b vb tb m v lo hi y L fl l F1 F2 FF V' := by
  have tt := Turn.of_below (F := fun k => V.heap.size ≤ k) t (fun _ _ h => h)
  refine ⟨h.own.below t h.own.lt, h.va.below t, h.st.below t h.ap.rng.2, h.tw.below t, ?_, h.ap.turn t.size, h.turn.trans tt (fun j h1 h2 => by have := h.turn.size; omega)⟩
  obtain ⟨es, clock, h1, h2⟩ := h.mp
  exact ⟨es, clock, (t.block m (map_lt h.mp)).trans h1, h2⟩
/-- The vault turned. -/
theorem Kq.vault (h : Kq B w0 b vb tb m v lo hi y L fl l F1 F2 FF V) (hFF : ∀ j, F1 j → FF j) (s : Va B (fun j => F1 j ∨ V.heap.size ≤ j) V' vb L fl') (t : Turn F1 V V') : Kq B w0 b vb tb m v lo hi y L fl' l (fun j => F1 j ∨ (V.heap.size ≤ j ∧ j < V'.heap.size)) F2 FF V' := by
  have hs := t.size
  have hB := h.va.rt.size
  refine ⟨h.own.turn t (fun e => (h.ap.h1 b e).2.2.1 rfl), s.more (fun j hj e => e.imp id (fun x => ⟨x, hj⟩)) (fun j e => e.elim (fun x => (h.ap.h1 j x).1) (fun x => by omega)), h.st.turn t (fun j a1 a2 e => (h.ap.h1 j e).2.2.2.2.1 ⟨a1, a2⟩), h.tw.turn t (fun j _ hj e => (h.ap.h1 j e).2.2.2.2.2 hj), ?_, ?_, h.turn.trans t (fun j _ e => hFF j e)⟩
  · obtain ⟨es, clock, h1, h2⟩ := h.mp
    exact ⟨es, clock, (t.block m (map_lt h.mp) (fun e => (h.ap.h1 m e).2.2.2.1 rfl)).trans h1, h2⟩
  · have hm := map_lt h.mp
    have hb := h.own.lt
    have hr := h.ap.rng
    refine ⟨⟨hr.1, by omega⟩, h.ap.hb, fun j e => ?_, fun j e => ⟨(h.ap.h2 j e).1, by have := (h.ap.h2 j e).2.1; omega, (h.ap.h2 j e).2.2⟩, h.ap.ho⟩
    rcases e with e | e
    · obtain ⟨x1, x2, x3⟩ := h.ap.h1 j e
      exact ⟨x1, by omega, x3⟩
    · exact ⟨by omega, e.2, by omega, by omega, by omega, fun x => by have := (h.ap.h2 j x).2.1; omega⟩
/-- The list of versions turned. -/
theorem Kq.tower (h : Kq B w0 b vb tb m v lo hi y L fl l F1 F2 FF V) (hFF : ∀ j, F2 j → FF j ∨ w0.heap.size ≤ j) (s : Tw V' tb l' (fun j => F2 j ∨ V.heap.size ≤ j)) (t : Turn F2 V V') : Kq B w0 b vb tb m v lo hi y L fl l' F1 (fun j => F2 j ∨ (V.heap.size ≤ j ∧ j < V'.heap.size)) FF V' := by
  have hs := t.size
  have hB := h.va.rt.size
  refine ⟨h.own.turn t (fun e => (h.ap.h2 b e).2.2.1 rfl), h.va.turn t (fun j hj _ e => (h.ap.h1 j hj).2.2.2.2.2 e) (fun j e => (h.ap.h2 j e).1), h.st.turn t (fun j a1 a2 e => (h.ap.h2 j e).2.2.2.2 ⟨a1, a2⟩), s.more (fun j hj e => e.imp id (fun x => ⟨x, hj⟩)), ?_, ?_, h.turn.trans t (fun j hj e => (hFF j e).elim id (fun x => by omega))⟩
  · obtain ⟨es, clock, h1, h2⟩ := h.mp
    exact ⟨es, clock, (t.block m (map_lt h.mp) (fun e => (h.ap.h2 m e).2.2.2.1 rfl)).trans h1, h2⟩
  · have hm := map_lt h.mp
    have hb := h.own.lt
    have hr := h.ap.rng
    refine ⟨⟨hr.1, by omega⟩, h.ap.hb, fun j e => ?_, fun j e => ?_, h.ap.ho⟩
    · obtain ⟨x1, x2, x3, x4, x5, x6⟩ := h.ap.h1 j e
      exact ⟨x1, by omega, x3, x4, x5, fun z => z.elim x6 (fun z => by omega)⟩
    · rcases e with e | e
      · obtain ⟨x1, x2, x3⟩ := h.ap.h2 j e
        exact ⟨x1, by omega, x3⟩
      · exact ⟨by omega, e.2, by omega, by omega, by omega⟩
end

section
variable {B : Nat} {F G : Nat → Prop} {w w' : World} {b fl : Nat} {k : Int} {C : List Cm}
/-- Behind a Retain that was kept. -/
def RetPost (B : Nat) (F : Nat → Prop) (w : World) (b : Nat) (k : Int) (C : List Cm) (v : Nat) (en : Ending) (w' : World) : Prop :=
  en = .returned .nilIface ∧ Ln B (fun j => F j ∨ w.heap.size ≤ j) w' b k C v ∧ Turn F w w'

set_option maxRecDepth 100000 in
set_option maxHeartbeats 4000000 in
theorem Ln.retain_calls (h0 : Ln B F w b k C fl) (v : Nat) (hv : fl ≤ v) (hn : v ≤ C.length) (hC : C.length ≤ 10000) :
    Calls Tryz.prog 19 #[.pointer (some ⟨b, 0, none⟩), .int .i64 v] w (RetPost B F w b k C v) := by
  have h : Ln B (fun j => F j ∧ j < w.heap.size) w b k C fl := h0.more fun j hl hj => ⟨hj, hl⟩
  have HA := Lib.hid (h0.asof_ok v hv hn hC)
  obtain ⟨vb, tb, m, va, lo, hi, y, l, F1, F2, h1, h2, h3⟩ := h
  have K0 : Hid (Kq B w b vb tb m va lo hi y (texts C) fl l F1 F2 (Fp b m lo hi F1 F2) w) := Lib.hid ⟨h1.own, h1.va, h1.st, h1.tw, h1.mp, h2, Turn.refl _ w⟩
  have HF3 : Hid (∀ j, Fp b m lo hi F1 F2 j → F j ∧ j < w.heap.size) := Lib.hid h3
  have HMK := Lib.hid (marks_keep h1.marks h1.tw.sorted v hv hn)
  have HL : Hid (y.Like (fold k C C.length) ∧ Did k C ∧ (k = 1 ∨ k = 2 ∨ k = 3) ∧ v ≤ C.length ∧ fl ≤ v ∧ C.length ≤ 10000 ∧ l.length ≤ 10001) := Lib.hid ⟨h1.like, h1.did, h1.kk, hn, hv, hC, by have := h1.marks.len h1.tw.sorted; omega⟩
  obtain ⟨g, hg⟩ : ∃ g, g = (fold k C v).save := ⟨_, rfl⟩
  rw [← hg] at HA HMK
  clear h0 h1 h2 h3 hv hn hC hg
  go_enter Tryz.func19, Tryz.ntmps19
  go_wp2_with fail
  refine HA.out.mono ?_
  rintro en w1 ⟨rfl, b1⟩
  have K1 := Lib.hid (K0.out.below b1)
  have c0 : w1.cell? ⟨b, 0, none⟩ = some (.pointer (some ⟨vb, 0, none⟩)) := K1.out.own.cell 0
  have HS1 : Hid (w.heap.size ≤ w1.heap.size) := Lib.hid b1.size
  clear K0 b1 HA
  go_wp2_with fail
  refine (K1.out.va.keep v HL.out.2.2.2.2.1 (by rw [texts_len]; exact HL.out.2.2.2.1)).mono ?_
  rintro en w2 ⟨rfl, va2, t2⟩
  have K2 := Lib.hid (K1.out.vault (fun j e => .inr (.inr (.inr (.inl e)))) va2 t2)
  have c2 : w2.cell? ⟨b, 2, none⟩ = some (.pointer (some ⟨tb, 0, none⟩)) := K2.out.own.cell 2
  have HS2 : Hid (w.heap.size ≤ w2.heap.size) := Lib.hid K2.out.turn.size
  clear K1 c0 va2 t2
  go_wp2_with fail
  refine (K2.out.tw.put_calls (tz_of K2.out.va.rt) v g (by have := HL.out.2.2.2.2.2.2; omega) (by have := HL.out; omega)).mono ?_
  rintro en w3 ⟨was, rfl, _, tw3, t3⟩
  have K3 := Lib.hid (K2.out.tower (fun j e => .inl (.inr (.inr (.inr (.inr e))))) tw3 t3)
  have c3 : w3.cell? ⟨b, 2, none⟩ = some (.pointer (some ⟨tb, 0, none⟩)) := K3.out.own.cell 2
  have HS3 : Hid (w.heap.size ≤ w3.heap.size) := Lib.hid K3.out.turn.size
  clear K2 c2 tw3 t3
  go_wp2_with fail
  refine (K3.out.tw.cut_calls 0 v (by have := HL.out.2.2.2.2.2.2; have := length_insK (v : Int) g l; omega)).mono ?_
  rintro en w4 ⟨rfl, tw4, t4⟩
  have K4 := Lib.hid (K3.out.tower (fun j e => e.elim (fun e => .inl (.inr (.inr (.inr (.inr e))))) (fun e => .inr (by have := K3.out.turn.size; have := HS2.out; omega))) (tw4.more (fun j _ h => .inl h)) t4)
  have c4 : w4.cell? ⟨b, 3, none⟩ = some (.map (some m)) := K4.out.own.cell 3
  have hown : w4.ownsMap Tryz.prog 3 anyR m 0 (.map []) := K4.out.mp
  clear K3 c3 tw4 t4
  go_wp2_with (first
    | (at_range; refine wpList_range_own _ rfl _ 51 rfl 3 44 (int_keyed Tryz.underlying3) Tryz.underlying51 anyR m 0 (.map []) rfl hown ?_; intro w5 hrg0 hg0 hs0)
    | fail)
  try go_frame
  have hrg : w5.ranges Tryz.prog 3 anyR m w4.heap.size 0 (.map []) (Maps.has (.map [])) 0 := hrg0
  have K5 := Lib.hid (K4.out.below (V' := w5) ⟨hg0.os, hg0.tape, hg0.output, hg0.size, fun i hi => hg0.block i hi (by simp)⟩)
  generalize w4.heap.size = r at *
  clear K4 c4 hown hrg0 hg0 hs0
  go_loopw [45] (fun _ wr => wr = w5) (fun _ _ => 0)
  case atStart => rfl
  case round =>
    obtain rfl := hrel
    go_wp2_with (first
      | (at_next; refine next_none rfl _ rfl 3 .i64 (int_keyed Tryz.underlying3) Tryz.underlying3 m r 0 (.map []) _ rfl hrg ?_)
      | fail)
    go_ret
    have D := K5.out
    refine ⟨rfl, ⟨vb, tb, m, va, lo, hi, y, _, _, _, ⟨D.own, D.va, D.st, HL.out.1, D.tw, D.mp, HL.out.2.1, HL.out.2.2.1, HMK.out, HL.out.2.2.2.1⟩, D.ap, fun j hj => ?_⟩, D.turn.more fun j _ e => (HF3.out j e).1⟩
    have h1 := HS1.out
    have h2 := HS2.out
    have h3 := HS3.out
    rcases hj with e | e | e | (e | e) | ((e | e) | e)
    · exact .inl (HF3.out j (.inl e)).1
    · exact .inl (HF3.out j (.inr (.inl e))).1
    · exact .inl (HF3.out j (.inr (.inr (.inl e)))).1
    · exact .inl (HF3.out j (.inr (.inr (.inr (.inl e))))).1
    · exact .inr (by omega)
    · exact .inl (HF3.out j (.inr (.inr (.inr (.inr e))))).1
    · exact .inr (by omega)
    · exact .inr (by omega)
end
end Go.Proofs.YtcdedkgkingbdaaGreatDoor.rep
end

section
/- replay's laws: awake. -/
namespace Go.Proofs.YtcdedkgkingbdaaGreatDoor.rep
open Go Go.RowKit Go.Maps Go.Proofs.YtcdedkgkingbdaaGreatDoor.object Go.Proofs.YtcdedkgkingbdaaGreatDoor.prn Go.Proofs.YtcdedkgkingbdaaGreatDoor.tws

/-- An op that puts a text in. -/
def insO (s : ByteArray) : OpO := ⟨1, ⟨1, 0, s, 0⟩, zL, zS⟩

set_option maxRecDepth 100000 in
set_option maxHeartbeats 1000000 in
theorem insert_calls (s : ByteArray) (w : World) : Calls Tryz.prog 18 #[.string s] w fun en w' => en = .returned (.agg (cmdC (insO s) 0)) ∧ Below w.heap.size w w' := by
  go_enter Tryz.func18, Tryz.ntmps18
  go_wp2_with (first
    | ((with_reducible refine at_store (.tmp 2) ?_); refine wpList_store_all (o := ⟨none, _, _, _, _, _⟩) rfl 60 (.tmp 2) (.tmp 6) rfl w.heap.size (cmdC (insO s) 0) (cmdC ⟨0, zT, zL, zS⟩ 0) rfl rfl _ (made_at _ _ rfl) (by kernel_rfl) rfl (by simp [cmdC, insO, zL, zS, Value.oneCell']) ?_; intro Wb HWb TWb)
    | fail)
  refine bodyPost_ret (v := .agg (cmdC (insO s) 0)) (results_cell_row rfl _ _ w.heap.size 60 _ _ _ rfl HWb Tryz.underlying60 rfl (by kernel_rfl)) rfl ?_
  exact ⟨rfl, ((Below.refl _ _).alloc (Nat.le_refl _) _).trans (TWb.below (by simp) (fun j hj e => by omega))⟩

set_option maxRecDepth 100000 in
set_option maxHeartbeats 1000000 in
theorem lnew_none (w : World) : Calls Tryz.prog 10 #[.int .i64 9] w fun en w' => en = .returned (.pointer none) ∧ w = w' := by
  have HO : Hid (Calls Tryz.prog 38 #[.int .i64 9] w fun en w' => en = .returned .nilIface ∧ w = w') := Lib.hid (by
    go_enter Tryz.func38, Tryz.ntmps38
    go_wp2_with fail
    go_ret
    exact ⟨rfl, rfl⟩)
  go_enter Tryz.func10, Tryz.ntmps10
  go_wp2_with fail
  refine HO.out.mono ?_
  rintro en w1 ⟨rfl, rfl⟩
  go_wp2_with fail
  go_ret
  exact ⟨rfl, rfl⟩

def abS : ByteArray := ⟨#[97, 98]⟩
def cS : ByteArray := ⟨#[99]⟩
def c1 : Cm := ⟨insO abS, 0⟩
def c2 : Cm := ⟨insO cS, 0⟩
theorem act1 : ((fold 1 [] 0).act (insO abS)).2.1 = 0 := by decide
theorem act2 : ((fold 1 [c1] 1).act (insO cS)).2.1 = 0 := by decide
theorem save1 : (fold 1 [c1, c2] 1).save = ⟨#[2, 97, 98]⟩ := by kernel_rfl
theorem save2 : (fold 1 [c1, c2] 2).save = ⟨#[3, 99, 97, 98]⟩ := by kernel_rfl
theorem ins_good {x : Ob} {s : ByteArray} (h : (x.act (insO s)).2.1 = 0) : OpO.Good (insO s) := good_of h (fun _ => ⟨rfl, rfl⟩) (fun e => by have e : (1 : Int) = 2 := e; omega) (fun e => by have e : (1 : Int) = 3 := e; omega)
theorem ins_short {s : ByteArray} (h : s.size ≤ maxLen) : (insO s).Short := ⟨h, z_short.2⟩

/-- A line that was made since w. -/
def Lw (w V : World) (b : Nat) (k : Int) (C : List Cm) (fl : Nat) : Prop := Ln w.heap.size (fun j => w.heap.size ≤ j) V b k C fl ∧ Below w.heap.size w V
section
variable {w V V' : World} {b fl fl' : Nat} {k : Int} {C C' : List Cm}
theorem Lw.below (h : Lw w V b k C fl) (t : Below V.heap.size V V') : Lw w V' b k C fl := ⟨h.1.below t, h.2.trans (t.mono h.2.size)⟩
theorem Lw.next (h : Lw w V b k C fl) (s : Ln w.heap.size (fun j => w.heap.size ≤ j ∨ V.heap.size ≤ j) V' b k C' fl') (t : Turn (fun j => w.heap.size ≤ j) V V') : Lw w V' b k C' fl' :=
  ⟨s.more fun j _ e => e.elim id (fun x => Nat.le_trans h.2.size x), h.2.trans (t.below h.2.size (fun j hj e => by omega))⟩
theorem Lw.did {o : OpO} (h : Lw w V b k C fl) (hs : o.Short) (hC : C.length ≤ 10000) (hg : OpO.Good o) (ha : ((fold k C C.length).act o).2.1 = 0) :
    Calls Tryz.prog 17 #[.pointer (some ⟨b, 0, none⟩), .agg (cmdC o 0)] V fun en w' => (∃ g, en = .returned (.agg #[.int .i64 0, .string g])) ∧ Lw w w' b k (C ++ [⟨o, 0⟩]) fl := by
  refine (ldo_calls h.1 o hs hC (fun _ => hg)).mono ?_
  rintro en w' (⟨_, rfl, s, t⟩ | ⟨e, _⟩)
  · exact ⟨⟨_, rfl⟩, h.next s t⟩
  · exact absurd ha e
theorem Lw.retain (h : Lw w V b k C fl) (v : Nat) (hv : fl ≤ v) (hn : v ≤ C.length) (hC : C.length ≤ 10000) :
    Calls Tryz.prog 19 #[.pointer (some ⟨b, 0, none⟩), .int .i64 v] V fun en w' => en = .returned .nilIface ∧ Lw w w' b k C v := by
  refine (h.1.retain_calls v hv hn hC).mono ?_
  rintro en w' ⟨rfl, s, t⟩
  exact ⟨rfl, h.next s t⟩
end
theorem lw_new (w V : World) (hb : Below w.heap.size w V) (hR : dig.Rt w.heap.size V) (k : Int) (hk : k = 1 ∨ k = 2 ∨ k = 3) :
    Calls Tryz.prog 10 #[.int .i64 k] V fun en w' => ∃ b, en = .returned (.pointer (some ⟨b, 0, none⟩)) ∧ w.heap.size ≤ b ∧ Lw w w' b k [] 0 := by
  refine (lnew_calls w.heap.size V hR k hk).mono ?_
  rintro en w' ⟨b, rfl, h1, h2, h3⟩
  exact ⟨b, rfl, Nat.le_trans hb.size h1, h2.more fun j _ e => Nat.le_trans hb.size e, hb.trans (h3.mono hb.size)⟩

set_option maxRecDepth 100000 in
set_option maxHeartbeats 4000000 in
theorem awake_calls (w : World) (hP : Pw w) : Calls Tryz.prog 8 #[] w fun en w' => en = .returned (.bool true) ∧ Below w.heap.size w w' := by
  have HP := Lib.hid hP
  have hfd : ∀ (e : Int) (g : ByteArray) (w' : World), (Instr.field 57 (.agg #[.int .i64 e, .string g]) 0).run Tryz.prog w' = .ok (.int .i64 e) w' := fun _ _ _ => rfl
  clear hP
  go_enter Tryz.func8, Tryz.ntmps8
  go_wp2_with fail
  refine (lw_new w w (Below.refl _ _) HP.out.rt 1 (.inl rfl)).mono ?_
  rintro en w1 ⟨b, rfl, _, l1⟩
  have L1 := Lib.hid l1
  clear l1
  go_wp2_with fail
  refine (insert_calls abS w1).mono ?_
  rintro en w2 ⟨rfl, b2⟩
  have L2 := Lib.hid (L1.out.below b2)
  clear L1 b2
  go_wp2_with fail
  refine (L2.out.did (o := insO abS) (ins_short (by decide)) (by decide) (ins_good act1) act1).mono ?_
  rintro en w3 ⟨⟨g3, rfl⟩, l3⟩
  have L3 := Lib.hid (show Lw w w3 b 1 [c1] 0 from l3)
  clear L2 l3
  go_wp2_with fail
  refine (insert_calls cS w3).mono ?_
  rintro en w4 ⟨rfl, b4⟩
  have L4 := Lib.hid (L3.out.below b4)
  clear L3 b4
  go_wp2_with fail
  refine (L4.out.did (o := insO cS) (ins_short (by decide)) (by decide) (ins_good act2) act2).mono ?_
  rintro en w5 ⟨⟨g5, rfl⟩, l5⟩
  have L5 := Lib.hid (show Lw w w5 b 1 [c1, c2] 0 from l5)
  clear L4 l5
  go_wp2_with fail
  refine (lnew_none w5).mono ?_
  rintro en w6 ⟨rfl, rfl⟩
  go_wp2_with fail
  refine ((L5.out.1).asof_ok 1 (by decide) (by decide) (by decide)).mono ?_
  rw [save1]
  rintro en w7 ⟨rfl, b7⟩
  have L7 := Lib.hid (L5.out.below b7)
  clear L5 b7
  go_wp2_with fail
  refine (L7.out.retain 1 (by decide) (by decide) (by decide)).mono ?_
  rintro en w8 ⟨rfl, l8⟩
  have L8 := Lib.hid l8
  clear L7 l8
  go_wp2_with fail
  refine ((L8.out.1).asof_bad 0 14 (by decide) (by decide)).mono ?_
  rintro en w9 ⟨e9, rfl, ⟨q, rfl, hq, er, b9⟩⟩
  have L9 := Lib.hid (L8.out.below b9)
  have HE := Lib.hid er
  clear L8 er b9
  go_wp2_with fail
  have hp := path_one (HP.out.below L9.out.2) HE.out (by decide) (by decide) (by decide)
  rw [show flt.pathB [⟨q, versionB, (0 : Int)⟩] 14 = (⟨#[118, 101, 114, 115, 105, 111, 110, 47, 112, 114, 117, 110, 101, 100]⟩ : ByteArray) by kernel_rfl] at hp
  refine hp.mono ?_
  clear hp HE
  rintro en w10 ⟨rfl, b10⟩
  have L10 := Lib.hid (L9.out.below b10)
  clear L9 b10
  go_wp2_with fail
  have hs := L10.out.1.save_calls
  rw [show (fold 1 [c1, c2] [c1, c2].length).save = ⟨#[3, 99, 97, 98]⟩ from save2] at hs
  refine hs.mono ?_
  clear hs
  rintro en w11 ⟨rfl, b11⟩
  have L11 := Lib.hid (L10.out.below b11)
  clear L10 b11
  go_wp2_with fail
  go_ret
  exact ⟨rfl, L11.out.2⟩
end Go.Proofs.YtcdedkgkingbdaaGreatDoor.rep
end

section
/- replay's laws: acts that are handed in. -/
namespace Go.Proofs.YtcdedkgkingbdaaGreatDoor.rep
open Go Go.ChangeShapes Go.WideShapes Go.ChangeAt Go.RowKit Go.Maps Go.Proofs.YtcdedkgkingbdaaGreatDoor.object

/-- An act that is handed in. -/
structure Ap14 where
  kind : Int
  n : Int
  f : Int
  o : OpO
def Ap14.Fits (x : Ap14) : Prop := (-9223372036854775808 ≤ x.n ∧ x.n ≤ 9223372036854775807) ∧ (-9223372036854775808 ≤ x.f ∧ x.f ≤ 9223372036854775807) ∧ x.o.Fits
theorem len15 {cs : List Value} (h : cs.length = 15) : ∃ c0 c1 c2, ∃ ds : List Value, ds.length = 12 ∧ cs = c0 :: c1 :: c2 :: ds := by
  match cs, h with
  | c0 :: c1 :: c2 :: ds, h => exact ⟨c0, c1, c2, ds, by simpa using h, rfl⟩

set_option maxRecDepth 100000 in
theorem ap_of {H : Type} {enc : TypeId × Value → H} {w : World} {spare : Nat → Bool} {held : Bool} {cs : List Value} {n : Nat} {y : DataW H × List MemPlace} (hl : cs.length = 15) (h : DataW.trod enc Tryz.prog w 0 spare held n 41 cs = some y) :
    ∃ x : Ap14, x.Fits ∧ cs = .int .i64 x.kind :: .int .i64 x.n :: .int .i64 x.f :: x.o.cells.toList := by
  obtain ⟨c0, c1, c2, ds, hd, rfl⟩ := len15 hl
  have lt1 : ∀ {m : Nat} {t : TypeId} {l : List Value} {k : Nat} {ys : List (DataW H × List MemPlace)}, DataW.trod enc Tryz.prog w 0 spare held m t l = ys[k]? → k < ys.length → ∃ z, DataW.trod enc Tryz.prog w 0 spare held m t l = some z := fun h1 h2 => ⟨_, h1.trans (List.getElem?_eq_getElem h2)⟩
  obtain ⟨xs, k, _, _, _, hxl, hf⟩ := DataW.trod_struct Tryz.underlying41 h
  have hxl' : xs.length = 4 := hxl
  obtain ⟨z0, t0⟩ := lt1 (hf 0 _ rfl) (by omega)
  obtain ⟨z1, t1⟩ := lt1 (hf 1 _ rfl) (by omega)
  obtain ⟨z2, t2⟩ := lt1 (hf 2 _ rfl) (by omega)
  obtain ⟨z3, t3⟩ := lt1 (hf 3 _ rfl) (by omega)
  obtain ⟨k0, e0, _, f0⟩ := DataW.trod_int Tryz.underlying3 (show DataW.trod enc Tryz.prog w 0 spare held _ 3 [c0] = _ from t0)
  obtain ⟨k1, e1, _, f1⟩ := DataW.trod_int Tryz.underlying3 (show DataW.trod enc Tryz.prog w 0 spare held _ 3 [c1] = _ from t1)
  obtain ⟨k2, e2, _, f2⟩ := DataW.trod_int Tryz.underlying3 (show DataW.trod enc Tryz.prog w 0 spare held _ 3 [c2] = _ from t2)
  have ed : ((c0 :: c1 :: c2 :: ds).drop 3).take 12 = ds := by rw [show (c0 :: c1 :: c2 :: ds).drop 3 = ds from rfl, List.take_of_length_le (by omega)]
  obtain ⟨o, ho, e3⟩ := op_of hd (show DataW.trod enc Tryz.prog w 0 spare held _ 39 ds = _ from (ed ▸ t3 : _))
  simp only [List.cons.injEq, and_true] at e0 e1 e2
  subst e0; subst e1; subst e2; subst e3
  exact ⟨⟨k0, k1, k2, o⟩, ⟨wf_i64 f1, wf_i64 f2, ho⟩, rfl⟩

/-- A slice of acts that is handed in. -/
def ArgA (w : World) (a : Option Addr) (len : Nat) (T : Nat → Ap14) : Prop :=
  len ≤ maxLen ∧ ∀ i, i < len → ∃ b p, a = some ⟨b, p, none⟩ ∧ b < w.heap.size ∧ (T i).Fits ∧
    ∀ j v, ((Value.int .i64 (T i).kind :: .int .i64 (T i).n :: .int .i64 (T i).f :: (T i).o.cells.toList) : List Value)[j]? = some v → w.cell? ⟨b, p + i * 15 + j, none⟩ = some v

set_option maxRecDepth 100000 in
theorem openedA {H : Type} {enc : TypeId × Value → H} {w : World} {spare : Nat → Bool} {held : Bool} {a : Option Addr} {len cap : Nat} {d : DataW H} {p : List MemPlace} (h : DataW.Trod enc Tryz.prog w 0 spare held 22 (.slice a len cap) d p) : ∃ T, ArgA w a len T := by
  obtain ⟨h1, h2, h3⟩ := object.opened_raw (n0 := 15) Tryz.underlying22 (by kernel_rfl) (by decide) h
  have key : ∀ i, i < len → ∃ x : Ap14, ∃ b p, a = some ⟨b, p, none⟩ ∧ b < w.heap.size ∧ x.Fits ∧
      ∀ j v, ((Value.int .i64 x.kind :: .int .i64 x.n :: .int .i64 x.f :: x.o.cells.toList) : List Value)[j]? = some v → w.cell? ⟨b, p + i * 15 + j, none⟩ = some v := fun i hi => by
    obtain ⟨b, q, e, hb, cs, n, y, hl, hd, hc⟩ := h3 i hi
    obtain ⟨x, hx, rfl⟩ := ap_of hl hd
    exact ⟨x, b, q, e, hb, hx, hc⟩
  refine ⟨fun i => if hi : i < len then Classical.choose (key i hi) else ⟨0, 0, 0, ⟨0, zT, zL, zS⟩⟩, Nat.le_trans h1 h2, fun i hi => ?_⟩
  have hs := Classical.choose_spec (key i hi)
  simp only [dif_pos hi]
  exact hs
theorem ArgA.at {w V : World} {a : Option Addr} {len : Nat} {T : Nat → Ap14} (h : ArgA w a len T) (t : Below w.heap.size w V) {i : Nat} (hi : i < len) :
    ∃ b p, a = some ⟨b, p, none⟩ ∧ b < w.heap.size ∧ (T i).Fits ∧
      ∀ j v, ((Value.int .i64 (T i).kind :: .int .i64 (T i).n :: .int .i64 (T i).f :: (T i).o.cells.toList) : List Value)[j]? = some v → V.cell? ⟨b, p + i * 15 + j, none⟩ = some v := by
  obtain ⟨b, p, e, hb, hf, hc⟩ := h.2 i hi
  have ht : ∀ q : Nat, V.cell? ⟨b, q, none⟩ = w.cell? ⟨b, q, none⟩ := fun q => by unfold World.cell?; rw [t.block b hb]
  exact ⟨b, p, e, hb, hf, fun j v hj => (ht _).trans (hc j v hj)⟩

/-- The op of an act. -/
theorem load_act {V : World} {b p : Nat} {x : Ap14} (hc : ∀ j v, ((Value.int .i64 x.kind :: .int .i64 x.n :: .int .i64 x.f :: x.o.cells.toList) : List Value)[j]? = some v → V.cell? ⟨b, p + j, none⟩ = some v) :
    (Instr.loadAt 39 (.pointer (some ⟨b, p + 3, none⟩))).run Tryz.prog V = .ok (.agg x.o.cells) V :=
  run_loadAt_mid V b (p + 3) 39 x.o.cells.toList _ (fun j v hj => by
    rw [Nat.add_assoc]
    refine hc (3 + j) v ?_
    rw [Nat.add_comm 3 j]
    exact hj) Tryz.underlying39 rfl (by kernel_rfl)

/-- An op as Few lays it is good, where it is done. -/
theorem few_good {x : Ob} {o : OpO} (h : (x.act o.few).2.1 = 0) : OpO.Good o.few := by
  refine good_of h (fun e => ?_) (fun e => ?_) (fun e => ?_)
  all_goals
    unfold OpO.few at e ⊢
    split at e
    · rename_i h1; first | (rw [if_pos h1]; exact ⟨rfl, rfl⟩) | (exfalso; have e : (1 : Int) = _ := e; omega)
    · split at e
      · rename_i h1 h2; first | (rw [if_neg h1, if_pos h2]; exact ⟨rfl, rfl⟩) | (exfalso; have e : (2 : Int) = _ := e; omega)
      · split at e
        · rename_i h1 h2 h3; first | (rw [if_neg h1, if_neg h2, if_pos h3]; exact ⟨rfl, rfl⟩) | (exfalso; have e : (3 : Int) = _ := e; omega)
        · exact absurd e (by assumption)
end Go.Proofs.YtcdedkgkingbdaaGreatDoor.rep
end

