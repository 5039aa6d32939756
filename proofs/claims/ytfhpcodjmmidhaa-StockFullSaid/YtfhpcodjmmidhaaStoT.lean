/- stock: an op as a struct; slices of ops that are handed in; Few; awake. -/
import Derived.Test.YtfhpcodjmmidhaaStoL
import Derived.Test.YtfhpcodjmmidhaaOpen
namespace Go.Proofs.Ytfhpcodjmmidhaa.stock
open Go.ChangeShapes Go.WideShapes Go.ChangeAt Go.RowKit Go.Maps Go.Sort

/-- An op. -/
structure OpS where
  k : Int
  s : ByteArray
  n : Int

def few14 (s : ByteArray) : ByteArray := s.extract 0 14
theorem few14_size (s : ByteArray) : (few14 s).size ≤ 14 := by
  unfold few14
  rw [ByteArray.size_extract]
  omega
def OpS.cells (o : OpS) : List Value := [.int .i64 o.k, .string o.s, .int .i64 o.n]
def OpS.few (o : OpS) : OpS := ⟨o.k, few14 o.s, o.n⟩
def OpS.inv (o : OpS) : OpS := ⟨3 - o.k, o.s, o.n⟩
def OpS.Short (o : OpS) : Prop := o.s.size ≤ 14
theorem few_short (o : OpS) : o.few.Short := few14_size _
theorem inv_short {o : OpS} (h : o.Short) : o.inv.Short := h

section
variable {H : Type}
def doO (D : DataW H) (o : OpS) : DataW H × Int := doS D o.k o.s o.n
theorem invS_doO {D : DataW H} (I : InvS D) (o : OpS) : InvS (doO D o).1 := (doS_inv I _ _ _).1
theorem size_doO {D : DataW H} (I : InvS D) (o : OpS) : Maps.size (doO D o).1 ≤ Maps.size D + 1 := (doS_inv I _ _ _).2

theorem sdo_any (d m : Nat) (D : DataW H) (o : OpS) (w : World) (h : Sk w d m D) (I : InvS D) (ho : o.Short) :
    Calls Try.prog 28 #[.pointer (some ⟨d, 0, none⟩), .agg #[.int .i64 o.k, .string o.s, .int .i64 o.n]] w fun en w' => SPost d m w (doO D o) en w' :=
  sdo_calls d m D o.k o.n o.s w h I (by have : o.s.size ≤ 14 := ho; unfold maxLen; omega)

theorem sinv_any (o : OpS) (w : World) (h : o.k = 1 ∨ o.k = 2) :
    Calls Try.prog 29 #[.agg #[.int .i64 o.k, .string o.s, .int .i64 o.n]] w fun en w' => en = .returned (.agg #[.int .i64 o.inv.k, .string o.inv.s, .int .i64 o.inv.n]) ∧ Below w.heap.size w w' := sinverse_calls o.k o.n o.s w h

theorem doO_kind {D : DataW H} {o : OpS} (h : (doO D o).2 = 0) : o.k = 1 ∨ o.k = 2 := (chkS_ok (doS_chk h)).1
theorem doO_back {D : DataW H} (I : InvS D) {o : OpS} (h : (doO D o).2 = 0) : (doO (doO D o).1 o.inv).2 = 0 ∧ Alike (doO (doO D o).1 o.inv).1 D := doS_back I h
theorem doO_not {D : DataW H} {o : OpS} (h : ¬ (doO D o).2 = 0) : (doO D o).1 = D := doS_not h
theorem doO_alike {D D' : DataW H} (a : Alike D D') (I' : InvS D') (o : OpS) : ((doO D o).2 = 0 ↔ (doO D' o).2 = 0) ∧ Alike (doO D o).1 (doO D' o).1 := doS_alike a I' _ _ _
end

/-- A slice of ops that is handed in. -/
def ArgS (w : World) (a : Option Addr) (len : Nat) : Prop :=
  len ≤ maxLen ∧ ∀ i, i < len → ∃ b o, a = some ⟨b, o, none⟩ ∧ b < w.heap.size ∧ ∃ (k n : Int) (s : ByteArray), s.size ≤ maxLen ∧
    w.cell? ⟨b, o + i * 3, none⟩ = some (.int .i64 k) ∧ w.cell? ⟨b, o + i * 3 + 1, none⟩ = some (.string s) ∧ w.cell? ⟨b, o + i * 3 + 2, none⟩ = some (.int .i64 n)

theorem openedS {H : Type} {enc : TypeId × Value → H} {w : World} {spare : Nat → Bool} {held : Bool} {a : Option Addr} {len cap : Nat} {d : DataW H} {p : List MemPlace} (h : DataW.Trod enc Try.prog w 0 spare held 44 (.slice a len cap) d p) : ArgS w a len := by
  obtain ⟨h1, h2, h3⟩ := opened_rows Try.underlying44 Try.underlying48 (by kernel_rfl) (by kernel_rfl) (by decide) h
  refine ⟨Nat.le_trans h1 h2, fun i hi => ?_⟩
  obtain ⟨b, o, e, hb, hf⟩ := h3 i hi
  obtain ⟨v0, n0, y0, c0, t0⟩ := hf 0 _ rfl
  obtain ⟨v1, n1, y1, c1, t1⟩ := hf 1 _ rfl
  obtain ⟨v2, n2, y2, c2, t2⟩ := hf 2 _ rfl
  obtain ⟨k, ek, _, _⟩ := DataW.trod_int Try.underlying3 t0
  obtain ⟨s, es, _, hs⟩ := DataW.trod_string Try.underlying9 t1
  obtain ⟨n, en, _, _⟩ := DataW.trod_int Try.underlying3 t2
  simp only [List.cons.injEq, and_true] at ek es en
  subst ek; subst es; subst en
  exact ⟨b, o, e, hb, k, n, s, hs, c0, c1, c2⟩

theorem ArgS.turn {w wr : World} {a : Option Addr} {len : Nat} (h : ArgS w a len) (t : Turn (fun j => w.heap.size ≤ j) w wr) : ArgS wr a len := by
  refine ⟨h.1, fun i hi => ?_⟩
  obtain ⟨b, o, e, hb, k, n, x, hx, c0, c1, c2⟩ := h.2 i hi
  have ht : ∀ q : Nat, wr.cell? ⟨b, q, none⟩ = w.cell? ⟨b, q, none⟩ := fun q => Turn.cell t hb (fun h3 => Nat.not_lt_of_le h3 hb)
  exact ⟨b, o, e, Nat.lt_of_lt_of_le hb t.size, k, n, x, hx, by rw [ht]; exact c0, by rw [ht]; exact c1, by rw [ht]; exact c2⟩

theorem cutN_any (s : ByteArray) (n : Nat) (w : World) (hn : n ≤ 1000000) (hs : s.size ≤ maxLen) : Calls Try.prog 31 #[.string s, .int .i64 n] w fun en w' => en = .returned (.string (s.extract 0 n)) ∧ w = w' := cut_any s n w hn hs

set_option maxRecDepth 100000 in
set_option maxHeartbeats 400000 in
theorem sfew_calls (k n : Int) (s : ByteArray) (w : World) (hs : s.size ≤ maxLen) :
    Calls Try.prog 27 #[.agg #[.int .i64 k, .string s, .int .i64 n]] w fun en w' => en = .returned (.agg #[.int .i64 k, .string (few14 s), .int .i64 n]) ∧ Below w.heap.size w w' := by
  go_enter Try.func27, Try.ntmps27
  go_wp2_with fail
  refine (cutN_any s 14 _ (by omega) hs).mono ?_
  rintro en w1 ⟨rfl, rfl⟩
  rw [show s.extract 0 14 = few14 s from rfl]
  go_wp2_with fail
  refine bodyPost_ret (v := .agg #[.int .i64 k, .string (few14 s), .int .i64 n]) (by simp [results, Try.results27, go_sem]) rfl ⟨rfl, turn_box ?_⟩
  repeat (first | exact Turn.refl _ _ | refine Turn.drew ?_ | refine Turn.alloc ?_ _ | refine Turn.put ?_ (fun h => by omega) _ _)
theorem sfew_any (o : OpS) (w : World) (hs : o.s.size ≤ maxLen) :
    Calls Try.prog 27 #[.agg #[.int .i64 o.k, .string o.s, .int .i64 o.n]] w fun en w' => en = .returned (.agg #[.int .i64 o.few.k, .string o.few.s, .int .i64 o.few.n]) ∧ Below w.heap.size w w' := sfew_calls o.k o.n o.s w hs

/-- A shelf that was reached, made since w. -/
structure Own1 (H : Type) (w : World) (d m : Nat) (D : DataW H) (V : World) : Prop where
  bk : Sk V d m D
  inv : InvS D
  newd : w.heap.size ≤ d
  newm : w.heap.size ≤ m
  turn : Turn (fun j => w.heap.size ≤ j) w V

section
variable {H : Type} {w V V' : World} {d m : Nat} {D D' : DataW H}
theorem Own1.more (h : Own1 H w d m D V) (t : Turn (fun j => V.heap.size ≤ j) V V') : Own1 H w d m D V' :=
  ⟨h.bk.turn t (Nat.not_le_of_lt h.bk.box.lt) (Nat.not_le_of_lt (World.ownsMap.lt h.bk.map)), h.inv, h.newd, h.newm, h.turn.trans t (fun _ _ e => Nat.le_trans h.turn.size e)⟩
theorem Own1.below (h : Own1 H w d m D V) (b : Below V.heap.size V V') : Own1 H w d m D V' := h.more (Turn.of_below b (fun _ _ e => e))
theorem Own1.did (h : Own1 H w d m D V) (e : Sk V' d m D') (f : InvS D') (g : V.grownBy V' (some m)) : Own1 H w d m D' V' :=
  ⟨e, f, h.newd, h.newm, h.turn.trans (Turn.of_grown (F := fun j => j = m) g rfl) (fun j _ e => by rw [e]; exact h.newm)⟩
/-- Another shelf has turned. -/
theorem Own1.far (h : Own1 H w d m D V) {d2 m2 : Nat} {D2 : DataW H} (h2 : Own1 H w d2 m2 D2 V) (hne : m ≠ m2) (g : V.grownBy V' (some m2)) : Own1 H w d m D V' :=
  ⟨h.bk.kept g (fun e => by injection e with e; exact h2.bk.map.ne h.bk.box e.symm) (fun e => by injection e with e; exact hne e), h.inv, h.newd, h.newm, h.turn.trans (Turn.of_grown (F := fun j => j = m2) g rfl) (fun j _ e => by rw [e]; exact h2.newm)⟩
theorem Own1.ends (h : Own1 H w d m D V) : Below w.heap.size w V := h.turn.below (Nat.le_refl _) (fun j hj e => by omega)
end

section
variable {H : Type}
def nut : ByteArray := ⟨#[110, 117, 116]⟩
def opN (k n : Int) : OpS := ⟨k, ⟨#[110, 117, 116]⟩, n⟩
def DN1 : DataW H := (doO (.map []) (opN 1 5)).1
def DN2 : DataW H := (doO DN1 (opN 2 5)).1
theorem nut_ne : (⟨#[110, 117, 116]⟩ : ByteArray) ≠ .empty := by decide
theorem n1_ok : (doO (.map [] : DataW H) (opN 1 5)).2 = 0 :=
  (doS_ok invS_new).2 ⟨chkS_of (.inl rfl) nut_ne (by decide) (by decide) (by decide), fun _ => ⟨fun _ => by show (0 : Nat) < 16; omega, by show amt (.map []) _ + 5 ≤ _; rw [amt_absent rfl]; decide⟩, fun e => absurd (show (1 : Int) = 2 from e) (by decide)⟩
theorem n1_amt (x : ByteArray) : amt (DN1 (H := H)) x = if x = ⟨#[110, 117, 116]⟩ then 5 else 0 := by
  have := doS_amt (H := H) invS_new n1_ok x
  refine this.trans ?_
  rw [amt_absent rfl]
  show 0 + dltS 1 ⟨#[110, 117, 116]⟩ 5 x = _
  unfold dltS
  simp
theorem n1_inv : InvS (DN1 (H := H)) := invS_doO invS_new _
theorem n1_short : (doO (DN1 (H := H)) (opN 2 6)).2 = 11 := by
  have hc : chkS 2 ⟨#[110, 117, 116]⟩ 6 = 0 := chkS_of (.inr rfl) nut_ne (by decide) (by decide) (by decide)
  have ha := n1_amt (H := H) ⟨#[110, 117, 116]⟩
  rw [if_pos rfl] at ha
  show (doS DN1 2 ⟨#[110, 117, 116]⟩ 6).2 = 11
  rw [doS_of hc, if_neg (by decide)]
  unfold tkS
  rw [if_neg (by rw [(n1_inv.isIn_iff _).2 (by rw [ha]; decide)]; simp), if_pos (by rw [ha]; decide)]
theorem n2_ok : (doO (DN1 (H := H)) (opN 2 5)).2 = 0 :=
  (doS_ok n1_inv).2 ⟨chkS_of (.inr rfl) nut_ne (by decide) (by decide) (by decide), fun e => absurd (show (2 : Int) = 1 from e) (by decide), fun _ => by
    have ha := n1_amt (H := H) ⟨#[110, 117, 116]⟩
    rw [if_pos rfl] at ha
    show (5 : Int) ≤ amt DN1 ⟨#[110, 117, 116]⟩
    rw [ha]; decide⟩
theorem n2_inv : InvS (DN2 (H := H)) := invS_doO n1_inv _
theorem n2_names : namesD (DN2 (H := H)) = [] := by
  refine List.eq_nil_iff_forall_not_mem.2 (fun x hx => ?_)
  have h1 := ((mem_namesD (n2_inv (H := H)).good x).1 hx).2
  have h2 := (n2_inv.isIn_iff _).1 h1
  have h3 := doS_amt (H := H) n1_inv n2_ok ⟨x.toArray⟩
  have h4 : amt (DN2 (H := H)) ⟨x.toArray⟩ = amt DN1 ⟨x.toArray⟩ + dltS 2 ⟨#[110, 117, 116]⟩ 5 ⟨x.toArray⟩ := h3
  rw [n1_amt] at h4
  unfold dltS at h4
  rw [if_neg (show ¬ (2 : Int) = 1 by decide)] at h4
  split at h4 <;> omega
end

set_option maxRecDepth 100000 in
set_option maxHeartbeats 1000000 in
theorem lawake_any (w : World) : Calls Try.prog 24 #[] w fun en w' => en = .returned (.bool true) ∧ Below w.heap.size w w' := by
  have hcd : ((11 : Int) == 11) = true := rfl
  go_enter Try.func24, Try.ntmps24
  go_wp2_with fail
  refine (snew_calls (H := Unit) w).mono ?_
  rintro en w1 ⟨d, m, rfl, h1, b1, hd, hm⟩
  have H1 : Hid (Own1 Unit w d m (.map []) w1) := ⟨h1, invS_new, hd, hm, Turn.of_below b1 (fun _ _ e => e)⟩
  clear h1 b1 hd hm
  go_wp2_with fail
  refine (sdo_any d m (.map []) (opN 1 5) w1 H1.out.bk invS_new (by show (3 : Nat) ≤ 14; omega)).mono ?_
  rintro en w2 ⟨rfl, h2, g2⟩
  rw [n1_ok]
  have H2 : Hid (Own1 Unit w d m DN1 w2) := H1.out.did h2 n1_inv g2
  clear h2 g2 H1
  go_wp2_with fail
  refine (scount_calls d m DN1 ⟨#[110, 117, 116]⟩ w2 H2.out.bk (by decide)).mono ?_
  rintro en w3 ⟨rfl, rfl⟩
  rw [n1_amt, if_pos rfl]
  go_wp2_with fail
  refine (sdo_any d m DN1 (opN 2 6) _ H2.out.bk n1_inv (by show (3 : Nat) ≤ 14; omega)).mono ?_
  rintro en w4 ⟨rfl, h4, g4⟩
  have hs := n1_short (H := Unit)
  have hne := doO_not (H := Unit) (D := DN1) (o := opN 2 6) (by rw [hs]; decide)
  rw [hne] at h4
  rw [hs]
  have H4 : Hid (Own1 Unit w d m DN1 w4) := H2.out.did h4 n1_inv g4
  clear h4 g4 H2 hs hne
  go_wp2_with fail
  refine (sdo_any d m DN1 (opN 2 5) w4 H4.out.bk n1_inv (by show (3 : Nat) ≤ 14; omega)).mono ?_
  rintro en w5 ⟨rfl, h5, g5⟩
  rw [n2_ok]
  have H5 : Hid (Own1 Unit w d m DN2 w5) := H4.out.did h5 n2_inv g5
  clear h5 g5 H4
  go_wp2_with fail
  refine (snames_calls d m DN2 w5 H5.out.bk n2_inv).mono ?_
  rintro en w6 ⟨v, rfl, hrow, b6⟩
  rw [n2_names] at hrow
  obtain ⟨va, vc, rfl⟩ := own_slice hrow
  have H6 := Lib.hid (H5.out.below b6)
  clear hrow b6 H5
  go_wp2_with fail
  go_ret
  exact ⟨rfl, H6.out.ends⟩

end Go.Proofs.Ytfhpcodjmmidhaa.stock
