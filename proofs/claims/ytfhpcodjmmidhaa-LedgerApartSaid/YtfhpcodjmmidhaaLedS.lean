/- ledger: an op as a struct; slices of ops that are handed in; Do of any op at a book that was reached. -/
import Derived.Test.YtfhpcodjmmidhaaLedR
import Derived.Test.YtfhpcodjmmidhaaLedH
import Derived.Test.YtfhpcodjmmidhaaOpen
namespace Go.Proofs.Ytfhpcodjmmidhaa
open Go.ChangeShapes Go.WideShapes Go.ChangeAt Go.RowKit Go.Maps Go.Sort

/-- An op. -/
structure OpL where
  k : Int
  s : ByteArray
  t : ByteArray
  n : Int

def OpL.cells (o : OpL) : List Value := [.int .i64 o.k, .string o.s, .string o.t, .int .i64 o.n]
def OpL.val (o : OpL) : Value := .agg #[.int .i64 o.k, .string o.s, .string o.t, .int .i64 o.n]
def OpL.few (o : OpL) : OpL := ⟨o.k, few14 o.s, few14 o.t, o.n⟩
def OpL.inv (o : OpL) : OpL := ⟨invK o.k, invS o.k o.s o.t, invT o.k o.s, invN o.k o.n⟩
/-- Short names. -/
def OpL.Short (o : OpL) : Prop := o.s.size ≤ 14 ∧ o.t.size ≤ 14
theorem few_short (o : OpL) : o.few.Short := ⟨few14_size _, few14_size _⟩
theorem inv_short {o : OpL} (h : o.Short) : o.inv.Short := by
  obtain ⟨k, s, t, n⟩ := o
  obtain ⟨h1, h2⟩ := h
  have h1' : s.size ≤ 14 := h1
  have h2' : t.size ≤ 14 := h2
  constructor
  · show (invS k s t).size ≤ 14
    unfold invS
    split <;> assumption
  · show (invT k s).size ≤ 14
    unfold invT
    split
    · assumption
    · exact Nat.zero_le _

section
variable {H : Type}
def doO (D : DataW H) (o : OpL) : DataW H × Int := doL D o.k o.s o.t o.n

theorem invF_doO {D : DataW H} (I : InvF D) (o : OpL) : InvF (doO D o).1 := invF_do I _ _ _ _

theorem bdo_any (d m : Nat) (D : DataW H) (o : OpL) (w : World) (h : Bk w d m D) (I : InvF D) (ho : o.Short) :
    Calls Try.prog 16 #[.pointer (some ⟨d, 0, none⟩), .agg #[.int .i64 o.k, .string o.s, .string o.t, .int .i64 o.n]] w fun en w' => DPost d m w (doO D o) en w' := by
  have h1 := I.small o.s
  have h2 := I.small o.t
  have h3 := I.inv.size
  have h4 := ho.1
  have h5 := ho.2
  exact bdo_calls d m D o.k o.n o.s o.t w h (by unfold maxLen; omega) (by unfold maxLen; omega) (by unfold maxLen; omega) (by omega) (by omega) (by omega) (by omega)

theorem linv_any (o : OpL) (w : World) (h : o.k = 1 ∨ o.k = 2 ∨ o.k = 3) :
    Calls Try.prog 17 #[.agg #[.int .i64 o.k, .string o.s, .string o.t, .int .i64 o.n]] w fun en w' => en = .returned (.agg #[.int .i64 o.inv.k, .string o.inv.s, .string o.inv.t, .int .i64 o.inv.n]) ∧ Below w.heap.size w w' := by
  obtain ⟨k, s, t, n⟩ := o
  refine (linverse_calls k n s t w).mono ?_
  rintro en w' ⟨rfl, b⟩
  refine ⟨?_, b⟩
  have h' : k = 1 ∨ k = 2 ∨ k = 3 := h
  rcases h' with rfl | rfl | rfl <;> rfl

theorem doO_kind {D : DataW H} {o : OpL} (h : (doO D o).2 = 0) : o.k = 1 ∨ o.k = 2 ∨ o.k = 3 := by
  rcases chk_kind (do_chk h) with h | h | h
  · exact .inl h
  · exact .inr (.inl h)
  · exact .inr (.inr h.1)

theorem doO_back {D : DataW H} (I : InvF D) {o : OpL} (h : (doO D o).2 = 0) : (doO (doO D o).1 o.inv).2 = 0 ∧ Alike (doO (doO D o).1 o.inv).1 D := by
  obtain ⟨h1, h2⟩ := do_back I.inv h
  exact ⟨h1, do_good (do_good I.good _ _ _ _) _ _ _ _, I.good, h2⟩

theorem doO_not {D : DataW H} {o : OpL} (h : ¬ (doO D o).2 = 0) : (doO D o).1 = D := do_not h
theorem doO_alike {D D' : DataW H} (a : Alike D D') (o : OpL) : ((doO D o).2 = 0 ↔ (doO D' o).2 = 0) ∧ Alike (doO D o).1 (doO D' o).1 := do_alike a _ _ _ _

end

/-- A slice of ops that is handed in. -/
def ArgL (w : World) (a : Option Addr) (len : Nat) : Prop :=
  len ≤ maxLen ∧ ∀ i, i < len → ∃ b o, a = some ⟨b, o, none⟩ ∧ b < w.heap.size ∧ ∃ (k n : Int) (s t : ByteArray), s.size ≤ maxLen ∧ t.size ≤ maxLen ∧
    w.cell? ⟨b, o + i * 4, none⟩ = some (.int .i64 k) ∧ w.cell? ⟨b, o + i * 4 + 1, none⟩ = some (.string s) ∧ w.cell? ⟨b, o + i * 4 + 2, none⟩ = some (.string t) ∧ w.cell? ⟨b, o + i * 4 + 3, none⟩ = some (.int .i64 n)

theorem openedL {H : Type} {enc : TypeId × Value → H} {w : World} {spare : Nat → Bool} {held : Bool} {a : Option Addr} {len cap : Nat} {d : DataW H} {p : List MemPlace} (h : DataW.Trod enc Try.prog w 0 spare held 22 (.slice a len cap) d p) : ArgL w a len := by
  obtain ⟨h1, h2, h3⟩ := opened_rows Try.underlying22 Try.underlying29 (by kernel_rfl) (by kernel_rfl) (by decide) h
  refine ⟨Nat.le_trans h1 h2, fun i hi => ?_⟩
  obtain ⟨b, o, e, hb, hf⟩ := h3 i hi
  obtain ⟨v0, n0, y0, c0, t0⟩ := hf 0 _ rfl
  obtain ⟨v1, n1, y1, c1, t1⟩ := hf 1 _ rfl
  obtain ⟨v2, n2, y2, c2, t2⟩ := hf 2 _ rfl
  obtain ⟨v3, n3, y3, c3, t3⟩ := hf 3 _ rfl
  obtain ⟨k, ek, _, _⟩ := DataW.trod_int Try.underlying3 t0
  obtain ⟨s, es, _, hs⟩ := DataW.trod_string Try.underlying9 t1
  obtain ⟨t, et, _, ht⟩ := DataW.trod_string Try.underlying9 t2
  obtain ⟨n, en, _, _⟩ := DataW.trod_int Try.underlying3 t3
  simp only [List.cons.injEq, and_true] at ek et es en
  subst ek; subst et; subst es; subst en
  exact ⟨b, o, e, hb, k, n, s, t, hs, ht, c0, c1, c2, c3⟩

theorem ArgL.turn {w wr : World} {a : Option Addr} {len : Nat} (h : ArgL w a len) (t : Turn (fun j => w.heap.size ≤ j) w wr) : ArgL wr a len := by
  refine ⟨h.1, fun i hi => ?_⟩
  obtain ⟨b, o, e, hb, k, n, x, y, hx, hy, c0, c1, c2, c3⟩ := h.2 i hi
  have ht : ∀ q : Nat, wr.cell? ⟨b, q, none⟩ = w.cell? ⟨b, q, none⟩ := fun q => Turn.cell t hb (fun h3 => Nat.not_lt_of_le h3 hb)
  exact ⟨b, o, e, Nat.lt_of_lt_of_le hb t.size, k, n, x, y, hx, hy, by rw [ht]; exact c0, by rw [ht]; exact c1, by rw [ht]; exact c2, by rw [ht]; exact c3⟩

/-- Two moves of the same names in one. -/
theorem lfew_any (o : OpL) (w : World) (hs : o.s.size ≤ maxLen) (ht : o.t.size ≤ maxLen) :
    Calls Try.prog 15 #[.agg #[.int .i64 o.k, .string o.s, .string o.t, .int .i64 o.n]] w fun en w' => en = .returned (.agg #[.int .i64 o.few.k, .string o.few.s, .string o.few.t, .int .i64 o.few.n]) ∧ Below w.heap.size w w' := lfew_calls o.k o.n o.s o.t w hs ht

end Go.Proofs.Ytfhpcodjmmidhaa
