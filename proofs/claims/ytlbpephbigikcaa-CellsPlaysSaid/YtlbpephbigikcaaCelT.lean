/- cells: accesses that are handed in; the memory beside the document's list; what either Do tells, in one word. -/
import Derived.Test.YtlbpephbigikcaaCelD
import Derived.Test.YtlbpephbigikcaaCelS
import Derived.ProofKit
import Derived.OpenShut
import Derived.Deep.MidRow
import Derived.Deep.SlicePairs
import Derived.ChangeOld
namespace Go.Proofs.Ytlbpephbigikcaa.cel
open Go Go.ChangeShapes Go.WideShapes Go.ChangeAt Go.RowKit Go.Maps

/-- The elements of a slice that is handed in, as cells that read. -/
theorem opened_raw {H : Type} {enc : TypeId × Value → H} {P : Program} {w : World} {spare : Nat → Bool} {held : Bool} {t e : TypeId} {n0 : Nat}
    (ht : P.underlying t = some (.slice e)) (hC : P.cellsOf e = n0) (h0 : 0 < n0)
    {a : Option Addr} {len cap : Nat} {d : DataW H} {p : List MemPlace} (h : DataW.Trod enc P w 0 spare held t (.slice a len cap) d p) :
    len ≤ cap ∧ cap ≤ maxLen ∧ ∀ i, i < len → ∃ b o, a = some ⟨b, o, none⟩ ∧ b < w.heap.size ∧ ∃ (cs : List Value) (n : Nat) (y : DataW H × List MemPlace), cs.length = n0 ∧ DataW.trod enc P w 0 spare held n e cs = some y ∧
      ∀ j v, cs[j]? = some v → w.cell? ⟨b, o + i * n0 + j, none⟩ = some v := by
  obtain ⟨fuel, h⟩ := h
  rcases Go.Deep.open_slice ht h with ⟨hn, _⟩ | ⟨g, l, c, m, n, D, Pl, hn, _, hlc, hcm, hm, _, hall⟩
  · simp [Value.cells] at hn
    obtain ⟨rfl, rfl, rfl⟩ := hn
    exact ⟨Nat.le_refl _, Nat.zero_le _, fun i hi => absurd hi (Nat.not_lt_zero _)⟩
  · simp [Value.cells] at hn
    obtain ⟨rfl, rfl, rfl⟩ := hn
    refine ⟨hlc, hcm, fun i hi => ?_⟩
    obtain ⟨cs, hc, hd⟩ := hall i (by rw [hm]; split <;> omega)
    rw [hC] at hc
    obtain ⟨_, hcl, hat⟩ := World.cells?_some hc
    obtain ⟨gb, go, gs⟩ := g
    have hcell : ∀ j, j < n0 → ∃ v, cs[j]? = some v ∧ w.cell? (((⟨gb, go, gs⟩ : Addr).add (i * n0)).add j) = some v := fun j hj => by
      have hv : cs[j]? = some (cs[j]'(by omega)) := List.getElem?_eq_getElem (by omega)
      exact ⟨_, hv, by rw [hat j hj, hv]⟩
    have hs : gs = none := by
      obtain ⟨cs0, hc0, _⟩ := hall 0 (by rw [hm]; split <;> omega)
      rw [hC, Nat.zero_mul] at hc0
      obtain ⟨_, hcl0, hat0⟩ := World.cells?_some hc0
      have hv : cs0[0]? = some (cs0[0]'(by omega)) := List.getElem?_eq_getElem (by omega)
      have h1 := World.cell?_spot ((hat0 0 h0).trans hv)
      simpa [Addr.add] using h1
    subst hs
    have hb : gb < w.heap.size := by
      obtain ⟨v, _, hv⟩ := hcell 0 h0
      rw [Addr.add_mid, Addr.add_mid] at hv
      rcases Nat.lt_or_ge gb w.heap.size with k | k
      · exact k
      · unfold World.cell? at hv
        simp [Array.getElem?_eq_none k] at hv
    refine ⟨gb, go, rfl, hb, cs, _, _, hcl, hd, fun j v hj => ?_⟩
    have hjl : j < cs.length := (List.getElem?_eq_some_iff.1 hj).1
    obtain ⟨v', hv', hw⟩ := hcell j (by omega)
    rw [hj] at hv'
    injection hv' with hv'
    subst hv'
    rw [Addr.add_mid, Addr.add_mid] at hw
    exact hw

/-- An access that is handed in. -/
structure Ac where
  who : Int
  k : Int
  z : Int
  old : ByteArray
  new : ByteArray

def Ac.Fits (x : Ac) : Prop := cel.Fits x.who ∧ cel.Fits x.z ∧ x.old.size ≤ maxLen ∧ x.new.size ≤ maxLen

theorem fits_of {n : Int} (h : (Lit.int .i64 n).wf = true) : cel.Fits n := by
  have m0 : IntKind.i64.min = -9223372036854775808 := by decide
  have m1 : IntKind.i64.max = 9223372036854775807 := by decide
  have h' : (decide (IntKind.i64.min ≤ n) && decide (n ≤ IntKind.i64.max)) = true := h
  rw [m0, m1] at h'
  simpa [cel.Fits] using h'

theorem len5 {cs : List Value} (h : cs.length = 5) : ∃ c0 c1 c2 c3 c4, cs = [c0, c1, c2, c3, c4] := by
  match cs, h with
  | [c0, c1, c2, c3, c4], _ => exact ⟨c0, c1, c2, c3, c4, rfl⟩

set_option maxRecDepth 100000 in
theorem ac_of {H : Type} {enc : TypeId × Value → H} {w : World} {spare : Nat → Bool} {held : Bool} {cs : List Value} {n : Nat} {y : DataW H × List MemPlace} (hl : cs.length = 5) (h : DataW.trod enc Try.prog w 0 spare held n 30 cs = some y) :
    ∃ x : Ac, x.Fits ∧ cs = [.int .i64 x.who, .int .i64 x.k, .int .i64 x.z, .string x.old, .string x.new] := by
  obtain ⟨c0, c1, c2, c3, c4, rfl⟩ := len5 hl
  have lt1 : ∀ {m : Nat} {t : TypeId} {l : List Value} {k : Nat} {ys : List (DataW H × List MemPlace)}, DataW.trod enc Try.prog w 0 spare held m t l = ys[k]? → k < ys.length → ∃ z, DataW.trod enc Try.prog w 0 spare held m t l = some z := fun h1 h2 => ⟨_, h1.trans (List.getElem?_eq_getElem h2)⟩
  obtain ⟨xs, k, _, _, _, hxl, hf⟩ := DataW.trod_struct Try.underlying30 h
  have hxl' : xs.length = 2 := hxl
  obtain ⟨z0, t0⟩ := lt1 (hf 0 _ rfl) (by omega)
  obtain ⟨z1, t1⟩ := lt1 (hf 1 _ rfl) (by omega)
  obtain ⟨as', ka, _, _, _, hal, ha⟩ := DataW.trod_struct Try.underlying28 (cs := [c1, c2, c3, c4]) t1
  have hal' : as'.length = 4 := hal
  obtain ⟨_, a0⟩ := lt1 (ha 0 _ rfl) (by omega)
  obtain ⟨_, a1⟩ := lt1 (ha 1 _ rfl) (by omega)
  obtain ⟨_, a2⟩ := lt1 (ha 2 _ rfl) (by omega)
  obtain ⟨_, a3⟩ := lt1 (ha 3 _ rfl) (by omega)
  obtain ⟨k0, e0, _, f0⟩ := DataW.trod_int Try.underlying3 (show DataW.trod enc Try.prog w 0 spare held _ 3 [c0] = _ from t0)
  obtain ⟨k1, e1, _, f1⟩ := DataW.trod_int Try.underlying3 (show DataW.trod enc Try.prog w 0 spare held _ 3 [c1] = _ from a0)
  obtain ⟨k2, e2, _, f2⟩ := DataW.trod_int Try.underlying3 (show DataW.trod enc Try.prog w 0 spare held _ 3 [c2] = _ from a1)
  obtain ⟨s3, e3, _, f3⟩ := DataW.trod_string Try.underlying9 (show DataW.trod enc Try.prog w 0 spare held _ 9 [c3] = _ from a2)
  obtain ⟨s4, e4, _, f4⟩ := DataW.trod_string Try.underlying9 (show DataW.trod enc Try.prog w 0 spare held _ 9 [c4] = _ from a3)
  simp only [List.cons.injEq, and_true] at e0 e1 e2 e3 e4
  subst e0; subst e1; subst e2; subst e3; subst e4
  exact ⟨⟨k0, k1, k2, s3, s4⟩, ⟨fits_of f0, fits_of f2, f3, f4⟩, rfl⟩

/-- A slice of accesses that is handed in. -/
def ArgA (w : World) (a : Option Addr) (len : Nat) (T : Nat → Ac) : Prop :=
  len ≤ maxLen ∧ ∀ i, i < len → ∃ b p, a = some ⟨b, p, none⟩ ∧ b < w.heap.size ∧ (T i).Fits ∧
    w.cell? ⟨b, p + i * 5, none⟩ = some (.int .i64 (T i).who) ∧ w.cell? ⟨b, p + i * 5 + 1, none⟩ = some (.int .i64 (T i).k) ∧ w.cell? ⟨b, p + i * 5 + 2, none⟩ = some (.int .i64 (T i).z) ∧
    w.cell? ⟨b, p + i * 5 + 3, none⟩ = some (.string (T i).old) ∧ w.cell? ⟨b, p + i * 5 + 4, none⟩ = some (.string (T i).new)

set_option maxRecDepth 100000 in
theorem openedA {H : Type} {enc : TypeId × Value → H} {w : World} {spare : Nat → Bool} {held : Bool} {a : Option Addr} {len cap : Nat} {d : DataW H} {p : List MemPlace} (h : DataW.Trod enc Try.prog w 0 spare held 22 (.slice a len cap) d p) : ∃ T, ArgA w a len T := by
  obtain ⟨h1, h2, h3⟩ := opened_raw (n0 := 5) Try.underlying22 (by kernel_rfl) (by decide) h
  have key : ∀ i, i < len → ∃ x : Ac, ∃ b p, a = some ⟨b, p, none⟩ ∧ b < w.heap.size ∧ x.Fits ∧
      w.cell? ⟨b, p + i * 5, none⟩ = some (.int .i64 x.who) ∧ w.cell? ⟨b, p + i * 5 + 1, none⟩ = some (.int .i64 x.k) ∧ w.cell? ⟨b, p + i * 5 + 2, none⟩ = some (.int .i64 x.z) ∧
      w.cell? ⟨b, p + i * 5 + 3, none⟩ = some (.string x.old) ∧ w.cell? ⟨b, p + i * 5 + 4, none⟩ = some (.string x.new) := fun i hi => by
    obtain ⟨b, q, e, hb, cs, n, y, hl, hd, hc⟩ := h3 i hi
    obtain ⟨x, hx, rfl⟩ := ac_of hl hd
    exact ⟨x, b, q, e, hb, hx, hc 0 _ rfl, hc 1 _ rfl, hc 2 _ rfl, hc 3 _ rfl, hc 4 _ rfl⟩
  refine ⟨fun i => if hi : i < len then Classical.choose (key i hi) else ⟨0, 0, 0, ⟨#[]⟩, ⟨#[]⟩⟩, Nat.le_trans h1 h2, fun i hi => ?_⟩
  have hs := Classical.choose_spec (key i hi)
  simp only [dif_pos hi]
  exact hs

theorem act_at {w V : World} {a : Option Addr} {len : Nat} {T : Nat → Ac} (h : ArgA w a len T) (t : Turn (fun j => w.heap.size ≤ j) w V) {i : Nat} (hi : i < len) :
    ∃ b p, a = some ⟨b, p, none⟩ ∧ b < w.heap.size ∧ (T i).Fits ∧
      V.cell? ⟨b, p + i * 5, none⟩ = some (.int .i64 (T i).who) ∧ V.cell? ⟨b, p + i * 5 + 1, none⟩ = some (.int .i64 (T i).k) ∧ V.cell? ⟨b, p + i * 5 + 2, none⟩ = some (.int .i64 (T i).z) ∧
      V.cell? ⟨b, p + i * 5 + 3, none⟩ = some (.string (T i).old) ∧ V.cell? ⟨b, p + i * 5 + 4, none⟩ = some (.string (T i).new) := by
  obtain ⟨b, p, e, hb, hf, c0, c1, c2, c3, c4⟩ := h.2 i hi
  have ht : ∀ q : Nat, V.cell? ⟨b, q, none⟩ = w.cell? ⟨b, q, none⟩ := fun q => t.cell hb (by simpa using hb)
  exact ⟨b, p, e, hb, hf, (ht _).trans c0, (ht _).trans c1, (ht _).trans c2, (ht _).trans c3, (ht _).trans c4⟩

section
variable {H : Type}

/-- The memory holds what the list says. -/
structure Same (n : Nat) (T : Nat → ByteArray) (N : Nat → Int) (D : DataW H) (a : Int) (l : List Dn) : Prop where
  text : ∀ k, textAt n T k = holds l k
  swaps : ∀ k, swapsAt n N k = (swaps l k : Int)
  count : ∀ p, cnt D p = (count l p : Int)
  all : a = (l.length : Int)

theorem same_none (n : Nat) : Same n noT noN (.map [] : DataW H) 0 [] :=
  ⟨fun k => by unfold textAt noT holds; split <;> rfl, fun k => by unfold swapsAt noN cel.swaps; split <;> rfl, fun p => by rw [cnt_none]; rfl, rfl⟩

theorem text_upd {n j : Nat} (T : Nat → ByteArray) (s : ByteArray) (hj : j < n) (k : Int) : textAt n (upd T j s) k = if k = (j : Int) then s else textAt n T k := by
  unfold textAt upd
  by_cases e : k = (j : Int)
  · subst e
    rw [if_pos ⟨by omega, by omega⟩, if_pos (Int.toNat_natCast j), if_pos rfl]
  · rw [if_neg e]
    by_cases h : 0 ≤ k ∧ k < (n : Int)
    · rw [if_pos h, if_pos h, if_neg (by omega)]
    · rw [if_neg h, if_neg h]
theorem swaps_upd {n j : Nat} (N : Nat → Int) (s : Int) (hj : j < n) (k : Int) : swapsAt n (upd N j s) k = if k = (j : Int) then s else swapsAt n N k := by
  unfold swapsAt upd
  by_cases e : k = (j : Int)
  · subst e
    rw [if_pos ⟨by omega, by omega⟩, if_pos (Int.toNat_natCast j), if_pos rfl]
  · rw [if_neg e]
    by_cases h : 0 ≤ k ∧ k < (n : Int)
    · rw [if_pos h, if_pos h, if_neg (by omega)]
    · rw [if_neg h, if_neg h]

theorem holds_snoc (l : List Dn) (x : Dn) (z : Int) : holds (l ++ [x]) z = stepH z (holds l z) x := by unfold holds; rw [List.foldl_append]; rfl
theorem swaps_snoc (l : List Dn) (x : Dn) (z : Int) : swaps (l ++ [x]) z = stepS z (swaps l z) x := by unfold swaps; rw [List.foldl_append]; rfl
theorem count_snoc (l : List Dn) (x : Dn) (z : Int) : count (l ++ [x]) z = stepC z (count l z) x := by unfold count; rw [List.foldl_append]; rfl

variable {n : Nat} {T : Nat → ByteArray} {N : Nat → Int} {D : DataW H} {a : Int} {l : List Dn}

theorem Same.did (h : Same n T N D a l) {j : Nat} (hj : j < n) {k : Int} (hk1 : 1 ≤ k) (hk3 : k ≤ 3) (old : ByteArray) : did k (T j) old = isD l k (j : Int) old := by
  have ht : T j = holds l (j : Int) := by rw [← h.text, text_at T hj]
  unfold cel.did isD
  by_cases e : k = 3
  · rw [if_pos e, if_neg (by omega), ht]
  · rw [if_neg e, if_pos (by omega)]

theorem Same.more (h : Same n T N D a l) (hD : IsMap D) {j : Nat} (hj : j < n) (p k : Int) (hk1 : 1 ≤ k) (hk3 : k ≤ 3) (old new : ByteArray) :
    Same n (upd T j (aftT k (T j) old new)) (upd N j (aftN k (T j) old (N j))) (more1 D p) (a + 1) (l ++ [⟨p, k, (j : Int), old, new, isD l k (j : Int) old⟩]) := by
  have ht : T j = holds l (j : Int) := by rw [← h.text, text_at T hj]
  have hn : N j = (cel.swaps l (j : Int) : Int) := by rw [← h.swaps, swaps_at N hj]
  refine ⟨fun q => ?_, fun q => ?_, fun q => ?_, by rw [h.all, List.length_append]; rfl⟩
  · rw [text_upd _ _ hj, holds_snoc]
    unfold stepH
    by_cases e : q = (j : Int)
    · subst e
      rw [if_pos rfl, ht]
      unfold aftT isD
      rcases (show k = 1 ∨ k = 2 ∨ k = 3 by omega) with rfl | rfl | rfl
      · simp
      · simp
      · by_cases e2 : holds l (j : Int) = old
        · simp [e2]
        · simp [e2]
    · rw [if_neg e, h.text, if_neg (fun e2 => e e2.1.symm)]
  · rw [swaps_upd _ _ hj, swaps_snoc]
    unfold stepS
    by_cases e : q = (j : Int)
    · subst e
      rw [if_pos rfl, ht, hn]
      unfold aftN isD
      by_cases e3 : k = 3
      · subst e3
        by_cases e2 : holds l (j : Int) = old
        · simp [e2]
        · simp [e2]
      · rw [if_neg (fun e => e3 e.1), if_neg (fun e => e3 e.2.1)]
    · rw [if_neg e, h.swaps, if_neg (fun e2 => e e2.1.symm)]
  · rw [cnt_more hD, count_snoc]
    unfold stepC
    by_cases e : q = p
    · subst e
      rw [if_pos rfl, if_pos rfl, h.count]; rfl
    · rw [if_neg e, if_neg (fun e2 => e e2.symm), h.count]

/-- What is told of an access, whatever it is: what the cell held, was it done, the error's number; the list then. -/
def Out (l : List Dn) (n : Nat) (p k z : Int) (old new : ByteArray) (s : ByteArray) (b : Bool) (e : Int) (l' : List Dn) : Prop :=
  (¬ (0 ≤ z ∧ z < (n : Int)) ∧ s = ⟨#[]⟩ ∧ b = false ∧ e = 6 ∧ l' = l) ∨ (0 ≤ z ∧ z < (n : Int) ∧ (k < 1 ∨ 3 < k) ∧ s = ⟨#[]⟩ ∧ b = false ∧ e = 5 ∧ l' = l) ∨
  (0 ≤ z ∧ z < (n : Int) ∧ 1 ≤ k ∧ k ≤ 3 ∧ s = holds l z ∧ b = isD l k z old ∧ e = 0 ∧ l' = l ++ [⟨p, k, z, old, new, isD l k z old⟩])

theorem out_any (l : List Dn) (n : Nat) (p k z : Int) (old new : ByteArray) : ∃ s b e l', Out l n p k z old new s b e l' := by
  by_cases h : 0 ≤ z ∧ z < (n : Int)
  · by_cases h2 : k < 1 ∨ 3 < k
    · exact ⟨_, _, _, _, .inr (.inl ⟨h.1, h.2, h2, rfl, rfl, rfl, rfl⟩)⟩
    · exact ⟨_, _, _, _, .inr (.inr ⟨h.1, h.2, by omega, by omega, rfl, rfl, rfl, rfl⟩)⟩
  · exact ⟨_, _, _, _, .inl ⟨h, rfl, rfl, rfl, rfl⟩⟩

theorem Out.len {l l' : List Dn} {n : Nat} {p k z : Int} {old new s : ByteArray} {b : Bool} {e : Int} (h : Out l n p k z old new s b e l') : l'.length ≤ l.length + 1 := by
  rcases h with ⟨_, _, _, _, rfl⟩ | ⟨_, _, _, _, _, _, rfl⟩ | ⟨_, _, _, _, _, _, _, rfl⟩
  · omega
  · omega
  · simp

variable {w V : World} {d c m : Nat}

def AnyPost (H : Type) (w : World) (d c m n : Nat) (s : ByteArray) (b : Bool) (e : Int) (l' : List Dn) (V : World) (en : Ending) (w' : World) : Prop :=
  ∃ (T : Nat → ByteArray) (N : Nat → Int) (D : DataW H) (a : Int), en = .returned (.tuple #[.string s, .bool b, .int .i64 e]) ∧ Own w d c m n T N D a w' ∧ Same n T N D a l' ∧ Turn (fun b => b = d ∨ b = c ∨ b = m) V w'

theorem Own.any (h : Own w d c m n T N D a V) (hs : Same n T N D a l) (hl : l.length ≤ 1000) (p k z : Int) (old new : ByteArray) (hp : Fits p) {s : ByteArray} {b : Bool} {e : Int} {l' : List Dn} (ho : Out l n p k z old new s b e l') :
    Calls Try.prog 7 #[.pointer (some ⟨d, 0, none⟩), .int .i64 p, .agg #[.int .i64 k, .int .i64 z, .string old, .string new]] V (AnyPost H w d c m n s b e l' V) := by
  rcases ho with ⟨h1, rfl, rfl, rfl, rfl⟩ | ⟨h1, h2, h3, rfl, rfl, rfl, rfl⟩ | ⟨h1, h2, h3, h4, rfl, rfl, rfl, rfl⟩
  · refine (h.mem.do_range p k z old new h1).mono ?_
    rintro en w' ⟨rfl, hb⟩
    exact ⟨T, N, D, a, rfl, h.below hb, hs, Turn.of_below hb (fun _ h1 h2 => absurd h2 (by omega))⟩
  · refine (h.mem.do_kind p k z old new h1 h2 h3).mono ?_
    rintro en w' ⟨rfl, hb⟩
    exact ⟨T, N, D, a, rfl, h.below hb, hs, Turn.of_below hb (fun _ h1 h2 => absurd h2 (by omega))⟩
  · obtain ⟨j, rfl⟩ : ∃ j : Nat, z = (j : Int) := ⟨z.toNat, by omega⟩
    have hj : j < n := by omega
    refine (h.do_turn p k j old new hj h3 h4 hp (by rw [hs.all]; omega) _ rfl _ rfl _ rfl _ rfl).mono ?_
    rintro en w' ⟨rfl, h5, h6⟩
    refine ⟨_, _, _, _, ?_, h5, hs.more h.tidy.isMap hj p k h3 h4 old new, h6⟩
    rw [hs.did hj h3 h4, ← hs.text, text_at T hj]

def RAnyPost (B : Nat) (s : ByteArray) (b : Bool) (e : Int) (l' : List Dn) (w : World) (en : Ending) (w' : World) : Prop :=
  ∃ r, en = .returned (.tuple #[r, .string s, .bool b, .int .i64 e]) ∧ Lst B w' r l' ∧ Below w.heap.size w w'

theorem Lst.any {B : Nat} {v : Value} (h : Lst B V v l) (hB : B ≤ V.heap.size) (hl : l.length ≤ 1000) (p k z : Int) (old new : ByteArray) {s : ByteArray} {b : Bool} {e : Int} {l' : List Dn} (ho : Out l n p k z old new s b e l') :
    Calls Try.prog 8 #[v, .int .i64 n, .int .i64 p, .agg #[.int .i64 k, .int .i64 z, .string old, .string new]] V (RAnyPost B s b e l' V) := by
  rcases ho with ⟨h1, rfl, rfl, rfl, rfl⟩ | ⟨h1, h2, h3, rfl, rfl, rfl, rfl⟩ | ⟨h1, h2, h3, h4, rfl, rfl, rfl, rfl⟩
  · refine (rdo_range v n p k z old new V h1).mono ?_
    rintro en w' ⟨rfl, hb⟩
    exact ⟨v, rfl, h.below hb, hb⟩
  · refine (rdo_kind v n p k z old new V h1 h2 h3).mono ?_
    rintro en w' ⟨rfl, hb⟩
    exact ⟨v, rfl, h.below hb, hb⟩
  · refine (rdo_calls B v l n p k z old new V h hB hl h1 h2 h3 h4).mono ?_
    rintro en w' ⟨r, rfl, h5, h6⟩
    exact ⟨r, rfl, h5, h6⟩
end
end Go.Proofs.Ytlbpephbigikcaa.cel
