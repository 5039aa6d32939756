/- Texts laid into one: PrcO, PrdS, PrdA, PrdB. -/
import Derived.Test.YtbpcfkniflgmfaaY002
import Derived.Test.YtbpcfkniflgmfaaY003
import Derived.ProofKit
import Derived.OpenShut
import Derived.Deep.MidRow
import Derived.Deep.SlicePairs
import Derived.ChangeOld
import Derived.Test.YtbpcfkniflgmfaaY000
section
/- proc: the memory's cells beside wishes and slots; records that may be; a process's block beside the process. -/
namespace Go.Proofs.Ytbpcfkniflgmfaa.prc
open Go Go.RowKit Go.Maps

/-- What each cell holds, and how many Swaps of it were done. -/
def cellT (P : Nat) (A : Ab) (i : Nat) : ByteArray := if i < P then txo (A.W i) else txo (A.S (i - P))
def cellN (P : Nat) (A : Ab) (i : Nat) : Int := if i < P then 0 else match A.S (i - P) with | none => 0 | some _ => 1

theorem cellT_wish {P : Nat} (A : Ab) {i : Nat} (h : i < P) : cellT P A i = txo (A.W i) := if_pos h
theorem cellT_slot (P : Nat) (A : Ab) (k : Nat) : cellT P A (P + k) = txo (A.S k) := by
  unfold cellT
  rw [if_neg (by omega), Nat.add_sub_cancel_left]
theorem cellN_slot (P : Nat) (A : Ab) (k : Nat) : cellN P A (P + k) = match A.S k with | none => 0 | some _ => 1 := by
  unfold cellN
  rw [if_neg (by omega), Nat.add_sub_cancel_left]

theorem cellT_setW {P : Nat} (A : Ab) {i : Nat} (h : i < P) (r : Rc) : cel.upd (cellT P A) i (tx r) = cellT P { A with W := up A.W i (some r) } := by
  funext j
  unfold cel.upd cellT
  by_cases e : j = i
  · subst e
    rw [if_pos rfl, if_pos h]
    show _ = txo (up A.W j (some r) j)
    rw [up_same]
    rfl
  · rw [if_neg e]
    show _ = if j < P then txo (up A.W i (some r) j) else _
    rw [up_other _ _ e]
theorem cellN_setW (P : Nat) (A : Ab) (W : Nat → Option Rc) : cellN P { A with W := W } = cellN P A := rfl
theorem cellT_setS (P : Nat) (A : Ab) (k : Nat) (r : Rc) : cel.upd (cellT P A) (P + k) (tx r) = cellT P { A with S := up A.S k (some r) } := by
  funext j
  unfold cel.upd cellT
  by_cases e : j = P + k
  · subst e
    rw [if_pos rfl, if_neg (by omega), Nat.add_sub_cancel_left]
    show _ = txo (up A.S k (some r) k)
    rw [up_same]
    rfl
  · rw [if_neg e]
    by_cases h : j < P
    · rw [if_pos h, if_pos h]
    · rw [if_neg h, if_neg h]
      show _ = txo (up A.S k (some r) (j - P))
      rw [up_other _ _ (by omega)]
theorem cellN_setS (P : Nat) (A : Ab) (k : Nat) (r : Rc) : cel.upd (cellN P A) (P + k) 1 = cellN P { A with S := up A.S k (some r) } := by
  funext j
  unfold cel.upd cellN
  by_cases e : j = P + k
  · subst e
    rw [if_pos rfl, if_neg (by omega), Nat.add_sub_cancel_left]
    show _ = match up A.S k (some r) k with | none => (0 : Int) | some _ => 1
    rw [up_same]
  · rw [if_neg e]
    by_cases h : j < P
    · rw [if_pos h, if_pos h]
    · rw [if_neg h, if_neg h]
      show _ = match up A.S k (some r) (j - P) with | none => (0 : Int) | some _ => 1
      rw [up_other _ _ (by omega)]

/-- Each record may be. -/
structure Fit (P : Nat) (A : Ab) : Prop where
  slot : ∀ k r, A.S k = some r → r.Fits
  wish : ∀ i r, A.W i = some r → r.Fits
  mine : ∀ i, i < P → (mine A i).Fits
  offer : ∀ i, (A.X i).next = 4 → (A.X i).offer.Fits

theorem Fit.put {P : Nat} {A : Ab} (h : Fit P A) (i : Nat) (x : Pc) (e1 : x.seq = (A.X i).seq) (e2 : x.body = (A.X i).body) (h4 : x.next = 4 → x.offer.Fits) : Fit P (put A i x) := by
  have k := put_same A i x e1 e2
  refine ⟨h.slot, h.wish, fun j hj => ?_, fun j => ?_⟩
  · have := h.mine j hj
    unfold prc.mine at this ⊢
    rw [(k j).1, (k j).2]
    exact this
  · rw [put_X]
    split
    · exact h4
    · exact h.offer j

theorem Fit.sees {P L : Nat} {A : Ab} (h : Fit P A) (i : Nat) (r : Rc) : Fit P (sees L A i r).1 := by
  unfold prc.sees
  split
  · exact h.put i _ rfl rfl (fun e => absurd e (by show ¬ 0 = 4; omega))
  · split
    · exact h.put i _ rfl rfl (fun e => absurd e (by show ¬ 0 = 4; omega))
    · exact h.put i _ rfl rfl (fun e => absurd e (by show ¬ 2 = 4; omega))

theorem Fit.step {P L : Nat} {A : Ab} (h : Fit P A) {i : Nat} (hi : i < P) : Fit P (step P L A i).1 := by
  unfold prc.step
  split
  · have hw : Fit P { A with W := up A.W i (some (prc.mine A i)) } := ⟨h.slot, fun j r hr => by
      have hr' : up A.W i (some (prc.mine A i)) j = some r := hr
      unfold up at hr'
      split at hr'
      · injection hr' with e; rw [← e]; exact h.mine i hi
      · exact h.wish j r hr', h.mine, h.offer⟩
    unfold prc.wishes
    split
    · exact hw.put i _ rfl rfl (fun e => absurd e (by show ¬ 0 = 4; omega))
    · exact hw.put i _ rfl rfl (fun e => absurd e (by show ¬ 2 = 4; omega))
  · unfold prc.looks
    split
    · exact h.sees i _
    · exact h.put i _ rfl rfl (fun e => absurd e (by show ¬ 3 = 4; omega))
  · refine h.put i _ rfl rfl (fun _ => ?_)
    show (choose A i (A.W ((A.X i).at_ % P))).Fits
    rcases choose_or A i (A.W ((A.X i).at_ % P)) with e | ⟨r, hw, _, e⟩
    · rw [e]; exact h.mine i hi
    · rw [e]; exact h.wish _ r hw
  · rename_i e4
    unfold prc.decides
    split
    · exact h.sees i _
    · refine Fit.sees (A := { A with S := up A.S (A.X i).at_ (some (A.X i).offer) }) ⟨fun k r hr => ?_, h.wish, h.mine, h.offer⟩ i _
      have hr' : up A.S (A.X i).at_ (some (A.X i).offer) k = some r := hr
      unfold up at hr'
      split at hr'
      · injection hr' with e; rw [← e]; exact h.offer i e4
      · exact h.slot k r hr'
  · rename_i e5
    unfold prc.heads
    split
    · exact h.put i _ rfl rfl (fun e => absurd e (by show ¬ 0 = 4; omega))
    · exact h.put i _ rfl rfl (fun e => absurd e (by show ¬ (A.X i).next = 4; omega))
  · exact h

theorem Fit.begins {P : Nat} {A : Ab} (h : Fit P A) (i : Nat) {s : ByteArray} (hi : i ≤ 63) (h1 : (A.X i).seq + 1 ≤ 1099511627776) (h2 : s.size ≤ 1024) : Fit P (begins A i s) := by
  refine ⟨h.slot, h.wish, fun j hj => ?_, fun j => ?_⟩
  · have hm := h.mine j hj
    unfold prc.mine prc.begins at *
    rw [put_X]
    split
    · rename_i e; subst e; exact ⟨hi, h1, h2⟩
    · exact hm
  · unfold prc.begins
    rw [put_X]
    split
    · intro e; exact absurd e (by show ¬ 1 = 4; omega)
    · exact h.offer j

theorem Fit.begHead {P : Nat} {A : Ab} (h : Fit P A) (i : Nat) : Fit P (begHead A i) :=
  h.put i _ rfl rfl (fun e => absurd e (by show ¬ 5 = 4; omega))

/-- A process's block beside the process i. -/
structure Rx (P L : Nat) (A : Ab) (i : Nat) (x : Px) : Prop where
  procs : x.procs = P
  slots : x.slots = L
  who : x.who = i
  seq : x.seq = (A.X i).seq
  seen : x.seen = (A.X i).at_
  next : x.next = if (A.X i).next = 5 ∧ L ≤ (A.X i).at_ then 6 else ((A.X i).next : Int)
  last : ∀ k, k < 64 → x.last k = kn A.S k (A.X i).at_
  own : 1 ≤ (A.X i).next → (A.X i).next ≤ 4 → x.own = tx (mine A i)
  offer : (A.X i).next = 4 → x.offer = tx (A.X i).offer

/-- The memory at block d, made since w, beside wishes and slots; at most K accesses were made. -/
def Mm (w : World) (d c m P L : Nat) (A : Ab) (K : Nat) (V : World) : Prop :=
  ∃ (D : DataW Unit) (a : Int), cel.Own w d c m (P + L) (cellT P A) (cellN P A) D a V ∧ a ≤ K

end Go.Proofs.Ytbpcfkniflgmfaa.prc
end

section
/- proc: acts that are handed in. -/
namespace Go.Proofs.Ytbpcfkniflgmfaa.prc
open Go Go.ChangeShapes Go.WideShapes Go.ChangeAt Go.RowKit Go.Maps

/-- The elements of a slice that is handed in, as cells that read. -/
theorem opened_raw {H : Type} {enc : TypeId × Value → H} {P : Program} {w : World} {spare : Nat → Bool} {held : Bool} {t e : TypeId} {n0 : Nat}
    (ht : P.underlying t = some (.slice e)) (hC : P.cellsOf e = n0) (h0 : 0 < n0)
    {a : Option Addr} {len cap : Nat} {d : DataW H} {p : List MemPlace} (h : DataW.Trod enc P w 0 spare held t (.slice a len cap) d p) :
    len ≤ cap ∧ cap ≤ maxLen ∧ ∀ i, i < len → ∃ b o, a = some ⟨b, o, none⟩ ∧ b < w.heap.size ∧ ∃ (cs : List Value) (n : Nat) (y : DataW H × List MemPlace), cs.length = n0 ∧ DataW.trod enc P w 0 spare held n e cs = some y ∧
      ∀ j v, cs[j]? = some v → w.cell? ⟨b, o + i * n0 + j, none⟩ = some v := by
  obtain ⟨fuel, h⟩ := h
  rcases Go.Deep.open_slice ht h with ⟨hn, _⟩ | ⟨g, l, c, m, n, D, Pl, hn, _, hlc, hcm, hm, _, hall⟩
  · simp [Value.cells] at hn
    obtain ⟨rfl, rfl, rfl⟩ := hn
    exact ⟨Nat.le_refl _, Nat.zero_le _, fun i hi => absurd hi (Nat.not_lt_zero _)⟩
  · simp [Value.cells] at hn
    obtain ⟨rfl, rfl, rfl⟩ := hn
    refine ⟨hlc, hcm, fun i hi => ?_⟩
    obtain ⟨cs, hc, hd⟩ := hall i (by rw [hm]; split <;> omega)
    rw [hC] at hc
    obtain ⟨_, hcl, hat⟩ := World.cells?_some hc
    obtain ⟨gb, go, gs⟩ := g
    have hcell : ∀ j, j < n0 → ∃ v, cs[j]? = some v ∧ w.cell? (((⟨gb, go, gs⟩ : Addr).add (i * n0)).add j) = some v := fun j hj => by
      have hv : cs[j]? = some (cs[j]'(by omega)) := List.getElem?_eq_getElem (by omega)
      exact ⟨_, hv, by rw [hat j hj, hv]⟩
    have hs : gs = none := by
      obtain ⟨cs0, hc0, _⟩ := hall 0 (by rw [hm]; split <;> omega)
      rw [hC, Nat.zero_mul] at hc0
      obtain ⟨_, hcl0, hat0⟩ := World.cells?_some hc0
      have hv : cs0[0]? = some (cs0[0]'(by omega)) := List.getElem?_eq_getElem (by omega)
      have h1 := World.cell?_spot ((hat0 0 h0).trans hv)
      simpa [Addr.add] using h1
    subst hs
    have hb : gb < w.heap.size := by
      obtain ⟨v, _, hv⟩ := hcell 0 h0
      rw [Addr.add_mid, Addr.add_mid] at hv
      rcases Nat.lt_or_ge gb w.heap.size with k | k
      · exact k
      · unfold World.cell? at hv
        simp [Array.getElem?_eq_none k] at hv
    refine ⟨gb, go, rfl, hb, cs, _, _, hcl, hd, fun j v hj => ?_⟩
    have hjl : j < cs.length := (List.getElem?_eq_some_iff.1 hj).1
    obtain ⟨v', hv', hw⟩ := hcell j (by omega)
    rw [hj] at hv'
    injection hv' with hv'
    subst hv'
    rw [Addr.add_mid, Addr.add_mid] at hw
    exact hw

/-- An act that is handed in. -/
structure Ak where
  kind : Int
  who : Int
  body : ByteArray

def Ak.Fits (x : Ak) : Prop := cel.Fits x.kind ∧ cel.Fits x.who ∧ x.body.size ≤ maxLen

theorem fits_of {n : Int} (h : (Lit.int .i64 n).wf = true) : cel.Fits n := by
  have m0 : IntKind.i64.min = -9223372036854775808 := by decide
  have m1 : IntKind.i64.max = 9223372036854775807 := by decide
  have h' : (decide (IntKind.i64.min ≤ n) && decide (n ≤ IntKind.i64.max)) = true := h
  rw [m0, m1] at h'
  simpa [cel.Fits] using h'

theorem len3 {cs : List Value} (h : cs.length = 3) : ∃ c0 c1 c2, cs = [c0, c1, c2] := by
  match cs, h with
  | [c0, c1, c2], _ => exact ⟨c0, c1, c2, rfl⟩

set_option maxRecDepth 100000 in
theorem ak_of {H : Type} {enc : TypeId × Value → H} {w : World} {spare : Nat → Bool} {held : Bool} {cs : List Value} {n : Nat} {y : DataW H × List MemPlace} (hl : cs.length = 3) (h : DataW.trod enc Try.prog w 0 spare held n 36 cs = some y) :
    ∃ x : Ak, x.Fits ∧ cs = [.int .i64 x.kind, .int .i64 x.who, .string x.body] := by
  obtain ⟨c0, c1, c2, rfl⟩ := len3 hl
  have lt1 : ∀ {m : Nat} {t : TypeId} {l : List Value} {k : Nat} {ys : List (DataW H × List MemPlace)}, DataW.trod enc Try.prog w 0 spare held m t l = ys[k]? → k < ys.length → ∃ z, DataW.trod enc Try.prog w 0 spare held m t l = some z := fun h1 h2 => ⟨_, h1.trans (List.getElem?_eq_getElem h2)⟩
  obtain ⟨xs, k, _, _, _, hxl, hf⟩ := DataW.trod_struct Try.underlying36 h
  have hxl' : xs.length = 3 := hxl
  obtain ⟨z0, t0⟩ := lt1 (hf 0 _ rfl) (by omega)
  obtain ⟨z1, t1⟩ := lt1 (hf 1 _ rfl) (by omega)
  obtain ⟨z2, t2⟩ := lt1 (hf 2 _ rfl) (by omega)
  obtain ⟨k0, e0, _, f0⟩ := DataW.trod_int Try.underlying3 (show DataW.trod enc Try.prog w 0 spare held _ 3 [c0] = _ from t0)
  obtain ⟨k1, e1, _, f1⟩ := DataW.trod_int Try.underlying3 (show DataW.trod enc Try.prog w 0 spare held _ 3 [c1] = _ from t1)
  obtain ⟨s2, e2, _, f2⟩ := DataW.trod_string Try.underlying9 (show DataW.trod enc Try.prog w 0 spare held _ 9 [c2] = _ from t2)
  simp only [List.cons.injEq, and_true] at e0 e1 e2
  subst e0; subst e1; subst e2
  exact ⟨⟨k0, k1, s2⟩, ⟨fits_of f0, fits_of f1, f2⟩, rfl⟩

/-- A slice of acts that is handed in. -/
def ArgK (w : World) (a : Option Addr) (len : Nat) (T : Nat → Ak) : Prop :=
  len ≤ maxLen ∧ ∀ i, i < len → ∃ b p, a = some ⟨b, p, none⟩ ∧ b < w.heap.size ∧ (T i).Fits ∧
    w.cell? ⟨b, p + i * 3, none⟩ = some (.int .i64 (T i).kind) ∧ w.cell? ⟨b, p + i * 3 + 1, none⟩ = some (.int .i64 (T i).who) ∧ w.cell? ⟨b, p + i * 3 + 2, none⟩ = some (.string (T i).body)

set_option maxRecDepth 100000 in
theorem openedK {H : Type} {enc : TypeId × Value → H} {w : World} {spare : Nat → Bool} {held : Bool} {a : Option Addr} {len cap : Nat} {d : DataW H} {p : List MemPlace} (h : DataW.Trod enc Try.prog w 0 spare held 22 (.slice a len cap) d p) : ∃ T, ArgK w a len T := by
  obtain ⟨h1, h2, h3⟩ := opened_raw (n0 := 3) Try.underlying22 (by kernel_rfl) (by decide) h
  have key : ∀ i, i < len → ∃ x : Ak, ∃ b p, a = some ⟨b, p, none⟩ ∧ b < w.heap.size ∧ x.Fits ∧
      w.cell? ⟨b, p + i * 3, none⟩ = some (.int .i64 x.kind) ∧ w.cell? ⟨b, p + i * 3 + 1, none⟩ = some (.int .i64 x.who) ∧ w.cell? ⟨b, p + i * 3 + 2, none⟩ = some (.string x.body) := fun i hi => by
    obtain ⟨b, q, e, hb, cs, n, y, hl, hd, hc⟩ := h3 i hi
    obtain ⟨x, hx, rfl⟩ := ak_of hl hd
    exact ⟨x, b, q, e, hb, hx, hc 0 _ rfl, hc 1 _ rfl, hc 2 _ rfl⟩
  refine ⟨fun i => if hi : i < len then Classical.choose (key i hi) else ⟨0, 0, ⟨#[]⟩⟩, Nat.le_trans h1 h2, fun i hi => ?_⟩
  have hs := Classical.choose_spec (key i hi)
  simp only [dif_pos hi]
  exact hs

theorem actk_at {w V : World} {a : Option Addr} {len : Nat} {T : Nat → Ak} (h : ArgK w a len T) (t : Turn (fun j => w.heap.size ≤ j) w V) {i : Nat} (hi : i < len) :
    ∃ b p, a = some ⟨b, p, none⟩ ∧ b < w.heap.size ∧ (T i).Fits ∧
      V.cell? ⟨b, p + i * 3, none⟩ = some (.int .i64 (T i).kind) ∧ V.cell? ⟨b, p + i * 3 + 1, none⟩ = some (.int .i64 (T i).who) ∧ V.cell? ⟨b, p + i * 3 + 2, none⟩ = some (.string (T i).body) := by
  obtain ⟨b, p, e, hb, hf, c0, c1, c2⟩ := h.2 i hi
  have ht : ∀ q : Nat, V.cell? ⟨b, q, none⟩ = w.cell? ⟨b, q, none⟩ := fun q => t.cell hb (by simpa using hb)
  exact ⟨b, p, e, hb, hf, (ht _).trans c0, (ht _).trans c1, (ht _).trans c2⟩
end Go.Proofs.Ytbpcfkniflgmfaa.prc
end

section
/- The document's processes: rows of them; set. -/
namespace Go.Proofs.Ytbpcfkniflgmfaa.prc
open Go Go.RowKit

/-- A process's cells, as the document keeps it. -/
def prC (i : Nat) (x : Pc) (o : ByteArray) : List Value := [.int .i64 x.next, .int .i64 x.at_, .int .i64 i, .int .i64 x.seq, .string x.body, .string o]
def prL (X : Nat → Pc) (O : Nat → ByteArray) (i : Nat) : List Value := prC i (X i) (O i)
def rowP (X : Nat → Pc) (O : Nat → ByteArray) (P : Nat) : List Value := flat (prL X O) 0 P
theorem rowP_len (X : Nat → Pc) (O : Nat → ByteArray) (P : Nat) : (rowP X O P).length = P * 6 := flat_len (fun _ _ _ => rfl)
theorem rowP_at (X : Nat → Pc) (O : Nat → ByteArray) {P i r : Nat} (hi : i < P) (hr : r < 6) : (rowP X O P)[i * 6 + r]? = (prL X O i)[r]? := by
  have := flat_get (g := prL X O) (a := 0) (k := P) (w := 6) (fun _ _ _ => rfl) hi hr
  rw [Nat.zero_add] at this
  exact this
theorem one_rowP (X : Nat → Pc) (O : Nat → ByteArray) (P : Nat) : ∀ u ∈ rowP X O P, u.oneCell' = true := by
  intro u hu
  obtain ⟨i, _, hi⟩ := List.mem_flatMap.1 hu
  unfold prL prC at hi
  simp only [List.mem_cons, List.not_mem_nil, or_false] at hi
  rcases hi with rfl | rfl | rfl | rfl | rfl | rfl <;> rfl
theorem rowP_set (X : Nat → Pc) (O : Nat → ByteArray) {P i : Nat} (hi : i < P) (x : Pc) (o : ByteArray) :
    (((((((rowP X O P).set (i * 6) (.int .i64 x.next)).set (i * 6 + 1) (.int .i64 x.at_)).set (i * 6 + 2) (.int .i64 i)).set (i * 6 + 3) (.int .i64 x.seq)).set (i * 6 + 4) (.string x.body)).set (i * 6 + 5) (.string o)) = rowP (up X i x) (up O i o) P := by
  unfold rowP
  have e0 := fun (g : Nat → List Value) (hg : ∀ k, (g k).length = 6) (u : Value) => flat_set (g := g) (a := 0) (k := P) (w := 6) (fun k _ _ => hg k) (j := i) (r := 0) hi (by omega) u
  simp only [Nat.add_zero] at e0
  rw [e0 _ (fun _ => rfl)]
  rw [flat_set (w := 6) (fun k _ _ => by split <;> rfl) hi (r := 1) (by omega)]
  rw [flat_set (w := 6) (fun k _ _ => by split <;> (try split) <;> rfl) hi (r := 2) (by omega)]
  rw [flat_set (w := 6) (fun k _ _ => by repeat (first | rfl | split)) hi (r := 3) (by omega)]
  rw [flat_set (w := 6) (fun k _ _ => by repeat (first | rfl | split)) hi (r := 4) (by omega)]
  rw [flat_set (w := 6) (fun k _ _ => by repeat (first | rfl | split)) hi (r := 5) (by omega)]
  refine flat_congr fun k _ _ => ?_
  by_cases e : k = i
  · subst e
    simp [prL, prC, up_same]
  · have e' : ¬ k = 0 + i := by omega
    simp only [if_neg e']
    unfold prL
    rw [up_other _ _ e, up_other _ _ e]

/-- The document's world: slots, wishes, processes. -/
abbrev dw (a b c : Addr) (L P c1 c2 c3 : Nat) : Value := .agg #[.slice (some a) L c1, .slice (some b) P c2, .slice (some c) P c3]

theorem res_dw {fn : Func} {t : Tmp} (h : fn.results = #[.cell t 31]) (tmps : Array Value) (w : World) (g : Nat) (a b c : Value) (hx : tmps.getD t undef = .pointer (some ⟨g, 0, none⟩)) (hE : Has w g 31 #[a, b, c]) :
    (results fn tmps).run Try.prog w = .ok (.agg #[a, b, c]) w := by
  have c0 : w.cell? ⟨g, 0, none⟩ = some a := hE.cell 0
  have c1 : w.cell? ⟨g, 1, none⟩ = some b := hE.cell 1
  have c2 : w.cell? ⟨g, 2, none⟩ = some c := hE.cell 2
  rw [Array.getD_eq_getD_getElem?] at hx
  simp [results, h, hx, go_sem, c0, c1, c2]

def DSetPost (s v : Value) (X : Nat → Pc) (O : Nat → ByteArray) (P : Nat) (W : World) (en : Ending) (W' : World) : Prop :=
  ∃ (p : Value), en = .returned (.agg #[s, v, p]) ∧ Thick p P ∧ Seg W' 40 6 p P (rowP X O P) ∧ (∀ b, p.ownBlock = some b → W.heap.size ≤ b) ∧ Below W.heap.size W W'

set_option maxRecDepth 100000 in
set_option maxHeartbeats 4000000 in
theorem dset_calls (W : World) (s1 s2 c1 c2 : Nat) (a1 a2 : Option Addr) (p : Value) (X : Nat → Pc) (O : Nat → ByteArray) (P i : Nat) (hp : Seg W 40 6 p P (rowP X O P)) (ht : Thick p P) (hi : i < P) (hP : P ≤ 64) (x : Pc) (o : ByteArray) :
    Calls Try.prog 75 #[.agg #[.slice a1 s1 c1, .slice a2 s2 c2, p], .int .i64 i, .agg (prC i x o).toArray] W (DSetPost (.slice a1 s1 c1) (.slice a2 s2 c2) (up X i x) (up O i o) P W) := by
  obtain ⟨i0, z0, hi0, hz0, hz1, hz2, hz3⟩ : ∃ i z, Try.prog.info? 40 = some i ∧ i.zero = some z ∧ i.size = 6 ∧ z.cells.size = 6 ∧ i.bytes = 64 := by
    have h2 : (Try.prog.info? 40).map (fun i => (i.zero.map (fun z => z.cells.size), i.size, i.bytes)) = some (some 6, 6, 64) := by kernel_rfl
    obtain ⟨i, hi, e⟩ := Option.map_eq_some_iff.1 h2
    simp at e
    obtain ⟨⟨z, hz, hz2⟩, h3, h4⟩ := e
    exact ⟨i, z, hi, hz, h3, hz2, h4⟩
  have HI0 := Lib.hid hi0
  have HZ0 := Lib.hid hz0
  obtain ⟨g, off, c, rfl⟩ := ht
  have HP := Lib.hid hp
  have hiP : (i : Int) < (P : Int) := by omega
  have h0i : (0 : Int) ≤ (i : Int) := by omega
  have HB := Lib.hid (And.intro hi hP)
  unfold prC
  clear hi0 hz0 hp hi hP
  go_enter Try.func75, Try.ntmps75
  go_wp2_with (first
    | (at_builtin; refine wpList_append_all _ rfl (.tmp 8) (.tmp 10) 29 rfl 40 i0 z0 6 64 Try.underlying29 HI0.out HZ0.out hz1 hz3 hz2 (by decide) (.slice (some ⟨W.heap.size + 1 + 1 + 1, 0, none⟩) 0 0) 0 [] rfl (Seg.empty (made_at _ _ (by simp))) ⟨_, _, _, rfl⟩ (.slice (some ⟨g, off, none⟩) P c) P (rowP X O P) rfl ((((HP.out.alloc _).alloc _).alloc _).alloc _) ⟨_, _, _, rfl⟩ (one_rowP X O P) (by have := HB.out.2; unfold maxLen; omega) (by have := HB.out.2; omega) ?_)
    | fail)
  intro r w2 th sg gr nw
  obtain ⟨g2, o2, cc, rfl⟩ := th
  obtain ⟨z, hz⟩ : ∃ z, z = W.heap.size := ⟨_, rfl⟩
  have B2 : Hid (Below z W w2) := Lib.hid (by
    rw [hz]
    exact Below.grown (((((Below.refl _ W).alloc (Nat.le_refl _) _).alloc (by simp) _).alloc (by simp; omega) _).alloc (by simp; omega) _) gr (by simp; omega) (fun k e => by have := own_of e; omega))
  have N2 : Hid (z + 3 ≤ g2) := Lib.hid (by
    rcases nw g2 rfl with e | e
    · have := own_of e; omega
    · rw [e]; simp; omega)
  have k3 : Hid (Has w2 z 31 #[.slice a1 s1 c1, .slice a2 s2 c2, .slice (some ⟨g, off, none⟩) P c]) := Lib.hid (by
    rw [hz]
    exact Has.grown ((((Has.made W 31 _).alloc _).alloc _).alloc _) gr (fun e => by have := own_of e.symm; omega))
  have k5 : Hid (Has w2 (z + 1) 40 #[.int .i64 x.next, .int .i64 x.at_, .int .i64 i, .int .i64 x.seq, .string x.body, .string o]) := Lib.hid (by
    rw [hz]
    exact Has.grown ((((made_at 40 _ (by simp)).alloc _).alloc _)) gr (fun e => by have := own_of e.symm; omega))
  have k6 : Hid (Has w2 (z + 1 + 1) 31 #[.slice none 0 0, .slice none 0 0, .slice none 0 0]) := Lib.hid (by
    rw [hz]
    exact Has.grown ((made_at 31 _ (by simp)).alloc _) gr (fun e => by have := own_of e.symm; omega))
  have S2 := Lib.hid sg
  rw [← hz]
  have HZ := Lib.hid hz
  clear hz sg gr nw
  have hcell : ∀ r v, r < 6 → (prL X O i)[r]? = some v → w2.cell? ⟨g2, o2 + (i * 6 + r), none⟩ = some v := fun r v hr hv => by
    obtain ⟨g', o', c', e, _, _, _, hc⟩ := S2.out.cells (by have := HB.out.1; omega)
    injection e with e1 e2 e3
    injection e1 with e1
    injection e1 with e1 e4
    subst e1 e4
    exact hc (i * 6 + r) v ((rowP_at X O HB.out.1 hr).trans hv)
  have q0 : w2.cell? ⟨g2, o2 + i * 6, none⟩ = some (.int .i64 (X i).next) := hcell 0 _ (by omega) rfl
  have q1 : w2.cell? ⟨g2, o2 + i * 6 + 1, none⟩ = some (.int .i64 (X i).at_) := hcell 1 _ (by omega) rfl
  have q2 : w2.cell? ⟨g2, o2 + i * 6 + 2, none⟩ = some (.int .i64 i) := hcell 2 _ (by omega) rfl
  have q3 : w2.cell? ⟨g2, o2 + i * 6 + 3, none⟩ = some (.int .i64 (X i).seq) := hcell 3 _ (by omega) rfl
  have q4 : w2.cell? ⟨g2, o2 + i * 6 + 4, none⟩ = some (.string (X i).body) := hcell 4 _ (by omega) rfl
  have q5 : w2.cell? ⟨g2, o2 + i * 6 + 5, none⟩ = some (.string (O i)) := hcell 5 _ (by omega) rfl
  have fz : ∀ n, w2.frozen? ⟨g2, n, none⟩ = false := fun n => S2.out.free n
  have l0 := k5.out.cell 0
  have l1 := k5.out.cell 1
  have l2 := k5.out.cell 2
  have l3 := k5.out.cell 3
  have l4 := k5.out.cell 4
  have l5 := k5.out.cell 5
  have m0 := k3.out.cell 0
  have m1 := k3.out.cell 1
  have m2 := k3.out.cell 2
  have mf := k3.out.free 2
  have n0 := k6.out.cell 0
  have n1 := k6.out.cell 1
  have n2 := k6.out.cell 2
  have nf0 := k6.out.free 0
  have nf1 := k6.out.free 1
  have nf2 := k6.out.free 2
  have hz2 : z < g2 := by have := N2.out; omega
  have hz3 : z + 1 < g2 := by have := N2.out; omega
  have hz4 : z + 1 + 1 < g2 := by have := N2.out; omega
  clear hcell
  go_wp2_with fail
  have S3 := (((((S2.out.put (i * 6) (.int .i64 x.next)).put (i * 6 + 1) (.int .i64 x.at_)).put (i * 6 + 2) (.int .i64 i)).put (i * 6 + 3) (.int .i64 x.seq)).put (i * 6 + 4) (.string x.body)).put (i * 6 + 5) (.string o)
  rw [rowP_set X O HB.out.1 x o] at S3
  have t4 : ∀ (V : World) (b k : Nat) (u : Value), b < g2 → Seg V 40 6 (.slice (some ⟨g2, o2, none⟩) P cc) P (rowP (up X i x) (up O i o) P) → Seg (V.setCell ⟨b, k, none⟩ u) 40 6 (.slice (some ⟨g2, o2, none⟩) P cc) P (rowP (up X i x) (up O i o) P) := fun V b k u hb h =>
    h.keep fun b' hb' => Below.heap_setCell V ⟨b, k, none⟩ u b' (by have := own_of hb'; show b' ≠ b; omega)
  have S4 := t4 _ (z + 1 + 1) 2 (.slice (some ⟨g2, o2, none⟩) P cc) hz4 (t4 _ (z + 1 + 1) 1 (.slice a2 s2 c2) hz4 (t4 _ (z + 1 + 1) 0 (.slice a1 s1 c1) hz4 (t4 _ z 2 (.slice (some ⟨g2, o2, none⟩) P cc) hz2 S3)))
  have far : ∀ (V : World) (k : Nat) (u : Value), Has V (z + 1 + 1) 31 #[.slice none 0 0, .slice none 0 0, .slice none 0 0] → Has (V.setCell ⟨g2, k, none⟩ u) (z + 1 + 1) 31 #[.slice none 0 0, .slice none 0 0, .slice none 0 0] := fun V k u h => h.far (by show z + 1 + 1 ≠ g2; omega) u
  have E6 := ((((far _ (o2 + i * 6 + 5) (.string o) (far _ (o2 + i * 6 + 4) (.string x.body) (far _ (o2 + i * 6 + 3) (.int .i64 x.seq) (far _ (o2 + i * 6 + 2) (.int .i64 i) (far _ (o2 + i * 6 + 1) (.int .i64 x.at_) (far _ (o2 + i * 6) (.int .i64 x.next) k6.out)))))).far (p := ⟨z, 2, none⟩) (by show z + 1 + 1 ≠ z; omega) (.slice (some ⟨g2, o2, none⟩) P cc)).put 0 (.slice a1 s1 c1)).put 1 (.slice a2 s2 c2)).put 2 (.slice (some ⟨g2, o2, none⟩) P cc)
  refine bodyPost_ret (res_dw rfl _ _ (z + 1 + 1) (.slice a1 s1 c1) (.slice a2 s2 c2) (.slice (some ⟨g2, o2, none⟩) P cc) rfl (by simpa using E6)) rfl ⟨_, rfl, ⟨_, _, _, rfl⟩, S4, fun b hb => ?_, ?_⟩
  · have h1 := own_of hb
    have h2 := B2.out.size
    have h3 := HZ.out
    omega
  · rw [← HZ.out]
    have up1 : ∀ (V : World) (k : Nat) (u : Value), Below z W V → Below z W (V.setCell ⟨g2, k, none⟩ u) := fun V k u h => h.setCell (by show z ≤ g2; omega) u
    have up2 : ∀ (V : World) (k : Nat) (u : Value), Below z W V → Below z W (V.setCell ⟨z + 1 + 1, k, none⟩ u) := fun V k u h => h.setCell (by show z ≤ z + 1 + 1; omega) u
    have up3 : ∀ (V : World) (k : Nat) (u : Value), Below z W V → Below z W (V.setCell ⟨z, k, none⟩ u) := fun V k u h => h.setCell (Nat.le_refl _) u
    exact up2 _ _ _ (up2 _ _ _ (up2 _ _ _ (up3 _ _ _ (up1 _ _ _ (up1 _ _ _ (up1 _ _ _ (up1 _ _ _ (up1 _ _ _ (up1 _ _ _ B2.out)))))))))
end Go.Proofs.Ytbpcfkniflgmfaa.prc
end

section
/- The document's world of processes: Begin, Head. -/
namespace Go.Proofs.Ytbpcfkniflgmfaa.prc
open Go Go.RowKit

def rowS (F : Nat → Option Rc) (n : Nat) : List Value := (List.range n).map fun k => .string (txo (F k))
theorem rowS_len (F : Nat → Option Rc) (n : Nat) : (rowS F n).length = n := by unfold rowS; simp
theorem rowS_at (F : Nat → Option Rc) {n k : Nat} (h : k < n) : (rowS F n)[k]? = some (.string (txo (F k))) := by
  unfold rowS; rw [List.getElem?_map, List.getElem?_range h]; rfl
theorem rowS_set (F : Nat → Option Rc) {n k : Nat} (h : k < n) (r : Rc) : (rowS F n).set k (.string (tx r)) = rowS (up F k (some r)) n := by
  apply List.ext_getElem?
  intro j
  rw [List.getElem?_set, rowS_len]
  by_cases e : k = j
  · subst e
    rw [if_pos rfl, if_pos h, rowS_at _ h, up_same]
    rfl
  · rw [if_neg e]
    by_cases hj : j < n
    · rw [rowS_at _ hj, rowS_at _ hj, up_other _ _ (fun e2 => e e2.symm)]
    · rw [List.getElem?_eq_none (by rw [rowS_len]; omega), List.getElem?_eq_none (by rw [rowS_len]; omega)]
theorem one_rowS (F : Nat → Option Rc) (n : Nat) : ∀ u ∈ rowS F n, u.oneCell' = true := by
  intro u hu
  obtain ⟨k, _, rfl⟩ := List.mem_map.1 hu
  rfl

/-- The document's world, in memory: slots s, wishes v, processes p. -/
structure Dw (W : World) (s v p : Value) (P L : Nat) (A : Ab) (O : Nat → ByteArray) : Prop where
  slots : Seg W 9 1 s L (rowS A.S L)
  ts : Thick s L
  wish : Seg W 9 1 v P (rowS A.W P)
  tw : Thick v P
  procs : Seg W 40 6 p P (rowP A.X O P)
  tp : Thick p P
  off : ∀ i, (A.X i).next = 4 → O i = tx (A.X i).offer

section
variable {W W' : World} {s v p : Value} {P L : Nat} {A : Ab} {O : Nat → ByteArray}

theorem Dw.below (h : Dw W s v p P L A O) (hb : Below W.heap.size W W') : Dw W' s v p P L A O :=
  ⟨h.slots.below hb (fun _ e => h.slots.lt e), h.ts, h.wish.below hb (fun _ e => h.wish.lt e), h.tw, h.procs.below hb (fun _ e => h.procs.lt e), h.tp, h.off⟩
theorem Dw.drew (h : Dw W s v p P L A O) : Dw W.drew s v p P L A O := ⟨h.slots, h.ts, h.wish, h.tw, h.procs, h.tp, h.off⟩
theorem Dw.turn {F : Nat → Prop} (h : Dw W s v p P L A O) (t : Turn F W W') (h1 : ∀ b, s.ownBlock = some b → ¬ F b) (h2 : ∀ b, v.ownBlock = some b → ¬ F b) (h3 : ∀ b, p.ownBlock = some b → ¬ F b) : Dw W' s v p P L A O :=
  ⟨h.slots.turn t h1, h.ts, h.wish.turn t h2, h.tw, h.procs.turn t h3, h.tp, h.off⟩

/-- A process as it is. -/
theorem Dw.proc (h : Dw W s v p P L A O) {i : Nat} (hi : i < P) : ∃ g o c, p = .slice (some ⟨g, o, none⟩) P c ∧ g < W.heap.size ∧ W.cell? ⟨g, o + i * 6, none⟩ = some (.int .i64 (A.X i).next) ∧ W.cell? ⟨g, o + i * 6 + 1, none⟩ = some (.int .i64 (A.X i).at_) ∧
    W.cell? ⟨g, o + i * 6 + 2, none⟩ = some (.int .i64 i) ∧ W.cell? ⟨g, o + i * 6 + 3, none⟩ = some (.int .i64 (A.X i).seq) ∧ W.cell? ⟨g, o + i * 6 + 4, none⟩ = some (.string (A.X i).body) ∧ W.cell? ⟨g, o + i * 6 + 5, none⟩ = some (.string (O i)) := by
  obtain ⟨g, o, c, e, hg, _, _, hc⟩ := h.procs.cells (by omega)
  exact ⟨g, o, c, e, hg, hc (i * 6) _ (rowP_at A.X O hi (r := 0) (by omega)), hc (i * 6 + 1) _ (rowP_at A.X O hi (r := 1) (by omega)), hc (i * 6 + 2) _ (rowP_at A.X O hi (r := 2) (by omega)), hc (i * 6 + 3) _ (rowP_at A.X O hi (r := 3) (by omega)), hc (i * 6 + 4) _ (rowP_at A.X O hi (r := 4) (by omega)), hc (i * 6 + 5) _ (rowP_at A.X O hi (r := 5) (by omega))⟩
theorem Dw.slot (h : Dw W s v p P L A O) {k : Nat} (hk : k < L) : ∃ g o c, s = .slice (some ⟨g, o, none⟩) L c ∧ g < W.heap.size ∧ W.cell? ⟨g, o + k, none⟩ = some (.string (txo (A.S k))) := by
  obtain ⟨g, o, c, e, hg, _, _, hc⟩ := h.slots.cells (by omega)
  exact ⟨g, o, c, e, hg, hc k _ (rowS_at A.S hk)⟩
theorem Dw.wishAt (h : Dw W s v p P L A O) {k : Nat} (hk : k < P) : ∃ g o c, v = .slice (some ⟨g, o, none⟩) P c ∧ g < W.heap.size ∧ W.cell? ⟨g, o + k, none⟩ = some (.string (txo (A.W k))) := by
  obtain ⟨g, o, c, e, hg, _, _, hc⟩ := h.wish.cells (by omega)
  exact ⟨g, o, c, e, hg, hc k _ (rowS_at A.W hk)⟩
end

def DwPost (P L : Nat) (A : Ab) (O : Nat → ByteArray) (W : World) (en : Ending) (W' : World) : Prop :=
  ∃ s v p, en = .returned (.agg #[s, v, p]) ∧ Dw W' s v p P L A O ∧ Below W.heap.size W W'

/-- set. -/
theorem Dw.set {W : World} {s v p : Value} {P L : Nat} {A : Ab} {O : Nat → ByteArray} (h : Dw W s v p P L A O) {i : Nat} (hi : i < P) (hP : P ≤ 64) (x : Pc) (o : ByteArray) (ho : x.next = 4 → o = tx x.offer) :
    Calls Try.prog 75 #[.agg #[s, v, p], .int .i64 i, .agg (prC i x o).toArray] W (DwPost P L (put A i x) (up O i o) W) := by
  have hs := h.ts
  have hv := h.tw
  obtain ⟨g1, o1, c1, rfl⟩ := hs
  obtain ⟨g2, o2, c2, rfl⟩ := hv
  refine (dset_calls W L P c1 c2 _ _ p A.X O P i h.procs h.tp hi hP x o).mono ?_
  rintro en W' ⟨p', rfl, t', s', n', b'⟩
  refine ⟨_, _, p', rfl, ⟨(h.below b').slots, h.ts, (h.below b').wish, h.tw, s', t', fun j hj => ?_⟩, b'⟩
  by_cases e : j = i
  · subst e
    have e1 : (put A j x).X j = x := up_same _ _ _
    rw [e1] at hj ⊢
    rw [up_same]
    exact ho hj
  · have e1 : (put A i x).X j = A.X j := up_other _ _ e
    rw [e1] at hj ⊢
    rw [up_other _ _ e]
    exact h.off j hj

theorem Dw.set' {W : World} {s v p : Value} {P L : Nat} {A : Ab} {O : Nat → ByteArray} (h : Dw W s v p P L A O) {i : Nat} (hi : i < P) (hP : P ≤ 64) (x : Pc) (o : ByteArray) (ho : x.next = 4 → o = tx x.offer) {n a q : Int} (hn : (x.next : Int) = n) (ha : (x.at_ : Int) = a) (hq : (x.seq : Int) = q) :
    Calls Try.prog 75 #[.agg #[s, v, p], .int .i64 i, .agg #[.int .i64 n, .int .i64 a, .int .i64 i, .int .i64 q, .string x.body, .string o]] W (DwPost P L (put A i x) (up O i o) W) := by
  subst hn ha hq
  exact h.set hi hP x o ho

/-- The document's world, laid into the block of a result. -/
theorem Dw.ended {W w5 : World} {s v p : Value} {P L : Nat} {A : Ab} {O : Nat → ByteArray} {z : Nat} {cs : Array Value} (d : Dw w5 s v p P L A O) (hb : Below W.heap.size W w5) (hn : Has w5 z 31 cs) (hz : W.heap.size ≤ z) :
    Dw (((w5.setCell ⟨z, 0, none⟩ s).setCell ⟨z, 1, none⟩ v).setCell ⟨z, 2, none⟩ p) s v p P L A O ∧ Below W.heap.size W (((w5.setCell ⟨z, 0, none⟩ s).setCell ⟨z, 1, none⟩ v).setCell ⟨z, 2, none⟩ p) := by
  have t : Turn (fun j => j = z) w5 (((w5.setCell ⟨z, 0, none⟩ s).setCell ⟨z, 1, none⟩ v).setCell ⟨z, 2, none⟩ p) := (((Turn.refl (fun j => j = z) w5).put (fun _ => rfl) 0 _).put (fun _ => rfl) 1 _).put (fun _ => rfl) 2 _
  refine ⟨d.turn t (fun b hb e => d.slots.ne hn (by decide) (by rw [hb, e])) (fun b hb e => d.wish.ne hn (by decide) (by rw [hb, e])) (fun b hb e => d.procs.ne hn (by decide) (by rw [hb, e])), ?_⟩
  exact ((hb.setCell (by exact hz) _).setCell (by exact hz) _).setCell (by exact hz) _
theorem has_three {w5 : World} {z : Nat} {t : TypeId} {a b c : Value} (s v p : Value) (hn : Has w5 z t #[a, b, c]) : Has (((w5.setCell ⟨z, 0, none⟩ s).setCell ⟨z, 1, none⟩ v).setCell ⟨z, 2, none⟩ p) z t #[s, v, p] := by
  have := ((hn.put 0 s).put 1 v).put 2 p
  simpa using this

theorem below3 (W : World) (a b c : Obj) : Below W.heap.size W (((W.alloc a).alloc b).alloc c) := ((((Below.refl _ W).alloc (Nat.le_refl _) _).alloc (by simp) _).alloc (by simp; omega) _)

set_option maxRecDepth 100000 in
set_option maxHeartbeats 4000000 in
theorem Dw.begin {W : World} {s v p : Value} {P L : Nat} {A : Ab} {O : Nat → ByteArray} (h : Dw W s v p P L A O) {i : Nat} (hi : i < P) (hP : P ≤ 64) (b : ByteArray) (hq : (A.X i).seq ≤ 1099511627776) :
    Calls Try.prog 39 #[.agg #[s, v, p], .int .i64 i, .string b] W (DwPost P L (begins A i b) (up O i (O i)) W) := by
  obtain ⟨g, o, c, rfl, hg, q0, q1, q2, q3, q4, q5⟩ := h.proc hi
  obtain ⟨gs, os, cs, rfl⟩ := h.ts
  obtain ⟨gv, ov, cv, rfl⟩ := h.tw
  have H := Lib.hid h
  have HI := Lib.hid (And.intro hi hP)
  have hiP : (i : Int) < (P : Int) := by omega
  have h0i : (0 : Int) ≤ (i : Int) := by omega
  obtain ⟨x, hx⟩ : ∃ x, x = A.X i := ⟨_, rfl⟩
  rw [← hx] at q0 q1 q3 q4 hq
  have HX : Hid (begins A i b = put A i ⟨1, x.at_, x.seq + 1, b, x.offer⟩) := Lib.hid (by rw [hx]; rfl)
  have hq0 : (0 : Int) ≤ (x.seq : Int) := by omega
  have hq1 : (x.seq : Int) ≤ 1099511627776 := by omega
  obtain ⟨oi, hoi⟩ : ∃ oi, oi = O i := ⟨_, rfl⟩
  rw [← hoi] at q5 ⊢
  rw [HX.out]
  clear h hi hP hx hoi hq HX
  go_enter Try.func39, Try.ntmps39
  go_wp2_with (first
    | (go_at_call 75
       refine ((H.out.below (below3 W _ _ _)).set' HI.out.1 HI.out.2 ⟨1, x.at_, x.seq + 1, b, x.offer⟩ oi (fun e => by cases e) rfl rfl (by show ((x.seq + 1 : Nat) : Int) = (x.seq : Int) + 1; omega)).mono ?_
       rintro en w5 ⟨s5, v5, p5, rfl, d5, b5⟩
       obtain ⟨gs5, os5, cs5, rfl⟩ := d5.ts
       obtain ⟨gv5, ov5, cv5, rfl⟩ := d5.tw
       obtain ⟨gp5, op5, cp5, rfl⟩ := d5.tp
       have N5 : Hid (Has w5 (W.heap.size + 1) 31 #[.slice none 0 0, .slice none 0 0, .slice none 0 0]) := Lib.hid (((made_at 31 _ (by simp)).alloc _).below b5 (by simp <;> omega))
       have D5 := Lib.hid d5
       have B5 : Hid (Below W.heap.size W w5) := Lib.hid ((below3 W _ _ _).trans (b5.mono (by simp <;> omega)))
       have n0 := N5.out.cell 0
       have n1 := N5.out.cell 1
       have n2 := N5.out.cell 2
       have f0 := N5.out.free 0
       have f1 := N5.out.free 1
       have f2 := N5.out.free 2
       clear d5 b5)
    | fail)
  refine bodyPost_ret (res_dw rfl _ _ (W.heap.size + 1) _ _ _ rfl (has_three _ _ _ N5.out)) rfl ⟨_, _, _, rfl, ?_⟩
  exact D5.out.ended B5.out N5.out (by omega)

set_option maxRecDepth 100000 in
set_option maxHeartbeats 4000000 in
theorem Dw.head {W : World} {s v p : Value} {P L : Nat} {A : Ab} {O : Nat → ByteArray} (h : Dw W s v p P L A O) {i : Nat} (hi : i < P) (hP : P ≤ 64) :
    Calls Try.prog 41 #[.agg #[s, v, p], .int .i64 i] W (DwPost P L (begHead A i) (up O i (O i)) W) := by
  obtain ⟨g, o, c, rfl, hg, q0, q1, q2, q3, q4, q5⟩ := h.proc hi
  obtain ⟨gs, os, cs, rfl⟩ := h.ts
  obtain ⟨gv, ov, cv, rfl⟩ := h.tw
  have H := Lib.hid h
  have HI := Lib.hid (And.intro hi hP)
  have hiP : (i : Int) < (P : Int) := by omega
  have h0i : (0 : Int) ≤ (i : Int) := by omega
  obtain ⟨x, hx⟩ : ∃ x, x = A.X i := ⟨_, rfl⟩
  rw [← hx] at q0 q1 q3 q4
  have HX : Hid (begHead A i = put A i ⟨5, x.at_, x.seq, x.body, x.offer⟩) := Lib.hid (by rw [hx]; rfl)
  obtain ⟨oi, hoi⟩ : ∃ oi, oi = O i := ⟨_, rfl⟩
  rw [← hoi] at q5 ⊢
  rw [HX.out]
  clear h hi hP hx hoi HX
  go_enter Try.func41, Try.ntmps41
  go_wp2_with (first
    | (go_at_call 75
       refine ((H.out.below (below3 W _ _ _)).set' HI.out.1 HI.out.2 ⟨5, x.at_, x.seq, x.body, x.offer⟩ oi (fun e => by cases e) rfl rfl rfl).mono ?_
       rintro en w5 ⟨s5, v5, p5, rfl, d5, b5⟩
       obtain ⟨gs5, os5, cs5, rfl⟩ := d5.ts
       obtain ⟨gv5, ov5, cv5, rfl⟩ := d5.tw
       obtain ⟨gp5, op5, cp5, rfl⟩ := d5.tp
       have N5 : Hid (Has w5 (W.heap.size + 1) 31 #[.slice none 0 0, .slice none 0 0, .slice none 0 0]) := Lib.hid (((made_at 31 _ (by simp)).alloc _).below b5 (by simp <;> omega))
       have D5 := Lib.hid d5
       have B5 : Hid (Below W.heap.size W w5) := Lib.hid ((below3 W _ _ _).trans (b5.mono (by simp <;> omega)))
       have n0 := N5.out.cell 0
       have n1 := N5.out.cell 1
       have n2 := N5.out.cell 2
       have f0 := N5.out.free 0
       have f1 := N5.out.free 1
       have f2 := N5.out.free 2
       clear d5 b5)
    | fail)
  refine bodyPost_ret (res_dw rfl _ _ (W.heap.size + 1) _ _ _ rfl (has_three _ _ _ N5.out)) rfl ⟨_, _, _, rfl, ?_⟩
  exact D5.out.ended B5.out N5.out (by omega)
end Go.Proofs.Ytbpcfkniflgmfaa.prc
end

