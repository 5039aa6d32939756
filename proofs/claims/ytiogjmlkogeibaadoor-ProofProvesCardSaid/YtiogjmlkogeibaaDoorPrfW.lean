/- proof: a proof that is handed in: its numbers, its sums. -/
import Derived.Test.YtiogjmlkogeibaaDoorSums
import Derived.Test.YtiogjmlkogeibaaDoorOpen
namespace Go.Proofs.YtiogjmlkogeibaaDoor.prf
open Go Go.ChangeShapes Go.WideShapes Go.ChangeAt Go.RowKit Go.Proofs.YtiogjmlkogeibaaDoor.dig

theorem wf_u8 {y : Int} (h : (Lit.int .u8 y).wf = true) : 0 ≤ y ∧ y ≤ 255 := by
  have m0 : IntKind.u8.min = 0 := by decide
  have m1 : IntKind.u8.max = 255 := by decide
  have h' : (decide (IntKind.u8.min ≤ y) && decide (y ≤ IntKind.u8.max)) = true := h
  rw [m0, m1] at h'
  simpa using h'

/-- The elements of a slice that is handed in, as cells that read. -/
theorem opened_raw {H : Type} {enc : TypeId × Value → H} {P : Program} {w : World} {spare : Nat → Bool} {held : Bool} {t e : TypeId} {n0 fuel : Nat}
    (ht : P.underlying t = some (.slice e)) (hC : P.cellsOf e = n0) (h0 : 0 < n0) {u : Value} {y : DataW H × List MemPlace} (h : DataW.trod enc P w 0 spare held fuel t [u] = some y) :
    ∃ a len cap, u = .slice a len cap ∧ len ≤ cap ∧ cap ≤ maxLen ∧ ∀ i, i < len → ∃ b o, a = some ⟨b, o, none⟩ ∧ b < w.heap.size ∧ ∃ (cs : List Value) (n : Nat) (y : DataW H × List MemPlace), cs.length = n0 ∧ DataW.trod enc P w 0 spare held n e cs = some y ∧
      ∀ j v, cs[j]? = some v → w.cell? ⟨b, o + i * n0 + j, none⟩ = some v := by
  rcases Go.Deep.open_slice ht h with ⟨hn, _⟩ | ⟨g, l, c, m, n, D, Pl, hn, _, hlc, hcm, hm, _, hall⟩
  · simp only [List.cons.injEq, and_true] at hn
    subst hn
    exact ⟨none, 0, 0, rfl, Nat.le_refl _, Nat.zero_le _, fun i hi => absurd hi (Nat.not_lt_zero _)⟩
  · simp only [List.cons.injEq, and_true] at hn
    subst hn
    refine ⟨some g, l, c, rfl, hlc, hcm, fun i hi => ?_⟩
    obtain ⟨cs, hc, hd⟩ := hall i (by rw [hm]; split <;> omega)
    rw [hC] at hc
    obtain ⟨_, hcl, hat⟩ := World.cells?_some hc
    obtain ⟨gb, go, gs⟩ := g
    have hcell : ∀ j, j < n0 → ∃ v, cs[j]? = some v ∧ w.cell? (((⟨gb, go, gs⟩ : Addr).add (i * n0)).add j) = some v := fun j hj => by
      have hv : cs[j]? = some (cs[j]'(by omega)) := List.getElem?_eq_getElem (by omega)
      exact ⟨_, hv, by rw [hat j hj, hv]⟩
    have hs : gs = none := by
      obtain ⟨cs0, hc0, _⟩ := hall 0 (by rw [hm]; split <;> omega)
      rw [hC, Nat.zero_mul] at hc0
      obtain ⟨_, hcl0, hat0⟩ := World.cells?_some hc0
      have hv : cs0[0]? = some (cs0[0]'(by omega)) := List.getElem?_eq_getElem (by omega)
      have h1 := World.cell?_spot ((hat0 0 h0).trans hv)
      simpa [Addr.add] using h1
    subst hs
    have hb : gb < w.heap.size := by
      obtain ⟨v, _, hv⟩ := hcell 0 h0
      rw [Addr.add_mid, Addr.add_mid] at hv
      rcases Nat.lt_or_ge gb w.heap.size with k | k
      · exact k
      · unfold World.cell? at hv
        simp [Array.getElem?_eq_none k] at hv
    refine ⟨gb, go, rfl, hb, cs, _, _, hcl, hd, fun j v hj => ?_⟩
    have hjl : j < cs.length := (List.getElem?_eq_some_iff.1 hj).1
    obtain ⟨v', hv', hw⟩ := hcell j (by omega)
    rw [hj] at hv'
    injection hv' with hv'
    subst hv'
    rw [Addr.add_mid, Addr.add_mid] at hw
    exact hw

theorem bytes_of {H : Type} {enc : TypeId × Value → H} {w : World} {spare : Nat → Bool} {held : Bool} {n : Nat} {cs : List Value} {y : DataW H × List MemPlace} (hl : cs.length = 32) (h : DataW.trod enc Tryd.prog w 0 spare held n 27 cs = some y) :
    ∃ x : List UInt8, x.length = 32 ∧ cs = x.map byteV := by
  obtain ⟨xs, m, _, _, _, hxl, he⟩ := DataW.trod_array Tryd.underlying27 h
  have hC : Tryd.prog.cellsOf 5 = 1 := by kernel_rfl
  have key : ∀ i, i < 32 → ∃ b : UInt8, cs[i]? = some (byteV b) := fun i hi => by
    have h1 := he i hi
    rw [hC, Nat.mul_one] at h1
    have e1 : (cs.drop i).take 1 = [cs[i]'(by omega)] := by rw [List.drop_eq_getElem_cons (by omega)]; rfl
    rw [e1, List.getElem?_eq_getElem (by omega)] at h1
    obtain ⟨k, e, _, hw⟩ := DataW.trod_int Tryd.underlying5 h1
    simp only [List.cons.injEq, and_true] at e
    have hb := wf_u8 hw
    refine ⟨UInt8.ofNat k.toNat, ?_⟩
    rw [List.getElem?_eq_getElem (by omega), e]
    have : ((UInt8.ofNat k.toNat).toNat : Int) = k := by
      rw [UInt8.toNat_ofNat']
      omega
    unfold byteV
    rw [this]
  refine ⟨(List.range 32).map (fun i => if h : i < 32 then Classical.choose (key i h) else 0), by simp, ?_⟩
  apply List.ext_getElem?
  intro i
  by_cases hi : i < 32
  · rw [List.map_map, List.getElem?_map, List.getElem?_range hi]
    simp only [Option.map_some, Function.comp, dif_pos hi]
    exact Classical.choose_spec (key i hi)
  · rw [List.getElem?_eq_none (by omega), List.getElem?_eq_none (by simp; omega)]

theorem sums_of {H : Type} {enc : TypeId × Value → H} {w : World} {spare : Nat → Bool} {held : Bool} {fuel : Nat} {u : Value} {y : DataW H × List MemPlace} (h : DataW.trod enc Tryd.prog w 0 spare held fuel 29 [u] = some y) :
    ∃ r, Sms w u r := by
  obtain ⟨a, len, cap, rfl, h1, h2, h3⟩ := opened_raw (n0 := 32) Tryd.underlying29 (by kernel_rfl) (by decide) h
  have key : ∀ i, i < len → ∃ x : List UInt8, x.length = 32 ∧ ∃ g off, a = some ⟨g, off, none⟩ ∧ g < w.heap.size ∧ w.rangeAt g (off + i * 32) (x.map byteV) := fun i hi => by
    obtain ⟨b, o, e, hb, cs, n, y, hl, hd, hc⟩ := h3 i hi
    obtain ⟨x, hx, rfl⟩ := bytes_of hl hd
    exact ⟨x, hx, b, o, e, hb, fun j v hj => hc j v hj⟩
  obtain ⟨f, hf⟩ : ∃ f : Nat → List UInt8, f = fun i => if h : i < len then Classical.choose (key i h) else [] := ⟨_, rfl⟩
  have hfs : ∀ i, i < len → (f i).length = 32 ∧ ∃ g off, a = some ⟨g, off, none⟩ ∧ g < w.heap.size ∧ w.rangeAt g (off + i * 32) ((f i).map byteV) := fun i hi => by
    rw [hf]
    simp only [dif_pos hi]
    exact Classical.choose_spec (key i hi)
  refine ⟨((List.range len).map f).reverse, ⟨a, cap, by simp, by simpa using h1, h2, fun j x hx => ?_⟩, fun x hx => ?_⟩
  · rw [List.reverse_reverse, List.getElem?_map] at hx
    have hj : j < len := by
      rcases Nat.lt_or_ge j len with k | k
      · exact k
      · rw [List.getElem?_eq_none (by simpa using k)] at hx; cases hx
    rw [List.getElem?_range hj] at hx
    obtain rfl : f j = x := by simpa using hx
    exact (hfs j hj).2
  · rw [List.mem_reverse, List.mem_map] at hx
    obtain ⟨i, hi, rfl⟩ := hx
    exact (hfs i (List.mem_range.1 hi)).1

/-- A proof that is handed in. -/
structure PrA where
  K : Int
  I : Int
  N : Int
  v : Value
  r : List (List UInt8)
def PrA.val (p : PrA) : Value := .agg #[.int .i64 p.K, .int .i64 p.I, .int .i64 p.N, p.v]

set_option maxRecDepth 100000 in
theorem opened_proof {H : Type} {enc : TypeId × Value → H} {w W : World} {spare : Nat → Bool} {held : Bool} {r : Reach} {b0 : Nat} {v : Value} {d : DataW H} {p : List MemPlace}
    (hw : Value.okWide Tryd.prog W r b0 48 v) (h : DataW.Trod enc Tryd.prog w 0 spare held 48 v d p) : ∃ q : PrA, Sms w q.v q.r ∧ v = q.val := by
  obtain ⟨cs, rfl, hz, hf⟩ := opened_agg Tryd.underlying48 (by kernel_rfl) (by kernel_rfl) hw h
  obtain ⟨u0, n0, y0, e0, t0⟩ := hf 0 _ rfl
  obtain ⟨u1, n1, y1, e1, t1⟩ := hf 1 _ rfl
  obtain ⟨u2, n2, y2, e2, t2⟩ := hf 2 _ rfl
  obtain ⟨u3, n3, y3, e3, t3⟩ := hf 3 _ rfl
  obtain ⟨k0, a0, _, _⟩ := DataW.trod_int Tryd.underlying3 (show DataW.trod enc Tryd.prog w 0 spare held _ 3 [u0] = _ from t0)
  obtain ⟨k1, a1, _, _⟩ := DataW.trod_int Tryd.underlying3 (show DataW.trod enc Tryd.prog w 0 spare held _ 3 [u1] = _ from t1)
  obtain ⟨k2, a2, _, _⟩ := DataW.trod_int Tryd.underlying3 (show DataW.trod enc Tryd.prog w 0 spare held _ 3 [u2] = _ from t2)
  obtain ⟨l, hs⟩ := sums_of (show DataW.trod enc Tryd.prog w 0 spare held _ 29 [u3] = _ from t3)
  simp only [List.cons.injEq, and_true] at a0 a1 a2
  subst a0; subst a1; subst a2
  refine ⟨⟨k0, k1, k2, u3, l⟩, hs, ?_⟩
  have hz4 : cs.size = 4 := hz
  unfold PrA.val
  congr 1
  apply Array.ext_getElem?
  intro i
  match i with
  | 0 => exact e0
  | 1 => exact e1
  | 2 => exact e2
  | 3 => exact e3
  | i + 4 => rw [Array.getElem?_eq_none (by omega), Array.getElem?_eq_none (by simp)]
end Go.Proofs.YtiogjmlkogeibaaDoor.prf
