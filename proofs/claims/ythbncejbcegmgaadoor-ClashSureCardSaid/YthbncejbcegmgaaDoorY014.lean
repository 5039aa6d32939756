/- Texts laid into one: ClaJ, ClaG, ClaH, ClaK, ClaL, ClaN, ClaT. -/
import Derived.Test.YthbncejbcegmgaaDoorY013
import Derived.Deep.MidRow
import Derived.Test.YthbncejbcegmgaaDoorY007
import Derived.Test.YthbncejbcegmgaaDoorY009S
import Derived.Test.YthbncejbcegmgaaDoorY008S
section
/- clash: rootsAlong. -/
namespace Go.Proofs.YthbncejbcegmgaaDoor.clash
open Go Go.RowKit Go.Proofs.YthbncejbcegmgaaDoor.dig

/-- Cells stored one behind the other. -/
def putAll (cs : Array Value) : Nat → List Value → Array Value
  | _, [] => cs
  | o, v :: r => putAll (cs.setIfInBounds o v) (o + 1) r
theorem Has.puts {w : World} {g : Nat} {t : TypeId} : ∀ (vs : List Value) (o : Nat) {w : World} {cs : Array Value}, Has w g t cs → Has (w.setCells g o vs) g t (putAll cs o vs)
  | [], _, _, _, h => h
  | v :: r, o, _, _, h => Has.puts (w := w) r (o + 1) (h.put o v)
theorem below_puts {B : Nat} {w : World} {g : Nat} (hg : B ≤ g) : ∀ (vs : List Value) (o : Nat) {V : World}, Below B w V → Below B w (V.setCells g o vs)
  | [], _, _, h => h
  | v :: r, o, _, h => below_puts hg r (o + 1) (h.setCell hg v)
theorem putAll_size : ∀ (vs : List Value) (o : Nat) (cs : Array Value), (putAll cs o vs).size = cs.size
  | [], _, _ => rfl
  | v :: r, o, cs => by rw [putAll, putAll_size r (o + 1)]; simp
theorem putAll_get : ∀ (vs : List Value) (o : Nat) (cs : Array Value) (q : Nat), q < cs.size → (putAll cs o vs)[q]? = if o ≤ q ∧ q < o + vs.length then vs[q - o]? else cs[q]?
  | [], o, cs, q, _ => by rw [putAll, if_neg (by simp <;> omega)]
  | v :: r, o, cs, q, hq => by
    rw [putAll, putAll_get r (o + 1) _ q (by simpa using hq)]
    by_cases h : o = q
    · subst h
      rw [if_neg (by omega), if_pos (by simp), Nat.sub_self, Array.getElem?_setIfInBounds, if_pos rfl, if_pos hq]
      rfl
    · by_cases h1 : o + 1 ≤ q ∧ q < o + 1 + r.length
      · rw [if_pos h1, if_pos (by simp; omega), show q - o = q - (o + 1) + 1 by omega, List.getElem?_cons_succ]
      · rw [if_neg h1, if_neg (by simp; omega), Array.getElem?_setIfInBounds, if_neg h]

/-- Sums from within out, as they are made from outside in: i of m are there. -/
def besC (X : Nat → List UInt8) (m i : Nat) : List Value := flat (fun j => (if m - 1 - j < i then X (m - 1 - j) else List.replicate 32 0).map byteV) 0 m
theorem bes_each {X : Nat → List UInt8} {m : Nat} (hX : ∀ j, j < m → (X j).length = 32) (i : Nat) : ∀ j, 0 ≤ j → j < 0 + m → ((fun j => (if m - 1 - j < i then X (m - 1 - j) else List.replicate 32 0).map byteV) j).length = 32 := fun j _ hj => by
  simp only [List.length_map]
  split
  · exact hX _ (by omega)
  · simp
theorem besC_len {X : Nat → List UInt8} {m : Nat} (hX : ∀ j, j < m → (X j).length = 32) (i : Nat) : (besC X m i).length = m * 32 := flat_len (bes_each hX i)
theorem besC_zero (X : Nat → List UInt8) (m : Nat) : (madeCells (List.replicate 32 (Value.int .u8 0)).toArray (m * 32)).toList = besC X m 0 := by
  have hb : byteV 0 = Value.int .u8 0 := rfl
  have e : besC X m 0 = flat (fun _ => (List.replicate 32 (Value.int .u8 0))) 0 m := flat_congr (fun j _ _ => by simp only [Nat.not_lt_zero, if_false, List.map_replicate, hb])
  rw [e]
  apply List.ext_getElem?
  intro q
  by_cases hq : q < m * 32
  · have h1 : q / 32 < m := by omega
    have h2 : q % 32 < 32 := Nat.mod_lt _ (by decide)
    have e2 := flat_get (g := fun _ => List.replicate 32 (Value.int .u8 0)) (a := 0) (k := m) (w := 32) (fun _ _ _ => by simp) h1 h2
    rw [show q / 32 * 32 + q % 32 = q by omega] at e2
    rw [e2]
    simp [madeCells, hq, h2]
  · rw [List.getElem?_eq_none (by rw [Array.length_toList, size_madeCells]; omega), List.getElem?_eq_none (by rw [flat_len (w := 32) (fun _ _ _ => by simp)]; omega)]
theorem besC_step {X : Nat → List UInt8} {m i : Nat} (hX : ∀ j, j < m → (X j).length = 32) (hi : i < m) : putAll (besC X m i).toArray ((m - 1 - i) * 32) ((X i).map byteV) = (besC X m (i + 1)).toArray := by
  apply Array.ext_getElem?
  intro q
  have hl : ((X i).map byteV).length = 32 := by rw [List.length_map, hX i hi]
  by_cases hq : q < m * 32
  · rw [putAll_get _ _ _ _ (by rw [List.size_toArray, besC_len hX]; exact hq), hl, List.getElem?_toArray, List.getElem?_toArray]
    have h1 : q / 32 < m := by omega
    have h2 : q % 32 < 32 := Nat.mod_lt _ (by decide)
    have e1 := flat_get (bes_each hX i) h1 h2
    have e2 := flat_get (bes_each hX (i + 1)) h1 h2
    rw [show q / 32 * 32 + q % 32 = q by omega] at e1 e2
    unfold besC
    rw [e1, e2]
    simp only [Nat.zero_add]
    by_cases h : (m - 1 - i) * 32 ≤ q ∧ q < (m - 1 - i) * 32 + 32
    · rw [if_pos h, if_pos (by omega), show m - 1 - q / 32 = i by omega, show q - (m - 1 - i) * 32 = q % 32 by omega]
    · rw [if_neg h]
      by_cases h3 : m - 1 - q / 32 < i
      · rw [if_pos h3, if_pos (by omega)]
      · rw [if_neg h3, if_neg (by omega)]
  · rw [Array.getElem?_eq_none (by rw [putAll_size, List.size_toArray, besC_len hX]; omega), Array.getElem?_eq_none (by rw [List.size_toArray, besC_len hX]; omega)]
theorem besC_full (l : List (List UInt8)) : besC (fun j => l.getD j []) l.length l.length = sumsC l.reverse := by
  have h : ∀ (r : List (List UInt8)) (a : Nat) (G : Nat → List Value), (∀ j x, r[j]? = some x → G (a + j) = x.map byteV) → flat G a r.length = sumsC r := by
    intro r
    induction r with
    | nil => intro a G _; rfl
    | cons x r ih =>
      intro a G hG
      rw [List.length_cons, flat_succ, ih (a + 1) G (fun j y hj => by rw [Nat.add_assoc, Nat.add_comm 1 j]; exact hG (j + 1) y (by simpa using hj))]
      have := hG 0 x rfl
      rw [Nat.add_zero] at this
      rw [this]
      simp [sumsC]
  unfold besC
  have hl : l.length = l.reverse.length := by simp
  conv => lhs; arg 3; rw [hl]
  refine h l.reverse 0 _ (fun j x hj => ?_)
  have hj' : j < l.length := by have := (List.getElem?_eq_some_iff.1 hj).1; simpa using this
  rw [List.getElem?_reverse hj'] at hj
  simp only [Nat.zero_add]
  rw [if_pos (by omega), List.getD_eq_getElem?_getD, hj]
  rfl

theorem sumInfoZ : ∃ i z, Tryd.prog.info? 33 = some i ∧ i.zero = some z ∧ i.size = 32 ∧ z.cells = (List.replicate 32 (Value.int .u8 0)).toArray ∧ i.bytes = 32 := by
  have h2 : (Tryd.prog.info? 33).map (fun i => (i.zero.map (fun z => z.cells), i.size, i.bytes)) = some (some (List.replicate 32 (Value.int .u8 0)).toArray, 32, 32) := by kernel_rfl
  obtain ⟨i, hi, e⟩ := Option.map_eq_some_iff.1 h2
  simp only [Prod.mk.injEq] at e
  obtain ⟨e1, e2, e3⟩ := e
  obtain ⟨z, hz, e4⟩ := Option.map_eq_some_iff.1 e1
  exact ⟨i, z, hi, hz, e2, e4, e3⟩

theorem wpList_val {P : Program} {ops : Array Oper} {rest : List Oper} {o : Oper} {a : Act} {w : World} {Q : Exit → Act → World → Prop} (hgd : o.guard = none) (v : Value) (hx : (execOp a.eval o).run P w = .ok (.value v) w) (h : wpList P ops Q rest (a.put o.dst v) w) : wpList P ops Q (o :: rest) a w :=
  wpList_plain hgd fun K hK => by
    unfold Oper.wp
    rw [hx]
    exact hK _ _ h
theorem wpList_name2 {P : Program} {ops : Array Oper} {rest : List Oper} {a : Act} {w : World} {Q : Exit → Act → World → Prop} (h : ∀ W, w = W → wpList P ops Q rest a W) : wpList P ops Q rest a w := h w rfl
theorem turn_puts (b : Nat) : ∀ (vs : List Value) (o : Nat) (w : World), Turn (fun k => k = b) w (w.setCells b o vs)
  | [], _, w => Turn.refl _ w
  | v :: r, o, w => ((Turn.refl (fun k => k = b) w).put (fun _ => rfl) o v).trans (turn_puts b r (o + 1) _) (fun _ _ h => h)

/-- What lasts while roots are made: i of m are there. -/
structure RoS (w : World) (tv : Value) (T : List Bool) (g off : Nat) (L : List ByteArray) (X : Nat → List UInt8) (m i : Nat) (V : World) : Prop where
  rk : Rk V
  res : Has V w.heap.size 33 (cellsOf (List.replicate 32 0))
  bes : Has V (w.heap.size + 1) 33 (besC X m i).toArray
  tur : Seg V 4 1 tv T.length (T.map Value.bool)
  lt : g < w.heap.size
  cells : ∀ i s, L[i]? = some s → V.cell? ⟨g, off + i, none⟩ = some (.string s)
  bel : Below w.heap.size w V
theorem RoS.below {w : World} {tv : Value} {T : List Bool} {g off : Nat} {L : List ByteArray} {X : Nat → List UInt8} {m i : Nat} {V V' : World} (h : RoS w tv T g off L X m i V) (b : Below V.heap.size V V') : RoS w tv T g off L X m i V' :=
  ⟨h.rk.below b, h.res.below b h.res.lt, h.bes.below b h.bes.lt, h.tur.below b (fun x hx => h.tur.lt hx), h.lt, fun i s hs => by rw [← h.cells i s hs]; unfold World.cell?; rw [b.block g (Nat.lt_of_lt_of_le h.lt h.bel.size)], h.bel.trans (b.mono h.bel.size)⟩

/-- Roots were answered. -/
def RootsPost (w : World) (E : List UInt8) (SL : List (List UInt8)) (en : Ending) (w' : World) : Prop :=
  ∃ bg, en = .returned (.tuple #[.agg (cellsOf E), .slice (some ⟨bg, 0, none⟩) SL.length SL.length]) ∧ Seg w' 33 32 (.slice (some ⟨bg, 0, none⟩) SL.length SL.length) SL.length (sumsC SL) ∧ w.heap.size ≤ bg ∧ Below w.heap.size w w'

set_option maxRecDepth 100000 in
set_option maxHeartbeats 4000000 in
theorem roots_calls (L : List ByteArray) (hsz : ∀ s ∈ L, s.size ≤ 1000000) (hLL : L.length ≤ 1000000) (g off q n c : Nat) (hq : q < n) (hn : n ≤ L.length) (hnc : n ≤ c) (hcm : c ≤ maxLen) (tv : Value) (w : World) (hR : Rk w) (hg : g < w.heap.size)
    (hcell : ∀ i s, L[i]? = some s → w.cell? ⟨g, off + i, none⟩ = some (.string s)) (ht : Seg w 4 1 tv (turnsP q n).length ((turnsP q n).map Value.bool)) :
    Calls Tryd.prog 49 #[tv, .slice (some ⟨g, off, none⟩) n c] w (RootsPost w (endX (leafF L) (turnsP q n) 0 n) (besideX (leafF L) (turnsP q n) 0 n).reverse) := by
  obtain ⟨T, hT⟩ : ∃ T, T = turnsP q n := ⟨_, rfl⟩
  rw [← hT] at ht ⊢
  obtain ⟨BX, hBX⟩ : ∃ BX, BX = besideX (leafF L) T 0 n := ⟨_, rfl⟩
  obtain ⟨E, hE⟩ : ∃ E, E = endX (leafF L) T 0 n := ⟨_, rfl⟩
  rw [← hBX, ← hE]
  obtain ⟨X, hX⟩ : ∃ X : Nat → List UInt8, X = fun j => BX.getD j [] := ⟨_, rfl⟩
  obtain ⟨m, hm⟩ : ∃ m, m = T.length := ⟨_, rfl⟩
  have hbl : BX.length = m := by rw [hBX, besideX_len, hm]
  have hall := beside_all (leafF L) (leafF_len L) n q 0 hq
  rw [← hT, ← hBX, ← hE] at hall
  have hX32 : ∀ j, j < m → (X j).length = 32 := fun j hj => by
    rw [hX]
    simp only [List.getD_eq_getElem?_getD, List.getElem?_eq_getElem (show j < BX.length by omega), Option.getD_some]
    exact hall.1 _ (List.getElem_mem _)
  have hm64 : m ≤ 64 := by rw [hm, hT]; have := turnsP_le 20 n q (by omega); omega
  obtain ⟨ta, tc, htv, ht1, ht2⟩ := ht.slice
  rw [← hm] at htv
  subst htv
  have H := Lib.hid (show _ ∧ _ ∧ _ ∧ _ ∧ _ from ⟨hX32, hbl, hall, hsz, hLL⟩)
  have HT := Lib.hid (show _ ∧ _ ∧ _ ∧ _ ∧ _ from ⟨hT, hBX, hE, hX, hm⟩)
  have hmi : (m : Int) ≤ 64 := by omega
  have hmt : (m : Int) ≤ (tc : Int) := by omega
  have hmk : (Instr.makeSlice 26 (.int .i64 (m : Int)) (.int .i64 (m : Int))).run Tryd.prog (w.alloc (.cells (cellsOf (List.replicate 32 0)) 33)) = .ok (.slice (some ⟨w.heap.size + 1, 0, none⟩) m m) ((w.alloc (.cells (cellsOf (List.replicate 32 0)) 33)).alloc (.cells (besC X m 0).toArray 33)) := by
    obtain ⟨i0, z0, hi0, hz0, hz1, hz2, hz3⟩ := sumInfoZ
    have h := run_make (P := Tryd.prog) (w.alloc (.cells (cellsOf (List.replicate 32 0)) 33)) 26 33 i0 z0 Tryd.underlying26 hi0 hz0 .i64 .i64 (m : Int) (m : Int) (by omega) (by omega) (by rw [hz3]; omega) (by omega)
    rw [Int.toNat_natCast, hz1, hz2] at h
    rw [h, ← besC_zero X m]
    simp
  rw [show cellsOf (List.replicate 32 0) = (List.replicate 32 (Value.int .u8 0)).toArray from rfl] at hmk
  simp only [List.replicate] at hmk
  have HR := Lib.hid (show _ ∧ _ ∧ _ ∧ _ ∧ _ ∧ _ from ⟨hR, hg, hcell, ht, hnc, hcm⟩)
  have HN := Lib.hid (show _ ∧ _ from ⟨hq, hn⟩)
  clear hR hg hcell ht hnc hcm hq hn hX32 hbl hall hsz hLL hT hBX hE hX hm ht1 ht2
  go_enter Tryd.func49, Tryd.ntmps49
  go_wp2_with fail
  clear hmk
  have S0 : Hid (RoS w (.slice ta m tc) T g off L X m 0 ((w.alloc (.cells (cellsOf (List.replicate 32 0)) 33)).alloc (.cells (besC X m 0).toArray 33))) := by
    obtain ⟨h1, h2, h3, h4, _, _⟩ := HR.out
    have bb : Below w.heap.size w ((w.alloc (.cells (cellsOf (List.replicate 32 0)) 33)).alloc (.cells (besC X m 0).toArray 33)) := ((Below.refl _ _).alloc (Nat.le_refl _) _).alloc (by simp) _
    exact Lib.hid ⟨h1.below bb, (made_at _ _ rfl).alloc _, made_at _ _ (by simp), h4.below bb (fun x hx => h4.lt hx), h2, fun i s hs => by rw [← h3 i s hs]; unfold World.cell?; rw [bb.block g h2], bb⟩
  go_loopw [1, 17] (fun v x wr => ∃ i q' a k cc : Nat, v = .slice (some ⟨g, off + a, none⟩) k cc ∧ x = .int .i64 i ∧ i ≤ m ∧ Hid (q' < k ∧ a + k ≤ L.length ∧ k ≤ cc ∧ cc ≤ maxLen ∧ turnsP q' k = T.drop i ∧ besideX (leafF L) (T.drop i) a k = BX.drop i ∧ endX (leafF L) (T.drop i) a k = E) ∧ Hid (RoS w (.slice ta m tc) T g off L X m i wr)) (fun _ x _ => m - (intOf x).toNat)
  case atStart => exact ⟨0, q, 0, n, c, rfl, rfl, Nat.zero_le _, Lib.hid ⟨HN.out.1, by rw [Nat.zero_add]; exact HN.out.2, HR.out.2.2.2.2.1, HR.out.2.2.2.2.2, HT.out.1.symm, HT.out.2.1.symm, HT.out.2.2.1.symm⟩, S0⟩
  case round =>
    clear S0
    obtain ⟨i, q', a, k, cc, rfl, rfl, him, HI, HS⟩ := hrel
    by_cases hin : i < m
    · have h1 : (i : Int) < (m : Int) := by omega
      obtain ⟨b, hb⟩ : ∃ b, T[i]? = some b := ⟨_, List.getElem?_eq_getElem (by have := HT.out.2.2.2.2; omega)⟩
      have hd : T.drop i = b :: T.drop (i + 1) := by
        obtain ⟨hl, he⟩ := List.getElem?_eq_some_iff.1 hb
        rw [List.drop_eq_getElem_cons hl, he]
      obtain ⟨gt, ot, rfl, hct⟩ : ∃ gt ot, ta = some ⟨gt, ot, none⟩ ∧ wr.cell? ⟨gt, ot + i, none⟩ = some (.bool b) := by
        obtain ⟨gt, ot, c', hv, _, _, _, hc⟩ := HS.out.tur.cells (by have := HT.out.2.2.2.2; omega)
        simp only [Value.slice.injEq] at hv
        exact ⟨gt, ot, hv.1, hc i _ (by rw [List.getElem?_map, hb]; rfl)⟩
      have hk2 : 2 ≤ k := by
        have h5 := HI.out.2.2.2.2.1
        rw [hd] at h5
        rcases Nat.lt_or_ge (q' + 1) k with h6 | h6
        · omega
        · rw [turnsP_end h6] at h5; cases h5
      have hlt := half_lt hk2
      have hp := half_pos k
      obtain ⟨h, hh⟩ : ∃ h, h = half k := ⟨_, rfl⟩
      obtain ⟨h2, hh2⟩ : ∃ h2, h2 = k - h := ⟨_, rfl⟩
      obtain ⟨c2, hc2⟩ : ∃ c2, c2 = cc - h := ⟨_, rfl⟩
      rw [← hh] at hlt hp
      have HH := Lib.hid hh
      have HC2 := Lib.hid (show _ ∧ _ from ⟨hh2, hc2⟩)
      have hk6 : k ≤ 1000000000000 := by have := HI.out.2.1; have := H.out.2.2.2.2; omega
      have hkcc : k ≤ cc ∧ (cc : Int) ≤ 9223372036854775807 := by have := HI.out; unfold maxLen at this; omega
      have hkb : (k : Int) ≤ 1000000 := by have := HI.out.2.1; have := H.out.2.2.2.2; omega
      have e1 : (k : Int) - (h : Int) = (h2 : Int) := by omega
      have e2 : (cc : Int) - (h : Int) = (c2 : Int) := by omega
      have e3 : k - h = h2 := by omega
      have e4 : cc - h = c2 := by omega
      have e5 : (h : Int) ≤ (k : Int) := by omega
      have e6 : (k : Int) ≤ (cc : Int) := by omega
      have e7 : (h : Int) ≤ (cc : Int) := by omega
      have e8 : ¬ cc = h := by omega
      have e9 : (m : Int) - 1 - (i : Int) = ((m - 1 - i : Nat) : Int) := by omega
      obtain ⟨j, hj⟩ : ∃ j, j = m - 1 - i := ⟨_, rfl⟩
      rw [← hj] at e9
      have hjm : (j : Int) < (m : Int) := by omega
      have hj0 : (0 : Int) ≤ (j : Int) := by omega
      have HJ := Lib.hid (show _ ∧ _ ∧ _ from ⟨hj, hin, hb⟩)
      have HD := Lib.hid hd
      have e0 : Hid (wr.cell? ⟨gt, ot + i, none⟩ = some (.bool b)) := Lib.hid hct
      clear hb hd hh hh2 hc2 hj him
      cases b
      case' true =>
        obtain ⟨na, hna⟩ : ∃ na, na = a := ⟨_, rfl⟩
        obtain ⟨nk, hnk⟩ : ∃ nk, nk = h := ⟨_, rfl⟩
        obtain ⟨fa, hfa⟩ : ∃ fa, fa = a + h := ⟨_, rfl⟩
        obtain ⟨fk, hfk⟩ : ∃ fk, fk = h2 := ⟨_, rfl⟩
        have HF : Hid (∀ V, RoS w (.slice (some ⟨gt, ot, none⟩) m tc) T g off L X m i V → Calls Tryd.prog 37 #[.slice (some ⟨g, off + a + h, none⟩) h2 c2] V fun en w' => en = .returned (.agg (cellsOf (X i))) ∧ RoS w (.slice (some ⟨gt, ot, none⟩) m tc) T g off L X m i w') := Lib.hid fun V hV => by
          rw [Nat.add_assoc]
          refine (over_calls L H.out.2.2.2.1 H.out.2.2.2.2 g off h2 (a := a + h) (c := c2) V (by omega) (by have := HI.out; omega) (by have := HC2.out; omega) (by have := HI.out; have := HC2.out; omega) hV.rk (Nat.lt_of_lt_of_le hV.lt hV.bel.size) hV.cells).mono fun _ _ h => ⟨?_, hV.below h.2⟩
          rw [h.1]
          have h5 := HI.out.2.2.2.2.2.1
          rw [HD.out, besideX] at h5
          have h6 : BX[i]? = some (rt (leafF L) (a + half k) (k - half k)) := by
            have := congrArg (fun l => l[0]?) h5
            simpa using this.symm
          rw [HT.out.2.2.2.1]
          simp only [List.getD_eq_getElem?_getD, h6, Option.getD_some, ← HH.out]
          rw [HC2.out.1]
        have HX2 : Hid (∃ q2, q2 < h ∧ turnsP q2 h = T.drop (i + 1) ∧ besideX (leafF L) (T.drop (i + 1)) a h = BX.drop (i + 1) ∧ endX (leafF L) (T.drop (i + 1)) a h = E) := Lib.hid (by
          obtain ⟨x1, x2, x3, x4, x5, x6, x7⟩ := HI.out
          have x8 := x5
          rw [HD.out] at x5 x6 x7
          rw [besideX, ← HH.out] at x6
          rw [endX, ← HH.out] at x7
          have hq1 : q' + 1 < k := by
            rcases Nat.lt_or_ge (q' + 1) k with h6 | h6
            · exact h6
            · rw [turnsP_end h6] at x5; cases x5
          have hq2 : q' < h := by
            rcases Nat.lt_or_ge q' (half k) with h6 | h6
            · rw [HH.out]; exact h6
            · rw [turnsP_right hq1 (by omega)] at x5; simp at x5
          rw [turnsP_left hq1 (by rw [← HH.out]; exact hq2), ← HH.out] at x5
          refine ⟨q', hq2, (List.cons.inj x5).2, ?_, x7⟩
          have := congrArg (List.drop 1) x6
          simpa [List.drop_drop, Nat.add_comm] using this)
      case' false =>
        obtain ⟨na, hna⟩ : ∃ na, na = a + h := ⟨_, rfl⟩
        obtain ⟨nk, hnk⟩ : ∃ nk, nk = h2 := ⟨_, rfl⟩
        obtain ⟨fa, hfa⟩ : ∃ fa, fa = a := ⟨_, rfl⟩
        obtain ⟨fk, hfk⟩ : ∃ fk, fk = h := ⟨_, rfl⟩
        have HF : Hid (∀ V, RoS w (.slice (some ⟨gt, ot, none⟩) m tc) T g off L X m i V → Calls Tryd.prog 37 #[.slice (some ⟨g, off + a, none⟩) h cc] V fun en w' => en = .returned (.agg (cellsOf (X i))) ∧ RoS w (.slice (some ⟨gt, ot, none⟩) m tc) T g off L X m i w') := Lib.hid fun V hV => by
          refine (over_calls L H.out.2.2.2.1 H.out.2.2.2.2 g off h (a := a) (c := cc) V (by omega) (by have := HI.out; omega) (by have := HI.out; omega) (by have := HI.out; omega) hV.rk (Nat.lt_of_lt_of_le hV.lt hV.bel.size) hV.cells).mono fun _ _ h => ⟨?_, hV.below h.2⟩
          rw [h.1]
          have h5 := HI.out.2.2.2.2.2.1
          rw [HD.out, besideX] at h5
          have h6 : BX[i]? = some (rt (leafF L) a (half k)) := by
            have := congrArg (fun l => l[0]?) h5
            simpa using this.symm
          rw [HT.out.2.2.2.1]
          simp only [List.getD_eq_getElem?_getD, h6, Option.getD_some, ← HH.out]
        have HX2 : Hid (∃ q2, q2 < h2 ∧ turnsP q2 h2 = T.drop (i + 1) ∧ besideX (leafF L) (T.drop (i + 1)) (a + h) h2 = BX.drop (i + 1) ∧ endX (leafF L) (T.drop (i + 1)) (a + h) h2 = E) := Lib.hid (by
          obtain ⟨x1, x2, x3, x4, x5, x6, x7⟩ := HI.out
          rw [HD.out] at x5 x6 x7
          rw [besideX, ← HH.out, ← HC2.out.1] at x6
          rw [endX, ← HH.out, ← HC2.out.1] at x7
          have hq1 : q' + 1 < k := by
            rcases Nat.lt_or_ge (q' + 1) k with h6 | h6
            · exact h6
            · rw [turnsP_end h6] at x5; cases x5
          have hq2 : ¬ q' < h := by
            intro h6
            rw [turnsP_left hq1 (by rw [← HH.out]; exact h6)] at x5
            simp at x5
          rw [turnsP_right hq1 (by rw [← HH.out]; exact hq2), ← HH.out, ← HC2.out.1] at x5
          refine ⟨q' - h, by have := HC2.out.1; omega, (List.cons.inj x5).2, ?_, x7⟩
          have := congrArg (List.drop 1) x6
          simpa [List.drop_drop, Nat.add_comm] using this)
      all_goals
        go_wp2_with (first
          | (go_at_call 61; refine (half_calls k _ hk2 hk6).mono ?_; rw [← HH.out]; rintro e w' ⟨rfl, rfl⟩)
          | fail)
        refine wp_region_S (S := RoS w (.slice (some ⟨gt, ot, none⟩) m tc) T g off L X m i) (by kernel_rfl) (HS.out.below (Below.refl _ _).drew) ?_
        refine AnyS.pure 0 (some 25) (v := .slice (some ⟨g, off + a, none⟩) k cc) rfl rfl (by kernel_rfl) (by kernel_rfl) (by kernel_rfl) (fun _ _ _ h => h) (by kernel_rfl) (fun V hV => by rfl) ?_
        refine AnyS.pure 1 (some 26) (v := .int .i64 h) rfl rfl (by kernel_rfl) (by kernel_rfl) (by kernel_rfl) (fun _ _ _ h => h) (by kernel_rfl) (fun V hV => by rfl) ?_
        simp only [Act.put, List.setIfInBounds_toArray, List.set_cons_zero, List.set_cons_succ]
        refine AnyS.pure 2 (some 27) (v := .slice (some ⟨g, off + a + h, none⟩) h2 c2) rfl rfl (by kernel_rfl) (by kernel_rfl) (by kernel_rfl) (fun _ _ _ h => h) (by kernel_rfl) (fun V hV => by go_simp) ?_
        refine AnyS.pure 3 (some 28) (v := .slice (some ⟨g, off + a, none⟩) k cc) rfl rfl (by kernel_rfl) (by kernel_rfl) (by kernel_rfl) (fun _ _ _ h => h) (by kernel_rfl) (fun V hV => by rfl) ?_
        simp only [Act.put, List.setIfInBounds_toArray, List.set_cons_zero, List.set_cons_succ]
        refine AnyS.pure 4 (some 29) (v := .int .i64 h) rfl rfl (by kernel_rfl) (by kernel_rfl) (by kernel_rfl) (fun _ _ _ h => h) (by kernel_rfl) (fun V hV => by rfl) ?_
        refine AnyS.pure 5 (some 30) (v := .slice (some ⟨g, off + a, none⟩) h cc) rfl rfl (by kernel_rfl) (by kernel_rfl) (by kernel_rfl) (fun _ _ _ h => h) (by kernel_rfl) (fun V hV => by go_simp) ?_
        simp only [Act.put, List.setIfInBounds_toArray, List.set_cons_zero, List.set_cons_succ]
        refine AnyS.pure 6 (some 10) (v := .slice (some ⟨g, off + a + h, none⟩) h2 c2) rfl rfl (by kernel_rfl) (by kernel_rfl) (by kernel_rfl) (fun _ _ _ h => h) (by kernel_rfl) (fun V hV => by rfl) ?_
        refine AnyS.pure 7 (some 11) (v := .slice (some ⟨g, off + a, none⟩) h cc) rfl rfl (by kernel_rfl) (by kernel_rfl) (by kernel_rfl) (fun _ _ _ h => h) (by kernel_rfl) (fun V hV => by rfl) ?_
        simp only [Act.put, List.setIfInBounds_toArray, List.set_cons_zero, List.set_cons_succ]
        refine AnyS.done (by kernel_rfl) (fun V hV => ?_) _
        have HV := Lib.hid hV
        clear hV HS hct
        go_wp2_with fail
        refine (HF.out V HV.out).mono ?_
        rintro en w3 ⟨rfl, s3⟩
        have H3 := Lib.hid s3
        clear s3 HV HF
        have hth : w3.there (w.heap.size + 1) (j * 32) (cellsOf (X i)).size := fun r hr => by
          have hX := H.out.1 i HJ.out.2.1
          rw [cellsOf_size, hX] at hr
          exact ⟨by
            rw [H3.out.bes.cell, List.getElem?_toArray, List.getElem?_eq_getElem (by rw [besC_len H.out.1]; have := HJ.out.1; have := HJ.out.2.1; omega)]
            rfl, H3.out.bes.free _⟩
        have HTH := Lib.hid hth
        clear hth
        have hcz : (cellsOf (X i)).size = 32 := by rw [cellsOf_size, H.out.1 i HJ.out.2.1]
        have hcz2 : (X i).length = 32 := H.out.1 i HJ.out.2.1
        have hst : (storeCells ⟨w.heap.size + 1, j * 32, none⟩ (cellsOf (X i)).toList).run Tryd.prog w3 = .ok () (w3.setCells (w.heap.size + 1) (j * 32) (cellsOf (X i)).toList) := by
          have := run_storeCells_cells (P := Tryd.prog) (w.heap.size + 1) (j * 32) (cellsOf (X i)).toList 0 w3 (fun r hr => by simpa using (HTH.out r (by simpa using hr)).1) (fun r hr => by simpa using (HTH.out r (by simpa using hr)).2)
            (fun v hv => (Array.all_eq_true_iff_forall_mem.1 (cellsOf_one (X i))) v (by simpa using hv))
          simpa only [Nat.add_zero] using this
        have H4 : Hid (RoS w (.slice (some ⟨gt, ot, none⟩) m tc) T g off L X m (i + 1) (w3.setCells (w.heap.size + 1) (j * 32) (cellsOf (X i)).toList)) := by
          have hpb := Has.puts (w := w3) ((X i).map byteV) (j * 32) H3.out.bes
          rw [HJ.out.1, besC_step H.out.1 HJ.out.2.1, ← HJ.out.1] at hpb
          have hpt : Turn (fun b => b = w.heap.size + 1) w3 (w3.setCells (w.heap.size + 1) (j * 32) (cellsOf (X i)).toList) := turn_puts _ _ _ _
          exact Lib.hid ⟨H3.out.rk.turn hpt (fun h => by have := HR.out.1.lt; omega), H3.out.res.turn hpt (by omega), hpb, H3.out.tur.turn hpt (fun x hx e => H3.out.tur.ne H3.out.bes (by decide) (by rw [hx, e])), H3.out.lt, fun i s hs => by rw [← H3.out.cells i s hs]; exact hpt.cell (Nat.lt_of_lt_of_le H3.out.lt H3.out.bel.size) (by have := H3.out.lt; show ¬ g = _; omega), H3.out.bel.trans (hpt.below H3.out.bel.size (fun j hj e => by omega))⟩
        go_wp2_with fail
        obtain ⟨q2, y1, y2, y3, y4⟩ := HX2.out
        have hcs : Value.int .i64 ((i : Int) + 1) = .int .i64 ((i + 1 : Nat) : Int) := by rw [Int.natCast_add]; rfl
        refine ⟨⟨i + 1, q2, na, nk, _, by first | (rw [hna, hnk]; done) | (rw [hna, hnk, ← Nat.add_assoc]; done), hcs, by have := HJ.out.2.1; omega, Lib.hid ⟨by rw [hnk]; exact y1, by have := HI.out; omega, ?_, ?_, by rw [hnk]; exact y2, by rw [hna, hnk]; exact y3, by rw [hna, hnk]; exact y4⟩, H4⟩, ?_⟩
        · have := HI.out; have := HC2.out; omega
        · have := HI.out; have := HC2.out; omega
        · have := HJ.out.2.1
          show m - ((i : Int) + 1).toNat < m - ((i : Int)).toNat
          omega
    · obtain rfl : i = m := by omega
      have h1 : ¬ (i : Int) < (i : Int) := by omega
      have HE : Hid (Calls Tryd.prog 37 #[.slice (some ⟨g, off + a, none⟩) k cc] wr fun en w' => en = .returned (.agg (cellsOf E)) ∧ RoS w (.slice ta i tc) T g off L X i i w') := Lib.hid (by
        refine (over_calls L H.out.2.2.2.1 H.out.2.2.2.2 g off k (a := a) (c := cc) wr (by have := HI.out; omega) (by have := HI.out; omega) (by have := HI.out; omega) (by have := HI.out; omega) HS.out.rk (Nat.lt_of_lt_of_le HS.out.lt HS.out.bel.size) HS.out.cells).mono fun _ _ h => ⟨?_, HS.out.below h.2⟩
        rw [h.1]
        have h5 := HI.out.2.2.2.2.2.2
        rw [List.drop_of_length_le (by rw [HT.out.2.2.2.2]; exact Nat.le_refl _), endX] at h5
        rw [h5])
      have hE32 : E.length = 32 := H.out.2.2.1.2
      go_wp2_with fail
      refine HE.out.mono ?_
      rintro en w3 ⟨rfl, s3⟩
      have H3 := Lib.hid s3
      clear s3 HE HS
      go_wp2_with (first
        | ((with_reducible refine at_store (.tmp 4) ?_); refine wpList_store_arr (o := ⟨none, _, _, _, _, _⟩) rfl 33 _ _ rfl w.heap.size E (List.replicate 32 0) rfl rfl _ H3.out.res 32 (by kernel_rfl) (by simp) hE32 ?_; intro W6 HW6 TW6)
        | fail)
      refine bodyPost_ret (v := .tuple #[.agg (cellsOf E), .slice (some ⟨w.heap.size + 1, 0, none⟩) i i]) (results_cell_tmp rfl _ _ w.heap.size 33 _ _ _ rfl HW6 Tryd.underlying33 rfl (by rw [cellsOf_size, hE32]; kernel_rfl) _ rfl) rfl ?_
      have hln : BX.reverse.length = i := by rw [List.length_reverse]; exact H.out.2.1
      have hbf : besC X i i = sumsC BX.reverse := by
        have := besC_full BX
        rw [H.out.2.1] at this
        rw [HT.out.2.2.2.1]
        exact this
      refine ⟨w.heap.size + 1, by rw [hln], ?_, Nat.le_succ _, H3.out.bel.trans (TW6.below H3.out.bel.size (fun j hj e => by omega))⟩
      rw [hln, ← hbf]
      have h6 := Seg.of_has (n := i) (size := 32) (H3.out.bes.turn TW6 (by omega)) (by rw [List.size_toArray, besC_len H.out.1]) (by unfold maxLen; omega)
      exact h6
end Go.Proofs.YthbncejbcegmgaaDoor.clash
end

section
/- clash: firstUnlike. -/
namespace Go.Proofs.YthbncejbcegmgaaDoor.clash
open Go Go.RowKit Go.Proofs.YthbncejbcegmgaaDoor.dig

/-- The cells of some pairs. -/
def pairC (p : ByteArray × ByteArray) : List Value := [.string p.1, .string p.2]
def pairsC (L : List (ByteArray × ByteArray)) : List Value := L.flatMap pairC
theorem pairsC_get : ∀ (L : List (ByteArray × ByteArray)) (i : Nat) (p : ByteArray × ByteArray), L[i]? = some p → ∀ j, j < 2 → (pairsC L)[i * 2 + j]? = (pairC p)[j]?
  | [], i, p, h => by simp at h
  | q :: L, 0, p, h => fun j hj => by
    obtain rfl : q = p := by simpa using h
    rw [Nat.zero_mul, Nat.zero_add, pairsC, List.flatMap_cons, List.getElem?_append_left (by simp [pairC]; omega)]
  | q :: L, i + 1, p, h => fun j hj => by
    rw [pairsC, List.flatMap_cons, List.getElem?_append_right (by simp [pairC]; omega), show (i + 1) * 2 + j - (pairC q).length = i * 2 + j by simp [pairC]; omega]
    exact pairsC_get L i p (by simpa using h) j hj

/-- The first that is unlike. -/
def firstU (L : List (ByteArray × ByteArray)) : (ByteArray × ByteArray) × Bool := match L.find? (fun p => decide (p.1 ≠ p.2)) with | some p => (p, true) | none => ((⟨#[]⟩, ⟨#[]⟩), false)
theorem firstU_none {L : List (ByteArray × ByteArray)} (h : ∀ (j : Nat) p, L[j]? = some p → p.1 = p.2) : firstU L = ((⟨#[]⟩, ⟨#[]⟩), false) := by
  unfold firstU
  rw [List.find?_eq_none.2 (fun p hp => by
    obtain ⟨j, hj⟩ := List.getElem?_of_mem hp
    simp [h j p hj])]
theorem firstU_some {L : List (ByteArray × ByteArray)} {i : Nat} {p : ByteArray × ByteArray} (hi : L[i]? = some p) (hp : p.1 ≠ p.2) (h : ∀ (j : Nat) p, j < i → L[j]? = some p → p.1 = p.2) : firstU L = (p, true) := by
  unfold firstU
  have : L.find? (fun p => decide (p.1 ≠ p.2)) = some p := by
    rw [List.find?_eq_some_iff_getElem]
    obtain ⟨h1, h2⟩ := List.getElem?_eq_some_iff.1 hi
    exact ⟨by simp [hp], i, h1, h2, fun j hj => by simp [h j _ hj (List.getElem?_eq_getElem (by omega))]⟩
  rw [this]

set_option maxRecDepth 100000 in
set_option maxHeartbeats 2000000 in
theorem first_calls (v : Value) (L : List (ByteArray × ByteArray)) (w : World) (hs : Seg w 40 2 v L.length (pairsC L)) (hlen : L.length ≤ 1000) :
    Calls Tryd.prog 35 #[v] w fun en w' => en = .returned (.tuple #[.agg #[.string (firstU L).1.1, .string (firstU L).1.2], .bool (firstU L).2]) ∧ Below w.heap.size w w' := by
  obtain ⟨fu, hfu⟩ : ∃ fu, fu = firstU L := ⟨_, rfl⟩
  rw [← hfu]
  have HFU := Lib.hid hfu
  clear hfu
  obtain ⟨sa, sc, rfl, hs1, hs2⟩ := hs.slice
  obtain ⟨n, hn⟩ : ∃ n, n = L.length := ⟨_, rfl⟩
  have HC0 : Hid (∀ (i : Nat) p, L[i]? = some p → ∃ g o, sa = some ⟨g, o, none⟩ ∧ g < w.heap.size ∧ w.rangeAt g (o + i * 2) (pairC p)) := Lib.hid fun i p hp => by
    have hi := (List.getElem?_eq_some_iff.1 hp).1
    obtain ⟨g, o, c', hv, hg, _, _, hcell⟩ := hs.cells (by omega)
    simp only [Value.slice.injEq] at hv
    refine ⟨g, o, hv.1, hg, fun j u hj => ?_⟩
    have hj2 : j < 2 := by have := (List.getElem?_eq_some_iff.1 hj).1; simpa [pairC] using this
    rw [Nat.add_assoc]
    exact hcell _ u ((pairsC_get L i p hp j hj2).trans hj)
  have HN := Lib.hid hn
  have HS1 := Lib.hid hs2
  have hsc : (n : Int) ≤ 1000 := by omega
  have hs1' : (n : Int) ≤ (sc : Int) := by omega
  rw [← hn]
  clear hs hs1 hs2 hlen hn
  go_enter Tryd.func35, Tryd.ntmps35
  go_wp2_with fail
  have S0 : Hid (Below w.heap.size w (w.alloc (.cells #[.string ⟨#[]⟩, .string ⟨#[]⟩] 40)) ∧ Has (w.alloc (.cells #[.string ⟨#[]⟩, .string ⟨#[]⟩] 40)) w.heap.size 40 #[.string ⟨#[]⟩, .string ⟨#[]⟩]) :=
    Lib.hid ⟨(Below.refl _ _).alloc (Nat.le_refl _) _, made_at _ _ rfl⟩
  go_loopw [8] (fun x wr => ∃ i : Nat, x = .int .i64 i ∧ i ≤ n ∧ Hid (∀ (j : Nat) p, j < i → L[j]? = some p → p.1 = p.2) ∧ Hid (Below w.heap.size w wr ∧ Has wr w.heap.size 40 #[.string ⟨#[]⟩, .string ⟨#[]⟩])) (fun x _ => n - (intOf x).toNat)
  case atStart => exact ⟨0, rfl, Nat.zero_le _, Lib.hid (fun j p hj => absurd hj (by omega)), S0⟩
  case round =>
    clear S0
    obtain ⟨i, rfl, hin, HI, HS⟩ := hrel
    by_cases h : i < n
    · have h1 : (i : Int) < (n : Int) := by omega
      obtain ⟨p, hp⟩ : ∃ p, L[i]? = some p := ⟨_, List.getElem?_eq_getElem (by have := HN.out; omega)⟩
      obtain ⟨g, o, rfl, hg, hrg⟩ := HC0.out i p hp
      have hrg2 : wr.rangeAt g (o + i * 2) (pairC p) := fun j u hj => by
        rw [← hrg j u hj]
        unfold World.cell?
        rw [HS.out.1.block g hg]
      have HP := Lib.hid hp
      obtain ⟨pa, pb⟩ := p
      clear hrg hp
      have HRG := Lib.hid hrg2
      clear hrg2
      go_wp2_with (first
        | ((with_reducible refine at_op 11 ?_); refine wpList_load_mid (op := ⟨some 11, _, _, _, _, _⟩) rfl 40 _ rfl g (o + i * 2) rfl (pairC (pa, pb)) _ HRG.out Tryd.underlying40 rfl (by kernel_rfl) ?_)
        | ((with_reducible refine at_store (.tmp 5) ?_); refine wpList_store_cells (o := ⟨none, _, _, _, _, _⟩) rfl 40 _ _ rfl wr.heap.size #[.string pa, .string pb] _ rfl rfl _ (made_at _ _ rfl) (by kernel_rfl) rfl (by simp [Value.oneCell']) ?_; intro W1 HW1 TW1; refine stay ?_)
        | fail)
      unfold Stay
      have A1 : Below wr.heap.size wr W1 := ((Below.refl wr.heap.size wr).alloc (Nat.le_refl _) _).trans (TW1.below (by simp) (fun j hj e => by omega))
      have K1 : Hid (Below w.heap.size w W1 ∧ Has W1 w.heap.size 40 #[.string ⟨#[]⟩, .string ⟨#[]⟩] ∧ Has W1 wr.heap.size 40 #[.string pa, .string pb]) :=
        Lib.hid ⟨HS.out.1.trans (A1.mono HS.out.1.size), HS.out.2.below A1 HS.out.2.lt, HW1⟩
      have c0 : W1.cell? ⟨wr.heap.size, 0, none⟩ = some (.string pa) := K1.out.2.2.cell 0
      have c1 : W1.cell? ⟨wr.heap.size, 1, none⟩ = some (.string pb) := K1.out.2.2.cell 1
      clear A1 HW1 TW1 HS HRG
      by_cases he : pa = pb
      · subst he
        have hne : (pa.toList == pa.toList) = true := by simp
        go_wp2_with fail
        refine ⟨⟨i + 1, by rw [Int.natCast_add]; rfl, by omega, Lib.hid (fun j p hj hp => ?_), Lib.hid ⟨K1.out.1, K1.out.2.1⟩⟩, ?_⟩
        · rcases Nat.lt_or_ge j i with h2 | h2
          · exact HI.out j p h2 hp
          · obtain rfl : j = i := by omega
            have := HP.out
            rw [hp] at this
            cases this
            rfl
        · show n - ((i : Int) + 1).toNat < n - ((i : Int)).toNat
          omega
      · have hne : ¬ pa.toList = pb.toList := fun e => he (by
          rw [ByteArray.toList_eq, ByteArray.toList_eq] at e
          apply ByteArray.ext
          exact Array.toList_inj.1 e)
        have hne2 : (pa.toList == pb.toList) = false := by simpa using hne
        have HF : Hid (firstU L = ((pa, pb), true)) := Lib.hid (firstU_some HP.out he HI.out)
        clear he
        go_wp2_with (first
          | ((with_reducible refine at_op 17 ?_); refine wpList_load_mid (op := ⟨some 17, _, _, _, _, _⟩) rfl 40 _ rfl wr.heap.size 0 rfl (pairC (pa, pb)) _ (Has.range K1.out.2.2) Tryd.underlying40 rfl (by kernel_rfl) ?_)
          | ((with_reducible refine at_store (.tmp 2) ?_); refine wpList_store_cells (o := ⟨none, _, _, _, _, _⟩) rfl 40 _ _ rfl w.heap.size #[.string pa, .string pb] _ rfl rfl _ K1.out.2.1 (by kernel_rfl) rfl (by simp [Value.oneCell']) ?_; intro W6 HW6 TW6)
          | fail)
        exact bodyPost_ret (v := .tuple #[.agg #[.string pa, .string pb], .bool true]) (results_cell_tmp rfl _ _ w.heap.size 40 _ _ _ rfl HW6 Tryd.underlying40 rfl (by kernel_rfl) _ rfl) rfl
          ⟨by rw [HFU.out, HF.out], K1.out.1.trans (TW6.below K1.out.1.size (fun j hj e => by omega))⟩
    · obtain rfl : i = n := by omega
      have h1 : ¬ (i : Int) < (i : Int) := by omega
      have HF : Hid (firstU L = ((⟨#[]⟩, ⟨#[]⟩), false)) := Lib.hid (firstU_none (fun j p hj => HI.out j p (by have := (List.getElem?_eq_some_iff.1 hj).1; have := HN.out; omega) hj))
      go_wp2_with (first
        | ((with_reducible refine at_store (.tmp 2) ?_); refine wpList_store_cells (o := ⟨none, _, _, _, _, _⟩) rfl 40 _ _ rfl w.heap.size #[.string ⟨#[]⟩, .string ⟨#[]⟩] _ rfl rfl _ HS.out.2 (by kernel_rfl) rfl (by simp [Value.oneCell']) ?_; intro W6 HW6 TW6)
        | fail)
      exact bodyPost_ret (v := .tuple #[.agg #[.string ⟨#[]⟩, .string ⟨#[]⟩], .bool false]) (results_cell_tmp rfl _ _ w.heap.size 40 _ _ _ rfl HW6 Tryd.underlying40 rfl (by kernel_rfl) _ rfl) rfl
        ⟨by rw [HFU.out, HF.out], HS.out.1.trans (TW6.below HS.out.1.size (fun j hj e => by omega))⟩
end Go.Proofs.YthbncejbcegmgaaDoor.clash
end

section
/- clash: pairs. -/
namespace Go.Proofs.YthbncejbcegmgaaDoor.clash
open Go Go.RowKit Go.Proofs.YthbncejbcegmgaaDoor.dig

/-- The cells when i pairs are there. -/
def pairsM (A B : Nat → ByteArray) (n i : Nat) : List Value := flat (fun j => if j < i then pairC (A j, B j) else pairC (ByteArray.empty, ByteArray.empty)) 0 n
theorem pairC_len (p : ByteArray × ByteArray) : (pairC p).length = 2 := rfl
theorem pairsM_each (A B : Nat → ByteArray) (n i : Nat) : ∀ k, 0 ≤ k → k < 0 + n → ((fun j => if j < i then pairC (A j, B j) else pairC (ByteArray.empty, ByteArray.empty)) k).length = 2 := fun k _ _ => by
  simp only []
  split <;> rfl
theorem pairsM_len (A B : Nat → ByteArray) (n i : Nat) : (pairsM A B n i).length = n * 2 := flat_len (pairsM_each A B n i)
theorem pairsM_zero (A B : Nat → ByteArray) (n : Nat) : (madeCells #[.string ByteArray.empty, .string ByteArray.empty] (n * 2)).toList = pairsM A B n 0 := by
  apply List.ext_getElem?
  intro q
  by_cases hq : q < n * 2
  · have h1 : q / 2 < n := by omega
    have h2 : q % 2 < 2 := Nat.mod_lt _ (by decide)
    have e := flat_get (pairsM_each A B n 0) h1 h2
    rw [show q / 2 * 2 + q % 2 = q by omega] at e
    unfold pairsM
    rw [e]
    rcases (show q % 2 = 0 ∨ q % 2 = 1 by omega) with h | h <;> simp [madeCells, h, hq, pairC]
  · rw [List.getElem?_eq_none (by rw [Array.length_toList, size_madeCells]; omega), List.getElem?_eq_none (by rw [pairsM_len]; omega)]
theorem pairsM_step (A B : Nat → ByteArray) {n i : Nat} (hi : i < n) : ((pairsM A B n i).set (i * 2) (.string (A i))).set (i * 2 + 1) (.string (B i)) = pairsM A B n (i + 1) := by
  unfold pairsM
  have e1 := flat_set (pairsM_each A B n i) (j := i) (r := 0) hi (by decide) (.string (A i))
  rw [Nat.add_zero] at e1
  rw [e1, flat_set (w := 2) (fun k _ _ => by split <;> (try rw [List.length_set]) <;> (split <;> rfl)) (j := i) (r := 1) hi (by decide)]
  apply flat_congr
  intro j _ hj
  simp only [Nat.zero_add]
  by_cases h1 : j = i
  · subst h1
    simp [pairC]
  · rw [if_neg h1, if_neg h1]
    by_cases h2 : j < i
    · rw [if_pos h2, if_pos (by omega)]
    · rw [if_neg h2, if_neg (by omega)]

theorem pairInfo : ∃ i z, Tryd.prog.info? 40 = some i ∧ i.zero = some z ∧ i.size = 2 ∧ z.cells = #[.string ByteArray.empty, .string ByteArray.empty] ∧ i.bytes = 32 := by
  have h2 : (Tryd.prog.info? 40).map (fun i => (i.zero.map (fun z => z.cells), i.size, i.bytes)) = some (some #[.string ByteArray.empty, .string ByteArray.empty], 2, 32) := by kernel_rfl
  obtain ⟨i, hi, e⟩ := Option.map_eq_some_iff.1 h2
  simp only [Prod.mk.injEq] at e
  obtain ⟨e1, e2, e3⟩ := e
  obtain ⟨z, hz, e4⟩ := Option.map_eq_some_iff.1 e1
  exact ⟨i, z, hi, hz, e2, e4, e3⟩

/-- What lasts while a pair is made. -/
structure PaS (w : World) (ga oa gb ob i n : Nat) (A B : Nat → ByteArray) (V : World) : Prop where
  ca : V.cell? ⟨ga, oa + i, none⟩ = some (.string (A i))
  cb : V.cell? ⟨gb, ob + i, none⟩ = some (.string (B i))
  own : Has V w.heap.size 40 (pairsM A B n i).toArray
  bel : Below w.heap.size w V

theorem PaS.drew {w : World} {ga oa gb ob i n : Nat} {A B : Nat → ByteArray} {V : World} (h : PaS w ga oa gb ob i n A B V) : PaS w ga oa gb ob i n A B V.drew := ⟨h.ca, h.cb, h.own, h.bel.drew⟩

/-- Pairs were answered, in a block of their own. -/
def PairsPost (w : World) (n : Nat) (A B : Nat → ByteArray) (en : Ending) (w' : World) : Prop :=
  ∃ g, en = .returned (.slice (some ⟨g, 0, none⟩) n n) ∧ Has w' g 40 (pairsM A B n n).toArray ∧ w.heap.size ≤ g ∧ Below w.heap.size w w'

set_option maxRecDepth 100000 in
set_option maxHeartbeats 2000000 in
theorem pairs_calls (sa sb : Option Addr) (ca cb n : Nat) (A B : Nat → ByteArray) (w : World) (hn : n ≤ 1000) (hca : n ≤ ca ∧ ca ≤ maxLen) (hcb : n ≤ cb ∧ cb ≤ maxLen)
    (hA : ∀ i, i < n → ∃ g o, sa = some ⟨g, o, none⟩ ∧ g < w.heap.size ∧ w.cell? ⟨g, o + i, none⟩ = some (.string (A i)))
    (hB : ∀ i, i < n → ∃ g o, sb = some ⟨g, o, none⟩ ∧ g < w.heap.size ∧ w.cell? ⟨g, o + i, none⟩ = some (.string (B i))) :
    Calls Tryd.prog 36 #[.slice sa n ca, .slice sb n cb] w (PairsPost w n A B) := by
  have HA := Lib.hid hA
  have HB := Lib.hid hB
  have hn1 : (n : Int) ≤ 1000 := by omega
  have hca1 : (n : Int) ≤ (ca : Int) := by omega
  have hcb1 : (n : Int) ≤ (cb : Int) := by omega
  clear hA hB hca hcb
  have hmk : (Instr.makeSlice 54 (.int .i64 (n : Int)) (.int .i64 (n : Int))).run Tryd.prog w = .ok (.slice (some ⟨w.heap.size, 0, none⟩) n n) (w.alloc (.cells (pairsM A B n 0).toArray 40)) := by
    obtain ⟨i0, z0, hi0, hz0, hz1, hz2, hz3⟩ := pairInfo
    have h := run_make (P := Tryd.prog) w 54 40 i0 z0 Tryd.underlying54 hi0 hz0 .i64 .i64 (n : Int) (n : Int) (by omega) (by omega) (by rw [hz3]; omega) (by omega)
    rw [Int.toNat_natCast, hz1, hz2] at h
    rw [h, ← pairsM_zero A B n]
  go_enter Tryd.func36, Tryd.ntmps36
  go_wp2_with fail
  clear hmk
  have S0 : Hid (Has (w.alloc (.cells (pairsM A B n 0).toArray 40)) w.heap.size 40 (pairsM A B n 0).toArray ∧ Below w.heap.size w (w.alloc (.cells (pairsM A B n 0).toArray 40))) := Lib.hid ⟨made_at _ _ rfl, (Below.refl _ _).alloc (Nat.le_refl _) _⟩
  go_loopw [12] (fun x wr => ∃ i : Nat, x = .int .i64 i ∧ i ≤ n ∧ Hid (Has wr w.heap.size 40 (pairsM A B n i).toArray ∧ Below w.heap.size w wr)) (fun x _ => n - (intOf x).toNat)
  case atStart => exact ⟨0, rfl, Nat.zero_le _, S0⟩
  case round =>
    clear S0
    obtain ⟨i, rfl, hin, HS⟩ := hrel
    by_cases h : i < n
    · have h1 : (i : Int) < (n : Int) := by omega
      obtain ⟨ga, oa, rfl, hga, hca⟩ := HA.out i h
      obtain ⟨gb, ob, rfl, hgb, hcb⟩ := HB.out i h
      have P0 : Hid (PaS w ga oa gb ob i n A B wr) := Lib.hid ⟨by rw [← hca]; unfold World.cell?; rw [HS.out.2.block ga hga], by rw [← hcb]; unfold World.cell?; rw [HS.out.2.block gb hgb], HS.out.1, HS.out.2⟩
      clear hca hcb HS
      go_wp2_with fail
      refine wp_region_any (by kernel_rfl) ?_
      refine AnyL.any (S := PaS w ga oa gb ob i n A B) (Wr := [12]) _ _ _ _ (PaS.drew P0.out) ?_
      clear P0
      refine AnyL.pure 0 (some 15) rfl rfl (by kernel_rfl) (by kernel_rfl) (by kernel_rfl) (fun _ _ _ h => h) (by kernel_rfl) (by kernel_rfl) (fun _ _ => rfl) ?_
      refine AnyL.pure 1 (some 16) rfl rfl (by kernel_rfl) (by kernel_rfl) (by kernel_rfl) (fun _ _ _ h => h) (by kernel_rfl) (by kernel_rfl) (fun _ _ => rfl) ?_
      refine AnyL.pure 2 (some 17) rfl rfl (by kernel_rfl) (by kernel_rfl) (by kernel_rfl) (fun _ _ _ h => h) (by kernel_rfl) (by kernel_rfl) (fun _ _ => rfl) ?_
      refine AnyL.pure 3 (some 18) rfl rfl (by kernel_rfl) (by kernel_rfl) (by kernel_rfl) (fun _ _ _ h => h) (by kernel_rfl) (by kernel_rfl) (fun _ _ => rfl) ?_
      refine AnyL.pure 4 (some 19) (v := .pointer (some ⟨ga, oa + i, none⟩)) rfl rfl (by kernel_rfl) (by kernel_rfl) (by kernel_rfl) (fun _ _ _ h => h) (by kernel_rfl) (by kernel_rfl) (fun V _ => by go_simp) ?_
      refine AnyL.pure 5 (some 20) (v := .string (A i)) rfl rfl (by kernel_rfl) (by kernel_rfl) (by kernel_rfl) (fun _ _ _ h => h) (by kernel_rfl) (by kernel_rfl) (fun V hV => by have c0 := hV.ca; have c1 := hV.cb; go_simp) ?_
      refine AnyL.pure 6 (some 21) rfl rfl (by kernel_rfl) (by kernel_rfl) (by kernel_rfl) (fun _ _ _ h => h) (by kernel_rfl) (by kernel_rfl) (fun _ _ => rfl) ?_
      refine AnyL.pure 7 (some 22) rfl rfl (by kernel_rfl) (by kernel_rfl) (by kernel_rfl) (fun _ _ _ h => h) (by kernel_rfl) (by kernel_rfl) (fun _ _ => rfl) ?_
      refine AnyL.pure 8 (some 23) (v := .pointer (some ⟨gb, ob + i, none⟩)) rfl rfl (by kernel_rfl) (by kernel_rfl) (by kernel_rfl) (fun _ _ _ h => h) (by kernel_rfl) (by kernel_rfl) (fun V _ => by go_simp) ?_
      refine AnyL.pure 9 (some 24) (v := .string (B i)) rfl rfl (by kernel_rfl) (by kernel_rfl) (by kernel_rfl) (fun _ _ _ h => h) (by kernel_rfl) (by kernel_rfl) (fun V hV => by have c0 := hV.ca; have c1 := hV.cb; go_simp) ?_
      refine AnyL.pure 10 (some 25) (v := .agg #[.string (A i), .string (B i)]) rfl rfl (by kernel_rfl) (by kernel_rfl) (by kernel_rfl) (fun _ _ _ h => h) (by kernel_rfl) (by kernel_rfl) (fun V _ => by go_simp) ?_
      refine AnyL.pure 11 (some 26) (v := .pointer (some ⟨w.heap.size, i * 2, none⟩)) rfl rfl (by kernel_rfl) (by kernel_rfl) (by kernel_rfl) (fun _ _ _ h => h) (by kernel_rfl) (by kernel_rfl) (fun V _ => by go_simp) ?_
      simp only [Act.put, List.setIfInBounds_toArray, List.set_cons_zero, List.set_cons_succ]
      refine AnyL.late (i := 12) (by kernel_rfl) (by decide) ?_
      intro V hV
      have HV := Lib.hid hV
      clear hV
      refine wpOp_wp rfl (by kernel_rfl) ?_
      have hth : V.there w.heap.size (i * 2) 2 := fun j hj => ⟨by
        rw [HV.out.own.cell, List.getElem?_toArray, List.getElem?_eq_getElem (by rw [pairsM_len]; omega)]
        rfl, HV.out.own.free _⟩
      refine wp_store_mid 40 _ _ rfl w.heap.size (i * 2) #[.string (A i), .string (B i)] (by simp [Act.eval]) (by simp [Act.eval]) hth (by kernel_rfl) (by simp [Value.oneCell']) ?_
      have k1 := (HV.out.own.put (i * 2) (.string (A i))).put (i * 2 + 1) (.string (B i))
      rw [List.setIfInBounds_toArray, List.setIfInBounds_toArray, pairsM_step A B h] at k1
      have b1 := (HV.out.bel.setCell (p := ⟨w.heap.size, i * 2, none⟩) (Nat.le_refl _) (.string (A i))).setCell (p := ⟨w.heap.size, i * 2 + 1, none⟩) (Nat.le_refl _) (.string (B i))
      have HW : Hid (Has (V.setCells w.heap.size (i * 2) [.string (A i), .string (B i)]) w.heap.size 40 (pairsM A B n (i + 1)).toArray ∧ Below w.heap.size w (V.setCells w.heap.size (i * 2) [.string (A i), .string (B i)])) := Lib.hid ⟨k1, b1⟩
      clear k1 b1 hth
      show wpAny _ _ _ _ _ _ _ (V.setCells w.heap.size (i * 2) [.string (A i), .string (B i)])
      generalize V.setCells w.heap.size (i * 2) [.string (A i), .string (B i)] = W6 at *
      refine wpAny_done (by kernel_rfl) ?_ _
      simp only [Act.put]
      go_wp2_with fail
      refine ⟨⟨i + 1, by rw [Int.natCast_add]; rfl, by omega, HW⟩, ?_⟩
      show n - ((i : Int) + 1).toNat < n - ((i : Int)).toNat
      omega
    · obtain rfl : i = n := by omega
      have h1 : ¬ (i : Int) < (i : Int) := by omega
      go_wp2_with fail
      go_ret
      exact ⟨_, rfl, HS.out.1, Nat.le_refl _, HS.out.2⟩
end Go.Proofs.YthbncejbcegmgaaDoor.clash
end

section
/- clash: Sides, of as many sums as it takes. -/
namespace Go.Proofs.YthbncejbcegmgaaDoor.clash
open Go Go.RowKit Go.Proofs.YthbncejbcegmgaaDoor.dig Go.Proofs.YthbncejbcegmgaaDoor.prf

theorem texX_get : ∀ (T : List Bool) (r : List (List UInt8)) (c : List UInt8) (p : Nat) (t : Bool) (o : List UInt8), T[p]? = some t → r[p]? = some o →
    (texX T r c)[p]? = some (1 :: (if t = true then comeX (T.drop (p + 1)) (r.drop (p + 1)) c ++ o else o ++ comeX (T.drop (p + 1)) (r.drop (p + 1)) c))
  | [], _, _, _, _, _, h, _ => by simp at h
  | _ :: _, [], _, _, _, _, _, h => by simp at h
  | t' :: T, o' :: r, c, 0, t, o, h1, h2 => by
    obtain rfl : t' = t := by simpa using h1
    obtain rfl : o' = o := by simpa using h2
    rw [texX, List.getElem?_cons_zero]
    rfl
  | t' :: T, o' :: r, c, p + 1, t, o, h1, h2 => by
    rw [texX, List.getElem?_cons_succ]
    exact texX_get T r c p t o (by simpa using h1) (by simpa using h2)
theorem come_at (T : List Bool) (r : List (List UInt8)) (c : List UInt8) (hl : T.length = r.length) : ∀ i, i ≤ T.length →
    comeN (fun i => T.getD (T.length - 1 - i) false) c (fun i => r.reverse.getD i []) i = comeX (T.drop (T.length - i)) (r.drop (T.length - i)) c := by
  intro i
  induction i with
  | zero =>
    intro _
    rw [Nat.sub_zero, List.drop_of_length_le (Nat.le_refl _)]
    rfl
  | succ i ih =>
    intro hi
    have h1 : T.length - 1 - i < T.length := by omega
    have e1 : T.drop (T.length - (i + 1)) = T[T.length - 1 - i] :: T.drop (T.length - i) := by
      rw [show T.length - (i + 1) = T.length - 1 - i by omega, List.drop_eq_getElem_cons h1, show T.length - 1 - i + 1 = T.length - i by omega]
    have e2 : r.drop (T.length - (i + 1)) = r[T.length - 1 - i]'(by omega) :: r.drop (T.length - i) := by
      rw [show T.length - (i + 1) = T.length - 1 - i by omega, List.drop_eq_getElem_cons (by omega), show T.length - 1 - i + 1 = T.length - i by omega]
    have e3 : r.reverse.getD i [] = r[T.length - 1 - i]'(by omega) := by
      rw [List.getD_eq_getElem?_getD, List.getElem?_reverse (by omega), List.getElem?_eq_getElem (by omega)]
      simp only [Option.getD_some]
      congr 1
      omega
    have e4 : T.getD (T.length - 1 - i) false = T[T.length - 1 - i] := by rw [List.getD_eq_getElem?_getD, List.getElem?_eq_getElem h1]; rfl
    rw [comeN, ih (by omega), e1, e2, comeX_sum]
    simp only [e3, e4]
theorem tex_at (T : List Bool) (r : List (List UInt8)) (c : List UInt8) (hl : T.length = r.length) (p : Nat) (hp : p < T.length) :
    (texX T r c)[p]? = some (textN (fun i => T.getD (T.length - 1 - i) false) c (fun i => r.reverse.getD i []) (T.length - 1 - p)).data.toList := by
  have h2 : p < r.length := by omega
  rw [texX_get T r c p T[p] r[p] (List.getElem?_eq_getElem hp) (List.getElem?_eq_getElem h2)]
  unfold textN
  rw [come_at T r c hl _ (by omega)]
  have e3 : r.reverse.getD (T.length - 1 - p) [] = r[p] := by
    rw [List.getD_eq_getElem?_getD, List.getElem?_reverse (by omega), List.getElem?_eq_getElem (by omega)]
    simp only [Option.getD_some]
    congr 1
    omega
  have e4 : T.getD (T.length - 1 - (T.length - 1 - p)) false = T[p] := by
    rw [show T.length - 1 - (T.length - 1 - p) = p by omega, List.getD_eq_getElem?_getD, List.getElem?_eq_getElem hp]; rfl
  have e5 : T.length - (T.length - 1 - p) = p + 1 := by omega
  simp only [e3, e4, e5]
  split <;> simp [underS]

theorem wpAny_name {P : Program} {md : Region.Mode} {ops : Array Oper} {Q : Exit → Act → World → Prop} {fuel : Nat} {listed : Array Bool} {a : Act} {w : World} (h : ∀ V, w = V → wpAny P md ops Q fuel listed a V) : wpAny P md ops Q fuel listed a w := h w rfl

/-- The texts as strings. -/
def txL (T : List Bool) (r : List (List UInt8)) (c : List UInt8) : List ByteArray := (texX T r c).map fun x => ⟨x.toArray⟩
theorem txL_len (T : List Bool) (r : List (List UInt8)) (c : List UInt8) (h : T.length = r.length) : (txL T r c).length = T.length := by rw [txL, List.length_map, texX_len T r c h]
theorem txL_at (T : List Bool) (r : List (List UInt8)) (c : List UInt8) (hl : T.length = r.length) (p : Nat) (hp : p < T.length) :
    (txL T r c)[p]? = some (textN (fun i => T.getD (T.length - 1 - i) false) c (fun i => r.reverse.getD i []) (T.length - 1 - p)) := by
  rw [txL, List.getElem?_map, tex_at T r c hl p hp]
  rfl
theorem pairsM_zip (A B : Nat → ByteArray) (l1 l2 : List ByteArray) (M : Nat) (h1 : l1.length = M) (h2 : l2.length = M) (hA : ∀ p, p < M → l1[p]? = some (A p)) (hB : ∀ p, p < M → l2[p]? = some (B p)) : pairsM A B M M = pairsC (l1.zip l2) := by
  have h : ∀ (l : List (ByteArray × ByteArray)) (a : Nat) (G : Nat → List Value), (∀ j x, l[j]? = some x → G (a + j) = pairC x) → flat G a l.length = pairsC l := by
    intro l
    induction l with
    | nil => intro a G _; rfl
    | cons x l ih =>
      intro a G hG
      rw [List.length_cons, flat_succ, ih (a + 1) G (fun j y hj => by rw [Nat.add_assoc, Nat.add_comm 1 j]; exact hG (j + 1) y (by simpa using hj))]
      have := hG 0 x rfl
      rw [Nat.add_zero] at this
      rw [this]
      rfl
  have hz : (l1.zip l2).length = M := by rw [List.length_zip, h1, h2, Nat.min_self]
  unfold pairsM
  conv => lhs; arg 3; rw [← hz]
  refine h (l1.zip l2) 0 _ (fun j x hj => ?_)
  have hj' : j < M := by have := (List.getElem?_eq_some_iff.1 hj).1; omega
  simp only [Nat.zero_add]
  rw [if_pos hj']
  rw [List.getElem?_zip_eq_some] at hj
  have e1 := hA j hj'
  have e2 := hB j hj'
  rw [hj.1] at e1
  rw [hj.2] at e2
  rw [← Option.some.inj e1, ← Option.some.inj e2]

/-- What lasts in Sides. -/
structure SiS (w : World) (tv : Value) (T : List Bool) (g off : Nat) (L : List ByteArray) (gt : Nat) (c : List UInt8) (sv : Value) (SL : List (List UInt8)) (V : World) : Prop where
  rk : Rk V
  tur : Seg V 4 1 tv T.length (T.map Value.bool)
  told : Has V gt 33 (cellsOf c)
  sums : Seg V 33 32 sv SL.length (sumsC SL)
  lt : g < w.heap.size
  cells : ∀ i s, L[i]? = some s → V.cell? ⟨g, off + i, none⟩ = some (.string s)
  lo : w.heap.size ≤ gt
  bel : Below w.heap.size w V
theorem SiS.below {w : World} {tv : Value} {T : List Bool} {g off : Nat} {L : List ByteArray} {gt : Nat} {c : List UInt8} {sv : Value} {SL : List (List UInt8)} {V V' : World} (h : SiS w tv T g off L gt c sv SL V) (b : Below V.heap.size V V') : SiS w tv T g off L gt c sv SL V' :=
  ⟨h.rk.below b, h.tur.below b (fun x hx => h.tur.lt hx), h.told.below b h.told.lt, h.sums.below b (fun x hx => h.sums.lt hx), h.lt, fun i s hs => by rw [← h.cells i s hs]; unfold World.cell?; rw [b.block g (Nat.lt_of_lt_of_le h.lt h.bel.size)], h.lo, h.bel.trans (b.mono h.bel.size)⟩

/-- Sides were answered. -/
def SidesPost (w : World) (PL : List (ByteArray × ByteArray)) (en : Ending) (w' : World) : Prop :=
  ∃ gq, en = .returned (.tuple #[.slice (some ⟨gq, 0, none⟩) PL.length PL.length, .bool true]) ∧ Seg w' 40 2 (.slice (some ⟨gq, 0, none⟩) PL.length PL.length) PL.length (pairsC PL) ∧ Below w.heap.size w w'

/-- What lasts in Sides' last region. -/
structure SiZ (w : World) (tv : Value) (T : List Bool) (g off : Nat) (L : List ByteArray) (gt : Nat) (c : List UInt8) (sv : Value) (SL : List (List UInt8)) (gr : Nat) (E : List UInt8) (bv : Value) (BL : List (List UInt8)) (V : World) : Prop where
  s : SiS w tv T g off L gt c sv SL V
  res : Has V gr 33 (cellsOf E)
  bes : Seg V 33 32 bv BL.length (sumsC BL)
theorem SiZ.below {w : World} {tv : Value} {T : List Bool} {g off : Nat} {L : List ByteArray} {gt : Nat} {c : List UInt8} {sv : Value} {SL : List (List UInt8)} {gr : Nat} {E : List UInt8} {bv : Value} {BL : List (List UInt8)} {V V' : World} (h : SiZ w tv T g off L gt c sv SL gr E bv BL V) (b : Below V.heap.size V V') : SiZ w tv T g off L gt c sv SL gr E bv BL V' :=
  ⟨h.s.below b, h.res.below b h.res.lt, h.bes.below b (fun _ hx => h.bes.lt hx)⟩

set_option maxRecDepth 100000 in
set_option maxHeartbeats 4000000 in
/-- told, SL2: what stands where the turns end, and the sums beside them. -/
theorem sides_calls (L : List ByteArray) (hsz : ∀ s ∈ L, s.size ≤ 1000000) (hLL : L.length ≤ 1000000) (g off c m : Nat) (h0 : 0 < m) (hm : m ≤ L.length) (hnc : L.length ≤ c) (hcm : c ≤ maxLen) (claim : List UInt8) (hc : claim.length = 32) (sv : Value) (SL : List (List UInt8)) (hSL : ∀ x ∈ SL, x.length = 32) (told : List UInt8) (SL2 : List (List UInt8))
    (hw : SL2.length = (turnsP (m - 1) L.length).length) (hx : (allL (turnsP (m - 1) L.length) = true ∧ SL = SL2 ∧ told = claim) ∨ (allL (turnsP (m - 1) L.length) = false ∧ SL = told :: SL2)) (w : World) (hR : Rk w) (hg : g < w.heap.size)
    (hcell : ∀ i s, L[i]? = some s → w.cell? ⟨g, off + i, none⟩ = some (.string s)) (hs : Seg w 33 32 sv SL.length (sumsC SL)) :
    Calls Tryd.prog 23 #[.int .i64 m, .agg (cellsOf claim), .slice (some ⟨g, off, none⟩) L.length c, sv] w (SidesPost w ((txL (turnsP (m - 1) L.length) (besideX (leafF L) (turnsP (m - 1) L.length) 0 L.length) (endX (leafF L) (turnsP (m - 1) L.length) 0 L.length)).zip (txL (turnsP (m - 1) L.length) SL2.reverse told))) := by
  obtain ⟨T, hT⟩ : ∃ T, T = turnsP (m - 1) L.length := ⟨_, rfl⟩
  obtain ⟨M, hM⟩ : ∃ M, M = T.length := ⟨_, rfl⟩
  have hM64 : M ≤ 64 := by rw [hM, hT]; have := turnsP_le 20 L.length (m - 1) (by omega); omega
  have hall := beside_all (leafF L) (leafF_len L) L.length (m - 1) 0 (by omega)
  rw [← hT] at hw hx hall ⊢
  obtain ⟨BX, hBX⟩ : ∃ BX, BX = besideX (leafF L) T 0 L.length := ⟨_, rfl⟩
  obtain ⟨E, hE⟩ : ∃ E, E = endX (leafF L) T 0 L.length := ⟨_, rfl⟩
  rw [← hBX, ← hE] at hall ⊢
  have HEC2 := Lib.hid hall.2
  have HEC : Hid ((cellsOf E).size = 32) := Lib.hid (by rw [cellsOf_size, hall.2])
  have HALL := Lib.hid hall
  have HMM := Lib.hid hM64
  have HTT := Lib.hid (show _ ∧ _ ∧ _ ∧ _ from ⟨hT, hBX, hE, hM⟩)
  have HL := Lib.hid (show _ ∧ _ ∧ _ ∧ _ ∧ _ from ⟨hsz, hLL, (show m - 1 < L.length by omega), hnc, hcm⟩)
  have HCC : Hid ((cellsOf claim).size = 32) := Lib.hid (by rw [cellsOf_size, hc])
  have HC := Lib.hid hc
  obtain ⟨sa, sc, rfl, hs1, hs2⟩ := hs.slice
  have HS := Lib.hid (show _ ∧ _ ∧ _ ∧ _ from ⟨hR, hg, hcell, hs⟩)
  obtain ⟨PL, hPL⟩ : ∃ PL, PL = (txL T BX E).zip (txL T SL2.reverse told) := ⟨_, rfl⟩
  rw [← hPL]
  obtain ⟨n, hn⟩ : ∃ n, n = L.length := ⟨_, rfl⟩
  have e1 : (m : Int) - 1 = ((m - 1 : Nat) : Int) := by omega
  obtain ⟨m1, hm1⟩ : ∃ m1, m1 = m - 1 := ⟨_, rfl⟩
  rw [← hm1] at e1
  have e2 : ¬ (m : Int) < 1 := by omega
  have e3 : ¬ (m : Int) > (n : Int) := by omega
  have e4 : (m : Int) ≤ 1000000 := by omega
  have HTC : Hid (∀ V, Calls Tryd.prog 43 #[.int .i64 m1, .int .i64 n, .func (.func 47) #[] #[]] V (TurnsPost V T)) := Lib.hid fun V => by
    rw [hT, hm1, hn]
    exact turnsP_calls (m - 1) L.length V (by omega) hLL
  have HRC : Hid (∀ tv V, Rk V → g < V.heap.size → (∀ i s, L[i]? = some s → V.cell? ⟨g, off + i, none⟩ = some (.string s)) → Seg V 4 1 tv T.length (T.map Value.bool) → Calls Tryd.prog 49 #[tv, .slice (some ⟨g, off, none⟩) n c] V (RootsPost V E BX.reverse)) := Lib.hid fun tv V h1 h2 h3 h4 => by
    rw [hBX, hE, hT, hn]
    rw [hT] at h4
    exact roots_calls L hsz hLL g off (m - 1) L.length c (by omega) (Nat.le_refl _) hnc hcm tv V h1 h2 h3 h4
  obtain ⟨k, hk⟩ : ∃ k, k = SL.length := ⟨_, rfl⟩
  have HKK := Lib.hid hk
  have hkc : (k : Int) ≤ (sc : Int) ∧ (sc : Int) ≤ 9223372036854775807 := by unfold maxLen at hs2; omega
  rw [← hn, ← hk]
  rw [hM.symm] at hw
  have HW := Lib.hid hw
  have HSLL := Lib.hid hSL
  clear hT hM hM64 hall hBX hE hsz hLL hnc hcm hc hR hg hcell hs hs1 hs2 hn hm1 hk h0 hm hw hSL
  rcases hx with ⟨ha, rfl, rfl⟩ | ⟨ha, rfl⟩
  · have HA := Lib.hid ha
    clear ha
    go_enter Tryd.func23, Tryd.ntmps23
    go_wp2_with fail
    refine callsName (fun W hW => ?_)
    have B0 : Hid (Below w.heap.size w W ∧ Has W w.heap.size 33 (cellsOf told)) := by rw [← hW]; exact Lib.hid ⟨(Below.refl _ _).alloc (Nat.le_refl _) _, made_at _ _ rfl⟩
    clear hW
    refine (HTC.out W).mono ?_
    rintro en w1 ⟨tv, rfl, t1, lo1, b1⟩
    obtain ⟨ta, tc, htv, ht1, ht2⟩ := t1.slice
    rw [← HTT.out.2.2.2] at htv
    subst htv
    have B1 : Hid (Below w.heap.size w w1 ∧ Has w1 w.heap.size 33 (cellsOf told) ∧ Seg w1 4 1 (.slice ta M tc) T.length (T.map Value.bool)) := Lib.hid ⟨B0.out.1.trans (b1.mono B0.out.1.size), B0.out.2.below b1 B0.out.2.lt, t1⟩
    clear b1 B0 t1 lo1 ht1 ht2 HTC
    go_wp2_with (first
      | ((with_reducible refine at_op 27 ?_); refine wpList_load_row (o := ⟨some 27, _, _, _, _, _⟩) rfl 33 _ rfl w.heap.size rfl 33 (cellsOf told) (0, 0) _ B1.out.2.1 Tryd.underlying33 rfl (by rw [HCC.out]; kernel_rfl) ?_)
      | ((with_reducible refine at_store (.tmp 11) ?_); refine wpList_store_cells (o := ⟨none, _, _, _, _, _⟩) rfl 33 (.tmp 11) (.tmp 27) rfl w1.heap.size (cellsOf told) _ rfl rfl _ (made_at _ _ rfl) (HCC.out.symm ▸ (by kernel_rfl)) (HCC.out.symm ▸ rfl) (cellsOf_one _) ?_; intro W2 HW2 TW2;
         (have S2 : Hid (SiS w (.slice ta M tc) T g off L w1.heap.size told (.slice sa k sc) SL W2) := (by
           have bb : Below w1.heap.size w1 W2 := ((Below.refl _ _).alloc (Nat.le_refl _) _).trans (TW2.below (by simp) (fun j hj e => by omega))
           have b2 := B1.out.1.trans (bb.mono B1.out.1.size)
           obtain ⟨h1, h2, h3, h4⟩ := HS.out
           refine Lib.hid ⟨h1.below b2, B1.out.2.2.below bb (fun x hx => B1.out.2.2.lt hx), HW2, ?_, h2, fun i s hs => by rw [← h3 i s hs]; unfold World.cell?; rw [b2.block g h2], B1.out.1.size, b2⟩
           have h5 := h4.below b2 (fun x hx => h4.lt hx)
           rw [← HKK.out] at h5 ⊢
           exact h5));
         clear HW2 TW2 B1)
      | fail)
    obtain ⟨gt, hgt⟩ : ∃ gt, gt = w1.heap.size := ⟨_, rfl⟩
    rw [← hgt] at S2 ⊢
    clear hgt
    refine (allLeft_calls (.slice ta M tc) T W2 S2.out.tur (by rw [← HTT.out.2.2.2]; have := HMM.out; omega)).mono ?_
    rw [HA.out]
    rintro en w3 ⟨rfl, rfl⟩
    obtain rfl : k = M := by rw [HKK.out, HW.out]
    have HX : Hid (PL = (txL T BX E).zip (txL T SL.reverse told) ∧ SL.length = k ∧ True ∧ True ∧ told.length = 32 ∧ ∀ x ∈ SL, x.length = 32) := Lib.hid ⟨hPL, HKK.out.symm, trivial, trivial, HC.out, HSLL.out⟩
    clear hPL
    have SL32 := HX.out.2.2.2.2.2
    go_wp2_with fail
    refine (HRC.out (.slice ta k tc) W2 S2.out.rk (Nat.lt_of_lt_of_le S2.out.lt S2.out.bel.size) S2.out.cells S2.out.tur).mono ?_
    rintro en w5 ⟨bg, rfl, b5, lo5, bb5⟩
    have HBL : Hid (BX.reverse.length = k) := Lib.hid (by rw [List.length_reverse, HTT.out.2.1, besideX_len, HTT.out.2.2.2])
    rw [HBL.out] at b5 ⊢
    have S5 : Hid (SiS w (.slice ta k tc) T g off L gt told (.slice sa k sc) SL w5 ∧ Seg w5 33 32 (.slice (some ⟨bg, 0, none⟩) k k) k (sumsC BX.reverse)) := Lib.hid ⟨S2.out.below bb5, b5⟩
    clear b5 lo5 bb5 S2
    go_wp2_with (first
      | ((with_reducible refine at_store (.tmp 12) ?_); refine wpList_store_cells (o := ⟨none, _, _, _, _, _⟩) rfl 33 (.tmp 12) (.tmp 48) rfl w5.heap.size (cellsOf E) _ rfl rfl _ (made_at _ _ rfl) (HEC.out.symm ▸ (by kernel_rfl)) (HEC.out.symm ▸ rfl) (cellsOf_one _) ?_; intro W6 HW6 TW6;
         (have S6 : Hid (SiZ w (.slice ta k tc) T g off L gt told (.slice sa k sc) SL w5.heap.size E (.slice (some ⟨bg, 0, none⟩) k k) BX.reverse W6) := (by
           have bb : Below w5.heap.size w5 W6 := ((Below.refl _ _).alloc (Nat.le_refl _) _).trans (TW6.below (by simp) (fun j hj e => by omega))
           exact Lib.hid ⟨S5.out.1.below bb, HW6, by rw [HBL.out]; exact S5.out.2.below bb (fun x hx => S5.out.2.lt hx)⟩));
         clear HW6 TW6 S5)
      | fail)
    obtain ⟨gr, hgr⟩ : ∃ gr, gr = w5.heap.size := ⟨_, rfl⟩
    rw [← hgr] at S6 ⊢
    clear hgr
    have HM := HTT.out.2.2.2
    have N1 : Hid (∀ V, SiZ w (.slice ta k tc) T g off L gt told (.slice sa k sc) SL gr E (.slice (some ⟨bg, 0, none⟩) k k) BX.reverse V → Calls Tryd.prog 45 #[.slice ta k tc, .agg (cellsOf E), .slice (some ⟨bg, 0, none⟩) k k] V (NodesPost V k (textN (fun i => T.getD (k - 1 - i) false) E (fun i => BX.reverse.getD i [])))) := Lib.hid fun V hV => by
      have h := nodes_calls (.slice ta k tc) (.slice (some ⟨bg, 0, none⟩) k k) T BX.reverse E V hV.s.rk HEC2.out (by rw [HBL.out, ← HM]) (by rw [HBL.out]; exact HMM.out) hV.s.tur hV.bes (fun x hx => HALL.out.1 x (List.mem_reverse.1 hx))
      rw [HBL.out] at h
      exact h
    have N2 : Hid (∀ V, SiZ w (.slice ta k tc) T g off L gt told (.slice sa k sc) SL gr E (.slice (some ⟨bg, 0, none⟩) k k) BX.reverse V → Calls Tryd.prog 45 #[.slice ta k tc, .agg (cellsOf told), .slice sa k sc] V (NodesPost V k (textN (fun i => T.getD (k - 1 - i) false) told (fun i => SL.getD i [])))) := Lib.hid fun V hV => by
      have h := nodes_calls (.slice ta k tc) (.slice sa k sc) T SL told V hV.s.rk HX.out.2.2.2.2.1 (by rw [HX.out.2.1, ← HM]) (by rw [HX.out.2.1]; exact HMM.out) hV.s.tur hV.s.sums SL32
      rw [HX.out.2.1] at h
      exact h
    clear SL32
    refine Go.wp_region_held (S := SiZ w (.slice ta k tc) T g off L gt told (.slice sa k sc) SL gr E (.slice (some ⟨bg, 0, none⟩) k k) BX.reverse) (by kernel_rfl) ?_
    have S0 := S6.out.below (Below.refl _ _).drew
    clear S6
    refine held_take 0 (some 50) rfl rfl (by kernel_rfl) (by kernel_rfl) (by kernel_rfl) (fun _ _ _ h => h) (.inl ⟨by kernel_rfl, fun _ _ => rfl⟩) S0 ?_
    simp only [Act.put, List.setIfInBounds_toArray, List.set_cons_zero, List.set_cons_succ]
    refine held_take 1 (some 51) (v := .agg (cellsOf E)) rfl rfl (by kernel_rfl) (by kernel_rfl) (by kernel_rfl) (fun _ _ _ h => h) (.inl ⟨by kernel_rfl, fun V hV => by exact exec_load 33 (.tmp 12) rfl (.pointer (some ⟨gr, 0, none⟩)) (by kernel_rfl) (run_loadAt_mid V gr 0 33 ((E).map byteV) _ (Has.range hV.res) Tryd.underlying33 rfl (by rw [List.length_map, HEC2.out]; kernel_rfl))⟩) S0 ?_
    simp only [Act.put, List.setIfInBounds_toArray, List.set_cons_zero, List.set_cons_succ]
    refine held_take 2 (some 52) rfl rfl (by kernel_rfl) (by kernel_rfl) (by kernel_rfl) (fun _ _ _ h => h) (.inl ⟨by kernel_rfl, fun _ _ => rfl⟩) S0 ?_
    simp only [Act.put, List.setIfInBounds_toArray, List.set_cons_zero, List.set_cons_succ]
    refine held_take 4 (some 54) rfl rfl (by kernel_rfl) (by kernel_rfl) (by kernel_rfl) (fun _ _ _ h => h) (.inl ⟨by kernel_rfl, fun _ _ => rfl⟩) S0 ?_
    simp only [Act.put, List.setIfInBounds_toArray, List.set_cons_zero, List.set_cons_succ]
    refine held_take 5 (some 55) (v := .agg (cellsOf told)) rfl rfl (by kernel_rfl) (by kernel_rfl) (by kernel_rfl) (fun _ _ _ h => h) (.inl ⟨by kernel_rfl, fun V hV => by exact exec_load 33 (.tmp 11) rfl (.pointer (some ⟨gt, 0, none⟩)) (by kernel_rfl) (run_loadAt_mid V gt 0 33 ((told).map byteV) _ (Has.range hV.s.told) Tryd.underlying33 rfl (by rw [List.length_map, HX.out.2.2.2.2.1]; kernel_rfl))⟩) S0 ?_
    simp only [Act.put, List.setIfInBounds_toArray, List.set_cons_zero, List.set_cons_succ]
    refine held_take 6 (some 56) rfl rfl (by kernel_rfl) (by kernel_rfl) (by kernel_rfl) (fun _ _ _ h => h) (.inl ⟨by kernel_rfl, fun _ _ => rfl⟩) S0 ?_
    simp only [Act.put, List.setIfInBounds_toArray, List.set_cons_zero, List.set_cons_succ]
    refine held_one (i := 3) (by kernel_rfl) ?_
    refine wpOp_call (some 53) rfl rfl (by kernel_rfl) 45 Tryd.f45 Tryd.func45 (by kernel_rfl) (by kernel_rfl) _ _ rfl #[.slice ta k tc, .agg (cellsOf E), .slice (some ⟨bg, 0, none⟩) k k] (by first | (simp [Act.eval]; done) | (simp [Act.eval, Act.put]; done)) (N1.out _ S0) ?_
    rintro en w7 ⟨t1, rfl, h7, lo7, b7⟩
    have S1 := S0.below b7
    refine ⟨.slice (some ⟨t1, 0, none⟩) k k, rfl, S1, ?_⟩
    simp only [Act.put, List.setIfInBounds_toArray, List.set_cons_zero, List.set_cons_succ]
    refine held_one (i := 7) (by kernel_rfl) ?_
    refine wpOp_call (some 57) rfl rfl (by kernel_rfl) 45 Tryd.f45 Tryd.func45 (by kernel_rfl) (by kernel_rfl) _ _ rfl #[.slice ta k tc, .agg (cellsOf told), .slice sa k sc] (by first | (simp [Act.eval]; done) | (simp [Act.eval, Act.put]; done)) (N2.out _ S1) ?_
    rintro en w8 ⟨t2, rfl, h8, lo8, b8⟩
    have S2 := S1.below b8
    have h7' := h7.below b8 h7.lt
    refine ⟨.slice (some ⟨t2, 0, none⟩) k k, rfl, S2, ?_⟩
    simp only [Act.put, List.setIfInBounds_toArray, List.set_cons_zero, List.set_cons_succ]
    refine held_one (i := 8) (by kernel_rfl) ?_
    refine wpOp_call (some 58) rfl rfl (by kernel_rfl) 36 Tryd.f36 Tryd.func36 (by kernel_rfl) (by kernel_rfl) _ _ rfl #[.slice (some ⟨t1, 0, none⟩) k k, .slice (some ⟨t2, 0, none⟩) k k] (by first | (simp [Act.eval]; done) | (simp [Act.eval, Act.put]; done)) ((pairs_calls (some ⟨t1, 0, none⟩) (some ⟨t2, 0, none⟩) k k k (fun p => textN (fun i => T.getD (k - 1 - i) false) E (fun i => BX.reverse.getD i []) (k - 1 - p)) (fun p => textN (fun i => T.getD (k - 1 - i) false) told (fun i => SL.getD i []) (k - 1 - p)) _ (by have := HMM.out; omega) ⟨Nat.le_refl _, by have := HMM.out; unfold maxLen; omega⟩ ⟨Nat.le_refl _, by have := HMM.out; unfold maxLen; omega⟩ (fun p hp => ⟨t1, 0, rfl, h7'.lt, by rw [h7'.cell, Nat.zero_add, textsC_get hp, if_pos (by omega)]⟩) (fun p hp => ⟨t2, 0, rfl, h8.lt, by rw [h8.cell, Nat.zero_add, textsC_get hp, if_pos (by omega)]⟩))) ?_
    rintro en w9 ⟨gq, rfl, h9, lo9, b9⟩
    have S3 := S2.below b9
    refine ⟨.slice (some ⟨gq, 0, none⟩) k k, rfl, S3, ?_⟩
    simp only [Act.put, List.setIfInBounds_toArray, List.set_cons_zero, List.set_cons_succ]
    refine held_take 9 (some 8) (v := .slice (some ⟨gq, 0, none⟩) k k) rfl rfl (by kernel_rfl) (by kernel_rfl) (by kernel_rfl) (fun _ _ _ h => h) (.inl ⟨by kernel_rfl, fun V hV => by rfl⟩) S3 ?_
    simp only [Act.put, List.setIfInBounds_toArray, List.set_cons_zero, List.set_cons_succ]
    refine held_take 10 (some 9) (v := .bool true) rfl rfl (by kernel_rfl) (by kernel_rfl) (by kernel_rfl) (fun _ _ _ h => h) (.inl ⟨by kernel_rfl, fun V hV => by rfl⟩) S3 ?_
    simp only [Act.put, List.setIfInBounds_toArray, List.set_cons_zero, List.set_cons_succ]
    refine wpAnyH_done (by kernel_rfl) ?_ _
    have HB := Lib.hid (show _ ∧ _ from ⟨S3.s.bel, h9⟩)
    clear S0 S1 S2 S3 h7 h7' h8 h9 lo7 lo8 lo9 b7 b8 b9 N1 N2
    go_wp2_with fail
    go_ret2
    have hz1 : BX.length = k := by have := HBL.out; rwa [List.length_reverse] at this
    have hz2 : SL.reverse.length = k := by rw [List.length_reverse]; exact HX.out.2.1
    have e1 := txL_len T BX E (by rw [hz1, ← HTT.out.2.2.2])
    have e2 := txL_len T SL.reverse told (by rw [hz2, ← HTT.out.2.2.2])
    rw [← HTT.out.2.2.2] at e1 e2
    have hpl : ((txL T BX E).zip (txL T SL.reverse told)).length = k := by rw [List.length_zip, e1, e2, Nat.min_self]
    have hpm := pairsM_zip (fun p => textN (fun i => T.getD (k - 1 - i) false) E (fun i => BX.reverse.getD i []) (k - 1 - p)) (fun p => textN (fun i => T.getD (k - 1 - i) false) told (fun i => SL.getD i []) (k - 1 - p)) _ _ k e1 e2 (fun p hp => by have := txL_at T BX E (by rw [hz1, ← HTT.out.2.2.2]) p (by rw [← HTT.out.2.2.2]; exact hp); rw [← HTT.out.2.2.2] at this; exact this) (fun p hp => by have := txL_at T SL.reverse told (by rw [hz2, ← HTT.out.2.2.2]) p (by rw [← HTT.out.2.2.2]; exact hp); rw [← HTT.out.2.2.2, List.reverse_reverse] at this; exact this)
    have hP : PL.length = k := by rw [HX.out.1]; exact hpl
    refine ⟨gq, by rw [hP]; rfl, ?_, HB.out.1⟩
    rw [hP, HX.out.1, ← hpm]
    have h6 := Seg.of_has (n := k) (size := 2) HB.out.2 (by rw [List.size_toArray, pairsM_len]) (by have := HMM.out; unfold maxLen; omega)
    exact h6
  · have HA := Lib.hid ha
    clear ha
    go_enter Tryd.func23, Tryd.ntmps23
    go_wp2_with fail
    refine callsName (fun W hW => ?_)
    have B0 : Hid (Below w.heap.size w W ∧ Has W w.heap.size 33 (cellsOf claim)) := by rw [← hW]; exact Lib.hid ⟨(Below.refl _ _).alloc (Nat.le_refl _) _, made_at _ _ rfl⟩
    clear hW
    refine (HTC.out W).mono ?_
    rintro en w1 ⟨tv, rfl, t1, lo1, b1⟩
    obtain ⟨ta, tc, htv, ht1, ht2⟩ := t1.slice
    rw [← HTT.out.2.2.2] at htv
    subst htv
    have B1 : Hid (Below w.heap.size w w1 ∧ Has w1 w.heap.size 33 (cellsOf claim) ∧ Seg w1 4 1 (.slice ta M tc) T.length (T.map Value.bool)) := Lib.hid ⟨B0.out.1.trans (b1.mono B0.out.1.size), B0.out.2.below b1 B0.out.2.lt, t1⟩
    clear b1 B0 t1 lo1 ht1 ht2 HTC
    go_wp2_with (first
      | ((with_reducible refine at_op 27 ?_); refine wpList_load_row (o := ⟨some 27, _, _, _, _, _⟩) rfl 33 _ rfl w.heap.size rfl 33 (cellsOf claim) (0, 0) _ B1.out.2.1 Tryd.underlying33 rfl (by rw [HCC.out]; kernel_rfl) ?_)
      | ((with_reducible refine at_store (.tmp 11) ?_); refine wpList_store_cells (o := ⟨none, _, _, _, _, _⟩) rfl 33 (.tmp 11) (.tmp 27) rfl w1.heap.size (cellsOf claim) _ rfl rfl _ (made_at _ _ rfl) (HCC.out.symm ▸ (by kernel_rfl)) (HCC.out.symm ▸ rfl) (cellsOf_one _) ?_; intro W2 HW2 TW2;
         (have S2 : Hid (SiS w (.slice ta M tc) T g off L w1.heap.size claim (.slice sa k sc) (told :: SL2) W2) := (by
           have bb : Below w1.heap.size w1 W2 := ((Below.refl _ _).alloc (Nat.le_refl _) _).trans (TW2.below (by simp) (fun j hj e => by omega))
           have b2 := B1.out.1.trans (bb.mono B1.out.1.size)
           obtain ⟨h1, h2, h3, h4⟩ := HS.out
           refine Lib.hid ⟨h1.below b2, B1.out.2.2.below bb (fun x hx => B1.out.2.2.lt hx), HW2, ?_, h2, fun i s hs => by rw [← h3 i s hs]; unfold World.cell?; rw [b2.block g h2], B1.out.1.size, b2⟩
           have h5 := h4.below b2 (fun x hx => h4.lt hx)
           rw [← HKK.out] at h5 ⊢
           exact h5));
         clear HW2 TW2 B1)
      | fail)
    obtain ⟨gt, hgt⟩ : ∃ gt, gt = w1.heap.size := ⟨_, rfl⟩
    rw [← hgt] at S2 ⊢
    clear hgt
    refine (allLeft_calls (.slice ta M tc) T W2 S2.out.tur (by rw [← HTT.out.2.2.2]; have := HMM.out; omega)).mono ?_
    rw [HA.out]
    rintro en w3 ⟨rfl, rfl⟩
    have hk1 : k = M + 1 := by rw [HKK.out, List.length_cons, HW.out]
    have hT32 : told.length = 32 := HSLL.out told (by simp)
    have HT32 := Lib.hid hT32
    have HTC2 : Hid ((cellsOf told).size = 32) := Lib.hid (by rw [cellsOf_size, hT32])
    obtain ⟨gs, os, cap, hsg⟩ : ∃ gs os cap, sa = some ⟨gs, os, none⟩ ∧ cap = sc := by
      obtain ⟨g', o', c', e, _⟩ := S2.out.sums.cells (by simp)
      simp only [Value.slice.injEq] at e
      exact ⟨g', o', _, e.1, rfl⟩
    obtain ⟨rfl, rfl⟩ := hsg
    have HRG : Hid (∀ V, SiS w (.slice ta M tc) T g off L gt claim (.slice (some ⟨gs, os, none⟩) k cap) (told :: SL2) V → V.rangeAt gs os (told.map byteV)) := Lib.hid fun V hV j u hj => by
      obtain ⟨g', o', c', e, _, _, _, hc⟩ := hV.sums.cells (by simp)
      simp only [Value.slice.injEq, Option.some.injEq, Addr.mk.injEq] at e
      obtain ⟨⟨rfl, rfl, _⟩, _, _⟩ := e
      refine hc j u ?_
      rw [sumsC, List.flatMap_cons, List.getElem?_append_left (by have := (List.getElem?_eq_some_iff.1 hj).1; exact this)]
      exact hj
    have HRS : Hid (∃ oq cq, (∀ V, SiS w (.slice ta M tc) T g off L gt claim (.slice (some ⟨gs, os, none⟩) k cap) (told :: SL2) V → Seg V 33 32 (.slice (some ⟨gs, oq, none⟩) M cq) SL2.length (sumsC SL2)) ∧ ((cap = 1 ∧ oq = os ∧ cq = cap - 1) ∨ (¬ cap = 1 ∧ oq = os + 32 ∧ cq = cap - 1))) := Lib.hid (by
      have hdr : (sumsC (told :: SL2)).drop (1 * 32) = sumsC SL2 := by
        rw [sumsC, List.flatMap_cons, List.drop_append, List.drop_of_length_le (by rw [List.length_map, hT32]; decide), List.length_map, hT32]
        rfl
      have key : ∀ V, SiS w (.slice ta M tc) T g off L gt claim (.slice (some ⟨gs, os, none⟩) k cap) (told :: SL2) V → Seg V 33 32 (.slice (some (if cap = 1 then ⟨gs, os, none⟩ else ⟨gs, os + 32, none⟩)) M (cap - 1)) SL2.length (sumsC SL2) := fun V hV => by
        have h3 := hV.sums
        rw [← HKK.out] at h3
        have h4 := Seg.rest h3 1 (by omega)
        rw [hdr, Nat.one_mul, show k - 1 = M by omega] at h4
        rw [HW.out]
        exact h4
      by_cases hc1 : cap = 1
      · refine ⟨os, cap - 1, fun V hV => ?_, .inl ⟨hc1, rfl, rfl⟩⟩
        have h4 := key V hV
        rw [if_pos hc1] at h4
        exact h4
      · refine ⟨os + 32, cap - 1, fun V hV => ?_, .inr ⟨hc1, rfl, rfl⟩⟩
        have h4 := key V hV
        rw [if_neg hc1] at h4
        exact h4)
    obtain ⟨oq, cq, hseg, hcase⟩ := HRS.out
    have HSEG := Lib.hid hseg
    clear hseg HRS
    have hk0 : ¬ (k : Int) = 0 := by omega
    have hk7 : ¬ k = 0 := by omega
    have hk2 : (1 : Int) ≤ (k : Int) := by omega
    have hk3 : (0 : Int) < (k : Int) := by omega
    have hk4 : (k : Int) - 1 = (M : Int) := by omega
    have hk5 : k - 1 = M := by omega
    have hk6 : (1 : Int) ≤ (cap : Int) := by omega
    clear hk1
    go_wp2_with fail
    refine wp_region_any (by kernel_rfl) ?_
    refine wpAny_name (fun V hV => ?_)
    have HV : Hid (SiS w (.slice ta M tc) T g off L gt claim (.slice (some ⟨gs, os, none⟩) k cap) (told :: SL2) V) := by rw [← hV]; first | exact Lib.hid S2.out | exact Lib.hid (S2.out.below (Below.refl _ _).drew)
    clear hV
    refine any_take 0 (some 34) (v := .slice (some ⟨gs, os, none⟩) k cap) rfl rfl (by kernel_rfl) (by kernel_rfl) (by kernel_rfl) (fun _ _ _ h => h) (by kernel_rfl) (fun V => rfl) ?_
    simp only [Act.put, List.setIfInBounds_toArray, List.set_cons_zero, List.set_cons_succ]
    refine any_take 1 (some 35) (v := .pointer (some ⟨gs, os, none⟩)) rfl rfl (by kernel_rfl) (by kernel_rfl) (by kernel_rfl) (fun _ _ _ h => h) (by kernel_rfl) (fun V => by go_simp) ?_
    simp only [Act.put, List.setIfInBounds_toArray, List.set_cons_zero, List.set_cons_succ]
    refine any_take 3 (some 37) (v := .slice (some ⟨gs, os, none⟩) k cap) rfl rfl (by kernel_rfl) (by kernel_rfl) (by kernel_rfl) (fun _ _ _ h => h) (by kernel_rfl) (fun V => rfl) ?_
    simp only [Act.put, List.setIfInBounds_toArray, List.set_cons_zero, List.set_cons_succ]
    refine any_take 4 (some 38) (v := .slice (some ⟨gs, oq, none⟩) M cq) rfl rfl (by kernel_rfl) (by kernel_rfl) (by kernel_rfl) (fun _ _ _ h => h) (by kernel_rfl) (fun V => by
      have x4 : (cap : Int) - 1 = ((cap - 1 : Nat) : Int) := by omega
      rcases hcase with ⟨x1, rfl, rfl⟩ | ⟨x1, rfl, rfl⟩
      · go_simp
      · go_simp) ?_
    simp only [Act.put, List.setIfInBounds_toArray, List.set_cons_zero, List.set_cons_succ]
    refine any_one (i := 2) (by kernel_rfl) ?_
    refine wpOp_value (some 36) (v := .agg (cellsOf told)) (w' := V) rfl rfl (by kernel_rfl) (exec_load 33 (.tmp 35) rfl (.pointer (some ⟨gs, os, none⟩)) (by kernel_rfl) (run_loadAt_mid V gs os 33 (told.map byteV) _ (HRG.out V HV.out) Tryd.underlying33 rfl (by rw [List.length_map, HT32.out]; kernel_rfl))) ?_
    simp only [Act.put, List.setIfInBounds_toArray, List.set_cons_zero, List.set_cons_succ]
    refine any_one (i := 5) (by kernel_rfl) ?_
    refine wpOp_wp rfl (by kernel_rfl) ?_
    refine wp_store_row 33 _ _ rfl gt (cellsOf told) rfl rfl 33 (cellsOf claim) HV.out.told (by rw [HTC2.out]; kernel_rfl) (by rw [HTC2.out, HCC.out]) (cellsOf_one _) ?_
    have HW6 : Has (V.setRow gt (cellsOf told)) gt 33 (cellsOf told) := HV.out.told.row _
    have TW6 : Turn (fun k => k = gt) V (V.setRow gt (cellsOf told)) := turn_row _ _ _
    generalize V.setRow gt (cellsOf told) = W4 at *
    have S4 : Hid (SiS w (.slice ta M tc) T g off L gt told (.slice (some ⟨gs, oq, none⟩) M cq) SL2 W4) := by
      have h := HV.out
      have hsg := HSEG.out V h
      refine Lib.hid ⟨h.rk.turn TW6 (fun e => ?_), h.tur.turn TW6 (fun x hx e => h.tur.ne h.told (by decide) (by rw [hx, e])), HW6, hsg.turn TW6 (fun x hx e => ?_), h.lt, fun i s hs => by rw [← h.cells i s hs]; exact TW6.cell (Nat.lt_of_lt_of_le h.lt h.bel.size) (by have := h.lt; have := h.lo; show ¬ g = _; omega), h.lo, h.bel.trans (TW6.below h.bel.size (fun j hj e => by have := h.lo; omega))⟩
      · have := HS.out.1.lt; have := h.lo; omega
      · have h1 : gs = x := by simpa [Value.ownBlock] using hx
        have h2 : gs < w.heap.size := HS.out.2.2.2.lt rfl
        have := h.lo
        omega
    clear HW6 TW6 HV S2 HRG HSEG
    refine any_take 6 (some 3) (v := .slice (some ⟨gs, oq, none⟩) M cq) rfl rfl (by kernel_rfl) (by kernel_rfl) (by kernel_rfl) (fun _ _ _ h => h) (by kernel_rfl) (fun V => rfl) ?_
    simp only [Act.put, List.setIfInBounds_toArray]
    refine wpAny_done (by kernel_rfl) ?_ _
    clear hcase hk0 hk7 hk2 hk3 hk4 hk5 hk6 hkc
    have HX : Hid (PL = (txL T BX E).zip (txL T SL2.reverse told) ∧ SL2.length = M ∧ True ∧ True ∧ told.length = 32 ∧ ∀ x ∈ SL2, x.length = 32) := Lib.hid ⟨hPL, HW.out, trivial, trivial, HT32.out, fun x hx => HSLL.out x (by simp [hx])⟩
    clear hPL
    have SL32 := HX.out.2.2.2.2.2
    go_wp2_with fail
    refine (HRC.out (.slice ta M tc) W4 S4.out.rk (Nat.lt_of_lt_of_le S4.out.lt S4.out.bel.size) S4.out.cells S4.out.tur).mono ?_
    rintro en w5 ⟨bg, rfl, b5, lo5, bb5⟩
    have HBL : Hid (BX.reverse.length = M) := Lib.hid (by rw [List.length_reverse, HTT.out.2.1, besideX_len, HTT.out.2.2.2])
    rw [HBL.out] at b5 ⊢
    have S5 : Hid (SiS w (.slice ta M tc) T g off L gt told (.slice (some ⟨gs, oq, none⟩) M cq) SL2 w5 ∧ Seg w5 33 32 (.slice (some ⟨bg, 0, none⟩) M M) M (sumsC BX.reverse)) := Lib.hid ⟨S4.out.below bb5, b5⟩
    clear b5 lo5 bb5 S4
    go_wp2_with (first
      | ((with_reducible refine at_store (.tmp 12) ?_); refine wpList_store_cells (o := ⟨none, _, _, _, _, _⟩) rfl 33 (.tmp 12) (.tmp 48) rfl w5.heap.size (cellsOf E) _ rfl rfl _ (made_at _ _ rfl) (HEC.out.symm ▸ (by kernel_rfl)) (HEC.out.symm ▸ rfl) (cellsOf_one _) ?_; intro W6 HW6 TW6;
         (have S6 : Hid (SiZ w (.slice ta M tc) T g off L gt told (.slice (some ⟨gs, oq, none⟩) M cq) SL2 w5.heap.size E (.slice (some ⟨bg, 0, none⟩) M M) BX.reverse W6) := (by
           have bb : Below w5.heap.size w5 W6 := ((Below.refl _ _).alloc (Nat.le_refl _) _).trans (TW6.below (by simp) (fun j hj e => by omega))
           exact Lib.hid ⟨S5.out.1.below bb, HW6, by rw [HBL.out]; exact S5.out.2.below bb (fun x hx => S5.out.2.lt hx)⟩));
         clear HW6 TW6 S5)
      | fail)
    obtain ⟨gr, hgr⟩ : ∃ gr, gr = w5.heap.size := ⟨_, rfl⟩
    rw [← hgr] at S6 ⊢
    clear hgr
    have HM := HTT.out.2.2.2
    have N1 : Hid (∀ V, SiZ w (.slice ta M tc) T g off L gt told (.slice (some ⟨gs, oq, none⟩) M cq) SL2 gr E (.slice (some ⟨bg, 0, none⟩) M M) BX.reverse V → Calls Tryd.prog 45 #[.slice ta M tc, .agg (cellsOf E), .slice (some ⟨bg, 0, none⟩) M M] V (NodesPost V M (textN (fun i => T.getD (M - 1 - i) false) E (fun i => BX.reverse.getD i [])))) := Lib.hid fun V hV => by
      have h := nodes_calls (.slice ta M tc) (.slice (some ⟨bg, 0, none⟩) M M) T BX.reverse E V hV.s.rk HEC2.out (by rw [HBL.out, ← HM]) (by rw [HBL.out]; exact HMM.out) hV.s.tur hV.bes (fun x hx => HALL.out.1 x (List.mem_reverse.1 hx))
      rw [HBL.out] at h
      exact h
    have N2 : Hid (∀ V, SiZ w (.slice ta M tc) T g off L gt told (.slice (some ⟨gs, oq, none⟩) M cq) SL2 gr E (.slice (some ⟨bg, 0, none⟩) M M) BX.reverse V → Calls Tryd.prog 45 #[.slice ta M tc, .agg (cellsOf told), .slice (some ⟨gs, oq, none⟩) M cq] V (NodesPost V M (textN (fun i => T.getD (M - 1 - i) false) told (fun i => SL2.getD i [])))) := Lib.hid fun V hV => by
      have h := nodes_calls (.slice ta M tc) (.slice (some ⟨gs, oq, none⟩) M cq) T SL2 told V hV.s.rk HX.out.2.2.2.2.1 (by rw [HX.out.2.1, ← HM]) (by rw [HX.out.2.1]; exact HMM.out) hV.s.tur hV.s.sums SL32
      rw [HX.out.2.1] at h
      exact h
    clear SL32
    refine Go.wp_region_held (S := SiZ w (.slice ta M tc) T g off L gt told (.slice (some ⟨gs, oq, none⟩) M cq) SL2 gr E (.slice (some ⟨bg, 0, none⟩) M M) BX.reverse) (by kernel_rfl) ?_
    have S0 := S6.out.below (Below.refl _ _).drew
    clear S6
    refine held_take 0 (some 50) rfl rfl (by kernel_rfl) (by kernel_rfl) (by kernel_rfl) (fun _ _ _ h => h) (.inl ⟨by kernel_rfl, fun _ _ => rfl⟩) S0 ?_
    simp only [Act.put, List.setIfInBounds_toArray, List.set_cons_zero, List.set_cons_succ]
    refine held_take 1 (some 51) (v := .agg (cellsOf E)) rfl rfl (by kernel_rfl) (by kernel_rfl) (by kernel_rfl) (fun _ _ _ h => h) (.inl ⟨by kernel_rfl, fun V hV => by exact exec_load 33 (.tmp 12) rfl (.pointer (some ⟨gr, 0, none⟩)) (by kernel_rfl) (run_loadAt_mid V gr 0 33 ((E).map byteV) _ (Has.range hV.res) Tryd.underlying33 rfl (by rw [List.length_map, HEC2.out]; kernel_rfl))⟩) S0 ?_
    simp only [Act.put, List.setIfInBounds_toArray, List.set_cons_zero, List.set_cons_succ]
    refine held_take 2 (some 52) rfl rfl (by kernel_rfl) (by kernel_rfl) (by kernel_rfl) (fun _ _ _ h => h) (.inl ⟨by kernel_rfl, fun _ _ => rfl⟩) S0 ?_
    simp only [Act.put, List.setIfInBounds_toArray, List.set_cons_zero, List.set_cons_succ]
    refine held_take 4 (some 54) rfl rfl (by kernel_rfl) (by kernel_rfl) (by kernel_rfl) (fun _ _ _ h => h) (.inl ⟨by kernel_rfl, fun _ _ => rfl⟩) S0 ?_
    simp only [Act.put, List.setIfInBounds_toArray, List.set_cons_zero, List.set_cons_succ]
    refine held_take 5 (some 55) (v := .agg (cellsOf told)) rfl rfl (by kernel_rfl) (by kernel_rfl) (by kernel_rfl) (fun _ _ _ h => h) (.inl ⟨by kernel_rfl, fun V hV => by exact exec_load 33 (.tmp 11) rfl (.pointer (some ⟨gt, 0, none⟩)) (by kernel_rfl) (run_loadAt_mid V gt 0 33 ((told).map byteV) _ (Has.range hV.s.told) Tryd.underlying33 rfl (by rw [List.length_map, HX.out.2.2.2.2.1]; kernel_rfl))⟩) S0 ?_
    simp only [Act.put, List.setIfInBounds_toArray, List.set_cons_zero, List.set_cons_succ]
    refine held_take 6 (some 56) rfl rfl (by kernel_rfl) (by kernel_rfl) (by kernel_rfl) (fun _ _ _ h => h) (.inl ⟨by kernel_rfl, fun _ _ => rfl⟩) S0 ?_
    simp only [Act.put, List.setIfInBounds_toArray, List.set_cons_zero, List.set_cons_succ]
    refine held_one (i := 3) (by kernel_rfl) ?_
    refine wpOp_call (some 53) rfl rfl (by kernel_rfl) 45 Tryd.f45 Tryd.func45 (by kernel_rfl) (by kernel_rfl) _ _ rfl #[.slice ta M tc, .agg (cellsOf E), .slice (some ⟨bg, 0, none⟩) M M] (by first | (simp [Act.eval]; done) | (simp [Act.eval, Act.put]; done)) (N1.out _ S0) ?_
    rintro en w7 ⟨t1, rfl, h7, lo7, b7⟩
    have S1 := S0.below b7
    refine ⟨.slice (some ⟨t1, 0, none⟩) M M, rfl, S1, ?_⟩
    simp only [Act.put, List.setIfInBounds_toArray, List.set_cons_zero, List.set_cons_succ]
    refine held_one (i := 7) (by kernel_rfl) ?_
    refine wpOp_call (some 57) rfl rfl (by kernel_rfl) 45 Tryd.f45 Tryd.func45 (by kernel_rfl) (by kernel_rfl) _ _ rfl #[.slice ta M tc, .agg (cellsOf told), .slice (some ⟨gs, oq, none⟩) M cq] (by first | (simp [Act.eval]; done) | (simp [Act.eval, Act.put]; done)) (N2.out _ S1) ?_
    rintro en w8 ⟨t2, rfl, h8, lo8, b8⟩
    have S2 := S1.below b8
    have h7' := h7.below b8 h7.lt
    refine ⟨.slice (some ⟨t2, 0, none⟩) M M, rfl, S2, ?_⟩
    simp only [Act.put, List.setIfInBounds_toArray, List.set_cons_zero, List.set_cons_succ]
    refine held_one (i := 8) (by kernel_rfl) ?_
    refine wpOp_call (some 58) rfl rfl (by kernel_rfl) 36 Tryd.f36 Tryd.func36 (by kernel_rfl) (by kernel_rfl) _ _ rfl #[.slice (some ⟨t1, 0, none⟩) M M, .slice (some ⟨t2, 0, none⟩) M M] (by first | (simp [Act.eval]; done) | (simp [Act.eval, Act.put]; done)) ((pairs_calls (some ⟨t1, 0, none⟩) (some ⟨t2, 0, none⟩) M M M (fun p => textN (fun i => T.getD (M - 1 - i) false) E (fun i => BX.reverse.getD i []) (M - 1 - p)) (fun p => textN (fun i => T.getD (M - 1 - i) false) told (fun i => SL2.getD i []) (M - 1 - p)) _ (by have := HMM.out; omega) ⟨Nat.le_refl _, by have := HMM.out; unfold maxLen; omega⟩ ⟨Nat.le_refl _, by have := HMM.out; unfold maxLen; omega⟩ (fun p hp => ⟨t1, 0, rfl, h7'.lt, by rw [h7'.cell, Nat.zero_add, textsC_get hp, if_pos (by omega)]⟩) (fun p hp => ⟨t2, 0, rfl, h8.lt, by rw [h8.cell, Nat.zero_add, textsC_get hp, if_pos (by omega)]⟩))) ?_
    rintro en w9 ⟨gq, rfl, h9, lo9, b9⟩
    have S3 := S2.below b9
    refine ⟨.slice (some ⟨gq, 0, none⟩) M M, rfl, S3, ?_⟩
    simp only [Act.put, List.setIfInBounds_toArray, List.set_cons_zero, List.set_cons_succ]
    refine held_take 9 (some 8) (v := .slice (some ⟨gq, 0, none⟩) M M) rfl rfl (by kernel_rfl) (by kernel_rfl) (by kernel_rfl) (fun _ _ _ h => h) (.inl ⟨by kernel_rfl, fun V hV => by rfl⟩) S3 ?_
    simp only [Act.put, List.setIfInBounds_toArray, List.set_cons_zero, List.set_cons_succ]
    refine held_take 10 (some 9) (v := .bool true) rfl rfl (by kernel_rfl) (by kernel_rfl) (by kernel_rfl) (fun _ _ _ h => h) (.inl ⟨by kernel_rfl, fun V hV => by rfl⟩) S3 ?_
    simp only [Act.put, List.setIfInBounds_toArray, List.set_cons_zero, List.set_cons_succ]
    refine wpAnyH_done (by kernel_rfl) ?_ _
    have HB := Lib.hid (show _ ∧ _ from ⟨S3.s.bel, h9⟩)
    clear S0 S1 S2 S3 h7 h7' h8 h9 lo7 lo8 lo9 b7 b8 b9 N1 N2
    go_wp2_with fail
    go_ret2
    have hz1 : BX.length = M := by have := HBL.out; rwa [List.length_reverse] at this
    have hz2 : SL2.reverse.length = M := by rw [List.length_reverse]; exact HX.out.2.1
    have e1 := txL_len T BX E (by rw [hz1, ← HTT.out.2.2.2])
    have e2 := txL_len T SL2.reverse told (by rw [hz2, ← HTT.out.2.2.2])
    rw [← HTT.out.2.2.2] at e1 e2
    have hpl : ((txL T BX E).zip (txL T SL2.reverse told)).length = M := by rw [List.length_zip, e1, e2, Nat.min_self]
    have hpm := pairsM_zip (fun p => textN (fun i => T.getD (M - 1 - i) false) E (fun i => BX.reverse.getD i []) (M - 1 - p)) (fun p => textN (fun i => T.getD (M - 1 - i) false) told (fun i => SL2.getD i []) (M - 1 - p)) _ _ M e1 e2 (fun p hp => by have := txL_at T BX E (by rw [hz1, ← HTT.out.2.2.2]) p (by rw [← HTT.out.2.2.2]; exact hp); rw [← HTT.out.2.2.2] at this; exact this) (fun p hp => by have := txL_at T SL2.reverse told (by rw [hz2, ← HTT.out.2.2.2]) p (by rw [← HTT.out.2.2.2]; exact hp); rw [← HTT.out.2.2.2, List.reverse_reverse] at this; exact this)
    have hP : PL.length = M := by rw [HX.out.1]; exact hpl
    refine ⟨gq, by rw [hP]; rfl, ?_, HB.out.1⟩
    rw [hP, HX.out.1, ← hpm]
    have h6 := Seg.of_has (n := M) (size := 2) HB.out.2 (by rw [List.size_toArray, pairsM_len]) (by have := HMM.out; unfold maxLen; omega)
    exact h6
end Go.Proofs.YthbncejbcegmgaaDoor.clash
end

section
/- clash: Leaves. -/
namespace Go.Proofs.YthbncejbcegmgaaDoor.clash
open Go Go.RowKit Go.Proofs.YthbncejbcegmgaaDoor.dig Go.Proofs.YthbncejbcegmgaaDoor.prf

theorem texX_size : ∀ (T : List Bool) (r : List (List UInt8)) (c : List UInt8), c.length = 32 → (∀ x ∈ r, x.length = 32) → ∀ y ∈ texX T r c, y.length = 65
  | [], _, _, _, _, y, hy => by simp [texX] at hy
  | _ :: _, [], _, _, _, y, hy => by simp [texX] at hy
  | t :: T, o :: r, c, hc, hr, y, hy => by
    rw [texX] at hy
    rcases List.mem_cons.1 hy with rfl | hy
    · have h1 := comeX_len T r hc
      have h2 := hr o (by simp)
      split <;> simp [h1, h2]
    · exact texX_size T r c hc (fun x hx => hr x (by simp [hx])) y hy
theorem firstU_zip {l1 l2 : List ByteArray} {k : Nat} {x y : ByteArray} (h1 : l1[k]? = some x) (h2 : l2[k]? = some y) (hne : x ≠ y) (hb : ∀ j < k, l1[j]? = l2[j]?) : firstU (l1.zip l2) = ((x, y), true) := by
  refine firstU_some (i := k) (List.getElem?_zip_eq_some.2 ⟨h1, h2⟩) hne (fun j p hj hp => ?_)
  obtain ⟨e1, e2⟩ := List.getElem?_zip_eq_some.1 hp
  have := hb j hj
  rw [e1, e2] at this
  exact Option.some.inj this
theorem bs_ne {x y : List UInt8} (h : x ≠ y) : (⟨x.toArray⟩ : ByteArray) ≠ ⟨y.toArray⟩ := fun e => h (by
  have := congrArg (fun b : ByteArray => b.data.toList) e
  simpa using this)
theorem clashB_of {x y : List UInt8} (h : x ≠ y) (hs : sum x = sum y) : clashB ⟨x.toArray⟩ ⟨y.toArray⟩ = true := by
  unfold clashB
  rw [decide_eq_true (bs_ne h)]
  simp [hs]
theorem leafT_list (s : ByteArray) : (leafT s).data.toList = 0 :: s.data.toList := by
  simp [leafT, ByteArray.data_append]
theorem leafT_inj {a b : ByteArray} (h : leafT a = leafT b) : a = b := by
  have h1 := congrArg (fun x : ByteArray => x.data.toList) h
  simp only [leafT_list] at h1
  exact ByteArray.ext (Array.toList_inj.1 (List.cons.inj h1).2)

/-- What Leaves answers: a clash if ok, nothing otherwise. -/
def PairPost (w : World) (ok : Bool) (en : Ending) (w' : World) : Prop :=
  ∃ x y, en = .returned (.tuple #[.agg #[.string x, .string y], .bool ok]) ∧ (ok = true → clashB x y = true ∧ x.size < 1000000000 ∧ y.size < 1000000000) ∧ (ok = false → x = ⟨#[]⟩ ∧ y = ⟨#[]⟩) ∧ Below w.heap.size w w'

/-- Do two proofs prove two unlike leaves? -/
def twoB (a b : ByteArray) (i n : Int) (root : List UInt8) (p q : List (List UInt8)) : Bool := decide (a ≠ b) && (inclE a.data.toList i n root p == 0) && (inclE b.data.toList i n root q == 0)

/-- The first unlike ones of two ways. -/
theorem way_first {a b : ByteArray} {root : List UInt8} {i n : Nat} (hi : i < n) {p q : List (List UInt8)} (hp : ∀ x ∈ p, x.length = 32) (hq : ∀ x ∈ q, x.length = 32) (ha : inclE a.data.toList i n root p = 0) (hb : inclE b.data.toList i n root q = 0) (hne : a ≠ b) (hsa : a.size < 900000000) (hsb : b.size < 900000000) :
    ∃ x y, firstU ((txL (turnsL i n) p (leafS a.data.toList) ++ [leafT a]).zip (txL (turnsL i n) q (leafS b.data.toList) ++ [leafT b])) = ((x, y), true) ∧ clashB x y = true ∧ x.size < 1000000000 ∧ y.size < 1000000000 := by
  have hne' : a.data.toList ≠ b.data.toList := fun e => hne (ByteArray.ext (Array.toList_inj.1 e))
  obtain ⟨l1, l2, h⟩ := sure_leaves hi hp hq ha hb hne'
  have k1 := txL_len (turnsL i n) p (leafS a.data.toList) l1
  have k2 := txL_len (turnsL i n) q (leafS b.data.toList) l2
  rcases h with ⟨k, x, y, h1, h2, h3, h4, h5⟩ | ⟨h1, h2⟩
  · refine ⟨⟨x.toArray⟩, ⟨y.toArray⟩, ?_, clashB_of h3 h4, ?_, ?_⟩
    · have hk : k < (turnsL i n).length := by
        have := (List.getElem?_eq_some_iff.1 h1).1
        rw [texX_len _ _ _ l1] at this
        exact this
      refine firstU_zip (k := k) ?_ ?_ (bs_ne h3) (fun j hj => ?_)
      · rw [List.getElem?_append_left (by omega), txL, List.getElem?_map, h1]; rfl
      · rw [List.getElem?_append_left (by omega), txL, List.getElem?_map, h2]; rfl
      · rw [List.getElem?_append_left (by omega), List.getElem?_append_left (by omega), txL, txL, List.getElem?_map, List.getElem?_map, h5 j hj]
    · have := texX_size _ _ _ (leafS_length _) hp x (List.mem_of_getElem? h1)
      simp [ByteArray.size, this]
    · have := texX_size _ _ _ (leafS_length _) hq y (List.mem_of_getElem? h2)
      simp [ByteArray.size, this]
  · refine ⟨leafT a, leafT b, ?_, ?_, by rw [leafT_size]; omega, by rw [leafT_size]; omega⟩
    · refine firstU_zip (k := (turnsL i n).length) ?_ ?_ (fun e => hne (leafT_inj e)) (fun j hj => ?_)
      · rw [List.getElem?_append_right (by omega), k1, Nat.sub_self]; rfl
      · rw [List.getElem?_append_right (by omega), k2, Nat.sub_self]; rfl
      · rw [List.getElem?_append_left (by omega), List.getElem?_append_left (by omega), txL, txL, h1]
    · unfold clashB
      rw [decide_eq_true (show leafT a ≠ leafT b from fun e => hne (leafT_inj e)), leafT_list, leafT_list, h2]
      simp

theorem wayL_at {m : Nat} {X : Nat → ByteArray} {s : ByteArray} {l : List ByteArray} (hl : l.length = m) (hX : ∀ p, p < m → l[p]? = some (X (m - 1 - p))) : wayL m X s = (l ++ [leafT s]).map Value.string := by
  unfold wayL
  rw [List.map_append]
  congr 1
  apply List.ext_getElem?
  intro p
  by_cases hp : p < m
  · rw [List.getElem?_map, List.getElem?_range hp, List.getElem?_map, hX p hp]
    rfl
  · rw [List.getElem?_eq_none (by simp; omega), List.getElem?_eq_none (by simp; omega)]

/-- What lasts in Leaves. -/
structure LvS (w : World) (n : Int) (root : List UInt8) (p q : List (List UInt8)) (pv qv : Value) (V : World) : Prop where
  rk : Rk V
  hd : Has V w.heap.size 38 (headC n root)
  res : Has V (w.heap.size + 1) 40 #[.string ⟨#[]⟩, .string ⟨#[]⟩]
  sp : SmS V pv p
  sq : SmS V qv q
  bel : Below w.heap.size w V
theorem LvS.below {w : World} {n : Int} {root : List UInt8} {p q : List (List UInt8)} {pv qv : Value} {V V' : World} (h : LvS w n root p q pv qv V) (b : Below V.heap.size V V') : LvS w n root p q pv qv V' :=
  ⟨h.rk.below b, h.hd.below b h.hd.lt, h.res.below b h.res.lt, h.sp.below b, h.sq.below b, h.bel.trans (b.mono h.bel.size)⟩

set_option maxRecDepth 100000 in
set_option maxHeartbeats 4000000 in
theorem cleaves_calls (a b : ByteArray) (i n : Int) (hn : n ≤ 1000000) (root : List UInt8) (hr : root.length = 32) (p q : List (List UInt8)) (pv qv : Value) (hsa : a.size < 900000000) (hsb : b.size < 900000000) (w : World) (hR : Rk w) (hp : SmS w pv p) (hq : SmS w qv q) :
    Calls Tryd.prog 13 #[.int .i64 i, .agg (headC n root), .string a, pv, .string b, qv] w (PairPost w (twoB a b i n root p q)) := by
  obtain ⟨E1, hE1⟩ : ∃ E, E = inclE a.data.toList i n root p := ⟨_, rfl⟩
  obtain ⟨E2, hE2⟩ : ∃ E, E = inclE b.data.toList i n root q := ⟨_, rfl⟩
  obtain ⟨ok, hok⟩ : ∃ ok, ok = twoB a b i n root p q := ⟨_, rfl⟩
  rw [← hok]
  unfold twoB at hok
  rw [← hE1, ← hE2] at hok
  obtain ⟨pa, pc, rfl, hpc, _⟩ := hp.slice
  obtain ⟨qa, qc, rfl, hqc, _⟩ := hq.slice
  obtain ⟨lp, hlp⟩ : ∃ l, l = p.length := ⟨_, rfl⟩
  obtain ⟨lq, hlq⟩ : ∃ l, l = q.length := ⟨_, rfl⟩
  rw [← hlp] at hp ⊢
  rw [← hlq] at hq ⊢
  have HL := Lib.hid (show _ ∧ _ ∧ _ ∧ _ from ⟨hlp, hlq, hsa, hsb⟩)
  have HE := Lib.hid (show _ ∧ _ from ⟨hE1, hE2⟩)
  have HRT := Lib.hid hr
  have HOK := Lib.hid hok
  have HN := Lib.hid hn
  have S0 : Hid (Rk w ∧ SmS w (.slice pa lp pc) p ∧ SmS w (.slice qa lq qc) q) := Lib.hid ⟨hR, hp, hq⟩
  have I1 : Hid (∀ V, LvS w n root p q (.slice pa lp pc) (.slice qa lq qc) V → Calls Tryd.prog 18 #[.string a, .int .i64 i, .agg (headC n root), .slice pa lp pc] V fun en w' => ∃ e, en = .returned e ∧ ((E1 = 0 ∧ e = .nilIface) ∨ (E1 ≠ 0 ∧ ∃ b, e = .iface 114 (.pointer (some ⟨b, 0, none⟩)))) ∧ LvS w n root p q (.slice pa lp pc) (.slice qa lq qc) w') := Lib.hid fun V hV => by
    have h := incl_calls a i n root hr hn p pa pc V hV.rk (by rw [← hlp]; exact hV.sp.weak) (by omega)
    rw [← hlp, ← hE1] at h
    refine h.mono ?_
    rintro en w' ⟨e, rfl, he, bb⟩
    refine ⟨e, rfl, ?_, hV.below bb⟩
    rcases he with h | ⟨h, b, rfl, _⟩
    · exact .inl h
    · exact .inr ⟨h, b, rfl⟩
  have I2 : Hid (∀ V, LvS w n root p q (.slice pa lp pc) (.slice qa lq qc) V → Calls Tryd.prog 18 #[.string b, .int .i64 i, .agg (headC n root), .slice qa lq qc] V fun en w' => ∃ e, en = .returned e ∧ ((E2 = 0 ∧ e = .nilIface) ∨ (E2 ≠ 0 ∧ ∃ b, e = .iface 114 (.pointer (some ⟨b, 0, none⟩)))) ∧ LvS w n root p q (.slice pa lp pc) (.slice qa lq qc) w') := Lib.hid fun V hV => by
    have h := incl_calls b i n root hr hn q qa qc V hV.rk (by rw [← hlq]; exact hV.sq.weak) (by omega)
    rw [← hlq, ← hE2] at h
    refine h.mono ?_
    rintro en w' ⟨e, rfl, he, bb⟩
    refine ⟨e, rfl, ?_, hV.below bb⟩
    rcases he with h | ⟨h, b, rfl, _⟩
    · exact .inl h
    · exact .inr ⟨h, b, rfl⟩
  clear hR hp hq hr hn hE1 hE2 hsa hsb hlp hlq hpc hqc
  by_cases hab : a = b
  · subst hab
    obtain rfl : ok = false := by rw [hok]; simp
    clear hok
    have hss : (a.toList == a.toList) = true := by simp
    go_enter Tryd.func13, Tryd.ntmps13
    go_wp2_with fail
    exact bodyPost_ret (v := .tuple #[.agg #[.string ⟨#[]⟩, .string ⟨#[]⟩], .bool false]) (results_cell_tmp rfl _ _ (w.heap.size + 1) 40 _ _ _ rfl (made_at _ _ (by simp)) Tryd.underlying40 rfl (by kernel_rfl) _ rfl) rfl
      ⟨_, _, rfl, (fun h => by cases h), (fun _ => ⟨rfl, rfl⟩), ((Below.refl _ _).alloc (Nat.le_refl _) _).alloc (by simp) _⟩
  · have hns : (a.toList == b.toList) = false := by
      rw [ByteArray.toList_eq, ByteArray.toList_eq]
      simpa using fun e => hab (ByteArray.ext (Array.toList_inj.1 e))
    have HAB := Lib.hid hab
    clear hab hok
    go_enter Tryd.func13, Tryd.ntmps13
    have Z0 : Hid (LvS w n root p q (.slice pa lp pc) (.slice qa lq qc) ((w.alloc (.cells (headC n root) 38)).alloc (.cells #[.string ⟨#[]⟩, .string ⟨#[]⟩] 40))) := by
      have bb : Below w.heap.size w ((w.alloc (.cells (headC n root) 38)).alloc (.cells #[.string ⟨#[]⟩, .string ⟨#[]⟩] 40)) := ((Below.refl _ _).alloc (Nat.le_refl _) _).alloc (by simp) _
      exact Lib.hid ⟨S0.out.1.below bb, (made_at _ _ rfl).alloc _, made_at _ _ (by simp), S0.out.2.1.below bb, S0.out.2.2.below bb, bb⟩
    have hlh : (Instr.loadAt 38 (.pointer (some ⟨w.heap.size, 0, none⟩))).run Tryd.prog ((w.alloc (.cells (headC n root) 38)).alloc (.cells #[.string ⟨#[]⟩, .string ⟨#[]⟩] 40)) = .ok (.agg (headC n root)) ((w.alloc (.cells (headC n root) 38)).alloc (.cells #[.string ⟨#[]⟩, .string ⟨#[]⟩] 40)) := prf.Has.load_hd Z0.out.hd HRT.out
    go_wp2_with (first
      | ((with_reducible refine at_opg 24 ?_); refine wpList_load_if (o := ⟨some 24, _, _, _, _, _⟩) (by kernel_rfl) 38 (.tmp 7) rfl (.pointer (some ⟨w.heap.size, 0, none⟩)) rfl hlh ?_)
      | fail)
    refine (I1.out _ Z0.out).mono ?_
    rintro en w1 ⟨e, rfl, he, s1⟩
    have S1 := Lib.hid s1
    clear s1 hlh Z0 S0
    rcases he with ⟨h0, rfl⟩ | ⟨h0, b1, rfl⟩
    · have HE1 := Lib.hid h0
      clear h0
      have hlh : (Instr.loadAt 38 (.pointer (some ⟨w.heap.size, 0, none⟩))).run Tryd.prog w1 = .ok (.agg (headC n root)) w1 := prf.Has.load_hd S1.out.hd HRT.out
      go_wp2_with (first
        | ((with_reducible refine at_opg 32 ?_); refine wpList_load_if (o := ⟨some 32, _, _, _, _, _⟩) (by kernel_rfl) 38 (.tmp 7) rfl (.pointer (some ⟨w.heap.size, 0, none⟩)) rfl hlh ?_)
        | fail)
      refine (I2.out _ S1.out).mono ?_
      rintro en w2 ⟨e, rfl, he, s2⟩
      have S2 := Lib.hid s2
      clear s2 hlh S1
      rcases he with ⟨h0, rfl⟩ | ⟨h0, b1, rfl⟩
      · have HE2 := Lib.hid h0
        clear h0 hns
        obtain rfl : ok = true := by rw [HOK.out, HE1.out, HE2.out]; simp [HAB.out]
        obtain ⟨j, k, rfl, rfl, hjk⟩ : ∃ j k : Nat, i = j ∧ n = k ∧ j < k := by
          have h := HE.out.1
          rw [HE1.out] at h
          unfold inclE at h
          by_cases hx : i < 0 ∨ n ≤ i
          · rw [if_pos hx] at h; cases h
          · exact ⟨i.toNat, n.toNat, by omega, by omega, by omega⟩
        have hA : inclE a.data.toList j k root p = 0 := by rw [← HE.out.1, HE1.out]
        have hB : inclE b.data.toList j k root q = 0 := by rw [← HE.out.2, HE2.out]
        have hkk : k ≤ 1000000 := by have := HN.out; omega
        obtain ⟨t1, t2, _⟩ := sure_leaves hjk S2.out.sp.2 S2.out.sq.2 hA hB (fun e => HAB.out (ByteArray.ext (Array.toList_inj.1 e)))
        obtain ⟨x, y, hf1, hf2, hf3, hf4⟩ := way_first hjk S2.out.sp.2 S2.out.sq.2 hA hB HAB.out HL.out.2.2.1 HL.out.2.2.2
        obtain ⟨m, hm⟩ : ∃ m, m = (turnsL j k).length := ⟨_, rfl⟩
        have hm64 : m ≤ 64 := by rw [hm]; have := turnsL_le 20 k j (by omega); omega
        rw [← hm] at t1 t2
        have HT := Lib.hid (show _ ∧ _ ∧ _ ∧ _ ∧ _ from ⟨t1, t2, hm, hm64, hjk⟩)
        have HF := Lib.hid (show _ ∧ _ ∧ _ ∧ _ from ⟨hf1, hf2, hf3, hf4⟩)
        have W1 : Hid (∀ V, LvS w k root p q (.slice pa lp pc) (.slice qa lq qc) V → Calls Tryd.prog 21 #[.string a, .int .i64 j, .int .i64 k, .slice pa lp pc] V fun en w' => ∃ v, en = .returned (.tuple #[v, .bool true]) ∧ Seg w' 9 1 v (m + 1) ((txL (turnsL j k) p (leafS a.data.toList) ++ [leafT a]).map Value.string) ∧ Below V.heap.size V w') := Lib.hid fun V hV => by
          have h := way_calls a j k (.slice pa lp pc) p.reverse V hV.rk hjk hkk (by have := HL.out; omega) (by rw [List.length_reverse, ← t1]; exact hm.symm) (by rw [List.length_reverse]; exact hV.sp.1) (fun x hx => hV.sp.2 x (List.mem_reverse.1 hx))
          refine h.mono ?_
          rintro en w' ⟨v, rfl, s, _, bb⟩
          refine ⟨v, rfl, ?_, bb⟩
          rw [List.length_reverse, ← t1] at s
          rw [wayL_at (l := txL (turnsL j k) p (leafS a.data.toList)) (by rw [txL_len _ _ _ (by rw [← hm]; exact t1), ← hm]) (fun r hr => by
            have h3 := txL_at (turnsL j k) p (leafS a.data.toList) (by rw [← hm]; exact t1) r (by rw [← hm]; exact hr)
            rw [← hm] at h3
            rw [h3, leafT_list]
            rfl)] at s
          exact s
        have W2 : Hid (∀ V, LvS w k root p q (.slice pa lp pc) (.slice qa lq qc) V → Calls Tryd.prog 21 #[.string b, .int .i64 j, .int .i64 k, .slice qa lq qc] V fun en w' => ∃ v, en = .returned (.tuple #[v, .bool true]) ∧ Seg w' 9 1 v (m + 1) ((txL (turnsL j k) q (leafS b.data.toList) ++ [leafT b]).map Value.string) ∧ Below V.heap.size V w') := Lib.hid fun V hV => by
          have h := way_calls b j k (.slice qa lq qc) q.reverse V hV.rk hjk hkk (by have := HL.out; omega) (by rw [List.length_reverse, ← t2]; exact hm.symm) (by rw [List.length_reverse]; exact hV.sq.1) (fun x hx => hV.sq.2 x (List.mem_reverse.1 hx))
          refine h.mono ?_
          rintro en w' ⟨v, rfl, s, _, bb⟩
          refine ⟨v, rfl, ?_, bb⟩
          rw [List.length_reverse, ← t2] at s
          rw [wayL_at (l := txL (turnsL j k) q (leafS b.data.toList)) (by rw [txL_len _ _ _ (by rw [← hm]; exact t2), ← hm]) (fun r hr => by
            have h3 := txL_at (turnsL j k) q (leafS b.data.toList) (by rw [← hm]; exact t2) r (by rw [← hm]; exact hr)
            rw [← hm] at h3
            rw [h3, leafT_list]
            rfl)] at s
          exact s
        clear t1 t2 hm hm64 hjk hA hB hkk hf1 hf2 hf3 hf4
        have q0 : w2.cell? ⟨w.heap.size, 0, none⟩ = some (.int .i64 k) := prf.Has.num S2.out.hd
        go_wp2_with fail
        refine (W1.out _ S2.out).mono ?_
        rintro en w3 ⟨v1, rfl, g1, b3⟩
        obtain ⟨va, vc, rfl, hv1, hv2⟩ := g1.slice
        have S3 := Lib.hid (show _ ∧ _ ∧ _ from ⟨S2.out.below b3, g1, (⟨hv1, hv2⟩ : m + 1 ≤ vc ∧ vc ≤ maxLen)⟩)
        clear g1 b3 S2 q0 hv1 hv2
        have q0 : w3.cell? ⟨w.heap.size, 0, none⟩ = some (.int .i64 k) := prf.Has.num S3.out.1.hd
        go_wp2_with fail
        refine (W2.out _ S3.out.1).mono ?_
        rintro en w4 ⟨v2, rfl, g2, b4⟩
        obtain ⟨ua, uc, rfl, hu1, hu2⟩ := g2.slice
        have S4 := Lib.hid (show _ ∧ _ ∧ _ ∧ _ ∧ _ from ⟨S3.out.1.below b4, S3.out.2.1.below b4 (fun x hx => S3.out.2.1.lt hx), S3.out.2.2, g2, (⟨hu1, hu2⟩ : m + 1 ≤ uc ∧ uc ≤ maxLen)⟩)
        clear g2 b4 S3 q0 hu1 hu2
        obtain ⟨L1, hL1⟩ : ∃ L1, L1 = txL (turnsL j k) p (leafS a.data.toList) ++ [leafT a] := ⟨_, rfl⟩
        obtain ⟨L2, hL2⟩ : ∃ L2, L2 = txL (turnsL j k) q (leafS b.data.toList) ++ [leafT b] := ⟨_, rfl⟩
        rw [← hL1, ← hL2] at S4 HF
        have hn1 : L1.length = m + 1 := by rw [hL1, List.length_append, txL_len _ _ _ (by rw [← HT.out.2.2.1]; exact HT.out.1), ← HT.out.2.2.1]; rfl
        have hn2 : L2.length = m + 1 := by rw [hL2, List.length_append, txL_len _ _ _ (by rw [← HT.out.2.2.1]; exact HT.out.2.1), ← HT.out.2.2.1]; rfl
        have PP : Hid (Calls Tryd.prog 36 #[.slice va (m + 1) vc, .slice ua (m + 1) uc] w4 (PairsPost w4 (m + 1) (fun r => L1.getD r ⟨#[]⟩) (fun r => L2.getD r ⟨#[]⟩))) := Lib.hid (by
          refine pairs_calls va ua vc uc (m + 1) _ _ w4 (by have := HT.out; omega) S4.out.2.2.1 S4.out.2.2.2.2 (fun r hr => ?_) (fun r hr => ?_)
          · obtain ⟨g, o, c', e, hg, _, _, hc⟩ := S4.out.2.1.cells (by omega)
            simp only [Value.slice.injEq] at e
            exact ⟨g, o, e.1, hg, hc r _ (by rw [List.getElem?_map, List.getElem?_eq_getElem (by omega)]; simp [List.getD_eq_getElem?_getD, List.getElem?_eq_getElem (show r < L1.length by omega)])⟩
          · obtain ⟨g, o, c', e, hg, _, _, hc⟩ := S4.out.2.2.2.1.cells (by omega)
            simp only [Value.slice.injEq] at e
            exact ⟨g, o, e.1, hg, hc r _ (by rw [List.getElem?_map, List.getElem?_eq_getElem (by omega)]; simp [List.getD_eq_getElem?_getD, List.getElem?_eq_getElem (show r < L2.length by omega)])⟩)
        have hz := pairsM_zip (fun r => L1.getD r ⟨#[]⟩) (fun r => L2.getD r ⟨#[]⟩) L1 L2 (m + 1) hn1 hn2 (fun r hr => by simp [List.getD_eq_getElem?_getD, List.getElem?_eq_getElem (show r < L1.length by omega)]) (fun r hr => by simp [List.getD_eq_getElem?_getD, List.getElem?_eq_getElem (show r < L2.length by omega)])
        have HZ := Lib.hid (show _ ∧ _ from ⟨hz, (show (L1.zip L2).length = m + 1 by rw [List.length_zip, hn1, hn2, Nat.min_self])⟩)
        clear hz hn1 hn2 hL1 hL2
        go_wp2_with fail
        refine PP.out.mono ?_
        rintro en w5 ⟨gp, rfl, h5, _, b5⟩
        have S5 : Hid (LvS w k root p q (.slice pa lp pc) (.slice qa lq qc) w5 ∧ Seg w5 40 2 (.slice (some ⟨gp, 0, none⟩) (m + 1) (m + 1)) (m + 1) (pairsC (L1.zip L2))) := Lib.hid ⟨S4.out.1.below b5, by
          rw [← HZ.out.1]
          exact Seg.of_has (n := m + 1) (size := 2) h5 (by rw [List.size_toArray]; exact pairsM_len _ _ (m + 1) (m + 1)) (by have := HT.out; unfold maxLen; omega)⟩
        clear h5 b5 S4 PP
        go_wp2_with fail
        refine (first_calls (.slice (some ⟨gp, 0, none⟩) (m + 1) (m + 1)) (L1.zip L2) w5 (by rw [HZ.out.2]; exact S5.out.2) (by rw [HZ.out.2]; have := HT.out; omega)).mono ?_
        rw [HF.out.1]
        rintro en w6 ⟨rfl, b6⟩
        have S6 := Lib.hid (S5.out.1.below b6)
        clear b6 S5
        go_wp2_with (first
          | ((with_reducible refine at_store (.tmp 12) ?_); refine wpList_store_cells (o := ⟨none, _, _, _, _, _⟩) rfl 40 (.tmp 12) (.tmp 60) rfl (w.heap.size + 1) #[.string x, .string y] #[.string ⟨#[]⟩, .string ⟨#[]⟩] rfl rfl _ S6.out.res (by kernel_rfl) rfl (by simp [Value.oneCell']) ?_; intro W9 HW9 TW9)
          | fail)
        exact bodyPost_ret (v := .tuple #[.agg #[.string x, .string y], .bool true]) (results_cell_tmp rfl _ _ (w.heap.size + 1) 40 _ _ _ rfl HW9 Tryd.underlying40 rfl (by kernel_rfl) _ rfl) rfl
          ⟨_, _, rfl, (fun _ => HF.out.2), (fun h => by cases h), S6.out.bel.trans (TW9.below S6.out.bel.size (fun j hj e => by omega))⟩
      · obtain rfl : ok = false := by rw [HOK.out]; simp [h0]
        clear h0 hns
        go_wp2_with (first
          | ((with_reducible refine at_store (.tmp 12) ?_); refine wpList_store_cells (o := ⟨none, _, _, _, _, _⟩) rfl 40 (.tmp 12) (.tmp 37) rfl (w.heap.size + 1) #[.string ⟨#[]⟩, .string ⟨#[]⟩] #[.string ⟨#[]⟩, .string ⟨#[]⟩] rfl rfl _ S2.out.res (by kernel_rfl) rfl (by simp [Value.oneCell']) ?_; intro W9 HW9 TW9)
          | fail)
        exact bodyPost_ret (v := .tuple #[.agg #[.string ⟨#[]⟩, .string ⟨#[]⟩], .bool false]) (results_cell_tmp rfl _ _ (w.heap.size + 1) 40 _ _ _ rfl HW9 Tryd.underlying40 rfl (by kernel_rfl) _ rfl) rfl
          ⟨_, _, rfl, (fun h => by cases h), (fun _ => ⟨rfl, rfl⟩), S2.out.bel.trans (TW9.below S2.out.bel.size (fun j hj e => by omega))⟩
    · obtain rfl : ok = false := by rw [HOK.out]; simp [h0]
      clear h0 hns
      go_wp2_with (first
        | ((with_reducible refine at_store (.tmp 12) ?_); refine wpList_store_cells (o := ⟨none, _, _, _, _, _⟩) rfl 40 (.tmp 12) (.tmp 37) rfl (w.heap.size + 1) #[.string ⟨#[]⟩, .string ⟨#[]⟩] #[.string ⟨#[]⟩, .string ⟨#[]⟩] rfl rfl _ S1.out.res (by kernel_rfl) rfl (by simp [Value.oneCell']) ?_; intro W9 HW9 TW9)
        | fail)
      exact bodyPost_ret (v := .tuple #[.agg #[.string ⟨#[]⟩, .string ⟨#[]⟩], .bool false]) (results_cell_tmp rfl _ _ (w.heap.size + 1) 40 _ _ _ rfl HW9 Tryd.underlying40 rfl (by kernel_rfl) _ rfl) rfl
        ⟨_, _, rfl, (fun h => by cases h), (fun _ => ⟨rfl, rfl⟩), S1.out.bel.trans (TW9.below S1.out.bel.size (fun j hj e => by omega))⟩
end Go.Proofs.YthbncejbcegmgaaDoor.clash
end

section
/- clash: Prefix. -/
namespace Go.Proofs.YthbncejbcegmgaaDoor.clash
open Go Go.RowKit Go.Proofs.YthbncejbcegmgaaDoor.dig Go.Proofs.YthbncejbcegmgaaDoor.prf

set_option maxRecDepth 100000 in
set_option maxHeartbeats 1000000 in
theorem over_none (a : Option Addr) (c : Nat) (w : World) (hR : Rk w) : Calls Tryd.prog 37 #[.slice a 0 c] w fun en w' => en = .returned (.agg (cellsOf (sum []))) ∧ Below w.heap.size w w' := by
  have HR := Lib.hid hR
  clear hR
  go_enter Tryd.func37, Tryd.ntmps37
  go_wp2_with fail
  refine callsName (fun W hW => ?_)
  have S1 : Hid (Below w.heap.size w W ∧ Has W w.heap.size 33 (cellsOf (List.replicate 32 0))) := by rw [← hW]; exact Lib.hid ⟨(Below.refl _ _).alloc (Nat.le_refl _) _, made_at _ _ rfl⟩
  clear hW
  refine (of_calls ⟨#[]⟩ W (HR.out.below S1.out.1) (by decide)).mono ?_
  rw [show (⟨#[]⟩ : ByteArray).data.toList = [] from rfl]
  have HL : Hid ((sum []).length = 32) := Lib.hid (sum_length _)
  obtain ⟨z, hz⟩ : ∃ z, z = sum [] := ⟨_, rfl⟩
  rw [← hz] at HL ⊢
  have HZ := Lib.hid hz
  clear hz
  rintro en w2 ⟨rfl, b2⟩
  have S2 : Hid (Below w.heap.size w w2 ∧ Has w2 w.heap.size 33 (cellsOf (List.replicate 32 0))) := Lib.hid ⟨S1.out.1.trans (b2.mono S1.out.1.size), S1.out.2.below b2 S1.out.2.lt⟩
  clear S1 b2
  go_wp2_with (first
    | ((with_reducible refine at_store (.tmp 2) ?_); refine wpList_store_arr (o := ⟨none, _, _, _, _, _⟩) rfl 33 _ _ rfl w.heap.size z (List.replicate 32 0) rfl rfl _ S2.out.2 32 (by kernel_rfl) (by simp) HL.out ?_; intro W6 HW6 TW6)
    | fail)
  exact bodyPost_ret (v := .agg (cellsOf z)) (results_cell_row rfl _ _ w.heap.size 33 _ _ _ rfl HW6 Tryd.underlying33 rfl (by rw [cellsOf_size, HL.out]; kernel_rfl)) rfl
    ⟨by rw [HZ.out], S2.out.1.trans (TW6.below S2.out.1.size (fun j hj e => by omega))⟩

/-- The root over the first k leaves. -/
theorem over_all (L : List ByteArray) (hsz : ∀ s ∈ L, s.size ≤ 1000000) (hLL : L.length ≤ 1000000) (g off k c : Nat) (hk : k ≤ L.length) (hkc : k ≤ c) (hc : c ≤ maxLen) (w : World) (hR : Rk w) (hg : g < w.heap.size)
    (hcell : ∀ i s, L[i]? = some s → w.cell? ⟨g, off + i, none⟩ = some (.string s)) :
    Calls Tryd.prog 37 #[.slice (some ⟨g, off, none⟩) k c] w fun en w' => en = .returned (.agg (cellsOf (rtAll (leafF L) k))) ∧ Below w.heap.size w w' := by
  by_cases h0 : k = 0
  · subst h0
    exact over_none _ c w hR
  · unfold rtAll
    rw [if_neg h0]
    exact over_calls L hsz hLL g off k (a := 0) (c := c) w (by omega) (by omega) hkc hc hR hg hcell

/-- What lasts in Prefix. -/
structure PfS (w : World) (m : Int) (claim : List UInt8) (n : Nat) (R : List UInt8) (gn g off : Nat) (L : List ByteArray) (sv : Value) (r : List (List UInt8)) (V : World) : Prop where
  rk : Rk V
  box : Has V w.heap.size 33 (cellsOf claim)
  res : Has V (w.heap.size + 1) 40 #[.string ⟨#[]⟩, .string ⟨#[]⟩]
  old : Has V (w.heap.size + 1 + 1) 38 (headC m claim)
  now : Has V gn 38 (headC n R)
  ss : SmS V sv r
  lt : g < w.heap.size
  cells : ∀ i s, L[i]? = some s → V.cell? ⟨g, off + i, none⟩ = some (.string s)
  bel : Below w.heap.size w V
theorem PfS.below {w : World} {m : Int} {claim : List UInt8} {n : Nat} {R : List UInt8} {gn g off : Nat} {L : List ByteArray} {sv : Value} {r : List (List UInt8)} {V V' : World} (h : PfS w m claim n R gn g off L sv r V) (b : Below V.heap.size V V') : PfS w m claim n R gn g off L sv r V' :=
  ⟨h.rk.below b, h.box.below b h.box.lt, h.res.below b h.res.lt, h.old.below b h.old.lt, h.now.below b h.now.lt, h.ss.below b, h.lt, fun i s hs => by rw [← h.cells i s hs]; unfold World.cell?; rw [b.block g (Nat.lt_of_lt_of_le h.lt h.bel.size)], h.bel.trans (b.mono h.bel.size)⟩

/-- Do sums prove a head that isn't so? -/
def liesB (m : Int) (claim : List UInt8) (L : List ByteArray) (r : List (List UInt8)) : Bool := (consE m claim L.length (rtAll (leafF L) L.length) r == 0) && decide (claim ≠ rtAll (leafF L) m.toNat)

theorem prefix_first {L : List ByteArray} {m n : Nat} (hn : n = L.length) {claim : List UInt8} (hc : claim.length = 32) {r : List (List UInt8)} (hr : ∀ x ∈ r, x.length = 32) (hE : consE m claim n (rtAll (leafF L) n) r = 0) (hne : claim ≠ rtAll (leafF L) m) :
    0 < m ∧ m ≤ n ∧ ∃ told SL2, told.length = 32 ∧ SL2.length = (turnsP (m - 1) n).length ∧ ((allL (turnsP (m - 1) n) = true ∧ r.reverse = SL2 ∧ told = claim) ∨ (allL (turnsP (m - 1) n) = false ∧ r.reverse = told :: SL2)) ∧
      ∃ x y, firstU ((txL (turnsP (m - 1) n) (besideX (leafF L) (turnsP (m - 1) n) 0 n) (endX (leafF L) (turnsP (m - 1) n) 0 n)).zip (txL (turnsP (m - 1) n) SL2.reverse told)) = ((x, y), true) ∧ clashB x y = true ∧ x.size < 1000000000 ∧ y.size < 1000000000 := by
  have hx : ¬ ((m : Int) < 0 ∨ (n : Int) < (m : Int)) := by
    intro h
    unfold consE at hE
    rw [if_pos h] at hE
    cases hE
  have hE' := hE
  unfold consE at hE'
  rw [if_neg hx] at hE'
  have he : elderB m claim n (rtAll (leafF L) n) r = true := by
    rw [Int.toNat_natCast, Int.toNat_natCast] at hE'
    by_cases h : elderB m claim n (rtAll (leafF L) n) r = true
    · exact h
    · rw [if_neg h] at hE'; cases hE'
  obtain ⟨h0, h1, r', s, l1, l2, l3, l4, l5, p, x, y, e1, e2, e3, e4, e5⟩ := sure_prefix (f := leafF L) (leafF_len L) hc hr (by omega) he hne
  have hb := beside_all (leafF L) (leafF_len L) n (m - 1) 0 (by omega)
  refine ⟨h0, by omega, s, r'.reverse, l4, by rw [List.length_reverse]; exact l1.symm, ?_, ⟨x.toArray⟩, ⟨y.toArray⟩, ?_, clashB_of e3 e4, ?_, ?_⟩
  · by_cases ha : allL (turnsP (m - 1) n) = true
    · rw [if_pos ha] at l2
      exact .inl ⟨ha, by rw [l2], l3 ha⟩
    · rw [if_neg ha] at l2
      exact .inr ⟨by simpa using ha, by rw [l2]; simp⟩
  · rw [List.reverse_reverse]
    refine firstU_zip (k := p) (by rw [txL, List.getElem?_map, e1]; rfl) (by rw [txL, List.getElem?_map, e2]; rfl) (bs_ne e3) (fun j hj => by rw [txL, txL, List.getElem?_map, List.getElem?_map, e5 j hj])
  · have := texX_size _ _ _ hb.2 hb.1 x (List.mem_of_getElem? e1)
    simp [ByteArray.size, this]
  · have := texX_size _ _ _ l4 l5 y (List.mem_of_getElem? e2)
    simp [ByteArray.size, this]

set_option maxRecDepth 100000 in
set_option maxHeartbeats 4000000 in
theorem cprefix_calls (m : Int) (claim : List UInt8) (hc : claim.length = 32) (L : List ByteArray) (hsz : ∀ s ∈ L, s.size ≤ 1000000) (hLL : L.length ≤ 1000000) (g off c : Nat) (hnc : L.length ≤ c) (hcm : c ≤ maxLen) (sv : Value) (r : List (List UInt8)) (w : World) (hR : Rk w) (hg : g < w.heap.size)
    (hcell : ∀ i s, L[i]? = some s → w.cell? ⟨g, off + i, none⟩ = some (.string s)) (hs : SmS w sv r) :
    Calls Tryd.prog 14 #[.int .i64 m, .agg (cellsOf claim), .slice (some ⟨g, off, none⟩) L.length c, sv] w (PairPost w (liesB m claim L r)) := by
  obtain ⟨ok, hok⟩ : ∃ ok, ok = liesB m claim L r := ⟨_, rfl⟩
  rw [← hok]
  unfold liesB at hok
  obtain ⟨R, hRR⟩ : ∃ R, R = rtAll (leafF L) L.length := ⟨_, rfl⟩
  have hRL : R.length = 32 := by rw [hRR]; exact rtAll_len (leafF_len L) _
  obtain ⟨n, hn⟩ : ∃ n, n = L.length := ⟨_, rfl⟩
  obtain ⟨sa, sc, rfl, hsc, _⟩ := hs.slice
  obtain ⟨k, hk⟩ : ∃ k, k = r.length := ⟨_, rfl⟩
  obtain ⟨E, hE⟩ : ∃ E, E = consE m claim n R r := ⟨_, rfl⟩
  rw [← hRR, ← hn, ← hE] at hok
  have HO : Hid (∀ (j : Nat) V, j ≤ n → Rk V → g < V.heap.size → (∀ i s, L[i]? = some s → V.cell? ⟨g, off + i, none⟩ = some (.string s)) → Calls Tryd.prog 37 #[.slice (some ⟨g, off, none⟩) j c] V fun en w' => en = .returned (.agg (cellsOf (rtAll (leafF L) j))) ∧ Below V.heap.size V w') := Lib.hid fun j V h1 h2 h3 h4 =>
    over_all L hsz hLL g off j c (by omega) (by omega) hcm V h2 h3 h4
  have hcn : (n : Int) ≤ (c : Int) ∧ (c : Int) ≤ 9223372036854775807 := by unfold maxLen at hcm; omega
  have HQ := Lib.hid (show _ ∧ _ ∧ _ ∧ _ ∧ _ ∧ _ from ⟨hsz, hLL, hnc, hcm, hn, hRR⟩)
  have HC := Lib.hid hc
  have HCC : Hid ((cellsOf claim).size = 32) := Lib.hid (by rw [cellsOf_size, hc])
  have HRL := Lib.hid hRL
  have HS := Lib.hid (show _ ∧ _ ∧ _ ∧ _ from ⟨hR, hg, hcell, hs⟩)
  have HOK := Lib.hid hok
  have HE := Lib.hid hE
  have HK := Lib.hid hk
  have I1 : Hid (∀ gn V, PfS w m claim n R gn g off L (.slice sa k sc) r V → Calls Tryd.prog 20 #[.agg (headC m claim), .agg (headC n R), .slice sa k sc] V fun en w' => ∃ e, en = .returned e ∧ ((E = 0 ∧ e = .nilIface) ∨ (E ≠ 0 ∧ ∃ b, e = .iface 114 (.pointer (some ⟨b, 0, none⟩)))) ∧ PfS w m claim n R gn g off L (.slice sa k sc) r w') := Lib.hid fun gn V hV => by
    have h := cons_calls hc hRL m n (by omega) r sa sc V hV.rk (by rw [← hk]; exact hV.ss.weak)
    rw [← hk, ← hE] at h
    refine h.mono ?_
    rintro en w' ⟨e, rfl, he, bb⟩
    refine ⟨e, rfl, ?_, hV.below bb⟩
    rcases he with h | ⟨h, b, rfl, _⟩
    · exact .inl h
    · exact .inr ⟨h, b, rfl⟩
  rw [← hn, ← hk]
  rw [← hk] at HS
  clear hsz hLL hnc hcm hR hg hcell hs hc hRL hok hn hk hE hRR hsc
  go_enter Tryd.func14, Tryd.ntmps14
  go_wp2_with (first
    | ((with_reducible refine at_op 15 ?_); refine wpList_load_row (o := ⟨some 15, _, _, _, _, _⟩) rfl 33 _ rfl w.heap.size rfl 33 (cellsOf claim) (0, 0) _ ((made_at _ _ rfl).alloc _) Tryd.underlying33 rfl (by rw [HCC.out]; kernel_rfl) ?_)
    | ((with_reducible refine at_op 16 ?_); refine wpList_head (o := ⟨some 16, _, _, _, _, _⟩) rfl (.tmp 14) (.tmp 15) rfl m claim rfl rfl HC.out ?_)
    | ((with_reducible refine at_store (.tmp 10) ?_); refine wpList_store_head (o := ⟨none, _, _, _, _, _⟩) rfl (.tmp 10) (.tmp 16) rfl (w.heap.size + 1 + 1) m 0 claim (List.replicate 32 0) rfl rfl (made_at _ _ (by simp)) HC.out (by simp) ?_; intro W1 HW1 TW1;
       (have S1 : Hid (Below w.heap.size w W1 ∧ Has W1 w.heap.size 33 (cellsOf claim) ∧ Has W1 (w.heap.size + 1) 40 #[.string ⟨#[]⟩, .string ⟨#[]⟩] ∧ Has W1 (w.heap.size + 1 + 1) 38 (headC m claim)) := (by
         exact Lib.hid ⟨((((Below.refl _ _).alloc (Nat.le_refl _) _).alloc (by simp) _).alloc (by simp; omega) _).trans (TW1.below (by simp; omega) (fun j hj e => by omega)), (((made_at _ _ rfl).alloc _).alloc _).turn TW1 (by omega), ((made_at _ _ (by simp)).alloc _).turn TW1 (by omega), HW1⟩));
       clear HW1 TW1)
    | fail)
  refine (HO.out n W1 (Nat.le_refl _) (HS.out.1.below S1.out.1) (Nat.lt_of_lt_of_le HS.out.2.1 S1.out.1.size) (fun i s hs => by rw [← HS.out.2.2.1 i s hs]; unfold World.cell?; rw [S1.out.1.block g HS.out.2.1])).mono ?_
  rw [HQ.out.2.2.2.2.1, ← HQ.out.2.2.2.2.2, ← HQ.out.2.2.2.2.1]
  rintro en w2 ⟨rfl, b2⟩
  have S2 : Hid (Below w.heap.size w w2 ∧ Has w2 w.heap.size 33 (cellsOf claim) ∧ Has w2 (w.heap.size + 1) 40 #[.string ⟨#[]⟩, .string ⟨#[]⟩] ∧ Has w2 (w.heap.size + 1 + 1) 38 (headC m claim)) := Lib.hid ⟨S1.out.1.trans (b2.mono S1.out.1.size), S1.out.2.1.below b2 S1.out.2.1.lt, S1.out.2.2.1.below b2 S1.out.2.2.1.lt, S1.out.2.2.2.below b2 S1.out.2.2.2.lt⟩
  clear b2 S1
  go_wp2_with (first
    | ((with_reducible refine at_op 21 ?_); refine wpList_head (o := ⟨some 21, _, _, _, _, _⟩) rfl (.tmp 18) (.tmp 20) rfl n R rfl rfl HRL.out ?_)
    | ((with_reducible refine at_store (.tmp 11) ?_); refine wpList_store_head (o := ⟨none, _, _, _, _, _⟩) rfl (.tmp 11) (.tmp 21) rfl w2.heap.size n 0 R (List.replicate 32 0) rfl rfl (made_at _ _ rfl) HRL.out (by simp) ?_; intro W3 HW3 TW3;
       (have S3 : Hid (PfS w m claim n R w2.heap.size g off L (.slice sa k sc) r W3) := (by
         have bb : Below w2.heap.size w2 W3 := ((Below.refl _ _).alloc (Nat.le_refl _) _).trans (TW3.below (by simp) (fun j hj e => by omega))
         have b3 := S2.out.1.trans (bb.mono S2.out.1.size)
         exact Lib.hid ⟨HS.out.1.below b3, S2.out.2.1.below bb S2.out.2.1.lt, S2.out.2.2.1.below bb S2.out.2.2.1.lt, S2.out.2.2.2.below bb S2.out.2.2.2.lt, HW3, HS.out.2.2.2.below b3, HS.out.2.1, (fun i s hs => by rw [← HS.out.2.2.1 i s hs]; unfold World.cell?; rw [b3.block g HS.out.2.1]), b3⟩));
       clear HW3 TW3 S2)
    | fail)
  obtain ⟨gn, hgn⟩ : ∃ gn, gn = w2.heap.size := ⟨_, rfl⟩
  rw [← hgn] at S3 ⊢
  clear hgn
  by_cases h0 : E = 0
  · subst h0
    obtain ⟨j, rfl, hjn⟩ : ∃ j : Nat, m = j ∧ j ≤ n := by
      have h := HE.out
      unfold consE at h
      by_cases hx : m < 0 ∨ (n : Int) < m
      · rw [if_pos hx] at h; cases h
      · exact ⟨m.toNat, by omega, by omega⟩
    have HJ := Lib.hid hjn
    have j0 : (0 : Int) ≤ (j : Int) := by omega
    have j1 : (j : Int) ≤ (n : Int) := by omega
    have j2 : (j : Int) ≤ (c : Int) := by omega
    clear hjn
    by_cases hq : claim = rtAll (leafF L) j
    · obtain rfl : ok = false := by rw [HOK.out]; simp [← hq]
      have HO2 : Hid (∀ V, PfS w j claim n R gn g off L (.slice sa k sc) r V → Calls Tryd.prog 37 #[.slice (some ⟨g, off, none⟩) j c] V fun en w' => en = .returned (.agg (cellsOf claim)) ∧ Below V.heap.size V w') := Lib.hid fun V hV => by
        rw [hq]
        exact HO.out j _ HJ.out hV.rk (Nat.lt_of_lt_of_le hV.lt hV.bel.size) hV.cells
      clear hq
      refine Go.wp_region_held (S := PfS w j claim n R gn g off L (.slice sa k sc) r) (by kernel_rfl) ?_
      have S4 := S3.out.below (Below.refl _ _).drew
      clear S3
      refine held_take 0 (some 22) (v := .agg (headC j claim)) rfl rfl (by kernel_rfl) (by kernel_rfl) (by kernel_rfl) (fun _ _ _ h => h) (.inl ⟨by kernel_rfl, fun V hV => by exact exec_load 38 (.tmp 10) rfl (.pointer (some ⟨w.heap.size + 1 + 1, 0, none⟩)) (by kernel_rfl) (prf.Has.load_hd hV.old HC.out)⟩) S4 ?_
      simp only [Act.put, List.setIfInBounds_toArray, List.set_cons_zero, List.set_cons_succ]
      refine held_take 1 (some 23) (v := .agg (headC n R)) rfl rfl (by kernel_rfl) (by kernel_rfl) (by kernel_rfl) (fun _ _ _ h => h) (.inl ⟨by kernel_rfl, fun V hV => by exact exec_load 38 (.tmp 11) rfl (.pointer (some ⟨gn, 0, none⟩)) (by kernel_rfl) (prf.Has.load_hd hV.now HRL.out)⟩) S4 ?_
      simp only [Act.put, List.setIfInBounds_toArray, List.set_cons_zero, List.set_cons_succ]
      refine held_take 2 (some 24) (v := .slice sa k sc) rfl rfl (by kernel_rfl) (by kernel_rfl) (by kernel_rfl) (fun _ _ _ h => h) (.inl ⟨by kernel_rfl, fun V hV => by rfl⟩) S4 ?_
      simp only [Act.put, List.setIfInBounds_toArray, List.set_cons_zero, List.set_cons_succ]
      refine held_one (i := 3) (by kernel_rfl) ?_
      refine wpOp_call (some 25) rfl rfl (by kernel_rfl) 20 Tryd.f20 Tryd.func20 (by kernel_rfl) (by kernel_rfl) _ _ rfl #[.agg (headC j claim), .agg (headC n R), .slice sa k sc] (by first | (simp [Act.eval]; done) | (simp [Act.eval, Act.put]; done)) (I1.out _ _ S4) ?_
      rintro en w5 ⟨e, rfl, he, S5⟩
      obtain rfl : e = .nilIface := by
        rcases he with ⟨_, h⟩ | ⟨h, _⟩
        · exact h
        · exact absurd rfl h
      clear he
      refine ⟨.nilIface, rfl, S5, ?_⟩
      simp only [Act.put, List.setIfInBounds_toArray, List.set_cons_zero, List.set_cons_succ]
      refine held_take 4 (some 26) (v := .bool false) rfl rfl (by kernel_rfl) (by kernel_rfl) (by kernel_rfl) (fun _ _ _ h => h) (.inl ⟨by kernel_rfl, fun V hV => by go_simp⟩) S5 ?_
      simp only [Act.put, List.setIfInBounds_toArray, List.set_cons_zero, List.set_cons_succ]
      refine held_take 5 (some 27) (v := .bool false) rfl rfl (by kernel_rfl) (by kernel_rfl) (by kernel_rfl) (fun _ _ _ h => h) (.inl ⟨by kernel_rfl, fun V hV => by rfl⟩) S5 ?_
      simp only [Act.put, List.setIfInBounds_toArray, List.set_cons_zero, List.set_cons_succ]
      refine held_take 6 (some 28) (v := .agg (cellsOf claim)) rfl rfl (by kernel_rfl) (by kernel_rfl) (by kernel_rfl) (fun _ _ _ h => h) (.inl ⟨by kernel_rfl, fun V hV => by exact exec_load 33 (.tmp 5) rfl (.pointer (some ⟨w.heap.size, 0, none⟩)) (by kernel_rfl) (run_loadAt_mid V w.heap.size 0 33 (claim.map byteV) _ (Has.range hV.box) Tryd.underlying33 rfl (by rw [List.length_map, HC.out]; kernel_rfl))⟩) S5 ?_
      simp only [Act.put, List.setIfInBounds_toArray, List.set_cons_zero, List.set_cons_succ]
      refine held_take 7 (some 29) (v := .slice (some ⟨g, off, none⟩) n c) rfl rfl (by kernel_rfl) (by kernel_rfl) (by kernel_rfl) (fun _ _ _ h => h) (.inl ⟨by kernel_rfl, fun V hV => by rfl⟩) S5 ?_
      simp only [Act.put, List.setIfInBounds_toArray, List.set_cons_zero, List.set_cons_succ]
      refine held_take 8 (some 30) (v := .int .i64 j) rfl rfl (by kernel_rfl) (by kernel_rfl) (by kernel_rfl) (fun _ _ _ h => h) (.inl ⟨by kernel_rfl, fun V hV => by rfl⟩) S5 ?_
      simp only [Act.put, List.setIfInBounds_toArray, List.set_cons_zero, List.set_cons_succ]
      refine held_take 9 (some 31) (v := .slice (some ⟨g, off, none⟩) j c) rfl rfl (by kernel_rfl) (by kernel_rfl) (by kernel_rfl) (fun _ _ _ h => h) (.inl ⟨by kernel_rfl, fun V hV => by go_simp⟩) S5 ?_
      simp only [Act.put, List.setIfInBounds_toArray, List.set_cons_zero, List.set_cons_succ]
      refine held_one (i := 10) (by kernel_rfl) ?_
      refine wpOp_call (some 32) rfl rfl (by kernel_rfl) 37 Tryd.f37 Tryd.func37 (by kernel_rfl) (by kernel_rfl) _ _ rfl #[.slice (some ⟨g, off, none⟩) j c] (by first | (simp [Act.eval]; done) | (simp [Act.eval, Act.put]; done)) (HO2.out _ S5) ?_
      rintro en w6 ⟨rfl, b6⟩
      have S6 := S5.below b6
      refine ⟨.agg (cellsOf claim), rfl, S6, ?_⟩
      simp only [Act.put, List.setIfInBounds_toArray, List.set_cons_zero, List.set_cons_succ]
      refine held_take 11 (some 33) (v := .bool true) rfl rfl (by kernel_rfl) (by kernel_rfl) (by kernel_rfl) (fun _ _ _ h => h) (.inl ⟨by kernel_rfl, fun V hV => by have he := run_equal_sum' claim claim HC.out HC.out V; simp only [beq_self_eq_true] at he; go_simp⟩) S6 ?_
      simp only [Act.put, List.setIfInBounds_toArray, List.set_cons_zero, List.set_cons_succ]
      refine held_take 12 (some 34) (v := .bool true) rfl rfl (by kernel_rfl) (by kernel_rfl) (by kernel_rfl) (fun _ _ _ h => h) (.inl ⟨by kernel_rfl, fun V hV => by rfl⟩) S6 ?_
      simp only [Act.put, List.setIfInBounds_toArray, List.set_cons_zero, List.set_cons_succ]
      refine wpAnyH_done (by kernel_rfl) ?_ _
      have SF := Lib.hid S6
      clear S4 S5 S6 b6
      go_wp2_with (first
        | ((with_reducible refine at_store (.tmp 8) ?_); refine wpList_store_cells (o := ⟨none, _, _, _, _, _⟩) rfl 40 (.tmp 8) (.tmp 35) rfl (w.heap.size + 1) #[.string ⟨#[]⟩, .string ⟨#[]⟩] #[.string ⟨#[]⟩, .string ⟨#[]⟩] rfl rfl _ SF.out.res (by kernel_rfl) rfl (by simp [Value.oneCell']) ?_; intro W9 HW9 TW9)
        | fail)
      exact bodyPost_ret (v := .tuple #[.agg #[.string ⟨#[]⟩, .string ⟨#[]⟩], .bool false]) (results_cell_tmp rfl _ _ (w.heap.size + 1) 40 _ _ _ rfl HW9 Tryd.underlying40 rfl (by kernel_rfl) _ rfl) rfl
        ⟨_, _, rfl, (fun h => by cases h), (fun _ => ⟨rfl, rfl⟩), SF.out.bel.trans (TW9.below SF.out.bel.size (fun j hj e => by omega))⟩
    · obtain ⟨Q, hQ⟩ : ∃ Q, Q = rtAll (leafF L) j := ⟨_, rfl⟩
      have HQL : Hid (Q.length = 32) := Lib.hid (by rw [hQ]; exact rtAll_len (leafF_len L) _)
      have HNE : Hid ((claim == Q) = false) := Lib.hid (by rw [hQ]; simpa using hq)
      obtain rfl : ok = true := by rw [HOK.out]; simp [hq]
      have HO2 : Hid (∀ V, PfS w j claim n R gn g off L (.slice sa k sc) r V → Calls Tryd.prog 37 #[.slice (some ⟨g, off, none⟩) j c] V fun en w' => en = .returned (.agg (cellsOf Q)) ∧ Below V.heap.size V w') := Lib.hid fun V hV => by
        rw [hQ]
        exact HO.out j _ HJ.out hV.rk (Nat.lt_of_lt_of_le hV.lt hV.bel.size) hV.cells
      have hE0 : consE j claim n (rtAll (leafF L) n) r = 0 := by
        rw [HQ.out.2.2.2.2.1, ← HQ.out.2.2.2.2.2, ← HQ.out.2.2.2.2.1]
        exact HE.out.symm
      obtain ⟨f0, f1, told, SL2, f2, f3, f4, x, y, f5, f6, f7, f8⟩ := prefix_first HQ.out.2.2.2.2.1 HC.out HS.out.2.2.2.2 hE0 hq
      have HSD : Hid (∀ V, PfS w j claim n R gn g off L (.slice sa k sc) r V → Calls Tryd.prog 23 #[.int .i64 j, .agg (cellsOf claim), .slice (some ⟨g, off, none⟩) n c, .slice sa k sc] V (SidesPost V ((txL (turnsP (j - 1) n) (besideX (leafF L) (turnsP (j - 1) n) 0 n) (endX (leafF L) (turnsP (j - 1) n) 0 n)).zip (txL (turnsP (j - 1) n) SL2.reverse told)))) := Lib.hid fun V hV => by
        have h := sides_calls L HQ.out.1 HQ.out.2.1 g off c j f0 (by rw [← HQ.out.2.2.2.2.1]; exact f1) HQ.out.2.2.1 HQ.out.2.2.2.1 claim HC.out (.slice sa k sc) r.reverse (fun x hx => HS.out.2.2.2.2 x (List.mem_reverse.1 hx)) told SL2 (by rw [← HQ.out.2.2.2.2.1]; exact f3) (by rw [← HQ.out.2.2.2.2.1]; exact f4) V hV.rk (Nat.lt_of_lt_of_le hV.lt hV.bel.size) hV.cells (by rw [List.length_reverse]; exact hV.ss.1)
        rw [← HQ.out.2.2.2.2.1] at h
        exact h
      obtain ⟨PL, hPL⟩ : ∃ PL, PL = (txL (turnsP (j - 1) n) (besideX (leafF L) (turnsP (j - 1) n) 0 n) (endX (leafF L) (turnsP (j - 1) n) 0 n)).zip (txL (turnsP (j - 1) n) SL2.reverse told) := ⟨_, rfl⟩
      have hpl : PL.length ≤ 1000 := by
        rw [hPL, List.length_zip]
        have h1 := txL_len (turnsP (j - 1) n) (besideX (leafF L) (turnsP (j - 1) n) 0 n) (endX (leafF L) (turnsP (j - 1) n) 0 n) (besideX_len _ _ _ _).symm
        have h2 := turnsP_le 20 n (j - 1) (by have := HQ.out.2.1; have := HQ.out.2.2.2.2.1; omega)
        omega
      rw [← hPL] at HSD f5
      have HF := Lib.hid (show _ ∧ _ ∧ _ ∧ _ ∧ _ from ⟨f5, f6, f7, f8, hpl⟩)
      clear hq hQ hE0 f0 f1 f2 f3 f4 f5 f6 f7 f8 hPL hpl
      refine Go.wp_region_held (S := PfS w j claim n R gn g off L (.slice sa k sc) r) (by kernel_rfl) ?_
      have S4 := S3.out.below (Below.refl _ _).drew
      clear S3
      refine held_take 0 (some 22) (v := .agg (headC j claim)) rfl rfl (by kernel_rfl) (by kernel_rfl) (by kernel_rfl) (fun _ _ _ h => h) (.inl ⟨by kernel_rfl, fun V hV => by exact exec_load 38 (.tmp 10) rfl (.pointer (some ⟨w.heap.size + 1 + 1, 0, none⟩)) (by kernel_rfl) (prf.Has.load_hd hV.old HC.out)⟩) S4 ?_
      simp only [Act.put, List.setIfInBounds_toArray, List.set_cons_zero, List.set_cons_succ]
      refine held_take 1 (some 23) (v := .agg (headC n R)) rfl rfl (by kernel_rfl) (by kernel_rfl) (by kernel_rfl) (fun _ _ _ h => h) (.inl ⟨by kernel_rfl, fun V hV => by exact exec_load 38 (.tmp 11) rfl (.pointer (some ⟨gn, 0, none⟩)) (by kernel_rfl) (prf.Has.load_hd hV.now HRL.out)⟩) S4 ?_
      simp only [Act.put, List.setIfInBounds_toArray, List.set_cons_zero, List.set_cons_succ]
      refine held_take 2 (some 24) (v := .slice sa k sc) rfl rfl (by kernel_rfl) (by kernel_rfl) (by kernel_rfl) (fun _ _ _ h => h) (.inl ⟨by kernel_rfl, fun V hV => by rfl⟩) S4 ?_
      simp only [Act.put, List.setIfInBounds_toArray, List.set_cons_zero, List.set_cons_succ]
      refine held_one (i := 3) (by kernel_rfl) ?_
      refine wpOp_call (some 25) rfl rfl (by kernel_rfl) 20 Tryd.f20 Tryd.func20 (by kernel_rfl) (by kernel_rfl) _ _ rfl #[.agg (headC j claim), .agg (headC n R), .slice sa k sc] (by first | (simp [Act.eval]; done) | (simp [Act.eval, Act.put]; done)) (I1.out _ _ S4) ?_
      rintro en w5 ⟨e, rfl, he, S5⟩
      obtain rfl : e = .nilIface := by
        rcases he with ⟨_, h⟩ | ⟨h, _⟩
        · exact h
        · exact absurd rfl h
      clear he
      refine ⟨.nilIface, rfl, S5, ?_⟩
      simp only [Act.put, List.setIfInBounds_toArray, List.set_cons_zero, List.set_cons_succ]
      refine held_take 4 (some 26) (v := .bool false) rfl rfl (by kernel_rfl) (by kernel_rfl) (by kernel_rfl) (fun _ _ _ h => h) (.inl ⟨by kernel_rfl, fun V hV => by go_simp⟩) S5 ?_
      simp only [Act.put, List.setIfInBounds_toArray, List.set_cons_zero, List.set_cons_succ]
      refine held_take 5 (some 27) (v := .bool false) rfl rfl (by kernel_rfl) (by kernel_rfl) (by kernel_rfl) (fun _ _ _ h => h) (.inl ⟨by kernel_rfl, fun V hV => by rfl⟩) S5 ?_
      simp only [Act.put, List.setIfInBounds_toArray, List.set_cons_zero, List.set_cons_succ]
      refine held_take 6 (some 28) (v := .agg (cellsOf claim)) rfl rfl (by kernel_rfl) (by kernel_rfl) (by kernel_rfl) (fun _ _ _ h => h) (.inl ⟨by kernel_rfl, fun V hV => by exact exec_load 33 (.tmp 5) rfl (.pointer (some ⟨w.heap.size, 0, none⟩)) (by kernel_rfl) (run_loadAt_mid V w.heap.size 0 33 (claim.map byteV) _ (Has.range hV.box) Tryd.underlying33 rfl (by rw [List.length_map, HC.out]; kernel_rfl))⟩) S5 ?_
      simp only [Act.put, List.setIfInBounds_toArray, List.set_cons_zero, List.set_cons_succ]
      refine held_take 7 (some 29) (v := .slice (some ⟨g, off, none⟩) n c) rfl rfl (by kernel_rfl) (by kernel_rfl) (by kernel_rfl) (fun _ _ _ h => h) (.inl ⟨by kernel_rfl, fun V hV => by rfl⟩) S5 ?_
      simp only [Act.put, List.setIfInBounds_toArray, List.set_cons_zero, List.set_cons_succ]
      refine held_take 8 (some 30) (v := .int .i64 j) rfl rfl (by kernel_rfl) (by kernel_rfl) (by kernel_rfl) (fun _ _ _ h => h) (.inl ⟨by kernel_rfl, fun V hV => by rfl⟩) S5 ?_
      simp only [Act.put, List.setIfInBounds_toArray, List.set_cons_zero, List.set_cons_succ]
      refine held_take 9 (some 31) (v := .slice (some ⟨g, off, none⟩) j c) rfl rfl (by kernel_rfl) (by kernel_rfl) (by kernel_rfl) (fun _ _ _ h => h) (.inl ⟨by kernel_rfl, fun V hV => by go_simp⟩) S5 ?_
      simp only [Act.put, List.setIfInBounds_toArray, List.set_cons_zero, List.set_cons_succ]
      refine held_one (i := 10) (by kernel_rfl) ?_
      refine wpOp_call (some 32) rfl rfl (by kernel_rfl) 37 Tryd.f37 Tryd.func37 (by kernel_rfl) (by kernel_rfl) _ _ rfl #[.slice (some ⟨g, off, none⟩) j c] (by first | (simp [Act.eval]; done) | (simp [Act.eval, Act.put]; done)) (HO2.out _ S5) ?_
      rintro en w6 ⟨rfl, b6⟩
      have S6 := S5.below b6
      refine ⟨.agg (cellsOf Q), rfl, S6, ?_⟩
      simp only [Act.put, List.setIfInBounds_toArray, List.set_cons_zero, List.set_cons_succ]
      refine held_take 11 (some 33) (v := .bool false) rfl rfl (by kernel_rfl) (by kernel_rfl) (by kernel_rfl) (fun _ _ _ h => h) (.inl ⟨by kernel_rfl, fun V hV => by have he := run_equal_sum' claim Q HC.out HQL.out V; rw [HNE.out] at he; go_simp⟩) S6 ?_
      simp only [Act.put, List.setIfInBounds_toArray, List.set_cons_zero, List.set_cons_succ]
      refine held_take 12 (some 34) (v := .bool false) rfl rfl (by kernel_rfl) (by kernel_rfl) (by kernel_rfl) (fun _ _ _ h => h) (.inl ⟨by kernel_rfl, fun V hV => by rfl⟩) S6 ?_
      simp only [Act.put, List.setIfInBounds_toArray, List.set_cons_zero, List.set_cons_succ]
      refine wpAnyH_done (by kernel_rfl) ?_ _
      have SF := Lib.hid S6
      clear S4 S5 S6 b6
      have k0 : (Instr.loadAt 33 (.pointer (some ⟨w.heap.size, 0, none⟩))).run Tryd.prog w6 = .ok (.agg (cellsOf claim)) w6 := run_loadAt_mid w6 w.heap.size 0 33 (claim.map byteV) _ (Has.range SF.out.box) Tryd.underlying33 rfl (by rw [List.length_map, HC.out]; kernel_rfl)
      go_wp2_with (first
        | ((with_reducible refine at_op 38 ?_); refine wpList_load_row (o := ⟨some 38, _, _, _, _, _⟩) rfl 33 _ rfl w.heap.size rfl 33 (cellsOf claim) (0, 0) _ SF.out.box Tryd.underlying33 rfl (by rw [HCC.out]; kernel_rfl) ?_)
        | fail)
      refine (HSD.out _ SF.out).mono ?_
      rintro en w7 ⟨gq, rfl, h7, b7⟩
      obtain ⟨lq, hlq⟩ : ∃ lq, lq = PL.length := ⟨_, rfl⟩
      have HLQ := Lib.hid hlq
      rw [← hlq] at h7 ⊢
      have S7 : Hid (PfS w j claim n R gn g off L (.slice sa k sc) r w7 ∧ Seg w7 40 2 (.slice (some ⟨gq, 0, none⟩) lq lq) lq (pairsC PL)) := Lib.hid ⟨SF.out.below b7, h7⟩
      clear hlq h7 b7 SF k0 HSD
      go_wp2_with fail
      refine (first_calls (.slice (some ⟨gq, 0, none⟩) lq lq) PL w7 (by rw [← HLQ.out]; exact S7.out.2) HF.out.2.2.2.2).mono ?_
      rw [HF.out.1]
      rintro en w8 ⟨rfl, b8⟩
      have S8 := Lib.hid (S7.out.1.below b8)
      clear b8 S7
      go_wp2_with (first
        | ((with_reducible refine at_store (.tmp 8) ?_); refine wpList_store_cells (o := ⟨none, _, _, _, _, _⟩) rfl 40 (.tmp 8) (.tmp 46) rfl (w.heap.size + 1) #[.string x, .string y] #[.string ⟨#[]⟩, .string ⟨#[]⟩] rfl rfl _ S8.out.res (by kernel_rfl) rfl (by simp [Value.oneCell']) ?_; intro W9 HW9 TW9)
        | fail)
      exact bodyPost_ret (v := .tuple #[.agg #[.string x, .string y], .bool true]) (results_cell_tmp rfl _ _ (w.heap.size + 1) 40 _ _ _ rfl HW9 Tryd.underlying40 rfl (by kernel_rfl) _ rfl) rfl
        ⟨_, _, rfl, (fun _ => ⟨HF.out.2.1, HF.out.2.2.1, HF.out.2.2.2.1⟩), (fun h => by cases h), S8.out.bel.trans (TW9.below S8.out.bel.size (fun j hj e => by omega))⟩
  · obtain rfl : ok = false := by rw [HOK.out]; simp [h0]
    refine Go.wp_region_held (S := PfS w m claim n R gn g off L (.slice sa k sc) r) (by kernel_rfl) ?_
    have S4 := S3.out.below (Below.refl _ _).drew
    clear S3
    refine held_take 0 (some 22) (v := .agg (headC m claim)) rfl rfl (by kernel_rfl) (by kernel_rfl) (by kernel_rfl) (fun _ _ _ h => h) (.inl ⟨by kernel_rfl, fun V hV => by exact exec_load 38 (.tmp 10) rfl (.pointer (some ⟨w.heap.size + 1 + 1, 0, none⟩)) (by kernel_rfl) (prf.Has.load_hd hV.old HC.out)⟩) S4 ?_
    simp only [Act.put, List.setIfInBounds_toArray, List.set_cons_zero, List.set_cons_succ]
    refine held_take 1 (some 23) (v := .agg (headC n R)) rfl rfl (by kernel_rfl) (by kernel_rfl) (by kernel_rfl) (fun _ _ _ h => h) (.inl ⟨by kernel_rfl, fun V hV => by exact exec_load 38 (.tmp 11) rfl (.pointer (some ⟨gn, 0, none⟩)) (by kernel_rfl) (prf.Has.load_hd hV.now HRL.out)⟩) S4 ?_
    simp only [Act.put, List.setIfInBounds_toArray, List.set_cons_zero, List.set_cons_succ]
    refine held_take 2 (some 24) (v := .slice sa k sc) rfl rfl (by kernel_rfl) (by kernel_rfl) (by kernel_rfl) (fun _ _ _ h => h) (.inl ⟨by kernel_rfl, fun V hV => by rfl⟩) S4 ?_
    simp only [Act.put, List.setIfInBounds_toArray, List.set_cons_zero, List.set_cons_succ]
    refine held_one (i := 3) (by kernel_rfl) ?_
    refine wpOp_call (some 25) rfl rfl (by kernel_rfl) 20 Tryd.f20 Tryd.func20 (by kernel_rfl) (by kernel_rfl) _ _ rfl #[.agg (headC m claim), .agg (headC n R), .slice sa k sc] (by first | (simp [Act.eval]; done) | (simp [Act.eval, Act.put]; done)) (I1.out _ _ S4) ?_
    rintro en w5 ⟨e, rfl, he, S5⟩
    obtain ⟨bb, rfl⟩ : ∃ b, e = .iface 114 (.pointer (some ⟨b, 0, none⟩)) := by
      rcases he with ⟨h, _⟩ | ⟨_, b, h⟩
      · exact absurd h h0
      · exact ⟨b, h⟩
    clear he
    refine ⟨.iface 114 (.pointer (some ⟨bb, 0, none⟩)), rfl, S5, ?_⟩
    simp only [Act.put, List.setIfInBounds_toArray, List.set_cons_zero, List.set_cons_succ]
    refine held_take 4 (some 26) (v := .bool true) rfl rfl (by kernel_rfl) (by kernel_rfl) (by kernel_rfl) (fun _ _ _ h => h) (.inl ⟨by kernel_rfl, fun V hV => by go_simp⟩) S5 ?_
    simp only [Act.put, List.setIfInBounds_toArray, List.set_cons_zero, List.set_cons_succ]
    refine held_take 5 (some 27) (v := .bool true) rfl rfl (by kernel_rfl) (by kernel_rfl) (by kernel_rfl) (fun _ _ _ h => h) (.inl ⟨by kernel_rfl, fun V hV => by rfl⟩) S5 ?_
    simp only [Act.put, List.setIfInBounds_toArray, List.set_cons_zero, List.set_cons_succ]
    refine held_take 6 (some 28) (v := undef) rfl rfl (by kernel_rfl) (by kernel_rfl) (by kernel_rfl) (fun _ _ _ h => h) (.inr ⟨by kernel_rfl, rfl⟩) S5 ?_
    simp only [Act.put, List.setIfInBounds_toArray, List.set_cons_zero, List.set_cons_succ]
    refine held_take 7 (some 29) (v := undef) rfl rfl (by kernel_rfl) (by kernel_rfl) (by kernel_rfl) (fun _ _ _ h => h) (.inr ⟨by kernel_rfl, rfl⟩) S5 ?_
    simp only [Act.put, List.setIfInBounds_toArray, List.set_cons_zero, List.set_cons_succ]
    refine held_take 8 (some 30) (v := undef) rfl rfl (by kernel_rfl) (by kernel_rfl) (by kernel_rfl) (fun _ _ _ h => h) (.inr ⟨by kernel_rfl, rfl⟩) S5 ?_
    simp only [Act.put, List.setIfInBounds_toArray, List.set_cons_zero, List.set_cons_succ]
    refine held_take 9 (some 31) (v := undef) rfl rfl (by kernel_rfl) (by kernel_rfl) (by kernel_rfl) (fun _ _ _ h => h) (.inr ⟨by kernel_rfl, rfl⟩) S5 ?_
    simp only [Act.put, List.setIfInBounds_toArray, List.set_cons_zero, List.set_cons_succ]
    refine held_take 10 (some 32) (v := undef) rfl rfl (by kernel_rfl) (by kernel_rfl) (by kernel_rfl) (fun _ _ _ h => h) (.inr ⟨by kernel_rfl, rfl⟩) S5 ?_
    simp only [Act.put, List.setIfInBounds_toArray, List.set_cons_zero, List.set_cons_succ]
    refine held_take 11 (some 33) (v := undef) rfl rfl (by kernel_rfl) (by kernel_rfl) (by kernel_rfl) (fun _ _ _ h => h) (.inr ⟨by kernel_rfl, rfl⟩) S5 ?_
    simp only [Act.put, List.setIfInBounds_toArray, List.set_cons_zero, List.set_cons_succ]
    refine held_take 12 (some 34) (v := .bool true) rfl rfl (by kernel_rfl) (by kernel_rfl) (by kernel_rfl) (fun _ _ _ h => h) (.inl ⟨by kernel_rfl, fun V hV => by rfl⟩) S5 ?_
    simp only [Act.put, List.setIfInBounds_toArray, List.set_cons_zero, List.set_cons_succ]
    refine wpAnyH_done (by kernel_rfl) ?_ _
    have SF := Lib.hid S5
    clear S4 S5 h0
    go_wp2_with (first
      | ((with_reducible refine at_store (.tmp 8) ?_); refine wpList_store_cells (o := ⟨none, _, _, _, _, _⟩) rfl 40 (.tmp 8) (.tmp 35) rfl (w.heap.size + 1) #[.string ⟨#[]⟩, .string ⟨#[]⟩] #[.string ⟨#[]⟩, .string ⟨#[]⟩] rfl rfl _ SF.out.res (by kernel_rfl) rfl (by simp [Value.oneCell']) ?_; intro W9 HW9 TW9)
      | fail)
    exact bodyPost_ret (v := .tuple #[.agg #[.string ⟨#[]⟩, .string ⟨#[]⟩], .bool false]) (results_cell_tmp rfl _ _ (w.heap.size + 1) 40 _ _ _ rfl HW9 Tryd.underlying40 rfl (by kernel_rfl) _ rfl) rfl
      ⟨_, _, rfl, (fun h => by cases h), (fun _ => ⟨rfl, rfl⟩), SF.out.bel.trans (TW9.below SF.out.bel.size (fun j hj e => by omega))⟩
end Go.Proofs.YthbncejbcegmgaaDoor.clash
end

section
/- clash's laws: a tree of some leaves, and what it answers. -/
namespace Go.Proofs.YthbncejbcegmgaaDoor.clash
open Go Go.RowKit Go.Proofs.YthbncejbcegmgaaDoor.dig Go.Proofs.YthbncejbcegmgaaDoor.prf Go.Proofs.YthbncejbcegmgaaDoor.prn

/-- The tree and the leaves, since w. -/
structure Cw (w : World) (tb g off c : Nat) (L : List ByteArray) (V : World) : Prop where
  tr : ∃ F, Tr w.heap.size F V tb L.length 0 (leafF L)
  str : Strs V (.slice (some ⟨g, off, none⟩) L.length c) L
  glt : g < V.heap.size
  bel : Below w.heap.size w V
section
variable {w V V' : World} {tb g off c : Nat} {L : List ByteArray}
theorem Cw.below (h : Cw w tb g off c L V) (b : Below V.heap.size V V') : Cw w tb g off c L V' :=
  ⟨by obtain ⟨F, t⟩ := h.tr; exact ⟨F, t.below b⟩, ⟨h.str.1.below b (fun x hx => h.str.1.lt hx), h.str.2⟩, Nat.lt_of_lt_of_le h.glt b.size, h.bel.trans (b.mono h.bel.size)⟩
theorem Cw.rk (h : Cw w tb g off c L V) : Rk V := by obtain ⟨F, t⟩ := h.tr; exact t.rt.rk
theorem Cw.cap (h : Cw w tb g off c L V) : L.length ≤ c ∧ c ≤ maxLen := by
  obtain ⟨a, c', e, h1, h2⟩ := h.str.1.slice
  simp only [Value.slice.injEq] at e
  obtain ⟨_, _, rfl⟩ := e
  exact ⟨h1, h2⟩
theorem Cw.cell (h : Cw w tb g off c L V) (i : Nat) (s : ByteArray) (hs : L[i]? = some s) : V.cell? ⟨g, off + i, none⟩ = some (.string s) := by
  obtain ⟨g', o', c', e, _, _, _, hc⟩ := h.str.1.cells (by have := (List.getElem?_eq_some_iff.1 hs).1; omega)
  simp only [Value.slice.injEq, Option.some.injEq, Addr.mk.injEq] at e
  obtain ⟨⟨rfl, rfl, _⟩, _, _⟩ := e
  exact hc i _ (by rw [List.getElem?_map, hs]; rfl)

/-- Sums were answered, from within out. -/
def SmPost (w : World) (l : List (List UInt8)) (en : Ending) (w' : World) : Prop :=
  ∃ a c, en = .returned (.tuple #[.slice a l.length c, .int .i64 0]) ∧ SmS w' (.slice a l.length c) l.reverse ∧ Below w.heap.size w w'
theorem SmPost.of {l : List (List UInt8)} (hl : ∀ x ∈ l, x.length = 32) {en : Ending} {w' : World} (h : SumsOk V l en w') : SmPost V l en w' := by
  obtain ⟨v, rfl, s, _, b⟩ := h
  obtain ⟨a, c, rfl, _, _⟩ := s.slice
  exact ⟨a, c, rfl, ⟨by rw [List.length_reverse, List.reverse_reverse]; exact s, fun x hx => hl x (List.mem_reverse.1 hx)⟩, b⟩
theorem Cw.incl (h : Cw w tb g off c L V) (hN : L.length < 1024) (i : Nat) (hi : i < L.length) :
    Calls Tryd.prog 17 #[.pointer (some ⟨tb, 0, none⟩), .int .i64 i, .int .i64 L.length] V (SmPost V (path (leafF L) i 0 L.length)) := by
  obtain ⟨F, t⟩ := h.tr
  exact (t.inclusion hN i L.length (Nat.le_refl _) hi (Nat.zero_le _)).mono fun _ _ h => SmPost.of (path_all (leafF_len L) _ _ _) h
theorem Cw.root (h : Cw w tb g off c L V) (hN : L.length < 1024) (k : Nat) (hk : k ≤ L.length) :
    Calls Tryd.prog 12 #[.pointer (some ⟨tb, 0, none⟩), .int .i64 k] V fun en w' => en = .returned (.tuple #[.agg (cellsOf (rtAll (leafF L) k)), .int .i64 0]) ∧ Below V.heap.size V w' := by
  obtain ⟨F, t⟩ := h.tr
  exact t.root hN k hk (Nat.zero_le _)
theorem Cw.cons (h : Cw w tb g off c L V) (hN : L.length < 1024) (m : Nat) (hm : m ≤ L.length) :
    Calls Tryd.prog 19 #[.pointer (some ⟨tb, 0, none⟩), .int .i64 m, .int .i64 L.length] V (SmPost V (stepsL L m L.length)) := by
  obtain ⟨F, t⟩ := h.tr
  by_cases h0 : m = 0
  · subst h0
    refine (t.consistency_none L.length (Nat.le_refl _) rfl).mono ?_
    rintro en w' ⟨rfl, rfl⟩
    exact ⟨none, 0, rfl, ⟨Seg.nil _ _ _, fun x hx => by cases hx⟩, Below.refl _ _⟩
  · refine (t.consistency hN m L.length (Nat.le_refl _) hm (Nat.zero_le _) (by omega)).mono fun _ _ h => ?_
    have h2 := SmPost.of (fun x hx => steps_all (leafF_len L) _ _ _ _ (by omega) hm x hx) h
    unfold stepsL
    rw [if_neg h0]
    exact h2
end

/-- The first text of a way comes to what the way comes to. -/
theorem way_root (T : List Bool) (r : List (List UInt8)) (lt : ByteArray) (h : T.length = r.length) : ∃ t0, (txL T r (sum lt.data.toList) ++ [lt])[0]? = some t0 ∧ sum t0.data.toList = comeX T r (sum lt.data.toList) := by
  cases T with
  | nil => exact ⟨lt, rfl, by simp [comeX]⟩
  | cons t T =>
    cases r with
    | nil => simp at h
    | cons o r =>
      refine ⟨⟨(1 :: (if t = true then comeX T r (sum lt.data.toList) ++ o else o ++ comeX T r (sum lt.data.toList))).toArray⟩, rfl, ?_⟩
      rw [comeX_sum]
theorem come_path {L : List ByteArray} {i n : Nat} (hi : i < n) {s : ByteArray} (hs : L[i]? = some s) : (turnsL i n).length = (path (leafF L) i 0 n).reverse.length ∧ comeX (turnsL i n) (path (leafF L) i 0 n).reverse (leafS s.data.toList) = rtAll (leafF L) n := by
  have h := up_path (List.replicate 32 0) (leafF L) n i 0 hi
  rw [Nat.zero_add, leafF_at L i s hs] at h
  obtain ⟨e1, e2⟩ := up_come _ _ _ n i hi (by rw [h])
  refine ⟨e1, ?_⟩
  rw [← e2, h]
  unfold rtAll
  rw [if_neg (by omega)]
/-- A right proof of a prefix tells what is so. -/
theorem steps_told {L : List ByteArray} {m n : Nat} (h0 : 0 < m) (hm : m ≤ n) :
    (allL (turnsP (m - 1) n) = true ∧ stepsL L m n = (besideX (leafF L) (turnsP (m - 1) n) 0 n).reverse ∧ endX (leafF L) (turnsP (m - 1) n) 0 n = rtAll (leafF L) m)
    ∨ (allL (turnsP (m - 1) n) = false ∧ stepsL L m n = endX (leafF L) (turnsP (m - 1) n) 0 n :: (besideX (leafF L) (turnsP (m - 1) n) 0 n).reverse) := by
  have hs := steps_beside (leafF L) n m 0 true h0 hm
  unfold stepsL
  rw [if_neg (by omega)]
  by_cases ha : allL (turnsP (m - 1) n) = true
  · rw [if_pos (by simp [ha]), List.append_nil] at hs
    refine .inl ⟨ha, ?_, ?_⟩
    · rw [← hs, List.reverse_reverse]
    · rw [end_first (leafF L) n m 0 h0 hm ha]
      unfold rtAll
      rw [if_neg (by omega)]
  · rw [if_neg (by simp [ha])] at hs
    refine .inr ⟨by simpa using ha, ?_⟩
    have := congrArg List.reverse hs
    rw [List.reverse_reverse] at this
    rw [this]
    simp
end Go.Proofs.YthbncejbcegmgaaDoor.clash
end

