/- clash: nodes. -/
import Derived.Test.YtnbhjffmaememaaDoorClaB
import Derived.Test.YtnbhjffmaememaaDoorFlat
namespace Go.Proofs.YtnbhjffmaememaaDoor.clash
open Go Go.RowKit Go.Proofs.YtnbhjffmaememaaDoor.dig

/-- What has come behind i sums, from within out: T: left?, S: the sums. -/
def comeN (T : Nat → Bool) (c : List UInt8) (S : Nat → List UInt8) : Nat → List UInt8
  | 0 => c
  | i + 1 => sum (1 :: (if T i then comeN T c S i ++ S i else S i ++ comeN T c S i))
def textN (T : Nat → Bool) (c : List UInt8) (S : Nat → List UInt8) (i : Nat) : ByteArray := if T i then underS (comeN T c S i) (S i) else underS (S i) (comeN T c S i)
theorem comeN_succ (T : Nat → Bool) (c : List UInt8) (S : Nat → List UInt8) (i : Nat) : comeN T c S (i + 1) = sum (textN T c S i).data.toList := by
  unfold textN
  rw [comeN]
  split <;> simp [underS]
theorem underS_size {a b : List UInt8} (ha : a.length = 32) (hb : b.length = 32) : (underS a b).size = 65 := by
  simp [underS, ByteArray.size, ha, hb]
theorem comeN_len {T : Nat → Bool} {c : List UInt8} {S : Nat → List UInt8} (hc : c.length = 32) (i : Nat) : (comeN T c S i).length = 32 := by
  cases i with
  | zero => exact hc
  | succ i => rw [comeN]; exact sum_length _

/-- The texts when i of them are there. -/
def textsC (m i : Nat) (X : Nat → ByteArray) : Array Value := ((List.range m).map fun p => Value.string (if m - 1 - p < i then X (m - 1 - p) else ByteArray.empty)).toArray
theorem textsC_get {m i : Nat} {X : Nat → ByteArray} {p : Nat} (hp : p < m) : (textsC m i X)[p]? = some (.string (if m - 1 - p < i then X (m - 1 - p) else ByteArray.empty)) := by
  unfold textsC
  simp [hp]
theorem textsC_size (m i : Nat) (X : Nat → ByteArray) : (textsC m i X).size = m := by simp [textsC]
theorem textsC_set {m i : Nat} {X : Nat → ByteArray} (hi : i < m) : (textsC m i X).setIfInBounds (m - 1 - i) (.string (X i)) = textsC m (i + 1) X := by
  apply Array.ext_getElem?
  intro p
  rw [Array.getElem?_setIfInBounds]
  by_cases hp : p < m
  · rw [textsC_get hp, textsC_get hp, textsC_size]
    by_cases h1 : m - 1 - i = p
    · rw [if_pos h1, if_pos (by omega), if_pos (by omega), show m - 1 - p = i by omega]
    · rw [if_neg h1]
      by_cases h2 : m - 1 - p < i
      · rw [if_pos h2, if_pos (by omega)]
      · rw [if_neg h2, if_neg (by omega)]
  · rw [if_neg (by omega), Array.getElem?_eq_none (by rw [textsC_size]; omega), Array.getElem?_eq_none (by rw [textsC_size]; omega)]
theorem textsC_zero (m : Nat) (X : Nat → ByteArray) : madeCells (Value.string ByteArray.empty).cells m = textsC m 0 X := by
  apply Array.toList_inj.1
  show (madeCells #[Value.string ByteArray.empty] m).toList = _
  rw [toList_madeCells_one]
  unfold textsC
  apply List.ext_getElem?
  intro j
  by_cases hj : j < m
  · simp [hj]
  · simp [hj]

theorem strZero : ∃ i, Tryd.prog.info? 9 = some i ∧ i.zero = some (.string ByteArray.empty) ∧ i.size = 1 ∧ i.bytes = 16 := by
  have h2 : (Tryd.prog.info? 9).map (fun i => (i.zero, i.size, i.bytes)) = some (some (.string ByteArray.empty), 1, 16) := by kernel_rfl
  obtain ⟨i, hi, e⟩ := Option.map_eq_some_iff.1 h2
  simp only [Prod.mk.injEq] at e
  exact ⟨i, hi, e.1, e.2.1, e.2.2⟩

theorem sums_flat (l : List (List UInt8)) : (List.range' 0 l.length).flatMap (fun i => (l.getD i []).map byteV) = l.flatMap fun x => x.map byteV := by
  have h : ∀ (l : List (List UInt8)) (q : List (List UInt8)), (List.range' q.length l.length).flatMap (fun i => ((q ++ l).getD i []).map byteV) = l.flatMap fun x => x.map byteV := by
    intro l
    induction l with
    | nil => intro q; rfl
    | cons x l ih =>
      intro q
      rw [List.length_cons, List.range'_succ, List.flatMap_cons, List.flatMap_cons]
      have h1 := ih (q ++ [x])
      rw [List.length_append, List.append_assoc] at h1
      simp only [List.length_singleton, List.singleton_append] at h1
      rw [h1]
      simp
  exact h l []

/-- While the texts are made: i of them are there. -/
structure NodS (w : World) (cb tg m i : Nat) (c : List UInt8) (X : Nat → ByteArray) (wr : World) : Prop where
  rk : Rk wr
  box : Has wr cb 29 (cellsOf c)
  txt : Has wr tg 9 (textsC m i X)
  lo : w.heap.size ≤ cb ∧ w.heap.size ≤ tg
  bel : Below w.heap.size w wr
theorem NodS.more {w : World} {cb tg m i : Nat} {c : List UInt8} {X : Nat → ByteArray} {wr w2 : World} (h : NodS w cb tg m i c X wr) (b : Below wr.heap.size wr w2) : NodS w cb tg m i c X w2 :=
  ⟨h.rk.below b, h.box.below b h.box.lt, h.txt.below b h.txt.lt, h.lo, h.bel.trans (b.mono h.bel.size)⟩
theorem NodS.ne {w : World} {cb tg m i : Nat} {c : List UInt8} {X : Nat → ByteArray} {wr : World} (h : NodS w cb tg m i c X wr) : cb ≠ tg := fun e => by
  have := (h.box.uniq (e ▸ h.txt)).2
  revert this
  decide

def Stay (p : Prop) := p
theorem stay {p : Prop} (h : Stay p) : p := h

/-- Texts were answered, in a block of their own. -/
def NodesPost (w : World) (m : Nat) (X : Nat → ByteArray) (en : Ending) (w' : World) : Prop :=
  ∃ tg, en = .returned (.slice (some ⟨tg, 0, none⟩) m m) ∧ Has w' tg 9 (textsC m m X) ∧ w.heap.size ≤ tg ∧ Below w.heap.size w w'

set_option maxRecDepth 100000 in
set_option maxHeartbeats 4000000 in
theorem nodes_calls (tv sv : Value) (turns : List Bool) (SL : List (List UInt8)) (c : List UInt8) (w : World) (hR : Rk w) (hc : c.length = 32) (hlen : turns.length = SL.length) (hm64 : SL.length ≤ 64)
    (ht : Seg w 4 1 tv turns.length (turns.map Value.bool)) (hs : Seg w 29 32 sv SL.length (sumsC SL)) (hSL : ∀ x ∈ SL, x.length = 32) :
    Calls Tryd.prog 97 #[tv, .agg (cellsOf c), sv] w (NodesPost w SL.length (textN (fun i => turns.getD (SL.length - 1 - i) false) c (fun i => SL.getD i []))) := by
  obtain ⟨m, hm⟩ : ∃ m, m = SL.length := ⟨_, rfl⟩
  obtain ⟨T, hT⟩ : ∃ T : Nat → Bool, T = fun i => turns.getD (m - 1 - i) false := ⟨_, rfl⟩
  obtain ⟨S, hS⟩ : ∃ S : Nat → List UInt8, S = fun i => SL.getD i [] := ⟨_, rfl⟩
  obtain ⟨X, hX⟩ : ∃ X, X = textN T c S := ⟨_, rfl⟩
  have hpost : NodesPost w SL.length (textN (fun i => turns.getD (SL.length - 1 - i) false) c (fun i => SL.getD i [])) = NodesPost w m X := by rw [hX, hT, hS, hm]
  rw [hpost]
  have htm : turns.length = m := by omega
  obtain ⟨ta, tc, htv, ht1, ht2⟩ := ht.slice
  obtain ⟨sa, sc, hsv, hs1, hs2⟩ := hs.slice
  rw [htm] at htv ht1
  rw [← hm] at hsv hs1 hm64
  subst htv hsv
  -- what is read of the turns, and of the sums
  have HT0 : Hid (∀ i, i < m → ∃ g o, ta = some ⟨g, o, none⟩ ∧ g < w.heap.size ∧ w.cell? ⟨g, o + i, none⟩ = some (.bool (T (m - 1 - i)))) := Lib.hid fun i hi => by
    obtain ⟨g, o, c', hv, hg, _, _, hcell⟩ := ht.cells (by omega)
    simp only [Value.slice.injEq] at hv
    refine ⟨g, o, hv.1, hg, hcell i _ ?_⟩
    rw [hT, List.getElem?_map]
    have hi' : i < turns.length := by omega
    simp only []
    rw [show m - 1 - (m - 1 - i) = i by omega, List.getD_eq_getElem?_getD, List.getElem?_eq_getElem hi']
    rfl
  have HS0 : Hid (∀ i, i < m → ∃ g o, sa = some ⟨g, o, none⟩ ∧ g < w.heap.size ∧ w.rangeAt g (o + i * 32) ((S i).map byteV) ∧ (S i).length = 32) := Lib.hid fun i hi => by
    obtain ⟨g, o, c', hv, hg, _, _, hcell⟩ := hs.cells (by omega)
    simp only [Value.slice.injEq] at hv
    have hi' : i < SL.length := by omega
    have hSi : S i = SL[i] := by rw [hS]; simp only []; rw [List.getD_eq_getElem?_getD, List.getElem?_eq_getElem hi']; rfl
    have hl : (S i).length = 32 := by rw [hSi]; exact hSL _ (List.getElem_mem hi')
    refine ⟨g, o, hv.1, hg, fun j u hj => ?_, hl⟩
    rw [Nat.add_assoc]
    refine hcell _ u ?_
    have hj32 : j < 32 := by have := (List.getElem?_eq_some_iff.1 hj).1; simp at this; omega
    have e := flat_get (g := fun i => (S i).map byteV) (a := 0) (k := m) (w := 32) (fun i _ h2 => by
      rw [List.length_map, hS]; simp only []; rw [List.getD_eq_getElem?_getD, List.getElem?_eq_getElem (by omega : i < SL.length)]; exact hSL _ (List.getElem_mem _)) hi hj32
    rw [Nat.zero_add] at e
    have e2 : flat (fun i => (S i).map byteV) 0 m = sumsC SL := by
      unfold flat sumsC
      rw [hm, hS]
      exact sums_flat SL
    rw [← e2, e]
    exact hj
  have HC := Lib.hid hc
  have HR0 := Lib.hid hR
  have HM := Lib.hid hm64
  have HX := Lib.hid hX
  have HTlen := Lib.hid htm
  clear hc hR hX hT hS hs ht hSL hlen hm htm hpost ht2 hs2
  have hm64' : (m : Int) ≤ 64 := by omega
  have hmk : ∀ O : Obj, (Instr.makeSlice 22 (.int .i64 (m : Int)) (.int .i64 (m : Int))).run Tryd.prog (w.alloc O) = .ok (.slice (some ⟨w.heap.size + 1, 0, none⟩) m m) ((w.alloc O).alloc (.cells (textsC m 0 X) 9)) := by
    intro O
    obtain ⟨i0, hi0, hz0, hz1, hz2⟩ := strZero
    have h := run_make (P := Tryd.prog) (w.alloc O) 22 9 i0 (.string ByteArray.empty) Tryd.underlying22 hi0 hz0 .i64 .i64 (m : Int) (m : Int) (by omega) (by omega) (by rw [hz2]; omega) (by omega)
    rw [Int.toNat_natCast, hz1, Nat.mul_one, textsC_zero m X] at h
    rw [h]
    simp
  go_enter Tryd.func97, Tryd.ntmps97
  go_wp2_with fail
  clear hmk
  have S0 : NodS w w.heap.size (w.heap.size + 1) m 0 (comeN T c S 0) X ((w.alloc (Obj.cells (cellsOf c) 29)).alloc (Obj.cells (textsC m 0 X) 9)) :=
    ⟨HR0.out.below (((Below.refl _ _).alloc (Nat.le_refl _) _).alloc (by simp) _), Has.alloc (made_at _ _ rfl) _, made_at _ _ (by simp), ⟨Nat.le_refl _, by omega⟩, ((Below.refl _ _).alloc (Nat.le_refl _) _).alloc (by simp) _⟩
  have S1 := Lib.hid S0
  clear S0
  obtain ⟨cb, hcb⟩ : ∃ cb, cb = w.heap.size := ⟨_, rfl⟩
  obtain ⟨tg, htg⟩ : ∃ tg, tg = w.heap.size + 1 := ⟨_, rfl⟩
  rw [← hcb] at S1
  rw [hcb] at S1
  rw [← htg] at S1
  go_loopw [16] (fun x wr => ∃ i : Nat, x = .int .i64 i ∧ i ≤ m ∧ Hid (NodS w w.heap.size (w.heap.size + 1) m i (comeN T c S i) X wr)) (fun x _ => m - (intOf x).toNat)
  case atStart => exact ⟨0, rfl, Nat.zero_le _, htg ▸ S1⟩
  case round =>
    clear S1 hcb htg
    obtain ⟨i, rfl, him, NS⟩ := hrel
    by_cases h : i < m
    · obtain ⟨p, hp⟩ : ∃ p, p = m - 1 - i := ⟨_, rfl⟩
      have hpm : p < m := by omega
      obtain ⟨tb, to, rfl, htb, htc⟩ := HT0.out p hpm
      rw [show m - 1 - p = i by omega] at htc
      obtain ⟨sb, so, rfl, hsb, hsc, hsl⟩ := HS0.out i h
      have h1 : (i : Int) < (m : Int) := by omega
      have h2 : (m : Int) - 1 - (i : Int) = (p : Int) := by omega
      have h3 : (p : Int) < (m : Int) := by omega
      have hb2 : (p : Int) ≤ 64 := by omega
      obtain ⟨si, hsi⟩ : ∃ si, si = S i := ⟨_, rfl⟩
      obtain ⟨ci, hci⟩ : ∃ ci, ci = comeN T c S i := ⟨_, rfl⟩
      have hcl : ci.length = 32 := hci ▸ comeN_len HC.out i
      rw [← hsi] at hsc hsl
      have HXi : Hid (X i = if T i then underS ci si else underS si ci) := Lib.hid (by rw [HX.out, hci, hsi]; rfl)
      have HNX : Hid (comeN T c S (i + 1) = sum (X i).data.toList) := Lib.hid (by rw [HX.out]; exact comeN_succ T c S i)
      have r1 : wr.rangeAt sb (so + i * 32) (si.map byteV) := fun j v hj => by
        rw [← hsc j v hj]
        unfold World.cell?
        rw [NS.out.bel.block sb hsb]
      have NB : Hid (Has wr w.heap.size 29 (cellsOf ci)) := Lib.hid (hci ▸ NS.out.box)
      have HL := Lib.hid (And.intro hsl hcl)
      have htc2 : ∀ w', Below w.heap.size w w' → w'.cell? ⟨tb, to + p, none⟩ = some (.bool (T i)) := fun w' b => by
        rw [← htc]
        unfold World.cell?
        rw [b.block tb htb]
      have HTC := Lib.hid htc2
      have HP := Lib.hid hp
      clear htc htc2 hsc hsi hci hsl hcl hp
      go_wp2_with (first
        | ((with_reducible refine at_op 20 ?_); refine wpList_load_mid (op := ⟨some 20, _, _, _, _, _⟩) rfl 29 _ rfl sb (so + i * 32) rfl (si.map byteV) _ r1 Tryd.underlying29 rfl (by rw [List.length_map, HL.out.1]; kernel_rfl) ?_)
        | ((with_reducible refine at_store (.tmp 9) ?_); refine wpList_store_arr (o := ⟨none, _, _, _, _, _⟩) rfl 29 _ _ rfl wr.heap.size si (List.replicate 32 0) rfl rfl _ (made_at _ _ rfl) 32 (by kernel_rfl) (by simp) HL.out.1 ?_; intro W1 HW1 TW1; refine stay ?_)
        | fail)
      unfold Stay
      have A1 : Below wr.heap.size wr W1 := TW1.below (B := wr.heap.size) (by simp) (fun j hj e => by omega) |> fun b => ((Below.refl wr.heap.size wr).alloc (Nat.le_refl _) _).trans b
      have K1 : Hid (NodS w w.heap.size (w.heap.size + 1) m i (comeN T c S i) X W1 ∧ Has W1 w.heap.size 29 (cellsOf ci) ∧ Has W1 wr.heap.size 29 (cellsOf si) ∧ Below w.heap.size w W1) :=
        Lib.hid ⟨NS.out.more A1, NB.out.below A1 NB.out.lt, HW1, NS.out.bel.trans (A1.mono NS.out.bel.size)⟩
      have c1 := HTC.out W1 K1.out.2.2.2
      clear A1 HW1 TW1 NB NS r1
      have hfin : ∀ (u : ByteArray) (W2 : World), u = X i → NodS w w.heap.size (w.heap.size + 1) m i (comeN T c S i) X W2 → ∃ q, W2.cell? ⟨w.heap.size + 1, p, none⟩ = some q ∧ W2.frozen? ⟨w.heap.size + 1, p, none⟩ = false ∧
          NodS w w.heap.size (w.heap.size + 1) m (i + 1) (comeN T c S i) X (W2.setCell ⟨w.heap.size + 1, p, none⟩ (.string u)) := fun u W2 hu K => by
        refine ⟨_, (K.txt.cell p).trans (textsC_get hpm), K.txt.free _, ?_⟩
        have b : Below w.heap.size w (W2.setCell ⟨w.heap.size + 1, p, none⟩ (.string u)) :=
          (Turn.put (Turn.of_below (F := fun k => w.heap.size ≤ k) K.bel (fun j _ h => h)) (b := w.heap.size + 1) (fun _ => by omega) p _).below (Nat.le_refl _) (fun j hj => by omega)
        have k1 := K.txt.put p (.string u)
        rw [hu, HP.out, textsC_set h, ← HP.out, ← hu] at k1
        exact ⟨HR0.out.below b, K.box.far (p := ⟨w.heap.size + 1, p, none⟩) (by simp) _, k1, K.lo, b⟩
      have HF := Lib.hid hfin
      clear hfin
      rcases hTi : T i with _ | _
      case' true =>
        rw [hTi] at c1
        have HU : Hid (underS ci si = X i) := Lib.hid (by rw [HXi.out, hTi]; rfl)
        have hsz : (underS ci si).size < 1000000000000000000 := by rw [underS_size HL.out.2 HL.out.1]; omega
        clear hTi HXi
      case' false =>
        rw [hTi] at c1
        have HU : Hid (underS si ci = X i) := Lib.hid (by rw [HXi.out, hTi]; rfl)
        have hsz : (underS si ci).size < 1000000000000000000 := by rw [underS_size HL.out.1 HL.out.2]; omega
        clear hTi HXi
      all_goals
        have HSZ := Lib.hid hsz
        clear hsz
        go_wp2_with (first
          | ((with_reducible refine at_op 32 ?_); refine wpList_load_arr (o := ⟨some 32, _, _, _, _, _⟩) rfl 29 _ rfl w.heap.size rfl 29 ci 5 32 K1.out.2.1 Tryd.underlying29 (by kernel_rfl) HL.out.2 ?_)
          | ((with_reducible refine at_op 33 ?_); refine wpList_load_arr (o := ⟨some 33, _, _, _, _, _⟩) rfl 29 _ rfl wr.heap.size rfl 29 si 5 32 K1.out.2.2.1 Tryd.underlying29 (by kernel_rfl) HL.out.1 ?_)
          | ((with_reducible refine at_op 38 ?_); refine wpList_load_arr (o := ⟨some 38, _, _, _, _, _⟩) rfl 29 _ rfl wr.heap.size rfl 29 si 5 32 K1.out.2.2.1 Tryd.underlying29 (by kernel_rfl) HL.out.1 ?_)
          | ((with_reducible refine at_op 39 ?_); refine wpList_load_arr (o := ⟨some 39, _, _, _, _, _⟩) rfl 29 _ rfl w.heap.size rfl 29 ci 5 32 K1.out.2.1 Tryd.underlying29 (by kernel_rfl) HL.out.2 ?_)
          | fail)
        first
          | refine (under_calls ci si W1 HL.out.2 HL.out.1).mono ?_
          | refine (under_calls si ci W1 HL.out.1 HL.out.2).mono ?_
        rintro en w2 ⟨rfl, b2⟩
        have K2 : Hid (NodS w w.heap.size (w.heap.size + 1) m i (comeN T c S i) X w2) := Lib.hid (K1.out.1.more b2)
        obtain ⟨q, cq, fq, hq⟩ := HF.out _ w2 HU.out K2.out
        have K3 := Lib.hid hq
        clear K2 K1 b2 hq c1
        go_wp2_with fail
        rw [HU.out]
        rw [HU.out] at HSZ
        refine callsName (fun W3 hW3 => ?_)
        have K4 : Hid (NodS w w.heap.size (w.heap.size + 1) m (i + 1) (comeN T c S i) X W3) := Lib.hid (by rw [← hW3, ← HU.out]; exact K3.out)
        clear hW3 K3 cq fq
        refine (of_calls (X i) W3 K4.out.rk HSZ.out).mono ?_
        rintro en w4 ⟨rfl, b4⟩
        have K5 : Hid (NodS w w.heap.size (w.heap.size + 1) m (i + 1) (comeN T c S i) X w4) := Lib.hid (K4.out.more b4)
        rw [← HNX.out]
        clear K4 b4
        obtain ⟨cn, hcn⟩ : ∃ cn, cn = comeN T c S (i + 1) := ⟨_, rfl⟩
        obtain ⟨co, hco⟩ : ∃ co, co = comeN T c S i := ⟨_, rfl⟩
        rw [← hcn]
        have HN := Lib.hid hcn
        rw [← hco] at K5
        have HLN : Hid (cn.length = 32 ∧ co.length = 32) := Lib.hid ⟨hcn ▸ comeN_len HC.out _, hco ▸ comeN_len HC.out _⟩
        clear hcn hco
        go_wp2_with (first
          | ((with_reducible refine at_store (.tmp 4) ?_); refine wpList_store_arr (o := ⟨none, _, _, _, _, _⟩) rfl 29 _ _ rfl w.heap.size cn co rfl rfl _ K5.out.box 32 (by kernel_rfl) HLN.out.2 HLN.out.1 ?_; intro W6 HW6 TW6)
          | fail)
        have b : Below w.heap.size w W6 := K5.out.bel.trans (TW6.below K5.out.bel.size (fun j hj e => by omega))
        refine ⟨⟨i + 1, by rw [Int.natCast_add]; rfl, by omega, Lib.hid ⟨HR0.out.below b, HN.out ▸ HW6, K5.out.txt.turn TW6 (by omega), K5.out.lo, b⟩⟩, ?_⟩
        show m - ((i : Int) + 1).toNat < m - ((i : Int)).toNat
        omega
    · obtain rfl : i = m := by omega
      have h1 : ¬ (i : Int) < (i : Int) := by omega
      go_wp2_with fail
      go_ret
      exact ⟨_, rfl, NS.out.txt, NS.out.lo.2, NS.out.bel⟩
end Go.Proofs.YtnbhjffmaememaaDoor.clash
