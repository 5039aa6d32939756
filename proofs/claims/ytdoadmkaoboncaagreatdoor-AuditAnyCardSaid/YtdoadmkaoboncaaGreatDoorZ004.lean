/- Texts laid into one: ClaC, ClaD, TreeJA, ClaF, ClaJ, ClaG, ClaH. -/
import Derived.Test.YtdoadmkaoboncaaGreatDoorZ003
import Derived.Test.YtdoadmkaoboncaaGreatDoorFlat
import Derived.Test.YtdoadmkaoboncaaGreatDoorTreeI
import Derived.Test.YtdoadmkaoboncaaGreatDoorDigM
import Derived.Test.YtdoadmkaoboncaaGreatDoorAny
import Derived.Test.YtdoadmkaoboncaaGreatDoorLeaf
import Derived.Test.YtdoadmkaoboncaaGreatDoorLate
import Derived.Deep.MidRow
section
/- clash: nodes. -/
namespace Go.Proofs.YtdoadmkaoboncaaGreatDoor.clash
open Go Go.RowKit Go.Proofs.YtdoadmkaoboncaaGreatDoor.dig

/-- What has come behind i sums, from within out: T: left?, S: the sums. -/
def comeN (T : Nat → Bool) (c : List UInt8) (S : Nat → List UInt8) : Nat → List UInt8
  | 0 => c
  | i + 1 => sum (1 :: (if T i then comeN T c S i ++ S i else S i ++ comeN T c S i))
def textN (T : Nat → Bool) (c : List UInt8) (S : Nat → List UInt8) (i : Nat) : ByteArray := if T i then underS (comeN T c S i) (S i) else underS (S i) (comeN T c S i)
theorem comeN_succ (T : Nat → Bool) (c : List UInt8) (S : Nat → List UInt8) (i : Nat) : comeN T c S (i + 1) = sum (textN T c S i).data.toList := by
  unfold textN
  rw [comeN]
  split <;> simp [underS]
theorem underS_size {a b : List UInt8} (ha : a.length = 32) (hb : b.length = 32) : (underS a b).size = 65 := by
  simp [underS, ByteArray.size, ha, hb]
theorem comeN_len {T : Nat → Bool} {c : List UInt8} {S : Nat → List UInt8} (hc : c.length = 32) (i : Nat) : (comeN T c S i).length = 32 := by
  cases i with
  | zero => exact hc
  | succ i => rw [comeN]; exact sum_length _

/-- The texts when i of them are there. -/
def textsC (m i : Nat) (X : Nat → ByteArray) : Array Value := ((List.range m).map fun p => Value.string (if m - 1 - p < i then X (m - 1 - p) else ByteArray.empty)).toArray
theorem textsC_get {m i : Nat} {X : Nat → ByteArray} {p : Nat} (hp : p < m) : (textsC m i X)[p]? = some (.string (if m - 1 - p < i then X (m - 1 - p) else ByteArray.empty)) := by
  unfold textsC
  simp [hp]
theorem textsC_size (m i : Nat) (X : Nat → ByteArray) : (textsC m i X).size = m := by simp [textsC]
theorem textsC_set {m i : Nat} {X : Nat → ByteArray} (hi : i < m) : (textsC m i X).setIfInBounds (m - 1 - i) (.string (X i)) = textsC m (i + 1) X := by
  apply Array.ext_getElem?
  intro p
  rw [Array.getElem?_setIfInBounds]
  by_cases hp : p < m
  · rw [textsC_get hp, textsC_get hp, textsC_size]
    by_cases h1 : m - 1 - i = p
    · rw [if_pos h1, if_pos (by omega), if_pos (by omega), show m - 1 - p = i by omega]
    · rw [if_neg h1]
      by_cases h2 : m - 1 - p < i
      · rw [if_pos h2, if_pos (by omega)]
      · rw [if_neg h2, if_neg (by omega)]
  · rw [if_neg (by omega), Array.getElem?_eq_none (by rw [textsC_size]; omega), Array.getElem?_eq_none (by rw [textsC_size]; omega)]
theorem textsC_zero (m : Nat) (X : Nat → ByteArray) : madeCells (Value.string ByteArray.empty).cells m = textsC m 0 X := by
  apply Array.toList_inj.1
  show (madeCells #[Value.string ByteArray.empty] m).toList = _
  rw [toList_madeCells_one]
  unfold textsC
  apply List.ext_getElem?
  intro j
  by_cases hj : j < m
  · simp [hj]
  · simp [hj]

theorem strZero : ∃ i, Tryz.prog.info? 9 = some i ∧ i.zero = some (.string ByteArray.empty) ∧ i.size = 1 ∧ i.bytes = 16 := by
  have h2 : (Tryz.prog.info? 9).map (fun i => (i.zero, i.size, i.bytes)) = some (some (.string ByteArray.empty), 1, 16) := by kernel_rfl
  obtain ⟨i, hi, e⟩ := Option.map_eq_some_iff.1 h2
  simp only [Prod.mk.injEq] at e
  exact ⟨i, hi, e.1, e.2.1, e.2.2⟩

theorem sums_flat (l : List (List UInt8)) : (List.range' 0 l.length).flatMap (fun i => (l.getD i []).map byteV) = l.flatMap fun x => x.map byteV := by
  have h : ∀ (l : List (List UInt8)) (q : List (List UInt8)), (List.range' q.length l.length).flatMap (fun i => ((q ++ l).getD i []).map byteV) = l.flatMap fun x => x.map byteV := by
    intro l
    induction l with
    | nil => intro q; rfl
    | cons x l ih =>
      intro q
      rw [List.length_cons, List.range'_succ, List.flatMap_cons, List.flatMap_cons]
      have h1 := ih (q ++ [x])
      rw [List.length_append, List.append_assoc] at h1
      simp only [List.length_singleton, List.singleton_append] at h1
      rw [h1]
      simp
  exact h l []

/-- While the texts are made: i of them are there. -/
structure NodS (w : World) (cb tg m i : Nat) (c : List UInt8) (X : Nat → ByteArray) (wr : World) : Prop where
  rk : Rk wr
  box : Has wr cb 38 (cellsOf c)
  txt : Has wr tg 9 (textsC m i X)
  lo : w.heap.size ≤ cb ∧ w.heap.size ≤ tg
  bel : Below w.heap.size w wr
theorem NodS.more {w : World} {cb tg m i : Nat} {c : List UInt8} {X : Nat → ByteArray} {wr w2 : World} (h : NodS w cb tg m i c X wr) (b : Below wr.heap.size wr w2) : NodS w cb tg m i c X w2 :=
  ⟨h.rk.below b, h.box.below b h.box.lt, h.txt.below b h.txt.lt, h.lo, h.bel.trans (b.mono h.bel.size)⟩
theorem NodS.ne {w : World} {cb tg m i : Nat} {c : List UInt8} {X : Nat → ByteArray} {wr : World} (h : NodS w cb tg m i c X wr) : cb ≠ tg := fun e => by
  have := (h.box.uniq (e ▸ h.txt)).2
  revert this
  decide

def Stay (p : Prop) := p
theorem stay {p : Prop} (h : Stay p) : p := h

/-- Texts were answered, in a block of their own. -/
def NodesPost (w : World) (m : Nat) (X : Nat → ByteArray) (en : Ending) (w' : World) : Prop :=
  ∃ tg, en = .returned (.slice (some ⟨tg, 0, none⟩) m m) ∧ Has w' tg 9 (textsC m m X) ∧ w.heap.size ≤ tg ∧ Below w.heap.size w w'

set_option maxRecDepth 100000 in
set_option maxHeartbeats 4000000 in
theorem nodes_calls (tv sv : Value) (turns : List Bool) (SL : List (List UInt8)) (c : List UInt8) (w : World) (hR : Rk w) (hc : c.length = 32) (hlen : turns.length = SL.length) (hm64 : SL.length ≤ 64)
    (ht : Seg w 4 1 tv turns.length (turns.map Value.bool)) (hs : Seg w 38 32 sv SL.length (sumsC SL)) (hSL : ∀ x ∈ SL, x.length = 32) :
    Calls Tryz.prog 84 #[tv, .agg (cellsOf c), sv] w (NodesPost w SL.length (textN (fun i => turns.getD (SL.length - 1 - i) false) c (fun i => SL.getD i []))) := by
  obtain ⟨m, hm⟩ : ∃ m, m = SL.length := ⟨_, rfl⟩
  obtain ⟨T, hT⟩ : ∃ T : Nat → Bool, T = fun i => turns.getD (m - 1 - i) false := ⟨_, rfl⟩
  obtain ⟨S, hS⟩ : ∃ S : Nat → List UInt8, S = fun i => SL.getD i [] := ⟨_, rfl⟩
  obtain ⟨X, hX⟩ : ∃ X, X = textN T c S := ⟨_, rfl⟩
  have hpost : NodesPost w SL.length (textN (fun i => turns.getD (SL.length - 1 - i) false) c (fun i => SL.getD i [])) = NodesPost w m X := by rw [hX, hT, hS, hm]
  rw [hpost]
  have htm : turns.length = m := by omega
  obtain ⟨ta, tc, htv, ht1, ht2⟩ := ht.slice
  obtain ⟨sa, sc, hsv, hs1, hs2⟩ := hs.slice
  rw [htm] at htv ht1
  rw [← hm] at hsv hs1 hm64
  subst htv hsv
  -- what is read of the turns, and of the sums
  have HT0 : Hid (∀ i, i < m → ∃ g o, ta = some ⟨g, o, none⟩ ∧ g < w.heap.size ∧ w.cell? ⟨g, o + i, none⟩ = some (.bool (T (m - 1 - i)))) := Lib.hid fun i hi => by
    obtain ⟨g, o, c', hv, hg, _, _, hcell⟩ := ht.cells (by omega)
    simp only [Value.slice.injEq] at hv
    refine ⟨g, o, hv.1, hg, hcell i _ ?_⟩
    rw [hT, List.getElem?_map]
    have hi' : i < turns.length := by omega
    simp only []
    rw [show m - 1 - (m - 1 - i) = i by omega, List.getD_eq_getElem?_getD, List.getElem?_eq_getElem hi']
    rfl
  have HS0 : Hid (∀ i, i < m → ∃ g o, sa = some ⟨g, o, none⟩ ∧ g < w.heap.size ∧ w.rangeAt g (o + i * 32) ((S i).map byteV) ∧ (S i).length = 32) := Lib.hid fun i hi => by
    obtain ⟨g, o, c', hv, hg, _, _, hcell⟩ := hs.cells (by omega)
    simp only [Value.slice.injEq] at hv
    have hi' : i < SL.length := by omega
    have hSi : S i = SL[i] := by rw [hS]; simp only []; rw [List.getD_eq_getElem?_getD, List.getElem?_eq_getElem hi']; rfl
    have hl : (S i).length = 32 := by rw [hSi]; exact hSL _ (List.getElem_mem hi')
    refine ⟨g, o, hv.1, hg, fun j u hj => ?_, hl⟩
    rw [Nat.add_assoc]
    refine hcell _ u ?_
    have hj32 : j < 32 := by have := (List.getElem?_eq_some_iff.1 hj).1; simp at this; omega
    have e := flat_get (g := fun i => (S i).map byteV) (a := 0) (k := m) (w := 32) (fun i _ h2 => by
      rw [List.length_map, hS]; simp only []; rw [List.getD_eq_getElem?_getD, List.getElem?_eq_getElem (by omega : i < SL.length)]; exact hSL _ (List.getElem_mem _)) hi hj32
    rw [Nat.zero_add] at e
    have e2 : flat (fun i => (S i).map byteV) 0 m = sumsC SL := by
      unfold flat sumsC
      rw [hm, hS]
      exact sums_flat SL
    rw [← e2, e]
    exact hj
  have HC := Lib.hid hc
  have HR0 := Lib.hid hR
  have HM := Lib.hid hm64
  have HX := Lib.hid hX
  have HTlen := Lib.hid htm
  clear hc hR hX hT hS hs ht hSL hlen hm htm hpost ht2 hs2
  have hm64' : (m : Int) ≤ 64 := by omega
  have hmk : ∀ O : Obj, (Instr.makeSlice 22 (.int .i64 (m : Int)) (.int .i64 (m : Int))).run Tryz.prog (w.alloc O) = .ok (.slice (some ⟨w.heap.size + 1, 0, none⟩) m m) ((w.alloc O).alloc (.cells (textsC m 0 X) 9)) := by
    intro O
    obtain ⟨i0, hi0, hz0, hz1, hz2⟩ := strZero
    have h := run_make (P := Tryz.prog) (w.alloc O) 22 9 i0 (.string ByteArray.empty) Tryz.underlying22 hi0 hz0 .i64 .i64 (m : Int) (m : Int) (by omega) (by omega) (by rw [hz2]; omega) (by omega)
    rw [Int.toNat_natCast, hz1, Nat.mul_one, textsC_zero m X] at h
    rw [h]
    simp
  go_enter Tryz.func84, Tryz.ntmps84
  go_wp2_with fail
  clear hmk
  have S0 : NodS w w.heap.size (w.heap.size + 1) m 0 (comeN T c S 0) X ((w.alloc (Obj.cells (cellsOf c) 38)).alloc (Obj.cells (textsC m 0 X) 9)) :=
    ⟨HR0.out.below (((Below.refl _ _).alloc (Nat.le_refl _) _).alloc (by simp) _), Has.alloc (made_at _ _ rfl) _, made_at _ _ (by simp), ⟨Nat.le_refl _, by omega⟩, ((Below.refl _ _).alloc (Nat.le_refl _) _).alloc (by simp) _⟩
  have S1 := Lib.hid S0
  clear S0
  obtain ⟨cb, hcb⟩ : ∃ cb, cb = w.heap.size := ⟨_, rfl⟩
  obtain ⟨tg, htg⟩ : ∃ tg, tg = w.heap.size + 1 := ⟨_, rfl⟩
  rw [← hcb] at S1
  rw [hcb] at S1
  rw [← htg] at S1
  go_loopw [16] (fun x wr => ∃ i : Nat, x = .int .i64 i ∧ i ≤ m ∧ Hid (NodS w w.heap.size (w.heap.size + 1) m i (comeN T c S i) X wr)) (fun x _ => m - (intOf x).toNat)
  case atStart => exact ⟨0, rfl, Nat.zero_le _, htg ▸ S1⟩
  case round =>
    clear S1 hcb htg
    obtain ⟨i, rfl, him, NS⟩ := hrel
    by_cases h : i < m
    · obtain ⟨p, hp⟩ : ∃ p, p = m - 1 - i := ⟨_, rfl⟩
      have hpm : p < m := by omega
      obtain ⟨tb, to, rfl, htb, htc⟩ := HT0.out p hpm
      rw [show m - 1 - p = i by omega] at htc
      obtain ⟨sb, so, rfl, hsb, hsc, hsl⟩ := HS0.out i h
      have h1 : (i : Int) < (m : Int) := by omega
      have h2 : (m : Int) - 1 - (i : Int) = (p : Int) := by omega
      have h3 : (p : Int) < (m : Int) := by omega
      have hb2 : (p : Int) ≤ 64 := by omega
      obtain ⟨si, hsi⟩ : ∃ si, si = S i := ⟨_, rfl⟩
      obtain ⟨ci, hci⟩ : ∃ ci, ci = comeN T c S i := ⟨_, rfl⟩
      have hcl : ci.length = 32 := hci ▸ comeN_len HC.out i
      rw [← hsi] at hsc hsl
      have HXi : Hid (X i = if T i then underS ci si else underS si ci) := Lib.hid (by rw [HX.out, hci, hsi]; rfl)
      have HNX : Hid (comeN T c S (i + 1) = sum (X i).data.toList) := Lib.hid (by rw [HX.out]; exact comeN_succ T c S i)
      have r1 : wr.rangeAt sb (so + i * 32) (si.map byteV) := fun j v hj => by
        rw [← hsc j v hj]
        unfold World.cell?
        rw [NS.out.bel.block sb hsb]
      have NB : Hid (Has wr w.heap.size 38 (cellsOf ci)) := Lib.hid (hci ▸ NS.out.box)
      have HL := Lib.hid (And.intro hsl hcl)
      have htc2 : ∀ w', Below w.heap.size w w' → w'.cell? ⟨tb, to + p, none⟩ = some (.bool (T i)) := fun w' b => by
        rw [← htc]
        unfold World.cell?
        rw [b.block tb htb]
      have HTC := Lib.hid htc2
      have HP := Lib.hid hp
      clear htc htc2 hsc hsi hci hsl hcl hp
      go_wp2_with (first
        | ((with_reducible refine at_op 20 ?_); refine wpList_load_mid (op := ⟨some 20, _, _, _, _, _⟩) rfl 38 _ rfl sb (so + i * 32) rfl (si.map byteV) _ r1 Tryz.underlying38 rfl (by rw [List.length_map, HL.out.1]; kernel_rfl) ?_)
        | ((with_reducible refine at_store (.tmp 9) ?_); refine wpList_store_arr (o := ⟨none, _, _, _, _, _⟩) rfl 38 _ _ rfl wr.heap.size si (List.replicate 32 0) rfl rfl _ (made_at _ _ rfl) 32 (by kernel_rfl) (by simp) HL.out.1 ?_; intro W1 HW1 TW1; refine stay ?_)
        | fail)
      unfold Stay
      have A1 : Below wr.heap.size wr W1 := TW1.below (B := wr.heap.size) (by simp) (fun j hj e => by omega) |> fun b => ((Below.refl wr.heap.size wr).alloc (Nat.le_refl _) _).trans b
      have K1 : Hid (NodS w w.heap.size (w.heap.size + 1) m i (comeN T c S i) X W1 ∧ Has W1 w.heap.size 38 (cellsOf ci) ∧ Has W1 wr.heap.size 38 (cellsOf si) ∧ Below w.heap.size w W1) :=
        Lib.hid ⟨NS.out.more A1, NB.out.below A1 NB.out.lt, HW1, NS.out.bel.trans (A1.mono NS.out.bel.size)⟩
      have c1 := HTC.out W1 K1.out.2.2.2
      clear A1 HW1 TW1 NB NS r1
      have hfin : ∀ (u : ByteArray) (W2 : World), u = X i → NodS w w.heap.size (w.heap.size + 1) m i (comeN T c S i) X W2 → ∃ q, W2.cell? ⟨w.heap.size + 1, p, none⟩ = some q ∧ W2.frozen? ⟨w.heap.size + 1, p, none⟩ = false ∧
          NodS w w.heap.size (w.heap.size + 1) m (i + 1) (comeN T c S i) X (W2.setCell ⟨w.heap.size + 1, p, none⟩ (.string u)) := fun u W2 hu K => by
        refine ⟨_, (K.txt.cell p).trans (textsC_get hpm), K.txt.free _, ?_⟩
        have b : Below w.heap.size w (W2.setCell ⟨w.heap.size + 1, p, none⟩ (.string u)) :=
          (Turn.put (Turn.of_below (F := fun k => w.heap.size ≤ k) K.bel (fun j _ h => h)) (b := w.heap.size + 1) (fun _ => by omega) p _).below (Nat.le_refl _) (fun j hj => by omega)
        have k1 := K.txt.put p (.string u)
        rw [hu, HP.out, textsC_set h, ← HP.out, ← hu] at k1
        exact ⟨HR0.out.below b, K.box.far (p := ⟨w.heap.size + 1, p, none⟩) (by simp) _, k1, K.lo, b⟩
      have HF := Lib.hid hfin
      clear hfin
      rcases hTi : T i with _ | _
      case' true =>
        rw [hTi] at c1
        have HU : Hid (underS ci si = X i) := Lib.hid (by rw [HXi.out, hTi]; rfl)
        have hsz : (underS ci si).size < 1000000000000000000 := by rw [underS_size HL.out.2 HL.out.1]; omega
        clear hTi HXi
      case' false =>
        rw [hTi] at c1
        have HU : Hid (underS si ci = X i) := Lib.hid (by rw [HXi.out, hTi]; rfl)
        have hsz : (underS si ci).size < 1000000000000000000 := by rw [underS_size HL.out.1 HL.out.2]; omega
        clear hTi HXi
      all_goals
        have HSZ := Lib.hid hsz
        clear hsz
        go_wp2_with (first
          | ((with_reducible refine at_op 32 ?_); refine wpList_load_arr (o := ⟨some 32, _, _, _, _, _⟩) rfl 38 _ rfl w.heap.size rfl 38 ci 5 32 K1.out.2.1 Tryz.underlying38 (by kernel_rfl) HL.out.2 ?_)
          | ((with_reducible refine at_op 33 ?_); refine wpList_load_arr (o := ⟨some 33, _, _, _, _, _⟩) rfl 38 _ rfl wr.heap.size rfl 38 si 5 32 K1.out.2.2.1 Tryz.underlying38 (by kernel_rfl) HL.out.1 ?_)
          | ((with_reducible refine at_op 38 ?_); refine wpList_load_arr (o := ⟨some 38, _, _, _, _, _⟩) rfl 38 _ rfl wr.heap.size rfl 38 si 5 32 K1.out.2.2.1 Tryz.underlying38 (by kernel_rfl) HL.out.1 ?_)
          | ((with_reducible refine at_op 39 ?_); refine wpList_load_arr (o := ⟨some 39, _, _, _, _, _⟩) rfl 38 _ rfl w.heap.size rfl 38 ci 5 32 K1.out.2.1 Tryz.underlying38 (by kernel_rfl) HL.out.2 ?_)
          | fail)
        first
          | refine (under_calls ci si W1 HL.out.2 HL.out.1).mono ?_
          | refine (under_calls si ci W1 HL.out.1 HL.out.2).mono ?_
        rintro en w2 ⟨rfl, b2⟩
        have K2 : Hid (NodS w w.heap.size (w.heap.size + 1) m i (comeN T c S i) X w2) := Lib.hid (K1.out.1.more b2)
        obtain ⟨q, cq, fq, hq⟩ := HF.out _ w2 HU.out K2.out
        have K3 := Lib.hid hq
        clear K2 K1 b2 hq c1
        go_wp2_with fail
        rw [HU.out]
        rw [HU.out] at HSZ
        refine callsName (fun W3 hW3 => ?_)
        have K4 : Hid (NodS w w.heap.size (w.heap.size + 1) m (i + 1) (comeN T c S i) X W3) := Lib.hid (by rw [← hW3, ← HU.out]; exact K3.out)
        clear hW3 K3 cq fq
        refine (of_calls (X i) W3 K4.out.rk HSZ.out).mono ?_
        rintro en w4 ⟨rfl, b4⟩
        have K5 : Hid (NodS w w.heap.size (w.heap.size + 1) m (i + 1) (comeN T c S i) X w4) := Lib.hid (K4.out.more b4)
        rw [← HNX.out]
        clear K4 b4
        obtain ⟨cn, hcn⟩ : ∃ cn, cn = comeN T c S (i + 1) := ⟨_, rfl⟩
        obtain ⟨co, hco⟩ : ∃ co, co = comeN T c S i := ⟨_, rfl⟩
        rw [← hcn]
        have HN := Lib.hid hcn
        rw [← hco] at K5
        have HLN : Hid (cn.length = 32 ∧ co.length = 32) := Lib.hid ⟨hcn ▸ comeN_len HC.out _, hco ▸ comeN_len HC.out _⟩
        clear hcn hco
        go_wp2_with (first
          | ((with_reducible refine at_store (.tmp 4) ?_); refine wpList_store_arr (o := ⟨none, _, _, _, _, _⟩) rfl 38 _ _ rfl w.heap.size cn co rfl rfl _ K5.out.box 32 (by kernel_rfl) HLN.out.2 HLN.out.1 ?_; intro W6 HW6 TW6)
          | fail)
        have b : Below w.heap.size w W6 := K5.out.bel.trans (TW6.below K5.out.bel.size (fun j hj e => by omega))
        refine ⟨⟨i + 1, by rw [Int.natCast_add]; rfl, by omega, Lib.hid ⟨HR0.out.below b, HN.out ▸ HW6, K5.out.txt.turn TW6 (by omega), K5.out.lo, b⟩⟩, ?_⟩
        show m - ((i : Int) + 1).toNat < m - ((i : Int)).toNat
        omega
    · obtain rfl : i = m := by omega
      have h1 : ¬ (i : Int) < (i : Int) := by omega
      go_wp2_with fail
      go_ret
      exact ⟨_, rfl, NS.out.txt, NS.out.lo.2, NS.out.bel⟩
end Go.Proofs.YtdoadmkaoboncaaGreatDoor.clash
end

section
/- clash: Way, where it answers. -/
namespace Go.Proofs.YtdoadmkaoboncaaGreatDoor.clash
open Go Go.RowKit Go.Proofs.YtdoadmkaoboncaaGreatDoor.dig

/-- A leaf's text. -/
def leafT (s : ByteArray) : ByteArray := (⟨#[0]⟩ : ByteArray) ++ s
theorem leafT_size (s : ByteArray) : (leafT s).size = s.size + 1 := by
  simp only [leafT, ByteArray.size_append]
  rw [show (⟨#[0]⟩ : ByteArray).size = 1 from rfl]
  omega

/-- The texts of a way. -/
def wayL (m : Nat) (X : Nat → ByteArray) (s : ByteArray) : List Value := (List.range m).map (fun p => Value.string (X (m - 1 - p))) ++ [.string (leafT s)]
theorem textsC_full (m : Nat) (X : Nat → ByteArray) : (textsC m m X).toList = (List.range m).map (fun p => Value.string (X (m - 1 - p))) := by
  unfold textsC
  apply List.map_congr_left
  intro p hp
  rw [List.mem_range] at hp
  rw [if_pos (by omega)]

/-- A way was answered, in new memory. -/
def WayPost (w : World) (m : Nat) (X : Nat → ByteArray) (s : ByteArray) (en : Ending) (w' : World) : Prop :=
  ∃ v, en = .returned (.tuple #[v, .bool true]) ∧ Seg w' 9 1 v (m + 1) (wayL m X s) ∧ (∀ x, v.ownBlock = some x → w.heap.size ≤ x) ∧ Below w.heap.size w w'

set_option maxRecDepth 100000 in
set_option maxHeartbeats 2000000 in
theorem way_calls (s : ByteArray) (i n : Nat) (sv : Value) (SL : List (List UInt8)) (w : World) (hR : Rk w) (hin : i < n) (hn : n ≤ 1000000) (hss : s.size < 1000000000) (hlen : (turnsL i n).length = SL.length)
    (hs : Seg w 38 32 sv SL.length (sumsC SL)) (hSL : ∀ x ∈ SL, x.length = 32) :
    Calls Tryz.prog 56 #[.string s, .int .i64 i, .int .i64 n, sv] w (WayPost w SL.length (textN (fun k => (turnsL i n).getD (SL.length - 1 - k) false) (sum (leafT s).data.toList) (fun k => SL.getD k [])) s) := by
  obtain ⟨X, hX⟩ : ∃ X, X = textN (fun k => (turnsL i n).getD (SL.length - 1 - k) false) (sum (leafT s).data.toList) (fun k => SL.getD k []) := ⟨_, rfl⟩
  rw [← hX]
  have h64 : SL.length ≤ 64 := by rw [← hlen]; have := turnsL_le 20 n i (by omega); omega
  have HX := Lib.hid hX
  obtain ⟨m, hm⟩ : ∃ m, m = SL.length := ⟨_, rfl⟩
  rw [← hm] at hlen h64
  obtain ⟨sa, sc, hsv, hs1, hs2⟩ := hs.slice
  rw [← hm] at hsv
  subst hsv
  have HM := Lib.hid hm
  have HS := Lib.hid hs
  have HSL := Lib.hid hSL
  have HR := Lib.hid hR
  have HL := Lib.hid hlen
  rw [← hm]
  clear hX hm hs hSL hR hlen hs1 hs2
  have hmi : (m : Int) ≤ 64 := by omega
  have g1 : ¬ (i : Int) < 0 := by omega
  have g2 : ¬ (n : Int) ≤ (i : Int) := by omega
  have hni : (n : Int) ≤ 1000000 := by omega
  have hsz1 : (s.size : Int) < 1000000000 := by omega
  go_enter Tryz.func56, Tryz.ntmps56
  go_wp2_with fail
  refine (turns_calls i n w hin hn).mono ?_
  rintro en w1 ⟨tv, rfl, t1, tlo, b1⟩
  obtain ⟨ta, tc, htv, -, -⟩ := t1.slice
  rw [HL.out] at htv
  subst htv
  have K1 : Hid (Seg w1 4 1 (.slice ta m tc) (turnsL i n).length ((turnsL i n).map Value.bool) ∧ Seg w1 38 32 (.slice sa m sc) SL.length (sumsC SL) ∧ Rk w1 ∧ Below w.heap.size w w1) :=
    Lib.hid ⟨t1, HS.out.below b1 (fun x hx => HS.out.lt hx), HR.out.below b1, b1⟩
  clear t1 tlo b1 HS HR
  go_wp2_with fail
  rw [show (⟨#[0]⟩ : ByteArray) ++ s = leafT s from rfl]
  have HLT : Hid ((leafT s).size < 1000000000000000000) := Lib.hid (by rw [leafT_size]; omega)
  have HWL : Hid (wayL m X s = (textsC m m X).toList ++ [.string (leafT s)]) := Lib.hid (by rw [textsC_full]; rfl)
  obtain ⟨t, ht⟩ : ∃ t, t = leafT s := ⟨_, rfl⟩
  rw [← ht] at HLT HWL HX ⊢
  have HT := Lib.hid ht
  clear ht
  refine (of_calls t w1 K1.out.2.2.1 HLT.out).mono ?_
  rintro en w2 ⟨rfl, b2⟩
  have K2 : Hid (Seg w2 4 1 (.slice ta m tc) (turnsL i n).length ((turnsL i n).map Value.bool) ∧ Seg w2 38 32 (.slice sa m sc) SL.length (sumsC SL) ∧ Rk w2 ∧ Below w.heap.size w w2) :=
    Lib.hid ⟨K1.out.1.below b2 (fun x hx => K1.out.1.lt hx), K1.out.2.1.below b2 (fun x hx => K1.out.2.1.lt hx), K1.out.2.2.1.below b2, K1.out.2.2.2.trans (b2.mono K1.out.2.2.2.size)⟩
  clear K1 b2
  have HCL : Hid ((sum t.data.toList).length = 32) := Lib.hid (sum_length _)
  obtain ⟨c, hc⟩ : ∃ c, c = sum t.data.toList := ⟨_, rfl⟩
  rw [← hc] at HCL HX ⊢
  clear hc
  go_wp2_with fail
  refine (nodes_calls _ _ (turnsL i n) SL c w2 K2.out.2.2.1 HCL.out (HL.out.trans HM.out) (by rw [← HM.out]; exact h64) K2.out.1 K2.out.2.1 HSL.out).mono ?_
  rw [← HX.out, ← HM.out]
  rintro en w3 ⟨tg, rfl, h3, hlo, b3⟩
  have K3 : Hid (Seg w3 9 1 (.slice (some ⟨tg, 0, none⟩) m m) m (textsC m m X).toList ∧ w.heap.size ≤ tg ∧ Below w.heap.size w w3) :=
    Lib.hid ⟨Seg.of_has h3 (by rw [textsC_size, Nat.mul_one]) (by unfold maxLen; omega), Nat.le_trans K2.out.2.2.2.size hlo, K2.out.2.2.2.trans (b3.mono K2.out.2.2.2.size)⟩
  clear h3 hlo b3 K2
  obtain ⟨z0i, hi0, hz0, hz1, hz2⟩ := strZero
  have HI0 := Lib.hid hi0
  have HZ0 := Lib.hid hz0
  clear hi0 hz0
  go_wp2_with (first
    | ((with_reducible refine at_op 36 ?_); refine wpList_append_seg (o := ⟨some 36, _, _, _, _, _⟩) _ rfl (.tmp 33) (.tmp 35) 22 rfl 9 z0i (.string ByteArray.empty) 1 16 Tryz.underlying22 HI0.out HZ0.out hz1 hz2 rfl (by decide) (.slice (some ⟨tg, 0, none⟩) m m) m (textsC m m X).toList rfl (K3.out.1.alloc _) ⟨w3.heap.size, 0, none⟩ 1 1 [.string t] rfl rfl (World.news_of_block (heap_alloc_new _ _)) (by simp [Value.oneCell']) (by decide) (by unfold maxLen; omega) (by omega) _ rfl ?_;
       intro g off cp w4 hown hgrow hat hlt)
    | fail)
  go_ret2
  rw [← HWL.out] at hown
  refine ⟨_, rfl, hown, fun x hx => ?_, ?_⟩
  · have e : g = x := by simpa [Value.ownBlock] using hx
    rw [← e]
    rcases hat with h | h
    · have e : tg = g := by simpa [Value.ownBlock] using h
      rw [← e]; exact K3.out.2.1
    · rw [h]; exact Nat.le_trans K3.out.2.2.size (by simp)
  · exact (K3.out.2.2.alloc K3.out.2.2.size _).trans (below_own hgrow (fun x hx => by
      have e : tg = x := by simpa [Value.ownBlock] using hx
      rw [← e]; exact K3.out.2.1) (Nat.le_trans K3.out.2.2.size (by simp)))
end Go.Proofs.YtdoadmkaoboncaaGreatDoor.clash
end

section
/- Out of TreeJ: run_equal_sum, run_equal_same, turn_below, half_three, half_two, rt_three, path_three. -/
namespace Go.Proofs.YtdoadmkaoboncaaGreatDoor.dig
open Go Go.RowKit

theorem half_three : half 3 = 2 := by unfold half; decide +kernel
theorem half_two : half 2 = 1 := by unfold half; decide +kernel
theorem rt_three (f : Nat → List UInt8) : rtAll f 3 = nodeS (nodeS (f 0) (f 1)) (f 2) := by
  unfold rtAll
  rw [if_neg (by decide), rt_two f 0 (by decide), half_three, rt_two f 0 (by decide), half_two, rt_one, rt_one, rt_one]
theorem path_three (f : Nat → List UInt8) : path f 2 0 3 = [nodeS (f 0) (f 1)] := by
  rw [path, dif_pos (by decide), half_three, if_neg (by decide), show 3 - 2 = 1 from rfl, path, dif_neg (by decide), rt_two f 0 (by decide), half_two, rt_one, show 2 - 1 = 1 from rfl, rt_one]
  rfl

theorem run_equal_sum (xs ys : List UInt8) (hx : xs.length = 32) (hy : ys.length = 32) (w : World) : (Op.equalIn 10000 38 (.agg (cellsOf xs)) (.agg (cellsOf ys))).run Tryz.prog w = .ok (xs == ys) w := by
  have := run_equalIn_bytes (P := Tryz.prog) 9998 (t := 38) (e := 5) 32 Tryz.underlying38 Tryz.underlying5 (by kernel_rfl) xs ys hx hy w
  simpa using this
theorem run_equal_same (xs : List UInt8) (hx : xs.length = 32) (w : World) : (Op.equalIn 10000 38 (.agg (cellsOf xs)) (.agg (cellsOf xs))).run Tryz.prog w = .ok true w := by
  rw [run_equal_sum xs xs hx hx w]
  simp

/-- Below all that a turn reaches nothing turns. -/
theorem turn_below {F : Nat → Prop} {w w1 w' : World} {B : Nat} (b : Below B w w1) (t : Turn F w1 w') (hB : B ≤ w1.heap.size) (hF : ∀ k, F k → B ≤ k) : Below B w w' :=
  b.trans (t.below hB (fun j hj hf => by have := hF j hf; omega))
end Go.Proofs.YtdoadmkaoboncaaGreatDoor.dig
end

section
/- clash: rootOver. -/
namespace Go.Proofs.YtdoadmkaoboncaaGreatDoor.clash
open Go Go.RowKit Go.Proofs.YtdoadmkaoboncaaGreatDoor.dig

/-- What lasts while the root over some leaves is made. -/
structure OvS (w : World) (g off : Nat) (L : List ByteArray) (V : World) : Prop where
  rk : Rk V
  res : Has V w.heap.size 38 (cellsOf (List.replicate 32 0))
  lt : g < V.heap.size
  cells : ∀ i s, L[i]? = some s → V.cell? ⟨g, off + i, none⟩ = some (.string s)
  bel : Below w.heap.size w V
theorem OvS.below {w : World} {g off : Nat} {L : List ByteArray} {V V' : World} (h : OvS w g off L V) (b : Below V.heap.size V V') : OvS w g off L V' :=
  ⟨h.rk.below b, h.res.below b h.res.lt, Nat.lt_of_lt_of_le h.lt b.size, fun i s hs => by rw [← h.cells i s hs]; unfold World.cell?; rw [b.block g h.lt], h.bel.trans (b.mono h.bel.size)⟩

set_option maxRecDepth 100000 in
set_option maxHeartbeats 2000000 in
theorem over_calls (L : List ByteArray) (hsz : ∀ s ∈ L, s.size ≤ 1000000) (hLL : L.length ≤ 1000000) (g off : Nat) : ∀ (k : Nat) {a c : Nat} (w : World), 0 < k → a + k ≤ L.length → k ≤ c → c ≤ maxLen → Rk w → g < w.heap.size →
    (∀ i s, L[i]? = some s → w.cell? ⟨g, off + i, none⟩ = some (.string s)) →
    Calls Tryz.prog 62 #[.slice (some ⟨g, off + a, none⟩) k c] w fun en w' => en = .returned (.agg (cellsOf (rt (leafF L) a k))) ∧ Below w.heap.size w w' := by
  intro k
  induction k using Nat.strongRecOn with
  | _ k ih =>
  intro a c w hk ha hkc hc hR hg hcell
  have H0 : ∀ O, OvS w g off L (w.alloc O) → True := fun _ _ => trivial
  clear H0
  have HR := Lib.hid hR
  have HC := Lib.hid hcell
  have hc9 : (c : Int) ≤ 9223372036854775807 := by unfold maxLen at hc; omega
  clear hR hcell
  have B0 : ∀ t, Below w.heap.size w (w.alloc (.cells (cellsOf (List.replicate 32 0)) t)) := fun t => (Below.refl _ _).alloc (Nat.le_refl _) _
  have S0 : Hid (OvS w g off L (w.alloc (.cells (cellsOf (List.replicate 32 0)) 38))) := Lib.hid ⟨HR.out.below (B0 _), made_at _ _ rfl, Nat.lt_of_lt_of_le hg (B0 38).size, fun i s hs => by rw [← HC.out i s hs]; unfold World.cell?; rw [(B0 _).block g hg], B0 _⟩
  clear B0
  by_cases h1 : k = 1
  · subst h1
    obtain ⟨s, hs⟩ : ∃ s, L[a]? = some s := ⟨_, List.getElem?_eq_getElem (by omega)⟩
    have HE : Hid (rt (leafF L) a 1 = leafS s.data.toList) := Lib.hid (by rw [rt_one]; exact leafF_at L a s hs)
    have HS : Hid (s.size ≤ 1000000) := Lib.hid (hsz s (List.mem_of_getElem? hs))
    have c0 := S0.out.cells a s hs
    rw [show cellsOf (List.replicate 32 0) = (List.replicate 32 (Value.int .u8 0)).toArray from rfl] at c0
    simp only [List.replicate] at c0
    rw [HE.out]
    clear hs ih
    go_enter Tryz.func62, Tryz.ntmps62
    go_wp2_with fail
    refine callsName (fun W hW => ?_)
    have S1 : Hid (OvS w g off L W) := by rw [← hW]; exact S0
    clear hW S0 c0
    refine (leaf_calls s W S1.out.rk (by have := HS.out; omega)).mono ?_
    rintro en w2 ⟨rfl, b2⟩
    have S2 := Lib.hid (S1.out.below b2)
    clear S1 b2
    go_wp2_with (first
      | ((with_reducible refine at_store (.tmp 2) ?_); refine wpList_store_arr (o := ⟨none, _, _, _, _, _⟩) rfl 38 _ _ rfl w.heap.size (leafS s.data.toList) (List.replicate 32 0) rfl rfl _ S2.out.res 32 (by kernel_rfl) (by simp) (leafS_length _) ?_; intro W6 HW6 TW6)
      | fail)
    exact bodyPost_ret (v := .agg (cellsOf (leafS s.data.toList))) (results_cell_row rfl _ _ w.heap.size 38 _ _ _ rfl HW6 Tryz.underlying38 rfl (by rw [cellsOf_size, leafS_length]; kernel_rfl)) rfl
      ⟨rfl, S2.out.bel.trans (TW6.below S2.out.bel.size (fun j hj e => by omega))⟩
  · have hk2 : 2 ≤ k := by omega
    have h1' : ¬ (k : Int) = 1 := by omega
    have h0' : ¬ (k : Int) = 0 := by omega
    have hx3 := rt_two (leafF L) a hk2
    have hlt := half_lt hk2
    have hp := half_pos k
    obtain ⟨h, hh⟩ : ∃ h, h = half k := ⟨_, rfl⟩
    obtain ⟨h2, hh2⟩ : ∃ h2, h2 = k - h := ⟨_, rfl⟩
    obtain ⟨c2, hc2⟩ : ∃ c2, c2 = c - h := ⟨_, rfl⟩
    rw [← hh] at hlt hp hx3
    rw [← hh2] at hx3
    have hlt2 : h2 < k := by omega
    have hc3 : c2 ≤ maxLen := by omega
    obtain ⟨x1, hx1⟩ : ∃ x, x = rt (leafF L) a h := ⟨_, rfl⟩
    obtain ⟨x2, hx2⟩ : ∃ x, x = rt (leafF L) (a + h) h2 := ⟨_, rfl⟩
    obtain ⟨x3, hx3'⟩ : ∃ x, x = rt (leafF L) a k := ⟨_, rfl⟩
    have HL : Hid (x1.length = 32 ∧ x2.length = 32) := Lib.hid ⟨hx1 ▸ rt_length _ _ _ (fun i _ _ => leafF_len L i) (by omega), hx2 ▸ rt_length _ _ _ (fun i _ _ => leafF_len L i) (by omega)⟩
    have HL3 : Hid (x3.length = 32) := Lib.hid (hx3' ▸ rt_length _ _ _ (fun i _ _ => leafF_len L i) (by omega))
    rw [← hx1, ← hx2, ← hx3'] at hx3
    rw [← hx3']
    have HX1 := Lib.hid hx1.symm
    have HX2 := Lib.hid hx2.symm
    have HX3 := Lib.hid hx3.symm
    have HHH := Lib.hid hh
    have IH := Lib.hid ih
    have e1 : (k : Int) - (h : Int) = (h2 : Int) := by omega
    have e2 : (c : Int) - (h : Int) = (c2 : Int) := by omega
    have e3 : k - h = h2 := by omega
    have e4 : c - h = c2 := by omega
    have e5 : (h : Int) ≤ (k : Int) := by omega
    have e6 : (k : Int) ≤ (c : Int) := by omega
    have e7 : (h : Int) ≤ (c : Int) := by omega
    have e8 : ¬ c = h := by omega
    have C1 : Hid (∀ V, OvS w g off L V → Calls Tryz.prog 62 #[.slice (some ⟨g, off + a, none⟩) h c] V fun en w' => en = .returned (.agg (cellsOf x1)) ∧ OvS w g off L w') := Lib.hid fun V hV =>
      (IH.out h hlt (a := a) (c := c) V (by omega) (by omega) (by omega) hc hV.rk hV.lt hV.cells).mono (fun _ _ q => ⟨by rw [q.1, HX1.out], hV.below q.2⟩)
    have C2 : Hid (∀ V, OvS w g off L V → Calls Tryz.prog 62 #[.slice (some ⟨g, off + a + h, none⟩) h2 c2] V fun en w' => en = .returned (.agg (cellsOf x2)) ∧ OvS w g off L w') := Lib.hid fun V hV => by
      rw [Nat.add_assoc]
      exact (IH.out h2 hlt2 (a := a + h) (c := c2) V (by omega) (by omega) (by omega) hc3 hV.rk hV.lt hV.cells).mono (fun _ _ q => ⟨by rw [q.1, HX2.out], hV.below q.2⟩)
    have C3 : Hid (∀ V, OvS w g off L V → Calls Tryz.prog 88 #[.agg (cellsOf x1), .agg (cellsOf x2)] V fun en w' => en = .returned (.agg (cellsOf x3)) ∧ OvS w g off L w') := Lib.hid fun V hV =>
      (node_calls x1 x2 V hV.rk HL.out.1 HL.out.2).mono (fun _ _ q => ⟨by rw [q.1, HX3.out], hV.below q.2⟩)
    clear hx1 hx2 hx3 hx3' hh hh2 hc2 ih h1
    go_enter Tryz.func62, Tryz.ntmps62
    go_wp2_with (first
      | (go_at_call 87; refine (half_calls k _ hk2 (by omega)).mono ?_; rw [← HHH.out]; rintro e w' ⟨rfl, rfl⟩)
      | fail)
    refine wp_region_any (by kernel_rfl) ?_
    refine AnyL.any (S := OvS w g off L) (Wr := [9]) _ _ _ _ (S0.out.below (Below.refl _ _).drew) ?_
    refine AnyL.pure 0 (some 18) rfl rfl (by kernel_rfl) (by kernel_rfl) (by kernel_rfl) (fun _ _ _ h => h) (by kernel_rfl) (by kernel_rfl) (fun _ _ => rfl) ?_
    refine AnyL.pure 1 (some 19) rfl rfl (by kernel_rfl) (by kernel_rfl) (by kernel_rfl) (fun _ _ _ h => h) (by kernel_rfl) (by kernel_rfl) (fun _ _ => rfl) ?_
    refine AnyL.pure 2 (some 20) (v := .slice (some ⟨g, off + a, none⟩) h c) rfl rfl (by kernel_rfl) (by kernel_rfl) (by kernel_rfl) (fun _ _ _ h => h) (by kernel_rfl) (by kernel_rfl) (fun V _ => by go_simp) ?_
    refine AnyL.pure 4 (some 22) rfl rfl (by kernel_rfl) (by kernel_rfl) (by kernel_rfl) (fun _ _ _ h => h) (by kernel_rfl) (by kernel_rfl) (fun _ _ => rfl) ?_
    refine AnyL.pure 5 (some 23) rfl rfl (by kernel_rfl) (by kernel_rfl) (by kernel_rfl) (fun _ _ _ h => h) (by kernel_rfl) (by kernel_rfl) (fun _ _ => rfl) ?_
    refine AnyL.pure 6 (some 24) (v := .slice (some ⟨g, off + a + h, none⟩) h2 c2) rfl rfl (by kernel_rfl) (by kernel_rfl) (by kernel_rfl) (fun _ _ _ h => h) (by kernel_rfl) (by kernel_rfl) (fun V _ => by go_simp) ?_
    refine AnyL.call 3 (some 21) (.agg (cellsOf x1)) rfl rfl (by kernel_rfl) (by kernel_rfl) (by kernel_rfl) (fun _ _ _ h => h) (by kernel_rfl) (by kernel_rfl) 62 Tryz.f62 Tryz.func62 (by kernel_rfl) (by kernel_rfl) _ _ rfl #[.slice (some ⟨g, off + a, none⟩) h c] (by first | (simp [Act.eval]; done) | (simp [Act.eval, Act.put]; done)) (fun V hV => C1.out V hV) ?_
    simp only [Act.put, List.setIfInBounds_toArray, List.set_cons_zero, List.set_cons_succ]
    refine AnyL.call 7 (some 25) (.agg (cellsOf x2)) rfl rfl (by kernel_rfl) (by kernel_rfl) (by kernel_rfl) (fun _ _ _ h => h) (by kernel_rfl) (by kernel_rfl) 62 Tryz.f62 Tryz.func62 (by kernel_rfl) (by kernel_rfl) _ _ rfl #[.slice (some ⟨g, off + a + h, none⟩) h2 c2] (by first | (simp [Act.eval]; done) | (simp [Act.eval, Act.put]; done)) (fun V hV => C2.out V hV) ?_
    simp only [Act.put, List.setIfInBounds_toArray, List.set_cons_zero, List.set_cons_succ]
    refine AnyL.call 8 (some 26) (.agg (cellsOf x3)) rfl rfl (by kernel_rfl) (by kernel_rfl) (by kernel_rfl) (fun _ _ _ h => h) (by kernel_rfl) (by kernel_rfl) 88 Tryz.f88 Tryz.func88 (by kernel_rfl) (by kernel_rfl) _ _ rfl #[.agg (cellsOf x1), .agg (cellsOf x2)] (by first | (simp [Act.eval]; done) | (simp [Act.eval, Act.put]; done)) (fun V hV => C3.out V hV) ?_
    simp only [Act.put, List.setIfInBounds_toArray, List.set_cons_zero, List.set_cons_succ]
    refine AnyL.late (i := 9) (by kernel_rfl) (by decide) ?_
    intro V hV
    have HV := Lib.hid hV
    clear hV C1 C2 C3 IH
    refine wpOp_wp rfl (by kernel_rfl) ?_
    refine wp_store_row 38 _ _ rfl w.heap.size (cellsOf x3) rfl rfl 38 (cellsOf (List.replicate 32 0)) HV.out.res (by rw [cellsOf_size, HL3.out]; kernel_rfl) (by rw [cellsOf_size, cellsOf_size, HL3.out]; rfl) (cellsOf_one _) ?_
    have HW6 : Has (V.setRow w.heap.size (cellsOf x3)) w.heap.size 38 (cellsOf x3) := HV.out.res.row _
    have TW6 : Turn (fun k => k = w.heap.size) V (V.setRow w.heap.size (cellsOf x3)) := turn_row _ _ _
    generalize V.setRow w.heap.size (cellsOf x3) = W6 at *
    refine wpAny_done (by kernel_rfl) ?_ _
    simp only [Act.put]
    go_wp2_with fail
    exact bodyPost_ret (v := .agg (cellsOf x3)) (results_cell_row rfl _ _ w.heap.size 38 _ _ _ rfl HW6 Tryz.underlying38 rfl (by rw [cellsOf_size, HL3.out]; kernel_rfl)) rfl
      ⟨rfl, HV.out.bel.trans (TW6.below HV.out.bel.size (fun j hj e => by omega))⟩
end Go.Proofs.YtdoadmkaoboncaaGreatDoor.clash
end

section
/- clash: rootsAlong. -/
namespace Go.Proofs.YtdoadmkaoboncaaGreatDoor.clash
open Go Go.RowKit Go.Proofs.YtdoadmkaoboncaaGreatDoor.dig

/-- Cells stored one behind the other. -/
def putAll (cs : Array Value) : Nat → List Value → Array Value
  | _, [] => cs
  | o, v :: r => putAll (cs.setIfInBounds o v) (o + 1) r
theorem Has.puts {w : World} {g : Nat} {t : TypeId} : ∀ (vs : List Value) (o : Nat) {w : World} {cs : Array Value}, Has w g t cs → Has (w.setCells g o vs) g t (putAll cs o vs)
  | [], _, _, _, h => h
  | v :: r, o, _, _, h => Has.puts (w := w) r (o + 1) (h.put o v)
theorem below_puts {B : Nat} {w : World} {g : Nat} (hg : B ≤ g) : ∀ (vs : List Value) (o : Nat) {V : World}, Below B w V → Below B w (V.setCells g o vs)
  | [], _, _, h => h
  | v :: r, o, _, h => below_puts hg r (o + 1) (h.setCell hg v)
theorem putAll_size : ∀ (vs : List Value) (o : Nat) (cs : Array Value), (putAll cs o vs).size = cs.size
  | [], _, _ => rfl
  | v :: r, o, cs => by rw [putAll, putAll_size r (o + 1)]; simp
theorem putAll_get : ∀ (vs : List Value) (o : Nat) (cs : Array Value) (q : Nat), q < cs.size → (putAll cs o vs)[q]? = if o ≤ q ∧ q < o + vs.length then vs[q - o]? else cs[q]?
  | [], o, cs, q, _ => by rw [putAll, if_neg (by simp <;> omega)]
  | v :: r, o, cs, q, hq => by
    rw [putAll, putAll_get r (o + 1) _ q (by simpa using hq)]
    by_cases h : o = q
    · subst h
      rw [if_neg (by omega), if_pos (by simp), Nat.sub_self, Array.getElem?_setIfInBounds, if_pos rfl, if_pos hq]
      rfl
    · by_cases h1 : o + 1 ≤ q ∧ q < o + 1 + r.length
      · rw [if_pos h1, if_pos (by simp; omega), show q - o = q - (o + 1) + 1 by omega, List.getElem?_cons_succ]
      · rw [if_neg h1, if_neg (by simp; omega), Array.getElem?_setIfInBounds, if_neg h]

/-- Sums from within out, as they are made from outside in: i of m are there. -/
def besC (X : Nat → List UInt8) (m i : Nat) : List Value := flat (fun j => (if m - 1 - j < i then X (m - 1 - j) else List.replicate 32 0).map byteV) 0 m
theorem bes_each {X : Nat → List UInt8} {m : Nat} (hX : ∀ j, j < m → (X j).length = 32) (i : Nat) : ∀ j, 0 ≤ j → j < 0 + m → ((fun j => (if m - 1 - j < i then X (m - 1 - j) else List.replicate 32 0).map byteV) j).length = 32 := fun j _ hj => by
  simp only [List.length_map]
  split
  · exact hX _ (by omega)
  · simp
theorem besC_len {X : Nat → List UInt8} {m : Nat} (hX : ∀ j, j < m → (X j).length = 32) (i : Nat) : (besC X m i).length = m * 32 := flat_len (bes_each hX i)
theorem besC_zero (X : Nat → List UInt8) (m : Nat) : (madeCells (List.replicate 32 (Value.int .u8 0)).toArray (m * 32)).toList = besC X m 0 := by
  have hb : byteV 0 = Value.int .u8 0 := rfl
  have e : besC X m 0 = flat (fun _ => (List.replicate 32 (Value.int .u8 0))) 0 m := flat_congr (fun j _ _ => by simp only [Nat.not_lt_zero, if_false, List.map_replicate, hb])
  rw [e]
  apply List.ext_getElem?
  intro q
  by_cases hq : q < m * 32
  · have h1 : q / 32 < m := by omega
    have h2 : q % 32 < 32 := Nat.mod_lt _ (by decide)
    have e2 := flat_get (g := fun _ => List.replicate 32 (Value.int .u8 0)) (a := 0) (k := m) (w := 32) (fun _ _ _ => by simp) h1 h2
    rw [show q / 32 * 32 + q % 32 = q by omega] at e2
    rw [e2]
    simp [madeCells, hq, h2]
  · rw [List.getElem?_eq_none (by rw [Array.length_toList, size_madeCells]; omega), List.getElem?_eq_none (by rw [flat_len (w := 32) (fun _ _ _ => by simp)]; omega)]
theorem besC_step {X : Nat → List UInt8} {m i : Nat} (hX : ∀ j, j < m → (X j).length = 32) (hi : i < m) : putAll (besC X m i).toArray ((m - 1 - i) * 32) ((X i).map byteV) = (besC X m (i + 1)).toArray := by
  apply Array.ext_getElem?
  intro q
  have hl : ((X i).map byteV).length = 32 := by rw [List.length_map, hX i hi]
  by_cases hq : q < m * 32
  · rw [putAll_get _ _ _ _ (by rw [List.size_toArray, besC_len hX]; exact hq), hl, List.getElem?_toArray, List.getElem?_toArray]
    have h1 : q / 32 < m := by omega
    have h2 : q % 32 < 32 := Nat.mod_lt _ (by decide)
    have e1 := flat_get (bes_each hX i) h1 h2
    have e2 := flat_get (bes_each hX (i + 1)) h1 h2
    rw [show q / 32 * 32 + q % 32 = q by omega] at e1 e2
    unfold besC
    rw [e1, e2]
    simp only [Nat.zero_add]
    by_cases h : (m - 1 - i) * 32 ≤ q ∧ q < (m - 1 - i) * 32 + 32
    · rw [if_pos h, if_pos (by omega), show m - 1 - q / 32 = i by omega, show q - (m - 1 - i) * 32 = q % 32 by omega]
    · rw [if_neg h]
      by_cases h3 : m - 1 - q / 32 < i
      · rw [if_pos h3, if_pos (by omega)]
      · rw [if_neg h3, if_neg (by omega)]
  · rw [Array.getElem?_eq_none (by rw [putAll_size, List.size_toArray, besC_len hX]; omega), Array.getElem?_eq_none (by rw [List.size_toArray, besC_len hX]; omega)]
theorem besC_full (l : List (List UInt8)) : besC (fun j => l.getD j []) l.length l.length = sumsC l.reverse := by
  have h : ∀ (r : List (List UInt8)) (a : Nat) (G : Nat → List Value), (∀ j x, r[j]? = some x → G (a + j) = x.map byteV) → flat G a r.length = sumsC r := by
    intro r
    induction r with
    | nil => intro a G _; rfl
    | cons x r ih =>
      intro a G hG
      rw [List.length_cons, flat_succ, ih (a + 1) G (fun j y hj => by rw [Nat.add_assoc, Nat.add_comm 1 j]; exact hG (j + 1) y (by simpa using hj))]
      have := hG 0 x rfl
      rw [Nat.add_zero] at this
      rw [this]
      simp [sumsC]
  unfold besC
  have hl : l.length = l.reverse.length := by simp
  conv => lhs; arg 3; rw [hl]
  refine h l.reverse 0 _ (fun j x hj => ?_)
  have hj' : j < l.length := by have := (List.getElem?_eq_some_iff.1 hj).1; simpa using this
  rw [List.getElem?_reverse hj'] at hj
  simp only [Nat.zero_add]
  rw [if_pos (by omega), List.getD_eq_getElem?_getD, hj]
  rfl

theorem sumInfoZ : ∃ i z, Tryz.prog.info? 38 = some i ∧ i.zero = some z ∧ i.size = 32 ∧ z.cells = (List.replicate 32 (Value.int .u8 0)).toArray ∧ i.bytes = 32 := by
  have h2 : (Tryz.prog.info? 38).map (fun i => (i.zero.map (fun z => z.cells), i.size, i.bytes)) = some (some (List.replicate 32 (Value.int .u8 0)).toArray, 32, 32) := by kernel_rfl
  obtain ⟨i, hi, e⟩ := Option.map_eq_some_iff.1 h2
  simp only [Prod.mk.injEq] at e
  obtain ⟨e1, e2, e3⟩ := e
  obtain ⟨z, hz, e4⟩ := Option.map_eq_some_iff.1 e1
  exact ⟨i, z, hi, hz, e2, e4, e3⟩

theorem wpList_val {P : Program} {ops : Array Oper} {rest : List Oper} {o : Oper} {a : Act} {w : World} {Q : Exit → Act → World → Prop} (hgd : o.guard = none) (v : Value) (hx : (execOp a.eval o).run P w = .ok (.value v) w) (h : wpList P ops Q rest (a.put o.dst v) w) : wpList P ops Q (o :: rest) a w :=
  wpList_plain hgd fun K hK => by
    unfold Oper.wp
    rw [hx]
    exact hK _ _ h
theorem wpList_name2 {P : Program} {ops : Array Oper} {rest : List Oper} {a : Act} {w : World} {Q : Exit → Act → World → Prop} (h : ∀ W, w = W → wpList P ops Q rest a W) : wpList P ops Q rest a w := h w rfl
theorem turn_puts (b : Nat) : ∀ (vs : List Value) (o : Nat) (w : World), Turn (fun k => k = b) w (w.setCells b o vs)
  | [], _, w => Turn.refl _ w
  | v :: r, o, w => ((Turn.refl (fun k => k = b) w).put (fun _ => rfl) o v).trans (turn_puts b r (o + 1) _) (fun _ _ h => h)

/-- What lasts while roots are made: i of m are there. -/
structure RoS (w : World) (tv : Value) (T : List Bool) (g off : Nat) (L : List ByteArray) (X : Nat → List UInt8) (m i : Nat) (V : World) : Prop where
  rk : Rk V
  res : Has V w.heap.size 38 (cellsOf (List.replicate 32 0))
  bes : Has V (w.heap.size + 1) 38 (besC X m i).toArray
  tur : Seg V 4 1 tv T.length (T.map Value.bool)
  lt : g < w.heap.size
  cells : ∀ i s, L[i]? = some s → V.cell? ⟨g, off + i, none⟩ = some (.string s)
  bel : Below w.heap.size w V
theorem RoS.below {w : World} {tv : Value} {T : List Bool} {g off : Nat} {L : List ByteArray} {X : Nat → List UInt8} {m i : Nat} {V V' : World} (h : RoS w tv T g off L X m i V) (b : Below V.heap.size V V') : RoS w tv T g off L X m i V' :=
  ⟨h.rk.below b, h.res.below b h.res.lt, h.bes.below b h.bes.lt, h.tur.below b (fun x hx => h.tur.lt hx), h.lt, fun i s hs => by rw [← h.cells i s hs]; unfold World.cell?; rw [b.block g (Nat.lt_of_lt_of_le h.lt h.bel.size)], h.bel.trans (b.mono h.bel.size)⟩

/-- Roots were answered. -/
def RootsPost (w : World) (E : List UInt8) (SL : List (List UInt8)) (en : Ending) (w' : World) : Prop :=
  ∃ bg, en = .returned (.tuple #[.agg (cellsOf E), .slice (some ⟨bg, 0, none⟩) SL.length SL.length]) ∧ Seg w' 38 32 (.slice (some ⟨bg, 0, none⟩) SL.length SL.length) SL.length (sumsC SL) ∧ w.heap.size ≤ bg ∧ Below w.heap.size w w'

set_option maxRecDepth 100000 in
set_option maxHeartbeats 4000000 in
theorem roots_calls (L : List ByteArray) (hsz : ∀ s ∈ L, s.size ≤ 1000000) (hLL : L.length ≤ 1000000) (g off q n c : Nat) (hq : q < n) (hn : n ≤ L.length) (hnc : n ≤ c) (hcm : c ≤ maxLen) (tv : Value) (w : World) (hR : Rk w) (hg : g < w.heap.size)
    (hcell : ∀ i s, L[i]? = some s → w.cell? ⟨g, off + i, none⟩ = some (.string s)) (ht : Seg w 4 1 tv (turnsP q n).length ((turnsP q n).map Value.bool)) :
    Calls Tryz.prog 91 #[tv, .slice (some ⟨g, off, none⟩) n c] w (RootsPost w (endX (leafF L) (turnsP q n) 0 n) (besideX (leafF L) (turnsP q n) 0 n).reverse) := by
  obtain ⟨T, hT⟩ : ∃ T, T = turnsP q n := ⟨_, rfl⟩
  rw [← hT] at ht ⊢
  obtain ⟨BX, hBX⟩ : ∃ BX, BX = besideX (leafF L) T 0 n := ⟨_, rfl⟩
  obtain ⟨E, hE⟩ : ∃ E, E = endX (leafF L) T 0 n := ⟨_, rfl⟩
  rw [← hBX, ← hE]
  obtain ⟨X, hX⟩ : ∃ X : Nat → List UInt8, X = fun j => BX.getD j [] := ⟨_, rfl⟩
  obtain ⟨m, hm⟩ : ∃ m, m = T.length := ⟨_, rfl⟩
  have hbl : BX.length = m := by rw [hBX, besideX_len, hm]
  have hall := beside_all (leafF L) (leafF_len L) n q 0 hq
  rw [← hT, ← hBX, ← hE] at hall
  have hX32 : ∀ j, j < m → (X j).length = 32 := fun j hj => by
    rw [hX]
    simp only [List.getD_eq_getElem?_getD, List.getElem?_eq_getElem (show j < BX.length by omega), Option.getD_some]
    exact hall.1 _ (List.getElem_mem _)
  have hm64 : m ≤ 64 := by rw [hm, hT]; have := turnsP_le 20 n q (by omega); omega
  obtain ⟨ta, tc, htv, ht1, ht2⟩ := ht.slice
  rw [← hm] at htv
  subst htv
  have H := Lib.hid (show _ ∧ _ ∧ _ ∧ _ ∧ _ from ⟨hX32, hbl, hall, hsz, hLL⟩)
  have HT := Lib.hid (show _ ∧ _ ∧ _ ∧ _ ∧ _ from ⟨hT, hBX, hE, hX, hm⟩)
  have hmi : (m : Int) ≤ 64 := by omega
  have hmt : (m : Int) ≤ (tc : Int) := by omega
  have hmk : (Instr.makeSlice 23 (.int .i64 (m : Int)) (.int .i64 (m : Int))).run Tryz.prog (w.alloc (.cells (cellsOf (List.replicate 32 0)) 38)) = .ok (.slice (some ⟨w.heap.size + 1, 0, none⟩) m m) ((w.alloc (.cells (cellsOf (List.replicate 32 0)) 38)).alloc (.cells (besC X m 0).toArray 38)) := by
    obtain ⟨i0, z0, hi0, hz0, hz1, hz2, hz3⟩ := sumInfoZ
    have h := run_make (P := Tryz.prog) (w.alloc (.cells (cellsOf (List.replicate 32 0)) 38)) 23 38 i0 z0 Tryz.underlying23 hi0 hz0 .i64 .i64 (m : Int) (m : Int) (by omega) (by omega) (by rw [hz3]; omega) (by omega)
    rw [Int.toNat_natCast, hz1, hz2] at h
    rw [h, ← besC_zero X m]
    simp
  rw [show cellsOf (List.replicate 32 0) = (List.replicate 32 (Value.int .u8 0)).toArray from rfl] at hmk
  simp only [List.replicate] at hmk
  have HR := Lib.hid (show _ ∧ _ ∧ _ ∧ _ ∧ _ ∧ _ from ⟨hR, hg, hcell, ht, hnc, hcm⟩)
  have HN := Lib.hid (show _ ∧ _ from ⟨hq, hn⟩)
  clear hR hg hcell ht hnc hcm hq hn hX32 hbl hall hsz hLL hT hBX hE hX hm ht1 ht2
  go_enter Tryz.func91, Tryz.ntmps91
  go_wp2_with fail
  clear hmk
  have S0 : Hid (RoS w (.slice ta m tc) T g off L X m 0 ((w.alloc (.cells (cellsOf (List.replicate 32 0)) 38)).alloc (.cells (besC X m 0).toArray 38))) := by
    obtain ⟨h1, h2, h3, h4, _, _⟩ := HR.out
    have bb : Below w.heap.size w ((w.alloc (.cells (cellsOf (List.replicate 32 0)) 38)).alloc (.cells (besC X m 0).toArray 38)) := ((Below.refl _ _).alloc (Nat.le_refl _) _).alloc (by simp) _
    exact Lib.hid ⟨h1.below bb, (made_at _ _ rfl).alloc _, made_at _ _ (by simp), h4.below bb (fun x hx => h4.lt hx), h2, fun i s hs => by rw [← h3 i s hs]; unfold World.cell?; rw [bb.block g h2], bb⟩
  go_loopw [1, 17] (fun v x wr => ∃ i q' a k cc : Nat, v = .slice (some ⟨g, off + a, none⟩) k cc ∧ x = .int .i64 i ∧ i ≤ m ∧ Hid (q' < k ∧ a + k ≤ L.length ∧ k ≤ cc ∧ cc ≤ maxLen ∧ turnsP q' k = T.drop i ∧ besideX (leafF L) (T.drop i) a k = BX.drop i ∧ endX (leafF L) (T.drop i) a k = E) ∧ Hid (RoS w (.slice ta m tc) T g off L X m i wr)) (fun _ x _ => m - (intOf x).toNat)
  case atStart => exact ⟨0, q, 0, n, c, rfl, rfl, Nat.zero_le _, Lib.hid ⟨HN.out.1, by rw [Nat.zero_add]; exact HN.out.2, HR.out.2.2.2.2.1, HR.out.2.2.2.2.2, HT.out.1.symm, HT.out.2.1.symm, HT.out.2.2.1.symm⟩, S0⟩
  case round =>
    clear S0
    obtain ⟨i, q', a, k, cc, rfl, rfl, him, HI, HS⟩ := hrel
    by_cases hin : i < m
    · have h1 : (i : Int) < (m : Int) := by omega
      obtain ⟨b, hb⟩ : ∃ b, T[i]? = some b := ⟨_, List.getElem?_eq_getElem (by have := HT.out.2.2.2.2; omega)⟩
      have hd : T.drop i = b :: T.drop (i + 1) := by
        obtain ⟨hl, he⟩ := List.getElem?_eq_some_iff.1 hb
        rw [List.drop_eq_getElem_cons hl, he]
      obtain ⟨gt, ot, rfl, hct⟩ : ∃ gt ot, ta = some ⟨gt, ot, none⟩ ∧ wr.cell? ⟨gt, ot + i, none⟩ = some (.bool b) := by
        obtain ⟨gt, ot, c', hv, _, _, _, hc⟩ := HS.out.tur.cells (by have := HT.out.2.2.2.2; omega)
        simp only [Value.slice.injEq] at hv
        exact ⟨gt, ot, hv.1, hc i _ (by rw [List.getElem?_map, hb]; rfl)⟩
      have hk2 : 2 ≤ k := by
        have h5 := HI.out.2.2.2.2.1
        rw [hd] at h5
        rcases Nat.lt_or_ge (q' + 1) k with h6 | h6
        · omega
        · rw [turnsP_end h6] at h5; cases h5
      have hlt := half_lt hk2
      have hp := half_pos k
      obtain ⟨h, hh⟩ : ∃ h, h = half k := ⟨_, rfl⟩
      obtain ⟨h2, hh2⟩ : ∃ h2, h2 = k - h := ⟨_, rfl⟩
      obtain ⟨c2, hc2⟩ : ∃ c2, c2 = cc - h := ⟨_, rfl⟩
      rw [← hh] at hlt hp
      have HH := Lib.hid hh
      have HC2 := Lib.hid (show _ ∧ _ from ⟨hh2, hc2⟩)
      have hk6 : k ≤ 1000000000000 := by have := HI.out.2.1; have := H.out.2.2.2.2; omega
      have hkcc : k ≤ cc ∧ (cc : Int) ≤ 9223372036854775807 := by have := HI.out; unfold maxLen at this; omega
      have hkb : (k : Int) ≤ 1000000 := by have := HI.out.2.1; have := H.out.2.2.2.2; omega
      have e1 : (k : Int) - (h : Int) = (h2 : Int) := by omega
      have e2 : (cc : Int) - (h : Int) = (c2 : Int) := by omega
      have e3 : k - h = h2 := by omega
      have e4 : cc - h = c2 := by omega
      have e5 : (h : Int) ≤ (k : Int) := by omega
      have e6 : (k : Int) ≤ (cc : Int) := by omega
      have e7 : (h : Int) ≤ (cc : Int) := by omega
      have e8 : ¬ cc = h := by omega
      have e9 : (m : Int) - 1 - (i : Int) = ((m - 1 - i : Nat) : Int) := by omega
      obtain ⟨j, hj⟩ : ∃ j, j = m - 1 - i := ⟨_, rfl⟩
      rw [← hj] at e9
      have hjm : (j : Int) < (m : Int) := by omega
      have hj0 : (0 : Int) ≤ (j : Int) := by omega
      have HJ := Lib.hid (show _ ∧ _ ∧ _ from ⟨hj, hin, hb⟩)
      have HD := Lib.hid hd
      have e0 : Hid (wr.cell? ⟨gt, ot + i, none⟩ = some (.bool b)) := Lib.hid hct
      clear hb hd hh hh2 hc2 hj him
      cases b
      case' true =>
        obtain ⟨na, hna⟩ : ∃ na, na = a := ⟨_, rfl⟩
        obtain ⟨nk, hnk⟩ : ∃ nk, nk = h := ⟨_, rfl⟩
        obtain ⟨fa, hfa⟩ : ∃ fa, fa = a + h := ⟨_, rfl⟩
        obtain ⟨fk, hfk⟩ : ∃ fk, fk = h2 := ⟨_, rfl⟩
        have HF : Hid (∀ V, RoS w (.slice (some ⟨gt, ot, none⟩) m tc) T g off L X m i V → Calls Tryz.prog 62 #[.slice (some ⟨g, off + a + h, none⟩) h2 c2] V fun en w' => en = .returned (.agg (cellsOf (X i))) ∧ RoS w (.slice (some ⟨gt, ot, none⟩) m tc) T g off L X m i w') := Lib.hid fun V hV => by
          rw [Nat.add_assoc]
          refine (over_calls L H.out.2.2.2.1 H.out.2.2.2.2 g off h2 (a := a + h) (c := c2) V (by omega) (by have := HI.out; omega) (by have := HC2.out; omega) (by have := HI.out; have := HC2.out; omega) hV.rk (Nat.lt_of_lt_of_le hV.lt hV.bel.size) hV.cells).mono fun _ _ h => ⟨?_, hV.below h.2⟩
          rw [h.1]
          have h5 := HI.out.2.2.2.2.2.1
          rw [HD.out, besideX] at h5
          have h6 : BX[i]? = some (rt (leafF L) (a + half k) (k - half k)) := by
            have := congrArg (fun l => l[0]?) h5
            simpa using this.symm
          rw [HT.out.2.2.2.1]
          simp only [List.getD_eq_getElem?_getD, h6, Option.getD_some, ← HH.out]
          rw [HC2.out.1]
        have HX2 : Hid (∃ q2, q2 < h ∧ turnsP q2 h = T.drop (i + 1) ∧ besideX (leafF L) (T.drop (i + 1)) a h = BX.drop (i + 1) ∧ endX (leafF L) (T.drop (i + 1)) a h = E) := Lib.hid (by
          obtain ⟨x1, x2, x3, x4, x5, x6, x7⟩ := HI.out
          have x8 := x5
          rw [HD.out] at x5 x6 x7
          rw [besideX, ← HH.out] at x6
          rw [endX, ← HH.out] at x7
          have hq1 : q' + 1 < k := by
            rcases Nat.lt_or_ge (q' + 1) k with h6 | h6
            · exact h6
            · rw [turnsP_end h6] at x5; cases x5
          have hq2 : q' < h := by
            rcases Nat.lt_or_ge q' (half k) with h6 | h6
            · rw [HH.out]; exact h6
            · rw [turnsP_right hq1 (by omega)] at x5; simp at x5
          rw [turnsP_left hq1 (by rw [← HH.out]; exact hq2), ← HH.out] at x5
          refine ⟨q', hq2, (List.cons.inj x5).2, ?_, x7⟩
          have := congrArg (List.drop 1) x6
          simpa [List.drop_drop, Nat.add_comm] using this)
      case' false =>
        obtain ⟨na, hna⟩ : ∃ na, na = a + h := ⟨_, rfl⟩
        obtain ⟨nk, hnk⟩ : ∃ nk, nk = h2 := ⟨_, rfl⟩
        obtain ⟨fa, hfa⟩ : ∃ fa, fa = a := ⟨_, rfl⟩
        obtain ⟨fk, hfk⟩ : ∃ fk, fk = h := ⟨_, rfl⟩
        have HF : Hid (∀ V, RoS w (.slice (some ⟨gt, ot, none⟩) m tc) T g off L X m i V → Calls Tryz.prog 62 #[.slice (some ⟨g, off + a, none⟩) h cc] V fun en w' => en = .returned (.agg (cellsOf (X i))) ∧ RoS w (.slice (some ⟨gt, ot, none⟩) m tc) T g off L X m i w') := Lib.hid fun V hV => by
          refine (over_calls L H.out.2.2.2.1 H.out.2.2.2.2 g off h (a := a) (c := cc) V (by omega) (by have := HI.out; omega) (by have := HI.out; omega) (by have := HI.out; omega) hV.rk (Nat.lt_of_lt_of_le hV.lt hV.bel.size) hV.cells).mono fun _ _ h => ⟨?_, hV.below h.2⟩
          rw [h.1]
          have h5 := HI.out.2.2.2.2.2.1
          rw [HD.out, besideX] at h5
          have h6 : BX[i]? = some (rt (leafF L) a (half k)) := by
            have := congrArg (fun l => l[0]?) h5
            simpa using this.symm
          rw [HT.out.2.2.2.1]
          simp only [List.getD_eq_getElem?_getD, h6, Option.getD_some, ← HH.out]
        have HX2 : Hid (∃ q2, q2 < h2 ∧ turnsP q2 h2 = T.drop (i + 1) ∧ besideX (leafF L) (T.drop (i + 1)) (a + h) h2 = BX.drop (i + 1) ∧ endX (leafF L) (T.drop (i + 1)) (a + h) h2 = E) := Lib.hid (by
          obtain ⟨x1, x2, x3, x4, x5, x6, x7⟩ := HI.out
          rw [HD.out] at x5 x6 x7
          rw [besideX, ← HH.out, ← HC2.out.1] at x6
          rw [endX, ← HH.out, ← HC2.out.1] at x7
          have hq1 : q' + 1 < k := by
            rcases Nat.lt_or_ge (q' + 1) k with h6 | h6
            · exact h6
            · rw [turnsP_end h6] at x5; cases x5
          have hq2 : ¬ q' < h := by
            intro h6
            rw [turnsP_left hq1 (by rw [← HH.out]; exact h6)] at x5
            simp at x5
          rw [turnsP_right hq1 (by rw [← HH.out]; exact hq2), ← HH.out, ← HC2.out.1] at x5
          refine ⟨q' - h, by have := HC2.out.1; omega, (List.cons.inj x5).2, ?_, x7⟩
          have := congrArg (List.drop 1) x6
          simpa [List.drop_drop, Nat.add_comm] using this)
      all_goals
        go_wp2_with (first
          | (go_at_call 87; refine (half_calls k _ hk2 hk6).mono ?_; rw [← HH.out]; rintro e w' ⟨rfl, rfl⟩)
          | fail)
        refine wp_region_S (S := RoS w (.slice (some ⟨gt, ot, none⟩) m tc) T g off L X m i) (by kernel_rfl) (HS.out.below (Below.refl _ _).drew) ?_
        refine AnyS.pure 0 (some 25) (v := .slice (some ⟨g, off + a, none⟩) k cc) rfl rfl (by kernel_rfl) (by kernel_rfl) (by kernel_rfl) (fun _ _ _ h => h) (by kernel_rfl) (fun V hV => by rfl) ?_
        refine AnyS.pure 1 (some 26) (v := .int .i64 h) rfl rfl (by kernel_rfl) (by kernel_rfl) (by kernel_rfl) (fun _ _ _ h => h) (by kernel_rfl) (fun V hV => by rfl) ?_
        simp only [Act.put, List.setIfInBounds_toArray, List.set_cons_zero, List.set_cons_succ]
        refine AnyS.pure 2 (some 27) (v := .slice (some ⟨g, off + a + h, none⟩) h2 c2) rfl rfl (by kernel_rfl) (by kernel_rfl) (by kernel_rfl) (fun _ _ _ h => h) (by kernel_rfl) (fun V hV => by go_simp) ?_
        refine AnyS.pure 3 (some 28) (v := .slice (some ⟨g, off + a, none⟩) k cc) rfl rfl (by kernel_rfl) (by kernel_rfl) (by kernel_rfl) (fun _ _ _ h => h) (by kernel_rfl) (fun V hV => by rfl) ?_
        simp only [Act.put, List.setIfInBounds_toArray, List.set_cons_zero, List.set_cons_succ]
        refine AnyS.pure 4 (some 29) (v := .int .i64 h) rfl rfl (by kernel_rfl) (by kernel_rfl) (by kernel_rfl) (fun _ _ _ h => h) (by kernel_rfl) (fun V hV => by rfl) ?_
        refine AnyS.pure 5 (some 30) (v := .slice (some ⟨g, off + a, none⟩) h cc) rfl rfl (by kernel_rfl) (by kernel_rfl) (by kernel_rfl) (fun _ _ _ h => h) (by kernel_rfl) (fun V hV => by go_simp) ?_
        simp only [Act.put, List.setIfInBounds_toArray, List.set_cons_zero, List.set_cons_succ]
        refine AnyS.pure 6 (some 10) (v := .slice (some ⟨g, off + a + h, none⟩) h2 c2) rfl rfl (by kernel_rfl) (by kernel_rfl) (by kernel_rfl) (fun _ _ _ h => h) (by kernel_rfl) (fun V hV => by rfl) ?_
        refine AnyS.pure 7 (some 11) (v := .slice (some ⟨g, off + a, none⟩) h cc) rfl rfl (by kernel_rfl) (by kernel_rfl) (by kernel_rfl) (fun _ _ _ h => h) (by kernel_rfl) (fun V hV => by rfl) ?_
        simp only [Act.put, List.setIfInBounds_toArray, List.set_cons_zero, List.set_cons_succ]
        refine AnyS.done (by kernel_rfl) (fun V hV => ?_) _
        have HV := Lib.hid hV
        clear hV HS hct
        go_wp2_with fail
        refine (HF.out V HV.out).mono ?_
        rintro en w3 ⟨rfl, s3⟩
        have H3 := Lib.hid s3
        clear s3 HV HF
        have hth : w3.there (w.heap.size + 1) (j * 32) (cellsOf (X i)).size := fun r hr => by
          have hX := H.out.1 i HJ.out.2.1
          rw [cellsOf_size, hX] at hr
          exact ⟨by
            rw [H3.out.bes.cell, List.getElem?_toArray, List.getElem?_eq_getElem (by rw [besC_len H.out.1]; have := HJ.out.1; have := HJ.out.2.1; omega)]
            rfl, H3.out.bes.free _⟩
        have HTH := Lib.hid hth
        clear hth
        have hcz : (cellsOf (X i)).size = 32 := by rw [cellsOf_size, H.out.1 i HJ.out.2.1]
        have hcz2 : (X i).length = 32 := H.out.1 i HJ.out.2.1
        have hst : (storeCells ⟨w.heap.size + 1, j * 32, none⟩ (cellsOf (X i)).toList).run Tryz.prog w3 = .ok () (w3.setCells (w.heap.size + 1) (j * 32) (cellsOf (X i)).toList) := by
          have := run_storeCells_cells (P := Tryz.prog) (w.heap.size + 1) (j * 32) (cellsOf (X i)).toList 0 w3 (fun r hr => by simpa using (HTH.out r (by simpa using hr)).1) (fun r hr => by simpa using (HTH.out r (by simpa using hr)).2)
            (fun v hv => (Array.all_eq_true_iff_forall_mem.1 (cellsOf_one (X i))) v (by simpa using hv))
          simpa only [Nat.add_zero] using this
        have H4 : Hid (RoS w (.slice (some ⟨gt, ot, none⟩) m tc) T g off L X m (i + 1) (w3.setCells (w.heap.size + 1) (j * 32) (cellsOf (X i)).toList)) := by
          have hpb := Has.puts (w := w3) ((X i).map byteV) (j * 32) H3.out.bes
          rw [HJ.out.1, besC_step H.out.1 HJ.out.2.1, ← HJ.out.1] at hpb
          have hpt : Turn (fun b => b = w.heap.size + 1) w3 (w3.setCells (w.heap.size + 1) (j * 32) (cellsOf (X i)).toList) := turn_puts _ _ _ _
          exact Lib.hid ⟨H3.out.rk.turn hpt (fun h => by have := HR.out.1.lt; omega), H3.out.res.turn hpt (by omega), hpb, H3.out.tur.turn hpt (fun x hx e => H3.out.tur.ne H3.out.bes (by decide) (by rw [hx, e])), H3.out.lt, fun i s hs => by rw [← H3.out.cells i s hs]; exact hpt.cell (Nat.lt_of_lt_of_le H3.out.lt H3.out.bel.size) (by have := H3.out.lt; show ¬ g = _; omega), H3.out.bel.trans (hpt.below H3.out.bel.size (fun j hj e => by omega))⟩
        go_wp2_with fail
        obtain ⟨q2, y1, y2, y3, y4⟩ := HX2.out
        have hcs : Value.int .i64 ((i : Int) + 1) = .int .i64 ((i + 1 : Nat) : Int) := by rw [Int.natCast_add]; rfl
        refine ⟨⟨i + 1, q2, na, nk, _, by first | (rw [hna, hnk]; done) | (rw [hna, hnk, ← Nat.add_assoc]; done), hcs, by have := HJ.out.2.1; omega, Lib.hid ⟨by rw [hnk]; exact y1, by have := HI.out; omega, ?_, ?_, by rw [hnk]; exact y2, by rw [hna, hnk]; exact y3, by rw [hna, hnk]; exact y4⟩, H4⟩, ?_⟩
        · have := HI.out; have := HC2.out; omega
        · have := HI.out; have := HC2.out; omega
        · have := HJ.out.2.1
          show m - ((i : Int) + 1).toNat < m - ((i : Int)).toNat
          omega
    · obtain rfl : i = m := by omega
      have h1 : ¬ (i : Int) < (i : Int) := by omega
      have HE : Hid (Calls Tryz.prog 62 #[.slice (some ⟨g, off + a, none⟩) k cc] wr fun en w' => en = .returned (.agg (cellsOf E)) ∧ RoS w (.slice ta i tc) T g off L X i i w') := Lib.hid (by
        refine (over_calls L H.out.2.2.2.1 H.out.2.2.2.2 g off k (a := a) (c := cc) wr (by have := HI.out; omega) (by have := HI.out; omega) (by have := HI.out; omega) (by have := HI.out; omega) HS.out.rk (Nat.lt_of_lt_of_le HS.out.lt HS.out.bel.size) HS.out.cells).mono fun _ _ h => ⟨?_, HS.out.below h.2⟩
        rw [h.1]
        have h5 := HI.out.2.2.2.2.2.2
        rw [List.drop_of_length_le (by rw [HT.out.2.2.2.2]; exact Nat.le_refl _), endX] at h5
        rw [h5])
      have hE32 : E.length = 32 := H.out.2.2.1.2
      go_wp2_with fail
      refine HE.out.mono ?_
      rintro en w3 ⟨rfl, s3⟩
      have H3 := Lib.hid s3
      clear s3 HE HS
      go_wp2_with (first
        | ((with_reducible refine at_store (.tmp 4) ?_); refine wpList_store_arr (o := ⟨none, _, _, _, _, _⟩) rfl 38 _ _ rfl w.heap.size E (List.replicate 32 0) rfl rfl _ H3.out.res 32 (by kernel_rfl) (by simp) hE32 ?_; intro W6 HW6 TW6)
        | fail)
      refine bodyPost_ret (v := .tuple #[.agg (cellsOf E), .slice (some ⟨w.heap.size + 1, 0, none⟩) i i]) (results_cell_tmp rfl _ _ w.heap.size 38 _ _ _ rfl HW6 Tryz.underlying38 rfl (by rw [cellsOf_size, hE32]; kernel_rfl) _ rfl) rfl ?_
      have hln : BX.reverse.length = i := by rw [List.length_reverse]; exact H.out.2.1
      have hbf : besC X i i = sumsC BX.reverse := by
        have := besC_full BX
        rw [H.out.2.1] at this
        rw [HT.out.2.2.2.1]
        exact this
      refine ⟨w.heap.size + 1, by rw [hln], ?_, Nat.le_succ _, H3.out.bel.trans (TW6.below H3.out.bel.size (fun j hj e => by omega))⟩
      rw [hln, ← hbf]
      have h6 := Seg.of_has (n := i) (size := 32) (H3.out.bes.turn TW6 (by omega)) (by rw [List.size_toArray, besC_len H.out.1]) (by unfold maxLen; omega)
      exact h6
end Go.Proofs.YtdoadmkaoboncaaGreatDoor.clash
end

section
/- clash: firstUnlike. -/
namespace Go.Proofs.YtdoadmkaoboncaaGreatDoor.clash
open Go Go.RowKit Go.Proofs.YtdoadmkaoboncaaGreatDoor.dig

/-- The cells of some pairs. -/
def pairC (p : ByteArray × ByteArray) : List Value := [.string p.1, .string p.2]
def pairsC (L : List (ByteArray × ByteArray)) : List Value := L.flatMap pairC
theorem pairsC_get : ∀ (L : List (ByteArray × ByteArray)) (i : Nat) (p : ByteArray × ByteArray), L[i]? = some p → ∀ j, j < 2 → (pairsC L)[i * 2 + j]? = (pairC p)[j]?
  | [], i, p, h => by simp at h
  | q :: L, 0, p, h => fun j hj => by
    obtain rfl : q = p := by simpa using h
    rw [Nat.zero_mul, Nat.zero_add, pairsC, List.flatMap_cons, List.getElem?_append_left (by simp [pairC]; omega)]
  | q :: L, i + 1, p, h => fun j hj => by
    rw [pairsC, List.flatMap_cons, List.getElem?_append_right (by simp [pairC]; omega), show (i + 1) * 2 + j - (pairC q).length = i * 2 + j by simp [pairC]; omega]
    exact pairsC_get L i p (by simpa using h) j hj

/-- The first that is unlike. -/
def firstU (L : List (ByteArray × ByteArray)) : (ByteArray × ByteArray) × Bool := match L.find? (fun p => decide (p.1 ≠ p.2)) with | some p => (p, true) | none => ((⟨#[]⟩, ⟨#[]⟩), false)
theorem firstU_none {L : List (ByteArray × ByteArray)} (h : ∀ (j : Nat) p, L[j]? = some p → p.1 = p.2) : firstU L = ((⟨#[]⟩, ⟨#[]⟩), false) := by
  unfold firstU
  rw [List.find?_eq_none.2 (fun p hp => by
    obtain ⟨j, hj⟩ := List.getElem?_of_mem hp
    simp [h j p hj])]
theorem firstU_some {L : List (ByteArray × ByteArray)} {i : Nat} {p : ByteArray × ByteArray} (hi : L[i]? = some p) (hp : p.1 ≠ p.2) (h : ∀ (j : Nat) p, j < i → L[j]? = some p → p.1 = p.2) : firstU L = (p, true) := by
  unfold firstU
  have : L.find? (fun p => decide (p.1 ≠ p.2)) = some p := by
    rw [List.find?_eq_some_iff_getElem]
    obtain ⟨h1, h2⟩ := List.getElem?_eq_some_iff.1 hi
    exact ⟨by simp [hp], i, h1, h2, fun j hj => by simp [h j _ hj (List.getElem?_eq_getElem (by omega))]⟩
  rw [this]

set_option maxRecDepth 100000 in
set_option maxHeartbeats 2000000 in
theorem first_calls (v : Value) (L : List (ByteArray × ByteArray)) (w : World) (hs : Seg w 44 2 v L.length (pairsC L)) (hlen : L.length ≤ 1000) :
    Calls Tryz.prog 57 #[v] w fun en w' => en = .returned (.tuple #[.agg #[.string (firstU L).1.1, .string (firstU L).1.2], .bool (firstU L).2]) ∧ Below w.heap.size w w' := by
  obtain ⟨fu, hfu⟩ : ∃ fu, fu = firstU L := ⟨_, rfl⟩
  rw [← hfu]
  have HFU := Lib.hid hfu
  clear hfu
  obtain ⟨sa, sc, rfl, hs1, hs2⟩ := hs.slice
  obtain ⟨n, hn⟩ : ∃ n, n = L.length := ⟨_, rfl⟩
  have HC0 : Hid (∀ (i : Nat) p, L[i]? = some p → ∃ g o, sa = some ⟨g, o, none⟩ ∧ g < w.heap.size ∧ w.rangeAt g (o + i * 2) (pairC p)) := Lib.hid fun i p hp => by
    have hi := (List.getElem?_eq_some_iff.1 hp).1
    obtain ⟨g, o, c', hv, hg, _, _, hcell⟩ := hs.cells (by omega)
    simp only [Value.slice.injEq] at hv
    refine ⟨g, o, hv.1, hg, fun j u hj => ?_⟩
    have hj2 : j < 2 := by have := (List.getElem?_eq_some_iff.1 hj).1; simpa [pairC] using this
    rw [Nat.add_assoc]
    exact hcell _ u ((pairsC_get L i p hp j hj2).trans hj)
  have HN := Lib.hid hn
  have HS1 := Lib.hid hs2
  have hsc : (n : Int) ≤ 1000 := by omega
  have hs1' : (n : Int) ≤ (sc : Int) := by omega
  rw [← hn]
  clear hs hs1 hs2 hlen hn
  go_enter Tryz.func57, Tryz.ntmps57
  go_wp2_with fail
  have S0 : Hid (Below w.heap.size w (w.alloc (.cells #[.string ⟨#[]⟩, .string ⟨#[]⟩] 44)) ∧ Has (w.alloc (.cells #[.string ⟨#[]⟩, .string ⟨#[]⟩] 44)) w.heap.size 44 #[.string ⟨#[]⟩, .string ⟨#[]⟩]) :=
    Lib.hid ⟨(Below.refl _ _).alloc (Nat.le_refl _) _, made_at _ _ rfl⟩
  go_loopw [8] (fun x wr => ∃ i : Nat, x = .int .i64 i ∧ i ≤ n ∧ Hid (∀ (j : Nat) p, j < i → L[j]? = some p → p.1 = p.2) ∧ Hid (Below w.heap.size w wr ∧ Has wr w.heap.size 44 #[.string ⟨#[]⟩, .string ⟨#[]⟩])) (fun x _ => n - (intOf x).toNat)
  case atStart => exact ⟨0, rfl, Nat.zero_le _, Lib.hid (fun j p hj => absurd hj (by omega)), S0⟩
  case round =>
    clear S0
    obtain ⟨i, rfl, hin, HI, HS⟩ := hrel
    by_cases h : i < n
    · have h1 : (i : Int) < (n : Int) := by omega
      obtain ⟨p, hp⟩ : ∃ p, L[i]? = some p := ⟨_, List.getElem?_eq_getElem (by have := HN.out; omega)⟩
      obtain ⟨g, o, rfl, hg, hrg⟩ := HC0.out i p hp
      have hrg2 : wr.rangeAt g (o + i * 2) (pairC p) := fun j u hj => by
        rw [← hrg j u hj]
        unfold World.cell?
        rw [HS.out.1.block g hg]
      have HP := Lib.hid hp
      obtain ⟨pa, pb⟩ := p
      clear hrg hp
      have HRG := Lib.hid hrg2
      clear hrg2
      go_wp2_with (first
        | ((with_reducible refine at_op 11 ?_); refine wpList_load_mid (op := ⟨some 11, _, _, _, _, _⟩) rfl 44 _ rfl g (o + i * 2) rfl (pairC (pa, pb)) _ HRG.out Tryz.underlying44 rfl (by kernel_rfl) ?_)
        | ((with_reducible refine at_store (.tmp 5) ?_); refine wpList_store_cells (o := ⟨none, _, _, _, _, _⟩) rfl 44 _ _ rfl wr.heap.size #[.string pa, .string pb] _ rfl rfl _ (made_at _ _ rfl) (by kernel_rfl) rfl (by simp [Value.oneCell']) ?_; intro W1 HW1 TW1; refine stay ?_)
        | fail)
      unfold Stay
      have A1 : Below wr.heap.size wr W1 := ((Below.refl wr.heap.size wr).alloc (Nat.le_refl _) _).trans (TW1.below (by simp) (fun j hj e => by omega))
      have K1 : Hid (Below w.heap.size w W1 ∧ Has W1 w.heap.size 44 #[.string ⟨#[]⟩, .string ⟨#[]⟩] ∧ Has W1 wr.heap.size 44 #[.string pa, .string pb]) :=
        Lib.hid ⟨HS.out.1.trans (A1.mono HS.out.1.size), HS.out.2.below A1 HS.out.2.lt, HW1⟩
      have c0 : W1.cell? ⟨wr.heap.size, 0, none⟩ = some (.string pa) := K1.out.2.2.cell 0
      have c1 : W1.cell? ⟨wr.heap.size, 1, none⟩ = some (.string pb) := K1.out.2.2.cell 1
      clear A1 HW1 TW1 HS HRG
      by_cases he : pa = pb
      · subst he
        have hne : (pa.toList == pa.toList) = true := by simp
        go_wp2_with fail
        refine ⟨⟨i + 1, by rw [Int.natCast_add]; rfl, by omega, Lib.hid (fun j p hj hp => ?_), Lib.hid ⟨K1.out.1, K1.out.2.1⟩⟩, ?_⟩
        · rcases Nat.lt_or_ge j i with h2 | h2
          · exact HI.out j p h2 hp
          · obtain rfl : j = i := by omega
            have := HP.out
            rw [hp] at this
            cases this
            rfl
        · show n - ((i : Int) + 1).toNat < n - ((i : Int)).toNat
          omega
      · have hne : ¬ pa.toList = pb.toList := fun e => he (by
          rw [ByteArray.toList_eq, ByteArray.toList_eq] at e
          apply ByteArray.ext
          exact Array.toList_inj.1 e)
        have hne2 : (pa.toList == pb.toList) = false := by simpa using hne
        have HF : Hid (firstU L = ((pa, pb), true)) := Lib.hid (firstU_some HP.out he HI.out)
        clear he
        go_wp2_with (first
          | ((with_reducible refine at_op 17 ?_); refine wpList_load_mid (op := ⟨some 17, _, _, _, _, _⟩) rfl 44 _ rfl wr.heap.size 0 rfl (pairC (pa, pb)) _ (Has.range K1.out.2.2) Tryz.underlying44 rfl (by kernel_rfl) ?_)
          | ((with_reducible refine at_store (.tmp 2) ?_); refine wpList_store_cells (o := ⟨none, _, _, _, _, _⟩) rfl 44 _ _ rfl w.heap.size #[.string pa, .string pb] _ rfl rfl _ K1.out.2.1 (by kernel_rfl) rfl (by simp [Value.oneCell']) ?_; intro W6 HW6 TW6)
          | fail)
        exact bodyPost_ret (v := .tuple #[.agg #[.string pa, .string pb], .bool true]) (results_cell_tmp rfl _ _ w.heap.size 44 _ _ _ rfl HW6 Tryz.underlying44 rfl (by kernel_rfl) _ rfl) rfl
          ⟨by rw [HFU.out, HF.out], K1.out.1.trans (TW6.below K1.out.1.size (fun j hj e => by omega))⟩
    · obtain rfl : i = n := by omega
      have h1 : ¬ (i : Int) < (i : Int) := by omega
      have HF : Hid (firstU L = ((⟨#[]⟩, ⟨#[]⟩), false)) := Lib.hid (firstU_none (fun j p hj => HI.out j p (by have := (List.getElem?_eq_some_iff.1 hj).1; have := HN.out; omega) hj))
      go_wp2_with (first
        | ((with_reducible refine at_store (.tmp 2) ?_); refine wpList_store_cells (o := ⟨none, _, _, _, _, _⟩) rfl 44 _ _ rfl w.heap.size #[.string ⟨#[]⟩, .string ⟨#[]⟩] _ rfl rfl _ HS.out.2 (by kernel_rfl) rfl (by simp [Value.oneCell']) ?_; intro W6 HW6 TW6)
        | fail)
      exact bodyPost_ret (v := .tuple #[.agg #[.string ⟨#[]⟩, .string ⟨#[]⟩], .bool false]) (results_cell_tmp rfl _ _ w.heap.size 44 _ _ _ rfl HW6 Tryz.underlying44 rfl (by kernel_rfl) _ rfl) rfl
        ⟨by rw [HFU.out, HF.out], HS.out.1.trans (TW6.below HS.out.1.size (fun j hj e => by omega))⟩
end Go.Proofs.YtdoadmkaoboncaaGreatDoor.clash
end

section
/- clash: pairs. -/
namespace Go.Proofs.YtdoadmkaoboncaaGreatDoor.clash
open Go Go.RowKit Go.Proofs.YtdoadmkaoboncaaGreatDoor.dig

/-- The cells when i pairs are there. -/
def pairsM (A B : Nat → ByteArray) (n i : Nat) : List Value := flat (fun j => if j < i then pairC (A j, B j) else pairC (ByteArray.empty, ByteArray.empty)) 0 n
theorem pairC_len (p : ByteArray × ByteArray) : (pairC p).length = 2 := rfl
theorem pairsM_each (A B : Nat → ByteArray) (n i : Nat) : ∀ k, 0 ≤ k → k < 0 + n → ((fun j => if j < i then pairC (A j, B j) else pairC (ByteArray.empty, ByteArray.empty)) k).length = 2 := fun k _ _ => by
  simp only []
  split <;> rfl
theorem pairsM_len (A B : Nat → ByteArray) (n i : Nat) : (pairsM A B n i).length = n * 2 := flat_len (pairsM_each A B n i)
theorem pairsM_zero (A B : Nat → ByteArray) (n : Nat) : (madeCells #[.string ByteArray.empty, .string ByteArray.empty] (n * 2)).toList = pairsM A B n 0 := by
  apply List.ext_getElem?
  intro q
  by_cases hq : q < n * 2
  · have h1 : q / 2 < n := by omega
    have h2 : q % 2 < 2 := Nat.mod_lt _ (by decide)
    have e := flat_get (pairsM_each A B n 0) h1 h2
    rw [show q / 2 * 2 + q % 2 = q by omega] at e
    unfold pairsM
    rw [e]
    rcases (show q % 2 = 0 ∨ q % 2 = 1 by omega) with h | h <;> simp [madeCells, h, hq, pairC]
  · rw [List.getElem?_eq_none (by rw [Array.length_toList, size_madeCells]; omega), List.getElem?_eq_none (by rw [pairsM_len]; omega)]
theorem pairsM_step (A B : Nat → ByteArray) {n i : Nat} (hi : i < n) : ((pairsM A B n i).set (i * 2) (.string (A i))).set (i * 2 + 1) (.string (B i)) = pairsM A B n (i + 1) := by
  unfold pairsM
  have e1 := flat_set (pairsM_each A B n i) (j := i) (r := 0) hi (by decide) (.string (A i))
  rw [Nat.add_zero] at e1
  rw [e1, flat_set (w := 2) (fun k _ _ => by split <;> (try rw [List.length_set]) <;> (split <;> rfl)) (j := i) (r := 1) hi (by decide)]
  apply flat_congr
  intro j _ hj
  simp only [Nat.zero_add]
  by_cases h1 : j = i
  · subst h1
    simp [pairC]
  · rw [if_neg h1, if_neg h1]
    by_cases h2 : j < i
    · rw [if_pos h2, if_pos (by omega)]
    · rw [if_neg h2, if_neg (by omega)]

theorem pairInfo : ∃ i z, Tryz.prog.info? 44 = some i ∧ i.zero = some z ∧ i.size = 2 ∧ z.cells = #[.string ByteArray.empty, .string ByteArray.empty] ∧ i.bytes = 32 := by
  have h2 : (Tryz.prog.info? 44).map (fun i => (i.zero.map (fun z => z.cells), i.size, i.bytes)) = some (some #[.string ByteArray.empty, .string ByteArray.empty], 2, 32) := by kernel_rfl
  obtain ⟨i, hi, e⟩ := Option.map_eq_some_iff.1 h2
  simp only [Prod.mk.injEq] at e
  obtain ⟨e1, e2, e3⟩ := e
  obtain ⟨z, hz, e4⟩ := Option.map_eq_some_iff.1 e1
  exact ⟨i, z, hi, hz, e2, e4, e3⟩

/-- What lasts while a pair is made. -/
structure PaS (w : World) (ga oa gb ob i n : Nat) (A B : Nat → ByteArray) (V : World) : Prop where
  ca : V.cell? ⟨ga, oa + i, none⟩ = some (.string (A i))
  cb : V.cell? ⟨gb, ob + i, none⟩ = some (.string (B i))
  own : Has V w.heap.size 44 (pairsM A B n i).toArray
  bel : Below w.heap.size w V

theorem PaS.drew {w : World} {ga oa gb ob i n : Nat} {A B : Nat → ByteArray} {V : World} (h : PaS w ga oa gb ob i n A B V) : PaS w ga oa gb ob i n A B V.drew := ⟨h.ca, h.cb, h.own, h.bel.drew⟩

/-- Pairs were answered, in a block of their own. -/
def PairsPost (w : World) (n : Nat) (A B : Nat → ByteArray) (en : Ending) (w' : World) : Prop :=
  ∃ g, en = .returned (.slice (some ⟨g, 0, none⟩) n n) ∧ Has w' g 44 (pairsM A B n n).toArray ∧ w.heap.size ≤ g ∧ Below w.heap.size w w'

set_option maxRecDepth 100000 in
set_option maxHeartbeats 2000000 in
theorem pairs_calls (sa sb : Option Addr) (ca cb n : Nat) (A B : Nat → ByteArray) (w : World) (hn : n ≤ 1000) (hca : n ≤ ca ∧ ca ≤ maxLen) (hcb : n ≤ cb ∧ cb ≤ maxLen)
    (hA : ∀ i, i < n → ∃ g o, sa = some ⟨g, o, none⟩ ∧ g < w.heap.size ∧ w.cell? ⟨g, o + i, none⟩ = some (.string (A i)))
    (hB : ∀ i, i < n → ∃ g o, sb = some ⟨g, o, none⟩ ∧ g < w.heap.size ∧ w.cell? ⟨g, o + i, none⟩ = some (.string (B i))) :
    Calls Tryz.prog 58 #[.slice sa n ca, .slice sb n cb] w (PairsPost w n A B) := by
  have HA := Lib.hid hA
  have HB := Lib.hid hB
  have hn1 : (n : Int) ≤ 1000 := by omega
  have hca1 : (n : Int) ≤ (ca : Int) := by omega
  have hcb1 : (n : Int) ≤ (cb : Int) := by omega
  clear hA hB hca hcb
  have hmk : (Instr.makeSlice 110 (.int .i64 (n : Int)) (.int .i64 (n : Int))).run Tryz.prog w = .ok (.slice (some ⟨w.heap.size, 0, none⟩) n n) (w.alloc (.cells (pairsM A B n 0).toArray 44)) := by
    obtain ⟨i0, z0, hi0, hz0, hz1, hz2, hz3⟩ := pairInfo
    have h := run_make (P := Tryz.prog) w 110 44 i0 z0 Tryz.underlying110 hi0 hz0 .i64 .i64 (n : Int) (n : Int) (by omega) (by omega) (by rw [hz3]; omega) (by omega)
    rw [Int.toNat_natCast, hz1, hz2] at h
    rw [h, ← pairsM_zero A B n]
  go_enter Tryz.func58, Tryz.ntmps58
  go_wp2_with fail
  clear hmk
  have S0 : Hid (Has (w.alloc (.cells (pairsM A B n 0).toArray 44)) w.heap.size 44 (pairsM A B n 0).toArray ∧ Below w.heap.size w (w.alloc (.cells (pairsM A B n 0).toArray 44))) := Lib.hid ⟨made_at _ _ rfl, (Below.refl _ _).alloc (Nat.le_refl _) _⟩
  go_loopw [12] (fun x wr => ∃ i : Nat, x = .int .i64 i ∧ i ≤ n ∧ Hid (Has wr w.heap.size 44 (pairsM A B n i).toArray ∧ Below w.heap.size w wr)) (fun x _ => n - (intOf x).toNat)
  case atStart => exact ⟨0, rfl, Nat.zero_le _, S0⟩
  case round =>
    clear S0
    obtain ⟨i, rfl, hin, HS⟩ := hrel
    by_cases h : i < n
    · have h1 : (i : Int) < (n : Int) := by omega
      obtain ⟨ga, oa, rfl, hga, hca⟩ := HA.out i h
      obtain ⟨gb, ob, rfl, hgb, hcb⟩ := HB.out i h
      have P0 : Hid (PaS w ga oa gb ob i n A B wr) := Lib.hid ⟨by rw [← hca]; unfold World.cell?; rw [HS.out.2.block ga hga], by rw [← hcb]; unfold World.cell?; rw [HS.out.2.block gb hgb], HS.out.1, HS.out.2⟩
      clear hca hcb HS
      go_wp2_with fail
      refine wp_region_any (by kernel_rfl) ?_
      refine AnyL.any (S := PaS w ga oa gb ob i n A B) (Wr := [12]) _ _ _ _ (PaS.drew P0.out) ?_
      clear P0
      refine AnyL.pure 0 (some 15) rfl rfl (by kernel_rfl) (by kernel_rfl) (by kernel_rfl) (fun _ _ _ h => h) (by kernel_rfl) (by kernel_rfl) (fun _ _ => rfl) ?_
      refine AnyL.pure 1 (some 16) rfl rfl (by kernel_rfl) (by kernel_rfl) (by kernel_rfl) (fun _ _ _ h => h) (by kernel_rfl) (by kernel_rfl) (fun _ _ => rfl) ?_
      refine AnyL.pure 2 (some 17) rfl rfl (by kernel_rfl) (by kernel_rfl) (by kernel_rfl) (fun _ _ _ h => h) (by kernel_rfl) (by kernel_rfl) (fun _ _ => rfl) ?_
      refine AnyL.pure 3 (some 18) rfl rfl (by kernel_rfl) (by kernel_rfl) (by kernel_rfl) (fun _ _ _ h => h) (by kernel_rfl) (by kernel_rfl) (fun _ _ => rfl) ?_
      refine AnyL.pure 4 (some 19) (v := .pointer (some ⟨ga, oa + i, none⟩)) rfl rfl (by kernel_rfl) (by kernel_rfl) (by kernel_rfl) (fun _ _ _ h => h) (by kernel_rfl) (by kernel_rfl) (fun V _ => by go_simp) ?_
      refine AnyL.pure 5 (some 20) (v := .string (A i)) rfl rfl (by kernel_rfl) (by kernel_rfl) (by kernel_rfl) (fun _ _ _ h => h) (by kernel_rfl) (by kernel_rfl) (fun V hV => by have c0 := hV.ca; have c1 := hV.cb; go_simp) ?_
      refine AnyL.pure 6 (some 21) rfl rfl (by kernel_rfl) (by kernel_rfl) (by kernel_rfl) (fun _ _ _ h => h) (by kernel_rfl) (by kernel_rfl) (fun _ _ => rfl) ?_
      refine AnyL.pure 7 (some 22) rfl rfl (by kernel_rfl) (by kernel_rfl) (by kernel_rfl) (fun _ _ _ h => h) (by kernel_rfl) (by kernel_rfl) (fun _ _ => rfl) ?_
      refine AnyL.pure 8 (some 23) (v := .pointer (some ⟨gb, ob + i, none⟩)) rfl rfl (by kernel_rfl) (by kernel_rfl) (by kernel_rfl) (fun _ _ _ h => h) (by kernel_rfl) (by kernel_rfl) (fun V _ => by go_simp) ?_
      refine AnyL.pure 9 (some 24) (v := .string (B i)) rfl rfl (by kernel_rfl) (by kernel_rfl) (by kernel_rfl) (fun _ _ _ h => h) (by kernel_rfl) (by kernel_rfl) (fun V hV => by have c0 := hV.ca; have c1 := hV.cb; go_simp) ?_
      refine AnyL.pure 10 (some 25) (v := .agg #[.string (A i), .string (B i)]) rfl rfl (by kernel_rfl) (by kernel_rfl) (by kernel_rfl) (fun _ _ _ h => h) (by kernel_rfl) (by kernel_rfl) (fun V _ => by go_simp) ?_
      refine AnyL.pure 11 (some 26) (v := .pointer (some ⟨w.heap.size, i * 2, none⟩)) rfl rfl (by kernel_rfl) (by kernel_rfl) (by kernel_rfl) (fun _ _ _ h => h) (by kernel_rfl) (by kernel_rfl) (fun V _ => by go_simp) ?_
      simp only [Act.put, List.setIfInBounds_toArray, List.set_cons_zero, List.set_cons_succ]
      refine AnyL.late (i := 12) (by kernel_rfl) (by decide) ?_
      intro V hV
      have HV := Lib.hid hV
      clear hV
      refine wpOp_wp rfl (by kernel_rfl) ?_
      have hth : V.there w.heap.size (i * 2) 2 := fun j hj => ⟨by
        rw [HV.out.own.cell, List.getElem?_toArray, List.getElem?_eq_getElem (by rw [pairsM_len]; omega)]
        rfl, HV.out.own.free _⟩
      refine wp_store_mid 44 _ _ rfl w.heap.size (i * 2) #[.string (A i), .string (B i)] (by simp [Act.eval]) (by simp [Act.eval]) hth (by kernel_rfl) (by simp [Value.oneCell']) ?_
      have k1 := (HV.out.own.put (i * 2) (.string (A i))).put (i * 2 + 1) (.string (B i))
      rw [List.setIfInBounds_toArray, List.setIfInBounds_toArray, pairsM_step A B h] at k1
      have b1 := (HV.out.bel.setCell (p := ⟨w.heap.size, i * 2, none⟩) (Nat.le_refl _) (.string (A i))).setCell (p := ⟨w.heap.size, i * 2 + 1, none⟩) (Nat.le_refl _) (.string (B i))
      have HW : Hid (Has (V.setCells w.heap.size (i * 2) [.string (A i), .string (B i)]) w.heap.size 44 (pairsM A B n (i + 1)).toArray ∧ Below w.heap.size w (V.setCells w.heap.size (i * 2) [.string (A i), .string (B i)])) := Lib.hid ⟨k1, b1⟩
      clear k1 b1 hth
      show wpAny _ _ _ _ _ _ _ (V.setCells w.heap.size (i * 2) [.string (A i), .string (B i)])
      generalize V.setCells w.heap.size (i * 2) [.string (A i), .string (B i)] = W6 at *
      refine wpAny_done (by kernel_rfl) ?_ _
      simp only [Act.put]
      go_wp2_with fail
      refine ⟨⟨i + 1, by rw [Int.natCast_add]; rfl, by omega, HW⟩, ?_⟩
      show n - ((i : Int) + 1).toNat < n - ((i : Int)).toNat
      omega
    · obtain rfl : i = n := by omega
      have h1 : ¬ (i : Int) < (i : Int) := by omega
      go_wp2_with fail
      go_ret
      exact ⟨_, rfl, HS.out.1, Nat.le_refl _, HS.out.2⟩
end Go.Proofs.YtdoadmkaoboncaaGreatDoor.clash
end

