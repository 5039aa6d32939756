/- Texts laid into one: ClaK, ClaL, AudE, AudF, ClaN. -/
import Derived.Test.YtdoadmkaoboncaaGreatDoorZ004
import Derived.Test.YtdoadmkaoboncaaGreatDoorZ001
import Derived.Test.YtdoadmkaoboncaaGreatDoorZ003
import Derived.Test.YtdoadmkaoboncaaGreatDoorTreeW
import Derived.Test.YtdoadmkaoboncaaGreatDoorZ000
section
/- clash: Sides, of as many sums as it takes. -/
namespace Go.Proofs.YtdoadmkaoboncaaGreatDoor.clash
open Go Go.RowKit Go.Proofs.YtdoadmkaoboncaaGreatDoor.dig Go.Proofs.YtdoadmkaoboncaaGreatDoor.prf

theorem texX_get : ∀ (T : List Bool) (r : List (List UInt8)) (c : List UInt8) (p : Nat) (t : Bool) (o : List UInt8), T[p]? = some t → r[p]? = some o →
    (texX T r c)[p]? = some (1 :: (if t = true then comeX (T.drop (p + 1)) (r.drop (p + 1)) c ++ o else o ++ comeX (T.drop (p + 1)) (r.drop (p + 1)) c))
  | [], _, _, _, _, _, h, _ => by simp at h
  | _ :: _, [], _, _, _, _, _, h => by simp at h
  | t' :: T, o' :: r, c, 0, t, o, h1, h2 => by
    obtain rfl : t' = t := by simpa using h1
    obtain rfl : o' = o := by simpa using h2
    rw [texX, List.getElem?_cons_zero]
    rfl
  | t' :: T, o' :: r, c, p + 1, t, o, h1, h2 => by
    rw [texX, List.getElem?_cons_succ]
    exact texX_get T r c p t o (by simpa using h1) (by simpa using h2)
theorem come_at (T : List Bool) (r : List (List UInt8)) (c : List UInt8) (hl : T.length = r.length) : ∀ i, i ≤ T.length →
    comeN (fun i => T.getD (T.length - 1 - i) false) c (fun i => r.reverse.getD i []) i = comeX (T.drop (T.length - i)) (r.drop (T.length - i)) c := by
  intro i
  induction i with
  | zero =>
    intro _
    rw [Nat.sub_zero, List.drop_of_length_le (Nat.le_refl _)]
    rfl
  | succ i ih =>
    intro hi
    have h1 : T.length - 1 - i < T.length := by omega
    have e1 : T.drop (T.length - (i + 1)) = T[T.length - 1 - i] :: T.drop (T.length - i) := by
      rw [show T.length - (i + 1) = T.length - 1 - i by omega, List.drop_eq_getElem_cons h1, show T.length - 1 - i + 1 = T.length - i by omega]
    have e2 : r.drop (T.length - (i + 1)) = r[T.length - 1 - i]'(by omega) :: r.drop (T.length - i) := by
      rw [show T.length - (i + 1) = T.length - 1 - i by omega, List.drop_eq_getElem_cons (by omega), show T.length - 1 - i + 1 = T.length - i by omega]
    have e3 : r.reverse.getD i [] = r[T.length - 1 - i]'(by omega) := by
      rw [List.getD_eq_getElem?_getD, List.getElem?_reverse (by omega), List.getElem?_eq_getElem (by omega)]
      simp only [Option.getD_some]
      congr 1
      omega
    have e4 : T.getD (T.length - 1 - i) false = T[T.length - 1 - i] := by rw [List.getD_eq_getElem?_getD, List.getElem?_eq_getElem h1]; rfl
    rw [comeN, ih (by omega), e1, e2, comeX_sum]
    simp only [e3, e4]
theorem tex_at (T : List Bool) (r : List (List UInt8)) (c : List UInt8) (hl : T.length = r.length) (p : Nat) (hp : p < T.length) :
    (texX T r c)[p]? = some (textN (fun i => T.getD (T.length - 1 - i) false) c (fun i => r.reverse.getD i []) (T.length - 1 - p)).data.toList := by
  have h2 : p < r.length := by omega
  rw [texX_get T r c p T[p] r[p] (List.getElem?_eq_getElem hp) (List.getElem?_eq_getElem h2)]
  unfold textN
  rw [come_at T r c hl _ (by omega)]
  have e3 : r.reverse.getD (T.length - 1 - p) [] = r[p] := by
    rw [List.getD_eq_getElem?_getD, List.getElem?_reverse (by omega), List.getElem?_eq_getElem (by omega)]
    simp only [Option.getD_some]
    congr 1
    omega
  have e4 : T.getD (T.length - 1 - (T.length - 1 - p)) false = T[p] := by
    rw [show T.length - 1 - (T.length - 1 - p) = p by omega, List.getD_eq_getElem?_getD, List.getElem?_eq_getElem hp]; rfl
  have e5 : T.length - (T.length - 1 - p) = p + 1 := by omega
  simp only [e3, e4, e5]
  split <;> simp [underS]

theorem wpAny_name {P : Program} {md : Region.Mode} {ops : Array Oper} {Q : Exit → Act → World → Prop} {fuel : Nat} {listed : Array Bool} {a : Act} {w : World} (h : ∀ V, w = V → wpAny P md ops Q fuel listed a V) : wpAny P md ops Q fuel listed a w := h w rfl

/-- The texts as strings. -/
def txL (T : List Bool) (r : List (List UInt8)) (c : List UInt8) : List ByteArray := (texX T r c).map fun x => ⟨x.toArray⟩
theorem txL_len (T : List Bool) (r : List (List UInt8)) (c : List UInt8) (h : T.length = r.length) : (txL T r c).length = T.length := by rw [txL, List.length_map, texX_len T r c h]
theorem txL_at (T : List Bool) (r : List (List UInt8)) (c : List UInt8) (hl : T.length = r.length) (p : Nat) (hp : p < T.length) :
    (txL T r c)[p]? = some (textN (fun i => T.getD (T.length - 1 - i) false) c (fun i => r.reverse.getD i []) (T.length - 1 - p)) := by
  rw [txL, List.getElem?_map, tex_at T r c hl p hp]
  rfl
theorem pairsM_zip (A B : Nat → ByteArray) (l1 l2 : List ByteArray) (M : Nat) (h1 : l1.length = M) (h2 : l2.length = M) (hA : ∀ p, p < M → l1[p]? = some (A p)) (hB : ∀ p, p < M → l2[p]? = some (B p)) : pairsM A B M M = pairsC (l1.zip l2) := by
  have h : ∀ (l : List (ByteArray × ByteArray)) (a : Nat) (G : Nat → List Value), (∀ j x, l[j]? = some x → G (a + j) = pairC x) → flat G a l.length = pairsC l := by
    intro l
    induction l with
    | nil => intro a G _; rfl
    | cons x l ih =>
      intro a G hG
      rw [List.length_cons, flat_succ, ih (a + 1) G (fun j y hj => by rw [Nat.add_assoc, Nat.add_comm 1 j]; exact hG (j + 1) y (by simpa using hj))]
      have := hG 0 x rfl
      rw [Nat.add_zero] at this
      rw [this]
      rfl
  have hz : (l1.zip l2).length = M := by rw [List.length_zip, h1, h2, Nat.min_self]
  unfold pairsM
  conv => lhs; arg 3; rw [← hz]
  refine h (l1.zip l2) 0 _ (fun j x hj => ?_)
  have hj' : j < M := by have := (List.getElem?_eq_some_iff.1 hj).1; omega
  simp only [Nat.zero_add]
  rw [if_pos hj']
  rw [List.getElem?_zip_eq_some] at hj
  have e1 := hA j hj'
  have e2 := hB j hj'
  rw [hj.1] at e1
  rw [hj.2] at e2
  rw [← Option.some.inj e1, ← Option.some.inj e2]

/-- What lasts in Sides. -/
structure SiS (w : World) (tv : Value) (T : List Bool) (g off : Nat) (L : List ByteArray) (gt : Nat) (c : List UInt8) (sv : Value) (SL : List (List UInt8)) (V : World) : Prop where
  rk : Rk V
  tur : Seg V 4 1 tv T.length (T.map Value.bool)
  told : Has V gt 38 (cellsOf c)
  sums : Seg V 38 32 sv SL.length (sumsC SL)
  lt : g < w.heap.size
  cells : ∀ i s, L[i]? = some s → V.cell? ⟨g, off + i, none⟩ = some (.string s)
  lo : w.heap.size ≤ gt
  bel : Below w.heap.size w V
theorem SiS.below {w : World} {tv : Value} {T : List Bool} {g off : Nat} {L : List ByteArray} {gt : Nat} {c : List UInt8} {sv : Value} {SL : List (List UInt8)} {V V' : World} (h : SiS w tv T g off L gt c sv SL V) (b : Below V.heap.size V V') : SiS w tv T g off L gt c sv SL V' :=
  ⟨h.rk.below b, h.tur.below b (fun x hx => h.tur.lt hx), h.told.below b h.told.lt, h.sums.below b (fun x hx => h.sums.lt hx), h.lt, fun i s hs => by rw [← h.cells i s hs]; unfold World.cell?; rw [b.block g (Nat.lt_of_lt_of_le h.lt h.bel.size)], h.lo, h.bel.trans (b.mono h.bel.size)⟩

/-- Sides were answered. -/
def SidesPost (w : World) (PL : List (ByteArray × ByteArray)) (en : Ending) (w' : World) : Prop :=
  ∃ gq, en = .returned (.tuple #[.slice (some ⟨gq, 0, none⟩) PL.length PL.length, .bool true]) ∧ Seg w' 44 2 (.slice (some ⟨gq, 0, none⟩) PL.length PL.length) PL.length (pairsC PL) ∧ Below w.heap.size w w'

/-- What lasts in Sides' last region. -/
structure SiZ (w : World) (tv : Value) (T : List Bool) (g off : Nat) (L : List ByteArray) (gt : Nat) (c : List UInt8) (sv : Value) (SL : List (List UInt8)) (gr : Nat) (E : List UInt8) (bv : Value) (BL : List (List UInt8)) (V : World) : Prop where
  s : SiS w tv T g off L gt c sv SL V
  res : Has V gr 38 (cellsOf E)
  bes : Seg V 38 32 bv BL.length (sumsC BL)
theorem SiZ.below {w : World} {tv : Value} {T : List Bool} {g off : Nat} {L : List ByteArray} {gt : Nat} {c : List UInt8} {sv : Value} {SL : List (List UInt8)} {gr : Nat} {E : List UInt8} {bv : Value} {BL : List (List UInt8)} {V V' : World} (h : SiZ w tv T g off L gt c sv SL gr E bv BL V) (b : Below V.heap.size V V') : SiZ w tv T g off L gt c sv SL gr E bv BL V' :=
  ⟨h.s.below b, h.res.below b h.res.lt, h.bes.below b (fun _ hx => h.bes.lt hx)⟩

set_option maxRecDepth 100000 in
set_option maxHeartbeats 4000000 in
/-- told, SL2: what stands where the turns end, and the sums beside them. -/
theorem sides_calls (L : List ByteArray) (hsz : ∀ s ∈ L, s.size ≤ 1000000) (hLL : L.length ≤ 1000000) (g off c m : Nat) (h0 : 0 < m) (hm : m ≤ L.length) (hnc : L.length ≤ c) (hcm : c ≤ maxLen) (claim : List UInt8) (hc : claim.length = 32) (sv : Value) (SL : List (List UInt8)) (hSL : ∀ x ∈ SL, x.length = 32) (told : List UInt8) (SL2 : List (List UInt8))
    (hw : SL2.length = (turnsP (m - 1) L.length).length) (hx : (allL (turnsP (m - 1) L.length) = true ∧ SL = SL2 ∧ told = claim) ∨ (allL (turnsP (m - 1) L.length) = false ∧ SL = told :: SL2)) (w : World) (hR : Rk w) (hg : g < w.heap.size)
    (hcell : ∀ i s, L[i]? = some s → w.cell? ⟨g, off + i, none⟩ = some (.string s)) (hs : Seg w 38 32 sv SL.length (sumsC SL)) :
    Calls Tryz.prog 63 #[.int .i64 m, .agg (cellsOf claim), .slice (some ⟨g, off, none⟩) L.length c, sv] w (SidesPost w ((txL (turnsP (m - 1) L.length) (besideX (leafF L) (turnsP (m - 1) L.length) 0 L.length) (endX (leafF L) (turnsP (m - 1) L.length) 0 L.length)).zip (txL (turnsP (m - 1) L.length) SL2.reverse told))) := by
  obtain ⟨T, hT⟩ : ∃ T, T = turnsP (m - 1) L.length := ⟨_, rfl⟩
  obtain ⟨M, hM⟩ : ∃ M, M = T.length := ⟨_, rfl⟩
  have hM64 : M ≤ 64 := by rw [hM, hT]; have := turnsP_le 20 L.length (m - 1) (by omega); omega
  have hall := beside_all (leafF L) (leafF_len L) L.length (m - 1) 0 (by omega)
  rw [← hT] at hw hx hall ⊢
  obtain ⟨BX, hBX⟩ : ∃ BX, BX = besideX (leafF L) T 0 L.length := ⟨_, rfl⟩
  obtain ⟨E, hE⟩ : ∃ E, E = endX (leafF L) T 0 L.length := ⟨_, rfl⟩
  rw [← hBX, ← hE] at hall ⊢
  have HEC2 := Lib.hid hall.2
  have HEC : Hid ((cellsOf E).size = 32) := Lib.hid (by rw [cellsOf_size, hall.2])
  have HALL := Lib.hid hall
  have HMM := Lib.hid hM64
  have HTT := Lib.hid (show _ ∧ _ ∧ _ ∧ _ from ⟨hT, hBX, hE, hM⟩)
  have HL := Lib.hid (show _ ∧ _ ∧ _ ∧ _ ∧ _ from ⟨hsz, hLL, (show m - 1 < L.length by omega), hnc, hcm⟩)
  have HCC : Hid ((cellsOf claim).size = 32) := Lib.hid (by rw [cellsOf_size, hc])
  have HC := Lib.hid hc
  obtain ⟨sa, sc, rfl, hs1, hs2⟩ := hs.slice
  have HS := Lib.hid (show _ ∧ _ ∧ _ ∧ _ from ⟨hR, hg, hcell, hs⟩)
  obtain ⟨PL, hPL⟩ : ∃ PL, PL = (txL T BX E).zip (txL T SL2.reverse told) := ⟨_, rfl⟩
  rw [← hPL]
  obtain ⟨n, hn⟩ : ∃ n, n = L.length := ⟨_, rfl⟩
  have e1 : (m : Int) - 1 = ((m - 1 : Nat) : Int) := by omega
  obtain ⟨m1, hm1⟩ : ∃ m1, m1 = m - 1 := ⟨_, rfl⟩
  rw [← hm1] at e1
  have e2 : ¬ (m : Int) < 1 := by omega
  have e3 : ¬ (m : Int) > (n : Int) := by omega
  have e4 : (m : Int) ≤ 1000000 := by omega
  have HTC : Hid (∀ V, Calls Tryz.prog 82 #[.int .i64 m1, .int .i64 n, .func (.func 89) #[] #[]] V (TurnsPost V T)) := Lib.hid fun V => by
    rw [hT, hm1, hn]
    exact turnsP_calls (m - 1) L.length V (by omega) hLL
  have HRC : Hid (∀ tv V, Rk V → g < V.heap.size → (∀ i s, L[i]? = some s → V.cell? ⟨g, off + i, none⟩ = some (.string s)) → Seg V 4 1 tv T.length (T.map Value.bool) → Calls Tryz.prog 91 #[tv, .slice (some ⟨g, off, none⟩) n c] V (RootsPost V E BX.reverse)) := Lib.hid fun tv V h1 h2 h3 h4 => by
    rw [hBX, hE, hT, hn]
    rw [hT] at h4
    exact roots_calls L hsz hLL g off (m - 1) L.length c (by omega) (Nat.le_refl _) hnc hcm tv V h1 h2 h3 h4
  obtain ⟨k, hk⟩ : ∃ k, k = SL.length := ⟨_, rfl⟩
  have HKK := Lib.hid hk
  have hkc : (k : Int) ≤ (sc : Int) ∧ (sc : Int) ≤ 9223372036854775807 := by unfold maxLen at hs2; omega
  rw [← hn, ← hk]
  rw [hM.symm] at hw
  have HW := Lib.hid hw
  have HSLL := Lib.hid hSL
  clear hT hM hM64 hall hBX hE hsz hLL hnc hcm hc hR hg hcell hs hs1 hs2 hn hm1 hk h0 hm hw hSL
  rcases hx with ⟨ha, rfl, rfl⟩ | ⟨ha, rfl⟩
  · have HA := Lib.hid ha
    clear ha
    go_enter Tryz.func63, Tryz.ntmps63
    go_wp2_with fail
    refine callsName (fun W hW => ?_)
    have B0 : Hid (Below w.heap.size w W ∧ Has W w.heap.size 38 (cellsOf told)) := by rw [← hW]; exact Lib.hid ⟨(Below.refl _ _).alloc (Nat.le_refl _) _, made_at _ _ rfl⟩
    clear hW
    refine (HTC.out W).mono ?_
    rintro en w1 ⟨tv, rfl, t1, lo1, b1⟩
    obtain ⟨ta, tc, htv, ht1, ht2⟩ := t1.slice
    rw [← HTT.out.2.2.2] at htv
    subst htv
    have B1 : Hid (Below w.heap.size w w1 ∧ Has w1 w.heap.size 38 (cellsOf told) ∧ Seg w1 4 1 (.slice ta M tc) T.length (T.map Value.bool)) := Lib.hid ⟨B0.out.1.trans (b1.mono B0.out.1.size), B0.out.2.below b1 B0.out.2.lt, t1⟩
    clear b1 B0 t1 lo1 ht1 ht2 HTC
    go_wp2_with (first
      | ((with_reducible refine at_op 27 ?_); refine wpList_load_row (o := ⟨some 27, _, _, _, _, _⟩) rfl 38 _ rfl w.heap.size rfl 38 (cellsOf told) (0, 0) _ B1.out.2.1 Tryz.underlying38 rfl (by rw [HCC.out]; kernel_rfl) ?_)
      | ((with_reducible refine at_store (.tmp 11) ?_); refine wpList_store_cells (o := ⟨none, _, _, _, _, _⟩) rfl 38 (.tmp 11) (.tmp 27) rfl w1.heap.size (cellsOf told) _ rfl rfl _ (made_at _ _ rfl) (HCC.out.symm ▸ (by kernel_rfl)) (HCC.out.symm ▸ rfl) (cellsOf_one _) ?_; intro W2 HW2 TW2;
         (have S2 : Hid (SiS w (.slice ta M tc) T g off L w1.heap.size told (.slice sa k sc) SL W2) := (by
           have bb : Below w1.heap.size w1 W2 := ((Below.refl _ _).alloc (Nat.le_refl _) _).trans (TW2.below (by simp) (fun j hj e => by omega))
           have b2 := B1.out.1.trans (bb.mono B1.out.1.size)
           obtain ⟨h1, h2, h3, h4⟩ := HS.out
           refine Lib.hid ⟨h1.below b2, B1.out.2.2.below bb (fun x hx => B1.out.2.2.lt hx), HW2, ?_, h2, fun i s hs => by rw [← h3 i s hs]; unfold World.cell?; rw [b2.block g h2], B1.out.1.size, b2⟩
           have h5 := h4.below b2 (fun x hx => h4.lt hx)
           rw [← HKK.out] at h5 ⊢
           exact h5));
         clear HW2 TW2 B1)
      | fail)
    obtain ⟨gt, hgt⟩ : ∃ gt, gt = w1.heap.size := ⟨_, rfl⟩
    rw [← hgt] at S2 ⊢
    clear hgt
    refine (allLeft_calls (.slice ta M tc) T W2 S2.out.tur (by rw [← HTT.out.2.2.2]; have := HMM.out; omega)).mono ?_
    rw [HA.out]
    rintro en w3 ⟨rfl, rfl⟩
    obtain rfl : k = M := by rw [HKK.out, HW.out]
    have HX : Hid (PL = (txL T BX E).zip (txL T SL.reverse told) ∧ SL.length = k ∧ True ∧ True ∧ told.length = 32 ∧ ∀ x ∈ SL, x.length = 32) := Lib.hid ⟨hPL, HKK.out.symm, trivial, trivial, HC.out, HSLL.out⟩
    clear hPL
    have SL32 := HX.out.2.2.2.2.2
    go_wp2_with fail
    refine (HRC.out (.slice ta k tc) W2 S2.out.rk (Nat.lt_of_lt_of_le S2.out.lt S2.out.bel.size) S2.out.cells S2.out.tur).mono ?_
    rintro en w5 ⟨bg, rfl, b5, lo5, bb5⟩
    have HBL : Hid (BX.reverse.length = k) := Lib.hid (by rw [List.length_reverse, HTT.out.2.1, besideX_len, HTT.out.2.2.2])
    rw [HBL.out] at b5 ⊢
    have S5 : Hid (SiS w (.slice ta k tc) T g off L gt told (.slice sa k sc) SL w5 ∧ Seg w5 38 32 (.slice (some ⟨bg, 0, none⟩) k k) k (sumsC BX.reverse)) := Lib.hid ⟨S2.out.below bb5, b5⟩
    clear b5 lo5 bb5 S2
    go_wp2_with (first
      | ((with_reducible refine at_store (.tmp 12) ?_); refine wpList_store_cells (o := ⟨none, _, _, _, _, _⟩) rfl 38 (.tmp 12) (.tmp 48) rfl w5.heap.size (cellsOf E) _ rfl rfl _ (made_at _ _ rfl) (HEC.out.symm ▸ (by kernel_rfl)) (HEC.out.symm ▸ rfl) (cellsOf_one _) ?_; intro W6 HW6 TW6;
         (have S6 : Hid (SiZ w (.slice ta k tc) T g off L gt told (.slice sa k sc) SL w5.heap.size E (.slice (some ⟨bg, 0, none⟩) k k) BX.reverse W6) := (by
           have bb : Below w5.heap.size w5 W6 := ((Below.refl _ _).alloc (Nat.le_refl _) _).trans (TW6.below (by simp) (fun j hj e => by omega))
           exact Lib.hid ⟨S5.out.1.below bb, HW6, by rw [HBL.out]; exact S5.out.2.below bb (fun x hx => S5.out.2.lt hx)⟩));
         clear HW6 TW6 S5)
      | fail)
    obtain ⟨gr, hgr⟩ : ∃ gr, gr = w5.heap.size := ⟨_, rfl⟩
    rw [← hgr] at S6 ⊢
    clear hgr
    have HM := HTT.out.2.2.2
    have N1 : Hid (∀ V, SiZ w (.slice ta k tc) T g off L gt told (.slice sa k sc) SL gr E (.slice (some ⟨bg, 0, none⟩) k k) BX.reverse V → Calls Tryz.prog 84 #[.slice ta k tc, .agg (cellsOf E), .slice (some ⟨bg, 0, none⟩) k k] V (NodesPost V k (textN (fun i => T.getD (k - 1 - i) false) E (fun i => BX.reverse.getD i [])))) := Lib.hid fun V hV => by
      have h := nodes_calls (.slice ta k tc) (.slice (some ⟨bg, 0, none⟩) k k) T BX.reverse E V hV.s.rk HEC2.out (by rw [HBL.out, ← HM]) (by rw [HBL.out]; exact HMM.out) hV.s.tur hV.bes (fun x hx => HALL.out.1 x (List.mem_reverse.1 hx))
      rw [HBL.out] at h
      exact h
    have N2 : Hid (∀ V, SiZ w (.slice ta k tc) T g off L gt told (.slice sa k sc) SL gr E (.slice (some ⟨bg, 0, none⟩) k k) BX.reverse V → Calls Tryz.prog 84 #[.slice ta k tc, .agg (cellsOf told), .slice sa k sc] V (NodesPost V k (textN (fun i => T.getD (k - 1 - i) false) told (fun i => SL.getD i [])))) := Lib.hid fun V hV => by
      have h := nodes_calls (.slice ta k tc) (.slice sa k sc) T SL told V hV.s.rk HX.out.2.2.2.2.1 (by rw [HX.out.2.1, ← HM]) (by rw [HX.out.2.1]; exact HMM.out) hV.s.tur hV.s.sums SL32
      rw [HX.out.2.1] at h
      exact h
    clear SL32
    refine Go.wp_region_held (S := SiZ w (.slice ta k tc) T g off L gt told (.slice sa k sc) SL gr E (.slice (some ⟨bg, 0, none⟩) k k) BX.reverse) (by kernel_rfl) ?_
    have S0 := S6.out.below (Below.refl _ _).drew
    clear S6
    refine held_take 0 (some 50) rfl rfl (by kernel_rfl) (by kernel_rfl) (by kernel_rfl) (fun _ _ _ h => h) (.inl ⟨by kernel_rfl, fun _ _ => rfl⟩) S0 ?_
    simp only [Act.put, List.setIfInBounds_toArray, List.set_cons_zero, List.set_cons_succ]
    refine held_take 1 (some 51) (v := .agg (cellsOf E)) rfl rfl (by kernel_rfl) (by kernel_rfl) (by kernel_rfl) (fun _ _ _ h => h) (.inl ⟨by kernel_rfl, fun V hV => by exact exec_load 38 (.tmp 12) rfl (.pointer (some ⟨gr, 0, none⟩)) (by kernel_rfl) (run_loadAt_mid V gr 0 38 ((E).map byteV) _ (Has.range hV.res) Tryz.underlying38 rfl (by rw [List.length_map, HEC2.out]; kernel_rfl))⟩) S0 ?_
    simp only [Act.put, List.setIfInBounds_toArray, List.set_cons_zero, List.set_cons_succ]
    refine held_take 2 (some 52) rfl rfl (by kernel_rfl) (by kernel_rfl) (by kernel_rfl) (fun _ _ _ h => h) (.inl ⟨by kernel_rfl, fun _ _ => rfl⟩) S0 ?_
    simp only [Act.put, List.setIfInBounds_toArray, List.set_cons_zero, List.set_cons_succ]
    refine held_take 4 (some 54) rfl rfl (by kernel_rfl) (by kernel_rfl) (by kernel_rfl) (fun _ _ _ h => h) (.inl ⟨by kernel_rfl, fun _ _ => rfl⟩) S0 ?_
    simp only [Act.put, List.setIfInBounds_toArray, List.set_cons_zero, List.set_cons_succ]
    refine held_take 5 (some 55) (v := .agg (cellsOf told)) rfl rfl (by kernel_rfl) (by kernel_rfl) (by kernel_rfl) (fun _ _ _ h => h) (.inl ⟨by kernel_rfl, fun V hV => by exact exec_load 38 (.tmp 11) rfl (.pointer (some ⟨gt, 0, none⟩)) (by kernel_rfl) (run_loadAt_mid V gt 0 38 ((told).map byteV) _ (Has.range hV.s.told) Tryz.underlying38 rfl (by rw [List.length_map, HX.out.2.2.2.2.1]; kernel_rfl))⟩) S0 ?_
    simp only [Act.put, List.setIfInBounds_toArray, List.set_cons_zero, List.set_cons_succ]
    refine held_take 6 (some 56) rfl rfl (by kernel_rfl) (by kernel_rfl) (by kernel_rfl) (fun _ _ _ h => h) (.inl ⟨by kernel_rfl, fun _ _ => rfl⟩) S0 ?_
    simp only [Act.put, List.setIfInBounds_toArray, List.set_cons_zero, List.set_cons_succ]
    refine held_one (i := 3) (by kernel_rfl) ?_
    refine wpOp_call (some 53) rfl rfl (by kernel_rfl) 84 Tryz.f84 Tryz.func84 (by kernel_rfl) (by kernel_rfl) _ _ rfl #[.slice ta k tc, .agg (cellsOf E), .slice (some ⟨bg, 0, none⟩) k k] (by first | (simp [Act.eval]; done) | (simp [Act.eval, Act.put]; done)) (N1.out _ S0) ?_
    rintro en w7 ⟨t1, rfl, h7, lo7, b7⟩
    have S1 := S0.below b7
    refine ⟨.slice (some ⟨t1, 0, none⟩) k k, rfl, S1, ?_⟩
    simp only [Act.put, List.setIfInBounds_toArray, List.set_cons_zero, List.set_cons_succ]
    refine held_one (i := 7) (by kernel_rfl) ?_
    refine wpOp_call (some 57) rfl rfl (by kernel_rfl) 84 Tryz.f84 Tryz.func84 (by kernel_rfl) (by kernel_rfl) _ _ rfl #[.slice ta k tc, .agg (cellsOf told), .slice sa k sc] (by first | (simp [Act.eval]; done) | (simp [Act.eval, Act.put]; done)) (N2.out _ S1) ?_
    rintro en w8 ⟨t2, rfl, h8, lo8, b8⟩
    have S2 := S1.below b8
    have h7' := h7.below b8 h7.lt
    refine ⟨.slice (some ⟨t2, 0, none⟩) k k, rfl, S2, ?_⟩
    simp only [Act.put, List.setIfInBounds_toArray, List.set_cons_zero, List.set_cons_succ]
    refine held_one (i := 8) (by kernel_rfl) ?_
    refine wpOp_call (some 58) rfl rfl (by kernel_rfl) 58 Tryz.f58 Tryz.func58 (by kernel_rfl) (by kernel_rfl) _ _ rfl #[.slice (some ⟨t1, 0, none⟩) k k, .slice (some ⟨t2, 0, none⟩) k k] (by first | (simp [Act.eval]; done) | (simp [Act.eval, Act.put]; done)) ((pairs_calls (some ⟨t1, 0, none⟩) (some ⟨t2, 0, none⟩) k k k (fun p => textN (fun i => T.getD (k - 1 - i) false) E (fun i => BX.reverse.getD i []) (k - 1 - p)) (fun p => textN (fun i => T.getD (k - 1 - i) false) told (fun i => SL.getD i []) (k - 1 - p)) _ (by have := HMM.out; omega) ⟨Nat.le_refl _, by have := HMM.out; unfold maxLen; omega⟩ ⟨Nat.le_refl _, by have := HMM.out; unfold maxLen; omega⟩ (fun p hp => ⟨t1, 0, rfl, h7'.lt, by rw [h7'.cell, Nat.zero_add, textsC_get hp, if_pos (by omega)]⟩) (fun p hp => ⟨t2, 0, rfl, h8.lt, by rw [h8.cell, Nat.zero_add, textsC_get hp, if_pos (by omega)]⟩))) ?_
    rintro en w9 ⟨gq, rfl, h9, lo9, b9⟩
    have S3 := S2.below b9
    refine ⟨.slice (some ⟨gq, 0, none⟩) k k, rfl, S3, ?_⟩
    simp only [Act.put, List.setIfInBounds_toArray, List.set_cons_zero, List.set_cons_succ]
    refine held_take 9 (some 8) (v := .slice (some ⟨gq, 0, none⟩) k k) rfl rfl (by kernel_rfl) (by kernel_rfl) (by kernel_rfl) (fun _ _ _ h => h) (.inl ⟨by kernel_rfl, fun V hV => by rfl⟩) S3 ?_
    simp only [Act.put, List.setIfInBounds_toArray, List.set_cons_zero, List.set_cons_succ]
    refine held_take 10 (some 9) (v := .bool true) rfl rfl (by kernel_rfl) (by kernel_rfl) (by kernel_rfl) (fun _ _ _ h => h) (.inl ⟨by kernel_rfl, fun V hV => by rfl⟩) S3 ?_
    simp only [Act.put, List.setIfInBounds_toArray, List.set_cons_zero, List.set_cons_succ]
    refine wpAnyH_done (by kernel_rfl) ?_ _
    have HB := Lib.hid (show _ ∧ _ from ⟨S3.s.bel, h9⟩)
    clear S0 S1 S2 S3 h7 h7' h8 h9 lo7 lo8 lo9 b7 b8 b9 N1 N2
    go_wp2_with fail
    go_ret2
    have hz1 : BX.length = k := by have := HBL.out; rwa [List.length_reverse] at this
    have hz2 : SL.reverse.length = k := by rw [List.length_reverse]; exact HX.out.2.1
    have e1 := txL_len T BX E (by rw [hz1, ← HTT.out.2.2.2])
    have e2 := txL_len T SL.reverse told (by rw [hz2, ← HTT.out.2.2.2])
    rw [← HTT.out.2.2.2] at e1 e2
    have hpl : ((txL T BX E).zip (txL T SL.reverse told)).length = k := by rw [List.length_zip, e1, e2, Nat.min_self]
    have hpm := pairsM_zip (fun p => textN (fun i => T.getD (k - 1 - i) false) E (fun i => BX.reverse.getD i []) (k - 1 - p)) (fun p => textN (fun i => T.getD (k - 1 - i) false) told (fun i => SL.getD i []) (k - 1 - p)) _ _ k e1 e2 (fun p hp => by have := txL_at T BX E (by rw [hz1, ← HTT.out.2.2.2]) p (by rw [← HTT.out.2.2.2]; exact hp); rw [← HTT.out.2.2.2] at this; exact this) (fun p hp => by have := txL_at T SL.reverse told (by rw [hz2, ← HTT.out.2.2.2]) p (by rw [← HTT.out.2.2.2]; exact hp); rw [← HTT.out.2.2.2, List.reverse_reverse] at this; exact this)
    have hP : PL.length = k := by rw [HX.out.1]; exact hpl
    refine ⟨gq, by rw [hP]; rfl, ?_, HB.out.1⟩
    rw [hP, HX.out.1, ← hpm]
    have h6 := Seg.of_has (n := k) (size := 2) HB.out.2 (by rw [List.size_toArray, pairsM_len]) (by have := HMM.out; unfold maxLen; omega)
    exact h6
  · have HA := Lib.hid ha
    clear ha
    go_enter Tryz.func63, Tryz.ntmps63
    go_wp2_with fail
    refine callsName (fun W hW => ?_)
    have B0 : Hid (Below w.heap.size w W ∧ Has W w.heap.size 38 (cellsOf claim)) := by rw [← hW]; exact Lib.hid ⟨(Below.refl _ _).alloc (Nat.le_refl _) _, made_at _ _ rfl⟩
    clear hW
    refine (HTC.out W).mono ?_
    rintro en w1 ⟨tv, rfl, t1, lo1, b1⟩
    obtain ⟨ta, tc, htv, ht1, ht2⟩ := t1.slice
    rw [← HTT.out.2.2.2] at htv
    subst htv
    have B1 : Hid (Below w.heap.size w w1 ∧ Has w1 w.heap.size 38 (cellsOf claim) ∧ Seg w1 4 1 (.slice ta M tc) T.length (T.map Value.bool)) := Lib.hid ⟨B0.out.1.trans (b1.mono B0.out.1.size), B0.out.2.below b1 B0.out.2.lt, t1⟩
    clear b1 B0 t1 lo1 ht1 ht2 HTC
    go_wp2_with (first
      | ((with_reducible refine at_op 27 ?_); refine wpList_load_row (o := ⟨some 27, _, _, _, _, _⟩) rfl 38 _ rfl w.heap.size rfl 38 (cellsOf claim) (0, 0) _ B1.out.2.1 Tryz.underlying38 rfl (by rw [HCC.out]; kernel_rfl) ?_)
      | ((with_reducible refine at_store (.tmp 11) ?_); refine wpList_store_cells (o := ⟨none, _, _, _, _, _⟩) rfl 38 (.tmp 11) (.tmp 27) rfl w1.heap.size (cellsOf claim) _ rfl rfl _ (made_at _ _ rfl) (HCC.out.symm ▸ (by kernel_rfl)) (HCC.out.symm ▸ rfl) (cellsOf_one _) ?_; intro W2 HW2 TW2;
         (have S2 : Hid (SiS w (.slice ta M tc) T g off L w1.heap.size claim (.slice sa k sc) (told :: SL2) W2) := (by
           have bb : Below w1.heap.size w1 W2 := ((Below.refl _ _).alloc (Nat.le_refl _) _).trans (TW2.below (by simp) (fun j hj e => by omega))
           have b2 := B1.out.1.trans (bb.mono B1.out.1.size)
           obtain ⟨h1, h2, h3, h4⟩ := HS.out
           refine Lib.hid ⟨h1.below b2, B1.out.2.2.below bb (fun x hx => B1.out.2.2.lt hx), HW2, ?_, h2, fun i s hs => by rw [← h3 i s hs]; unfold World.cell?; rw [b2.block g h2], B1.out.1.size, b2⟩
           have h5 := h4.below b2 (fun x hx => h4.lt hx)
           rw [← HKK.out] at h5 ⊢
           exact h5));
         clear HW2 TW2 B1)
      | fail)
    obtain ⟨gt, hgt⟩ : ∃ gt, gt = w1.heap.size := ⟨_, rfl⟩
    rw [← hgt] at S2 ⊢
    clear hgt
    refine (allLeft_calls (.slice ta M tc) T W2 S2.out.tur (by rw [← HTT.out.2.2.2]; have := HMM.out; omega)).mono ?_
    rw [HA.out]
    rintro en w3 ⟨rfl, rfl⟩
    have hk1 : k = M + 1 := by rw [HKK.out, List.length_cons, HW.out]
    have hT32 : told.length = 32 := HSLL.out told (by simp)
    have HT32 := Lib.hid hT32
    have HTC2 : Hid ((cellsOf told).size = 32) := Lib.hid (by rw [cellsOf_size, hT32])
    obtain ⟨gs, os, cap, hsg⟩ : ∃ gs os cap, sa = some ⟨gs, os, none⟩ ∧ cap = sc := by
      obtain ⟨g', o', c', e, _⟩ := S2.out.sums.cells (by simp)
      simp only [Value.slice.injEq] at e
      exact ⟨g', o', _, e.1, rfl⟩
    obtain ⟨rfl, rfl⟩ := hsg
    have HRG : Hid (∀ V, SiS w (.slice ta M tc) T g off L gt claim (.slice (some ⟨gs, os, none⟩) k cap) (told :: SL2) V → V.rangeAt gs os (told.map byteV)) := Lib.hid fun V hV j u hj => by
      obtain ⟨g', o', c', e, _, _, _, hc⟩ := hV.sums.cells (by simp)
      simp only [Value.slice.injEq, Option.some.injEq, Addr.mk.injEq] at e
      obtain ⟨⟨rfl, rfl, _⟩, _, _⟩ := e
      refine hc j u ?_
      rw [sumsC, List.flatMap_cons, List.getElem?_append_left (by have := (List.getElem?_eq_some_iff.1 hj).1; exact this)]
      exact hj
    have HRS : Hid (∃ oq cq, (∀ V, SiS w (.slice ta M tc) T g off L gt claim (.slice (some ⟨gs, os, none⟩) k cap) (told :: SL2) V → Seg V 38 32 (.slice (some ⟨gs, oq, none⟩) M cq) SL2.length (sumsC SL2)) ∧ ((cap = 1 ∧ oq = os ∧ cq = cap - 1) ∨ (¬ cap = 1 ∧ oq = os + 32 ∧ cq = cap - 1))) := Lib.hid (by
      have hdr : (sumsC (told :: SL2)).drop (1 * 32) = sumsC SL2 := by
        rw [sumsC, List.flatMap_cons, List.drop_append, List.drop_of_length_le (by rw [List.length_map, hT32]; decide), List.length_map, hT32]
        rfl
      have key : ∀ V, SiS w (.slice ta M tc) T g off L gt claim (.slice (some ⟨gs, os, none⟩) k cap) (told :: SL2) V → Seg V 38 32 (.slice (some (if cap = 1 then ⟨gs, os, none⟩ else ⟨gs, os + 32, none⟩)) M (cap - 1)) SL2.length (sumsC SL2) := fun V hV => by
        have h3 := hV.sums
        rw [← HKK.out] at h3
        have h4 := Seg.rest h3 1 (by omega)
        rw [hdr, Nat.one_mul, show k - 1 = M by omega] at h4
        rw [HW.out]
        exact h4
      by_cases hc1 : cap = 1
      · refine ⟨os, cap - 1, fun V hV => ?_, .inl ⟨hc1, rfl, rfl⟩⟩
        have h4 := key V hV
        rw [if_pos hc1] at h4
        exact h4
      · refine ⟨os + 32, cap - 1, fun V hV => ?_, .inr ⟨hc1, rfl, rfl⟩⟩
        have h4 := key V hV
        rw [if_neg hc1] at h4
        exact h4)
    obtain ⟨oq, cq, hseg, hcase⟩ := HRS.out
    have HSEG := Lib.hid hseg
    clear hseg HRS
    have hk0 : ¬ (k : Int) = 0 := by omega
    have hk7 : ¬ k = 0 := by omega
    have hk2 : (1 : Int) ≤ (k : Int) := by omega
    have hk3 : (0 : Int) < (k : Int) := by omega
    have hk4 : (k : Int) - 1 = (M : Int) := by omega
    have hk5 : k - 1 = M := by omega
    have hk6 : (1 : Int) ≤ (cap : Int) := by omega
    clear hk1
    go_wp2_with fail
    refine wp_region_any (by kernel_rfl) ?_
    refine wpAny_name (fun V hV => ?_)
    have HV : Hid (SiS w (.slice ta M tc) T g off L gt claim (.slice (some ⟨gs, os, none⟩) k cap) (told :: SL2) V) := by rw [← hV]; first | exact Lib.hid S2.out | exact Lib.hid (S2.out.below (Below.refl _ _).drew)
    clear hV
    refine any_take 0 (some 34) (v := .slice (some ⟨gs, os, none⟩) k cap) rfl rfl (by kernel_rfl) (by kernel_rfl) (by kernel_rfl) (fun _ _ _ h => h) (by kernel_rfl) (fun V => rfl) ?_
    simp only [Act.put, List.setIfInBounds_toArray, List.set_cons_zero, List.set_cons_succ]
    refine any_take 1 (some 35) (v := .pointer (some ⟨gs, os, none⟩)) rfl rfl (by kernel_rfl) (by kernel_rfl) (by kernel_rfl) (fun _ _ _ h => h) (by kernel_rfl) (fun V => by go_simp) ?_
    simp only [Act.put, List.setIfInBounds_toArray, List.set_cons_zero, List.set_cons_succ]
    refine any_take 3 (some 37) (v := .slice (some ⟨gs, os, none⟩) k cap) rfl rfl (by kernel_rfl) (by kernel_rfl) (by kernel_rfl) (fun _ _ _ h => h) (by kernel_rfl) (fun V => rfl) ?_
    simp only [Act.put, List.setIfInBounds_toArray, List.set_cons_zero, List.set_cons_succ]
    refine any_take 4 (some 38) (v := .slice (some ⟨gs, oq, none⟩) M cq) rfl rfl (by kernel_rfl) (by kernel_rfl) (by kernel_rfl) (fun _ _ _ h => h) (by kernel_rfl) (fun V => by
      have x4 : (cap : Int) - 1 = ((cap - 1 : Nat) : Int) := by omega
      rcases hcase with ⟨x1, rfl, rfl⟩ | ⟨x1, rfl, rfl⟩
      · go_simp
      · go_simp) ?_
    simp only [Act.put, List.setIfInBounds_toArray, List.set_cons_zero, List.set_cons_succ]
    refine any_one (i := 2) (by kernel_rfl) ?_
    refine wpOp_value (some 36) (v := .agg (cellsOf told)) (w' := V) rfl rfl (by kernel_rfl) (exec_load 38 (.tmp 35) rfl (.pointer (some ⟨gs, os, none⟩)) (by kernel_rfl) (run_loadAt_mid V gs os 38 (told.map byteV) _ (HRG.out V HV.out) Tryz.underlying38 rfl (by rw [List.length_map, HT32.out]; kernel_rfl))) ?_
    simp only [Act.put, List.setIfInBounds_toArray, List.set_cons_zero, List.set_cons_succ]
    refine any_one (i := 5) (by kernel_rfl) ?_
    refine wpOp_wp rfl (by kernel_rfl) ?_
    refine wp_store_row 38 _ _ rfl gt (cellsOf told) rfl rfl 38 (cellsOf claim) HV.out.told (by rw [HTC2.out]; kernel_rfl) (by rw [HTC2.out, HCC.out]) (cellsOf_one _) ?_
    have HW6 : Has (V.setRow gt (cellsOf told)) gt 38 (cellsOf told) := HV.out.told.row _
    have TW6 : Turn (fun k => k = gt) V (V.setRow gt (cellsOf told)) := turn_row _ _ _
    generalize V.setRow gt (cellsOf told) = W4 at *
    have S4 : Hid (SiS w (.slice ta M tc) T g off L gt told (.slice (some ⟨gs, oq, none⟩) M cq) SL2 W4) := by
      have h := HV.out
      have hsg := HSEG.out V h
      refine Lib.hid ⟨h.rk.turn TW6 (fun e => ?_), h.tur.turn TW6 (fun x hx e => h.tur.ne h.told (by decide) (by rw [hx, e])), HW6, hsg.turn TW6 (fun x hx e => ?_), h.lt, fun i s hs => by rw [← h.cells i s hs]; exact TW6.cell (Nat.lt_of_lt_of_le h.lt h.bel.size) (by have := h.lt; have := h.lo; show ¬ g = _; omega), h.lo, h.bel.trans (TW6.below h.bel.size (fun j hj e => by have := h.lo; omega))⟩
      · have := HS.out.1.lt; have := h.lo; omega
      · have h1 : gs = x := by simpa [Value.ownBlock] using hx
        have h2 : gs < w.heap.size := HS.out.2.2.2.lt rfl
        have := h.lo
        omega
    clear HW6 TW6 HV S2 HRG HSEG
    refine any_take 6 (some 3) (v := .slice (some ⟨gs, oq, none⟩) M cq) rfl rfl (by kernel_rfl) (by kernel_rfl) (by kernel_rfl) (fun _ _ _ h => h) (by kernel_rfl) (fun V => rfl) ?_
    simp only [Act.put, List.setIfInBounds_toArray]
    refine wpAny_done (by kernel_rfl) ?_ _
    clear hcase hk0 hk7 hk2 hk3 hk4 hk5 hk6 hkc
    have HX : Hid (PL = (txL T BX E).zip (txL T SL2.reverse told) ∧ SL2.length = M ∧ True ∧ True ∧ told.length = 32 ∧ ∀ x ∈ SL2, x.length = 32) := Lib.hid ⟨hPL, HW.out, trivial, trivial, HT32.out, fun x hx => HSLL.out x (by simp [hx])⟩
    clear hPL
    have SL32 := HX.out.2.2.2.2.2
    go_wp2_with fail
    refine (HRC.out (.slice ta M tc) W4 S4.out.rk (Nat.lt_of_lt_of_le S4.out.lt S4.out.bel.size) S4.out.cells S4.out.tur).mono ?_
    rintro en w5 ⟨bg, rfl, b5, lo5, bb5⟩
    have HBL : Hid (BX.reverse.length = M) := Lib.hid (by rw [List.length_reverse, HTT.out.2.1, besideX_len, HTT.out.2.2.2])
    rw [HBL.out] at b5 ⊢
    have S5 : Hid (SiS w (.slice ta M tc) T g off L gt told (.slice (some ⟨gs, oq, none⟩) M cq) SL2 w5 ∧ Seg w5 38 32 (.slice (some ⟨bg, 0, none⟩) M M) M (sumsC BX.reverse)) := Lib.hid ⟨S4.out.below bb5, b5⟩
    clear b5 lo5 bb5 S4
    go_wp2_with (first
      | ((with_reducible refine at_store (.tmp 12) ?_); refine wpList_store_cells (o := ⟨none, _, _, _, _, _⟩) rfl 38 (.tmp 12) (.tmp 48) rfl w5.heap.size (cellsOf E) _ rfl rfl _ (made_at _ _ rfl) (HEC.out.symm ▸ (by kernel_rfl)) (HEC.out.symm ▸ rfl) (cellsOf_one _) ?_; intro W6 HW6 TW6;
         (have S6 : Hid (SiZ w (.slice ta M tc) T g off L gt told (.slice (some ⟨gs, oq, none⟩) M cq) SL2 w5.heap.size E (.slice (some ⟨bg, 0, none⟩) M M) BX.reverse W6) := (by
           have bb : Below w5.heap.size w5 W6 := ((Below.refl _ _).alloc (Nat.le_refl _) _).trans (TW6.below (by simp) (fun j hj e => by omega))
           exact Lib.hid ⟨S5.out.1.below bb, HW6, by rw [HBL.out]; exact S5.out.2.below bb (fun x hx => S5.out.2.lt hx)⟩));
         clear HW6 TW6 S5)
      | fail)
    obtain ⟨gr, hgr⟩ : ∃ gr, gr = w5.heap.size := ⟨_, rfl⟩
    rw [← hgr] at S6 ⊢
    clear hgr
    have HM := HTT.out.2.2.2
    have N1 : Hid (∀ V, SiZ w (.slice ta M tc) T g off L gt told (.slice (some ⟨gs, oq, none⟩) M cq) SL2 gr E (.slice (some ⟨bg, 0, none⟩) M M) BX.reverse V → Calls Tryz.prog 84 #[.slice ta M tc, .agg (cellsOf E), .slice (some ⟨bg, 0, none⟩) M M] V (NodesPost V M (textN (fun i => T.getD (M - 1 - i) false) E (fun i => BX.reverse.getD i [])))) := Lib.hid fun V hV => by
      have h := nodes_calls (.slice ta M tc) (.slice (some ⟨bg, 0, none⟩) M M) T BX.reverse E V hV.s.rk HEC2.out (by rw [HBL.out, ← HM]) (by rw [HBL.out]; exact HMM.out) hV.s.tur hV.bes (fun x hx => HALL.out.1 x (List.mem_reverse.1 hx))
      rw [HBL.out] at h
      exact h
    have N2 : Hid (∀ V, SiZ w (.slice ta M tc) T g off L gt told (.slice (some ⟨gs, oq, none⟩) M cq) SL2 gr E (.slice (some ⟨bg, 0, none⟩) M M) BX.reverse V → Calls Tryz.prog 84 #[.slice ta M tc, .agg (cellsOf told), .slice (some ⟨gs, oq, none⟩) M cq] V (NodesPost V M (textN (fun i => T.getD (M - 1 - i) false) told (fun i => SL2.getD i [])))) := Lib.hid fun V hV => by
      have h := nodes_calls (.slice ta M tc) (.slice (some ⟨gs, oq, none⟩) M cq) T SL2 told V hV.s.rk HX.out.2.2.2.2.1 (by rw [HX.out.2.1, ← HM]) (by rw [HX.out.2.1]; exact HMM.out) hV.s.tur hV.s.sums SL32
      rw [HX.out.2.1] at h
      exact h
    clear SL32
    refine Go.wp_region_held (S := SiZ w (.slice ta M tc) T g off L gt told (.slice (some ⟨gs, oq, none⟩) M cq) SL2 gr E (.slice (some ⟨bg, 0, none⟩) M M) BX.reverse) (by kernel_rfl) ?_
    have S0 := S6.out.below (Below.refl _ _).drew
    clear S6
    refine held_take 0 (some 50) rfl rfl (by kernel_rfl) (by kernel_rfl) (by kernel_rfl) (fun _ _ _ h => h) (.inl ⟨by kernel_rfl, fun _ _ => rfl⟩) S0 ?_
    simp only [Act.put, List.setIfInBounds_toArray, List.set_cons_zero, List.set_cons_succ]
    refine held_take 1 (some 51) (v := .agg (cellsOf E)) rfl rfl (by kernel_rfl) (by kernel_rfl) (by kernel_rfl) (fun _ _ _ h => h) (.inl ⟨by kernel_rfl, fun V hV => by exact exec_load 38 (.tmp 12) rfl (.pointer (some ⟨gr, 0, none⟩)) (by kernel_rfl) (run_loadAt_mid V gr 0 38 ((E).map byteV) _ (Has.range hV.res) Tryz.underlying38 rfl (by rw [List.length_map, HEC2.out]; kernel_rfl))⟩) S0 ?_
    simp only [Act.put, List.setIfInBounds_toArray, List.set_cons_zero, List.set_cons_succ]
    refine held_take 2 (some 52) rfl rfl (by kernel_rfl) (by kernel_rfl) (by kernel_rfl) (fun _ _ _ h => h) (.inl ⟨by kernel_rfl, fun _ _ => rfl⟩) S0 ?_
    simp only [Act.put, List.setIfInBounds_toArray, List.set_cons_zero, List.set_cons_succ]
    refine held_take 4 (some 54) rfl rfl (by kernel_rfl) (by kernel_rfl) (by kernel_rfl) (fun _ _ _ h => h) (.inl ⟨by kernel_rfl, fun _ _ => rfl⟩) S0 ?_
    simp only [Act.put, List.setIfInBounds_toArray, List.set_cons_zero, List.set_cons_succ]
    refine held_take 5 (some 55) (v := .agg (cellsOf told)) rfl rfl (by kernel_rfl) (by kernel_rfl) (by kernel_rfl) (fun _ _ _ h => h) (.inl ⟨by kernel_rfl, fun V hV => by exact exec_load 38 (.tmp 11) rfl (.pointer (some ⟨gt, 0, none⟩)) (by kernel_rfl) (run_loadAt_mid V gt 0 38 ((told).map byteV) _ (Has.range hV.s.told) Tryz.underlying38 rfl (by rw [List.length_map, HX.out.2.2.2.2.1]; kernel_rfl))⟩) S0 ?_
    simp only [Act.put, List.setIfInBounds_toArray, List.set_cons_zero, List.set_cons_succ]
    refine held_take 6 (some 56) rfl rfl (by kernel_rfl) (by kernel_rfl) (by kernel_rfl) (fun _ _ _ h => h) (.inl ⟨by kernel_rfl, fun _ _ => rfl⟩) S0 ?_
    simp only [Act.put, List.setIfInBounds_toArray, List.set_cons_zero, List.set_cons_succ]
    refine held_one (i := 3) (by kernel_rfl) ?_
    refine wpOp_call (some 53) rfl rfl (by kernel_rfl) 84 Tryz.f84 Tryz.func84 (by kernel_rfl) (by kernel_rfl) _ _ rfl #[.slice ta M tc, .agg (cellsOf E), .slice (some ⟨bg, 0, none⟩) M M] (by first | (simp [Act.eval]; done) | (simp [Act.eval, Act.put]; done)) (N1.out _ S0) ?_
    rintro en w7 ⟨t1, rfl, h7, lo7, b7⟩
    have S1 := S0.below b7
    refine ⟨.slice (some ⟨t1, 0, none⟩) M M, rfl, S1, ?_⟩
    simp only [Act.put, List.setIfInBounds_toArray, List.set_cons_zero, List.set_cons_succ]
    refine held_one (i := 7) (by kernel_rfl) ?_
    refine wpOp_call (some 57) rfl rfl (by kernel_rfl) 84 Tryz.f84 Tryz.func84 (by kernel_rfl) (by kernel_rfl) _ _ rfl #[.slice ta M tc, .agg (cellsOf told), .slice (some ⟨gs, oq, none⟩) M cq] (by first | (simp [Act.eval]; done) | (simp [Act.eval, Act.put]; done)) (N2.out _ S1) ?_
    rintro en w8 ⟨t2, rfl, h8, lo8, b8⟩
    have S2 := S1.below b8
    have h7' := h7.below b8 h7.lt
    refine ⟨.slice (some ⟨t2, 0, none⟩) M M, rfl, S2, ?_⟩
    simp only [Act.put, List.setIfInBounds_toArray, List.set_cons_zero, List.set_cons_succ]
    refine held_one (i := 8) (by kernel_rfl) ?_
    refine wpOp_call (some 58) rfl rfl (by kernel_rfl) 58 Tryz.f58 Tryz.func58 (by kernel_rfl) (by kernel_rfl) _ _ rfl #[.slice (some ⟨t1, 0, none⟩) M M, .slice (some ⟨t2, 0, none⟩) M M] (by first | (simp [Act.eval]; done) | (simp [Act.eval, Act.put]; done)) ((pairs_calls (some ⟨t1, 0, none⟩) (some ⟨t2, 0, none⟩) M M M (fun p => textN (fun i => T.getD (M - 1 - i) false) E (fun i => BX.reverse.getD i []) (M - 1 - p)) (fun p => textN (fun i => T.getD (M - 1 - i) false) told (fun i => SL2.getD i []) (M - 1 - p)) _ (by have := HMM.out; omega) ⟨Nat.le_refl _, by have := HMM.out; unfold maxLen; omega⟩ ⟨Nat.le_refl _, by have := HMM.out; unfold maxLen; omega⟩ (fun p hp => ⟨t1, 0, rfl, h7'.lt, by rw [h7'.cell, Nat.zero_add, textsC_get hp, if_pos (by omega)]⟩) (fun p hp => ⟨t2, 0, rfl, h8.lt, by rw [h8.cell, Nat.zero_add, textsC_get hp, if_pos (by omega)]⟩))) ?_
    rintro en w9 ⟨gq, rfl, h9, lo9, b9⟩
    have S3 := S2.below b9
    refine ⟨.slice (some ⟨gq, 0, none⟩) M M, rfl, S3, ?_⟩
    simp only [Act.put, List.setIfInBounds_toArray, List.set_cons_zero, List.set_cons_succ]
    refine held_take 9 (some 8) (v := .slice (some ⟨gq, 0, none⟩) M M) rfl rfl (by kernel_rfl) (by kernel_rfl) (by kernel_rfl) (fun _ _ _ h => h) (.inl ⟨by kernel_rfl, fun V hV => by rfl⟩) S3 ?_
    simp only [Act.put, List.setIfInBounds_toArray, List.set_cons_zero, List.set_cons_succ]
    refine held_take 10 (some 9) (v := .bool true) rfl rfl (by kernel_rfl) (by kernel_rfl) (by kernel_rfl) (fun _ _ _ h => h) (.inl ⟨by kernel_rfl, fun V hV => by rfl⟩) S3 ?_
    simp only [Act.put, List.setIfInBounds_toArray, List.set_cons_zero, List.set_cons_succ]
    refine wpAnyH_done (by kernel_rfl) ?_ _
    have HB := Lib.hid (show _ ∧ _ from ⟨S3.s.bel, h9⟩)
    clear S0 S1 S2 S3 h7 h7' h8 h9 lo7 lo8 lo9 b7 b8 b9 N1 N2
    go_wp2_with fail
    go_ret2
    have hz1 : BX.length = M := by have := HBL.out; rwa [List.length_reverse] at this
    have hz2 : SL2.reverse.length = M := by rw [List.length_reverse]; exact HX.out.2.1
    have e1 := txL_len T BX E (by rw [hz1, ← HTT.out.2.2.2])
    have e2 := txL_len T SL2.reverse told (by rw [hz2, ← HTT.out.2.2.2])
    rw [← HTT.out.2.2.2] at e1 e2
    have hpl : ((txL T BX E).zip (txL T SL2.reverse told)).length = M := by rw [List.length_zip, e1, e2, Nat.min_self]
    have hpm := pairsM_zip (fun p => textN (fun i => T.getD (M - 1 - i) false) E (fun i => BX.reverse.getD i []) (M - 1 - p)) (fun p => textN (fun i => T.getD (M - 1 - i) false) told (fun i => SL2.getD i []) (M - 1 - p)) _ _ M e1 e2 (fun p hp => by have := txL_at T BX E (by rw [hz1, ← HTT.out.2.2.2]) p (by rw [← HTT.out.2.2.2]; exact hp); rw [← HTT.out.2.2.2] at this; exact this) (fun p hp => by have := txL_at T SL2.reverse told (by rw [hz2, ← HTT.out.2.2.2]) p (by rw [← HTT.out.2.2.2]; exact hp); rw [← HTT.out.2.2.2, List.reverse_reverse] at this; exact this)
    have hP : PL.length = M := by rw [HX.out.1]; exact hpl
    refine ⟨gq, by rw [hP]; rfl, ?_, HB.out.1⟩
    rw [hP, HX.out.1, ← hpm]
    have h6 := Seg.of_has (n := M) (size := 2) HB.out.2 (by rw [List.size_toArray, pairsM_len]) (by have := HMM.out; unfold maxLen; omega)
    exact h6
end Go.Proofs.YtdoadmkaoboncaaGreatDoor.clash
end

section
/- clash: Leaves. -/
namespace Go.Proofs.YtdoadmkaoboncaaGreatDoor.clash
open Go Go.RowKit Go.Proofs.YtdoadmkaoboncaaGreatDoor.dig Go.Proofs.YtdoadmkaoboncaaGreatDoor.prf

theorem texX_size : ∀ (T : List Bool) (r : List (List UInt8)) (c : List UInt8), c.length = 32 → (∀ x ∈ r, x.length = 32) → ∀ y ∈ texX T r c, y.length = 65
  | [], _, _, _, _, y, hy => by simp [texX] at hy
  | _ :: _, [], _, _, _, y, hy => by simp [texX] at hy
  | t :: T, o :: r, c, hc, hr, y, hy => by
    rw [texX] at hy
    rcases List.mem_cons.1 hy with rfl | hy
    · have h1 := comeX_len T r hc
      have h2 := hr o (by simp)
      split <;> simp [h1, h2]
    · exact texX_size T r c hc (fun x hx => hr x (by simp [hx])) y hy
theorem firstU_zip {l1 l2 : List ByteArray} {k : Nat} {x y : ByteArray} (h1 : l1[k]? = some x) (h2 : l2[k]? = some y) (hne : x ≠ y) (hb : ∀ j < k, l1[j]? = l2[j]?) : firstU (l1.zip l2) = ((x, y), true) := by
  refine firstU_some (i := k) (List.getElem?_zip_eq_some.2 ⟨h1, h2⟩) hne (fun j p hj hp => ?_)
  obtain ⟨e1, e2⟩ := List.getElem?_zip_eq_some.1 hp
  have := hb j hj
  rw [e1, e2] at this
  exact Option.some.inj this
theorem bs_ne {x y : List UInt8} (h : x ≠ y) : (⟨x.toArray⟩ : ByteArray) ≠ ⟨y.toArray⟩ := fun e => h (by
  have := congrArg (fun b : ByteArray => b.data.toList) e
  simpa using this)
theorem clashB_of {x y : List UInt8} (h : x ≠ y) (hs : sum x = sum y) : clashB ⟨x.toArray⟩ ⟨y.toArray⟩ = true := by
  unfold clashB
  rw [decide_eq_true (bs_ne h)]
  simp [hs]
theorem leafT_list (s : ByteArray) : (leafT s).data.toList = 0 :: s.data.toList := by
  simp [leafT, ByteArray.data_append]
theorem leafT_inj {a b : ByteArray} (h : leafT a = leafT b) : a = b := by
  have h1 := congrArg (fun x : ByteArray => x.data.toList) h
  simp only [leafT_list] at h1
  exact ByteArray.ext (Array.toList_inj.1 (List.cons.inj h1).2)

/-- What Leaves answers: a clash if ok, nothing otherwise. -/
def PairPost (w : World) (ok : Bool) (en : Ending) (w' : World) : Prop :=
  ∃ x y, en = .returned (.tuple #[.agg #[.string x, .string y], .bool ok]) ∧ (ok = true → clashB x y = true ∧ x.size < 1000000000 ∧ y.size < 1000000000) ∧ (ok = false → x = ⟨#[]⟩ ∧ y = ⟨#[]⟩) ∧ Below w.heap.size w w'

/-- Do two proofs prove two unlike leaves? -/
def twoB (a b : ByteArray) (i n : Int) (root : List UInt8) (p q : List (List UInt8)) : Bool := decide (a ≠ b) && (inclE a.data.toList i n root p == 0) && (inclE b.data.toList i n root q == 0)

/-- The first unlike ones of two ways. -/
theorem way_first {a b : ByteArray} {root : List UInt8} {i n : Nat} (hi : i < n) {p q : List (List UInt8)} (hp : ∀ x ∈ p, x.length = 32) (hq : ∀ x ∈ q, x.length = 32) (ha : inclE a.data.toList i n root p = 0) (hb : inclE b.data.toList i n root q = 0) (hne : a ≠ b) (hsa : a.size < 900000000) (hsb : b.size < 900000000) :
    ∃ x y, firstU ((txL (turnsL i n) p (leafS a.data.toList) ++ [leafT a]).zip (txL (turnsL i n) q (leafS b.data.toList) ++ [leafT b])) = ((x, y), true) ∧ clashB x y = true ∧ x.size < 1000000000 ∧ y.size < 1000000000 := by
  have hne' : a.data.toList ≠ b.data.toList := fun e => hne (ByteArray.ext (Array.toList_inj.1 e))
  obtain ⟨l1, l2, h⟩ := sure_leaves hi hp hq ha hb hne'
  have k1 := txL_len (turnsL i n) p (leafS a.data.toList) l1
  have k2 := txL_len (turnsL i n) q (leafS b.data.toList) l2
  rcases h with ⟨k, x, y, h1, h2, h3, h4, h5⟩ | ⟨h1, h2⟩
  · refine ⟨⟨x.toArray⟩, ⟨y.toArray⟩, ?_, clashB_of h3 h4, ?_, ?_⟩
    · have hk : k < (turnsL i n).length := by
        have := (List.getElem?_eq_some_iff.1 h1).1
        rw [texX_len _ _ _ l1] at this
        exact this
      refine firstU_zip (k := k) ?_ ?_ (bs_ne h3) (fun j hj => ?_)
      · rw [List.getElem?_append_left (by omega), txL, List.getElem?_map, h1]; rfl
      · rw [List.getElem?_append_left (by omega), txL, List.getElem?_map, h2]; rfl
      · rw [List.getElem?_append_left (by omega), List.getElem?_append_left (by omega), txL, txL, List.getElem?_map, List.getElem?_map, h5 j hj]
    · have := texX_size _ _ _ (leafS_length _) hp x (List.mem_of_getElem? h1)
      simp [ByteArray.size, this]
    · have := texX_size _ _ _ (leafS_length _) hq y (List.mem_of_getElem? h2)
      simp [ByteArray.size, this]
  · refine ⟨leafT a, leafT b, ?_, ?_, by rw [leafT_size]; omega, by rw [leafT_size]; omega⟩
    · refine firstU_zip (k := (turnsL i n).length) ?_ ?_ (fun e => hne (leafT_inj e)) (fun j hj => ?_)
      · rw [List.getElem?_append_right (by omega), k1, Nat.sub_self]; rfl
      · rw [List.getElem?_append_right (by omega), k2, Nat.sub_self]; rfl
      · rw [List.getElem?_append_left (by omega), List.getElem?_append_left (by omega), txL, txL, h1]
    · unfold clashB
      rw [decide_eq_true (show leafT a ≠ leafT b from fun e => hne (leafT_inj e)), leafT_list, leafT_list, h2]
      simp

theorem wayL_at {m : Nat} {X : Nat → ByteArray} {s : ByteArray} {l : List ByteArray} (hl : l.length = m) (hX : ∀ p, p < m → l[p]? = some (X (m - 1 - p))) : wayL m X s = (l ++ [leafT s]).map Value.string := by
  unfold wayL
  rw [List.map_append]
  congr 1
  apply List.ext_getElem?
  intro p
  by_cases hp : p < m
  · rw [List.getElem?_map, List.getElem?_range hp, List.getElem?_map, hX p hp]
    rfl
  · rw [List.getElem?_eq_none (by simp; omega), List.getElem?_eq_none (by simp; omega)]

/-- What lasts in Leaves. -/
structure LvS (w : World) (n : Int) (root : List UInt8) (p q : List (List UInt8)) (pv qv : Value) (V : World) : Prop where
  rk : Rk V
  hd : Has V w.heap.size 41 (headC n root)
  res : Has V (w.heap.size + 1) 44 #[.string ⟨#[]⟩, .string ⟨#[]⟩]
  sp : SmS V pv p
  sq : SmS V qv q
  bel : Below w.heap.size w V
theorem LvS.below {w : World} {n : Int} {root : List UInt8} {p q : List (List UInt8)} {pv qv : Value} {V V' : World} (h : LvS w n root p q pv qv V) (b : Below V.heap.size V V') : LvS w n root p q pv qv V' :=
  ⟨h.rk.below b, h.hd.below b h.hd.lt, h.res.below b h.res.lt, h.sp.below b, h.sq.below b, h.bel.trans (b.mono h.bel.size)⟩

set_option maxRecDepth 100000 in
set_option maxHeartbeats 4000000 in
theorem cleaves_calls (a b : ByteArray) (i n : Int) (hn : n ≤ 1000000) (root : List UInt8) (hr : root.length = 32) (p q : List (List UInt8)) (pv qv : Value) (hsa : a.size < 900000000) (hsb : b.size < 900000000) (w : World) (hR : Rk w) (hp : SmS w pv p) (hq : SmS w qv q) :
    Calls Tryz.prog 29 #[.int .i64 i, .agg (headC n root), .string a, pv, .string b, qv] w (PairPost w (twoB a b i n root p q)) := by
  obtain ⟨E1, hE1⟩ : ∃ E, E = inclE a.data.toList i n root p := ⟨_, rfl⟩
  obtain ⟨E2, hE2⟩ : ∃ E, E = inclE b.data.toList i n root q := ⟨_, rfl⟩
  obtain ⟨ok, hok⟩ : ∃ ok, ok = twoB a b i n root p q := ⟨_, rfl⟩
  rw [← hok]
  unfold twoB at hok
  rw [← hE1, ← hE2] at hok
  obtain ⟨pa, pc, rfl, hpc, _⟩ := hp.slice
  obtain ⟨qa, qc, rfl, hqc, _⟩ := hq.slice
  obtain ⟨lp, hlp⟩ : ∃ l, l = p.length := ⟨_, rfl⟩
  obtain ⟨lq, hlq⟩ : ∃ l, l = q.length := ⟨_, rfl⟩
  rw [← hlp] at hp ⊢
  rw [← hlq] at hq ⊢
  have HL := Lib.hid (show _ ∧ _ ∧ _ ∧ _ from ⟨hlp, hlq, hsa, hsb⟩)
  have HE := Lib.hid (show _ ∧ _ from ⟨hE1, hE2⟩)
  have HRT := Lib.hid hr
  have HOK := Lib.hid hok
  have HN := Lib.hid hn
  have S0 : Hid (Rk w ∧ SmS w (.slice pa lp pc) p ∧ SmS w (.slice qa lq qc) q) := Lib.hid ⟨hR, hp, hq⟩
  have I1 : Hid (∀ V, LvS w n root p q (.slice pa lp pc) (.slice qa lq qc) V → Calls Tryz.prog 54 #[.string a, .int .i64 i, .agg (headC n root), .slice pa lp pc] V fun en w' => ∃ e, en = .returned e ∧ ((E1 = 0 ∧ e = .nilIface) ∨ (E1 ≠ 0 ∧ ∃ b, e = .iface 125 (.pointer (some ⟨b, 0, none⟩)))) ∧ LvS w n root p q (.slice pa lp pc) (.slice qa lq qc) w') := Lib.hid fun V hV => by
    have h := incl_calls a i n root hr hn p pa pc V hV.rk (by rw [← hlp]; exact hV.sp.weak) (by omega)
    rw [← hlp, ← hE1] at h
    refine h.mono ?_
    rintro en w' ⟨e, rfl, he, bb⟩
    refine ⟨e, rfl, ?_, hV.below bb⟩
    rcases he with h | ⟨h, b, rfl, _⟩
    · exact .inl h
    · exact .inr ⟨h, b, rfl⟩
  have I2 : Hid (∀ V, LvS w n root p q (.slice pa lp pc) (.slice qa lq qc) V → Calls Tryz.prog 54 #[.string b, .int .i64 i, .agg (headC n root), .slice qa lq qc] V fun en w' => ∃ e, en = .returned e ∧ ((E2 = 0 ∧ e = .nilIface) ∨ (E2 ≠ 0 ∧ ∃ b, e = .iface 125 (.pointer (some ⟨b, 0, none⟩)))) ∧ LvS w n root p q (.slice pa lp pc) (.slice qa lq qc) w') := Lib.hid fun V hV => by
    have h := incl_calls b i n root hr hn q qa qc V hV.rk (by rw [← hlq]; exact hV.sq.weak) (by omega)
    rw [← hlq, ← hE2] at h
    refine h.mono ?_
    rintro en w' ⟨e, rfl, he, bb⟩
    refine ⟨e, rfl, ?_, hV.below bb⟩
    rcases he with h | ⟨h, b, rfl, _⟩
    · exact .inl h
    · exact .inr ⟨h, b, rfl⟩
  clear hR hp hq hr hn hE1 hE2 hsa hsb hlp hlq hpc hqc
  by_cases hab : a = b
  · subst hab
    obtain rfl : ok = false := by rw [hok]; simp
    clear hok
    have hss : (a.toList == a.toList) = true := by simp
    go_enter Tryz.func29, Tryz.ntmps29
    go_wp2_with fail
    exact bodyPost_ret (v := .tuple #[.agg #[.string ⟨#[]⟩, .string ⟨#[]⟩], .bool false]) (results_cell_tmp rfl _ _ (w.heap.size + 1) 44 _ _ _ rfl (made_at _ _ (by simp)) Tryz.underlying44 rfl (by kernel_rfl) _ rfl) rfl
      ⟨_, _, rfl, (fun h => by cases h), (fun _ => ⟨rfl, rfl⟩), ((Below.refl _ _).alloc (Nat.le_refl _) _).alloc (by simp) _⟩
  · have hns : (a.toList == b.toList) = false := by
      rw [ByteArray.toList_eq, ByteArray.toList_eq]
      simpa using fun e => hab (ByteArray.ext (Array.toList_inj.1 e))
    have HAB := Lib.hid hab
    clear hab hok
    go_enter Tryz.func29, Tryz.ntmps29
    have Z0 : Hid (LvS w n root p q (.slice pa lp pc) (.slice qa lq qc) ((w.alloc (.cells (headC n root) 41)).alloc (.cells #[.string ⟨#[]⟩, .string ⟨#[]⟩] 44))) := by
      have bb : Below w.heap.size w ((w.alloc (.cells (headC n root) 41)).alloc (.cells #[.string ⟨#[]⟩, .string ⟨#[]⟩] 44)) := ((Below.refl _ _).alloc (Nat.le_refl _) _).alloc (by simp) _
      exact Lib.hid ⟨S0.out.1.below bb, (made_at _ _ rfl).alloc _, made_at _ _ (by simp), S0.out.2.1.below bb, S0.out.2.2.below bb, bb⟩
    have hlh : (Instr.loadAt 41 (.pointer (some ⟨w.heap.size, 0, none⟩))).run Tryz.prog ((w.alloc (.cells (headC n root) 41)).alloc (.cells #[.string ⟨#[]⟩, .string ⟨#[]⟩] 44)) = .ok (.agg (headC n root)) ((w.alloc (.cells (headC n root) 41)).alloc (.cells #[.string ⟨#[]⟩, .string ⟨#[]⟩] 44)) := prf.Has.load_hd Z0.out.hd HRT.out
    go_wp2_with (first
      | ((with_reducible refine at_opg 24 ?_); refine wpList_load_if (o := ⟨some 24, _, _, _, _, _⟩) (by kernel_rfl) 41 (.tmp 7) rfl (.pointer (some ⟨w.heap.size, 0, none⟩)) rfl hlh ?_)
      | fail)
    refine (I1.out _ Z0.out).mono ?_
    rintro en w1 ⟨e, rfl, he, s1⟩
    have S1 := Lib.hid s1
    clear s1 hlh Z0 S0
    rcases he with ⟨h0, rfl⟩ | ⟨h0, b1, rfl⟩
    · have HE1 := Lib.hid h0
      clear h0
      have hlh : (Instr.loadAt 41 (.pointer (some ⟨w.heap.size, 0, none⟩))).run Tryz.prog w1 = .ok (.agg (headC n root)) w1 := prf.Has.load_hd S1.out.hd HRT.out
      go_wp2_with (first
        | ((with_reducible refine at_opg 32 ?_); refine wpList_load_if (o := ⟨some 32, _, _, _, _, _⟩) (by kernel_rfl) 41 (.tmp 7) rfl (.pointer (some ⟨w.heap.size, 0, none⟩)) rfl hlh ?_)
        | fail)
      refine (I2.out _ S1.out).mono ?_
      rintro en w2 ⟨e, rfl, he, s2⟩
      have S2 := Lib.hid s2
      clear s2 hlh S1
      rcases he with ⟨h0, rfl⟩ | ⟨h0, b1, rfl⟩
      · have HE2 := Lib.hid h0
        clear h0 hns
        obtain rfl : ok = true := by rw [HOK.out, HE1.out, HE2.out]; simp [HAB.out]
        obtain ⟨j, k, rfl, rfl, hjk⟩ : ∃ j k : Nat, i = j ∧ n = k ∧ j < k := by
          have h := HE.out.1
          rw [HE1.out] at h
          unfold inclE at h
          by_cases hx : i < 0 ∨ n ≤ i
          · rw [if_pos hx] at h; cases h
          · exact ⟨i.toNat, n.toNat, by omega, by omega, by omega⟩
        have hA : inclE a.data.toList j k root p = 0 := by rw [← HE.out.1, HE1.out]
        have hB : inclE b.data.toList j k root q = 0 := by rw [← HE.out.2, HE2.out]
        have hkk : k ≤ 1000000 := by have := HN.out; omega
        obtain ⟨t1, t2, _⟩ := sure_leaves hjk S2.out.sp.2 S2.out.sq.2 hA hB (fun e => HAB.out (ByteArray.ext (Array.toList_inj.1 e)))
        obtain ⟨x, y, hf1, hf2, hf3, hf4⟩ := way_first hjk S2.out.sp.2 S2.out.sq.2 hA hB HAB.out HL.out.2.2.1 HL.out.2.2.2
        obtain ⟨m, hm⟩ : ∃ m, m = (turnsL j k).length := ⟨_, rfl⟩
        have hm64 : m ≤ 64 := by rw [hm]; have := turnsL_le 20 k j (by omega); omega
        rw [← hm] at t1 t2
        have HT := Lib.hid (show _ ∧ _ ∧ _ ∧ _ ∧ _ from ⟨t1, t2, hm, hm64, hjk⟩)
        have HF := Lib.hid (show _ ∧ _ ∧ _ ∧ _ from ⟨hf1, hf2, hf3, hf4⟩)
        have W1 : Hid (∀ V, LvS w k root p q (.slice pa lp pc) (.slice qa lq qc) V → Calls Tryz.prog 56 #[.string a, .int .i64 j, .int .i64 k, .slice pa lp pc] V fun en w' => ∃ v, en = .returned (.tuple #[v, .bool true]) ∧ Seg w' 9 1 v (m + 1) ((txL (turnsL j k) p (leafS a.data.toList) ++ [leafT a]).map Value.string) ∧ Below V.heap.size V w') := Lib.hid fun V hV => by
          have h := way_calls a j k (.slice pa lp pc) p.reverse V hV.rk hjk hkk (by have := HL.out; omega) (by rw [List.length_reverse, ← t1]; exact hm.symm) (by rw [List.length_reverse]; exact hV.sp.1) (fun x hx => hV.sp.2 x (List.mem_reverse.1 hx))
          refine h.mono ?_
          rintro en w' ⟨v, rfl, s, _, bb⟩
          refine ⟨v, rfl, ?_, bb⟩
          rw [List.length_reverse, ← t1] at s
          rw [wayL_at (l := txL (turnsL j k) p (leafS a.data.toList)) (by rw [txL_len _ _ _ (by rw [← hm]; exact t1), ← hm]) (fun r hr => by
            have h3 := txL_at (turnsL j k) p (leafS a.data.toList) (by rw [← hm]; exact t1) r (by rw [← hm]; exact hr)
            rw [← hm] at h3
            rw [h3, leafT_list]
            rfl)] at s
          exact s
        have W2 : Hid (∀ V, LvS w k root p q (.slice pa lp pc) (.slice qa lq qc) V → Calls Tryz.prog 56 #[.string b, .int .i64 j, .int .i64 k, .slice qa lq qc] V fun en w' => ∃ v, en = .returned (.tuple #[v, .bool true]) ∧ Seg w' 9 1 v (m + 1) ((txL (turnsL j k) q (leafS b.data.toList) ++ [leafT b]).map Value.string) ∧ Below V.heap.size V w') := Lib.hid fun V hV => by
          have h := way_calls b j k (.slice qa lq qc) q.reverse V hV.rk hjk hkk (by have := HL.out; omega) (by rw [List.length_reverse, ← t2]; exact hm.symm) (by rw [List.length_reverse]; exact hV.sq.1) (fun x hx => hV.sq.2 x (List.mem_reverse.1 hx))
          refine h.mono ?_
          rintro en w' ⟨v, rfl, s, _, bb⟩
          refine ⟨v, rfl, ?_, bb⟩
          rw [List.length_reverse, ← t2] at s
          rw [wayL_at (l := txL (turnsL j k) q (leafS b.data.toList)) (by rw [txL_len _ _ _ (by rw [← hm]; exact t2), ← hm]) (fun r hr => by
            have h3 := txL_at (turnsL j k) q (leafS b.data.toList) (by rw [← hm]; exact t2) r (by rw [← hm]; exact hr)
            rw [← hm] at h3
            rw [h3, leafT_list]
            rfl)] at s
          exact s
        clear t1 t2 hm hm64 hjk hA hB hkk hf1 hf2 hf3 hf4
        have q0 : w2.cell? ⟨w.heap.size, 0, none⟩ = some (.int .i64 k) := prf.Has.num S2.out.hd
        go_wp2_with fail
        refine (W1.out _ S2.out).mono ?_
        rintro en w3 ⟨v1, rfl, g1, b3⟩
        obtain ⟨va, vc, rfl, hv1, hv2⟩ := g1.slice
        have S3 := Lib.hid (show _ ∧ _ ∧ _ from ⟨S2.out.below b3, g1, (⟨hv1, hv2⟩ : m + 1 ≤ vc ∧ vc ≤ maxLen)⟩)
        clear g1 b3 S2 q0 hv1 hv2
        have q0 : w3.cell? ⟨w.heap.size, 0, none⟩ = some (.int .i64 k) := prf.Has.num S3.out.1.hd
        go_wp2_with fail
        refine (W2.out _ S3.out.1).mono ?_
        rintro en w4 ⟨v2, rfl, g2, b4⟩
        obtain ⟨ua, uc, rfl, hu1, hu2⟩ := g2.slice
        have S4 := Lib.hid (show _ ∧ _ ∧ _ ∧ _ ∧ _ from ⟨S3.out.1.below b4, S3.out.2.1.below b4 (fun x hx => S3.out.2.1.lt hx), S3.out.2.2, g2, (⟨hu1, hu2⟩ : m + 1 ≤ uc ∧ uc ≤ maxLen)⟩)
        clear g2 b4 S3 q0 hu1 hu2
        obtain ⟨L1, hL1⟩ : ∃ L1, L1 = txL (turnsL j k) p (leafS a.data.toList) ++ [leafT a] := ⟨_, rfl⟩
        obtain ⟨L2, hL2⟩ : ∃ L2, L2 = txL (turnsL j k) q (leafS b.data.toList) ++ [leafT b] := ⟨_, rfl⟩
        rw [← hL1, ← hL2] at S4 HF
        have hn1 : L1.length = m + 1 := by rw [hL1, List.length_append, txL_len _ _ _ (by rw [← HT.out.2.2.1]; exact HT.out.1), ← HT.out.2.2.1]; rfl
        have hn2 : L2.length = m + 1 := by rw [hL2, List.length_append, txL_len _ _ _ (by rw [← HT.out.2.2.1]; exact HT.out.2.1), ← HT.out.2.2.1]; rfl
        have PP : Hid (Calls Tryz.prog 58 #[.slice va (m + 1) vc, .slice ua (m + 1) uc] w4 (PairsPost w4 (m + 1) (fun r => L1.getD r ⟨#[]⟩) (fun r => L2.getD r ⟨#[]⟩))) := Lib.hid (by
          refine pairs_calls va ua vc uc (m + 1) _ _ w4 (by have := HT.out; omega) S4.out.2.2.1 S4.out.2.2.2.2 (fun r hr => ?_) (fun r hr => ?_)
          · obtain ⟨g, o, c', e, hg, _, _, hc⟩ := S4.out.2.1.cells (by omega)
            simp only [Value.slice.injEq] at e
            exact ⟨g, o, e.1, hg, hc r _ (by rw [List.getElem?_map, List.getElem?_eq_getElem (by omega)]; simp [List.getD_eq_getElem?_getD, List.getElem?_eq_getElem (show r < L1.length by omega)])⟩
          · obtain ⟨g, o, c', e, hg, _, _, hc⟩ := S4.out.2.2.2.1.cells (by omega)
            simp only [Value.slice.injEq] at e
            exact ⟨g, o, e.1, hg, hc r _ (by rw [List.getElem?_map, List.getElem?_eq_getElem (by omega)]; simp [List.getD_eq_getElem?_getD, List.getElem?_eq_getElem (show r < L2.length by omega)])⟩)
        have hz := pairsM_zip (fun r => L1.getD r ⟨#[]⟩) (fun r => L2.getD r ⟨#[]⟩) L1 L2 (m + 1) hn1 hn2 (fun r hr => by simp [List.getD_eq_getElem?_getD, List.getElem?_eq_getElem (show r < L1.length by omega)]) (fun r hr => by simp [List.getD_eq_getElem?_getD, List.getElem?_eq_getElem (show r < L2.length by omega)])
        have HZ := Lib.hid (show _ ∧ _ from ⟨hz, (show (L1.zip L2).length = m + 1 by rw [List.length_zip, hn1, hn2, Nat.min_self])⟩)
        clear hz hn1 hn2 hL1 hL2
        go_wp2_with fail
        refine PP.out.mono ?_
        rintro en w5 ⟨gp, rfl, h5, _, b5⟩
        have S5 : Hid (LvS w k root p q (.slice pa lp pc) (.slice qa lq qc) w5 ∧ Seg w5 44 2 (.slice (some ⟨gp, 0, none⟩) (m + 1) (m + 1)) (m + 1) (pairsC (L1.zip L2))) := Lib.hid ⟨S4.out.1.below b5, by
          rw [← HZ.out.1]
          exact Seg.of_has (n := m + 1) (size := 2) h5 (by rw [List.size_toArray]; exact pairsM_len _ _ (m + 1) (m + 1)) (by have := HT.out; unfold maxLen; omega)⟩
        clear h5 b5 S4 PP
        go_wp2_with fail
        refine (first_calls (.slice (some ⟨gp, 0, none⟩) (m + 1) (m + 1)) (L1.zip L2) w5 (by rw [HZ.out.2]; exact S5.out.2) (by rw [HZ.out.2]; have := HT.out; omega)).mono ?_
        rw [HF.out.1]
        rintro en w6 ⟨rfl, b6⟩
        have S6 := Lib.hid (S5.out.1.below b6)
        clear b6 S5
        go_wp2_with (first
          | ((with_reducible refine at_store (.tmp 12) ?_); refine wpList_store_cells (o := ⟨none, _, _, _, _, _⟩) rfl 44 (.tmp 12) (.tmp 60) rfl (w.heap.size + 1) #[.string x, .string y] #[.string ⟨#[]⟩, .string ⟨#[]⟩] rfl rfl _ S6.out.res (by kernel_rfl) rfl (by simp [Value.oneCell']) ?_; intro W9 HW9 TW9)
          | fail)
        exact bodyPost_ret (v := .tuple #[.agg #[.string x, .string y], .bool true]) (results_cell_tmp rfl _ _ (w.heap.size + 1) 44 _ _ _ rfl HW9 Tryz.underlying44 rfl (by kernel_rfl) _ rfl) rfl
          ⟨_, _, rfl, (fun _ => HF.out.2), (fun h => by cases h), S6.out.bel.trans (TW9.below S6.out.bel.size (fun j hj e => by omega))⟩
      · obtain rfl : ok = false := by rw [HOK.out]; simp [h0]
        clear h0 hns
        go_wp2_with (first
          | ((with_reducible refine at_store (.tmp 12) ?_); refine wpList_store_cells (o := ⟨none, _, _, _, _, _⟩) rfl 44 (.tmp 12) (.tmp 37) rfl (w.heap.size + 1) #[.string ⟨#[]⟩, .string ⟨#[]⟩] #[.string ⟨#[]⟩, .string ⟨#[]⟩] rfl rfl _ S2.out.res (by kernel_rfl) rfl (by simp [Value.oneCell']) ?_; intro W9 HW9 TW9)
          | fail)
        exact bodyPost_ret (v := .tuple #[.agg #[.string ⟨#[]⟩, .string ⟨#[]⟩], .bool false]) (results_cell_tmp rfl _ _ (w.heap.size + 1) 44 _ _ _ rfl HW9 Tryz.underlying44 rfl (by kernel_rfl) _ rfl) rfl
          ⟨_, _, rfl, (fun h => by cases h), (fun _ => ⟨rfl, rfl⟩), S2.out.bel.trans (TW9.below S2.out.bel.size (fun j hj e => by omega))⟩
    · obtain rfl : ok = false := by rw [HOK.out]; simp [h0]
      clear h0 hns
      go_wp2_with (first
        | ((with_reducible refine at_store (.tmp 12) ?_); refine wpList_store_cells (o := ⟨none, _, _, _, _, _⟩) rfl 44 (.tmp 12) (.tmp 37) rfl (w.heap.size + 1) #[.string ⟨#[]⟩, .string ⟨#[]⟩] #[.string ⟨#[]⟩, .string ⟨#[]⟩] rfl rfl _ S1.out.res (by kernel_rfl) rfl (by simp [Value.oneCell']) ?_; intro W9 HW9 TW9)
        | fail)
      exact bodyPost_ret (v := .tuple #[.agg #[.string ⟨#[]⟩, .string ⟨#[]⟩], .bool false]) (results_cell_tmp rfl _ _ (w.heap.size + 1) 44 _ _ _ rfl HW9 Tryz.underlying44 rfl (by kernel_rfl) _ rfl) rfl
        ⟨_, _, rfl, (fun h => by cases h), (fun _ => ⟨rfl, rfl⟩), S1.out.bel.trans (TW9.below S1.out.bel.size (fun j hj e => by omega))⟩
end Go.Proofs.YtdoadmkaoboncaaGreatDoor.clash
end

section
/- audit: Leaf, where another text is proved: a clash. -/
namespace Go.Proofs.YtdoadmkaoboncaaGreatDoor.aud
open Go Go.RowKit Go.Proofs.YtdoadmkaoboncaaGreatDoor.dig Go.Proofs.YtdoadmkaoboncaaGreatDoor.prf Go.Proofs.YtdoadmkaoboncaaGreatDoor.prn Go.Proofs.YtdoadmkaoboncaaGreatDoor.clash

/-- What lasts in a look at a leaf's proof. -/
structure LvS (w : World) (pc : Array Value) (g : Nat) (hc : Array Value) (V : World) : Prop where
  b : Below w.heap.size w V
  v : Has V (w.heap.size + 1) 46 (verC 0 ⟨#[]⟩ ⟨#[]⟩)
  p : Has V w.heap.size 25 pc
  h : Has V g 41 hc
theorem LvS.below {w : World} {pc : Array Value} {g : Nat} {hc : Array Value} {V V' : World} (h : LvS w pc g hc V) (b : Below V.heap.size V V') : LvS w pc g hc V' :=
  ⟨h.b.trans (b.mono h.b.size), h.v.below b h.v.lt, h.p.below b h.p.lt, h.h.below b h.h.lt⟩

/-- How a look ends that finds two texts of one sum. -/
def BrokenPost (w : World) (en : Ending) (w' : World) : Prop :=
  ∃ x y, en = .returned (.agg (verC 2 x y)) ∧ clashB x y = true ∧ x.size < 1000000000 ∧ y.size < 1000000000 ∧ Below w.heap.size w w'

section
variable {B : Nat} {F : Nat → Prop} {w : World} {vb fl : Nat} {L : List ByteArray}

set_option maxRecDepth 100000 in
set_option maxHeartbeats 4000000 in
theorem aleaf_bad (h : Va B F w vb L fl) (hN : L.length < 1024) (text s : ByteArray) (hts : text.size < 900000000) (hss : s.size < 900000000) (i n : Nat) (hf : fl ≤ i) (hn : n ≤ L.length) (hin : i < n) (hs : L[i]? = some s) (hne : s ≠ text) (r : List (List UInt8)) (a : Option Addr) (c : Nat) (hS : SmS w (.slice a r.length c) r)
    (hE : inclE text.data.toList i n (rtAll (leafF L) n) r = 0) :
    Calls Tryz.prog 11 #[.pointer (some ⟨vb, 0, none⟩), .string text, .agg (prC 1 i n (.slice a r.length c))] w (BrokenPost w) := by
  have H := Lib.hid h
  have HE := Lib.hid hE
  have HNN := Lib.hid (show _ ∧ _ ∧ _ ∧ _ ∧ _ ∧ _ from ⟨hN, hf, hn, hts, hss, hin⟩)
  have HS := Lib.hid hS
  have HL := Lib.hid (show _ ∧ _ from ⟨hs, hne⟩)
  have RL : Hid ((rtAll (leafF L) n).length = 32) := Lib.hid (rtAll_len (leafF_len L) n)
  have HOI : Hid (inclE s.data.toList i n (rtAll (leafF L) n) (path (leafF L) i 0 n).reverse = 0) := Lib.hid (incl_path hin hs)
  obtain ⟨R, hR⟩ : ∃ R, R = rtAll (leafF L) n := ⟨_, rfl⟩
  obtain ⟨lr, hlr⟩ : ∃ lr, lr = r.length := ⟨_, rfl⟩
  have HLR := Lib.hid hlr
  rw [← hR] at RL HE HOI
  rw [← hlr] at HS ⊢
  have HR := Lib.hid hR
  have hsq : (s.toList == text.toList) = false := by
    rw [ByteArray.toList_eq, ByteArray.toList_eq]
    simpa using fun e => hne (ByteArray.ext (Array.toList_inj.1 e))
  have HSQ := Lib.hid hsq
  have p2 : ∀ A, ((w.alloc (.cells (prC 1 i n (.slice a lr c)) 25)).alloc A).cell? ⟨w.heap.size, 2, none⟩ = some (.int .i64 n) := fun A => ((made_at _ _ rfl).alloc A).cell 2
  clear h hE hN hf hn hS hR hlr hts hss hin hs hne hsq
  go_enter Tryz.func11, Tryz.ntmps11
  go_wp2_with fail
  refine callsName (fun W hW => ?_)
  have B0 : Hid (Below w.heap.size w W ∧ Has W (w.heap.size + 1) 46 (verC 0 ⟨#[]⟩ ⟨#[]⟩) ∧ Has W w.heap.size 25 (prC 1 i n (.slice a lr c))) := by rw [← hW]; exact Lib.hid ⟨((Below.refl _ _).alloc (Nat.le_refl _) _).alloc (by simp) _, made_at _ _ (by simp), (made_at _ _ rfl).alloc _⟩
  clear hW p2
  refine ((H.out.below B0.out.1).head HNN.out.1 n (by have := HNN.out; omega) HNN.out.2.2.1).mono ?_
  rw [← HR.out]
  rintro en w1 ⟨rfl, b1⟩
  have S1 : Hid (Below w.heap.size w w1 ∧ Has w1 (w.heap.size + 1) 46 (verC 0 ⟨#[]⟩ ⟨#[]⟩) ∧ Has w1 w.heap.size 25 (prC 1 i n (.slice a lr c))) := Lib.hid ⟨B0.out.1.trans (b1.mono B0.out.1.size), B0.out.2.1.below b1 B0.out.2.1.lt, B0.out.2.2.below b1 B0.out.2.2.lt⟩
  clear b1 B0
  obtain ⟨g7, hg7⟩ : ∃ g, g = w1.heap.size := ⟨_, rfl⟩
  go_wp2_with (first
    | ((with_reducible refine at_store (.tmp 7) ?_); refine wpList_store_head (o := ⟨none, _, _, _, _, _⟩) rfl (.tmp 7) (.tmp 19) rfl w1.heap.size n 0 R (List.replicate 32 0) rfl rfl (made_at _ _ rfl) RL.out (by simp) ?_; intro Wb HWb TWb;
       (have S2 : Hid (LvS w (prC 1 i n (.slice a lr c)) w1.heap.size (headC n R) Wb) := (by
         have bb : Below w1.heap.size w1 Wb := ((Below.refl _ _).alloc (Nat.le_refl _) _).trans (TWb.below (by simp) (fun j hj e => by omega))
         exact Lib.hid ⟨S1.out.1.trans (bb.mono S1.out.1.size), S1.out.2.1.below bb S1.out.2.1.lt, S1.out.2.2.below bb S1.out.2.2.lt, HWb⟩));
       have q0 : Wb.cell? ⟨w.heap.size, 0, none⟩ = some (.int .i64 1) := S2.out.p.cell 0;
       have q1 : Wb.cell? ⟨w.heap.size, 1, none⟩ = some (.int .i64 i) := S2.out.p.cell 1;
       have q2 : Wb.cell? ⟨w.heap.size, 2, none⟩ = some (.int .i64 n) := S2.out.p.cell 2;
       have q3 : Wb.cell? ⟨w.heap.size, 3, none⟩ = some (.slice a lr c) := S2.out.p.cell 3;
       have hlh : (Instr.loadAt 41 (.pointer (some ⟨w1.heap.size, 0, none⟩))).run Tryz.prog Wb = .ok (.agg (headC n R)) Wb := prf.Has.load_hd S2.out.h RL.out;
       clear HWb TWb S1)
    | ((with_reducible refine at_opg 32 ?_); refine wpList_load_if (o := ⟨some 32, _, _, _, _, _⟩) (by kernel_rfl) 41 (.tmp 7) rfl (.pointer (some ⟨w1.heap.size, 0, none⟩)) rfl hlh ?_)
    | fail)
  have HPV : Hid (Calls Tryz.prog 27 #[.agg (prC 1 i n (.slice a lr c)), .string text, .agg (headC 0 (List.replicate 32 0)), .agg (headC n R)] Wb (ErrPost Wb leafB i 0)) := Lib.hid (by
    refine proves_leaf (old := List.replicate 32 0) (root := R) RL.out text i n 0 (.slice a lr c) Wb 0 (fun U hU => ?_)
    have h1 := incl_calls text i n R RL.out (by have := HNN.out; omega) r a c U ((H.out.below (S2.out.b.trans (hU.mono S2.out.b.size))).rt.rk) (by rw [← HLR.out]; exact (HS.out.below (S2.out.b.trans (hU.mono S2.out.b.size))).weak) (by have := HNN.out; omega)
    rw [← HLR.out, HE.out] at h1
    exact h1)
  refine HPV.out.mono ?_
  rw [← hg7] at S2 ⊢
  clear hg7
  rintro en w2 ⟨e, rfl, he, b2⟩
  have S3 := Lib.hid (S2.out.below b2)
  obtain rfl : e = .nilIface := by
    rcases he with ⟨_, h⟩ | ⟨h, _⟩
    · exact h
    · exact absurd rfl h
  clear b2 S2 HPV q0 q1 q2 q3 hlh he
  have q1 : w2.cell? ⟨w.heap.size, 1, none⟩ = some (.int .i64 i) := S3.out.p.cell 1
  go_wp2_with fail
  refine ((H.out.below S3.out.b).at_ok i HNN.out.2.1 s HL.out.1).mono ?_
  rintro en w3 ⟨rfl, b3⟩
  have S4 := Lib.hid (S3.out.below b3)
  clear b3 S3 q1
  have hsq := HSQ.out
  have q1 : w3.cell? ⟨w.heap.size, 1, none⟩ = some (.int .i64 i) := S4.out.p.cell 1
  have q2 : w3.cell? ⟨w.heap.size, 2, none⟩ = some (.int .i64 n) := S4.out.p.cell 2
  go_wp2_with fail
  refine ((H.out.below S4.out.b).leaf HNN.out.1 i n HNN.out.2.2.1 HNN.out.2.2.2.2.2 HNN.out.2.1).mono ?_
  obtain ⟨z, hz⟩ : ∃ z, z = path (leafF L) i 0 n := ⟨_, rfl⟩
  rw [← hz] at HOI ⊢
  have ZL : Hid (∀ x ∈ z.reverse, x.length = 32) := Lib.hid (by rw [hz]; intro x hx; exact path_all (leafF_len L) _ _ _ x (by simpa using hx))
  clear hz q1 q2 hsq
  rintro en w4 ⟨za, zc, rfl, sg, _, b4⟩
  have S5 : Hid (LvS w (prC 1 i n (.slice a lr c)) g7 (headC n R) w4 ∧ SmS w4 (.slice za z.length zc) z.reverse) := Lib.hid ⟨S4.out.below b4, by rw [List.length_reverse, List.reverse_reverse]; exact sg, ZL.out⟩
  obtain ⟨zl, hzl⟩ : ∃ zl, zl = z.length := ⟨_, rfl⟩
  rw [← hzl] at S5 ⊢
  clear hzl sg b4 S4 ZL
  obtain ⟨W5, hW5⟩ : ∃ W, W = w4.alloc (.cells (prC 1 i n (.slice za zl zc)) 25) := ⟨_, rfl⟩
  obtain ⟨g10, hg10⟩ : ∃ g, g = w4.heap.size := ⟨_, rfl⟩
  have S6 : Hid (LvS w (prC 1 i n (.slice a lr c)) g7 (headC n R) W5 ∧ SmS W5 (.slice za zl zc) z.reverse ∧ Has W5 g10 25 (prC 1 i n (.slice za zl zc))) := by
    have bb : Below w4.heap.size w4 W5 := by rw [hW5]; exact (Below.refl _ _).alloc (Nat.le_refl _) _
    exact Lib.hid ⟨S5.out.1.below bb, S5.out.2.below bb, by rw [hW5, hg10]; exact made_at _ _ rfl⟩
  have hlh : (Instr.loadAt 41 (.pointer (some ⟨g7, 0, none⟩))).run Tryz.prog W5 = .ok (.agg (headC n R)) W5 := prf.Has.load_hd S6.out.1.h RL.out
  have q1 : W5.cell? ⟨w.heap.size, 1, none⟩ = some (.int .i64 i) := S6.out.1.p.cell 1
  have q3 : W5.cell? ⟨w.heap.size, 3, none⟩ = some (.slice a lr c) := S6.out.1.p.cell 3
  have o3 : W5.cell? ⟨g10, 3, none⟩ = some (.slice za zl zc) := S6.out.2.2.cell 3
  rw [hW5] at hlh q1 q3
  rw [hW5, hg10] at o3
  have HW5 := Lib.hid (show _ ∧ _ from ⟨hW5, hg10⟩)
  clear S5 hW5 hg10
  go_wp2_with (first
    | ((with_reducible refine at_op 63 ?_); refine wpList_load_if (o := ⟨some 63, _, _, _, _, _⟩) (by kernel_rfl) 41 (.tmp 7) rfl (.pointer (some ⟨g7, 0, none⟩)) rfl hlh ?_)
    | fail)
  refine callsName (fun W hW => ?_)
  rw [← HW5.out.2]
  obtain rfl : W5 = W := by rw [HW5.out.1]; exact hW
  clear hW hlh q1 q3 o3 HW5
  have hcl := cleaves_calls s text i n (by have := HNN.out; omega) R RL.out z.reverse r (.slice za zl zc) (.slice a lr c) (by have := HNN.out; omega) (by have := HNN.out; omega) W5 (H.out.below S6.out.1.b).rt.rk S6.out.2.1 (by rw [HLR.out]; exact (HLR.out ▸ HS.out).below S6.out.1.b)
  have htw : twoB s text i n R z.reverse r = true := by
    unfold twoB
    rw [HOI.out, HE.out]
    simp [HL.out.2]
  rw [htw] at hcl
  have HCL := Lib.hid hcl
  clear hcl htw
  refine HCL.out.mono ?_
  rintro en w6 ⟨x, y, rfl, hp6, _, b6⟩
  have HP6 := Lib.hid (hp6 rfl)
  have S7 := Lib.hid (S6.out.1.below b6)
  clear hp6 b6 S6 HCL HOI
  go_wp2_with (first
    | ((with_reducible refine at_store (.tmp 6) ?_); refine wpList_store_cells (o := ⟨none, _, _, _, _, _⟩) rfl 46 (.tmp 6) (.tmp 74) rfl (w.heap.size + 1) (verC 2 x y) (verC 0 ⟨#[]⟩ ⟨#[]⟩) rfl rfl _ (S7.out.v.alloc _) (by kernel_rfl) rfl (by simp [verC, Value.oneCell']) ?_; intro W9 HW9 TW9)
    | fail)
  refine bodyPost_ret (v := .agg (verC 2 x y)) (results_cell_row rfl _ _ (w.heap.size + 1) 46 _ _ _ rfl HW9 Tryz.underlying46 rfl (by kernel_rfl)) rfl
    ⟨x, y, rfl, HP6.out.1, HP6.out.2.1, HP6.out.2.2, ?_⟩
  have bb : Below w.heap.size w (w6.alloc (.cells #[.string x, .string y] 44)) := S7.out.b.trans (((Below.refl _ _).alloc (Nat.le_refl _) _).mono S7.out.b.size)
  exact bb.trans (TW9.below bb.size (fun j hj e => by omega))
end
end Go.Proofs.YtdoadmkaoboncaaGreatDoor.aud
end

section
/- audit: first: the first commands of a vault, where all are there, and where one is gone. -/
namespace Go.Proofs.YtdoadmkaoboncaaGreatDoor.aud
open Go Go.RowKit Go.Proofs.YtdoadmkaoboncaaGreatDoor.dig Go.Proofs.YtdoadmkaoboncaaGreatDoor.prf Go.Proofs.YtdoadmkaoboncaaGreatDoor.prn

/-- Texts were answered, in new memory, and no error. -/
def FirstPost (w : World) (l : List ByteArray) (en : Ending) (w' : World) : Prop :=
  ∃ v, en = .returned (.tuple #[v, .nilIface]) ∧ Seg w' 9 1 v l.length (l.map Value.string) ∧ (∀ x, v.ownBlock = some x → w.heap.size ≤ x) ∧ Below w.heap.size w w'

section
variable {B : Nat} {F : Nat → Prop} {w : World} {vb fl : Nat} {L : List ByteArray}

set_option maxRecDepth 100000 in
set_option maxHeartbeats 2000000 in
theorem first_ok (h : Va B F w vb L 0) (hN : L.length < 1024) (n : Nat) (hn : n ≤ L.length) :
    Calls Tryz.prog 33 #[.pointer (some ⟨vb, 0, none⟩), .int .i64 n] w (FirstPost w (L.take n)) := by
  have H := Lib.hid h
  have HN := Lib.hid (show _ ∧ _ from ⟨hN, hn⟩)
  have n1 : (n : Int) ≤ 1024 := by omega
  have n0 : (0 : Int) ≤ (n : Int) := by omega
  clear h hN hn
  go_enter Tryz.func33, Tryz.ntmps33
  go_wp2_with fail
  go_loopw [6, 11] (fun o i wr => ∃ k : Nat, i = .int .i64 k ∧ k ≤ n ∧ Hid (Seg wr 9 1 o k ((L.take k).map Value.string) ∧ (∀ x, o.ownBlock = some x → w.heap.size ≤ x) ∧ Below w.heap.size w wr)) (fun _ i _ => n - (intOf i).toNat)
  case atStart => exact ⟨0, rfl, Nat.zero_le _, Lib.hid ⟨⟨by simp, .inl ⟨rfl, rfl⟩⟩, fun x hx => (by cases hx), Below.refl _ _⟩⟩
  case round =>
    obtain ⟨k, rfl, hk, HS⟩ := hrel
    have hk0 : (0 : Int) ≤ (k : Int) := by omega
    by_cases hkn : k < n
    · have ht : (k : Int) < (n : Int) := by omega
      obtain ⟨s, hs⟩ : ∃ s, L[k]? = some s := ⟨_, List.getElem?_eq_getElem (by have := HN.out.2; omega)⟩
      have HTK : Hid (L.take (k + 1) = L.take k ++ [s]) := Lib.hid (by rw [List.take_add_one, hs]; rfl)
      have HSS := Lib.hid hs
      obtain ⟨i0, z0, hi0, hz0, hz1, hz2, hz3⟩ := strInfo
      have HI0 := Lib.hid hi0
      have HZ0 := Lib.hid hz0
      clear hs hi0 hz0
      go_wp2_with fail
      refine ((H.out.below HS.out.2.2).at_ok k (Nat.zero_le _) s HSS.out).mono ?_
      rintro en w1 ⟨rfl, b1⟩
      have S1 : Hid (Seg w1 9 1 u6 k ((L.take k).map Value.string) ∧ (∀ x, u6.ownBlock = some x → w.heap.size ≤ x) ∧ Below w.heap.size w w1) := Lib.hid ⟨HS.out.1.below b1 (fun _ e => HS.out.1.lt e), HS.out.2.1, HS.out.2.2.trans (b1.mono HS.out.2.2.size)⟩
      clear b1 HS
      go_wp2_with (first
        | ((with_reducible refine at_op 26 ?_); refine wpList_append_seg (o := ⟨some 26, _, _, _, _, _⟩) _ rfl (.tmp 23) (.tmp 25) 22 rfl 9 i0 z0 1 16 Tryz.underlying22 HI0.out HZ0.out hz1 hz3 hz2 (by decide) u6 k ((L.take k).map Value.string) rfl (S1.out.1.alloc _) ⟨w1.heap.size, 0, none⟩ 1 1 [.string _] rfl rfl (World.news_of_block (heap_alloc_new _ _)) (by simp [Value.oneCell']) (by decide) (by unfold maxLen; omega) (by omega) _ rfl ?_;
           intro g off cp w4 hown hgrow hat hlt)
        | fail)
      refine ⟨⟨k + 1, by rw [Int.natCast_add]; rfl, by omega, Lib.hid ⟨by rw [HTK.out, List.map_append]; exact hown, fun x hx => ?_, ?_⟩⟩, ?_⟩
      · have e : g = x := by simpa [Value.ownBlock] using hx
        rw [← e]
        rcases hat with h | h
        · exact S1.out.2.1 g h
        · rw [h]; exact Nat.le_trans S1.out.2.2.size (by simp)
      · exact (S1.out.2.2.alloc S1.out.2.2.size _).trans (below_own hgrow S1.out.2.1 (Nat.le_trans S1.out.2.2.size (by simp)))
      · show n - ((k : Int) + 1).toNat < n - ((k : Int)).toNat
        omega
    · obtain rfl : k = n := by omega
      have ht : ¬ (k : Int) < (k : Int) := by omega
      go_wp2_with fail
      go_ret2
      refine ⟨_, rfl, ?_, HS.out.2.1, HS.out.2.2⟩
      rw [List.length_take, Nat.min_eq_left HN.out.2]
      exact HS.out.1

set_option maxRecDepth 100000 in
set_option maxHeartbeats 2000000 in
theorem first_gone (h : Va B F w vb L fl) (hf : 0 < fl) (n : Nat) (hn0 : 0 < n) :
    Calls Tryz.prog 33 #[.pointer (some ⟨vb, 0, none⟩), .int .i64 n] w fun en w' => ∃ b, en = .returned (.tuple #[.slice none 0 0, .iface 125 (.pointer (some ⟨b, 0, none⟩))]) ∧ Below w.heap.size w w' := by
  have H := Lib.hid h
  have HF := Lib.hid hf
  have ht : (0 : Int) < (n : Int) := by omega
  clear h hf hn0
  go_enter Tryz.func33, Tryz.ntmps33
  go_wp2_with fail
  go_loopw [6, 11] (fun o i wr => i = .int .i64 0 ∧ wr = w) (fun _ i _ => 0)
  case atStart => exact ⟨rfl, rfl⟩
  case round =>
    obtain ⟨rfl, rfl⟩ := hrel
    go_wp2_with fail
    refine (H.out.at_pruned 0 HF.out).mono ?_
    rintro en w1 ⟨b, rfl, hb, her, b1⟩
    have hev : flt.ev [⟨b, commandB, ((0 : Nat) : Int)⟩] 14 = .iface 125 (.pointer (some ⟨b, 0, none⟩)) := rfl
    rw [hev]
    clear hev her hb
    go_wp2_with fail
    go_ret2
    exact ⟨b, rfl, b1⟩
end
end Go.Proofs.YtdoadmkaoboncaaGreatDoor.aud
end

section
/- clash: Prefix. -/
namespace Go.Proofs.YtdoadmkaoboncaaGreatDoor.clash
open Go Go.RowKit Go.Proofs.YtdoadmkaoboncaaGreatDoor.dig Go.Proofs.YtdoadmkaoboncaaGreatDoor.prf

set_option maxRecDepth 100000 in
set_option maxHeartbeats 1000000 in
theorem over_none (a : Option Addr) (c : Nat) (w : World) (hR : Rk w) : Calls Tryz.prog 62 #[.slice a 0 c] w fun en w' => en = .returned (.agg (cellsOf (sum []))) ∧ Below w.heap.size w w' := by
  have HR := Lib.hid hR
  clear hR
  go_enter Tryz.func62, Tryz.ntmps62
  go_wp2_with fail
  refine callsName (fun W hW => ?_)
  have S1 : Hid (Below w.heap.size w W ∧ Has W w.heap.size 38 (cellsOf (List.replicate 32 0))) := by rw [← hW]; exact Lib.hid ⟨(Below.refl _ _).alloc (Nat.le_refl _) _, made_at _ _ rfl⟩
  clear hW
  refine (of_calls ⟨#[]⟩ W (HR.out.below S1.out.1) (by decide)).mono ?_
  rw [show (⟨#[]⟩ : ByteArray).data.toList = [] from rfl]
  have HL : Hid ((sum []).length = 32) := Lib.hid (sum_length _)
  obtain ⟨z, hz⟩ : ∃ z, z = sum [] := ⟨_, rfl⟩
  rw [← hz] at HL ⊢
  have HZ := Lib.hid hz
  clear hz
  rintro en w2 ⟨rfl, b2⟩
  have S2 : Hid (Below w.heap.size w w2 ∧ Has w2 w.heap.size 38 (cellsOf (List.replicate 32 0))) := Lib.hid ⟨S1.out.1.trans (b2.mono S1.out.1.size), S1.out.2.below b2 S1.out.2.lt⟩
  clear S1 b2
  go_wp2_with (first
    | ((with_reducible refine at_store (.tmp 2) ?_); refine wpList_store_arr (o := ⟨none, _, _, _, _, _⟩) rfl 38 _ _ rfl w.heap.size z (List.replicate 32 0) rfl rfl _ S2.out.2 32 (by kernel_rfl) (by simp) HL.out ?_; intro W6 HW6 TW6)
    | fail)
  exact bodyPost_ret (v := .agg (cellsOf z)) (results_cell_row rfl _ _ w.heap.size 38 _ _ _ rfl HW6 Tryz.underlying38 rfl (by rw [cellsOf_size, HL.out]; kernel_rfl)) rfl
    ⟨by rw [HZ.out], S2.out.1.trans (TW6.below S2.out.1.size (fun j hj e => by omega))⟩

/-- The root over the first k leaves. -/
theorem over_all (L : List ByteArray) (hsz : ∀ s ∈ L, s.size ≤ 1000000) (hLL : L.length ≤ 1000000) (g off k c : Nat) (hk : k ≤ L.length) (hkc : k ≤ c) (hc : c ≤ maxLen) (w : World) (hR : Rk w) (hg : g < w.heap.size)
    (hcell : ∀ i s, L[i]? = some s → w.cell? ⟨g, off + i, none⟩ = some (.string s)) :
    Calls Tryz.prog 62 #[.slice (some ⟨g, off, none⟩) k c] w fun en w' => en = .returned (.agg (cellsOf (rtAll (leafF L) k))) ∧ Below w.heap.size w w' := by
  by_cases h0 : k = 0
  · subst h0
    exact over_none _ c w hR
  · unfold rtAll
    rw [if_neg h0]
    exact over_calls L hsz hLL g off k (a := 0) (c := c) w (by omega) (by omega) hkc hc hR hg hcell

/-- What lasts in Prefix. -/
structure PfS (w : World) (m : Int) (claim : List UInt8) (n : Nat) (R : List UInt8) (gn g off : Nat) (L : List ByteArray) (sv : Value) (r : List (List UInt8)) (V : World) : Prop where
  rk : Rk V
  box : Has V w.heap.size 38 (cellsOf claim)
  res : Has V (w.heap.size + 1) 44 #[.string ⟨#[]⟩, .string ⟨#[]⟩]
  old : Has V (w.heap.size + 1 + 1) 41 (headC m claim)
  now : Has V gn 41 (headC n R)
  ss : SmS V sv r
  lt : g < w.heap.size
  cells : ∀ i s, L[i]? = some s → V.cell? ⟨g, off + i, none⟩ = some (.string s)
  bel : Below w.heap.size w V
theorem PfS.below {w : World} {m : Int} {claim : List UInt8} {n : Nat} {R : List UInt8} {gn g off : Nat} {L : List ByteArray} {sv : Value} {r : List (List UInt8)} {V V' : World} (h : PfS w m claim n R gn g off L sv r V) (b : Below V.heap.size V V') : PfS w m claim n R gn g off L sv r V' :=
  ⟨h.rk.below b, h.box.below b h.box.lt, h.res.below b h.res.lt, h.old.below b h.old.lt, h.now.below b h.now.lt, h.ss.below b, h.lt, fun i s hs => by rw [← h.cells i s hs]; unfold World.cell?; rw [b.block g (Nat.lt_of_lt_of_le h.lt h.bel.size)], h.bel.trans (b.mono h.bel.size)⟩

/-- Do sums prove a head that isn't so? -/
def liesB (m : Int) (claim : List UInt8) (L : List ByteArray) (r : List (List UInt8)) : Bool := (consE m claim L.length (rtAll (leafF L) L.length) r == 0) && decide (claim ≠ rtAll (leafF L) m.toNat)

theorem prefix_first {L : List ByteArray} {m n : Nat} (hn : n = L.length) {claim : List UInt8} (hc : claim.length = 32) {r : List (List UInt8)} (hr : ∀ x ∈ r, x.length = 32) (hE : consE m claim n (rtAll (leafF L) n) r = 0) (hne : claim ≠ rtAll (leafF L) m) :
    0 < m ∧ m ≤ n ∧ ∃ told SL2, told.length = 32 ∧ SL2.length = (turnsP (m - 1) n).length ∧ ((allL (turnsP (m - 1) n) = true ∧ r.reverse = SL2 ∧ told = claim) ∨ (allL (turnsP (m - 1) n) = false ∧ r.reverse = told :: SL2)) ∧
      ∃ x y, firstU ((txL (turnsP (m - 1) n) (besideX (leafF L) (turnsP (m - 1) n) 0 n) (endX (leafF L) (turnsP (m - 1) n) 0 n)).zip (txL (turnsP (m - 1) n) SL2.reverse told)) = ((x, y), true) ∧ clashB x y = true ∧ x.size < 1000000000 ∧ y.size < 1000000000 := by
  have hx : ¬ ((m : Int) < 0 ∨ (n : Int) < (m : Int)) := by
    intro h
    unfold consE at hE
    rw [if_pos h] at hE
    cases hE
  have hE' := hE
  unfold consE at hE'
  rw [if_neg hx] at hE'
  have he : elderB m claim n (rtAll (leafF L) n) r = true := by
    rw [Int.toNat_natCast, Int.toNat_natCast] at hE'
    by_cases h : elderB m claim n (rtAll (leafF L) n) r = true
    · exact h
    · rw [if_neg h] at hE'; cases hE'
  obtain ⟨h0, h1, r', s, l1, l2, l3, l4, l5, p, x, y, e1, e2, e3, e4, e5⟩ := sure_prefix (f := leafF L) (leafF_len L) hc hr (by omega) he hne
  have hb := beside_all (leafF L) (leafF_len L) n (m - 1) 0 (by omega)
  refine ⟨h0, by omega, s, r'.reverse, l4, by rw [List.length_reverse]; exact l1.symm, ?_, ⟨x.toArray⟩, ⟨y.toArray⟩, ?_, clashB_of e3 e4, ?_, ?_⟩
  · by_cases ha : allL (turnsP (m - 1) n) = true
    · rw [if_pos ha] at l2
      exact .inl ⟨ha, by rw [l2], l3 ha⟩
    · rw [if_neg ha] at l2
      exact .inr ⟨by simpa using ha, by rw [l2]; simp⟩
  · rw [List.reverse_reverse]
    refine firstU_zip (k := p) (by rw [txL, List.getElem?_map, e1]; rfl) (by rw [txL, List.getElem?_map, e2]; rfl) (bs_ne e3) (fun j hj => by rw [txL, txL, List.getElem?_map, List.getElem?_map, e5 j hj])
  · have := texX_size _ _ _ hb.2 hb.1 x (List.mem_of_getElem? e1)
    simp [ByteArray.size, this]
  · have := texX_size _ _ _ l4 l5 y (List.mem_of_getElem? e2)
    simp [ByteArray.size, this]

set_option maxRecDepth 100000 in
set_option maxHeartbeats 4000000 in
theorem cprefix_calls (m : Int) (claim : List UInt8) (hc : claim.length = 32) (L : List ByteArray) (hsz : ∀ s ∈ L, s.size ≤ 1000000) (hLL : L.length ≤ 1000000) (g off c : Nat) (hnc : L.length ≤ c) (hcm : c ≤ maxLen) (sv : Value) (r : List (List UInt8)) (w : World) (hR : Rk w) (hg : g < w.heap.size)
    (hcell : ∀ i s, L[i]? = some s → w.cell? ⟨g, off + i, none⟩ = some (.string s)) (hs : SmS w sv r) :
    Calls Tryz.prog 34 #[.int .i64 m, .agg (cellsOf claim), .slice (some ⟨g, off, none⟩) L.length c, sv] w (PairPost w (liesB m claim L r)) := by
  obtain ⟨ok, hok⟩ : ∃ ok, ok = liesB m claim L r := ⟨_, rfl⟩
  rw [← hok]
  unfold liesB at hok
  obtain ⟨R, hRR⟩ : ∃ R, R = rtAll (leafF L) L.length := ⟨_, rfl⟩
  have hRL : R.length = 32 := by rw [hRR]; exact rtAll_len (leafF_len L) _
  obtain ⟨n, hn⟩ : ∃ n, n = L.length := ⟨_, rfl⟩
  obtain ⟨sa, sc, rfl, hsc, _⟩ := hs.slice
  obtain ⟨k, hk⟩ : ∃ k, k = r.length := ⟨_, rfl⟩
  obtain ⟨E, hE⟩ : ∃ E, E = consE m claim n R r := ⟨_, rfl⟩
  rw [← hRR, ← hn, ← hE] at hok
  have HO : Hid (∀ (j : Nat) V, j ≤ n → Rk V → g < V.heap.size → (∀ i s, L[i]? = some s → V.cell? ⟨g, off + i, none⟩ = some (.string s)) → Calls Tryz.prog 62 #[.slice (some ⟨g, off, none⟩) j c] V fun en w' => en = .returned (.agg (cellsOf (rtAll (leafF L) j))) ∧ Below V.heap.size V w') := Lib.hid fun j V h1 h2 h3 h4 =>
    over_all L hsz hLL g off j c (by omega) (by omega) hcm V h2 h3 h4
  have hcn : (n : Int) ≤ (c : Int) ∧ (c : Int) ≤ 9223372036854775807 := by unfold maxLen at hcm; omega
  have HQ := Lib.hid (show _ ∧ _ ∧ _ ∧ _ ∧ _ ∧ _ from ⟨hsz, hLL, hnc, hcm, hn, hRR⟩)
  have HC := Lib.hid hc
  have HCC : Hid ((cellsOf claim).size = 32) := Lib.hid (by rw [cellsOf_size, hc])
  have HRL := Lib.hid hRL
  have HS := Lib.hid (show _ ∧ _ ∧ _ ∧ _ from ⟨hR, hg, hcell, hs⟩)
  have HOK := Lib.hid hok
  have HE := Lib.hid hE
  have HK := Lib.hid hk
  have I1 : Hid (∀ gn V, PfS w m claim n R gn g off L (.slice sa k sc) r V → Calls Tryz.prog 40 #[.agg (headC m claim), .agg (headC n R), .slice sa k sc] V fun en w' => ∃ e, en = .returned e ∧ ((E = 0 ∧ e = .nilIface) ∨ (E ≠ 0 ∧ ∃ b, e = .iface 125 (.pointer (some ⟨b, 0, none⟩)))) ∧ PfS w m claim n R gn g off L (.slice sa k sc) r w') := Lib.hid fun gn V hV => by
    have h := cons_calls hc hRL m n (by omega) r sa sc V hV.rk (by rw [← hk]; exact hV.ss.weak)
    rw [← hk, ← hE] at h
    refine h.mono ?_
    rintro en w' ⟨e, rfl, he, bb⟩
    refine ⟨e, rfl, ?_, hV.below bb⟩
    rcases he with h | ⟨h, b, rfl, _⟩
    · exact .inl h
    · exact .inr ⟨h, b, rfl⟩
  rw [← hn, ← hk]
  rw [← hk] at HS
  clear hsz hLL hnc hcm hR hg hcell hs hc hRL hok hn hk hE hRR hsc
  go_enter Tryz.func34, Tryz.ntmps34
  go_wp2_with (first
    | ((with_reducible refine at_op 15 ?_); refine wpList_load_row (o := ⟨some 15, _, _, _, _, _⟩) rfl 38 _ rfl w.heap.size rfl 38 (cellsOf claim) (0, 0) _ ((made_at _ _ rfl).alloc _) Tryz.underlying38 rfl (by rw [HCC.out]; kernel_rfl) ?_)
    | ((with_reducible refine at_op 16 ?_); refine wpList_head (o := ⟨some 16, _, _, _, _, _⟩) rfl (.tmp 14) (.tmp 15) rfl m claim rfl rfl HC.out ?_)
    | ((with_reducible refine at_store (.tmp 10) ?_); refine wpList_store_head (o := ⟨none, _, _, _, _, _⟩) rfl (.tmp 10) (.tmp 16) rfl (w.heap.size + 1 + 1) m 0 claim (List.replicate 32 0) rfl rfl (made_at _ _ (by simp)) HC.out (by simp) ?_; intro W1 HW1 TW1;
       (have S1 : Hid (Below w.heap.size w W1 ∧ Has W1 w.heap.size 38 (cellsOf claim) ∧ Has W1 (w.heap.size + 1) 44 #[.string ⟨#[]⟩, .string ⟨#[]⟩] ∧ Has W1 (w.heap.size + 1 + 1) 41 (headC m claim)) := (by
         exact Lib.hid ⟨((((Below.refl _ _).alloc (Nat.le_refl _) _).alloc (by simp) _).alloc (by simp; omega) _).trans (TW1.below (by simp; omega) (fun j hj e => by omega)), (((made_at _ _ rfl).alloc _).alloc _).turn TW1 (by omega), ((made_at _ _ (by simp)).alloc _).turn TW1 (by omega), HW1⟩));
       clear HW1 TW1)
    | fail)
  refine (HO.out n W1 (Nat.le_refl _) (HS.out.1.below S1.out.1) (Nat.lt_of_lt_of_le HS.out.2.1 S1.out.1.size) (fun i s hs => by rw [← HS.out.2.2.1 i s hs]; unfold World.cell?; rw [S1.out.1.block g HS.out.2.1])).mono ?_
  rw [HQ.out.2.2.2.2.1, ← HQ.out.2.2.2.2.2, ← HQ.out.2.2.2.2.1]
  rintro en w2 ⟨rfl, b2⟩
  have S2 : Hid (Below w.heap.size w w2 ∧ Has w2 w.heap.size 38 (cellsOf claim) ∧ Has w2 (w.heap.size + 1) 44 #[.string ⟨#[]⟩, .string ⟨#[]⟩] ∧ Has w2 (w.heap.size + 1 + 1) 41 (headC m claim)) := Lib.hid ⟨S1.out.1.trans (b2.mono S1.out.1.size), S1.out.2.1.below b2 S1.out.2.1.lt, S1.out.2.2.1.below b2 S1.out.2.2.1.lt, S1.out.2.2.2.below b2 S1.out.2.2.2.lt⟩
  clear b2 S1
  go_wp2_with (first
    | ((with_reducible refine at_op 21 ?_); refine wpList_head (o := ⟨some 21, _, _, _, _, _⟩) rfl (.tmp 18) (.tmp 20) rfl n R rfl rfl HRL.out ?_)
    | ((with_reducible refine at_store (.tmp 11) ?_); refine wpList_store_head (o := ⟨none, _, _, _, _, _⟩) rfl (.tmp 11) (.tmp 21) rfl w2.heap.size n 0 R (List.replicate 32 0) rfl rfl (made_at _ _ rfl) HRL.out (by simp) ?_; intro W3 HW3 TW3;
       (have S3 : Hid (PfS w m claim n R w2.heap.size g off L (.slice sa k sc) r W3) := (by
         have bb : Below w2.heap.size w2 W3 := ((Below.refl _ _).alloc (Nat.le_refl _) _).trans (TW3.below (by simp) (fun j hj e => by omega))
         have b3 := S2.out.1.trans (bb.mono S2.out.1.size)
         exact Lib.hid ⟨HS.out.1.below b3, S2.out.2.1.below bb S2.out.2.1.lt, S2.out.2.2.1.below bb S2.out.2.2.1.lt, S2.out.2.2.2.below bb S2.out.2.2.2.lt, HW3, HS.out.2.2.2.below b3, HS.out.2.1, (fun i s hs => by rw [← HS.out.2.2.1 i s hs]; unfold World.cell?; rw [b3.block g HS.out.2.1]), b3⟩));
       clear HW3 TW3 S2)
    | fail)
  obtain ⟨gn, hgn⟩ : ∃ gn, gn = w2.heap.size := ⟨_, rfl⟩
  rw [← hgn] at S3 ⊢
  clear hgn
  by_cases h0 : E = 0
  · subst h0
    obtain ⟨j, rfl, hjn⟩ : ∃ j : Nat, m = j ∧ j ≤ n := by
      have h := HE.out
      unfold consE at h
      by_cases hx : m < 0 ∨ (n : Int) < m
      · rw [if_pos hx] at h; cases h
      · exact ⟨m.toNat, by omega, by omega⟩
    have HJ := Lib.hid hjn
    have j0 : (0 : Int) ≤ (j : Int) := by omega
    have j1 : (j : Int) ≤ (n : Int) := by omega
    have j2 : (j : Int) ≤ (c : Int) := by omega
    clear hjn
    by_cases hq : claim = rtAll (leafF L) j
    · obtain rfl : ok = false := by rw [HOK.out]; simp [← hq]
      have HO2 : Hid (∀ V, PfS w j claim n R gn g off L (.slice sa k sc) r V → Calls Tryz.prog 62 #[.slice (some ⟨g, off, none⟩) j c] V fun en w' => en = .returned (.agg (cellsOf claim)) ∧ Below V.heap.size V w') := Lib.hid fun V hV => by
        rw [hq]
        exact HO.out j _ HJ.out hV.rk (Nat.lt_of_lt_of_le hV.lt hV.bel.size) hV.cells
      clear hq
      refine Go.wp_region_held (S := PfS w j claim n R gn g off L (.slice sa k sc) r) (by kernel_rfl) ?_
      have S4 := S3.out.below (Below.refl _ _).drew
      clear S3
      refine held_take 0 (some 22) (v := .agg (headC j claim)) rfl rfl (by kernel_rfl) (by kernel_rfl) (by kernel_rfl) (fun _ _ _ h => h) (.inl ⟨by kernel_rfl, fun V hV => by exact exec_load 41 (.tmp 10) rfl (.pointer (some ⟨w.heap.size + 1 + 1, 0, none⟩)) (by kernel_rfl) (prf.Has.load_hd hV.old HC.out)⟩) S4 ?_
      simp only [Act.put, List.setIfInBounds_toArray, List.set_cons_zero, List.set_cons_succ]
      refine held_take 1 (some 23) (v := .agg (headC n R)) rfl rfl (by kernel_rfl) (by kernel_rfl) (by kernel_rfl) (fun _ _ _ h => h) (.inl ⟨by kernel_rfl, fun V hV => by exact exec_load 41 (.tmp 11) rfl (.pointer (some ⟨gn, 0, none⟩)) (by kernel_rfl) (prf.Has.load_hd hV.now HRL.out)⟩) S4 ?_
      simp only [Act.put, List.setIfInBounds_toArray, List.set_cons_zero, List.set_cons_succ]
      refine held_take 2 (some 24) (v := .slice sa k sc) rfl rfl (by kernel_rfl) (by kernel_rfl) (by kernel_rfl) (fun _ _ _ h => h) (.inl ⟨by kernel_rfl, fun V hV => by rfl⟩) S4 ?_
      simp only [Act.put, List.setIfInBounds_toArray, List.set_cons_zero, List.set_cons_succ]
      refine held_one (i := 3) (by kernel_rfl) ?_
      refine wpOp_call (some 25) rfl rfl (by kernel_rfl) 40 Tryz.f40 Tryz.func40 (by kernel_rfl) (by kernel_rfl) _ _ rfl #[.agg (headC j claim), .agg (headC n R), .slice sa k sc] (by first | (simp [Act.eval]; done) | (simp [Act.eval, Act.put]; done)) (I1.out _ _ S4) ?_
      rintro en w5 ⟨e, rfl, he, S5⟩
      obtain rfl : e = .nilIface := by
        rcases he with ⟨_, h⟩ | ⟨h, _⟩
        · exact h
        · exact absurd rfl h
      clear he
      refine ⟨.nilIface, rfl, S5, ?_⟩
      simp only [Act.put, List.setIfInBounds_toArray, List.set_cons_zero, List.set_cons_succ]
      refine held_take 4 (some 26) (v := .bool false) rfl rfl (by kernel_rfl) (by kernel_rfl) (by kernel_rfl) (fun _ _ _ h => h) (.inl ⟨by kernel_rfl, fun V hV => by go_simp⟩) S5 ?_
      simp only [Act.put, List.setIfInBounds_toArray, List.set_cons_zero, List.set_cons_succ]
      refine held_take 5 (some 27) (v := .bool false) rfl rfl (by kernel_rfl) (by kernel_rfl) (by kernel_rfl) (fun _ _ _ h => h) (.inl ⟨by kernel_rfl, fun V hV => by rfl⟩) S5 ?_
      simp only [Act.put, List.setIfInBounds_toArray, List.set_cons_zero, List.set_cons_succ]
      refine held_take 6 (some 28) (v := .agg (cellsOf claim)) rfl rfl (by kernel_rfl) (by kernel_rfl) (by kernel_rfl) (fun _ _ _ h => h) (.inl ⟨by kernel_rfl, fun V hV => by exact exec_load 38 (.tmp 5) rfl (.pointer (some ⟨w.heap.size, 0, none⟩)) (by kernel_rfl) (run_loadAt_mid V w.heap.size 0 38 (claim.map byteV) _ (Has.range hV.box) Tryz.underlying38 rfl (by rw [List.length_map, HC.out]; kernel_rfl))⟩) S5 ?_
      simp only [Act.put, List.setIfInBounds_toArray, List.set_cons_zero, List.set_cons_succ]
      refine held_take 7 (some 29) (v := .slice (some ⟨g, off, none⟩) n c) rfl rfl (by kernel_rfl) (by kernel_rfl) (by kernel_rfl) (fun _ _ _ h => h) (.inl ⟨by kernel_rfl, fun V hV => by rfl⟩) S5 ?_
      simp only [Act.put, List.setIfInBounds_toArray, List.set_cons_zero, List.set_cons_succ]
      refine held_take 8 (some 30) (v := .int .i64 j) rfl rfl (by kernel_rfl) (by kernel_rfl) (by kernel_rfl) (fun _ _ _ h => h) (.inl ⟨by kernel_rfl, fun V hV => by rfl⟩) S5 ?_
      simp only [Act.put, List.setIfInBounds_toArray, List.set_cons_zero, List.set_cons_succ]
      refine held_take 9 (some 31) (v := .slice (some ⟨g, off, none⟩) j c) rfl rfl (by kernel_rfl) (by kernel_rfl) (by kernel_rfl) (fun _ _ _ h => h) (.inl ⟨by kernel_rfl, fun V hV => by go_simp⟩) S5 ?_
      simp only [Act.put, List.setIfInBounds_toArray, List.set_cons_zero, List.set_cons_succ]
      refine held_one (i := 10) (by kernel_rfl) ?_
      refine wpOp_call (some 32) rfl rfl (by kernel_rfl) 62 Tryz.f62 Tryz.func62 (by kernel_rfl) (by kernel_rfl) _ _ rfl #[.slice (some ⟨g, off, none⟩) j c] (by first | (simp [Act.eval]; done) | (simp [Act.eval, Act.put]; done)) (HO2.out _ S5) ?_
      rintro en w6 ⟨rfl, b6⟩
      have S6 := S5.below b6
      refine ⟨.agg (cellsOf claim), rfl, S6, ?_⟩
      simp only [Act.put, List.setIfInBounds_toArray, List.set_cons_zero, List.set_cons_succ]
      refine held_take 11 (some 33) (v := .bool true) rfl rfl (by kernel_rfl) (by kernel_rfl) (by kernel_rfl) (fun _ _ _ h => h) (.inl ⟨by kernel_rfl, fun V hV => by have he := run_equal_sum' claim claim HC.out HC.out V; simp only [beq_self_eq_true] at he; go_simp⟩) S6 ?_
      simp only [Act.put, List.setIfInBounds_toArray, List.set_cons_zero, List.set_cons_succ]
      refine held_take 12 (some 34) (v := .bool true) rfl rfl (by kernel_rfl) (by kernel_rfl) (by kernel_rfl) (fun _ _ _ h => h) (.inl ⟨by kernel_rfl, fun V hV => by rfl⟩) S6 ?_
      simp only [Act.put, List.setIfInBounds_toArray, List.set_cons_zero, List.set_cons_succ]
      refine wpAnyH_done (by kernel_rfl) ?_ _
      have SF := Lib.hid S6
      clear S4 S5 S6 b6
      go_wp2_with (first
        | ((with_reducible refine at_store (.tmp 8) ?_); refine wpList_store_cells (o := ⟨none, _, _, _, _, _⟩) rfl 44 (.tmp 8) (.tmp 35) rfl (w.heap.size + 1) #[.string ⟨#[]⟩, .string ⟨#[]⟩] #[.string ⟨#[]⟩, .string ⟨#[]⟩] rfl rfl _ SF.out.res (by kernel_rfl) rfl (by simp [Value.oneCell']) ?_; intro W9 HW9 TW9)
        | fail)
      exact bodyPost_ret (v := .tuple #[.agg #[.string ⟨#[]⟩, .string ⟨#[]⟩], .bool false]) (results_cell_tmp rfl _ _ (w.heap.size + 1) 44 _ _ _ rfl HW9 Tryz.underlying44 rfl (by kernel_rfl) _ rfl) rfl
        ⟨_, _, rfl, (fun h => by cases h), (fun _ => ⟨rfl, rfl⟩), SF.out.bel.trans (TW9.below SF.out.bel.size (fun j hj e => by omega))⟩
    · obtain ⟨Q, hQ⟩ : ∃ Q, Q = rtAll (leafF L) j := ⟨_, rfl⟩
      have HQL : Hid (Q.length = 32) := Lib.hid (by rw [hQ]; exact rtAll_len (leafF_len L) _)
      have HNE : Hid ((claim == Q) = false) := Lib.hid (by rw [hQ]; simpa using hq)
      obtain rfl : ok = true := by rw [HOK.out]; simp [hq]
      have HO2 : Hid (∀ V, PfS w j claim n R gn g off L (.slice sa k sc) r V → Calls Tryz.prog 62 #[.slice (some ⟨g, off, none⟩) j c] V fun en w' => en = .returned (.agg (cellsOf Q)) ∧ Below V.heap.size V w') := Lib.hid fun V hV => by
        rw [hQ]
        exact HO.out j _ HJ.out hV.rk (Nat.lt_of_lt_of_le hV.lt hV.bel.size) hV.cells
      have hE0 : consE j claim n (rtAll (leafF L) n) r = 0 := by
        rw [HQ.out.2.2.2.2.1, ← HQ.out.2.2.2.2.2, ← HQ.out.2.2.2.2.1]
        exact HE.out.symm
      obtain ⟨f0, f1, told, SL2, f2, f3, f4, x, y, f5, f6, f7, f8⟩ := prefix_first HQ.out.2.2.2.2.1 HC.out HS.out.2.2.2.2 hE0 hq
      have HSD : Hid (∀ V, PfS w j claim n R gn g off L (.slice sa k sc) r V → Calls Tryz.prog 63 #[.int .i64 j, .agg (cellsOf claim), .slice (some ⟨g, off, none⟩) n c, .slice sa k sc] V (SidesPost V ((txL (turnsP (j - 1) n) (besideX (leafF L) (turnsP (j - 1) n) 0 n) (endX (leafF L) (turnsP (j - 1) n) 0 n)).zip (txL (turnsP (j - 1) n) SL2.reverse told)))) := Lib.hid fun V hV => by
        have h := sides_calls L HQ.out.1 HQ.out.2.1 g off c j f0 (by rw [← HQ.out.2.2.2.2.1]; exact f1) HQ.out.2.2.1 HQ.out.2.2.2.1 claim HC.out (.slice sa k sc) r.reverse (fun x hx => HS.out.2.2.2.2 x (List.mem_reverse.1 hx)) told SL2 (by rw [← HQ.out.2.2.2.2.1]; exact f3) (by rw [← HQ.out.2.2.2.2.1]; exact f4) V hV.rk (Nat.lt_of_lt_of_le hV.lt hV.bel.size) hV.cells (by rw [List.length_reverse]; exact hV.ss.1)
        rw [← HQ.out.2.2.2.2.1] at h
        exact h
      obtain ⟨PL, hPL⟩ : ∃ PL, PL = (txL (turnsP (j - 1) n) (besideX (leafF L) (turnsP (j - 1) n) 0 n) (endX (leafF L) (turnsP (j - 1) n) 0 n)).zip (txL (turnsP (j - 1) n) SL2.reverse told) := ⟨_, rfl⟩
      have hpl : PL.length ≤ 1000 := by
        rw [hPL, List.length_zip]
        have h1 := txL_len (turnsP (j - 1) n) (besideX (leafF L) (turnsP (j - 1) n) 0 n) (endX (leafF L) (turnsP (j - 1) n) 0 n) (besideX_len _ _ _ _).symm
        have h2 := turnsP_le 20 n (j - 1) (by have := HQ.out.2.1; have := HQ.out.2.2.2.2.1; omega)
        omega
      rw [← hPL] at HSD f5
      have HF := Lib.hid (show _ ∧ _ ∧ _ ∧ _ ∧ _ from ⟨f5, f6, f7, f8, hpl⟩)
      clear hq hQ hE0 f0 f1 f2 f3 f4 f5 f6 f7 f8 hPL hpl
      refine Go.wp_region_held (S := PfS w j claim n R gn g off L (.slice sa k sc) r) (by kernel_rfl) ?_
      have S4 := S3.out.below (Below.refl _ _).drew
      clear S3
      refine held_take 0 (some 22) (v := .agg (headC j claim)) rfl rfl (by kernel_rfl) (by kernel_rfl) (by kernel_rfl) (fun _ _ _ h => h) (.inl ⟨by kernel_rfl, fun V hV => by exact exec_load 41 (.tmp 10) rfl (.pointer (some ⟨w.heap.size + 1 + 1, 0, none⟩)) (by kernel_rfl) (prf.Has.load_hd hV.old HC.out)⟩) S4 ?_
      simp only [Act.put, List.setIfInBounds_toArray, List.set_cons_zero, List.set_cons_succ]
      refine held_take 1 (some 23) (v := .agg (headC n R)) rfl rfl (by kernel_rfl) (by kernel_rfl) (by kernel_rfl) (fun _ _ _ h => h) (.inl ⟨by kernel_rfl, fun V hV => by exact exec_load 41 (.tmp 11) rfl (.pointer (some ⟨gn, 0, none⟩)) (by kernel_rfl) (prf.Has.load_hd hV.now HRL.out)⟩) S4 ?_
      simp only [Act.put, List.setIfInBounds_toArray, List.set_cons_zero, List.set_cons_succ]
      refine held_take 2 (some 24) (v := .slice sa k sc) rfl rfl (by kernel_rfl) (by kernel_rfl) (by kernel_rfl) (fun _ _ _ h => h) (.inl ⟨by kernel_rfl, fun V hV => by rfl⟩) S4 ?_
      simp only [Act.put, List.setIfInBounds_toArray, List.set_cons_zero, List.set_cons_succ]
      refine held_one (i := 3) (by kernel_rfl) ?_
      refine wpOp_call (some 25) rfl rfl (by kernel_rfl) 40 Tryz.f40 Tryz.func40 (by kernel_rfl) (by kernel_rfl) _ _ rfl #[.agg (headC j claim), .agg (headC n R), .slice sa k sc] (by first | (simp [Act.eval]; done) | (simp [Act.eval, Act.put]; done)) (I1.out _ _ S4) ?_
      rintro en w5 ⟨e, rfl, he, S5⟩
      obtain rfl : e = .nilIface := by
        rcases he with ⟨_, h⟩ | ⟨h, _⟩
        · exact h
        · exact absurd rfl h
      clear he
      refine ⟨.nilIface, rfl, S5, ?_⟩
      simp only [Act.put, List.setIfInBounds_toArray, List.set_cons_zero, List.set_cons_succ]
      refine held_take 4 (some 26) (v := .bool false) rfl rfl (by kernel_rfl) (by kernel_rfl) (by kernel_rfl) (fun _ _ _ h => h) (.inl ⟨by kernel_rfl, fun V hV => by go_simp⟩) S5 ?_
      simp only [Act.put, List.setIfInBounds_toArray, List.set_cons_zero, List.set_cons_succ]
      refine held_take 5 (some 27) (v := .bool false) rfl rfl (by kernel_rfl) (by kernel_rfl) (by kernel_rfl) (fun _ _ _ h => h) (.inl ⟨by kernel_rfl, fun V hV => by rfl⟩) S5 ?_
      simp only [Act.put, List.setIfInBounds_toArray, List.set_cons_zero, List.set_cons_succ]
      refine held_take 6 (some 28) (v := .agg (cellsOf claim)) rfl rfl (by kernel_rfl) (by kernel_rfl) (by kernel_rfl) (fun _ _ _ h => h) (.inl ⟨by kernel_rfl, fun V hV => by exact exec_load 38 (.tmp 5) rfl (.pointer (some ⟨w.heap.size, 0, none⟩)) (by kernel_rfl) (run_loadAt_mid V w.heap.size 0 38 (claim.map byteV) _ (Has.range hV.box) Tryz.underlying38 rfl (by rw [List.length_map, HC.out]; kernel_rfl))⟩) S5 ?_
      simp only [Act.put, List.setIfInBounds_toArray, List.set_cons_zero, List.set_cons_succ]
      refine held_take 7 (some 29) (v := .slice (some ⟨g, off, none⟩) n c) rfl rfl (by kernel_rfl) (by kernel_rfl) (by kernel_rfl) (fun _ _ _ h => h) (.inl ⟨by kernel_rfl, fun V hV => by rfl⟩) S5 ?_
      simp only [Act.put, List.setIfInBounds_toArray, List.set_cons_zero, List.set_cons_succ]
      refine held_take 8 (some 30) (v := .int .i64 j) rfl rfl (by kernel_rfl) (by kernel_rfl) (by kernel_rfl) (fun _ _ _ h => h) (.inl ⟨by kernel_rfl, fun V hV => by rfl⟩) S5 ?_
      simp only [Act.put, List.setIfInBounds_toArray, List.set_cons_zero, List.set_cons_succ]
      refine held_take 9 (some 31) (v := .slice (some ⟨g, off, none⟩) j c) rfl rfl (by kernel_rfl) (by kernel_rfl) (by kernel_rfl) (fun _ _ _ h => h) (.inl ⟨by kernel_rfl, fun V hV => by go_simp⟩) S5 ?_
      simp only [Act.put, List.setIfInBounds_toArray, List.set_cons_zero, List.set_cons_succ]
      refine held_one (i := 10) (by kernel_rfl) ?_
      refine wpOp_call (some 32) rfl rfl (by kernel_rfl) 62 Tryz.f62 Tryz.func62 (by kernel_rfl) (by kernel_rfl) _ _ rfl #[.slice (some ⟨g, off, none⟩) j c] (by first | (simp [Act.eval]; done) | (simp [Act.eval, Act.put]; done)) (HO2.out _ S5) ?_
      rintro en w6 ⟨rfl, b6⟩
      have S6 := S5.below b6
      refine ⟨.agg (cellsOf Q), rfl, S6, ?_⟩
      simp only [Act.put, List.setIfInBounds_toArray, List.set_cons_zero, List.set_cons_succ]
      refine held_take 11 (some 33) (v := .bool false) rfl rfl (by kernel_rfl) (by kernel_rfl) (by kernel_rfl) (fun _ _ _ h => h) (.inl ⟨by kernel_rfl, fun V hV => by have he := run_equal_sum' claim Q HC.out HQL.out V; rw [HNE.out] at he; go_simp⟩) S6 ?_
      simp only [Act.put, List.setIfInBounds_toArray, List.set_cons_zero, List.set_cons_succ]
      refine held_take 12 (some 34) (v := .bool false) rfl rfl (by kernel_rfl) (by kernel_rfl) (by kernel_rfl) (fun _ _ _ h => h) (.inl ⟨by kernel_rfl, fun V hV => by rfl⟩) S6 ?_
      simp only [Act.put, List.setIfInBounds_toArray, List.set_cons_zero, List.set_cons_succ]
      refine wpAnyH_done (by kernel_rfl) ?_ _
      have SF := Lib.hid S6
      clear S4 S5 S6 b6
      have k0 : (Instr.loadAt 38 (.pointer (some ⟨w.heap.size, 0, none⟩))).run Tryz.prog w6 = .ok (.agg (cellsOf claim)) w6 := run_loadAt_mid w6 w.heap.size 0 38 (claim.map byteV) _ (Has.range SF.out.box) Tryz.underlying38 rfl (by rw [List.length_map, HC.out]; kernel_rfl)
      go_wp2_with (first
        | ((with_reducible refine at_op 38 ?_); refine wpList_load_row (o := ⟨some 38, _, _, _, _, _⟩) rfl 38 _ rfl w.heap.size rfl 38 (cellsOf claim) (0, 0) _ SF.out.box Tryz.underlying38 rfl (by rw [HCC.out]; kernel_rfl) ?_)
        | fail)
      refine (HSD.out _ SF.out).mono ?_
      rintro en w7 ⟨gq, rfl, h7, b7⟩
      obtain ⟨lq, hlq⟩ : ∃ lq, lq = PL.length := ⟨_, rfl⟩
      have HLQ := Lib.hid hlq
      rw [← hlq] at h7 ⊢
      have S7 : Hid (PfS w j claim n R gn g off L (.slice sa k sc) r w7 ∧ Seg w7 44 2 (.slice (some ⟨gq, 0, none⟩) lq lq) lq (pairsC PL)) := Lib.hid ⟨SF.out.below b7, h7⟩
      clear hlq h7 b7 SF k0 HSD
      go_wp2_with fail
      refine (first_calls (.slice (some ⟨gq, 0, none⟩) lq lq) PL w7 (by rw [← HLQ.out]; exact S7.out.2) HF.out.2.2.2.2).mono ?_
      rw [HF.out.1]
      rintro en w8 ⟨rfl, b8⟩
      have S8 := Lib.hid (S7.out.1.below b8)
      clear b8 S7
      go_wp2_with (first
        | ((with_reducible refine at_store (.tmp 8) ?_); refine wpList_store_cells (o := ⟨none, _, _, _, _, _⟩) rfl 44 (.tmp 8) (.tmp 46) rfl (w.heap.size + 1) #[.string x, .string y] #[.string ⟨#[]⟩, .string ⟨#[]⟩] rfl rfl _ S8.out.res (by kernel_rfl) rfl (by simp [Value.oneCell']) ?_; intro W9 HW9 TW9)
        | fail)
      exact bodyPost_ret (v := .tuple #[.agg #[.string x, .string y], .bool true]) (results_cell_tmp rfl _ _ (w.heap.size + 1) 44 _ _ _ rfl HW9 Tryz.underlying44 rfl (by kernel_rfl) _ rfl) rfl
        ⟨_, _, rfl, (fun _ => ⟨HF.out.2.1, HF.out.2.2.1, HF.out.2.2.2.1⟩), (fun h => by cases h), S8.out.bel.trans (TW9.below S8.out.bel.size (fun j hj e => by omega))⟩
  · obtain rfl : ok = false := by rw [HOK.out]; simp [h0]
    refine Go.wp_region_held (S := PfS w m claim n R gn g off L (.slice sa k sc) r) (by kernel_rfl) ?_
    have S4 := S3.out.below (Below.refl _ _).drew
    clear S3
    refine held_take 0 (some 22) (v := .agg (headC m claim)) rfl rfl (by kernel_rfl) (by kernel_rfl) (by kernel_rfl) (fun _ _ _ h => h) (.inl ⟨by kernel_rfl, fun V hV => by exact exec_load 41 (.tmp 10) rfl (.pointer (some ⟨w.heap.size + 1 + 1, 0, none⟩)) (by kernel_rfl) (prf.Has.load_hd hV.old HC.out)⟩) S4 ?_
    simp only [Act.put, List.setIfInBounds_toArray, List.set_cons_zero, List.set_cons_succ]
    refine held_take 1 (some 23) (v := .agg (headC n R)) rfl rfl (by kernel_rfl) (by kernel_rfl) (by kernel_rfl) (fun _ _ _ h => h) (.inl ⟨by kernel_rfl, fun V hV => by exact exec_load 41 (.tmp 11) rfl (.pointer (some ⟨gn, 0, none⟩)) (by kernel_rfl) (prf.Has.load_hd hV.now HRL.out)⟩) S4 ?_
    simp only [Act.put, List.setIfInBounds_toArray, List.set_cons_zero, List.set_cons_succ]
    refine held_take 2 (some 24) (v := .slice sa k sc) rfl rfl (by kernel_rfl) (by kernel_rfl) (by kernel_rfl) (fun _ _ _ h => h) (.inl ⟨by kernel_rfl, fun V hV => by rfl⟩) S4 ?_
    simp only [Act.put, List.setIfInBounds_toArray, List.set_cons_zero, List.set_cons_succ]
    refine held_one (i := 3) (by kernel_rfl) ?_
    refine wpOp_call (some 25) rfl rfl (by kernel_rfl) 40 Tryz.f40 Tryz.func40 (by kernel_rfl) (by kernel_rfl) _ _ rfl #[.agg (headC m claim), .agg (headC n R), .slice sa k sc] (by first | (simp [Act.eval]; done) | (simp [Act.eval, Act.put]; done)) (I1.out _ _ S4) ?_
    rintro en w5 ⟨e, rfl, he, S5⟩
    obtain ⟨bb, rfl⟩ : ∃ b, e = .iface 125 (.pointer (some ⟨b, 0, none⟩)) := by
      rcases he with ⟨h, _⟩ | ⟨_, b, h⟩
      · exact absurd h h0
      · exact ⟨b, h⟩
    clear he
    refine ⟨.iface 125 (.pointer (some ⟨bb, 0, none⟩)), rfl, S5, ?_⟩
    simp only [Act.put, List.setIfInBounds_toArray, List.set_cons_zero, List.set_cons_succ]
    refine held_take 4 (some 26) (v := .bool true) rfl rfl (by kernel_rfl) (by kernel_rfl) (by kernel_rfl) (fun _ _ _ h => h) (.inl ⟨by kernel_rfl, fun V hV => by go_simp⟩) S5 ?_
    simp only [Act.put, List.setIfInBounds_toArray, List.set_cons_zero, List.set_cons_succ]
    refine held_take 5 (some 27) (v := .bool true) rfl rfl (by kernel_rfl) (by kernel_rfl) (by kernel_rfl) (fun _ _ _ h => h) (.inl ⟨by kernel_rfl, fun V hV => by rfl⟩) S5 ?_
    simp only [Act.put, List.setIfInBounds_toArray, List.set_cons_zero, List.set_cons_succ]
    refine held_take 6 (some 28) (v := undef) rfl rfl (by kernel_rfl) (by kernel_rfl) (by kernel_rfl) (fun _ _ _ h => h) (.inr ⟨by kernel_rfl, rfl⟩) S5 ?_
    simp only [Act.put, List.setIfInBounds_toArray, List.set_cons_zero, List.set_cons_succ]
    refine held_take 7 (some 29) (v := undef) rfl rfl (by kernel_rfl) (by kernel_rfl) (by kernel_rfl) (fun _ _ _ h => h) (.inr ⟨by kernel_rfl, rfl⟩) S5 ?_
    simp only [Act.put, List.setIfInBounds_toArray, List.set_cons_zero, List.set_cons_succ]
    refine held_take 8 (some 30) (v := undef) rfl rfl (by kernel_rfl) (by kernel_rfl) (by kernel_rfl) (fun _ _ _ h => h) (.inr ⟨by kernel_rfl, rfl⟩) S5 ?_
    simp only [Act.put, List.setIfInBounds_toArray, List.set_cons_zero, List.set_cons_succ]
    refine held_take 9 (some 31) (v := undef) rfl rfl (by kernel_rfl) (by kernel_rfl) (by kernel_rfl) (fun _ _ _ h => h) (.inr ⟨by kernel_rfl, rfl⟩) S5 ?_
    simp only [Act.put, List.setIfInBounds_toArray, List.set_cons_zero, List.set_cons_succ]
    refine held_take 10 (some 32) (v := undef) rfl rfl (by kernel_rfl) (by kernel_rfl) (by kernel_rfl) (fun _ _ _ h => h) (.inr ⟨by kernel_rfl, rfl⟩) S5 ?_
    simp only [Act.put, List.setIfInBounds_toArray, List.set_cons_zero, List.set_cons_succ]
    refine held_take 11 (some 33) (v := undef) rfl rfl (by kernel_rfl) (by kernel_rfl) (by kernel_rfl) (fun _ _ _ h => h) (.inr ⟨by kernel_rfl, rfl⟩) S5 ?_
    simp only [Act.put, List.setIfInBounds_toArray, List.set_cons_zero, List.set_cons_succ]
    refine held_take 12 (some 34) (v := .bool true) rfl rfl (by kernel_rfl) (by kernel_rfl) (by kernel_rfl) (fun _ _ _ h => h) (.inl ⟨by kernel_rfl, fun V hV => by rfl⟩) S5 ?_
    simp only [Act.put, List.setIfInBounds_toArray, List.set_cons_zero, List.set_cons_succ]
    refine wpAnyH_done (by kernel_rfl) ?_ _
    have SF := Lib.hid S5
    clear S4 S5 h0
    go_wp2_with (first
      | ((with_reducible refine at_store (.tmp 8) ?_); refine wpList_store_cells (o := ⟨none, _, _, _, _, _⟩) rfl 44 (.tmp 8) (.tmp 35) rfl (w.heap.size + 1) #[.string ⟨#[]⟩, .string ⟨#[]⟩] #[.string ⟨#[]⟩, .string ⟨#[]⟩] rfl rfl _ SF.out.res (by kernel_rfl) rfl (by simp [Value.oneCell']) ?_; intro W9 HW9 TW9)
      | fail)
    exact bodyPost_ret (v := .tuple #[.agg #[.string ⟨#[]⟩, .string ⟨#[]⟩], .bool false]) (results_cell_tmp rfl _ _ (w.heap.size + 1) 44 _ _ _ rfl HW9 Tryz.underlying44 rfl (by kernel_rfl) _ rfl) rfl
      ⟨_, _, rfl, (fun h => by cases h), (fun _ => ⟨rfl, rfl⟩), SF.out.bel.trans (TW9.below SF.out.bel.size (fun j hj e => by omega))⟩
end Go.Proofs.YtdoadmkaoboncaaGreatDoor.clash
end

