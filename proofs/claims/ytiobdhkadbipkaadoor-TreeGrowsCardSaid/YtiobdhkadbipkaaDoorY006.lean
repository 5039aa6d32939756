/- Texts laid into one: RefT, TreeJ, Copy, CopyN, Clr, TreeK, TreeR. -/
import Derived.Test.YtiobdhkadbipkaaDoorY005
import Derived.Test.YtiobdhkadbipkaaDoorY002
import Derived.Test.YtiobdhkadbipkaaDoorY004
import Derived.Lib.ItoaWalk
section
/- the document's Root over leaves. -/
namespace Go.Proofs.YtiobdhkadbipkaaDoor.prf
open Go Go.RowKit Go.Proofs.YtiobdhkadbipkaaDoor.dig

/-- Where texts lie: those of L, from g, off on. -/
def TxtAt (w : World) (g off : Nat) (L : List ByteArray) : Prop := g < w.heap.size ∧ ∀ i s, L[i]? = some s → w.cell? ⟨g, off + i, none⟩ = some (.string s)
theorem TxtAt.below {w w' : World} {g off : Nat} {L : List ByteArray} (h : TxtAt w g off L) (b : Below w.heap.size w w') : TxtAt w' g off L :=
  ⟨Nat.lt_of_lt_of_le h.1 b.size, fun i s hs => by rw [← h.2 i s hs]; unfold World.cell?; rw [b.block g h.1]⟩

set_option maxRecDepth 100000 in
set_option maxHeartbeats 2000000 in
theorem rroot_calls (L : List ByteArray) (hsz : ∀ s ∈ L, s.size ≤ 1000000) (hLL : L.length ≤ 1000000) (g off : Nat) : ∀ (k : Nat) {a c : Nat} (w : World), 0 < k → a + k ≤ L.length → k ≤ c → c ≤ maxLen → TxtAt w g off L →
    Calls Tryd.prog 13 #[.slice (some ⟨g, off + a, none⟩) k c] w fun en w' => en = .returned (.string (bs (rt (leafF L) a k))) ∧ Below w.heap.size w w' := by
  intro k
  induction k using Nat.strongRecOn with
  | _ k ih =>
  intro a c w hk ha hkc hc hT
  have HT := Lib.hid hT
  have hc9 : (c : Int) ≤ 9223372036854775807 := by unfold maxLen at hc; omega
  have hkc2 : (k : Int) ≤ (c : Int) := by omega
  have h0' : ¬ (k : Int) = 0 := by omega
  by_cases h1 : k = 1
  · subst h1
    obtain ⟨s, hs⟩ : ∃ s, L[a]? = some s := ⟨_, List.getElem?_eq_getElem (by omega)⟩
    have HE : Hid (rt (leafF L) a 1 = leafS s.data.toList) := Lib.hid (by rw [rt_one]; exact leafF_at L a s hs)
    have HS : Hid (s.size ≤ 1000000) := Lib.hid (hsz s (List.mem_of_getElem? hs))
    have c0 := hT.2 a s hs
    rw [HE.out]
    have HC := Lib.hid (rleaf_calls s (by have := HS.out; omega) w)
    clear hs ih hT HE
    go_enter Tryd.func13, Tryd.ntmps13
    go_wp2_with fail
    refine HC.out.mono ?_
    rintro en w2 ⟨rfl, b2⟩
    go_wp2_with fail
    go_ret
    exact ⟨rfl, b2⟩
  · have hk2 : 2 ≤ k := by omega
    have h1' : ¬ (k : Int) = 1 := by omega
    have hx3 := rt_two (leafF L) a hk2
    have hlt := half_lt hk2
    have hp := half_pos k
    have HH := Lib.hid (rhalf_calls k w hk2 (by omega))
    obtain ⟨h, hh⟩ : ∃ h, h = half k := ⟨_, rfl⟩
    obtain ⟨h2, hh2⟩ : ∃ h2, h2 = k - h := ⟨_, rfl⟩
    obtain ⟨c2, hc2⟩ : ∃ c2, c2 = c - h := ⟨_, rfl⟩
    rw [← hh] at hlt hp hx3 HH
    rw [← hh2] at hx3
    have HX := Lib.hid (show _ ∧ _ from ⟨hx3, hh2⟩)
    have HA : Hid (∀ V, TxtAt V g off L → Calls Tryd.prog 13 #[.slice (some ⟨g, off + a, none⟩) h c] V fun en w' => en = .returned (.string (bs (rt (leafF L) a h))) ∧ Below V.heap.size V w') := Lib.hid fun V hV => ih h hlt V hp (by omega) (by omega) hc hV
    have HB : Hid (∀ V, TxtAt V g off L → Calls Tryd.prog 13 #[.slice (some ⟨g, off + a + h, none⟩) h2 c2] V fun en w' => en = .returned (.string (bs (rt (leafF L) (a + h) h2))) ∧ Below V.heap.size V w') := Lib.hid fun V hV => by
      rw [Nat.add_assoc]
      exact ih h2 (by omega) V (by omega) (by omega) (by omega) (by omega) hV
    have HN : Hid (∀ V, Calls Tryd.prog 42 #[.string (bs (rt (leafF L) a h)), .string (bs (rt (leafF L) (a + h) h2))] V fun en w' => en = .returned (.string (bs (rt (leafF L) a k))) ∧ Below V.heap.size V w') := Lib.hid fun V => by
      rw [HX.out.1]
      exact rnode_calls _ _ (Nat.le_of_eq (rt_length _ _ _ (fun i _ _ => leafF_len L i) hp)) (Nat.le_of_eq (rt_length _ _ _ (fun i _ _ => leafF_len L i) (by omega))) V
    have hhk : (h : Int) ≤ (k : Int) := by omega
    have hhc : (h : Int) ≤ (c : Int) := by omega
    have hh0 : (0 : Int) ≤ (h : Int) := by omega
    have hkh : k - h = h2 := hh2.symm
    have hch : c - h = c2 := hc2.symm
    have hcn : ¬ c = h := by omega
    clear ih hx3 hT hlt hp hh hh2 hc2
    go_enter Tryd.func13, Tryd.ntmps13
    go_wp2_with fail
    refine HH.out.mono ?_
    rintro en wx ⟨rfl, rfl⟩
    go_wp2_with fail
    refine wp_region_S (S := fun V => TxtAt V g off L ∧ Below w.heap.size w V) (by kernel_rfl) ⟨HT.out.below (Below.refl _ _).drew, (Below.refl _ _).drew⟩ ?_
    refine AnyS.pure 0 (some 18) rfl rfl (by kernel_rfl) (by kernel_rfl) (by kernel_rfl) (fun _ _ _ h => h) (by kernel_rfl) (fun _ _ => rfl) ?_
    refine AnyS.pure 1 (some 19) rfl rfl (by kernel_rfl) (by kernel_rfl) (by kernel_rfl) (fun _ _ _ h => h) (by kernel_rfl) (fun _ _ => rfl) ?_
    simp only [Act.put, List.setIfInBounds_toArray, List.set_cons_zero, List.set_cons_succ]
    refine AnyS.pure 2 (some 20) (v := .slice (some ⟨g, off + a, none⟩) h c) rfl rfl (by kernel_rfl) (by kernel_rfl) (by kernel_rfl) (fun _ _ _ h => h) (by kernel_rfl) (fun V hV => by go_simp) ?_
    refine AnyS.call 3 (some 21) (.string (bs (rt (leafF L) a h))) rfl rfl (by kernel_rfl) (by kernel_rfl) (by kernel_rfl) (fun _ _ _ h => h) (by kernel_rfl) 13 Tryd.f13 Tryd.func13 (by kernel_rfl) (by kernel_rfl) _ _ rfl #[.slice (some ⟨g, off + a, none⟩) h c] (by first | (simp [Act.eval]; done) | (simp [Act.eval, Act.put]; done)) (fun V hV => (HA.out V hV.1).mono fun _ _ p => ⟨p.1, hV.1.below p.2, hV.2.trans (p.2.mono hV.2.size)⟩) ?_
    simp only [Act.put, List.setIfInBounds_toArray, List.set_cons_zero, List.set_cons_succ]
    refine AnyS.pure 4 (some 22) rfl rfl (by kernel_rfl) (by kernel_rfl) (by kernel_rfl) (fun _ _ _ h => h) (by kernel_rfl) (fun _ _ => rfl) ?_
    refine AnyS.pure 5 (some 23) rfl rfl (by kernel_rfl) (by kernel_rfl) (by kernel_rfl) (fun _ _ _ h => h) (by kernel_rfl) (fun _ _ => rfl) ?_
    simp only [Act.put, List.setIfInBounds_toArray, List.set_cons_zero, List.set_cons_succ]
    refine AnyS.pure 6 (some 24) (v := .slice (some ⟨g, off + a + h, none⟩) h2 c2) rfl rfl (by kernel_rfl) (by kernel_rfl) (by kernel_rfl) (fun _ _ _ h => h) (by kernel_rfl) (fun V hV => by go_simp) ?_
    refine AnyS.call 7 (some 25) (.string (bs (rt (leafF L) (a + h) h2))) rfl rfl (by kernel_rfl) (by kernel_rfl) (by kernel_rfl) (fun _ _ _ h => h) (by kernel_rfl) 13 Tryd.f13 Tryd.func13 (by kernel_rfl) (by kernel_rfl) _ _ rfl #[.slice (some ⟨g, off + a + h, none⟩) h2 c2] (by first | (simp [Act.eval]; done) | (simp [Act.eval, Act.put]; done)) (fun V hV => (HB.out V hV.1).mono fun _ _ p => ⟨p.1, hV.1.below p.2, hV.2.trans (p.2.mono hV.2.size)⟩) ?_
    simp only [Act.put, List.setIfInBounds_toArray, List.set_cons_zero, List.set_cons_succ]
    refine AnyS.call 8 (some 26) (.string (bs (rt (leafF L) a k))) rfl rfl (by kernel_rfl) (by kernel_rfl) (by kernel_rfl) (fun _ _ _ h => h) (by kernel_rfl) 42 Tryd.f42 Tryd.func42 (by kernel_rfl) (by kernel_rfl) _ _ rfl #[.string (bs (rt (leafF L) a h)), .string (bs (rt (leafF L) (a + h) h2))] (by first | (simp [Act.eval]; done) | (simp [Act.eval, Act.put]; done)) (fun V hV => (HN.out V).mono fun _ _ p => ⟨p.1, hV.1.below p.2, hV.2.trans (p.2.mono hV.2.size)⟩) ?_
    simp only [Act.put, List.setIfInBounds_toArray, List.set_cons_zero, List.set_cons_succ]
    refine AnyS.pure 9 (some 2) rfl rfl (by kernel_rfl) (by kernel_rfl) (by kernel_rfl) (fun _ _ _ h => h) (by kernel_rfl) (fun _ _ => rfl) ?_
    refine AnyS.done (by kernel_rfl) (fun V hV => ?_) _
    have HV := Lib.hid hV.2
    clear hV
    go_wp2_with fail
    go_ret
    exact ⟨rfl, HV.out⟩
end Go.Proofs.YtiobdhkadbipkaaDoor.prf
end

section
/- tree's laws: awake. (The region's script is written by tools/example-treeawake-writer.py.) -/
namespace Go.Proofs.YtiobdhkadbipkaaDoor.dig
open Go Go.RowKit

theorem half_three : half 3 = 2 := by unfold half; decide +kernel
theorem half_two : half 2 = 1 := by unfold half; decide +kernel
theorem rt_three (f : Nat → List UInt8) : rtAll f 3 = nodeS (nodeS (f 0) (f 1)) (f 2) := by
  unfold rtAll
  rw [if_neg (by decide), rt_two f 0 (by decide), half_three, rt_two f 0 (by decide), half_two, rt_one, rt_one, rt_one]
theorem path_three (f : Nat → List UInt8) : path f 2 0 3 = [nodeS (f 0) (f 1)] := by
  rw [path, dif_pos (by decide), half_three, if_neg (by decide), show 3 - 2 = 1 from rfl, path, dif_neg (by decide), rt_two f 0 (by decide), half_two, rt_one, show 2 - 1 = 1 from rfl, rt_one]
  rfl

theorem run_equal_sum (xs ys : List UInt8) (hx : xs.length = 32) (hy : ys.length = 32) (w : World) : (Op.equalIn 10000 32 (.agg (cellsOf xs)) (.agg (cellsOf ys))).run Tryd.prog w = .ok (xs == ys) w := by
  have := run_equalIn_bytes (P := Tryd.prog) 9998 (t := 32) (e := 5) 32 Tryd.underlying32 Tryd.underlying5 (by kernel_rfl) xs ys hx hy w
  simpa using this
theorem run_equal_same (xs : List UInt8) (hx : xs.length = 32) (w : World) : (Op.equalIn 10000 32 (.agg (cellsOf xs)) (.agg (cellsOf xs))).run Tryd.prog w = .ok true w := by
  rw [run_equal_sum xs xs hx hx w]
  simp

/-- Below all that a turn reaches nothing turns. -/
theorem turn_below {F : Nat → Prop} {w w1 w' : World} {B : Nat} (b : Below B w w1) (t : Turn F w1 w') (hB : B ≤ w1.heap.size) (hF : ∀ k, F k → B ≤ k) : Below B w w' :=
  b.trans (t.below hB (fun j hj hf => by have := hF j hf; omega))

/-- What lasts while the answers are held against each other. -/
structure AwS (B : Nat) (FF : Nat → Prop) (w : World) (b : Nat) (L : List ByteArray) (g2 g3 gl off : Nat) (AB R : List UInt8) (V : World) : Prop where
  tr : Tr B FF V b 3 0 (leafF L)
  s2 : Has V g2 32 (cellsOf AB)
  s3 : Has V g3 32 (cellsOf R)
  rg : V.rangeAt gl off (AB.map byteV)
  lt : gl < V.heap.size
  bel : Below w.heap.size w V
theorem AwS.below {B : Nat} {FF : Nat → Prop} {w : World} {b : Nat} {L : List ByteArray} {g2 g3 gl off : Nat} {AB R : List UInt8} {V V' : World} (h : AwS B FF w b L g2 g3 gl off AB R V) (bb : Below V.heap.size V V') : AwS B FF w b L g2 g3 gl off AB R V' :=
  ⟨h.tr.below bb, h.s2.below bb h.s2.lt, h.s3.below bb h.s3.lt, fun j u hj => by rw [← h.rg j u hj]; unfold World.cell?; rw [bb.block gl h.lt], Nat.lt_of_lt_of_le h.lt bb.size, h.bel.trans (bb.mono h.bel.size)⟩

set_option maxRecDepth 100000 in
set_option maxHeartbeats 2000000 in
theorem tawake_calls (B : Nat) (w : World) (hR : Rt B w) : Calls Tryd.prog 7 #[] w fun en w' => en = .returned (.bool true) ∧ Below w.heap.size w w' := by
  obtain ⟨L, hLL⟩ : ∃ L : List ByteArray, L = [⟨#[97]⟩, ⟨#[98]⟩, ⟨#[99]⟩] := ⟨_, rfl⟩
  have HLL := Lib.hid hLL
  have HR := Lib.hid hR
  have hl3 : L.length = 3 := by rw [hLL]; rfl
  have hl0 : leafF L 0 = leafS ([97] : List UInt8) := by rw [hLL]; rfl
  have hl1 : leafF L 1 = leafS ([98] : List UInt8) := by rw [hLL]; rfl
  have hl2 : leafF L 2 = leafS ([99] : List UInt8) := by rw [hLL]; rfl
  have H0 := Lib.hid hl0
  have H1 := Lib.hid hl1
  have H2 := Lib.hid hl2
  have H3 := Lib.hid hl3
  clear hR hLL hl0 hl1 hl2 hl3
  go_enter Tryd.func7, Tryd.ntmps7
  go_wp2_with fail
  refine (tnew_calls B (leafF L) w HR.out (leafF_len L)).mono ?_
  rintro en w1 ⟨b, rfl, hb, t1, b1⟩
  have T1 : Hid (Tr B (fun k => k = b) w1 b 0 0 (leafF L) ∧ Below w.heap.size w w1 ∧ w.heap.size ≤ b) := Lib.hid ⟨t1, b1, hb⟩
  clear t1 b1 hb HR
  go_wp2_with fail
  refine callsName (fun W hW => ?_)
  have T2 : Hid (Tr B (fun k => k = b) W b 0 0 (leafF L) ∧ Below w.heap.size w W ∧ w.heap.size ≤ b ∧ Strs W (.slice (some ⟨w1.heap.size, 0, none⟩) L.length 3) L ∧ b < w1.heap.size ∧ b < W.heap.size) := by
    rw [← hW]
    refine Lib.hid ⟨T1.out.1.alloc _, T1.out.2.1.alloc T1.out.2.1.size _, T1.out.2.2, ?_, T1.out.1.lt, (T1.out.1.alloc _).lt⟩
    rw [HLL.out]
    refine ⟨Seg.of_has (n := 3) (size := 1) (made_at _ _ rfl) rfl (by decide), fun s hs => ?_⟩
    simp at hs
    rcases hs with rfl | rfl | rfl <;> decide
  have hA := T2.out.1.append_calls (some ⟨w1.heap.size, 0, none⟩) 3 L T2.out.2.2.2.1 (fun x hx e => by
    have e2 : w1.heap.size = x := by simpa [Value.ownBlock] using hx
    have := T2.out.2.2.2.2.1
    omega) (fun i s hs => by rw [Nat.zero_add]; exact leafF_at L i s hs) (by rw [H3.out]; decide)
  rw [H3.out] at hA
  have HA := Lib.hid hA
  clear hW T1 hA
  refine HA.out.mono ?_
  rintro en w2 ⟨rfl, t2, u2⟩
  have T3 : Hid (Tr B (fun k => k = b ∨ W.heap.size ≤ k) w2 b 3 0 (leafF L) ∧ Below w.heap.size w w2 ∧ w.heap.size ≤ b) :=
    Lib.hid ⟨t2, turn_below T2.out.2.1 u2 T2.out.2.1.size (fun k e => by rw [e]; exact T2.out.2.2.1), T2.out.2.2.1⟩
  clear t2 u2 T2 HA
  generalize (fun k => k = b ∨ W.heap.size ≤ k) = FF at *
  go_wp2_with fail
  refine (leaf_calls ⟨#[97]⟩ w2 T3.out.1.rt.rk (by decide)).mono ?_
  rintro en w3 ⟨rfl, b3⟩
  have T4 : Hid (Tr B FF w3 b 3 0 (leafF L) ∧ Below w.heap.size w w3 ∧ w.heap.size ≤ b) := Lib.hid ⟨T3.out.1.below b3, T3.out.2.1.trans (b3.mono T3.out.2.1.size), T3.out.2.2⟩
  clear b3 T3
  go_wp2_with fail
  refine (leaf_calls ⟨#[98]⟩ w3 T4.out.1.rt.rk (by decide)).mono ?_
  rintro en w4 ⟨rfl, b4⟩
  have T5 : Hid (Tr B FF w4 b 3 0 (leafF L) ∧ Below w.heap.size w w4 ∧ w.heap.size ≤ b) := Lib.hid ⟨T4.out.1.below b4, T4.out.2.1.trans (b4.mono T4.out.2.1.size), T4.out.2.2⟩
  clear b4 T4
  go_wp2_with fail
  obtain ⟨AB, hAB⟩ : ∃ AB, AB = nodeS (leafS [97]) (leafS [98]) := ⟨_, rfl⟩
  obtain ⟨LC, hLC⟩ : ∃ LC, LC = leafS [99] := ⟨_, rfl⟩
  obtain ⟨R, hR⟩ : ∃ R, R = nodeS AB LC := ⟨_, rfl⟩
  have HAB := Lib.hid hAB
  have HLC : Hid (leafS (⟨#[99]⟩ : ByteArray).data.toList = LC) := Lib.hid (by rw [hLC])
  have HRN : Hid (nodeS AB LC = R) := Lib.hid hR.symm
  have HL : Hid (R.length = 32 ∧ AB.length = 32) := Lib.hid ⟨by rw [hR]; exact nodeS_length _ _, by rw [hAB]; exact nodeS_length _ _⟩
  have HC : Hid (LC.length = 32) := Lib.hid (by rw [hLC]; exact leafS_length _)
  have HRT : Hid (rtAll (leafF L) 3 = R ∧ path (leafF L) 2 0 3 = [AB]) := Lib.hid ⟨by rw [rt_three, H0.out, H1.out, H2.out, hR, hAB, hLC], by rw [path_three, H0.out, H1.out, hAB]⟩
  clear hAB hLC hR H0 H1 H2 H3
  refine (node_calls (leafS [97]) (leafS [98]) w4 T5.out.1.rt.rk (leafS_length _) (leafS_length _)).mono ?_
  rw [← HAB.out]
  rintro en w5 ⟨rfl, b5⟩
  have T6 : Hid (Tr B FF w5 b 3 0 (leafF L) ∧ Below w.heap.size w w5 ∧ w.heap.size ≤ b) := Lib.hid ⟨T5.out.1.below b5, T5.out.2.1.trans (b5.mono T5.out.2.1.size), T5.out.2.2⟩
  clear b5 T5
  have hab32 : (cellsOf AB).size = 32 := by rw [cellsOf_size, HL.out.2]
  have hr32 : (cellsOf R).size = 32 := by rw [cellsOf_size, HL.out.1]
  have HAB32 := Lib.hid hab32
  have HR32 := Lib.hid hr32
  clear hab32 hr32
  go_wp2_with (first
    | (refine wpList_store_cells (o := ⟨none, _, _, _, _, _⟩) rfl 32 _ _ rfl w5.heap.size (cellsOf AB) _ rfl rfl _ (made_at _ _ rfl) (HAB32.out.symm ▸ (by kernel_rfl)) (HAB32.out.symm ▸ rfl) (cellsOf_one _) ?_; intro W6 HW6 TW6;
       (have T7 : Hid (Tr B FF W6 b 3 0 (leafF L) ∧ Below w.heap.size w W6 ∧ w.heap.size ≤ b ∧ Has W6 w5.heap.size 32 (cellsOf AB)) := (by
         have bb : Below w5.heap.size w5 W6 := ((Below.refl _ _).alloc (Nat.le_refl _) _).trans (TW6.below (by simp) (fun j hj e => by omega))
         exact Lib.hid ⟨T6.out.1.below bb, T6.out.2.1.trans (bb.mono T6.out.2.1.size), T6.out.2.2, HW6⟩));
       clear T6 HW6 TW6)
    | fail)
  obtain ⟨g2, hg2⟩ : ∃ g2, g2 = w5.heap.size := ⟨_, rfl⟩
  rw [← hg2] at T7 ⊢
  clear hg2
  refine (T7.out.1.root (by decide) 3 (Nat.le_refl _) (Nat.zero_le _)).mono ?_
  rw [HRT.out.1]
  rintro en w6 ⟨rfl, b6⟩
  have T8 : Hid (Tr B FF w6 b 3 0 (leafF L) ∧ Below w.heap.size w w6 ∧ w.heap.size ≤ b ∧ Has w6 g2 32 (cellsOf AB)) := Lib.hid ⟨T7.out.1.below b6, T7.out.2.1.trans (b6.mono T7.out.2.1.size), T7.out.2.2.1, T7.out.2.2.2.below b6 T7.out.2.2.2.lt⟩
  clear b6 T7
  go_wp2_with (first
    | (refine wpList_store_cells (o := ⟨none, _, _, _, _, _⟩) rfl 32 _ _ rfl w6.heap.size (cellsOf R) _ rfl rfl _ (made_at _ _ rfl) (HR32.out.symm ▸ (by kernel_rfl)) (HR32.out.symm ▸ rfl) (cellsOf_one _) ?_; intro W7 HW7 TW7;
       (have T9 : Hid (Tr B FF W7 b 3 0 (leafF L) ∧ Below w.heap.size w W7 ∧ w.heap.size ≤ b ∧ Has W7 g2 32 (cellsOf AB) ∧ Has W7 w6.heap.size 32 (cellsOf R)) := (by
         have bb : Below w6.heap.size w6 W7 := ((Below.refl _ _).alloc (Nat.le_refl _) _).trans (TW7.below (by simp) (fun j hj e => by omega))
         exact Lib.hid ⟨T8.out.1.below bb, T8.out.2.1.trans (bb.mono T8.out.2.1.size), T8.out.2.2.1, T8.out.2.2.2.below bb T8.out.2.2.2.lt, HW7⟩));
       clear T8 HW7 TW7)
    | fail)
  obtain ⟨g3, hg3⟩ : ∃ g3, g3 = w6.heap.size := ⟨_, rfl⟩
  rw [← hg3] at T9 ⊢
  clear hg3
  have hin := T9.out.1.inclusion (by decide) 2 3 (Nat.le_refl _) (by decide) (Nat.zero_le _)
  rw [HRT.out.2] at hin
  have HIN := Lib.hid hin
  clear hin
  refine HIN.out.mono ?_
  rintro en w7 ⟨v, rfl, s7, lo7, b7⟩
  obtain ⟨gl, off, c, rfl, hgl, hc1, hc2, hcell⟩ := s7.cells (by simp)
  have hc3 : (c : Int) ≤ 9223372036854775807 := by unfold maxLen at hc2; omega
  have hr7 : w7.rangeAt gl off (AB.map byteV) := fun j u hj => hcell j u (by simpa [sumsC] using hj)
  have TA : Hid (Tr B FF w7 b 3 0 (leafF L) ∧ Has w7 g2 32 (cellsOf AB) ∧ Has w7 g3 32 (cellsOf R) ∧ w7.rangeAt gl off (AB.map byteV) ∧ gl < w7.heap.size ∧ Below w.heap.size w w7) :=
    Lib.hid ⟨T9.out.1.below b7, T9.out.2.2.2.1.below b7 T9.out.2.2.2.1.lt, T9.out.2.2.2.2.below b7 T9.out.2.2.2.2.lt, hr7, hgl, T9.out.2.1.trans (b7.mono T9.out.2.1.size)⟩
  clear T9 s7 lo7 b7 HIN hcell hr7 hgl hc2 HRT
  have hc4 : (1 : Int) ≤ (c : Int) := by simp at hc1; omega
  clear hc1
  go_wp2_with fail
  have hA0 : Hid (AwS B FF w b L g2 g3 gl off AB R w7) := Lib.hid ⟨TA.out.1, TA.out.2.1, TA.out.2.2.1, TA.out.2.2.2.1, TA.out.2.2.2.2.1, TA.out.2.2.2.2.2⟩
  clear TA
  refine wp_region_S (S := AwS B FF w b L g2 g3 gl off AB R) (by kernel_rfl) (hA0.out.below (Below.refl _ _).drew) ?_
  clear hA0
  refine AnyS.pure 0 (some 26) rfl rfl (by kernel_rfl) (by kernel_rfl) (by kernel_rfl) (fun _ _ _ h => h) (by kernel_rfl) (fun _ _ => rfl) ?_
  refine AnyS.pure 1 (some 27) (v := .bool true) rfl rfl (by kernel_rfl) (by kernel_rfl) (by kernel_rfl) (fun _ _ _ h => h) (by kernel_rfl) (fun V _ => by go_simp) ?_
  refine AnyS.pure 2 (some 28) rfl rfl (by kernel_rfl) (by kernel_rfl) (by kernel_rfl) (fun _ _ _ h => h) (by kernel_rfl) (fun _ _ => rfl) ?_
  refine AnyS.pure 3 (some 29) rfl rfl (by kernel_rfl) (by kernel_rfl) (by kernel_rfl) (fun _ _ _ h => h) (by kernel_rfl) (fun _ _ => rfl) ?_
  refine AnyS.pure 4 (some 30) (v := .bool true) rfl rfl (by kernel_rfl) (by kernel_rfl) (by kernel_rfl) (fun _ _ _ h => h) (by kernel_rfl) (fun V _ => by go_simp) ?_
  refine AnyS.pure 5 (some 31) (v := .bool true) rfl rfl (by kernel_rfl) (by kernel_rfl) (by kernel_rfl) (fun _ _ _ h => h) (by kernel_rfl) (fun V _ => by go_simp) ?_
  refine AnyS.pure 6 (some 32) rfl rfl (by kernel_rfl) (by kernel_rfl) (by kernel_rfl) (fun _ _ _ h => h) (by kernel_rfl) (fun _ _ => rfl) ?_
  simp only [Act.put, List.setIfInBounds_toArray, List.set_cons_zero, List.set_cons_succ]
  refine AnyS.pure 7 (some 33) (v := .agg (cellsOf R)) rfl rfl (by kernel_rfl) (by kernel_rfl) (by kernel_rfl) (fun _ _ _ h => h) (by kernel_rfl) (fun V hV => exec_load 32 (.tmp 3) rfl (.pointer (some ⟨g3, 0, none⟩)) (by kernel_rfl) (run_loadAt_mid V g3 0 32 (R.map byteV) _ (Has.range hV.s3) Tryd.underlying32 rfl (by rw [List.length_map, HL.out.1]; kernel_rfl))) ?_
  refine AnyS.pure 8 (some 34) (v := .agg (cellsOf AB)) rfl rfl (by kernel_rfl) (by kernel_rfl) (by kernel_rfl) (fun _ _ _ h => h) (by kernel_rfl) (fun V hV => exec_load 32 (.tmp 2) rfl (.pointer (some ⟨g2, 0, none⟩)) (by kernel_rfl) (run_loadAt_mid V g2 0 32 (AB.map byteV) _ (Has.range hV.s2) Tryd.underlying32 rfl (by rw [List.length_map, HL.out.2]; kernel_rfl))) ?_
  refine AnyS.call 9 (some 35) (.agg (cellsOf LC)) rfl rfl (by kernel_rfl) (by kernel_rfl) (by kernel_rfl) (fun _ _ _ h => h) (by kernel_rfl) 33 Tryd.f33 Tryd.func33 (by kernel_rfl) (by kernel_rfl) _ _ rfl #[.string ⟨#[99]⟩] (by first | (simp [Act.eval]; done) | (simp [Act.eval, Act.put]; done)) (fun V hV => (leaf_calls ⟨#[99]⟩ V hV.tr.rt.rk (by decide)).mono (fun _ _ h => ⟨by rw [h.1, HLC.out], hV.below h.2⟩)) ?_
  simp only [Act.put, List.setIfInBounds_toArray, List.set_cons_zero, List.set_cons_succ]
  refine AnyS.call 10 (some 36) (.agg (cellsOf R)) rfl rfl (by kernel_rfl) (by kernel_rfl) (by kernel_rfl) (fun _ _ _ h => h) (by kernel_rfl) 32 Tryd.f32 Tryd.func32 (by kernel_rfl) (by kernel_rfl) _ _ rfl #[.agg (cellsOf AB), .agg (cellsOf LC)] (by first | (simp [Act.eval]; done) | (simp [Act.eval, Act.put]; done)) (fun V hV => (node_calls AB LC V hV.tr.rt.rk HL.out.2 HC.out).mono (fun _ _ h => ⟨by rw [h.1, HRN.out], hV.below h.2⟩)) ?_
  simp only [Act.put, List.setIfInBounds_toArray, List.set_cons_zero, List.set_cons_succ]
  refine AnyS.pure 11 (some 37) (v := .bool true) rfl rfl (by kernel_rfl) (by kernel_rfl) (by kernel_rfl) (fun _ _ _ h => h) (by kernel_rfl) (fun V _ => by have he := run_equal_same R HL.out.1 V; go_simp) ?_
  refine AnyS.pure 12 (some 38) (v := .bool true) rfl rfl (by kernel_rfl) (by kernel_rfl) (by kernel_rfl) (fun _ _ _ h => h) (by kernel_rfl) (fun V _ => by go_simp) ?_
  refine AnyS.pure 13 (some 39) rfl rfl (by kernel_rfl) (by kernel_rfl) (by kernel_rfl) (fun _ _ _ h => h) (by kernel_rfl) (fun _ _ => rfl) ?_
  simp only [Act.put, List.setIfInBounds_toArray, List.set_cons_zero, List.set_cons_succ]
  refine AnyS.pure 14 (some 40) rfl rfl (by kernel_rfl) (by kernel_rfl) (by kernel_rfl) (fun _ _ _ h => h) (by kernel_rfl) (fun _ _ => rfl) ?_
  refine AnyS.pure 15 (some 41) (v := .int .i64 1) rfl rfl (by kernel_rfl) (by kernel_rfl) (by kernel_rfl) (fun _ _ _ h => h) (by kernel_rfl) (fun V _ => by go_simp) ?_
  refine AnyS.pure 16 (some 42) (v := .bool true) rfl rfl (by kernel_rfl) (by kernel_rfl) (by kernel_rfl) (fun _ _ _ h => h) (by kernel_rfl) (fun V _ => by go_simp) ?_
  refine AnyS.pure 17 (some 43) (v := .bool true) rfl rfl (by kernel_rfl) (by kernel_rfl) (by kernel_rfl) (fun _ _ _ h => h) (by kernel_rfl) (fun V _ => by go_simp) ?_
  refine AnyS.pure 18 (some 44) rfl rfl (by kernel_rfl) (by kernel_rfl) (by kernel_rfl) (fun _ _ _ h => h) (by kernel_rfl) (fun _ _ => rfl) ?_
  refine AnyS.pure 19 (some 45) rfl rfl (by kernel_rfl) (by kernel_rfl) (by kernel_rfl) (fun _ _ _ h => h) (by kernel_rfl) (fun _ _ => rfl) ?_
  refine AnyS.pure 20 (some 46) (v := .pointer (some ⟨gl, off, none⟩)) rfl rfl (by kernel_rfl) (by kernel_rfl) (by kernel_rfl) (fun _ _ _ h => h) (by kernel_rfl) (fun V _ => by go_simp) ?_
  simp only [Act.put, List.setIfInBounds_toArray, List.set_cons_zero, List.set_cons_succ]
  refine AnyS.pure 21 (some 47) (v := .agg (cellsOf AB)) rfl rfl (by kernel_rfl) (by kernel_rfl) (by kernel_rfl) (fun _ _ _ h => h) (by kernel_rfl) (fun V hV => exec_load 32 (.tmp 46) rfl (.pointer (some ⟨gl, off, none⟩)) (by kernel_rfl) (run_loadAt_mid V gl off 32 (AB.map byteV) _ (hV.rg) Tryd.underlying32 rfl (by rw [List.length_map, HL.out.2]; kernel_rfl))) ?_
  refine AnyS.pure 22 (some 48) (v := .agg (cellsOf AB)) rfl rfl (by kernel_rfl) (by kernel_rfl) (by kernel_rfl) (fun _ _ _ h => h) (by kernel_rfl) (fun V hV => exec_load 32 (.tmp 2) rfl (.pointer (some ⟨g2, 0, none⟩)) (by kernel_rfl) (run_loadAt_mid V g2 0 32 (AB.map byteV) _ (Has.range hV.s2) Tryd.underlying32 rfl (by rw [List.length_map, HL.out.2]; kernel_rfl))) ?_
  simp only [Act.put, List.setIfInBounds_toArray, List.set_cons_zero, List.set_cons_succ]
  refine AnyS.pure 23 (some 49) (v := .bool true) rfl rfl (by kernel_rfl) (by kernel_rfl) (by kernel_rfl) (fun _ _ _ h => h) (by kernel_rfl) (fun V _ => by have he := run_equal_same AB HL.out.2 V; go_simp) ?_
  refine AnyS.pure 24 (some 50) (v := .bool true) rfl rfl (by kernel_rfl) (by kernel_rfl) (by kernel_rfl) (fun _ _ _ h => h) (by kernel_rfl) (fun V _ => by go_simp) ?_
  refine AnyS.pure 25 (some 51) rfl rfl (by kernel_rfl) (by kernel_rfl) (by kernel_rfl) (fun _ _ _ h => h) (by kernel_rfl) (fun _ _ => rfl) ?_
  refine AnyS.pure 26 (some 52) rfl rfl (by kernel_rfl) (by kernel_rfl) (by kernel_rfl) (fun _ _ _ h => h) (by kernel_rfl) (fun _ _ => rfl) ?_
  refine AnyS.call 27 (some 53) (.int .i64 3) rfl rfl (by kernel_rfl) (by kernel_rfl) (by kernel_rfl) (fun _ _ _ h => h) (by kernel_rfl) 15 Tryd.f15 Tryd.func15 (by kernel_rfl) (by kernel_rfl) _ _ rfl #[.pointer (some ⟨b, 0, none⟩)] (by first | (simp [Act.eval]; done) | (simp [Act.eval, Act.put]; done)) (fun V hV => hV.tr.len_calls.mono (fun _ _ h => ⟨h.1, h.2 ▸ hV⟩)) ?_
  simp only [Act.put, List.setIfInBounds_toArray, List.set_cons_zero, List.set_cons_succ]
  refine AnyS.pure 28 (some 54) (v := .bool true) rfl rfl (by kernel_rfl) (by kernel_rfl) (by kernel_rfl) (fun _ _ _ h => h) (by kernel_rfl) (fun V _ => by go_simp) ?_
  refine AnyS.pure 29 (some 55) (v := .bool true) rfl rfl (by kernel_rfl) (by kernel_rfl) (by kernel_rfl) (fun _ _ _ h => h) (by kernel_rfl) (fun V _ => by go_simp) ?_
  refine AnyS.pure 30 (some 0) rfl rfl (by kernel_rfl) (by kernel_rfl) (by kernel_rfl) (fun _ _ _ h => h) (by kernel_rfl) (fun _ _ => rfl) ?_
  refine AnyS.done (by kernel_rfl) (fun V hV => ?_) _
  have HB := Lib.hid hV.bel
  clear hV
  go_wp2_with fail
  go_ret
  exact ⟨rfl, HB.out⟩
end Go.Proofs.YtiobdhkadbipkaaDoor.dig
end

section
/- append(s, l...) of two slices that lie anywhere, l may be empty: what comes of it. Of no program. -/
namespace Go.Proofs.YtiobdhkadbipkaaDoor
open Go.RowKit

/-- A slice that is not nil. -/
def Thick (v : Value) (n : Nat) : Prop := ∃ g off c, v = .slice (some ⟨g, off, none⟩) n c

theorem own_of {g off n c b : Nat} (h : (Value.slice (some ⟨g, off, none⟩) n c).ownBlock = some b) : g = b := by
  have h' : some g = some b := h
  exact Option.some.inj h'

section
variable {w : World} {e : TypeId} {size n : Nat} {v : Value} {xs : List Value}

theorem Seg.news {g off c : Nat} (h : Seg w e size (.slice (some ⟨g, off, none⟩) n c) n xs) : ∀ j u, xs[j]? = some u → w.cell? ((⟨g, off, none⟩ : Addr).add j) = some u := by
  intro j u hj
  have ha : (⟨g, off, none⟩ : Addr).add j = ⟨g, off + j, none⟩ := by unfold Addr.add; split <;> simp_all
  rw [ha]
  by_cases hn : 0 < n
  · obtain ⟨g', off', c', hv, _, _, _, hc⟩ := h.cells hn
    simp only [Value.slice.injEq, Option.some.injEq, Addr.mk.injEq, and_true, true_and] at hv
    obtain ⟨⟨rfl, rfl⟩, rfl⟩ := hv
    exact hc j u hj
  · obtain rfl : n = 0 := by omega
    have hx : xs = [] := List.eq_nil_of_length_eq_zero (by simpa using h.1)
    rw [hx] at hj
    cases hj

/-- An empty slice that was just made. -/
theorem Seg.empty {g : Nat} (h : w.heap[g]? = some (.cells #[] e (0, 0))) : Seg w e size (.slice (some ⟨g, 0, none⟩) 0 0) 0 [] :=
  ⟨by simp, .inr ⟨g, 0, 0, #[], rfl, h, Nat.le_refl _, Nat.zero_le _, by simp, by simp⟩⟩

theorem Has.made1 (w : World) (o : Obj) (t : TypeId) (cs : Array Value) : Has ((w.alloc o).alloc (.cells cs t)) (w.heap.size + 1) t cs := by
  have h := Has.made (w.alloc o) t cs
  have e : (w.alloc o).heap.size = w.heap.size + 1 := by simp
  rw [e] at h
  exact h
theorem Seg.empty1 (w : World) (o : Obj) (e : TypeId) (size : Nat) : Seg ((w.alloc o).alloc (.cells #[] e)) e size (.slice (some ⟨w.heap.size + 1, 0, none⟩) 0 0) 0 [] :=
  Seg.empty (Has.made1 w o e #[])

/-- A slice that was just made of all that it holds. -/
theorem Seg.whole {g m : Nat} {cs : Array Value} (h : w.heap[g]? = some (.cells cs e (0, 0))) (hl : cs.size = m * size) (hm : m ≤ maxLen) : Seg w e size (.slice (some ⟨g, 0, none⟩) m m) m cs.toList :=
  ⟨by simpa using hl, .inr ⟨g, 0, m, cs, rfl, h, Nat.le_refl _, hm, by omega, by rw [List.drop_zero, ← hl, ← Array.length_toList, List.take_length]⟩⟩
end

section
variable {P : Program} (w : World)

theorem run_append_all (t ty : TypeId) (e : TypeId) (i : TypeInfo) (z : Value) (size bytes : Nat) (ht : P.underlying t = some (.slice e)) (hi : P.info? e = some i) (hz : i.zero = some z)
    (hsize : i.size = size) (hby : i.bytes = bytes) (hzs : z.cells.size = size) (hsz : 0 < size)
    (v : Value) (n : Nat) (xs : List Value) (hown : Seg w e size v n xs) (hv : Thick v n)
    (x : Value) (m : Nat) (news : List Value) (hx : Seg w e size x m news) (hxt : Thick x m) (h1 : ∀ u ∈ news, u.oneCell' = true)
    (h63 : n + m ≤ maxLen) (hbytes : (n + m) * bytes ≤ 140737488355328) :
    ∃ y w', (Builtin.append_ #[t, t] ty #[v, x]).run P w = .ok y w' ∧ Thick y (n + m) ∧
      Seg w' e size y (n + m) (xs ++ news) ∧ w.grownBy w' v.ownBlock ∧ (∀ b, y.ownBlock = some b → v.ownBlock = some b ∨ b = w.heap.size) := by
  obtain ⟨gx, ox, cx, rfl⟩ := hxt
  by_cases hm : 0 < m
  · obtain ⟨g, off, cap, w', hr, h2, h3, h4, h5⟩ := run_append_seg (P := P) w t ty e i z size bytes ht hi hz hsize hby hzs hsz v n xs hown ⟨gx, ox, none⟩ m cx news hx.1 hx.news h1 hm h63 hbytes _ rfl
    refine ⟨_, w', hr, ⟨g, off, cap, rfl⟩, h2, h3, fun b hb => ?_⟩
    injection hb with hb
    subst hb
    exact h4
  · obtain rfl : m = 0 := by omega
    obtain rfl : news = [] := List.eq_nil_of_length_eq_zero (by simpa using hx.1)
    obtain ⟨g, off, c, rfl⟩ := hv
    subst hsize
    rcases hown.2 with ⟨h0, _⟩ | ⟨g', off', cap, cur, h0, hg, hnc, hcm, hcs, htake⟩
    · cases h0
    · simp only [Value.slice.injEq, Option.some.injEq, Addr.mk.injEq, and_true, true_and] at h0
      obtain ⟨⟨rfl, rfl⟩, rfl⟩ := h0
      have hmul : n * i.size ≤ c * i.size := Nat.mul_le_mul_right _ hnc
      have hr := run_append_roomy (P := P) w t ty e i ht hi g off n c cur hg ⟨gx, ox, none⟩ 0 cx [] (by simp) (fun j u hj => by cases hj) (fun u hu => by cases hu) (by omega) (by simp; omega)
      refine ⟨_, _, hr, ⟨g, off, c, rfl⟩, ?_, ⟨rfl, rfl, rfl, by simp, fun k _ hk => setRow_other w g k _ (fun e => hk (by simp [Value.ownBlock, e]))⟩, fun b hb => .inl hb⟩
      have hcur : (cur.toList.take (off + n * i.size) ++ [] ++ cur.toList.drop (off + n * i.size + ([] : List Value).length)).toArray = cur := by
        simp
      rw [hcur]
      refine ⟨by rw [List.append_nil]; simpa using hown.1, .inr ⟨g, off, c, cur, rfl, setRow_heap w g cur _ e _ hg, hnc, hcm, hcs, ?_⟩⟩
      rw [List.append_nil, Nat.add_zero]
      exact htake

/-- At the operation. -/
theorem wp_append_all {o : Oper} {a : Act} {K : Act → World → Prop} {Q : Exit → Act → World → Prop} (s x : Operand) (t : TypeId)
    (ho : o.op = .call { callee := .builtin .append, args := #[s, x], argTypes := #[t, t] })
    (e : TypeId) (i : TypeInfo) (z : Value) (size bytes : Nat) (ht : P.underlying t = some (.slice e)) (hi : P.info? e = some i) (hz : i.zero = some z)
    (hsize : i.size = size) (hby : i.bytes = bytes) (hzs : z.cells.size = size) (hsz : 0 < size)
    (v : Value) (n : Nat) (xs : List Value) (hs : a.eval s = v) (hown : Seg w e size v n xs) (hv : Thick v n)
    (y : Value) (m : Nat) (news : List Value) (hx : a.eval x = y) (hnew : Seg w e size y m news) (hy : Thick y m) (h1 : ∀ u ∈ news, u.oneCell' = true)
    (h63 : n + m ≤ maxLen) (hbytes : (n + m) * bytes ≤ 140737488355328)
    (h : ∀ r w', Thick r (n + m) → Seg w' e size r (n + m) (xs ++ news) → w.grownBy w' v.ownBlock → (∀ b, r.ownBlock = some b → v.ownBlock = some b ∨ b = w.heap.size) → K (a.put o.dst r) w') : o.wp P a w K Q := by
  obtain ⟨r, w', hr, h2, h3, h4, h5⟩ := run_append_all (P := P) w t o.type e i z size bytes ht hi hz hsize hby hzs hsz v n xs hown hv y m news hnew hy h1 h63 hbytes
  unfold Oper.wp execOp
  simp only [ho, resolve, invoke, builtin, Sem.run_bind, Sem.run_pure, Result.andThen_ok, List.map_toArray, List.map_cons, List.map_nil, hs, hx, hr]
  exact h r w' h2 h3 h4 h5

/-- At the list of a plain region's operations. -/
theorem wpList_append_all {ops : Array Oper} {rest : List Oper} {o : Oper} {a : Act} {Q : Exit → Act → World → Prop} (hgd : o.guard = none) (s x : Operand) (t : TypeId)
    (ho : o.op = .call { callee := .builtin .append, args := #[s, x], argTypes := #[t, t] })
    (e : TypeId) (i : TypeInfo) (z : Value) (size bytes : Nat) (ht : P.underlying t = some (.slice e)) (hi : P.info? e = some i) (hz : i.zero = some z)
    (hsize : i.size = size) (hby : i.bytes = bytes) (hzs : z.cells.size = size) (hsz : 0 < size)
    (v : Value) (n : Nat) (xs : List Value) (hs : a.eval s = v) (hown : Seg w e size v n xs) (hv : Thick v n)
    (y : Value) (m : Nat) (news : List Value) (hx : a.eval x = y) (hnew : Seg w e size y m news) (hy : Thick y m) (h1 : ∀ u ∈ news, u.oneCell' = true)
    (h63 : n + m ≤ maxLen) (hbytes : (n + m) * bytes ≤ 140737488355328)
    (h : ∀ r w', Thick r (n + m) → Seg w' e size r (n + m) (xs ++ news) → w.grownBy w' v.ownBlock → (∀ b, r.ownBlock = some b → v.ownBlock = some b ∨ b = w.heap.size) → wpList P ops Q rest (a.put o.dst r) w') : wpList P ops Q (o :: rest) a w :=
  wpList_plain hgd fun _ hK => wp_append_all w s x t ho e i z size bytes ht hi hz hsize hby hzs hsz v n xs hs hown hv y m news hx hnew hy h1 h63 hbytes fun r w' h2 h3 h4 h5 => hK _ _ (h r w' h2 h3 h4 h5)

/-- At a step of a region that draws its order. -/
theorem step_append_all {ops : Array Oper} {o : Oper} {a : Act} {K : Act → World → Prop} {Q : Exit → Act → World → Prop} {E : Prop} (hgd : o.guard = none) (s x : Operand) (t : TypeId)
    (ho : o.op = .call { callee := .builtin .append, args := #[s, x], argTypes := #[t, t] })
    (e : TypeId) (i : TypeInfo) (z : Value) (size bytes : Nat) (ht : P.underlying t = some (.slice e)) (hi : P.info? e = some i) (hz : i.zero = some z)
    (hsize : i.size = size) (hby : i.bytes = bytes) (hzs : z.cells.size = size) (hsz : 0 < size)
    (v : Value) (n : Nat) (xs : List Value) (hs : a.eval s = v) (hown : Seg w e size v n xs) (hv : Thick v n)
    (y : Value) (m : Nat) (news : List Value) (hx : a.eval x = y) (hnew : Seg w e size y m news) (hy : Thick y m) (h1 : ∀ u ∈ news, u.oneCell' = true)
    (h63 : n + m ≤ maxLen) (hbytes : (n + m) * bytes ≤ 140737488355328)
    (h : ∀ r w', Thick r (n + m) → Seg w' e size r (n + m) (xs ++ news) → w.grownBy w' v.ownBlock → (∀ b, r.ownBlock = some b → v.ownBlock = some b ∨ b = w.heap.size) → K (a.put o.dst r) w') :
    if Region.wanted o (yielded ops a.tmps) = true then Oper.wp P o a w K Q else E := by
  have hw : Region.wanted o (yielded ops a.tmps) = true := by simp [Region.wanted, hgd]
  rw [if_pos hw]
  exact wp_append_all w s x t ho e i z size bytes ht hi hz hsize hby hzs hsz v n xs hs hown hv y m news hx hnew hy h1 h63 hbytes h
end
end Go.Proofs.YtiobdhkadbipkaaDoor
end

section
/- append(s, l...) of two slices that lie anywhere, l may be empty or nil: what comes of it. Of no program. -/
namespace Go.Proofs.YtiobdhkadbipkaaDoor
open Go.RowKit

section
variable {P : Program} (w : World)

theorem run_append_nil (t ty e : TypeId) (i : TypeInfo) (ht : P.underlying t = some (.slice e)) (hi : P.info? e = some i) (g off n c : Nat) (hn : n ≤ c) :
    (Builtin.append_ #[t, t] ty #[.slice (some ⟨g, off, none⟩) n c, .slice none 0 0]).run P w = .ok (.slice (some ⟨g, off, none⟩) n c) w := by
  simp [Builtin.append_, run_underlying ht, sizeOf, typeInfo, hi, Builtin.lenOf, hn, Builtin.firstCells, storeCells]

theorem run_append_any (t ty : TypeId) (e : TypeId) (i : TypeInfo) (z : Value) (size bytes : Nat) (ht : P.underlying t = some (.slice e)) (hi : P.info? e = some i) (hz : i.zero = some z)
    (hsize : i.size = size) (hby : i.bytes = bytes) (hzs : z.cells.size = size) (hsz : 0 < size)
    (v : Value) (n : Nat) (xs : List Value) (hown : Seg w e size v n xs) (hv : Thick v n)
    (x : Value) (m : Nat) (news : List Value) (hx : Seg w e size x m news) (hxt : Thick x m ∨ x = .slice none 0 0) (h1 : ∀ u ∈ news, u.oneCell' = true)
    (h63 : n + m ≤ maxLen) (hbytes : (n + m) * bytes ≤ 140737488355328) :
    ∃ y w', (Builtin.append_ #[t, t] ty #[v, x]).run P w = .ok y w' ∧ Thick y (n + m) ∧
      Seg w' e size y (n + m) (xs ++ news) ∧ w.grownBy w' v.ownBlock ∧ (∀ b, y.ownBlock = some b → v.ownBlock = some b ∨ b = w.heap.size) := by
  rcases hxt with hxt | rfl
  · exact run_append_all w t ty e i z size bytes ht hi hz hsize hby hzs hsz v n xs hown hv x m news hx hxt h1 h63 hbytes
  · obtain ⟨rfl, rfl⟩ : m = 0 ∧ news = [] := by
      rcases hx.2 with ⟨_, h2⟩ | ⟨g, off, cap, cur, h0, _⟩
      · exact ⟨h2, List.eq_nil_of_length_eq_zero (by rw [hx.1, h2, Nat.zero_mul])⟩
      · cases h0
    obtain ⟨g, off, c, rfl⟩ := hv
    have hnc : n ≤ c := by
      rcases hown.2 with ⟨h0, _⟩ | ⟨g', off', cap, cur, h0, hg, hnc, _⟩
      · cases h0
      · simp only [Value.slice.injEq, Option.some.injEq, Addr.mk.injEq, and_true, true_and] at h0
        obtain ⟨_, rfl⟩ := h0
        exact hnc
    exact ⟨_, w, run_append_nil w t ty e i ht hi g off n c hnc, ⟨g, off, c, rfl⟩, by rw [List.append_nil]; exact hown, ⟨rfl, rfl, rfl, Nat.le_refl _, fun _ _ _ => rfl⟩, fun b hb => .inl hb⟩

/-- At the operation. -/
theorem wp_append_any {o : Oper} {a : Act} {K : Act → World → Prop} {Q : Exit → Act → World → Prop} (s x : Operand) (t : TypeId)
    (ho : o.op = .call { callee := .builtin .append, args := #[s, x], argTypes := #[t, t] })
    (e : TypeId) (i : TypeInfo) (z : Value) (size bytes : Nat) (ht : P.underlying t = some (.slice e)) (hi : P.info? e = some i) (hz : i.zero = some z)
    (hsize : i.size = size) (hby : i.bytes = bytes) (hzs : z.cells.size = size) (hsz : 0 < size)
    (v : Value) (n : Nat) (xs : List Value) (hs : a.eval s = v) (hown : Seg w e size v n xs) (hv : Thick v n)
    (y : Value) (m : Nat) (news : List Value) (hx : a.eval x = y) (hnew : Seg w e size y m news) (hy : Thick y m ∨ y = .slice none 0 0) (h1 : ∀ u ∈ news, u.oneCell' = true)
    (h63 : n + m ≤ maxLen) (hbytes : (n + m) * bytes ≤ 140737488355328)
    (h : ∀ r w', Thick r (n + m) → Seg w' e size r (n + m) (xs ++ news) → w.grownBy w' v.ownBlock → (∀ b, r.ownBlock = some b → v.ownBlock = some b ∨ b = w.heap.size) → K (a.put o.dst r) w') : o.wp P a w K Q := by
  obtain ⟨r, w', hr, h2, h3, h4, h5⟩ := run_append_any (P := P) w t o.type e i z size bytes ht hi hz hsize hby hzs hsz v n xs hown hv y m news hnew hy h1 h63 hbytes
  unfold Oper.wp execOp
  simp only [ho, resolve, invoke, builtin, Sem.run_bind, Sem.run_pure, Result.andThen_ok, List.map_toArray, List.map_cons, List.map_nil, hs, hx, hr]
  exact h r w' h2 h3 h4 h5

/-- At the list of a plain region's operations. -/
theorem wpList_append_any {ops : Array Oper} {rest : List Oper} {o : Oper} {a : Act} {Q : Exit → Act → World → Prop} (hgd : o.guard = none) (s x : Operand) (t : TypeId)
    (ho : o.op = .call { callee := .builtin .append, args := #[s, x], argTypes := #[t, t] })
    (e : TypeId) (i : TypeInfo) (z : Value) (size bytes : Nat) (ht : P.underlying t = some (.slice e)) (hi : P.info? e = some i) (hz : i.zero = some z)
    (hsize : i.size = size) (hby : i.bytes = bytes) (hzs : z.cells.size = size) (hsz : 0 < size)
    (v : Value) (n : Nat) (xs : List Value) (hs : a.eval s = v) (hown : Seg w e size v n xs) (hv : Thick v n)
    (y : Value) (m : Nat) (news : List Value) (hx : a.eval x = y) (hnew : Seg w e size y m news) (hy : Thick y m ∨ y = .slice none 0 0) (h1 : ∀ u ∈ news, u.oneCell' = true)
    (h63 : n + m ≤ maxLen) (hbytes : (n + m) * bytes ≤ 140737488355328)
    (h : ∀ r w', Thick r (n + m) → Seg w' e size r (n + m) (xs ++ news) → w.grownBy w' v.ownBlock → (∀ b, r.ownBlock = some b → v.ownBlock = some b ∨ b = w.heap.size) → wpList P ops Q rest (a.put o.dst r) w') : wpList P ops Q (o :: rest) a w :=
  wpList_plain hgd fun _ hK => wp_append_any w s x t ho e i z size bytes ht hi hz hsize hby hzs hsz v n xs hs hown hv y m news hx hnew hy h1 h63 hbytes fun r w' h2 h3 h4 h5 => hK _ _ (h r w' h2 h3 h4 h5)

/-- At a step of a region that draws its order. -/
theorem step_append_any {ops : Array Oper} {o : Oper} {a : Act} {K : Act → World → Prop} {Q : Exit → Act → World → Prop} {E : Prop} (hgd : o.guard = none) (s x : Operand) (t : TypeId)
    (ho : o.op = .call { callee := .builtin .append, args := #[s, x], argTypes := #[t, t] })
    (e : TypeId) (i : TypeInfo) (z : Value) (size bytes : Nat) (ht : P.underlying t = some (.slice e)) (hi : P.info? e = some i) (hz : i.zero = some z)
    (hsize : i.size = size) (hby : i.bytes = bytes) (hzs : z.cells.size = size) (hsz : 0 < size)
    (v : Value) (n : Nat) (xs : List Value) (hs : a.eval s = v) (hown : Seg w e size v n xs) (hv : Thick v n)
    (y : Value) (m : Nat) (news : List Value) (hx : a.eval x = y) (hnew : Seg w e size y m news) (hy : Thick y m ∨ y = .slice none 0 0) (h1 : ∀ u ∈ news, u.oneCell' = true)
    (h63 : n + m ≤ maxLen) (hbytes : (n + m) * bytes ≤ 140737488355328)
    (h : ∀ r w', Thick r (n + m) → Seg w' e size r (n + m) (xs ++ news) → w.grownBy w' v.ownBlock → (∀ b, r.ownBlock = some b → v.ownBlock = some b ∨ b = w.heap.size) → K (a.put o.dst r) w') :
    if Region.wanted o (yielded ops a.tmps) = true then Oper.wp P o a w K Q else E := by
  have hw : Region.wanted o (yielded ops a.tmps) = true := by simp [Region.wanted, hgd]
  rw [if_pos hw]
  exact wp_append_any w s x t ho e i z size bytes ht hi hz hsize hby hzs hsz v n xs hs hown hv y m news hx hnew hy h1 h63 hbytes h
end
end Go.Proofs.YtiobdhkadbipkaaDoor
end

section
/- clear(s[i:j]) of a slice that lies anywhere; append([]T(nil), l...): what comes of them. Of no program. -/
namespace Go.Proofs.YtiobdhkadbipkaaDoor
open Go Go.RowKit

/-- The cells of k elements that are zero. -/
def zeroC (z : Array Value) (k : Nat) : List Value := (Builtin.zeroCells z k).toList
theorem zeroC_len (z : Array Value) (k : Nat) : (zeroC z k).length = k * z.size := by simp [zeroC, Builtin.zeroCells]

section
variable {P : Program} (w : World)

theorem run_clear_seg (t ty e : TypeId) (z : Value) (size : Nat) (ht : P.underlying t = some (.slice e)) (hv : ∀ w, (zeroValue e).run P w = .ok z w) (hzs : z.cells.size = size) (h1 : ∀ u ∈ z.cells, u.oneCell' = true)
    (g off n c : Nat) (xs : List Value) (h : Seg w e size (.slice (some ⟨g, off, none⟩) n c) n xs) (i k c' : Nat) (hik : i + k ≤ n) :
    ∃ w', (Builtin.clear_ #[t] ty #[.slice (some ⟨g, off + i * size, none⟩) k c']).run P w = .ok (.tuple #[]) w' ∧
      Seg w' e size (.slice (some ⟨g, off, none⟩) n c) n (xs.take (i * size) ++ zeroC z.cells k ++ xs.drop ((i + k) * size)) ∧ w.grownBy w' (some g) := by
  rcases h.2 with ⟨h0, _⟩ | ⟨g', off', cap, cur, h0, hg, hnc, hcm, hcs, hx⟩
  · cases h0
  simp only [Value.slice.injEq, Option.some.injEq, Addr.mk.injEq, and_true, true_and] at h0
  obtain ⟨⟨rfl, rfl⟩, rfl⟩ := h0
  have hlen := h.1
  by_cases hk : k = 0
  · subst hk
    refine ⟨w, by simp [Builtin.clear_, run_underlying ht], ?_, rfl, rfl, rfl, Nat.le_refl _, fun _ _ _ => rfl⟩
    rw [show zeroC z.cells 0 = [] from List.eq_nil_of_length_eq_zero (by rw [zeroC_len, Nat.zero_mul]), List.append_nil, Nat.add_zero, List.take_append_drop]
    exact h
  have e1 : (i + k) * size = i * size + k * size := Nat.add_mul _ _ _
  have e2 : (i + k) * size ≤ n * size := Nat.mul_le_mul_right _ hik
  have e3 : n * size ≤ c * size := Nat.mul_le_mul_right _ hnc
  have hzl : (zeroC z.cells k).length = k * size := by rw [zeroC_len, hzs]
  have hz1 : ∀ u ∈ zeroC z.cells k, u.oneCell' = true := by
    intro u hu
    unfold zeroC at hu
    rw [Array.mem_toList_iff] at hu
    unfold Builtin.zeroCells at hu
    obtain ⟨j, hj0, rfl⟩ := Array.mem_map.1 hu
    have hs : 0 < z.cells.size := by
      have := Array.mem_range.1 hj0
      rcases Nat.eq_zero_or_pos z.cells.size with hs | hs
      · rw [hs] at this; omega
      · exact hs
    have hj : j % z.cells.size < z.cells.size := Nat.mod_lt _ hs
    rw [getElem!_pos z.cells (j % z.cells.size) hj]
    exact h1 _ (Array.getElem_mem hj)
  have hst := run_storeCells_at P g (off + i * size) e (zeroC z.cells k) 0 cur w hg (by rw [hzl]; omega) hz1
  simp only [Nat.add_zero] at hst
  obtain ⟨m, rfl⟩ : ∃ m, k = m + 1 := ⟨k - 1, by omega⟩
  refine ⟨w.setRow g (cur.toList.take (off + i * size) ++ zeroC z.cells (m + 1) ++ cur.toList.drop (off + i * size + (zeroC z.cells (m + 1)).length)).toArray, ?_, ⟨?_, .inr ⟨g, off, c, _, rfl, setRow_heap w g cur _ e _ hg, hnc, hcm, ?_, ?_⟩⟩, rfl, rfl, rfl, by simp, fun b _ hb => setRow_other w g b _ (fun e => hb (by rw [e]))⟩
  · simp only [Builtin.clear_]
    simp [run_underlying ht, hv, zeroC] at hst ⊢
    simp [hst]
  · simp only [List.length_append, List.length_take, List.length_drop, hlen, hzl]
    omega
  · simp only [List.size_toArray, List.length_append, List.length_take, List.length_drop, Array.length_toList, hzl]
    omega
  · have e4 : (cur.toList.take (off + i * size)).drop off = xs.take (i * size) := by
      rw [List.drop_take, ← hx, List.take_take]
      congr 1
      omega
    have e5 : off ≤ (cur.toList.take (off + i * size)).length := by simp only [List.length_take, Array.length_toList]; omega
    show (List.drop off (cur.toList.take (off + i * size) ++ zeroC z.cells (m + 1) ++ cur.toList.drop (off + i * size + (zeroC z.cells (m + 1)).length))).take _ = _
    have e6 : xs.drop ((i + (m + 1)) * size) = (cur.toList.drop (off + i * size + (zeroC z.cells (m + 1)).length)).take (n * size - (i + (m + 1)) * size) := by
      rw [← hx, List.drop_take, List.drop_drop, hzl]
      congr 2
      omega
    rw [List.append_assoc, List.drop_append_of_le_length e5, e4, e6, ← List.append_assoc, List.take_append, List.take_of_length_le]
    · congr 2
      simp only [List.length_append, List.length_take, hlen, hzl]
      omega
    · simp only [List.length_append, List.length_take, hlen, hzl]
      omega

/-- append([]T(nil), l...): the same elsewhere, or nothing. -/
theorem run_append_new (t ty : TypeId) (e : TypeId) (i : TypeInfo) (z : Value) (size bytes : Nat) (ht : P.underlying t = some (.slice e)) (hi : P.info? e = some i) (hz : i.zero = some z)
    (hsize : i.size = size) (hby : i.bytes = bytes) (hzs : z.cells.size = size) (hsz : 0 < size)
    (x : Value) (m : Nat) (news : List Value) (hx : Seg w e size x m news) (h1 : ∀ u ∈ news, u.oneCell' = true)
    (h63 : m ≤ maxLen) (hbytes : m * bytes ≤ 140737488355328) :
    ∃ y w', (Builtin.append_ #[t, t] ty #[.slice none 0 0, x]).run P w = .ok y w' ∧
      Seg w' e size y m news ∧ Below w.heap.size w w' ∧ (∀ b, y.ownBlock = some b → w.heap.size ≤ b) := by
  by_cases hm : 0 < m
  · obtain ⟨gx, ox, cx, rfl, _⟩ := hx.cells hm
    obtain ⟨g, off, cap, w', hr, h2, h3, h4, h5⟩ := run_append_seg (P := P) w t ty e i z size bytes ht hi hz hsize hby hzs hsz (.slice none 0 0) 0 [] (Seg.nil w e size) ⟨gx, ox, none⟩ m cx news hx.1 hx.news h1 hm (by omega) (by rw [Nat.zero_add]; exact hbytes) _ rfl
    rw [Nat.zero_add, List.nil_append] at h2
    rw [Nat.zero_add] at hr
    refine ⟨_, w', hr, h2, ⟨h3.os, h3.tape, h3.output, h3.size, fun k hk => h3.block k hk (by intro e; cases e)⟩, fun b hb => ?_⟩
    injection hb with hb
    subst hb
    rcases h4 with h4 | h4
    · cases h4
    · exact Nat.le_of_eq h4.symm
  · obtain rfl : m = 0 := by omega
    obtain rfl : news = [] := List.eq_nil_of_length_eq_zero (by rw [hx.1, Nat.zero_mul])
    subst hsize
    refine ⟨.slice none 0 0, w, ?_, Seg.nil w e _, Below.refl _ _, fun b hb => by cases hb⟩
    rcases hx.2 with ⟨rfl, _⟩ | ⟨g, off, cap, cur, rfl, _⟩ <;> simp [Builtin.append_, run_underlying ht, sizeOf, typeInfo, hi, Builtin.lenOf, Builtin.firstCells, loadCells, loadCellsFrom, Result.andThen]

/-- At the list of a plain region's operations. -/
theorem wpList_append_new {ops : Array Oper} {rest : List Oper} {o : Oper} {a : Act} {Q : Exit → Act → World → Prop} (hgd : o.guard = none) (s x : Operand) (t : TypeId)
    (ho : o.op = .call { callee := .builtin .append, args := #[s, x], argTypes := #[t, t] })
    (e : TypeId) (i : TypeInfo) (z : Value) (size bytes : Nat) (ht : P.underlying t = some (.slice e)) (hi : P.info? e = some i) (hz : i.zero = some z)
    (hsize : i.size = size) (hby : i.bytes = bytes) (hzs : z.cells.size = size) (hsz : 0 < size) (hs : a.eval s = .slice none 0 0)
    (y : Value) (m : Nat) (news : List Value) (hx : a.eval x = y) (hnew : Seg w e size y m news) (h1 : ∀ u ∈ news, u.oneCell' = true)
    (h63 : m ≤ maxLen) (hbytes : m * bytes ≤ 140737488355328)
    (h : ∀ r w', Seg w' e size r m news → Below w.heap.size w w' → (∀ b, r.ownBlock = some b → w.heap.size ≤ b) → wpList P ops Q rest (a.put o.dst r) w') : wpList P ops Q (o :: rest) a w :=
  wpList_plain hgd fun K hK => by
    obtain ⟨r, w', hr, h2, h3, h4⟩ := run_append_new (P := P) w t o.type e i z size bytes ht hi hz hsize hby hzs hsz y m news hnew h1 h63 hbytes
    unfold Oper.wp execOp
    simp only [ho, resolve, invoke, builtin, Sem.run_bind, Sem.run_pure, Result.andThen_ok, List.map_toArray, List.map_cons, List.map_nil, hs, hx, hr]
    exact hK _ _ (h r w' h2 h3 h4)

/-- clear, at the list of a plain region's operations. -/
theorem wpList_clear_seg {ops : Array Oper} {rest : List Oper} {o : Oper} {a : Act} {Q : Exit → Act → World → Prop} (hgd : o.guard = none) (s : Operand) (t : TypeId)
    (ho : o.op = .call { callee := .builtin .clear, args := #[s], argTypes := #[t] })
    (e : TypeId) (z : Value) (size : Nat) (ht : P.underlying t = some (.slice e)) (hv : ∀ w, (zeroValue e).run P w = .ok z w) (hzs : z.cells.size = size) (h1 : ∀ u ∈ z.cells, u.oneCell' = true)
    (g off n c : Nat) (xs : List Value) (hs : Seg w e size (.slice (some ⟨g, off, none⟩) n c) n xs) (i k c' : Nat) (hik : i + k ≤ n) (he : a.eval s = .slice (some ⟨g, off + i * size, none⟩) k c')
    (h : ∀ w', Seg w' e size (.slice (some ⟨g, off, none⟩) n c) n (xs.take (i * size) ++ zeroC z.cells k ++ xs.drop ((i + k) * size)) → w.grownBy w' (some g) → wpList P ops Q rest (a.put o.dst (.tuple #[])) w') : wpList P ops Q (o :: rest) a w :=
  wpList_plain hgd fun K hK => by
    obtain ⟨w', hr, h2, h3⟩ := run_clear_seg (P := P) w t o.type e z size ht hv hzs h1 g off n c xs hs i k c' hik
    unfold Oper.wp execOp
    simp only [ho, resolve, invoke, builtin, Sem.run_bind, Sem.run_pure, Result.andThen_ok, List.map_toArray, List.map_cons, List.map_nil, he, hr]
    exact hK _ _ (h w' h2 h3)

/-- clear of a slice that is nil. -/
theorem wpList_clear_nil {ops : Array Oper} {rest : List Oper} {o : Oper} {a : Act} {Q : Exit → Act → World → Prop} (hgd : o.guard = none) (s : Operand) (t e : TypeId)
    (ho : o.op = .call { callee := .builtin .clear, args := #[s], argTypes := #[t] }) (ht : P.underlying t = some (.slice e)) (he : a.eval s = .slice none 0 0)
    (h : wpList P ops Q rest (a.put o.dst (.tuple #[])) w) : wpList P ops Q (o :: rest) a w :=
  wpList_plain hgd fun K hK => by
    have hr : (Builtin.clear_ #[t] o.type #[.slice none 0 0]).run P w = .ok (.tuple #[]) w := by simp [Builtin.clear_, run_underlying ht]
    unfold Oper.wp execOp
    simp only [ho, resolve, invoke, builtin, Sem.run_bind, Sem.run_pure, Result.andThen_ok, List.map_toArray, List.map_cons, List.map_nil, he, hr]
    exact hK _ _ h
end
end Go.Proofs.YtiobdhkadbipkaaDoor
end

section
/- tree: copied; a row that forgets: what is kept. -/
namespace Go.Proofs.YtiobdhkadbipkaaDoor.dig
open Go Go.RowKit

/-- A function with one value changed. -/
def upd {α : Type} (g : Nat → α) (j : Nat) (x : α) : Nat → α := fun i => if i = j then x else g i
theorem upd_at {α : Type} (g : Nat → α) (j : Nat) (x : α) : upd g j x j = x := if_pos rfl
theorem upd_ne {α : Type} (g : Nat → α) {i j : Nat} (x : α) (h : i ≠ j) : upd g j x i = g i := if_neg h
theorem upd_self {α : Type} (g : Nat → α) (j : Nat) : upd g j (g j) = g := by
  funext i
  unfold upd
  by_cases h : i = j
  · rw [if_pos h, h]
  · rw [if_neg h]
theorem upd_upd {α : Type} (g : Nat → α) (j : Nat) (x y : α) : upd (upd g j x) j y = upd g j y := by
  funext i
  unfold upd
  by_cases h : i = j
  · rw [if_pos h, if_pos h]
  · rw [if_neg h, if_neg h, if_neg h]

theorem sum_one {f : Nat → List UInt8} {j a k : Nat} : ∀ u ∈ flat (nodeC f j) a k, u.oneCell' = true := by
  intro u hu
  unfold flat at hu
  obtain ⟨i, _, hi⟩ := List.mem_flatMap.1 hu
  refine byteV_one (rt f (i * 2 ^ j) (2 ^ j)) u ?_
  simpa [nodeC, cellsOf] using hi

section
variable {F : Nat → Prop} {w W W' : World} {b n fl K : Nat} {g c : Nat → Nat} {f : Nat → List UInt8} {rv : Value} {sv : Nat → Value} {idle : Nat → Nat}

/-- Row j is another one. -/
theorem Raw.recut (h : Raw F w b n fl K g c f rv sv idle) {R o cap j G idl : Nat} {v' : Value} (hrv : rv = .slice (some ⟨R, o, none⟩) K cap) (hj : j < K)
    (T : Turn (fun k => k = R ∨ (sv j).ownBlock = some k) w W')
    (hs : Seg W' 32 32 v' (c j - G) (flat (nodeC f j) G (c j - G)))
    (hat : ∀ x, v'.ownBlock = some x → (sv j).ownBlock = some x ∨ w.heap.size ≤ x)
    (hrows : Seg W' 73 3 rv K (flat (rowC (upd g j G) (upd sv j v') (upd idle j idl)) 0 K)) (hi : idl ≤ 1000000) :
    Raw (fun k => F k ∨ w.heap.size ≤ k) W' b n fl K (upd g j G) c f rv (upd sv j v') (upd idle j idl) := by
  have hR : rv.ownBlock = some R := by rw [hrv]; rfl
  have hbR : b ≠ R := fun e => h.rv_b (by rw [hR, e])
  refine ⟨?_, hrows, ?_, ?_, .inl h.fb, fun x hx => .inl (h.fr x hx), ?_, ?_⟩
  · exact h.tree.turn T (fun e => by
      rcases e with e | e
      · exact hbR e
      · exact h.sv_b hj e)
  · intro i hi
    by_cases hij : i = j
    · subst hij
      rw [upd_at, upd_at]
      exact hs
    · rw [upd_ne _ _ hij, upd_ne _ _ hij]
      exact (h.sums i hi).turn T (fun x hx e => by
        rcases e with e | e
        · exact h.rv_sv hi R hR (by rw [hx, e])
        · exact h.apart i j hi hj hij x hx e)
  · intro i1 i2 h1 h2 hne x hx
    by_cases e1 : i1 = j
    · subst e1
      rw [upd_at] at hx
      rw [upd_ne _ _ (fun e => hne e.symm)]
      intro e
      rcases hat x hx with hat | hat
      · exact h.apart i1 i2 h1 h2 hne x hat e
      · have := (h.sums i2 h2).lt e; omega
    · rw [upd_ne _ _ e1] at hx
      by_cases e2 : i2 = j
      · subst e2
        rw [upd_at]
        intro e
        rcases hat x e with hat | hat
        · exact h.apart i1 i2 h1 h2 hne x hx hat
        · have := (h.sums i1 h1).lt hx; omega
      · rw [upd_ne _ _ e2]
        exact h.apart i1 i2 h1 h2 hne x hx
  · intro i hi x hx
    by_cases e1 : i = j
    · subst e1
      rw [upd_at] at hx
      exact (hat x hx).imp (fun e => h.fs i hi _ e) id
    · rw [upd_ne _ _ e1] at hx
      exact .inl (h.fs i hi x hx)
  · intro i hi
    by_cases e1 : i = j
    · subst e1
      rw [upd_at]; assumption
    · rw [upd_ne _ _ e1]
      exact h.idle i hi

/-- The rows' block, where cells of row j are written. -/
theorem rows_set0 {R o cap j : Nat} (h : Seg w 73 3 (.slice (some ⟨R, o, none⟩) K cap) K (flat (rowC g sv idle) 0 K)) (hj : j < K) (G : Nat) :
    Seg (w.setCell ⟨R, o + j * 3, none⟩ (.int .i64 G)) 73 3 (.slice (some ⟨R, o, none⟩) K cap) K (flat (rowC (upd g j G) sv idle) 0 K) := by
  have h2 := h.put (j * 3 + 0) (.int .i64 G)
  rw [flat_set (fun i _ _ => rowC_len _ _ _ i) hj (by omega), Nat.add_zero] at h2
  have e : flat (fun i => if i = 0 + j then (rowC g sv idle i).set 0 (.int .i64 G) else rowC g sv idle i) 0 K = flat (rowC (upd g j G) sv idle) 0 K := by
    refine flat_congr fun i _ _ => ?_
    simp only [Nat.zero_add]
    by_cases hi : i = j
    · rw [if_pos hi]; simp [rowC, upd, hi]
    · rw [if_neg hi]; simp [rowC, upd, hi]
  rw [← e]
  exact h2
theorem rows_set1 {R o cap j : Nat} (h : Seg w 73 3 (.slice (some ⟨R, o, none⟩) K cap) K (flat (rowC g sv idle) 0 K)) (hj : j < K) (v : Value) :
    Seg (w.setCell ⟨R, o + j * 3 + 1, none⟩ v) 73 3 (.slice (some ⟨R, o, none⟩) K cap) K (flat (rowC g (upd sv j v) idle) 0 K) := by
  have h2 := h.put (j * 3 + 1) v
  rw [flat_set (fun i _ _ => rowC_len _ _ _ i) hj (by omega), ← Nat.add_assoc] at h2
  have e : flat (fun i => if i = 0 + j then (rowC g sv idle i).set 1 v else rowC g sv idle i) 0 K = flat (rowC g (upd sv j v) idle) 0 K := by
    refine flat_congr fun i _ _ => ?_
    simp only [Nat.zero_add]
    by_cases hi : i = j
    · rw [if_pos hi]; simp [rowC, upd, hi]
    · rw [if_neg hi]; simp [rowC, upd, hi]
  rw [← e]
  exact h2
theorem rows_set2 {R o cap j : Nat} (h : Seg w 73 3 (.slice (some ⟨R, o, none⟩) K cap) K (flat (rowC g sv idle) 0 K)) (hj : j < K) (d : Nat) :
    Seg (w.setCell ⟨R, o + j * 3 + 2, none⟩ (.int .i64 d)) 73 3 (.slice (some ⟨R, o, none⟩) K cap) K (flat (rowC g sv (upd idle j d)) 0 K) := by
  have h2 := h.put (j * 3 + 2) (.int .i64 d)
  rw [flat_set (fun i _ _ => rowC_len _ _ _ i) hj (by omega), ← Nat.add_assoc] at h2
  have e : flat (fun i => if i = 0 + j then (rowC g sv idle i).set 2 (.int .i64 d) else rowC g sv idle i) 0 K = flat (rowC g sv (upd idle j d)) 0 K := by
    refine flat_congr fun i _ _ => ?_
    simp only [Nat.zero_add]
    by_cases hi : i = j
    · rw [if_pos hi]; simp [rowC, upd, hi]
    · rw [if_neg hi]; simp [rowC, upd, hi]
  rw [← e]
  exact h2
end

set_option maxRecDepth 100000 in
set_option maxHeartbeats 1000000 in
theorem copied_calls (v : Value) (m : Nat) (xs : List Value) (w : World) (hs : Seg w 32 32 v m xs) (h1 : ∀ u ∈ xs, u.oneCell' = true) (hm : m ≤ 1000000) :
    Calls Tryd.prog 59 #[v] w fun en w' => ∃ y, en = .returned y ∧ Seg w' 32 32 y m xs ∧ (∀ x, y.ownBlock = some x → w.heap.size ≤ x) ∧ Below w.heap.size w w' := by
  obtain ⟨i, z, hi, hz, hsz, hzs, hby⟩ := sumInfo
  obtain ⟨a, c, rfl, _, _⟩ := hs.slice
  have HS := Lib.hid hs
  have H1 := Lib.hid h1
  clear hs h1
  go_enter Tryd.func59, Tryd.ntmps59
  go_wp2_with (first | ((with_reducible refine at_op 4 ?_); refine wpList_append_new (o := ⟨some 4, _, _, _, _, _⟩) _ rfl (.const (.slice none 0 0)) (.tmp 3) 56 rfl 32 i z 32 32 Tryd.underlying56 hi hz hsz hby hzs (by omega) rfl _ m xs rfl HS.out H1.out (by unfold maxLen; omega) (by omega) ?_; intro y W2 s2 b2 o2) | fail)
  go_ret
  exact ⟨y, rfl, s2, o2, b2⟩

/-- The cells of row j. -/
theorem row_cells {w : World} {K : Nat} {g : Nat → Nat} {sv : Nat → Value} {idle : Nat → Nat} {R o cap j : Nat} (h : Seg w 73 3 (.slice (some ⟨R, o, none⟩) K cap) K (flat (rowC g sv idle) 0 K)) (hj : j < K) :
    w.cell? ⟨R, o + j * 3, none⟩ = some (.int .i64 (g j)) ∧ w.cell? ⟨R, o + j * 3 + 1, none⟩ = some (sv j) ∧ w.cell? ⟨R, o + j * 3 + 2, none⟩ = some (.int .i64 (idle j)) ∧ R < w.heap.size ∧ ∀ x, w.frozen? ⟨R, x, none⟩ = false := by
  obtain ⟨R', o', C', hrv, hRl, _, _, hcc⟩ := h.cells (by omega)
  simp only [Value.slice.injEq, Option.some.injEq, Addr.mk.injEq, and_true, true_and] at hrv
  obtain ⟨⟨rfl, rfl⟩, rfl⟩ := hrv
  have g0 := flat_get (g := rowC g sv idle) (a := 0) (k := K) (w := 3) (fun i _ _ => rowC_len _ _ _ i) hj (r := 0) (by omega)
  have g1 := flat_get (g := rowC g sv idle) (a := 0) (k := K) (w := 3) (fun i _ _ => rowC_len _ _ _ i) hj (r := 1) (by omega)
  have g2 := flat_get (g := rowC g sv idle) (a := 0) (k := K) (w := 3) (fun i _ _ => rowC_len _ _ _ i) hj (r := 2) (by omega)
  rw [Nat.zero_add] at g0 g1 g2
  exact ⟨hcc _ _ g0, hcc _ _ g1, hcc _ _ g2, hRl, fun x => h.free x⟩

/-- What a row's forgetting comes to. -/
def ForgetPost (F : Nat → Prop) (w : World) (b n fl K : Nat) (g c : Nat → Nat) (f : Nat → List UInt8) (rv : Value) (j G : Nat) (en : Ending) (w' : World) : Prop :=
  en = .returned (.tuple #[]) ∧ (∃ sv idle, Raw (fun k => F k ∨ w.heap.size ≤ k) w' b n fl K (upd g j G) c f rv sv idle) ∧ Turn F w w'

section
variable {F : Nat → Prop} {w : World} {b n fl K : Nat} {g c : Nat → Nat} {f : Nat → List UInt8} {sv : Nat → Value} {idle : Nat → Nat} {R o cap j G : Nat}

set_option maxRecDepth 100000 in
set_option maxHeartbeats 2000000 in
theorem Raw.forget (h : Raw F w b n fl K g c f (.slice (some ⟨R, o, none⟩) K cap) sv idle) (hj : j < K) (hg : g j ≤ G) (hG : G ≤ c j) (hc : c j ≤ 1000000) (hlen : ∀ i, (f i).length = 32) :
    Calls Tryd.prog 36 #[.pointer (some ⟨R, o + j * 3, none⟩), .int .i64 G] w (ForgetPost F w b n fl K g c f (.slice (some ⟨R, o, none⟩) K cap) j G) := by
  obtain ⟨R', o', C', hrv, hRl, _, _, hcc⟩ := h.rows.cells (by omega)
  simp only [Value.slice.injEq, Option.some.injEq, Addr.mk.injEq, and_true, true_and] at hrv
  obtain ⟨⟨rfl, rfl⟩, rfl⟩ := hrv
  have g0 := flat_get (g := rowC g sv idle) (a := 0) (k := K) (w := 3) (fun i _ _ => rowC_len _ _ _ i) hj (r := 0) (by omega)
  have g1 := flat_get (g := rowC g sv idle) (a := 0) (k := K) (w := 3) (fun i _ _ => rowC_len _ _ _ i) hj (r := 1) (by omega)
  have g2 := flat_get (g := rowC g sv idle) (a := 0) (k := K) (w := 3) (fun i _ _ => rowC_len _ _ _ i) hj (r := 2) (by omega)
  rw [Nat.zero_add] at g0 g1 g2
  have k0 : w.cell? ⟨R, o + j * 3, none⟩ = some (.int .i64 (g j)) := hcc _ _ g0
  have k1 : w.cell? ⟨R, o + j * 3 + 1, none⟩ = some (sv j) := hcc _ _ g1
  have k2 : w.cell? ⟨R, o + j * 3 + 2, none⟩ = some (.int .i64 (idle j)) := hcc _ _ g2
  have fz : ∀ x, w.frozen? ⟨R, x, none⟩ = false := fun x => h.rows.free x
  have hi := h.idle j hj
  have HS := Lib.hid (h.sums j hj)
  have H := Lib.hid h
  obtain ⟨d, hd⟩ : ∃ d, d = G - g j := ⟨_, rfl⟩
  obtain ⟨m, hm⟩ : ∃ m, m = c j - g j := ⟨_, rfl⟩
  obtain ⟨q, hq⟩ : ∃ q, q = g j := ⟨_, rfl⟩
  obtain ⟨v, hv⟩ : ∃ v, v = sv j := ⟨_, rfl⟩
  obtain ⟨l, hl⟩ : ∃ l, l = idle j := ⟨_, rfl⟩
  have hd1 : (G : Int) - (q : Int) = (d : Int) := by omega
  have hdm : d ≤ m := by omega
  have hm6 : m ≤ 1000000 := by omega
  have hq6 : (q : Int) ≤ 1000000 := by omega
  have hG6 : (G : Int) ≤ 1000000 := by omega
  have HD := Lib.hid (show _ ∧ _ ∧ _ ∧ _ ∧ _ from ⟨hd, hm, hq, hv, hl⟩)
  rw [← hq] at k0
  rw [← hv] at k1
  rw [← hl] at k2 hi
  have HC := Lib.hid (show _ ∧ _ ∧ _ ∧ _ from ⟨hg, hG, hc, hlen⟩)
  clear hcc g0 g1 g2 h hg hG hc hlen hd hm hq hv hl
  have FZ := Lib.hid fz
  have hzv : ∀ w, (zeroValue 32).run Tryd.prog w = .ok (.agg (cellsOf (List.replicate 32 0))) w := fun _ => by kernel_rfl
  have HZ := Lib.hid hzv
  clear hzv
  rcases HS.out.2 with ⟨hn, hm0⟩ | ⟨gg, off, cc, cur, hn, hg1, hc1, hc2, hc3, hx⟩
  · have hG0 : g j = G ∧ c j - G = 0 := by have := HD.out; have := HC.out; omega
    have hd0 : d = 0 := by have := HD.out; omega
    subst hd0
    replace hd1 : (G : Int) - (q : Int) = 0 := by omega
    rw [← HD.out.2.2.2.1] at hn
    rw [hn] at k1
    have HV := Lib.hid (show _ ∧ _ from ⟨hn, hG0⟩)
    have hr : (Builtin.clear_ #[56] 0 #[.slice none 0 0]).run Tryd.prog w = .ok (.tuple #[]) w := by simp [Builtin.clear_, run_underlying Tryd.underlying56]
    have hl6 : (l : Int) ≤ 1000000 := by omega
    have hl0 : (0 : Int) ≤ (l : Int) := by omega
    clear hn hm0 hG0 hdm hm6
    have hsv : sv j = .slice none 0 0 := by rw [← HD.out.2.2.2.1, HV.out.1]
    have A2 : Seg w 73 3 (.slice (some ⟨R, o, none⟩) K cap) K (flat (rowC g sv idle) 0 K) := H.out.rows
    have A3 := rows_set2 (rows_set1 (rows_set0 A2 hj G) hj (.slice none 0 0)) hj l
    have T3 := (((Turn.refl (fun k => k = R ∨ (sv j).ownBlock = some k) w).put (fun _ => .inl rfl) (o + j * 3) (.int .i64 G)).put (fun _ => .inl rfl) (o + j * 3 + 1) (.slice none 0 0)).put (fun _ => .inl rfl) (o + j * 3 + 2) (.int .i64 l)
    have M := Lib.hid (show _ ∧ _ from ⟨A3.drew, T3.drew⟩)
    have hnil : ∀ W : World, Seg W 32 32 (.slice none 0 0) (c j - G) (flat (nodeC f j) G (c j - G)) := fun W => by
      rw [HV.out.2.2]
      exact Seg.nil _ _ _
    have HN := Lib.hid hnil
    clear A2 A3 T3 hsv hnil
    go_enter Tryd.func36, Tryd.ntmps36
    go_wp2_with fail
    clear hr
    go_region
    clear k0 k1 k2
    go_wp2_with fail
    generalize hW : (((w.setCell ⟨R, o + j * 3, none⟩ (.int .i64 G)).setCell ⟨R, o + j * 3 + 1, none⟩ (.slice none 0 0)).setCell ⟨R, o + j * 3 + 2, none⟩ (.int .i64 l)).drew = W3 at M ⊢
    clear hW
    obtain ⟨_, l1, l2, hRW, lf⟩ := row_cells M.out.1 hj
    rw [upd_at] at l1 l2
    go_region
    have M4 := Lib.hid (show _ ∧ _ from ⟨M.out.1.drew, M.out.2.drew⟩)
    generalize W3.drew = W4 at M4 ⊢
    clear M l1 l2 hRW lf
    obtain ⟨_, l1, l2, hRW, lf⟩ := row_cells M4.out.1 hj
    rw [upd_at] at l1 l2
    by_cases hyr : (l : Int) > 0
    · have hyr2 : ¬ (l : Int) ≤ 0 := by omega
      go_wp2_with fail
      refine (copied_calls (.slice none 0 0) (c j - G) _ W4 (HN.out W4) sum_one (by have := HC.out; omega)).mono ?_
      rintro en w5 ⟨yv, rfl, s5, o5, b5⟩
      obtain ⟨ya, yc, rfl, _, _⟩ := s5.slice
      have A5 := M4.out.1.below b5 (fun x hx => M4.out.1.lt hx)
      have A6 := rows_set2 (rows_set1 A5 hj (.slice ya (c j - G) yc)) hj 0
      rw [upd_upd, upd_upd] at A6
      have hyR : (Value.slice ya (c j - G) yc).ownBlock ≠ some R := fun e => by have := o5 R e; omega
      have B6 := Seg.far (Seg.far s5 (p := ⟨R, o + j * 3 + 1, none⟩) hyR (.slice ya (c j - G) yc)) (p := ⟨R, o + j * 3 + 2, none⟩) hyR (.int .i64 (0 : Nat))
      have T5 : Turn (fun k => k = R ∨ (sv j).ownBlock = some k) w w5 := M4.out.2.trans (Turn.of_below (F := fun k => W4.heap.size ≤ k) b5 (fun _ _ h => h)) (fun k h1 h2 => by have := M4.out.2.size; omega)
      have T6 := (T5.put (fun _ => .inl rfl) (o + j * 3 + 1) (.slice ya (c j - G) yc)).put (fun _ => .inl rfl) (o + j * 3 + 2) (.int .i64 (0 : Nat))
      obtain ⟨_, q1, q2, hRW5, qf⟩ := row_cells A5 hj
      rw [upd_at] at q1 q2
      have N := Lib.hid (show _ ∧ _ ∧ _ ∧ _ from ⟨A6, B6, T6, fun x hx => (.inr (by have := o5 x hx; have := M4.out.2.size; omega) : (sv j).ownBlock = some x ∨ w.heap.size ≤ x)⟩)
      clear A5 A6 B6 T5 T6 s5 o5 b5 hyR l1 l2 lf hRW M4
      go_wp2_with fail
      go_end0
      exact ⟨rfl, ⟨_, _, H.out.recut rfl hj N.out.2.2.1 N.out.2.1 N.out.2.2.2 N.out.1 (by omega)⟩, N.out.2.2.1.more (fun k _ hk => by
        rcases hk with hk | hk
        · rw [hk]; exact H.out.fr R rfl
        · exact H.out.fs j hj k hk)⟩
    · go_wp2_with fail
      go_end0
      exact ⟨rfl, ⟨_, _, H.out.recut rfl hj M4.out.2 (HN.out W4) (fun x hx => by cases hx) M4.out.1 (by omega)⟩, M4.out.2.more (fun k _ hk => by
        rcases hk with hk | hk
        · rw [hk]; exact H.out.fr R rfl
        · exact H.out.fs j hj k hk)⟩
  · rw [← HD.out.2.2.2.1] at hn
    have HV := Lib.hid hn
    rw [hn] at k1
    rw [← HD.out.2.1] at hc1 hn HV k1
    have hmc : (m : Int) ≤ (cc : Int) := by omega
    have hcm : (cc : Int) ≤ 9223372036854775807 := by unfold maxLen at hc2; omega
    have hdc : (d : Int) ≤ (cc : Int) := by omega
    have hd0 : (0 : Int) ≤ (d : Int) := by omega
    clear hg1 hc3 hx hn hc2
    obtain ⟨W2, hr, s2, t2⟩ := run_clear_seg (P := Tryd.prog) w 56 0 32 (.agg (cellsOf (List.replicate 32 0))) 32 Tryd.underlying56 HZ.out (by kernel_rfl) (fun u hu => byteV_one (List.replicate 32 0) u (by simpa [Value.cells, cellsOf] using hu)) gg off m cc _ (by have := HS.out; rw [← HD.out.2.1, ← HD.out.2.2.2.1, HV.out] at this; exact this) 0 d cc (by omega)
    rw [Nat.zero_mul, Nat.add_zero] at hr
    have hm1 : g j + m = c j := by have := HD.out.2.1; have := HC.out; omega
    have hd2 : g j + d = G := by have := HD.out.1; have := HC.out; omega
    have s3 : Seg W2 32 32 (.slice (some ⟨gg, off + d * 32, none⟩) (m - d) (cc - d)) (c j - G) (flat (nodeC f j) G (c j - G)) := by
      have h1 := s2.behind d hdm
      have e1 : (List.take (0 * 32) (flat (nodeC f j) (g j) m) ++ zeroC (Value.agg (cellsOf (List.replicate 32 0))).cells d ++ List.drop ((0 + d) * 32) (flat (nodeC f j) (g j) m)).drop (d * 32) = flat (nodeC f j) G (c j - G) := by
        have hz : (zeroC (Value.agg (cellsOf (List.replicate 32 0))).cells d).length = d * 32 := by rw [zeroC_len]; rfl
        rw [Nat.zero_mul, List.take_zero, List.nil_append, Nat.zero_add, List.drop_append_of_le_length (by omega), List.drop_of_length_le (by omega), List.nil_append, flat_drop (fun i _ _ => nodeC_len HC.out.2.2.2 j i) hdm, hd2]
        congr 1
        omega
      rw [e1, show m - d = c j - G by omega] at h1
      rw [show m - d = c j - G by omega]
      exact h1
    have hcj : c j - G = m - d := by omega
    have HW := Lib.hid (show _ ∧ _ ∧ _ ∧ _ ∧ _ from ⟨s3, t2, hcj, hm1, hd2⟩)
    have hne : R ≠ gg := fun e => H.out.rv_sv hj R rfl (by rw [← HD.out.2.2.2.1, HV.out, e]; rfl)
    have old : ∀ x, W2.cell? ⟨R, x, none⟩ = w.cell? ⟨R, x, none⟩ := fun x => by unfold World.cell?; rw [t2.block R hRl (fun e => hne (by injection e))]
    have j0 : W2.cell? ⟨R, o + j * 3, none⟩ = some (.int .i64 q) := (old _).trans k0
    have j1 : W2.cell? ⟨R, o + j * 3 + 1, none⟩ = some (.slice (some ⟨gg, off, none⟩) m cc) := (old _).trans k1
    have j2 : W2.cell? ⟨R, o + j * 3 + 2, none⟩ = some (.int .i64 l) := (old _).trans k2
    have fz2 : ∀ x, W2.frozen? ⟨R, x, none⟩ = false := fun x => by
      have := FZ.out x
      unfold World.frozen? at *
      rw [t2.block R hRl (fun e => hne (by injection e))]
      exact this
    have hi0 : (0 : Int) ≤ (l : Int) := by omega
    have hi6 : (l : Int) ≤ 1000000 := by omega
    have hd6 : (d : Int) ≤ 1000000 := by omega
    have hdm2 : (d : Int) ≤ (m : Int) := by omega
    go_enter Tryd.func36, Tryd.ntmps36
    go_wp2_with fail
    clear hr k0 k1 k2 s2 s3 t2 old hm1 hd2 hcj
    go_region
    generalize hp : (if cc = d then (some ⟨gg, off, none⟩ : Option Addr) else some ⟨gg, off + d * 32, none⟩) = p
    have HP := Lib.hid hp
    clear hp j0 j1 j2 fz2
    obtain ⟨r, hr⟩ : ∃ r, r = m - d := ⟨_, rfl⟩
    rw [← hr]
    have HR := Lib.hid hr
    have hr6 : (r : Int) ≤ 1000000 := by omega
    have hld : (l : Int) + (d : Int) = ((l + d : Nat) : Int) := (Int.natCast_add l d).symm
    rw [hld]
    obtain ⟨y, hy⟩ : ∃ y, y = l + d := ⟨_, rfl⟩
    rw [← hy]
    have HY := Lib.hid hy
    have hy6 : (y : Int) ≤ 2000000 := by omega
    clear hr hld hy
    obtain ⟨cq, hcq⟩ : ∃ cq, cq = cc - d := ⟨_, rfl⟩
    rw [← hcq]
    have hcq6 : (cq : Int) ≤ 9223372036854775807 := by omega
    have hrc : (r : Int) ≤ (cq : Int) := by have := HR.out; omega
    have HQ := Lib.hid hcq
    clear hcq
    have hsv : sv j = .slice (some ⟨gg, off, none⟩) m cc := by rw [← HD.out.2.2.2.1, HV.out]
    have A2 : Seg W2 73 3 (.slice (some ⟨R, o, none⟩) K cap) K (flat (rowC g sv idle) 0 K) :=
      H.out.rows.keep fun x hx => by
        injection hx with hx
        subst hx
        exact HW.out.2.1.block R hRl (fun e => hne (by injection e))
    have A3 := rows_set2 (rows_set1 (rows_set0 A2 hj G) hj (.slice p r cq)) hj y
    have B2 : Seg W2 32 32 (.slice p r cq) (c j - G) (flat (nodeC f j) G (c j - G)) := by
      rw [HQ.out, ← HP.out]
      by_cases hcd : cc = d
      · have h1 := HW.out.1
        have h2 : c j - G = 0 := by have := HW.out.2.2.1; omega
        rw [if_pos hcd, show r = 0 by have := HR.out; omega, show cc - d = 0 by omega, h2]
        rw [h2] at h1
        rcases h1.2 with ⟨h3, _⟩ | ⟨g3, o3, c3, cur3, h3, h4, _, _, h5, _⟩
        · cases h3
        · simp only [Value.slice.injEq, Option.some.injEq, Addr.mk.injEq, and_true] at h3
          obtain ⟨⟨rfl, rfl⟩, _⟩ := h3
          exact ⟨rfl, .inr ⟨gg, off, 0, cur3, rfl, h4, Nat.le_refl _, Nat.zero_le _, by omega, rfl⟩⟩
      · rw [if_neg hcd, HR.out]
        exact HW.out.1
    have T2 : Turn (fun k => k = R ∨ (sv j).ownBlock = some k) w W2 := Turn.of_grown HW.out.2.1 (.inr (by rw [hsv]; rfl))
    have T3 := ((T2.put (fun _ => .inl rfl) (o + j * 3) (.int .i64 G)).put (fun _ => .inl rfl) (o + j * 3 + 1) (.slice p r cq)).put (fun _ => .inl rfl) (o + j * 3 + 2) (.int .i64 y)
    have hpo : ∀ x, (Value.slice p r cq).ownBlock = some x → x = gg := fun x hx => by
      rw [← HP.out] at hx
      by_cases hcd : cc = d
      · rw [if_pos hcd] at hx; injection hx with hx; exact hx.symm
      · rw [if_neg hcd] at hx; injection hx with hx; exact hx.symm
    have hpR : (Value.slice p r cq).ownBlock ≠ some R := fun e => hne (hpo R e)
    have B3 := Seg.far (Seg.far (Seg.far B2 (p := ⟨R, o + j * 3, none⟩) hpR (.int .i64 G)) (p := ⟨R, o + j * 3 + 1, none⟩) hpR (.slice p r cq)) (p := ⟨R, o + j * 3 + 2, none⟩) hpR (.int .i64 y)
    have HO := Lib.hid (show ∀ x, (Value.slice p r cq).ownBlock = some x → (sv j).ownBlock = some x ∨ w.heap.size ≤ x from fun x hx => .inl (by rw [hpo x hx, hsv]; rfl))
    have M := Lib.hid (show _ ∧ _ ∧ _ from ⟨A3.drew, B3.drew, T3.drew⟩)
    clear A2 A3 B2 T2 T3 B3 hsv hpo hpR
    go_wp2_with fail
    generalize hW : (((W2.setCell ⟨R, o + j * 3, none⟩ (.int .i64 G)).setCell ⟨R, o + j * 3 + 1, none⟩ (.slice p r cq)).setCell ⟨R, o + j * 3 + 2, none⟩ (.int .i64 y)).drew = W3 at M ⊢
    clear hW
    obtain ⟨_, l1, l2, hRW, lf⟩ := row_cells M.out.1 hj
    rw [upd_at] at l1 l2
    go_region
    have M4 := Lib.hid (show _ ∧ _ ∧ _ from ⟨M.out.1.drew, M.out.2.1.drew, M.out.2.2.drew⟩)
    generalize W3.drew = W4 at M4 ⊢
    clear M l1 l2 hRW lf
    obtain ⟨_, l1, l2, hRW, lf⟩ := row_cells M4.out.1 hj
    rw [upd_at] at l1 l2
    by_cases hyr : (y : Int) > (r : Int)
    · have hyr2 : ¬ (y : Int) ≤ (r : Int) := by omega
      go_wp2_with fail
      refine (copied_calls (.slice p r cq) (c j - G) _ W4 M4.out.2.1 sum_one (by have := HC.out; omega)).mono ?_
      rintro en w5 ⟨yv, rfl, s5, o5, b5⟩
      obtain ⟨ya, yc, rfl, _, _⟩ := s5.slice
      have A5 := M4.out.1.below b5 (fun x hx => M4.out.1.lt hx)
      have A6 := rows_set2 (rows_set1 A5 hj (.slice ya (c j - G) yc)) hj 0
      rw [upd_upd, upd_upd] at A6
      have hyR : (Value.slice ya (c j - G) yc).ownBlock ≠ some R := fun e => by have := o5 R e; omega
      have B6 := Seg.far (Seg.far s5 (p := ⟨R, o + j * 3 + 1, none⟩) hyR (.slice ya (c j - G) yc)) (p := ⟨R, o + j * 3 + 2, none⟩) hyR (.int .i64 (0 : Nat))
      have T5 : Turn (fun k => k = R ∨ (sv j).ownBlock = some k) w w5 := M4.out.2.2.trans (Turn.of_below (F := fun k => W4.heap.size ≤ k) b5 (fun _ _ h => h)) (fun k h1 h2 => by have := M4.out.2.2.size; omega)
      have T6 := (T5.put (fun _ => .inl rfl) (o + j * 3 + 1) (.slice ya (c j - G) yc)).put (fun _ => .inl rfl) (o + j * 3 + 2) (.int .i64 (0 : Nat))
      obtain ⟨_, q1, q2, hRW5, qf⟩ := row_cells A5 hj
      rw [upd_at] at q1 q2
      have N := Lib.hid (show _ ∧ _ ∧ _ ∧ _ from ⟨A6, B6, T6, fun x hx => (.inr (by have := o5 x hx; have := M4.out.2.2.size; omega) : (sv j).ownBlock = some x ∨ w.heap.size ≤ x)⟩)
      clear A5 A6 B6 T5 T6 s5 o5 b5 hyR l1 l2 lf hRW M4
      go_wp2_with fail
      go_end0
      exact ⟨rfl, ⟨_, _, H.out.recut rfl hj N.out.2.2.1 N.out.2.1 N.out.2.2.2 N.out.1 (by omega)⟩, N.out.2.2.1.more (fun k _ hk => by
        rcases hk with hk | hk
        · rw [hk]; exact H.out.fr R rfl
        · exact H.out.fs j hj k hk)⟩
    · go_wp2_with fail
      go_end0
      exact ⟨rfl, ⟨_, _, H.out.recut rfl hj M4.out.2.2 M4.out.2.1 HO.out M4.out.1 (by omega)⟩, M4.out.2.2.more (fun k _ hk => by
        rcases hk with hk | hk
        · rw [hk]; exact H.out.fr R rfl
        · exact H.out.fs j hj k hk)⟩
end
end Go.Proofs.YtiobdhkadbipkaaDoor.dig
end

section
/- tree: Forget. -/
namespace Go.Proofs.YtiobdhkadbipkaaDoor.dig
open Go Go.RowKit

/-- The floor is another one. -/
theorem Raw.floor {F : Nat → Prop} {w : World} {b n fl K : Nat} {g c : Nat → Nat} {f : Nat → List UInt8} {rv : Value} {sv : Nat → Value} {idle : Nat → Nat} (h : Raw F w b n fl K g c f rv sv idle) (p : Nat) :
    Raw F (w.setCell ⟨b, 1, none⟩ (.int .i64 p)) b n p K g c f rv sv idle := by
  refine ⟨?_, Seg.far h.rows h.rv_b _, fun j hj => Seg.far (h.sums j hj) (h.sv_b hj) _, h.apart, h.fb, h.fr, h.fs, h.idle⟩
  have := h.tree.put 1 (.int .i64 p)
  simpa using this

/-- While rows forget: those below k have. -/
def mid (p fl k : Nat) : Nat → Nat := fun i => if i < k then gone p i else gone fl i
theorem mid_zero (p fl : Nat) : mid p fl 0 = gone fl := by
  funext i
  unfold mid
  rw [if_neg (by omega)]
theorem mid_next (p fl k : Nat) : upd (mid p fl k) k (gone p k) = mid p fl (k + 1) := by
  funext i
  unfold mid upd
  by_cases h : i = k
  · rw [if_pos h, if_pos (by omega), h]
  · rw [if_neg h]
    show (if i < k then gone p i else gone fl i) = _
    by_cases h2 : i < k
    · rw [if_pos h2, if_pos (by omega)]
    · rw [if_neg h2, if_neg (by omega)]
theorem mid_at (p fl k : Nat) : mid p fl k k = gone fl k := if_neg (by omega)

theorem Raw.gcongr {F : Nat → Prop} {w : World} {b n fl K : Nat} {g g' c : Nat → Nat} {f : Nat → List UInt8} {rv : Value} {sv : Nat → Value} {idle : Nat → Nat} (h : Raw F w b n fl K g c f rv sv idle) (e : ∀ i, i < K → g i = g' i) :
    Raw F w b n fl K g' c f rv sv idle :=
  ⟨h.tree, by
    rw [← flat_congr (g := rowC g sv idle) (h := rowC g' sv idle) (fun i _ hi => by unfold rowC; rw [e i (by omega)])]
    exact h.rows, fun j hj => by rw [← e j hj]; exact h.sums j hj, h.apart, h.fb, h.fr, h.fs, h.idle⟩

theorem shr_pow (p k : Nat) : (p : Int) / 2 ^ (k + 1) = ((p / 2 ^ (k + 1) : Nat) : Int) := by
  rw [Int.natCast_ediv, Int.natCast_pow]
  rfl

section
variable {B : Nat} {F : Nat → Prop} {b n fl : Nat} {f : Nat → List UInt8} {w : World}

set_option maxRecDepth 100000 in
set_option maxHeartbeats 2000000 in
theorem Tr.forget (hT : Tr B F w b n fl f) (p : Nat) (hp : fl ≤ p) (hn : p ≤ n) :
    Calls Tryd.prog 11 #[.pointer (some ⟨b, 0, none⟩), .int .i64 p] w fun en w' => en = .returned (.int .i64 0) ∧ Tr B (fun k => F k ∨ w.heap.size ≤ k) w' b n p f ∧ Turn F w w' := by
  obtain ⟨rv, sv, idle, h⟩ := hT.raw
  have e0 := h.tree.cell 0
  have e1 := h.tree.cell 1
  simp at e0 e1
  have hsm := hT.small
  have h1 : ¬ (p : Int) < 0 := by omega
  have h2 : ¬ (p : Int) > (n : Int) := by omega
  have h3 : ¬ (p : Int) < (fl : Int) := by omega
  have HT := Lib.hid hT
  have H := Lib.hid h
  have ht : tops n ≤ 32 := tops_small (by omega)
  have fz := h.tree.free
  obtain ⟨a0, c0, hrv, hc1, hc2⟩ := h.rows.slice
  subst hrv
  have hc3 : (c0 : Int) ≤ 9223372036854775807 := by unfold maxLen at hc2; omega
  have hk3 : (tops n : Int) ≤ (c0 : Int) := by omega
  have e2 : w.cell? ⟨b, 2, none⟩ = some (.slice a0 (tops n) c0) := h.tree.cell 2
  have W1 := h.floor p
  have T1 : Turn F w (w.setCell ⟨b, 1, none⟩ (.int .i64 p)) := (Turn.refl F w).put (fun _ => h.fb) 1 _
  have M := Lib.hid (show _ ∧ _ from ⟨W1, T1⟩)
  clear hT h W1 T1 hc1 hc2
  go_enter Tryd.func11, Tryd.ntmps11
  go_wp2_with fail
  generalize w.setCell ⟨b, 1, none⟩ (.int .i64 p) = W1 at M ⊢
  clear e0 e1 e2 fz
  have M0 : Hid ((∃ sv idle, Raw (fun x => F x ∨ w.heap.size ≤ x) W1 b n p (tops n) (mid p fl 0) (fun j => n / 2 ^ j) f (.slice a0 (tops n) c0) sv idle) ∧ Turn F w W1) :=
    Lib.hid ⟨⟨sv, idle, by rw [mid_zero]; exact M.out.1.more (fun _ _ h => .inl h)⟩, M.out.2⟩
  clear M
  go_loopw [31] (fun i wr => ∃ k : Nat, i = .int .i64 k ∧ k ≤ tops n ∧ Hid ((∃ sv idle, Raw (fun x => F x ∨ w.heap.size ≤ x) wr b n p (tops n) (mid p fl k) (fun j => n / 2 ^ j) f (.slice a0 (tops n) c0) sv idle) ∧ Turn F w wr)) (fun i _ => tops n - (intOf i).toNat)
  case atStart => exact ⟨0, rfl, Nat.zero_le _, M0⟩
  case round =>
    obtain ⟨k, rfl, hk, HS⟩ := hrel
    clear M0
    by_cases hkt : k < tops n
    · have hk1 : (k : Int) < (tops n : Int) := by omega
      have hk0 : (0 : Int) ≤ (k : Int) := by omega
      obtain ⟨sv, idle, r⟩ := HS.out.1
      obtain ⟨R, o, C, hrv, hRl, _, _, _⟩ := r.rows.cells (by omega)
      simp only [Value.slice.injEq] at hrv
      obtain ⟨rfl, _, rfl⟩ := hrv
      have f2 : wr.cell? ⟨b, 2, none⟩ = some (.slice (some ⟨R, o, none⟩) (tops n) c0) := r.tree.cell 2
      have hgd : gone fl k ≤ gone p k := gone_mono k hp
      have hgn : gone p k ≤ n / 2 ^ k := gone_le k hn
      have hnk : n / 2 ^ k ≤ 1000000 := Nat.le_trans (Nat.div_le_self _ _) hsm
      have hc := Raw.forget r.drew hkt (G := gone p k) (by rw [mid_at]; exact hgd) hgn hnk HT.out.len
      have HC := Lib.hid hc
      obtain ⟨k1, hk1'⟩ : ∃ k1, k1 = k + 1 := ⟨_, rfl⟩
      have i0 : IntKind.i64.wrap (k1 : Int) = (k1 : Int) := IntWalk.i64_in _ ⟨by omega, by omega⟩
      have i00 : (k : Int) + 1 = (k1 : Int) := by omega
      have i1 : (0 : Int) ≤ (k1 : Int) := by omega
      have i2 : min k1 64 = k1 := by omega
      obtain ⟨q, hq⟩ : ∃ q, q = p / 2 ^ k1 := ⟨_, rfl⟩
      have i3 : (p : Int) / 2 ^ k1 = (q : Int) := by rw [hq, Int.natCast_ediv]; simp
      have hqp : q ≤ p := by rw [hq]; exact Nat.div_le_self _ _
      have i4 : IntKind.i64.wrap (gone p k : Int) = (gone p k : Int) := IntWalk.i64_in _ ⟨by omega, by omega⟩
      have i5 : 2 * (q : Int) = (gone p k : Int) := by
        unfold gone
        rw [← hk1', ← hq]
        rfl
      have HK := Lib.hid (show _ ∧ _ from ⟨hk1', hq⟩)
      clear hc hgd hgn hnk r hk1' hq
      go_wp2_with fail
      go_region_law (refine step_call rfl 36 Tryd.f36 Tryd.func36 (by kernel_rfl) (by kernel_rfl) _ _ rfl #[.pointer (some ⟨R, o + k * 3, none⟩), .int .i64 (gone p k)] (by first | (simp [Act.eval]; done) | (simp [Act.eval, Act.put]; done)) (by exact HC.out) ?_
                     rintro en w4 ⟨rfl, h4, t4⟩
                     refine ⟨_, rfl, ?_⟩)
      have N : Hid ((∃ sv idle, Raw (fun x => F x ∨ w.heap.size ≤ x) w4 b n p (tops n) (mid p fl (k + 1)) (fun j => n / 2 ^ j) f (.slice (some ⟨R, o, none⟩) (tops n) c0) sv idle) ∧ Turn F w w4) := Lib.hid ⟨by
        obtain ⟨sv, idle, r⟩ := h4
        rw [mid_next] at r
        exact ⟨sv, idle, r.more (fun j _ h => by
          rcases h with h | h
          · exact h
          · have := HS.out.2.size; exact .inr (Nat.le_trans this h))⟩, HS.out.2.drew.trans t4 (fun j h1 h2 => by
          rcases h2 with h2 | h2
          · exact h2
          · omega)⟩
      clear h4 t4 HC HS f2 i00 i0 i1 i2 i3 i4 i5
      go_wp2_with fail
      refine ⟨⟨k + 1, by rw [Int.natCast_add]; rfl, by omega, N⟩, ?_⟩
      show tops n - ((k : Int) + 1).toNat < tops n - ((k : Int)).toNat
      omega
    · obtain rfl : k = tops n := by omega
      go_wp2_with fail
      go_ret
      obtain ⟨⟨sv, idle, r⟩, t⟩ := HS.out
      exact ⟨rfl, ⟨⟨_, sv, idle, r.gcongr (fun i hi => by unfold mid; rw [if_pos hi])⟩, HT.out.rt.turn t HT.out.hF, fun k hk => by
        rcases hk with hk | hk
        · exact HT.out.hF k hk
        · have := HT.out.rt.size; omega, HT.out.len, HT.out.small, hn⟩, t⟩

set_option maxRecDepth 100000 in
set_option maxHeartbeats 1000000 in
theorem Tr.forget_arg (hT : Tr B F w b n fl f) (x : Int) (hx : x < 0 ∨ x > n) (hx6 : -9223372036854775808 ≤ x ∧ x ≤ 9223372036854775807) :
    Calls Tryd.prog 11 #[.pointer (some ⟨b, 0, none⟩), .int .i64 x] w fun en w' => en = .returned (.int .i64 4) ∧ w = w' := by
  obtain ⟨rv, hh⟩ := hT.head
  have e0 := hh.cell 0
  have e1 := hh.cell 1
  simp at e0 e1
  have hx1 := hx6.1
  have hx2 := hx6.2
  clear hT hh hx6
  by_cases h1 : x < 0
  · clear hx
    go_enter Tryd.func11, Tryd.ntmps11
    go_wp2_with fail
    go_ret
    exact ⟨rfl, rfl⟩
  · have h2 : x > (n : Int) := by omega
    clear hx
    go_enter Tryd.func11, Tryd.ntmps11
    go_wp2_with fail
    go_ret
    exact ⟨rfl, rfl⟩

set_option maxRecDepth 100000 in
set_option maxHeartbeats 1000000 in
theorem Tr.forget_low (hT : Tr B F w b n fl f) (p : Nat) (hp : p < fl) :
    Calls Tryd.prog 11 #[.pointer (some ⟨b, 0, none⟩), .int .i64 p] w fun en w' => en = .returned (.int .i64 14) ∧ w = w' := by
  obtain ⟨rv, hh⟩ := hT.head
  have e0 := hh.cell 0
  have e1 := hh.cell 1
  simp at e0 e1
  have hfl := hT.floor
  have h1 : ¬ (p : Int) < 0 := by omega
  have h2 : ¬ (p : Int) > (n : Int) := by omega
  have h3 : (p : Int) < (fl : Int) := by omega
  clear hT hh
  go_enter Tryd.func11, Tryd.ntmps11
  go_wp2_with fail
  go_ret
  exact ⟨rfl, rfl⟩
end
end Go.Proofs.YtiobdhkadbipkaaDoor.dig
end

