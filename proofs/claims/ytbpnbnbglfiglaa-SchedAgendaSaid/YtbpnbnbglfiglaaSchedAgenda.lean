/- SchedAgenda: for any numbers and any texts the law answers true, and its arguments read afterwards as they did. Conditions: none. -/
import Derived.Test.YtbpnbnbglfiglaaSchK
import Derived.Test.YtbpnbnbglfiglaaCut
import Derived.Test.YtbpnbnbglfiglaaInts
import Derived.Test.YtbpnbnbglfiglaaStrs
import Derived.Test.YtbpnbnbglfiglaaHeldK
import Derived.Test.YtbpnbnbglfiglaaLate
import Derived.BigQuiet
import Derived.ProofKit
import Derived.OpenShut
import Derived.ChangeOld
namespace Go.Proofs.Ytbpnbnbglfiglaa.schedAgenda
open Go Go.ChangeShapes Go.WideShapes Go.ChangeAt Go.RowKit Go.Maps Go.Proofs.Ytbpnbnbglfiglaa.sch

/-- Behind j things. -/
structure Aw (w : World) (g m m2 j : Nat) (D : DataW Value) (V : Int → Value) (D2 : DataW Value) (V2 : Int → Value) (L : Int → List ByteArray) (W : World) : Prop where
  bm : Bm w g m D V L m2 D2 V2 L W
  len : ∀ x, (L x).length ≤ j
  s1 : Maps.size D ≤ j
  s2 : Maps.size D2 ≤ j
def Awp (w : World) (g m m2 j : Nat) (W : World) : Prop := ∃ D V D2 V2 L, Aw w g m m2 j D V D2 V2 L W

theorem strInfo : ∃ i z, Try.prog.info? 9 = some i ∧ i.zero = some z ∧ i.size = 1 ∧ z.cells.size = 1 ∧ i.bytes = 16 := by
  have h2 : (Try.prog.info? 9).map (fun i => (i.zero.map (fun z => z.cells.size), i.size, i.bytes)) = some (some 1, 1, 16) := by kernel_rfl
  obtain ⟨i, hi, e⟩ := Option.map_eq_some_iff.1 h2
  simp at e
  obtain ⟨⟨z, hz, hz2⟩, h3, h4⟩ := e
  exact ⟨i, z, hi, hz, h3, hz2, h4⟩

/-- Behind Who: its numbers. -/
structure Cw (w : World) (g m m2 : Nat) (D : DataW Value) (V : Int → Value) (D2 : DataW Value) (V2 : Int → Value) (L1 L2 : Int → List ByteArray) (u : Value) (ks : List Int) (W : World) : Prop where
  bm : Bm w g m D V L1 m2 D2 V2 L2 W
  ints : Ints W u ks
  nu : ∀ b, u.ownBlock = some b → w.heap.size ≤ b
section
variable {w W W' : World} {g m m2 : Nat} {D D' D2 : DataW Value} {V V' V2 : Int → Value} {L1 L1' L2 : Int → List ByteArray} {u : Value} {ks : List Int}
theorem Cw.drewN (h : Cw w g m m2 D V D2 V2 L1 L2 u ks W) (n : Nat) : Cw w g m m2 D V D2 V2 L1 L2 u ks (W.drewN n) := ⟨h.bm.drewN n, h.ints, h.nu⟩
theorem Cw.cell (h : Cw w g m m2 D V D2 V2 L1 L2 u ks W) {i : Nat} {x : Int} (hx : ks[i]? = some x) : ∃ b c, u = .slice (some ⟨b, 0, none⟩) ks.length c ∧ W.cell? ⟨b, i, none⟩ = some (.int .i64 x) := by
  obtain ⟨b, c, e, hc⟩ := h.ints.cell i (List.getElem?_eq_some_iff.1 hx).1
  exact ⟨b, c, e, hc i x hx⟩
theorem Cw.did (h : Cw w g m m2 D V D2 V2 L1 L2 u ks W) (a : Ag w g m D' V' L1' W') (t : Turn (Kin g m V) W W') (n : ∀ x b, (V' x).ownBlock = some b → (∃ y, (V y).ownBlock = some b) ∨ W.heap.size ≤ b) : Cw w g m m2 D' V' D2 V2 L1' L2 u ks W' :=
  ⟨h.bm.did a t n, h.ints.turn t (fun b hb e => by
    rcases e with e | e | ⟨x, e⟩
    · subst e; exact own_ne h.ints h.bm.ag.box (by decide) hb
    · subst e; exact h.bm.ag.map.seg (Seg.of_own h.ints) hb
    · exact (h.bm.ag.seg x).apart (Seg.of_own h.ints) (by decide) b e hb), h.nu⟩
end

/-- Behind p numbers: what is left. -/
def rm (ks : List Int) (p : Nat) (L : Int → List ByteArray) (x : Int) : List ByteArray := if x ∈ ks.take p then [] else L x
theorem updI_updI {α : Type} (F : Int → α) (k : Int) (a b : α) : updI (updI F k a) k b = updI F k b := by
  funext i
  unfold updI
  split <;> rfl
theorem updI_self {α : Type} (F : Int → α) (k : Int) : updI F k (F k) = F := by
  funext i
  unfold updI
  split
  · rename_i e; rw [e]
  · rfl
theorem rm_at {ks : List Int} (h : ks.Pairwise (· < ·)) {p : Nat} {k : Int} (hk : ks[p]? = some k) (L : Int → List ByteArray) : rm ks p L k = L k := by
  unfold rm
  rw [if_neg]
  intro hm
  obtain ⟨i, hi, e⟩ := List.getElem_of_mem hm
  rw [List.length_take] at hi
  rw [List.getElem_take] at e
  obtain ⟨hp, e2⟩ := List.getElem?_eq_some_iff.1 hk
  have := List.pairwise_iff_getElem.1 h i p (by omega) hp (by omega)
  omega
theorem rm_next {ks : List Int} {p : Nat} {k : Int} (hk : ks[p]? = some k) (L : Int → List ByteArray) : rm ks (p + 1) L = updI (rm ks p L) k [] := by
  funext x
  unfold rm updI
  rw [List.take_add_one, hk]
  by_cases h : x = k
  · rw [if_pos (by rw [h]; simp), if_pos h]
  · rw [if_neg h]
    have e : (x ∈ ks.take p ++ (some k).toList) ↔ x ∈ ks.take p := by simp [h]
    simp only [e]
theorem rm_all {ks : List Int} {L : Int → List ByteArray} (h : ∀ x, x ∈ ks ↔ L x ≠ []) (x : Int) : rm ks ks.length L x = [] := by
  unfold rm
  rw [List.take_length]
  split
  · rfl
  · rename_i e
    exact Classical.byContradiction fun hn => e ((h x).2 hn)

set_option maxRecDepth 100000 in
set_option maxHeartbeats 4000000 in
theorem agenda_any (aW : Option Addr) (lenW capW : Nat) (TW : Nat → Int) (aT : Option Addr) (lenT capT : Nat) (TT : Nat → ByteArray) (w : World) (hW : ArgI w aW lenW capW TW) (hT : ArgS w aT lenT capT TT) : Calls Try.prog 4 #[.slice aW lenW capW, .slice aT lenT capT] w fun en w' => en = .returned (.bool true) ∧ Below w.heap.size w w' := by
  obtain ⟨z0i, z0, hi0, hz0, hz1, hz2, hz3⟩ := strInfo
  have HI0 := Lib.hid hi0
  have HZ0 := Lib.hid hz0
  have HW := Lib.hid hW
  have HT := Lib.hid hT
  clear hi0 hz0 hW hT
  go_enter Try.func4, Try.ntmps4
  go_wp2_with (first
    | (go_at_call 5; refine (awake_calls w).mono ?_; rintro en w1 ⟨rfl, b1⟩
       have T1 : Hid (Turn (fun j => w.heap.size ≤ j) w w1) := Lib.hid (Turn.of_below b1 (fun _ _ e => e))
       have HP := Lib.hid (plan_calls w w1 T1.out)
       clear b1)
    | (go_at_call 15; refine HP.out.mono ?_
       rintro en w2 ⟨g, m, rfl, hg, hm, b2, ag2⟩
       have K2 : Hid (Ag w g m (.map []) (fun _ => nilS) (fun _ => []) w2 ∧ m < w2.heap.size) := Lib.hid ⟨ag2, ag2.map.lt⟩
       have hmk := run_makeMap (P := Try.prog) 48 w2
       clear HP hg hm b2 ag2)
    | fail)
  clear hmk
  go_name_world W3 hW3
  obtain ⟨m2, hm2⟩ : ∃ m2, m2 = w2.heap.size := ⟨_, rfl⟩
  have L3 : Hid (Awp w g m m2 0 W3) := by
    rw [← hW3, hm2]
    have b3 : Below w2.heap.size w2 (w2.alloc (.map #[] 0)) := (Below.refl _ w2).alloc (Nat.le_refl _) _
    exact Lib.hid ⟨_, _, _, _, _, ⟨K2.out.1.below b3, Mp.made w w2 K2.out.1.turn.size, fun _ _ _ h => (by cases h), by have := K2.out.2; omega⟩, fun _ => Nat.le_refl _, Nat.le_refl _, Nat.le_refl _⟩
  rw [← hm2]
  clear hW3 hm2 K2 T1
  go_wp2_with fail
  go_loopw [7] (fun x wr => ∃ (j : Nat), x = .int .i64 j ∧ j ≤ 40 ∧ Hid (Awp w g m m2 j wr)) (fun x _ => 40 - (RowKit.intOf x).toNat)
  case atStart => exact ⟨0, rfl, by omega, L3⟩
  case round =>
    clear L3
    obtain ⟨j, rfl, hj, HL⟩ := hrel
    by_cases hjw : j < lenW ∧ j < lenT ∧ j < 40
    · obtain ⟨hjw, hjt, hj4⟩ := hjw
      have j1 : (j : Int) < (lenW : Int) := by omega
      have j2 : (j : Int) < (lenT : Int) := by omega
      have j3 : (j : Int) < 40 := by omega
      have j0 : (0 : Int) ≤ (j : Int) := by omega
      obtain ⟨D, V, D2, V2, L, hA⟩ := HL.out
      have HA := Lib.hid hA
      have tw := hA.bm.ag.turn
      obtain ⟨wb, wo, rfl, hwb, cw, r1, r2⟩ := HW.out.2.2 j hjw
      obtain ⟨tb, to, rfl, htb, ct, r3⟩ := HT.out.2.2 j hjt
      have cw' : wr.cell? ⟨wb, wo + j, none⟩ = some (.int .i64 (TW j)) := (tw.cell hwb (by simpa using hwb)).trans cw
      have ct' : wr.cell? ⟨tb, to + j, none⟩ = some (.string (TT j)) := (tw.cell htb (by simpa using htb)).trans ct
      obtain ⟨who, hwho⟩ : ∃ who, who = TW j := ⟨_, rfl⟩
      rw [← hwho] at cw' r1 r2
      have HCW : Hid (∀ W, Turn (fun j => w.heap.size ≤ j) w W → W.cell? ⟨wb, wo + j, none⟩ = some (.int .i64 who)) := Lib.hid (fun W t => (t.cell hwb (by simpa using hwb)).trans (by rw [hwho]; exact cw))
      have HF : Hid (Fits who) := Lib.hid ⟨r1, r2⟩
      have HCT := Lib.hid (lcut_any (TT j) 10 wr (by omega) r3)
      obtain ⟨s, hs⟩ : ∃ s, s = (TT j).extract 0 10 := ⟨_, rfl⟩
      rw [← hs] at HCT
      obtain ⟨tj, htj⟩ : ∃ tj, tj = TT j := ⟨_, rfl⟩
      rw [← htj] at HCT ct'
      have hwl : wb < wr.heap.size := Nat.lt_of_lt_of_le hwb tw.size
      have HADD : Hid (Calls Try.prog 17 #[.pointer (some ⟨g, 0, none⟩), .int .i64 who, .slice (some ⟨wr.heap.size, 0, none⟩) 1 1] (wr.alloc (.cells #[.string s] 9)) (sch.AddPost w g m D V L who [s] (wr.alloc (.cells #[.string s] 9)))) :=
        Lib.hid (sch.add_calls (hA.bm.ag.below ((Below.refl _ wr).alloc (Nat.le_refl _) _)) who HF.out wr.heap.size 0 1 1 [s] rfl (by omega) (by omega) (by have := hA.len who; omega) (by have := hA.s1; omega) (Seg.whole (made_at 9 #[.string s] rfl) rfl (by unfold maxLen; omega)))
      have HJ := Lib.hid hj4
      clear hA HL cw ct r1 r2 r3 hwho hs htj tw hwb htb hjw hjt hj4
      go_wp2_with (first
        | (go_at_call 16; refine HCT.out.mono ?_; rintro en w4 ⟨rfl, rfl⟩)
        | (go_at_call 17; refine HADD.out.mono ?_
           rintro en w5 ⟨rfl, v, a5, n5, t5⟩
           have bl : Below wr.heap.size wr (wr.alloc (.cells #[.string s] 9)) := (Below.refl _ wr).alloc (Nat.le_refl _) _
           have tw5 := a5.turn
           (have K5 : Hid (Bm w g m (D.put (kI who) (.held v)) (updI V who v) (updI L who (L who ++ [s])) m2 D2 V2 L w5) := Lib.hid ((HA.out.bm.below bl).did a5 t5 (fun x b hb => by
             by_cases e : x = who
             · subst e
               rw [updI_same] at hb
               rcases n5 b hb with k | k
               · exact .inl ⟨x, k⟩
               · exact .inr k
             · rw [updI_other _ _ e] at hb
               exact .inl ⟨x, hb⟩)))
           (have c5 : w5.cell? ⟨wb, wo + j, none⟩ = some (.int .i64 who) := HCW.out w5 tw5)
           clear a5 n5 t5 bl tw5 cw' ct' HADD HCT)
        | fail)
      clear c5
      obtain ⟨V0, hV0⟩ : ∃ V, V = w5.drew := ⟨_, rfl⟩
      have K6 : Hid (Bm w g m (D.put (kI who) (.held v)) (updI V who v) (updI L who (L who ++ [s])) m2 D2 V2 L V0) := by
        rw [hV0]
        exact Lib.hid (K5.out.drewN 1)
      refine wp_region_heldK 14 (fun W => (Instr.lookup 48 (.map (some m2)) (.int .i64 who) false).run Try.prog W = .ok (V2 who) W ∧ W.cell? ⟨wb, wo + j, none⟩ = some (.int .i64 who)) V0 hV0 (by kernel_rfl) ?_
      have S0 : (fun W : World => (Instr.lookup 48 (.map (some m2)) (.int .i64 who) false).run Try.prog W = .ok (V2 who) W ∧ W.cell? ⟨wb, wo + j, none⟩ = some (.int .i64 who)) V0 := ⟨K6.out.mp.look who HF.out, HCW.out V0 K6.out.ag.turn⟩
      clear hV0 K5
      refine heldK_take 0 (some 53) (v := .map (some m2)) rfl rfl (by kernel_rfl) (by kernel_rfl) (by kernel_rfl) (by kernel_rfl) (by kernel_rfl) (by decide) (fun _ _ _ h => h) (.inl ⟨by kernel_rfl, fun _ _ => rfl⟩) S0 ?_
      refine heldK_take 1 (some 54) (v := .slice (some ⟨wb, wo, none⟩) lenW capW) rfl rfl (by kernel_rfl) (by kernel_rfl) (by kernel_rfl) (by kernel_rfl) (by kernel_rfl) (by decide) (fun _ _ _ h => h) (.inl ⟨by kernel_rfl, fun _ _ => rfl⟩) S0 ?_
      simp only [Act.put, List.setIfInBounds_toArray, List.set_cons_zero, List.set_cons_succ]
      refine heldK_take 2 (some 55) (v := .int .i64 j) rfl rfl (by kernel_rfl) (by kernel_rfl) (by kernel_rfl) (by kernel_rfl) (by kernel_rfl) (by decide) (fun _ _ _ h => h) (.inl ⟨by kernel_rfl, fun _ _ => rfl⟩) S0 ?_
      refine heldK_take 3 (some 56) (v := .pointer (some ⟨wb, wo + j, none⟩)) rfl rfl (by kernel_rfl) (by kernel_rfl) (by kernel_rfl) (by kernel_rfl) (by kernel_rfl) (by decide) (fun _ _ _ h => h) (.inl ⟨by kernel_rfl, fun V _ => by go_simp⟩) S0 ?_
      simp only [Act.put, List.setIfInBounds_toArray, List.set_cons_zero, List.set_cons_succ]
      refine heldK_take 4 (some 57) (v := .int .i64 who) rfl rfl (by kernel_rfl) (by kernel_rfl) (by kernel_rfl) (by kernel_rfl) (by kernel_rfl) (by decide) (fun _ _ _ h => h) (.inl ⟨by kernel_rfl, fun V hV => by (have c0 := hV.2); go_simp⟩) S0 ?_
      refine heldK_take 5 (some 58) (v := .map (some m2)) rfl rfl (by kernel_rfl) (by kernel_rfl) (by kernel_rfl) (by kernel_rfl) (by kernel_rfl) (by decide) (fun _ _ _ h => h) (.inl ⟨by kernel_rfl, fun _ _ => rfl⟩) S0 ?_
      simp only [Act.put, List.setIfInBounds_toArray, List.set_cons_zero, List.set_cons_succ]
      refine heldK_take 6 (some 59) (v := .slice (some ⟨wb, wo, none⟩) lenW capW) rfl rfl (by kernel_rfl) (by kernel_rfl) (by kernel_rfl) (by kernel_rfl) (by kernel_rfl) (by decide) (fun _ _ _ h => h) (.inl ⟨by kernel_rfl, fun _ _ => rfl⟩) S0 ?_
      refine heldK_take 7 (some 60) (v := .int .i64 j) rfl rfl (by kernel_rfl) (by kernel_rfl) (by kernel_rfl) (by kernel_rfl) (by kernel_rfl) (by decide) (fun _ _ _ h => h) (.inl ⟨by kernel_rfl, fun _ _ => rfl⟩) S0 ?_
      simp only [Act.put, List.setIfInBounds_toArray, List.set_cons_zero, List.set_cons_succ]
      refine heldK_take 8 (some 61) (v := .pointer (some ⟨wb, wo + j, none⟩)) rfl rfl (by kernel_rfl) (by kernel_rfl) (by kernel_rfl) (by kernel_rfl) (by kernel_rfl) (by decide) (fun _ _ _ h => h) (.inl ⟨by kernel_rfl, fun V _ => by go_simp⟩) S0 ?_
      refine heldK_take 9 (some 62) (v := .int .i64 who) rfl rfl (by kernel_rfl) (by kernel_rfl) (by kernel_rfl) (by kernel_rfl) (by kernel_rfl) (by decide) (fun _ _ _ h => h) (.inl ⟨by kernel_rfl, fun V hV => by (have c0 := hV.2); go_simp⟩) S0 ?_
      simp only [Act.put, List.setIfInBounds_toArray, List.set_cons_zero, List.set_cons_succ]
      refine heldK_take 10 (some 63) (v := V2 who) rfl rfl (by kernel_rfl) (by kernel_rfl) (by kernel_rfl) (by kernel_rfl) (by kernel_rfl) (by decide) (fun _ _ _ h => h) (.inl ⟨by kernel_rfl, fun V hV => by (have c0 := hV.1); go_simp⟩) S0 ?_
      refine heldK_take 11 (some 64) (v := .string s) rfl rfl (by kernel_rfl) (by kernel_rfl) (by kernel_rfl) (by kernel_rfl) (by kernel_rfl) (by decide) (fun _ _ _ h => h) (.inl ⟨by kernel_rfl, fun _ _ => rfl⟩) S0 ?_
      simp only [Act.put, List.setIfInBounds_toArray, List.set_cons_zero, List.set_cons_succ]
      refine heldK_one (i := 12) (by kernel_rfl) ?_
      have K7 : Hid (Bm w g m (D.put (kI who) (.held v)) (updI V who v) (updI L who (L who ++ [s])) m2 D2 V2 L (V0.alloc (.cells #[.string s] 9))) := Lib.hid (K6.out.below ((Below.refl _ V0).alloc (Nat.le_refl _) _))
      refine wpOp_value (some 65) (v := .slice (some ⟨V0.heap.size, 0, none⟩) 1 1) (w' := V0.alloc (.cells #[.string s] 9)) rfl rfl (by kernel_rfl) (by go_simp) ⟨⟨K7.out.mp.look who HF.out, HCW.out _ K7.out.ag.turn⟩, ?_⟩
      simp only [Act.put, List.setIfInBounds_toArray, List.set_cons_zero, List.set_cons_succ]
      refine heldK_one (i := 13) (by kernel_rfl) ?_
      refine wpOp_wp (o := ⟨some 66, _, _, _, _, _⟩) rfl (by kernel_rfl) (wp_append_seg _ (.tmp 63) (.tmp 65) 45 rfl 9 z0i z0 1 16 Try.underlying45 HI0.out HZ0.out hz1 hz3 hz2 (by decide) (V2 who) (L who).length (strs (L who)) rfl (K7.out.mp.seg who) ⟨V0.heap.size, 0, none⟩ 1 1 [.string s] rfl rfl (World.news_of_block (heap_alloc_new _ _)) (by simp [Value.oneCell']) (by decide) (by have := HA.out.len who; have := HJ.out; unfold maxLen; omega) (by have := HA.out.len who; have := HJ.out; omega) _ rfl ?_)
      intro g3 o3 c3 V3 sg gr hat hlt
      have hU : (V0.alloc (.cells #[.string s] 9)).heap.size = V0.heap.size + 1 := by simp
      have t3 : Turn (fun j => (V2 who).ownBlock = some j) V0 V3 := ((Turn.refl (fun j => (V2 who).ownBlock = some j) V0).alloc _).grown gr (fun j e _ => e)
      have new : ∀ x b, x ≠ who → (V2 x).ownBlock = some b → b ≠ g3 := fun x b hx hb e => by
        rcases hat with k | k
        · exact K6.out.mp.apart x who b hx hb (by rw [k, e])
        · have := (K6.out.mp.seg x).lt hb
          omega
      have lw : w.heap.size ≤ g3 := by
        rcases hat with k | k
        · exact K6.out.mp.nv who g3 k
        · have := K6.out.ag.turn.size
          omega
      obtain ⟨V4, hrun4, mp4, hg4⟩ := Mp.store (w := w) (W := V3) (m := m2) (D := D2) (V := V2) (L := L) (v := .slice (some ⟨g3, o3, none⟩) ((L who).length + 1) c3) (l := L who ++ [s]) (K6.out.mp.map.keep (t3.block m2 K6.out.mp.map.lt (K6.out.mp.map.seg (K6.out.mp.seg who)))) K6.out.mp.at_ K6.out.mp.has who HF.out
        (fun x hx => (K6.out.mp.seg x).turn t3 (fun b hb e => K6.out.mp.apart x who b hx hb e)) (by rw [List.length_append]; unfold sch.strs; rw [List.map_append]; exact sg)
        (by
          intro x y b hxy hb hb2
          by_cases ex : x = who
          · subst ex
            rw [updI_same] at hb
            rw [updI_other _ _ (fun e => hxy e.symm)] at hb2
            exact new y b (fun e => hxy e.symm) hb2 (by injection hb with hb; exact hb.symm)
          · rw [updI_other _ _ ex] at hb
            by_cases ey : y = who
            · subst ey
              rw [updI_same] at hb2
              exact new x b ex hb (by injection hb2 with hb2; exact hb2.symm)
            · rw [updI_other _ _ ey] at hb2
              exact K6.out.mp.apart x y b hxy hb hb2)
        (by simp) K6.out.mp.nm (by
          intro x b hb
          by_cases ex : x = who
          · subst ex
            rw [updI_same] at hb
            obtain rfl : g3 = b := by injection hb with hb
            exact lw
          · rw [updI_other _ _ ex] at hb
            exact K6.out.mp.nv x b hb) (by have := HA.out.s2; have := HJ.out; omega)
      have L4 : Hid (Awp w g m m2 (j + 1) V4) := Lib.hid ⟨_, _, _, _, _, K6.out.did2 mp4 who ((t3.more (F := fun j => j = m2 ∨ (V2 who).ownBlock = some j) (fun _ _ e => .inr e)).grown hg4 (fun j e _ => by injection e with e; exact .inl e.symm)) (fun x b hb => by
          by_cases ex : x = who
          · subst ex
            rw [updI_same] at hb
            obtain rfl : g3 = b := by injection hb with hb
            rcases hat with k | k
            · exact .inl ⟨x, k⟩
            · exact .inr (by omega)
          · rw [updI_other _ _ ex] at hb
            exact .inl ⟨x, hb⟩), fun x => by
          by_cases ex : x = who
          · subst ex
            rw [updI_same, List.length_append]
            have := HA.out.len x
            simp
            omega
          · rw [updI_other _ _ ex]
            have := HA.out.len x
            omega, by
          have h1 := sizeD_put HA.out.bm.ag.tidy who (.held v)
          have h2 := HA.out.s1
          omega, by
          have h1 := sizeD_put HA.out.bm.mp.tidy who (.held (.slice (some ⟨g3, o3, none⟩) ((L who).length + 1) c3))
          have h2 := HA.out.s2
          omega⟩
      have S3 : (fun W : World => (Instr.lookup 48 (.map (some m2)) (.int .i64 who) false).run Try.prog W = .ok (V2 who) W ∧ W.cell? ⟨wb, wo + j, none⟩ = some (.int .i64 who)) V3 := by
        have b3 : Bm w g m (D.put (kI who) (.held v)) (updI V who v) (updI L who (L who ++ [s])) m2 D2 V2 L V0 := K6.out
        refine ⟨?_, HCW.out V3 (b3.ag.turn.trans t3 (fun j _ e => b3.mp.nv who j e))⟩
        have hm3 : Mv V3 m2 D2 := b3.mp.map.keep (t3.block m2 b3.mp.map.lt (b3.mp.map.seg (b3.mp.seg who)))
        obtain ⟨v', ps, hrun, hv⟩ := World.ownsMap.lookup (e := 45) (show V3.ownsMap Try.prog 3 anyR m2 (Maps.size D2) D2 from hm3) intKeyed Try.underlying48 (zeroS V3) (zd := .held nilS) rfl (kI_of HF.out)
        rw [hrun]
        unfold anyR at hv
        rw [b3.mp.at_ who HF.out] at hv
        injection hv with hv
        injection hv with hv
        injection hv with hv
        rw [hv]
      have HR := Lib.hid hrun4
      clear t3 new lw mp4 hg4 hrun4 sg gr hat hlt hU S0
      refine ⟨S3, ?_⟩
      simp only [Act.put, List.setIfInBounds_toArray, List.set_cons_zero, List.set_cons_succ]
      refine heldK_at (by kernel_rfl) ?_
      refine wpOp_skip (w' := V4) rfl rfl (by kernel_rfl) (by have hr := HR.out; go_simp) ?_
      refine heldK_done (by kernel_rfl) ?_ _
      clear S3 HR K6 K7 HA HCW HF
      go_wp2_with fail
      refine ⟨⟨j + 1, by rw [Int.natCast_add]; rfl, by have := HJ.out; omega, L4⟩, ?_⟩
      have := HJ.out
      show 40 - ((j : Int) + 1).toNat < 40 - ((j : Int)).toNat
      omega
    · have hc : (¬ (j : Int) < (lenW : Int)) ∨ ((j : Int) < (lenW : Int) ∧ ¬ (j : Int) < (lenT : Int)) ∨ ((j : Int) < (lenW : Int) ∧ (j : Int) < (lenT : Int) ∧ ¬ (j : Int) < 40) := by omega
      obtain ⟨D, V, D2, V2, L, hA⟩ := HL.out
      have HA := Lib.hid hA
      have HWC := Lib.hid (who_calls hA.bm.ag (by have := hA.s1; omega))
      have HJ := Lib.hid hj
      clear HL HW HT hA hj hjw
      rcases hc with h1 | ⟨h1, h2⟩ | ⟨h1, h2, h3⟩
      all_goals
        go_wp2_with (first
          | (go_at_call 18; refine HWC.out.mono ?_
             rintro en w5 ⟨u, ks, rfl, u1, u2, u3, u4, u5, u6, b5⟩
             have hsz := HA.out.bm.mp.size HA.out.bm.ag
             (have C5 : Hid (Cw w g m m2 D V D2 V2 L L u ks w5) := Lib.hid ⟨HA.out.bm.below b5, u1, fun b hb => Nat.le_trans HA.out.bm.ag.turn.size (u6 b hb)⟩)
             (have KS : Hid (ks.Pairwise (· < ·) ∧ (∀ x, x ∈ ks ↔ L x ≠ []) ∧ (∀ x ∈ ks, sch.Fits x) ∧ ks.length ≤ 40 ∧ (∀ x, (L x).length ≤ 40) ∧ Maps.size D ≤ 40) := Lib.hid ⟨u2, u3, u4, by have := HA.out.s1; have := HJ.out; omega, fun x => by have := HA.out.len x; have := HJ.out; omega, by have := HA.out.s1; have := HJ.out; omega⟩)
             obtain ⟨ua, uc, rfl⟩ := u1.slice
             obtain ⟨n, hn⟩ : ∃ n, n = ks.length := ⟨_, rfl⟩
             have hlen := C5.out.bm.mp.len
             rw [← hsz, ← u5, ← hn] at hlen
             rw [← hn]
             rw [← hn] at C5
             have HN := Lib.hid hn
             have nn : ((n : Int) != (n : Int)) = false := by simp
             clear u1 u2 u3 u4 u5 u6 b5 hsz hn HWC HA)
          | fail)
        clear nn hlen h1
        go_loopw [76] (fun x wr => ∃ (i : Nat), x = .int .i64 i ∧ i ≤ n ∧ Hid (Cw w g m m2 D V D2 V2 L L (.slice ua n uc) ks wr)) (fun x _ => n - (RowKit.intOf x).toNat)
        case atStart => exact ⟨0, rfl, by omega, C5⟩
        case round =>
          clear C5
          obtain ⟨i, rfl, hi, HC⟩ := hrel
          by_cases hin : i < n
          · obtain ⟨k, hk⟩ : ∃ k, ks[i]? = some k := ⟨_, List.getElem?_eq_getElem (by have := HN.out; omega)⟩
            obtain ⟨ub, uc', hu, c1⟩ := HC.out.cell hk
            simp only [Value.slice.injEq] at hu
            obtain ⟨rfl, -, -⟩ := hu
            have hkm : k ∈ ks := List.mem_of_getElem? hk
            have hfk := KS.out.2.2.1 k hkm
            have hLk := (KS.out.2.1 k).1 hkm
            obtain ⟨va, vc, hv, _⟩ := (HC.out.bm.mp.seg k).slice
            obtain ⟨ln, hln⟩ : ∃ ln, ln = (L k).length := ⟨_, rfl⟩
            have hln0 : ((ln : Int) == 0) = false := by
              have : (L k).length ≠ 0 := fun e => hLk (List.eq_nil_of_length_eq_zero e)
              simp
              omega
            have hln1 : ((ln : Int) != (ln : Int)) = false := by simp
            have HLK : ∀ nn, (Instr.lookup 48 (.map (some m2)) (.int .i64 k) false).run Try.prog (wr.drewN nn) = .ok (.slice va ln vc) (wr.drewN nn) := fun nn => by
              have h1 := (HC.out.drewN nn).bm.mp.look k hfk
              rw [hv, ← hln] at h1
              exact h1
            have HLF : ∀ nn, Hid (Calls Try.prog 19 #[.pointer (some ⟨g, 0, none⟩), .int .i64 k] (wr.drewN nn) fun en w' => en = .returned (.int .i64 ln) ∧ wr.drewN nn = w') := fun nn => Lib.hid (by
              have h1 := left_calls (HC.out.drewN nn).bm.ag k hfk
              rw [← hln] at h1
              exact h1)
            obtain ⟨x, hx⟩ : ∃ x : Int, x = (i : Int) := ⟨_, rfl⟩
            have hx0 : 0 ≤ x := by omega
            have hx1 : x < (n : Int) := by omega
            have hn40 : (n : Int) ≤ 40 := by have := KS.out.2.2.2.1; have := HN.out; omega
            have ex : x.toNat = i := by omega
            rw [← ex] at c1
            rw [← hx]
            have hme : n - (x + 1).toNat < n - x.toNat := by omega
            have HME := Lib.hid (And.intro hme (And.intro hx hin))
            by_cases hi0 : i = 0
            · have d1 : decide (0 < x) = false := decide_eq_false (by omega)
              clear hk hkm hfk hLk hv hln hx ex hme hi0 hin hi
              go_wp2_with fail
              go_quiet (refine Calls.quiet_of_same ((HLF _).out.mono fun _ _ h => ⟨h.1, h.2.symm⟩))
              go_wp2_with fail
              refine ⟨⟨i + 1, by rw [HME.out.2.1, Int.natCast_add]; rfl, by have := HME.out.2.2; omega, Lib.hid (HC.out.drewN _)⟩, HME.out.1⟩
            · obtain ⟨pk, hpk⟩ : ∃ pk, ks[i - 1]? = some pk := ⟨_, List.getElem?_eq_getElem (by have := HN.out; omega)⟩
              obtain ⟨ub', uc2, hu2, c2⟩ := HC.out.cell hpk
              simp only [Value.slice.injEq, Option.some.injEq, Addr.mk.injEq, and_true] at hu2
              obtain ⟨rfl, -, -⟩ := hu2
              have hlt : pk < k := by
                have h1 := List.pairwise_iff_getElem.1 KS.out.1 (i - 1) i (by have := HN.out; omega) (by have := HN.out; omega) (by omega)
                rw [(List.getElem?_eq_some_iff.1 hk).2, (List.getElem?_eq_some_iff.1 hpk).2] at h1
                exact h1
              obtain ⟨z, hz⟩ : ∃ z : Int, z = x - 1 := ⟨_, rfl⟩
              have ez : z.toNat = i - 1 := by omega
              rw [← ez] at c2
              have z0 : 0 ≤ z := by omega
              have z1 : z < (n : Int) := by omega
              have hw : IntKind.i64.wrap (x - 1) = z := by rw [hz]; exact IntWalk.i64_in _ (by have := KS.out.2.2.2.1; have := HN.out; omega)
              have d1 : decide (0 < x) = true := decide_eq_true (by omega)
              have d2 : decide (k ≤ pk) = false := decide_eq_false (by omega)
              clear hk hkm hfk hLk hv hln hx ex hme hi0 hin hi hpk hlt hz ez
              go_wp2_with fail
              go_quiet (refine Calls.quiet_of_same ((HLF _).out.mono fun _ _ h => ⟨h.1, h.2.symm⟩))
              go_wp2_with fail
              refine ⟨⟨i + 1, by rw [HME.out.2.1, Int.natCast_add]; rfl, by have := HME.out.2.2; omega, Lib.hid (HC.out.drewN _)⟩, HME.out.1⟩
          · obtain rfl : i = n := by omega
            have hin2 : ¬ (i : Int) < (i : Int) := by omega
            have C6 := HC
            go_wp2_with fail
            have HF0 : Hid (Cw w g m m2 D V D2 V2 (rm ks 0 L) L (.slice ua i uc) ks wr) := by
              have e : rm ks 0 L = L := by funext x; unfold rm; simp
              rw [e]
              exact C6
            clear HC C6 hin hin2 hi
            go_loopw [112] (fun x wr => ∃ (p : Nat) (D : DataW Value) (V : Int → Value), x = .int .i64 p ∧ p ≤ i ∧ Hid (Cw w g m m2 D V D2 V2 (rm ks p L) L (.slice ua i uc) ks wr) ∧ Hid (Maps.size D ≤ 40 + 41 * p)) (fun x _ => i - (RowKit.intOf x).toNat)
            case atStart => exact ⟨0, D, V, rfl, Nat.zero_le _, HF0, Lib.hid (by have := KS.out.2.2.2.2.2; omega)⟩
            case round =>
              clear HF0
              obtain ⟨p, D, V, rfl, hp, HC, HSZ⟩ := hrel
              by_cases hpi : p < i
              · obtain ⟨k, hk⟩ : ∃ k, ks[p]? = some k := ⟨_, List.getElem?_eq_getElem (by have := HN.out; omega)⟩
                obtain ⟨ub, uc', hu, c1⟩ := HC.out.cell hk
                simp only [Value.slice.injEq] at hu
                obtain ⟨rfl, -, -⟩ := hu
                have hkm : k ∈ ks := List.mem_of_getElem? hk
                have hfk := KS.out.2.2.1 k hkm
                have hLk := (KS.out.2.1 k).1 hkm
                have hL40 := KS.out.2.2.2.2.1 k
                obtain ⟨ln, hln⟩ : ∃ ln, ln = (L k).length := ⟨_, rfl⟩
                have hln0 : 0 < (L k).length := by
                  have : (L k).length ≠ 0 := fun e => hLk (List.eq_nil_of_length_eq_zero e)
                  omega
                obtain ⟨vb, vo, vc, hv, -, -, -, -⟩ := (HC.out.bm.mp.seg k).cells hln0
                have hlook := HC.out.bm.mp.look k hfk
                rw [hv, ← hln] at hlook
                have hp1 : (p : Int) < (i : Int) := by omega
                have hp0 : (0 : Int) ≤ (p : Int) := by omega
                have hi40 : (i : Int) ≤ 40 := by have := KS.out.2.2.2.1; have := HN.out; omega
                have HK := Lib.hid (And.intro hk (And.intro hfk (And.intro hv (And.intro hln (And.intro hL40 hpi)))))
                clear hk hkm hfk hLk hv hln hln0 hL40 hpi hp
                go_wp2_with fail
                have HG0 : Hid (Cw w g m m2 D V D2 V2 (updI (rm ks p L) k ((L k).drop 0)) L (.slice (some ⟨ub, 0, none⟩) i uc) ks wr) := by
                  rw [List.drop_zero, ← rm_at KS.out.1 HK.out.1 L, updI_self]
                  exact HC
                clear HC hlook c1
                go_loopw [120] (fun x wr => ∃ (t : Nat) (D : DataW Value) (V : Int → Value), x = .int .i64 t ∧ t ≤ ln ∧ Hid (Cw w g m m2 D V D2 V2 (updI (rm ks p L) k ((L k).drop t)) L (.slice (some ⟨ub, 0, none⟩) i uc) ks wr) ∧ Hid (Maps.size D ≤ 40 + 41 * p + t)) (fun x _ => ln - (RowKit.intOf x).toNat)
                case atStart => exact ⟨0, D, V, rfl, Nat.zero_le _, HG0, HSZ⟩
                case round =>
                  clear HG0 HSZ
                  obtain ⟨t, D, V, rfl, ht, HC, HSZ⟩ := hrel
                  by_cases htl : t < ln
                  · have hlk := HK.out.2.2.2.1
                    obtain ⟨s, hs⟩ : ∃ s, (L k)[t]? = some s := ⟨_, List.getElem?_eq_getElem (by omega)⟩
                    have hdr : (L k).drop t = s :: (L k).drop (t + 1) := by
                      obtain ⟨h1, h2⟩ := List.getElem?_eq_some_iff.1 hs
                      rw [← h2]
                      exact List.drop_eq_getElem_cons h1
                    obtain ⟨vb', vo', vc', hv', -, -, -, hcell⟩ := (HC.out.bm.mp.seg k).cells (by omega)
                    have hvv := HK.out.2.2.1
                    rw [hvv] at hv'
                    simp only [Value.slice.injEq, Option.some.injEq, Addr.mk.injEq, and_true, true_and] at hv'
                    obtain ⟨⟨rfl, rfl⟩, rfl⟩ := hv'
                    have cs : wr.cell? ⟨vb, vo + t, none⟩ = some (.string s) := hcell t (.string s) (by unfold sch.strs; rw [List.getElem?_map, hs]; rfl)
                    have hfk := HK.out.2.1
                    have htake : Hid (Calls Try.prog 20 #[.pointer (some ⟨g, 0, none⟩), .int .i64 k] wr (sch.TakePost w g m V (updI (rm ks p L) k ((L k).drop t)) D k s ((L k).drop (t + 1)) wr)) := by
                      by_cases hr : (L k).drop (t + 1) = []
                      · rw [hr]
                        exact Lib.hid (sch.take_last HC.out.bm.ag k hfk s (by rw [updI_same, hdr, hr]))
                      · exact Lib.hid (sch.take_more HC.out.bm.ag k hfk s _ (by rw [updI_same, hdr]) hr (by rw [List.length_drop]; have := HK.out.2.2.2.2.1; omega) (by have := HSZ.out; have := HK.out; have h4 := KS.out.2.2.2.1; have h5 := HN.out; omega))
                    have ht1 : (t : Int) < (ln : Int) := by omega
                    have ht0 : (0 : Int) ≤ (t : Int) := by omega
                    have hl40 : (ln : Int) ≤ 40 := by have := HK.out.2.2.2.2.1; omega
                    have hss : (s.toList != s.toList) = false := by simp
                    have HTL := Lib.hid htl
                    clear hs hdr hvv hcell hlk hfk htl
                    go_wp2_with (first
                      | (go_at_call 20; refine htake.out.mono ?_
                         rintro en w7 ⟨rfl, D7, v7, a7, n7, s7, t7⟩
                         rw [updI_updI] at a7
                         (have K7 : Hid (Cw w g m m2 D7 (updI V k v7) D2 V2 (updI (rm ks p L) k ((L k).drop (t + 1))) L (.slice (some ⟨ub, 0, none⟩) i uc) ks w7 ∧ Maps.size D7 ≤ 40 + 41 * p + (t + 1)) := Lib.hid ⟨HC.out.did a7 t7 (fun x b hb => by
                           by_cases e : x = k
                           · subst e
                             rw [updI_same] at hb
                             exact .inl ⟨x, n7 b hb⟩
                           · rw [updI_other _ _ e] at hb
                             exact .inl ⟨x, hb⟩), by have := HSZ.out; omega⟩)
                         clear a7 n7 s7 t7 htake HC HSZ cs)
                      | fail)
                    refine ⟨⟨t + 1, D7, _, by rw [Int.natCast_add]; rfl, by have := HTL.out; omega, Lib.hid K7.out.1, Lib.hid K7.out.2⟩, ?_⟩
                    have := HTL.out
                    show ln - ((t : Int) + 1).toNat < ln - ((t : Int)).toNat
                    omega
                  · obtain rfl : t = ln := by omega
                    have htl2 : ¬ (t : Int) < (t : Int) := by omega
                    have hnil : (L k).drop t = [] := by rw [HK.out.2.2.2.1, List.drop_length]
                    rw [hnil, ← rm_next HK.out.1 L] at HC
                    have hr0 : rm ks (p + 1) L k = [] := by rw [rm_next HK.out.1 L, updI_same]
                    have HT0 := Lib.hid (take_none HC.out.bm.ag k HK.out.2.1 hr0)
                    have hlc := left_calls HC.out.bm.ag k HK.out.2.1
                    rw [hr0] at hlc
                    have HLC : Hid (Calls Try.prog 19 #[.pointer (some ⟨g, 0, none⟩), .int .i64 k] wr fun en W' => en = .returned (.int .i64 0) ∧ wr = W') := Lib.hid hlc
                    have hL40 : Hid (t ≤ 40) := Lib.hid (by have := HK.out.2.2.2.1; have := HK.out.2.2.2.2.1; omega)
                    clear hnil hr0 hlc htl ht
                    go_wp2_with (first
                      | (go_at_call 20; refine HT0.out.mono ?_; rintro en w7 ⟨rfl, rfl⟩)
                      | (go_at_call 19; refine HLC.out.mono ?_; rintro en w8 ⟨rfl, rfl⟩)
                      | fail)
                    have hpi := HK.out.2.2.2.2.2
                    refine ⟨⟨p + 1, D, V, by rw [Int.natCast_add]; rfl, by omega, HC, Lib.hid (by have := HSZ.out; have := hL40.out; omega)⟩, ?_⟩
                    show i - ((p : Int) + 1).toNat < i - ((p : Int)).toNat
                    omega
              · obtain rfl : p = i := by omega
                have hpp : ¬ (p : Int) < (p : Int) := by omega
                have hall : ∀ x, rm ks p L x = [] := fun x => by rw [HN.out]; exact rm_all KS.out.2.1 x
                have HAL := Lib.hid hall
                have HWC := Lib.hid (who_calls HC.out.bm.ag (by have := HSZ.out; have := KS.out.2.2.2.1; have := HN.out; omega))
                clear hall hpi hp
                go_wp2_with (first
                  | (go_at_call 18; refine HWC.out.mono ?_
                     rintro en w9 ⟨u9, ks9, rfl, i9, _, m9, _, _, _, b9⟩
                     have h0 : ks9 = [] := List.eq_nil_iff_forall_not_mem.2 (fun x hx => (m9 x).1 hx (HAL.out x))
                     rw [h0] at i9
                     obtain ⟨ua9, uc9, rfl⟩ := i9.slice
                     (have E9 : Hid (Below w.heap.size w w9) := Lib.hid (HC.out.bm.ag.ends.trans (b9.mono HC.out.bm.ag.turn.size)))
                     clear i9 m9 b9 h0 HWC)
                  | fail)
                go_ret
                exact ⟨rfl, E9.out⟩

def Arg0 (w : World) (a : Option Addr) (len cap : Nat) : Prop := ∃ T, ArgI w a len cap T
def Arg1 (w : World) (a : Option Addr) (len cap : Nat) : Prop := ∃ T, ArgS w a len cap T

theorem walk (a0 : Option Addr) (len0 cap0 : Nat) (a1 : Option Addr) (len1 cap1 : Nat) (w : World) (w0 : Arg0 w a0 len0 cap0) (w1 : Arg1 w a1 len1 cap1) :
    Calls Try.prog 4 #[.slice a0 len0 cap0, .slice a1 len1 cap1] w fun en w' => en = .returned (.bool true) ∧ Below w.heap.size w w' := by
  obtain ⟨T, hT⟩ := w0
  obtain ⟨X, hX⟩ := w1
  exact agenda_any a0 len0 cap0 T a1 len1 cap1 X w hT hX

theorem opened0 {H : Type} {enc : TypeId × Value → H} {w : World} {spare : Nat → Bool} {held : Bool} {a : Option Addr} {len cap : Nat} {d : DataW H} {p : List MemPlace} (h : DataW.Trod enc Try.prog w 0 spare held 22 (.slice a len cap) d p) : Arg0 w a len cap := openedI h
theorem opened1 {H : Type} {enc : TypeId × Value → H} {w : World} {spare : Nat → Bool} {held : Bool} {a : Option Addr} {len cap : Nat} {d : DataW H} {p : List MemPlace} (h : DataW.Trod enc Try.prog w 0 spare held 45 (.slice a len cap) d p) : Arg1 w a len cap := openedStrs h

theorem own : ownKnob Try.prog.godebug = none := by kernel_rfl
theorem laidOut : laidOutB Try.prog = true := by kernel_rfl

set_option maxRecDepth 100000 in
theorem lifted (os : Os) (started : os.Started) (H : Type) (enc : TypeId × Value → H) :
    ReturnsInHanded {} Try.checked os 4 .any (Rows.schedAgendaSpec.pre6 enc Try.prog Try.f4 Rows.schedAgendaRow.domain false) (Rows.schedAgendaSpec.post enc Try.prog Try.f4 false true false false) := by
  refine returnsInHanded_of_change (C := Try.checked) own started (by kernel_rfl) Try.func4
    (ChangeSpec.witness6 (enc := enc) (C := Try.checked) false ⟨#[], #[.slice none 0 0, .slice none 0 0], []⟩ 8 (by kernel_rfl) (by kernel_rfl) (by kernel_rfl) (by kernel_rfl)) ?_
  intro W base args ds gs before hval0 hW _ _
  have hval : ∀ (j : Nat) t v, Try.f4.params[j]? = some t → args[j]? = some v → Value.okWide Try.prog W .any base t v := hval0
  have hW' := hW
  obtain ⟨p, q, hA0, hV, rfl, _, _⟩ := hW
  have hA : DataW.TrodAll enc Try.prog W 0 (fun _ => true) true Try.f4.params.toList args.toList ds p := hA0
  rw [Try.params4] at hA hval
  obtain ⟨v0, vs0, d0, ds0, p0, q0, hargs, rfl, rfl, h0, r0⟩ := trodAll_cons hA
  obtain ⟨v1, vs1, d1, ds1, p1, q1, rfl, rfl, rfl, h1, r1⟩ := trodAll_cons r0
  obtain ⟨rfl, rfl, rfl⟩ := trodAll_nil r1
  obtain rfl : args = #[v0, v1] := by cases args; simp_all
  obtain ⟨rfl, rfl⟩ := trodVars_none hV
  obtain ⟨a0, len0, cap0, rfl⟩ := okWide_slice Try.underlying22 (hval 0 22 v0 rfl rfl)
  have k0 := h0
  have lt0 : ∀ x ∈ p0, x.block < W.heap.size := by obtain ⟨m, hm⟩ := k0; exact DataW.trod_lt m _ _ _ hm
  have w0 : Arg0 W a0 len0 cap0 := opened0 h0
  obtain ⟨a1, len1, cap1, rfl⟩ := okWide_slice Try.underlying45 (hval 1 45 v1 rfl rfl)
  have k1 := h1
  have lt1 : ∀ x ∈ p1, x.block < W.heap.size := by obtain ⟨m, hm⟩ := k1; exact DataW.trod_lt m _ _ _ hm
  have w1 : Arg1 W a1 len1 cap1 := opened1 h1
  clear hA0 hval0
  refine (walk a0 len0 cap0 a1 len1 cap1 W w0 w1).mono fun e W' ⟨he, bel⟩ => ?_
  subst he
  exact ⟨_, rfl, _, _, _, [], _, [], hW', trodAll_mk1 (shut_bool Try.underlying4 _), (trodAll_cons_mk (Below.trod laidOut (by kernel_rfl) (of_decide_eq_true (by kernel_rfl)) k0 bel lt0) (trodAll_cons_mk (Below.trod laidOut (by kernel_rfl) (of_decide_eq_true (by kernel_rfl)) k1 bel lt1) trodAll_mk0)), rfl, bel.frame _, fun h => by cases h⟩

theorem over : Rows.schedAgendaRow.holds Try.pinned (OpenSpec.ofChange Rows.schedAgendaSpec) :=
  OpenClaim.holds_of_wide 4 Try.f4 rfl rfl rfl rfl rfl rfl rfl ⟨rfl, rfl, rfl, rfl, rfl⟩ rfl rfl rfl rfl rfl (by kernel_rfl) Try.func4 (by kernel_rfl)
    (of_decide_eq_true (by kernel_rfl)) (by unfold Func.isWrapper; first | (rw [if_pos (by decide +kernel)]; kernel_rfl) | (rw [if_neg (by decide +kernel)]; exact ⟨rfl, rfl⟩))
    (fun os started H enc _ => lifted os started H enc)

theorem proved : Rows.SchedAgendaSaid := over

end Go.Proofs.Ytbpnbnbglfiglaa.schedAgenda
