/- clash: Way, where it answers. -/
import Derived.Test.YtnbhjffmaememaaDoorClaC
namespace Go.Proofs.YtnbhjffmaememaaDoor.clash
open Go Go.RowKit Go.Proofs.YtnbhjffmaememaaDoor.dig

/-- A leaf's text. -/
def leafT (s : ByteArray) : ByteArray := (⟨#[0]⟩ : ByteArray) ++ s
theorem leafT_size (s : ByteArray) : (leafT s).size = s.size + 1 := by
  simp only [leafT, ByteArray.size_append]
  rw [show (⟨#[0]⟩ : ByteArray).size = 1 from rfl]
  omega

/-- The texts of a way. -/
def wayL (m : Nat) (X : Nat → ByteArray) (s : ByteArray) : List Value := (List.range m).map (fun p => Value.string (X (m - 1 - p))) ++ [.string (leafT s)]
theorem textsC_full (m : Nat) (X : Nat → ByteArray) : (textsC m m X).toList = (List.range m).map (fun p => Value.string (X (m - 1 - p))) := by
  unfold textsC
  apply List.map_congr_left
  intro p hp
  rw [List.mem_range] at hp
  rw [if_pos (by omega)]

/-- A way was answered, in new memory. -/
def WayPost (w : World) (m : Nat) (X : Nat → ByteArray) (s : ByteArray) (en : Ending) (w' : World) : Prop :=
  ∃ v, en = .returned (.tuple #[v, .bool true]) ∧ Seg w' 9 1 v (m + 1) (wayL m X s) ∧ (∀ x, v.ownBlock = some x → w.heap.size ≤ x) ∧ Below w.heap.size w w'

set_option maxRecDepth 100000 in
set_option maxHeartbeats 2000000 in
theorem way_calls (s : ByteArray) (i n : Nat) (sv : Value) (SL : List (List UInt8)) (w : World) (hR : Rk w) (hin : i < n) (hn : n ≤ 1000000) (hss : s.size < 1000000) (hlen : (turnsL i n).length = SL.length)
    (hs : Seg w 29 32 sv SL.length (sumsC SL)) (hSL : ∀ x ∈ SL, x.length = 32) :
    Calls Tryd.prog 55 #[.string s, .int .i64 i, .int .i64 n, sv] w (WayPost w SL.length (textN (fun k => (turnsL i n).getD (SL.length - 1 - k) false) (sum (leafT s).data.toList) (fun k => SL.getD k [])) s) := by
  obtain ⟨X, hX⟩ : ∃ X, X = textN (fun k => (turnsL i n).getD (SL.length - 1 - k) false) (sum (leafT s).data.toList) (fun k => SL.getD k []) := ⟨_, rfl⟩
  rw [← hX]
  have h64 : SL.length ≤ 64 := by rw [← hlen]; have := turnsL_le 20 n i (by omega); omega
  have HX := Lib.hid hX
  obtain ⟨m, hm⟩ : ∃ m, m = SL.length := ⟨_, rfl⟩
  rw [← hm] at hlen h64
  obtain ⟨sa, sc, hsv, hs1, hs2⟩ := hs.slice
  rw [← hm] at hsv
  subst hsv
  have HM := Lib.hid hm
  have HS := Lib.hid hs
  have HSL := Lib.hid hSL
  have HR := Lib.hid hR
  have HL := Lib.hid hlen
  rw [← hm]
  clear hX hm hs hSL hR hlen hs1 hs2
  have hmi : (m : Int) ≤ 64 := by omega
  have g1 : ¬ (i : Int) < 0 := by omega
  have g2 : ¬ (n : Int) ≤ (i : Int) := by omega
  have hni : (n : Int) ≤ 1000000 := by omega
  have hsz1 : (s.size : Int) < 1000000 := by omega
  go_enter Tryd.func55, Tryd.ntmps55
  go_wp2_with fail
  refine (turns_calls i n w hin hn).mono ?_
  rintro en w1 ⟨tv, rfl, t1, tlo, b1⟩
  obtain ⟨ta, tc, htv, -, -⟩ := t1.slice
  rw [HL.out] at htv
  subst htv
  have K1 : Hid (Seg w1 4 1 (.slice ta m tc) (turnsL i n).length ((turnsL i n).map Value.bool) ∧ Seg w1 29 32 (.slice sa m sc) SL.length (sumsC SL) ∧ Rk w1 ∧ Below w.heap.size w w1) :=
    Lib.hid ⟨t1, HS.out.below b1 (fun x hx => HS.out.lt hx), HR.out.below b1, b1⟩
  clear t1 tlo b1 HS HR
  go_wp2_with fail
  rw [show (⟨#[0]⟩ : ByteArray) ++ s = leafT s from rfl]
  have HLT : Hid ((leafT s).size < 1000000000000000000) := Lib.hid (by rw [leafT_size]; omega)
  have HWL : Hid (wayL m X s = (textsC m m X).toList ++ [.string (leafT s)]) := Lib.hid (by rw [textsC_full]; rfl)
  obtain ⟨t, ht⟩ : ∃ t, t = leafT s := ⟨_, rfl⟩
  rw [← ht] at HLT HWL HX ⊢
  have HT := Lib.hid ht
  clear ht
  refine (of_calls t w1 K1.out.2.2.1 HLT.out).mono ?_
  rintro en w2 ⟨rfl, b2⟩
  have K2 : Hid (Seg w2 4 1 (.slice ta m tc) (turnsL i n).length ((turnsL i n).map Value.bool) ∧ Seg w2 29 32 (.slice sa m sc) SL.length (sumsC SL) ∧ Rk w2 ∧ Below w.heap.size w w2) :=
    Lib.hid ⟨K1.out.1.below b2 (fun x hx => K1.out.1.lt hx), K1.out.2.1.below b2 (fun x hx => K1.out.2.1.lt hx), K1.out.2.2.1.below b2, K1.out.2.2.2.trans (b2.mono K1.out.2.2.2.size)⟩
  clear K1 b2
  have HCL : Hid ((sum t.data.toList).length = 32) := Lib.hid (sum_length _)
  obtain ⟨c, hc⟩ : ∃ c, c = sum t.data.toList := ⟨_, rfl⟩
  rw [← hc] at HCL HX ⊢
  clear hc
  go_wp2_with fail
  refine (nodes_calls _ _ (turnsL i n) SL c w2 K2.out.2.2.1 HCL.out (HL.out.trans HM.out) (by rw [← HM.out]; exact h64) K2.out.1 K2.out.2.1 HSL.out).mono ?_
  rw [← HX.out, ← HM.out]
  rintro en w3 ⟨tg, rfl, h3, hlo, b3⟩
  have K3 : Hid (Seg w3 9 1 (.slice (some ⟨tg, 0, none⟩) m m) m (textsC m m X).toList ∧ w.heap.size ≤ tg ∧ Below w.heap.size w w3) :=
    Lib.hid ⟨Seg.of_has h3 (by rw [textsC_size, Nat.mul_one]) (by unfold maxLen; omega), Nat.le_trans K2.out.2.2.2.size hlo, K2.out.2.2.2.trans (b3.mono K2.out.2.2.2.size)⟩
  clear h3 hlo b3 K2
  obtain ⟨z0i, hi0, hz0, hz1, hz2⟩ := strZero
  have HI0 := Lib.hid hi0
  have HZ0 := Lib.hid hz0
  clear hi0 hz0
  go_wp2_with (first
    | ((with_reducible refine at_op 36 ?_); refine wpList_append_seg (o := ⟨some 36, _, _, _, _, _⟩) _ rfl (.tmp 33) (.tmp 35) 22 rfl 9 z0i (.string ByteArray.empty) 1 16 Tryd.underlying22 HI0.out HZ0.out hz1 hz2 rfl (by decide) (.slice (some ⟨tg, 0, none⟩) m m) m (textsC m m X).toList rfl (K3.out.1.alloc _) ⟨w3.heap.size, 0, none⟩ 1 1 [.string t] rfl rfl (World.news_of_block (heap_alloc_new _ _)) (by simp [Value.oneCell']) (by decide) (by unfold maxLen; omega) (by omega) _ rfl ?_;
       intro g off cp w4 hown hgrow hat hlt)
    | fail)
  go_ret2
  rw [← HWL.out] at hown
  refine ⟨_, rfl, hown, fun x hx => ?_, ?_⟩
  · have e : g = x := by simpa [Value.ownBlock] using hx
    rw [← e]
    rcases hat with h | h
    · have e : tg = g := by simpa [Value.ownBlock] using h
      rw [← e]; exact K3.out.2.1
    · rw [h]; exact Nat.le_trans K3.out.2.2.size (by simp)
  · exact (K3.out.2.2.alloc K3.out.2.2.size _).trans (below_own hgrow (fun x hx => by
      have e : tg = x := by simpa [Value.ownBlock] using hx
      rw [← e]; exact K3.out.2.1) (Nat.le_trans K3.out.2.2.size (by simp)))
end Go.Proofs.YtnbhjffmaememaaDoor.clash
