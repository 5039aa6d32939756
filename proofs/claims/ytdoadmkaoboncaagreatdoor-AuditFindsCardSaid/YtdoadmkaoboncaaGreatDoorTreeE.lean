/- tree: inclusion, consistency. -/
import Derived.Test.YtdoadmkaoboncaaGreatDoorTreeD
import Derived.Test.YtdoadmkaoboncaaGreatDoorBld
namespace Go.Proofs.YtdoadmkaoboncaaGreatDoor.dig
open Go Go.RowKit

theorem pow_half {n K : Nat} (h2 : 2 ≤ n) (hn : n ≤ 2 ^ K) : ∃ i, half n = 2 ^ i ∧ i < K := by
  refine ⟨Nat.log2 (n - 1), rfl, pow_lt_iff ?_⟩
  have := half_lt h2
  unfold half at this
  omega
theorem av_right {fl a n K : Nat} (h2 : 2 ≤ n) (hd : 2 ^ K ∣ a) (hn : n ≤ 2 ^ K) (hf : fl < a + n) : Av fl (a + half n) (n - half n) := by
  obtain ⟨i, hi, hK⟩ := pow_half h2 hn
  have h1 := half_lt h2
  have h3 := half_ge h2
  rw [hi] at *
  exact .inr (.inr ⟨by omega, i, (Nat.dvd_add_iff_left (Nat.dvd_refl _)).1 (dvd_of_le hd (Nat.le_of_lt hK)), by omega, by omega⟩)
theorem av_left {fl a n K : Nat} (h2 : 2 ≤ n) (hd : 2 ^ K ∣ a) (hn : n ≤ 2 ^ K) (hf : fl < a + 2 * half n) : Av fl a (half n) := by
  obtain ⟨i, hi, hK⟩ := pow_half h2 hn
  exact .inl ⟨i, hi, dvd_of_le hd hK, by rw [Nat.pow_succ, ← hi]; omega⟩
theorem dv_left {a n K : Nat} (h2 : 2 ≤ n) (hd : 2 ^ K ∣ a) (hn : n ≤ 2 ^ K) : ∃ J, 2 ^ J ∣ a ∧ half n ≤ 2 ^ J := by
  obtain ⟨i, hi, hK⟩ := pow_half h2 hn
  exact ⟨i, dvd_of_le hd (Nat.le_of_lt hK), by rw [hi]; exact Nat.le_refl _⟩
theorem dv_right {a n K : Nat} (h2 : 2 ≤ n) (hd : 2 ^ K ∣ a) (hn : n ≤ 2 ^ K) : ∃ J, 2 ^ J ∣ a + half n ∧ n - half n ≤ 2 ^ J := by
  obtain ⟨i, hi, hK⟩ := pow_half h2 hn
  have h3 := half_ge h2
  exact ⟨i, by rw [hi]; exact (Nat.dvd_add_iff_left (Nat.dvd_refl _)).1 (dvd_of_le hd (Nat.le_of_lt hK)), by omega⟩



theorem below_own {B : Nat} {w w' : World} {v : Value} (h : w.grownBy w' v.ownBlock) (hv : ∀ x, v.ownBlock = some x → B ≤ x) (hB : B ≤ w.heap.size) : Below B w w' :=
  ⟨h.os, h.tape, h.output, h.size, fun i hi => h.block i (by omega) (fun e => by have := hv i e.symm; omega)⟩

/-- A list of sums was answered, in new memory. -/
def SumsPost (w : World) (l : List (List UInt8)) (en : Ending) (w' : World) : Prop :=
  ∃ v, en = .returned v ∧ Seg w' 38 32 v l.length (sumsC l) ∧ (∀ x, v.ownBlock = some x → w.heap.size ≤ x) ∧ Below w.heap.size w w'

set_option maxRecDepth 100000 in
set_option maxHeartbeats 2000000 in
theorem incl_calls (B : Nat) (F : Nat → Prop) (b N fl : Nat) (f : Nat → List UInt8) (hN : N < 1024) : ∀ (n i a K : Nat) (w : World), Tr B F w b N fl f → 2 ^ K ∣ a → n ≤ 2 ^ K → a + n ≤ N → i < n → fl ≤ a + i →
    Calls Tryz.prog 76 #[.pointer (some ⟨b, 0, none⟩), .int .i64 i, .int .i64 a, .int .i64 n] w (SumsPost w (path f i a n)) := by
  intro n
  induction n using Nat.strongRecOn with
  | _ n ih =>
  intro i a K w hT hd hnK han hin hfl
  by_cases h2 : 2 ≤ n
  · have h1 := half_lt h2
    have h0 := half_pos n
    have h3 := half_ge h2
    obtain ⟨k, hk⟩ : ∃ k, k = half n := ⟨_, rfl⟩
    obtain ⟨n', hn'⟩ : ∃ n', n' = n - k := ⟨_, rfl⟩
    obtain ⟨a', ha'⟩ : ∃ a', a' = a + k := ⟨_, rfl⟩
    have hk1 : (n : Int) - (k : Int) = (n' : Int) := by omega
    have hk2 : (a : Int) + (k : Int) = (a' : Int) := by omega
    have hk3 : (a' : Int) ≤ 1000000 := by omega
    have hk4 : (n' : Int) ≤ 1000000 := by omega
    have hb1 : (n : Int) ≤ 1000000 := by omega
    have hb2 : (a : Int) ≤ 1000000 := by omega
    have hb3 : (k : Int) ≤ 1000000 := by omega
    have hb4 : (i : Int) ≤ 1000000 := by omega
    have hn2 : ¬ (n : Int) = 1 := by omega
    have hn1000 : n ≤ 1000000000000 := by omega
    have HK := Lib.hid hk
    by_cases hik : i < k
    · have hik2 : (i : Int) < (k : Int) := by omega
      obtain ⟨J, hJ1, hJ2⟩ := dv_left h2 hd hnK
      have hav := av_right (fl := fl) h2 hd hnK (by omega)
      rw [← hk] at hJ2
      rw [← hk, ← ha', ← hn'] at hav
      have hp : path f i a n = path f i a k ++ [rt f a' n'] := by rw [path, dif_pos h2, if_pos (by rw [← hk]; exact hik), ← hk, ← ha', ← hn']
      have HP := Lib.hid hp
      have HI := Lib.hid (fun w' (h : Tr B F w' b N fl f) => ih k (by omega) i a J w' h hJ1 hJ2 (by omega) hik hfl)
      have HQ := Lib.hid (fun w' (h : Tr B F w' b N fl f) => root_calls B F b N fl f hN n' a' w' h hav (by omega))
      have HL := Lib.hid (rt_len hT.len a' n' (by omega))
      have HM : Hid ((path f i a k).length ≤ 64) := Lib.hid (by have := path_le f 10 k a i (by omega); omega)
      have HT := Lib.hid hT
      clear ih hT hd hnK han hin hfl h1 h0 h3 hk hn' ha' hJ1 hJ2 hav hp hik
      generalize path f i a k = l at *
      generalize rt f a' n' = x at *
      go_enter Tryz.func76, Tryz.ntmps76
      go_wp2_with fail
      refine (half_calls n w h2 hn1000).mono ?_
      rw [← HK.out]
      rintro e w' ⟨rfl, rfl⟩
      go_wp2_with fail
      refine (HI.out _ HT.out).mono ?_
      rintro e w1 ⟨v, rfl, s1, lo1, b1⟩
      have T1 : Hid (Tr B F w1 b N fl f ∧ Below w.heap.size w w1 ∧ Seg w1 38 32 v l.length (sumsC l) ∧ (∀ x, v.ownBlock = some x → w.heap.size ≤ x)) := Lib.hid ⟨HT.out.below b1, b1, s1, lo1⟩
      clear s1 lo1 b1 HT
      go_wp2_with fail
      refine (HQ.out _ T1.out.1).mono ?_
      rintro e w2 ⟨rfl, b2⟩
      have T2 : Hid (Below w.heap.size w w2 ∧ Seg w2 38 32 v l.length (sumsC l) ∧ (∀ x, v.ownBlock = some x → w.heap.size ≤ x)) := Lib.hid ⟨T1.out.2.1.trans (b2.mono T1.out.2.1.size), T1.out.2.2.1.below b2 (fun x hx => T1.out.2.2.1.lt hx), T1.out.2.2.2⟩
      clear T1 b2
      obtain ⟨i0, z0, hi0, hz0, hz1, hz2, hz3⟩ := sumInfo
      have HI0 := Lib.hid hi0
      have HZ0 := Lib.hid hz0
      clear hi0 hz0
      go_wp2_with (first
        | ((with_reducible refine at_op 30 ?_); refine wpList_build_one (o := ⟨some 30, _, _, _, _, _⟩) rfl 23 38 _ rfl i0 z0 Tryz.underlying23 HI0.out HZ0.out (cellsOf x) rfl (by rw [hz1, cellsOf_size, HL.out]) (by rw [cellsOf_size, HL.out]; decide) (by rw [cellsOf_size, HL.out]; decide) w2.heap.size rfl ?_; intro W3 HW3 BW3;
           (have T3 : Hid (Below w.heap.size w W3 ∧ Seg W3 38 32 v l.length (sumsC l) ∧ (∀ x, v.ownBlock = some x → w.heap.size ≤ x) ∧ Has W3 w2.heap.size 38 (cellsOf x)) := Lib.hid ⟨T2.out.1.trans (BW3.mono T2.out.1.size), T2.out.2.1.below BW3 (fun x hx => T2.out.2.1.lt hx), T2.out.2.2, HW3⟩);
           clear T2 HW3 BW3)
        | ((with_reducible refine at_op 31 ?_); refine wpList_append_seg (o := ⟨some 31, _, _, _, _, _⟩) _ rfl (.tmp 21) (.tmp 30) 23 rfl 38 i0 z0 32 32 Tryz.underlying23 HI0.out HZ0.out hz1 hz3 hz2 (by decide) v l.length (sumsC l) rfl T3.out.2.1 ⟨w2.heap.size, 0, none⟩ 1 1 (x.map byteV) rfl (by rw [List.length_map, HL.out]) (World.news_of_block T3.out.2.2.2) (byteV_one _) (by decide) (by have := HM.out; unfold maxLen; omega) (by have := HM.out; omega) _ rfl ?_;
           intro g off cap w4 hown hgrow hat hlt)
        | fail)
      go_ret
      rw [HP.out]
      refine ⟨_, rfl, ?_, ?_, ?_⟩
      · rw [sumsC_snoc, List.length_append]; exact hown
      · intro y hy
        have e : g = y := by simpa [Value.ownBlock] using hy
        rw [← e]
        rcases hat with h | h
        · exact T3.out.2.2.1 g h
        · rw [h]; exact T3.out.1.size
      · exact T3.out.1.trans (below_own hgrow T3.out.2.2.1 T3.out.1.size)
    · have hik2 : ¬ (i : Int) < (k : Int) := by omega
      obtain ⟨i', hi'⟩ : ∃ i', i' = i - k := ⟨_, rfl⟩
      have hk5 : (i : Int) - (k : Int) = (i' : Int) := by omega
      have hk6 : (i' : Int) ≤ 1000000 := by omega
      obtain ⟨J, hJ1, hJ2⟩ := dv_right h2 hd hnK
      have hav := av_left (fl := fl) h2 hd hnK (by omega)
      rw [← hk, ← ha'] at hJ1
      rw [← hk, ← hn'] at hJ2
      rw [← hk] at hav
      have hp : path f i a n = path f i' a' n' ++ [rt f a k] := by rw [path, dif_pos h2, if_neg (by rw [← hk]; exact hik), ← hk, ← ha', ← hn', ← hi']
      have HP := Lib.hid hp
      have HI := Lib.hid (fun w' (h : Tr B F w' b N fl f) => ih n' (by omega) i' a' J w' h hJ1 hJ2 (by omega) (by omega) (by omega))
      have HQ := Lib.hid (fun w' (h : Tr B F w' b N fl f) => root_calls B F b N fl f hN k a w' h hav (by omega))
      have HL := Lib.hid (rt_len hT.len a k (by omega))
      have HM : Hid ((path f i' a' n').length ≤ 64) := Lib.hid (by have := path_le f 10 n' a' i' (by omega); omega)
      have HT := Lib.hid hT
      clear ih hT hd hnK han hin hfl h1 h0 h3 hk hn' ha' hi' hJ1 hJ2 hav hp hik
      generalize path f i' a' n' = l at *
      generalize rt f a k = x at *
      go_enter Tryz.func76, Tryz.ntmps76
      go_wp2_with fail
      refine (half_calls n w h2 hn1000).mono ?_
      rw [← HK.out]
      rintro e w' ⟨rfl, rfl⟩
      go_wp2_with fail
      refine (HI.out _ HT.out).mono ?_
      rintro e w1 ⟨v, rfl, s1, lo1, b1⟩
      have T1 : Hid (Tr B F w1 b N fl f ∧ Below w.heap.size w w1 ∧ Seg w1 38 32 v l.length (sumsC l) ∧ (∀ x, v.ownBlock = some x → w.heap.size ≤ x)) := Lib.hid ⟨HT.out.below b1, b1, s1, lo1⟩
      clear s1 lo1 b1 HT
      go_wp2_with fail
      refine (HQ.out _ T1.out.1).mono ?_
      rintro e w2 ⟨rfl, b2⟩
      have T2 : Hid (Below w.heap.size w w2 ∧ Seg w2 38 32 v l.length (sumsC l) ∧ (∀ x, v.ownBlock = some x → w.heap.size ≤ x)) := Lib.hid ⟨T1.out.2.1.trans (b2.mono T1.out.2.1.size), T1.out.2.2.1.below b2 (fun x hx => T1.out.2.2.1.lt hx), T1.out.2.2.2⟩
      clear T1 b2
      obtain ⟨i0, z0, hi0, hz0, hz1, hz2, hz3⟩ := sumInfo
      have HI0 := Lib.hid hi0
      have HZ0 := Lib.hid hz0
      clear hi0 hz0
      go_wp2_with (first
        | ((with_reducible refine at_op 47 ?_); refine wpList_build_one (o := ⟨some 47, _, _, _, _, _⟩) rfl 23 38 _ rfl i0 z0 Tryz.underlying23 HI0.out HZ0.out (cellsOf x) rfl (by rw [hz1, cellsOf_size, HL.out]) (by rw [cellsOf_size, HL.out]; decide) (by rw [cellsOf_size, HL.out]; decide) w2.heap.size rfl ?_; intro W3 HW3 BW3;
           (have T3 : Hid (Below w.heap.size w W3 ∧ Seg W3 38 32 v l.length (sumsC l) ∧ (∀ x, v.ownBlock = some x → w.heap.size ≤ x) ∧ Has W3 w2.heap.size 38 (cellsOf x)) := Lib.hid ⟨T2.out.1.trans (BW3.mono T2.out.1.size), T2.out.2.1.below BW3 (fun x hx => T2.out.2.1.lt hx), T2.out.2.2, HW3⟩);
           clear T2 HW3 BW3)
        | ((with_reducible refine at_op 48 ?_); refine wpList_append_seg (o := ⟨some 48, _, _, _, _, _⟩) _ rfl (.tmp 42) (.tmp 47) 23 rfl 38 i0 z0 32 32 Tryz.underlying23 HI0.out HZ0.out hz1 hz3 hz2 (by decide) v l.length (sumsC l) rfl T3.out.2.1 ⟨w2.heap.size, 0, none⟩ 1 1 (x.map byteV) rfl (by rw [List.length_map, HL.out]) (World.news_of_block T3.out.2.2.2) (byteV_one _) (by decide) (by have := HM.out; unfold maxLen; omega) (by have := HM.out; omega) _ rfl ?_;
           intro g off cap w4 hown hgrow hat hlt)
        | fail)
      go_ret
      rw [HP.out]
      refine ⟨_, rfl, ?_, ?_, ?_⟩
      · rw [sumsC_snoc, List.length_append]; exact hown
      · intro y hy
        have e : g = y := by simpa [Value.ownBlock] using hy
        rw [← e]
        rcases hat with h | h
        · exact T3.out.2.2.1 g h
        · rw [h]; exact T3.out.1.size
      · exact T3.out.1.trans (below_own hgrow T3.out.2.2.1 T3.out.1.size)
  · obtain rfl : n = 1 := by omega
    have hp : path f i a 1 = [] := by rw [path, dif_neg (by omega)]
    go_enter Tryz.func76, Tryz.ntmps76
    go_wp2_with fail
    go_ret
    rw [hp]
    exact ⟨_, rfl, Seg.nil _ _ _, (fun x (hx : (Value.slice none 0 0).ownBlock = some x) => by cases hx), Below.refl _ _⟩
end Go.Proofs.YtdoadmkaoboncaaGreatDoor.dig
