/- Texts laid into one: TreeE, TreeF, TreeG, Copy, CopyN. -/
import Derived.Test.YtcdedkgkingbdaaGreatDoorQ006
import Derived.Test.YtcdedkgkingbdaaGreatDoorQ004
section
/- tree: inclusion, consistency. -/
namespace Go.Proofs.YtcdedkgkingbdaaGreatDoor.dig
open Go Go.RowKit

theorem pow_half {n K : Nat} (h2 : 2 ≤ n) (hn : n ≤ 2 ^ K) : ∃ i, half n = 2 ^ i ∧ i < K := by
  refine ⟨Nat.log2 (n - 1), rfl, pow_lt_iff ?_⟩
  have := half_lt h2
  unfold half at this
  omega
theorem av_right {fl a n K : Nat} (h2 : 2 ≤ n) (hd : 2 ^ K ∣ a) (hn : n ≤ 2 ^ K) (hf : fl < a + n) : Av fl (a + half n) (n - half n) := by
  obtain ⟨i, hi, hK⟩ := pow_half h2 hn
  have h1 := half_lt h2
  have h3 := half_ge h2
  rw [hi] at *
  exact .inr (.inr ⟨by omega, i, (Nat.dvd_add_iff_left (Nat.dvd_refl _)).1 (dvd_of_le hd (Nat.le_of_lt hK)), by omega, by omega⟩)
theorem av_left {fl a n K : Nat} (h2 : 2 ≤ n) (hd : 2 ^ K ∣ a) (hn : n ≤ 2 ^ K) (hf : fl < a + 2 * half n) : Av fl a (half n) := by
  obtain ⟨i, hi, hK⟩ := pow_half h2 hn
  exact .inl ⟨i, hi, dvd_of_le hd hK, by rw [Nat.pow_succ, ← hi]; omega⟩
theorem dv_left {a n K : Nat} (h2 : 2 ≤ n) (hd : 2 ^ K ∣ a) (hn : n ≤ 2 ^ K) : ∃ J, 2 ^ J ∣ a ∧ half n ≤ 2 ^ J := by
  obtain ⟨i, hi, hK⟩ := pow_half h2 hn
  exact ⟨i, dvd_of_le hd (Nat.le_of_lt hK), by rw [hi]; exact Nat.le_refl _⟩
theorem dv_right {a n K : Nat} (h2 : 2 ≤ n) (hd : 2 ^ K ∣ a) (hn : n ≤ 2 ^ K) : ∃ J, 2 ^ J ∣ a + half n ∧ n - half n ≤ 2 ^ J := by
  obtain ⟨i, hi, hK⟩ := pow_half h2 hn
  have h3 := half_ge h2
  exact ⟨i, by rw [hi]; exact (Nat.dvd_add_iff_left (Nat.dvd_refl _)).1 (dvd_of_le hd (Nat.le_of_lt hK)), by omega⟩



theorem below_own {B : Nat} {w w' : World} {v : Value} (h : w.grownBy w' v.ownBlock) (hv : ∀ x, v.ownBlock = some x → B ≤ x) (hB : B ≤ w.heap.size) : Below B w w' :=
  ⟨h.os, h.tape, h.output, h.size, fun i hi => h.block i (by omega) (fun e => by have := hv i e.symm; omega)⟩

/-- A list of sums was answered, in new memory. -/
def SumsPost (w : World) (l : List (List UInt8)) (en : Ending) (w' : World) : Prop :=
  ∃ v, en = .returned v ∧ Seg w' 84 32 v l.length (sumsC l) ∧ (∀ x, v.ownBlock = some x → w.heap.size ≤ x) ∧ Below w.heap.size w w'

set_option maxRecDepth 100000 in
set_option maxHeartbeats 2000000 in
theorem incl_calls (B : Nat) (F : Nat → Prop) (b N fl : Nat) (f : Nat → List UInt8) (hN : N < 1024) : ∀ (n i a K : Nat) (w : World), Tr B F w b N fl f → 2 ^ K ∣ a → n ≤ 2 ^ K → a + n ≤ N → i < n → fl ≤ a + i →
    Calls Tryz.prog 123 #[.pointer (some ⟨b, 0, none⟩), .int .i64 i, .int .i64 a, .int .i64 n] w (SumsPost w (path f i a n)) := by
  intro n
  induction n using Nat.strongRecOn with
  | _ n ih =>
  intro i a K w hT hd hnK han hin hfl
  by_cases h2 : 2 ≤ n
  · have h1 := half_lt h2
    have h0 := half_pos n
    have h3 := half_ge h2
    obtain ⟨k, hk⟩ : ∃ k, k = half n := ⟨_, rfl⟩
    obtain ⟨n', hn'⟩ : ∃ n', n' = n - k := ⟨_, rfl⟩
    obtain ⟨a', ha'⟩ : ∃ a', a' = a + k := ⟨_, rfl⟩
    have hk1 : (n : Int) - (k : Int) = (n' : Int) := by omega
    have hk2 : (a : Int) + (k : Int) = (a' : Int) := by omega
    have hk3 : (a' : Int) ≤ 1000000 := by omega
    have hk4 : (n' : Int) ≤ 1000000 := by omega
    have hb1 : (n : Int) ≤ 1000000 := by omega
    have hb2 : (a : Int) ≤ 1000000 := by omega
    have hb3 : (k : Int) ≤ 1000000 := by omega
    have hb4 : (i : Int) ≤ 1000000 := by omega
    have hn2 : ¬ (n : Int) = 1 := by omega
    have hn1000 : n ≤ 1000000000000 := by omega
    have HK := Lib.hid hk
    by_cases hik : i < k
    · have hik2 : (i : Int) < (k : Int) := by omega
      obtain ⟨J, hJ1, hJ2⟩ := dv_left h2 hd hnK
      have hav := av_right (fl := fl) h2 hd hnK (by omega)
      rw [← hk] at hJ2
      rw [← hk, ← ha', ← hn'] at hav
      have hp : path f i a n = path f i a k ++ [rt f a' n'] := by rw [path, dif_pos h2, if_pos (by rw [← hk]; exact hik), ← hk, ← ha', ← hn']
      have HP := Lib.hid hp
      have HI := Lib.hid (fun w' (h : Tr B F w' b N fl f) => ih k (by omega) i a J w' h hJ1 hJ2 (by omega) hik hfl)
      have HQ := Lib.hid (fun w' (h : Tr B F w' b N fl f) => root_calls B F b N fl f hN n' a' w' h hav (by omega))
      have HL := Lib.hid (rt_len hT.len a' n' (by omega))
      have HM : Hid ((path f i a k).length ≤ 64) := Lib.hid (by have := path_le f 10 k a i (by omega); omega)
      have HT := Lib.hid hT
      clear ih hT hd hnK han hin hfl h1 h0 h3 hk hn' ha' hJ1 hJ2 hav hp hik
      generalize path f i a k = l at *
      generalize rt f a' n' = x at *
      go_enter Tryz.func123, Tryz.ntmps123
      go_wp2_with fail
      refine (half_calls n w h2 hn1000).mono ?_
      rw [← HK.out]
      rintro e w' ⟨rfl, rfl⟩
      go_wp2_with fail
      refine (HI.out _ HT.out).mono ?_
      rintro e w1 ⟨v, rfl, s1, lo1, b1⟩
      have T1 : Hid (Tr B F w1 b N fl f ∧ Below w.heap.size w w1 ∧ Seg w1 84 32 v l.length (sumsC l) ∧ (∀ x, v.ownBlock = some x → w.heap.size ≤ x)) := Lib.hid ⟨HT.out.below b1, b1, s1, lo1⟩
      clear s1 lo1 b1 HT
      go_wp2_with fail
      refine (HQ.out _ T1.out.1).mono ?_
      rintro e w2 ⟨rfl, b2⟩
      have T2 : Hid (Below w.heap.size w w2 ∧ Seg w2 84 32 v l.length (sumsC l) ∧ (∀ x, v.ownBlock = some x → w.heap.size ≤ x)) := Lib.hid ⟨T1.out.2.1.trans (b2.mono T1.out.2.1.size), T1.out.2.2.1.below b2 (fun x hx => T1.out.2.2.1.lt hx), T1.out.2.2.2⟩
      clear T1 b2
      obtain ⟨i0, z0, hi0, hz0, hz1, hz2, hz3⟩ := sumInfo
      have HI0 := Lib.hid hi0
      have HZ0 := Lib.hid hz0
      clear hi0 hz0
      go_wp2_with (first
        | ((with_reducible refine at_op 30 ?_); refine wpList_build_one (o := ⟨some 30, _, _, _, _, _⟩) rfl 91 84 _ rfl i0 z0 Tryz.underlying91 HI0.out HZ0.out (cellsOf x) rfl (by rw [hz1, cellsOf_size, HL.out]) (by rw [cellsOf_size, HL.out]; decide) (by rw [cellsOf_size, HL.out]; decide) w2.heap.size rfl ?_; intro W3 HW3 BW3;
           (have T3 : Hid (Below w.heap.size w W3 ∧ Seg W3 84 32 v l.length (sumsC l) ∧ (∀ x, v.ownBlock = some x → w.heap.size ≤ x) ∧ Has W3 w2.heap.size 84 (cellsOf x)) := Lib.hid ⟨T2.out.1.trans (BW3.mono T2.out.1.size), T2.out.2.1.below BW3 (fun x hx => T2.out.2.1.lt hx), T2.out.2.2, HW3⟩);
           clear T2 HW3 BW3)
        | ((with_reducible refine at_op 31 ?_); refine wpList_append_seg (o := ⟨some 31, _, _, _, _, _⟩) _ rfl (.tmp 21) (.tmp 30) 91 rfl 84 i0 z0 32 32 Tryz.underlying91 HI0.out HZ0.out hz1 hz3 hz2 (by decide) v l.length (sumsC l) rfl T3.out.2.1 ⟨w2.heap.size, 0, none⟩ 1 1 (x.map byteV) rfl (by rw [List.length_map, HL.out]) (World.news_of_block T3.out.2.2.2) (byteV_one _) (by decide) (by have := HM.out; unfold maxLen; omega) (by have := HM.out; omega) _ rfl ?_;
           intro g off cap w4 hown hgrow hat hlt)
        | fail)
      go_ret
      rw [HP.out]
      refine ⟨_, rfl, ?_, ?_, ?_⟩
      · rw [sumsC_snoc, List.length_append]; exact hown
      · intro y hy
        have e : g = y := by simpa [Value.ownBlock] using hy
        rw [← e]
        rcases hat with h | h
        · exact T3.out.2.2.1 g h
        · rw [h]; exact T3.out.1.size
      · exact T3.out.1.trans (below_own hgrow T3.out.2.2.1 T3.out.1.size)
    · have hik2 : ¬ (i : Int) < (k : Int) := by omega
      obtain ⟨i', hi'⟩ : ∃ i', i' = i - k := ⟨_, rfl⟩
      have hk5 : (i : Int) - (k : Int) = (i' : Int) := by omega
      have hk6 : (i' : Int) ≤ 1000000 := by omega
      obtain ⟨J, hJ1, hJ2⟩ := dv_right h2 hd hnK
      have hav := av_left (fl := fl) h2 hd hnK (by omega)
      rw [← hk, ← ha'] at hJ1
      rw [← hk, ← hn'] at hJ2
      rw [← hk] at hav
      have hp : path f i a n = path f i' a' n' ++ [rt f a k] := by rw [path, dif_pos h2, if_neg (by rw [← hk]; exact hik), ← hk, ← ha', ← hn', ← hi']
      have HP := Lib.hid hp
      have HI := Lib.hid (fun w' (h : Tr B F w' b N fl f) => ih n' (by omega) i' a' J w' h hJ1 hJ2 (by omega) (by omega) (by omega))
      have HQ := Lib.hid (fun w' (h : Tr B F w' b N fl f) => root_calls B F b N fl f hN k a w' h hav (by omega))
      have HL := Lib.hid (rt_len hT.len a k (by omega))
      have HM : Hid ((path f i' a' n').length ≤ 64) := Lib.hid (by have := path_le f 10 n' a' i' (by omega); omega)
      have HT := Lib.hid hT
      clear ih hT hd hnK han hin hfl h1 h0 h3 hk hn' ha' hi' hJ1 hJ2 hav hp hik
      generalize path f i' a' n' = l at *
      generalize rt f a k = x at *
      go_enter Tryz.func123, Tryz.ntmps123
      go_wp2_with fail
      refine (half_calls n w h2 hn1000).mono ?_
      rw [← HK.out]
      rintro e w' ⟨rfl, rfl⟩
      go_wp2_with fail
      refine (HI.out _ HT.out).mono ?_
      rintro e w1 ⟨v, rfl, s1, lo1, b1⟩
      have T1 : Hid (Tr B F w1 b N fl f ∧ Below w.heap.size w w1 ∧ Seg w1 84 32 v l.length (sumsC l) ∧ (∀ x, v.ownBlock = some x → w.heap.size ≤ x)) := Lib.hid ⟨HT.out.below b1, b1, s1, lo1⟩
      clear s1 lo1 b1 HT
      go_wp2_with fail
      refine (HQ.out _ T1.out.1).mono ?_
      rintro e w2 ⟨rfl, b2⟩
      have T2 : Hid (Below w.heap.size w w2 ∧ Seg w2 84 32 v l.length (sumsC l) ∧ (∀ x, v.ownBlock = some x → w.heap.size ≤ x)) := Lib.hid ⟨T1.out.2.1.trans (b2.mono T1.out.2.1.size), T1.out.2.2.1.below b2 (fun x hx => T1.out.2.2.1.lt hx), T1.out.2.2.2⟩
      clear T1 b2
      obtain ⟨i0, z0, hi0, hz0, hz1, hz2, hz3⟩ := sumInfo
      have HI0 := Lib.hid hi0
      have HZ0 := Lib.hid hz0
      clear hi0 hz0
      go_wp2_with (first
        | ((with_reducible refine at_op 47 ?_); refine wpList_build_one (o := ⟨some 47, _, _, _, _, _⟩) rfl 91 84 _ rfl i0 z0 Tryz.underlying91 HI0.out HZ0.out (cellsOf x) rfl (by rw [hz1, cellsOf_size, HL.out]) (by rw [cellsOf_size, HL.out]; decide) (by rw [cellsOf_size, HL.out]; decide) w2.heap.size rfl ?_; intro W3 HW3 BW3;
           (have T3 : Hid (Below w.heap.size w W3 ∧ Seg W3 84 32 v l.length (sumsC l) ∧ (∀ x, v.ownBlock = some x → w.heap.size ≤ x) ∧ Has W3 w2.heap.size 84 (cellsOf x)) := Lib.hid ⟨T2.out.1.trans (BW3.mono T2.out.1.size), T2.out.2.1.below BW3 (fun x hx => T2.out.2.1.lt hx), T2.out.2.2, HW3⟩);
           clear T2 HW3 BW3)
        | ((with_reducible refine at_op 48 ?_); refine wpList_append_seg (o := ⟨some 48, _, _, _, _, _⟩) _ rfl (.tmp 42) (.tmp 47) 91 rfl 84 i0 z0 32 32 Tryz.underlying91 HI0.out HZ0.out hz1 hz3 hz2 (by decide) v l.length (sumsC l) rfl T3.out.2.1 ⟨w2.heap.size, 0, none⟩ 1 1 (x.map byteV) rfl (by rw [List.length_map, HL.out]) (World.news_of_block T3.out.2.2.2) (byteV_one _) (by decide) (by have := HM.out; unfold maxLen; omega) (by have := HM.out; omega) _ rfl ?_;
           intro g off cap w4 hown hgrow hat hlt)
        | fail)
      go_ret
      rw [HP.out]
      refine ⟨_, rfl, ?_, ?_, ?_⟩
      · rw [sumsC_snoc, List.length_append]; exact hown
      · intro y hy
        have e : g = y := by simpa [Value.ownBlock] using hy
        rw [← e]
        rcases hat with h | h
        · exact T3.out.2.2.1 g h
        · rw [h]; exact T3.out.1.size
      · exact T3.out.1.trans (below_own hgrow T3.out.2.2.1 T3.out.1.size)
  · obtain rfl : n = 1 := by omega
    have hp : path f i a 1 = [] := by rw [path, dif_neg (by omega)]
    go_enter Tryz.func123, Tryz.ntmps123
    go_wp2_with fail
    go_ret
    rw [hp]
    exact ⟨_, rfl, Seg.nil _ _ _, (fun x (hx : (Value.slice none 0 0).ownBlock = some x) => by cases hx), Below.refl _ _⟩
end Go.Proofs.YtcdedkgkingbdaaGreatDoor.dig
end

section
/- tree: Root, Inclusion, Consistency, Len, Floor. -/
namespace Go.Proofs.YtcdedkgkingbdaaGreatDoor.dig
open Go Go.RowKit

theorem two_ge (n : Nat) : n ≤ 2 ^ n := Nat.le_of_lt Nat.lt_two_pow_self

/-- A list of sums was answered with OK, in new memory. -/
def SumsOk (w : World) (l : List (List UInt8)) (en : Ending) (w' : World) : Prop :=
  ∃ v, en = .returned (.tuple #[v, .int .i64 0]) ∧ Seg w' 84 32 v l.length (sumsC l) ∧ (∀ x, v.ownBlock = some x → w.heap.size ≤ x) ∧ Below w.heap.size w w'

section
variable {B : Nat} {F : Nat → Prop} {b N fl : Nat} {f : Nat → List UInt8} {w : World}

set_option maxRecDepth 100000 in
set_option maxHeartbeats 1000000 in
theorem Tr.inclusion (hT : Tr B F w b N fl f) (hN : N < 1024) (i n : Nat) (hn : n ≤ N) (hi : i < n) (hf : fl ≤ i) :
    Calls Tryz.prog 79 #[.pointer (some ⟨b, 0, none⟩), .int .i64 i, .int .i64 n] w (SumsOk w (path f i 0 n)) := by
  have HI := Lib.hid (incl_calls B F b N fl f hN n i 0 n w hT ⟨0, by simp⟩ (two_ge n) (by omega) hi (by omega))
  obtain ⟨rv, hh⟩ := hT.head
  have e0 := hh.cell 0
  have e1 := hh.cell 1
  simp at e0 e1
  have h1 : ¬ (n : Int) < 0 := by omega
  have h2 : ¬ (n : Int) > (N : Int) := by omega
  have h3 : ¬ (i : Int) < 0 := by omega
  have h4 : ¬ (i : Int) ≥ (n : Int) := by omega
  have h5 : ¬ (i : Int) < (fl : Int) := by omega
  clear hT hh
  go_enter Tryz.func79, Tryz.ntmps79
  go_wp2_with fail
  refine HI.out.mono ?_
  rintro e w1 ⟨v, rfl, s1, lo1, b1⟩
  have S := Lib.hid (show _ ∧ _ ∧ _ from ⟨s1, lo1, b1⟩)
  clear s1 lo1 b1 HI
  go_wp2_with fail
  go_ret2
  exact ⟨v, rfl, S.out⟩

set_option maxRecDepth 100000 in
set_option maxHeartbeats 1000000 in
theorem Tr.inclusion_low (hT : Tr B F w b N fl f) (i n : Nat) (hn : n ≤ N) (hi : i < n) (hf : i < fl) :
    Calls Tryz.prog 79 #[.pointer (some ⟨b, 0, none⟩), .int .i64 i, .int .i64 n] w fun en w' => en = .returned (.tuple #[.slice none 0 0, .int .i64 14]) ∧ w = w' := by
  obtain ⟨rv, hh⟩ := hT.head
  have e0 := hh.cell 0
  have e1 := hh.cell 1
  simp at e0 e1
  have h1 : ¬ (n : Int) < 0 := by omega
  have h2 : ¬ (n : Int) > (N : Int) := by omega
  have h3 : ¬ (i : Int) < 0 := by omega
  have h4 : ¬ (i : Int) ≥ (n : Int) := by omega
  have h5 : (i : Int) < (fl : Int) := by omega
  clear hT hh
  go_enter Tryz.func79, Tryz.ntmps79
  go_wp2_with fail
  go_ret2
  exact ⟨rfl, rfl⟩

theorem rtAll_len {f : Nat → List UInt8} (h : ∀ i, (f i).length = 32) (n : Nat) : (rtAll f n).length = 32 := by
  unfold rtAll
  split
  · exact sum_length _
  · exact rt_len h 0 n (by omega)

set_option maxRecDepth 100000 in
set_option maxHeartbeats 1000000 in
theorem Tr.root (hT : Tr B F w b N fl f) (hN : N < 1024) (n : Nat) (hn : n ≤ N) (hf : fl ≤ n) :
    Calls Tryz.prog 33 #[.pointer (some ⟨b, 0, none⟩), .int .i64 n] w fun en w' => en = .returned (.tuple #[.agg (cellsOf (rtAll f n)), .int .i64 0]) ∧ Below w.heap.size w w' := by
  have HT := Lib.hid hT
  obtain ⟨rv, hh⟩ := hT.head
  have e0 : ∀ O, (w.alloc O).cell? ⟨b, 0, none⟩ = some (.int .i64 N) := fun O => (hh.alloc O).cell 0
  have e1 : ∀ O, (w.alloc O).cell? ⟨b, 1, none⟩ = some (.int .i64 fl) := fun O => (hh.alloc O).cell 1
  have h1 : ¬ (n : Int) < 0 := by omega
  have h2 : ¬ (n : Int) > (N : Int) := by omega
  have h5 : ¬ (n : Int) < (fl : Int) := by omega
  have HL := Lib.hid (rtAll_len hT.len n)
  by_cases h0 : n = 0
  · subst h0
    have hx : rtAll f 0 = sum (ByteArray.empty).data.toList := rfl
    have HX := Lib.hid hx
    clear hT hh hx
    go_enter Tryz.func33, Tryz.ntmps33
    go_wp2_with fail
    refine callsName (fun W hW => ?_)
    have B0 : Hid (Below w.heap.size w W) := by rw [← hW]; exact Lib.hid ((Below.refl _ _).alloc (Nat.le_refl _) _)
    have Z0 : Hid (Has W w.heap.size 84 (cellsOf (List.replicate 32 0))) := by rw [← hW]; exact Lib.hid (made_at _ _ rfl)
    clear hW e0 e1
    refine (of_calls _ W (HT.out.below B0.out).rt.rk (by decide)).mono ?_
    rintro e w' ⟨rfl, b5⟩
    have S5 : Hid (Has w' w.heap.size 84 (cellsOf (List.replicate 32 0)) ∧ Below w.heap.size w w') := Lib.hid ⟨Z0.out.below b5 Z0.out.lt, B0.out.trans (b5.mono B0.out.size)⟩
    clear b5 Z0 B0
    go_wp2_with (first
      | (refine wpList_store_arr (o := ⟨none, _, _, _, _, _⟩) rfl 84 _ _ rfl w.heap.size (rtAll f 0) (List.replicate 32 0) rfl rfl _ S5.out.1 32 (by kernel_rfl) (by simp) HL.out ?_; intro W6 HW6 TW6)
      | fail)
    exact bodyPost_ret (v := .tuple #[.agg (cellsOf (rtAll f 0)), .int .i64 0]) (results_cell_tmp rfl _ _ w.heap.size 84 _ _ _ rfl HW6 Tryz.underlying84 rfl (by rw [cellsOf_size, HL.out]; kernel_rfl) _ rfl) rfl ⟨rfl, S5.out.2.trans (TW6.below S5.out.2.size (fun j hj e => by omega))⟩
  · have h6 : ¬ (n : Int) = 0 := by omega
    have hx : rtAll f n = dig.rt f 0 n := by unfold rtAll; rw [if_neg h0]
    have HX := Lib.hid hx
    have hav : Av fl 0 n := .inr (.inl ⟨by omega, n, ⟨0, by simp⟩, Nat.lt_two_pow_self, by omega⟩)
    have HR := Lib.hid (fun w' (h : Tr B F w' b N fl f) => root_calls B F b N fl f hN n 0 w' h hav (by omega))
    clear hT hh hx hav
    go_enter Tryz.func33, Tryz.ntmps33
    go_wp2_with fail
    refine callsName (fun W hW => ?_)
    have B0 : Hid (Below w.heap.size w W) := by rw [← hW]; exact Lib.hid ((Below.refl _ _).alloc (Nat.le_refl _) _)
    have Z0 : Hid (Has W w.heap.size 84 (cellsOf (List.replicate 32 0))) := by rw [← hW]; exact Lib.hid (made_at _ _ rfl)
    clear hW e0 e1
    refine (HR.out W (HT.out.below B0.out)).mono ?_
    rw [← HX.out]
    rintro e w' ⟨rfl, b5⟩
    have S5 : Hid (Has w' w.heap.size 84 (cellsOf (List.replicate 32 0)) ∧ Below w.heap.size w w') := Lib.hid ⟨Z0.out.below b5 Z0.out.lt, B0.out.trans (b5.mono B0.out.size)⟩
    clear b5 Z0 B0
    go_wp2_with (first
      | (refine wpList_store_arr (o := ⟨none, _, _, _, _, _⟩) rfl 84 _ _ rfl w.heap.size (rtAll f n) (List.replicate 32 0) rfl rfl _ S5.out.1 32 (by kernel_rfl) (by simp) HL.out ?_; intro W6 HW6 TW6)
      | fail)
    exact bodyPost_ret (v := .tuple #[.agg (cellsOf (rtAll f n)), .int .i64 0]) (results_cell_tmp rfl _ _ w.heap.size 84 _ _ _ rfl HW6 Tryz.underlying84 rfl (by rw [cellsOf_size, HL.out]; kernel_rfl) _ rfl) rfl ⟨rfl, S5.out.2.trans (TW6.below S5.out.2.size (fun j hj e => by omega))⟩
end
end Go.Proofs.YtcdedkgkingbdaaGreatDoor.dig
end

section
/- tree: a row grows, a row is added: what is kept. -/
namespace Go.Proofs.YtcdedkgkingbdaaGreatDoor.dig
open Go Go.RowKit

theorem Seg.far {w : World} {e : TypeId} {size n : Nat} {v : Value} {xs : List Value} (h : Seg w e size v n xs) {p : Addr} (hp : v.ownBlock ≠ some p.block) (u : Value) : Seg (w.setCell p u) e size v n xs :=
  h.keep fun b hb => Below.heap_setCell w p u b (fun e => hp (by rw [hb, e]))
section
variable {F : Nat → Prop} {w W : World} {b n fl K : Nat} {g c : Nat → Nat} {f : Nat → List UInt8} {rv : Value} {sv : Nat → Value} {idle : Nat → Nat}

theorem ne_types : (147 : Nat) ≠ 218 ∧ (147 : Nat) ≠ 84 ∧ (218 : Nat) ≠ 84 := by decide

theorem Raw.rv_b (h : Raw F w b n fl K g c f rv sv idle) : rv.ownBlock ≠ some b := h.rows.ne h.tree (fun e => ne_types.1 e.symm)
theorem Raw.sv_b (h : Raw F w b n fl K g c f rv sv idle) {j : Nat} (hj : j < K) : (sv j).ownBlock ≠ some b := (h.sums j hj).ne h.tree (fun e => ne_types.2.1 e.symm)
theorem Raw.rv_sv (h : Raw F w b n fl K g c f rv sv idle) {j : Nat} (hj : j < K) : ∀ x, rv.ownBlock = some x → (sv j).ownBlock ≠ some x := h.rows.apart (h.sums j hj) ne_types.2.2

/-- One sum more at the end of row j. -/
theorem Raw.push (h : Raw F w b n fl K g c f rv sv idle) {R o cap j : Nat} (hrv : rv = .slice (some ⟨R, o, none⟩) K cap) (hj : j < K) (T : Turn (fun k => (sv j).ownBlock = some k) w W)
    {g' off' cap' : Nat} {x : List UInt8} (hown : Seg W 84 32 (.slice (some ⟨g', off', none⟩) (c j - g j + 1) cap') (c j - g j + 1) (flat (nodeC f j) (g j) (c j - g j) ++ x.map byteV))
    (hat : (sv j).ownBlock = some g' ∨ w.heap.size ≤ g') (hg : g j ≤ c j) (hx : nodeC f j (c j) = x.map byteV) :
    Raw (fun k => F k ∨ w.heap.size ≤ k) (W.setCell ⟨R, o + (j * 3 + 1), none⟩ (.slice (some ⟨g', off', none⟩) (c j - g j + 1) cap')) b n fl K g (fun i => if i = j then c j + 1 else c i) f rv
      (fun i => if i = j then .slice (some ⟨g', off', none⟩) (c j - g j + 1) cap' else sv i) idle := by
  have hR : rv.ownBlock = some R := by rw [hrv]; rfl
  have hRF := h.fr R hR
  have hbR : b ≠ R := fun e => h.rv_b (by rw [hR, e])
  have hRl : R < w.heap.size := h.rows.lt hR
  have hrows : Seg W 218 3 rv K (flat (rowC g sv idle) 0 K) := h.rows.turn T (fun x hx => h.rv_sv hj x hx)
  have hRg : R ≠ g' := fun e => hrows.apart hown ne_types.2.2 R hR (by rw [e]; rfl)
  refine ⟨?_, ?_, ?_, ?_, .inl h.fb, fun x hx => .inl (h.fr x hx), ?_, h.idle⟩
  · exact (h.tree.turn T (h.sv_b hj)).far hbR _
  · have hrows2 := hrows
    rw [hrv] at hrows2
    have h2 := hrows2.put (j * 3 + 1) (.slice (some ⟨g', off', none⟩) (c j - g j + 1) cap')
    rw [flat_set (fun i _ _ => rowC_len _ _ _ i) hj (by omega)] at h2
    rw [hrv]
    have e : flat (fun i => if i = 0 + j then (rowC g sv idle i).set 1 (.slice (some ⟨g', off', none⟩) (c j - g j + 1) cap') else rowC g sv idle i) 0 K = flat (rowC g (fun i => if i = j then .slice (some ⟨g', off', none⟩) (c j - g j + 1) cap' else sv i) idle) 0 K := by
      refine flat_congr fun i _ _ => ?_
      simp only [Nat.zero_add]
      by_cases hi : i = j
      · rw [if_pos hi]; simp [rowC, hi]
      · rw [if_neg hi]; simp [rowC, hi]
    rw [← e]
    exact h2
  · intro i hi
    by_cases hij : i = j
    · subst hij
      simp only [if_pos]
      rw [Nat.sub_add_comm hg, flat_snoc, Nat.add_sub_cancel' hg, hx]
      exact Seg.far hown (by intro e; exact hRg (by injection e with e; exact e.symm)) _
    · simp only [if_neg hij]
      exact Seg.far ((h.sums i hi).turn T (fun x hx e => h.apart i j hi hj hij x hx e)) (fun e => h.rv_sv hi R hR e) _
  · intro i1 i2 h1 h2 hne x hx
    by_cases e1 : i1 = j
    · subst e1
      simp only [if_pos] at hx
      rw [if_neg (fun e => hne e.symm)]
      have hgx : g' = x := by injection hx
      subst hgx
      intro e
      rcases hat with hat | hat
      · exact h.apart i1 i2 h1 h2 hne g' hat e
      · have := (h.sums i2 h2).lt e; omega
    · rw [if_neg e1] at hx
      by_cases e2 : i2 = j
      · subst e2
        rw [if_pos rfl]
        intro e
        have hgx : g' = x := by injection e
        subst hgx
        rcases hat with hat | hat
        · exact h.apart i1 i2 h1 h2 hne g' hx hat
        · have := (h.sums i1 h1).lt hx; omega
      · rw [if_neg e2]
        exact h.apart i1 i2 h1 h2 hne x hx
  · intro i hi x hx
    by_cases e1 : i = j
    · subst e1
      rw [if_pos rfl] at hx
      have hgx : g' = x := by injection hx
      subst hgx
      exact hat.imp (fun e => h.fs i hi _ e) id
    · rw [if_neg e1] at hx
      exact .inl (h.fs i hi x hx)

/-- A row more, in which there is nothing yet. -/
theorem Raw.grow (h : Raw F w b n fl K g c f rv sv idle) (T : Turn (fun k => rv.ownBlock = some k) w W)
    {g' off' cap' : Nat} (hown : Seg W 218 3 (.slice (some ⟨g', off', none⟩) (K + 1) cap') (K + 1) (flat (rowC g sv idle) 0 K ++ [.int .i64 0, .slice none 0 0, .int .i64 0]))
    (hat : rv.ownBlock = some g' ∨ w.heap.size ≤ g') (hg : g K = 0) (hc : c K = 0) :
    Raw (fun k => F k ∨ w.heap.size ≤ k) (W.setCell ⟨b, 2, none⟩ (.slice (some ⟨g', off', none⟩) (K + 1) cap')) b n fl (K + 1) g c f (.slice (some ⟨g', off', none⟩) (K + 1) cap')
      (fun i => if i = K then .slice none 0 0 else sv i) (fun i => if i = K then 0 else idle i) := by
  have htree : Has W b 147 #[.int .i64 n, .int .i64 fl, rv] := h.tree.turn T h.rv_b
  have hgb : g' ≠ b := fun e => hown.ne htree (fun e => ne_types.1 e.symm) (by rw [e]; rfl)
  refine ⟨?_, ?_, ?_, ?_, .inl h.fb, fun x hx => ?_, ?_, ?_⟩
  · have := htree.put 2 (.slice (some ⟨g', off', none⟩) (K + 1) cap')
    simpa using this
  · have h2 := Seg.far hown (p := ⟨b, 2, none⟩) (by intro e; exact hgb (by injection e)) (.slice (some ⟨g', off', none⟩) (K + 1) cap')
    rw [flat_snoc]
    have e1 : flat (rowC g (fun i => if i = K then .slice none 0 0 else sv i) (fun i => if i = K then 0 else idle i)) 0 K = flat (rowC g sv idle) 0 K := by
      refine flat_congr fun i _ hi => ?_
      simp [rowC, show i ≠ K by omega]
    have e2 : rowC g (fun i => if i = K then .slice none 0 0 else sv i) (fun i => if i = K then 0 else idle i) (0 + K) = [.int .i64 0, .slice none 0 0, .int .i64 0] := by
      simp [rowC, hg]
    rw [e1, e2]
    exact h2
  · intro i hi
    by_cases e : i = K
    · subst e
      simp only [if_pos, hc, hg]
      exact Seg.nil _ _ _
    · simp only [if_neg e]
      exact Seg.far ((h.sums i (by omega)).turn T (fun x hx hr => h.rv_sv (by omega) x hr hx)) (h.sv_b (by omega)) _
  · intro i1 i2 h1 h2 hne x hx
    by_cases e1 : i1 = K
    · rw [if_pos e1] at hx; cases hx
    · rw [if_neg e1] at hx
      by_cases e2 : i2 = K
      · rw [if_pos e2]; intro e; cases e
      · rw [if_neg e2]
        exact h.apart i1 i2 (by omega) (by omega) hne x hx
  · have hgx : g' = x := by injection hx
    subst hgx
    exact hat.imp (fun e => h.fr _ e) id
  · intro i hi x hx
    by_cases e1 : i = K
    · rw [if_pos e1] at hx; cases hx
    · rw [if_neg e1] at hx
      exact .inl (h.fs i (by omega) x hx)
  · intro i hi
    by_cases e1 : i = K
    · simp [e1]
    · simp only [if_neg e1]; exact h.idle i (by omega)
end
end Go.Proofs.YtcdedkgkingbdaaGreatDoor.dig
end

section
/- append(s, l...) of two slices that lie anywhere, l may be empty: what comes of it. Of no program. -/
namespace Go.Proofs.YtcdedkgkingbdaaGreatDoor
open Go.RowKit

/-- A slice that is not nil. -/
def Thick (v : Value) (n : Nat) : Prop := ∃ g off c, v = .slice (some ⟨g, off, none⟩) n c

section
variable {w : World} {e : TypeId} {size n : Nat} {v : Value} {xs : List Value}

theorem Seg.news {g off c : Nat} (h : Seg w e size (.slice (some ⟨g, off, none⟩) n c) n xs) : ∀ j u, xs[j]? = some u → w.cell? ((⟨g, off, none⟩ : Addr).add j) = some u := by
  intro j u hj
  have ha : (⟨g, off, none⟩ : Addr).add j = ⟨g, off + j, none⟩ := by unfold Addr.add; split <;> simp_all
  rw [ha]
  by_cases hn : 0 < n
  · obtain ⟨g', off', c', hv, _, _, _, hc⟩ := h.cells hn
    simp only [Value.slice.injEq, Option.some.injEq, Addr.mk.injEq, and_true, true_and] at hv
    obtain ⟨⟨rfl, rfl⟩, rfl⟩ := hv
    exact hc j u hj
  · obtain rfl : n = 0 := by omega
    have hx : xs = [] := List.eq_nil_of_length_eq_zero (by simpa using h.1)
    rw [hx] at hj
    cases hj

/-- An empty slice that was just made. -/
theorem Seg.empty {g : Nat} (h : w.heap[g]? = some (.cells #[] e (0, 0))) : Seg w e size (.slice (some ⟨g, 0, none⟩) 0 0) 0 [] :=
  ⟨by simp, .inr ⟨g, 0, 0, #[], rfl, h, Nat.le_refl _, Nat.zero_le _, by simp, by simp⟩⟩

/-- A slice that was just made of all that it holds. -/
theorem Seg.whole {g m : Nat} {cs : Array Value} (h : w.heap[g]? = some (.cells cs e (0, 0))) (hl : cs.size = m * size) (hm : m ≤ maxLen) : Seg w e size (.slice (some ⟨g, 0, none⟩) m m) m cs.toList :=
  ⟨by simpa using hl, .inr ⟨g, 0, m, cs, rfl, h, Nat.le_refl _, hm, by omega, by rw [List.drop_zero, ← hl, ← Array.length_toList, List.take_length]⟩⟩
end

section
variable {P : Program} (w : World)

theorem run_append_all (t ty : TypeId) (e : TypeId) (i : TypeInfo) (z : Value) (size bytes : Nat) (ht : P.underlying t = some (.slice e)) (hi : P.info? e = some i) (hz : i.zero = some z)
    (hsize : i.size = size) (hby : i.bytes = bytes) (hzs : z.cells.size = size) (hsz : 0 < size)
    (v : Value) (n : Nat) (xs : List Value) (hown : Seg w e size v n xs) (hv : Thick v n)
    (x : Value) (m : Nat) (news : List Value) (hx : Seg w e size x m news) (hxt : Thick x m) (h1 : ∀ u ∈ news, u.oneCell' = true)
    (h63 : n + m ≤ maxLen) (hbytes : (n + m) * bytes ≤ 140737488355328) :
    ∃ y w', (Builtin.append_ #[t, t] ty #[v, x]).run P w = .ok y w' ∧ Thick y (n + m) ∧
      Seg w' e size y (n + m) (xs ++ news) ∧ w.grownBy w' v.ownBlock ∧ (∀ b, y.ownBlock = some b → v.ownBlock = some b ∨ b = w.heap.size) := by
  obtain ⟨gx, ox, cx, rfl⟩ := hxt
  by_cases hm : 0 < m
  · obtain ⟨g, off, cap, w', hr, h2, h3, h4, h5⟩ := run_append_seg (P := P) w t ty e i z size bytes ht hi hz hsize hby hzs hsz v n xs hown ⟨gx, ox, none⟩ m cx news hx.1 hx.news h1 hm h63 hbytes _ rfl
    refine ⟨_, w', hr, ⟨g, off, cap, rfl⟩, h2, h3, fun b hb => ?_⟩
    injection hb with hb
    subst hb
    exact h4
  · obtain rfl : m = 0 := by omega
    obtain rfl : news = [] := List.eq_nil_of_length_eq_zero (by simpa using hx.1)
    obtain ⟨g, off, c, rfl⟩ := hv
    subst hsize
    rcases hown.2 with ⟨h0, _⟩ | ⟨g', off', cap, cur, h0, hg, hnc, hcm, hcs, htake⟩
    · cases h0
    · simp only [Value.slice.injEq, Option.some.injEq, Addr.mk.injEq, and_true, true_and] at h0
      obtain ⟨⟨rfl, rfl⟩, rfl⟩ := h0
      have hmul : n * i.size ≤ c * i.size := Nat.mul_le_mul_right _ hnc
      have hr := run_append_roomy (P := P) w t ty e i ht hi g off n c cur hg ⟨gx, ox, none⟩ 0 cx [] (by simp) (fun j u hj => by cases hj) (fun u hu => by cases hu) (by omega) (by simp; omega)
      refine ⟨_, _, hr, ⟨g, off, c, rfl⟩, ?_, ⟨rfl, rfl, rfl, by simp, fun k _ hk => setRow_other w g k _ (fun e => hk (by simp [Value.ownBlock, e]))⟩, fun b hb => .inl hb⟩
      have hcur : (cur.toList.take (off + n * i.size) ++ [] ++ cur.toList.drop (off + n * i.size + ([] : List Value).length)).toArray = cur := by
        simp
      rw [hcur]
      refine ⟨by rw [List.append_nil]; simpa using hown.1, .inr ⟨g, off, c, cur, rfl, setRow_heap w g cur _ e _ hg, hnc, hcm, hcs, ?_⟩⟩
      rw [List.append_nil, Nat.add_zero]
      exact htake

end
end Go.Proofs.YtcdedkgkingbdaaGreatDoor
end

section
/- append(s, l...) of two slices that lie anywhere, l may be empty or nil: what comes of it. Of no program. -/
namespace Go.Proofs.YtcdedkgkingbdaaGreatDoor
open Go.RowKit

section
variable {P : Program} (w : World)

theorem run_append_nil (t ty e : TypeId) (i : TypeInfo) (ht : P.underlying t = some (.slice e)) (hi : P.info? e = some i) (g off n c : Nat) (hn : n ≤ c) :
    (Builtin.append_ #[t, t] ty #[.slice (some ⟨g, off, none⟩) n c, .slice none 0 0]).run P w = .ok (.slice (some ⟨g, off, none⟩) n c) w := by
  simp [Builtin.append_, run_underlying ht, sizeOf, typeInfo, hi, Builtin.lenOf, hn, Builtin.firstCells, storeCells]

theorem run_append_any (t ty : TypeId) (e : TypeId) (i : TypeInfo) (z : Value) (size bytes : Nat) (ht : P.underlying t = some (.slice e)) (hi : P.info? e = some i) (hz : i.zero = some z)
    (hsize : i.size = size) (hby : i.bytes = bytes) (hzs : z.cells.size = size) (hsz : 0 < size)
    (v : Value) (n : Nat) (xs : List Value) (hown : Seg w e size v n xs) (hv : Thick v n)
    (x : Value) (m : Nat) (news : List Value) (hx : Seg w e size x m news) (hxt : Thick x m ∨ x = .slice none 0 0) (h1 : ∀ u ∈ news, u.oneCell' = true)
    (h63 : n + m ≤ maxLen) (hbytes : (n + m) * bytes ≤ 140737488355328) :
    ∃ y w', (Builtin.append_ #[t, t] ty #[v, x]).run P w = .ok y w' ∧ Thick y (n + m) ∧
      Seg w' e size y (n + m) (xs ++ news) ∧ w.grownBy w' v.ownBlock ∧ (∀ b, y.ownBlock = some b → v.ownBlock = some b ∨ b = w.heap.size) := by
  rcases hxt with hxt | rfl
  · exact run_append_all w t ty e i z size bytes ht hi hz hsize hby hzs hsz v n xs hown hv x m news hx hxt h1 h63 hbytes
  · obtain ⟨rfl, rfl⟩ : m = 0 ∧ news = [] := by
      rcases hx.2 with ⟨_, h2⟩ | ⟨g, off, cap, cur, h0, _⟩
      · exact ⟨h2, List.eq_nil_of_length_eq_zero (by rw [hx.1, h2, Nat.zero_mul])⟩
      · cases h0
    obtain ⟨g, off, c, rfl⟩ := hv
    have hnc : n ≤ c := by
      rcases hown.2 with ⟨h0, _⟩ | ⟨g', off', cap, cur, h0, hg, hnc, _⟩
      · cases h0
      · simp only [Value.slice.injEq, Option.some.injEq, Addr.mk.injEq, and_true, true_and] at h0
        obtain ⟨_, rfl⟩ := h0
        exact hnc
    exact ⟨_, w, run_append_nil w t ty e i ht hi g off n c hnc, ⟨g, off, c, rfl⟩, by rw [List.append_nil]; exact hown, ⟨rfl, rfl, rfl, Nat.le_refl _, fun _ _ _ => rfl⟩, fun b hb => .inl hb⟩

end
end Go.Proofs.YtcdedkgkingbdaaGreatDoor
end

