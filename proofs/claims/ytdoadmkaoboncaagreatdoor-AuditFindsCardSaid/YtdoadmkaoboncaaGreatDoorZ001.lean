/- Texts laid into one: TreeFC, PruP, PruHE, PrfA, PrfB, PrfC, PrfD, PrfE, PrfF. -/
import Derived.Test.YtdoadmkaoboncaaGreatDoorTreeF
import Derived.Test.YtdoadmkaoboncaaGreatDoorZ000
import Derived.Test.YtdoadmkaoboncaaGreatDoorSums
import Derived.Test.YtdoadmkaoboncaaGreatDoorDigI
import Derived.Test.YtdoadmkaoboncaaGreatDoorBld
import Derived.Lib.ItoaWalk
import Derived.Test.YtdoadmkaoboncaaGreatDoorLate
section
/- tree: consistency, Consistency. -/
namespace Go.Proofs.YtdoadmkaoboncaaGreatDoor.dig
open Go Go.RowKit

set_option maxRecDepth 100000 in
set_option maxHeartbeats 2000000 in
theorem cons_calls (B : Nat) (F : Nat → Prop) (b N fl : Nat) (f : Nat → List UInt8) (hN : N < 1024) : ∀ (n i a K : Nat) (w : World), Tr B F w b N fl f → 2 ^ K ∣ a → n ≤ 2 ^ K → a + n ≤ N → 0 < i → i ≤ n → fl ≤ a + i → (i = n → a = 0 ∨ Av fl a n) →
    Calls Tryz.prog 67 #[.pointer (some ⟨b, 0, none⟩), .int .i64 i, .int .i64 a, .int .i64 n] w (SumsPost w (steps f i a n (decide (a = 0)))) := by
  intro n
  induction n using Nat.strongRecOn with
  | _ n ih =>
  intro i a K w hT hd hnK han hi0 hin hfl hav0
  by_cases hne : i ≠ n
  · have h2 : 2 ≤ n := by omega
    have h1 := half_lt h2
    have h0 := half_pos n
    have h3 := half_ge h2
    obtain ⟨k, hk⟩ : ∃ k, k = half n := ⟨_, rfl⟩
    obtain ⟨n', hn'⟩ : ∃ n', n' = n - k := ⟨_, rfl⟩
    obtain ⟨a', ha'⟩ : ∃ a', a' = a + k := ⟨_, rfl⟩
    have hk1 : (n : Int) - (k : Int) = (n' : Int) := by omega
    have hk2 : (a : Int) + (k : Int) = (a' : Int) := by omega
    have hk3 : (a' : Int) ≤ 1000000 := by omega
    have hk4 : (n' : Int) ≤ 1000000 := by omega
    have hb1 : (n : Int) ≤ 1000000 := by omega
    have hb2 : (a : Int) ≤ 1000000 := by omega
    have hb3 : (k : Int) ≤ 1000000 := by omega
    have hb4 : (i : Int) ≤ 1000000 := by omega
    have hn2 : ¬ (i : Int) = (n : Int) := by omega
    have hn1000 : n ≤ 1000000000000 := by omega
    have HK := Lib.hid hk
    by_cases hik : i ≤ k
    · have hik2 : (i : Int) ≤ (k : Int) := by omega
      obtain ⟨J, hJ1, hJ2⟩ := dv_left h2 hd hnK
      have hav := av_right (fl := fl) h2 hd hnK (by omega)
      have hav2 := av_left (fl := fl) h2 hd hnK (by omega)
      rw [← hk] at hav2
      rw [← hk] at hJ2
      rw [← hk, ← ha', ← hn'] at hav
      have hp : steps f i a n (decide (a = 0)) = steps f i a k (decide (a = 0)) ++ [rt f a' n'] := by rw [steps, if_neg hne, dif_pos h2, if_pos (by rw [← hk]; exact hik), ← hk, ← ha', ← hn']
      have HP := Lib.hid hp
      have HI := Lib.hid (fun w' (h : Tr B F w' b N fl f) => ih k (by omega) i a J w' h hJ1 hJ2 (by omega) hi0 hik hfl (fun e => .inr hav2))
      have HQ := Lib.hid (fun w' (h : Tr B F w' b N fl f) => root_calls B F b N fl f hN n' a' w' h hav (by omega))
      have HL := Lib.hid (rt_len hT.len a' n' (by omega))
      have HM : Hid ((steps f i a k (decide (a = 0))).length ≤ 64) := Lib.hid (by have := steps_le f 10 k a i (decide (a = 0)) (by omega); omega)
      have HT := Lib.hid hT
      clear ih hT hd hnK han hin hi0 hne hav0 hfl h1 h0 h3 hk hn' ha' hJ1 hJ2 hav hav2 hp hik
      generalize steps f i a k (decide (a = 0)) = l at *
      generalize rt f a' n' = x at *
      go_enter Tryz.func67, Tryz.ntmps67
      go_wp2_with fail
      refine (half_calls n w h2 hn1000).mono ?_
      rw [← HK.out]
      rintro e w' ⟨rfl, rfl⟩
      go_wp2_with fail
      refine (HI.out _ HT.out).mono ?_
      rintro e w1 ⟨v, rfl, s1, lo1, b1⟩
      have T1 : Hid (Tr B F w1 b N fl f ∧ Below w.heap.size w w1 ∧ Seg w1 38 32 v l.length (sumsC l) ∧ (∀ x, v.ownBlock = some x → w.heap.size ≤ x)) := Lib.hid ⟨HT.out.below b1, b1, s1, lo1⟩
      clear s1 lo1 b1 HT
      go_wp2_with fail
      refine (HQ.out _ T1.out.1).mono ?_
      rintro e w2 ⟨rfl, b2⟩
      have T2 : Hid (Below w.heap.size w w2 ∧ Seg w2 38 32 v l.length (sumsC l) ∧ (∀ x, v.ownBlock = some x → w.heap.size ≤ x)) := Lib.hid ⟨T1.out.2.1.trans (b2.mono T1.out.2.1.size), T1.out.2.2.1.below b2 (fun x hx => T1.out.2.2.1.lt hx), T1.out.2.2.2⟩
      clear T1 b2
      obtain ⟨i0, z0, hi0, hz0, hz1, hz2, hz3⟩ := sumInfo
      have HI0 := Lib.hid hi0
      have HZ0 := Lib.hid hz0
      clear hi0 hz0
      go_wp2_with (first
        | ((with_reducible refine at_op 38 ?_); refine wpList_build_one (o := ⟨some 38, _, _, _, _, _⟩) rfl 23 38 _ rfl i0 z0 Tryz.underlying23 HI0.out HZ0.out (cellsOf x) rfl (by rw [hz1, cellsOf_size, HL.out]) (by rw [cellsOf_size, HL.out]; decide) (by rw [cellsOf_size, HL.out]; decide) w2.heap.size rfl ?_; intro W3 HW3 BW3;
           (have T3 : Hid (Below w.heap.size w W3 ∧ Seg W3 38 32 v l.length (sumsC l) ∧ (∀ x, v.ownBlock = some x → w.heap.size ≤ x) ∧ Has W3 w2.heap.size 38 (cellsOf x)) := Lib.hid ⟨T2.out.1.trans (BW3.mono T2.out.1.size), T2.out.2.1.below BW3 (fun x hx => T2.out.2.1.lt hx), T2.out.2.2, HW3⟩);
           clear T2 HW3 BW3)
        | ((with_reducible refine at_op 39 ?_); refine wpList_append_seg (o := ⟨some 39, _, _, _, _, _⟩) _ rfl (.tmp 29) (.tmp 38) 23 rfl 38 i0 z0 32 32 Tryz.underlying23 HI0.out HZ0.out hz1 hz3 hz2 (by decide) v l.length (sumsC l) rfl T3.out.2.1 ⟨w2.heap.size, 0, none⟩ 1 1 (x.map byteV) rfl (by rw [List.length_map, HL.out]) (World.news_of_block T3.out.2.2.2) (byteV_one _) (by decide) (by have := HM.out; unfold maxLen; omega) (by have := HM.out; omega) _ rfl ?_;
           intro g off cap w4 hown hgrow hat hlt)
        | fail)
      go_ret
      rw [HP.out]
      refine ⟨_, rfl, ?_, ?_, ?_⟩
      · rw [sumsC_snoc, List.length_append]; exact hown
      · intro y hy
        have e : g = y := by simpa [Value.ownBlock] using hy
        rw [← e]
        rcases hat with h | h
        · exact T3.out.2.2.1 g h
        · rw [h]; exact T3.out.1.size
      · exact T3.out.1.trans (below_own hgrow T3.out.2.2.1 T3.out.1.size)
    · have hik2 : ¬ (i : Int) ≤ (k : Int) := by omega
      obtain ⟨i', hi'⟩ : ∃ i', i' = i - k := ⟨_, rfl⟩
      have hk5 : (i : Int) - (k : Int) = (i' : Int) := by omega
      have hk6 : (i' : Int) ≤ 1000000 := by omega
      obtain ⟨J, hJ1, hJ2⟩ := dv_right h2 hd hnK
      have hav := av_left (fl := fl) h2 hd hnK (by omega)
      rw [← hk, ← ha'] at hJ1
      rw [← hk, ← hn'] at hJ2
      rw [← hk] at hav
      have hp : steps f i a n (decide (a = 0)) = steps f i' a' n' (decide (a' = 0)) ++ [rt f a k] := by rw [steps, if_neg hne, dif_pos h2, if_neg (by rw [← hk]; exact hik), ← hk, ← ha', ← hn', ← hi', show decide (a' = 0) = false from decide_eq_false (by omega)]
      have HP := Lib.hid hp
      have HI := Lib.hid (fun w' (h : Tr B F w' b N fl f) => ih n' (by omega) i' a' J w' h hJ1 hJ2 (by omega) (by omega) (by omega) (by omega) (fun e => by omega))
      have HQ := Lib.hid (fun w' (h : Tr B F w' b N fl f) => root_calls B F b N fl f hN k a w' h hav (by omega))
      have HL := Lib.hid (rt_len hT.len a k (by omega))
      have HM : Hid ((steps f i' a' n' (decide (a' = 0))).length ≤ 64) := Lib.hid (by have := steps_le f 10 n' a' i' (decide (a' = 0)) (by omega); omega)
      have HT := Lib.hid hT
      clear ih hT hd hnK han hin hi0 hne hav0 hfl h1 h0 h3 hk hn' ha' hi' hJ1 hJ2 hav hp hik
      generalize steps f i' a' n' (decide (a' = 0)) = l at *
      generalize rt f a k = x at *
      go_enter Tryz.func67, Tryz.ntmps67
      go_wp2_with fail
      refine (half_calls n w h2 hn1000).mono ?_
      rw [← HK.out]
      rintro e w' ⟨rfl, rfl⟩
      go_wp2_with fail
      refine (HI.out _ HT.out).mono ?_
      rintro e w1 ⟨v, rfl, s1, lo1, b1⟩
      have T1 : Hid (Tr B F w1 b N fl f ∧ Below w.heap.size w w1 ∧ Seg w1 38 32 v l.length (sumsC l) ∧ (∀ x, v.ownBlock = some x → w.heap.size ≤ x)) := Lib.hid ⟨HT.out.below b1, b1, s1, lo1⟩
      clear s1 lo1 b1 HT
      go_wp2_with fail
      refine (HQ.out _ T1.out.1).mono ?_
      rintro e w2 ⟨rfl, b2⟩
      have T2 : Hid (Below w.heap.size w w2 ∧ Seg w2 38 32 v l.length (sumsC l) ∧ (∀ x, v.ownBlock = some x → w.heap.size ≤ x)) := Lib.hid ⟨T1.out.2.1.trans (b2.mono T1.out.2.1.size), T1.out.2.2.1.below b2 (fun x hx => T1.out.2.2.1.lt hx), T1.out.2.2.2⟩
      clear T1 b2
      obtain ⟨i0, z0, hi0, hz0, hz1, hz2, hz3⟩ := sumInfo
      have HI0 := Lib.hid hi0
      have HZ0 := Lib.hid hz0
      clear hi0 hz0
      go_wp2_with (first
        | ((with_reducible refine at_op 55 ?_); refine wpList_build_one (o := ⟨some 55, _, _, _, _, _⟩) rfl 23 38 _ rfl i0 z0 Tryz.underlying23 HI0.out HZ0.out (cellsOf x) rfl (by rw [hz1, cellsOf_size, HL.out]) (by rw [cellsOf_size, HL.out]; decide) (by rw [cellsOf_size, HL.out]; decide) w2.heap.size rfl ?_; intro W3 HW3 BW3;
           (have T3 : Hid (Below w.heap.size w W3 ∧ Seg W3 38 32 v l.length (sumsC l) ∧ (∀ x, v.ownBlock = some x → w.heap.size ≤ x) ∧ Has W3 w2.heap.size 38 (cellsOf x)) := Lib.hid ⟨T2.out.1.trans (BW3.mono T2.out.1.size), T2.out.2.1.below BW3 (fun x hx => T2.out.2.1.lt hx), T2.out.2.2, HW3⟩);
           clear T2 HW3 BW3)
        | ((with_reducible refine at_op 56 ?_); refine wpList_append_seg (o := ⟨some 56, _, _, _, _, _⟩) _ rfl (.tmp 50) (.tmp 55) 23 rfl 38 i0 z0 32 32 Tryz.underlying23 HI0.out HZ0.out hz1 hz3 hz2 (by decide) v l.length (sumsC l) rfl T3.out.2.1 ⟨w2.heap.size, 0, none⟩ 1 1 (x.map byteV) rfl (by rw [List.length_map, HL.out]) (World.news_of_block T3.out.2.2.2) (byteV_one _) (by decide) (by have := HM.out; unfold maxLen; omega) (by have := HM.out; omega) _ rfl ?_;
           intro g off cap w4 hown hgrow hat hlt)
        | fail)
      go_ret
      rw [HP.out]
      refine ⟨_, rfl, ?_, ?_, ?_⟩
      · rw [sumsC_snoc, List.length_append]; exact hown
      · intro y hy
        have e : g = y := by simpa [Value.ownBlock] using hy
        rw [← e]
        rcases hat with h | h
        · exact T3.out.2.2.1 g h
        · rw [h]; exact T3.out.1.size
      · exact T3.out.1.trans (below_own hgrow T3.out.2.2.1 T3.out.1.size)
  · obtain rfl : i = n := by omega
    by_cases ha : a = 0
    · subst ha
      have _hp : steps f i 0 i true = [] := by rw [steps, if_pos rfl, if_pos rfl]
      go_enter Tryz.func67, Tryz.ntmps67
      go_wp2_with fail
      go_ret
      exact ⟨_, rfl, Seg.nil _ _ _, (fun x (hx : (Value.slice none 0 0).ownBlock = some x) => by cases hx), Below.refl _ _⟩
    · have hav : Av fl a i := (hav0 rfl).resolve_left ha
      have hp : steps f i a i (decide (a = 0)) = [rt f a i] := by rw [steps, if_pos rfl, decide_eq_false ha]; rfl
      have ha2 : ¬ (a : Int) = 0 := by omega
      have HP := Lib.hid hp
      have HQ := Lib.hid (fun w' (h : Tr B F w' b N fl f) => root_calls B F b N fl f hN i a w' h hav (by omega))
      have HL := Lib.hid (rt_len hT.len a i (by omega))
      have HT := Lib.hid hT
      clear ih hT hd hnK han hin hi0 hne hav0 hfl hav hp ha
      generalize rt f a i = x at *
      obtain ⟨i0, z0, hi0, hz0, hz1, hz2, hz3⟩ := sumInfo
      have HI0 := Lib.hid hi0
      have HZ0 := Lib.hid hz0
      clear hi0 hz0 hz2 hz3
      go_enter Tryz.func67, Tryz.ntmps67
      go_wp2_with fail
      refine (HQ.out _ HT.out).mono ?_
      rintro e w2 ⟨rfl, b2⟩
      have T2 : Hid (Below w.heap.size w w2) := Lib.hid b2
      clear b2
      go_wp2_with (first
        | ((with_reducible refine at_op 19 ?_); refine wpList_build_one (o := ⟨some 19, _, _, _, _, _⟩) rfl 23 38 _ rfl i0 z0 Tryz.underlying23 HI0.out HZ0.out (cellsOf x) rfl (by rw [hz1, cellsOf_size, HL.out]) (by rw [cellsOf_size, HL.out]; decide) (by rw [cellsOf_size, HL.out]; decide) w2.heap.size rfl ?_; intro W3 HW3 BW3;
           (have T3 : Hid (Below w.heap.size w W3 ∧ Has W3 w2.heap.size 38 (cellsOf x)) := Lib.hid ⟨T2.out.trans (BW3.mono T2.out.size), HW3⟩);
           clear HW3 BW3)
        | fail)
      go_ret
      rw [HP.out]
      refine ⟨_, rfl, ?_, ?_, T3.out.1⟩
      · have := Seg.of_has (n := 1) (size := 32) T3.out.2 (by rw [cellsOf_size, HL.out]) (by decide)
        simpa [sumsC, cellsOf] using this
      · intro y hy
        have e : w2.heap.size = y := by simpa [Value.ownBlock] using hy
        rw [← e]
        exact T2.out.size

section
variable {B : Nat} {F : Nat → Prop} {b N fl : Nat} {f : Nat → List UInt8} {w : World}

set_option maxRecDepth 100000 in
set_option maxHeartbeats 1000000 in
theorem Tr.consistency (hT : Tr B F w b N fl f) (hN : N < 1024) (m n : Nat) (hn : n ≤ N) (hm : m ≤ n) (hf : fl ≤ m) (h0 : 0 < m) :
    Calls Tryz.prog 38 #[.pointer (some ⟨b, 0, none⟩), .int .i64 m, .int .i64 n] w (SumsOk w (steps f m 0 n true)) := by
  have HI := Lib.hid (cons_calls B F b N fl f hN n m 0 n w hT ⟨0, by simp⟩ (two_ge n) (by omega) h0 hm (by omega) (fun _ => .inl rfl))
  rw [show decide (0 = 0) = true from rfl] at HI
  obtain ⟨rv, hh⟩ := hT.head
  have e0 := hh.cell 0
  have e1 := hh.cell 1
  simp at e0 e1
  have h1 : ¬ (n : Int) < 0 := by omega
  have h2 : ¬ (n : Int) > (N : Int) := by omega
  have h3 : ¬ (m : Int) < 0 := by omega
  have h4 : ¬ (m : Int) > (n : Int) := by omega
  have h5 : ¬ (m : Int) < (fl : Int) := by omega
  have h6 : ¬ (m : Int) = 0 := by omega
  clear hT hh
  go_enter Tryz.func38, Tryz.ntmps38
  go_wp2_with fail
  refine HI.out.mono ?_
  rintro e w1 ⟨v, rfl, s1, lo1, b1⟩
  have S := Lib.hid (show _ ∧ _ ∧ _ from ⟨s1, lo1, b1⟩)
  clear s1 lo1 b1 HI
  go_wp2_with fail
  go_ret2
  exact ⟨v, rfl, S.out⟩

set_option maxRecDepth 100000 in
set_option maxHeartbeats 1000000 in
theorem Tr.consistency_none (hT : Tr B F w b N fl f) (n : Nat) (hn : n ≤ N) (hf : fl = 0) :
    Calls Tryz.prog 38 #[.pointer (some ⟨b, 0, none⟩), .int .i64 0, .int .i64 n] w fun en w' => en = .returned (.tuple #[.slice none 0 0, .int .i64 0]) ∧ w = w' := by
  obtain ⟨rv, hh⟩ := hT.head
  subst hf
  have e0 := hh.cell 0
  have e1 := hh.cell 1
  simp at e0 e1
  have h1 : ¬ (n : Int) < 0 := by omega
  have h2 : ¬ (n : Int) > (N : Int) := by omega
  have h4 : ¬ 0 > (n : Int) := by omega
  clear hT hh
  go_enter Tryz.func38, Tryz.ntmps38
  go_wp2_with fail
  go_ret2
  exact ⟨rfl, rfl⟩

end
end Go.Proofs.YtdoadmkaoboncaaGreatDoor.dig
end

section
/- prune: Prefix. -/
namespace Go.Proofs.YtdoadmkaoboncaaGreatDoor.prn
open Go Go.RowKit Go.Proofs.YtdoadmkaoboncaaGreatDoor.dig Go.Proofs.YtdoadmkaoboncaaGreatDoor.prf

def prefixNm : ByteArray := ⟨#[112, 114, 101, 102, 105, 120]⟩
/-- The sums of a prefix's proof. -/
def stepsL (L : List ByteArray) (m n : Nat) : List (List UInt8) := if m = 0 then [] else steps (leafF L) m 0 n true

section
variable {B : Nat} {F : Nat → Prop} {w : World} {vb fl : Nat} {L : List ByteArray}

set_option maxRecDepth 100000 in
set_option maxHeartbeats 2000000 in
theorem Va.pfx (h : Va B F w vb L fl) (hN : L.length < 1024) (m n : Nat) (hn : n ≤ L.length) (hm : m ≤ n) (hf : fl ≤ m) :
    Calls Tryz.prog 16 #[.pointer (some ⟨vb, 0, none⟩), .int .i64 m, .int .i64 n] w (ProofPost w 2 m n (stepsL L m n)) := by
  obtain ⟨T, tb, first, cv, r⟩ := h.raw
  have e0 : ∀ O, (w.alloc O).cell? ⟨vb, 0, none⟩ = some (.pointer (some ⟨tb, 0, none⟩)) := fun O => by
    have := (r.own.alloc O).cell 0
    simpa using this
  obtain ⟨l, hl⟩ : ∃ l, l = stepsL L m n := ⟨_, rfl⟩
  have HCS : Hid (∀ V, Tr B T V tb L.length fl (leafF L) → Calls Tryz.prog 38 #[.pointer (some ⟨tb, 0, none⟩), .int .i64 m, .int .i64 n] V fun en w' => ∃ v, en = .returned (.tuple #[v, .int .i64 0]) ∧ Seg w' 38 32 v l.length (sumsC l) ∧ (∀ x, v.ownBlock = some x → V.heap.size ≤ x) ∧ Below V.heap.size V w') := Lib.hid fun V hV => by
    by_cases h0 : m = 0
    · subst h0
      refine (hV.consistency_none n hn (by omega)).mono ?_
      rintro en w' ⟨rfl, rfl⟩
      rw [hl]
      exact ⟨_, rfl, Seg.nil _ _ _, (fun x hx => by cases hx), Below.refl _ _⟩
    · rw [hl]
      unfold stepsL
      rw [if_neg h0]
      exact hV.consistency hN m n hn hm hf (by omega)
  have HT := Lib.hid r.tree
  rw [← hl]
  have HL := Lib.hid hl
  clear h r hN hf hn hm hl
  go_enter Tryz.func16, Tryz.ntmps16
  go_wp2_with fail
  refine callsName (fun W hW => ?_)
  have B0 : Hid (Below w.heap.size w W) := by rw [← hW]; exact Lib.hid ((Below.refl _ _).alloc (Nat.le_refl _) _)
  have Z0 : Hid (Has W w.heap.size 25 (prC 0 0 0 (.slice none 0 0))) := by rw [← hW]; exact Lib.hid (made_at _ _ rfl)
  clear hW e0
  refine (HCS.out W (HT.out.below B0.out)).mono ?_
  rintro en w1 ⟨v, rfl, s1, o1, b1⟩
  obtain ⟨a, c, rfl, _, _⟩ := s1.slice
  have S1 : Hid (Has w1 w.heap.size 25 (prC 0 0 0 (.slice none 0 0)) ∧ Below w.heap.size w w1 ∧ Seg w1 38 32 (.slice a l.length c) l.length (sumsC l) ∧ (∀ x, (Value.slice a l.length c).ownBlock = some x → w.heap.size ≤ x)) :=
    Lib.hid ⟨Z0.out.below b1 Z0.out.lt, B0.out.trans (b1.mono B0.out.size), s1, fun x hx => Nat.le_trans B0.out.size (o1 x hx)⟩
  clear b1 Z0 B0 s1 o1 HCS
  obtain ⟨q, hq⟩ : ∃ q, q = l.length := ⟨_, rfl⟩
  have HM := Lib.hid hq
  rw [← hq] at S1 ⊢
  clear hq
  go_wp2_with fail
  refine (answer_ok prefixNm 2 m n a q c w1).mono ?_
  rintro en w2 ⟨rfl, b2⟩
  have S2 : Hid (Has w2 w.heap.size 25 (prC 0 0 0 (.slice none 0 0)) ∧ Below w.heap.size w w2 ∧ Seg w2 38 32 (.slice a q c) q (sumsC l)) := Lib.hid ⟨S1.out.1.below b2 S1.out.1.lt, S1.out.2.1.trans (b2.mono S1.out.2.1.size), S1.out.2.2.1.below b2 (fun x hx => S1.out.2.2.1.lt hx)⟩
  clear b2
  go_wp2_with (first
    | ((with_reducible refine at_store (.tmp 6) ?_); refine wpList_store_cells (o := ⟨none, _, _, _, _, _⟩) rfl 25 (.tmp 6) (.tmp 26) rfl w.heap.size (prC 2 m n (.slice a q c)) (prC 0 0 0 (.slice none 0 0)) rfl rfl _ S2.out.1 (by kernel_rfl) rfl (by simp [prC, Value.oneCell']) ?_; intro W9 HW9 TW9)
    | fail)
  have B9 := S2.out.2.1.trans (TW9.below S2.out.2.1.size (fun j hj e => by omega))
  exact bodyPost_ret (v := .tuple #[.agg (prC 2 m n (.slice a q c)), .nilIface]) (results_cell_tmp rfl _ _ w.heap.size 25 _ _ _ rfl HW9 Tryz.underlying25 rfl (by kernel_rfl) _ rfl) rfl
    ⟨a, c, by rw [← HM.out], by rw [← HM.out]; exact S2.out.2.2.turn TW9 (fun x hx e => S2.out.2.2.ne S2.out.1 (by decide) (by rw [hx, e])), by rw [← HM.out]; exact S1.out.2.2.2, B9⟩

theorem steps_all {f : Nat → List UInt8} (h : ∀ i, (f i).length = 32) : ∀ (n m a : Nat) (first : Bool), 0 < m → m ≤ n → ∀ x ∈ steps f m a n first, x.length = 32 := by
  intro n
  induction n using Nat.strongRecOn with
  | _ n ih =>
    intro m a first h0 hm x hx
    rw [steps] at hx
    by_cases he : m = n
    · rw [if_pos he] at hx
      cases first
      · rw [if_neg (by simp)] at hx
        rw [List.mem_singleton.1 hx]
        exact rt_len h _ _ (by omega)
      · rw [if_pos rfl] at hx; cases hx
    · have h2 : 2 ≤ n := by omega
      have hp := half_pos n
      have hl := half_lt h2
      rw [if_neg he, dif_pos h2] at hx
      split at hx
      · rename_i hh
        rcases List.mem_append.1 hx with hx | hx
        · exact ih _ hl m a first h0 hh x hx
        · rw [List.mem_singleton.1 hx]; exact rt_len h _ _ (by omega)
      · rename_i hh
        rcases List.mem_append.1 hx with hx | hx
        · exact ih _ (by omega) (m - half n) _ false (by omega) (by omega) x hx
        · rw [List.mem_singleton.1 hx]; exact rt_len h _ _ hp
theorem stepsL_all (L : List ByteArray) (m n : Nat) (hm : m ≤ n) : ∀ x ∈ stepsL L m n, x.length = 32 := by
  intro x hx
  unfold stepsL at hx
  by_cases h0 : m = 0
  · rw [if_pos h0] at hx; cases hx
  · rw [if_neg h0] at hx
    exact steps_all (leafF_len L) n m 0 true (by omega) hm x hx

/-- What a vault's own proof of a prefix proves. -/
theorem elder_steps {L : List ByteArray} {m n : Nat} (hm : m ≤ n) : elderB m (rtAll (leafF L) m) n (rtAll (leafF L) n) (stepsL L m n).reverse = true := by
  unfold elderB stepsL
  by_cases he : m = n
  · subst he
    rw [if_pos rfl]
    by_cases h0 : m = 0
    · rw [if_pos h0]; simp
    · rw [if_neg h0, steps, if_pos rfl, if_pos rfl]; simp
  · rw [if_neg he]
    by_cases h0 : m = 0
    · subst h0
      rw [if_pos rfl, if_pos rfl]
      simp [rtAll]
    · rw [if_neg h0, if_neg h0]
      have h1 := both_steps (List.replicate 32 0) (rtAll (leafF L) m) (leafF L) n m 0 true (by omega) hm (fun _ => by unfold rtAll; rw [if_neg h0])
      have hr : ∀ k, k ≠ 0 → rtAll (leafF L) k = rt (leafF L) 0 k := fun k hk => by unfold rtAll; rw [if_neg hk]
      rw [h1, hr m h0, hr n (by omega)]
      simp
end
end Go.Proofs.YtdoadmkaoboncaaGreatDoor.prn
end

section
/- Out of PruEr: dig.Tr.root_err, Va.head_err, dig.Tr.consistency_range, dig.Tr.consistency_low, Va.pfx_err, Va.pfx_range, Va.pfx_low. -/
namespace Go.Proofs.YtdoadmkaoboncaaGreatDoor.prn
open Go Go.RowKit Go.Proofs.YtdoadmkaoboncaaGreatDoor.dig Go.Proofs.YtdoadmkaoboncaaGreatDoor.prf

section
variable {B : Nat} {F : Nat → Prop} {w : World} {b vb N fl : Nat} {f : Nat → List UInt8} {L : List ByteArray}
set_option maxRecDepth 100000 in
set_option maxHeartbeats 1000000 in
theorem _root_.Go.Proofs.YtdoadmkaoboncaaGreatDoor.dig.Tr.consistency_range (hT : Tr B F w b N fl f) (x n : Int) (h : n < 0 ∨ n > N ∨ x < 0 ∨ x > n) :
    Calls Tryz.prog 38 #[.pointer (some ⟨b, 0, none⟩), .int .i64 x, .int .i64 n] w fun en w' => en = .returned (.tuple #[.slice none 0 0, .int .i64 6]) ∧ w = w' := by
  obtain ⟨rv, hh⟩ := hT.head
  have e0 := hh.cell 0
  simp at e0
  clear hT hh
  by_cases h1 : n < 0
  · clear h
    go_enter Tryz.func38, Tryz.ntmps38
    go_wp2_with fail
    go_ret2
    exact ⟨rfl, rfl⟩
  by_cases h2 : n > (N : Int)
  · clear h
    go_enter Tryz.func38, Tryz.ntmps38
    go_wp2_with fail
    go_ret2
    exact ⟨rfl, rfl⟩
  by_cases h3 : x < 0
  · clear h
    go_enter Tryz.func38, Tryz.ntmps38
    go_wp2_with fail
    go_ret2
    exact ⟨rfl, rfl⟩
  · have h4 : x > n := by omega
    clear h
    go_enter Tryz.func38, Tryz.ntmps38
    go_wp2_with fail
    go_ret2
    exact ⟨rfl, rfl⟩


set_option maxRecDepth 100000 in
set_option maxHeartbeats 1000000 in
theorem _root_.Go.Proofs.YtdoadmkaoboncaaGreatDoor.dig.Tr.consistency_low (hT : Tr B F w b N fl f) (i n : Nat) (hn : n ≤ N) (hi : i ≤ n) (hf : i < fl) :
    Calls Tryz.prog 38 #[.pointer (some ⟨b, 0, none⟩), .int .i64 i, .int .i64 n] w fun en w' => en = .returned (.tuple #[.slice none 0 0, .int .i64 14]) ∧ w = w' := by
  obtain ⟨rv, hh⟩ := hT.head
  have e0 := hh.cell 0
  have e1 := hh.cell 1
  simp at e0 e1
  have h1 : ¬ (n : Int) < 0 := by omega
  have h2 : ¬ (n : Int) > (N : Int) := by omega
  have h3 : ¬ (i : Int) < 0 := by omega
  have h4 : ¬ (i : Int) > (n : Int) := by omega
  have h5 : (i : Int) < (fl : Int) := by omega
  clear hT hh
  go_enter Tryz.func38, Tryz.ntmps38
  go_wp2_with fail
  go_ret2
  exact ⟨rfl, rfl⟩

set_option maxRecDepth 100000 in
set_option maxHeartbeats 2000000 in
theorem Va.pfx_err (h : Va B F w vb L fl) (x n : Int) (E : Int) (hE : E ≠ 0) (hc : ∀ tb V, (∃ T, Tr B T V tb L.length fl (leafF L)) → Calls Tryz.prog 38 #[.pointer (some ⟨tb, 0, none⟩), .int .i64 x, .int .i64 n] V fun en w' => en = .returned (.tuple #[.slice none 0 0, .int .i64 E]) ∧ V = w') :
    Calls Tryz.prog 16 #[.pointer (some ⟨vb, 0, none⟩), .int .i64 x, .int .i64 n] w (PairErr w (.agg (prC 0 0 0 (.slice none 0 0))) prefixNm x E) := by
  obtain ⟨T, tb, first, cv, r⟩ := h.raw
  have e0 : ∀ O, (w.alloc O).cell? ⟨vb, 0, none⟩ = some (.pointer (some ⟨tb, 0, none⟩)) := fun O => by
    have := (r.own.alloc O).cell 0
    simpa using this
  have HT := Lib.hid r.tree
  have HC := Lib.hid hc
  have HE := Lib.hid hE
  clear h r hE hc
  go_enter Tryz.func16, Tryz.ntmps16
  go_wp2_with fail
  refine callsName (fun W hW => ?_)
  have B0 : Hid (Below w.heap.size w W) := by rw [← hW]; exact Lib.hid ((Below.refl _ _).alloc (Nat.le_refl _) _)
  have Z0 : Hid (Has W w.heap.size 25 (prC 0 0 0 (.slice none 0 0))) := by rw [← hW]; exact Lib.hid (made_at _ _ rfl)
  clear hW e0
  refine (HC.out tb W ⟨T, HT.out.below B0.out⟩).mono ?_
  rintro en w1 ⟨rfl, rfl⟩
  go_wp2_with fail
  refine (answer_err prefixNm 2 x n (.slice none 0 0) E HE.out W).mono ?_
  rintro en w2 ⟨b, rfl, hb, her, b2⟩
  have S2 := Lib.hid (show _ ∧ _ ∧ _ ∧ _ from ⟨Z0.out.below b2 Z0.out.lt, B0.out.trans (b2.mono B0.out.size), Nat.le_trans B0.out.size hb, her⟩)
  clear b2 Z0 B0 hb her
  go_wp2_with (first
    | ((with_reducible refine at_store (.tmp 6) ?_); refine wpList_store_cells (o := ⟨none, _, _, _, _, _⟩) rfl 25 (.tmp 6) (.tmp 26) rfl w.heap.size (prC 0 0 0 (.slice none 0 0)) (prC 0 0 0 (.slice none 0 0)) rfl rfl _ S2.out.1 (by kernel_rfl) rfl (by simp [prC, Value.oneCell']) ?_; intro W9 HW9 TW9)
    | fail)
  have B9 := S2.out.2.1.trans (TW9.below S2.out.2.1.size (fun j hj e => by omega))
  exact bodyPost_ret (v := .tuple #[.agg (prC 0 0 0 (.slice none 0 0)), flt.ev [⟨b, prefixNm, x⟩] E]) (results_cell_tmp rfl _ _ w.heap.size 25 _ _ _ rfl HW9 Tryz.underlying25 rfl (by kernel_rfl) _ rfl) rfl
    ⟨b, rfl, S2.out.2.2.1, by
      have he := S2.out.2.2.2
      refine ⟨⟨he.1.1.turn TW9 (fun e => ?_), by have := he.1.2; have := TW9.size; omega⟩, trivial⟩
      have e1 : b = w.heap.size := e
      have h1 := he.1.1
      rw [e1] at h1
      exact absurd (h1.uniq S2.out.1).2 (by decide), B9⟩

theorem Va.pfx_range (h : Va B F w vb L fl) (x n : Int) (hx : n < 0 ∨ n > L.length ∨ x < 0 ∨ x > n) :
    Calls Tryz.prog 16 #[.pointer (some ⟨vb, 0, none⟩), .int .i64 x, .int .i64 n] w (PairErr w (.agg (prC 0 0 0 (.slice none 0 0))) prefixNm x 6) :=
  h.pfx_err x n 6 (by decide) fun _ _ ⟨_, tr⟩ => tr.consistency_range x n hx
theorem Va.pfx_low (h : Va B F w vb L fl) (i n : Nat) (hn : n ≤ L.length) (hi : i ≤ n) (hf : i < fl) :
    Calls Tryz.prog 16 #[.pointer (some ⟨vb, 0, none⟩), .int .i64 i, .int .i64 n] w (PairErr w (.agg (prC 0 0 0 (.slice none 0 0))) prefixNm i 14) :=
  h.pfx_err i n 14 (by decide) fun _ _ ⟨_, tr⟩ => tr.consistency_low i n hn hi hf

set_option maxRecDepth 100000 in
set_option maxHeartbeats 1000000 in
/-- Root that answers number E: of a range, or below the floor. -/
theorem _root_.Go.Proofs.YtdoadmkaoboncaaGreatDoor.dig.Tr.root_err (hT : Tr B F w b N fl f) (x E : Int) (hx : (E = 6 ∧ (x < 0 ∨ x > N)) ∨ (E = 14 ∧ 0 ≤ x ∧ x ≤ N ∧ x < fl)) :
    Calls Tryz.prog 36 #[.pointer (some ⟨b, 0, none⟩), .int .i64 x] w fun en w' => en = .returned (.tuple #[.agg (cellsOf (List.replicate 32 0)), .int .i64 E]) ∧ Below w.heap.size w w' := by
  obtain ⟨rv, hh⟩ := hT.head
  have e0 : ∀ O, (w.alloc O).cell? ⟨b, 0, none⟩ = some (.int .i64 N) := fun O => (hh.alloc O).cell 0
  have e1 : ∀ O, (w.alloc O).cell? ⟨b, 1, none⟩ = some (.int .i64 fl) := fun O => (hh.alloc O).cell 1
  clear hT hh
  rcases hx with ⟨rfl, h | h⟩ | ⟨rfl, h1, h2, h3⟩
  · skip
    go_enter Tryz.func36, Tryz.ntmps36
    go_wp2_with (first
      | (refine wpList_store_arr (o := ⟨none, _, _, _, _, _⟩) rfl 38 _ _ rfl w.heap.size (List.replicate 32 0) (List.replicate 32 0) rfl rfl _ (made_at _ _ rfl) 32 (by kernel_rfl) (by simp) (by simp) ?_; intro W6 HW6 TW6)
      | fail)
    exact bodyPost_ret (v := .tuple #[.agg (cellsOf (List.replicate 32 0)), .int .i64 6]) (results_cell_tmp rfl _ _ w.heap.size 38 _ _ _ rfl HW6 Tryz.underlying38 rfl (by kernel_rfl) _ rfl) rfl ⟨rfl, ((Below.refl _ _).alloc (Nat.le_refl _) _).trans (TW6.below (by simp) (fun j hj e => by omega))⟩
  · have h0 : ¬ x < 0 := by omega
    go_enter Tryz.func36, Tryz.ntmps36
    go_wp2_with (first
      | (refine wpList_store_arr (o := ⟨none, _, _, _, _, _⟩) rfl 38 _ _ rfl w.heap.size (List.replicate 32 0) (List.replicate 32 0) rfl rfl _ (made_at _ _ rfl) 32 (by kernel_rfl) (by simp) (by simp) ?_; intro W6 HW6 TW6)
      | fail)
    exact bodyPost_ret (v := .tuple #[.agg (cellsOf (List.replicate 32 0)), .int .i64 6]) (results_cell_tmp rfl _ _ w.heap.size 38 _ _ _ rfl HW6 Tryz.underlying38 rfl (by kernel_rfl) _ rfl) rfl ⟨rfl, ((Below.refl _ _).alloc (Nat.le_refl _) _).trans (TW6.below (by simp) (fun j hj e => by omega))⟩
  · have h0 : ¬ x < 0 := by omega
    have h4 : ¬ x > (N : Int) := by omega
    go_enter Tryz.func36, Tryz.ntmps36
    go_wp2_with (first
      | (refine wpList_store_arr (o := ⟨none, _, _, _, _, _⟩) rfl 38 _ _ rfl w.heap.size (List.replicate 32 0) (List.replicate 32 0) rfl rfl _ (made_at _ _ rfl) 32 (by kernel_rfl) (by simp) (by simp) ?_; intro W6 HW6 TW6)
      | fail)
    exact bodyPost_ret (v := .tuple #[.agg (cellsOf (List.replicate 32 0)), .int .i64 14]) (results_cell_tmp rfl _ _ w.heap.size 38 _ _ _ rfl HW6 Tryz.underlying38 rfl (by kernel_rfl) _ rfl) rfl ⟨rfl, ((Below.refl _ _).alloc (Nat.le_refl _) _).trans (TW6.below (by simp) (fun j hj e => by omega))⟩

set_option maxRecDepth 100000 in
set_option maxHeartbeats 2000000 in
theorem Va.head_err (h : Va B F w vb L fl) (x E : Int) (hx : (E = 6 ∧ (x < 0 ∨ x > L.length)) ∨ (E = 14 ∧ 0 ≤ x ∧ x ≤ L.length ∧ x < fl)) :
    Calls Tryz.prog 15 #[.pointer (some ⟨vb, 0, none⟩), .int .i64 x] w (PairErr w (.agg (headC 0 (List.replicate 32 0))) headNm x E) := by
  obtain ⟨T, tb, first, cv, r⟩ := h.raw
  have e0 : ∀ O, (w.alloc O).cell? ⟨vb, 0, none⟩ = some (.pointer (some ⟨tb, 0, none⟩)) := fun O => by
    have := (r.own.alloc O).cell 0
    simpa using this
  have HT := Lib.hid r.tree
  have HX := Lib.hid hx
  have HE : Hid (E ≠ 0) := Lib.hid (by rcases hx with h | h <;> omega)
  clear h r hx
  go_enter Tryz.func15, Tryz.ntmps15
  go_wp2_with fail
  refine callsName (fun W hW => ?_)
  have B0 : Hid (Below w.heap.size w W) := by rw [← hW]; exact Lib.hid ((Below.refl _ _).alloc (Nat.le_refl _) _)
  have Z0 : Hid (Has W w.heap.size 41 (headC 0 (List.replicate 32 0))) := by rw [← hW]; exact Lib.hid (made_at _ _ rfl)
  clear hW e0
  refine ((HT.out.below B0.out).root_err x E HX.out).mono ?_
  obtain ⟨q, hq⟩ : ∃ q : List UInt8, q = List.replicate 32 0 := ⟨_, rfl⟩
  have HQ := Lib.hid hq
  have QL : Hid (q.length = 32) := Lib.hid (by rw [hq]; simp)
  have QC : Hid ((cellsOf q).size = 32) := Lib.hid (by rw [cellsOf_size, hq]; simp)
  rw [← hq] at Z0 ⊢
  clear hq
  rintro en w1 ⟨rfl, b1⟩
  have S1 : Hid (Has w1 w.heap.size 41 (headC 0 q) ∧ Below w.heap.size w w1) := Lib.hid ⟨Z0.out.below b1 Z0.out.lt, B0.out.trans (b1.mono B0.out.size)⟩
  clear b1 Z0 B0
  have hE := HE.out
  go_wp2_with (first
    | ((with_reducible refine at_store (.tmp 6) ?_); refine wpList_store_cells (o := ⟨none, _, _, _, _, _⟩) rfl 38 (.tmp 6) (.tmp 15) rfl w1.heap.size (cellsOf q) _ rfl rfl _ (made_at _ _ rfl) (QC.out.symm ▸ (by kernel_rfl)) (QC.out.symm ▸ rfl) (cellsOf_one _) ?_; intro W8 HW8 TW8;
       (have S2 : Hid (Has W8 w.heap.size 41 (headC 0 q) ∧ Below w.heap.size w W8) := (by
         have bb : Below w1.heap.size w1 W8 := ((Below.refl _ _).alloc (Nat.le_refl _) _).trans (TW8.below (by simp) (fun j hj e => by omega))
         exact Lib.hid ⟨S1.out.1.below bb S1.out.1.lt, S1.out.2.trans (bb.mono S1.out.2.size)⟩));
       clear S1 HW8 TW8)
    | ((with_reducible refine at_op 19 ?_); refine wpList_plain rfl (fun K hK => ?_); unfold Oper.wp; rw [exec_zero_head rfl, ← HQ.out]; refine hK _ _ ?_)
    | fail)
  refine (flt.in_calls [] E headNm x _ HE.out).mono ?_
  rintro en w3 ⟨rfl, rfl⟩
  have S3 : Hid (Has (W8.alloc (.cells #[.string headNm, .int .i64 x, flt.ev [] E] 127)) w.heap.size 41 (headC 0 q) ∧ Below w.heap.size w (W8.alloc (.cells #[.string headNm, .int .i64 x, flt.ev [] E] 127))) := Lib.hid ⟨S2.out.1.alloc _, S2.out.2.alloc S2.out.2.size _⟩
  have W3L : Hid (w.heap.size ≤ W8.heap.size ∧ w.heap.size ≠ W8.heap.size) := Lib.hid ⟨S2.out.2.size, by have := S2.out.1.lt; omega⟩
  go_wp2_with (first
    | ((with_reducible refine at_store (.tmp 4) ?_); refine wpList_store_head (o := ⟨none, _, _, _, _, _⟩) rfl (.tmp 4) (.tmp 19) rfl w.heap.size 0 0 q q rfl (by first | rfl | (rw [HQ.out]; rfl)) S3.out.1 QL.out QL.out ?_; intro W9 HW9 TW9)
    | fail)
  exact bodyPost_ret (v := .tuple #[.agg (headC 0 q), flt.ev [⟨W8.heap.size, headNm, x⟩] E]) (results_cell_tmp rfl _ _ w.heap.size 41 _ _ _ rfl HW9 Tryz.underlying41 rfl (by rw [headC_size, QL.out]; kernel_rfl) _ rfl) rfl
    ⟨W8.heap.size, by rw [HQ.out], W3L.out.1, ⟨⟨(made_at _ _ rfl).turn TW9 (fun e => W3L.out.2 (Eq.symm e)), by have := TW9.size; simp at this; show W8.heap.size < _; omega⟩, trivial⟩, S3.out.2.trans (TW9.below S3.out.2.size (fun j hj e => by omega))⟩
end
end Go.Proofs.YtdoadmkaoboncaaGreatDoor.prn
end

section
/- proof: split, rootOf. -/
namespace Go.Proofs.YtdoadmkaoboncaaGreatDoor.prf
open Go Go.RowKit Go.Proofs.YtdoadmkaoboncaaGreatDoor.dig

/-- Thirty-two zeros. -/
abbrev Z : List UInt8 := List.replicate 32 0
theorem Z_len : Z.length = 32 := by simp

theorem results_mid {P : Program} {fn : Func} {p q r : Tmp} {ty : TypeId} (h : fn.results = #[.tmp q, .cell p ty, .tmp r]) (tmps : Array Value) (w : World) (g : Nat) (t : TypeId) (cs : Array Value) (fr : Nat × Nat) (d : TypeDesc)
    (hp : tmps.getD p undef = .pointer (some ⟨g, 0, none⟩)) (hg : w.heap[g]? = some (.cells cs t fr))
    (hu : P.underlying ty = some d) (hd : (match d with | .struct _ | .array _ _ => true | _ => false) = true) (hi : (P.info? ty).map (·.size) = some cs.size) (u v : Value) (hq : tmps.getD q undef = u) (hr : tmps.getD r undef = v) :
    (results fn tmps).run P w = .ok (.tuple #[u, .agg cs, v]) w := by
  have hp' : tmps[p]?.getD undef = .pointer (some ⟨g, 0, none⟩) := by simpa using hp
  have hq' : tmps[q]?.getD undef = u := by simpa using hq
  have hr' : tmps[r]?.getD undef = v := by simpa using hr
  simp [results, h, hp', hq', hr', asAddr, run_loadVar_row w g t ty cs fr d hg hu hd hi]

set_option maxRecDepth 100000 in
set_option maxHeartbeats 1000000 in
theorem split_none (a : Option Addr) (c : Nat) (w : World) : Calls Tryz.prog 108 #[.slice a 0 c] w fun en w' => en = .returned (.tuple #[.slice none 0 0, .agg (cellsOf Z), .bool false]) ∧ Below w.heap.size w w' := by
  go_enter Tryz.func108, Tryz.ntmps108
  go_wp2_with (first
    | ((with_reducible refine at_store (.tmp 3) ?_); refine wpList_store_arr (o := ⟨none, _, _, _, _, _⟩) rfl 38 _ _ rfl w.heap.size Z Z rfl rfl _ (made_at _ _ rfl) 32 (by kernel_rfl) Z_len Z_len ?_; intro W6 HW6 TW6
       (have B6 : Hid (Below w.heap.size w W6) := Lib.hid (((Below.refl _ w).alloc (Nat.le_refl _) _).trans (TW6.below (by simp) (fun j hj e => by omega))))
       (clear TW6))
    | fail)
  exact bodyPost_ret (v := .tuple #[.slice none 0 0, .agg (cellsOf Z), .bool false]) (results_mid rfl _ _ w.heap.size 38 _ _ _ rfl HW6 Tryz.underlying38 rfl (by rw [cellsOf_size, Z_len]; kernel_rfl) _ _ rfl rfl) rfl ⟨rfl, B6.out⟩
set_option maxRecDepth 100000 in
set_option maxHeartbeats 1000000 in
theorem split_some {w : World} {a : Option Addr} {n c : Nat} {s : List UInt8} {r : List (List UInt8)} (h : Sms w (.slice a n c) (s :: r)) : Calls Tryz.prog 108 #[.slice a n c] w fun en w' => en = .returned (.tuple #[.slice a r.length c, .agg (cellsOf s), .bool true]) ∧ Below w.heap.size w w' := by
  obtain ⟨hr, hnk, hn, hc, hs, g, off, rfl, hg, hrng⟩ := h.cons
  obtain ⟨k, hk⟩ : ∃ k, k = r.length := ⟨_, rfl⟩
  rw [← hk] at hnk hrng ⊢
  have hcm : (c : Int) ≤ 9223372036854775807 := by unfold maxLen at hc; omega
  have HS := Lib.hid hs
  have HR := Lib.hid hrng
  have k0 : (0 : Int) ≤ (k : Int) := by omega
  have k1 : (k : Int) < (n : Int) := by omega
  have k2 : (k : Int) ≤ (c : Int) := by omega
  have n1 : (n : Int) ≤ 9223372036854775807 := by omega
  have e1 : (n : Int) - 1 = (k : Int) := by omega
  clear h hr hs hrng hk hnk
  go_enter Tryz.func108, Tryz.ntmps108
  go_wp2_with fail
  go_name_world W hW
  have B0 : Below w.heap.size w W := by rw [← hW]; exact (Below.refl _ _).alloc (Nat.le_refl _) _
  have Z0 : Has W w.heap.size 38 (cellsOf Z) := by rw [← hW]; exact made_at _ _ rfl
  have dr : W.rangeAt g (off + k * 32) (s.map byteV) := fun j u hj => by rw [← HR.out j u hj]; unfold World.cell?; rw [B0.block g hg]
  clear hW HR
  obtain ⟨V, hV⟩ : ∃ V, V = W.drew := ⟨_, rfl⟩
  refine still_tail_at V hV 8 (by kernel_rfl) (by kernel_rfl) ?_
  have BV : Hid (Below w.heap.size w V ∧ Has V w.heap.size 38 (cellsOf Z)) := by rw [hV]; exact Lib.hid ⟨B0.drew, Z0⟩
  have hl : (Instr.loadAt 38 (.pointer (some ⟨g, off + k * 32, none⟩))).run Tryz.prog V = .ok (.agg (cellsOf s)) V :=
    run_loadAt_mid V g (off + k * 32) 38 (s.map byteV) _ (by rw [hV]; exact dr) Tryz.underlying38 rfl (by rw [List.length_map, HS.out]; kernel_rfl)
  clear hV dr B0 Z0
  simp only [List.take_succ_cons, List.take_zero, List.drop_succ_cons, List.drop_zero]
  have j0 : (0 : Int) ≤ (k : Int) ∧ (k : Int) < (n : Int) := ⟨k0, by omega⟩
  have j1 : (0 : Int) ≤ (k : Int) ∧ (k : Int) ≤ (c : Int) := ⟨k0, by omega⟩
  repeat still_step
  refine still_load hl ?_
  repeat still_step
  refine wpStill_nil ?_
  clear hl
  go_wp2_with (first
    | ((with_reducible refine at_store (.tmp 3) ?_); refine wpList_store_arr (o := ⟨none, _, _, _, _, _⟩) rfl 38 _ _ rfl w.heap.size s Z rfl rfl _ BV.out.2 32 (by kernel_rfl) Z_len HS.out ?_; intro W6 HW6 TW6
       (have B6 : Hid (Below w.heap.size w W6) := Lib.hid (BV.out.1.trans (TW6.below BV.out.1.size (fun j hj e => by omega))))
       (clear TW6))
    | fail)
  exact bodyPost_ret (v := .tuple #[.slice (some ⟨g, off, none⟩) k c, .agg (cellsOf s), .bool true]) (results_mid rfl _ _ w.heap.size 38 _ _ _ rfl HW6 Tryz.underlying38 rfl (by rw [cellsOf_size, HS.out]; kernel_rfl) _ _ rfl rfl) rfl ⟨rfl, B6.out⟩

/-- What lasts in rootOf: the leaf's sum in its box, the result's cell, the outermost sum at g. -/
structure Ro (w : World) (x y s : List UInt8) (g : Nat) (W : World) : Prop where
  bel : Below w.heap.size w W
  bx : Has W w.heap.size 38 (cellsOf x)
  re : Has W (w.heap.size + 1) 38 (cellsOf y)
  ou : Has W g 38 (cellsOf s)
theorem Ro.below {w W W' : World} {x y s : List UInt8} {g : Nat} (h : Ro w x y s g W) (b : Below W.heap.size W W') : Ro w x y s g W' :=
  ⟨h.bel.trans (b.mono h.bel.size), h.bx.below b h.bx.lt, h.re.below b h.re.lt, h.ou.below b h.ou.lt⟩

set_option maxRecDepth 100000 in
set_option maxHeartbeats 1000000 in
theorem rootOf_one {x : List UInt8} (hx : x.length = 32) (i : Int) (a : Option Addr) (l c : Nat) (w : World) (e : Bool) (he : ((l : Int) == 0) = e) :
    Calls Tryz.prog 80 #[.agg (cellsOf x), .int .i64 i, .int .i64 1, .slice a l c] w fun en w' => en = .returned (.tuple #[.agg (cellsOf x), .bool e]) ∧ Below w.heap.size w w' := by
  have HX := Lib.hid hx
  clear hx
  go_enter Tryz.func80, Tryz.ntmps80
  go_wp2_with (first
    | ((with_reducible refine at_op 18 ?_); refine wpList_load_arr (o := ⟨some 18, _, _, _, _, _⟩) rfl 38 _ rfl w.heap.size rfl 38 x 5 32 ((made_at _ _ rfl).alloc _) Tryz.underlying38 (by kernel_rfl) HX.out ?_)
    | ((with_reducible refine at_store (.tmp 8) ?_); refine wpList_store_arr (o := ⟨none, _, _, _, _, _⟩) rfl 38 _ _ rfl (w.heap.size + 1) x Z rfl rfl _ (made_at _ _ (by simp)) 32 (by kernel_rfl) Z_len HX.out ?_; intro W6 HW6 TW6
       (have B6 : Hid (Below w.heap.size w W6) := Lib.hid ((((Below.refl _ _).alloc (Nat.le_refl _) _).alloc (by simp) _).trans (TW6.below (by simp; omega) (fun j hj e => by omega))))
       (clear TW6))
    | fail)
  exact bodyPost_ret (v := .tuple #[.agg (cellsOf x), .bool e]) (results_cell_tmp rfl _ _ (w.heap.size + 1) 38 _ _ _ rfl HW6 Tryz.underlying38 rfl (by rw [cellsOf_size, HX.out]; kernel_rfl) _ rfl) rfl ⟨rfl, B6.out⟩

set_option maxRecDepth 100000 in
set_option maxHeartbeats 1000000 in
theorem rootOf_none (x : List UInt8) (i n : Nat) (hn : n ≠ 1) (a : Option Addr) (c : Nat) (w : World) :
    Calls Tryz.prog 80 #[.agg (cellsOf x), .int .i64 i, .int .i64 n, .slice a 0 c] w fun en w' => en = .returned (.tuple #[.agg (cellsOf Z), .bool false]) ∧ Below w.heap.size w w' := by
  have h3 : ¬ (n : Int) = 1 := by omega
  go_enter Tryz.func80, Tryz.ntmps80
  go_wp2_with fail
  refine callsName (fun W hW => ?_)
  have K0 : Hid (Below w.heap.size w W ∧ Has W (w.heap.size + 1) 38 (cellsOf Z)) := by
    rw [← hW]; exact Lib.hid ⟨((Below.refl _ _).alloc (Nat.le_refl _) _).alloc (by simp) _, made_at _ _ (by simp)⟩
  clear hW
  refine (split_none a c W).mono ?_
  rintro en w1 ⟨rfl, b1⟩
  have K1 : Hid (Below w.heap.size w w1 ∧ Has w1 (w.heap.size + 1) 38 (cellsOf Z)) :=
    Lib.hid ⟨K0.out.1.trans (b1.mono K0.out.1.size), K0.out.2.below b1 K0.out.2.lt⟩
  clear K0 b1
  go_wp2_with (first
    | ((with_reducible refine at_store (.tmp 10) ?_); refine wpList_store_arr (o := ⟨none, _, _, _, _, _⟩) rfl 38 _ _ rfl w1.heap.size Z Z rfl rfl _ (made_at _ _ rfl) 32 (by kernel_rfl) Z_len Z_len ?_; intro W2 HW2 TW2
       (have K2 : Hid (Below w.heap.size w W2 ∧ Has W2 (w.heap.size + 1) 38 (cellsOf Z)) := Lib.hid ⟨K1.out.1.trans ((((Below.refl _ w1).alloc (Nat.le_refl _) _).trans (TW2.below (by simp) (fun j hj e => by omega))).mono K1.out.1.size), (K1.out.2.alloc _).turn TW2 (by have := K1.out.2.lt; omega)⟩)
       (clear TW2 HW2 K1))
    | ((with_reducible refine at_store (.tmp 8) ?_); refine wpList_store_arr (o := ⟨none, _, _, _, _, _⟩) rfl 38 _ _ rfl (w.heap.size + 1) Z Z rfl rfl _ K2.out.2 32 (by kernel_rfl) Z_len Z_len ?_; intro W6 HW6 TW6
       (have B6 : Hid (Below w.heap.size w W6) := Lib.hid (K2.out.1.trans (TW6.below K2.out.1.size (fun j hj e => by omega))))
       (clear TW6 K2))
    | fail)
  exact bodyPost_ret (v := .tuple #[.agg (cellsOf Z), .bool false]) (results_cell_tmp rfl _ _ (w.heap.size + 1) 38 _ _ _ rfl HW6 Tryz.underlying38 rfl (by rw [cellsOf_size, Z_len]; kernel_rfl) _ rfl) rfl ⟨rfl, B6.out⟩

theorem isEmpty_len (r : List (List UInt8)) : ((r.length : Int) == 0) = r.isEmpty := by
  cases r
  · rfl
  · rw [List.isEmpty_cons, beq_eq_false_iff_ne, List.length_cons]; omega

set_option maxRecDepth 100000 in
set_option maxHeartbeats 2000000 in
theorem rootOf_calls {x : List UInt8} (hx : x.length = 32) : ∀ (r : List (List UInt8)) (i n : Nat) (a : Option Addr) (c : Nat) (w : World), Rk w → Sms w (.slice a r.length c) r → i < n → n ≤ 1000000 →
    Calls Tryz.prog 80 #[.agg (cellsOf x), .int .i64 i, .int .i64 n, .slice a r.length c] w fun en w' => en = .returned (.tuple #[.agg (cellsOf (up Z x r i n).1), .bool (up Z x r i n).2]) ∧ Below w.heap.size w w' := by
  intro r
  induction r with
  | nil =>
    intro i n a c w hR hS hi hn
    by_cases h1 : n = 1
    · subst h1
      rw [up_one]
      exact rootOf_one hx i a 0 c w true rfl
    · rw [up_nil _ _ _ h1]
      exact rootOf_none x i n h1 a c w
  | cons s r ih =>
    intro i n a c w hR hS hi hn
    by_cases h1 : n = 1
    · subst h1
      rw [up_one]
      exact rootOf_one hx i a _ c w _ (isEmpty_len _)
    · have HX := Lib.hid hx
      have HR0 := Lib.hid hR
      have HS := Lib.hid hS
      have h2 : 2 ≤ n := by omega
      have h3 : ¬ (n : Int) = 1 := by omega
      obtain ⟨k, hk⟩ : ∃ k, k = half n := ⟨_, rfl⟩
      have hk1 := half_lt h2
      have hk0 := half_pos n
      rw [← hk] at hk1 hk0
      obtain ⟨m, hm⟩ : ∃ m, m = (s :: r).length := ⟨_, rfl⟩
      rw [← hm]
      have HSP : ∀ V, Hid (Sms V (.slice a m c) (s :: r) → Calls Tryz.prog 108 #[.slice a m c] V fun en w' => en = .returned (.tuple #[.slice a r.length c, .agg (cellsOf s), .bool true]) ∧ Below V.heap.size V w') := fun V => Lib.hid split_some
      have HM := Lib.hid hm
      have HH : ∀ V, Hid (Calls Tryz.prog 87 #[.int .i64 n] V fun en w' => en = .returned (.int .i64 k) ∧ V = w') := fun V => Lib.hid (by rw [hk]; exact half_calls n V h2 (by omega))
      have hsl : s.length = 32 := hS.2 s (by simp)
      have HL := Lib.hid hsl
      by_cases hik : i < k
      · have e := up_left Z x s r h1 (by rw [← hk]; exact hik)
        rw [← hk] at e
        have HI := Lib.hid (fun V hR' hS' => ih i k a c V hR' hS' hik (by omega))
        have hik2 : (i : Int) < (k : Int) := by omega
        have HE := Lib.hid e
        have HU := Lib.hid (up_len Z_len hx r i k)
        have HN := Lib.hid (show (nodeS (up Z x r i k).1 s).length = 32 from nodeS_length _ _)
        clear hR hS hx ih hk hm e hsl
        generalize up Z x (s :: r) i n = u at *
        go_enter Tryz.func80, Tryz.ntmps80
        go_wp2_with fail
        refine callsName (fun W hW => ?_)
        have K0 : Hid (Below w.heap.size w W ∧ Has W w.heap.size 38 (cellsOf x) ∧ Has W (w.heap.size + 1) 38 (cellsOf Z)) := by
          rw [← hW]; exact Lib.hid ⟨((Below.refl _ _).alloc (Nat.le_refl _) _).alloc (by simp) _, (made_at _ _ rfl).alloc _, made_at _ _ (by simp)⟩
        clear hW
        refine ((HSP W).out (by rw [HM.out]; exact HS.out.below K0.out.1)).mono ?_
        rintro en w1 ⟨rfl, b1⟩
        have K1 : Hid (Below w.heap.size w w1 ∧ Has w1 w.heap.size 38 (cellsOf x) ∧ Has w1 (w.heap.size + 1) 38 (cellsOf Z)) :=
          Lib.hid ⟨K0.out.1.trans (b1.mono K0.out.1.size), K0.out.2.1.below b1 K0.out.2.1.lt, K0.out.2.2.below b1 K0.out.2.2.lt⟩
        clear K0 b1
        go_wp2_with (first
          | ((with_reducible refine at_store (.tmp 10) ?_); refine wpList_store_arr (o := ⟨none, _, _, _, _, _⟩) rfl 38 _ _ rfl w1.heap.size s Z rfl rfl _ (made_at _ _ rfl) 32 (by kernel_rfl) Z_len HL.out ?_; intro W2 HW2 TW2
             (have K2 : Hid (Ro w x Z s w1.heap.size W2) := Lib.hid ⟨K1.out.1.trans ((((Below.refl _ w1).alloc (Nat.le_refl _) _).trans (TW2.below (by simp) (fun j hj e => by omega))).mono K1.out.1.size), (K1.out.2.1.alloc _).turn TW2 (by have := K1.out.2.1.lt; omega), (K1.out.2.2.alloc _).turn TW2 (by have := K1.out.2.2.lt; omega), HW2⟩)
             (clear TW2 HW2 K1))
          | fail)
        refine (HH W2).out.mono ?_
        rintro en w' ⟨rfl, rfl⟩
        go_wp2_with (first
          | ((with_reducible refine at_op 37 ?_); refine wpList_load_arr (o := ⟨some 37, _, _, _, _, _⟩) rfl 38 _ rfl w.heap.size rfl 38 x 5 32 K2.out.bx Tryz.underlying38 (by kernel_rfl) HX.out ?_)
          | fail)
        refine (HI.out W2 (HR0.out.below K2.out.bel) (HS.out.below K2.out.bel).cons.1).mono ?_
        rintro en w3 ⟨rfl, b3⟩
        have K3 : Hid (Ro w x Z s w1.heap.size w3) := Lib.hid (K2.out.below b3)
        clear K2 b3
        go_wp2_with (first
          | ((with_reducible refine at_store (.tmp 13) ?_); refine wpList_store_arr (o := ⟨none, _, _, _, _, _⟩) rfl 38 _ _ rfl w3.heap.size (up Z x r i k).1 Z rfl rfl _ (made_at _ _ rfl) 32 (by kernel_rfl) Z_len HU.out ?_; intro W4 HW4 TW4
             (have K4 : Hid (Ro w x Z s w1.heap.size W4 ∧ Has W4 w3.heap.size 38 (cellsOf (up Z x r i k).1)) := Lib.hid ⟨K3.out.below ((((Below.refl _ w3).alloc (Nat.le_refl _) _).trans (TW4.below (by simp) (fun j hj e => by omega)))), HW4⟩)
             (clear TW4 HW4 K3))
          | ((with_reducible refine at_op 44 ?_); refine wpList_load_arr (o := ⟨some 44, _, _, _, _, _⟩) rfl 38 _ rfl w3.heap.size rfl 38 (up Z x r i k).1 5 32 K4.out.2 Tryz.underlying38 (by kernel_rfl) HU.out ?_)
          | ((with_reducible refine at_op 45 ?_); refine wpList_load_arr (o := ⟨some 45, _, _, _, _, _⟩) rfl 38 _ rfl w1.heap.size rfl 38 s 5 32 K4.out.1.ou Tryz.underlying38 (by kernel_rfl) HL.out ?_)
          | fail)
        refine (node_calls (up Z x r i k).1 s W4 (HR0.out.below K4.out.1.bel) HU.out HL.out).mono ?_
        rintro en w5 ⟨rfl, b5⟩
        have K5 : Hid (Ro w x Z s w1.heap.size w5) := Lib.hid (K4.out.1.below b5)
        clear K4 b5
        go_wp2_with (first
          | ((with_reducible refine at_store (.tmp 8) ?_); refine wpList_store_arr (o := ⟨none, _, _, _, _, _⟩) rfl 38 _ _ rfl (w.heap.size + 1) (nodeS (up Z x r i k).1 s) Z rfl rfl _ K5.out.re 32 (by kernel_rfl) Z_len HN.out ?_; intro W6 HW6 TW6
             (have B6 : Hid (Below w.heap.size w W6) := Lib.hid (K5.out.bel.trans (TW6.below K5.out.bel.size (fun j hj e => by omega))))
             (clear TW6 K5))
          | fail)
        rw [HE.out]
        exact bodyPost_ret (v := .tuple #[.agg (cellsOf (nodeS (up Z x r i k).1 s)), .bool (up Z x r i k).2]) (results_cell_tmp rfl _ _ (w.heap.size + 1) 38 _ _ _ rfl HW6 Tryz.underlying38 rfl (by rw [cellsOf_size, HN.out]; kernel_rfl) _ rfl) rfl ⟨rfl, B6.out⟩
      · have e := up_right Z x s r h1 (by rw [← hk]; exact hik)
        rw [← hk] at e
        obtain ⟨i', hi'⟩ : ∃ i', i' = i - k := ⟨_, rfl⟩
        obtain ⟨n', hn'⟩ : ∃ n', n' = n - k := ⟨_, rfl⟩
        rw [← hi', ← hn'] at e
        have HI := Lib.hid (fun V hR' hS' => ih i' n' a c V hR' hS' (by omega) (by omega))
        have hik2 : ¬ (i : Int) < (k : Int) := by omega
        have ha1 : (i : Int) - (k : Int) = (i' : Int) := by omega
        have ha2 : (n : Int) - (k : Int) = (n' : Int) := by omega
        have ha3 : (i' : Int) ≤ 1000000 := by omega
        have ha4 : (n' : Int) ≤ 1000000 := by omega
        have HE := Lib.hid e
        have HU := Lib.hid (up_len Z_len hx r i' n')
        have HN := Lib.hid (show (nodeS s (up Z x r i' n').1).length = 32 from nodeS_length _ _)
        clear hR hS hx ih hk hm e hsl hi' hn'
        generalize up Z x (s :: r) i n = u at *
        go_enter Tryz.func80, Tryz.ntmps80
        go_wp2_with fail
        refine callsName (fun W hW => ?_)
        have K0 : Hid (Below w.heap.size w W ∧ Has W w.heap.size 38 (cellsOf x) ∧ Has W (w.heap.size + 1) 38 (cellsOf Z)) := by
          rw [← hW]; exact Lib.hid ⟨((Below.refl _ _).alloc (Nat.le_refl _) _).alloc (by simp) _, (made_at _ _ rfl).alloc _, made_at _ _ (by simp)⟩
        clear hW
        refine ((HSP W).out (by rw [HM.out]; exact HS.out.below K0.out.1)).mono ?_
        rintro en w1 ⟨rfl, b1⟩
        have K1 : Hid (Below w.heap.size w w1 ∧ Has w1 w.heap.size 38 (cellsOf x) ∧ Has w1 (w.heap.size + 1) 38 (cellsOf Z)) :=
          Lib.hid ⟨K0.out.1.trans (b1.mono K0.out.1.size), K0.out.2.1.below b1 K0.out.2.1.lt, K0.out.2.2.below b1 K0.out.2.2.lt⟩
        clear K0 b1
        go_wp2_with (first
          | ((with_reducible refine at_store (.tmp 10) ?_); refine wpList_store_arr (o := ⟨none, _, _, _, _, _⟩) rfl 38 _ _ rfl w1.heap.size s Z rfl rfl _ (made_at _ _ rfl) 32 (by kernel_rfl) Z_len HL.out ?_; intro W2 HW2 TW2
             (have K2 : Hid (Ro w x Z s w1.heap.size W2) := Lib.hid ⟨K1.out.1.trans ((((Below.refl _ w1).alloc (Nat.le_refl _) _).trans (TW2.below (by simp) (fun j hj e => by omega))).mono K1.out.1.size), (K1.out.2.1.alloc _).turn TW2 (by have := K1.out.2.1.lt; omega), (K1.out.2.2.alloc _).turn TW2 (by have := K1.out.2.2.lt; omega), HW2⟩)
             (clear TW2 HW2 K1))
          | fail)
        refine (HH W2).out.mono ?_
        rintro en w' ⟨rfl, rfl⟩
        go_wp2_with (first
          | ((with_reducible refine at_op 49 ?_); refine wpList_load_arr (o := ⟨some 49, _, _, _, _, _⟩) rfl 38 _ rfl w.heap.size rfl 38 x 5 32 K2.out.bx Tryz.underlying38 (by kernel_rfl) HX.out ?_)
          | fail)
        refine (HI.out W2 (HR0.out.below K2.out.bel) (HS.out.below K2.out.bel).cons.1).mono ?_
        rintro en w3 ⟨rfl, b3⟩
        have K3 : Hid (Ro w x Z s w1.heap.size w3) := Lib.hid (K2.out.below b3)
        clear K2 b3
        go_wp2_with (first
          | ((with_reducible refine at_store (.tmp 15) ?_); refine wpList_store_arr (o := ⟨none, _, _, _, _, _⟩) rfl 38 _ _ rfl w3.heap.size (up Z x r i' n').1 Z rfl rfl _ (made_at _ _ rfl) 32 (by kernel_rfl) Z_len HU.out ?_; intro W4 HW4 TW4
             (have K4 : Hid (Ro w x Z s w1.heap.size W4 ∧ Has W4 w3.heap.size 38 (cellsOf (up Z x r i' n').1)) := Lib.hid ⟨K3.out.below ((((Below.refl _ w3).alloc (Nat.le_refl _) _).trans (TW4.below (by simp) (fun j hj e => by omega)))), HW4⟩)
             (clear TW4 HW4 K3))
          | ((with_reducible refine at_op 60 ?_); refine wpList_load_arr (o := ⟨some 60, _, _, _, _, _⟩) rfl 38 _ rfl w1.heap.size rfl 38 s 5 32 K4.out.1.ou Tryz.underlying38 (by kernel_rfl) HL.out ?_)
          | ((with_reducible refine at_op 61 ?_); refine wpList_load_arr (o := ⟨some 61, _, _, _, _, _⟩) rfl 38 _ rfl w3.heap.size rfl 38 (up Z x r i' n').1 5 32 K4.out.2 Tryz.underlying38 (by kernel_rfl) HU.out ?_)
          | fail)
        refine (node_calls s (up Z x r i' n').1 W4 (HR0.out.below K4.out.1.bel) HL.out HU.out).mono ?_
        rintro en w5 ⟨rfl, b5⟩
        have K5 : Hid (Ro w x Z s w1.heap.size w5) := Lib.hid (K4.out.1.below b5)
        clear K4 b5
        go_wp2_with (first
          | ((with_reducible refine at_store (.tmp 8) ?_); refine wpList_store_arr (o := ⟨none, _, _, _, _, _⟩) rfl 38 _ _ rfl (w.heap.size + 1) (nodeS s (up Z x r i' n').1) Z rfl rfl _ K5.out.re 32 (by kernel_rfl) Z_len HN.out ?_; intro W6 HW6 TW6
             (have B6 : Hid (Below w.heap.size w W6) := Lib.hid (K5.out.bel.trans (TW6.below K5.out.bel.size (fun j hj e => by omega))))
             (clear TW6 K5))
          | fail)
        rw [HE.out]
        exact bodyPost_ret (v := .tuple #[.agg (cellsOf (nodeS s (up Z x r i' n').1)), .bool (up Z x r i' n').2]) (results_cell_tmp rfl _ _ (w.heap.size + 1) 38 _ _ _ rfl HW6 Tryz.underlying38 rfl (by rw [cellsOf_size, HN.out]; kernel_rfl) _ rfl) rfl ⟨rfl, B6.out⟩
end Go.Proofs.YtdoadmkaoboncaaGreatDoor.prf
end

section
/- proof: bothRoots. -/
namespace Go.Proofs.YtdoadmkaoboncaaGreatDoor.prf
open Go Go.RowKit Go.Proofs.YtdoadmkaoboncaaGreatDoor.dig

theorem results_two {P : Program} {fn : Func} {p q r : Tmp} {ty : TypeId} (h : fn.results = #[.cell p ty, .cell q ty, .tmp r]) (tmps : Array Value) (w : World) (g g2 : Nat) (t : TypeId) (cs cs2 : Array Value) (fr fr2 : Nat × Nat) (d : TypeDesc)
    (hp : tmps.getD p undef = .pointer (some ⟨g, 0, none⟩)) (hg : w.heap[g]? = some (.cells cs t fr)) (hq : tmps.getD q undef = .pointer (some ⟨g2, 0, none⟩)) (hg2 : w.heap[g2]? = some (.cells cs2 t fr2))
    (hu : P.underlying ty = some d) (hd : (match d with | .struct _ | .array _ _ => true | _ => false) = true) (hi : (P.info? ty).map (·.size) = some cs.size) (hi2 : (P.info? ty).map (·.size) = some cs2.size) (v : Value) (hr : tmps.getD r undef = v) :
    (results fn tmps).run P w = .ok (.tuple #[.agg cs, .agg cs2, v]) w := by
  have hp' : tmps[p]?.getD undef = .pointer (some ⟨g, 0, none⟩) := by simpa using hp
  have hq' : tmps[q]?.getD undef = .pointer (some ⟨g2, 0, none⟩) := by simpa using hq
  have hr' : tmps[r]?.getD undef = v := by simpa using hr
  simp [results, h, hp', hq', hr', asAddr, run_loadVar_row w g t ty cs fr d hg hu hd hi, run_loadVar_row w g2 t ty cs2 fr2 d hg2 hu hd hi2]

/-- What lasts in bothRoots: the elder head in its box, the two results' cells. -/
structure Bo (w : World) (N : Int) (o y1 y2 : List UInt8) (W : World) : Prop where
  bel : Below w.heap.size w W
  hd : Has W w.heap.size 41 (headC N o)
  r1 : Has W (w.heap.size + 1) 38 (cellsOf y1)
  r2 : Has W (w.heap.size + 1 + 1) 38 (cellsOf y2)
section
variable {w W W' : World} {N : Int} {o y1 y2 y : List UInt8}
theorem Bo.below (h : Bo w N o y1 y2 W) (b : Below W.heap.size W W') : Bo w N o y1 y2 W' :=
  ⟨h.bel.trans (b.mono h.bel.size), h.hd.below b h.hd.lt, h.r1.below b h.r1.lt, h.r2.below b h.r2.lt⟩
theorem Bo.drew (h : Bo w N o y1 y2 W) : Bo w N o y1 y2 W.drew := h.below (Below.refl _ _).drew
theorem Bo.made (w : World) (N : Int) (o : List UInt8) : Bo w N o Z Z (((w.alloc (.cells (headC N o) 41)).alloc (.cells (cellsOf Z) 38)).alloc (.cells (cellsOf Z) 38)) :=
  ⟨(((Below.refl _ _).alloc (Nat.le_refl _) _).alloc (by simp) _).alloc (by simp; omega) _, ((made_at _ _ rfl).alloc _).alloc _, (made_at _ _ (by simp)).alloc _, made_at _ _ (by simp)⟩
theorem Bo.st1 (h : Bo w N o y1 y2 W) (hW : Has W' (w.heap.size + 1) 38 (cellsOf y)) (t : Turn (fun k => k = w.heap.size + 1) W W') : Bo w N o y y2 W' :=
  ⟨h.bel.trans (t.below h.bel.size (fun j hj e => by omega)), h.hd.turn t (by omega), hW, h.r2.turn t (by omega)⟩
theorem Bo.st2 (h : Bo w N o y1 y2 W) (hW : Has W' (w.heap.size + 1 + 1) 38 (cellsOf y)) (t : Turn (fun k => k = w.heap.size + 1 + 1) W W') : Bo w N o y1 y W' :=
  ⟨h.bel.trans (t.below h.bel.size (fun j hj e => by omega)), h.hd.turn t (by omega), h.r1.turn t (by omega), hW⟩
/-- A stretch's exit. -/
theorem Bo.ret {fn : Func} {tmps : Array Value} {b : Bool} (h : Bo w N o y1 y2 W) (hf : fn.results = #[.cell 8 38, .cell 9 38, .tmp 10]) (h1 : y1.length = 32) (h2 : y2.length = 32)
    (hp : tmps.getD 8 undef = .pointer (some ⟨w.heap.size + 1, 0, none⟩)) (hq : tmps.getD 9 undef = .pointer (some ⟨w.heap.size + 1 + 1, 0, none⟩)) (hr : tmps.getD 10 undef = .bool b) :
    (results fn tmps).run Tryz.prog W = .ok (.tuple #[.agg (cellsOf y1), .agg (cellsOf y2), .bool b]) W :=
  results_two hf tmps W _ _ 38 _ _ _ _ _ hp h.r1 hq h.r2 Tryz.underlying38 rfl (by rw [cellsOf_size, h1]; kernel_rfl) (by rw [cellsOf_size, h2]; kernel_rfl) _ hr
end

theorem wp_region_held {P : Program} {ops : Array Oper} {Q : Exit → Act → World → Prop} {id : Nat} {a : Act} {w : World} (S : World → Prop) (V : World) (hV : V = w.drew) (hm : P.follows .mixedOrders = true)
    (h : wpAnyH P .any ops Q S ops.size (Array.replicate ops.size false) a V) : (Code.region id ops true).wp P Q a w := by
  subst hV
  exact wp_region_any hm (wpAny_of_held _ _ _ _ h)

set_option maxRecDepth 100000 in
set_option maxHeartbeats 1000000 in
theorem both_first {o : List UInt8} (ho : o.length = 32) (n : Nat) (hn : n ≤ 1000000) (a : Option Addr) (l c : Nat) (w : World) (e : Bool) (he : ((l : Int) == 0) = e) :
    Calls Tryz.prog 97 #[.agg (headC n o), .int .i64 0, .int .i64 n, .slice a l c] w fun en w' => en = .returned (.tuple #[.agg (cellsOf o), .agg (cellsOf o), .bool e]) ∧ Below w.heap.size w w' := by
  have HO := Lib.hid ho
  have hn1 : (n : Int) ≤ 1000000 := by omega
  clear ho hn
  have c0 : ∀ A B, (((w.alloc (.cells (headC n o) 41)).alloc A).alloc B).cell? ⟨w.heap.size, 0, none⟩ = some (.int .i64 n) := fun A B => Has.num (((made_at _ _ rfl).alloc A).alloc B)
  go_enter Tryz.func97, Tryz.ntmps97
  go_wp2_with fail
  go_name_world W hW
  have B0 : Hid (Bo w n o Z Z W) := by rw [← hW]; exact Lib.hid (Bo.made w n o)
  clear hW c0
  obtain ⟨V, hV⟩ : ∃ V, V = W.drew := ⟨_, rfl⟩
  refine wp_region_held (fun V => V.rangeAt w.heap.size 1 (o.map byteV)) V hV (by kernel_rfl) ?_
  have BV : Hid (Bo w n o Z Z V) := by rw [hV]; exact Lib.hid B0.out.drew
  clear hV B0
  have hS : V.rangeAt w.heap.size 1 (o.map byteV) := Has.root BV.out.hd
  have hSt : ∀ (k : Nat) (V' : World), Turn (fun j => j = k) V V' → w.heap.size < k → V'.rangeAt w.heap.size 1 (o.map byteV) := fun k V' t hk => Has.root (BV.out.hd.turn t (by omega))
  have hSt2 : ∀ (k : Nat) {V1 : World} (V' : World), Turn (fun j => j = k) V1 V' → w.heap.size < k → V1.rangeAt w.heap.size 1 (o.map byteV) → V'.rangeAt w.heap.size 1 (o.map byteV) := fun k V1 V' t hk h j u hj => by
    have h1 := h j u hj
    rw [← h1]
    unfold World.cell?
    have hlt : w.heap.size < V1.heap.size := by
      rcases Nat.lt_or_ge w.heap.size V1.heap.size with q | q
      · exact q
      · unfold World.cell? at h1; simp [Array.getElem?_eq_none q] at h1
    rw [t.block w.heap.size hlt (by omega)]
  refine held_take 0 (some 25) (v := .pointer (some ⟨w.heap.size, 1, none⟩)) rfl rfl (by kernel_rfl) (by kernel_rfl) (by kernel_rfl) (fun _ _ _ h => h) (.inl ⟨by kernel_rfl, fun V hV => by go_simp⟩) hS ?_
  refine held_take 1 (some 26) (v := .agg (cellsOf o)) rfl rfl (by kernel_rfl) (by kernel_rfl) (by kernel_rfl) (fun _ _ _ h => h) (.inl ⟨by kernel_rfl, fun V hV => by exact exec_load 38 (.tmp 25) rfl (.pointer (some ⟨w.heap.size, 1, none⟩)) rfl (run_loadAt_mid V w.heap.size 1 38 (o.map byteV) _ hV Tryz.underlying38 rfl (by rw [List.length_map, HO.out]; kernel_rfl))⟩) hS ?_
  refine held_take 2 (some 27) (v := .pointer (some ⟨w.heap.size, 1, none⟩)) rfl rfl (by kernel_rfl) (by kernel_rfl) (by kernel_rfl) (fun _ _ _ h => h) (.inl ⟨by kernel_rfl, fun V hV => by go_simp⟩) hS ?_
  refine held_take 3 (some 28) (v := .agg (cellsOf o)) rfl rfl (by kernel_rfl) (by kernel_rfl) (by kernel_rfl) (fun _ _ _ h => h) (.inl ⟨by kernel_rfl, fun V hV => by exact exec_load 38 (.tmp 27) rfl (.pointer (some ⟨w.heap.size, 1, none⟩)) rfl (run_loadAt_mid V w.heap.size 1 38 (o.map byteV) _ hV Tryz.underlying38 rfl (by rw [List.length_map, HO.out]; kernel_rfl))⟩) hS ?_
  refine held_take 4 (some 29) (v := .slice a l c) rfl rfl (by kernel_rfl) (by kernel_rfl) (by kernel_rfl) (fun _ _ _ h => h) (.inl ⟨by kernel_rfl, fun V hV => by go_simp⟩) hS ?_
  refine held_take 5 (some 30) (v := .int .i64 l) rfl rfl (by kernel_rfl) (by kernel_rfl) (by kernel_rfl) (fun _ _ _ h => h) (.inl ⟨by kernel_rfl, fun V hV => by go_simp⟩) hS ?_
  refine held_take 6 (some 31) (v := .bool e) rfl rfl (by kernel_rfl) (by kernel_rfl) (by kernel_rfl) (fun _ _ _ h => h) (.inl ⟨by kernel_rfl, fun V hV => by go_simp⟩) hS ?_
  simp only [Act.put, List.setIfInBounds_toArray]
  refine held_one (i := 7) (by kernel_rfl) ?_
  refine wpOp_wp rfl (by kernel_rfl) ?_
  refine wp_store_row 38 _ _ rfl (w.heap.size + 1) (cellsOf o) rfl rfl 38 (cellsOf Z) BV.out.r1 (by rw [cellsOf_size, HO.out]; kernel_rfl) (by rw [cellsOf_size, cellsOf_size, HO.out, Z_len]) (cellsOf_one _) ?_
  have HW2 : Has (V.setRow (w.heap.size + 1) (cellsOf o)) (w.heap.size + 1) 38 (cellsOf o) := BV.out.r1.row _
  have TW2 : Turn (fun k => k = w.heap.size + 1) V (V.setRow (w.heap.size + 1) (cellsOf o)) := turn_row _ _ _
  have B2 := Lib.hid (BV.out.st1 HW2 TW2)
  have hS2 := hSt _ _ TW2 (by omega)
  clear HW2 TW2
  generalize V.setRow (w.heap.size + 1) (cellsOf o) = W2 at *
  refine ⟨hS2, ?_⟩
  simp only [Act.put]
  refine held_one (i := 8) (by kernel_rfl) ?_
  refine wpOp_wp rfl (by kernel_rfl) ?_
  refine wp_store_row 38 _ _ rfl (w.heap.size + 1 + 1) (cellsOf o) rfl rfl 38 (cellsOf Z) B2.out.r2 (by rw [cellsOf_size, HO.out]; kernel_rfl) (by rw [cellsOf_size, cellsOf_size, HO.out, Z_len]) (cellsOf_one _) ?_
  have HW3 : Has (W2.setRow (w.heap.size + 1 + 1) (cellsOf o)) (w.heap.size + 1 + 1) 38 (cellsOf o) := B2.out.r2.row _
  have TW3 : Turn (fun k => k = w.heap.size + 1 + 1) W2 (W2.setRow (w.heap.size + 1 + 1) (cellsOf o)) := turn_row _ _ _
  have B3 := Lib.hid (B2.out.st2 HW3 TW3)
  have hS3 := hSt2 _ _ TW3 (by omega) hS2
  clear HW3 TW3
  generalize W2.setRow (w.heap.size + 1 + 1) (cellsOf o) = W3 at *
  refine ⟨hS3, ?_⟩
  simp only [Act.put]
  refine held_take 9 (some 10) (v := .bool e) rfl rfl (by kernel_rfl) (by kernel_rfl) (by kernel_rfl) (fun _ _ _ h => h) (.inl ⟨by kernel_rfl, fun V hV => by go_simp⟩) hS3 ?_
  simp only [Act.put]
  refine wpAnyH_done (by kernel_rfl) ?_ _
  go_wp2_with fail
  exact bodyPost_ret (B3.out.ret rfl HO.out HO.out rfl rfl rfl) rfl ⟨rfl, B3.out.bel⟩

set_option maxRecDepth 100000 in
set_option maxHeartbeats 2000000 in
theorem both_none (o : List UInt8) (N f n m : Nat) (hN : N = f + m) (hn : n ≤ 1000000) (hf : f ≤ 1000000) (hm : m ≤ n) (hnf : ¬ (m = n ∧ f = 0)) (a : Option Addr) (c : Nat) (w : World) :
    Calls Tryz.prog 97 #[.agg (headC N o), .int .i64 f, .int .i64 n, .slice a 0 c] w fun en w' => en = .returned (.tuple #[.agg (cellsOf Z), .agg (cellsOf Z), .bool false]) ∧ Below w.heap.size w w' := by
  have e1 : (N : Int) - (f : Int) = (m : Int) := by omega
  have e2 : (m : Int) ≤ 1000000 := by omega
  have e3 : (N : Int) ≤ 2000000 := by omega
  have e4 : (n : Int) ≤ 1000000 := by omega
  have e5 : (f : Int) ≤ 1000000 := by omega
  obtain ⟨b, hb⟩ : ∃ b, ((m : Int) == (n : Int)) = b := ⟨_, rfl⟩
  obtain ⟨b2, hb2⟩ : ∃ b, ((f : Int) == 0) = b := ⟨_, rfl⟩
  have hbb : (b && b2) = false := by
    cases b
    · rfl
    · cases b2
      · rfl
      · rw [beq_iff_eq] at hb hb2; exact absurd ⟨by omega, by omega⟩ hnf
  clear hN hn hf hm hnf
  cases b
  · have c0 : ∀ A B, (((w.alloc (.cells (headC N o) 41)).alloc A).alloc B).cell? ⟨w.heap.size, 0, none⟩ = some (.int .i64 N) := fun A B => Has.num (((made_at _ _ rfl).alloc A).alloc B)
    go_enter Tryz.func97, Tryz.ntmps97
    go_wp2_with fail
    refine callsName (fun W hW => ?_)
    have B0 : Hid (Bo w N o Z Z W) := by rw [← hW]; exact Lib.hid (Bo.made w N o)
    clear hW c0
    refine (split_none a c W).mono ?_
    rintro en w1 ⟨rfl, b1⟩
    have B1 := Lib.hid (B0.out.below b1)
    clear B0 b1
    go_wp2_with (first
      | ((with_reducible refine at_store (.tmp 12) ?_); refine wpList_store_arr (o := ⟨none, _, _, _, _, _⟩) rfl 38 _ _ rfl (w1.heap.size) Z Z rfl rfl _ (made_at _ _ rfl) 32 (by kernel_rfl) Z_len Z_len ?_; intro W2 HW2 TW2
         (have B2 : Hid (Bo w N o Z Z W2 ∧ Has W2 w1.heap.size 38 (cellsOf Z)) := Lib.hid ⟨B1.out.below (((Below.refl _ w1).alloc (Nat.le_refl _) _).trans (TW2.below (by simp) (fun j hj e => by omega))), HW2⟩)
         (clear TW2 HW2 B1))
      | ((with_reducible refine at_store (.tmp 8) ?_); refine wpList_store_arr (o := ⟨none, _, _, _, _, _⟩) rfl 38 _ _ rfl (w.heap.size + 1) Z Z rfl rfl _ B2.out.1.r1 32 (by kernel_rfl) Z_len Z_len ?_; intro W3 HW3 TW3
         (have B3 := Lib.hid (B2.out.1.st1 HW3 TW3))
         (clear TW3 HW3 B2))
      | ((with_reducible refine at_store (.tmp 9) ?_); refine wpList_store_arr (o := ⟨none, _, _, _, _, _⟩) rfl 38 _ _ rfl (w.heap.size + 1 + 1) Z Z rfl rfl _ B3.out.r2 32 (by kernel_rfl) Z_len Z_len ?_; intro W4 HW4 TW4
         (have B4 := Lib.hid (B3.out.st2 HW4 TW4))
         (clear TW4 HW4 B3))
      | fail)
    exact bodyPost_ret (B4.out.ret rfl Z_len Z_len rfl rfl rfl) rfl ⟨rfl, B4.out.bel⟩
  · have hb3 : b2 = false := by simpa using hbb
    subst hb3
    have c0 : ∀ A B, (((w.alloc (.cells (headC N o) 41)).alloc A).alloc B).cell? ⟨w.heap.size, 0, none⟩ = some (.int .i64 N) := fun A B => Has.num (((made_at _ _ rfl).alloc A).alloc B)
    go_enter Tryz.func97, Tryz.ntmps97
    go_wp2_with fail
    refine callsName (fun W hW => ?_)
    have B0 : Hid (Bo w N o Z Z W) := by rw [← hW]; exact Lib.hid (Bo.made w N o)
    clear hW c0
    refine (split_none a c W).mono ?_
    rintro en w1 ⟨rfl, b1⟩
    have B1 := Lib.hid (B0.out.below b1)
    clear B0 b1
    go_wp2_with (first
      | ((with_reducible refine at_store (.tmp 12) ?_); refine wpList_store_arr (o := ⟨none, _, _, _, _, _⟩) rfl 38 _ _ rfl (w1.heap.size) Z Z rfl rfl _ (made_at _ _ rfl) 32 (by kernel_rfl) Z_len Z_len ?_; intro W2 HW2 TW2
         (have B2 : Hid (Bo w N o Z Z W2 ∧ Has W2 w1.heap.size 38 (cellsOf Z)) := Lib.hid ⟨B1.out.below (((Below.refl _ w1).alloc (Nat.le_refl _) _).trans (TW2.below (by simp) (fun j hj e => by omega))), HW2⟩)
         (clear TW2 HW2 B1))
      | ((with_reducible refine at_store (.tmp 8) ?_); refine wpList_store_arr (o := ⟨none, _, _, _, _, _⟩) rfl 38 _ _ rfl (w.heap.size + 1) Z Z rfl rfl _ B2.out.1.r1 32 (by kernel_rfl) Z_len Z_len ?_; intro W3 HW3 TW3
         (have B3 := Lib.hid (B2.out.1.st1 HW3 TW3))
         (clear TW3 HW3 B2))
      | ((with_reducible refine at_store (.tmp 9) ?_); refine wpList_store_arr (o := ⟨none, _, _, _, _, _⟩) rfl 38 _ _ rfl (w.heap.size + 1 + 1) Z Z rfl rfl _ B3.out.r2 32 (by kernel_rfl) Z_len Z_len ?_; intro W4 HW4 TW4
         (have B4 := Lib.hid (B3.out.st2 HW4 TW4))
         (clear TW4 HW4 B3))
      | fail)
    exact bodyPost_ret (B4.out.ret rfl Z_len Z_len rfl rfl rfl) rfl ⟨rfl, B4.out.bel⟩
end Go.Proofs.YtdoadmkaoboncaaGreatDoor.prf
end

section
/- proof: bothRoots, where there is an outermost sum. -/
namespace Go.Proofs.YtdoadmkaoboncaaGreatDoor.prf
open Go Go.RowKit Go.Proofs.YtdoadmkaoboncaaGreatDoor.dig


/-- What bothRoots answers. -/
def BothPost (w : World) (t : List UInt8 × List UInt8 × Bool) (en : Ending) (w' : World) : Prop :=
  en = .returned (.tuple #[.agg (cellsOf t.1), .agg (cellsOf t.2.1), .bool t.2.2]) ∧ Below w.heap.size w w'

set_option maxRecDepth 100000 in
set_option maxHeartbeats 2000000 in
theorem both_whole {o : List UInt8} (ho : o.length = 32) (N f n : Nat) (hN : N = f + n) (hn : n ≤ 1000000) (_hf : f ≤ 1000000) (hf0 : f ≠ 0) (s : List UInt8) (r : List (List UInt8)) (a : Option Addr) (c : Nat) (w : World) (hS : Sms w (.slice a (s :: r).length c) (s :: r)) :
    Calls Tryz.prog 97 #[.agg (headC N o), .int .i64 f, .int .i64 n, .slice a (s :: r).length c] w (BothPost w (s, s, r.isEmpty)) := by
  have HO := Lib.hid ho
  have HS := Lib.hid hS
  have hsl : s.length = 32 := hS.2 s (by simp)
  have HL := Lib.hid hsl
  obtain ⟨q, hq⟩ : ∃ q, q = (s :: r).length := ⟨_, rfl⟩
  rw [← hq]
  have HSP : ∀ V, Hid (Sms V (.slice a (s :: r).length c) (s :: r) → Calls Tryz.prog 108 #[.slice a q c] V fun en w' => en = .returned (.tuple #[.slice a r.length c, .agg (cellsOf s), .bool true]) ∧ Below V.heap.size V w') := fun V => Lib.hid (by rw [hq]; exact split_some)
  have e1 : (N : Int) - (f : Int) = (n : Int) := by omega
  have e2 : (n : Int) ≤ 1000000 := by omega
  have e3 : ((f : Int) == 0) = false := by rw [beq_eq_false_iff_ne]; omega
  obtain ⟨e, he⟩ : ∃ e, ((r.length : Int) == 0) = e := ⟨_, rfl⟩
  have HE : Hid (r.isEmpty = e) := Lib.hid (by rw [← he, isEmpty_len])
  clear hN hn hf0 ho hS hsl hq
  have c0 : ∀ A B, (((w.alloc (.cells (headC N o) 41)).alloc A).alloc B).cell? ⟨w.heap.size, 0, none⟩ = some (.int .i64 N) := fun A B => Has.num (((made_at _ _ rfl).alloc A).alloc B)
  go_enter Tryz.func97, Tryz.ntmps97
  go_wp2_with fail
  refine callsName (fun W hW => ?_)
  have B0 : Hid (Bo w N o Z Z W) := by rw [← hW]; exact Lib.hid (Bo.made w N o)
  clear hW c0
  refine ((HSP W).out (HS.out.below B0.out.bel)).mono ?_
  rintro en w1 ⟨rfl, b1⟩
  have B1 := Lib.hid (B0.out.below b1)
  clear B0 b1
  go_wp2_with (first
    | ((with_reducible refine at_store (.tmp 12) ?_); refine wpList_store_arr (o := ⟨none, _, _, _, _, _⟩) rfl 38 _ _ rfl (w1.heap.size) s Z rfl rfl _ (made_at _ _ rfl) 32 (by kernel_rfl) Z_len HL.out ?_; intro W2 HW2 TW2
       (have B2 : Hid (Bo w N o Z Z W2 ∧ Has W2 w1.heap.size 38 (cellsOf s)) := Lib.hid ⟨B1.out.below (((Below.refl _ w1).alloc (Nat.le_refl _) _).trans (TW2.below (by simp) (fun j hj e => by omega))), HW2⟩)
       (have G2 : Hid (w.heap.size + 1 + 1 < w1.heap.size) := Lib.hid (by have := B1.out.r2.lt; omega))
       (clear TW2 HW2 B1))
    | fail)
  obtain ⟨V, hV⟩ : ∃ V, V = W2.drew := ⟨_, rfl⟩
  refine wp_region_held (fun V => V.rangeAt w1.heap.size 0 (s.map byteV)) V hV (by kernel_rfl) ?_
  have BV : Hid (Bo w N o Z Z V ∧ Has V w1.heap.size 38 (cellsOf s)) := by rw [hV]; exact Lib.hid ⟨B2.out.1.drew, B2.out.2.drew⟩
  clear hV B2
  have hS : V.rangeAt w1.heap.size 0 (s.map byteV) := Has.range BV.out.2
  refine held_take 0 (some 45) (v := .agg (cellsOf s)) rfl rfl (by kernel_rfl) (by kernel_rfl) (by kernel_rfl) (fun _ _ _ h => h) (.inl ⟨by kernel_rfl, fun V hV => by exact exec_load 38 (.tmp 12) rfl (.pointer (some ⟨w1.heap.size, 0, none⟩)) rfl (run_loadAt_mid V w1.heap.size 0 38 (s.map byteV) _ (hV) Tryz.underlying38 rfl (by rw [List.length_map, HL.out]; kernel_rfl))⟩) hS ?_
  refine held_take 1 (some 46) (v := .agg (cellsOf s)) rfl rfl (by kernel_rfl) (by kernel_rfl) (by kernel_rfl) (fun _ _ _ h => h) (.inl ⟨by kernel_rfl, fun V hV => by exact exec_load 38 (.tmp 12) rfl (.pointer (some ⟨w1.heap.size, 0, none⟩)) rfl (run_loadAt_mid V w1.heap.size 0 38 (s.map byteV) _ (hV) Tryz.underlying38 rfl (by rw [List.length_map, HL.out]; kernel_rfl))⟩) hS ?_
  refine held_take 2 (some 47) (v := .slice a r.length c) rfl rfl (by kernel_rfl) (by kernel_rfl) (by kernel_rfl) (fun _ _ _ h => h) (.inl ⟨by kernel_rfl, fun V hV => by go_simp⟩) hS ?_
  refine held_take 3 (some 48) (v := .int .i64 (r.length : Nat)) rfl rfl (by kernel_rfl) (by kernel_rfl) (by kernel_rfl) (fun _ _ _ h => h) (.inl ⟨by kernel_rfl, fun V hV => by go_simp⟩) hS ?_
  refine held_take 4 (some 49) (v := .bool e) rfl rfl (by kernel_rfl) (by kernel_rfl) (by kernel_rfl) (fun _ _ _ h => h) (.inl ⟨by kernel_rfl, fun V hV => by go_simp⟩) hS ?_
  simp only [Act.put, List.setIfInBounds_toArray]
  refine held_one (i := 5) (by kernel_rfl) ?_
  refine wpOp_wp rfl (by kernel_rfl) ?_
  refine wp_store_row 38 _ _ rfl (w.heap.size + 1) (cellsOf s) rfl rfl 38 (cellsOf Z) BV.out.1.r1 (by rw [cellsOf_size, HL.out]; kernel_rfl) (by rw [cellsOf_size, cellsOf_size, HL.out, Z_len]) (cellsOf_one _) ?_
  have HW3 : Has (V.setRow (w.heap.size + 1) (cellsOf s)) (w.heap.size + 1) 38 (cellsOf s) := BV.out.1.r1.row _
  have TW3 : Turn (fun k => k = w.heap.size + 1) V (V.setRow (w.heap.size + 1) (cellsOf s)) := turn_row _ _ _
  have B3 : Hid (Bo w N o s Z (V.setRow (w.heap.size + 1) (cellsOf s)) ∧ Has (V.setRow (w.heap.size + 1) (cellsOf s)) w1.heap.size 38 (cellsOf s)) := Lib.hid ⟨BV.out.1.st1 HW3 TW3, BV.out.2.turn TW3 (by have := G2.out; omega)⟩
  clear HW3 TW3 BV
  generalize V.setRow (w.heap.size + 1) (cellsOf s) = W3 at *
  have hS3 : W3.rangeAt w1.heap.size 0 (s.map byteV) := Has.range B3.out.2
  refine ⟨hS3, ?_⟩
  simp only [Act.put]
  refine held_one (i := 6) (by kernel_rfl) ?_
  refine wpOp_wp rfl (by kernel_rfl) ?_
  refine wp_store_row 38 _ _ rfl (w.heap.size + 1 + 1) (cellsOf s) rfl rfl 38 (cellsOf Z) B3.out.1.r2 (by rw [cellsOf_size, HL.out]; kernel_rfl) (by rw [cellsOf_size, cellsOf_size, HL.out, Z_len]) (cellsOf_one _) ?_
  have HW4 : Has (W3.setRow (w.heap.size + 1 + 1) (cellsOf s)) (w.heap.size + 1 + 1) 38 (cellsOf s) := B3.out.1.r2.row _
  have TW4 : Turn (fun k => k = w.heap.size + 1 + 1) W3 (W3.setRow (w.heap.size + 1 + 1) (cellsOf s)) := turn_row _ _ _
  have B4 : Hid (Bo w N o s s (W3.setRow (w.heap.size + 1 + 1) (cellsOf s)) ∧ Has (W3.setRow (w.heap.size + 1 + 1) (cellsOf s)) w1.heap.size 38 (cellsOf s)) := Lib.hid ⟨B3.out.1.st2 HW4 TW4, B3.out.2.turn TW4 (by have := G2.out; omega)⟩
  clear HW4 TW4 B3
  generalize W3.setRow (w.heap.size + 1 + 1) (cellsOf s) = W4 at *
  have hS4 : W4.rangeAt w1.heap.size 0 (s.map byteV) := Has.range B4.out.2
  refine ⟨hS4, ?_⟩
  simp only [Act.put]
  refine held_take 7 (some 10) (v := .bool e) rfl rfl (by kernel_rfl) (by kernel_rfl) (by kernel_rfl) (fun _ _ _ h => h) (.inl ⟨by kernel_rfl, fun V hV => by go_simp⟩) hS4 ?_
  simp only [Act.put]
  refine wpAnyH_done (by kernel_rfl) ?_ _
  go_wp2_with fail
  rw [HE.out]
  exact bodyPost_ret (B4.out.1.ret rfl HL.out HL.out rfl rfl rfl) rfl ⟨rfl, B4.out.1.bel⟩
end Go.Proofs.YtdoadmkaoboncaaGreatDoor.prf
end

section
/- proof: bothRoots, the lower half. -/
namespace Go.Proofs.YtdoadmkaoboncaaGreatDoor.prf
open Go Go.RowKit Go.Proofs.YtdoadmkaoboncaaGreatDoor.dig



set_option maxRecDepth 100000 in
set_option maxHeartbeats 4000000 in
theorem both_lower {o : List UInt8} (ho : o.length = 32) (N f n m k : Nat) (hk : k = half n) (hN : N = f + m) (hn : n ≤ 1000000) (hf : f ≤ 1000000) (_hmn : m ≠ n) (_hm : m ≤ n) (h2 : 2 ≤ n) (hmk : m ≤ k) (s : List UInt8) (r : List (List UInt8)) (a : Option Addr) (c : Nat) (t1 t2 : List UInt8) (tb : Bool) (ht1 : t1.length = 32) (ht2 : t2.length = 32) (w : World) (hR : Rk w) (hS : Sms w (.slice a (s :: r).length c) (s :: r))
    (ih : ∀ V, Rk V → Sms V (.slice a r.length c) r → Calls Tryz.prog 97 #[.agg (headC N o), .int .i64 f, .int .i64 k, .slice a r.length c] V (BothPost V (t1, t2, tb))) :
    Calls Tryz.prog 97 #[.agg (headC N o), .int .i64 f, .int .i64 n, .slice a (s :: r).length c] w (BothPost w (t1, nodeS t2 s, tb)) := by
  have HO := Lib.hid ho
  have HS := Lib.hid hS
  have hsl : s.length = 32 := hS.2 s (by simp)
  have HL := Lib.hid hsl
  obtain ⟨q, hq⟩ : ∃ q, q = (s :: r).length := ⟨_, rfl⟩
  rw [← hq]
  have HSP : ∀ V, Hid (Sms V (.slice a (s :: r).length c) (s :: r) → Calls Tryz.prog 108 #[.slice a q c] V fun en w' => en = .returned (.tuple #[.slice a r.length c, .agg (cellsOf s), .bool true]) ∧ Below V.heap.size V w') := fun V => Lib.hid (by rw [hq]; exact split_some)
  have HR0 := Lib.hid hR
  have h1 := half_lt h2
  have h0 := half_pos n
  rw [← hk] at h1 h0
  have HH : ∀ V, Hid (Calls Tryz.prog 87 #[.int .i64 n] V fun en w' => en = .returned (.int .i64 k) ∧ V = w') := fun V => Lib.hid (by rw [hk]; exact half_calls n V h2 (by omega))
  have e1 : (N : Int) - (f : Int) = (m : Int) := by omega
  have e2 : (n : Int) ≤ 1000000 := by omega
  have e3 : (m : Int) ≤ 1000000 := by omega
  have e4 : ((m : Int) == (n : Int)) = false := by rw [beq_eq_false_iff_ne]; omega
  have e5 : ¬ (m : Int) = (n : Int) := by omega
  have e6 : (f : Int) ≤ 1000000 := by omega
  have e7 : (k : Int) ≤ 1000000 := by omega
  have e8 : (m : Int) ≤ (k : Int) := by omega
  have IH := Lib.hid ih
  have HT1 := Lib.hid ht1
  have HT2 := Lib.hid ht2
  have HX2 : Hid ((nodeS t2 s).length = 32) := Lib.hid (nodeS_length _ _)
  obtain ⟨x2, hx2⟩ : ∃ x2, x2 = nodeS t2 s := ⟨_, rfl⟩
  rw [← hx2] at HX2 ⊢
  have C2 : Hid (∀ V, Bo w N o t1 t2 V ∧ Has V w.heap.size 41 (headC N o) ∧ Rk V → True) := Lib.hid fun _ _ => trivial
  clear C2
  have HX2E := Lib.hid hx2.symm
  clear hN hn hf hmk ho hS hsl hq hR hk h2 h1 h0 ih ht1 ht2 hx2
  have c0 : ∀ A B, (((w.alloc (.cells (headC N o) 41)).alloc A).alloc B).cell? ⟨w.heap.size, 0, none⟩ = some (.int .i64 N) := fun A B => Has.num (((made_at _ _ rfl).alloc A).alloc B)
  go_enter Tryz.func97, Tryz.ntmps97
  go_wp2_with fail
  refine callsName (fun W hW => ?_)
  have B0 : Hid (Bo w N o Z Z W) := by rw [← hW]; exact Lib.hid (Bo.made w N o)
  clear hW c0
  refine ((HSP W).out (HS.out.below B0.out.bel)).mono ?_
  rintro en w1 ⟨rfl, b1⟩
  have B1 := Lib.hid (B0.out.below b1)
  clear B0 b1
  go_wp2_with (first
    | ((with_reducible refine at_store (.tmp 12) ?_); refine wpList_store_arr (o := ⟨none, _, _, _, _, _⟩) rfl 38 _ _ rfl (w1.heap.size) s Z rfl rfl _ (made_at _ _ rfl) 32 (by kernel_rfl) Z_len HL.out ?_; intro W2 HW2 TW2
       (have B2 : Hid (Bo w N o Z Z W2 ∧ Has W2 w1.heap.size 38 (cellsOf s)) := Lib.hid ⟨B1.out.below (((Below.refl _ w1).alloc (Nat.le_refl _) _).trans (TW2.below (by simp) (fun j hj e => by omega))), HW2⟩)
       (have G2 : Hid (w.heap.size + 1 + 1 < w1.heap.size) := Lib.hid (by have := B1.out.r2.lt; omega))
       (clear TW2 HW2 B1))
    | fail)
  refine (HH W2).out.mono ?_
  rintro en w' ⟨rfl, rfl⟩
  go_wp2_with (first
    | ((with_reducible refine at_op 56 ?_); refine wpList_load_row (o := ⟨some 56, _, _, _, _, _⟩) rfl 41 _ rfl w.heap.size rfl 41 (headC N o) (0, 0) _ B2.out.1.hd Tryz.underlying41 rfl (by rw [headC_size, HO.out]; kernel_rfl) ?_)
    | fail)
  refine (IH.out W2 (HR0.out.below B2.out.1.bel) (HS.out.below B2.out.1.bel).cons.1).mono ?_
  rintro en w3 ⟨rfl, b3⟩
  have B3 : Hid (Bo w N o Z Z w3 ∧ Has w3 w1.heap.size 38 (cellsOf s)) := Lib.hid ⟨B2.out.1.below b3, B2.out.2.below b3 B2.out.2.lt⟩
  clear B2 b3
  go_wp2_with (first
    | ((with_reducible refine at_store (.tmp 8) ?_); refine wpList_store_arr (o := ⟨none, _, _, _, _, _⟩) rfl 38 _ _ rfl (w.heap.size + 1) t1 Z rfl rfl _ B3.out.1.r1 32 (by kernel_rfl) Z_len HT1.out ?_; intro W4 HW4 TW4
       (have B4 : Hid (Bo w N o t1 Z W4 ∧ Has W4 w1.heap.size 38 (cellsOf s)) := Lib.hid ⟨B3.out.1.st1 HW4 TW4, B3.out.2.turn TW4 (by have := G2.out; omega)⟩)
       (clear TW4 HW4 B3))
    | ((with_reducible refine at_store (.tmp 9) ?_); refine wpList_store_arr (o := ⟨none, _, _, _, _, _⟩) rfl 38 _ _ rfl (w.heap.size + 1 + 1) t2 Z rfl rfl _ B4.out.1.r2 32 (by kernel_rfl) Z_len HT2.out ?_; intro W5 HW5 TW5
       (have B5 : Hid (Bo w N o t1 t2 W5 ∧ Has W5 w1.heap.size 38 (cellsOf s)) := Lib.hid ⟨B4.out.1.st2 HW5 TW5, B4.out.2.turn TW5 (by have := G2.out; omega)⟩)
       (clear TW5 HW5 B4))
    | fail)
  have C2 : Hid (∀ V, (Bo w N o t1 t2 V ∧ Has V w1.heap.size 38 (cellsOf s)) → Calls Tryz.prog 88 #[.agg (cellsOf t2), .agg (cellsOf s)] V fun en w' => en = .returned (.agg (cellsOf x2)) ∧ (Bo w N o t1 t2 w' ∧ Has w' w1.heap.size 38 (cellsOf s))) := Lib.hid fun V hV =>
    (node_calls t2 s V (HR0.out.below hV.1.bel) HT2.out HL.out).mono (fun _ _ p => ⟨by rw [p.1, HX2E.out], hV.1.below p.2, hV.2.below p.2 hV.2.lt⟩)
  refine wp_region_any (by kernel_rfl) ?_
  refine any_take 4 (some 68) (v := .bool tb) rfl rfl (by kernel_rfl) (by kernel_rfl) (by kernel_rfl) (fun _ _ _ h => h) (by kernel_rfl) (fun V => by go_simp) ?_
  simp only [Act.put, List.setIfInBounds_toArray, List.set_cons_zero, List.set_cons_succ]
  refine AnyL.any (S := fun V => Bo w N o t1 t2 V ∧ Has V w1.heap.size 38 (cellsOf s)) (Wr := [5, 6]) _ _ _ _ ⟨B5.out.1.drew, B5.out.2.drew⟩ ?_
  refine AnyL.pure 0 (some 64) (v := .agg (cellsOf t1)) rfl rfl (by kernel_rfl) (by kernel_rfl) (by kernel_rfl) (fun _ _ _ h => h) (by kernel_rfl) (by kernel_rfl) (fun V hV => by exact exec_load 38 (.tmp 8) rfl (.pointer (some ⟨w.heap.size + 1, 0, none⟩)) rfl (run_loadAt_mid V (w.heap.size + 1) 0 38 (t1.map byteV) _ (Has.range hV.1.r1) Tryz.underlying38 rfl (by rw [List.length_map, HT1.out]; kernel_rfl))) ?_
  refine AnyL.pure 1 (some 65) (v := .agg (cellsOf t2)) rfl rfl (by kernel_rfl) (by kernel_rfl) (by kernel_rfl) (fun _ _ _ h => h) (by kernel_rfl) (by kernel_rfl) (fun V hV => by exact exec_load 38 (.tmp 9) rfl (.pointer (some ⟨w.heap.size + 1 + 1, 0, none⟩)) rfl (run_loadAt_mid V (w.heap.size + 1 + 1) 0 38 (t2.map byteV) _ (Has.range hV.1.r2) Tryz.underlying38 rfl (by rw [List.length_map, HT2.out]; kernel_rfl))) ?_
  refine AnyL.pure 2 (some 66) (v := .agg (cellsOf s)) rfl rfl (by kernel_rfl) (by kernel_rfl) (by kernel_rfl) (fun _ _ _ h => h) (by kernel_rfl) (by kernel_rfl) (fun V hV => by exact exec_load 38 (.tmp 12) rfl (.pointer (some ⟨w1.heap.size, 0, none⟩)) rfl (run_loadAt_mid V (w1.heap.size) 0 38 (s.map byteV) _ (Has.range hV.2) Tryz.underlying38 rfl (by rw [List.length_map, HL.out]; kernel_rfl))) ?_
  simp only [Act.put, List.setIfInBounds_toArray, List.set_cons_zero, List.set_cons_succ]
  refine AnyL.call 3 (some 67) (.agg (cellsOf x2)) rfl rfl (by kernel_rfl) (by kernel_rfl) (by kernel_rfl) (fun _ _ _ h => h) (by kernel_rfl) (by kernel_rfl) 88 Tryz.f88 Tryz.func88 (by kernel_rfl) (by kernel_rfl) _ _ rfl #[.agg (cellsOf t2), .agg (cellsOf s)] (by first | (simp [Act.eval]; done) | (simp [Act.eval, Act.put]; done)) (fun V hV => C2.out V hV) ?_
  simp only [Act.put, List.setIfInBounds_toArray, List.set_cons_zero, List.set_cons_succ]
  refine AnyL.late (i := 5) (by kernel_rfl) (by decide) ?_
  intro V hV
  have B6 := Lib.hid hV
  clear hV B5 IH C2
  refine wpOp_wp rfl (by kernel_rfl) ?_
  refine wp_store_row 38 _ _ rfl (w.heap.size + 1) (cellsOf t1) rfl rfl 38 (cellsOf t1) B6.out.1.r1 (by rw [cellsOf_size, HT1.out]; kernel_rfl) (by rfl) (cellsOf_one _) ?_
  have HW6 : Has (V.setRow (w.heap.size + 1) (cellsOf t1)) (w.heap.size + 1) 38 (cellsOf t1) := B6.out.1.r1.row _
  have TW6 : Turn (fun k => k = w.heap.size + 1) V (V.setRow (w.heap.size + 1) (cellsOf t1)) := turn_row _ _ _
  have B7 := Lib.hid (B6.out.1.st1 HW6 TW6)
  clear HW6 TW6 B6
  generalize V.setRow (w.heap.size + 1) (cellsOf t1) = W6 at *
  simp only [Act.put]
  refine any_one (i := 6) (by kernel_rfl) ?_
  refine wpOp_wp rfl (by kernel_rfl) ?_
  refine wp_store_row 38 _ _ rfl (w.heap.size + 1 + 1) (cellsOf x2) rfl rfl 38 (cellsOf t2) B7.out.r2 (by rw [cellsOf_size, HX2.out]; kernel_rfl) (by rw [cellsOf_size, cellsOf_size, HX2.out, HT2.out]) (cellsOf_one _) ?_
  have HW7 : Has (W6.setRow (w.heap.size + 1 + 1) (cellsOf x2)) (w.heap.size + 1 + 1) 38 (cellsOf x2) := B7.out.r2.row _
  have TW7 : Turn (fun k => k = w.heap.size + 1 + 1) W6 (W6.setRow (w.heap.size + 1 + 1) (cellsOf x2)) := turn_row _ _ _
  have B8 := Lib.hid (B7.out.st2 HW7 TW7)
  clear HW7 TW7 B7
  generalize W6.setRow (w.heap.size + 1 + 1) (cellsOf x2) = W7 at *
  simp only [Act.put]
  refine any_take 7 (some 10) (v := .bool tb) rfl rfl (by kernel_rfl) (by kernel_rfl) (by kernel_rfl) (fun _ _ _ h => h) (by kernel_rfl) (fun V => by go_simp) ?_
  simp only [Act.put]
  refine wpAny_done (by kernel_rfl) ?_ _
  go_wp2_with fail
  exact bodyPost_ret (B8.out.ret rfl HT1.out HX2.out rfl rfl rfl) rfl ⟨rfl, B8.out.bel⟩
end Go.Proofs.YtdoadmkaoboncaaGreatDoor.prf
end

section
/- proof: bothRoots, the upper half. -/
namespace Go.Proofs.YtdoadmkaoboncaaGreatDoor.prf
open Go Go.RowKit Go.Proofs.YtdoadmkaoboncaaGreatDoor.dig



set_option maxRecDepth 100000 in
set_option maxHeartbeats 4000000 in
theorem both_upper {o : List UInt8} (ho : o.length = 32) (N f n m k : Nat) (hk : k = half n) (hN : N = f + m) (hn : n ≤ 1000000) (hf : f ≤ 1000000) (hmn : m ≠ n) (hm : m ≤ n) (h2 : 2 ≤ n) (hmk : ¬ m ≤ k) (s : List UInt8) (r : List (List UInt8)) (a : Option Addr) (c : Nat) (t1 t2 : List UInt8) (tb : Bool) (ht1 : t1.length = 32) (ht2 : t2.length = 32) (w : World) (hR : Rk w) (hS : Sms w (.slice a (s :: r).length c) (s :: r))
    (ih : ∀ V, Rk V → Sms V (.slice a r.length c) r → Calls Tryz.prog 97 #[.agg (headC N o), .int .i64 ((f + k : Nat) : Int), .int .i64 ((n - k : Nat) : Int), .slice a r.length c] V (BothPost V (t1, t2, tb))) :
    Calls Tryz.prog 97 #[.agg (headC N o), .int .i64 f, .int .i64 n, .slice a (s :: r).length c] w (BothPost w (nodeS s t1, nodeS s t2, tb)) := by
  have HO := Lib.hid ho
  have HS := Lib.hid hS
  have hsl : s.length = 32 := hS.2 s (by simp)
  have HL := Lib.hid hsl
  obtain ⟨q, hq⟩ : ∃ q, q = (s :: r).length := ⟨_, rfl⟩
  rw [← hq]
  have HSP : ∀ V, Hid (Sms V (.slice a (s :: r).length c) (s :: r) → Calls Tryz.prog 108 #[.slice a q c] V fun en w' => en = .returned (.tuple #[.slice a r.length c, .agg (cellsOf s), .bool true]) ∧ Below V.heap.size V w') := fun V => Lib.hid (by rw [hq]; exact split_some)
  have HR0 := Lib.hid hR
  have h1 := half_lt h2
  have h0 := half_pos n
  rw [← hk] at h1 h0
  have HH : ∀ V, Hid (Calls Tryz.prog 87 #[.int .i64 n] V fun en w' => en = .returned (.int .i64 k) ∧ V = w') := fun V => Lib.hid (by rw [hk]; exact half_calls n V h2 (by omega))
  have e1 : (N : Int) - (f : Int) = (m : Int) := by omega
  have e2 : (n : Int) ≤ 1000000 := by omega
  have e3 : (m : Int) ≤ 1000000 := by omega
  have e4 : ((m : Int) == (n : Int)) = false := by rw [beq_eq_false_iff_ne]; omega
  have e5 : ¬ (m : Int) = (n : Int) := by omega
  have e6 : (f : Int) ≤ 1000000 := by omega
  have e7 : (k : Int) ≤ 1000000 := by omega
  have e8 : ¬ (m : Int) ≤ (k : Int) := by omega
  have e9 : (f : Int) + (k : Int) = ((f + k : Nat) : Int) := by omega
  have e10 : (n : Int) - (k : Int) = ((n - k : Nat) : Int) := by omega
  have e11 : f + k ≤ 2000000 := by omega
  have e12 : n - k ≤ 1000000 := by omega
  obtain ⟨f', hf'⟩ : ∃ f', f' = f + k := ⟨_, rfl⟩
  obtain ⟨n', hn'⟩ : ∃ n', n' = n - k := ⟨_, rfl⟩
  rw [← hf'] at ih e9 e11
  rw [← hn'] at ih e10 e12
  have e13 : (f' : Int) ≤ 2000000 := by omega
  have e14 : (n' : Int) ≤ 1000000 := by omega
  have IH := Lib.hid ih
  have HT1 := Lib.hid ht1
  have HT2 := Lib.hid ht2
  have HX1 : Hid ((nodeS s t1).length = 32) := Lib.hid (nodeS_length _ _)
  have HX2 : Hid ((nodeS s t2).length = 32) := Lib.hid (nodeS_length _ _)
  obtain ⟨x1, hx1⟩ : ∃ x1, x1 = nodeS s t1 := ⟨_, rfl⟩
  rw [← hx1] at HX1 ⊢
  obtain ⟨x2, hx2⟩ : ∃ x2, x2 = nodeS s t2 := ⟨_, rfl⟩
  rw [← hx2] at HX2 ⊢
  have HX2E := Lib.hid hx2.symm
  have HX1E := Lib.hid hx1.symm
  clear hN hn hf hmn hm hmk ho hS hsl hq hR hk h2 h1 h0 ih ht1 ht2 hx2 hx1 hf' hn' e11 e12
  have c0 : ∀ A B, (((w.alloc (.cells (headC N o) 41)).alloc A).alloc B).cell? ⟨w.heap.size, 0, none⟩ = some (.int .i64 N) := fun A B => Has.num (((made_at _ _ rfl).alloc A).alloc B)
  go_enter Tryz.func97, Tryz.ntmps97
  go_wp2_with fail
  refine callsName (fun W hW => ?_)
  have B0 : Hid (Bo w N o Z Z W) := by rw [← hW]; exact Lib.hid (Bo.made w N o)
  clear hW c0
  refine ((HSP W).out (HS.out.below B0.out.bel)).mono ?_
  rintro en w1 ⟨rfl, b1⟩
  have B1 := Lib.hid (B0.out.below b1)
  clear B0 b1
  go_wp2_with (first
    | ((with_reducible refine at_store (.tmp 12) ?_); refine wpList_store_arr (o := ⟨none, _, _, _, _, _⟩) rfl 38 _ _ rfl (w1.heap.size) s Z rfl rfl _ (made_at _ _ rfl) 32 (by kernel_rfl) Z_len HL.out ?_; intro W2 HW2 TW2
       (have B2 : Hid (Bo w N o Z Z W2 ∧ Has W2 w1.heap.size 38 (cellsOf s)) := Lib.hid ⟨B1.out.below (((Below.refl _ w1).alloc (Nat.le_refl _) _).trans (TW2.below (by simp) (fun j hj e => by omega))), HW2⟩)
       (have G2 : Hid (w.heap.size + 1 + 1 < w1.heap.size) := Lib.hid (by have := B1.out.r2.lt; omega))
       (clear TW2 HW2 B1))
    | fail)
  refine (HH W2).out.mono ?_
  rintro en w' ⟨rfl, rfl⟩
  go_wp2_with (first
    | ((with_reducible refine at_op 70 ?_); refine wpList_load_row (o := ⟨some 70, _, _, _, _, _⟩) rfl 41 _ rfl w.heap.size rfl 41 (headC N o) (0, 0) _ B2.out.1.hd Tryz.underlying41 rfl (by rw [headC_size, HO.out]; kernel_rfl) ?_)
    | fail)
  refine (IH.out W2 (HR0.out.below B2.out.1.bel) (HS.out.below B2.out.1.bel).cons.1).mono ?_
  rintro en w3 ⟨rfl, b3⟩
  have B3 : Hid (Bo w N o Z Z w3 ∧ Has w3 w1.heap.size 38 (cellsOf s)) := Lib.hid ⟨B2.out.1.below b3, B2.out.2.below b3 B2.out.2.lt⟩
  clear B2 b3
  go_wp2_with (first
    | ((with_reducible refine at_store (.tmp 8) ?_); refine wpList_store_arr (o := ⟨none, _, _, _, _, _⟩) rfl 38 _ _ rfl (w.heap.size + 1) t1 Z rfl rfl _ B3.out.1.r1 32 (by kernel_rfl) Z_len HT1.out ?_; intro W4 HW4 TW4
       (have B4 : Hid (Bo w N o t1 Z W4 ∧ Has W4 w1.heap.size 38 (cellsOf s)) := Lib.hid ⟨B3.out.1.st1 HW4 TW4, B3.out.2.turn TW4 (by have := G2.out; omega)⟩)
       (clear TW4 HW4 B3))
    | ((with_reducible refine at_store (.tmp 9) ?_); refine wpList_store_arr (o := ⟨none, _, _, _, _, _⟩) rfl 38 _ _ rfl (w.heap.size + 1 + 1) t2 Z rfl rfl _ B4.out.1.r2 32 (by kernel_rfl) Z_len HT2.out ?_; intro W5 HW5 TW5
       (have B5 : Hid (Bo w N o t1 t2 W5 ∧ Has W5 w1.heap.size 38 (cellsOf s)) := Lib.hid ⟨B4.out.1.st2 HW5 TW5, B4.out.2.turn TW5 (by have := G2.out; omega)⟩)
       (clear TW5 HW5 B4))
    | fail)
  have C1 : Hid (∀ V, (Bo w N o t1 t2 V ∧ Has V w1.heap.size 38 (cellsOf s)) → Calls Tryz.prog 88 #[.agg (cellsOf s), .agg (cellsOf t1)] V fun en w' => en = .returned (.agg (cellsOf x1)) ∧ (Bo w N o t1 t2 w' ∧ Has w' w1.heap.size 38 (cellsOf s))) := Lib.hid fun V hV =>
    (node_calls s t1 V (HR0.out.below hV.1.bel) HL.out HT1.out).mono (fun _ _ p => ⟨by rw [p.1, HX1E.out], hV.1.below p.2, hV.2.below p.2 hV.2.lt⟩)
  have C2 : Hid (∀ V, (Bo w N o t1 t2 V ∧ Has V w1.heap.size 38 (cellsOf s)) → Calls Tryz.prog 88 #[.agg (cellsOf s), .agg (cellsOf t2)] V fun en w' => en = .returned (.agg (cellsOf x2)) ∧ (Bo w N o t1 t2 w' ∧ Has w' w1.heap.size 38 (cellsOf s))) := Lib.hid fun V hV =>
    (node_calls s t2 V (HR0.out.below hV.1.bel) HL.out HT2.out).mono (fun _ _ p => ⟨by rw [p.1, HX2E.out], hV.1.below p.2, hV.2.below p.2 hV.2.lt⟩)
  refine wp_region_any (by kernel_rfl) ?_
  refine any_take 6 (some 88) (v := .bool tb) rfl rfl (by kernel_rfl) (by kernel_rfl) (by kernel_rfl) (fun _ _ _ h => h) (by kernel_rfl) (fun V => by go_simp) ?_
  simp only [Act.put, List.setIfInBounds_toArray, List.set_cons_zero, List.set_cons_succ]
  refine AnyL.any (S := fun V => Bo w N o t1 t2 V ∧ Has V w1.heap.size 38 (cellsOf s)) (Wr := [7, 8]) _ _ _ _ ⟨B5.out.1.drew, B5.out.2.drew⟩ ?_
  refine AnyL.pure 0 (some 82) (v := .agg (cellsOf s)) rfl rfl (by kernel_rfl) (by kernel_rfl) (by kernel_rfl) (fun _ _ _ h => h) (by kernel_rfl) (by kernel_rfl) (fun V hV => by exact exec_load 38 (.tmp 12) rfl (.pointer (some ⟨w1.heap.size, 0, none⟩)) rfl (run_loadAt_mid V (w1.heap.size) 0 38 (s.map byteV) _ (Has.range hV.2) Tryz.underlying38 rfl (by rw [List.length_map, HL.out]; kernel_rfl))) ?_
  refine AnyL.pure 1 (some 83) (v := .agg (cellsOf t1)) rfl rfl (by kernel_rfl) (by kernel_rfl) (by kernel_rfl) (fun _ _ _ h => h) (by kernel_rfl) (by kernel_rfl) (fun V hV => by exact exec_load 38 (.tmp 8) rfl (.pointer (some ⟨w.heap.size + 1, 0, none⟩)) rfl (run_loadAt_mid V (w.heap.size + 1) 0 38 (t1.map byteV) _ (Has.range hV.1.r1) Tryz.underlying38 rfl (by rw [List.length_map, HT1.out]; kernel_rfl))) ?_
  refine AnyL.pure 3 (some 85) (v := .agg (cellsOf s)) rfl rfl (by kernel_rfl) (by kernel_rfl) (by kernel_rfl) (fun _ _ _ h => h) (by kernel_rfl) (by kernel_rfl) (fun V hV => by exact exec_load 38 (.tmp 12) rfl (.pointer (some ⟨w1.heap.size, 0, none⟩)) rfl (run_loadAt_mid V (w1.heap.size) 0 38 (s.map byteV) _ (Has.range hV.2) Tryz.underlying38 rfl (by rw [List.length_map, HL.out]; kernel_rfl))) ?_
  refine AnyL.pure 4 (some 86) (v := .agg (cellsOf t2)) rfl rfl (by kernel_rfl) (by kernel_rfl) (by kernel_rfl) (fun _ _ _ h => h) (by kernel_rfl) (by kernel_rfl) (fun V hV => by exact exec_load 38 (.tmp 9) rfl (.pointer (some ⟨w.heap.size + 1 + 1, 0, none⟩)) rfl (run_loadAt_mid V (w.heap.size + 1 + 1) 0 38 (t2.map byteV) _ (Has.range hV.1.r2) Tryz.underlying38 rfl (by rw [List.length_map, HT2.out]; kernel_rfl))) ?_
  simp only [Act.put, List.setIfInBounds_toArray, List.set_cons_zero, List.set_cons_succ]
  refine AnyL.call 2 (some 84) (.agg (cellsOf x1)) rfl rfl (by kernel_rfl) (by kernel_rfl) (by kernel_rfl) (fun _ _ _ h => h) (by kernel_rfl) (by kernel_rfl) 88 Tryz.f88 Tryz.func88 (by kernel_rfl) (by kernel_rfl) _ _ rfl #[.agg (cellsOf s), .agg (cellsOf t1)] (by first | (simp [Act.eval]; done) | (simp [Act.eval, Act.put]; done)) (fun V hV => C1.out V hV) ?_
  simp only [Act.put, List.setIfInBounds_toArray, List.set_cons_zero, List.set_cons_succ]
  refine AnyL.call 5 (some 87) (.agg (cellsOf x2)) rfl rfl (by kernel_rfl) (by kernel_rfl) (by kernel_rfl) (fun _ _ _ h => h) (by kernel_rfl) (by kernel_rfl) 88 Tryz.f88 Tryz.func88 (by kernel_rfl) (by kernel_rfl) _ _ rfl #[.agg (cellsOf s), .agg (cellsOf t2)] (by first | (simp [Act.eval]; done) | (simp [Act.eval, Act.put]; done)) (fun V hV => C2.out V hV) ?_
  simp only [Act.put, List.setIfInBounds_toArray, List.set_cons_zero, List.set_cons_succ]
  refine AnyL.late (i := 7) (by kernel_rfl) (by decide) ?_
  intro V hV
  have B6 := Lib.hid hV
  clear hV B5 IH C1 C2
  refine wpOp_wp rfl (by kernel_rfl) ?_
  refine wp_store_row 38 _ _ rfl (w.heap.size + 1) (cellsOf x1) rfl rfl 38 (cellsOf t1) B6.out.1.r1 (by rw [cellsOf_size, HX1.out]; kernel_rfl) (by rw [cellsOf_size, cellsOf_size, HX1.out, HT1.out]) (cellsOf_one _) ?_
  have HW6 : Has (V.setRow (w.heap.size + 1) (cellsOf x1)) (w.heap.size + 1) 38 (cellsOf x1) := B6.out.1.r1.row _
  have TW6 : Turn (fun k => k = w.heap.size + 1) V (V.setRow (w.heap.size + 1) (cellsOf x1)) := turn_row _ _ _
  have B7 := Lib.hid (B6.out.1.st1 HW6 TW6)
  clear HW6 TW6 B6
  generalize V.setRow (w.heap.size + 1) (cellsOf x1) = W6 at *
  simp only [Act.put]
  refine any_one (i := 8) (by kernel_rfl) ?_
  refine wpOp_wp rfl (by kernel_rfl) ?_
  refine wp_store_row 38 _ _ rfl (w.heap.size + 1 + 1) (cellsOf x2) rfl rfl 38 (cellsOf t2) B7.out.r2 (by rw [cellsOf_size, HX2.out]; kernel_rfl) (by rw [cellsOf_size, cellsOf_size, HX2.out, HT2.out]) (cellsOf_one _) ?_
  have HW7 : Has (W6.setRow (w.heap.size + 1 + 1) (cellsOf x2)) (w.heap.size + 1 + 1) 38 (cellsOf x2) := B7.out.r2.row _
  have TW7 : Turn (fun k => k = w.heap.size + 1 + 1) W6 (W6.setRow (w.heap.size + 1 + 1) (cellsOf x2)) := turn_row _ _ _
  have B8 := Lib.hid (B7.out.st2 HW7 TW7)
  clear HW7 TW7 B7
  generalize W6.setRow (w.heap.size + 1 + 1) (cellsOf x2) = W7 at *
  simp only [Act.put]
  refine any_take 9 (some 10) (v := .bool tb) rfl rfl (by kernel_rfl) (by kernel_rfl) (by kernel_rfl) (fun _ _ _ h => h) (by kernel_rfl) (fun V => by go_simp) ?_
  simp only [Act.put]
  refine wpAny_done (by kernel_rfl) ?_ _
  go_wp2_with fail
  exact bodyPost_ret (B8.out.ret rfl HX1.out HX2.out rfl rfl rfl) rfl ⟨rfl, B8.out.bel⟩
end Go.Proofs.YtdoadmkaoboncaaGreatDoor.prf
end

section
/- proof: bothRoots whole. -/
namespace Go.Proofs.YtdoadmkaoboncaaGreatDoor.prf
open Go Go.RowKit Go.Proofs.YtdoadmkaoboncaaGreatDoor.dig

theorem both_calls {o : List UInt8} (ho : o.length = 32) : ∀ (r : List (List UInt8)) (N f m n : Nat) (a : Option Addr) (c : Nat) (w : World), Rk w → Sms w (.slice a r.length c) r → N = f + m → 1 ≤ m → m ≤ n → n ≤ 1000000 → f + n ≤ 1000000 →
    Calls Tryz.prog 97 #[.agg (headC N o), .int .i64 f, .int .i64 n, .slice a r.length c] w (BothPost w (both Z o r (decide (f = 0)) m n)) := by
  intro r
  induction r with
  | nil =>
    intro N f m n a c w hR hS hN hm0 hm hn hf
    by_cases h : m = n ∧ f = 0
    · obtain ⟨rfl, rfl⟩ := h
      have e : both Z o [] (decide ((0 : Nat) = 0)) m m = (o, o, true) := both_known Z o [] m
      rw [e]
      obtain rfl : N = m := by omega
      exact both_first ho N hn a 0 c w true rfl
    · rw [both_nil _ _ _ (fun e => h ⟨e.1, of_decide_eq_true e.2⟩)]
      exact both_none o N f n m hN hn (by omega) hm h a c w
  | cons s r ih =>
    intro N f m n a c w hR hS hN hm0 hm hn hf
    by_cases h : m = n
    · subst h
      by_cases h0 : f = 0
      · subst h0
        have e : both Z o (s :: r) (decide ((0 : Nat) = 0)) m m = (o, o, false) := both_known Z o (s :: r) m
        rw [e]
        obtain rfl : N = m := by omega
        exact both_first ho N hn a _ c w false (isEmpty_len (s :: r))
      · rw [decide_eq_false h0, both_all]
        exact both_whole ho N f m hN hn (by omega) h0 s r a c w hS
    · have h2 : 2 ≤ n := by omega
      have h1 := half_lt h2
      have hl := fun x (hx : x ∈ r) => hS.2 x (by simp [hx])
      by_cases hk : m ≤ half n
      · obtain ⟨l1, l2⟩ := both_len Z_len ho r (decide (f = 0)) m (half n) hl
        rw [both_left _ _ _ _ _ h hk]
        exact both_lower ho N f n m (half n) rfl hN hn (by omega) h hm h2 hk s r a c _ _ _ l1 l2 w hR hS (fun V hR' hS' => ih N f m (half n) a c V hR' hS' hN hm0 hk (by omega) (by omega))
      · obtain ⟨l1, l2⟩ := both_len Z_len ho r false (m - half n) (n - half n) hl
        rw [both_right _ _ _ _ _ h hk]
        exact both_upper ho N f n m (half n) rfl hN hn (by omega) h hm h2 hk s r a c _ _ _ l1 l2 w hR hS (fun V hR' hS' => by
          have h0 := half_pos n
          have := ih N (f + half n) (m - half n) (n - half n) a c V hR' hS' (by omega) (by omega) (by omega) (by omega) (by omega)
          rwa [decide_eq_false (by omega)] at this)
end Go.Proofs.YtdoadmkaoboncaaGreatDoor.prf
end

