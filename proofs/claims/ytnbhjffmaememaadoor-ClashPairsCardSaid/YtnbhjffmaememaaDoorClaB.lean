/- clash: turnsTo, to a leaf that is alone. -/
import Derived.Test.YtnbhjffmaememaaDoorClaA
import Derived.Test.YtnbhjffmaememaaDoorHalf
import Derived.Test.YtnbhjffmaememaaDoorRow
import Derived.Test.YtnbhjffmaememaaDoorTreeE
namespace Go.Proofs.YtnbhjffmaememaaDoor.clash
open Go Go.RowKit Go.Proofs.YtnbhjffmaememaaDoor.dig

/-- The turns from all of n leaves to the i-th: left? -/
def turnsL (i n : Nat) : List Bool :=
  if _h : 2 ≤ n then (if i < half n then true :: turnsL i (half n) else false :: turnsL (i - half n) (n - half n)) else []
termination_by n
decreasing_by
  · exact half_lt _h
  · have := half_pos n; omega
theorem turnsL_one (i : Nat) : turnsL i 1 = [] := by rw [turnsL, dif_neg (by decide)]
theorem turnsL_left {i n : Nat} (h : 2 ≤ n) (hi : i < half n) : turnsL i n = true :: turnsL i (half n) := by rw [turnsL, dif_pos h, if_pos hi]
theorem turnsL_right {i n : Nat} (h : 2 ≤ n) (hi : ¬ i < half n) : turnsL i n = false :: turnsL (i - half n) (n - half n) := by rw [turnsL, dif_pos h, if_neg hi]
theorem turnsL_le : ∀ (D n i : Nat), n ≤ 2 ^ D → (turnsL i n).length ≤ D := by
  intro D
  induction D with
  | zero => intro n i h; rw [turnsL, dif_neg (by simp at h; omega)]; simp
  | succ d ih =>
    intro n i h
    rw [turnsL]
    split
    · rename_i h2
      obtain ⟨d', e, h3, h4⟩ := half_pow_le h2 h
      obtain rfl : d = d' := by omega
      split
      · have := ih _ i h3; simp; omega
      · have := ih _ (i - half n) h4; simp; omega
    · simp

set_option maxHeartbeats 400000 in
theorem alone_calls (i n : Int) (w : World) : Calls Tryd.prog 96 #[.int .i64 i, .int .i64 n] w fun en w' => en = .returned (.bool (n == 1)) ∧ w = w' := by
  go_enter Tryd.func96, Tryd.ntmps96
  go_wp2_with fail
  go_ret
  exact ⟨rfl, rfl⟩

theorem boolInfo : ∃ i z, Tryd.prog.info? 4 = some i ∧ i.zero = some z ∧ i.size = 1 ∧ z.cells.size = 1 ∧ i.bytes = 1 := by
  have h2 : (Tryd.prog.info? 4).map (fun i => (i.zero.map (fun z => z.cells.size), i.size, i.bytes)) = some (some 1, 1, 1) := by kernel_rfl
  obtain ⟨i, hi, e⟩ := Option.map_eq_some_iff.1 h2
  simp only [Prod.mk.injEq] at e
  obtain ⟨e1, e2, e3⟩ := e
  obtain ⟨z, hz, e4⟩ := Option.map_eq_some_iff.1 e1
  exact ⟨i, z, hi, hz, e2, e4, e3⟩

/-- Turns were answered, in new memory. -/
def TurnsPost (w : World) (l : List Bool) (en : Ending) (w' : World) : Prop :=
  ∃ v, en = .returned v ∧ Seg w' 4 1 v l.length (l.map Value.bool) ∧ (∀ x, v.ownBlock = some x → w.heap.size ≤ x) ∧ Below w.heap.size w w'

set_option maxRecDepth 100000 in
set_option maxHeartbeats 2000000 in
theorem turns_calls (i n : Nat) (w : World) (hi : i < n) (hn : n ≤ 1000000) :
    Calls Tryd.prog 95 #[.int .i64 i, .int .i64 n, .func (.func 96) #[] #[]] w (TurnsPost w (turnsL i n)) := by
  obtain ⟨L, hL⟩ : ∃ L, L = turnsL i n := ⟨_, rfl⟩
  have HL := Lib.hid hL
  rw [← hL]
  have hL64 : L.length ≤ 64 := by rw [hL]; have := turnsL_le 20 n i (by omega); omega
  go_enter Tryd.func95, Tryd.ntmps95
  go_wp2_with fail
  go_loopw [0, 1, 7] (fun x y v wr => ∃ (i' n' : Nat) (acc : List Bool), x = .int .i64 i' ∧ y = .int .i64 n' ∧ i' < n' ∧ n' ≤ 1000000 ∧ Hid (acc ++ turnsL i' n' = L) ∧ Hid (Seg wr 4 1 v acc.length (acc.map Value.bool) ∧ (∀ x, v.ownBlock = some x → w.heap.size ≤ x) ∧ Below w.heap.size w wr)) (fun _ y _ _ => (intOf y).toNat)
  case atStart => exact ⟨i, n, [], rfl, rfl, hi, hn, Lib.hid hL.symm, Lib.hid ⟨Seg.nil _ _ _, (fun x (hx : (Value.slice none 0 0).ownBlock = some x) => by cases hx), Below.refl _ _⟩⟩
  case round =>
    obtain ⟨i', n', acc, rfl, rfl, hin, hn', HA, HS⟩ := hrel
    clear hL
    by_cases h1 : n' = 1
    · subst h1
      have he : acc = L := by have := HA.out; rw [turnsL_one, List.append_nil] at this; exact this
      go_wp2_with (first
        | (go_at_call 96; refine (alone_calls _ _ _).mono ?_; rintro e w' ⟨rfl, rfl⟩)
        | fail)
      go_ret
      rw [← he]
      exact ⟨_, rfl, HS.out⟩
    · have hn2 : 2 ≤ n' := by omega
      have hne : ((n' : Int) == 1) = false := by simp; omega
      have h3 := half_lt hn2
      have h4 := half_pos n'
      obtain ⟨k, hk⟩ : ∃ k, k = half n' := ⟨_, rfl⟩
      rw [← hk] at h3 h4
      have HK := Lib.hid hk
      have hn1000 : n' ≤ 1000000000000 := by omega
      have hb1 : (n' : Int) ≤ 1000000 := by omega
      have hb2 : (k : Int) ≤ 1000000 := by omega
      have hb3 : (i' : Int) ≤ 1000000 := by omega
      have hacc : acc.length < 64 := by
        have h5 := congrArg List.length HA.out
        rw [List.length_append] at h5
        rcases Nat.lt_or_ge i' (half n') with h6 | h6
        · rw [turnsL_left hn2 h6] at h5; simp at h5; omega
        · rw [turnsL_right hn2 (by omega)] at h5; simp at h5; omega
      obtain ⟨z0i, z0, hi0, hz0, hz1, hz2, hz3⟩ := boolInfo
      have HI0 := Lib.hid hi0
      have HZ0 := Lib.hid hz0
      clear hi0 hz0
      by_cases hik : i' < k
      case' pos =>
        have hik2 : (i' : Int) < (k : Int) := by omega
        have HA2 : Hid ((acc ++ [true]) ++ turnsL i' k = L) := Lib.hid (by rw [← HA.out, turnsL_left hn2 (by rw [← hk]; exact hik), ← hk]; simp)
        obtain ⟨lb, hlb⟩ : ∃ lb, lb = true := ⟨_, rfl⟩
        obtain ⟨i2, hi2⟩ : ∃ i2, i2 = i' := ⟨_, rfl⟩
        obtain ⟨n2, hn2'⟩ : ∃ n2, n2 = k := ⟨_, rfl⟩
        have HG : Hid (i2 < n2 ∧ n2 < n') := Lib.hid (by omega)
      case' neg =>
        have hik2 : ¬ (i' : Int) < (k : Int) := by omega
        have HA2 : Hid ((acc ++ [false]) ++ turnsL (i' - k) (n' - k) = L) := Lib.hid (by rw [← HA.out, turnsL_right hn2 (by rw [← hk]; exact hik), ← hk]; simp)
        obtain ⟨lb, hlb⟩ : ∃ lb, lb = false := ⟨_, rfl⟩
        obtain ⟨i2, hi2⟩ : ∃ i2, i2 = i' - k := ⟨_, rfl⟩
        obtain ⟨n2, hn2'⟩ : ∃ n2, n2 = n' - k := ⟨_, rfl⟩
        have hm1 : (i' : Int) - (k : Int) = (i2 : Int) := by omega
        have hm2 : (n' : Int) - (k : Int) = (n2 : Int) := by omega
        have hm3 : (i2 : Int) ≤ 1000000 := by omega
        have hm4 : (n2 : Int) ≤ 1000000 := by omega
        have HG : Hid (i2 < n2 ∧ n2 < n') := Lib.hid (by omega)
      all_goals
        rw [← hi2, ← hn2'] at HA2
        rw [← hlb] at HA2
        have HLB := Lib.hid hlb
        have HI2 := Lib.hid (And.intro hi2 hn2')
        clear hk hik h3 h4 HA hlb hi2 hn2' h1 hin
        go_wp2_with (first
          | (go_at_call 96; refine (alone_calls _ _ _).mono ?_; rw [hne]; rintro e w' ⟨rfl, rfl⟩)
          | (go_at_call 115; refine (half_calls n' _ hn2 hn1000).mono ?_; rw [← HK.out]; rintro e w' ⟨rfl, rfl⟩)
          | ((with_reducible refine at_op 31 ?_); refine wpList_append_seg (o := ⟨some 31, _, _, _, _, _⟩) _ rfl (.tmp 28) (.tmp 30) 137 rfl 4 z0i z0 1 1 Tryd.underlying137 HI0.out HZ0.out hz1 hz3 hz2 (by decide) u7 acc.length (acc.map Value.bool) rfl (HS.out.1.alloc _) ⟨wr.heap.size, 0, none⟩ 1 1 [.bool _] rfl rfl (World.news_of_block (heap_alloc_new _ _)) (by simp [Value.oneCell']) (by decide) (by unfold maxLen; omega) (by omega) _ rfl ?_;
             intro g off cp w4 hown hgrow hat hlt)
          | fail)
        have hms : ((n2 : Int)).toNat < ((n' : Int)).toNat := by have := HG.out.2; omega
        refine ⟨⟨i2, n2, acc ++ [lb], by rw [HI2.out.1], by rw [HI2.out.2], HG.out.1, by have := HG.out.2; omega, HA2, Lib.hid ⟨?_, fun x hx => ?_, ?_⟩⟩, by first | exact hms | (rw [HI2.out.2] at hms; exact hms)⟩
        · rw [List.length_append, List.map_append, HLB.out]; exact hown
        · have e : g = x := by simpa [Value.ownBlock] using hx
          rw [← e]
          rcases hat with h | h
          · exact HS.out.2.1 g h
          · rw [h]; exact Nat.le_trans HS.out.2.2.size (by simp)
        · exact (HS.out.2.2.alloc HS.out.2.2.size _).trans (below_own hgrow HS.out.2.1 (Nat.le_trans HS.out.2.2.size (by simp)))
end Go.Proofs.YtnbhjffmaememaaDoor.clash
