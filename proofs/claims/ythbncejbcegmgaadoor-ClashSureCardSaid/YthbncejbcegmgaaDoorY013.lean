/- Texts laid into one: ClaB, ClaM, ClaI, ClaC, ClaD, TreeJA, ClaF. -/
import Derived.Test.YthbncejbcegmgaaDoorY010S
import Derived.Test.YthbncejbcegmgaaDoorY001
import Derived.Test.YthbncejbcegmgaaDoorY002
import Derived.Test.YthbncejbcegmgaaDoorY003
import Derived.Test.YthbncejbcegmgaaDoorY007
import Derived.Test.YthbncejbcegmgaaDoorY005
import Derived.Test.YthbncejbcegmgaaDoorY004
section
/- clash: turnsTo, to a leaf that is alone. -/
namespace Go.Proofs.YthbncejbcegmgaaDoor.clash
open Go Go.RowKit Go.Proofs.YthbncejbcegmgaaDoor.dig

/-- The turns from all of n leaves to the i-th: left? -/
def turnsL (i n : Nat) : List Bool :=
  if _h : 2 ≤ n then (if i < half n then true :: turnsL i (half n) else false :: turnsL (i - half n) (n - half n)) else []
termination_by n
decreasing_by
  · exact half_lt _h
  · have := half_pos n; omega
theorem turnsL_one (i : Nat) : turnsL i 1 = [] := by rw [turnsL, dif_neg (by decide)]
theorem turnsL_left {i n : Nat} (h : 2 ≤ n) (hi : i < half n) : turnsL i n = true :: turnsL i (half n) := by rw [turnsL, dif_pos h, if_pos hi]
theorem turnsL_right {i n : Nat} (h : 2 ≤ n) (hi : ¬ i < half n) : turnsL i n = false :: turnsL (i - half n) (n - half n) := by rw [turnsL, dif_pos h, if_neg hi]
theorem turnsL_le : ∀ (D n i : Nat), n ≤ 2 ^ D → (turnsL i n).length ≤ D := by
  intro D
  induction D with
  | zero => intro n i h; rw [turnsL, dif_neg (by simp at h; omega)]; simp
  | succ d ih =>
    intro n i h
    rw [turnsL]
    split
    · rename_i h2
      obtain ⟨d', e, h3, h4⟩ := half_pow_le h2 h
      obtain rfl : d = d' := by omega
      split
      · have := ih _ i h3; simp; omega
      · have := ih _ (i - half n) h4; simp; omega
    · simp

set_option maxHeartbeats 400000 in
theorem alone_calls (i n : Int) (w : World) : Calls Tryd.prog 44 #[.int .i64 i, .int .i64 n] w fun en w' => en = .returned (.bool (n == 1)) ∧ w = w' := by
  go_enter Tryd.func44, Tryd.ntmps44
  go_wp2_with fail
  go_ret
  exact ⟨rfl, rfl⟩

theorem boolInfo : ∃ i z, Tryd.prog.info? 4 = some i ∧ i.zero = some z ∧ i.size = 1 ∧ z.cells.size = 1 ∧ i.bytes = 1 := by
  have h2 : (Tryd.prog.info? 4).map (fun i => (i.zero.map (fun z => z.cells.size), i.size, i.bytes)) = some (some 1, 1, 1) := by kernel_rfl
  obtain ⟨i, hi, e⟩ := Option.map_eq_some_iff.1 h2
  simp only [Prod.mk.injEq] at e
  obtain ⟨e1, e2, e3⟩ := e
  obtain ⟨z, hz, e4⟩ := Option.map_eq_some_iff.1 e1
  exact ⟨i, z, hi, hz, e2, e4, e3⟩

/-- Turns were answered, in new memory. -/
def TurnsPost (w : World) (l : List Bool) (en : Ending) (w' : World) : Prop :=
  ∃ v, en = .returned v ∧ Seg w' 4 1 v l.length (l.map Value.bool) ∧ (∀ x, v.ownBlock = some x → w.heap.size ≤ x) ∧ Below w.heap.size w w'

set_option maxRecDepth 100000 in
set_option maxHeartbeats 2000000 in
theorem turns_calls (i n : Nat) (w : World) (hi : i < n) (hn : n ≤ 1000000) :
    Calls Tryd.prog 43 #[.int .i64 i, .int .i64 n, .func (.func 44) #[] #[]] w (TurnsPost w (turnsL i n)) := by
  obtain ⟨L, hL⟩ : ∃ L, L = turnsL i n := ⟨_, rfl⟩
  have HL := Lib.hid hL
  rw [← hL]
  have hL64 : L.length ≤ 64 := by rw [hL]; have := turnsL_le 20 n i (by omega); omega
  go_enter Tryd.func43, Tryd.ntmps43
  go_wp2_with fail
  go_loopw [0, 1, 7] (fun x y v wr => ∃ (i' n' : Nat) (acc : List Bool), x = .int .i64 i' ∧ y = .int .i64 n' ∧ i' < n' ∧ n' ≤ 1000000 ∧ Hid (acc ++ turnsL i' n' = L) ∧ Hid (Seg wr 4 1 v acc.length (acc.map Value.bool) ∧ (∀ x, v.ownBlock = some x → w.heap.size ≤ x) ∧ Below w.heap.size w wr)) (fun _ y _ _ => (intOf y).toNat)
  case atStart => exact ⟨i, n, [], rfl, rfl, hi, hn, Lib.hid hL.symm, Lib.hid ⟨Seg.nil _ _ _, (fun x (hx : (Value.slice none 0 0).ownBlock = some x) => by cases hx), Below.refl _ _⟩⟩
  case round =>
    obtain ⟨i', n', acc, rfl, rfl, hin, hn', HA, HS⟩ := hrel
    clear hL
    by_cases h1 : n' = 1
    · subst h1
      have he : acc = L := by have := HA.out; rw [turnsL_one, List.append_nil] at this; exact this
      go_wp2_with (first
        | (go_at_call 44; refine (alone_calls _ _ _).mono ?_; rintro e w' ⟨rfl, rfl⟩)
        | fail)
      go_ret
      rw [← he]
      exact ⟨_, rfl, HS.out⟩
    · have hn2 : 2 ≤ n' := by omega
      have hne : ((n' : Int) == 1) = false := by simp; omega
      have h3 := half_lt hn2
      have h4 := half_pos n'
      obtain ⟨k, hk⟩ : ∃ k, k = half n' := ⟨_, rfl⟩
      rw [← hk] at h3 h4
      have HK := Lib.hid hk
      have hn1000 : n' ≤ 1000000000000 := by omega
      have hb1 : (n' : Int) ≤ 1000000 := by omega
      have hb2 : (k : Int) ≤ 1000000 := by omega
      have hb3 : (i' : Int) ≤ 1000000 := by omega
      have hacc : acc.length < 64 := by
        have h5 := congrArg List.length HA.out
        rw [List.length_append] at h5
        rcases Nat.lt_or_ge i' (half n') with h6 | h6
        · rw [turnsL_left hn2 h6] at h5; simp at h5; omega
        · rw [turnsL_right hn2 (by omega)] at h5; simp at h5; omega
      obtain ⟨z0i, z0, hi0, hz0, hz1, hz2, hz3⟩ := boolInfo
      have HI0 := Lib.hid hi0
      have HZ0 := Lib.hid hz0
      clear hi0 hz0
      by_cases hik : i' < k
      case' pos =>
        have hik2 : (i' : Int) < (k : Int) := by omega
        have HA2 : Hid ((acc ++ [true]) ++ turnsL i' k = L) := Lib.hid (by rw [← HA.out, turnsL_left hn2 (by rw [← hk]; exact hik), ← hk]; simp)
        obtain ⟨lb, hlb⟩ : ∃ lb, lb = true := ⟨_, rfl⟩
        obtain ⟨i2, hi2⟩ : ∃ i2, i2 = i' := ⟨_, rfl⟩
        obtain ⟨n2, hn2'⟩ : ∃ n2, n2 = k := ⟨_, rfl⟩
        have HG : Hid (i2 < n2 ∧ n2 < n') := Lib.hid (by omega)
      case' neg =>
        have hik2 : ¬ (i' : Int) < (k : Int) := by omega
        have HA2 : Hid ((acc ++ [false]) ++ turnsL (i' - k) (n' - k) = L) := Lib.hid (by rw [← HA.out, turnsL_right hn2 (by rw [← hk]; exact hik), ← hk]; simp)
        obtain ⟨lb, hlb⟩ : ∃ lb, lb = false := ⟨_, rfl⟩
        obtain ⟨i2, hi2⟩ : ∃ i2, i2 = i' - k := ⟨_, rfl⟩
        obtain ⟨n2, hn2'⟩ : ∃ n2, n2 = n' - k := ⟨_, rfl⟩
        have hm1 : (i' : Int) - (k : Int) = (i2 : Int) := by omega
        have hm2 : (n' : Int) - (k : Int) = (n2 : Int) := by omega
        have hm3 : (i2 : Int) ≤ 1000000 := by omega
        have hm4 : (n2 : Int) ≤ 1000000 := by omega
        have HG : Hid (i2 < n2 ∧ n2 < n') := Lib.hid (by omega)
      all_goals
        rw [← hi2, ← hn2'] at HA2
        rw [← hlb] at HA2
        have HLB := Lib.hid hlb
        have HI2 := Lib.hid (And.intro hi2 hn2')
        clear hk hik h3 h4 HA hlb hi2 hn2' h1 hin
        go_wp2_with (first
          | (go_at_call 44; refine (alone_calls _ _ _).mono ?_; rw [hne]; rintro e w' ⟨rfl, rfl⟩)
          | (go_at_call 61; refine (half_calls n' _ hn2 hn1000).mono ?_; rw [← HK.out]; rintro e w' ⟨rfl, rfl⟩)
          | ((with_reducible refine at_op 31 ?_); refine wpList_append_seg (o := ⟨some 31, _, _, _, _, _⟩) _ rfl (.tmp 28) (.tmp 30) 88 rfl 4 z0i z0 1 1 Tryd.underlying88 HI0.out HZ0.out hz1 hz3 hz2 (by decide) u7 acc.length (acc.map Value.bool) rfl (HS.out.1.alloc _) ⟨wr.heap.size, 0, none⟩ 1 1 [.bool _] rfl rfl (World.news_of_block (heap_alloc_new _ _)) (by simp [Value.oneCell']) (by decide) (by unfold maxLen; omega) (by omega) _ rfl ?_;
             intro g off cp w4 hown hgrow hat hlt)
          | fail)
        have hms : ((n2 : Int)).toNat < ((n' : Int)).toNat := by have := HG.out.2; omega
        refine ⟨⟨i2, n2, acc ++ [lb], by rw [HI2.out.1], by rw [HI2.out.2], HG.out.1, by have := HG.out.2; omega, HA2, Lib.hid ⟨?_, fun x hx => ?_, ?_⟩⟩, by first | exact hms | (rw [HI2.out.2] at hms; exact hms)⟩
        · rw [List.length_append, List.map_append, HLB.out]; exact hown
        · have e : g = x := by simpa [Value.ownBlock] using hx
          rw [← e]
          rcases hat with h | h
          · exact HS.out.2.1 g h
          · rw [h]; exact Nat.le_trans HS.out.2.2.size (by simp)
        · exact (HS.out.2.2.alloc HS.out.2.2.size _).trans (below_own hgrow HS.out.2.1 (Nat.le_trans HS.out.2.2.size (by simp)))
end Go.Proofs.YthbncejbcegmgaaDoor.clash
end

section
/- clash: the mathematics: two ways that come to one sum have two unlike texts of one sum, or are the same. -/
namespace Go.Proofs.YthbncejbcegmgaaDoor.clash
open Go Go.Proofs.YthbncejbcegmgaaDoor.dig Go.Proofs.YthbncejbcegmgaaDoor.prf

/-- What comes, by turns and sums from outside in; c: what stands where they end. -/
def comeX : List Bool → List (List UInt8) → List UInt8 → List UInt8
  | t :: ts, o :: r, c => if t = true then nodeS (comeX ts r c) o else nodeS o (comeX ts r c)
  | _, _, c => c
/-- The texts, from outside in. -/
def texX : List Bool → List (List UInt8) → List UInt8 → List (List UInt8)
  | t :: ts, o :: r, c => (1 :: (if t = true then comeX ts r c ++ o else o ++ comeX ts r c)) :: texX ts r c
  | _, _, _ => []
theorem comeX_len : ∀ (T : List Bool) (r : List (List UInt8)) {c : List UInt8}, c.length = 32 → (comeX T r c).length = 32
  | [], _, _, h => by simpa [comeX] using h
  | _ :: _, [], _, h => by simpa [comeX] using h
  | t :: ts, o :: r, c, h => by
    rw [comeX]
    split <;> exact nodeS_length _ _
theorem texX_len : ∀ (T : List Bool) (r : List (List UInt8)) (c : List UInt8), T.length = r.length → (texX T r c).length = T.length
  | [], _, _, _ => by simp [texX]
  | _ :: _, [], _, h => by simp at h
  | t :: ts, o :: r, c, h => by
    rw [texX, List.length_cons, List.length_cons, texX_len ts r c (by simpa using h)]
theorem comeX_sum (t : Bool) (ts : List Bool) (o : List UInt8) (r : List (List UInt8)) (c : List UInt8) : comeX (t :: ts) (o :: r) c = sum (1 :: (if t = true then comeX ts r c ++ o else o ++ comeX ts r c)) := by
  rw [comeX]
  cases t <;> rfl

/-- Two ways of the same turns that come to one sum: two unlike texts of one sum, or the same sums. -/
theorem sure : ∀ (T : List Bool) (r1 r2 : List (List UInt8)) (c1 c2 : List UInt8), T.length = r1.length → T.length = r2.length → (∀ x ∈ r1, x.length = 32) → (∀ x ∈ r2, x.length = 32) → c1.length = 32 → c2.length = 32 → comeX T r1 c1 = comeX T r2 c2 →
    (∃ (p : Nat) (x y : List UInt8), (texX T r1 c1)[p]? = some x ∧ (texX T r2 c2)[p]? = some y ∧ x ≠ y ∧ sum x = sum y ∧ ∀ q < p, (texX T r1 c1)[q]? = (texX T r2 c2)[q]?) ∨ (r1 = r2 ∧ c1 = c2)
  | [], [], [], c1, c2, _, _, _, _, _, _, h => .inr ⟨rfl, by simpa [comeX] using h⟩
  | [], _ :: _, _, _, _, h, _, _, _, _, _, _ => by simp at h
  | [], [], _ :: _, _, _, _, h, _, _, _, _, _ => by simp at h
  | _ :: _, [], _, _, _, h, _, _, _, _, _, _ => by simp at h
  | _ :: _, _ :: _, [], _, _, _, h, _, _, _, _, _ => by simp at h
  | t :: ts, o1 :: r1, o2 :: r2, c1, c2, h1, h2, hr1, hr2, hc1, hc2, h => by
    rw [comeX_sum, comeX_sum] at h
    by_cases he : (1 :: (if t = true then comeX ts r1 c1 ++ o1 else o1 ++ comeX ts r1 c1)) = (1 :: (if t = true then comeX ts r2 c2 ++ o2 else o2 ++ comeX ts r2 c2))
    · have l1 := comeX_len ts r1 hc1
      have l2 := comeX_len ts r2 hc2
      have lo1 := hr1 o1 (by simp)
      have lo2 := hr2 o2 (by simp)
      have key : comeX ts r1 c1 = comeX ts r2 c2 ∧ o1 = o2 := by
        have he' := (List.cons.inj he).2
        cases t
        · simp only [Bool.false_eq_true, if_false] at he'
          have := List.append_inj he' (by rw [lo1, lo2])
          exact ⟨this.2, this.1⟩
        · simp only [if_true] at he'
          have := List.append_inj he' (by rw [l1, l2])
          exact this
      rcases sure ts r1 r2 c1 c2 (by simpa using h1) (by simpa using h2) (fun x hx => hr1 x (by simp [hx])) (fun x hx => hr2 x (by simp [hx])) hc1 hc2 key.1 with ⟨p, x, y, e1, e2, ne, es, hq⟩ | ⟨e1, e2⟩
      · refine .inl ⟨p + 1, x, y, ?_, ?_, ne, es, fun q hq' => ?_⟩
        · rw [texX, List.getElem?_cons_succ]; exact e1
        · rw [texX, List.getElem?_cons_succ]; exact e2
        · cases q with
          | zero => rw [texX, texX, List.getElem?_cons_zero, List.getElem?_cons_zero, he]
          | succ q => rw [texX, texX, List.getElem?_cons_succ, List.getElem?_cons_succ]; exact hq q (by omega)
      · exact .inr ⟨by rw [e1, key.2], e2⟩
    · refine .inl ⟨0, _, _, by rw [texX, List.getElem?_cons_zero], by rw [texX, List.getElem?_cons_zero], he, h, fun q hq => absurd hq (by omega)⟩

/-- A leaf's way. -/
theorem up_come (z x : List UInt8) : ∀ (r : List (List UInt8)) (n i : Nat), i < n → (up z x r i n).2 = true → (turnsL i n).length = r.length ∧ (up z x r i n).1 = comeX (turnsL i n) r x
  | [], n, i, hi, h => by
    by_cases h1 : n = 1
    · subst h1
      rw [turnsL_one, up_one]
      exact ⟨rfl, rfl⟩
    · rw [up_nil _ _ _ h1] at h; cases h
  | s :: r, n, i, hi, h => by
    by_cases h1 : n = 1
    · subst h1; rw [up_one] at h; cases h
    · have h2 : 2 ≤ n := by omega
      have hl := half_lt h2
      have hp := half_pos n
      by_cases hh : i < half n
      · rw [up_left _ _ _ _ h1 hh] at h ⊢
        obtain ⟨e1, e2⟩ := up_come z x r (half n) i hh h
        rw [turnsL_left h2 hh, comeX, if_pos rfl, List.length_cons, List.length_cons, e1]
        exact ⟨rfl, by show nodeS _ _ = nodeS _ _; rw [e2]⟩
      · rw [up_right _ _ _ _ h1 hh] at h ⊢
        obtain ⟨e1, e2⟩ := up_come z x r (n - half n) (i - half n) (by omega) h
        rw [turnsL_right h2 hh, comeX, if_neg (by simp), List.length_cons, List.length_cons, e1]
        exact ⟨rfl, by show nodeS _ _ = nodeS _ _; rw [e2]⟩

/-- The turns from all of n leaves to where the i-th is the last one. -/
def turnsP (i n : Nat) : List Bool :=
  if _h : i + 1 < n then (if i < half n then true :: turnsP i (half n) else false :: turnsP (i - half n) (n - half n)) else []
termination_by n
decreasing_by
  · exact half_lt (by omega)
  · have := half_pos n; omega
theorem turnsP_end {i n : Nat} (h : n ≤ i + 1) : turnsP i n = [] := by rw [turnsP, dif_neg (by omega)]
theorem turnsP_left {i n : Nat} (h : i + 1 < n) (hi : i < half n) : turnsP i n = true :: turnsP i (half n) := by rw [turnsP, dif_pos h, if_pos hi]
theorem turnsP_right {i n : Nat} (h : i + 1 < n) (hi : ¬ i < half n) : turnsP i n = false :: turnsP (i - half n) (n - half n) := by rw [turnsP, dif_pos h, if_neg hi]
theorem turnsP_le : ∀ (D n i : Nat), n ≤ 2 ^ D → (turnsP i n).length ≤ D := by
  intro D
  induction D with
  | zero => intro n i h; rw [turnsP, dif_neg (by simp at h; omega)]; simp
  | succ d ih =>
    intro n i h
    rw [turnsP]
    split
    · rename_i h2
      obtain ⟨d', e, h3, h4⟩ := half_pow_le (by omega : 2 ≤ n) h
      obtain rfl : d = d' := by omega
      split
      · have := ih _ i h3; simp; omega
      · have := ih _ (i - half n) h4; simp; omega
    · simp

/-- The roots beside turns, from outside in, and the one where they end. -/
def besideX (f : Nat → List UInt8) : List Bool → Nat → Nat → List (List UInt8)
  | [], _, _ => []
  | true :: t, a, n => rt f (a + half n) (n - half n) :: besideX f t a (half n)
  | false :: t, a, n => rt f a (half n) :: besideX f t (a + half n) (n - half n)
def endX (f : Nat → List UInt8) : List Bool → Nat → Nat → List UInt8
  | [], a, n => rt f a n
  | true :: t, a, n => endX f t a (half n)
  | false :: t, a, n => endX f t (a + half n) (n - half n)
theorem besideX_len (f : Nat → List UInt8) : ∀ (t : List Bool) (a n : Nat), (besideX f t a n).length = t.length
  | [], _, _ => rfl
  | true :: t, a, n => by rw [besideX, List.length_cons, List.length_cons, besideX_len f t]
  | false :: t, a, n => by rw [besideX, List.length_cons, List.length_cons, besideX_len f t]

/-- Right turns come to the root. -/
theorem come_right (f : Nat → List UInt8) : ∀ (n i a : Nat), i < n → comeX (turnsP i n) (besideX f (turnsP i n) a n) (endX f (turnsP i n) a n) = rt f a n := by
  intro n
  induction n using Nat.strongRecOn with
  | _ n ih =>
    intro i a hi
    by_cases h : i + 1 < n
    · have h2 : 2 ≤ n := by omega
      have hl := half_lt h2
      have hp := half_pos n
      by_cases hh : i < half n
      · rw [turnsP_left h hh, besideX, endX, comeX, if_pos rfl, ih _ hl i a hh, rt_two f a h2]
      · rw [turnsP_right h hh, besideX, endX, comeX, if_neg (by simp), ih _ (by omega) (i - half n) (a + half n) (by omega), rt_two f a h2]
    · rw [turnsP_end (by omega)]
      rfl
theorem beside_all (f : Nat → List UInt8) (hf : ∀ i, (f i).length = 32) : ∀ (n i a : Nat), i < n → (∀ x ∈ besideX f (turnsP i n) a n, x.length = 32) ∧ (endX f (turnsP i n) a n).length = 32 := by
  intro n
  induction n using Nat.strongRecOn with
  | _ n ih =>
    intro i a hi
    by_cases h : i + 1 < n
    · have h2 : 2 ≤ n := by omega
      have hl := half_lt h2
      have hp := half_pos n
      by_cases hh : i < half n
      · rw [turnsP_left h hh, besideX, endX]
        obtain ⟨h1, h3⟩ := ih _ hl i a hh
        refine ⟨fun x hx => ?_, h3⟩
        rcases List.mem_cons.1 hx with rfl | hx
        · exact rt_len hf _ _ (by omega)
        · exact h1 x hx
      · rw [turnsP_right h hh, besideX, endX]
        obtain ⟨h1, h3⟩ := ih (n - half n) (by omega) (i - half n) (a + half n) (by omega)
        refine ⟨fun x hx => ?_, h3⟩
        rcases List.mem_cons.1 hx with rfl | hx
        · exact rt_len hf _ _ hp
        · exact h1 x hx
    · rw [turnsP_end (by omega)]
      exact ⟨fun x hx => (by cases hx), rt_len hf _ _ (by omega)⟩

/-- Do turns lead to the first ones of all? -/
def allL (T : List Bool) : Bool := T.all (· == true)

/-- What a proof of a prefix tells: where turns end stands o, if they lead to the first ones, or its innermost sum. -/
theorem both_come (z o : List UInt8) : ∀ (r : List (List UInt8)) (n m : Nat) (first : Bool), 0 < m → m ≤ n → (both z o r first m n).2.2 = true →
    ((first && allL (turnsP (m - 1) n)) = true ∧ (turnsP (m - 1) n).length = r.length ∧ (both z o r first m n).1 = o ∧ (both z o r first m n).2.1 = comeX (turnsP (m - 1) n) r o)
    ∨ ((first && allL (turnsP (m - 1) n)) = false ∧ ∃ r' s, r = r' ++ [s] ∧ (turnsP (m - 1) n).length = r'.length ∧ (both z o r first m n).2.1 = comeX (turnsP (m - 1) n) r' s)
  | [], n, m, first, h0, hm, h => by
    by_cases he : m = n ∧ first = true
    · obtain ⟨rfl, rfl⟩ := he
      rw [turnsP_end (by omega), both_known]
      exact .inl ⟨rfl, rfl, rfl, rfl⟩
    · rw [both_nil z o first he] at h; cases h
  | s :: r, n, m, first, h0, hm, h => by
    by_cases he : m = n
    · subst he
      cases first
      · rw [both_all] at h ⊢
        have hr : r = [] := by simpa using h
        subst hr
        rw [turnsP_end (by omega)]
        exact .inr ⟨rfl, [], s, rfl, rfl, rfl⟩
      · rw [both_known] at h; cases h
    · have h2 : 2 ≤ n := by omega
      have hl := half_lt h2
      have hp := half_pos n
      by_cases hh : m ≤ half n
      · rw [both_left _ _ _ _ _ he hh] at h ⊢
        rw [turnsP_left (by omega) (by omega)]
        rcases both_come z o r (half n) m first h0 hh h with ⟨e1, e2, e3, e4⟩ | ⟨e1, r', x, e2, e3, e4⟩
        · refine .inl ⟨by simpa [allL] using e1, by rw [List.length_cons, List.length_cons, e2], e3, ?_⟩
          rw [comeX, if_pos rfl]; show nodeS _ _ = nodeS _ _; rw [e4]
        · refine .inr ⟨by simpa [allL] using e1, s :: r', x, by rw [e2]; rfl, by rw [List.length_cons, List.length_cons, e3], ?_⟩
          rw [comeX, if_pos rfl]; show nodeS _ _ = nodeS _ _; rw [e4]
      · rw [both_right _ _ _ _ _ he hh] at h ⊢
        rw [turnsP_right (by omega) (by omega), show m - 1 - half n = m - half n - 1 by omega]
        rcases both_come z o r (n - half n) (m - half n) false (by omega) (by omega) h with ⟨e1, e2, e3, e4⟩ | ⟨e1, r', x, e2, e3, e4⟩
        · simp at e1
        · refine .inr ⟨by simp [allL], s :: r', x, by rw [e2]; rfl, by rw [List.length_cons, List.length_cons, e3], ?_⟩
          rw [comeX, if_neg (by simp)]; show nodeS _ _ = nodeS _ _; rw [e4]

/-- The proof that is right, from outside in. -/
theorem steps_beside (f : Nat → List UInt8) : ∀ (n m a : Nat) (first : Bool), 0 < m → m ≤ n →
    (steps f m a n first).reverse = besideX f (turnsP (m - 1) n) a n ++ (if (first && allL (turnsP (m - 1) n)) = true then [] else [endX f (turnsP (m - 1) n) a n]) := by
  intro n
  induction n using Nat.strongRecOn with
  | _ n ih =>
    intro m a first h0 hm
    by_cases he : m = n
    · subst he
      rw [steps, if_pos rfl, turnsP_end (by omega)]
      cases first <;> rfl
    · have h2 : 2 ≤ n := by omega
      have hp := half_pos n
      have hl := half_lt h2
      rw [steps, if_neg he, dif_pos h2]
      by_cases hh : m ≤ half n
      · rw [if_pos hh, List.reverse_append, List.reverse_singleton, List.singleton_append, turnsP_left (by omega) (by omega), besideX, endX, ih (half n) hl m a first h0 hh, List.cons_append]
        rfl
      · rw [if_neg hh, List.reverse_append, List.reverse_singleton, List.singleton_append, turnsP_right (by omega) (by omega), besideX, endX, show m - 1 - half n = m - half n - 1 by omega, ih (n - half n) (by omega) (m - half n) (a + half n) false (by omega) (by omega), List.cons_append]
        simp [allL]
theorem end_first (f : Nat → List UInt8) : ∀ (n m a : Nat), 0 < m → m ≤ n → allL (turnsP (m - 1) n) = true → endX f (turnsP (m - 1) n) a n = rt f a m := by
  intro n
  induction n using Nat.strongRecOn with
  | _ n ih =>
    intro m a h0 hm h
    by_cases he : m = n
    · subst he
      rw [turnsP_end (by omega)]
      rfl
    · have h2 : 2 ≤ n := by omega
      have hl := half_lt h2
      by_cases hh : m ≤ half n
      · rw [turnsP_left (by omega) (by omega)] at h ⊢
        rw [endX]
        exact ih _ hl m a h0 hh (by simpa [allL] using h)
      · rw [turnsP_right (by omega) (by omega)] at h
        simp [allL] at h
/-- Behind the first ones what is known of them doesn't matter. -/
theorem both_free (z o o' : List UInt8) : ∀ (r : List (List UInt8)) (n m : Nat) (first : Bool), 0 < m → m ≤ n → (first && allL (turnsP (m - 1) n)) = false → both z o r first m n = both z o' r first m n
  | [], n, m, first, h0, hm, h => by
    by_cases he : m = n ∧ first = true
    · obtain ⟨rfl, rfl⟩ := he
      rw [turnsP_end (by omega)] at h
      simp [allL] at h
    · rw [both_nil _ _ _ he, both_nil _ _ _ he]
  | s :: r, n, m, first, h0, hm, h => by
    by_cases he : m = n
    · subst he
      cases first
      · rw [both_all, both_all]
      · rw [turnsP_end (by omega)] at h
        simp [allL] at h
    · have h2 : 2 ≤ n := by omega
      have hl := half_lt h2
      have hp := half_pos n
      by_cases hh : m ≤ half n
      · rw [turnsP_left (by omega) (by omega)] at h
        rw [both_left _ _ _ _ _ he hh, both_left _ _ _ _ _ he hh, both_free z o o' r (half n) m first h0 hh (by simpa [allL] using h)]
      · rw [both_right _ _ _ _ _ he hh, both_right _ _ _ _ _ he hh, both_free z o o' r (n - half n) (m - half n) false (by omega) (by omega) rfl]

/-- SURE, of a prefix: what is proved, and isn't so, has two unlike texts of one sum on its way. -/
theorem sure_prefix {f : Nat → List UInt8} (hf : ∀ i, (f i).length = 32) {m n : Nat} {old : List UInt8} (ho : old.length = 32) {r : List (List UInt8)} (hr : ∀ x ∈ r, x.length = 32) (hm : m ≤ n) (h : elderB m old n (rtAll f n) r = true) (hne : old ≠ rtAll f m) :
    0 < m ∧ m < n ∧ ∃ r' s, (turnsP (m - 1) n).length = r'.length ∧ r = (if allL (turnsP (m - 1) n) = true then r' else r' ++ [s]) ∧ (allL (turnsP (m - 1) n) = true → s = old) ∧ s.length = 32 ∧ (∀ x ∈ r', x.length = 32) ∧
      ∃ (p : Nat) (x y : List UInt8), (texX (turnsP (m - 1) n) (besideX f (turnsP (m - 1) n) 0 n) (endX f (turnsP (m - 1) n) 0 n))[p]? = some x ∧ (texX (turnsP (m - 1) n) r' s)[p]? = some y ∧ x ≠ y ∧ sum x = sum y ∧
        ∀ q < p, (texX (turnsP (m - 1) n) (besideX f (turnsP (m - 1) n) 0 n) (endX f (turnsP (m - 1) n) 0 n))[q]? = (texX (turnsP (m - 1) n) r' s)[q]? := by
  have hra : ∀ k, 0 < k → rtAll f k = rt f 0 k := fun k hk => by unfold rtAll; rw [if_neg (by omega)]
  unfold elderB at h
  by_cases he : m = n
  · subst he
    rw [if_pos rfl] at h
    simp at h
    exact absurd h.2 hne
  rw [if_neg he] at h
  by_cases h0 : m = 0
  · subst h0
    rw [if_pos rfl] at h
    simp at h
    exact absurd h.2 (by intro e; exact hne (by rw [e]; rfl))
  rw [if_neg h0] at h
  simp only [Bool.and_eq_true, beq_iff_eq] at h
  obtain ⟨⟨h1, h2⟩, h3⟩ := h
  rw [hra n (by omega)] at h3
  rw [hra m (by omega)] at hne
  refine ⟨by omega, by omega, ?_⟩
  obtain ⟨ba, bl⟩ := beside_all f hf n (m - 1) 0 (by omega)
  have hcr := come_right f n (m - 1) 0 (by omega)
  rcases both_come (List.replicate 32 0) old r n m true (by omega) hm h1 with ⟨e1, e2, e3, e4⟩ | ⟨e1, r', s, e2, e3, e4⟩
  · have e1' : allL (turnsP (m - 1) n) = true := by simpa using e1
    refine ⟨r, old, e2, by rw [if_pos e1'], fun _ => rfl, ho, hr, ?_⟩
    rcases sure (turnsP (m - 1) n) _ r _ old (besideX_len f _ 0 n).symm e2 ba hr bl ho (by rw [hcr, ← h3, e4]) with hx | ⟨_, e6⟩
    · exact hx
    · rw [end_first f n m 0 (by omega) hm e1'] at e6
      exact absurd e6.symm hne
  · have e1' : allL (turnsP (m - 1) n) = false := by simpa using e1
    have hs : s.length = 32 := hr s (by rw [e2]; simp)
    have hr' : ∀ x ∈ r', x.length = 32 := fun x hx => hr x (by rw [e2]; simp [hx])
    refine ⟨r', s, e3, by rw [e1', e2]; rfl, fun h => (by rw [e1'] at h; cases h), hs, hr', ?_⟩
    rcases sure (turnsP (m - 1) n) _ r' _ s (besideX_len f _ 0 n).symm e3 ba hr' bl hs (by rw [hcr, ← h3, e4]) with hx | ⟨e5, e6⟩
    · exact hx
    · have hst := steps_beside f n m 0 true (by omega) hm
      rw [if_neg (by rw [e1]; simp), e5, e6, ← e2] at hst
      have hb := prn.both_steps (List.replicate 32 0) (rt f 0 m) f n m 0 true (by omega) hm (fun _ => rfl)
      rw [hst, both_free _ _ old _ _ _ _ (by omega) hm e1] at hb
      rw [hb] at h2
      exact absurd h2.symm hne

/-- SURE, of leaves. -/
theorem sure_leaves {a b root : List UInt8} {i n : Nat} (hi : i < n) {p q : List (List UInt8)} (hp : ∀ x ∈ p, x.length = 32) (hq : ∀ x ∈ q, x.length = 32) (ha : inclE a i n root p = 0) (hb : inclE b i n root q = 0) (_hne : a ≠ b) :
    (turnsL i n).length = p.length ∧ (turnsL i n).length = q.length ∧
      ((∃ (k : Nat) (x y : List UInt8), (texX (turnsL i n) p (leafS a))[k]? = some x ∧ (texX (turnsL i n) q (leafS b))[k]? = some y ∧ x ≠ y ∧ sum x = sum y ∧ ∀ j < k, (texX (turnsL i n) p (leafS a))[j]? = (texX (turnsL i n) q (leafS b))[j]?)
      ∨ (texX (turnsL i n) p (leafS a) = texX (turnsL i n) q (leafS b) ∧ sum (0 :: a) = sum (0 :: b))) := by
  have key : ∀ (x : List UInt8) (r : List (List UInt8)), inclE x i n root r = 0 → (turnsL i n).length = r.length ∧ comeX (turnsL i n) r (leafS x) = root := by
    intro x r h
    unfold inclE at h
    rw [if_neg (by omega)] at h
    split at h
    · rename_i h1
      rw [Int.toNat_natCast, Int.toNat_natCast] at h1
      obtain ⟨e1, e2⟩ := up_come _ _ r n i hi h1.1
      exact ⟨e1, by rw [← e2]; exact h1.2⟩
    · cases h
  obtain ⟨l1, k1⟩ := key a p ha
  obtain ⟨l2, k2⟩ := key b q hb
  refine ⟨l1, l2, ?_⟩
  rcases sure (turnsL i n) p q (leafS a) (leafS b) l1 l2 hp hq (leafS_length _) (leafS_length _) (by rw [k1, k2]) with h | ⟨e1, e2⟩
  · exact .inl h
  · exact .inr ⟨by rw [e1, e2], e2⟩
end Go.Proofs.YthbncejbcegmgaaDoor.clash
end

section
/- clash: turnsTo, to where the i-th is the last one; allLeft. -/
namespace Go.Proofs.YthbncejbcegmgaaDoor.clash
open Go Go.RowKit Go.Proofs.YthbncejbcegmgaaDoor.dig

set_option maxHeartbeats 400000 in
theorem last_calls (i n : Int) (w : World) (h1 : -1000000 ≤ n) (h2 : n ≤ 1000000) : Calls Tryd.prog 47 #[.int .i64 i, .int .i64 n] w fun en w' => en = .returned (.bool (i == n - 1)) ∧ w = w' := by
  go_enter Tryd.func47, Tryd.ntmps47
  go_wp2_with fail
  go_ret
  exact ⟨rfl, rfl⟩

set_option maxRecDepth 100000 in
set_option maxHeartbeats 2000000 in
theorem turnsP_calls (i n : Nat) (w : World) (hi : i < n) (hn : n ≤ 1000000) :
    Calls Tryd.prog 43 #[.int .i64 i, .int .i64 n, .func (.func 47) #[] #[]] w (TurnsPost w (turnsP i n)) := by
  obtain ⟨L, hL⟩ : ∃ L, L = turnsP i n := ⟨_, rfl⟩
  have HL := Lib.hid hL
  rw [← hL]
  have hL64 : L.length ≤ 64 := by rw [hL]; have := turnsP_le 20 n i (by omega); omega
  go_enter Tryd.func43, Tryd.ntmps43
  go_wp2_with fail
  go_loopw [0, 1, 7] (fun x y v wr => ∃ (i' n' : Nat) (acc : List Bool), x = .int .i64 i' ∧ y = .int .i64 n' ∧ i' < n' ∧ n' ≤ 1000000 ∧ Hid (acc ++ turnsP i' n' = L) ∧ Hid (Seg wr 4 1 v acc.length (acc.map Value.bool) ∧ (∀ x, v.ownBlock = some x → w.heap.size ≤ x) ∧ Below w.heap.size w wr)) (fun _ y _ _ => (intOf y).toNat)
  case atStart => exact ⟨i, n, [], rfl, rfl, hi, hn, Lib.hid hL.symm, Lib.hid ⟨Seg.nil _ _ _, (fun x (hx : (Value.slice none 0 0).ownBlock = some x) => by cases hx), Below.refl _ _⟩⟩
  case round =>
    obtain ⟨i', n', acc, rfl, rfl, hin, hn', HA, HS⟩ := hrel
    clear hL
    by_cases h1 : n' = i' + 1
    · have he : acc = L := by have := HA.out; rw [turnsP_end (by omega), List.append_nil] at this; exact this
      have hee : ((i' : Int) == (n' : Int) - 1) = true := by simp; omega
      have HLC : Hid (∀ V, Calls Tryd.prog 47 #[.int .i64 i', .int .i64 n'] V fun en w' => en = .returned (.bool true) ∧ V = w') := Lib.hid fun V => by
        have h5 := last_calls (i' : Int) (n' : Int) V (by omega) (by omega)
        rw [hee] at h5
        exact h5
      clear hee h1
      go_wp2_with (first
        | (go_at_call 47; refine (HLC.out _).mono ?_; rintro e w' ⟨rfl, rfl⟩)
        | fail)
      go_ret
      rw [← he]
      exact ⟨_, rfl, HS.out⟩
    · have hn2 : 2 ≤ n' := by omega
      have hlt1 : i' + 1 < n' := by omega
      have hne : ((i' : Int) == (n' : Int) - 1) = false := by simp; omega
      have h3 := half_lt hn2
      have h4 := half_pos n'
      obtain ⟨k, hk⟩ : ∃ k, k = half n' := ⟨_, rfl⟩
      rw [← hk] at h3 h4
      have HK := Lib.hid hk
      have hn1000 : n' ≤ 1000000000000 := by omega
      have hb1 : (n' : Int) ≤ 1000000 := by omega
      have hb2 : (k : Int) ≤ 1000000 := by omega
      have hb3 : (i' : Int) ≤ 1000000 := by omega
      have hacc : acc.length < 64 := by
        have h5 := congrArg List.length HA.out
        rw [List.length_append] at h5
        rcases Nat.lt_or_ge i' (half n') with h6 | h6
        · rw [turnsP_left hlt1 h6] at h5; simp at h5; omega
        · rw [turnsP_right hlt1 (by omega)] at h5; simp at h5; omega
      obtain ⟨z0i, z0, hi0, hz0, hz1, hz2, hz3⟩ := boolInfo
      have HI0 := Lib.hid hi0
      have HZ0 := Lib.hid hz0
      clear hi0 hz0
      by_cases hik : i' < k
      case' pos =>
        have hik2 : (i' : Int) < (k : Int) := by omega
        have HA2 : Hid ((acc ++ [true]) ++ turnsP i' k = L) := Lib.hid (by rw [← HA.out, turnsP_left hlt1 (by rw [← hk]; exact hik), ← hk]; simp)
        obtain ⟨lb, hlb⟩ : ∃ lb, lb = true := ⟨_, rfl⟩
        obtain ⟨i2, hi2⟩ : ∃ i2, i2 = i' := ⟨_, rfl⟩
        obtain ⟨n2, hn2'⟩ : ∃ n2, n2 = k := ⟨_, rfl⟩
        have HG : Hid (i2 < n2 ∧ n2 < n') := Lib.hid (by omega)
      case' neg =>
        have hik2 : ¬ (i' : Int) < (k : Int) := by omega
        have HA2 : Hid ((acc ++ [false]) ++ turnsP (i' - k) (n' - k) = L) := Lib.hid (by rw [← HA.out, turnsP_right hlt1 (by rw [← hk]; exact hik), ← hk]; simp)
        obtain ⟨lb, hlb⟩ : ∃ lb, lb = false := ⟨_, rfl⟩
        obtain ⟨i2, hi2⟩ : ∃ i2, i2 = i' - k := ⟨_, rfl⟩
        obtain ⟨n2, hn2'⟩ : ∃ n2, n2 = n' - k := ⟨_, rfl⟩
        have hm1 : (i' : Int) - (k : Int) = (i2 : Int) := by omega
        have hm2 : (n' : Int) - (k : Int) = (n2 : Int) := by omega
        have hm3 : (i2 : Int) ≤ 1000000 := by omega
        have hm4 : (n2 : Int) ≤ 1000000 := by omega
        have HG : Hid (i2 < n2 ∧ n2 < n') := Lib.hid (by omega)
      all_goals
        rw [← hi2, ← hn2'] at HA2
        rw [← hlb] at HA2
        have HLB := Lib.hid hlb
        have HI2 := Lib.hid (And.intro hi2 hn2')
        clear hk hik h3 h4 HA hlb hi2 hn2' h1 hin hlt1
        go_wp2_with (first
          | (go_at_call 47; refine (last_calls (i' : Int) (n' : Int) _ (by omega) (by omega)).mono ?_; rw [hne]; rintro e w' ⟨rfl, rfl⟩)
          | (go_at_call 61; refine (half_calls n' _ hn2 hn1000).mono ?_; rw [← HK.out]; rintro e w' ⟨rfl, rfl⟩)
          | ((with_reducible refine at_op 31 ?_); refine wpList_append_seg (o := ⟨some 31, _, _, _, _, _⟩) _ rfl (.tmp 28) (.tmp 30) 88 rfl 4 z0i z0 1 1 Tryd.underlying88 HI0.out HZ0.out hz1 hz3 hz2 (by decide) u7 acc.length (acc.map Value.bool) rfl (HS.out.1.alloc _) ⟨wr.heap.size, 0, none⟩ 1 1 [.bool _] rfl rfl (World.news_of_block (heap_alloc_new _ _)) (by simp [Value.oneCell']) (by decide) (by unfold maxLen; omega) (by omega) _ rfl ?_;
             intro g off cp w4 hown hgrow hat hlt)
          | fail)
        have hms : ((n2 : Int)).toNat < ((n' : Int)).toNat := by have := HG.out.2; omega
        refine ⟨⟨i2, n2, acc ++ [lb], by rw [HI2.out.1], by rw [HI2.out.2], HG.out.1, by have := HG.out.2; omega, HA2, Lib.hid ⟨?_, fun x hx => ?_, ?_⟩⟩, by first | exact hms | (rw [HI2.out.2] at hms; exact hms)⟩
        · rw [List.length_append, List.map_append, HLB.out]; exact hown
        · have e : g = x := by simpa [Value.ownBlock] using hx
          rw [← e]
          rcases hat with h | h
          · exact HS.out.2.1 g h
          · rw [h]; exact Nat.le_trans HS.out.2.2.size (by simp)
        · exact (HS.out.2.2.alloc HS.out.2.2.size _).trans (below_own hgrow HS.out.2.1 (Nat.le_trans HS.out.2.2.size (by simp)))

set_option maxRecDepth 100000 in
set_option maxHeartbeats 1000000 in
/-- Index of false among bools. -/
theorem indexB_calls (v : Value) (T : List Bool) (w : World) (hs : Seg w 4 1 v T.length (T.map Value.bool)) (hlen : T.length ≤ 1000) :
    Calls Tryd.prog 80 #[v, .bool false] w fun en w' => (∃ k : Int, en = .returned (.int .i64 k) ∧ (0 ≤ k ↔ allL T = false)) ∧ w = w' := by
  obtain ⟨sa, sc, rfl, hs1, hs2⟩ := hs.slice
  obtain ⟨n, hn⟩ : ∃ n, n = T.length := ⟨_, rfl⟩
  have HC0 : Hid (∀ (i : Nat) b, T[i]? = some b → ∃ g o, sa = some ⟨g, o, none⟩ ∧ w.cell? ⟨g, o + i, none⟩ = some (.bool b)) := Lib.hid fun i b hb => by
    have hi := (List.getElem?_eq_some_iff.1 hb).1
    obtain ⟨g, o, c', hv, hg, _, _, hcell⟩ := hs.cells (by omega)
    simp only [Value.slice.injEq] at hv
    exact ⟨g, o, hv.1, hcell i _ (by rw [List.getElem?_map, hb]; rfl)⟩
  have HN := Lib.hid hn
  have hsc : (n : Int) ≤ 1000 := by omega
  have hs1' : (n : Int) ≤ (sc : Int) := by omega
  rw [← hn]
  clear hs hs1 hs2 hlen hn
  go_enter Tryd.func80, Tryd.ntmps80
  go_wp2_with fail
  go_loopw [8] (fun x wr => ∃ i : Nat, x = .int .i64 i ∧ i ≤ n ∧ Hid (∀ (j : Nat) b, j < i → T[j]? = some b → b = true) ∧ wr = w) (fun x _ => n - (intOf x).toNat)
  case atStart => exact ⟨0, rfl, Nat.zero_le _, Lib.hid (fun j b hj => absurd hj (by omega)), rfl⟩
  case round =>
    obtain ⟨i, rfl, hin, HI, rfl⟩ := hrel
    by_cases h : i < n
    · have h1 : (i : Int) < (n : Int) := by omega
      obtain ⟨b, hb⟩ : ∃ b, T[i]? = some b := ⟨_, List.getElem?_eq_getElem (by have := HN.out; omega)⟩
      obtain ⟨g, o, rfl, hcell⟩ := HC0.out i b hb
      have HB := Lib.hid hb
      clear hb
      cases b
      · go_wp2_with fail
        go_ret
        refine ⟨⟨(i : Int), rfl, ⟨fun _ => ?_, fun _ => by omega⟩⟩, rfl⟩
        have hm := List.mem_of_getElem? HB.out
        have : ¬ (∀ x ∈ T, (x == true) = true) := fun e => by have := e false hm; simp at this
        unfold allL
        rw [← Bool.not_eq_true, List.all_eq_true]
        exact this
      · go_wp2_with fail
        refine ⟨⟨i + 1, by rw [Int.natCast_add]; rfl, by omega, Lib.hid fun j b hj hb => ?_, by first | rfl | trivial⟩, ?_⟩
        · rcases Nat.lt_or_ge j i with h2 | h2
          · exact HI.out j b h2 hb
          · obtain rfl : j = i := by omega
            have := HB.out
            rw [this] at hb
            simpa using hb.symm
        · show n - ((i : Int) + 1).toNat < n - ((i : Int)).toNat
          omega
    · obtain rfl : i = n := by omega
      have h1 : ¬ (i : Int) < (i : Int) := by omega
      go_wp2_with fail
      go_ret
      refine ⟨⟨-1, rfl, ⟨fun h => absurd h (by omega), fun h => ?_⟩⟩, rfl⟩
      have : allL T = true := by
        unfold allL
        rw [List.all_eq_true]
        intro x hx
        obtain ⟨j, hj⟩ := List.getElem?_of_mem hx
        have hl := (List.getElem?_eq_some_iff.1 hj).1
        rw [HI.out j x (by have := HN.out; omega) hj]
        rfl
      rw [this] at h
      cases h

set_option maxHeartbeats 400000 in
theorem allLeft_calls (v : Value) (T : List Bool) (w : World) (hs : Seg w 4 1 v T.length (T.map Value.bool)) (hlen : T.length ≤ 1000) :
    Calls Tryd.prog 48 #[v] w fun en w' => en = .returned (.bool (allL T)) ∧ w = w' := by
  obtain ⟨b, hb⟩ : ∃ b, b = allL T := ⟨_, rfl⟩
  have H1 : Hid (Calls Tryd.prog 68 #[v, .bool false] w fun en w' => en = .returned (.bool (!b)) ∧ w = w') := Lib.hid (by
    have hi := indexB_calls v T w hs hlen
    rw [← hb] at hi
    have HI := Lib.hid hi
    clear hs hlen hb hi
    cases b
    · go_enter Tryd.func68, Tryd.ntmps68
      go_wp2_with fail
      refine HI.out.mono ?_
      rintro en w' ⟨⟨k, rfl, hk⟩, rfl⟩
      have h1 : k ≥ 0 := hk.2 (by first | rfl | trivial)
      clear hk
      go_wp2_with fail
      go_ret
      exact ⟨by first | rfl | (have h2 : decide (0 ≤ k) = true := (by simpa using h1); simp [h2]), rfl⟩
    · go_enter Tryd.func68, Tryd.ntmps68
      go_wp2_with fail
      refine HI.out.mono ?_
      rintro en w' ⟨⟨k, rfl, hk⟩, rfl⟩
      have h1 : ¬ k ≥ 0 := fun h => by have := hk.1 h; cases this
      clear hk
      go_wp2_with fail
      go_ret
      exact ⟨by first | rfl | (have h2 : decide (0 ≤ k) = false := (by simpa using h1); simp [h2]), rfl⟩)
  clear hs hlen
  rw [← hb]
  clear hb
  cases b
  all_goals
    go_enter Tryd.func48, Tryd.ntmps48
    go_wp2_with fail
    refine H1.out.mono ?_
    rintro en w' ⟨rfl, rfl⟩
    go_wp2_with fail
    go_ret
    exact ⟨rfl, rfl⟩
end Go.Proofs.YthbncejbcegmgaaDoor.clash
end

section
/- clash: nodes. -/
namespace Go.Proofs.YthbncejbcegmgaaDoor.clash
open Go Go.RowKit Go.Proofs.YthbncejbcegmgaaDoor.dig

/-- What has come behind i sums, from within out: T: left?, S: the sums. -/
def comeN (T : Nat → Bool) (c : List UInt8) (S : Nat → List UInt8) : Nat → List UInt8
  | 0 => c
  | i + 1 => sum (1 :: (if T i then comeN T c S i ++ S i else S i ++ comeN T c S i))
def textN (T : Nat → Bool) (c : List UInt8) (S : Nat → List UInt8) (i : Nat) : ByteArray := if T i then underS (comeN T c S i) (S i) else underS (S i) (comeN T c S i)
theorem comeN_succ (T : Nat → Bool) (c : List UInt8) (S : Nat → List UInt8) (i : Nat) : comeN T c S (i + 1) = sum (textN T c S i).data.toList := by
  unfold textN
  rw [comeN]
  split <;> simp [underS]
theorem underS_size {a b : List UInt8} (ha : a.length = 32) (hb : b.length = 32) : (underS a b).size = 65 := by
  simp [underS, ByteArray.size, ha, hb]
theorem comeN_len {T : Nat → Bool} {c : List UInt8} {S : Nat → List UInt8} (hc : c.length = 32) (i : Nat) : (comeN T c S i).length = 32 := by
  cases i with
  | zero => exact hc
  | succ i => rw [comeN]; exact sum_length _

/-- The texts when i of them are there. -/
def textsC (m i : Nat) (X : Nat → ByteArray) : Array Value := ((List.range m).map fun p => Value.string (if m - 1 - p < i then X (m - 1 - p) else ByteArray.empty)).toArray
theorem textsC_get {m i : Nat} {X : Nat → ByteArray} {p : Nat} (hp : p < m) : (textsC m i X)[p]? = some (.string (if m - 1 - p < i then X (m - 1 - p) else ByteArray.empty)) := by
  unfold textsC
  simp [hp]
theorem textsC_size (m i : Nat) (X : Nat → ByteArray) : (textsC m i X).size = m := by simp [textsC]
theorem textsC_set {m i : Nat} {X : Nat → ByteArray} (hi : i < m) : (textsC m i X).setIfInBounds (m - 1 - i) (.string (X i)) = textsC m (i + 1) X := by
  apply Array.ext_getElem?
  intro p
  rw [Array.getElem?_setIfInBounds]
  by_cases hp : p < m
  · rw [textsC_get hp, textsC_get hp, textsC_size]
    by_cases h1 : m - 1 - i = p
    · rw [if_pos h1, if_pos (by omega), if_pos (by omega), show m - 1 - p = i by omega]
    · rw [if_neg h1]
      by_cases h2 : m - 1 - p < i
      · rw [if_pos h2, if_pos (by omega)]
      · rw [if_neg h2, if_neg (by omega)]
  · rw [if_neg (by omega), Array.getElem?_eq_none (by rw [textsC_size]; omega), Array.getElem?_eq_none (by rw [textsC_size]; omega)]
theorem textsC_zero (m : Nat) (X : Nat → ByteArray) : madeCells (Value.string ByteArray.empty).cells m = textsC m 0 X := by
  apply Array.toList_inj.1
  show (madeCells #[Value.string ByteArray.empty] m).toList = _
  rw [toList_madeCells_one]
  unfold textsC
  apply List.ext_getElem?
  intro j
  by_cases hj : j < m
  · simp [hj]
  · simp [hj]

theorem strZero : ∃ i, Tryd.prog.info? 9 = some i ∧ i.zero = some (.string ByteArray.empty) ∧ i.size = 1 ∧ i.bytes = 16 := by
  have h2 : (Tryd.prog.info? 9).map (fun i => (i.zero, i.size, i.bytes)) = some (some (.string ByteArray.empty), 1, 16) := by kernel_rfl
  obtain ⟨i, hi, e⟩ := Option.map_eq_some_iff.1 h2
  simp only [Prod.mk.injEq] at e
  exact ⟨i, hi, e.1, e.2.1, e.2.2⟩

theorem sums_flat (l : List (List UInt8)) : (List.range' 0 l.length).flatMap (fun i => (l.getD i []).map byteV) = l.flatMap fun x => x.map byteV := by
  have h : ∀ (l : List (List UInt8)) (q : List (List UInt8)), (List.range' q.length l.length).flatMap (fun i => ((q ++ l).getD i []).map byteV) = l.flatMap fun x => x.map byteV := by
    intro l
    induction l with
    | nil => intro q; rfl
    | cons x l ih =>
      intro q
      rw [List.length_cons, List.range'_succ, List.flatMap_cons, List.flatMap_cons]
      have h1 := ih (q ++ [x])
      rw [List.length_append, List.append_assoc] at h1
      simp only [List.length_singleton, List.singleton_append] at h1
      rw [h1]
      simp
  exact h l []

/-- While the texts are made: i of them are there. -/
structure NodS (w : World) (cb tg m i : Nat) (c : List UInt8) (X : Nat → ByteArray) (wr : World) : Prop where
  rk : Rk wr
  box : Has wr cb 33 (cellsOf c)
  txt : Has wr tg 9 (textsC m i X)
  lo : w.heap.size ≤ cb ∧ w.heap.size ≤ tg
  bel : Below w.heap.size w wr
theorem NodS.more {w : World} {cb tg m i : Nat} {c : List UInt8} {X : Nat → ByteArray} {wr w2 : World} (h : NodS w cb tg m i c X wr) (b : Below wr.heap.size wr w2) : NodS w cb tg m i c X w2 :=
  ⟨h.rk.below b, h.box.below b h.box.lt, h.txt.below b h.txt.lt, h.lo, h.bel.trans (b.mono h.bel.size)⟩
theorem NodS.ne {w : World} {cb tg m i : Nat} {c : List UInt8} {X : Nat → ByteArray} {wr : World} (h : NodS w cb tg m i c X wr) : cb ≠ tg := fun e => by
  have := (h.box.uniq (e ▸ h.txt)).2
  revert this
  decide

def Stay (p : Prop) := p
theorem stay {p : Prop} (h : Stay p) : p := h

/-- Texts were answered, in a block of their own. -/
def NodesPost (w : World) (m : Nat) (X : Nat → ByteArray) (en : Ending) (w' : World) : Prop :=
  ∃ tg, en = .returned (.slice (some ⟨tg, 0, none⟩) m m) ∧ Has w' tg 9 (textsC m m X) ∧ w.heap.size ≤ tg ∧ Below w.heap.size w w'

set_option maxRecDepth 100000 in
set_option maxHeartbeats 4000000 in
theorem nodes_calls (tv sv : Value) (turns : List Bool) (SL : List (List UInt8)) (c : List UInt8) (w : World) (hR : Rk w) (hc : c.length = 32) (hlen : turns.length = SL.length) (hm64 : SL.length ≤ 64)
    (ht : Seg w 4 1 tv turns.length (turns.map Value.bool)) (hs : Seg w 33 32 sv SL.length (sumsC SL)) (hSL : ∀ x ∈ SL, x.length = 32) :
    Calls Tryd.prog 45 #[tv, .agg (cellsOf c), sv] w (NodesPost w SL.length (textN (fun i => turns.getD (SL.length - 1 - i) false) c (fun i => SL.getD i []))) := by
  obtain ⟨m, hm⟩ : ∃ m, m = SL.length := ⟨_, rfl⟩
  obtain ⟨T, hT⟩ : ∃ T : Nat → Bool, T = fun i => turns.getD (m - 1 - i) false := ⟨_, rfl⟩
  obtain ⟨S, hS⟩ : ∃ S : Nat → List UInt8, S = fun i => SL.getD i [] := ⟨_, rfl⟩
  obtain ⟨X, hX⟩ : ∃ X, X = textN T c S := ⟨_, rfl⟩
  have hpost : NodesPost w SL.length (textN (fun i => turns.getD (SL.length - 1 - i) false) c (fun i => SL.getD i [])) = NodesPost w m X := by rw [hX, hT, hS, hm]
  rw [hpost]
  have htm : turns.length = m := by omega
  obtain ⟨ta, tc, htv, ht1, ht2⟩ := ht.slice
  obtain ⟨sa, sc, hsv, hs1, hs2⟩ := hs.slice
  rw [htm] at htv ht1
  rw [← hm] at hsv hs1 hm64
  subst htv hsv
  -- what is read of the turns, and of the sums
  have HT0 : Hid (∀ i, i < m → ∃ g o, ta = some ⟨g, o, none⟩ ∧ g < w.heap.size ∧ w.cell? ⟨g, o + i, none⟩ = some (.bool (T (m - 1 - i)))) := Lib.hid fun i hi => by
    obtain ⟨g, o, c', hv, hg, _, _, hcell⟩ := ht.cells (by omega)
    simp only [Value.slice.injEq] at hv
    refine ⟨g, o, hv.1, hg, hcell i _ ?_⟩
    rw [hT, List.getElem?_map]
    have hi' : i < turns.length := by omega
    simp only []
    rw [show m - 1 - (m - 1 - i) = i by omega, List.getD_eq_getElem?_getD, List.getElem?_eq_getElem hi']
    rfl
  have HS0 : Hid (∀ i, i < m → ∃ g o, sa = some ⟨g, o, none⟩ ∧ g < w.heap.size ∧ w.rangeAt g (o + i * 32) ((S i).map byteV) ∧ (S i).length = 32) := Lib.hid fun i hi => by
    obtain ⟨g, o, c', hv, hg, _, _, hcell⟩ := hs.cells (by omega)
    simp only [Value.slice.injEq] at hv
    have hi' : i < SL.length := by omega
    have hSi : S i = SL[i] := by rw [hS]; simp only []; rw [List.getD_eq_getElem?_getD, List.getElem?_eq_getElem hi']; rfl
    have hl : (S i).length = 32 := by rw [hSi]; exact hSL _ (List.getElem_mem hi')
    refine ⟨g, o, hv.1, hg, fun j u hj => ?_, hl⟩
    rw [Nat.add_assoc]
    refine hcell _ u ?_
    have hj32 : j < 32 := by have := (List.getElem?_eq_some_iff.1 hj).1; simp at this; omega
    have e := flat_get (g := fun i => (S i).map byteV) (a := 0) (k := m) (w := 32) (fun i _ h2 => by
      rw [List.length_map, hS]; simp only []; rw [List.getD_eq_getElem?_getD, List.getElem?_eq_getElem (by omega : i < SL.length)]; exact hSL _ (List.getElem_mem _)) hi hj32
    rw [Nat.zero_add] at e
    have e2 : flat (fun i => (S i).map byteV) 0 m = sumsC SL := by
      unfold flat sumsC
      rw [hm, hS]
      exact sums_flat SL
    rw [← e2, e]
    exact hj
  have HC := Lib.hid hc
  have HR0 := Lib.hid hR
  have HM := Lib.hid hm64
  have HX := Lib.hid hX
  have HTlen := Lib.hid htm
  clear hc hR hX hT hS hs ht hSL hlen hm htm hpost ht2 hs2
  have hm64' : (m : Int) ≤ 64 := by omega
  have hmk : ∀ O : Obj, (Instr.makeSlice 22 (.int .i64 (m : Int)) (.int .i64 (m : Int))).run Tryd.prog (w.alloc O) = .ok (.slice (some ⟨w.heap.size + 1, 0, none⟩) m m) ((w.alloc O).alloc (.cells (textsC m 0 X) 9)) := by
    intro O
    obtain ⟨i0, hi0, hz0, hz1, hz2⟩ := strZero
    have h := run_make (P := Tryd.prog) (w.alloc O) 22 9 i0 (.string ByteArray.empty) Tryd.underlying22 hi0 hz0 .i64 .i64 (m : Int) (m : Int) (by omega) (by omega) (by rw [hz2]; omega) (by omega)
    rw [Int.toNat_natCast, hz1, Nat.mul_one, textsC_zero m X] at h
    rw [h]
    simp
  go_enter Tryd.func45, Tryd.ntmps45
  go_wp2_with fail
  clear hmk
  have S0 : NodS w w.heap.size (w.heap.size + 1) m 0 (comeN T c S 0) X ((w.alloc (Obj.cells (cellsOf c) 33)).alloc (Obj.cells (textsC m 0 X) 9)) :=
    ⟨HR0.out.below (((Below.refl _ _).alloc (Nat.le_refl _) _).alloc (by simp) _), Has.alloc (made_at _ _ rfl) _, made_at _ _ (by simp), ⟨Nat.le_refl _, by omega⟩, ((Below.refl _ _).alloc (Nat.le_refl _) _).alloc (by simp) _⟩
  have S1 := Lib.hid S0
  clear S0
  obtain ⟨cb, hcb⟩ : ∃ cb, cb = w.heap.size := ⟨_, rfl⟩
  obtain ⟨tg, htg⟩ : ∃ tg, tg = w.heap.size + 1 := ⟨_, rfl⟩
  rw [← hcb] at S1
  rw [hcb] at S1
  rw [← htg] at S1
  go_loopw [16] (fun x wr => ∃ i : Nat, x = .int .i64 i ∧ i ≤ m ∧ Hid (NodS w w.heap.size (w.heap.size + 1) m i (comeN T c S i) X wr)) (fun x _ => m - (intOf x).toNat)
  case atStart => exact ⟨0, rfl, Nat.zero_le _, htg ▸ S1⟩
  case round =>
    clear S1 hcb htg
    obtain ⟨i, rfl, him, NS⟩ := hrel
    by_cases h : i < m
    · obtain ⟨p, hp⟩ : ∃ p, p = m - 1 - i := ⟨_, rfl⟩
      have hpm : p < m := by omega
      obtain ⟨tb, to, rfl, htb, htc⟩ := HT0.out p hpm
      rw [show m - 1 - p = i by omega] at htc
      obtain ⟨sb, so, rfl, hsb, hsc, hsl⟩ := HS0.out i h
      have h1 : (i : Int) < (m : Int) := by omega
      have h2 : (m : Int) - 1 - (i : Int) = (p : Int) := by omega
      have h3 : (p : Int) < (m : Int) := by omega
      have hb2 : (p : Int) ≤ 64 := by omega
      obtain ⟨si, hsi⟩ : ∃ si, si = S i := ⟨_, rfl⟩
      obtain ⟨ci, hci⟩ : ∃ ci, ci = comeN T c S i := ⟨_, rfl⟩
      have hcl : ci.length = 32 := hci ▸ comeN_len HC.out i
      rw [← hsi] at hsc hsl
      have HXi : Hid (X i = if T i then underS ci si else underS si ci) := Lib.hid (by rw [HX.out, hci, hsi]; rfl)
      have HNX : Hid (comeN T c S (i + 1) = sum (X i).data.toList) := Lib.hid (by rw [HX.out]; exact comeN_succ T c S i)
      have r1 : wr.rangeAt sb (so + i * 32) (si.map byteV) := fun j v hj => by
        rw [← hsc j v hj]
        unfold World.cell?
        rw [NS.out.bel.block sb hsb]
      have NB : Hid (Has wr w.heap.size 33 (cellsOf ci)) := Lib.hid (hci ▸ NS.out.box)
      have HL := Lib.hid (And.intro hsl hcl)
      have htc2 : ∀ w', Below w.heap.size w w' → w'.cell? ⟨tb, to + p, none⟩ = some (.bool (T i)) := fun w' b => by
        rw [← htc]
        unfold World.cell?
        rw [b.block tb htb]
      have HTC := Lib.hid htc2
      have HP := Lib.hid hp
      clear htc htc2 hsc hsi hci hsl hcl hp
      go_wp2_with (first
        | ((with_reducible refine at_op 20 ?_); refine wpList_load_mid (op := ⟨some 20, _, _, _, _, _⟩) rfl 33 _ rfl sb (so + i * 32) rfl (si.map byteV) _ r1 Tryd.underlying33 rfl (by rw [List.length_map, HL.out.1]; kernel_rfl) ?_)
        | ((with_reducible refine at_store (.tmp 9) ?_); refine wpList_store_arr (o := ⟨none, _, _, _, _, _⟩) rfl 33 _ _ rfl wr.heap.size si (List.replicate 32 0) rfl rfl _ (made_at _ _ rfl) 32 (by kernel_rfl) (by simp) HL.out.1 ?_; intro W1 HW1 TW1; refine stay ?_)
        | fail)
      unfold Stay
      have A1 : Below wr.heap.size wr W1 := TW1.below (B := wr.heap.size) (by simp) (fun j hj e => by omega) |> fun b => ((Below.refl wr.heap.size wr).alloc (Nat.le_refl _) _).trans b
      have K1 : Hid (NodS w w.heap.size (w.heap.size + 1) m i (comeN T c S i) X W1 ∧ Has W1 w.heap.size 33 (cellsOf ci) ∧ Has W1 wr.heap.size 33 (cellsOf si) ∧ Below w.heap.size w W1) :=
        Lib.hid ⟨NS.out.more A1, NB.out.below A1 NB.out.lt, HW1, NS.out.bel.trans (A1.mono NS.out.bel.size)⟩
      have c1 := HTC.out W1 K1.out.2.2.2
      clear A1 HW1 TW1 NB NS r1
      have hfin : ∀ (u : ByteArray) (W2 : World), u = X i → NodS w w.heap.size (w.heap.size + 1) m i (comeN T c S i) X W2 → ∃ q, W2.cell? ⟨w.heap.size + 1, p, none⟩ = some q ∧ W2.frozen? ⟨w.heap.size + 1, p, none⟩ = false ∧
          NodS w w.heap.size (w.heap.size + 1) m (i + 1) (comeN T c S i) X (W2.setCell ⟨w.heap.size + 1, p, none⟩ (.string u)) := fun u W2 hu K => by
        refine ⟨_, (K.txt.cell p).trans (textsC_get hpm), K.txt.free _, ?_⟩
        have b : Below w.heap.size w (W2.setCell ⟨w.heap.size + 1, p, none⟩ (.string u)) :=
          (Turn.put (Turn.of_below (F := fun k => w.heap.size ≤ k) K.bel (fun j _ h => h)) (b := w.heap.size + 1) (fun _ => by omega) p _).below (Nat.le_refl _) (fun j hj => by omega)
        have k1 := K.txt.put p (.string u)
        rw [hu, HP.out, textsC_set h, ← HP.out, ← hu] at k1
        exact ⟨HR0.out.below b, K.box.far (p := ⟨w.heap.size + 1, p, none⟩) (by simp) _, k1, K.lo, b⟩
      have HF := Lib.hid hfin
      clear hfin
      rcases hTi : T i with _ | _
      case' true =>
        rw [hTi] at c1
        have HU : Hid (underS ci si = X i) := Lib.hid (by rw [HXi.out, hTi]; rfl)
        have hsz : (underS ci si).size < 1000000000000000000 := by rw [underS_size HL.out.2 HL.out.1]; omega
        clear hTi HXi
      case' false =>
        rw [hTi] at c1
        have HU : Hid (underS si ci = X i) := Lib.hid (by rw [HXi.out, hTi]; rfl)
        have hsz : (underS si ci).size < 1000000000000000000 := by rw [underS_size HL.out.1 HL.out.2]; omega
        clear hTi HXi
      all_goals
        have HSZ := Lib.hid hsz
        clear hsz
        go_wp2_with (first
          | ((with_reducible refine at_op 32 ?_); refine wpList_load_arr (o := ⟨some 32, _, _, _, _, _⟩) rfl 33 _ rfl w.heap.size rfl 33 ci 5 32 K1.out.2.1 Tryd.underlying33 (by kernel_rfl) HL.out.2 ?_)
          | ((with_reducible refine at_op 33 ?_); refine wpList_load_arr (o := ⟨some 33, _, _, _, _, _⟩) rfl 33 _ rfl wr.heap.size rfl 33 si 5 32 K1.out.2.2.1 Tryd.underlying33 (by kernel_rfl) HL.out.1 ?_)
          | ((with_reducible refine at_op 38 ?_); refine wpList_load_arr (o := ⟨some 38, _, _, _, _, _⟩) rfl 33 _ rfl wr.heap.size rfl 33 si 5 32 K1.out.2.2.1 Tryd.underlying33 (by kernel_rfl) HL.out.1 ?_)
          | ((with_reducible refine at_op 39 ?_); refine wpList_load_arr (o := ⟨some 39, _, _, _, _, _⟩) rfl 33 _ rfl w.heap.size rfl 33 ci 5 32 K1.out.2.1 Tryd.underlying33 (by kernel_rfl) HL.out.2 ?_)
          | fail)
        first
          | refine (under_calls ci si W1 HL.out.2 HL.out.1).mono ?_
          | refine (under_calls si ci W1 HL.out.1 HL.out.2).mono ?_
        rintro en w2 ⟨rfl, b2⟩
        have K2 : Hid (NodS w w.heap.size (w.heap.size + 1) m i (comeN T c S i) X w2) := Lib.hid (K1.out.1.more b2)
        obtain ⟨q, cq, fq, hq⟩ := HF.out _ w2 HU.out K2.out
        have K3 := Lib.hid hq
        clear K2 K1 b2 hq c1
        go_wp2_with fail
        rw [HU.out]
        rw [HU.out] at HSZ
        refine callsName (fun W3 hW3 => ?_)
        have K4 : Hid (NodS w w.heap.size (w.heap.size + 1) m (i + 1) (comeN T c S i) X W3) := Lib.hid (by rw [← hW3, ← HU.out]; exact K3.out)
        clear hW3 K3 cq fq
        refine (of_calls (X i) W3 K4.out.rk HSZ.out).mono ?_
        rintro en w4 ⟨rfl, b4⟩
        have K5 : Hid (NodS w w.heap.size (w.heap.size + 1) m (i + 1) (comeN T c S i) X w4) := Lib.hid (K4.out.more b4)
        rw [← HNX.out]
        clear K4 b4
        obtain ⟨cn, hcn⟩ : ∃ cn, cn = comeN T c S (i + 1) := ⟨_, rfl⟩
        obtain ⟨co, hco⟩ : ∃ co, co = comeN T c S i := ⟨_, rfl⟩
        rw [← hcn]
        have HN := Lib.hid hcn
        rw [← hco] at K5
        have HLN : Hid (cn.length = 32 ∧ co.length = 32) := Lib.hid ⟨hcn ▸ comeN_len HC.out _, hco ▸ comeN_len HC.out _⟩
        clear hcn hco
        go_wp2_with (first
          | ((with_reducible refine at_store (.tmp 4) ?_); refine wpList_store_arr (o := ⟨none, _, _, _, _, _⟩) rfl 33 _ _ rfl w.heap.size cn co rfl rfl _ K5.out.box 32 (by kernel_rfl) HLN.out.2 HLN.out.1 ?_; intro W6 HW6 TW6)
          | fail)
        have b : Below w.heap.size w W6 := K5.out.bel.trans (TW6.below K5.out.bel.size (fun j hj e => by omega))
        refine ⟨⟨i + 1, by rw [Int.natCast_add]; rfl, by omega, Lib.hid ⟨HR0.out.below b, HN.out ▸ HW6, K5.out.txt.turn TW6 (by omega), K5.out.lo, b⟩⟩, ?_⟩
        show m - ((i : Int) + 1).toNat < m - ((i : Int)).toNat
        omega
    · obtain rfl : i = m := by omega
      have h1 : ¬ (i : Int) < (i : Int) := by omega
      go_wp2_with fail
      go_ret
      exact ⟨_, rfl, NS.out.txt, NS.out.lo.2, NS.out.bel⟩
end Go.Proofs.YthbncejbcegmgaaDoor.clash
end

section
/- clash: Way, where it answers. -/
namespace Go.Proofs.YthbncejbcegmgaaDoor.clash
open Go Go.RowKit Go.Proofs.YthbncejbcegmgaaDoor.dig

/-- A leaf's text. -/
def leafT (s : ByteArray) : ByteArray := (⟨#[0]⟩ : ByteArray) ++ s
theorem leafT_size (s : ByteArray) : (leafT s).size = s.size + 1 := by
  simp only [leafT, ByteArray.size_append]
  rw [show (⟨#[0]⟩ : ByteArray).size = 1 from rfl]
  omega

/-- The texts of a way. -/
def wayL (m : Nat) (X : Nat → ByteArray) (s : ByteArray) : List Value := (List.range m).map (fun p => Value.string (X (m - 1 - p))) ++ [.string (leafT s)]
theorem textsC_full (m : Nat) (X : Nat → ByteArray) : (textsC m m X).toList = (List.range m).map (fun p => Value.string (X (m - 1 - p))) := by
  unfold textsC
  apply List.map_congr_left
  intro p hp
  rw [List.mem_range] at hp
  rw [if_pos (by omega)]

/-- A way was answered, in new memory. -/
def WayPost (w : World) (m : Nat) (X : Nat → ByteArray) (s : ByteArray) (en : Ending) (w' : World) : Prop :=
  ∃ v, en = .returned (.tuple #[v, .bool true]) ∧ Seg w' 9 1 v (m + 1) (wayL m X s) ∧ (∀ x, v.ownBlock = some x → w.heap.size ≤ x) ∧ Below w.heap.size w w'

set_option maxRecDepth 100000 in
set_option maxHeartbeats 2000000 in
theorem way_calls (s : ByteArray) (i n : Nat) (sv : Value) (SL : List (List UInt8)) (w : World) (hR : Rk w) (hin : i < n) (hn : n ≤ 1000000) (hss : s.size < 1000000000) (hlen : (turnsL i n).length = SL.length)
    (hs : Seg w 33 32 sv SL.length (sumsC SL)) (hSL : ∀ x ∈ SL, x.length = 32) :
    Calls Tryd.prog 21 #[.string s, .int .i64 i, .int .i64 n, sv] w (WayPost w SL.length (textN (fun k => (turnsL i n).getD (SL.length - 1 - k) false) (sum (leafT s).data.toList) (fun k => SL.getD k [])) s) := by
  obtain ⟨X, hX⟩ : ∃ X, X = textN (fun k => (turnsL i n).getD (SL.length - 1 - k) false) (sum (leafT s).data.toList) (fun k => SL.getD k []) := ⟨_, rfl⟩
  rw [← hX]
  have h64 : SL.length ≤ 64 := by rw [← hlen]; have := turnsL_le 20 n i (by omega); omega
  have HX := Lib.hid hX
  obtain ⟨m, hm⟩ : ∃ m, m = SL.length := ⟨_, rfl⟩
  rw [← hm] at hlen h64
  obtain ⟨sa, sc, hsv, hs1, hs2⟩ := hs.slice
  rw [← hm] at hsv
  subst hsv
  have HM := Lib.hid hm
  have HS := Lib.hid hs
  have HSL := Lib.hid hSL
  have HR := Lib.hid hR
  have HL := Lib.hid hlen
  rw [← hm]
  clear hX hm hs hSL hR hlen hs1 hs2
  have hmi : (m : Int) ≤ 64 := by omega
  have g1 : ¬ (i : Int) < 0 := by omega
  have g2 : ¬ (n : Int) ≤ (i : Int) := by omega
  have hni : (n : Int) ≤ 1000000 := by omega
  have hsz1 : (s.size : Int) < 1000000000 := by omega
  go_enter Tryd.func21, Tryd.ntmps21
  go_wp2_with fail
  refine (turns_calls i n w hin hn).mono ?_
  rintro en w1 ⟨tv, rfl, t1, tlo, b1⟩
  obtain ⟨ta, tc, htv, -, -⟩ := t1.slice
  rw [HL.out] at htv
  subst htv
  have K1 : Hid (Seg w1 4 1 (.slice ta m tc) (turnsL i n).length ((turnsL i n).map Value.bool) ∧ Seg w1 33 32 (.slice sa m sc) SL.length (sumsC SL) ∧ Rk w1 ∧ Below w.heap.size w w1) :=
    Lib.hid ⟨t1, HS.out.below b1 (fun x hx => HS.out.lt hx), HR.out.below b1, b1⟩
  clear t1 tlo b1 HS HR
  go_wp2_with fail
  rw [show (⟨#[0]⟩ : ByteArray) ++ s = leafT s from rfl]
  have HLT : Hid ((leafT s).size < 1000000000000000000) := Lib.hid (by rw [leafT_size]; omega)
  have HWL : Hid (wayL m X s = (textsC m m X).toList ++ [.string (leafT s)]) := Lib.hid (by rw [textsC_full]; rfl)
  obtain ⟨t, ht⟩ : ∃ t, t = leafT s := ⟨_, rfl⟩
  rw [← ht] at HLT HWL HX ⊢
  have HT := Lib.hid ht
  clear ht
  refine (of_calls t w1 K1.out.2.2.1 HLT.out).mono ?_
  rintro en w2 ⟨rfl, b2⟩
  have K2 : Hid (Seg w2 4 1 (.slice ta m tc) (turnsL i n).length ((turnsL i n).map Value.bool) ∧ Seg w2 33 32 (.slice sa m sc) SL.length (sumsC SL) ∧ Rk w2 ∧ Below w.heap.size w w2) :=
    Lib.hid ⟨K1.out.1.below b2 (fun x hx => K1.out.1.lt hx), K1.out.2.1.below b2 (fun x hx => K1.out.2.1.lt hx), K1.out.2.2.1.below b2, K1.out.2.2.2.trans (b2.mono K1.out.2.2.2.size)⟩
  clear K1 b2
  have HCL : Hid ((sum t.data.toList).length = 32) := Lib.hid (sum_length _)
  obtain ⟨c, hc⟩ : ∃ c, c = sum t.data.toList := ⟨_, rfl⟩
  rw [← hc] at HCL HX ⊢
  clear hc
  go_wp2_with fail
  refine (nodes_calls _ _ (turnsL i n) SL c w2 K2.out.2.2.1 HCL.out (HL.out.trans HM.out) (by rw [← HM.out]; exact h64) K2.out.1 K2.out.2.1 HSL.out).mono ?_
  rw [← HX.out, ← HM.out]
  rintro en w3 ⟨tg, rfl, h3, hlo, b3⟩
  have K3 : Hid (Seg w3 9 1 (.slice (some ⟨tg, 0, none⟩) m m) m (textsC m m X).toList ∧ w.heap.size ≤ tg ∧ Below w.heap.size w w3) :=
    Lib.hid ⟨Seg.of_has h3 (by rw [textsC_size, Nat.mul_one]) (by unfold maxLen; omega), Nat.le_trans K2.out.2.2.2.size hlo, K2.out.2.2.2.trans (b3.mono K2.out.2.2.2.size)⟩
  clear h3 hlo b3 K2
  obtain ⟨z0i, hi0, hz0, hz1, hz2⟩ := strZero
  have HI0 := Lib.hid hi0
  have HZ0 := Lib.hid hz0
  clear hi0 hz0
  go_wp2_with (first
    | ((with_reducible refine at_op 36 ?_); refine wpList_append_seg (o := ⟨some 36, _, _, _, _, _⟩) _ rfl (.tmp 33) (.tmp 35) 22 rfl 9 z0i (.string ByteArray.empty) 1 16 Tryd.underlying22 HI0.out HZ0.out hz1 hz2 rfl (by decide) (.slice (some ⟨tg, 0, none⟩) m m) m (textsC m m X).toList rfl (K3.out.1.alloc _) ⟨w3.heap.size, 0, none⟩ 1 1 [.string t] rfl rfl (World.news_of_block (heap_alloc_new _ _)) (by simp [Value.oneCell']) (by decide) (by unfold maxLen; omega) (by omega) _ rfl ?_;
       intro g off cp w4 hown hgrow hat hlt)
    | fail)
  go_ret2
  rw [← HWL.out] at hown
  refine ⟨_, rfl, hown, fun x hx => ?_, ?_⟩
  · have e : g = x := by simpa [Value.ownBlock] using hx
    rw [← e]
    rcases hat with h | h
    · have e : tg = g := by simpa [Value.ownBlock] using h
      rw [← e]; exact K3.out.2.1
    · rw [h]; exact Nat.le_trans K3.out.2.2.size (by simp)
  · exact (K3.out.2.2.alloc K3.out.2.2.size _).trans (below_own hgrow (fun x hx => by
      have e : tg = x := by simpa [Value.ownBlock] using hx
      rw [← e]; exact K3.out.2.1) (Nat.le_trans K3.out.2.2.size (by simp)))
end Go.Proofs.YthbncejbcegmgaaDoor.clash
end

section
/- Out of TreeJ: run_equal_sum, run_equal_same, turn_below, half_three, half_two, rt_three, path_three. -/
namespace Go.Proofs.YthbncejbcegmgaaDoor.dig
open Go Go.RowKit

theorem half_three : half 3 = 2 := by unfold half; decide +kernel
theorem half_two : half 2 = 1 := by unfold half; decide +kernel
theorem rt_three (f : Nat → List UInt8) : rtAll f 3 = nodeS (nodeS (f 0) (f 1)) (f 2) := by
  unfold rtAll
  rw [if_neg (by decide), rt_two f 0 (by decide), half_three, rt_two f 0 (by decide), half_two, rt_one, rt_one, rt_one]
theorem path_three (f : Nat → List UInt8) : path f 2 0 3 = [nodeS (f 0) (f 1)] := by
  rw [path, dif_pos (by decide), half_three, if_neg (by decide), show 3 - 2 = 1 from rfl, path, dif_neg (by decide), rt_two f 0 (by decide), half_two, rt_one, show 2 - 1 = 1 from rfl, rt_one]
  rfl

theorem run_equal_sum (xs ys : List UInt8) (hx : xs.length = 32) (hy : ys.length = 32) (w : World) : (Op.equalIn 10000 33 (.agg (cellsOf xs)) (.agg (cellsOf ys))).run Tryd.prog w = .ok (xs == ys) w := by
  have := run_equalIn_bytes (P := Tryd.prog) 9998 (t := 33) (e := 5) 32 Tryd.underlying33 Tryd.underlying5 (by kernel_rfl) xs ys hx hy w
  simpa using this
theorem run_equal_same (xs : List UInt8) (hx : xs.length = 32) (w : World) : (Op.equalIn 10000 33 (.agg (cellsOf xs)) (.agg (cellsOf xs))).run Tryd.prog w = .ok true w := by
  rw [run_equal_sum xs xs hx hx w]
  simp

/-- Below all that a turn reaches nothing turns. -/
theorem turn_below {F : Nat → Prop} {w w1 w' : World} {B : Nat} (b : Below B w w1) (t : Turn F w1 w') (hB : B ≤ w1.heap.size) (hF : ∀ k, F k → B ≤ k) : Below B w w' :=
  b.trans (t.below hB (fun j hj hf => by have := hF j hf; omega))
end Go.Proofs.YthbncejbcegmgaaDoor.dig
end

section
/- clash: rootOver. -/
namespace Go.Proofs.YthbncejbcegmgaaDoor.clash
open Go Go.RowKit Go.Proofs.YthbncejbcegmgaaDoor.dig

/-- What lasts while the root over some leaves is made. -/
structure OvS (w : World) (g off : Nat) (L : List ByteArray) (V : World) : Prop where
  rk : Rk V
  res : Has V w.heap.size 33 (cellsOf (List.replicate 32 0))
  lt : g < V.heap.size
  cells : ∀ i s, L[i]? = some s → V.cell? ⟨g, off + i, none⟩ = some (.string s)
  bel : Below w.heap.size w V
theorem OvS.below {w : World} {g off : Nat} {L : List ByteArray} {V V' : World} (h : OvS w g off L V) (b : Below V.heap.size V V') : OvS w g off L V' :=
  ⟨h.rk.below b, h.res.below b h.res.lt, Nat.lt_of_lt_of_le h.lt b.size, fun i s hs => by rw [← h.cells i s hs]; unfold World.cell?; rw [b.block g h.lt], h.bel.trans (b.mono h.bel.size)⟩

set_option maxRecDepth 100000 in
set_option maxHeartbeats 2000000 in
theorem over_calls (L : List ByteArray) (hsz : ∀ s ∈ L, s.size ≤ 1000000) (hLL : L.length ≤ 1000000) (g off : Nat) : ∀ (k : Nat) {a c : Nat} (w : World), 0 < k → a + k ≤ L.length → k ≤ c → c ≤ maxLen → Rk w → g < w.heap.size →
    (∀ i s, L[i]? = some s → w.cell? ⟨g, off + i, none⟩ = some (.string s)) →
    Calls Tryd.prog 37 #[.slice (some ⟨g, off + a, none⟩) k c] w fun en w' => en = .returned (.agg (cellsOf (rt (leafF L) a k))) ∧ Below w.heap.size w w' := by
  intro k
  induction k using Nat.strongRecOn with
  | _ k ih =>
  intro a c w hk ha hkc hc hR hg hcell
  have H0 : ∀ O, OvS w g off L (w.alloc O) → True := fun _ _ => trivial
  clear H0
  have HR := Lib.hid hR
  have HC := Lib.hid hcell
  have hc9 : (c : Int) ≤ 9223372036854775807 := by unfold maxLen at hc; omega
  clear hR hcell
  have B0 : ∀ t, Below w.heap.size w (w.alloc (.cells (cellsOf (List.replicate 32 0)) t)) := fun t => (Below.refl _ _).alloc (Nat.le_refl _) _
  have S0 : Hid (OvS w g off L (w.alloc (.cells (cellsOf (List.replicate 32 0)) 33))) := Lib.hid ⟨HR.out.below (B0 _), made_at _ _ rfl, Nat.lt_of_lt_of_le hg (B0 33).size, fun i s hs => by rw [← HC.out i s hs]; unfold World.cell?; rw [(B0 _).block g hg], B0 _⟩
  clear B0
  by_cases h1 : k = 1
  · subst h1
    obtain ⟨s, hs⟩ : ∃ s, L[a]? = some s := ⟨_, List.getElem?_eq_getElem (by omega)⟩
    have HE : Hid (rt (leafF L) a 1 = leafS s.data.toList) := Lib.hid (by rw [rt_one]; exact leafF_at L a s hs)
    have HS : Hid (s.size ≤ 1000000) := Lib.hid (hsz s (List.mem_of_getElem? hs))
    have c0 := S0.out.cells a s hs
    rw [show cellsOf (List.replicate 32 0) = (List.replicate 32 (Value.int .u8 0)).toArray from rfl] at c0
    simp only [List.replicate] at c0
    rw [HE.out]
    clear hs ih
    go_enter Tryd.func37, Tryd.ntmps37
    go_wp2_with fail
    refine callsName (fun W hW => ?_)
    have S1 : Hid (OvS w g off L W) := by rw [← hW]; exact S0
    clear hW S0 c0
    refine (leaf_calls s W S1.out.rk (by have := HS.out; omega)).mono ?_
    rintro en w2 ⟨rfl, b2⟩
    have S2 := Lib.hid (S1.out.below b2)
    clear S1 b2
    go_wp2_with (first
      | ((with_reducible refine at_store (.tmp 2) ?_); refine wpList_store_arr (o := ⟨none, _, _, _, _, _⟩) rfl 33 _ _ rfl w.heap.size (leafS s.data.toList) (List.replicate 32 0) rfl rfl _ S2.out.res 32 (by kernel_rfl) (by simp) (leafS_length _) ?_; intro W6 HW6 TW6)
      | fail)
    exact bodyPost_ret (v := .agg (cellsOf (leafS s.data.toList))) (results_cell_row rfl _ _ w.heap.size 33 _ _ _ rfl HW6 Tryd.underlying33 rfl (by rw [cellsOf_size, leafS_length]; kernel_rfl)) rfl
      ⟨rfl, S2.out.bel.trans (TW6.below S2.out.bel.size (fun j hj e => by omega))⟩
  · have hk2 : 2 ≤ k := by omega
    have h1' : ¬ (k : Int) = 1 := by omega
    have h0' : ¬ (k : Int) = 0 := by omega
    have hx3 := rt_two (leafF L) a hk2
    have hlt := half_lt hk2
    have hp := half_pos k
    obtain ⟨h, hh⟩ : ∃ h, h = half k := ⟨_, rfl⟩
    obtain ⟨h2, hh2⟩ : ∃ h2, h2 = k - h := ⟨_, rfl⟩
    obtain ⟨c2, hc2⟩ : ∃ c2, c2 = c - h := ⟨_, rfl⟩
    rw [← hh] at hlt hp hx3
    rw [← hh2] at hx3
    have hlt2 : h2 < k := by omega
    have hc3 : c2 ≤ maxLen := by omega
    obtain ⟨x1, hx1⟩ : ∃ x, x = rt (leafF L) a h := ⟨_, rfl⟩
    obtain ⟨x2, hx2⟩ : ∃ x, x = rt (leafF L) (a + h) h2 := ⟨_, rfl⟩
    obtain ⟨x3, hx3'⟩ : ∃ x, x = rt (leafF L) a k := ⟨_, rfl⟩
    have HL : Hid (x1.length = 32 ∧ x2.length = 32) := Lib.hid ⟨hx1 ▸ rt_length _ _ _ (fun i _ _ => leafF_len L i) (by omega), hx2 ▸ rt_length _ _ _ (fun i _ _ => leafF_len L i) (by omega)⟩
    have HL3 : Hid (x3.length = 32) := Lib.hid (hx3' ▸ rt_length _ _ _ (fun i _ _ => leafF_len L i) (by omega))
    rw [← hx1, ← hx2, ← hx3'] at hx3
    rw [← hx3']
    have HX1 := Lib.hid hx1.symm
    have HX2 := Lib.hid hx2.symm
    have HX3 := Lib.hid hx3.symm
    have HHH := Lib.hid hh
    have IH := Lib.hid ih
    have e1 : (k : Int) - (h : Int) = (h2 : Int) := by omega
    have e2 : (c : Int) - (h : Int) = (c2 : Int) := by omega
    have e3 : k - h = h2 := by omega
    have e4 : c - h = c2 := by omega
    have e5 : (h : Int) ≤ (k : Int) := by omega
    have e6 : (k : Int) ≤ (c : Int) := by omega
    have e7 : (h : Int) ≤ (c : Int) := by omega
    have e8 : ¬ c = h := by omega
    have C1 : Hid (∀ V, OvS w g off L V → Calls Tryd.prog 37 #[.slice (some ⟨g, off + a, none⟩) h c] V fun en w' => en = .returned (.agg (cellsOf x1)) ∧ OvS w g off L w') := Lib.hid fun V hV =>
      (IH.out h hlt (a := a) (c := c) V (by omega) (by omega) (by omega) hc hV.rk hV.lt hV.cells).mono (fun _ _ q => ⟨by rw [q.1, HX1.out], hV.below q.2⟩)
    have C2 : Hid (∀ V, OvS w g off L V → Calls Tryd.prog 37 #[.slice (some ⟨g, off + a + h, none⟩) h2 c2] V fun en w' => en = .returned (.agg (cellsOf x2)) ∧ OvS w g off L w') := Lib.hid fun V hV => by
      rw [Nat.add_assoc]
      exact (IH.out h2 hlt2 (a := a + h) (c := c2) V (by omega) (by omega) (by omega) hc3 hV.rk hV.lt hV.cells).mono (fun _ _ q => ⟨by rw [q.1, HX2.out], hV.below q.2⟩)
    have C3 : Hid (∀ V, OvS w g off L V → Calls Tryd.prog 57 #[.agg (cellsOf x1), .agg (cellsOf x2)] V fun en w' => en = .returned (.agg (cellsOf x3)) ∧ OvS w g off L w') := Lib.hid fun V hV =>
      (node_calls x1 x2 V hV.rk HL.out.1 HL.out.2).mono (fun _ _ q => ⟨by rw [q.1, HX3.out], hV.below q.2⟩)
    clear hx1 hx2 hx3 hx3' hh hh2 hc2 ih h1
    go_enter Tryd.func37, Tryd.ntmps37
    go_wp2_with (first
      | (go_at_call 61; refine (half_calls k _ hk2 (by omega)).mono ?_; rw [← HHH.out]; rintro e w' ⟨rfl, rfl⟩)
      | fail)
    refine wp_region_any (by kernel_rfl) ?_
    refine AnyL.any (S := OvS w g off L) (Wr := [9]) _ _ _ _ (S0.out.below (Below.refl _ _).drew) ?_
    refine AnyL.pure 0 (some 18) rfl rfl (by kernel_rfl) (by kernel_rfl) (by kernel_rfl) (fun _ _ _ h => h) (by kernel_rfl) (by kernel_rfl) (fun _ _ => rfl) ?_
    refine AnyL.pure 1 (some 19) rfl rfl (by kernel_rfl) (by kernel_rfl) (by kernel_rfl) (fun _ _ _ h => h) (by kernel_rfl) (by kernel_rfl) (fun _ _ => rfl) ?_
    refine AnyL.pure 2 (some 20) (v := .slice (some ⟨g, off + a, none⟩) h c) rfl rfl (by kernel_rfl) (by kernel_rfl) (by kernel_rfl) (fun _ _ _ h => h) (by kernel_rfl) (by kernel_rfl) (fun V _ => by go_simp) ?_
    refine AnyL.pure 4 (some 22) rfl rfl (by kernel_rfl) (by kernel_rfl) (by kernel_rfl) (fun _ _ _ h => h) (by kernel_rfl) (by kernel_rfl) (fun _ _ => rfl) ?_
    refine AnyL.pure 5 (some 23) rfl rfl (by kernel_rfl) (by kernel_rfl) (by kernel_rfl) (fun _ _ _ h => h) (by kernel_rfl) (by kernel_rfl) (fun _ _ => rfl) ?_
    refine AnyL.pure 6 (some 24) (v := .slice (some ⟨g, off + a + h, none⟩) h2 c2) rfl rfl (by kernel_rfl) (by kernel_rfl) (by kernel_rfl) (fun _ _ _ h => h) (by kernel_rfl) (by kernel_rfl) (fun V _ => by go_simp) ?_
    refine AnyL.call 3 (some 21) (.agg (cellsOf x1)) rfl rfl (by kernel_rfl) (by kernel_rfl) (by kernel_rfl) (fun _ _ _ h => h) (by kernel_rfl) (by kernel_rfl) 37 Tryd.f37 Tryd.func37 (by kernel_rfl) (by kernel_rfl) _ _ rfl #[.slice (some ⟨g, off + a, none⟩) h c] (by first | (simp [Act.eval]; done) | (simp [Act.eval, Act.put]; done)) (fun V hV => C1.out V hV) ?_
    simp only [Act.put, List.setIfInBounds_toArray, List.set_cons_zero, List.set_cons_succ]
    refine AnyL.call 7 (some 25) (.agg (cellsOf x2)) rfl rfl (by kernel_rfl) (by kernel_rfl) (by kernel_rfl) (fun _ _ _ h => h) (by kernel_rfl) (by kernel_rfl) 37 Tryd.f37 Tryd.func37 (by kernel_rfl) (by kernel_rfl) _ _ rfl #[.slice (some ⟨g, off + a + h, none⟩) h2 c2] (by first | (simp [Act.eval]; done) | (simp [Act.eval, Act.put]; done)) (fun V hV => C2.out V hV) ?_
    simp only [Act.put, List.setIfInBounds_toArray, List.set_cons_zero, List.set_cons_succ]
    refine AnyL.call 8 (some 26) (.agg (cellsOf x3)) rfl rfl (by kernel_rfl) (by kernel_rfl) (by kernel_rfl) (fun _ _ _ h => h) (by kernel_rfl) (by kernel_rfl) 57 Tryd.f57 Tryd.func57 (by kernel_rfl) (by kernel_rfl) _ _ rfl #[.agg (cellsOf x1), .agg (cellsOf x2)] (by first | (simp [Act.eval]; done) | (simp [Act.eval, Act.put]; done)) (fun V hV => C3.out V hV) ?_
    simp only [Act.put, List.setIfInBounds_toArray, List.set_cons_zero, List.set_cons_succ]
    refine AnyL.late (i := 9) (by kernel_rfl) (by decide) ?_
    intro V hV
    have HV := Lib.hid hV
    clear hV C1 C2 C3 IH
    refine wpOp_wp rfl (by kernel_rfl) ?_
    refine wp_store_row 33 _ _ rfl w.heap.size (cellsOf x3) rfl rfl 33 (cellsOf (List.replicate 32 0)) HV.out.res (by rw [cellsOf_size, HL3.out]; kernel_rfl) (by rw [cellsOf_size, cellsOf_size, HL3.out]; rfl) (cellsOf_one _) ?_
    have HW6 : Has (V.setRow w.heap.size (cellsOf x3)) w.heap.size 33 (cellsOf x3) := HV.out.res.row _
    have TW6 : Turn (fun k => k = w.heap.size) V (V.setRow w.heap.size (cellsOf x3)) := turn_row _ _ _
    generalize V.setRow w.heap.size (cellsOf x3) = W6 at *
    refine wpAny_done (by kernel_rfl) ?_ _
    simp only [Act.put]
    go_wp2_with fail
    exact bodyPost_ret (v := .agg (cellsOf x3)) (results_cell_row rfl _ _ w.heap.size 33 _ _ _ rfl HW6 Tryd.underlying33 rfl (by rw [cellsOf_size, HL3.out]; kernel_rfl)) rfl
      ⟨rfl, HV.out.bel.trans (TW6.below HV.out.bel.size (fun j hj e => by omega))⟩
end Go.Proofs.YthbncejbcegmgaaDoor.clash
end

