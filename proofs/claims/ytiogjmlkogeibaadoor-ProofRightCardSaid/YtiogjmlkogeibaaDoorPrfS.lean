/- proof: the document's Both. -/
import Derived.Test.YtiogjmlkogeibaaDoorPrfR
namespace Go.Proofs.YtiogjmlkogeibaaDoor.prf
open Go Go.RowKit Go.Proofs.YtiogjmlkogeibaaDoor.dig

theorem both_le {o : List UInt8} (ho : o.length ≤ 32) : ∀ (r : List (List UInt8)) (f : Bool) (m n : Nat), (∀ x ∈ r, x.length = 32) → (both [] o r f m n).1.length ≤ 32 ∧ (both [] o r f m n).2.1.length ≤ 32
  | [], f, m, n, _ => by by_cases h : m = n ∧ f = true <;> simp [both, h, ho]
  | s :: r, f, m, n, hr => by
    have hs := hr s (by simp)
    have hr' : ∀ x ∈ r, x.length = 32 := fun x hx => hr x (by simp [hx])
    by_cases h : m = n
    · subst h
      cases f
      · rw [both_all]; exact ⟨Nat.le_of_eq hs, Nat.le_of_eq hs⟩
      · rw [both_known]; exact ⟨ho, ho⟩
    · by_cases hm : m ≤ half n
      · rw [both_left [] o s r f h hm]; exact ⟨(both_le ho r f m (half n) hr').1, Nat.le_of_eq (nodeS_length _ _)⟩
      · rw [both_right [] o s r f h hm]; exact ⟨Nat.le_of_eq (nodeS_length _ _), Nat.le_of_eq (nodeS_length _ _)⟩

set_option maxRecDepth 100000 in
set_option maxHeartbeats 1000000 in
theorem rboth_known (s : ByteArray) (n : Int) (a : Option Addr) (l c : Nat) (w : World) (e : Bool) (he : ((l : Int) == 0) = e) : Calls Tryd.prog 27 #[.int .i64 n, .int .i64 n, .string s, .bool true, .slice a l c] w fun en w' => en = .returned (.tuple #[.string s, .string s, .bool e]) ∧ w = w' := by
  go_enter Tryd.func27, Tryd.ntmps27
  go_wp2_with fail
  go_ret3
  exact ⟨rfl, rfl⟩
set_option maxRecDepth 100000 in
set_option maxHeartbeats 1000000 in
theorem rboth_none (s : ByteArray) (m n : Int) (f : Bool) (h : ¬ (m = n ∧ f = true)) (a : Option Addr) (c : Nat) (w : World) : Calls Tryd.prog 27 #[.int .i64 m, .int .i64 n, .string s, .bool f, .slice a 0 c] w fun en w' => en = .returned (.tuple #[.string ⟨#[]⟩, .string ⟨#[]⟩, .bool false]) ∧ w = w' := by
  obtain ⟨b, hb⟩ : ∃ b, (m == n) = b := ⟨_, rfl⟩
  cases b
  · have h1 : ¬ m = n := by simpa using hb
    clear h
    go_enter Tryd.func27, Tryd.ntmps27
    go_wp2_with fail
    go_ret3
    exact ⟨rfl, rfl⟩
  · obtain rfl : m = n := by simpa using hb
    obtain rfl : f = false := by cases f; rfl; exact absurd ⟨rfl, rfl⟩ h
    clear h
    go_enter Tryd.func27, Tryd.ntmps27
    go_wp2_with fail
    go_ret3
    exact ⟨rfl, rfl⟩

set_option maxRecDepth 100000 in
set_option maxHeartbeats 2000000 in
theorem rboth_calls {o : List UInt8} (ho : o.length = 32) : ∀ (r : List (List UInt8)) (f : Bool) (m n : Nat) (a : Option Addr) (c : Nat) (w : World), Tst w (.slice a r.length c) r → 1 ≤ m → m ≤ n → n ≤ 1000000 →
    Calls Tryd.prog 27 #[.int .i64 m, .int .i64 n, .string (bs o), .bool f, .slice a r.length c] w fun en w' => en = .returned (.tuple #[.string (bs (both [] o r f m n).1), .string (bs (both [] o r f m n).2.1), .bool (both [] o r f m n).2.2]) ∧ Below w.heap.size w w' := by
  intro r
  induction r with
  | nil =>
    intro f m n a c w hS hm0 hm hn
    by_cases h : m = n ∧ f = true
    · obtain ⟨rfl, rfl⟩ := h
      rw [both_known]
      exact (rboth_known (bs o) m a 0 c w true rfl).mono fun _ _ p => ⟨p.1, p.2 ▸ Below.refl _ _⟩
    · rw [both_nil _ _ _ h]
      exact (rboth_none (bs o) m n f (fun e => h ⟨by omega, e.2⟩) a c w).mono fun _ _ p => ⟨p.1, p.2 ▸ Below.refl _ _⟩
  | cons s r ih =>
    intro f m n a c w hS hm0 hm hn
    by_cases hkn : m = n ∧ f = true
    · obtain ⟨rfl, rfl⟩ := hkn
      rw [both_known]
      exact (rboth_known (bs o) m a _ c w _ (empty_len (s :: r))).mono fun _ _ p => ⟨p.1, p.2 ▸ Below.refl _ _⟩
    · have hr : ∀ x ∈ r, x.length = 32 := fun x hx => hS.2 x (by simp [hx])
      obtain ⟨hT, hq, hqc, hcm, hsl, g, off, rfl, hg, hcell⟩ := hS.cons
      obtain ⟨q, hq'⟩ : ∃ q, q = (s :: r).length := ⟨_, rfl⟩
      rw [← hq'] at hq hqc ⊢
      obtain ⟨l, hl⟩ : ∃ l, l = r.length := ⟨_, rfl⟩
      rw [← hl] at hq hcell hT
      have HT := Lib.hid hT
      have hcm2 : (c : Int) ≤ 9223372036854775807 := by unfold maxLen at hcm; omega
      have m1 : ¬ (q : Int) = 0 := by omega
      have m2 : (q : Int) - 1 = (l : Int) := by omega
      have m3 : (0 : Int) ≤ (l : Int) ∧ (l : Int) < (q : Int) := by omega
      have m4 : (l : Int) ≤ (c : Int) := by omega
      have m5 : (q : Int) ≤ 9223372036854775807 := by omega
      have m6 : (l : Int) < (q : Int) := by omega
      have m7 : (0 : Int) ≤ (l : Int) := by omega
      obtain ⟨sx, hsx⟩ : ∃ sx, sx = bs o := ⟨_, rfl⟩
      obtain ⟨ss, hss⟩ : ∃ ss, ss = bs s := ⟨_, rfl⟩
      rw [← hss] at hcell
      by_cases h : m = n
      · subst h
        obtain rfl : f = false := by cases f; rfl; exact absurd ⟨rfl, rfl⟩ hkn
        rw [both_all]
        rw [← hsx]
        show Calls Tryd.prog 27 _ w fun en w' => en = .returned (.tuple #[.string (bs s), .string (bs s), .bool r.isEmpty]) ∧ Below w.heap.size w w'
        rw [← hss]
        obtain ⟨e, he⟩ : ∃ e, ((l : Int) == 0) = e := ⟨_, rfl⟩
        have HE : Hid (r.isEmpty = e) := Lib.hid (by rw [← he, hl, empty_len])
        rw [HE.out]
        clear ih hkn hr hq hq' hqc hcm hl hsx hss hS hT hsl hm0 hm hn ho
        go_enter Tryd.func27, Tryd.ntmps27
        go_wp2_with fail
        go_ret3
        exact ⟨rfl, Below.refl _ _⟩
      · have h2 : 2 ≤ n := by omega
        have h3 : ¬ (m : Int) = (n : Int) := by omega
        have h4 : ((m : Int) == (n : Int)) = false := by rw [beq_eq_false_iff_ne]; omega
        obtain ⟨k, hk⟩ : ∃ k, k = half n := ⟨_, rfl⟩
        have hk1 := half_lt h2
        have hk0 := half_pos n
        rw [← hk] at hk1 hk0
        have HH : ∀ V, Hid (Calls Tryd.prog 29 #[.int .i64 n] V fun en w' => en = .returned (.int .i64 k) ∧ V = w') := fun V => Lib.hid (by rw [hk]; exact rhalf_calls n V h2 (by omega))
        have ih' := fun f m n V => ih f m n (some ⟨g, off, none⟩) c V
        rw [← hl] at ih'
        rw [← hsx] at ih' ⊢
        by_cases hik : m ≤ k
        · have e := both_left [] o s r f h (by rw [← hk]; exact hik)
          rw [← hk] at e
          have HI := Lib.hid (fun V hT' => ih' f m k V hT' hm0 hik (by omega))
          have hu := both_le (Nat.le_of_eq ho) r f m k hr
          have HN : ∀ V, Hid (Calls Tryd.prog 30 #[.string (bs (both [] o r f m k).2.1), .string ss] V fun en w' => en = .returned (.string (bs (both [] o (s :: r) f m n).2.1)) ∧ Below V.heap.size V w') := fun V => Lib.hid (by rw [e, hss]; exact rnode_calls _ _ hu.2 (Nat.le_of_eq hsl) V)
          have HE1 : Hid ((both [] o (s :: r) f m n).1 = (both [] o r f m k).1) := Lib.hid (by rw [e])
          have HE2 : Hid ((both [] o (s :: r) f m n).2.2 = (both [] o r f m k).2.2) := Lib.hid (by rw [e])
          have hik2 : (m : Int) ≤ (k : Int) := by omega
          rw [HE1.out, HE2.out]
          clear ih ih' hk hq hq' hS hT hsl hl e hu hsx hss ho hm0 hm hn hqc hcm hr hkn HE1 HE2
          generalize bs (both [] o (s :: r) f m n).2.1 = su' at *
          generalize bs (both [] o r f m k).1 = s1 at *
          generalize bs (both [] o r f m k).2.1 = s2 at *
          generalize (both [] o r f m k).2.2 = ub at *
          go_enter Tryd.func27, Tryd.ntmps27
          go_wp2_with fail
          refine (HH w).out.mono ?_
          rintro en w' ⟨rfl, rfl⟩
          go_wp2_with fail
          refine (HI.out w HT.out).mono ?_
          rintro en w1 ⟨rfl, b1⟩
          go_wp2_with fail
          refine (HN w1).out.mono ?_
          rintro en w2 ⟨rfl, b2⟩
          go_wp2_with fail
          go_ret3
          exact ⟨rfl, b1.trans (b2.mono b1.size)⟩
        · have e := both_right [] o s r f h (by rw [← hk]; exact hik)
          rw [← hk] at e
          obtain ⟨m', hm'⟩ : ∃ m', m' = m - k := ⟨_, rfl⟩
          obtain ⟨n', hn'⟩ : ∃ n', n' = n - k := ⟨_, rfl⟩
          rw [← hm', ← hn'] at e
          have HI := Lib.hid (fun V hT' => ih' false m' n' V hT' (by omega) (by omega) (by omega))
          have hu := both_le (Nat.le_of_eq ho) r false m' n' hr
          have HN1 : ∀ V, Hid (Calls Tryd.prog 30 #[.string ss, .string (bs (both [] o r false m' n').1)] V fun en w' => en = .returned (.string (bs (both [] o (s :: r) f m n).1)) ∧ Below V.heap.size V w') := fun V => Lib.hid (by rw [e, hss]; exact rnode_calls _ _ (Nat.le_of_eq hsl) hu.1 V)
          have HN2 : ∀ V, Hid (Calls Tryd.prog 30 #[.string ss, .string (bs (both [] o r false m' n').2.1)] V fun en w' => en = .returned (.string (bs (both [] o (s :: r) f m n).2.1)) ∧ Below V.heap.size V w') := fun V => Lib.hid (by rw [e, hss]; exact rnode_calls _ _ (Nat.le_of_eq hsl) hu.2 V)
          have HE2 : Hid ((both [] o (s :: r) f m n).2.2 = (both [] o r false m' n').2.2) := Lib.hid (by rw [e])
          have hik2 : ¬ (m : Int) ≤ (k : Int) := by omega
          have a1 : (m : Int) - (k : Int) = (m' : Int) := by omega
          have a2 : (n : Int) - (k : Int) = (n' : Int) := by omega
          have a3 : (m' : Int) ≤ 1000000 := by omega
          have a4 : (n' : Int) ≤ 1000000 := by omega
          rw [HE2.out]
          clear ih ih' hk hq hq' hS hT hsl hl e hu hsx hss ho hm0 hm hn hqc hcm hr hkn HE2 hm' hn'
          generalize bs (both [] o (s :: r) f m n).1 = su1 at *
          generalize bs (both [] o (s :: r) f m n).2.1 = su2 at *
          generalize bs (both [] o r false m' n').1 = s1 at *
          generalize bs (both [] o r false m' n').2.1 = s2 at *
          generalize (both [] o r false m' n').2.2 = ub at *
          go_enter Tryd.func27, Tryd.ntmps27
          go_wp2_with fail
          refine (HH w).out.mono ?_
          rintro en w' ⟨rfl, rfl⟩
          go_wp2_with fail
          refine (HI.out w HT.out).mono ?_
          rintro en w1 ⟨rfl, b1⟩
          go_wp2_with fail
          refine (HN1 w1).out.mono ?_
          rintro en w2 ⟨rfl, b2⟩
          go_wp2_with fail
          refine (HN2 w2).out.mono ?_
          rintro en w3 ⟨rfl, b3⟩
          go_wp2_with fail
          go_ret3
          have b12 := b1.trans (b2.mono b1.size)
          exact ⟨rfl, b12.trans (b3.mono b12.size)⟩
end Go.Proofs.YtiogjmlkogeibaaDoor.prf
