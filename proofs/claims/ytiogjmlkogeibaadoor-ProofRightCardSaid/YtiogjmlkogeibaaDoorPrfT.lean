/- proof: the document's Inclusion, Consistency. -/
import Derived.Test.YtiogjmlkogeibaaDoorPrfS
namespace Go.Proofs.YtiogjmlkogeibaaDoor.prf
open Go Go.RowKit Go.Proofs.YtiogjmlkogeibaaDoor.dig

theorem txt_beq (x y : List UInt8) : ((bs x).toList == (bs y).toList) = (x == y) := by
  rw [ByteArray.toList_eq, ByteArray.toList_eq, bs_list, bs_list]

theorem inclE_nil (leaf : List UInt8) {i n : Int} (h : ¬ (i < 0 ∨ n ≤ i)) (root : List UInt8) (r : List (List UInt8)) :
    inclE leaf i n root r = if ((up [] (leafS leaf) r i.toNat n.toNat).2 && ((up [] (leafS leaf) r i.toNat n.toNat).1 == root)) = true then 0 else 12 := by
  unfold inclE
  rw [if_neg h]
  obtain ⟨h1, h2⟩ := up_any (List.replicate 32 0) [] (leafS leaf) r i.toNat n.toNat
  rw [h1]
  cases hb : (up [] (leafS leaf) r i.toNat n.toNat).2
  · rw [if_neg (by simp), if_neg (by simp)]
  · rw [h2 (by rw [h1, hb])]
    by_cases he : (up [] (leafS leaf) r i.toNat n.toNat).1 = root
    · rw [if_pos ⟨rfl, he⟩, if_pos (by simp [he])]
    · rw [if_neg (fun e => he e.2), if_neg (by simp [he])]

theorem elderB_nil (m : Nat) (old : List UInt8) (n : Nat) (root : List UInt8) (r : List (List UInt8)) (h : m ≠ n) (h0 : m ≠ 0) :
    elderB m old n root r = ((both [] old r true m n).2.2 && ((both [] old r true m n).1 == old) && ((both [] old r true m n).2.1 == root)) := by
  unfold elderB
  rw [if_neg h, if_neg h0]
  obtain ⟨h1, h2⟩ := both_any (List.replicate 32 0) [] old r true m n
  rw [h1]
  cases hb : (both [] old r true m n).2.2
  · simp
  · obtain ⟨h3, h4⟩ := h2 (by rw [h1, hb])
    rw [h3, h4]

set_option maxRecDepth 100000 in
set_option maxHeartbeats 1000000 in
theorem rincl_out (leaf s : ByteArray) (i n : Int) (h : i < 0 ∨ n ≤ i) (v : Value) (w : World) : Calls Tryd.prog 14 #[.string leaf, .int .i64 i, .int .i64 n, .string s, v] w fun en w' => en = .returned (.int .i64 6) ∧ w = w' := by
  by_cases h0 : i < 0
  · clear h
    go_enter Tryd.func14, Tryd.ntmps14
    go_wp2_with fail
    go_ret
    exact ⟨rfl, rfl⟩
  · have h1 : n ≤ i := h.resolve_left h0
    clear h
    go_enter Tryd.func14, Tryd.ntmps14
    go_wp2_with fail
    go_ret
    exact ⟨rfl, rfl⟩

set_option maxRecDepth 100000 in
set_option maxHeartbeats 1000000 in
theorem rincl_in {leaf sr slf su : ByteArray} {ub b1 : Bool} (hq : (su.toList == sr.toList) = b1) (i n : Nat) (hi : i < n) (v : Value) (w : World)
    (hl : ∀ V, Below w.heap.size w V → Calls Tryd.prog 25 #[.string leaf] V fun en w' => en = .returned (.string slf) ∧ Below V.heap.size V w')
    (hc : ∀ V, Below w.heap.size w V → Calls Tryd.prog 17 #[.int .i64 i, .int .i64 n, .string slf, v] V fun en w' => en = .returned (.tuple #[.string su, .bool ub]) ∧ Below V.heap.size V w') :
    Calls Tryd.prog 14 #[.string leaf, .int .i64 i, .int .i64 n, .string sr, v] w fun en w' => en = .returned (.int .i64 (if (ub && b1) = true then 0 else 12)) ∧ Below w.heap.size w w' := by
  have HL := Lib.hid hl
  have HC := Lib.hid hc
  have i0 : (0 : Int) ≤ (i : Int) := by omega
  have i1 : (i : Int) < (n : Int) := by omega
  clear hl hc hi
  have key : ub = false ∨ (ub = true ∧ b1 = false) ∨ (ub = true ∧ b1 = true) := by cases ub <;> cases b1 <;> simp
  rcases key with rfl | ⟨rfl, rfl⟩ | ⟨rfl, rfl⟩
  all_goals
    go_enter Tryd.func14, Tryd.ntmps14
    go_wp2_with fail
    refine (HL.out w (Below.refl _ _)).mono ?_
    rintro en w1 ⟨rfl, b1'⟩
    go_wp2_with fail
    refine (HC.out w1 b1').mono ?_
    rintro en w2 ⟨rfl, b2'⟩
    go_wp2_with fail
    go_ret
    exact ⟨rfl, b1'.trans (b2'.mono b1'.size)⟩

theorem rincl_calls (leaf : ByteArray) (i n : Int) (root : List UInt8) (hn : n ≤ 1000000) (r : List (List UInt8)) (a : Option Addr) (c : Nat) (w : World) (hT : Tst w (.slice a r.length c) r) (hl : leaf.size ≤ 100000000) :
    Calls Tryd.prog 14 #[.string leaf, .int .i64 i, .int .i64 n, .string (bs root), .slice a r.length c] w fun en w' => en = .returned (.int .i64 (inclE leaf.data.toList i n root r)) ∧ Below w.heap.size w w' := by
  by_cases h : i < 0 ∨ n ≤ i
  · have e : inclE leaf.data.toList i n root r = 6 := by unfold inclE; rw [if_pos h]
    rw [e]
    exact (rincl_out leaf (bs root) i n h _ w).mono fun _ _ p => ⟨p.1, p.2 ▸ Below.refl _ _⟩
  · rw [inclE_nil _ h]
    have hi : i = (i.toNat : Int) := by omega
    have hn' : n = (n.toNat : Int) := by omega
    obtain ⟨j, hj⟩ : ∃ j, j = i.toNat := ⟨_, rfl⟩
    obtain ⟨k, hk⟩ : ∃ k, k = n.toNat := ⟨_, rfl⟩
    rw [← hj] at hi ⊢
    rw [← hk] at hn' ⊢
    subst hi hn'
    have hjk : j < k := by omega
    exact rincl_in (txt_beq _ _) j k hjk _ w (fun V b => rleaf_calls leaf hl V) (fun V b => rup_calls (leafS_length _) r j k a c V (hT.below b) hjk (by omega))

set_option maxRecDepth 100000 in
set_option maxHeartbeats 1000000 in
theorem rcons_out (s t : ByteArray) (m n : Int) (h : m < 0 ∨ n < m) (v : Value) (w : World) : Calls Tryd.prog 15 #[.int .i64 m, .string s, .int .i64 n, .string t, v] w fun en w' => en = .returned (.int .i64 6) ∧ w = w' := by
  by_cases h0 : m < 0
  · clear h
    go_enter Tryd.func15, Tryd.ntmps15
    go_wp2_with fail
    go_ret
    exact ⟨rfl, rfl⟩
  · have h1 : n < m := h.resolve_left h0
    clear h
    go_enter Tryd.func15, Tryd.ntmps15
    go_wp2_with fail
    go_ret
    exact ⟨rfl, rfl⟩

set_option maxRecDepth 100000 in
set_option maxHeartbeats 1000000 in
theorem rcons_same {so sr : ByteArray} {b1 : Bool} (hq : (so.toList == sr.toList) = b1) (n : Nat) (a : Option Addr) (l c : Nat) (w : World) (e : Bool) (he : ((l : Int) == 0) = e) : Calls Tryd.prog 15 #[.int .i64 n, .string so, .int .i64 n, .string sr, .slice a l c] w fun en w' => en = .returned (.int .i64 (if (e && b1) = true then 0 else 12)) ∧ w = w' := by
  have n0 : (0 : Int) ≤ (n : Int) := by omega
  have key : (e = false ∧ 0 < l) ∨ (e = true ∧ l = 0 ∧ b1 = false) ∨ (e = true ∧ l = 0 ∧ b1 = true) := by
    by_cases hl : l = 0
    · subst hl
      have : e = true := by rw [← he]; rfl
      cases b1 <;> simp [this]
    · have : e = false := by rw [← he, beq_eq_false_iff_ne]; omega
      exact .inl ⟨this, by omega⟩
  clear he
  rcases key with ⟨rfl, hl⟩ | ⟨rfl, rfl, rfl⟩ | ⟨rfl, rfl, rfl⟩
  all_goals
    try have hl2 : (0 : Int) < (l : Int) := by omega
    go_enter Tryd.func15, Tryd.ntmps15
    go_wp2_with fail
    go_ret
    exact ⟨rfl, rfl⟩

set_option maxRecDepth 100000 in
set_option maxHeartbeats 1000000 in
theorem rcons_zero {so sz sr : ByteArray} {b1 : Bool} (hq : (so.toList == sz.toList) = b1) (n : Nat) (hn : 0 < n) (a : Option Addr) (l c : Nat) (w : World) (e : Bool) (he : ((l : Int) == 0) = e)
    (hc : Calls Tryd.prog 26 #[.string ⟨#[]⟩] w fun en w' => en = .returned (.string sz) ∧ Below w.heap.size w w') :
    Calls Tryd.prog 15 #[.int .i64 0, .string so, .int .i64 n, .string sr, .slice a l c] w fun en w' => en = .returned (.int .i64 (if (e && b1) = true then 0 else 12)) ∧ Below w.heap.size w w' := by
  have n0 : (0 : Int) < (n : Int) := by omega
  have n1 : ¬ (0 : Int) = (n : Int) := by omega
  have n2 : ((0 : Int) == (n : Int)) = false := by rw [beq_eq_false_iff_ne]; omega
  have HC := Lib.hid hc
  have key : (e = false ∧ 0 < l) ∨ (e = true ∧ l = 0 ∧ b1 = false) ∨ (e = true ∧ l = 0 ∧ b1 = true) := by
    by_cases hl : l = 0
    · subst hl
      have : e = true := by rw [← he]; rfl
      cases b1 <;> simp [this]
    · have : e = false := by rw [← he, beq_eq_false_iff_ne]; omega
      exact .inl ⟨this, by omega⟩
  clear he hc hn
  rcases key with ⟨rfl, hl⟩ | ⟨rfl, rfl, rfl⟩ | ⟨rfl, rfl, rfl⟩
  · have hl2 : (0 : Int) < (l : Int) := by omega
    go_enter Tryd.func15, Tryd.ntmps15
    go_wp2_with fail
    go_ret
    exact ⟨rfl, Below.refl _ _⟩
  all_goals
    go_enter Tryd.func15, Tryd.ntmps15
    go_wp2_with fail
    refine HC.out.mono ?_
    rintro en w1 ⟨rfl, b⟩
    go_wp2_with fail
    go_ret
    exact ⟨rfl, b⟩

set_option maxRecDepth 100000 in
set_option maxHeartbeats 1000000 in
theorem rcons_more {so sr s1 s2 : ByteArray} {tb b1 b2 : Bool} (q1 : (s1.toList == so.toList) = b1) (q2 : (s2.toList == sr.toList) = b2) (m n : Nat) (h0 : 0 < m) (h1 : m < n) (v : Value) (w : World)
    (hc : Calls Tryd.prog 27 #[.int .i64 m, .int .i64 n, .string so, .bool true, v] w fun en w' => en = .returned (.tuple #[.string s1, .string s2, .bool tb]) ∧ Below w.heap.size w w') :
    Calls Tryd.prog 15 #[.int .i64 m, .string so, .int .i64 n, .string sr, v] w fun en w' => en = .returned (.int .i64 (if (tb && b1 && b2) = true then 0 else 12)) ∧ Below w.heap.size w w' := by
  have n0 : (0 : Int) < (m : Int) := by omega
  have n1 : (m : Int) < (n : Int) := by omega
  have n2 : ((m : Int) == (n : Int)) = false := by rw [beq_eq_false_iff_ne]; omega
  have n3 : ((m : Int) == 0) = false := by rw [beq_eq_false_iff_ne]; omega
  have HC := Lib.hid hc
  clear hc h0 h1
  have key : tb = false ∨ (tb = true ∧ b1 = false) ∨ (tb = true ∧ b1 = true ∧ b2 = false) ∨ (tb = true ∧ b1 = true ∧ b2 = true) := by cases tb <;> cases b1 <;> cases b2 <;> simp
  rcases key with rfl | ⟨rfl, rfl⟩ | ⟨rfl, rfl, rfl⟩ | ⟨rfl, rfl, rfl⟩
  all_goals
    go_enter Tryd.func15, Tryd.ntmps15
    go_wp2_with fail
    refine HC.out.mono ?_
    rintro en w1 ⟨rfl, b⟩
    go_wp2_with fail
    go_ret
    exact ⟨rfl, b⟩

theorem rcons_calls {old : List UInt8} (ho : old.length = 32) (m n : Int) (root : List UInt8) (hn : n ≤ 1000000) (r : List (List UInt8)) (a : Option Addr) (c : Nat) (w : World) (hT : Tst w (.slice a r.length c) r) :
    Calls Tryd.prog 15 #[.int .i64 m, .string (bs old), .int .i64 n, .string (bs root), .slice a r.length c] w fun en w' => en = .returned (.int .i64 (consE m old n root r)) ∧ Below w.heap.size w w' := by
  by_cases h : m < 0 ∨ n < m
  · have e : consE m old n root r = 6 := by unfold consE; rw [if_pos h]
    rw [e]
    exact (rcons_out (bs old) (bs root) m n h _ w).mono fun _ _ p => ⟨p.1, p.2 ▸ Below.refl _ _⟩
  · have e : consE m old n root r = if elderB m.toNat old n.toNat root r = true then 0 else 12 := by unfold consE; rw [if_neg h]
    rw [e]
    have hm : m = (m.toNat : Int) := by omega
    have hn' : n = (n.toNat : Int) := by omega
    obtain ⟨j, hj⟩ : ∃ j, j = m.toNat := ⟨_, rfl⟩
    obtain ⟨k, hk⟩ : ∃ k, k = n.toNat := ⟨_, rfl⟩
    rw [← hj] at hm ⊢
    rw [← hk] at hn' ⊢
    subst hm hn'
    by_cases h1 : j = k
    · subst h1
      have e2 : elderB j old j root r = (r.isEmpty && (old == root)) := by unfold elderB; rw [if_pos rfl]
      rw [e2]
      exact (rcons_same (txt_beq _ _) j a _ c w _ (empty_len r)).mono fun _ _ p => ⟨p.1, p.2 ▸ Below.refl _ _⟩
    · by_cases h0 : j = 0
      · subst h0
        have e2 : elderB 0 old k root r = (r.isEmpty && (old == sum [])) := by unfold elderB; rw [if_neg h1, if_pos rfl]
        rw [e2]
        exact rcons_zero (txt_beq _ _) k (by omega) a _ c w _ (empty_len r) (rof_calls ⟨#[]⟩ (by decide) w)
      · rw [elderB_nil _ _ _ _ _ h1 h0]
        exact rcons_more (txt_beq _ _) (txt_beq _ _) j k (by omega) (by omega) _ w (rboth_calls ho r true j k a c w hT (by omega) (by omega) (by omega))
end Go.Proofs.YtiogjmlkogeibaaDoor.prf
