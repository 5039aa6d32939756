/- proof: the document's Leaf, Node, Up. -/
import Derived.Test.YtiogjmlkogeibaaDoorPrfM
import Derived.Test.YtiogjmlkogeibaaDoorSums
import Derived.Test.YtiogjmlkogeibaaDoorDigT
namespace Go.Proofs.YtiogjmlkogeibaaDoor.prf
open Go Go.RowKit Go.Proofs.YtiogjmlkogeibaaDoor.dig

/-- Bytes as a text. -/
def bs (x : List UInt8) : ByteArray := ⟨x.toArray⟩
theorem bs_list (x : List UInt8) : (bs x).data.toList = x := by simp [bs]
theorem bs_size (x : List UInt8) : (bs x).size = x.length := by rw [size_list, bs_list]
theorem bs_inj {x y : List UInt8} : bs x = bs y ↔ x = y := ⟨fun h => by rw [← bs_list x, ← bs_list y, h], fun h => by rw [h]⟩

set_option maxRecDepth 100000 in
set_option maxHeartbeats 1000000 in
theorem rleaf_calls (s : ByteArray) (hs : s.size ≤ 100000000) (w : World) : Calls Tryd.prog 25 #[.string s] w fun en w' => en = .returned (.string (bs (leafS s.data.toList))) ∧ Below w.heap.size w w' := by
  have HC : ∀ V, Hid (Calls Tryd.prog 26 #[.string (⟨#[0]⟩ ++ s)] V fun en w' => en = .returned (.string (bs (leafS s.data.toList))) ∧ Below V.heap.size V w') := fun V => Lib.hid ((rof_calls _ (by have : (⟨#[0]⟩ : ByteArray).size = 1 := rfl; rw [ByteArray.size_append, this]; omega) V).mono fun _ _ p => ⟨by rw [p.1, append_list]; rfl, p.2⟩)
  generalize bs (leafS s.data.toList) = u at *
  go_enter Tryd.func25, Tryd.ntmps25
  go_wp2_with fail
  refine (HC w).out.mono ?_
  rintro en w1 ⟨rfl, b⟩
  go_wp2_with fail
  go_ret
  exact ⟨rfl, b⟩

set_option maxRecDepth 100000 in
set_option maxHeartbeats 1000000 in
theorem rnode_calls (a b : List UInt8) (ha : a.length ≤ 32) (hb : b.length ≤ 32) (w : World) : Calls Tryd.prog 30 #[.string (bs a), .string (bs b)] w fun en w' => en = .returned (.string (bs (nodeS a b))) ∧ Below w.heap.size w w' := by
  have HC : ∀ V, Hid (Calls Tryd.prog 26 #[.string (⟨#[1]⟩ ++ bs a ++ bs b)] V fun en w' => en = .returned (.string (bs (nodeS a b))) ∧ Below V.heap.size V w') := fun V => Lib.hid ((rof_calls _ (by have : (⟨#[1]⟩ : ByteArray).size = 1 := rfl; rw [ByteArray.size_append, ByteArray.size_append, this, bs_size, bs_size]; omega) V).mono fun _ _ p => ⟨by rw [p.1, append_list, append_list, bs_list, bs_list]; rfl, p.2⟩)
  have h1 := bs_size a
  have h2 := bs_size b
  generalize bs (nodeS a b) = u at *
  generalize bs a = sa at *
  generalize bs b = sb at *
  have h3 : sa.size ≤ 32 := by omega
  have h4 : sb.size ≤ 32 := by omega
  clear h1 h2 ha hb
  go_enter Tryd.func30, Tryd.ntmps30
  go_wp2_with fail
  refine (HC w).out.mono ?_
  rintro en w1 ⟨rfl, b⟩
  go_wp2_with fail
  go_ret
  exact ⟨rfl, b⟩

/-- Sums as texts in memory, r: the last one first. -/
def Tst (w : World) (v : Value) (r : List (List UInt8)) : Prop := Seg w 9 1 v r.length (r.reverse.map fun x => Value.string (bs x)) ∧ ∀ x ∈ r, x.length = 32
theorem Tst.slice {w : World} {v : Value} {r : List (List UInt8)} (h : Tst w v r) : ∃ a c, v = .slice a r.length c ∧ r.length ≤ c ∧ c ≤ maxLen := h.1.slice
theorem Tst.below {w w' : World} {v : Value} {r : List (List UInt8)} (h : Tst w v r) (b : Below w.heap.size w w') : Tst w' v r := ⟨h.1.below b (fun _ e => h.1.lt e), h.2⟩
theorem Tst.cons {w : World} {a : Option Addr} {n c : Nat} {s : List UInt8} {r : List (List UInt8)} (h : Tst w (.slice a n c) (s :: r)) : Tst w (.slice a r.length c) r ∧ n = r.length + 1 ∧ n ≤ c ∧ c ≤ maxLen ∧ s.length = 32 ∧ ∃ g off, a = some ⟨g, off, none⟩ ∧ g < w.heap.size ∧ w.cell? ⟨g, off + r.length, none⟩ = some (.string (bs s)) := by
  have hs : s.length = 32 := h.2 s (by simp)
  have hr : ∀ x ∈ r, x.length = 32 := fun x hx => h.2 x (by simp [hx])
  have hlen : (r.reverse.map fun x => Value.string (bs x)).length = r.length * 1 := by simp
  obtain ⟨a', c', e, h1, h2⟩ := h.1.slice
  simp only [Value.slice.injEq] at e
  obtain ⟨rfl, e2, rfl⟩ := e
  rw [List.length_cons] at e2 h1
  subst e2
  have hseg : Seg w 9 1 (.slice a (r.length + 1) c) (r.length + 1) ((r.reverse.map fun x => Value.string (bs x)) ++ [.string (bs s)]) := by
    have := h.1
    rwa [List.reverse_cons, List.map_append, List.length_cons] at this
  obtain ⟨g, off, c2, e3, hg, _, _, hc⟩ := hseg.cells (by omega)
  simp only [Value.slice.injEq] at e3
  obtain ⟨rfl, _, rfl⟩ := e3
  refine ⟨⟨?_, hr⟩, rfl, h1, h2, hs, g, off, rfl, hg, ?_⟩
  · have := Seg.front hseg r.length (by omega) (by simp)
    rwa [List.take_left' hlen] at this
  · exact hc r.length _ (by rw [List.getElem?_append_right (by omega)]; simp)

theorem up_le {x : List UInt8} (hx : x.length ≤ 32) (r : List (List UInt8)) (i n : Nat) : (up [] x r i n).1.length ≤ 32 := by
  cases r with
  | nil => by_cases h : n = 1 <;> simp [up, h, hx]
  | cons s r =>
    by_cases h : n = 1
    · simp [up, h, hx]
    · by_cases hi : i < half n
      · rw [up_left _ x s r h hi]; exact Nat.le_of_eq (nodeS_length _ _)
      · rw [up_right _ x s r h hi]; exact Nat.le_of_eq (nodeS_length _ _)

theorem empty_len (r : List (List UInt8)) : ((r.length : Int) == 0) = r.isEmpty := by
  cases r
  · rfl
  · rw [List.isEmpty_cons, beq_eq_false_iff_ne, List.length_cons]; omega

set_option maxRecDepth 100000 in
set_option maxHeartbeats 1000000 in
theorem rup_one (s : ByteArray) (i : Int) (a : Option Addr) (l c : Nat) (w : World) (e : Bool) (he : ((l : Int) == 0) = e) : Calls Tryd.prog 17 #[.int .i64 i, .int .i64 1, .string s, .slice a l c] w fun en w' => en = .returned (.tuple #[.string s, .bool e]) ∧ w = w' := by
  go_enter Tryd.func17, Tryd.ntmps17
  go_wp2_with fail
  go_ret2
  exact ⟨rfl, rfl⟩
set_option maxRecDepth 100000 in
set_option maxHeartbeats 1000000 in
theorem rup_none (s : ByteArray) (i n : Int) (hn : n ≠ 1) (a : Option Addr) (c : Nat) (w : World) : Calls Tryd.prog 17 #[.int .i64 i, .int .i64 n, .string s, .slice a 0 c] w fun en w' => en = .returned (.tuple #[.string ⟨#[]⟩, .bool false]) ∧ w = w' := by
  go_enter Tryd.func17, Tryd.ntmps17
  go_wp2_with fail
  go_ret2
  exact ⟨rfl, rfl⟩

set_option maxRecDepth 100000 in
set_option maxHeartbeats 2000000 in
theorem rup_calls {x : List UInt8} (hx : x.length = 32) : ∀ (r : List (List UInt8)) (i n : Nat) (a : Option Addr) (c : Nat) (w : World), Tst w (.slice a r.length c) r → i < n → n ≤ 1000000 →
    Calls Tryd.prog 17 #[.int .i64 i, .int .i64 n, .string (bs x), .slice a r.length c] w fun en w' => en = .returned (.tuple #[.string (bs (up [] x r i n).1), .bool (up [] x r i n).2]) ∧ Below w.heap.size w w' := by
  intro r
  induction r with
  | nil =>
    intro i n a c w hS hi hn
    by_cases h1 : n = 1
    · subst h1
      rw [up_one]
      exact (rup_one (bs x) i a 0 c w true rfl).mono fun _ _ p => ⟨p.1, p.2 ▸ Below.refl _ _⟩
    · rw [up_nil _ _ _ h1]
      exact (rup_none (bs x) i n (by omega) a c w).mono fun _ _ p => ⟨p.1, p.2 ▸ Below.refl _ _⟩
  | cons s r ih =>
    intro i n a c w hS hi hn
    by_cases h1 : n = 1
    · subst h1
      rw [up_one]
      exact (rup_one (bs x) i a _ c w _ (empty_len (s :: r))).mono fun _ _ p => ⟨p.1, p.2 ▸ Below.refl _ _⟩
    · have h2 : 2 ≤ n := by omega
      have h3 : ¬ (n : Int) = 1 := by omega
      obtain ⟨k, hk⟩ : ∃ k, k = half n := ⟨_, rfl⟩
      have hk1 := half_lt h2
      have hk0 := half_pos n
      rw [← hk] at hk1 hk0
      obtain ⟨hT, hm, hmc, hcm, hsl, g, off, rfl, hg, hcell⟩ := hS.cons
      obtain ⟨m, hm'⟩ : ∃ m, m = (s :: r).length := ⟨_, rfl⟩
      rw [← hm'] at hm hmc ⊢
      obtain ⟨l, hl⟩ : ∃ l, l = r.length := ⟨_, rfl⟩
      rw [← hl] at hm hcell hT
      have HT := Lib.hid hT
      have HH : ∀ V, Hid (Calls Tryd.prog 29 #[.int .i64 n] V fun en w' => en = .returned (.int .i64 k) ∧ V = w') := fun V => Lib.hid (by rw [hk]; exact rhalf_calls n V h2 (by omega))
      have hcm2 : (c : Int) ≤ 9223372036854775807 := by unfold maxLen at hcm; omega
      have m1 : ¬ (m : Int) = 0 := by omega
      have m2 : (m : Int) - 1 = (l : Int) := by omega
      have m3 : (0 : Int) ≤ (l : Int) ∧ (l : Int) < (m : Int) := by omega
      have m4 : (l : Int) ≤ (c : Int) := by omega
      have m5 : (m : Int) ≤ 9223372036854775807 := by omega
      have m6 : (l : Int) < (m : Int) := by omega
      have m7 : (0 : Int) ≤ (l : Int) := by omega
      have ih' := fun i n V => ih i n (some ⟨g, off, none⟩) c V
      rw [← hl] at ih'
      obtain ⟨sx, hsx⟩ : ∃ sx, sx = bs x := ⟨_, rfl⟩
      rw [← hsx] at ih' ⊢
      obtain ⟨ss, hss⟩ : ∃ ss, ss = bs s := ⟨_, rfl⟩
      rw [← hss] at hcell
      by_cases hik : i < k
      · have e := up_left [] x s r h1 (by rw [← hk]; exact hik)
        rw [← hk] at e
        have HI := Lib.hid (fun V hT' => ih' i k V hT' hik (by omega))
        have hu := up_le (Nat.le_of_eq hx) r i k
        have HN : ∀ V, Hid (Calls Tryd.prog 30 #[.string (bs (up [] x r i k).1), .string ss] V fun en w' => en = .returned (.string (bs (up [] x (s :: r) i n).1)) ∧ Below V.heap.size V w') := fun V => Lib.hid (by rw [e, hss]; exact rnode_calls _ _ hu (Nat.le_of_eq hsl) V)
        have HE : Hid ((up [] x (s :: r) i n).2 = (up [] x r i k).2) := Lib.hid (by rw [e])
        have hik2 : (i : Int) < (k : Int) := by omega
        clear ih ih' hk hm hm' hS hT hsl hl e hu hsx hss hx hi hn hmc hcm
        generalize (up [] x (s :: r) i n).2 = ub' at *
        generalize bs (up [] x (s :: r) i n).1 = su' at *
        generalize bs (up [] x r i k).1 = su at *
        generalize (up [] x r i k).2 = ub at *
        rw [HE.out]
        go_enter Tryd.func17, Tryd.ntmps17
        go_wp2_with fail
        refine (HH w).out.mono ?_
        rintro en w' ⟨rfl, rfl⟩
        go_wp2_with fail
        refine (HI.out w HT.out).mono ?_
        rintro en w1 ⟨rfl, b1⟩
        go_wp2_with fail
        refine (HN w1).out.mono ?_
        rintro en w2 ⟨rfl, b2⟩
        go_wp2_with fail
        go_ret2
        exact ⟨rfl, b1.trans (b2.mono b1.size)⟩
      · have e := up_right [] x s r h1 (by rw [← hk]; exact hik)
        rw [← hk] at e
        obtain ⟨i', hi'⟩ : ∃ i', i' = i - k := ⟨_, rfl⟩
        obtain ⟨n', hn'⟩ : ∃ n', n' = n - k := ⟨_, rfl⟩
        rw [← hi', ← hn'] at e
        have HI := Lib.hid (fun V hT' => ih' i' n' V hT' (by omega) (by omega))
        have hu := up_le (Nat.le_of_eq hx) r i' n'
        have HN : ∀ V, Hid (Calls Tryd.prog 30 #[.string ss, .string (bs (up [] x r i' n').1)] V fun en w' => en = .returned (.string (bs (up [] x (s :: r) i n).1)) ∧ Below V.heap.size V w') := fun V => Lib.hid (by rw [e, hss]; exact rnode_calls _ _ (Nat.le_of_eq hsl) hu V)
        have HE : Hid ((up [] x (s :: r) i n).2 = (up [] x r i' n').2) := Lib.hid (by rw [e])
        have hik2 : ¬ (i : Int) < (k : Int) := by omega
        have a1 : (i : Int) - (k : Int) = (i' : Int) := by omega
        have a2 : (n : Int) - (k : Int) = (n' : Int) := by omega
        have a3 : (i' : Int) ≤ 1000000 := by omega
        have a4 : (n' : Int) ≤ 1000000 := by omega
        clear ih ih' hk hm hm' hS hT hsl hl e hu hsx hss hx hi hn hmc hcm hi' hn'
        generalize (up [] x (s :: r) i n).2 = ub' at *
        generalize bs (up [] x (s :: r) i n).1 = su' at *
        generalize bs (up [] x r i' n').1 = su at *
        generalize (up [] x r i' n').2 = ub at *
        rw [HE.out]
        go_enter Tryd.func17, Tryd.ntmps17
        go_wp2_with fail
        refine (HH w).out.mono ?_
        rintro en w' ⟨rfl, rfl⟩
        go_wp2_with fail
        refine (HI.out w HT.out).mono ?_
        rintro en w1 ⟨rfl, b1⟩
        go_wp2_with fail
        refine (HN w1).out.mono ?_
        rintro en w2 ⟨rfl, b2⟩
        go_wp2_with fail
        go_ret2
        exact ⟨rfl, b1.trans (b2.mono b1.size)⟩
end Go.Proofs.YtiogjmlkogeibaaDoor.prf
