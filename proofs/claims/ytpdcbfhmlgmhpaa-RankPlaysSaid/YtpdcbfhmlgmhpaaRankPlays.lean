/- RankPlays: for every list of acts the law answers true, and its argument reads afterwards as it did. Conditions: none. -/
import Derived.Test.YtpdcbfhmlgmhpaaRankM
import Derived.Test.YtpdcbfhmlgmhpaaRankO
import Derived.Test.YtpdcbfhmlgmhpaaOpen
namespace Go.Proofs.Ytpdcbfhmlgmhpaa.rankPlays
open Go.ChangeShapes Go.WideShapes Go.ChangeAt Go.RowKit

/-- A thing but for its number. -/
def tw (x : Th) : It2 := (x.1, x.2.1)

theorem ins_insI (x : Th) : ∀ (S : List Th), (∀ y ∈ S, y.2.2 < x.2.2) → (ins x S).map tw = insI (tw x) (S.map tw)
  | [], _ => rfl
  | y :: t, h => by
    have ih := ins_insI x t (fun z hz => h z (by simp [hz]))
    have hy := h y (by simp)
    have e : lt x y ↔ x.1 < y.1 := by unfold lt; omega
    by_cases hc : x.1 < y.1
    · have e1 : ins x (y :: t) = x :: y :: t := if_pos (e.2 hc)
      have e2 : insI (tw x) ((y :: t).map tw) = tw x :: tw y :: t.map tw := if_pos hc
      rw [e1, e2]; rfl
    · have e1 : ins x (y :: t) = y :: ins x t := if_neg (fun k => hc (e.1 k))
      have e2 : insI (tw x) ((y :: t).map tw) = tw y :: insI (tw x) (t.map tw) := if_neg hc
      rw [e1, e2, List.map_cons, ih]

theorem keep_keepI (who : Int) (S : List Th) : (keep who S).map tw = keepI who (S.map tw) := by
  unfold keep keepI
  rw [List.filter_map]
  rfl

theorem due_split {t : Int} {A R : List Th} (hs : (A ++ R).Pairwise lt) (hA : ∀ x ∈ A, x.1 ≤ t) (hR : ∀ x s, R = x :: s → ¬ x.1 ≤ t) :
    laterI t ((A ++ R).map tw) = R.map tw ∧ dueI t ((A ++ R).map tw) = A.map (fun x => x.2.1) := by
  have hR2 : ∀ y ∈ R, ¬ y.1 ≤ t := by
    intro y hy
    cases R with
    | nil => simp at hy
    | cons x s =>
      have hx := hR x s rfl
      rcases List.mem_cons.1 hy with rfl | hy
      · exact hx
      · have := (List.pairwise_cons.1 (List.pairwise_append.1 hs).2.1).1 y hy
        unfold lt at this
        omega
  unfold laterI dueI
  have e1 : (A.map tw).filter (fun x => decide (¬ x.1 ≤ t)) = [] := List.filter_eq_nil_iff.2 (fun z hz => by
    obtain ⟨y, hy, rfl⟩ := List.mem_map.1 hz
    show ¬ decide (¬ y.1 ≤ t) = true
    simpa using hA y hy)
  have e2 : (R.map tw).filter (fun x => decide (¬ x.1 ≤ t)) = R.map tw := List.filter_eq_self.2 (fun z hz => by
    obtain ⟨y, hy, rfl⟩ := List.mem_map.1 hz
    show decide (¬ y.1 ≤ t) = true
    simpa using hR2 y hy)
  have e3 : (A.map tw).filter (fun x => decide (x.1 ≤ t)) = A.map tw := List.filter_eq_self.2 (fun z hz => by
    obtain ⟨y, hy, rfl⟩ := List.mem_map.1 hz
    show decide (y.1 ≤ t) = true
    simpa using hA y hy)
  have e4 : (R.map tw).filter (fun x => decide (x.1 ≤ t)) = [] := List.filter_eq_nil_iff.2 (fun z hz => by
    obtain ⟨y, hy, rfl⟩ := List.mem_map.1 hz
    show ¬ decide (y.1 ≤ t) = true
    simpa using hR2 y hy)
  rw [List.map_append, List.filter_append, List.filter_append, e1, e2, e3, e4, List.append_nil, List.map_map]
  exact ⟨rfl, rfl⟩

/-- A queue's blocks are no others. -/
theorem Qs.apart {w : World} {q : Nat} {r : Option Nat} {S : List Th} {n : Int} (h : Qs w q r S n) {g : Nat} {t : TypeId} {cs : Array Value} (hg : Has w g t cs) (h1 : t ≠ 115) (h2 : t ≠ 119) : g ≠ q ∧ r ≠ some g := by
  obtain ⟨l, hl, _⟩ := h.heap
  rcases hl.at_ with ⟨e1, _, e3⟩ | ⟨g', cap, e1, e2⟩
  · exact ⟨fun e => by subst e; exact h1 (hg.uniq e3).2, fun e => by rw [e1] at e; cases e⟩
  · refine ⟨fun e => by subst e; exact h1 (hg.uniq e2.own).2, fun e => ?_⟩
    rw [e1] at e
    injection e with e
    subst e
    obtain ⟨cs', hh, _⟩ := e2.lie
    exact h2 (hg.uniq hh).2

/-- The queue, the document's list, the act. -/
structure Rp (w : World) (q : Nat) (r : Option Nat) (S : List Th) (n : Int) (b : Option Nat) (v : Value) (L : List It2) (wr : World) : Prop where
  qs : Qs wr q r S n
  its : Its wr b v L
  rq : ∀ j, r = some j → w.heap.size ≤ j
  rb : ∀ g, b = some g → w.heap.size ≤ g ∧ g < wr.heap.size
  hq : w.heap.size ≤ q
  turn : Turn (fun j => w.heap.size ≤ j) w wr

section
variable {w wr w' : World} {q : Nat} {r : Option Nat} {S S' : List Th} {n n' : Int} {b b' : Option Nat} {v v' : Value} {L L' : List It2}

theorem Rp.step (h : Rp w q r S n b v L wr) (e : Qs w' q r S' n') (k : Turn (fun j => j = q ∨ r = some j) wr w') : Rp w q r S' n' b v L w' :=
  ⟨e, h.its.turn k (fun g cs _ hg e => by
    obtain ⟨k1, k2⟩ := Qs.apart h.qs hg (by decide) (by decide)
    rcases e with e | e
    · exact k1 e
    · exact k2 e), h.rq, fun g hg => ⟨(h.rb g hg).1, Nat.lt_of_lt_of_le (h.rb g hg).2 k.size⟩, h.hq, h.turn.trans k (fun j _ e => by
    rcases e with e | e
    · rw [e]; exact h.hq
    · exact h.rq j e)⟩

theorem Rp.add (h : Rp w q r S n b v L wr) {g : Nat} (e : Qs w' q (some g) S' n') (a : r = some g ∨ wr.heap.size ≤ g) (k : Turn (fun j => j = q ∨ r = some j) wr w') : Rp w q (some g) S' n' b v L w' := by
  have hg : w.heap.size ≤ g := by
    rcases a with a | a
    · exact h.rq g a
    · exact Nat.le_trans h.turn.size a
  exact ⟨e, h.its.turn k (fun g cs _ hg e => by
    obtain ⟨k1, k2⟩ := Qs.apart h.qs hg (by decide) (by decide)
    rcases e with e | e
    · exact k1 e
    · exact k2 e), fun j e => by injection e with e; subst e; exact hg, fun g hg => ⟨(h.rb g hg).1, Nat.lt_of_lt_of_le (h.rb g hg).2 k.size⟩, h.hq, h.turn.trans k (fun j _ e => by
    rcases e with e | e
    · rw [e]; exact h.hq
    · exact h.rq j e)⟩

theorem Rp.more (h : Rp w q r S n b v L wr) (k : Turn (fun j => wr.heap.size ≤ j) wr w') : Rp w q r S n b v L w' :=
  ⟨h.qs.turn k (fun e => by obtain ⟨l, h1, _⟩ := h.qs.heap; exact absurd h1.cell1.2.2 (Nat.not_lt_of_le e)) (fun j ej e => absurd (h.qs.row j ej) (Nat.not_lt_of_le e)),
    h.its.turn k (fun g cs _ hg => Nat.not_le_of_lt hg.lt), h.rq, fun g hg => ⟨(h.rb g hg).1, Nat.lt_of_lt_of_le (h.rb g hg).2 k.size⟩, h.hq, h.turn.trans k (fun j _ e => Nat.le_trans h.turn.size e)⟩

theorem Rp.still (h : Rp w q r S n b v L wr) (e : Qs w' q r S n) (g : wr.grownBy w' none) : Rp w q r S n b v L w' :=
  h.step e ((Turn.refl _ wr).grown g (fun _ e _ => by cases e))

theorem Rp.list (h : Rp w q r S n b v L wr) (e : Its wr b' v' L') (k : ∀ g, b' = some g → w.heap.size ≤ g ∧ g < wr.heap.size) : Rp w q r S n b' v' L' wr := ⟨h.qs, e, h.rq, k, h.hq, h.turn⟩

/-- An act that was loaded stays where it lies. -/
theorem act_q {p : Nat} {cs : Array Value} (a : Has wr p 71 cs) (h : Rp w q r S n b v L wr) (k : Turn (fun j => j = q ∨ r = some j) wr w') : Has w' p 71 cs :=
  a.turn k (fun e => by
    obtain ⟨k1, k2⟩ := Qs.apart h.qs a (by decide) (by decide)
    rcases e with e | e
    · exact k1 e
    · exact k2 e)
end

theorem its_lt {w : World} {b : Option Nat} {v : Value} {L : List It2} (h : Its w b v L) : ∃ b', Its w b' v L ∧ (∀ g, b' = some g → b = some g ∧ g < w.heap.size) := by
  obtain ⟨a, c, e, h1, h2, h3⟩ := h
  rcases h3 with rfl | ⟨g, o, cs, eb, ea, hh, hc⟩
  · exact ⟨none, ⟨a, c, e, h1, h2, .inl rfl⟩, fun g e => by cases e⟩
  · exact ⟨b, ⟨a, c, e, h1, h2, .inr ⟨g, o, cs, eb, ea, hh, hc⟩⟩, fun g' e => by rw [eb] at e; injection e with e; subst e; exact ⟨eb, hh.lt⟩⟩

theorem its_form {w : World} {b : Option Nat} {v : Value} {L : List It2} (h : Its w b v L) : ∃ a c, v = .slice a L.length c := by
  obtain ⟨a, c, e, _⟩ := h
  exact ⟨a, c, e⟩

/-- The head of the list, and its tail. -/
theorem its_head {w : World} {b : Option Nat} {a : Option Addr} {m c : Nat} {y : It2} {L : List It2} (h : Its w b (.slice a m c) (y :: L)) (hm : m = (y :: L).length) :
    ∃ g o, b = some g ∧ a = some ⟨g, o, none⟩ ∧ w.cell? ⟨g, o, none⟩ = some (.int .i64 y.1) ∧ w.cell? ⟨g, o + 1, none⟩ = some (.int .i64 y.2) ∧ 1 ≤ c ∧ (c = 1 → Its w b (.slice (some ⟨g, o, none⟩) (m - 1) (c - 1)) L) ∧ Its w b (.slice (some ⟨g, o + 2, none⟩) (m - 1) (c - 1)) L ∧ c ≤ maxLen ∧ m ≤ c := by
  obtain ⟨a', c', e, h1, h2, h3⟩ := h
  injection e with e1 e2 e3
  subst e1
  subst e3
  rcases h3 with h3 | ⟨g, o, cs, eb, ea, hh, hc⟩
  · cases h3
  · have k := hc 0 y rfl
    have hml : m - 1 = L.length := by rw [hm, List.length_cons]; omega
    rw [List.length_cons] at h1
    refine ⟨g, o, eb, ea, by rw [hh.cell]; simpa using k.1, by rw [hh.cell]; simpa using k.2, by omega, fun hc1 => ?_, ?_, h2, by rw [hm, List.length_cons]; exact h1⟩
    · refine ⟨_, _, by rw [hml], by omega, by omega, .inl (List.eq_nil_of_length_eq_zero (by omega))⟩
    · refine ⟨_, _, by rw [hml], by omega, by omega, .inr ⟨g, o + 2, cs, eb, rfl, hh, fun i x hx => ?_⟩⟩
      have h5 := hc (i + 1) x (by simpa using hx)
      have e5 : o + (i + 1) * 2 = o + 2 + i * 2 := by omega
      rw [e5] at h5
      exact h5

/-- The acts of a slice that is handed in. -/
def ArgA (w : World) (a : Option Addr) (len : Nat) : Prop :=
  len ≤ maxLen ∧ ∀ i, i < len → ∃ b o, a = some ⟨b, o, none⟩ ∧ b < w.heap.size ∧ ∃ (k t u : Int),
    w.cell? ⟨b, o + i * 3, none⟩ = some (.int .i64 k) ∧ w.cell? ⟨b, o + i * 3 + 1, none⟩ = some (.int .i64 t) ∧ w.cell? ⟨b, o + i * 3 + 2, none⟩ = some (.int .i64 u)

theorem openedA {H : Type} {enc : TypeId × Value → H} {w : World} {spare : Nat → Bool} {held : Bool} {a : Option Addr} {len cap : Nat} {d : DataW H} {p : List MemPlace} (h : DataW.Trod enc Try.prog w 0 spare held 66 (.slice a len cap) d p) : ArgA w a len := by
  obtain ⟨h1, h2, h3⟩ := opened_rows Try.underlying66 Try.underlying71 (by kernel_rfl) (by kernel_rfl) (by decide) h
  refine ⟨Nat.le_trans h1 h2, fun i hi => ?_⟩
  obtain ⟨b, o, e, hb, hf⟩ := h3 i hi
  obtain ⟨v0, n0, y0, c0, t0⟩ := hf 0 _ rfl
  obtain ⟨v1, n1, y1, c1, t1⟩ := hf 1 _ rfl
  obtain ⟨v2, n2, y2, c2, t2⟩ := hf 2 _ rfl
  obtain ⟨k, ek, _, _⟩ := DataW.trod_int Try.underlying3 t0
  obtain ⟨t, et, _, _⟩ := DataW.trod_int Try.underlying3 t1
  obtain ⟨u, eu, _, _⟩ := DataW.trod_int Try.underlying3 t2
  simp only [List.cons.injEq, and_true] at ek et eu
  subst ek; subst et; subst eu
  exact ⟨b, o, e, hb, k, t, u, c0, c1, c2⟩

theorem ArgA.turn {w wr : World} {a : Option Addr} {len : Nat} (h : ArgA w a len) (t : Turn (fun j => w.heap.size ≤ j) w wr) : ArgA wr a len := by
  refine ⟨h.1, fun i hi => ?_⟩
  obtain ⟨b, o, e, hb, k, p, u, c0, c1, c2⟩ := h.2 i hi
  have ht : ∀ q : Nat, wr.cell? ⟨b, q, none⟩ = w.cell? ⟨b, q, none⟩ := fun q => Turn.cell t hb (fun h3 => Nat.not_lt_of_le h3 hb)
  exact ⟨b, o, e, Nat.lt_of_lt_of_le hb t.size, k, p, u, by rw [ht]; exact c0, by rw [ht]; exact c1, by rw [ht]; exact c2⟩

set_option maxRecDepth 100000 in
set_option maxHeartbeats 4000000 in
theorem plays_any (a : Option Addr) (len cap : Nat) (w : World) (hA : ArgA w a len) :
    Calls Try.prog 10 #[.slice a len cap] w fun en w' => en = .returned (.bool true) ∧ Below w.heap.size w w' := by
  have hlen : len ≤ 9223372036854775807 := by have := hA.1; unfold maxLen at this; omega
  have HA := Lib.hid hA
  clear hA
  go_enter Try.func10, Try.ntmps10
  go_wp2_with fail
  refine (awake_any w).mono ?_
  rintro en w1 ⟨rfl, b1⟩
  have T1 : Hid (Turn (fun j => w.heap.size ≤ j) w w1) := Turn.of_below b1 (fun _ _ e => e)
  clear b1
  go_wp2_with fail
  refine (qs_new w1).mono ?_
  rintro en w2 ⟨rfl, q2, g2⟩
  obtain ⟨q, eq⟩ : ∃ q, q = w1.heap.size := ⟨_, rfl⟩
  rw [← eq] at q2 ⊢
  have hq : w.heap.size ≤ q := by rw [eq]; exact T1.out.size
  have R2 : Hid (Rp w q none [] 0 none (.slice none 0 0) [] w2) := Lib.hid ⟨q2, ⟨none, 0, rfl, Nat.le_refl _, Nat.zero_le _, .inl rfl⟩, by simp, by simp, hq, T1.out.grown g2 (fun j e _ => by cases e)⟩
  clear q2 g2 T1 eq
  go_wp2_with fail
  have HW : Hid (Rp w q none [] 0 none (.slice (some ⟨w2.heap.size, 0, none⟩) 0 0) [] (w2.alloc (.cells #[] 75))) := Lib.hid ((R2.out.more ((Turn.refl _ _).alloc _)).list ⟨_, 0, rfl, Nat.le_refl _, Nat.zero_le _, .inl rfl⟩ (by simp))
  clear R2
  go_loopw [4, 5] (fun v i wr => ∃ (k : Nat) (r : Option Nat) (S : List Th) (n : Nat) (b : Option Nat) (L : List It2), i = .int .i64 k ∧ k ≤ 80 ∧ k ≤ len ∧ n ≤ k ∧ S.length ≤ k ∧ Hid (L = S.map tw) ∧ Hid (Rp w q r S n b v L wr)) (fun _ i _ => 80 - (intOf i).toNat)
  case atStart => exact ⟨0, none, [], 0, none, [], rfl, by omega, Nat.zero_le _, Nat.le_refl _, Nat.le_refl _, Lib.hid rfl, HW⟩
  case round =>
    obtain ⟨k, r, S, n, b, L, rfl, hk80, hkl, hnk, hSk, HT, HD⟩ := hrel
    clear HW
    by_cases hk : k < len ∧ k < 80
    · obtain ⟨hk1, hk2⟩ := hk
      have hk1' : (k : Int) < (len : Int) := by omega
      have hk2' : (k : Int) < 80 := by omega
      have hk0' : (0 : Int) ≤ (k : Int) := by omega
      obtain ⟨ab, ao, rfl, hab, K, t, u, c0, c1, c2⟩ := (HA.out.turn HD.out.turn).2 k hk1
      have hLl : L.length ≤ 80 := by rw [HT.out, List.length_map]; omega
      obtain ⟨va, vc, ev, hvc, hvm, _⟩ := HD.out.its
      subst ev
      obtain ⟨m, hm⟩ : ∃ m, m = L.length := ⟨_, rfl⟩
      rw [← hm] at HD hvc hLl ⊢
      have HM := Lib.hid hm
      clear hm hvm
      have D1 := Lib.hid (HD.out.more (w' := wr.alloc (.cells #[.int .i64 K, .int .i64 t, .int .i64 u] 71)) ((Turn.refl _ _).alloc _))
      have A1 : Hid (Has (wr.alloc (.cells #[.int .i64 K, .int .i64 t, .int .i64 u] 71)) wr.heap.size 71 #[.int .i64 K, .int .i64 t, .int .i64 u]) := Lib.hid (Has.made _ _ _)
      have hLL : L.length ≤ 1000 := by rw [← HM.out]; omega
      have hnum := Lib.hid D1.out.qs.nums
      clear HD
      by_cases h1 : K = 1
      · subst h1
        go_wp2_with fail
        refine (qs_add q r S n t u _ D1.out.qs (by omega) (by omega) (by omega)).mono ?_
        rintro en w3 ⟨rfl, g3, q3, a3, t3⟩
        have A3 := act_q A1.out D1.out t3
        have D3 := Lib.hid (D1.out.add q3 a3 t3)
        have a1 : w3.cell? ⟨wr.heap.size, 1, none⟩ = some (.int .i64 t) := A3.cell 1
        have a2 : w3.cell? ⟨wr.heap.size, 2, none⟩ = some (.int .i64 u) := A3.cell 2
        clear q3 a3 t3 A3 A1 D1 c0 c1 c2
        go_wp2_with fail
        refine (fadd_calls b _ L t u w3 D3.out.its (fun g e => (D3.out.rb g e).2) hLL).mono ?_
        rintro en w4 ⟨v4, b4, rfl, i4, n4, bl4⟩
        obtain ⟨b5, i5, n5⟩ := its_lt i4
        obtain ⟨ta, tc, ev4⟩ := its_form i5
        subst ev4
        have D4 := Lib.hid ((D3.out.more (Turn.of_below bl4 (fun _ _ e => e))).list i5 (fun g e => ⟨Nat.le_trans D3.out.turn.size (n4 g (n5 g e).1), (n5 g e).2⟩))
        have HT4 : Hid (insI (t, u) L = (ins (t, u, (n : Int)) S).map tw) := Lib.hid (by rw [ins_insI _ S hnum.out, HT.out]; rfl)
        have hS4 : (ins (t, u, (n : Int)) S).length ≤ k + 1 := by rw [(ins_perm _ S).length_eq, List.length_cons]; omega
        clear i4 n4 bl4 i5 n5 D3 a1 a2
        generalize insI (t, u) L = L4 at *
        generalize ins (t, u, (n : Int)) S = S4 at *
        obtain ⟨m4, hm4⟩ : ∃ m4, m4 = L4.length := ⟨_, rfl⟩
        rw [← hm4] at D4 ⊢
        have HM4 := Lib.hid hm4
        clear hm4
        have hN4 : (n : Int) + 1 = ((n + 1 : Nat) : Int) := by rw [Int.natCast_add]; rfl
        rw [hN4] at D4
        clear hN4
        -- the tail
        cases hcs : S4 with
        | nil =>
          have hz : m4 = 0 := by first | (rw [HM4.out, HT4.out, hcs]; rfl) | rw [HM4.out, HT4.out, hcs]
          have HZ := Lib.hid hz
          have DD := D4
          rw [hcs] at DD
          try rw [hz]
          have HT9 : Hid (L4 = ([] : List Th).map tw) := Lib.hid (by rw [HT4.out, hcs])
          clear hz
          go_wp2_with fail
          refine (qs_first q (some g3) [] ((n + 1 : Nat) : Int) _ DD.out.qs).mono ?_
          unfold firstOf
          rintro en w8 ⟨rfl, q8, g8⟩
          have D8 := Lib.hid (DD.out.still q8 g8)
          clear q8 g8
          go_wp2_with fail
          refine (qs_len q (some g3) [] ((n + 1 : Nat) : Int) w8 D8.out.qs).mono ?_
          rintro en w9 ⟨rfl, rfl⟩
          go_wp2_with fail
          refine ⟨⟨k + 1, (some g3), [], (n + 1), b5, L4, by rw [Int.natCast_add]; rfl, by omega, by omega, by omega, Nat.zero_le _, HT9, by rw [← HZ.out]; exact D8⟩, ?_⟩
          show 80 - ((k : Int) + 1).toNat < 80 - ((k : Int)).toNat
          omega
        | cons x S9 =>
          have DD := D4
          rw [hcs] at DD
          have hl9 : L4 = tw x :: S9.map tw := by rw [HT4.out, hcs]; rfl
          have HT9 : Hid (L4 = (x :: S9).map tw) := Lib.hid hl9
          have hlen9 : (x :: S9).length = m4 := by rw [HM4.out, hl9, List.length_cons, List.length_cons, List.length_map]
          have HL9 := Lib.hid hlen9
          have HI9 := Lib.hid hl9
          have hS9 : (x :: S9).length ≤ k + 1 := by rw [← hcs]; omega
          have hp9 : (0 : Int) < ((m4 : Nat) : Int) := by rw [← hlen9, List.length_cons]; omega
          clear hl9 hlen9
          go_wp2_with fail
          refine (qs_first q (some g3) (x :: S9) ((n + 1 : Nat) : Int) _ DD.out.qs).mono ?_
          unfold firstOf
          rintro en w8 ⟨rfl, q8, g8⟩
          have D8 := Lib.hid (DD.out.still q8 g8)
          clear q8 g8
          have hits : Its w8 b5 (.slice ta (m4) (tc)) (tw x :: S9.map tw) := by rw [← HI9.out]; exact D8.out.its
          obtain ⟨g9, o9, eb9, ea9, c90, c91, _, _, _, _, _⟩ := its_head hits (by rw [← HI9.out]; exact HM4.out)
          have E9 := Lib.hid ea9
          rw [ea9]
          clear hits eb9 ea9
          have c90' : w8.cell? ⟨g9, o9, none⟩ = some (.int .i64 x.1) := c90
          have c91' : w8.cell? ⟨g9, o9 + 1, none⟩ = some (.int .i64 x.2.1) := c91
          clear c90 c91
          go_wp2_with fail
          have hl := qs_len q (some g3) (x :: S9) ((n + 1 : Nat) : Int) w8 D8.out.qs
          rw [HL9.out] at hl
          refine hl.mono ?_
          rintro en w9 ⟨rfl, rfl⟩
          clear hl
          go_wp2_with fail
          refine ⟨⟨k + 1, (some g3), x :: S9, (n + 1), b5, L4, by rw [Int.natCast_add]; rfl, by omega, by omega, by omega, hS9, HT9, by rw [← E9.out]; exact D8⟩, ?_⟩
          show 80 - ((k : Int) + 1).toNat < 80 - ((k : Int)).toNat
          omega
      · by_cases h2 : K = 2
        · subst h2
          clear h1
          have hSn : S.length ≤ k := hSk
          cases hcs2 : S with
          | nil =>
            have hmz : (m : Int) ≤ 0 := by have h1 := HM.out; have h2 := HT.out; rw [hcs2] at h2; rw [h1, h2]; exact Int.le_refl _
            have D2 := D1
            rw [hcs2] at D2
            go_wp2_with fail
            refine (qs_take q r [] n _ D2.out.qs).mono ?_
            unfold firstOf
            rintro en w3 ⟨rfl, q3, t3⟩
            have D3 : Hid (Rp w q r [] n b (.slice va m vc) L w3) := Lib.hid (D2.out.step q3 t3)
            clear q3 t3 A1 D1 D2 c0 c1 c2
            go_wp2_with fail
            rw [← hcs2] at D3
            clear hmz
            have hz : m = 0 := by first | (rw [HM.out, HT.out, hcs2]; rfl) | rw [HM.out, HT.out, hcs2]
            have HZ := Lib.hid hz
            have DD := D3
            rw [hcs2] at DD
            try rw [hz]
            have HT9 : Hid (L = ([] : List Th).map tw) := Lib.hid (by rw [HT.out, hcs2])
            clear hz
            go_wp2_with fail
            refine (qs_first q r [] (n : Int) _ DD.out.qs).mono ?_
            unfold firstOf
            rintro en w8 ⟨rfl, q8, g8⟩
            have D8 := Lib.hid (DD.out.still q8 g8)
            clear q8 g8
            go_wp2_with fail
            refine (qs_len q r [] (n : Int) w8 D8.out.qs).mono ?_
            rintro en w9 ⟨rfl, rfl⟩
            go_wp2_with fail
            refine ⟨⟨k + 1, r, [], n, b, L, by rw [Int.natCast_add]; rfl, by omega, by omega, by omega, Nat.zero_le _, HT9, by rw [← HZ.out]; exact D8⟩, ?_⟩
            show 80 - ((k : Int) + 1).toNat < 80 - ((k : Int)).toNat
            omega
          | cons x S' =>
            have D2 := D1
            rw [hcs2] at D2
            have hl2 : L = tw x :: S'.map tw := by rw [HT.out, hcs2]; rfl
            have HL2 := Lib.hid hl2
            have hm2 : m = S'.length + 1 := by rw [HM.out, hl2, List.length_cons, List.length_map]
            have HM2 := Lib.hid hm2
            have hp2 : (0 : Int) < (m : Int) := by omega
            have hS2 : S'.length + 1 ≤ k := by rw [hcs2, List.length_cons] at hSn; exact hSn
            clear hm2 hl2
            go_wp2_with fail
            refine (qs_take q r (x :: S') n _ D2.out.qs).mono ?_
            unfold firstOf
            rintro en w3 ⟨rfl, q3, t3⟩
            have D3 := Lib.hid (D2.out.step q3 t3)
            clear q3 t3 A1 D1 D2 c0 c1 c2
            have hits : Its w3 b (.slice va m vc) (tw x :: S'.map tw) := by rw [← HL2.out]; exact D3.out.its
            obtain ⟨g3, o3, eb3, ea3, d0, d1, hc1, hI1, hI2, hcm, hmc⟩ := its_head hits (by rw [← HL2.out]; exact HM.out)
            have d0' : w3.cell? ⟨g3, o3, none⟩ = some (.int .i64 x.1) := d0
            have d1' : w3.cell? ⟨g3, o3 + 1, none⟩ = some (.int .i64 x.2.1) := d1
            rw [ea3]
            have hmc' : (m : Int) ≤ (vc : Int) := by omega
            have h1m : (1 : Int) ≤ (m : Int) := by omega
            have h1m' : 1 ≤ m := by omega
            have hvc1 : (1 : Int) ≤ (vc : Int) := by omega
            obtain ⟨L3, hL3⟩ : ∃ L3 : List It2, L3 = S'.map tw := ⟨_, rfl⟩
            have HT3 := Lib.hid hL3
            have HM3 : Hid (m - 1 = L3.length) := Lib.hid (by rw [HM2.out, hL3, List.length_map]; omega)
            rw [← hL3] at hI1 hI2
            clear hL3
            have hSk3 : S'.length ≤ k := by omega
            clear hits d0 d1 hcm hmc eb3 ea3
            by_cases hone : vc = 1
            · have D4 := Lib.hid (D3.out.list (hI1 hone) D3.out.rb)
              clear hI1 hI2 D3 hc1
              have hm1 : m = 1 := by omega
              have hSe : S' = [] := List.eq_nil_of_length_eq_zero (by have := HM2.out; omega)
              have HL0 : Hid (0 = L3.length) := Lib.hid (by rw [← HM3.out, hm1])
              have HM1 := Lib.hid hm1
              have D5 : Hid (Rp w q r S' n b (.slice (some ⟨g3, o3, none⟩) 0 0) L3 w3) := Lib.hid (by have h := D4.out; rw [hm1, hone] at h; exact h)
              clear D4
              subst hone
              go_wp2_with fail
              rw [hSe] at D5
              refine (qs_first q r [] n _ D5.out.qs).mono ?_
              unfold firstOf
              rintro en w8 ⟨rfl, q8, g8⟩
              have D8 := Lib.hid (D5.out.still q8 g8)
              clear q8 g8
              go_wp2_with fail
              refine (qs_len q r [] n w8 D8.out.qs).mono ?_
              rintro en w9 ⟨rfl, rfl⟩
              have HT9 : Hid (L3 = ([] : List Th).map tw) := Lib.hid (by rw [HT3.out, hSe])
              go_wp2_with fail
              refine ⟨⟨k + 1, r, [], n, b, L3, by rw [Int.natCast_add]; rfl, by omega, by omega, by omega, Nat.zero_le _, HT9, D8⟩, ?_⟩
              show 80 - ((k : Int) + 1).toNat < 80 - ((k : Int)).toNat
              omega
            · have D4 := Lib.hid (D3.out.list hI2 D3.out.rb)
              clear hI1 hI2 D3 hc1
              go_wp2_with fail
              clear hp2 hmc' h1m h1m' hvc1 HM2
              generalize m - 1 = m3 at *
              generalize vc - 1 = vc3 at *
              -- the tail
              cases hcs : S' with
              | nil =>
                have hz : m3 = 0 := by first | (rw [HM3.out, HT3.out, hcs]; rfl) | rw [HM3.out, HT3.out, hcs]
                have HZ := Lib.hid hz
                have DD := D4
                rw [hcs] at DD
                try rw [hz]
                have HT9 : Hid (L3 = ([] : List Th).map tw) := Lib.hid (by rw [HT3.out, hcs])
                clear hz
                go_wp2_with fail
                refine (qs_first q r [] (n : Int) _ DD.out.qs).mono ?_
                unfold firstOf
                rintro en w8 ⟨rfl, q8, g8⟩
                have D8 := Lib.hid (DD.out.still q8 g8)
                clear q8 g8
                go_wp2_with fail
                refine (qs_len q r [] (n : Int) w8 D8.out.qs).mono ?_
                rintro en w9 ⟨rfl, rfl⟩
                go_wp2_with fail
                refine ⟨⟨k + 1, r, [], n, b, L3, by rw [Int.natCast_add]; rfl, by omega, by omega, by omega, Nat.zero_le _, HT9, by rw [← HZ.out]; exact D8⟩, ?_⟩
                show 80 - ((k : Int) + 1).toNat < 80 - ((k : Int)).toNat
                omega
              | cons x S9 =>
                have DD := D4
                rw [hcs] at DD
                have hl9 : L3 = tw x :: S9.map tw := by rw [HT3.out, hcs]; rfl
                have HT9 : Hid (L3 = (x :: S9).map tw) := Lib.hid hl9
                have hlen9 : (x :: S9).length = m3 := by rw [HM3.out, hl9, List.length_cons, List.length_cons, List.length_map]
                have HL9 := Lib.hid hlen9
                have HI9 := Lib.hid hl9
                have hS9 : (x :: S9).length ≤ k + 1 := by rw [← hcs]; omega
                have hp9 : (0 : Int) < ((m3 : Nat) : Int) := by rw [← hlen9, List.length_cons]; omega
                clear hl9 hlen9
                go_wp2_with fail
                refine (qs_first q r (x :: S9) (n : Int) _ DD.out.qs).mono ?_
                unfold firstOf
                rintro en w8 ⟨rfl, q8, g8⟩
                have D8 := Lib.hid (DD.out.still q8 g8)
                clear q8 g8
                have hits : Its w8 b (.slice (some ⟨g3, o3 + 2, none⟩) (m3) (vc3)) (tw x :: S9.map tw) := by rw [← HI9.out]; exact D8.out.its
                obtain ⟨g9, o9, eb9, ea9, c90, c91, _, _, _, _, _⟩ := its_head hits (by rw [← HI9.out]; exact HM3.out)
                have E9 := Lib.hid ea9
                rw [ea9]
                clear hits eb9 ea9
                have c90' : w8.cell? ⟨g9, o9, none⟩ = some (.int .i64 x.1) := c90
                have c91' : w8.cell? ⟨g9, o9 + 1, none⟩ = some (.int .i64 x.2.1) := c91
                clear c90 c91
                go_wp2_with fail
                have hl := qs_len q r (x :: S9) (n : Int) w8 D8.out.qs
                rw [HL9.out] at hl
                refine hl.mono ?_
                rintro en w9 ⟨rfl, rfl⟩
                clear hl
                go_wp2_with fail
                refine ⟨⟨k + 1, r, x :: S9, n, b, L3, by rw [Int.natCast_add]; rfl, by omega, by omega, by omega, hS9, HT9, by rw [← E9.out]; exact D8⟩, ?_⟩
                show 80 - ((k : Int) + 1).toNat < 80 - ((k : Int)).toNat
                omega
        · by_cases h3 : K = 3
          · subst h3
            clear h1 h2
            go_wp2_with fail
            refine (qs_drop q r S u n _ D1.out.qs).mono ?_
            rintro en w3 ⟨rfl, q3, t3⟩
            have A3 := act_q A1.out D1.out t3
            have D3 := Lib.hid (D1.out.step q3 t3)
            have a1 : w3.cell? ⟨wr.heap.size, 1, none⟩ = some (.int .i64 t) := A3.cell 1
            have a2 : w3.cell? ⟨wr.heap.size, 2, none⟩ = some (.int .i64 u) := A3.cell 2
            clear q3 t3 A3 A1 D1 c0 c1 c2
            have hks := keep_len u S
            obtain ⟨m4, hm4⟩ : ∃ m4, m4 = (keepI u L).length := ⟨_, rfl⟩
            have e3 : (S.length : Int) - ((keep u S).length : Int) = (m : Int) - (m4 : Int) := by
              have k1 : m = S.length := by rw [HM.out, HT.out, List.length_map]
              have k2 : m4 = (keep u S).length := by rw [hm4, HT.out, ← keep_keepI, List.length_map]
              rw [k1, k2]
            rw [e3]
            have hm4' : (m4 : Int) ≤ (m : Int) := by
              have k1 : m = S.length := by rw [HM.out, HT.out, List.length_map]
              have k2 : m4 = (keep u S).length := by rw [hm4, HT.out, ← keep_keepI, List.length_map]
              omega
            have HM4 := Lib.hid hm4
            clear e3 hm4
            go_wp2_with fail
            refine (fdrop_calls b _ L u w3 D3.out.its (fun g e => (D3.out.rb g e).2) hLL).mono ?_
            rintro en w4 ⟨v4, b4, rfl, i4, n4, bl4⟩
            obtain ⟨b5, i5, n5⟩ := its_lt i4
            obtain ⟨ta, tc, ev4⟩ := its_form i5
            subst ev4
            have D4 := Lib.hid ((D3.out.more (Turn.of_below bl4 (fun _ _ e => e))).list i5 (fun g e => ⟨Nat.le_trans D3.out.turn.size (n4 g (n5 g e).1), (n5 g e).2⟩))
            have HT4 : Hid (keepI u L = (keep u S).map tw) := Lib.hid (by rw [keep_keepI, HT.out])
            have hS4 : (keep u S).length ≤ k + 1 := by omega
            clear i4 n4 bl4 i5 n5 D3 a1 a2
            rw [← HM4.out] at D4 ⊢
            generalize keepI u L = L4 at *
            generalize keep u S = S4 at *
            go_wp2_with fail
            -- the tail
            cases hcs : S4 with
            | nil =>
              have hz : m4 = 0 := by first | (rw [HM4.out, HT4.out, hcs]; rfl) | rw [HM4.out, HT4.out, hcs]
              have HZ := Lib.hid hz
              have DD := D4
              rw [hcs] at DD
              try rw [hz]
              have HT9 : Hid (L4 = ([] : List Th).map tw) := Lib.hid (by rw [HT4.out, hcs])
              clear hz
              go_wp2_with fail
              refine (qs_first q r [] (n : Int) _ DD.out.qs).mono ?_
              unfold firstOf
              rintro en w8 ⟨rfl, q8, g8⟩
              have D8 := Lib.hid (DD.out.still q8 g8)
              clear q8 g8
              go_wp2_with fail
              refine (qs_len q r [] (n : Int) w8 D8.out.qs).mono ?_
              rintro en w9 ⟨rfl, rfl⟩
              go_wp2_with fail
              refine ⟨⟨k + 1, r, [], n, b5, L4, by rw [Int.natCast_add]; rfl, by omega, by omega, by omega, Nat.zero_le _, HT9, by rw [← HZ.out]; exact D8⟩, ?_⟩
              show 80 - ((k : Int) + 1).toNat < 80 - ((k : Int)).toNat
              omega
            | cons x S9 =>
              have DD := D4
              rw [hcs] at DD
              have hl9 : L4 = tw x :: S9.map tw := by rw [HT4.out, hcs]; rfl
              have HT9 : Hid (L4 = (x :: S9).map tw) := Lib.hid hl9
              have hlen9 : (x :: S9).length = m4 := by rw [HM4.out, hl9, List.length_cons, List.length_cons, List.length_map]
              have HL9 := Lib.hid hlen9
              have HI9 := Lib.hid hl9
              have hS9 : (x :: S9).length ≤ k + 1 := by rw [← hcs]; omega
              have hp9 : (0 : Int) < ((m4 : Nat) : Int) := by rw [← hlen9, List.length_cons]; omega
              clear hl9 hlen9
              go_wp2_with fail
              refine (qs_first q r (x :: S9) (n : Int) _ DD.out.qs).mono ?_
              unfold firstOf
              rintro en w8 ⟨rfl, q8, g8⟩
              have D8 := Lib.hid (DD.out.still q8 g8)
              clear q8 g8
              have hits : Its w8 b5 (.slice ta (m4) (tc)) (tw x :: S9.map tw) := by rw [← HI9.out]; exact D8.out.its
              obtain ⟨g9, o9, eb9, ea9, c90, c91, _, _, _, _, _⟩ := its_head hits (by rw [← HI9.out]; exact HM4.out)
              have E9 := Lib.hid ea9
              rw [ea9]
              clear hits eb9 ea9
              have c90' : w8.cell? ⟨g9, o9, none⟩ = some (.int .i64 x.1) := c90
              have c91' : w8.cell? ⟨g9, o9 + 1, none⟩ = some (.int .i64 x.2.1) := c91
              clear c90 c91
              go_wp2_with fail
              have hl := qs_len q r (x :: S9) (n : Int) w8 D8.out.qs
              rw [HL9.out] at hl
              refine hl.mono ?_
              rintro en w9 ⟨rfl, rfl⟩
              clear hl
              go_wp2_with fail
              refine ⟨⟨k + 1, r, x :: S9, n, b5, L4, by rw [Int.natCast_add]; rfl, by omega, by omega, by omega, hS9, HT9, by rw [← E9.out]; exact D8⟩, ?_⟩
              show 80 - ((k : Int) + 1).toNat < 80 - ((k : Int)).toNat
              omega
          · by_cases h4 : K = 4
            · subst h4
              clear h1 h2 h3
              go_wp2_with fail
              refine (qs_due q r S n t _ D1.out.qs).mono ?_
              rintro en w3 ⟨v3, A, R, rfl, d3⟩
              have A3 := act_q A1.out D1.out d3.turn
              have D3 := Lib.hid (D1.out.step d3.qs d3.turn)
              have a1 : w3.cell? ⟨wr.heap.size, 1, none⟩ = some (.int .i64 t) := A3.cell 1
              have a2 : w3.cell? ⟨wr.heap.size, 2, none⟩ = some (.int .i64 u) := A3.cell 2
              have hso := D1.out.qs.sorted
              rw [d3.split] at hso
              obtain ⟨s1, s2⟩ := due_split hso d3.due d3.later
              rw [← d3.split, ← HT.out] at s1 s2
              have hRl : A.length + R.length ≤ k := by have h := hSk; rw [d3.split, List.length_append] at h; exact h
              have S1 := Lib.hid s1
              have S2 := Lib.hid s2
              have IN := Lib.hid d3.ints
              clear A3 A1 D1 c0 c1 c2 d3 hso s1 s2
              go_wp2_with fail
              refine (fdue_calls b _ L t w3 D3.out.its (fun g e => (D3.out.rb g e).2) hLL).mono ?_
              rintro en w4 ⟨v4, b4, u4', rfl, i4, n4, in4, _, bl4⟩
              obtain ⟨b5, i5, n5⟩ := its_lt i4
              obtain ⟨ta, tc, ev4⟩ := its_form i5
              subst ev4
              have D4 := Lib.hid ((D3.out.more (Turn.of_below bl4 (fun _ _ e => e))).list i5 (fun g e => ⟨Nat.le_trans D3.out.turn.size (n4 g (n5 g e).1), (n5 g e).2⟩))
              have I4 := Lib.hid (IN.out.turn (Turn.of_below (F := fun j => w3.heap.size ≤ j) bl4 (fun _ _ e => e)) (fun g hg => Nat.not_le_of_lt (own_lt IN.out hg)))
              have J4 : Hid (Ints w4 u4' (A.map (fun x => x.2.1))) := Lib.hid (by rw [← S2.out]; exact in4)
              have HT4 : Hid (laterI t L = R.map tw) := S1
              clear i4 n4 bl4 i5 n5 D3 a1 a2 IN in4 S2 S1
              obtain ⟨m4, hm4⟩ : ∃ m4, m4 = (laterI t L).length := ⟨_, rfl⟩
              rw [← hm4] at D4 ⊢
              have HM4 := Lib.hid hm4
              clear hm4
              generalize laterI t L = L4 at *
              go_wp2_with fail
              refine (same_calls v3 u4' _ w4 I4.out J4.out (by rw [List.length_map]; omega)).mono ?_
              rintro en w5 ⟨rfl, g5⟩
              have D5 := Lib.hid (D4.out.still (D4.out.qs.turn ((Turn.refl (fun _ => False) w4).grown g5 (fun _ e _ => by cases e)) (fun e => e) (fun _ _ e => e)) g5)
              clear g5 D4 I4 J4
              go_wp2_with fail
              -- the tail
              cases hcs : R with
              | nil =>
                have hz : m4 = 0 := by first | (rw [HM4.out, HT4.out, hcs]; rfl) | rw [HM4.out, HT4.out, hcs]
                have HZ := Lib.hid hz
                have DD := D5
                rw [hcs] at DD
                try rw [hz]
                have HT9 : Hid (L4 = ([] : List Th).map tw) := Lib.hid (by rw [HT4.out, hcs])
                clear hz
                go_wp2_with fail
                refine (qs_first q r [] (n : Int) _ DD.out.qs).mono ?_
                unfold firstOf
                rintro en w8 ⟨rfl, q8, g8⟩
                have D8 := Lib.hid (DD.out.still q8 g8)
                clear q8 g8
                go_wp2_with fail
                refine (qs_len q r [] (n : Int) w8 D8.out.qs).mono ?_
                rintro en w9 ⟨rfl, rfl⟩
                go_wp2_with fail
                refine ⟨⟨k + 1, r, [], n, b5, L4, by rw [Int.natCast_add]; rfl, by omega, by omega, by omega, Nat.zero_le _, HT9, by rw [← HZ.out]; exact D8⟩, ?_⟩
                show 80 - ((k : Int) + 1).toNat < 80 - ((k : Int)).toNat
                omega
              | cons x S9 =>
                have DD := D5
                rw [hcs] at DD
                have hl9 : L4 = tw x :: S9.map tw := by rw [HT4.out, hcs]; rfl
                have HT9 : Hid (L4 = (x :: S9).map tw) := Lib.hid hl9
                have hlen9 : (x :: S9).length = m4 := by rw [HM4.out, hl9, List.length_cons, List.length_cons, List.length_map]
                have HL9 := Lib.hid hlen9
                have HI9 := Lib.hid hl9
                have hS9 : (x :: S9).length ≤ k + 1 := by rw [← hcs]; omega
                have hp9 : (0 : Int) < ((m4 : Nat) : Int) := by rw [← hlen9, List.length_cons]; omega
                clear hl9 hlen9
                go_wp2_with fail
                refine (qs_first q r (x :: S9) (n : Int) _ DD.out.qs).mono ?_
                unfold firstOf
                rintro en w8 ⟨rfl, q8, g8⟩
                have D8 := Lib.hid (DD.out.still q8 g8)
                clear q8 g8
                have hits : Its w8 b5 (.slice ta (m4) (tc)) (tw x :: S9.map tw) := by rw [← HI9.out]; exact D8.out.its
                obtain ⟨g9, o9, eb9, ea9, c90, c91, _, _, _, _, _⟩ := its_head hits (by rw [← HI9.out]; exact HM4.out)
                have E9 := Lib.hid ea9
                rw [ea9]
                clear hits eb9 ea9
                have c90' : w8.cell? ⟨g9, o9, none⟩ = some (.int .i64 x.1) := c90
                have c91' : w8.cell? ⟨g9, o9 + 1, none⟩ = some (.int .i64 x.2.1) := c91
                clear c90 c91
                go_wp2_with fail
                have hl := qs_len q r (x :: S9) (n : Int) w8 D8.out.qs
                rw [HL9.out] at hl
                refine hl.mono ?_
                rintro en w9 ⟨rfl, rfl⟩
                clear hl
                go_wp2_with fail
                refine ⟨⟨k + 1, r, x :: S9, n, b5, L4, by rw [Int.natCast_add]; rfl, by omega, by omega, by omega, hS9, HT9, by rw [← E9.out]; exact D8⟩, ?_⟩
                show 80 - ((k : Int) + 1).toNat < 80 - ((k : Int)).toNat
                omega
            · have k1 : (K == 1) = false := by simpa using h1
              have k2 : (K == 2) = false := by simpa using h2
              have k3 : (K == 3) = false := by simpa using h3
              have k4 : (K == 4) = false := by simpa using h4
              clear h1 h2 h3 h4
              -- the tail
              cases hcs : S with
              | nil =>
                have hz : m = 0 := by first | (rw [HM.out, HT.out, hcs]; rfl) | rw [HM.out, HT.out, hcs]
                have HZ := Lib.hid hz
                have DD := D1
                rw [hcs] at DD
                try rw [hz]
                have HT9 : Hid (L = ([] : List Th).map tw) := Lib.hid (by rw [HT.out, hcs])
                clear hz
                go_wp2_with fail
                refine (qs_first q r [] (n : Int) _ DD.out.qs).mono ?_
                unfold firstOf
                rintro en w8 ⟨rfl, q8, g8⟩
                have D8 := Lib.hid (DD.out.still q8 g8)
                clear q8 g8
                go_wp2_with fail
                refine (qs_len q r [] (n : Int) w8 D8.out.qs).mono ?_
                rintro en w9 ⟨rfl, rfl⟩
                go_wp2_with fail
                refine ⟨⟨k + 1, r, [], n, b, L, by rw [Int.natCast_add]; rfl, by omega, by omega, by omega, Nat.zero_le _, HT9, by rw [← HZ.out]; exact D8⟩, ?_⟩
                show 80 - ((k : Int) + 1).toNat < 80 - ((k : Int)).toNat
                omega
              | cons x S9 =>
                have DD := D1
                rw [hcs] at DD
                have hl9 : L = tw x :: S9.map tw := by rw [HT.out, hcs]; rfl
                have HT9 : Hid (L = (x :: S9).map tw) := Lib.hid hl9
                have hlen9 : (x :: S9).length = m := by rw [HM.out, hl9, List.length_cons, List.length_cons, List.length_map]
                have HL9 := Lib.hid hlen9
                have HI9 := Lib.hid hl9
                have hS9 : (x :: S9).length ≤ k + 1 := by rw [← hcs]; omega
                have hp9 : (0 : Int) < ((m : Nat) : Int) := by rw [← hlen9, List.length_cons]; omega
                clear hl9 hlen9
                go_wp2_with fail
                refine (qs_first q r (x :: S9) (n : Int) _ DD.out.qs).mono ?_
                unfold firstOf
                rintro en w8 ⟨rfl, q8, g8⟩
                have D8 := Lib.hid (DD.out.still q8 g8)
                clear q8 g8
                have hits : Its w8 b (.slice va (m) (vc)) (tw x :: S9.map tw) := by rw [← HI9.out]; exact D8.out.its
                obtain ⟨g9, o9, eb9, ea9, c90, c91, _, _, _, _, _⟩ := its_head hits (by rw [← HI9.out]; exact HM.out)
                have E9 := Lib.hid ea9
                rw [ea9]
                clear hits eb9 ea9
                have c90' : w8.cell? ⟨g9, o9, none⟩ = some (.int .i64 x.1) := c90
                have c91' : w8.cell? ⟨g9, o9 + 1, none⟩ = some (.int .i64 x.2.1) := c91
                clear c90 c91
                go_wp2_with fail
                have hl := qs_len q r (x :: S9) (n : Int) w8 D8.out.qs
                rw [HL9.out] at hl
                refine hl.mono ?_
                rintro en w9 ⟨rfl, rfl⟩
                clear hl
                go_wp2_with fail
                refine ⟨⟨k + 1, r, x :: S9, n, b, L, by rw [Int.natCast_add]; rfl, by omega, by omega, by omega, hS9, HT9, by rw [← E9.out]; exact D8⟩, ?_⟩
                show 80 - ((k : Int) + 1).toNat < 80 - ((k : Int)).toNat
                omega
    · have hx : ((k : Int) < (len : Int) ∧ ¬ (k : Int) < 80) ∨ ¬ (k : Int) < (len : Int) := by omega
      clear hk
      rcases hx with ⟨hc1, hc2⟩ | hc1
      all_goals
        go_wp2_with fail
        go_ret
        exact ⟨rfl, HD.out.turn.below (Nat.le_refl _) (fun j hj e => by omega)⟩

def Arg0 (w : World) (a : Option Addr) (len _cap : Nat) : Prop := ArgA w a len

theorem walk (a0 : Option Addr) (len0 cap0 : Nat) (w : World) (w0 : Arg0 w a0 len0 cap0) :
    Calls Try.prog 10 #[.slice a0 len0 cap0] w fun en w' => en = .returned (.bool true) ∧ Below w.heap.size w w' := plays_any a0 len0 cap0 w w0

theorem opened0 {H : Type} {enc : TypeId × Value → H} {w : World} {spare : Nat → Bool} {held : Bool} {a : Option Addr} {len cap : Nat} {d : DataW H} {p : List MemPlace} (h : DataW.Trod enc Try.prog w 0 spare held 66 (.slice a len cap) d p) : Arg0 w a len cap := openedA h

theorem own : ownKnob Try.prog.godebug = none := by kernel_rfl
theorem laidOut : laidOutB Try.prog = true := by kernel_rfl

set_option maxRecDepth 100000 in
theorem lifted (os : Os) (started : os.Started) (H : Type) (enc : TypeId × Value → H) :
    ReturnsInHanded {} Try.checked os 10 .any (Rows.rankPlaysSpec.pre6 enc Try.prog Try.f10 Rows.rankPlaysRow.domain false) (Rows.rankPlaysSpec.post enc Try.prog Try.f10 false true false false) := by
  refine returnsInHanded_of_change (C := Try.checked) own started (by kernel_rfl) Try.func10
    (ChangeSpec.witness6 (enc := enc) (C := Try.checked) false ⟨#[], #[.slice none 0 0], []⟩ 8 (by kernel_rfl) (by kernel_rfl) (by kernel_rfl) (by kernel_rfl)) ?_
  intro W base args ds gs before hval0 hW _ _
  have hval : ∀ (j : Nat) t v, Try.f10.params[j]? = some t → args[j]? = some v → Value.okWide Try.prog W .any base t v := hval0
  have hW' := hW
  obtain ⟨p, q, hA0, hV, rfl, _, _⟩ := hW
  have hA : DataW.TrodAll enc Try.prog W 0 (fun _ => true) true Try.f10.params.toList args.toList ds p := hA0
  rw [Try.params10] at hA hval
  obtain ⟨v0, vs0, d0, ds0, p0, q0, hargs, rfl, rfl, h0, r0⟩ := trodAll_cons hA
  obtain ⟨rfl, rfl, rfl⟩ := trodAll_nil r0
  obtain rfl : args = #[v0] := by cases args; simp_all
  obtain ⟨rfl, rfl⟩ := trodVars_none hV
  obtain ⟨a0, len0, cap0, rfl⟩ := okWide_slice Try.underlying66 (hval 0 66 v0 rfl rfl)
  have k0 := h0
  have lt0 : ∀ x ∈ p0, x.block < W.heap.size := by obtain ⟨m, hm⟩ := k0; exact DataW.trod_lt m _ _ _ hm
  have w0 : Arg0 W a0 len0 cap0 := opened0 h0
  clear hA0 hval0
  refine (walk a0 len0 cap0 W w0).mono fun e W' ⟨he, bel⟩ => ?_
  subst he
  exact ⟨_, rfl, _, _, _, [], _, [], hW', trodAll_mk1 (shut_bool Try.underlying4 _), (trodAll_cons_mk (Below.trod laidOut (by kernel_rfl) (of_decide_eq_true (by kernel_rfl)) k0 bel lt0) trodAll_mk0), rfl, bel.frame _, fun h => by cases h⟩

theorem over : Rows.rankPlaysRow.holds Try.pinned (OpenSpec.ofChange Rows.rankPlaysSpec) :=
  OpenClaim.holds_of_wide 10 Try.f10 rfl rfl rfl rfl rfl rfl rfl ⟨rfl, rfl, rfl, rfl, rfl⟩ rfl rfl rfl rfl rfl (by kernel_rfl) Try.func10 (by kernel_rfl)
    (of_decide_eq_true (by kernel_rfl)) (by unfold Func.isWrapper; first | (rw [if_pos (by decide +kernel)]; kernel_rfl) | (rw [if_neg (by decide +kernel)]; exact ⟨rfl, rfl⟩))
    (fun os started H enc _ => lifted os started H enc)

theorem proved : Rows.RankPlaysSaid := over

end Go.Proofs.Ytpdcbfhmlgmhpaa.rankPlays
