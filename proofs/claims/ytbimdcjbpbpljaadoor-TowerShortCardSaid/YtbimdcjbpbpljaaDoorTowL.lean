/- tower: one list of numbers that a law makes; two of them side by side; numbers that are handed in. -/
import Derived.Test.YtbimdcjbpbpljaaDoorTowW
import Derived.Test.YtbimdcjbpbpljaaDoorTwiF
namespace Go.Proofs.YtbimdcjbpbpljaaDoor.tow
open Go Go.RowKit Go.Proofs.YtbimdcjbpbpljaaDoor.twi

theorem _root_.Go.Proofs.YtbimdcjbpbpljaaDoor.ArgI.below {w w' : World} {a : Option Addr} {len cap : Nat} {T : Nat → Int} (h : ArgI w a len cap T) (b : Below w.heap.size w w') : ArgI w' a len cap T :=
  ⟨h.1, h.2.1, fun i hi => by
    obtain ⟨g, o, e, h1, h2, h3⟩ := h.2.2 i hi
    exact ⟨g, o, e, Nat.lt_of_lt_of_le h1 b.size, by rw [← h2]; unfold World.cell?; rw [b.block g h1], h3⟩⟩
theorem _root_.Go.Proofs.YtbimdcjbpbpljaaDoor.ArgI.drew {w : World} {a : Option Addr} {len cap : Nat} {T : Nat → Int} (h : ArgI w a len cap T) : ArgI w.drew a len cap T := h.below (Below.refl _ _).drew

/-- A list that was made since w. -/
structure One (w : World) (b : Nat) (l : List (Int × Int)) (w' : World) : Prop where
  tw : Tw w' b l (fun k => w.heap.size ≤ k)
  bel : Below w.heap.size w w'
theorem One.more {w w' w2 : World} {b : Nat} {l : List (Int × Int)} (h : One w b l w') (bb : Below w'.heap.size w' w2) : One w b l w2 := ⟨h.tw.below bb, h.bel.trans (bb.mono h.bel.size)⟩
theorem One.drew {w w' : World} {b : Nat} {l : List (Int × Int)} (h : One w b l w') : One w b l w'.drew := h.more (Below.refl _ _).drew
theorem One.put {w w' w2 : World} {b : Nat} {l l2 : List (Int × Int)} (h : One w b l w') (h2 : Tw w2 b l2 (fun k => w.heap.size ≤ k ∨ w'.heap.size ≤ k)) (t : Turn (fun k => w.heap.size ≤ k) w' w2) : One w b l2 w2 :=
  ⟨h2.more (fun k _ e => e.elim id (fun e => Nat.le_trans h.bel.size e)), h.bel.trans (t.below h.bel.size (fun j hj e => by omega))⟩

/-- Two lists that were made since w. -/
structure Two (w : World) (a : Nat) (la : List (Int × Int)) (b : Nat) (lb : List (Int × Int)) (w' : World) : Prop where
  tw : ∃ Fa Fb : Nat → Prop, Tw w' a la Fa ∧ Tw w' b lb Fb ∧ (∀ k, Fa k → w.heap.size ≤ k ∧ k < w'.heap.size ∧ ¬ Fb k) ∧ (∀ k, Fb k → w.heap.size ≤ k ∧ k < w'.heap.size)
  bel : Below w.heap.size w w'
section
variable {w w' w2 : World} {a b : Nat} {la lb : List (Int × Int)}
theorem Two.swap (h : Two w a la b lb w') : Two w b lb a la w' := by
  obtain ⟨Fa, Fb, h1, h2, h3, h4⟩ := h.tw
  exact ⟨⟨Fb, Fa, h2, h1, fun k hk => ⟨(h4 k hk).1, (h4 k hk).2, fun e => (h3 k e).2.2 hk⟩, fun k hk => ⟨(h3 k hk).1, (h3 k hk).2.1⟩⟩, h.bel⟩
theorem Two.more (h : Two w a la b lb w') (bb : Below w'.heap.size w' w2) : Two w a la b lb w2 := by
  obtain ⟨Fa, Fb, h1, h2, h3, h4⟩ := h.tw
  exact ⟨⟨Fa, Fb, h1.below bb, h2.below bb, fun k hk => ⟨(h3 k hk).1, Nat.lt_of_lt_of_le (h3 k hk).2.1 bb.size, (h3 k hk).2.2⟩, fun k hk => ⟨(h4 k hk).1, Nat.lt_of_lt_of_le (h4 k hk).2 bb.size⟩⟩, h.bel.trans (bb.mono h.bel.size)⟩
theorem Two.drew (h : Two w a la b lb w') : Two w a la b lb w'.drew := h.more (Below.refl _ _).drew
theorem Two.tw_a (h : Two w a la b lb w') : ∃ F, Tw w' a la F := by obtain ⟨Fa, _, h1, _⟩ := h.tw; exact ⟨Fa, h1⟩
theorem Two.tw_b (h : Two w a la b lb w') : ∃ F, Tw w' b lb F := h.swap.tw_a
theorem Two.of_new (hw : Below w.heap.size w w') (h1 : Tw w' a la (fun k => w.heap.size ≤ k)) (h2 : Tw w2 b lb (fun k => w'.heap.size ≤ k)) (bb : Below w'.heap.size w' w2) : Two w a la b lb w2 := by
  refine ⟨⟨fun k => w.heap.size ≤ k ∧ k < w'.heap.size, fun k => w'.heap.size ≤ k ∧ k < w2.heap.size, (h1.more (fun k hk e => ⟨e, hk⟩)).below bb, h2.more (fun k hk e => ⟨e, hk⟩), fun k hk => ⟨hk.1, Nat.lt_of_lt_of_le hk.2 bb.size, fun e => by omega⟩, fun k hk => ⟨Nat.le_trans hw.size hk.1, hk.2⟩⟩, hw.trans (bb.mono hw.size)⟩

def TwoRes (w : World) (a : Nat) (la : List (Int × Int)) (b : Nat) (lb : List (Int × Int)) (x : Int) (v : Int) (en : Ending) (w2 : World) : Prop :=
  ∃ was, en = .returned (.bool was) ∧ (was = true ↔ ∃ y ∈ la, y.1 = x) ∧ Two w a (insK x v la) b lb w2
theorem Two.put_a (h : Two w a la b lb w') {Bz : Nat} (hZ : Tz Bz w') (x v : Int) (hl : la.length ≤ 100000) (hx : -9223372036854775808 ≤ x ∧ x ≤ 9223372036854775807) :
    Calls Tryd.prog 27 #[.pointer (some ⟨a, 0, none⟩), .int .i64 x, .int .i64 v] w' (TwoRes w a la b lb x v) := by
  obtain ⟨Fa, Fb, h1, h2, h3, h4⟩ := h.tw
  refine (h1.put_calls hZ x v hl hx).mono ?_
  rintro en w2 ⟨was, rfl, e, k1, t⟩
  refine ⟨was, rfl, e, ⟨fun k => (Fa k ∨ w'.heap.size ≤ k) ∧ k < w2.heap.size, Fb, k1.more (fun k hk e => ⟨e, hk⟩), h2.turn t (fun k _ hb ha => (h3 k ha).2.2 hb), fun k hk => ⟨?_, hk.2, ?_⟩, fun k hk => ⟨(h4 k hk).1, Nat.lt_of_lt_of_le (h4 k hk).2 t.size⟩⟩, h.bel.trans (t.below h.bel.size (fun j hj e => by have := (h3 j e).1; omega))⟩
  · rcases hk.1 with e | e
    · exact (h3 k e).1
    · exact Nat.le_trans h.bel.size e
  · intro hb
    rcases hk.1 with e | e
    · exact (h3 k e).2.2 hb
    · have := (h4 k hb).2; omega
theorem Two.put_b (h : Two w a la b lb w') {Bz : Nat} (hZ : Tz Bz w') (x v : Int) (hl : lb.length ≤ 100000) (hx : -9223372036854775808 ≤ x ∧ x ≤ 9223372036854775807) :
    Calls Tryd.prog 27 #[.pointer (some ⟨b, 0, none⟩), .int .i64 x, .int .i64 v] w' fun en w2 => ∃ was, en = .returned (.bool was) ∧ (was = true ↔ ∃ y ∈ lb, y.1 = x) ∧ Two w a la b (insK x v lb) w2 :=
  (h.swap.put_a hZ x v hl hx).mono fun _ _ ⟨was, e, k, t⟩ => ⟨was, e, k, t.swap⟩
theorem Two.cut_a (h : Two w a la b lb w') (x t : Int) (hl : la.length ≤ 100000) :
    Calls Tryd.prog 29 #[.pointer (some ⟨a, 0, none⟩), .int .i64 x, .int .i64 t] w' fun en w2 => en = .returned (.int .i64 ((la.length : Int) - (cutK x t la).length)) ∧ Two w a (cutK x t la) b lb w2 := by
  obtain ⟨Fa, Fb, h1, h2, h3, h4⟩ := h.tw
  refine (h1.cut_calls x t hl).mono ?_
  rintro en w2 ⟨rfl, k1, t⟩
  exact ⟨rfl, ⟨Fa, Fb, k1, h2.turn t (fun k _ hb ha => (h3 k ha).2.2 hb), fun k hk => ⟨(h3 k hk).1, Nat.lt_of_lt_of_le (h3 k hk).2.1 t.size, (h3 k hk).2.2⟩, fun k hk => ⟨(h4 k hk).1, Nat.lt_of_lt_of_le (h4 k hk).2 t.size⟩⟩, h.bel.trans (t.below h.bel.size (fun j hj e => by have := (h3 j e).1; omega))⟩
theorem Two.cut_b (h : Two w a la b lb w') (x t : Int) (hl : lb.length ≤ 100000) :
    Calls Tryd.prog 29 #[.pointer (some ⟨b, 0, none⟩), .int .i64 x, .int .i64 t] w' fun en w2 => en = .returned (.int .i64 ((lb.length : Int) - (cutK x t lb).length)) ∧ Two w a la b (cutK x t lb) w2 :=
  (h.swap.cut_a x t hl).mono fun _ _ ⟨e, t⟩ => ⟨e, t.swap⟩
end

/-- The first k numbers, each kept with V of its place. -/
def putAll (T V : Nat → Int) : Nat → List (Int × Int)
  | 0 => []
  | k + 1 => insK (T k) (V k) (putAll T V k)
theorem putAll_sorted (T V : Nat → Int) : ∀ k, (putAll T V k).Pairwise (fun x y => x.1 < y.1) ∧ (putAll T V k).length ≤ k ∧ (∀ x ∈ putAll T V k, ∃ i, i < k ∧ x = (T i, V i)) ∧ ∀ i, i < k → ∃ x ∈ putAll T V k, x.1 = T i
  | 0 => ⟨List.Pairwise.nil, Nat.le_refl _, by simp [putAll], by intro i hi; omega⟩
  | k + 1 => by
    obtain ⟨h1, h2, h3, h4⟩ := putAll_sorted T V k
    refine ⟨insK_sorted _ _ h1, Nat.le_trans (length_insK _ _ _) (by omega), fun x hx => ?_, fun i hi => ?_⟩
    · rcases (mem_insK h1 x).1 hx with rfl | ⟨hx, _⟩
      · exact ⟨k, by omega, rfl⟩
      · obtain ⟨i, hi, e⟩ := h3 x hx
        exact ⟨i, by omega, e⟩
    · by_cases e : T i = T k
      · exact ⟨(T k, V k), (mem_insK h1 _).2 (.inl rfl), e.symm⟩
      · obtain ⟨x, hx, ex⟩ := h4 i (by
          by_cases hik : i = k
          · rw [hik] at e; exact absurd rfl e
          · omega)
        exact ⟨x, (mem_insK h1 x).2 (.inr ⟨hx, by rw [ex]; exact e⟩), ex⟩

theorem sorted_ext : ∀ {l m : List (Int × Int)}, l.Pairwise (fun x y => x.1 < y.1) → m.Pairwise (fun x y => x.1 < y.1) → (∀ x, x ∈ l ↔ x ∈ m) → l = m
  | [], [], _, _, _ => rfl
  | [], y :: m, _, _, h => by have := (h y).2 (by simp); cases this
  | x :: l, [], _, _, h => by have := (h x).1 (by simp); cases this
  | x :: l, y :: m, hl, hm, h => by
    obtain ⟨l1, l2⟩ := List.pairwise_cons.1 hl
    obtain ⟨m1, m2⟩ := List.pairwise_cons.1 hm
    have hxy : x = y := by
      rcases List.mem_cons.1 ((h x).1 (by simp)) with e | e
      · exact e
      · rcases List.mem_cons.1 ((h y).2 (by simp)) with e2 | e2
        · exact e2.symm
        · have := m1 x e; have := l1 y e2; omega
    subst hxy
    rw [sorted_ext l2 m2 (fun z => ⟨fun hz => by
      rcases List.mem_cons.1 ((h z).1 (by simp [hz])) with e | e
      · have := l1 z hz; rw [e] at this; omega
      · exact e, fun hz => by
      rcases List.mem_cons.1 ((h z).2 (by simp [hz])) with e | e
      · have := m1 z hz; rw [e] at this; omega
      · exact e⟩)]
theorem mem_cutK {f t : Int} {l : List (Int × Int)} (x : Int × Int) : x ∈ cutK f t l ↔ x ∈ l ∧ ¬ (f ≤ x.1 ∧ x.1 < t) := by
  unfold cutK
  rw [List.mem_filter]
  by_cases h1 : f ≤ x.1 <;> by_cases h2 : x.1 < t <;> simp [h1, h2]
theorem cutK_sorted {f t : Int} {l : List (Int × Int)} (h : l.Pairwise (fun x y => x.1 < y.1)) : (cutK f t l).Pairwise (fun x y => x.1 < y.1) := h.sublist List.filter_sublist
theorem cutK_len (f t : Int) (l : List (Int × Int)) : (cutK f t l).length ≤ l.length := List.length_filter_le _ _
theorem cutK_in {f t x v : Int} {l : List (Int × Int)} (h : l.Pairwise (fun x y => x.1 < y.1)) (h1 : f ≤ x) (h2 : x < t) : cutK f t (insK x v l) = cutK f t l :=
  sorted_ext (cutK_sorted (insK_sorted _ _ h)) (cutK_sorted h) fun y => by
    rw [mem_cutK, mem_cutK, mem_insK h]
    constructor
    · rintro ⟨rfl | ⟨hy, _⟩, k⟩
      · exact absurd ⟨h1, h2⟩ k
      · exact ⟨hy, k⟩
    · rintro ⟨hy, k⟩
      exact ⟨.inr ⟨hy, fun e => k (by rw [e]; exact ⟨h1, h2⟩)⟩, k⟩
theorem cutK_out {f t x v : Int} {l : List (Int × Int)} (h : l.Pairwise (fun x y => x.1 < y.1)) (h1 : ¬ (f ≤ x ∧ x < t)) : cutK f t (insK x v l) = insK x v (cutK f t l) :=
  sorted_ext (cutK_sorted (insK_sorted _ _ h)) (insK_sorted _ _ (cutK_sorted h)) fun y => by
    rw [mem_cutK, mem_insK h, mem_insK (cutK_sorted h), mem_cutK]
    constructor
    · rintro ⟨rfl | ⟨hy, k2⟩, k⟩
      · exact .inl rfl
      · exact .inr ⟨⟨hy, k⟩, k2⟩
    · rintro (rfl | ⟨⟨hy, k⟩, k2⟩)
      · exact ⟨.inl rfl, h1⟩
      · exact ⟨.inr ⟨hy, k2⟩, k⟩
theorem cutK_cutK (f t : Int) (l : List (Int × Int)) : cutK f t (cutK f t l) = cutK f t l := by
  unfold cutK; rw [List.filter_filter]; congr 1; funext x; simp
theorem floorK_mem {a : Int} {l : List (Int × Int)} (h : (floorK a l).2.2 = true) : ∃ x ∈ l, x.1 = (floorK a l).1 ∧ x.1 ≤ a := by
  unfold floorK at h ⊢
  cases hx : (l.filter (fun x => decide (x.1 ≤ a))).getLast? with
  | none => rw [hx] at h; cases h
  | some x =>
    have hm := List.mem_of_getLast? hx
    rw [List.mem_filter] at hm
    exact ⟨x, hm.1, rfl, of_decide_eq_true hm.2⟩

theorem sub_sorted : ∀ {l m : List Int}, l.Pairwise (· < ·) → m.Pairwise (· < ·) → (∀ x ∈ l, x ∈ m) → l.Sublist m
  | [], m, _, _, _ => List.nil_sublist m
  | x :: l, [], _, _, h => by have := h x (by simp); cases this
  | x :: l, y :: m, hl, hm, h => by
    obtain ⟨l1, l2⟩ := List.pairwise_cons.1 hl
    obtain ⟨m1, m2⟩ := List.pairwise_cons.1 hm
    rcases List.mem_cons.1 (h x (by simp)) with e | e
    · subst e
      exact (sub_sorted l2 m2 (fun z hz => by
        rcases List.mem_cons.1 (h z (by simp [hz])) with e | e
        · have := l1 z hz; omega
        · exact e)).cons_cons x
    · exact (sub_sorted hl m2 (fun z hz => by
        rcases List.mem_cons.1 (h z hz) with e2 | e2
        · have := m1 x e
          rcases List.mem_cons.1 hz with e3 | e3
          · omega
          · have := l1 z e3; omega
        · exact e2)).cons y
theorem keys_sorted {l : List (Int × Int)} (h : l.Pairwise (fun x y => x.1 < y.1)) : (l.map (·.1)).Pairwise (· < ·) := List.pairwise_map.2 h
theorem levK_keys (h : Nat) (l : List (Int × Int)) : levK h l = (l.map (·.1)).filter (fun x => decide (h < hgt x)) := by
  unfold levK; rw [List.filter_map]; rfl

/-- Is a number among the first m? -/
def hasB (T : Nat → Int) (m : Nat) (n : Int) : Bool := (List.range m).any (fun i => T i == n)
theorem hasB_iff (T : Nat → Int) (m : Nat) (n : Int) : hasB T m n = true ↔ ∃ i, i < m ∧ T i = n := by
  unfold hasB
  rw [List.any_eq_true]
  constructor
  · rintro ⟨i, hi, e⟩; exact ⟨i, List.mem_range.1 hi, eq_of_beq e⟩
  · rintro ⟨i, hi, e⟩; exact ⟨i, List.mem_range.2 hi, beq_iff_eq.2 e⟩
end Go.Proofs.YtbimdcjbpbpljaaDoor.tow
