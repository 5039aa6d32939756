/- tower over string: a list, and what is kept in it: each call by what it answers of that. -/
import Derived.Test.YtbimdcjbpbpljaaDoorTwsE
import Derived.Test.YtbimdcjbpbpljaaDoorTowK
namespace Go.Proofs.YtbimdcjbpbpljaaDoor.tws
open Go Go.RowKit Go.Proofs.YtbimdcjbpbpljaaDoor.tow

/-- At b a list keeps l; its blocks are of F. -/
def Tw (w : World) (b : Nat) (l : List (Int × ByteArray)) (F : Nat → Prop) : Prop := ∃ hd ns, Sk w b hd ns ∧ ns.map kv = l ∧ ∀ k, Foot b hd ns k → F k

section
variable {w w' : World} {b : Nat} {l : List (Int × ByteArray)} {F G : Nat → Prop}

theorem Tw.turn (h : Tw w b l F) (t : Turn G w w') (hG : ∀ k, k < w.heap.size → F k → ¬ G k) : Tw w' b l F := by
  obtain ⟨hd, ns, h1, h2, h3⟩ := h
  exact ⟨hd, ns, h1.turn t (fun k hk => hG k (h1.foot_lt hk) (h3 k hk)), h2, h3⟩
theorem Tw.below (h : Tw w b l F) (t : Below w.heap.size w w') : Tw w' b l F :=
  h.turn (Turn.of_below (F := fun k => w.heap.size ≤ k) t (fun _ _ h => h)) (fun k hk _ e => by omega)
theorem Tw.more (h : Tw w b l F) (hG : ∀ k, k < w.heap.size → F k → G k) : Tw w b l G := by
  obtain ⟨hd, ns, h1, h2, h3⟩ := h
  exact ⟨hd, ns, h1, h2, fun k hk => hG k (h1.foot_lt hk) (h3 k hk)⟩
theorem Tw.sorted (h : Tw w b l F) : l.Pairwise (fun x y => x.1 < y.1) := by
  obtain ⟨hd, ns, h1, rfl, h3⟩ := h
  exact List.pairwise_map.2 h1.up
theorem Tw.num (h : Tw w b l F) : ∀ x ∈ l, -9223372036854775808 ≤ x.1 ∧ x.1 ≤ 9223372036854775807 := by
  obtain ⟨hd, ns, h1, rfl, h3⟩ := h
  intro x hx
  obtain ⟨y, hy, rfl⟩ := List.mem_map.1 hx
  exact h1.num y hy

theorem tw_new (w : World) : Calls Tryd.prog 10 #[] w fun en w' => ∃ b, en = .returned (.pointer (some ⟨b, 0, none⟩)) ∧ w.heap.size ≤ b ∧ Tw w' b [] (fun k => w.heap.size ≤ k) ∧ Below w.heap.size w w' :=
  (new_calls w).mono fun _ _ ⟨b, hd, e, h1, h2, h3⟩ => ⟨b, e, h2 b (.inl rfl), ⟨hd, [], h1, rfl, h2⟩, h3⟩

theorem Tw.len_calls (h : Tw w b l F) : Calls Tryd.prog 18 #[.pointer (some ⟨b, 0, none⟩)] w fun en w' => en = .returned (.int .i64 l.length) ∧ w = w' := by
  obtain ⟨hd, ns, h1, rfl, h3⟩ := h
  rw [List.length_map]
  exact tws.len_calls h1

/-- A list parts at a bound. -/
theorem part (p : Int → Bool) (hp : ∀ x y : Int, x < y → p y = true → p x = true) : ∀ {ns : List N}, ns.Pairwise (fun x y => x.a < y.a) → ∃ A B, ns = A ++ B ∧ (∀ x ∈ A, p x.a = true) ∧ (∀ x ∈ B, p x.a = false)
  | [], _ => ⟨[], [], rfl, by simp, by simp⟩
  | x :: ns, h => by
    obtain ⟨h1, h2⟩ := List.pairwise_cons.1 h
    by_cases hx : p x.a = true
    · obtain ⟨A, B, e, hA, hB⟩ := part p hp h2
      refine ⟨x :: A, B, by rw [e]; rfl, fun y hy => ?_, hB⟩
      rcases List.mem_cons.1 hy with rfl | hy
      · exact hx
      · exact hA y hy
    · refine ⟨[], x :: ns, rfl, by simp, fun y hy => ?_⟩
      rcases List.mem_cons.1 hy with rfl | hy
      · simpa using hx
      · cases hpy : p y.a with
        | false => rfl
        | true => exact absurd (hp _ _ (h1 y hy) hpy) hx
theorem part_map {A B : List N} (p : Int → Bool) (hA : ∀ x ∈ A, p x.a = true) (hB : ∀ x ∈ B, p x.a = false) : ((A ++ B).map kv).filter (fun x => p x.1) = A.map kv := by
  rw [List.map_append, List.filter_append, List.filter_eq_self.2, List.filter_eq_nil_iff.2, List.append_nil]
  · intro x hx
    obtain ⟨y, hy, rfl⟩ := List.mem_map.1 hx
    have := hB y hy
    show ¬ p y.a = true
    rw [this]; simp
  · intro x hx
    obtain ⟨y, hy, rfl⟩ := List.mem_map.1 hx
    exact hA y hy

def TPut (w : World) (b : Nat) (l : List (Int × ByteArray)) (F : Nat → Prop) (a : Int) (v : ByteArray) (en : Ending) (w' : World) : Prop :=
  ∃ was, en = .returned (.bool was) ∧ (was = true ↔ ∃ x ∈ l, x.1 = a) ∧ Tw w' b (insK a v l) (fun k => F k ∨ w.heap.size ≤ k) ∧ Turn F w w'

theorem Tw.put_calls (h : Tw w b l F) {Bz : Nat} (hZ : Tz Bz w) (a : Int) (v : ByteArray) (hl : l.length ≤ 100000) (ha : -9223372036854775808 ≤ a ∧ a ≤ 9223372036854775807) :
    Calls Tryd.prog 12 #[.pointer (some ⟨b, 0, none⟩), .int .i64 a, Value.string v] w (TPut w b l F a v) := by
  obtain ⟨hd, ns, h1, rfl, h3⟩ := h
  obtain ⟨A, B, rfl, hA, hB⟩ := part (fun x => decide (x < a)) (fun x y hxy h => by simp at h ⊢; omega) h1.up
  rw [List.length_map] at hl
  refine (tws.put_calls Bz b hd A B a v w h1 hZ (fun x hx => of_decide_eq_true (hA x hx)) (fun x hx => by have := of_decide_eq_false (hB x hx); omega) hl ha).mono ?_
  rintro en w' ⟨ns', was, rfl, p⟩
  refine ⟨was, rfl, ?_, ⟨hd, ns', p.sk, p.kvs, fun k hk => (p.foot k hk).imp (h3 k) id⟩, p.turn.more (fun k _ hk => h3 k hk)⟩
  rw [p.was]
  constructor
  · rintro ⟨x, hx, e⟩; exact ⟨kv x, List.mem_map_of_mem hx, e⟩
  · rintro ⟨x, hx, e⟩
    obtain ⟨y, hy, rfl⟩ := List.mem_map.1 hx
    exact ⟨y, hy, e⟩

/-- What Floor answers. -/
def floorK (a : Int) (l : List (Int × ByteArray)) : Int × ByteArray × Bool := match (l.filter (fun x => decide (x.1 ≤ a))).getLast? with
  | none => (0, (⟨#[]⟩ : ByteArray), false)
  | some x => (x.1, x.2, true)

theorem Tw.floor_calls (h : Tw w b l F) (a : Int) (hl : l.length ≤ 100000) :
    Calls Tryd.prog 16 #[.pointer (some ⟨b, 0, none⟩), .int .i64 a] w fun en w' => en = .returned (.tuple #[.int .i64 (floorK a l).1, Value.string (floorK a l).2.1, .bool (floorK a l).2.2]) ∧ Below w.heap.size w w' := by
  obtain ⟨hd, ns, h1, rfl, h3⟩ := h
  obtain ⟨A, B, rfl, hA, hB⟩ := part (fun x => decide (x ≤ a)) (fun x y hxy h => by simp at h ⊢; omega) h1.up
  rw [List.length_map] at hl
  refine (tws.floor_calls b hd A B a w h1 (fun x hx => of_decide_eq_true (hA x hx)) (fun x hx => by have := of_decide_eq_false (hB x hx); omega) hl).mono ?_
  rintro en w' ⟨rfl, hb⟩
  refine ⟨?_, hb⟩
  have e := part_map (fun x => decide (x ≤ a)) hA hB
  unfold floorK floorV
  rw [e, List.getLast?_map]
  cases A.getLast? <;> rfl

theorem Tw.steps_calls (h : Tw w b l F) (a : Int) (hl : l.length ≤ 100000) :
    Calls Tryd.prog 22 #[.pointer (some ⟨b, 0, none⟩), .int .i64 a] w fun en w' => en = .returned (.int .i64 (stpL ((l.filter (fun x => decide (x.1 ≤ a))).map (fun x => hgt x.1)))) ∧ Below w.heap.size w w' := by
  obtain ⟨hd, ns, h1, rfl, h3⟩ := h
  obtain ⟨A, B, rfl, hA, hB⟩ := part (fun x => decide (x ≤ a)) (fun x y hxy h => by simp at h ⊢; omega) h1.up
  rw [List.length_map] at hl
  refine (tws.steps_calls b hd A B a w h1 (fun x hx => of_decide_eq_true (hA x hx)) (fun x hx => by have := of_decide_eq_false (hB x hx); omega) hl).mono ?_
  rintro en w' ⟨rfl, hb⟩
  refine ⟨?_, hb⟩
  rw [part_map (fun x => decide (x ≤ a)) hA hB, stp_heights, List.map_map]
  have : A.map (·.k) = A.map ((fun x : Int × ByteArray => hgt x.1) ∘ kv) := List.map_congr_left fun x hx => h1.ks x (by simp [hx])
  rw [this]

/-- The versions on a level. -/
def levK (h : Nat) (l : List (Int × ByteArray)) : List Int := (l.filter (fun x => decide (h < hgt x.1))).map (·.1)
theorem levK_len (h : Nat) (l : List (Int × ByteArray)) : (levK h l).length ≤ l.length := by
  unfold levK; rw [List.length_map]; exact List.length_filter_le _ _

theorem Tw.level_calls (hT : Tw w b l F) (h : Nat) (hh : h < 10) (hl : l.length ≤ 100000) :
    Calls Tryd.prog 25 #[.pointer (some ⟨b, 0, none⟩), .int .i64 h] w (IntsPost w (levK h l)) := by
  obtain ⟨hd, ns, h1, rfl, h3⟩ := hT
  rw [List.length_map] at hl
  have e : levK h (ns.map kv) = lev h ns := by
    unfold levK lev
    rw [List.filter_map, List.map_map]
    have : ns.filter ((fun x : Int × ByteArray => decide (h < hgt x.1)) ∘ kv) = ns.filter (fun x => decide (h < x.k)) := List.filter_congr fun x hx => by
      show decide (h < hgt x.a) = _
      rw [h1.ks x hx]
    rw [this]
    rfl
  rw [e]
  exact tws.level_calls b hd ns h w h1 hh hl

/-- What is left of a list that is cut. -/
def cutK (a t : Int) (l : List (Int × ByteArray)) : List (Int × ByteArray) := l.filter (fun x => !(decide (a ≤ x.1) && decide (x.1 < t)))

def TCut (w : World) (b : Nat) (l : List (Int × ByteArray)) (F : Nat → Prop) (a t : Int) (en : Ending) (w' : World) : Prop :=
  en = .returned (.int .i64 ((l.length : Int) - (cutK a t l).length)) ∧ Tw w' b (cutK a t l) F ∧ Turn F w w'

theorem Tw.cut_calls (h : Tw w b l F) (a t : Int) (hl : l.length ≤ 100000) :
    Calls Tryd.prog 14 #[.pointer (some ⟨b, 0, none⟩), .int .i64 a, .int .i64 t] w (TCut w b l F a t) := by
  obtain ⟨hd, ns, h1, rfl, h3⟩ := h
  obtain ⟨A, B, rfl, hA, hB⟩ := part (fun x => decide (x < a)) (fun x y hxy h => by simp at h ⊢; omega) h1.up
  obtain ⟨M, C, rfl, hM, hC⟩ := part (fun x => decide (x < t)) (fun x y hxy h => by simp at h ⊢; omega) (List.pairwise_append.1 h1.up).2.1
  rw [List.length_map] at hl
  refine (tws.cut_calls b hd A M C a t w h1 (fun x hx => of_decide_eq_true (hA x hx)) (fun x hx => by have := of_decide_eq_false (hB x hx); omega) (fun x hx => of_decide_eq_true (hM x hx)) (fun x hx => by
    have hxc : x ∈ C := List.mem_of_mem_head? (by rw [hx]; rfl)
    have := of_decide_eq_false (hC x hxc); omega) hl).mono ?_
  rintro en w' ⟨rfl, k1, k2, k3⟩
  have e : cutK a t ((A ++ (M ++ C)).map kv) = (A ++ C).map kv := by
    unfold cutK
    rw [List.map_append, List.map_append, List.map_append, List.filter_append, List.filter_append, List.filter_eq_self.2, List.filter_eq_nil_iff.2, List.filter_eq_self.2, List.nil_append]
    · intro x hx
      obtain ⟨y, hy, rfl⟩ := List.mem_map.1 hx
      have h1 : decide (y.a < t) = false := hC y hy
      show (!(decide (a ≤ y.a) && decide (y.a < t))) = true
      rw [h1, Bool.and_false]; rfl
    · intro x hx
      obtain ⟨y, hy, rfl⟩ := List.mem_map.1 hx
      have h1 : decide (y.a < t) = true := hM y hy
      have h2 : decide (a ≤ y.a) = true := decide_eq_true (by have := of_decide_eq_false (hB y (by simp [hy])); omega)
      show ¬ (!(decide (a ≤ y.a) && decide (y.a < t))) = true
      rw [h1, h2]; simp
    · intro x hx
      obtain ⟨y, hy, rfl⟩ := List.mem_map.1 hx
      have h2 : decide (a ≤ y.a) = false := decide_eq_false (by have := of_decide_eq_true (hA y hy); omega)
      show (!(decide (a ≤ y.a) && decide (y.a < t))) = true
      rw [h2, Bool.false_and]; rfl
  refine ⟨?_, ⟨hd, A ++ C, k1, e.symm, fun k hk => h3 k (k3 k hk)⟩, k2.more (fun k _ hk => h3 k hk)⟩
  rw [e]
  congr 2
  simp only [List.length_map, List.length_append]
  omega
end

theorem mem_insK {a : Int} {v : ByteArray} : ∀ {l : List (Int × ByteArray)}, l.Pairwise (fun x y => x.1 < y.1) → ∀ x, x ∈ insK a v l ↔ x = (a, v) ∨ (x ∈ l ∧ x.1 ≠ a)
  | [], _, x => by simp [insK]
  | y :: l, h, x => by
    obtain ⟨h1, h2⟩ := List.pairwise_cons.1 h
    rw [insK_cons]
    by_cases c1 : y.1 < a
    · rw [if_pos c1, List.mem_cons, mem_insK h2 x, List.mem_cons]
      constructor
      · rintro (rfl | h | ⟨h, k⟩)
        · exact .inr ⟨.inl rfl, by omega⟩
        · exact .inl h
        · exact .inr ⟨.inr h, k⟩
      · rintro (h | ⟨h | h, k⟩)
        · exact .inr (.inl h)
        · exact .inl h
        · exact .inr (.inr ⟨h, k⟩)
    · rw [if_neg c1]
      by_cases c2 : y.1 = a
      · rw [if_pos c2, List.mem_cons, List.mem_cons]
        constructor
        · rintro (h | h)
          · exact .inl h
          · exact .inr ⟨.inr h, by have := h1 x h; omega⟩
        · rintro (h | ⟨h | h, k⟩)
          · exact .inl h
          · rw [h] at k; exact absurd c2 k
          · exact .inr h
      · rw [if_neg c2, List.mem_cons, List.mem_cons]
        constructor
        · rintro (h | h | h)
          · exact .inl h
          · rw [h]; exact .inr ⟨.inl rfl, c2⟩
          · exact .inr ⟨.inr h, by have := h1 x h; omega⟩
        · rintro (h | ⟨h, _⟩)
          · exact .inl h
          · exact .inr h
theorem insK_sorted (a : Int) (v : ByteArray) : ∀ {l : List (Int × ByteArray)}, l.Pairwise (fun x y => x.1 < y.1) → (insK a v l).Pairwise (fun x y => x.1 < y.1)
  | [], _ => by simp [insK]
  | y :: l, h => by
    obtain ⟨h1, h2⟩ := List.pairwise_cons.1 h
    rw [insK_cons]
    by_cases c1 : y.1 < a
    · rw [if_pos c1]
      refine List.pairwise_cons.2 ⟨fun z hz => ?_, insK_sorted a v h2⟩
      rcases (mem_insK h2 z).1 hz with rfl | ⟨hz, _⟩
      · exact c1
      · exact h1 z hz
    · rw [if_neg c1]
      by_cases c2 : y.1 = a
      · rw [if_pos c2]
        exact List.pairwise_cons.2 ⟨fun z hz => by have := h1 z hz; show a < z.1; omega, h2⟩
      · rw [if_neg c2]
        refine List.pairwise_cons.2 ⟨fun z hz => ?_, h⟩
        rcases List.mem_cons.1 hz with rfl | hz
        · show a < z.1; omega
        · have := h1 z hz; show a < z.1; omega
theorem length_insK (a : Int) (v : ByteArray) : ∀ l : List (Int × ByteArray), (insK a v l).length ≤ l.length + 1
  | [] => by simp [insK]
  | y :: l => by
    rw [insK_cons]
    have := length_insK a v l
    split
    · simp only [List.length_cons]; omega
    · split <;> simp only [List.length_cons] <;> omega

theorem floorK_none {a : Int} {l : List (Int × ByteArray)} (h : ∀ x ∈ l, ¬ x.1 ≤ a) : floorK a l = (0, (⟨#[]⟩ : ByteArray), false) := by
  unfold floorK
  rw [List.filter_eq_nil_iff.2 (fun x hx => by simpa using h x hx)]
  rfl
theorem floorK_some {a : Int} {l : List (Int × ByteArray)} (hs : l.Pairwise (fun x y => x.1 < y.1)) {x : Int × ByteArray} (hx : x ∈ l) (hxa : x.1 ≤ a) (hm : ∀ y ∈ l, y.1 ≤ a → y.1 ≤ x.1) : floorK a l = (x.1, x.2, true) := by
  unfold floorK
  have hxf : x ∈ l.filter (fun x => decide (x.1 ≤ a)) := List.mem_filter.2 ⟨hx, decide_eq_true hxa⟩
  have hsf := hs.sublist (List.filter_sublist (p := fun x : Int × ByteArray => decide (x.1 ≤ a)) (l := l))
  have hmf : ∀ y ∈ l.filter (fun x => decide (x.1 ≤ a)), y.1 ≤ x.1 := fun y hy => hm y (List.mem_filter.1 hy).1 (of_decide_eq_true (List.mem_filter.1 hy).2)
  revert hxf hsf hmf
  generalize l.filter (fun x => decide (x.1 ≤ a)) = L
  intro hxf hsf hmf
  obtain ⟨X, Y, rfl⟩ := List.append_of_mem hxf
  have hY : Y = [] := by
    cases Y with
    | nil => rfl
    | cons y Y =>
      have h1 := (List.pairwise_append.1 hsf).2.1
      have h2 := (List.pairwise_cons.1 h1).1 y (by simp)
      have h3 := hmf y (by simp)
      omega
  subst hY
  simp
end Go.Proofs.YtbimdcjbpbpljaaDoor.tws
