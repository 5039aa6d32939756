/- proc: the mathematics of it. Processes, wishes, slots; a step of one; what stays true; how many steps are left; who is helped. Of no program. -/
namespace Go.Proofs.Ytlbpephbigikcab.prc

/-- A record. -/
structure Rc where
  who : Nat
  seq : Nat
  body : ByteArray
  deriving DecidableEq

/-- A process: what it does next (0 nothing, 1 wish, 2 look, 3 help, 4 decide, 5 head), how many slots it has seen, its last record's number and bytes, its offer. -/
structure Pc where
  next : Nat
  at_ : Nat
  seq : Nat
  body : ByteArray
  offer : Rc

/-- Wishes, slots, processes. -/
structure Ab where
  W : Nat → Option Rc
  S : Nat → Option Rc
  X : Nat → Pc

structure En where
  done : Bool
  full : Bool
  slot : Nat

def up {α : Type} (F : Nat → α) (k : Nat) (v : α) (i : Nat) : α := if i = k then v else F i
theorem up_same {α : Type} (F : Nat → α) (k : Nat) (v : α) : up F k v k = v := if_pos rfl
theorem up_other {α : Type} (F : Nat → α) {k i : Nat} (v : α) (h : i ≠ k) : up F k v i = F i := if_neg h

def nope : En := ⟨false, false, 0⟩
def mine (a : Ab) (i : Nat) : Rc := ⟨i, (a.X i).seq, (a.X i).body⟩
def put (a : Ab) (i : Nat) (x : Pc) : Ab := { a with X := up a.X i x }

/-- The greatest number of a process's records in the first so many slots. -/
def kn (S : Nat → Option Rc) (who : Nat) : Nat → Nat
  | 0 => 0
  | k + 1 => match S k with
    | some r => if r.who = who then max (kn S who k) r.seq else kn S who k
    | none => kn S who k

def sees (L : Nat) (a : Ab) (i : Nat) (r : Rc) : Ab × En :=
  if r = mine a i then (put a i { a.X i with next := 0, at_ := (a.X i).at_ + 1 }, ⟨true, false, (a.X i).at_⟩)
  else if L ≤ (a.X i).at_ + 1 then (put a i { a.X i with next := 0, at_ := (a.X i).at_ + 1 }, ⟨true, true, 0⟩)
  else (put a i { a.X i with next := 2, at_ := (a.X i).at_ + 1 }, nope)

def wishes (L : Nat) (a : Ab) (i : Nat) : Ab × En :=
  if L ≤ (a.X i).at_ then (put { a with W := up a.W i (some (mine a i)) } i { a.X i with next := 0 }, ⟨true, true, 0⟩)
  else (put { a with W := up a.W i (some (mine a i)) } i { a.X i with next := 2 }, nope)

def choose (a : Ab) (i : Nat) : Option Rc → Rc
  | some r => if kn a.S r.who (a.X i).at_ < r.seq then r else mine a i
  | none => mine a i

theorem choose_or (a : Ab) (i : Nat) (o : Option Rc) : choose a i o = mine a i ∨ ∃ r, o = some r ∧ kn a.S r.who (a.X i).at_ < r.seq ∧ choose a i o = r := by
  cases o with
  | none => exact .inl rfl
  | some r =>
    by_cases h : kn a.S r.who (a.X i).at_ < r.seq
    · exact .inr ⟨r, rfl, h, if_pos h⟩
    · exact .inl (if_neg h)

def looks (L : Nat) (a : Ab) (i : Nat) : Ab × En :=
  match a.S (a.X i).at_ with
  | some r => sees L a i r
  | none => (put a i { a.X i with next := 3 }, nope)

def helps (P : Nat) (a : Ab) (i : Nat) : Ab × En :=
  (put a i { a.X i with next := 4, offer := choose a i (a.W ((a.X i).at_ % P)) }, nope)

def decides (L : Nat) (a : Ab) (i : Nat) : Ab × En :=
  match a.S (a.X i).at_ with
  | some r => sees L a i r
  | none => sees L { a with S := up a.S (a.X i).at_ (some (a.X i).offer) } i (a.X i).offer

def heads (L : Nat) (a : Ab) (i : Nat) : Ab × En :=
  if L ≤ (a.X i).at_ ∨ a.S (a.X i).at_ = none then (put a i { a.X i with next := 0 }, ⟨true, false, (a.X i).at_⟩)
  else (put a i { a.X i with at_ := (a.X i).at_ + 1 }, nope)

def step (P L : Nat) (a : Ab) (i : Nat) : Ab × En :=
  match (a.X i).next with
  | 1 => wishes L a i
  | 2 => looks L a i
  | 3 => helps P a i
  | 4 => decides L a i
  | 5 => heads L a i
  | _ => (a, nope)

def begins (a : Ab) (i : Nat) (s : ByteArray) : Ab := put a i { a.X i with next := 1, seq := (a.X i).seq + 1, body := s }
def begHead (a : Ab) (i : Nat) : Ab := put a i { a.X i with next := 5 }

theorem kn_congr {S S' : Nat → Option Rc} (who : Nat) : ∀ n, (∀ k, k < n → S' k = S k) → kn S' who n = kn S who n
  | 0, _ => rfl
  | n + 1, h => by
    have e := kn_congr who n (fun k hk => h k (by omega))
    unfold kn
    rw [h n (by omega), e]

theorem kn_le {S : Nat → Option Rc} {who m : Nat} : ∀ n, (∀ k r, k < n → S k = some r → r.who = who → r.seq ≤ m) → kn S who n ≤ m
  | 0, _ => Nat.zero_le _
  | n + 1, h => by
    have e := kn_le (who := who) (m := m) n (fun k r hk => h k r (Nat.lt_succ_of_lt hk))
    unfold kn
    split
    · rename_i r hr
      split
      · rename_i hw
        have := h n r (by omega) hr hw
        omega
      · exact e
    · exact e

theorem kn_some {S : Nat → Option Rc} {who m : Nat} : ∀ n, m < kn S who n → ∃ k r, k < n ∧ S k = some r ∧ r.who = who ∧ m < r.seq
  | 0, h => by cases h
  | n + 1, h => by
    unfold kn at h
    split at h
    · rename_i r hr
      split at h
      · rename_i hw
        rcases Nat.lt_or_ge m (kn S who n) with h1 | h1
        · obtain ⟨k, r', a1, a2⟩ := kn_some n h1
          exact ⟨k, r', by omega, a2⟩
        · exact ⟨n, r, by omega, hr, hw, by omega⟩
      · obtain ⟨k, r', a1, a2⟩ := kn_some n h
        exact ⟨k, r', by omega, a2⟩
    · obtain ⟨k, r', a1, a2⟩ := kn_some n h
      exact ⟨k, r', by omega, a2⟩

theorem kn_mono {S : Nat → Option Rc} (who : Nat) {n : Nat} : ∀ m, n ≤ m → kn S who n ≤ kn S who m
  | 0, h => by obtain rfl : n = 0 := by omega
               exact Nat.le_refl _
  | m + 1, h => by
    rcases Nat.lt_or_ge n (m + 1) with h1 | h1
    · have e := kn_mono (S := S) (n := n) who m (by omega)
      refine Nat.le_trans e ?_
      show _ ≤ (match S m with | some r => if r.who = who then max (kn S who m) r.seq else kn S who m | none => kn S who m)
      split
      · split
        · exact Nat.le_max_left _ _
        · exact Nat.le_refl _
      · exact Nat.le_refl _
    · obtain rfl : n = m + 1 := by omega
      exact Nat.le_refl _

/-- A record that is there: of a process, not behind its last one, and that one if of its number. -/
def Ok (P : Nat) (a : Ab) (r : Rc) : Prop := r.who < P ∧ 1 ≤ r.seq ∧ r.seq ≤ (a.X r.who).seq ∧ (r.seq = (a.X r.who).seq → r = mine a r.who)

/-- What is always so; D slots are decided. -/
structure Inv (P L D : Nat) (a : Ab) : Prop where
  d : D ≤ L
  pre : ∀ k, a.S k ≠ none ↔ k < D
  seen : ∀ i, (a.X i).at_ ≤ D
  slot : ∀ k r, a.S k = some r → Ok P a r ∧ kn a.S r.who k < r.seq
  wish : ∀ i r, a.W i = some r → Ok P a r ∧ r.who = i
  own : ∀ i, 1 ≤ (a.X i).next → (a.X i).next ≤ 4 → kn a.S i (a.X i).at_ < (a.X i).seq
  low : ∀ i, 2 ≤ (a.X i).next → (a.X i).next ≤ 4 → (a.X i).at_ < L
  offer : ∀ i, (a.X i).next = 4 → Ok P a (a.X i).offer ∧ kn a.S (a.X i).offer.who (a.X i).at_ < (a.X i).offer.seq

theorem Ok.keep {P : Nat} {a b : Ab} {r : Rc} (h : Ok P a r) (e : ∀ i, (b.X i).seq = (a.X i).seq ∧ (b.X i).body = (a.X i).body) : Ok P b r := by
  obtain ⟨h1, h2, h3, h4⟩ := h
  refine ⟨h1, h2, by rw [(e _).1]; exact h3, fun h => ?_⟩
  have := h4 (by rw [← (e _).1]; exact h)
  rw [this]
  unfold mine
  rw [(e _).1, (e _).2]

theorem put_X (a : Ab) (i : Nat) (x : Pc) (j : Nat) : (put a i x).X j = if j = i then x else a.X j := rfl

theorem put_same (a : Ab) (i : Nat) (x : Pc) (e1 : x.seq = (a.X i).seq) (e2 : x.body = (a.X i).body) : ∀ j, ((put a i x).X j).seq = (a.X j).seq ∧ ((put a i x).X j).body = (a.X j).body := fun j => by
  rw [put_X]
  split
  · rename_i h; subst h; exact ⟨e1, e2⟩
  · exact ⟨rfl, rfl⟩

section
variable {P L D : Nat} {a : Ab} {i : Nat}

/-- A process goes on, and the rest stays. -/
theorem Inv.go (h : Inv P L D a) (x : Pc) (e1 : x.seq = (a.X i).seq) (e2 : x.body = (a.X i).body) (h1 : x.at_ ≤ D)
    (h2 : 1 ≤ x.next → x.next ≤ 4 → kn a.S i x.at_ < x.seq) (h3 : 2 ≤ x.next → x.next ≤ 4 → x.at_ < L) (h4 : x.next = 4 → Ok P a x.offer ∧ kn a.S x.offer.who x.at_ < x.offer.seq) : Inv P L D (put a i x) := by
  have k := put_same a i x e1 e2
  refine ⟨h.d, h.pre, fun j => ?_, fun q r hr => ⟨((h.slot q r hr).1).keep k, (h.slot q r hr).2⟩, fun q r hr => ⟨((h.wish q r hr).1).keep k, (h.wish q r hr).2⟩, fun j => ?_, fun j => ?_, fun j => ?_⟩
  all_goals
    rw [put_X]
    split
  · exact h1
  · exact h.seen j
  · rename_i e; subst e; exact h2
  · exact h.own j
  · exact h3
  · exact h.low j
  · exact fun e => ⟨((h4 e).1).keep k, (h4 e).2⟩
  · exact fun e => ⟨((h.offer j e).1).keep k, (h.offer j e).2⟩

/-- A wish is written. -/
theorem Inv.wished (h : Inv P L D a) (hi : i < P) (h1 : 1 ≤ (a.X i).seq) : Inv P L D { a with W := up a.W i (some (mine a i)) } := by
  refine ⟨h.d, h.pre, h.seen, h.slot, fun q r hr => ?_, h.own, h.low, h.offer⟩
  show Ok P a r ∧ _
  have hr' : up a.W i (some (mine a i)) q = some r := hr
  unfold up at hr'
  split at hr'
  · rename_i e
    subst e
    obtain rfl := Option.some.inj hr'
    exact ⟨⟨hi, h1, Nat.le_refl _, fun _ => rfl⟩, rfl⟩
  · exact h.wish q r hr'

theorem Inv.known (h : Inv P L D a) (n : Nat) : kn a.S i n ≤ (a.X i).seq :=
  kn_le n fun k r _ hr hw => by have := ((h.slot k r hr).1).2.2.1; rw [hw] at this; exact this

theorem Inv.begins (h : Inv P L D a) (s : ByteArray) : Inv P L D (begins a i s) := by
  have kk : ∀ r, Ok P a r → Ok P (prc.begins a i s) r := fun r ⟨r1, r2, r3, r4⟩ => by
    refine ⟨r1, r2, ?_, ?_⟩
    · show r.seq ≤ ((put a i _).X r.who).seq
      rw [put_X]
      split
      · rename_i e; rw [e] at r3; show _ ≤ (a.X i).seq + 1; omega
      · exact r3
    · show r.seq = ((put a i _).X r.who).seq → r = mine (put a i _) r.who
      unfold mine
      rw [put_X]
      split
      · rename_i e
        intro h2
        rw [e] at r3
        have h3 : r.seq = (a.X i).seq + 1 := h2
        omega
      · exact r4
  refine ⟨h.d, h.pre, fun j => ?_, fun q r hr => ⟨kk r (h.slot q r hr).1, (h.slot q r hr).2⟩, fun q r hr => ⟨kk r (h.wish q r hr).1, (h.wish q r hr).2⟩, fun j => ?_, fun j => ?_, fun j => ?_⟩
  all_goals
    show _
    unfold prc.begins
    rw [put_X]
    split
  · rename_i e; subst e; exact h.seen j
  · exact h.seen j
  · rename_i e; subst e
    intro _ _
    exact Nat.lt_succ_of_le (h.known _)
  · exact h.own j
  · intro e; exact absurd e (by show ¬ 2 ≤ 1; omega)
  · exact h.low j
  · intro e; exact absurd e (by show ¬ 1 = 4; omega)
  · exact fun e => ⟨kk _ (h.offer j e).1, (h.offer j e).2⟩

theorem Inv.begHead (h : Inv P L D a) : Inv P L D (begHead a i) :=
  h.go _ rfl rfl (h.seen i) (fun _ e => absurd e (by show ¬ 5 ≤ 4; omega)) (fun _ e => absurd e (by show ¬ 5 ≤ 4; omega)) (fun e => absurd e (by show ¬ 5 = 4; omega))

theorem Inv.sees (h : Inv P L D a) {r : Rc} (hr : a.S (a.X i).at_ = some r) (h1 : 1 ≤ (a.X i).next) (h2 : (a.X i).next ≤ 4) : Inv P L D (sees L a i r).1 := by
  have hlt : (a.X i).at_ < D := (h.pre _).1 (by rw [hr]; intro e; cases e)
  have ho := h.own i h1 h2
  have hk := h.slot _ r hr
  unfold prc.sees
  split
  · exact h.go _ rfl rfl hlt (fun e => absurd e (by show ¬ 1 ≤ 0; omega)) (fun e => absurd e (by show ¬ 2 ≤ 0; omega)) (fun e => absurd e (by show ¬ 0 = 4; omega))
  · rename_i hne
    split
    · exact h.go _ rfl rfl hlt (fun e => absurd e (by show ¬ 1 ≤ 0; omega)) (fun e => absurd e (by show ¬ 2 ≤ 0; omega)) (fun e => absurd e (by show ¬ 0 = 4; omega))
    · rename_i hL
      refine h.go _ rfl rfl hlt (fun _ _ => ?_) (fun _ _ => by show (a.X i).at_ + 1 < L; omega) (fun e => absurd e (by show ¬ 2 = 4; omega))
      show kn a.S i ((a.X i).at_ + 1) < (a.X i).seq
      unfold kn
      rw [hr]
      show (if r.who = i then max (kn a.S i (a.X i).at_) r.seq else kn a.S i (a.X i).at_) < _
      split
      · rename_i hw
        have h3 := hk.1.2.2.1
        have h4 := hk.1.2.2.2
        rw [hw] at h3 h4
        have : r.seq ≠ (a.X i).seq := fun e => hne (h4 e)
        omega
      · exact ho

theorem Inv.swapped (h : Inv P L D a) (hs : a.S (a.X i).at_ = none) (h4 : (a.X i).next = 4) : (a.X i).at_ = D ∧ Inv P L (D + 1) { a with S := up a.S (a.X i).at_ (some (a.X i).offer) } := by
  have hD : (a.X i).at_ = D := by
    have h1 := h.seen i
    rcases Nat.lt_or_ge (a.X i).at_ D with h2 | h2
    · exact absurd hs ((h.pre _).2 h2)
    · omega
  have hL := h.low i (by omega) (by omega)
  have ho := h.offer i h4
  have kk : ∀ (who n : Nat), n ≤ D → kn (up a.S (a.X i).at_ (some (a.X i).offer)) who n = kn a.S who n := fun who n hn => kn_congr who n fun k hk => up_other _ _ (by omega)
  refine ⟨hD, by omega, fun k => ?_, fun j => Nat.le_succ_of_le (h.seen j), fun k r hr => ?_, h.wish, fun j e1 e2 => ?_, h.low, fun j e => ⟨(h.offer j e).1, ?_⟩⟩
  · show up a.S (a.X i).at_ (some (a.X i).offer) k ≠ none ↔ _
    unfold up
    split
    · rename_i e
      exact ⟨fun _ => by omega, fun _ e => by cases e⟩
    · rename_i e
      rw [h.pre k]
      omega
  · have hr' : up a.S (a.X i).at_ (some (a.X i).offer) k = some r := hr
    have hkD : k ≤ D := by
      unfold up at hr'
      split at hr'
      · omega
      · exact Nat.le_of_lt ((h.pre k).1 (by rw [hr']; intro e; cases e))
    show Ok P a r ∧ kn (up a.S (a.X i).at_ (some (a.X i).offer)) r.who k < r.seq
    rw [kk _ _ hkD]
    unfold up at hr'
    split at hr'
    · rename_i e
      obtain rfl := Option.some.inj hr'
      rw [e]
      exact ho
    · exact h.slot k r hr'
  · show kn (up a.S (a.X i).at_ (some (a.X i).offer)) j (a.X j).at_ < _
    rw [kk _ _ (h.seen j)]
    exact h.own j e1 e2
  · show kn (up a.S (a.X i).at_ (some (a.X i).offer)) (a.X j).offer.who (a.X j).at_ < _
    rw [kk _ _ (h.seen j)]
    exact (h.offer j e).2

theorem Inv.step (h : Inv P L D a) (hi : i < P) : ∃ D', D ≤ D' ∧ Inv P L D' (step P L a i).1 := by
  unfold prc.step
  split
  · rename_i e
    have hw := h.wished hi (by have := h.own i (by omega) (by omega); omega)
    unfold prc.wishes
    refine ⟨D, Nat.le_refl _, ?_⟩
    split
    · exact hw.go _ rfl rfl (h.seen i) (fun e => absurd e (by show ¬ 1 ≤ 0; omega)) (fun e => absurd e (by show ¬ 2 ≤ 0; omega)) (fun e => absurd e (by show ¬ 0 = 4; omega))
    · rename_i hL
      exact hw.go _ rfl rfl (h.seen i) (fun _ _ => h.own i (by omega) (by omega)) (fun _ _ => by show (a.X i).at_ < L; omega) (fun e => absurd e (by show ¬ 2 = 4; omega))
  · rename_i e
    unfold prc.looks
    refine ⟨D, Nat.le_refl _, ?_⟩
    split
    · rename_i r hr
      exact h.sees hr (by omega) (by omega)
    · exact h.go _ rfl rfl (h.seen i) (fun _ _ => h.own i (by omega) (by omega)) (fun _ _ => h.low i (by omega) (by omega)) (fun e => absurd e (by show ¬ 3 = 4; omega))
  · rename_i e
    refine ⟨D, Nat.le_refl _, ?_⟩
    refine h.go _ rfl rfl (h.seen i) (fun _ _ => h.own i (by omega) (by omega)) (fun _ _ => h.low i (by omega) (by omega)) (fun _ => ?_)
    have ho := h.own i (by omega) (by omega)
    have hm : Ok P a (mine a i) ∧ kn a.S (mine a i).who (a.X i).at_ < (mine a i).seq := ⟨⟨hi, by show 1 ≤ (a.X i).seq; omega, Nat.le_refl _, fun _ => rfl⟩, ho⟩
    show Ok P a (prc.choose a i (a.W ((a.X i).at_ % P))) ∧ kn a.S (prc.choose a i (a.W ((a.X i).at_ % P))).who (a.X i).at_ < (prc.choose a i (a.W ((a.X i).at_ % P))).seq
    rcases choose_or a i (a.W ((a.X i).at_ % P)) with e | ⟨r, hw, hk, e⟩
    · rw [e]; exact hm
    · rw [e]; exact ⟨(h.wish _ r hw).1, hk⟩
  · rename_i e
    unfold prc.decides
    split
    · rename_i r hr
      exact ⟨D, Nat.le_refl _, h.sees hr (by omega) (by omega)⟩
    · rename_i hs
      obtain ⟨hD, h'⟩ := h.swapped hs e
      refine ⟨D + 1, by omega, h'.sees (up_same _ _ _) (by show 1 ≤ (a.X i).next; omega) (by show (a.X i).next ≤ 4; omega)⟩
  · rename_i e
    unfold prc.heads
    refine ⟨D, Nat.le_refl _, ?_⟩
    split
    · exact h.go _ rfl rfl (h.seen i) (fun e => absurd e (by show ¬ 1 ≤ 0; omega)) (fun e => absurd e (by show ¬ 2 ≤ 0; omega)) (fun e => absurd e (by show ¬ 0 = 4; omega))
    · rename_i hs
      refine h.go _ rfl rfl ?_ (fun _ e4 => absurd e4 (by show ¬ (a.X i).next ≤ 4; omega)) (fun _ e4 => absurd e4 (by show ¬ (a.X i).next ≤ 4; omega)) (fun e4 => absurd e4 (by show ¬ (a.X i).next = 4; omega))
      exact (h.pre _).1 (fun e => hs (.inr e))
  · exact ⟨D, Nat.le_refl _, h⟩
end

end Go.Proofs.Ytlbpephbigikcab.prc
