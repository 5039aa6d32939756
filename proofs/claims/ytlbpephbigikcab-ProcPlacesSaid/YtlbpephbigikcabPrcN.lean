/- proc: how many steps are left; who is helped. Of no program. -/
import Derived.Test.YtlbpephbigikcabPrcM
namespace Go.Proofs.Ytlbpephbigikcab.prc

/-- How many steps a process has left, at most. -/
def rem (L : Nat) (x : Pc) : Nat :=
  match x.next with
  | 1 => 1 + 3 * (L - x.at_)
  | 2 => 3 * (L - x.at_)
  | 3 => 3 * (L - x.at_) - 1
  | 4 => 3 * (L - x.at_) - 2
  | 5 => L - x.at_ + 1
  | _ => 0

section
variable {P L D : Nat} {a : Ab} {i : Nat}

theorem rem0 (x : Pc) (h : x.next = 0) : rem L x = 0 := by unfold rem; rw [h]; rfl
theorem rem2 (x : Pc) (h : x.next = 2) : rem L x = 3 * (L - x.at_) := by unfold rem; rw [h]; rfl
theorem rem3 (x : Pc) (h : x.next = 3) : rem L x = 3 * (L - x.at_) - 1 := by unfold rem; rw [h]; rfl
theorem rem4 (x : Pc) (h : x.next = 4) : rem L x = 3 * (L - x.at_) - 2 := by unfold rem; rw [h]; rfl
theorem rem5 (x : Pc) (h : x.next = 5) : rem L x = L - x.at_ + 1 := by unfold rem; rw [h]; rfl
theorem rem1 (x : Pc) (h : x.next = 1) : rem L x = 1 + 3 * (L - x.at_) := by unfold rem; rw [h]; rfl

theorem sees_rem (L : Nat) (a : Ab) (i : Nat) (r : Rc) : rem L ((sees L a i r).1.X i) ≤ 3 * (L - ((a.X i).at_ + 1)) ∧ (sees L a i r).2.done = decide (((sees L a i r).1.X i).next = 0) ∧ ((sees L a i r).1.X i).next ≤ 5 := by
  unfold sees
  split
  · show rem L ((put a i _).X i) ≤ _ ∧ true = decide (((put a i _).X i).next = 0) ∧ ((put a i _).X i).next ≤ 5
    rw [put_X, if_pos rfl, rem0 _ rfl]
    exact ⟨Nat.zero_le _, rfl, Nat.zero_le 5⟩
  · split
    · show rem L ((put a i _).X i) ≤ _ ∧ true = decide (((put a i _).X i).next = 0) ∧ ((put a i _).X i).next ≤ 5
      rw [put_X, if_pos rfl, rem0 _ rfl]
      exact ⟨Nat.zero_le _, rfl, Nat.zero_le 5⟩
    · show rem L ((put a i _).X i) ≤ _ ∧ false = decide (((put a i _).X i).next = 0) ∧ ((put a i _).X i).next ≤ 5
      rw [put_X, if_pos rfl, rem2 _ rfl]
      exact ⟨Nat.le_refl _, rfl, by show 2 ≤ 5; omega⟩

/-- Each step of what isn't idle leaves fewer; it is done just when it is idle then. -/
theorem step_rem (h : Inv P L D a) (h0 : (a.X i).next ≠ 0) (h5 : (a.X i).next ≤ 5) :
    rem L ((step P L a i).1.X i) + 1 ≤ rem L (a.X i) ∧ (step P L a i).2.done = decide (((step P L a i).1.X i).next = 0) ∧ ((step P L a i).1.X i).next ≤ 5 := by
  rcases (show (a.X i).next = 1 ∨ (a.X i).next = 2 ∨ (a.X i).next = 3 ∨ (a.X i).next = 4 ∨ (a.X i).next = 5 by omega) with e | e | e | e | e
  all_goals
    unfold step
    rw [e]
  · show rem L ((wishes L a i).1.X i) + 1 ≤ _ ∧ (wishes L a i).2.done = decide (((wishes L a i).1.X i).next = 0) ∧ ((wishes L a i).1.X i).next ≤ 5
    rw [rem1 _ e]
    unfold wishes
    split
    · show rem L ((put _ i _).X i) + 1 ≤ _ ∧ true = decide (((put _ i _).X i).next = 0) ∧ ((put _ i _).X i).next ≤ 5
      rw [put_X, if_pos rfl, rem0 _ rfl]
      exact ⟨by omega, rfl, Nat.zero_le 5⟩
    · show rem L ((put _ i _).X i) + 1 ≤ _ ∧ false = decide (((put _ i _).X i).next = 0) ∧ ((put _ i _).X i).next ≤ 5
      rw [put_X, if_pos rfl, rem2 _ rfl]
      exact ⟨by show 3 * (L - (a.X i).at_) + 1 ≤ _; omega, rfl, by show 2 ≤ 5; omega⟩
  · show rem L ((looks L a i).1.X i) + 1 ≤ _ ∧ (looks L a i).2.done = decide (((looks L a i).1.X i).next = 0) ∧ ((looks L a i).1.X i).next ≤ 5
    have hl := h.low i (by omega) (by omega)
    rw [rem2 _ e]
    unfold looks
    split
    · rename_i r hr
      have := sees_rem L a i r
      exact ⟨by omega, this.2⟩
    · show rem L ((put _ i _).X i) + 1 ≤ _ ∧ false = decide (((put _ i _).X i).next = 0) ∧ ((put _ i _).X i).next ≤ 5
      rw [put_X, if_pos rfl, rem3 _ rfl]
      exact ⟨by show 3 * (L - (a.X i).at_) - 1 + 1 ≤ _; omega, rfl, by show 3 ≤ 5; omega⟩
  · have hl := h.low i (by omega) (by omega)
    rw [rem3 _ e]
    show rem L ((put _ i _).X i) + 1 ≤ _ ∧ false = decide (((put _ i _).X i).next = 0) ∧ ((put _ i _).X i).next ≤ 5
    rw [put_X, if_pos rfl, rem4 _ rfl]
    exact ⟨by show 3 * (L - (a.X i).at_) - 2 + 1 ≤ _; omega, rfl, by show 4 ≤ 5; omega⟩
  · show rem L ((decides L a i).1.X i) + 1 ≤ _ ∧ (decides L a i).2.done = decide (((decides L a i).1.X i).next = 0) ∧ ((decides L a i).1.X i).next ≤ 5
    have hl := h.low i (by omega) (by omega)
    rw [rem4 _ e]
    unfold decides
    split
    · rename_i r hr
      have := sees_rem L a i r
      exact ⟨by omega, this.2⟩
    · have := sees_rem L { a with S := up a.S (a.X i).at_ (some (a.X i).offer) } i (a.X i).offer
      refine ⟨?_, this.2⟩
      have h1 : _ ≤ 3 * (L - ((a.X i).at_ + 1)) := this.1
      omega
  · show rem L ((heads L a i).1.X i) + 1 ≤ _ ∧ (heads L a i).2.done = decide (((heads L a i).1.X i).next = 0) ∧ ((heads L a i).1.X i).next ≤ 5
    rw [rem5 _ e]
    unfold heads
    split
    · show rem L ((put _ i _).X i) + 1 ≤ _ ∧ true = decide (((put _ i _).X i).next = 0) ∧ ((put _ i _).X i).next ≤ 5
      rw [put_X, if_pos rfl, rem0 _ rfl]
      exact ⟨by omega, rfl, Nat.zero_le 5⟩
    · rename_i hs
      have e5 : rem L ({ a.X i with at_ := (a.X i).at_ + 1 } : Pc) = L - ((a.X i).at_ + 1) + 1 := rem5 _ e
      show rem L ((put _ i _).X i) + 1 ≤ _ ∧ false = decide (((put _ i _).X i).next = 0) ∧ ((put _ i _).X i).next ≤ 5
      rw [put_X, if_pos rfl]
      exact ⟨by rw [e5]; omega, by show false = decide ((a.X i).next = 0); rw [e]; rfl, by show (a.X i).next ≤ 5; omega⟩

theorem step_idle (h0 : (a.X i).next = 0) : step P L a i = (a, nope) := by
  unfold step
  rw [h0]
  rfl

theorem sees_other (r : Rc) {j : Nat} (hj : j ≠ i) : (sees L a i r).1.X j = a.X j := by
  unfold sees
  split
  · show (put a i _).X j = _
    rw [put_X, if_neg hj]
  · split <;> (show (put a i _).X j = _; rw [put_X, if_neg hj])

/-- Nobody else's step is one's own. -/
theorem step_other {j : Nat} (hj : j ≠ i) : (step P L a i).1.X j = a.X j := by
  unfold step
  split
  · unfold wishes
    split <;> (show (put _ i _).X j = _; rw [put_X, if_neg hj])
  · unfold looks
    split
    · exact sees_other _ hj
    · show (put a i _).X j = _; rw [put_X, if_neg hj]
  · show (put a i _).X j = _; rw [put_X, if_neg hj]
  · unfold decides
    split
    · exact sees_other _ hj
    · exact sees_other (a := { a with S := up a.S (a.X i).at_ (some (a.X i).offer) }) _ hj
  · unfold heads
    split <;> (show (put _ i _).X j = _; rw [put_X, if_neg hj])
  · rfl

theorem sees_WS (r : Rc) : (sees L a i r).1.W = a.W ∧ (sees L a i r).1.S = a.S := by
  unfold sees
  split
  · exact ⟨rfl, rfl⟩
  · split <;> exact ⟨rfl, rfl⟩

theorem sees_seq (r : Rc) (j : Nat) : ((sees L a i r).1.X j).seq = (a.X j).seq ∧ ((sees L a i r).1.X j).body = (a.X j).body := by
  unfold sees
  split
  · (refine put_same a i _ ?_ ?_ j <;> rfl)
  · split <;> (refine put_same a i _ ?_ ?_ j <;> rfl)

/-- A step leaves each process's number and bytes. -/
theorem step_seq (j : Nat) : ((step P L a i).1.X j).seq = (a.X j).seq ∧ ((step P L a i).1.X j).body = (a.X j).body := by
  unfold step
  split
  · unfold wishes
    split
    · (refine put_same { a with W := up a.W i (some (mine a i)) } i _ ?_ ?_ j <;> rfl)
    · (refine put_same { a with W := up a.W i (some (mine a i)) } i _ ?_ ?_ j <;> rfl)
  · unfold looks
    split
    · exact sees_seq _ j
    · (refine put_same a i _ ?_ ?_ j <;> rfl)
  · exact put_same a i { a.X i with next := 4, offer := choose a i (a.W ((a.X i).at_ % P)) } rfl rfl j
  · unfold decides
    split
    · exact sees_seq _ j
    · exact sees_seq (a := { a with S := up a.S (a.X i).at_ (some (a.X i).offer) }) _ j
  · unfold heads
    split <;> (refine put_same a i _ ?_ ?_ j <;> rfl)
  · exact ⟨rfl, rfl⟩

/-- Process i's wish stands; slot j is the one that is to help it. -/
structure Helped (P L k j i : Nat) (a : Ab) : Prop where
  wish : a.W i = some (mine a i)
  was : k ≤ j
  turn : j % P = i
  old : kn a.S i k < (a.X i).seq
  offer : ∀ q, (a.X q).next = 4 → (a.X q).at_ = j → (∃ m, k ≤ m ∧ m < j ∧ a.S m = some (mine a i)) ∨ (a.X q).offer = mine a i
  slot : a.S j ≠ none → ∃ m, k ≤ m ∧ m ≤ j ∧ a.S m = some (mine a i)
  deep : ∀ m, m < k → a.S m ≠ none

/-- What is known of it up to slot j: then it is decided from k on. -/
theorem Helped.there {k j : Nat} (h : Inv P L D a) (hh : Helped P L k j i a) {n : Nat} (hn : ¬ kn a.S i n < (a.X i).seq) : ∃ m, k ≤ m ∧ m < n ∧ a.S m = some (mine a i) := by
  have hs : 1 ≤ (a.X i).seq := by have := hh.old; omega
  obtain ⟨m, r, h1, h2, h3, h4⟩ := kn_some (S := a.S) (who := i) (m := (a.X i).seq - 1) n (by omega)
  have hr := h.slot m r h2
  have e1 := hr.1.2.2.1
  have e2 := hr.1.2.2.2
  rw [h3] at e1 e2
  have e3 := e2 (by omega)
  refine ⟨m, ?_, h1, by rw [h2, e3]⟩
  rcases Nat.lt_or_ge m k with h5 | h5
  · exfalso
    have h6 : kn a.S i (m + 1) ≤ kn a.S i k := kn_mono i k h5
    have h7 : (a.X i).seq ≤ kn a.S i (m + 1) := by
      show _ ≤ (match a.S m with | some r => if r.who = i then max (kn a.S i m) r.seq else kn a.S i m | none => kn a.S i m)
      rw [h2]
      show _ ≤ (if r.who = i then max (kn a.S i m) r.seq else kn a.S i m)
      rw [if_pos h3]
      have := Nat.le_max_right (kn a.S i m) r.seq
      omega
    have := hh.old
    omega
  · exact h5

theorem mine_of {b : Ab} (e : (b.X i).seq = (a.X i).seq ∧ (b.X i).body = (a.X i).body) : mine b i = mine a i := by
  unfold mine; rw [e.1, e.2]

/-- Another process q goes on. -/
theorem Helped.go {k j q : Nat} (hh : Helped P L k j i a) (hq : q ≠ i) (x : Pc)
    (ho : x.next = 4 → x.at_ = j → (∃ m, k ≤ m ∧ m < j ∧ a.S m = some (mine a i)) ∨ x.offer = mine a i) : Helped P L k j i (put a q x) := by
  have hX : (put a q x).X i = a.X i := by rw [put_X, if_neg (fun e => hq e.symm)]
  have hm : mine (put a q x) i = mine a i := mine_of (by rw [hX]; exact ⟨rfl, rfl⟩)
  refine ⟨by rw [hm]; exact hh.wish, hh.was, hh.turn, by rw [hX]; exact hh.old, fun p => ?_, by rw [hm]; exact hh.slot, hh.deep⟩
  rw [put_X, hm]
  split
  · exact ho
  · exact hh.offer p

theorem Helped.sees {k j q : Nat} (hh : Helped P L k j i a) (hq : q ≠ i) (r : Rc) : Helped P L k j i (sees L a q r).1 := by
  unfold prc.sees
  split
  · exact hh.go hq _ (fun e => absurd e (by show ¬ 0 = 4; omega))
  · split
    · exact hh.go hq _ (fun e => absurd e (by show ¬ 0 = 4; omega))
    · exact hh.go hq _ (fun e => absurd e (by show ¬ 2 = 4; omega))

theorem Helped.begins {k j q : Nat} (hh : Helped P L k j i a) (hq : q ≠ i) (s : ByteArray) : Helped P L k j i (begins a q s) :=
  hh.go hq _ (fun e => absurd e (by show ¬ 1 = 4; omega))
theorem Helped.begHead {k j q : Nat} (hh : Helped P L k j i a) (hq : q ≠ i) : Helped P L k j i (begHead a q) :=
  hh.go hq _ (fun e => absurd e (by show ¬ 5 = 4; omega))

theorem Helped.step {k j q : Nat} (h : Inv P L D a) (hh : Helped P L k j i a) (hq : q ≠ i) : Helped P L k j i (step P L a q).1 := by
  unfold prc.step
  split
  · have hw : Helped P L k j i { a with W := up a.W q (some (mine a q)) } := ⟨by show up a.W q _ i = some (mine a i); rw [up_other _ _ (fun e => hq e.symm)]; exact hh.wish, hh.was, hh.turn, hh.old, hh.offer, hh.slot, hh.deep⟩
    unfold prc.wishes
    split
    · exact hw.go hq _ (fun e => absurd e (by show ¬ 0 = 4; omega))
    · exact hw.go hq _ (fun e => absurd e (by show ¬ 2 = 4; omega))
  · unfold prc.looks
    split
    · exact hh.sees hq _
    · exact hh.go hq _ (fun e => absurd e (by show ¬ 3 = 4; omega))
  · refine hh.go hq _ (fun _ e => ?_)
    have e' : (a.X q).at_ = j := e
    show _ ∨ choose a q (a.W ((a.X q).at_ % P)) = mine a i
    rw [e', hh.turn, hh.wish]
    by_cases hk : kn a.S i (a.X q).at_ < (a.X i).seq
    · refine .inr ?_
      show (if kn a.S i (a.X q).at_ < (a.X i).seq then mine a i else mine a q) = _
      rw [if_pos hk]
    · refine .inl ?_
      rw [e'] at hk
      exact hh.there h hk
  · rename_i e4
    unfold prc.decides
    split
    · exact hh.sees hq _
    · rename_i hs
      have hD := (h.swapped hs e4).1
      refine Helped.sees (a := { a with S := up a.S (a.X q).at_ (some (a.X q).offer) }) ?_ hq _
      have hk : k ≤ D := by
        rcases Nat.lt_or_ge D k with h1 | h1
        · exact absurd (by rw [← hD]; exact hs) (hh.deep D h1)
        · exact h1
      have keep : ∀ m, m < D → up a.S (a.X q).at_ (some (a.X q).offer) m = a.S m := fun m hm => up_other _ _ (by omega)
      have keep2 : ∀ {m}, a.S m = some (mine a i) → up a.S (a.X q).at_ (some (a.X q).offer) m = some (mine a i) := fun {m} hm => by
        rw [keep m ((h.pre m).1 (by rw [hm]; intro e; cases e))]; exact hm
      have hkn : kn (up a.S (a.X q).at_ (some (a.X q).offer)) i k = kn a.S i k := kn_congr i k fun m hm => keep m (by omega)
      refine ⟨hh.wish, hh.was, hh.turn, by rw [hkn]; exact hh.old, fun p e1 e2 => ?_, fun hne => ?_, fun m hm => ?_⟩
      · rcases hh.offer p e1 e2 with ⟨m, m1, m2, m3⟩ | e
        · exact .inl ⟨m, m1, m2, keep2 m3⟩
        · exact .inr e
      · by_cases hj : (a.X q).at_ = j
        · rcases hh.offer q e4 hj with ⟨m, m1, m2, m3⟩ | e
          · exact ⟨m, m1, by omega, keep2 m3⟩
          · refine ⟨j, hh.was, Nat.le_refl _, ?_⟩
            show up a.S (a.X q).at_ (some (a.X q).offer) j = some (mine a i)
            rw [hj, up_same, e]
        · have hne' : a.S j ≠ none := by
            have h2 : up a.S (a.X q).at_ (some (a.X q).offer) j ≠ none := hne
            rw [up_other _ _ (fun e => hj e.symm)] at h2
            exact h2
          obtain ⟨m, m1, m2, m3⟩ := hh.slot hne'
          exact ⟨m, m1, m2, keep2 m3⟩
      · show up a.S (a.X q).at_ (some (a.X q).offer) m ≠ none
        rw [keep m (by omega)]
        exact hh.deep m hm
  · unfold prc.heads
    split
    · exact hh.go hq _ (fun e => absurd e (by show ¬ 0 = 4; omega))
    · rename_i e5 _
      exact hh.go hq _ (fun e => absurd e (by show ¬ (a.X q).next = 4; omega))
  · exact hh

/-- A wish that was just written, when the first D slots were decided. -/
theorem helped_new (h : Inv P L D a) {j : Nat} (hj : D < j) (ht : j % P = i) (hw : a.W i = some (mine a i)) (ho : kn a.S i D < (a.X i).seq) : Helped P L D j i a :=
  ⟨hw, by omega, ht, ho, fun q _ e2 => absurd e2 (by have := h.seen q; omega), fun hne => absurd ((h.pre j).1 hne) (by omega), fun m hm => (h.pre m).2 hm⟩
end
end Go.Proofs.Ytlbpephbigikcab.prc
