/- proc: some processes over one memory, beside the abstract ones. -/
import Derived.Test.YtlbpephbigikcabPrcK
namespace Go.Proofs.Ytlbpephbigikcab.prc
open Go Go.RowKit Go.Maps

section
variable {P L D : Nat} {A : Ab} {i : Nat}

theorem sees_next (r : Rc) (h : ∀ j, (A.X j).next ≤ 5) (j : Nat) : ((sees L A i r).1.X j).next ≤ 5 := by
  by_cases e : j = i
  · subst e; exact (sees_rem L A j r).2.2
  · rw [sees_other r e]; exact h j

theorem step_next (hI : Inv P L D A) (h : ∀ j, (A.X j).next ≤ 5) (j : Nat) : ((step P L A i).1.X j).next ≤ 5 := by
  by_cases e : j = i
  · subst e
    by_cases h0 : (A.X j).next = 0
    · rw [step_idle h0]; exact h j
    · exact (step_rem hI h0 (h j)).2.2
  · rw [step_other e]; exact h j

/-- A step leaves the slots that are decided. -/
theorem step_S (hI : Inv P L D A) {k : Nat} (hk : k < D) : (step P L A i).1.S k = A.S k := by
  unfold step
  split
  · unfold wishes; split <;> rfl
  · unfold looks
    split
    · rw [(sees_WS _).2]
    · rfl
  · rfl
  · rename_i e4
    unfold decides
    split
    · rw [(sees_WS _).2]
    · rename_i hs
      rw [(sees_WS _).2]
      exact up_other _ _ (by have := (hI.swapped hs e4).1; omega)
  · unfold heads; split <;> rfl
  · rfl

theorem mine_step (j : Nat) : mine (step P L A i).1 j = mine A j := mine_of (step_seq j)
end

/-- The abstract world, with what is always so. -/
structure Good (P L : Nat) (A : Ab) : Prop where
  inv : ∃ D, Inv P L D A
  fit : Fit P A
  next : ∀ i, (A.X i).next ≤ 5

theorem Good.step {P L : Nat} {A : Ab} (h : Good P L A) {i : Nat} (hi : i < P) : Good P L (step P L A i).1 := by
  obtain ⟨D, hD⟩ := h.inv
  obtain ⟨D', _, h'⟩ := hD.step hi
  exact ⟨⟨D', h'⟩, h.fit.step hi, step_next hD h.next⟩

theorem Good.begins {P L : Nat} {A : Ab} (h : Good P L A) {i : Nat} (hi : i ≤ 63) {s : ByteArray} (h1 : (A.X i).seq + 1 ≤ 1099511627776) (h2 : s.size ≤ 1024) : Good P L (begins A i s) := by
  obtain ⟨D, hD⟩ := h.inv
  refine ⟨⟨D, hD.begins s⟩, h.fit.begins i hi h1 h2, fun j => ?_⟩
  unfold prc.begins
  rw [put_X]
  split
  · show 1 ≤ 5; omega
  · exact h.next j

theorem Good.begHead {P L : Nat} {A : Ab} (h : Good P L A) (i : Nat) : Good P L (begHead A i) := by
  obtain ⟨D, hD⟩ := h.inv
  refine ⟨⟨D, hD.begHead⟩, h.fit.begHead i, fun j => ?_⟩
  unfold prc.begHead
  rw [put_X]
  split
  · show 5 ≤ 5; omega
  · exact h.next j

/-- Nothing has happened. -/
def ab0 : Ab := ⟨fun _ => none, fun _ => none, fun _ => ⟨0, 0, 0, ⟨#[]⟩, ⟨0, 0, ⟨#[]⟩⟩⟩⟩
theorem kn0 (who : Nat) : ∀ n, kn ab0.S who n = 0
  | 0 => rfl
  | n + 1 => by
    show (match ab0.S n with | some r => if r.who = who then max (kn ab0.S who n) r.seq else kn ab0.S who n | none => kn ab0.S who n) = 0
    exact kn0 who n
theorem good0 {P : Nat} (L : Nat) (hP : P ≤ 64) : Good P L ab0 := by
  refine ⟨⟨0, by omega, fun k => ⟨fun h => absurd rfl h, fun h => by omega⟩, fun i => Nat.le_refl _, fun k r h => (by cases h), fun i r h => (by cases h), fun i h => absurd h (by show ¬ 1 ≤ 0; omega), fun i h => absurd h (by show ¬ 2 ≤ 0; omega), fun i h => absurd h (by show ¬ 0 = 4; omega)⟩, ⟨fun k r h => (by cases h), fun i r h => (by cases h), fun i hi => ⟨by show i ≤ 63; omega, Nat.zero_le _, Nat.zero_le _⟩, fun i h => absurd h (by show ¬ 0 = 4; omega)⟩, fun i => Nat.zero_le _⟩

/-- The processes of I, at the blocks B, over the memory at d. -/
structure Sys (w : World) (d c m P L : Nat) (A : Ab) (K : Nat) (I : Nat → Prop) (B : Nat → Nat) (V : World) : Prop where
  mm : Mm w d c m P L A K V
  pr : ∀ i, I i → ∃ x, Pr V (B i) x ∧ Rx P L A i x
  lo : ∀ i, I i → w.heap.size ≤ B i
  inj : ∀ i j, I i → I j → i ≠ j → B i ≠ B j
  lt : ∀ i, I i → i < P
  turn : Turn (fun j => w.heap.size ≤ j) w V

section
variable {w V V' : World} {d c m P L K : Nat} {A : Ab} {I : Nat → Prop} {B : Nat → Nat} {i : Nat}

theorem Sys.below (h : Sys w d c m P L A K I B V) (hb : Below V.heap.size V V') : Sys w d c m P L A K I B V' :=
  ⟨h.mm.below hb, fun i hi => by obtain ⟨x, h1, h2⟩ := h.pr i hi; exact ⟨x, h1.below hb, h2⟩, h.lo, h.inj, h.lt, h.turn.trans (Turn.of_below hb (F := fun j => V.heap.size ≤ j) (fun _ _ e => e)) (fun j h1 h2 => absurd h2 (by have := h.turn.size; omega))⟩
theorem Sys.drew (h : Sys w d c m P L A K I B V) : Sys w d c m P L A K I B V.drew :=
  ⟨h.mm.drew, h.pr, h.lo, h.inj, h.lt, h.turn.drew⟩

theorem Sys.ends (h : Sys w d c m P L A K I B V) : Below w.heap.size w V := h.turn.below (Nat.le_refl _) (fun _ hj e => by omega)

/-- Another block turns, made since w, that is none of it. -/
theorem Sys.other {F : Nat → Prop} (h : Sys w d c m P L A K I B V) (t : Turn F V V') (hF : ∀ j, F j → w.heap.size ≤ j) (hn : ∀ j, F j → ¬ Mb d c m j) (hb : ∀ j i, F j → I i → B i ≠ j) : Sys w d c m P L A K I B V' :=
  ⟨h.mm.other t hF hn, fun i hi => by obtain ⟨x, h1, h2⟩ := h.pr i hi; exact ⟨x, h1.turn t (fun e => hb _ i e hi rfl), h2⟩, h.lo, h.inj, h.lt, h.turn.trans t (fun j _ e => hF j e)⟩

def SysPost (w : World) (d c m P L : Nat) (A' : Ab) (e : En) (K : Nat) (I : Nat → Prop) (B : Nat → Nat) (V : World) (en : Ending) (w' : World) : Prop :=
  en = .returned (.agg #[.bool e.done, .bool e.full, .int .i64 e.slot]) ∧ Sys w d c m P L A' K I B w' ∧ Turn (fun j => (∃ i, I i ∧ j = B i) ∨ Mb d c m j) V w'

theorem Sys.step (h : Sys w d c m P L A K I B V) (hG : Good P L A) (hi : I i) (hP : P ≤ 64) (hL : L ≤ 256) (hK : K ≤ 900000) :
    Calls Try.prog 22 #[.pointer (some ⟨B i, 0, none⟩), .pointer (some ⟨d, 0, none⟩)] V (SysPost w d c m P L (step P L A i).1 (step P L A i).2 (K + 1) I B V) := by
  obtain ⟨D, hI⟩ := hG.inv
  obtain ⟨x, hp, hx⟩ := h.pr i hi
  refine (step_real hI hG.fit (h.lt i hi) hP hL hK (hG.next i) hp hx h.mm (h.lo i hi)).mono ?_
  rintro en w' ⟨y, rfl, p1, r1, m1, t1⟩
  refine ⟨rfl, ⟨m1, fun j hj => ?_, h.lo, h.inj, h.lt, h.turn.trans t1 (fun j hj e => ?_)⟩, t1.more (fun j _ e => ?_)⟩
  · by_cases e : j = i
    · subst e; exact ⟨y, p1, r1⟩
    · obtain ⟨z, q1, q2⟩ := h.pr j hj
      refine ⟨z, q1.turn t1 (fun e2 => ?_), ?_⟩
      · rcases e2 with e2 | e2
        · exact h.inj j i hj hi e e2
        · exact q1.apart h.mm e2
      · have hX : (prc.step P L A i).1.X j = A.X j := step_other e
        refine ⟨q2.procs, q2.slots, q2.who, by rw [hX]; exact q2.seq, by rw [hX]; exact q2.seen, by rw [hX]; exact q2.next, fun k hk => ?_, fun h1 h2 => ?_, fun h1 => ?_⟩
        · rw [hX, q2.last k hk]
          exact congrArg Int.ofNat (kn_congr k _ fun q hq => step_S hI (Nat.lt_of_lt_of_le hq (hI.seen j))).symm
        · rw [hX] at h1 h2
          rw [mine_step]; exact q2.own h1 h2
        · rw [hX] at h1 ⊢; exact q2.offer h1
  · rcases e with e | e
    · rw [e]; exact h.lo i hi
    · obtain ⟨D0, a0, ho, _⟩ := h.mm
      rcases e with rfl | rfl | rfl
      · exact ho.nd
      · exact ho.nc
      · exact ho.nm
  · rcases e with e | e
    · exact .inl ⟨i, hi, e⟩
    · exact .inr e

theorem Sys.step_is (h : Sys w d c m P L A K I B V) (hG : Good P L A) (hi : I i) (hP : P ≤ 64) (hL : L ≤ 256) (hK : K ≤ 900000) {A' : Ab} {dn fl : Bool} {s : Int} (h1 : (prc.step P L A i).1 = A') (h2 : (prc.step P L A i).2.done = dn) (h3 : (prc.step P L A i).2.full = fl) (h4 : ((prc.step P L A i).2.slot : Int) = s) :
    Calls Try.prog 22 #[.pointer (some ⟨B i, 0, none⟩), .pointer (some ⟨d, 0, none⟩)] V (fun en w' => en = .returned (.agg #[.bool dn, .bool fl, .int .i64 s]) ∧ Sys w d c m P L A' (K + 1) I B w' ∧ Turn (fun j => (∃ i, I i ∧ j = B i) ∨ Mb d c m j) V w') := by
  subst h1 h2 h3 h4
  exact h.step hG hi hP hL hK

/-- A process's own change of its block. -/
theorem Sys.own (h : Sys w d c m P L A K I B V) (hi : I i) {A' : Ab} {y : Px} (hp : Pr V' (B i) y) (hx : Rx P L A' i y) (hS : A'.S = A.S) (hW : A'.W = A.W) (hX : ∀ j, j ≠ i → A'.X j = A.X j) (t : Turn (fun j => j = B i) V V') : Sys w d c m P L A' K I B V' := by
  refine ⟨?_, fun j hj => ?_, h.lo, h.inj, h.lt, h.turn.trans t (fun j _ e => by rw [e]; exact h.lo i hi)⟩
  · have hm : Mm w d c m P L A K V' := h.mm.other t (fun j e => by rw [e]; exact h.lo i hi) (fun j e => by
      rw [e]
      obtain ⟨x, q1, _⟩ := h.pr i hi
      exact q1.apart h.mm)
    have hc : cellT P A' = cellT P A ∧ cellN P A' = cellN P A := by unfold cellT cellN; rw [hS, hW]; exact ⟨rfl, rfl⟩
    unfold Mm at hm ⊢
    rw [hc.1, hc.2]
    exact hm
  · by_cases e : j = i
    · subst e; exact ⟨y, hp, hx⟩
    · obtain ⟨z, q1, q2⟩ := h.pr j hj
      have hXj := hX j e
      refine ⟨z, q1.turn t (fun e2 => h.inj j i hj hi e e2), q2.procs, q2.slots, q2.who, by rw [hXj]; exact q2.seq, by rw [hXj]; exact q2.seen, by rw [hXj]; exact q2.next, fun k hk => by rw [hXj, hS]; exact q2.last k hk, fun h1 h2 => ?_, fun h1 => ?_⟩
      · rw [hXj] at h1 h2
        rw [show mine A' j = mine A j by unfold mine; rw [hXj]]
        exact q2.own h1 h2
      · rw [hXj] at h1 ⊢; exact q2.offer h1

theorem rx_next0 {x : Px} (hx : Rx P L A i x) : (x.next = 0) ↔ (A.X i).next = 0 := by
  rw [hx.next]
  split
  · rename_i h; omega
  · omega

def OwnPost (w : World) (d c m P L : Nat) (A' : Ab) (K : Nat) (I : Nat → Prop) (B : Nat → Nat) (i : Nat) (V : World) (en : Ending) (w' : World) : Prop :=
  en = .returned (.int .i64 0) ∧ Sys w d c m P L A' K I B w' ∧ Turn (fun j => j = B i) V w'

theorem Sys.begins (h : Sys w d c m P L A K I B V) (hi : I i) (h0 : (A.X i).next = 0) (s : ByteArray) (hi63 : i ≤ 63) (h1 : (A.X i).seq + 1 ≤ 1099511627776) (h2 : s.size ≤ 1024) :
    Calls Try.prog 27 #[.pointer (some ⟨B i, 0, none⟩), .string s] V (OwnPost w d c m P L (begins A i s) K I B i V) := by
  obtain ⟨x, hp, hx⟩ := h.pr i hi
  refine (begin_calls hp ((rx_next0 hx).2 h0) i (A.X i).seq hx.who hx.seq s ⟨hi63, h1, h2⟩).mono ?_
  rintro en w' ⟨rfl, p1, t1⟩
  refine ⟨rfl, h.own hi p1 ?_ rfl rfl (fun j hj => by unfold prc.begins; rw [put_X, if_neg hj]) t1, t1⟩
  have hX : (prc.begins A i s).X i = { A.X i with next := 1, seq := (A.X i).seq + 1, body := s } := put_at _ _ _
  refine ⟨hx.procs, hx.slots, hx.who, by rw [hX]; rfl, by rw [hX]; exact hx.seen, by rw [hX]; rw [if_neg (by show ¬ (1 = 5 ∧ _); omega)]; rfl, fun k hk => by rw [hX]; exact hx.last k hk, fun _ _ => ?_, fun h4 => ?_⟩
  · rw [show mine (prc.begins A i s) i = ⟨i, (A.X i).seq + 1, s⟩ by unfold mine; rw [hX]]
    rfl
  · rw [hX] at h4; exact absurd h4 (by show ¬ 1 = 4; omega)

theorem Sys.busy (h : Sys w d c m P L A K I B V) (hi : I i) (h0 : (A.X i).next ≠ 0) (s : ByteArray) : Calls Try.prog 27 #[.pointer (some ⟨B i, 0, none⟩), .string s] V fun en w' => en = .returned (.int .i64 20) ∧ V = w' := by
  obtain ⟨x, hp, hx⟩ := h.pr i hi
  exact busy_begin hp (fun e => h0 ((rx_next0 hx).1 e)) s

theorem Sys.busyHead (h : Sys w d c m P L A K I B V) (hi : I i) (h0 : (A.X i).next ≠ 0) : Calls Try.prog 29 #[.pointer (some ⟨B i, 0, none⟩)] V fun en w' => en = .returned (.int .i64 20) ∧ V = w' := by
  obtain ⟨x, hp, hx⟩ := h.pr i hi
  exact busy_head hp (fun e => h0 ((rx_next0 hx).1 e))

theorem Sys.head (h : Sys w d c m P L A K I B V) (hi : I i) (h0 : (A.X i).next = 0) :
    Calls Try.prog 29 #[.pointer (some ⟨B i, 0, none⟩)] V (OwnPost w d c m P L (begHead A i) K I B i V) := by
  obtain ⟨x, hp, hx⟩ := h.pr i hi
  refine (head_calls hp ((rx_next0 hx).2 h0)).mono ?_
  rintro en w' ⟨rfl, p1, t1⟩
  refine ⟨rfl, h.own hi p1 ?_ rfl rfl (fun j hj => by unfold prc.begHead; rw [put_X, if_neg hj]) t1, t1⟩
  have hX : (prc.begHead A i).X i = { A.X i with next := 5 } := put_at _ _ _
  refine ⟨hx.procs, hx.slots, hx.who, by rw [hX]; exact hx.seq, by rw [hX]; exact hx.seen, ?_, fun k hk => by rw [hX]; exact hx.last k hk, fun _ h4 => ?_, fun h4 => ?_⟩
  · rw [hX]
    show (if x.slots ≤ x.seen then (6 : Int) else 5) = if 5 = 5 ∧ L ≤ (A.X i).at_ then 6 else 5
    rw [hx.slots, hx.seen]
    by_cases h5 : L ≤ (A.X i).at_
    · rw [if_pos (by omega), if_pos ⟨rfl, h5⟩]
    · rw [if_neg (by omega), if_neg (fun h => h5 h.2)]
  · rw [hX] at h4; exact absurd h4 (by show ¬ 5 ≤ 4; omega)
  · rw [hX] at h4; exact absurd h4 (by show ¬ 5 = 4; omega)

theorem Sys.idle (h : Sys w d c m P L A K I B V) (hi : I i) : Calls Try.prog 20 #[.pointer (some ⟨B i, 0, none⟩)] V fun en w' => en = .returned (.bool (decide ((A.X i).next = 0))) ∧ V = w' := by
  obtain ⟨x, hp, hx⟩ := h.pr i hi
  refine (idle_calls hp).mono ?_
  rintro en w' ⟨rfl, rfl⟩
  refine ⟨?_, rfl⟩
  have e : (x.next == 0) = decide ((A.X i).next = 0) := by
    by_cases h0 : (A.X i).next = 0
    · rw [decide_eq_true h0, (rx_next0 hx).2 h0]; rfl
    · rw [decide_eq_false h0]; exact beq_eq_false_iff_ne.2 (fun e => h0 ((rx_next0 hx).1 e))
  rw [e]

theorem Sys.at_ (h : Sys w d c m P L A K I B V) (hi : I i) : Calls Try.prog 35 #[.pointer (some ⟨B i, 0, none⟩)] V fun en w' => en = .returned (.int .i64 (A.X i).at_) ∧ V = w' := by
  obtain ⟨x, hp, hx⟩ := h.pr i hi
  rw [← hx.seen]
  exact at_calls hp
theorem Sys.seq (h : Sys w d c m P L A K I B V) (hi : I i) : Calls Try.prog 23 #[.pointer (some ⟨B i, 0, none⟩)] V fun en w' => en = .returned (.int .i64 (A.X i).seq) ∧ V = w' := by
  obtain ⟨x, hp, hx⟩ := h.pr i hi
  rw [← hx.seq]
  exact seq_calls hp

theorem Sys.look (h : Sys w d c m P L A K I B V) (j : Nat) (hj : j < P + L) (t : ByteArray) (ht : cellT P A j = t) : Calls Try.prog 17 #[.pointer (some ⟨d, 0, none⟩), .int .i64 j] V fun en w' => en = .returned (.string t) ∧ w' = V := by
  obtain ⟨D, a, ho, _⟩ := h.mm
  exact ho.look j t ((cel.text_at _ hj).trans ht)
theorem Sys.swaps (h : Sys w d c m P L A K I B V) (j : Nat) (hj : j < P + L) (n : Int) (hn : cellN P A j = n) : Calls Try.prog 37 #[.pointer (some ⟨d, 0, none⟩), .int .i64 j] V fun en w' => en = .returned (.int .i64 n) ∧ w' = V := by
  obtain ⟨D, a, ho, _⟩ := h.mm
  exact ho.swaps j n ((cel.swaps_at _ hj).trans hn)
theorem Sys.len (h : Sys w d c m P L A K I B V) : Calls Try.prog 14 #[.pointer (some ⟨d, 0, none⟩)] V fun en w' => en = .returned (.int .i64 ((P + L : Nat) : Int)) ∧ w' = V := by
  obtain ⟨D, a, ho, _⟩ := h.mm
  exact ho.mem.len_calls

theorem rx_new (P L i : Nat) : Rx P L ab0 i (newX P L i) :=
  ⟨rfl, rfl, rfl, rfl, rfl, by rw [if_neg (by show ¬ (0 = 5 ∧ _); omega)]; rfl, fun k _ => by rw [kn0]; rfl, fun h => absurd h (by show ¬ 1 ≤ 0; omega), fun h => absurd h (by show ¬ 0 = 4; omega)⟩

/-- The memory just made, and no process. -/
theorem mm_new {e : Ending} (hw : Turn (fun j => w.heap.size ≤ j) w V) (h : cel.NewPost Unit (P + L) V e V') : ∃ d c m, e = .returned (.pointer (some ⟨d, 0, none⟩)) ∧ Sys w d c m P L ab0 0 (fun _ => False) (fun _ => 0) V' := by
  obtain ⟨d, c, m, rfl, ho, _⟩ := cel.own_new hw h
  refine ⟨d, c, m, rfl, ⟨.map [], 0, ?_, Int.le_refl _⟩, fun _ h => h.elim, fun _ h => h.elim, fun _ _ h => h.elim, fun _ h => h.elim, ho.turn⟩
  have e1 : cellT P ab0 = cel.noT := by funext j; unfold cellT cel.noT; split <;> rfl
  have e2 : cellN P ab0 = cel.noN := by funext j; unfold cellN cel.noN; split <;> rfl
  rw [e1, e2]
  exact ho

/-- One process more. -/
theorem Sys.more (h : Sys w d c m P L ab0 K I B V) {e : Ending} {i : Nat} (hi : i < P) (hn : ¬ I i) (hp : NewPost P L i V e V') : ∃ b, e = .returned (.pointer (some ⟨b, 0, none⟩)) ∧ Sys w d c m P L ab0 K (fun j => j = i ∨ I j) (up B i b) V' ∧ V.heap.size ≤ b := by
  obtain ⟨b, rfl, h1, h2, h3, h4⟩ := hp
  have hb := h.below h2
  refine ⟨b, rfl, ⟨hb.mm, fun j hj => ?_, fun j hj => ?_, fun j k hj hk hne => ?_, fun j hj => ?_, hb.turn⟩, h3⟩
  · by_cases e : j = i
    · subst e; rw [up_same]; exact ⟨_, h1, rx_new P L j⟩
    · rw [up_other _ _ e]; exact hb.pr j (hj.resolve_left e)
  · by_cases e : j = i
    · subst e; rw [up_same]; exact Nat.le_trans h.turn.size h3
    · rw [up_other _ _ e]; exact h.lo j (hj.resolve_left e)
  · have key : ∀ q, I q → B q < V.heap.size := fun q hq => by obtain ⟨x, hx, _⟩ := h.pr q hq; exact Has.lt hx
    by_cases e : j = i
    · subst e
      rw [up_same, up_other _ _ (fun e => hne e.symm)]
      have := key k (hk.resolve_left (fun e => hne e.symm))
      omega
    · rw [up_other _ _ e]
      by_cases e2 : k = i
      · subst e2; rw [up_same]; have := key j (hj.resolve_left e); omega
      · rw [up_other _ _ e2]; exact h.inj j k (hj.resolve_left e) (hk.resolve_left e2) hne
  · rcases hj with rfl | hj
    · exact hi
    · exact h.lt j hj
end
end Go.Proofs.Ytlbpephbigikcab.prc
