/- Texts laid into one: PrcJ, PrcK, PrcS, PrcT. -/
import Derived.Test.YtbpcfkniflgmfaaYPrcG
import Derived.Test.YtbpcfkniflgmfaaYPrcH
import Derived.Test.YtbpcfkniflgmfaaYPrcI
section
/- proc: Step and the abstract step are the same. -/
namespace Go.Proofs.Ytbpcfkniflgmfaa.prc
open Go Go.RowKit Go.Maps

section
variable {w V : World} {d c m P L D K b i : Nat} {A : Ab} {x : Px}

def RealPost (w : World) (d c m P L : Nat) (A' : Ab) (e : En) (K i b : Nat) (V0 : World) (en : Ending) (w' : World) : Prop :=
  ∃ y, en = .returned (.agg #[.bool e.done, .bool e.full, .int .i64 e.slot]) ∧ Pr w' b y ∧ Rx P L A' i y ∧ Mm w d c m P L A' K w' ∧ Turn (fun j => j = b ∨ Mb d c m j) V0 w'

theorem kn_seen {S : Nat → Option Rc} {r : Rc} {k : Nat} (h : S k = some r) (who : Nat) : kn S who (k + 1) = if r.who = who then max (kn S who k) r.seq else kn S who k := by
  show (match S k with | some r => if r.who = who then max (kn S who k) r.seq else kn S who k | none => kn S who k) = _
  rw [h]

theorem max_cast (a n : Nat) : (if (a : Int) < (n : Int) then (n : Int) else (a : Int)) = ((max a n : Nat) : Int) := by
  by_cases h : a < n
  · rw [if_pos (by omega), Nat.max_eq_right (by omega)]
  · rw [if_neg (by omega), Nat.max_eq_left (by omega)]

/-- The numbers behind a slot that is seen. -/
theorem last_seen {r : Rc} (h : Rx P L A i x) {S : Nat → Option Rc} (hk : ∀ q, q < (A.X i).at_ → S q = A.S q) (hS : S (A.X i).at_ = some r) (q : Nat) (hq : q < 64) : (seeX x r).last q = kn S q ((A.X i).at_ + 1) := by
  rw [kn_seen hS, kn_congr q _ hk]
  show (if q = r.who then (if x.last q < (r.seq : Int) then (r.seq : Int) else x.last q) else x.last q) = _
  rw [h.last q hq]
  by_cases e : r.who = q
  · rw [if_pos e.symm, if_pos e, max_cast]
  · rw [if_neg (fun e2 => e e2.symm), if_neg e]

theorem rx_sees (h : Rx P L A i x) (r : Rc) (S : Nat → Option Rc) (hk : ∀ q, q < (A.X i).at_ → S q = A.S q) (hS : S (A.X i).at_ = some r) (hr : r.Fits) (hm : (mine A i).Fits) (h1 : 1 ≤ (A.X i).next) (h4 : (A.X i).next ≤ 4) :
    Rx P L (sees L { A with S := S } i r).1 i (decX x r) ∧ (sees L { A with S := S } i r).2 = ⟨decD x r, decF x r, (decS x r).toNat⟩ ∧ ((decS x r).toNat : Int) = decS x r := by
  have ho := h.own h1 h4
  have hl : ∀ q, q < 64 → (seeX x r).last q = kn S q ((A.X i).at_ + 1) := fun q hq => last_seen h hk hS q hq
  have hse : (seeX x r).seen = (((A.X i).at_ + 1 : Nat) : Int) := by show x.seen + 1 = _; rw [h.seen]; omega
  have hsl : (seeX x r).slots = L := h.slots
  by_cases e : r = mine A i
  · have e' : tx r = x.own := by rw [ho, e]
    have hA : sees L { A with S := S } i r = (put { A with S := S } i { A.X i with next := 0, at_ := (A.X i).at_ + 1 }, ⟨true, false, (A.X i).at_⟩) := if_pos e
    rw [hA]
    have hd : decX x r = (seeX x r).idle := if_pos e'
    have hs : decS x r = x.seen := if_pos e'
    refine ⟨?_, ?_, by rw [hs, h.seen]; omega⟩
    · rw [hd]
      have hX : (put { A with S := S } i { A.X i with next := 0, at_ := (A.X i).at_ + 1 }).X i = { A.X i with next := 0, at_ := (A.X i).at_ + 1 } := by rw [put_X, if_pos rfl]
      refine ⟨h.procs, h.slots, h.who, by rw [hX]; exact h.seq, by rw [hX]; exact hse, by rw [hX]; rw [if_neg (by show ¬ (0 = 5 ∧ _); omega)]; rfl, fun q hq => by rw [hX]; exact hl q hq, fun h0 => ?_, fun h0 => ?_⟩
      · rw [hX] at h0; exact absurd h0 (by show ¬ 1 ≤ 0; omega)
      · rw [hX] at h0; exact absurd h0 (by show ¬ 0 = 4; omega)
    · unfold decD decF
      rw [decide_eq_true e', hs, h.seen]
      rfl
  · have e' : tx r ≠ x.own := by rw [ho]; exact fun h2 => e (tx_inj hr hm h2)
    have hs : decS x r = 0 := if_neg e'
    have hd : decX x r = toSlotX (seeX x r) := if_neg e'
    by_cases hL : L ≤ (A.X i).at_ + 1
    · have hA : sees L { A with S := S } i r = (put { A with S := S } i { A.X i with next := 0, at_ := (A.X i).at_ + 1 }, ⟨true, true, 0⟩) := by
        show (if r = mine A i then _ else if L ≤ (A.X i).at_ + 1 then _ else _) = _
        rw [if_neg e, if_pos hL]
      have hle : (seeX x r).slots ≤ (seeX x r).seen := by rw [hsl, hse]; omega
      have hle2 : x.slots ≤ x.seen + 1 := hle
      rw [hA]
      refine ⟨?_, ?_, by rw [hs]; rfl⟩
      · rw [hd, show toSlotX (seeX x r) = (seeX x r).idle from if_pos hle]
        have hX : (put { A with S := S } i { A.X i with next := 0, at_ := (A.X i).at_ + 1 }).X i = { A.X i with next := 0, at_ := (A.X i).at_ + 1 } := by rw [put_X, if_pos rfl]
        refine ⟨h.procs, h.slots, h.who, by rw [hX]; exact h.seq, by rw [hX]; exact hse, by rw [hX]; rw [if_neg (by show ¬ (0 = 5 ∧ _); omega)]; rfl, fun q hq => by rw [hX]; exact hl q hq, fun h0 => ?_, fun h0 => ?_⟩
        · rw [hX] at h0; exact absurd h0 (by show ¬ 1 ≤ 0; omega)
        · rw [hX] at h0; exact absurd h0 (by show ¬ 0 = 4; omega)
      · unfold decD decF
        rw [decide_eq_false e', decide_eq_true hle2, hs]
        rfl
    · have hA : sees L { A with S := S } i r = (put { A with S := S } i { A.X i with next := 2, at_ := (A.X i).at_ + 1 }, nope) := by
        show (if r = mine A i then _ else if L ≤ (A.X i).at_ + 1 then _ else _) = _
        rw [if_neg e, if_neg hL]
      have hle : ¬ (seeX x r).slots ≤ (seeX x r).seen := by rw [hsl, hse]; omega
      have hle2 : ¬ x.slots ≤ x.seen + 1 := hle
      rw [hA]
      refine ⟨?_, ?_, by rw [hs]; rfl⟩
      · rw [hd, show toSlotX (seeX x r) = { seeX x r with next := 2 } from if_neg hle]
        have hX : (put { A with S := S } i { A.X i with next := 2, at_ := (A.X i).at_ + 1 }).X i = { A.X i with next := 2, at_ := (A.X i).at_ + 1 } := by rw [put_X, if_pos rfl]
        have hmi : mine (put { A with S := S } i { A.X i with next := 2, at_ := (A.X i).at_ + 1 }) i = mine A i := by unfold mine; rw [hX]
        refine ⟨h.procs, h.slots, h.who, by rw [hX]; exact h.seq, by rw [hX]; exact hse, by rw [hX]; rw [if_neg (by show ¬ (2 = 5 ∧ _); omega)]; rfl, fun q hq => by rw [hX]; exact hl q hq, fun _ _ => ?_, fun h0 => ?_⟩
        · rw [hmi]; exact ho
        · rw [hX] at h0; exact absurd h0 (by show ¬ 2 = 4; omega)
      · unfold decD decF
        rw [decide_eq_false e', decide_eq_false hle2, hs]
        rfl
end
end Go.Proofs.Ytbpcfkniflgmfaa.prc
end

section
/- proc: a step of the program's process is the abstract one. -/
namespace Go.Proofs.Ytbpcfkniflgmfaa.prc
open Go Go.RowKit Go.Maps

section
variable {w V : World} {d c m P L D K b i : Nat} {A : Ab} {x : Px}

theorem put_at (A : Ab) (i : Nat) (y : Pc) : (put A i y).X i = y := by rw [put_X, if_pos rfl]

/-- A process goes on to another thing to do, and has seen what it had. -/
theorem rx_go (h : Rx P L A i x) (W : Nat → Option Rc) (n : Nat) (hn : n ≠ 5) (y : Px) (e1 : y.procs = x.procs) (e2 : y.slots = x.slots) (e3 : y.who = x.who) (e4 : y.seq = x.seq) (e5 : y.seen = x.seen) (e6 : y.last = x.last) (e7 : y.next = n)
    (ho : 1 ≤ n → n ≤ 4 → y.own = tx (mine A i)) (o : Rc) (hf : n = 4 → y.offer = tx o) : Rx P L (put { A with W := W } i { A.X i with next := n, offer := o }) i y := by
  refine ⟨e1.trans h.procs, e2.trans h.slots, e3.trans h.who, ?_, ?_, ?_, fun k hk => ?_, fun h1 h2 => ?_, fun h1 => ?_⟩
  all_goals rw [put_at] at *
  · exact e4.trans h.seq
  · exact e5.trans h.seen
  · rw [e7, if_neg (fun e => hn e.1)]
  · rw [e6]; exact h.last k hk
  · rw [show mine (put { A with W := W } i { A.X i with next := n, offer := o }) i = mine A i by unfold mine; rw [put_at]]
    exact ho h1 h2
  · exact hf h1

theorem rx_choose (h : Rx P L A i x) (hf : ∀ j r, A.W j = some r → r.Fits) (h1 : 1 ≤ (A.X i).next) (h4 : (A.X i).next ≤ 4) (j : Nat) : chooseX x (A.W j) = tx (choose A i (A.W j)) := by
  have ho := h.own h1 h4
  cases hw : A.W j with
  | none => exact ho
  | some r =>
    have hr := hf j r hw
    show (if x.last r.who < (r.seq : Int) then tx r else x.own) = tx (if kn A.S r.who (A.X i).at_ < r.seq then r else mine A i)
    rw [h.last r.who (by have := hr.1; omega)]
    by_cases e : kn A.S r.who (A.X i).at_ < r.seq
    · rw [if_pos (by omega), if_pos e]
    · rw [if_neg (by omega), if_neg e, ho]

theorem step_real (hI : Inv P L D A) (hF : Fit P A) (hi : i < P) (hP : P ≤ 64) (hL : L ≤ 256) (hK : K ≤ 900000) (hn5 : (A.X i).next ≤ 5) (h : Pr V b x) (hx : Rx P L A i x) (hM : Mm w d c m P L A K V) (hlo : w.heap.size ≤ b) :
    Calls Try.prog 16 #[.pointer (some ⟨b, 0, none⟩), .pointer (some ⟨d, 0, none⟩)] V (RealPost w d c m P L (step P L A i).1 (step P L A i).2 (K + 1) i b V) := by
  have hat : (A.X i).at_ ≤ L := Nat.le_trans (hI.seen i) hI.d
  rcases (show (A.X i).next = 0 ∨ (A.X i).next = 1 ∨ (A.X i).next = 2 ∨ (A.X i).next = 3 ∨ (A.X i).next = 4 ∨ (A.X i).next = 5 by omega) with e | e | e | e | e | e
  · rw [step_idle e]
    have hn : x.next = 0 := by rw [hx.next, e]; rfl
    refine (step_0 h hM hlo hn).mono ?_
    rintro en w' ⟨rfl, h1, h2, h3⟩
    exact ⟨x, rfl, h1, hx, h2.more (by omega), h3⟩
  · have hn : x.next = 1 := by rw [hx.next, e]; rfl
    have ho := hx.own (by omega) (by omega)
    have hse : (decide (x.slots ≤ x.seen)) = decide (L ≤ (A.X i).at_) := by rw [hx.slots, hx.seen]; exact decide_eq_decide.2 (by omega)
    refine (step_1 h hM hlo hn hx.who hi hP hK (mine A i) ho).mono ?_
    rintro en w' ⟨rfl, h1, h2, h3⟩
    have hst : step P L A i = wishes L A i := by unfold step; rw [e]; rfl
    rw [hst]
    by_cases hl : L ≤ (A.X i).at_
    · have ht : toSlotX x = x.idle := if_pos (by rw [hx.slots, hx.seen]; omega)
      have hw : wishes L A i = (put { A with W := up A.W i (some (mine A i)) } i { A.X i with next := 0 }, ⟨true, true, 0⟩) := if_pos hl
      rw [hw, hse, decide_eq_true hl]
      refine ⟨x.idle, rfl, by rw [← ht]; exact h1, ?_, h2, h3⟩
      exact rx_go hx (up A.W i (some (mine A i))) 0 (by decide) x.idle rfl rfl rfl rfl rfl rfl rfl (fun e => absurd e (by omega)) (A.X i).offer (fun e => absurd e (by omega))
    · have ht : toSlotX x = { x with next := 2 } := if_neg (by rw [hx.slots, hx.seen]; omega)
      have hw : wishes L A i = (put { A with W := up A.W i (some (mine A i)) } i { A.X i with next := 2 }, nope) := if_neg hl
      rw [hw, hse, decide_eq_false hl]
      refine ⟨{ x with next := 2 }, rfl, by rw [← ht]; exact h1, ?_, h2, h3⟩
      exact rx_go hx (up A.W i (some (mine A i))) 2 (by decide) { x with next := 2 } rfl rfl rfl rfl rfl rfl rfl (fun _ _ => ho) (A.X i).offer (fun e => absurd e (by omega))
  · have hn : x.next = 2 := by rw [hx.next, e]; rfl
    have hlow := hI.low i (by omega) (by omega)
    have hst : step P L A i = looks L A i := by unfold step; rw [e]; rfl
    rw [hst]
    cases hS : A.S (A.X i).at_ with
    | none =>
      have hw : looks L A i = (put A i { A.X i with next := 3 }, nope) := by unfold looks; rw [hS]
      rw [hw]
      refine (step_2_none h hM hlo hn hx.who (by omega) hx.procs hP hL hK (A.X i).at_ hlow hx.seen hS).mono ?_
      rintro en w' ⟨rfl, h1, h2, h3⟩
      refine ⟨_, rfl, h1, ?_, h2, h3⟩
      exact rx_go hx A.W 3 (by decide) { x with next := 3 } rfl rfl rfl rfl rfl rfl rfl (fun _ _ => hx.own (by omega) (by omega)) (A.X i).offer (fun e => absurd e (by omega))
    | some r =>
      have hw : looks L A i = sees L A i r := by unfold looks; rw [hS]
      rw [hw]
      have hr := hF.slot _ r hS
      obtain ⟨q1, q2, q3⟩ := rx_sees hx r A.S (fun _ _ => rfl) hS hr (hF.mine i hi) (by omega) (by omega)
      refine (step_2_some h hM hlo hn hx.who (by omega) hx.procs hP hL hK (A.X i).at_ hlow hx.seen r hr hS).mono ?_
      rintro en w' ⟨rfl, h1, h2, h3⟩
      refine ⟨decX x r, ?_, h1, q1, ?_, h3⟩
      · rw [show (sees L A i r).2 = _ from q2]
        show _ = Ending.returned (.agg #[.bool (decD x r), .bool (decF x r), .int .i64 ((decS x r).toNat : Int)])
        rw [q3]
      · have hk := sees_WS (L := L) (a := A) (i := i) r
        have hc : cellT P (sees L A i r).1 = cellT P A ∧ cellN P (sees L A i r).1 = cellN P A := by unfold cellT cellN; rw [hk.1, hk.2]; exact ⟨rfl, rfl⟩
        unfold Mm at h2 ⊢
        rw [hc.1, hc.2]
        exact h2
  · have hn : x.next = 3 := by rw [hx.next, e]; rfl
    have hlow := hI.low i (by omega) (by omega)
    have hst : step P L A i = helps P A i := by unfold step; rw [e]; rfl
    rw [hst]
    refine (step_3 h hM hlo hn hx.who (by omega) hx.procs (by omega) hP hK (A.X i).at_ (by omega) hx.seen (fun r hr => hF.wish _ r hr)).mono ?_
    rintro en w' ⟨rfl, h1, h2, h3⟩
    refine ⟨_, rfl, h1, ?_, h2, h3⟩
    exact rx_go hx A.W 4 (by decide) { ({ x with offer := chooseX x (A.W ((A.X i).at_ % P)) } : Px) with next := 4 } rfl rfl rfl rfl rfl rfl rfl (fun _ _ => hx.own (by omega) (by omega)) (choose A i (A.W ((A.X i).at_ % P))) (fun _ => rx_choose hx hF.wish (by omega) (by omega) _)
  · have hn : x.next = 4 := by rw [hx.next, e]; rfl
    have hlow := hI.low i (by omega) (by omega)
    have hof := hF.offer i e
    have hst : step P L A i = decides L A i := by unfold step; rw [e]; rfl
    rw [hst]
    have hrf : (swR A (A.X i).at_ (A.X i).offer).Fits := by
      unfold swR
      cases hS : A.S (A.X i).at_ with
      | none => exact hof
      | some r => exact hF.slot _ r hS
    refine (step_4 h hM hlo hn hx.who (by omega) hx.procs hP hL hK (A.X i).at_ hlow hx.seen (A.X i).offer (hx.offer e) hrf).mono ?_
    rintro en w' ⟨rfl, h1, h2, h3⟩
    cases hS : A.S (A.X i).at_ with
    | some r =>
      have e1 : swR A (A.X i).at_ (A.X i).offer = r := by unfold swR; rw [hS]
      have e2 : swA A (A.X i).at_ (A.X i).offer = A := by unfold swA; rw [hS]
      rw [e1] at h1 hrf ⊢
      rw [e2] at h2
      have hw : decides L A i = sees L A i r := by unfold decides; rw [hS]
      rw [hw]
      obtain ⟨q1, q2, q3⟩ := rx_sees hx r A.S (fun _ _ => rfl) hS hrf (hF.mine i hi) (by omega) (by omega)
      refine ⟨decX x r, ?_, h1, q1, ?_, h3⟩
      · rw [show (sees L A i r).2 = _ from q2]
        show _ = Ending.returned (.agg #[.bool (decD x r), .bool (decF x r), .int .i64 ((decS x r).toNat : Int)])
        rw [q3]
      · have hk := sees_WS (L := L) (a := A) (i := i) r
        have hc : cellT P (sees L A i r).1 = cellT P A ∧ cellN P (sees L A i r).1 = cellN P A := by unfold cellT cellN; rw [hk.1, hk.2]; exact ⟨rfl, rfl⟩
        unfold Mm at h2 ⊢
        rw [hc.1, hc.2]
        exact h2
    | none =>
      have e1 : swR A (A.X i).at_ (A.X i).offer = (A.X i).offer := by unfold swR; rw [hS]
      have e2 : swA A (A.X i).at_ (A.X i).offer = { A with S := up A.S (A.X i).at_ (some (A.X i).offer) } := by unfold swA; rw [hS]
      rw [e1] at h1 hrf ⊢
      rw [e2] at h2
      have hw : decides L A i = sees L { A with S := up A.S (A.X i).at_ (some (A.X i).offer) } i (A.X i).offer := by unfold decides; rw [hS]
      rw [hw]
      obtain ⟨q1, q2, q3⟩ := rx_sees hx (A.X i).offer (up A.S (A.X i).at_ (some (A.X i).offer)) (fun q hq => up_other _ _ (by omega)) (up_same _ _ _) hrf (hF.mine i hi) (by omega) (by omega)
      refine ⟨decX x (A.X i).offer, ?_, h1, q1, ?_, h3⟩
      · rw [q2]
        show _ = Ending.returned (.agg #[.bool (decD x (A.X i).offer), .bool (decF x (A.X i).offer), .int .i64 ((decS x (A.X i).offer).toNat : Int)])
        rw [q3]
      · have hk := sees_WS (L := L) (a := { A with S := up A.S (A.X i).at_ (some (A.X i).offer) }) (i := i) (A.X i).offer
        have hc : cellT P (sees L { A with S := up A.S (A.X i).at_ (some (A.X i).offer) } i (A.X i).offer).1 = cellT P { A with S := up A.S (A.X i).at_ (some (A.X i).offer) } ∧ cellN P (sees L { A with S := up A.S (A.X i).at_ (some (A.X i).offer) } i (A.X i).offer).1 = cellN P { A with S := up A.S (A.X i).at_ (some (A.X i).offer) } := by unfold cellT cellN; rw [hk.1, hk.2]; exact ⟨rfl, rfl⟩
        unfold Mm at h2 ⊢
        rw [hc.1, hc.2]
        exact h2
  · have hst : step P L A i = heads L A i := by unfold step; rw [e]; rfl
    rw [hst]
    by_cases hl : L ≤ (A.X i).at_
    · have hn : x.next = 6 := by rw [hx.next, if_pos ⟨e, hl⟩]
      have hw : heads L A i = (put A i { A.X i with next := 0 }, ⟨true, false, (A.X i).at_⟩) := if_pos (.inl hl)
      rw [hw]
      refine (step_6 h hM hlo hn hx.who hi hP hK (A.X i).at_ hx.seen).mono ?_
      rintro en w' ⟨rfl, h1, h2, h3⟩
      refine ⟨_, rfl, h1, ?_, h2, h3⟩
      exact rx_go hx A.W 0 (by decide) x.idle rfl rfl rfl rfl rfl rfl rfl (fun e => absurd e (by omega)) (A.X i).offer (fun e => absurd e (by omega))
    · have hn : x.next = 5 := by rw [hx.next, if_neg (fun h => hl h.2), e]; rfl
      cases hS : A.S (A.X i).at_ with
      | none =>
        have hw : heads L A i = (put A i { A.X i with next := 0 }, ⟨true, false, (A.X i).at_⟩) := if_pos (.inr hS)
        rw [hw]
        refine (step_5_none h hM hlo hn hx.who (by omega) hx.procs hP hL hK (A.X i).at_ (by omega) hx.seen hS).mono ?_
        rintro en w' ⟨rfl, h1, h2, h3⟩
        refine ⟨_, rfl, h1, ?_, h2, h3⟩
        exact rx_go hx A.W 0 (by decide) x.idle rfl rfl rfl rfl rfl rfl rfl (fun e => absurd e (by omega)) (A.X i).offer (fun e => absurd e (by omega))
      | some r =>
        have hr := hF.slot _ r hS
        have hw : heads L A i = (put A i { A.X i with at_ := (A.X i).at_ + 1 }, nope) := if_neg (fun h => by rcases h with h | h; exact hl h; rw [hS] at h; cases h)
        rw [hw]
        refine (step_5_some h hM hlo hn hx.who (by omega) hx.procs hP hL hK (A.X i).at_ (by omega) hx.seen r hr hS).mono ?_
        rintro en w' ⟨rfl, h1, h2, h3⟩
        refine ⟨_, rfl, h1, ?_, h2, h3⟩
        have hse : (seeX x r).seen = (((A.X i).at_ + 1 : Nat) : Int) := by show x.seen + 1 = _; rw [hx.seen]; omega
        have hsl : (seeX x r).slots = L := hx.slots
        refine ⟨hx.procs, hx.slots, hx.who, ?_, ?_, ?_, fun k hk => ?_, fun h1 h2 => ?_, fun h1 => ?_⟩
        all_goals rw [put_at] at *
        · exact hx.seq
        · exact hse
        · show (if (seeX x r).slots ≤ (seeX x r).seen then (6 : Int) else 5) = if (A.X i).next = 5 ∧ L ≤ (A.X i).at_ + 1 then 6 else ((A.X i).next : Int)
          rw [hsl, hse, e]
          by_cases h5 : L ≤ (A.X i).at_ + 1
          · rw [if_pos (by omega), if_pos ⟨rfl, h5⟩]
          · rw [if_neg (by omega), if_neg (fun h => h5 h.2)]; rfl
        · exact last_seen hx (S := A.S) (fun _ _ => rfl) hS k hk
        · exact absurd h2 (by show ¬ (A.X i).next ≤ 4; omega)
        · exact absurd h1 (by show ¬ (A.X i).next = 4; omega)
end
end Go.Proofs.Ytbpcfkniflgmfaa.prc
end

section
/- proc: some processes over one memory, beside the abstract ones. -/
namespace Go.Proofs.Ytbpcfkniflgmfaa.prc
open Go Go.RowKit Go.Maps

section
variable {P L D : Nat} {A : Ab} {i : Nat}

theorem sees_next (r : Rc) (h : ∀ j, (A.X j).next ≤ 5) (j : Nat) : ((sees L A i r).1.X j).next ≤ 5 := by
  by_cases e : j = i
  · subst e; exact (sees_rem L A j r).2.2
  · rw [sees_other r e]; exact h j

theorem step_next (hI : Inv P L D A) (h : ∀ j, (A.X j).next ≤ 5) (j : Nat) : ((step P L A i).1.X j).next ≤ 5 := by
  by_cases e : j = i
  · subst e
    by_cases h0 : (A.X j).next = 0
    · rw [step_idle h0]; exact h j
    · exact (step_rem hI h0 (h j)).2.2
  · rw [step_other e]; exact h j

/-- A step leaves the slots that are decided. -/
theorem step_S (hI : Inv P L D A) {k : Nat} (hk : k < D) : (step P L A i).1.S k = A.S k := by
  unfold step
  split
  · unfold wishes; split <;> rfl
  · unfold looks
    split
    · rw [(sees_WS _).2]
    · rfl
  · rfl
  · rename_i e4
    unfold decides
    split
    · rw [(sees_WS _).2]
    · rename_i hs
      rw [(sees_WS _).2]
      exact up_other _ _ (by have := (hI.swapped hs e4).1; omega)
  · unfold heads; split <;> rfl
  · rfl

theorem mine_step (j : Nat) : mine (step P L A i).1 j = mine A j := mine_of (step_seq j)
end

/-- The abstract world, with what is always so. -/
structure Good (P L : Nat) (A : Ab) : Prop where
  inv : ∃ D, Inv P L D A
  fit : Fit P A
  next : ∀ i, (A.X i).next ≤ 5

theorem Good.step {P L : Nat} {A : Ab} (h : Good P L A) {i : Nat} (hi : i < P) : Good P L (step P L A i).1 := by
  obtain ⟨D, hD⟩ := h.inv
  obtain ⟨D', _, h'⟩ := hD.step hi
  exact ⟨⟨D', h'⟩, h.fit.step hi, step_next hD h.next⟩

theorem Good.begins {P L : Nat} {A : Ab} (h : Good P L A) {i : Nat} (hi : i ≤ 63) {s : ByteArray} (h1 : (A.X i).seq + 1 ≤ 1099511627776) (h2 : s.size ≤ 1024) : Good P L (begins A i s) := by
  obtain ⟨D, hD⟩ := h.inv
  refine ⟨⟨D, hD.begins s⟩, h.fit.begins i hi h1 h2, fun j => ?_⟩
  unfold prc.begins
  rw [put_X]
  split
  · show 1 ≤ 5; omega
  · exact h.next j

theorem Good.begHead {P L : Nat} {A : Ab} (h : Good P L A) (i : Nat) : Good P L (begHead A i) := by
  obtain ⟨D, hD⟩ := h.inv
  refine ⟨⟨D, hD.begHead⟩, h.fit.begHead i, fun j => ?_⟩
  unfold prc.begHead
  rw [put_X]
  split
  · show 5 ≤ 5; omega
  · exact h.next j

/-- Nothing has happened. -/
def ab0 : Ab := ⟨fun _ => none, fun _ => none, fun _ => ⟨0, 0, 0, ⟨#[]⟩, ⟨0, 0, ⟨#[]⟩⟩⟩⟩
theorem kn0 (who : Nat) : ∀ n, kn ab0.S who n = 0
  | 0 => rfl
  | n + 1 => by
    show (match ab0.S n with | some r => if r.who = who then max (kn ab0.S who n) r.seq else kn ab0.S who n | none => kn ab0.S who n) = 0
    exact kn0 who n
theorem good0 {P : Nat} (L : Nat) (hP : P ≤ 64) : Good P L ab0 := by
  refine ⟨⟨0, by omega, fun k => ⟨fun h => absurd rfl h, fun h => by omega⟩, fun i => Nat.le_refl _, fun k r h => (by cases h), fun i r h => (by cases h), fun i h => absurd h (by show ¬ 1 ≤ 0; omega), fun i h => absurd h (by show ¬ 2 ≤ 0; omega), fun i h => absurd h (by show ¬ 0 = 4; omega)⟩, ⟨fun k r h => (by cases h), fun i r h => (by cases h), fun i hi => ⟨by show i ≤ 63; omega, Nat.zero_le _, Nat.zero_le _⟩, fun i h => absurd h (by show ¬ 0 = 4; omega)⟩, fun i => Nat.zero_le _⟩

/-- The processes of I, at the blocks B, over the memory at d. -/
structure Sys (w : World) (d c m P L : Nat) (A : Ab) (K : Nat) (I : Nat → Prop) (B : Nat → Nat) (V : World) : Prop where
  mm : Mm w d c m P L A K V
  pr : ∀ i, I i → ∃ x, Pr V (B i) x ∧ Rx P L A i x
  lo : ∀ i, I i → w.heap.size ≤ B i
  inj : ∀ i j, I i → I j → i ≠ j → B i ≠ B j
  lt : ∀ i, I i → i < P
  turn : Turn (fun j => w.heap.size ≤ j) w V

section
variable {w V V' : World} {d c m P L K : Nat} {A : Ab} {I : Nat → Prop} {B : Nat → Nat} {i : Nat}

theorem Sys.below (h : Sys w d c m P L A K I B V) (hb : Below V.heap.size V V') : Sys w d c m P L A K I B V' :=
  ⟨h.mm.below hb, fun i hi => by obtain ⟨x, h1, h2⟩ := h.pr i hi; exact ⟨x, h1.below hb, h2⟩, h.lo, h.inj, h.lt, h.turn.trans (Turn.of_below hb (F := fun j => V.heap.size ≤ j) (fun _ _ e => e)) (fun j h1 h2 => absurd h2 (by have := h.turn.size; omega))⟩
theorem Sys.drew (h : Sys w d c m P L A K I B V) : Sys w d c m P L A K I B V.drew :=
  ⟨h.mm.drew, h.pr, h.lo, h.inj, h.lt, h.turn.drew⟩

theorem Sys.ends (h : Sys w d c m P L A K I B V) : Below w.heap.size w V := h.turn.below (Nat.le_refl _) (fun _ hj e => by omega)

/-- Another block turns, made since w, that is none of it. -/
theorem Sys.other {F : Nat → Prop} (h : Sys w d c m P L A K I B V) (t : Turn F V V') (hF : ∀ j, F j → w.heap.size ≤ j) (hn : ∀ j, F j → ¬ Mb d c m j) (hb : ∀ j i, F j → I i → B i ≠ j) : Sys w d c m P L A K I B V' :=
  ⟨h.mm.other t hF hn, fun i hi => by obtain ⟨x, h1, h2⟩ := h.pr i hi; exact ⟨x, h1.turn t (fun e => hb _ i e hi rfl), h2⟩, h.lo, h.inj, h.lt, h.turn.trans t (fun j _ e => hF j e)⟩

def SysPost (w : World) (d c m P L : Nat) (A' : Ab) (e : En) (K : Nat) (I : Nat → Prop) (B : Nat → Nat) (V : World) (en : Ending) (w' : World) : Prop :=
  en = .returned (.agg #[.bool e.done, .bool e.full, .int .i64 e.slot]) ∧ Sys w d c m P L A' K I B w' ∧ Turn (fun j => (∃ i, I i ∧ j = B i) ∨ Mb d c m j) V w'

theorem Sys.step (h : Sys w d c m P L A K I B V) (hG : Good P L A) (hi : I i) (hP : P ≤ 64) (hL : L ≤ 256) (hK : K ≤ 900000) :
    Calls Try.prog 16 #[.pointer (some ⟨B i, 0, none⟩), .pointer (some ⟨d, 0, none⟩)] V (SysPost w d c m P L (step P L A i).1 (step P L A i).2 (K + 1) I B V) := by
  obtain ⟨D, hI⟩ := hG.inv
  obtain ⟨x, hp, hx⟩ := h.pr i hi
  refine (step_real hI hG.fit (h.lt i hi) hP hL hK (hG.next i) hp hx h.mm (h.lo i hi)).mono ?_
  rintro en w' ⟨y, rfl, p1, r1, m1, t1⟩
  refine ⟨rfl, ⟨m1, fun j hj => ?_, h.lo, h.inj, h.lt, h.turn.trans t1 (fun j hj e => ?_)⟩, t1.more (fun j _ e => ?_)⟩
  · by_cases e : j = i
    · subst e; exact ⟨y, p1, r1⟩
    · obtain ⟨z, q1, q2⟩ := h.pr j hj
      refine ⟨z, q1.turn t1 (fun e2 => ?_), ?_⟩
      · rcases e2 with e2 | e2
        · exact h.inj j i hj hi e e2
        · exact q1.apart h.mm e2
      · have hX : (prc.step P L A i).1.X j = A.X j := step_other e
        refine ⟨q2.procs, q2.slots, q2.who, by rw [hX]; exact q2.seq, by rw [hX]; exact q2.seen, by rw [hX]; exact q2.next, fun k hk => ?_, fun h1 h2 => ?_, fun h1 => ?_⟩
        · rw [hX, q2.last k hk]
          exact congrArg Int.ofNat (kn_congr k _ fun q hq => step_S hI (Nat.lt_of_lt_of_le hq (hI.seen j))).symm
        · rw [hX] at h1 h2
          rw [mine_step]; exact q2.own h1 h2
        · rw [hX] at h1 ⊢; exact q2.offer h1
  · rcases e with e | e
    · rw [e]; exact h.lo i hi
    · obtain ⟨D0, a0, ho, _⟩ := h.mm
      rcases e with rfl | rfl | rfl
      · exact ho.nd
      · exact ho.nc
      · exact ho.nm
  · rcases e with e | e
    · exact .inl ⟨i, hi, e⟩
    · exact .inr e

theorem Sys.step_is (h : Sys w d c m P L A K I B V) (hG : Good P L A) (hi : I i) (hP : P ≤ 64) (hL : L ≤ 256) (hK : K ≤ 900000) {A' : Ab} {dn fl : Bool} {s : Int} (h1 : (prc.step P L A i).1 = A') (h2 : (prc.step P L A i).2.done = dn) (h3 : (prc.step P L A i).2.full = fl) (h4 : ((prc.step P L A i).2.slot : Int) = s) :
    Calls Try.prog 16 #[.pointer (some ⟨B i, 0, none⟩), .pointer (some ⟨d, 0, none⟩)] V (fun en w' => en = .returned (.agg #[.bool dn, .bool fl, .int .i64 s]) ∧ Sys w d c m P L A' (K + 1) I B w' ∧ Turn (fun j => (∃ i, I i ∧ j = B i) ∨ Mb d c m j) V w') := by
  subst h1 h2 h3 h4
  exact h.step hG hi hP hL hK

/-- A process's own change of its block. -/
theorem Sys.own (h : Sys w d c m P L A K I B V) (hi : I i) {A' : Ab} {y : Px} (hp : Pr V' (B i) y) (hx : Rx P L A' i y) (hS : A'.S = A.S) (hW : A'.W = A.W) (hX : ∀ j, j ≠ i → A'.X j = A.X j) (t : Turn (fun j => j = B i) V V') : Sys w d c m P L A' K I B V' := by
  refine ⟨?_, fun j hj => ?_, h.lo, h.inj, h.lt, h.turn.trans t (fun j _ e => by rw [e]; exact h.lo i hi)⟩
  · have hm : Mm w d c m P L A K V' := h.mm.other t (fun j e => by rw [e]; exact h.lo i hi) (fun j e => by
      rw [e]
      obtain ⟨x, q1, _⟩ := h.pr i hi
      exact q1.apart h.mm)
    have hc : cellT P A' = cellT P A ∧ cellN P A' = cellN P A := by unfold cellT cellN; rw [hS, hW]; exact ⟨rfl, rfl⟩
    unfold Mm at hm ⊢
    rw [hc.1, hc.2]
    exact hm
  · by_cases e : j = i
    · subst e; exact ⟨y, hp, hx⟩
    · obtain ⟨z, q1, q2⟩ := h.pr j hj
      have hXj := hX j e
      refine ⟨z, q1.turn t (fun e2 => h.inj j i hj hi e e2), q2.procs, q2.slots, q2.who, by rw [hXj]; exact q2.seq, by rw [hXj]; exact q2.seen, by rw [hXj]; exact q2.next, fun k hk => by rw [hXj, hS]; exact q2.last k hk, fun h1 h2 => ?_, fun h1 => ?_⟩
      · rw [hXj] at h1 h2
        rw [show mine A' j = mine A j by unfold mine; rw [hXj]]
        exact q2.own h1 h2
      · rw [hXj] at h1 ⊢; exact q2.offer h1

theorem rx_next0 {x : Px} (hx : Rx P L A i x) : (x.next = 0) ↔ (A.X i).next = 0 := by
  rw [hx.next]
  split
  · rename_i h; omega
  · omega

def OwnPost (w : World) (d c m P L : Nat) (A' : Ab) (K : Nat) (I : Nat → Prop) (B : Nat → Nat) (i : Nat) (V : World) (en : Ending) (w' : World) : Prop :=
  en = .returned (.int .i64 0) ∧ Sys w d c m P L A' K I B w' ∧ Turn (fun j => j = B i) V w'

theorem Sys.begins (h : Sys w d c m P L A K I B V) (hi : I i) (h0 : (A.X i).next = 0) (s : ByteArray) (hi63 : i ≤ 63) (h1 : (A.X i).seq + 1 ≤ 1099511627776) (h2 : s.size ≤ 1024) :
    Calls Try.prog 36 #[.pointer (some ⟨B i, 0, none⟩), .string s] V (OwnPost w d c m P L (begins A i s) K I B i V) := by
  obtain ⟨x, hp, hx⟩ := h.pr i hi
  refine (begin_calls hp ((rx_next0 hx).2 h0) i (A.X i).seq hx.who hx.seq s ⟨hi63, h1, h2⟩).mono ?_
  rintro en w' ⟨rfl, p1, t1⟩
  refine ⟨rfl, h.own hi p1 ?_ rfl rfl (fun j hj => by unfold prc.begins; rw [put_X, if_neg hj]) t1, t1⟩
  have hX : (prc.begins A i s).X i = { A.X i with next := 1, seq := (A.X i).seq + 1, body := s } := put_at _ _ _
  refine ⟨hx.procs, hx.slots, hx.who, by rw [hX]; rfl, by rw [hX]; exact hx.seen, by rw [hX]; rw [if_neg (by show ¬ (1 = 5 ∧ _); omega)]; rfl, fun k hk => by rw [hX]; exact hx.last k hk, fun _ _ => ?_, fun h4 => ?_⟩
  · rw [show mine (prc.begins A i s) i = ⟨i, (A.X i).seq + 1, s⟩ by unfold mine; rw [hX]]
    rfl
  · rw [hX] at h4; exact absurd h4 (by show ¬ 1 = 4; omega)

theorem Sys.busy (h : Sys w d c m P L A K I B V) (hi : I i) (h0 : (A.X i).next ≠ 0) (s : ByteArray) : Calls Try.prog 36 #[.pointer (some ⟨B i, 0, none⟩), .string s] V fun en w' => en = .returned (.int .i64 20) ∧ V = w' := by
  obtain ⟨x, hp, hx⟩ := h.pr i hi
  exact busy_begin hp (fun e => h0 ((rx_next0 hx).1 e)) s

theorem Sys.busyHead (h : Sys w d c m P L A K I B V) (hi : I i) (h0 : (A.X i).next ≠ 0) : Calls Try.prog 40 #[.pointer (some ⟨B i, 0, none⟩)] V fun en w' => en = .returned (.int .i64 20) ∧ V = w' := by
  obtain ⟨x, hp, hx⟩ := h.pr i hi
  exact busy_head hp (fun e => h0 ((rx_next0 hx).1 e))

theorem Sys.head (h : Sys w d c m P L A K I B V) (hi : I i) (h0 : (A.X i).next = 0) :
    Calls Try.prog 40 #[.pointer (some ⟨B i, 0, none⟩)] V (OwnPost w d c m P L (begHead A i) K I B i V) := by
  obtain ⟨x, hp, hx⟩ := h.pr i hi
  refine (head_calls hp ((rx_next0 hx).2 h0)).mono ?_
  rintro en w' ⟨rfl, p1, t1⟩
  refine ⟨rfl, h.own hi p1 ?_ rfl rfl (fun j hj => by unfold prc.begHead; rw [put_X, if_neg hj]) t1, t1⟩
  have hX : (prc.begHead A i).X i = { A.X i with next := 5 } := put_at _ _ _
  refine ⟨hx.procs, hx.slots, hx.who, by rw [hX]; exact hx.seq, by rw [hX]; exact hx.seen, ?_, fun k hk => by rw [hX]; exact hx.last k hk, fun _ h4 => ?_, fun h4 => ?_⟩
  · rw [hX]
    show (if x.slots ≤ x.seen then (6 : Int) else 5) = if 5 = 5 ∧ L ≤ (A.X i).at_ then 6 else 5
    rw [hx.slots, hx.seen]
    by_cases h5 : L ≤ (A.X i).at_
    · rw [if_pos (by omega), if_pos ⟨rfl, h5⟩]
    · rw [if_neg (by omega), if_neg (fun h => h5 h.2)]
  · rw [hX] at h4; exact absurd h4 (by show ¬ 5 ≤ 4; omega)
  · rw [hX] at h4; exact absurd h4 (by show ¬ 5 = 4; omega)

theorem Sys.idle (h : Sys w d c m P L A K I B V) (hi : I i) : Calls Try.prog 14 #[.pointer (some ⟨B i, 0, none⟩)] V fun en w' => en = .returned (.bool (decide ((A.X i).next = 0))) ∧ V = w' := by
  obtain ⟨x, hp, hx⟩ := h.pr i hi
  refine (idle_calls hp).mono ?_
  rintro en w' ⟨rfl, rfl⟩
  refine ⟨?_, rfl⟩
  have e : (x.next == 0) = decide ((A.X i).next = 0) := by
    by_cases h0 : (A.X i).next = 0
    · rw [decide_eq_true h0, (rx_next0 hx).2 h0]; rfl
    · rw [decide_eq_false h0]; exact beq_eq_false_iff_ne.2 (fun e => h0 ((rx_next0 hx).1 e))
  rw [e]


theorem Sys.look (h : Sys w d c m P L A K I B V) (j : Nat) (hj : j < P + L) (t : ByteArray) (ht : cellT P A j = t) : Calls Try.prog 11 #[.pointer (some ⟨d, 0, none⟩), .int .i64 j] V fun en w' => en = .returned (.string t) ∧ w' = V := by
  obtain ⟨D, a, ho, _⟩ := h.mm
  exact ho.look j t ((cel.text_at _ hj).trans ht)
theorem Sys.swaps (h : Sys w d c m P L A K I B V) (j : Nat) (hj : j < P + L) (n : Int) (hn : cellN P A j = n) : Calls Try.prog 43 #[.pointer (some ⟨d, 0, none⟩), .int .i64 j] V fun en w' => en = .returned (.int .i64 n) ∧ w' = V := by
  obtain ⟨D, a, ho, _⟩ := h.mm
  exact ho.swaps j n ((cel.swaps_at _ hj).trans hn)
theorem Sys.len (h : Sys w d c m P L A K I B V) : Calls Try.prog 148 #[.pointer (some ⟨d, 0, none⟩)] V fun en w' => en = .returned (.int .i64 ((P + L : Nat) : Int)) ∧ w' = V := by
  obtain ⟨D, a, ho, _⟩ := h.mm
  exact ho.mem.len_calls

theorem rx_new (P L i : Nat) : Rx P L ab0 i (newX P L i) :=
  ⟨rfl, rfl, rfl, rfl, rfl, by rw [if_neg (by show ¬ (0 = 5 ∧ _); omega)]; rfl, fun k _ => by rw [kn0]; rfl, fun h => absurd h (by show ¬ 1 ≤ 0; omega), fun h => absurd h (by show ¬ 0 = 4; omega)⟩

/-- The memory just made, and no process. -/
theorem mm_new {e : Ending} (hw : Turn (fun j => w.heap.size ≤ j) w V) (h : cel.NewPost Unit (P + L) V e V') : ∃ d c m, e = .returned (.pointer (some ⟨d, 0, none⟩)) ∧ Sys w d c m P L ab0 0 (fun _ => False) (fun _ => 0) V' := by
  obtain ⟨d, c, m, rfl, ho, _⟩ := cel.own_new hw h
  refine ⟨d, c, m, rfl, ⟨.map [], 0, ?_, Int.le_refl _⟩, fun _ h => h.elim, fun _ h => h.elim, fun _ _ h => h.elim, fun _ h => h.elim, ho.turn⟩
  have e1 : cellT P ab0 = cel.noT := by funext j; unfold cellT cel.noT; split <;> rfl
  have e2 : cellN P ab0 = cel.noN := by funext j; unfold cellN cel.noN; split <;> rfl
  rw [e1, e2]
  exact ho

/-- One process more. -/
theorem Sys.more (h : Sys w d c m P L ab0 K I B V) {e : Ending} {i : Nat} (hi : i < P) (hn : ¬ I i) (hp : NewPost P L i V e V') : ∃ b, e = .returned (.pointer (some ⟨b, 0, none⟩)) ∧ Sys w d c m P L ab0 K (fun j => j = i ∨ I j) (up B i b) V' ∧ V.heap.size ≤ b := by
  obtain ⟨b, rfl, h1, h2, h3, h4⟩ := hp
  have hb := h.below h2
  refine ⟨b, rfl, ⟨hb.mm, fun j hj => ?_, fun j hj => ?_, fun j k hj hk hne => ?_, fun j hj => ?_, hb.turn⟩, h3⟩
  · by_cases e : j = i
    · subst e; rw [up_same]; exact ⟨_, h1, rx_new P L j⟩
    · rw [up_other _ _ e]; exact hb.pr j (hj.resolve_left e)
  · by_cases e : j = i
    · subst e; rw [up_same]; exact Nat.le_trans h.turn.size h3
    · rw [up_other _ _ e]; exact h.lo j (hj.resolve_left e)
  · have key : ∀ q, I q → B q < V.heap.size := fun q hq => by obtain ⟨x, hx, _⟩ := h.pr q hq; exact Has.lt hx
    by_cases e : j = i
    · subst e
      rw [up_same, up_other _ _ (fun e => hne e.symm)]
      have := key k (hk.resolve_left (fun e => hne e.symm))
      omega
    · rw [up_other _ _ e]
      by_cases e2 : k = i
      · subst e2; rw [up_same]; have := key j (hj.resolve_left e); omega
      · rw [up_other _ _ e2]; exact h.inj j k (hj.resolve_left e) (hk.resolve_left e2) hne
  · rcases hj with rfl | hj
    · exact hi
    · exact h.lt j hj
end
end Go.Proofs.Ytbpcfkniflgmfaa.prc
end

section
/- proc: law 16's awake. -/
namespace Go.Proofs.Ytbpcfkniflgmfaa.prc
open Go Go.RowKit Go.Maps

def aw : Nat → Ab
  | 0 => begins ab0 0 ⟨#[97]⟩
  | k + 1 => (step 1 1 (aw k) 0).1

theorem aw_no : ∀ k, k < 3 → (step 1 1 (aw k) 0).2 = nope := by
  intro k hk
  rcases (show k = 0 ∨ k = 1 ∨ k = 2 by omega) with rfl | rfl | rfl
  · rfl
  · rfl
  · rfl
theorem aw_end : (step 1 1 (aw 3) 0).2 = ⟨true, false, 0⟩ := by rfl
theorem aw_idle : ((aw 4).X 0).next = 0 := by rfl
theorem aw_slot : (aw 4).S 0 = some ⟨0, 1, ⟨#[97]⟩⟩ := by rfl
theorem aw_good : ∀ k, Good 1 1 (aw k)
  | 0 => (good0 1 (by decide)).begins (by decide) (by decide) (by decide)
  | k + 1 => (aw_good k).step (by decide)

def intOf : Value → Int
  | .int _ x => x
  | _ => 0

set_option maxRecDepth 100000 in
set_option maxHeartbeats 2000000 in
theorem awake_calls (w : World) : Calls Try.prog 7 #[] w fun en w' => en = .returned (.bool true) ∧ Below w.heap.size w w' := by
  go_enter Try.func7, Try.ntmps7
  go_wp2_with fail
  refine (cel.new_calls (H := Unit) 2 (by decide) _).mono ?_
  intro en w1 hP
  have hb0 : Below w.heap.size w (w.alloc (.cells #[.int .i64 1, .int .i64 1] 25)) := box_below _ _
  obtain ⟨d, c, m, rfl, hS⟩ := mm_new (P := 1) (L := 1) (w := w) (Turn.of_below hb0 (F := fun j => w.heap.size ≤ j) (fun _ _ e => e)) hP
  obtain ⟨_, _, _, _, hm2, hb2, _, _, _⟩ := hP
  have Z1 : Hid (Has w1 w.heap.size 25 #[.int .i64 1, .int .i64 1]) := Lib.hid ((Has.made w 25 _).below hb2 (by simp))
  have S1 := Lib.hid hS
  have z0 : w1.cell? ⟨w.heap.size, 0, none⟩ = some (.int .i64 1) := Z1.out.cell 0
  have z1 : w1.cell? ⟨w.heap.size, 1, none⟩ = some (.int .i64 1) := Z1.out.cell 1
  clear hS hb2 hb0 hm2
  go_wp2_with fail
  refine (new_calls 1 1 0 w1).mono ?_
  intro en w2 hP2
  have hb2 : Below w1.heap.size w1 w2 := by obtain ⟨_, _, _, h, _⟩ := hP2; exact h
  obtain ⟨b, rfl, hS, hbl⟩ := S1.out.more (i := 0) (by decide) (fun h => h) hP2
  have Z2 := Lib.hid (Z1.out.below hb2 Z1.out.lt)
  have z0' : w2.cell? ⟨w.heap.size, 0, none⟩ = some (.int .i64 1) := Z2.out.cell 0
  have z1' : w2.cell? ⟨w.heap.size, 1, none⟩ = some (.int .i64 1) := Z2.out.cell 1
  obtain ⟨B, hB⟩ : ∃ B, B = up (fun _ => 0) 0 b := ⟨_, rfl⟩
  have hB0 : Hid (B 0 = b) := Lib.hid (by rw [hB]; exact up_same _ _ _)
  rw [← hB] at hS
  have S2 := Lib.hid hS
  have HZ : Hid (w.heap.size < b) := Lib.hid (Nat.lt_of_lt_of_le Z1.out.lt hbl)
  clear hS hb2 hP2 z0 z1 hB hbl Z1 S1
  go_wp2_with (first
    | (go_at_call 35; refine (cellsP_calls 1 1 _ (by decide) (by decide) (by decide) (by decide)).mono ?_; rintro en w3 ⟨rfl, b3⟩
       have S3 := Lib.hid (S2.out.below b3)
       clear b3)
    | (go_at_call 36; rw [← hB0.out]; refine (S3.out.begins (i := 0) (.inl rfl) rfl ⟨#[97]⟩ (by decide) (by decide) (by decide)).mono ?_; rw [hB0.out]; rintro en w4 ⟨rfl, h4, t4⟩
       have S4 : Hid (Sys w d c m 1 1 (aw 0) 0 (fun j => j = 0 ∨ False) B w4) := Lib.hid h4
       clear h4 t4)
    | fail)
  go_loopw [25] (fun i wr => ∃ k : Nat, i = .int .i64 k ∧ k ≤ 3 ∧ Hid (Sys w d c m 1 1 (aw k) k (fun j => j = 0 ∨ False) B wr)) (fun i _ => 3 - (intOf i).toNat)
  case atStart => exact ⟨0, rfl, by omega, S4⟩
  case round =>
    obtain ⟨k, rfl, hk, HS⟩ := hrel
    by_cases hk3 : k < 3
    · have hkb : (k : Int) < 3 := by omega
      have hno := Lib.hid (aw_no k hk3)
      have hfd : ∀ w', (Instr.field 42 (.agg #[.bool false, .bool false, .int .i64 0]) 0).run Try.prog w' = .ok (.bool false) w' := fun w' => rfl
      go_wp2_with (first
        | (go_at_call 16; rw [← hB0.out]; refine (HS.out.step_is (i := 0) (aw_good k) (.inl rfl) (by decide) (by decide) (by omega) (A' := aw (k + 1)) (dn := false) (fl := false) (s := 0) rfl (by rw [hno.out]; rfl) (by rw [hno.out]; rfl) (by rw [hno.out]; rfl)).mono ?_; rw [hB0.out]; rintro en w5 ⟨rfl, h5, t5⟩
           have S5 := Lib.hid h5
           clear h5 t5)
        | fail)
      refine ⟨⟨k + 1, by rw [Int.natCast_add]; rfl, by omega, S5⟩, ?_⟩
      show 3 - ((k : Int) + 1).toNat < 3 - ((k : Int)).toNat
      omega
    · obtain rfl : k = 3 := by omega
      obtain ⟨t, ht⟩ : ∃ t, t = tx ⟨0, 1, ⟨#[97]⟩⟩ := ⟨_, rfl⟩
      have et : (t.toList == t.toList) = true := beq_self_eq_true _
      have HT := Lib.hid ht
      have htx : ∀ V, Hid (Calls Try.prog 13 #[.agg #[.int .i64 0, .int .i64 1, .string ⟨#[97]⟩]] V (ret1 (.string t) V)) := fun V => by rw [ht]; exact Lib.hid (text_calls ⟨0, 1, ⟨#[97]⟩⟩ V ⟨by decide, by decide, by decide⟩)
      clear ht
      go_wp2_with (first
        | (go_at_call 16; rw [← hB0.out]; refine (HS.out.step_is (i := 0) (aw_good 3) (.inl rfl) (by decide) (by decide) (by omega) (A' := aw 4) (dn := true) (fl := false) (s := 0) rfl (by rw [aw_end]) (by rw [aw_end]) (by rw [aw_end]; rfl)).mono ?_; rw [hB0.out]; rintro en w5 ⟨rfl, h5, t5⟩
           have S5 := Lib.hid h5
           have S5' := Lib.hid (h5.below (box_below w5 (.cells #[.bool true, .bool false, .int .i64 0] 42)))
           clear h5 t5)
        | (go_at_call 14; rw [← hB0.out]; refine (S5'.out.idle (i := 0) (.inl rfl)).mono ?_; rw [hB0.out, decide_eq_true aw_idle]; rintro en w6 ⟨rfl, rfl⟩)
        | (go_at_call 11; refine (S5'.out.look 1 (by decide) t (by rw [HT.out]; exact (cellT_slot 1 (aw 4) 0).trans (by rw [aw_slot]; rfl))).mono ?_; rintro en w7 ⟨rfl, rfl⟩)
        | (go_at_call 13; refine (htx _).out.mono ?_; rintro en w8 ⟨rfl, b8⟩
           have S8 := Lib.hid (S5'.out.below b8)
           clear b8)
        | fail)
      go_ret
      exact ⟨rfl, S8.out.ends⟩
end Go.Proofs.Ytbpcfkniflgmfaa.prc
end

