/- proc: a step of the program's process is the abstract one. -/
import Derived.Test.YtlbpephbigikcabPrcJ
namespace Go.Proofs.Ytlbpephbigikcab.prc
open Go Go.RowKit Go.Maps

section
variable {w V : World} {d c m P L D K b i : Nat} {A : Ab} {x : Px}

theorem put_at (A : Ab) (i : Nat) (y : Pc) : (put A i y).X i = y := by rw [put_X, if_pos rfl]

/-- A process goes on to another thing to do, and has seen what it had. -/
theorem rx_go (h : Rx P L A i x) (W : Nat → Option Rc) (n : Nat) (hn : n ≠ 5) (y : Px) (e1 : y.procs = x.procs) (e2 : y.slots = x.slots) (e3 : y.who = x.who) (e4 : y.seq = x.seq) (e5 : y.seen = x.seen) (e6 : y.last = x.last) (e7 : y.next = n)
    (ho : 1 ≤ n → n ≤ 4 → y.own = tx (mine A i)) (o : Rc) (hf : n = 4 → y.offer = tx o) : Rx P L (put { A with W := W } i { A.X i with next := n, offer := o }) i y := by
  refine ⟨e1.trans h.procs, e2.trans h.slots, e3.trans h.who, ?_, ?_, ?_, fun k hk => ?_, fun h1 h2 => ?_, fun h1 => ?_⟩
  all_goals rw [put_at] at *
  · exact e4.trans h.seq
  · exact e5.trans h.seen
  · rw [e7, if_neg (fun e => hn e.1)]
  · rw [e6]; exact h.last k hk
  · rw [show mine (put { A with W := W } i { A.X i with next := n, offer := o }) i = mine A i by unfold mine; rw [put_at]]
    exact ho h1 h2
  · exact hf h1

theorem rx_choose (h : Rx P L A i x) (hf : ∀ j r, A.W j = some r → r.Fits) (h1 : 1 ≤ (A.X i).next) (h4 : (A.X i).next ≤ 4) (j : Nat) : chooseX x (A.W j) = tx (choose A i (A.W j)) := by
  have ho := h.own h1 h4
  cases hw : A.W j with
  | none => exact ho
  | some r =>
    have hr := hf j r hw
    show (if x.last r.who < (r.seq : Int) then tx r else x.own) = tx (if kn A.S r.who (A.X i).at_ < r.seq then r else mine A i)
    rw [h.last r.who (by have := hr.1; omega)]
    by_cases e : kn A.S r.who (A.X i).at_ < r.seq
    · rw [if_pos (by omega), if_pos e]
    · rw [if_neg (by omega), if_neg e, ho]

theorem step_real (hI : Inv P L D A) (hF : Fit P A) (hi : i < P) (hP : P ≤ 64) (hL : L ≤ 256) (hK : K ≤ 900000) (hn5 : (A.X i).next ≤ 5) (h : Pr V b x) (hx : Rx P L A i x) (hM : Mm w d c m P L A K V) (hlo : w.heap.size ≤ b) :
    Calls Try.prog 22 #[.pointer (some ⟨b, 0, none⟩), .pointer (some ⟨d, 0, none⟩)] V (RealPost w d c m P L (step P L A i).1 (step P L A i).2 (K + 1) i b V) := by
  have hat : (A.X i).at_ ≤ L := Nat.le_trans (hI.seen i) hI.d
  rcases (show (A.X i).next = 0 ∨ (A.X i).next = 1 ∨ (A.X i).next = 2 ∨ (A.X i).next = 3 ∨ (A.X i).next = 4 ∨ (A.X i).next = 5 by omega) with e | e | e | e | e | e
  · rw [step_idle e]
    have hn : x.next = 0 := by rw [hx.next, e]; rfl
    refine (step_0 h hM hlo hn).mono ?_
    rintro en w' ⟨rfl, h1, h2, h3⟩
    exact ⟨x, rfl, h1, hx, h2.more (by omega), h3⟩
  · have hn : x.next = 1 := by rw [hx.next, e]; rfl
    have ho := hx.own (by omega) (by omega)
    have hse : (decide (x.slots ≤ x.seen)) = decide (L ≤ (A.X i).at_) := by rw [hx.slots, hx.seen]; exact decide_eq_decide.2 (by omega)
    refine (step_1 h hM hlo hn hx.who hi hP hK (mine A i) ho).mono ?_
    rintro en w' ⟨rfl, h1, h2, h3⟩
    have hst : step P L A i = wishes L A i := by unfold step; rw [e]; rfl
    rw [hst]
    by_cases hl : L ≤ (A.X i).at_
    · have ht : toSlotX x = x.idle := if_pos (by rw [hx.slots, hx.seen]; omega)
      have hw : wishes L A i = (put { A with W := up A.W i (some (mine A i)) } i { A.X i with next := 0 }, ⟨true, true, 0⟩) := if_pos hl
      rw [hw, hse, decide_eq_true hl]
      refine ⟨x.idle, rfl, by rw [← ht]; exact h1, ?_, h2, h3⟩
      exact rx_go hx (up A.W i (some (mine A i))) 0 (by decide) x.idle rfl rfl rfl rfl rfl rfl rfl (fun e => absurd e (by omega)) (A.X i).offer (fun e => absurd e (by omega))
    · have ht : toSlotX x = { x with next := 2 } := if_neg (by rw [hx.slots, hx.seen]; omega)
      have hw : wishes L A i = (put { A with W := up A.W i (some (mine A i)) } i { A.X i with next := 2 }, nope) := if_neg hl
      rw [hw, hse, decide_eq_false hl]
      refine ⟨{ x with next := 2 }, rfl, by rw [← ht]; exact h1, ?_, h2, h3⟩
      exact rx_go hx (up A.W i (some (mine A i))) 2 (by decide) { x with next := 2 } rfl rfl rfl rfl rfl rfl rfl (fun _ _ => ho) (A.X i).offer (fun e => absurd e (by omega))
  · have hn : x.next = 2 := by rw [hx.next, e]; rfl
    have hlow := hI.low i (by omega) (by omega)
    have hst : step P L A i = looks L A i := by unfold step; rw [e]; rfl
    rw [hst]
    cases hS : A.S (A.X i).at_ with
    | none =>
      have hw : looks L A i = (put A i { A.X i with next := 3 }, nope) := by unfold looks; rw [hS]
      rw [hw]
      refine (step_2_none h hM hlo hn hx.who (by omega) hx.procs hP hL hK (A.X i).at_ hlow hx.seen hS).mono ?_
      rintro en w' ⟨rfl, h1, h2, h3⟩
      refine ⟨_, rfl, h1, ?_, h2, h3⟩
      exact rx_go hx A.W 3 (by decide) { x with next := 3 } rfl rfl rfl rfl rfl rfl rfl (fun _ _ => hx.own (by omega) (by omega)) (A.X i).offer (fun e => absurd e (by omega))
    | some r =>
      have hw : looks L A i = sees L A i r := by unfold looks; rw [hS]
      rw [hw]
      have hr := hF.slot _ r hS
      obtain ⟨q1, q2, q3⟩ := rx_sees hx r A.S (fun _ _ => rfl) hS hr (hF.mine i hi) (by omega) (by omega)
      refine (step_2_some h hM hlo hn hx.who (by omega) hx.procs hP hL hK (A.X i).at_ hlow hx.seen r hr hS).mono ?_
      rintro en w' ⟨rfl, h1, h2, h3⟩
      refine ⟨decX x r, ?_, h1, q1, ?_, h3⟩
      · rw [show (sees L A i r).2 = _ from q2]
        show _ = Ending.returned (.agg #[.bool (decD x r), .bool (decF x r), .int .i64 ((decS x r).toNat : Int)])
        rw [q3]
      · have hk := sees_WS (L := L) (a := A) (i := i) r
        have hc : cellT P (sees L A i r).1 = cellT P A ∧ cellN P (sees L A i r).1 = cellN P A := by unfold cellT cellN; rw [hk.1, hk.2]; exact ⟨rfl, rfl⟩
        unfold Mm at h2 ⊢
        rw [hc.1, hc.2]
        exact h2
  · have hn : x.next = 3 := by rw [hx.next, e]; rfl
    have hlow := hI.low i (by omega) (by omega)
    have hst : step P L A i = helps P A i := by unfold step; rw [e]; rfl
    rw [hst]
    refine (step_3 h hM hlo hn hx.who (by omega) hx.procs (by omega) hP hK (A.X i).at_ (by omega) hx.seen (fun r hr => hF.wish _ r hr)).mono ?_
    rintro en w' ⟨rfl, h1, h2, h3⟩
    refine ⟨_, rfl, h1, ?_, h2, h3⟩
    exact rx_go hx A.W 4 (by decide) { ({ x with offer := chooseX x (A.W ((A.X i).at_ % P)) } : Px) with next := 4 } rfl rfl rfl rfl rfl rfl rfl (fun _ _ => hx.own (by omega) (by omega)) (choose A i (A.W ((A.X i).at_ % P))) (fun _ => rx_choose hx hF.wish (by omega) (by omega) _)
  · have hn : x.next = 4 := by rw [hx.next, e]; rfl
    have hlow := hI.low i (by omega) (by omega)
    have hof := hF.offer i e
    have hst : step P L A i = decides L A i := by unfold step; rw [e]; rfl
    rw [hst]
    have hrf : (swR A (A.X i).at_ (A.X i).offer).Fits := by
      unfold swR
      cases hS : A.S (A.X i).at_ with
      | none => exact hof
      | some r => exact hF.slot _ r hS
    refine (step_4 h hM hlo hn hx.who (by omega) hx.procs hP hL hK (A.X i).at_ hlow hx.seen (A.X i).offer (hx.offer e) hrf).mono ?_
    rintro en w' ⟨rfl, h1, h2, h3⟩
    cases hS : A.S (A.X i).at_ with
    | some r =>
      have e1 : swR A (A.X i).at_ (A.X i).offer = r := by unfold swR; rw [hS]
      have e2 : swA A (A.X i).at_ (A.X i).offer = A := by unfold swA; rw [hS]
      rw [e1] at h1 hrf ⊢
      rw [e2] at h2
      have hw : decides L A i = sees L A i r := by unfold decides; rw [hS]
      rw [hw]
      obtain ⟨q1, q2, q3⟩ := rx_sees hx r A.S (fun _ _ => rfl) hS hrf (hF.mine i hi) (by omega) (by omega)
      refine ⟨decX x r, ?_, h1, q1, ?_, h3⟩
      · rw [show (sees L A i r).2 = _ from q2]
        show _ = Ending.returned (.agg #[.bool (decD x r), .bool (decF x r), .int .i64 ((decS x r).toNat : Int)])
        rw [q3]
      · have hk := sees_WS (L := L) (a := A) (i := i) r
        have hc : cellT P (sees L A i r).1 = cellT P A ∧ cellN P (sees L A i r).1 = cellN P A := by unfold cellT cellN; rw [hk.1, hk.2]; exact ⟨rfl, rfl⟩
        unfold Mm at h2 ⊢
        rw [hc.1, hc.2]
        exact h2
    | none =>
      have e1 : swR A (A.X i).at_ (A.X i).offer = (A.X i).offer := by unfold swR; rw [hS]
      have e2 : swA A (A.X i).at_ (A.X i).offer = { A with S := up A.S (A.X i).at_ (some (A.X i).offer) } := by unfold swA; rw [hS]
      rw [e1] at h1 hrf ⊢
      rw [e2] at h2
      have hw : decides L A i = sees L { A with S := up A.S (A.X i).at_ (some (A.X i).offer) } i (A.X i).offer := by unfold decides; rw [hS]
      rw [hw]
      obtain ⟨q1, q2, q3⟩ := rx_sees hx (A.X i).offer (up A.S (A.X i).at_ (some (A.X i).offer)) (fun q hq => up_other _ _ (by omega)) (up_same _ _ _) hrf (hF.mine i hi) (by omega) (by omega)
      refine ⟨decX x (A.X i).offer, ?_, h1, q1, ?_, h3⟩
      · rw [q2]
        show _ = Ending.returned (.agg #[.bool (decD x (A.X i).offer), .bool (decF x (A.X i).offer), .int .i64 ((decS x (A.X i).offer).toNat : Int)])
        rw [q3]
      · have hk := sees_WS (L := L) (a := { A with S := up A.S (A.X i).at_ (some (A.X i).offer) }) (i := i) (A.X i).offer
        have hc : cellT P (sees L { A with S := up A.S (A.X i).at_ (some (A.X i).offer) } i (A.X i).offer).1 = cellT P { A with S := up A.S (A.X i).at_ (some (A.X i).offer) } ∧ cellN P (sees L { A with S := up A.S (A.X i).at_ (some (A.X i).offer) } i (A.X i).offer).1 = cellN P { A with S := up A.S (A.X i).at_ (some (A.X i).offer) } := by unfold cellT cellN; rw [hk.1, hk.2]; exact ⟨rfl, rfl⟩
        unfold Mm at h2 ⊢
        rw [hc.1, hc.2]
        exact h2
  · have hst : step P L A i = heads L A i := by unfold step; rw [e]; rfl
    rw [hst]
    by_cases hl : L ≤ (A.X i).at_
    · have hn : x.next = 6 := by rw [hx.next, if_pos ⟨e, hl⟩]
      have hw : heads L A i = (put A i { A.X i with next := 0 }, ⟨true, false, (A.X i).at_⟩) := if_pos (.inl hl)
      rw [hw]
      refine (step_6 h hM hlo hn hx.who hi hP hK (A.X i).at_ hx.seen).mono ?_
      rintro en w' ⟨rfl, h1, h2, h3⟩
      refine ⟨_, rfl, h1, ?_, h2, h3⟩
      exact rx_go hx A.W 0 (by decide) x.idle rfl rfl rfl rfl rfl rfl rfl (fun e => absurd e (by omega)) (A.X i).offer (fun e => absurd e (by omega))
    · have hn : x.next = 5 := by rw [hx.next, if_neg (fun h => hl h.2), e]; rfl
      cases hS : A.S (A.X i).at_ with
      | none =>
        have hw : heads L A i = (put A i { A.X i with next := 0 }, ⟨true, false, (A.X i).at_⟩) := if_pos (.inr hS)
        rw [hw]
        refine (step_5_none h hM hlo hn hx.who (by omega) hx.procs hP hL hK (A.X i).at_ (by omega) hx.seen hS).mono ?_
        rintro en w' ⟨rfl, h1, h2, h3⟩
        refine ⟨_, rfl, h1, ?_, h2, h3⟩
        exact rx_go hx A.W 0 (by decide) x.idle rfl rfl rfl rfl rfl rfl rfl (fun e => absurd e (by omega)) (A.X i).offer (fun e => absurd e (by omega))
      | some r =>
        have hr := hF.slot _ r hS
        have hw : heads L A i = (put A i { A.X i with at_ := (A.X i).at_ + 1 }, nope) := if_neg (fun h => by rcases h with h | h; exact hl h; rw [hS] at h; cases h)
        rw [hw]
        refine (step_5_some h hM hlo hn hx.who (by omega) hx.procs hP hL hK (A.X i).at_ (by omega) hx.seen r hr hS).mono ?_
        rintro en w' ⟨rfl, h1, h2, h3⟩
        refine ⟨_, rfl, h1, ?_, h2, h3⟩
        have hse : (seeX x r).seen = (((A.X i).at_ + 1 : Nat) : Int) := by show x.seen + 1 = _; rw [hx.seen]; omega
        have hsl : (seeX x r).slots = L := hx.slots
        refine ⟨hx.procs, hx.slots, hx.who, ?_, ?_, ?_, fun k hk => ?_, fun h1 h2 => ?_, fun h1 => ?_⟩
        all_goals rw [put_at] at *
        · exact hx.seq
        · exact hse
        · show (if (seeX x r).slots ≤ (seeX x r).seen then (6 : Int) else 5) = if (A.X i).next = 5 ∧ L ≤ (A.X i).at_ + 1 then 6 else ((A.X i).next : Int)
          rw [hsl, hse, e]
          by_cases h5 : L ≤ (A.X i).at_ + 1
          · rw [if_pos (by omega), if_pos ⟨rfl, h5⟩]
          · rw [if_neg (by omega), if_neg (fun h => h5 h.2)]; rfl
        · exact last_seen hx (S := A.S) (fun _ _ => rfl) hS k hk
        · exact absurd h2 (by show ¬ (A.X i).next ≤ 4; omega)
        · exact absurd h1 (by show ¬ (A.X i).next = 4; omega)
end
end Go.Proofs.Ytlbpephbigikcab.prc
