/- proc: Step and the abstract step are the same. -/
import Derived.Test.YtlbpephbigikcabPrcG
import Derived.Test.YtlbpephbigikcabPrcH
import Derived.Test.YtlbpephbigikcabPrcI
namespace Go.Proofs.Ytlbpephbigikcab.prc
open Go Go.RowKit Go.Maps

section
variable {w V : World} {d c m P L D K b i : Nat} {A : Ab} {x : Px}

def RealPost (w : World) (d c m P L : Nat) (A' : Ab) (e : En) (K i b : Nat) (V0 : World) (en : Ending) (w' : World) : Prop :=
  ∃ y, en = .returned (.agg #[.bool e.done, .bool e.full, .int .i64 e.slot]) ∧ Pr w' b y ∧ Rx P L A' i y ∧ Mm w d c m P L A' K w' ∧ Turn (fun j => j = b ∨ Mb d c m j) V0 w'

theorem kn_seen {S : Nat → Option Rc} {r : Rc} {k : Nat} (h : S k = some r) (who : Nat) : kn S who (k + 1) = if r.who = who then max (kn S who k) r.seq else kn S who k := by
  show (match S k with | some r => if r.who = who then max (kn S who k) r.seq else kn S who k | none => kn S who k) = _
  rw [h]

theorem max_cast (a n : Nat) : (if (a : Int) < (n : Int) then (n : Int) else (a : Int)) = ((max a n : Nat) : Int) := by
  by_cases h : a < n
  · rw [if_pos (by omega), Nat.max_eq_right (by omega)]
  · rw [if_neg (by omega), Nat.max_eq_left (by omega)]

/-- The numbers behind a slot that is seen. -/
theorem last_seen {r : Rc} (h : Rx P L A i x) {S : Nat → Option Rc} (hk : ∀ q, q < (A.X i).at_ → S q = A.S q) (hS : S (A.X i).at_ = some r) (q : Nat) (hq : q < 64) : (seeX x r).last q = kn S q ((A.X i).at_ + 1) := by
  rw [kn_seen hS, kn_congr q _ hk]
  show (if q = r.who then (if x.last q < (r.seq : Int) then (r.seq : Int) else x.last q) else x.last q) = _
  rw [h.last q hq]
  by_cases e : r.who = q
  · rw [if_pos e.symm, if_pos e, max_cast]
  · rw [if_neg (fun e2 => e e2.symm), if_neg e]

theorem rx_sees (h : Rx P L A i x) (r : Rc) (S : Nat → Option Rc) (hk : ∀ q, q < (A.X i).at_ → S q = A.S q) (hS : S (A.X i).at_ = some r) (hr : r.Fits) (hm : (mine A i).Fits) (h1 : 1 ≤ (A.X i).next) (h4 : (A.X i).next ≤ 4) :
    Rx P L (sees L { A with S := S } i r).1 i (decX x r) ∧ (sees L { A with S := S } i r).2 = ⟨decD x r, decF x r, (decS x r).toNat⟩ ∧ ((decS x r).toNat : Int) = decS x r := by
  have ho := h.own h1 h4
  have hl : ∀ q, q < 64 → (seeX x r).last q = kn S q ((A.X i).at_ + 1) := fun q hq => last_seen h hk hS q hq
  have hse : (seeX x r).seen = (((A.X i).at_ + 1 : Nat) : Int) := by show x.seen + 1 = _; rw [h.seen]; omega
  have hsl : (seeX x r).slots = L := h.slots
  by_cases e : r = mine A i
  · have e' : tx r = x.own := by rw [ho, e]
    have hA : sees L { A with S := S } i r = (put { A with S := S } i { A.X i with next := 0, at_ := (A.X i).at_ + 1 }, ⟨true, false, (A.X i).at_⟩) := if_pos e
    rw [hA]
    have hd : decX x r = (seeX x r).idle := if_pos e'
    have hs : decS x r = x.seen := if_pos e'
    refine ⟨?_, ?_, by rw [hs, h.seen]; omega⟩
    · rw [hd]
      have hX : (put { A with S := S } i { A.X i with next := 0, at_ := (A.X i).at_ + 1 }).X i = { A.X i with next := 0, at_ := (A.X i).at_ + 1 } := by rw [put_X, if_pos rfl]
      refine ⟨h.procs, h.slots, h.who, by rw [hX]; exact h.seq, by rw [hX]; exact hse, by rw [hX]; rw [if_neg (by show ¬ (0 = 5 ∧ _); omega)]; rfl, fun q hq => by rw [hX]; exact hl q hq, fun h0 => ?_, fun h0 => ?_⟩
      · rw [hX] at h0; exact absurd h0 (by show ¬ 1 ≤ 0; omega)
      · rw [hX] at h0; exact absurd h0 (by show ¬ 0 = 4; omega)
    · unfold decD decF
      rw [decide_eq_true e', hs, h.seen]
      rfl
  · have e' : tx r ≠ x.own := by rw [ho]; exact fun h2 => e (tx_inj hr hm h2)
    have hs : decS x r = 0 := if_neg e'
    have hd : decX x r = toSlotX (seeX x r) := if_neg e'
    by_cases hL : L ≤ (A.X i).at_ + 1
    · have hA : sees L { A with S := S } i r = (put { A with S := S } i { A.X i with next := 0, at_ := (A.X i).at_ + 1 }, ⟨true, true, 0⟩) := by
        show (if r = mine A i then _ else if L ≤ (A.X i).at_ + 1 then _ else _) = _
        rw [if_neg e, if_pos hL]
      have hle : (seeX x r).slots ≤ (seeX x r).seen := by rw [hsl, hse]; omega
      have hle2 : x.slots ≤ x.seen + 1 := hle
      rw [hA]
      refine ⟨?_, ?_, by rw [hs]; rfl⟩
      · rw [hd, show toSlotX (seeX x r) = (seeX x r).idle from if_pos hle]
        have hX : (put { A with S := S } i { A.X i with next := 0, at_ := (A.X i).at_ + 1 }).X i = { A.X i with next := 0, at_ := (A.X i).at_ + 1 } := by rw [put_X, if_pos rfl]
        refine ⟨h.procs, h.slots, h.who, by rw [hX]; exact h.seq, by rw [hX]; exact hse, by rw [hX]; rw [if_neg (by show ¬ (0 = 5 ∧ _); omega)]; rfl, fun q hq => by rw [hX]; exact hl q hq, fun h0 => ?_, fun h0 => ?_⟩
        · rw [hX] at h0; exact absurd h0 (by show ¬ 1 ≤ 0; omega)
        · rw [hX] at h0; exact absurd h0 (by show ¬ 0 = 4; omega)
      · unfold decD decF
        rw [decide_eq_false e', decide_eq_true hle2, hs]
        rfl
    · have hA : sees L { A with S := S } i r = (put { A with S := S } i { A.X i with next := 2, at_ := (A.X i).at_ + 1 }, nope) := by
        show (if r = mine A i then _ else if L ≤ (A.X i).at_ + 1 then _ else _) = _
        rw [if_neg e, if_neg hL]
      have hle : ¬ (seeX x r).slots ≤ (seeX x r).seen := by rw [hsl, hse]; omega
      have hle2 : ¬ x.slots ≤ x.seen + 1 := hle
      rw [hA]
      refine ⟨?_, ?_, by rw [hs]; rfl⟩
      · rw [hd, show toSlotX (seeX x r) = { seeX x r with next := 2 } from if_neg hle]
        have hX : (put { A with S := S } i { A.X i with next := 2, at_ := (A.X i).at_ + 1 }).X i = { A.X i with next := 2, at_ := (A.X i).at_ + 1 } := by rw [put_X, if_pos rfl]
        have hmi : mine (put { A with S := S } i { A.X i with next := 2, at_ := (A.X i).at_ + 1 }) i = mine A i := by unfold mine; rw [hX]
        refine ⟨h.procs, h.slots, h.who, by rw [hX]; exact h.seq, by rw [hX]; exact hse, by rw [hX]; rw [if_neg (by show ¬ (2 = 5 ∧ _); omega)]; rfl, fun q hq => by rw [hX]; exact hl q hq, fun _ _ => ?_, fun h0 => ?_⟩
        · rw [hmi]; exact ho
        · rw [hX] at h0; exact absurd h0 (by show ¬ 2 = 4; omega)
      · unfold decD decF
        rw [decide_eq_false e', decide_eq_false hle2, hs]
        rfl
end
end Go.Proofs.Ytlbpephbigikcab.prc
