/- container/heap over rank's things: down. -/
import Derived.Test.YtbpnbnbglfiglaaRankB
namespace Go.Proofs.Ytbpnbnbglfiglaa
open Go.RowKit

theorem swap_drop (l : List Th) (i j m : Nat) (hi : i < m) (hj : j < m) : (swap l i j).drop m = l.drop m := by
  unfold swap
  rw [List.drop_set_of_lt hj, List.drop_set_of_lt hi]

/-- What down leaves. -/
structure Sunk (w : World) (q g cap i0 m : Nat) (l : List Th) (n : Int) (w' : World) (l' : List Th) : Prop where
  qa : Qa w' q g cap l' n
  perm : l'.Perm l
  drop : l'.drop m = l.drop m
  grown : w.grownBy w' (some g)

def DownPost (w : World) (q g cap i0 m : Nat) (l : List Th) (n : Int) (en : Ending) (w' : World) : Prop :=
  ∃ (b : Bool) (l' : List Th), en = .returned (.bool b) ∧ Sunk w q g cap i0 m l n w' l' ∧ HeapFrom i0 m l'

theorem Sunk.none {w w' w1 : World} {q g cap i0 m : Nat} {l l' : List Th} {n : Int} (h : Sunk w q g cap i0 m l n w' l') (k : w'.grownBy w1 none) : Sunk w q g cap i0 m l n w1 l' :=
  ⟨h.qa.none k, h.perm, h.drop, grown_trans h.grown (grown_more k _)⟩

theorem Sunk.swap {w w' w1 : World} {q g cap i0 m : Nat} {l l' : List Th} {n : Int} (h : Sunk w q g cap i0 m l n w' l') (k : w'.grownBy w1 (some g)) (i j : Nat) (e : Lie w1 g cap (swap l' i j)) (hi : i < m) (hj : j < m) (hm : m ≤ l'.length) :
    Sunk w q g cap i0 m l n w1 (swap l' i j) :=
  ⟨h.qa.turn k e (swap_length ..), (swap_perm l' i j (by omega) (by omega)).trans h.perm, (swap_drop l' i j m hi hj).trans h.drop, grown_trans h.grown k⟩

/-- j is the lesser one of those below a. -/
structure Least (m a j : Nat) (l : List Th) : Prop where
  low : j < m
  pos : 0 < j
  above : (j - 1) / 2 = a
  least : ∀ k, 0 < k → k < m → (k - 1) / 2 = a → ¬ lt (at_ l k) (at_ l j)

theorem Least.one {m a b c : Nat} {l : List Th} (hb : b = 2 * a + 1) (hc : c = b + 1) (h1 : b < m) (h2 : ¬ c < m) : Least m a b l :=
  ⟨h1, by omega, by omega, fun k h0 hk e => by
    obtain rfl : k = b := by omega
    unfold lt; omega⟩

theorem Least.left {m a b c : Nat} {l : List Th} (hb : b = 2 * a + 1) (hc : c = b + 1) (h1 : b < m) (h : ¬ lt (at_ l c) (at_ l b)) : Least m a b l :=
  ⟨h1, by omega, by omega, fun k h0 hk e => by
    rcases (show k = b ∨ k = c by omega) with rfl | rfl
    · unfold lt; omega
    · exact h⟩

theorem Least.right {m a b c : Nat} {l : List Th} (hb : b = 2 * a + 1) (hc : c = b + 1) (h1 : c < m) (h : lt (at_ l c) (at_ l b)) : Least m a c l :=
  ⟨h1, by omega, by omega, fun k h0 hk e => by
    rcases (show k = b ∨ k = c by omega) with rfl | rfl
    · exact lt_asymm h
    · unfold lt; omega⟩

theorem Least.done {i0 m a j : Nat} {l : List Th} (h : Least m a j l) (hs : Sinks i0 m a l) (hlt : ¬ lt (at_ l j) (at_ l a)) : HeapFrom i0 m l :=
  hs.done fun k h0 hk e => nlt_trans (h.least k h0 hk e) hlt

theorem none_below {i0 m a : Nat} {l : List Th} (hs : Sinks i0 m a l) (h : m ≤ 2 * a + 1) : HeapFrom i0 m l :=
  hs.done fun k h0 hk e => by omega

set_option maxRecDepth 100000 in
set_option maxHeartbeats 800000 in
theorem down_calls (q g cap i0 m : Nat) (l : List Th) (n : Int) (w : World) (h : Qa w q g cap l n) (hs : Sinks i0 m i0 l) (hm : m ≤ l.length) (hl : l.length ≤ 1000000) (hi0 : i0 ≤ 1000000) :
    Calls Try.prog 46 #[ifc q, .int .i64 i0, .int .i64 m] w fun en w' => DownPost w q g cap i0 m l n en w' := by
  have H : Hid (Sunk w q g cap i0 m l n w l) := ⟨h, List.Perm.refl _, rfl, grown_refl w _⟩
  have HS := Lib.hid hs
  clear h hs
  go_enter Try.func46, Try.ntmps46
  go_wp2_with fail
  go_loopw [7] (fun j wr => ∃ (a : Nat) (k : List Th), j = .int .i64 a ∧ a ≤ 1000000 ∧ Hid (k.length = l.length) ∧ Hid (Sunk w q g cap i0 m l n wr k) ∧ Hid (Sinks i0 m a k)) (fun j _ => m - (intOf j).toNat)
  case atStart => exact ⟨i0, l, rfl, hi0, rfl, H, HS⟩
  case round =>
    obtain ⟨a, l', rfl, ha, HN, HQ, HS'⟩ := hrel
    clear H HS
    have hml : m ≤ l'.length := by rw [HN.out]; exact hm
    have hll : l'.length ≤ 1000000 := by rw [HN.out]; exact hl
    obtain ⟨b, eb⟩ : ∃ b, b = 2 * a + 1 := ⟨_, rfl⟩
    obtain ⟨c, ec⟩ : ∃ c, c = b + 1 := ⟨_, rfl⟩
    have hb : 2 * (a : Int) + 1 = (b : Int) := by omega
    have hc : (b : Int) + 1 = (c : Int) := by omega
    have hb0 : (0 : Int) ≤ (b : Int) := by omega
    have hb1 : (b : Int) ≤ 9223372036854775807 := by omega
    have hb2 : -9223372036854775808 ≤ (b : Int) := by omega
    have hc1 : (c : Int) ≤ 9223372036854775807 := by omega
    have hc2 : -9223372036854775808 ≤ (c : Int) := by omega
    have hb3 : ¬ (b : Int) < 0 := by omega
    have EB := Lib.hid eb
    have EC := Lib.hid ec
    clear eb ec
    by_cases h1 : m ≤ b
    · have h1' : (m : Int) ≤ (b : Int) := by omega
      have HF := Lib.hid (none_below (m := m) HS'.out (by omega))
      go_wp2_with fail
      go_ret
      exact ⟨_, l', rfl, HQ.out, HF.out⟩
    · have h1' : (b : Int) < (m : Int) := by omega
      have HF : True := trivial
      by_cases h2 : c < m
      · have h2' : (c : Int) < (m : Int) := by omega
        have c0 := HQ.out.qa.own.cell 0
        change wr.cell? ⟨q, 0, none⟩ = some _ at c0
        have ml := fun x => method_less x ⟨q, 0, none⟩ _ wr c0
        go_wp2_with fail
        refine (less_calls g l' cap c b wr HQ.out.qa.lie (by omega) (by omega)).mono ?_
        rintro en w1 ⟨rfl, g1⟩
        have Q1 := Lib.hid (HQ.out.none g1)
        clear ml c0 g1 HQ
        by_cases hcb : lt (at_ l' c) (at_ l' b)
        · have E := Lib.hid (decide_eq_true hcb)
          rw [E.out]
          have HLE := Lib.hid (Least.right EB.out EC.out h2 hcb)
          clear E
          clear HF
          have hj := HLE.out.low
          have hja := HLE.out.above
          have hj0 := HLE.out.pos
          have c0 := Q1.out.qa.own.cell 0
          change w1.cell? ⟨q, 0, none⟩ = some _ at c0
          have ml := fun x => method_less x ⟨q, 0, none⟩ _ w1 c0
          go_wp2_with fail
          refine (less_calls g l' cap c a w1 Q1.out.qa.lie (by omega) (by omega)).mono ?_
          rintro en w2 ⟨rfl, g2⟩
          have Q2 := Lib.hid (Q1.out.none g2)
          clear ml c0 g2 Q1
          by_cases hlt : lt (at_ l' c) (at_ l' a)
          · have E := Lib.hid (decide_eq_true hlt)
            rw [E.out]
            have c0 := Q2.out.qa.own.cell 0
            change w2.cell? ⟨q, 0, none⟩ = some _ at c0
            have ms := fun x => method_swap x ⟨q, 0, none⟩ _ w2 c0
            go_wp2_with fail
            refine (swap_calls g l' cap a c w2 Q2.out.qa.lie (by omega) (by omega)).mono ?_
            rintro en w3 ⟨rfl, h3, g3⟩
            go_wp2_with fail
            refine ⟨⟨c, swap l' a c, rfl, by omega, by show _ = _; rw [swap_length]; exact HN.out, Q2.out.swap g3 a c h3 (by omega) hj (by omega), HS'.out.step (by omega) hj ⟨hj0, hja⟩ hlt HLE.out.least⟩, ?_⟩
            show m - ((c : Nat) : Int).toNat < m - ((a : Nat) : Int).toNat
            omega
          · have E := Lib.hid (decide_eq_false hlt)
            rw [E.out]
            have HH := Lib.hid (HLE.out.done HS'.out hlt)
            go_wp2_with fail
            go_ret
            exact ⟨_, l', rfl, Q2.out, HH.out⟩
        · have E := Lib.hid (decide_eq_false hcb)
          rw [E.out]
          have HLE := Lib.hid (Least.left EB.out EC.out (by omega) hcb : Least m a b l')
          clear E
          clear HF
          have hj := HLE.out.low
          have hja := HLE.out.above
          have hj0 := HLE.out.pos
          have c0 := Q1.out.qa.own.cell 0
          change w1.cell? ⟨q, 0, none⟩ = some _ at c0
          have ml := fun x => method_less x ⟨q, 0, none⟩ _ w1 c0
          go_wp2_with fail
          refine (less_calls g l' cap b a w1 Q1.out.qa.lie (by omega) (by omega)).mono ?_
          rintro en w2 ⟨rfl, g2⟩
          have Q2 := Lib.hid (Q1.out.none g2)
          clear ml c0 g2 Q1
          by_cases hlt : lt (at_ l' b) (at_ l' a)
          · have E := Lib.hid (decide_eq_true hlt)
            rw [E.out]
            have c0 := Q2.out.qa.own.cell 0
            change w2.cell? ⟨q, 0, none⟩ = some _ at c0
            have ms := fun x => method_swap x ⟨q, 0, none⟩ _ w2 c0
            go_wp2_with fail
            refine (swap_calls g l' cap a b w2 Q2.out.qa.lie (by omega) (by omega)).mono ?_
            rintro en w3 ⟨rfl, h3, g3⟩
            go_wp2_with fail
            refine ⟨⟨b, swap l' a b, rfl, by omega, by show _ = _; rw [swap_length]; exact HN.out, Q2.out.swap g3 a b h3 (by omega) hj (by omega), HS'.out.step (by omega) hj ⟨hj0, hja⟩ hlt HLE.out.least⟩, ?_⟩
            show m - ((b : Nat) : Int).toNat < m - ((a : Nat) : Int).toNat
            omega
          · have E := Lib.hid (decide_eq_false hlt)
            rw [E.out]
            have HH := Lib.hid (HLE.out.done HS'.out hlt)
            go_wp2_with fail
            go_ret
            exact ⟨_, l', rfl, Q2.out, HH.out⟩
      · have h2' : (m : Int) ≤ (c : Int) := by omega
        have HLE := Lib.hid (Least.one EB.out EC.out (by omega) h2 : Least m a b l')
        clear HF
        have hj := HLE.out.low
        have hja := HLE.out.above
        have hj0 := HLE.out.pos
        have c0 := HQ.out.qa.own.cell 0
        change wr.cell? ⟨q, 0, none⟩ = some _ at c0
        have ml := fun x => method_less x ⟨q, 0, none⟩ _ wr c0
        go_wp2_with fail
        refine (less_calls g l' cap b a wr HQ.out.qa.lie (by omega) (by omega)).mono ?_
        rintro en w2 ⟨rfl, g2⟩
        have Q2 := Lib.hid (HQ.out.none g2)
        clear ml c0 g2 HQ
        by_cases hlt : lt (at_ l' b) (at_ l' a)
        · have E := Lib.hid (decide_eq_true hlt)
          rw [E.out]
          have c0 := Q2.out.qa.own.cell 0
          change w2.cell? ⟨q, 0, none⟩ = some _ at c0
          have ms := fun x => method_swap x ⟨q, 0, none⟩ _ w2 c0
          go_wp2_with fail
          refine (swap_calls g l' cap a b w2 Q2.out.qa.lie (by omega) (by omega)).mono ?_
          rintro en w3 ⟨rfl, h3, g3⟩
          go_wp2_with fail
          refine ⟨⟨b, swap l' a b, rfl, by omega, by show _ = _; rw [swap_length]; exact HN.out, Q2.out.swap g3 a b h3 (by omega) hj (by omega), HS'.out.step (by omega) hj ⟨hj0, hja⟩ hlt HLE.out.least⟩, ?_⟩
          show m - ((b : Nat) : Int).toNat < m - ((a : Nat) : Int).toNat
          omega
        · have E := Lib.hid (decide_eq_false hlt)
          rw [E.out]
          have HH := Lib.hid (HLE.out.done HS'.out hlt)
          go_wp2_with fail
          go_ret
          exact ⟨_, l', rfl, Q2.out, HH.out⟩

end Go.Proofs.Ytbpnbnbglfiglaa
