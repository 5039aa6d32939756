/- tower: the document's own list: how many versions a search looks at. -/
import Derived.Test.YtbimdcjbpbpljaaDoorTowU
import Derived.Test.YtbimdcjbpbpljaaDoorTowK
namespace Go.Proofs.YtbimdcjbpbpljaaDoor.tow
open Go Go.RowKit Go.Proofs.YtbimdcjbpbpljaaDoor.tws

def hs_ (A : List It) : List Nat := A.map (fun x => hgt x.1)
theorem stpL_hit {h : Nat} {l1 l2 : List Nat} {y : Nat} (h1 : ∀ z ∈ l1, z ≤ h) (hy : h < y) (h2 : ∀ z ∈ l2, z ≤ y) : stpL (l1 ++ y :: l2) = stpL l2 + 1 := by
  induction l1 with
  | nil => rw [List.nil_append, stpL_cons, if_pos (by rw [List.all_eq_true]; intro z hz; exact decide_eq_true (h2 z hz))]
  | cons x l1 ih =>
    have hx := h1 x (by simp)
    rw [List.cons_append, stpL_cons, if_neg (by
      rw [List.all_eq_true]
      intro hh
      have := of_decide_eq_true (hh y (by simp))
      omega), Nat.add_zero]
    exact ih (fun z hz => h1 z (by simp [hz]))

/-- What was gone past stands in X; M is behind it, and not higher than h. -/
def Ls (A : List It) (h cnt : Nat) (last : Int) (any : Bool) (X M : List It) : Prop :=
  A = X ++ M ∧ ((any = false ∧ X = []) ∨ (any = true ∧ ∃ X0 z, X = X0 ++ [z] ∧ z.1 = last)) ∧ (∀ y ∈ M, hgt y.1 ≤ h) ∧ cnt + stpL (hs_ M) = stpL (hs_ A)
def LsE (A : List It) (h cnt : Nat) (last : Int) (any : Bool) : Prop := ∃ X M, Ls A h cnt last any X M
/-- While a level is gone through: what of it is left is R. -/
def Sti (a : Int) (A : List It) (h cnt : Nat) (last : Int) (any : Bool) (R : List Int) : Prop :=
  ∃ X M P D, Ls A (h + 1) cnt last any X M ∧ R = P ++ (levK h M ++ D) ∧ (∀ p ∈ P, p ≤ last ∧ any = true) ∧ ∀ d ∈ D, a < d

theorem levK_append (h : Nat) (l m : List It) : levK h (l ++ m) = levK h l ++ levK h m := by unfold levK; rw [List.filter_append, List.map_append]
theorem levK_nil {h : Nat} {M : List It} (e : levK h M = []) : ∀ y ∈ M, hgt y.1 ≤ h := by
  intro y hy
  rcases Nat.lt_or_ge h (hgt y.1) with hlt | hge
  · have : y.1 ∈ levK h M := List.mem_map.2 ⟨y, List.mem_filter.2 ⟨hy, decide_eq_true hlt⟩, rfl⟩
    rw [e] at this; cases this
  · exact hge
theorem levK_first {h : Nat} {v : Int} {R : List Int} : ∀ {M : List It}, levK h M = v :: R → ∃ M1 y M2, M = M1 ++ y :: M2 ∧ y.1 = v ∧ h < hgt y.1 ∧ (∀ z ∈ M1, hgt z.1 ≤ h) ∧ levK h M2 = R
  | [], e => by cases e
  | x :: M, e => by
    by_cases hx : h < hgt x.1
    · have e1 : levK h (x :: M) = x.1 :: levK h M := by unfold levK; rw [List.filter_cons, if_pos (decide_eq_true hx)]; rfl
      rw [e1] at e
      injection e with e2 e3
      exact ⟨[], x, M, rfl, e2, hx, by simp, e3⟩
    · have e1 : levK h (x :: M) = levK h M := by unfold levK; rw [List.filter_cons, if_neg (by simpa using hx)]
      rw [e1] at e
      obtain ⟨M1, y, M2, rfl, k1, k2, k3, k4⟩ := levK_first e
      refine ⟨x :: M1, y, M2, rfl, k1, k2, fun z hz => ?_, k4⟩
      rcases List.mem_cons.1 hz with rfl | hz
      · omega
      · exact k3 z hz

section
variable {a : Int} {A : List It} {h cnt : Nat} {last : Int} {any : Bool}
theorem Sti.step {v : Int} {R : List Int} (hst : Sti a A h cnt last any (v :: R)) (hs : A.Pairwise (fun x y => x.1 < y.1)) (hA : ∀ x ∈ A, x.1 ≤ a) :
    (v ≤ a ∧ (any = false ∨ (any = true ∧ last < v)) ∧ Sti a A h (cnt + 1) v true R) ∨ (¬ v ≤ a ∧ Sti a A h cnt last any R) ∨ (v ≤ a ∧ any = true ∧ ¬ last < v ∧ Sti a A h cnt last any R) := by
  obtain ⟨X, M, P, D, ⟨eA, hX, hM, hc⟩, eR, hP, hD⟩ := hst
  cases P with
  | cons p P =>
    rw [List.cons_append] at eR
    injection eR with e1 e2
    have hp := hP p (by simp)
    have hst2 : Sti a A h cnt last any R := ⟨X, M, P, D, ⟨eA, hX, hM, hc⟩, e2, fun q hq => hP q (by simp [hq]), hD⟩
    by_cases hva : v ≤ a
    · exact .inr (.inr ⟨hva, hp.2, by omega, hst2⟩)
    · exact .inr (.inl ⟨hva, hst2⟩)
  | nil =>
    rw [List.nil_append] at eR
    cases hl : levK h M with
    | nil =>
      rw [hl, List.nil_append] at eR
      have hva : ¬ v ≤ a := by have := hD v (by rw [← eR]; simp); omega
      exact .inr (.inl ⟨hva, X, M, [], R, ⟨eA, hX, hM, hc⟩, by rw [hl]; rfl, by simp, fun d hd => hD d (by rw [← eR]; simp [hd])⟩)
    | cons v' R' =>
      rw [hl, List.cons_append] at eR
      injection eR with e1 e2
      subst e1
      obtain ⟨M1, y, M2, rfl, rfl, k2, k3, k4⟩ := levK_first hl
      have hyA : y ∈ A := by rw [eA]; simp
      refine .inl ⟨hA y hyA, ?_, ?_⟩
      · rcases hX with ⟨e, _⟩ | ⟨e, X0, z, rfl, rfl⟩
        · exact .inl e
        · refine .inr ⟨e, ?_⟩
          rw [eA] at hs
          exact (List.pairwise_append.1 hs).2.2 z (by simp) y (by simp)
      · refine ⟨X ++ M1 ++ [y], M2, [], D, ⟨by rw [eA]; simp, .inr ⟨rfl, X ++ M1, y, rfl, rfl⟩, fun z hz => hM z (by simp [hz]), ?_⟩, by rw [k4]; exact e2, by simp, hD⟩
        have := stpL_hit (h := h) (l1 := hs_ M1) (l2 := hs_ M2) (y := hgt y.1) (fun z hz => by obtain ⟨x, hx, rfl⟩ := List.mem_map.1 hz; exact k3 x hx) k2 (fun z hz => by
          obtain ⟨x, hx, rfl⟩ := List.mem_map.1 hz
          have := hM x (by simp [hx])
          show hgt x.1 ≤ hgt y.1
          omega)
        have e3 : hs_ (M1 ++ y :: M2) = hs_ M1 ++ hgt y.1 :: hs_ M2 := by simp [hs_]
        rw [e3, this] at hc
        omega
theorem Sti.done (hst : Sti a A h cnt last any []) : LsE A h cnt last any := by
  obtain ⟨X, M, P, D, ⟨eA, hX, hM, hc⟩, eR, hP, hD⟩ := hst
  have e := (List.append_eq_nil_iff.1 eR.symm).2
  exact ⟨X, M, eA, hX, levK_nil (List.append_eq_nil_iff.1 e).1, hc⟩
theorem LsE.sti {L C : List It} (hl : LsE A (h + 1) cnt last any) (hL : L = A ++ C) (hs : L.Pairwise (fun x y => x.1 < y.1)) (hC : ∀ x ∈ C, a < x.1) : Sti a A h cnt last any (levK h L) := by
  obtain ⟨X, M, hx⟩ := hl
  refine ⟨X, M, levK h X, levK h C, hx, by rw [hL, hx.1, levK_append, levK_append, List.append_assoc], fun p hp => ?_, fun d hd => ?_⟩
  · obtain ⟨x, hxx, rfl⟩ := List.mem_map.1 hp
    have hxm := (List.mem_filter.1 hxx).1
    rcases hx.2.1 with ⟨_, e⟩ | ⟨e, X0, z, rfl, rfl⟩
    · rw [e] at hxm; cases hxm
    · refine ⟨?_, e⟩
      rcases List.mem_append.1 hxm with h1 | h1
      · rw [hL, hx.1] at hs
        have h2 := (List.pairwise_append.1 (List.pairwise_append.1 (List.pairwise_append.1 hs).1).1).2.2 x h1 z (by simp)
        exact Int.le_of_lt h2
      · rw [List.mem_singleton.1 h1]; exact Int.le_refl _
  · obtain ⟨x, hxx, rfl⟩ := List.mem_map.1 hd
    exact hC x (List.mem_filter.1 hxx).1
theorem LsE.zero (hl : LsE A 0 cnt last any) : cnt = stpL (hs_ A) := by
  obtain ⟨X, M, e, _, hM, hc⟩ := hl
  have : M = [] := by
    cases M with
    | nil => rfl
    | cons y M => have h1 := hM y (by simp); have h2 := hgt_bounds y.1; omega
  subst this
  exact hc
theorem LsE.start (A : List It) : LsE A 10 0 0 false := ⟨[], A, rfl, .inl ⟨rfl, rfl⟩, fun y _ => (hgt_bounds _).2, Nat.zero_add _⟩
theorem LsE.cnt_le (hl : LsE A h cnt last any) : cnt ≤ A.length := by
  obtain ⟨X, M, e, _, hM, hc⟩ := hl
  have := stpL_le (hs_ A)
  unfold hs_ at this
  rw [List.length_map] at this
  have h3 : stpL (hs_ A) ≤ A.length := this
  omega
theorem Sti.cnt_le {R : List Int} (hst : Sti a A h cnt last any R) : cnt ≤ A.length := by
  obtain ⟨X, M, P, D, hl, _⟩ := hst
  exact LsE.cnt_le ⟨X, M, hl⟩
end

set_option maxRecDepth 100000 in
set_option maxHeartbeats 2000000 in
theorem rsteps_calls (u : Value) (L : List It) (a : Int) (w : World) (hu : Ones w u L) (hl : L.length ≤ 1000) (hs : L.Pairwise (fun x y => x.1 < y.1)) (hn : ∀ x ∈ L, x.1 ≤ 9223372036854775807) :
    Calls Tryd.prog 23 #[u, .int .i64 a] w fun en w' => en = .returned (.int .i64 (stpL ((L.filter (fun x => decide (x.1 ≤ a))).map (fun x => hgt x.1)))) ∧ Below w.heap.size w w' := by
  have H := Lib.hid hu
  have HNUM := Lib.hid hn
  have HS := Lib.hid hs
  obtain ⟨A, hA⟩ : ∃ A, A = L.filter (fun x => decide (x.1 ≤ a)) := ⟨_, rfl⟩
  have HA : Hid ((∃ C, L = A ++ C ∧ ∀ x ∈ C, a < x.1) ∧ A.Pairwise (fun x y => x.1 < y.1) ∧ (∀ x ∈ A, x.1 ≤ a) ∧ A.length ≤ 1000) := by
    refine Lib.hid ⟨⟨L.filter (fun x => !decide (x.1 ≤ a)), ?_, fun x hx => ?_⟩, by rw [hA]; exact hs.sublist List.filter_sublist, fun x hx => by rw [hA] at hx; exact of_decide_eq_true (List.mem_filter.1 hx).2, by rw [hA]; exact Nat.le_trans (List.length_filter_le _ _) hl⟩
    · rw [hA]
      clear hA hu hl hn H HNUM HS
      induction L with
      | nil => rfl
      | cons x L ih =>
        obtain ⟨h1, h2⟩ := List.pairwise_cons.1 hs
        by_cases hx : x.1 ≤ a
        · rw [List.filter_cons, if_pos (decide_eq_true hx), List.filter_cons, if_neg (by simp [hx]), List.cons_append, ← ih h2]
        · have e1 : L.filter (fun x => decide (x.1 ≤ a)) = [] := List.filter_eq_nil_iff.2 (fun y hy => by have := h1 y hy; simp; omega)
          have e2 : L.filter (fun x => !decide (x.1 ≤ a)) = L := List.filter_eq_self.2 (fun y hy => by have := h1 y hy; simp; omega)
          rw [List.filter_cons, if_neg (by simpa using hx), e1, List.filter_cons, if_pos (by simpa using hx), e2]
          rfl
    · have := (List.mem_filter.1 hx).2
      simp at this
      omega
  rw [← hA]
  show Calls _ _ _ _ fun en w' => en = .returned (.int .i64 (stpL (hs_ A))) ∧ Below w.heap.size w w'
  obtain ⟨S, hS⟩ : ∃ S, S = stpL (hs_ A) := ⟨_, rfl⟩
  rw [← hS]
  have HSS := Lib.hid hS
  clear hu hn hs hA hS
  go_enter Tryd.func23, Tryd.ntmps23
  go_wp2_with fail
  go_loopw [5, 6, 7, 8] (fun x z b i wr => ∃ (j cnt : Nat) (last : Int) (any : Bool), i = .int .i64 j ∧ x = .int .i64 cnt ∧ z = .int .i64 last ∧ b = .bool any ∧ j ≤ 10 ∧ Hid (LsE A (10 - j) cnt last any) ∧ Hid (Below w.heap.size w wr)) (fun _ _ _ i _ => 10 - (intOf i).toNat)
  case atStart => exact ⟨0, 0, 0, false, rfl, rfl, rfl, rfl, Nat.zero_le _, Lib.hid (LsE.start A), Lib.hid (Below.refl _ _)⟩
  case round =>
    obtain ⟨j, cnt, last, any, rfl, rfl, rfl, rfl, hj, HL, HB⟩ := hrel
    have hj0 : (0 : Int) ≤ (j : Int) := by omega
    have hcb : (cnt : Int) ≤ 1000 := by have := HL.out.cnt_le; have := HA.out.2.2.2; omega
    have hc0 : (0 : Int) ≤ (cnt : Int) := by omega
    by_cases hlt : j < 10
    · have h1 : (j : Int) < 10 := by omega
      obtain ⟨h, hh⟩ : ∃ h : Nat, h + 1 + j = 10 := ⟨9 - j, by omega⟩
      have hh2 : (9 : Int) - (j : Int) = (h : Int) := by omega
      have hL2 : Hid (LsE A (h + 1) cnt last any) := Lib.hid (by have := HL.out; rw [show 10 - j = h + 1 by omega] at this; exact this)
      have hh0 : (0 : Int) ≤ (h : Int) := by omega
      have hh9 : (h : Int) ≤ 9 := by omega
      have HH := Lib.hid hh
      clear HL hh
      go_wp2_with fail
      refine (rlevel_calls u L h wr (H.out.below (HB.out.mono (Nat.le_refl _))) hl HNUM.out (by omega)).mono ?_
      rw [levI_nat]
      rintro en w2 ⟨v, rfl, i2, _, b2⟩
      have B2 : Hid (Below w.heap.size w w2) := Lib.hid (HB.out.trans (b2.mono HB.out.size))
      have hlen : (levK h L).length ≤ 1000 := by unfold levK; rw [List.length_map]; exact Nat.le_trans (List.length_filter_le _ _) hl
      obtain ⟨K, hK⟩ : ∃ K, K = levK h L := ⟨_, rfl⟩
      rw [← hK] at i2 hlen
      obtain ⟨ad, c, rfl⟩ := i2.slice
      have I2 := Lib.hid i2
      have S2 : Hid (Sti a A h cnt last any (K.drop 0)) := Lib.hid (by
        obtain ⟨⟨C, e1, e2⟩, _⟩ := HA.out
        rw [List.drop_zero, hK]
        exact hL2.out.sti e1 HS.out e2)
      have hlk : (K.length : Int) ≤ 1000 := by omega
      clear i2 b2 hK HB hL2 hlen
      go_wp2_with fail
      go_loopw [5, 6, 7, 20] (fun x z b i wv => ∃ (m cnt : Nat) (last : Int) (any : Bool), i = .int .i64 m ∧ x = .int .i64 cnt ∧ z = .int .i64 last ∧ b = .bool any ∧ m ≤ K.length ∧ wv = w2 ∧ Hid (Sti a A h cnt last any (K.drop m))) (fun _ _ _ i _ => K.length - (intOf i).toNat)
      case atStart => exact ⟨0, cnt, last, any, rfl, rfl, rfl, rfl, Nat.zero_le _, rfl, S2⟩
      case round =>
        clear S2 hcb hc0
        obtain ⟨m, cnt, last, any, rfl, rfl, rfl, rfl, hm, rfl, HST⟩ := hrel
        have hcb : (cnt : Int) ≤ 1000 := by have := HST.out.cnt_le; have := HA.out.2.2.2; omega
        have hc0 : (0 : Int) ≤ (cnt : Int) := by omega
        have hm0 : (0 : Int) ≤ (m : Int) := by omega
        by_cases hmk : m < K.length
        · have g1 : (m : Int) < (K.length : Int) := by omega
          obtain ⟨y, hy⟩ : ∃ y, K[m]? = some y := ⟨K[m], List.getElem?_eq_getElem hmk⟩
          obtain ⟨g, c', ev, _, _, k1⟩ := I2.out.cell m hmk
          injection ev with ev1 ev2 ev3
          subst ev1
          have c0 := k1 m y hy
          have hd : K.drop m = y :: K.drop (m + 1) := by
            rw [List.drop_eq_getElem_cons hmk]
            congr 1
            have := List.getElem?_eq_getElem hmk
            rw [hy] at this
            injection this with this
            exact this.symm
          have hst := HST.out
          rw [hd] at hst
          have hstep := hst.step HA.out.2.1 HA.out.2.2.1
          have HMK := Lib.hid hmk
          clear ev2 ev3 k1 hy hd hst HST hmk
          rcases hstep with ⟨q1, q2, hq⟩ | ⟨q1, hq⟩ | ⟨q1, rfl, q2, hq⟩
          · rcases q2 with rfl | ⟨rfl, q2⟩
            all_goals
              have HQ := Lib.hid hq
              clear hq
              go_wp2_with fail
              refine ⟨⟨m + 1, cnt + 1, y, true, by rw [Int.natCast_add]; rfl, by rw [Int.natCast_add]; rfl, rfl, rfl, by have := HMK.out; omega, trivial, HQ⟩, ?_⟩
              show K.length - ((m : Int) + 1).toNat < K.length - ((m : Int)).toNat
              have := HMK.out
              omega
          · have HQ := Lib.hid hq
            clear hq
            go_wp2_with fail
            refine ⟨⟨m + 1, cnt, last, any, by rw [Int.natCast_add]; rfl, rfl, rfl, rfl, by have := HMK.out; omega, trivial, HQ⟩, ?_⟩
            show K.length - ((m : Int) + 1).toNat < K.length - ((m : Int)).toNat
            have := HMK.out
            omega
          · have HQ := Lib.hid hq
            clear hq
            go_wp2_with fail
            refine ⟨⟨m + 1, cnt, last, true, by rw [Int.natCast_add]; rfl, rfl, rfl, rfl, by have := HMK.out; omega, trivial, HQ⟩, ?_⟩
            show K.length - ((m : Int) + 1).toNat < K.length - ((m : Int)).toNat
            have := HMK.out
            omega
        · obtain rfl : m = K.length := by omega
          have g1 : ¬ (K.length : Int) < (K.length : Int) := by omega
          have HD : Hid (LsE A h cnt last any) := Lib.hid (Sti.done (by have := HST.out; rw [List.drop_length] at this; exact this))
          clear HST hmk
          go_wp2_with fail
          refine ⟨⟨j + 1, cnt, last, any, by rw [Int.natCast_add]; rfl, rfl, rfl, rfl, by omega, Lib.hid (by rw [show 10 - (j + 1) = h by have := HH.out; omega]; exact HD.out), B2⟩, ?_⟩
          show 10 - ((j : Int) + 1).toNat < 10 - ((j : Int)).toNat
          omega
    · obtain rfl : j = 10 := by omega
      have he : cnt = S := by rw [HSS.out]; exact LsE.zero (by have := HL.out; exact this)
      have HE := Lib.hid he
      clear hlt he
      go_wp2_with fail
      go_ret
      exact ⟨by rw [HE.out]; rfl, HB.out⟩
end Go.Proofs.YtbimdcjbpbpljaaDoor.tow
