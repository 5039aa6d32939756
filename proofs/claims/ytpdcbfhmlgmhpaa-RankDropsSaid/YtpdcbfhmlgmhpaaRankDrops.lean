/- RankDrops: for every list of ticks, every list of owners and every owner the law answers true, and its arguments read afterwards as they did. Conditions: none. -/
import Derived.Test.YtpdcbfhmlgmhpaaRankM
import Derived.Test.YtpdcbfhmlgmhpaaRankK
import Derived.Test.YtpdcbfhmlgmhpaaInts
import Derived.ProofKit
import Derived.OpenShut
import Derived.ChangeOld
namespace Go.Proofs.Ytpdcbfhmlgmhpaa.rankDrops
open Go.ChangeShapes Go.WideShapes Go.ChangeAt Go.RowKit

/-- A thing but for its number. -/
def tw (x : Th) : Int × Int := (x.1, x.2.1)

theorem ins_lt {x y : Th} (h : y.2.2 < x.2.2) : lt x y ↔ x.1 < y.1 := by unfold lt; omega

theorem ins_map {x x' : Th} (hx : tw x = tw x') : ∀ (L L' : List Th), L.map tw = L'.map tw → (∀ y ∈ L, y.2.2 < x.2.2) → (∀ y ∈ L', y.2.2 < x'.2.2) → (ins x L).map tw = (ins x' L').map tw
  | [], [], _, _, _ => by simp [ins, hx]
  | [], _ :: _, h, _, _ => by simp at h
  | _ :: _, [], h, _, _ => by simp at h
  | y :: t, y' :: t', h, h1, h2 => by
    rw [List.map_cons, List.map_cons, List.cons.injEq] at h
    obtain ⟨he, ht⟩ := h
    have e1 : x.1 = x'.1 := by have h : (tw x).1 = (tw x').1 := by rw [hx]
                               exact h
    have e2 : y.1 = y'.1 := by have h : (tw y).1 = (tw y').1 := by rw [he]
                               exact h
    have k1 := ins_lt (h1 y (by simp))
    have k2 := ins_lt (h2 y' (by simp))
    unfold ins
    by_cases hc : x.1 < y.1
    · rw [if_pos (k1.2 hc), if_pos (k2.2 (by omega))]
      simp [hx, he, ht]
    · rw [if_neg (fun k => hc (k1.1 k)), if_neg (fun k => hc (by have := k2.1 k; omega)), List.map_cons, List.map_cons, he]
      rw [ins_map hx t t' ht (fun z hz => h1 z (by simp [hz])) (fun z hz => h2 z (by simp [hz]))]

theorem keep_ins {who : Int} {x : Th} : ∀ (S : List Th), S.Pairwise lt → (∀ y ∈ S, y.2.2 < x.2.2) → keep who (ins x S) = if x.2.1 = who then keep who S else ins x (keep who S)
  | [], _, _ => by
    by_cases h : x.2.1 = who
    · rw [if_pos h]; simp [ins, keep, h]
    · rw [if_neg h]; simp [ins, keep, h]
  | y :: t, hs, hn => by
    obtain ⟨s1, s2⟩ := List.pairwise_cons.1 hs
    have ih := keep_ins (who := who) t s2 (fun z hz => hn z (by simp [hz]))
    have hk : ∀ z ∈ keep who (y :: t), y.1 ≤ z.1 := fun z hz => by
      rcases List.mem_cons.1 (List.mem_filter.1 hz).1 with rfl | hz
      · omega
      · have := s1 z hz; unfold lt at this; omega
    have hkn : ∀ z ∈ keep who (y :: t), z.2.2 < x.2.2 := fun z hz => hn z (List.mem_filter.1 hz).1
    have hcons : ∀ (z : Th) (l : List Th), keep who (z :: l) = if z.2.1 = who then keep who l else z :: keep who l := fun z l => by
      by_cases h : z.2.1 = who <;> simp [keep, h]
    by_cases hc : lt x y
    · have e : ins x (y :: t) = x :: y :: t := if_pos hc
      rw [e, hcons]
      by_cases h : x.2.1 = who
      · rw [if_pos h, if_pos h]
      · rw [if_neg h, if_neg h]
        have hxy : x.1 < y.1 := (ins_lt (hn y (by simp))).1 hc
        cases hl : keep who (y :: t) with
        | nil => rfl
        | cons z l =>
          have hz : lt x z := (ins_lt (hkn z (by rw [hl]; simp))).2 (by have := hk z (by rw [hl]; simp); omega)
          exact (if_pos hz).symm
    · have e : ins x (y :: t) = y :: ins x t := if_neg hc
      rw [e, hcons, ih, hcons]
      by_cases h : x.2.1 = who
      · simp only [if_pos h]
      · simp only [if_neg h]
        by_cases hy : y.2.1 = who
        · simp only [if_pos hy]
        · simp only [if_neg hy]
          exact (if_neg hc).symm

theorem keep_keep (who : Int) (S : List Th) : keep who (keep who S) = keep who S := keep_all (fun x hx => by simpa using (List.mem_filter.1 hx).2)

theorem firstOf_tw {A B : List Th} (h : A.map tw = B.map tw) : firstOf A = firstOf B := by
  cases A with
  | nil => cases B with
    | nil => rfl
    | cons y t => simp at h
  | cons x s => cases B with
    | nil => simp at h
    | cons y t =>
      rw [List.map_cons, List.map_cons, List.cons.injEq] at h
      have e1 : x.1 = y.1 := by have k : (tw x).1 = (tw y).1 := by rw [h.1]
                                exact k
      have e2 : x.2.1 = y.2.1 := by have k : (tw x).2 = (tw y).2 := by rw [h.1]
                                    exact k
      show Value.tuple _ = Value.tuple _
      rw [e1, e2]

/-- Two queues that share nothing. -/
structure Two (w : World) (q p : Nat) (r t : Option Nat) (S P : List Th) (n m : Int) (wr : World) : Prop where
  qs : Qs wr q r S n
  ps : Qs wr p t P m
  rq : ∀ j, r = some j → w.heap.size ≤ j ∧ j ≠ p ∧ t ≠ some j
  rp : ∀ j, t = some j → w.heap.size ≤ j ∧ j ≠ q
  qp : q ≠ p
  hq : w.heap.size ≤ q
  hp : w.heap.size ≤ p
  ltq : q < wr.heap.size
  ltp : p < wr.heap.size
  turn : Turn (fun j => w.heap.size ≤ j) w wr

section
variable {w wr w' : World} {q p : Nat} {r t : Option Nat} {S P S' P' : List Th} {n m n' m' : Int}
theorem Two.sw (h : Two w q p r t S P n m wr) : Two w p q t r P S m n wr :=
  ⟨h.ps, h.qs, fun j e => ⟨(h.rp j e).1, (h.rp j e).2, fun k => (h.rq j k).2.2 e⟩, fun j e => ⟨(h.rq j e).1, (h.rq j e).2.1⟩, h.qp.symm, h.hp, h.hq, h.ltp, h.ltq, h.turn⟩

theorem Two.one (h : Two w q p r t S P n m wr) (e : Qs w' q r S' n') (k : Turn (fun j => j = q ∨ r = some j) wr w') : Two w q p r t S' P n' m w' :=
  ⟨e, h.ps.turn k (fun e => by
    rcases e with e | e
    · exact h.qp e.symm
    · exact (h.rq p e).2.1 rfl) (fun j ej e => by
    rcases e with e | e
    · exact (h.rp j ej).2 e
    · exact (h.rq j e).2.2 ej), h.rq, h.rp, h.qp, h.hq, h.hp, Nat.lt_of_lt_of_le h.ltq k.size, Nat.lt_of_lt_of_le h.ltp k.size, h.turn.trans k (fun j _ e => by
    rcases e with e | e
    · rw [e]; exact h.hq
    · exact (h.rq j e).1)⟩

theorem Two.added (h : Two w q p r t S P n m wr) {g : Nat} (e : Qs w' q (some g) S' n') (a : r = some g ∨ wr.heap.size ≤ g) (k : Turn (fun j => j = q ∨ r = some j) wr w') : Two w q p (some g) t S' P n' m w' := by
  have hg : w.heap.size ≤ g ∧ g ≠ p ∧ t ≠ some g := by
    rcases a with a | a
    · exact h.rq g a
    · refine ⟨Nat.le_trans h.turn.size a, fun e => by have := h.ltp; omega, fun e => by have := h.ps.row g e; omega⟩
  exact ⟨e, h.ps.turn k (fun e => by
    rcases e with e | e
    · exact h.qp e.symm
    · exact (h.rq p e).2.1 rfl) (fun j ej e => by
    rcases e with e | e
    · exact (h.rp j ej).2 e
    · exact (h.rq j e).2.2 ej), fun j e => by injection e with e; subst e; exact hg, h.rp, h.qp, h.hq, h.hp, Nat.lt_of_lt_of_le h.ltq k.size, Nat.lt_of_lt_of_le h.ltp k.size, h.turn.trans k (fun j _ e => by
    rcases e with e | e
    · rw [e]; exact h.hq
    · exact (h.rq j e).1)⟩
end

theorem arg_cell {w wr : World} {a : Option Addr} {len cap : Nat} {T : Nat → Int} (h : ArgI w a len cap T) (t : Turn (fun j => w.heap.size ≤ j) w wr) (i : Nat) (hi : i < len) : ∃ b o, a = some ⟨b, o, none⟩ ∧ wr.cell? ⟨b, o + i, none⟩ = some (.int .i64 (T i)) := by
  obtain ⟨b, o, e, hb, hc, _⟩ := h.2.2 i hi
  have h2 : wr.cell? ⟨b, o + i, none⟩ = w.cell? ⟨b, o + i, none⟩ := Turn.cell t hb (fun h3 => Nat.not_lt_of_le h3 hb)
  exact ⟨b, o, e, by rw [h2]; exact hc⟩

theorem again {a : Option Addr} {b o b' o' : Nat} (h : a = some ⟨b, o, none⟩) (h' : a = some ⟨b', o', none⟩) : b = b' ∧ o = o' := by
  rw [h] at h'
  injection h' with h'
  injection h' with h1 h2 _
  exact ⟨h1, h2⟩

theorem Two.drew {w wr : World} {q p : Nat} {r t : Option Nat} {S P : List Th} {n m : Int} (h : Two w q p r t S P n m wr) : Two w q p r t S P n m wr.drew :=
  h.one (h.qs.turn ((Turn.refl (fun _ => False) wr).drew) (fun e => e) (fun _ _ e => e)) ((Turn.refl _ wr).drew)

/-- How q's and p's things hang together: c of the k that came are gone's; p has the others. -/
structure Tie (gone : Int) (S P : List Th) (k c : Nat) : Prop where
  len : S.length = k
  sum : c + (keep gone S).length = k
  same : P.map tw = (keep gone S).map tw

theorem Tie.plen {gone : Int} {S P : List Th} {k c : Nat} (h : Tie gone S P k c) : P.length = (keep gone S).length := by
  have := congrArg List.length h.same
  simpa using this

theorem Tie.mine {gone : Int} {S P : List Th} {k c : Nat} (h : Tie gone S P k c) (x : Th) (hs : S.Pairwise lt) (hn : ∀ y ∈ S, y.2.2 < x.2.2) (hx : x.2.1 = gone) : Tie gone (ins x S) P (k + 1) (c + 1) := by
  have e := keep_ins (who := gone) (x := x) S hs hn
  rw [if_pos hx] at e
  exact ⟨by rw [(ins_perm x S).length_eq, List.length_cons, h.len], by rw [e]; have := h.sum; omega, by rw [e]; exact h.same⟩

theorem Tie.other {gone : Int} {S P : List Th} {k c : Nat} (h : Tie gone S P k c) (x x' : Th) (hs : S.Pairwise lt) (hn : ∀ y ∈ S, y.2.2 < x.2.2) (hn' : ∀ y ∈ P, y.2.2 < x'.2.2) (hx : ¬ x.2.1 = gone) (ht : tw x = tw x') : Tie gone (ins x S) (ins x' P) (k + 1) c := by
  have e := keep_ins (who := gone) (x := x) S hs hn
  rw [if_neg hx] at e
  refine ⟨by rw [(ins_perm x S).length_eq, List.length_cons, h.len], ?_, ?_⟩
  · rw [e, (ins_perm x _).length_eq, List.length_cons]; have := h.sum; omega
  · rw [e]
    exact (ins_map ht (keep gone S) P h.same.symm (fun y hy => hn y (List.mem_filter.1 hy).1) hn').symm

set_option maxRecDepth 100000 in
set_option maxHeartbeats 2000000 in
theorem drops_any (a : Option Addr) (len cap : Nat) (T : Nat → Int) (a' : Option Addr) (len' cap' : Nat) (U : Nat → Int) (gone : Int) (w : World) (hA : ArgI w a len cap T) (hB : ArgI w a' len' cap' U) :
    Calls Try.prog 12 #[.slice a len cap, .slice a' len' cap', .int .i64 gone] w fun en w' => en = .returned (.bool true) ∧ Below w.heap.size w w' := by
  have hlen : len ≤ 9223372036854775807 := by have := hA.1; have := hA.2.1; unfold maxLen at this; omega
  have hlen' : len' ≤ 9223372036854775807 := by have := hB.1; have := hB.2.1; unfold maxLen at this; omega
  have HA := Lib.hid hA
  have HB := Lib.hid hB
  clear hA hB
  obtain ⟨N, eN⟩ : ∃ N, N = min (min len len') 60 := ⟨_, rfl⟩
  have hN1 : N ≤ len := by omega
  have hN2 : N ≤ len' := by omega
  have hN3 : N ≤ 60 := by omega
  obtain ⟨m0, hm0⟩ : ∃ m0 : Int, (if len' < len then (len' : Int) else (len : Int)) = m0 := ⟨_, rfl⟩
  have hmin : (if (60 : Int) < m0 then (60 : Int) else m0) = (N : Int) := by
    rw [← hm0]
    split <;> split at * <;> omega
  clear eN
  go_enter Try.func12, Try.ntmps12
  go_wp2_with fail
  refine (awake_any w).mono ?_
  rintro en w1 ⟨rfl, b1⟩
  have T1 : Hid (Turn (fun j => w.heap.size ≤ j) w w1) := Turn.of_below b1 (fun _ _ e => e)
  clear b1
  go_wp2_with fail
  refine (qs_new w1).mono ?_
  rintro en w2 ⟨rfl, q2, g2⟩
  obtain ⟨q, eq⟩ : ∃ q, q = w1.heap.size := ⟨_, rfl⟩
  rw [← eq] at q2 ⊢
  have hq : w.heap.size ≤ q := by rw [eq]; exact T1.out.size
  have Q2 := Lib.hid q2
  have T2 : Hid (Turn (fun j => w.heap.size ≤ j) w w2) := T1.out.grown g2 (fun j e _ => by cases e)
  have hqlt : q < w2.heap.size := by
    obtain ⟨l, h1, _⟩ := q2.heap
    exact h1.cell1.2.2
  clear q2 g2 T1 eq
  go_wp2_with fail
  refine (qs_new w2).mono ?_
  rintro en w3 ⟨rfl, p3, g3⟩
  obtain ⟨p, ep⟩ : ∃ p, p = w2.heap.size := ⟨_, rfl⟩
  rw [← ep] at p3 ⊢
  have hqp : q < p := by rw [ep]; exact hqlt
  have hplt : p < w3.heap.size := by
    obtain ⟨l, h1, _⟩ := p3.heap
    exact h1.cell1.2.2
  have HW : Hid (Two w q p none none [] [] 0 0 w3) := by
    refine Lib.hid ⟨Q2.out.turn ((Turn.refl (fun _ => False) w2).grown g3 (fun j e _ => by cases e)) (fun e => e) (fun _ _ e => e), p3, by simp, by simp, by omega, hq, by omega, by omega, hplt, T2.out.grown g3 (fun j e _ => by cases e)⟩
  clear p3 g3 T2 Q2 ep hqlt hplt
  go_wp2_with fail
  clear hm0 hmin
  go_loopw [10, 11] (fun c i wr => ∃ (k c' : Nat) (r t : Option Nat) (S P : List Th), i = .int .i64 k ∧ c = .int .i64 c' ∧ k ≤ N ∧ c' ≤ k ∧ Hid (Tie gone S P k c') ∧ Hid (Two w q p r t S P k P.length wr)) (fun _ i _ => N - (intOf i).toNat)
  case atStart => exact ⟨0, 0, none, none, [], [], rfl, rfl, Nat.zero_le _, Nat.le_refl _, Lib.hid ⟨rfl, rfl, rfl⟩, HW⟩
  case round =>
    obtain ⟨k, c, r, t, S, P, rfl, rfl, hk, hck, HT, HD⟩ := hrel
    clear HW
    by_cases hkl : k < N
    · obtain ⟨b, o, rfl, c0⟩ := arg_cell HA.out HD.out.turn k (by omega)
      obtain ⟨b', o', rfl, c1⟩ := arg_cell HB.out HD.out.turn k (by omega)
      have h1 : (k : Int) < (N : Int) := by omega
      have h2 : (k : Int) < (len : Int) := by omega
      have h2' : (k : Int) < (len' : Int) := by omega
      have h3 : (0 : Int) ≤ (k : Int) := by omega
      have h4 : (k : Int) < 60 := by omega
      have h5 : (c : Int) ≤ 60 := by omega
      have h6 : (0 : Int) ≤ (c : Int) := by omega
      have hSl : S.length < 1000000 := by rw [HT.out.len]; omega
      have HC := Lib.hid (qs_add q r S k (T k) (U k) _ HD.out.drew.qs hSl (by omega) (by omega))
      go_wp2_with fail
      go_region_law (refine step_call rfl 41 Try.f41 Try.func41 (by kernel_rfl) (by kernel_rfl) _ _ rfl #[.pointer (some ⟨q, 0, none⟩), .int .i64 (T k), .int .i64 (U k)] (by simp [Act.eval]) (by exact HC.out) ?_
                     rintro en w4 ⟨rfl, g, q4, a4, t4⟩
                     have D4 := Lib.hid (HD.out.drew.added q4 a4 t4)
                     clear q4 a4 t4 c0 c1 HC
                     refine ⟨_, rfl, ?_⟩)
      all_goals
        obtain ⟨b2, o2, e2, c0⟩ := arg_cell HA.out D4.out.turn k (by omega)
        obtain ⟨b3, o3, e3, c1⟩ := arg_cell HB.out D4.out.turn k (by omega)
        obtain ⟨rfl, rfl⟩ := again rfl e2
        obtain ⟨rfl, rfl⟩ := again rfl e3
        clear e2 e3
        have hsor := Lib.hid HD.out.qs.sorted
        have hnum : Hid (∀ y ∈ S, y.2.2 < (k : Int)) := Lib.hid HD.out.qs.nums
        have hpn : Hid (∀ y ∈ P, y.2.2 < (P.length : Int)) := Lib.hid HD.out.ps.nums
        clear HD
        by_cases hg : U k = gone
        · have T4 := Lib.hid (HT.out.mine (T k, U k, (k : Int)) hsor.out hnum.out hg)
          clear HT
          go_wp2_with fail
          refine ⟨⟨k + 1, c + 1, some g, t, _, P, by rw [Int.natCast_add]; rfl, by rw [Int.natCast_add]; rfl, by omega, by omega, T4, by rw [Int.natCast_add]; exact D4⟩, ?_⟩
          show N - ((k : Int) + 1).toNat < N - ((k : Int)).toNat
          omega
        · have T4 := Lib.hid (HT.out.other (T k, U k, (k : Int)) (T k, U k, (P.length : Int)) hsor.out hnum.out hpn.out hg rfl)
          have hPl : P.length ≤ 60 := by have h1 := HT.out.plen; have h2 := HT.out.sum; omega
          have hPl' : P.length < 1000000 := by omega
          have HC := Lib.hid (qs_add p t P P.length (T k) (U k) _ D4.out.drew.ps hPl' (by omega) (by omega))
          have hpl3 := Lib.hid ((ins_perm (T k, U k, (P.length : Int)) P).length_eq)
          clear HT
          go_wp2_with fail
          go_region_law (refine step_call rfl 41 Try.f41 Try.func41 (by kernel_rfl) (by kernel_rfl) _ _ rfl #[.pointer (some ⟨p, 0, none⟩), .int .i64 (T k), .int .i64 (U k)] (by simp [Act.eval]) (by exact HC.out) ?_
                         rintro en w5 ⟨rfl, g', q5, a5, t5⟩
                         have D5 := Lib.hid ((D4.out.drew.sw.added q5 a5 t5).sw)
                         clear q5 a5 t5 c0 c1 HC
                         refine ⟨_, rfl, ?_⟩)
          all_goals
            go_wp2_with fail
            refine ⟨⟨k + 1, c, some g, some g', _, _, by rw [Int.natCast_add]; rfl, rfl, by omega, by omega, T4, by rw [hpl3.out, List.length_cons, Int.natCast_add, Int.natCast_add]; exact D5⟩, ?_⟩
            show N - ((k : Int) + 1).toNat < N - ((k : Int)).toNat
            omega
    · obtain rfl : k = N := by omega
      have hx : ¬ (k : Int) < (k : Int) := by omega
      have e1 : (S.length : Int) - ((keep gone S).length : Int) = (c : Int) := by have h1 := HT.out.sum; have h2 := HT.out.len; omega
      have e2 : ((keep gone S).length : Int) - ((keep gone (keep gone S)).length : Int) = 0 := by rw [keep_keep]; omega
      have E1 := Lib.hid e1
      have E2 := Lib.hid e2
      have hpl := Lib.hid HT.out.plen
      have hsame := Lib.hid HT.out.same
      have hpS : (keep gone S).length ≤ k := by have := HT.out.sum; omega
      clear hkl e1 e2 HT
      go_wp2_with fail
      refine (qs_drop q r S gone k _ HD.out.qs).mono ?_
      rintro en w4 ⟨rfl, q4, t4⟩
      rw [E1.out]
      have D4 := Lib.hid (HD.out.one q4 t4)
      clear q4 t4 HD E1
      go_wp2_with fail
      refine (qs_drop q r (keep gone S) gone k w4 D4.out.qs).mono ?_
      rintro en w5 ⟨rfl, q5, t5⟩
      rw [E2.out]
      rw [keep_keep] at q5
      have D5 := Lib.hid (D4.out.one q5 t5)
      clear q5 t5 D4 E2
      generalize keep gone S = K at *
      go_wp2_with fail
      refine (qs_len q r K k w5 D5.out.qs).mono ?_
      rintro en w6 ⟨rfl, rfl⟩
      go_wp2_with fail
      have hl := qs_len p t P P.length w5 D5.out.ps
      rw [hpl.out] at hl
      refine hl.mono ?_
      rintro en w6 ⟨rfl, rfl⟩
      clear hl
      go_wp2_with fail
      go_loopw [79] (fun i wr => ∃ (j : Nat) (K P : List Th) (m : Int), i = .int .i64 j ∧ j ≤ k ∧ K.length ≤ k - j ∧ Hid (P.map tw = K.map tw) ∧ Hid (Two w q p r t K P k m wr)) (fun i _ => k - (intOf i).toNat)
      case atStart => exact ⟨0, K, P, _, rfl, Nat.zero_le _, hpS, hsame, D5⟩
      case round =>
        obtain ⟨j, K, P, m, rfl, hj, hKj, HS, HD⟩ := hrel
        clear D5 hsame hpl
        by_cases hjk : j < k
        · have h1 : (j : Int) < (k : Int) := by omega
          have HF := Lib.hid (firstOf_tw HS.out)
          obtain ⟨z1, z2, z3, hz⟩ : ∃ z1 z2 z3, firstOf K = .tuple #[.int .i64 z1, .int .i64 z2, .bool z3] := by
            cases K with
            | nil => exact ⟨_, _, _, rfl⟩
            | cons x s => exact ⟨_, _, _, rfl⟩
          have HZ := Lib.hid hz
          clear hz
          go_wp2_with fail
          refine (qs_take q r K k _ HD.out.qs).mono ?_
          rw [HZ.out]
          rintro en w6 ⟨rfl, q6, t6⟩
          have D6 := Lib.hid (HD.out.one q6 t6)
          clear q6 t6 HD
          go_wp2_with fail
          refine (qs_take p t P m w6 D6.out.ps).mono ?_
          rw [HF.out, HZ.out]
          rintro en w7 ⟨rfl, q7, t7⟩
          have D7 := Lib.hid ((D6.out.sw.one q7 t7).sw)
          have HS2 : Hid (P.tail.map tw = K.tail.map tw) := Lib.hid (by rw [List.map_tail, List.map_tail, HS.out])
          have hKt : K.tail.length ≤ k - (j + 1) := by rw [List.length_tail]; omega
          clear q7 t7 D6 HF HZ HS
          go_wp2_with fail
          refine ⟨⟨j + 1, K.tail, P.tail, m, by rw [Int.natCast_add]; rfl, by omega, hKt, HS2, D7⟩, ?_⟩
          show k - ((j : Int) + 1).toNat < k - ((j : Int)).toNat
          omega
        · obtain rfl : j = k := by omega
          have h1 : ¬ (j : Int) < (j : Int) := by omega
          go_wp2_with fail
          go_ret
          exact ⟨rfl, HD.out.turn.below (Nat.le_refl _) (fun j hj e => by omega)⟩

def Arg0 (w : World) (a : Option Addr) (len cap : Nat) : Prop := ∃ T, ArgI w a len cap T
def Arg1 (w : World) (a : Option Addr) (len cap : Nat) : Prop := ∃ T, ArgI w a len cap T

theorem walk (a0 : Option Addr) (len0 cap0 : Nat) (a1 : Option Addr) (len1 cap1 : Nat) (a2 : Int) (w : World) (w0 : Arg0 w a0 len0 cap0) (w1 : Arg1 w a1 len1 cap1) (_w2 : (Lit.int .i64 a2).wf = true) :
    Calls Try.prog 12 #[.slice a0 len0 cap0, .slice a1 len1 cap1, .int .i64 a2] w fun en w' => en = .returned (.bool true) ∧ Below w.heap.size w w' := by
  obtain ⟨T, hT⟩ := w0
  obtain ⟨U, hU⟩ := w1
  exact drops_any a0 len0 cap0 T a1 len1 cap1 U a2 w hT hU

theorem opened0 {H : Type} {enc : TypeId × Value → H} {w : World} {spare : Nat → Bool} {held : Bool} {a : Option Addr} {len cap : Nat} {d : DataW H} {p : List MemPlace} (h : DataW.Trod enc Try.prog w 0 spare held 80 (.slice a len cap) d p) : Arg0 w a len cap := openedI h
theorem opened1 {H : Type} {enc : TypeId × Value → H} {w : World} {spare : Nat → Bool} {held : Bool} {a : Option Addr} {len cap : Nat} {d : DataW H} {p : List MemPlace} (h : DataW.Trod enc Try.prog w 0 spare held 80 (.slice a len cap) d p) : Arg1 w a len cap := openedI h

theorem own : ownKnob Try.prog.godebug = none := by kernel_rfl
theorem laidOut : laidOutB Try.prog = true := by kernel_rfl

set_option maxRecDepth 100000 in
theorem lifted (os : Os) (started : os.Started) (H : Type) (enc : TypeId × Value → H) :
    ReturnsInHanded {} Try.checked os 12 .any (Rows.rankDropsSpec.pre6 enc Try.prog Try.f12 Rows.rankDropsRow.domain false) (Rows.rankDropsSpec.post enc Try.prog Try.f12 false true false false) := by
  refine returnsInHanded_of_change (C := Try.checked) own started (by kernel_rfl) Try.func12
    (ChangeSpec.witness6 (enc := enc) (C := Try.checked) false ⟨#[], #[.slice none 0 0, .slice none 0 0, .int .i64 0], []⟩ 8 (by kernel_rfl) (by kernel_rfl) (by kernel_rfl) (by kernel_rfl)) ?_
  intro W base args ds gs before hval0 hW _ _
  have hval : ∀ (j : Nat) t v, Try.f12.params[j]? = some t → args[j]? = some v → Value.okWide Try.prog W .any base t v := hval0
  have hW' := hW
  obtain ⟨p, q, hA0, hV, rfl, _, _⟩ := hW
  have hA : DataW.TrodAll enc Try.prog W 0 (fun _ => true) true Try.f12.params.toList args.toList ds p := hA0
  rw [Try.params12] at hA hval
  obtain ⟨v0, vs0, d0, ds0, p0, q0, hargs, rfl, rfl, h0, r0⟩ := trodAll_cons hA
  obtain ⟨v1, vs1, d1, ds1, p1, q1, rfl, rfl, rfl, h1, r1⟩ := trodAll_cons r0
  obtain ⟨v2, vs2, d2, ds2, p2, q2, rfl, rfl, rfl, h2, r2⟩ := trodAll_cons r1
  obtain ⟨rfl, rfl, rfl⟩ := trodAll_nil r2
  obtain rfl : args = #[v0, v1, v2] := by cases args; simp_all
  obtain ⟨rfl, rfl⟩ := trodVars_none hV
  obtain ⟨a0, len0, cap0, rfl⟩ := okWide_slice Try.underlying80 (hval 0 80 v0 rfl rfl)
  have k0 := h0
  have lt0 : ∀ x ∈ p0, x.block < W.heap.size := by obtain ⟨m, hm⟩ := k0; exact DataW.trod_lt m _ _ _ hm
  have w0 : Arg0 W a0 len0 cap0 := opened0 h0
  obtain ⟨a1, len1, cap1, rfl⟩ := okWide_slice Try.underlying80 (hval 1 80 v1 rfl rfl)
  have k1 := h1
  have lt1 : ∀ x ∈ p1, x.block < W.heap.size := by obtain ⟨m, hm⟩ := k1; exact DataW.trod_lt m _ _ _ hm
  have w1 : Arg1 W a1 len1 cap1 := opened1 h1
  obtain ⟨a2, rfl, rfl, rfl, w2⟩ := open_int Try.underlying3 (hval 2 3 v2 rfl rfl) h2
  clear hA0 hval0
  refine (walk a0 len0 cap0 a1 len1 cap1 a2 W w0 w1 w2).mono fun e W' ⟨he, bel⟩ => ?_
  subst he
  exact ⟨_, rfl, _, _, _, [], _, [], hW', trodAll_mk1 (shut_bool Try.underlying4 _), (trodAll_cons_mk (Below.trod laidOut (by kernel_rfl) (of_decide_eq_true (by kernel_rfl)) k0 bel lt0) (trodAll_cons_mk (Below.trod laidOut (by kernel_rfl) (of_decide_eq_true (by kernel_rfl)) k1 bel lt1) (trodAll_cons_mk (shut_int Try.underlying3 w2) trodAll_mk0))), rfl, bel.frame _, fun h => by cases h⟩

theorem over : Rows.rankDropsRow.holds Try.pinned (OpenSpec.ofChange Rows.rankDropsSpec) :=
  OpenClaim.holds_of_wide 12 Try.f12 rfl rfl rfl rfl rfl rfl rfl ⟨rfl, rfl, rfl, rfl, rfl⟩ rfl rfl rfl rfl rfl (by kernel_rfl) Try.func12 (by kernel_rfl)
    (of_decide_eq_true (by kernel_rfl)) (by unfold Func.isWrapper; first | (rw [if_pos (by decide +kernel)]; kernel_rfl) | (rw [if_neg (by decide +kernel)]; exact ⟨rfl, rfl⟩))
    (fun os started H enc _ => lifted os started H enc)

theorem proved : Rows.RankDropsSaid := over

end Go.Proofs.Ytpdcbfhmlgmhpaa.rankDrops
