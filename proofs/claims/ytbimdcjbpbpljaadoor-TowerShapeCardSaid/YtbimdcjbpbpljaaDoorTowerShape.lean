/- TowerShape: for every two lists of numbers the law answers true, and its arguments read afterwards as they did. Conditions: the row lists two package-level variables (both tables of math/bits), which the card ties to the program's text. -/
import Derived.Test.YtbimdcjbpbpljaaDoorTowL
import Derived.Test.YtbimdcjbpbpljaaDoorTowQ
import Derived.Test.YtbimdcjbpbpljaaDoorInts
import Derived.Test.YtbimdcjbpbpljaaDoorCards
import Derived.Test.YtbimdcjbpbpljaaDoorTie
import Derived.ProofKit
import Derived.OpenShut
import Derived.SevenTiedAt
import Derived.BigQuiet
namespace Go.Proofs.YtbimdcjbpbpljaaDoor.towerShape
open Go.ChangeShapes Go.WideShapes Go.ChangeAt Go.RowKit Go.Proofs.YtbimdcjbpbpljaaDoor.tow Go.Proofs.YtbimdcjbpbpljaaDoor.twi

def Arg0 (w : World) (a : Option Addr) (len cap : Nat) : Prop := ∃ T, ArgI w a len cap T
theorem opened0 {H : Type} {enc : TypeId × Value → H} {w : World} {spare : Nat → Bool} {held : Bool} {a : Option Addr} {len cap : Nat} {d : DataW H} {p : List MemPlace} (h : DataW.Trod enc Tryd.prog w 0 spare held 43 (.slice a len cap) d p) : Arg0 w a len cap := openedI h
def Arg1 (w : World) (a : Option Addr) (len cap : Nat) : Prop := ∃ T, ArgI w a len cap T
theorem opened1 {H : Type} {enc : TypeId × Value → H} {w : World} {spare : Nat → Bool} {held : Bool} {a : Option Addr} {len cap : Nat} {d : DataW H} {p : List MemPlace} (h : DataW.Trod enc Tryd.prog w 0 spare held 43 (.slice a len cap) d p) : Arg1 w a len cap := openedI h

def I (i : Nat) : Int := i

theorem hasc (a : Option Addr) (len cap m : Nat) (T : Nat → Int) (n : Int) (w : World) (hA : ArgI w a len cap T) (hm : m ≤ len) (cap' : Nat) (hc : m ≤ cap') :
    Calls Tryd.prog 28 #[.slice a m cap', .int .i64 n] w fun en w' => en = .returned (.bool (hasB T m n)) ∧ w = w' :=
  (has_calls a len cap m T n w hA hm cap' hc).mono fun en w' ⟨b, e, h, hw⟩ => ⟨by rw [e, Bool.eq_iff_iff.2 (h.trans (hasB_iff T m n).symm)], hw⟩

/-- The other list, when those from j on were put. -/
structure Inv (T : Nat → Int) (n l2 j : Nat) (lb : List (Int × Int)) : Prop where
  all : ∀ m, j ≤ m → m < n → ∃ e ∈ lb, e.1 = T m
  none : l2 = 0 → ∀ e ∈ lb, ∃ m, m < n ∧ e.1 = T m
  sorted : lb.Pairwise (fun x y => x.1 < y.1)
theorem Inv.put {T : Nat → Int} {n l2 j : Nat} {lb : List (Int × Int)} (h : Inv T n l2 (j + 1) lb) (hj : j < n) (v : Int) : Inv T n l2 j (insK (T j) v lb) := by
  refine ⟨fun m h1 h2 => ?_, fun h0 e he => ?_, insK_sorted _ _ h.sorted⟩
  · by_cases e : T m = T j
    · exact ⟨(T j, v), (mem_insK h.sorted _).2 (.inl rfl), e.symm⟩
    · obtain ⟨x, hx, ex⟩ := h.all m (by
        by_cases hm : m = j
        · rw [hm] at e; exact absurd rfl e
        · omega) h2
      exact ⟨x, (mem_insK h.sorted x).2 (.inr ⟨hx, by rw [ex]; exact e⟩), ex⟩
  · rcases (mem_insK h.sorted e).1 he with rfl | ⟨he, _⟩
    · exact ⟨j, hj, rfl⟩
    · exact h.none h0 e he
theorem Inv.other {T : Nat → Int} {n l2 j : Nat} {lb : List (Int × Int)} (h : Inv T n l2 j lb) (h0 : l2 ≠ 0) (x v : Int) : Inv T n l2 j (insK x v lb) := by
  refine ⟨fun m h1 h2 => ?_, fun e => absurd e h0, insK_sorted _ _ h.sorted⟩
  by_cases e : T m = x
  · exact ⟨(x, v), (mem_insK h.sorted _).2 (.inl rfl), e.symm⟩
  · obtain ⟨y, hy, ey⟩ := h.all m h1 h2
    exact ⟨y, (mem_insK h.sorted y).2 (.inr ⟨hy, by rw [ey]; exact e⟩), ey⟩
/-- The other list, when others go. -/
structure Inv3 (T : Nat → Int) (n l2 : Nat) (lb : List (Int × Int)) : Prop where
  all : ∀ m, m < n → ∃ e ∈ lb, e.1 = T m
  none : l2 = 0 → ∀ e ∈ lb, ∃ m, m < n ∧ e.1 = T m
  len : lb.length ≤ 80
  sorted : lb.Pairwise (fun x y => x.1 < y.1)
theorem Inv3.cut {T : Nat → Int} {n l2 : Nat} {lb : List (Int × Int)} (h : Inv3 T n l2 lb) (x : Int) (hx : ∀ m, m < n → T m ≠ x) : Inv3 T n l2 (cutK x (x + 1) lb) := by
  refine ⟨fun m hm => ?_, fun h0 e he => h.none h0 e ((mem_cutK e).1 he).1, Nat.le_trans (cutK_len _ _ _) h.len, cutK_sorted h.sorted⟩
  obtain ⟨e, he, e1⟩ := h.all m hm
  exact ⟨e, (mem_cutK e).2 ⟨he, by have := hx m hm; omega⟩, e1⟩
/-- What the lists' lengths tell. -/
theorem Inv3.done {T : Nat → Int} {n l2 : Nat} {lb : List (Int × Int)} (h : Inv3 T n l2 lb) : (putAll T I n).length ≤ lb.length ∧ ((putAll T I n).length < lb.length → 0 < l2) ∧ ((putAll T I n).length = lb.length → ∀ k, levK k (putAll T I n) = levK k lb) := by
  obtain ⟨h1, h2, h3, h4⟩ := putAll_sorted T I n
  have hsub : ((putAll T I n).map (·.1)).Sublist (lb.map (·.1)) := sub_sorted (keys_sorted h1) (keys_sorted h.sorted) fun x hx => by
    obtain ⟨e, he, rfl⟩ := List.mem_map.1 hx
    obtain ⟨i, hi, rfl⟩ := h3 e he
    obtain ⟨e2, he2, e3⟩ := h.all i hi
    exact List.mem_map.2 ⟨e2, he2, e3⟩
  have hlen := hsub.length_le
  rw [List.length_map, List.length_map] at hlen
  refine ⟨hlen, fun hlt => ?_, fun heq k => ?_⟩
  · rcases Nat.eq_zero_or_pos l2 with e | e
    · have hsub2 : (lb.map (·.1)).Sublist ((putAll T I n).map (·.1)) := sub_sorted (keys_sorted h.sorted) (keys_sorted h1) fun x hx => by
        obtain ⟨e1, he, rfl⟩ := List.mem_map.1 hx
        obtain ⟨i, hi, e2⟩ := h.none e e1 he
        obtain ⟨e3, he3, e4⟩ := h4 i hi
        exact List.mem_map.2 ⟨e3, he3, e4.trans e2.symm⟩
      have := hsub2.length_le
      rw [List.length_map, List.length_map] at this
      omega
    · exact e
  · have := hsub.eq_of_length (by rw [List.length_map, List.length_map]; exact heq)
    rw [levK_keys, levK_keys, this]

set_option maxRecDepth 100000 in
set_option maxHeartbeats 4000000 in
theorem walk (a : Option Addr) (len cap : Nat) (a2 : Option Addr) (l2 c2 : Nat) (w : World) (hA : Arg0 w a len cap) (hB : Arg1 w a2 l2 c2) (hZ : Tz w.heap.size w) :
    Calls Tryd.prog 4 #[.slice a len cap, .slice a2 l2 c2] w fun en w' => en = .returned (.bool true) ∧ Below w.heap.size w w' := by
  obtain ⟨T, hT⟩ := hA
  obtain ⟨U, hU⟩ := hB
  have HT := Lib.hid hT
  have HU := Lib.hid hU
  have HZ := Lib.hid hZ
  have hlen : (len : Int) ≤ 9223372036854775807 := by have := hT.1; have := hT.2.1; unfold maxLen at this; omega
  have hlen0 : (0 : Int) ≤ (len : Int) := by omega
  have hlen2 : (l2 : Int) ≤ 9223372036854775807 := by have := hU.1; have := hU.2.1; unfold maxLen at this; omega
  have hlen20 : (0 : Int) ≤ (l2 : Int) := by omega
  obtain ⟨n, hn⟩ : ∃ n, n = min len 40 := ⟨_, rfl⟩
  have hmin : (if (40 : Int) < (len : Int) then (40 : Int) else (len : Int)) = (n : Int) := by split <;> omega
  have hn40 : (n : Int) ≤ 40 := by omega
  have hn0 : (0 : Int) ≤ (n : Int) := by omega
  have hnl : (n : Int) ≤ (len : Int) := by omega
  have hnc : (n : Int) ≤ (cap : Int) := by have := hT.1; omega
  have HN := Lib.hid (show n ≤ len ∧ n ≤ 40 ∧ n ≤ cap by have := hT.1; omega)
  clear hZ hT hU hn
  go_enter Tryd.func4, Tryd.ntmps4
  go_wp2_with fail
  refine (awake_calls w HZ.out).mono ?_
  rintro en w1 ⟨rfl, b1⟩
  have B1 := Lib.hid b1
  clear b1
  go_wp2_with fail
  refine (twi.tw_new w1).mono ?_
  rintro en w2 ⟨x, rfl, hb, t2, b2⟩
  have O2 : Hid (Tw w2 x [] (fun k => w.heap.size ≤ k) ∧ Below w.heap.size w w2) := Lib.hid ⟨t2.more (fun k _ e => Nat.le_trans B1.out.size e), B1.out.trans (b2.mono B1.out.size)⟩
  clear hb t2 b2 B1
  go_wp2_with fail
  refine (twi.tw_new w2).mono ?_
  rintro en w3 ⟨y, rfl, hb, t3, b3⟩
  have O3 : Hid (Two w x (putAll T I 0) y [] w3) := Lib.hid (Two.of_new O2.out.2 O2.out.1 t3 b3)
  clear hb t3 b3 O2
  go_wp2_with fail
  clear hmin
  go_loopw [8] (fun i wr => ∃ k : Nat, i = .int .i64 k ∧ k ≤ n ∧ Hid (Two w x (putAll T I k) y [] wr)) (fun i _ => n - (intOf i).toNat)
  case atStart => exact ⟨0, rfl, Nat.zero_le _, O3⟩
  case round =>
    clear O3
    obtain ⟨k, rfl, hk, HO⟩ := hrel
    have hk0 : (0 : Int) ≤ (k : Int) := by omega
    by_cases hlt : k < n
    · have h1 : (k : Int) < (n : Int) := by omega
      obtain ⟨g, o, rfl, hg, c0, m0, m1⟩ := (HT.out.below HO.out.bel).2.2 k (by have := HN.out; omega)
      obtain ⟨z, hz⟩ : ∃ z, z = T k := ⟨_, rfl⟩
      rw [← hz] at c0 m0 m1
      have HY := Lib.hid hz
      have hkl : (k : Int) < (len : Int) := by omega
      clear hz hlt
      go_wp2_with fail
      refine (HO.out.put_a (HZ.out.below HO.out.bel (Nat.le_refl _)) z k (by have := (putAll_sorted T I k).2.1; omega) ⟨m0, m1⟩).mono ?_
      rintro en w4 ⟨was, rfl, _, t4⟩
      have O4 : Hid (Two w x (putAll T I (k + 1)) y [] w4) := Lib.hid (by rw [HY.out] at t4; exact t4)
      clear t4
      go_wp2_with fail
      refine ⟨⟨k + 1, by rw [Int.natCast_add]; rfl, by omega, O4⟩, ?_⟩
      show n - ((k : Int) + 1).toNat < n - ((k : Int)).toNat
      omega
    · obtain rfl : k = n := by omega
      have h1 : ¬ (k : Int) < (k : Int) := by omega
      obtain ⟨M, hM⟩ : ∃ M, M = putAll T I k := ⟨_, rfl⟩
      have HML : Hid (M = putAll T I k ∧ M.length ≤ 40) := Lib.hid ⟨hM, by rw [hM]; have := (putAll_sorted T I k).2.1; omega⟩
      rw [← hM] at HO
      clear hM hlt hk
      go_wp2_with fail
      clear h1
      go_loopw [9] (fun i wr => ∃ (j : Nat) (lb : List (Int × Int)), i = .int .i64 ((j : Int) - 1) ∧ j ≤ k ∧ Hid (Inv T k l2 j lb ∧ lb.length ≤ 2 * (k - j)) ∧ Hid (Two w x M y lb wr)) (fun i _ => (intOf i + 1).toNat)
      case atStart => exact ⟨k, [], rfl, Nat.le_refl _, Lib.hid ⟨⟨fun m h1 h2 => by omega, (by simp), List.Pairwise.nil⟩, by simp⟩, HO⟩
      case round =>
        clear HO
        obtain ⟨j, lb, rfl, hj, HI, HO⟩ := hrel
        cases j with
        | zero =>
          have e1 : ((0 : Nat) : Int) - 1 = -1 := rfl
          rw [e1]
          clear e1
          have I3 : Hid (Inv3 T k l2 lb) := Lib.hid ⟨fun m hm => HI.out.1.all m (Nat.zero_le _) hm, HI.out.1.none, by have := HI.out.2; omega, HI.out.1.sorted⟩
          clear HI
          go_wp2_with fail
          go_loopw [10] (fun i wv => ∃ (m : Nat) (lb : List (Int × Int)), i = .int .i64 m ∧ m ≤ k ∧ m ≤ l2 ∧ Hid (Inv3 T k l2 lb) ∧ Hid (Two w x M y lb wv)) (fun i _ => k - (intOf i).toNat)
          case atStart => exact ⟨0, lb, rfl, Nat.zero_le _, Nat.zero_le _, I3, HO⟩
          case round =>
            clear I3 HO hj lb
            obtain ⟨m, lb, rfl, hmk, hml, HI, HO⟩ := hrel
            have hm0 : (0 : Int) ≤ (m : Int) := by omega
            by_cases hlt : m < k ∧ m < l2
            · have h1 : (m : Int) < (k : Int) := by omega
              have h2 : (m : Int) < (l2 : Int) := by omega
              have hl1 : (m : Int) < (len : Int) := by omega
              obtain ⟨g2, o2, rfl, hg2, d0, p0, p1⟩ := (HU.out.below HO.out.bel).2.2 m hlt.2
              obtain ⟨q, hq⟩ : ∃ q, q = U m := ⟨_, rfl⟩
              rw [← hq] at d0 p0 p1
              have HQ := Lib.hid hq
              obtain ⟨g, o, rfl, hg, _, _, _⟩ := (HT.out.below HO.out.bel).2.2 m (by have := HN.out; omega)
              have HHAS := Lib.hid (fun n => hasc (some ⟨g, o, none⟩) len cap k T q (wr.drewN n) (by exact HT.out.below (below_drewN HO.out.bel n)) HN.out.1 cap HN.out.2.2)
              have HLT := Lib.hid hlt
              clear hq hlt
              go_wp2_with fail
              cases hhas : hasB T k q with
              | true =>
                rw [hhas] at HHAS
                clear hhas
                go_quiet ((refine Calls.quiet_of_same ((HHAS.out _).mono fun _ _ h => ⟨h.1, h.2.symm⟩)))
                rename_i nq
                have HO2 : Hid (Two w x M y lb (wr.drewN nq)) := Lib.hid (HO.out.more (below_drewN (Below.refl _ _) nq))
                clear HO HHAS d0 hg2
                go_wp2_with fail
                refine ⟨⟨m + 1, lb, by rw [Int.natCast_add]; rfl, by omega, by omega, HI, HO2⟩, ?_⟩
                show k - ((m : Int) + 1).toNat < k - ((m : Int)).toNat
                have := HLT.out
                omega
              | false =>
                have HNO : Hid (∀ i, i < k → T i ≠ q) := Lib.hid (fun i hi e => by
                  have := (hasB_iff T k q).2 ⟨i, hi, e⟩
                  rw [hhas] at this; cases this)
                rw [hhas] at HHAS
                clear hhas
                by_cases hq62 : q < 4611686018427387904
                · have hqb : decide (q < 4611686018427387904) = true := decide_eq_true hq62
                  go_quiet ((refine Calls.quiet_of_same ((HHAS.out _).mono fun _ _ h => ⟨h.1, h.2.symm⟩)))
                  rename_i nq
                  have HO2 : Hid (Two w x M y lb (wr.drewN nq)) := Lib.hid (HO.out.more (below_drewN (Below.refl _ _) nq))
                  have hqw : q + 1 ≤ 9223372036854775807 := by omega
                  have hqw0 : -9223372036854775808 ≤ q + 1 := by omega
                  have HWR := Lib.hid (show IntKind.i64.wrap (q + 1) = q + 1 from IntWalk.i64_in _ ⟨by omega, by omega⟩)
                  clear HO HHAS hqb hq62
                  go_wp2_with fail
                  go_region_law (refine step_call rfl 29 Tryd.f29 Tryd.func29 (by kernel_rfl) (by kernel_rfl) _ _ rfl #[.pointer (some ⟨y, 0, none⟩), .int .i64 q, .int .i64 (q + 1)] (by first | (simp [Act.eval]; done) | (simp [Act.eval, Act.put, HWR.out]; done)) (HO2.out.drew.cut_b q (q + 1) (by have := HI.out.len; omega)) ?_
                                 rintro en w4 ⟨rfl, t4⟩
                                 have O4 := Lib.hid t4
                                 clear t4
                                 refine ⟨_, rfl, ?_⟩)
                  all_goals
                    go_wp2_with fail
                    refine ⟨⟨m + 1, cutK q (q + 1) lb, by rw [Int.natCast_add]; rfl, by omega, by omega, Lib.hid (HI.out.cut q HNO.out), O4⟩, ?_⟩
                    show k - ((m : Int) + 1).toNat < k - ((m : Int)).toNat
                    have := HLT.out
                    omega
                · have hqb : decide (q < 4611686018427387904) = false := decide_eq_false hq62
                  go_quiet ((refine Calls.quiet_of_same ((HHAS.out _).mono fun _ _ h => ⟨h.1, h.2.symm⟩)))
                  rename_i nq
                  have HO2 : Hid (Two w x M y lb (wr.drewN nq)) := Lib.hid (HO.out.more (below_drewN (Below.refl _ _) nq))
                  clear HO HHAS d0 hg2 hqb
                  go_wp2_with fail
                  refine ⟨⟨m + 1, lb, by rw [Int.natCast_add]; rfl, by omega, by omega, HI, HO2⟩, ?_⟩
                  show k - ((m : Int) + 1).toNat < k - ((m : Int)).toNat
                  have := HLT.out
                  omega
            · have hdone := HI.out.done
              rw [← HML.out.1] at hdone
              obtain ⟨nA, hnA⟩ : ∃ nA, nA = M.length := ⟨_, rfl⟩
              obtain ⟨nB, hnB⟩ : ∃ nB, nB = lb.length := ⟨_, rfl⟩
              rw [← hnA, ← hnB] at hdone
              obtain ⟨hd1, hd2, hd3⟩ := hdone
              have HD2 := Lib.hid hd2
              have HD3 := Lib.hid hd3
              have hd10 : (nA : Int) ≤ (nB : Int) := by omega
              have hb80 : (nB : Int) ≤ 80 := by have := HI.out.len; omega
              have HLEN := Lib.hid (And.intro hnA hnB)
              clear hd2 hd3 hnA hnB hd1
              rcases (show ¬ (m : Int) < (k : Int) ∨ ((m : Int) < (k : Int) ∧ ¬ (m : Int) < (l2 : Int)) by omega) with h1 | ⟨h1, h2⟩
              all_goals
                clear hlt
                have ha0 : (0 : Int) ≤ (nA : Int) := by omega
                go_wp2_with fail
                refine (twi.Tw.len_calls HO.out.tw_a.choose_spec).mono ?_
                rw [← HLEN.out.1]
                rintro en w6 ⟨rfl, rfl⟩
                go_wp2_with fail
                refine (twi.Tw.len_calls HO.out.tw_b.choose_spec).mono ?_
                rw [← HLEN.out.2]
                rintro en w6 ⟨rfl, rfl⟩
                go_wp2_with fail
                refine (twi.Tw.len_calls HO.out.tw_a.choose_spec).mono ?_
                rw [← HLEN.out.1]
                rintro en w6 ⟨rfl, rfl⟩
                go_wp2_with fail
                refine (twi.Tw.len_calls HO.out.tw_b.choose_spec).mono ?_
                rw [← HLEN.out.2]
                rintro en w6 ⟨rfl, rfl⟩
                by_cases hab : nA < nB
                · have hl20 : (0 : Int) < (l2 : Int) := by have := HD2.out hab; omega
                  have habi : (nA : Int) < (nB : Int) := by omega
                  have hdd : decide (0 < l2) = true := decide_eq_true (HD2.out hab)
                  clear hab
                  go_wp2_with fail
                  go_ret
                  exact ⟨rfl, HO.out.bel⟩
                · have hE : nA = nB := by omega
                  have HLV : Hid (∀ h, levK h M = levK h lb) := Lib.hid (HD3.out hE)
                  have habi : ¬ (nA : Int) < (nB : Int) := by omega
                  have hdec : decide (nA < nB) = false := decide_eq_false hab
                  clear hab hE h1 hmk hml
                  go_wp2_with fail
                  go_loopw [116] (fun i wv => ∃ h : Nat, i = .int .i64 h ∧ h ≤ 10 ∧ Hid (Two w x M y lb wv)) (fun i _ => 10 - (intOf i).toNat)
                  case atStart => exact ⟨0, rfl, Nat.zero_le _, HO⟩
                  case round =>
                    clear HO
                    obtain ⟨h, rfl, hh, HO2⟩ := hrel
                    have hh0 : (0 : Int) ≤ (h : Int) := by omega
                    by_cases hlt : h < 10
                    · have h1 : (h : Int) < 10 := by omega
                      have HH := Lib.hid hlt
                      clear hlt
                      go_wp2_with fail
                      refine (twi.Tw.level_calls HO2.out.tw_a.choose_spec h HH.out (by have := HML.out.2; omega)).mono ?_
                      rintro en w6 ⟨v1, rfl, i1, _, b6⟩
                      have O6 : Hid (Two w x M y lb w6 ∧ Ints w6 v1 (levK h lb)) := Lib.hid ⟨HO2.out.more b6, by rw [← HLV.out h]; exact i1⟩
                      clear i1 b6 HO2
                      go_wp2_with fail
                      refine (twi.Tw.level_calls O6.out.1.tw_b.choose_spec h HH.out (by have := HI.out.len; omega)).mono ?_
                      rintro en w7 ⟨v2, rfl, i2, _, b7⟩
                      have O7 : Hid (Two w x M y lb w7 ∧ Ints w7 v1 (levK h lb) ∧ Ints w7 v2 (levK h lb)) := Lib.hid ⟨O6.out.1.more b7, O6.out.2.below b7, i2⟩
                      clear i2 b7 O6
                      go_wp2_with fail
                      refine (same_calls v1 v2 _ w7 O7.out.2.1 O7.out.2.2).mono ?_
                      rintro en w8 ⟨rfl, b8⟩
                      have O8 : Hid (Two w x M y lb w8) := Lib.hid (O7.out.1.more b8)
                      clear b8 O7
                      go_wp2_with fail
                      refine ⟨⟨h + 1, by rw [Int.natCast_add]; rfl, by have := HH.out; omega, O8⟩, ?_⟩
                      show 10 - ((h : Int) + 1).toNat < 10 - ((h : Int)).toNat
                      have := HH.out
                      omega
                    · obtain rfl : h = 10 := by omega
                      clear hlt hh
                      go_wp2_with fail
                      go_ret
                      exact ⟨rfl, HO2.out.bel⟩
        | succ j =>
          have e1 : ((j + 1 : Nat) : Int) - 1 = (j : Int) := by omega
          rw [e1]
          clear e1
          have hj1 : (j : Int) < (k : Int) := by omega
          have hj0 : (0 : Int) ≤ (j : Int) := by omega
          have hjl : (j : Int) < (len : Int) := by omega
          obtain ⟨g, o, rfl, hg, c0, m0, m1⟩ := (HT.out.below HO.out.bel).2.2 j (by have := HN.out; omega)
          obtain ⟨z, hz⟩ : ∃ z, z = T j := ⟨_, rfl⟩
          rw [← hz] at c0 m0 m1
          have HY := Lib.hid hz
          clear hz
          by_cases hjl2 : j < l2
          · have hjl3 : (j : Int) < (l2 : Int) := by omega
            obtain ⟨g2, o2, rfl, hg2, d0, p0, p1⟩ := (HU.out.below HO.out.bel).2.2 j hjl2
            obtain ⟨q, hq⟩ : ∃ q, q = U j := ⟨_, rfl⟩
            rw [← hq] at d0 p0 p1
            have HQ := Lib.hid hq
            have HHAS := Lib.hid (fun n => hasc (some ⟨g, o, none⟩) len cap k T q (wr.drewN n) (by exact HT.out.below (below_drewN HO.out.bel n)) HN.out.1 cap HN.out.2.2)
            have hjn : l2 ≠ 0 := by omega
            have HJ := Lib.hid hjn
            have HJJ := Lib.hid hj1
            clear hq hjn
            go_wp2_with fail
            cases hhas : hasB T k q with
            | true =>
              rw [hhas] at HHAS
              clear hhas
              go_quiet ((refine Calls.quiet_of_same ((HHAS.out _).mono fun _ _ h => ⟨h.1, h.2.symm⟩)))
              rename_i nq
              have HO2 : Hid (Two w x M y lb (wr.drewN nq)) := Lib.hid (HO.out.more (below_drewN (Below.refl _ _) nq))
              clear HO HHAS d0 hg2
              go_wp2_with fail
              refine (HO2.out.put_b (HZ.out.below HO2.out.bel (Nat.le_refl _)) z j (by have := HI.out.2; omega) ⟨m0, m1⟩).mono ?_
              rintro en w4 ⟨was, rfl, _, t4⟩
              have O4 : Hid (Two w x M y (insK (T j) j lb) w4) := Lib.hid (by rw [HY.out] at t4; exact t4)
              clear t4
              go_wp2_with fail
              refine ⟨⟨j, insK (T j) j lb, rfl, by omega, Lib.hid ⟨HI.out.1.put (by omega) _, by have := length_insK (T j) j lb; have := HI.out.2; omega⟩, O4⟩, ?_⟩
              show ((j : Int) - 1 + 1).toNat < ((j : Int) + 1).toNat
              omega
            | false =>
              rw [hhas] at HHAS
              clear hhas
              go_quiet ((refine Calls.quiet_of_same ((HHAS.out _).mono fun _ _ h => ⟨h.1, h.2.symm⟩)))
              rename_i nq
              have HO2 : Hid (Two w x M y lb (wr.drewN nq)) := Lib.hid (HO.out.more (below_drewN (Below.refl _ _) nq))
              clear HO HHAS
              go_wp2_with fail
              refine (HO2.out.put_b (HZ.out.below HO2.out.bel (Nat.le_refl _)) q (-1) (by have := HI.out.2; omega) ⟨p0, p1⟩).mono ?_
              rintro en w4 ⟨was, rfl, _, t4⟩
              have O4 := Lib.hid t4
              obtain ⟨g', o', e', hg', c1, _, _⟩ := (HT.out.below O4.out.bel).2.2 j (by have := HN.out; omega)
              injection e' with e'
              injection e' with e1 e2 e3
              subst e1
              subst e2
              rw [← HY.out] at c1
              clear t4 e3 c0 hg hg' d0 hg2
              go_wp2_with fail
              refine (O4.out.put_b (HZ.out.below O4.out.bel (Nat.le_refl _)) z j (by have := HI.out.2; have := length_insK q (-1) lb; omega) ⟨m0, m1⟩).mono ?_
              rintro en w5 ⟨was, rfl, _, t5⟩
              have O5 : Hid (Two w x M y (insK (T j) j (insK q (-1) lb)) w5) := Lib.hid (by rw [HY.out] at t5; exact t5)
              clear t5
              go_wp2_with fail
              refine ⟨⟨j, insK (T j) j (insK q (-1) lb), rfl, by omega, Lib.hid ⟨(HI.out.1.other HJ.out q (-1)).put (by omega) _, by have := length_insK (T j) j (insK q (-1) lb); have := length_insK q (-1) lb; have := HI.out.2; omega⟩, O5⟩, ?_⟩
              show ((j : Int) - 1 + 1).toNat < ((j : Int) + 1).toNat
              omega
          · have hjl3 : ¬ (j : Int) < (l2 : Int) := by omega
            have hdd : decide (j < l2) = false := decide_eq_false hjl2
            clear hjl2
            go_wp2_with fail
            go_quiet (fail)
            rename_i nq
            have HO2 : Hid (Two w x M y lb (wr.drewN nq)) := Lib.hid (HO.out.more (below_drewN (Below.refl _ _) nq))
            clear HO
            go_wp2_with fail
            refine (HO2.out.put_b (HZ.out.below HO2.out.bel (Nat.le_refl _)) z j (by have := HI.out.2; omega) ⟨m0, m1⟩).mono ?_
            rintro en w4 ⟨was, rfl, _, t4⟩
            have O4 : Hid (Two w x M y (insK (T j) j lb) w4) := Lib.hid (by rw [HY.out] at t4; exact t4)
            clear t4
            go_wp2_with fail
            refine ⟨⟨j, insK (T j) j lb, rfl, by omega, Lib.hid ⟨HI.out.1.put (by omega) _, by have := length_insK (T j) j lb; have := HI.out.2; omega⟩, O4⟩, ?_⟩
            show ((j : Int) - 1 + 1).toNat < ((j : Int) + 1).toNat
            omega
theorem own : ownKnob Tryd.prog.godebug = none := by kernel_rfl
theorem laidOut : laidOutB Tryd.prog = true := by kernel_rfl

set_option maxRecDepth 100000 in
theorem lifted (os : Os) (started : os.Started) (H : Type) (enc : TypeId × Value → H) :
    ReturnsInHanded {} Tryd.checked os 4 .any (fun w args => (Rows.towerShapeSpec.pre enc Tryd.prog Tryd.f4 [] false w args ∧ laidMetH Tryd.prog Rows.towerShapeRow.laid w) ∧ sizedMet enc Tryd.prog Tryd.f4 (OpenSpec.ofChange Rows.towerShapeSpec) false w args)
      (Rows.towerShapeSpec.post enc Tryd.prog Tryd.f4 false true false false) := by
  refine returnsInHanded_of_change_and (C := Tryd.checked) (X := fun w _ => laidMetH Tryd.prog Rows.towerShapeRow.laid w) (fun _ _ _ hh h => h.of_heap hh) own started (by kernel_rfl) Tryd.func4
    (ChangeSpec.witness_shaped (enc := enc) (C := Tryd.checked) (os := os) (X := fun w _ => laidMetH Tryd.prog Rows.towerShapeRow.laid w) false (World.doorLaid Tryd.prog 19 os) #[.slice none 0 0, .slice none 0 0] 8 rfl (door_shaped os _) (by kernel_rfl) (by kernel_rfl) (by kernel_rfl) (door_met os _)) ?_
  intro W base args ds gs before hval0 hW _ _ hL _
  have hval : ∀ (j : Nat) t v, Tryd.f4.params[j]? = some t → args[j]? = some v → Value.okWide Tryd.prog W .any base t v := hval0
  have hW' := hW
  obtain ⟨p, q, hA0, hV, rfl, _, _⟩ := hW
  have hA : DataW.TrodAll enc Tryd.prog W 0 (fun _ => true) true Tryd.f4.params.toList args.toList ds p := hA0
  rw [Tryd.params4] at hA hval
  obtain ⟨v0, vs0, d0, ds0, p0, q0, hargs, rfl, rfl, h0, r0⟩ := trodAll_cons hA
  obtain ⟨v1, vs1, d1, ds1, p1, q1, rfl, rfl, rfl, h1, r1⟩ := trodAll_cons r0
  obtain ⟨rfl, rfl, rfl⟩ := trodAll_nil r1
  obtain rfl : args = #[v0, v1] := by cases args; simp_all
  obtain ⟨rfl, rfl⟩ := trodVars_none hV
  obtain ⟨a0, len0, cap0, rfl⟩ := okWide_slice Tryd.underlying43 (hval 0 43 v0 rfl rfl)
  have k0 := h0
  have lt0 : ∀ x ∈ p0, x.block < W.heap.size := by obtain ⟨m, hm⟩ := k0; exact DataW.trod_lt m _ _ _ hm
  have w0 : Arg0 W a0 len0 cap0 := opened0 h0
  obtain ⟨a1, len1, cap1, rfl⟩ := okWide_slice Tryd.underlying43 (hval 1 43 v1 rfl rfl)
  have k1 := h1
  have lt1 : ∀ x ∈ p1, x.block < W.heap.size := by obtain ⟨m, hm⟩ := k1; exact DataW.trod_lt m _ _ _ hm
  have w1 : Arg1 W a1 len1 cap1 := opened1 h1
  clear hA0 hval0
  refine (walk a0 len0 cap0 a1 len1 cap1 W w0 w1 (tz_of_laid (rest := []) hL)).mono fun e W' ⟨he, bel⟩ => ?_
  subst he
  exact ⟨_, rfl, _, _, _, [], _, [], hW', trodAll_mk1 (shut_bool Tryd.underlying4 _), (trodAll_cons_mk (Below.trod laidOut (by kernel_rfl) (of_decide_eq_true (by kernel_rfl)) k0 bel lt0) (trodAll_cons_mk (Below.trod laidOut (by kernel_rfl) (of_decide_eq_true (by kernel_rfl)) k1 bel lt1) trodAll_mk0)), rfl, bel.frame _, fun h => by cases h⟩

theorem over : Rows.towerShapeRow.holds Tryd.pinned (OpenSpec.ofChange Rows.towerShapeSpec) :=
  OpenClaim.holds_of_wide 4 Tryd.f4 rfl rfl rfl rfl rfl rfl rfl ⟨rfl, rfl, rfl, rfl, rfl⟩ rfl rfl rfl rfl rfl (by kernel_rfl) Tryd.func4 (by kernel_rfl)
    (of_decide_eq_true (by kernel_rfl)) (by unfold Func.isWrapper; first | (rw [if_pos (by decide +kernel)]; kernel_rfl) | (rw [if_neg (by decide +kernel)]; exact ⟨rfl, rfl⟩))
    (fun os started H enc _ => lifted os started H enc)

theorem plain (f : FuncId) (fn : Func) (hf : Tryd.pinned.checked.prog.funcNamed "hindsight/hindsightlaw13.TowerShape" = some f) (hfn : Tryd.pinned.checked.prog.funcs[f]? = some fn) :
    (false : Bool) = Tryd.pinned.checked.prog.looks [] ∧ ∀ (j : Nat) t, fn.params[j]? = some t → Tryd.pinned.checked.prog.wantsStandIn t = false := by
  obtain rfl : f = 4 := Option.some.inj ((show Tryd.prog.funcNamed "hindsight/hindsightlaw13.TowerShape" = some 4 by kernel_rfl).symm.trans hf) |>.symm
  obtain rfl : fn = Tryd.f4 := (Option.some.inj (Tryd.func4.symm.trans hfn)).symm
  refine ⟨by kernel_rfl, fun j t ht => ?_⟩
  rw [Tryd.params4] at ht
  have hm := Array.mem_of_getElem? ht
  simp only [List.mem_toArray, List.mem_cons, List.not_mem_nil, or_false] at hm
  rcases hm with rfl | rfl
  · exact (show Tryd.prog.wantsStandIn 43 = false by kernel_rfl)
  · exact (show Tryd.prog.wantsStandIn 43 = false by kernel_rfl)

theorem card : Rows.TowerShapeCardSaid :=
  Claim7.holds_tied_plain_at .later [] _ _ _ _ over (fun _ h => by cases h) (by kernel_rfl) (fun _ h => by cases h) towerShape_row_tie rfl ⟨rfl, rfl⟩ (by kernel_rfl) rfl plain (by kernel_rfl)

theorem proved : Rows.TowerShapeCardSaid := card

end Go.Proofs.YtbimdcjbpbpljaaDoor.towerShape
