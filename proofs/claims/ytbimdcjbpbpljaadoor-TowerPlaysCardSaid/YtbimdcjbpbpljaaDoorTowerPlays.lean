/- TowerPlays: for every list of acts, every number the law answers true, and its arguments read afterwards as they did. Conditions: the row lists two package-level variables (both tables of math/bits), which the card ties to the program's text. -/
import Derived.Test.YtbimdcjbpbpljaaDoorTowX
import Derived.Test.YtbimdcjbpbpljaaDoorTowW
import Derived.Test.YtbimdcjbpbpljaaDoorTowQ
import Derived.Test.YtbimdcjbpbpljaaDoorInts
import Derived.Test.YtbimdcjbpbpljaaDoorCards
import Derived.Test.YtbimdcjbpbpljaaDoorTie
import Derived.ProofKit
import Derived.OpenShut
import Derived.SevenTiedAt
namespace Go.Proofs.YtbimdcjbpbpljaaDoor.towerPlays
open Go.ChangeShapes Go.WideShapes Go.ChangeAt Go.RowKit Go.Proofs.YtbimdcjbpbpljaaDoor.tow Go.Proofs.YtbimdcjbpbpljaaDoor.tws

def Arg0 (w : World) (a : Option Addr) (len _cap : Nat) : Prop := ArgA w a len
theorem opened0 {H : Type} {enc : TypeId × Value → H} {w : World} {spare : Nat → Bool} {held : Bool} {a : Option Addr} {len cap : Nat} {d : DataW H} {p : List MemPlace} (h : DataW.Trod enc Tryd.prog w 0 spare held 22 (.slice a len cap) d p) : Arg0 w a len cap := openedA h

set_option maxRecDepth 100000 in
set_option maxHeartbeats 8000000 in
theorem walk (a : Option Addr) (len cap : Nat) (look : Int) (w : World) (hA : Arg0 w a len cap) (hw : (Lit.int .i64 look).wf = true) (hZ : Tz w.heap.size w) :
    Calls Tryd.prog 3 #[.slice a len cap, .int .i64 look] w fun en w' => en = .returned (.bool true) ∧ Below w.heap.size w w' := by
  obtain ⟨hn1, hn2⟩ := wf_i64 hw
  have HT : Hid (ArgA w a len) := Lib.hid hA
  have HZ := Lib.hid hZ
  have hlen : (len : Int) ≤ 9223372036854775807 := by have := HT.out.1; unfold maxLen at this; omega
  have hlen0 : (0 : Int) ≤ (len : Int) := by omega
  clear hZ hw hA
  go_enter Tryd.func3, Tryd.ntmps3
  go_wp2_with fail
  refine (awake_calls w HZ.out).mono ?_
  rintro en w1 ⟨rfl, b1⟩
  have B1 := Lib.hid b1
  clear b1
  go_wp2_with fail
  refine (tws.tw_new w1).mono ?_
  rintro en w2 ⟨b, rfl, hb, t2, b2⟩
  have T2 : Hid (Tw w2 b [] (fun k => w.heap.size ≤ k ∧ k < w2.heap.size) ∧ Below w.heap.size w w2) := Lib.hid ⟨t2.more (fun k hk e => ⟨Nat.le_trans B1.out.size e, hk⟩), B1.out.trans (b2.mono B1.out.size)⟩
  clear hb t2 b2 B1
  go_wp2_with fail
  go_name_world W0 hW0
  have S0 : Hid (St w b [] (.slice (some ⟨w2.heap.size, 0, none⟩) 0 0) [] none W0) := by
    have bb : Below w2.heap.size w2 W0 := by rw [← hW0]; exact (Below.refl _ _).alloc (Nat.le_refl _) _
    have hh : Has W0 w2.heap.size 34 #[] := by rw [← hW0]; exact made_at _ _ rfl
    refine Lib.hid ⟨⟨_, T2.out.1.below bb, fun k hk => ⟨hk.1, Nat.lt_of_lt_of_le hk.2 bb.size⟩, fun k hk => ?_, fun x hx => by cases hx⟩, ⟨rfl, .inr ⟨_, 0, #[], rfl, Nat.zero_le _, hh, Nat.le_refl _, Nat.zero_le _, rfl, rfl⟩⟩, T2.out.2.trans (bb.mono T2.out.2.size)⟩
    injection hk with hk
    have hk : w2.heap.size = k := hk
    exact ⟨by rw [← hk]; exact T2.out.2.size, fun e => by omega⟩
  clear hW0 T2
  go_loopw [6, 7] (fun v i wr => ∃ (k : Nat) (l : List It), i = .int .i64 k ∧ k ≤ 60 ∧ k ≤ len ∧ Hid (l.length ≤ k ∧ St w b l v l none wr)) (fun _ i _ => 60 - (intOf i).toNat)
  case atStart => exact ⟨0, [], rfl, Nat.zero_le _, Nat.zero_le _, Lib.hid ⟨Nat.le_refl _, S0.out⟩⟩
  case round =>
    clear S0
    obtain ⟨k, l, rfl, hk60, hkl, HS⟩ := hrel
    obtain ⟨v, hv⟩ : ∃ v, v = u6 := ⟨_, rfl⟩
    rw [← hv] at HS ⊢
    clear hv
    have hk0 : (0 : Int) ≤ (k : Int) := by omega
    by_cases hlt : k < len ∧ k < 60
    · have h1 : (k : Int) < (len : Int) := by omega
      have h2 : (k : Int) < 60 := by omega
      obtain ⟨g, o, rfl, hg, kd, p, t, x, hx, ⟨hp1, hp2⟩, c0, c1, c2, c3⟩ := (HT.out.turn HS.out.2.bel).2 k hlt.1
      have HX := Lib.hid hx
      have HLT := Lib.hid hlt
      clear hlt hx
      go_wp2_with fail
      refine calls_let (fun W hW => ?_)
      have S1 : Hid (St w b l v l (some (wr.heap.size, #[.int .i64 kd, .int .i64 p, .int .i64 t, .string x])) W) := by
        rw [← hW]; exact Lib.hid (HS.out.2.act _)
      have HL := Lib.hid HS.out.1
      clear hW HS
      obtain ⟨q, hq⟩ : ∃ q, q = wr.heap.size := ⟨_, rfl⟩
      rw [← hq] at S1 ⊢
      clear hq c0 c1 c2 c3
      refine (cut_any x 10 W (by decide) HX.out).mono ?_
      obtain ⟨s, hs⟩ : ∃ s, s = x.extract 0 10 := ⟨_, rfl⟩
      rw [← hs]
      rintro en w4 ⟨rfl, rfl⟩
      clear hs
      have c0 : W.cell? ⟨q, 0, none⟩ = some (.int .i64 kd) := S1.out.has.cell 0
      have c1 : W.cell? ⟨q, 1, none⟩ = some (.int .i64 p) := S1.out.has.cell 1
      have c2 : W.cell? ⟨q, 2, none⟩ = some (.int .i64 t) := S1.out.has.cell 2
      obtain ⟨ACT, hACT⟩ : ∃ ACT : Array Value, ACT = #[.int .i64 kd, .int .i64 p, .int .i64 t, .string x] := ⟨_, rfl⟩
      rw [← hACT] at S1
      have HACT : Hid (ACT[1]? = some (.int .i64 p) ∧ ACT[2]? = some (.int .i64 t)) := by rw [hACT]; exact Lib.hid ⟨rfl, rfl⟩
      clear hACT
      obtain ⟨ad, c, rfl⟩ := S1.out.ones.slice
      obtain ⟨n, hn⟩ : ∃ n, n = l.length := ⟨_, rfl⟩
      rw [← hn] at S1 HL ⊢
      have hn60 : (n : Int) ≤ 60 := by have := HL.out; omega
      have hn0 : (0 : Int) ≤ (n : Int) := by omega
      have HN := Lib.hid hn
      clear hn
      have hbb : ∀ y : Bool, (y != y) = false := fun y => bne_self_eq_false y
      have hbi : ∀ y : Int, (y != y) = false := fun y => bne_self_eq_false y
      rcases (show ((kd == 1) = true) ∨ ((kd == 1) = false ∧ (kd == 3) = true) ∨ ((kd == 1) = false ∧ (kd == 3) = false) from by cases (kd == 1) <;> cases (kd == 3) <;> simp) with hk | ⟨hk, hk3⟩ | ⟨hk, hk3⟩
      have HSO := Lib.hid (S1.out.tw_.choose_spec.sorted)
      case' inl =>
        go_wp2_with fail
        refine (S1.out.put (HZ.out.below S1.out.bel (Nat.le_refl _)) p s (by rw [← HN.out]; omega) ⟨hp1, hp2⟩).mono ?_
        rintro en w5 ⟨was, rfl, hw1, S5⟩
        have S5 := Lib.hid S5
        have HW1 := Lib.hid hw1
        have c15 : w5.cell? ⟨q, 1, none⟩ = some (.int .i64 p) := by rw [S5.out.has.cell]; exact HACT.out.1
        clear hw1 c0 c1 c2 S1
        go_wp2_with fail
        refine (rput_calls _ l p s w5 S5.out.ones HSO.out (by rw [← HN.out]; omega)).mono ?_
        rintro en w6 ⟨u, was2, rfl, hw2, o2, n2, b2⟩
        have hww : was2 = was := Bool.eq_iff_iff.2 (hw2.trans HW1.out.symm)
        subst hww
        have S6 := Lib.hid (S5.out.other b2 o2 n2)
        have HL2 : Hid ((insK p s l).length ≤ k + 1) := Lib.hid (by have := length_insK p s l; have := HN.out; have := HL.out; omega)
        obtain ⟨l2, hl2⟩ : ∃ l2, l2 = insK p s l := ⟨_, rfl⟩
        rw [← hl2] at S6 HL2
        clear hw2 o2 n2 b2 S5 c15 hl2
        obtain ⟨a6, c6, rfl⟩ := S6.out.ones.slice
        obtain ⟨n6, hn6⟩ : ∃ n6, n6 = l2.length := ⟨_, rfl⟩
        rw [← hn6] at S6 HL2 ⊢
        have HN6 := Lib.hid hn6
        clear hn6
        have c16 : w6.cell? ⟨q, 1, none⟩ = some (.int .i64 p) := by rw [S6.out.has.cell]; exact HACT.out.1
        go_wp2_with fail
      case' inr.inl =>
        go_wp2_with fail
        refine (S1.out.cut p t (by rw [← HN.out]; omega)).mono ?_
        rintro en w5 ⟨rfl, S5⟩
        have S5 := Lib.hid S5
        have c15 : w5.cell? ⟨q, 1, none⟩ = some (.int .i64 p) := by rw [S5.out.has.cell]; exact HACT.out.1
        have c25 : w5.cell? ⟨q, 2, none⟩ = some (.int .i64 t) := by rw [S5.out.has.cell]; exact HACT.out.2
        have HCL : Hid ((cutK p t l).length ≤ n) := Lib.hid (by rw [HN.out]; exact List.length_filter_le _ _)
        rw [← HN.out]
        clear c0 c1 c2 S1
        go_wp2_with fail
        refine (rcut_calls _ l p t w5 S5.out.ones (by rw [← HN.out]; omega)).mono ?_
        rintro en w6 ⟨u, rfl, o2, n2, b2⟩
        have S6 := Lib.hid (S5.out.other b2 o2 n2)
        obtain ⟨l2, hl2⟩ : ∃ l2, l2 = cutK p t l := ⟨_, rfl⟩
        rw [← hl2] at S6 HCL ⊢
        have HL2 : Hid (l2.length ≤ k + 1) := Lib.hid (by have := HCL.out; have := HL.out; omega)
        clear o2 n2 b2 S5 c15 c25 hl2
        obtain ⟨a6, c6, rfl⟩ := S6.out.ones.slice
        obtain ⟨n6, hn6⟩ : ∃ n6, n6 = l2.length := ⟨_, rfl⟩
        rw [← hn6] at S6 HL2 HCL ⊢
        have HN6 := Lib.hid hn6
        have hcl : (n6 : Int) ≤ (n : Int) := by have := HCL.out; omega
        clear hn6
        have c16 : w6.cell? ⟨q, 1, none⟩ = some (.int .i64 p) := by rw [S6.out.has.cell]; exact HACT.out.1
        go_wp2_with fail
      case' inr.inr =>
        obtain ⟨w6, hw6⟩ : ∃ w6, w6 = W := ⟨_, rfl⟩
        rw [← hw6] at S1 c0 c1 c2 ⊢
        obtain ⟨l2, hl2⟩ : ∃ l2, l2 = l := ⟨_, rfl⟩
        obtain ⟨n6, hn6⟩ : ∃ n6, n6 = n := ⟨_, rfl⟩
        have S6 : Hid (St w b l2 (.slice ad n6 c) l2 (some (q, ACT)) w6) := by rw [hl2, hn6]; exact S1
        have HL2 : Hid (n6 ≤ k + 1) := Lib.hid (by rw [hn6]; have := HL.out; omega)
        have HN6 : Hid (n6 = l2.length) := by rw [hn6, hl2]; exact HN
        rw [← hn6]
        have c16 : w6.cell? ⟨q, 1, none⟩ = some (.int .i64 p) := c1
        obtain ⟨a6, ha6⟩ : ∃ a6, a6 = ad := ⟨_, rfl⟩
        obtain ⟨c6, hc6⟩ : ∃ c6, c6 = c := ⟨_, rfl⟩
        rw [← ha6, ← hc6] at S6 ⊢
        clear hw6 hl2 hn6 S1 c1 c2 ha6 hc6
        go_wp2_with fail
      all_goals
        have HSO6 := Lib.hid (S6.out.tw_.choose_spec.sorted)
        have HNU6 := Lib.hid (S6.out.tw_.choose_spec.num)
        have hl61 : Hid (l2.length ≤ 100000 ∧ l2.length ≤ 1000) := Lib.hid (by have := HL2.out; have := HN6.out; omega)
        have hn60' : (n6 : Int) ≤ 61 := by have := HL2.out; omega
        have hn60'' : (0 : Int) ≤ (n6 : Int) := by omega
        refine (Tw.floor_calls S6.out.tw_.choose_spec p hl61.out.1).mono ?_
        rw [floorK_last]
        obtain ⟨P, hP⟩ : ∃ P, P = lastK p l2 := ⟨_, rfl⟩
        obtain ⟨Q, hQ⟩ : ∃ Q, Q = anyK p l2 := ⟨_, rfl⟩
        rw [← hP, ← hQ]
        have HPQ := Lib.hid (And.intro hP hQ)
        clear hP hQ
        rintro en w7 ⟨rfl, b7⟩
        have S7 := Lib.hid (S6.out.more b7)
        have c17 : w7.cell? ⟨q, 1, none⟩ = some (.int .i64 p) := by rw [S7.out.has.cell]; exact HACT.out.1
        clear b7 S6 c16
        go_wp2_with fail
        refine (rfloor_calls _ l2 p w7 S7.out.ones hl61.out.2).mono ?_
        rw [← HPQ.out.1, ← HPQ.out.2]
        rintro en w8 ⟨rfl, b8⟩
        have S8 := Lib.hid (S7.out.more b8)
        clear b8 S7 c17
        go_wp2_with fail
        refine calls_let (fun W9 hW9 => ?_)
        have S9 : Hid (St w b l2 (.slice a6 n6 c6) l2 (some (q, ACT)) W9) := by rw [← hW9]; exact Lib.hid (S8.out.more ((Below.refl _ _).alloc (Nat.le_refl _) _))
        clear hW9 S8
        refine (Tw.len_calls S9.out.tw_.choose_spec).mono ?_
        rw [← HN6.out]
        rintro en w10 ⟨rfl, rfl⟩
        go_wp2_with fail
        refine (wversions_calls S9.out.tw_.choose_spec hl61.out.1).mono ?_
        rintro en w10 ⟨v1, rfl, i1, m1, b1⟩
        have S10 : Hid (St w b l2 (.slice a6 n6 c6) l2 (some (q, ACT)) w10 ∧ Ints w10 v1 (l2.map (·.1))) := Lib.hid ⟨S9.out.more b1, i1⟩
        clear i1 m1 b1 S9
        go_wp2_with fail
        refine (versions_calls _ l2 w10 S10.out.1.ones hl61.out.2).mono ?_
        rintro en w11 ⟨v2, rfl, i2, m2, b2⟩
        have S11 : Hid (St w b l2 (.slice a6 n6 c6) l2 (some (q, ACT)) w11 ∧ Ints w11 v1 (l2.map (·.1)) ∧ Ints w11 v2 (l2.map (·.1))) := Lib.hid ⟨S10.out.1.more b2, S10.out.2.below b2, i2⟩
        clear i2 m2 b2 S10
        go_wp2_with fail
        refine (same_calls v1 v2 _ w11 S11.out.2.1 S11.out.2.2).mono ?_
        rintro en w12 ⟨rfl, b3⟩
        have S12 := Lib.hid (S11.out.1.more b3)
        clear b3 S11
        go_wp2_with fail
        refine (Tw.steps_calls S12.out.tw_.choose_spec look hl61.out.1).mono ?_
        obtain ⟨SS, hSS⟩ : ∃ SS, SS = stpL ((l2.filter (fun x => decide (x.1 ≤ look))).map (fun x => hgt x.1)) := ⟨_, rfl⟩
        rw [← hSS]
        have HSS := Lib.hid hSS
        clear hSS
        rintro en w13 ⟨rfl, b4⟩
        have S13 := Lib.hid (S12.out.more b4)
        clear b4 S12
        go_wp2_with fail
        refine (rsteps_calls _ l2 look w13 S13.out.ones hl61.out.2 HSO6.out (fun x hx => (HNU6.out x hx).2)).mono ?_
        rw [← HSS.out]
        rintro en w14 ⟨rfl, b5⟩
        have S14 := Lib.hid (S13.out.more b5)
        clear b5 S13
        go_wp2_with fail
        refine ⟨⟨k + 1, l2, by rw [Int.natCast_add]; rfl, by have := HLT.out; omega, by have := HLT.out; omega, Lib.hid ⟨by rw [← HN6.out]; exact HL2.out, S14.out.none_⟩⟩, ?_⟩
        show 60 - ((k : Int) + 1).toNat < 60 - ((k : Int)).toNat
        have := HLT.out
        omega
    · have HLL : Hid (l.length ≤ 100000 ∧ l.length ≤ 1000) := Lib.hid (by have := HS.out.1; omega)
      have HNU := Lib.hid (HS.out.2.tw_.choose_spec.num)
      rcases (show ¬ (k : Int) < (len : Int) ∨ ((k : Int) < (len : Int) ∧ ¬ (k : Int) < 60) by omega) with h1 | ⟨h1, h2⟩
      all_goals
        clear hlt
        go_wp2_with fail
        go_loopw [20] (fun i wv => ∃ j : Nat, i = .int .i64 ((j : Int) - 1) ∧ j ≤ 12 ∧ Hid (St w b l v l none wv)) (fun i _ => 12 - (intOf i + 1).toNat)
        case atStart => exact ⟨0, rfl, by omega, Lib.hid HS.out.2⟩
        case round =>
          clear HS
          obtain ⟨j, rfl, hj, HS⟩ := hrel
          have hj0 : (0 : Int) ≤ (j : Int) := by omega
          have hj12 : (j : Int) ≤ 12 := by omega
          by_cases hj2 : j = 12
          · subst hj2
            have e1 : ((12 : Nat) : Int) - 1 = 11 := rfl
            rw [e1]
            clear e1
            go_wp2_with fail
            go_ret
            exact ⟨rfl, HS.out.bel⟩
          · obtain ⟨h, hh⟩ : ∃ h, h = (j : Int) - 1 := ⟨_, rfl⟩
            rw [← hh]
            have hh1 : -1 ≤ h := by omega
            have hh2 : h ≤ 10 := by omega
            have HHJ := Lib.hid (And.intro hh hj2)
            clear hh hj2 hj0 hj12
            go_wp2_with fail
            refine (rlevel_calls v l h wr HS.out.ones HLL.out.2 (fun x hx => (HNU.out x hx).2) (by omega)).mono ?_
            rintro en w4 ⟨v2, rfl, i2, m2, b2⟩
            have S4 : Hid (St w b l v l none w4 ∧ Ints w4 v2 (levI h l)) := Lib.hid ⟨HS.out.more b2, i2⟩
            clear i2 m2 b2 HS
            rcases (show h < 0 ∨ h = 10 ∨ (0 ≤ h ∧ h < 10) by omega) with q1 | q1 | ⟨q1, q2⟩
            · have hne : (h == 10) = false := beq_eq_false_iff_ne.2 (by omega)
              have S5 : Hid (St w b l v l none w4 ∧ Ints w4 v2 [] ∧ Ints w4 (.slice none 0 0) []) := Lib.hid ⟨S4.out.1, by
                have e : levI h l = [] := by
                  unfold levI
                  rw [List.filter_eq_nil_iff.2 (fun x _ => by simp; omega)]
                  rfl
                rw [← e]; exact S4.out.2, Ints.nil _⟩
              clear S4
              go_wp2_with fail
              refine (level_none b h w4 (.inl q1)).mono ?_
              rintro en w5 ⟨rfl, rfl⟩
              go_wp2_with fail
              refine (same_calls _ v2 [] w4 S5.out.2.2 S5.out.2.1).mono ?_
              rintro en w5 ⟨rfl, b5⟩
              have S6 := Lib.hid (S5.out.1.more b5)
              clear b5 S5 hne
              go_wp2_with fail
              refine ⟨⟨j + 1, by rw [HHJ.out.1, Int.natCast_add]; congr 1; omega, by have := HHJ.out; omega, S6⟩, ?_⟩
              show 12 - (h + 1 + 1).toNat < 12 - (h + 1).toNat
              omega
            · subst q1
              go_wp2_with fail
              refine (level_none b 10 w4 (.inr (by omega))).mono ?_
              rintro en w5 ⟨rfl, rfl⟩
              go_wp2_with fail
              refine (same_calls _ _ [] w4 (Ints.nil _) (Ints.nil _)).mono ?_
              rintro en w5 ⟨rfl, b5⟩
              have S6 := Lib.hid (S4.out.1.more b5)
              clear b5 S4
              go_wp2_with fail
              refine ⟨⟨j + 1, by rw [Int.natCast_add]; have := HHJ.out.1; congr 1; omega, by have := HHJ.out; omega, S6⟩, ?_⟩
              show 12 - ((10 : Int) + 1 + 1).toNat < 12 - ((10 : Int) + 1).toNat
              omega
            · have hne : (h == 10) = false := beq_eq_false_iff_ne.2 (by omega)
              obtain ⟨hN, rfl⟩ := Int.eq_ofNat_of_zero_le q1
              have S5 : Hid (St w b l v l none w4 ∧ Ints w4 v2 (levK hN l)) := by rw [← levI_nat]; exact S4
              clear S4
              have HN2 := Lib.hid (show hN < 10 by omega)
              go_wp2_with fail
              refine (Tw.level_calls S5.out.1.tw_.choose_spec hN HN2.out HLL.out.1).mono ?_
              rintro en w5 ⟨v1, rfl, i1, m1, b1⟩
              have S6 : Hid (St w b l v l none w5 ∧ Ints w5 v2 (levK hN l) ∧ Ints w5 v1 (levK hN l)) := Lib.hid ⟨S5.out.1.more b1, S5.out.2.below b1, i1⟩
              clear i1 m1 b1 S5
              go_wp2_with fail
              refine (same_calls v1 v2 _ w5 S6.out.2.2 S6.out.2.1).mono ?_
              rintro en w6 ⟨rfl, b6⟩
              have S7 := Lib.hid (S6.out.1.more b6)
              clear b6 S6 hne
              go_wp2_with fail
              refine ⟨⟨j + 1, by rw [Int.natCast_add]; have := HHJ.out.1; congr 1; omega, by have := HHJ.out; omega, S7⟩, ?_⟩
              show 12 - ((hN : Int) + 1 + 1).toNat < 12 - ((hN : Int) + 1).toNat
              have := HN2.out
              omega
theorem own : ownKnob Tryd.prog.godebug = none := by kernel_rfl
theorem laidOut : laidOutB Tryd.prog = true := by kernel_rfl

set_option maxRecDepth 100000 in
theorem lifted (os : Os) (started : os.Started) (H : Type) (enc : TypeId × Value → H) :
    ReturnsInHanded {} Tryd.checked os 3 .any (fun w args => (Rows.towerPlaysSpec.pre enc Tryd.prog Tryd.f3 [] false w args ∧ laidMetH Tryd.prog Rows.towerPlaysRow.laid w) ∧ sizedMet enc Tryd.prog Tryd.f3 (OpenSpec.ofChange Rows.towerPlaysSpec) false w args)
      (Rows.towerPlaysSpec.post enc Tryd.prog Tryd.f3 false true false false) := by
  refine returnsInHanded_of_change_and (C := Tryd.checked) (X := fun w _ => laidMetH Tryd.prog Rows.towerPlaysRow.laid w) (fun _ _ _ hh h => h.of_heap hh) own started (by kernel_rfl) Tryd.func3
    (ChangeSpec.witness_shaped (enc := enc) (C := Tryd.checked) (os := os) (X := fun w _ => laidMetH Tryd.prog Rows.towerPlaysRow.laid w) false (World.doorLaid Tryd.prog 19 os) #[.slice none 0 0, .int .i64 0] 8 rfl (door_shaped os _) (by kernel_rfl) (by kernel_rfl) (by kernel_rfl) (door_met os _)) ?_
  intro W base args ds gs before hval0 hW _ _ hL _
  have hval : ∀ (j : Nat) t v, Tryd.f3.params[j]? = some t → args[j]? = some v → Value.okWide Tryd.prog W .any base t v := hval0
  have hW' := hW
  obtain ⟨p, q, hA0, hV, rfl, _, _⟩ := hW
  have hA : DataW.TrodAll enc Tryd.prog W 0 (fun _ => true) true Tryd.f3.params.toList args.toList ds p := hA0
  rw [Tryd.params3] at hA hval
  obtain ⟨v0, vs0, d0, ds0, p0, q0, hargs, rfl, rfl, h0, r0⟩ := trodAll_cons hA
  obtain ⟨v1, vs1, d1, ds1, p1, q1, rfl, rfl, rfl, h1, r1⟩ := trodAll_cons r0
  obtain ⟨rfl, rfl, rfl⟩ := trodAll_nil r1
  obtain rfl : args = #[v0, v1] := by cases args; simp_all
  obtain ⟨rfl, rfl⟩ := trodVars_none hV
  obtain ⟨a0, len0, cap0, rfl⟩ := okWide_slice Tryd.underlying22 (hval 0 22 v0 rfl rfl)
  have k0 := h0
  have lt0 : ∀ x ∈ p0, x.block < W.heap.size := by obtain ⟨m, hm⟩ := k0; exact DataW.trod_lt m _ _ _ hm
  have w0 : Arg0 W a0 len0 cap0 := opened0 h0
  obtain ⟨a1, rfl, rfl, rfl, w1⟩ := open_int Tryd.underlying3 (hval 1 3 v1 rfl rfl) h1
  clear hA0 hval0
  refine (walk a0 len0 cap0 a1 W w0 w1 (tz_of_laid (rest := []) hL)).mono fun e W' ⟨he, bel⟩ => ?_
  subst he
  exact ⟨_, rfl, _, _, _, [], _, [], hW', trodAll_mk1 (shut_bool Tryd.underlying4 _), (trodAll_cons_mk (Below.trod laidOut (by kernel_rfl) (of_decide_eq_true (by kernel_rfl)) k0 bel lt0) (trodAll_cons_mk (shut_int Tryd.underlying3 w1) trodAll_mk0)), rfl, bel.frame _, fun h => by cases h⟩

theorem over : Rows.towerPlaysRow.holds Tryd.pinned (OpenSpec.ofChange Rows.towerPlaysSpec) :=
  OpenClaim.holds_of_wide 3 Tryd.f3 rfl rfl rfl rfl rfl rfl rfl ⟨rfl, rfl, rfl, rfl, rfl⟩ rfl rfl rfl rfl rfl (by kernel_rfl) Tryd.func3 (by kernel_rfl)
    (of_decide_eq_true (by kernel_rfl)) (by unfold Func.isWrapper; first | (rw [if_pos (by decide +kernel)]; kernel_rfl) | (rw [if_neg (by decide +kernel)]; exact ⟨rfl, rfl⟩))
    (fun os started H enc _ => lifted os started H enc)

theorem plain (f : FuncId) (fn : Func) (hf : Tryd.pinned.checked.prog.funcNamed "hindsight/hindsightlaw13.TowerPlays" = some f) (hfn : Tryd.pinned.checked.prog.funcs[f]? = some fn) :
    (false : Bool) = Tryd.pinned.checked.prog.looks [] ∧ ∀ (j : Nat) t, fn.params[j]? = some t → Tryd.pinned.checked.prog.wantsStandIn t = false := by
  obtain rfl : f = 3 := Option.some.inj ((show Tryd.prog.funcNamed "hindsight/hindsightlaw13.TowerPlays" = some 3 by kernel_rfl).symm.trans hf) |>.symm
  obtain rfl : fn = Tryd.f3 := (Option.some.inj (Tryd.func3.symm.trans hfn)).symm
  refine ⟨by kernel_rfl, fun j t ht => ?_⟩
  rw [Tryd.params3] at ht
  have hm := Array.mem_of_getElem? ht
  simp only [List.mem_toArray, List.mem_cons, List.not_mem_nil, or_false] at hm
  rcases hm with rfl | rfl
  · exact (show Tryd.prog.wantsStandIn 22 = false by kernel_rfl)
  · exact (show Tryd.prog.wantsStandIn 3 = false by kernel_rfl)

theorem card : Rows.TowerPlaysCardSaid :=
  Claim7.holds_tied_plain_at .later [] _ _ _ _ over (fun _ h => by cases h) (by kernel_rfl) (fun _ h => by cases h) towerPlays_row_tie rfl ⟨rfl, rfl⟩ (by kernel_rfl) rfl plain (by kernel_rfl)

theorem proved : Rows.TowerPlaysCardSaid := card

end Go.Proofs.YtbimdcjbpbpljaaDoor.towerPlays
