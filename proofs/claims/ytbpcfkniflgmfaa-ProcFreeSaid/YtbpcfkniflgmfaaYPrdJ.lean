/- Law 16's Begin. -/
import Derived.Test.YtbpcfkniflgmfaaY018
import Derived.Deep.RegionHeld3
namespace Go.Proofs.Ytbpcfkniflgmfaa.prc
open Go Go.RowKit

def BegPost (W : World) (en : Ending) (W' : World) : Prop := ∃ (P L d c m : Nat) (B : Nat → Nat) (l s v p : Value), 0 < P ∧ P ≤ 5 ∧ L ≤ 20 ∧
    en = .returned (.agg (stC P L d l s v p)) ∧ Sd W P L P ab0 0 d c m B noO l s v p W' ∧ Below W.heap.size W W'

set_option maxRecDepth 100000 in
set_option maxHeartbeats 4000000 in
theorem lbegin_calls (n k : Int) (W : World) : Calls Try.prog 8 #[.int .i64 n, .int .i64 k] W (BegPost W) := by
  obtain ⟨k5, h5, l5⟩ := some5 n
  obtain ⟨L, h21, l21⟩ := some21 k
  have a0 := mask255 n
  have a1 := mask255 k
  generalize n % 256 = n2 at *
  generalize k % 256 = k2 at *
  obtain ⟨P, hP⟩ : ∃ P, P = 1 + k5 := ⟨_, rfl⟩
  have a2 : n2.tmod 5 = (k5 : Int) := h5.symm
  have a3 : k2.tmod 21 = (L : Int) := h21.symm
  have a4 : 1 + (k5 : Int) = (P : Int) := by omega
  have hP0 : 0 < P := by omega
  have hP5 : P ≤ 5 := by omega
  have b0 : (P : Int) ≤ 5 := by omega
  have b1 : (L : Int) ≤ 20 := by omega
  have b2 : 0 < (P : Int) := by omega
  have b3 : 0 ≤ (L : Int) := by omega
  clear h5 h21 l5 hP
  have HL := Lib.hid l21
  have HP := Lib.hid (And.intro hP0 hP5)
  clear l21 hP0 hP5
  go_enter Try.func8, Try.ntmps8
  go_wp2_with fail
  go_name_world u hu
  have HK : Hid (Bk W P L u) := by rw [← hu]; exact Lib.hid ⟨((Below.refl _ W).alloc (Nat.le_refl _) _).alloc (by simp) _, made_at _ _ (by simp), (Has.made W _ _).alloc _⟩
  clear hu
  obtain ⟨N, hN⟩ : ∃ N, P + L = N := ⟨_, rfl⟩
  have HN := Lib.hid hN
  have HN2 : Hid (N ≤ 65536) := Lib.hid (by have := HP.out; have := HL.out; omega)
  have HPL : Hid (P ≤ 64 ∧ L ≤ 256 ∧ 0 < P) := Lib.hid (by have := HP.out; have := HL.out; omega)
  have HC : ∀ V, Hid (Calls Try.prog 35 #[.agg #[.int .i64 P, .int .i64 L]] V fun en w' => en = .returned (.int .i64 N) ∧ Below V.heap.size V w') := fun V => Lib.hid (by
    have e : (N : Int) = (P : Int) + (L : Int) := by omega
    rw [e]
    exact cellsP_calls P L V (by omega) (by omega) (by omega) (by omega))
  have c0 : u.cell? ⟨W.heap.size + 1, 0, none⟩ = some (.int .i64 P) := HK.out.pl.cell 0
  have c1 : u.cell? ⟨W.heap.size + 1, 1, none⟩ = some (.int .i64 L) := HK.out.pl.cell 1
  have c2 : W.heap.size + 1 < u.heap.size := HK.out.pl.lt
  clear hN
  refine Code.wp_mono (Q := Exit.then (fun a' w' => ∃ (d c m x : Nat) (s v p : Value), a' = { tmps := #[.int .i64 n, .int .i64 k, undef, undef, .pointer (some ⟨W.heap.size, 0, none⟩), .pointer (some ⟨W.heap.size + 1, 0, none⟩), .pointer (some ⟨x, 0, none⟩), undef, .int .i64 n, .int .i64 n2, .int .i64 k5, .int .i64 P, .int .i64 k, .int .i64 k2, .int .i64 L, .agg #[.int .i64 P, .int .i64 L], .agg #[.int .i64 P, .int .i64 L], .agg #[.int .i64 P, .int .i64 L], .int .i64 N, .pointer (some ⟨d, 0, none⟩), .pointer (some ⟨W.heap.size + 1, 0, none⟩), .int .i64 P, .pointer (some ⟨W.heap.size + 1, 1, none⟩), .int .i64 L, .agg #[s, v, p], .agg (stC P L d (.slice none 0 0) s v p), undef, undef, undef, undef, undef, undef, undef, undef, undef, undef, undef, undef, undef, undef, undef], defers := [] } ∧ Hid (Bn W P L 0 d c m (fun _ => 0) (.slice none 0 0) s v p x w')) (fun _ _ _ => False)) ?_ ?_
  rotate_left
  · have hbk := HK.out
    clear HK
    go_region_held3 (fun V => Bk W P L V ∧ V.cell? ⟨W.heap.size + 1, 0, none⟩ = some (.int .i64 P) ∧ V.cell? ⟨W.heap.size + 1, 1, none⟩ = some (.int .i64 L) ∧ W.heap.size + 1 < V.heap.size)
      ((go_split_ands; exact Bk.all (by repeat (first | with_reducible assumption | with_reducible refine Bk.drew ?_ | with_reducible refine Bk.alloc ?_ _ | with_reducible refine Bk.far ?_ (by first | with_reducible assumption | (simp; omega)) _ _))))
      (first
        | (go_at_call 35; refine (HC _).out.mono ?_; rintro en w5 ⟨rfl, b5⟩
           have s5 : Bk W P L w5 := by go_split_ands; exact Bk.below (by repeat (first | with_reducible assumption | with_reducible refine Bk.drew ?_ | with_reducible refine Bk.alloc ?_ _)) b5
           obtain ⟨-, k0, k1, k2⟩ := s5.all
           try replace HX := Lib.hid (HX.out.below b5 HX.out.lt)
           try have HX : Hid (Has w5 u.heap.size 33 stZ) := Lib.hid ((Has.made u.drew 33 stZ).below b5 (by simp))
           try replace HS := Lib.hid (HS.out.below (by first | exact b5 | exact ((Below.refl _ _).alloc (Nat.le_refl _) _).trans (b5.mono (by simp))))
           try replace HD := Lib.hid (HD.out.below (by first | exact b5 | exact ((Below.refl _ _).alloc (Nat.le_refl _) _).trans (b5.mono (by simp))))
           clear b5)
        | (go_at_call 33; refine (cel.new_calls (H := Unit) N HN2.out _).mono ?_; intro en w6 hP
           have b6 := newpost_below hP
           have s6 : Bk W P L w6 := by go_split_ands; exact Bk.below (by repeat (first | with_reducible assumption | with_reducible refine Bk.drew ?_ | with_reducible refine Bk.alloc ?_ _)) b6
           rw [← HN.out] at hP
           obtain ⟨d, c, m, rfl, hS⟩ := mm_new (P := P) (L := L) (w := W) (by go_split_ands; exact Bk.turn (by repeat (first | with_reducible assumption | with_reducible refine Bk.drew ?_ | with_reducible refine Bk.alloc ?_ _))) hP
           obtain ⟨-, k0, k1, k2⟩ := s6.all
           try replace HX := Lib.hid (HX.out.below b6 HX.out.lt)
           try have HX := Lib.hid ((Has.made _ 33 stZ).below b6 (by simp))
           try replace HS := Lib.hid (HS.out.below (by first | exact b6 | exact ((Below.refl _ _).alloc (Nat.le_refl _) _).trans (b6.mono (by simp))))
           try replace HD := Lib.hid (HD.out.below (by first | exact b6 | exact ((Below.refl _ _).alloc (Nat.le_refl _) _).trans (b6.mono (by simp))))
           have HS := Lib.hid hS
           clear hP b6 hS
           try (have q1 := HD.out; have x0 := HX.out.cell 0; have f0 := HX.out.free 0; have x1 := HX.out.cell 1; have f1 := HX.out.free 1; have x2 := HX.out.cell 2; have f2 := HX.out.free 2; have x3 := HX.out.cell 3; have f3 := HX.out.free 3; have x4 := HX.out.cell 4; have f4 := HX.out.free 4; have x5 := HX.out.cell 5; have f5 := HX.out.free 5; have x6 := HX.out.cell 6; have f6 := HX.out.free 6; clear q1))
        | (go_at_call 37; refine (dnew_calls _ P L HPL.out.1 HPL.out.2.1 HPL.out.2.2).mono ?_; rintro en w7 ⟨s, v, p, rfl, hD, b7⟩
           obtain ⟨gs, os, cs, rfl⟩ := hD.ts
           obtain ⟨gv, ov, cv, rfl⟩ := hD.tw
           obtain ⟨gp, op, cp, rfl⟩ := hD.tp
           have s7 : Bk W P L w7 := by go_split_ands; exact Bk.below (by repeat (first | with_reducible assumption | with_reducible refine Bk.drew ?_ | with_reducible refine Bk.alloc ?_ _)) b7
           obtain ⟨-, k0, k1, k2⟩ := s7.all
           try replace HX := Lib.hid (HX.out.below b7 HX.out.lt)
           try have HX := Lib.hid ((Has.made _ 33 stZ).below b7 (by simp))
           try replace HS := Lib.hid (HS.out.below (by first | exact b7 | exact ((Below.refl _ _).alloc (Nat.le_refl _) _).trans (b7.mono (by simp))))
           try replace HD := Lib.hid (HD.out.below (by first | exact b7 | exact ((Below.refl _ _).alloc (Nat.le_refl _) _).trans (b7.mono (by simp))))
           have HD := Lib.hid hD
           clear b7 hD
           try (have q1 := HS.out; have x0 := HX.out.cell 0; have f0 := HX.out.free 0; have x1 := HX.out.cell 1; have f1 := HX.out.free 1; have x2 := HX.out.cell 2; have f2 := HX.out.free 2; have x3 := HX.out.cell 3; have f3 := HX.out.free 3; have x4 := HX.out.cell 4; have f4 := HX.out.free 4; have x5 := HX.out.cell 5; have f5 := HX.out.free 5; have x6 := HX.out.cell 6; have f6 := HX.out.free 6; clear q1)))
    all_goals
      refine ⟨d, c, m, _, _, _, _, rfl, Lib.hid ?_⟩
    all_goals (first
      | (with_reducible refine Bn.start2 ?_ HPL.out.1 HS.out HD.out HX.out ?_
         · with_reducible assumption
         · with_reducible assumption)
      | (with_reducible refine Bn.start ?_ HPL.out.1 HS.out HD.out
         with_reducible assumption))
  · intro ex a' w' h
    cases ex
    case normal =>
      obtain ⟨d, c, m, x, s, v, p, rfl, HB⟩ := h
      clear HC HN HN2 c0 c1 c2 HK
      obtain ⟨gs, os, cs, rfl⟩ := HB.out.sd.dw.ts
      obtain ⟨gv, ov, cv, rfl⟩ := HB.out.sd.dw.tw
      obtain ⟨gp, op, cp, rfl⟩ := HB.out.sd.dw.tp
      obtain ⟨i0, z0, hi0, hz0, hz1, hz2, hz3⟩ : ∃ i z, Try.prog.info? 52 = some i ∧ i.zero = some z ∧ i.size = 1 ∧ z.cells.size = 1 ∧ i.bytes = 8 := by
        have h2 : (Try.prog.info? 52).map (fun i => (i.zero.map (fun z => z.cells.size), i.size, i.bytes)) = some (some 1, 1, 8) := by kernel_rfl
        obtain ⟨i, hi, e⟩ := Option.map_eq_some_iff.1 h2
        simp at e
        obtain ⟨⟨z, hz, hz2⟩, h3, h4⟩ := e
        exact ⟨i, z, hi, hz, h3, hz2, h4⟩
      have HI0 := Lib.hid hi0
      have HZ0 := Lib.hid hz0
      clear hi0 hz0
      have d0 : w'.cell? ⟨W.heap.size + 1, 0, none⟩ = some (.int .i64 P) := HB.out.pl.cell 0
      go_wp2_with fail
      go_loopw [28] (fun i wr => ∃ (k : Nat) (B : Nat → Nat) (l : Value), i = .int .i64 k ∧ k ≤ P ∧ Hid (Bn W P L k d c m B l (.slice (some ⟨gs, os, none⟩) L cs) (.slice (some ⟨gv, ov, none⟩) P cv) (.slice (some ⟨gp, op, none⟩) P cp) x wr)) (fun i _ => P - (intOf i).toNat)
      case atStart => exact ⟨0, _, _, rfl, Nat.zero_le _, HB⟩
      case round =>
        clear HB d0
        obtain ⟨k, B, l, rfl, hk, HB⟩ := hrel
        have hk0 : (0 : Int) ≤ (k : Int) := by omega
        have e0 : wr.cell? ⟨W.heap.size + 1, 0, none⟩ = some (.int .i64 P) := HB.out.pl.cell 0
        have e1 : wr.cell? ⟨W.heap.size + 1, 1, none⟩ = some (.int .i64 L) := HB.out.pl.cell 1
        have y3 : wr.cell? ⟨x, 3, none⟩ = some l := HB.out.bx.cell 3
        by_cases ht : (k : Int) < (P : Int)
        · have hkP : k < P := by omega
          clear hk
          go_wp2_with fail
          go_region_law (first
            | (refine step_call rfl 34 Try.f34 Try.func34 (by kernel_rfl) (by kernel_rfl) _ _ rfl #[.agg #[.int .i64 P, .int .i64 L], .int .i64 k] ?_ (new_calls P L k _) ?_
               · first | (simp [Act.eval]; done) | (simp [Act.eval, Act.put]; done)
               intro en u5 hp
               obtain ⟨b, rfl, hm⟩ := HB.out.drew.news HB.out.ge hkP hp
               have HM := Lib.hid hm
               have y4 : u5.cell? ⟨x, 3, none⟩ = some l := hm.bx.cell 3
               have y5 : x < u5.heap.size := hm.bx.lt
               clear hm hp
               refine ⟨_, rfl, ?_⟩)
            | (refine step_append_seg _ rfl (.tmp 32) (.tmp 36) 27 rfl 52 i0 z0 1 8 Try.underlying27 HI0.out HZ0.out hz1 hz3 hz2 (by decide) l k (ptrs (up B k b) k) (by simp [Act.eval]) (HM.out.ls.alloc _) ⟨u5.heap.size, 0, none⟩ 1 1 [.pointer (some ⟨up B k b k, 0, none⟩)] (by simp [Act.eval]) rfl (by rw [up_same]; exact World.news_of_block (heap_alloc_new _ _)) (by simp [Value.oneCell']) (by decide) (by unfold maxLen; have := HPL.out; omega) (by have := HPL.out; omega) _ rfl ?_
               intro g off cq w4 hown hgrow hat hlt
               obtain ⟨hn, fr4, c4⟩ := HM.out.more HPL.out.1 hown hgrow hat
               have HN := Lib.hid hn
               clear hn hown hgrow hat))
          all_goals
            go_wp2_with fail
            refine ⟨⟨k + 1, _, _, by rw [Int.natCast_add]; rfl, by omega, HN⟩, ?_⟩
            show P - ((k : Int) + 1).toNat < P - ((k : Int)).toNat
            omega
        · obtain rfl : k = P := by omega
          obtain ⟨gl, ol, cl, rfl⟩ := HB.out.sd.tl (by have := HPL.out; omega)
          have y0 : wr.cell? ⟨x, 0, none⟩ = some (.int .i64 k) := HB.out.bx.cell 0
          have y1 : wr.cell? ⟨x, 1, none⟩ = some (.int .i64 L) := HB.out.bx.cell 1
          have y2 : wr.cell? ⟨x, 2, none⟩ = some (.pointer (some ⟨d, 0, none⟩)) := HB.out.bx.cell 2
          have y4 : wr.cell? ⟨x, 4, none⟩ = some (.slice (some ⟨gs, os, none⟩) L cs) := HB.out.bx.cell 4
          have y5 : wr.cell? ⟨x, 5, none⟩ = some (.slice (some ⟨gv, ov, none⟩) k cv) := HB.out.bx.cell 5
          have y6 : wr.cell? ⟨x, 6, none⟩ = some (.slice (some ⟨gp, op, none⟩) k cp) := HB.out.bx.cell 6
          have HZ := Lib.hid HB.out.rz
          have z0 := HZ.out.cell 0
          have q0 := HZ.out.free 0
          have z1 := HZ.out.cell 1
          have q1 := HZ.out.free 1
          have z2 := HZ.out.cell 2
          have q2 := HZ.out.free 2
          have z3 := HZ.out.cell 3
          have q3 := HZ.out.free 3
          have z4 := HZ.out.cell 4
          have q4 := HZ.out.free 4
          have z5 := HZ.out.cell 5
          have q5 := HZ.out.free 5
          have z6 := HZ.out.cell 6
          have q6 := HZ.out.free 6
          have HE := Lib.hid HB.out.final
          go_wp2_with fail
          refine bodyPost_ret (res_state rfl _ _ W.heap.size _ _ _ _ _ _ _ rfl HE.out.2) rfl ⟨k, L, d, c, m, B, _, _, _, _, HP.out.1, HP.out.2, by have := HL.out; omega, rfl, HE.out.1, HE.out.1.sys.ends⟩
    all_goals exact False.elim h
end Go.Proofs.Ytbpcfkniflgmfaa.prc
