/- SchedFair: for any three numbers the law answers true. Conditions: none. -/
import Derived.Test.YtjfilakhahnpeabSchG
import Derived.Test.YtjfilakhahnpeabSchP
import Derived.Test.YtjfilakhahnpeabMask
import Derived.ProofKit
import Derived.OpenShut
import Derived.ChangeOld
namespace Go.Proofs.Ytjfilakhahnpeab.schedFair
open Go Go.ChangeShapes Go.WideShapes Go.ChangeAt Go.RowKit Go.Proofs.Ytjfilakhahnpeab.sch

/-- The list of paces, so far. -/
structure Fl (w : World) (p : Int) (j : Nat) (u : Value) (W : World) : Prop where
  ints : Ints W u (List.replicate j p)
  new : ∀ b, u.ownBlock = some b → w.heap.size ≤ b
  turn : Turn (fun j => w.heap.size ≤ j) w W

/-- Behind i turns. -/
structure Fr (w : World) (p : Int) (n i : Nat) (s q : Nat) (v : Value) (T : Int) (W : World) : Prop where
  nw : ∃ r, Nw w s q r v (fairA p n i T) W
  inv : Inv (n + 2 * i : Nat) (fairA p n i T).P.length (fairA p n i T)

set_option maxRecDepth 100000 in
set_option maxHeartbeats 4000000 in
theorem fair_any (n0 p0 t0 : Int) (w : World) : Calls Try.prog 5 #[.int .i64 n0, .int .i64 p0, .int .i64 t0] w fun en w' => en = .returned (.bool true) ∧ Below w.heap.size w w' := by
  obtain ⟨i0, z0, hi0, hz0, hz1, hz2, hz3⟩ := Try.zeroInt
  have HI0 := Lib.hid hi0
  have HZ0 := Lib.hid hz0
  obtain ⟨r7, hr7⟩ : ∃ r, r = bits .and .i64 n0 7 := ⟨_, rfl⟩
  obtain ⟨rp, hrp⟩ : ∃ r, r = bits .and .i64 p0 255 := ⟨_, rfl⟩
  have hn : ∃ n : Nat, (n : Int) = 1 + r7 ∧ 0 < n ∧ n ≤ 8 := ⟨(1 + r7).toNat, by rw [mask7] at hr7; omega, by rw [mask7] at hr7; omega, by rw [mask7] at hr7; omega⟩
  obtain ⟨n, hn1, hn2, hn3⟩ := hn
  have hp : 0 < 1 + rp ∧ 1 + rp ≤ 256 := by rw [mask255] at hrp; omega
  obtain ⟨p, hpe⟩ : ∃ p, p = 1 + rp := ⟨_, rfl⟩
  rw [← hpe] at hp
  obtain ⟨hp1, hp2⟩ := hp
  obtain ⟨t1, ht1⟩ : ∃ t1, t1 = if t0 < 0 then 0 else t0 := ⟨_, rfl⟩
  obtain ⟨M, hM1, hM2⟩ : ∃ M : Nat, (M : Int) = (if 100 < t1 then 100 else t1) ∧ M ≤ 100 := ⟨(if 100 < t1 then 100 else t1).toNat, by split at ht1 <;> split <;> omega, by split at ht1 <;> split <;> omega⟩
  have b7 : bits .and .i64 n0 7 = r7 := hr7.symm
  have b255 : bits .and .i64 p0 255 = rp := hrp.symm
  have e7 : IntKind.i64.wrap (1 + r7) = (n : Int) := by rw [← hn1]; exact IntWalk.i64_in _ (by omega)
  have e255 : IntKind.i64.wrap (1 + rp) = p := by rw [← hpe]; exact IntWalk.i64_in _ (by omega)
  have e7' : 1 + r7 = (n : Int) := hn1.symm
  have e255' : 1 + rp = p := hpe.symm
  have m1 : (if t0 < 0 then 0 else t0) = t1 := ht1.symm
  have m2 : (if 100 < t1 then 100 else t1) = (M : Int) := hM1.symm
  clear hi0 hz0 hr7 hrp hn1 hpe ht1 hM1
  go_enter Try.func5, Try.ntmps5
  go_wp2_with (first
    | (go_at_call 6; refine (awake_calls w).mono ?_; rintro en w1 ⟨rfl, b1⟩
       have T1 : Hid (Turn (fun j => w.heap.size ≤ j) w w1) := Lib.hid (Turn.of_below b1 (fun _ _ e => e))
       clear b1)
    | fail)
  clear b7 b255 e7 e255 e7' e255'
  go_name_world W hW
  have F0 : Hid (Fl w p 0 (.slice (some ⟨w1.heap.size, 0, none⟩) 0 0) W) := by
    rw [← hW]
    exact Lib.hid ⟨⟨rfl, .inr ⟨_, 0, #[], rfl, Nat.zero_le _, Has.made w1 3 #[], Nat.le_refl _, Nat.zero_le _, rfl, rfl⟩⟩, fun b hb => by
      have : w1.heap.size = b := by injection hb with hb
      rw [← this]; exact T1.out.size, T1.out.alloc _⟩
  clear hW T1
  generalize (Value.slice (some ⟨w1.heap.size, 0, none⟩) 0 0) = u0 at *
  go_loopw [7, 22] (fun u i wr => ∃ (j : Nat) (u' : Value), u' = u ∧ i = .int .i64 j ∧ j ≤ n ∧ Hid (Fl w p j u' wr)) (fun _ i _ => n - (intOf i).toNat)
  case atStart => exact ⟨0, _, rfl, rfl, Nat.zero_le _, F0⟩
  case round =>
    clear F0
    obtain ⟨j, u, rfl, rfl, hj, HF⟩ := hrel
    by_cases hj1 : j < n
    · have h1 : (j : Int) < (n : Int) := by omega
      have hu : Hid (wr.ownsRow 0 3 1 u j ((List.replicate j p).map (Value.int .i64))) := by
        have := HF.out.ints
        unfold Ints at this
        rw [List.length_replicate] at this
        exact Lib.hid this
      go_wp2_with (first
        | (at_builtin; refine wpList_append_lies _ rfl (.tmp 24) (.tmp 26) 22 rfl 0 3 i0 z0 1 8 Try.underlying22 HI0.out HZ0.out hz1 hz3 hz2 (by decide) u j _ rfl (by exact (hu.out.alloc _)) ⟨wr.heap.size, 0, none⟩ 1 1 [.int .i64 p] rfl rfl (by exact World.news_of_block (Has.made _ _ _)) (by intro u hu; rw [List.mem_singleton.1 hu]; rfl) (by decide) (by unfold maxLen; omega) (by omega) (Nat.zero_le _) _ rfl ?_)
        | fail)
      intro g cap w3 hown hg hat hlt
      have F3 : Hid (Fl w p (j + 1) (.slice (some ⟨g, 0, none⟩) (j + 1) cap) w3) := Lib.hid (by
        refine ⟨?_, fun b hb => ?_, ?_⟩
        · unfold Ints
          rw [List.length_replicate, List.replicate_succ', List.map_append, List.map_replicate]
          exact hown
        · obtain rfl : g = b := by injection hb with hb
          have := HF.out.turn.size
          rcases hat with e | e
          · exact HF.out.new g e
          · omega
        · exact HF.out.turn.trans (((Turn.refl (fun j => u.ownBlock = some j) wr).alloc _).grown hg (fun j e _ => e)) (fun b _ e => HF.out.new b e))
      clear hown hg hat hlt HF hu
      go_wp2_with fail
      refine ⟨⟨j + 1, _, rfl, by rw [Int.natCast_add]; rfl, by omega, F3⟩, ?_⟩
      show n - ((j : Int) + 1).toNat < n - ((j : Int)).toNat
      omega
    · obtain rfl : j = n := by omega
      obtain ⟨a, c, ea⟩ := HF.out.ints.slice
      rw [List.length_replicate] at ea
      subst ea
      go_wp2_with (first
        | (go_at_call 14
           refine (sch.new_calls wr a j c (List.replicate j p) List.length_replicate (by omega) (Sl.of_ints HF.out.ints)).mono ?_
           rintro en w4 ⟨s, q, r, v, rfl, n4⟩
           have N4 : Hid (Fr w p j 0 s q v 0 w4) := Lib.hid (by
             have h1 := (made_inv (List.replicate j p) (by rw [List.length_replicate]; omega)).1
             have h2 := n4.since HF.out.turn
             rw [fair_made p j hp1 (by omega)] at h1 h2
             rw [List.length_replicate] at h1
             exact ⟨⟨r, h2⟩, by simpa using h1⟩)
           clear n4)
        | fail)
      clear HF hj hj1
      go_loopw [34] (fun i wr => ∃ (k : Nat) (T : Int), i = .int .i64 k ∧ k ≤ M ∧ Hid (Fr w p j k s q v T wr)) (fun i _ => M - (intOf i).toNat)
      case atStart => exact ⟨0, 0, rfl, Nat.zero_le _, N4⟩
      case round =>
        clear N4
        obtain ⟨k, T, rfl, hk, HF⟩ := hrel
        by_cases hk1 : k < M
        · have h1 : (k : Int) < (M : Int) := by omega
          obtain ⟨r, hN⟩ := HF.out.nw
          have hS : (fairA p j k T).S = fairAt p j k :: fairFrom p j (k + 1) (j - 1) := fair_first p k hn2
          have hml : k % j < j := Nat.mod_lt _ hn2
          obtain ⟨mi, hmi⟩ : ∃ mi : Int, mi = ((k % j : Nat) : Int) := ⟨_, rfl⟩
          obtain ⟨di, hdi⟩ : ∃ di : Int, di = ((k / j : Nat) : Int) := ⟨_, rfl⟩
          have hdle : k / j ≤ k := Nat.div_le_self _ _
          have HC := Lib.hid (hN.next_some HF.out.inv (by omega) hS (i := k % j) rfl (by show k % j < (List.replicate j p).length; rw [List.length_replicate]; exact hml))
          rw [fair_next p j k T hn2 hp1, ← hmi, ← hdi] at HC
          have HI : Hid (Inv ((j + 2 * (k + 1) : Nat) : Int) (fairA p j (k + 1) (p * (1 + di))).P.length (fairA p j (k + 1) (p * (1 + di)))) := Lib.hid (by
            obtain ⟨i', k1, k2, k3, k4, k5, k6, k7, k8⟩ := HF.out.inv.next hS
            have e : i' = k % j := by have : ((k % j : Nat) : Int) = (i' : Int) := k1; omega
            subst e
            rw [fair_next p j k T hn2 hp1, ← hdi] at k6
            have h7 : (fairA p j k T).P.length = (fairA p j (k + 1) (p * (1 + di))).P.length := rfl
            rw [h7] at k6
            rw [show ((j + 2 * (k + 1) : Nat) : Int) = ((j + 2 * k : Nat) : Int) + 2 by omega]
            exact k6)
          have ht : (k : Int).tmod (j : Int) = mi := by rw [hmi]; exact (Int.ofNat_tmod _ _).symm
          have hd : (k : Int).tdiv (j : Int) = di := by rw [hdi]; exact (Int.ofNat_tdiv _ _).symm
          have hdi0 : 0 ≤ di ∧ di ≤ 100 := by
            obtain ⟨dn, hdn⟩ : ∃ dn, dn = k / j := ⟨_, rfl⟩
            rw [← hdn] at hdi hdle
            omega
          obtain ⟨hdi1, hdi2⟩ := hdi0
          obtain ⟨x, hx⟩ : ∃ x, x = p * (1 + di) := ⟨_, rfl⟩
          have hx0 : 0 ≤ x ∧ x ≤ 100000 := by
            have h1 : p * (1 + di) ≤ 256 * (1 + di) := Int.mul_le_mul_of_nonneg_right hp2 (by omega)
            have h2 : 0 ≤ p * (1 + di) := Int.mul_nonneg (by omega) (by omega)
            omega
          rw [← hx] at HC
          have hw1 : IntKind.i64.wrap (1 + di) = 1 + di := IntWalk.i64_in _ (by omega)
          have hw2 : IntKind.i64.wrap (p * (1 + di)) = x := by rw [← hx]; exact IntWalk.i64_in _ (by omega)
          have hjz : ¬ (j : Int) = 0 := by omega
          have hz : decide ((j : Int) = 0) = false := decide_eq_false hjz
          have hz2 : ((j : Int) == 0) = false := by simpa using hjz
          have hjn : ¬ j = 0 := by omega
          have n1 : (mi != mi) = false := by simp
          have n2 : (x != x) = false := by simp
          have HX := Lib.hid hx
          clear hx hdi hmi hdle hml hS hN
          go_wp2_with (first
            | (go_at_call 19; refine HC.out.mono ?_; rintro en w5 ⟨rfl, r2, n5, rr5, t5⟩
               have N5 := Lib.hid n5
               clear n5 rr5 t5)
            | fail)
          have HK : ∀ nn, Hid (Calls Try.prog 16 #[.pointer (some ⟨s, 0, none⟩)] (w5.drewN nn) fun en w' => en = .returned (.int .i64 x) ∧ w5.drewN nn = w') := fun nn => Lib.hid (tick_calls (N5.out.drewN nn).sc)
          go_quiet ((refine Calls.quiet_of_same ((HK _).out.mono fun _ _ h => ⟨h.1, h.2.symm⟩)))
          go_wp2_with fail
          refine ⟨⟨k + 1, x, by rw [Int.natCast_add]; rfl, by omega, Lib.hid ⟨⟨r2, N5.out.drewN _⟩, by rw [HX.out]; exact HI.out⟩⟩, ?_⟩
          show M - ((k : Int) + 1).toNat < M - ((k : Int)).toNat
          omega
        · obtain rfl : k = M := by omega
          obtain ⟨r, hN⟩ := HF.out.nw
          have N5 := Lib.hid hN
          have HQ := Lib.hid (qs_len q r _ _ wr hN.sc.qs)
          have hl : (fairA p j k T).S.length = j := fairFrom_len p j j k
          rw [hl] at HQ
          have c0 := hN.sc.c0
          clear hl hN HF
          go_wp2_with (first
            | (go_at_call 20; refine HQ.out.mono ?_; rintro en w6 ⟨rfl, rfl⟩)
            | fail)
          go_ret
          exact ⟨rfl, N5.out.ends⟩

theorem walk (a0 : Int) (a1 : Int) (a2 : Int) (w : World) (_w0 : (Lit.int .i64 a0).wf = true) (_w1 : (Lit.int .i64 a1).wf = true) (_w2 : (Lit.int .i64 a2).wf = true) :
    Calls Try.prog 5 #[.int .i64 a0, .int .i64 a1, .int .i64 a2] w fun en w' => en = .returned (.bool true) ∧ Below w.heap.size w w' := fair_any a0 a1 a2 w

theorem own : ownKnob Try.prog.godebug = none := by kernel_rfl
theorem laidOut : laidOutB Try.prog = true := by kernel_rfl

set_option maxRecDepth 100000 in
theorem lifted (os : Os) (started : os.Started) (H : Type) (enc : TypeId × Value → H) :
    ReturnsInHanded {} Try.checked os 5 .any (Rows.schedFairSpec.pre6 enc Try.prog Try.f5 Rows.schedFairRow.domain false) (Rows.schedFairSpec.post enc Try.prog Try.f5 false true false false) := by
  refine returnsInHanded_of_change (C := Try.checked) own started (by kernel_rfl) Try.func5
    (ChangeSpec.witness6 (enc := enc) (C := Try.checked) false ⟨#[], #[.int .i64 0, .int .i64 0, .int .i64 0], []⟩ 8 (by kernel_rfl) (by kernel_rfl) (by kernel_rfl) (by kernel_rfl)) ?_
  intro W base args ds gs before hval0 hW _ _
  have hval : ∀ (j : Nat) t v, Try.f5.params[j]? = some t → args[j]? = some v → Value.okWide Try.prog W .any base t v := hval0
  have hW' := hW
  obtain ⟨p, q, hA0, hV, rfl, _, _⟩ := hW
  have hA : DataW.TrodAll enc Try.prog W 0 (fun _ => true) true Try.f5.params.toList args.toList ds p := hA0
  rw [Try.params5] at hA hval
  obtain ⟨v0, vs0, d0, ds0, p0, q0, hargs, rfl, rfl, h0, r0⟩ := trodAll_cons hA
  obtain ⟨v1, vs1, d1, ds1, p1, q1, rfl, rfl, rfl, h1, r1⟩ := trodAll_cons r0
  obtain ⟨v2, vs2, d2, ds2, p2, q2, rfl, rfl, rfl, h2, r2⟩ := trodAll_cons r1
  obtain ⟨rfl, rfl, rfl⟩ := trodAll_nil r2
  obtain rfl : args = #[v0, v1, v2] := by cases args; simp_all
  obtain ⟨rfl, rfl⟩ := trodVars_none hV
  obtain ⟨a0, rfl, rfl, rfl, w0⟩ := open_int Try.underlying3 (hval 0 3 v0 rfl rfl) h0
  obtain ⟨a1, rfl, rfl, rfl, w1⟩ := open_int Try.underlying3 (hval 1 3 v1 rfl rfl) h1
  obtain ⟨a2, rfl, rfl, rfl, w2⟩ := open_int Try.underlying3 (hval 2 3 v2 rfl rfl) h2
  clear hA0 hval0
  refine (walk a0 a1 a2 W w0 w1 w2).mono fun e W' ⟨he, bel⟩ => ?_
  subst he
  exact ⟨_, rfl, _, _, _, [], _, [], hW', trodAll_mk1 (shut_bool Try.underlying4 _), (trodAll_cons_mk (shut_int Try.underlying3 w0) (trodAll_cons_mk (shut_int Try.underlying3 w1) (trodAll_cons_mk (shut_int Try.underlying3 w2) trodAll_mk0))), rfl, bel.frame _, fun h => by cases h⟩

theorem over : Rows.schedFairRow.holds Try.pinned (OpenSpec.ofChange Rows.schedFairSpec) :=
  OpenClaim.holds_of_wide 5 Try.f5 rfl rfl rfl rfl rfl rfl rfl ⟨rfl, rfl, rfl, rfl, rfl⟩ rfl rfl rfl rfl rfl (by kernel_rfl) Try.func5 (by kernel_rfl)
    (of_decide_eq_true (by kernel_rfl)) (by unfold Func.isWrapper; first | (rw [if_pos (by decide +kernel)]; kernel_rfl) | (rw [if_neg (by decide +kernel)]; exact ⟨rfl, rfl⟩))
    (fun os started H enc _ => lifted os started H enc)

theorem proved : Rows.SchedFairSaid := over

end Go.Proofs.Ytjfilakhahnpeab.schedFair
