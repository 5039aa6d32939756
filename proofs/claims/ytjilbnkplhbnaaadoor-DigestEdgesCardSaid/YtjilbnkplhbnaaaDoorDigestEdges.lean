/- DigestEdges: for every byte and every number the law answers true, and its arguments read afterwards as they did. Conditions: the row lists one package-level variable (digest's table of rounds), which the card ties to the program's text. -/
import Derived.Test.YtjilbnkplhbnaaaDoorDigT
import Derived.Test.YtjilbnkplhbnaaaDoorDigN
import Derived.Test.YtjilbnkplhbnaaaDoorCards
import Derived.Test.YtjilbnkplhbnaaaDoorTie
import Derived.ProofKit
import Derived.OpenShut
import Derived.SevenTiedAt
namespace Go.Proofs.YtjilbnkplhbnaaaDoor.digestEdges
open Go.ChangeShapes Go.WideShapes Go.ChangeAt Go.RowKit Go.Proofs.YtjilbnkplhbnaaaDoor.dig

/-- The bytes when the first k are laid. -/
def laidB (c n k : Nat) : List UInt8 := (List.range k).map (fun i => UInt8.ofNat (c * i)) ++ List.replicate (n - k) 0
theorem laidB_length (c n k : Nat) (h : k ≤ n) : (laidB c n k).length = n := by
  unfold laidB
  simp
  omega
theorem laidB_zero (c n : Nat) : laidB c n 0 = List.replicate n 0 := by simp [laidB]
theorem laidB_step (c n k : Nat) (h : k < n) : (laidB c n k).set k (UInt8.ofNat (c * k)) = laidB c n (k + 1) := by
  unfold laidB
  rw [List.set_append_right _ _ (by simp), show n - k = (n - (k + 1)) + 1 by omega, List.replicate_succ]
  simp [List.range_succ]

set_option maxRecDepth 100000 in
set_option maxHeartbeats 1000000 in
theorem walk (c n : Int) (w : World) (wc : (Lit.int .u8 c).wf = true) (_wn : (Lit.int .i64 n).wf = true) (hR : Rk w) :
    Calls Tryd.prog 12 #[.int .u8 c, .int .i64 n] w fun en w' => en = .returned (.bool true) ∧ Below w.heap.size w w' := by
  have hc0 : 0 ≤ c ∧ c < 256 := by
    simp [Lit.wf, IntKind.min, IntKind.max, IntKind.signed, IntKind.bits] at wc
    omega
  have HR := Lib.hid hR
  have HC := Lib.hid hc0
  clear hR wc hc0
  go_enter Tryd.func12, Tryd.ntmps12
  go_wp2_with fail
  refine (awake_any w HR.out).mono ?_
  rintro en w1 ⟨rfl, b1⟩
  have K1 : Hid (Rk w1 ∧ Below w.heap.size w w1) := Lib.hid ⟨HR.out.below b1, b1⟩
  clear b1
  by_cases hn : 0 ≤ n ∧ n ≤ 400
  · obtain ⟨hn0, hn4⟩ := hn
    obtain ⟨k, rfl⟩ := Int.eq_ofNat_of_zero_le hn0
    go_wp2_with fail
    obtain ⟨W2, hmk, hH, hB⟩ : ∃ W2, (Instr.makeSlice 35 (.int .i64 (k : Int)) (.int .i64 (k : Int))).run Tryd.prog w1 = .ok (.slice (some ⟨w1.heap.size, 0, none⟩) k k) W2 ∧
        Has W2 w1.heap.size 5 (cellsOf (List.replicate k 0)) ∧ Below w1.heap.size w1 W2 := by
      obtain ⟨i0, hi0, e⟩ := Option.map_eq_some_iff.1 byteInfo
      simp only [Prod.mk.injEq] at e
      obtain ⟨hz0, hz1, hz2⟩ := e
      have h := run_make (P := Tryd.prog) w1 35 5 i0 (.int .u8 0) Tryd.underlying35 hi0 hz0 .i64 .i64 (k : Int) (k : Int) (by omega) (by omega) (by rw [hz2]; omega) (by omega)
      rw [Int.toNat_natCast, hz1, Nat.mul_one] at h
      refine ⟨_, h, ?_, (Below.refl _ _).alloc (Nat.le_refl _) _⟩
      have e : madeCells (Value.int .u8 0).cells k = cellsOf (List.replicate k 0) := by
        apply Array.toList_inj.1
        show (madeCells #[Value.int .u8 0] k).toList = _
        rw [toList_madeCells_one]
        simp [cellsOf, byteV]
      rw [e]
      exact made_at _ _ rfl
    rw [hmk]
    simp only [Result.andThen_ok]
    have K2 : Hid (Has W2 w1.heap.size 5 (cellsOf (laidB c.toNat k 0)) ∧ Below w.heap.size w W2) := by rw [laidB_zero]; exact Lib.hid ⟨hH, K1.out.2.trans (hB.mono K1.out.2.size)⟩
    have HG : Hid (w.heap.size ≤ w1.heap.size) := Lib.hid K1.out.2.size
    clear hmk hH hB K1
    generalize w1.heap.size = g at *
    go_wp2_with fail
    go_loopw [23] (fun i wr => ∃ j : Nat, i = .int .i64 j ∧ j ≤ k ∧ Hid (Has wr g 5 (cellsOf (laidB c.toNat k j)) ∧ Below w.heap.size w wr)) (fun i _ => k - (intOf i).toNat)
    case atStart => exact ⟨0, rfl, Nat.zero_le _, K2⟩
    case round =>
      obtain ⟨j, rfl, hj, HB⟩ := hrel
      clear K2
      by_cases hjk : j < k
      · have hj1 : (j : Int) < (k : Int) := by omega
        have hj0 : (0 : Int) ≤ (j : Int) := by omega
        obtain ⟨v0, c0⟩ : ∃ v, wr.cell? ⟨g, j, none⟩ = some v := by
          rw [HB.out.1.cell]
          exact ⟨_, Array.getElem?_eq_getElem (by rw [cellsOf_size, laidB_length _ _ _ hj]; exact hjk)⟩
        have f0 : wr.frozen? ⟨g, j, none⟩ = false := HB.out.1.free _
        go_wp2_with fail
        have hcc := HC.out
        have hL := laidB_length c.toNat k j hj
        have hv : (Value.int .u8 (c * ((j : Int) % 256) % 256)) = byteV (UInt8.ofNat (c.toNat * j)) := by
          have e1 : ((UInt8.ofNat (c.toNat * j)).toNat : Int) = c * ((j : Int) % 256) % 256 := by
            obtain ⟨d, rfl⟩ := Int.eq_ofNat_of_zero_le hcc.1
            rw [UInt8.toNat_ofNat', Int.toNat_natCast]
            have e : d * j % 2 ^ 8 = d * (j % 256) % 256 := (Nat.mul_mod_mod ..).symm
            rw [e]
            push_cast
            rfl
          exact congrArg (Value.int .u8) e1.symm
        rw [hv]
        have k1 := HB.out.1.put j (byteV (UInt8.ofNat (c.toNat * j)))
        rw [cellsOf_set, laidB_step _ _ _ hjk] at k1
        have k2 := HB.out.2.setCell (p := ⟨g, j, none⟩) HG.out (byteV (UInt8.ofNat (c.toNat * j)))
        refine ⟨⟨j + 1, by rw [Int.natCast_add]; rfl, by omega, Lib.hid ⟨k1, k2⟩⟩, ?_⟩
        show k - ((j : Int) + 1).toNat < k - (j : Int).toNat
        omega
      · obtain rfl : j = k := by omega
        have hL := laidB_length c.toNat j j (Nat.le_refl _)
        have HB2 : Hid (Has wr g 5 (cellsOf (laidB c.toNat j j)) ∧ Below w.heap.size w wr) := HB
        generalize laidB c.toNat j j = L at *
        have ht := run_str_arr (P := Tryd.prog) 35 9 5 Tryd.underlying35 Tryd.underlying5 Tryd.underlying9 g 5 L j wr HB2.out.1
        rw [hL] at ht
        have HL := Lib.hid hL
        clear hL HB
        go_wp2_with fail
        have hsz : (⟨L.toArray⟩ : ByteArray).size < 1000000000000000000 := by rw [size_list, str_of_list, HL.out]; omega
        refine (of_calls _ wr (HR.out.below HB2.out.2) hsz).mono ?_
        rw [str_of_list]
        rintro en w3 ⟨rfl, b3⟩
        have h3 : Has w3 g 5 (cellsOf L) ∧ Below w.heap.size w w3 := ⟨HB2.out.1.below b3 HB2.out.1.lt, HB2.out.2.trans (b3.mono HB2.out.2.size)⟩
        have K3 := Lib.hid h3
        clear h3 b3 HB2 ht
        have hsl := sum_length L
        have hsc : (cellsOf (sum L)).size = 32 := by rw [cellsOf_size, hsl]
        have HSC := Lib.hid hsc
        have HSL := Lib.hid hsl
        clear hsl hsc
        go_wp2_with (first
          | (refine wpList_store_cells (o := ⟨none, _, _, _, _, _⟩) rfl 32 _ _ rfl w3.heap.size (cellsOf (sum L)) _ rfl rfl _ (made_at _ _ rfl) (HSC.out.symm ▸ (by kernel_rfl)) (HSC.out.symm ▸ rfl) (cellsOf_one _) ?_; intro W4 HW4 TW4;
             (have h4 : Has W4 g 5 (cellsOf L) := (K3.out.1.alloc _).turn TW4 (by have := K3.out.1.lt; omega));
             (have hb4 : Below w.heap.size w W4 := (K3.out.2.alloc K3.out.2.size _).trans (TW4.below (by have := K3.out.2.size; simp; omega) (fun j hj e => by have := K3.out.2.size; omega)));
             (have K4 := Lib.hid (And.intro HW4 (And.intro h4 hb4)));
             clear K3 HW4 TW4 h4 hb4)
          | fail)
        obtain ⟨R, hR⟩ : ∃ R, R = sum L := ⟨_, rfl⟩
        obtain ⟨gs, hgs⟩ : ∃ gs, gs = w3.heap.size := ⟨_, rfl⟩
        have HRR := Lib.hid hR
        have HRL : Hid (R.length = 32) := by rw [hR]; exact HSL
        have K5 : Hid (Has W4 gs 32 (cellsOf R) ∧ Has W4 g 5 (cellsOf L) ∧ Below w.heap.size w W4) := by rw [hR, hgs]; exact K4
        rw [← hgs]
        clear K4 HSL HSC hR hgs
        refine wp_region_S (S := fun V => Has V gs 32 (cellsOf R) ∧ Has V g 5 (cellsOf L) ∧ Below w.heap.size w V) (by kernel_rfl) ⟨K5.out.1.drew, K5.out.2.1.drew, K5.out.2.2.drew⟩ ?_
        refine AnyS.pure 0 (some 37) (v := .slice (some ⟨gs, 0, none⟩) 32 32) rfl rfl (by kernel_rfl) (by kernel_rfl) (by kernel_rfl) (fun _ _ _ h => h) (by kernel_rfl) (fun V hV => by go_simp) ?_
        refine AnyS.pure 2 (some 39) (v := .slice (some ⟨g, 0, none⟩) j j) rfl rfl (by kernel_rfl) (by kernel_rfl) (by kernel_rfl) (fun _ _ _ h => h) (by kernel_rfl) (fun V hV => by go_simp) ?_
        simp only [Act.put, List.setIfInBounds_toArray, List.set_cons_zero, List.set_cons_succ]
        refine AnyS.pure 1 (some 38) (v := .string ⟨R.toArray⟩) rfl rfl (by kernel_rfl) (by kernel_rfl) (by kernel_rfl) (fun _ _ _ h => h) (by kernel_rfl) (fun V hV => by have ht := run_str_arr (P := Tryd.prog) 35 9 5 Tryd.underlying35 Tryd.underlying5 Tryd.underlying9 gs _ R 32 V hV.1; rw [HRL.out] at ht; go_simp) ?_
        refine AnyS.pure 3 (some 40) (v := .string ⟨L.toArray⟩) rfl rfl (by kernel_rfl) (by kernel_rfl) (by kernel_rfl) (fun _ _ _ h => h) (by kernel_rfl) (fun V hV => by have ht := run_str_arr (P := Tryd.prog) 35 9 5 Tryd.underlying35 Tryd.underlying5 Tryd.underlying9 g _ L j V hV.2.1; rw [HL.out] at ht; go_simp) ?_
        refine AnyS.call 4 (some 41) (.string ⟨R.toArray⟩) rfl rfl (by kernel_rfl) (by kernel_rfl) (by kernel_rfl) (fun _ _ _ h => h) (by kernel_rfl) 44 Tryd.f44 Tryd.func44 (by kernel_rfl) (by kernel_rfl) _ _ rfl #[.string ⟨L.toArray⟩] (by first | (simp [Act.eval]; done) | (simp [Act.eval, Act.put]; done)) (fun V hV => (rof_calls ⟨L.toArray⟩ (by rw [size_list, str_of_list, HL.out]; omega) V).mono (fun _ _ h => ⟨by rw [h.1, str_of_list, HRR.out], hV.1.below h.2 hV.1.lt, hV.2.1.below h.2 hV.2.1.lt, hV.2.2.trans (h.2.mono hV.2.2.size)⟩)) ?_
        simp only [Act.put, List.setIfInBounds_toArray, List.set_cons_zero, List.set_cons_succ]
        refine AnyS.pure 5 (some 42) (v := .bool true) rfl rfl (by kernel_rfl) (by kernel_rfl) (by kernel_rfl) (fun _ _ _ h => h) (by kernel_rfl) (fun V _ => by go_simp) ?_
        refine AnyS.pure 6 (some 4) (v := .bool true) rfl rfl (by kernel_rfl) (by kernel_rfl) (by kernel_rfl) (fun _ _ _ h => h) (by kernel_rfl) (fun V _ => by go_simp) ?_
        refine AnyS.done (by kernel_rfl) (fun V hV => ?_) _
        have K6 := Lib.hid hV.2.2
        clear hV K5
        go_wp2_with fail
        go_ret
        exact ⟨rfl, K6.out⟩
  · have hx : n < 0 ∨ (0 ≤ n ∧ 400 < n) := by omega
    clear hn
    rcases hx with h1 | ⟨h1, h2⟩
    all_goals
      go_wp2_with fail
      refine (awake_any w1 K1.out.1).mono ?_
      rintro en w2 ⟨rfl, b2⟩
      have K2 := Lib.hid (K1.out.2.trans (b2.mono K1.out.2.size))
      clear b2 K1
      go_wp2_with fail
      go_ret
      exact ⟨rfl, K2.out⟩

theorem own : ownKnob Tryd.prog.godebug = none := by kernel_rfl
theorem laidOut : laidOutB Tryd.prog = true := by kernel_rfl

set_option maxRecDepth 100000 in
theorem lifted (os : Os) (started : os.Started) (H : Type) (enc : TypeId × Value → H) :
    ReturnsInHanded {} Tryd.checked os 12 .any (fun w args => (Rows.digestEdgesSpec.pre enc Tryd.prog Tryd.f12 [] false w args ∧ laidMetH Tryd.prog Rows.digestEdgesRow.laid w) ∧ sizedMet enc Tryd.prog Tryd.f12 (OpenSpec.ofChange Rows.digestEdgesSpec) false w args)
      (Rows.digestEdgesSpec.post enc Tryd.prog Tryd.f12 false true false false) := by
  refine returnsInHanded_of_change_and (C := Tryd.checked) (X := fun w _ => laidMetH Tryd.prog Rows.digestEdgesRow.laid w) (fun _ _ _ hh h => h.of_heap hh) own started (by kernel_rfl) Tryd.func12
    (ChangeSpec.witness_shaped (enc := enc) (C := Tryd.checked) (os := os) (X := fun w _ => laidMetH Tryd.prog Rows.digestEdgesRow.laid w) false (World.doorLaid Tryd.prog 31 os) #[.int .u8 0, .int .i64 0] 8 rfl (door_shaped os _) (by kernel_rfl) (by kernel_rfl) (by kernel_rfl) (door_met os _)) ?_
  intro W base args ds gs before hval0 hW _ _ hL _
  have hval : ∀ (j : Nat) t v, Tryd.f12.params[j]? = some t → args[j]? = some v → Value.okWide Tryd.prog W .any base t v := hval0
  have hW' := hW
  obtain ⟨p, q, hA0, hV, rfl, _, _⟩ := hW
  have hA : DataW.TrodAll enc Tryd.prog W 0 (fun _ => true) true Tryd.f12.params.toList args.toList ds p := hA0
  rw [Tryd.params12] at hA hval
  obtain ⟨v0, vs0, d0, ds0, p0, q0, hargs, rfl, rfl, h0, r0⟩ := trodAll_cons hA
  obtain ⟨v1, vs1, d1, ds1, p1, q1, rfl, rfl, rfl, h1, r1⟩ := trodAll_cons r0
  obtain ⟨rfl, rfl, rfl⟩ := trodAll_nil r1
  obtain rfl : args = #[v0, v1] := by cases args; simp_all
  obtain ⟨rfl, rfl⟩ := trodVars_none hV
  obtain ⟨a0, rfl, rfl, rfl, w0⟩ := open_int Tryd.underlying5 (hval 0 5 v0 rfl rfl) h0
  obtain ⟨a1, rfl, rfl, rfl, w1⟩ := open_int Tryd.underlying3 (hval 1 3 v1 rfl rfl) h1
  clear hA0 hval0
  refine (walk a0 a1 W w0 w1 (rk_of_laid (rest := []) hL)).mono fun e W' ⟨he, bel⟩ => ?_
  subst he
  exact ⟨_, rfl, _, _, _, [], _, [], hW', trodAll_mk1 (shut_bool Tryd.underlying4 _), (trodAll_cons_mk (shut_int Tryd.underlying5 w0) (trodAll_cons_mk (shut_int Tryd.underlying3 w1) trodAll_mk0)), rfl, bel.frame _, fun h => by cases h⟩

theorem over : Rows.digestEdgesRow.holds Tryd.pinned (OpenSpec.ofChange Rows.digestEdgesSpec) :=
  OpenClaim.holds_of_wide 12 Tryd.f12 rfl rfl rfl rfl rfl rfl rfl ⟨rfl, rfl, rfl, rfl, rfl⟩ rfl rfl rfl rfl rfl (by kernel_rfl) Tryd.func12 (by kernel_rfl)
    (of_decide_eq_true (by kernel_rfl)) (by unfold Func.isWrapper; first | (rw [if_pos (by decide +kernel)]; kernel_rfl) | (rw [if_neg (by decide +kernel)]; exact ⟨rfl, rfl⟩))
    (fun os started H enc _ => lifted os started H enc)

theorem plain (f : FuncId) (fn : Func) (hf : Tryd.pinned.checked.prog.funcNamed "hindsight/hindsightlaw01.DigestEdges" = some f) (hfn : Tryd.pinned.checked.prog.funcs[f]? = some fn) :
    (true : Bool) = Tryd.pinned.checked.prog.looks [] ∧ ∀ (j : Nat) t, fn.params[j]? = some t → Tryd.pinned.checked.prog.wantsStandIn t = false := by
  obtain rfl : f = 12 := Option.some.inj ((show Tryd.prog.funcNamed "hindsight/hindsightlaw01.DigestEdges" = some 12 by kernel_rfl).symm.trans hf) |>.symm
  obtain rfl : fn = Tryd.f12 := (Option.some.inj (Tryd.func12.symm.trans hfn)).symm
  refine ⟨by kernel_rfl, fun j t ht => ?_⟩
  rw [Tryd.params12] at ht
  have hm := Array.mem_of_getElem? ht
  simp only [List.mem_toArray, List.mem_cons, List.not_mem_nil, or_false] at hm
  rcases hm with rfl | rfl
  · exact (show Tryd.prog.wantsStandIn 5 = false by kernel_rfl)
  · exact (show Tryd.prog.wantsStandIn 3 = false by kernel_rfl)

theorem card : Rows.DigestEdgesCardSaid :=
  Claim7.holds_tied_plain_at .later [] _ _ _ _ over (fun _ h => by cases h) (by kernel_rfl) (fun _ h => by cases h) digestEdges_row_tie rfl ⟨rfl, rfl⟩ (by kernel_rfl) rfl plain (by kernel_rfl)

theorem proved : Rows.DigestEdgesCardSaid := card
end Go.Proofs.YtjilbnkplhbnaaaDoor.digestEdges
