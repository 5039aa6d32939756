/- DigestOf: for every string the law answers true, and its argument reads afterwards as it did. Conditions: the row lists one package-level variable (digest's table of rounds), which the card ties to the program's text. -/
import Derived.Test.YtjilbnkplhbnaaaDoorDigT
import Derived.Test.YtjilbnkplhbnaaaDoorDigN
import Derived.Test.YtjilbnkplhbnaaaDoorAny
import Derived.Test.YtjilbnkplhbnaaaDoorCards
import Derived.Test.YtjilbnkplhbnaaaDoorTie
import Derived.ProofKit
import Derived.ShutString
import Derived.OpenShut
import Derived.SevenTiedAt
namespace Go.Proofs.YtjilbnkplhbnaaaDoor.digestOf
open Go.ChangeShapes Go.WideShapes Go.ChangeAt Go.RowKit Go.Proofs.YtjilbnkplhbnaaaDoor.dig Go.ChangeMaps

def Stay (p : Prop) : Prop := p
theorem stay {p : Prop} (h : Stay p) : p := h

/-- The sixteen digits. -/
def D16 : ByteArray := ⟨#[48, 49, 50, 51, 52, 53, 54, 55, 56, 57, 97, 98, 99, 100, 101, 102]⟩
theorem digits_all : (List.range 16).all (fun h => (D16.extract h (h + 1)).data.toList == [dig1 (UInt8.ofNat h)]) = true := by kernel_rfl
theorem digit_at (h : Nat) (hh : h < 16) : D16.extract h (h + 1) = ⟨#[dig1 (UInt8.ofNat h)]⟩ := by
  have h1 := List.all_eq_true.1 digits_all h (List.mem_range.2 hh)
  exact str_eta _ [_] (by simpa using h1)

set_option maxRecDepth 100000 in
set_option maxHeartbeats 1000000 in
theorem walk (s : ByteArray) (w : World) (hs : s.size ≤ maxLen) (hR : Rk w) :
    Calls Tryd.prog 10 #[.string s] w fun en w' => en = .returned (.bool true) ∧ Below w.heap.size w w' := by
  have HR := Lib.hid hR
  have HS := Lib.hid hs
  clear hR hs
  go_enter Tryd.func10, Tryd.ntmps10
  go_wp2_with fail
  refine (cut_any s 300 w (by omega) HS.out).mono ?_
  rintro en w1 ⟨rfl, rfl⟩
  obtain ⟨t, ht, hts⟩ := cut_size s 300
  rw [ht]
  have HTS := Lib.hid hts
  clear ht hts HS
  go_wp2_with fail
  refine (of_calls t w HR.out (by have := HTS.out; omega)).mono ?_
  rintro en w3 ⟨rfl, b3⟩
  have K3 := Lib.hid b3
  clear b3
  have hsl := sum_length t.data.toList
  have hsc : (cellsOf (sum t.data.toList)).size = 32 := by rw [cellsOf_size, hsl]
  obtain ⟨R, hRR⟩ : ∃ R, R = sum t.data.toList := ⟨_, rfl⟩
  rw [← hRR] at hsl hsc ⊢
  have HRR := Lib.hid hRR
  have HSC := Lib.hid hsc
  have HSL := Lib.hid hsl
  clear hsl hsc hRR
  go_wp2_with (first
    | ((with_reducible refine at_op 12 ?_); refine stay ?_)
    | (refine wpList_store_cells (o := ⟨none, _, _, _, _, _⟩) rfl 32 _ _ rfl w3.heap.size (cellsOf R) _ rfl rfl _ (made_at _ _ rfl) (HSC.out.symm ▸ (by kernel_rfl)) (HSC.out.symm ▸ rfl) (cellsOf_one _) ?_; intro W4 HW4 TW4;
       (have hb4 : Below w.heap.size w W4 := (K3.out.alloc K3.out.size _).trans (TW4.below (by have := K3.out.size; simp; omega) (fun j hj e => by have := K3.out.size; omega)));
       (obtain ⟨gs, hgs⟩ : ∃ gs, gs = w3.heap.size := ⟨_, rfl⟩);
       (rw [← hgs] at HW4 ⊢);
       (have K4 := Lib.hid (And.intro HW4 hb4));
       clear K3 HW4 TW4 hb4 hgs)
    | fail)
  unfold Stay
  refine wpList_load_arr (o := ⟨some 12, _, _, _, _, _⟩) rfl 32 _ rfl gs rfl _ R 5 32 K4.out.1 Tryd.underlying32 (by kernel_rfl) HSL.out ?_
  go_wp2_with fail
  have Z0 : Hid (Has W4 gs 32 (cellsOf R) ∧ Below w.heap.size w W4) := K4
  clear K4
  have hd0 : (⟨#[]⟩ : ByteArray) = ⟨(hex (R.take 0)).toArray⟩ := rfl
  go_loopw [5, 13] (fun v i wr => ∃ k : Nat, i = .int .i64 k ∧ k ≤ 32 ∧ v = .string ⟨(hex (R.take k)).toArray⟩ ∧ Hid (Has wr gs 32 (cellsOf R) ∧ Below w.heap.size w wr)) (fun _ i _ => 32 - (intOf i).toNat)
  case atStart => exact ⟨0, rfl, by omega, rfl, Z0⟩
  case round =>
    obtain ⟨k, rfl, hk, rfl, HB⟩ := hrel
    clear Z0
    by_cases hkl : k < 32
    · have hk1 : (k : Int) < 32 := by omega
      obtain ⟨c, hc⟩ : ∃ c, R[k]? = some c := ⟨_, List.getElem?_eq_getElem (by rw [HSL.out]; exact hkl)⟩
      have hidx : ∀ w, (Instr.index 32 (.agg (cellsOf R)) (.int .i64 k)).run Tryd.prog w = .ok (.int .u8 (c.toNat : Nat)) w :=
        run_index_arr 32 5 32 (cellsOf R) .i64 k _ Tryd.underlying32 (by kernel_rfl) (by kernel_rfl) hkl (cells_at R k c hc)
      have hct := c.toNat_lt
      have HST := Lib.hid (hex_step R k c hc)
      obtain ⟨hi, ehi⟩ : ∃ hi, hi = c.toNat / 16 := ⟨_, rfl⟩
      obtain ⟨lo, elo⟩ : ∃ lo, lo = c.toNat % 16 := ⟨_, rfl⟩
      have d1 : dig1 (UInt8.ofNat hi) = dig1 (c / 16) := by
        congr 1
        apply UInt8.toNat_inj.1
        simp
        omega
      have d2 : dig1 (UInt8.ofNat lo) = dig1 (c % 16) := by
        congr 1
        apply UInt8.toNat_inj.1
        simp
        omega
      have s1 := digit_at hi (by omega)
      have s2 := digit_at lo (by omega)
      rw [d1] at s1
      rw [d2] at s2
      obtain ⟨x1, ex1⟩ : ∃ x1, x1 = dig1 (c / 16) := ⟨_, rfl⟩
      obtain ⟨x2, ex2⟩ : ∃ x2, x2 = dig1 (c % 16) := ⟨_, rfl⟩
      rw [← ex1] at s1
      rw [← ex2] at s2
      rw [← ex1, ← ex2] at HST
      obtain ⟨y, ey⟩ : ∃ y : Int, y = (c.toNat : Int) := ⟨_, rfl⟩
      rw [← ey] at hidx
      have q1 : IntKind.u8.wrap (y.tdiv 16) = (hi : Int) := by rw [ey, Int.tdiv_eq_ediv_of_nonneg (by omega)]; show ((c.toNat : Int) / 16) % 256 = _; omega
      have q2 : IntKind.u8.wrap (y.tmod 16) = (lo : Int) := by rw [ey, Int.tmod_eq_emod_of_nonneg (by omega)]; show ((c.toNat : Int) % 16) % 256 = _; omega
      have q3 : IntKind.u8.wrap ((hi : Int) + 1) = ((hi + 1 : Nat) : Int) := by show ((hi : Int) + 1) % 256 = _; omega
      have q4 : IntKind.u8.wrap ((lo : Int) + 1) = ((lo + 1 : Nat) : Int) := by show ((lo : Int) + 1) % 256 = _; omega
      have HT : Hid (y.tmod 16 = (lo : Int)) := by rw [ey, Int.tmod_eq_emod_of_nonneg (by omega)]; exact Lib.hid (by omega)
      have hh : hi < 16 := by omega
      have hl : lo < 16 := by omega
      have HS1 := Lib.hid s1
      have HS2 := Lib.hid s2
      have HQ := Lib.hid (And.intro q1 (And.intro q2 (And.intro q3 q4)))
      have HH := Lib.hid (And.intro hh hl)
      obtain ⟨A, hA⟩ : ∃ A : ByteArray, A = ⟨(hex (R.take k)).toArray⟩ := ⟨_, rfl⟩
      rw [← hA]
      have HA := Lib.hid hA
      have HAS : Hid (A.size ≤ 64) := by rw [hA, size_list, str_of_list, hex_length, List.length_take]; exact Lib.hid (by omega)
      clear hc hct ehi elo d1 d2 s1 s2 ex1 ex2 ey q1 q2 q3 q4 hh hl hA
      go_wp2_with fail
      have HB0 := HB
      clear hidx
      refine wp_region_S (S := fun V => Has V gs 32 (cellsOf R) ∧ Below w.heap.size w V) (by kernel_rfl) ⟨HB.out.1.drew, HB.out.2.drew⟩ ?_
      refine AnyS.pure 0 (some 16) (v := .string A) rfl rfl (by kernel_rfl) (by kernel_rfl) (by kernel_rfl) (fun _ _ _ h => h) (by kernel_rfl) (fun V _ => by go_simp) ?_
      refine AnyS.pure 1 (some 17) (v := .string D16) rfl rfl (by kernel_rfl) (by kernel_rfl) (by kernel_rfl) (fun _ _ _ h => h) (by kernel_rfl) (fun V _ => by unfold D16; go_simp) ?_
      refine AnyS.pure 2 (some 18) (v := .int .u8 y) rfl rfl (by kernel_rfl) (by kernel_rfl) (by kernel_rfl) (fun _ _ _ h => h) (by kernel_rfl) (fun V _ => by go_simp) ?_
      refine AnyS.pure 3 (some 19) (v := .int .u8 hi) rfl rfl (by kernel_rfl) (by kernel_rfl) (by kernel_rfl) (fun _ _ _ h => h) (by kernel_rfl) (fun V _ => by have q := HQ.out.1; go_simp) ?_
      refine AnyS.pure 4 (some 20) (v := .int .u8 y) rfl rfl (by kernel_rfl) (by kernel_rfl) (by kernel_rfl) (fun _ _ _ h => h) (by kernel_rfl) (fun V _ => by go_simp) ?_
      refine AnyS.pure 5 (some 21) (v := .int .u8 hi) rfl rfl (by kernel_rfl) (by kernel_rfl) (by kernel_rfl) (fun _ _ _ h => h) (by kernel_rfl) (fun V _ => by have q := HQ.out.1; go_simp) ?_
      refine AnyS.pure 6 (some 22) (v := .int .u8 ((hi + 1 : Nat) : Int)) rfl rfl (by kernel_rfl) (by kernel_rfl) (by kernel_rfl) (fun _ _ _ h => h) (by kernel_rfl) (fun V _ => by have q := HQ.out.2.2.1; go_simp) ?_
      simp only [Act.put, List.setIfInBounds_toArray, List.set_cons_zero, List.set_cons_succ]
      refine AnyS.pure 7 (some 23) (v := .string ⟨#[x1]⟩) rfl rfl (by kernel_rfl) (by kernel_rfl) (by kernel_rfl) (fun _ _ _ h => h) (by kernel_rfl) (fun V _ => by rw [← HS1.out]; have hh := HH.out.1; have hz : D16.size = 16 := rfl; generalize D16 = D at *; go_simp; rw [if_pos (by omega), if_pos (by omega)]) ?_
      refine AnyS.pure 8 (some 24) (v := .string D16) rfl rfl (by kernel_rfl) (by kernel_rfl) (by kernel_rfl) (fun _ _ _ h => h) (by kernel_rfl) (fun V _ => by unfold D16; go_simp) ?_
      refine AnyS.pure 9 (some 25) (v := .int .u8 y) rfl rfl (by kernel_rfl) (by kernel_rfl) (by kernel_rfl) (fun _ _ _ h => h) (by kernel_rfl) (fun V _ => by go_simp) ?_
      refine AnyS.pure 10 (some 26) (v := .int .u8 lo) rfl rfl (by kernel_rfl) (by kernel_rfl) (by kernel_rfl) (fun _ _ _ h => h) (by kernel_rfl) (fun V _ => by go_simp; exact HT.out) ?_
      refine AnyS.pure 11 (some 27) (v := .int .u8 y) rfl rfl (by kernel_rfl) (by kernel_rfl) (by kernel_rfl) (fun _ _ _ h => h) (by kernel_rfl) (fun V _ => by go_simp) ?_
      refine AnyS.pure 12 (some 28) (v := .int .u8 lo) rfl rfl (by kernel_rfl) (by kernel_rfl) (by kernel_rfl) (fun _ _ _ h => h) (by kernel_rfl) (fun V _ => by go_simp; exact HT.out) ?_
      refine AnyS.pure 13 (some 29) (v := .int .u8 ((lo + 1 : Nat) : Int)) rfl rfl (by kernel_rfl) (by kernel_rfl) (by kernel_rfl) (fun _ _ _ h => h) (by kernel_rfl) (fun V _ => by have q := HQ.out.2.2.2; go_simp) ?_
      simp only [Act.put, List.setIfInBounds_toArray, List.set_cons_zero, List.set_cons_succ]
      refine AnyS.pure 14 (some 30) (v := .string ⟨#[x2]⟩) rfl rfl (by kernel_rfl) (by kernel_rfl) (by kernel_rfl) (fun _ _ _ h => h) (by kernel_rfl) (fun V _ => by rw [← HS2.out]; have hh := HH.out.2; have hz : D16.size = 16 := rfl; generalize D16 = D at *; go_simp; rw [if_pos (by omega), if_pos (by omega)]) ?_
      refine AnyS.pure 15 (some 31) (v := .string (⟨#[x1]⟩ ++ ⟨#[x2]⟩)) rfl rfl (by kernel_rfl) (by kernel_rfl) (by kernel_rfl) (fun _ _ _ h => h) (by kernel_rfl) (fun V _ => by go_simp) ?_
      refine AnyS.pure 16 (some 32) (v := .string (A ++ (⟨#[x1]⟩ ++ ⟨#[x2]⟩))) rfl rfl (by kernel_rfl) (by kernel_rfl) (by kernel_rfl) (fun _ _ _ h => h) (by kernel_rfl) (fun V _ => by have := HAS.out; go_simp; omega) ?_
      refine AnyS.pure 17 (some 5) (v := .string (A ++ (⟨#[x1]⟩ ++ ⟨#[x2]⟩))) rfl rfl (by kernel_rfl) (by kernel_rfl) (by kernel_rfl) (fun _ _ _ h => h) (by kernel_rfl) (fun V _ => by go_simp) ?_
      simp only [Act.put, List.setIfInBounds_toArray, List.set_cons_zero, List.set_cons_succ]
      refine AnyS.done (by kernel_rfl) (fun V hV => ?_) _
      have K6 := Lib.hid hV
      have hcat : A ++ ((⟨#[x1]⟩ : ByteArray) ++ ⟨#[x2]⟩) = ⟨(hex (R.take (k + 1))).toArray⟩ := str_eta _ _ (by rw [append_list, append_list, HA.out, str_of_list, HST.out]; rfl)
      rw [hcat]
      clear hV hcat HB HB0
      go_wp2_with fail
      refine ⟨⟨k + 1, by rw [Int.natCast_add]; rfl, by omega, rfl, K6⟩, ?_⟩
      show 32 - ((k : Int) + 1).toNat < 32 - (k : Int).toNat
      omega
    · obtain rfl : k = 32 := by omega
      rw [List.take_of_length_le (by rw [HSL.out]; omega)]
      go_wp2_with fail
      refine wp_region_S (S := fun V => Has V gs 32 (cellsOf R) ∧ Below w.heap.size w V) (by kernel_rfl) ⟨HB.out.1.drew, HB.out.2.drew⟩ ?_
      refine AnyS.call 0 (some 34) (.bool true) rfl rfl (by kernel_rfl) (by kernel_rfl) (by kernel_rfl) (fun _ _ _ h => h) (by kernel_rfl) 43 Tryd.f43 Tryd.func43 (by kernel_rfl) (by kernel_rfl) _ _ rfl #[] (by simp) (fun V hV => (awake_any V (HR.out.below hV.2)).mono (fun _ _ h => ⟨h.1, hV.1.below h.2 hV.1.lt, hV.2.trans (h.2.mono hV.2.size)⟩)) ?_
      simp only [Act.put, List.setIfInBounds_toArray, List.set_cons_zero, List.set_cons_succ]
      refine AnyS.pure 1 (some 35) (v := .bool true) rfl rfl (by kernel_rfl) (by kernel_rfl) (by kernel_rfl) (fun _ _ _ h => h) (by kernel_rfl) (fun V hV => by go_simp) ?_
      refine AnyS.pure 2 (some 36) (v := .slice (some ⟨gs, 0, none⟩) 32 32) rfl rfl (by kernel_rfl) (by kernel_rfl) (by kernel_rfl) (fun _ _ _ h => h) (by kernel_rfl) (fun V hV => by go_simp) ?_
      refine AnyS.pure 3 (some 37) (v := .string ⟨R.toArray⟩) rfl rfl (by kernel_rfl) (by kernel_rfl) (by kernel_rfl) (fun _ _ _ h => h) (by kernel_rfl) (fun V hV => by have ht := run_str_arr (P := Tryd.prog) 35 9 5 Tryd.underlying35 Tryd.underlying5 Tryd.underlying9 gs _ R 32 V hV.1; rw [HSL.out] at ht; go_simp) ?_
      refine AnyS.pure 4 (some 38) (v := .string t) rfl rfl (by kernel_rfl) (by kernel_rfl) (by kernel_rfl) (fun _ _ _ h => h) (by kernel_rfl) (fun V hV => by go_simp) ?_
      refine AnyS.call 5 (some 39) (.string ⟨R.toArray⟩) rfl rfl (by kernel_rfl) (by kernel_rfl) (by kernel_rfl) (fun _ _ _ h => h) (by kernel_rfl) 44 Tryd.f44 Tryd.func44 (by kernel_rfl) (by kernel_rfl) _ _ rfl #[.string t] (by first | (simp [Act.eval]; done) | (simp [Act.eval, Act.put]; done)) (fun V hV => (rof_calls t (by have := HTS.out; omega) V).mono (fun _ _ h => ⟨by rw [h.1, HRR.out], hV.1.below h.2 hV.1.lt, hV.2.trans (h.2.mono hV.2.size)⟩)) ?_
      simp only [Act.put, List.setIfInBounds_toArray, List.set_cons_zero, List.set_cons_succ]
      refine AnyS.pure 6 (some 40) (v := .bool true) rfl rfl (by kernel_rfl) (by kernel_rfl) (by kernel_rfl) (fun _ _ _ h => h) (by kernel_rfl) (fun V hV => by go_simp) ?_
      refine AnyS.pure 7 (some 41) (v := .bool true) rfl rfl (by kernel_rfl) (by kernel_rfl) (by kernel_rfl) (fun _ _ _ h => h) (by kernel_rfl) (fun V hV => by go_simp) ?_
      refine AnyS.pure 8 (some 42) (v := .bool true) rfl rfl (by kernel_rfl) (by kernel_rfl) (by kernel_rfl) (fun _ _ _ h => h) (by kernel_rfl) (fun V hV => by go_simp) ?_
      simp only [Act.put, List.setIfInBounds_toArray, List.set_cons_zero, List.set_cons_succ]
      refine AnyS.pure 9 (some 43) (v := .agg (cellsOf R)) rfl rfl (by kernel_rfl) (by kernel_rfl) (by kernel_rfl) (fun _ _ _ h => h) (by kernel_rfl) (fun V hV => by have hl := run_loadVar_row (P := Tryd.prog) V gs 32 32 (cellsOf R) (0, 0) _ hV.1 Tryd.underlying32 rfl (by rw [HSC.out]; kernel_rfl); simp [execOp, Act.eval, Instr.loadAt, Instr.sureAddr, Result.andThen_ok, hl]) ?_
      refine AnyS.call 10 (some 44) (.string ⟨(hex R).toArray⟩) rfl rfl (by kernel_rfl) (by kernel_rfl) (by kernel_rfl) (fun _ _ _ h => h) (by kernel_rfl) 45 Tryd.f45 Tryd.func45 (by kernel_rfl) (by kernel_rfl) _ _ rfl #[.agg (cellsOf R)] (by first | (simp [Act.eval]; done) | (simp [Act.eval, Act.put]; done)) (fun V hV => (hex_calls R HSL.out V).mono (fun _ _ h => ⟨h.1, hV.1.below h.2 hV.1.lt, hV.2.trans (h.2.mono hV.2.size)⟩)) ?_
      simp only [Act.put, List.setIfInBounds_toArray, List.set_cons_zero, List.set_cons_succ]
      refine AnyS.pure 11 (some 45) (v := .string ⟨(hex R).toArray⟩) rfl rfl (by kernel_rfl) (by kernel_rfl) (by kernel_rfl) (fun _ _ _ h => h) (by kernel_rfl) (fun V hV => by go_simp) ?_
      refine AnyS.pure 12 (some 46) (v := .bool true) rfl rfl (by kernel_rfl) (by kernel_rfl) (by kernel_rfl) (fun _ _ _ h => h) (by kernel_rfl) (fun V hV => by go_simp) ?_
      refine AnyS.pure 13 (some 47) (v := .bool true) rfl rfl (by kernel_rfl) (by kernel_rfl) (by kernel_rfl) (fun _ _ _ h => h) (by kernel_rfl) (fun V hV => by go_simp) ?_
      refine AnyS.pure 14 (some 2) (v := .bool true) rfl rfl (by kernel_rfl) (by kernel_rfl) (by kernel_rfl) (fun _ _ _ h => h) (by kernel_rfl) (fun V hV => by go_simp) ?_
      refine AnyS.done (by kernel_rfl) (fun V hV => ?_) _
      have K6 := Lib.hid hV.2
      clear hV HB
      go_wp2_with fail
      go_ret
      exact ⟨rfl, K6.out⟩

theorem own : ownKnob Tryd.prog.godebug = none := by kernel_rfl
theorem laidOut : laidOutB Tryd.prog = true := by kernel_rfl

set_option maxRecDepth 100000 in
theorem lifted (os : Os) (started : os.Started) (H : Type) (enc : TypeId × Value → H) :
    ReturnsInHanded {} Tryd.checked os 10 .any (fun w args => (Rows.digestOfSpec.pre enc Tryd.prog Tryd.f10 [] false w args ∧ laidMetH Tryd.prog Rows.digestOfRow.laid w) ∧ sizedMet enc Tryd.prog Tryd.f10 (OpenSpec.ofChange Rows.digestOfSpec) false w args)
      (Rows.digestOfSpec.post enc Tryd.prog Tryd.f10 false true false false) := by
  refine returnsInHanded_of_change_and (C := Tryd.checked) (X := fun w _ => laidMetH Tryd.prog Rows.digestOfRow.laid w) (fun _ _ _ hh h => h.of_heap hh) own started (by kernel_rfl) Tryd.func10
    (ChangeSpec.witness_shaped (enc := enc) (C := Tryd.checked) (os := os) (X := fun w _ => laidMetH Tryd.prog Rows.digestOfRow.laid w) false (World.doorLaid Tryd.prog 31 os) #[.string ByteArray.empty] 8 rfl (door_shaped os _) (by kernel_rfl) (by kernel_rfl) (by kernel_rfl) (door_met os _)) ?_
  intro W base args ds gs before hval0 hW _ _ hL _
  have hval : ∀ (j : Nat) t v, Tryd.f10.params[j]? = some t → args[j]? = some v → Value.okWide Tryd.prog W .any base t v := hval0
  have hW' := hW
  obtain ⟨p, q, hA0, hV, rfl, _, _⟩ := hW
  have hA : DataW.TrodAll enc Tryd.prog W 0 (fun _ => true) true Tryd.f10.params.toList args.toList ds p := hA0
  rw [Tryd.params10] at hA hval
  obtain ⟨v0, vs0, d0, ds0, p0, q0, hargs, rfl, rfl, h0, r0⟩ := trodAll_cons hA
  obtain ⟨rfl, rfl, rfl⟩ := trodAll_nil r0
  obtain rfl : args = #[v0] := by cases args; simp_all
  obtain ⟨rfl, rfl⟩ := trodVars_none hV
  obtain ⟨a0, rfl, rfl, rfl, w0⟩ := open_string Tryd.underlying9 (hval 0 9 v0 rfl rfl) h0
  clear hA0 hval0
  refine (walk a0 W w0 (rk_of_laid (rest := []) hL)).mono fun e W' ⟨he, bel⟩ => ?_
  subst he
  exact ⟨_, rfl, _, _, _, [], _, [], hW', trodAll_mk1 (shut_bool Tryd.underlying4 _), (trodAll_cons_mk (shut_string Tryd.underlying9 w0) trodAll_mk0), rfl, bel.frame _, fun h => by cases h⟩

theorem over : Rows.digestOfRow.holds Tryd.pinned (OpenSpec.ofChange Rows.digestOfSpec) :=
  OpenClaim.holds_of_wide 10 Tryd.f10 rfl rfl rfl rfl rfl rfl rfl ⟨rfl, rfl, rfl, rfl, rfl⟩ rfl rfl rfl rfl rfl (by kernel_rfl) Tryd.func10 (by kernel_rfl)
    (of_decide_eq_true (by kernel_rfl)) (by unfold Func.isWrapper; first | (rw [if_pos (by decide +kernel)]; kernel_rfl) | (rw [if_neg (by decide +kernel)]; exact ⟨rfl, rfl⟩))
    (fun os started H enc _ => lifted os started H enc)

theorem plain (f : FuncId) (fn : Func) (hf : Tryd.pinned.checked.prog.funcNamed "hindsight/hindsightlaw01.DigestOf" = some f) (hfn : Tryd.pinned.checked.prog.funcs[f]? = some fn) :
    (true : Bool) = Tryd.pinned.checked.prog.looks [] ∧ ∀ (j : Nat) t, fn.params[j]? = some t → Tryd.pinned.checked.prog.wantsStandIn t = false := by
  obtain rfl : f = 10 := Option.some.inj ((show Tryd.prog.funcNamed "hindsight/hindsightlaw01.DigestOf" = some 10 by kernel_rfl).symm.trans hf) |>.symm
  obtain rfl : fn = Tryd.f10 := (Option.some.inj (Tryd.func10.symm.trans hfn)).symm
  refine ⟨by kernel_rfl, fun j t ht => ?_⟩
  rw [Tryd.params10] at ht
  have hm := Array.mem_of_getElem? ht
  simp only [List.mem_toArray, List.mem_cons, List.not_mem_nil, or_false] at hm
  subst hm
  exact (show Tryd.prog.wantsStandIn 9 = false by kernel_rfl)

theorem card : Rows.DigestOfCardSaid :=
  Claim7.holds_tied_plain_at .later [] _ _ _ _ over (fun _ h => by cases h) (by kernel_rfl) (fun _ h => by cases h) digestOf_row_tie rfl ⟨rfl, rfl⟩ (by kernel_rfl) rfl plain (by kernel_rfl)

theorem proved : Rows.DigestOfCardSaid := card
end Go.Proofs.YtjilbnkplhbnaaaDoor.digestOf
