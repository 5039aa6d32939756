/- CellsSwap: for every list of texts and every number the law answers true, and its arguments read afterwards as they did. Conditions: none. -/
import Derived.Test.YtdofnmllhgabdaaCelE
namespace Go.Proofs.Ytdofnmllhgabdaa.cellsSwap
open Go.ChangeShapes Go.WideShapes Go.ChangeAt Go.RowKit Go.Maps Go.Proofs.Ytdofnmllhgabdaa.cel

theorem and3 (n : Int) : bits .and .i64 n 3 = n % 4 := by
  have h255 : (BitVec.ofInt 64 3).toNat = 2 ^ 2 - 1 := by decide
  have key : (BitVec.ofInt 64 n &&& BitVec.ofInt 64 3).toNat = (n % ((2 ^ 64 : Nat) : Int)).toNat % 2 ^ 2 := by
    rw [BitVec.toNat_and, BitVec.toNat_ofInt, h255, Nat.and_two_pow_sub_one_eq_mod]
  show IntKind.i64.wrap ((BitVec.ofInt 64 n &&& BitVec.ofInt 64 3).toNat : Nat) = n % 4
  rw [key, IntKind.wrap_i64]
  omega

/-- What lasts: k Swaps were done, and the cell holds the last one's text. -/
structure St (w : World) (d c m j k : Nat) (held : ByteArray) (T : Nat → ByteArray) (N : Nat → Int) (D : DataW Unit) (a : Int) (V : World) : Prop where
  own : Own w d c m 4 T N D a V
  few : a ≤ 2 * (k : Int)
  t : T j = held
  n : N j = k
  small : held.size ≤ 8

set_option maxRecDepth 100000 in
set_option maxHeartbeats 4000000 in
theorem swap_any (a1 : Option Addr) (len1 cap1 : Nat) (T1 : Nat → ByteArray) (z : Int) (w : World) (h1 : ArgS w a1 len1 cap1 T1) :
    Calls Try.prog 7 #[.slice a1 len1 cap1, .int .i64 z] w fun en w' => en = .returned (.bool true) ∧ Below w.heap.size w w' := by
  have hl1 : len1 ≤ 9223372036854775807 := by have := h1.1; have := h1.2.1; unfold maxLen at this; omega
  have A1 := Lib.hid h1
  have hand := and3 z
  obtain ⟨j, hj⟩ : ∃ j : Nat, z % 4 = (j : Int) := ⟨(z % 4).toNat, by omega⟩
  have hj4 : j < 4 := by omega
  rw [hj] at hand
  clear h1 hj
  go_enter Try.func7, Try.ntmps7
  go_wp2_with fail
  refine (awake_any w).mono ?_
  rintro en w1 ⟨rfl, b1⟩
  have T1' : Hid (Turn (fun j => w.heap.size ≤ j) w w1) := Turn.of_below b1 (fun _ _ e => e)
  clear b1
  go_wp2_with fail
  refine (new_calls (H := Unit) 4 (by decide) w1).mono ?_
  intro en w2 hP
  obtain ⟨d, c, m, rfl, hO, _⟩ := own_new T1'.out hP
  have S0 : Hid (St w d c m j 0 ⟨#[]⟩ noT noN (.map []) 0 w2) := Lib.hid ⟨hO, by decide, rfl, rfl, by decide⟩
  clear hP hO T1' hand
  go_wp2_with fail
  go_loopw [6, 7] (fun v6 i wr => ∃ (k : Nat) (held : ByteArray) (T : Nat → ByteArray) (N : Nat → Int) (D : DataW Unit) (a : Int), v6 = .string held ∧ i = .int .i64 k ∧ k ≤ 30 ∧ k ≤ len1 ∧ Hid (St w d c m j k held T N D a wr)) (fun _ i _ => 30 - (intOf i).toNat)
  case atStart => exact ⟨0, _, _, _, _, _, rfl, rfl, by omega, Nat.zero_le _, S0⟩
  case round =>
    obtain ⟨k, held, T, N, D, a, rfl, rfl, hk30, hkl, HS⟩ := hrel
    clear S0
    by_cases hk : k < len1 ∧ k < 30
    · obtain ⟨hk1, hk2⟩ := hk
      have hk1' : (k : Int) < (len1 : Int) := by omega
      have hk2' : (k : Int) < 30 := by omega
      have hk0' : (0 : Int) ≤ (k : Int) := by omega
      obtain ⟨b, o, rfl, c0, hs⟩ := str_at A1.out HS.out.own.turn hk1
      have HS1 := Lib.hid hs
      clear hs
      go_wp2_with fail
      refine (cut_calls (T1 k) 8 wr (by decide) HS1.out).mono ?_
      rintro en w4 ⟨rfl, rfl⟩
      have hsz := cut8_size (T1 k)
      generalize (T1 k).extract 0 8 = s at *
      clear c0 HS1
      have HF := Lib.hid HS.out.few
      go_wp2_with fail
      refine (HS.out.own.do_any _ 3 j held s hj4 (by decide) (by decide) ⟨by omega, by omega⟩ (by have := HF.out; omega) held HS.out.t true (by unfold did; simp) (upd T j s) (by unfold aftT; simp) (upd N j ((k : Int) + 1)) (by rw [HS.out.n]; unfold aftN; rw [if_pos ⟨rfl, rfl⟩])).mono ?_
      rintro en w5 ⟨rfl, h5⟩
      have H5 := Lib.hid h5
      clear h5 HS
      have hb0 : (held.toList == held.toList) = true := by simp
      go_wp2_with fail
      have hne : s ≠ s ++ ⟨#[33]⟩ := fun e => by
        have := congrArg ByteArray.size e
        rw [ByteArray.size_append] at this
        have h33 : (⟨#[33]⟩ : ByteArray).size = 1 := rfl
        omega
      refine (H5.out.do_any _ 3 j (s ++ ⟨#[33]⟩) _ hj4 (by decide) (by decide) ⟨by omega, by omega⟩ (by have := HF.out; omega) s (upd_same _ _ _) false (by unfold did; simp [hne]) (upd T j s) (by unfold aftT; rw [if_neg (by decide), if_pos rfl, if_neg hne]; funext i; unfold upd; split <;> rfl) (upd N j ((k : Int) + 1)) (by unfold aftN; rw [if_neg (fun e => hne e.2), upd_self])).mono ?_
      rintro en w6 ⟨rfl, h6⟩
      have S6 : Hid (St w d c m j (k + 1) s (upd T j s) (upd N j ((k : Int) + 1)) _ _ w6) := Lib.hid ⟨h6, by have := HF.out; omega, upd_same _ _ _, (upd_same _ _ _).trans (by omega), hsz⟩
      clear h6 H5 hne HF
      go_wp2_with fail
      refine ⟨⟨k + 1, s, _, _, _, _, rfl, by rw [Int.natCast_add]; rfl, by omega, by omega, S6⟩, ?_⟩
      show 30 - ((k : Int) + 1).toNat < 30 - ((k : Int)).toNat
      omega
    · have hx : ((k : Int) < (len1 : Int) ∧ ¬ (k : Int) < 30) ∨ ¬ (k : Int) < (len1 : Int) := by omega
      clear hk
      rcases hx with ⟨hc1, hc2⟩ | hc1
      · obtain rfl : k = 30 := by omega
        have h30 : (30 : Int) < (len1 : Int) := by omega
        go_wp2_with fail
        refine (HS.out.own.look j held ((text_at _ hj4).trans HS.out.t)).mono ?_
        rintro en w4 ⟨rfl, rfl⟩
        go_wp2_with fail
        refine (HS.out.own.swaps j 30 ((swaps_at _ hj4).trans HS.out.n)).mono ?_
        rintro en w4 ⟨rfl, rfl⟩
        go_wp2_with fail
        go_ret
        exact ⟨rfl, HS.out.own.ends⟩
      · obtain rfl : k = len1 := by omega
        have h30 : ¬ (30 : Int) < (k : Int) := by omega
        go_wp2_with fail
        refine (HS.out.own.look j held ((text_at _ hj4).trans HS.out.t)).mono ?_
        rintro en w4 ⟨rfl, rfl⟩
        go_wp2_with fail
        refine (HS.out.own.swaps j k ((swaps_at _ hj4).trans HS.out.n)).mono ?_
        rintro en w4 ⟨rfl, rfl⟩
        go_wp2_with fail
        go_ret
        exact ⟨rfl, HS.out.own.ends⟩

def Arg0 (w : World) (a : Option Addr) (len cap : Nat) : Prop := ∃ T, ArgS w a len cap T

theorem walk (a0 : Option Addr) (len0 cap0 : Nat) (a1 : Int) (w : World) (w0 : Arg0 w a0 len0 cap0) (_w1 : (Lit.int .i64 a1).wf = true) :
    Calls Try.prog 7 #[.slice a0 len0 cap0, .int .i64 a1] w fun en w' => en = .returned (.bool true) ∧ Below w.heap.size w w' := by
  obtain ⟨T1, h1⟩ := w0
  exact swap_any a0 len0 cap0 T1 a1 w h1

theorem opened0 {H : Type} {enc : TypeId × Value → H} {w : World} {spare : Nat → Bool} {held : Bool} {a : Option Addr} {len cap : Nat} {d : DataW H} {p : List MemPlace} (h : DataW.Trod enc Try.prog w 0 spare held 44 (.slice a len cap) d p) : Arg0 w a len cap := openedStrs h

theorem own : ownKnob Try.prog.godebug = none := by kernel_rfl
theorem laidOut : laidOutB Try.prog = true := by kernel_rfl

set_option maxRecDepth 100000 in
theorem lifted (os : Os) (started : os.Started) (H : Type) (enc : TypeId × Value → H) :
    ReturnsInHanded {} Try.checked os 7 .any (Rows.cellsSwapSpec.pre6 enc Try.prog Try.f7 Rows.cellsSwapRow.domain false) (Rows.cellsSwapSpec.post enc Try.prog Try.f7 false true false false) := by
  refine returnsInHanded_of_change (C := Try.checked) own started (by kernel_rfl) Try.func7
    (ChangeSpec.witness6 (enc := enc) (C := Try.checked) false ⟨#[], #[.slice none 0 0, .int .i64 0], []⟩ 8 (by kernel_rfl) (by kernel_rfl) (by kernel_rfl) (by kernel_rfl)) ?_
  intro W base args ds gs before hval0 hW _ _
  have hval : ∀ (j : Nat) t v, Try.f7.params[j]? = some t → args[j]? = some v → Value.okWide Try.prog W .any base t v := hval0
  have hW' := hW
  obtain ⟨p, q, hA0, hV, rfl, _, _⟩ := hW
  have hA : DataW.TrodAll enc Try.prog W 0 (fun _ => true) true Try.f7.params.toList args.toList ds p := hA0
  rw [Try.params7] at hA hval
  obtain ⟨v0, vs0, d0, ds0, p0, q0, hargs, rfl, rfl, h0, r0⟩ := trodAll_cons hA
  obtain ⟨v1, vs1, d1, ds1, p1, q1, rfl, rfl, rfl, h1, r1⟩ := trodAll_cons r0
  obtain ⟨rfl, rfl, rfl⟩ := trodAll_nil r1
  obtain rfl : args = #[v0, v1] := by cases args; simp_all
  obtain ⟨rfl, rfl⟩ := trodVars_none hV
  obtain ⟨a0, len0, cap0, rfl⟩ := okWide_slice Try.underlying44 (hval 0 44 v0 rfl rfl)
  have k0 := h0
  have lt0 : ∀ x ∈ p0, x.block < W.heap.size := by obtain ⟨m, hm⟩ := k0; exact DataW.trod_lt m _ _ _ hm
  have w0 : Arg0 W a0 len0 cap0 := opened0 h0
  obtain ⟨a1, rfl, rfl, rfl, w1⟩ := open_int Try.underlying3 (hval 1 3 v1 rfl rfl) h1
  clear hA0 hval0
  refine (walk a0 len0 cap0 a1 W w0 w1).mono fun e W' ⟨he, bel⟩ => ?_
  subst he
  exact ⟨_, rfl, _, _, _, [], _, [], hW', trodAll_mk1 (shut_bool Try.underlying4 _), (trodAll_cons_mk (Below.trod laidOut (by kernel_rfl) (of_decide_eq_true (by kernel_rfl)) k0 bel lt0) (trodAll_cons_mk (shut_int Try.underlying3 w1) trodAll_mk0)), rfl, bel.frame _, fun h => by cases h⟩

theorem over : Rows.cellsSwapRow.holds Try.pinned (OpenSpec.ofChange Rows.cellsSwapSpec) :=
  OpenClaim.holds_of_wide 7 Try.f7 rfl rfl rfl rfl rfl rfl rfl ⟨rfl, rfl, rfl, rfl, rfl⟩ rfl rfl rfl rfl rfl (by kernel_rfl) Try.func7 (by kernel_rfl)
    (of_decide_eq_true (by kernel_rfl)) (by unfold Func.isWrapper; first | (rw [if_pos (by decide +kernel)]; kernel_rfl) | (rw [if_neg (by decide +kernel)]; exact ⟨rfl, rfl⟩))
    (fun os started H enc _ => lifted os started H enc)

theorem proved : Rows.CellsSwapSaid := over

end Go.Proofs.Ytdofnmllhgabdaa.cellsSwap
