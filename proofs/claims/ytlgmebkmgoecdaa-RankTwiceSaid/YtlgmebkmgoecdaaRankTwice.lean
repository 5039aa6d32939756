/- RankTwice. -/
import Derived.Test.YtlgmebkmgoecdaaRankK
import Derived.Test.YtlgmebkmgoecdaaInts
import Derived.ProofKit
import Derived.OpenShut
import Derived.ChangeOld
namespace Go.Proofs.Ytlgmebkmgoecdaa.rankTwice
open Go.ChangeShapes Go.WideShapes Go.ChangeAt Go.RowKit

theorem firstOf_pos {S : List Th} (h : 0 < S.length) : ∃ x y : Int, firstOf S = .tuple #[.int .i64 x, .int .i64 y, .bool true] := by
  cases S with
  | nil => simp at h
  | cons x t => exact ⟨x.1, x.2.1, rfl⟩

/-- The two queues. -/
structure Two (w : World) (q p k m : Nat) (n : Int) (r : Option Nat) (S : List Th) (wr : World) : Prop where
  qs : Qs wr q r S n
  len : S.length = m
  ps : Qs wr p none [] 0
  row : ∀ j, r = some j → w.heap.size ≤ j ∧ j ≠ p
  plt : p < wr.heap.size
  turn : Turn (fun j => w.heap.size ≤ j) w wr

theorem Two.more {w wr w' : World} {q p k m : Nat} {n : Int} {r : Option Nat} {S : List Th} (h : Two w q p k m n r S wr) (e : Qs w' q r S n) (g : wr.grownBy w' none) : Two w q p k m n r S w' :=
  ⟨e, h.len, h.ps.turn ((Turn.refl (fun _ => False) wr).grown g (fun j e _ => by cases e)) (fun e => e) (fun _ _ e => e), h.row, Nat.lt_of_lt_of_le h.plt g.size, h.turn.grown g (fun j e _ => by cases e)⟩

theorem Two.took {w wr w' : World} {q p k m : Nat} {n : Int} {r : Option Nat} {S : List Th} (h : Two w q p k m n r S wr) (e : Qs w' q r S.tail n) (t : Turn (fun j => j = q ∨ r = some j) wr w') (hq : w.heap.size ≤ q) (hqp : q < p) : Two w q p k (m - 1) n r S.tail w' :=
  ⟨e, by rw [List.length_tail, h.len], h.ps.turn t (fun e => by
    rcases e with e | e
    · omega
    · exact (h.row p e).2 rfl) (fun _ e => by cases e), h.row, Nat.lt_of_lt_of_le h.plt t.size, h.turn.trans t (fun j hj e => by
    rcases e with e | e
    · omega
    · exact (h.row j e).1)⟩

theorem arg_cell {w wr : World} {a : Option Addr} {len cap : Nat} {T : Nat → Int} (h : ArgI w a len cap T) (t : Turn (fun j => w.heap.size ≤ j) w wr) (i : Nat) (hi : i < len) : ∃ b o, a = some ⟨b, o, none⟩ ∧ wr.cell? ⟨b, o + i, none⟩ = some (.int .i64 (T i)) := by
  obtain ⟨b, o, e, hb, hc, _⟩ := h.2.2 i hi
  have h2 : wr.cell? ⟨b, o + i, none⟩ = w.cell? ⟨b, o + i, none⟩ := Turn.cell t hb (fun h3 => Nat.not_lt_of_le h3 hb)
  exact ⟨b, o, e, by rw [h2]; exact hc⟩

set_option maxRecDepth 100000 in
set_option maxHeartbeats 1000000 in
theorem twice_any (a : Option Addr) (len cap : Nat) (T : Nat → Int) (w : World) (hA : ArgI w a len cap T) :
    Calls Try.prog 7 #[.slice a len cap] w fun en w' => en = .returned (.bool true) ∧ Below w.heap.size w w' := by
  have hlen : len ≤ 9223372036854775807 := by have := hA.1; have := hA.2.1; unfold maxLen at this; omega
  have HA := Lib.hid hA
  clear hA
  go_enter Try.func7, Try.ntmps7
  go_wp2_with fail
  refine (awake_any w).mono ?_
  rintro en w1 ⟨rfl, b1⟩
  have T1 : Hid (Turn (fun j => w.heap.size ≤ j) w w1) := Turn.of_below b1 (fun _ _ e => e)
  clear b1
  go_wp2_with fail
  refine (qs_new w1).mono ?_
  rintro en w2 ⟨rfl, q2, g2⟩
  obtain ⟨q, eq⟩ : ∃ q, q = w1.heap.size := ⟨_, rfl⟩
  rw [← eq] at q2 ⊢
  have hq : w.heap.size ≤ q := by rw [eq]; exact T1.out.size
  have Q2 := Lib.hid q2
  have T2 : Hid (Turn (fun j => w.heap.size ≤ j) w w2) := T1.out.grown g2 (fun j e _ => by cases e)
  clear q2 g2 T1 eq
  go_wp2_with fail
  refine (qs_new w2).mono ?_
  rintro en w3 ⟨rfl, p3, g3⟩
  obtain ⟨p, ep⟩ : ∃ p, p = w2.heap.size := ⟨_, rfl⟩
  rw [← ep] at p3 ⊢
  have hqp : q < p := by
    obtain ⟨l, h1, _⟩ := Q2.out.heap
    rw [ep]; exact h1.cell1.2.2
  have HW : Hid (Two w q p 0 0 0 none [] w3) := by
    refine ⟨Q2.out.turn ((Turn.refl (fun _ => False) w2).grown g3 (fun j e _ => by cases e)) (fun e => e) (fun _ _ e => e), rfl, p3, by simp, ?_, T2.out.grown g3 (fun j e _ => by cases e)⟩
    obtain ⟨l, h1, _⟩ := p3.heap
    exact h1.cell1.2.2
  clear p3 g3 T2 Q2 ep
  go_wp2_with fail
  go_loopw [5] (fun i wr => ∃ (k : Nat) (r : Option Nat) (S : List Th), i = .int .i64 k ∧ k ≤ len ∧ k ≤ 40 ∧ Hid (Two w q p k k k r S wr)) (fun i _ => 40 - (intOf i).toNat)
  case atStart => exact ⟨0, none, [], rfl, Nat.zero_le _, by omega, HW⟩
  case round =>
    obtain ⟨k, r, S, rfl, hk1, hk2, HD⟩ := hrel
    clear HW
    by_cases hkl : k < len ∧ k < 40
    · obtain ⟨hkl, hk40⟩ := hkl
      obtain ⟨b, o, rfl, c0⟩ := arg_cell HA.out HD.out.turn k hkl
      have h1 : (k : Int) < (len : Int) := by omega
      have h2 : (k : Int) < 40 := by omega
      have h3 : (0 : Int) ≤ (k : Int) := by omega
      go_wp2_with fail
      refine (qs_add q r S k (T k) k wr HD.out.qs (by rw [HD.out.len]; omega) (by omega) (by omega)).mono ?_
      rintro en w4 ⟨rfl, g, q4, a4, t4⟩
      have e4 : (ins (T k, (k : Int), (k : Int)) S).length = k + 1 := by rw [(ins_perm _ S).length_eq, List.length_cons, HD.out.len]
      generalize ins (T k, (k : Int), (k : Int)) S = S4 at q4 e4
      have H4 : Hid (Two w q p (k + 1) (k + 1) ((k + 1 : Nat) : Int) (some g) S4 w4) := by
        have hgp : w.heap.size ≤ g ∧ g ≠ p := by
          rcases a4 with h | h
          · exact HD.out.row g h
          · have h1 := HD.out.plt
            have h2 := HD.out.turn.size
            exact ⟨by omega, by omega⟩
        refine ⟨by rw [Int.natCast_add]; exact q4, e4, HD.out.ps.turn t4 (fun e => ?_) (fun _ e => by cases e), fun j e => by injection e with e; subst e; exact hgp, Nat.lt_of_lt_of_le HD.out.plt t4.size, HD.out.turn.trans t4 (fun j hj e => ?_)⟩
        · rcases e with e | e
          · omega
          · exact (HD.out.row p e).2 rfl
        · rcases e with e | e
          · omega
          · exact (HD.out.row j e).1
      clear q4 a4 t4 HD
      obtain ⟨x, y, ef⟩ := firstOf_pos (S := S4) (by omega)
      have HF := Lib.hid ef
      have HE := Lib.hid e4
      clear ef e4
      go_wp2_with fail
      refine (qs_first q (some g) S4 _ w4 H4.out.qs).mono ?_
      rw [HF.out]
      rintro en w5 ⟨rfl, q5, g5⟩
      have H5 : Hid (Two w q p (k + 1) (k + 1) ((k + 1 : Nat) : Int) (some g) S4 w5) := H4.out.more q5 g5
      clear q5 g5 H4
      go_wp2_with fail
      refine (qs_first q (some g) S4 _ w5 H5.out.qs).mono ?_
      rw [HF.out]
      rintro en w6 ⟨rfl, q6, g6⟩
      have H6 : Hid (Two w q p (k + 1) (k + 1) ((k + 1 : Nat) : Int) (some g) S4 w6) := H5.out.more q6 g6
      clear q6 g6 H5
      go_wp2_with fail
      have hl := qs_len q (some g) S4 _ w6 H6.out.qs
      rw [HE.out] at hl
      refine hl.mono ?_
      rintro en w7 ⟨rfl, rfl⟩
      clear hl
      go_wp2_with fail
      refine (qs_len p none [] 0 w6 H6.out.ps).mono ?_
      rintro en w7 ⟨rfl, rfl⟩
      go_wp2_with fail
      refine ⟨⟨k + 1, some g, S4, by rw [Int.natCast_add]; rfl, by omega, by omega, H6⟩, ?_⟩
      show 40 - ((k : Int) + 1).toNat < 40 - ((k : Int)).toNat
      omega
    · obtain ⟨m, em⟩ : ∃ m, m = min len 40 := ⟨_, rfl⟩
      have ek : k = m := by omega
      subst ek
      have hmin : min (len : Int) 40 = (k : Int) := by omega
      have hk40 : (k : Int) ≤ 40 := by omega
      have hx : ((k : Int) < (len : Int) ∧ ¬ (k : Int) < 40) ∨ ¬ (k : Int) < (len : Int) := by omega
      clear em hkl
      rcases hx with ⟨hc1, hc2⟩ | hc1
      all_goals
        go_wp2_with fail
        go_loopw [85] (fun i wr => ∃ (j : Nat) (r : Option Nat) (S : List Th), i = .int .i64 j ∧ j ≤ k ∧ Hid (Two w q p k (k - j) k r S wr)) (fun i _ => 40 - (intOf i).toNat)
        case atStart => exact ⟨0, r, S, rfl, Nat.zero_le _, by rw [Nat.sub_zero]; exact HD⟩
        case round =>
          obtain ⟨j, r2, S2, rfl, hj, H2⟩ := hrel
          clear HD
          by_cases hjk : j < k
          · have hjk' : (j : Int) < (k : Int) := by omega
            obtain ⟨x, y, ef⟩ := firstOf_pos (S := S2) (by rw [H2.out.len]; omega)
            have HF := Lib.hid ef
            clear ef
            go_wp2_with fail
            refine (qs_first q r2 S2 _ _ H2.out.qs).mono ?_
            rw [HF.out]
            rintro en w5 ⟨rfl, q5, g5⟩
            have H5 := Lib.hid (H2.out.more q5 g5)
            clear q5 g5 H2
            go_wp2_with fail
            refine (qs_take q r2 S2 _ w5 H5.out.qs).mono ?_
            rw [HF.out]
            rintro en w6 ⟨rfl, q6, t6⟩
            have H6 := Lib.hid (H5.out.took q6 t6 hq hqp)
            clear q6 t6 H5
            go_wp2_with fail
            refine ⟨⟨j + 1, r2, S2.tail, by rw [Int.natCast_add]; rfl, by omega, by rw [Nat.sub_add_eq]; exact H6⟩, ?_⟩
            show 40 - ((j : Int) + 1).toNat < 40 - ((j : Int)).toNat
            omega
          · obtain rfl : j = k := by omega
            have hj' : ¬ (j : Int) < (j : Int) := by omega
            have e2 : S2 = [] := List.eq_nil_of_length_eq_zero (by rw [H2.out.len]; omega)
            subst e2
            go_wp2_with fail
            refine (qs_first q r2 [] _ _ H2.out.qs).mono ?_
            unfold firstOf
            rintro en w5 ⟨rfl, q5, g5⟩
            have H5 := Lib.hid (H2.out.more q5 g5)
            clear q5 g5 H2
            go_wp2_with fail
            go_ret
            exact ⟨rfl, H5.out.turn.below (Nat.le_refl _) (fun j hj e => by omega)⟩

def Arg0 (w : World) (a : Option Addr) (len cap : Nat) : Prop := ∃ T, ArgI w a len cap T

theorem walk (a0 : Option Addr) (len0 cap0 : Nat) (w : World) (w0 : Arg0 w a0 len0 cap0) :
    Calls Try.prog 7 #[.slice a0 len0 cap0] w fun en w' => en = .returned (.bool true) ∧ Below w.heap.size w w' := by
  obtain ⟨T, hT⟩ := w0
  exact twice_any a0 len0 cap0 T w hT

theorem opened0 {H : Type} {enc : TypeId × Value → H} {w : World} {spare : Nat → Bool} {held : Bool} {a : Option Addr} {len cap : Nat} {d : DataW H} {p : List MemPlace} (h : DataW.Trod enc Try.prog w 0 spare held 37 (.slice a len cap) d p) : Arg0 w a len cap := openedI h

theorem own : ownKnob Try.prog.godebug = none := by kernel_rfl
theorem laidOut : laidOutB Try.prog = true := by kernel_rfl

set_option maxRecDepth 100000 in
theorem lifted (os : Os) (started : os.Started) (H : Type) (enc : TypeId × Value → H) :
    ReturnsInHanded {} Try.checked os 7 .any (Rows.rankTwiceSpec.pre6 enc Try.prog Try.f7 Rows.rankTwiceRow.domain false) (Rows.rankTwiceSpec.post enc Try.prog Try.f7 false true false false) := by
  refine returnsInHanded_of_change (C := Try.checked) own started (by kernel_rfl) Try.func7
    (ChangeSpec.witness6 (enc := enc) (C := Try.checked) false ⟨#[], #[.slice none 0 0], []⟩ 8 (by kernel_rfl) (by kernel_rfl) (by kernel_rfl) (by kernel_rfl)) ?_
  intro W base args ds gs before hval0 hW _ _
  have hval : ∀ (j : Nat) t v, Try.f7.params[j]? = some t → args[j]? = some v → Value.okWide Try.prog W .any base t v := hval0
  have hW' := hW
  obtain ⟨p, q, hA0, hV, rfl, _, _⟩ := hW
  have hA : DataW.TrodAll enc Try.prog W 0 (fun _ => true) true Try.f7.params.toList args.toList ds p := hA0
  rw [Try.params7] at hA hval
  obtain ⟨v0, vs0, d0, ds0, p0, q0, hargs, rfl, rfl, h0, r0⟩ := trodAll_cons hA
  obtain ⟨rfl, rfl, rfl⟩ := trodAll_nil r0
  obtain rfl : args = #[v0] := by cases args; simp_all
  obtain ⟨rfl, rfl⟩ := trodVars_none hV
  obtain ⟨a0, len0, cap0, rfl⟩ := okWide_slice Try.underlying37 (hval 0 37 v0 rfl rfl)
  have k0 := h0
  have lt0 : ∀ x ∈ p0, x.block < W.heap.size := by obtain ⟨m, hm⟩ := k0; exact DataW.trod_lt m _ _ _ hm
  have w0 : Arg0 W a0 len0 cap0 := opened0 h0
  clear hA0 hval0
  refine (walk a0 len0 cap0 W w0).mono fun e W' ⟨he, bel⟩ => ?_
  subst he
  exact ⟨_, rfl, _, _, _, [], _, [], hW', trodAll_mk1 (shut_bool Try.underlying4 _), (trodAll_cons_mk (Below.trod laidOut (by kernel_rfl) (of_decide_eq_true (by kernel_rfl)) k0 bel lt0) trodAll_mk0), rfl, bel.frame _, fun h => by cases h⟩

theorem over : Rows.rankTwiceRow.holds Try.pinned (OpenSpec.ofChange Rows.rankTwiceSpec) :=
  OpenClaim.holds_of_wide 7 Try.f7 rfl rfl rfl rfl rfl rfl rfl ⟨rfl, rfl, rfl, rfl, rfl⟩ rfl rfl rfl rfl rfl (by kernel_rfl) Try.func7 (by kernel_rfl)
    (of_decide_eq_true (by kernel_rfl)) (by unfold Func.isWrapper; first | (rw [if_pos (by decide +kernel)]; kernel_rfl) | (rw [if_neg (by decide +kernel)]; exact ⟨rfl, rfl⟩))
    (fun os started H enc _ => lifted os started H enc)

theorem proved : Rows.RankTwiceSaid := over

end Go.Proofs.Ytlgmebkmgoecdaa.rankTwice
