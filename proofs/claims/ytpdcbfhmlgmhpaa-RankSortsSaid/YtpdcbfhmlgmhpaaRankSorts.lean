/- RankSorts: for every list of ticks the law answers true, and its argument reads afterwards as it did. Conditions: none. -/
import Derived.Test.YtpdcbfhmlgmhpaaRankK
import Derived.Test.YtpdcbfhmlgmhpaaInts
import Derived.ProofKit
import Derived.OpenShut
import Derived.ChangeOld
namespace Go.Proofs.Ytpdcbfhmlgmhpaa.rankSorts
open Go.ChangeShapes Go.WideShapes Go.ChangeAt Go.RowKit

/-- The queue, of which each thing is one of the first m ticks with its place. -/
structure Srt (w : World) (T : Nat → Int) (q m : Nat) (n : Int) (r : Option Nat) (S : List Th) (wr : World) : Prop where
  qs : Qs wr q r S n
  mem : ∀ x ∈ S, ∃ i : Nat, i < m ∧ x = (T i, (i : Int), (i : Int))
  row : ∀ j, r = some j → w.heap.size ≤ j
  turn : Turn (fun j => w.heap.size ≤ j) w wr

theorem Srt.took {w wr w' : World} {T : Nat → Int} {q m : Nat} {n : Int} {r : Option Nat} {S : List Th} (h : Srt w T q m n r S wr) (e : Qs w' q r S.tail n) (t : Turn (fun j => j = q ∨ r = some j) wr w') (hq : w.heap.size ≤ q) : Srt w T q m n r S.tail w' :=
  ⟨e, fun x hx => h.mem x (List.mem_of_mem_tail hx), h.row, h.turn.trans t (fun j hj e => by
    rcases e with e | e
    · omega
    · exact h.row j e)⟩

theorem Srt.added {w wr w' : World} {T : Nat → Int} {q k g : Nat} {r : Option Nat} {S : List Th} (h : Srt w T q k k r S wr) (e : Qs w' q (some g) (ins (T k, (k : Int), (k : Int)) S) ((k : Int) + 1)) (a : r = some g ∨ wr.heap.size ≤ g) (t : Turn (fun j => j = q ∨ r = some j) wr w') (hq : w.heap.size ≤ q) :
    Srt w T q (k + 1) ((k + 1 : Nat) : Int) (some g) (ins (T k, (k : Int), (k : Int)) S) w' := by
  refine ⟨by rw [Int.natCast_add]; exact e, fun x hx => ?_, fun j hj => ?_, h.turn.trans t (fun j hj e => ?_)⟩
  · rcases List.mem_cons.1 ((ins_perm _ S).mem_iff.1 hx) with rfl | hx
    · exact ⟨k, by omega, rfl⟩
    · obtain ⟨i, hi, e⟩ := h.mem x hx
      exact ⟨i, by omega, e⟩
  · injection hj with hj
    subst hj
    rcases a with a | a
    · exact h.row _ a
    · have := h.turn.size; omega
  · rcases e with e | e
    · omega
    · exact h.row j e

theorem arg_cell {w wr : World} {a : Option Addr} {len cap : Nat} {T : Nat → Int} (h : ArgI w a len cap T) (t : Turn (fun j => w.heap.size ≤ j) w wr) (i : Nat) (hi : i < len) : ∃ b o, a = some ⟨b, o, none⟩ ∧ wr.cell? ⟨b, o + i, none⟩ = some (.int .i64 (T i)) := by
  obtain ⟨b, o, e, hb, hc, _⟩ := h.2.2 i hi
  have h2 : wr.cell? ⟨b, o + i, none⟩ = w.cell? ⟨b, o + i, none⟩ := Turn.cell t hb (fun h3 => Nat.not_lt_of_le h3 hb)
  exact ⟨b, o, e, by rw [h2]; exact hc⟩

/-- What came out last goes ahead of all that is left. -/
def Before (last who : Int) (S : List Th) : Prop := ∀ x ∈ S, lt (last, who, who) x

set_option maxRecDepth 100000 in
set_option maxHeartbeats 1000000 in
theorem sorts_any (a : Option Addr) (len cap : Nat) (T : Nat → Int) (w : World) (hA : ArgI w a len cap T) :
    Calls Try.prog 11 #[.slice a len cap] w fun en w' => en = .returned (.bool true) ∧ Below w.heap.size w w' := by
  have hlen : len ≤ 9223372036854775807 := by have := hA.1; have := hA.2.1; unfold maxLen at this; omega
  have HA := Lib.hid hA
  clear hA
  obtain ⟨m, em⟩ : ∃ m, m = min len 100 := ⟨_, rfl⟩
  have hm1 : m ≤ len := by omega
  have hm2 : m ≤ 100 := by omega
  have hmin : (if (100 : Int) < (len : Int) then (100 : Int) else (len : Int)) = (m : Int) := by split <;> omega
  clear em
  go_enter Try.func11, Try.ntmps11
  go_wp2_with fail
  refine (awake_any w).mono ?_
  rintro en w1 ⟨rfl, b1⟩
  have T1 : Hid (Turn (fun j => w.heap.size ≤ j) w w1) := Turn.of_below b1 (fun _ _ e => e)
  clear b1
  go_wp2_with fail
  refine (qs_new w1).mono ?_
  rintro en w2 ⟨rfl, q2, g2⟩
  obtain ⟨q, eq⟩ : ∃ q, q = w1.heap.size := ⟨_, rfl⟩
  rw [← eq] at q2 ⊢
  have hq : w.heap.size ≤ q := by rw [eq]; exact T1.out.size
  have HW : Hid (Srt w T q 0 0 none [] w2) := ⟨q2, by simp, by simp, T1.out.grown g2 (fun j e _ => by cases e)⟩
  clear q2 g2 T1 eq
  go_wp2_with fail
  clear hmin
  go_loopw [5] (fun i wr => ∃ (k : Nat) (r : Option Nat) (S : List Th), i = .int .i64 k ∧ k ≤ m ∧ S.length = k ∧ Hid (Srt w T q k k r S wr)) (fun i _ => m - (intOf i).toNat)
  case atStart => exact ⟨0, none, [], rfl, Nat.zero_le _, rfl, HW⟩
  case round =>
    obtain ⟨k, r, S, rfl, hk1, hk2, HD⟩ := hrel
    clear HW
    have HK := Lib.hid hk2
    clear hk2
    by_cases hkl : k < m
    · obtain ⟨b, o, rfl, c0⟩ := arg_cell HA.out HD.out.turn k (by omega)
      have h1 : (k : Int) < (m : Int) := by omega
      have h2 : (k : Int) < (len : Int) := by omega
      have h3 : (0 : Int) ≤ (k : Int) := by omega
      have h4 : (k : Int) < 100 := by omega
      go_wp2_with fail
      refine (qs_add q r S k (T k) k _ HD.out.qs (by rw [HK.out]; omega) (by omega) (by omega)).mono ?_
      rintro en w4 ⟨rfl, g, q4, a4, t4⟩
      have H4 := Lib.hid (HD.out.added q4 a4 t4 hq)
      have e4 : Hid ((ins (T k, (k : Int), (k : Int)) S).length = k + 1) := by show _ = _; rw [(ins_perm _ S).length_eq, List.length_cons, HK.out]
      clear q4 a4 t4 HD
      go_wp2_with fail
      refine ⟨⟨k + 1, some g, _, by rw [Int.natCast_add]; rfl, by omega, e4.out, H4⟩, ?_⟩
      show m - ((k : Int) + 1).toNat < m - ((k : Int)).toNat
      omega
    · obtain rfl : k = m := by omega
      have hx : ¬ (k : Int) < (k : Int) := by omega
      clear hkl
      go_wp2_with fail
      go_loopw [6, 7, 8] (fun l v i wr => ∃ (j : Nat) (last who : Int) (r : Option Nat) (S : List Th), l = .int .i64 last ∧ v = .int .i64 who ∧ i = .int .i64 j ∧ j ≤ k ∧ S.length = k - j ∧ (0 < j → Hid (Before last who S)) ∧ Hid (Srt w T q k k r S wr)) (fun _ _ i _ => k - (intOf i).toNat)
      case atStart => exact ⟨0, 0, 0, r, S, rfl, rfl, rfl, Nat.zero_le _, HK.out, fun h => by omega, HD⟩
      case round =>
        obtain ⟨j, last, who, r2, S2, rfl, rfl, rfl, hj, hl2, hb2, H2⟩ := hrel
        clear HD HK
        by_cases hjk : j < k
        · cases S2 with
          | nil => simp at hl2; omega
          | cons x S3 =>
          obtain ⟨i, hi, rfl⟩ := H2.out.mem x (by simp)
          have hlt3 : ∀ y ∈ S3, lt (T i, (i : Int), (i : Int)) y := (List.pairwise_cons.1 H2.out.qs.sorted).1
          have HB : Hid (Before (T i) (i : Int) S3) := hlt3
          have hl3 : Hid (S3.length = k - (j + 1)) := by show _ = _; simp at hl2; omega
          have hord : 0 < j → lt (last, who, who) (T i, (i : Int), (i : Int)) := fun h => (hb2 h).out _ (by simp)
          clear hlt3 hl2 hb2
          have hjk' : (j : Int) < (k : Int) := by omega
          have hi0 : (0 : Int) ≤ (i : Int) := by omega
          have hi1 : (i : Int) < (k : Int) := by omega
          have hi2 : (i : Int) < (len : Int) := by omega
          have HF : Hid (firstOf ((T i, (i : Int), (i : Int)) :: S3) = .tuple #[.int .i64 (T i), .int .i64 i, .bool true]) := rfl
          by_cases hj0 : 0 < j
          · have ho := hord hj0
            have hj0' : 0 < (j : Int) := by omega
            clear hord
            have ho' : last < T i ∨ (last = T i ∧ who < (i : Int)) := ho
            clear ho
            go_wp2_with fail
            refine (qs_take q r2 _ _ _ H2.out.qs).mono ?_
            rw [HF.out]
            rintro en w6 ⟨rfl, q6, t6⟩
            have H6 : Hid (Srt w T q k k r2 S3 w6) := Lib.hid (H2.out.took q6 t6 hq)
            clear q6 t6 H2 HF
            obtain ⟨b, o, rfl, c0⟩ := arg_cell HA.out H6.out.turn i (by omega)
            generalize T i = ti at *
            rcases ho' with ho | ⟨rfl, ho⟩
            · have ho1 : ¬ ti < last := by omega
              have ho2 : ¬ ti = last := by omega
              go_wp2_with fail
              refine ⟨⟨j + 1, ti, i, r2, S3, rfl, rfl, by rw [Int.natCast_add]; rfl, by omega, hl3.out, fun _ => HB, H6⟩, ?_⟩
              show k - ((j : Int) + 1).toNat < k - ((j : Int)).toNat
              omega
            · have ho1 : ¬ (i : Int) ≤ who := by omega
              go_wp2_with fail
              refine ⟨⟨j + 1, last, i, r2, S3, rfl, rfl, by rw [Int.natCast_add]; rfl, by omega, hl3.out, fun _ => HB, H6⟩, ?_⟩
              show k - ((j : Int) + 1).toNat < k - ((j : Int)).toNat
              omega
          · obtain rfl : j = 0 := by omega
            clear hord hj0
            go_wp2_with fail
            refine (qs_take q r2 _ _ _ H2.out.qs).mono ?_
            rw [HF.out]
            rintro en w6 ⟨rfl, q6, t6⟩
            have H6 : Hid (Srt w T q k k r2 S3 w6) := Lib.hid (H2.out.took q6 t6 hq)
            clear q6 t6 H2 HF
            obtain ⟨b, o, rfl, c0⟩ := arg_cell HA.out H6.out.turn i (by omega)
            generalize T i = ti at *
            go_wp2_with fail
            refine ⟨⟨1, ti, i, r2, S3, rfl, rfl, rfl, by omega, hl3.out, fun _ => HB, H6⟩, ?_⟩
            show k - (1 : Int).toNat < k - (0 : Int).toNat
            omega
        · obtain rfl : j = k := by omega
          have hj' : ¬ (j : Int) < (j : Int) := by omega
          have e2 : S2 = [] := List.eq_nil_of_length_eq_zero (by omega)
          subst e2
          clear hl2 hb2
          go_wp2_with fail
          refine (qs_take q r2 [] _ _ H2.out.qs).mono ?_
          unfold firstOf
          rintro en w5 ⟨rfl, q5, t5⟩
          have H5 : Hid (Srt w T q j j r2 [] w5) := Lib.hid (H2.out.took q5 t5 hq)
          clear q5 t5 H2
          go_wp2_with fail
          refine (qs_len q r2 [] _ w5 H5.out.qs).mono ?_
          rintro en w7 ⟨rfl, rfl⟩
          go_wp2_with fail
          go_ret
          exact ⟨rfl, H5.out.turn.below (Nat.le_refl _) (fun j hj e => by omega)⟩

def Arg0 (w : World) (a : Option Addr) (len cap : Nat) : Prop := ∃ T, ArgI w a len cap T

theorem walk (a0 : Option Addr) (len0 cap0 : Nat) (w : World) (w0 : Arg0 w a0 len0 cap0) :
    Calls Try.prog 11 #[.slice a0 len0 cap0] w fun en w' => en = .returned (.bool true) ∧ Below w.heap.size w w' := by
  obtain ⟨T, hT⟩ := w0
  exact sorts_any a0 len0 cap0 T w hT

theorem opened0 {H : Type} {enc : TypeId × Value → H} {w : World} {spare : Nat → Bool} {held : Bool} {a : Option Addr} {len cap : Nat} {d : DataW H} {p : List MemPlace} (h : DataW.Trod enc Try.prog w 0 spare held 80 (.slice a len cap) d p) : Arg0 w a len cap := openedI h

theorem own : ownKnob Try.prog.godebug = none := by kernel_rfl
theorem laidOut : laidOutB Try.prog = true := by kernel_rfl

set_option maxRecDepth 100000 in
theorem lifted (os : Os) (started : os.Started) (H : Type) (enc : TypeId × Value → H) :
    ReturnsInHanded {} Try.checked os 11 .any (Rows.rankSortsSpec.pre6 enc Try.prog Try.f11 Rows.rankSortsRow.domain false) (Rows.rankSortsSpec.post enc Try.prog Try.f11 false true false false) := by
  refine returnsInHanded_of_change (C := Try.checked) own started (by kernel_rfl) Try.func11
    (ChangeSpec.witness6 (enc := enc) (C := Try.checked) false ⟨#[], #[.slice none 0 0], []⟩ 8 (by kernel_rfl) (by kernel_rfl) (by kernel_rfl) (by kernel_rfl)) ?_
  intro W base args ds gs before hval0 hW _ _
  have hval : ∀ (j : Nat) t v, Try.f11.params[j]? = some t → args[j]? = some v → Value.okWide Try.prog W .any base t v := hval0
  have hW' := hW
  obtain ⟨p, q, hA0, hV, rfl, _, _⟩ := hW
  have hA : DataW.TrodAll enc Try.prog W 0 (fun _ => true) true Try.f11.params.toList args.toList ds p := hA0
  rw [Try.params11] at hA hval
  obtain ⟨v0, vs0, d0, ds0, p0, q0, hargs, rfl, rfl, h0, r0⟩ := trodAll_cons hA
  obtain ⟨rfl, rfl, rfl⟩ := trodAll_nil r0
  obtain rfl : args = #[v0] := by cases args; simp_all
  obtain ⟨rfl, rfl⟩ := trodVars_none hV
  obtain ⟨a0, len0, cap0, rfl⟩ := okWide_slice Try.underlying80 (hval 0 80 v0 rfl rfl)
  have k0 := h0
  have lt0 : ∀ x ∈ p0, x.block < W.heap.size := by obtain ⟨m, hm⟩ := k0; exact DataW.trod_lt m _ _ _ hm
  have w0 : Arg0 W a0 len0 cap0 := opened0 h0
  clear hA0 hval0
  refine (walk a0 len0 cap0 W w0).mono fun e W' ⟨he, bel⟩ => ?_
  subst he
  exact ⟨_, rfl, _, _, _, [], _, [], hW', trodAll_mk1 (shut_bool Try.underlying4 _), (trodAll_cons_mk (Below.trod laidOut (by kernel_rfl) (of_decide_eq_true (by kernel_rfl)) k0 bel lt0) trodAll_mk0), rfl, bel.frame _, fun h => by cases h⟩

theorem over : Rows.rankSortsRow.holds Try.pinned (OpenSpec.ofChange Rows.rankSortsSpec) :=
  OpenClaim.holds_of_wide 11 Try.f11 rfl rfl rfl rfl rfl rfl rfl ⟨rfl, rfl, rfl, rfl, rfl⟩ rfl rfl rfl rfl rfl (by kernel_rfl) Try.func11 (by kernel_rfl)
    (of_decide_eq_true (by kernel_rfl)) (by unfold Func.isWrapper; first | (rw [if_pos (by decide +kernel)]; kernel_rfl) | (rw [if_neg (by decide +kernel)]; exact ⟨rfl, rfl⟩))
    (fun os started H enc _ => lifted os started H enc)

theorem proved : Rows.RankSortsSaid := over

end Go.Proofs.Ytpdcbfhmlgmhpaa.rankSorts
