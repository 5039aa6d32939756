/- What Writer.Text, and the document's own Num, Cut give. -/
import Derived.Test.YtpdcbfhmlgmhpaaWireR
import Derived.Test.YtpdcbfhmlgmhpaaWireW
namespace Go.Proofs.Ytpdcbfhmlgmhpaa
open Go.RowKit

theorem own_text {P : Program} (w : World) (src dst e : TypeId) (hs : P.underlying src = some (.slice e)) (he : P.underlying e = some (.int .u8)) (hd : P.underlying dst = some .string) {v : Value} {xs : List UInt8}
    (ho : w.ownsRow 0 e 1 v xs.length (xs.map byteV)) : (convert src dst v).run P w = .ok (.string ⟨xs.toArray⟩) w := by
  rcases ho.2 with ⟨rfl, h0⟩ | ⟨g, cap, cur, rfl, _⟩
  · have : xs = [] := List.eq_nil_of_length_eq_zero h0
    subst this
    rw [run_convert_bytes_string w src dst e none 0 0 hs he hd]
    rfl
  · refine run_convert_bytes_back w src dst e ⟨g, 0, none⟩ cap xs hs he hd (fun j hj => ?_)
    exact ho.cells rfl j _ (by simp [hj, byteV])

theorem new_text {P : Program} (w : World) (src dst e : TypeId) (hs : P.underlying src = some (.slice e)) (he : P.underlying e = some (.int .u8)) (hd : P.underlying dst = some .string) (x : Int) :
    (convert src dst (.slice (some ⟨w.heap.size, 0, none⟩) 1 1)).run P (w.alloc (.cells #[.int .u8 x] e)) = .ok (.string ⟨#[UInt8.ofNat x.toNat]⟩) (w.alloc (.cells #[.int .u8 x] e)) := by
  rw [run_convert_bytes_string _ src dst e _ 1 1 hs he hd]
  rw [run_bytesToString _ _ 1 1 [x] (by
    have := run_loadCells_list (P := P) (w.alloc (.cells #[.int .u8 x] e)) ⟨w.heap.size, 0, none⟩ [.int .u8 x] (World.news_of_block (heap_alloc_new _ _))
    simpa using this)]
  rfl

set_option maxHeartbeats 400000 in
theorem text_any (b : Nat) (r : Option Nat) (xs : List UInt8) (w : World) (h : Wr w b r xs) :
    Calls Try.prog 57 #[.pointer (some ⟨b, 0, none⟩)] w fun en w' => en = .returned (.string ⟨xs.toArray⟩) ∧ w = w' := by
  obtain ⟨v, hb, ho, hv, hne⟩ := h
  have c0 : w.cell? ⟨b, 0, none⟩ = some v := hb.cell 0
  have hc := own_text (P := Try.prog) w 46 9 5 Try.underlying46 Try.underlying5 Try.underlying9 ho
  clear hb ho hv hne
  go_enter Try.func57, Try.ntmps57
  go_wp2
  go_ret
  exact ⟨rfl, rfl⟩

theorem str_cons (c : UInt8) (X : List UInt8) : (⟨#[c]⟩ : ByteArray) ++ ⟨X.toArray⟩ = ⟨(c :: X).toArray⟩ := by
  apply ByteArray.ext
  simp

set_option maxRecDepth 100000 in
set_option maxHeartbeats 400000 in
theorem fnum_any (N : Nat) (w : World) (hN : N < 18446744073709551616) :
    Calls Try.prog 58 #[.int .u64 N] w fun en w' => en = .returned (.string ⟨(enc N).toArray⟩) ∧ Below w.heap.size w w' := by
  have HN := Lib.hid hN
  have hq : N / 128 < 144115188075855872 := by omega
  clear hN
  have kt := fun (W : World) (x : Int) => new_text (P := Try.prog) W 46 9 5 Try.underlying46 Try.underlying5 Try.underlying9 x
  go_enter Try.func58, Try.ntmps58
  go_wp2_with fail
  go_loopw [0, 3, 4] (fun n s i wr => ∃ (k M : Nat) (X : List UInt8), k ≤ 9 ∧ i = .int .i64 k ∧ n = .int .u64 M ∧ s = .string ⟨X.toArray⟩ ∧ M < 9223372036854775808 ∧ X.length ≤ k + 1 ∧ Hid (enc N = hi M ++ X) ∧ Hid (M < 128 ^ (9 - k)) ∧ Below w.heap.size w wr) (fun _ _ i _ => 9 - (intOf i).toNat)
  case atStart => exact ⟨0, N / 128, [low N], by omega, rfl, by go_num, rfl, by omega, by simp, rfl, by show N / 128 < 128 ^ 9; omega, (Below.refl _ _).alloc (Nat.le_refl _) _⟩
  case round =>
    obtain ⟨k, M, X, hk, rfl, rfl, rfl, hM9, hX, HE, HM, HB⟩ := hrel
    by_cases hc : k < 9 ∧ 0 < M
    · obtain ⟨h9, hM⟩ := hc
      have hM7 : M / 128 < 144115188075855872 := by omega
      have HE' : Hid (enc N = hi (M / 128) ++ (UInt8.ofNat (128 + M % 128) :: X)) := by
        rw [HE.out, hi, if_neg (by omega), List.append_assoc]; exact rfl
      have HM' : Hid (M / 128 < 128 ^ (9 - (k + 1))) := by
        have h := HM.out
        rw [show 9 - k = 9 - (k + 1) + 1 by omega, Nat.pow_succ] at h
        show M / 128 < _
        omega
      go_wp2_with fail
      go_roundw
      case rel => exact ⟨k + 1, M / 128, UInt8.ofNat (128 + M % 128) :: X, by omega, by go_num, by go_num, by rw [str_cons]; simp, by omega, by simp; omega, HE', HM', HB.alloc HB.size _⟩
      case measure => simp [intOf]; omega
    · have hM0 : M = 0 := by
        rcases Nat.lt_or_ge k 9 with h | h
        · omega
        · have h1 := HM.out
          rw [show 9 - k = 0 by omega] at h1
          omega
      subst hM0
      have e : enc N = X := by rw [HE.out, hi_zero]; rfl
      have E := Lib.hid e
      clear e hM9 hX HE HM
      by_cases h9 : k < 9
      · go_wp2_with fail
        go_ret
        rw [E.out]
        exact ⟨rfl, HB⟩
      · go_wp2_with fail
        go_ret
        rw [E.out]
        exact ⟨rfl, HB⟩

theorem dec_lt : ∀ (l : List UInt8) (i n : Nat), n < 18446744073709551616 → (dec i n l).2.1 < 18446744073709551616
  | [], i, n, _ => by simp [dec]
  | b :: t, i, n, h => by
    rw [dec]
    by_cases h1 : (i = 0 ∧ b.toNat = 128) ∨ 144115188075855872 ≤ n
    · rw [if_pos h1]; simp
    · rw [if_neg h1]
      by_cases h2 : b.toNat < 128
      · rw [if_pos h2]; show n * 128 + b.toNat % 128 < _; omega
      · rw [if_neg h2]; exact dec_lt t _ _ (by omega)

/-- A number that may be below 0, out of its number. -/
def unz (n : Nat) : Int := if n % 2 = 1 then -((n / 2 : Nat) : Int) - 1 else ((n / 2 : Nat) : Int)

def IntPost (b : Nat) (s : ByteArray) (e : Int) (w : World) (r : Nat × Nat × Nat) (en : Ending) (w' : World) : Prop :=
  en = .returned (.int .i64 (unz r.2.1)) ∧ Rd w' b (restOf s r) (errOf e r) ∧ w.grownBy w' (some b)

set_option maxHeartbeats 400000 in
theorem cut_any (s : ByteArray) (n : Nat) (w : World) (hn : n ≤ 1000000) (_hs : s.size ≤ maxLen) :
    Calls Try.prog 26 #[.string s, .int .i64 n] w fun en w' => en = .returned (.string (s.extract 0 n)) ∧ w = w' := by
  unfold maxLen at _hs
  by_cases h : n < s.size
  · go_enter Try.func26, Try.ntmps26
    go_wp2
    go_ret
    exact ⟨rfl, rfl⟩
  · have e : s.extract 0 n = s := by
      apply ByteArray.ext
      simp [ByteArray.data_extract]
      omega
    have E := Lib.hid e
    clear e
    go_enter Try.func26, Try.ntmps26
    go_wp2
    go_ret
    rw [E.out]
    exact ⟨rfl, rfl⟩

end Go.Proofs.Ytpdcbfhmlgmhpaa
