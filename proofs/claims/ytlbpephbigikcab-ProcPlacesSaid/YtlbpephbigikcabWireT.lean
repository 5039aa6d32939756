/- What Writer.Text and Cut give. -/
import Derived.Test.YtlbpephbigikcabWireR
import Derived.Test.YtlbpephbigikcabWireW
namespace Go.Proofs.Ytlbpephbigikcab
open Go.RowKit

theorem own_text {P : Program} (w : World) (src dst e : TypeId) (hs : P.underlying src = some (.slice e)) (he : P.underlying e = some (.int .u8)) (hd : P.underlying dst = some .string) {v : Value} {xs : List UInt8}
    (ho : w.ownsRow 0 e 1 v xs.length (xs.map byteV)) : (convert src dst v).run P w = .ok (.string ⟨xs.toArray⟩) w := by
  rcases ho.2 with ⟨rfl, h0⟩ | ⟨g, cap, cur, rfl, _⟩
  · have : xs = [] := List.eq_nil_of_length_eq_zero h0
    subst this
    rw [run_convert_bytes_string w src dst e none 0 0 hs he hd]
    rfl
  · refine run_convert_bytes_back w src dst e ⟨g, 0, none⟩ cap xs hs he hd (fun j hj => ?_)
    exact ho.cells rfl j _ (by simp [hj, byteV])

set_option maxHeartbeats 400000 in
theorem text_any (b : Nat) (r : Option Nat) (xs : List UInt8) (w : World) (h : Wr w b r xs) :
    Calls Try.prog 41 #[.pointer (some ⟨b, 0, none⟩)] w fun en w' => en = .returned (.string ⟨xs.toArray⟩) ∧ w = w' := by
  obtain ⟨v, hb, ho, hv, hne⟩ := h
  have c0 : w.cell? ⟨b, 0, none⟩ = some v := hb.cell 0
  have hc := own_text (P := Try.prog) w 63 9 5 Try.underlying63 Try.underlying5 Try.underlying9 ho
  clear hb ho hv hne
  go_enter Try.func41, Try.ntmps41
  go_wp2
  go_ret
  exact ⟨rfl, rfl⟩

theorem dec_lt : ∀ (l : List UInt8) (i n : Nat), n < 18446744073709551616 → (dec i n l).2.1 < 18446744073709551616
  | [], i, n, _ => by simp [dec]
  | b :: t, i, n, h => by
    rw [dec]
    by_cases h1 : (i = 0 ∧ b.toNat = 128) ∨ 144115188075855872 ≤ n
    · rw [if_pos h1]; simp
    · rw [if_neg h1]
      by_cases h2 : b.toNat < 128
      · rw [if_pos h2]; show n * 128 + b.toNat % 128 < _; omega
      · rw [if_neg h2]; exact dec_lt t _ _ (by omega)

/-- A number that may be below 0, out of its number. -/
def unz (n : Nat) : Int := if n % 2 = 1 then -((n / 2 : Nat) : Int) - 1 else ((n / 2 : Nat) : Int)

def IntPost (b : Nat) (s : ByteArray) (e : Int) (w : World) (r : Nat × Nat × Nat) (en : Ending) (w' : World) : Prop :=
  en = .returned (.int .i64 (unz r.2.1)) ∧ Rd w' b (restOf s r) (errOf e r) ∧ w.grownBy w' (some b)

set_option maxHeartbeats 400000 in
theorem cut_any (s : ByteArray) (n : Nat) (w : World) (hn : n ≤ 1000000) (_hs : s.size ≤ maxLen) :
    Calls Try.prog 32 #[.string s, .int .i64 n] w fun en w' => en = .returned (.string (s.extract 0 n)) ∧ w = w' := by
  unfold maxLen at _hs
  by_cases h : n < s.size
  · go_enter Try.func32, Try.ntmps32
    go_wp2
    go_ret
    exact ⟨rfl, rfl⟩
  · have e : s.extract 0 n = s := by
      apply ByteArray.ext
      simp [ByteArray.data_extract]
      omega
    have E := Lib.hid e
    clear e
    go_enter Try.func32, Try.ntmps32
    go_wp2
    go_ret
    rw [E.out]
    exact ⟨rfl, rfl⟩

end Go.Proofs.Ytlbpephbigikcab
