/- What is put is taken: a number, a text at the head of what is left (no program's walk). -/
import Derived.Test.YtlbpephbigikcabWireU
import Derived.Test.YtlbpephbigikcabDec
namespace Go.Proofs.Ytlbpephbigikcab
open Go.RowKit

theorem upto_enc (n : Nat) (R : List UInt8) (most : Int) (h : (n : Int) ≤ max most 0) (hn : n < 18446744073709551616) : upto most ⟨(enc n ++ R).toArray⟩ 0 = (n, ⟨R.toArray⟩, 0) := by
  have e : dec 0 0 (⟨(enc n ++ R).toArray⟩ : ByteArray).data.toList = (0, n, (enc n).length) := by
    have := dec_of_enc n hn R
    simpa using this
  unfold upto
  simp only [e]
  rw [if_pos h]
  have hr : restOf ⟨(enc n ++ R).toArray⟩ (0, n, (enc n).length) = ⟨R.toArray⟩ := by
    unfold restOf
    rw [if_pos rfl]
    exact extract_drop (enc n) R
  rw [hr]
  rfl

theorem strN_enc (x R : List UInt8) (most : Int) (h : (x.length : Int) ≤ max most 0) (hn : x.length < 18446744073709551616) : strN most ⟨(enc x.length ++ (x ++ R)).toArray⟩ 0 = (⟨x.toArray⟩, ⟨R.toArray⟩, 0) := by
  unfold strN
  rw [upto_enc x.length (x ++ R) most h hn]
  unfold takeN
  rw [if_pos (by rw [text_size, List.length_append]; omega), extract_head]
  have := extract_drop x R
  rw [this]

theorem end_nil : endE ⟨([] : List UInt8).toArray⟩ 0 = 0 := rfl

end Go.Proofs.Ytlbpephbigikcab
