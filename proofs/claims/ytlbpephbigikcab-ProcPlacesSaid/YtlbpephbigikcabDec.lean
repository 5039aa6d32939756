/- A number's bytes are read as that number. -/
import Derived.Test.YtlbpephbigikcabWireR
import Derived.Test.YtlbpephbigikcabWireW
namespace Go.Proofs.Ytlbpephbigikcab
open Go.RowKit

theorem hi_nil (m : Nat) : (hi m).length = 0 → m = 0 := by
  intro h
  rw [hi] at h
  by_cases hm : m = 0
  · exact hm
  · rw [if_neg hm] at h; simp at h

theorem dec_hi (m : Nat) : m < 144115188075855872 → ∀ l, dec 0 0 (hi m ++ l) = dec (hi m).length m l := by
  induction m using Nat.strongRecOn with
  | ind m ih =>
    intro hm l
    by_cases h0 : m = 0
    · subst h0; rw [hi_zero]; rfl
    · have hh : hi m = hi (m / 128) ++ [UInt8.ofNat (128 + m % 128)] := by
        conv => lhs; rw [hi, if_neg h0]
      rw [hh, List.append_assoc, ih (m / 128) (by omega) (by omega), List.singleton_append, dec]
      have hb : (UInt8.ofNat (128 + m % 128)).toNat = 128 + m % 128 := by simp; omega
      rw [hb, if_neg, if_neg (by omega)]
      · rw [List.length_append, List.length_singleton]
        congr 1
        omega
      · rintro (⟨h1, h2⟩ | h1)
        · have := hi_nil _ h1
          omega
        · omega

theorem dec_of_enc (n : Nat) (hn : n < 18446744073709551616) (t : List UInt8) : dec 0 0 (enc n ++ t) = (0, n, (enc n).length) := by
  unfold enc
  rw [List.append_assoc, dec_hi (n / 128) (by omega), List.singleton_append, dec]
  have hb : (UInt8.ofNat (n % 128)).toNat = n % 128 := by simp; omega
  rw [hb, if_neg, if_pos (by omega)]
  · rw [List.length_append, List.length_singleton]
    congr 2
    omega
  · rintro (⟨_, h2⟩ | h1) <;> omega

theorem extract_drop (a t : List UInt8) : (⟨(a ++ t).toArray⟩ : ByteArray).extract a.length (⟨(a ++ t).toArray⟩ : ByteArray).size = ⟨t.toArray⟩ := by
  apply ByteArray.ext
  apply Array.toList_inj.1
  have : (⟨(a ++ t).toArray⟩ : ByteArray).size = a.length + t.length := by show (a ++ t).toArray.size = _; simp
  rw [this]
  simp [ByteArray.data_extract]

theorem extract_head (a t : List UInt8) : (⟨(a ++ t).toArray⟩ : ByteArray).extract 0 a.length = ⟨a.toArray⟩ := by
  apply ByteArray.ext
  apply Array.toList_inj.1
  simp [ByteArray.data_extract]

theorem text_size (a : List UInt8) : (⟨a.toArray⟩ : ByteArray).size = a.length := by show a.toArray.size = _; simp

end Go.Proofs.Ytlbpephbigikcab
