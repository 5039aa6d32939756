/- The sums of leaves of a list of texts. -/
import Derived.Test.YtdoadmkaoboncaaGreatDoorDigH
namespace Go.Proofs.YtdoadmkaoboncaaGreatDoor.dig
open Go

/-- The sums of the leaves of texts. -/
def leafF (L : List ByteArray) (i : Nat) : List UInt8 := leafS ((L[i]?).getD ByteArray.empty).data.toList
theorem leafF_len (L : List ByteArray) (i : Nat) : (leafF L i).length = 32 := leafS_length _
theorem leafF_at (L : List ByteArray) (i : Nat) (s : ByteArray) (h : L[i]? = some s) : leafF L i = leafS s.data.toList := by unfold leafF; rw [h]; rfl
theorem leafF_app (L M : List ByteArray) (i : Nat) (h : i < L.length) : leafF (L ++ M) i = leafF L i := by unfold leafF; rw [List.getElem?_append_left h]
theorem leafF_take (L : List ByteArray) (n i : Nat) (h : i < n) : leafF (L.take n) i = leafF L i := by unfold leafF; rw [List.getElem?_take_of_lt h]
end Go.Proofs.YtdoadmkaoboncaaGreatDoor.dig
