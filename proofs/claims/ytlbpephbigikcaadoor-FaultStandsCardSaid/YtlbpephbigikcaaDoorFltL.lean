/- fault: what the laws share: the steps that came out of wrapped stand where they should; number. -/
import Derived.Test.YtlbpephbigikcaaDoorFltJ
namespace Go.Proofs.YtlbpephbigikcaaDoor.flt
open Go Go.RowKit

theorem num_is {n x : Int} (h : num n = x) (w : World) : Calls Tryd.prog 10 #[.int .i64 n] w fun en w' => en = .returned (.int .i64 x) ∧ w = w' := by
  subst h; exact number_calls n w

theorem Mt.get {T : Nat → ByteArray × Int} : ∀ {L : List Sp} {j : Nat}, Mt T j L → ∀ k, k < L.length → ∃ x, L[k]? = some x ∧ x.s = cut10 (T (j + k)).1 ∧ x.a = low62 (T (j + k)).2
  | [], _, _, k, hk => by cases hk
  | x :: r, j, h, 0, _ => ⟨x, rfl, h.1.1, h.1.2⟩
  | x :: r, j, h, k + 1, hk => by
    obtain ⟨y, h1, h2, h3⟩ := Mt.get h.2 k (by simpa using hk)
    exact ⟨y, by simpa using h1, by rw [h2, Nat.add_assoc, Nat.add_comm 1 k], by rw [h3, Nat.add_assoc, Nat.add_comm 1 k]⟩

theorem within_has {T : Nat → ByteArray × Int} {L : List Sp} (h : Mt T 0 L) {k : Nat} (hk : k < L.length) : within L (cut10 (T k).1) = true := by
  obtain ⟨x, h1, h2, _⟩ := h.get k hk
  rw [Nat.zero_add] at h2
  unfold within
  rw [List.any_eq_true]
  exact ⟨x, List.mem_of_getElem? h1, decide_eq_true h2⟩
end Go.Proofs.YtlbpephbigikcaaDoor.flt
