/- ledger: what Inverse gives. -/
import Derived.Test.YtfhpcodjmmidhaaLedG
namespace Go.Proofs.Ytfhpcodjmmidhaa
open Go.RowKit

/-- The op that takes one back. -/
def invL (k n : Int) (s t : ByteArray) : Value :=
  if k = 1 then .agg #[.int .i64 2, .string s, .string ⟨#[]⟩, .int .i64 0]
  else if k = 2 then .agg #[.int .i64 1, .string s, .string ⟨#[]⟩, .int .i64 0]
  else if k = 3 then .agg #[.int .i64 3, .string t, .string s, .int .i64 n]
  else .agg #[.int .i64 0, .string ⟨#[]⟩, .string ⟨#[]⟩, .int .i64 0]



set_option maxRecDepth 100000 in
set_option maxHeartbeats 1000000 in
theorem linverse_calls (k n : Int) (s t : ByteArray) (w : World) :
    Calls Try.prog 17 #[.agg #[.int .i64 k, .string s, .string t, .int .i64 n]] w fun en w' => en = .returned (invL k n s t) ∧ Below w.heap.size w w' := by
  by_cases h1 : k = 1
  · subst h1
    go_enter Try.func17, Try.ntmps17
    go_wp2_with fail
    refine bodyPost_ret (v := .agg #[.int .i64 2, .string s, .string ⟨#[]⟩, .int .i64 0]) (by simp [results, Try.results17, go_sem]) rfl ⟨rfl, turn_box ?_⟩
    repeat (first | exact Turn.refl _ _ | refine Turn.drew ?_ | refine Turn.alloc ?_ _ | refine Turn.put ?_ (fun h => by omega) _ _)
  · by_cases h2 : k = 2
    · subst h2
      go_enter Try.func17, Try.ntmps17
      go_wp2_with fail
      refine bodyPost_ret (v := .agg #[.int .i64 1, .string s, .string ⟨#[]⟩, .int .i64 0]) (by simp [results, Try.results17, go_sem]) rfl ⟨rfl, turn_box ?_⟩
      repeat (first | exact Turn.refl _ _ | refine Turn.drew ?_ | refine Turn.alloc ?_ _ | refine Turn.put ?_ (fun h => by omega) _ _)
    · by_cases h3 : k = 3
      · subst h3
        go_enter Try.func17, Try.ntmps17
        go_wp2_with fail
        refine bodyPost_ret (v := .agg #[.int .i64 3, .string t, .string s, .int .i64 n]) (by simp [results, Try.results17, go_sem]) rfl ⟨rfl, turn_box ?_⟩
        repeat (first | exact Turn.refl _ _ | refine Turn.drew ?_ | refine Turn.alloc ?_ _ | refine Turn.put ?_ (fun h => by omega) _ _)
      · have E : Hid (invL k n s t = .agg #[.int .i64 0, .string ⟨#[]⟩, .string ⟨#[]⟩, .int .i64 0]) := by show _ = _; unfold invL; rw [if_neg h1, if_neg h2, if_neg h3]
        have k1 : (k != 1) = true := by simpa using h1
        have k2 : (k != 2) = true := by simpa using h2
        have k3 : (k != 3) = true := by simpa using h3
        clear h1 h2 h3
        go_enter Try.func17, Try.ntmps17
        go_wp2_with fail
        refine bodyPost_ret (v := .agg #[.int .i64 0, .string ⟨#[]⟩, .string ⟨#[]⟩, .int .i64 0]) (by simp [results, Try.results17, go_sem]) rfl ⟨E.out.symm ▸ rfl, turn_box ?_⟩
        repeat (first | exact Turn.refl _ _ | refine Turn.drew ?_ | refine Turn.alloc ?_ _ | refine Turn.put ?_ (fun h => by omega) _ _)

end Go.Proofs.Ytfhpcodjmmidhaa
