/- ledger: what New gives. -/
import Derived.Test.YtfhpcodjmmidhaaLedD
namespace Go.Proofs.Ytfhpcodjmmidhaa
open Go.RowKit Go.Maps

section
variable {H : Type}

/-- The house alone. -/
def D0 : DataW H := (DataW.map []).put (kS ⟨#[]⟩) (nI 0)

def NewPost (H : Type) (w : World) (en : Ending) (w' : World) : Prop :=
  ∃ d m, en = .returned (.pointer (some ⟨d, 0, none⟩)) ∧ Bk (H := H) w' d m D0 ∧ Below w.heap.size w w' ∧ w.heap.size ≤ d ∧ w.heap.size ≤ m

set_option maxRecDepth 100000 in
set_option maxHeartbeats 400000 in
theorem bnew_calls (w : World) : Calls Try.prog 13 #[] w fun en w' => NewPost H w en w' := by
  have hrun0 := run_makeMap (P := Try.prog) 88 w
  obtain ⟨w1, hrun1, hown1, hturn1⟩ := (World.ownsMap_made (H := H) w Try.prog 9 (plainElem Try.prog 3)).store strKeyed Try.underlying88 (by unfold maxLen; omega) (kS_of (s := ⟨#[]⟩) (Nat.zero_le _)) (plainElem_int Try.underlying3 (a := 0) (by decide))
  have hb : Below w.heap.size w w1 := below_grown (grown_trans (grown_alloc (grown_refl w _) _) hturn1.grown) (Nat.le_refl _) (Nat.le_refl _)
  have hM : Hid (Mp w1 w.heap.size (D0 (H := H))) := ownsMap_tight hown1
  have hB := Lib.hid hb
  clear hown1 hturn1 hb
  go_enter Try.func13, Try.ntmps13
  go_wp2_with fail
  go_ret
  have hz := hB.out.size
  refine ⟨w1.heap.size, w.heap.size, rfl, ⟨Has.made _ _ _, hM.out.alloc _⟩, ?_, hz, Nat.le_refl _⟩
  exact below_grown (b := w.heap.size) (grown_alloc (grown_below hB.out _ (Nat.le_refl _)) _) (Nat.le_refl _) (Nat.le_refl _)

end
end Go.Proofs.Ytfhpcodjmmidhaa
