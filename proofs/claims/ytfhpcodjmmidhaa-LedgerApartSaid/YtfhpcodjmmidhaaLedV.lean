/- ledger: what Touches gives (slices.DeleteFunc off the shelf). -/
import Derived.Test.YtfhpcodjmmidhaaLedU
import Derived.Shelf.SlGeneric
import Derived.Shelf.SlicesE.DeleteFunc
import Derived.Ground.SlgfProg
namespace Go.Proofs
open Go.Shelf
shelf_lay_g SlLaysH.n10 Slgf 10 at Try 53 as Try.del10
end Go.Proofs
namespace Go.Proofs.Ytfhpcodjmmidhaa
open Go.RowKit Go.Maps Go.Sort

/-- The names that an op touches, but the house. -/
def tch (s t : ByteArray) : List (List UInt8) := nb [s.data.toList, t.data.toList]

theorem clo_gives (x : List UInt8) (w : World) : FnGives Try.prog 54 #[] #[encStr x] (.bool x.isEmpty) w := by
  show Calls Try.prog 54 #[encStr x] w _
  unfold encStr
  go_enter Try.func54, Try.ntmps54
  go_wp2_with fail
  all_goals
    go_ret
    exact ⟨by simp_all, 0, rfl⟩

theorem del_strs (blk cap : Nat) (ss : List (List UInt8)) (w : World) (hH : Holds encStr w blk 0 ss.toArray) (hsz : ss.length < 4611686018427387904) (hcap : ss.length ≤ cap) :
    Calls Try.prog 53 #[.slice (some ⟨blk, 0, none⟩) ss.length cap, .func (.func 54) #[] #[]] w fun e w' =>
      e = .returned (.slice (some ⟨blk, 0, none⟩) (nb ss).length cap) ∧ ∃ q, w' = putRow encStr (Sort.ahead w q) blk 0 (nb ss ++ List.replicate (ss.length - (nb ss).length) []).toArray := by
  have eg : ∀ args w, (callFunc 54 args).run Try.prog w = .ok (.enter 54 args) w := enters_of Try.func54 (by kernel_rfl) rfl
  have h := AnyE.slices_DeleteFunc Try.del10 encStr (fun _ => rfl) (fun x => x.isEmpty) 54 #[] eg ([] : List UInt8) (fun w => by kernel_rfl) blk 0 cap ss.toArray w
    (fun W x _ => clo_gives x W) (fun n os dk x _ => clo_gives x _) hH (by simp; omega) (by simpa using hcap)
  exact h

theorem del_row {w : World} {g cap n N : Nat} {ss ts : List (List UInt8)} (hH : Has w g 9 (ts.map encStr).toArray) (hl : ss.length = ts.length) (hc : ts.length = cap) (hcm : cap ≤ maxLen) (hn : n ≤ ss.length) :
    (putRow encStr (Sort.ahead w N) g 0 ss.toArray).ownsRow 0 9 1 (.slice (some ⟨g, 0, none⟩) n cap) n ((ss.take n).map encStr) := by
  have h := ownsRow_sorted (w := w) (n := N) (os := #[]) (e := 9) (ss := ts) hl (Nat.zero_le g) hH (Nat.le_of_eq hc) hcm (by simp [hc])
  have e : ∀ W : World, grow W #[] = W := fun W => by cases W; simp [grow]
  rw [e] at h
  refine ⟨by rw [List.length_map, List.length_take]; omega, ?_⟩
  rcases h.2 with ⟨h1, h2⟩ | ⟨g', cap', cur, h1, h2, h3, h4, h5, h6, h7⟩
  · cases h1
  · injection h1 with k1 k2 k3
    injection k1 with k1
    injection k1 with k1
    subst k1
    subst k3
    refine .inr ⟨g, cap, cur, rfl, h2, h3, by omega, h5, h6, ?_⟩
    have h7' : cur.toList.take (ts.length * 1) = ss.map encStr := h7
    rw [Nat.mul_one] at h7' ⊢
    have : (cur.toList.take ts.length).take n = (ss.map encStr).take n := by rw [h7']
    rw [List.take_take, Nat.min_eq_left (by omega)] at this
    rw [this, List.map_take]

def TchPost (s t : ByteArray) (w : World) (en : Ending) (w' : World) : Prop :=
  ∃ v, en = .returned v ∧ w'.ownsRow 0 9 1 v (tch s t).length ((tch s t).map encStr) ∧ Below w.heap.size w w'

theorem callsName {P : Program} {f : FuncId} {args : Array Value} {w : World} {R : Ending → World → Prop} (h : ∀ W, w = W → Calls P f args W R) : Calls P f args w R := h w rfl

theorem encStr_of (s : ByteArray) : encStr s.data.toList = .string s := by simp [encStr]

set_option maxRecDepth 100000 in
set_option maxHeartbeats 1000000 in
theorem ltouches_calls (k n : Int) (s t : ByteArray) (w : World) :
    Calls Try.prog 19 #[.agg #[.int .i64 k, .string s, .string t, .int .i64 n]] w fun en w' => TchPost s t w en w' := by
  go_enter Try.func19, Try.ntmps19
  go_wp2_with fail
  refine callsName (fun W hW => ?_)
  obtain ⟨g, eg⟩ : ∃ g, g = w.heap.size + 1 := ⟨_, rfl⟩
  have HH : Has W g 9 ([s.data.toList, t.data.toList].map encStr).toArray := by
    rw [← hW, eg]
    have := made_at (w := w.alloc (.cells #[.int .i64 k, .string s, .string t, .int .i64 n] 29)) (g := w.heap.size + 1) 9 #[.string s, .string t] (by simp)
    simpa [encStr] using this
  have T0 : Below w.heap.size w W := by rw [← hW]; exact ((Below.refl _ _).alloc (Nat.le_refl _) _).alloc (by simp) _
  rw [← eg]
  have hg : w.heap.size ≤ g := by omega
  clear hW eg
  have HT := Lib.hid T0
  have HX := Lib.hid HH
  clear T0 HH
  refine (del_strs g 2 [s.data.toList, t.data.toList] W (holds_of_block HX.out (by simp)) (by simp) (by simp)).mono ?_
  rintro en w1 ⟨rfl, q, rfl⟩
  go_wp2_with fail
  go_ret
  have hle : (tch s t).length ≤ 2 := nb_le [s.data.toList, t.data.toList]
  refine ⟨_, rfl, ?_, ?_⟩
  · have h := del_row (N := q) (n := (tch s t).length) (cap := 2) (ss := tch s t ++ List.replicate (2 - (tch s t).length) []) HX.out (by simp; omega) rfl (by unfold maxLen; omega) (by simp)
    rw [List.take_left] at h
    exact h
  · have h := grownBy_sorted (w := W) (g := g) (n := q) (os := #[]) (tch s t ++ List.replicate (2 - (tch s t).length) []).toArray
    have e : ∀ W : World, grow W #[] = W := fun W => by cases W; simp [grow]
    rw [e] at h
    exact HT.out.grown h HT.out.size (fun j hj => by cases hj; exact hg)

end Go.Proofs.Ytfhpcodjmmidhaa
