/- Texts laid into one: AudC, Strs, Lvs, AudD, AudS, AudT, AudU, HeldK, AudV. -/
import Derived.Test.YtdoadmkaoboncaaGreatDoorZ002
import Derived.Test.YtdoadmkaoboncaaGreatDoorBase
import Derived.SliceStrings
import Derived.ProofKit
import Derived.OpenShut
import Derived.Deep.MidRow
import Derived.Deep.SlicePairs
import Derived.ChangeOld
import Derived.Test.YtdoadmkaoboncaaGreatDoorTreeI
import Derived.Test.YtdoadmkaoboncaaGreatDoorZ000
import Derived.Test.YtdoadmkaoboncaaGreatDoorAny
import Derived.Test.YtdoadmkaoboncaaGreatDoorAppE
import Derived.Test.YtdoadmkaoboncaaGreatDoorBld
section
/- audit's laws: is, of what is no clash; awake. -/
namespace Go.Proofs.YtdoadmkaoboncaaGreatDoor.aud
open Go Go.RowKit Go.Proofs.YtdoadmkaoboncaaGreatDoor.dig Go.Proofs.YtdoadmkaoboncaaGreatDoor.prf Go.Proofs.YtdoadmkaoboncaaGreatDoor.prn Go.Proofs.YtdoadmkaoboncaaGreatDoor.clash

theorem is_none (w : World) (hR : Rk w) : Calls Tryz.prog 26 #[.agg #[.string ⟨#[]⟩, .string ⟨#[]⟩]] w fun en w' => en = .returned (.bool false) ∧ Below w.heap.size w w' := by
  have h := is_calls ⟨#[]⟩ ⟨#[]⟩ w hR (by decide) (by decide)
  rw [clashB_self] at h
  exact h

/-- What lasts while a verdict is looked at. -/
structure IsV (w : World) (k : Int) (V : World) : Prop where
  rk : Rk V
  own : Has V w.heap.size 46 (verC k ⟨#[]⟩ ⟨#[]⟩)
  bel : Below w.heap.size w V
theorem IsV.below {w V V' : World} {k : Int} (h : IsV w k V) (b : Below V.heap.size V V') : IsV w k V' :=
  ⟨h.rk.below b, h.own.below b h.own.lt, h.bel.trans (b.mono h.bel.size)⟩
theorem pair_range {V : World} {g : Nat} {k : Int} {a b : ByteArray} (h : Has V g 46 (verC k a b)) : V.rangeAt g 1 [.string a, .string b] := fun j u hj => by
  rw [h.cell, ← hj]
  rcases j with _ | _ | j
  · simp [verC]
  · simp [verC]
  · simp at hj
theorem built_pair : Tryz.prog.built 44 [] = some #[.string ⟨#[]⟩, .string ⟨#[]⟩] := by kernel_rfl
theorem exec_zero_pair {ev : Operand → Value} {o : Oper} {w : World} (ho : o.op = .build 44 #[]) : (execOp ev o).run Tryz.prog w = .ok (.value (.agg #[.string ⟨#[]⟩, .string ⟨#[]⟩])) w := by
  have hr := run_build (P := Tryz.prog) w 44 #[] _ built_pair
  unfold execOp
  simp only [ho, Sem.run_bind, Sem.run_pure]
  simp [hr]

set_option maxRecDepth 100000 in
set_option maxHeartbeats 2000000 in
theorem is_calls0 (k : Int) (hk : k = 0 ∨ k = 1 ∨ k = 3) (w : World) (hR : Rk w) :
    Calls Tryz.prog 10 #[.agg (verC k ⟨#[]⟩ ⟨#[]⟩), .int .i64 k] w fun en w' => en = .returned (.bool true) ∧ Below w.heap.size w w' := by
  have HR := Lib.hid hR
  clear hR
  rcases hk with rfl | rfl | rfl
  · go_enter Tryz.func10, Tryz.ntmps10
    go_wp2_with fail
    go_name_world W hW
    have P0 : Hid (IsV w 0 W) := by
      have b0 : Below w.heap.size w W := by rw [← hW]; exact (Below.refl _ _).alloc (Nat.le_refl _) _
      exact Lib.hid ⟨HR.out.below b0, by rw [← hW]; exact made_at _ _ rfl, b0⟩
    clear hW HR
    refine wp_region_S (S := IsV w 0) (by kernel_rfl) (P0.out.below (Below.refl _ _).drew) ?_
    refine AnyS.pure 0 (some 5) (v := .pointer (some ⟨w.heap.size, 0, none⟩)) rfl rfl (by kernel_rfl) (by kernel_rfl) (by kernel_rfl) (fun _ _ _ h => h) (by kernel_rfl) (fun V hV => by go_simp) ?_
    refine AnyS.pure 1 (some 6) (v := .int .i64 0) rfl rfl (by kernel_rfl) (by kernel_rfl) (by kernel_rfl) (fun _ _ _ h => h) (by kernel_rfl) (fun V hV => by have c0 := hV.own.cell 0; have c1 := hV.own.cell 1; have c2 := hV.own.cell 2; simp at c0 c1 c2; go_simp) ?_
    simp only [Act.put, List.setIfInBounds_toArray, List.set_cons_zero, List.set_cons_succ]
    refine AnyS.pure 2 (some 7) (v := .int .i64 0) rfl rfl (by kernel_rfl) (by kernel_rfl) (by kernel_rfl) (fun _ _ _ h => h) (by kernel_rfl) (fun V hV => by rfl) ?_
    refine AnyS.pure 3 (some 8) (v := .bool true) rfl rfl (by kernel_rfl) (by kernel_rfl) (by kernel_rfl) (fun _ _ _ h => h) (by kernel_rfl) (fun V hV => by go_simp) ?_
    simp only [Act.put, List.setIfInBounds_toArray, List.set_cons_zero, List.set_cons_succ]
    refine AnyS.pure 4 (some 9) (v := .bool true) rfl rfl (by kernel_rfl) (by kernel_rfl) (by kernel_rfl) (fun _ _ _ h => h) (by kernel_rfl) (fun V hV => by rfl) ?_
    refine AnyS.pure 5 (some 10) (v := .pointer (some ⟨w.heap.size, 0, none⟩)) rfl rfl (by kernel_rfl) (by kernel_rfl) (by kernel_rfl) (fun _ _ _ h => h) (by kernel_rfl) (fun V hV => by go_simp) ?_
    simp only [Act.put, List.setIfInBounds_toArray, List.set_cons_zero, List.set_cons_succ]
    refine AnyS.pure 6 (some 11) (v := .int .i64 0) rfl rfl (by kernel_rfl) (by kernel_rfl) (by kernel_rfl) (fun _ _ _ h => h) (by kernel_rfl) (fun V hV => by have c0 := hV.own.cell 0; have c1 := hV.own.cell 1; have c2 := hV.own.cell 2; simp at c0 c1 c2; go_simp) ?_
    refine AnyS.pure 7 (some 12) (v := .bool false) rfl rfl (by kernel_rfl) (by kernel_rfl) (by kernel_rfl) (fun _ _ _ h => h) (by kernel_rfl) (fun V hV => by go_simp) ?_
    simp only [Act.put, List.setIfInBounds_toArray, List.set_cons_zero, List.set_cons_succ]
    refine AnyS.pure 8 (some 13) (v := .pointer (some ⟨w.heap.size, 1, none⟩)) rfl rfl (by kernel_rfl) (by kernel_rfl) (by kernel_rfl) (fun _ _ _ h => h) (by kernel_rfl) (fun V hV => by go_simp) ?_
    refine AnyS.pure 9 (some 14) (v := .agg #[.string ⟨#[]⟩, .string ⟨#[]⟩]) rfl rfl (by kernel_rfl) (by kernel_rfl) (by kernel_rfl) (fun _ _ _ h => h) (by kernel_rfl) (fun V hV => exec_load 44 (.tmp 13) rfl (.pointer (some ⟨w.heap.size, 1, none⟩)) (by kernel_rfl) (run_loadAt_mid V w.heap.size 1 44 [.string ⟨#[]⟩, .string ⟨#[]⟩] _ (pair_range hV.own) Tryz.underlying44 rfl (by kernel_rfl))) ?_
    simp only [Act.put, List.setIfInBounds_toArray, List.set_cons_zero, List.set_cons_succ]
    refine AnyS.call 10 (some 15) (.bool false) rfl rfl (by kernel_rfl) (by kernel_rfl) (by kernel_rfl) (fun _ _ _ h => h) (by kernel_rfl) 26 Tryz.f26 Tryz.func26 (by kernel_rfl) (by kernel_rfl) _ _ rfl #[.agg #[.string ⟨#[]⟩, .string ⟨#[]⟩]] (by first | (simp [Act.eval]; done) | (simp [Act.eval, Act.put]; done)) (fun V hV => (is_none V hV.rk).mono fun _ _ h => ⟨h.1, hV.below h.2⟩) ?_
    refine AnyS.pure 11 (some 16) (v := .bool true) rfl rfl (by kernel_rfl) (by kernel_rfl) (by kernel_rfl) (fun _ _ _ h => h) (by kernel_rfl) (fun V hV => by go_simp) ?_
    simp only [Act.put, List.setIfInBounds_toArray, List.set_cons_zero, List.set_cons_succ]
    refine AnyS.pure 12 (some 17) (v := .bool true) rfl rfl (by kernel_rfl) (by kernel_rfl) (by kernel_rfl) (fun _ _ _ h => h) (by kernel_rfl) (fun V hV => by rfl) ?_
    refine AnyS.pure 13 (some 18) (v := .bool true) rfl rfl (by kernel_rfl) (by kernel_rfl) (by kernel_rfl) (fun _ _ _ h => h) (by kernel_rfl) (fun V hV => by rfl) ?_
    simp only [Act.put, List.setIfInBounds_toArray, List.set_cons_zero, List.set_cons_succ]
    refine AnyS.pure 14 (some 19) (v := .pointer (some ⟨w.heap.size, 0, none⟩)) rfl rfl (by kernel_rfl) (by kernel_rfl) (by kernel_rfl) (fun _ _ _ h => h) (by kernel_rfl) (fun V hV => by go_simp) ?_
    refine AnyS.pure 15 (some 20) (v := .int .i64 0) rfl rfl (by kernel_rfl) (by kernel_rfl) (by kernel_rfl) (fun _ _ _ h => h) (by kernel_rfl) (fun V hV => by have c0 := hV.own.cell 0; have c1 := hV.own.cell 1; have c2 := hV.own.cell 2; simp at c0 c1 c2; go_simp) ?_
    simp only [Act.put, List.setIfInBounds_toArray, List.set_cons_zero, List.set_cons_succ]
    refine AnyS.pure 16 (some 21) (v := .bool false) rfl rfl (by kernel_rfl) (by kernel_rfl) (by kernel_rfl) (fun _ _ _ h => h) (by kernel_rfl) (fun V hV => by go_simp) ?_
    refine AnyS.pure 17 (some 22) (v := .bool false) rfl rfl (by kernel_rfl) (by kernel_rfl) (by kernel_rfl) (fun _ _ _ h => h) (by kernel_rfl) (fun V hV => by rfl) ?_
    simp only [Act.put, List.setIfInBounds_toArray, List.set_cons_zero, List.set_cons_succ]
    refine AnyS.pure 18 (some 23) (v := .pointer (some ⟨w.heap.size, 1, none⟩)) rfl rfl (by kernel_rfl) (by kernel_rfl) (by kernel_rfl) (fun _ _ _ h => h) (by kernel_rfl) (fun V hV => by go_simp) ?_
    refine AnyS.pure 19 (some 24) (v := .agg #[.string ⟨#[]⟩, .string ⟨#[]⟩]) rfl rfl (by kernel_rfl) (by kernel_rfl) (by kernel_rfl) (fun _ _ _ h => h) (by kernel_rfl) (fun V hV => exec_load 44 (.tmp 23) rfl (.pointer (some ⟨w.heap.size, 1, none⟩)) (by kernel_rfl) (run_loadAt_mid V w.heap.size 1 44 [.string ⟨#[]⟩, .string ⟨#[]⟩] _ (pair_range hV.own) Tryz.underlying44 rfl (by kernel_rfl))) ?_
    simp only [Act.put, List.setIfInBounds_toArray, List.set_cons_zero, List.set_cons_succ]
    refine AnyS.pure 20 (some 25) (v := .agg #[.string ⟨#[]⟩, .string ⟨#[]⟩]) rfl rfl (by kernel_rfl) (by kernel_rfl) (by kernel_rfl) (fun _ _ _ h => h) (by kernel_rfl) (fun V hV => exec_zero_pair rfl) ?_
    refine AnyS.pure 21 (some 26) (v := .bool true) rfl rfl (by kernel_rfl) (by kernel_rfl) (by kernel_rfl) (fun _ _ _ h => h) (by kernel_rfl) (fun V hV => exec_eql_of (a := .agg #[.string ⟨#[]⟩, .string ⟨#[]⟩]) (b := .agg #[.string ⟨#[]⟩, .string ⟨#[]⟩]) rfl (by first | rfl | simp [Act.eval]) (by first | rfl | simp [Act.eval]) (by kernel_rfl) (by first | (simp [eqGuard]; done) | kernel_rfl | go_simp)) ?_
    simp only [Act.put, List.setIfInBounds_toArray, List.set_cons_zero, List.set_cons_succ]
    refine AnyS.pure 22 (some 27) (v := .bool true) rfl rfl (by kernel_rfl) (by kernel_rfl) (by kernel_rfl) (fun _ _ _ h => h) (by kernel_rfl) (fun V hV => by rfl) ?_
    refine AnyS.pure 23 (some 28) (v := .bool true) rfl rfl (by kernel_rfl) (by kernel_rfl) (by kernel_rfl) (fun _ _ _ h => h) (by kernel_rfl) (fun V hV => by rfl) ?_
    simp only [Act.put, List.setIfInBounds_toArray, List.set_cons_zero, List.set_cons_succ]
    refine AnyS.pure 24 (some 4) (v := .bool true) rfl rfl (by kernel_rfl) (by kernel_rfl) (by kernel_rfl) (fun _ _ _ h => h) (by kernel_rfl) (fun V hV => by rfl) ?_
    simp only [Act.put, List.setIfInBounds_toArray, List.set_cons_zero, List.set_cons_succ]
    refine AnyS.done (by kernel_rfl) (fun V hV => ?_) _
    have HB := Lib.hid hV.bel
    clear hV P0
    go_wp2_with fail
    go_ret
    exact ⟨rfl, HB.out⟩
  · go_enter Tryz.func10, Tryz.ntmps10
    go_wp2_with fail
    go_name_world W hW
    have P0 : Hid (IsV w 1 W) := by
      have b0 : Below w.heap.size w W := by rw [← hW]; exact (Below.refl _ _).alloc (Nat.le_refl _) _
      exact Lib.hid ⟨HR.out.below b0, by rw [← hW]; exact made_at _ _ rfl, b0⟩
    clear hW HR
    refine wp_region_S (S := IsV w 1) (by kernel_rfl) (P0.out.below (Below.refl _ _).drew) ?_
    refine AnyS.pure 0 (some 5) (v := .pointer (some ⟨w.heap.size, 0, none⟩)) rfl rfl (by kernel_rfl) (by kernel_rfl) (by kernel_rfl) (fun _ _ _ h => h) (by kernel_rfl) (fun V hV => by go_simp) ?_
    refine AnyS.pure 1 (some 6) (v := .int .i64 1) rfl rfl (by kernel_rfl) (by kernel_rfl) (by kernel_rfl) (fun _ _ _ h => h) (by kernel_rfl) (fun V hV => by have c0 := hV.own.cell 0; have c1 := hV.own.cell 1; have c2 := hV.own.cell 2; simp at c0 c1 c2; go_simp) ?_
    simp only [Act.put, List.setIfInBounds_toArray, List.set_cons_zero, List.set_cons_succ]
    refine AnyS.pure 2 (some 7) (v := .int .i64 1) rfl rfl (by kernel_rfl) (by kernel_rfl) (by kernel_rfl) (fun _ _ _ h => h) (by kernel_rfl) (fun V hV => by rfl) ?_
    refine AnyS.pure 3 (some 8) (v := .bool true) rfl rfl (by kernel_rfl) (by kernel_rfl) (by kernel_rfl) (fun _ _ _ h => h) (by kernel_rfl) (fun V hV => by go_simp) ?_
    simp only [Act.put, List.setIfInBounds_toArray, List.set_cons_zero, List.set_cons_succ]
    refine AnyS.pure 4 (some 9) (v := .bool true) rfl rfl (by kernel_rfl) (by kernel_rfl) (by kernel_rfl) (fun _ _ _ h => h) (by kernel_rfl) (fun V hV => by rfl) ?_
    refine AnyS.pure 5 (some 10) (v := .pointer (some ⟨w.heap.size, 0, none⟩)) rfl rfl (by kernel_rfl) (by kernel_rfl) (by kernel_rfl) (fun _ _ _ h => h) (by kernel_rfl) (fun V hV => by go_simp) ?_
    simp only [Act.put, List.setIfInBounds_toArray, List.set_cons_zero, List.set_cons_succ]
    refine AnyS.pure 6 (some 11) (v := .int .i64 1) rfl rfl (by kernel_rfl) (by kernel_rfl) (by kernel_rfl) (fun _ _ _ h => h) (by kernel_rfl) (fun V hV => by have c0 := hV.own.cell 0; have c1 := hV.own.cell 1; have c2 := hV.own.cell 2; simp at c0 c1 c2; go_simp) ?_
    refine AnyS.pure 7 (some 12) (v := .bool false) rfl rfl (by kernel_rfl) (by kernel_rfl) (by kernel_rfl) (fun _ _ _ h => h) (by kernel_rfl) (fun V hV => by go_simp) ?_
    simp only [Act.put, List.setIfInBounds_toArray, List.set_cons_zero, List.set_cons_succ]
    refine AnyS.pure 8 (some 13) (v := .pointer (some ⟨w.heap.size, 1, none⟩)) rfl rfl (by kernel_rfl) (by kernel_rfl) (by kernel_rfl) (fun _ _ _ h => h) (by kernel_rfl) (fun V hV => by go_simp) ?_
    refine AnyS.pure 9 (some 14) (v := .agg #[.string ⟨#[]⟩, .string ⟨#[]⟩]) rfl rfl (by kernel_rfl) (by kernel_rfl) (by kernel_rfl) (fun _ _ _ h => h) (by kernel_rfl) (fun V hV => exec_load 44 (.tmp 13) rfl (.pointer (some ⟨w.heap.size, 1, none⟩)) (by kernel_rfl) (run_loadAt_mid V w.heap.size 1 44 [.string ⟨#[]⟩, .string ⟨#[]⟩] _ (pair_range hV.own) Tryz.underlying44 rfl (by kernel_rfl))) ?_
    simp only [Act.put, List.setIfInBounds_toArray, List.set_cons_zero, List.set_cons_succ]
    refine AnyS.call 10 (some 15) (.bool false) rfl rfl (by kernel_rfl) (by kernel_rfl) (by kernel_rfl) (fun _ _ _ h => h) (by kernel_rfl) 26 Tryz.f26 Tryz.func26 (by kernel_rfl) (by kernel_rfl) _ _ rfl #[.agg #[.string ⟨#[]⟩, .string ⟨#[]⟩]] (by first | (simp [Act.eval]; done) | (simp [Act.eval, Act.put]; done)) (fun V hV => (is_none V hV.rk).mono fun _ _ h => ⟨h.1, hV.below h.2⟩) ?_
    refine AnyS.pure 11 (some 16) (v := .bool true) rfl rfl (by kernel_rfl) (by kernel_rfl) (by kernel_rfl) (fun _ _ _ h => h) (by kernel_rfl) (fun V hV => by go_simp) ?_
    simp only [Act.put, List.setIfInBounds_toArray, List.set_cons_zero, List.set_cons_succ]
    refine AnyS.pure 12 (some 17) (v := .bool true) rfl rfl (by kernel_rfl) (by kernel_rfl) (by kernel_rfl) (fun _ _ _ h => h) (by kernel_rfl) (fun V hV => by rfl) ?_
    refine AnyS.pure 13 (some 18) (v := .bool true) rfl rfl (by kernel_rfl) (by kernel_rfl) (by kernel_rfl) (fun _ _ _ h => h) (by kernel_rfl) (fun V hV => by rfl) ?_
    simp only [Act.put, List.setIfInBounds_toArray, List.set_cons_zero, List.set_cons_succ]
    refine AnyS.pure 14 (some 19) (v := .pointer (some ⟨w.heap.size, 0, none⟩)) rfl rfl (by kernel_rfl) (by kernel_rfl) (by kernel_rfl) (fun _ _ _ h => h) (by kernel_rfl) (fun V hV => by go_simp) ?_
    refine AnyS.pure 15 (some 20) (v := .int .i64 1) rfl rfl (by kernel_rfl) (by kernel_rfl) (by kernel_rfl) (fun _ _ _ h => h) (by kernel_rfl) (fun V hV => by have c0 := hV.own.cell 0; have c1 := hV.own.cell 1; have c2 := hV.own.cell 2; simp at c0 c1 c2; go_simp) ?_
    simp only [Act.put, List.setIfInBounds_toArray, List.set_cons_zero, List.set_cons_succ]
    refine AnyS.pure 16 (some 21) (v := .bool false) rfl rfl (by kernel_rfl) (by kernel_rfl) (by kernel_rfl) (fun _ _ _ h => h) (by kernel_rfl) (fun V hV => by go_simp) ?_
    refine AnyS.pure 17 (some 22) (v := .bool false) rfl rfl (by kernel_rfl) (by kernel_rfl) (by kernel_rfl) (fun _ _ _ h => h) (by kernel_rfl) (fun V hV => by rfl) ?_
    simp only [Act.put, List.setIfInBounds_toArray, List.set_cons_zero, List.set_cons_succ]
    refine AnyS.pure 18 (some 23) (v := .pointer (some ⟨w.heap.size, 1, none⟩)) rfl rfl (by kernel_rfl) (by kernel_rfl) (by kernel_rfl) (fun _ _ _ h => h) (by kernel_rfl) (fun V hV => by go_simp) ?_
    refine AnyS.pure 19 (some 24) (v := .agg #[.string ⟨#[]⟩, .string ⟨#[]⟩]) rfl rfl (by kernel_rfl) (by kernel_rfl) (by kernel_rfl) (fun _ _ _ h => h) (by kernel_rfl) (fun V hV => exec_load 44 (.tmp 23) rfl (.pointer (some ⟨w.heap.size, 1, none⟩)) (by kernel_rfl) (run_loadAt_mid V w.heap.size 1 44 [.string ⟨#[]⟩, .string ⟨#[]⟩] _ (pair_range hV.own) Tryz.underlying44 rfl (by kernel_rfl))) ?_
    simp only [Act.put, List.setIfInBounds_toArray, List.set_cons_zero, List.set_cons_succ]
    refine AnyS.pure 20 (some 25) (v := .agg #[.string ⟨#[]⟩, .string ⟨#[]⟩]) rfl rfl (by kernel_rfl) (by kernel_rfl) (by kernel_rfl) (fun _ _ _ h => h) (by kernel_rfl) (fun V hV => exec_zero_pair rfl) ?_
    refine AnyS.pure 21 (some 26) (v := .bool true) rfl rfl (by kernel_rfl) (by kernel_rfl) (by kernel_rfl) (fun _ _ _ h => h) (by kernel_rfl) (fun V hV => exec_eql_of (a := .agg #[.string ⟨#[]⟩, .string ⟨#[]⟩]) (b := .agg #[.string ⟨#[]⟩, .string ⟨#[]⟩]) rfl (by first | rfl | simp [Act.eval]) (by first | rfl | simp [Act.eval]) (by kernel_rfl) (by first | (simp [eqGuard]; done) | kernel_rfl | go_simp)) ?_
    simp only [Act.put, List.setIfInBounds_toArray, List.set_cons_zero, List.set_cons_succ]
    refine AnyS.pure 22 (some 27) (v := .bool true) rfl rfl (by kernel_rfl) (by kernel_rfl) (by kernel_rfl) (fun _ _ _ h => h) (by kernel_rfl) (fun V hV => by rfl) ?_
    refine AnyS.pure 23 (some 28) (v := .bool true) rfl rfl (by kernel_rfl) (by kernel_rfl) (by kernel_rfl) (fun _ _ _ h => h) (by kernel_rfl) (fun V hV => by rfl) ?_
    simp only [Act.put, List.setIfInBounds_toArray, List.set_cons_zero, List.set_cons_succ]
    refine AnyS.pure 24 (some 4) (v := .bool true) rfl rfl (by kernel_rfl) (by kernel_rfl) (by kernel_rfl) (fun _ _ _ h => h) (by kernel_rfl) (fun V hV => by rfl) ?_
    simp only [Act.put, List.setIfInBounds_toArray, List.set_cons_zero, List.set_cons_succ]
    refine AnyS.done (by kernel_rfl) (fun V hV => ?_) _
    have HB := Lib.hid hV.bel
    clear hV P0
    go_wp2_with fail
    go_ret
    exact ⟨rfl, HB.out⟩
  · go_enter Tryz.func10, Tryz.ntmps10
    go_wp2_with fail
    go_name_world W hW
    have P0 : Hid (IsV w 3 W) := by
      have b0 : Below w.heap.size w W := by rw [← hW]; exact (Below.refl _ _).alloc (Nat.le_refl _) _
      exact Lib.hid ⟨HR.out.below b0, by rw [← hW]; exact made_at _ _ rfl, b0⟩
    clear hW HR
    refine wp_region_S (S := IsV w 3) (by kernel_rfl) (P0.out.below (Below.refl _ _).drew) ?_
    refine AnyS.pure 0 (some 5) (v := .pointer (some ⟨w.heap.size, 0, none⟩)) rfl rfl (by kernel_rfl) (by kernel_rfl) (by kernel_rfl) (fun _ _ _ h => h) (by kernel_rfl) (fun V hV => by go_simp) ?_
    refine AnyS.pure 1 (some 6) (v := .int .i64 3) rfl rfl (by kernel_rfl) (by kernel_rfl) (by kernel_rfl) (fun _ _ _ h => h) (by kernel_rfl) (fun V hV => by have c0 := hV.own.cell 0; have c1 := hV.own.cell 1; have c2 := hV.own.cell 2; simp at c0 c1 c2; go_simp) ?_
    simp only [Act.put, List.setIfInBounds_toArray, List.set_cons_zero, List.set_cons_succ]
    refine AnyS.pure 2 (some 7) (v := .int .i64 3) rfl rfl (by kernel_rfl) (by kernel_rfl) (by kernel_rfl) (fun _ _ _ h => h) (by kernel_rfl) (fun V hV => by rfl) ?_
    refine AnyS.pure 3 (some 8) (v := .bool true) rfl rfl (by kernel_rfl) (by kernel_rfl) (by kernel_rfl) (fun _ _ _ h => h) (by kernel_rfl) (fun V hV => by go_simp) ?_
    simp only [Act.put, List.setIfInBounds_toArray, List.set_cons_zero, List.set_cons_succ]
    refine AnyS.pure 4 (some 9) (v := .bool true) rfl rfl (by kernel_rfl) (by kernel_rfl) (by kernel_rfl) (fun _ _ _ h => h) (by kernel_rfl) (fun V hV => by rfl) ?_
    refine AnyS.pure 5 (some 10) (v := .pointer (some ⟨w.heap.size, 0, none⟩)) rfl rfl (by kernel_rfl) (by kernel_rfl) (by kernel_rfl) (fun _ _ _ h => h) (by kernel_rfl) (fun V hV => by go_simp) ?_
    simp only [Act.put, List.setIfInBounds_toArray, List.set_cons_zero, List.set_cons_succ]
    refine AnyS.pure 6 (some 11) (v := .int .i64 3) rfl rfl (by kernel_rfl) (by kernel_rfl) (by kernel_rfl) (fun _ _ _ h => h) (by kernel_rfl) (fun V hV => by have c0 := hV.own.cell 0; have c1 := hV.own.cell 1; have c2 := hV.own.cell 2; simp at c0 c1 c2; go_simp) ?_
    refine AnyS.pure 7 (some 12) (v := .bool false) rfl rfl (by kernel_rfl) (by kernel_rfl) (by kernel_rfl) (fun _ _ _ h => h) (by kernel_rfl) (fun V hV => by go_simp) ?_
    simp only [Act.put, List.setIfInBounds_toArray, List.set_cons_zero, List.set_cons_succ]
    refine AnyS.pure 8 (some 13) (v := .pointer (some ⟨w.heap.size, 1, none⟩)) rfl rfl (by kernel_rfl) (by kernel_rfl) (by kernel_rfl) (fun _ _ _ h => h) (by kernel_rfl) (fun V hV => by go_simp) ?_
    refine AnyS.pure 9 (some 14) (v := .agg #[.string ⟨#[]⟩, .string ⟨#[]⟩]) rfl rfl (by kernel_rfl) (by kernel_rfl) (by kernel_rfl) (fun _ _ _ h => h) (by kernel_rfl) (fun V hV => exec_load 44 (.tmp 13) rfl (.pointer (some ⟨w.heap.size, 1, none⟩)) (by kernel_rfl) (run_loadAt_mid V w.heap.size 1 44 [.string ⟨#[]⟩, .string ⟨#[]⟩] _ (pair_range hV.own) Tryz.underlying44 rfl (by kernel_rfl))) ?_
    simp only [Act.put, List.setIfInBounds_toArray, List.set_cons_zero, List.set_cons_succ]
    refine AnyS.call 10 (some 15) (.bool false) rfl rfl (by kernel_rfl) (by kernel_rfl) (by kernel_rfl) (fun _ _ _ h => h) (by kernel_rfl) 26 Tryz.f26 Tryz.func26 (by kernel_rfl) (by kernel_rfl) _ _ rfl #[.agg #[.string ⟨#[]⟩, .string ⟨#[]⟩]] (by first | (simp [Act.eval]; done) | (simp [Act.eval, Act.put]; done)) (fun V hV => (is_none V hV.rk).mono fun _ _ h => ⟨h.1, hV.below h.2⟩) ?_
    refine AnyS.pure 11 (some 16) (v := .bool true) rfl rfl (by kernel_rfl) (by kernel_rfl) (by kernel_rfl) (fun _ _ _ h => h) (by kernel_rfl) (fun V hV => by go_simp) ?_
    simp only [Act.put, List.setIfInBounds_toArray, List.set_cons_zero, List.set_cons_succ]
    refine AnyS.pure 12 (some 17) (v := .bool true) rfl rfl (by kernel_rfl) (by kernel_rfl) (by kernel_rfl) (fun _ _ _ h => h) (by kernel_rfl) (fun V hV => by rfl) ?_
    refine AnyS.pure 13 (some 18) (v := .bool true) rfl rfl (by kernel_rfl) (by kernel_rfl) (by kernel_rfl) (fun _ _ _ h => h) (by kernel_rfl) (fun V hV => by rfl) ?_
    simp only [Act.put, List.setIfInBounds_toArray, List.set_cons_zero, List.set_cons_succ]
    refine AnyS.pure 14 (some 19) (v := .pointer (some ⟨w.heap.size, 0, none⟩)) rfl rfl (by kernel_rfl) (by kernel_rfl) (by kernel_rfl) (fun _ _ _ h => h) (by kernel_rfl) (fun V hV => by go_simp) ?_
    refine AnyS.pure 15 (some 20) (v := .int .i64 3) rfl rfl (by kernel_rfl) (by kernel_rfl) (by kernel_rfl) (fun _ _ _ h => h) (by kernel_rfl) (fun V hV => by have c0 := hV.own.cell 0; have c1 := hV.own.cell 1; have c2 := hV.own.cell 2; simp at c0 c1 c2; go_simp) ?_
    simp only [Act.put, List.setIfInBounds_toArray, List.set_cons_zero, List.set_cons_succ]
    refine AnyS.pure 16 (some 21) (v := .bool false) rfl rfl (by kernel_rfl) (by kernel_rfl) (by kernel_rfl) (fun _ _ _ h => h) (by kernel_rfl) (fun V hV => by go_simp) ?_
    refine AnyS.pure 17 (some 22) (v := .bool false) rfl rfl (by kernel_rfl) (by kernel_rfl) (by kernel_rfl) (fun _ _ _ h => h) (by kernel_rfl) (fun V hV => by rfl) ?_
    simp only [Act.put, List.setIfInBounds_toArray, List.set_cons_zero, List.set_cons_succ]
    refine AnyS.pure 18 (some 23) (v := .pointer (some ⟨w.heap.size, 1, none⟩)) rfl rfl (by kernel_rfl) (by kernel_rfl) (by kernel_rfl) (fun _ _ _ h => h) (by kernel_rfl) (fun V hV => by go_simp) ?_
    refine AnyS.pure 19 (some 24) (v := .agg #[.string ⟨#[]⟩, .string ⟨#[]⟩]) rfl rfl (by kernel_rfl) (by kernel_rfl) (by kernel_rfl) (fun _ _ _ h => h) (by kernel_rfl) (fun V hV => exec_load 44 (.tmp 23) rfl (.pointer (some ⟨w.heap.size, 1, none⟩)) (by kernel_rfl) (run_loadAt_mid V w.heap.size 1 44 [.string ⟨#[]⟩, .string ⟨#[]⟩] _ (pair_range hV.own) Tryz.underlying44 rfl (by kernel_rfl))) ?_
    simp only [Act.put, List.setIfInBounds_toArray, List.set_cons_zero, List.set_cons_succ]
    refine AnyS.pure 20 (some 25) (v := .agg #[.string ⟨#[]⟩, .string ⟨#[]⟩]) rfl rfl (by kernel_rfl) (by kernel_rfl) (by kernel_rfl) (fun _ _ _ h => h) (by kernel_rfl) (fun V hV => exec_zero_pair rfl) ?_
    refine AnyS.pure 21 (some 26) (v := .bool true) rfl rfl (by kernel_rfl) (by kernel_rfl) (by kernel_rfl) (fun _ _ _ h => h) (by kernel_rfl) (fun V hV => exec_eql_of (a := .agg #[.string ⟨#[]⟩, .string ⟨#[]⟩]) (b := .agg #[.string ⟨#[]⟩, .string ⟨#[]⟩]) rfl (by first | rfl | simp [Act.eval]) (by first | rfl | simp [Act.eval]) (by kernel_rfl) (by first | (simp [eqGuard]; done) | kernel_rfl | go_simp)) ?_
    simp only [Act.put, List.setIfInBounds_toArray, List.set_cons_zero, List.set_cons_succ]
    refine AnyS.pure 22 (some 27) (v := .bool true) rfl rfl (by kernel_rfl) (by kernel_rfl) (by kernel_rfl) (fun _ _ _ h => h) (by kernel_rfl) (fun V hV => by rfl) ?_
    refine AnyS.pure 23 (some 28) (v := .bool true) rfl rfl (by kernel_rfl) (by kernel_rfl) (by kernel_rfl) (fun _ _ _ h => h) (by kernel_rfl) (fun V hV => by rfl) ?_
    simp only [Act.put, List.setIfInBounds_toArray, List.set_cons_zero, List.set_cons_succ]
    refine AnyS.pure 24 (some 4) (v := .bool true) rfl rfl (by kernel_rfl) (by kernel_rfl) (by kernel_rfl) (fun _ _ _ h => h) (by kernel_rfl) (fun V hV => by rfl) ?_
    simp only [Act.put, List.setIfInBounds_toArray, List.set_cons_zero, List.set_cons_succ]
    refine AnyS.done (by kernel_rfl) (fun V hV => ?_) _
    have HB := Lib.hid hV.bel
    clear hV P0
    go_wp2_with fail
    go_ret
    exact ⟨rfl, HB.out⟩

theorem two_root (f : Nat → List UInt8) : rtAll f 2 = nodeS (f 0) (f 1) := by
  unfold rtAll
  rw [if_neg (by decide), rt_two f 0 (by decide), show half 2 = 1 from half_pow 0, rt_one, rt_one]
theorem two_path (f : Nat → List UInt8) : path f 0 0 2 = [f 1] := by
  rw [path, dif_pos (by decide), show half 2 = 1 from half_pow 0, if_pos (by decide), show 2 - 1 = 1 from rfl, path, dif_neg (by decide), rt_one]
  rfl
theorem up_two (z x s : List UInt8) : up z x [s] 0 2 = (nodeS x s, true) := by
  rw [up_left _ _ _ _ (by decide) (by rw [show half 2 = 1 from half_pow 0]; decide), show half 2 = 1 from half_pow 0, up_one]
  rfl
theorem ab_ne : (nodeS (leafS [98]) (leafS [98]) == nodeS (leafS [97]) (leafS [98])) = false := by kernel_rfl
theorem incl_b (L : List ByteArray) (hL : L = [⟨#[97]⟩, ⟨#[98]⟩]) : inclE [98] 0 2 (rtAll (leafF L) 2) (path (leafF L) 0 0 2).reverse ≠ 0 := by
  have e0 : leafF L 0 = leafS [97] := by rw [hL]; rfl
  have e1 : leafF L 1 = leafS [98] := by rw [hL]; rfl
  rw [two_root, two_path, e0, e1]
  unfold inclE
  rw [if_neg (by omega), if_neg]
  · decide
  · intro h
    have h2 := h.2
    have hne := ab_ne
    rw [show ((0 : Int).toNat) = 0 from rfl, show ((2 : Int).toNat) = 2 from rfl, List.reverse_singleton, up_two] at h2
    generalize nodeS (leafS [98]) (leafS [98]) = X at h2 hne
    generalize nodeS (leafS [97]) (leafS [98]) = Y at h2 hne
    dsimp only at h2
    rw [h2, beq_self_eq_true] at hne
    cases hne

set_option maxRecDepth 100000 in
set_option maxHeartbeats 4000000 in
theorem awake_calls (w : World) (hP : Rt w.heap.size w) : Calls Tryz.prog 5 #[] w fun en w' => en = .returned (.bool true) ∧ Below w.heap.size w w' := by
  have HV := Lib.hid (vnew_calls w.heap.size w hP)
  clear hP
  obtain ⟨L, hL⟩ : ∃ L : List ByteArray, L = [⟨#[97]⟩, ⟨#[98]⟩] := ⟨_, rfl⟩
  have HL := Lib.hid hL
  go_enter Tryz.func5, Tryz.ntmps5
  go_wp2_with fail
  refine HV.out.mono ?_
  rintro en w1 ⟨v, rfl, hv, va, b1⟩
  have V1 := Lib.hid (show _ ∧ _ from ⟨va.fresh w.heap.size (fun _ h _ => h) (Nat.le_refl _), b1⟩)
  clear hv va b1 HV
  go_wp2_with fail
  have hs1 := V1.out.2.size
  have HA := Lib.hid ((V1.out.1.alloc (.cells #[.string ⟨#[97]⟩, .string ⟨#[98]⟩] 9)).add (some ⟨w1.heap.size, 0, none⟩) 2 [⟨#[97]⟩, ⟨#[98]⟩]
    ⟨Seg.whole (m := 2) (heap_alloc_new _ _) rfl (by unfold maxLen; omega), fun s hs => by
      rcases List.mem_cons.1 hs with rfl | hs
      · decide
      rw [List.mem_singleton.1 hs]; decide⟩
    (fun x hx e => by
      have h1 : w1.heap.size = x := by simpa [Value.ownBlock] using hx
      have := e.2
      omega) (by decide))
  refine HA.out.mono ?_
  rintro en w2 ⟨rfl, v2, t2⟩
  have b2 : Below w.heap.size w w2 := (V1.out.2.alloc hs1 _).trans (t2.below (by simp; omega) (fun j hj e => by have := e.1; omega))
  have v2' := v2.fresh w.heap.size (fun k h _ => by
    rcases h with h | h
    · exact h.1
    · simp at h; omega) (Nat.le_refl _)
  rw [List.nil_append, ← hL] at v2'
  have V2 := Lib.hid (show _ ∧ _ from ⟨v2', b2⟩)
  have HN : Hid (L.length = 2) := Lib.hid (by rw [hL]; rfl)
  have HI := Lib.hid (incl_b L hL)
  clear v2 t2 b2 HA V1 hs1 hL v2'
  go_wp2_with fail
  refine (V2.out.1.leaf (by have := HN.out; omega) 0 2 (by have := HN.out; omega) (by decide) (Nat.le_refl _)).mono ?_
  obtain ⟨l, hl⟩ : ∃ l, l = path (leafF L) 0 0 2 := ⟨_, rfl⟩
  have hl1 : l.length = 1 := by rw [hl, two_path]; rfl
  rw [← hl] at HI ⊢
  have HLL := Lib.hid hl
  rintro en w3 ⟨a, c, rfl, s3, o3, b3⟩
  rw [hl1] at s3 ⊢
  have V3 : Hid (Va w.heap.size (fun j => w.heap.size ≤ j ∧ j < w2.heap.size) w3 v L 0 ∧ Below w.heap.size w w3 ∧ Seg w3 38 32 (.slice a 1 c) 1 (sumsC l)) := Lib.hid ⟨V2.out.1.below b3, V2.out.2.trans (b3.mono V2.out.2.size), s3⟩
  have HL1 := Lib.hid hl1
  clear b3 s3 o3 hl hl1 V2
  have hv1 : ∀ V, (binOp .eql 46 (.agg (verC 1 ⟨#[]⟩ ⟨#[]⟩)) (.agg (verC 1 ⟨#[]⟩ ⟨#[]⟩))).run Tryz.prog V = .ok (.bool true) V := fun V => by kernel_rfl
  have hv0 : ∀ V, (binOp .eql 46 (.agg (verC 0 ⟨#[]⟩ ⟨#[]⟩)) (.agg (verC 0 ⟨#[]⟩ ⟨#[]⟩))).run Tryz.prog V = .ok (.bool true) V := fun V => by kernel_rfl
  go_wp2_with (first
    | ((with_reducible refine at_store (.tmp 2) ?_); refine wpList_store_cells (o := ⟨none, _, _, _, _, _⟩) rfl 25 (.tmp 2) (.tmp 13) rfl w3.heap.size (prC 1 0 2 (.slice a 1 c)) (prC 0 0 0 (.slice none 0 0)) rfl rfl _ (made_at _ _ rfl) (by kernel_rfl) rfl (by simp [prC, Value.oneCell']) ?_; intro W1 HW1 TW1;
       (have V4 : Hid (Va w.heap.size (fun j => w.heap.size ≤ j ∧ j < w2.heap.size) W1 v L 0 ∧ Below w.heap.size w W1 ∧ Seg W1 38 32 (.slice a 1 c) 1 (sumsC l) ∧ Has W1 w3.heap.size 25 (prC 1 0 2 (.slice a 1 c))) := (by
         obtain ⟨h1, h2, h3⟩ := V3.out
         have bb : Below w3.heap.size w3 W1 := ((Below.refl _ _).alloc (Nat.le_refl _) _).trans (TW1.below (by simp) (fun j hj e => by omega))
         exact Lib.hid ⟨h1.below bb, h2.trans (bb.mono h2.size), h3.below bb (fun x hx => h3.lt hx), HW1⟩));
       have q0 : W1.cell? ⟨w3.heap.size, 0, none⟩ = some (.int .i64 1) := V4.out.2.2.2.cell 0;
       have q1 : W1.cell? ⟨w3.heap.size, 1, none⟩ = some (.int .i64 0) := V4.out.2.2.2.cell 1;
       have q2 : W1.cell? ⟨w3.heap.size, 2, none⟩ = some (.int .i64 2) := V4.out.2.2.2.cell 2;
       have q3 : W1.cell? ⟨w3.heap.size, 3, none⟩ = some (.slice a 1 c) := V4.out.2.2.2.cell 3;
       clear HW1 TW1 V3)
    | fail)
  have HSM : Hid (∀ V, Seg V 38 32 (.slice a 1 c) 1 (sumsC l) → Sms V (.slice a l.reverse.length c) l.reverse) := Lib.hid fun V hV => SmS.weak (by
    refine ⟨?_, fun x hx => ?_⟩
    · rw [List.length_reverse, List.reverse_reverse, HL1.out]
      exact hV
    · have hx' := List.mem_reverse.1 hx
      rw [HLL.out, two_path] at hx'
      rw [List.mem_singleton.1 hx']
      exact leafF_len _ _)
  have hr1 : Hid (l.reverse.length = 1) := Lib.hid (by rw [List.length_reverse, HL1.out])
  have A1 := aleaf_ok V4.out.1 (by have := HN.out; omega) ⟨#[97]⟩ (by decide) 1 0 2 (by decide) (by have := HN.out; omega) l.reverse a c (HSM.out _ V4.out.2.2.1) 0 1
    (by
      rw [if_pos rfl, HLL.out]
      exact (incl_path (L := L) (i := 0) (n := 2) (by decide) (s := ⟨#[97]⟩) (by rw [HL.out]; rfl)).symm)
    (.inr ⟨rfl, 0, rfl, .inr ⟨Nat.le_refl _, by rw [HL.out]; rfl, rfl⟩⟩)
  rw [hr1.out] at A1
  have HA1 := Lib.hid A1
  clear A1
  refine HA1.out.mono ?_
  rintro en w5 ⟨rfl, b5⟩
  have V5 : Hid (Va w.heap.size (fun j => w.heap.size ≤ j ∧ j < w2.heap.size) w5 v L 0 ∧ Below w.heap.size w w5 ∧ Seg w5 38 32 (.slice a 1 c) 1 (sumsC l) ∧ Has w5 w3.heap.size 25 (prC 1 0 2 (.slice a 1 c))) := (by
    obtain ⟨h1, h2, h3, h4⟩ := V4.out
    exact Lib.hid ⟨h1.below b5, h2.trans (b5.mono h2.size), h3.below b5 (fun x hx => h3.lt hx), h4.below b5 h4.lt⟩)
  clear q0 q1 q2 q3 b5 V4 HA1
  have q0 : w5.cell? ⟨w3.heap.size, 0, none⟩ = some (.int .i64 1) := V5.out.2.2.2.cell 0
  have q1 : w5.cell? ⟨w3.heap.size, 1, none⟩ = some (.int .i64 0) := V5.out.2.2.2.cell 1
  have q2 : w5.cell? ⟨w3.heap.size, 2, none⟩ = some (.int .i64 2) := V5.out.2.2.2.cell 2
  have q3 : w5.cell? ⟨w3.heap.size, 3, none⟩ = some (.slice a 1 c) := V5.out.2.2.2.cell 3
  go_wp2_with fail
  have A2 := aleaf_ok V5.out.1 (by have := HN.out; omega) ⟨#[98]⟩ (by decide) 1 0 2 (by decide) (by have := HN.out; omega) l.reverse a c (HSM.out _ V5.out.2.2.1) _ 0
    rfl
    (.inl ⟨by
      rw [if_pos rfl]
      exact HI.out, rfl⟩)
  rw [hr1.out] at A2
  have HA2 := Lib.hid A2
  clear A2
  refine HA2.out.mono ?_
  rintro en w6 ⟨rfl, b6⟩
  have V6 := Lib.hid (V5.out.2.1.trans (b6.mono V5.out.2.1.size))
  clear V5 b6 HA2 q0 q1 q2 q3
  go_wp2_with fail
  go_ret
  exact ⟨rfl, V6.out⟩
end Go.Proofs.YtdoadmkaoboncaaGreatDoor.aud
end

section
/- A slice of strings that is handed in: what a law may read of it. -/
namespace Go.Proofs.YtdoadmkaoboncaaGreatDoor
open Go.ChangeShapes Go.WideShapes Go.ChangeAt Go.RowKit

/-- The strings T lie from a on. -/
def ArgS (w : World) (a : Option Addr) (len cap : Nat) (T : Nat → ByteArray) : Prop :=
  len ≤ cap ∧ cap ≤ maxLen ∧ ∀ i, i < len → ∃ b o, a = some ⟨b, o, none⟩ ∧ b < w.heap.size ∧ w.cell? ⟨b, o + i, none⟩ = some (.string (T i)) ∧ (T i).size ≤ maxLen

theorem openedStrs {H : Type} {enc : TypeId × Value → H} {w : World} {spare : Nat → Bool} {held : Bool} {a : Option Addr} {len cap : Nat} {d : DataW H} {p : List MemPlace} (h : DataW.Trod enc Tryz.prog w 0 spare held 22 (.slice a len cap) d p) : ∃ T, ArgS w a len cap T := by
  obtain ⟨fuel, h⟩ := h
  rcases open_strings Tryz.underlying22 Tryz.underlying9 (by kernel_rfl) h with ⟨hn, _⟩ | ⟨g, l, c, zs, hn, _, hlc, hcm, hm, _, hall, hwf⟩
  · simp [Value.cells] at hn
    obtain ⟨rfl, rfl, rfl⟩ := hn
    exact ⟨fun _ => ByteArray.empty, Nat.le_refl _, Nat.zero_le _, fun i hi => absurd hi (Nat.not_lt_zero _)⟩
  · simp [Value.cells] at hn
    obtain ⟨rfl, rfl, rfl⟩ := hn
    refine ⟨fun i => zs.getD i ByteArray.empty, hlc, hcm, fun i hi => ?_⟩
    have hi' : i < zs.length := by rw [hm]; split <;> omega
    have h0 := hall i hi'
    have hs : g.spot = none := by
      have h00 := hall 0 (by omega)
      simpa [Addr.add] using World.cell?_spot h00
    obtain ⟨gb, go, gs⟩ := g
    obtain rfl : gs = none := hs
    have e0 : (⟨gb, go, none⟩ : Addr).add i = ⟨gb, go + i, none⟩ := Addr.add_mid _ _ _
    rw [e0] at h0
    have hw : (zs.getD i ByteArray.empty).size ≤ maxLen := hwf _ (by
      have : zs.getD i ByteArray.empty = zs[i] := by simp [hi']
      rw [this]; exact List.getElem_mem hi')
    have hb : gb < w.heap.size := by
      rcases Nat.lt_or_ge gb w.heap.size with k | k
      · exact k
      · unfold World.cell? at h0
        simp [Array.getElem?_eq_none k] at h0
    exact ⟨gb, go, rfl, hb, h0, hw⟩

end Go.Proofs.YtdoadmkaoboncaaGreatDoor
end

section
/- tree's laws: Leaves. -/
namespace Go.Proofs.YtdoadmkaoboncaaGreatDoor.dig
open Go Go.RowKit

theorem strInfo : ∃ i z, Tryz.prog.info? 9 = some i ∧ i.zero = some z ∧ i.size = 1 ∧ z.cells.size = 1 ∧ i.bytes = 16 := by
  have h2 : (Tryz.prog.info? 9).map (fun i => (i.zero.map (fun z => z.cells.size), i.size, i.bytes)) = some (some 1, 1, 16) := by kernel_rfl
  obtain ⟨i, hi, e⟩ := Option.map_eq_some_iff.1 h2
  simp only [Prod.mk.injEq] at e
  obtain ⟨e1, e2, e3⟩ := e
  obtain ⟨z, hz, e4⟩ := Option.map_eq_some_iff.1 e1
  exact ⟨i, z, hi, hz, e2, e4, e3⟩

theorem enc_size (k : Nat) (h1 : k < 128) : (Utf8.encode (k : Int)).size = 1 := by
  unfold Utf8.encode
  have h2 : (k : Int).toNat = k := by omega
  have h3 : Utf8.valid (k : Int) = true := by
    unfold Utf8.valid
    simp
    omega
  rw [if_pos h3, h2, if_pos (by omega)]
  rfl

theorem and_mask (n : Int) (k : Nat) (hk : k ≤ 8) : bits .and .i64 n ((2 ^ k : Nat) - 1 : Int) = n % ((2 ^ k : Nat) : Int) := by
  have h255 : (BitVec.ofInt 64 ((2 ^ k : Nat) - 1 : Int)).toNat = 2 ^ k - 1 := by
    have : k = 0 ∨ k = 1 ∨ k = 2 ∨ k = 3 ∨ k = 4 ∨ k = 5 ∨ k = 6 ∨ k = 7 ∨ k = 8 := by omega
    rcases this with h | h | h | h | h | h | h | h | h <;> subst h <;> decide
  have key : (BitVec.ofInt 64 n &&& BitVec.ofInt 64 ((2 ^ k : Nat) - 1 : Int)).toNat = (n % ((2 ^ 64 : Nat) : Int)).toNat % 2 ^ k := by
    rw [BitVec.toNat_and, BitVec.toNat_ofInt, h255, Nat.and_two_pow_sub_one_eq_mod]
  show IntKind.i64.wrap ((BitVec.ofInt 64 n &&& BitVec.ofInt 64 ((2 ^ k : Nat) - 1 : Int)).toNat : Nat) = n % ((2 ^ k : Nat) : Int)
  rw [key, IntKind.wrap_i64]
  have : k = 0 ∨ k = 1 ∨ k = 2 ∨ k = 3 ∨ k = 4 ∨ k = 5 ∨ k = 6 ∨ k = 7 ∨ k = 8 := by omega
  rcases this with h | h | h | h | h | h | h | h | h <;> subst h <;> simp only [Nat.reducePow] <;> omega
theorem and255 (n : Int) : bits .and .i64 n 255 = n % 256 := and_mask n 8 (by decide)
theorem and7 (n : Int) : bits .and .i64 n 7 = n % 8 := and_mask n 3 (by decide)

def Stay (p : Prop) := p
theorem stay {p : Prop} (h : Stay p) : p := h
/-- Texts were answered, in new memory. -/
def LvsPost (w : World) (m : Nat) (en : Ending) (w' : World) : Prop :=
  ∃ v L, en = .returned v ∧ Strs w' v L ∧ L.length = m ∧ (∀ x, v.ownBlock = some x → w.heap.size ≤ x) ∧ Below w.heap.size w w' ∧ v ≠ .slice none 0 0

set_option maxRecDepth 100000 in
set_option maxHeartbeats 1000000 in
theorem leaves_calls (a : Option Addr) (len cap : Nat) (T : Nat → ByteArray) (n : Int) (w : World) (hA : ArgS w a len cap T) (hn0 : -9223372036854775808 ≤ n) (hn1 : n ≤ 9223372036854775807) :
    Calls Tryz.prog 24 #[.slice a len cap, .int .i64 n] w (LvsPost w (min (max n 0) 40).toNat) := by
  have HA := Lib.hid hA
  have hlen : (len : Int) ≤ 9223372036854775807 := by have := hA.1; have := hA.2.1; unfold maxLen at this; omega
  clear hA
  go_enter Tryz.func24, Tryz.ntmps24
  go_wp2_with fail
  go_name_world W hW
  obtain ⟨M, hM⟩ : ∃ M, M = (min (max n 0) 40).toNat := ⟨_, rfl⟩
  have hM40 : M ≤ 40 := by omega
  have S0 : Hid (Seg W 9 1 (.slice (some ⟨w.heap.size, 0, none⟩) 0 0) 0 [] ∧ (∀ x, (Value.slice (some ⟨w.heap.size, 0, none⟩) 0 0).ownBlock = some x → w.heap.size ≤ x) ∧ Below w.heap.size w W) := by
    rw [← hW]
    exact Lib.hid ⟨Seg.of_has (n := 0) (size := 1) (made_at _ _ rfl) (by simp) (by decide), fun x hx => by have e : w.heap.size = x := (by simpa [Value.ownBlock] using hx); omega, (Below.refl _ _).alloc (Nat.le_refl _) _⟩
  clear hW
  go_loopw [5, 6] (fun o i wr => ∃ (k : Nat) (L : List ByteArray), i = .int .i64 k ∧ k ≤ M ∧ L.length = k ∧ Hid (Seg wr 9 1 o k (L.map Value.string) ∧ (∀ x, o.ownBlock = some x → w.heap.size ≤ x) ∧ Below w.heap.size w wr) ∧ Hid ((∀ s ∈ L, s.size ≤ 1000) ∧ o ≠ .slice none 0 0)) (fun _ i _ => M - (intOf i).toNat)
  case atStart => exact ⟨0, [], rfl, Nat.zero_le _, rfl, S0, Lib.hid ⟨fun s hs => (by cases hs), fun e => by cases e⟩⟩
  case round =>
    obtain ⟨k, L, rfl, hk, hL, HS, HL⟩ := hrel
    clear S0
    have hk0 : (0 : Int) ≤ (k : Int) := by omega
    have hk40 : (k : Int) ≤ 40 := by omega
    have HCH : Hid ((Utf8.encode (97 + (k : Int) % 26)).size ≤ 4) := Lib.hid (by rw [show 97 + (k : Int) % 26 = ((97 + k % 26 : Nat) : Int) by omega, enc_size _ (by omega)]; decide)
    by_cases hkM : k < M
    · have ht : (k : Int) < min (max n 0) 40 := by omega
      obtain ⟨i0, z0, hi0, hz0, hz1, hz2, hz3⟩ := strInfo
      have HI0 := Lib.hid hi0
      have HZ0 := Lib.hid hz0
      have hks : 0 < k ∨ 0 ≤ k := by omega
      clear hi0 hz0 hks
      by_cases hl0 : len = 0
      case' pos =>
        subst hl0
        have HCS : Hid ((Utf8.encode (97 + (k : Int) % 26)).size ≤ 1000) := Lib.hid (by have := HCH.out; omega)
        clear HCH
        have HCUT : Hid True := Lib.hid trivial
        have hlp : ¬ (0 : Int) < 0 := by decide
      case' neg =>
        have hlp : (len : Int) > 0 := by omega
        have hrl : k % len < len := Nat.mod_lt _ (by omega)
        obtain ⟨gb, go, ha, hgb, hcell, hsz⟩ := HA.out.2.2 (k % len) hrl
        subst ha
        have c0 : wr.cell? ⟨gb, go + k % len, none⟩ = some (.string (T (k % len))) := by
          rw [← hcell]; unfold World.cell?; rw [HS.out.2.2.block gb hgb]
        obtain ⟨t0, ht0⟩ : ∃ t0, t0 = T (k % len) := ⟨_, rfl⟩
        rw [← ht0] at c0 hsz
        have HSZ := Lib.hid hsz
        obtain ⟨p', hp, hp2⟩ := cut_size t0 10
        have HP2 := Lib.hid hp2
        have HCUT : Hid (Calls Tryz.prog 7 #[.string t0, .int .i64 10] wr fun en w' => en = .returned (.string p') ∧ wr = w') := Lib.hid (by rw [← hp]; exact cut_any t0 10 wr (by decide) HSZ.out)
        clear hp hp2 HSZ hcell hsz hl0 ht0
        have hrl2 : (k : Int) % (len : Int) < (len : Int) := by omega
        have hrl3 : (0 : Int) ≤ (k : Int) % (len : Int) := Int.emod_nonneg _ (by omega)
        have HCS : Hid ((Utf8.encode (97 + (k : Int) % 26) ++ p').size ≤ 1000) := Lib.hid (by rw [ByteArray.size_append]; have := HCH.out; have := HP2.out; omega)
        clear HP2 HCH
      all_goals
        go_wp2_with (first
          | ((with_reducible refine at_op 23 ?_); refine stay ?_)
          | fail)
        unfold Stay
        generalize Utf8.encode (97 + (k : Int) % 26) = ch at *
        have hcc := HCS.out
        try rw [ByteArray.size_append] at hcc
        go_wp2_with (first
        | (go_at_call 7; refine HCUT.out.mono ?_; rintro e w' ⟨rfl, rfl⟩)
        | ((with_reducible refine at_op 37 ?_); refine wpList_append_seg (o := ⟨some 37, _, _, _, _, _⟩) _ rfl (.tmp 34) (.tmp 36) 22 rfl 9 i0 z0 1 16 Tryz.underlying22 HI0.out HZ0.out hz1 hz3 hz2 (by decide) u5 k (L.map Value.string) rfl (HS.out.1.alloc _) ⟨wr.heap.size, 0, none⟩ 1 1 [.string _] rfl rfl (World.news_of_block (heap_alloc_new _ _)) (by simp [Value.oneCell']) (by decide) (by unfold maxLen; omega) (by omega) _ rfl ?_;
           intro g off cp w4 hown hgrow hat hlt)
        | fail)
        refine ⟨⟨k + 1, L ++ [_], by rw [Int.natCast_add]; rfl, by omega, by rw [List.length_append, hL]; rfl, Lib.hid ⟨by rw [List.map_append]; exact hown, fun x hx => ?_, ?_⟩, Lib.hid ⟨fun t ht => ?_, fun e => by cases e⟩⟩, ?_⟩
        · have e : g = x := by simpa [Value.ownBlock] using hx
          rw [← e]
          rcases hat with h | h
          · exact HS.out.2.1 g h
          · rw [h]; exact Nat.le_trans HS.out.2.2.size (by simp)
        · exact (HS.out.2.2.alloc HS.out.2.2.size _).trans (below_own hgrow HS.out.2.1 (Nat.le_trans HS.out.2.2.size (by simp)))
        · rcases List.mem_append.1 ht with h | h
          · exact HL.out.1 t h
          · rw [List.mem_singleton.1 h]; exact HCS.out
        · show M - ((k : Int) + 1).toNat < M - ((k : Int)).toNat
          omega
    · have ht : ¬ (k : Int) < min (max n 0) 40 := by omega
      go_wp2_with fail
      go_ret
      refine ⟨_, L, rfl, ⟨?_, fun s hs => by have := HL.out.1 s hs; omega⟩, by omega, HS.out.2.1, HS.out.2.2, HL.out.2⟩
      rw [hL]
      exact HS.out.1
end Go.Proofs.YtdoadmkaoboncaaGreatDoor.dig
end

section
/- audit's laws: Made. -/
namespace Go.Proofs.YtdoadmkaoboncaaGreatDoor.aud
open Go Go.RowKit Go.Proofs.YtdoadmkaoboncaaGreatDoor.dig Go.Proofs.YtdoadmkaoboncaaGreatDoor.prf Go.Proofs.YtdoadmkaoboncaaGreatDoor.prn

/-- Results: a plain one, a whole row out of its cell. -/
theorem res_tmp_cell {fn : Func} {p q : Tmp} (h : fn.results = #[.tmp p, .cell q 29]) (tmps : Array Value) (w : World) (g : Nat) (cs : Array Value) (x : Value) (hp : tmps.getD p undef = x) (hq : tmps.getD q undef = .pointer (some ⟨g, 0, none⟩)) (hg : Has w g 29 cs) (hi : (Tryz.prog.info? 29).map (·.size) = some cs.size) :
    (results fn tmps).run Tryz.prog w = .ok (.tuple #[x, .agg cs]) w := by
  have hp' : tmps[p]?.getD undef = x := by simpa using hp
  have hq' : tmps[q]?.getD undef = .pointer (some ⟨g, 0, none⟩) := by simpa using hq
  simp [results, h, hp', hq', asAddr, run_loadVar_row w g 29 29 cs (0, 0) _ hg Tryz.underlying29 rfl hi]

/-- A vault was made, of k texts and with this floor; the document's has the texts. -/
def MadePost (w : World) (k fl : Nat) (en : Ending) (w' : World) : Prop :=
  ∃ vb a c L, en = .returned (.tuple #[.pointer (some ⟨vb, 0, none⟩), .agg #[.slice a k c, .int .i64 fl]]) ∧ Va w.heap.size (fun j => w.heap.size ≤ j ∧ j < w'.heap.size) w' vb L fl ∧ Strs w' (.slice a k c) L ∧ L.length = k ∧ Below w.heap.size w w'

set_option maxRecDepth 100000 in
set_option maxHeartbeats 4000000 in
theorem made_calls (a : Option Addr) (len cap : Nat) (T : Nat → ByteArray) (n f : Int) (w : World) (hA : ArgS w a len cap T) (hR : Rt w.heap.size w) (k fl : Nat) (hk0 : (k : Int) = min (max n 0) 16) (hfl0 : (fl : Int) = min (max f 0) (k : Int)) :
    Calls Tryz.prog 6 #[.slice a len cap, .int .i64 n, .int .i64 f] w (MadePost w k fl) := by
  obtain ⟨x, hx⟩ : ∃ x : Int, max n 0 = x := ⟨_, rfl⟩
  obtain ⟨y, hy⟩ : ∃ y : Int, max f 0 = y := ⟨_, rfl⟩
  rw [hx] at hk0
  rw [hy] at hfl0
  have hk := hk0.symm
  have hfl := hfl0.symm
  clear hk0 hfl0
  have hk16 : k ≤ 16 := by omega
  have hfk : fl ≤ k := by omega
  have HA := Lib.hid (show _ ∧ _ from ⟨hA, hR⟩)
  clear hA hR
  go_enter Tryz.func6, Tryz.ntmps6
  go_wp2_with fail
  refine callsName (fun W hW => ?_)
  have R0 : Hid (Has W w.heap.size 29 #[.slice none 0 0, .int .i64 0] ∧ Below w.heap.size w W ∧ ArgS W a len cap T) := by
    have b0 : Below w.heap.size w W := by rw [← hW]; exact (Below.refl _ _).alloc (Nat.le_refl _) _
    refine Lib.hid ⟨by rw [← hW]; exact made_at _ _ rfl, b0, HA.out.1.1, HA.out.1.2.1, fun k hk => ?_⟩
    obtain ⟨gb, go, h1, h2, h3, h4⟩ := HA.out.1.2.2 k hk
    exact ⟨gb, go, h1, Nat.lt_of_lt_of_le h2 b0.size, by rw [← h3]; unfold World.cell?; rw [b0.block gb h2], h4⟩
  clear hW
  refine (leaves_calls a len cap T k W R0.out.2.2 (by omega) (by omega)).mono ?_
  rintro en w2 ⟨v, L, rfl, hs2, hlen, lo2, b2, hne⟩
  have hlen2 : L.length = k := by omega
  obtain ⟨a0, c0, rfl, hc1, hc2⟩ := hs2.1.slice
  obtain ⟨g, off, rfl⟩ : ∃ g off, a0 = some ⟨g, off, none⟩ := by
    rcases hs2.1.2 with ⟨h, _⟩ | ⟨g, off, cp, cur, h, _⟩
    · exact absurd h hne
    · simp only [Value.slice.injEq] at h; exact ⟨g, off, h.1⟩
  rw [hlen2] at hs2 ⊢
  have R2 : Hid (Has w2 w.heap.size 29 #[.slice none 0 0, .int .i64 0] ∧ Below w.heap.size w w2 ∧ Strs w2 (.slice (some ⟨g, off, none⟩) k c0) L ∧ L.length = k ∧ g < w2.heap.size) :=
    Lib.hid ⟨R0.out.1.below b2 R0.out.1.lt, R0.out.2.1.trans (b2.mono R0.out.2.1.size), hs2, hlen2, hs2.1.lt rfl⟩
  clear hs2 lo2 b2 R0 hlen hlen2 hc2 hc1 hne
  go_wp2_with fail
  refine (vnew_calls w.heap.size w2 ?_).mono ?_
  · have b := R2.out.2.1
    have r := HA.out.2.below b (Nat.le_refl _)
    exact r
  rintro en w3 ⟨vb, rfl, hvb, v3, b3⟩
  have R3 : Hid (Va w.heap.size (fun j => w2.heap.size ≤ j ∧ j < w3.heap.size) w3 vb [] 0 ∧ Has w3 w.heap.size 29 #[.slice none 0 0, .int .i64 0] ∧ Below w.heap.size w w3 ∧ Strs w3 (.slice (some ⟨g, off, none⟩) k c0) L ∧ L.length = k ∧ g < w2.heap.size ∧ w.heap.size < w2.heap.size) :=
    Lib.hid ⟨v3.fresh w2.heap.size (fun _ h _ => h) R2.out.2.1.size, R2.out.1.below b3 R2.out.1.lt, R2.out.2.1.trans (b3.mono R2.out.2.1.size), ⟨R2.out.2.2.1.1.below b3 (fun x hx => R2.out.2.2.1.1.lt hx), R2.out.2.2.1.2⟩, R2.out.2.2.2.1, R2.out.2.2.2.2, R2.out.1.lt⟩
  clear v3 b3 hvb R2
  have hap := R3.out.1.add (some ⟨g, off, none⟩) c0 L (by rw [R3.out.2.2.2.2.1]; exact R3.out.2.2.2.1) (fun x hx e => by
    have h1 : g = x := by simpa [Value.ownBlock] using hx
    have := R3.out.2.2.2.2.2.1
    have := e.1
    omega) (by have := R3.out.2.2.2.2.1; simp; omega)
  rw [R3.out.2.2.2.2.1] at hap
  have HAP := Lib.hid hap
  clear hap
  go_wp2_with fail
  refine HAP.out.mono ?_
  rintro en w4 ⟨rfl, v4, t4⟩
  rw [List.nil_append] at v4
  have R4 : Hid (Va w.heap.size (fun j => w2.heap.size ≤ j ∧ j < w4.heap.size) w4 vb L 0 ∧ Has w4 w.heap.size 29 #[.slice none 0 0, .int .i64 0] ∧ Below w.heap.size w w4 ∧ Strs w4 (.slice (some ⟨g, off, none⟩) k c0) L ∧ L.length = k ∧ g < w2.heap.size ∧ w.heap.size < w2.heap.size) := by
    obtain ⟨h1, h2, h3, h4, h5, h6, h7⟩ := R3.out
    refine Lib.hid ⟨v4.fresh w2.heap.size (fun j hj _ => ?_) (by omega), h2.turn t4 (fun e => by have := e.1; omega), h3.trans (t4.below h3.size (fun j hj e => by have := e.1; omega)), ⟨h4.1.turn t4 (fun x hx e => ?_), h4.2⟩, h5, h6, h7⟩
    · rcases hj with h | h
      · exact h.1
      · have h8 : w2.heap.size ≤ w3.heap.size := by have := h1.lt; have := h1.ownF; have := this.1; omega
        omega
    · have h8 : g = x := by simpa [Value.ownBlock] using hx
      have := e.1
      omega
  clear v4 t4 R3 HAP
  go_wp2_with fail
  refine (R4.out.1.keep fl (Nat.zero_le _) (by have := R4.out.2.2.2.2.1; omega)).mono ?_
  rintro en w5 ⟨rfl, v5, t5⟩
  have R5 : Hid (Va w.heap.size (fun j => w2.heap.size ≤ j ∧ j < w5.heap.size) w5 vb L fl ∧ Has w5 w.heap.size 29 #[.slice none 0 0, .int .i64 0] ∧ Below w.heap.size w w5 ∧ Strs w5 (.slice (some ⟨g, off, none⟩) k c0) L ∧ L.length = k ∧ g < w2.heap.size ∧ w.heap.size < w2.heap.size) := by
    obtain ⟨h1, h2, h3, h4, h5, h6, h7⟩ := R4.out
    refine Lib.hid ⟨v5.fresh w2.heap.size (fun j hj _ => ?_) (by omega), h2.turn t5 (fun e => by have := e.1; omega), h3.trans (t5.below h3.size (fun j hj e => by have := e.1; omega)), ⟨h4.1.turn t5 (fun x hx e => ?_), h4.2⟩, h5, h6, h7⟩
    · rcases hj with h | h
      · exact h.1
      · have h8 : w2.heap.size ≤ w4.heap.size := by have := h1.lt; have := h1.ownF; have := this.1; omega
        omega
    · have h8 : g = x := by simpa [Value.ownBlock] using hx
      have := e.1
      omega
  clear v5 t5 R4 hx hk hy hfl
  go_wp2_with (first
    | ((with_reducible refine at_store (.tmp 7) ?_); refine wpList_store_cells (o := ⟨none, _, _, _, _, _⟩) rfl 29 (.tmp 7) (.tmp 30) rfl w.heap.size #[.slice (some ⟨g, off, none⟩) k c0, .int .i64 fl] #[.slice none 0 0, .int .i64 0] rfl rfl _ R5.out.2.1 (by kernel_rfl) rfl (by simp [Value.oneCell']) ?_; intro W9 HW9 TW9)
    | fail)
  obtain ⟨h1, h2, h3, h4, h5, h6, h7⟩ := R5.out
  exact bodyPost_ret (v := .tuple #[.pointer (some ⟨vb, 0, none⟩), .agg #[.slice (some ⟨g, off, none⟩) k c0, .int .i64 fl]]) (res_tmp_cell rfl _ _ w.heap.size _ _ rfl rfl HW9 (by kernel_rfl)) rfl
    ⟨vb, _, c0, L, rfl, (h1.turn TW9 (fun j hf _ e => by have := hf.1; omega) (fun j e => by omega)).fresh w.heap.size (fun j hj _ => by have := hj.1; omega) (Nat.le_refl _), ⟨h4.1.turn TW9 (fun x hx e => by
      have h8 := h4.1.ne h2 (by decide)
      exact h8 (by rw [hx, e])), h4.2⟩, h5, h3.trans (TW9.below h3.size (fun j hj e => by omega))⟩
end Go.Proofs.YtdoadmkaoboncaaGreatDoor.aud
end

section
/- sort.Search, over a closure that only reads. -/
namespace Go.Proofs.YtdoadmkaoboncaaGreatDoor.aud
open Go Go.RowKit Go.Proofs.YtdoadmkaoboncaaGreatDoor.dig

set_option maxRecDepth 100000 in
set_option maxHeartbeats 2000000 in
theorem ssearch_calls (n : Nat) (hn : n ≤ 1000000) (c0 c1 : Value) (P : Nat → Bool) (hP : ∀ i j, i ≤ j → j < n → P i = true → P j = true) (w : World)
    (hf : ∀ V, Below w.heap.size w V → ∀ i : Nat, i < n → Calls Tryz.prog 46 #[.int .i64 i, c0, c1] V fun en w' => en = .returned (.bool (P i)) ∧ Below V.heap.size V w') :
    Calls Tryz.prog 45 #[.int .i64 n, .func (.func 46) #[] #[c0, c1]] w fun en w' => ∃ i : Nat, i ≤ n ∧ en = .returned (.int .i64 i) ∧ (∀ j, j < i → P j = false) ∧ (∀ j, i ≤ j → j < n → P j = true) ∧ Below w.heap.size w w' := by
  have HF := Lib.hid hf
  have HP := Lib.hid hP
  clear hf hP
  go_enter Tryz.func45, Tryz.ntmps45
  go_wp2_with fail
  go_loopw [5, 6] (fun x y wr => ∃ i j : Nat, x = .int .i64 i ∧ y = .int .i64 j ∧ i ≤ j ∧ j ≤ n ∧ Hid ((∀ k, k < i → P k = false) ∧ (∀ k, j ≤ k → k < n → P k = true)) ∧ Hid (Below w.heap.size w wr)) (fun x y _ => (intOf y).toNat - (intOf x).toNat)
  case atStart => exact ⟨0, n, rfl, rfl, Nat.zero_le _, Nat.le_refl _, Lib.hid ⟨fun k hk => absurd hk (Nat.not_lt_zero _), fun k h1 h2 => by omega⟩, Lib.hid (Below.refl _ _)⟩
  case round =>
    obtain ⟨i, j, rfl, rfl, hij, hjn, HI, HBW⟩ := hrel
    by_cases hlt : i < j
    · have h1 : (i : Int) < (j : Int) := by omega
      have j0 : (0 : Int) ≤ (i : Int) + (j : Int) := by omega
      have j1 : (i : Int) + (j : Int) ≤ 2000000 := by omega
      obtain ⟨m, hm⟩ : ∃ m : Nat, m = (i + j) / 2 := ⟨_, rfl⟩
      have hmm : ((i : Int) + (j : Int)) / 2 = (m : Int) := by omega
      have hm1 : i ≤ m := by omega
      have hm2 : m < j := by omega
      obtain ⟨b, hb⟩ : ∃ b, b = P m := ⟨_, rfl⟩
      have HM := Lib.hid hb
      have hc := HF.out wr HBW.out m (by omega)
      rw [← hb] at hc
      have HC := Lib.hid hc
      have HB := Lib.hid (show _ ∧ _ from ⟨hm1, hm2⟩)
      clear hm hb hc
      go_wp2_with fail
      refine HC.out.mono ?_
      rintro en w' ⟨rfl, b'⟩
      have HB2 := Lib.hid (HBW.out.trans (b'.mono HBW.out.size))
      clear b' HBW HC
      by_cases hbb : b = true
      · subst hbb
        go_wp2_with fail
        refine ⟨⟨i, m, rfl, rfl, hm1, by omega, Lib.hid ⟨HI.out.1, fun k h1 h2 => HP.out m k h1 h2 HM.out.symm⟩, HB2⟩, ?_⟩
        show ((m : Int)).toNat - ((i : Int)).toNat < ((j : Int)).toNat - ((i : Int)).toNat
        omega
      · have hbf : b = false := by simpa using hbb
        subst hbf
        clear hbb
        go_wp2_with fail
        refine ⟨⟨m + 1, j, by rw [Int.natCast_add]; rfl, rfl, by omega, hjn, Lib.hid ⟨fun k hk => ?_, HI.out.2⟩, HB2⟩, ?_⟩
        · by_cases hp : P k = true
          · have := HP.out k m (by omega) (by omega) hp
            rw [← HM.out] at this
            cases this
          · simpa using hp
        · show ((j : Int)).toNat - ((m : Int) + 1).toNat < ((j : Int)).toNat - ((i : Int)).toNat
          omega
    · obtain rfl : i = j := by omega
      have h1 : ¬ (i : Int) < (i : Int) := by omega
      go_wp2_with fail
      go_ret
      exact ⟨i, hjn, rfl, HI.out.1, HI.out.2, HBW.out⟩
end Go.Proofs.YtdoadmkaoboncaaGreatDoor.aud
end

section
/- audit: Log's search: is a head over more than so many? -/
namespace Go.Proofs.YtdoadmkaoboncaaGreatDoor.aud
open Go Go.RowKit Go.Proofs.YtdoadmkaoboncaaGreatDoor.dig

set_option maxRecDepth 100000 in
set_option maxHeartbeats 2000000 in
theorem findc_calls (i n p1 p2 b g off c : Nat) (N x : Int) (hi : i < n) (w : World) (h1 : w.cell? ⟨p1, 0, none⟩ = some (.pointer (some ⟨b, 0, none⟩))) (h2 : w.cell? ⟨p2, 0, none⟩ = some (.int .i64 N))
    (h3 : w.cell? ⟨b, 0, none⟩ = some (.slice (some ⟨g, off, none⟩) n c)) (h4 : w.cell? ⟨g, off + i * 33, none⟩ = some (.int .i64 x)) :
    Calls Tryz.prog 46 #[.int .i64 i, .pointer (some ⟨p1, 0, none⟩), .pointer (some ⟨p2, 0, none⟩)] w fun en w' => en = .returned (.bool (decide (N < x))) ∧ Below w.heap.size w w' := by
  obtain ⟨r, hr⟩ : ∃ r, r = decide (N < x) := ⟨_, rfl⟩
  have HR := Lib.hid hr
  have hgt : decide (x > N) = r := by rw [hr]
  have i0 : (0 : Int) ≤ (i : Int) := by omega
  have i1 : (i : Int) < (n : Int) := by omega
  have i2 : ((i : Int) * 33).toNat = i * 33 := by omega
  rw [← hr]
  clear hr
  go_enter Tryz.func46, Tryz.ntmps46
  go_wp2_with fail
  go_quiet (fail)
  rename_i nq
  go_wp2
  go_ret
  exact ⟨rfl, below_drewN (Below.refl _ _) nq⟩
end Go.Proofs.YtdoadmkaoboncaaGreatDoor.aud
end

section
/- audit: Log's Find, where there is such a head. -/
namespace Go.Proofs.YtdoadmkaoboncaaGreatDoor.aud
open Go Go.RowKit Go.Proofs.YtdoadmkaoboncaaGreatDoor.dig Go.Proofs.YtdoadmkaoboncaaGreatDoor.prf

/-- Heads as they lie in a log. -/
structure Lg (b g off n c : Nat) (Nf : Nat → Int) (Rf : Nat → List UInt8) (w : World) : Prop where
  own : w.cell? ⟨b, 0, none⟩ = some (.slice (some ⟨g, off, none⟩) n c)
  row : ∀ j, j < n → w.rangeAt g (off + j * 33) (.int .i64 (Nf j) :: (Rf j).map byteV)
  lb : b < w.heap.size
  lg : g < w.heap.size
theorem Lg.below {b g off n c : Nat} {Nf : Nat → Int} {Rf : Nat → List UInt8} {w w' : World} (h : Lg b g off n c Nf Rf w) (t : Below w.heap.size w w') : Lg b g off n c Nf Rf w' :=
  ⟨by rw [← h.own]; unfold World.cell?; rw [t.block b h.lb], fun j hj i u hu => by rw [← h.row j hj i u hu]; unfold World.cell?; rw [t.block g h.lg], Nat.lt_of_lt_of_le h.lb t.size, Nat.lt_of_lt_of_le h.lg t.size⟩

set_option maxRecDepth 100000 in
set_option maxHeartbeats 4000000 in
theorem find_ok (b g off n c : Nat) (Nf : Nat → Int) (Rf : Nat → List UInt8) (hR : ∀ j, (Rf j).length = 32) (i : Nat) (hi : i < n) (hn : n ≤ 1000000) (mono : ∀ j k, j ≤ k → k < n → Nf j ≤ Nf k) (last : ∀ j, i < j → j < n → Nf i < Nf j) (w : World) (hL : Lg b g off n c Nf Rf w) :
    Calls Tryz.prog 19 #[.pointer (some ⟨b, 0, none⟩), .int .i64 (Nf i)] w fun en w' => en = .returned (.tuple #[.agg (headC (Nf i) (Rf i)), .nilIface]) ∧ Below w.heap.size w w' := by
  obtain ⟨m, hm⟩ : ∃ m, m = Nf i := ⟨_, rfl⟩
  obtain ⟨R, hRR⟩ : ∃ R, R = Rf i := ⟨_, rfl⟩
  rw [← hm, ← hRR]
  have RL : Hid (R.length = 32) := Lib.hid (by rw [hRR]; exact hR i)
  have HM := Lib.hid (show _ ∧ _ from ⟨hm, hRR⟩)
  have HL := Lib.hid hL
  have HN := Lib.hid (show _ ∧ _ ∧ _ ∧ _ from ⟨hi, hn, mono, last⟩)
  have hmf : ∀ (fn : Fn) (first cap : Array Value) (w : World), (Instr.makeFunc fn first cap).run Tryz.prog w = .ok (.func fn first cap) w := fun _ _ _ _ => rfl
  have h0 : ∀ A C D, (((w.alloc A).alloc C).alloc D).cell? ⟨b, 0, none⟩ = some (.slice (some ⟨g, off, none⟩) n c) := fun A C D => ((hL.below ((((Below.refl _ _).alloc (Nat.le_refl _) A).alloc (by simp) C).alloc (by simp; omega) D)).own)
  clear hm hRR hR hi hn mono last hL
  go_enter Tryz.func19, Tryz.ntmps19
  go_wp2_with fail
  refine callsName (fun W hW => ?_)
  have S0 : Hid (Below w.heap.size w W ∧ Lg b g off n c Nf Rf W ∧ W.cell? ⟨w.heap.size, 0, none⟩ = some (.pointer (some ⟨b, 0, none⟩)) ∧ W.cell? ⟨w.heap.size + 1, 0, none⟩ = some (.int .i64 m) ∧ Has W (w.heap.size + 1 + 1) 41 (headC 0 (List.replicate 32 0)) ∧ w.heap.size + 1 < W.heap.size) := by
    have bb : Below w.heap.size w W := by rw [← hW]; exact (((Below.refl _ _).alloc (Nat.le_refl _) _).alloc (by simp) _).alloc (by simp; omega) _
    refine Lib.hid ⟨bb, HL.out.below bb, ?_, ?_, by rw [← hW]; exact made_at _ _ (by simp), by rw [← hW]; simp⟩
    · rw [← hW]; exact ((((made_at _ _ rfl : Has _ w.heap.size _ #[_]).alloc _).alloc _).cell 0)
    · rw [← hW]; exact (((made_at _ _ (by simp) : Has _ (w.heap.size + 1) _ #[_]).alloc _).cell 0)
  clear hW h0
  refine (ssearch_calls n HN.out.2.1 _ _ (fun j => decide (m < Nf j)) (fun j k h1 h2 h3 => by
    have h4 := HN.out.2.2.1 j k h1 h2
    have h5 : m < Nf j := by simpa using h3
    simp
    omega) W (fun V hV j hj => findc_calls j n w.heap.size (w.heap.size + 1) b g off c m (Nf j) hj V
      (by rw [← S0.out.2.2.1]; unfold World.cell?; rw [hV.block _ (Nat.lt_of_succ_lt S0.out.2.2.2.2.2)])
      (by rw [← S0.out.2.2.2.1]; unfold World.cell?; rw [hV.block _ S0.out.2.2.2.2.2])
      (S0.out.2.1.below hV).own ((S0.out.2.1.below hV).row j hj 0 _ rfl))).mono ?_
  rintro en w2 ⟨q, hq, rfl, hlo, hhi, b2⟩
  have hqi : q = i + 1 := by
    have h1 : i < q := by
      rcases Nat.lt_or_ge i q with h | h
      · exact h
      · have h5 := hhi i h HN.out.1
        have h6 : m < Nf i := by simpa using h5
        rw [← HM.out.1] at h6
        omega
    have h2 : q ≤ i + 1 := by
      rcases Nat.lt_or_ge (i + 1) q with h | h
      · have h5 := hlo (i + 1) h
        have h6 : ¬ m < Nf (i + 1) := by simpa using h5
        have h7 := HN.out.2.2.2 (i + 1) (by omega) (by omega)
        rw [← HM.out.1] at h7
        omega
      · exact h
    omega
  have hq1 : (q : Int) - 1 = (i : Int) := by omega
  have hqb : ((q : Int) == 0) = false := by simp; omega
  have hqc : ¬ (q : Int) = 0 := by omega
  have hmm : (m != m) = false := by simp
  have hme : (m == m) = true := by simp
  have i0 : (0 : Int) ≤ (i : Int) := by omega
  have i1 : (i : Int) < (n : Int) := by have := HN.out.1; omega
  have hwi : IntKind.i64.wrap (i : Int) = (i : Int) := IntWalk.i64_in _ ⟨by omega, by have := HN.out; omega⟩
  have i2 : ((i : Int) * 33).toNat = i * 33 := by omega
  have S1 : Hid (Below w.heap.size w w2 ∧ Lg b g off n c Nf Rf w2 ∧ Has w2 (w.heap.size + 1 + 1) 41 (headC 0 (List.replicate 32 0))) := Lib.hid ⟨S0.out.1.trans (b2.mono S0.out.1.size), S0.out.2.1.below b2, S0.out.2.2.2.2.1.below b2 S0.out.2.2.2.2.1.lt⟩
  have k0 : w2.cell? ⟨w.heap.size, 0, none⟩ = some (.pointer (some ⟨b, 0, none⟩)) := by rw [← S0.out.2.2.1]; unfold World.cell?; rw [b2.block _ (Nat.lt_of_succ_lt S0.out.2.2.2.2.2)]
  have k1 : w2.cell? ⟨w.heap.size + 1, 0, none⟩ = some (.int .i64 m) := by rw [← S0.out.2.2.2.1]; unfold World.cell?; rw [b2.block _ S0.out.2.2.2.2.2]
  have k2 : w2.cell? ⟨b, 0, none⟩ = some (.slice (some ⟨g, off, none⟩) n c) := S1.out.2.1.own
  have k3 : w2.cell? ⟨g, off + i * 33, none⟩ = some (.int .i64 m) := by rw [HM.out.1]; exact S1.out.2.1.row i HN.out.1 0 _ rfl
  have hlh : (Instr.loadAt 41 (.pointer (some ⟨g, off + i * 33, none⟩))).run Tryz.prog w2 = .ok (.agg (headC m R)) w2 := by
    rw [HM.out.1, HM.out.2]
    exact run_loadAt_mid w2 g (off + i * 33) 41 (.int .i64 (Nf i) :: (Rf i).map byteV) _ (S1.out.2.1.row i HN.out.1) Tryz.underlying41 rfl (by rw [← HM.out.2, List.length_cons, List.length_map, RL.out]; kernel_rfl)
  clear hq hlo hhi b2 S0 hqi
  go_wp2_with fail
  go_quiet (fail)
  rename_i nq
  have hlh2 : (Instr.loadAt 41 (.pointer (some ⟨g, off + i * 33, none⟩))).run Tryz.prog (w2.drewN nq) = .ok (.agg (headC m R)) (w2.drewN nq) := by
    rw [HM.out.1, HM.out.2]
    exact run_loadAt_mid (w2.drewN nq) g (off + i * 33) 41 (.int .i64 (Nf i) :: (Rf i).map byteV) _ (S1.out.2.1.row i HN.out.1) Tryz.underlying41 rfl (by rw [← HM.out.2, List.length_cons, List.length_map, RL.out]; kernel_rfl)
  have S2 : Hid (Below w.heap.size w (w2.drewN nq) ∧ Has (w2.drewN nq) (w.heap.size + 1 + 1) 41 (headC 0 (List.replicate 32 0))) := Lib.hid ⟨below_drewN S1.out.1 nq, S1.out.2.2⟩
  clear hlh
  go_wp2_with (first
    | ((with_reducible refine at_op 40 ?_); refine wpList_load_if (o := ⟨some 40, _, _, _, _, _⟩) (by kernel_rfl) 41 (.tmp 39) rfl (.pointer (some ⟨g, off + i * 33, none⟩)) rfl hlh2 ?_)
    | ((with_reducible refine at_store (.tmp 4) ?_); refine wpList_store_head (o := ⟨none, _, _, _, _, _⟩) rfl (.tmp 4) (.tmp 40) rfl (w.heap.size + 1 + 1) m 0 R (List.replicate 32 0) rfl rfl S2.out.2 RL.out (by simp) ?_; intro Wb HWb TWb)
    | fail)
  exact bodyPost_ret (v := .tuple #[.agg (headC m R), .nilIface]) (results_cell_tmp rfl _ _ (w.heap.size + 1 + 1) 41 _ _ _ rfl HWb Tryz.underlying41 rfl (by rw [headC_size, RL.out]; kernel_rfl) _ rfl) rfl
    ⟨rfl, S2.out.1.trans (TWb.below S2.out.1.size (fun j hj e => by omega))⟩
end Go.Proofs.YtdoadmkaoboncaaGreatDoor.aud
end

section
/- A region that draws its order and stores in the end what it loaded first: the loads may be taken first, the world being as they ask UNTIL the storing operation k. Of no program. -/
namespace Go.Proofs.YtdoadmkaoboncaaGreatDoor
open Go.RowKit

section
variable {P : Program} {ops : Array Oper} {Q : Exit → Act → World → Prop} {md : Region.Mode} {S : World → Prop} {k : Nat}

/-- Whatever order is picked from here on; S holds behind every operation ahead of k. -/
def wpAnyK (P : Program) (md : Region.Mode) (ops : Array Oper) (Q : Exit → Act → World → Prop) (k : Nat) (S : World → Prop) : Nat → Array Bool → Act → World → Prop
  | 0, listed, a, w => Region.ready md ops listed = [] ∧ Q .normal a w
  | fuel + 1, listed, a, w =>
    (Region.ready md ops listed = [] → Q .normal a w) ∧
    ∀ i ∈ Region.ready md ops listed, wpOp P ops Q i (fun a' w' => (i ≠ k → listed.getD k true = false → S w') ∧ wpAnyK P md ops Q k S fuel (listed.setIfInBounds i true) a' w') a w

theorem wpAny_of_K : ∀ (fuel : Nat) (listed : Array Bool) (a : Act) (w : World), wpAnyK P md ops Q k S fuel listed a w → wpAny P md ops Q fuel listed a w
  | 0, _, _, _, h => h
  | fuel + 1, _, _, _, h => ⟨h.1, fun i hi => wpOp_mono (fun a' w' h' => wpAny_of_K fuel _ a' w' h'.2) (h.2 i hi)⟩

/-- k waits for i. -/
def waitsFor (md : Region.Mode) (ops : Array Oper) (k i : Nat) : Bool := match ops[k]? with
  | some o => o.after.any (fun e => Region.binds md e && e.on == i)
  | none => false

theorem not_ready {i : Nat} {listed : Array Bool} (hk : waitsFor md ops k i = true) (hi : listed.getD i true = false) : k ∉ Region.ready md ops listed := by
  intro hr
  obtain ⟨_, o, ho, hall⟩ := mem_ready.1 hr
  unfold waitsFor at hk
  rw [ho] at hk
  rw [Array.any_eq_true] at hk
  obtain ⟨j, hj, h⟩ := hk
  simp only [Bool.and_eq_true, beq_iff_eq] at h
  have h1 := hall _ (Array.getElem_mem hj) h.1
  rw [h.2] at h1
  rcases Nat.lt_or_ge i listed.size with h' | h'
  · simp [h'] at h1 hi; rw [hi] at h1; cases h1
  · simp [Array.getElem?_eq_none h'] at h1

theorem wpAnyK_first {i : Nat} {oi : Oper} {v : Value} (hi : ops[i]? = some oi) (hsel : ∀ (j : Nat) (o : Oper) cs b, ops[j]? = some o → o.op ≠ .select cs b)
    (hQ : ∀ c a w, Q (.panic c) (a.put oi.dst v) w → Q (.panic c) a w) (hk : waitsFor md ops k i = true) (hik : i ≠ k) :
    ∀ (fuel : Nat) (listed : Array Bool) (a : Act) (w : World),
      (∀ j oj, ops[j]? = some oj → j ≠ i → listed.getD j true = false → (∀ e ∈ oj.after, Region.binds md e = true → e.on ≠ i) → oi.apart ops oj = true) →
      i ∈ Region.ready md ops listed → listed.getD k true = false → YieldsIf P ops S oi v a → S w →
      wpAnyK P md ops Q k S fuel (listed.setIfInBounds i true) (a.put oi.dst v) w → wpAnyK P md ops Q k S (fuel + 1) listed a w := by
  intro fuel
  induction fuel with
  | zero =>
    intro listed a w _ hr hl hy hS H
    refine ⟨fun h => (by rw [h] at hr; cases hr), fun j hj => ?_⟩
    by_cases hji : j = i
    · subst hji; exact hy.wpOp hi hS ⟨fun _ _ => hS, H⟩
    · have := ready_mono hj hji
      rw [H.1] at this
      cases this
  | succ fuel ih =>
    intro listed a w hfree hr hl hy hS H
    refine ⟨fun h => (by rw [h] at hr; cases hr), fun j hj => ?_⟩
    by_cases hji : j = i
    · subst hji; exact hy.wpOp hi hS ⟨fun _ _ => hS, H⟩
    · have hjk : j ≠ k := fun e => not_ready hk (mem_ready.1 hr).1 (e ▸ hj)
      have h1 := H.2 j (ready_mono hj hji)
      obtain ⟨hjun, oj, hoj, hall⟩ := mem_ready.1 hj
      have hnot : ∀ e ∈ oj.after, Region.binds md e = true → e.on ≠ i := fun e he hb heq => by
        have h1 := hall e he hb
        have h0 := (mem_ready.1 hr).1
        rw [heq] at h1
        rcases Nat.lt_or_ge i listed.size with h' | h'
        · simp [h'] at h0 h1; rw [h0] at h1; cases h1
        · simp [Array.getElem?_eq_none h'] at h1
      have h2 := wpOp_putIf hoj (hfree j oj hoj hji hjun hnot) (fun cs b => hsel i oi cs b hi) (fun cs b => hsel j oj cs b hoj) hQ hy h1
      have hfree' : ∀ k ok, ops[k]? = some ok → k ≠ i → (listed.setIfInBounds j true).getD k true = false →
          (∀ e ∈ ok.after, Region.binds md e = true → e.on ≠ i) → oi.apart ops ok = true := fun k ok hk hki hun hno => by
        refine hfree k ok hk hki ?_ hno
        by_cases hjk : j = k
        · subst hjk; exact hjun
        · rw [getD_set_ne true hjk] at hun; exact hun
      refine wpOp_mono (fun a' w' h3 => ?_) h2
      have hSw : S w' := h3.2.1 hjk (by rw [getD_set_ne true hik]; exact hl)
      refine ⟨fun _ _ => hSw, ih (listed.setIfInBounds j true) a' w' hfree' (ready_mono hr (Ne.symm hji)) (by rw [getD_set_ne true hjk]; exact hl) h3.1 hSw ?_⟩
      rw [Array.setIfInBounds_comm _ _ hji]
      exact h3.2.2

theorem heldK_take (i : Nat) (d : Option Tmp) {oi : Oper} {v : Value} {fuel : Nat} {listed : Array Bool} {a : Act} {w : World} (hi : ops[i]? = some oi) (hd : oi.dst = d)
    (hs : Region.noSelect ops = true) (hf : Region.free md ops listed i = true) (hr : (Region.ready md ops listed).contains i = true) (hk : waitsFor md ops k i = true) (hl : listed.getD k true = false) (hik : i ≠ k)
    (hQ : ∀ c a w, Q (.panic c) (a.put d v) w → Q (.panic c) a w) (hy : YieldsIf P ops S oi v a) (hS : S w)
    (h : wpAnyK P md ops Q k S fuel (listed.setIfInBounds i true) (a.put d v) w) : wpAnyK P md ops Q k S (fuel + 1) listed a w := by
  subst hd
  exact wpAnyK_first hi (Region.noSelect_spec hs) hQ hk hik fuel listed a w (Region.free_spec hi hf) (by simpa using hr) hl hy hS h

/-- One operation ahead of k. -/
theorem heldK_one {i : Nat} {fuel : Nat} {listed : Array Bool} {a : Act} {w : World} (hr : Region.ready md ops listed = [i])
    (h : wpOp P ops Q i (fun a' w' => S w' ∧ wpAnyK P md ops Q k S fuel (listed.setIfInBounds i true) a' w') a w) : wpAnyK P md ops Q k S (fuel + 1) listed a w :=
  ⟨fun h0 => absurd (hr ▸ h0) (by simp), fun j hj => by
    rw [hr] at hj
    obtain rfl := List.mem_singleton.1 hj
    exact wpOp_mono (fun _ _ h => ⟨fun _ _ => h.1, h.2⟩) h⟩
/-- One of two ahead of k. -/
theorem heldK_two {i j : Nat} {fuel : Nat} {listed : Array Bool} {a : Act} {w : World} (hr : Region.ready md ops listed = [i, j])
    (h1 : wpOp P ops Q i (fun a' w' => S w' ∧ wpAnyK P md ops Q k S fuel (listed.setIfInBounds i true) a' w') a w)
    (h2 : wpOp P ops Q j (fun a' w' => S w' ∧ wpAnyK P md ops Q k S fuel (listed.setIfInBounds j true) a' w') a w) : wpAnyK P md ops Q k S (fuel + 1) listed a w :=
  ⟨fun h0 => absurd (hr ▸ h0) (by simp), fun n hn => by
    rw [hr] at hn
    rcases List.mem_cons.1 hn with rfl | hn
    · exact wpOp_mono (fun _ _ h => ⟨fun _ _ => h.1, h.2⟩) h1
    · obtain rfl := List.mem_singleton.1 hn
      exact wpOp_mono (fun _ _ h => ⟨fun _ _ => h.1, h.2⟩) h2⟩
/-- k itself. -/
theorem heldK_at {fuel : Nat} {listed : Array Bool} {a : Act} {w : World} (hr : Region.ready md ops listed = [k])
    (h : wpOp P ops Q k (fun a' w' => wpAnyK P md ops Q k S fuel (listed.setIfInBounds k true) a' w') a w) : wpAnyK P md ops Q k S (fuel + 1) listed a w :=
  ⟨fun h0 => absurd (hr ▸ h0) (by simp), fun j hj => by
    rw [hr] at hj
    obtain rfl := List.mem_singleton.1 hj
    exact wpOp_mono (fun _ _ h => ⟨fun h0 => absurd rfl h0, h⟩) h⟩
/-- One operation behind k. -/
theorem heldK_past {i : Nat} {fuel : Nat} {listed : Array Bool} {a : Act} {w : World} (hr : Region.ready md ops listed = [i]) (hl : listed.getD k true = true)
    (h : wpOp P ops Q i (fun a' w' => wpAnyK P md ops Q k S fuel (listed.setIfInBounds i true) a' w') a w) : wpAnyK P md ops Q k S (fuel + 1) listed a w :=
  ⟨fun h0 => absurd (hr ▸ h0) (by simp), fun j hj => by
    rw [hr] at hj
    obtain rfl := List.mem_singleton.1 hj
    exact wpOp_mono (fun _ _ h => ⟨fun _ h0 => (by rw [hl] at h0; cases h0), h⟩) h⟩
theorem heldK_done {listed : Array Bool} {a : Act} {w : World} (hr : Region.ready md ops listed = []) (h : Q .normal a w) : ∀ fuel, wpAnyK P md ops Q k S fuel listed a w
  | 0 => ⟨hr, h⟩
  | _ + 1 => ⟨fun _ => h, by rw [hr]; simp⟩

theorem wp_region_heldK {id : Nat} {a : Act} {w : World} (k : Nat) (S : World → Prop) (V : World) (hV : V = w.drew) (hm : P.follows .mixedOrders = true)
    (h : wpAnyK P .any ops Q k S ops.size (Array.replicate ops.size false) a V) : (Code.region id ops true).wp P Q a w := by
  subst hV
  exact wp_region_any hm (wpAny_of_K _ _ _ _ h)
end
end Go.Proofs.YtdoadmkaoboncaaGreatDoor
end

section
/- audit: Log's Add and Heads. -/
namespace Go.Proofs.YtdoadmkaoboncaaGreatDoor.aud
open Go Go.RowKit Go.Proofs.YtdoadmkaoboncaaGreatDoor.dig Go.Proofs.YtdoadmkaoboncaaGreatDoor.prf

/-- Heads, as they lie in a row. -/
def hdL (h : Int × List UInt8) : List Value := .int .i64 h.1 :: h.2.map byteV
def headsC (H : List (Int × List UInt8)) : List Value := H.flatMap hdL
theorem headsC_snoc (H : List (Int × List UInt8)) (h : Int × List UInt8) : headsC (H ++ [h]) = headsC H ++ hdL h := by simp [headsC]
theorem headsC_one (H : List (Int × List UInt8)) : ∀ u ∈ headsC H, u.oneCell' = true := fun u hu => by
  unfold headsC at hu
  obtain ⟨h, _, h2⟩ := List.mem_flatMap.1 hu
  unfold hdL at h2
  rcases List.mem_cons.1 h2 with rfl | h3
  · rfl
  · exact byteV_one _ u h3
theorem headsC_at : ∀ {H : List (Int × List UInt8)}, (∀ h ∈ H, h.2.length = 32) → ∀ {j i : Nat} {u : Value} {h : Int × List UInt8}, H[j]? = some h → (hdL h)[i]? = some u → (headsC H)[j * 33 + i]? = some u
  | [], _, _, _, _, _, hj, _ => by simp at hj
  | a :: _, hl, j, i, u, h, hj, hu => by
    have hla : (hdL a).length = 33 := by simp [hdL, hl a (by simp)]
    show (hdL a ++ headsC _)[j * 33 + i]? = some u
    cases j with
    | zero =>
      obtain rfl : a = h := by simpa using hj
      have hi : i < 33 := by
        have := (List.getElem?_eq_some_iff.1 hu).1
        omega
      rw [Nat.zero_mul, Nat.zero_add, List.getElem?_append_left (by omega)]
      exact hu
    | succ j =>
      rw [List.getElem?_append_right (by omega), hla, show (j + 1) * 33 + i - 33 = j * 33 + i by omega]
      exact headsC_at (fun _ hx => hl _ (by simp [hx])) (by simpa using hj) hu

/-- A log, the slice in it, the heads that were told. -/
structure Lo (w : World) (b : Nat) (v : Value) (H : List (Int × List UInt8)) : Prop where
  own : Has w b 56 #[v]
  seg : Seg w 41 33 v H.length (headsC H)
  len : ∀ h ∈ H, h.2.length = 32
theorem Lo.below {w w' : World} {b : Nat} {v : Value} {H : List (Int × List UInt8)} (h : Lo w b v H) (t : Below w.heap.size w w') : Lo w' b v H :=
  ⟨h.own.below t h.own.lt, h.seg.below t (fun _ hx => h.seg.lt hx), h.len⟩
def numAt (H : List (Int × List UInt8)) (j : Nat) : Int := (H.getD j (0, List.replicate 32 0)).1
def rootAt (H : List (Int × List UInt8)) (j : Nat) : List UInt8 := (H.getD j (0, List.replicate 32 0)).2
theorem rootAt_len {H : List (Int × List UInt8)} (h : ∀ h ∈ H, h.2.length = 32) (j : Nat) : (rootAt H j).length = 32 := by
  unfold rootAt
  rcases Nat.lt_or_ge j H.length with k | k
  · rw [List.getD_eq_getElem?_getD, List.getElem?_eq_getElem k]
    exact h _ (List.getElem_mem k)
  · rw [List.getD_eq_getElem?_getD, List.getElem?_eq_none k]
    simp
theorem Lo.lg {w : World} {b : Nat} {v : Value} {H : List (Int × List UInt8)} (h : Lo w b v H) (h0 : 0 < H.length) :
    ∃ g off c, v = .slice (some ⟨g, off, none⟩) H.length c ∧ Lg b g off H.length c (numAt H) (rootAt H) w := by
  obtain ⟨g, off, c, rfl, hg, _, _, hc⟩ := h.seg.cells h0
  refine ⟨g, off, c, rfl, (h.own.cell 0).trans rfl, fun j hj i u hu => ?_, h.own.lt, hg⟩
  have e : H[j]? = some (numAt H j, rootAt H j) := by
    unfold numAt rootAt
    rw [List.getD_eq_getElem?_getD, List.getElem?_eq_getElem hj]
    rfl
  rw [Nat.add_assoc]
  exact hc _ u (headsC_at h.len e hu)

/-- Behind an Add that went well. -/
def AddPost (w : World) (b : Nat) (v : Value) (H : List (Int × List UInt8)) (n : Int) (R : List UInt8) (en : Ending) (w' : World) : Prop :=
  en = .returned .nilIface ∧ ∃ v', Lo w' b v' (H ++ [(n, R)]) ∧ (∀ x, v'.ownBlock = some x → v.ownBlock = some x ∨ w.heap.size ≤ x) ∧ Turn (fun j => j = b ∨ v.ownBlock = some j) w w'
/-- Behind one that didn't. -/
def AddErr (w : World) (n m E : Int) (en : Ending) (w' : World) : Prop :=
  ∃ b1 b2, en = .returned (flt.ev [⟨b1, ⟨#[97, 100, 100]⟩, n⟩, ⟨b2, ⟨#[112, 114, 101, 102, 105, 120]⟩, m⟩] E) ∧ flt.Er w'.heap.size w' [⟨b1, ⟨#[97, 100, 100]⟩, n⟩, ⟨b2, ⟨#[112, 114, 101, 102, 105, 120]⟩, m⟩] E ∧ Below w.heap.size w w'

theorem headInfo : ∃ i z, Tryz.prog.info? 41 = some i ∧ i.zero = some z ∧ i.size = 33 ∧ z.cells.size = 33 ∧ i.bytes = 40 := by
  have h : (Tryz.prog.info? 41).map (fun i => (i.zero.map (fun z => z.cells.size), i.size, i.bytes)) = some (some 33, 33, 40) := by kernel_rfl
  rcases hi : Tryz.prog.info? 41 with _ | i
  · rw [hi] at h; cases h
  · rw [hi] at h
    injection h with h
    injection h with h1 h
    injection h with h2 h3
    rcases hz : i.zero with _ | z
    · rw [hz] at h1; cases h1
    · rw [hz] at h1
      injection h1 with h1
      exact ⟨i, z, rfl, hz, h2, h1, h3⟩

/-- What lasts while the last head is looked at. -/
structure LaS (w : World) (b : Nat) (v : Value) (H : List (Int × List UInt8)) (n : Int) (R : List UInt8) (V : World) : Prop where
  lo : Lo V b v H
  box : Has V w.heap.size 41 (headC n R)
  bel : Below w.heap.size w V
theorem LaS.below {w : World} {b : Nat} {v : Value} {H : List (Int × List UInt8)} {n : Int} {R : List UInt8} {V V' : World} (h : LaS w b v H n R V) (t : Below V.heap.size V V') : LaS w b v H n R V' :=
  ⟨h.lo.below t, h.box.below t h.box.lt, h.bel.trans (t.mono h.bel.size)⟩

/-- What lasts ahead of the store. -/
structure LbS (b g : Nat) (v : Value) (n : Int) (R : List UInt8) (V : World) : Prop where
  own : Has V b 56 #[v]
  box : Has V g 41 (headC n R)

theorem wp_held_name {P : Program} {c : Code} {Q : Exit → Act → World → Prop} {a : Act} {w : World} (h : ∀ V, w = V → c.wp P Q a V) : c.wp P Q a w := h w rfl
theorem wp_region_heldV {P : Program} {ops : Array Oper} {Q : Exit → Act → World → Prop} {id : Nat} {a : Act} {w : World} (S : World → Prop) (V : World) (hV : V = w.drew) (hm : P.follows .mixedOrders = true)
    (h : wpAnyH P .any ops Q S ops.size (Array.replicate ops.size false) a V) : (Code.region id ops true).wp P Q a w := by
  subst hV
  exact wp_region_any hm (wpAny_of_held _ _ _ _ h)

set_option maxRecDepth 100000 in
set_option maxHeartbeats 4000000 in
theorem add_first (b : Nat) (v : Value) (n : Int) (R : List UInt8) (hR : R.length = 32) (sv : Value) (w : World) (hL : Lo w b v []) :
    Calls Tryz.prog 17 #[.pointer (some ⟨b, 0, none⟩), .agg (headC n R), sv] w (AddPost w b v [] n R) := by
  obtain ⟨H, hH⟩ : ∃ H : List (Int × List UInt8), H = [] := ⟨_, rfl⟩
  rw [← hH] at hL ⊢
  have hlen : H.length = 0 := by rw [hH]; rfl
  obtain ⟨va, vc, hv, _, _⟩ := hL.seg.slice
  obtain ⟨i0, z0, hi0, hz0, hz1, hz2, hz3⟩ := headInfo
  have HI := Lib.hid (show _ ∧ _ from ⟨hi0, hz0⟩)
  have HRL := Lib.hid hR
  have HN : Hid (H.length ≤ 1000) := Lib.hid (by omega)
  have HNB : Hid (∀ V : World, Seg V 41 33 v H.length (headsC H) → v.ownBlock ≠ some w.heap.size) := Lib.hid fun V _ e => by have := hL.seg.lt e; omega
  have SX : ∀ cs, cs = headC n R → LaS w b v H n R (w.alloc (.cells cs 41)) := fun cs hcs => by
    rw [hcs]; exact ⟨hL.below ((Below.refl _ _).alloc (Nat.le_refl _) _), made_at _ _ rfl, (Below.refl _ _).alloc (Nat.le_refl _) _⟩
  have SX := Lib.hid (SX _ rfl)
  have e0 : ∀ O, (w.alloc O).cell? ⟨b, 0, none⟩ = some (.slice va H.length vc) := fun O => by rw [← hv]; exact ((hL.own.alloc O).cell 0).trans rfl
  have HV := Lib.hid hv
  rw [hlen] at e0
  have HLEN := Lib.hid hlen
  clear hi0 hz0 hR hL hv hH hlen
  go_enter Tryz.func17, Tryz.ntmps17
  go_wp2_with fail
  clear e0
  refine wp_held_name (fun W1 hW1 => ?_)
  rw [hW1] at SX
  clear hW1
  obtain ⟨W, hW⟩ : ∃ W, W = W1.drew := ⟨_, rfl⟩
  refine wp_region_heldK 10 (fun V => LbS b w.heap.size v n R V) W hW (by kernel_rfl) ?_
  have HS : Hid (LaS w b v H n R W) := by rw [hW]; exact Lib.hid (SX.out.below (Below.refl _ _).drew)
  have S0 : LbS b w.heap.size v n R W := ⟨HS.out.lo.own, HS.out.box⟩
  clear hW SX
  refine heldK_take 0 (some 32) (v := .pointer (some ⟨b, 0, none⟩)) rfl rfl (by kernel_rfl) (by kernel_rfl) (by kernel_rfl) (by kernel_rfl) (by kernel_rfl) (by decide) (fun _ _ _ h => h) (.inl ⟨by kernel_rfl, fun V hV => by rfl⟩) S0 ?_
  simp only [Act.put, List.setIfInBounds_toArray, List.set_cons_zero, List.set_cons_succ]
  refine heldK_take 1 (some 33) (v := .pointer (some ⟨b, 0, none⟩)) rfl rfl (by kernel_rfl) (by kernel_rfl) (by kernel_rfl) (by kernel_rfl) (by kernel_rfl) (by decide) (fun _ _ _ h => h) (.inl ⟨by kernel_rfl, fun V hV => by rfl⟩) S0 ?_
  simp only [Act.put, List.setIfInBounds_toArray, List.set_cons_zero, List.set_cons_succ]
  refine heldK_take 2 (some 34) (v := .pointer (some ⟨b, 0, none⟩)) rfl rfl (by kernel_rfl) (by kernel_rfl) (by kernel_rfl) (by kernel_rfl) (by kernel_rfl) (by decide) (fun _ _ _ h => h) (.inl ⟨by kernel_rfl, fun V hV => by go_simp⟩) S0 ?_
  simp only [Act.put, List.setIfInBounds_toArray, List.set_cons_zero, List.set_cons_succ]
  refine heldK_take 3 (some 35) (v := .pointer (some ⟨b, 0, none⟩)) rfl rfl (by kernel_rfl) (by kernel_rfl) (by kernel_rfl) (by kernel_rfl) (by kernel_rfl) (by decide) (fun _ _ _ h => h) (.inl ⟨by kernel_rfl, fun V hV => by go_simp⟩) S0 ?_
  simp only [Act.put, List.setIfInBounds_toArray, List.set_cons_zero, List.set_cons_succ]
  refine heldK_take 4 (some 36) (v := v) rfl rfl (by kernel_rfl) (by kernel_rfl) (by kernel_rfl) (by kernel_rfl) (by kernel_rfl) (by decide) (fun _ _ _ h => h) (.inl ⟨by kernel_rfl, fun V hV => by (have c1 : V.cell? ⟨b, 0, none⟩ = some v := (hV.own.cell 0).trans rfl); go_simp⟩) S0 ?_
  simp only [Act.put, List.setIfInBounds_toArray, List.set_cons_zero, List.set_cons_succ]
  refine heldK_take 5 (some 37) (v := .agg (headC n R)) rfl rfl (by kernel_rfl) (by kernel_rfl) (by kernel_rfl) (by kernel_rfl) (by kernel_rfl) (by decide) (fun _ _ _ h => h) (.inl ⟨by kernel_rfl, fun V hV => by exact exec_load 41 (.tmp 4) rfl (.pointer (some ⟨w.heap.size, 0, none⟩)) (by kernel_rfl) (prf.Has.load_hd hV.box HRL.out)⟩) S0 ?_
  simp only [Act.put, List.setIfInBounds_toArray, List.set_cons_zero, List.set_cons_succ]
  refine heldK_one (i := 6) (by kernel_rfl) ?_
  refine wpOp_wp (o := ⟨some 38, _, _, _, _, _⟩) rfl (by kernel_rfl) ?_
  refine wp_build_one 54 41 (.tmp 37) rfl i0 z0 Tryz.underlying54 HI.out.1 HI.out.2 (headC n R) (by simp [Act.eval]) (by rw [hz1, headC_size, HRL.out]) (by rw [headC_size, HRL.out]; decide) (by rw [headC_size, HRL.out]; decide) _ rfl ?_
  intro X1 HX1 BX1
  have s1 : Seg X1 41 33 (.slice (some ⟨W.heap.size, 0, none⟩) 1 1) 1 (hdL (n, R)) := Seg.of_has (n := 1) (size := 33) HX1 (by show (headC n R).size = _; rw [headC_size, HRL.out]) (by decide)
  have l1 : Lo X1 b v H := HS.out.lo.below BX1
  have S1 : LbS b w.heap.size v n R X1 := ⟨l1.own, HS.out.box.below BX1 HS.out.box.lt⟩
  refine ⟨S1, ?_⟩
  simp only [Act.put, List.setIfInBounds_toArray, List.set_cons_zero, List.set_cons_succ]
  refine heldK_one (i := 7) (by kernel_rfl) ?_
  refine wpOp_wp (o := ⟨some 39, _, _, _, _, _⟩) rfl (by kernel_rfl) ?_
  refine wp_append_every _ (.tmp 36) (.tmp 38) 54 rfl 41 i0 z0 33 40 Tryz.underlying54 HI.out.1 HI.out.2 hz1 hz3 hz2 (by decide) v H.length _ (by simp [Act.eval]) l1.seg _ 1 _ (by simp [Act.eval]) s1 (headsC_one [(n, R)] |> fun h u hu => h u (by simpa [headsC] using hu)) (by have := HN.out; unfold maxLen; omega) (by have := HN.out; omega) ?_
  intro v5 w5 s5 g5 o5
  have t5 : Turn (fun j => v.ownBlock = some j) X1 w5 := (Turn.refl _ _).grown g5 (fun j e _ => e)
  have S2 : LbS b w.heap.size v n R w5 := ⟨l1.own.turn t5 (l1.seg.ne l1.own (by decide)), S1.box.turn t5 (HNB.out X1 l1.seg)⟩
  have T5 : Hid (Seg w5 41 33 v5 (H.length + 1) (headsC H ++ hdL (n, R)) ∧ Turn (fun j => j = b ∨ v.ownBlock = some j) w w5 ∧ (∀ x, v5.ownBlock = some x → v.ownBlock = some x ∨ w.heap.size ≤ x) ∧ Has w5 b 56 #[v]) := Lib.hid ⟨s5, (Turn.of_below (HS.out.bel.trans (BX1.mono HS.out.bel.size)) (fun j h1 h2 => absurd h1 (by omega))).trans t5 (fun j _ e => .inr e), fun x hx => (o5 x hx).imp id (fun e => Nat.le_trans (Nat.le_trans HS.out.bel.size BX1.size) e), S2.own⟩
  clear s5 g5 o5 t5 l1 s1
  refine ⟨S2, ?_⟩
  simp only [Act.put, List.setIfInBounds_toArray, List.set_cons_zero, List.set_cons_succ]
  refine heldK_one (i := 8) (by kernel_rfl) ?_
  refine wpOp_value (some 40) (v := .pointer (some ⟨b, 0, none⟩)) (w' := w5) rfl rfl (by kernel_rfl) (by go_simp) ?_
  refine ⟨S2, ?_⟩
  simp only [Act.put, List.setIfInBounds_toArray, List.set_cons_zero, List.set_cons_succ]
  refine heldK_one (i := 9) (by kernel_rfl) ?_
  refine wpOp_value (some 41) (v := .pointer (some ⟨b, 0, none⟩)) (w' := w5) rfl rfl (by kernel_rfl) (by go_simp) ?_
  refine ⟨S2, ?_⟩
  simp only [Act.put, List.setIfInBounds_toArray, List.set_cons_zero, List.set_cons_succ]
  obtain ⟨a5, c5, rfl, _, _⟩ := T5.out.1.slice
  have k1 : w5.cell? ⟨b, 0, none⟩ = some v := (S2.own.cell 0).trans rfl
  have f1 : w5.frozen? ⟨b, 0, none⟩ = false := S2.own.free 0
  refine heldK_at (by kernel_rfl) ?_
  refine wpOp_skip (w' := w5.setCell ⟨b, 0, none⟩ (.slice a5 (H.length + 1) c5)) rfl rfl (by kernel_rfl) (by rw [HV.out] at k1; go_simp) ?_
  refine heldK_done (by kernel_rfl) ?_ _
  have F5 : Hid (AddPost w b v H n R (.returned .nilIface) (w5.setCell ⟨b, 0, none⟩ (.slice a5 (H.length + 1) c5))) := by
    have ht : Turn (fun j => j = b) w5 (w5.setCell ⟨b, 0, none⟩ (.slice a5 (H.length + 1) c5)) := (Turn.refl (fun j => j = b) w5).put (fun _ => rfl) _ _
    refine Lib.hid ⟨rfl, _, ⟨T5.out.2.2.2.put 0 _, ?_, fun h hh => ?_⟩, T5.out.2.2.1, T5.out.2.1.trans ht (fun j _ e => .inl e)⟩
    · rw [List.length_append, headsC_snoc]
      exact T5.out.1.turn ht (fun x hx e => T5.out.1.ne T5.out.2.2.2 (by decide) (by rw [hx, e]))
    · rcases List.mem_append.1 hh with h1 | h1
      · exact HS.out.lo.len h h1
      · rw [List.mem_singleton.1 h1]; exact HRL.out
  clear T5 S2 S1 S0 HS k1 f1
  go_wp2_with fail
  go_ret
  exact F5.out

set_option maxRecDepth 100000 in
set_option maxHeartbeats 4000000 in
theorem add_next (b : Nat) (v : Value) (H : List (Int × List UInt8)) (j : Nat) (hj : H.length = j + 1) (hN : H.length ≤ 1000) (n : Int) (R : List UInt8) (hR : R.length = 32) (sv : Value) (m E : Int) (w : World) (hL : Lo w b v H)
    (hc : ∀ V, LaS w b v H n R V → Calls Tryz.prog 40 #[.agg (headC (numAt H j) (rootAt H j)), .agg (headC n R), sv] V (ErrPost V ⟨#[112, 114, 101, 102, 105, 120]⟩ m E)) :
    Calls Tryz.prog 17 #[.pointer (some ⟨b, 0, none⟩), .agg (headC n R), sv] w fun en w' => (E = 0 ∧ AddPost w b v H n R en w') ∨ (E ≠ 0 ∧ AddErr w H.length m E en w') := by
  obtain ⟨va, vc, hv, _, _⟩ := hL.seg.slice
  obtain ⟨g, off, gc, hvg, hLg⟩ := hL.lg (by omega)
  obtain ⟨k, hk⟩ : ∃ k, k = H.length := ⟨_, rfl⟩
  obtain ⟨i0, z0, hi0, hz0, hz1, hz2, hz3⟩ := headInfo
  obtain ⟨xn, hxn⟩ : ∃ x, x = numAt H j := ⟨_, rfl⟩
  obtain ⟨xr, hxr⟩ : ∃ x, x = rootAt H j := ⟨_, rfl⟩
  have HXR : Hid (xr.length = 32) := Lib.hid (by rw [hxr]; exact rootAt_len hL.len j)
  rw [← hxn, ← hxr] at hc
  have HC := Lib.hid hc
  have HI := Lib.hid (show _ ∧ _ from ⟨hi0, hz0⟩)
  have HRL := Lib.hid hR
  have HN := Lib.hid hN
  have HV := Lib.hid hvg
  have HNB : Hid (∀ V : World, Seg V 41 33 v H.length (headsC H) → v.ownBlock ≠ some w.heap.size) := Lib.hid fun V _ e => by have := hL.seg.lt e; omega
  have HLH : Hid (∀ V, LaS w b v H n R V → (Instr.loadAt 41 (.pointer (some ⟨g, off + j * 33, none⟩))).run Tryz.prog V = .ok (.agg (headC xn xr)) V) := Lib.hid fun V hV => by
    obtain ⟨g', off', gc', hvg', hLg'⟩ := hV.lo.lg (by omega)
    rw [hvg] at hvg'
    simp only [Value.slice.injEq, Option.some.injEq, Addr.mk.injEq, and_true, true_and] at hvg'
    obtain ⟨⟨rfl, rfl⟩, rfl⟩ := hvg'
    rw [hxn, hxr]
    exact run_loadAt_mid V g (off + j * 33) 41 (.int .i64 (numAt H j) :: (rootAt H j).map byteV) _ (hLg'.row j (by omega)) Tryz.underlying41 rfl (by rw [List.length_cons, List.length_map, rootAt_len hL.len j]; kernel_rfl)
  have SX : ∀ cs, cs = headC n R → LaS w b v H n R (w.alloc (.cells cs 41)) := fun cs hcs => by
    rw [hcs]; exact ⟨hL.below ((Below.refl _ _).alloc (Nat.le_refl _) _), made_at _ _ rfl, (Below.refl _ _).alloc (Nat.le_refl _) _⟩
  have SX := Lib.hid (SX _ rfl)
  have e0 : ∀ O, (w.alloc O).cell? ⟨b, 0, none⟩ = some (.slice (some ⟨g, off, none⟩) k gc) := fun O => by rw [hk, ← hvg]; exact ((hL.own.alloc O).cell 0).trans rfl
  have k0 : (k : Int) > 0 := by omega
  have k1 : (k : Int) - 1 = (j : Int) := by omega
  have k2 : IntKind.i64.wrap (j : Int) = (j : Int) := IntWalk.i64_in _ ⟨by omega, by omega⟩
  have k3 : (0 : Int) ≤ (j : Int) := by omega
  have k4 : (j : Int) < (k : Int) := by omega
  have k5 : ((j : Int) * 33).toNat = j * 33 := by omega
  have HK := Lib.hid hk
  clear hi0 hz0 hR hL hv hvg hk hxn hxr hc hN hj hLg
  go_enter Tryz.func17, Tryz.ntmps17
  go_wp2_with fail
  clear e0
  refine wp_held_name (fun W1 hW1 => ?_)
  rw [hW1] at SX
  clear hW1
  obtain ⟨W, hW⟩ : ∃ W, W = W1.drew := ⟨_, rfl⟩
  refine wp_region_heldV (LaS w b v H n R) W hW (by kernel_rfl) ?_
  have S0 : LaS w b v H n R W := by rw [hW]; exact SX.out.below (Below.refl _ _).drew
  clear SX hW
  refine held_take 0 (some 16) (v := .pointer (some ⟨b, 0, none⟩)) rfl rfl (by kernel_rfl) (by kernel_rfl) (by kernel_rfl) (fun _ _ _ h => h) (.inl ⟨by kernel_rfl, fun V hV => by rfl⟩) S0 ?_
  simp only [Act.put, List.setIfInBounds_toArray, List.set_cons_zero, List.set_cons_succ]
  refine held_take 1 (some 17) (v := .pointer (some ⟨b, 0, none⟩)) rfl rfl (by kernel_rfl) (by kernel_rfl) (by kernel_rfl) (fun _ _ _ h => h) (.inl ⟨by kernel_rfl, fun V hV => by go_simp⟩) S0 ?_
  simp only [Act.put, List.setIfInBounds_toArray, List.set_cons_zero, List.set_cons_succ]
  refine held_take 2 (some 18) (v := .pointer (some ⟨b, 0, none⟩)) rfl rfl (by kernel_rfl) (by kernel_rfl) (by kernel_rfl) (fun _ _ _ h => h) (.inl ⟨by kernel_rfl, fun V hV => by go_simp⟩) S0 ?_
  simp only [Act.put, List.setIfInBounds_toArray, List.set_cons_zero, List.set_cons_succ]
  refine held_take 3 (some 19) (v := .slice (some ⟨g, off, none⟩) k gc) rfl rfl (by kernel_rfl) (by kernel_rfl) (by kernel_rfl) (fun _ _ _ h => h) (.inl ⟨by kernel_rfl, fun V hV => by (have c1 : V.cell? ⟨b, 0, none⟩ = some (.slice (some ⟨g, off, none⟩) k gc) := by rw [HK.out, ← HV.out]; exact (hV.lo.own.cell 0).trans rfl); go_simp⟩) S0 ?_
  simp only [Act.put, List.setIfInBounds_toArray, List.set_cons_zero, List.set_cons_succ]
  refine held_take 4 (some 20) (v := .int .i64 k) rfl rfl (by kernel_rfl) (by kernel_rfl) (by kernel_rfl) (fun _ _ _ h => h) (.inl ⟨by kernel_rfl, fun V hV => by rfl⟩) S0 ?_
  simp only [Act.put, List.setIfInBounds_toArray, List.set_cons_zero, List.set_cons_succ]
  refine held_take 5 (some 21) (v := .int .i64 j) rfl rfl (by kernel_rfl) (by kernel_rfl) (by kernel_rfl) (fun _ _ _ h => h) (.inl ⟨by kernel_rfl, fun V hV => by go_simp⟩) S0 ?_
  simp only [Act.put, List.setIfInBounds_toArray, List.set_cons_zero, List.set_cons_succ]
  refine held_take 6 (some 22) (v := .pointer (some ⟨g, off + j * 33, none⟩)) rfl rfl (by kernel_rfl) (by kernel_rfl) (by kernel_rfl) (fun _ _ _ h => h) (.inl ⟨by kernel_rfl, fun V hV => by go_simp⟩) S0 ?_
  simp only [Act.put, List.setIfInBounds_toArray, List.set_cons_zero, List.set_cons_succ]
  refine held_take 7 (some 23) (v := .agg (headC xn xr)) rfl rfl (by kernel_rfl) (by kernel_rfl) (by kernel_rfl) (fun _ _ _ h => h) (.inl ⟨by kernel_rfl, fun V hV => by exact exec_load 41 (.tmp 22) rfl (.pointer (some ⟨g, off + j * 33, none⟩)) (by kernel_rfl) (HLH.out V hV)⟩) S0 ?_
  simp only [Act.put, List.setIfInBounds_toArray, List.set_cons_zero, List.set_cons_succ]
  refine held_take 8 (some 24) (v := .agg (headC n R)) rfl rfl (by kernel_rfl) (by kernel_rfl) (by kernel_rfl) (fun _ _ _ h => h) (.inl ⟨by kernel_rfl, fun V hV => by exact exec_load 41 (.tmp 4) rfl (.pointer (some ⟨w.heap.size, 0, none⟩)) (by kernel_rfl) (prf.Has.load_hd hV.box HRL.out)⟩) S0 ?_
  simp only [Act.put, List.setIfInBounds_toArray, List.set_cons_zero, List.set_cons_succ]
  refine held_take 9 (some 25) (v := sv) rfl rfl (by kernel_rfl) (by kernel_rfl) (by kernel_rfl) (fun _ _ _ h => h) (.inl ⟨by kernel_rfl, fun V hV => by rfl⟩) S0 ?_
  simp only [Act.put, List.setIfInBounds_toArray, List.set_cons_zero, List.set_cons_succ]
  refine held_one (i := 10) (by kernel_rfl) ?_
  refine wpOp_call (some 26) rfl rfl (by kernel_rfl) 40 Tryz.f40 Tryz.func40 (by kernel_rfl) (by kernel_rfl) _ _ rfl #[.agg (headC xn xr), .agg (headC n R), sv] (by first | (simp [Act.eval]; done) | (simp [Act.eval, Act.put]; done)) (HC.out _ S0) ?_
  rintro en w2 ⟨y, rfl, he, b2⟩
  have S1 := S0.below b2
  clear S0 b2
  rcases he with ⟨hE, rfl⟩ | ⟨hE, b', rfl, her⟩
  · refine ⟨_, rfl, S1, ?_⟩
    simp only [Act.put, List.setIfInBounds_toArray, List.set_cons_zero, List.set_cons_succ]
    refine held_take 11 (some 8) (v := .nilIface) rfl rfl (by kernel_rfl) (by kernel_rfl) (by kernel_rfl) (fun _ _ _ h => h) (.inl ⟨by kernel_rfl, fun V hV => by rfl⟩) S1 ?_
    simp only [Act.put, List.setIfInBounds_toArray, List.set_cons_zero, List.set_cons_succ]
    refine wpAnyH_done (by kernel_rfl) ?_ _
    have SX := Lib.hid S1
    have HE := Lib.hid hE
    clear S1 hE
    go_wp2_with fail
    obtain ⟨W, hW⟩ : ∃ W, W = w2.drew := ⟨_, rfl⟩
    refine wp_region_heldK 10 (fun V => LbS b w.heap.size v n R V) W hW (by kernel_rfl) ?_
    have HS : Hid (LaS w b v H n R W) := by rw [hW]; exact Lib.hid (SX.out.below (Below.refl _ _).drew)
    have S0 : LbS b w.heap.size v n R W := ⟨HS.out.lo.own, HS.out.box⟩
    clear hW SX
    refine heldK_take 0 (some 32) (v := .pointer (some ⟨b, 0, none⟩)) rfl rfl (by kernel_rfl) (by kernel_rfl) (by kernel_rfl) (by kernel_rfl) (by kernel_rfl) (by decide) (fun _ _ _ h => h) (.inl ⟨by kernel_rfl, fun V hV => by rfl⟩) S0 ?_
    simp only [Act.put, List.setIfInBounds_toArray, List.set_cons_zero, List.set_cons_succ]
    refine heldK_take 1 (some 33) (v := .pointer (some ⟨b, 0, none⟩)) rfl rfl (by kernel_rfl) (by kernel_rfl) (by kernel_rfl) (by kernel_rfl) (by kernel_rfl) (by decide) (fun _ _ _ h => h) (.inl ⟨by kernel_rfl, fun V hV => by rfl⟩) S0 ?_
    simp only [Act.put, List.setIfInBounds_toArray, List.set_cons_zero, List.set_cons_succ]
    refine heldK_take 2 (some 34) (v := .pointer (some ⟨b, 0, none⟩)) rfl rfl (by kernel_rfl) (by kernel_rfl) (by kernel_rfl) (by kernel_rfl) (by kernel_rfl) (by decide) (fun _ _ _ h => h) (.inl ⟨by kernel_rfl, fun V hV => by go_simp⟩) S0 ?_
    simp only [Act.put, List.setIfInBounds_toArray, List.set_cons_zero, List.set_cons_succ]
    refine heldK_take 3 (some 35) (v := .pointer (some ⟨b, 0, none⟩)) rfl rfl (by kernel_rfl) (by kernel_rfl) (by kernel_rfl) (by kernel_rfl) (by kernel_rfl) (by decide) (fun _ _ _ h => h) (.inl ⟨by kernel_rfl, fun V hV => by go_simp⟩) S0 ?_
    simp only [Act.put, List.setIfInBounds_toArray, List.set_cons_zero, List.set_cons_succ]
    refine heldK_take 4 (some 36) (v := v) rfl rfl (by kernel_rfl) (by kernel_rfl) (by kernel_rfl) (by kernel_rfl) (by kernel_rfl) (by decide) (fun _ _ _ h => h) (.inl ⟨by kernel_rfl, fun V hV => by (have c1 : V.cell? ⟨b, 0, none⟩ = some v := (hV.own.cell 0).trans rfl); go_simp⟩) S0 ?_
    simp only [Act.put, List.setIfInBounds_toArray, List.set_cons_zero, List.set_cons_succ]
    refine heldK_take 5 (some 37) (v := .agg (headC n R)) rfl rfl (by kernel_rfl) (by kernel_rfl) (by kernel_rfl) (by kernel_rfl) (by kernel_rfl) (by decide) (fun _ _ _ h => h) (.inl ⟨by kernel_rfl, fun V hV => by exact exec_load 41 (.tmp 4) rfl (.pointer (some ⟨w.heap.size, 0, none⟩)) (by kernel_rfl) (prf.Has.load_hd hV.box HRL.out)⟩) S0 ?_
    simp only [Act.put, List.setIfInBounds_toArray, List.set_cons_zero, List.set_cons_succ]
    refine heldK_one (i := 6) (by kernel_rfl) ?_
    refine wpOp_wp (o := ⟨some 38, _, _, _, _, _⟩) rfl (by kernel_rfl) ?_
    refine wp_build_one 54 41 (.tmp 37) rfl i0 z0 Tryz.underlying54 HI.out.1 HI.out.2 (headC n R) (by simp [Act.eval]) (by rw [hz1, headC_size, HRL.out]) (by rw [headC_size, HRL.out]; decide) (by rw [headC_size, HRL.out]; decide) _ rfl ?_
    intro X1 HX1 BX1
    have s1 : Seg X1 41 33 (.slice (some ⟨W.heap.size, 0, none⟩) 1 1) 1 (hdL (n, R)) := Seg.of_has (n := 1) (size := 33) HX1 (by show (headC n R).size = _; rw [headC_size, HRL.out]) (by decide)
    have l1 : Lo X1 b v H := HS.out.lo.below BX1
    have S1 : LbS b w.heap.size v n R X1 := ⟨l1.own, HS.out.box.below BX1 HS.out.box.lt⟩
    refine ⟨S1, ?_⟩
    simp only [Act.put, List.setIfInBounds_toArray, List.set_cons_zero, List.set_cons_succ]
    refine heldK_one (i := 7) (by kernel_rfl) ?_
    refine wpOp_wp (o := ⟨some 39, _, _, _, _, _⟩) rfl (by kernel_rfl) ?_
    refine wp_append_every _ (.tmp 36) (.tmp 38) 54 rfl 41 i0 z0 33 40 Tryz.underlying54 HI.out.1 HI.out.2 hz1 hz3 hz2 (by decide) v H.length _ (by simp [Act.eval]) l1.seg _ 1 _ (by simp [Act.eval]) s1 (headsC_one [(n, R)] |> fun h u hu => h u (by simpa [headsC] using hu)) (by have := HN.out; unfold maxLen; omega) (by have := HN.out; omega) ?_
    intro v5 w5 s5 g5 o5
    have t5 : Turn (fun j => v.ownBlock = some j) X1 w5 := (Turn.refl _ _).grown g5 (fun j e _ => e)
    have S2 : LbS b w.heap.size v n R w5 := ⟨l1.own.turn t5 (l1.seg.ne l1.own (by decide)), S1.box.turn t5 (HNB.out X1 l1.seg)⟩
    have T5 : Hid (Seg w5 41 33 v5 (H.length + 1) (headsC H ++ hdL (n, R)) ∧ Turn (fun j => j = b ∨ v.ownBlock = some j) w w5 ∧ (∀ x, v5.ownBlock = some x → v.ownBlock = some x ∨ w.heap.size ≤ x) ∧ Has w5 b 56 #[v]) := Lib.hid ⟨s5, (Turn.of_below (HS.out.bel.trans (BX1.mono HS.out.bel.size)) (fun j h1 h2 => absurd h1 (by omega))).trans t5 (fun j _ e => .inr e), fun x hx => (o5 x hx).imp id (fun e => Nat.le_trans (Nat.le_trans HS.out.bel.size BX1.size) e), S2.own⟩
    clear s5 g5 o5 t5 l1 s1
    refine ⟨S2, ?_⟩
    simp only [Act.put, List.setIfInBounds_toArray, List.set_cons_zero, List.set_cons_succ]
    refine heldK_one (i := 8) (by kernel_rfl) ?_
    refine wpOp_value (some 40) (v := .pointer (some ⟨b, 0, none⟩)) (w' := w5) rfl rfl (by kernel_rfl) (by go_simp) ?_
    refine ⟨S2, ?_⟩
    simp only [Act.put, List.setIfInBounds_toArray, List.set_cons_zero, List.set_cons_succ]
    refine heldK_one (i := 9) (by kernel_rfl) ?_
    refine wpOp_value (some 41) (v := .pointer (some ⟨b, 0, none⟩)) (w' := w5) rfl rfl (by kernel_rfl) (by go_simp) ?_
    refine ⟨S2, ?_⟩
    simp only [Act.put, List.setIfInBounds_toArray, List.set_cons_zero, List.set_cons_succ]
    obtain ⟨a5, c5, rfl, _, _⟩ := T5.out.1.slice
    have k1 : w5.cell? ⟨b, 0, none⟩ = some v := (S2.own.cell 0).trans rfl
    have f1 : w5.frozen? ⟨b, 0, none⟩ = false := S2.own.free 0
    refine heldK_at (by kernel_rfl) ?_
    refine wpOp_skip (w' := w5.setCell ⟨b, 0, none⟩ (.slice a5 (H.length + 1) c5)) rfl rfl (by kernel_rfl) (by rw [HV.out] at k1; go_simp) ?_
    refine heldK_done (by kernel_rfl) ?_ _
    have F5 : Hid (AddPost w b v H n R (.returned .nilIface) (w5.setCell ⟨b, 0, none⟩ (.slice a5 (H.length + 1) c5))) := by
      have ht : Turn (fun j => j = b) w5 (w5.setCell ⟨b, 0, none⟩ (.slice a5 (H.length + 1) c5)) := (Turn.refl (fun j => j = b) w5).put (fun _ => rfl) _ _
      refine Lib.hid ⟨rfl, _, ⟨T5.out.2.2.2.put 0 _, ?_, fun h hh => ?_⟩, T5.out.2.2.1, T5.out.2.1.trans ht (fun j _ e => .inl e)⟩
      · rw [List.length_append, headsC_snoc]
        exact T5.out.1.turn ht (fun x hx e => T5.out.1.ne T5.out.2.2.2 (by decide) (by rw [hx, e]))
      · rcases List.mem_append.1 hh with h1 | h1
        · exact HS.out.lo.len h h1
        · rw [List.mem_singleton.1 h1]; exact HRL.out
    clear T5 S2 S1 S0 HS k1 f1
    go_wp2_with fail
    go_ret
    exact .inl ⟨HE.out, F5.out⟩
  · rw [show flt.ev [(⟨b', ⟨#[112, 114, 101, 102, 105, 120]⟩, m⟩ : flt.Sp)] E = Value.iface 125 (.pointer (some ⟨b', 0, none⟩)) from rfl]
    refine ⟨_, rfl, S1, ?_⟩
    simp only [Act.put, List.setIfInBounds_toArray, List.set_cons_zero, List.set_cons_succ]
    refine held_take 11 (some 8) (v := .iface 125 (.pointer (some ⟨b', 0, none⟩))) rfl rfl (by kernel_rfl) (by kernel_rfl) (by kernel_rfl) (fun _ _ _ h => h) (.inl ⟨by kernel_rfl, fun V hV => by rfl⟩) S1 ?_
    simp only [Act.put, List.setIfInBounds_toArray, List.set_cons_zero, List.set_cons_succ]
    refine wpAnyH_done (by kernel_rfl) ?_ _
    have SX := Lib.hid S1
    have HE := Lib.hid (show _ ∧ _ from ⟨hE, her⟩)
    clear S1 hE her
    go_wp2_with fail
    refine (flt.in_calls [⟨b', ⟨#[112, 114, 101, 102, 105, 120]⟩, m⟩] E ⟨#[97, 100, 100]⟩ k _ HE.out.1).mono ?_
    rintro en w3 ⟨rfl, rfl⟩
    have F : Hid (AddErr w H.length m E (.returned (flt.ev [⟨w2.heap.size, ⟨#[97, 100, 100]⟩, k⟩, ⟨b', ⟨#[112, 114, 101, 102, 105, 120]⟩, m⟩] E)) (w2.alloc (.cells #[.string ⟨#[97, 100, 100]⟩, .int .i64 k, flt.ev [⟨b', ⟨#[112, 114, 101, 102, 105, 120]⟩, m⟩] E] 127))) := by
      rw [HK.out]
      exact Lib.hid ⟨_, _, rfl, ⟨⟨made_at _ _ rfl, by simp⟩, (HE.out.2.below ((Below.refl _ _).alloc (Nat.le_refl _) _) (Nat.le_refl _)).more (by simp)⟩, SX.out.bel.trans ((Below.refl _ _).alloc SX.out.bel.size _)⟩
    go_wp2_with fail
    go_ret
    exact .inr ⟨HE.out.1, F.out⟩

set_option maxRecDepth 100000 in
set_option maxHeartbeats 2000000 in
theorem heads_calls (b : Nat) (v : Value) (H : List (Int × List UInt8)) (hN : H.length ≤ 1000) (w : World) (hL : Lo w b v H) :
    Calls Tryz.prog 20 #[.pointer (some ⟨b, 0, none⟩)] w fun en w' => ∃ a c, en = .returned (.slice a H.length c) ∧ Below w.heap.size w w' := by
  obtain ⟨i0, z0, hi0, hz0, hz1, hz2, hz3⟩ := headInfo
  have HI := Lib.hid (show _ ∧ _ from ⟨hi0, hz0⟩)
  have e0 : w.cell? ⟨b, 0, none⟩ = some v := (hL.own.cell 0).trans rfl
  have HL := Lib.hid hL
  have HN := Lib.hid hN
  clear hi0 hz0 hL hN
  go_enter Tryz.func20, Tryz.ntmps20
  go_wp2_with (first
    | (at_builtin; refine wpList_append_every (o := ⟨some 7, _, _, _, _, _⟩) _ rfl (.const (.slice none 0 0)) (.tmp 6) 54 rfl 41 i0 z0 33 40 Tryz.underlying54 HI.out.1 HI.out.2 hz1 hz3 hz2 (by decide) (.slice none 0 0) 0 [] rfl (Seg.nil _ _ _) v H.length _ rfl HL.out.seg (headsC_one H) (by have := HN.out; unfold maxLen; omega) (by have := HN.out; omega) ?_;
       intro r w1 s1 g1 o1; (rw [Nat.zero_add] at s1); (have S1 := Lib.hid (show _ ∧ _ from ⟨s1, g1⟩)); clear s1 g1 o1)
    | fail)
  go_ret
  obtain ⟨a, c, e, _, _⟩ := S1.out.1.slice
  exact ⟨a, c, by rw [e]; rfl, below_none S1.out.2 (Nat.le_refl _)⟩
end Go.Proofs.YtdoadmkaoboncaaGreatDoor.aud
end

