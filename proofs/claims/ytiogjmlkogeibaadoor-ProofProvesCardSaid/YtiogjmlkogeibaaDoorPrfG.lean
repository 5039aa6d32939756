/- proof: elder. -/
import Derived.Test.YtiogjmlkogeibaaDoorPrfF
import Derived.Test.YtiogjmlkogeibaaDoorDigM
import Derived.Test.YtiogjmlkogeibaaDoorAny
namespace Go.Proofs.YtiogjmlkogeibaaDoor.prf
open Go Go.RowKit Go.Proofs.YtiogjmlkogeibaaDoor.dig

theorem Has.load_sum {w : World} {g : Nat} {o : List UInt8} (h : Has w g 27 (cellsOf o)) (ho : o.length = 32) : (Instr.loadAt 27 (.pointer (some ⟨g, 0, none⟩))).run Tryd.prog w = .ok (.agg (cellsOf o)) w :=
  run_loadAt_mid w g 0 27 (o.map byteV) _ (Has.range h) Tryd.underlying27 rfl (by rw [List.length_map, ho]; kernel_rfl)

set_option maxRecDepth 100000 in
set_option maxHeartbeats 1000000 in
theorem elder_same {old root : List UInt8} (ho : old.length = 32) (hr : root.length = 32) (n : Int) (a : Option Addr) (l c : Nat) (w : World) (e : Bool) (he : ((l : Int) == 0) = e) :
    Calls Tryd.prog 23 #[.agg (headC n old), .agg (headC n root), .slice a l c] w fun en w' => en = .returned (.bool (e && (old == root))) ∧ Below w.heap.size w w' := by
  have HO := Lib.hid ho
  have HRT := Lib.hid hr
  have hq : ∀ w, (binOp .eql 27 (.agg (cellsOf old)) (.agg (cellsOf root))).run Tryd.prog w = .ok (.bool (old == root)) w := run_eql_sum old root ho hr
  clear ho hr
  have c0 : ∀ A, ((w.alloc (.cells (headC n old) 33)).alloc A).cell? ⟨w.heap.size, 0, none⟩ = some (.int .i64 n) := fun A => Has.num ((made_at _ _ rfl).alloc A)
  have c1 : ∀ A, ((w.alloc A).alloc (.cells (headC n root) 33)).cell? ⟨w.heap.size + 1, 0, none⟩ = some (.int .i64 n) := fun A => Has.num (made_at _ _ (by simp))
  cases e
  · go_enter Tryd.func23, Tryd.ntmps23
    go_wp2_with fail
    go_ret
    exact ⟨rfl, ((Below.refl _ _).alloc (Nat.le_refl _) _).alloc (by simp) _⟩
  · go_enter Tryd.func23, Tryd.ntmps23
    go_wp2_with (first
      | ((with_reducible refine at_opg 20 ?_); refine wpList_load_if (by kernel_rfl) 27 _ rfl (.pointer (some ⟨w.heap.size, 1, none⟩)) rfl (Has.load_root ((made_at _ _ rfl).alloc _) HO.out) ?_)
      | ((with_reducible refine at_opg 22 ?_); refine wpList_load_if (by kernel_rfl) 27 _ rfl (.pointer (some ⟨w.heap.size + 1, 1, none⟩)) rfl (Has.load_root (made_at _ _ (by simp)) HRT.out) ?_)
      | fail)
    go_ret
    exact ⟨rfl, ((Below.refl _ _).alloc (Nat.le_refl _) _).alloc (by simp) _⟩

set_option maxRecDepth 100000 in
set_option maxHeartbeats 2000000 in
theorem elder_zero {old root : List UInt8} (ho : old.length = 32) (n : Int) (hn : n ≠ 0) (a : Option Addr) (l c : Nat) (w : World) (hR : Rk w) (e : Bool) (he : ((l : Int) == 0) = e) :
    Calls Tryd.prog 23 #[.agg (headC 0 old), .agg (headC n root), .slice a l c] w fun en w' => en = .returned (.bool (e && (old == sum []))) ∧ Below w.heap.size w w' := by
  have HO := Lib.hid ho
  have HR := Lib.hid hR
  have n0 : ((0 : Int) == n) = false := by rw [beq_eq_false_iff_ne]; omega
  have n1 : ¬ (0 : Int) = n := by omega
  have hq : ∀ w, (binOp .eql 27 (.agg (cellsOf old)) (.agg (cellsOf (sum [])))).run Tryd.prog w = .ok (.bool (old == sum [])) w := run_eql_sum old (sum []) ho (sum_length _)
  obtain ⟨z, hz⟩ : ∃ z, z = sum [] := ⟨_, rfl⟩
  have HZ := Lib.hid hz
  rw [← hz] at hq ⊢
  clear ho hR hn hz
  have c0 : ∀ A, ((w.alloc (.cells (headC 0 old) 33)).alloc A).cell? ⟨w.heap.size, 0, none⟩ = some (.int .i64 0) := fun A => Has.num ((made_at _ _ rfl).alloc A)
  have c1 : ∀ A, ((w.alloc A).alloc (.cells (headC n root) 33)).cell? ⟨w.heap.size + 1, 0, none⟩ = some (.int .i64 n) := fun A => Has.num (made_at _ _ (by simp))
  go_enter Tryd.func23, Tryd.ntmps23
  go_wp2_with fail
  go_name_world W hW
  have B0 : Hid (Below w.heap.size w W ∧ Has W w.heap.size 33 (headC 0 old)) := by rw [← hW]; exact Lib.hid ⟨((Below.refl _ _).alloc (Nat.le_refl _) _).alloc (by simp) _, (made_at _ _ rfl).alloc _⟩
  clear hW c0 c1
  have C : Hid (∀ V, (Below w.heap.size w V ∧ Has V w.heap.size 33 (headC 0 old)) → Calls Tryd.prog 36 #[.string ⟨#[]⟩] V fun en w' => en = .returned (.agg (cellsOf z)) ∧ (Below w.heap.size w w' ∧ Has w' w.heap.size 33 (headC 0 old))) := Lib.hid fun V hV =>
    (dig.of_calls ⟨#[]⟩ V (HR.out.below hV.1) (by decide)).mono fun _ _ p => ⟨by rw [p.1, HZ.out], hV.1.trans (p.2.mono hV.1.size), hV.2.below p.2 hV.2.lt⟩
  cases e
  · refine wp_region_S (S := fun V => Below w.heap.size w V ∧ Has V w.heap.size 33 (headC 0 old)) (by kernel_rfl) ⟨B0.out.1.drew, B0.out.2.drew⟩ ?_
    refine AnyS.pure 0 (some 28) rfl rfl (by kernel_rfl) (by kernel_rfl) (by kernel_rfl) (fun _ _ _ h => h) (by kernel_rfl) (fun _ _ => rfl) ?_
    refine AnyS.pure 1 (some 29) (v := .int .i64 l) rfl rfl (by kernel_rfl) (by kernel_rfl) (by kernel_rfl) (fun _ _ _ h => h) (by kernel_rfl) (fun V _ => by go_simp) ?_
    refine AnyS.pure 2 (some 30) (v := .bool false) rfl rfl (by kernel_rfl) (by kernel_rfl) (by kernel_rfl) (fun _ _ _ h => h) (by kernel_rfl) (fun V _ => by go_simp) ?_
    refine AnyS.pure 3 (some 31) rfl rfl (by kernel_rfl) (by kernel_rfl) (by kernel_rfl) (fun _ _ _ h => h) (by kernel_rfl) (fun _ _ => rfl) ?_
    refine AnyS.skip 4 (some 32) rfl rfl (by kernel_rfl) (by kernel_rfl) (by kernel_rfl) (fun _ _ _ h => h) (by kernel_rfl) ?_
    refine AnyS.skip 5 (some 33) rfl rfl (by kernel_rfl) (by kernel_rfl) (by kernel_rfl) (fun _ _ _ h => h) (by kernel_rfl) ?_
    refine AnyS.skip 6 (some 34) rfl rfl (by kernel_rfl) (by kernel_rfl) (by kernel_rfl) (fun _ _ _ h => h) (by kernel_rfl) ?_
    refine AnyS.skip 7 (some 35) rfl rfl (by kernel_rfl) (by kernel_rfl) (by kernel_rfl) (fun _ _ _ h => h) (by kernel_rfl) ?_
    simp only [Act.put, List.setIfInBounds_toArray, List.set_cons_zero, List.set_cons_succ]
    refine AnyS.pure 8 (some 36) (v := .bool false) rfl rfl (by kernel_rfl) (by kernel_rfl) (by kernel_rfl) (fun _ _ _ h => h) (by kernel_rfl) (fun V _ => by go_simp) ?_
    refine AnyS.pure 9 (some 6) rfl rfl (by kernel_rfl) (by kernel_rfl) (by kernel_rfl) (fun _ _ _ h => h) (by kernel_rfl) (fun _ _ => rfl) ?_
    simp only [Act.put]
    refine AnyS.done (by kernel_rfl) (fun V hV => ?_) _
    have HV := Lib.hid hV
    clear hV B0 C
    go_wp2_with fail
    go_ret
    exact ⟨rfl, HV.out.1⟩
  · refine wp_region_S (S := fun V => Below w.heap.size w V ∧ Has V w.heap.size 33 (headC 0 old)) (by kernel_rfl) ⟨B0.out.1.drew, B0.out.2.drew⟩ ?_
    refine AnyS.pure 0 (some 28) rfl rfl (by kernel_rfl) (by kernel_rfl) (by kernel_rfl) (fun _ _ _ h => h) (by kernel_rfl) (fun _ _ => rfl) ?_
    refine AnyS.pure 1 (some 29) (v := .int .i64 l) rfl rfl (by kernel_rfl) (by kernel_rfl) (by kernel_rfl) (fun _ _ _ h => h) (by kernel_rfl) (fun V _ => by go_simp) ?_
    refine AnyS.pure 2 (some 30) (v := .bool true) rfl rfl (by kernel_rfl) (by kernel_rfl) (by kernel_rfl) (fun _ _ _ h => h) (by kernel_rfl) (fun V _ => by go_simp) ?_
    refine AnyS.pure 3 (some 31) rfl rfl (by kernel_rfl) (by kernel_rfl) (by kernel_rfl) (fun _ _ _ h => h) (by kernel_rfl) (fun _ _ => rfl) ?_
    refine AnyS.pure 4 (some 32) (v := .pointer (some ⟨w.heap.size, 1, none⟩)) rfl rfl (by kernel_rfl) (by kernel_rfl) (by kernel_rfl) (fun _ _ _ h => h) (by kernel_rfl) (fun V _ => by go_simp) ?_
    refine AnyS.pure 5 (some 33) (v := .agg (cellsOf old)) rfl rfl (by kernel_rfl) (by kernel_rfl) (by kernel_rfl) (fun _ _ _ h => h) (by kernel_rfl) (fun V hV => by exact exec_load 27 (.tmp 32) rfl (.pointer (some ⟨w.heap.size, 1, none⟩)) rfl (Has.load_root hV.2 HO.out)) ?_
    refine AnyS.call 6 (some 34) (.agg (cellsOf z)) rfl rfl (by kernel_rfl) (by kernel_rfl) (by kernel_rfl) (fun _ _ _ h => h) (by kernel_rfl) 36 Tryd.f36 Tryd.func36 (by kernel_rfl) (by kernel_rfl) _ _ rfl #[.string ⟨#[]⟩] (by first | (simp [Act.eval]; done) | (simp [Act.eval, Act.put]; done)) (fun V hV => C.out V hV) ?_
    simp only [Act.put, List.setIfInBounds_toArray, List.set_cons_zero, List.set_cons_succ]
    refine AnyS.pure 7 (some 35) (v := .bool (old == z)) rfl rfl (by kernel_rfl) (by kernel_rfl) (by kernel_rfl) (fun _ _ _ h => h) (by kernel_rfl) (fun V _ => by go_simp) ?_
    refine AnyS.pure 8 (some 36) (v := .bool (old == z)) rfl rfl (by kernel_rfl) (by kernel_rfl) (by kernel_rfl) (fun _ _ _ h => h) (by kernel_rfl) (fun V _ => by go_simp) ?_
    refine AnyS.pure 9 (some 6) rfl rfl (by kernel_rfl) (by kernel_rfl) (by kernel_rfl) (fun _ _ _ h => h) (by kernel_rfl) (fun _ _ => rfl) ?_
    refine AnyS.done (by kernel_rfl) (fun V hV => ?_) _
    have HV := Lib.hid hV
    clear hV B0 C
    go_wp2_with fail
    go_ret
    exact ⟨rfl, HV.out.1⟩
end Go.Proofs.YtiogjmlkogeibaaDoor.prf
