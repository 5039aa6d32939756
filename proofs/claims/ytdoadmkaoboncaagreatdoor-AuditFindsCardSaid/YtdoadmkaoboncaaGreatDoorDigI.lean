/- digest: Node, Hex. -/
import Derived.Test.YtdoadmkaoboncaaGreatDoorDigH
namespace Go.Proofs.YtdoadmkaoboncaaGreatDoor.dig
open Go Go.RowKit

theorem run_str_arr {P : Program} (src dst e : TypeId) (hs : P.underlying src = some (.slice e)) (he : P.underlying e = some (.int .u8)) (hd : P.underlying dst = some .string) (g : Nat) (t : TypeId) (xs : List UInt8) (c : Nat) (w : World) (h : Has w g t (cellsOf xs)) :
    (convert src dst (.slice (some ⟨g, 0, none⟩) xs.length c)).run P w = .ok (.string ⟨xs.toArray⟩) w := by
  refine run_convert_bytes_back w src dst e ⟨g, 0, none⟩ c xs hs he hd (fun j hj => ?_)
  rw [Addr.add_mid, Nat.zero_add, h.cell]
  simp [cellsOf, hj, byteV]

set_option maxRecDepth 100000 in
set_option maxHeartbeats 1000000 in
theorem node_calls (a b : List UInt8) (w : World) (hR : Rk w) (ha : a.length = 32) (hb : b.length = 32) :
    Calls Tryz.prog 88 #[.agg (cellsOf a), .agg (cellsOf b)] w fun en w' => en = .returned (.agg (cellsOf (nodeS a b))) ∧ Below w.heap.size w w' := by
  have HR0 := Lib.hid hR
  have HA := Lib.hid ha
  have HB := Lib.hid hb
  clear hR ha hb
  have hcat : Hid (cat [⟨#[1]⟩, ⟨a.toArray⟩, ⟨b.toArray⟩] = 1 :: (a ++ b)) := by show _ = _; simp [cat]
  go_enter Tryz.func88, Tryz.ntmps88
  go_wp2_with fail
  go_name_world W hW
  have B0 : Below w.heap.size w W := by rw [← hW]; exact (((Below.refl _ _).alloc (Nat.le_refl _) _).alloc (by simp) _).alloc (by simp; omega) _
  have PA : Has W w.heap.size 38 (cellsOf a) := by rw [← hW]; exact Has.alloc (Has.alloc (made_at _ _ rfl) _) _
  have PB : Has W (w.heap.size + 1) 38 (cellsOf b) := by rw [← hW]; exact Has.alloc (made_at _ _ (by simp)) _
  have Z0 : Has W (w.heap.size + 1 + 1) 38 (cellsOf (List.replicate 32 0)) := by rw [← hW]; exact made_at _ _ (by simp)
  clear hW
  obtain ⟨V, hV⟩ : ∃ V, V = W.drew := ⟨_, rfl⟩
  refine still_tail_at V hV 4 (by kernel_rfl) (by kernel_rfl) ?_
  have BV : Hid (Below w.heap.size w V ∧ Has V (w.heap.size + 1 + 1) 38 (cellsOf (List.replicate 32 0))) := by rw [hV]; exact Lib.hid ⟨B0.drew, Z0⟩
  have hPA : Has V w.heap.size 38 (cellsOf a) := by rw [hV]; exact PA
  have hPB : Has V (w.heap.size + 1) 38 (cellsOf b) := by rw [hV]; exact PB
  have ca := run_str_arr (P := Tryz.prog) 51 9 5 Tryz.underlying51 Tryz.underlying5 Tryz.underlying9 _ _ a 32 V hPA
  have cb := run_str_arr (P := Tryz.prog) 51 9 5 Tryz.underlying51 Tryz.underlying5 Tryz.underlying9 _ _ b 32 V hPB
  rw [HA.out] at ca
  rw [HB.out] at cb
  have hul := Tryz.underlying38
  clear hV PA PB B0 Z0 hPA hPB
  simp only [List.take_succ_cons, List.take_zero, List.drop_succ_cons, List.drop_zero]
  repeat still_step
  refine wpStill_nil ?_
  clear ca cb hul
  go_wp2_with fail
  refine callsName (fun W2 hW2 => ?_)
  have hvs : w.heap.size + 1 + 1 < V.heap.size := BV.out.2.lt
  have B2 : Below w.heap.size w W2 := by rw [← hW2]; exact BV.out.1.alloc BV.out.1.size _
  have Z2 : Has W2 (w.heap.size + 1 + 1) 38 (cellsOf (List.replicate 32 0)) := by rw [← hW2]; exact BV.out.2.alloc _
  have P2 : Has W2 V.heap.size 9 #[.string ⟨#[1]⟩, .string ⟨a.toArray⟩, .string ⟨b.toArray⟩] := by rw [← hW2]; exact made_at _ _ rfl
  clear hW2
  refine (sumOf_calls V.heap.size 3 3 [⟨#[1]⟩, ⟨a.toArray⟩, ⟨b.toArray⟩] W2 (fun i t ht => ?_) P2.lt rfl (by omega) (HR0.out.below B2) (by rw [hcat.out]; simp [HA.out, HB.out])).mono ?_
  · rw [P2.cell]
    rcases i with _ | _ | _ | i
    · simp at ht; subst ht; rfl
    · simp at ht; subst ht; rfl
    · simp at ht; subst ht; rfl
    · simp at ht
  rw [hcat.out]
  rintro en w5 ⟨rfl, b5⟩
  have S5 : Hid (Has w5 (w.heap.size + 1 + 1) 38 (cellsOf (List.replicate 32 0)) ∧ Below w.heap.size w w5) :=
    Lib.hid ⟨Z2.below b5 Z2.lt, B2.trans (b5.mono B2.size)⟩
  clear b5 B2 Z2 P2 hcat hvs BV
  have HG : Hid (w.heap.size ≤ w.heap.size + 1 + 1) := Lib.hid (by omega)
  generalize w.heap.size + 1 + 1 = g at *
  go_wp2_with (first
    | (refine wpList_store_arr (o := ⟨none, _, _, _, _, _⟩) rfl 38 _ _ rfl g (sum (1 :: (a ++ b))) (List.replicate 32 0) rfl rfl _ S5.out.1 32 (by kernel_rfl) (by simp) (sum_length _) ?_; intro W6 HW6 TW6)
    | fail)
  exact bodyPost_ret (v := .agg (cellsOf (nodeS a b))) (results_cell_row rfl _ _ g 38 _ _ _ rfl HW6 Tryz.underlying38 rfl (by rw [cellsOf_size, nodeS_length]; kernel_rfl)) rfl
    ⟨rfl, S5.out.2.trans (TW6.below S5.out.2.size (fun j hj e => by have := HG.out; omega))⟩
theorem run_index_strb {P : Program} (t : TypeId) (s : ByteArray) (k : IntKind) (v : Nat) (b : UInt8) (hu : P.underlying t = some .string) (hv : s[v]? = some b) (w : World) : (Instr.index t (.string s) (.int k v)).run P w = .ok (byteV b) w := by
  have h0 : (0 : Int) ≤ (v : Int) := by omega
  simp [Instr.index, asIntOf, run_underlying hu, hv, byteV]
end Go.Proofs.YtdoadmkaoboncaaGreatDoor.dig
