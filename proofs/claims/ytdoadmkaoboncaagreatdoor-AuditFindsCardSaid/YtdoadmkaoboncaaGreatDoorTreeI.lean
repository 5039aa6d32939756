/- tree: New, Len, Floor, Append. -/
import Derived.Test.YtdoadmkaoboncaaGreatDoorTreeH
namespace Go.Proofs.YtdoadmkaoboncaaGreatDoor.dig
open Go Go.RowKit

set_option maxRecDepth 100000 in
set_option maxHeartbeats 1000000 in
theorem tnew_calls (B : Nat) (f : Nat → List UInt8) (w : World) (hR : Rt B w) (hf : ∀ i, (f i).length = 32) :
    Calls Tryz.prog 47 #[] w fun en w' => ∃ b, en = .returned (.pointer (some ⟨b, 0, none⟩)) ∧ w.heap.size ≤ b ∧ Tr B (fun k => k = b) w' b 0 0 f ∧ Below w.heap.size w w' := by
  have HR := Lib.hid hR
  have HF := Lib.hid hf
  clear hR hf
  go_enter Tryz.func47, Tryz.ntmps47
  go_wp2_with fail
  go_ret
  have B0 : Below w.heap.size w (w.alloc (.cells #[.int .i64 0, .int .i64 0, .slice none 0 0] 123)) := (Below.refl _ _).alloc (Nat.le_refl _) _
  refine ⟨w.heap.size, rfl, Nat.le_refl _, ⟨⟨.slice none 0 0, fun _ => .slice none 0 0, fun _ => 0, ⟨made_at _ _ rfl, Seg.nil _ _ _, ?_, ?_, rfl, ?_, ?_, ?_⟩⟩, HR.out.below B0 HR.out.size, ?_, HF.out, by omega, by omega⟩, B0⟩
  · intro j hj; simp [tops] at hj
  · intro i j hi; simp [tops] at hi
  · intro x hx; cases hx
  · intro j hj; simp [tops] at hj
  · intro j hj; simp [tops] at hj
  · intro k hk; rw [hk]; exact HR.out.size

section
variable {B : Nat} {F : Nat → Prop} {b n fl : Nat} {f : Nat → List UInt8} {w : World}

set_option maxHeartbeats 400000 in
theorem Tr.len_calls (hT : Tr B F w b n fl f) : Calls Tryz.prog 81 #[.pointer (some ⟨b, 0, none⟩)] w fun en w' => en = .returned (.int .i64 n) ∧ w = w' := by
  obtain ⟨rv, hh⟩ := hT.head
  have e0 := hh.cell 0
  simp at e0
  clear hT hh
  go_enter Tryz.func81, Tryz.ntmps81
  go_wp2_with fail
  go_ret
  exact ⟨rfl, rfl⟩

set_option maxHeartbeats 400000 in
theorem Tr.floor_calls (hT : Tr B F w b n fl f) : Calls Tryz.prog 77 #[.pointer (some ⟨b, 0, none⟩)] w fun en w' => en = .returned (.int .i64 fl) ∧ w = w' := by
  obtain ⟨rv, hh⟩ := hT.head
  have e0 := hh.cell 1
  simp at e0
  clear hT hh
  go_enter Tryz.func77, Tryz.ntmps77
  go_wp2_with fail
  go_ret
  exact ⟨rfl, rfl⟩
end

/-- Texts that lie in a slice; none of them is long. -/
def Strs (w : World) (v : Value) (L : List ByteArray) : Prop := Seg w 9 1 v L.length (L.map Value.string) ∧ ∀ s ∈ L, s.size ≤ 1000000

set_option maxRecDepth 100000 in
set_option maxHeartbeats 2000000 in
theorem Tr.append_calls {B : Nat} {F : Nat → Prop} {b n fl : Nat} {f : Nat → List UInt8} {w : World} (hT : Tr B F w b n fl f) (a : Option Addr) (c : Nat) (L : List ByteArray) (hL : Strs w (.slice a L.length c) L)
    (hv : ∀ x, (Value.slice a L.length c).ownBlock = some x → ¬ F x) (hf : ∀ i s, L[i]? = some s → f (n + i) = leafS s.data.toList) (hn : n + L.length < 1000000) :
    Calls Tryz.prog 48 #[.pointer (some ⟨b, 0, none⟩), .slice a L.length c] w fun en w' => en = .returned (.tuple #[]) ∧ Tr B (fun k => F k ∨ w.heap.size ≤ k) w' b (n + L.length) fl f ∧ Turn F w w' := by
  have T0 : Hid (Tr B (fun k => F k ∨ w.heap.size ≤ k) w b (n + 0) fl f ∧ Turn F w w) := Lib.hid ⟨hT.more (fun _ _ h => .inl h) (fun k h => by
    rcases h with h | h
    · exact hT.hF k h
    · have := hT.rt.size; omega), Turn.refl _ _⟩
  obtain ⟨m, hm⟩ : ∃ m, m = L.length := ⟨_, rfl⟩
  obtain ⟨a', c', e, hc1, hc2⟩ := hL.1.slice
  obtain ⟨rfl, rfl⟩ : a = a' ∧ c = c' := by simpa using e
  clear e
  have hc3 : (c : Int) ≤ 9223372036854775807 := by unfold maxLen at hc2; omega
  have HL := Lib.hid hL
  have HV := Lib.hid hv
  have HF := Lib.hid hf
  have HM := Lib.hid hm
  rw [← hm] at hc1 hn ⊢
  have hmc : (m : Int) ≤ (c : Int) := by omega
  clear hL hv hf hm hc2 hT
  go_enter Tryz.func48, Tryz.ntmps48
  go_wp2_with fail
  go_loopw [8] (fun i wr => ∃ k : Nat, i = .int .i64 k ∧ k ≤ m ∧ Hid (Tr B (fun j => F j ∨ w.heap.size ≤ j) wr b (n + k) fl f ∧ Turn F w wr)) (fun i _ => m - (intOf i).toNat)
  case atStart => exact ⟨0, rfl, Nat.zero_le _, T0⟩
  case round =>
    obtain ⟨k, rfl, hk, HS⟩ := hrel
    clear T0
    by_cases hkm : k < m
    · have hk1 : (k : Int) < (m : Int) := by omega
      have hk0 : (0 : Int) ≤ (k : Int) := by omega
      obtain ⟨s, hs⟩ : ∃ s, L[k]? = some s := ⟨_, List.getElem?_eq_getElem (by rw [← HM.out]; exact hkm)⟩
      obtain ⟨R, o, C, hrv, hRl, _, _, hcc⟩ := HL.out.1.cells (by rw [← HM.out]; omega)
      simp only [Value.slice.injEq] at hrv
      obtain ⟨rfl, _, rfl⟩ := hrv
      have k0 : wr.cell? ⟨R, o + k, none⟩ = some (.string s) := by
        have h1 := hcc k (.string s) (by rw [List.getElem?_map, hs]; rfl)
        rw [← h1]
        unfold World.cell?
        rw [HS.out.2.block R hRl (HV.out R rfl)]
      have hsz : s.size ≤ 1000000 := HL.out.2 s (List.mem_of_getElem? hs)
      have HX : Hid (leafS s.data.toList = f (n + k)) := Lib.hid (HF.out k s hs).symm
      clear hcc hs
      go_wp2_with fail
      refine (leaf_calls s wr HS.out.1.rt.rk (by omega)).mono ?_
      rw [HX.out]
      rintro en w2 ⟨rfl, b2⟩
      have S2 : Hid (Tr B (fun j => F j ∨ w.heap.size ≤ j) w2 b (n + k) fl f ∧ Turn F w w2) := Lib.hid ⟨HS.out.1.below b2, HS.out.2.trans (Turn.of_below (F := fun j => wr.heap.size ≤ j) b2 (fun _ _ h => h)) (fun j h1 h2 => by have := HS.out.2.size; omega)⟩
      clear b2 HS k0 HX
      go_wp2_with fail
      refine (add_leaf_calls B _ b (n + k) fl f w2 S2.out.1 (by omega)).mono ?_
      rintro en w3 ⟨rfl, t3, u3⟩
      have S3 : Hid (Tr B (fun j => F j ∨ w.heap.size ≤ j) w3 b (n + (k + 1)) fl f ∧ Turn F w w3) := Lib.hid ⟨t3.more (fun j _ h => by
        rcases h with h | h
        · exact h
        · have := S2.out.2.size; exact .inr (by omega)) S2.out.1.hF, S2.out.2.trans u3 (fun j h1 h2 => by
        rcases h2 with h2 | h2
        · exact h2
        · omega)⟩
      clear t3 u3 S2
      go_wp2_with fail
      refine ⟨⟨k + 1, by rw [Int.natCast_add]; rfl, by omega, S3⟩, ?_⟩
      show m - ((k : Int) + 1).toNat < m - ((k : Int)).toNat
      omega
    · obtain rfl : k = m := by omega
      go_wp2_with fail
      go_end0
      exact ⟨rfl, HS.out.1, HS.out.2⟩
end Go.Proofs.YtdoadmkaoboncaaGreatDoor.dig
