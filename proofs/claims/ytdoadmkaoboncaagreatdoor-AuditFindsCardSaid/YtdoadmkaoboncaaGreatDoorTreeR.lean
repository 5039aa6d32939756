/- tree: Forget. -/
import Derived.Test.YtdoadmkaoboncaaGreatDoorTreeK
namespace Go.Proofs.YtdoadmkaoboncaaGreatDoor.dig
open Go Go.RowKit

/-- The floor is another one. -/
theorem Raw.floor {F : Nat → Prop} {w : World} {b n fl K : Nat} {g c : Nat → Nat} {f : Nat → List UInt8} {rv : Value} {sv : Nat → Value} {idle : Nat → Nat} (h : Raw F w b n fl K g c f rv sv idle) (p : Nat) :
    Raw F (w.setCell ⟨b, 1, none⟩ (.int .i64 p)) b n p K g c f rv sv idle := by
  refine ⟨?_, Seg.far h.rows h.rv_b _, fun j hj => Seg.far (h.sums j hj) (h.sv_b hj) _, h.apart, h.fb, h.fr, h.fs, h.idle⟩
  have := h.tree.put 1 (.int .i64 p)
  simpa using this

/-- While rows forget: those below k have. -/
def mid (p fl k : Nat) : Nat → Nat := fun i => if i < k then gone p i else gone fl i
theorem mid_zero (p fl : Nat) : mid p fl 0 = gone fl := by
  funext i
  unfold mid
  rw [if_neg (by omega)]
theorem mid_next (p fl k : Nat) : upd (mid p fl k) k (gone p k) = mid p fl (k + 1) := by
  funext i
  unfold mid upd
  by_cases h : i = k
  · rw [if_pos h, if_pos (by omega), h]
  · rw [if_neg h]
    show (if i < k then gone p i else gone fl i) = _
    by_cases h2 : i < k
    · rw [if_pos h2, if_pos (by omega)]
    · rw [if_neg h2, if_neg (by omega)]
theorem mid_at (p fl k : Nat) : mid p fl k k = gone fl k := if_neg (by omega)

theorem Raw.gcongr {F : Nat → Prop} {w : World} {b n fl K : Nat} {g g' c : Nat → Nat} {f : Nat → List UInt8} {rv : Value} {sv : Nat → Value} {idle : Nat → Nat} (h : Raw F w b n fl K g c f rv sv idle) (e : ∀ i, i < K → g i = g' i) :
    Raw F w b n fl K g' c f rv sv idle :=
  ⟨h.tree, by
    rw [← flat_congr (g := rowC g sv idle) (h := rowC g' sv idle) (fun i _ hi => by unfold rowC; rw [e i (by omega)])]
    exact h.rows, fun j hj => by rw [← e j hj]; exact h.sums j hj, h.apart, h.fb, h.fr, h.fs, h.idle⟩

theorem shr_pow (p k : Nat) : (p : Int) / 2 ^ (k + 1) = ((p / 2 ^ (k + 1) : Nat) : Int) := by
  rw [Int.natCast_ediv, Int.natCast_pow]
  rfl

section
variable {B : Nat} {F : Nat → Prop} {b n fl : Nat} {f : Nat → List UInt8} {w : World}

set_option maxRecDepth 100000 in
set_option maxHeartbeats 2000000 in
theorem Tr.forget (hT : Tr B F w b n fl f) (p : Nat) (hp : fl ≤ p) (hn : p ≤ n) :
    Calls Tryz.prog 51 #[.pointer (some ⟨b, 0, none⟩), .int .i64 p] w fun en w' => en = .returned (.int .i64 0) ∧ Tr B (fun k => F k ∨ w.heap.size ≤ k) w' b n p f ∧ Turn F w w' := by
  obtain ⟨rv, sv, idle, h⟩ := hT.raw
  have e0 := h.tree.cell 0
  have e1 := h.tree.cell 1
  simp at e0 e1
  have hsm := hT.small
  have h1 : ¬ (p : Int) < 0 := by omega
  have h2 : ¬ (p : Int) > (n : Int) := by omega
  have h3 : ¬ (p : Int) < (fl : Int) := by omega
  have HT := Lib.hid hT
  have H := Lib.hid h
  have ht : tops n ≤ 32 := tops_small (by omega)
  have fz := h.tree.free
  obtain ⟨a0, c0, hrv, hc1, hc2⟩ := h.rows.slice
  subst hrv
  have hc3 : (c0 : Int) ≤ 9223372036854775807 := by unfold maxLen at hc2; omega
  have hk3 : (tops n : Int) ≤ (c0 : Int) := by omega
  have e2 : w.cell? ⟨b, 2, none⟩ = some (.slice a0 (tops n) c0) := h.tree.cell 2
  have W1 := h.floor p
  have T1 : Turn F w (w.setCell ⟨b, 1, none⟩ (.int .i64 p)) := (Turn.refl F w).put (fun _ => h.fb) 1 _
  have M := Lib.hid (show _ ∧ _ from ⟨W1, T1⟩)
  clear hT h W1 T1 hc1 hc2
  go_enter Tryz.func51, Tryz.ntmps51
  go_wp2_with fail
  generalize w.setCell ⟨b, 1, none⟩ (.int .i64 p) = W1 at M ⊢
  clear e0 e1 e2 fz
  have M0 : Hid ((∃ sv idle, Raw (fun x => F x ∨ w.heap.size ≤ x) W1 b n p (tops n) (mid p fl 0) (fun j => n / 2 ^ j) f (.slice a0 (tops n) c0) sv idle) ∧ Turn F w W1) :=
    Lib.hid ⟨⟨sv, idle, by rw [mid_zero]; exact M.out.1.more (fun _ _ h => .inl h)⟩, M.out.2⟩
  clear M
  go_loopw [31] (fun i wr => ∃ k : Nat, i = .int .i64 k ∧ k ≤ tops n ∧ Hid ((∃ sv idle, Raw (fun x => F x ∨ w.heap.size ≤ x) wr b n p (tops n) (mid p fl k) (fun j => n / 2 ^ j) f (.slice a0 (tops n) c0) sv idle) ∧ Turn F w wr)) (fun i _ => tops n - (intOf i).toNat)
  case atStart => exact ⟨0, rfl, Nat.zero_le _, M0⟩
  case round =>
    obtain ⟨k, rfl, hk, HS⟩ := hrel
    clear M0
    by_cases hkt : k < tops n
    · have hk1 : (k : Int) < (tops n : Int) := by omega
      have hk0 : (0 : Int) ≤ (k : Int) := by omega
      obtain ⟨sv, idle, r⟩ := HS.out.1
      obtain ⟨R, o, C, hrv, hRl, _, _, _⟩ := r.rows.cells (by omega)
      simp only [Value.slice.injEq] at hrv
      obtain ⟨rfl, _, rfl⟩ := hrv
      have f2 : wr.cell? ⟨b, 2, none⟩ = some (.slice (some ⟨R, o, none⟩) (tops n) c0) := r.tree.cell 2
      have hgd : gone fl k ≤ gone p k := gone_mono k hp
      have hgn : gone p k ≤ n / 2 ^ k := gone_le k hn
      have hnk : n / 2 ^ k ≤ 1000000 := Nat.le_trans (Nat.div_le_self _ _) hsm
      have hc := Raw.forget r.drew hkt (G := gone p k) (by rw [mid_at]; exact hgd) hgn hnk HT.out.len
      have HC := Lib.hid hc
      obtain ⟨k1, hk1'⟩ : ∃ k1, k1 = k + 1 := ⟨_, rfl⟩
      have i0 : IntKind.i64.wrap (k1 : Int) = (k1 : Int) := IntWalk.i64_in _ ⟨by omega, by omega⟩
      have i00 : (k : Int) + 1 = (k1 : Int) := by omega
      have i1 : (0 : Int) ≤ (k1 : Int) := by omega
      have i2 : min k1 64 = k1 := by omega
      obtain ⟨q, hq⟩ : ∃ q, q = p / 2 ^ k1 := ⟨_, rfl⟩
      have i3 : (p : Int) / 2 ^ k1 = (q : Int) := by rw [hq, Int.natCast_ediv]; simp
      have hqp : q ≤ p := by rw [hq]; exact Nat.div_le_self _ _
      have i4 : IntKind.i64.wrap (gone p k : Int) = (gone p k : Int) := IntWalk.i64_in _ ⟨by omega, by omega⟩
      have i5 : 2 * (q : Int) = (gone p k : Int) := by
        unfold gone
        rw [← hk1', ← hq]
        rfl
      have HK := Lib.hid (show _ ∧ _ from ⟨hk1', hq⟩)
      clear hc hgd hgn hnk r hk1' hq
      go_wp2_with fail
      go_region_law (refine step_call rfl 78 Tryz.f78 Tryz.func78 (by kernel_rfl) (by kernel_rfl) _ _ rfl #[.pointer (some ⟨R, o + k * 3, none⟩), .int .i64 (gone p k)] (by first | (simp [Act.eval]; done) | (simp [Act.eval, Act.put]; done)) (by exact HC.out) ?_
                     rintro en w4 ⟨rfl, h4, t4⟩
                     refine ⟨_, rfl, ?_⟩)
      have N : Hid ((∃ sv idle, Raw (fun x => F x ∨ w.heap.size ≤ x) w4 b n p (tops n) (mid p fl (k + 1)) (fun j => n / 2 ^ j) f (.slice (some ⟨R, o, none⟩) (tops n) c0) sv idle) ∧ Turn F w w4) := Lib.hid ⟨by
        obtain ⟨sv, idle, r⟩ := h4
        rw [mid_next] at r
        exact ⟨sv, idle, r.more (fun j _ h => by
          rcases h with h | h
          · exact h
          · have := HS.out.2.size; exact .inr (Nat.le_trans this h))⟩, HS.out.2.drew.trans t4 (fun j h1 h2 => by
          rcases h2 with h2 | h2
          · exact h2
          · omega)⟩
      clear h4 t4 HC HS f2 i00 i0 i1 i2 i3 i4 i5
      go_wp2_with fail
      refine ⟨⟨k + 1, by rw [Int.natCast_add]; rfl, by omega, N⟩, ?_⟩
      show tops n - ((k : Int) + 1).toNat < tops n - ((k : Int)).toNat
      omega
    · obtain rfl : k = tops n := by omega
      go_wp2_with fail
      go_ret
      obtain ⟨⟨sv, idle, r⟩, t⟩ := HS.out
      exact ⟨rfl, ⟨⟨_, sv, idle, r.gcongr (fun i hi => by unfold mid; rw [if_pos hi])⟩, HT.out.rt.turn t HT.out.hF, fun k hk => by
        rcases hk with hk | hk
        · exact HT.out.hF k hk
        · have := HT.out.rt.size; omega, HT.out.len, HT.out.small, hn⟩, t⟩

set_option maxRecDepth 100000 in
set_option maxHeartbeats 1000000 in
theorem Tr.forget_arg (hT : Tr B F w b n fl f) (x : Int) (hx : x < 0 ∨ x > n) (hx6 : -9223372036854775808 ≤ x ∧ x ≤ 9223372036854775807) :
    Calls Tryz.prog 51 #[.pointer (some ⟨b, 0, none⟩), .int .i64 x] w fun en w' => en = .returned (.int .i64 4) ∧ w = w' := by
  obtain ⟨rv, hh⟩ := hT.head
  have e0 := hh.cell 0
  have e1 := hh.cell 1
  simp at e0 e1
  have hx1 := hx6.1
  have hx2 := hx6.2
  clear hT hh hx6
  by_cases h1 : x < 0
  · clear hx
    go_enter Tryz.func51, Tryz.ntmps51
    go_wp2_with fail
    go_ret
    exact ⟨rfl, rfl⟩
  · have h2 : x > (n : Int) := by omega
    clear hx
    go_enter Tryz.func51, Tryz.ntmps51
    go_wp2_with fail
    go_ret
    exact ⟨rfl, rfl⟩

set_option maxRecDepth 100000 in
set_option maxHeartbeats 1000000 in
theorem Tr.forget_low (hT : Tr B F w b n fl f) (p : Nat) (hp : p < fl) :
    Calls Tryz.prog 51 #[.pointer (some ⟨b, 0, none⟩), .int .i64 p] w fun en w' => en = .returned (.int .i64 14) ∧ w = w' := by
  obtain ⟨rv, hh⟩ := hT.head
  have e0 := hh.cell 0
  have e1 := hh.cell 1
  simp at e0 e1
  have hfl := hT.floor
  have h1 : ¬ (p : Int) < 0 := by omega
  have h2 : ¬ (p : Int) > (n : Int) := by omega
  have h3 : (p : Int) < (fl : Int) := by omega
  clear hT hh
  go_enter Tryz.func51, Tryz.ntmps51
  go_wp2_with fail
  go_ret
  exact ⟨rfl, rfl⟩
end
end Go.Proofs.YtdoadmkaoboncaaGreatDoor.dig
