/- tree: add. -/
import Derived.Test.YtcdedkgkingbdaaGreatDoorQ007
import Derived.Test.YtcdedkgkingbdaaGreatDoorQ010
namespace Go.Proofs.YtcdedkgkingbdaaGreatDoor.dig
open Go Go.RowKit

theorem rowInfo : ∃ i z, Tryz.prog.info? 218 = some i ∧ i.zero = some z ∧ i.size = 3 ∧ z.cells.size = 3 ∧ i.bytes = 40 := by
  have h2 : (Tryz.prog.info? 218).map (fun i => (i.zero.map (fun z => z.cells.size), i.size, i.bytes)) = some (some 3, 3, 40) := by kernel_rfl
  obtain ⟨i, hi, e⟩ := Option.map_eq_some_iff.1 h2
  simp only [Prod.mk.injEq] at e
  obtain ⟨e1, e2, e3⟩ := e
  obtain ⟨z, hz, e4⟩ := Option.map_eq_some_iff.1 e1
  exact ⟨i, z, hi, hz, e2, e4, e3⟩

/-- How many sums a row has had, while a leaf is added: row j is next. -/
def cnt (n j i : Nat) : Nat := if i < j then (n + 1) / 2 ^ i else n / 2 ^ i

/-- While a leaf is added: row j is next, its sum lies at xb. -/
structure AddS (B : Nat) (F : Nat → Prop) (w : World) (b n fl : Nat) (f : Nat → List UInt8) (xb j : Nat) (wr : World) : Prop where
  raw : ∃ rv sv idle, Raw (fun k => (F k ∧ k < w.heap.size) ∨ (w.heap.size ≤ k ∧ k ≠ xb)) wr b (n + 1) fl (tops n) (gone fl) (cnt n j) f rv sv idle
  div : 2 ^ j ∣ n + 1
  box : Has wr xb 84 (cellsOf (rt f (n + 1 - 2 ^ j) (2 ^ j)))
  new : w.heap.size ≤ xb
  rt : Rt B wr
  turn : Turn F w wr

/-- The same, once row j is there. -/
structure AddM (B : Nat) (F : Nat → Prop) (w : World) (b n fl : Nat) (f : Nat → List UInt8) (xb j K : Nat) (rv : Value) (sv : Nat → Value) (idle : Nat → Nat) (wr : World) : Prop where
  raw : Raw (fun k => (F k ∧ k < w.heap.size) ∨ (w.heap.size ≤ k ∧ k ≠ xb)) wr b (n + 1) fl K (gone fl) (cnt n j) f rv sv idle
  div : 2 ^ j ∣ n + 1
  box : Has wr xb 84 (cellsOf (rt f (n + 1 - 2 ^ j) (2 ^ j)))
  new : w.heap.size ≤ xb
  rt : Rt B wr
  turn : Turn F w wr
  hj : j < K
  hK : K = max (tops n) (j + 1)

/-- The same, once the sum is in its row. -/
structure AddP (B : Nat) (F : Nat → Prop) (w : World) (b n fl : Nat) (f : Nat → List UInt8) (xb j K : Nat) (rv : Value) (sv : Nat → Value) (idle : Nat → Nat) (wr : World) : Prop where
  raw : Raw (fun k => (F k ∧ k < w.heap.size) ∨ (w.heap.size ≤ k ∧ k ≠ xb)) wr b (n + 1) fl K (gone fl) (cnt n (j + 1)) f rv sv idle
  div : 2 ^ j ∣ n + 1
  box : Has wr xb 84 (cellsOf (rt f (n + 1 - 2 ^ j) (2 ^ j)))
  new : w.heap.size ≤ xb
  rt : Rt B wr
  turn : Turn F w wr
  hj : j < K
  hK : K = max (tops n) (j + 1)

theorem turn_own {w W W2 : World} {v : Value} {H : Nat} (b : Below H w W) (hH : w.heap.size ≤ H) (g : W.grownBy W2 v.ownBlock) : Turn (fun k => v.ownBlock = some k) w W2 :=
  ⟨g.os.trans b.os, g.tape.trans b.tape, g.output.trans b.output, Nat.le_trans b.size g.size, fun k hk hne => (g.block k (by have := b.size; omega) (fun e => hne e.symm)).trans (b.block k (by omega))⟩

theorem cnt_next {n j : Nat} (h : 2 ^ j ∣ n + 1) : (fun i => if i = j then cnt n j j + 1 else cnt n j i) = cnt n (j + 1) := by
  funext i
  unfold cnt
  by_cases h1 : i = j
  · subst h1
    rw [if_pos rfl, if_neg (Nat.lt_irrefl _), if_pos (Nat.lt_succ_self _), add_div h]
  · rw [if_neg h1]
    by_cases h2 : i < j
    · rw [if_pos h2, if_pos (by omega)]
    · rw [if_neg h2, if_neg (by omega)]

section
variable {B : Nat} {F : Nat → Prop} {w : World} {b n fl : Nat} {f : Nat → List UInt8} {xb j K : Nat} {wr W : World}

/-- Behind the last row that grows. -/
theorem AddP.last {rv : Value} {sv : Nat → Value} {idle : Nat → Nat} (h : AddP B F w b n fl f xb j K rv sv idle wr) (hT : Tr B F w b n fl f) (hn : n < 1000000) (he : n / 2 ^ j % 2 = 0) : Tr B (fun k => F k ∨ w.heap.size ≤ k) wr b (n + 1) fl f := by
  have hK : K = tops (n + 1) := by
    rw [h.hK]
    rcases Nat.lt_or_ge j (tops n) with h1 | h1
    · rw [tops_same h.div he h1]; omega
    · have h2 := add_tops h.div
      obtain rfl : j = tops n := by omega
      rw [add_top h.div, tops_pow]; omega
  have hc : cnt n (j + 1) = fun i => (n + 1) / 2 ^ i := by
    funext i
    unfold cnt
    by_cases h1 : i < j + 1
    · rw [if_pos h1]
    · rw [if_neg h1, add_rest h.div he (by omega)]
  have r := h.raw
  rw [hK, hc] at r
  refine ⟨⟨rv, sv, idle, r.more (fun k _ hk => hk.imp (·.1) (·.1))⟩, h.rt, fun k hk => ?_, hT.len, by omega, by have := hT.floor; omega⟩
  rcases hk with hk | hk
  · exact hT.hF k hk
  · have := hT.rt.size; omega
theorem fx_ge (hT : Tr B F w b n fl f) {k : Nat} (h : (F k ∧ k < w.heap.size) ∨ (w.heap.size ≤ k ∧ k ≠ xb)) : B ≤ k := by
  rcases h with h | h
  · exact hT.hF k h.1
  · have := hT.rt.size; omega
theorem fx_turn {G : Nat → Prop} (t : Turn F w wr) (TT : Turn G wr W) (hG : ∀ k, G k → (F k ∧ k < w.heap.size) ∨ (w.heap.size ≤ k ∧ k ≠ xb)) : Turn F w W :=
  t.trans TT (fun k hk g => by
    rcases hG k g with h | h
    · exact h.1
    · omega)
theorem fx_rt {G : Nat → Prop} (hT : Tr B F w b n fl f) (t : Rt B wr) (TT : Turn G wr W) (hG : ∀ k, G k → (F k ∧ k < w.heap.size) ∨ (w.heap.size ≤ k ∧ k ≠ xb)) : Rt B W :=
  t.turn TT (fun k g => fx_ge hT (hG k g))
theorem fx_more (h : w.heap.size ≤ wr.heap.size) (hx : xb < wr.heap.size) (k : Nat) (hk : ((F k ∧ k < w.heap.size) ∨ (w.heap.size ≤ k ∧ k ≠ xb)) ∨ wr.heap.size ≤ k) : (F k ∧ k < w.heap.size) ∨ (w.heap.size ≤ k ∧ k ≠ xb) := by
  rcases hk with hk | hk
  · exact hk
  · exact .inr ⟨by omega, by omega⟩

/-- A row was added. -/
theorem AddS.grow {a0 : Option Addr} {c0 R o C : Nat} {sv : Nat → Value} {idle : Nat → Nat} (h : AddS B F w b n fl f xb j wr) (hT : Tr B F w b n fl f) (hj : j = tops n) (hg : gone fl j = 0) (hc : cnt n j j = 0)
    (r : Raw (fun k => (F k ∧ k < w.heap.size) ∨ (w.heap.size ≤ k ∧ k ≠ xb)) wr b (n + 1) fl j (gone fl) (cnt n j) f (.slice a0 j c0) sv idle)
    (T : Turn (fun k => (Value.slice a0 j c0).ownBlock = some k) wr W) (hown : Seg W 218 3 (.slice (some ⟨R, o, none⟩) (j + 1) C) (j + 1) (flat (rowC (gone fl) sv idle) 0 j ++ [.int .i64 0, .slice none 0 0, .int .i64 0]))
    (hat : (Value.slice a0 j c0).ownBlock = some R ∨ wr.heap.size ≤ R) :
    ∃ K sv idle, Hid (AddM B F w b n fl f xb j K (.slice (some ⟨R, o, none⟩) K C) sv idle (W.setCell ⟨b, 2, none⟩ (.slice (some ⟨R, o, none⟩) (j + 1) C))) := by
  have hbx : b ≠ xb := fun e => ne_types.2.1 ((r.tree.uniq (e ▸ h.box)).2)
  have hrx : (Value.slice a0 j c0).ownBlock ≠ some xb := r.rows.ne h.box ne_types.2.2
  have TT : Turn (fun k => k = b ∨ (Value.slice a0 j c0).ownBlock = some k) wr (W.setCell ⟨b, 2, none⟩ (.slice (some ⟨R, o, none⟩) (j + 1) C)) :=
    (T.more (fun _ _ e => .inr e)).put (fun _ => .inl rfl) 2 _
  have hG : ∀ k, (k = b ∨ (Value.slice a0 j c0).ownBlock = some k) → (F k ∧ k < w.heap.size) ∨ (w.heap.size ≤ k ∧ k ≠ xb) := fun k hk => by
    rcases hk with hk | hk
    · rw [hk]; exact r.fb
    · exact r.fr k hk
  exact ⟨j + 1, _, _, Lib.hid ⟨(r.grow T hown hat hg hc).more (fun k _ hk => fx_more h.turn.size h.box.lt k hk), h.div, h.box.turn TT (fun e => by
    rcases e with e | e
    · exact hbx e.symm
    · exact hrx e), h.new, fx_rt hT h.rt TT hG, fx_turn h.turn TT hG, by omega, by omega⟩⟩

/-- A sum was put to its row. -/
theorem AddM.push {R o cap : Nat} {sv : Nat → Value} {idle : Nat → Nat} (h : AddM B F w b n fl f xb j K (.slice (some ⟨R, o, none⟩) K cap) sv idle wr) (hT : Tr B F w b n fl f) (T : Turn (fun k => (sv j).ownBlock = some k) wr W)
    {g' off' cap' : Nat} (hown : Seg W 84 32 (.slice (some ⟨g', off', none⟩) (cnt n j j - gone fl j + 1) cap') (cnt n j j - gone fl j + 1) (flat (nodeC f j) (gone fl j) (cnt n j j - gone fl j) ++ (dig.rt f (n + 1 - 2 ^ j) (2 ^ j)).map byteV))
    (hat : (sv j).ownBlock = some g' ∨ wr.heap.size ≤ g') :
    ∃ sv idle, Hid (AddP B F w b n fl f xb j K (.slice (some ⟨R, o, none⟩) K cap) sv idle (W.setCell ⟨R, o + (j * 3 + 1), none⟩ (.slice (some ⟨g', off', none⟩) (cnt n j j - gone fl j + 1) cap'))) := by
  have hcn : cnt n j j = n / 2 ^ j := by unfold cnt; rw [if_neg (Nat.lt_irrefl _)]
  have hx : nodeC f j (cnt n j j) = (dig.rt f (n + 1 - 2 ^ j) (2 ^ j)).map byteV := by
    unfold nodeC
    rw [hcn, add_place h.div]
    simp [cellsOf]
  have hg : gone fl j ≤ cnt n j j := by rw [hcn]; exact gone_le j hT.floor
  have hR : (Value.slice (some ⟨R, o, none⟩) K cap).ownBlock = some R := rfl
  have hRx : R ≠ xb := fun e => h.raw.rows.ne h.box ne_types.2.2 (by rw [hR, e])
  have hsx : (sv j).ownBlock ≠ some xb := fun e => by
    have := h.raw.fs j h.hj xb e
    rcases this with h1 | h1
    · have := h.new; omega
    · exact h1.2 rfl
  have TT : Turn (fun k => k = R ∨ (sv j).ownBlock = some k) wr (W.setCell ⟨R, o + (j * 3 + 1), none⟩ (.slice (some ⟨g', off', none⟩) (cnt n j j - gone fl j + 1) cap')) :=
    (T.more (fun _ _ e => .inr e)).put (fun _ => .inl rfl) _ _
  have hG : ∀ k, (k = R ∨ (sv j).ownBlock = some k) → (F k ∧ k < w.heap.size) ∨ (w.heap.size ≤ k ∧ k ≠ xb) := fun k hk => by
    rcases hk with hk | hk
    · rw [hk]; exact h.raw.fr R hR
    · exact h.raw.fs j h.hj k hk
  have r := h.raw.push rfl h.hj T hown hat hg hx
  rw [cnt_next h.div] at r
  exact ⟨_, _, Lib.hid ⟨r.more (fun k _ hk => fx_more h.turn.size h.box.lt k hk), h.div, h.box.turn TT (fun e => by
    rcases e with e | e
    · exact hRx e.symm
    · exact hsx e), h.new, fx_rt hT h.rt TT hG, fx_turn h.turn TT hG, h.hj, h.hK⟩⟩

/-- Another row is next. -/
theorem AddP.next {rv : Value} {sv : Nat → Value} {idle : Nat → Nat} (h : AddP B F w b n fl f xb j K rv sv idle wr) (hT : Tr B F w b n fl f) (ho : n / 2 ^ j % 2 = 1) (T : Turn (fun k => k = xb) wr W) (hb : Has W xb 84 (cellsOf (dig.rt f (n + 1 - 2 ^ (j + 1)) (2 ^ (j + 1))))) : AddS B F w b n fl f xb (j + 1) W := by
  have hj : j < tops n := by
    rcases Nat.lt_or_ge j (tops n) with h1 | h1
    · exact h1
    · rw [div_zero h1] at ho; omega
  have hK : K = tops n := by rw [h.hK]; omega
  have r := h.raw
  rw [hK] at r
  refine ⟨⟨rv, sv, idle, r.turn T (fun k hk hl e => ?_)⟩, add_next h.div ho, hb, h.new, h.rt.turn T (fun k e => ?_), h.turn.trans T (fun k hk e => ?_)⟩
  · rcases hk with hk | hk
    · have := h.new; omega
    · exact hk.2 e
  · have := hT.rt.size; have := h.new; omega
  · have := h.new; omega
end

set_option maxRecDepth 100000 in
set_option maxHeartbeats 4000000 in
theorem add_leaf_calls (B : Nat) (F : Nat → Prop) (b n fl : Nat) (f : Nat → List UInt8) (w : World) (hT : Tr B F w b n fl f) (hn : n < 1000000) :
    Calls Tryz.prog 74 #[.pointer (some ⟨b, 0, none⟩), .agg (cellsOf (f n))] w fun en w' => en = .returned (.tuple #[]) ∧ Tr B (fun k => F k ∨ w.heap.size ≤ k) w' b (n + 1) fl f ∧ Turn F w w' := by
  obtain ⟨rv, sv, idle, r⟩ := hT.raw
  have e0 : ∀ O, (w.alloc O).cell? ⟨b, 0, none⟩ = some (.int .i64 n) := fun O => (r.tree.alloc O).cell 0
  have f0 : ∀ O, (w.alloc O).frozen? ⟨b, 0, none⟩ = false := fun O => (r.tree.alloc O).free 0
  obtain ⟨n1, hn1⟩ : ∃ n1, n1 = n + 1 := ⟨_, rfl⟩
  have hw1 : (n : Int) + 1 = (n1 : Int) := by omega
  have hw2 : (n1 : Int) ≤ 1000000 := by omega
  have HN1 := Lib.hid hn1
  have HT := Lib.hid hT
  have HR := Lib.hid r
  clear hT r hn1
  go_enter Tryz.func74, Tryz.ntmps74
  go_wp2_with fail
  go_name_world W hW
  have S0 : Hid (AddS B F w b n fl f w.heap.size 0 W) := by
    have e : W = (w.alloc (.cells (cellsOf (f n)) 84)).setCell ⟨b, 0, none⟩ (.int .i64 n1) := hW.symm
    have h := HR.out
    have hb : Has w b 147 #[.int .i64 n, .int .i64 fl, rv] := h.tree
    have hxb : Has (w.alloc (.cells (cellsOf (f n)) 84)) w.heap.size 84 (cellsOf (f n)) := made_at _ _ rfl
    have T : Turn (fun k => k = b) w W := by
      rw [e]; exact ((Turn.refl (fun k => k = b) w).alloc _).put (fun _ => rfl) 0 _
    have h1 := h.more (G := fun k => (F k ∧ k < w.heap.size) ∨ (w.heap.size ≤ k ∧ k ≠ w.heap.size)) (fun k hk hf => .inl ⟨hf, hk⟩)
    have tr : Has W b 147 #[.int .i64 (n + 1 : Nat), .int .i64 fl, rv] := by
      rw [e, ← HN1.out]
      simpa using (hb.alloc (.cells (cellsOf (f n)) 84)).put 0 (.int .i64 n1)
    have ec : cnt n 0 = fun j => n / 2 ^ j := by funext i; unfold cnt; rw [if_neg (by omega)]
    refine Lib.hid ⟨⟨rv, sv, idle, ?_⟩, ⟨n + 1, by simp⟩, ?_, Nat.le_refl _, HT.out.rt.turn T (fun k e => by rw [e]; exact HT.out.hF b h.fb), T.more (fun k _ e => by rw [e]; exact h.fb)⟩
    · rw [ec]
      exact ⟨tr, h1.rows.turn T (fun x hx e => h.rv_b (by rw [hx, e])), fun j hj => (h1.sums j hj).turn T (fun x hx e => h.sv_b hj (by rw [hx, e])), h1.apart, h1.fb, h1.fr, h1.fs, h1.idle⟩
    · rw [show n + 1 - 2 ^ 0 = n by simp, show (2 : Nat) ^ 0 = 1 from rfl, rt_one, e]
      exact hxb.far (p := ⟨b, 0, none⟩) (by have := hb.lt; show w.heap.size ≠ b; omega) _
  clear hW e0 f0 HR
  go_loopw [4] (fun x wr => ∃ j : Nat, x = .int .i64 j ∧ Hid (AddS B F w b n fl f w.heap.size j wr)) (fun x _ => tops n + 1 - (intOf x).toNat)
  case atStart => exact ⟨0, rfl, S0⟩
  case round =>
    obtain ⟨j, rfl, HS⟩ := hrel
    clear S0
    have hjK := add_tops HS.out.div
    have hj0 : (0 : Int) ≤ (j : Int) := by omega
    have hj1 : (j : Int) ≤ 64 := by have := tops_small (n := n) (by omega); omega
    obtain ⟨rv, sv, idle, hr⟩ := HS.out.raw
    have hfl := HT.out.floor
    rcases Nat.lt_or_ge j (tops n) with hjt | hjt
    case' inl =>
      obtain ⟨K, hK⟩ : ∃ K, K = tops n := ⟨_, rfl⟩
      rw [← hK] at hr hjt
      obtain ⟨R, o, C, hrv, hRl, hc1, hc2, _⟩ := hr.rows.cells (by omega)
      subst hrv
      have hc3 : (C : Int) ≤ 9223372036854775807 := by unfold maxLen at hc2; omega
      have hk3 : (K : Int) ≤ (C : Int) := by omega
      have hne : ¬ (j : Int) = (K : Int) := by omega
      have hjK2 : (j : Int) < (K : Int) := by omega
      have e2 : wr.cell? ⟨b, 2, none⟩ = some (.slice (some ⟨R, o, none⟩) K C) := hr.tree.cell 2
      have M : Hid (AddM B F w b n fl f w.heap.size j K (.slice (some ⟨R, o, none⟩) K C) sv idle wr) := Lib.hid ⟨hr, HS.out.div, HS.out.box, HS.out.new, HS.out.rt, HS.out.turn, hjt, by omega⟩
      clear HS hr hjK hfl hc1 hc2
      go_wp2_with fail
    case' inr =>
      obtain ⟨K0, hK0⟩ : ∃ K0, K0 = tops n := ⟨_, rfl⟩
      have hdv := HS.out.div
      rw [← hK0] at hr hjt hjK
      obtain rfl : j = K0 := by omega
      have hg0 : gone fl j = 0 := by
        have h1 := gone_le (fl := fl) (n := n) j hfl
        rw [hK0, div_zero (Nat.le_refl _)] at h1
        rw [hK0]
        omega
      have hc0 : cnt n j j = 0 := by unfold cnt; rw [if_neg (Nat.lt_irrefl _), hK0, div_zero (Nat.le_refl _)]
      obtain ⟨a0, c0, hrv, hc1, hc2⟩ := hr.rows.slice
      subst hrv
      have hc3 : (c0 : Int) ≤ 9223372036854775807 := by unfold maxLen at hc2; omega
      have hk3 : (j : Int) ≤ (c0 : Int) := by omega
      have e2 : wr.cell? ⟨b, 2, none⟩ = some (.slice a0 j c0) := hr.tree.cell 2
      have HR := Lib.hid hr
      have HG := Lib.hid (And.intro hg0 hc0)
      obtain ⟨i0, z0, hi0, hz0, hz1, hz2, hz3⟩ := rowInfo
      have HI0 := Lib.hid hi0
      have HZ0 := Lib.hid hz0
      have HKK := Lib.hid hK0
      clear hr hi0 hz0 hc1 hc2 hg0 hc0 hfl hjt hjK hdv hK0
      go_wp2_with (first
        | ((with_reducible refine at_op 29 ?_); refine wpList_build_one (o := ⟨some 29, _, _, _, _, _⟩) rfl 145 218 _ rfl i0 z0 Tryz.underlying145 HI0.out HZ0.out #[.int .i64 0, .slice none 0 0, .int .i64 0] rfl hz1 (by decide) (by decide) wr.heap.size rfl ?_; intro W3 HW3 BW3;
           (have T3 : Hid (Below wr.heap.size wr W3 ∧ Has W3 wr.heap.size 218 #[.int .i64 0, .slice none 0 0, .int .i64 0] ∧ Seg W3 218 3 (.slice a0 j c0) j (flat (rowC (gone fl) sv idle) 0 j)) := Lib.hid ⟨BW3, HW3, HR.out.rows.below BW3 (fun x hx => HR.out.rows.lt hx)⟩);
           clear HW3 BW3 e2)
        | ((with_reducible refine at_op 30 ?_); refine wpList_append_seg (o := ⟨some 30, _, _, _, _, _⟩) _ rfl (.tmp 27) (.tmp 29) 145 rfl 218 i0 z0 3 40 Tryz.underlying145 HI0.out HZ0.out hz1 hz3 hz2 (by decide) (.slice a0 j c0) j (flat (rowC (gone fl) sv idle) 0 j) rfl T3.out.2.2 ⟨wr.heap.size, 0, none⟩ 1 1 [.int .i64 0, .slice none 0 0, .int .i64 0] rfl rfl (World.news_of_block T3.out.2.1) (by simp [Value.oneCell']) (by decide) (by unfold maxLen; omega) (by omega) _ rfl ?_;
           intro R o C w4 hown hgrow hat hlt;
           (have T4 : Hid (Turn (fun k => (Value.slice a0 j c0).ownBlock = some k) wr w4 ∧ Seg w4 218 3 (.slice (some ⟨R, o, none⟩) (j + 1) C) (j + 1) (flat (rowC (gone fl) sv idle) 0 j ++ [.int .i64 0, .slice none 0 0, .int .i64 0]) ∧ ((Value.slice a0 j c0).ownBlock = some R ∨ wr.heap.size ≤ R)) := Lib.hid ⟨turn_own T3.out.1 (Nat.le_refl _) hgrow, hown, hat.imp id (fun e => by rw [e]; exact T3.out.1.size)⟩);
           (have k2 : w4.cell? ⟨b, 2, none⟩ = some (.slice a0 j c0) := (HR.out.tree.turn T4.out.1 HR.out.rv_b).cell 2);
           (have f2 : w4.frozen? ⟨b, 2, none⟩ = false := (HR.out.tree.turn T4.out.1 HR.out.rv_b).free 2);
           clear hown hgrow hat hlt T3)
        | fail)
      obtain ⟨K, sv, idle, M⟩ := HS.out.grow HT.out HKK.out HG.out.1 HG.out.2 HR.out T4.out.1 T4.out.2.1 T4.out.2.2
      clear T4 k2 f2 HS HR HG hz1 hz2 hz3 HI0 HZ0 HKK
    all_goals
      go_name_world V hV
      rw [hV] at M
      clear hV
      obtain ⟨i0, z0, hi0, hz0, hz1, hz2, hz3⟩ := sumInfo
      have HI0 := Lib.hid hi0
      have HZ0 := Lib.hid hz0
      clear hi0 hz0
      obtain ⟨xl, hxl⟩ : ∃ xl, xl = rt f (n + 1 - 2 ^ j) (2 ^ j) := ⟨_, rfl⟩
      have HX : Hid (xl.length = 32) := Lib.hid (by rw [hxl]; exact rt_len HT.out.len _ _ (Nat.pow_pos (by decide)))
      have HXL := Lib.hid hxl
      have hcell := flat_get (g := rowC (gone fl) sv idle) (a := 0) (k := K) (w := 3) (fun i _ _ => rowC_len _ _ _ i) M.out.hj (r := 1) (by omega)
      have c1 : V.cell? ⟨R, o + j * 3 + 1, none⟩ = some (sv j) := by
        obtain ⟨R', o', C', hv', _, _, _, hc⟩ := M.out.raw.rows.cells (by have := M.out.hj; omega)
        simp only [Value.slice.injEq, Option.some.injEq, Addr.mk.injEq, and_true, true_and] at hv'
        obtain ⟨⟨rfl, rfl⟩, rfl⟩ := hv'
        exact hc (j * 3 + 1) (sv j) (by rw [hcell, Nat.zero_add]; rfl)
      have C0 : Hid (V.cell? ⟨R, o + j * 3 + 1, none⟩ = some (sv j) ∧ V.rangeAt w.heap.size 0 (xl.map byteV)) := Lib.hid ⟨c1, by rw [hxl]; exact Has.range M.out.box⟩
      clear c1 hcell hxl
      refine wp_region_quiet (fun V => V.cell? ⟨R, o + j * 3 + 1, none⟩ = some (sv j) ∧ V.rangeAt w.heap.size 0 (xl.map byteV)) [10] (by kernel_rfl) ?_
      have hC : (fun V => V.cell? ⟨R, o + j * 3 + 1, none⟩ = some (sv j) ∧ V.rangeAt w.heap.size 0 (xl.map byteV)) V.drew := C0.out
      refine quiet_take 0 (some 39) (v := .pointer (some ⟨R, o + j * 3, none⟩)) rfl rfl (by kernel_rfl) (by kernel_rfl) (by kernel_rfl) (fun _ _ _ h => h) (by kernel_rfl) (by kernel_rfl) (by kernel_rfl) (fun V _ => by go_simp) hC ?_
      refine quiet_take 1 (some 40) (v := .pointer (some ⟨R, o + j * 3, none⟩)) rfl rfl (by kernel_rfl) (by kernel_rfl) (by kernel_rfl) (fun _ _ _ h => h) (by kernel_rfl) (by kernel_rfl) (by kernel_rfl) (fun V _ => by go_simp) hC ?_
      refine quiet_take 2 (some 41) (v := .pointer (some ⟨R, o + j * 3, none⟩)) rfl rfl (by kernel_rfl) (by kernel_rfl) (by kernel_rfl) (fun _ _ _ h => h) (by kernel_rfl) (by kernel_rfl) (by kernel_rfl) (fun V _ => by go_simp) hC ?_
      refine quiet_take 3 (some 42) (v := .pointer (some ⟨R, o + j * 3 + 1, none⟩)) rfl rfl (by kernel_rfl) (by kernel_rfl) (by kernel_rfl) (fun _ _ _ h => h) (by kernel_rfl) (by kernel_rfl) (by kernel_rfl) (fun V _ => by go_simp) hC ?_
      refine quiet_take 4 (some 43) (v := sv j) rfl rfl (by kernel_rfl) (by kernel_rfl) (by kernel_rfl) (fun _ _ _ h => h) (by kernel_rfl) (by kernel_rfl) (by kernel_rfl) (fun V hV => by have c1 := hV.1; go_simp) hC ?_
      refine quiet_take 5 (some 44) (v := .agg (cellsOf xl)) rfl rfl (by kernel_rfl) (by kernel_rfl) (by kernel_rfl) (fun _ _ _ h => h) (by kernel_rfl) (by kernel_rfl) (by kernel_rfl) (fun V hV => by have hl := run_loadAt_mid (P := Tryz.prog) V w.heap.size 0 84 (xl.map byteV) _ hV.2 Tryz.underlying84 rfl (by rw [List.length_map, HX.out]; kernel_rfl); exact exec_load 84 (.tmp 3) rfl (.pointer (some ⟨w.heap.size, 0, none⟩)) rfl hl) hC ?_
      simp only [Act.put, List.setIfInBounds_toArray, List.set_cons_zero, List.set_cons_succ]
      refine quiet_one (i := 6) (by kernel_rfl) ?_
      refine wpOp_wp rfl (by kernel_rfl) (wp_build_one 91 84 _ rfl i0 z0 Tryz.underlying91 HI0.out HZ0.out (cellsOf xl) rfl (by rw [hz1, cellsOf_size, HX.out]) (by rw [cellsOf_size, HX.out]; decide) (by rw [cellsOf_size, HX.out]; decide) V.heap.size rfl ?_)
      intro W3 HW3 BW3'
      have BW3 := ((Below.refl V.heap.size V).drew).trans BW3'
      clear BW3'
      have T3 : Hid (Below V.heap.size V W3 ∧ Has W3 V.heap.size 84 (cellsOf xl) ∧ Seg W3 84 32 (sv j) (cnt n j j - gone fl j) (flat (nodeC f j) (gone fl j) (cnt n j j - gone fl j))) :=
        Lib.hid ⟨BW3, HW3, (M.out.raw.sums j M.out.hj).below (B := V.heap.size) BW3 (fun x hx => (M.out.raw.sums j M.out.hj).lt hx)⟩
      have hRV : R < V.heap.size := M.out.raw.rows.lt rfl
      have hC3 : (fun V => V.cell? ⟨R, o + j * 3 + 1, none⟩ = some (sv j) ∧ V.rangeAt w.heap.size 0 (xl.map byteV)) W3 := by
        refine ⟨?_, fun i u hi => ?_⟩
        · rw [← C0.out.1]; unfold World.cell?; rw [T3.out.1.block R hRV]
        · rw [← C0.out.2 i u hi]; unfold World.cell?; rw [T3.out.1.block w.heap.size M.out.box.lt]
      refine ⟨fun _ => hC3, ?_⟩
      clear HW3 BW3
      have hcb : Hid (cnt n j j ≤ 1000000 ∧ cnt n j j - gone fl j ≤ 1000000) := Lib.hid (by have : cnt n j j = n / 2 ^ j := (by unfold cnt; rw [if_neg (Nat.lt_irrefl _)]); have := Nat.div_le_self n (2 ^ j); omega)
      simp only [Act.put, List.setIfInBounds_toArray]
      refine quiet_one (i := 7) (by kernel_rfl) ?_
      refine wpOp_wp rfl (by kernel_rfl) (wp_append_seg _ (.tmp 43) (.tmp 45) 91 rfl 84 i0 z0 32 32 Tryz.underlying91 HI0.out HZ0.out hz1 hz3 hz2 (by decide) (sv j) (cnt n j j - gone fl j) _ rfl T3.out.2.2 ⟨V.heap.size, 0, none⟩ 1 1 (xl.map byteV) rfl (by rw [List.length_map, HX.out]) (World.news_of_block T3.out.2.1) (byteV_one _) (by decide) (by have := hcb.out.2; unfold maxLen; omega) (by have := hcb.out.2; omega) _ rfl ?_)
      intro g' off' cap' w5 hown hgrow hat hlt
      have T5 : Hid (Turn (fun k => (sv j).ownBlock = some k) V w5 ∧ Seg w5 84 32 (.slice (some ⟨g', off', none⟩) (cnt n j j - gone fl j + 1) cap') (cnt n j j - gone fl j + 1) (flat (nodeC f j) (gone fl j) (cnt n j j - gone fl j) ++ xl.map byteV) ∧ ((sv j).ownBlock = some g' ∨ V.heap.size ≤ g')) :=
        Lib.hid ⟨turn_own T3.out.1 (Nat.le_refl _) hgrow, hown, hat.imp id (fun e => by rw [e]; exact T3.out.1.size)⟩
      clear hown hgrow hat hlt
      have hsx : (sv j).ownBlock ≠ some w.heap.size := fun e => by
        have := M.out.raw.fs j M.out.hj _ e
        omega
      have hsR : (sv j).ownBlock ≠ some R := M.out.raw.rv_sv M.out.hj R rfl
      have hC5 : (fun V => V.cell? ⟨R, o + j * 3 + 1, none⟩ = some (sv j) ∧ V.rangeAt w.heap.size 0 (xl.map byteV)) w5 := by
        refine ⟨?_, fun i u hi => ?_⟩
        · rw [← C0.out.1]; unfold World.cell?; rw [T5.out.1.block R hRV hsR]
        · rw [← C0.out.2 i u hi]; unfold World.cell?; rw [T5.out.1.block w.heap.size M.out.box.lt hsx]
      refine ⟨fun _ => hC5, ?_⟩
      have k1 : w5.cell? ⟨R, o + j * 3 + 1, none⟩ = some (sv j) := hC5.1
      have f1 : w5.frozen? ⟨R, o + j * 3 + 1, none⟩ = false := by
        obtain ⟨cs, hcs⟩ : ∃ cs, Has w5 R 218 cs := by
          rcases M.out.raw.rows.2 with ⟨h, _⟩ | ⟨R', o', C', cur, hv', hh, _⟩
          · cases h
          · simp only [Value.slice.injEq, Option.some.injEq, Addr.mk.injEq, and_true, true_and] at hv'
            obtain ⟨⟨rfl, rfl⟩, rfl⟩ := hv'
            exact ⟨cur, Has.turn (t := 218) hh T5.out.1 hsR⟩
        exact hcs.free _
      simp only [Act.put]
      refine quiet_take 8 (some 47) (v := .pointer (some ⟨R, o + j * 3, none⟩)) rfl rfl (by kernel_rfl) (by kernel_rfl) (by kernel_rfl) (fun _ _ _ h => h) (by kernel_rfl) (by kernel_rfl) (by kernel_rfl) (fun V _ => by go_simp) hC5 ?_
      refine quiet_take 9 (some 48) (v := .pointer (some ⟨R, o + j * 3 + 1, none⟩)) rfl rfl (by kernel_rfl) (by kernel_rfl) (by kernel_rfl) (fun _ _ _ h => h) (by kernel_rfl) (by kernel_rfl) (by kernel_rfl) (fun V _ => by go_simp) hC5 ?_
      simp only [Act.put]
      refine quiet_one (i := 10) (by kernel_rfl) ?_
      refine wpOp_skip (w' := w5.setCell ⟨R, o + j * 3 + 1, none⟩ (.slice (some ⟨g', off', none⟩) (cnt n j j - gone fl j + 1) cap')) rfl rfl (by kernel_rfl) (by go_simp) ⟨(fun h => by cases h), ?_⟩
      refine quiet_done (by kernel_rfl) ?_ _
      obtain ⟨sv, idle, P⟩ := M.out.push HT.out T5.out.1 (by rw [← HXL.out]; exact T5.out.2.1) T5.out.2.2
      clear M T5 T3 C0 hC hC3 hC5 k1 f1 hsx hsR hz1 hz2 hz3 HI0 HZ0 hcb
      rw [← Nat.add_assoc] at P
      generalize w5.setCell ⟨R, o + j * 3 + 1, none⟩ (.slice (some ⟨g', off', none⟩) (cnt n j j - gone fl j + 1) cap') = V2 at *
      have e0 : V2.cell? ⟨b, 0, none⟩ = some (.int .i64 n1) := by rw [HN1.out]; exact P.out.raw.tree.cell 0
      obtain ⟨q, hq⟩ : ∃ q, q = n / 2 ^ j := ⟨_, rfl⟩
      have hq1 : (n1 : Int) / 2 ^ j = (q : Int) + 1 := by
        have h1 := add_div P.out.div
        rw [← HN1.out, ← hq] at h1
        have h2 : (n1 : Int) / 2 ^ j = ((n1 / 2 ^ j : Nat) : Int) := by rw [Int.natCast_ediv]; simp
        rw [h2, h1]; omega
      have hqb : (q : Int) ≤ 1000000 := by rw [hq]; have := Nat.div_le_self n (2 ^ j); omega
      have hq0 : (0 : Int) ≤ (q : Int) := by omega
      have HQ := Lib.hid hq
      clear hq
      by_cases he : q % 2 = 0
      · have ht1 : (q : Int) % 2 = 0 := by omega
        have ht2 : (q : Int).tmod 2 = 0 := by rw [Int.tmod_eq_emod_of_nonneg hq0]; exact ht1
        go_wp2_with fail
        exact bodyPost_ret (results_none rfl _ _ _) rfl ⟨rfl, P.out.last HT.out hn (by rw [← HQ.out]; exact he), P.out.turn⟩
      · have ht1 : (q : Int) % 2 = 1 := by omega
        have ht2 : (q : Int).tmod 2 = 1 := by rw [Int.tmod_eq_emod_of_nonneg hq0]; exact ht1
        go_wp2_with fail
        have ho : n / 2 ^ j % 2 = 1 := by rw [← HQ.out]; omega
        have hfl := HT.out.floor
        have hgq : gone fl j ≤ q - 1 := by
          have h1 : fl / 2 ^ (j + 1) ≤ n / 2 ^ (j + 1) := Nat.div_le_div_right hfl
          rw [half_div n, ← HQ.out] at h1
          unfold gone
          omega
        obtain ⟨q0, hq00⟩ : ∃ q0, q0 = q - 1 := ⟨_, rfl⟩
        have hqq : (q : Int) - 1 = (q0 : Int) := by omega
        have hs := P.out.raw.sums j P.out.hj
        have hcn : cnt n (j + 1) j = q + 1 := by
          unfold cnt
          rw [if_pos (Nat.lt_succ_self _), add_div P.out.div, HQ.out]
        rw [hcn] at hs
        obtain ⟨ye, hye⟩ : ∃ ye, ye = rt f (n + 1 - 2 ^ (j + 1)) (2 ^ j) := ⟨_, rfl⟩
        have hpl : q0 * 2 ^ j = n + 1 - 2 ^ (j + 1) := by
          have h1 := add_place P.out.div
          rw [← HQ.out] at h1
          rw [hq00, Nat.sub_mul, h1, Nat.pow_succ]
          omega
        have HN : Hid (nodeS ye xl = rt f (n + 1 - 2 ^ (j + 1)) (2 ^ (j + 1))) := Lib.hid (by
          rw [rt_pow, HXL.out, hye]
          congr 2
          have h2 := Nat.le_of_dvd (by omega) (add_next P.out.div ho)
          rw [Nat.pow_succ] at h2 ⊢
          omega)
        have HY : Hid (ye.length = 32) := Lib.hid (by rw [hye]; exact rt_len HT.out.len _ _ (Nat.pow_pos (by decide)))
        have HA : Hid (∀ r, r < 32 → (flat (nodeC f j) (gone fl j) (q + 1 - gone fl j))[(q0 - gone fl j) * 32 + r]? = (cellsOf ye)[r]?) := Lib.hid fun r hr => by
          rw [flat_get (w := 32) (fun i _ _ => nodeC_len HT.out.len j i) (by omega) hr, Nat.add_sub_cancel' (by omega)]
          unfold nodeC
          rw [hpl, ← hye]
          simp
        have HB : Hid (gone fl j ≤ q0 ∧ q0 - gone fl j < q + 1 - gone fl j ∧ q + 1 - gone fl j ≤ 1000000 ∧ q0 ≤ 1000000) := Lib.hid (by have h1 : q ≤ n := (by rw [HQ.out]; exact Nat.div_le_self _ _); omega)
        have hcell0 := flat_get (g := rowC (gone fl) sv idle) (a := 0) (k := K) (w := 3) (fun i _ _ => rowC_len _ _ _ i) P.out.hj (r := 0) (by omega)
        have hcell := flat_get (g := rowC (gone fl) sv idle) (a := 0) (k := K) (w := 3) (fun i _ _ => rowC_len _ _ _ i) P.out.hj (r := 1) (by omega)
        have cc : V2.cell? ⟨R, o + j * 3, none⟩ = some (.int .i64 (gone fl j)) ∧ V2.cell? ⟨R, o + j * 3 + 1, none⟩ = some (sv j) := by
          obtain ⟨R', o', C', hv', _, _, _, hc⟩ := P.out.raw.rows.cells (by have := P.out.hj; omega)
          simp only [Value.slice.injEq, Option.some.injEq, Addr.mk.injEq, and_true, true_and] at hv'
          obtain ⟨⟨rfl, rfl⟩, rfl⟩ := hv'
          exact ⟨hc (j * 3) _ (by rw [← Nat.add_zero (j * 3), hcell0, Nat.zero_add]; rfl), hc (j * 3 + 1) (sv j) (by rw [hcell, Nat.zero_add]; rfl)⟩
        have C0 : Hid ((V2.cell? ⟨R, o + j * 3, none⟩ = some (.int .i64 (gone fl j)) ∧ V2.cell? ⟨R, o + j * 3 + 1, none⟩ = some (sv j)) ∧ V2.rangeAt w.heap.size 0 (xl.map byteV)) := Lib.hid ⟨cc, by rw [HXL.out]; exact Has.range P.out.box⟩
        have HS := Lib.hid hs
        have HO := Lib.hid ho
        have HXX := HXL
        clear cc hcell hcell0 hs hcn hye hpl hgq ho hfl e0 hq00 HXL
        refine wp_region_quiet (fun V => V.rangeAt w.heap.size 0 (xl.map byteV)) [6] (by kernel_rfl) ?_
        have hC : (fun V => V.rangeAt w.heap.size 0 (xl.map byteV)) V2.drew := C0.out.2
        refine quiet_take 0 (some 59) (v := .pointer (some ⟨R, o + j * 3, none⟩)) rfl rfl (by kernel_rfl) (by kernel_rfl) (by kernel_rfl) (fun _ _ _ h => h) (by kernel_rfl) (by kernel_rfl) (by kernel_rfl) (fun V _ => by go_simp) hC ?_
        refine quiet_take 1 (some 60) (v := .int .i64 q) rfl rfl (by kernel_rfl) (by kernel_rfl) (by kernel_rfl) (fun _ _ _ h => h) (by kernel_rfl) (by kernel_rfl) (by kernel_rfl) (fun V _ => by go_simp) hC ?_
        refine quiet_take 2 (some 61) (v := .int .i64 q0) rfl rfl (by kernel_rfl) (by kernel_rfl) (by kernel_rfl) (fun _ _ _ h => h) (by kernel_rfl) (by kernel_rfl) (by kernel_rfl) (fun V _ => by have i0 : IntKind.i64.wrap (q0 : Int) = (q0 : Int) := IntWalk.i64_in _ ⟨by omega, by omega⟩; go_simp) hC ?_
        refine quiet_take 4 (some 63) (v := .agg (cellsOf xl)) rfl rfl (by kernel_rfl) (by kernel_rfl) (by kernel_rfl) (fun _ _ _ h => h) (by kernel_rfl) (by kernel_rfl) (by kernel_rfl) (fun V hV => by have hl := run_loadAt_mid (P := Tryz.prog) V w.heap.size 0 84 (xl.map byteV) _ hV Tryz.underlying84 rfl (by rw [List.length_map, HX.out]; kernel_rfl); exact exec_load 84 (.tmp 3) rfl (.pointer (some ⟨w.heap.size, 0, none⟩)) rfl hl) hC ?_
        simp only [Act.put, List.setIfInBounds_toArray, List.set_cons_zero, List.set_cons_succ]
        refine quiet_one (i := 3) (by kernel_rfl) ?_
        have hRV : R < V2.heap.size := P.out.raw.rows.lt rfl
        refine wpOp_call (some 62) rfl rfl (by kernel_rfl) 116 Tryz.f116 Tryz.func116 (by kernel_rfl) (by kernel_rfl) _ _ rfl #[.pointer (some ⟨R, o + j * 3, none⟩), .int .i64 q0] (by first | (simp [Act.eval]; done) | (simp [Act.eval, Act.put]; done)) (at_calls R (o + j * 3) q0 (gone fl j) (q + 1 - gone fl j) (sv j) _ ye V2.drew C0.out.1.1 C0.out.1.2 HS.out.drew HB.out.1 HB.out.2.1 HB.out.2.2.1 HB.out.2.2.2 HA.out HY.out) ?_
        rintro en V3 ⟨rfl, b3'⟩
        have b3 : Hid (Below V2.heap.size V2 V3) := Lib.hid (((Below.refl V2.heap.size V2).drew).trans b3')
        clear b3' HA HB
        refine ⟨_, rfl, fun _ => fun i u hi => ?_, ?_⟩
        · rw [← C0.out.2 i u hi]; unfold World.cell?; rw [b3.out.block w.heap.size P.out.box.lt]
        simp only [Act.put, List.setIfInBounds_toArray, List.set_cons_zero, List.set_cons_succ]
        refine quiet_one (i := 5) (by kernel_rfl) ?_
        refine wpOp_call (some 64) rfl rfl (by kernel_rfl) 115 Tryz.f115 Tryz.func115 (by kernel_rfl) (by kernel_rfl) _ _ rfl #[.agg (cellsOf ye), .agg (cellsOf xl)] (by first | (simp [Act.eval]; done) | (simp [Act.eval, Act.put]; done)) (node_calls ye xl V3 (P.out.rt.below b3.out P.out.rt.size).rk HY.out HX.out) ?_
        rw [HN.out]
        rintro en V4 ⟨rfl, b4'⟩
        have b4 : Hid (Below V2.heap.size V2 V4) := Lib.hid (b3.out.trans (b4'.mono b3.out.size))
        clear b4' b3
        refine ⟨_, rfl, fun _ => fun i u hi => ?_, ?_⟩
        · rw [← C0.out.2 i u hi]; unfold World.cell?; rw [b4.out.block w.heap.size P.out.box.lt]
        simp only [Act.put, List.setIfInBounds_toArray, List.set_cons_zero, List.set_cons_succ]
        refine quiet_one (i := 6) (by kernel_rfl) ?_
        have hbox : Has V4 w.heap.size 84 (cellsOf xl) := P.out.box.below b4.out P.out.box.lt |> fun h => by rw [HXX.out]; exact h
        have HL6 : Hid ((rt f (n + 1 - 2 ^ (j + 1)) (2 ^ (j + 1))).length = 32) := Lib.hid (rt_len HT.out.len _ _ (Nat.pow_pos (by decide)))
        refine wpOp_wp rfl (by kernel_rfl) (wp_store_row 84 (.tmp 3) (.tmp 64) rfl w.heap.size (cellsOf (rt f (n + 1 - 2 ^ (j + 1)) (2 ^ (j + 1)))) rfl rfl 84 (cellsOf xl) hbox (by rw [cellsOf_size, HL6.out]; kernel_rfl) (by rw [cellsOf_size, cellsOf_size, HX.out, HL6.out]) (cellsOf_one _) ?_)
        refine ⟨(fun h => by cases h), ?_⟩
        refine quiet_done (by kernel_rfl) ?_ _
        have T6 : Turn (fun k => k = w.heap.size) V2 (V4.setRow w.heap.size (cellsOf (rt f (n + 1 - 2 ^ (j + 1)) (2 ^ (j + 1))))) :=
          (Turn.of_below (F := fun k => k = w.heap.size) b4.out (fun k h1 h2 => by omega)).trans (turn_row _ _ _) (fun _ _ h => h)
        have S6 := Lib.hid (P.out.next HT.out HO.out T6 (hbox.row _))
        have hjK := add_tops P.out.div
        clear T6 hbox P b4 C0 HS hC
        generalize V4.setRow w.heap.size (cellsOf (rt f (n + 1 - 2 ^ (j + 1)) (2 ^ (j + 1)))) = V6 at *
        simp only [Act.put]
        go_wp2_with fail
        refine ⟨⟨j + 1, by rw [Int.natCast_add]; rfl, S6⟩, ?_⟩
        show tops n + 1 - ((j : Int) + 1).toNat < tops n + 1 - ((j : Int)).toNat
        omega
end Go.Proofs.YtcdedkgkingbdaaGreatDoor.dig
