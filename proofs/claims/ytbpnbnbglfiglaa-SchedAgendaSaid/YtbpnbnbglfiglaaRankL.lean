/- rank's Drop: what slices.IndexFunc and slices.DeleteFunc do with its closure. -/
import Derived.Test.YtbpnbnbglfiglaaRankJ
import Derived.Laws.CopyRow
import Derived.Laws.Tables
import Derived.Lib.ItoaWalk
namespace Go.Proofs.Ytbpnbnbglfiglaa
open Go.RowKit

/-- The closure's own block: whose things go. -/
def Who (w : World) (p : Nat) (who : Int) : Prop := Has w p 3 #[.int .i64 who]

theorem Who.turn {F : Nat → Prop} {w w' : World} {p : Nat} {who : Int} (h : Who w p who) (t : Turn F w w') (hp : ¬ F p) : Who w' p who := Has.turn h t hp

set_option maxRecDepth 100000 in
set_option maxHeartbeats 400000 in
theorem clos_calls (x1 x2 x3 who : Int) (p : Nat) (b : Bool) (w : World) (h : Who w p who) (hb : decide (x2 = who) = b) :
    Calls Try.prog 37 #[.agg #[.int .i64 x1, .int .i64 x2, .int .i64 x3], .pointer (some ⟨p, 0, none⟩)] w fun en w' => en = .returned (.bool b) ∧ Below w.heap.size w w' := by
  have hp := h.lt
  have c0 : w.cell? ⟨p, 0, none⟩ = some (.int .i64 who) := h.cell 0
  have hb' : (x2 == who) = b := by rw [← hb]; exact Bool.eq_iff_iff.2 (by simp)
  have HB := Lib.hid hb'
  clear h hb hb'
  go_enter Try.func37, Try.ntmps37
  go_wp2_with fail
  go_ret
  rw [HB.out]
  exact ⟨rfl, (Below.refl _ _).alloc (Nat.le_refl _) _⟩

def IndexPost (w : World) (who : Int) (l : List Th) (en : Ending) (w' : World) : Prop :=
  Below w.heap.size w w' ∧ ((en = .returned (.int .i64 (-1)) ∧ ∀ x ∈ l, x.2.1 ≠ who) ∨ ∃ i : Nat, en = .returned (.int .i64 i) ∧ i < l.length ∧ (at_ l i).2.1 = who ∧ ∀ x ∈ l.take i, x.2.1 ≠ who)

theorem take_more {l : List Th} {k : Nat} (hk : k < l.length) : l.take (k + 1) = l.take k ++ [at_ l k] := by
  rw [List.take_succ_eq_append_getElem hk, at_eq hk]

set_option maxRecDepth 100000 in
set_option maxHeartbeats 400000 in
theorem index_calls (g cap p : Nat) (l : List Th) (who : Int) (w : World) (h : Lie w g cap l) (hp : Who w p who) (hl : l.length ≤ 1000000) :
    Calls Try.prog 45 #[.slice (some ⟨g, 0, none⟩) l.length cap, .func (.func 37) #[] #[.pointer (some ⟨p, 0, none⟩)]] w fun en w' => IndexPost w who l en w' := by
  have H := Lib.hid h
  have HP := Lib.hid hp
  clear h hp
  go_enter Try.func45, Try.ntmps45
  go_wp2_with fail
  go_loopw [8] (fun i wr => ∃ (k : Nat), i = .int .i64 k ∧ k ≤ l.length ∧ Hid (Below w.heap.size w wr) ∧ Hid (∀ x ∈ l.take k, x.2.1 ≠ who)) (fun i _ => l.length - (intOf i).toNat)
  case atStart => exact ⟨0, rfl, Nat.zero_le _, Below.refl _ _, by intro x hx; simp at hx⟩
  case round =>
    obtain ⟨k, rfl, hk, HB, HN⟩ := hrel
    by_cases hkl : k < l.length
    · have t1 : Turn (fun j => w.heap.size ≤ j) w wr := Turn.of_below HB.out (fun _ _ e => e)
      obtain ⟨i1, i2, i3⟩ := (H.out.turn t1 (Nat.not_le_of_lt H.out.lt)).cell k hkl
      have HP1 := Lib.hid (HP.out.turn t1 (Nat.not_le_of_lt (Has.lt HP.out)))
      have h0 : (0 : Int) ≤ (k : Int) := by omega
      have h1 : (k : Int) < (l.length : Int) := by omega
      have HT := Lib.hid (take_more hkl)
      obtain ⟨b, hb⟩ : ∃ b, decide ((at_ l k).2.1 = who) = b := ⟨_, rfl⟩
      have HBB := Lib.hid hb
      clear t1 hb
      go_wp2_with fail
      refine (clos_calls _ _ _ who p b _ HP1.out HBB.out).mono ?_
      rintro en w1 ⟨rfl, b1⟩
      have B1 := Lib.hid (HB.out.trans (b1.mono HB.out.size))
      clear b1 i1 i2 i3 HP1
      cases b with
      | true =>
        have he : (at_ l k).2.1 = who := of_decide_eq_true HBB.out
        have HE := Lib.hid he
        clear he HB
        go_wp2_with fail
        go_ret
        exact ⟨B1.out, .inr ⟨k, rfl, hkl, HE.out, HN.out⟩⟩
      | false =>
        have he : ¬ (at_ l k).2.1 = who := of_decide_eq_false HBB.out
        have HE := Lib.hid he
        clear he HB
        go_wp2_with fail
        refine ⟨⟨k + 1, by rw [Int.natCast_add]; rfl, by omega, B1, Lib.hid (fun x hx => ?_)⟩, ?_⟩
        · rw [HT.out] at hx
          rcases List.mem_append.1 hx with hx | hx
          · exact HN.out x hx
          · rw [List.mem_singleton.1 hx]; exact HE.out
        · show l.length - ((k : Int) + 1).toNat < l.length - ((k : Int)).toNat
          omega
    · have ek : k = l.length := by omega
      have HN2 : Hid (∀ x ∈ l, x.2.1 ≠ who) := Lib.hid (fun x hx => HN.out x (by rw [ek, List.take_length]; exact hx))
      have h1 : ¬ (k : Int) < (l.length : Int) := by omega
      clear HN ek
      go_wp2_with fail
      go_ret
      exact ⟨HB.out, .inl ⟨rfl, HN2.out⟩⟩

/-- Not of nobody. -/
theorem index_nil (p : Nat) (w : World) : Calls Try.prog 45 #[.slice none 0 0, .func (.func 37) #[] #[.pointer (some ⟨p, 0, none⟩)]] w fun en w' => en = .returned (.int .i64 (-1)) ∧ w = w' := by
  go_enter Try.func45, Try.ntmps45
  go_wp2_with fail
  go_loopw [8] (fun i wr => i = .int .i64 0 ∧ wr = w) (fun _ _ => 0)
  case atStart => exact ⟨rfl, rfl⟩
  case round =>
    obtain ⟨rfl, rfl⟩ := hrel
    go_wp2_with fail
    go_ret
    exact ⟨rfl, rfl⟩

theorem Lie.upto {w : World} {g cap : Nat} {l : List Th} (h : Lie w g cap l) (i : Nat) (cs : Array Value) (hh : Has w g 82 cs) (cs' : Array Value) (w' : World) (hh' : Has w' g 82 cs') (hz : cs'.size = cs.size) (he : cs'.toList.take (i * 3) = cs.toList.take (i * 3)) (hi : i ≤ l.length) : Lie w' g cap (l.take i) := by
  obtain ⟨c0, h0, tl, e, hcap, hm⟩ := h
  obtain ⟨rfl, _⟩ := hh.uniq h0
  refine ⟨cs', hh', cs'.toList.drop (i * 3), ?_, by rw [hz]; exact hcap, hm⟩
  have hlen := cellsThs_length l
  have e1 : cellsThs (l.take i) = (cellsThs l).take (i * 3) := by
    clear e hh h0 he hh'
    induction l generalizing i with
    | nil => simp [cellsThs]
    | cons x l ih =>
      cases i with
      | zero => simp [cellsThs]
      | succ i =>
        have e3 : ∀ l : List Th, cellsThs (x :: l) = .int .i64 x.1 :: .int .i64 x.2.1 :: .int .i64 x.2.2 :: cellsThs l := fun _ => rfl
        have e2 : (i + 1) * 3 = i * 3 + 1 + 1 + 1 := by omega
        rw [List.take_succ_cons, e3, e3, e2]
        simp only [List.take_succ_cons]
        rw [ih i (by simpa using hi) (cellsThs_length l)]
  rw [e1]
  have e4 : (cellsThs l).take (i * 3) = cs'.toList.take (i * 3) := by
    rw [he, e, List.take_append_of_le_length (by rw [hlen]; omega)]
  rw [e4, List.take_append_drop]

theorem run_clear_things (w : World) (g cap i n c : Nat) (l : List Th) (h : Lie w g cap l) (hn : 0 < n) (hi : i + n = l.length) (hc : l.length ≤ cap) :
    ∃ w', (∀ ty, (Builtin.clear_ #[66] ty #[.slice (some ⟨g, i * 3, none⟩) n c]).run Try.prog w = .ok (.tuple #[]) w') ∧ Lie w' g cap (l.take i) ∧ w.grownBy w' (some g) := by
  obtain ⟨cs, hh, tl, e, hcap, hm⟩ := h
  have hz : ∃ z : Array Value, z.size = 3 ∧ (∀ j, (z[j]!).oneCell' = true ∨ 3 ≤ j) ∧ ∀ W, (zeroValue 82).run Try.prog W = .ok (.agg z) W := ⟨#[.int .i64 0, .int .i64 0, .int .i64 0], rfl, fun j => by
    rcases (show j = 0 ∨ j = 1 ∨ j = 2 ∨ 3 ≤ j by omega) with rfl | rfl | rfl | h
    · exact .inl rfl
    · exact .inl rfl
    · exact .inl rfl
    · exact .inr h, fun _ => by kernel_rfl⟩
  obtain ⟨z, z1, z2, z3⟩ := hz
  have hl : (Builtin.zeroCells z n).toList.length = n * 3 := by simp [Builtin.zeroCells, z1]
  have h1 : ∀ v ∈ (Builtin.zeroCells z n).toList, v.oneCell' = true := by
    intro v hv
    rw [Array.mem_toList_iff] at hv
    unfold Builtin.zeroCells at hv
    obtain ⟨j, _, rfl⟩ := Array.mem_map.1 hv
    rcases z2 (j % z.size) with k | k
    · exact k
    · rw [z1] at k; omega
  have hst := run_storeCells_at Try.prog g (i * 3) 82 (Builtin.zeroCells z n).toList 0 cs w hh (by rw [hl, hcap]; omega) h1
  obtain ⟨m, rfl⟩ : ∃ m, n = m + 1 := ⟨n - 1, by omega⟩
  refine ⟨_, ?_, ?_, Turn.grownBy ((turn_row w g (cs.toList.take (i * 3 + 0) ++ (Builtin.zeroCells z (m + 1)).toList ++ cs.toList.drop (i * 3 + 0 + (Builtin.zeroCells z (m + 1)).toList.length)).toArray).more (fun _ _ e => .inl e))⟩
  · intro ty
    simp only [Builtin.clear_]
    simp [run_underlying Try.underlying66, z3, Value.cells, hst]
  · refine Lie.upto ⟨cs, hh, tl, e, hcap, hm⟩ i cs hh _ _ (hh.row _) ?_ ?_ (by omega)
    · simp [hl]
      have : cs.toList.length = cs.size := rfl
      omega
    · rw [List.toList_toArray, List.append_assoc, Nat.add_zero, List.take_append_of_le_length (by rw [List.length_take]; have : cs.toList.length = cs.size := rfl; omega), List.take_take, Nat.min_self]

end Go.Proofs.Ytbpnbnbglfiglaa
