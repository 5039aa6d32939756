/- tower: slices of numbers that a call has made; the laws' same and has. -/
import Derived.Test.YtbimdcjbpbpljaaDoorTowH
import Derived.Test.YtbimdcjbpbpljaaDoorInts
import Derived.Lib.ItoaWalk
namespace Go.Proofs.YtbimdcjbpbpljaaDoor.tow
open Go Go.RowKit

def lenOf : Value → Nat
  | .slice _ n _ => n
  | _ => 0

/-- A slice of numbers that is owned. -/
def Ints (w : World) (v : Value) (L : List Int) : Prop := w.ownsRow 0 3 1 v L.length (L.map (Value.int .i64))

theorem Ints.slice {w : World} {v : Value} {L : List Int} (h : Ints w v L) : ∃ a c, v = .slice a L.length c := own_slice h
theorem Ints.turn {F : Nat → Prop} {w w' : World} {v : Value} {L : List Int} (h : Ints w v L) (t : Turn F w w') (hr : ∀ k, v.ownBlock = some k → ¬ F k) : Ints w' v L := own_turn h t hr
theorem Ints.lt {w : World} {v : Value} {L : List Int} (h : Ints w v L) {k : Nat} (hk : v.ownBlock = some k) : k < w.heap.size := own_lt h hk
theorem Ints.below {w w' : World} {v : Value} {L : List Int} (h : Ints w v L) (t : Below w.heap.size w w') : Ints w' v L :=
  h.turn (Turn.of_below (F := fun k => w.heap.size ≤ k) t (fun _ _ h => h)) (fun k hk e => by have := h.lt hk; omega)
theorem Ints.nil (w : World) : Ints w (.slice none 0 0) [] := ⟨rfl, .inl ⟨rfl, rfl⟩⟩
theorem Ints.cell {w : World} {v : Value} {L : List Int} (h : Ints w v L) (i : Nat) (hi : i < L.length) : ∃ g c, v = .slice (some ⟨g, 0, none⟩) L.length c ∧ L.length ≤ c ∧ c ≤ maxLen ∧ ∀ j x, L[j]? = some x → w.cell? ⟨g, j, none⟩ = some (.int .i64 x) := by
  obtain ⟨g, c, e, h1, h2, hc⟩ := own_cell h (by omega)
  exact ⟨g, c, e, h1, h2, fun j x hj => hc j _ (by rw [List.getElem?_map, hj]; rfl)⟩

theorem zeroInt : ∃ i z, Tryd.prog.info? 3 = some i ∧ i.zero = some z ∧ i.size = 1 ∧ z.cells.size = 1 ∧ i.bytes = 8 := by
  have h2 : (Tryd.prog.info? 3).map (fun i => (i.zero.map (fun z => z.cells.size), i.size, i.bytes)) = some (some 1, 1, 8) := by kernel_rfl
  obtain ⟨i, hi, e⟩ := Option.map_eq_some_iff.1 h2
  simp at e
  obtain ⟨⟨z, hz, hz2⟩, h3, h4⟩ := e
  exact ⟨i, z, hi, hz, h3, hz2, h4⟩

set_option maxRecDepth 100000 in
set_option maxHeartbeats 1000000 in
theorem same_calls (u v : Value) (L : List Int) (w : World) (hu : Ints w u L) (hv : Ints w v L) :
    Calls Tryd.prog 19 #[u, v] w fun en w' => en = .returned (.bool true) ∧ Below w.heap.size w w' := by
  have HU := Lib.hid hu
  have HV := Lib.hid hv
  obtain ⟨a1, c1, rfl⟩ := hu.slice
  obtain ⟨a2, c2, rfl⟩ := hv.slice
  have hl : (L.length : Int) ≤ 9223372036854775807 := by
    by_cases h0 : 0 < L.length
    · obtain ⟨_, c, _, h1, h2, _⟩ := hu.cell 0 h0
      unfold maxLen at h2
      omega
    · omega
  clear hu hv
  go_enter Tryd.func19, Tryd.ntmps19
  go_wp2_with fail
  go_loopw [13] (fun i wr => ∃ (k : Nat), i = .int .i64 k ∧ k ≤ L.length ∧ Hid (Below w.heap.size w wr)) (fun i _ => L.length - (intOf i).toNat)
  case atStart => exact ⟨0, rfl, Nat.zero_le _, Lib.hid (Below.refl _ _)⟩
  case round =>
    obtain ⟨k, rfl, hk, HG⟩ := hrel
    by_cases hkl : k < L.length
    · obtain ⟨g1, d1, e1, l1, l2, k1⟩ := (HU.out.below HG.out).cell k hkl
      obtain ⟨g2, d2, e2, l3, l4, k2⟩ := (HV.out.below HG.out).cell k hkl
      injection e1 with e1 e1b e1c
      injection e2 with e2 e2b e2c
      subst e1
      subst e2
      subst e1c
      subst e2c
      clear e1b e2b
      obtain ⟨y, hy⟩ : ∃ y, L[k]? = some y := ⟨L[k], List.getElem?_eq_getElem hkl⟩
      have m1 := k1 k y hy
      have m2 := k2 k y hy
      have h1 : (k : Int) < (L.length : Int) := by omega
      have h0 : (0 : Int) ≤ (k : Int) := by omega
      clear k1 k2 hy
      go_wp2_with fail
      go_region
      all_goals
        go_wp2_with fail
        refine ⟨⟨k + 1, by rw [Int.natCast_add]; rfl, by omega, Lib.hid HG.out.drew⟩, ?_⟩
        show L.length - ((k : Int) + 1).toNat < L.length - ((k : Int)).toNat
        omega
    · obtain rfl : k = L.length := by omega
      have h1 : ¬ (L.length : Int) < (L.length : Int) := by omega
      go_wp2_with fail
      go_ret
      exact ⟨rfl, HG.out⟩

def HasPost (T : Nat → Int) (m : Nat) (n : Int) (w : World) (en : Ending) (w' : World) : Prop := ∃ b, en = .returned (.bool b) ∧ (b = true ↔ ∃ i, i < m ∧ T i = n) ∧ w = w'

set_option maxRecDepth 100000 in
set_option maxHeartbeats 1000000 in
/-- Is a number among the first n that were handed in? -/
theorem has_calls (a : Option Addr) (len cap m : Nat) (T : Nat → Int) (n : Int) (w : World) (hA : ArgI w a len cap T) (hm : m ≤ len) (cap' : Nat) (hc : m ≤ cap') :
    Calls Tryd.prog 28 #[.slice a m cap', .int .i64 n] w (HasPost T m n w) := by
  have HA := Lib.hid hA
  have hl : (m : Int) ≤ 9223372036854775807 := by have := hA.1; have := hA.2.1; unfold maxLen at this; omega
  clear hA
  go_enter Tryd.func28, Tryd.ntmps28
  go_wp2_with fail
  go_loop [9] (fun i => ∃ (k : Nat), i = .int .i64 k ∧ k ≤ m ∧ Hid (∀ j, j < k → T j ≠ n)) (fun i => m - (intOf i).toNat)
  case atStart => exact ⟨0, rfl, Nat.zero_le _, Lib.hid (fun j hj => by omega)⟩
  case round =>
    obtain ⟨k, rfl, hk, HN⟩ := hrel
    by_cases hkl : k < m
    · obtain ⟨g, o, rfl, hg, c0, n0, n1⟩ := HA.out.2.2 k (by omega)
      have h1 : (k : Int) < (m : Int) := by omega
      have h0 : (0 : Int) ≤ (k : Int) := by omega
      by_cases he : T k = n
      · have HE := Lib.hid he
        have hb : (T k == n) = true := beq_iff_eq.2 he
        obtain ⟨y, hy⟩ : ∃ y, y = T k := ⟨_, rfl⟩
        rw [← hy] at c0 n0 n1 hb
        clear he hy
        go_wp2_with fail
        go_ret
        exact ⟨true, rfl, ⟨fun _ => ⟨k, hkl, HE.out⟩, fun _ => rfl⟩, rfl⟩
      · have HE := Lib.hid he
        have hb : (T k == n) = false := beq_eq_false_iff_ne.2 he
        obtain ⟨y, hy⟩ : ∃ y, y = T k := ⟨_, rfl⟩
        rw [← hy] at c0 n0 n1 hb
        clear he hy
        go_wp2_with fail
        refine ⟨⟨k + 1, by rw [Int.natCast_add]; rfl, by omega, Lib.hid (fun j hj => ?_)⟩, ?_⟩
        · by_cases hjk : j = k
          · rw [hjk]; exact HE.out
          · exact HN.out j (by omega)
        · show m - ((k : Int) + 1).toNat < m - ((k : Int)).toNat
          omega
    · obtain rfl : k = m := by omega
      have h1 : ¬ (k : Int) < (k : Int) := by omega
      go_wp2_with fail
      go_ret
      exact ⟨false, rfl, ⟨(by intro e; cases e), (by rintro ⟨i, hi, e⟩; exact absurd e (HN.out i hi))⟩, rfl⟩
end Go.Proofs.YtbimdcjbpbpljaaDoor.tow
