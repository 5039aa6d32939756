/- Texts laid into one: DigI, Half, TreeM, Row, Flat. -/
import Derived.Test.YtcdedkgkingbdaaGreatDoorQ003
import Derived.Test.YtcdedkgkingbdaaGreatDoorQ000
import Derived.Shelf.Lay
import Derived.Shelf.Small.Bits
import Derived.Lib.ItoaWalk
section
/- digest: Node, Hex. -/
namespace Go.Proofs.YtcdedkgkingbdaaGreatDoor.dig
open Go Go.RowKit

theorem run_str_arr {P : Program} (src dst e : TypeId) (hs : P.underlying src = some (.slice e)) (he : P.underlying e = some (.int .u8)) (hd : P.underlying dst = some .string) (g : Nat) (t : TypeId) (xs : List UInt8) (c : Nat) (w : World) (h : Has w g t (cellsOf xs)) :
    (convert src dst (.slice (some ⟨g, 0, none⟩) xs.length c)).run P w = .ok (.string ⟨xs.toArray⟩) w := by
  refine run_convert_bytes_back w src dst e ⟨g, 0, none⟩ c xs hs he hd (fun j hj => ?_)
  rw [Addr.add_mid, Nat.zero_add, h.cell]
  simp [cellsOf, hj, byteV]

set_option maxRecDepth 100000 in
set_option maxHeartbeats 1000000 in
theorem node_calls (a b : List UInt8) (w : World) (hR : Rk w) (ha : a.length = 32) (hb : b.length = 32) :
    Calls Tryz.prog 115 #[.agg (cellsOf a), .agg (cellsOf b)] w fun en w' => en = .returned (.agg (cellsOf (nodeS a b))) ∧ Below w.heap.size w w' := by
  have HR0 := Lib.hid hR
  have HA := Lib.hid ha
  have HB := Lib.hid hb
  clear hR ha hb
  have hcat : Hid (cat [⟨#[1]⟩, ⟨a.toArray⟩, ⟨b.toArray⟩] = 1 :: (a ++ b)) := by show _ = _; simp [cat]
  go_enter Tryz.func115, Tryz.ntmps115
  go_wp2_with fail
  go_name_world W hW
  have B0 : Below w.heap.size w W := by rw [← hW]; exact (((Below.refl _ _).alloc (Nat.le_refl _) _).alloc (by simp) _).alloc (by simp; omega) _
  have PA : Has W w.heap.size 84 (cellsOf a) := by rw [← hW]; exact Has.alloc (Has.alloc (made_at _ _ rfl) _) _
  have PB : Has W (w.heap.size + 1) 84 (cellsOf b) := by rw [← hW]; exact Has.alloc (made_at _ _ (by simp)) _
  have Z0 : Has W (w.heap.size + 1 + 1) 84 (cellsOf (List.replicate 32 0)) := by rw [← hW]; exact made_at _ _ (by simp)
  clear hW
  obtain ⟨V, hV⟩ : ∃ V, V = W.drew := ⟨_, rfl⟩
  refine still_tail_at V hV 4 (by kernel_rfl) (by kernel_rfl) ?_
  have BV : Hid (Below w.heap.size w V ∧ Has V (w.heap.size + 1 + 1) 84 (cellsOf (List.replicate 32 0))) := by rw [hV]; exact Lib.hid ⟨B0.drew, Z0⟩
  have hPA : Has V w.heap.size 84 (cellsOf a) := by rw [hV]; exact PA
  have hPB : Has V (w.heap.size + 1) 84 (cellsOf b) := by rw [hV]; exact PB
  have ca := run_str_arr (P := Tryz.prog) 150 9 5 Tryz.underlying150 Tryz.underlying5 Tryz.underlying9 _ _ a 32 V hPA
  have cb := run_str_arr (P := Tryz.prog) 150 9 5 Tryz.underlying150 Tryz.underlying5 Tryz.underlying9 _ _ b 32 V hPB
  rw [HA.out] at ca
  rw [HB.out] at cb
  have hul := Tryz.underlying84
  clear hV PA PB B0 Z0 hPA hPB
  simp only [List.take_succ_cons, List.take_zero, List.drop_succ_cons, List.drop_zero]
  repeat still_step
  refine wpStill_nil ?_
  clear ca cb hul
  go_wp2_with fail
  refine callsName (fun W2 hW2 => ?_)
  have hvs : w.heap.size + 1 + 1 < V.heap.size := BV.out.2.lt
  have B2 : Below w.heap.size w W2 := by rw [← hW2]; exact BV.out.1.alloc BV.out.1.size _
  have Z2 : Has W2 (w.heap.size + 1 + 1) 84 (cellsOf (List.replicate 32 0)) := by rw [← hW2]; exact BV.out.2.alloc _
  have P2 : Has W2 V.heap.size 9 #[.string ⟨#[1]⟩, .string ⟨a.toArray⟩, .string ⟨b.toArray⟩] := by rw [← hW2]; exact made_at _ _ rfl
  clear hW2
  refine (sumOf_calls V.heap.size 3 3 [⟨#[1]⟩, ⟨a.toArray⟩, ⟨b.toArray⟩] W2 (fun i t ht => ?_) P2.lt rfl (by omega) (HR0.out.below B2) (by rw [hcat.out]; simp [HA.out, HB.out])).mono ?_
  · rw [P2.cell]
    rcases i with _ | _ | _ | i
    · simp at ht; subst ht; rfl
    · simp at ht; subst ht; rfl
    · simp at ht; subst ht; rfl
    · simp at ht
  rw [hcat.out]
  rintro en w5 ⟨rfl, b5⟩
  have S5 : Hid (Has w5 (w.heap.size + 1 + 1) 84 (cellsOf (List.replicate 32 0)) ∧ Below w.heap.size w w5) :=
    Lib.hid ⟨Z2.below b5 Z2.lt, B2.trans (b5.mono B2.size)⟩
  clear b5 B2 Z2 P2 hcat hvs BV
  have HG : Hid (w.heap.size ≤ w.heap.size + 1 + 1) := Lib.hid (by omega)
  generalize w.heap.size + 1 + 1 = g at *
  go_wp2_with (first
    | (refine wpList_store_arr (o := ⟨none, _, _, _, _, _⟩) rfl 84 _ _ rfl g (sum (1 :: (a ++ b))) (List.replicate 32 0) rfl rfl _ S5.out.1 32 (by kernel_rfl) (by simp) (sum_length _) ?_; intro W6 HW6 TW6)
    | fail)
  exact bodyPost_ret (v := .agg (cellsOf (nodeS a b))) (results_cell_row rfl _ _ g 84 _ _ _ rfl HW6 Tryz.underlying84 rfl (by rw [cellsOf_size, nodeS_length]; kernel_rfl)) rfl
    ⟨rfl, S5.out.2.trans (TW6.below S5.out.2.size (fun j hj e => by have := HG.out; omega))⟩
theorem run_index_strb {P : Program} (t : TypeId) (s : ByteArray) (k : IntKind) (v : Nat) (b : UInt8) (hu : P.underlying t = some .string) (hv : s[v]? = some b) (w : World) : (Instr.index t (.string s) (.int k v)).run P w = .ok (byteV b) w := by
  have h0 : (0 : Int) ≤ (v : Int) := by omega
  simp [Instr.index, asIntOf, run_underlying hu, hv, byteV]
end Go.Proofs.YtcdedkgkingbdaaGreatDoor.dig
end

section
/- half.Of, the document's Half; bits.Len off the shelf. -/
namespace Go.Proofs
open Go.Shelf
shelf_lay Lays.n125 Nm 125 at Tryz as Tryz.lays125
end Go.Proofs
namespace Go.Proofs.YtcdedkgkingbdaaGreatDoor.dig
open Go Go.RowKit

/-- How many of n leaves the first half has: the greatest power of two below n. -/
def half (n : Nat) : Nat := 2 ^ Nat.log2 (n - 1)
theorem half_pos (n : Nat) : 0 < half n := Nat.pow_pos (by decide)
theorem half_lt {n : Nat} (h : 2 ≤ n) : half n < n := by
  have := Nat.log2_self_le (n := n - 1) (by omega)
  unfold half
  omega
theorem half_ge {n : Nat} (h : 2 ≤ n) : n ≤ 2 * half n := by
  have := Nat.lt_log2_self (n := n - 1)
  unfold half
  rw [Nat.pow_succ] at this
  omega
theorem log2_of {a j : Nat} (h1 : 2 ^ j ≤ a) (h2 : a < 2 ^ (j + 1)) : Nat.log2 a = j := by
  have ha : a ≠ 0 := by have := Nat.pow_pos (n := j) (show 0 < 2 by decide); omega
  have e1 : j ≤ Nat.log2 a := (Nat.le_log2 ha).2 h1
  have e2 : Nat.log2 a < j + 1 := (Nat.log2_lt ha).2 h2
  omega
theorem half_of {n j : Nat} (h1 : 2 ^ j < n) (h2 : n ≤ 2 ^ (j + 1)) : half n = 2 ^ j := by
  unfold half
  rw [log2_of (j := j) (by omega) (by omega)]
theorem half_pow (j : Nat) : half (2 ^ (j + 1)) = 2 ^ j := half_of (by rw [Nat.pow_succ]; have := Nat.pow_pos (n := j) (show 0 < 2 by decide); omega) (Nat.le_refl _)


theorem len_calls (x : Int) (w : World) (h0 : 0 ≤ x) (h1 : x ≤ 18446744073709551615) :
    Calls Tryz.prog 166 #[.int .u64 x] w fun e w' => e = .returned (.int .i64 (Lib.bitLen x.toNat)) ∧ w' = w := Any.bits_Len Tryz.lays125 x w h0 h1

theorem bitLenAux_log2 : ∀ (f x : Nat), 0 < x → x < 2 ^ f → Lib.bitLenAux f x = Nat.log2 x + 1 := by
  intro f
  induction f with
  | zero => intro x h0 h1; simp at h1; omega
  | succ f ih =>
    intro x h0 h1
    rw [Lib.bitLenAux, if_neg (by omega)]
    by_cases h2 : x = 1
    · subst h2
      have : Nat.log2 1 = 0 := by decide
      rw [this]
      cases f <;> simp [Lib.bitLenAux]
    · rw [ih (x / 2) (by omega) (by rw [Nat.pow_succ] at h1; omega)]
      have e : Nat.log2 x = Nat.log2 (x / 2) + 1 := by
        conv => lhs; rw [Nat.log2_def]
        rw [if_pos (by omega)]
      rw [e]
      omega
theorem bitLen_log2 (x : Nat) (h0 : 0 < x) (h1 : x < 18446744073709551616) : Lib.bitLen x = Nat.log2 x + 1 := bitLenAux_log2 64 x h0 h1

theorem wrap_pow (k : Nat) (hk : k ≤ 40) : wrap64 ((2 : Int) ^ k) = ((2 ^ k : Nat) : Int) := by
  have h3 : (2 : Int) ^ k = ((2 ^ k : Nat) : Int) := by simp
  have h4 : (2 : Nat) ^ k ≤ 2 ^ 40 := Nat.pow_le_pow_right (by decide) hk
  rw [h3]
  generalize 2 ^ k = m at *
  unfold wrap64
  omega

set_option maxRecDepth 100000 in
set_option maxHeartbeats 1000000 in
theorem half_calls (n : Nat) (w : World) (h2 : 2 ≤ n) (hn : n ≤ 1000000000000) :
    Calls Tryz.prog 122 #[.int .i64 n] w fun en w' => en = .returned (.int .i64 (half n)) ∧ w = w' := by
  have a1 : ¬ (n : Int) < 2 := by omega
  have a2 : ((n : Int) - 1).toNat = n - 1 := by omega
  obtain ⟨k, hk⟩ : ∃ k, k = Nat.log2 (n - 1) := ⟨_, rfl⟩
  have hk2 : k < 40 := by rw [hk]; exact (Nat.log2_lt (by omega)).2 (by omega)
  have hb : Lib.bitLen (n - 1) = k + 1 := by rw [hk]; exact bitLen_log2 _ (by omega) (by omega)
  have hh : half n = 2 ^ k := by rw [hk]; rfl
  have HW := Lib.hid (wrap_pow k (by omega))
  have HH := Lib.hid hh
  clear hh hk
  go_enter Tryz.func122, Tryz.ntmps122
  go_wp2_with (first
    | (go_at_call 166; refine (len_calls ((n : Int) - 1) _ (by omega) (by omega)).mono ?_; rw [a2, hb]; rintro e w' ⟨rfl, rfl⟩)
    | fail)
  go_ret
  rw [HH.out, ← HW.out]
  exact ⟨rfl, rfl⟩

end Go.Proofs.YtcdedkgkingbdaaGreatDoor.dig
end

section
/- tree, proof: the mathematics of halves, roots, proofs. -/
namespace Go.Proofs.YtcdedkgkingbdaaGreatDoor.dig
open Go

/-- The root over n leaves, 1 and more, from one on. -/
def rt (f : Nat → List UInt8) (a n : Nat) : List UInt8 :=
  if _h : 2 ≤ n then nodeS (rt f a (half n)) (rt f (a + half n) (n - half n)) else f a
termination_by n
decreasing_by
  · exact half_lt _h
  · have := half_pos n; omega
theorem rt_one (f : Nat → List UInt8) (a : Nat) : rt f a 1 = f a := by rw [rt, dif_neg (by omega)]
theorem rt_two (f : Nat → List UInt8) (a : Nat) {n : Nat} (h : 2 ≤ n) : rt f a n = nodeS (rt f a (half n)) (rt f (a + half n) (n - half n)) := by rw [rt, dif_pos h]
theorem rt_pow (f : Nat → List UInt8) (a j : Nat) : rt f a (2 ^ (j + 1)) = nodeS (rt f a (2 ^ j)) (rt f (a + 2 ^ j) (2 ^ j)) := by
  have h0 : 0 < 2 ^ j := Nat.pow_pos (by decide)
  rw [rt_two f a (n := 2 ^ (j + 1)) (by rw [Nat.pow_succ]; omega), half_pow, show 2 ^ (j + 1) - 2 ^ j = 2 ^ j by rw [Nat.pow_succ]; omega]
theorem rt_congr (f g : Nat → List UInt8) : ∀ (n a : Nat), 0 < n → (∀ i, a ≤ i → i < a + n → f i = g i) → rt f a n = rt g a n := by
  intro n
  induction n using Nat.strongRecOn with
  | _ n ih =>
    intro a h0 h
    by_cases h2 : 2 ≤ n
    · have := half_pos n
      have := half_lt h2
      rw [rt_two f a h2, rt_two g a h2, ih (half n) (by omega) a (by omega) (fun i h1 h3 => h i h1 (by omega)), ih (n - half n) (by omega) _ (by omega) (fun i h1 h3 => h i (by omega) (by omega))]
    · obtain rfl : n = 1 := by omega
      rw [rt_one, rt_one]
      exact h a (Nat.le_refl _) (by omega)
theorem rt_length (f : Nat → List UInt8) : ∀ (n a : Nat), (∀ i, a ≤ i → i < a + n → (f i).length = 32) → 0 < n → (rt f a n).length = 32 := by
  intro n a h h0
  by_cases h2 : 2 ≤ n
  · rw [rt_two f a h2]
    exact nodeS_length _ _
  · obtain rfl : n = 1 := by omega
    rw [rt_one]
    exact h a (Nat.le_refl _) (by omega)

/-- The root over all of n leaves. -/
def rtAll (f : Nat → List UInt8) (n : Nat) : List UInt8 := if n = 0 then sum [] else rt f 0 n

/-- What comes of a leaf's sum, the i-th of n, by sums from outside in. -/
def up (x : List UInt8) : Nat → Nat → List (List UInt8) → List UInt8 × Bool
  | _, n, [] => (x, n == 1)
  | i, n, o :: r => if n = 1 then (x, false) else
    if i < half n then (nodeS (up x i (half n) r).1 o, (up x i (half n) r).2)
    else (nodeS o (up x (i - half n) (n - half n) r).1, (up x (i - half n) (n - half n) r).2)

/-- What comes of the roots over the first m and all n, by sums from outside in; old: the root over the first m. -/
def both (old : List UInt8) : Nat → Nat → Bool → List (List UInt8) → List UInt8 × List UInt8 × Bool
  | m, n, first, [] => (old, old, m == n && first)
  | m, n, first, o :: r => if m = n then (if first then (old, old, false) else (o, o, r.isEmpty)) else
    if m ≤ half n then
      let p := both old m (half n) first r
      (p.1, nodeS p.2.1 o, p.2.2)
    else
      let p := both old (m - half n) (n - half n) false r
      (nodeS o p.1, nodeS o p.2.1, p.2.2)

/-- The proof of the i-th among n from one on, from within out. -/
def path (f : Nat → List UInt8) (i a n : Nat) : List (List UInt8) :=
  if _h : 2 ≤ n then (if i < half n then path f i a (half n) ++ [rt f (a + half n) (n - half n)] else path f (i - half n) (a + half n) (n - half n) ++ [rt f a (half n)]) else []
termination_by n
decreasing_by
  · exact half_lt _h
  · have := half_pos n; omega

/-- The proof of the first m among n from one on, from within out. -/
def steps (f : Nat → List UInt8) (m a n : Nat) (first : Bool) : List (List UInt8) :=
  if m = n then (if first then [] else [rt f a n]) else
  if _h : 2 ≤ n then (if m ≤ half n then steps f m a (half n) first ++ [rt f (a + half n) (n - half n)] else steps f (m - half n) (a + half n) (n - half n) false ++ [rt f a (half n)]) else []
termination_by n
decreasing_by
  · exact half_lt _h
  · have := half_pos n; omega
theorem half_pow_le {n D : Nat} (h2 : 2 ≤ n) (h : n ≤ 2 ^ D) : ∃ d, D = d + 1 ∧ half n ≤ 2 ^ d ∧ n - half n ≤ 2 ^ d := by
  have l2 := half_ge h2
  cases D with
  | zero => simp at h; omega
  | succ d =>
    have h3 : half n ≤ 2 ^ d := by
      unfold half
      refine Nat.pow_le_pow_right (by decide) ?_
      have : Nat.log2 (n - 1) < d + 1 := (Nat.log2_lt (by omega)).2 (by omega)
      omega
    exact ⟨d, rfl, h3, by omega⟩
theorem path_le (f : Nat → List UInt8) : ∀ (D n a i : Nat), n ≤ 2 ^ D → (path f i a n).length ≤ D := by
  intro D
  induction D with
  | zero => intro n a i h; rw [path, dif_neg (by simp at h; omega)]; simp
  | succ d ih =>
    intro n a i h
    rw [path]
    split
    · rename_i h2
      obtain ⟨d', e, h3, h4⟩ := half_pow_le h2 h
      obtain rfl : d = d' := by omega
      split
      · rw [List.length_append]; have := ih _ a i h3; simp; omega
      · rw [List.length_append]; have := ih _ (a + half n) (i - half n) h4; simp; omega
    · simp
end Go.Proofs.YtcdedkgkingbdaaGreatDoor.dig
end

section
/- Slices that lie anywhere in a block of their own (also behind what was cut off ahead of them): what keeps them, what stands in them, append. Of no program. -/
namespace Go.Proofs.YtcdedkgkingbdaaGreatDoor
open Go.RowKit

/-- The value v is a slice of n elements, each of size cells, of type e; in them stands xs. -/
def Seg (w : World) (e : TypeId) (size : Nat) (v : Value) (n : Nat) (xs : List Value) : Prop :=
  xs.length = n * size ∧ ((v = .slice none 0 0 ∧ n = 0) ∨ ∃ g off cap cur, v = .slice (some ⟨g, off, none⟩) n cap ∧ w.heap[g]? = some (.cells cur e (0, 0)) ∧ n ≤ cap ∧ cap ≤ maxLen ∧ off + cap * size ≤ cur.size ∧ (cur.toList.drop off).take (n * size) = xs)

section
variable {w w' : World} {e : TypeId} {size n : Nat} {v : Value} {xs : List Value}

theorem Seg.nil (w : World) (e : TypeId) (size : Nat) : Seg w e size (.slice none 0 0) 0 [] := ⟨by simp, .inl ⟨rfl, rfl⟩⟩

theorem Seg.of_own {base : Nat} (h : w.ownsRow base e size v n xs) : Seg w e size v n xs := by
  refine ⟨h.1, ?_⟩
  rcases h.2 with k | ⟨g, cap, cur, e1, _, e3, e4, e5, e6, e7⟩
  · exact .inl k
  · exact .inr ⟨g, 0, cap, cur, e1, e3, e4, e5, by rw [e6]; omega, by simpa using e7⟩

theorem Seg.lt {b : Nat} (h : Seg w e size v n xs) (hb : v.ownBlock = some b) : b < w.heap.size := by
  rcases h.2 with ⟨rfl, _⟩ | ⟨g, off, cap, cur, rfl, hg, _⟩
  · cases hb
  · injection hb with hb
    subst hb
    rcases Nat.lt_or_ge g w.heap.size with k | k
    · exact k
    · rw [Array.getElem?_eq_none k] at hg; cases hg

theorem Seg.keep (h : Seg w e size v n xs) (k : ∀ b, v.ownBlock = some b → w'.heap[b]? = w.heap[b]?) : Seg w' e size v n xs := by
  refine ⟨h.1, ?_⟩
  rcases h.2 with h2 | ⟨g, off, cap, cur, e1, e2, e3⟩
  · exact .inl h2
  · exact .inr ⟨g, off, cap, cur, e1, (k g (by rw [e1]; rfl)).trans e2, e3⟩

theorem Seg.turn {F : Nat → Prop} (h : Seg w e size v n xs) (t : Turn F w w') (hr : ∀ b, v.ownBlock = some b → ¬ F b) : Seg w' e size v n xs :=
  h.keep fun b hb => t.block b (h.lt hb) (hr b hb)

theorem Seg.below {B : Nat} (h : Seg w e size v n xs) (t : Below B w w') (hB : ∀ b, v.ownBlock = some b → b < B) : Seg w' e size v n xs :=
  h.keep fun b hb => t.block b (hB b hb)

theorem Seg.drew (h : Seg w e size v n xs) : Seg w.drew e size v n xs := h
theorem Seg.alloc (h : Seg w e size v n xs) (o : Obj) : Seg (w.alloc o) e size v n xs := h.keep fun b hb => Below.heap_alloc w o b (h.lt hb)

theorem Seg.ne {b : Nat} {t : TypeId} {cs : Array Value} (h : Seg w e size v n xs) (hb : Has w b t cs) (hne : e ≠ t) : v.ownBlock ≠ some b := by
  rcases h.2 with ⟨rfl, _⟩ | ⟨g, off, cap, cur, rfl, hg, _⟩
  · intro k; cases k
  · intro k
    injection k with k
    obtain rfl : g = b := k
    have hg' : Has w g e cur := hg
    exact hne (hg'.uniq hb).2

theorem Seg.apart {e' : TypeId} {size' n' : Nat} {v' : Value} {xs' : List Value} (h : Seg w e size v n xs) (h' : Seg w e' size' v' n' xs') (hne : e ≠ e') : ∀ b, v.ownBlock = some b → v'.ownBlock ≠ some b := by
  intro b hb
  rcases h.2 with ⟨rfl, _⟩ | ⟨g, off, cap, cur, rfl, hg, _⟩
  · cases hb
  · injection hb with hb
    obtain rfl : g = b := hb
    have hg' : Has w g e cur := hg
    exact h'.ne hg' (fun k => hne k.symm)

/-- What stands in it. -/
theorem Seg.cells (h : Seg w e size v n xs) (hn : 0 < n) : ∃ g off c, v = .slice (some ⟨g, off, none⟩) n c ∧ g < w.heap.size ∧ n ≤ c ∧ c ≤ maxLen ∧ ∀ j u, xs[j]? = some u → w.cell? ⟨g, off + j, none⟩ = some u := by
  rcases h.2 with ⟨_, h0⟩ | ⟨g, off, cap, cur, rfl, hg, hc1, hc2, _, hx⟩
  · omega
  · refine ⟨g, off, cap, rfl, h.lt rfl, hc1, hc2, fun j u hj => ?_⟩
    have hg' : Has w g e cur := hg
    rw [hg'.cell, ← Array.getElem?_toList]
    have hjl : j < xs.length := by
      rcases Nat.lt_or_ge j xs.length with k | k
      · exact k
      · rw [List.getElem?_eq_none k] at hj; cases hj
    have hl : xs.length ≤ n * size := by rw [h.1]; exact Nat.le_refl _
    rw [← hx, List.getElem?_take_of_lt (by omega), List.getElem?_drop] at hj
    exact hj

theorem Seg.slice (h : Seg w e size v n xs) : ∃ a c, v = .slice a n c ∧ n ≤ c ∧ c ≤ maxLen := by
  rcases h.2 with ⟨h1, h2⟩ | ⟨g, off, cap, cur, rfl, hg, hc1, hc2, _⟩
  · exact ⟨none, 0, by rw [h1, h2], by omega, by unfold maxLen; omega⟩
  · exact ⟨_, _, rfl, hc1, hc2⟩

/-- What is behind the first k. -/
theorem Seg.behind {g off c : Nat} (h : Seg w e size (.slice (some ⟨g, off, none⟩) n c) n xs) (k : Nat) (hk : k ≤ n) : Seg w e size (.slice (some ⟨g, off + k * size, none⟩) (n - k) (c - k)) (n - k) (xs.drop (k * size)) := by
  rcases h.2 with ⟨h1, _⟩ | ⟨g', off', cap, cur, h1, hg, hc1, hc2, hc3, hx⟩
  · cases h1
  · simp only [Value.slice.injEq, Option.some.injEq, Addr.mk.injEq, and_true, true_and] at h1
    obtain ⟨⟨rfl, rfl⟩, rfl⟩ := h1
    refine ⟨by rw [List.length_drop, h.1, Nat.sub_mul], .inr ⟨g, _, c - k, cur, rfl, hg, by omega, by omega, ?_, ?_⟩⟩
    · have : k * size + (c - k) * size = c * size := by rw [← Nat.add_mul, Nat.add_sub_cancel' (by omega)]
      omega
    · rw [← hx, List.drop_take, List.drop_drop, Nat.sub_mul]

/-- A cell of it is written. -/
theorem Seg.put {g off c : Nat} (h : Seg w e size (.slice (some ⟨g, off, none⟩) n c) n xs) (j : Nat) (u : Value) : Seg (w.setCell ⟨g, off + j, none⟩ u) e size (.slice (some ⟨g, off, none⟩) n c) n (xs.set j u) := by
  rcases h.2 with ⟨h1, _⟩ | ⟨g', off', cap, cur, h1, hg, hc1, hc2, hc3, hx⟩
  · cases h1
  · simp only [Value.slice.injEq, Option.some.injEq, Addr.mk.injEq, and_true, true_and] at h1
    obtain ⟨⟨rfl, rfl⟩, rfl⟩ := h1
    have hg' : Has w g e cur := hg
    refine ⟨by rw [List.length_set, h.1], .inr ⟨g, off, c, _, rfl, hg'.put (off + j) u, hc1, hc2, by simpa using hc3, ?_⟩⟩
    rw [Array.toList_setIfInBounds, ← hx, List.drop_set, if_neg (by omega), Nat.add_sub_cancel_left, List.take_set]

theorem Seg.free {g off c : Nat} (h : Seg w e size (.slice (some ⟨g, off, none⟩) n c) n xs) (j : Nat) : w.frozen? ⟨g, j, none⟩ = false := by
  rcases h.2 with ⟨h1, _⟩ | ⟨g', off', cap, cur, h1, hg, _⟩
  · cases h1
  · simp only [Value.slice.injEq, Option.some.injEq, Addr.mk.injEq, and_true, true_and] at h1
    obtain ⟨⟨rfl, rfl⟩, rfl⟩ := h1
    have hg' : Has w g e cur := hg
    exact hg'.free j
end

section
variable {P : Program} (w : World)

theorem run_append_roomy (t ty e : TypeId) (i : TypeInfo) (ht : P.underlying t = some (.slice e)) (hi : P.info? e = some i)
    (g off sLen sCap : Nat) (cur : Array Value) (hg : w.heap[g]? = some (.cells cur e (0, 0)))
    (a : Addr) (m c : Nat) (news : List Value) (hl : news.length = m * i.size) (hnews : ∀ j u, news[j]? = some u → w.cell? (a.add j) = some u) (h1 : ∀ u ∈ news, u.oneCell' = true)
    (hroom : sLen + m ≤ sCap) (hfit : off + sLen * i.size + news.length ≤ cur.size) :
    (Builtin.append_ #[t, t] ty #[.slice (some ⟨g, off, none⟩) sLen sCap, .slice (some a) m c]).run P w =
      .ok (.slice (some ⟨g, off, none⟩) (sLen + m) sCap) (w.setRow g (cur.toList.take (off + sLen * i.size) ++ news ++ cur.toList.drop (off + sLen * i.size + news.length)).toArray) := by
  have hf := run_firstCells_some (P := P) w i.size m a m c news hl hnews
  have hst := run_storeCells_at P g (off + sLen * i.size) e news 0 cur w hg (by simpa using hfit) h1
  simp only [Nat.add_zero] at hst
  have ha : (⟨g, off, none⟩ : Addr).add (sLen * i.size) = ⟨g, off + sLen * i.size, none⟩ := by unfold Addr.add; split <;> simp_all
  simp [Builtin.append_, run_underlying ht, sizeOf, typeInfo, hi, Builtin.lenOf, hroom, hf, ha, hst]

theorem run_append_seg (t ty : TypeId) (e : TypeId) (i : TypeInfo) (z : Value) (size bytes : Nat) (ht : P.underlying t = some (.slice e)) (hi : P.info? e = some i) (hz : i.zero = some z)
    (hsize : i.size = size) (hby : i.bytes = bytes) (hzs : z.cells.size = size) (hsz : 0 < size)
    (v : Value) (n : Nat) (xs : List Value) (hown : Seg w e size v n xs)
    (a : Addr) (m c : Nat) (news : List Value) (hl : news.length = m * size) (hnews : ∀ j u, news[j]? = some u → w.cell? (a.add j) = some u) (h1 : ∀ u ∈ news, u.oneCell' = true)
    (hm : 0 < m) (h63 : n + m ≤ maxLen) (hbytes : (n + m) * bytes ≤ 140737488355328) (H : Nat) (hH : w.heap.size = H) :
    ∃ g off cap w', (Builtin.append_ #[t, t] ty #[v, .slice (some a) m c]).run P w = .ok (.slice (some ⟨g, off, none⟩) (n + m) cap) w' ∧
      Seg w' e size (.slice (some ⟨g, off, none⟩) (n + m) cap) (n + m) (xs ++ news) ∧ w.grownBy w' v.ownBlock ∧ (v.ownBlock = some g ∨ g = H) ∧ g < w'.heap.size := by
  subst hsize
  subst hby
  have hlen : (xs ++ news).length = (n + m) * i.size := by rw [List.length_append, hown.1, hl, Nat.add_mul]
  have hsmall : n + m ≤ 9223372036854775807 := by simp only [maxLen] at h63; omega
  rcases hown.2 with ⟨rfl, rfl⟩ | ⟨g, off, cap, cur, rfl, hg, hnc, hcm, hcs, htake⟩
  · obtain ⟨g, cap, w', hr, h2, h3, h4, h5⟩ := run_append_lies (P := P) w t ty 0 e i z i.size i.bytes ht hi hz rfl rfl hzs hsz (.slice none 0 0) 0 xs ⟨hown.1, .inl ⟨rfl, rfl⟩⟩ a m c news hl hnews h1 hm h63 hbytes (Nat.zero_le _) H hH
    exact ⟨g, 0, cap, w', hr, .of_own h2, h3, h4, h5⟩
  · by_cases hroom : n + m ≤ cap
    · have hfit : off + n * i.size + news.length ≤ cur.size := by
        have h2 : (n + m) * i.size ≤ cap * i.size := Nat.mul_le_mul_right _ hroom
        rw [Nat.add_mul] at h2
        rw [hl]
        omega
      have hr := run_append_roomy (P := P) w t ty e i ht hi g off n cap cur hg a m c news hl hnews h1 hroom hfit
      have hgl : g < w.heap.size := hown.lt rfl
      refine ⟨g, off, cap, _, hr, ⟨hlen, .inr ⟨g, off, cap, _, rfl, setRow_heap w g cur _ e _ hg, hroom, hcm, ?_, ?_⟩⟩, ⟨rfl, rfl, rfl, by simp, fun k _ hk => setRow_other w g k _ (fun e => hk (by simp [Value.ownBlock, e]))⟩, .inl rfl, by simpa [World.setRow] using hgl⟩
      · simp only [List.size_toArray, List.length_append, List.length_take, List.length_drop, Array.length_toList]
        omega
      · have h3 : (cur.toList.take (off + n * i.size)).drop off = xs := by rw [List.drop_take, ← htake]; congr 1; omega
        have h4 : off ≤ (cur.toList.take (off + n * i.size)).length := by simp only [List.length_take, Array.length_toList]; omega
        show (List.drop off (cur.toList.take (off + n * i.size) ++ news ++ cur.toList.drop (off + n * i.size + news.length))).take _ = _
        rw [List.append_assoc, List.drop_append_of_le_length h4, h3, ← List.append_assoc, ← hlen]
        exact List.take_left
    · have holds : ∀ j u, xs[j]? = some u → w.cell? ((⟨g, off, none⟩ : Addr).add j) = some u := by
        intro j u hj
        by_cases hn : 0 < n
        · obtain ⟨g', off', c', hv, _, _, _, hc⟩ := hown.cells hn
          simp only [Value.slice.injEq, Option.some.injEq, Addr.mk.injEq, and_true, true_and] at hv
          obtain ⟨⟨rfl, rfl⟩, rfl⟩ := hv
          have ha : (⟨g, off, none⟩ : Addr).add j = ⟨g, off + j, none⟩ := by unfold Addr.add; split <;> simp_all
          rw [ha]
          exact hc j u hj
        · obtain rfl : n = 0 := by omega
          have hx : xs = [] := List.eq_nil_of_length_eq_zero (by simpa using hown.1)
          rw [hx] at hj
          cases hj
      have hr := run_append_grow (P := P) w t ty e i z ht hi hz ⟨g, off, none⟩ n cap xs hown.1 holds a m c news hl hnews (by omega) (by omega) (growslice_fits (by omega) hbytes)
      refine ⟨_, 0, _, _, hr, ⟨hlen, .inr ⟨w.heap.size, 0, _, _, rfl, heap_alloc_new w.drew _, grownCap_ge w (n + m) cap e, grownCap_le_maxLen w (n + m) cap e h63, ?_, ?_⟩⟩, ⟨rfl, rfl, rfl, by simp, fun k hk _ => Below.heap_alloc w.drew _ k hk⟩, .inr hH, by simp⟩
      · have hge := grownCap_ge w (n + m) cap e
        have h5 : (n + m) * i.size + (grownCap w (n + m) cap e - (n + m)) * i.size = grownCap w (n + m) cap e * i.size := by rw [← Nat.add_mul, Nat.add_sub_cancel' hge]
        simp only [Array.size_append, List.size_toArray, size_zeroCells, hzs, hown.1, hl]
        rw [Nat.add_mul] at h5
        omega
      · simp only [Array.toList_append, List.append_assoc, List.drop_zero]
        rw [← List.append_assoc, ← hlen]
        exact List.take_left

/-- At the operation. -/
theorem wp_append_seg {o : Oper} {a : Act} {K : Act → World → Prop} {Q : Exit → Act → World → Prop} (s x : Operand) (t : TypeId)
    (ho : o.op = .call { callee := .builtin .append, args := #[s, x], argTypes := #[t, t] })
    (e : TypeId) (i : TypeInfo) (z : Value) (size bytes : Nat) (ht : P.underlying t = some (.slice e)) (hi : P.info? e = some i) (hz : i.zero = some z)
    (hsize : i.size = size) (hby : i.bytes = bytes) (hzs : z.cells.size = size) (hsz : 0 < size)
    (v : Value) (n : Nat) (xs : List Value) (hs : a.eval s = v) (hown : Seg w e size v n xs)
    (ad : Addr) (m c : Nat) (news : List Value) (hx : a.eval x = .slice (some ad) m c) (hl : news.length = m * size) (hnews : ∀ j u, news[j]? = some u → w.cell? (ad.add j) = some u) (h1 : ∀ u ∈ news, u.oneCell' = true)
    (hm : 0 < m) (h63 : n + m ≤ maxLen) (hbytes : (n + m) * bytes ≤ 140737488355328) (H : Nat) (hH : w.heap.size = H)
    (h : ∀ g off cap w', Seg w' e size (.slice (some ⟨g, off, none⟩) (n + m) cap) (n + m) (xs ++ news) → w.grownBy w' v.ownBlock → (v.ownBlock = some g ∨ g = H) → g < w'.heap.size → K (a.put o.dst (.slice (some ⟨g, off, none⟩) (n + m) cap)) w') : o.wp P a w K Q := by
  obtain ⟨g, off, cap, w', hr, h2, h3, h4, h5⟩ := run_append_seg (P := P) w t o.type e i z size bytes ht hi hz hsize hby hzs hsz v n xs hown ad m c news hl hnews h1 hm h63 hbytes H hH
  unfold Oper.wp execOp
  simp only [ho, resolve, invoke, builtin, Sem.run_bind, Sem.run_pure, Result.andThen_ok, List.map_toArray, List.map_cons, List.map_nil, hs, hx, hr]
  exact h g off cap w' h2 h3 h4 h5

/-- At the list of a plain region's operations. -/
theorem wpList_append_seg {ops : Array Oper} {rest : List Oper} {o : Oper} {a : Act} {Q : Exit → Act → World → Prop} (hgd : o.guard = none) (s x : Operand) (t : TypeId)
    (ho : o.op = .call { callee := .builtin .append, args := #[s, x], argTypes := #[t, t] })
    (e : TypeId) (i : TypeInfo) (z : Value) (size bytes : Nat) (ht : P.underlying t = some (.slice e)) (hi : P.info? e = some i) (hz : i.zero = some z)
    (hsize : i.size = size) (hby : i.bytes = bytes) (hzs : z.cells.size = size) (hsz : 0 < size)
    (v : Value) (n : Nat) (xs : List Value) (hs : a.eval s = v) (hown : Seg w e size v n xs)
    (ad : Addr) (m c : Nat) (news : List Value) (hx : a.eval x = .slice (some ad) m c) (hl : news.length = m * size) (hnews : ∀ j u, news[j]? = some u → w.cell? (ad.add j) = some u) (h1 : ∀ u ∈ news, u.oneCell' = true)
    (hm : 0 < m) (h63 : n + m ≤ maxLen) (hbytes : (n + m) * bytes ≤ 140737488355328) (H : Nat) (hH : w.heap.size = H)
    (h : ∀ g off cap w', Seg w' e size (.slice (some ⟨g, off, none⟩) (n + m) cap) (n + m) (xs ++ news) → w.grownBy w' v.ownBlock → (v.ownBlock = some g ∨ g = H) → g < w'.heap.size → wpList P ops Q rest (a.put o.dst (.slice (some ⟨g, off, none⟩) (n + m) cap)) w') : wpList P ops Q (o :: rest) a w :=
  wpList_plain hgd fun _ hK => wp_append_seg w s x t ho e i z size bytes ht hi hz hsize hby hzs hsz v n xs hs hown ad m c news hx hl hnews h1 hm h63 hbytes H hH fun g off cap w' h2 h3 h4 h5 => hK _ _ (h g off cap w' h2 h3 h4 h5)

end
end Go.Proofs.YtcdedkgkingbdaaGreatDoor
end

section
/- Lists that are made of pieces of one length. Of no program. -/
namespace Go.Proofs.YtcdedkgkingbdaaGreatDoor

/-- The pieces of k places, from a on. -/
def flat {α : Type} (g : Nat → List α) (a k : Nat) : List α := (List.range' a k).flatMap g

section
variable {α : Type} {g h : Nat → List α} {a k w : Nat}

theorem flat_zero (g : Nat → List α) (a : Nat) : flat g a 0 = [] := rfl
theorem flat_succ (g : Nat → List α) (a k : Nat) : flat g a (k + 1) = g a ++ flat g (a + 1) k := by
  unfold flat
  rw [List.range'_succ, List.flatMap_cons]
theorem flat_snoc (g : Nat → List α) (a k : Nat) : flat g a (k + 1) = flat g a k ++ g (a + k) := by
  unfold flat
  rw [List.range'_concat, List.flatMap_append]
  simp
theorem flat_add (g : Nat → List α) (a k m : Nat) : flat g a (k + m) = flat g a k ++ flat g (a + k) m := by
  induction m with
  | zero => simp [flat_zero]
  | succ m ih => rw [← Nat.add_assoc, flat_snoc, ih, flat_snoc, List.append_assoc, Nat.add_assoc]
theorem flat_congr (e : ∀ i, a ≤ i → i < a + k → g i = h i) : flat g a k = flat h a k := by
  induction k with
  | zero => rfl
  | succ k ih => rw [flat_snoc, flat_snoc, ih (fun i h1 h2 => e i h1 (by omega)), e (a + k) (by omega) (by omega)]
theorem flat_len (e : ∀ i, a ≤ i → i < a + k → (g i).length = w) : (flat g a k).length = k * w := by
  induction k with
  | zero => simp [flat_zero]
  | succ k ih => rw [flat_snoc, List.length_append, ih (fun i h1 h2 => e i h1 (by omega)), e (a + k) (by omega) (by omega), Nat.succ_mul]
theorem flat_get (e : ∀ i, a ≤ i → i < a + k → (g i).length = w) {j r : Nat} (hj : j < k) (hr : r < w) : (flat g a k)[j * w + r]? = (g (a + j))[r]? := by
  obtain ⟨m, rfl⟩ : ∃ m, k = j + (m + 1) := ⟨k - j - 1, by omega⟩
  have h1 : (flat g a j).length = j * w := flat_len (fun i h1 h2 => e i h1 (by omega))
  rw [flat_add, List.getElem?_append_right (by omega), h1, Nat.add_sub_cancel_left, flat_succ, List.getElem?_append_left (by rw [e (a + j) (by omega) (by omega)]; exact hr)]
theorem flat_drop (e : ∀ i, a ≤ i → i < a + k → (g i).length = w) {m : Nat} (hm : m ≤ k) : (flat g a k).drop (m * w) = flat g (a + m) (k - m) := by
  obtain ⟨q, rfl⟩ : ∃ q, k = m + q := ⟨k - m, by omega⟩
  have h1 : (flat g a m).length = m * w := flat_len (fun i h1 h2 => e i h1 (by omega))
  rw [flat_add, ← h1, List.drop_left, Nat.add_sub_cancel_left]
theorem flat_take (e : ∀ i, a ≤ i → i < a + k → (g i).length = w) {m : Nat} (hm : m ≤ k) : (flat g a k).take (m * w) = flat g a m := by
  obtain ⟨q, rfl⟩ : ∃ q, k = m + q := ⟨k - m, by omega⟩
  have h1 : (flat g a m).length = m * w := flat_len (fun i h1 h2 => e i h1 (by omega))
  rw [flat_add, ← h1, List.take_left]
theorem flat_set (e : ∀ i, a ≤ i → i < a + k → (g i).length = w) {j r : Nat} (hj : j < k) (hr : r < w) (u : α) : (flat g a k).set (j * w + r) u = flat (fun i => if i = a + j then (g i).set r u else g i) a k := by
  obtain ⟨m, rfl⟩ : ∃ m, k = j + (m + 1) := ⟨k - j - 1, by omega⟩
  have h1 : (flat g a j).length = j * w := flat_len (fun i h1 h2 => e i h1 (by omega))
  have e1 : flat (fun i => if i = a + j then (g i).set r u else g i) a j = flat g a j := flat_congr (fun i h1 h2 => by rw [if_neg (by omega)])
  have e2 : flat (fun i => if i = a + j then (g i).set r u else g i) (a + j + 1) m = flat g (a + j + 1) m := flat_congr (fun i h1 h2 => by rw [if_neg (by omega)])
  have e3 := flat_add (fun i => if i = a + j then (g i).set r u else g i) a j (m + 1)
  rw [flat_succ, e1, e2, if_pos rfl] at e3
  rw [e3, flat_add g a j (m + 1), flat_succ g, List.set_append_right _ _ (by omega), h1, Nat.add_sub_cancel_left, List.set_append_left _ _ (by rw [e (a + j) (by omega) (by omega)]; exact hr)]
end
end Go.Proofs.YtcdedkgkingbdaaGreatDoor
end

