/- Texts laid into one: PrfM, PruM, PruH, WireW, WNum, WSums, WTxt. -/
import Derived.Test.YtiobdhkadbipkaaDoorY001
import Derived.Test.YtiobdhkadbipkaaDoorY002
import Derived.Test.YtiobdhkadbipkaaDoorY005
import Derived.Test.YtiobdhkadbipkaaDoorY008
import Derived.Test.YtiobdhkadbipkaaDoorY000
import Derived.Test.YtiobdhkadbipkaaDoorY003
import Derived.Lib.ItoaWalk
import Derived.Deep.MidRow
section
/- proof: what sums prove (the mathematics). -/
namespace Go.Proofs.YtiobdhkadbipkaaDoor.prf
open Go Go.Proofs.YtiobdhkadbipkaaDoor.dig

/-- The root over n leaves, of the i-th one's sum x and of sums, the outermost first; z: what stands for none. -/
def up (z x : List UInt8) : List (List UInt8) → Nat → Nat → List UInt8 × Bool
  | [], _, n => if n = 1 then (x, true) else (z, false)
  | s :: r, i, n => if n = 1 then (x, false) else if i < half n then (nodeS (up z x r i (half n)).1 s, (up z x r i (half n)).2) else (nodeS s (up z x r (i - half n) (n - half n)).1, (up z x r (i - half n) (n - half n)).2)

theorem up_one (z x : List UInt8) (r : List (List UInt8)) (i : Nat) : up z x r i 1 = (x, r.isEmpty) := by
  cases r <;> simp [up]
theorem up_nil (z x : List UInt8) (i : Nat) {n : Nat} (h : n ≠ 1) : up z x [] i n = (z, false) := by simp [up, h]
theorem up_left (z x s : List UInt8) (r : List (List UInt8)) {i n : Nat} (h : n ≠ 1) (hi : i < half n) : up z x (s :: r) i n = (nodeS (up z x r i (half n)).1 s, (up z x r i (half n)).2) := by
  rw [up, if_neg h, if_pos hi]
theorem up_right (z x s : List UInt8) (r : List (List UInt8)) {i n : Nat} (h : n ≠ 1) (hi : ¬ i < half n) : up z x (s :: r) i n = (nodeS s (up z x r (i - half n) (n - half n)).1, (up z x r (i - half n) (n - half n)).2) := by
  rw [up, if_neg h, if_neg hi]

theorem up_len {z x : List UInt8} (hz : z.length = 32) (hx : x.length = 32) : ∀ (r : List (List UInt8)) (i n : Nat), (up z x r i n).1.length = 32
  | [], i, n => by by_cases h : n = 1 <;> simp [up, h, hz, hx]
  | s :: r, i, n => by
    by_cases h : n = 1
    · simp [up, h, hx]
    · by_cases hi : i < half n
      · rw [up_left z x s r h hi]; exact nodeS_length _ _
      · rw [up_right z x s r h hi]; exact nodeS_length _ _

/-- What stands for none matters in none that is right. -/
theorem up_any (z z' x : List UInt8) : ∀ (r : List (List UInt8)) (i n : Nat), (up z x r i n).2 = (up z' x r i n).2 ∧ ((up z x r i n).2 = true → (up z x r i n).1 = (up z' x r i n).1)
  | [], i, n => by by_cases h : n = 1 <;> simp [up, h]
  | s :: r, i, n => by
    by_cases h : n = 1
    · simp [up, h]
    · by_cases hi : i < half n
      · rw [up_left z x s r h hi, up_left z' x s r h hi]
        obtain ⟨h1, h2⟩ := up_any z z' x r i (half n)
        exact ⟨h1, fun e => by show nodeS _ _ = nodeS _ _; rw [h2 e]⟩
      · rw [up_right z x s r h hi, up_right z' x s r h hi]
        obtain ⟨h1, h2⟩ := up_any z z' x r (i - half n) (n - half n)
        exact ⟨h1, fun e => by show nodeS _ _ = nodeS _ _; rw [h2 e]⟩

/-- As many sums as it takes are a matter of their number alone. -/
theorem up_count (z x z' x' : List UInt8) : ∀ (r r' : List (List UInt8)) (i n : Nat), r.length = r'.length → (up z x r i n).2 = (up z' x' r' i n).2
  | [], [], i, n, _ => by by_cases h : n = 1 <;> simp [up, h]
  | s :: r, s' :: r', i, n, hl => by
    have hl' : r.length = r'.length := by simpa using hl
    by_cases h : n = 1
    · simp [up, h]
    · by_cases hi : i < half n
      · rw [up_left z x s r h hi, up_left z' x' s' r' h hi]; exact up_count z x z' x' r r' i (half n) hl'
      · rw [up_right z x s r h hi, up_right z' x' s' r' h hi]; exact up_count z x z' x' r r' (i - half n) (n - half n) hl'
  | [], _ :: _, _, _, hl => by cases hl
  | _ :: _, [], _, _, hl => by cases hl

/-- Of one number of leaves and one place there is one number of sums that it takes. -/
theorem up_more (z x z' x' : List UInt8) : ∀ (r r' : List (List UInt8)) (i n : Nat), (up z x r i n).2 = true → r.length ≠ r'.length → (up z' x' r' i n).2 = false
  | [], [], i, n, _, hl => by exact absurd rfl hl
  | s :: r, s' :: r', i, n, ho, hl => by
    have hl' : r.length ≠ r'.length := by simpa using hl
    by_cases h : n = 1
    · simp [up, h]
    · by_cases hi : i < half n
      · rw [up_left z x s r h hi] at ho; rw [up_left z' x' s' r' h hi]; exact up_more z x z' x' r r' i (half n) ho hl'
      · rw [up_right z x s r h hi] at ho; rw [up_right z' x' s' r' h hi]; exact up_more z x z' x' r r' (i - half n) (n - half n) ho hl'
  | [], s' :: r', i, n, ho, _ => by
    by_cases h : n = 1
    · simp [up, h]
    · rw [up_nil z x i h] at ho; cases ho
  | s :: r, [], i, n, ho, _ => by
    by_cases h : n = 1
    · rw [up, if_pos h] at ho; cases ho
    · rw [up_nil z' x' i h]

/-- The roots over the first m and over all n leaves; o: the first one's, f: it is known. -/
def both (z o : List UInt8) : List (List UInt8) → Bool → Nat → Nat → List UInt8 × List UInt8 × Bool
  | [], f, m, n => if m = n ∧ f = true then (o, o, true) else (z, z, false)
  | s :: r, f, m, n => if m = n ∧ f = true then (o, o, false) else if m = n then (s, s, r.isEmpty) else if m ≤ half n then ((both z o r f m (half n)).1, nodeS (both z o r f m (half n)).2.1 s, (both z o r f m (half n)).2.2) else (nodeS s (both z o r false (m - half n) (n - half n)).1, nodeS s (both z o r false (m - half n) (n - half n)).2.1, (both z o r false (m - half n) (n - half n)).2.2)

theorem both_known (z o : List UInt8) (r : List (List UInt8)) (n : Nat) : both z o r true n n = (o, o, r.isEmpty) := by cases r <;> simp [both]
theorem both_nil (z o : List UInt8) (f : Bool) {m n : Nat} (h : ¬ (m = n ∧ f = true)) : both z o [] f m n = (z, z, false) := by rw [both, if_neg h]
theorem both_all (z o s : List UInt8) (r : List (List UInt8)) (n : Nat) : both z o (s :: r) false n n = (s, s, r.isEmpty) := by simp [both]
theorem both_left (z o s : List UInt8) (r : List (List UInt8)) (f : Bool) {m n : Nat} (h : m ≠ n) (hm : m ≤ half n) : both z o (s :: r) f m n = ((both z o r f m (half n)).1, nodeS (both z o r f m (half n)).2.1 s, (both z o r f m (half n)).2.2) := by
  rw [both, if_neg (fun e => h e.1), if_neg h, if_pos hm]
theorem both_right (z o s : List UInt8) (r : List (List UInt8)) (f : Bool) {m n : Nat} (h : m ≠ n) (hm : ¬ m ≤ half n) : both z o (s :: r) f m n = (nodeS s (both z o r false (m - half n) (n - half n)).1, nodeS s (both z o r false (m - half n) (n - half n)).2.1, (both z o r false (m - half n) (n - half n)).2.2) := by
  rw [both, if_neg (fun e => h e.1), if_neg h, if_neg hm]

theorem both_len {z o : List UInt8} (hz : z.length = 32) (ho : o.length = 32) : ∀ (r : List (List UInt8)) (f : Bool) (m n : Nat), (∀ x ∈ r, x.length = 32) → (both z o r f m n).1.length = 32 ∧ (both z o r f m n).2.1.length = 32
  | [], f, m, n, _ => by by_cases h : m = n ∧ f = true <;> simp [both, h, hz, ho]
  | s :: r, f, m, n, hr => by
    have hs := hr s (by simp)
    have hr' : ∀ x ∈ r, x.length = 32 := fun x hx => hr x (by simp [hx])
    by_cases h : m = n
    · subst h
      cases f
      · rw [both_all]; exact ⟨hs, hs⟩
      · rw [both_known]; exact ⟨ho, ho⟩
    · by_cases hm : m ≤ half n
      · rw [both_left z o s r f h hm]; exact ⟨(both_len hz ho r f m (half n) hr').1, nodeS_length _ _⟩
      · rw [both_right z o s r f h hm]; exact ⟨nodeS_length _ _, nodeS_length _ _⟩

theorem both_any (z z' o : List UInt8) : ∀ (r : List (List UInt8)) (f : Bool) (m n : Nat), (both z o r f m n).2.2 = (both z' o r f m n).2.2 ∧ ((both z o r f m n).2.2 = true → (both z o r f m n).1 = (both z' o r f m n).1 ∧ (both z o r f m n).2.1 = (both z' o r f m n).2.1)
  | [], f, m, n => by by_cases h : m = n ∧ f = true <;> simp [both, h]
  | s :: r, f, m, n => by
    by_cases h : m = n
    · subst h
      cases f
      · rw [both_all, both_all]; exact ⟨rfl, fun _ => ⟨rfl, rfl⟩⟩
      · rw [both_known, both_known]; exact ⟨rfl, fun _ => ⟨rfl, rfl⟩⟩
    · by_cases hm : m ≤ half n
      · rw [both_left z o s r f h hm, both_left z' o s r f h hm]
        obtain ⟨h1, h2⟩ := both_any z z' o r f m (half n)
        exact ⟨h1, fun e => ⟨(h2 e).1, by show nodeS _ _ = nodeS _ _; rw [(h2 e).2]⟩⟩
      · rw [both_right z o s r f h hm, both_right z' o s r f h hm]
        obtain ⟨h1, h2⟩ := both_any z z' o r false (m - half n) (n - half n)
        exact ⟨h1, fun e => ⟨by show nodeS _ _ = nodeS _ _; rw [(h2 e).1], by show nodeS _ _ = nodeS _ _; rw [(h2 e).2]⟩⟩

/-- Do sums prove a leaf: 0, 6 (no such place) or 12. -/
def inclE (leaf : List UInt8) (i n : Int) (root : List UInt8) (r : List (List UInt8)) : Int :=
  if i < 0 ∨ n ≤ i then 6 else if (up (List.replicate 32 0) (leafS leaf) r i.toNat n.toNat).2 = true ∧ (up (List.replicate 32 0) (leafS leaf) r i.toNat n.toNat).1 = root then 0 else 12

/-- Do they prove an elder head, of no more leaves? -/
def elderB (m : Nat) (old : List UInt8) (n : Nat) (root : List UInt8) (r : List (List UInt8)) : Bool :=
  if m = n then r.isEmpty && (old == root) else if m = 0 then r.isEmpty && (old == sum []) else
    (both (List.replicate 32 0) old r true m n).2.2 && ((both (List.replicate 32 0) old r true m n).1 == old) && ((both (List.replicate 32 0) old r true m n).2.1 == root)
def consE (m : Int) (old : List UInt8) (n : Int) (root : List UInt8) (r : List (List UInt8)) : Int :=
  if m < 0 ∨ n < m then 6 else if elderB m.toNat old n.toNat root r = true then 0 else 12
end Go.Proofs.YtiobdhkadbipkaaDoor.prf
end

section
/- prune: the mathematics: what a tree's proof of a leaf, and of a prefix, comes to. -/
namespace Go.Proofs.YtiobdhkadbipkaaDoor.prn
open Go Go.Proofs.YtiobdhkadbipkaaDoor.dig Go.Proofs.YtiobdhkadbipkaaDoor.prf

/-- The proof of a leaf comes to the root. -/
theorem up_path (z : List UInt8) (f : Nat → List UInt8) : ∀ (n i a : Nat), i < n → up z (f (a + i)) (path f i a n).reverse i n = (rt f a n, true) := by
  intro n
  induction n using Nat.strongRecOn with
  | _ n ih =>
    intro i a hi
    by_cases h2 : 2 ≤ n
    · have hp := half_pos n
      have hl := half_lt h2
      rw [path, dif_pos h2, rt_two f a h2]
      by_cases hh : i < half n
      · rw [if_pos hh, List.reverse_append, List.reverse_singleton, List.singleton_append, up_left _ _ _ _ (by omega) hh, ih (half n) hl i a hh]
      · rw [if_neg hh, List.reverse_append, List.reverse_singleton, List.singleton_append, up_right _ _ _ _ (by omega) hh]
        have h3 := ih (n - half n) (by omega) (i - half n) (a + half n) (by omega)
        rw [show a + half n + (i - half n) = a + i by omega] at h3
        rw [h3]
    · obtain rfl : n = 1 := by omega
      obtain rfl : i = 0 := by omega
      rw [path, dif_neg h2, List.reverse_nil, up_one, rt_one]
      rfl

/-- The proof of a prefix comes to both roots. -/
theorem both_steps (z o : List UInt8) (f : Nat → List UInt8) : ∀ (n m a : Nat) (first : Bool), 0 < m → m ≤ n → (first = true → o = rt f a m) →
    both z o (steps f m a n first).reverse first m n = (rt f a m, rt f a n, true) := by
  intro n
  induction n using Nat.strongRecOn with
  | _ n ih =>
    intro m a first h0 hm ho
    by_cases he : m = n
    · subst he
      rw [steps, if_pos rfl]
      cases first
      · rw [if_neg (by simp), List.reverse_singleton, both_all]
        rfl
      · rw [if_pos rfl, List.reverse_nil, both_known, ho rfl]
        rfl
    · have h2 : 2 ≤ n := by omega
      have hp := half_pos n
      have hl := half_lt h2
      rw [steps, if_neg he, dif_pos h2, rt_two f a h2]
      by_cases hh : m ≤ half n
      · rw [if_pos hh, List.reverse_append, List.reverse_singleton, List.singleton_append, both_left _ _ _ _ _ he hh, ih (half n) hl m a first h0 hh ho]
      · rw [if_neg hh, List.reverse_append, List.reverse_singleton, List.singleton_append, both_right _ _ _ _ _ he hh]
        have h3 := ih (n - half n) (by omega) (m - half n) (a + half n) false (by omega) (by omega) (fun h => by cases h)
        rw [h3]
        have hg := half_ge h2
        have e : half m = half n := half_of (j := Nat.log2 (n - 1)) (by show half n < m; omega) (by rw [Nat.pow_succ]; show m ≤ half n * 2; omega)
        have h4 := rt_two f a (n := m) (by omega)
        rw [e] at h4
        rw [h4]
end Go.Proofs.YtiobdhkadbipkaaDoor.prn
end

section
/- prune: Leaf, where it answers an error. -/
namespace Go.Proofs.YtiobdhkadbipkaaDoor.prn
open Go Go.RowKit Go.Proofs.YtiobdhkadbipkaaDoor.dig Go.Proofs.YtiobdhkadbipkaaDoor.prf

section
variable {B : Nat} {F : Nat → Prop} {w : World} {b vb N fl : Nat} {f : Nat → List UInt8} {L : List ByteArray}

set_option maxRecDepth 100000 in
set_option maxHeartbeats 1000000 in
theorem _root_.Go.Proofs.YtiobdhkadbipkaaDoor.dig.Tr.inclusion_range (hT : Tr B F w b N fl f) (x n : Int) (h : n < 0 ∨ n > N ∨ x < 0 ∨ x ≥ n) :
    Calls Tryd.prog 34 #[.pointer (some ⟨b, 0, none⟩), .int .i64 x, .int .i64 n] w fun en w' => en = .returned (.tuple #[.slice none 0 0, .int .i64 6]) ∧ w = w' := by
  obtain ⟨rv, hh⟩ := hT.head
  have e0 := hh.cell 0
  simp at e0
  clear hT hh
  by_cases h1 : n < 0
  · clear h
    go_enter Tryd.func34, Tryd.ntmps34
    go_wp2_with fail
    go_ret2
    exact ⟨rfl, rfl⟩
  by_cases h2 : n > (N : Int)
  · clear h
    go_enter Tryd.func34, Tryd.ntmps34
    go_wp2_with fail
    go_ret2
    exact ⟨rfl, rfl⟩
  by_cases h3 : x < 0
  · clear h
    go_enter Tryd.func34, Tryd.ntmps34
    go_wp2_with fail
    go_ret2
    exact ⟨rfl, rfl⟩
  · have h4 : x ≥ n := by omega
    clear h
    go_enter Tryd.func34, Tryd.ntmps34
    go_wp2_with fail
    go_ret2
    exact ⟨rfl, rfl⟩

theorem Va.leaf_range (h : Va B F w vb L fl) (x n : Int) (hx : n < 0 ∨ n > L.length ∨ x < 0 ∨ x ≥ n) :
    Calls Tryd.prog 29 #[.pointer (some ⟨vb, 0, none⟩), .int .i64 x, .int .i64 n] w (PairErr w (.agg (prC 0 0 0 (.slice none 0 0))) leafNm x 6) :=
  h.leaf_err x n 6 (by decide) fun _ _ ⟨_, tr⟩ => tr.inclusion_range x n hx
theorem Va.leaf_low (h : Va B F w vb L fl) (i n : Nat) (hn : n ≤ L.length) (hi : i < n) (hf : i < fl) :
    Calls Tryd.prog 29 #[.pointer (some ⟨vb, 0, none⟩), .int .i64 i, .int .i64 n] w (PairErr w (.agg (prC 0 0 0 (.slice none 0 0))) leafNm i 14) :=
  h.leaf_err i n 14 (by decide) fun _ _ ⟨_, tr⟩ => tr.inclusion_low i n hn hi hf

theorem path_leaf_range (b : Nat) (a : Int) : flt.pathB [⟨b, leafNm, a⟩] 6 = ⟨#[108, 101, 97, 102, 47, 114, 97, 110, 103, 101]⟩ := by rfl
theorem path_floor_pruned (b : Nat) (a : Int) : flt.pathB [⟨b, floorB, a⟩] 14 = ⟨#[102, 108, 111, 111, 114, 47, 112, 114, 117, 110, 101, 100]⟩ := by rfl
theorem path_floor_arg (b : Nat) (a : Int) : flt.pathB [⟨b, floorB, a⟩] 4 = ⟨#[102, 108, 111, 111, 114, 47, 97, 114, 103]⟩ := by rfl

/-- What a vault's own proof of a leaf proves. -/
theorem incl_path {L : List ByteArray} {i n : Nat} (hi : i < n) {s : ByteArray} (hs : L[i]? = some s) : inclE s.data.toList i n (rtAll (leafF L) n) (path (leafF L) i 0 n).reverse = 0 := by
  have h := up_path (List.replicate 32 0) (leafF L) n i 0 hi
  rw [Nat.zero_add, leafF_at L i s hs] at h
  unfold inclE
  rw [if_neg (by omega), Int.toNat_natCast, Int.toNat_natCast, h]
  exact if_pos ⟨rfl, by unfold rtAll; rw [if_neg (by omega)]⟩
end
end Go.Proofs.YtiobdhkadbipkaaDoor.prn
end

section
/- What each call of wire's Writer does: the bytes that are written, behind it. -/
namespace Go.Proofs.YtiobdhkadbipkaaDoor
open Go.RowKit



/-- A writer at block b, its bytes in row r. -/
def Wr (w : World) (b : Nat) (r : Option Nat) (xs : List UInt8) : Prop :=
  ∃ v, Has w b 90 #[v] ∧ w.ownsRow 0 5 1 v xs.length (xs.map byteV) ∧ v.ownBlock = r ∧ r ≠ some b

/-- The digits of what is above the last seven bits. -/
def hi (n : Nat) : List UInt8 := if n = 0 then [] else hi (n / 128) ++ [UInt8.ofNat (128 + n % 128)]
termination_by n
decreasing_by omega

def enc (n : Nat) : List UInt8 := hi (n / 128) ++ [UInt8.ofNat (n % 128)]

/-- Behind a writer's call: the bytes xs stand there, only its own blocks have turned. -/
def WrPost (w : World) (b : Nat) (r : Option Nat) (xs : List UInt8) (en : Ending) (w' : World) : Prop :=
  en = .returned (.pointer (some ⟨b, 0, none⟩)) ∧ ∃ r', Wr w' b r' xs ∧ (r' = r ∨ ∃ k, r' = some k ∧ w.heap.size ≤ k) ∧ Turn (fun k => k = b ∨ some k = r) w w'

theorem Tryd.infoByte : (Tryd.prog.info? 5).map (fun i => (i.zero, i.size, i.bytes)) = some (some (.int .u8 0), 1, 1) := by kernel_rfl

/-- The byte that bears seven bits and the mark. -/
def dig (n k : Nat) : UInt8 := UInt8.ofNat (128 + n / 2 ^ (7 * k) % 128)
def low (n : Nat) : UInt8 := UInt8.ofNat (n % 128)

theorem pow7 (n k : Nat) : n / 2 ^ (7 * (k + 1)) = n / 2 ^ (7 * k) / 128 := by
  rw [Nat.mul_succ, Nat.pow_add, ← Nat.div_div_eq_div_mul]

theorem hi_zero : hi 0 = [] := by rw [hi, if_pos rfl]

theorem hi_step (n k : Nat) (h : 0 < n / 2 ^ (7 * k)) : hi (n / 2 ^ (7 * k)) = hi (n / 2 ^ (7 * (k + 1))) ++ [dig n k] := by
  rw [hi, if_neg (by omega), pow7]; rfl

theorem enc_eq (n : Nat) : enc n = hi (n / 2 ^ (7 * (0 + 1))) ++ [low n] := rfl

theorem wrap_u8 (n : Nat) : IntKind.u8.wrap (n : Int) = ((n % 256 : Nat) : Int) := by
  rw [IntKind.wrap_u8]; omega

theorem or_mark (n k : Nat) : bits .or .u8 (IntKind.u8.wrap ((n : Int) / 2 ^ (7 * k))) 128 = ((dig n k).toNat : Int) := by
  have e : ((n : Int) / 2 ^ (7 * k)) = ((n / 2 ^ (7 * k) : Nat) : Int) := by simp
  rw [e, wrap_u8]
  unfold dig
  generalize n / 2 ^ (7 * k) = m at *
  have hh := u8_or_nat (m % 256) 128 (by omega) (by omega)
  have e2 : m % 256 ||| 128 = 128 + m % 128 := by
    have h1 := Nat.shiftLeft_add_eq_or_of_lt (a := 1) (b := m % 128) (i := 7) (by omega)
    have h2 : m % 256 ||| 128 = 128 ||| m % 128 := by
      rw [Nat.or_comm]
      have h3 : m % 256 = m % 128 ∨ m % 256 = 128 + m % 128 := by omega
      rcases h3 with h3 | h3
      · rw [h3]
      · rw [h3]
        have h4 : 128 + m % 128 = 128 ||| m % 128 := by simpa using h1
        rw [h4, ← Nat.or_assoc, Nat.or_self]
    rw [h2]
    have h4 : 128 + m % 128 = 128 ||| m % 128 := by simpa using h1
    exact h4.symm
  rw [e2] at hh
  have : (UInt8.ofNat (128 + m % 128)).toNat = 128 + m % 128 := by simp; omega
  rw [this]
  exact hh

theorem andnot_low (n : Nat) : bits .andNot .u8 ((n : Int) % 256) 128 = ((low n).toNat : Int) := by
  have h := u8_andNot_nat (n % 256) 128 (by omega) (by omega)
  have e : n % 256 &&& (255 - 128) = n % 256 % 128 := Nat.and_two_pow_sub_one_eq_mod _ 7
  rw [e] at h
  have : (low n).toNat = n % 256 % 128 := by unfold low; simp; omega
  rw [this]
  exact h

theorem hi_len (k : Nat) : ∀ n, n < 128 ^ k → (hi n).length ≤ k := by
  induction k with
  | zero => intro n hn; have : n = 0 := by omega
            rw [this, hi_zero]; exact Nat.le_refl _
  | succ k ih =>
    intro n hn
    by_cases h : n = 0
    · rw [h, hi_zero]; exact Nat.zero_le _
    · rw [hi, if_neg h, List.length_append, List.length_singleton]
      have := ih (n / 128) (by rw [Nat.pow_succ] at hn; omega)
      omega

theorem hi_len10 (n j : Nat) (h : n < 18446744073709551616) : (hi (n / 2 ^ (7 * j))).length ≤ 10 :=
  hi_len 10 _ (by have := Nat.div_le_self n (2 ^ (7 * j)); omega)

/-- Bytes are appended to a writer's own: the new row, what turns. -/
theorem Wr.grow {w W1 w2 : World} {b g cap n : Nat} {v : Value} {r : Option Nat} {ys : List UInt8} (hb : Has w b 90 #[v]) (hv : v.ownBlock = r) (hne : r ≠ some b)
    (hT : Turn (fun _ => False) w W1) (hg : W1.grownBy w2 v.ownBlock) (hown : w2.ownsRow 0 5 1 (.slice (some ⟨g, 0, none⟩) n cap) n (ys.map byteV)) (hat : v.ownBlock = some g ∨ w.heap.size ≤ g) :
    Wr (w2.setCell ⟨b, 0, none⟩ (.slice (some ⟨g, 0, none⟩) n cap)) b (some g) ys ∧ (some g = r ∨ ∃ k, some g = some k ∧ w.heap.size ≤ k) ∧
      Turn (fun k => k = b ∨ some k = r) w (w2.setCell ⟨b, 0, none⟩ (.slice (some ⟨g, 0, none⟩) n cap)) := by
  have hbg : g ≠ b := by
    rintro rfl
    rcases hat with h | h
    · exact hne (by rw [← hv, h])
    · have := hb.lt; omega
  have hT2 : Turn (fun k => k = b ∨ some k = r) w w2 :=
    (hT.more (fun _ _ h => h.elim)).grown hg (fun j hj _ => .inr (by rw [← hj, hv]))
  have hb2 : Has w2 b 90 #[v] := (hb.turn hT (fun h => h)).grown hg (by rw [hv]; exact fun h => hne h.symm)
  have hn : n = ys.length := by have := hown.1; simpa using this.symm
  subst hn
  refine ⟨⟨_, by simpa using hb2.put 0 (.slice (some ⟨g, 0, none⟩) ys.length cap), ?_, rfl, by intro h; injection h with h; exact hbg h⟩, ?_, hT2.put (fun _ => .inl rfl) 0 _⟩
  · refine ⟨hown.1, ?_⟩
    rcases hown.2 with ⟨h, _⟩ | ⟨g', cap', cur, h1, h2, h3, h4⟩
    · cases h
    · have e : g = g' := by injection h1 with h1; injection h1 with h1; injection h1
      subst e
      exact .inr ⟨g, cap', cur, h1, h2, (Below.heap_setCell w2 _ _ g hbg).trans h3, h4⟩
  · rcases hat with h | h
    · exact .inl (by rw [← hv, h])
    · exact .inr ⟨g, rfl, h⟩

theorem alloc_only (w : World) (o : Obj) : Turn (fun _ => False) w (w.alloc o) := (Turn.refl _ w).alloc o

theorem alloc_still (w : World) (o : Obj) : Turn (fun _ => False) w (w.alloc o).drew := ((Turn.refl _ w).alloc o).drew

set_option maxRecDepth 100000 in
set_option maxHeartbeats 1000000 in
theorem wnum_any (b : Nat) (r : Option Nat) (xs : List UInt8) (n : Nat) (w : World) (hn : n < 18446744073709551616) (h : Wr w b r xs) (hl : xs.length ≤ 1000000) :
    Calls Tryd.prog 51 #[.pointer (some ⟨b, 0, none⟩), .int .u64 n] w fun en w' => WrPost w b r (xs ++ enc n) en w' := by
  have HN := Lib.hid hn
  have HW := Lib.hid h
  clear hn h
  obtain ⟨i0, hi0, hz0, hz1, hz2⟩ := info_parts Tryd.infoByte
  go_enter Tryd.func51, Tryd.ntmps51
  go_wp2_with fail
  go_loop [5] (fun i => ∃ k : Nat, k ≤ 9 ∧ i = .int .i64 (7 * (k : Int)) ∧ Hid (k = 0 ∨ 0 < n / 2 ^ (7 * k))) (fun i => 100 - (intOf i).toNat)
  case atStart => exact ⟨0, by omega, rfl, .inl rfl⟩
  case round =>
    obtain ⟨k, hk, rfl, HC⟩ := hrel
    by_cases ht : (128 : Int) ≤ (n : Int) / 2 ^ (7 * k)
    · have hk9 : k + 1 ≤ 9 := by
        have e : ((n : Int) / 2 ^ (7 * k)) = ((n / 2 ^ (7 * k) : Nat) : Int) := by simp
        rw [e] at ht
        have h1 : 128 ≤ n / 2 ^ (7 * k) := by omega
        have hn := HN.out
        rcases Nat.lt_or_ge k 9 with h | h
        · omega
        · have h2 : n / 2 ^ (7 * k) ≤ n / 2 ^ (7 * 9) := Nat.div_le_div_left (Nat.pow_le_pow_right (by omega) (by omega)) (Nat.pos_of_ne_zero (by simp))
          omega
      have HC' : Hid (k + 1 = 0 ∨ 0 < n / 2 ^ (7 * (k + 1))) := .inr (by
        rw [pow7]
        have e : ((n : Int) / 2 ^ (7 * k)) = ((n / 2 ^ (7 * k) : Nat) : Int) := by simp
        rw [e] at ht
        clear e
        generalize n / 2 ^ (7 * k) = m at ht ⊢
        omega)
      go_wp2_with fail
      go_round
      case rel => exact ⟨k + 1, hk9, by go_num, HC'⟩
      case measure => simp [intOf]; omega
    · have HK : Hid (n / 2 ^ (7 * k) < 128) := by
        have e : ((n : Int) / 2 ^ (7 * k)) = ((n / 2 ^ (7 * k) : Nat) : Int) := by simp
        rw [e] at ht
        show n / 2 ^ (7 * k) < 128
        omega
      go_wp2_with fail
      go_loopw [5] (fun i w1 => ∃ (j : Nat) (r1 : Option Nat), j ≤ k ∧ i = .int .i64 (7 * (j : Int)) ∧ Hid (Wr w1 b r1 (xs ++ hi (n / 2 ^ (7 * (j + 1))))) ∧ Hid (r1 = r ∨ ∃ k, r1 = some k ∧ w.heap.size ≤ k) ∧ Turn (fun k => k = b ∨ some k = r) w w1) (fun i _ => (intOf i).toNat)
      case atStart =>
        have e : hi (n / 2 ^ (7 * (k + 1))) = [] := by
          rw [pow7]
          have h1 := HK.out
          generalize n / 2 ^ (7 * k) = m at h1 ⊢
          rw [show m / 128 = 0 by omega, hi_zero]
        exact ⟨k, r, Nat.le_refl _, rfl, by rw [e, List.append_nil]; exact HW, .inl rfl, Turn.refl _ _⟩
      case round =>
        obtain ⟨j, r1, hj, rfl, HW1, HR1, HT1⟩ := hrel
        obtain ⟨v, hb, ho, hv, hne⟩ := HW1.out
        have c0 : wr.cell? ⟨b, 0, none⟩ = some v := hb.cell 0
        have hlen : (hi (n / 2 ^ (7 * (j + 1)))).length ≤ 10 := hi_len10 n (j + 1) HN.out
        have hbl := hb.lt
        have HB := Lib.hid hb
        have HO := Lib.hid ho
        have HV := Lib.hid hv
        have HNE := Lib.hid hne
        clear hb ho hv hne
        by_cases hj0 : 0 < j
        · have hor := or_mark n j
          have e7 : (7 * (j : Int)).toNat = 7 * j := by omega
          have HJ : Hid (0 < n / 2 ^ (7 * j)) := by
            rcases HC.out with h | h
            · omega
            · exact Nat.lt_of_lt_of_le h (Nat.div_le_div_left (Nat.pow_le_pow_right (by omega) (by omega)) (Nat.pos_of_ne_zero (by simp)))
          go_wp2_with fail
          go_region_law (refine step_append_lies _ rfl (.tmp 20) (.tmp 26) 35 rfl 0 5 i0 (.int .u8 0) 1 1 Tryd.underlying35 hi0 hz0 hz1 hz2 rfl (by decide) v (xs ++ hi (n / 2 ^ (7 * (j + 1)))).length _ (by simp [Act.eval]) (by exact (HO.out.alloc _).drew) ⟨wr.heap.size, 0, none⟩ 1 1 [byteV (dig n j)] (by simp [Act.eval]) rfl (by exact World.news_of_block (heap_alloc_new _ _)) (by simp [byteV, Value.oneCell']) (by decide) (by unfold maxLen; simp; omega) (by simp; omega) (Nat.zero_le _) _ rfl ?_
                         intro g cap w2 hown hg hat hlt
                         have c2 : w2.cell? ⟨b, 0, none⟩ = some v := ((HB.out.turn (alloc_still _ _) (fun h => h)).grown hg (by rw [HV.out]; exact fun h => HNE.out h.symm)).cell 0
                         have f2 : w2.frozen? ⟨b, 0, none⟩ = false := ((HB.out.turn (alloc_still _ _) (fun h => h)).grown hg (by rw [HV.out]; exact fun h => HNE.out h.symm)).free 0
                         have HOWN := Lib.hid hown
                         have HG := Lib.hid hg
                         have HAT := Lib.hid hat
                         clear hown hg hat hlt)
          all_goals
            obtain ⟨hw3, ha3, ht3⟩ := Wr.grow (ys := xs ++ hi (n / 2 ^ (7 * j))) HB.out HV.out HNE.out (alloc_still _ _) HG.out (n := xs.length + (hi (n / 2 ^ (7 * (j + 1)))).length + 1) (by
              have hown := HOWN.out
              rw [List.length_append] at hown
              rw [hi_step n j HJ.out, ← List.append_assoc, List.map_append]; exact hown) (HAT.out.imp id (fun h => by rw [h]; simp))
            have HW3 := Lib.hid hw3
            have HA3 : Hid (some g = r ∨ ∃ k, some g = some k ∧ w.heap.size ≤ k) := by
              rcases ha3 with h | ⟨k, h1, h2⟩
              · rcases HR1.out with h' | ⟨k, h1, h2⟩
                · exact .inl (h.trans h')
                · exact .inr ⟨k, h.trans h1, h2⟩
              · exact .inr ⟨k, h1, Nat.le_trans HT1.size h2⟩
            have HT3 : Turn (fun k => k = b ∨ some k = r) w _ := HT1.trans ht3 (fun i hi h => by
              rcases h with h | h
              · exact .inl h
              · rcases HR1.out with h' | ⟨k, h1, h2⟩
                · exact .inr (h.trans h')
                · rw [h1] at h; injection h with h; omega)
            clear hw3 ha3 ht3 c2 f2 HOWN HG HAT HO HB c0
            go_wp2_with fail
            go_roundw
            case rel => exact ⟨j - 1, some g, by omega, by rw [show 7 * ((j - 1 : Nat) : Int) = 7 * (j : Int) - 7 by omega], by rw [show j - 1 + 1 = j by omega]; exact HW3, HA3, HT3⟩
            case measure => simp [intOf]; omega
        · obtain rfl : j = 0 := by omega
          have hlo := andnot_low n
          have hb63 : (xs ++ hi (n / 2 ^ (7 * (0 + 1)))).length + 1 ≤ maxLen := by rw [List.length_append]; unfold maxLen; omega
          have hbB : ((xs ++ hi (n / 2 ^ (7 * (0 + 1)))).length + 1) * 1 ≤ 140737488355328 := by rw [List.length_append]; omega
          have K1 := Lib.hid hb63
          have K2 := Lib.hid hbB
          clear hb63 hbB
          go_wp2_with (at_builtin; refine wpList_append_lies _ rfl (.tmp 34) (.tmp 38) 35 rfl 0 5 i0 (.int .u8 0) 1 1 Tryd.underlying35 hi0 hz0 hz1 hz2 rfl (by decide) v (xs ++ hi (n / 2 ^ (7 * (0 + 1)))).length _ rfl (by exact (HO.out.alloc _)) ⟨wr.heap.size, 0, none⟩ 1 1 [byteV (low n)] rfl rfl (by exact World.news_of_block (heap_alloc_new _ _)) (by simp [byteV, Value.oneCell']) (by decide) (by exact K1.out) (by exact K2.out) (Nat.zero_le _) _ rfl ?_)
          intro g cap w2 hown hg hat hlt
          have c2 : w2.cell? ⟨b, 0, none⟩ = some v := ((HB.out.turn (alloc_only _ _) (fun h => h)).grown hg (by rw [HV.out]; exact fun h => HNE.out h.symm)).cell 0
          have f2 : w2.frozen? ⟨b, 0, none⟩ = false := ((HB.out.turn (alloc_only _ _) (fun h => h)).grown hg (by rw [HV.out]; exact fun h => HNE.out h.symm)).free 0
          have HOWN := Lib.hid hown
          have HG := Lib.hid hg
          have HAT := Lib.hid hat
          clear hown hg hat hlt
          go_wp2_with fail
          obtain ⟨hw3, ha3, ht3⟩ := Wr.grow (ys := xs ++ enc n) HB.out HV.out HNE.out (alloc_only _ _) HG.out (n := xs.length + (hi (n / 128)).length + 1) (cap := cap) (by
            have e : List.map byteV (xs ++ enc n) = List.map byteV xs ++ (List.map byteV (hi (n / 128)) ++ [byteV (low n)]) := by rw [List.map_append, enc, List.map_append]; rfl
            rw [e]
            exact HOWN.out) (HAT.out.imp id (fun h => by rw [h]; exact Nat.le_succ _))
          have HW3 := Lib.hid hw3
          have HA3 : Hid (some g = r ∨ ∃ k, some g = some k ∧ w.heap.size ≤ k) := by
            rcases ha3 with h | ⟨k, h1, h2⟩
            · rcases HR1.out with h' | ⟨k, h1, h2⟩
              · exact .inl (h.trans h')
              · exact .inr ⟨k, h.trans h1, h2⟩
            · exact .inr ⟨k, h1, Nat.le_trans HT1.size h2⟩
          have HT3 : Turn (fun k => k = b ∨ some k = r) w _ := HT1.trans ht3 (fun i hi h => by
            rcases h with h | h
            · exact .inl h
            · rcases HR1.out with h' | ⟨k, h1, h2⟩
              · exact .inr (h.trans h')
              · rw [h1] at h; injection h with h; omega)
          clear hw3 ha3 ht3 c2 f2 HOWN HG HAT HO HB c0
          go_ret
          exact ⟨rfl, some g, HW3, HA3, HT3⟩

end Go.Proofs.YtiobdhkadbipkaaDoor
end

section
/- wire: what is appended to a Writer's bytes; Num. -/
namespace Go.Proofs.YtiobdhkadbipkaaDoor
open Go.RowKit

/-- Bytes were appended to a writer's own, and the slice was laid back. -/
theorem Wr.close {w W1 w2 : World} {b : Nat} {v v' : Value} {r : Option Nat} {ys : List UInt8} (hb : Has w b 90 #[v]) (hv : v.ownBlock = r) (hne : r ≠ some b)
    (hT : Turn (fun _ => False) w W1) (hg : W1.grownBy w2 v.ownBlock) (hown : w2.ownsRow 0 5 1 v' ys.length (ys.map byteV)) (hat : v'.ownBlock = v.ownBlock ∨ ∃ k, v'.ownBlock = some k ∧ w.heap.size ≤ k) :
    WrPost w b r ys (.returned (.pointer (some ⟨b, 0, none⟩))) (w2.setCell ⟨b, 0, none⟩ v') := by
  have hbl := hb.lt
  have hnb : v'.ownBlock ≠ some b := by
    rcases hat with h | ⟨k, h, hk⟩
    · rw [h, hv]; exact hne
    · rw [h]; intro e; injection e with e; omega
  have hT2 : Turn (fun k => k = b ∨ some k = r) w w2 :=
    (hT.more (fun _ _ h => h.elim)).grown hg (fun j hj _ => .inr (by rw [← hj, hv]))
  have hb2 : Has w2 b 90 #[v] := (hb.turn hT (fun h => h)).grown hg (by rw [hv]; exact fun h => hne h.symm)
  refine ⟨rfl, v'.ownBlock, ⟨v', by simpa using hb2.put 0 v', ?_, rfl, hnb⟩, by rw [← hv]; exact hat, hT2.put (fun _ => .inl rfl) 0 _⟩
  refine ⟨hown.1, ?_⟩
  rcases hown.2 with h | ⟨g', cap', cur, h1, h2, h3, h4⟩
  · exact .inl h
  · have e : g' ≠ b := by rintro rfl; exact hnb (by rw [h1]; rfl)
    exact .inr ⟨g', cap', cur, h1, h2, (Below.heap_setCell w2 _ _ g' e).trans h3, h4⟩

theorem wnum_int (b : Nat) (r : Option Nat) (xs : List UInt8) (x : Int) (w : World) (h0 : 0 ≤ x) (hx : x < 18446744073709551616) (h : Wr w b r xs) (hl : xs.length ≤ 1000000) :
    Calls Tryd.prog 51 #[.pointer (some ⟨b, 0, none⟩), .int .u64 x] w fun en w' => WrPost w b r (xs ++ enc x.toNat) en w' := by
  obtain ⟨n, rfl⟩ := Int.eq_ofNat_of_zero_le h0
  exact wnum_any b r xs n w (by omega) h hl

theorem enc_len (n : Nat) (h : n < 18446744073709551616) : (enc n).length ≤ 11 := by
  unfold enc
  rw [List.length_append, List.length_singleton]
  have := hi_len 10 (n / 128) (by omega)
  omega

theorem WrPost.trans {w w1 w2 : World} {b : Nat} {r r1 : Option Nat} {xs : List UInt8} {en : Ending} (hr : r1 = r ∨ ∃ k, r1 = some k ∧ w.heap.size ≤ k) (ht : Turn (fun k => k = b ∨ some k = r) w w1)
    (h : WrPost w1 b r1 xs en w2) : WrPost w b r xs en w2 := by
  obtain ⟨he, r2, h2, hr2, t2⟩ := h
  refine ⟨he, r2, h2, ?_, ht.trans t2 (fun j hj h => ?_)⟩
  · rcases hr2 with h | ⟨k, h, hk⟩
    · subst h; exact hr
    · exact .inr ⟨k, h, Nat.le_trans ht.size hk⟩
  · rcases h with h | h
    · exact .inl h
    · rcases hr with e | ⟨k, e, hk⟩
      · exact .inr (by rw [← e]; exact h)
      · rw [e] at h; injection h with h; omega
end Go.Proofs.YtiobdhkadbipkaaDoor
end

section
/- wire: Writer's Sum, Sums (of a slice that lies anywhere). -/
namespace Go.Proofs.YtiobdhkadbipkaaDoor.ws
open Go Go.RowKit Go.Proofs.YtiobdhkadbipkaaDoor

set_option maxRecDepth 100000 in
set_option maxHeartbeats 1000000 in
theorem wsum_any (b : Nat) (r : Option Nat) (xs ys : List UInt8) (w : World) (h : Wr w b r xs) (hl : xs.length ≤ 1000000) (hy : ys.length = 32) :
    Calls Tryd.prog 71 #[.pointer (some ⟨b, 0, none⟩), .agg (cellsOf ys)] w fun en w' => WrPost w b r (xs ++ ys) en w' := by
  obtain ⟨i0, hi0, hz0, hz1, hz2⟩ := info_parts Tryd.infoByte
  obtain ⟨v, hb, ho, hv, hne⟩ := h
  have K1 : xs.length + 32 ≤ maxLen := by unfold maxLen; omega
  have K2 : (xs.length + 32) * 1 ≤ 140737488355328 := by omega
  have HK1 := Lib.hid K1
  have HK2 := Lib.hid K2
  clear K1 K2
  go_enter Tryd.func71, Tryd.ntmps71
  go_wp2_with fail
  go_name_world W hW
  have hbx : Has W w.heap.size 32 (cellsOf ys) := by rw [← hW]; exact Has.made _ _ _
  have hbW : Has W b 90 #[v] := by rw [← hW]; exact hb.alloc _
  have hoW : W.ownsRow 0 5 1 v xs.length (xs.map byteV) := by rw [← hW]; exact ho.alloc _
  have hTW : Turn (fun _ => False) w W := by rw [← hW]; exact (Turn.refl _ w).alloc _
  have c0 : W.cell? ⟨b, 0, none⟩ = some v := hbW.cell 0
  have hbl := hb.lt
  have HB := Lib.hid hb
  have HBX := Lib.hid hbx
  have HBW := Lib.hid hbW
  have HO := Lib.hid hoW
  have HV := Lib.hid hv
  have HNE := Lib.hid hne
  have HT := Lib.hid hTW
  clear hW hb ho hv hne hbW hoW hTW hbx
  go_region_law (refine step_append_lies _ rfl (.tmp 9) (.tmp 10) 35 rfl 0 5 i0 (.int .u8 0) 1 1 Tryd.underlying35 hi0 hz0 hz1 hz2 rfl (by decide) v xs.length _ (by simp [Act.eval]) (by exact HO.out.drew) ⟨w.heap.size, 0, none⟩ 32 32 (ys.map byteV) (by simp [Act.eval]) (by simp [hy]) (by exact World.news_of_block HBX.out.drew) (byteV_one _) (by decide) (by exact HK1.out) (by exact HK2.out) (Nat.zero_le _) _ rfl ?_
                 intro g cap w2 hown hg hat hlt
                 have c2 : w2.cell? ⟨b, 0, none⟩ = some v := (HBW.out.drew.grown hg (by rw [HV.out]; exact fun h => HNE.out h.symm)).cell 0
                 have f2 : w2.frozen? ⟨b, 0, none⟩ = false := (HBW.out.drew.grown hg (by rw [HV.out]; exact fun h => HNE.out h.symm)).free 0
                 have HOWN := Lib.hid hown
                 have HG := Lib.hid hg
                 have HAT := Lib.hid hat
                 clear hown hg hat hlt c0)
  all_goals
    go_wp2_with fail
    go_ret
    exact Wr.close (ys := xs ++ ys) HB.out HV.out HNE.out HT.out.drew HG.out (by
      have e1 : (xs ++ ys).length = xs.length + 32 := by rw [List.length_append, hy]
      have e2 : (xs ++ ys).map byteV = xs.map byteV ++ ys.map byteV := List.map_append
      rw [e1, e2]
      exact HOWN.out) (HAT.out.imp (fun h => h.symm) (fun h => ⟨g, rfl, by rw [h]; exact HT.out.size⟩))

/-- A slice of sums: its bytes lie in one block, from the first cell on. -/
def SumsAt (w : World) (sp : Option Addr) (L : List (List UInt8)) : Prop :=
  (∀ x ∈ L, x.length = 32) ∧ (L = [] ∨ ∃ g off, sp = some ⟨g, off, none⟩ ∧ w.rangeAt g off (L.flatten.map byteV))

theorem flatten_at : ∀ (L : List (List UInt8)) (i : Nat), (∀ x ∈ L, x.length = 32) → (h : i < L.length) → ∀ j u, (L[i].map byteV)[j]? = some u → (L.flatten.map byteV)[32 * i + j]? = some u
  | [], _, _, h => by simp at h
  | x :: L, 0, hl, _ => fun j u hj => by
    rw [List.flatten_cons, List.map_append, List.getElem?_append_left]
    · simpa using hj
    · have := (List.getElem?_eq_some_iff.1 hj).1
      simpa using this
  | x :: L, i + 1, hl, h => fun j u hj => by
    have hx : x.length = 32 := hl x (by simp)
    rw [List.flatten_cons, List.map_append, List.getElem?_append_right (by simp; omega)]
    have := flatten_at L i (fun y hy => hl y (by simp [hy])) (by simpa using h) j u (by simpa using hj)
    rw [List.length_map, hx, show 32 * (i + 1) + j - 32 = 32 * i + j by omega]
    exact this

theorem SumsAt.elem {w : World} {sp : Option Addr} {L : List (List UInt8)} (h : SumsAt w sp L) (i : Nat) (hi : i < L.length) : ∃ g off, sp = some ⟨g, off, none⟩ ∧ w.rangeAt g (off + i * 32) (L[i].map byteV) := by
  rcases h.2 with h0 | ⟨g, off, hg, hr⟩
  · subst h0; simp at hi
  · refine ⟨g, off, hg, fun j u hj => ?_⟩
    have := hr (32 * i + j) u (flatten_at L i h.1 hi j u hj)
    rw [show off + i * 32 + j = off + (32 * i + j) by omega]
    exact this

theorem SumsAt.turn {F : Nat → Prop} {w w' : World} {sp : Option Addr} {L : List (List UInt8)} (h : SumsAt w sp L) (t : Turn F w w') (hF : ∀ g off, sp = some ⟨g, off, none⟩ → ¬ F g) : SumsAt w' sp L := by
  refine ⟨h.1, h.2.imp id (fun ⟨g, off, hg, hr⟩ => ⟨g, off, hg, fun j u hj => ?_⟩)⟩
  have := hr j u hj
  have hlt := World.block_lt_of_cell? w _ this
  rw [t.cell (p := ⟨g, off + j, none⟩) hlt (hF g off hg)]
  exact this

theorem Wr.turn {F : Nat → Prop} {w w' : World} {b : Nat} {r : Option Nat} {xs : List UInt8} (h : Wr w b r xs) (t : Turn F w w') (hb : ¬ F b) (hr : ∀ k, r = some k → ¬ F k) : Wr w' b r xs := by
  obtain ⟨v, h1, h2, h3, h4⟩ := h
  refine ⟨v, h1.turn t hb, ⟨h2.1, ?_⟩, h3, h4⟩
  rcases h2.2 with h | ⟨g, cap, cur, e1, e2, e3, e4⟩
  · exact .inl h
  · have hg : g < w.heap.size := by
      rcases Nat.lt_or_ge g w.heap.size with k | k
      · exact k
      · rw [Array.getElem?_eq_none k] at e3; cases e3
    exact .inr ⟨g, cap, cur, e1, e2, (t.block g hg (hr g (by rw [← h3, e1]; rfl))).trans e3, e4⟩

theorem Wr.row_lt {w : World} {b : Nat} {r : Option Nat} {xs : List UInt8} (h : Wr w b r xs) {k : Nat} (hk : r = some k) : k < w.heap.size := by
  obtain ⟨v, h1, h2, h3, h4⟩ := h
  rcases h2.2 with ⟨h, _⟩ | ⟨g, cap, cur, e1, e2, e3, e4⟩
  · rw [h] at h3; subst hk; cases h3
  · rw [e1] at h3
    have : g = k := by rw [hk] at h3; injection h3
    subst this
    rcases Nat.lt_or_ge g w.heap.size with k | k
    · exact k
    · rw [Array.getElem?_eq_none k] at e3; cases e3

theorem flatten_len : ∀ (L : List (List UInt8)), (∀ x ∈ L, x.length = 32) → L.flatten.length = 32 * L.length
  | [], _ => rfl
  | x :: L, h => by
    rw [List.flatten_cons, List.length_append, h x (by simp), flatten_len L (fun y hy => h y (by simp [hy])), List.length_cons]
    omega

theorem take_flatten (L : List (List UInt8)) (k : Nat) (h : k < L.length) : (L.take (k + 1)).flatten = (L.take k).flatten ++ L[k] := by
  rw [List.take_succ_eq_append_getElem h, List.flatten_append]
  simp

/-- A whole array is loaded out of a range. -/
theorem wpList_load_at {P : Program} {w : World} {ops : Array Oper} {rest : List Oper} {o : Oper} {a : Act} {Q : Exit → Act → World → Prop} (hgd : o.guard = none) (ty : TypeId) (x : Operand) (ho : o.op = .load ty x)
    (g off : Nat) (hx : a.eval x = .pointer (some ⟨g, off, none⟩)) (xs : List UInt8) (e : TypeId) (n : Nat) (hg : w.rangeAt g off (xs.map byteV))
    (hu : P.underlying ty = some (.array n e)) (hi : (P.info? ty).map (·.size) = some n) (hl : xs.length = n)
    (h : wpList P ops Q rest (a.put o.dst (.agg (cellsOf xs))) w) : wpList P ops Q (o :: rest) a w :=
  wpList_load_mid hgd ty x ho g off hx (xs.map byteV) _ hg hu rfl (by rw [hi, List.length_map, hl]) h

set_option maxRecDepth 100000 in
set_option maxHeartbeats 1000000 in
theorem wsums_any (b : Nat) (r : Option Nat) (xs : List UInt8) (sp : Option Addr) (cap : Nat) (L : List (List UInt8)) (w : World) (h : Wr w b r xs) (hl : xs.length ≤ 1000) (hL : L.length ≤ 1000) (hs : SumsAt w sp L)
    (hd : ∀ g off, sp = some ⟨g, off, none⟩ → g ≠ b ∧ some g ≠ r ∧ g < w.heap.size) :
    Calls Tryd.prog 52 #[.pointer (some ⟨b, 0, none⟩), .slice sp L.length cap] w fun en w' => WrPost w b r (xs ++ enc L.length ++ L.flatten) en w' := by
  have hel := enc_len L.length (by omega)
  go_enter Tryd.func52, Tryd.ntmps52
  go_wp2_with fail
  refine (wnum_int b r xs _ w (by omega) (by omega) h (by omega)).mono ?_
  rintro en w1 ⟨rfl, r1, h1, hr1, t1⟩
  simp only [Int.toNat_natCast] at h1
  have HP : Hid (WrPost w b r (xs ++ enc L.length ++ (L.take 0).flatten) (.returned (.pointer (some ⟨b, 0, none⟩))) w1) := ⟨rfl, r1, by simpa using h1, hr1, t1⟩
  have HS := Lib.hid hs
  clear h h1 hr1 t1 hs
  go_wp2_with fail
  go_loopw [14] (fun i wr => ∃ k : Nat, k ≤ L.length ∧ i = .int .i64 k ∧ Hid (WrPost w b r (xs ++ enc L.length ++ (L.take k).flatten) (.returned (.pointer (some ⟨b, 0, none⟩))) wr)) (fun i _ => L.length - (intOf i).toNat)
  case atStart => exact ⟨0, Nat.zero_le _, rfl, HP⟩
  case round =>
    clear HP
    obtain ⟨k, hk, rfl, HP⟩ := hrel
    by_cases hlt : k < L.length
    · obtain ⟨_, r2, h2, hr2, t2⟩ := HP.out
      obtain ⟨g, off, rfl, hg⟩ := (HS.out.turn t2 (fun g off hg h => by
        obtain ⟨d1, d2, _⟩ := hd g off hg
        rcases h with h | h
        · exact d1 h
        · exact d2 h)).elem k hlt
      have hx : L[k].length = 32 := HS.out.1 _ (List.getElem_mem hlt)
      have hyl : (xs ++ enc L.length ++ (L.take k).flatten).length ≤ 1000000 := by
        rw [List.length_append, List.length_append, flatten_len _ (fun y hy => HS.out.1 y (List.mem_of_mem_take hy)), List.length_take]
        omega
      have htf := take_flatten L k hlt
      have HTF := Lib.hid htf
      have HYL := Lib.hid hyl
      have HX := Lib.hid hx
      have HG := Lib.hid hg
      have H2 := Lib.hid h2
      have HR2 := Lib.hid hr2
      have T2 := Lib.hid t2
      clear h2 hr2 t2 hg hx htf hyl
      generalize L[k] = x at *
      go_wp2_with (first
        | ((with_reducible refine at_op 17 ?_); refine wpList_load_at (o := ⟨some 17, _, _, _, _, _⟩) rfl 32 (.tmp 16) rfl g (off + k * 32) (by simp [Act.eval]) x 5 32 HG.out Tryd.underlying32 (by kernel_rfl) HX.out ?_)
        | ((with_reducible refine at_store (.tmp 6) ?_); refine wpList_store_arr (o := ⟨none, _, _, _, _, _⟩) rfl 32 (.tmp 6) (.tmp 17) rfl wr.heap.size x (List.replicate 32 (0 : UInt8)) rfl rfl 32 (made_at _ _ rfl) 32 (by kernel_rfl) (by simp) HX.out ?_))
      intro w3 z3 t3
      have h3 : Wr w3 b r2 (xs ++ enc L.length ++ (L.take k).flatten) := by
        have ha : Wr (wr.alloc (.cells (cellsOf (List.replicate 32 (0 : UInt8))) 32)) b r2 (xs ++ enc L.length ++ (L.take k).flatten) := Wr.turn H2.out (alloc_only _ _) (fun h => h) (fun _ _ h => h)
        obtain ⟨_, hb2, _⟩ := H2.out
        have hbl := hb2.lt
        exact Wr.turn ha t3 (by omega) (fun j hj => by have := Wr.row_lt H2.out hj; omega)
      have t4 : Turn (fun j => j = b ∨ some j = r) w w3 := (T2.out.alloc _).trans t3 (fun j hj h => by have := T2.out.size; omega)
      have H3 := Lib.hid h3
      have Z3 := Lib.hid z3
      have T4 := Lib.hid t4
      clear h3 z3 t3 t4
      go_wp2_with ((with_reducible refine at_op 19 ?_); refine wpList_load_arr (o := ⟨some 19, _, _, _, _, _⟩) rfl 32 (.tmp 6) rfl wr.heap.size rfl 32 x 5 32 Z3.out Tryd.underlying32 (by kernel_rfl) HX.out ?_)
      refine (wsum_any b r2 _ x w3 H3.out HYL.out HX.out).mono ?_
      intro en w4 hp
      have he := hp.1
      subst he
      have hp' : WrPost w b r (xs ++ enc L.length ++ (L.take (k + 1)).flatten) (.returned (.pointer (some ⟨b, 0, none⟩))) w4 := by
        rw [HTF.out, ← List.append_assoc]
        exact WrPost.trans HR2.out T4.out hp
      have HP' := Lib.hid hp'
      clear hp hp'
      go_wp2_with fail
      go_roundw
      case rel => exact ⟨k + 1, by omega, by go_num, HP'⟩
      case measure => simp [intOf]; omega
    · obtain rfl : k = L.length := by omega
      have hp := HP.out
      rw [List.take_length] at hp
      have HP' := Lib.hid hp
      clear hp HP
      go_wp2_with fail
      go_ret
      exact HP'.out
end Go.Proofs.YtiobdhkadbipkaaDoor.ws
end

section
/- wire: what Writer.Text gives. -/
namespace Go.Proofs.YtiobdhkadbipkaaDoor
open Go.RowKit

theorem own_text {P : Program} (w : World) (src dst e : TypeId) (hs : P.underlying src = some (.slice e)) (he : P.underlying e = some (.int .u8)) (hd : P.underlying dst = some .string) {v : Value} {xs : List UInt8}
    (ho : w.ownsRow 0 e 1 v xs.length (xs.map byteV)) : (convert src dst v).run P w = .ok (.string ⟨xs.toArray⟩) w := by
  rcases ho.2 with ⟨rfl, h0⟩ | ⟨g, cap, cur, rfl, _⟩
  · have : xs = [] := List.eq_nil_of_length_eq_zero h0
    subst this
    rw [run_convert_bytes_string w src dst e none 0 0 hs he hd]
    rfl
  · refine run_convert_bytes_back w src dst e ⟨g, 0, none⟩ cap xs hs he hd (fun j hj => ?_)
    exact ho.cells rfl j _ (by simp [hj, byteV])

set_option maxHeartbeats 400000 in
theorem text_any (b : Nat) (r : Option Nat) (xs : List UInt8) (w : World) (h : Wr w b r xs) :
    Calls Tryd.prog 53 #[.pointer (some ⟨b, 0, none⟩)] w fun en w' => en = .returned (.string ⟨xs.toArray⟩) ∧ w = w' := by
  obtain ⟨v, hb, ho, hv, hne⟩ := h
  have c0 : w.cell? ⟨b, 0, none⟩ = some v := hb.cell 0
  have hc := own_text (P := Tryd.prog) w 35 9 5 Tryd.underlying35 Tryd.underlying5 Tryd.underlying9 ho
  clear hb ho hv hne
  go_enter Tryd.func53, Tryd.ntmps53
  go_wp2
  go_ret
  exact ⟨rfl, rfl⟩
end Go.Proofs.YtiobdhkadbipkaaDoor
end

