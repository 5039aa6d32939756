/- Texts laid into one: TreeN, DigLA, DigM, TreeA, TreeB. -/
import Derived.Test.YtcdedkgkingbdaaGreatDoorQ004
import Derived.Lib.LaidTab
import Derived.Deep.MidRow
import Derived.Lib.TrailingZeros
section
/- tree: the mathematics of rows: how many there are, what is gone of them, what is still there. -/
namespace Go.Proofs.YtcdedkgkingbdaaGreatDoor.dig
open Go

/-- How many rows a tree of n leaves has. -/
def tops (n : Nat) : Nat := if n = 0 then 0 else Nat.log2 n + 1
theorem lt_tops {j n : Nat} : j < tops n ↔ 2 ^ j ≤ n := by
  unfold tops
  by_cases h : n = 0
  · subst h
    have := Nat.pow_pos (n := j) (show 0 < 2 by decide)
    simp
  · rw [if_neg h, ← Nat.le_log2 h]
    omega
theorem tops_le {n k : Nat} (h : n < 2 ^ k) : tops n ≤ k := by
  rcases Nat.lt_or_ge k (tops n) with h1 | h1
  · have := lt_tops.1 h1; omega
  · exact h1
theorem tops_small {n : Nat} (h : n < 4294967296) : tops n ≤ 32 := tops_le (by simpa using h)
theorem div_zero {n j : Nat} (h : tops n ≤ j) : n / 2 ^ j = 0 := by
  refine Nat.div_eq_of_lt ?_
  rcases Nat.lt_or_ge n (2 ^ j) with h1 | h1
  · exact h1
  · have := lt_tops.2 h1; omega
theorem div_pos {n j : Nat} (h : j < tops n) : 0 < n / 2 ^ j := Nat.div_pos (lt_tops.1 h) (Nat.pow_pos (by decide))
theorem half_div (n j : Nat) : n / 2 ^ (j + 1) = n / 2 ^ j / 2 := by rw [Nat.pow_succ, Nat.div_div_eq_div_mul]

/-- How many of row j are gone, where the floor is fl. -/
def gone (fl j : Nat) : Nat := 2 * (fl / 2 ^ (j + 1))
theorem gone_le {fl n : Nat} (j : Nat) (h : fl ≤ n) : gone fl j ≤ n / 2 ^ j := by
  unfold gone
  rw [half_div]
  have := Nat.div_le_div_right (c := 2 ^ j) h
  omega
theorem gone_mono {fl fl' : Nat} (j : Nat) (h : fl ≤ fl') : gone fl j ≤ gone fl' j := by
  unfold gone
  have := Nat.div_le_div_right (c := 2 ^ (j + 1)) h
  omega

/-- What adding a leaf does, row by row. -/
theorem add_div {n j : Nat} (h : 2 ^ j ∣ n + 1) : (n + 1) / 2 ^ j = n / 2 ^ j + 1 := by
  obtain ⟨q, hq⟩ := h
  have h0 : 0 < 2 ^ j := Nat.pow_pos (by decide)
  rw [hq, Nat.mul_div_cancel_left _ h0]
  have hq0 : q ≠ 0 := by rintro rfl; simp at hq
  obtain ⟨p, rfl⟩ : ∃ p, q = p + 1 := ⟨q - 1, by omega⟩
  congr 1
  symm
  rw [Nat.mul_add, Nat.mul_one] at hq
  refine Nat.div_eq_of_lt_le ?_ ?_
  · rw [Nat.mul_comm]; omega
  · rw [Nat.succ_mul, Nat.mul_comm p]; omega
theorem add_place {n j : Nat} (h : 2 ^ j ∣ n + 1) : n / 2 ^ j * 2 ^ j = n + 1 - 2 ^ j := by
  have h1 := add_div h
  have h2 := Nat.div_mul_cancel h
  rw [h1, Nat.succ_mul] at h2
  omega
theorem add_next {n j : Nat} (h : 2 ^ j ∣ n + 1) (ho : n / 2 ^ j % 2 = 1) : 2 ^ (j + 1) ∣ n + 1 := by
  have h1 := add_div h
  have h2 := Nat.div_mul_cancel h
  rw [h1] at h2
  obtain ⟨p, hp⟩ : ∃ p, n / 2 ^ j + 1 = 2 * p := ⟨(n / 2 ^ j + 1) / 2, by omega⟩
  rw [hp] at h2
  exact ⟨p, by rw [Nat.pow_succ, Nat.mul_assoc, ← h2, Nat.mul_comm]⟩
theorem add_rest {n j i : Nat} (h : 2 ^ j ∣ n + 1) (he : n / 2 ^ j % 2 = 0) (hi : j < i) : (n + 1) / 2 ^ i = n / 2 ^ i := by
  have h1 := add_div h
  obtain ⟨d, rfl⟩ : ∃ d, i = j + 1 + d := ⟨i - j - 1, by omega⟩
  have h2 : (n + 1) / 2 ^ (j + 1) = n / 2 ^ (j + 1) := by rw [half_div, half_div, h1]; omega
  rw [Nat.pow_add, ← Nat.div_div_eq_div_mul, ← Nat.div_div_eq_div_mul, h2]
theorem add_tops {n j : Nat} (h : 2 ^ j ∣ n + 1) : j ≤ tops n := by
  rcases Nat.lt_or_ge (tops n) j with h1 | h1
  · have h2 : ¬ tops n < tops n := Nat.lt_irrefl _
    rw [lt_tops] at h2
    have h3 : 2 ^ (tops n + 1) ≤ 2 ^ j := Nat.pow_le_pow_right (by decide) h1
    have h4 := Nat.le_of_dvd (by omega) h
    rw [Nat.pow_succ] at h3
    have : 0 < 2 ^ tops n := Nat.pow_pos (by decide)
    omega
  · exact h1
theorem add_top {n : Nat} (h : 2 ^ tops n ∣ n + 1) : n + 1 = 2 ^ tops n := by
  have h2 : ¬ tops n < tops n := Nat.lt_irrefl _
  rw [lt_tops] at h2
  have h4 := Nat.le_of_dvd (by omega) h
  omega
theorem tops_pow (j : Nat) : tops (2 ^ j) = j + 1 := by
  have h1 : j < tops (2 ^ j) := lt_tops.2 (Nat.le_refl _)
  have h2 : tops (2 ^ j) ≤ j + 1 := tops_le (Nat.pow_lt_pow_right (by decide) (Nat.lt_succ_self _))
  omega
theorem tops_same {n j : Nat} (h : 2 ^ j ∣ n + 1) (he : n / 2 ^ j % 2 = 0) (hj : j < tops n) : tops (n + 1) = tops n := by
  have h1 : tops n ≤ tops (n + 1) := by
    rcases Nat.lt_or_ge (tops (n + 1)) (tops n) with h1 | h1
    · have h2 := lt_tops.1 h1
      have h3 : ¬ tops (n + 1) < tops (n + 1) := Nat.lt_irrefl _
      rw [lt_tops] at h3
      omega
    · exact h1
  rcases Nat.lt_or_ge (tops n) (tops (n + 1)) with h2 | h2
  · have h3 := div_pos h2
    rw [add_rest h he hj, div_zero (Nat.le_refl _)] at h3
    omega
  · omega

/-- What of the leaves from a on, n of them, is needed for their root is there: the floor is fl. -/
def Av (fl a n : Nat) : Prop :=
  (∃ j, n = 2 ^ j ∧ 2 ^ (j + 1) ∣ a ∧ fl < a + 2 ^ (j + 1)) ∨ (0 < n ∧ ∃ K, 2 ^ K ∣ a ∧ n < 2 ^ K ∧ fl ≤ a + n) ∨ (0 < n ∧ ∃ K, 2 ^ K ∣ a ∧ n ≤ 2 ^ K ∧ fl < a + n)
theorem Av.pos {fl a n : Nat} (h : Av fl a n) : 0 < n := by
  rcases h with ⟨j, rfl, _⟩ | ⟨h, _⟩ | ⟨h, _⟩
  · exact Nat.pow_pos (by decide)
  · exact h
  · exact h
theorem dvd_of_le {a i j : Nat} (h : 2 ^ j ∣ a) (hi : i ≤ j) : 2 ^ i ∣ a := Nat.dvd_trans (Nat.pow_dvd_pow 2 hi) h
theorem pow_lt_iff {i j : Nat} (h : 2 ^ i < 2 ^ j) : i < j := (Nat.pow_lt_pow_iff_right (by decide)).1 h
/-- A whole subtree is in its row. -/
theorem Av.row {fl a j : Nat} (h : Av fl a (2 ^ j)) : 2 ^ j ∣ a ∧ gone fl j ≤ a / 2 ^ j := by
  have key : ∀ (a : Nat), 2 ^ j ∣ a → fl < (a / 2 ^ j / 2 + 1) * 2 ^ (j + 1) → gone fl j ≤ a / 2 ^ j := by
    intro a _ h2
    have h3 : fl / 2 ^ (j + 1) < a / 2 ^ j / 2 + 1 := Nat.div_lt_of_lt_mul (by rw [Nat.mul_comm]; exact h2)
    unfold gone
    omega
  have even : ∀ (a : Nat), 2 ^ (j + 1) ∣ a → fl < a + 2 ^ (j + 1) → gone fl j ≤ a / 2 ^ j := by
    intro a h1 h2
    refine key a (dvd_of_le h1 (Nat.le_succ _)) ?_
    rw [← half_div, Nat.succ_mul, Nat.div_mul_cancel h1]
    exact h2
  have h0 : 0 < 2 ^ j := Nat.pow_pos (by decide)
  rcases h with ⟨i, hi, h1, h2⟩ | ⟨_, K, h1, h2, h3⟩ | ⟨_, K, h1, h2, h3⟩
  · obtain rfl : j = i := (Nat.pow_right_inj (by decide)).1 hi
    exact ⟨dvd_of_le h1 (Nat.le_succ _), even a h1 h2⟩
  · have := pow_lt_iff h2
    refine ⟨dvd_of_le h1 (by omega), even a (dvd_of_le h1 this) ?_⟩
    rw [Nat.pow_succ]; omega
  · have hK : j ≤ K := (Nat.pow_le_pow_iff_right (by decide)).1 h2
    have hd := dvd_of_le h1 hK
    refine ⟨hd, key a hd ?_⟩
    have e1 := Nat.div_mul_cancel hd
    have e2 : a / 2 ^ j < (a / 2 ^ j / 2 + 1) * 2 := by omega
    have e3 : (a / 2 ^ j + 1) * 2 ^ j ≤ (a / 2 ^ j / 2 + 1) * 2 * 2 ^ j := Nat.mul_le_mul_right _ e2
    rw [Nat.succ_mul, e1] at e3
    rw [Nat.pow_succ, Nat.mul_comm (2 ^ j) 2, ← Nat.mul_assoc]
    omega
/-- Of more than a whole subtree both halves are there. -/
theorem Av.halves {fl a n : Nat} (h : Av fl a n) (h2 : 2 ≤ n) (hp : ∀ j, n ≠ 2 ^ j) : Av fl a (half n) ∧ Av fl (a + half n) (n - half n) := by
  have l1 := half_lt h2
  have l2 := half_ge h2
  have l3 : n ≠ 2 * half n := fun e => hp (Nat.log2 (n - 1) + 1) (by rw [Nat.pow_succ, Nat.mul_comm]; exact e)
  have e1 : half n = 2 ^ Nat.log2 (n - 1) := rfl
  generalize Nat.log2 (n - 1) = i at *
  have h3 : ∃ K, 2 ^ K ∣ a ∧ n ≤ 2 ^ K ∧ fl ≤ a + n := by
    rcases h with ⟨j, hj, _⟩ | ⟨_, K, h1, h2, h3⟩ | ⟨_, K, h1, h2, h3⟩
    · exact absurd hj (hp j)
    · exact ⟨K, h1, by omega, h3⟩
    · exact ⟨K, h1, h2, by omega⟩
  obtain ⟨K, h4, h5, h6⟩ := h3
  have hiK : i < K := pow_lt_iff (by omega)
  refine ⟨.inl ⟨i, e1, dvd_of_le h4 hiK, by rw [Nat.pow_succ]; omega⟩, .inr (.inl ⟨by omega, i, ?_, by omega, by omega⟩)⟩
  rw [e1]
  exact (Nat.dvd_add_iff_left (Nat.dvd_refl _)).1 (dvd_of_le h4 (Nat.le_of_lt hiK))
end Go.Proofs.YtcdedkgkingbdaaGreatDoor.dig
end

section
/- digest: Cut; what the row's list gives. -/
namespace Go.Proofs.YtcdedkgkingbdaaGreatDoor.dig
open Go Go.RowKit

theorem gRounds : Tryz.prog.globalNamed "hindsight/digest.rounds" = some 3 := by kernel_rfl
theorem gRoundsType : (Tryz.prog.globals[3]?).map (·.type) = some 321 := by kernel_rfl
theorem cellsWords : Tryz.prog.cellsOf 321 = 64 := by kernel_rfl
theorem cellsU32 : Tryz.prog.cellsOf 291 = 1 := by kernel_rfl
theorem rk_of_laid {W : World} {rest : List (String × DataW Unit)} (h : laidMet Tryz.prog (("hindsight/digest.rounds", Rows.laid_hindsight_digest_rounds) :: rest) W) : Rk W := by
  have ht : Lib.TabIs Tryz.prog W "hindsight/digest.rounds" .u32 keys := Lib.tabIs_of_head (rest := rest) gRounds gRoundsType Tryz.underlying321 Tryz.underlying291 cellsU32 cellsWords h
  intro i x hx
  have hi : i < keys.length := (List.getElem?_eq_some_iff.1 hx).1
  have := ht.cell gRounds i hi
  rw [this]
  have e : keys.getD i 0 = x := by
    rw [List.getD_eq_getElem?_getD, hx]
    rfl
  rw [wordV]
  exact congrArg (fun z => some (Value.int .u32 z)) e

set_option maxHeartbeats 400000 in
theorem cut_any (s : ByteArray) (n : Nat) (w : World) (hn : n ≤ 1000000) (_hs : s.size ≤ maxLen) :
    Calls Tryz.prog 107 #[.string s, .int .i64 n] w fun en w' => en = .returned (.string (s.extract 0 n)) ∧ w = w' := by
  unfold maxLen at _hs
  by_cases h : n < s.size
  · go_enter Tryz.func107, Tryz.ntmps107
    go_wp2
    go_ret
    exact ⟨rfl, rfl⟩
  · have e : s.extract 0 n = s := by
      apply ByteArray.ext
      simp [ByteArray.data_extract]
      omega
    have E := Lib.hid e
    clear e
    go_enter Tryz.func107, Tryz.ntmps107
    go_wp2
    go_ret
    rw [E.out]
    exact ⟨rfl, rfl⟩
end Go.Proofs.YtcdedkgkingbdaaGreatDoor.dig
end

section
/- digest: two Hashes side by side; equal sums. -/
namespace Go.Proofs.YtcdedkgkingbdaaGreatDoor.dig
open Go Go.RowKit

theorem Hs.below {w w' : World} {h : Nat} {xs : List UInt8} {B : Nat} (k : Hs w h xs) (b : Below B w w') (hh : h < B) : Hs w' h xs := by
  obtain ⟨bs, h1, h2, h3⟩ := k
  exact ⟨bs, h1, h2, h3.below b hh⟩
theorem Hs.lt {w : World} {h : Nat} {xs : List UInt8} (k : Hs w h xs) : h < w.heap.size := by
  obtain ⟨bs, _, _, h3⟩ := k
  exact h3.lt
theorem Hs.grown {w w' : World} {h g : Nat} {xs : List UInt8} (k : Hs w h xs) (b : w.grownBy w' (some g)) (hh : h ≠ g) : Hs w' h xs := by
  obtain ⟨bs, h1, h2, h3⟩ := k
  exact ⟨bs, h1, h2, h3.grown b (fun e => hh (by injection e))⟩

/-- One Hash that was made since w. -/
structure One (w w' : World) (h : Nat) (xs : List UInt8) : Prop where
  one : Hs w' h xs
  rk : Rk w'
  lo : w.heap.size ≤ h
  below : Below w.heap.size w w'
theorem One.made {w w1 w2 : World} {h : Nat} (b : Below w.heap.size w w1) (ax : Ax w1 h [] w2) (b2 : Below w1.heap.size w1 w2) (l : w1.heap.size ≤ h) (_m : h < w2.heap.size) : One w w2 h [] :=
  ⟨ax.st, ax.rk, Nat.le_trans b.size l, b.trans (b2.mono b.size)⟩

theorem One.bel {w w' w2 : World} {h : Nat} {xs : List UInt8} (t : One w w' h xs) (b : Below w'.heap.size w' w2) : One w w2 h xs :=
  ⟨t.one.below b t.one.lt, t.rk.below b, t.lo, t.below.trans (b.mono t.below.size)⟩
theorem One.drew {w w' : World} {h : Nat} {xs : List UInt8} (t : One w w' h xs) : One w w'.drew h xs :=
  t.bel (Below.refl _ _).drew
structure Two (w w' : World) (h1 h2 : Nat) (xs ys : List UInt8) : Prop where
  one : Hs w' h1 xs
  two : Hs w' h2 ys
  rk : Rk w'
  lo1 : w.heap.size ≤ h1
  lo2 : w.heap.size ≤ h2
  ne : h1 ≠ h2
  below : Below w.heap.size w w'
section
variable {w w' w2 : World} {h1 h2 : Nat} {xs ys : List UInt8}
theorem Two.made (o : One w w' h1 xs) (ax : Ax w' h2 [] w2) (b2 : Below w'.heap.size w' w2) (l : w'.heap.size ≤ h2) (_m : h2 < w2.heap.size) : Two w w2 h1 h2 xs [] :=
  ⟨o.one.below b2 o.one.lt, ax.st, ax.rk, o.lo, Nat.le_trans o.below.size l, by have := o.one.lt; omega, o.below.trans (b2.mono o.below.size)⟩
theorem Two.bel (t : Two w w' h1 h2 xs ys) (b : Below w'.heap.size w' w2) : Two w w2 h1 h2 xs ys :=
  ⟨t.one.below b t.one.lt, t.two.below b t.two.lt, t.rk.below b, t.lo1, t.lo2, t.ne, t.below.trans (b.mono t.below.size)⟩
end

theorem run_eql_sum (xs ys : List UInt8) (hx : xs.length = 32) (hy : ys.length = 32) (w : World) : (binOp .eql 84 (.agg (cellsOf xs)) (.agg (cellsOf ys))).run Tryz.prog w = .ok (.bool (xs == ys)) w := by
  simp only [binOp]
  have := run_equalIn_bytes (P := Tryz.prog) 9998 (t := 84) (e := 5) 32 Tryz.underlying84 Tryz.underlying5 (by kernel_rfl) xs ys hx hy w
  simp [Op.equal, Op.maxDepth, this]
theorem run_eql_same (xs : List UInt8) (hx : xs.length = 32) (w : World) : (binOp .eql 84 (.agg (cellsOf xs)) (.agg (cellsOf xs))).run Tryz.prog w = .ok (.bool true) w := by
  rw [run_eql_sum xs xs hx hx w]
  simp
end Go.Proofs.YtcdedkgkingbdaaGreatDoor.dig
end

section
/- tree: what a tree is in memory. -/
namespace Go.Proofs.YtcdedkgkingbdaaGreatDoor.dig
open Go Go.RowKit

/-- The tables that are laid: digest's rounds, and that of trailing zeros; their blocks lie below B. -/
structure Rt (B : Nat) (w : World) : Prop where
  rk : Rk w
  tz : ∀ (i x : Nat), Lib.deBruijn64tab[i]? = some x → w.cell? ⟨2, i, none⟩ = some (.int .u8 (x : Int))
  lo : 3 < B ∧ 2 < B
  size : B ≤ w.heap.size
theorem Rt.keep {B : Nat} {w w' : World} (h : Rt B w) (s : w.heap.size ≤ w'.heap.size) (e : ∀ k, k < B → w'.heap[k]? = w.heap[k]?) : Rt B w' :=
  ⟨h.rk.keep (e _ h.lo.1), fun i x hx => by
    have := h.tz i x hx
    unfold World.cell? at *
    rw [e _ h.lo.2]
    exact this, h.lo, Nat.le_trans h.size s⟩
theorem Rt.below {B C : Nat} {w w' : World} (h : Rt B w) (b : Below C w w') (hC : B ≤ C) : Rt B w' := h.keep b.size fun k hk => b.block k (by omega)
theorem Rt.turn {B : Nat} {F : Nat → Prop} {w w' : World} (h : Rt B w) (t : Turn F w w') (hF : ∀ k, F k → B ≤ k) : Rt B w' :=
  h.keep t.size fun k hk => t.block k (by have := h.size; omega) (fun f => by have := hF k f; omega)

/-- The cells of the j-th row's sum number i; a row's own cells. -/
def nodeC (f : Nat → List UInt8) (j i : Nat) : List Value := (cellsOf (rt f (i * 2 ^ j) (2 ^ j))).toList
def rowC (g : Nat → Nat) (sv : Nat → Value) (idle : Nat → Nat) (j : Nat) : List Value := [.int .i64 (g j), sv j, .int .i64 (idle j)]
theorem rowC_len (g : Nat → Nat) (sv : Nat → Value) (idle : Nat → Nat) (j : Nat) : (rowC g sv idle j).length = 3 := rfl

/-- A tree at b, of n leaves, its floor fl, with K rows: of the j-th the first g j are gone, c j is how many there were ever. Its blocks are of F. -/
structure Raw (F : Nat → Prop) (w : World) (b n fl K : Nat) (g c : Nat → Nat) (f : Nat → List UInt8) (rv : Value) (sv : Nat → Value) (idle : Nat → Nat) : Prop where
  tree : Has w b 147 #[.int .i64 n, .int .i64 fl, rv]
  rows : Seg w 218 3 rv K (flat (rowC g sv idle) 0 K)
  sums : ∀ j, j < K → Seg w 84 32 (sv j) (c j - g j) (flat (nodeC f j) (g j) (c j - g j))
  apart : ∀ i j, i < K → j < K → i ≠ j → ∀ x, (sv i).ownBlock = some x → (sv j).ownBlock ≠ some x
  fb : F b
  fr : ∀ x, rv.ownBlock = some x → F x
  fs : ∀ j, j < K → ∀ x, (sv j).ownBlock = some x → F x
  idle : ∀ j, j < K → idle j ≤ 1000000

section
variable {F G : Nat → Prop} {w w' : World} {b n fl K : Nat} {g c : Nat → Nat} {f : Nat → List UInt8} {rv : Value} {sv : Nat → Value} {idle : Nat → Nat}

theorem Raw.turn (h : Raw F w b n fl K g c f rv sv idle) (t : Turn G w w') (hG : ∀ k, F k → k < w.heap.size → ¬ G k) : Raw F w' b n fl K g c f rv sv idle :=
  ⟨h.tree.turn t (hG _ h.fb h.tree.lt), h.rows.turn t (fun x hx => hG x (h.fr x hx) (h.rows.lt hx)), fun j hj => (h.sums j hj).turn t (fun x hx => hG x (h.fs j hj x hx) ((h.sums j hj).lt hx)), h.apart, h.fb, h.fr, h.fs, h.idle⟩
theorem Raw.below (h : Raw F w b n fl K g c f rv sv idle) (t : Below w.heap.size w w') : Raw F w' b n fl K g c f rv sv idle :=
  h.turn (Turn.of_below (F := fun k => w.heap.size ≤ k) t (fun _ _ h => h)) (fun k _ h1 h2 => by omega)
theorem Raw.drew (h : Raw F w b n fl K g c f rv sv idle) : Raw F w.drew b n fl K g c f rv sv idle := ⟨h.tree, h.rows, h.sums, h.apart, h.fb, h.fr, h.fs, h.idle⟩
theorem Raw.alloc (h : Raw F w b n fl K g c f rv sv idle) (o : Obj) : Raw F (w.alloc o) b n fl K g c f rv sv idle :=
  h.below ((Below.refl _ _).alloc (Nat.le_refl _) o)
theorem Raw.more (h : Raw F w b n fl K g c f rv sv idle) (hG : ∀ k, k < w.heap.size → F k → G k) : Raw G w b n fl K g c f rv sv idle :=
  ⟨h.tree, h.rows, h.sums, h.apart, hG _ h.tree.lt h.fb, fun x hx => hG x (h.rows.lt hx) (h.fr x hx), fun j hj x hx => hG x ((h.sums j hj).lt hx) (h.fs j hj x hx), h.idle⟩
end

/-- A tree of n leaves, whose sums are f; its floor is fl. -/
structure Tr (B : Nat) (F : Nat → Prop) (w : World) (b n fl : Nat) (f : Nat → List UInt8) : Prop where
  raw : ∃ rv sv idle, Raw F w b n fl (tops n) (gone fl) (fun j => n / 2 ^ j) f rv sv idle
  rt : Rt B w
  hF : ∀ k, F k → B ≤ k
  len : ∀ i, (f i).length = 32
  small : n ≤ 1000000
  floor : fl ≤ n

section
variable {B : Nat} {F G : Nat → Prop} {w w' : World} {b n fl : Nat} {f : Nat → List UInt8}
theorem Tr.turn (h : Tr B F w b n fl f) (t : Turn G w w') (hG : ∀ k, F k → k < w.heap.size → ¬ G k) (hB : ∀ k, G k → B ≤ k) : Tr B F w' b n fl f := by
  obtain ⟨rv, sv, idle, r⟩ := h.raw
  exact ⟨⟨rv, sv, idle, r.turn t hG⟩, h.rt.turn t hB, h.hF, h.len, h.small, h.floor⟩
theorem Tr.below (h : Tr B F w b n fl f) (t : Below w.heap.size w w') : Tr B F w' b n fl f := by
  obtain ⟨rv, sv, idle, r⟩ := h.raw
  exact ⟨⟨rv, sv, idle, r.below t⟩, h.rt.below t h.rt.size, h.hF, h.len, h.small, h.floor⟩
theorem Tr.drew (h : Tr B F w b n fl f) : Tr B F w.drew b n fl f := h.below (Below.refl _ _).drew
theorem Tr.alloc (h : Tr B F w b n fl f) (o : Obj) : Tr B F (w.alloc o) b n fl f := h.below ((Below.refl _ _).alloc (Nat.le_refl _) o)
theorem Tr.more (h : Tr B F w b n fl f) (hG : ∀ k, k < w.heap.size → F k → G k) (hB : ∀ k, G k → B ≤ k) : Tr B G w b n fl f := by
  obtain ⟨rv, sv, idle, r⟩ := h.raw
  exact ⟨⟨rv, sv, idle, r.more hG⟩, h.rt, hB, h.len, h.small, h.floor⟩
theorem Tr.head (h : Tr B F w b n fl f) : ∃ rv, Has w b 147 #[.int .i64 n, .int .i64 fl, rv] := by
  obtain ⟨rv, sv, idle, r⟩ := h.raw
  exact ⟨rv, r.tree⟩
theorem Tr.lt (h : Tr B F w b n fl f) : b < w.heap.size := by
  obtain ⟨rv, e⟩ := h.head
  exact e.lt
end

theorem rt_len {f : Nat → List UInt8} (h : ∀ i, (f i).length = 32) (a n : Nat) (h0 : 0 < n) : (rt f a n).length = 32 := rt_length f n a (fun i _ _ => h i) h0
theorem nodeC_len {f : Nat → List UInt8} (h : ∀ i, (f i).length = 32) (j i : Nat) : (nodeC f j i).length = 32 := by
  unfold nodeC
  rw [Array.length_toList, cellsOf_size, rt_len h _ _ (Nat.pow_pos (by decide))]

/-- A row of a tree: its address, its cells, and the sum number i in it. -/
theorem Tr.row {B : Nat} {F : Nat → Prop} {w : World} {b n fl : Nat} {f : Nat → List UInt8} (h : Tr B F w b n fl f) {j : Nat} (hj : j < tops n) : ∃ R o C, Has w b 147 #[.int .i64 n, .int .i64 fl, .slice (some ⟨R, o, none⟩) (tops n) C] ∧
    ∃ v, w.cell? ⟨R, o + j * 3, none⟩ = some (.int .i64 (gone fl j)) ∧ w.cell? ⟨R, o + (j * 3 + 1), none⟩ = some v ∧ R < w.heap.size ∧
      Seg w 84 32 v (n / 2 ^ j - gone fl j) (flat (nodeC f j) (gone fl j) (n / 2 ^ j - gone fl j)) := by
  obtain ⟨rv, sv, idle, r⟩ := h.raw
  obtain ⟨R, o, C, rfl, hR, _, _, hc⟩ := r.rows.cells (by omega)
  have g0 := flat_get (g := rowC (gone fl) sv idle) (a := 0) (k := tops n) (w := 3) (fun i _ _ => rowC_len _ _ _ i) hj (r := 0) (by omega)
  have g1 := flat_get (g := rowC (gone fl) sv idle) (a := 0) (k := tops n) (w := 3) (fun i _ _ => rowC_len _ _ _ i) hj (r := 1) (by omega)
  rw [Nat.zero_add] at g0 g1
  exact ⟨R, o, C, r.tree, sv j, hc _ _ g0, hc _ _ g1, hR, r.sums j hj⟩
end Go.Proofs.YtcdedkgkingbdaaGreatDoor.dig
end

section
/- tree: the number of ones, the zeros at the end (math/bits). -/
namespace Go.Proofs.YtcdedkgkingbdaaGreatDoor.dig
open Go Go.RowKit

def pop1 (x : Int) : Int := IntKind.u64.wrap (bits .and .u64 (x / 2) 6148914691236517205 + bits .and .u64 x 6148914691236517205)
def pop2 (x : Int) : Int := IntKind.u64.wrap (bits .and .u64 (x / 4) 3689348814741910323 + bits .and .u64 x 3689348814741910323)
def pop3 (x : Int) : Int := bits .and .u64 (IntKind.u64.wrap (x / 16 + x)) 1085102592571150095
def pop4 (x : Int) : Int := IntKind.u64.wrap (x + x / 256)
def pop5 (x : Int) : Int := IntKind.u64.wrap (x + x / 65536)
def pop6 (x : Int) : Int := IntKind.u64.wrap (x + x / 4294967296)
def pop7 (x : Int) : Int := bits .and .i64 (wrap64 x) 127
/-- How many ones a number has. -/
def pop (n : Nat) : Int := pop7 (pop6 (pop5 (pop4 (pop3 (pop2 (pop1 n))))))
theorem pop_fin : ∀ n : Fin 1024, (decide (pop n.val = 1)) = (2 ^ Nat.log2 n.val == n.val) := by decide +kernel
theorem pop_one {n : Nat} (hn : n < 1024) : pop n = 1 ↔ 2 ^ Nat.log2 n = n := by
  have := pop_fin ⟨n, hn⟩
  simp only [] at this
  constructor
  · intro h
    rw [decide_eq_true h] at this
    exact eq_of_beq this.symm
  · intro h
    rw [beq_iff_eq.2 h] at this
    exact of_decide_eq_true this

set_option maxRecDepth 100000 in
set_option maxHeartbeats 1000000 in
theorem ones64_calls (n : Nat) (w : World) :
    Calls Tryz.prog 163 #[.int .u64 n] w fun en w' => en = .returned (.int .i64 (pop n)) ∧ w = w' := by
  obtain ⟨x0, h0⟩ : ∃ x : Int, x = (n : Int) := ⟨_, rfl⟩
  obtain ⟨x1, h1⟩ : ∃ x, x = pop1 x0 := ⟨_, rfl⟩
  obtain ⟨x2, h2⟩ : ∃ x, x = pop2 x1 := ⟨_, rfl⟩
  obtain ⟨x3, h3⟩ : ∃ x, x = pop3 x2 := ⟨_, rfl⟩
  obtain ⟨x4, h4⟩ : ∃ x, x = pop4 x3 := ⟨_, rfl⟩
  obtain ⟨x5, h5⟩ : ∃ x, x = pop5 x4 := ⟨_, rfl⟩
  obtain ⟨x6, h6⟩ : ∃ x, x = pop6 x5 := ⟨_, rfl⟩
  have h7 : pop n = pop7 x6 := by rw [h6, h5, h4, h3, h2, h1, h0]; rfl
  have e1 : IntKind.u64.wrap (bits .and .u64 (x0 / 2) 6148914691236517205 + bits .and .u64 x0 6148914691236517205) = x1 := h1.symm
  have e2 : IntKind.u64.wrap (bits .and .u64 (x1 / 4) 3689348814741910323 + bits .and .u64 x1 3689348814741910323) = x2 := h2.symm
  have e3 : bits .and .u64 (IntKind.u64.wrap (x2 / 16 + x2)) 1085102592571150095 = x3 := h3.symm
  have e4 : IntKind.u64.wrap (x3 + x3 / 256) = x4 := h4.symm
  have e5 : IntKind.u64.wrap (x4 + x4 / 65536) = x5 := h5.symm
  have e6 : IntKind.u64.wrap (x5 + x5 / 4294967296) = x6 := h6.symm
  rw [h7, ← h0]
  clear h1 h2 h3 h4 h5 h6 h7 h0
  go_enter Tryz.func163, Tryz.ntmps163
  go_wp2_with fail
  go_ret
  exact ⟨rfl, rfl⟩

set_option maxRecDepth 100000 in
set_option maxHeartbeats 1000000 in
theorem ones_calls (n : Nat) (w : World) :
    Calls Tryz.prog 120 #[.int .u64 n] w fun en w' => en = .returned (.int .i64 (pop n)) ∧ w = w' := by
  go_enter Tryz.func120, Tryz.ntmps120
  go_wp2_with (first
    | (go_at_call 163; refine (ones64_calls n _).mono ?_; rintro e w' ⟨rfl, rfl⟩)
    | fail)
  go_ret
  exact ⟨rfl, rfl⟩

theorem low_fin : ∀ j : Fin 64, bits .and .u64 (2 ^ j.val : Nat) (IntKind.u64.wrap (-((2 ^ j.val : Nat) : Int))) = ((2 ^ j.val : Nat) : Int) := by decide +kernel

set_option maxRecDepth 100000 in
set_option maxHeartbeats 1000000 in
theorem zeros64_calls (B j : Nat) (w : World) (hR : Rt B w) (hj : j < 64) :
    Calls Tryz.prog 165 #[.int .u64 (2 ^ j : Nat)] w fun en w' => en = .returned (.int .i64 j) ∧ w = w' := by
  have h2 := Lib.deBruijn64_at j hj
  have h0 : (2 ^ j : Nat) ≠ 0 := Nat.ne_of_gt (Nat.pow_pos (by decide))
  have h00 : ((2 ^ j : Nat) : Int) ≠ 0 := by omega
  obtain ⟨q, hq⟩ : ∃ q, q = 2 ^ j * 285870213051353865 % 18446744073709551616 / 288230376151711744 := ⟨_, rfl⟩
  rw [← hq] at h2
  have c0 : w.cell? ⟨2, q, none⟩ = some (.int .u8 (j : Int)) := hR.tz q j (by
    have hl : q < Lib.deBruijn64tab.length := h2.1
    rw [List.getElem?_eq_getElem hl, ← h2.2, List.getD_eq_getElem?_getD, List.getElem?_eq_getElem hl]
    rfl)
  have hq64 : (q : Int) < 64 := by have := h2.1; omega
  have hq0 : (0 : Int) ≤ (q : Int) := by omega
  have hj0 : (j : Int) < 64 := by omega
  have h1 : bits .and .u64 ((2 ^ j : Nat) : Int) (IntKind.u64.wrap (-((2 ^ j : Nat) : Int))) = ((2 ^ j : Nat) : Int) := low_fin ⟨j, hj⟩
  generalize (2 ^ j : Nat) = p at *
  have h3 : IntKind.u64.wrap ((p : Int) * 285870213051353865) / 288230376151711744 = (q : Int) := by
    show (p : Int) * 285870213051353865 % 18446744073709551616 / 288230376151711744 = (q : Int)
    rw [hq]
    simp only [Int.natCast_ediv, Int.natCast_emod, Int.natCast_mul]
    rfl
  clear h2 hq h0
  go_enter Tryz.func165, Tryz.ntmps165
  go_wp2_with fail
  go_ret
  exact ⟨rfl, rfl⟩

set_option maxRecDepth 100000 in
set_option maxHeartbeats 1000000 in
theorem zeros_calls (B j : Nat) (w : World) (hR : Rt B w) (hj : j < 64) :
    Calls Tryz.prog 121 #[.int .u64 (2 ^ j : Nat)] w fun en w' => en = .returned (.int .i64 j) ∧ w = w' := by
  have H := Lib.hid (zeros64_calls B j w hR hj)
  generalize (2 ^ j : Nat) = p at *
  go_enter Tryz.func121, Tryz.ntmps121
  go_wp2_with (first
    | (go_at_call 165; refine H.out.mono ?_; rintro e w' ⟨rfl, rfl⟩)
    | fail)
  go_ret
  exact ⟨rfl, rfl⟩
end Go.Proofs.YtcdedkgkingbdaaGreatDoor.dig
end

