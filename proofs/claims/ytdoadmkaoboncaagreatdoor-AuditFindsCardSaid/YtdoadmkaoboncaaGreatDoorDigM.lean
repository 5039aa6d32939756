/- digest: two Hashes side by side; equal sums. -/
import Derived.Test.YtdoadmkaoboncaaGreatDoorDigLA
namespace Go.Proofs.YtdoadmkaoboncaaGreatDoor.dig
open Go Go.RowKit

theorem cut_size (s : ByteArray) (n : Nat) : ∃ t, s.extract 0 n = t ∧ t.size ≤ n := ⟨_, rfl, by simp [ByteArray.size_extract]; omega⟩

theorem Hs.below {w w' : World} {h : Nat} {xs : List UInt8} {B : Nat} (k : Hs w h xs) (b : Below B w w') (hh : h < B) : Hs w' h xs := by
  obtain ⟨bs, h1, h2, h3⟩ := k
  exact ⟨bs, h1, h2, h3.below b hh⟩
theorem Hs.lt {w : World} {h : Nat} {xs : List UInt8} (k : Hs w h xs) : h < w.heap.size := by
  obtain ⟨bs, _, _, h3⟩ := k
  exact h3.lt
theorem Hs.grown {w w' : World} {h g : Nat} {xs : List UInt8} (k : Hs w h xs) (b : w.grownBy w' (some g)) (hh : h ≠ g) : Hs w' h xs := by
  obtain ⟨bs, h1, h2, h3⟩ := k
  exact ⟨bs, h1, h2, h3.grown b (fun e => hh (by injection e))⟩

/-- One Hash that was made since w. -/
structure One (w w' : World) (h : Nat) (xs : List UInt8) : Prop where
  one : Hs w' h xs
  rk : Rk w'
  lo : w.heap.size ≤ h
  below : Below w.heap.size w w'
theorem One.made {w w1 w2 : World} {h : Nat} (b : Below w.heap.size w w1) (ax : Ax w1 h [] w2) (b2 : Below w1.heap.size w1 w2) (l : w1.heap.size ≤ h) (_m : h < w2.heap.size) : One w w2 h [] :=
  ⟨ax.st, ax.rk, Nat.le_trans b.size l, b.trans (b2.mono b.size)⟩

theorem One.bel {w w' w2 : World} {h : Nat} {xs : List UInt8} (t : One w w' h xs) (b : Below w'.heap.size w' w2) : One w w2 h xs :=
  ⟨t.one.below b t.one.lt, t.rk.below b, t.lo, t.below.trans (b.mono t.below.size)⟩
theorem One.drew {w w' : World} {h : Nat} {xs : List UInt8} (t : One w w' h xs) : One w w'.drew h xs :=
  t.bel (Below.refl _ _).drew
theorem One.made_more {w w' w2 : World} {h : Nat} {xs : List UInt8} {o : Obj} (t : One w w' h xs) (b : Turn (fun k => k = w'.heap.size) (w'.alloc o) w2) : One w w2 h xs :=
  t.bel (((Below.refl _ _).alloc (Nat.le_refl _) o).trans (b.below (by simp) (fun j hj e => by omega)))


structure Two (w w' : World) (h1 h2 : Nat) (xs ys : List UInt8) : Prop where
  one : Hs w' h1 xs
  two : Hs w' h2 ys
  rk : Rk w'
  lo1 : w.heap.size ≤ h1
  lo2 : w.heap.size ≤ h2
  ne : h1 ≠ h2
  below : Below w.heap.size w w'
section
variable {w w' w2 : World} {h1 h2 : Nat} {xs ys : List UInt8}
theorem Two.made (o : One w w' h1 xs) (ax : Ax w' h2 [] w2) (b2 : Below w'.heap.size w' w2) (l : w'.heap.size ≤ h2) (_m : h2 < w2.heap.size) : Two w w2 h1 h2 xs [] :=
  ⟨o.one.below b2 o.one.lt, ax.st, ax.rk, o.lo, Nat.le_trans o.below.size l, by have := o.one.lt; omega, o.below.trans (b2.mono o.below.size)⟩
theorem Two.ax1 (t : Two w w' h1 h2 xs ys) (hg : 4 < w.heap.size) : Ax w' h1 xs w' := ⟨t.one, t.rk, by have := t.lo1; omega, grown_refl _ _⟩
theorem Two.ax2 (t : Two w w' h1 h2 xs ys) (hg : 4 < w.heap.size) : Ax w' h2 ys w' := ⟨t.two, t.rk, by have := t.lo2; omega, grown_refl _ _⟩
theorem Two.add1 {zs : List UInt8} (t : Two w w' h1 h2 xs ys) (ax : Ax w' h1 zs w2) : Two w w2 h1 h2 zs ys :=
  ⟨ax.st, t.two.grown ax.turn (fun e => t.ne e.symm), ax.rk, t.lo1, t.lo2, t.ne, t.below.trans (below_grown ax.turn t.lo1 t.below.size)⟩
theorem Two.add2 {zs : List UInt8} (t : Two w w' h1 h2 xs ys) (ax : Ax w' h2 zs w2) : Two w w2 h1 h2 xs zs :=
  ⟨t.one.grown ax.turn t.ne, ax.st, ax.rk, t.lo1, t.lo2, t.ne, t.below.trans (below_grown ax.turn t.lo2 t.below.size)⟩
theorem Two.bel (t : Two w w' h1 h2 xs ys) (b : Below w'.heap.size w' w2) : Two w w2 h1 h2 xs ys :=
  ⟨t.one.below b t.one.lt, t.two.below b t.two.lt, t.rk.below b, t.lo1, t.lo2, t.ne, t.below.trans (b.mono t.below.size)⟩
end

theorem run_eql_sum (xs ys : List UInt8) (hx : xs.length = 32) (hy : ys.length = 32) (w : World) : (binOp .eql 38 (.agg (cellsOf xs)) (.agg (cellsOf ys))).run Tryz.prog w = .ok (.bool (xs == ys)) w := by
  simp only [binOp]
  have := run_equalIn_bytes (P := Tryz.prog) 9998 (t := 38) (e := 5) 32 Tryz.underlying38 Tryz.underlying5 (by kernel_rfl) xs ys hx hy w
  simp [Op.equal, Op.maxDepth, this]
theorem run_eql_same (xs : List UInt8) (hx : xs.length = 32) (w : World) : (binOp .eql 38 (.agg (cellsOf xs)) (.agg (cellsOf xs))).run Tryz.prog w = .ok (.bool true) w := by
  rw [run_eql_sum xs xs hx hx w]
  simp
end Go.Proofs.YtdoadmkaoboncaaGreatDoor.dig
