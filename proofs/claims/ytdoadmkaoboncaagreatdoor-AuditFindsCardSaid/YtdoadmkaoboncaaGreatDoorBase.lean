/- Small words for memory, over every program: a block that is known whole, and what stays when one block turns. -/
import Derived.Test.YtdoadmkaoboncaaGreatDoorRows
import Derived.WalkKit
import Derived.WalkSpells
import Derived.WalkLawsBesides
import Derived.Deep.AppendLies
import Derived.Deep.RegionLaw
import Derived.Deep.Draws
import Derived.Deep.LoopGhost
import Derived.Lib.Hide
namespace Go.Proofs.YtdoadmkaoboncaaGreatDoor
open Go.RowKit

/-- Block g of world w is just the cells cs, of element type t, and may be written. -/
def Has (w : World) (g : Nat) (t : TypeId) (cs : Array Value) : Prop := w.heap[g]? = some (.cells cs t (0, 0))

section
variable {w w' w1 : World} {g b : Nat} {t : TypeId} {cs : Array Value}

theorem Has.lt (h : Has w g t cs) : g < w.heap.size := by
  rcases Nat.lt_or_ge g w.heap.size with k | k
  · exact k
  · unfold Has at h; rw [Array.getElem?_eq_none k] at h; cases h

theorem Has.cell (h : Has w g t cs) (i : Nat) : w.cell? ⟨g, i, none⟩ = cs[i]? := by
  unfold Has at h
  simp [World.cell?, h]

theorem Has.free (h : Has w g t cs) (i : Nat) : w.frozen? ⟨g, i, none⟩ = false := by
  unfold Has at h
  simp [World.frozen?, h]

theorem Has.made (w : World) (t : TypeId) (cs : Array Value) : Has (w.alloc (.cells cs t)) w.heap.size t cs := heap_alloc_new w _

theorem Has.drew (h : Has w g t cs) : Has w.drew g t cs := h

theorem Has.keep (h : Has w g t cs) (e : w'.heap[g]? = w.heap[g]?) : Has w' g t cs := e.trans h

theorem Has.alloc (h : Has w g t cs) (o : Obj) : Has (w.alloc o) g t cs := h.keep (Below.heap_alloc w o g h.lt)

theorem Has.put (h : Has w g t cs) (i : Nat) (u : Value) : Has (w.setCell ⟨g, i, none⟩ u) g t (cs.setIfInBounds i u) := by
  unfold Has at h ⊢
  simp [World.setCell, Array.getElem?_modify, h]

theorem Has.far (h : Has w g t cs) {p : Addr} (hp : g ≠ p.block) (u : Value) : Has (w.setCell p u) g t cs := h.keep (Below.heap_setCell w p u g hp)

theorem Has.below {B : Nat} (h : Has w g t cs) (hb : Below B w w') (hg : g < B) : Has w' g t cs := h.keep (hb.block g hg)

theorem Has.grown {r : Option Nat} (h : Has w g t cs) (hb : w.grownBy w' r) (hg : some g ≠ r) : Has w' g t cs := h.keep (hb.block g h.lt hg)

theorem Has.uniq {t' : TypeId} {cs' : Array Value} (h : Has w g t cs) (h' : Has w g t' cs') : cs = cs' ∧ t = t' := by
  unfold Has at h h'
  rw [h] at h'
  injection h' with h'
  injection h' with h1 h2
  exact ⟨h1, h2⟩

/-- Only block b turns (and new blocks come). -/
theorem grown_refl (w : World) (r : Option Nat) : w.grownBy w r := World.grownBy.refl w r

theorem grown_drew {r : Option Nat} (h : w.grownBy w' r) : w.grownBy w'.drew r := ⟨h.os, h.tape, h.output, h.size, h.block⟩

theorem grown_drewN {r : Option Nat} (h : w.grownBy w' r) (n : Nat) : w.grownBy (w'.drewN n) r := ⟨h.os, h.tape, h.output, h.size, h.block⟩

theorem grown_alloc {r : Option Nat} (h : w.grownBy w' r) (o : Obj) : w.grownBy (w'.alloc o) r :=
  ⟨h.os, h.tape, h.output, Nat.le_trans h.size (by simp), fun i hi hne => (Below.heap_alloc w' o i (Nat.lt_of_lt_of_le hi h.size)).trans (h.block i hi hne)⟩

theorem grown_put (h : w.grownBy w' (some b)) {p : Addr} (hp : p.block = b ∨ w.heap.size ≤ p.block) (u : Value) : w.grownBy (w'.setCell p u) (some b) :=
  ⟨h.os, h.tape, h.output, by simpa [World.setCell] using h.size, fun i hi hne => (Below.heap_setCell w' p u i (by
    rintro rfl
    rcases hp with hp | hp
    · exact hne (by rw [hp])
    · omega)).trans (h.block i hi hne)⟩

theorem grown_own (h : w.grownBy w' (some b)) (i : Nat) (u : Value) : w.grownBy (w'.setCell ⟨b, i, none⟩ u) (some b) := grown_put h (.inl rfl) u

theorem grown_below {B : Nat} (h : Below B w w') (r : Option Nat) (hB : w.heap.size ≤ B) : w.grownBy w' r :=
  ⟨h.os, h.tape, h.output, h.size, fun i hi _ => h.block i (by omega)⟩

theorem grown_trans {r : Option Nat} (h : w.grownBy w1 r) (k : w1.grownBy w' r) : w.grownBy w' r :=
  ⟨k.os.trans h.os, k.tape.trans h.tape, k.output.trans h.output, Nat.le_trans h.size k.size,
    fun i hi hne => (k.block i (Nat.lt_of_lt_of_le hi h.size) hne).trans (h.block i hi hne)⟩

/-- What turns one block that is not below B leaves all below B. -/
theorem below_grown {B : Nat} (h : w.grownBy w' (some b)) (hb : B ≤ b) (hB : B ≤ w.heap.size) : Below B w w' :=
  ⟨h.os, h.tape, h.output, h.size, fun i hi => h.block i (by omega) (by intro e; injection e; omega)⟩

theorem below_none {B : Nat} (h : w.grownBy w' none) (hB : B ≤ w.heap.size) : Below B w w' :=
  ⟨h.os, h.tape, h.output, h.size, fun i hi => h.block i (by omega) (by simp)⟩
end

/-- From w to w' only blocks of F turn, and new ones come. -/
structure Turn (F : Nat → Prop) (w w' : World) : Prop where
  os : w'.os = w.os
  tape : w'.tape = w.tape
  output : w'.output = w.output
  size : w.heap.size ≤ w'.heap.size
  block : ∀ k, k < w.heap.size → ¬ F k → w'.heap[k]? = w.heap[k]?

section
variable {F G : Nat → Prop} {w w' w1 : World}

theorem Turn.refl (F : Nat → Prop) (w : World) : Turn F w w := ⟨rfl, rfl, rfl, Nat.le_refl _, fun _ _ _ => rfl⟩
theorem Turn.drew (h : Turn F w w') : Turn F w w'.drew := ⟨h.os, h.tape, h.output, h.size, h.block⟩
theorem Turn.drewN (h : Turn F w w') (n : Nat) : Turn F w (w'.drewN n) := ⟨h.os, h.tape, h.output, h.size, h.block⟩
theorem Turn.alloc (h : Turn F w w') (o : Obj) : Turn F w (w'.alloc o) :=
  ⟨h.os, h.tape, h.output, Nat.le_trans h.size (by simp), fun i hi hne => (Below.heap_alloc w' o i (Nat.lt_of_lt_of_le hi h.size)).trans (h.block i hi hne)⟩
theorem Turn.put (h : Turn F w w') {b : Nat} (hb : b < w.heap.size → F b) (i : Nat) (u : Value) : Turn F w (w'.setCell ⟨b, i, none⟩ u) :=
  ⟨h.os, h.tape, h.output, by simpa [World.setCell] using h.size, fun k hk hne => (Below.heap_setCell w' ⟨b, i, none⟩ u k (by
    rintro rfl
    exact hne (hb hk))).trans (h.block k hk hne)⟩
theorem Turn.grown (h : Turn F w w') {r : Option Nat} (k : w'.grownBy w1 r) (hr : ∀ j, r = some j → j < w.heap.size → F j) : Turn F w w1 :=
  ⟨k.os.trans h.os, k.tape.trans h.tape, k.output.trans h.output, Nat.le_trans h.size k.size, fun i hi hne =>
    (k.block i (Nat.lt_of_lt_of_le hi h.size) (fun e => hne (hr i e.symm hi))).trans (h.block i hi hne)⟩
/-- What turns behind may be new, or be of F. -/
theorem Turn.trans (h : Turn F w w1) (k : Turn G w1 w') (hG : ∀ j, j < w.heap.size → G j → F j) : Turn F w w' :=
  ⟨k.os.trans h.os, k.tape.trans h.tape, k.output.trans h.output, Nat.le_trans h.size k.size,
    fun i hi hne => (k.block i (Nat.lt_of_lt_of_le hi h.size) (fun g => hne (hG i hi g))).trans (h.block i hi hne)⟩
theorem Turn.more (h : Turn G w w') (hG : ∀ j, j < w.heap.size → G j → F j) : Turn F w w' :=
  ⟨h.os, h.tape, h.output, h.size, fun i hi hne => h.block i hi (fun g => hne (hG i hi g))⟩
theorem Turn.of_below {B : Nat} (h : Below B w w') (hB : ∀ j, j < w.heap.size → B ≤ j → F j) : Turn F w w' :=
  ⟨h.os, h.tape, h.output, h.size, fun i hi hne => h.block i (by
    rcases Nat.lt_or_ge i B with k | k
    · exact k
    · exact absurd (hB i hi k) hne)⟩
theorem Turn.of_grown {b : Nat} (h : w.grownBy w' (some b)) (hb : F b) : Turn F w w' :=
  ⟨h.os, h.tape, h.output, h.size, fun i hi hne => h.block i hi (by intro e; injection e with e; subst e; exact hne hb)⟩
theorem Turn.below {B : Nat} (h : Turn F w w') (hB : B ≤ w.heap.size) (hF : ∀ j, j < B → ¬ F j) : Below B w w' :=
  ⟨h.os, h.tape, h.output, h.size, fun i hi => h.block i (by omega) (hF i hi)⟩
theorem Has.turn {g : Nat} {t : TypeId} {cs : Array Value} (h : Has w g t cs) (k : Turn F w w') (hg : ¬ F g) : Has w' g t cs := h.keep (k.block g h.lt hg)
end

theorem ret_int {k : IntKind} {a b : Int} (h : a = b) : Ending.returned (.int k a) = .returned (.int k b) := by rw [h]
theorem ret_bool {a b : Bool} (h : a = b) : Ending.returned (.bool a) = .returned (.bool b) := by rw [h]
theorem ret_str {a b : ByteArray} (h : a = b) : Ending.returned (.string a) = .returned (.string b) := by rw [h]

end Go.Proofs.YtdoadmkaoboncaaGreatDoor
