/- tree: what a tree is in memory. -/
import Derived.Test.YtdoadmkaoboncaaGreatDoorTreeN
import Derived.Test.YtdoadmkaoboncaaGreatDoorDigM
import Derived.Lib.TrailingZeros
namespace Go.Proofs.YtdoadmkaoboncaaGreatDoor.dig
open Go Go.RowKit

/-- The tables that are laid: digest's rounds, and that of trailing zeros; their blocks lie below B. -/
structure Rt (B : Nat) (w : World) : Prop where
  rk : Rk w
  tz : ∀ (i x : Nat), Lib.deBruijn64tab[i]? = some x → w.cell? ⟨2, i, none⟩ = some (.int .u8 (x : Int))
  lo : 4 < B ∧ 2 < B
  size : B ≤ w.heap.size
theorem Rt.keep {B : Nat} {w w' : World} (h : Rt B w) (s : w.heap.size ≤ w'.heap.size) (e : ∀ k, k < B → w'.heap[k]? = w.heap[k]?) : Rt B w' :=
  ⟨h.rk.keep (e _ h.lo.1), fun i x hx => by
    have := h.tz i x hx
    unfold World.cell? at *
    rw [e _ h.lo.2]
    exact this, h.lo, Nat.le_trans h.size s⟩
theorem Rt.below {B C : Nat} {w w' : World} (h : Rt B w) (b : Below C w w') (hC : B ≤ C) : Rt B w' := h.keep b.size fun k hk => b.block k (by omega)
theorem Rt.turn {B : Nat} {F : Nat → Prop} {w w' : World} (h : Rt B w) (t : Turn F w w') (hF : ∀ k, F k → B ≤ k) : Rt B w' :=
  h.keep t.size fun k hk => t.block k (by have := h.size; omega) (fun f => by have := hF k f; omega)

/-- The cells of the j-th row's sum number i; a row's own cells. -/
def nodeC (f : Nat → List UInt8) (j i : Nat) : List Value := (cellsOf (rt f (i * 2 ^ j) (2 ^ j))).toList
def rowC (g : Nat → Nat) (sv : Nat → Value) (idle : Nat → Nat) (j : Nat) : List Value := [.int .i64 (g j), sv j, .int .i64 (idle j)]
theorem rowC_len (g : Nat → Nat) (sv : Nat → Value) (idle : Nat → Nat) (j : Nat) : (rowC g sv idle j).length = 3 := rfl

/-- A tree at b, of n leaves, its floor fl, with K rows: of the j-th the first g j are gone, c j is how many there were ever. Its blocks are of F. -/
structure Raw (F : Nat → Prop) (w : World) (b n fl K : Nat) (g c : Nat → Nat) (f : Nat → List UInt8) (rv : Value) (sv : Nat → Value) (idle : Nat → Nat) : Prop where
  tree : Has w b 123 #[.int .i64 n, .int .i64 fl, rv]
  rows : Seg w 144 3 rv K (flat (rowC g sv idle) 0 K)
  sums : ∀ j, j < K → Seg w 38 32 (sv j) (c j - g j) (flat (nodeC f j) (g j) (c j - g j))
  apart : ∀ i j, i < K → j < K → i ≠ j → ∀ x, (sv i).ownBlock = some x → (sv j).ownBlock ≠ some x
  fb : F b
  fr : ∀ x, rv.ownBlock = some x → F x
  fs : ∀ j, j < K → ∀ x, (sv j).ownBlock = some x → F x
  idle : ∀ j, j < K → idle j ≤ 1000000

section
variable {F G : Nat → Prop} {w w' : World} {b n fl K : Nat} {g c : Nat → Nat} {f : Nat → List UInt8} {rv : Value} {sv : Nat → Value} {idle : Nat → Nat}

theorem Raw.turn (h : Raw F w b n fl K g c f rv sv idle) (t : Turn G w w') (hG : ∀ k, F k → k < w.heap.size → ¬ G k) : Raw F w' b n fl K g c f rv sv idle :=
  ⟨h.tree.turn t (hG _ h.fb h.tree.lt), h.rows.turn t (fun x hx => hG x (h.fr x hx) (h.rows.lt hx)), fun j hj => (h.sums j hj).turn t (fun x hx => hG x (h.fs j hj x hx) ((h.sums j hj).lt hx)), h.apart, h.fb, h.fr, h.fs, h.idle⟩
theorem Raw.below (h : Raw F w b n fl K g c f rv sv idle) (t : Below w.heap.size w w') : Raw F w' b n fl K g c f rv sv idle :=
  h.turn (Turn.of_below (F := fun k => w.heap.size ≤ k) t (fun _ _ h => h)) (fun k _ h1 h2 => by omega)
theorem Raw.drew (h : Raw F w b n fl K g c f rv sv idle) : Raw F w.drew b n fl K g c f rv sv idle := ⟨h.tree, h.rows, h.sums, h.apart, h.fb, h.fr, h.fs, h.idle⟩
theorem Raw.alloc (h : Raw F w b n fl K g c f rv sv idle) (o : Obj) : Raw F (w.alloc o) b n fl K g c f rv sv idle :=
  h.below ((Below.refl _ _).alloc (Nat.le_refl _) o)
theorem Raw.more (h : Raw F w b n fl K g c f rv sv idle) (hG : ∀ k, k < w.heap.size → F k → G k) : Raw G w b n fl K g c f rv sv idle :=
  ⟨h.tree, h.rows, h.sums, h.apart, hG _ h.tree.lt h.fb, fun x hx => hG x (h.rows.lt hx) (h.fr x hx), fun j hj x hx => hG x ((h.sums j hj).lt hx) (h.fs j hj x hx), h.idle⟩
end

/-- A tree of n leaves, whose sums are f; its floor is fl. -/
structure Tr (B : Nat) (F : Nat → Prop) (w : World) (b n fl : Nat) (f : Nat → List UInt8) : Prop where
  raw : ∃ rv sv idle, Raw F w b n fl (tops n) (gone fl) (fun j => n / 2 ^ j) f rv sv idle
  rt : Rt B w
  hF : ∀ k, F k → B ≤ k
  len : ∀ i, (f i).length = 32
  small : n ≤ 1000000
  floor : fl ≤ n

section
variable {B : Nat} {F G : Nat → Prop} {w w' : World} {b n fl : Nat} {f : Nat → List UInt8}
theorem Tr.turn (h : Tr B F w b n fl f) (t : Turn G w w') (hG : ∀ k, F k → k < w.heap.size → ¬ G k) (hB : ∀ k, G k → B ≤ k) : Tr B F w' b n fl f := by
  obtain ⟨rv, sv, idle, r⟩ := h.raw
  exact ⟨⟨rv, sv, idle, r.turn t hG⟩, h.rt.turn t hB, h.hF, h.len, h.small, h.floor⟩
theorem Tr.below (h : Tr B F w b n fl f) (t : Below w.heap.size w w') : Tr B F w' b n fl f := by
  obtain ⟨rv, sv, idle, r⟩ := h.raw
  exact ⟨⟨rv, sv, idle, r.below t⟩, h.rt.below t h.rt.size, h.hF, h.len, h.small, h.floor⟩
theorem Tr.drew (h : Tr B F w b n fl f) : Tr B F w.drew b n fl f := h.below (Below.refl _ _).drew
theorem Tr.alloc (h : Tr B F w b n fl f) (o : Obj) : Tr B F (w.alloc o) b n fl f := h.below ((Below.refl _ _).alloc (Nat.le_refl _) o)
theorem Tr.more (h : Tr B F w b n fl f) (hG : ∀ k, k < w.heap.size → F k → G k) (hB : ∀ k, G k → B ≤ k) : Tr B G w b n fl f := by
  obtain ⟨rv, sv, idle, r⟩ := h.raw
  exact ⟨⟨rv, sv, idle, r.more hG⟩, h.rt, hB, h.len, h.small, h.floor⟩
theorem Tr.head (h : Tr B F w b n fl f) : ∃ rv, Has w b 123 #[.int .i64 n, .int .i64 fl, rv] := by
  obtain ⟨rv, sv, idle, r⟩ := h.raw
  exact ⟨rv, r.tree⟩
theorem Tr.lt (h : Tr B F w b n fl f) : b < w.heap.size := by
  obtain ⟨rv, e⟩ := h.head
  exact e.lt
end

theorem rt_len {f : Nat → List UInt8} (h : ∀ i, (f i).length = 32) (a n : Nat) (h0 : 0 < n) : (rt f a n).length = 32 := rt_length f n a (fun i _ _ => h i) h0
theorem nodeC_len {f : Nat → List UInt8} (h : ∀ i, (f i).length = 32) (j i : Nat) : (nodeC f j i).length = 32 := by
  unfold nodeC
  rw [Array.length_toList, cellsOf_size, rt_len h _ _ (Nat.pow_pos (by decide))]

/-- A row of a tree: its address, its cells, and the sum number i in it. -/
theorem Tr.row {B : Nat} {F : Nat → Prop} {w : World} {b n fl : Nat} {f : Nat → List UInt8} (h : Tr B F w b n fl f) {j : Nat} (hj : j < tops n) : ∃ R o C, Has w b 123 #[.int .i64 n, .int .i64 fl, .slice (some ⟨R, o, none⟩) (tops n) C] ∧
    ∃ v, w.cell? ⟨R, o + j * 3, none⟩ = some (.int .i64 (gone fl j)) ∧ w.cell? ⟨R, o + (j * 3 + 1), none⟩ = some v ∧ R < w.heap.size ∧
      Seg w 38 32 v (n / 2 ^ j - gone fl j) (flat (nodeC f j) (gone fl j) (n / 2 ^ j - gone fl j)) := by
  obtain ⟨rv, sv, idle, r⟩ := h.raw
  obtain ⟨R, o, C, rfl, hR, _, _, hc⟩ := r.rows.cells (by omega)
  have g0 := flat_get (g := rowC (gone fl) sv idle) (a := 0) (k := tops n) (w := 3) (fun i _ _ => rowC_len _ _ _ i) hj (r := 0) (by omega)
  have g1 := flat_get (g := rowC (gone fl) sv idle) (a := 0) (k := tops n) (w := 3) (fun i _ _ => rowC_len _ _ _ i) hj (r := 1) (by omega)
  rw [Nat.zero_add] at g0 g1
  exact ⟨R, o, C, r.tree, sv j, hc _ _ g0, hc _ _ g1, hR, r.sums j hj⟩
end Go.Proofs.YtdoadmkaoboncaaGreatDoor.dig
