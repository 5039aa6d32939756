/- prune: what a vault is in memory. -/
import Derived.Test.YtdoadmkaoboncaaGreatDoorTreeR
import Derived.Test.YtdoadmkaoboncaaGreatDoorTreeI
import Derived.Test.YtdoadmkaoboncaaGreatDoorLeaf
import Derived.Test.YtdoadmkaoboncaaGreatDoorTreeW
import Derived.Test.YtdoadmkaoboncaaGreatDoorAppE
import Derived.Test.YtdoadmkaoboncaaGreatDoorFltDJ
namespace Go.Proofs.YtdoadmkaoboncaaGreatDoor.prn
open Go Go.RowKit Go.Proofs.YtdoadmkaoboncaaGreatDoor.dig

/-- What is kept of texts: those below the floor are blank, from one on. -/
def keptC (L : List ByteArray) (fl first : Nat) : List Value := List.replicate (fl - first) (Value.string ByteArray.empty) ++ (L.drop fl).map Value.string
theorem keptC_len {L : List ByteArray} {fl first : Nat} (h1 : first ≤ fl) (h2 : fl ≤ L.length) : (keptC L fl first).length = L.length - first := by
  unfold keptC
  rw [List.length_append, List.length_replicate, List.length_map, List.length_drop]
  omega
theorem keptC_at {L : List ByteArray} {fl first i : Nat} (_ : first ≤ fl) (h2 : fl ≤ i) {s : ByteArray} (hs : L[i]? = some s) : (keptC L fl first)[i - first]? = some (.string s) := by
  unfold keptC
  rw [List.getElem?_append_right (by rw [List.length_replicate]; omega), List.length_replicate, List.getElem?_map, List.getElem?_drop, show fl + (i - first - (fl - first)) = i by omega, hs]
  rfl
theorem keptC_one {L : List ByteArray} {fl first : Nat} : ∀ u ∈ keptC L fl first, u.oneCell' = true := by
  intro u hu
  unfold keptC at hu
  rcases List.mem_append.1 hu with h | h
  · rw [(List.mem_replicate.1 h).2]; rfl
  · obtain ⟨s, _, rfl⟩ := List.mem_map.1 h; rfl
theorem keptC_app {L M : List ByteArray} {fl first : Nat} (h2 : fl ≤ L.length) : keptC L fl first ++ M.map Value.string = keptC (L ++ M) fl first := by
  unfold keptC
  rw [List.append_assoc, List.drop_append_of_le_length h2, List.map_append]
theorem keptC_drop {L : List ByteArray} {fl first : Nat} : (keptC L fl first).drop (fl - first) = keptC L fl fl := by
  unfold keptC
  rw [List.drop_append_of_le_length (by rw [List.length_replicate]; exact Nat.le_refl _), List.drop_of_length_le (by rw [List.length_replicate]; exact Nat.le_refl _), Nat.sub_self]
  rfl
theorem keptC_take {L : List ByteArray} {fl n : Nat} (_ : fl ≤ n) : (keptC L fl fl).take (n - fl) = keptC (L.take n) fl fl := by
  unfold keptC
  rw [Nat.sub_self, List.replicate_zero, List.nil_append, List.nil_append, ← List.map_take, List.drop_take]
theorem keptC_same {L : List ByteArray} {fl : Nat} : keptC L fl fl = (L.drop fl).map Value.string := by
  unfold keptC
  rw [Nat.sub_self]
  rfl

/-- A vault's blocks: its own, its tree's (of T), that of its commands. -/
structure Vr (B : Nat) (F T : Nat → Prop) (w : World) (vb tb fl first : Nat) (L : List ByteArray) (cv : Value) : Prop where
  own : Has w vb 87 #[.pointer (some ⟨tb, 0, none⟩), .int .i64 first, cv]
  tree : Tr B T w tb L.length fl (leafF L)
  seg : Seg w 9 1 cv (L.length - first) (keptC L fl first)
  first : first ≤ fl
  fv : F vb ∧ ¬ T vb
  ft : ∀ k, T k → F k
  fc : ∀ x, cv.ownBlock = some x → F x ∧ ¬ T x

/-- A vault of texts L, its floor fl. -/
structure Va (B : Nat) (F : Nat → Prop) (w : World) (vb : Nat) (L : List ByteArray) (fl : Nat) : Prop where
  raw : ∃ T tb first cv, Vr B F T w vb tb fl first L cv
  hF : ∀ k, F k → B ≤ k
  short : ∀ s ∈ L, s.size ≤ 1000000

section
variable {B : Nat} {F G T : Nat → Prop} {w w' : World} {vb tb fl first : Nat} {L : List ByteArray} {cv : Value}
theorem Vr.turn (h : Vr B F T w vb tb fl first L cv) (t : Turn G w w') (hG : ∀ k, F k → k < w.heap.size → ¬ G k) (hB : ∀ k, G k → B ≤ k) : Vr B F T w' vb tb fl first L cv :=
  ⟨h.own.turn t (hG _ h.fv.1 h.own.lt), h.tree.turn t (fun k hk => hG k (h.ft k hk)) hB, h.seg.turn t (fun x hx => hG x (h.fc x hx).1 (h.seg.lt hx)), h.first, h.fv, h.ft, h.fc⟩
theorem Va.turn (h : Va B F w vb L fl) (t : Turn G w w') (hG : ∀ k, F k → k < w.heap.size → ¬ G k) (hB : ∀ k, G k → B ≤ k) : Va B F w' vb L fl := by
  obtain ⟨T, tb, first, cv, r⟩ := h.raw
  exact ⟨⟨T, tb, first, cv, r.turn t hG hB⟩, h.hF, h.short⟩
theorem Va.rt (h : Va B F w vb L fl) : Rt B w := by
  obtain ⟨T, tb, first, cv, r⟩ := h.raw
  exact r.tree.rt
theorem Va.below (h : Va B F w vb L fl) (t : Below w.heap.size w w') : Va B F w' vb L fl :=
  h.turn (Turn.of_below (F := fun k => w.heap.size ≤ k) t (fun _ _ h => h)) (fun k _ h1 h2 => by omega) (fun k hk => Nat.le_trans h.rt.size hk)
theorem Va.drew (h : Va B F w vb L fl) : Va B F w.drew vb L fl := h.below (Below.refl _ _).drew
theorem Va.alloc (h : Va B F w vb L fl) (o : Obj) : Va B F (w.alloc o) vb L fl := h.below ((Below.refl _ _).alloc (Nat.le_refl _) o)
theorem Va.more (h : Va B F w vb L fl) (hG : ∀ k, k < w.heap.size → F k → G k) (hB : ∀ k, G k → B ≤ k) : Va B G w vb L fl := by
  obtain ⟨T, tb, first, cv, r⟩ := h.raw
  refine ⟨⟨fun k => T k ∧ k < w.heap.size, tb, first, cv, r.own, r.tree.more (fun k h1 h2 => ⟨h2, h1⟩) (fun k hk => r.tree.hF k hk.1), r.seg, r.first, ⟨hG _ r.own.lt r.fv.1, fun h => r.fv.2 h.1⟩, fun k hk => hG k hk.2 (r.ft k hk.1), fun x hx => ⟨hG x (r.seg.lt hx) (r.fc x hx).1, fun h => (r.fc x hx).2 h.1⟩⟩, hB, h.short⟩
theorem Va.tight (h : Va B F w vb L fl) : Va B (fun k => F k ∧ k < w.heap.size) w vb L fl := h.more (fun _ h1 h2 => ⟨h2, h1⟩) (fun k hk => h.hF k hk.1)
theorem Va.fresh (h : Va B F w vb L fl) (lo : Nat) (hF : ∀ k, F k → k < w.heap.size → lo ≤ k) (hB : B ≤ lo) : Va B (fun k => lo ≤ k ∧ k < w.heap.size) w vb L fl :=
  h.more (fun _ h1 h2 => ⟨hF _ h2 h1, h1⟩) (fun _ hk => Nat.le_trans hB hk.1)
theorem Va.lt (h : Va B F w vb L fl) : vb < w.heap.size := by
  obtain ⟨T, tb, first, cv, r⟩ := h.raw
  exact r.own.lt
theorem Va.floor_le (h : Va B F w vb L fl) : fl ≤ L.length := by
  obtain ⟨T, tb, first, cv, r⟩ := h.raw
  exact r.tree.floor
theorem Va.small (h : Va B F w vb L fl) : L.length ≤ 1000000 := by
  obtain ⟨T, tb, first, cv, r⟩ := h.raw
  exact r.tree.small
theorem Va.ownF (h : Va B F w vb L fl) : F vb := by
  obtain ⟨T, tb, first, cv, r⟩ := h.raw
  exact r.fv.1
end
end Go.Proofs.YtdoadmkaoboncaaGreatDoor.prn
