/- Texts laid into one: FltDJ, PruA, PruB, PruC, PruDA, PruE, Head, PruF, Strs. -/
import Derived.Test.YtdoadmkaoboncaaGreatDoorFltDI
import Derived.Test.YtdoadmkaoboncaaGreatDoorTreeR
import Derived.Test.YtdoadmkaoboncaaGreatDoorTreeI
import Derived.Test.YtdoadmkaoboncaaGreatDoorLeaf
import Derived.Test.YtdoadmkaoboncaaGreatDoorTreeW
import Derived.Test.YtdoadmkaoboncaaGreatDoorAppE
import Derived.Test.YtdoadmkaoboncaaGreatDoorDigM
import Derived.Test.YtdoadmkaoboncaaGreatDoorBld
import Derived.Test.YtdoadmkaoboncaaGreatDoorBase
import Derived.SliceStrings
import Derived.ProofKit
import Derived.OpenShut
import Derived.Deep.MidRow
import Derived.Deep.SlicePairs
import Derived.ChangeOld
section
/- Out of FltD: intOf, strInfo, below_own, below_less. -/
namespace Go.Proofs.YtdoadmkaoboncaaGreatDoor.flt
open Go Go.RowKit Go.Extern.Stop Go.Stop Go.Extern

def intOf : Value → Int
  | .int _ x => x
  | _ => 0

theorem strInfo : ∃ i z, Tryz.prog.info? 9 = some i ∧ i.zero = some z ∧ i.size = 1 ∧ z.cells.size = 1 ∧ i.bytes = 16 := by
  have h2 : (Tryz.prog.info? 9).map (fun i => (i.zero.map (fun z => z.cells.size), i.size, i.bytes)) = some (some 1, 1, 16) := by kernel_rfl
  obtain ⟨i, hi, e⟩ := Option.map_eq_some_iff.1 h2
  simp only [Prod.mk.injEq] at e
  obtain ⟨e1, e2, e3⟩ := e
  obtain ⟨z, hz, e4⟩ := Option.map_eq_some_iff.1 e1
  exact ⟨i, z, hi, hz, e2, e4, e3⟩

theorem below_own {B : Nat} {w w' : World} {v : Value} (h : w.grownBy w' v.ownBlock) (hv : ∀ x, v.ownBlock = some x → B ≤ x) (hB : B ≤ w.heap.size) : Below B w w' :=
  ⟨h.os, h.tape, h.output, h.size, fun i hi => h.block i (by omega) (fun e => by have := hv i e.symm; omega)⟩

theorem below_less {B C : Nat} {w w' : World} (h : Below C w w') (hB : B ≤ C) : Below B w w' := ⟨h.os, h.tape, h.output, h.size, fun i hi => h.block i (by omega)⟩
end Go.Proofs.YtdoadmkaoboncaaGreatDoor.flt
end

section
/- prune: what a vault is in memory. -/
namespace Go.Proofs.YtdoadmkaoboncaaGreatDoor.prn
open Go Go.RowKit Go.Proofs.YtdoadmkaoboncaaGreatDoor.dig

/-- What is kept of texts: those below the floor are blank, from one on. -/
def keptC (L : List ByteArray) (fl first : Nat) : List Value := List.replicate (fl - first) (Value.string ByteArray.empty) ++ (L.drop fl).map Value.string
theorem keptC_len {L : List ByteArray} {fl first : Nat} (h1 : first ≤ fl) (h2 : fl ≤ L.length) : (keptC L fl first).length = L.length - first := by
  unfold keptC
  rw [List.length_append, List.length_replicate, List.length_map, List.length_drop]
  omega
theorem keptC_at {L : List ByteArray} {fl first i : Nat} (_ : first ≤ fl) (h2 : fl ≤ i) {s : ByteArray} (hs : L[i]? = some s) : (keptC L fl first)[i - first]? = some (.string s) := by
  unfold keptC
  rw [List.getElem?_append_right (by rw [List.length_replicate]; omega), List.length_replicate, List.getElem?_map, List.getElem?_drop, show fl + (i - first - (fl - first)) = i by omega, hs]
  rfl
theorem keptC_one {L : List ByteArray} {fl first : Nat} : ∀ u ∈ keptC L fl first, u.oneCell' = true := by
  intro u hu
  unfold keptC at hu
  rcases List.mem_append.1 hu with h | h
  · rw [(List.mem_replicate.1 h).2]; rfl
  · obtain ⟨s, _, rfl⟩ := List.mem_map.1 h; rfl
theorem keptC_app {L M : List ByteArray} {fl first : Nat} (h2 : fl ≤ L.length) : keptC L fl first ++ M.map Value.string = keptC (L ++ M) fl first := by
  unfold keptC
  rw [List.append_assoc, List.drop_append_of_le_length h2, List.map_append]
theorem keptC_drop {L : List ByteArray} {fl first : Nat} : (keptC L fl first).drop (fl - first) = keptC L fl fl := by
  unfold keptC
  rw [List.drop_append_of_le_length (by rw [List.length_replicate]; exact Nat.le_refl _), List.drop_of_length_le (by rw [List.length_replicate]; exact Nat.le_refl _), Nat.sub_self]
  rfl
theorem keptC_take {L : List ByteArray} {fl n : Nat} (_ : fl ≤ n) : (keptC L fl fl).take (n - fl) = keptC (L.take n) fl fl := by
  unfold keptC
  rw [Nat.sub_self, List.replicate_zero, List.nil_append, List.nil_append, ← List.map_take, List.drop_take]
theorem keptC_same {L : List ByteArray} {fl : Nat} : keptC L fl fl = (L.drop fl).map Value.string := by
  unfold keptC
  rw [Nat.sub_self]
  rfl

/-- A vault's blocks: its own, its tree's (of T), that of its commands. -/
structure Vr (B : Nat) (F T : Nat → Prop) (w : World) (vb tb fl first : Nat) (L : List ByteArray) (cv : Value) : Prop where
  own : Has w vb 87 #[.pointer (some ⟨tb, 0, none⟩), .int .i64 first, cv]
  tree : Tr B T w tb L.length fl (leafF L)
  seg : Seg w 9 1 cv (L.length - first) (keptC L fl first)
  first : first ≤ fl
  fv : F vb ∧ ¬ T vb
  ft : ∀ k, T k → F k
  fc : ∀ x, cv.ownBlock = some x → F x ∧ ¬ T x

/-- A vault of texts L, its floor fl. -/
structure Va (B : Nat) (F : Nat → Prop) (w : World) (vb : Nat) (L : List ByteArray) (fl : Nat) : Prop where
  raw : ∃ T tb first cv, Vr B F T w vb tb fl first L cv
  hF : ∀ k, F k → B ≤ k
  short : ∀ s ∈ L, s.size ≤ 1000000

section
variable {B : Nat} {F G T : Nat → Prop} {w w' : World} {vb tb fl first : Nat} {L : List ByteArray} {cv : Value}
theorem Vr.turn (h : Vr B F T w vb tb fl first L cv) (t : Turn G w w') (hG : ∀ k, F k → k < w.heap.size → ¬ G k) (hB : ∀ k, G k → B ≤ k) : Vr B F T w' vb tb fl first L cv :=
  ⟨h.own.turn t (hG _ h.fv.1 h.own.lt), h.tree.turn t (fun k hk => hG k (h.ft k hk)) hB, h.seg.turn t (fun x hx => hG x (h.fc x hx).1 (h.seg.lt hx)), h.first, h.fv, h.ft, h.fc⟩
theorem Va.turn (h : Va B F w vb L fl) (t : Turn G w w') (hG : ∀ k, F k → k < w.heap.size → ¬ G k) (hB : ∀ k, G k → B ≤ k) : Va B F w' vb L fl := by
  obtain ⟨T, tb, first, cv, r⟩ := h.raw
  exact ⟨⟨T, tb, first, cv, r.turn t hG hB⟩, h.hF, h.short⟩
theorem Va.rt (h : Va B F w vb L fl) : Rt B w := by
  obtain ⟨T, tb, first, cv, r⟩ := h.raw
  exact r.tree.rt
theorem Va.below (h : Va B F w vb L fl) (t : Below w.heap.size w w') : Va B F w' vb L fl :=
  h.turn (Turn.of_below (F := fun k => w.heap.size ≤ k) t (fun _ _ h => h)) (fun k _ h1 h2 => by omega) (fun k hk => Nat.le_trans h.rt.size hk)
theorem Va.drew (h : Va B F w vb L fl) : Va B F w.drew vb L fl := h.below (Below.refl _ _).drew
theorem Va.alloc (h : Va B F w vb L fl) (o : Obj) : Va B F (w.alloc o) vb L fl := h.below ((Below.refl _ _).alloc (Nat.le_refl _) o)
theorem Va.more (h : Va B F w vb L fl) (hG : ∀ k, k < w.heap.size → F k → G k) (hB : ∀ k, G k → B ≤ k) : Va B G w vb L fl := by
  obtain ⟨T, tb, first, cv, r⟩ := h.raw
  refine ⟨⟨fun k => T k ∧ k < w.heap.size, tb, first, cv, r.own, r.tree.more (fun k h1 h2 => ⟨h2, h1⟩) (fun k hk => r.tree.hF k hk.1), r.seg, r.first, ⟨hG _ r.own.lt r.fv.1, fun h => r.fv.2 h.1⟩, fun k hk => hG k hk.2 (r.ft k hk.1), fun x hx => ⟨hG x (r.seg.lt hx) (r.fc x hx).1, fun h => (r.fc x hx).2 h.1⟩⟩, hB, h.short⟩
theorem Va.tight (h : Va B F w vb L fl) : Va B (fun k => F k ∧ k < w.heap.size) w vb L fl := h.more (fun _ h1 h2 => ⟨h2, h1⟩) (fun k hk => h.hF k hk.1)
theorem Va.fresh (h : Va B F w vb L fl) (lo : Nat) (hF : ∀ k, F k → k < w.heap.size → lo ≤ k) (hB : B ≤ lo) : Va B (fun k => lo ≤ k ∧ k < w.heap.size) w vb L fl :=
  h.more (fun _ h1 h2 => ⟨hF _ h2 h1, h1⟩) (fun _ hk => Nat.le_trans hB hk.1)
theorem Va.lt (h : Va B F w vb L fl) : vb < w.heap.size := by
  obtain ⟨T, tb, first, cv, r⟩ := h.raw
  exact r.own.lt
theorem Va.floor_le (h : Va B F w vb L fl) : fl ≤ L.length := by
  obtain ⟨T, tb, first, cv, r⟩ := h.raw
  exact r.tree.floor
theorem Va.small (h : Va B F w vb L fl) : L.length ≤ 1000000 := by
  obtain ⟨T, tb, first, cv, r⟩ := h.raw
  exact r.tree.small
theorem Va.ownF (h : Va B F w vb L fl) : F vb := by
  obtain ⟨T, tb, first, cv, r⟩ := h.raw
  exact r.fv.1
end
end Go.Proofs.YtdoadmkaoboncaaGreatDoor.prn
end

section
/- prune: New, Len, Floor, Add. -/
namespace Go.Proofs.YtdoadmkaoboncaaGreatDoor.prn
open Go Go.RowKit Go.Proofs.YtdoadmkaoboncaaGreatDoor.dig

section
variable {B : Nat} {F : Nat → Prop} {w : World} {vb fl : Nat} {L : List ByteArray}

set_option maxHeartbeats 400000 in
theorem Va.len_calls (h : Va B F w vb L fl) : Calls Tryz.prog 55 #[.pointer (some ⟨vb, 0, none⟩)] w fun en w' => en = .returned (.int .i64 L.length) ∧ w = w' := by
  obtain ⟨T, tb, first, cv, r⟩ := h.raw
  have e0 := r.own.cell 0
  simp at e0
  have HT := Lib.hid r.tree.len_calls
  clear r h
  go_enter Tryz.func55, Tryz.ntmps55
  go_wp2_with fail
  refine HT.out.mono ?_
  rintro en w1 ⟨rfl, rfl⟩
  go_wp2_with fail
  go_ret
  exact ⟨rfl, rfl⟩

set_option maxHeartbeats 400000 in
theorem Va.floor_calls (h : Va B F w vb L fl) : Calls Tryz.prog 50 #[.pointer (some ⟨vb, 0, none⟩)] w fun en w' => en = .returned (.int .i64 fl) ∧ w = w' := by
  obtain ⟨T, tb, first, cv, r⟩ := h.raw
  have e0 := r.own.cell 0
  simp at e0
  have HT := Lib.hid r.tree.floor_calls
  clear r h
  go_enter Tryz.func50, Tryz.ntmps50
  go_wp2_with fail
  refine HT.out.mono ?_
  rintro en w1 ⟨rfl, rfl⟩
  go_wp2_with fail
  go_ret
  exact ⟨rfl, rfl⟩
end

set_option maxHeartbeats 1000000 in
theorem vnew_calls (B : Nat) (w : World) (hR : Rt B w) :
    Calls Tryz.prog 21 #[] w fun en w' => ∃ b, en = .returned (.pointer (some ⟨b, 0, none⟩)) ∧ w.heap.size ≤ b ∧ Va B (fun k => w.heap.size ≤ k) w' b [] 0 ∧ Below w.heap.size w w' := by
  have HT := Lib.hid (tnew_calls B (leafF []) w hR (leafF_len []))
  have HR := Lib.hid hR
  clear hR
  go_enter Tryz.func21, Tryz.ntmps21
  go_wp2_with fail
  refine HT.out.mono ?_
  rintro en w1 ⟨tb, rfl, htb, t1, b1⟩
  have T1 := Lib.hid (show _ ∧ _ ∧ _ from ⟨htb, t1, b1⟩)
  clear htb t1 b1
  go_wp2_with fail
  go_ret
  have hl := T1.out.2.1.lt
  have hs := T1.out.2.2.size
  refine ⟨w1.heap.size, rfl, hs, ⟨⟨fun k => k = tb, tb, 0, .slice none 0 0, made_at _ _ rfl, T1.out.2.1.alloc _, Seg.nil _ _ _, Nat.le_refl _, ⟨hs, fun e => ?_⟩, fun k hk => ?_, fun x hx => by cases hx⟩, fun k hk => Nat.le_trans HR.out.size hk, fun s hs => by cases hs⟩, T1.out.2.2.alloc hs _⟩
  · have e : w1.heap.size = tb := e
    omega
  · rw [show k = tb from hk]; exact T1.out.1

section
variable {B : Nat} {F : Nat → Prop} {w : World} {vb fl : Nat} {L : List ByteArray}

set_option maxRecDepth 100000 in
set_option maxHeartbeats 2000000 in
theorem Va.add (h : Va B F w vb L fl) (a : Option Addr) (c : Nat) (M : List ByteArray) (hM : Strs w (.slice a M.length c) M)
    (hv : ∀ x, (Value.slice a M.length c).ownBlock = some x → ¬ F x) (hn : L.length + M.length < 1000000) :
    Calls Tryz.prog 22 #[.pointer (some ⟨vb, 0, none⟩), .slice a M.length c] w fun en w' => en = .returned (.tuple #[]) ∧ Va B (fun k => F k ∨ w.heap.size ≤ k) w' vb (L ++ M) fl ∧ Turn F w w' := by
  obtain ⟨T, tb, first, cv, r⟩ := h.raw
  have e0 := r.own.cell 0
  simp at e0
  obtain ⟨i0, z0, hi0, hz0, hz1, hz2, hz3⟩ := flt.strInfo
  have hfl : fl ≤ L.length := r.tree.floor
  have tr0 := r.tree.fcongr (f' := leafF (L ++ M)) (fun i hi => (leafF_app L M i hi).symm) (leafF_len _)
  have HT := Lib.hid (tr0.append_calls a c M hM (fun x hx hT => hv x hx (r.ft x hT)) (fun i s hs => by
    rw [leafF_at (L ++ M) (L.length + i) s (by rw [List.getElem?_append_right (by omega), Nat.add_sub_cancel_left]; exact hs)]) hn)
  obtain ⟨m, hm⟩ : ∃ m, m = M.length := ⟨_, rfl⟩
  obtain ⟨ca, cc, hcv, _, _⟩ := r.seg.slice
  have H := Lib.hid (show _ ∧ _ ∧ _ ∧ _ ∧ _ ∧ _ ∧ _ from ⟨h, r, hM, hv, hn, hi0, hz0⟩)
  clear h r hM hv hn hi0 hz0 tr0
  rw [← hm] at HT H ⊢
  have HM := Lib.hid hm
  clear hm
  subst hcv
  go_enter Tryz.func22, Tryz.ntmps22
  go_wp2_with fail
  refine HT.out.mono ?_
  rintro en w1 ⟨rfl, t1, u1⟩
  obtain ⟨h, r, hM, hv, hn, _, _⟩ := H.out
  have own1 := r.own.turn u1 r.fv.2
  have seg1 := r.seg.turn u1 (fun x hx => (r.fc x hx).2)
  have hM1 := hM.1.turn u1 (fun x hx hT => hv x hx (r.ft x hT))
  rw [← HM.out] at hM1
  have e1 := own1.cell 0
  have e2 := own1.cell 2
  simp at e1 e2
  have fz := own1.free 2
  have T1 := Lib.hid (show _ ∧ _ ∧ _ ∧ _ ∧ _ from ⟨t1, u1, own1, seg1, hM1⟩)
  clear t1 u1 own1 seg1 hM1 h r hM hv hn e0 HT
  go_wp2_with (first
    | ((with_reducible refine at_op 16 ?_); refine wpList_append_every (o := ⟨some 16, _, _, _, _, _⟩) _ rfl (.tmp 14) (.tmp 15) 22 rfl 9 i0 z0 1 16 Tryz.underlying22 H.out.2.2.2.2.2.1 H.out.2.2.2.2.2.2 hz1 hz3 hz2 (by decide) _ (L.length - first) (keptC L fl first) rfl T1.out.2.2.2.1 _ m (M.map Value.string) rfl T1.out.2.2.2.2 (fun u hu => by obtain ⟨s, _, rfl⟩ := List.mem_map.1 hu; rfl) (by have := H.out.2.2.2.2.1; unfold maxLen; omega) (by have := H.out.2.2.2.2.1; omega) ?_;
       intro y w2 hs2 hg2 hb2
       obtain ⟨ya, yc, rfl, _, _⟩ := hs2.slice
       have T2 := Lib.hid (show _ ∧ _ ∧ _ from ⟨hs2, hg2, hb2⟩)
       have own2 : Hid (Has w2 vb 87 #[.pointer (some ⟨tb, 0, none⟩), .int .i64 first, .slice ca (L.length - first) cc]) := Lib.hid (T1.out.2.2.1.grown hg2 (fun e => T1.out.2.2.2.1.ne T1.out.2.2.1 (by decide) e.symm))
       have e3 := own2.out.cell 2
       have f3 := own2.out.free 2
       simp at e3
       clear hs2 hg2 hb2)
    | fail)
  go_end0
  obtain ⟨h, r, hM, hv, hn, _, _⟩ := H.out
  have hsz := T1.out.2.1.size
  have hvl := r.own.lt
  have hlen : (L ++ M).length = L.length + m := by rw [List.length_append, ← HM.out]
  have hcvb : (Value.slice ca (L.length - first) cc).ownBlock ≠ some vb := r.seg.ne r.own (by decide)
  have hy : ∀ x, (Value.slice ya (L.length - first + m) yc).ownBlock = some x → (Value.slice ca (L.length - first) cc).ownBlock = some x ∨ w1.heap.size ≤ x := T2.out.2.2
  have U2 : Turn (fun k => (Value.slice ca (L.length - first) cc).ownBlock = some k ∨ k = vb) w1 (w2.setCell ⟨vb, 2, none⟩ (.slice ya (L.length - first + m) yc)) :=
    ((Turn.refl _ w1).grown T2.out.2.1 (fun j hj _ => .inl hj)).put (fun _ => .inr rfl) 2 _
  refine ⟨rfl, ⟨⟨fun k => (T k ∨ w.heap.size ≤ k) ∧ k < w1.heap.size, tb, first, .slice ya (L.length - first + m) yc, ?_, ?_, ?_, r.first, ⟨.inl r.fv.1, fun e => ?_⟩, fun k hk => ?_, fun x hx => ?_⟩, fun k hk => ?_, fun s hs => ?_⟩, ?_⟩
  · have := own2.out.put 2 (.slice ya (L.length - first + m) yc)
    simpa using this
  · rw [hlen]
    refine (T1.out.1.more (G := fun k => (T k ∨ w.heap.size ≤ k) ∧ k < w1.heap.size) (fun k h1 h2 => ⟨h2, h1⟩) (fun k hk => T1.out.1.hF k hk.1)).turn U2 (fun k hk _ hg => ?_) (fun k hg => ?_)
    · rcases hg with hg | rfl
      · rcases hk.1 with h1 | h1
        · exact (r.fc k hg).2 h1
        · have := r.seg.lt hg; omega
      · rcases hk.1 with h1 | h1
        · exact r.fv.2 h1
        · omega
    · rcases hg with hg | rfl
      · exact h.hF _ (r.fc k hg).1
      · exact h.hF _ r.fv.1
  · have h1 := T2.out.1
    rw [keptC_app hfl] at h1
    have e : (L ++ M).length - first = L.length - first + m := by have := r.first; omega
    rw [e]
    exact Seg.far h1 (fun e => by
      rcases hy vb e with h2 | h2
      · exact hcvb h2
      · omega) _
  · rcases e.1 with h1 | h1
    · exact r.fv.2 h1
    · omega
  · exact hk.1.imp (r.ft k) id
  · rcases hy x hx with h1 | h1
    · refine ⟨.inl (r.fc x h1).1, fun e => ?_⟩
      rcases e.1 with h2 | h2
      · exact (r.fc x h1).2 h2
      · have := r.seg.lt h1; omega
    · exact ⟨.inr (by omega), fun e => by have := e.2; omega⟩
  · rcases hk with h1 | h1
    · exact h.hF k h1
    · have := h.rt.size; omega
  · rcases List.mem_append.1 hs with h1 | h1
    · exact h.short s h1
    · exact hM.2 s h1
  · refine (T1.out.2.1.more (fun j _ h1 => r.ft j h1)).trans U2 (fun j _ hg => ?_)
    rcases hg with hg | rfl
    · exact (r.fc j hg).1
    · exact r.fv.1
end
end Go.Proofs.YtdoadmkaoboncaaGreatDoor.prn
end

section
/- prune: copied, At. -/
namespace Go.Proofs.YtdoadmkaoboncaaGreatDoor.prn
open Go Go.RowKit Go.Proofs.YtdoadmkaoboncaaGreatDoor.dig

/-- An error was answered beside another value: a step more around n. -/
def PairErr (w : World) (v : Value) (s : ByteArray) (a n : Int) (en : Ending) (w' : World) : Prop :=
  ∃ b, en = .returned (.tuple #[v, flt.ev [⟨b, s, a⟩] n]) ∧ w.heap.size ≤ b ∧ flt.Er w'.heap.size w' [⟨b, s, a⟩] n ∧ Below w.heap.size w w'
/-- An error alone was answered. -/
def OneErr (w : World) (s : ByteArray) (a n : Int) (en : Ending) (w' : World) : Prop :=
  ∃ b, en = .returned (flt.ev [⟨b, s, a⟩] n) ∧ w.heap.size ≤ b ∧ flt.Er w'.heap.size w' [⟨b, s, a⟩] n ∧ Below w.heap.size w w'

def commandB : ByteArray := ⟨#[99, 111, 109, 109, 97, 110, 100]⟩

set_option maxRecDepth 100000 in
set_option maxHeartbeats 1000000 in
theorem copied_calls (v : Value) (m : Nat) (xs : List Value) (w : World) (hs : Seg w 9 1 v m xs) (h1 : ∀ u ∈ xs, u.oneCell' = true) (hm : m ≤ 1000000) :
    Calls Tryz.prog 52 #[v] w fun en w' => ∃ y, en = .returned y ∧ Seg w' 9 1 y m xs ∧ (∀ x, y.ownBlock = some x → w.heap.size ≤ x) ∧ Below w.heap.size w w' := by
  obtain ⟨i, z, hi, hz, hsz, hzs, hby⟩ := flt.strInfo
  obtain ⟨a, c, rfl, _, _⟩ := hs.slice
  have HS := Lib.hid hs
  have H1 := Lib.hid h1
  clear hs h1
  go_enter Tryz.func52, Tryz.ntmps52
  go_wp2_with (first | ((with_reducible refine at_op 4 ?_); refine wpList_append_new (o := ⟨some 4, _, _, _, _, _⟩) _ rfl (.const (.slice none 0 0)) (.tmp 3) 22 rfl 9 i z 1 16 Tryz.underlying22 hi hz hsz hby hzs (by omega) rfl _ m xs rfl HS.out H1.out (by unfold maxLen; omega) (by omega) ?_; intro y W2 s2 b2 o2) | fail)
  go_ret
  exact ⟨y, rfl, s2, o2, b2⟩

section
variable {B : Nat} {F : Nat → Prop} {w : World} {vb fl : Nat} {L : List ByteArray}

set_option maxRecDepth 100000 in
set_option maxHeartbeats 1000000 in
theorem Va.at_ok (h : Va B F w vb L fl) (i : Nat) (hi : fl ≤ i) (s : ByteArray) (hs : L[i]? = some s) :
    Calls Tryz.prog 28 #[.pointer (some ⟨vb, 0, none⟩), .int .i64 i] w fun en w' => en = .returned (.tuple #[.string s, .nilIface]) ∧ Below w.heap.size w w' := by
  obtain ⟨T, tb, first, cv, r⟩ := h.raw
  have hil : i < L.length := (List.getElem?_eq_some_iff.1 hs).1
  have hsm := h.small
  have hfi : first ≤ i := Nat.le_trans r.first hi
  obtain ⟨g, off, c, rfl, hg, hc1, hc2, hcell⟩ := r.seg.cells (by omega)
  have c0 := hcell _ _ (keptC_at r.first hi hs)
  have e1 := r.own.cell 1
  have e2 := r.own.cell 2
  simp at e1 e2
  have HL := Lib.hid h.len_calls
  have HF := Lib.hid h.floor_calls
  obtain ⟨n, hn⟩ : ∃ n, n = L.length := ⟨_, rfl⟩
  obtain ⟨k, hk⟩ : ∃ k, k = i - first := ⟨_, rfl⟩
  obtain ⟨m, hm⟩ : ∃ m, m = L.length - first := ⟨_, rfl⟩
  rw [← hk] at c0
  rw [← hm] at e2 hc1
  rw [← hn] at HL
  have h1 : ¬ (i : Int) < 0 := by omega
  have h2 : ¬ (i : Int) ≥ (n : Int) := by omega
  have h3 : ¬ (i : Int) < (fl : Int) := by omega
  have h4 : IntKind.i64.wrap ((i : Int) - (first : Int)) = (k : Int) := by rw [show (i : Int) - (first : Int) = (k : Int) by omega]; exact IntWalk.i64_in _ ⟨by omega, by omega⟩
  have h5 : (i : Int) - (first : Int) = (k : Int) := by omega
  have h6 : (k : Int) < (m : Int) := by omega
  have h7 : (0 : Int) ≤ (k : Int) := by omega
  have h8 : (m : Int) ≤ 1000000 := by omega
  clear r h hcell hs hn hk hm hil hsm hfi hc1 hc2 hg hi
  go_enter Tryz.func28, Tryz.ntmps28
  go_wp2_with fail
  refine HL.out.mono ?_
  rintro en w1 ⟨rfl, rfl⟩
  go_wp2_with fail
  refine HF.out.mono ?_
  rintro en w1 ⟨rfl, rfl⟩
  go_wp2_with fail
  go_region
  go_wp2_with fail
  go_ret2
  exact ⟨rfl, (Below.refl _ _).drew⟩
end
end Go.Proofs.YtdoadmkaoboncaaGreatDoor.prn
end

section
/- Out of PruD: Va.at_future, Va.at_pruned. -/
namespace Go.Proofs.YtdoadmkaoboncaaGreatDoor.prn
open Go Go.RowKit Go.Proofs.YtdoadmkaoboncaaGreatDoor.dig

section
variable {B : Nat} {F : Nat → Prop} {w : World} {vb fl : Nat} {L : List ByteArray}
set_option maxRecDepth 100000 in
set_option maxHeartbeats 1000000 in
theorem Va.at_future (h : Va B F w vb L fl) (x : Int) (hx : x < 0 ∨ x ≥ L.length) :
    Calls Tryz.prog 28 #[.pointer (some ⟨vb, 0, none⟩), .int .i64 x] w (PairErr w (.string ⟨#[]⟩) commandB x 13) := by
  have HL := Lib.hid h.len_calls
  obtain ⟨n, hn⟩ : ∃ n, n = L.length := ⟨_, rfl⟩
  rw [← hn] at HL hx
  clear hn h
  by_cases h1 : x < 0
  · clear hx
    go_enter Tryz.func28, Tryz.ntmps28
    go_wp2_with fail
    refine (flt.in_calls [] 13 commandB x _ (by decide)).mono ?_
    rintro en w2 ⟨rfl, rfl⟩
    go_wp2_with fail
    go_ret2
    exact ⟨_, rfl, Nat.le_refl _, ⟨⟨made_at _ _ rfl, by simp⟩, trivial⟩, (Below.refl _ _).alloc (Nat.le_refl _) _⟩
  · have h2 : x ≥ (n : Int) := by omega
    clear hx
    go_enter Tryz.func28, Tryz.ntmps28
    go_wp2_with fail
    refine HL.out.mono ?_
    rintro en w1 ⟨rfl, rfl⟩
    go_wp2_with fail
    refine (flt.in_calls [] 13 commandB x _ (by decide)).mono ?_
    rintro en w2 ⟨rfl, rfl⟩
    go_wp2_with fail
    go_ret2
    exact ⟨_, rfl, Nat.le_refl _, ⟨⟨made_at _ _ rfl, by simp⟩, trivial⟩, (Below.refl _ _).alloc (Nat.le_refl _) _⟩

set_option maxRecDepth 100000 in
set_option maxHeartbeats 1000000 in
theorem Va.at_pruned (h : Va B F w vb L fl) (i : Nat) (hi : i < fl) :
    Calls Tryz.prog 28 #[.pointer (some ⟨vb, 0, none⟩), .int .i64 i] w (PairErr w (.string ⟨#[]⟩) commandB i 14) := by
  have HL := Lib.hid h.len_calls
  have HF := Lib.hid h.floor_calls
  have hfl := h.floor_le
  obtain ⟨n, hn⟩ : ∃ n, n = L.length := ⟨_, rfl⟩
  rw [← hn] at HL hfl
  have h1 : ¬ (i : Int) < 0 := by omega
  have h2 : ¬ (i : Int) ≥ (n : Int) := by omega
  have h3 : (i : Int) < (fl : Int) := by omega
  clear hn h hi hfl
  go_enter Tryz.func28, Tryz.ntmps28
  go_wp2_with fail
  refine HL.out.mono ?_
  rintro en w1 ⟨rfl, rfl⟩
  go_wp2_with fail
  refine HF.out.mono ?_
  rintro en w1 ⟨rfl, rfl⟩
  go_wp2_with fail
  refine (flt.in_calls [] 14 commandB i _ (by decide)).mono ?_
  rintro en w2 ⟨rfl, rfl⟩
  go_wp2_with fail
  go_ret2
  exact ⟨_, rfl, Nat.le_refl _, ⟨⟨made_at _ _ rfl, by simp⟩, trivial⟩, (Below.refl _ _).alloc (Nat.le_refl _) _⟩
end
end Go.Proofs.YtdoadmkaoboncaaGreatDoor.prn
end

section
/- prune: Keep. -/
namespace Go.Proofs.YtdoadmkaoboncaaGreatDoor.prn
open Go Go.RowKit Go.Proofs.YtdoadmkaoboncaaGreatDoor.dig

def floorB : ByteArray := ⟨#[102, 108, 111, 111, 114]⟩

theorem zeroC_str (k : Nat) : zeroC (Value.string ByteArray.empty).cells k = List.replicate k (Value.string ByteArray.empty) := by
  have : (Value.string ByteArray.empty).cells = #[Value.string ByteArray.empty] := rfl
  rw [this]
  unfold zeroC Builtin.zeroCells
  refine List.ext_getElem (by simp) fun i h1 h2 => ?_
  simp [Nat.mod_one]

/-- What is kept, when more is blank. -/
theorem keptC_clear {L : List ByteArray} {fl first p : Nat} (h1 : first ≤ fl) (h2 : fl ≤ p) :
    (keptC L fl first).take ((fl - first) * 1) ++ zeroC (Value.string ByteArray.empty).cells (p - fl) ++ (keptC L fl first).drop ((fl - first + (p - fl)) * 1) = keptC L p first := by
  rw [zeroC_str, Nat.mul_one, Nat.mul_one]
  unfold keptC
  rw [List.take_append_of_le_length (by rw [List.length_replicate]; exact Nat.le_refl _), List.take_of_length_le (by rw [List.length_replicate]; exact Nat.le_refl _), List.replicate_append_replicate,
    List.drop_append, List.drop_of_length_le (by rw [List.length_replicate]; omega), List.nil_append, List.length_replicate, ← List.map_drop, List.drop_drop]
  congr 2
  · omega
  · congr 1; omega

/-- clear(s[u:v]). -/
theorem clear_mid {w : World} {g off m cc : Nat} {xs : List Value} (h : Seg w 9 1 (.slice (some ⟨g, off, none⟩) m cc) m xs) (u v : Nat) (huv : u ≤ v) (hvm : v ≤ m) :
    ∃ q W2, (if cc = u then (some ⟨g, off, none⟩ : Option Addr) else some ⟨g, off + u, none⟩) = q ∧ (Builtin.clear_ #[22] 0 #[.slice q (v - u) (cc - u)]).run Tryz.prog w = .ok (.tuple #[]) W2 ∧
      Seg W2 9 1 (.slice (some ⟨g, off, none⟩) m cc) m (xs.take (u * 1) ++ zeroC (Value.string ByteArray.empty).cells (v - u) ++ xs.drop ((u + (v - u)) * 1)) ∧ w.grownBy W2 (some g) := by
  obtain ⟨a, c', e, hc1, hc2⟩ := h.slice
  simp only [Value.slice.injEq] at e
  obtain ⟨_, _, rfl⟩ := e
  have hzv : ∀ w, (zeroValue 9).run Tryz.prog w = .ok (.string ByteArray.empty) w := fun _ => by kernel_rfl
  have hone : ∀ x ∈ (Value.string ByteArray.empty).cells, x.oneCell' = true := fun x hx => by
    have e : x = Value.string ByteArray.empty := by simpa [Value.cells] using hx
    rw [e]; rfl
  by_cases hc : cc = u
  · have e1 : v - u = 0 := by omega
    obtain ⟨W2, hr, s2, t2⟩ := run_clear_seg (P := Tryz.prog) w 22 0 9 (.string ByteArray.empty) 1 Tryz.underlying22 hzv (by kernel_rfl) hone g off m cc xs h 0 0 (cc - u) (by omega)
    rw [if_pos hc, e1]
    refine ⟨_, W2, rfl, by simpa using hr, ?_, t2⟩
    have e2 : xs.take (u * 1) ++ zeroC (Value.string ByteArray.empty).cells 0 ++ xs.drop ((u + 0) * 1) = xs.take (0 * 1) ++ zeroC (Value.string ByteArray.empty).cells 0 ++ xs.drop ((0 + 0) * 1) := by
      rw [show zeroC (Value.string ByteArray.empty).cells 0 = [] from List.eq_nil_of_length_eq_zero (by rw [zeroC_len, Nat.zero_mul]), List.append_nil, List.append_nil, Nat.add_zero, List.take_append_drop, List.take_append_drop]
    rw [e2]
    exact s2
  · obtain ⟨W2, hr, s2, t2⟩ := run_clear_seg (P := Tryz.prog) w 22 0 9 (.string ByteArray.empty) 1 Tryz.underlying22 hzv (by kernel_rfl) hone g off m cc xs h u (v - u) (cc - u) (by omega)
    rw [if_neg hc]
    refine ⟨_, W2, rfl, by simpa using hr, s2, t2⟩
/-- s[k:], as the walk tells it. -/
theorem rest_mid {w : World} {g off m cc : Nat} {xs : List Value} (h : Seg w 9 1 (.slice (some ⟨g, off, none⟩) m cc) m xs) (k : Nat) (hk : k ≤ m) :
    ∃ q, (if cc = k then (some ⟨g, off, none⟩ : Option Addr) else some ⟨g, off + k, none⟩) = q ∧ Seg w 9 1 (.slice q (m - k) (cc - k)) (m - k) (xs.drop k) := by
  have h1 := Seg.rest h k hk
  rw [Nat.mul_one] at h1
  refine ⟨_, rfl, ?_⟩
  by_cases hc : cc = k
  · rw [if_pos hc] at h1 ⊢; exact h1
  · rw [if_neg hc] at h1 ⊢; exact h1

section
variable {B : Nat} {F T : Nat → Prop} {w W : World} {vb tb fl first : Nat} {L : List ByteArray} {cv : Value}

theorem Va.keep_arg (h : Va B F w vb L fl) (x : Int) (hx : x < 0 ∨ x > L.length) (hx6 : -9223372036854775808 ≤ x ∧ x ≤ 9223372036854775807) :
    Calls Tryz.prog 25 #[.pointer (some ⟨vb, 0, none⟩), .int .i64 x] w (OneErr w floorB x 4) := by
  have HF := Lib.hid h.floor_calls
  obtain ⟨T, tb, first, cv, r⟩ := h.raw
  have e0 := r.own.cell 0
  simp at e0
  have HT := Lib.hid (r.tree.forget_arg x hx hx6)
  clear h r hx hx6
  go_enter Tryz.func25, Tryz.ntmps25
  go_wp2_with fail
  refine HF.out.mono ?_
  rintro en w1 ⟨rfl, rfl⟩
  go_wp2_with fail
  refine HT.out.mono ?_
  rintro en w1 ⟨rfl, rfl⟩
  go_wp2_with fail
  refine (flt.in_calls [] 4 floorB x _ (by decide)).mono ?_
  rintro en w2 ⟨rfl, rfl⟩
  go_wp2_with fail
  go_ret
  exact ⟨_, rfl, Nat.le_refl _, ⟨⟨made_at _ _ rfl, by simp⟩, trivial⟩, (Below.refl _ _).alloc (Nat.le_refl _) _⟩

theorem Va.keep_low (h : Va B F w vb L fl) (p : Nat) (hp : p < fl) :
    Calls Tryz.prog 25 #[.pointer (some ⟨vb, 0, none⟩), .int .i64 p] w (OneErr w floorB p 14) := by
  have HF := Lib.hid h.floor_calls
  obtain ⟨T, tb, first, cv, r⟩ := h.raw
  have e0 := r.own.cell 0
  simp at e0
  have HT := Lib.hid (r.tree.forget_low p hp)
  clear h r hp
  go_enter Tryz.func25, Tryz.ntmps25
  go_wp2_with fail
  refine HF.out.mono ?_
  rintro en w1 ⟨rfl, rfl⟩
  go_wp2_with fail
  refine HT.out.mono ?_
  rintro en w1 ⟨rfl, rfl⟩
  go_wp2_with fail
  refine (flt.in_calls [] 14 floorB p _ (by decide)).mono ?_
  rintro en w2 ⟨rfl, rfl⟩
  go_wp2_with fail
  go_ret
  exact ⟨_, rfl, Nat.le_refl _, ⟨⟨made_at _ _ rfl, by simp⟩, trivial⟩, (Below.refl _ _).alloc (Nat.le_refl _) _⟩

/-- What Keep comes to. -/
def KeepPost (B : Nat) (F : Nat → Prop) (w : World) (vb : Nat) (L : List ByteArray) (p : Nat) (en : Ending) (w' : World) : Prop :=
  en = .returned .nilIface ∧ Va B (fun k => F k ∨ w.heap.size ≤ k) w' vb L p ∧ Turn F w w'

set_option maxRecDepth 100000 in
set_option maxHeartbeats 2000000 in
theorem Va.keep (h : Va B F w vb L fl) (p : Nat) (hp : fl ≤ p) (hn : p ≤ L.length) :
    Calls Tryz.prog 25 #[.pointer (some ⟨vb, 0, none⟩), .int .i64 p] w (KeepPost B F w vb L p) := by
  have HF := Lib.hid h.floor_calls
  have hsm := h.small
  have H := Lib.hid h
  obtain ⟨T, tb, first, cv, r⟩ := h.raw
  have e0 := r.own.cell 0
  simp at e0
  have hff := r.first
  have HT := Lib.hid (r.tree.forget p hp hn)
  have HR := Lib.hid r
  have HN := Lib.hid (show _ ∧ _ ∧ _ ∧ _ from ⟨hp, hn, hsm, hff⟩)
  clear h r
  obtain ⟨u, hu⟩ : ∃ u, u = fl - first := ⟨_, rfl⟩
  obtain ⟨v, hv⟩ : ∃ v, v = p - first := ⟨_, rfl⟩
  obtain ⟨m, hm⟩ : ∃ m, m = L.length - first := ⟨_, rfl⟩
  have h3 : (fl : Int) - (first : Int) = (u : Int) := by omega
  have h4 : (p : Int) - (first : Int) = (v : Int) := by omega
  have h5 : (u : Int) ≤ (v : Int) := by omega
  have h6 : (v : Int) ≤ (m : Int) := by omega
  have h8 : (m : Int) ≤ 1000000 := by omega
  have HU := Lib.hid (show _ ∧ _ ∧ _ from ⟨hu, hv, hm⟩)
  clear hp hn hsm hff hu hv hm
  go_enter Tryz.func25, Tryz.ntmps25
  go_wp2_with fail
  refine HF.out.mono ?_
  rintro en w1 ⟨rfl, rfl⟩
  go_wp2_with fail
  refine HT.out.mono ?_
  rintro en w1 ⟨rfl, t1, u1⟩
  have own1 := HR.out.own.turn u1 HR.out.fv.2
  have seg1 := HR.out.seg.turn u1 (fun x hx => (HR.out.fc x hx).2)
  rw [← HU.out.2.2] at seg1
  obtain ⟨ca, cc, hcv, hc1, hc2⟩ := seg1.slice
  subst hcv
  have e1 := own1.cell 1
  have e2 := own1.cell 2
  simp at e1 e2
  have hzv : ∀ w, (zeroValue 9).run Tryz.prog w = .ok (.string ByteArray.empty) w := fun _ => by kernel_rfl
  have h9 : (cc : Int) ≤ 9223372036854775807 := by unfold maxLen at hc2; omega
  have h10 : (m : Int) ≤ (cc : Int) := by omega
  have T1 := Lib.hid (show _ ∧ _ ∧ _ ∧ _ from ⟨t1, u1, own1, seg1⟩)
  have HZ := Lib.hid hzv
  clear t1 u1 own1 seg1 hzv HT HF e0 hc1 hc2
  go_wp2_with fail
  obtain ⟨V, hV⟩ : ∃ V, V = w1.drew := ⟨_, rfl⟩
  rcases T1.out.2.2.2.form with ⟨hcv, hm0, _⟩ | ⟨g, off, c', hcv⟩
  · simp only [Value.slice.injEq] at hcv
    obtain ⟨rfl, rfl, rfl⟩ := hcv
    obtain rfl : v = 0 := by omega
    obtain rfl : u = 0 := by omega
    have w0 : IntKind.i64.wrap 0 = 0 := by decide
    refine still_tail_at V hV 11 (by kernel_rfl) (by kernel_rfl) ?_
    have d1 : V.cell? ⟨vb, 1, none⟩ = some (.int .i64 first) := by rw [hV]; exact e1
    have d2 : V.cell? ⟨vb, 2, none⟩ = some (.slice none 0 0) := by rw [hV]; exact e2
    have hr : (Builtin.clear_ #[22] 0 #[.slice none 0 0]).run Tryz.prog V = .ok (.tuple #[]) V := by simp [Builtin.clear_, run_underlying Tryz.underlying22]
    have HV := Lib.hid hV
    clear hV e1 e2
    simp only [List.take_succ_cons, List.take_zero, List.drop_succ_cons, List.drop_zero]
    repeat still_step
    refine wpStill_nil ?_
    have M0 : Hid (Vr B F T w vb tb fl first L (.slice none 0 0) ∧ Turn T w V ∧ Has V vb 87 #[.pointer (some ⟨tb, 0, none⟩), .int .i64 first, .slice none 0 0] ∧ Tr B (fun k => T k ∨ w.heap.size ≤ k) V tb L.length p (leafF L)) := by
      rw [HV.out]
      exact Lib.hid ⟨HR.out, T1.out.2.1.drew, T1.out.2.2.1.drew, T1.out.1.drew⟩
    clear hm0
    go_wp2_with fail
    go_ret
    have r := M0.out.1
    have hl := r.own.lt
    refine ⟨rfl, ⟨⟨fun k => (T k ∨ w.heap.size ≤ k) ∧ k < V.heap.size ∧ k ≠ vb, tb, first, .slice none 0 0, M0.out.2.2.1, ?_, ?_, Nat.le_trans r.first HN.out.1, ⟨.inl r.fv.1, fun e => e.2.2 rfl⟩, fun k hk => hk.1.imp (r.ft k) id, fun x hx => by cases hx⟩, fun k hk => ?_, H.out.short⟩, M0.out.2.1.more (fun j _ h1 => r.ft j h1)⟩
    · refine M0.out.2.2.2.more (fun k h1 h2 => ⟨h2, h1, fun e => ?_⟩) (fun k hk => ?_)
      · subst e
        rcases h2 with h2 | h2
        · exact r.fv.2 h2
        · omega
      · rcases hk.1 with h1 | h1
        · exact H.out.hF k (r.ft k h1)
        · have := H.out.rt.size; omega
    · have e1 : L.length - first = 0 := HU.out.2.2.symm
      have e2 : keptC L p first = [] := List.eq_nil_of_length_eq_zero (by rw [keptC_len (Nat.le_trans r.first HN.out.1) HN.out.2.1, e1])
      rw [e1, e2]
      exact Seg.nil _ _ _
    · rcases hk with h1 | h1
      · exact H.out.hF k h1
      · have := H.out.rt.size; omega
  · simp only [Value.slice.injEq] at hcv
    obtain ⟨rfl, _, rfl⟩ := hcv
    have w1' : IntKind.i64.wrap (u : Int) = (u : Int) := IntWalk.i64_in _ ⟨by omega, by omega⟩
    have w2' : IntKind.i64.wrap (v : Int) = (v : Int) := IntWalk.i64_in _ ⟨by omega, by omega⟩
    have h11 : (v : Int) ≤ (cc : Int) := by omega
    have w3' : max (v : Int) 0 = (v : Int) := by omega
    refine still_tail_at V hV 12 (by kernel_rfl) (by kernel_rfl) ?_
    have d1 : V.cell? ⟨vb, 1, none⟩ = some (.int .i64 first) := by rw [hV]; exact e1
    have d2 : V.cell? ⟨vb, 2, none⟩ = some (.slice (some ⟨g, off, none⟩) m cc) := by rw [hV]; exact e2
    have M0 : Hid (Turn T w V ∧ Has V vb 87 #[.pointer (some ⟨tb, 0, none⟩), .int .i64 first, .slice (some ⟨g, off, none⟩) m cc] ∧ Tr B (fun k => T k ∨ w.heap.size ≤ k) V tb L.length p (leafF L) ∧ Seg V 9 1 (.slice (some ⟨g, off, none⟩) m cc) m (keptC L fl first)) := by
      rw [hV]
      exact Lib.hid ⟨T1.out.2.1.drew, T1.out.2.2.1.drew, T1.out.1.drew, T1.out.2.2.2.drew⟩
    obtain ⟨q, W2, hq, hr, s2, g2⟩ := clear_mid M0.out.2.2.2 u v (by omega) (by omega)
    rw [show v - u = p - fl by have := HU.out; have := HN.out; omega] at s2
    rw [show u = fl - first from HU.out.1, keptC_clear HN.out.2.2.2 HN.out.1] at s2
    have hne : g ≠ vb := fun e => T1.out.2.2.2.ne T1.out.2.2.1 (by decide) (by rw [e]; rfl)
    have own2 := M0.out.2.1.grown g2 (fun e => hne (by injection e with e; exact e.symm))
    have U2 : Turn (fun k => k = g ∨ k = vb) V W2 := (Turn.refl _ V).grown g2 (fun j hj _ => .inl (by injection hj with hj; exact hj.symm))
    have k2 := own2.cell 2
    simp at k2
    have M2 := Lib.hid (show _ ∧ _ ∧ _ from ⟨own2, U2, s2⟩)
    clear hV e1 e2 own2 U2 s2 g2
    simp only [List.take_succ_cons, List.take_zero, List.drop_succ_cons, List.drop_zero]
    repeat still_step
    refine wpStill_nil ?_
    clear hq d1 d2
    have r := HR.out
    have hl := r.own.lt
    have hT' : Tr B (fun k => (T k ∨ w.heap.size ≤ k) ∧ k < V.heap.size ∧ k ≠ vb ∧ k ≠ g) W2 tb L.length p (leafF L) :=
      (M0.out.2.2.1.more (G := fun k => (T k ∨ w.heap.size ≤ k) ∧ k < V.heap.size ∧ k ≠ vb ∧ k ≠ g) (fun k h1 h2 => ⟨h2, h1, fun e => by
        subst e
        rcases h2 with h2 | h2
        · exact r.fv.2 h2
        · omega, fun e => by
        subst e
        rcases h2 with h2 | h2
        · exact (r.fc k rfl).2 h2
        · have := r.seg.lt (b := k) rfl; omega⟩) (fun k hk => by
        rcases hk.1 with h1 | h1
        · exact H.out.hF k (r.ft k h1)
        · have := H.out.rt.size; omega)).turn M2.out.2.1 (fun k hk _ e => by
        rcases e with e | e
        · exact hk.2.2.2 e
        · exact hk.2.2.1 e) (fun k e => by
        rcases e with rfl | rfl
        · exact H.out.hF _ (r.fc _ rfl).1
        · exact H.out.hF _ r.fv.1)
    have hfF : ∀ k, (F k ∨ w.heap.size ≤ k) → B ≤ k := fun k hk => by
      rcases hk with h1 | h1
      · exact H.out.hF k h1
      · have := H.out.rt.size; omega
    have tw : Turn F w W2 := (M0.out.1.more (fun j _ h1 => r.ft j h1)).trans M2.out.2.1 (fun j _ e => by
        rcases e with rfl | rfl
        · exact (r.fc _ rfl).1
        · exact r.fv.1)
    have HX := Lib.hid (show _ ∧ _ ∧ _ from ⟨hT', hfF, tw⟩)
    clear hT' hfF tw r hl
    by_cases hgt : (v : Int) > (m : Int) - (v : Int)
    · obtain ⟨q2, hq2, s3⟩ := rest_mid M2.out.2.2 v (by omega)
      rw [show v = p - first from HU.out.2.1, keptC_drop] at s3
      rw [← show v = p - first from HU.out.2.1] at s3
      have HC := Lib.hid (copied_calls _ _ _ W2 s3 keptC_one (by omega))
      clear s3
      go_wp2_with fail
      refine HC.out.mono ?_
      rintro en w3 ⟨y, rfl, s3, o3, b3⟩
      obtain ⟨ya, yc, rfl, _, _⟩ := s3.slice
      have own3 := M2.out.1.below b3 M2.out.1.lt
      have f1 := own3.cell 1
      have f2 := own3.cell 2
      have f3 := own3.free 1
      have f4 := own3.free 2
      simp at f1 f2
      have M3 := Lib.hid (show _ ∧ _ ∧ _ ∧ _ from ⟨own3, s3, o3, b3⟩)
      have f5 : (w3.setCell ⟨vb, 2, none⟩ (.slice ya (m - v) yc)).cell? ⟨vb, 1, none⟩ = some (.int .i64 first) := by
        have := (own3.put 2 (.slice ya (m - v) yc)).cell 1
        simpa using this
      have f6 : (w3.setCell ⟨vb, 2, none⟩ (.slice ya (m - v) yc)).frozen? ⟨vb, 1, none⟩ = false := (own3.put 2 (.slice ya (m - v) yc)).free 1
      clear own3 s3 o3 b3 hq2 k2 HC hr
      go_wp2_with fail
      go_ret
      have own5 := (M3.out.1.put 2 (.slice ya (m - v) yc)).put 1 (.int .i64 p)
      have hl2 := M2.out.1.lt
      have U5 : Turn (fun k => k = vb ∨ W2.heap.size ≤ k) W2 ((w3.setCell ⟨vb, 2, none⟩ (.slice ya (m - v) yc)).setCell ⟨vb, 1, none⟩ (.int .i64 p)) :=
        ((Turn.of_below (F := fun k => k = vb ∨ W2.heap.size ≤ k) M3.out.2.2.2 (fun _ _ h => .inr h)).put (fun _ => .inl rfl) 2 _).put (fun _ => .inl rfl) 1 _
      have hvs := HX.out.1.rt.size
      have hyv : (Value.slice ya (m - v) yc).ownBlock ≠ some vb := fun e => by have := M3.out.2.2.1 vb e; omega
      refine ⟨rfl, ⟨⟨fun k => ((T k ∨ w.heap.size ≤ k) ∧ k < V.heap.size ∧ k ≠ vb ∧ k ≠ g) ∧ k < W2.heap.size, tb, p, .slice ya (m - v) yc, by simpa using own5, ?_, ?_, Nat.le_refl _, ⟨.inl HR.out.fv.1, fun e => e.1.2.2.1 rfl⟩, fun k hk => hk.1.1.imp (HR.out.ft k) id, fun x hx => ?_⟩, HX.out.2.1, H.out.short⟩, ?_⟩
      · refine (HX.out.1.more (fun k h1 h2 => ⟨h2, h1⟩) (fun k hk => HX.out.1.hF k hk.1)).turn U5 (fun k hk _ e => ?_) (fun k e => ?_)
        · rcases e with rfl | e
          · exact hk.1.2.2.1 rfl
          · have := hk.2; omega
        · rcases e with rfl | e
          · exact H.out.hF _ HR.out.fv.1
          · omega
      · rw [show m - v = L.length - p by have := HU.out; have := HN.out; omega] at hyv ⊢
        have s3 := M3.out.2.1
        rw [show m - v = L.length - p by have := HU.out; have := HN.out; omega] at s3
        exact Seg.far (Seg.far s3 hyv _) hyv _
      · have := M3.out.2.2.1 x hx
        have h1 := HX.out.2.2.size
        exact ⟨.inr (by omega), fun e => by have := e.2; omega⟩
      · exact HX.out.2.2.trans U5 (fun j h1 e => by
          rcases e with rfl | e
          · exact HR.out.fv.1
          · have := HX.out.2.2.size; omega)
    · go_wp2_with fail
      go_ret
      refine ⟨rfl, ⟨⟨_, tb, first, .slice (some ⟨g, off, none⟩) m cc, M2.out.1, HX.out.1, ?_, Nat.le_trans HN.out.2.2.2 HN.out.1, ⟨.inl HR.out.fv.1, fun e => e.2.2.1 rfl⟩, fun k hk => hk.1.imp (HR.out.ft k) id, fun x hx => ?_⟩, HX.out.2.1, H.out.short⟩, HX.out.2.2⟩
      · rw [← HU.out.2.2]; exact M2.out.2.2
      · have e : g = x := by injection hx
        subst e
        exact ⟨.inl (HR.out.fc g rfl).1, fun e => e.2.2.2 rfl⟩
end
end Go.Proofs.YtdoadmkaoboncaaGreatDoor.prn
end

section
/- proof: heads as values: their cells, built, loaded, stored. -/
namespace Go.Proofs.YtdoadmkaoboncaaGreatDoor.prf
open Go Go.RowKit Go.Proofs.YtdoadmkaoboncaaGreatDoor.dig

/-- A proof's cells. -/
abbrev prC (K I N : Int) (v : Value) : Array Value := #[.int .i64 K, .int .i64 I, .int .i64 N, v]
/-- A head's cells. -/
def headC (n : Int) (o : List UInt8) : Array Value := (Value.int .i64 n :: o.map byteV).toArray
theorem headC_size (n : Int) (o : List UInt8) : (headC n o).size = o.length + 1 := by simp [headC]
theorem Has.num {w : World} {g : Nat} {n : Int} {o : List UInt8} (h : Has w g 41 (headC n o)) : w.cell? ⟨g, 0, none⟩ = some (.int .i64 n) := by rw [h.cell]; rfl
theorem Has.root {w : World} {g : Nat} {n : Int} {o : List UInt8} (h : Has w g 41 (headC n o)) : w.rangeAt g 1 (o.map byteV) := fun j u hj => by
  rw [h.cell]
  have : (headC n o)[1 + j]? = (o.map byteV)[j]? := by simp [headC, Nat.add_comm]
  rw [this, hj]
theorem Has.load_root {w : World} {g : Nat} {n : Int} {o : List UInt8} (h : Has w g 41 (headC n o)) (ho : o.length = 32) : (Instr.loadAt 38 (.pointer (some ⟨g, 1, none⟩))).run Tryz.prog w = .ok (.agg (cellsOf o)) w :=
  run_loadAt_mid w g 1 38 (o.map byteV) _ (Has.root h) Tryz.underlying38 rfl (by rw [List.length_map, ho]; kernel_rfl)

theorem list32 (xs : List UInt8) (h : xs.length = 32) : xs = (List.range 32).map (fun i => xs.getD i 0) := by
  apply List.ext_getElem?
  intro i
  by_cases hi : i < 32
  · rw [List.getElem?_map, List.getElem?_range hi, List.getElem?_eq_getElem (by omega)]
    simp [List.getD_eq_getElem?_getD, List.getElem?_eq_getElem (show i < xs.length by omega)]
  · rw [List.getElem?_eq_none (by omega), List.getElem?_eq_none (by simp; omega)]
theorem built_head (n : Int) (xs : List UInt8) (h : xs.length = 32) : Tryz.prog.built 41 [(0, .int .i64 n), (1, .agg (cellsOf xs))] = some (headC n xs) := by
  rw [list32 xs h]
  generalize (fun i => xs.getD i 0) = f
  kernel_rfl
theorem run_head (n : Int) (xs : List UInt8) (h : xs.length = 32) (w : World) : (Instr.build 41 #[(0, .int .i64 n), (1, .agg (cellsOf xs))]).run Tryz.prog w = .ok (.agg (headC n xs)) w :=
  run_build w 41 _ _ (built_head n xs h)
theorem headC_all (n : Int) (xs : List UInt8) : (headC n xs).all (·.oneCell') = true := by
  rw [Array.all_eq_true_iff_forall_mem]
  intro v hv
  simp only [headC, List.mem_toArray, List.mem_cons, List.mem_map] at hv
  rcases hv with rfl | ⟨c, _, rfl⟩ <;> rfl
/-- A whole head is stored. -/
theorem wpList_store_head {ops : Array Oper} {rest : List Oper} {o : Oper} {a : Act} {w : World} {Q : Exit → Act → World → Prop} (hgd : o.guard = none) (x y : Operand) (ho : o.op = .store 41 x y) (g : Nat) (n m : Int) (xs old : List UInt8) (hx : a.eval x = .pointer (some ⟨g, 0, none⟩)) (hy : a.eval y = .agg (headC n xs))
    (hg : Has w g 41 (headC m old)) (hl : xs.length = 32) (hl2 : old.length = 32) (h : ∀ w', Has w' g 41 (headC n xs) → Turn (fun k => k = g) w w' → wpList Tryz.prog ops Q rest (a.put o.dst undef) w') : wpList Tryz.prog ops Q (o :: rest) a w :=
  wpList_store_row hgd 41 x y ho g (headC n xs) hx hy 41 (headC m old) hg (by rw [headC_size, hl]; kernel_rfl) (by rw [headC_size, headC_size, hl, hl2]) (headC_all n xs) (h _ (hg.row _) (turn_row _ _ _))
theorem exec_head {ev : Operand → Value} {o : Oper} {w : World} (x y : Operand) (ho : o.op = .build 41 #[(0, x), (1, y)]) (n : Int) (xs : List UInt8) (hx : ev x = .int .i64 n) (hy : ev y = .agg (cellsOf xs)) (hl : xs.length = 32) :
    (execOp ev o).run Tryz.prog w = .ok (.value (.agg (headC n xs))) w := by
  have hr := run_head n xs hl w
  have he : (#[(0, x), (1, y)] : Array (Nat × Operand)).map (fun (i, x) => (i, ev x)) = #[(0, Value.int .i64 n), (1, Value.agg (cellsOf xs))] := by simp [hx, hy]
  unfold execOp
  simp only [ho, he, Sem.run_bind, hr, Result.andThen_ok, Sem.run_pure]
theorem wpList_head {ops : Array Oper} {rest : List Oper} {o : Oper} {a : Act} {w : World} {Q : Exit → Act → World → Prop} (hgd : o.guard = none) (x y : Operand) (ho : o.op = .build 41 #[(0, x), (1, y)]) (n : Int) (xs : List UInt8) (hx : a.eval x = .int .i64 n) (hy : a.eval y = .agg (cellsOf xs)) (hl : xs.length = 32)
    (h : wpList Tryz.prog ops Q rest (a.put o.dst (.agg (headC n xs))) w) : wpList Tryz.prog ops Q (o :: rest) a w :=
  wpList_plain hgd fun K hK => by
    unfold Oper.wp
    rw [exec_head x y ho n xs hx hy hl]
    exact hK _ _ h

theorem Has.load_hd {w : World} {g : Nat} {n : Int} {o : List UInt8} (h : Has w g 41 (headC n o)) (ho : o.length = 32) : (Instr.loadAt 41 (.pointer (some ⟨g, 0, none⟩))).run Tryz.prog w = .ok (.agg (headC n o)) w :=
  run_loadAt_mid w g 0 41 (Value.int .i64 n :: o.map byteV) _ (Has.range h) Tryz.underlying41 rfl (by rw [List.length_cons, List.length_map, ho]; kernel_rfl)
/-- An operation under a guard that holds. -/
theorem wpList_if {P : Program} {ops : Array Oper} {rest : List Oper} {o : Oper} {a : Act} {w : World} {Q : Exit → Act → World → Prop} (hw : Region.wanted o (yielded ops a.tmps) = true) (h : o.wp P a w (fun a' w' => wpList P ops Q rest a' w') Q) : wpList P ops Q (o :: rest) a w := by
  unfold wpList
  rw [if_pos hw]
  exact .inl h
end Go.Proofs.YtdoadmkaoboncaaGreatDoor.prf
end

section
/- prune: Head, answer, Leaf. -/
namespace Go.Proofs.YtdoadmkaoboncaaGreatDoor.prn
open Go Go.RowKit Go.Proofs.YtdoadmkaoboncaaGreatDoor.dig Go.Proofs.YtdoadmkaoboncaaGreatDoor.prf

def headNm : ByteArray := ⟨#[104, 101, 97, 100]⟩
def leafNm : ByteArray := ⟨#[108, 101, 97, 102]⟩

section
variable {B : Nat} {F : Nat → Prop} {w : World} {vb fl : Nat} {L : List ByteArray}

set_option maxRecDepth 100000 in
set_option maxHeartbeats 2000000 in
theorem Va.head (h : Va B F w vb L fl) (hN : L.length < 1024) (n : Nat) (hf : fl ≤ n) (hn : n ≤ L.length) :
    Calls Tryz.prog 15 #[.pointer (some ⟨vb, 0, none⟩), .int .i64 n] w fun en w' => en = .returned (.tuple #[.agg (headC n (rtAll (leafF L) n)), .nilIface]) ∧ Below w.heap.size w w' := by
  obtain ⟨T, tb, first, cv, r⟩ := h.raw
  have e0 : ∀ O, (w.alloc O).cell? ⟨vb, 0, none⟩ = some (.pointer (some ⟨tb, 0, none⟩)) := fun O => by
    have := (r.own.alloc O).cell 0
    simpa using this
  have HT := Lib.hid r.tree
  have hL := rtAll_len (leafF_len L) n
  obtain ⟨R, hR⟩ : ∃ R, R = rtAll (leafF L) n := ⟨_, rfl⟩
  rw [← hR] at hL ⊢
  have HL := Lib.hid hL
  have HR := Lib.hid hR
  clear hL hR
  have HN := Lib.hid (show _ ∧ _ ∧ _ from ⟨hN, hf, hn⟩)
  clear h r hN hf hn
  go_enter Tryz.func15, Tryz.ntmps15
  go_wp2_with fail
  refine callsName (fun W hW => ?_)
  have B0 : Hid (Below w.heap.size w W) := by rw [← hW]; exact Lib.hid ((Below.refl _ _).alloc (Nat.le_refl _) _)
  have Z0 : Hid (Has W w.heap.size 41 (headC 0 (List.replicate 32 0))) := by rw [← hW]; exact Lib.hid (made_at _ _ rfl)
  clear hW e0
  refine ((HT.out.below B0.out).root HN.out.1 n HN.out.2.2 HN.out.2.1).mono ?_
  rw [← HR.out]
  rintro en w1 ⟨rfl, b1⟩
  have S1 : Hid (Has w1 w.heap.size 41 (headC 0 (List.replicate 32 0)) ∧ Below w.heap.size w w1) := Lib.hid ⟨Z0.out.below b1 Z0.out.lt, B0.out.trans (b1.mono B0.out.size)⟩
  clear b1 Z0 B0
  have HRC : Hid ((cellsOf R).size = 32) := Lib.hid (by rw [cellsOf_size, HL.out])
  go_wp2_with (first
    | ((with_reducible refine at_store (.tmp 6) ?_); refine wpList_store_cells (o := ⟨none, _, _, _, _, _⟩) rfl 38 (.tmp 6) (.tmp 15) rfl w1.heap.size (cellsOf R) _ rfl rfl _ (made_at _ _ rfl) (HRC.out.symm ▸ (by kernel_rfl)) (HRC.out.symm ▸ rfl) (cellsOf_one _) ?_; intro W8 HW8 TW8;
       (have S2 : Hid (Has W8 w.heap.size 41 (headC 0 (List.replicate 32 0)) ∧ Below w.heap.size w W8 ∧ Has W8 w1.heap.size 38 (cellsOf R)) := (by
         have bb : Below w1.heap.size w1 W8 := ((Below.refl _ _).alloc (Nat.le_refl _) _).trans (TW8.below (by simp) (fun j hj e => by omega))
         exact Lib.hid ⟨S1.out.1.below bb S1.out.1.lt, S1.out.2.trans (bb.mono S1.out.2.size), HW8⟩));
       clear S1 HW8 TW8)
    | ((with_reducible refine at_op 25 ?_); refine wpList_load_row (o := ⟨some 25, _, _, _, _, _⟩) rfl 38 _ rfl w1.heap.size rfl 38 (cellsOf R) (0, 0) _ S2.out.2.2 Tryz.underlying38 rfl (by rw [HRC.out]; kernel_rfl) ?_)
    | ((with_reducible refine at_op 26 ?_); refine wpList_head (o := ⟨some 26, _, _, _, _, _⟩) rfl (.tmp 24) (.tmp 25) rfl n R rfl rfl HL.out ?_)
    | ((with_reducible refine at_store (.tmp 4) ?_); refine wpList_store_head (o := ⟨none, _, _, _, _, _⟩) rfl (.tmp 4) (.tmp 26) rfl w.heap.size n 0 R (List.replicate 32 0) rfl rfl S2.out.1 HL.out (by simp) ?_; intro W9 HW9 TW9)
    | fail)
  exact bodyPost_ret (v := .tuple #[.agg (headC n R), .nilIface]) (results_cell_tmp rfl _ _ w.heap.size 41 _ _ _ rfl HW9 Tryz.underlying41 rfl (by rw [headC_size, HL.out]; kernel_rfl) _ rfl) rfl ⟨rfl, S2.out.2.1.trans (TW9.below S2.out.2.1.size (fun j hj e => by omega))⟩

set_option maxRecDepth 100000 in
set_option maxHeartbeats 1000000 in
theorem answer_ok (s : ByteArray) (K I N : Int) (a : Option Addr) (n c : Nat) (w : World) :
    Calls Tryz.prog 39 #[.string s, .agg (prC K I N (.slice a n c)), .int .i64 0] w fun en w' => en = .returned (.tuple #[.agg (prC K I N (.slice a n c)), .nilIface]) ∧ Below w.heap.size w w' := by
  go_enter Tryz.func39, Tryz.ntmps39
  go_wp2_with fail
  exact bodyPost_ret (v := .tuple #[.agg (prC K I N (.slice a n c)), .nilIface]) (results_cell_tmp rfl _ _ (w.heap.size + 1) 25 _ _ _ rfl (made_at _ _ (by simp)) Tryz.underlying25 rfl (by kernel_rfl) _ rfl) rfl
    ⟨rfl, ((Below.refl _ _).alloc (Nat.le_refl _) _).alloc (by simp) _⟩

set_option maxRecDepth 100000 in
set_option maxHeartbeats 1000000 in
theorem answer_err (s : ByteArray) (K I N : Int) (v : Value) (E : Int) (hE : E ≠ 0) (w : World) :
    Calls Tryz.prog 39 #[.string s, .agg (prC K I N v), .int .i64 E] w (PairErr w (.agg (prC 0 0 0 (.slice none 0 0))) s I E) := by
  go_enter Tryz.func39, Tryz.ntmps39
  go_wp2_with fail
  refine (flt.in_calls [] E s I _ hE).mono ?_
  rintro en w2 ⟨rfl, rfl⟩
  go_wp2_with fail
  exact bodyPost_ret (v := .tuple #[.agg (prC 0 0 0 (.slice none 0 0)), flt.ev [⟨w.heap.size + 1 + 1, s, I⟩] E]) (results_cell_tmp rfl _ _ (w.heap.size + 1) 25 _ _ _ rfl ((made_at _ _ (by simp)).alloc _) Tryz.underlying25 rfl (by kernel_rfl) _ rfl) rfl
    ⟨w.heap.size + 1 + 1, rfl, by omega, ⟨⟨made_at _ _ (by simp), by simp⟩, trivial⟩, (((Below.refl _ _).alloc (Nat.le_refl _) _).alloc (by simp) _).alloc (by simp; omega) _⟩

section
variable {B : Nat} {F : Nat → Prop} {w : World} {vb fl : Nat} {L : List ByteArray}
/-- A proof was answered, of these sums. -/
def ProofPost (w : World) (K I N : Int) (l : List (List UInt8)) (en : Ending) (w' : World) : Prop :=
  ∃ a c, en = .returned (.tuple #[.agg (prC K I N (.slice a l.length c)), .nilIface]) ∧ Seg w' 38 32 (.slice a l.length c) l.length (sumsC l) ∧ (∀ x, (Value.slice a l.length c).ownBlock = some x → w.heap.size ≤ x) ∧ Below w.heap.size w w'

set_option maxRecDepth 100000 in
set_option maxHeartbeats 2000000 in
theorem Va.leaf (h : Va B F w vb L fl) (hN : L.length < 1024) (i n : Nat) (hn : n ≤ L.length) (hi : i < n) (hf : fl ≤ i) :
    Calls Tryz.prog 23 #[.pointer (some ⟨vb, 0, none⟩), .int .i64 i, .int .i64 n] w (ProofPost w 1 i n (path (leafF L) i 0 n)) := by
  obtain ⟨T, tb, first, cv, r⟩ := h.raw
  have e0 : ∀ O, (w.alloc O).cell? ⟨vb, 0, none⟩ = some (.pointer (some ⟨tb, 0, none⟩)) := fun O => by
    have := (r.own.alloc O).cell 0
    simpa using this
  have HT := Lib.hid r.tree
  have HN := Lib.hid (show _ ∧ _ ∧ _ ∧ _ from ⟨hN, hn, hi, hf⟩)
  obtain ⟨l, hl⟩ : ∃ l, l = path (leafF L) i 0 n := ⟨_, rfl⟩
  rw [← hl]
  have HL := Lib.hid hl
  clear h r hN hf hn hi hl
  go_enter Tryz.func23, Tryz.ntmps23
  go_wp2_with fail
  refine callsName (fun W hW => ?_)
  have B0 : Hid (Below w.heap.size w W) := by rw [← hW]; exact Lib.hid ((Below.refl _ _).alloc (Nat.le_refl _) _)
  have Z0 : Hid (Has W w.heap.size 25 (prC 0 0 0 (.slice none 0 0))) := by rw [← hW]; exact Lib.hid (made_at _ _ rfl)
  clear hW e0
  refine ((HT.out.below B0.out).inclusion HN.out.1 i n HN.out.2.1 HN.out.2.2.1 HN.out.2.2.2).mono ?_
  rw [← HL.out]
  rintro en w1 ⟨v, rfl, s1, o1, b1⟩
  obtain ⟨a, c, rfl, _, _⟩ := s1.slice
  have S1 : Hid (Has w1 w.heap.size 25 (prC 0 0 0 (.slice none 0 0)) ∧ Below w.heap.size w w1 ∧ Seg w1 38 32 (.slice a l.length c) l.length (sumsC l) ∧ (∀ x, (Value.slice a l.length c).ownBlock = some x → w.heap.size ≤ x)) :=
    Lib.hid ⟨Z0.out.below b1 Z0.out.lt, B0.out.trans (b1.mono B0.out.size), s1, fun x hx => Nat.le_trans B0.out.size (o1 x hx)⟩
  clear b1 Z0 B0 s1 o1
  obtain ⟨m, hm⟩ : ∃ m, m = l.length := ⟨_, rfl⟩
  have HM := Lib.hid hm
  rw [← hm] at S1 ⊢
  clear hm
  go_wp2_with fail
  refine (answer_ok leafNm 1 i n a m c w1).mono ?_
  rintro en w2 ⟨rfl, b2⟩
  have S2 : Hid (Has w2 w.heap.size 25 (prC 0 0 0 (.slice none 0 0)) ∧ Below w.heap.size w w2 ∧ Seg w2 38 32 (.slice a m c) m (sumsC l)) := Lib.hid ⟨S1.out.1.below b2 S1.out.1.lt, S1.out.2.1.trans (b2.mono S1.out.2.1.size), S1.out.2.2.1.below b2 (fun x hx => S1.out.2.2.1.lt hx)⟩
  clear b2
  go_wp2_with (first
    | ((with_reducible refine at_store (.tmp 6) ?_); refine wpList_store_cells (o := ⟨none, _, _, _, _, _⟩) rfl 25 (.tmp 6) (.tmp 26) rfl w.heap.size (prC 1 i n (.slice a m c)) (prC 0 0 0 (.slice none 0 0)) rfl rfl _ S2.out.1 (by kernel_rfl) rfl (by simp [prC, Value.oneCell']) ?_; intro W9 HW9 TW9)
    | fail)
  have B9 := S2.out.2.1.trans (TW9.below S2.out.2.1.size (fun j hj e => by omega))
  exact bodyPost_ret (v := .tuple #[.agg (prC 1 i n (.slice a m c)), .nilIface]) (results_cell_tmp rfl _ _ w.heap.size 25 _ _ _ rfl HW9 Tryz.underlying25 rfl (by kernel_rfl) _ rfl) rfl
    ⟨a, c, by rw [← HM.out], by rw [← HM.out]; exact S2.out.2.2.turn TW9 (fun x hx e => S2.out.2.2.ne S2.out.1 (by decide) (by rw [hx, e])), by rw [← HM.out]; exact S1.out.2.2.2, B9⟩

set_option maxRecDepth 100000 in
set_option maxHeartbeats 2000000 in
theorem Va.leaf_err (h : Va B F w vb L fl) (x n : Int) (E : Int) (hE : E ≠ 0) (hc : ∀ tb V, (∃ T, Tr B T V tb L.length fl (leafF L)) → Calls Tryz.prog 49 #[.pointer (some ⟨tb, 0, none⟩), .int .i64 x, .int .i64 n] V fun en w' => en = .returned (.tuple #[.slice none 0 0, .int .i64 E]) ∧ V = w') :
    Calls Tryz.prog 23 #[.pointer (some ⟨vb, 0, none⟩), .int .i64 x, .int .i64 n] w (PairErr w (.agg (prC 0 0 0 (.slice none 0 0))) leafNm x E) := by
  obtain ⟨T, tb, first, cv, r⟩ := h.raw
  have e0 : ∀ O, (w.alloc O).cell? ⟨vb, 0, none⟩ = some (.pointer (some ⟨tb, 0, none⟩)) := fun O => by
    have := (r.own.alloc O).cell 0
    simpa using this
  have HT := Lib.hid r.tree
  have HC := Lib.hid hc
  have HE := Lib.hid hE
  clear h r hE hc
  go_enter Tryz.func23, Tryz.ntmps23
  go_wp2_with fail
  refine callsName (fun W hW => ?_)
  have B0 : Hid (Below w.heap.size w W) := by rw [← hW]; exact Lib.hid ((Below.refl _ _).alloc (Nat.le_refl _) _)
  have Z0 : Hid (Has W w.heap.size 25 (prC 0 0 0 (.slice none 0 0))) := by rw [← hW]; exact Lib.hid (made_at _ _ rfl)
  clear hW e0
  refine (HC.out tb W ⟨T, HT.out.below B0.out⟩).mono ?_
  rintro en w1 ⟨rfl, rfl⟩
  go_wp2_with fail
  refine (answer_err leafNm 1 x n (.slice none 0 0) E HE.out W).mono ?_
  rintro en w2 ⟨b, rfl, hb, her, b2⟩
  have S2 := Lib.hid (show _ ∧ _ ∧ _ ∧ _ from ⟨Z0.out.below b2 Z0.out.lt, B0.out.trans (b2.mono B0.out.size), Nat.le_trans B0.out.size hb, her⟩)
  clear b2 Z0 B0 hb her
  go_wp2_with (first
    | ((with_reducible refine at_store (.tmp 6) ?_); refine wpList_store_cells (o := ⟨none, _, _, _, _, _⟩) rfl 25 (.tmp 6) (.tmp 26) rfl w.heap.size (prC 0 0 0 (.slice none 0 0)) (prC 0 0 0 (.slice none 0 0)) rfl rfl _ S2.out.1 (by kernel_rfl) rfl (by simp [prC, Value.oneCell']) ?_; intro W9 HW9 TW9)
    | fail)
  have B9 := S2.out.2.1.trans (TW9.below S2.out.2.1.size (fun j hj e => by omega))
  exact bodyPost_ret (v := .tuple #[.agg (prC 0 0 0 (.slice none 0 0)), flt.ev [⟨b, leafNm, x⟩] E]) (results_cell_tmp rfl _ _ w.heap.size 25 _ _ _ rfl HW9 Tryz.underlying25 rfl (by kernel_rfl) _ rfl) rfl
    ⟨b, rfl, S2.out.2.2.1, by
      have he := S2.out.2.2.2
      refine ⟨⟨he.1.1.turn TW9 (fun e => ?_), by have := he.1.2; have := TW9.size; omega⟩, trivial⟩
      have e1 : b = w.heap.size := e
      have h1 := he.1.1
      rw [e1] at h1
      exact absurd (h1.uniq S2.out.1).2 (by decide), B9⟩
end
end
end Go.Proofs.YtdoadmkaoboncaaGreatDoor.prn
end

section
/- A slice of strings that is handed in: what a law may read of it. -/
namespace Go.Proofs.YtdoadmkaoboncaaGreatDoor
open Go.ChangeShapes Go.WideShapes Go.ChangeAt Go.RowKit

/-- The strings T lie from a on. -/
def ArgS (w : World) (a : Option Addr) (len cap : Nat) (T : Nat → ByteArray) : Prop :=
  len ≤ cap ∧ cap ≤ maxLen ∧ ∀ i, i < len → ∃ b o, a = some ⟨b, o, none⟩ ∧ b < w.heap.size ∧ w.cell? ⟨b, o + i, none⟩ = some (.string (T i)) ∧ (T i).size ≤ maxLen

theorem openedStrs {H : Type} {enc : TypeId × Value → H} {w : World} {spare : Nat → Bool} {held : Bool} {a : Option Addr} {len cap : Nat} {d : DataW H} {p : List MemPlace} (h : DataW.Trod enc Tryz.prog w 0 spare held 22 (.slice a len cap) d p) : ∃ T, ArgS w a len cap T := by
  obtain ⟨fuel, h⟩ := h
  rcases open_strings Tryz.underlying22 Tryz.underlying9 (by kernel_rfl) h with ⟨hn, _⟩ | ⟨g, l, c, zs, hn, _, hlc, hcm, hm, _, hall, hwf⟩
  · simp [Value.cells] at hn
    obtain ⟨rfl, rfl, rfl⟩ := hn
    exact ⟨fun _ => ByteArray.empty, Nat.le_refl _, Nat.zero_le _, fun i hi => absurd hi (Nat.not_lt_zero _)⟩
  · simp [Value.cells] at hn
    obtain ⟨rfl, rfl, rfl⟩ := hn
    refine ⟨fun i => zs.getD i ByteArray.empty, hlc, hcm, fun i hi => ?_⟩
    have hi' : i < zs.length := by rw [hm]; split <;> omega
    have h0 := hall i hi'
    have hs : g.spot = none := by
      have h00 := hall 0 (by omega)
      simpa [Addr.add] using World.cell?_spot h00
    obtain ⟨gb, go, gs⟩ := g
    obtain rfl : gs = none := hs
    have e0 : (⟨gb, go, none⟩ : Addr).add i = ⟨gb, go + i, none⟩ := Addr.add_mid _ _ _
    rw [e0] at h0
    have hw : (zs.getD i ByteArray.empty).size ≤ maxLen := hwf _ (by
      have : zs.getD i ByteArray.empty = zs[i] := by simp [hi']
      rw [this]; exact List.getElem_mem hi')
    have hb : gb < w.heap.size := by
      rcases Nat.lt_or_ge gb w.heap.size with k | k
      · exact k
      · unfold World.cell? at h0
        simp [Array.getElem?_eq_none k] at h0
    exact ⟨gb, go, rfl, hb, h0, hw⟩

end Go.Proofs.YtdoadmkaoboncaaGreatDoor
end

