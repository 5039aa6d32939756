/- Texts laid into one: FltBE, FltDI, FltDJ, PruA, PruB, PruC, PruDA. -/
import Derived.LaidEql
import Derived.Stop.Asserts
import Derived.RowKitTokens
import Derived.Test.YthbncejbcegmgaaDoorY000
import Derived.Lib.ItoaWalk
import Derived.Test.YthbncejbcegmgaaDoorY002
import Derived.Test.YthbncejbcegmgaaDoorY004
import Derived.Test.YthbncejbcegmgaaDoorY005
section
/- Out of FltB: Sp, ev, Er, Er.below, Er.more. -/
namespace Go.Proofs.YthbncejbcegmgaaDoor.flt
open Go Go.RowKit Go.Extern.Stop Go.Stop Go.Extern

/-- A step of an error: its block, its name, its place. -/
structure Sp where
  b : Nat
  s : ByteArray
  a : Int

/-- An error as a value: steps around a number, from outside in. -/
def ev : List Sp → Int → Value
  | [], n => .iface 34 (.int .i64 n)
  | x :: _, _ => .iface 114 (.pointer (some ⟨x.b, 0, none⟩))

/-- The blocks of an error's steps, all below B. -/
def Er (B : Nat) (w : World) : List Sp → Int → Prop
  | [], _ => True
  | x :: r, n => (Has w x.b 116 #[.string x.s, .int .i64 x.a, ev r n] ∧ x.b < B) ∧ Er B w r n

theorem Er.below {B C : Nat} {w w' : World} {n : Int} : ∀ {L : List Sp}, Er B w L n → Below C w w' → B ≤ C → Er B w' L n
  | [], _, _, _ => trivial
  | _ :: _, h, b, hC => ⟨⟨h.1.1.below b (by have := h.1.2; omega), h.1.2⟩, Er.below h.2 b hC⟩
theorem Er.more {B C : Nat} {w : World} {n : Int} (hC : B ≤ C) : ∀ {L : List Sp}, Er B w L n → Er C w L n
  | [], _ => trivial
  | _ :: _, h => ⟨⟨h.1.1, by have := h.1.2; omega⟩, Er.more hC h.2⟩
end Go.Proofs.YthbncejbcegmgaaDoor.flt
end

section
/- Out of FltD: eqE, in_calls, in_ok, in_nil. -/
namespace Go.Proofs.YthbncejbcegmgaaDoor.flt
open Go Go.RowKit Go.Extern.Stop Go.Stop Go.Extern

theorem eqE (n m : Int) (w : World) : (binOp .eql 48 (.iface 34 (.int .i64 n)) (.iface 34 (.int .i64 m))).run Tryd.prog w = .ok (.bool (n == m)) w := by kernel_rfl

theorem in_calls (L : List Sp) (n : Int) (s : ByteArray) (a : Int) (w : World) (hn : n ≠ 0) : Calls Tryd.prog 39 #[.string s, .int .i64 a, ev L n] w
    fun en w' => en = .returned (ev (⟨w.heap.size, s, a⟩ :: L) n) ∧ w' = w.alloc (.cells #[.string s, .int .i64 a, ev L n] 116) := by
  cases L with
  | nil =>
    rw [show ev [] n = .iface 34 (.int .i64 n) from rfl]
    have hne := fun w => eqE n 0 w
    have h0 : (n == 0) = false := by simpa using hn
    rw [h0] at hne
    clear hn h0
    go_enter Tryd.func39, Tryd.ntmps39
    go_wp2
    go_ret
    exact ⟨rfl, rfl⟩
  | cons x r =>
    rw [show ev (x :: r) n = .iface 114 (.pointer (some ⟨x.b, 0, none⟩)) from rfl]
    have hne := fun w => run_eql_iface_types (P := Tryd.prog) 114 34 (.pointer (some ⟨x.b, 0, none⟩)) (.int .i64 0) Tryd.underlying48 (by decide) w
    go_enter Tryd.func39, Tryd.ntmps39
    go_wp2
    go_ret
    exact ⟨rfl, rfl⟩
theorem in_ok (s : ByteArray) (a : Int) (w : World) : Calls Tryd.prog 39 #[.string s, .int .i64 a, .iface 34 (.int .i64 0)] w fun en w' => en = .returned .nilIface ∧ w = w' := by
  have hne : ∀ w, (binOp .eql 48 (.iface 34 (.int .i64 0)) (.iface 34 (.int .i64 0))).run Tryd.prog w = .ok (.bool true) w := fun w => eqE 0 0 w
  go_enter Tryd.func39, Tryd.ntmps39
  go_wp2
  go_ret
  exact ⟨rfl, rfl⟩
theorem in_nil (s : ByteArray) (a : Int) (w : World) : Calls Tryd.prog 39 #[.string s, .int .i64 a, .nilIface] w fun en w' => en = .returned .nilIface ∧ w = w' := by
  go_enter Tryd.func39, Tryd.ntmps39
  go_wp2
  go_ret
  exact ⟨rfl, rfl⟩
end Go.Proofs.YthbncejbcegmgaaDoor.flt
end

section
/- Out of FltD: intOf, strInfo, below_own, below_less. -/
namespace Go.Proofs.YthbncejbcegmgaaDoor.flt
open Go Go.RowKit Go.Extern.Stop Go.Stop Go.Extern

def intOf : Value → Int
  | .int _ x => x
  | _ => 0

theorem strInfo : ∃ i z, Tryd.prog.info? 9 = some i ∧ i.zero = some z ∧ i.size = 1 ∧ z.cells.size = 1 ∧ i.bytes = 16 := by
  have h2 : (Tryd.prog.info? 9).map (fun i => (i.zero.map (fun z => z.cells.size), i.size, i.bytes)) = some (some 1, 1, 16) := by kernel_rfl
  obtain ⟨i, hi, e⟩ := Option.map_eq_some_iff.1 h2
  simp only [Prod.mk.injEq] at e
  obtain ⟨e1, e2, e3⟩ := e
  obtain ⟨z, hz, e4⟩ := Option.map_eq_some_iff.1 e1
  exact ⟨i, z, hi, hz, e2, e4, e3⟩

theorem below_own {B : Nat} {w w' : World} {v : Value} (h : w.grownBy w' v.ownBlock) (hv : ∀ x, v.ownBlock = some x → B ≤ x) (hB : B ≤ w.heap.size) : Below B w w' :=
  ⟨h.os, h.tape, h.output, h.size, fun i hi => h.block i (by omega) (fun e => by have := hv i e.symm; omega)⟩

theorem below_less {B C : Nat} {w w' : World} (h : Below C w w') (hB : B ≤ C) : Below B w w' := ⟨h.os, h.tape, h.output, h.size, fun i hi => h.block i (by omega)⟩
end Go.Proofs.YthbncejbcegmgaaDoor.flt
end

section
/- prune: what a vault is in memory. -/
namespace Go.Proofs.YthbncejbcegmgaaDoor.prn
open Go Go.RowKit Go.Proofs.YthbncejbcegmgaaDoor.dig

/-- What is kept of texts: those below the floor are blank, from one on. -/
def keptC (L : List ByteArray) (fl first : Nat) : List Value := List.replicate (fl - first) (Value.string ByteArray.empty) ++ (L.drop fl).map Value.string
theorem keptC_len {L : List ByteArray} {fl first : Nat} (h1 : first ≤ fl) (h2 : fl ≤ L.length) : (keptC L fl first).length = L.length - first := by
  unfold keptC
  rw [List.length_append, List.length_replicate, List.length_map, List.length_drop]
  omega
theorem keptC_at {L : List ByteArray} {fl first i : Nat} (_ : first ≤ fl) (h2 : fl ≤ i) {s : ByteArray} (hs : L[i]? = some s) : (keptC L fl first)[i - first]? = some (.string s) := by
  unfold keptC
  rw [List.getElem?_append_right (by rw [List.length_replicate]; omega), List.length_replicate, List.getElem?_map, List.getElem?_drop, show fl + (i - first - (fl - first)) = i by omega, hs]
  rfl
theorem keptC_one {L : List ByteArray} {fl first : Nat} : ∀ u ∈ keptC L fl first, u.oneCell' = true := by
  intro u hu
  unfold keptC at hu
  rcases List.mem_append.1 hu with h | h
  · rw [(List.mem_replicate.1 h).2]; rfl
  · obtain ⟨s, _, rfl⟩ := List.mem_map.1 h; rfl
theorem keptC_app {L M : List ByteArray} {fl first : Nat} (h2 : fl ≤ L.length) : keptC L fl first ++ M.map Value.string = keptC (L ++ M) fl first := by
  unfold keptC
  rw [List.append_assoc, List.drop_append_of_le_length h2, List.map_append]
theorem keptC_drop {L : List ByteArray} {fl first : Nat} : (keptC L fl first).drop (fl - first) = keptC L fl fl := by
  unfold keptC
  rw [List.drop_append_of_le_length (by rw [List.length_replicate]; exact Nat.le_refl _), List.drop_of_length_le (by rw [List.length_replicate]; exact Nat.le_refl _), Nat.sub_self]
  rfl
theorem keptC_take {L : List ByteArray} {fl n : Nat} (_ : fl ≤ n) : (keptC L fl fl).take (n - fl) = keptC (L.take n) fl fl := by
  unfold keptC
  rw [Nat.sub_self, List.replicate_zero, List.nil_append, List.nil_append, ← List.map_take, List.drop_take]
theorem keptC_same {L : List ByteArray} {fl : Nat} : keptC L fl fl = (L.drop fl).map Value.string := by
  unfold keptC
  rw [Nat.sub_self]
  rfl

/-- A vault's blocks: its own, its tree's (of T), that of its commands. -/
structure Vr (B : Nat) (F T : Nat → Prop) (w : World) (vb tb fl first : Nat) (L : List ByteArray) (cv : Value) : Prop where
  own : Has w vb 99 #[.pointer (some ⟨tb, 0, none⟩), .int .i64 first, cv]
  tree : Tr B T w tb L.length fl (leafF L)
  seg : Seg w 9 1 cv (L.length - first) (keptC L fl first)
  first : first ≤ fl
  fv : F vb ∧ ¬ T vb
  ft : ∀ k, T k → F k
  fc : ∀ x, cv.ownBlock = some x → F x ∧ ¬ T x

/-- A vault of texts L, its floor fl. -/
structure Va (B : Nat) (F : Nat → Prop) (w : World) (vb : Nat) (L : List ByteArray) (fl : Nat) : Prop where
  raw : ∃ T tb first cv, Vr B F T w vb tb fl first L cv
  hF : ∀ k, F k → B ≤ k
  short : ∀ s ∈ L, s.size ≤ 1000000

section
variable {B : Nat} {F G T : Nat → Prop} {w w' : World} {vb tb fl first : Nat} {L : List ByteArray} {cv : Value}
theorem Vr.turn (h : Vr B F T w vb tb fl first L cv) (t : Turn G w w') (hG : ∀ k, F k → k < w.heap.size → ¬ G k) (hB : ∀ k, G k → B ≤ k) : Vr B F T w' vb tb fl first L cv :=
  ⟨h.own.turn t (hG _ h.fv.1 h.own.lt), h.tree.turn t (fun k hk => hG k (h.ft k hk)) hB, h.seg.turn t (fun x hx => hG x (h.fc x hx).1 (h.seg.lt hx)), h.first, h.fv, h.ft, h.fc⟩
theorem Va.turn (h : Va B F w vb L fl) (t : Turn G w w') (hG : ∀ k, F k → k < w.heap.size → ¬ G k) (hB : ∀ k, G k → B ≤ k) : Va B F w' vb L fl := by
  obtain ⟨T, tb, first, cv, r⟩ := h.raw
  exact ⟨⟨T, tb, first, cv, r.turn t hG hB⟩, h.hF, h.short⟩
theorem Va.rt (h : Va B F w vb L fl) : Rt B w := by
  obtain ⟨T, tb, first, cv, r⟩ := h.raw
  exact r.tree.rt
theorem Va.below (h : Va B F w vb L fl) (t : Below w.heap.size w w') : Va B F w' vb L fl :=
  h.turn (Turn.of_below (F := fun k => w.heap.size ≤ k) t (fun _ _ h => h)) (fun k _ h1 h2 => by omega) (fun k hk => Nat.le_trans h.rt.size hk)
theorem Va.drew (h : Va B F w vb L fl) : Va B F w.drew vb L fl := h.below (Below.refl _ _).drew
theorem Va.alloc (h : Va B F w vb L fl) (o : Obj) : Va B F (w.alloc o) vb L fl := h.below ((Below.refl _ _).alloc (Nat.le_refl _) o)
theorem Va.more (h : Va B F w vb L fl) (hG : ∀ k, k < w.heap.size → F k → G k) (hB : ∀ k, G k → B ≤ k) : Va B G w vb L fl := by
  obtain ⟨T, tb, first, cv, r⟩ := h.raw
  refine ⟨⟨fun k => T k ∧ k < w.heap.size, tb, first, cv, r.own, r.tree.more (fun k h1 h2 => ⟨h2, h1⟩) (fun k hk => r.tree.hF k hk.1), r.seg, r.first, ⟨hG _ r.own.lt r.fv.1, fun h => r.fv.2 h.1⟩, fun k hk => hG k hk.2 (r.ft k hk.1), fun x hx => ⟨hG x (r.seg.lt hx) (r.fc x hx).1, fun h => (r.fc x hx).2 h.1⟩⟩, hB, h.short⟩
theorem Va.tight (h : Va B F w vb L fl) : Va B (fun k => F k ∧ k < w.heap.size) w vb L fl := h.more (fun _ h1 h2 => ⟨h2, h1⟩) (fun k hk => h.hF k hk.1)
theorem Va.fresh (h : Va B F w vb L fl) (lo : Nat) (hF : ∀ k, F k → k < w.heap.size → lo ≤ k) (hB : B ≤ lo) : Va B (fun k => lo ≤ k ∧ k < w.heap.size) w vb L fl :=
  h.more (fun _ h1 h2 => ⟨hF _ h2 h1, h1⟩) (fun _ hk => Nat.le_trans hB hk.1)
theorem Va.lt (h : Va B F w vb L fl) : vb < w.heap.size := by
  obtain ⟨T, tb, first, cv, r⟩ := h.raw
  exact r.own.lt
theorem Va.floor_le (h : Va B F w vb L fl) : fl ≤ L.length := by
  obtain ⟨T, tb, first, cv, r⟩ := h.raw
  exact r.tree.floor
theorem Va.small (h : Va B F w vb L fl) : L.length ≤ 1000000 := by
  obtain ⟨T, tb, first, cv, r⟩ := h.raw
  exact r.tree.small
theorem Va.ownF (h : Va B F w vb L fl) : F vb := by
  obtain ⟨T, tb, first, cv, r⟩ := h.raw
  exact r.fv.1
end
end Go.Proofs.YthbncejbcegmgaaDoor.prn
end

section
/- prune: New, Len, Floor, Add. -/
namespace Go.Proofs.YthbncejbcegmgaaDoor.prn
open Go Go.RowKit Go.Proofs.YthbncejbcegmgaaDoor.dig

section
variable {B : Nat} {F : Nat → Prop} {w : World} {vb fl : Nat} {L : List ByteArray}

set_option maxHeartbeats 400000 in
theorem Va.len_calls (h : Va B F w vb L fl) : Calls Tryd.prog 72 #[.pointer (some ⟨vb, 0, none⟩)] w fun en w' => en = .returned (.int .i64 L.length) ∧ w = w' := by
  obtain ⟨T, tb, first, cv, r⟩ := h.raw
  have e0 := r.own.cell 0
  simp at e0
  have HT := Lib.hid r.tree.len_calls
  clear r h
  go_enter Tryd.func72, Tryd.ntmps72
  go_wp2_with fail
  refine HT.out.mono ?_
  rintro en w1 ⟨rfl, rfl⟩
  go_wp2_with fail
  go_ret
  exact ⟨rfl, rfl⟩

set_option maxHeartbeats 400000 in
theorem Va.floor_calls (h : Va B F w vb L fl) : Calls Tryd.prog 69 #[.pointer (some ⟨vb, 0, none⟩)] w fun en w' => en = .returned (.int .i64 fl) ∧ w = w' := by
  obtain ⟨T, tb, first, cv, r⟩ := h.raw
  have e0 := r.own.cell 0
  simp at e0
  have HT := Lib.hid r.tree.floor_calls
  clear r h
  go_enter Tryd.func69, Tryd.ntmps69
  go_wp2_with fail
  refine HT.out.mono ?_
  rintro en w1 ⟨rfl, rfl⟩
  go_wp2_with fail
  go_ret
  exact ⟨rfl, rfl⟩
end

set_option maxHeartbeats 1000000 in
theorem vnew_calls (B : Nat) (w : World) (hR : Rt B w) :
    Calls Tryd.prog 50 #[] w fun en w' => ∃ b, en = .returned (.pointer (some ⟨b, 0, none⟩)) ∧ w.heap.size ≤ b ∧ Va B (fun k => w.heap.size ≤ k) w' b [] 0 ∧ Below w.heap.size w w' := by
  have HT := Lib.hid (tnew_calls B (leafF []) w hR (leafF_len []))
  have HR := Lib.hid hR
  clear hR
  go_enter Tryd.func50, Tryd.ntmps50
  go_wp2_with fail
  refine HT.out.mono ?_
  rintro en w1 ⟨tb, rfl, htb, t1, b1⟩
  have T1 := Lib.hid (show _ ∧ _ ∧ _ from ⟨htb, t1, b1⟩)
  clear htb t1 b1
  go_wp2_with fail
  go_ret
  have hl := T1.out.2.1.lt
  have hs := T1.out.2.2.size
  refine ⟨w1.heap.size, rfl, hs, ⟨⟨fun k => k = tb, tb, 0, .slice none 0 0, made_at _ _ rfl, T1.out.2.1.alloc _, Seg.nil _ _ _, Nat.le_refl _, ⟨hs, fun e => ?_⟩, fun k hk => ?_, fun x hx => by cases hx⟩, fun k hk => Nat.le_trans HR.out.size hk, fun s hs => by cases hs⟩, T1.out.2.2.alloc hs _⟩
  · have e : w1.heap.size = tb := e
    omega
  · rw [show k = tb from hk]; exact T1.out.1

section
variable {B : Nat} {F : Nat → Prop} {w : World} {vb fl : Nat} {L : List ByteArray}

set_option maxRecDepth 100000 in
set_option maxHeartbeats 2000000 in
theorem Va.add (h : Va B F w vb L fl) (a : Option Addr) (c : Nat) (M : List ByteArray) (hM : Strs w (.slice a M.length c) M)
    (hv : ∀ x, (Value.slice a M.length c).ownBlock = some x → ¬ F x) (hn : L.length + M.length < 1000000) :
    Calls Tryd.prog 51 #[.pointer (some ⟨vb, 0, none⟩), .slice a M.length c] w fun en w' => en = .returned (.tuple #[]) ∧ Va B (fun k => F k ∨ w.heap.size ≤ k) w' vb (L ++ M) fl ∧ Turn F w w' := by
  obtain ⟨T, tb, first, cv, r⟩ := h.raw
  have e0 := r.own.cell 0
  simp at e0
  obtain ⟨i0, z0, hi0, hz0, hz1, hz2, hz3⟩ := flt.strInfo
  have hfl : fl ≤ L.length := r.tree.floor
  have tr0 := r.tree.fcongr (f' := leafF (L ++ M)) (fun i hi => (leafF_app L M i hi).symm) (leafF_len _)
  have HT := Lib.hid (tr0.append_calls a c M hM (fun x hx hT => hv x hx (r.ft x hT)) (fun i s hs => by
    rw [leafF_at (L ++ M) (L.length + i) s (by rw [List.getElem?_append_right (by omega), Nat.add_sub_cancel_left]; exact hs)]) hn)
  obtain ⟨m, hm⟩ : ∃ m, m = M.length := ⟨_, rfl⟩
  obtain ⟨ca, cc, hcv, _, _⟩ := r.seg.slice
  have H := Lib.hid (show _ ∧ _ ∧ _ ∧ _ ∧ _ ∧ _ ∧ _ from ⟨h, r, hM, hv, hn, hi0, hz0⟩)
  clear h r hM hv hn hi0 hz0 tr0
  rw [← hm] at HT H ⊢
  have HM := Lib.hid hm
  clear hm
  subst hcv
  go_enter Tryd.func51, Tryd.ntmps51
  go_wp2_with fail
  refine HT.out.mono ?_
  rintro en w1 ⟨rfl, t1, u1⟩
  obtain ⟨h, r, hM, hv, hn, _, _⟩ := H.out
  have own1 := r.own.turn u1 r.fv.2
  have seg1 := r.seg.turn u1 (fun x hx => (r.fc x hx).2)
  have hM1 := hM.1.turn u1 (fun x hx hT => hv x hx (r.ft x hT))
  rw [← HM.out] at hM1
  have e1 := own1.cell 0
  have e2 := own1.cell 2
  simp at e1 e2
  have fz := own1.free 2
  have T1 := Lib.hid (show _ ∧ _ ∧ _ ∧ _ ∧ _ from ⟨t1, u1, own1, seg1, hM1⟩)
  clear t1 u1 own1 seg1 hM1 h r hM hv hn e0 HT
  go_wp2_with (first
    | ((with_reducible refine at_op 16 ?_); refine wpList_append_every (o := ⟨some 16, _, _, _, _, _⟩) _ rfl (.tmp 14) (.tmp 15) 22 rfl 9 i0 z0 1 16 Tryd.underlying22 H.out.2.2.2.2.2.1 H.out.2.2.2.2.2.2 hz1 hz3 hz2 (by decide) _ (L.length - first) (keptC L fl first) rfl T1.out.2.2.2.1 _ m (M.map Value.string) rfl T1.out.2.2.2.2 (fun u hu => by obtain ⟨s, _, rfl⟩ := List.mem_map.1 hu; rfl) (by have := H.out.2.2.2.2.1; unfold maxLen; omega) (by have := H.out.2.2.2.2.1; omega) ?_;
       intro y w2 hs2 hg2 hb2
       obtain ⟨ya, yc, rfl, _, _⟩ := hs2.slice
       have T2 := Lib.hid (show _ ∧ _ ∧ _ from ⟨hs2, hg2, hb2⟩)
       have own2 : Hid (Has w2 vb 99 #[.pointer (some ⟨tb, 0, none⟩), .int .i64 first, .slice ca (L.length - first) cc]) := Lib.hid (T1.out.2.2.1.grown hg2 (fun e => T1.out.2.2.2.1.ne T1.out.2.2.1 (by decide) e.symm))
       have e3 := own2.out.cell 2
       have f3 := own2.out.free 2
       simp at e3
       clear hs2 hg2 hb2)
    | fail)
  go_end0
  obtain ⟨h, r, hM, hv, hn, _, _⟩ := H.out
  have hsz := T1.out.2.1.size
  have hvl := r.own.lt
  have hlen : (L ++ M).length = L.length + m := by rw [List.length_append, ← HM.out]
  have hcvb : (Value.slice ca (L.length - first) cc).ownBlock ≠ some vb := r.seg.ne r.own (by decide)
  have hy : ∀ x, (Value.slice ya (L.length - first + m) yc).ownBlock = some x → (Value.slice ca (L.length - first) cc).ownBlock = some x ∨ w1.heap.size ≤ x := T2.out.2.2
  have U2 : Turn (fun k => (Value.slice ca (L.length - first) cc).ownBlock = some k ∨ k = vb) w1 (w2.setCell ⟨vb, 2, none⟩ (.slice ya (L.length - first + m) yc)) :=
    ((Turn.refl _ w1).grown T2.out.2.1 (fun j hj _ => .inl hj)).put (fun _ => .inr rfl) 2 _
  refine ⟨rfl, ⟨⟨fun k => (T k ∨ w.heap.size ≤ k) ∧ k < w1.heap.size, tb, first, .slice ya (L.length - first + m) yc, ?_, ?_, ?_, r.first, ⟨.inl r.fv.1, fun e => ?_⟩, fun k hk => ?_, fun x hx => ?_⟩, fun k hk => ?_, fun s hs => ?_⟩, ?_⟩
  · have := own2.out.put 2 (.slice ya (L.length - first + m) yc)
    simpa using this
  · rw [hlen]
    refine (T1.out.1.more (G := fun k => (T k ∨ w.heap.size ≤ k) ∧ k < w1.heap.size) (fun k h1 h2 => ⟨h2, h1⟩) (fun k hk => T1.out.1.hF k hk.1)).turn U2 (fun k hk _ hg => ?_) (fun k hg => ?_)
    · rcases hg with hg | rfl
      · rcases hk.1 with h1 | h1
        · exact (r.fc k hg).2 h1
        · have := r.seg.lt hg; omega
      · rcases hk.1 with h1 | h1
        · exact r.fv.2 h1
        · omega
    · rcases hg with hg | rfl
      · exact h.hF _ (r.fc k hg).1
      · exact h.hF _ r.fv.1
  · have h1 := T2.out.1
    rw [keptC_app hfl] at h1
    have e : (L ++ M).length - first = L.length - first + m := by have := r.first; omega
    rw [e]
    exact Seg.far h1 (fun e => by
      rcases hy vb e with h2 | h2
      · exact hcvb h2
      · omega) _
  · rcases e.1 with h1 | h1
    · exact r.fv.2 h1
    · omega
  · exact hk.1.imp (r.ft k) id
  · rcases hy x hx with h1 | h1
    · refine ⟨.inl (r.fc x h1).1, fun e => ?_⟩
      rcases e.1 with h2 | h2
      · exact (r.fc x h1).2 h2
      · have := r.seg.lt h1; omega
    · exact ⟨.inr (by omega), fun e => by have := e.2; omega⟩
  · rcases hk with h1 | h1
    · exact h.hF k h1
    · have := h.rt.size; omega
  · rcases List.mem_append.1 hs with h1 | h1
    · exact h.short s h1
    · exact hM.2 s h1
  · refine (T1.out.2.1.more (fun j _ h1 => r.ft j h1)).trans U2 (fun j _ hg => ?_)
    rcases hg with hg | rfl
    · exact (r.fc j hg).1
    · exact r.fv.1
end
end Go.Proofs.YthbncejbcegmgaaDoor.prn
end

section
/- prune: copied, At. -/
namespace Go.Proofs.YthbncejbcegmgaaDoor.prn
open Go Go.RowKit Go.Proofs.YthbncejbcegmgaaDoor.dig

/-- An error was answered beside another value: a step more around n. -/
def PairErr (w : World) (v : Value) (s : ByteArray) (a n : Int) (en : Ending) (w' : World) : Prop :=
  ∃ b, en = .returned (.tuple #[v, flt.ev [⟨b, s, a⟩] n]) ∧ w.heap.size ≤ b ∧ flt.Er w'.heap.size w' [⟨b, s, a⟩] n ∧ Below w.heap.size w w'
/-- An error alone was answered. -/
def OneErr (w : World) (s : ByteArray) (a n : Int) (en : Ending) (w' : World) : Prop :=
  ∃ b, en = .returned (flt.ev [⟨b, s, a⟩] n) ∧ w.heap.size ≤ b ∧ flt.Er w'.heap.size w' [⟨b, s, a⟩] n ∧ Below w.heap.size w w'

def commandB : ByteArray := ⟨#[99, 111, 109, 109, 97, 110, 100]⟩

set_option maxRecDepth 100000 in
set_option maxHeartbeats 1000000 in
theorem copied_calls (v : Value) (m : Nat) (xs : List Value) (w : World) (hs : Seg w 9 1 v m xs) (h1 : ∀ u ∈ xs, u.oneCell' = true) (hm : m ≤ 1000000) :
    Calls Tryd.prog 71 #[v] w fun en w' => ∃ y, en = .returned y ∧ Seg w' 9 1 y m xs ∧ (∀ x, y.ownBlock = some x → w.heap.size ≤ x) ∧ Below w.heap.size w w' := by
  obtain ⟨i, z, hi, hz, hsz, hzs, hby⟩ := flt.strInfo
  obtain ⟨a, c, rfl, _, _⟩ := hs.slice
  have HS := Lib.hid hs
  have H1 := Lib.hid h1
  clear hs h1
  go_enter Tryd.func71, Tryd.ntmps71
  go_wp2_with (first | ((with_reducible refine at_op 4 ?_); refine wpList_append_new (o := ⟨some 4, _, _, _, _, _⟩) _ rfl (.const (.slice none 0 0)) (.tmp 3) 22 rfl 9 i z 1 16 Tryd.underlying22 hi hz hsz hby hzs (by omega) rfl _ m xs rfl HS.out H1.out (by unfold maxLen; omega) (by omega) ?_; intro y W2 s2 b2 o2) | fail)
  go_ret
  exact ⟨y, rfl, s2, o2, b2⟩

section
variable {B : Nat} {F : Nat → Prop} {w : World} {vb fl : Nat} {L : List ByteArray}

set_option maxRecDepth 100000 in
set_option maxHeartbeats 1000000 in
theorem Va.at_ok (h : Va B F w vb L fl) (i : Nat) (hi : fl ≤ i) (s : ByteArray) (hs : L[i]? = some s) :
    Calls Tryd.prog 55 #[.pointer (some ⟨vb, 0, none⟩), .int .i64 i] w fun en w' => en = .returned (.tuple #[.string s, .nilIface]) ∧ Below w.heap.size w w' := by
  obtain ⟨T, tb, first, cv, r⟩ := h.raw
  have hil : i < L.length := (List.getElem?_eq_some_iff.1 hs).1
  have hsm := h.small
  have hfi : first ≤ i := Nat.le_trans r.first hi
  obtain ⟨g, off, c, rfl, hg, hc1, hc2, hcell⟩ := r.seg.cells (by omega)
  have c0 := hcell _ _ (keptC_at r.first hi hs)
  have e1 := r.own.cell 1
  have e2 := r.own.cell 2
  simp at e1 e2
  have HL := Lib.hid h.len_calls
  have HF := Lib.hid h.floor_calls
  obtain ⟨n, hn⟩ : ∃ n, n = L.length := ⟨_, rfl⟩
  obtain ⟨k, hk⟩ : ∃ k, k = i - first := ⟨_, rfl⟩
  obtain ⟨m, hm⟩ : ∃ m, m = L.length - first := ⟨_, rfl⟩
  rw [← hk] at c0
  rw [← hm] at e2 hc1
  rw [← hn] at HL
  have h1 : ¬ (i : Int) < 0 := by omega
  have h2 : ¬ (i : Int) ≥ (n : Int) := by omega
  have h3 : ¬ (i : Int) < (fl : Int) := by omega
  have h4 : IntKind.i64.wrap ((i : Int) - (first : Int)) = (k : Int) := by rw [show (i : Int) - (first : Int) = (k : Int) by omega]; exact IntWalk.i64_in _ ⟨by omega, by omega⟩
  have h5 : (i : Int) - (first : Int) = (k : Int) := by omega
  have h6 : (k : Int) < (m : Int) := by omega
  have h7 : (0 : Int) ≤ (k : Int) := by omega
  have h8 : (m : Int) ≤ 1000000 := by omega
  clear r h hcell hs hn hk hm hil hsm hfi hc1 hc2 hg hi
  go_enter Tryd.func55, Tryd.ntmps55
  go_wp2_with fail
  refine HL.out.mono ?_
  rintro en w1 ⟨rfl, rfl⟩
  go_wp2_with fail
  refine HF.out.mono ?_
  rintro en w1 ⟨rfl, rfl⟩
  go_wp2_with fail
  go_region
  go_wp2_with fail
  go_ret2
  exact ⟨rfl, (Below.refl _ _).drew⟩
end
end Go.Proofs.YthbncejbcegmgaaDoor.prn
end

section
/- Out of PruD: Va.at_future, Va.at_pruned. -/
namespace Go.Proofs.YthbncejbcegmgaaDoor.prn
open Go Go.RowKit Go.Proofs.YthbncejbcegmgaaDoor.dig

section
variable {B : Nat} {F : Nat → Prop} {w : World} {vb fl : Nat} {L : List ByteArray}
set_option maxRecDepth 100000 in
set_option maxHeartbeats 1000000 in
theorem Va.at_future (h : Va B F w vb L fl) (x : Int) (hx : x < 0 ∨ x ≥ L.length) :
    Calls Tryd.prog 55 #[.pointer (some ⟨vb, 0, none⟩), .int .i64 x] w (PairErr w (.string ⟨#[]⟩) commandB x 13) := by
  have HL := Lib.hid h.len_calls
  obtain ⟨n, hn⟩ : ∃ n, n = L.length := ⟨_, rfl⟩
  rw [← hn] at HL hx
  clear hn h
  by_cases h1 : x < 0
  · clear hx
    go_enter Tryd.func55, Tryd.ntmps55
    go_wp2_with fail
    refine (flt.in_calls [] 13 commandB x _ (by decide)).mono ?_
    rintro en w2 ⟨rfl, rfl⟩
    go_wp2_with fail
    go_ret2
    exact ⟨_, rfl, Nat.le_refl _, ⟨⟨made_at _ _ rfl, by simp⟩, trivial⟩, (Below.refl _ _).alloc (Nat.le_refl _) _⟩
  · have h2 : x ≥ (n : Int) := by omega
    clear hx
    go_enter Tryd.func55, Tryd.ntmps55
    go_wp2_with fail
    refine HL.out.mono ?_
    rintro en w1 ⟨rfl, rfl⟩
    go_wp2_with fail
    refine (flt.in_calls [] 13 commandB x _ (by decide)).mono ?_
    rintro en w2 ⟨rfl, rfl⟩
    go_wp2_with fail
    go_ret2
    exact ⟨_, rfl, Nat.le_refl _, ⟨⟨made_at _ _ rfl, by simp⟩, trivial⟩, (Below.refl _ _).alloc (Nat.le_refl _) _⟩

set_option maxRecDepth 100000 in
set_option maxHeartbeats 1000000 in
theorem Va.at_pruned (h : Va B F w vb L fl) (i : Nat) (hi : i < fl) :
    Calls Tryd.prog 55 #[.pointer (some ⟨vb, 0, none⟩), .int .i64 i] w (PairErr w (.string ⟨#[]⟩) commandB i 14) := by
  have HL := Lib.hid h.len_calls
  have HF := Lib.hid h.floor_calls
  have hfl := h.floor_le
  obtain ⟨n, hn⟩ : ∃ n, n = L.length := ⟨_, rfl⟩
  rw [← hn] at HL hfl
  have h1 : ¬ (i : Int) < 0 := by omega
  have h2 : ¬ (i : Int) ≥ (n : Int) := by omega
  have h3 : (i : Int) < (fl : Int) := by omega
  clear hn h hi hfl
  go_enter Tryd.func55, Tryd.ntmps55
  go_wp2_with fail
  refine HL.out.mono ?_
  rintro en w1 ⟨rfl, rfl⟩
  go_wp2_with fail
  refine HF.out.mono ?_
  rintro en w1 ⟨rfl, rfl⟩
  go_wp2_with fail
  refine (flt.in_calls [] 14 commandB i _ (by decide)).mono ?_
  rintro en w2 ⟨rfl, rfl⟩
  go_wp2_with fail
  go_ret2
  exact ⟨_, rfl, Nat.le_refl _, ⟨⟨made_at _ _ rfl, by simp⟩, trivial⟩, (Below.refl _ _).alloc (Nat.le_refl _) _⟩
end
end Go.Proofs.YthbncejbcegmgaaDoor.prn
end

