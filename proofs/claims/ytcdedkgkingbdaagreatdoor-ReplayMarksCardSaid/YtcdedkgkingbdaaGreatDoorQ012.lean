/- Texts laid into one: TreeI, Leaf, TreeW, AppE, FltBE, FltDI, FltDJ, PruA, PruB. -/
import Derived.Test.YtcdedkgkingbdaaGreatDoorQ011
import Derived.Test.YtcdedkgkingbdaaGreatDoorQ003
import Derived.Test.YtcdedkgkingbdaaGreatDoorQ005
import Derived.Test.YtcdedkgkingbdaaGreatDoorQ006
import Derived.Test.YtcdedkgkingbdaaGreatDoorQ008
import Derived.LaidEql
import Derived.Stop.Asserts
import Derived.RowKitTokens
import Derived.Test.YtcdedkgkingbdaaGreatDoorQ000
import Derived.Lib.ItoaWalk
import Derived.Test.YtcdedkgkingbdaaGreatDoorQ004
import Derived.Test.YtcdedkgkingbdaaGreatDoorQ009
section
/- tree: New, Len, Floor, Append. -/
namespace Go.Proofs.YtcdedkgkingbdaaGreatDoor.dig
open Go Go.RowKit

set_option maxRecDepth 100000 in
set_option maxHeartbeats 1000000 in
theorem tnew_calls (B : Nat) (f : Nat → List UInt8) (w : World) (hR : Rt B w) (hf : ∀ i, (f i).length = 32) :
    Calls Tryz.prog 28 #[] w fun en w' => ∃ b, en = .returned (.pointer (some ⟨b, 0, none⟩)) ∧ w.heap.size ≤ b ∧ Tr B (fun k => k = b) w' b 0 0 f ∧ Below w.heap.size w w' := by
  have HR := Lib.hid hR
  have HF := Lib.hid hf
  clear hR hf
  go_enter Tryz.func28, Tryz.ntmps28
  go_wp2_with fail
  go_ret
  have B0 : Below w.heap.size w (w.alloc (.cells #[.int .i64 0, .int .i64 0, .slice none 0 0] 147)) := (Below.refl _ _).alloc (Nat.le_refl _) _
  refine ⟨w.heap.size, rfl, Nat.le_refl _, ⟨⟨.slice none 0 0, fun _ => .slice none 0 0, fun _ => 0, ⟨made_at _ _ rfl, Seg.nil _ _ _, ?_, ?_, rfl, ?_, ?_, ?_⟩⟩, HR.out.below B0 HR.out.size, ?_, HF.out, by omega, by omega⟩, B0⟩
  · intro j hj; simp [tops] at hj
  · intro i j hi; simp [tops] at hi
  · intro x hx; cases hx
  · intro j hj; simp [tops] at hj
  · intro j hj; simp [tops] at hj
  · intro k hk; rw [hk]; exact HR.out.size

section
variable {B : Nat} {F : Nat → Prop} {b n fl : Nat} {f : Nat → List UInt8} {w : World}

set_option maxHeartbeats 400000 in
theorem Tr.len_calls (hT : Tr B F w b n fl f) : Calls Tryz.prog 54 #[.pointer (some ⟨b, 0, none⟩)] w fun en w' => en = .returned (.int .i64 n) ∧ w = w' := by
  obtain ⟨rv, hh⟩ := hT.head
  have e0 := hh.cell 0
  simp at e0
  clear hT hh
  go_enter Tryz.func54, Tryz.ntmps54
  go_wp2_with fail
  go_ret
  exact ⟨rfl, rfl⟩

set_option maxHeartbeats 400000 in
theorem Tr.floor_calls (hT : Tr B F w b n fl f) : Calls Tryz.prog 55 #[.pointer (some ⟨b, 0, none⟩)] w fun en w' => en = .returned (.int .i64 fl) ∧ w = w' := by
  obtain ⟨rv, hh⟩ := hT.head
  have e0 := hh.cell 1
  simp at e0
  clear hT hh
  go_enter Tryz.func55, Tryz.ntmps55
  go_wp2_with fail
  go_ret
  exact ⟨rfl, rfl⟩
end

/-- Texts that lie in a slice; none of them is long. -/
def Strs (w : World) (v : Value) (L : List ByteArray) : Prop := Seg w 9 1 v L.length (L.map Value.string) ∧ ∀ s ∈ L, s.size ≤ 1000000

set_option maxRecDepth 100000 in
set_option maxHeartbeats 2000000 in
theorem Tr.append_calls {B : Nat} {F : Nat → Prop} {b n fl : Nat} {f : Nat → List UInt8} {w : World} (hT : Tr B F w b n fl f) (a : Option Addr) (c : Nat) (L : List ByteArray) (hL : Strs w (.slice a L.length c) L)
    (hv : ∀ x, (Value.slice a L.length c).ownBlock = some x → ¬ F x) (hf : ∀ i s, L[i]? = some s → f (n + i) = leafS s.data.toList) (hn : n + L.length < 1000000) :
    Calls Tryz.prog 30 #[.pointer (some ⟨b, 0, none⟩), .slice a L.length c] w fun en w' => en = .returned (.tuple #[]) ∧ Tr B (fun k => F k ∨ w.heap.size ≤ k) w' b (n + L.length) fl f ∧ Turn F w w' := by
  have T0 : Hid (Tr B (fun k => F k ∨ w.heap.size ≤ k) w b (n + 0) fl f ∧ Turn F w w) := Lib.hid ⟨hT.more (fun _ _ h => .inl h) (fun k h => by
    rcases h with h | h
    · exact hT.hF k h
    · have := hT.rt.size; omega), Turn.refl _ _⟩
  obtain ⟨m, hm⟩ : ∃ m, m = L.length := ⟨_, rfl⟩
  obtain ⟨a', c', e, hc1, hc2⟩ := hL.1.slice
  obtain ⟨rfl, rfl⟩ : a = a' ∧ c = c' := by simpa using e
  clear e
  have hc3 : (c : Int) ≤ 9223372036854775807 := by unfold maxLen at hc2; omega
  have HL := Lib.hid hL
  have HV := Lib.hid hv
  have HF := Lib.hid hf
  have HM := Lib.hid hm
  rw [← hm] at hc1 hn ⊢
  have hmc : (m : Int) ≤ (c : Int) := by omega
  clear hL hv hf hm hc2 hT
  go_enter Tryz.func30, Tryz.ntmps30
  go_wp2_with fail
  go_loopw [8] (fun i wr => ∃ k : Nat, i = .int .i64 k ∧ k ≤ m ∧ Hid (Tr B (fun j => F j ∨ w.heap.size ≤ j) wr b (n + k) fl f ∧ Turn F w wr)) (fun i _ => m - (intOf i).toNat)
  case atStart => exact ⟨0, rfl, Nat.zero_le _, T0⟩
  case round =>
    obtain ⟨k, rfl, hk, HS⟩ := hrel
    clear T0
    by_cases hkm : k < m
    · have hk1 : (k : Int) < (m : Int) := by omega
      have hk0 : (0 : Int) ≤ (k : Int) := by omega
      obtain ⟨s, hs⟩ : ∃ s, L[k]? = some s := ⟨_, List.getElem?_eq_getElem (by rw [← HM.out]; exact hkm)⟩
      obtain ⟨R, o, C, hrv, hRl, _, _, hcc⟩ := HL.out.1.cells (by rw [← HM.out]; omega)
      simp only [Value.slice.injEq] at hrv
      obtain ⟨rfl, _, rfl⟩ := hrv
      have k0 : wr.cell? ⟨R, o + k, none⟩ = some (.string s) := by
        have h1 := hcc k (.string s) (by rw [List.getElem?_map, hs]; rfl)
        rw [← h1]
        unfold World.cell?
        rw [HS.out.2.block R hRl (HV.out R rfl)]
      have hsz : s.size ≤ 1000000 := HL.out.2 s (List.mem_of_getElem? hs)
      have HX : Hid (leafS s.data.toList = f (n + k)) := Lib.hid (HF.out k s hs).symm
      clear hcc hs
      go_wp2_with fail
      refine (leaf_calls s wr HS.out.1.rt.rk (by omega)).mono ?_
      rw [HX.out]
      rintro en w2 ⟨rfl, b2⟩
      have S2 : Hid (Tr B (fun j => F j ∨ w.heap.size ≤ j) w2 b (n + k) fl f ∧ Turn F w w2) := Lib.hid ⟨HS.out.1.below b2, HS.out.2.trans (Turn.of_below (F := fun j => wr.heap.size ≤ j) b2 (fun _ _ h => h)) (fun j h1 h2 => by have := HS.out.2.size; omega)⟩
      clear b2 HS k0 HX
      go_wp2_with fail
      refine (add_leaf_calls B _ b (n + k) fl f w2 S2.out.1 (by omega)).mono ?_
      rintro en w3 ⟨rfl, t3, u3⟩
      have S3 : Hid (Tr B (fun j => F j ∨ w.heap.size ≤ j) w3 b (n + (k + 1)) fl f ∧ Turn F w w3) := Lib.hid ⟨t3.more (fun j _ h => by
        rcases h with h | h
        · exact h
        · have := S2.out.2.size; exact .inr (by omega)) S2.out.1.hF, S2.out.2.trans u3 (fun j h1 h2 => by
        rcases h2 with h2 | h2
        · exact h2
        · omega)⟩
      clear t3 u3 S2
      go_wp2_with fail
      refine ⟨⟨k + 1, by rw [Int.natCast_add]; rfl, by omega, S3⟩, ?_⟩
      show m - ((k : Int) + 1).toNat < m - ((k : Int)).toNat
      omega
    · obtain rfl : k = m := by omega
      go_wp2_with fail
      go_end0
      exact ⟨rfl, HS.out.1, HS.out.2⟩
end Go.Proofs.YtcdedkgkingbdaaGreatDoor.dig
end

section
/- The sums of leaves of a list of texts. -/
namespace Go.Proofs.YtcdedkgkingbdaaGreatDoor.dig
open Go

/-- The sums of the leaves of texts. -/
def leafF (L : List ByteArray) (i : Nat) : List UInt8 := leafS ((L[i]?).getD ByteArray.empty).data.toList
theorem leafF_len (L : List ByteArray) (i : Nat) : (leafF L i).length = 32 := leafS_length _
theorem leafF_at (L : List ByteArray) (i : Nat) (s : ByteArray) (h : L[i]? = some s) : leafF L i = leafS s.data.toList := by unfold leafF; rw [h]; rfl
theorem leafF_app (L M : List ByteArray) (i : Nat) (h : i < L.length) : leafF (L ++ M) i = leafF L i := by unfold leafF; rw [List.getElem?_append_left h]
theorem leafF_take (L : List ByteArray) (n i : Nat) (h : i < n) : leafF (L.take n) i = leafF L i := by unfold leafF; rw [List.getElem?_take_of_lt h]
end Go.Proofs.YtcdedkgkingbdaaGreatDoor.dig
end

section
/- tree: other sums beyond the leaves. -/
namespace Go.Proofs.YtcdedkgkingbdaaGreatDoor.dig
open Go Go.RowKit

/-- Sums beyond the leaves make no difference. -/
theorem Tr.fcongr {B : Nat} {F : Nat → Prop} {w : World} {b n fl : Nat} {f f' : Nat → List UInt8} (h : Tr B F w b n fl f) (e : ∀ i, i < n → f i = f' i) (hl : ∀ i, (f' i).length = 32) : Tr B F w b n fl f' := by
  obtain ⟨rv, sv, idle, r⟩ := h.raw
  refine ⟨⟨rv, sv, idle, r.tree, r.rows, fun j hj => ?_, r.apart, r.fb, r.fr, r.fs, r.idle⟩, h.rt, h.hF, hl, h.small, h.floor⟩
  have hc : flat (nodeC f j) (gone fl j) (n / 2 ^ j - gone fl j) = flat (nodeC f' j) (gone fl j) (n / 2 ^ j - gone fl j) := by
    refine flat_congr fun i _ hi => ?_
    have h0 : 0 < 2 ^ j := Nat.pow_pos (by decide)
    have h1 : (i + 1) * 2 ^ j ≤ n := by
      have h2 : i + 1 ≤ n / 2 ^ j := by omega
      exact Nat.le_trans (Nat.mul_le_mul_right _ h2) (Nat.div_mul_le_self _ _)
    rw [Nat.succ_mul] at h1
    unfold nodeC
    rw [rt_congr f f' (2 ^ j) (i * 2 ^ j) h0 (fun x _ hx => e x (by omega))]
  rw [← hc]
  exact r.sums j hj
theorem path_all {f : Nat → List UInt8} (h : ∀ i, (f i).length = 32) : ∀ (n i a : Nat) (x : List UInt8), x ∈ path f i a n → x.length = 32 := by
  intro n
  induction n using Nat.strongRecOn with
  | _ n ih =>
    intro i a x hx
    rw [path] at hx
    by_cases h2 : 2 ≤ n
    · rw [dif_pos h2] at hx
      have l1 := half_lt h2
      have l2 := half_pos n
      split at hx
      · rcases List.mem_append.1 hx with hx | hx
        · exact ih _ l1 _ _ _ hx
        · rw [List.mem_singleton.1 hx]; exact rt_len h _ _ (by omega)
      · rcases List.mem_append.1 hx with hx | hx
        · exact ih _ (by omega) _ _ _ hx
        · rw [List.mem_singleton.1 hx]; exact rt_len h _ _ l2
    · rw [dif_neg h2] at hx; cases hx
end Go.Proofs.YtcdedkgkingbdaaGreatDoor.dig
end

section
/- append of a slice to a slice, either of which may be nil. Of no program. -/
namespace Go.Proofs.YtcdedkgkingbdaaGreatDoor
open Go Go.RowKit

/-- A slice is nil, or lies somewhere. -/
theorem Seg.form {w : World} {e : TypeId} {size n : Nat} {v : Value} {xs : List Value} (h : Seg w e size v n xs) : (v = .slice none 0 0 ∧ n = 0 ∧ xs = []) ∨ Thick v n := by
  rcases h.2 with ⟨h1, h2⟩ | ⟨g, off, cap, cur, h1, _⟩
  · refine .inl ⟨h1, h2, ?_⟩
    have := h.1
    rw [h2, Nat.zero_mul] at this
    exact List.eq_nil_of_length_eq_zero this
  · exact .inr ⟨g, off, cap, h1⟩

section
variable {P : Program} (w : World)

theorem run_append_every (t ty : TypeId) (e : TypeId) (i : TypeInfo) (z : Value) (size bytes : Nat) (ht : P.underlying t = some (.slice e)) (hi : P.info? e = some i) (hz : i.zero = some z)
    (hsize : i.size = size) (hby : i.bytes = bytes) (hzs : z.cells.size = size) (hsz : 0 < size)
    (v : Value) (n : Nat) (xs : List Value) (hown : Seg w e size v n xs)
    (x : Value) (m : Nat) (news : List Value) (hx : Seg w e size x m news) (h1 : ∀ u ∈ news, u.oneCell' = true)
    (h63 : n + m ≤ maxLen) (hbytes : (n + m) * bytes ≤ 140737488355328) :
    ∃ y w', (Builtin.append_ #[t, t] ty #[v, x]).run P w = .ok y w' ∧
      Seg w' e size y (n + m) (xs ++ news) ∧ w.grownBy w' v.ownBlock ∧ (∀ b, y.ownBlock = some b → v.ownBlock = some b ∨ w.heap.size ≤ b) := by
  rcases hown.form with ⟨rfl, rfl, rfl⟩ | hv
  · obtain ⟨y, w', hr, h2, h3, h4⟩ := run_append_new (P := P) w t ty e i z size bytes ht hi hz hsize hby hzs hsz x m news hx h1 (by omega) (by rw [Nat.zero_add] at hbytes; exact hbytes)
    rw [Nat.zero_add, List.nil_append]
    exact ⟨y, w', hr, h2, ⟨h3.os, h3.tape, h3.output, h3.size, fun k hk _ => h3.block k hk⟩, fun b hb => .inr (h4 b hb)⟩
  · obtain ⟨y, w', hr, _, h2, h3, h4⟩ := run_append_any (P := P) w t ty e i z size bytes ht hi hz hsize hby hzs hsz v n xs hown hv x m news hx (hx.form.symm.imp id (fun h => h.1)) h1 h63 hbytes
    exact ⟨y, w', hr, h2, h3, fun b hb => (h4 b hb).imp id (fun e => by omega)⟩

theorem wp_append_every {o : Oper} {a : Act} {K : Act → World → Prop} {Q : Exit → Act → World → Prop} (s x : Operand) (t : TypeId)
    (ho : o.op = .call { callee := .builtin .append, args := #[s, x], argTypes := #[t, t] })
    (e : TypeId) (i : TypeInfo) (z : Value) (size bytes : Nat) (ht : P.underlying t = some (.slice e)) (hi : P.info? e = some i) (hz : i.zero = some z)
    (hsize : i.size = size) (hby : i.bytes = bytes) (hzs : z.cells.size = size) (hsz : 0 < size)
    (v : Value) (n : Nat) (xs : List Value) (hs : a.eval s = v) (hown : Seg w e size v n xs)
    (y : Value) (m : Nat) (news : List Value) (hx : a.eval x = y) (hnew : Seg w e size y m news) (h1 : ∀ u ∈ news, u.oneCell' = true)
    (h63 : n + m ≤ maxLen) (hbytes : (n + m) * bytes ≤ 140737488355328)
    (h : ∀ r w', Seg w' e size r (n + m) (xs ++ news) → w.grownBy w' v.ownBlock → (∀ b, r.ownBlock = some b → v.ownBlock = some b ∨ w.heap.size ≤ b) → K (a.put o.dst r) w') : o.wp P a w K Q := by
  obtain ⟨r, w', hr, h2, h3, h4⟩ := run_append_every (P := P) w t o.type e i z size bytes ht hi hz hsize hby hzs hsz v n xs hown y m news hnew h1 h63 hbytes
  unfold Oper.wp execOp
  simp only [ho, resolve, invoke, builtin, Sem.run_bind, Sem.run_pure, Result.andThen_ok, List.map_toArray, List.map_cons, List.map_nil, hs, hx, hr]
  exact h r w' h2 h3 h4

/-- At the list of a plain region's operations. -/
theorem wpList_append_every {ops : Array Oper} {rest : List Oper} {o : Oper} {a : Act} {Q : Exit → Act → World → Prop} (hgd : o.guard = none) (s x : Operand) (t : TypeId)
    (ho : o.op = .call { callee := .builtin .append, args := #[s, x], argTypes := #[t, t] })
    (e : TypeId) (i : TypeInfo) (z : Value) (size bytes : Nat) (ht : P.underlying t = some (.slice e)) (hi : P.info? e = some i) (hz : i.zero = some z)
    (hsize : i.size = size) (hby : i.bytes = bytes) (hzs : z.cells.size = size) (hsz : 0 < size)
    (v : Value) (n : Nat) (xs : List Value) (hs : a.eval s = v) (hown : Seg w e size v n xs)
    (y : Value) (m : Nat) (news : List Value) (hx : a.eval x = y) (hnew : Seg w e size y m news) (h1 : ∀ u ∈ news, u.oneCell' = true)
    (h63 : n + m ≤ maxLen) (hbytes : (n + m) * bytes ≤ 140737488355328)
    (h : ∀ r w', Seg w' e size r (n + m) (xs ++ news) → w.grownBy w' v.ownBlock → (∀ b, r.ownBlock = some b → v.ownBlock = some b ∨ w.heap.size ≤ b) → wpList P ops Q rest (a.put o.dst r) w') : wpList P ops Q (o :: rest) a w :=
  wpList_plain hgd fun _ hK => wp_append_every w s x t ho e i z size bytes ht hi hz hsize hby hzs hsz v n xs hs hown y m news hx hnew h1 h63 hbytes fun r w' h2 h3 h4 => hK _ _ (h r w' h2 h3 h4)

/-- s[k:] of a slice that lies somewhere; at its cap its address stays, and it is empty. -/
theorem Seg.rest {w : World} {e : TypeId} {size n g off c : Nat} {xs : List Value} (h : Seg w e size (.slice (some ⟨g, off, none⟩) n c) n xs) (k : Nat) (hk : k ≤ n) :
    Seg w e size (.slice (some (if c = k then ⟨g, off, none⟩ else ⟨g, off + k * size, none⟩)) (n - k) (c - k)) (n - k) (xs.drop (k * size)) := by
  by_cases hc : c = k
  · rw [if_pos hc]
    have hnc : n ≤ c := by
      obtain ⟨a, c', h1, h2, _⟩ := h.slice
      simp only [Value.slice.injEq] at h1
      omega
    have hn0 : n - k = 0 := by omega
    have hd : xs.drop (k * size) = [] := by
      refine List.drop_eq_nil_of_le ?_
      rw [h.1]
      exact Nat.mul_le_mul_right _ (by omega)
    rw [hd, hn0]
    rcases h.2 with ⟨h1, _⟩ | ⟨g', off', cap, cur, h1, hg, hc1, hc2, hc3, hx⟩
    · cases h1
    · simp only [Value.slice.injEq, Option.some.injEq, Addr.mk.injEq, and_true, true_and] at h1
      obtain ⟨⟨rfl, rfl⟩, rfl⟩ := h1
      refine ⟨by simp, .inr ⟨g, off, c - k, cur, rfl, hg, Nat.zero_le _, by omega, ?_, by simp⟩⟩
      have : (c - k) * size ≤ c * size := Nat.mul_le_mul_right _ (by omega)
      omega
  · rw [if_neg hc]
    exact h.behind k hk
end
end Go.Proofs.YtcdedkgkingbdaaGreatDoor
end

section
/- Out of FltB: Sp, ev, Er, Er.below, Er.more. -/
namespace Go.Proofs.YtcdedkgkingbdaaGreatDoor.flt
open Go Go.RowKit Go.Extern.Stop Go.Stop Go.Extern

/-- A step of an error: its block, its name, its place. -/
structure Sp where
  b : Nat
  s : ByteArray
  a : Int

/-- An error as a value: steps around a number, from outside in. -/
def ev : List Sp → Int → Value
  | [], n => .iface 55 (.int .i64 n)
  | x :: _, _ => .iface 202 (.pointer (some ⟨x.b, 0, none⟩))

/-- The blocks of an error's steps, all below B. -/
def Er (B : Nat) (w : World) : List Sp → Int → Prop
  | [], _ => True
  | x :: r, n => (Has w x.b 204 #[.string x.s, .int .i64 x.a, ev r n] ∧ x.b < B) ∧ Er B w r n

theorem Er.below {B C : Nat} {w w' : World} {n : Int} : ∀ {L : List Sp}, Er B w L n → Below C w w' → B ≤ C → Er B w' L n
  | [], _, _, _ => trivial
  | _ :: _, h, b, hC => ⟨⟨h.1.1.below b (by have := h.1.2; omega), h.1.2⟩, Er.below h.2 b hC⟩
theorem Er.more {B C : Nat} {w : World} {n : Int} (hC : B ≤ C) : ∀ {L : List Sp}, Er B w L n → Er C w L n
  | [], _ => trivial
  | _ :: _, h => ⟨⟨h.1.1, by have := h.1.2; omega⟩, Er.more hC h.2⟩
end Go.Proofs.YtcdedkgkingbdaaGreatDoor.flt
end

section
/- Out of FltD: eqE, in_calls, in_ok, in_nil. -/
namespace Go.Proofs.YtcdedkgkingbdaaGreatDoor.flt
open Go Go.RowKit Go.Extern.Stop Go.Stop Go.Extern

theorem eqE (n m : Int) (w : World) : (binOp .eql 63 (.iface 55 (.int .i64 n)) (.iface 55 (.int .i64 m))).run Tryz.prog w = .ok (.bool (n == m)) w := by kernel_rfl

theorem in_calls (L : List Sp) (n : Int) (s : ByteArray) (a : Int) (w : World) (hn : n ≠ 0) : Calls Tryz.prog 57 #[.string s, .int .i64 a, ev L n] w
    fun en w' => en = .returned (ev (⟨w.heap.size, s, a⟩ :: L) n) ∧ w' = w.alloc (.cells #[.string s, .int .i64 a, ev L n] 204) := by
  cases L with
  | nil =>
    rw [show ev [] n = .iface 55 (.int .i64 n) from rfl]
    have hne := fun w => eqE n 0 w
    have h0 : (n == 0) = false := by simpa using hn
    rw [h0] at hne
    clear hn h0
    go_enter Tryz.func57, Tryz.ntmps57
    go_wp2
    go_ret
    exact ⟨rfl, rfl⟩
  | cons x r =>
    rw [show ev (x :: r) n = .iface 202 (.pointer (some ⟨x.b, 0, none⟩)) from rfl]
    have hne := fun w => run_eql_iface_types (P := Tryz.prog) 202 55 (.pointer (some ⟨x.b, 0, none⟩)) (.int .i64 0) Tryz.underlying63 (by decide) w
    go_enter Tryz.func57, Tryz.ntmps57
    go_wp2
    go_ret
    exact ⟨rfl, rfl⟩
theorem in_ok (s : ByteArray) (a : Int) (w : World) : Calls Tryz.prog 57 #[.string s, .int .i64 a, .iface 55 (.int .i64 0)] w fun en w' => en = .returned .nilIface ∧ w = w' := by
  have hne : ∀ w, (binOp .eql 63 (.iface 55 (.int .i64 0)) (.iface 55 (.int .i64 0))).run Tryz.prog w = .ok (.bool true) w := fun w => eqE 0 0 w
  go_enter Tryz.func57, Tryz.ntmps57
  go_wp2
  go_ret
  exact ⟨rfl, rfl⟩
theorem in_nil (s : ByteArray) (a : Int) (w : World) : Calls Tryz.prog 57 #[.string s, .int .i64 a, .nilIface] w fun en w' => en = .returned .nilIface ∧ w = w' := by
  go_enter Tryz.func57, Tryz.ntmps57
  go_wp2
  go_ret
  exact ⟨rfl, rfl⟩
end Go.Proofs.YtcdedkgkingbdaaGreatDoor.flt
end

section
/- Out of FltD: intOf, strInfo, below_own, below_less. -/
namespace Go.Proofs.YtcdedkgkingbdaaGreatDoor.flt
open Go Go.RowKit Go.Extern.Stop Go.Stop Go.Extern

def intOf : Value → Int
  | .int _ x => x
  | _ => 0

theorem strInfo : ∃ i z, Tryz.prog.info? 9 = some i ∧ i.zero = some z ∧ i.size = 1 ∧ z.cells.size = 1 ∧ i.bytes = 16 := by
  have h2 : (Tryz.prog.info? 9).map (fun i => (i.zero.map (fun z => z.cells.size), i.size, i.bytes)) = some (some 1, 1, 16) := by kernel_rfl
  obtain ⟨i, hi, e⟩ := Option.map_eq_some_iff.1 h2
  simp only [Prod.mk.injEq] at e
  obtain ⟨e1, e2, e3⟩ := e
  obtain ⟨z, hz, e4⟩ := Option.map_eq_some_iff.1 e1
  exact ⟨i, z, hi, hz, e2, e4, e3⟩

theorem below_own {B : Nat} {w w' : World} {v : Value} (h : w.grownBy w' v.ownBlock) (hv : ∀ x, v.ownBlock = some x → B ≤ x) (hB : B ≤ w.heap.size) : Below B w w' :=
  ⟨h.os, h.tape, h.output, h.size, fun i hi => h.block i (by omega) (fun e => by have := hv i e.symm; omega)⟩

theorem below_less {B C : Nat} {w w' : World} (h : Below C w w') (hB : B ≤ C) : Below B w w' := ⟨h.os, h.tape, h.output, h.size, fun i hi => h.block i (by omega)⟩
end Go.Proofs.YtcdedkgkingbdaaGreatDoor.flt
end

section
/- prune: what a vault is in memory. -/
namespace Go.Proofs.YtcdedkgkingbdaaGreatDoor.prn
open Go Go.RowKit Go.Proofs.YtcdedkgkingbdaaGreatDoor.dig

/-- What is kept of texts: those below the floor are blank, from one on. -/
def keptC (L : List ByteArray) (fl first : Nat) : List Value := List.replicate (fl - first) (Value.string ByteArray.empty) ++ (L.drop fl).map Value.string
theorem keptC_len {L : List ByteArray} {fl first : Nat} (h1 : first ≤ fl) (h2 : fl ≤ L.length) : (keptC L fl first).length = L.length - first := by
  unfold keptC
  rw [List.length_append, List.length_replicate, List.length_map, List.length_drop]
  omega
theorem keptC_at {L : List ByteArray} {fl first i : Nat} (_ : first ≤ fl) (h2 : fl ≤ i) {s : ByteArray} (hs : L[i]? = some s) : (keptC L fl first)[i - first]? = some (.string s) := by
  unfold keptC
  rw [List.getElem?_append_right (by rw [List.length_replicate]; omega), List.length_replicate, List.getElem?_map, List.getElem?_drop, show fl + (i - first - (fl - first)) = i by omega, hs]
  rfl
theorem keptC_one {L : List ByteArray} {fl first : Nat} : ∀ u ∈ keptC L fl first, u.oneCell' = true := by
  intro u hu
  unfold keptC at hu
  rcases List.mem_append.1 hu with h | h
  · rw [(List.mem_replicate.1 h).2]; rfl
  · obtain ⟨s, _, rfl⟩ := List.mem_map.1 h; rfl
theorem keptC_app {L M : List ByteArray} {fl first : Nat} (h2 : fl ≤ L.length) : keptC L fl first ++ M.map Value.string = keptC (L ++ M) fl first := by
  unfold keptC
  rw [List.append_assoc, List.drop_append_of_le_length h2, List.map_append]
theorem keptC_drop {L : List ByteArray} {fl first : Nat} : (keptC L fl first).drop (fl - first) = keptC L fl fl := by
  unfold keptC
  rw [List.drop_append_of_le_length (by rw [List.length_replicate]; exact Nat.le_refl _), List.drop_of_length_le (by rw [List.length_replicate]; exact Nat.le_refl _), Nat.sub_self]
  rfl
theorem keptC_take {L : List ByteArray} {fl n : Nat} (_ : fl ≤ n) : (keptC L fl fl).take (n - fl) = keptC (L.take n) fl fl := by
  unfold keptC
  rw [Nat.sub_self, List.replicate_zero, List.nil_append, List.nil_append, ← List.map_take, List.drop_take]
/-- A vault's blocks: its own, its tree's (of T), that of its commands. -/
structure Vr (B : Nat) (F T : Nat → Prop) (w : World) (vb tb fl first : Nat) (L : List ByteArray) (cv : Value) : Prop where
  own : Has w vb 128 #[.pointer (some ⟨tb, 0, none⟩), .int .i64 first, cv]
  tree : Tr B T w tb L.length fl (leafF L)
  seg : Seg w 9 1 cv (L.length - first) (keptC L fl first)
  first : first ≤ fl
  fv : F vb ∧ ¬ T vb
  ft : ∀ k, T k → F k
  fc : ∀ x, cv.ownBlock = some x → F x ∧ ¬ T x

/-- A vault of texts L, its floor fl. -/
structure Va (B : Nat) (F : Nat → Prop) (w : World) (vb : Nat) (L : List ByteArray) (fl : Nat) : Prop where
  raw : ∃ T tb first cv, Vr B F T w vb tb fl first L cv
  hF : ∀ k, F k → B ≤ k
  short : ∀ s ∈ L, s.size ≤ 1000000

section
variable {B : Nat} {F G T : Nat → Prop} {w w' : World} {vb tb fl first : Nat} {L : List ByteArray} {cv : Value}
theorem Vr.turn (h : Vr B F T w vb tb fl first L cv) (t : Turn G w w') (hG : ∀ k, F k → k < w.heap.size → ¬ G k) (hB : ∀ k, G k → B ≤ k) : Vr B F T w' vb tb fl first L cv :=
  ⟨h.own.turn t (hG _ h.fv.1 h.own.lt), h.tree.turn t (fun k hk => hG k (h.ft k hk)) hB, h.seg.turn t (fun x hx => hG x (h.fc x hx).1 (h.seg.lt hx)), h.first, h.fv, h.ft, h.fc⟩
theorem Va.turn (h : Va B F w vb L fl) (t : Turn G w w') (hG : ∀ k, F k → k < w.heap.size → ¬ G k) (hB : ∀ k, G k → B ≤ k) : Va B F w' vb L fl := by
  obtain ⟨T, tb, first, cv, r⟩ := h.raw
  exact ⟨⟨T, tb, first, cv, r.turn t hG hB⟩, h.hF, h.short⟩
theorem Va.rt (h : Va B F w vb L fl) : Rt B w := by
  obtain ⟨T, tb, first, cv, r⟩ := h.raw
  exact r.tree.rt
theorem Va.below (h : Va B F w vb L fl) (t : Below w.heap.size w w') : Va B F w' vb L fl :=
  h.turn (Turn.of_below (F := fun k => w.heap.size ≤ k) t (fun _ _ h => h)) (fun k _ h1 h2 => by omega) (fun k hk => Nat.le_trans h.rt.size hk)
theorem Va.drew (h : Va B F w vb L fl) : Va B F w.drew vb L fl := h.below (Below.refl _ _).drew
theorem Va.alloc (h : Va B F w vb L fl) (o : Obj) : Va B F (w.alloc o) vb L fl := h.below ((Below.refl _ _).alloc (Nat.le_refl _) o)
theorem Va.more (h : Va B F w vb L fl) (hG : ∀ k, k < w.heap.size → F k → G k) (hB : ∀ k, G k → B ≤ k) : Va B G w vb L fl := by
  obtain ⟨T, tb, first, cv, r⟩ := h.raw
  refine ⟨⟨fun k => T k ∧ k < w.heap.size, tb, first, cv, r.own, r.tree.more (fun k h1 h2 => ⟨h2, h1⟩) (fun k hk => r.tree.hF k hk.1), r.seg, r.first, ⟨hG _ r.own.lt r.fv.1, fun h => r.fv.2 h.1⟩, fun k hk => hG k hk.2 (r.ft k hk.1), fun x hx => ⟨hG x (r.seg.lt hx) (r.fc x hx).1, fun h => (r.fc x hx).2 h.1⟩⟩, hB, h.short⟩
theorem Va.tight (h : Va B F w vb L fl) : Va B (fun k => F k ∧ k < w.heap.size) w vb L fl := h.more (fun _ h1 h2 => ⟨h2, h1⟩) (fun k hk => h.hF k hk.1)
theorem Va.lt (h : Va B F w vb L fl) : vb < w.heap.size := by
  obtain ⟨T, tb, first, cv, r⟩ := h.raw
  exact r.own.lt
theorem Va.floor_le (h : Va B F w vb L fl) : fl ≤ L.length := by
  obtain ⟨T, tb, first, cv, r⟩ := h.raw
  exact r.tree.floor
theorem Va.small (h : Va B F w vb L fl) : L.length ≤ 1000000 := by
  obtain ⟨T, tb, first, cv, r⟩ := h.raw
  exact r.tree.small
end
end Go.Proofs.YtcdedkgkingbdaaGreatDoor.prn
end

section
/- prune: New, Len, Floor, Add. -/
namespace Go.Proofs.YtcdedkgkingbdaaGreatDoor.prn
open Go Go.RowKit Go.Proofs.YtcdedkgkingbdaaGreatDoor.dig

section
variable {B : Nat} {F : Nat → Prop} {w : World} {vb fl : Nat} {L : List ByteArray}

set_option maxHeartbeats 400000 in
theorem Va.len_calls (h : Va B F w vb L fl) : Calls Tryz.prog 15 #[.pointer (some ⟨vb, 0, none⟩)] w fun en w' => en = .returned (.int .i64 L.length) ∧ w = w' := by
  obtain ⟨T, tb, first, cv, r⟩ := h.raw
  have e0 := r.own.cell 0
  simp at e0
  have HT := Lib.hid r.tree.len_calls
  clear r h
  go_enter Tryz.func15, Tryz.ntmps15
  go_wp2_with fail
  refine HT.out.mono ?_
  rintro en w1 ⟨rfl, rfl⟩
  go_wp2_with fail
  go_ret
  exact ⟨rfl, rfl⟩

set_option maxHeartbeats 400000 in
theorem Va.floor_calls (h : Va B F w vb L fl) : Calls Tryz.prog 16 #[.pointer (some ⟨vb, 0, none⟩)] w fun en w' => en = .returned (.int .i64 fl) ∧ w = w' := by
  obtain ⟨T, tb, first, cv, r⟩ := h.raw
  have e0 := r.own.cell 0
  simp at e0
  have HT := Lib.hid r.tree.floor_calls
  clear r h
  go_enter Tryz.func16, Tryz.ntmps16
  go_wp2_with fail
  refine HT.out.mono ?_
  rintro en w1 ⟨rfl, rfl⟩
  go_wp2_with fail
  go_ret
  exact ⟨rfl, rfl⟩
end

set_option maxHeartbeats 1000000 in
theorem vnew_calls (B : Nat) (w : World) (hR : Rt B w) :
    Calls Tryz.prog 39 #[] w fun en w' => ∃ b, en = .returned (.pointer (some ⟨b, 0, none⟩)) ∧ w.heap.size ≤ b ∧ Va B (fun k => w.heap.size ≤ k) w' b [] 0 ∧ Below w.heap.size w w' := by
  have HT := Lib.hid (tnew_calls B (leafF []) w hR (leafF_len []))
  have HR := Lib.hid hR
  clear hR
  go_enter Tryz.func39, Tryz.ntmps39
  go_wp2_with fail
  refine HT.out.mono ?_
  rintro en w1 ⟨tb, rfl, htb, t1, b1⟩
  have T1 := Lib.hid (show _ ∧ _ ∧ _ from ⟨htb, t1, b1⟩)
  clear htb t1 b1
  go_wp2_with fail
  go_ret
  have hl := T1.out.2.1.lt
  have hs := T1.out.2.2.size
  refine ⟨w1.heap.size, rfl, hs, ⟨⟨fun k => k = tb, tb, 0, .slice none 0 0, made_at _ _ rfl, T1.out.2.1.alloc _, Seg.nil _ _ _, Nat.le_refl _, ⟨hs, fun e => ?_⟩, fun k hk => ?_, fun x hx => by cases hx⟩, fun k hk => Nat.le_trans HR.out.size hk, fun s hs => by cases hs⟩, T1.out.2.2.alloc hs _⟩
  · have e : w1.heap.size = tb := e
    omega
  · rw [show k = tb from hk]; exact T1.out.1

section
variable {B : Nat} {F : Nat → Prop} {w : World} {vb fl : Nat} {L : List ByteArray}

set_option maxRecDepth 100000 in
set_option maxHeartbeats 2000000 in
theorem Va.add (h : Va B F w vb L fl) (a : Option Addr) (c : Nat) (M : List ByteArray) (hM : Strs w (.slice a M.length c) M)
    (hv : ∀ x, (Value.slice a M.length c).ownBlock = some x → ¬ F x) (hn : L.length + M.length < 1000000) :
    Calls Tryz.prog 56 #[.pointer (some ⟨vb, 0, none⟩), .slice a M.length c] w fun en w' => en = .returned (.tuple #[]) ∧ Va B (fun k => F k ∨ w.heap.size ≤ k) w' vb (L ++ M) fl ∧ Turn F w w' := by
  obtain ⟨T, tb, first, cv, r⟩ := h.raw
  have e0 := r.own.cell 0
  simp at e0
  obtain ⟨i0, z0, hi0, hz0, hz1, hz2, hz3⟩ := flt.strInfo
  have hfl : fl ≤ L.length := r.tree.floor
  have tr0 := r.tree.fcongr (f' := leafF (L ++ M)) (fun i hi => (leafF_app L M i hi).symm) (leafF_len _)
  have HT := Lib.hid (tr0.append_calls a c M hM (fun x hx hT => hv x hx (r.ft x hT)) (fun i s hs => by
    rw [leafF_at (L ++ M) (L.length + i) s (by rw [List.getElem?_append_right (by omega), Nat.add_sub_cancel_left]; exact hs)]) hn)
  obtain ⟨m, hm⟩ : ∃ m, m = M.length := ⟨_, rfl⟩
  obtain ⟨ca, cc, hcv, _, _⟩ := r.seg.slice
  have H := Lib.hid (show _ ∧ _ ∧ _ ∧ _ ∧ _ ∧ _ ∧ _ from ⟨h, r, hM, hv, hn, hi0, hz0⟩)
  clear h r hM hv hn hi0 hz0 tr0
  rw [← hm] at HT H ⊢
  have HM := Lib.hid hm
  clear hm
  subst hcv
  go_enter Tryz.func56, Tryz.ntmps56
  go_wp2_with fail
  refine HT.out.mono ?_
  rintro en w1 ⟨rfl, t1, u1⟩
  obtain ⟨h, r, hM, hv, hn, _, _⟩ := H.out
  have own1 := r.own.turn u1 r.fv.2
  have seg1 := r.seg.turn u1 (fun x hx => (r.fc x hx).2)
  have hM1 := hM.1.turn u1 (fun x hx hT => hv x hx (r.ft x hT))
  rw [← HM.out] at hM1
  have e1 := own1.cell 0
  have e2 := own1.cell 2
  simp at e1 e2
  have fz := own1.free 2
  have T1 := Lib.hid (show _ ∧ _ ∧ _ ∧ _ ∧ _ from ⟨t1, u1, own1, seg1, hM1⟩)
  clear t1 u1 own1 seg1 hM1 h r hM hv hn e0 HT
  go_wp2_with (first
    | ((with_reducible refine at_op 16 ?_); refine wpList_append_every (o := ⟨some 16, _, _, _, _, _⟩) _ rfl (.tmp 14) (.tmp 15) 74 rfl 9 i0 z0 1 16 Tryz.underlying74 H.out.2.2.2.2.2.1 H.out.2.2.2.2.2.2 hz1 hz3 hz2 (by decide) _ (L.length - first) (keptC L fl first) rfl T1.out.2.2.2.1 _ m (M.map Value.string) rfl T1.out.2.2.2.2 (fun u hu => by obtain ⟨s, _, rfl⟩ := List.mem_map.1 hu; rfl) (by have := H.out.2.2.2.2.1; unfold maxLen; omega) (by have := H.out.2.2.2.2.1; omega) ?_;
       intro y w2 hs2 hg2 hb2
       obtain ⟨ya, yc, rfl, _, _⟩ := hs2.slice
       have T2 := Lib.hid (show _ ∧ _ ∧ _ from ⟨hs2, hg2, hb2⟩)
       have own2 : Hid (Has w2 vb 128 #[.pointer (some ⟨tb, 0, none⟩), .int .i64 first, .slice ca (L.length - first) cc]) := Lib.hid (T1.out.2.2.1.grown hg2 (fun e => T1.out.2.2.2.1.ne T1.out.2.2.1 (by decide) e.symm))
       have e3 := own2.out.cell 2
       have f3 := own2.out.free 2
       simp at e3
       clear hs2 hg2 hb2)
    | fail)
  go_end0
  obtain ⟨h, r, hM, hv, hn, _, _⟩ := H.out
  have hsz := T1.out.2.1.size
  have hvl := r.own.lt
  have hlen : (L ++ M).length = L.length + m := by rw [List.length_append, ← HM.out]
  have hcvb : (Value.slice ca (L.length - first) cc).ownBlock ≠ some vb := r.seg.ne r.own (by decide)
  have hy : ∀ x, (Value.slice ya (L.length - first + m) yc).ownBlock = some x → (Value.slice ca (L.length - first) cc).ownBlock = some x ∨ w1.heap.size ≤ x := T2.out.2.2
  have U2 : Turn (fun k => (Value.slice ca (L.length - first) cc).ownBlock = some k ∨ k = vb) w1 (w2.setCell ⟨vb, 2, none⟩ (.slice ya (L.length - first + m) yc)) :=
    ((Turn.refl _ w1).grown T2.out.2.1 (fun j hj _ => .inl hj)).put (fun _ => .inr rfl) 2 _
  refine ⟨rfl, ⟨⟨fun k => (T k ∨ w.heap.size ≤ k) ∧ k < w1.heap.size, tb, first, .slice ya (L.length - first + m) yc, ?_, ?_, ?_, r.first, ⟨.inl r.fv.1, fun e => ?_⟩, fun k hk => ?_, fun x hx => ?_⟩, fun k hk => ?_, fun s hs => ?_⟩, ?_⟩
  · have := own2.out.put 2 (.slice ya (L.length - first + m) yc)
    simpa using this
  · rw [hlen]
    refine (T1.out.1.more (G := fun k => (T k ∨ w.heap.size ≤ k) ∧ k < w1.heap.size) (fun k h1 h2 => ⟨h2, h1⟩) (fun k hk => T1.out.1.hF k hk.1)).turn U2 (fun k hk _ hg => ?_) (fun k hg => ?_)
    · rcases hg with hg | rfl
      · rcases hk.1 with h1 | h1
        · exact (r.fc k hg).2 h1
        · have := r.seg.lt hg; omega
      · rcases hk.1 with h1 | h1
        · exact r.fv.2 h1
        · omega
    · rcases hg with hg | rfl
      · exact h.hF _ (r.fc k hg).1
      · exact h.hF _ r.fv.1
  · have h1 := T2.out.1
    rw [keptC_app hfl] at h1
    have e : (L ++ M).length - first = L.length - first + m := by have := r.first; omega
    rw [e]
    exact Seg.far h1 (fun e => by
      rcases hy vb e with h2 | h2
      · exact hcvb h2
      · omega) _
  · rcases e.1 with h1 | h1
    · exact r.fv.2 h1
    · omega
  · exact hk.1.imp (r.ft k) id
  · rcases hy x hx with h1 | h1
    · refine ⟨.inl (r.fc x h1).1, fun e => ?_⟩
      rcases e.1 with h2 | h2
      · exact (r.fc x h1).2 h2
      · have := r.seg.lt h1; omega
    · exact ⟨.inr (by omega), fun e => by have := e.2; omega⟩
  · rcases hk with h1 | h1
    · exact h.hF k h1
    · have := h.rt.size; omega
  · rcases List.mem_append.1 hs with h1 | h1
    · exact h.short s h1
    · exact hM.2 s h1
  · refine (T1.out.2.1.more (fun j _ h1 => r.ft j h1)).trans U2 (fun j _ hg => ?_)
    rcases hg with hg | rfl
    · exact (r.fc j hg).1
    · exact r.fv.1
end
end Go.Proofs.YtcdedkgkingbdaaGreatDoor.prn
end

