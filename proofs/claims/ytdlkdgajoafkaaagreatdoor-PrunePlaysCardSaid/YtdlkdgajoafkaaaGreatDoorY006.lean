/- Texts laid into one: TreeW, AppE, FltA, FltB, FltC, FltD, PruA. -/
import Derived.Test.YtdlkdgajoafkaaaGreatDoorY002
import Derived.Test.YtdlkdgajoafkaaaGreatDoorY003
import Derived.Test.YtdlkdgajoafkaaaGreatDoorY004
import Derived.Test.YtdlkdgajoafkaaaGreatDoorY000
import Derived.LaidEql
import Derived.Stop.Asserts
import Derived.RowKitTokens
import Derived.Lib.ItoaWalk
import Derived.Test.YtdlkdgajoafkaaaGreatDoorY005
section
/- tree: other sums beyond the leaves. -/
namespace Go.Proofs.YtdlkdgajoafkaaaGreatDoor.dig
open Go Go.RowKit

/-- Sums beyond the leaves make no difference. -/
theorem Tr.fcongr {B : Nat} {F : Nat → Prop} {w : World} {b n fl : Nat} {f f' : Nat → List UInt8} (h : Tr B F w b n fl f) (e : ∀ i, i < n → f i = f' i) (hl : ∀ i, (f' i).length = 32) : Tr B F w b n fl f' := by
  obtain ⟨rv, sv, idle, r⟩ := h.raw
  refine ⟨⟨rv, sv, idle, r.tree, r.rows, fun j hj => ?_, r.apart, r.fb, r.fr, r.fs, r.idle⟩, h.rt, h.hF, hl, h.small, h.floor⟩
  have hc : flat (nodeC f j) (gone fl j) (n / 2 ^ j - gone fl j) = flat (nodeC f' j) (gone fl j) (n / 2 ^ j - gone fl j) := by
    refine flat_congr fun i _ hi => ?_
    have h0 : 0 < 2 ^ j := Nat.pow_pos (by decide)
    have h1 : (i + 1) * 2 ^ j ≤ n := by
      have h2 : i + 1 ≤ n / 2 ^ j := by omega
      exact Nat.le_trans (Nat.mul_le_mul_right _ h2) (Nat.div_mul_le_self _ _)
    rw [Nat.succ_mul] at h1
    unfold nodeC
    rw [rt_congr f f' (2 ^ j) (i * 2 ^ j) h0 (fun x _ hx => e x (by omega))]
  rw [← hc]
  exact r.sums j hj
theorem path_all {f : Nat → List UInt8} (h : ∀ i, (f i).length = 32) : ∀ (n i a : Nat) (x : List UInt8), x ∈ path f i a n → x.length = 32 := by
  intro n
  induction n using Nat.strongRecOn with
  | _ n ih =>
    intro i a x hx
    rw [path] at hx
    by_cases h2 : 2 ≤ n
    · rw [dif_pos h2] at hx
      have l1 := half_lt h2
      have l2 := half_pos n
      split at hx
      · rcases List.mem_append.1 hx with hx | hx
        · exact ih _ l1 _ _ _ hx
        · rw [List.mem_singleton.1 hx]; exact rt_len h _ _ (by omega)
      · rcases List.mem_append.1 hx with hx | hx
        · exact ih _ (by omega) _ _ _ hx
        · rw [List.mem_singleton.1 hx]; exact rt_len h _ _ l2
    · rw [dif_neg h2] at hx; cases hx
/-- A sum in a slice of sums. -/
theorem seg_sum {w : World} {a : Option Addr} {n c : Nat} {l : List (List UInt8)} (h : Seg w 56 32 (.slice a n c) n (sumsC l)) (hl : ∀ x ∈ l, x.length = 32) {t : Nat} {x : List UInt8} (hx : l[t]? = some x) (hn : 0 < n) :
    ∃ g off, a = some ⟨g, off, none⟩ ∧ g < w.heap.size ∧ w.rangeAt g (off + t * 32) (x.map byteV) := by
  obtain ⟨g, off, c', e, hg, _, _, hc⟩ := h.cells hn
  simp only [Value.slice.injEq] at e
  obtain ⟨rfl, _, rfl⟩ := e
  exact ⟨g, off, rfl, hg, fun j u hj => by rw [Nat.add_assoc]; exact hc _ u (sumsC_at l t x j u hl hx hj)⟩
end Go.Proofs.YtdlkdgajoafkaaaGreatDoor.dig
end

section
/- append of a slice to a slice, either of which may be nil. Of no program. -/
namespace Go.Proofs.YtdlkdgajoafkaaaGreatDoor
open Go Go.RowKit

/-- A slice is nil, or lies somewhere. -/
theorem Seg.form {w : World} {e : TypeId} {size n : Nat} {v : Value} {xs : List Value} (h : Seg w e size v n xs) : (v = .slice none 0 0 ∧ n = 0 ∧ xs = []) ∨ Thick v n := by
  rcases h.2 with ⟨h1, h2⟩ | ⟨g, off, cap, cur, h1, _⟩
  · refine .inl ⟨h1, h2, ?_⟩
    have := h.1
    rw [h2, Nat.zero_mul] at this
    exact List.eq_nil_of_length_eq_zero this
  · exact .inr ⟨g, off, cap, h1⟩

section
variable {P : Program} (w : World)

theorem run_append_every (t ty : TypeId) (e : TypeId) (i : TypeInfo) (z : Value) (size bytes : Nat) (ht : P.underlying t = some (.slice e)) (hi : P.info? e = some i) (hz : i.zero = some z)
    (hsize : i.size = size) (hby : i.bytes = bytes) (hzs : z.cells.size = size) (hsz : 0 < size)
    (v : Value) (n : Nat) (xs : List Value) (hown : Seg w e size v n xs)
    (x : Value) (m : Nat) (news : List Value) (hx : Seg w e size x m news) (h1 : ∀ u ∈ news, u.oneCell' = true)
    (h63 : n + m ≤ maxLen) (hbytes : (n + m) * bytes ≤ 140737488355328) :
    ∃ y w', (Builtin.append_ #[t, t] ty #[v, x]).run P w = .ok y w' ∧
      Seg w' e size y (n + m) (xs ++ news) ∧ w.grownBy w' v.ownBlock ∧ (∀ b, y.ownBlock = some b → v.ownBlock = some b ∨ w.heap.size ≤ b) := by
  rcases hown.form with ⟨rfl, rfl, rfl⟩ | hv
  · obtain ⟨y, w', hr, h2, h3, h4⟩ := run_append_new (P := P) w t ty e i z size bytes ht hi hz hsize hby hzs hsz x m news hx h1 (by omega) (by rw [Nat.zero_add] at hbytes; exact hbytes)
    rw [Nat.zero_add, List.nil_append]
    exact ⟨y, w', hr, h2, ⟨h3.os, h3.tape, h3.output, h3.size, fun k hk _ => h3.block k hk⟩, fun b hb => .inr (h4 b hb)⟩
  · obtain ⟨y, w', hr, _, h2, h3, h4⟩ := run_append_any (P := P) w t ty e i z size bytes ht hi hz hsize hby hzs hsz v n xs hown hv x m news hx (hx.form.symm.imp id (fun h => h.1)) h1 h63 hbytes
    exact ⟨y, w', hr, h2, h3, fun b hb => (h4 b hb).imp id (fun e => by omega)⟩

theorem wp_append_every {o : Oper} {a : Act} {K : Act → World → Prop} {Q : Exit → Act → World → Prop} (s x : Operand) (t : TypeId)
    (ho : o.op = .call { callee := .builtin .append, args := #[s, x], argTypes := #[t, t] })
    (e : TypeId) (i : TypeInfo) (z : Value) (size bytes : Nat) (ht : P.underlying t = some (.slice e)) (hi : P.info? e = some i) (hz : i.zero = some z)
    (hsize : i.size = size) (hby : i.bytes = bytes) (hzs : z.cells.size = size) (hsz : 0 < size)
    (v : Value) (n : Nat) (xs : List Value) (hs : a.eval s = v) (hown : Seg w e size v n xs)
    (y : Value) (m : Nat) (news : List Value) (hx : a.eval x = y) (hnew : Seg w e size y m news) (h1 : ∀ u ∈ news, u.oneCell' = true)
    (h63 : n + m ≤ maxLen) (hbytes : (n + m) * bytes ≤ 140737488355328)
    (h : ∀ r w', Seg w' e size r (n + m) (xs ++ news) → w.grownBy w' v.ownBlock → (∀ b, r.ownBlock = some b → v.ownBlock = some b ∨ w.heap.size ≤ b) → K (a.put o.dst r) w') : o.wp P a w K Q := by
  obtain ⟨r, w', hr, h2, h3, h4⟩ := run_append_every (P := P) w t o.type e i z size bytes ht hi hz hsize hby hzs hsz v n xs hown y m news hnew h1 h63 hbytes
  unfold Oper.wp execOp
  simp only [ho, resolve, invoke, builtin, Sem.run_bind, Sem.run_pure, Result.andThen_ok, List.map_toArray, List.map_cons, List.map_nil, hs, hx, hr]
  exact h r w' h2 h3 h4

/-- At the list of a plain region's operations. -/
theorem wpList_append_every {ops : Array Oper} {rest : List Oper} {o : Oper} {a : Act} {Q : Exit → Act → World → Prop} (hgd : o.guard = none) (s x : Operand) (t : TypeId)
    (ho : o.op = .call { callee := .builtin .append, args := #[s, x], argTypes := #[t, t] })
    (e : TypeId) (i : TypeInfo) (z : Value) (size bytes : Nat) (ht : P.underlying t = some (.slice e)) (hi : P.info? e = some i) (hz : i.zero = some z)
    (hsize : i.size = size) (hby : i.bytes = bytes) (hzs : z.cells.size = size) (hsz : 0 < size)
    (v : Value) (n : Nat) (xs : List Value) (hs : a.eval s = v) (hown : Seg w e size v n xs)
    (y : Value) (m : Nat) (news : List Value) (hx : a.eval x = y) (hnew : Seg w e size y m news) (h1 : ∀ u ∈ news, u.oneCell' = true)
    (h63 : n + m ≤ maxLen) (hbytes : (n + m) * bytes ≤ 140737488355328)
    (h : ∀ r w', Seg w' e size r (n + m) (xs ++ news) → w.grownBy w' v.ownBlock → (∀ b, r.ownBlock = some b → v.ownBlock = some b ∨ w.heap.size ≤ b) → wpList P ops Q rest (a.put o.dst r) w') : wpList P ops Q (o :: rest) a w :=
  wpList_plain hgd fun _ hK => wp_append_every w s x t ho e i z size bytes ht hi hz hsize hby hzs hsz v n xs hs hown y m news hx hnew h1 h63 hbytes fun r w' h2 h3 h4 => hK _ _ (h r w' h2 h3 h4)

/-- At a step of a region that draws its order. -/
theorem step_append_every {ops : Array Oper} {o : Oper} {a : Act} {K : Act → World → Prop} {Q : Exit → Act → World → Prop} {E : Prop} (hgd : o.guard = none) (s x : Operand) (t : TypeId)
    (ho : o.op = .call { callee := .builtin .append, args := #[s, x], argTypes := #[t, t] })
    (e : TypeId) (i : TypeInfo) (z : Value) (size bytes : Nat) (ht : P.underlying t = some (.slice e)) (hi : P.info? e = some i) (hz : i.zero = some z)
    (hsize : i.size = size) (hby : i.bytes = bytes) (hzs : z.cells.size = size) (hsz : 0 < size)
    (v : Value) (n : Nat) (xs : List Value) (hs : a.eval s = v) (hown : Seg w e size v n xs)
    (y : Value) (m : Nat) (news : List Value) (hx : a.eval x = y) (hnew : Seg w e size y m news) (h1 : ∀ u ∈ news, u.oneCell' = true)
    (h63 : n + m ≤ maxLen) (hbytes : (n + m) * bytes ≤ 140737488355328)
    (h : ∀ r w', Seg w' e size r (n + m) (xs ++ news) → w.grownBy w' v.ownBlock → (∀ b, r.ownBlock = some b → v.ownBlock = some b ∨ w.heap.size ≤ b) → K (a.put o.dst r) w') :
    if Region.wanted o (yielded ops a.tmps) = true then Oper.wp P o a w K Q else E := by
  have hw : Region.wanted o (yielded ops a.tmps) = true := by simp [Region.wanted, hgd]
  rw [if_pos hw]
  exact wp_append_every w s x t ho e i z size bytes ht hi hz hsize hby hzs hsz v n xs hs hown y m news hx hnew h1 h63 hbytes h

/-- s[k:] of a slice that lies somewhere; at its cap its address stays, and it is empty. -/
theorem Seg.rest {w : World} {e : TypeId} {size n g off c : Nat} {xs : List Value} (h : Seg w e size (.slice (some ⟨g, off, none⟩) n c) n xs) (k : Nat) (hk : k ≤ n) :
    Seg w e size (.slice (some (if c = k then ⟨g, off, none⟩ else ⟨g, off + k * size, none⟩)) (n - k) (c - k)) (n - k) (xs.drop (k * size)) := by
  by_cases hc : c = k
  · rw [if_pos hc]
    have hnc : n ≤ c := by
      obtain ⟨a, c', h1, h2, _⟩ := h.slice
      simp only [Value.slice.injEq] at h1
      omega
    have hn0 : n - k = 0 := by omega
    have hd : xs.drop (k * size) = [] := by
      refine List.drop_eq_nil_of_le ?_
      rw [h.1]
      exact Nat.mul_le_mul_right _ (by omega)
    rw [hd, hn0]
    rcases h.2 with ⟨h1, _⟩ | ⟨g', off', cap, cur, h1, hg, hc1, hc2, hc3, hx⟩
    · cases h1
    · simp only [Value.slice.injEq, Option.some.injEq, Addr.mk.injEq, and_true, true_and] at h1
      obtain ⟨⟨rfl, rfl⟩, rfl⟩ := h1
      refine ⟨by simp, .inr ⟨g, off, c - k, cur, rfl, hg, Nat.zero_le _, by omega, ?_, by simp⟩⟩
      have : (c - k) * size ≤ c * size := Nat.mul_le_mul_right _ (by omega)
      omega
  · rw [if_neg hc]
    exact h.behind k hk
end
end Go.Proofs.YtdlkdgajoafkaaaGreatDoor
end

section
/- fault: closed facts on reflectlite's entries at this program's types, and the assertions of errors.As: targets **Fault and *Errno, errors of a *Fault and of an Errno. -/
namespace Go.Proofs.YtdlkdgajoafkaaaGreatDoor.flt
open Go Go.RowKit Go.Extern.Stop Go.Stop Go.Extern

/-- The handle of a type. -/
abbrev hd (t : Nat) : Value := .pointer (some ⟨5, t, none⟩)

theorem valueOfPPF (t : Addr) (w : World) : (ReflectliteValue.unpack (.iface 137 (.pointer (some t)))).run Tryz.prog w
    = .ok (.agg #[.pointer (some ⟨5, 137, none⟩), .pointer (some ⟨w.heap.size, 0, none⟩), .int .u64 150]) (w.alloc (.cells #[.pointer (some t)] 137)) := by kernel_rfl
theorem valueOfPErrno (t : Addr) (w : World) : (ReflectliteValue.unpack (.iface 85 (.pointer (some t)))).run Tryz.prog w
    = .ok (.agg #[.pointer (some ⟨5, 85, none⟩), .pointer (some ⟨w.heap.size, 0, none⟩), .int .u64 150]) (w.alloc (.cells #[.pointer (some t)] 85)) := by kernel_rfl
theorem valueOfPF (t : Addr) (w : World) : (ReflectliteValue.unpack (.iface 102 (.pointer (some t)))).run Tryz.prog w
    = .ok (.agg #[.pointer (some ⟨5, 102, none⟩), .pointer (some ⟨w.heap.size, 0, none⟩), .int .u64 150]) (w.alloc (.cells #[.pointer (some t)] 102)) := by kernel_rfl
theorem valueOfErrno (n : Int) (w : World) : (ReflectliteValue.unpack (.iface 50 (.int .i64 n))).run Tryz.prog w
    = .ok (.agg #[.pointer (some ⟨5, 50, none⟩), .pointer (some ⟨w.heap.size, 0, none⟩), .int .u64 130]) (w.alloc (.cells #[.int .i64 n] 50)) := by kernel_rfl

theorem typePPF (a : Addr) (w : World) : (ReflectliteValue.methodAny (ReflectliteValue.valueError "reflectlite.Value.Type" 0) (fun t _ _ _ => ReflectliteType.toType t) #[.agg #[.pointer (some ⟨5, 137, none⟩), .pointer (some a), .int .u64 150]]).run Tryz.prog w
    = .ok (.iface 140 (.agg #[.pointer (some ⟨5, 137, none⟩)])) w := by kernel_rfl
theorem typePErrno (a : Addr) (w : World) : (ReflectliteValue.methodAny (ReflectliteValue.valueError "reflectlite.Value.Type" 0) (fun t _ _ _ => ReflectliteType.toType t) #[.agg #[.pointer (some ⟨5, 85, none⟩), .pointer (some a), .int .u64 150]]).run Tryz.prog w
    = .ok (.iface 140 (.agg #[.pointer (some ⟨5, 85, none⟩)])) w := by kernel_rfl

theorem methodKind (x : Nat) (h : Value) (w : World) : (Go.method (x + 1) 140 (.agg #[h]) "Kind").run Tryz.prog w = .ok (117, h) w := by kernel_rfl
theorem methodElem (x : Nat) (h : Value) (w : World) : (Go.method (x + 1) 140 (.agg #[h]) "Elem").run Tryz.prog w = .ok (130, .agg #[h]) w := by kernel_rfl
theorem methodImpl (x : Nat) (h : Value) (w : World) : (Go.method (x + 1) 140 (.agg #[h]) "Implements").run Tryz.prog w = .ok (131, .agg #[h]) w := by kernel_rfl
theorem methodAssign (x : Nat) (h : Value) (w : World) : (Go.method (x + 1) 140 (.agg #[h]) "AssignableTo").run Tryz.prog w = .ok (128, .agg #[h]) w := by kernel_rfl
theorem methodUnwrap (x : Nat) (a : Addr) (w : World) : (Go.method (x + 1) 102 (.pointer (some a)) "Unwrap").run Tryz.prog w = .ok (122, .pointer (some a)) w := by kernel_rfl

theorem kindPPF (w : World) : ((ReflectliteType.abiMethod fun t => (fun a : Nat => Value.int IntKind.u8 (a : Int)) <$> Rtype.kind t) #[.pointer (some ⟨5, 137, none⟩)]).run Tryz.prog w = .ok (.int .u8 22) w := by kernel_rfl
theorem kindPErrno (w : World) : ((ReflectliteType.abiMethod fun t => (fun a : Nat => Value.int IntKind.u8 (a : Int)) <$> Rtype.kind t) #[.pointer (some ⟨5, 85, none⟩)]).run Tryz.prog w = .ok (.int .u8 22) w := by kernel_rfl
theorem kindPF (w : World) : ((ReflectliteType.abiMethod fun t => (fun a : Nat => Value.int IntKind.u8 (a : Int)) <$> Rtype.kind t) #[.pointer (some ⟨5, 102, none⟩)]).run Tryz.prog w = .ok (.int .u8 22) w := by kernel_rfl
theorem kindErrno (w : World) : ((ReflectliteType.abiMethod fun t => (fun a : Nat => Value.int IntKind.u8 (a : Int)) <$> Rtype.kind t) #[.pointer (some ⟨5, 50, none⟩)]).run Tryz.prog w = .ok (.int .u8 2) w := by kernel_rfl

theorem elemPPF (w : World) : (ReflectliteType.method ReflectliteType.elem #[.agg #[.pointer (some ⟨5, 137, none⟩)]]).run Tryz.prog w = .ok (.iface 140 (.agg #[.pointer (some ⟨5, 102, none⟩)])) w := by kernel_rfl
theorem elemPErrno (w : World) : (ReflectliteType.method ReflectliteType.elem #[.agg #[.pointer (some ⟨5, 85, none⟩)]]).run Tryz.prog w = .ok (.iface 140 (.agg #[.pointer (some ⟨5, 50, none⟩)])) w := by kernel_rfl
theorem implPF (w : World) : (ReflectliteType.relation "Implements" ReflectliteType.implements_ #[.agg #[.pointer (some ⟨5, 102, none⟩)], .iface 140 (.agg #[.pointer (some ⟨5, 37, none⟩)])]).run Tryz.prog w = .ok (.bool true) w := by kernel_rfl
theorem implErrno (w : World) : (ReflectliteType.relation "Implements" ReflectliteType.implements_ #[.agg #[.pointer (some ⟨5, 50, none⟩)], .iface 140 (.agg #[.pointer (some ⟨5, 37, none⟩)])]).run Tryz.prog w = .ok (.bool true) w := by kernel_rfl
theorem typeOfPF (v : Value) (w : World) : (ReflectliteType.typeOf #[.iface 102 v]).run Tryz.prog w = .ok (.iface 140 (.agg #[.pointer (some ⟨5, 102, none⟩)])) w := by kernel_rfl
theorem typeOfErrno (v : Value) (w : World) : (ReflectliteType.typeOf #[.iface 50 v]).run Tryz.prog w = .ok (.iface 140 (.agg #[.pointer (some ⟨5, 50, none⟩)])) w := by kernel_rfl
theorem assignPFPF (w : World) : (ReflectliteType.relation "AssignableTo" ReflectliteType.assignableTo #[.agg #[.pointer (some ⟨5, 102, none⟩)], .iface 140 (.agg #[.pointer (some ⟨5, 102, none⟩)])]).run Tryz.prog w = .ok (.bool true) w := by kernel_rfl
theorem assignEE (w : World) : (ReflectliteType.relation "AssignableTo" ReflectliteType.assignableTo #[.agg #[.pointer (some ⟨5, 50, none⟩)], .iface 140 (.agg #[.pointer (some ⟨5, 50, none⟩)])]).run Tryz.prog w = .ok (.bool true) w := by kernel_rfl
theorem assignEPF (w : World) : (ReflectliteType.relation "AssignableTo" ReflectliteType.assignableTo #[.agg #[.pointer (some ⟨5, 50, none⟩)], .iface 140 (.agg #[.pointer (some ⟨5, 102, none⟩)])]).run Tryz.prog w = .ok (.bool false) w := by kernel_rfl
theorem assignPFE (w : World) : (ReflectliteType.relation "AssignableTo" ReflectliteType.assignableTo #[.agg #[.pointer (some ⟨5, 102, none⟩)], .iface 140 (.agg #[.pointer (some ⟨5, 50, none⟩)])]).run Tryz.prog w = .ok (.bool false) w := by kernel_rfl

theorem rlm (z : Sem Value) (f : TypeId → Addr → Nat → Nat → Sem Value) (v : Value) :
    ReflectliteValue.method z f #[v] = (do match ← ReflectliteValue.parts v with | none => z | some (t, a, fl) => f t a fl (fl % 32)) := rfl
theorem partsPPF (a : Addr) (w : World) : (ReflectliteValue.parts (.agg #[.pointer (some ⟨5, 137, none⟩), .pointer (some a), .int .u64 150])).run Tryz.prog w = .ok (some (137, a, 150)) w := by kernel_rfl
theorem partsPErrno (a : Addr) (w : World) : (ReflectliteValue.parts (.agg #[.pointer (some ⟨5, 85, none⟩), .pointer (some a), .int .u64 150])).run Tryz.prog w = .ok (some (85, a, 150)) w := by kernel_rfl
theorem isNilPPF (a p : Addr) (W : World) (ha : W.cell? a = some (.pointer (some p))) :
    (ReflectliteValue.method (ReflectliteValue.valueError "reflectlite.Value.IsNil" 0) ReflectliteValue.isNil #[.agg #[.pointer (some ⟨5, 137, none⟩), .pointer (some a), .int .u64 150]]).run Tryz.prog W = .ok (.bool false) W := by
  rw [rlm]
  simp only [Sem.run_bind, partsPPF, Result.andThen]
  simp [ReflectliteValue.isNil, loadVar, isAgg, underlying, Tryz.underlying137, ha, Result.andThen]
theorem isNilPErrno (a p : Addr) (W : World) (ha : W.cell? a = some (.pointer (some p))) :
    (ReflectliteValue.method (ReflectliteValue.valueError "reflectlite.Value.IsNil" 0) ReflectliteValue.isNil #[.agg #[.pointer (some ⟨5, 85, none⟩), .pointer (some a), .int .u64 150]]).run Tryz.prog W = .ok (.bool false) W := by
  rw [rlm]
  simp only [Sem.run_bind, partsPErrno, Result.andThen]
  simp [ReflectliteValue.isNil, loadVar, isAgg, underlying, Tryz.underlying85, ha, Result.andThen]
theorem elemOfPPF (w : World) : (Rtype.elem? 137).run Tryz.prog w = .ok (some 102) w := by kernel_rfl
theorem elemOfPErrno (w : World) : (Rtype.elem? 85).run Tryz.prog w = .ok (some 50) w := by kernel_rfl
theorem mkPF (p : Addr) (w : World) : (ReflectliteValue.mk 102 p ReflectliteValue.flagAddr).run Tryz.prog w = .ok (.agg #[.pointer (some ⟨5, 102, none⟩), .pointer (some p), .int .u64 406]) w := by kernel_rfl
theorem mkErrno (p : Addr) (w : World) : (ReflectliteValue.mk 50 p ReflectliteValue.flagAddr).run Tryz.prog w = .ok (.agg #[.pointer (some ⟨5, 50, none⟩), .pointer (some p), .int .u64 386]) w := by kernel_rfl
theorem elemVPPF (a p : Addr) (W : World) (ha : W.cell? a = some (.pointer (some p))) :
    (ReflectliteValue.method (ReflectliteValue.valueError "reflectlite.Value.Elem" 0) ReflectliteValue.elem #[.agg #[.pointer (some ⟨5, 137, none⟩), .pointer (some a), .int .u64 150]]).run Tryz.prog W
      = .ok (.agg #[.pointer (some ⟨5, 102, none⟩), .pointer (some p), .int .u64 406]) W := by
  rw [rlm]
  simp only [Sem.run_bind, partsPPF, Result.andThen]
  simp [ReflectliteValue.elem, loadVar, isAgg, underlying, Tryz.underlying137, ha, Result.andThen, elemOfPPF, mkPF]
theorem elemVPErrno (a p : Addr) (W : World) (ha : W.cell? a = some (.pointer (some p))) :
    (ReflectliteValue.method (ReflectliteValue.valueError "reflectlite.Value.Elem" 0) ReflectliteValue.elem #[.agg #[.pointer (some ⟨5, 85, none⟩), .pointer (some a), .int .u64 150]]).run Tryz.prog W
      = .ok (.agg #[.pointer (some ⟨5, 50, none⟩), .pointer (some p), .int .u64 386]) W := by
  rw [rlm]
  simp only [Sem.run_bind, partsPErrno, Result.andThen]
  simp [ReflectliteValue.elem, loadVar, isAgg, underlying, Tryz.underlying85, ha, Result.andThen, elemOfPErrno, mkErrno]
theorem rls (v x : Value) : ReflectliteValue.set #[v, x] = (do
    let (some (dst, a, fl), some (src, b, _)) := (← ReflectliteValue.parts v, ← ReflectliteValue.parts x)
      | unsupported (.noEntry "extern/(internal/reflectlite.Value).Set.zeroValue")
    if fl / ReflectliteValue.flagAddr % 2 == 0 then unsupported (.noEntry "extern/(internal/reflectlite.Value).Set.unaddressable")
    let val ← loadVar src b
    if ← Rtype.directlyAssignable dst src then storeVar dst a val
    else if ← Rtype.implements dst src then
      if (← Rtype.kind src) == 20 then
        match val with
        | .nilIface => unsupported (.noEntry "extern/reflectlite: a nil value of one interface type handed on as a value of another")
        | _ => storeVar dst a val
      else storeVar dst a (.iface src val)
    else panicString ("reflectlite.Set: value of type " ++ (← Rtype.spelt src) ++ " is not assignable to type " ++ (← Rtype.spelt dst))
    pure (.tuple #[])) := rfl
theorem partsPFa (a : Addr) (w : World) : (ReflectliteValue.parts (.agg #[.pointer (some ⟨5, 102, none⟩), .pointer (some a), .int .u64 406])).run Tryz.prog w = .ok (some (102, a, 406)) w := by kernel_rfl
theorem partsPF (a : Addr) (w : World) : (ReflectliteValue.parts (.agg #[.pointer (some ⟨5, 102, none⟩), .pointer (some a), .int .u64 150])).run Tryz.prog w = .ok (some (102, a, 150)) w := by kernel_rfl
theorem directPF (w : World) : (Rtype.directlyAssignable 102 102).run Tryz.prog w = .ok true w := by kernel_rfl
theorem partsEa (a : Addr) (w : World) : (ReflectliteValue.parts (.agg #[.pointer (some ⟨5, 50, none⟩), .pointer (some a), .int .u64 386])).run Tryz.prog w = .ok (some (50, a, 386)) w := by kernel_rfl
theorem partsE (a : Addr) (w : World) : (ReflectliteValue.parts (.agg #[.pointer (some ⟨5, 50, none⟩), .pointer (some a), .int .u64 130])).run Tryz.prog w = .ok (some (50, a, 130)) w := by kernel_rfl
theorem directE (w : World) : (Rtype.directlyAssignable 50 50).run Tryz.prog w = .ok true w := by kernel_rfl
theorem setPF (ta b e : Addr) (old : Value) (W : World) (hb : W.cell? b = some (.pointer (some e))) (ht : W.cell? ta = some old) (hf : W.frozen? ta = false) :
    (ReflectliteValue.set #[.agg #[.pointer (some ⟨5, 102, none⟩), .pointer (some ta), .int .u64 406], .agg #[.pointer (some ⟨5, 102, none⟩), .pointer (some b), .int .u64 150]]).run Tryz.prog W
      = .ok (.tuple #[]) (W.setCell ta (.pointer (some e))) := by
  rw [rls]
  simp only [Sem.run_bind, partsPFa, partsPF, Result.andThen]
  simp [ReflectliteValue.flagAddr, loadVar, isAgg, underlying, Tryz.underlying102, hb, Result.andThen, directPF, storeVar, Value.cells, storeCells, Addr.add]
  rw [run_store Tryz.prog W ta _ _ (by rfl)]
  simp [ht, hf]
theorem setE (ta b : Addr) (n : Int) (old : Value) (W : World) (hb : W.cell? b = some (.int .i64 n)) (ht : W.cell? ta = some old) (hf : W.frozen? ta = false) :
    (ReflectliteValue.set #[.agg #[.pointer (some ⟨5, 50, none⟩), .pointer (some ta), .int .u64 386], .agg #[.pointer (some ⟨5, 50, none⟩), .pointer (some b), .int .u64 130]]).run Tryz.prog W
      = .ok (.tuple #[]) (W.setCell ta (.int .i64 n)) := by
  rw [rls]
  simp only [Sem.run_bind, partsEa, partsE, Result.andThen]
  simp [ReflectliteValue.flagAddr, loadVar, isAgg, underlying, Tryz.underlying50, hb, Result.andThen, directE, storeVar, Value.cells, storeCells, Addr.add]
  rw [run_store Tryz.prog W ta _ _ (by rfl)]
  simp [ht, hf]

/-- What may be asserted of the two makes of errors. -/
theorem noAsPF (v : Value) (xT : TypeId) (w : World) : (Instr.typeAssert (.iface 102 v) xT 145 true).run Tryz.prog w = .ok (.tuple #[.nilIface, .bool false]) w := run_typeAssert_lacksB Tryz.underlying145 (by kernel_rfl) (by kernel_rfl) v xT w
theorem noAsE (v : Value) (xT : TypeId) (w : World) : (Instr.typeAssert (.iface 50 v) xT 145 true).run Tryz.prog w = .ok (.tuple #[.nilIface, .bool false]) w := run_typeAssert_lacksB Tryz.underlying145 (by kernel_rfl) (by kernel_rfl) v xT w
theorem unPF (v : Value) (xT : TypeId) (w : World) : (Instr.typeAssert (.iface 102 v) xT 148 true).run Tryz.prog w = .ok (.tuple #[.iface 102 v, .bool true]) w := run_typeAssert_hasB Tryz.underlying148 (by kernel_rfl) v xT w
theorem noUnE (v : Value) (xT : TypeId) (w : World) : (Instr.typeAssert (.iface 50 v) xT 148 true).run Tryz.prog w = .ok (.tuple #[.nilIface, .bool false]) w := run_typeAssert_lacksB Tryz.underlying148 (by kernel_rfl) (by kernel_rfl) v xT w
theorem noUnsE (v : Value) (xT : TypeId) (w : World) : (Instr.typeAssert (.iface 50 v) xT 150 true).run Tryz.prog w = .ok (.tuple #[.nilIface, .bool false]) w := run_typeAssert_lacksB Tryz.underlying150 (by kernel_rfl) (by kernel_rfl) v xT w
end Go.Proofs.YtdlkdgajoafkaaaGreatDoor.flt
end

section
/- fault: errors.As by its contracts: the target a *Fault variable (the outermost fault), or an Errno variable (the number behind all steps). -/
namespace Go.Proofs.YtdlkdgajoafkaaaGreatDoor.flt
open Go Go.RowKit Go.Extern.Stop Go.Stop Go.Extern

/-- A step of an error: its block, its name, its place. -/
structure Sp where
  b : Nat
  s : ByteArray
  a : Int

/-- An error as a value: steps around a number, from outside in. -/
def ev : List Sp → Int → Value
  | [], n => .iface 50 (.int .i64 n)
  | x :: _, _ => .iface 102 (.pointer (some ⟨x.b, 0, none⟩))

/-- The blocks of an error's steps, all below B. -/
def Er (B : Nat) (w : World) : List Sp → Int → Prop
  | [], _ => True
  | x :: r, n => (Has w x.b 104 #[.string x.s, .int .i64 x.a, ev r n] ∧ x.b < B) ∧ Er B w r n

theorem Er.below {B C : Nat} {w w' : World} {n : Int} : ∀ {L : List Sp}, Er B w L n → Below C w w' → B ≤ C → Er B w' L n
  | [], _, _, _ => trivial
  | _ :: _, h, b, hC => ⟨⟨h.1.1.below b (by have := h.1.2; omega), h.1.2⟩, Er.below h.2 b hC⟩
theorem Er.more {B C : Nat} {w : World} {n : Int} (hC : B ≤ C) : ∀ {L : List Sp}, Er B w L n → Er C w L n
  | [], _ => trivial
  | _ :: _, h => ⟨⟨h.1.1, by have := h.1.2; omega⟩, Er.more hC h.2⟩

theorem unwrap_calls (x : Sp) (r : List Sp) (n : Int) (w : World) (h : Has w x.b 104 #[.string x.s, .int .i64 x.a, ev r n]) :
    Calls Tryz.prog 122 #[.pointer (some ⟨x.b, 0, none⟩)] w fun en w' => en = .returned (ev r n) ∧ w = w' := by
  have c2 : w.cell? ⟨x.b, 2, none⟩ = some (ev r n) := (h.cell 2).trans rfl
  generalize ev r n = v at *
  go_enter Tryz.func122, Tryz.ntmps122
  go_wp2
  go_ret
  exact ⟨rfl, rfl⟩

set_option maxHeartbeats 1000000 in
theorem as_miss (n : Int) (tgt : Value) (a : Addr) (w : World) :
    Calls Tryz.prog 58 #[.iface 50 (.int .i64 n), tgt, .agg #[.pointer (some ⟨5, 137, none⟩), .pointer (some a), .int .u64 150], .iface 140 (.agg #[.pointer (some ⟨5, 102, none⟩)])] w
      fun en w' => en = .returned (.bool false) ∧ w' = w.alloc (.cells #[.pointer (some ⟨5, 137, none⟩), .pointer (some a), .int .u64 150] 116) := by
  have h10 := @run_callFunc_extern Tryz.prog 75 _ ReflectliteType.typeOf Tryz.func75 (by kernel_rfl) (by kernel_rfl) (by kernel_rfl) (by kernel_rfl)
  have h35 := @run_callFunc_extern Tryz.prog 128 _ (ReflectliteType.relation "AssignableTo" ReflectliteType.assignableTo) Tryz.func128 (by kernel_rfl) (by kernel_rfl) (by kernel_rfl) (by kernel_rfl)
  have tO := typeOfErrno
  have mA := methodAssign
  have a1 := assignEPF
  have n1 := noAsE
  have n2 := noUnE
  have n3 := noUnsE
  go_enter Tryz.func58, Tryz.ntmps58
  go_wp2
  refine wp_loop_rounds 1 ?_
  rw [rounds_succ]
  go_wp2
  go_ret
  exact ⟨rfl, rfl⟩

set_option maxHeartbeats 2000000 in
theorem as_hit (e ta a : Addr) (tgt old : Value) (w : World) (h1 : w.cell? a = some (.pointer (some ta))) (h2 : w.cell? ta = some old) (h3 : w.frozen? ta = false) (ha : a.block < w.heap.size) (ht : ta.block < w.heap.size) :
    Calls Tryz.prog 58 #[.iface 102 (.pointer (some e)), tgt, .agg #[.pointer (some ⟨5, 137, none⟩), .pointer (some a), .int .u64 150], .iface 140 (.agg #[.pointer (some ⟨5, 102, none⟩)])] w
      fun en w' => en = .returned (.bool true) ∧ w' = ((w.alloc (.cells #[.pointer (some ⟨5, 137, none⟩), .pointer (some a), .int .u64 150] 116)).alloc (.cells #[.pointer (some e)] 102)).setCell ta (.pointer (some e)) := by
  have h6 := @run_callFunc_extern Tryz.prog 55 _ (fun args => ReflectliteValue.unpack (args.getD 0 (.tuple #[]))) Tryz.func55 (by kernel_rfl) (by kernel_rfl) (by kernel_rfl) (by kernel_rfl)
  have h10 := @run_callFunc_extern Tryz.prog 75 _ ReflectliteType.typeOf Tryz.func75 (by kernel_rfl) (by kernel_rfl) (by kernel_rfl) (by kernel_rfl)
  have h35 := @run_callFunc_extern Tryz.prog 128 _ (ReflectliteType.relation "AssignableTo" ReflectliteType.assignableTo) Tryz.func128 (by kernel_rfl) (by kernel_rfl) (by kernel_rfl) (by kernel_rfl)
  have h11 := @run_callFunc_extern Tryz.prog 76 _ (ReflectliteValue.method (ReflectliteValue.valueError "reflectlite.Value.Elem" 0) ReflectliteValue.elem) Tryz.func76 (by kernel_rfl) (by kernel_rfl) (by kernel_rfl) (by kernel_rfl)
  have h12 := @run_callFunc_extern Tryz.prog 77 _ ReflectliteValue.set Tryz.func77 (by kernel_rfl) (by kernel_rfl) (by kernel_rfl) (by kernel_rfl)
  have tO := typeOfPF
  have mA := methodAssign
  have a1 := assignPFPF
  have v1 := valueOfPF
  have el := elemVPPF a ta (w.alloc (.cells #[.pointer (some ⟨5, 137, none⟩), .pointer (some a), .int .u64 150] 116)) (by rw [World.cell?_alloc_lt _ _ a ha]; exact h1)
  have st := setPF ta ⟨w.heap.size + 1, 0, none⟩ e old ((w.alloc (.cells #[.pointer (some ⟨5, 137, none⟩), .pointer (some a), .int .u64 150] 116)).alloc (.cells #[.pointer (some e)] 102))
    (by rw [World.cell?_alloc_at _ _ _ _ (by simp)]; rfl)
    (by rw [World.cell?_alloc_lt _ _ ta (by simp; omega), World.cell?_alloc_lt _ _ ta ht]; exact h2)
    (by rw [World.frozen?_alloc_old _ _ ta (by simp; omega), World.frozen?_alloc_old _ _ ta (Nat.ne_of_lt ht)]; exact h3)
  go_enter Tryz.func58, Tryz.ntmps58
  go_wp2
  refine wp_loop_rounds 1 ?_
  rw [rounds_succ]
  go_wp2
  go_ret
  exact ⟨rfl, rfl⟩

set_option maxHeartbeats 2000000 in
theorem as_num (B : Nat) (L : List Sp) (n : Int) (ta a : Addr) (tgt old : Value) (w : World) (hE : Er B w L n) (hB : B ≤ w.heap.size) (h1 : w.cell? a = some (.pointer (some ta))) (h2 : w.cell? ta = some old) (h3 : w.frozen? ta = false) (ha : a.block < w.heap.size) (ht : ta.block < w.heap.size) :
    Calls Tryz.prog 58 #[ev L n, tgt, .agg #[.pointer (some ⟨5, 85, none⟩), .pointer (some a), .int .u64 150], .iface 140 (.agg #[.pointer (some ⟨5, 50, none⟩)])] w
      fun en w' => en = .returned (.bool true) ∧ w' = ((w.alloc (.cells #[.pointer (some ⟨5, 85, none⟩), .pointer (some a), .int .u64 150] 116)).alloc (.cells #[.int .i64 n] 50)).setCell ta (.int .i64 n) := by
  have h6 := @run_callFunc_extern Tryz.prog 55 _ (fun args => ReflectliteValue.unpack (args.getD 0 (.tuple #[]))) Tryz.func55 (by kernel_rfl) (by kernel_rfl) (by kernel_rfl) (by kernel_rfl)
  have h10 := @run_callFunc_extern Tryz.prog 75 _ ReflectliteType.typeOf Tryz.func75 (by kernel_rfl) (by kernel_rfl) (by kernel_rfl) (by kernel_rfl)
  have h35 := @run_callFunc_extern Tryz.prog 128 _ (ReflectliteType.relation "AssignableTo" ReflectliteType.assignableTo) Tryz.func128 (by kernel_rfl) (by kernel_rfl) (by kernel_rfl) (by kernel_rfl)
  have h11 := @run_callFunc_extern Tryz.prog 76 _ (ReflectliteValue.method (ReflectliteValue.valueError "reflectlite.Value.Elem" 0) ReflectliteValue.elem) Tryz.func76 (by kernel_rfl) (by kernel_rfl) (by kernel_rfl) (by kernel_rfl)
  have h12 := @run_callFunc_extern Tryz.prog 77 _ ReflectliteValue.set Tryz.func77 (by kernel_rfl) (by kernel_rfl) (by kernel_rfl) (by kernel_rfl)
  have mA := methodAssign
  have mU := methodUnwrap
  have t1 := typeOfPF
  have t2 := typeOfErrno
  have a1 := assignPFE
  have a2 := assignEE
  have v1 := valueOfErrno
  have n1 := noAsE
  have n4 := noAsPF
  have n5 := unPF
  have el := elemVPErrno a ta (w.alloc (.cells #[.pointer (some ⟨5, 85, none⟩), .pointer (some a), .int .u64 150] 116)) (by rw [World.cell?_alloc_lt _ _ a ha]; exact h1)
  have st := setE ta ⟨w.heap.size + 1, 0, none⟩ n old ((w.alloc (.cells #[.pointer (some ⟨5, 85, none⟩), .pointer (some a), .int .u64 150] 116)).alloc (.cells #[.int .i64 n] 50))
    (by rw [World.cell?_alloc_at _ _ _ _ (by simp)]; rfl)
    (by rw [World.cell?_alloc_lt _ _ ta (by simp; omega), World.cell?_alloc_lt _ _ ta ht]; exact h2)
    (by rw [World.frozen?_alloc_old _ _ ta (by simp; omega), World.frozen?_alloc_old _ _ ta (Nat.ne_of_lt ht)]; exact h3)
  have hE' : Er B (w.alloc (.cells #[.pointer (some ⟨5, 85, none⟩), .pointer (some a), .int .u64 150] 116)) L n := hE.below ((Below.refl B w).alloc hB _) (Nat.le_refl B)
  clear hE h1 h2 h3
  go_enter Tryz.func58, Tryz.ntmps58
  go_wp2
  go_name_world W hW
  rw [hW] at el st hE'
  have hz : W.heap.size = w.heap.size + 1 := by rw [← hW]; simp
  have v2 : ∀ n, (ReflectliteValue.unpack (.iface 50 (.int .i64 n))).run Tryz.prog W = .ok (.agg #[.pointer (some ⟨5, 50, none⟩), .pointer (some ⟨w.heap.size + 1, 0, none⟩), .int .u64 130]) (W.alloc (.cells #[.int .i64 n] 50)) := fun n => by rw [← hz]; exact v1 n W
  have c6 : ∀ i, W.cell? ⟨w.heap.size, i, none⟩ = #[hd 85, Value.pointer (some a), Value.int .u64 150][i]? := fun i => by rw [← hW]; exact (Has.made w 116 _).cell i
  have k0 := c6 0
  have k1 := c6 1
  have k2 := c6 2
  clear c6
  simp at k0 k1 k2
  replace hW := Lib.hid hW
  clear v1
  go_loopg [0] L.length (fun k v wr => ∃ L' : List Sp, v = ev L' n ∧ L'.length = k ∧ wr = W ∧ Hid (Er B W L' n))
  case atStart => exact ⟨L, rfl, rfl, rfl, Lib.hid hE'⟩
  case round =>
    obtain ⟨L', rfl, hk, rfl, hE2⟩ := hrel
    cases L' with
    | nil =>
      unfold ev
      go_wp2
      go_ret
      exact ⟨rfl, by rw [hW.out]⟩
    | cons x r =>
      have hh := Lib.hid hE2.out.1.1
      have hr := Lib.hid hE2.out.2
      clear hE2 el st v2 t2 a2
      rw [show ev (x :: r) n = .iface 102 (.pointer (some ⟨x.b, 0, none⟩)) from rfl]
      cases r with
      | nil =>
        have hh2 : Has wr x.b 104 #[.string x.s, .int .i64 x.a, .iface 50 (.int .i64 n)] := hh.out
        replace hh2 := Lib.hid hh2
        clear hh
        go_wp2_with ((go_at_call 122); refine (unwrap_calls x [] n _ hh2.out).mono ?_; rintro en w1 ⟨rfl, rfl⟩; rw [show ev [] n = .iface 50 (.int .i64 n) from rfl])
        go_roundg 0
        case measure => rw [← hk]; simp
        case rel => exact ⟨[], rfl, rfl, rfl, hr⟩
      | cons y r =>
        have hh2 : Has wr x.b 104 #[.string x.s, .int .i64 x.a, .iface 102 (.pointer (some ⟨y.b, 0, none⟩))] := hh.out
        replace hh2 := Lib.hid hh2
        clear hh
        go_wp2_with ((go_at_call 122); refine (unwrap_calls x (y :: r) n _ hh2.out).mono ?_; rintro en w1 ⟨rfl, rfl⟩; rw [show ev (y :: r) n = .iface 102 (.pointer (some ⟨y.b, 0, none⟩)) from rfl])
        go_roundg (r.length + 1)
        case measure => rw [← hk]; simp
        case rel => exact ⟨y :: r, rfl, rfl, rfl, hr⟩
end Go.Proofs.YtdlkdgajoafkaaaGreatDoor.flt
end

section
/- fault: errors.As, outermost, Of. -/
namespace Go.Proofs.YtdlkdgajoafkaaaGreatDoor.flt
open Go Go.RowKit Go.Extern.Stop Go.Stop Go.Extern

/-- errors.errorType's cell as it is laid; its block lies below B. -/
structure Et (B : Nat) (w : World) : Prop where
  cell : w.cell? ⟨0, 0, none⟩ = some (.iface 140 (.agg #[.pointer (some ⟨5, 37, none⟩)]))
  lo : 0 < B
  size : B ≤ w.heap.size
section
variable {B C : Nat} {w w' : World}
theorem Et.keep (h : Et B w) (s : w.heap.size ≤ w'.heap.size) (e : ∀ k, k < B → w'.heap[k]? = w.heap[k]?) : Et B w' :=
  ⟨by have := h.cell; unfold World.cell? at *; rw [e _ h.lo]; exact this, h.lo, Nat.le_trans h.size s⟩
theorem Et.below (h : Et B w) (b : Below C w w') (hC : B ≤ C) : Et B w' := h.keep b.size fun k hk => b.block k (by omega)
theorem Et.turn {F : Nat → Prop} (h : Et B w) (t : Turn F w w') (hF : ∀ k, F k → B ≤ k) : Et B w' :=
  h.keep t.size fun k hk => t.block k (by have := h.size; omega) (fun f => by have := hF k f; omega)
end

set_option maxHeartbeats 4000000 in
theorem As_hit (B : Nat) (e ta : Addr) (old : Value) (w : World) (hT : Et B w) (h2 : w.cell? ta = some old) (h3 : w.frozen? ta = false) (ht : ta.block < w.heap.size) :
    Calls Tryz.prog 37 #[.iface 102 (.pointer (some e)), .iface 137 (.pointer (some ta))] w fun en w' => en = .returned (.bool true) ∧
      w' = ((((w.alloc (.cells #[.pointer (some ta)] 137)).alloc (.cells #[.pointer (some ⟨5, 137, none⟩), .pointer (some ⟨w.heap.size, 0, none⟩), .int .u64 150] 116)).alloc (.cells #[.pointer (some ⟨5, 137, none⟩), .pointer (some ⟨w.heap.size, 0, none⟩), .int .u64 150] 116)).alloc (.cells #[.pointer (some e)] 102)).setCell ta (.pointer (some e)) := by
  have h6 := @run_callFunc_extern Tryz.prog 55 _ (fun args => ReflectliteValue.unpack (args.getD 0 (.tuple #[]))) Tryz.func55 (by kernel_rfl) (by kernel_rfl) (by kernel_rfl) (by kernel_rfl)
  have h7 := @run_callFunc_extern Tryz.prog 56 _ (ReflectliteValue.methodAny (ReflectliteValue.valueError "reflectlite.Value.Type" 0) (fun t _ _ _ => ReflectliteType.toType t)) Tryz.func56 (by kernel_rfl) (by kernel_rfl) (by kernel_rfl) (by kernel_rfl)
  have h8 := @run_callFunc_extern Tryz.prog 57 _ (ReflectliteValue.method (ReflectliteValue.valueError "reflectlite.Value.IsNil" 0) ReflectliteValue.isNil) Tryz.func57 (by kernel_rfl) (by kernel_rfl) (by kernel_rfl) (by kernel_rfl)
  have h27 := @run_callFunc_extern Tryz.prog 117 _ (ReflectliteType.abiMethod fun t => do pure (.int .u8 (← Rtype.kind t))) Tryz.func117 (by kernel_rfl) (by kernel_rfl) (by kernel_rfl) (by kernel_rfl)
  have h37 := @run_callFunc_extern Tryz.prog 130 _ (ReflectliteType.method ReflectliteType.elem) Tryz.func130 (by kernel_rfl) (by kernel_rfl) (by kernel_rfl) (by kernel_rfl)
  have h38 := @run_callFunc_extern Tryz.prog 131 _ (ReflectliteType.relation "Implements" ReflectliteType.implements_) Tryz.func131 (by kernel_rfl) (by kernel_rfl) (by kernel_rfl) (by kernel_rfl)
  have f6 := valueOfPPF
  have f7 := typePPF
  have mK := methodKind
  have mE := methodElem
  have mI := methodImpl
  have k27 := kindPPF
  have k25 := kindPF
  have e27 := elemPPF
  have i25 := implPF
  have lo := hT.lo
  have lt := hT.size
  have n8 := isNilPPF ⟨w.heap.size, 0, none⟩ ta ((w.alloc (.cells #[.pointer (some ta)] 137)).alloc (.cells #[.pointer (some ⟨5, 137, none⟩), .pointer (some ⟨w.heap.size, 0, none⟩), .int .u64 150] 116)) (by simp)
  have hg2 : ((w.alloc (.cells #[.pointer (some ta)] 137)).alloc (.cells #[.pointer (some ⟨5, 137, none⟩), .pointer (some ⟨w.heap.size, 0, none⟩), .int .u64 150] 116)).cell? ⟨0, 0, none⟩ = some (.iface 140 (.agg #[.pointer (some ⟨5, 37, none⟩)])) := by
    rw [World.cell?_alloc_lt _ _ ⟨0, 0, none⟩ (by simp), World.cell?_alloc_lt _ _ ⟨0, 0, none⟩ (by show 0 < w.heap.size; omega)]; exact hT.cell
  have q1 : ((w.alloc (.cells #[.pointer (some ta)] 137)).alloc (.cells #[.pointer (some ⟨5, 137, none⟩), .pointer (some ⟨w.heap.size, 0, none⟩), .int .u64 150] 116)).cell? ⟨w.heap.size, 0, none⟩ = some (.pointer (some ta)) := by simp
  have q2 : ((w.alloc (.cells #[.pointer (some ta)] 137)).alloc (.cells #[.pointer (some ⟨5, 137, none⟩), .pointer (some ⟨w.heap.size, 0, none⟩), .int .u64 150] 116)).cell? ta = some old := by
    rw [World.cell?_alloc_lt _ _ ta (by simp; omega), World.cell?_alloc_lt _ _ ta ht]; exact h2
  have q3 : ((w.alloc (.cells #[.pointer (some ta)] 137)).alloc (.cells #[.pointer (some ⟨5, 137, none⟩), .pointer (some ⟨w.heap.size, 0, none⟩), .int .u64 150] 116)).frozen? ta = false := by
    rw [World.frozen?_alloc_old _ _ ta (by simp; omega), World.frozen?_alloc_old _ _ ta (Nat.ne_of_lt ht)]; exact h3
  go_enter Tryz.func37, Tryz.ntmps37
  go_wp2_with (go_at_call 58; refine (as_hit e ta ⟨w.heap.size, 0, none⟩ _ old _ q1 q2 q3 (by simp; omega) (by simp; omega)).mono ?_; rintro en w1 ⟨rfl, rfl⟩)
  go_ret
  exact ⟨rfl, rfl⟩
set_option maxHeartbeats 4000000 in
theorem As_miss (B : Nat) (n : Int) (ta : Addr) (w : World) (hT : Et B w) :
    Calls Tryz.prog 37 #[.iface 50 (.int .i64 n), .iface 137 (.pointer (some ta))] w fun en w' => en = .returned (.bool false) ∧
      w' = (((w.alloc (.cells #[.pointer (some ta)] 137)).alloc (.cells #[.pointer (some ⟨5, 137, none⟩), .pointer (some ⟨w.heap.size, 0, none⟩), .int .u64 150] 116)).alloc (.cells #[.pointer (some ⟨5, 137, none⟩), .pointer (some ⟨w.heap.size, 0, none⟩), .int .u64 150] 116)) := by
  have h6 := @run_callFunc_extern Tryz.prog 55 _ (fun args => ReflectliteValue.unpack (args.getD 0 (.tuple #[]))) Tryz.func55 (by kernel_rfl) (by kernel_rfl) (by kernel_rfl) (by kernel_rfl)
  have h7 := @run_callFunc_extern Tryz.prog 56 _ (ReflectliteValue.methodAny (ReflectliteValue.valueError "reflectlite.Value.Type" 0) (fun t _ _ _ => ReflectliteType.toType t)) Tryz.func56 (by kernel_rfl) (by kernel_rfl) (by kernel_rfl) (by kernel_rfl)
  have h8 := @run_callFunc_extern Tryz.prog 57 _ (ReflectliteValue.method (ReflectliteValue.valueError "reflectlite.Value.IsNil" 0) ReflectliteValue.isNil) Tryz.func57 (by kernel_rfl) (by kernel_rfl) (by kernel_rfl) (by kernel_rfl)
  have h27 := @run_callFunc_extern Tryz.prog 117 _ (ReflectliteType.abiMethod fun t => do pure (.int .u8 (← Rtype.kind t))) Tryz.func117 (by kernel_rfl) (by kernel_rfl) (by kernel_rfl) (by kernel_rfl)
  have h37 := @run_callFunc_extern Tryz.prog 130 _ (ReflectliteType.method ReflectliteType.elem) Tryz.func130 (by kernel_rfl) (by kernel_rfl) (by kernel_rfl) (by kernel_rfl)
  have h38 := @run_callFunc_extern Tryz.prog 131 _ (ReflectliteType.relation "Implements" ReflectliteType.implements_) Tryz.func131 (by kernel_rfl) (by kernel_rfl) (by kernel_rfl) (by kernel_rfl)
  have f6 := valueOfPPF
  have f7 := typePPF
  have mK := methodKind
  have mE := methodElem
  have mI := methodImpl
  have k27 := kindPPF
  have k25 := kindPF
  have e27 := elemPPF
  have i25 := implPF
  have lo := hT.lo
  have lt := hT.size
  have n8 := isNilPPF ⟨w.heap.size, 0, none⟩ ta ((w.alloc (.cells #[.pointer (some ta)] 137)).alloc (.cells #[.pointer (some ⟨5, 137, none⟩), .pointer (some ⟨w.heap.size, 0, none⟩), .int .u64 150] 116)) (by simp)
  have hg2 : ((w.alloc (.cells #[.pointer (some ta)] 137)).alloc (.cells #[.pointer (some ⟨5, 137, none⟩), .pointer (some ⟨w.heap.size, 0, none⟩), .int .u64 150] 116)).cell? ⟨0, 0, none⟩ = some (.iface 140 (.agg #[.pointer (some ⟨5, 37, none⟩)])) := by
    rw [World.cell?_alloc_lt _ _ ⟨0, 0, none⟩ (by simp), World.cell?_alloc_lt _ _ ⟨0, 0, none⟩ (by show 0 < w.heap.size; omega)]; exact hT.cell
  go_enter Tryz.func37, Tryz.ntmps37
  go_wp2_with (go_at_call 58; refine (as_miss n _ ⟨w.heap.size, 0, none⟩ _).mono ?_; rintro en w1 ⟨rfl, rfl⟩)
  go_ret
  exact ⟨rfl, rfl⟩
set_option maxHeartbeats 4000000 in
theorem As_num (B : Nat) (L : List Sp) (n : Int) (ta : Addr) (old : Value) (w : World) (hT : Et B w) (hE : Er B w L n) (h2 : w.cell? ta = some old) (h3 : w.frozen? ta = false) (ht : ta.block < w.heap.size) :
    Calls Tryz.prog 37 #[ev L n, .iface 85 (.pointer (some ta))] w fun en w' => en = .returned (.bool true) ∧
      w' = ((((w.alloc (.cells #[.pointer (some ta)] 85)).alloc (.cells #[.pointer (some ⟨5, 85, none⟩), .pointer (some ⟨w.heap.size, 0, none⟩), .int .u64 150] 116)).alloc (.cells #[.pointer (some ⟨5, 85, none⟩), .pointer (some ⟨w.heap.size, 0, none⟩), .int .u64 150] 116)).alloc (.cells #[.int .i64 n] 50)).setCell ta (.int .i64 n) := by
  have h6 := @run_callFunc_extern Tryz.prog 55 _ (fun args => ReflectliteValue.unpack (args.getD 0 (.tuple #[]))) Tryz.func55 (by kernel_rfl) (by kernel_rfl) (by kernel_rfl) (by kernel_rfl)
  have h7 := @run_callFunc_extern Tryz.prog 56 _ (ReflectliteValue.methodAny (ReflectliteValue.valueError "reflectlite.Value.Type" 0) (fun t _ _ _ => ReflectliteType.toType t)) Tryz.func56 (by kernel_rfl) (by kernel_rfl) (by kernel_rfl) (by kernel_rfl)
  have h8 := @run_callFunc_extern Tryz.prog 57 _ (ReflectliteValue.method (ReflectliteValue.valueError "reflectlite.Value.IsNil" 0) ReflectliteValue.isNil) Tryz.func57 (by kernel_rfl) (by kernel_rfl) (by kernel_rfl) (by kernel_rfl)
  have h27 := @run_callFunc_extern Tryz.prog 117 _ (ReflectliteType.abiMethod fun t => do pure (.int .u8 (← Rtype.kind t))) Tryz.func117 (by kernel_rfl) (by kernel_rfl) (by kernel_rfl) (by kernel_rfl)
  have h37 := @run_callFunc_extern Tryz.prog 130 _ (ReflectliteType.method ReflectliteType.elem) Tryz.func130 (by kernel_rfl) (by kernel_rfl) (by kernel_rfl) (by kernel_rfl)
  have h38 := @run_callFunc_extern Tryz.prog 131 _ (ReflectliteType.relation "Implements" ReflectliteType.implements_) Tryz.func131 (by kernel_rfl) (by kernel_rfl) (by kernel_rfl) (by kernel_rfl)
  have f6 := valueOfPErrno
  have f7 := typePErrno
  have mK := methodKind
  have mE := methodElem
  have mI := methodImpl
  have k27 := kindPErrno
  have k25 := kindErrno
  have e27 := elemPErrno
  have i25 := implErrno
  have lo := hT.lo
  have lt := hT.size
  have n8 := isNilPErrno ⟨w.heap.size, 0, none⟩ ta ((w.alloc (.cells #[.pointer (some ta)] 85)).alloc (.cells #[.pointer (some ⟨5, 85, none⟩), .pointer (some ⟨w.heap.size, 0, none⟩), .int .u64 150] 116)) (by simp)
  have hg2 : ((w.alloc (.cells #[.pointer (some ta)] 85)).alloc (.cells #[.pointer (some ⟨5, 85, none⟩), .pointer (some ⟨w.heap.size, 0, none⟩), .int .u64 150] 116)).cell? ⟨0, 0, none⟩ = some (.iface 140 (.agg #[.pointer (some ⟨5, 37, none⟩)])) := by
    rw [World.cell?_alloc_lt _ _ ⟨0, 0, none⟩ (by simp), World.cell?_alloc_lt _ _ ⟨0, 0, none⟩ (by show 0 < w.heap.size; omega)]; exact hT.cell
  have q1 : ((w.alloc (.cells #[.pointer (some ta)] 85)).alloc (.cells #[.pointer (some ⟨5, 85, none⟩), .pointer (some ⟨w.heap.size, 0, none⟩), .int .u64 150] 116)).cell? ⟨w.heap.size, 0, none⟩ = some (.pointer (some ta)) := by simp
  have q2 : ((w.alloc (.cells #[.pointer (some ta)] 85)).alloc (.cells #[.pointer (some ⟨5, 85, none⟩), .pointer (some ⟨w.heap.size, 0, none⟩), .int .u64 150] 116)).cell? ta = some old := by
    rw [World.cell?_alloc_lt _ _ ta (by simp; omega), World.cell?_alloc_lt _ _ ta ht]; exact h2
  have q3 : ((w.alloc (.cells #[.pointer (some ta)] 85)).alloc (.cells #[.pointer (some ⟨5, 85, none⟩), .pointer (some ⟨w.heap.size, 0, none⟩), .int .u64 150] 116)).frozen? ta = false := by
    rw [World.frozen?_alloc_old _ _ ta (by simp; omega), World.frozen?_alloc_old _ _ ta (Nat.ne_of_lt ht)]; exact h3
  have hE2 := Lib.hid (hE.below (((Below.refl B w).alloc lt (.cells #[.pointer (some ta)] 85)).alloc (by simp; omega) (.cells #[.pointer (some ⟨5, 85, none⟩), .pointer (some ⟨w.heap.size, 0, none⟩), .int .u64 150] 116)) (Nat.le_refl B))
  clear hE
  cases L with
  | nil =>
    rw [show ev [] n = .iface 50 (.int .i64 n) from rfl]
    go_enter Tryz.func37, Tryz.ntmps37
    go_wp2_with (go_at_call 58; refine (as_num B [] n ta ⟨w.heap.size, 0, none⟩ _ old _ hE2.out (by simp; omega) q1 q2 q3 (by simp; omega) (by simp; omega)).mono ?_; rintro en w1 ⟨rfl, rfl⟩)
    go_ret
    exact ⟨rfl, rfl⟩
  | cons x r =>
    rw [show ev (x :: r) n = .iface 102 (.pointer (some ⟨x.b, 0, none⟩)) from rfl]
    go_enter Tryz.func37, Tryz.ntmps37
    go_wp2_with (go_at_call 58; refine (as_num B (x :: r) n ta ⟨w.heap.size, 0, none⟩ _ old _ hE2.out (by simp; omega) q1 q2 q3 (by simp; omega) (by simp; omega)).mono ?_; rintro en w1 ⟨rfl, rfl⟩)
    go_ret
    exact ⟨rfl, rfl⟩
theorem cell_put_var (w : World) (v u : Value) (t : TypeId) (o1 o2 o3 o4 : Obj) : ((((((w.alloc (.cells #[v] t)).alloc o1).alloc o2).alloc o3).alloc o4).setCell ⟨w.heap.size, 0, none⟩ u).cell? ⟨w.heap.size, 0, none⟩ = some u := by
  have h : Has (((((w.alloc (.cells #[v] t)).alloc o1).alloc o2).alloc o3).alloc o4) w.heap.size t #[v] := ((((Has.made w t #[v]).alloc o1).alloc o2).alloc o3).alloc o4
  exact ((h.put 0 u).cell 0).trans rfl

/-- The first fault of an error; nil: there is none. -/
def top : List Sp → Value
  | [] => .pointer none
  | x :: _ => .pointer (some ⟨x.b, 0, none⟩)

set_option maxHeartbeats 1000000 in
theorem outermost_calls (B : Nat) (L : List Sp) (n : Int) (w : World) (hT : Et B w) : Calls Tryz.prog 51 #[ev L n] w fun en w' => en = .returned (top L) ∧ Below w.heap.size w w' := by
  have lt : w.heap.size ≤ w.heap.size := Nat.le_refl _
  have b1 : Below w.heap.size w (w.alloc (.cells #[.pointer none] 102)) := (Below.refl w.heap.size w).alloc lt _
  have hT1 := Lib.hid (hT.below b1 hT.size)
  cases L with
  | nil =>
    rw [show ev [] n = .iface 50 (.int .i64 n) from rfl]
    go_enter Tryz.func51, Tryz.ntmps51
    go_wp2_with (go_at_call 37; refine (As_miss B n ⟨w.heap.size, 0, none⟩ _ hT1.out).mono ?_; rintro en w1 ⟨rfl, rfl⟩)
    go_ret
    exact ⟨rfl, ((b1.alloc (by simp) _).alloc (by simp; omega) _).alloc (by simp; omega) _⟩
  | cons x r =>
    rw [show ev (x :: r) n = .iface 102 (.pointer (some ⟨x.b, 0, none⟩)) from rfl]
    have key : ∀ w1 : World, w1 = ((((((w.alloc (.cells #[.pointer none] 102)).alloc (.cells #[.pointer (some ⟨w.heap.size, 0, none⟩)] 137)).alloc (.cells #[.pointer (some ⟨5, 137, none⟩), .pointer (some ⟨(w.alloc (.cells #[.pointer none] 102)).heap.size, 0, none⟩), .int .u64 150] 116)).alloc (.cells #[.pointer (some ⟨5, 137, none⟩), .pointer (some ⟨(w.alloc (.cells #[.pointer none] 102)).heap.size, 0, none⟩), .int .u64 150] 116)).alloc (.cells #[.pointer (some ⟨x.b, 0, none⟩)] 102))).setCell ⟨w.heap.size, 0, none⟩ (.pointer (some ⟨x.b, 0, none⟩)) →
        Below w.heap.size w w1 ∧ w1.cell? ⟨w.heap.size, 0, none⟩ = some (.pointer (some ⟨x.b, 0, none⟩)) := fun w1 hw => by
      rw [hw]
      exact ⟨((((b1.alloc (by simp) _).alloc (by simp; omega) _).alloc (by simp; omega) _).alloc (by simp; omega) _).setCell (by simp) _, cell_put_var w _ _ _ _ _ _ _⟩
    go_enter Tryz.func51, Tryz.ntmps51
    go_wp2_with (go_at_call 37; refine (As_hit B ⟨x.b, 0, none⟩ ⟨w.heap.size, 0, none⟩ (.pointer none) _ hT1.out (by simp) (by simp) (by simp)).mono ?_; rintro en w1 ⟨rfl, hw⟩; obtain ⟨b2, c0⟩ := key _ hw; clear hw key)
    go_ret
    exact ⟨rfl, b2⟩

set_option maxHeartbeats 1000000 in
theorem of_calls (B : Nat) (L : List Sp) (n : Int) (w : World) (hT : Et B w) (hE : Er B w L n) : Calls Tryz.prog 17 #[ev L n] w fun en w' => en = .returned (.int .i64 n) ∧ Below w.heap.size w w' := by
  have lt : w.heap.size ≤ w.heap.size := Nat.le_refl _
  have b1 : Below w.heap.size w (w.alloc (.cells #[.int .i64 0] 50)) := (Below.refl w.heap.size w).alloc lt _
  have hT1 := Lib.hid (hT.below b1 hT.size)
  have hE1 := Lib.hid (hE.below b1 hT.size)
  clear hE
  have key : ∀ w1 : World, w1 = ((((((w.alloc (.cells #[.int .i64 0] 50)).alloc (.cells #[.pointer (some ⟨w.heap.size, 0, none⟩)] 85)).alloc (.cells #[.pointer (some ⟨5, 85, none⟩), .pointer (some ⟨(w.alloc (.cells #[.int .i64 0] 50)).heap.size, 0, none⟩), .int .u64 150] 116)).alloc (.cells #[.pointer (some ⟨5, 85, none⟩), .pointer (some ⟨(w.alloc (.cells #[.int .i64 0] 50)).heap.size, 0, none⟩), .int .u64 150] 116)).alloc (.cells #[.int .i64 n] 50))).setCell ⟨w.heap.size, 0, none⟩ (.int .i64 n) →
      Below w.heap.size w w1 ∧ w1.cell? ⟨w.heap.size, 0, none⟩ = some (.int .i64 n) := fun w1 hw => by
    rw [hw]
    exact ⟨((((b1.alloc (by simp) _).alloc (by simp; omega) _).alloc (by simp; omega) _).alloc (by simp; omega) _).setCell (by simp) _, cell_put_var w _ _ _ _ _ _ _⟩
  cases L with
  | nil =>
    rw [show ev [] n = .iface 50 (.int .i64 n) from rfl]
    go_enter Tryz.func17, Tryz.ntmps17
    go_wp2_with (go_at_call 37; refine (As_num B [] n ⟨w.heap.size, 0, none⟩ (.int .i64 0) _ hT1.out hE1.out (by simp) (by simp) (by simp)).mono ?_; rintro en w1 ⟨rfl, hw⟩; obtain ⟨b2, c0⟩ := key _ hw; clear hw key)
    go_ret
    exact ⟨rfl, b2⟩
  | cons x r =>
    rw [show ev (x :: r) n = .iface 102 (.pointer (some ⟨x.b, 0, none⟩)) from rfl]
    go_enter Tryz.func17, Tryz.ntmps17
    go_wp2_with (go_at_call 37; refine (As_num B (x :: r) n ⟨w.heap.size, 0, none⟩ (.int .i64 0) _ hT1.out hE1.out (by simp) (by simp) (by simp)).mono ?_; rintro en w1 ⟨rfl, hw⟩; obtain ⟨b2, c0⟩ := key _ hw; clear hw key)
    go_ret
    exact ⟨rfl, b2⟩
end Go.Proofs.YtdlkdgajoafkaaaGreatDoor.flt
end

section
/- fault: In, Where. -/
namespace Go.Proofs.YtdlkdgajoafkaaaGreatDoor.flt
open Go Go.RowKit Go.Extern.Stop Go.Stop Go.Extern

theorem eqE (n m : Int) (w : World) : (binOp .eql 37 (.iface 50 (.int .i64 n)) (.iface 50 (.int .i64 m))).run Tryz.prog w = .ok (.bool (n == m)) w := by kernel_rfl

theorem in_calls (L : List Sp) (n : Int) (s : ByteArray) (a : Int) (w : World) (hn : n ≠ 0) : Calls Tryz.prog 32 #[.string s, .int .i64 a, ev L n] w
    fun en w' => en = .returned (ev (⟨w.heap.size, s, a⟩ :: L) n) ∧ w' = w.alloc (.cells #[.string s, .int .i64 a, ev L n] 104) := by
  cases L with
  | nil =>
    rw [show ev [] n = .iface 50 (.int .i64 n) from rfl]
    have hne := fun w => eqE n 0 w
    have h0 : (n == 0) = false := by simpa using hn
    rw [h0] at hne
    clear hn h0
    go_enter Tryz.func32, Tryz.ntmps32
    go_wp2
    go_ret
    exact ⟨rfl, rfl⟩
  | cons x r =>
    rw [show ev (x :: r) n = .iface 102 (.pointer (some ⟨x.b, 0, none⟩)) from rfl]
    have hne := fun w => run_eql_iface_types (P := Tryz.prog) 102 50 (.pointer (some ⟨x.b, 0, none⟩)) (.int .i64 0) Tryz.underlying37 (by decide) w
    go_enter Tryz.func32, Tryz.ntmps32
    go_wp2
    go_ret
    exact ⟨rfl, rfl⟩
theorem in_ok (s : ByteArray) (a : Int) (w : World) : Calls Tryz.prog 32 #[.string s, .int .i64 a, .iface 50 (.int .i64 0)] w fun en w' => en = .returned .nilIface ∧ w = w' := by
  have hne : ∀ w, (binOp .eql 37 (.iface 50 (.int .i64 0)) (.iface 50 (.int .i64 0))).run Tryz.prog w = .ok (.bool true) w := fun w => eqE 0 0 w
  go_enter Tryz.func32, Tryz.ntmps32
  go_wp2
  go_ret
  exact ⟨rfl, rfl⟩
theorem in_nil (s : ByteArray) (a : Int) (w : World) : Calls Tryz.prog 32 #[.string s, .int .i64 a, .nilIface] w fun en w' => en = .returned .nilIface ∧ w = w' := by
  go_enter Tryz.func32, Tryz.ntmps32
  go_wp2
  go_ret
  exact ⟨rfl, rfl⟩

def intOf : Value → Int
  | .int _ x => x
  | _ => 0

theorem strInfo : ∃ i z, Tryz.prog.info? 9 = some i ∧ i.zero = some z ∧ i.size = 1 ∧ z.cells.size = 1 ∧ i.bytes = 16 := by
  have h2 : (Tryz.prog.info? 9).map (fun i => (i.zero.map (fun z => z.cells.size), i.size, i.bytes)) = some (some 1, 1, 16) := by kernel_rfl
  obtain ⟨i, hi, e⟩ := Option.map_eq_some_iff.1 h2
  simp only [Prod.mk.injEq] at e
  obtain ⟨e1, e2, e3⟩ := e
  obtain ⟨z, hz, e4⟩ := Option.map_eq_some_iff.1 e1
  exact ⟨i, z, hi, hz, e2, e4, e3⟩

/-- The names of an error's steps, as values. -/
def names (L : List Sp) : List Value := L.map fun x => .string x.s
/-- The place of the innermost step; -1: there is none. -/
def place (L : List Sp) : Int := match L.getLast? with | some x => x.a | none => -1
theorem place_snoc (L : List Sp) (x : Sp) : place (L ++ [x]) = x.a := by unfold place; simp

theorem names_snoc (L : List Sp) (x : Sp) : names (L ++ [x]) = names L ++ [.string x.s] := by unfold names; simp
theorem below_own {B : Nat} {w w' : World} {v : Value} (h : w.grownBy w' v.ownBlock) (hv : ∀ x, v.ownBlock = some x → B ≤ x) (hB : B ≤ w.heap.size) : Below B w w' :=
  ⟨h.os, h.tape, h.output, h.size, fun i hi => h.block i (by omega) (fun e => by have := hv i e.symm; omega)⟩

theorem below_less {B C : Nat} {w w' : World} (h : Below C w w') (hB : B ≤ C) : Below B w w' := ⟨h.os, h.tape, h.output, h.size, fun i hi => h.block i (by omega)⟩

/-- Steps were answered, in new memory, and a place. -/
def WherePost (w : World) (B : Nat) (L : List Sp) (en : Ending) (w' : World) : Prop :=
  ∃ v, en = .returned (.tuple #[v, .int .i64 (place L)]) ∧ Seg w' 9 1 v L.length (names L) ∧ (∀ x, v.ownBlock = some x → B ≤ x) ∧ Below B w w'

theorem Er.tail {B : Nat} {w : World} {n : Int} : ∀ {l r : List Sp}, Er B w (l ++ r) n → Er B w r n
  | [], _, h => h
  | _ :: _, _, h => Er.tail h.2

set_option maxRecDepth 100000 in
set_option maxHeartbeats 2000000 in
theorem where_calls (B : Nat) (L : List Sp) (n : Int) (w : World) (hT : Et B w) (hE : Er B w L n) (hl : L.length ≤ 1000000) :
    Calls Tryz.prog 34 #[ev L n] w (WherePost w B L) := by
  obtain ⟨z0i, z0, hi0, hz0, hz1, hz2, hz3⟩ := strInfo
  have HI0 := Lib.hid hi0
  have HZ0 := Lib.hid hz0
  have HT := Lib.hid hT
  have HE := Lib.hid hE
  have HB : Hid (B ≤ w.heap.size) := Lib.hid hT.size
  clear hi0 hz0 hT hE
  go_enter Tryz.func34, Tryz.ntmps34
  go_wp2_with (first
    | (go_at_call 51; refine (outermost_calls B L n _ HT.out).mono ?_; rintro en w1 ⟨rfl, b1⟩)
    | fail)
  have HB1 := Lib.hid (below_less b1 HB.out)
  clear b1
  go_loopg [4, 5, 6] L.length (fun k v a p wr => ∃ done rest : List Sp, rest.length = k ∧ a = .int .i64 (place done) ∧ p = top rest ∧ Hid (done ++ rest = L) ∧ Hid (Seg wr 9 1 v done.length (names done) ∧ (∀ x, v.ownBlock = some x → B ≤ x) ∧ Below B w wr))
  case atStart => exact ⟨[], L, rfl, rfl, rfl, Lib.hid rfl, Lib.hid ⟨Seg.nil _ _ _, (fun x (hx : (Value.slice none 0 0).ownBlock = some x) => by cases hx), HB1.out⟩⟩
  case round =>
    obtain ⟨done, rest, hk, rfl, rfl, HA, HS⟩ := hrel
    cases rest with
    | nil =>
      rw [show top [] = .pointer none from rfl]
      go_wp2_with fail
      go_ret2
      have e : done = L := by have := HA.out; rw [List.append_nil] at this; exact this
      rw [← e]
      exact ⟨_, rfl, HS.out⟩
    | cons x r =>
      rw [show top (x :: r) = .pointer (some ⟨x.b, 0, none⟩) from rfl]
      have hcell := Lib.hid (Er.below (B := B) (C := B) (L := L) HE.out HS.out.2.2 (Nat.le_refl B))
      rw [← HA.out] at hcell
      have hx : Er B wr (x :: r) n := Er.tail hcell.out
      have c0 : wr.cell? ⟨x.b, 0, none⟩ = some (.string x.s) := (hx.1.1.cell 0).trans rfl
      have hh := Lib.hid hx.1
      have hr := Lib.hid hx.2
      clear hx hcell
      have hlen : done.length + (r.length + 1) ≤ 1000000 := by
        have := congrArg List.length HA.out
        rw [List.length_append, List.length_cons] at this
        omega
      go_wp2_with (first
        | ((with_reducible refine at_op 22 ?_); refine wpList_append_seg (o := ⟨some 22, _, _, _, _, _⟩) _ rfl (.tmp 16) (.tmp 21) 26 rfl 9 z0i z0 1 16 Tryz.underlying26 HI0.out HZ0.out hz1 hz3 hz2 (by decide) u4 done.length (names done) rfl (HS.out.1.alloc _) ⟨wr.heap.size, 0, none⟩ 1 1 [.string x.s] rfl rfl (World.news_of_block (heap_alloc_new _ _)) (by simp [Value.oneCell']) (by decide) (by unfold maxLen; omega) (by omega) _ rfl ?_;
           intro g off cp w4 hown hgrow hat hlt;
           have B4 : Hid (Below B wr w4) := Lib.hid (((Below.refl B wr).alloc (Nat.le_trans HB.out HS.out.2.2.size) _).trans (below_own hgrow HS.out.2.1 (Nat.le_trans (Nat.le_trans HB.out HS.out.2.2.size) (by simp))));
           have BW : Hid (Below B w w4) := Lib.hid (HS.out.2.2.trans B4.out);
           have HT4 := Lib.hid (HT.out.below BW.out (Nat.le_refl B));
           have c1 : w4.cell? ⟨x.b, 1, none⟩ = some (.int .i64 x.a) := ((hh.out.1.below B4.out hh.out.2).cell 1).trans rfl;
           have c2 : w4.cell? ⟨x.b, 2, none⟩ = some (ev r n) := ((hh.out.1.below B4.out hh.out.2).cell 2).trans rfl;
           have OW := Lib.hid hown;
           have AT : Hid (∀ y, some g = some y → B ≤ y) := Lib.hid (fun y hy => by
             injection hy with hy
             subst hy
             rcases hat with h | h
             · exact HS.out.2.1 _ h
             · rw [h]; exact Nat.le_trans (Nat.le_trans HB.out HS.out.2.2.size) (by simp));
           clear hown hgrow hat hlt c0 hh)
        | (go_at_call 51; refine (outermost_calls B r n _ HT4.out).mono ?_; rintro en w5 ⟨rfl, b5⟩)
        | fail)
      go_roundg r.length
      case measure => rw [← hk]; simp
      case rel =>
        refine ⟨done ++ [x], r, rfl, by rw [place_snoc], rfl, Lib.hid (by rw [← HA.out]; simp), Lib.hid ⟨?_, fun y hy => AT.out y hy, BW.out.trans (below_less b5 HT4.out.size)⟩⟩
        rw [List.length_append, names_snoc]
        exact Seg.below OW.out b5 (fun y hy => OW.out.lt hy)
end Go.Proofs.YtdlkdgajoafkaaaGreatDoor.flt
end

section
/- prune: what a vault is in memory. -/
namespace Go.Proofs.YtdlkdgajoafkaaaGreatDoor.prn
open Go Go.RowKit Go.Proofs.YtdlkdgajoafkaaaGreatDoor.dig

/-- What is kept of texts: those below the floor are blank, from one on. -/
def keptC (L : List ByteArray) (fl first : Nat) : List Value := List.replicate (fl - first) (Value.string ByteArray.empty) ++ (L.drop fl).map Value.string
theorem keptC_len {L : List ByteArray} {fl first : Nat} (h1 : first ≤ fl) (h2 : fl ≤ L.length) : (keptC L fl first).length = L.length - first := by
  unfold keptC
  rw [List.length_append, List.length_replicate, List.length_map, List.length_drop]
  omega
theorem keptC_at {L : List ByteArray} {fl first i : Nat} (_ : first ≤ fl) (h2 : fl ≤ i) {s : ByteArray} (hs : L[i]? = some s) : (keptC L fl first)[i - first]? = some (.string s) := by
  unfold keptC
  rw [List.getElem?_append_right (by rw [List.length_replicate]; omega), List.length_replicate, List.getElem?_map, List.getElem?_drop, show fl + (i - first - (fl - first)) = i by omega, hs]
  rfl
theorem keptC_one {L : List ByteArray} {fl first : Nat} : ∀ u ∈ keptC L fl first, u.oneCell' = true := by
  intro u hu
  unfold keptC at hu
  rcases List.mem_append.1 hu with h | h
  · rw [(List.mem_replicate.1 h).2]; rfl
  · obtain ⟨s, _, rfl⟩ := List.mem_map.1 h; rfl
theorem keptC_app {L M : List ByteArray} {fl first : Nat} (h2 : fl ≤ L.length) : keptC L fl first ++ M.map Value.string = keptC (L ++ M) fl first := by
  unfold keptC
  rw [List.append_assoc, List.drop_append_of_le_length h2, List.map_append]
theorem keptC_drop {L : List ByteArray} {fl first : Nat} : (keptC L fl first).drop (fl - first) = keptC L fl fl := by
  unfold keptC
  rw [List.drop_append_of_le_length (by rw [List.length_replicate]; exact Nat.le_refl _), List.drop_of_length_le (by rw [List.length_replicate]; exact Nat.le_refl _), Nat.sub_self]
  rfl
theorem keptC_take {L : List ByteArray} {fl n : Nat} (_ : fl ≤ n) : (keptC L fl fl).take (n - fl) = keptC (L.take n) fl fl := by
  unfold keptC
  rw [Nat.sub_self, List.replicate_zero, List.nil_append, List.nil_append, ← List.map_take, List.drop_take]
theorem keptC_same {L : List ByteArray} {fl : Nat} : keptC L fl fl = (L.drop fl).map Value.string := by
  unfold keptC
  rw [Nat.sub_self]
  rfl

/-- A vault's blocks: its own, its tree's (of T), that of its commands. -/
structure Vr (B : Nat) (F T : Nat → Prop) (w : World) (vb tb fl first : Nat) (L : List ByteArray) (cv : Value) : Prop where
  own : Has w vb 45 #[.pointer (some ⟨tb, 0, none⟩), .int .i64 first, cv]
  tree : Tr B T w tb L.length fl (leafF L)
  seg : Seg w 9 1 cv (L.length - first) (keptC L fl first)
  first : first ≤ fl
  fv : F vb ∧ ¬ T vb
  ft : ∀ k, T k → F k
  fc : ∀ x, cv.ownBlock = some x → F x ∧ ¬ T x

/-- A vault of texts L, its floor fl. -/
structure Va (B : Nat) (F : Nat → Prop) (w : World) (vb : Nat) (L : List ByteArray) (fl : Nat) : Prop where
  raw : ∃ T tb first cv, Vr B F T w vb tb fl first L cv
  hF : ∀ k, F k → B ≤ k
  short : ∀ s ∈ L, s.size ≤ 1000000

section
variable {B : Nat} {F G T : Nat → Prop} {w w' : World} {vb tb fl first : Nat} {L : List ByteArray} {cv : Value}
theorem Vr.turn (h : Vr B F T w vb tb fl first L cv) (t : Turn G w w') (hG : ∀ k, F k → k < w.heap.size → ¬ G k) (hB : ∀ k, G k → B ≤ k) : Vr B F T w' vb tb fl first L cv :=
  ⟨h.own.turn t (hG _ h.fv.1 h.own.lt), h.tree.turn t (fun k hk => hG k (h.ft k hk)) hB, h.seg.turn t (fun x hx => hG x (h.fc x hx).1 (h.seg.lt hx)), h.first, h.fv, h.ft, h.fc⟩
theorem Va.turn (h : Va B F w vb L fl) (t : Turn G w w') (hG : ∀ k, F k → k < w.heap.size → ¬ G k) (hB : ∀ k, G k → B ≤ k) : Va B F w' vb L fl := by
  obtain ⟨T, tb, first, cv, r⟩ := h.raw
  exact ⟨⟨T, tb, first, cv, r.turn t hG hB⟩, h.hF, h.short⟩
theorem Va.rt (h : Va B F w vb L fl) : Rt B w := by
  obtain ⟨T, tb, first, cv, r⟩ := h.raw
  exact r.tree.rt
theorem Va.below (h : Va B F w vb L fl) (t : Below w.heap.size w w') : Va B F w' vb L fl :=
  h.turn (Turn.of_below (F := fun k => w.heap.size ≤ k) t (fun _ _ h => h)) (fun k _ h1 h2 => by omega) (fun k hk => Nat.le_trans h.rt.size hk)
theorem Va.drew (h : Va B F w vb L fl) : Va B F w.drew vb L fl := h.below (Below.refl _ _).drew
theorem Va.alloc (h : Va B F w vb L fl) (o : Obj) : Va B F (w.alloc o) vb L fl := h.below ((Below.refl _ _).alloc (Nat.le_refl _) o)
theorem Va.more (h : Va B F w vb L fl) (hG : ∀ k, k < w.heap.size → F k → G k) (hB : ∀ k, G k → B ≤ k) : Va B G w vb L fl := by
  obtain ⟨T, tb, first, cv, r⟩ := h.raw
  refine ⟨⟨fun k => T k ∧ k < w.heap.size, tb, first, cv, r.own, r.tree.more (fun k h1 h2 => ⟨h2, h1⟩) (fun k hk => r.tree.hF k hk.1), r.seg, r.first, ⟨hG _ r.own.lt r.fv.1, fun h => r.fv.2 h.1⟩, fun k hk => hG k hk.2 (r.ft k hk.1), fun x hx => ⟨hG x (r.seg.lt hx) (r.fc x hx).1, fun h => (r.fc x hx).2 h.1⟩⟩, hB, h.short⟩
theorem Va.tight (h : Va B F w vb L fl) : Va B (fun k => F k ∧ k < w.heap.size) w vb L fl := h.more (fun _ h1 h2 => ⟨h2, h1⟩) (fun k hk => h.hF k hk.1)
theorem Va.fresh (h : Va B F w vb L fl) (lo : Nat) (hF : ∀ k, F k → k < w.heap.size → lo ≤ k) (hB : B ≤ lo) : Va B (fun k => lo ≤ k ∧ k < w.heap.size) w vb L fl :=
  h.more (fun _ h1 h2 => ⟨hF _ h2 h1, h1⟩) (fun _ hk => Nat.le_trans hB hk.1)
theorem Va.lt (h : Va B F w vb L fl) : vb < w.heap.size := by
  obtain ⟨T, tb, first, cv, r⟩ := h.raw
  exact r.own.lt
theorem Va.floor_le (h : Va B F w vb L fl) : fl ≤ L.length := by
  obtain ⟨T, tb, first, cv, r⟩ := h.raw
  exact r.tree.floor
theorem Va.small (h : Va B F w vb L fl) : L.length ≤ 1000000 := by
  obtain ⟨T, tb, first, cv, r⟩ := h.raw
  exact r.tree.small
theorem Va.ownF (h : Va B F w vb L fl) : F vb := by
  obtain ⟨T, tb, first, cv, r⟩ := h.raw
  exact r.fv.1
end
end Go.Proofs.YtdlkdgajoafkaaaGreatDoor.prn
end

