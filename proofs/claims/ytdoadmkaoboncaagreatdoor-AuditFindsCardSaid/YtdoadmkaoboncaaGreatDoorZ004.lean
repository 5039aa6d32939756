/- Texts laid into one: FltA, FltB, FltC, FltD, FltG, PruGP, TreeQ, FltK, PruQ. -/
import Derived.Test.YtdoadmkaoboncaaGreatDoorBase
import Derived.LaidEql
import Derived.Stop.Asserts
import Derived.RowKitTokens
import Derived.Test.YtdoadmkaoboncaaGreatDoorFltBE
import Derived.Lib.ItoaWalk
import Derived.Test.YtdoadmkaoboncaaGreatDoorFltDJ
import Derived.Test.YtdoadmkaoboncaaGreatDoorFltDI
import Derived.Test.YtdoadmkaoboncaaGreatDoorRow
import Derived.Test.YtdoadmkaoboncaaGreatDoorReg
import Derived.Test.YtdoadmkaoboncaaGreatDoorOwn
import Derived.Shelf.Lay
import Derived.Shelf.Strings.Builder1
import Derived.Shelf.Strings.Builder2
import Derived.Shelf.Strings.OnBuilder
import Derived.Test.YtdoadmkaoboncaaGreatDoorZ000
import Derived.Test.YtdoadmkaoboncaaGreatDoorTreeA
import Derived.Test.YtdoadmkaoboncaaGreatDoorRows
import Derived.LaidMore
import Derived.ProofKit
import Derived.Stop.LaidErr
import Derived.LaidLaws
import Derived.LaidHandle
section
/- fault: closed facts on reflectlite's entries at this program's types, and the assertions of errors.As: targets **Fault and *Errno, errors of a *Fault and of an Errno. -/
namespace Go.Proofs.YtdoadmkaoboncaaGreatDoor.flt
open Go Go.RowKit Go.Extern.Stop Go.Stop Go.Extern

/-- The handle of a type. -/
abbrev hd (t : Nat) : Value := .pointer (some ⟨5, t, none⟩)

theorem valueOfPPF (t : Addr) (w : World) : (ReflectliteValue.unpack (.iface 165 (.pointer (some t)))).run Tryz.prog w
    = .ok (.agg #[.pointer (some ⟨5, 165, none⟩), .pointer (some ⟨w.heap.size, 0, none⟩), .int .u64 150]) (w.alloc (.cells #[.pointer (some t)] 165)) := by kernel_rfl
theorem valueOfPErrno (t : Addr) (w : World) : (ReflectliteValue.unpack (.iface 138 (.pointer (some t)))).run Tryz.prog w
    = .ok (.agg #[.pointer (some ⟨5, 138, none⟩), .pointer (some ⟨w.heap.size, 0, none⟩), .int .u64 150]) (w.alloc (.cells #[.pointer (some t)] 138)) := by kernel_rfl
theorem valueOfPF (t : Addr) (w : World) : (ReflectliteValue.unpack (.iface 125 (.pointer (some t)))).run Tryz.prog w
    = .ok (.agg #[.pointer (some ⟨5, 125, none⟩), .pointer (some ⟨w.heap.size, 0, none⟩), .int .u64 150]) (w.alloc (.cells #[.pointer (some t)] 125)) := by kernel_rfl
theorem valueOfErrno (n : Int) (w : World) : (ReflectliteValue.unpack (.iface 83 (.int .i64 n))).run Tryz.prog w
    = .ok (.agg #[.pointer (some ⟨5, 83, none⟩), .pointer (some ⟨w.heap.size, 0, none⟩), .int .u64 130]) (w.alloc (.cells #[.int .i64 n] 83)) := by kernel_rfl

theorem typePPF (a : Addr) (w : World) : (ReflectliteValue.methodAny (ReflectliteValue.valueError "reflectlite.Value.Type" 0) (fun t _ _ _ => ReflectliteType.toType t) #[.agg #[.pointer (some ⟨5, 165, none⟩), .pointer (some a), .int .u64 150]]).run Tryz.prog w
    = .ok (.iface 198 (.agg #[.pointer (some ⟨5, 165, none⟩)])) w := by kernel_rfl
theorem typePErrno (a : Addr) (w : World) : (ReflectliteValue.methodAny (ReflectliteValue.valueError "reflectlite.Value.Type" 0) (fun t _ _ _ => ReflectliteType.toType t) #[.agg #[.pointer (some ⟨5, 138, none⟩), .pointer (some a), .int .u64 150]]).run Tryz.prog w
    = .ok (.iface 198 (.agg #[.pointer (some ⟨5, 138, none⟩)])) w := by kernel_rfl

theorem methodKind (x : Nat) (h : Value) (w : World) : (Go.method (x + 1) 198 (.agg #[h]) "Kind").run Tryz.prog w = .ok (146, h) w := by kernel_rfl
theorem methodElem (x : Nat) (h : Value) (w : World) : (Go.method (x + 1) 198 (.agg #[h]) "Elem").run Tryz.prog w = .ok (159, .agg #[h]) w := by kernel_rfl
theorem methodImpl (x : Nat) (h : Value) (w : World) : (Go.method (x + 1) 198 (.agg #[h]) "Implements").run Tryz.prog w = .ok (160, .agg #[h]) w := by kernel_rfl
theorem methodAssign (x : Nat) (h : Value) (w : World) : (Go.method (x + 1) 198 (.agg #[h]) "AssignableTo").run Tryz.prog w = .ok (157, .agg #[h]) w := by kernel_rfl
theorem methodUnwrap (x : Nat) (a : Addr) (w : World) : (Go.method (x + 1) 125 (.pointer (some a)) "Unwrap").run Tryz.prog w = .ok (151, .pointer (some a)) w := by kernel_rfl

theorem kindPPF (w : World) : ((ReflectliteType.abiMethod fun t => (fun a : Nat => Value.int IntKind.u8 (a : Int)) <$> Rtype.kind t) #[.pointer (some ⟨5, 165, none⟩)]).run Tryz.prog w = .ok (.int .u8 22) w := by kernel_rfl
theorem kindPErrno (w : World) : ((ReflectliteType.abiMethod fun t => (fun a : Nat => Value.int IntKind.u8 (a : Int)) <$> Rtype.kind t) #[.pointer (some ⟨5, 138, none⟩)]).run Tryz.prog w = .ok (.int .u8 22) w := by kernel_rfl
theorem kindPF (w : World) : ((ReflectliteType.abiMethod fun t => (fun a : Nat => Value.int IntKind.u8 (a : Int)) <$> Rtype.kind t) #[.pointer (some ⟨5, 125, none⟩)]).run Tryz.prog w = .ok (.int .u8 22) w := by kernel_rfl
theorem kindErrno (w : World) : ((ReflectliteType.abiMethod fun t => (fun a : Nat => Value.int IntKind.u8 (a : Int)) <$> Rtype.kind t) #[.pointer (some ⟨5, 83, none⟩)]).run Tryz.prog w = .ok (.int .u8 2) w := by kernel_rfl

theorem elemPPF (w : World) : (ReflectliteType.method ReflectliteType.elem #[.agg #[.pointer (some ⟨5, 165, none⟩)]]).run Tryz.prog w = .ok (.iface 198 (.agg #[.pointer (some ⟨5, 125, none⟩)])) w := by kernel_rfl
theorem elemPErrno (w : World) : (ReflectliteType.method ReflectliteType.elem #[.agg #[.pointer (some ⟨5, 138, none⟩)]]).run Tryz.prog w = .ok (.iface 198 (.agg #[.pointer (some ⟨5, 83, none⟩)])) w := by kernel_rfl
theorem implPF (w : World) : (ReflectliteType.relation "Implements" ReflectliteType.implements_ #[.agg #[.pointer (some ⟨5, 125, none⟩)], .iface 198 (.agg #[.pointer (some ⟨5, 58, none⟩)])]).run Tryz.prog w = .ok (.bool true) w := by kernel_rfl
theorem implErrno (w : World) : (ReflectliteType.relation "Implements" ReflectliteType.implements_ #[.agg #[.pointer (some ⟨5, 83, none⟩)], .iface 198 (.agg #[.pointer (some ⟨5, 58, none⟩)])]).run Tryz.prog w = .ok (.bool true) w := by kernel_rfl
theorem typeOfPF (v : Value) (w : World) : (ReflectliteType.typeOf #[.iface 125 v]).run Tryz.prog w = .ok (.iface 198 (.agg #[.pointer (some ⟨5, 125, none⟩)])) w := by kernel_rfl
theorem typeOfErrno (v : Value) (w : World) : (ReflectliteType.typeOf #[.iface 83 v]).run Tryz.prog w = .ok (.iface 198 (.agg #[.pointer (some ⟨5, 83, none⟩)])) w := by kernel_rfl
theorem assignPFPF (w : World) : (ReflectliteType.relation "AssignableTo" ReflectliteType.assignableTo #[.agg #[.pointer (some ⟨5, 125, none⟩)], .iface 198 (.agg #[.pointer (some ⟨5, 125, none⟩)])]).run Tryz.prog w = .ok (.bool true) w := by kernel_rfl
theorem assignEE (w : World) : (ReflectliteType.relation "AssignableTo" ReflectliteType.assignableTo #[.agg #[.pointer (some ⟨5, 83, none⟩)], .iface 198 (.agg #[.pointer (some ⟨5, 83, none⟩)])]).run Tryz.prog w = .ok (.bool true) w := by kernel_rfl
theorem assignEPF (w : World) : (ReflectliteType.relation "AssignableTo" ReflectliteType.assignableTo #[.agg #[.pointer (some ⟨5, 83, none⟩)], .iface 198 (.agg #[.pointer (some ⟨5, 125, none⟩)])]).run Tryz.prog w = .ok (.bool false) w := by kernel_rfl
theorem assignPFE (w : World) : (ReflectliteType.relation "AssignableTo" ReflectliteType.assignableTo #[.agg #[.pointer (some ⟨5, 125, none⟩)], .iface 198 (.agg #[.pointer (some ⟨5, 83, none⟩)])]).run Tryz.prog w = .ok (.bool false) w := by kernel_rfl

theorem rlm (z : Sem Value) (f : TypeId → Addr → Nat → Nat → Sem Value) (v : Value) :
    ReflectliteValue.method z f #[v] = (do match ← ReflectliteValue.parts v with | none => z | some (t, a, fl) => f t a fl (fl % 32)) := rfl
theorem partsPPF (a : Addr) (w : World) : (ReflectliteValue.parts (.agg #[.pointer (some ⟨5, 165, none⟩), .pointer (some a), .int .u64 150])).run Tryz.prog w = .ok (some (165, a, 150)) w := by kernel_rfl
theorem partsPErrno (a : Addr) (w : World) : (ReflectliteValue.parts (.agg #[.pointer (some ⟨5, 138, none⟩), .pointer (some a), .int .u64 150])).run Tryz.prog w = .ok (some (138, a, 150)) w := by kernel_rfl
theorem isNilPPF (a p : Addr) (W : World) (ha : W.cell? a = some (.pointer (some p))) :
    (ReflectliteValue.method (ReflectliteValue.valueError "reflectlite.Value.IsNil" 0) ReflectliteValue.isNil #[.agg #[.pointer (some ⟨5, 165, none⟩), .pointer (some a), .int .u64 150]]).run Tryz.prog W = .ok (.bool false) W := by
  rw [rlm]
  simp only [Sem.run_bind, partsPPF, Result.andThen]
  simp [ReflectliteValue.isNil, loadVar, isAgg, underlying, Tryz.underlying165, ha, Result.andThen]
theorem isNilPErrno (a p : Addr) (W : World) (ha : W.cell? a = some (.pointer (some p))) :
    (ReflectliteValue.method (ReflectliteValue.valueError "reflectlite.Value.IsNil" 0) ReflectliteValue.isNil #[.agg #[.pointer (some ⟨5, 138, none⟩), .pointer (some a), .int .u64 150]]).run Tryz.prog W = .ok (.bool false) W := by
  rw [rlm]
  simp only [Sem.run_bind, partsPErrno, Result.andThen]
  simp [ReflectliteValue.isNil, loadVar, isAgg, underlying, Tryz.underlying138, ha, Result.andThen]
theorem elemOfPPF (w : World) : (Rtype.elem? 165).run Tryz.prog w = .ok (some 125) w := by kernel_rfl
theorem elemOfPErrno (w : World) : (Rtype.elem? 138).run Tryz.prog w = .ok (some 83) w := by kernel_rfl
theorem mkPF (p : Addr) (w : World) : (ReflectliteValue.mk 125 p ReflectliteValue.flagAddr).run Tryz.prog w = .ok (.agg #[.pointer (some ⟨5, 125, none⟩), .pointer (some p), .int .u64 406]) w := by kernel_rfl
theorem mkErrno (p : Addr) (w : World) : (ReflectliteValue.mk 83 p ReflectliteValue.flagAddr).run Tryz.prog w = .ok (.agg #[.pointer (some ⟨5, 83, none⟩), .pointer (some p), .int .u64 386]) w := by kernel_rfl
theorem elemVPPF (a p : Addr) (W : World) (ha : W.cell? a = some (.pointer (some p))) :
    (ReflectliteValue.method (ReflectliteValue.valueError "reflectlite.Value.Elem" 0) ReflectliteValue.elem #[.agg #[.pointer (some ⟨5, 165, none⟩), .pointer (some a), .int .u64 150]]).run Tryz.prog W
      = .ok (.agg #[.pointer (some ⟨5, 125, none⟩), .pointer (some p), .int .u64 406]) W := by
  rw [rlm]
  simp only [Sem.run_bind, partsPPF, Result.andThen]
  simp [ReflectliteValue.elem, loadVar, isAgg, underlying, Tryz.underlying165, ha, Result.andThen, elemOfPPF, mkPF]
theorem elemVPErrno (a p : Addr) (W : World) (ha : W.cell? a = some (.pointer (some p))) :
    (ReflectliteValue.method (ReflectliteValue.valueError "reflectlite.Value.Elem" 0) ReflectliteValue.elem #[.agg #[.pointer (some ⟨5, 138, none⟩), .pointer (some a), .int .u64 150]]).run Tryz.prog W
      = .ok (.agg #[.pointer (some ⟨5, 83, none⟩), .pointer (some p), .int .u64 386]) W := by
  rw [rlm]
  simp only [Sem.run_bind, partsPErrno, Result.andThen]
  simp [ReflectliteValue.elem, loadVar, isAgg, underlying, Tryz.underlying138, ha, Result.andThen, elemOfPErrno, mkErrno]
theorem rls (v x : Value) : ReflectliteValue.set #[v, x] = (do
    let (some (dst, a, fl), some (src, b, _)) := (← ReflectliteValue.parts v, ← ReflectliteValue.parts x)
      | unsupported (.noEntry "extern/(internal/reflectlite.Value).Set.zeroValue")
    if fl / ReflectliteValue.flagAddr % 2 == 0 then unsupported (.noEntry "extern/(internal/reflectlite.Value).Set.unaddressable")
    let val ← loadVar src b
    if ← Rtype.directlyAssignable dst src then storeVar dst a val
    else if ← Rtype.implements dst src then
      if (← Rtype.kind src) == 20 then
        match val with
        | .nilIface => unsupported (.noEntry "extern/reflectlite: a nil value of one interface type handed on as a value of another")
        | _ => storeVar dst a val
      else storeVar dst a (.iface src val)
    else panicString ("reflectlite.Set: value of type " ++ (← Rtype.spelt src) ++ " is not assignable to type " ++ (← Rtype.spelt dst))
    pure (.tuple #[])) := rfl
theorem partsPFa (a : Addr) (w : World) : (ReflectliteValue.parts (.agg #[.pointer (some ⟨5, 125, none⟩), .pointer (some a), .int .u64 406])).run Tryz.prog w = .ok (some (125, a, 406)) w := by kernel_rfl
theorem partsPF (a : Addr) (w : World) : (ReflectliteValue.parts (.agg #[.pointer (some ⟨5, 125, none⟩), .pointer (some a), .int .u64 150])).run Tryz.prog w = .ok (some (125, a, 150)) w := by kernel_rfl
theorem directPF (w : World) : (Rtype.directlyAssignable 125 125).run Tryz.prog w = .ok true w := by kernel_rfl
theorem partsEa (a : Addr) (w : World) : (ReflectliteValue.parts (.agg #[.pointer (some ⟨5, 83, none⟩), .pointer (some a), .int .u64 386])).run Tryz.prog w = .ok (some (83, a, 386)) w := by kernel_rfl
theorem partsE (a : Addr) (w : World) : (ReflectliteValue.parts (.agg #[.pointer (some ⟨5, 83, none⟩), .pointer (some a), .int .u64 130])).run Tryz.prog w = .ok (some (83, a, 130)) w := by kernel_rfl
theorem directE (w : World) : (Rtype.directlyAssignable 83 83).run Tryz.prog w = .ok true w := by kernel_rfl
theorem setPF (ta b e : Addr) (old : Value) (W : World) (hb : W.cell? b = some (.pointer (some e))) (ht : W.cell? ta = some old) (hf : W.frozen? ta = false) :
    (ReflectliteValue.set #[.agg #[.pointer (some ⟨5, 125, none⟩), .pointer (some ta), .int .u64 406], .agg #[.pointer (some ⟨5, 125, none⟩), .pointer (some b), .int .u64 150]]).run Tryz.prog W
      = .ok (.tuple #[]) (W.setCell ta (.pointer (some e))) := by
  rw [rls]
  simp only [Sem.run_bind, partsPFa, partsPF, Result.andThen]
  simp [ReflectliteValue.flagAddr, loadVar, isAgg, underlying, Tryz.underlying125, hb, Result.andThen, directPF, storeVar, Value.cells, storeCells, Addr.add]
  rw [run_store Tryz.prog W ta _ _ (by rfl)]
  simp [ht, hf]
theorem setE (ta b : Addr) (n : Int) (old : Value) (W : World) (hb : W.cell? b = some (.int .i64 n)) (ht : W.cell? ta = some old) (hf : W.frozen? ta = false) :
    (ReflectliteValue.set #[.agg #[.pointer (some ⟨5, 83, none⟩), .pointer (some ta), .int .u64 386], .agg #[.pointer (some ⟨5, 83, none⟩), .pointer (some b), .int .u64 130]]).run Tryz.prog W
      = .ok (.tuple #[]) (W.setCell ta (.int .i64 n)) := by
  rw [rls]
  simp only [Sem.run_bind, partsEa, partsE, Result.andThen]
  simp [ReflectliteValue.flagAddr, loadVar, isAgg, underlying, Tryz.underlying83, hb, Result.andThen, directE, storeVar, Value.cells, storeCells, Addr.add]
  rw [run_store Tryz.prog W ta _ _ (by rfl)]
  simp [ht, hf]

/-- What may be asserted of the two makes of errors. -/
theorem noAsPF (v : Value) (xT : TypeId) (w : World) : (Instr.typeAssert (.iface 125 v) xT 203 true).run Tryz.prog w = .ok (.tuple #[.nilIface, .bool false]) w := run_typeAssert_lacksB Tryz.underlying203 (by kernel_rfl) (by kernel_rfl) v xT w
theorem noAsE (v : Value) (xT : TypeId) (w : World) : (Instr.typeAssert (.iface 83 v) xT 203 true).run Tryz.prog w = .ok (.tuple #[.nilIface, .bool false]) w := run_typeAssert_lacksB Tryz.underlying203 (by kernel_rfl) (by kernel_rfl) v xT w
theorem unPF (v : Value) (xT : TypeId) (w : World) : (Instr.typeAssert (.iface 125 v) xT 206 true).run Tryz.prog w = .ok (.tuple #[.iface 125 v, .bool true]) w := run_typeAssert_hasB Tryz.underlying206 (by kernel_rfl) v xT w
theorem noUnE (v : Value) (xT : TypeId) (w : World) : (Instr.typeAssert (.iface 83 v) xT 206 true).run Tryz.prog w = .ok (.tuple #[.nilIface, .bool false]) w := run_typeAssert_lacksB Tryz.underlying206 (by kernel_rfl) (by kernel_rfl) v xT w
theorem noUnsE (v : Value) (xT : TypeId) (w : World) : (Instr.typeAssert (.iface 83 v) xT 208 true).run Tryz.prog w = .ok (.tuple #[.nilIface, .bool false]) w := run_typeAssert_lacksB Tryz.underlying208 (by kernel_rfl) (by kernel_rfl) v xT w
end Go.Proofs.YtdoadmkaoboncaaGreatDoor.flt
end

section
/- fault: errors.As by its contracts: the target a *Fault variable (the outermost fault), or an Errno variable (the number behind all steps). -/
namespace Go.Proofs.YtdoadmkaoboncaaGreatDoor.flt
open Go Go.RowKit Go.Extern.Stop Go.Stop Go.Extern

theorem unwrap_calls (x : Sp) (r : List Sp) (n : Int) (w : World) (h : Has w x.b 127 #[.string x.s, .int .i64 x.a, ev r n]) :
    Calls Tryz.prog 151 #[.pointer (some ⟨x.b, 0, none⟩)] w fun en w' => en = .returned (ev r n) ∧ w = w' := by
  have c2 : w.cell? ⟨x.b, 2, none⟩ = some (ev r n) := (h.cell 2).trans rfl
  generalize ev r n = v at *
  go_enter Tryz.func151, Tryz.ntmps151
  go_wp2
  go_ret
  exact ⟨rfl, rfl⟩

set_option maxHeartbeats 1000000 in
theorem as_miss (n : Int) (tgt : Value) (a : Addr) (w : World) :
    Calls Tryz.prog 103 #[.iface 83 (.int .i64 n), tgt, .agg #[.pointer (some ⟨5, 165, none⟩), .pointer (some a), .int .u64 150], .iface 198 (.agg #[.pointer (some ⟨5, 125, none⟩)])] w
      fun en w' => en = .returned (.bool false) ∧ w' = w.alloc (.cells #[.pointer (some ⟨5, 165, none⟩), .pointer (some a), .int .u64 150] 170) := by
  have h10 := @run_callFunc_extern Tryz.prog 121 _ ReflectliteType.typeOf Tryz.func121 (by kernel_rfl) (by kernel_rfl) (by kernel_rfl) (by kernel_rfl)
  have h35 := @run_callFunc_extern Tryz.prog 157 _ (ReflectliteType.relation "AssignableTo" ReflectliteType.assignableTo) Tryz.func157 (by kernel_rfl) (by kernel_rfl) (by kernel_rfl) (by kernel_rfl)
  have tO := typeOfErrno
  have mA := methodAssign
  have a1 := assignEPF
  have n1 := noAsE
  have n2 := noUnE
  have n3 := noUnsE
  go_enter Tryz.func103, Tryz.ntmps103
  go_wp2
  refine wp_loop_rounds 1 ?_
  rw [rounds_succ]
  go_wp2
  go_ret
  exact ⟨rfl, rfl⟩

set_option maxHeartbeats 2000000 in
theorem as_hit (e ta a : Addr) (tgt old : Value) (w : World) (h1 : w.cell? a = some (.pointer (some ta))) (h2 : w.cell? ta = some old) (h3 : w.frozen? ta = false) (ha : a.block < w.heap.size) (ht : ta.block < w.heap.size) :
    Calls Tryz.prog 103 #[.iface 125 (.pointer (some e)), tgt, .agg #[.pointer (some ⟨5, 165, none⟩), .pointer (some a), .int .u64 150], .iface 198 (.agg #[.pointer (some ⟨5, 125, none⟩)])] w
      fun en w' => en = .returned (.bool true) ∧ w' = ((w.alloc (.cells #[.pointer (some ⟨5, 165, none⟩), .pointer (some a), .int .u64 150] 170)).alloc (.cells #[.pointer (some e)] 125)).setCell ta (.pointer (some e)) := by
  have h6 := @run_callFunc_extern Tryz.prog 100 _ (fun args => ReflectliteValue.unpack (args.getD 0 (.tuple #[]))) Tryz.func100 (by kernel_rfl) (by kernel_rfl) (by kernel_rfl) (by kernel_rfl)
  have h10 := @run_callFunc_extern Tryz.prog 121 _ ReflectliteType.typeOf Tryz.func121 (by kernel_rfl) (by kernel_rfl) (by kernel_rfl) (by kernel_rfl)
  have h35 := @run_callFunc_extern Tryz.prog 157 _ (ReflectliteType.relation "AssignableTo" ReflectliteType.assignableTo) Tryz.func157 (by kernel_rfl) (by kernel_rfl) (by kernel_rfl) (by kernel_rfl)
  have h11 := @run_callFunc_extern Tryz.prog 122 _ (ReflectliteValue.method (ReflectliteValue.valueError "reflectlite.Value.Elem" 0) ReflectliteValue.elem) Tryz.func122 (by kernel_rfl) (by kernel_rfl) (by kernel_rfl) (by kernel_rfl)
  have h12 := @run_callFunc_extern Tryz.prog 123 _ ReflectliteValue.set Tryz.func123 (by kernel_rfl) (by kernel_rfl) (by kernel_rfl) (by kernel_rfl)
  have tO := typeOfPF
  have mA := methodAssign
  have a1 := assignPFPF
  have v1 := valueOfPF
  have el := elemVPPF a ta (w.alloc (.cells #[.pointer (some ⟨5, 165, none⟩), .pointer (some a), .int .u64 150] 170)) (by rw [World.cell?_alloc_lt _ _ a ha]; exact h1)
  have st := setPF ta ⟨w.heap.size + 1, 0, none⟩ e old ((w.alloc (.cells #[.pointer (some ⟨5, 165, none⟩), .pointer (some a), .int .u64 150] 170)).alloc (.cells #[.pointer (some e)] 125))
    (by rw [World.cell?_alloc_at _ _ _ _ (by simp)]; rfl)
    (by rw [World.cell?_alloc_lt _ _ ta (by simp; omega), World.cell?_alloc_lt _ _ ta ht]; exact h2)
    (by rw [World.frozen?_alloc_old _ _ ta (by simp; omega), World.frozen?_alloc_old _ _ ta (Nat.ne_of_lt ht)]; exact h3)
  go_enter Tryz.func103, Tryz.ntmps103
  go_wp2
  refine wp_loop_rounds 1 ?_
  rw [rounds_succ]
  go_wp2
  go_ret
  exact ⟨rfl, rfl⟩

set_option maxHeartbeats 2000000 in
theorem as_num (B : Nat) (L : List Sp) (n : Int) (ta a : Addr) (tgt old : Value) (w : World) (hE : Er B w L n) (hB : B ≤ w.heap.size) (h1 : w.cell? a = some (.pointer (some ta))) (h2 : w.cell? ta = some old) (h3 : w.frozen? ta = false) (ha : a.block < w.heap.size) (ht : ta.block < w.heap.size) :
    Calls Tryz.prog 103 #[ev L n, tgt, .agg #[.pointer (some ⟨5, 138, none⟩), .pointer (some a), .int .u64 150], .iface 198 (.agg #[.pointer (some ⟨5, 83, none⟩)])] w
      fun en w' => en = .returned (.bool true) ∧ w' = ((w.alloc (.cells #[.pointer (some ⟨5, 138, none⟩), .pointer (some a), .int .u64 150] 170)).alloc (.cells #[.int .i64 n] 83)).setCell ta (.int .i64 n) := by
  have h6 := @run_callFunc_extern Tryz.prog 100 _ (fun args => ReflectliteValue.unpack (args.getD 0 (.tuple #[]))) Tryz.func100 (by kernel_rfl) (by kernel_rfl) (by kernel_rfl) (by kernel_rfl)
  have h10 := @run_callFunc_extern Tryz.prog 121 _ ReflectliteType.typeOf Tryz.func121 (by kernel_rfl) (by kernel_rfl) (by kernel_rfl) (by kernel_rfl)
  have h35 := @run_callFunc_extern Tryz.prog 157 _ (ReflectliteType.relation "AssignableTo" ReflectliteType.assignableTo) Tryz.func157 (by kernel_rfl) (by kernel_rfl) (by kernel_rfl) (by kernel_rfl)
  have h11 := @run_callFunc_extern Tryz.prog 122 _ (ReflectliteValue.method (ReflectliteValue.valueError "reflectlite.Value.Elem" 0) ReflectliteValue.elem) Tryz.func122 (by kernel_rfl) (by kernel_rfl) (by kernel_rfl) (by kernel_rfl)
  have h12 := @run_callFunc_extern Tryz.prog 123 _ ReflectliteValue.set Tryz.func123 (by kernel_rfl) (by kernel_rfl) (by kernel_rfl) (by kernel_rfl)
  have mA := methodAssign
  have mU := methodUnwrap
  have t1 := typeOfPF
  have t2 := typeOfErrno
  have a1 := assignPFE
  have a2 := assignEE
  have v1 := valueOfErrno
  have n1 := noAsE
  have n4 := noAsPF
  have n5 := unPF
  have el := elemVPErrno a ta (w.alloc (.cells #[.pointer (some ⟨5, 138, none⟩), .pointer (some a), .int .u64 150] 170)) (by rw [World.cell?_alloc_lt _ _ a ha]; exact h1)
  have st := setE ta ⟨w.heap.size + 1, 0, none⟩ n old ((w.alloc (.cells #[.pointer (some ⟨5, 138, none⟩), .pointer (some a), .int .u64 150] 170)).alloc (.cells #[.int .i64 n] 83))
    (by rw [World.cell?_alloc_at _ _ _ _ (by simp)]; rfl)
    (by rw [World.cell?_alloc_lt _ _ ta (by simp; omega), World.cell?_alloc_lt _ _ ta ht]; exact h2)
    (by rw [World.frozen?_alloc_old _ _ ta (by simp; omega), World.frozen?_alloc_old _ _ ta (Nat.ne_of_lt ht)]; exact h3)
  have hE' : Er B (w.alloc (.cells #[.pointer (some ⟨5, 138, none⟩), .pointer (some a), .int .u64 150] 170)) L n := hE.below ((Below.refl B w).alloc hB _) (Nat.le_refl B)
  clear hE h1 h2 h3
  go_enter Tryz.func103, Tryz.ntmps103
  go_wp2
  go_name_world W hW
  rw [hW] at el st hE'
  have hz : W.heap.size = w.heap.size + 1 := by rw [← hW]; simp
  have v2 : ∀ n, (ReflectliteValue.unpack (.iface 83 (.int .i64 n))).run Tryz.prog W = .ok (.agg #[.pointer (some ⟨5, 83, none⟩), .pointer (some ⟨w.heap.size + 1, 0, none⟩), .int .u64 130]) (W.alloc (.cells #[.int .i64 n] 83)) := fun n => by rw [← hz]; exact v1 n W
  have c6 : ∀ i, W.cell? ⟨w.heap.size, i, none⟩ = #[hd 138, Value.pointer (some a), Value.int .u64 150][i]? := fun i => by rw [← hW]; exact (Has.made w 170 _).cell i
  have k0 := c6 0
  have k1 := c6 1
  have k2 := c6 2
  clear c6
  simp at k0 k1 k2
  replace hW := Lib.hid hW
  clear v1
  go_loopg [0] L.length (fun k v wr => ∃ L' : List Sp, v = ev L' n ∧ L'.length = k ∧ wr = W ∧ Hid (Er B W L' n))
  case atStart => exact ⟨L, rfl, rfl, rfl, Lib.hid hE'⟩
  case round =>
    obtain ⟨L', rfl, hk, rfl, hE2⟩ := hrel
    cases L' with
    | nil =>
      unfold ev
      go_wp2
      go_ret
      exact ⟨rfl, by rw [hW.out]⟩
    | cons x r =>
      have hh := Lib.hid hE2.out.1.1
      have hr := Lib.hid hE2.out.2
      clear hE2 el st v2 t2 a2
      rw [show ev (x :: r) n = .iface 125 (.pointer (some ⟨x.b, 0, none⟩)) from rfl]
      cases r with
      | nil =>
        have hh2 : Has wr x.b 127 #[.string x.s, .int .i64 x.a, .iface 83 (.int .i64 n)] := hh.out
        replace hh2 := Lib.hid hh2
        clear hh
        go_wp2_with ((go_at_call 151); refine (unwrap_calls x [] n _ hh2.out).mono ?_; rintro en w1 ⟨rfl, rfl⟩; rw [show ev [] n = .iface 83 (.int .i64 n) from rfl])
        go_roundg 0
        case measure => rw [← hk]; simp
        case rel => exact ⟨[], rfl, rfl, rfl, hr⟩
      | cons y r =>
        have hh2 : Has wr x.b 127 #[.string x.s, .int .i64 x.a, .iface 125 (.pointer (some ⟨y.b, 0, none⟩))] := hh.out
        replace hh2 := Lib.hid hh2
        clear hh
        go_wp2_with ((go_at_call 151); refine (unwrap_calls x (y :: r) n _ hh2.out).mono ?_; rintro en w1 ⟨rfl, rfl⟩; rw [show ev (y :: r) n = .iface 125 (.pointer (some ⟨y.b, 0, none⟩)) from rfl])
        go_roundg (r.length + 1)
        case measure => rw [← hk]; simp
        case rel => exact ⟨y :: r, rfl, rfl, rfl, hr⟩
end Go.Proofs.YtdoadmkaoboncaaGreatDoor.flt
end

section
/- fault: errors.As, outermost, Of. -/
namespace Go.Proofs.YtdoadmkaoboncaaGreatDoor.flt
open Go Go.RowKit Go.Extern.Stop Go.Stop Go.Extern

/-- errors.errorType's cell as it is laid; its block lies below B. -/
structure Et (B : Nat) (w : World) : Prop where
  cell : w.cell? ⟨0, 0, none⟩ = some (.iface 198 (.agg #[.pointer (some ⟨5, 58, none⟩)]))
  lo : 0 < B
  size : B ≤ w.heap.size
section
variable {B C : Nat} {w w' : World}
theorem Et.keep (h : Et B w) (s : w.heap.size ≤ w'.heap.size) (e : ∀ k, k < B → w'.heap[k]? = w.heap[k]?) : Et B w' :=
  ⟨by have := h.cell; unfold World.cell? at *; rw [e _ h.lo]; exact this, h.lo, Nat.le_trans h.size s⟩
theorem Et.below (h : Et B w) (b : Below C w w') (hC : B ≤ C) : Et B w' := h.keep b.size fun k hk => b.block k (by omega)
theorem Et.turn {F : Nat → Prop} (h : Et B w) (t : Turn F w w') (hF : ∀ k, F k → B ≤ k) : Et B w' :=
  h.keep t.size fun k hk => t.block k (by have := h.size; omega) (fun f => by have := hF k f; omega)
end

set_option maxHeartbeats 4000000 in
theorem As_hit (B : Nat) (e ta : Addr) (old : Value) (w : World) (hT : Et B w) (h2 : w.cell? ta = some old) (h3 : w.frozen? ta = false) (ht : ta.block < w.heap.size) :
    Calls Tryz.prog 73 #[.iface 125 (.pointer (some e)), .iface 165 (.pointer (some ta))] w fun en w' => en = .returned (.bool true) ∧
      w' = ((((w.alloc (.cells #[.pointer (some ta)] 165)).alloc (.cells #[.pointer (some ⟨5, 165, none⟩), .pointer (some ⟨w.heap.size, 0, none⟩), .int .u64 150] 170)).alloc (.cells #[.pointer (some ⟨5, 165, none⟩), .pointer (some ⟨w.heap.size, 0, none⟩), .int .u64 150] 170)).alloc (.cells #[.pointer (some e)] 125)).setCell ta (.pointer (some e)) := by
  have h6 := @run_callFunc_extern Tryz.prog 100 _ (fun args => ReflectliteValue.unpack (args.getD 0 (.tuple #[]))) Tryz.func100 (by kernel_rfl) (by kernel_rfl) (by kernel_rfl) (by kernel_rfl)
  have h7 := @run_callFunc_extern Tryz.prog 101 _ (ReflectliteValue.methodAny (ReflectliteValue.valueError "reflectlite.Value.Type" 0) (fun t _ _ _ => ReflectliteType.toType t)) Tryz.func101 (by kernel_rfl) (by kernel_rfl) (by kernel_rfl) (by kernel_rfl)
  have h8 := @run_callFunc_extern Tryz.prog 102 _ (ReflectliteValue.method (ReflectliteValue.valueError "reflectlite.Value.IsNil" 0) ReflectliteValue.isNil) Tryz.func102 (by kernel_rfl) (by kernel_rfl) (by kernel_rfl) (by kernel_rfl)
  have h27 := @run_callFunc_extern Tryz.prog 146 _ (ReflectliteType.abiMethod fun t => do pure (.int .u8 (← Rtype.kind t))) Tryz.func146 (by kernel_rfl) (by kernel_rfl) (by kernel_rfl) (by kernel_rfl)
  have h37 := @run_callFunc_extern Tryz.prog 159 _ (ReflectliteType.method ReflectliteType.elem) Tryz.func159 (by kernel_rfl) (by kernel_rfl) (by kernel_rfl) (by kernel_rfl)
  have h38 := @run_callFunc_extern Tryz.prog 160 _ (ReflectliteType.relation "Implements" ReflectliteType.implements_) Tryz.func160 (by kernel_rfl) (by kernel_rfl) (by kernel_rfl) (by kernel_rfl)
  have f6 := valueOfPPF
  have f7 := typePPF
  have mK := methodKind
  have mE := methodElem
  have mI := methodImpl
  have k27 := kindPPF
  have k25 := kindPF
  have e27 := elemPPF
  have i25 := implPF
  have lo := hT.lo
  have lt := hT.size
  have n8 := isNilPPF ⟨w.heap.size, 0, none⟩ ta ((w.alloc (.cells #[.pointer (some ta)] 165)).alloc (.cells #[.pointer (some ⟨5, 165, none⟩), .pointer (some ⟨w.heap.size, 0, none⟩), .int .u64 150] 170)) (by simp)
  have hg2 : ((w.alloc (.cells #[.pointer (some ta)] 165)).alloc (.cells #[.pointer (some ⟨5, 165, none⟩), .pointer (some ⟨w.heap.size, 0, none⟩), .int .u64 150] 170)).cell? ⟨0, 0, none⟩ = some (.iface 198 (.agg #[.pointer (some ⟨5, 58, none⟩)])) := by
    rw [World.cell?_alloc_lt _ _ ⟨0, 0, none⟩ (by simp), World.cell?_alloc_lt _ _ ⟨0, 0, none⟩ (by show 0 < w.heap.size; omega)]; exact hT.cell
  have q1 : ((w.alloc (.cells #[.pointer (some ta)] 165)).alloc (.cells #[.pointer (some ⟨5, 165, none⟩), .pointer (some ⟨w.heap.size, 0, none⟩), .int .u64 150] 170)).cell? ⟨w.heap.size, 0, none⟩ = some (.pointer (some ta)) := by simp
  have q2 : ((w.alloc (.cells #[.pointer (some ta)] 165)).alloc (.cells #[.pointer (some ⟨5, 165, none⟩), .pointer (some ⟨w.heap.size, 0, none⟩), .int .u64 150] 170)).cell? ta = some old := by
    rw [World.cell?_alloc_lt _ _ ta (by simp; omega), World.cell?_alloc_lt _ _ ta ht]; exact h2
  have q3 : ((w.alloc (.cells #[.pointer (some ta)] 165)).alloc (.cells #[.pointer (some ⟨5, 165, none⟩), .pointer (some ⟨w.heap.size, 0, none⟩), .int .u64 150] 170)).frozen? ta = false := by
    rw [World.frozen?_alloc_old _ _ ta (by simp; omega), World.frozen?_alloc_old _ _ ta (Nat.ne_of_lt ht)]; exact h3
  go_enter Tryz.func73, Tryz.ntmps73
  go_wp2_with (go_at_call 103; refine (as_hit e ta ⟨w.heap.size, 0, none⟩ _ old _ q1 q2 q3 (by simp; omega) (by simp; omega)).mono ?_; rintro en w1 ⟨rfl, rfl⟩)
  go_ret
  exact ⟨rfl, rfl⟩
set_option maxHeartbeats 4000000 in
theorem As_miss (B : Nat) (n : Int) (ta : Addr) (w : World) (hT : Et B w) :
    Calls Tryz.prog 73 #[.iface 83 (.int .i64 n), .iface 165 (.pointer (some ta))] w fun en w' => en = .returned (.bool false) ∧
      w' = (((w.alloc (.cells #[.pointer (some ta)] 165)).alloc (.cells #[.pointer (some ⟨5, 165, none⟩), .pointer (some ⟨w.heap.size, 0, none⟩), .int .u64 150] 170)).alloc (.cells #[.pointer (some ⟨5, 165, none⟩), .pointer (some ⟨w.heap.size, 0, none⟩), .int .u64 150] 170)) := by
  have h6 := @run_callFunc_extern Tryz.prog 100 _ (fun args => ReflectliteValue.unpack (args.getD 0 (.tuple #[]))) Tryz.func100 (by kernel_rfl) (by kernel_rfl) (by kernel_rfl) (by kernel_rfl)
  have h7 := @run_callFunc_extern Tryz.prog 101 _ (ReflectliteValue.methodAny (ReflectliteValue.valueError "reflectlite.Value.Type" 0) (fun t _ _ _ => ReflectliteType.toType t)) Tryz.func101 (by kernel_rfl) (by kernel_rfl) (by kernel_rfl) (by kernel_rfl)
  have h8 := @run_callFunc_extern Tryz.prog 102 _ (ReflectliteValue.method (ReflectliteValue.valueError "reflectlite.Value.IsNil" 0) ReflectliteValue.isNil) Tryz.func102 (by kernel_rfl) (by kernel_rfl) (by kernel_rfl) (by kernel_rfl)
  have h27 := @run_callFunc_extern Tryz.prog 146 _ (ReflectliteType.abiMethod fun t => do pure (.int .u8 (← Rtype.kind t))) Tryz.func146 (by kernel_rfl) (by kernel_rfl) (by kernel_rfl) (by kernel_rfl)
  have h37 := @run_callFunc_extern Tryz.prog 159 _ (ReflectliteType.method ReflectliteType.elem) Tryz.func159 (by kernel_rfl) (by kernel_rfl) (by kernel_rfl) (by kernel_rfl)
  have h38 := @run_callFunc_extern Tryz.prog 160 _ (ReflectliteType.relation "Implements" ReflectliteType.implements_) Tryz.func160 (by kernel_rfl) (by kernel_rfl) (by kernel_rfl) (by kernel_rfl)
  have f6 := valueOfPPF
  have f7 := typePPF
  have mK := methodKind
  have mE := methodElem
  have mI := methodImpl
  have k27 := kindPPF
  have k25 := kindPF
  have e27 := elemPPF
  have i25 := implPF
  have lo := hT.lo
  have lt := hT.size
  have n8 := isNilPPF ⟨w.heap.size, 0, none⟩ ta ((w.alloc (.cells #[.pointer (some ta)] 165)).alloc (.cells #[.pointer (some ⟨5, 165, none⟩), .pointer (some ⟨w.heap.size, 0, none⟩), .int .u64 150] 170)) (by simp)
  have hg2 : ((w.alloc (.cells #[.pointer (some ta)] 165)).alloc (.cells #[.pointer (some ⟨5, 165, none⟩), .pointer (some ⟨w.heap.size, 0, none⟩), .int .u64 150] 170)).cell? ⟨0, 0, none⟩ = some (.iface 198 (.agg #[.pointer (some ⟨5, 58, none⟩)])) := by
    rw [World.cell?_alloc_lt _ _ ⟨0, 0, none⟩ (by simp), World.cell?_alloc_lt _ _ ⟨0, 0, none⟩ (by show 0 < w.heap.size; omega)]; exact hT.cell
  go_enter Tryz.func73, Tryz.ntmps73
  go_wp2_with (go_at_call 103; refine (as_miss n _ ⟨w.heap.size, 0, none⟩ _).mono ?_; rintro en w1 ⟨rfl, rfl⟩)
  go_ret
  exact ⟨rfl, rfl⟩
set_option maxHeartbeats 4000000 in
theorem As_num (B : Nat) (L : List Sp) (n : Int) (ta : Addr) (old : Value) (w : World) (hT : Et B w) (hE : Er B w L n) (h2 : w.cell? ta = some old) (h3 : w.frozen? ta = false) (ht : ta.block < w.heap.size) :
    Calls Tryz.prog 73 #[ev L n, .iface 138 (.pointer (some ta))] w fun en w' => en = .returned (.bool true) ∧
      w' = ((((w.alloc (.cells #[.pointer (some ta)] 138)).alloc (.cells #[.pointer (some ⟨5, 138, none⟩), .pointer (some ⟨w.heap.size, 0, none⟩), .int .u64 150] 170)).alloc (.cells #[.pointer (some ⟨5, 138, none⟩), .pointer (some ⟨w.heap.size, 0, none⟩), .int .u64 150] 170)).alloc (.cells #[.int .i64 n] 83)).setCell ta (.int .i64 n) := by
  have h6 := @run_callFunc_extern Tryz.prog 100 _ (fun args => ReflectliteValue.unpack (args.getD 0 (.tuple #[]))) Tryz.func100 (by kernel_rfl) (by kernel_rfl) (by kernel_rfl) (by kernel_rfl)
  have h7 := @run_callFunc_extern Tryz.prog 101 _ (ReflectliteValue.methodAny (ReflectliteValue.valueError "reflectlite.Value.Type" 0) (fun t _ _ _ => ReflectliteType.toType t)) Tryz.func101 (by kernel_rfl) (by kernel_rfl) (by kernel_rfl) (by kernel_rfl)
  have h8 := @run_callFunc_extern Tryz.prog 102 _ (ReflectliteValue.method (ReflectliteValue.valueError "reflectlite.Value.IsNil" 0) ReflectliteValue.isNil) Tryz.func102 (by kernel_rfl) (by kernel_rfl) (by kernel_rfl) (by kernel_rfl)
  have h27 := @run_callFunc_extern Tryz.prog 146 _ (ReflectliteType.abiMethod fun t => do pure (.int .u8 (← Rtype.kind t))) Tryz.func146 (by kernel_rfl) (by kernel_rfl) (by kernel_rfl) (by kernel_rfl)
  have h37 := @run_callFunc_extern Tryz.prog 159 _ (ReflectliteType.method ReflectliteType.elem) Tryz.func159 (by kernel_rfl) (by kernel_rfl) (by kernel_rfl) (by kernel_rfl)
  have h38 := @run_callFunc_extern Tryz.prog 160 _ (ReflectliteType.relation "Implements" ReflectliteType.implements_) Tryz.func160 (by kernel_rfl) (by kernel_rfl) (by kernel_rfl) (by kernel_rfl)
  have f6 := valueOfPErrno
  have f7 := typePErrno
  have mK := methodKind
  have mE := methodElem
  have mI := methodImpl
  have k27 := kindPErrno
  have k25 := kindErrno
  have e27 := elemPErrno
  have i25 := implErrno
  have lo := hT.lo
  have lt := hT.size
  have n8 := isNilPErrno ⟨w.heap.size, 0, none⟩ ta ((w.alloc (.cells #[.pointer (some ta)] 138)).alloc (.cells #[.pointer (some ⟨5, 138, none⟩), .pointer (some ⟨w.heap.size, 0, none⟩), .int .u64 150] 170)) (by simp)
  have hg2 : ((w.alloc (.cells #[.pointer (some ta)] 138)).alloc (.cells #[.pointer (some ⟨5, 138, none⟩), .pointer (some ⟨w.heap.size, 0, none⟩), .int .u64 150] 170)).cell? ⟨0, 0, none⟩ = some (.iface 198 (.agg #[.pointer (some ⟨5, 58, none⟩)])) := by
    rw [World.cell?_alloc_lt _ _ ⟨0, 0, none⟩ (by simp), World.cell?_alloc_lt _ _ ⟨0, 0, none⟩ (by show 0 < w.heap.size; omega)]; exact hT.cell
  have q1 : ((w.alloc (.cells #[.pointer (some ta)] 138)).alloc (.cells #[.pointer (some ⟨5, 138, none⟩), .pointer (some ⟨w.heap.size, 0, none⟩), .int .u64 150] 170)).cell? ⟨w.heap.size, 0, none⟩ = some (.pointer (some ta)) := by simp
  have q2 : ((w.alloc (.cells #[.pointer (some ta)] 138)).alloc (.cells #[.pointer (some ⟨5, 138, none⟩), .pointer (some ⟨w.heap.size, 0, none⟩), .int .u64 150] 170)).cell? ta = some old := by
    rw [World.cell?_alloc_lt _ _ ta (by simp; omega), World.cell?_alloc_lt _ _ ta ht]; exact h2
  have q3 : ((w.alloc (.cells #[.pointer (some ta)] 138)).alloc (.cells #[.pointer (some ⟨5, 138, none⟩), .pointer (some ⟨w.heap.size, 0, none⟩), .int .u64 150] 170)).frozen? ta = false := by
    rw [World.frozen?_alloc_old _ _ ta (by simp; omega), World.frozen?_alloc_old _ _ ta (Nat.ne_of_lt ht)]; exact h3
  have hE2 := Lib.hid (hE.below (((Below.refl B w).alloc lt (.cells #[.pointer (some ta)] 138)).alloc (by simp; omega) (.cells #[.pointer (some ⟨5, 138, none⟩), .pointer (some ⟨w.heap.size, 0, none⟩), .int .u64 150] 170)) (Nat.le_refl B))
  clear hE
  cases L with
  | nil =>
    rw [show ev [] n = .iface 83 (.int .i64 n) from rfl]
    go_enter Tryz.func73, Tryz.ntmps73
    go_wp2_with (go_at_call 103; refine (as_num B [] n ta ⟨w.heap.size, 0, none⟩ _ old _ hE2.out (by simp; omega) q1 q2 q3 (by simp; omega) (by simp; omega)).mono ?_; rintro en w1 ⟨rfl, rfl⟩)
    go_ret
    exact ⟨rfl, rfl⟩
  | cons x r =>
    rw [show ev (x :: r) n = .iface 125 (.pointer (some ⟨x.b, 0, none⟩)) from rfl]
    go_enter Tryz.func73, Tryz.ntmps73
    go_wp2_with (go_at_call 103; refine (as_num B (x :: r) n ta ⟨w.heap.size, 0, none⟩ _ old _ hE2.out (by simp; omega) q1 q2 q3 (by simp; omega) (by simp; omega)).mono ?_; rintro en w1 ⟨rfl, rfl⟩)
    go_ret
    exact ⟨rfl, rfl⟩
theorem cell_put_var (w : World) (v u : Value) (t : TypeId) (o1 o2 o3 o4 : Obj) : ((((((w.alloc (.cells #[v] t)).alloc o1).alloc o2).alloc o3).alloc o4).setCell ⟨w.heap.size, 0, none⟩ u).cell? ⟨w.heap.size, 0, none⟩ = some u := by
  have h : Has (((((w.alloc (.cells #[v] t)).alloc o1).alloc o2).alloc o3).alloc o4) w.heap.size t #[v] := ((((Has.made w t #[v]).alloc o1).alloc o2).alloc o3).alloc o4
  exact ((h.put 0 u).cell 0).trans rfl

/-- The first fault of an error; nil: there is none. -/
def top : List Sp → Value
  | [] => .pointer none
  | x :: _ => .pointer (some ⟨x.b, 0, none⟩)

set_option maxHeartbeats 1000000 in
theorem outermost_calls (B : Nat) (L : List Sp) (n : Int) (w : World) (hT : Et B w) : Calls Tryz.prog 69 #[ev L n] w fun en w' => en = .returned (top L) ∧ Below w.heap.size w w' := by
  have lt : w.heap.size ≤ w.heap.size := Nat.le_refl _
  have b1 : Below w.heap.size w (w.alloc (.cells #[.pointer none] 125)) := (Below.refl w.heap.size w).alloc lt _
  have hT1 := Lib.hid (hT.below b1 hT.size)
  cases L with
  | nil =>
    rw [show ev [] n = .iface 83 (.int .i64 n) from rfl]
    go_enter Tryz.func69, Tryz.ntmps69
    go_wp2_with (go_at_call 73; refine (As_miss B n ⟨w.heap.size, 0, none⟩ _ hT1.out).mono ?_; rintro en w1 ⟨rfl, rfl⟩)
    go_ret
    exact ⟨rfl, ((b1.alloc (by simp) _).alloc (by simp; omega) _).alloc (by simp; omega) _⟩
  | cons x r =>
    rw [show ev (x :: r) n = .iface 125 (.pointer (some ⟨x.b, 0, none⟩)) from rfl]
    have key : ∀ w1 : World, w1 = ((((((w.alloc (.cells #[.pointer none] 125)).alloc (.cells #[.pointer (some ⟨w.heap.size, 0, none⟩)] 165)).alloc (.cells #[.pointer (some ⟨5, 165, none⟩), .pointer (some ⟨(w.alloc (.cells #[.pointer none] 125)).heap.size, 0, none⟩), .int .u64 150] 170)).alloc (.cells #[.pointer (some ⟨5, 165, none⟩), .pointer (some ⟨(w.alloc (.cells #[.pointer none] 125)).heap.size, 0, none⟩), .int .u64 150] 170)).alloc (.cells #[.pointer (some ⟨x.b, 0, none⟩)] 125))).setCell ⟨w.heap.size, 0, none⟩ (.pointer (some ⟨x.b, 0, none⟩)) →
        Below w.heap.size w w1 ∧ w1.cell? ⟨w.heap.size, 0, none⟩ = some (.pointer (some ⟨x.b, 0, none⟩)) := fun w1 hw => by
      rw [hw]
      exact ⟨((((b1.alloc (by simp) _).alloc (by simp; omega) _).alloc (by simp; omega) _).alloc (by simp; omega) _).setCell (by simp) _, cell_put_var w _ _ _ _ _ _ _⟩
    go_enter Tryz.func69, Tryz.ntmps69
    go_wp2_with (go_at_call 73; refine (As_hit B ⟨x.b, 0, none⟩ ⟨w.heap.size, 0, none⟩ (.pointer none) _ hT1.out (by simp) (by simp) (by simp)).mono ?_; rintro en w1 ⟨rfl, hw⟩; obtain ⟨b2, c0⟩ := key _ hw; clear hw key)
    go_ret
    exact ⟨rfl, b2⟩

set_option maxHeartbeats 1000000 in
theorem of_calls (B : Nat) (L : List Sp) (n : Int) (w : World) (hT : Et B w) (hE : Er B w L n) : Calls Tryz.prog 43 #[ev L n] w fun en w' => en = .returned (.int .i64 n) ∧ Below w.heap.size w w' := by
  have lt : w.heap.size ≤ w.heap.size := Nat.le_refl _
  have b1 : Below w.heap.size w (w.alloc (.cells #[.int .i64 0] 83)) := (Below.refl w.heap.size w).alloc lt _
  have hT1 := Lib.hid (hT.below b1 hT.size)
  have hE1 := Lib.hid (hE.below b1 hT.size)
  clear hE
  have key : ∀ w1 : World, w1 = ((((((w.alloc (.cells #[.int .i64 0] 83)).alloc (.cells #[.pointer (some ⟨w.heap.size, 0, none⟩)] 138)).alloc (.cells #[.pointer (some ⟨5, 138, none⟩), .pointer (some ⟨(w.alloc (.cells #[.int .i64 0] 83)).heap.size, 0, none⟩), .int .u64 150] 170)).alloc (.cells #[.pointer (some ⟨5, 138, none⟩), .pointer (some ⟨(w.alloc (.cells #[.int .i64 0] 83)).heap.size, 0, none⟩), .int .u64 150] 170)).alloc (.cells #[.int .i64 n] 83))).setCell ⟨w.heap.size, 0, none⟩ (.int .i64 n) →
      Below w.heap.size w w1 ∧ w1.cell? ⟨w.heap.size, 0, none⟩ = some (.int .i64 n) := fun w1 hw => by
    rw [hw]
    exact ⟨((((b1.alloc (by simp) _).alloc (by simp; omega) _).alloc (by simp; omega) _).alloc (by simp; omega) _).setCell (by simp) _, cell_put_var w _ _ _ _ _ _ _⟩
  cases L with
  | nil =>
    rw [show ev [] n = .iface 83 (.int .i64 n) from rfl]
    go_enter Tryz.func43, Tryz.ntmps43
    go_wp2_with (go_at_call 73; refine (As_num B [] n ⟨w.heap.size, 0, none⟩ (.int .i64 0) _ hT1.out hE1.out (by simp) (by simp) (by simp)).mono ?_; rintro en w1 ⟨rfl, hw⟩; obtain ⟨b2, c0⟩ := key _ hw; clear hw key)
    go_ret
    exact ⟨rfl, b2⟩
  | cons x r =>
    rw [show ev (x :: r) n = .iface 125 (.pointer (some ⟨x.b, 0, none⟩)) from rfl]
    go_enter Tryz.func43, Tryz.ntmps43
    go_wp2_with (go_at_call 73; refine (As_num B (x :: r) n ⟨w.heap.size, 0, none⟩ (.int .i64 0) _ hT1.out hE1.out (by simp) (by simp) (by simp)).mono ?_; rintro en w1 ⟨rfl, hw⟩; obtain ⟨b2, c0⟩ := key _ hw; clear hw key)
    go_ret
    exact ⟨rfl, b2⟩
end Go.Proofs.YtdoadmkaoboncaaGreatDoor.flt
end

section
/- fault: In, Where. -/
namespace Go.Proofs.YtdoadmkaoboncaaGreatDoor.flt
open Go Go.RowKit Go.Extern.Stop Go.Stop Go.Extern

/-- The names of an error's steps, as values. -/
def names (L : List Sp) : List Value := L.map fun x => .string x.s
/-- The place of the innermost step; -1: there is none. -/
def place (L : List Sp) : Int := match L.getLast? with | some x => x.a | none => -1
theorem place_snoc (L : List Sp) (x : Sp) : place (L ++ [x]) = x.a := by unfold place; simp

theorem names_snoc (L : List Sp) (x : Sp) : names (L ++ [x]) = names L ++ [.string x.s] := by unfold names; simp
/-- Steps were answered, in new memory, and a place. -/
def WherePost (w : World) (B : Nat) (L : List Sp) (en : Ending) (w' : World) : Prop :=
  ∃ v, en = .returned (.tuple #[v, .int .i64 (place L)]) ∧ Seg w' 9 1 v L.length (names L) ∧ (∀ x, v.ownBlock = some x → B ≤ x) ∧ Below B w w'

theorem Er.tail {B : Nat} {w : World} {n : Int} : ∀ {l r : List Sp}, Er B w (l ++ r) n → Er B w r n
  | [], _, h => h
  | _ :: _, _, h => Er.tail h.2

set_option maxRecDepth 100000 in
set_option maxHeartbeats 2000000 in
theorem where_calls (B : Nat) (L : List Sp) (n : Int) (w : World) (hT : Et B w) (hE : Er B w L n) (hl : L.length ≤ 1000000) :
    Calls Tryz.prog 41 #[ev L n] w (WherePost w B L) := by
  obtain ⟨z0i, z0, hi0, hz0, hz1, hz2, hz3⟩ := strInfo
  have HI0 := Lib.hid hi0
  have HZ0 := Lib.hid hz0
  have HT := Lib.hid hT
  have HE := Lib.hid hE
  have HB : Hid (B ≤ w.heap.size) := Lib.hid hT.size
  clear hi0 hz0 hT hE
  go_enter Tryz.func41, Tryz.ntmps41
  go_wp2_with (first
    | (go_at_call 69; refine (outermost_calls B L n _ HT.out).mono ?_; rintro en w1 ⟨rfl, b1⟩)
    | fail)
  have HB1 := Lib.hid (below_less b1 HB.out)
  clear b1
  go_loopg [4, 5, 6] L.length (fun k v a p wr => ∃ done rest : List Sp, rest.length = k ∧ a = .int .i64 (place done) ∧ p = top rest ∧ Hid (done ++ rest = L) ∧ Hid (Seg wr 9 1 v done.length (names done) ∧ (∀ x, v.ownBlock = some x → B ≤ x) ∧ Below B w wr))
  case atStart => exact ⟨[], L, rfl, rfl, rfl, Lib.hid rfl, Lib.hid ⟨Seg.nil _ _ _, (fun x (hx : (Value.slice none 0 0).ownBlock = some x) => by cases hx), HB1.out⟩⟩
  case round =>
    obtain ⟨done, rest, hk, rfl, rfl, HA, HS⟩ := hrel
    cases rest with
    | nil =>
      rw [show top [] = .pointer none from rfl]
      go_wp2_with fail
      go_ret2
      have e : done = L := by have := HA.out; rw [List.append_nil] at this; exact this
      rw [← e]
      exact ⟨_, rfl, HS.out⟩
    | cons x r =>
      rw [show top (x :: r) = .pointer (some ⟨x.b, 0, none⟩) from rfl]
      have hcell := Lib.hid (Er.below (B := B) (C := B) (L := L) HE.out HS.out.2.2 (Nat.le_refl B))
      rw [← HA.out] at hcell
      have hx : Er B wr (x :: r) n := Er.tail hcell.out
      have c0 : wr.cell? ⟨x.b, 0, none⟩ = some (.string x.s) := (hx.1.1.cell 0).trans rfl
      have hh := Lib.hid hx.1
      have hr := Lib.hid hx.2
      clear hx hcell
      have hlen : done.length + (r.length + 1) ≤ 1000000 := by
        have := congrArg List.length HA.out
        rw [List.length_append, List.length_cons] at this
        omega
      go_wp2_with (first
        | ((with_reducible refine at_op 22 ?_); refine wpList_append_seg (o := ⟨some 22, _, _, _, _, _⟩) _ rfl (.tmp 16) (.tmp 21) 22 rfl 9 z0i z0 1 16 Tryz.underlying22 HI0.out HZ0.out hz1 hz3 hz2 (by decide) u4 done.length (names done) rfl (HS.out.1.alloc _) ⟨wr.heap.size, 0, none⟩ 1 1 [.string x.s] rfl rfl (World.news_of_block (heap_alloc_new _ _)) (by simp [Value.oneCell']) (by decide) (by unfold maxLen; omega) (by omega) _ rfl ?_;
           intro g off cp w4 hown hgrow hat hlt;
           have B4 : Hid (Below B wr w4) := Lib.hid (((Below.refl B wr).alloc (Nat.le_trans HB.out HS.out.2.2.size) _).trans (below_own hgrow HS.out.2.1 (Nat.le_trans (Nat.le_trans HB.out HS.out.2.2.size) (by simp))));
           have BW : Hid (Below B w w4) := Lib.hid (HS.out.2.2.trans B4.out);
           have HT4 := Lib.hid (HT.out.below BW.out (Nat.le_refl B));
           have c1 : w4.cell? ⟨x.b, 1, none⟩ = some (.int .i64 x.a) := ((hh.out.1.below B4.out hh.out.2).cell 1).trans rfl;
           have c2 : w4.cell? ⟨x.b, 2, none⟩ = some (ev r n) := ((hh.out.1.below B4.out hh.out.2).cell 2).trans rfl;
           have OW := Lib.hid hown;
           have AT : Hid (∀ y, some g = some y → B ≤ y) := Lib.hid (fun y hy => by
             injection hy with hy
             subst hy
             rcases hat with h | h
             · exact HS.out.2.1 _ h
             · rw [h]; exact Nat.le_trans (Nat.le_trans HB.out HS.out.2.2.size) (by simp));
           clear hown hgrow hat hlt c0 hh)
        | (go_at_call 69; refine (outermost_calls B r n _ HT4.out).mono ?_; rintro en w5 ⟨rfl, b5⟩)
        | fail)
      go_roundg r.length
      case measure => rw [← hk]; simp
      case rel =>
        refine ⟨done ++ [x], r, rfl, by rw [place_snoc], rfl, Lib.hid (by rw [← HA.out]; simp), Lib.hid ⟨?_, fun y hy => AT.out y hy, BW.out.trans (below_less b5 HT4.out.size)⟩⟩
        rw [List.length_append, names_snoc]
        exact Seg.below OW.out b5 (fun y hy => OW.out.lt hy)
end Go.Proofs.YtdoadmkaoboncaaGreatDoor.flt
end

section
/- fault: strings.Join and the Builder, off the library. -/
namespace Go.Proofs
open Go.Shelf
shelf_lay Lays.n156 Nm 156 at Tryz as Tryz.lays156
theorem Tryz.extra156 : Builder.Extra Tryz.prog Tryz.lays156_ren where
  sizeBuilder := by kernel_rfl
  liesBuilder := by kernel_rfl
  t5 := Tryz.underlying5
  a5 := Tryz.isAgg5
  z5 := Tryz.sizeOf5
  v5 := Tryz.zeroValue5
  infoByte := by kernel_rfl
  cellsByte := by kernel_rfl
  sizeByte := by kernel_rfl
  neB5 := by decide
end Go.Proofs
namespace Go.Proofs.YtdoadmkaoboncaaGreatDoor.flt
open Go Go.RowKit Go.Extern.Stop Go.Stop Go.Extern

/-- The words of the numbers, from 1 on. -/
def words : List ByteArray := [⟨#[101, 110, 100]⟩, ⟨#[102, 111, 114, 109]⟩, ⟨#[98, 105, 103]⟩, ⟨#[97, 114, 103]⟩, ⟨#[107, 105, 110, 100]⟩, ⟨#[114, 97, 110, 103, 101]⟩, ⟨#[102, 117, 108, 108]⟩, ⟨#[110, 111, 110, 101]⟩, ⟨#[116, 104, 101, 114, 101]⟩, ⟨#[111, 118, 101, 114, 102, 108, 111, 119]⟩, ⟨#[115, 104, 111, 114, 116]⟩, ⟨#[112, 114, 111, 111, 102]⟩, ⟨#[102, 117, 116, 117, 114, 101]⟩, ⟨#[112, 114, 117, 110, 101, 100]⟩, ⟨#[98, 114, 97, 110, 99, 104]⟩, ⟨#[117, 110, 100, 111, 110, 101]⟩, ⟨#[102, 105, 120, 101, 100]⟩, ⟨#[99, 111, 110, 102, 108, 105, 99, 116]⟩, ⟨#[100, 105, 118, 101, 114, 103, 101, 100]⟩, ⟨#[98, 117, 115, 121]⟩]
/-- The word of a number. -/
def word (n : Int) : ByteArray := if 1 ≤ n ∧ n ≤ 20 then words.getD (n - 1).toNat ⟨#[]⟩ else ⟨#[111, 107]⟩

def tab : Array Value := (words.zipIdx.flatMap fun (s, i) => [Value.int .i64 ((i : Int) + 1), .string s]).toArray
theorem tab0 : ∀ i : Fin 20, tab[2 * i.val]? = some (.int .i64 ((i.val : Int) + 1)) := by
  intro i
  rcases i with ⟨i, hi⟩
  rcases i with _ | _ | _ | _ | _ | _ | _ | _ | _ | _ | _ | _ | _ | _ | _ | _ | _ | _ | _ | _ | i <;> first | rfl | omega
theorem tab1 : ∀ i : Fin 20, tab[2 * i.val + 1]? = some (.string (words.getD i.val ⟨#[]⟩)) := by
  intro i
  rcases i with ⟨i, hi⟩
  rcases i with _ | _ | _ | _ | _ | _ | _ | _ | _ | _ | _ | _ | _ | _ | _ | _ | _ | _ | _ | _ | i <;> first | rfl | omega

set_option maxRecDepth 100000 in
set_option maxHeartbeats 2000000 in
theorem err_calls (n : Int) (w : World) (h1 : 1 ≤ n) (h2 : n ≤ 20) : Calls Tryz.prog 44 #[.int .i64 n] w fun en w' => en = .returned (.string (word n)) ∧ Below w.heap.size w w' := by
  go_enter Tryz.func44, Tryz.ntmps44
  go_wp2_with fail
  go_name_world W hW
  have hT : Has W w.heap.size 139 tab := by rw [← hW]; exact Has.made w 139 _
  have hB : Below w.heap.size w W := by rw [← hW]; exact (Below.refl _ w).alloc (Nat.le_refl _) _
  clear hW
  have HT := Lib.hid hT
  have HB := Lib.hid hB
  have HN := Lib.hid (And.intro h1 h2)
  clear hT hB
  go_loopw [27] (fun x wr => ∃ i : Nat, x = .int .i64 i ∧ i ≤ 20 ∧ Hid ((i : Int) < n) ∧ Hid (Has wr w.heap.size 139 tab ∧ Below w.heap.size w wr)) (fun x _ => 20 - (intOf x).toNat)
  case atStart => exact ⟨0, rfl, by omega, Lib.hid (by show (0 : Int) < n; omega), Lib.hid ⟨HT.out, HB.out⟩⟩
  case round =>
    obtain ⟨i, rfl, hi, HI, HS⟩ := hrel
    have hlt : i < 20 := by have := HI.out; omega
    have c0 : wr.cell? ⟨w.heap.size, i * 2, none⟩ = some (.int .i64 ((i : Int) + 1)) := by rw [Nat.mul_comm]; exact (HS.out.1.cell _).trans (tab0 ⟨i, hlt⟩)
    have c1 : wr.cell? ⟨w.heap.size, i * 2 + 1, none⟩ = some (.string (words.getD i ⟨#[]⟩)) := by rw [Nat.mul_comm]; exact (HS.out.1.cell _).trans (tab1 ⟨i, hlt⟩)
    have hi2 : (i : Int) < 20 := by omega
    obtain ⟨s, hs⟩ : ∃ s, s = words.getD i ⟨#[]⟩ := ⟨_, rfl⟩
    rw [← hs] at c1
    have HSS := Lib.hid hs
    clear hs
    by_cases hq : (i : Int) + 1 = n
    · have HQ := Lib.hid hq
      go_wp2_with fail
      go_ret
      refine ⟨?_, HS.out.2.alloc HS.out.2.size _⟩
      rw [HSS.out]
      have e : word n = words.getD i ⟨#[]⟩ := by
        unfold word
        rw [if_pos HN.out, ← HQ.out]
        congr 1
        omega
      rw [e]
      rfl
    · have HQ := Lib.hid hq
      go_wp2_with fail
      refine ⟨⟨i + 1, by rw [Int.natCast_add]; rfl, by omega, Lib.hid (by have := HI.out; have := HQ.out; omega), Lib.hid ⟨HS.out.1.alloc _, HS.out.2.alloc HS.out.2.size _⟩⟩, ?_⟩
      show 20 - ((i : Int) + 1).toNat < 20 - ((i : Int)).toNat
      omega

theorem names_map (L : List Sp) (wd : ByteArray) : names L ++ [Value.string wd] = (L.map (fun x => x.s) ++ [wd]).map Value.string := by unfold names; simp

/-- strings.Join of strings that lie in a row. -/
theorem join_calls (w : World) (g off c : Nat) (xs : List ByteArray) (n : Nat) (hn : xs.length = n) (h : Seg w 9 1 (.slice (some ⟨g, off, none⟩) n c) n (xs.map Value.string)) (hle : n ≤ 140737488355328)
    (hlen : (Lib.join (xs.map (·.data.toList)) [47]).length ≤ 140737488355328) :
    Calls Tryz.prog 42 #[.slice (some ⟨g, off, none⟩) n c, .string ⟨#[47]⟩] w fun e w' => e = .returned (.string ⟨(Lib.join (xs.map (·.data.toList)) [47]).toArray⟩) ∧ Below w.heap.size w w' := by
  subst hn
  have hc : xs.length ≤ c := by
    obtain ⟨a, c', e, h1, _⟩ := h.slice
    injection e with e1 e2 e3
    omega
  refine Any.strings_Join Tryz.lays156 Tryz.extra156 g off c xs ⟨#[47]⟩ w (fun j x hj => ?_) (h.lt rfl) hle hc hlen
  have h0 : 0 < xs.length := by
    have := (List.getElem?_eq_some_iff.1 hj).1
    omega
  obtain ⟨g', off', c', e, _, _, _, hcells⟩ := h.cells h0
  injection e with e1 e2 e3
  injection e1 with e1
  injection e1 with e4 e5
  subst e4 e5
  exact hcells j _ (by rw [List.getElem?_map, hj]; rfl)

/-- The steps' names and the number's word, with slashes between. -/
def pathB (L : List Sp) (n : Int) : ByteArray := ⟨(Lib.join ((L.map (fun x => x.s.data.toList)) ++ [(word n).data.toList]) [47]).toArray⟩

set_option maxRecDepth 100000 in
set_option maxHeartbeats 2000000 in
theorem path_calls (B : Nat) (L : List Sp) (n : Int) (w : World) (hT : Et B w) (hE : Er B w L n) (hl : L.length ≤ 1000000) (h1 : 1 ≤ n) (h2 : n ≤ 20)
    (hsz : (Lib.join ((L.map (fun x => x.s.data.toList)) ++ [(word n).data.toList]) [47]).length ≤ 140737488355328) :
    Calls Tryz.prog 18 #[ev L n] w fun en w' => en = .returned (.string (pathB L n)) ∧ Below B w w' := by
  obtain ⟨z0i, z0, hi0, hz0, hz1, hz2, hz3⟩ := strInfo
  have HI0 := Lib.hid hi0
  have HZ0 := Lib.hid hz0
  have HT := Lib.hid hT
  have HE := Lib.hid hE
  have HN := Lib.hid (And.intro h1 h2)
  have HSZ := Lib.hid hsz
  have HB : Hid (B ≤ w.heap.size) := Lib.hid hT.size
  clear hi0 hz0 hT hE h1 h2 hsz
  obtain ⟨wd, hwd⟩ : ∃ wd, wd = word n := ⟨_, rfl⟩
  have HWD := Lib.hid hwd
  clear hwd
  go_enter Tryz.func18, Tryz.ntmps18
  go_wp2_with (first
    | (go_at_call 41; refine (where_calls B L n _ HT.out HE.out hl).mono ?_; rintro en w1 ⟨v, rfl, hS, hO, b1⟩;
       have HS := Lib.hid (And.intro hS hO); have B1 := Lib.hid b1; clear hS hO b1)
    | (go_at_call 43; refine (of_calls B L n _ (HT.out.below B1.out (Nat.le_refl B)) (HE.out.below B1.out (Nat.le_refl B))).mono ?_; rintro en w2 ⟨rfl, b2⟩;
       have B2 := Lib.hid b2; clear b2)
    | (go_at_call 44; refine (err_calls n _ HN.out.1 HN.out.2).mono ?_; rw [← HWD.out]; rintro en w3 ⟨rfl, b3⟩;
       have B3 := Lib.hid b3; clear b3;
       have HS3 := Lib.hid ((HS.out.1.below B2.out (fun b hb => HS.out.1.lt hb)).below B3.out (fun b hb => Nat.lt_of_lt_of_le (HS.out.1.lt hb) B2.out.size));
       have SZ3 : Hid (B ≤ w3.heap.size) := Lib.hid (Nat.le_trans HB.out (Nat.le_trans B1.out.size (Nat.le_trans B2.out.size B3.out.size))))
    | ((with_reducible refine at_op 15 ?_); refine wpList_append_seg (o := ⟨some 15, _, _, _, _, _⟩) _ rfl (.tmp 10) (.tmp 14) 22 rfl 9 z0i z0 1 16 Tryz.underlying22 HI0.out HZ0.out hz1 hz3 hz2 (by decide) v L.length (names L) rfl (HS3.out.alloc _) ⟨w3.heap.size, 0, none⟩ 1 1 [.string wd] rfl rfl (World.news_of_block (heap_alloc_new _ _)) (by simp [Value.oneCell']) (by decide) (by unfold maxLen; omega) (by omega) _ rfl ?_;
       intro g off cp w4 hown hgrow hat hlt;
       have OW := Lib.hid hown; have GR := Lib.hid hgrow; have LT := Lib.hid hlt; clear hown hgrow hat hlt)
    | (go_at_call 42; refine (join_calls w4 g off cp (L.map (fun x => x.s) ++ [wd]) (L.length + 1) (by simp) (by rw [names_map] at OW; exact OW.out) (by omega) (by rw [HWD.out, List.map_append, List.map_map]; exact HSZ.out)).mono ?_; rintro en w5 ⟨rfl, b5⟩)
    | fail)
  go_ret
  refine ⟨?_, ?_⟩
  · unfold pathB
    rw [← HWD.out]
    rfl
  · have b4 : Below B w3 w4 := ((Below.refl B w3).alloc SZ3.out _).trans (below_own GR.out (fun y hy => HS.out.2 y hy) (Nat.le_trans SZ3.out (by simp)))
    have s1 := B1.out.size
    have s2 := B2.out.size
    have s3 := b4.size
    exact (((B1.out.trans (below_less B2.out (by have := HB.out; omega))).trans (below_less B3.out (by have := HB.out; omega))).trans b4).trans (below_less b5 (by have := SZ3.out; omega))
end Go.Proofs.YtdoadmkaoboncaaGreatDoor.flt
end

section
/- Out of PruG: Pw, Pw.below, path_one. -/
namespace Go.Proofs.YtdoadmkaoboncaaGreatDoor.prn
open Go Go.RowKit Go.Proofs.YtdoadmkaoboncaaGreatDoor.dig

/-- What prune's laws want of a world: the tables of tree's, and the handle that errors' things are told by. -/
structure Pw (w : World) : Prop where
  rt : Rt w.heap.size w
  et : flt.Et w.heap.size w
theorem Pw.below {w w' : World} (h : Pw w) (b : Below w.heap.size w w') : Pw w' := by
  have r := h.rt.below b (Nat.le_refl _)
  have e := h.et.below b (Nat.le_refl _)
  exact ⟨⟨r.rk, r.tz, ⟨Nat.lt_of_lt_of_le r.lo.1 b.size, Nat.lt_of_lt_of_le r.lo.2 b.size⟩, Nat.le_refl _⟩, ⟨e.cell, Nat.lt_of_lt_of_le e.lo b.size, Nat.le_refl _⟩⟩

/-- Path of an error of one step, known by its name. -/
theorem path_one {w : World} (hP : Pw w) {s : ByteArray} {a n : Int} {b : Nat} (he : flt.Er w.heap.size w [⟨b, s, a⟩] n) (h1 : 1 ≤ n) (h2 : n ≤ 20) (hs : s.size ≤ 1000) :
    Calls Tryz.prog 18 #[flt.ev [⟨b, s, a⟩] n] w fun en w' => en = .returned (.string (flt.pathB [⟨b, s, a⟩] n)) ∧ Below w.heap.size w w' := by
  refine flt.path_calls w.heap.size _ n w hP.et he (by simp) h1 h2 ?_
  have hw : (flt.word n).data.toList.length ≤ 1000 := by
    unfold flt.word
    rw [if_pos (by omega)]
    have : ∀ i : Fin 20, (flt.words.getD i.val ⟨#[]⟩).data.toList.length ≤ 1000 := by decide
    exact this ⟨(n - 1).toNat, by omega⟩
  have h2 : s.data.toList.length ≤ 1000 := by simpa using hs
  show (Lib.join [s.data.toList, (flt.word n).data.toList] [47]).length ≤ _
  have h3 : (Lib.join [s.data.toList, (flt.word n).data.toList] [47]).length = s.data.toList.length + 1 + (flt.word n).data.toList.length := by
    simp [Lib.join]
    try omega
  omega
end Go.Proofs.YtdoadmkaoboncaaGreatDoor.prn
end

section
/- tree: what the row's list gives; the world that the program's own initialisers leave meets the rows' condition (of the rows that list digest's rounds and both tables of trailing zeros). -/
namespace Go.Proofs.YtdoadmkaoboncaaGreatDoor.tree
open Go Go.ChangeShapes Go.WideShapes Go.ChangeAt Go.RowKit Go.Proofs.YtdoadmkaoboncaaGreatDoor.dig

theorem gTab : Tryz.prog.globalNamed "math/bits.deBruijn64tab" = some 2 := by kernel_rfl
theorem gTabType : (Tryz.prog.globals[2]?).map (·.type) = some 212 := by kernel_rfl
theorem cellsTab : Tryz.prog.cellsOf 212 = 64 := by kernel_rfl
theorem cellsU8 : Tryz.prog.cellsOf 5 = 1 := by kernel_rfl
theorem rt_of_laid {W : World} {rest : List (String × DataW Unit)} (h : laidMet Tryz.prog (("math/bits.deBruijn32tab", Rows.laid_math_bits_deBruijn32tab) :: ("math/bits.deBruijn64tab", Rows.laid_math_bits_deBruijn64tab) :: ("hindsight/digest.rounds", Rows.laid_hindsight_digest_rounds) :: rest) W) : Rt W.heap.size W := by
  have ht : Lib.TabIs Tryz.prog W "math/bits.deBruijn64tab" .u8 (Lib.deBruijn64tab.map (Int.ofNat ·)) := Lib.tabIs_of_head (rest := ("hindsight/digest.rounds", Rows.laid_hindsight_digest_rounds) :: rest) gTab gTabType Tryz.underlying212 Tryz.underlying5 cellsU8 cellsTab h.tail
  have hk : Rk W := rk_of_laid (rest := rest) h.tail.tail
  have tz : ∀ (i x : Nat), Lib.deBruijn64tab[i]? = some x → W.cell? ⟨2, i, none⟩ = some (.int .u8 (x : Int)) := fun i x hx => by
    have hi : i < Lib.deBruijn64tab.length := (List.getElem?_eq_some_iff.1 hx).1
    have := ht.cell gTab i (by rw [List.length_map]; exact hi)
    rw [this]
    have e : (Lib.deBruijn64tab.map (Int.ofNat ·)).getD i 0 = (x : Int) := by
      rw [List.getD_eq_getElem?_getD, List.getElem?_map, hx]
      rfl
    rw [e]
  refine ⟨hk, tz, ⟨hk.lt, ?_⟩, Nat.le_refl _⟩
  have h0 := tz 0 0 rfl
  unfold World.cell? at h0
  rcases Nat.lt_or_ge 2 W.heap.size with k | k
  · exact k
  · simp [Array.getElem?_eq_none k] at h0

theorem door_met (os : Os) (args : Array Value) : laidMetH Tryz.prog [("math/bits.deBruijn32tab", Rows.laid_math_bits_deBruijn32tab), ("math/bits.deBruijn64tab", Rows.laid_math_bits_deBruijn64tab), ("hindsight/digest.rounds", Rows.laid_hindsight_digest_rounds)] ((World.doorLaid Tryz.prog 31 os).forCall (fun _ _ => 0) ⟨#[], args, []⟩).memory :=
  laidMetH_of_parts3 (fuel := 8) (laidMet_of_run' 8 (by kernel_rfl) (by kernel_rfl)) (by kernel_rfl) (by kernel_rfl)
theorem door_shaped (os : Os) (args : Array Value) : ((World.doorLaid Tryz.prog 31 os).forCall (fun _ _ => 0) ⟨#[], args, []⟩).Shaped Tryz.prog :=
  World.shaped_of_RefB (by kernel_rfl) (by kernel_rfl)
end Go.Proofs.YtdoadmkaoboncaaGreatDoor.tree
end

section
/- fault: errors.errorType's cell out of what the row lists; the world that the program's own initialisers leave meets the rows' condition. -/
namespace Go.Proofs.YtdoadmkaoboncaaGreatDoor.flt
open Go Go.ChangeShapes Go.WideShapes Go.ChangeAt Go.RowKit

theorem etG : Tryz.prog.globalNamed "errors.errorType" = some 0 := by kernel_rfl
theorem etRt : (Tryz.prog.cutTypes.find? (·.1 == "internal/reflectlite.rtype")).map (·.2) = some 198 := by kernel_rfl
theorem etRow : ((List.range Tryz.prog.types.size).filter fun t => Tryz.prog.rowNamed t [101, 114, 114, 111, 114]) = [58] := by kernel_rfl

theorem et_of_laid {W : World} (h : laidMetH Tryz.prog [("errors.errorType", Rows.laid_errors_errorType)] W) : Et W.heap.size W := by
  have h' : laidMet Tryz.prog [] W ∧ handlesMet Tryz.prog [("errors.errorType", Rows.laid_errors_errorType)] W := h
  obtain ⟨name, u, ty, e1, e2, e3, e4, e5⟩ := h'.2 _ (List.mem_singleton.2 rfl)
  have en : name = [101, 114, 114, 111, 114] := (Option.some.inj e1).symm
  subst en
  obtain rfl := Option.some.inj (etRt.symm.trans e2)
  have hm : ty ∈ (List.range Tryz.prog.types.size).filter fun t => Tryz.prog.rowNamed t [101, 114, 114, 111, 114] := List.mem_filter.2 ⟨List.mem_range.2 e3, e4⟩
  rw [etRow] at hm
  obtain rfl := List.mem_singleton.1 hm
  have hh : typeHandle Tryz.prog 58 = .pointer (some ⟨5, 58, none⟩) := by kernel_rfl
  rw [hh] at e5
  have hc : W.cell? ⟨0, 0, none⟩ = some (.iface 198 (.agg #[.pointer (some ⟨5, 58, none⟩)])) := by simpa using World.var?_cell etG e5 0
  refine ⟨hc, ?_, Nat.le_refl _⟩
  unfold World.cell? at hc
  rcases Nat.lt_or_ge 0 W.heap.size with k | k
  · exact k
  · simp [Array.getElem?_eq_none k] at hc

theorem door_met (os : Os) (args : Array Value) : laidMetH Tryz.prog [("errors.errorType", Rows.laid_errors_errorType)] ((World.doorLaid Tryz.prog 31 os).forCall (fun _ _ => 0) ⟨#[], args, []⟩).memory :=
  laidMetH_of_parts ⟨[], rfl, List.nodup_nil, fun _ _ h => by cases h⟩ (by kernel_rfl)
theorem door_shaped (os : Os) (args : Array Value) : ((World.doorLaid Tryz.prog 31 os).forCall (fun _ _ => 0) ⟨#[], args, []⟩).Shaped Tryz.prog :=
  World.shaped_of_RefB (by kernel_rfl) (by kernel_rfl)
end Go.Proofs.YtdoadmkaoboncaaGreatDoor.flt
end

section
/- prune: what the rows' list gives; the world that the program's own initialisers leave meets the rows' condition. -/
namespace Go.Proofs.YtdoadmkaoboncaaGreatDoor.prn
open Go Go.ChangeShapes Go.WideShapes Go.ChangeAt Go.RowKit Go.Proofs.YtdoadmkaoboncaaGreatDoor.dig

theorem pw_of_laid {W : World} (h : laidMetH Tryz.prog [("math/bits.deBruijn32tab", Rows.laid_math_bits_deBruijn32tab), ("math/bits.deBruijn64tab", Rows.laid_math_bits_deBruijn64tab), ("hindsight/digest.rounds", Rows.laid_hindsight_digest_rounds), ("errors.errorType", Rows.laid_errors_errorType)] W) : Pw W := by
  have h' : laidMet Tryz.prog [("math/bits.deBruijn32tab", Rows.laid_math_bits_deBruijn32tab), ("math/bits.deBruijn64tab", Rows.laid_math_bits_deBruijn64tab), ("hindsight/digest.rounds", Rows.laid_hindsight_digest_rounds)] W ∧ handlesMet Tryz.prog [("errors.errorType", Rows.laid_errors_errorType)] W := h
  have h2 : laidMet Tryz.prog [] W ∧ handlesMet Tryz.prog [("errors.errorType", Rows.laid_errors_errorType)] W := ⟨⟨[], rfl, List.nodup_nil, fun _ _ h => by cases h⟩, h'.2⟩
  exact ⟨tree.rt_of_laid (rest := []) h'.1, flt.et_of_laid h2⟩
theorem door_met (os : Os) (args : Array Value) : laidMetH Tryz.prog [("math/bits.deBruijn32tab", Rows.laid_math_bits_deBruijn32tab), ("math/bits.deBruijn64tab", Rows.laid_math_bits_deBruijn64tab), ("hindsight/digest.rounds", Rows.laid_hindsight_digest_rounds), ("errors.errorType", Rows.laid_errors_errorType)] ((World.doorLaid Tryz.prog 31 os).forCall (fun _ _ => 0) ⟨#[], args, []⟩).memory :=
  laidMetH_of_parts3 (fuel := 8) (laidMet_of_run' 8 (by kernel_rfl) (by kernel_rfl)) (by kernel_rfl) (by kernel_rfl)
theorem door_shaped (os : Os) (args : Array Value) : ((World.doorLaid Tryz.prog 31 os).forCall (fun _ _ => 0) ⟨#[], args, []⟩).Shaped Tryz.prog :=
  World.shaped_of_RefB (by kernel_rfl) (by kernel_rfl)
end Go.Proofs.YtdoadmkaoboncaaGreatDoor.prn
end

