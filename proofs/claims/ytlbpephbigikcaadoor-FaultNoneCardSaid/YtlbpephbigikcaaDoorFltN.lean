/- fault: an error from elsewhere (errors.New): no number and no step stands behind it. -/
import Derived.Test.YtlbpephbigikcaaDoorFltC
namespace Go.Proofs.YtlbpephbigikcaaDoor.flt
open Go Go.RowKit Go.Extern.Stop Go.Stop Go.Extern

/-- An error from elsewhere, as a value. -/
abbrev pe (b : Nat) : Value := .iface 80 (.pointer (some ⟨b, 0, none⟩))
theorem typeOfPE (v : Value) (w : World) : (ReflectliteType.typeOf #[.iface 80 v]).run Tryd.prog w = .ok (.iface 91 (.agg #[.pointer (some ⟨5, 80, none⟩)])) w := by kernel_rfl
theorem assignPEPF (w : World) : (ReflectliteType.relation "AssignableTo" ReflectliteType.assignableTo #[.agg #[.pointer (some ⟨5, 80, none⟩)], .iface 91 (.agg #[.pointer (some ⟨5, 42, none⟩)])]).run Tryd.prog w = .ok (.bool false) w := by kernel_rfl
theorem assignPEE (w : World) : (ReflectliteType.relation "AssignableTo" ReflectliteType.assignableTo #[.agg #[.pointer (some ⟨5, 80, none⟩)], .iface 91 (.agg #[.pointer (some ⟨5, 28, none⟩)])]).run Tryd.prog w = .ok (.bool false) w := by kernel_rfl
theorem noAsPE (v : Value) (xT : TypeId) (w : World) : (Instr.typeAssert (.iface 80 v) xT 101 true).run Tryd.prog w = .ok (.tuple #[.nilIface, .bool false]) w := run_typeAssert_lacksB Tryd.underlying101 (by kernel_rfl) (by kernel_rfl) v xT w
theorem noUnPE (v : Value) (xT : TypeId) (w : World) : (Instr.typeAssert (.iface 80 v) xT 77 true).run Tryd.prog w = .ok (.tuple #[.nilIface, .bool false]) w := run_typeAssert_lacksB Tryd.underlying77 (by kernel_rfl) (by kernel_rfl) v xT w
theorem noUnsPE (v : Value) (xT : TypeId) (w : World) : (Instr.typeAssert (.iface 80 v) xT 96 true).run Tryd.prog w = .ok (.tuple #[.nilIface, .bool false]) w := run_typeAssert_lacksB Tryd.underlying96 (by kernel_rfl) (by kernel_rfl) v xT w

set_option maxHeartbeats 1000000 in
theorem as_missP (p : Nat) (tgt : Value) (a : Addr) (w : World) :
    Calls Tryd.prog 34 #[pe p, tgt, .agg #[.pointer (some ⟨5, 45, none⟩), .pointer (some a), .int .u64 150], .iface 91 (.agg #[.pointer (some ⟨5, 42, none⟩)])] w
      fun en w' => en = .returned (.bool false) ∧ w' = w.alloc (.cells #[.pointer (some ⟨5, 45, none⟩), .pointer (some a), .int .u64 150] 69) := by
  have h10 := @run_callFunc_extern Tryd.prog 29 _ ReflectliteType.typeOf Tryd.func29 (by kernel_rfl) (by kernel_rfl) (by kernel_rfl) (by kernel_rfl)
  have h35 := @run_callFunc_extern Tryd.prog 86 _ (ReflectliteType.relation "AssignableTo" ReflectliteType.assignableTo) Tryd.func86 (by kernel_rfl) (by kernel_rfl) (by kernel_rfl) (by kernel_rfl)
  have tO := typeOfPE
  have mA := methodAssign
  have a1 := assignPEPF
  have n1 := noAsPE
  have n2 := noUnPE
  have n3 := noUnsPE
  unfold pe
  go_enter Tryd.func34, Tryd.ntmps34
  go_wp2
  refine wp_loop_rounds 1 ?_
  rw [rounds_succ]
  go_wp2
  go_ret
  exact ⟨rfl, rfl⟩

/-- What a step's Unwrap answers, whatever stands behind it. -/
theorem unwrap_any (b : Nat) (s v0 : Value) (v : Value) (w : World) (h : Has w b 47 #[s, v0, v]) :
    Calls Tryd.prog 79 #[.pointer (some ⟨b, 0, none⟩)] w fun en w' => en = .returned v ∧ w = w' := by
  have c2 : w.cell? ⟨b, 2, none⟩ = some v := (h.cell 2).trans rfl
  go_enter Tryd.func79, Tryd.ntmps79
  go_wp2
  go_ret
  exact ⟨rfl, rfl⟩

set_option maxHeartbeats 2000000 in
theorem as_missE (b p : Nat) (s v0 : Value) (tgt : Value) (a : Addr) (w : World) (h : Has w b 47 #[s, v0, pe p]) (_ : b < w.heap.size) :
    Calls Tryd.prog 34 #[.iface 42 (.pointer (some ⟨b, 0, none⟩)), tgt, .agg #[.pointer (some ⟨5, 48, none⟩), .pointer (some a), .int .u64 150], .iface 91 (.agg #[.pointer (some ⟨5, 28, none⟩)])] w
      fun en w' => en = .returned (.bool false) ∧ w' = w.alloc (.cells #[.pointer (some ⟨5, 48, none⟩), .pointer (some a), .int .u64 150] 69) := by
  have h10 := @run_callFunc_extern Tryd.prog 29 _ ReflectliteType.typeOf Tryd.func29 (by kernel_rfl) (by kernel_rfl) (by kernel_rfl) (by kernel_rfl)
  have h35 := @run_callFunc_extern Tryd.prog 86 _ (ReflectliteType.relation "AssignableTo" ReflectliteType.assignableTo) Tryd.func86 (by kernel_rfl) (by kernel_rfl) (by kernel_rfl) (by kernel_rfl)
  have mA := methodAssign
  have mU := methodUnwrap
  have t1 := typeOfPF
  have t2 := typeOfPE
  have a1 := assignPFE
  have a2 := assignPEE
  have n1 := noAsPE
  have n2 := noUnPE
  have n3 := noUnsPE
  have n4 := noAsPF
  have n5 := unPF
  have hh := Lib.hid (h.alloc (.cells #[.pointer (some ⟨5, 48, none⟩), .pointer (some a), .int .u64 150] 69))
  clear h
  go_enter Tryd.func34, Tryd.ntmps34
  go_wp2
  go_name_world W hW
  rw [hW] at hh
  have hW2 := Lib.hid hW
  clear hW
  go_loopg [0] 1 (fun k v wr => ((k = 1 ∧ v = .iface 42 (.pointer (some ⟨b, 0, none⟩))) ∨ (k = 0 ∧ v = pe p)) ∧ wr = W)
  case atStart => exact ⟨Or.inl ⟨rfl, rfl⟩, rfl⟩
  case round =>
    obtain ⟨hv, rfl⟩ := hrel
    rcases hv with ⟨hk, rfl⟩ | ⟨hk, rfl⟩
    · go_wp2_with ((go_at_call 79); refine (unwrap_any b s v0 (pe p) _ hh.out).mono ?_; unfold pe; rintro en w1 ⟨rfl, rfl⟩)
      go_roundg 0
      case measure => omega
      case rel => exact ⟨Or.inr ⟨rfl, rfl⟩, rfl⟩
    · unfold pe
      go_wp2
      go_ret
      exact ⟨rfl, hW2.out.symm⟩

set_option maxHeartbeats 4000000 in
theorem As_missP (B p : Nat) (ta : Addr) (w : World) (hT : Et B w) :
    Calls Tryd.prog 20 #[pe p, .iface 45 (.pointer (some ta))] w fun en w' => en = .returned (.bool false) ∧
      w' = (((w.alloc (.cells #[.pointer (some ta)] 45)).alloc (.cells #[.pointer (some ⟨5, 45, none⟩), .pointer (some ⟨w.heap.size, 0, none⟩), .int .u64 150] 69)).alloc (.cells #[.pointer (some ⟨5, 45, none⟩), .pointer (some ⟨w.heap.size, 0, none⟩), .int .u64 150] 69)) := by
  have h6 := @run_callFunc_extern Tryd.prog 31 _ (fun args => ReflectliteValue.unpack (args.getD 0 (.tuple #[]))) Tryd.func31 (by kernel_rfl) (by kernel_rfl) (by kernel_rfl) (by kernel_rfl)
  have h7 := @run_callFunc_extern Tryd.prog 32 _ (ReflectliteValue.methodAny (ReflectliteValue.valueError "reflectlite.Value.Type" 0) (fun t _ _ _ => ReflectliteType.toType t)) Tryd.func32 (by kernel_rfl) (by kernel_rfl) (by kernel_rfl) (by kernel_rfl)
  have h8 := @run_callFunc_extern Tryd.prog 33 _ (ReflectliteValue.method (ReflectliteValue.valueError "reflectlite.Value.IsNil" 0) ReflectliteValue.isNil) Tryd.func33 (by kernel_rfl) (by kernel_rfl) (by kernel_rfl) (by kernel_rfl)
  have h27 := @run_callFunc_extern Tryd.prog 75 _ (ReflectliteType.abiMethod fun t => do pure (.int .u8 (← Rtype.kind t))) Tryd.func75 (by kernel_rfl) (by kernel_rfl) (by kernel_rfl) (by kernel_rfl)
  have h37 := @run_callFunc_extern Tryd.prog 88 _ (ReflectliteType.method ReflectliteType.elem) Tryd.func88 (by kernel_rfl) (by kernel_rfl) (by kernel_rfl) (by kernel_rfl)
  have h38 := @run_callFunc_extern Tryd.prog 89 _ (ReflectliteType.relation "Implements" ReflectliteType.implements_) Tryd.func89 (by kernel_rfl) (by kernel_rfl) (by kernel_rfl) (by kernel_rfl)
  have f6 := valueOfPPF
  have f7 := typePPF
  have mK := methodKind
  have mE := methodElem
  have mI := methodImpl
  have k27 := kindPPF
  have k25 := kindPF
  have e27 := elemPPF
  have i25 := implPF
  have lo := hT.lo
  have lt := hT.size
  have n8 := isNilPPF ⟨w.heap.size, 0, none⟩ ta ((w.alloc (.cells #[.pointer (some ta)] 45)).alloc (.cells #[.pointer (some ⟨5, 45, none⟩), .pointer (some ⟨w.heap.size, 0, none⟩), .int .u64 150] 69)) (by simp)
  have hg2 : ((w.alloc (.cells #[.pointer (some ta)] 45)).alloc (.cells #[.pointer (some ⟨5, 45, none⟩), .pointer (some ⟨w.heap.size, 0, none⟩), .int .u64 150] 69)).cell? ⟨0, 0, none⟩ = some (.iface 91 (.agg #[.pointer (some ⟨5, 25, none⟩)])) := by
    rw [World.cell?_alloc_lt _ _ ⟨0, 0, none⟩ (by simp), World.cell?_alloc_lt _ _ ⟨0, 0, none⟩ (by show 0 < w.heap.size; omega)]; exact hT.cell
  unfold pe
  go_enter Tryd.func20, Tryd.ntmps20
  go_wp2_with (go_at_call 34; refine (as_missP p _ ⟨w.heap.size, 0, none⟩ _).mono ?_; rintro en w1 ⟨rfl, rfl⟩)
  go_ret
  exact ⟨rfl, rfl⟩
set_option maxHeartbeats 4000000 in
theorem As_missE (B b p : Nat) (s v0 : Value) (ta : Addr) (w : World) (hT : Et B w) (h : Has w b 47 #[s, v0, pe p]) :
    Calls Tryd.prog 20 #[.iface 42 (.pointer (some ⟨b, 0, none⟩)), .iface 48 (.pointer (some ta))] w fun en w' => en = .returned (.bool false) ∧
      w' = (((w.alloc (.cells #[.pointer (some ta)] 48)).alloc (.cells #[.pointer (some ⟨5, 48, none⟩), .pointer (some ⟨w.heap.size, 0, none⟩), .int .u64 150] 69)).alloc (.cells #[.pointer (some ⟨5, 48, none⟩), .pointer (some ⟨w.heap.size, 0, none⟩), .int .u64 150] 69)) := by
  have h6 := @run_callFunc_extern Tryd.prog 31 _ (fun args => ReflectliteValue.unpack (args.getD 0 (.tuple #[]))) Tryd.func31 (by kernel_rfl) (by kernel_rfl) (by kernel_rfl) (by kernel_rfl)
  have h7 := @run_callFunc_extern Tryd.prog 32 _ (ReflectliteValue.methodAny (ReflectliteValue.valueError "reflectlite.Value.Type" 0) (fun t _ _ _ => ReflectliteType.toType t)) Tryd.func32 (by kernel_rfl) (by kernel_rfl) (by kernel_rfl) (by kernel_rfl)
  have h8 := @run_callFunc_extern Tryd.prog 33 _ (ReflectliteValue.method (ReflectliteValue.valueError "reflectlite.Value.IsNil" 0) ReflectliteValue.isNil) Tryd.func33 (by kernel_rfl) (by kernel_rfl) (by kernel_rfl) (by kernel_rfl)
  have h27 := @run_callFunc_extern Tryd.prog 75 _ (ReflectliteType.abiMethod fun t => do pure (.int .u8 (← Rtype.kind t))) Tryd.func75 (by kernel_rfl) (by kernel_rfl) (by kernel_rfl) (by kernel_rfl)
  have h37 := @run_callFunc_extern Tryd.prog 88 _ (ReflectliteType.method ReflectliteType.elem) Tryd.func88 (by kernel_rfl) (by kernel_rfl) (by kernel_rfl) (by kernel_rfl)
  have h38 := @run_callFunc_extern Tryd.prog 89 _ (ReflectliteType.relation "Implements" ReflectliteType.implements_) Tryd.func89 (by kernel_rfl) (by kernel_rfl) (by kernel_rfl) (by kernel_rfl)
  have f6 := valueOfPErrno
  have f7 := typePErrno
  have mK := methodKind
  have mE := methodElem
  have mI := methodImpl
  have k27 := kindPErrno
  have k25 := kindErrno
  have e27 := elemPErrno
  have i25 := implErrno
  have lo := hT.lo
  have lt := hT.size
  have n8 := isNilPErrno ⟨w.heap.size, 0, none⟩ ta ((w.alloc (.cells #[.pointer (some ta)] 48)).alloc (.cells #[.pointer (some ⟨5, 48, none⟩), .pointer (some ⟨w.heap.size, 0, none⟩), .int .u64 150] 69)) (by simp)
  have hg2 : ((w.alloc (.cells #[.pointer (some ta)] 48)).alloc (.cells #[.pointer (some ⟨5, 48, none⟩), .pointer (some ⟨w.heap.size, 0, none⟩), .int .u64 150] 69)).cell? ⟨0, 0, none⟩ = some (.iface 91 (.agg #[.pointer (some ⟨5, 25, none⟩)])) := by
    rw [World.cell?_alloc_lt _ _ ⟨0, 0, none⟩ (by simp), World.cell?_alloc_lt _ _ ⟨0, 0, none⟩ (by show 0 < w.heap.size; omega)]; exact hT.cell
  have hh := Lib.hid ((h.alloc (.cells #[.pointer (some ta)] 48)).alloc (.cells #[.pointer (some ⟨5, 48, none⟩), .pointer (some ⟨w.heap.size, 0, none⟩), .int .u64 150] 69))
  have hlt := Lib.hid h.lt
  clear h
  go_enter Tryd.func20, Tryd.ntmps20
  go_wp2_with (go_at_call 34; refine (as_missE b p s v0 _ ⟨w.heap.size, 0, none⟩ _ hh.out (by have := hlt.out; simp; omega)).mono ?_; rintro en w1 ⟨rfl, rfl⟩)
  go_ret
  exact ⟨rfl, rfl⟩

theorem As_nil (t : Value) (w : World) : Calls Tryd.prog 20 #[.nilIface, t] w fun en w' => en = .returned (.bool false) ∧ w = w' := by
  go_enter Tryd.func20, Tryd.ntmps20
  go_wp2
  go_ret
  exact ⟨rfl, rfl⟩

theorem outermost_nil (w : World) : Calls Tryd.prog 28 #[.nilIface] w fun en w' => en = .returned (.pointer none) ∧ Below w.heap.size w w' := by
  go_enter Tryd.func28, Tryd.ntmps28
  go_wp2_with (go_at_call 20; refine (As_nil _ _).mono ?_; rintro en w1 ⟨rfl, rfl⟩)
  go_ret
  exact ⟨rfl, (Below.refl w.heap.size w).alloc (Nat.le_refl _) _⟩
set_option maxHeartbeats 1000000 in
theorem outermost_plain (B p : Nat) (w : World) (hT : Et B w) : Calls Tryd.prog 28 #[pe p] w fun en w' => en = .returned (.pointer none) ∧ Below w.heap.size w w' := by
  have lt : w.heap.size ≤ w.heap.size := Nat.le_refl _
  have b1 : Below w.heap.size w (w.alloc (.cells #[.pointer none] 42)) := (Below.refl w.heap.size w).alloc lt _
  have hT1 := Lib.hid (hT.below b1 hT.size)
  go_enter Tryd.func28, Tryd.ntmps28
  go_wp2_with (go_at_call 20; refine (As_missP B p ⟨w.heap.size, 0, none⟩ _ hT1.out).mono ?_; rintro en w1 ⟨rfl, rfl⟩)
  go_ret
  exact ⟨rfl, ((b1.alloc (by simp) _).alloc (by simp; omega) _).alloc (by simp; omega) _⟩
theorem of_nil (w : World) : Calls Tryd.prog 15 #[.nilIface] w fun en w' => en = .returned (.int .i64 0) ∧ Below w.heap.size w w' := by
  go_enter Tryd.func15, Tryd.ntmps15
  go_wp2_with fail
  go_ret
  exact ⟨rfl, Below.refl _ _⟩
set_option maxHeartbeats 1000000 in
theorem of_plain (B b p : Nat) (s v0 : Value) (w : World) (hT : Et B w) (h : Has w b 47 #[s, v0, pe p]) : Calls Tryd.prog 15 #[.iface 42 (.pointer (some ⟨b, 0, none⟩))] w fun en w' => en = .returned (.int .i64 2) ∧ Below w.heap.size w w' := by
  have lt : w.heap.size ≤ w.heap.size := Nat.le_refl _
  have b1 : Below w.heap.size w (w.alloc (.cells #[.int .i64 0] 28)) := (Below.refl w.heap.size w).alloc lt _
  have hT1 := Lib.hid (hT.below b1 hT.size)
  have hh := Lib.hid (h.alloc (.cells #[.int .i64 0] 28))
  clear h
  go_enter Tryd.func15, Tryd.ntmps15
  go_wp2_with (go_at_call 20; refine (As_missE B b p s v0 ⟨w.heap.size, 0, none⟩ _ hT1.out hh.out).mono ?_; rintro en w1 ⟨rfl, rfl⟩)
  go_ret
  exact ⟨rfl, ((b1.alloc (by simp) _).alloc (by simp; omega) _).alloc (by simp; omega) _⟩
end Go.Proofs.YtlbpephbigikcaaDoor.flt
