/- Texts laid into one: FltB, FltC, FltD. -/
import Derived.Test.YtcdedkgkingbdaaGreatDoorQ012
import Derived.Test.YtcdedkgkingbdaaGreatDoorQ014
import Derived.Lib.ItoaWalk
import Derived.Test.YtcdedkgkingbdaaGreatDoorQ004
import Derived.Test.YtcdedkgkingbdaaGreatDoorQ000
section
/- fault: errors.As by its contracts: the target a *Fault variable (the outermost fault), or an Errno variable (the number behind all steps). -/
namespace Go.Proofs.YtcdedkgkingbdaaGreatDoor.flt
open Go Go.RowKit Go.Extern.Stop Go.Stop Go.Extern

theorem unwrap_calls (x : Sp) (r : List Sp) (n : Int) (w : World) (h : Has w x.b 204 #[.string x.s, .int .i64 x.a, ev r n]) :
    Calls Tryz.prog 257 #[.pointer (some ⟨x.b, 0, none⟩)] w fun en w' => en = .returned (ev r n) ∧ w = w' := by
  have c2 : w.cell? ⟨x.b, 2, none⟩ = some (ev r n) := (h.cell 2).trans rfl
  generalize ev r n = v at *
  go_enter Tryz.func257, Tryz.ntmps257
  go_wp2
  go_ret
  exact ⟨rfl, rfl⟩

set_option maxHeartbeats 1000000 in
theorem as_miss (n : Int) (tgt : Value) (a : Addr) (w : World) :
    Calls Tryz.prog 133 #[.iface 55 (.int .i64 n), tgt, .agg #[.pointer (some ⟨5, 297, none⟩), .pointer (some a), .int .u64 150], .iface 300 (.agg #[.pointer (some ⟨5, 202, none⟩)])] w
      fun en w' => en = .returned (.bool false) ∧ w' = w.alloc (.cells #[.pointer (some ⟨5, 297, none⟩), .pointer (some a), .int .u64 150] 246) := by
  have h10 := @run_callFunc_extern Tryz.prog 171 _ ReflectliteType.typeOf Tryz.func171 (by kernel_rfl) (by kernel_rfl) (by kernel_rfl) (by kernel_rfl)
  have h35 := @run_callFunc_extern Tryz.prog 264 _ (ReflectliteType.relation "AssignableTo" ReflectliteType.assignableTo) Tryz.func264 (by kernel_rfl) (by kernel_rfl) (by kernel_rfl) (by kernel_rfl)
  have tO := typeOfErrno
  have mA := methodAssign
  have a1 := assignEPF
  have n1 := noAsE
  have n2 := noUnE
  have n3 := noUnsE
  go_enter Tryz.func133, Tryz.ntmps133
  go_wp2
  refine wp_loop_rounds 1 ?_
  rw [rounds_succ]
  go_wp2
  go_ret
  exact ⟨rfl, rfl⟩

set_option maxHeartbeats 2000000 in
theorem as_hit (e ta a : Addr) (tgt old : Value) (w : World) (h1 : w.cell? a = some (.pointer (some ta))) (h2 : w.cell? ta = some old) (h3 : w.frozen? ta = false) (ha : a.block < w.heap.size) (ht : ta.block < w.heap.size) :
    Calls Tryz.prog 133 #[.iface 202 (.pointer (some e)), tgt, .agg #[.pointer (some ⟨5, 297, none⟩), .pointer (some a), .int .u64 150], .iface 300 (.agg #[.pointer (some ⟨5, 202, none⟩)])] w
      fun en w' => en = .returned (.bool true) ∧ w' = ((w.alloc (.cells #[.pointer (some ⟨5, 297, none⟩), .pointer (some a), .int .u64 150] 246)).alloc (.cells #[.pointer (some e)] 202)).setCell ta (.pointer (some e)) := by
  have h6 := @run_callFunc_extern Tryz.prog 130 _ (fun args => ReflectliteValue.unpack (args.getD 0 (.tuple #[]))) Tryz.func130 (by kernel_rfl) (by kernel_rfl) (by kernel_rfl) (by kernel_rfl)
  have h10 := @run_callFunc_extern Tryz.prog 171 _ ReflectliteType.typeOf Tryz.func171 (by kernel_rfl) (by kernel_rfl) (by kernel_rfl) (by kernel_rfl)
  have h35 := @run_callFunc_extern Tryz.prog 264 _ (ReflectliteType.relation "AssignableTo" ReflectliteType.assignableTo) Tryz.func264 (by kernel_rfl) (by kernel_rfl) (by kernel_rfl) (by kernel_rfl)
  have h11 := @run_callFunc_extern Tryz.prog 172 _ (ReflectliteValue.method (ReflectliteValue.valueError "reflectlite.Value.Elem" 0) ReflectliteValue.elem) Tryz.func172 (by kernel_rfl) (by kernel_rfl) (by kernel_rfl) (by kernel_rfl)
  have h12 := @run_callFunc_extern Tryz.prog 173 _ ReflectliteValue.set Tryz.func173 (by kernel_rfl) (by kernel_rfl) (by kernel_rfl) (by kernel_rfl)
  have tO := typeOfPF
  have mA := methodAssign
  have a1 := assignPFPF
  have v1 := valueOfPF
  have el := elemVPPF a ta (w.alloc (.cells #[.pointer (some ⟨5, 297, none⟩), .pointer (some a), .int .u64 150] 246)) (by rw [World.cell?_alloc_lt _ _ a ha]; exact h1)
  have st := setPF ta ⟨w.heap.size + 1, 0, none⟩ e old ((w.alloc (.cells #[.pointer (some ⟨5, 297, none⟩), .pointer (some a), .int .u64 150] 246)).alloc (.cells #[.pointer (some e)] 202))
    (by rw [World.cell?_alloc_at _ _ _ _ (by simp)]; rfl)
    (by rw [World.cell?_alloc_lt _ _ ta (by simp; omega), World.cell?_alloc_lt _ _ ta ht]; exact h2)
    (by rw [World.frozen?_alloc_old _ _ ta (by simp; omega), World.frozen?_alloc_old _ _ ta (Nat.ne_of_lt ht)]; exact h3)
  go_enter Tryz.func133, Tryz.ntmps133
  go_wp2
  refine wp_loop_rounds 1 ?_
  rw [rounds_succ]
  go_wp2
  go_ret
  exact ⟨rfl, rfl⟩

set_option maxHeartbeats 2000000 in
theorem as_num (B : Nat) (L : List Sp) (n : Int) (ta a : Addr) (tgt old : Value) (w : World) (hE : Er B w L n) (hB : B ≤ w.heap.size) (h1 : w.cell? a = some (.pointer (some ta))) (h2 : w.cell? ta = some old) (h3 : w.frozen? ta = false) (ha : a.block < w.heap.size) (ht : ta.block < w.heap.size) :
    Calls Tryz.prog 133 #[ev L n, tgt, .agg #[.pointer (some ⟨5, 190, none⟩), .pointer (some a), .int .u64 150], .iface 300 (.agg #[.pointer (some ⟨5, 55, none⟩)])] w
      fun en w' => en = .returned (.bool true) ∧ w' = ((w.alloc (.cells #[.pointer (some ⟨5, 190, none⟩), .pointer (some a), .int .u64 150] 246)).alloc (.cells #[.int .i64 n] 55)).setCell ta (.int .i64 n) := by
  have h6 := @run_callFunc_extern Tryz.prog 130 _ (fun args => ReflectliteValue.unpack (args.getD 0 (.tuple #[]))) Tryz.func130 (by kernel_rfl) (by kernel_rfl) (by kernel_rfl) (by kernel_rfl)
  have h10 := @run_callFunc_extern Tryz.prog 171 _ ReflectliteType.typeOf Tryz.func171 (by kernel_rfl) (by kernel_rfl) (by kernel_rfl) (by kernel_rfl)
  have h35 := @run_callFunc_extern Tryz.prog 264 _ (ReflectliteType.relation "AssignableTo" ReflectliteType.assignableTo) Tryz.func264 (by kernel_rfl) (by kernel_rfl) (by kernel_rfl) (by kernel_rfl)
  have h11 := @run_callFunc_extern Tryz.prog 172 _ (ReflectliteValue.method (ReflectliteValue.valueError "reflectlite.Value.Elem" 0) ReflectliteValue.elem) Tryz.func172 (by kernel_rfl) (by kernel_rfl) (by kernel_rfl) (by kernel_rfl)
  have h12 := @run_callFunc_extern Tryz.prog 173 _ ReflectliteValue.set Tryz.func173 (by kernel_rfl) (by kernel_rfl) (by kernel_rfl) (by kernel_rfl)
  have mA := methodAssign
  have mU := methodUnwrap
  have t1 := typeOfPF
  have t2 := typeOfErrno
  have a1 := assignPFE
  have a2 := assignEE
  have v1 := valueOfErrno
  have n1 := noAsE
  have n4 := noAsPF
  have n5 := unPF
  have el := elemVPErrno a ta (w.alloc (.cells #[.pointer (some ⟨5, 190, none⟩), .pointer (some a), .int .u64 150] 246)) (by rw [World.cell?_alloc_lt _ _ a ha]; exact h1)
  have st := setE ta ⟨w.heap.size + 1, 0, none⟩ n old ((w.alloc (.cells #[.pointer (some ⟨5, 190, none⟩), .pointer (some a), .int .u64 150] 246)).alloc (.cells #[.int .i64 n] 55))
    (by rw [World.cell?_alloc_at _ _ _ _ (by simp)]; rfl)
    (by rw [World.cell?_alloc_lt _ _ ta (by simp; omega), World.cell?_alloc_lt _ _ ta ht]; exact h2)
    (by rw [World.frozen?_alloc_old _ _ ta (by simp; omega), World.frozen?_alloc_old _ _ ta (Nat.ne_of_lt ht)]; exact h3)
  have hE' : Er B (w.alloc (.cells #[.pointer (some ⟨5, 190, none⟩), .pointer (some a), .int .u64 150] 246)) L n := hE.below ((Below.refl B w).alloc hB _) (Nat.le_refl B)
  clear hE h1 h2 h3
  go_enter Tryz.func133, Tryz.ntmps133
  go_wp2
  go_name_world W hW
  rw [hW] at el st hE'
  have hz : W.heap.size = w.heap.size + 1 := by rw [← hW]; simp
  have v2 : ∀ n, (ReflectliteValue.unpack (.iface 55 (.int .i64 n))).run Tryz.prog W = .ok (.agg #[.pointer (some ⟨5, 55, none⟩), .pointer (some ⟨w.heap.size + 1, 0, none⟩), .int .u64 130]) (W.alloc (.cells #[.int .i64 n] 55)) := fun n => by rw [← hz]; exact v1 n W
  have c6 : ∀ i, W.cell? ⟨w.heap.size, i, none⟩ = #[hd 190, Value.pointer (some a), Value.int .u64 150][i]? := fun i => by rw [← hW]; exact (Has.made w 246 _).cell i
  have k0 := c6 0
  have k1 := c6 1
  have k2 := c6 2
  clear c6
  simp at k0 k1 k2
  replace hW := Lib.hid hW
  clear v1
  go_loopg [0] L.length (fun k v wr => ∃ L' : List Sp, v = ev L' n ∧ L'.length = k ∧ wr = W ∧ Hid (Er B W L' n))
  case atStart => exact ⟨L, rfl, rfl, rfl, Lib.hid hE'⟩
  case round =>
    obtain ⟨L', rfl, hk, rfl, hE2⟩ := hrel
    cases L' with
    | nil =>
      unfold ev
      go_wp2
      go_ret
      exact ⟨rfl, by rw [hW.out]⟩
    | cons x r =>
      have hh := Lib.hid hE2.out.1.1
      have hr := Lib.hid hE2.out.2
      clear hE2 el st v2 t2 a2
      rw [show ev (x :: r) n = .iface 202 (.pointer (some ⟨x.b, 0, none⟩)) from rfl]
      cases r with
      | nil =>
        have hh2 : Has wr x.b 204 #[.string x.s, .int .i64 x.a, .iface 55 (.int .i64 n)] := hh.out
        replace hh2 := Lib.hid hh2
        clear hh
        go_wp2_with ((go_at_call 257); refine (unwrap_calls x [] n _ hh2.out).mono ?_; rintro en w1 ⟨rfl, rfl⟩; rw [show ev [] n = .iface 55 (.int .i64 n) from rfl])
        go_roundg 0
        case measure => rw [← hk]; simp
        case rel => exact ⟨[], rfl, rfl, rfl, hr⟩
      | cons y r =>
        have hh2 : Has wr x.b 204 #[.string x.s, .int .i64 x.a, .iface 202 (.pointer (some ⟨y.b, 0, none⟩))] := hh.out
        replace hh2 := Lib.hid hh2
        clear hh
        go_wp2_with ((go_at_call 257); refine (unwrap_calls x (y :: r) n _ hh2.out).mono ?_; rintro en w1 ⟨rfl, rfl⟩; rw [show ev (y :: r) n = .iface 202 (.pointer (some ⟨y.b, 0, none⟩)) from rfl])
        go_roundg (r.length + 1)
        case measure => rw [← hk]; simp
        case rel => exact ⟨y :: r, rfl, rfl, rfl, hr⟩
end Go.Proofs.YtcdedkgkingbdaaGreatDoor.flt
end

section
/- fault: errors.As, outermost, Of. -/
namespace Go.Proofs.YtcdedkgkingbdaaGreatDoor.flt
open Go Go.RowKit Go.Extern.Stop Go.Stop Go.Extern

/-- errors.errorType's cell as it is laid; its block lies below B. -/
structure Et (B : Nat) (w : World) : Prop where
  cell : w.cell? ⟨0, 0, none⟩ = some (.iface 300 (.agg #[.pointer (some ⟨5, 63, none⟩)]))
  lo : 0 < B
  size : B ≤ w.heap.size
section
variable {B C : Nat} {w w' : World}
theorem Et.keep (h : Et B w) (s : w.heap.size ≤ w'.heap.size) (e : ∀ k, k < B → w'.heap[k]? = w.heap[k]?) : Et B w' :=
  ⟨by have := h.cell; unfold World.cell? at *; rw [e _ h.lo]; exact this, h.lo, Nat.le_trans h.size s⟩
theorem Et.below (h : Et B w) (b : Below C w w') (hC : B ≤ C) : Et B w' := h.keep b.size fun k hk => b.block k (by omega)
theorem Et.turn {F : Nat → Prop} (h : Et B w) (t : Turn F w w') (hF : ∀ k, F k → B ≤ k) : Et B w' :=
  h.keep t.size fun k hk => t.block k (by have := h.size; omega) (fun f => by have := hF k f; omega)
end

set_option maxHeartbeats 4000000 in
theorem As_hit (B : Nat) (e ta : Addr) (old : Value) (w : World) (hT : Et B w) (h2 : w.cell? ta = some old) (h3 : w.frozen? ta = false) (ht : ta.block < w.heap.size) :
    Calls Tryz.prog 93 #[.iface 202 (.pointer (some e)), .iface 297 (.pointer (some ta))] w fun en w' => en = .returned (.bool true) ∧
      w' = ((((w.alloc (.cells #[.pointer (some ta)] 297)).alloc (.cells #[.pointer (some ⟨5, 297, none⟩), .pointer (some ⟨w.heap.size, 0, none⟩), .int .u64 150] 246)).alloc (.cells #[.pointer (some ⟨5, 297, none⟩), .pointer (some ⟨w.heap.size, 0, none⟩), .int .u64 150] 246)).alloc (.cells #[.pointer (some e)] 202)).setCell ta (.pointer (some e)) := by
  have h6 := @run_callFunc_extern Tryz.prog 130 _ (fun args => ReflectliteValue.unpack (args.getD 0 (.tuple #[]))) Tryz.func130 (by kernel_rfl) (by kernel_rfl) (by kernel_rfl) (by kernel_rfl)
  have h7 := @run_callFunc_extern Tryz.prog 131 _ (ReflectliteValue.methodAny (ReflectliteValue.valueError "reflectlite.Value.Type" 0) (fun t _ _ _ => ReflectliteType.toType t)) Tryz.func131 (by kernel_rfl) (by kernel_rfl) (by kernel_rfl) (by kernel_rfl)
  have h8 := @run_callFunc_extern Tryz.prog 132 _ (ReflectliteValue.method (ReflectliteValue.valueError "reflectlite.Value.IsNil" 0) ReflectliteValue.isNil) Tryz.func132 (by kernel_rfl) (by kernel_rfl) (by kernel_rfl) (by kernel_rfl)
  have h27 := @run_callFunc_extern Tryz.prog 204 _ (ReflectliteType.abiMethod fun t => do pure (.int .u8 (← Rtype.kind t))) Tryz.func204 (by kernel_rfl) (by kernel_rfl) (by kernel_rfl) (by kernel_rfl)
  have h37 := @run_callFunc_extern Tryz.prog 266 _ (ReflectliteType.method ReflectliteType.elem) Tryz.func266 (by kernel_rfl) (by kernel_rfl) (by kernel_rfl) (by kernel_rfl)
  have h38 := @run_callFunc_extern Tryz.prog 267 _ (ReflectliteType.relation "Implements" ReflectliteType.implements_) Tryz.func267 (by kernel_rfl) (by kernel_rfl) (by kernel_rfl) (by kernel_rfl)
  have f6 := valueOfPPF
  have f7 := typePPF
  have mK := methodKind
  have mE := methodElem
  have mI := methodImpl
  have k27 := kindPPF
  have k25 := kindPF
  have e27 := elemPPF
  have i25 := implPF
  have lo := hT.lo
  have lt := hT.size
  have n8 := isNilPPF ⟨w.heap.size, 0, none⟩ ta ((w.alloc (.cells #[.pointer (some ta)] 297)).alloc (.cells #[.pointer (some ⟨5, 297, none⟩), .pointer (some ⟨w.heap.size, 0, none⟩), .int .u64 150] 246)) (by simp)
  have hg2 : ((w.alloc (.cells #[.pointer (some ta)] 297)).alloc (.cells #[.pointer (some ⟨5, 297, none⟩), .pointer (some ⟨w.heap.size, 0, none⟩), .int .u64 150] 246)).cell? ⟨0, 0, none⟩ = some (.iface 300 (.agg #[.pointer (some ⟨5, 63, none⟩)])) := by
    rw [World.cell?_alloc_lt _ _ ⟨0, 0, none⟩ (by simp), World.cell?_alloc_lt _ _ ⟨0, 0, none⟩ (by show 0 < w.heap.size; omega)]; exact hT.cell
  have q1 : ((w.alloc (.cells #[.pointer (some ta)] 297)).alloc (.cells #[.pointer (some ⟨5, 297, none⟩), .pointer (some ⟨w.heap.size, 0, none⟩), .int .u64 150] 246)).cell? ⟨w.heap.size, 0, none⟩ = some (.pointer (some ta)) := by simp
  have q2 : ((w.alloc (.cells #[.pointer (some ta)] 297)).alloc (.cells #[.pointer (some ⟨5, 297, none⟩), .pointer (some ⟨w.heap.size, 0, none⟩), .int .u64 150] 246)).cell? ta = some old := by
    rw [World.cell?_alloc_lt _ _ ta (by simp; omega), World.cell?_alloc_lt _ _ ta ht]; exact h2
  have q3 : ((w.alloc (.cells #[.pointer (some ta)] 297)).alloc (.cells #[.pointer (some ⟨5, 297, none⟩), .pointer (some ⟨w.heap.size, 0, none⟩), .int .u64 150] 246)).frozen? ta = false := by
    rw [World.frozen?_alloc_old _ _ ta (by simp; omega), World.frozen?_alloc_old _ _ ta (Nat.ne_of_lt ht)]; exact h3
  go_enter Tryz.func93, Tryz.ntmps93
  go_wp2_with (go_at_call 133; refine (as_hit e ta ⟨w.heap.size, 0, none⟩ _ old _ q1 q2 q3 (by simp; omega) (by simp; omega)).mono ?_; rintro en w1 ⟨rfl, rfl⟩)
  go_ret
  exact ⟨rfl, rfl⟩
set_option maxHeartbeats 4000000 in
theorem As_miss (B : Nat) (n : Int) (ta : Addr) (w : World) (hT : Et B w) :
    Calls Tryz.prog 93 #[.iface 55 (.int .i64 n), .iface 297 (.pointer (some ta))] w fun en w' => en = .returned (.bool false) ∧
      w' = (((w.alloc (.cells #[.pointer (some ta)] 297)).alloc (.cells #[.pointer (some ⟨5, 297, none⟩), .pointer (some ⟨w.heap.size, 0, none⟩), .int .u64 150] 246)).alloc (.cells #[.pointer (some ⟨5, 297, none⟩), .pointer (some ⟨w.heap.size, 0, none⟩), .int .u64 150] 246)) := by
  have h6 := @run_callFunc_extern Tryz.prog 130 _ (fun args => ReflectliteValue.unpack (args.getD 0 (.tuple #[]))) Tryz.func130 (by kernel_rfl) (by kernel_rfl) (by kernel_rfl) (by kernel_rfl)
  have h7 := @run_callFunc_extern Tryz.prog 131 _ (ReflectliteValue.methodAny (ReflectliteValue.valueError "reflectlite.Value.Type" 0) (fun t _ _ _ => ReflectliteType.toType t)) Tryz.func131 (by kernel_rfl) (by kernel_rfl) (by kernel_rfl) (by kernel_rfl)
  have h8 := @run_callFunc_extern Tryz.prog 132 _ (ReflectliteValue.method (ReflectliteValue.valueError "reflectlite.Value.IsNil" 0) ReflectliteValue.isNil) Tryz.func132 (by kernel_rfl) (by kernel_rfl) (by kernel_rfl) (by kernel_rfl)
  have h27 := @run_callFunc_extern Tryz.prog 204 _ (ReflectliteType.abiMethod fun t => do pure (.int .u8 (← Rtype.kind t))) Tryz.func204 (by kernel_rfl) (by kernel_rfl) (by kernel_rfl) (by kernel_rfl)
  have h37 := @run_callFunc_extern Tryz.prog 266 _ (ReflectliteType.method ReflectliteType.elem) Tryz.func266 (by kernel_rfl) (by kernel_rfl) (by kernel_rfl) (by kernel_rfl)
  have h38 := @run_callFunc_extern Tryz.prog 267 _ (ReflectliteType.relation "Implements" ReflectliteType.implements_) Tryz.func267 (by kernel_rfl) (by kernel_rfl) (by kernel_rfl) (by kernel_rfl)
  have f6 := valueOfPPF
  have f7 := typePPF
  have mK := methodKind
  have mE := methodElem
  have mI := methodImpl
  have k27 := kindPPF
  have k25 := kindPF
  have e27 := elemPPF
  have i25 := implPF
  have lo := hT.lo
  have lt := hT.size
  have n8 := isNilPPF ⟨w.heap.size, 0, none⟩ ta ((w.alloc (.cells #[.pointer (some ta)] 297)).alloc (.cells #[.pointer (some ⟨5, 297, none⟩), .pointer (some ⟨w.heap.size, 0, none⟩), .int .u64 150] 246)) (by simp)
  have hg2 : ((w.alloc (.cells #[.pointer (some ta)] 297)).alloc (.cells #[.pointer (some ⟨5, 297, none⟩), .pointer (some ⟨w.heap.size, 0, none⟩), .int .u64 150] 246)).cell? ⟨0, 0, none⟩ = some (.iface 300 (.agg #[.pointer (some ⟨5, 63, none⟩)])) := by
    rw [World.cell?_alloc_lt _ _ ⟨0, 0, none⟩ (by simp), World.cell?_alloc_lt _ _ ⟨0, 0, none⟩ (by show 0 < w.heap.size; omega)]; exact hT.cell
  go_enter Tryz.func93, Tryz.ntmps93
  go_wp2_with (go_at_call 133; refine (as_miss n _ ⟨w.heap.size, 0, none⟩ _).mono ?_; rintro en w1 ⟨rfl, rfl⟩)
  go_ret
  exact ⟨rfl, rfl⟩
set_option maxHeartbeats 4000000 in
theorem As_num (B : Nat) (L : List Sp) (n : Int) (ta : Addr) (old : Value) (w : World) (hT : Et B w) (hE : Er B w L n) (h2 : w.cell? ta = some old) (h3 : w.frozen? ta = false) (ht : ta.block < w.heap.size) :
    Calls Tryz.prog 93 #[ev L n, .iface 190 (.pointer (some ta))] w fun en w' => en = .returned (.bool true) ∧
      w' = ((((w.alloc (.cells #[.pointer (some ta)] 190)).alloc (.cells #[.pointer (some ⟨5, 190, none⟩), .pointer (some ⟨w.heap.size, 0, none⟩), .int .u64 150] 246)).alloc (.cells #[.pointer (some ⟨5, 190, none⟩), .pointer (some ⟨w.heap.size, 0, none⟩), .int .u64 150] 246)).alloc (.cells #[.int .i64 n] 55)).setCell ta (.int .i64 n) := by
  have h6 := @run_callFunc_extern Tryz.prog 130 _ (fun args => ReflectliteValue.unpack (args.getD 0 (.tuple #[]))) Tryz.func130 (by kernel_rfl) (by kernel_rfl) (by kernel_rfl) (by kernel_rfl)
  have h7 := @run_callFunc_extern Tryz.prog 131 _ (ReflectliteValue.methodAny (ReflectliteValue.valueError "reflectlite.Value.Type" 0) (fun t _ _ _ => ReflectliteType.toType t)) Tryz.func131 (by kernel_rfl) (by kernel_rfl) (by kernel_rfl) (by kernel_rfl)
  have h8 := @run_callFunc_extern Tryz.prog 132 _ (ReflectliteValue.method (ReflectliteValue.valueError "reflectlite.Value.IsNil" 0) ReflectliteValue.isNil) Tryz.func132 (by kernel_rfl) (by kernel_rfl) (by kernel_rfl) (by kernel_rfl)
  have h27 := @run_callFunc_extern Tryz.prog 204 _ (ReflectliteType.abiMethod fun t => do pure (.int .u8 (← Rtype.kind t))) Tryz.func204 (by kernel_rfl) (by kernel_rfl) (by kernel_rfl) (by kernel_rfl)
  have h37 := @run_callFunc_extern Tryz.prog 266 _ (ReflectliteType.method ReflectliteType.elem) Tryz.func266 (by kernel_rfl) (by kernel_rfl) (by kernel_rfl) (by kernel_rfl)
  have h38 := @run_callFunc_extern Tryz.prog 267 _ (ReflectliteType.relation "Implements" ReflectliteType.implements_) Tryz.func267 (by kernel_rfl) (by kernel_rfl) (by kernel_rfl) (by kernel_rfl)
  have f6 := valueOfPErrno
  have f7 := typePErrno
  have mK := methodKind
  have mE := methodElem
  have mI := methodImpl
  have k27 := kindPErrno
  have k25 := kindErrno
  have e27 := elemPErrno
  have i25 := implErrno
  have lo := hT.lo
  have lt := hT.size
  have n8 := isNilPErrno ⟨w.heap.size, 0, none⟩ ta ((w.alloc (.cells #[.pointer (some ta)] 190)).alloc (.cells #[.pointer (some ⟨5, 190, none⟩), .pointer (some ⟨w.heap.size, 0, none⟩), .int .u64 150] 246)) (by simp)
  have hg2 : ((w.alloc (.cells #[.pointer (some ta)] 190)).alloc (.cells #[.pointer (some ⟨5, 190, none⟩), .pointer (some ⟨w.heap.size, 0, none⟩), .int .u64 150] 246)).cell? ⟨0, 0, none⟩ = some (.iface 300 (.agg #[.pointer (some ⟨5, 63, none⟩)])) := by
    rw [World.cell?_alloc_lt _ _ ⟨0, 0, none⟩ (by simp), World.cell?_alloc_lt _ _ ⟨0, 0, none⟩ (by show 0 < w.heap.size; omega)]; exact hT.cell
  have q1 : ((w.alloc (.cells #[.pointer (some ta)] 190)).alloc (.cells #[.pointer (some ⟨5, 190, none⟩), .pointer (some ⟨w.heap.size, 0, none⟩), .int .u64 150] 246)).cell? ⟨w.heap.size, 0, none⟩ = some (.pointer (some ta)) := by simp
  have q2 : ((w.alloc (.cells #[.pointer (some ta)] 190)).alloc (.cells #[.pointer (some ⟨5, 190, none⟩), .pointer (some ⟨w.heap.size, 0, none⟩), .int .u64 150] 246)).cell? ta = some old := by
    rw [World.cell?_alloc_lt _ _ ta (by simp; omega), World.cell?_alloc_lt _ _ ta ht]; exact h2
  have q3 : ((w.alloc (.cells #[.pointer (some ta)] 190)).alloc (.cells #[.pointer (some ⟨5, 190, none⟩), .pointer (some ⟨w.heap.size, 0, none⟩), .int .u64 150] 246)).frozen? ta = false := by
    rw [World.frozen?_alloc_old _ _ ta (by simp; omega), World.frozen?_alloc_old _ _ ta (Nat.ne_of_lt ht)]; exact h3
  have hE2 := Lib.hid (hE.below (((Below.refl B w).alloc lt (.cells #[.pointer (some ta)] 190)).alloc (by simp; omega) (.cells #[.pointer (some ⟨5, 190, none⟩), .pointer (some ⟨w.heap.size, 0, none⟩), .int .u64 150] 246)) (Nat.le_refl B))
  clear hE
  cases L with
  | nil =>
    rw [show ev [] n = .iface 55 (.int .i64 n) from rfl]
    go_enter Tryz.func93, Tryz.ntmps93
    go_wp2_with (go_at_call 133; refine (as_num B [] n ta ⟨w.heap.size, 0, none⟩ _ old _ hE2.out (by simp; omega) q1 q2 q3 (by simp; omega) (by simp; omega)).mono ?_; rintro en w1 ⟨rfl, rfl⟩)
    go_ret
    exact ⟨rfl, rfl⟩
  | cons x r =>
    rw [show ev (x :: r) n = .iface 202 (.pointer (some ⟨x.b, 0, none⟩)) from rfl]
    go_enter Tryz.func93, Tryz.ntmps93
    go_wp2_with (go_at_call 133; refine (as_num B (x :: r) n ta ⟨w.heap.size, 0, none⟩ _ old _ hE2.out (by simp; omega) q1 q2 q3 (by simp; omega) (by simp; omega)).mono ?_; rintro en w1 ⟨rfl, rfl⟩)
    go_ret
    exact ⟨rfl, rfl⟩
theorem cell_put_var (w : World) (v u : Value) (t : TypeId) (o1 o2 o3 o4 : Obj) : ((((((w.alloc (.cells #[v] t)).alloc o1).alloc o2).alloc o3).alloc o4).setCell ⟨w.heap.size, 0, none⟩ u).cell? ⟨w.heap.size, 0, none⟩ = some u := by
  have h : Has (((((w.alloc (.cells #[v] t)).alloc o1).alloc o2).alloc o3).alloc o4) w.heap.size t #[v] := ((((Has.made w t #[v]).alloc o1).alloc o2).alloc o3).alloc o4
  exact ((h.put 0 u).cell 0).trans rfl

/-- The first fault of an error; nil: there is none. -/
def top : List Sp → Value
  | [] => .pointer none
  | x :: _ => .pointer (some ⟨x.b, 0, none⟩)

set_option maxHeartbeats 1000000 in
theorem outermost_calls (B : Nat) (L : List Sp) (n : Int) (w : World) (hT : Et B w) : Calls Tryz.prog 126 #[ev L n] w fun en w' => en = .returned (top L) ∧ Below w.heap.size w w' := by
  have lt : w.heap.size ≤ w.heap.size := Nat.le_refl _
  have b1 : Below w.heap.size w (w.alloc (.cells #[.pointer none] 202)) := (Below.refl w.heap.size w).alloc lt _
  have hT1 := Lib.hid (hT.below b1 hT.size)
  cases L with
  | nil =>
    rw [show ev [] n = .iface 55 (.int .i64 n) from rfl]
    go_enter Tryz.func126, Tryz.ntmps126
    go_wp2_with (go_at_call 93; refine (As_miss B n ⟨w.heap.size, 0, none⟩ _ hT1.out).mono ?_; rintro en w1 ⟨rfl, rfl⟩)
    go_ret
    exact ⟨rfl, ((b1.alloc (by simp) _).alloc (by simp; omega) _).alloc (by simp; omega) _⟩
  | cons x r =>
    rw [show ev (x :: r) n = .iface 202 (.pointer (some ⟨x.b, 0, none⟩)) from rfl]
    have key : ∀ w1 : World, w1 = ((((((w.alloc (.cells #[.pointer none] 202)).alloc (.cells #[.pointer (some ⟨w.heap.size, 0, none⟩)] 297)).alloc (.cells #[.pointer (some ⟨5, 297, none⟩), .pointer (some ⟨(w.alloc (.cells #[.pointer none] 202)).heap.size, 0, none⟩), .int .u64 150] 246)).alloc (.cells #[.pointer (some ⟨5, 297, none⟩), .pointer (some ⟨(w.alloc (.cells #[.pointer none] 202)).heap.size, 0, none⟩), .int .u64 150] 246)).alloc (.cells #[.pointer (some ⟨x.b, 0, none⟩)] 202))).setCell ⟨w.heap.size, 0, none⟩ (.pointer (some ⟨x.b, 0, none⟩)) →
        Below w.heap.size w w1 ∧ w1.cell? ⟨w.heap.size, 0, none⟩ = some (.pointer (some ⟨x.b, 0, none⟩)) := fun w1 hw => by
      rw [hw]
      exact ⟨((((b1.alloc (by simp) _).alloc (by simp; omega) _).alloc (by simp; omega) _).alloc (by simp; omega) _).setCell (by simp) _, cell_put_var w _ _ _ _ _ _ _⟩
    go_enter Tryz.func126, Tryz.ntmps126
    go_wp2_with (go_at_call 93; refine (As_hit B ⟨x.b, 0, none⟩ ⟨w.heap.size, 0, none⟩ (.pointer none) _ hT1.out (by simp) (by simp) (by simp)).mono ?_; rintro en w1 ⟨rfl, hw⟩; obtain ⟨b2, c0⟩ := key _ hw; clear hw key)
    go_ret
    exact ⟨rfl, b2⟩

set_option maxHeartbeats 1000000 in
theorem of_calls (B : Nat) (L : List Sp) (n : Int) (w : World) (hT : Et B w) (hE : Er B w L n) : Calls Tryz.prog 45 #[ev L n] w fun en w' => en = .returned (.int .i64 n) ∧ Below w.heap.size w w' := by
  have lt : w.heap.size ≤ w.heap.size := Nat.le_refl _
  have b1 : Below w.heap.size w (w.alloc (.cells #[.int .i64 0] 55)) := (Below.refl w.heap.size w).alloc lt _
  have hT1 := Lib.hid (hT.below b1 hT.size)
  have hE1 := Lib.hid (hE.below b1 hT.size)
  clear hE
  have key : ∀ w1 : World, w1 = ((((((w.alloc (.cells #[.int .i64 0] 55)).alloc (.cells #[.pointer (some ⟨w.heap.size, 0, none⟩)] 190)).alloc (.cells #[.pointer (some ⟨5, 190, none⟩), .pointer (some ⟨(w.alloc (.cells #[.int .i64 0] 55)).heap.size, 0, none⟩), .int .u64 150] 246)).alloc (.cells #[.pointer (some ⟨5, 190, none⟩), .pointer (some ⟨(w.alloc (.cells #[.int .i64 0] 55)).heap.size, 0, none⟩), .int .u64 150] 246)).alloc (.cells #[.int .i64 n] 55))).setCell ⟨w.heap.size, 0, none⟩ (.int .i64 n) →
      Below w.heap.size w w1 ∧ w1.cell? ⟨w.heap.size, 0, none⟩ = some (.int .i64 n) := fun w1 hw => by
    rw [hw]
    exact ⟨((((b1.alloc (by simp) _).alloc (by simp; omega) _).alloc (by simp; omega) _).alloc (by simp; omega) _).setCell (by simp) _, cell_put_var w _ _ _ _ _ _ _⟩
  cases L with
  | nil =>
    rw [show ev [] n = .iface 55 (.int .i64 n) from rfl]
    go_enter Tryz.func45, Tryz.ntmps45
    go_wp2_with (go_at_call 93; refine (As_num B [] n ⟨w.heap.size, 0, none⟩ (.int .i64 0) _ hT1.out hE1.out (by simp) (by simp) (by simp)).mono ?_; rintro en w1 ⟨rfl, hw⟩; obtain ⟨b2, c0⟩ := key _ hw; clear hw key)
    go_ret
    exact ⟨rfl, b2⟩
  | cons x r =>
    rw [show ev (x :: r) n = .iface 202 (.pointer (some ⟨x.b, 0, none⟩)) from rfl]
    go_enter Tryz.func45, Tryz.ntmps45
    go_wp2_with (go_at_call 93; refine (As_num B (x :: r) n ⟨w.heap.size, 0, none⟩ (.int .i64 0) _ hT1.out hE1.out (by simp) (by simp) (by simp)).mono ?_; rintro en w1 ⟨rfl, hw⟩; obtain ⟨b2, c0⟩ := key _ hw; clear hw key)
    go_ret
    exact ⟨rfl, b2⟩
end Go.Proofs.YtcdedkgkingbdaaGreatDoor.flt
end

section
/- fault: In, Where. -/
namespace Go.Proofs.YtcdedkgkingbdaaGreatDoor.flt
open Go Go.RowKit Go.Extern.Stop Go.Stop Go.Extern

/-- The names of an error's steps, as values. -/
def names (L : List Sp) : List Value := L.map fun x => .string x.s
/-- The place of the innermost step; -1: there is none. -/
def place (L : List Sp) : Int := match L.getLast? with | some x => x.a | none => -1
theorem place_snoc (L : List Sp) (x : Sp) : place (L ++ [x]) = x.a := by unfold place; simp

theorem names_snoc (L : List Sp) (x : Sp) : names (L ++ [x]) = names L ++ [.string x.s] := by unfold names; simp
/-- Steps were answered, in new memory, and a place. -/
def WherePost (w : World) (B : Nat) (L : List Sp) (en : Ending) (w' : World) : Prop :=
  ∃ v, en = .returned (.tuple #[v, .int .i64 (place L)]) ∧ Seg w' 9 1 v L.length (names L) ∧ (∀ x, v.ownBlock = some x → B ≤ x) ∧ Below B w w'

theorem Er.tail {B : Nat} {w : World} {n : Int} : ∀ {l r : List Sp}, Er B w (l ++ r) n → Er B w r n
  | [], _, h => h
  | _ :: _, _, h => Er.tail h.2

set_option maxRecDepth 100000 in
set_option maxHeartbeats 2000000 in
theorem where_calls (B : Nat) (L : List Sp) (n : Int) (w : World) (hT : Et B w) (hE : Er B w L n) (hl : L.length ≤ 1000000) :
    Calls Tryz.prog 83 #[ev L n] w (WherePost w B L) := by
  obtain ⟨z0i, z0, hi0, hz0, hz1, hz2, hz3⟩ := strInfo
  have HI0 := Lib.hid hi0
  have HZ0 := Lib.hid hz0
  have HT := Lib.hid hT
  have HE := Lib.hid hE
  have HB : Hid (B ≤ w.heap.size) := Lib.hid hT.size
  clear hi0 hz0 hT hE
  go_enter Tryz.func83, Tryz.ntmps83
  go_wp2_with (first
    | (go_at_call 126; refine (outermost_calls B L n _ HT.out).mono ?_; rintro en w1 ⟨rfl, b1⟩)
    | fail)
  have HB1 := Lib.hid (below_less b1 HB.out)
  clear b1
  go_loopg [4, 5, 6] L.length (fun k v a p wr => ∃ done rest : List Sp, rest.length = k ∧ a = .int .i64 (place done) ∧ p = top rest ∧ Hid (done ++ rest = L) ∧ Hid (Seg wr 9 1 v done.length (names done) ∧ (∀ x, v.ownBlock = some x → B ≤ x) ∧ Below B w wr))
  case atStart => exact ⟨[], L, rfl, rfl, rfl, Lib.hid rfl, Lib.hid ⟨Seg.nil _ _ _, (fun x (hx : (Value.slice none 0 0).ownBlock = some x) => by cases hx), HB1.out⟩⟩
  case round =>
    obtain ⟨done, rest, hk, rfl, rfl, HA, HS⟩ := hrel
    cases rest with
    | nil =>
      rw [show top [] = .pointer none from rfl]
      go_wp2_with fail
      go_ret2
      have e : done = L := by have := HA.out; rw [List.append_nil] at this; exact this
      rw [← e]
      exact ⟨_, rfl, HS.out⟩
    | cons x r =>
      rw [show top (x :: r) = .pointer (some ⟨x.b, 0, none⟩) from rfl]
      have hcell := Lib.hid (Er.below (B := B) (C := B) (L := L) HE.out HS.out.2.2 (Nat.le_refl B))
      rw [← HA.out] at hcell
      have hx : Er B wr (x :: r) n := Er.tail hcell.out
      have c0 : wr.cell? ⟨x.b, 0, none⟩ = some (.string x.s) := (hx.1.1.cell 0).trans rfl
      have hh := Lib.hid hx.1
      have hr := Lib.hid hx.2
      clear hx hcell
      have hlen : done.length + (r.length + 1) ≤ 1000000 := by
        have := congrArg List.length HA.out
        rw [List.length_append, List.length_cons] at this
        omega
      go_wp2_with (first
        | ((with_reducible refine at_op 22 ?_); refine wpList_append_seg (o := ⟨some 22, _, _, _, _, _⟩) _ rfl (.tmp 16) (.tmp 21) 74 rfl 9 z0i z0 1 16 Tryz.underlying74 HI0.out HZ0.out hz1 hz3 hz2 (by decide) u4 done.length (names done) rfl (HS.out.1.alloc _) ⟨wr.heap.size, 0, none⟩ 1 1 [.string x.s] rfl rfl (World.news_of_block (heap_alloc_new _ _)) (by simp [Value.oneCell']) (by decide) (by unfold maxLen; omega) (by omega) _ rfl ?_;
           intro g off cp w4 hown hgrow hat hlt;
           have B4 : Hid (Below B wr w4) := Lib.hid (((Below.refl B wr).alloc (Nat.le_trans HB.out HS.out.2.2.size) _).trans (below_own hgrow HS.out.2.1 (Nat.le_trans (Nat.le_trans HB.out HS.out.2.2.size) (by simp))));
           have BW : Hid (Below B w w4) := Lib.hid (HS.out.2.2.trans B4.out);
           have HT4 := Lib.hid (HT.out.below BW.out (Nat.le_refl B));
           have c1 : w4.cell? ⟨x.b, 1, none⟩ = some (.int .i64 x.a) := ((hh.out.1.below B4.out hh.out.2).cell 1).trans rfl;
           have c2 : w4.cell? ⟨x.b, 2, none⟩ = some (ev r n) := ((hh.out.1.below B4.out hh.out.2).cell 2).trans rfl;
           have OW := Lib.hid hown;
           have AT : Hid (∀ y, some g = some y → B ≤ y) := Lib.hid (fun y hy => by
             injection hy with hy
             subst hy
             rcases hat with h | h
             · exact HS.out.2.1 _ h
             · rw [h]; exact Nat.le_trans (Nat.le_trans HB.out HS.out.2.2.size) (by simp));
           clear hown hgrow hat hlt c0 hh)
        | (go_at_call 126; refine (outermost_calls B r n _ HT4.out).mono ?_; rintro en w5 ⟨rfl, b5⟩)
        | fail)
      go_roundg r.length
      case measure => rw [← hk]; simp
      case rel =>
        refine ⟨done ++ [x], r, rfl, by rw [place_snoc], rfl, Lib.hid (by rw [← HA.out]; simp), Lib.hid ⟨?_, fun y hy => AT.out y hy, BW.out.trans (below_less b5 HT4.out.size)⟩⟩
        rw [List.length_append, names_snoc]
        exact Seg.below OW.out b5 (fun y hy => OW.out.lt hy)
end Go.Proofs.YtcdedkgkingbdaaGreatDoor.flt
end

