/- fault: errors.As, outermost, Of. -/
import Derived.Test.YtiogjmlkogeibaaDoorFltB
namespace Go.Proofs.YtiogjmlkogeibaaDoor.flt
open Go Go.RowKit Go.Extern.Stop Go.Stop Go.Extern

/-- errors.errorType's cell as it is laid; its block lies below B. -/
structure Et (B : Nat) (w : World) : Prop where
  cell : w.cell? ⟨0, 0, none⟩ = some (.iface 106 (.agg #[.pointer (some ⟨3, 35, none⟩)]))
  lo : 0 < B
  size : B ≤ w.heap.size
section
variable {B C : Nat} {w w' : World}
theorem Et.keep (h : Et B w) (s : w.heap.size ≤ w'.heap.size) (e : ∀ k, k < B → w'.heap[k]? = w.heap[k]?) : Et B w' :=
  ⟨by have := h.cell; unfold World.cell? at *; rw [e _ h.lo]; exact this, h.lo, Nat.le_trans h.size s⟩
theorem Et.below (h : Et B w) (b : Below C w w') (hC : B ≤ C) : Et B w' := h.keep b.size fun k hk => b.block k (by omega)
theorem Et.turn {F : Nat → Prop} (h : Et B w) (t : Turn F w w') (hF : ∀ k, F k → B ≤ k) : Et B w' :=
  h.keep t.size fun k hk => t.block k (by have := h.size; omega) (fun f => by have := hF k f; omega)
end

set_option maxHeartbeats 4000000 in
theorem As_hit (B : Nat) (e ta : Addr) (old : Value) (w : World) (hT : Et B w) (h2 : w.cell? ta = some old) (h3 : w.frozen? ta = false) (ht : ta.block < w.heap.size) :
    Calls Tryd.prog 24 #[.iface 68 (.pointer (some e)), .iface 128 (.pointer (some ta))] w fun en w' => en = .returned (.bool true) ∧
      w' = ((((w.alloc (.cells #[.pointer (some ta)] 128)).alloc (.cells #[.pointer (some ⟨3, 128, none⟩), .pointer (some ⟨w.heap.size, 0, none⟩), .int .u64 150] 78)).alloc (.cells #[.pointer (some ⟨3, 128, none⟩), .pointer (some ⟨w.heap.size, 0, none⟩), .int .u64 150] 78)).alloc (.cells #[.pointer (some e)] 68)).setCell ta (.pointer (some e)) := by
  have h6 := @run_callFunc_extern Tryd.prog 38 _ (fun args => ReflectliteValue.unpack (args.getD 0 (.tuple #[]))) Tryd.func38 (by kernel_rfl) (by kernel_rfl) (by kernel_rfl) (by kernel_rfl)
  have h7 := @run_callFunc_extern Tryd.prog 39 _ (ReflectliteValue.methodAny (ReflectliteValue.valueError "reflectlite.Value.Type" 0) (fun t _ _ _ => ReflectliteType.toType t)) Tryd.func39 (by kernel_rfl) (by kernel_rfl) (by kernel_rfl) (by kernel_rfl)
  have h8 := @run_callFunc_extern Tryd.prog 40 _ (ReflectliteValue.method (ReflectliteValue.valueError "reflectlite.Value.IsNil" 0) ReflectliteValue.isNil) Tryd.func40 (by kernel_rfl) (by kernel_rfl) (by kernel_rfl) (by kernel_rfl)
  have h27 := @run_callFunc_extern Tryd.prog 83 _ (ReflectliteType.abiMethod fun t => do pure (.int .u8 (← Rtype.kind t))) Tryd.func83 (by kernel_rfl) (by kernel_rfl) (by kernel_rfl) (by kernel_rfl)
  have h37 := @run_callFunc_extern Tryd.prog 96 _ (ReflectliteType.method ReflectliteType.elem) Tryd.func96 (by kernel_rfl) (by kernel_rfl) (by kernel_rfl) (by kernel_rfl)
  have h38 := @run_callFunc_extern Tryd.prog 97 _ (ReflectliteType.relation "Implements" ReflectliteType.implements_) Tryd.func97 (by kernel_rfl) (by kernel_rfl) (by kernel_rfl) (by kernel_rfl)
  have f6 := valueOfPPF
  have f7 := typePPF
  have mK := methodKind
  have mE := methodElem
  have mI := methodImpl
  have k27 := kindPPF
  have k25 := kindPF
  have e27 := elemPPF
  have i25 := implPF
  have lo := hT.lo
  have lt := hT.size
  have n8 := isNilPPF ⟨w.heap.size, 0, none⟩ ta ((w.alloc (.cells #[.pointer (some ta)] 128)).alloc (.cells #[.pointer (some ⟨3, 128, none⟩), .pointer (some ⟨w.heap.size, 0, none⟩), .int .u64 150] 78)) (by simp)
  have hg2 : ((w.alloc (.cells #[.pointer (some ta)] 128)).alloc (.cells #[.pointer (some ⟨3, 128, none⟩), .pointer (some ⟨w.heap.size, 0, none⟩), .int .u64 150] 78)).cell? ⟨0, 0, none⟩ = some (.iface 106 (.agg #[.pointer (some ⟨3, 35, none⟩)])) := by
    rw [World.cell?_alloc_lt _ _ ⟨0, 0, none⟩ (by simp), World.cell?_alloc_lt _ _ ⟨0, 0, none⟩ (by show 0 < w.heap.size; omega)]; exact hT.cell
  have q1 : ((w.alloc (.cells #[.pointer (some ta)] 128)).alloc (.cells #[.pointer (some ⟨3, 128, none⟩), .pointer (some ⟨w.heap.size, 0, none⟩), .int .u64 150] 78)).cell? ⟨w.heap.size, 0, none⟩ = some (.pointer (some ta)) := by simp
  have q2 : ((w.alloc (.cells #[.pointer (some ta)] 128)).alloc (.cells #[.pointer (some ⟨3, 128, none⟩), .pointer (some ⟨w.heap.size, 0, none⟩), .int .u64 150] 78)).cell? ta = some old := by
    rw [World.cell?_alloc_lt _ _ ta (by simp; omega), World.cell?_alloc_lt _ _ ta ht]; exact h2
  have q3 : ((w.alloc (.cells #[.pointer (some ta)] 128)).alloc (.cells #[.pointer (some ⟨3, 128, none⟩), .pointer (some ⟨w.heap.size, 0, none⟩), .int .u64 150] 78)).frozen? ta = false := by
    rw [World.frozen?_alloc_old _ _ ta (by simp; omega), World.frozen?_alloc_old _ _ ta (Nat.ne_of_lt ht)]; exact h3
  go_enter Tryd.func24, Tryd.ntmps24
  go_wp2_with (go_at_call 41; refine (as_hit e ta ⟨w.heap.size, 0, none⟩ _ old _ q1 q2 q3 (by simp; omega) (by simp; omega)).mono ?_; rintro en w1 ⟨rfl, rfl⟩)
  go_ret
  exact ⟨rfl, rfl⟩
set_option maxHeartbeats 4000000 in
theorem As_miss (B : Nat) (n : Int) (ta : Addr) (w : World) (hT : Et B w) :
    Calls Tryd.prog 24 #[.iface 38 (.int .i64 n), .iface 128 (.pointer (some ta))] w fun en w' => en = .returned (.bool false) ∧
      w' = (((w.alloc (.cells #[.pointer (some ta)] 128)).alloc (.cells #[.pointer (some ⟨3, 128, none⟩), .pointer (some ⟨w.heap.size, 0, none⟩), .int .u64 150] 78)).alloc (.cells #[.pointer (some ⟨3, 128, none⟩), .pointer (some ⟨w.heap.size, 0, none⟩), .int .u64 150] 78)) := by
  have h6 := @run_callFunc_extern Tryd.prog 38 _ (fun args => ReflectliteValue.unpack (args.getD 0 (.tuple #[]))) Tryd.func38 (by kernel_rfl) (by kernel_rfl) (by kernel_rfl) (by kernel_rfl)
  have h7 := @run_callFunc_extern Tryd.prog 39 _ (ReflectliteValue.methodAny (ReflectliteValue.valueError "reflectlite.Value.Type" 0) (fun t _ _ _ => ReflectliteType.toType t)) Tryd.func39 (by kernel_rfl) (by kernel_rfl) (by kernel_rfl) (by kernel_rfl)
  have h8 := @run_callFunc_extern Tryd.prog 40 _ (ReflectliteValue.method (ReflectliteValue.valueError "reflectlite.Value.IsNil" 0) ReflectliteValue.isNil) Tryd.func40 (by kernel_rfl) (by kernel_rfl) (by kernel_rfl) (by kernel_rfl)
  have h27 := @run_callFunc_extern Tryd.prog 83 _ (ReflectliteType.abiMethod fun t => do pure (.int .u8 (← Rtype.kind t))) Tryd.func83 (by kernel_rfl) (by kernel_rfl) (by kernel_rfl) (by kernel_rfl)
  have h37 := @run_callFunc_extern Tryd.prog 96 _ (ReflectliteType.method ReflectliteType.elem) Tryd.func96 (by kernel_rfl) (by kernel_rfl) (by kernel_rfl) (by kernel_rfl)
  have h38 := @run_callFunc_extern Tryd.prog 97 _ (ReflectliteType.relation "Implements" ReflectliteType.implements_) Tryd.func97 (by kernel_rfl) (by kernel_rfl) (by kernel_rfl) (by kernel_rfl)
  have f6 := valueOfPPF
  have f7 := typePPF
  have mK := methodKind
  have mE := methodElem
  have mI := methodImpl
  have k27 := kindPPF
  have k25 := kindPF
  have e27 := elemPPF
  have i25 := implPF
  have lo := hT.lo
  have lt := hT.size
  have n8 := isNilPPF ⟨w.heap.size, 0, none⟩ ta ((w.alloc (.cells #[.pointer (some ta)] 128)).alloc (.cells #[.pointer (some ⟨3, 128, none⟩), .pointer (some ⟨w.heap.size, 0, none⟩), .int .u64 150] 78)) (by simp)
  have hg2 : ((w.alloc (.cells #[.pointer (some ta)] 128)).alloc (.cells #[.pointer (some ⟨3, 128, none⟩), .pointer (some ⟨w.heap.size, 0, none⟩), .int .u64 150] 78)).cell? ⟨0, 0, none⟩ = some (.iface 106 (.agg #[.pointer (some ⟨3, 35, none⟩)])) := by
    rw [World.cell?_alloc_lt _ _ ⟨0, 0, none⟩ (by simp), World.cell?_alloc_lt _ _ ⟨0, 0, none⟩ (by show 0 < w.heap.size; omega)]; exact hT.cell
  go_enter Tryd.func24, Tryd.ntmps24
  go_wp2_with (go_at_call 41; refine (as_miss n _ ⟨w.heap.size, 0, none⟩ _).mono ?_; rintro en w1 ⟨rfl, rfl⟩)
  go_ret
  exact ⟨rfl, rfl⟩
set_option maxHeartbeats 4000000 in
theorem As_num (B : Nat) (L : List Sp) (n : Int) (ta : Addr) (old : Value) (w : World) (hT : Et B w) (hE : Er B w L n) (h2 : w.cell? ta = some old) (h3 : w.frozen? ta = false) (ht : ta.block < w.heap.size) :
    Calls Tryd.prog 24 #[ev L n, .iface 58 (.pointer (some ta))] w fun en w' => en = .returned (.bool true) ∧
      w' = ((((w.alloc (.cells #[.pointer (some ta)] 58)).alloc (.cells #[.pointer (some ⟨3, 58, none⟩), .pointer (some ⟨w.heap.size, 0, none⟩), .int .u64 150] 78)).alloc (.cells #[.pointer (some ⟨3, 58, none⟩), .pointer (some ⟨w.heap.size, 0, none⟩), .int .u64 150] 78)).alloc (.cells #[.int .i64 n] 38)).setCell ta (.int .i64 n) := by
  have h6 := @run_callFunc_extern Tryd.prog 38 _ (fun args => ReflectliteValue.unpack (args.getD 0 (.tuple #[]))) Tryd.func38 (by kernel_rfl) (by kernel_rfl) (by kernel_rfl) (by kernel_rfl)
  have h7 := @run_callFunc_extern Tryd.prog 39 _ (ReflectliteValue.methodAny (ReflectliteValue.valueError "reflectlite.Value.Type" 0) (fun t _ _ _ => ReflectliteType.toType t)) Tryd.func39 (by kernel_rfl) (by kernel_rfl) (by kernel_rfl) (by kernel_rfl)
  have h8 := @run_callFunc_extern Tryd.prog 40 _ (ReflectliteValue.method (ReflectliteValue.valueError "reflectlite.Value.IsNil" 0) ReflectliteValue.isNil) Tryd.func40 (by kernel_rfl) (by kernel_rfl) (by kernel_rfl) (by kernel_rfl)
  have h27 := @run_callFunc_extern Tryd.prog 83 _ (ReflectliteType.abiMethod fun t => do pure (.int .u8 (← Rtype.kind t))) Tryd.func83 (by kernel_rfl) (by kernel_rfl) (by kernel_rfl) (by kernel_rfl)
  have h37 := @run_callFunc_extern Tryd.prog 96 _ (ReflectliteType.method ReflectliteType.elem) Tryd.func96 (by kernel_rfl) (by kernel_rfl) (by kernel_rfl) (by kernel_rfl)
  have h38 := @run_callFunc_extern Tryd.prog 97 _ (ReflectliteType.relation "Implements" ReflectliteType.implements_) Tryd.func97 (by kernel_rfl) (by kernel_rfl) (by kernel_rfl) (by kernel_rfl)
  have f6 := valueOfPErrno
  have f7 := typePErrno
  have mK := methodKind
  have mE := methodElem
  have mI := methodImpl
  have k27 := kindPErrno
  have k25 := kindErrno
  have e27 := elemPErrno
  have i25 := implErrno
  have lo := hT.lo
  have lt := hT.size
  have n8 := isNilPErrno ⟨w.heap.size, 0, none⟩ ta ((w.alloc (.cells #[.pointer (some ta)] 58)).alloc (.cells #[.pointer (some ⟨3, 58, none⟩), .pointer (some ⟨w.heap.size, 0, none⟩), .int .u64 150] 78)) (by simp)
  have hg2 : ((w.alloc (.cells #[.pointer (some ta)] 58)).alloc (.cells #[.pointer (some ⟨3, 58, none⟩), .pointer (some ⟨w.heap.size, 0, none⟩), .int .u64 150] 78)).cell? ⟨0, 0, none⟩ = some (.iface 106 (.agg #[.pointer (some ⟨3, 35, none⟩)])) := by
    rw [World.cell?_alloc_lt _ _ ⟨0, 0, none⟩ (by simp), World.cell?_alloc_lt _ _ ⟨0, 0, none⟩ (by show 0 < w.heap.size; omega)]; exact hT.cell
  have q1 : ((w.alloc (.cells #[.pointer (some ta)] 58)).alloc (.cells #[.pointer (some ⟨3, 58, none⟩), .pointer (some ⟨w.heap.size, 0, none⟩), .int .u64 150] 78)).cell? ⟨w.heap.size, 0, none⟩ = some (.pointer (some ta)) := by simp
  have q2 : ((w.alloc (.cells #[.pointer (some ta)] 58)).alloc (.cells #[.pointer (some ⟨3, 58, none⟩), .pointer (some ⟨w.heap.size, 0, none⟩), .int .u64 150] 78)).cell? ta = some old := by
    rw [World.cell?_alloc_lt _ _ ta (by simp; omega), World.cell?_alloc_lt _ _ ta ht]; exact h2
  have q3 : ((w.alloc (.cells #[.pointer (some ta)] 58)).alloc (.cells #[.pointer (some ⟨3, 58, none⟩), .pointer (some ⟨w.heap.size, 0, none⟩), .int .u64 150] 78)).frozen? ta = false := by
    rw [World.frozen?_alloc_old _ _ ta (by simp; omega), World.frozen?_alloc_old _ _ ta (Nat.ne_of_lt ht)]; exact h3
  have hE2 := Lib.hid (hE.below (((Below.refl B w).alloc lt (.cells #[.pointer (some ta)] 58)).alloc (by simp; omega) (.cells #[.pointer (some ⟨3, 58, none⟩), .pointer (some ⟨w.heap.size, 0, none⟩), .int .u64 150] 78)) (Nat.le_refl B))
  clear hE
  cases L with
  | nil =>
    rw [show ev [] n = .iface 38 (.int .i64 n) from rfl]
    go_enter Tryd.func24, Tryd.ntmps24
    go_wp2_with (go_at_call 41; refine (as_num B [] n ta ⟨w.heap.size, 0, none⟩ _ old _ hE2.out (by simp; omega) q1 q2 q3 (by simp; omega) (by simp; omega)).mono ?_; rintro en w1 ⟨rfl, rfl⟩)
    go_ret
    exact ⟨rfl, rfl⟩
  | cons x r =>
    rw [show ev (x :: r) n = .iface 68 (.pointer (some ⟨x.b, 0, none⟩)) from rfl]
    go_enter Tryd.func24, Tryd.ntmps24
    go_wp2_with (go_at_call 41; refine (as_num B (x :: r) n ta ⟨w.heap.size, 0, none⟩ _ old _ hE2.out (by simp; omega) q1 q2 q3 (by simp; omega) (by simp; omega)).mono ?_; rintro en w1 ⟨rfl, rfl⟩)
    go_ret
    exact ⟨rfl, rfl⟩
theorem cell_put_var (w : World) (v u : Value) (t : TypeId) (o1 o2 o3 o4 : Obj) : ((((((w.alloc (.cells #[v] t)).alloc o1).alloc o2).alloc o3).alloc o4).setCell ⟨w.heap.size, 0, none⟩ u).cell? ⟨w.heap.size, 0, none⟩ = some u := by
  have h : Has (((((w.alloc (.cells #[v] t)).alloc o1).alloc o2).alloc o3).alloc o4) w.heap.size t #[v] := ((((Has.made w t #[v]).alloc o1).alloc o2).alloc o3).alloc o4
  exact ((h.put 0 u).cell 0).trans rfl

/-- The first fault of an error; nil: there is none. -/
def top : List Sp → Value
  | [] => .pointer none
  | x :: _ => .pointer (some ⟨x.b, 0, none⟩)

set_option maxHeartbeats 1000000 in
theorem outermost_calls (B : Nat) (L : List Sp) (n : Int) (w : World) (hT : Et B w) : Calls Tryd.prog 47 #[ev L n] w fun en w' => en = .returned (top L) ∧ Below w.heap.size w w' := by
  have lt : w.heap.size ≤ w.heap.size := Nat.le_refl _
  have b1 : Below w.heap.size w (w.alloc (.cells #[.pointer none] 68)) := (Below.refl w.heap.size w).alloc lt _
  have hT1 := Lib.hid (hT.below b1 hT.size)
  cases L with
  | nil =>
    rw [show ev [] n = .iface 38 (.int .i64 n) from rfl]
    go_enter Tryd.func47, Tryd.ntmps47
    go_wp2_with (go_at_call 24; refine (As_miss B n ⟨w.heap.size, 0, none⟩ _ hT1.out).mono ?_; rintro en w1 ⟨rfl, rfl⟩)
    go_ret
    exact ⟨rfl, ((b1.alloc (by simp) _).alloc (by simp; omega) _).alloc (by simp; omega) _⟩
  | cons x r =>
    rw [show ev (x :: r) n = .iface 68 (.pointer (some ⟨x.b, 0, none⟩)) from rfl]
    have key : ∀ w1 : World, w1 = ((((((w.alloc (.cells #[.pointer none] 68)).alloc (.cells #[.pointer (some ⟨w.heap.size, 0, none⟩)] 128)).alloc (.cells #[.pointer (some ⟨3, 128, none⟩), .pointer (some ⟨(w.alloc (.cells #[.pointer none] 68)).heap.size, 0, none⟩), .int .u64 150] 78)).alloc (.cells #[.pointer (some ⟨3, 128, none⟩), .pointer (some ⟨(w.alloc (.cells #[.pointer none] 68)).heap.size, 0, none⟩), .int .u64 150] 78)).alloc (.cells #[.pointer (some ⟨x.b, 0, none⟩)] 68))).setCell ⟨w.heap.size, 0, none⟩ (.pointer (some ⟨x.b, 0, none⟩)) →
        Below w.heap.size w w1 ∧ w1.cell? ⟨w.heap.size, 0, none⟩ = some (.pointer (some ⟨x.b, 0, none⟩)) := fun w1 hw => by
      rw [hw]
      exact ⟨((((b1.alloc (by simp) _).alloc (by simp; omega) _).alloc (by simp; omega) _).alloc (by simp; omega) _).setCell (by simp) _, cell_put_var w _ _ _ _ _ _ _⟩
    go_enter Tryd.func47, Tryd.ntmps47
    go_wp2_with (go_at_call 24; refine (As_hit B ⟨x.b, 0, none⟩ ⟨w.heap.size, 0, none⟩ (.pointer none) _ hT1.out (by simp) (by simp) (by simp)).mono ?_; rintro en w1 ⟨rfl, hw⟩; obtain ⟨b2, c0⟩ := key _ hw; clear hw key)
    go_ret
    exact ⟨rfl, b2⟩

set_option maxHeartbeats 1000000 in
theorem of_calls (B : Nat) (L : List Sp) (n : Int) (w : World) (hT : Et B w) (hE : Er B w L n) : Calls Tryd.prog 13 #[ev L n] w fun en w' => en = .returned (.int .i64 n) ∧ Below w.heap.size w w' := by
  have lt : w.heap.size ≤ w.heap.size := Nat.le_refl _
  have b1 : Below w.heap.size w (w.alloc (.cells #[.int .i64 0] 38)) := (Below.refl w.heap.size w).alloc lt _
  have hT1 := Lib.hid (hT.below b1 hT.size)
  have hE1 := Lib.hid (hE.below b1 hT.size)
  clear hE
  have key : ∀ w1 : World, w1 = ((((((w.alloc (.cells #[.int .i64 0] 38)).alloc (.cells #[.pointer (some ⟨w.heap.size, 0, none⟩)] 58)).alloc (.cells #[.pointer (some ⟨3, 58, none⟩), .pointer (some ⟨(w.alloc (.cells #[.int .i64 0] 38)).heap.size, 0, none⟩), .int .u64 150] 78)).alloc (.cells #[.pointer (some ⟨3, 58, none⟩), .pointer (some ⟨(w.alloc (.cells #[.int .i64 0] 38)).heap.size, 0, none⟩), .int .u64 150] 78)).alloc (.cells #[.int .i64 n] 38))).setCell ⟨w.heap.size, 0, none⟩ (.int .i64 n) →
      Below w.heap.size w w1 ∧ w1.cell? ⟨w.heap.size, 0, none⟩ = some (.int .i64 n) := fun w1 hw => by
    rw [hw]
    exact ⟨((((b1.alloc (by simp) _).alloc (by simp; omega) _).alloc (by simp; omega) _).alloc (by simp; omega) _).setCell (by simp) _, cell_put_var w _ _ _ _ _ _ _⟩
  cases L with
  | nil =>
    rw [show ev [] n = .iface 38 (.int .i64 n) from rfl]
    go_enter Tryd.func13, Tryd.ntmps13
    go_wp2_with (go_at_call 24; refine (As_num B [] n ⟨w.heap.size, 0, none⟩ (.int .i64 0) _ hT1.out hE1.out (by simp) (by simp) (by simp)).mono ?_; rintro en w1 ⟨rfl, hw⟩; obtain ⟨b2, c0⟩ := key _ hw; clear hw key)
    go_ret
    exact ⟨rfl, b2⟩
  | cons x r =>
    rw [show ev (x :: r) n = .iface 68 (.pointer (some ⟨x.b, 0, none⟩)) from rfl]
    go_enter Tryd.func13, Tryd.ntmps13
    go_wp2_with (go_at_call 24; refine (As_num B (x :: r) n ⟨w.heap.size, 0, none⟩ (.int .i64 0) _ hT1.out hE1.out (by simp) (by simp) (by simp)).mono ?_; rintro en w1 ⟨rfl, hw⟩; obtain ⟨b2, c0⟩ := key _ hw; clear hw key)
    go_ret
    exact ⟨rfl, b2⟩
end Go.Proofs.YtiogjmlkogeibaaDoor.flt
