/- fault: errors.Unwrap; two errors that are the same; what errors.As leaves in its target. -/
import Derived.Test.YtlbpephbigikcaaDoorFltE
import Derived.Test.YtlbpephbigikcaaDoorFltM
namespace Go.Proofs.YtlbpephbigikcaaDoor.flt
open Go Go.RowKit Go.Extern.Stop Go.Stop Go.Extern

theorem eql_same (a : Addr) (w : World) : (binOp .eql 25 (.iface 42 (.pointer (some a))) (.iface 42 (.pointer (some a)))).run Tryd.prog w = .ok (.bool true) w := by
  obtain ⟨i, hi, hc⟩ := pfInfo
  obtain ⟨j, hj, _⟩ := faultInfo
  simp only [binOp]
  simp [Op.equal, Op.maxDepth, run_equalIn_iface_ptr_same w 9998 a Tryd.underlying25 Tryd.underlying42 hi hc hj]

theorem ev_same (L : List Sp) (n : Int) (w : World) : (binOp .eql 25 (ev L n) (ev L n)).run Tryd.prog w = .ok (.bool true) w := by
  cases L with
  | nil =>
    have h := eqE n n w
    rw [beq_self_eq_true n] at h
    exact h
  | cons x r => exact eql_same ⟨x.b, 0, none⟩ w

theorem unw_calls (x : Sp) (r : List Sp) (n : Int) (w : World) (h : Has w x.b 47 #[.string x.s, .int .i64 x.a, ev r n]) :
    Calls Tryd.prog 23 #[.iface 42 (.pointer (some ⟨x.b, 0, none⟩))] w fun en w' => en = .returned (ev r n) ∧ w = w' := by
  have hU := Lib.hid (unwrap_calls x r n w h)
  have u1 := unPF
  have mU := methodUnwrap
  clear h
  go_enter Tryd.func23, Tryd.ntmps23
  go_wp2_with (first
    | (go_at_call 79; refine hU.out.mono ?_; rintro en w1 ⟨rfl, rfl⟩)
    | fail)
  go_ret
  exact ⟨rfl, rfl⟩

/-- A variable was found: it holds what was found, and nothing else has turned. -/
def AsPost (b : Nat) (t : TypeId) (v : Value) (w : World) (en : Ending) (w' : World) : Prop := en = .returned (.bool true) ∧ Has w' b t #[v] ∧ Turn (fun j => j = b) w w'

theorem as_var {w : World} {b : Nat} {t : TypeId} {old v : Value} (h : Has w b t #[old]) (o1 o2 o3 o4 : Obj) :
    Has ((((((w.alloc o1).alloc o2).alloc o3).alloc o4).setCell ⟨b, 0, none⟩ v)) b t #[v] ∧ Turn (fun j => j = b) w ((((((w.alloc o1).alloc o2).alloc o3).alloc o4).setCell ⟨b, 0, none⟩ v)) := by
  refine ⟨?_, ((((Turn.refl (fun j => j = b) w).alloc o1).alloc o2).alloc o3).alloc o4 |>.put (fun _ => rfl) 0 v⟩
  have := ((((h.alloc o1).alloc o2).alloc o3).alloc o4).put 0 v
  simpa using this

theorem as_fault (B : Nat) (x : Sp) (r : List Sp) (n : Int) (b : Nat) (old : Value) (w : World) (hT : Et B w) (h : Has w b 42 #[old]) :
    Calls Tryd.prog 20 #[ev (x :: r) n, .iface 45 (.pointer (some ⟨b, 0, none⟩))] w (AsPost b 42 (.pointer (some ⟨x.b, 0, none⟩)) w) := by
  refine (As_hit B ⟨x.b, 0, none⟩ ⟨b, 0, none⟩ old w hT (h.cell 0) (h.free 0) h.lt).mono ?_
  rintro en w' ⟨rfl, rfl⟩
  exact ⟨rfl, (as_var h _ _ _ _).1, (as_var h _ _ _ _).2⟩

theorem as_errno (B : Nat) (L : List Sp) (n : Int) (b : Nat) (old : Value) (w : World) (hT : Et B w) (hE : Er B w L n) (h : Has w b 28 #[old]) :
    Calls Tryd.prog 20 #[ev L n, .iface 48 (.pointer (some ⟨b, 0, none⟩))] w (AsPost b 28 (.int .i64 n) w) := by
  refine (As_num B L n ⟨b, 0, none⟩ old w hT hE (h.cell 0) (h.free 0) h.lt).mono ?_
  rintro en w' ⟨rfl, rfl⟩
  exact ⟨rfl, (as_var h _ _ _ _).1, (as_var h _ _ _ _).2⟩
end Go.Proofs.YtlbpephbigikcaaDoor.flt
