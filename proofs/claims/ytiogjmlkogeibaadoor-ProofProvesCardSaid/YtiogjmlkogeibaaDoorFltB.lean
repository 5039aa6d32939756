/- fault: errors.As by its contracts: the target a *Fault variable (the outermost fault), or an Errno variable (the number behind all steps). -/
import Derived.Test.YtiogjmlkogeibaaDoorFltA
import Derived.Lib.ItoaWalk
namespace Go.Proofs.YtiogjmlkogeibaaDoor.flt
open Go Go.RowKit Go.Extern.Stop Go.Stop Go.Extern

/-- A step of an error: its block, its name, its place. -/
structure Sp where
  b : Nat
  s : ByteArray
  a : Int

/-- An error as a value: steps around a number, from outside in. -/
def ev : List Sp → Int → Value
  | [], n => .iface 38 (.int .i64 n)
  | x :: _, _ => .iface 68 (.pointer (some ⟨x.b, 0, none⟩))

/-- The blocks of an error's steps, all below B. -/
def Er (B : Nat) (w : World) : List Sp → Int → Prop
  | [], _ => True
  | x :: r, n => (Has w x.b 70 #[.string x.s, .int .i64 x.a, ev r n] ∧ x.b < B) ∧ Er B w r n

theorem Er.below {B C : Nat} {w w' : World} {n : Int} : ∀ {L : List Sp}, Er B w L n → Below C w w' → B ≤ C → Er B w' L n
  | [], _, _, _ => trivial
  | _ :: _, h, b, hC => ⟨⟨h.1.1.below b (by have := h.1.2; omega), h.1.2⟩, Er.below h.2 b hC⟩
theorem Er.more {B C : Nat} {w : World} {n : Int} (hC : B ≤ C) : ∀ {L : List Sp}, Er B w L n → Er C w L n
  | [], _ => trivial
  | _ :: _, h => ⟨⟨h.1.1, by have := h.1.2; omega⟩, Er.more hC h.2⟩

theorem unwrap_calls (x : Sp) (r : List Sp) (n : Int) (w : World) (h : Has w x.b 70 #[.string x.s, .int .i64 x.a, ev r n]) :
    Calls Tryd.prog 88 #[.pointer (some ⟨x.b, 0, none⟩)] w fun en w' => en = .returned (ev r n) ∧ w = w' := by
  have c2 : w.cell? ⟨x.b, 2, none⟩ = some (ev r n) := (h.cell 2).trans rfl
  generalize ev r n = v at *
  go_enter Tryd.func88, Tryd.ntmps88
  go_wp2
  go_ret
  exact ⟨rfl, rfl⟩

set_option maxHeartbeats 1000000 in
theorem as_miss (n : Int) (tgt : Value) (a : Addr) (w : World) :
    Calls Tryd.prog 41 #[.iface 38 (.int .i64 n), tgt, .agg #[.pointer (some ⟨3, 128, none⟩), .pointer (some a), .int .u64 150], .iface 106 (.agg #[.pointer (some ⟨3, 68, none⟩)])] w
      fun en w' => en = .returned (.bool false) ∧ w' = w.alloc (.cells #[.pointer (some ⟨3, 128, none⟩), .pointer (some a), .int .u64 150] 78) := by
  have h10 := @run_callFunc_extern Tryd.prog 52 _ ReflectliteType.typeOf Tryd.func52 (by kernel_rfl) (by kernel_rfl) (by kernel_rfl) (by kernel_rfl)
  have h35 := @run_callFunc_extern Tryd.prog 94 _ (ReflectliteType.relation "AssignableTo" ReflectliteType.assignableTo) Tryd.func94 (by kernel_rfl) (by kernel_rfl) (by kernel_rfl) (by kernel_rfl)
  have tO := typeOfErrno
  have mA := methodAssign
  have a1 := assignEPF
  have n1 := noAsE
  have n2 := noUnE
  have n3 := noUnsE
  go_enter Tryd.func41, Tryd.ntmps41
  go_wp2
  refine wp_loop_rounds 1 ?_
  rw [rounds_succ]
  go_wp2
  go_ret
  exact ⟨rfl, rfl⟩

set_option maxHeartbeats 2000000 in
theorem as_hit (e ta a : Addr) (tgt old : Value) (w : World) (h1 : w.cell? a = some (.pointer (some ta))) (h2 : w.cell? ta = some old) (h3 : w.frozen? ta = false) (ha : a.block < w.heap.size) (ht : ta.block < w.heap.size) :
    Calls Tryd.prog 41 #[.iface 68 (.pointer (some e)), tgt, .agg #[.pointer (some ⟨3, 128, none⟩), .pointer (some a), .int .u64 150], .iface 106 (.agg #[.pointer (some ⟨3, 68, none⟩)])] w
      fun en w' => en = .returned (.bool true) ∧ w' = ((w.alloc (.cells #[.pointer (some ⟨3, 128, none⟩), .pointer (some a), .int .u64 150] 78)).alloc (.cells #[.pointer (some e)] 68)).setCell ta (.pointer (some e)) := by
  have h6 := @run_callFunc_extern Tryd.prog 38 _ (fun args => ReflectliteValue.unpack (args.getD 0 (.tuple #[]))) Tryd.func38 (by kernel_rfl) (by kernel_rfl) (by kernel_rfl) (by kernel_rfl)
  have h10 := @run_callFunc_extern Tryd.prog 52 _ ReflectliteType.typeOf Tryd.func52 (by kernel_rfl) (by kernel_rfl) (by kernel_rfl) (by kernel_rfl)
  have h35 := @run_callFunc_extern Tryd.prog 94 _ (ReflectliteType.relation "AssignableTo" ReflectliteType.assignableTo) Tryd.func94 (by kernel_rfl) (by kernel_rfl) (by kernel_rfl) (by kernel_rfl)
  have h11 := @run_callFunc_extern Tryd.prog 53 _ (ReflectliteValue.method (ReflectliteValue.valueError "reflectlite.Value.Elem" 0) ReflectliteValue.elem) Tryd.func53 (by kernel_rfl) (by kernel_rfl) (by kernel_rfl) (by kernel_rfl)
  have h12 := @run_callFunc_extern Tryd.prog 54 _ ReflectliteValue.set Tryd.func54 (by kernel_rfl) (by kernel_rfl) (by kernel_rfl) (by kernel_rfl)
  have tO := typeOfPF
  have mA := methodAssign
  have a1 := assignPFPF
  have v1 := valueOfPF
  have el := elemVPPF a ta (w.alloc (.cells #[.pointer (some ⟨3, 128, none⟩), .pointer (some a), .int .u64 150] 78)) (by rw [World.cell?_alloc_lt _ _ a ha]; exact h1)
  have st := setPF ta ⟨w.heap.size + 1, 0, none⟩ e old ((w.alloc (.cells #[.pointer (some ⟨3, 128, none⟩), .pointer (some a), .int .u64 150] 78)).alloc (.cells #[.pointer (some e)] 68))
    (by rw [World.cell?_alloc_at _ _ _ _ (by simp)]; rfl)
    (by rw [World.cell?_alloc_lt _ _ ta (by simp; omega), World.cell?_alloc_lt _ _ ta ht]; exact h2)
    (by rw [World.frozen?_alloc_old _ _ ta (by simp; omega), World.frozen?_alloc_old _ _ ta (Nat.ne_of_lt ht)]; exact h3)
  go_enter Tryd.func41, Tryd.ntmps41
  go_wp2
  refine wp_loop_rounds 1 ?_
  rw [rounds_succ]
  go_wp2
  go_ret
  exact ⟨rfl, rfl⟩

set_option maxHeartbeats 2000000 in
theorem as_num (B : Nat) (L : List Sp) (n : Int) (ta a : Addr) (tgt old : Value) (w : World) (hE : Er B w L n) (hB : B ≤ w.heap.size) (h1 : w.cell? a = some (.pointer (some ta))) (h2 : w.cell? ta = some old) (h3 : w.frozen? ta = false) (ha : a.block < w.heap.size) (ht : ta.block < w.heap.size) :
    Calls Tryd.prog 41 #[ev L n, tgt, .agg #[.pointer (some ⟨3, 58, none⟩), .pointer (some a), .int .u64 150], .iface 106 (.agg #[.pointer (some ⟨3, 38, none⟩)])] w
      fun en w' => en = .returned (.bool true) ∧ w' = ((w.alloc (.cells #[.pointer (some ⟨3, 58, none⟩), .pointer (some a), .int .u64 150] 78)).alloc (.cells #[.int .i64 n] 38)).setCell ta (.int .i64 n) := by
  have h6 := @run_callFunc_extern Tryd.prog 38 _ (fun args => ReflectliteValue.unpack (args.getD 0 (.tuple #[]))) Tryd.func38 (by kernel_rfl) (by kernel_rfl) (by kernel_rfl) (by kernel_rfl)
  have h10 := @run_callFunc_extern Tryd.prog 52 _ ReflectliteType.typeOf Tryd.func52 (by kernel_rfl) (by kernel_rfl) (by kernel_rfl) (by kernel_rfl)
  have h35 := @run_callFunc_extern Tryd.prog 94 _ (ReflectliteType.relation "AssignableTo" ReflectliteType.assignableTo) Tryd.func94 (by kernel_rfl) (by kernel_rfl) (by kernel_rfl) (by kernel_rfl)
  have h11 := @run_callFunc_extern Tryd.prog 53 _ (ReflectliteValue.method (ReflectliteValue.valueError "reflectlite.Value.Elem" 0) ReflectliteValue.elem) Tryd.func53 (by kernel_rfl) (by kernel_rfl) (by kernel_rfl) (by kernel_rfl)
  have h12 := @run_callFunc_extern Tryd.prog 54 _ ReflectliteValue.set Tryd.func54 (by kernel_rfl) (by kernel_rfl) (by kernel_rfl) (by kernel_rfl)
  have mA := methodAssign
  have mU := methodUnwrap
  have t1 := typeOfPF
  have t2 := typeOfErrno
  have a1 := assignPFE
  have a2 := assignEE
  have v1 := valueOfErrno
  have n1 := noAsE
  have n4 := noAsPF
  have n5 := unPF
  have el := elemVPErrno a ta (w.alloc (.cells #[.pointer (some ⟨3, 58, none⟩), .pointer (some a), .int .u64 150] 78)) (by rw [World.cell?_alloc_lt _ _ a ha]; exact h1)
  have st := setE ta ⟨w.heap.size + 1, 0, none⟩ n old ((w.alloc (.cells #[.pointer (some ⟨3, 58, none⟩), .pointer (some a), .int .u64 150] 78)).alloc (.cells #[.int .i64 n] 38))
    (by rw [World.cell?_alloc_at _ _ _ _ (by simp)]; rfl)
    (by rw [World.cell?_alloc_lt _ _ ta (by simp; omega), World.cell?_alloc_lt _ _ ta ht]; exact h2)
    (by rw [World.frozen?_alloc_old _ _ ta (by simp; omega), World.frozen?_alloc_old _ _ ta (Nat.ne_of_lt ht)]; exact h3)
  have hE' : Er B (w.alloc (.cells #[.pointer (some ⟨3, 58, none⟩), .pointer (some a), .int .u64 150] 78)) L n := hE.below ((Below.refl B w).alloc hB _) (Nat.le_refl B)
  clear hE h1 h2 h3
  go_enter Tryd.func41, Tryd.ntmps41
  go_wp2
  go_name_world W hW
  rw [hW] at el st hE'
  have hz : W.heap.size = w.heap.size + 1 := by rw [← hW]; simp
  have v2 : ∀ n, (ReflectliteValue.unpack (.iface 38 (.int .i64 n))).run Tryd.prog W = .ok (.agg #[.pointer (some ⟨3, 38, none⟩), .pointer (some ⟨w.heap.size + 1, 0, none⟩), .int .u64 130]) (W.alloc (.cells #[.int .i64 n] 38)) := fun n => by rw [← hz]; exact v1 n W
  have c6 : ∀ i, W.cell? ⟨w.heap.size, i, none⟩ = #[hd 58, Value.pointer (some a), Value.int .u64 150][i]? := fun i => by rw [← hW]; exact (Has.made w 78 _).cell i
  have k0 := c6 0
  have k1 := c6 1
  have k2 := c6 2
  clear c6
  simp at k0 k1 k2
  replace hW := Lib.hid hW
  clear v1
  go_loopg [0] L.length (fun k v wr => ∃ L' : List Sp, v = ev L' n ∧ L'.length = k ∧ wr = W ∧ Hid (Er B W L' n))
  case atStart => exact ⟨L, rfl, rfl, rfl, Lib.hid hE'⟩
  case round =>
    obtain ⟨L', rfl, hk, rfl, hE2⟩ := hrel
    cases L' with
    | nil =>
      unfold ev
      go_wp2
      go_ret
      exact ⟨rfl, by rw [hW.out]⟩
    | cons x r =>
      have hh := Lib.hid hE2.out.1.1
      have hr := Lib.hid hE2.out.2
      clear hE2 el st v2 t2 a2
      rw [show ev (x :: r) n = .iface 68 (.pointer (some ⟨x.b, 0, none⟩)) from rfl]
      cases r with
      | nil =>
        have hh2 : Has wr x.b 70 #[.string x.s, .int .i64 x.a, .iface 38 (.int .i64 n)] := hh.out
        replace hh2 := Lib.hid hh2
        clear hh
        go_wp2_with ((go_at_call 88); refine (unwrap_calls x [] n _ hh2.out).mono ?_; rintro en w1 ⟨rfl, rfl⟩; rw [show ev [] n = .iface 38 (.int .i64 n) from rfl])
        go_roundg 0
        case measure => rw [← hk]; simp
        case rel => exact ⟨[], rfl, rfl, rfl, hr⟩
      | cons y r =>
        have hh2 : Has wr x.b 70 #[.string x.s, .int .i64 x.a, .iface 68 (.pointer (some ⟨y.b, 0, none⟩))] := hh.out
        replace hh2 := Lib.hid hh2
        clear hh
        go_wp2_with ((go_at_call 88); refine (unwrap_calls x (y :: r) n _ hh2.out).mono ?_; rintro en w1 ⟨rfl, rfl⟩; rw [show ev (y :: r) n = .iface 68 (.pointer (some ⟨y.b, 0, none⟩)) from rfl])
        go_roundg (r.length + 1)
        case measure => rw [← hk]; simp
        case rel => exact ⟨y :: r, rfl, rfl, rfl, hr⟩
end Go.Proofs.YtiogjmlkogeibaaDoor.flt
