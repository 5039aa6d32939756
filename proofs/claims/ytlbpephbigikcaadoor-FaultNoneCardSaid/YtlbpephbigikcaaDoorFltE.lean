/- fault: errors.Is by its contracts: the target a number, or the error just behind the outermost step. -/
import Derived.Test.YtlbpephbigikcaaDoorFltD
import Derived.BigQuiet
namespace Go.Proofs.YtlbpephbigikcaaDoor.flt
open Go Go.RowKit Go.Extern.Stop Go.Stop Go.Extern

theorem pfInfo : ∃ i, Tryd.prog.info? 42 = some i ∧ i.comparable = true := by
  have h2 : (Tryd.prog.info? 42).map (fun i => i.comparable) = some true := by kernel_rfl
  obtain ⟨i, hi, e⟩ := Option.map_eq_some_iff.1 h2
  exact ⟨i, hi, e⟩
theorem faultInfo : ∃ i, Tryd.prog.info? 47 = some i ∧ i.size ≠ 0 := by
  have h2 : (Tryd.prog.info? 47).map (fun i => decide (i.size ≠ 0)) = some true := by kernel_rfl
  obtain ⟨i, hi, e⟩ := Option.map_eq_some_iff.1 h2
  exact ⟨i, hi, of_decide_eq_true e⟩

theorem neq_types (v : Value) (n : Int) (w : World) : (binOp .neq 25 (.iface 42 v) (.iface 28 (.int .i64 n))).run Tryd.prog w = .ok (.bool true) w := by
  have h : ∀ d : Nat, (Op.equalIn (d + 1) 25 (.iface 42 v) (.iface 28 (.int .i64 n))).run Tryd.prog w = .ok false w := fun d => by
    simp [Op.equalIn, run_underlying Tryd.underlying25]
  simp only [binOp]
  simp [Op.equal, Op.maxDepth, h 9999]
theorem neq_same (a : Addr) (w : World) : (binOp .neq 25 (.iface 42 (.pointer (some a))) (.iface 42 (.pointer (some a)))).run Tryd.prog w = .ok (.bool false) w := by
  obtain ⟨i, hi, hc⟩ := pfInfo
  obtain ⟨j, hj, _⟩ := faultInfo
  simp only [binOp]
  simp [Op.equal, Op.maxDepth, run_equalIn_iface_ptr_same w 9998 a Tryd.underlying25 Tryd.underlying42 hi hc hj]

set_option maxRecDepth 100000 in
theorem itself_calls (B : Nat) (L : List Sp) (n : Int) (w : World) (hT : Et B w) : Calls Tryd.prog 36 #[ev L n] w fun en w' => en = .returned (top L) ∧ Below w.heap.size w w' := by
  cases L with
  | nil =>
    rw [show ev [] n = .iface 28 (.int .i64 n) from rfl, show top [] = .pointer none from rfl]
    have h1 := fun v w => neq_types v n w
    go_enter Tryd.func36, Tryd.ntmps36
    go_wp2_with (go_at_call 28; refine (outermost_calls B [] n _ hT).mono ?_; rw [show top [] = .pointer none from rfl]; rintro en w1 ⟨rfl, b1⟩)
    go_ret
    exact ⟨rfl, b1⟩
  | cons x r =>
    rw [show ev (x :: r) n = .iface 42 (.pointer (some ⟨x.b, 0, none⟩)) from rfl, show top (x :: r) = .pointer (some ⟨x.b, 0, none⟩) from rfl]
    have h1 := fun w => neq_same ⟨x.b, 0, none⟩ w
    go_enter Tryd.func36, Tryd.ntmps36
    go_wp2_with (go_at_call 28; refine (outermost_calls B (x :: r) n _ hT).mono ?_; rw [show top (x :: r) = .pointer (some ⟨x.b, 0, none⟩) from rfl]; rintro en w1 ⟨rfl, b1⟩)
    go_ret
    exact ⟨rfl, b1⟩

set_option maxRecDepth 100000 in
theorem fis_num (B : Nat) (v : Value) (m : Int) (w : World) (hT : Et B w) : Calls Tryd.prog 78 #[v, .iface 28 (.int .i64 m)] w fun en w' => en = .returned (.bool false) ∧ Below w.heap.size w w' := by
  go_enter Tryd.func78, Tryd.ntmps78
  go_wp2_with (go_at_call 36; refine (itself_calls B [] m _ hT).mono ?_; rw [show top [] = .pointer none from rfl]; rintro en w1 ⟨rfl, b1⟩)
  go_quiet (fail)
  rename_i nq
  go_wp2
  go_ret
  exact ⟨rfl, below_drewN b1 nq⟩

set_option maxRecDepth 100000 in
theorem ne_nil (L : List Sp) (n : Int) (w : World) : (binOp .eql 25 (ev L n) .nilIface).run Tryd.prog w = .ok (.bool false) w := by
  cases L with
  | nil => rfl
  | cons x r => rfl

theorem fis_fault (B : Nat) (v : Value) (y : Sp) (r : List Sp) (m : Int) (w : World) (hT : Et B w) (hy : Has w y.b 47 #[.string y.s, .int .i64 y.a, ev r m]) :
    Calls Tryd.prog 78 #[v, ev (y :: r) m] w fun en w' => en = .returned (.bool false) ∧ Below w.heap.size w w' := by
  have HY := Lib.hid hy
  clear hy
  go_enter Tryd.func78, Tryd.ntmps78
  go_wp2_with (go_at_call 36; refine (itself_calls B (y :: r) m _ hT).mono ?_; rw [show top (y :: r) = .pointer (some ⟨y.b, 0, none⟩) from rfl]; rintro en w1 ⟨rfl, b1⟩)
  have c2 : w1.cell? ⟨y.b, 2, none⟩ = some (ev r m) := ((HY.out.below b1 HY.out.lt).cell 2).trans rfl
  clear HY
  cases r with
  | nil =>
    rw [show ev [] m = .iface 28 (.int .i64 m) from rfl] at c2
    go_quiet (fail)
    rename_i nq
    go_wp2
    go_ret
    exact ⟨rfl, below_drewN b1 nq⟩
  | cons z r =>
    rw [show ev (z :: r) m = .iface 42 (.pointer (some ⟨z.b, 0, none⟩)) from rfl] at c2
    go_quiet (fail)
    rename_i nq
    go_wp2
    go_ret
    exact ⟨rfl, below_drewN b1 nq⟩

/-- errors.is, the target a number. -/
theorem is_num (B : Nat) (L : List Sp) (n m : Int) (w : World) (hT : Et B w) (hE : Er B w L n) :
    Calls Tryd.prog 30 #[ev L n, .iface 28 (.int .i64 m), .bool true] w fun en w' => en = .returned (.bool (n == m)) ∧ Below w.heap.size w w' := by
  have mU := methodUnwrap
  have mI : ∀ (x : Nat) (a : Addr) (w : World), (Go.method (x + 1) 42 (.pointer (some a)) "Is").run Tryd.prog w = .ok (78, .pointer (some a)) w := fun x a w => by kernel_rfl
  have n1 : ∀ (v : Value) (xT : TypeId) (w : World), (Instr.typeAssert (.iface 42 v) xT 93 true).run Tryd.prog w = .ok (.tuple #[.iface 42 v, .bool true]) w := fun v xT w => run_typeAssert_hasB Tryd.underlying93 (by kernel_rfl) v xT w
  have n2 : ∀ (v : Value) (xT : TypeId) (w : World), (Instr.typeAssert (.iface 28 v) xT 93 true).run Tryd.prog w = .ok (.tuple #[.nilIface, .bool false]) w := fun v xT w => run_typeAssert_lacksB Tryd.underlying93 (by kernel_rfl) (by kernel_rfl) v xT w
  have n3 := noUnE
  have n4 := noUnsE
  have n5 := unPF
  have q1 := fun w => eqE n m w
  have q2 := fun (v : Value) w => run_eql_iface_types (P := Tryd.prog) 42 28 v (.int .i64 m) Tryd.underlying25 (by decide) w
  have HT := Lib.hid hT
  have HE := Lib.hid hE
  clear hT hE
  go_enter Tryd.func30, Tryd.ntmps30
  go_wp2
  go_loopg [0] L.length (fun k v wr => ∃ L' : List Sp, v = ev L' n ∧ L'.length = k ∧ Hid (Er B wr L' n ∧ Below w.heap.size w wr))
  case atStart => exact ⟨L, rfl, rfl, Lib.hid ⟨HE.out, Below.refl _ _⟩⟩
  case round =>
    obtain ⟨L', rfl, hk, HS⟩ := hrel
    cases L' with
    | nil =>
      rw [show ev [] n = .iface 28 (.int .i64 n) from rfl]
      cases hb : (n == m) with
      | true =>
        rw [hb] at q1
        have HBB := Lib.hid hb
        clear hb
        go_wp2
        go_ret
        exact ⟨by rw [HBB.out]; rfl, HS.out.2⟩
      | false =>
        rw [hb] at q1
        have HBB := Lib.hid hb
        clear hb
        go_wp2
        go_ret
        exact ⟨by rw [HBB.out]; rfl, HS.out.2⟩
    | cons x r =>
      have HT2 := Lib.hid (HT.out.below HS.out.2 HT.out.size)
      have hh := Lib.hid HS.out.1.1
      have hr := Lib.hid HS.out.1.2
      rw [show ev (x :: r) n = .iface 42 (.pointer (some ⟨x.b, 0, none⟩)) from rfl]
      have hne := Lib.hid (fun w => ne_nil r n w)
      cases r with
      | nil =>
        go_wp2_with (first
          | (go_at_call 78; refine (fis_num B _ m _ HT2.out).mono ?_; rintro en w1 ⟨rfl, b1⟩)
          | ((go_at_call 79); refine (unwrap_calls x [] n _ (hh.out.1.below b1 hh.out.1.lt)).mono ?_; rintro en w2 ⟨rfl, rfl⟩; rw [show ev [] n = .iface 28 (.int .i64 n) from rfl]))
        go_roundg 0
        case measure => rw [← hk]; simp
        case rel => exact ⟨[], rfl, rfl, Lib.hid ⟨trivial, HS.out.2.trans (below_less b1 HS.out.2.size)⟩⟩
      | cons y r =>
        go_wp2_with (first
          | (go_at_call 78; refine (fis_num B _ m _ HT2.out).mono ?_; rintro en w1 ⟨rfl, b1⟩)
          | ((go_at_call 79); refine (unwrap_calls x (y :: r) n _ (hh.out.1.below b1 hh.out.1.lt)).mono ?_; rintro en w2 ⟨rfl, rfl⟩; rw [show ev (y :: r) n = .iface 42 (.pointer (some ⟨y.b, 0, none⟩)) from rfl]))
        go_roundg (r.length + 1)
        case measure => rw [← hk]; simp
        case rel => exact ⟨y :: r, rfl, rfl, Lib.hid ⟨Er.below hr.out b1 HT2.out.size, HS.out.2.trans (below_less b1 HS.out.2.size)⟩⟩

/-- errors.is, the target the fault just behind the outermost step. -/
theorem is_next (B : Nat) (x y : Sp) (r : List Sp) (n : Int) (w : World) (hT : Et B w) (hE : Er B w (x :: y :: r) n) (hxy : x.b ≠ y.b) :
    Calls Tryd.prog 30 #[ev (x :: y :: r) n, ev (y :: r) n, .bool true] w fun en w' => en = .returned (.bool true) ∧ Below w.heap.size w w' := by
  have mU := methodUnwrap
  have mI : ∀ (x : Nat) (a : Addr) (w : World), (Go.method (x + 1) 42 (.pointer (some a)) "Is").run Tryd.prog w = .ok (78, .pointer (some a)) w := fun x a w => by kernel_rfl
  have n1 : ∀ (v : Value) (xT : TypeId) (w : World), (Instr.typeAssert (.iface 42 v) xT 93 true).run Tryd.prog w = .ok (.tuple #[.iface 42 v, .bool true]) w := fun v xT w => run_typeAssert_hasB Tryd.underlying93 (by kernel_rfl) v xT w
  have n5 := unPF
  obtain ⟨i, hi, hc⟩ := pfInfo
  obtain ⟨j, hj, hz⟩ := faultInfo
  have hx := Lib.hid hE.1
  have hy := Lib.hid hE.2.1
  have HT := Lib.hid hT
  have q1 : (binOp .eql 25 (.iface 42 (.pointer (some ⟨x.b, 0, none⟩))) (.iface 42 (.pointer (some ⟨y.b, 0, none⟩)))).run Tryd.prog w = .ok (.bool false) w :=
    run_eql_iface_ptr_other w Tryd.underlying25 Tryd.underlying42 hi hc hj hz (fun e => hxy (congrArg Addr.block e)) hE.1.1 hE.2.1.1
  have q2 := fun w => run_eql_iface_ptr_same (P := Tryd.prog) w ⟨y.b, 0, none⟩ Tryd.underlying25 Tryd.underlying42 hi hc hj
  have HXY := Lib.hid hxy
  clear hT hE hxy hi hc hj hz
  rw [show ev (x :: y :: r) n = .iface 42 (.pointer (some ⟨x.b, 0, none⟩)) from rfl, show ev (y :: r) n = .iface 42 (.pointer (some ⟨y.b, 0, none⟩)) from rfl]
  go_enter Tryd.func30, Tryd.ntmps30
  go_wp2
  refine wp_loop_rounds 2 ?_
  rw [rounds_succ]
  go_wp2_with (first
    | (go_at_call 78; refine (fis_fault B _ y r n _ HT.out hy.out.1).mono ?_; rintro en w1 ⟨rfl, b1⟩)
    | ((go_at_call 79); refine (unwrap_calls x (y :: r) n _ (hx.out.1.below b1 hx.out.1.lt)).mono ?_; rintro en w2 ⟨rfl, rfl⟩; rw [show ev (y :: r) n = .iface 42 (.pointer (some ⟨y.b, 0, none⟩)) from rfl]))
  rw [rounds_succ]
  go_wp2
  go_ret
  exact ⟨rfl, b1⟩

theorem methodComp (x : Nat) (h : Value) (w : World) : (Go.method (x + 1) 91 (.agg #[h]) "Comparable").run Tryd.prog w = .ok (87, .agg #[h]) w := by kernel_rfl
/-- Comparable's entry. -/
abbrev comp : Array Value → Sem Value := ReflectliteType.method fun t => do Rtype.noPackHeld "Comparable" t; pure (.bool (← typeInfo t).comparable)
theorem compE (w : World) : (comp #[.agg #[.pointer (some ⟨5, 28, none⟩)]]).run Tryd.prog w = .ok (.bool true) w := by kernel_rfl
theorem compPF (w : World) : (comp #[.agg #[.pointer (some ⟨5, 42, none⟩)]]).run Tryd.prog w = .ok (.bool true) w := by kernel_rfl
theorem callComp (args : Array Value) (w : World) : (callFunc 87 args).run Tryd.prog w = ((comp args).run Tryd.prog w).andThen fun v w' => .ok (.value v) w' :=
  @run_callFunc_extern Tryd.prog 87 _ comp Tryd.func87 (by kernel_rfl) (by kernel_rfl) (by kernel_rfl) (by kernel_rfl) args w
theorem callCompE (w : World) : (callFunc 87 #[.agg #[.pointer (some ⟨5, 28, none⟩)]]).run Tryd.prog w = .ok (.value (.bool true)) w := by rw [callComp, compE]; rfl
theorem callCompPF (w : World) : (callFunc 87 #[.agg #[.pointer (some ⟨5, 42, none⟩)]]).run Tryd.prog w = .ok (.value (.bool true)) w := by rw [callComp, compPF]; rfl

set_option maxRecDepth 100000 in
theorem Is_num (B : Nat) (L : List Sp) (n m : Int) (w : World) (hT : Et B w) (hE : Er B w L n) :
    Calls Tryd.prog 19 #[ev L n, .iface 28 (.int .i64 m)] w fun en w' => en = .returned (.bool (n == m)) ∧ Below w.heap.size w w' := by
  have h10 := @run_callFunc_extern Tryd.prog 29 _ ReflectliteType.typeOf Tryd.func29 (by kernel_rfl) (by kernel_rfl) (by kernel_rfl) (by kernel_rfl)
  have tO := typeOfErrno
  have mC := methodComp
  have hC := callCompE
  have hEE := Lib.hid hE
  have hTT := Lib.hid hT
  clear hE hT
  cases L with
  | nil =>
    rw [show ev [] n = .iface 28 (.int .i64 n) from rfl]
    go_enter Tryd.func19, Tryd.ntmps19
    go_wp2_with (first
      | (go_at_call 30; refine (is_num B [] n m _ hTT.out hEE.out).mono ?_; rintro en w1 ⟨rfl, b1⟩)
      | fail)
    go_ret
    exact ⟨rfl, b1⟩
  | cons x r =>
    rw [show ev (x :: r) n = .iface 42 (.pointer (some ⟨x.b, 0, none⟩)) from rfl]
    go_enter Tryd.func19, Tryd.ntmps19
    go_wp2_with (first
      | (go_at_call 30; refine (is_num B (x :: r) n m _ hTT.out hEE.out).mono ?_; rintro en w1 ⟨rfl, b1⟩)
      | fail)
    go_ret
    exact ⟨rfl, b1⟩

set_option maxRecDepth 100000 in
/-- errors.Is of a step around an error, the target that error: it stands behind. -/
theorem Is_next (B : Nat) (x : Sp) (M : List Sp) (n : Int) (w : World) (hT : Et B w) (hE : Er B w (x :: M) n) (hx : ∀ y ∈ M, x.b ≠ y.b) :
    Calls Tryd.prog 19 #[ev (x :: M) n, ev M n] w fun en w' => en = .returned (.bool true) ∧ Below w.heap.size w w' := by
  cases M with
  | nil =>
    refine (Is_num B [x] n n w hT hE).mono ?_
    rintro en w1 ⟨rfl, b1⟩
    exact ⟨by simp, b1⟩
  | cons y r =>
    have h10 := @run_callFunc_extern Tryd.prog 29 _ ReflectliteType.typeOf Tryd.func29 (by kernel_rfl) (by kernel_rfl) (by kernel_rfl) (by kernel_rfl)
    have tO := typeOfPF
    have mC := methodComp
    have hC := callCompPF
    have hEE := Lib.hid hE
    have hTT := Lib.hid hT
    have hXX := Lib.hid (hx y (List.mem_cons_self ..))
    clear hE hT hx
    rw [show ev (x :: y :: r) n = .iface 42 (.pointer (some ⟨x.b, 0, none⟩)) from rfl, show ev (y :: r) n = .iface 42 (.pointer (some ⟨y.b, 0, none⟩)) from rfl]
    go_enter Tryd.func19, Tryd.ntmps19
    go_wp2_with (first
      | (go_at_call 30; refine (is_next B x y r n _ hTT.out hEE.out hXX.out).mono ?_; rintro en w1 ⟨rfl, b1⟩)
      | fail)
    go_ret
    exact ⟨rfl, b1⟩

set_option maxRecDepth 100000 in
theorem has_calls (B : Nat) (L : List Sp) (n m : Int) (w : World) (hT : Et B w) (hE : Er B w L n) :
    Calls Tryd.prog 21 #[ev L n, .int .i64 m] w fun en w' => en = .returned (.bool (n == m)) ∧ Below w.heap.size w w' := by
  have hEE := Lib.hid hE
  have hTT := Lib.hid hT
  clear hE hT
  go_enter Tryd.func21, Tryd.ntmps21
  go_wp2_with (first
    | (go_at_call 19; refine (Is_num B L n m _ hTT.out hEE.out).mono ?_; rintro en w1 ⟨rfl, b1⟩)
    | fail)
  go_ret
  exact ⟨rfl, b1⟩
end Go.Proofs.YtlbpephbigikcaaDoor.flt
