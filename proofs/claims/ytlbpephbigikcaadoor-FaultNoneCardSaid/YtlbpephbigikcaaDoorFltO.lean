/- fault: an error from elsewhere, nothing at all, and a step with nothing behind it: Where, Within, itself, errors.Is. -/
import Derived.Test.YtlbpephbigikcaaDoorFltN
import Derived.Test.YtlbpephbigikcaaDoorFltF
namespace Go.Proofs.YtlbpephbigikcaaDoor.flt
open Go Go.RowKit Go.Extern.Stop Go.Stop Go.Extern

set_option maxRecDepth 100000 in
theorem where_nil (w : World) : Calls Tryd.prog 16 #[.nilIface] w fun en w' => en = .returned (.tuple #[.slice none 0 0, .int .i64 (-1)]) ∧ Below w.heap.size w w' := by
  go_enter Tryd.func16, Tryd.ntmps16
  go_wp2_with (first
    | (go_at_call 28; refine (outermost_nil _).mono ?_; rintro en w1 ⟨rfl, b1⟩)
    | fail)
  refine wp_loop_rounds 1 ?_
  rw [rounds_succ]
  go_wp2
  go_ret2
  exact ⟨rfl, b1⟩
set_option maxRecDepth 100000 in
theorem where_plain (B p : Nat) (w : World) (hT : Et B w) : Calls Tryd.prog 16 #[pe p] w fun en w' => en = .returned (.tuple #[.slice none 0 0, .int .i64 (-1)]) ∧ Below w.heap.size w w' := by
  go_enter Tryd.func16, Tryd.ntmps16
  go_wp2_with (first
    | (go_at_call 28; refine (outermost_plain B p _ hT).mono ?_; rintro en w1 ⟨rfl, b1⟩)
    | fail)
  refine wp_loop_rounds 1 ?_
  rw [rounds_succ]
  go_wp2
  go_ret2
  exact ⟨rfl, b1⟩

set_option maxRecDepth 100000 in
set_option maxHeartbeats 2000000 in
theorem where_bare (B b : Nat) (s : ByteArray) (at_ : Int) (w : World) (hT : Et B w) (h : Has w b 47 #[.string s, .int .i64 at_, .nilIface]) (hb : b < B) :
    Calls Tryd.prog 16 #[.iface 42 (.pointer (some ⟨b, 0, none⟩))] w fun en w' => ∃ v, en = .returned (.tuple #[v, .int .i64 at_]) ∧ Seg w' 9 1 v 1 [.string s] ∧ Below B w w' := by
  obtain ⟨z0i, z0, hi0, hz0, hz1, hz2, hz3⟩ := strInfo
  have HI0 := Lib.hid hi0
  have HZ0 := Lib.hid hz0
  have HT := Lib.hid hT
  have HH := Lib.hid (And.intro h hb)
  have HB : Hid (B ≤ w.heap.size) := Lib.hid hT.size
  clear hi0 hz0 hT h hb
  go_enter Tryd.func16, Tryd.ntmps16
  go_wp2_with (first
    | (go_at_call 28; refine (outermost_calls B [⟨b, s, at_⟩] 0 _ HT.out).mono ?_; rw [show top [⟨b, s, at_⟩] = .pointer (some ⟨b, 0, none⟩) from rfl]; rintro en w1 ⟨rfl, b1⟩)
    | fail)
  have HB1 := Lib.hid (below_less b1 HB.out)
  clear b1
  go_loopg [4, 5, 6] 1 (fun k v a p wr => (k = 1 ∧ v = .slice none 0 0 ∧ a = .int .i64 (-1) ∧ p = .pointer (some ⟨b, 0, none⟩) ∧ Hid (Below B w wr)) ∨ (k = 0 ∧ a = .int .i64 at_ ∧ p = .pointer none ∧ Hid (Seg wr 9 1 v 1 [.string s] ∧ Below B w wr)))
  case atStart => exact .inl ⟨rfl, rfl, rfl, rfl, HB1⟩
  case round =>
    rcases hrel with ⟨hk, rfl, rfl, rfl, HS⟩ | ⟨hk, rfl, rfl, HS⟩
    · have hh := Lib.hid (HH.out.1.below HS.out HH.out.2)
      have c0 : wr.cell? ⟨b, 0, none⟩ = some (.string s) := hh.out.cell 0
      have H0 : Hid (Seg wr 9 1 (.slice none 0 0) 0 []) := Lib.hid (Seg.nil _ _ _)
      go_wp2_with (first
        | ((with_reducible refine at_op 22 ?_); refine wpList_append_seg (o := ⟨some 22, _, _, _, _, _⟩) _ rfl (.tmp 16) (.tmp 21) 34 rfl 9 z0i z0 1 16 Tryd.underlying34 HI0.out HZ0.out hz1 hz3 hz2 (by decide) (.slice none 0 0) 0 [] rfl (H0.out.alloc _) ⟨wr.heap.size, 0, none⟩ 1 1 [.string s] rfl rfl (World.news_of_block (heap_alloc_new _ _)) (by simp [Value.oneCell']) (by decide) (by unfold maxLen; omega) (by omega) _ rfl ?_;
           intro g off cp w4 hown hgrow hat hlt;
           have B4 : Hid (Below B wr w4) := Lib.hid (((Below.refl B wr).alloc (Nat.le_trans HB.out HS.out.size) _).trans (below_own hgrow (fun x (hx : (Value.slice none 0 0).ownBlock = some x) => by cases hx) (Nat.le_trans (Nat.le_trans HB.out HS.out.size) (by simp))));
           have BW : Hid (Below B w w4) := Lib.hid (HS.out.trans B4.out);
           have c1 : w4.cell? ⟨b, 1, none⟩ = some (.int .i64 at_) := (hh.out.below B4.out HH.out.2).cell 1;
           have c2 : w4.cell? ⟨b, 2, none⟩ = some .nilIface := (hh.out.below B4.out HH.out.2).cell 2;
           have OW := Lib.hid hown;
           clear hown hgrow hat hlt c0)
        | (go_at_call 28; refine (outermost_nil _).mono ?_; rintro en w5 ⟨rfl, b5⟩)
        | fail)
      go_roundg 0
      case measure => omega
      case rel => exact .inr ⟨rfl, rfl, rfl, Lib.hid ⟨Seg.below OW.out b5 (fun y hy => OW.out.lt hy), BW.out.trans (below_less b5 (Nat.le_trans HB.out BW.out.size))⟩⟩
    · go_wp2_with fail
      go_ret2
      exact ⟨_, rfl, HS.out⟩

theorem within_plain (B p : Nat) (s : ByteArray) (w : World) (hT : Et B w) : Calls Tryd.prog 22 #[pe p, .string s] w fun en w' => en = .returned (.bool false) ∧ Below w.heap.size w w' := by
  have HT := Lib.hid hT
  clear hT
  go_enter Tryd.func22, Tryd.ntmps22
  go_wp2_with (first
    | (go_at_call 16; refine (where_plain B p _ HT.out).mono ?_; rintro en w1 ⟨rfl, b1⟩)
    | (go_at_call 35; refine (contains_calls [] (.slice none 0 0) s _ (Seg.nil _ _ _)).mono ?_; rintro en w2 ⟨rfl, rfl⟩)
    | fail)
  go_ret
  exact ⟨rfl, b1⟩
theorem within_bare (B b : Nat) (s : ByteArray) (at_ : Int) (w : World) (hT : Et B w) (h : Has w b 47 #[.string s, .int .i64 at_, .nilIface]) (hb : b < B) :
    Calls Tryd.prog 22 #[.iface 42 (.pointer (some ⟨b, 0, none⟩)), .string s] w fun en w' => en = .returned (.bool true) ∧ Below B w w' := by
  have HT := Lib.hid hT
  have HH := Lib.hid h
  clear hT h
  go_enter Tryd.func22, Tryd.ntmps22
  go_wp2_with (first
    | (go_at_call 16; refine (where_bare B b s at_ _ HT.out HH.out hb).mono ?_; rintro en w1 ⟨v, rfl, hS, b1⟩)
    | (go_at_call 35; refine (contains_calls [⟨b, s, at_⟩] v s _ hS).mono ?_; rw [show within [⟨b, s, at_⟩] s = true by simp [within]]; rintro en w2 ⟨rfl, rfl⟩)
    | fail)
  go_ret
  exact ⟨rfl, b1⟩

theorem peInfo : ∃ i, Tryd.prog.info? 80 = some i ∧ i.comparable = true := by
  have h2 : (Tryd.prog.info? 80).map (fun i => i.comparable) = some true := by kernel_rfl
  obtain ⟨i, hi, e⟩ := Option.map_eq_some_iff.1 h2
  exact ⟨i, hi, e⟩
theorem esInfo : ∃ i, Tryd.prog.info? 82 = some i ∧ i.size ≠ 0 := by
  have h2 : (Tryd.prog.info? 82).map (fun i => decide (i.size ≠ 0)) = some true := by kernel_rfl
  obtain ⟨i, hi, e⟩ := Option.map_eq_some_iff.1 h2
  exact ⟨i, hi, of_decide_eq_true e⟩
theorem neq_plain (v u : Value) (w : World) : (binOp .neq 25 (.iface 42 v) (.iface 80 u)).run Tryd.prog w = .ok (.bool true) w := by
  have h : ∀ d : Nat, (Op.equalIn (d + 1) 25 (.iface 42 v) (.iface 80 u)).run Tryd.prog w = .ok false w := fun d => by
    simp [Op.equalIn, run_underlying Tryd.underlying25]
  simp only [binOp]
  simp [Op.equal, Op.maxDepth, h 9999]

set_option maxRecDepth 100000 in
theorem itself_plain (B p : Nat) (w : World) (hT : Et B w) : Calls Tryd.prog 36 #[pe p] w fun en w' => en = .returned (.pointer none) ∧ Below w.heap.size w w' := by
  have h1 := fun v u w => neq_plain v u w
  go_enter Tryd.func36, Tryd.ntmps36
  go_wp2_with (go_at_call 28; refine (outermost_plain B p _ hT).mono ?_; rintro en w1 ⟨rfl, b1⟩)
  go_ret
  exact ⟨rfl, b1⟩
set_option maxRecDepth 100000 in
theorem itself_nil (w : World) : Calls Tryd.prog 36 #[.nilIface] w fun en w' => en = .returned (.pointer none) ∧ Below w.heap.size w w' := by
  have h1 : ∀ v w, (binOp .neq 25 (.iface 42 v) .nilIface).run Tryd.prog w = .ok (.bool true) w := fun v w => rfl
  go_enter Tryd.func36, Tryd.ntmps36
  go_wp2_with (go_at_call 28; refine (outermost_nil _).mono ?_; rintro en w1 ⟨rfl, b1⟩)
  go_ret
  exact ⟨rfl, b1⟩
set_option maxRecDepth 100000 in
theorem fis_plain (B p : Nat) (v : Value) (w : World) (hT : Et B w) : Calls Tryd.prog 78 #[v, pe p] w fun en w' => en = .returned (.bool false) ∧ Below w.heap.size w w' := by
  go_enter Tryd.func78, Tryd.ntmps78
  go_wp2_with (go_at_call 36; refine (itself_plain B p _ hT).mono ?_; rintro en w1 ⟨rfl, b1⟩)
  go_quiet (fail)
  rename_i nq
  go_wp2
  go_ret
  exact ⟨rfl, below_drewN b1 nq⟩

/-- errors.is: what stands behind a step, an error from elsewhere. -/
theorem is_plain (B b p : Nat) (s v0 : Value) (w : World) (hT : Et B w) (h : Has w b 47 #[s, v0, pe p]) :
    Calls Tryd.prog 30 #[.iface 42 (.pointer (some ⟨b, 0, none⟩)), pe p, .bool true] w fun en w' => en = .returned (.bool true) ∧ Below w.heap.size w w' := by
  have mU := methodUnwrap
  have mI : ∀ (x : Nat) (a : Addr) (w : World), (Go.method (x + 1) 42 (.pointer (some a)) "Is").run Tryd.prog w = .ok (78, .pointer (some a)) w := fun x a w => by kernel_rfl
  have n1 : ∀ (v : Value) (xT : TypeId) (w : World), (Instr.typeAssert (.iface 42 v) xT 93 true).run Tryd.prog w = .ok (.tuple #[.iface 42 v, .bool true]) w := fun v xT w => run_typeAssert_hasB Tryd.underlying93 (by kernel_rfl) v xT w
  have n5 := unPF
  obtain ⟨i, hi, hc⟩ := peInfo
  obtain ⟨j, hj, hz⟩ := esInfo
  have HT := Lib.hid hT
  have HH := Lib.hid h
  have q1 := fun (v u : Value) w => run_eql_iface_types (P := Tryd.prog) 42 80 v u Tryd.underlying25 (by decide) w
  have q2 := fun w => run_eql_iface_ptr_same (P := Tryd.prog) w ⟨p, 0, none⟩ Tryd.underlying25 Tryd.underlying80 hi hc hj
  clear hT h hi hc hj hz
  unfold pe at *
  go_enter Tryd.func30, Tryd.ntmps30
  go_wp2
  refine wp_loop_rounds 2 ?_
  rw [rounds_succ]
  go_wp2_with (first
    | (go_at_call 78; refine (fis_plain B p _ _ HT.out).mono ?_; rintro en w1 ⟨rfl, b1⟩)
    | ((go_at_call 79); refine (unwrap_any b s v0 _ _ (HH.out.below b1 HH.out.lt)).mono ?_; rintro en w2 ⟨rfl, rfl⟩))
  rw [rounds_succ]
  go_wp2
  go_ret
  exact ⟨rfl, b1⟩
theorem compPE (w : World) : (comp #[.agg #[.pointer (some ⟨5, 80, none⟩)]]).run Tryd.prog w = .ok (.bool true) w := by kernel_rfl
theorem callCompPE (w : World) : (callFunc 87 #[.agg #[.pointer (some ⟨5, 80, none⟩)]]).run Tryd.prog w = .ok (.value (.bool true)) w := by rw [callComp, compPE]; rfl
set_option maxRecDepth 100000 in
theorem Is_plain (B b p : Nat) (s v0 : Value) (w : World) (hT : Et B w) (h : Has w b 47 #[s, v0, pe p]) :
    Calls Tryd.prog 19 #[.iface 42 (.pointer (some ⟨b, 0, none⟩)), pe p] w fun en w' => en = .returned (.bool true) ∧ Below w.heap.size w w' := by
  have h10 := @run_callFunc_extern Tryd.prog 29 _ ReflectliteType.typeOf Tryd.func29 (by kernel_rfl) (by kernel_rfl) (by kernel_rfl) (by kernel_rfl)
  have tO := typeOfPE
  have mC := methodComp
  have hC := callCompPE
  have hHH := Lib.hid h
  have hTT := Lib.hid hT
  clear h hT
  go_enter Tryd.func19, Tryd.ntmps19
  go_wp2_with (first
    | (go_at_call 30; refine (is_plain B b p s v0 _ hTT.out hHH.out).mono ?_; rintro en w1 ⟨rfl, b1⟩)
    | fail)
  go_ret
  exact ⟨rfl, b1⟩
end Go.Proofs.YtlbpephbigikcaaDoor.flt
