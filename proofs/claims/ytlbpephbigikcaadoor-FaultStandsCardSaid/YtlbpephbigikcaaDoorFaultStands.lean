/- FaultStands: for any list of steps, any two numbers, any step and place the law answers true, and its arguments read afterwards as they did. Conditions: the variable that the row lists reads as the program's own initialisers leave it (the card ties it). -/
import Derived.Test.YtlbpephbigikcaaDoorFltS
import Derived.Test.YtlbpephbigikcaaDoorFltK
import Derived.Test.YtlbpephbigikcaaDoorCards
import Derived.Test.YtlbpephbigikcaaDoorTie
import Derived.SevenTiedAt
import Derived.ShutString
namespace Go.Proofs.YtlbpephbigikcaaDoor.faultStands
open Go Go.RowKit Go.ChangeShapes Go.WideShapes Go.ChangeAt Go.Proofs.YtlbpephbigikcaaDoor.flt
open Go.ChangeMaps (open_string shut_string)

def outerB : ByteArray := ⟨#[111, 117, 116, 101, 114]⟩
theorem outer_list : outerB.toList = [111, 117, 116, 101, 114] := by simp [outerB, ByteArray.toList_eq]

/-- Is it the outer step, or one of the first k behind it? -/
def isAt (L : List Sp) (o : ByteArray) (k : Nat) : Bool := decide (outerB = o) || (L.take k).any (fun x => decide (x.s = o))
theorem isAt_next {L : List Sp} (o : ByteArray) {k : Nat} {x : Sp} (h : L[k]? = some x) : isAt L o (k + 1) = (isAt L o k || decide (x.s = o)) := by
  unfold isAt
  rw [List.take_add_one, h, List.any_append, Bool.or_assoc]
  simp
theorem isAt_all (L : List Sp) (o : ByteArray) (B : Nat) (at_ : Int) : within (⟨B, outerB, at_⟩ :: L) o = isAt L o L.length := by
  unfold isAt within
  rw [List.take_length]
  rfl
theorem bytes_list {s t : ByteArray} (h : s.toList = t.toList) : s = t := by
  rw [ByteArray.toList_eq, ByteArray.toList_eq] at h
  cases s; cases t
  simp at h
  rw [h]
theorem bytes_beq (s t : ByteArray) : (s.toList == t.toList) = decide (s = t) := by
  by_cases h : s = t
  · subst h; simp
  · rw [decide_eq_false h]; exact beq_eq_false_iff_ne.2 fun e => h (bytes_list e)

theorem guard_same (L : List Sp) (n : Int) (a b : Operand) (w : World) : (eqGuard .eql 25 a b (ev L n) (ev L n)).run Tryd.prog w = .ok () w := by
  cases L <;> rfl
/-- A call that stands behind a guard. -/
theorem step_callg {P : Program} {w : World} {ops : Array Oper} {o : Oper} {a : Act} {K : Act → World → Prop} {Q : Exit → Act → World → Prop} {E : Prop} (hw : Region.wanted o (yielded ops a.tmps) = true) (f : FuncId) (fn : Func) (hfn : P.funcs[f]? = some fn) (hname : (fn.name == "runtime.NumGoroutine") = false) (hb : fn.body.isNone = false) (xs : Array Operand) (ts : Array TypeId)
    (ho : o.op = .call { callee := .value (.func f), args := xs, argTypes := ts }) (vs : Array Value) (hv : xs.map a.eval = vs) {R : Ending → World → Prop} (hc : Calls P f vs w R)
    (h : ∀ en w', R en w' → ∃ v, en = .returned v ∧ K (a.put o.dst v) w') :
    if Region.wanted o (yielded ops a.tmps) = true then Oper.wp P o a w K Q else E := by
  rw [if_pos hw]
  have hf : a.eval (.func f) = .func (.func f) #[] #[] := rfl
  have he : (execOp a.eval o).run P w = .ok (.enter f vs) w := by
    simp only [execOp, ho]
    have h1 : fn.name ≠ "runtime.NumGoroutine" := by simpa using hname
    simp [resolve, hv, hf, Deferred.ofValue, invoke, callFunc, hfn, h1]
    intro hn
    simp [hn] at hb
  unfold Oper.wp
  rw [he, Oper.upon_enter]
  refine hc.mono ?_
  intro en w' hR
  obtain ⟨v, rfl, hK⟩ := h en w' hR
  exact hK

set_option maxRecDepth 100000 in
set_option maxHeartbeats 8000000 in
theorem stands_any (a1 : Option Addr) (len1 c1 : Nat) (T1 : Nat → ByteArray × Int) (n m : Int) (o0 : ByteArray) (at_ : Int) (w : World) (h1 : ArgT w a1 len1 T1) (hs0 : o0.size ≤ maxLen) (hT : Et w.heap.size w) :
    Calls Tryd.prog 4 #[.slice a1 len1 c1, .int .i64 n, .int .i64 m, .string o0, .int .i64 at_] w fun en w' => en = .returned (.bool true) ∧ Below w.heap.size w w' := by
  have HT := Lib.hid hT
  have HA1 := Lib.hid h1
  have HS0 := Lib.hid hs0
  obtain ⟨o, ho⟩ : ∃ o, cut10 o0 = o := ⟨_, rfl⟩
  have HOC := Lib.hid ho
  obtain ⟨x, hx⟩ : ∃ x, num n = x := ⟨_, rfl⟩
  obtain ⟨y, hy⟩ : ∃ y, num m = y := ⟨_, rfl⟩
  have hx0 : x ≠ 0 := by have := (num_range n).1; omega
  have HX0 := Lib.hid hx0
  have HX := Lib.hid hx
  have HY := Lib.hid hy
  clear hT h1 hx hy ho hs0 hx0
  go_enter Tryd.func4, Tryd.ntmps4
  go_wp2_with fail
  refine (awake_calls w.heap.size w HT.out).mono ?_
  rintro en w1 ⟨rfl, b1⟩
  have B1 := Lib.hid b1
  clear b1
  go_wp2_with fail
  refine (wrapped_calls w.heap.size a1 len1 c1 T1 n w1 (HT.out.below B1.out (Nat.le_refl _)) (HA1.out.below B1.out)).mono ?_
  rintro en w2 ⟨mm, L, v1, rfl, hm6, -, -, hl, hM, hE, hF⟩
  rw [HX.out] at hE ⊢
  have B2 : Hid (Below w.heap.size w w2) := Lib.hid (B1.out.trans (below_less hF.2.2 B1.out.size))
  have HE := Lib.hid hE
  have HL := Lib.hid hl
  have HM := Lib.hid hM
  have HROW := Lib.hid hF.1
  obtain ⟨q, cq, rfl, -, -⟩ := hF.1.slice
  have hm6b : (mm : Int) ≤ 6 := by omega
  clear hE hl hM hF
  obtain ⟨b0, hb0⟩ : ∃ b0, b0 = decide (outerB = o) := ⟨_, rfl⟩
  have eb1 : (o.toList == outerB.toList) = b0 := by rw [bytes_beq, hb0]; exact decide_eq_decide.2 ⟨fun h => h.symm, fun h => h.symm⟩
  have eb2 : (o.toList == [111, 117, 116, 101, 114]) = b0 := by rw [← outer_list]; exact eb1
  have HB0 := Lib.hid hb0
  clear hb0
  go_wp2_with (first
    | (go_at_call 17; refine (in_calls L x outerB at_ _ HX0.out).mono ?_; rintro en w4 ⟨rfl, hw4⟩
       have HW4 := Lib.hid hw4
       clear hw4)
    | (go_at_call 18; refine (cut_calls o0 _ HS0.out).mono ?_; rw [HOC.out]; rintro en w3 ⟨rfl, rfl⟩)
    | fail)
  have B4 : Hid (Below w.heap.size w w4) := by rw [HW4.out]; exact Lib.hid (B2.out.alloc B2.out.size _)
  have Bz : Hid (Below w2.heap.size w2 w4) := by rw [HW4.out]; exact Lib.hid ((Below.refl _ w2).alloc (Nat.le_refl _) _)
  have HN : Hid (Has w4 w2.heap.size 47 #[.string outerB, .int .i64 at_, ev L x]) := by rw [HW4.out]; exact Lib.hid (Has.made _ _ _)
  have HT4 : Hid (Et w4.heap.size w4) := Lib.hid (HT.out.whole B4.out)
  have HE4 : Hid (Er w4.heap.size w4 L x) := Lib.hid ((HE.out.below Bz.out (Nat.le_refl _)).more Bz.out.size)
  have HF4 : Hid (Er w4.heap.size w4 (⟨w2.heap.size, outerB, at_⟩ :: L) x) := Lib.hid ⟨⟨HN.out, HN.out.lt⟩, HE4.out⟩
  have HNE : Hid (∀ y ∈ L, w2.heap.size ≠ y.b) := Lib.hid fun y hy e => by have := HE.out.lt y hy; omega
  have HROW4 : Hid (Seg w4 38 2 (.slice q mm cq) mm (rowT T1 mm)) := Lib.hid (HROW.out.below Bz.out (fun b hb => HROW.out.lt hb))
  have HBN : Hid (w2.heap.size < w4.heap.size ∧ Has w4 w2.heap.size 47 #[.string outerB, .int .i64 at_, ev L x]) := Lib.hid ⟨HN.out.lt, HN.out⟩
  obtain ⟨B, hB⟩ : ∃ B, B = w2.heap.size := ⟨_, rfl⟩
  rw [← hB] at HF4 HNE HBN ⊢
  clear hB HW4 HN Bz HE HROW
  obtain ⟨F, hF⟩ : ∃ F : List Sp, F = ⟨B, outerB, at_⟩ :: L := ⟨_, rfl⟩
  rw [← hF] at HF4 ⊢
  have hFl : Hid (F.length = mm + 1) := Lib.hid (by rw [hF, List.length_cons, HL.out])
  have HFF := Lib.hid hF
  have HISA : Hid (within F o = isAt L o mm) := Lib.hid (by rw [hF, isAt_all, HL.out])
  have HEV : Hid (ev F x = .iface 42 (.pointer (some ⟨B, 0, none⟩))) := Lib.hid (by rw [hF]; rfl)
  clear hF
  go_wp2_with fail
  go_loopw [14, 36] (fun v i wr => ∃ (k : Nat) (bb : Bool), i = .int .i64 k ∧ v = .bool bb ∧ k ≤ mm ∧ Hid (bb = isAt L o k) ∧ Hid (Below w4.heap.size w4 wr)) (fun _ i _ => 6 - (flt.intOf i).toNat)
  case atStart => exact ⟨0, b0, rfl, rfl, Nat.zero_le _, Lib.hid (by rw [HB0.out]; unfold isAt; simp), Lib.hid (Below.refl _ _)⟩
  case round =>
    clear eb1 eb2
    obtain ⟨k, bb, rfl, rfl, hk, HBB, HB⟩ := hrel
    by_cases hk1 : k < mm
    · have hk1b : (k : Int) < (mm : Int) := by omega
      have hk0b : (0 : Int) ≤ (k : Int) := by omega
      have HR : Hid (Seg wr 38 2 (.slice q mm cq) mm (rowT T1 mm)) := Lib.hid (HROW4.out.below HB.out (fun b hb => HROW4.out.lt hb))
      obtain ⟨g, off, c', e, hg, _, _, hcells⟩ := HR.out.cells (by omega)
      injection e with e1 e2 e3
      subst e1
      subst e3
      clear e2
      have c0 : wr.cell? ⟨g, off + k * 2, none⟩ = some (.string (cut10 (T1 k).1)) := hcells (k * 2) _ (rowT_get hk1).1
      have c1 : wr.cell? ⟨g, off + k * 2 + 1, none⟩ = some (.int .i64 (low62 (T1 k).2)) := hcells (k * 2 + 1) _ (rowT_get hk1).2
      have HNX : Hid (isAt L o (k + 1) = (isAt L o k || decide (cut10 (T1 k).1 = o))) := Lib.hid (by
        obtain ⟨z, hz1, hz2, _⟩ := HM.out.get k (by have := HL.out; omega)
        rw [isAt_next o hz1, hz2, Nat.zero_add])
      obtain ⟨s, hs1⟩ : ∃ s, s = cut10 (T1 k).1 := ⟨_, rfl⟩
      obtain ⟨z, hz1⟩ : ∃ z, z = low62 (T1 k).2 := ⟨_, rfl⟩
      rw [← hs1] at c0 HNX
      rw [← hz1] at c1
      obtain ⟨bs, hbs⟩ : ∃ bs, bs = decide (s = o) := ⟨_, rfl⟩
      have eb : (s.toList == o.toList) = bs := by rw [bytes_beq, hbs]
      rw [← hbs, ← HBB.out] at HNX
      clear hs1 hz1 hcells hg hbs
      cases bb
      case' false =>
        have hbb : Hid (isAt L o (k + 1) = bs) := Lib.hid HNX.out
      case' true =>
        have hbb : Hid (isAt L o (k + 1) = true) := Lib.hid HNX.out
      all_goals
        go_wp2_with fail
        refine ⟨⟨k + 1, _, by rw [Int.natCast_add]; rfl, rfl, by omega, Lib.hid hbb.out.symm, Lib.hid (HB.out.alloc HB.out.size _)⟩, ?_⟩
        show 6 - ((k : Int) + 1).toNat < 6 - ((k : Int)).toNat
        omega
    · obtain rfl : k = mm := by omega
      have HIS : Hid (within F o = bb) := Lib.hid (by rw [HISA.out, HBB.out])
      go_wp2_with fail
      go_name_world W hW
      obtain ⟨fB, hfB⟩ : ∃ fB, fB = wr.heap.size := ⟨_, rfl⟩
      have Pf : Hid (Has W fB 42 #[.pointer none]) := by rw [← hW, hfB]; exact Lib.hid ((Has.made _ _ _).alloc _)
      have Px : Hid (Has W (fB + 1) 28 #[.int .i64 0]) := by
        rw [← hW, hfB]
        have h := Has.made (wr.alloc (.cells #[.pointer none] 42)) 28 #[.int .i64 0]
        have e : (wr.alloc (.cells #[.pointer none] 42)).heap.size = wr.heap.size + 1 := by simp
        rw [e] at h
        exact Lib.hid h
      have BW : Hid (Below w4.heap.size w4 W) := by rw [← hW]; exact Lib.hid ((HB.out.alloc HB.out.size _).alloc (by have := HB.out.size; simp; omega) _)
      have HfB : Hid (w4.heap.size ≤ fB) := Lib.hid (by rw [hfB]; exact HB.out.size)
      rw [← hfB]
      clear hW hfB HB
      have hIS : Hid (Calls Tryd.prog 19 #[ev F x, ev L x] W.drew (fun en w' => en = .returned (.bool true) ∧ Below W.drew.heap.size W.drew w')) := by
        refine Lib.hid ?_
        have h1 := HF4.out.below BW.out.drew (Nat.le_refl _)
        rw [HFF.out] at h1 ⊢
        exact Is_next w4.heap.size ⟨B, outerB, at_⟩ L x W.drew (HT4.out.below BW.out.drew (Nat.le_refl _)) h1 HNE.out
      go_region_law (first
        | (refine step_call rfl 19 Tryd.f19 Tryd.func19 (by kernel_rfl) (by kernel_rfl) _ _ rfl #[ev F x, ev L x] (by first | (simp [Act.eval]; done) | (simp [Act.eval, Act.put]; done)) (by exact hIS.out) ?_
           rintro en w5 ⟨rfl, b5⟩
           have P5 := Lib.hid (Pf.out.drew.below b5 (by have := Pf.out.lt; exact this))
           have X5 := Lib.hid (Px.out.drew.below b5 (by have := Px.out.lt; exact this))
           have BW5 : Hid (Below w4.heap.size w4 w5) := Lib.hid (BW.out.drew.trans (below_less b5 BW.out.size))
           have hAs : Hid (Calls Tryd.prog 20 #[ev F x, .iface 45 (.pointer (some ⟨fB, 0, none⟩))] w5 (AsPost fB 42 (.pointer (some ⟨B, 0, none⟩)) w5)) := by
             refine Lib.hid ?_
             rw [HFF.out]
             exact as_fault w4.heap.size ⟨B, outerB, at_⟩ L x fB _ w5 (HT4.out.below BW5.out (Nat.le_refl _)) P5.out
           clear b5
           refine ⟨_, rfl, ?_⟩)
        | (refine step_callg (by first | rfl | kernel_rfl) 20 Tryd.f20 Tryd.func20 (by kernel_rfl) (by kernel_rfl) _ _ rfl #[ev F x, .iface 45 (.pointer (some ⟨fB, 0, none⟩))] (by first | (simp [Act.eval]; done) | (simp [Act.eval, Act.put]; done)) (by exact hAs.out) ?_
           rintro en w6 ⟨rfl, p6, t6⟩
           have X6 := Lib.hid (X5.out.turn t6 (fun e => by omega))
           have BW6 : Hid (Below w4.heap.size w4 w6) := Lib.hid (BW5.out.trans (t6.below (BW5.out.size) (fun j hj e => by have := HfB.out; omega)))
           have N6 := Lib.hid (HBN.out.2.below BW6.out HBN.out.1)
           have f0 : w6.cell? ⟨fB, 0, none⟩ = some (.pointer (some ⟨B, 0, none⟩)) := p6.cell 0
           have s0 : w6.cell? ⟨B, 0, none⟩ = some (.string ⟨#[111, 117, 116, 101, 114]⟩) := N6.out.cell 0
           have s1 : w6.cell? ⟨B, 1, none⟩ = some (.int .i64 at_) := N6.out.cell 1
           have hAn : Hid (Calls Tryd.prog 20 #[ev F x, .iface 48 (.pointer (some ⟨fB + 1, 0, none⟩))] w6 (AsPost (fB + 1) 28 (.int .i64 x) w6)) := Lib.hid (as_errno w4.heap.size F x (fB + 1) _ w6 (HT4.out.below BW6.out (Nat.le_refl _)) (HF4.out.below BW6.out (Nat.le_refl _)) X6.out)
           clear p6 t6
           refine ⟨_, rfl, ?_⟩)
        | (refine step_callg (by first | rfl | kernel_rfl) 20 Tryd.f20 Tryd.func20 (by kernel_rfl) (by kernel_rfl) _ _ rfl #[ev F x, .iface 48 (.pointer (some ⟨fB + 1, 0, none⟩))] (by first | (simp [Act.eval]; done) | (simp [Act.eval, Act.put]; done)) (by exact hAn.out) ?_
           rintro en w7 ⟨rfl, p7, t7⟩
           have BW7 : Hid (Below w4.heap.size w4 w7) := Lib.hid (BW6.out.trans (t7.below (BW6.out.size) (fun j hj e => by have := HfB.out; omega)))
           have x0 : w7.cell? ⟨fB + 1, 0, none⟩ = some (.int .i64 x) := p7.cell 0
           clear p7 t7 f0 s0 s1
           refine ⟨_, rfl, ?_⟩)
        | (refine step_callg (by first | rfl | kernel_rfl) 10 Tryd.f10 Tryd.func10 (by kernel_rfl) (by kernel_rfl) _ _ rfl #[.int .i64 n] (by first | (simp [Act.eval]; done) | (simp [Act.eval, Act.put]; done)) (num_is HX.out _) ?_
           rintro en w8 ⟨rfl, rfl⟩
           refine ⟨_, rfl, ?_⟩))
      all_goals
        clear P5 X5 Pf Px X6 N6 hAs hAn hIS BW BW5 BW6
        have HB := BW7
        by_cases hxy : x = y
        · have e1 : (x == x) = true := by simp
          subst hxy
          go_wp2_with fail
          refine (num_is HX.out _).mono ?_
          rintro en v1 ⟨rfl, rfl⟩
          go_wp2_with fail
          refine (has_calls w4.heap.size F x x _ (HT4.out.below HB.out (Nat.le_refl _)) (HF4.out.below HB.out (Nat.le_refl _))).mono ?_
          rw [e1]
          rintro en wr ⟨rfl, b5⟩
          replace HB := Lib.hid (HB.out.trans (below_less b5 HB.out.size))
          clear b5
          go_wp2_with fail
          refine (num_is HY.out _).mono ?_
          rintro en v1 ⟨rfl, rfl⟩
          go_wp2_with fail
          refine (has_calls w4.heap.size F x x _ (HT4.out.below HB.out (Nat.le_refl _)) (HF4.out.below HB.out (Nat.le_refl _))).mono ?_
          rw [e1]
          rintro en wr ⟨rfl, b5⟩
          replace HB := Lib.hid (HB.out.trans (below_less b5 HB.out.size))
          clear b5
          go_wp2_with fail
          refine (num_is HY.out _).mono ?_
          rintro en v1 ⟨rfl, rfl⟩
          go_wp2_with fail
          refine (num_is HX.out _).mono ?_
          rintro en v1 ⟨rfl, rfl⟩
          go_wp2_with fail
          refine (within_calls w4.heap.size F x o _ (HT4.out.below HB.out (Nat.le_refl _)) (HF4.out.below HB.out (Nat.le_refl _)) (by have := hFl.out; omega)).mono ?_
          rw [HIS.out]
          rintro en wr ⟨rfl, b5⟩
          replace HB := Lib.hid (HB.out.trans b5)
          clear b5
          go_wp2_with fail
          refine (num_is HX.out _).mono ?_
          rintro en v1 ⟨rfl, rfl⟩
          go_wp2_with fail
          refine (Is_num w4.heap.size F x x _ (HT4.out.below HB.out (Nat.le_refl _)) (HF4.out.below HB.out (Nat.le_refl _))).mono ?_
          rw [e1]
          rintro en wr ⟨rfl, b5⟩
          replace HB := Lib.hid (HB.out.trans (below_less b5 HB.out.size))
          clear b5
          go_wp2_with fail
          refine (show Calls Tryd.prog 23 #[ev F x] wr (fun en w' => en = .returned (ev L x) ∧ wr = w') by
            have h1 := HF4.out.below HB.out (Nat.le_refl _)
            rw [HFF.out] at h1 ⊢
            exact unw_calls ⟨B, outerB, at_⟩ L x wr h1.1.1).mono ?_
          rintro en wu ⟨rfl, rfl⟩
          have hgs := fun a b V => guard_same L x a b V
          have hes := fun V => ev_same L x V
          go_wp2_with fail
          go_ret
          exact ⟨rfl, B4.out.trans (below_less HB.out B4.out.size)⟩
        · have e1 : (x == x) = true := by simp
          have e2 : (x == y) = false := by simp; omega
          have e3 : (y == x) = false := by simp; omega
          go_wp2_with fail
          refine (num_is HX.out _).mono ?_
          rintro en v1 ⟨rfl, rfl⟩
          go_wp2_with fail
          refine (has_calls w4.heap.size F x x _ (HT4.out.below HB.out (Nat.le_refl _)) (HF4.out.below HB.out (Nat.le_refl _))).mono ?_
          rw [e1]
          rintro en wr ⟨rfl, b5⟩
          replace HB := Lib.hid (HB.out.trans (below_less b5 HB.out.size))
          clear b5
          go_wp2_with fail
          refine (num_is HY.out _).mono ?_
          rintro en v1 ⟨rfl, rfl⟩
          go_wp2_with fail
          refine (has_calls w4.heap.size F x y _ (HT4.out.below HB.out (Nat.le_refl _)) (HF4.out.below HB.out (Nat.le_refl _))).mono ?_
          rw [e2]
          rintro en wr ⟨rfl, b5⟩
          replace HB := Lib.hid (HB.out.trans (below_less b5 HB.out.size))
          clear b5
          go_wp2_with fail
          refine (num_is HY.out _).mono ?_
          rintro en v1 ⟨rfl, rfl⟩
          go_wp2_with fail
          refine (num_is HX.out _).mono ?_
          rintro en v1 ⟨rfl, rfl⟩
          go_wp2_with fail
          refine (within_calls w4.heap.size F x o _ (HT4.out.below HB.out (Nat.le_refl _)) (HF4.out.below HB.out (Nat.le_refl _)) (by have := hFl.out; omega)).mono ?_
          rw [HIS.out]
          rintro en wr ⟨rfl, b5⟩
          replace HB := Lib.hid (HB.out.trans b5)
          clear b5
          go_wp2_with fail
          refine (num_is HX.out _).mono ?_
          rintro en v1 ⟨rfl, rfl⟩
          go_wp2_with fail
          refine (Is_num w4.heap.size F x x _ (HT4.out.below HB.out (Nat.le_refl _)) (HF4.out.below HB.out (Nat.le_refl _))).mono ?_
          rw [e1]
          rintro en wr ⟨rfl, b5⟩
          replace HB := Lib.hid (HB.out.trans (below_less b5 HB.out.size))
          clear b5
          go_wp2_with fail
          refine (show Calls Tryd.prog 23 #[ev F x] wr (fun en w' => en = .returned (ev L x) ∧ wr = w') by
            have h1 := HF4.out.below HB.out (Nat.le_refl _)
            rw [HFF.out] at h1 ⊢
            exact unw_calls ⟨B, outerB, at_⟩ L x wr h1.1.1).mono ?_
          rintro en wu ⟨rfl, rfl⟩
          have hgs := fun a b V => guard_same L x a b V
          have hes := fun V => ev_same L x V
          go_wp2_with fail
          go_ret
          exact ⟨rfl, B4.out.trans (below_less HB.out B4.out.size)⟩

def Arg0 (w : World) (a : Option Addr) (len _cap : Nat) : Prop := ∃ T, ArgT w a len T

theorem walk (a0 : Option Addr) (len0 cap0 : Nat) (n m : Int) (s : ByteArray) (at_ : Int) (w : World) (w0 : Arg0 w a0 len0 cap0) (_ : (Lit.int .i64 n).wf = true) (_ : (Lit.int .i64 m).wf = true) (hs : s.size ≤ maxLen) (_ : (Lit.int .i64 at_).wf = true) (hT : Et w.heap.size w) :
    Calls Tryd.prog 4 #[.slice a0 len0 cap0, .int .i64 n, .int .i64 m, .string s, .int .i64 at_] w fun en w' => en = .returned (.bool true) ∧ Below w.heap.size w w' := by
  obtain ⟨T1, h1⟩ := w0
  exact stands_any a0 len0 cap0 T1 n m s at_ w h1 hs hT

theorem opened0 {H : Type} {enc : TypeId × Value → H} {w : World} {spare : Nat → Bool} {held : Bool} {a : Option Addr} {len cap : Nat} {d : DataW H} {p : List MemPlace} (h : DataW.Trod enc Tryd.prog w 0 spare held 22 (.slice a len cap) d p) : Arg0 w a len cap := openedT h

theorem own : ownKnob Tryd.prog.godebug = none := by kernel_rfl
theorem laidOut : laidOutB Tryd.prog = true := by kernel_rfl

set_option maxRecDepth 100000 in
theorem lifted (os : Os) (started : os.Started) (H : Type) (enc : TypeId × Value → H) :
    ReturnsInHanded {} Tryd.checked os 4 .any (fun w args => (Rows.faultStandsSpec.pre enc Tryd.prog Tryd.f4 [] false w args ∧ laidMetH Tryd.prog Rows.faultStandsRow.laid w) ∧ sizedMet enc Tryd.prog Tryd.f4 (OpenSpec.ofChange Rows.faultStandsSpec) false w args)
      (Rows.faultStandsSpec.post enc Tryd.prog Tryd.f4 false true false false) := by
  refine returnsInHanded_of_change_and (C := Tryd.checked) (X := fun w _ => laidMetH Tryd.prog Rows.faultStandsRow.laid w) (fun _ _ _ hh h => h.of_heap hh) own started (by kernel_rfl) Tryd.func4
    (ChangeSpec.witness_shaped (enc := enc) (C := Tryd.checked) (os := os) (X := fun w _ => laidMetH Tryd.prog Rows.faultStandsRow.laid w) false (World.doorLaid Tryd.prog 31 os) #[.slice none 0 0, .int .i64 0, .int .i64 0, .string ByteArray.empty, .int .i64 0] 8 rfl (door_shaped os _) (by kernel_rfl) (by kernel_rfl) (by kernel_rfl) (door_met os _)) ?_
  intro W base args ds gs before hval0 hW _ _ hL _
  have hval : ∀ (j : Nat) t v, Tryd.f4.params[j]? = some t → args[j]? = some v → Value.okWide Tryd.prog W .any base t v := hval0
  have hW' := hW
  obtain ⟨p, q, hA0, hV, rfl, _, _⟩ := hW
  have hA : DataW.TrodAll enc Tryd.prog W 0 (fun _ => true) true Tryd.f4.params.toList args.toList ds p := hA0
  rw [Tryd.params4] at hA hval
  obtain ⟨v0, vs0, d0, ds0, p0, q0, hargs, rfl, rfl, h0, r0⟩ := trodAll_cons hA
  obtain ⟨v1, vs1, d1, ds1, p1, q1, rfl, rfl, rfl, h1, r1⟩ := trodAll_cons r0
  obtain ⟨v2, vs2, d2, ds2, p2, q2, rfl, rfl, rfl, h2, r2⟩ := trodAll_cons r1
  obtain ⟨v3, vs3, d3, ds3, p3, q3, rfl, rfl, rfl, h3, r3⟩ := trodAll_cons r2
  obtain ⟨v4, vs4, d4, ds4, p4, q4, rfl, rfl, rfl, h4, r4⟩ := trodAll_cons r3
  obtain ⟨rfl, rfl, rfl⟩ := trodAll_nil r4
  obtain rfl : args = #[v0, v1, v2, v3, v4] := by cases args; simp_all
  obtain ⟨rfl, rfl⟩ := trodVars_none hV
  obtain ⟨a0, len0, cap0, rfl⟩ := okWide_slice Tryd.underlying22 (hval 0 22 v0 rfl rfl)
  have k0 := h0
  have lt0 : ∀ x ∈ p0, x.block < W.heap.size := by obtain ⟨m, hm⟩ := k0; exact DataW.trod_lt m _ _ _ hm
  have w0 : Arg0 W a0 len0 cap0 := opened0 h0
  obtain ⟨a1, rfl, rfl, rfl, w1⟩ := open_int Tryd.underlying3 (hval 1 3 v1 rfl rfl) h1
  obtain ⟨a2, rfl, rfl, rfl, w2⟩ := open_int Tryd.underlying3 (hval 2 3 v2 rfl rfl) h2
  obtain ⟨a3, rfl, rfl, rfl, w3⟩ := open_string Tryd.underlying9 (hval 3 9 v3 rfl rfl) h3
  obtain ⟨a4, rfl, rfl, rfl, w4⟩ := open_int Tryd.underlying3 (hval 4 3 v4 rfl rfl) h4
  clear hA0 hval0
  refine (walk a0 len0 cap0 a1 a2 a3 a4 W w0 w1 w2 w3 w4 (et_of_laid hL)).mono fun e W' ⟨he, bel⟩ => ?_
  subst he
  exact ⟨_, rfl, _, _, _, [], _, [], hW', trodAll_mk1 (shut_bool Tryd.underlying4 _), (trodAll_cons_mk (Below.trod laidOut (by kernel_rfl) (of_decide_eq_true (by kernel_rfl)) k0 bel lt0) (trodAll_cons_mk (shut_int Tryd.underlying3 w1) (trodAll_cons_mk (shut_int Tryd.underlying3 w2) (trodAll_cons_mk (shut_string Tryd.underlying9 w3) (trodAll_cons_mk (shut_int Tryd.underlying3 w4) trodAll_mk0))))), rfl, bel.frame _, fun h => by cases h⟩

theorem over : Rows.faultStandsRow.holds Tryd.pinned (OpenSpec.ofChange Rows.faultStandsSpec) :=
  OpenClaim.holds_of_wide 4 Tryd.f4 rfl rfl rfl rfl rfl rfl rfl ⟨rfl, rfl, rfl, rfl, rfl⟩ rfl rfl rfl rfl rfl (by kernel_rfl) Tryd.func4 (by kernel_rfl)
    (of_decide_eq_true (by kernel_rfl)) (by unfold Func.isWrapper; first | (rw [if_pos (by decide +kernel)]; kernel_rfl) | (rw [if_neg (by decide +kernel)]; exact ⟨rfl, rfl⟩))
    (fun os started H enc _ => lifted os started H enc)

theorem plain (f : FuncId) (fn : Func) (hf : Tryd.pinned.checked.prog.funcNamed "hindsight/hindsightlaw03.FaultStands" = some f) (hfn : Tryd.pinned.checked.prog.funcs[f]? = some fn) :
    (true : Bool) = Tryd.pinned.checked.prog.looks [] ∧ ∀ (j : Nat) t, fn.params[j]? = some t → Tryd.pinned.checked.prog.wantsStandIn t = false := by
  obtain rfl : f = 4 := Option.some.inj ((show Tryd.prog.funcNamed "hindsight/hindsightlaw03.FaultStands" = some 4 by kernel_rfl).symm.trans hf) |>.symm
  obtain rfl : fn = Tryd.f4 := (Option.some.inj (Tryd.func4.symm.trans hfn)).symm
  refine ⟨by kernel_rfl, fun j t ht => ?_⟩
  rw [Tryd.params4] at ht
  have hm := Array.mem_of_getElem? ht
  simp only [List.mem_toArray, List.mem_cons, List.not_mem_nil, or_false] at hm
  rcases hm with rfl | rfl | rfl | rfl | rfl
  · exact (show Tryd.prog.wantsStandIn 22 = false by kernel_rfl)
  · exact (show Tryd.prog.wantsStandIn 3 = false by kernel_rfl)
  · exact (show Tryd.prog.wantsStandIn 3 = false by kernel_rfl)
  · exact (show Tryd.prog.wantsStandIn 9 = false by kernel_rfl)
  · exact (show Tryd.prog.wantsStandIn 3 = false by kernel_rfl)

theorem card : Rows.FaultStandsCardSaid :=
  Claim7.holds_tied_plain_at .later [] _ _ _ _ over (fun _ h => by cases h) (by kernel_rfl) (fun _ h => by cases h) faultStands_row_tie rfl ⟨rfl, rfl⟩ (by kernel_rfl) rfl plain (by kernel_rfl)

theorem proved : Rows.FaultStandsCardSaid := card


end Go.Proofs.YtlbpephbigikcaaDoor.faultStands
