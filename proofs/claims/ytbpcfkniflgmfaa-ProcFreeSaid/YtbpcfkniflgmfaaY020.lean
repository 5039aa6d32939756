/- Texts laid into one: Any, PrdT. -/
import Derived.Test.YtbpcfkniflgmfaaY000
import Derived.OrdersHeld
import Derived.Deep.MidRow
import Derived.Test.YtbpcfkniflgmfaaY019
section
/- A region that draws its order and holds many calls: where each operation yields one value in every world that meets S, and leaves S, the order makes no difference: the region is walked once, operation by operation. Of no program. -/
namespace Go.Proofs.Ytbpcfkniflgmfaa
open Go.RowKit

section
variable {P : Program} {ops : Array Oper} {Q : Exit → Act → World → Prop} {md : Region.Mode} {S : World → Prop}

/-- What an operation comes to: v, in a world that meets S. -/
def Comes (P : Program) (S : World → Prop) (v : Value) : Result Next → Prop
  | .ok (.value u) w => u = v ∧ S w
  | .ok .skip w => v = undef ∧ S w
  | .ok (.enter f args) w => Calls P f args w fun en w' => en = .returned v ∧ S w'
  | _ => False

/-- In state a operation o makes v in every world that meets S, and leaves S. -/
def Makes (P : Program) (ops : Array Oper) (S : World → Prop) (o : Oper) (v : Value) (a : Act) : Prop :=
  (Region.wanted o (yielded ops a.tmps) = true ∧ ∀ w, S w → Comes P S v ((execOp a.eval o).run P w)) ∨
  (Region.wanted o (yielded ops a.tmps) = false ∧ v = undef)

theorem Makes.of_same {o : Oper} {v : Value} {a a' : Act} (hy : Makes P ops S o v a) (he : execOp a'.eval o = execOp a.eval o)
    (hw : Region.wanted o (yielded ops a'.tmps) = Region.wanted o (yielded ops a.tmps)) : Makes P ops S o v a' := by
  unfold Makes at *
  rw [he, hw]
  exact hy

theorem Makes.wpOp {i : Nat} {o : Oper} {v : Value} {a : Act} (hi : ops[i]? = some o) (hy : Makes P ops S o v a)
    {K : Act → World → Prop} {w : World} (hS : S w) (h : ∀ w', S w' → K (a.put o.dst v) w') : wpOp P ops Q i K a w := by
  unfold Go.wpOp
  simp only [hi]
  rcases hy with ⟨hw, hv⟩ | ⟨hw, rfl⟩
  · simp only [hw, if_true, Oper.wp]
    refine .inl ?_
    have := hv w hS
    generalize (execOp a.eval o).run P w = r at this
    cases r with
    | ok n w' =>
      cases n with
      | value u => obtain ⟨rfl, hs⟩ := this; exact h _ hs
      | skip => obtain ⟨rfl, hs⟩ := this; exact h _ hs
      | enter f args => exact Calls.mono this fun en w'' he => by obtain ⟨rfl, hs⟩ := he; exact h _ hs
      | _ => exact this.elim
    | halt x w' => exact this.elim
  · simp only [hw, Bool.false_eq_true, if_false]; exact h _ hS

theorem wpOp_putM {j : Nat} {oi oj : Oper} {v : Value} (hj : ops[j]? = some oj) (hap : oi.apart ops oj = true)
    (hsi : ∀ cs b, oi.op ≠ .select cs b) (hsj : ∀ cs b, oj.op ≠ .select cs b)
    (hQ : ∀ c a w, Q (.panic c) (a.put oi.dst v) w → Q (.panic c) a w) {K : Act → World → Prop} {a : Act} {w : World}
    (hy : Makes P ops S oi v a) (h : wpOp P ops Q j K (a.put oi.dst v) w) :
    wpOp P ops Q j (fun a' w' => Makes P ops S oi v a' ∧ K (a'.put oi.dst v) w') a w := by
  obtain ⟨h1, h2, h3⟩ := Oper.apart_spec hap
  have keep : ∀ (a : Act), Makes P ops S oi v a → ∀ u, Makes P ops S oi v (a.put oj.dst u) := fun a hy u =>
    hy.of_same (execOp_put oi hsi a oj.dst u h3) (wanted_put oi a oj.dst u h3)
  have keepD : ∀ d, Makes P ops S oi v { a with defers := d :: a.defers } := fun d => hy.of_same rfl rfl
  unfold wpOp at *
  simp only [hj] at *
  rw [wanted_put oj a oi.dst v h1] at h
  split
  · rename_i hw
    simp only [hw, if_true] at h
    rcases h with h | ⟨hasks, hlets⟩
    case inr => exact .inr ⟨by unfold Oper.asks at *; rw [execOp_put oj hsj a oi.dst v h1] at hasks; exact hasks, hlets⟩
    refine .inl ?_
    unfold Oper.wp at *
    rw [execOp_put oj hsj a oi.dst v h1] at h
    generalize (execOp a.eval oj).run P w = r at *
    cases r with
    | ok n w' =>
      cases n <;> simp only [Oper.upon] at h ⊢
      case value u => exact ⟨keep a hy u, by rw [← Act.put_comm a v u h2]; exact h⟩
      case skip => exact ⟨keep a hy _, by rw [← Act.put_comm a v undef h2]; exact h⟩
      case defer d =>
        refine ⟨keep _ (keepD d) _, ?_⟩
        rw [← Act.put_comm _ v undef h2, ← Act.put_defers]
        exact h
      case enter f args =>
        refine Calls.mono h fun e w'' he => ?_
        cases e with
        | returned u => exact ⟨keep a hy u, by rw [← Act.put_comm a v u h2]; exact he⟩
        | panicked c => exact hQ _ _ _ he
        | outgrown => exact he
      case row row args => exact Rows.mono h fun u w'' he => ⟨keep a hy u, by rw [← Act.put_comm a v u h2]; exact he⟩
    | halt x w' =>
      cases x <;> simp only [Oper.upon] at h ⊢
      case panic u => exact hQ _ _ _ h
  · rename_i hw
    simp only [hw] at h
    exact ⟨keep a hy _, by rw [← Act.put_comm a v undef h2]; exact h⟩

/-- Whatever order is picked from here on, in whatever world that meets S; S holds behind every operation. -/
def AnyS (P : Program) (md : Region.Mode) (ops : Array Oper) (Q : Exit → Act → World → Prop) (S : World → Prop) : Nat → Array Bool → Act → Prop
  | 0, listed, a => Region.ready md ops listed = [] ∧ ∀ w, S w → Q .normal a w
  | fuel + 1, listed, a =>
    (Region.ready md ops listed = [] → ∀ w, S w → Q .normal a w) ∧
    ∀ i ∈ Region.ready md ops listed, ∀ w, S w → wpOp P ops Q i (fun a' w' => S w' ∧ AnyS P md ops Q S fuel (listed.setIfInBounds i true) a') a w

theorem AnyS.any : ∀ (fuel : Nat) (listed : Array Bool) (a : Act) (w : World), S w → AnyS P md ops Q S fuel listed a → wpAny P md ops Q fuel listed a w
  | 0, _, _, w, hs, h => ⟨h.1, h.2 w hs⟩
  | fuel + 1, _, _, w, hs, h => ⟨fun h0 => h.1 h0 w hs, fun i hi => wpOp_mono (fun a' w' h' => AnyS.any fuel _ a' w' h'.1 h'.2) (h.2 i hi w hs)⟩

theorem AnyS.first {i : Nat} {oi : Oper} {v : Value} (hi : ops[i]? = some oi) (hsel : ∀ (j : Nat) (o : Oper) cs b, ops[j]? = some o → o.op ≠ .select cs b)
    (hQ : ∀ c a w, Q (.panic c) (a.put oi.dst v) w → Q (.panic c) a w) :
    ∀ (fuel : Nat) (listed : Array Bool) (a : Act),
      (∀ j oj, ops[j]? = some oj → j ≠ i → listed.getD j true = false → (∀ e ∈ oj.after, Region.binds md e = true → e.on ≠ i) → oi.apart ops oj = true) →
      i ∈ Region.ready md ops listed → Makes P ops S oi v a →
      AnyS P md ops Q S fuel (listed.setIfInBounds i true) (a.put oi.dst v) → AnyS P md ops Q S (fuel + 1) listed a := by
  intro fuel
  induction fuel with
  | zero =>
    intro listed a _ hr hy H
    refine ⟨fun h => (by rw [h] at hr; cases hr), fun j hj w hS => ?_⟩
    by_cases hji : j = i
    · subst hji; exact hy.wpOp hi hS (fun w' hS' => ⟨hS', H⟩)
    · have := ready_mono hj hji
      rw [H.1] at this
      cases this
  | succ fuel ih =>
    intro listed a hfree hr hy H
    refine ⟨fun h => (by rw [h] at hr; cases hr), fun j hj w hS => ?_⟩
    by_cases hji : j = i
    · subst hji; exact hy.wpOp hi hS (fun w' hS' => ⟨hS', H⟩)
    · have h1 := H.2 j (ready_mono hj hji) w hS
      obtain ⟨hjun, oj, hoj, hall⟩ := mem_ready.1 hj
      have hnot : ∀ e ∈ oj.after, Region.binds md e = true → e.on ≠ i := fun e he hb heq => by
        have h1 := hall e he hb
        have h0 := (mem_ready.1 hr).1
        rw [heq] at h1
        rcases Nat.lt_or_ge i listed.size with h' | h'
        · simp [h'] at h0 h1; rw [h0] at h1; cases h1
        · simp [Array.getElem?_eq_none h'] at h1
      have h2 := wpOp_putM hoj (hfree j oj hoj hji hjun hnot) (fun cs b => hsel i oi cs b hi) (fun cs b => hsel j oj cs b hoj) hQ hy h1
      have hfree' : ∀ k ok, ops[k]? = some ok → k ≠ i → (listed.setIfInBounds j true).getD k true = false →
          (∀ e ∈ ok.after, Region.binds md e = true → e.on ≠ i) → oi.apart ops ok = true := fun k ok hk hki hun hno => by
        refine hfree k ok hk hki ?_ hno
        by_cases hjk : j = k
        · subst hjk; exact hjun
        · rw [getD_set_ne true hjk] at hun; exact hun
      refine wpOp_mono (fun a' w' h3 => ⟨h3.2.1, ih (listed.setIfInBounds j true) a' hfree' (ready_mono hr (Ne.symm hji)) h3.1 ?_⟩) h2
      rw [Array.setIfInBounds_comm _ _ hji]
      exact h3.2.2

theorem AnyS.done {listed : Array Bool} {a : Act} (hr : Region.ready md ops listed = []) (h : ∀ w, S w → Q .normal a w) :
    ∀ fuel, AnyS P md ops Q S fuel listed a
  | 0 => ⟨hr, h⟩
  | _ + 1 => ⟨fun _ => h, by rw [hr]; simp⟩

/-- The beginning. -/
theorem wp_region_S {id : Nat} {a : Act} {w : World} (S : World → Prop) (hm : P.follows .mixedOrders = true) (hS : S w.drew)
    (h : AnyS P .any ops Q S ops.size (Array.replicate ops.size false) a) : (Code.region id ops true).wp P Q a w :=
  wp_region_any hm (AnyS.any _ _ _ _ hS h)

/-- Take number i: an operation that yields v and leaves the world as it is. -/
theorem AnyS.pure (i : Nat) (d : Option Tmp) {oi : Oper} {v : Value} {fuel : Nat} {listed : Array Bool} {a : Act} (hi : ops[i]? = some oi) (hd : oi.dst = d)
    (hs : Region.noSelect ops = true) (hf : Region.free md ops listed i = true) (hr : (Region.ready md ops listed).contains i = true)
    (hQ : ∀ c a w, Q (.panic c) (a.put d v) w → Q (.panic c) a w) (hw : Region.wanted oi (yielded ops a.tmps) = true)
    (hy : ∀ w, S w → (execOp a.eval oi).run P w = .ok (.value v) w)
    (h : AnyS P md ops Q S fuel (listed.setIfInBounds i true) (a.put d v)) : AnyS P md ops Q S (fuel + 1) listed a := by
  subst hd
  exact AnyS.first hi (Region.noSelect_spec hs) hQ fuel listed a (Region.free_spec hi hf) (by simpa using hr) (.inl ⟨hw, fun w hS => by rw [hy w hS]; exact ⟨rfl, hS⟩⟩) h

/-- Take number i: its guard is false. -/
theorem AnyS.skip (i : Nat) (d : Option Tmp) {oi : Oper} {fuel : Nat} {listed : Array Bool} {a : Act} (hi : ops[i]? = some oi) (hd : oi.dst = d)
    (hs : Region.noSelect ops = true) (hf : Region.free md ops listed i = true) (hr : (Region.ready md ops listed).contains i = true)
    (hQ : ∀ c a w, Q (.panic c) (a.put d undef) w → Q (.panic c) a w) (hw : Region.wanted oi (yielded ops a.tmps) = false)
    (h : AnyS P md ops Q S fuel (listed.setIfInBounds i true) (a.put d undef)) : AnyS P md ops Q S (fuel + 1) listed a := by
  subst hd
  exact AnyS.first hi (Region.noSelect_spec hs) hQ fuel listed a (Region.free_spec hi hf) (by simpa using hr) (.inr ⟨hw, rfl⟩) h

/-- Take number i: a call of a Go function, by its contract. -/
theorem AnyS.call (i : Nat) (d : Option Tmp) {oi : Oper} (v : Value) {fuel : Nat} {listed : Array Bool} {a : Act} (hi : ops[i]? = some oi) (hd : oi.dst = d)
    (hs : Region.noSelect ops = true) (hf : Region.free md ops listed i = true) (hr : (Region.ready md ops listed).contains i = true)
    (hQ : ∀ c a w, Q (.panic c) (a.put d v) w → Q (.panic c) a w) (hw : Region.wanted oi (yielded ops a.tmps) = true)
    (f : FuncId) (fn : Func) (hfn : P.funcs[f]? = some fn) (hname : (fn.name == "runtime.NumGoroutine") = false) (hb : fn.body.isNone = false) (xs : Array Operand) (ts : Array TypeId)
    (ho : oi.op = .call { callee := .value (.func f), args := xs, argTypes := ts }) (vs : Array Value) (hv : xs.map a.eval = vs)
    (hc : ∀ w, S w → Calls P f vs w fun en w' => en = .returned v ∧ S w')
    (h : AnyS P md ops Q S fuel (listed.setIfInBounds i true) (a.put d v)) : AnyS P md ops Q S (fuel + 1) listed a := by
  subst hd
  exact AnyS.first hi (Region.noSelect_spec hs) hQ fuel listed a (Region.free_spec hi hf) (by simpa using hr) (.inl ⟨hw, fun w hS => by
    have hfv : a.eval (.func f) = .func (.func f) #[] #[] := rfl
    have he : (execOp a.eval oi).run P w = .ok (.enter f vs) w := by
      simp only [execOp, ho]
      have h1 : fn.name ≠ "runtime.NumGoroutine" := by simpa using hname
      simp [resolve, hv, hfv, Deferred.ofValue, invoke, callFunc, hfn, h1]
      intro hn
      simp [hn] at hb
    rw [he]
    exact hc w hS⟩) h

/-- One operation may come up, or one of two; what it comes to. -/
theorem held_one {i : Nat} {fuel : Nat} {listed : Array Bool} {a : Act} {w : World} (hr : Region.ready md ops listed = [i])
    (h : wpOp P ops Q i (fun a' w' => S w' ∧ wpAnyH P md ops Q S fuel (listed.setIfInBounds i true) a' w') a w) : wpAnyH P md ops Q S (fuel + 1) listed a w :=
  wpAnyH_all hr (by simp) (fun j hj => by obtain rfl := List.mem_singleton.1 hj; exact h)
theorem held_two {i j : Nat} {fuel : Nat} {listed : Array Bool} {a : Act} {w : World} (hr : Region.ready md ops listed = [i, j])
    (h1 : wpOp P ops Q i (fun a' w' => S w' ∧ wpAnyH P md ops Q S fuel (listed.setIfInBounds i true) a' w') a w)
    (h2 : wpOp P ops Q j (fun a' w' => S w' ∧ wpAnyH P md ops Q S fuel (listed.setIfInBounds j true) a' w') a w) : wpAnyH P md ops Q S (fuel + 1) listed a w :=
  wpAnyH_all hr (by simp) (fun k hk => by
    rcases List.mem_cons.1 hk with rfl | hk
    · exact h1
    · obtain rfl := List.mem_singleton.1 hk
      exact h2)

theorem held_take (i : Nat) (d : Option Tmp) {oi : Oper} {v : Value} {fuel : Nat} {listed : Array Bool} {a : Act} {w : World} (hi : ops[i]? = some oi) (hd : oi.dst = d)
    (hs : Region.noSelect ops = true) (hf : Region.free md ops listed i = true) (hr : (Region.ready md ops listed).contains i = true)
    (hQ : ∀ c a w, Q (.panic c) (a.put d v) w → Q (.panic c) a w) (hy : YieldsIf P ops S oi v a) (hS : S w)
    (h : wpAnyH P md ops Q S fuel (listed.setIfInBounds i true) (a.put d v) w) : wpAnyH P md ops Q S (fuel + 1) listed a w := by
  subst hd
  exact wpAnyH_take hi hs hf hr hQ hy hS h

theorem wpOp_value (d : Option Tmp) {i : Nat} {o : Oper} {v : Value} {K : Act → World → Prop} {a : Act} {w w' : World} (hi : ops[i]? = some o) (hd : o.dst = d) (hw : Region.wanted o (yielded ops a.tmps) = true)
    (hr : (execOp a.eval o).run P w = .ok (.value v) w') (h : K (a.put d v) w') : wpOp P ops Q i K a w := by
  subst hd
  unfold wpOp
  simp only [hi, hw, if_true, Oper.wp, hr]
  exact .inl h

theorem wpOp_call (d : Option Tmp) {i : Nat} {o : Oper} {K : Act → World → Prop} {a : Act} {w : World} (hi : ops[i]? = some o) (hd : o.dst = d) (hw : Region.wanted o (yielded ops a.tmps) = true)
    (f : FuncId) (fn : Func) (hfn : P.funcs[f]? = some fn) (hname : (fn.name == "runtime.NumGoroutine") = false) (hb : fn.body.isNone = false) (xs : Array Operand) (ts : Array TypeId)
    (ho : o.op = .call { callee := .value (.func f), args := xs, argTypes := ts }) (vs : Array Value) (hv : xs.map a.eval = vs) {R : Ending → World → Prop} (hc : Calls P f vs w R)
    (h : ∀ en w', R en w' → ∃ v, en = .returned v ∧ K (a.put d v) w') : wpOp P ops Q i K a w := by
  subst hd
  have hf : a.eval (.func f) = .func (.func f) #[] #[] := rfl
  have he : (execOp a.eval o).run P w = .ok (.enter f vs) w := by
    simp only [execOp, ho]
    have h1 : fn.name ≠ "runtime.NumGoroutine" := by simpa using hname
    simp [resolve, hv, hf, Deferred.ofValue, invoke, callFunc, hfn, h1]
    intro hn
    simp [hn] at hb
  unfold wpOp
  simp only [hi, hw, if_true]
  refine .inl ?_
  unfold Oper.wp
  rw [he, Oper.upon_enter]
  refine hc.mono ?_
  intro en w' hR
  obtain ⟨v, rfl, hK⟩ := h en w' hR
  exact hK

end
end Go.Proofs.Ytbpcfkniflgmfaa
end

section
/- Law 16's once: the decided slots are the first ones, no record twice, each process's in their order. -/
namespace Go.Proofs.Ytbpcfkniflgmfaa.prc
open Go Go.RowKit Go.Maps

/-- What lasts in once. -/
structure Oz (V0 : World) (P L d : Nat) (l s v p : Value) (x mm : Nat) (F : Nat → Int) (k : Nat) (V : World) : Prop where
  bx : Has V x 33 (stC P L d l s v p)
  ct : Ct V0 mm F k V
  lo : Below V0.heap.size V0 V

section
variable {w V0 V V' : World} {P L K d c m x mm k : Nat} {A : Ab} {I : Nat → Prop} {B : Nat → Nat} {l s v p : Value} {F : Nat → Int}
theorem Oz.below (h : Oz V0 P L d l s v p x mm F k V) (hb : Below V.heap.size V V') : Oz V0 P L d l s v p x mm F k V' := ⟨h.bx.below hb h.bx.lt, h.ct.below hb, h.lo.trans (hb.mono h.lo.size)⟩
theorem Oz.drew (h : Oz V0 P L d l s v p x mm F k V) : Oz V0 P L d l s v p x mm F k V.drew := ⟨h.bx.drew, h.ct.drew, h.lo.drew⟩
set_option maxRecDepth 100000 in
theorem Oz.put (h : Oz V0 P L d l s v p x mm F k V) (hk : k < 1000) (i : Nat) (hi : i ≤ 1000) (c : Int) (hc : cel.Fits c) : ∃ V', (Instr.mapUpdate 51 (.map (some mm)) (.int .i64 i) (.int .i64 c)).run Try.prog V = .ok () V' ∧ Oz V0 P L d l s v p x mm (up F i c) (k + 1) V' := by
  obtain ⟨V', h1, h2, h3⟩ := h.ct.put (by omega) i hi c hc
  have hne := h.ct.ne h.bx
  refine ⟨V', h1, h.bx.grown h3 (fun e => hne (by injection e with e; exact e.symm)), h2, ?_⟩
  have t := (Turn.of_below h.lo (F := fun j => V0.heap.size ≤ j) (fun _ _ e => e)).grown h3 (fun j e _ => by injection e with e; rw [← e]; exact h.ct.new)
  exact t.below (Nat.le_refl _) (fun _ hj e => by omega)

set_option maxRecDepth 100000 in
set_option maxHeartbeats 4000000 in
theorem Sys.once (h : Sys w d c m P L A K I B V) (hG : Good P L A) (hP : P ≤ 5) (hL : L ≤ 20) (gl ol nl cl gs os ns cs gv ov nv cv gp op np cp : Nat) :
    Calls Try.prog 10 #[.agg (stC P L d (.slice (some ⟨gl, ol, none⟩) nl cl) (.slice (some ⟨gs, os, none⟩) ns cs) (.slice (some ⟨gv, ov, none⟩) nv cv) (.slice (some ⟨gp, op, none⟩) np cp))] V fun en V' => en = .returned (.bool true) ∧ Below V.heap.size V V' := by
  obtain ⟨D, hI⟩ := hG.inv
  have hPL := Lib.hid (And.intro hP hL)
  have hLi : (L : Int) ≤ 20 := by omega
  have H := Lib.hid h
  have HG := Lib.hid hG
  have HI := Lib.hid hI
  have hrun0 := fun W => run_makeMap (P := Try.prog) 51 W
  clear h hP hL hG hI
  go_enter Try.func10, Try.ntmps10
  go_wp2_with fail
  go_name_world W hW
  obtain ⟨mm, hmm⟩ : ∃ mm, mm = V.heap.size + 1 := ⟨_, rfl⟩
  have S0 : Hid (Oz V P L d (.slice (some ⟨gl, ol, none⟩) nl cl) (.slice (some ⟨gs, os, none⟩) ns cs) (.slice (some ⟨gv, ov, none⟩) nv cv) (.slice (some ⟨gp, op, none⟩) np cp) V.heap.size mm (fun i => (kn A.S i 0 : Nat)) 0 W) := by
    have hm : cel.Mp ((V.alloc (.cells (stC P L d (.slice (some ⟨gl, ol, none⟩) nl cl) (.slice (some ⟨gs, os, none⟩) ns cs) (.slice (some ⟨gv, ov, none⟩) nv cv) (.slice (some ⟨gp, op, none⟩) np cp)) 33)).alloc (.map #[] 0)) (V.heap.size + 1) (.map [] : DataW Unit) := by
      have h0 := cel.tight (World.ownsMap_made (H := Unit) (V.alloc (.cells (stC P L d (.slice (some ⟨gl, ol, none⟩) nl cl) (.slice (some ⟨gs, os, none⟩) ns cs) (.slice (some ⟨gv, ov, none⟩) nv cv) (.slice (some ⟨gp, op, none⟩) np cp)) 33)) Try.prog 3 (plainElem Try.prog 3))
      rw [show ∀ o, (V.alloc o).heap.size = V.heap.size + 1 from fun o => by simp] at h0
      exact h0
    rw [← hW, hmm]
    refine Lib.hid ⟨(Has.made _ _ _).alloc _, ⟨⟨.map [], hm, fun i => rfl, Nat.le_refl _⟩, by omega⟩, ((Below.refl _ V).alloc (Nat.le_refl _) _).alloc (by simp) _⟩
  rw [← hmm]
  clear hW hmm hrun0
  generalize V.heap.size = x at *
  go_loopw [13, 4] (fun i o wr => ∃ (k : Nat), i = .int .i64 k ∧ o = .bool (decide (D < k)) ∧ k ≤ L ∧ Hid (Oz V P L d (.slice (some ⟨gl, ol, none⟩) nl cl) (.slice (some ⟨gs, os, none⟩) ns cs) (.slice (some ⟨gv, ov, none⟩) nv cv) (.slice (some ⟨gp, op, none⟩) np cp) x mm (fun i => (kn A.S i k : Nat)) k wr)) (fun i _ _ => L - (intOf i).toNat)
  case atStart => exact ⟨0, rfl, by rw [decide_eq_false (by omega)], Nat.zero_le _, S0⟩
  case round =>
    clear S0
    obtain ⟨k, rfl, rfl, hk, HS⟩ := hrel
    by_cases hkL : k < L
    · have hki : (k : Int) < (L : Int) := by omega
      have hk0 : (0 : Int) ≤ (k : Int) := by omega
      obtain ⟨q, hq⟩ : ∃ q, q = P + k := ⟨_, rfl⟩
      obtain ⟨t, ht⟩ : ∃ t, t = txo (A.S k) := ⟨_, rfl⟩
      have HT : Hid (cellT P A q = t) := Lib.hid (by rw [hq, cellT_slot, ht])
      have HN : Hid (q < P + L ∧ q = P + k ∧ k < L) := Lib.hid (by omega)
      have HC : ∀ V, Hid (Calls Try.prog 12 #[.agg #[.int .i64 P, .int .i64 L], .int .i64 k] V fun en w' => en = .returned (.int .i64 q) ∧ Below V.heap.size V w') := fun V => Lib.hid (by
        have e : (q : Int) = (P : Int) + (k : Int) := by omega
        rw [e]
        exact slotP_calls P L k V (by omega) (by have := hPL.out; omega) (by omega) (by have := hPL.out; omega))
      have HTX := Lib.hid ht
      clear hq ht hk
      go_wp2_with fail
      refine wp_region_S (S := fun V1 => Oz V P L d (.slice (some ⟨gl, ol, none⟩) nl cl) (.slice (some ⟨gs, os, none⟩) ns cs) (.slice (some ⟨gv, ov, none⟩) nv cv) (.slice (some ⟨gp, op, none⟩) np cp) x mm (fun i => (kn A.S i k : Nat)) k V1) (by kernel_rfl) (by exact HS.out.drew) ?_
      refine AnyS.pure 0 (some 16) (v := .pointer (some ⟨x, 2, none⟩)) rfl rfl (by kernel_rfl) (by kernel_rfl) (by kernel_rfl) (fun _ _ _ h => h) (by kernel_rfl) (fun V _ => by go_simp) ?_
      refine AnyS.pure 1 (some 17) (v := .pointer (some ⟨d, 0, none⟩)) rfl rfl (by kernel_rfl) (by kernel_rfl) (by kernel_rfl) (fun _ _ _ h => h) (by kernel_rfl) (fun V hV => by have c0 := hV.bx.cell 0; have c1 := hV.bx.cell 1; have c2 := hV.bx.cell 2; go_simp) ?_
      refine AnyS.pure 2 (some 18) (v := .pointer (some ⟨x, 0, none⟩)) rfl rfl (by kernel_rfl) (by kernel_rfl) (by kernel_rfl) (fun _ _ _ h => h) (by kernel_rfl) (fun V _ => by go_simp) ?_
      refine AnyS.pure 3 (some 19) (v := .agg #[.int .i64 P, .int .i64 L]) rfl rfl (by kernel_rfl) (by kernel_rfl) (by kernel_rfl) (fun _ _ _ h => h) (by kernel_rfl) (fun V hV => by have c0 := hV.bx.cell 0; have c1 := hV.bx.cell 1; have c2 := hV.bx.cell 2; go_simp) ?_
      refine AnyS.pure 4 (some 20) rfl rfl (by kernel_rfl) (by kernel_rfl) (by kernel_rfl) (fun _ _ _ h => h) (by kernel_rfl) (fun _ _ => rfl) ?_
      refine AnyS.call 5 (some 21) (.int .i64 q) rfl rfl (by kernel_rfl) (by kernel_rfl) (by kernel_rfl) (fun _ _ _ h => h) (by kernel_rfl) 12 Try.f12 Try.func12 (by kernel_rfl) (by kernel_rfl) _ _ rfl #[.agg #[.int .i64 P, .int .i64 L], .int .i64 k] (by first | (simp [Act.eval]; done) | (simp [Act.eval, Act.put]; done)) (fun V hV => ((HC V).out).mono (by rintro en v ⟨rfl, bv⟩; exact ⟨rfl, hV.below bv⟩)) ?_
      simp only [Act.put, List.setIfInBounds_toArray, List.set_cons_zero, List.set_cons_succ]
      refine AnyS.call 6 (some 22) (.string t) rfl rfl (by kernel_rfl) (by kernel_rfl) (by kernel_rfl) (fun _ _ _ h => h) (by kernel_rfl) 11 Try.f11 Try.func11 (by kernel_rfl) (by kernel_rfl) _ _ rfl #[.pointer (some ⟨d, 0, none⟩), .int .i64 q] (by first | (simp [Act.eval]; done) | (simp [Act.eval, Act.put]; done)) (fun V hV => ((H.out.below hV.lo).look q HN.out.1 t HT.out).mono (by rintro en v ⟨rfl, rfl⟩; exact ⟨rfl, hV⟩)) ?_
      simp only [Act.put, List.setIfInBounds_toArray, List.set_cons_zero, List.set_cons_succ]
      refine AnyS.pure 7 (some 6) rfl rfl (by kernel_rfl) (by kernel_rfl) (by kernel_rfl) (fun _ _ _ h => h) (by kernel_rfl) (fun _ _ => rfl) ?_
      refine AnyS.done (by kernel_rfl) (fun V1 hV => ?_) _
      have S1 := Lib.hid hV
      clear hV HS
      cases hS : A.S k with
      | none =>
        have hDk : ¬ k < D := fun h => (HI.out.pre k).2 h hS
        obtain rfl : t = ⟨#[]⟩ := by rw [HTX.out, hS]; rfl
        go_wp2_with (first
          | (go_at_call 42; refine (parse_empty _).mono ?_; rintro en w5 ⟨⟨e, he, rfl⟩, b5⟩
             have S5 := Lib.hid (S1.out.below b5)
             have HE := Lib.hid he
             clear b5 he)
          | fail)
        refine ⟨⟨k + 1, by rw [Int.natCast_add]; rfl, by rw [decide_eq_true (by omega)], by omega, ?_⟩, ?_⟩
        · have e : (fun i => ((kn A.S i (k + 1) : Nat) : Int)) = (fun i => ((kn A.S i k : Nat) : Int)) := by
            funext i
            congr 1
            show (match A.S k with | some r => if r.who = i then max (kn A.S i k) r.seq else kn A.S i k | none => kn A.S i k) = _
            rw [hS]
          rw [e]
          have S6 := S5.out.below ((Below.refl _ _).alloc (Nat.le_refl _) (.cells #[.int .i64 0, .int .i64 0, .string ⟨#[]⟩] 48))
          exact Lib.hid ⟨S6.bx, ⟨by obtain ⟨D1, h1, h2, h3⟩ := S6.ct.map; exact ⟨D1, h1, h2, by omega⟩, S6.ct.new⟩, S6.lo⟩
        · show L - ((k : Int) + 1).toNat < L - ((k : Int)).toNat
          omega
      | some r =>
        have hDk : k < D := (HI.out.pre k).1 (by rw [hS]; intro e; cases e)
        have hslot := HI.out.slot k r hS
        obtain rfl : t = tx r := by rw [HTX.out, hS]; rfl
        have HF : Hid r.Fits := Lib.hid (HG.out.fit.slot k r hS)
        have hne : ((tx r).toList == []) = false := by
          have := bytes_ne (tx_ne r)
          simpa using this
        obtain ⟨wh, hwh⟩ : ∃ wh, wh = r.who := ⟨_, rfl⟩
        obtain ⟨sq, hsq⟩ : ∃ sq : Int, sq = r.seq := ⟨_, rfl⟩
        obtain ⟨la, hla⟩ : ∃ la : Int, ((kn A.S wh k : Nat) : Int) = la := ⟨_, rfl⟩
        have hlt : ¬ sq ≤ la := by rw [hsq, ← hla, hwh]; have := hslot.2; omega
        have hlt2 : (decide (sq ≤ la)) = false := decide_eq_false hlt
        have hdd : decide (D < k) = false := decide_eq_false (by omega)
        have HR := Lib.hid (And.intro hla (And.intro hsq (And.intro hwh (And.intro (show wh ≤ 1000 by have := HF.out.1; omega) (show cel.Fits sq by rw [hsq]; have := HF.out.2.1; exact ⟨by omega, by omega⟩)))))
        have HW : Hid (cellN P A q = 1) := Lib.hid (by rw [HN.out.2.1, cellN_slot, hS])
        have HP2 : ∀ V, Hid (Calls Try.prog 42 #[.string (tx r)] V fun en w' => en = .returned (.tuple #[.agg #[.int .i64 wh, .int .i64 sq, .string r.body], .int .i64 0]) ∧ Below V.heap.size V w') := fun V => Lib.hid (by rw [hwh, hsq]; exact parse_some r V HF.out)
        obtain ⟨bd, hbd⟩ : ∃ bd, bd = r.body := ⟨_, rfl⟩
        rw [← hbd] at HP2
        generalize tx r = tt at *
        clear hla hlt hsq hslot hbd hwh
        go_wp2_with (first
          | (go_at_call 42; refine (HP2 _).out.mono ?_; rintro en w5 ⟨rfl, b5⟩
             have S5 := Lib.hid (S1.out.below b5)
             clear b5)
          | fail)
        go_name_world U hU
        have SU : Hid (Oz V P L d (.slice (some ⟨gl, ol, none⟩) nl cl) (.slice (some ⟨gs, os, none⟩) ns cs) (.slice (some ⟨gv, ov, none⟩) nv cv) (.slice (some ⟨gp, op, none⟩) np cp) x mm (fun i => (kn A.S i k : Nat)) k U ∧ Has U w5.heap.size 48 #[.int .i64 wh, .int .i64 sq, .string bd]) := by
          rw [← hU]
          exact Lib.hid ⟨S5.out.below ((Below.refl _ _).alloc (Nat.le_refl _) _), Has.made _ _ _⟩
        clear hU S5
        generalize w5.heap.size = y at *
        refine wp_region_S (S := fun V1 => Oz V P L d (.slice (some ⟨gl, ol, none⟩) nl cl) (.slice (some ⟨gs, os, none⟩) ns cs) (.slice (some ⟨gv, ov, none⟩) nv cv) (.slice (some ⟨gp, op, none⟩) np cp) x mm (fun i => (kn A.S i k : Nat)) k V1 ∧ Has V1 y 48 #[.int .i64 wh, .int .i64 sq, .string bd]) (by kernel_rfl) (by exact ⟨SU.out.1.drew, SU.out.2.drew⟩) ?_
        refine AnyS.pure 0 (some 30) rfl rfl (by kernel_rfl) (by kernel_rfl) (by kernel_rfl) (fun _ _ _ h => h) (by kernel_rfl) (fun _ _ => rfl) ?_
        refine AnyS.pure 1 (some 31) rfl rfl (by kernel_rfl) (by kernel_rfl) (by kernel_rfl) (fun _ _ _ h => h) (by kernel_rfl) (fun _ _ => rfl) ?_
        refine AnyS.pure 2 (some 32) rfl rfl (by kernel_rfl) (by kernel_rfl) (by kernel_rfl) (fun _ _ _ h => h) (by kernel_rfl) (fun _ _ => rfl) ?_
        refine AnyS.pure 3 (some 33) (v := .bool false) rfl rfl (by kernel_rfl) (by kernel_rfl) (by kernel_rfl) (fun _ _ _ h => h) (by kernel_rfl) (fun V _ => by go_simp) ?_
        refine AnyS.pure 4 (some 34) (v := .bool false) rfl rfl (by kernel_rfl) (by kernel_rfl) (by kernel_rfl) (fun _ _ _ h => h) (by kernel_rfl) (fun V _ => by go_simp) ?_
        refine AnyS.pure 5 (some 35) rfl rfl (by kernel_rfl) (by kernel_rfl) (by kernel_rfl) (fun _ _ _ h => h) (by kernel_rfl) (fun _ _ => rfl) ?_
        refine AnyS.pure 6 (some 36) (v := .pointer (some ⟨y, 1, none⟩)) rfl rfl (by kernel_rfl) (by kernel_rfl) (by kernel_rfl) (fun _ _ _ h => h) (by kernel_rfl) (fun V _ => by go_simp) ?_
        refine AnyS.pure 7 (some 37) (v := .int .i64 sq) rfl rfl (by kernel_rfl) (by kernel_rfl) (by kernel_rfl) (fun _ _ _ h => h) (by kernel_rfl) (fun V hV => by have c0 := hV.1.bx.cell 0; have c1 := hV.1.bx.cell 1; have c2 := hV.1.bx.cell 2; have y0 := hV.2.cell 0; have y1 := hV.2.cell 1; go_simp) ?_
        refine AnyS.pure 8 (some 38) rfl rfl (by kernel_rfl) (by kernel_rfl) (by kernel_rfl) (fun _ _ _ h => h) (by kernel_rfl) (fun _ _ => rfl) ?_
        refine AnyS.pure 9 (some 39) (v := .pointer (some ⟨y, 0, none⟩)) rfl rfl (by kernel_rfl) (by kernel_rfl) (by kernel_rfl) (fun _ _ _ h => h) (by kernel_rfl) (fun V _ => by go_simp) ?_
        refine AnyS.pure 10 (some 40) (v := .int .i64 wh) rfl rfl (by kernel_rfl) (by kernel_rfl) (by kernel_rfl) (fun _ _ _ h => h) (by kernel_rfl) (fun V hV => by have c0 := hV.1.bx.cell 0; have c1 := hV.1.bx.cell 1; have c2 := hV.1.bx.cell 2; have y0 := hV.2.cell 0; have y1 := hV.2.cell 1; go_simp) ?_
        refine AnyS.pure 11 (some 41) (v := .int .i64 la) rfl rfl (by kernel_rfl) (by kernel_rfl) (by kernel_rfl) (fun _ _ _ h => h) (by kernel_rfl) (fun V hV => by have hl := hV.1.ct.look wh HR.out.2.2.2.1 HR.out.1; go_simp) ?_
        refine AnyS.pure 12 (some 42) (v := .bool false) rfl rfl (by kernel_rfl) (by kernel_rfl) (by kernel_rfl) (fun _ _ _ h => h) (by kernel_rfl) (fun V _ => by go_simp) ?_
        refine AnyS.pure 13 (some 43) (v := .bool false) rfl rfl (by kernel_rfl) (by kernel_rfl) (by kernel_rfl) (fun _ _ _ h => h) (by kernel_rfl) (fun V _ => by go_simp) ?_
        refine AnyS.pure 14 (some 44) rfl rfl (by kernel_rfl) (by kernel_rfl) (by kernel_rfl) (fun _ _ _ h => h) (by kernel_rfl) (fun _ _ => rfl) ?_
        refine AnyS.pure 15 (some 45) (v := .pointer (some ⟨x, 2, none⟩)) rfl rfl (by kernel_rfl) (by kernel_rfl) (by kernel_rfl) (fun _ _ _ h => h) (by kernel_rfl) (fun V _ => by go_simp) ?_
        refine AnyS.pure 16 (some 46) (v := .pointer (some ⟨d, 0, none⟩)) rfl rfl (by kernel_rfl) (by kernel_rfl) (by kernel_rfl) (fun _ _ _ h => h) (by kernel_rfl) (fun V hV => by have c0 := hV.1.bx.cell 0; have c1 := hV.1.bx.cell 1; have c2 := hV.1.bx.cell 2; have y0 := hV.2.cell 0; have y1 := hV.2.cell 1; go_simp) ?_
        refine AnyS.pure 17 (some 47) (v := .pointer (some ⟨x, 0, none⟩)) rfl rfl (by kernel_rfl) (by kernel_rfl) (by kernel_rfl) (fun _ _ _ h => h) (by kernel_rfl) (fun V _ => by go_simp) ?_
        refine AnyS.pure 18 (some 48) (v := .agg #[.int .i64 P, .int .i64 L]) rfl rfl (by kernel_rfl) (by kernel_rfl) (by kernel_rfl) (fun _ _ _ h => h) (by kernel_rfl) (fun V hV => by have c0 := hV.1.bx.cell 0; have c1 := hV.1.bx.cell 1; have c2 := hV.1.bx.cell 2; have y0 := hV.2.cell 0; have y1 := hV.2.cell 1; go_simp) ?_
        refine AnyS.pure 19 (some 49) rfl rfl (by kernel_rfl) (by kernel_rfl) (by kernel_rfl) (fun _ _ _ h => h) (by kernel_rfl) (fun _ _ => rfl) ?_
        refine AnyS.call 20 (some 50) (.int .i64 q) rfl rfl (by kernel_rfl) (by kernel_rfl) (by kernel_rfl) (fun _ _ _ h => h) (by kernel_rfl) 12 Try.f12 Try.func12 (by kernel_rfl) (by kernel_rfl) _ _ rfl #[.agg #[.int .i64 P, .int .i64 L], .int .i64 k] (by first | (simp [Act.eval]; done) | (simp [Act.eval, Act.put]; done)) (fun V hV => ((HC V).out).mono (by rintro en v ⟨rfl, bv⟩; exact ⟨rfl, hV.1.below bv, hV.2.below bv hV.2.lt⟩)) ?_
        simp only [Act.put, List.setIfInBounds_toArray, List.set_cons_zero, List.set_cons_succ]
        refine AnyS.call 21 (some 51) (.int .i64 1) rfl rfl (by kernel_rfl) (by kernel_rfl) (by kernel_rfl) (fun _ _ _ h => h) (by kernel_rfl) 43 Try.f43 Try.func43 (by kernel_rfl) (by kernel_rfl) _ _ rfl #[.pointer (some ⟨d, 0, none⟩), .int .i64 q] (by first | (simp [Act.eval]; done) | (simp [Act.eval, Act.put]; done)) (fun V hV => ((H.out.below hV.1.lo).swaps q HN.out.1 1 HW.out).mono (by rintro en v ⟨rfl, rfl⟩; exact ⟨rfl, hV⟩)) ?_
        simp only [Act.put, List.setIfInBounds_toArray, List.set_cons_zero, List.set_cons_succ]
        refine AnyS.pure 22 (some 52) (v := .bool false) rfl rfl (by kernel_rfl) (by kernel_rfl) (by kernel_rfl) (fun _ _ _ h => h) (by kernel_rfl) (fun V _ => by go_simp) ?_
        refine AnyS.pure 23 (some 53) (v := .bool false) rfl rfl (by kernel_rfl) (by kernel_rfl) (by kernel_rfl) (fun _ _ _ h => h) (by kernel_rfl) (fun V _ => by go_simp) ?_
        refine AnyS.done (by kernel_rfl) (fun V2 hV => ?_) _
        have y0 := hV.2.cell 0
        have y1 := hV.2.cell 1
        obtain ⟨V3, hrun3, hO⟩ := hV.1.put (by have := HN.out; have := hPL.out; omega) wh HR.out.2.2.2.1 sq HR.out.2.2.2.2
        have HO := Lib.hid hO
        clear hV SU S1 hO
        go_wp2_with fail
        refine ⟨⟨k + 1, by rw [Int.natCast_add]; rfl, by rw [decide_eq_false (by omega)], by omega, ?_⟩, ?_⟩
        · have e : (fun i => ((kn A.S i (k + 1) : Nat) : Int)) = up (fun i => ((kn A.S i k : Nat) : Int)) wh sq := by
            funext i
            show ((match A.S k with | some r => if r.who = i then max (kn A.S i k) r.seq else kn A.S i k | none => kn A.S i k : Nat) : Int) = _
            rw [hS]
            have h1 := HR.out.2.1
            have h2 := HR.out.2.2.1
            have h3 := HR.out.1
            by_cases e2 : i = wh
            · subst e2
              rw [up_same, h1]
              show ((if r.who = i then max (kn A.S i k) r.seq else kn A.S i k : Nat) : Int) = _
              rw [if_pos h2.symm]
              congr 1
              refine Nat.max_eq_right ?_
              have h4 := hlt2
              simp only [decide_eq_false_iff_not] at h4
              first | done | omega
            · rw [up_other _ _ e2]
              show ((if r.who = i then max (kn A.S i k) r.seq else kn A.S i k : Nat) : Int) = _
              rw [if_neg (fun e => e2 (by rw [h2, e]))]
          rw [e]
          exact HO
        · show L - ((k : Int) + 1).toNat < L - ((k : Int)).toNat
          omega
    · obtain rfl : k = L := by omega
      go_wp2_with fail
      go_ret
      exact ⟨rfl, HS.out.lo⟩
end
end Go.Proofs.Ytbpcfkniflgmfaa.prc
end

