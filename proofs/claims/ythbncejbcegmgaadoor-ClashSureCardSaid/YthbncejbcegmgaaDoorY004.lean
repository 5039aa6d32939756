/- Texts laid into one: Any, TreeG, Copy, CopyN, Clr, TreeK, TreeR. -/
import Derived.Test.YthbncejbcegmgaaDoorY000
import Derived.OrdersHeld
import Derived.Deep.MidRow
import Derived.Test.YthbncejbcegmgaaDoorY003
import Derived.Test.YthbncejbcegmgaaDoorY002
section
/- A region that draws its order and holds many calls: where each operation yields one value in every world that meets S, and leaves S, the order makes no difference: the region is walked once, operation by operation. Of no program. -/
namespace Go.Proofs.YthbncejbcegmgaaDoor
open Go.RowKit

section
variable {P : Program} {ops : Array Oper} {Q : Exit → Act → World → Prop} {md : Region.Mode} {S : World → Prop}

/-- What an operation comes to: v, in a world that meets S. -/
def Comes (P : Program) (S : World → Prop) (v : Value) : Result Next → Prop
  | .ok (.value u) w => u = v ∧ S w
  | .ok .skip w => v = undef ∧ S w
  | .ok (.enter f args) w => Calls P f args w fun en w' => en = .returned v ∧ S w'
  | _ => False

/-- In state a operation o makes v in every world that meets S, and leaves S. -/
def Makes (P : Program) (ops : Array Oper) (S : World → Prop) (o : Oper) (v : Value) (a : Act) : Prop :=
  (Region.wanted o (yielded ops a.tmps) = true ∧ ∀ w, S w → Comes P S v ((execOp a.eval o).run P w)) ∨
  (Region.wanted o (yielded ops a.tmps) = false ∧ v = undef)

theorem Makes.of_same {o : Oper} {v : Value} {a a' : Act} (hy : Makes P ops S o v a) (he : execOp a'.eval o = execOp a.eval o)
    (hw : Region.wanted o (yielded ops a'.tmps) = Region.wanted o (yielded ops a.tmps)) : Makes P ops S o v a' := by
  unfold Makes at *
  rw [he, hw]
  exact hy

theorem Makes.wpOp {i : Nat} {o : Oper} {v : Value} {a : Act} (hi : ops[i]? = some o) (hy : Makes P ops S o v a)
    {K : Act → World → Prop} {w : World} (hS : S w) (h : ∀ w', S w' → K (a.put o.dst v) w') : wpOp P ops Q i K a w := by
  unfold Go.wpOp
  simp only [hi]
  rcases hy with ⟨hw, hv⟩ | ⟨hw, rfl⟩
  · simp only [hw, if_true, Oper.wp]
    refine .inl ?_
    have := hv w hS
    generalize (execOp a.eval o).run P w = r at this
    cases r with
    | ok n w' =>
      cases n with
      | value u => obtain ⟨rfl, hs⟩ := this; exact h _ hs
      | skip => obtain ⟨rfl, hs⟩ := this; exact h _ hs
      | enter f args => exact Calls.mono this fun en w'' he => by obtain ⟨rfl, hs⟩ := he; exact h _ hs
      | _ => exact this.elim
    | halt x w' => exact this.elim
  · simp only [hw, Bool.false_eq_true, if_false]; exact h _ hS

theorem wpOp_putM {j : Nat} {oi oj : Oper} {v : Value} (hj : ops[j]? = some oj) (hap : oi.apart ops oj = true)
    (hsi : ∀ cs b, oi.op ≠ .select cs b) (hsj : ∀ cs b, oj.op ≠ .select cs b)
    (hQ : ∀ c a w, Q (.panic c) (a.put oi.dst v) w → Q (.panic c) a w) {K : Act → World → Prop} {a : Act} {w : World}
    (hy : Makes P ops S oi v a) (h : wpOp P ops Q j K (a.put oi.dst v) w) :
    wpOp P ops Q j (fun a' w' => Makes P ops S oi v a' ∧ K (a'.put oi.dst v) w') a w := by
  obtain ⟨h1, h2, h3⟩ := Oper.apart_spec hap
  have keep : ∀ (a : Act), Makes P ops S oi v a → ∀ u, Makes P ops S oi v (a.put oj.dst u) := fun a hy u =>
    hy.of_same (execOp_put oi hsi a oj.dst u h3) (wanted_put oi a oj.dst u h3)
  have keepD : ∀ d, Makes P ops S oi v { a with defers := d :: a.defers } := fun d => hy.of_same rfl rfl
  unfold wpOp at *
  simp only [hj] at *
  rw [wanted_put oj a oi.dst v h1] at h
  split
  · rename_i hw
    simp only [hw, if_true] at h
    rcases h with h | ⟨hasks, hlets⟩
    case inr => exact .inr ⟨by unfold Oper.asks at *; rw [execOp_put oj hsj a oi.dst v h1] at hasks; exact hasks, hlets⟩
    refine .inl ?_
    unfold Oper.wp at *
    rw [execOp_put oj hsj a oi.dst v h1] at h
    generalize (execOp a.eval oj).run P w = r at *
    cases r with
    | ok n w' =>
      cases n <;> simp only [Oper.upon] at h ⊢
      case value u => exact ⟨keep a hy u, by rw [← Act.put_comm a v u h2]; exact h⟩
      case skip => exact ⟨keep a hy _, by rw [← Act.put_comm a v undef h2]; exact h⟩
      case defer d =>
        refine ⟨keep _ (keepD d) _, ?_⟩
        rw [← Act.put_comm _ v undef h2, ← Act.put_defers]
        exact h
      case enter f args =>
        refine Calls.mono h fun e w'' he => ?_
        cases e with
        | returned u => exact ⟨keep a hy u, by rw [← Act.put_comm a v u h2]; exact he⟩
        | panicked c => exact hQ _ _ _ he
        | outgrown => exact he
      case row row args => exact Rows.mono h fun u w'' he => ⟨keep a hy u, by rw [← Act.put_comm a v u h2]; exact he⟩
    | halt x w' =>
      cases x <;> simp only [Oper.upon] at h ⊢
      case panic u => exact hQ _ _ _ h
  · rename_i hw
    simp only [hw] at h
    exact ⟨keep a hy _, by rw [← Act.put_comm a v undef h2]; exact h⟩

/-- Whatever order is picked from here on, in whatever world that meets S; S holds behind every operation. -/
def AnyS (P : Program) (md : Region.Mode) (ops : Array Oper) (Q : Exit → Act → World → Prop) (S : World → Prop) : Nat → Array Bool → Act → Prop
  | 0, listed, a => Region.ready md ops listed = [] ∧ ∀ w, S w → Q .normal a w
  | fuel + 1, listed, a =>
    (Region.ready md ops listed = [] → ∀ w, S w → Q .normal a w) ∧
    ∀ i ∈ Region.ready md ops listed, ∀ w, S w → wpOp P ops Q i (fun a' w' => S w' ∧ AnyS P md ops Q S fuel (listed.setIfInBounds i true) a') a w

theorem AnyS.any : ∀ (fuel : Nat) (listed : Array Bool) (a : Act) (w : World), S w → AnyS P md ops Q S fuel listed a → wpAny P md ops Q fuel listed a w
  | 0, _, _, w, hs, h => ⟨h.1, h.2 w hs⟩
  | fuel + 1, _, _, w, hs, h => ⟨fun h0 => h.1 h0 w hs, fun i hi => wpOp_mono (fun a' w' h' => AnyS.any fuel _ a' w' h'.1 h'.2) (h.2 i hi w hs)⟩

theorem AnyS.first {i : Nat} {oi : Oper} {v : Value} (hi : ops[i]? = some oi) (hsel : ∀ (j : Nat) (o : Oper) cs b, ops[j]? = some o → o.op ≠ .select cs b)
    (hQ : ∀ c a w, Q (.panic c) (a.put oi.dst v) w → Q (.panic c) a w) :
    ∀ (fuel : Nat) (listed : Array Bool) (a : Act),
      (∀ j oj, ops[j]? = some oj → j ≠ i → listed.getD j true = false → (∀ e ∈ oj.after, Region.binds md e = true → e.on ≠ i) → oi.apart ops oj = true) →
      i ∈ Region.ready md ops listed → Makes P ops S oi v a →
      AnyS P md ops Q S fuel (listed.setIfInBounds i true) (a.put oi.dst v) → AnyS P md ops Q S (fuel + 1) listed a := by
  intro fuel
  induction fuel with
  | zero =>
    intro listed a _ hr hy H
    refine ⟨fun h => (by rw [h] at hr; cases hr), fun j hj w hS => ?_⟩
    by_cases hji : j = i
    · subst hji; exact hy.wpOp hi hS (fun w' hS' => ⟨hS', H⟩)
    · have := ready_mono hj hji
      rw [H.1] at this
      cases this
  | succ fuel ih =>
    intro listed a hfree hr hy H
    refine ⟨fun h => (by rw [h] at hr; cases hr), fun j hj w hS => ?_⟩
    by_cases hji : j = i
    · subst hji; exact hy.wpOp hi hS (fun w' hS' => ⟨hS', H⟩)
    · have h1 := H.2 j (ready_mono hj hji) w hS
      obtain ⟨hjun, oj, hoj, hall⟩ := mem_ready.1 hj
      have hnot : ∀ e ∈ oj.after, Region.binds md e = true → e.on ≠ i := fun e he hb heq => by
        have h1 := hall e he hb
        have h0 := (mem_ready.1 hr).1
        rw [heq] at h1
        rcases Nat.lt_or_ge i listed.size with h' | h'
        · simp [h'] at h0 h1; rw [h0] at h1; cases h1
        · simp [Array.getElem?_eq_none h'] at h1
      have h2 := wpOp_putM hoj (hfree j oj hoj hji hjun hnot) (fun cs b => hsel i oi cs b hi) (fun cs b => hsel j oj cs b hoj) hQ hy h1
      have hfree' : ∀ k ok, ops[k]? = some ok → k ≠ i → (listed.setIfInBounds j true).getD k true = false →
          (∀ e ∈ ok.after, Region.binds md e = true → e.on ≠ i) → oi.apart ops ok = true := fun k ok hk hki hun hno => by
        refine hfree k ok hk hki ?_ hno
        by_cases hjk : j = k
        · subst hjk; exact hjun
        · rw [getD_set_ne true hjk] at hun; exact hun
      refine wpOp_mono (fun a' w' h3 => ⟨h3.2.1, ih (listed.setIfInBounds j true) a' hfree' (ready_mono hr (Ne.symm hji)) h3.1 ?_⟩) h2
      rw [Array.setIfInBounds_comm _ _ hji]
      exact h3.2.2

theorem AnyS.done {listed : Array Bool} {a : Act} (hr : Region.ready md ops listed = []) (h : ∀ w, S w → Q .normal a w) :
    ∀ fuel, AnyS P md ops Q S fuel listed a
  | 0 => ⟨hr, h⟩
  | _ + 1 => ⟨fun _ => h, by rw [hr]; simp⟩

/-- The beginning. -/
theorem wp_region_S {id : Nat} {a : Act} {w : World} (S : World → Prop) (hm : P.follows .mixedOrders = true) (hS : S w.drew)
    (h : AnyS P .any ops Q S ops.size (Array.replicate ops.size false) a) : (Code.region id ops true).wp P Q a w :=
  wp_region_any hm (AnyS.any _ _ _ _ hS h)

/-- Take number i: an operation that yields v and leaves the world as it is. -/
theorem AnyS.pure (i : Nat) (d : Option Tmp) {oi : Oper} {v : Value} {fuel : Nat} {listed : Array Bool} {a : Act} (hi : ops[i]? = some oi) (hd : oi.dst = d)
    (hs : Region.noSelect ops = true) (hf : Region.free md ops listed i = true) (hr : (Region.ready md ops listed).contains i = true)
    (hQ : ∀ c a w, Q (.panic c) (a.put d v) w → Q (.panic c) a w) (hw : Region.wanted oi (yielded ops a.tmps) = true)
    (hy : ∀ w, S w → (execOp a.eval oi).run P w = .ok (.value v) w)
    (h : AnyS P md ops Q S fuel (listed.setIfInBounds i true) (a.put d v)) : AnyS P md ops Q S (fuel + 1) listed a := by
  subst hd
  exact AnyS.first hi (Region.noSelect_spec hs) hQ fuel listed a (Region.free_spec hi hf) (by simpa using hr) (.inl ⟨hw, fun w hS => by rw [hy w hS]; exact ⟨rfl, hS⟩⟩) h

/-- Take number i: its guard is false. -/
theorem AnyS.skip (i : Nat) (d : Option Tmp) {oi : Oper} {fuel : Nat} {listed : Array Bool} {a : Act} (hi : ops[i]? = some oi) (hd : oi.dst = d)
    (hs : Region.noSelect ops = true) (hf : Region.free md ops listed i = true) (hr : (Region.ready md ops listed).contains i = true)
    (hQ : ∀ c a w, Q (.panic c) (a.put d undef) w → Q (.panic c) a w) (hw : Region.wanted oi (yielded ops a.tmps) = false)
    (h : AnyS P md ops Q S fuel (listed.setIfInBounds i true) (a.put d undef)) : AnyS P md ops Q S (fuel + 1) listed a := by
  subst hd
  exact AnyS.first hi (Region.noSelect_spec hs) hQ fuel listed a (Region.free_spec hi hf) (by simpa using hr) (.inr ⟨hw, rfl⟩) h

/-- Take number i: a call of a Go function, by its contract. -/
theorem AnyS.call (i : Nat) (d : Option Tmp) {oi : Oper} (v : Value) {fuel : Nat} {listed : Array Bool} {a : Act} (hi : ops[i]? = some oi) (hd : oi.dst = d)
    (hs : Region.noSelect ops = true) (hf : Region.free md ops listed i = true) (hr : (Region.ready md ops listed).contains i = true)
    (hQ : ∀ c a w, Q (.panic c) (a.put d v) w → Q (.panic c) a w) (hw : Region.wanted oi (yielded ops a.tmps) = true)
    (f : FuncId) (fn : Func) (hfn : P.funcs[f]? = some fn) (hname : (fn.name == "runtime.NumGoroutine") = false) (hb : fn.body.isNone = false) (xs : Array Operand) (ts : Array TypeId)
    (ho : oi.op = .call { callee := .value (.func f), args := xs, argTypes := ts }) (vs : Array Value) (hv : xs.map a.eval = vs)
    (hc : ∀ w, S w → Calls P f vs w fun en w' => en = .returned v ∧ S w')
    (h : AnyS P md ops Q S fuel (listed.setIfInBounds i true) (a.put d v)) : AnyS P md ops Q S (fuel + 1) listed a := by
  subst hd
  exact AnyS.first hi (Region.noSelect_spec hs) hQ fuel listed a (Region.free_spec hi hf) (by simpa using hr) (.inl ⟨hw, fun w hS => by
    have hfv : a.eval (.func f) = .func (.func f) #[] #[] := rfl
    have he : (execOp a.eval oi).run P w = .ok (.enter f vs) w := by
      simp only [execOp, ho]
      have h1 : fn.name ≠ "runtime.NumGoroutine" := by simpa using hname
      simp [resolve, hv, hfv, Deferred.ofValue, invoke, callFunc, hfn, h1]
      intro hn
      simp [hn] at hb
    rw [he]
    exact hc w hS⟩) h

/-- One operation may come up, or one of two; what it comes to. -/
theorem held_one {i : Nat} {fuel : Nat} {listed : Array Bool} {a : Act} {w : World} (hr : Region.ready md ops listed = [i])
    (h : wpOp P ops Q i (fun a' w' => S w' ∧ wpAnyH P md ops Q S fuel (listed.setIfInBounds i true) a' w') a w) : wpAnyH P md ops Q S (fuel + 1) listed a w :=
  wpAnyH_all hr (by simp) (fun j hj => by obtain rfl := List.mem_singleton.1 hj; exact h)
theorem held_two {i j : Nat} {fuel : Nat} {listed : Array Bool} {a : Act} {w : World} (hr : Region.ready md ops listed = [i, j])
    (h1 : wpOp P ops Q i (fun a' w' => S w' ∧ wpAnyH P md ops Q S fuel (listed.setIfInBounds i true) a' w') a w)
    (h2 : wpOp P ops Q j (fun a' w' => S w' ∧ wpAnyH P md ops Q S fuel (listed.setIfInBounds j true) a' w') a w) : wpAnyH P md ops Q S (fuel + 1) listed a w :=
  wpAnyH_all hr (by simp) (fun k hk => by
    rcases List.mem_cons.1 hk with rfl | hk
    · exact h1
    · obtain rfl := List.mem_singleton.1 hk
      exact h2)

theorem held_take (i : Nat) (d : Option Tmp) {oi : Oper} {v : Value} {fuel : Nat} {listed : Array Bool} {a : Act} {w : World} (hi : ops[i]? = some oi) (hd : oi.dst = d)
    (hs : Region.noSelect ops = true) (hf : Region.free md ops listed i = true) (hr : (Region.ready md ops listed).contains i = true)
    (hQ : ∀ c a w, Q (.panic c) (a.put d v) w → Q (.panic c) a w) (hy : YieldsIf P ops S oi v a) (hS : S w)
    (h : wpAnyH P md ops Q S fuel (listed.setIfInBounds i true) (a.put d v) w) : wpAnyH P md ops Q S (fuel + 1) listed a w := by
  subst hd
  exact wpAnyH_take hi hs hf hr hQ hy hS h

theorem wpOp_value (d : Option Tmp) {i : Nat} {o : Oper} {v : Value} {K : Act → World → Prop} {a : Act} {w w' : World} (hi : ops[i]? = some o) (hd : o.dst = d) (hw : Region.wanted o (yielded ops a.tmps) = true)
    (hr : (execOp a.eval o).run P w = .ok (.value v) w') (h : K (a.put d v) w') : wpOp P ops Q i K a w := by
  subst hd
  unfold wpOp
  simp only [hi, hw, if_true, Oper.wp, hr]
  exact .inl h

theorem wpOp_call (d : Option Tmp) {i : Nat} {o : Oper} {K : Act → World → Prop} {a : Act} {w : World} (hi : ops[i]? = some o) (hd : o.dst = d) (hw : Region.wanted o (yielded ops a.tmps) = true)
    (f : FuncId) (fn : Func) (hfn : P.funcs[f]? = some fn) (hname : (fn.name == "runtime.NumGoroutine") = false) (hb : fn.body.isNone = false) (xs : Array Operand) (ts : Array TypeId)
    (ho : o.op = .call { callee := .value (.func f), args := xs, argTypes := ts }) (vs : Array Value) (hv : xs.map a.eval = vs) {R : Ending → World → Prop} (hc : Calls P f vs w R)
    (h : ∀ en w', R en w' → ∃ v, en = .returned v ∧ K (a.put d v) w') : wpOp P ops Q i K a w := by
  subst hd
  have hf : a.eval (.func f) = .func (.func f) #[] #[] := rfl
  have he : (execOp a.eval o).run P w = .ok (.enter f vs) w := by
    simp only [execOp, ho]
    have h1 : fn.name ≠ "runtime.NumGoroutine" := by simpa using hname
    simp [resolve, hv, hf, Deferred.ofValue, invoke, callFunc, hfn, h1]
    intro hn
    simp [hn] at hb
  unfold wpOp
  simp only [hi, hw, if_true]
  refine .inl ?_
  unfold Oper.wp
  rw [he, Oper.upon_enter]
  refine hc.mono ?_
  intro en w' hR
  obtain ⟨v, rfl, hK⟩ := h en w' hR
  exact hK

end
end Go.Proofs.YthbncejbcegmgaaDoor
end

section
/- tree: a row grows, a row is added: what is kept. -/
namespace Go.Proofs.YthbncejbcegmgaaDoor.dig
open Go Go.RowKit

theorem Seg.far {w : World} {e : TypeId} {size n : Nat} {v : Value} {xs : List Value} (h : Seg w e size v n xs) {p : Addr} (hp : v.ownBlock ≠ some p.block) (u : Value) : Seg (w.setCell p u) e size v n xs :=
  h.keep fun b hb => Below.heap_setCell w p u b (fun e => hp (by rw [hb, e]))
theorem fun_if {α : Type} {j : Nat} {a b : Nat → α} {i : Nat} (h : i ≠ j) : (fun k => if k = j then a k else b k) i = b i := if_neg h

section
variable {F : Nat → Prop} {w W : World} {b n fl K : Nat} {g c : Nat → Nat} {f : Nat → List UInt8} {rv : Value} {sv : Nat → Value} {idle : Nat → Nat}

theorem ne_types : (77 : Nat) ≠ 107 ∧ (77 : Nat) ≠ 33 ∧ (107 : Nat) ≠ 33 := by decide

theorem Raw.rv_b (h : Raw F w b n fl K g c f rv sv idle) : rv.ownBlock ≠ some b := h.rows.ne h.tree (fun e => ne_types.1 e.symm)
theorem Raw.sv_b (h : Raw F w b n fl K g c f rv sv idle) {j : Nat} (hj : j < K) : (sv j).ownBlock ≠ some b := (h.sums j hj).ne h.tree (fun e => ne_types.2.1 e.symm)
theorem Raw.rv_sv (h : Raw F w b n fl K g c f rv sv idle) {j : Nat} (hj : j < K) : ∀ x, rv.ownBlock = some x → (sv j).ownBlock ≠ some x := h.rows.apart (h.sums j hj) ne_types.2.2

/-- One sum more at the end of row j. -/
theorem Raw.push (h : Raw F w b n fl K g c f rv sv idle) {R o cap j : Nat} (hrv : rv = .slice (some ⟨R, o, none⟩) K cap) (hj : j < K) (T : Turn (fun k => (sv j).ownBlock = some k) w W)
    {g' off' cap' : Nat} {x : List UInt8} (hown : Seg W 33 32 (.slice (some ⟨g', off', none⟩) (c j - g j + 1) cap') (c j - g j + 1) (flat (nodeC f j) (g j) (c j - g j) ++ x.map byteV))
    (hat : (sv j).ownBlock = some g' ∨ w.heap.size ≤ g') (hg : g j ≤ c j) (hx : nodeC f j (c j) = x.map byteV) :
    Raw (fun k => F k ∨ w.heap.size ≤ k) (W.setCell ⟨R, o + (j * 3 + 1), none⟩ (.slice (some ⟨g', off', none⟩) (c j - g j + 1) cap')) b n fl K g (fun i => if i = j then c j + 1 else c i) f rv
      (fun i => if i = j then .slice (some ⟨g', off', none⟩) (c j - g j + 1) cap' else sv i) idle := by
  have hR : rv.ownBlock = some R := by rw [hrv]; rfl
  have hRF := h.fr R hR
  have hbR : b ≠ R := fun e => h.rv_b (by rw [hR, e])
  have hRl : R < w.heap.size := h.rows.lt hR
  have hrows : Seg W 107 3 rv K (flat (rowC g sv idle) 0 K) := h.rows.turn T (fun x hx => h.rv_sv hj x hx)
  have hRg : R ≠ g' := fun e => hrows.apart hown ne_types.2.2 R hR (by rw [e]; rfl)
  refine ⟨?_, ?_, ?_, ?_, .inl h.fb, fun x hx => .inl (h.fr x hx), ?_, h.idle⟩
  · exact (h.tree.turn T (h.sv_b hj)).far hbR _
  · have hrows2 := hrows
    rw [hrv] at hrows2
    have h2 := hrows2.put (j * 3 + 1) (.slice (some ⟨g', off', none⟩) (c j - g j + 1) cap')
    rw [flat_set (fun i _ _ => rowC_len _ _ _ i) hj (by omega)] at h2
    rw [hrv]
    have e : flat (fun i => if i = 0 + j then (rowC g sv idle i).set 1 (.slice (some ⟨g', off', none⟩) (c j - g j + 1) cap') else rowC g sv idle i) 0 K = flat (rowC g (fun i => if i = j then .slice (some ⟨g', off', none⟩) (c j - g j + 1) cap' else sv i) idle) 0 K := by
      refine flat_congr fun i _ _ => ?_
      simp only [Nat.zero_add]
      by_cases hi : i = j
      · rw [if_pos hi]; simp [rowC, hi]
      · rw [if_neg hi]; simp [rowC, hi]
    rw [← e]
    exact h2
  · intro i hi
    by_cases hij : i = j
    · subst hij
      simp only [if_pos]
      rw [Nat.sub_add_comm hg, flat_snoc, Nat.add_sub_cancel' hg, hx]
      exact Seg.far hown (by intro e; exact hRg (by injection e with e; exact e.symm)) _
    · simp only [if_neg hij]
      exact Seg.far ((h.sums i hi).turn T (fun x hx e => h.apart i j hi hj hij x hx e)) (fun e => h.rv_sv hi R hR e) _
  · intro i1 i2 h1 h2 hne x hx
    by_cases e1 : i1 = j
    · subst e1
      simp only [if_pos] at hx
      rw [if_neg (fun e => hne e.symm)]
      have hgx : g' = x := by injection hx
      subst hgx
      intro e
      rcases hat with hat | hat
      · exact h.apart i1 i2 h1 h2 hne g' hat e
      · have := (h.sums i2 h2).lt e; omega
    · rw [if_neg e1] at hx
      by_cases e2 : i2 = j
      · subst e2
        rw [if_pos rfl]
        intro e
        have hgx : g' = x := by injection e
        subst hgx
        rcases hat with hat | hat
        · exact h.apart i1 i2 h1 h2 hne g' hx hat
        · have := (h.sums i1 h1).lt hx; omega
      · rw [if_neg e2]
        exact h.apart i1 i2 h1 h2 hne x hx
  · intro i hi x hx
    by_cases e1 : i = j
    · subst e1
      rw [if_pos rfl] at hx
      have hgx : g' = x := by injection hx
      subst hgx
      exact hat.imp (fun e => h.fs i hi _ e) id
    · rw [if_neg e1] at hx
      exact .inl (h.fs i hi x hx)

/-- A row more, in which there is nothing yet. -/
theorem Raw.grow (h : Raw F w b n fl K g c f rv sv idle) (T : Turn (fun k => rv.ownBlock = some k) w W)
    {g' off' cap' : Nat} (hown : Seg W 107 3 (.slice (some ⟨g', off', none⟩) (K + 1) cap') (K + 1) (flat (rowC g sv idle) 0 K ++ [.int .i64 0, .slice none 0 0, .int .i64 0]))
    (hat : rv.ownBlock = some g' ∨ w.heap.size ≤ g') (hg : g K = 0) (hc : c K = 0) :
    Raw (fun k => F k ∨ w.heap.size ≤ k) (W.setCell ⟨b, 2, none⟩ (.slice (some ⟨g', off', none⟩) (K + 1) cap')) b n fl (K + 1) g c f (.slice (some ⟨g', off', none⟩) (K + 1) cap')
      (fun i => if i = K then .slice none 0 0 else sv i) (fun i => if i = K then 0 else idle i) := by
  have htree : Has W b 77 #[.int .i64 n, .int .i64 fl, rv] := h.tree.turn T h.rv_b
  have hgb : g' ≠ b := fun e => hown.ne htree (fun e => ne_types.1 e.symm) (by rw [e]; rfl)
  refine ⟨?_, ?_, ?_, ?_, .inl h.fb, fun x hx => ?_, ?_, ?_⟩
  · have := htree.put 2 (.slice (some ⟨g', off', none⟩) (K + 1) cap')
    simpa using this
  · have h2 := Seg.far hown (p := ⟨b, 2, none⟩) (by intro e; exact hgb (by injection e)) (.slice (some ⟨g', off', none⟩) (K + 1) cap')
    rw [flat_snoc]
    have e1 : flat (rowC g (fun i => if i = K then .slice none 0 0 else sv i) (fun i => if i = K then 0 else idle i)) 0 K = flat (rowC g sv idle) 0 K := by
      refine flat_congr fun i _ hi => ?_
      simp [rowC, show i ≠ K by omega]
    have e2 : rowC g (fun i => if i = K then .slice none 0 0 else sv i) (fun i => if i = K then 0 else idle i) (0 + K) = [.int .i64 0, .slice none 0 0, .int .i64 0] := by
      simp [rowC, hg]
    rw [e1, e2]
    exact h2
  · intro i hi
    by_cases e : i = K
    · subst e
      simp only [if_pos, hc, hg]
      exact Seg.nil _ _ _
    · simp only [if_neg e]
      exact Seg.far ((h.sums i (by omega)).turn T (fun x hx hr => h.rv_sv (by omega) x hr hx)) (h.sv_b (by omega)) _
  · intro i1 i2 h1 h2 hne x hx
    by_cases e1 : i1 = K
    · rw [if_pos e1] at hx; cases hx
    · rw [if_neg e1] at hx
      by_cases e2 : i2 = K
      · rw [if_pos e2]; intro e; cases e
      · rw [if_neg e2]
        exact h.apart i1 i2 (by omega) (by omega) hne x hx
  · have hgx : g' = x := by injection hx
    subst hgx
    exact hat.imp (fun e => h.fr _ e) id
  · intro i hi x hx
    by_cases e1 : i = K
    · rw [if_pos e1] at hx; cases hx
    · rw [if_neg e1] at hx
      exact .inl (h.fs i (by omega) x hx)
  · intro i hi
    by_cases e1 : i = K
    · simp [e1]
    · simp only [if_neg e1]; exact h.idle i (by omega)
end
end Go.Proofs.YthbncejbcegmgaaDoor.dig
end

section
/- append(s, l...) of two slices that lie anywhere, l may be empty: what comes of it. Of no program. -/
namespace Go.Proofs.YthbncejbcegmgaaDoor
open Go.RowKit

/-- A slice that is not nil. -/
def Thick (v : Value) (n : Nat) : Prop := ∃ g off c, v = .slice (some ⟨g, off, none⟩) n c

theorem own_of {g off n c b : Nat} (h : (Value.slice (some ⟨g, off, none⟩) n c).ownBlock = some b) : g = b := by
  have h' : some g = some b := h
  exact Option.some.inj h'

section
variable {w : World} {e : TypeId} {size n : Nat} {v : Value} {xs : List Value}

theorem Seg.news {g off c : Nat} (h : Seg w e size (.slice (some ⟨g, off, none⟩) n c) n xs) : ∀ j u, xs[j]? = some u → w.cell? ((⟨g, off, none⟩ : Addr).add j) = some u := by
  intro j u hj
  have ha : (⟨g, off, none⟩ : Addr).add j = ⟨g, off + j, none⟩ := by unfold Addr.add; split <;> simp_all
  rw [ha]
  by_cases hn : 0 < n
  · obtain ⟨g', off', c', hv, _, _, _, hc⟩ := h.cells hn
    simp only [Value.slice.injEq, Option.some.injEq, Addr.mk.injEq, and_true, true_and] at hv
    obtain ⟨⟨rfl, rfl⟩, rfl⟩ := hv
    exact hc j u hj
  · obtain rfl : n = 0 := by omega
    have hx : xs = [] := List.eq_nil_of_length_eq_zero (by simpa using h.1)
    rw [hx] at hj
    cases hj

/-- An empty slice that was just made. -/
theorem Seg.empty {g : Nat} (h : w.heap[g]? = some (.cells #[] e (0, 0))) : Seg w e size (.slice (some ⟨g, 0, none⟩) 0 0) 0 [] :=
  ⟨by simp, .inr ⟨g, 0, 0, #[], rfl, h, Nat.le_refl _, Nat.zero_le _, by simp, by simp⟩⟩

theorem Has.made1 (w : World) (o : Obj) (t : TypeId) (cs : Array Value) : Has ((w.alloc o).alloc (.cells cs t)) (w.heap.size + 1) t cs := by
  have h := Has.made (w.alloc o) t cs
  have e : (w.alloc o).heap.size = w.heap.size + 1 := by simp
  rw [e] at h
  exact h
theorem Seg.empty1 (w : World) (o : Obj) (e : TypeId) (size : Nat) : Seg ((w.alloc o).alloc (.cells #[] e)) e size (.slice (some ⟨w.heap.size + 1, 0, none⟩) 0 0) 0 [] :=
  Seg.empty (Has.made1 w o e #[])

/-- A slice that was just made of all that it holds. -/
theorem Seg.whole {g m : Nat} {cs : Array Value} (h : w.heap[g]? = some (.cells cs e (0, 0))) (hl : cs.size = m * size) (hm : m ≤ maxLen) : Seg w e size (.slice (some ⟨g, 0, none⟩) m m) m cs.toList :=
  ⟨by simpa using hl, .inr ⟨g, 0, m, cs, rfl, h, Nat.le_refl _, hm, by omega, by rw [List.drop_zero, ← hl, ← Array.length_toList, List.take_length]⟩⟩
end

section
variable {P : Program} (w : World)

theorem run_append_all (t ty : TypeId) (e : TypeId) (i : TypeInfo) (z : Value) (size bytes : Nat) (ht : P.underlying t = some (.slice e)) (hi : P.info? e = some i) (hz : i.zero = some z)
    (hsize : i.size = size) (hby : i.bytes = bytes) (hzs : z.cells.size = size) (hsz : 0 < size)
    (v : Value) (n : Nat) (xs : List Value) (hown : Seg w e size v n xs) (hv : Thick v n)
    (x : Value) (m : Nat) (news : List Value) (hx : Seg w e size x m news) (hxt : Thick x m) (h1 : ∀ u ∈ news, u.oneCell' = true)
    (h63 : n + m ≤ maxLen) (hbytes : (n + m) * bytes ≤ 140737488355328) :
    ∃ y w', (Builtin.append_ #[t, t] ty #[v, x]).run P w = .ok y w' ∧ Thick y (n + m) ∧
      Seg w' e size y (n + m) (xs ++ news) ∧ w.grownBy w' v.ownBlock ∧ (∀ b, y.ownBlock = some b → v.ownBlock = some b ∨ b = w.heap.size) := by
  obtain ⟨gx, ox, cx, rfl⟩ := hxt
  by_cases hm : 0 < m
  · obtain ⟨g, off, cap, w', hr, h2, h3, h4, h5⟩ := run_append_seg (P := P) w t ty e i z size bytes ht hi hz hsize hby hzs hsz v n xs hown ⟨gx, ox, none⟩ m cx news hx.1 hx.news h1 hm h63 hbytes _ rfl
    refine ⟨_, w', hr, ⟨g, off, cap, rfl⟩, h2, h3, fun b hb => ?_⟩
    injection hb with hb
    subst hb
    exact h4
  · obtain rfl : m = 0 := by omega
    obtain rfl : news = [] := List.eq_nil_of_length_eq_zero (by simpa using hx.1)
    obtain ⟨g, off, c, rfl⟩ := hv
    subst hsize
    rcases hown.2 with ⟨h0, _⟩ | ⟨g', off', cap, cur, h0, hg, hnc, hcm, hcs, htake⟩
    · cases h0
    · simp only [Value.slice.injEq, Option.some.injEq, Addr.mk.injEq, and_true, true_and] at h0
      obtain ⟨⟨rfl, rfl⟩, rfl⟩ := h0
      have hmul : n * i.size ≤ c * i.size := Nat.mul_le_mul_right _ hnc
      have hr := run_append_roomy (P := P) w t ty e i ht hi g off n c cur hg ⟨gx, ox, none⟩ 0 cx [] (by simp) (fun j u hj => by cases hj) (fun u hu => by cases hu) (by omega) (by simp; omega)
      refine ⟨_, _, hr, ⟨g, off, c, rfl⟩, ?_, ⟨rfl, rfl, rfl, by simp, fun k _ hk => setRow_other w g k _ (fun e => hk (by simp [Value.ownBlock, e]))⟩, fun b hb => .inl hb⟩
      have hcur : (cur.toList.take (off + n * i.size) ++ [] ++ cur.toList.drop (off + n * i.size + ([] : List Value).length)).toArray = cur := by
        simp
      rw [hcur]
      refine ⟨by rw [List.append_nil]; simpa using hown.1, .inr ⟨g, off, c, cur, rfl, setRow_heap w g cur _ e _ hg, hnc, hcm, hcs, ?_⟩⟩
      rw [List.append_nil, Nat.add_zero]
      exact htake

/-- At the operation. -/
theorem wp_append_all {o : Oper} {a : Act} {K : Act → World → Prop} {Q : Exit → Act → World → Prop} (s x : Operand) (t : TypeId)
    (ho : o.op = .call { callee := .builtin .append, args := #[s, x], argTypes := #[t, t] })
    (e : TypeId) (i : TypeInfo) (z : Value) (size bytes : Nat) (ht : P.underlying t = some (.slice e)) (hi : P.info? e = some i) (hz : i.zero = some z)
    (hsize : i.size = size) (hby : i.bytes = bytes) (hzs : z.cells.size = size) (hsz : 0 < size)
    (v : Value) (n : Nat) (xs : List Value) (hs : a.eval s = v) (hown : Seg w e size v n xs) (hv : Thick v n)
    (y : Value) (m : Nat) (news : List Value) (hx : a.eval x = y) (hnew : Seg w e size y m news) (hy : Thick y m) (h1 : ∀ u ∈ news, u.oneCell' = true)
    (h63 : n + m ≤ maxLen) (hbytes : (n + m) * bytes ≤ 140737488355328)
    (h : ∀ r w', Thick r (n + m) → Seg w' e size r (n + m) (xs ++ news) → w.grownBy w' v.ownBlock → (∀ b, r.ownBlock = some b → v.ownBlock = some b ∨ b = w.heap.size) → K (a.put o.dst r) w') : o.wp P a w K Q := by
  obtain ⟨r, w', hr, h2, h3, h4, h5⟩ := run_append_all (P := P) w t o.type e i z size bytes ht hi hz hsize hby hzs hsz v n xs hown hv y m news hnew hy h1 h63 hbytes
  unfold Oper.wp execOp
  simp only [ho, resolve, invoke, builtin, Sem.run_bind, Sem.run_pure, Result.andThen_ok, List.map_toArray, List.map_cons, List.map_nil, hs, hx, hr]
  exact h r w' h2 h3 h4 h5

/-- At the list of a plain region's operations. -/
theorem wpList_append_all {ops : Array Oper} {rest : List Oper} {o : Oper} {a : Act} {Q : Exit → Act → World → Prop} (hgd : o.guard = none) (s x : Operand) (t : TypeId)
    (ho : o.op = .call { callee := .builtin .append, args := #[s, x], argTypes := #[t, t] })
    (e : TypeId) (i : TypeInfo) (z : Value) (size bytes : Nat) (ht : P.underlying t = some (.slice e)) (hi : P.info? e = some i) (hz : i.zero = some z)
    (hsize : i.size = size) (hby : i.bytes = bytes) (hzs : z.cells.size = size) (hsz : 0 < size)
    (v : Value) (n : Nat) (xs : List Value) (hs : a.eval s = v) (hown : Seg w e size v n xs) (hv : Thick v n)
    (y : Value) (m : Nat) (news : List Value) (hx : a.eval x = y) (hnew : Seg w e size y m news) (hy : Thick y m) (h1 : ∀ u ∈ news, u.oneCell' = true)
    (h63 : n + m ≤ maxLen) (hbytes : (n + m) * bytes ≤ 140737488355328)
    (h : ∀ r w', Thick r (n + m) → Seg w' e size r (n + m) (xs ++ news) → w.grownBy w' v.ownBlock → (∀ b, r.ownBlock = some b → v.ownBlock = some b ∨ b = w.heap.size) → wpList P ops Q rest (a.put o.dst r) w') : wpList P ops Q (o :: rest) a w :=
  wpList_plain hgd fun _ hK => wp_append_all w s x t ho e i z size bytes ht hi hz hsize hby hzs hsz v n xs hs hown hv y m news hx hnew hy h1 h63 hbytes fun r w' h2 h3 h4 h5 => hK _ _ (h r w' h2 h3 h4 h5)

/-- At a step of a region that draws its order. -/
theorem step_append_all {ops : Array Oper} {o : Oper} {a : Act} {K : Act → World → Prop} {Q : Exit → Act → World → Prop} {E : Prop} (hgd : o.guard = none) (s x : Operand) (t : TypeId)
    (ho : o.op = .call { callee := .builtin .append, args := #[s, x], argTypes := #[t, t] })
    (e : TypeId) (i : TypeInfo) (z : Value) (size bytes : Nat) (ht : P.underlying t = some (.slice e)) (hi : P.info? e = some i) (hz : i.zero = some z)
    (hsize : i.size = size) (hby : i.bytes = bytes) (hzs : z.cells.size = size) (hsz : 0 < size)
    (v : Value) (n : Nat) (xs : List Value) (hs : a.eval s = v) (hown : Seg w e size v n xs) (hv : Thick v n)
    (y : Value) (m : Nat) (news : List Value) (hx : a.eval x = y) (hnew : Seg w e size y m news) (hy : Thick y m) (h1 : ∀ u ∈ news, u.oneCell' = true)
    (h63 : n + m ≤ maxLen) (hbytes : (n + m) * bytes ≤ 140737488355328)
    (h : ∀ r w', Thick r (n + m) → Seg w' e size r (n + m) (xs ++ news) → w.grownBy w' v.ownBlock → (∀ b, r.ownBlock = some b → v.ownBlock = some b ∨ b = w.heap.size) → K (a.put o.dst r) w') :
    if Region.wanted o (yielded ops a.tmps) = true then Oper.wp P o a w K Q else E := by
  have hw : Region.wanted o (yielded ops a.tmps) = true := by simp [Region.wanted, hgd]
  rw [if_pos hw]
  exact wp_append_all w s x t ho e i z size bytes ht hi hz hsize hby hzs hsz v n xs hs hown hv y m news hx hnew hy h1 h63 hbytes h
end
end Go.Proofs.YthbncejbcegmgaaDoor
end

section
/- append(s, l...) of two slices that lie anywhere, l may be empty or nil: what comes of it. Of no program. -/
namespace Go.Proofs.YthbncejbcegmgaaDoor
open Go.RowKit

section
variable {P : Program} (w : World)

theorem run_append_nil (t ty e : TypeId) (i : TypeInfo) (ht : P.underlying t = some (.slice e)) (hi : P.info? e = some i) (g off n c : Nat) (hn : n ≤ c) :
    (Builtin.append_ #[t, t] ty #[.slice (some ⟨g, off, none⟩) n c, .slice none 0 0]).run P w = .ok (.slice (some ⟨g, off, none⟩) n c) w := by
  simp [Builtin.append_, run_underlying ht, sizeOf, typeInfo, hi, Builtin.lenOf, hn, Builtin.firstCells, storeCells]

theorem run_append_any (t ty : TypeId) (e : TypeId) (i : TypeInfo) (z : Value) (size bytes : Nat) (ht : P.underlying t = some (.slice e)) (hi : P.info? e = some i) (hz : i.zero = some z)
    (hsize : i.size = size) (hby : i.bytes = bytes) (hzs : z.cells.size = size) (hsz : 0 < size)
    (v : Value) (n : Nat) (xs : List Value) (hown : Seg w e size v n xs) (hv : Thick v n)
    (x : Value) (m : Nat) (news : List Value) (hx : Seg w e size x m news) (hxt : Thick x m ∨ x = .slice none 0 0) (h1 : ∀ u ∈ news, u.oneCell' = true)
    (h63 : n + m ≤ maxLen) (hbytes : (n + m) * bytes ≤ 140737488355328) :
    ∃ y w', (Builtin.append_ #[t, t] ty #[v, x]).run P w = .ok y w' ∧ Thick y (n + m) ∧
      Seg w' e size y (n + m) (xs ++ news) ∧ w.grownBy w' v.ownBlock ∧ (∀ b, y.ownBlock = some b → v.ownBlock = some b ∨ b = w.heap.size) := by
  rcases hxt with hxt | rfl
  · exact run_append_all w t ty e i z size bytes ht hi hz hsize hby hzs hsz v n xs hown hv x m news hx hxt h1 h63 hbytes
  · obtain ⟨rfl, rfl⟩ : m = 0 ∧ news = [] := by
      rcases hx.2 with ⟨_, h2⟩ | ⟨g, off, cap, cur, h0, _⟩
      · exact ⟨h2, List.eq_nil_of_length_eq_zero (by rw [hx.1, h2, Nat.zero_mul])⟩
      · cases h0
    obtain ⟨g, off, c, rfl⟩ := hv
    have hnc : n ≤ c := by
      rcases hown.2 with ⟨h0, _⟩ | ⟨g', off', cap, cur, h0, hg, hnc, _⟩
      · cases h0
      · simp only [Value.slice.injEq, Option.some.injEq, Addr.mk.injEq, and_true, true_and] at h0
        obtain ⟨_, rfl⟩ := h0
        exact hnc
    exact ⟨_, w, run_append_nil w t ty e i ht hi g off n c hnc, ⟨g, off, c, rfl⟩, by rw [List.append_nil]; exact hown, ⟨rfl, rfl, rfl, Nat.le_refl _, fun _ _ _ => rfl⟩, fun b hb => .inl hb⟩

/-- At the operation. -/
theorem wp_append_any {o : Oper} {a : Act} {K : Act → World → Prop} {Q : Exit → Act → World → Prop} (s x : Operand) (t : TypeId)
    (ho : o.op = .call { callee := .builtin .append, args := #[s, x], argTypes := #[t, t] })
    (e : TypeId) (i : TypeInfo) (z : Value) (size bytes : Nat) (ht : P.underlying t = some (.slice e)) (hi : P.info? e = some i) (hz : i.zero = some z)
    (hsize : i.size = size) (hby : i.bytes = bytes) (hzs : z.cells.size = size) (hsz : 0 < size)
    (v : Value) (n : Nat) (xs : List Value) (hs : a.eval s = v) (hown : Seg w e size v n xs) (hv : Thick v n)
    (y : Value) (m : Nat) (news : List Value) (hx : a.eval x = y) (hnew : Seg w e size y m news) (hy : Thick y m ∨ y = .slice none 0 0) (h1 : ∀ u ∈ news, u.oneCell' = true)
    (h63 : n + m ≤ maxLen) (hbytes : (n + m) * bytes ≤ 140737488355328)
    (h : ∀ r w', Thick r (n + m) → Seg w' e size r (n + m) (xs ++ news) → w.grownBy w' v.ownBlock → (∀ b, r.ownBlock = some b → v.ownBlock = some b ∨ b = w.heap.size) → K (a.put o.dst r) w') : o.wp P a w K Q := by
  obtain ⟨r, w', hr, h2, h3, h4, h5⟩ := run_append_any (P := P) w t o.type e i z size bytes ht hi hz hsize hby hzs hsz v n xs hown hv y m news hnew hy h1 h63 hbytes
  unfold Oper.wp execOp
  simp only [ho, resolve, invoke, builtin, Sem.run_bind, Sem.run_pure, Result.andThen_ok, List.map_toArray, List.map_cons, List.map_nil, hs, hx, hr]
  exact h r w' h2 h3 h4 h5

/-- At the list of a plain region's operations. -/
theorem wpList_append_any {ops : Array Oper} {rest : List Oper} {o : Oper} {a : Act} {Q : Exit → Act → World → Prop} (hgd : o.guard = none) (s x : Operand) (t : TypeId)
    (ho : o.op = .call { callee := .builtin .append, args := #[s, x], argTypes := #[t, t] })
    (e : TypeId) (i : TypeInfo) (z : Value) (size bytes : Nat) (ht : P.underlying t = some (.slice e)) (hi : P.info? e = some i) (hz : i.zero = some z)
    (hsize : i.size = size) (hby : i.bytes = bytes) (hzs : z.cells.size = size) (hsz : 0 < size)
    (v : Value) (n : Nat) (xs : List Value) (hs : a.eval s = v) (hown : Seg w e size v n xs) (hv : Thick v n)
    (y : Value) (m : Nat) (news : List Value) (hx : a.eval x = y) (hnew : Seg w e size y m news) (hy : Thick y m ∨ y = .slice none 0 0) (h1 : ∀ u ∈ news, u.oneCell' = true)
    (h63 : n + m ≤ maxLen) (hbytes : (n + m) * bytes ≤ 140737488355328)
    (h : ∀ r w', Thick r (n + m) → Seg w' e size r (n + m) (xs ++ news) → w.grownBy w' v.ownBlock → (∀ b, r.ownBlock = some b → v.ownBlock = some b ∨ b = w.heap.size) → wpList P ops Q rest (a.put o.dst r) w') : wpList P ops Q (o :: rest) a w :=
  wpList_plain hgd fun _ hK => wp_append_any w s x t ho e i z size bytes ht hi hz hsize hby hzs hsz v n xs hs hown hv y m news hx hnew hy h1 h63 hbytes fun r w' h2 h3 h4 h5 => hK _ _ (h r w' h2 h3 h4 h5)

/-- At a step of a region that draws its order. -/
theorem step_append_any {ops : Array Oper} {o : Oper} {a : Act} {K : Act → World → Prop} {Q : Exit → Act → World → Prop} {E : Prop} (hgd : o.guard = none) (s x : Operand) (t : TypeId)
    (ho : o.op = .call { callee := .builtin .append, args := #[s, x], argTypes := #[t, t] })
    (e : TypeId) (i : TypeInfo) (z : Value) (size bytes : Nat) (ht : P.underlying t = some (.slice e)) (hi : P.info? e = some i) (hz : i.zero = some z)
    (hsize : i.size = size) (hby : i.bytes = bytes) (hzs : z.cells.size = size) (hsz : 0 < size)
    (v : Value) (n : Nat) (xs : List Value) (hs : a.eval s = v) (hown : Seg w e size v n xs) (hv : Thick v n)
    (y : Value) (m : Nat) (news : List Value) (hx : a.eval x = y) (hnew : Seg w e size y m news) (hy : Thick y m ∨ y = .slice none 0 0) (h1 : ∀ u ∈ news, u.oneCell' = true)
    (h63 : n + m ≤ maxLen) (hbytes : (n + m) * bytes ≤ 140737488355328)
    (h : ∀ r w', Thick r (n + m) → Seg w' e size r (n + m) (xs ++ news) → w.grownBy w' v.ownBlock → (∀ b, r.ownBlock = some b → v.ownBlock = some b ∨ b = w.heap.size) → K (a.put o.dst r) w') :
    if Region.wanted o (yielded ops a.tmps) = true then Oper.wp P o a w K Q else E := by
  have hw : Region.wanted o (yielded ops a.tmps) = true := by simp [Region.wanted, hgd]
  rw [if_pos hw]
  exact wp_append_any w s x t ho e i z size bytes ht hi hz hsize hby hzs hsz v n xs hs hown hv y m news hx hnew hy h1 h63 hbytes h
end
end Go.Proofs.YthbncejbcegmgaaDoor
end

section
/- clear(s[i:j]) of a slice that lies anywhere; append([]T(nil), l...): what comes of them. Of no program. -/
namespace Go.Proofs.YthbncejbcegmgaaDoor
open Go Go.RowKit

/-- The cells of k elements that are zero. -/
def zeroC (z : Array Value) (k : Nat) : List Value := (Builtin.zeroCells z k).toList
theorem zeroC_len (z : Array Value) (k : Nat) : (zeroC z k).length = k * z.size := by simp [zeroC, Builtin.zeroCells]

section
variable {P : Program} (w : World)

theorem run_clear_seg (t ty e : TypeId) (z : Value) (size : Nat) (ht : P.underlying t = some (.slice e)) (hv : ∀ w, (zeroValue e).run P w = .ok z w) (hzs : z.cells.size = size) (h1 : ∀ u ∈ z.cells, u.oneCell' = true)
    (g off n c : Nat) (xs : List Value) (h : Seg w e size (.slice (some ⟨g, off, none⟩) n c) n xs) (i k c' : Nat) (hik : i + k ≤ n) :
    ∃ w', (Builtin.clear_ #[t] ty #[.slice (some ⟨g, off + i * size, none⟩) k c']).run P w = .ok (.tuple #[]) w' ∧
      Seg w' e size (.slice (some ⟨g, off, none⟩) n c) n (xs.take (i * size) ++ zeroC z.cells k ++ xs.drop ((i + k) * size)) ∧ w.grownBy w' (some g) := by
  rcases h.2 with ⟨h0, _⟩ | ⟨g', off', cap, cur, h0, hg, hnc, hcm, hcs, hx⟩
  · cases h0
  simp only [Value.slice.injEq, Option.some.injEq, Addr.mk.injEq, and_true, true_and] at h0
  obtain ⟨⟨rfl, rfl⟩, rfl⟩ := h0
  have hlen := h.1
  by_cases hk : k = 0
  · subst hk
    refine ⟨w, by simp [Builtin.clear_, run_underlying ht], ?_, rfl, rfl, rfl, Nat.le_refl _, fun _ _ _ => rfl⟩
    rw [show zeroC z.cells 0 = [] from List.eq_nil_of_length_eq_zero (by rw [zeroC_len, Nat.zero_mul]), List.append_nil, Nat.add_zero, List.take_append_drop]
    exact h
  have e1 : (i + k) * size = i * size + k * size := Nat.add_mul _ _ _
  have e2 : (i + k) * size ≤ n * size := Nat.mul_le_mul_right _ hik
  have e3 : n * size ≤ c * size := Nat.mul_le_mul_right _ hnc
  have hzl : (zeroC z.cells k).length = k * size := by rw [zeroC_len, hzs]
  have hz1 : ∀ u ∈ zeroC z.cells k, u.oneCell' = true := by
    intro u hu
    unfold zeroC at hu
    rw [Array.mem_toList_iff] at hu
    unfold Builtin.zeroCells at hu
    obtain ⟨j, hj0, rfl⟩ := Array.mem_map.1 hu
    have hs : 0 < z.cells.size := by
      have := Array.mem_range.1 hj0
      rcases Nat.eq_zero_or_pos z.cells.size with hs | hs
      · rw [hs] at this; omega
      · exact hs
    have hj : j % z.cells.size < z.cells.size := Nat.mod_lt _ hs
    rw [getElem!_pos z.cells (j % z.cells.size) hj]
    exact h1 _ (Array.getElem_mem hj)
  have hst := run_storeCells_at P g (off + i * size) e (zeroC z.cells k) 0 cur w hg (by rw [hzl]; omega) hz1
  simp only [Nat.add_zero] at hst
  obtain ⟨m, rfl⟩ : ∃ m, k = m + 1 := ⟨k - 1, by omega⟩
  refine ⟨w.setRow g (cur.toList.take (off + i * size) ++ zeroC z.cells (m + 1) ++ cur.toList.drop (off + i * size + (zeroC z.cells (m + 1)).length)).toArray, ?_, ⟨?_, .inr ⟨g, off, c, _, rfl, setRow_heap w g cur _ e _ hg, hnc, hcm, ?_, ?_⟩⟩, rfl, rfl, rfl, by simp, fun b _ hb => setRow_other w g b _ (fun e => hb (by rw [e]))⟩
  · simp only [Builtin.clear_]
    simp [run_underlying ht, hv, zeroC] at hst ⊢
    simp [hst]
  · simp only [List.length_append, List.length_take, List.length_drop, hlen, hzl]
    omega
  · simp only [List.size_toArray, List.length_append, List.length_take, List.length_drop, Array.length_toList, hzl]
    omega
  · have e4 : (cur.toList.take (off + i * size)).drop off = xs.take (i * size) := by
      rw [List.drop_take, ← hx, List.take_take]
      congr 1
      omega
    have e5 : off ≤ (cur.toList.take (off + i * size)).length := by simp only [List.length_take, Array.length_toList]; omega
    show (List.drop off (cur.toList.take (off + i * size) ++ zeroC z.cells (m + 1) ++ cur.toList.drop (off + i * size + (zeroC z.cells (m + 1)).length))).take _ = _
    have e6 : xs.drop ((i + (m + 1)) * size) = (cur.toList.drop (off + i * size + (zeroC z.cells (m + 1)).length)).take (n * size - (i + (m + 1)) * size) := by
      rw [← hx, List.drop_take, List.drop_drop, hzl]
      congr 2
      omega
    rw [List.append_assoc, List.drop_append_of_le_length e5, e4, e6, ← List.append_assoc, List.take_append, List.take_of_length_le]
    · congr 2
      simp only [List.length_append, List.length_take, hlen, hzl]
      omega
    · simp only [List.length_append, List.length_take, hlen, hzl]
      omega

/-- append([]T(nil), l...): the same elsewhere, or nothing. -/
theorem run_append_new (t ty : TypeId) (e : TypeId) (i : TypeInfo) (z : Value) (size bytes : Nat) (ht : P.underlying t = some (.slice e)) (hi : P.info? e = some i) (hz : i.zero = some z)
    (hsize : i.size = size) (hby : i.bytes = bytes) (hzs : z.cells.size = size) (hsz : 0 < size)
    (x : Value) (m : Nat) (news : List Value) (hx : Seg w e size x m news) (h1 : ∀ u ∈ news, u.oneCell' = true)
    (h63 : m ≤ maxLen) (hbytes : m * bytes ≤ 140737488355328) :
    ∃ y w', (Builtin.append_ #[t, t] ty #[.slice none 0 0, x]).run P w = .ok y w' ∧
      Seg w' e size y m news ∧ Below w.heap.size w w' ∧ (∀ b, y.ownBlock = some b → w.heap.size ≤ b) := by
  by_cases hm : 0 < m
  · obtain ⟨gx, ox, cx, rfl, _⟩ := hx.cells hm
    obtain ⟨g, off, cap, w', hr, h2, h3, h4, h5⟩ := run_append_seg (P := P) w t ty e i z size bytes ht hi hz hsize hby hzs hsz (.slice none 0 0) 0 [] (Seg.nil w e size) ⟨gx, ox, none⟩ m cx news hx.1 hx.news h1 hm (by omega) (by rw [Nat.zero_add]; exact hbytes) _ rfl
    rw [Nat.zero_add, List.nil_append] at h2
    rw [Nat.zero_add] at hr
    refine ⟨_, w', hr, h2, ⟨h3.os, h3.tape, h3.output, h3.size, fun k hk => h3.block k hk (by intro e; cases e)⟩, fun b hb => ?_⟩
    injection hb with hb
    subst hb
    rcases h4 with h4 | h4
    · cases h4
    · exact Nat.le_of_eq h4.symm
  · obtain rfl : m = 0 := by omega
    obtain rfl : news = [] := List.eq_nil_of_length_eq_zero (by rw [hx.1, Nat.zero_mul])
    subst hsize
    refine ⟨.slice none 0 0, w, ?_, Seg.nil w e _, Below.refl _ _, fun b hb => by cases hb⟩
    rcases hx.2 with ⟨rfl, _⟩ | ⟨g, off, cap, cur, rfl, _⟩ <;> simp [Builtin.append_, run_underlying ht, sizeOf, typeInfo, hi, Builtin.lenOf, Builtin.firstCells, loadCells, loadCellsFrom, Result.andThen]

/-- At the list of a plain region's operations. -/
theorem wpList_append_new {ops : Array Oper} {rest : List Oper} {o : Oper} {a : Act} {Q : Exit → Act → World → Prop} (hgd : o.guard = none) (s x : Operand) (t : TypeId)
    (ho : o.op = .call { callee := .builtin .append, args := #[s, x], argTypes := #[t, t] })
    (e : TypeId) (i : TypeInfo) (z : Value) (size bytes : Nat) (ht : P.underlying t = some (.slice e)) (hi : P.info? e = some i) (hz : i.zero = some z)
    (hsize : i.size = size) (hby : i.bytes = bytes) (hzs : z.cells.size = size) (hsz : 0 < size) (hs : a.eval s = .slice none 0 0)
    (y : Value) (m : Nat) (news : List Value) (hx : a.eval x = y) (hnew : Seg w e size y m news) (h1 : ∀ u ∈ news, u.oneCell' = true)
    (h63 : m ≤ maxLen) (hbytes : m * bytes ≤ 140737488355328)
    (h : ∀ r w', Seg w' e size r m news → Below w.heap.size w w' → (∀ b, r.ownBlock = some b → w.heap.size ≤ b) → wpList P ops Q rest (a.put o.dst r) w') : wpList P ops Q (o :: rest) a w :=
  wpList_plain hgd fun K hK => by
    obtain ⟨r, w', hr, h2, h3, h4⟩ := run_append_new (P := P) w t o.type e i z size bytes ht hi hz hsize hby hzs hsz y m news hnew h1 h63 hbytes
    unfold Oper.wp execOp
    simp only [ho, resolve, invoke, builtin, Sem.run_bind, Sem.run_pure, Result.andThen_ok, List.map_toArray, List.map_cons, List.map_nil, hs, hx, hr]
    exact hK _ _ (h r w' h2 h3 h4)

/-- clear, at the list of a plain region's operations. -/
theorem wpList_clear_seg {ops : Array Oper} {rest : List Oper} {o : Oper} {a : Act} {Q : Exit → Act → World → Prop} (hgd : o.guard = none) (s : Operand) (t : TypeId)
    (ho : o.op = .call { callee := .builtin .clear, args := #[s], argTypes := #[t] })
    (e : TypeId) (z : Value) (size : Nat) (ht : P.underlying t = some (.slice e)) (hv : ∀ w, (zeroValue e).run P w = .ok z w) (hzs : z.cells.size = size) (h1 : ∀ u ∈ z.cells, u.oneCell' = true)
    (g off n c : Nat) (xs : List Value) (hs : Seg w e size (.slice (some ⟨g, off, none⟩) n c) n xs) (i k c' : Nat) (hik : i + k ≤ n) (he : a.eval s = .slice (some ⟨g, off + i * size, none⟩) k c')
    (h : ∀ w', Seg w' e size (.slice (some ⟨g, off, none⟩) n c) n (xs.take (i * size) ++ zeroC z.cells k ++ xs.drop ((i + k) * size)) → w.grownBy w' (some g) → wpList P ops Q rest (a.put o.dst (.tuple #[])) w') : wpList P ops Q (o :: rest) a w :=
  wpList_plain hgd fun K hK => by
    obtain ⟨w', hr, h2, h3⟩ := run_clear_seg (P := P) w t o.type e z size ht hv hzs h1 g off n c xs hs i k c' hik
    unfold Oper.wp execOp
    simp only [ho, resolve, invoke, builtin, Sem.run_bind, Sem.run_pure, Result.andThen_ok, List.map_toArray, List.map_cons, List.map_nil, he, hr]
    exact hK _ _ (h w' h2 h3)

/-- clear of a slice that is nil. -/
theorem wpList_clear_nil {ops : Array Oper} {rest : List Oper} {o : Oper} {a : Act} {Q : Exit → Act → World → Prop} (hgd : o.guard = none) (s : Operand) (t e : TypeId)
    (ho : o.op = .call { callee := .builtin .clear, args := #[s], argTypes := #[t] }) (ht : P.underlying t = some (.slice e)) (he : a.eval s = .slice none 0 0)
    (h : wpList P ops Q rest (a.put o.dst (.tuple #[])) w) : wpList P ops Q (o :: rest) a w :=
  wpList_plain hgd fun K hK => by
    have hr : (Builtin.clear_ #[t] o.type #[.slice none 0 0]).run P w = .ok (.tuple #[]) w := by simp [Builtin.clear_, run_underlying ht]
    unfold Oper.wp execOp
    simp only [ho, resolve, invoke, builtin, Sem.run_bind, Sem.run_pure, Result.andThen_ok, List.map_toArray, List.map_cons, List.map_nil, he, hr]
    exact hK _ _ h
end
end Go.Proofs.YthbncejbcegmgaaDoor
end

section
/- tree: copied; a row that forgets: what is kept. -/
namespace Go.Proofs.YthbncejbcegmgaaDoor.dig
open Go Go.RowKit

/-- A function with one value changed. -/
def upd {α : Type} (g : Nat → α) (j : Nat) (x : α) : Nat → α := fun i => if i = j then x else g i
theorem upd_at {α : Type} (g : Nat → α) (j : Nat) (x : α) : upd g j x j = x := if_pos rfl
theorem upd_ne {α : Type} (g : Nat → α) {i j : Nat} (x : α) (h : i ≠ j) : upd g j x i = g i := if_neg h
theorem upd_self {α : Type} (g : Nat → α) (j : Nat) : upd g j (g j) = g := by
  funext i
  unfold upd
  by_cases h : i = j
  · rw [if_pos h, h]
  · rw [if_neg h]
theorem upd_upd {α : Type} (g : Nat → α) (j : Nat) (x y : α) : upd (upd g j x) j y = upd g j y := by
  funext i
  unfold upd
  by_cases h : i = j
  · rw [if_pos h, if_pos h]
  · rw [if_neg h, if_neg h, if_neg h]

theorem sum_one {f : Nat → List UInt8} {j a k : Nat} : ∀ u ∈ flat (nodeC f j) a k, u.oneCell' = true := by
  intro u hu
  unfold flat at hu
  obtain ⟨i, _, hi⟩ := List.mem_flatMap.1 hu
  refine byteV_one (rt f (i * 2 ^ j) (2 ^ j)) u ?_
  simpa [nodeC, cellsOf] using hi

section
variable {F : Nat → Prop} {w W W' : World} {b n fl K : Nat} {g c : Nat → Nat} {f : Nat → List UInt8} {rv : Value} {sv : Nat → Value} {idle : Nat → Nat}

/-- Row j is another one. -/
theorem Raw.recut (h : Raw F w b n fl K g c f rv sv idle) {R o cap j G idl : Nat} {v' : Value} (hrv : rv = .slice (some ⟨R, o, none⟩) K cap) (hj : j < K)
    (T : Turn (fun k => k = R ∨ (sv j).ownBlock = some k) w W')
    (hs : Seg W' 33 32 v' (c j - G) (flat (nodeC f j) G (c j - G)))
    (hat : ∀ x, v'.ownBlock = some x → (sv j).ownBlock = some x ∨ w.heap.size ≤ x)
    (hrows : Seg W' 107 3 rv K (flat (rowC (upd g j G) (upd sv j v') (upd idle j idl)) 0 K)) (hi : idl ≤ 1000000) :
    Raw (fun k => F k ∨ w.heap.size ≤ k) W' b n fl K (upd g j G) c f rv (upd sv j v') (upd idle j idl) := by
  have hR : rv.ownBlock = some R := by rw [hrv]; rfl
  have hbR : b ≠ R := fun e => h.rv_b (by rw [hR, e])
  refine ⟨?_, hrows, ?_, ?_, .inl h.fb, fun x hx => .inl (h.fr x hx), ?_, ?_⟩
  · exact h.tree.turn T (fun e => by
      rcases e with e | e
      · exact hbR e
      · exact h.sv_b hj e)
  · intro i hi
    by_cases hij : i = j
    · subst hij
      rw [upd_at, upd_at]
      exact hs
    · rw [upd_ne _ _ hij, upd_ne _ _ hij]
      exact (h.sums i hi).turn T (fun x hx e => by
        rcases e with e | e
        · exact h.rv_sv hi R hR (by rw [hx, e])
        · exact h.apart i j hi hj hij x hx e)
  · intro i1 i2 h1 h2 hne x hx
    by_cases e1 : i1 = j
    · subst e1
      rw [upd_at] at hx
      rw [upd_ne _ _ (fun e => hne e.symm)]
      intro e
      rcases hat x hx with hat | hat
      · exact h.apart i1 i2 h1 h2 hne x hat e
      · have := (h.sums i2 h2).lt e; omega
    · rw [upd_ne _ _ e1] at hx
      by_cases e2 : i2 = j
      · subst e2
        rw [upd_at]
        intro e
        rcases hat x e with hat | hat
        · exact h.apart i1 i2 h1 h2 hne x hx hat
        · have := (h.sums i1 h1).lt hx; omega
      · rw [upd_ne _ _ e2]
        exact h.apart i1 i2 h1 h2 hne x hx
  · intro i hi x hx
    by_cases e1 : i = j
    · subst e1
      rw [upd_at] at hx
      exact (hat x hx).imp (fun e => h.fs i hi _ e) id
    · rw [upd_ne _ _ e1] at hx
      exact .inl (h.fs i hi x hx)
  · intro i hi
    by_cases e1 : i = j
    · subst e1
      rw [upd_at]; assumption
    · rw [upd_ne _ _ e1]
      exact h.idle i hi

/-- The rows' block, where cells of row j are written. -/
theorem rows_set0 {R o cap j : Nat} (h : Seg w 107 3 (.slice (some ⟨R, o, none⟩) K cap) K (flat (rowC g sv idle) 0 K)) (hj : j < K) (G : Nat) :
    Seg (w.setCell ⟨R, o + j * 3, none⟩ (.int .i64 G)) 107 3 (.slice (some ⟨R, o, none⟩) K cap) K (flat (rowC (upd g j G) sv idle) 0 K) := by
  have h2 := h.put (j * 3 + 0) (.int .i64 G)
  rw [flat_set (fun i _ _ => rowC_len _ _ _ i) hj (by omega), Nat.add_zero] at h2
  have e : flat (fun i => if i = 0 + j then (rowC g sv idle i).set 0 (.int .i64 G) else rowC g sv idle i) 0 K = flat (rowC (upd g j G) sv idle) 0 K := by
    refine flat_congr fun i _ _ => ?_
    simp only [Nat.zero_add]
    by_cases hi : i = j
    · rw [if_pos hi]; simp [rowC, upd, hi]
    · rw [if_neg hi]; simp [rowC, upd, hi]
  rw [← e]
  exact h2
theorem rows_set1 {R o cap j : Nat} (h : Seg w 107 3 (.slice (some ⟨R, o, none⟩) K cap) K (flat (rowC g sv idle) 0 K)) (hj : j < K) (v : Value) :
    Seg (w.setCell ⟨R, o + j * 3 + 1, none⟩ v) 107 3 (.slice (some ⟨R, o, none⟩) K cap) K (flat (rowC g (upd sv j v) idle) 0 K) := by
  have h2 := h.put (j * 3 + 1) v
  rw [flat_set (fun i _ _ => rowC_len _ _ _ i) hj (by omega), ← Nat.add_assoc] at h2
  have e : flat (fun i => if i = 0 + j then (rowC g sv idle i).set 1 v else rowC g sv idle i) 0 K = flat (rowC g (upd sv j v) idle) 0 K := by
    refine flat_congr fun i _ _ => ?_
    simp only [Nat.zero_add]
    by_cases hi : i = j
    · rw [if_pos hi]; simp [rowC, upd, hi]
    · rw [if_neg hi]; simp [rowC, upd, hi]
  rw [← e]
  exact h2
theorem rows_set2 {R o cap j : Nat} (h : Seg w 107 3 (.slice (some ⟨R, o, none⟩) K cap) K (flat (rowC g sv idle) 0 K)) (hj : j < K) (d : Nat) :
    Seg (w.setCell ⟨R, o + j * 3 + 2, none⟩ (.int .i64 d)) 107 3 (.slice (some ⟨R, o, none⟩) K cap) K (flat (rowC g sv (upd idle j d)) 0 K) := by
  have h2 := h.put (j * 3 + 2) (.int .i64 d)
  rw [flat_set (fun i _ _ => rowC_len _ _ _ i) hj (by omega), ← Nat.add_assoc] at h2
  have e : flat (fun i => if i = 0 + j then (rowC g sv idle i).set 2 (.int .i64 d) else rowC g sv idle i) 0 K = flat (rowC g sv (upd idle j d)) 0 K := by
    refine flat_congr fun i _ _ => ?_
    simp only [Nat.zero_add]
    by_cases hi : i = j
    · rw [if_pos hi]; simp [rowC, upd, hi]
    · rw [if_neg hi]; simp [rowC, upd, hi]
  rw [← e]
  exact h2
end

set_option maxRecDepth 100000 in
set_option maxHeartbeats 1000000 in
theorem copied_calls (v : Value) (m : Nat) (xs : List Value) (w : World) (hs : Seg w 33 32 v m xs) (h1 : ∀ u ∈ xs, u.oneCell' = true) (hm : m ≤ 1000000) :
    Calls Tryd.prog 88 #[v] w fun en w' => ∃ y, en = .returned y ∧ Seg w' 33 32 y m xs ∧ (∀ x, y.ownBlock = some x → w.heap.size ≤ x) ∧ Below w.heap.size w w' := by
  obtain ⟨i, z, hi, hz, hsz, hzs, hby⟩ := sumInfo
  obtain ⟨a, c, rfl, _, _⟩ := hs.slice
  have HS := Lib.hid hs
  have H1 := Lib.hid h1
  clear hs h1
  go_enter Tryd.func88, Tryd.ntmps88
  go_wp2_with (first | ((with_reducible refine at_op 4 ?_); refine wpList_append_new (o := ⟨some 4, _, _, _, _, _⟩) _ rfl (.const (.slice none 0 0)) (.tmp 3) 26 rfl 33 i z 32 32 Tryd.underlying26 hi hz hsz hby hzs (by omega) rfl _ m xs rfl HS.out H1.out (by unfold maxLen; omega) (by omega) ?_; intro y W2 s2 b2 o2) | fail)
  go_ret
  exact ⟨y, rfl, s2, o2, b2⟩

/-- The cells of row j. -/
theorem row_cells {w : World} {K : Nat} {g : Nat → Nat} {sv : Nat → Value} {idle : Nat → Nat} {R o cap j : Nat} (h : Seg w 107 3 (.slice (some ⟨R, o, none⟩) K cap) K (flat (rowC g sv idle) 0 K)) (hj : j < K) :
    w.cell? ⟨R, o + j * 3, none⟩ = some (.int .i64 (g j)) ∧ w.cell? ⟨R, o + j * 3 + 1, none⟩ = some (sv j) ∧ w.cell? ⟨R, o + j * 3 + 2, none⟩ = some (.int .i64 (idle j)) ∧ R < w.heap.size ∧ ∀ x, w.frozen? ⟨R, x, none⟩ = false := by
  obtain ⟨R', o', C', hrv, hRl, _, _, hcc⟩ := h.cells (by omega)
  simp only [Value.slice.injEq, Option.some.injEq, Addr.mk.injEq, and_true, true_and] at hrv
  obtain ⟨⟨rfl, rfl⟩, rfl⟩ := hrv
  have g0 := flat_get (g := rowC g sv idle) (a := 0) (k := K) (w := 3) (fun i _ _ => rowC_len _ _ _ i) hj (r := 0) (by omega)
  have g1 := flat_get (g := rowC g sv idle) (a := 0) (k := K) (w := 3) (fun i _ _ => rowC_len _ _ _ i) hj (r := 1) (by omega)
  have g2 := flat_get (g := rowC g sv idle) (a := 0) (k := K) (w := 3) (fun i _ _ => rowC_len _ _ _ i) hj (r := 2) (by omega)
  rw [Nat.zero_add] at g0 g1 g2
  exact ⟨hcc _ _ g0, hcc _ _ g1, hcc _ _ g2, hRl, fun x => h.free x⟩

/-- What a row's forgetting comes to. -/
def ForgetPost (F : Nat → Prop) (w : World) (b n fl K : Nat) (g c : Nat → Nat) (f : Nat → List UInt8) (rv : Value) (j G : Nat) (en : Ending) (w' : World) : Prop :=
  en = .returned (.tuple #[]) ∧ (∃ sv idle, Raw (fun k => F k ∨ w.heap.size ≤ k) w' b n fl K (upd g j G) c f rv sv idle) ∧ Turn F w w'

section
variable {F : Nat → Prop} {w : World} {b n fl K : Nat} {g c : Nat → Nat} {f : Nat → List UInt8} {sv : Nat → Value} {idle : Nat → Nat} {R o cap j G : Nat}

set_option maxRecDepth 100000 in
set_option maxHeartbeats 2000000 in
theorem Raw.forget (h : Raw F w b n fl K g c f (.slice (some ⟨R, o, none⟩) K cap) sv idle) (hj : j < K) (hg : g j ≤ G) (hG : G ≤ c j) (hc : c j ≤ 1000000) (hlen : ∀ i, (f i).length = 32) :
    Calls Tryd.prog 82 #[.pointer (some ⟨R, o + j * 3, none⟩), .int .i64 G] w (ForgetPost F w b n fl K g c f (.slice (some ⟨R, o, none⟩) K cap) j G) := by
  obtain ⟨R', o', C', hrv, hRl, _, _, hcc⟩ := h.rows.cells (by omega)
  simp only [Value.slice.injEq, Option.some.injEq, Addr.mk.injEq, and_true, true_and] at hrv
  obtain ⟨⟨rfl, rfl⟩, rfl⟩ := hrv
  have g0 := flat_get (g := rowC g sv idle) (a := 0) (k := K) (w := 3) (fun i _ _ => rowC_len _ _ _ i) hj (r := 0) (by omega)
  have g1 := flat_get (g := rowC g sv idle) (a := 0) (k := K) (w := 3) (fun i _ _ => rowC_len _ _ _ i) hj (r := 1) (by omega)
  have g2 := flat_get (g := rowC g sv idle) (a := 0) (k := K) (w := 3) (fun i _ _ => rowC_len _ _ _ i) hj (r := 2) (by omega)
  rw [Nat.zero_add] at g0 g1 g2
  have k0 : w.cell? ⟨R, o + j * 3, none⟩ = some (.int .i64 (g j)) := hcc _ _ g0
  have k1 : w.cell? ⟨R, o + j * 3 + 1, none⟩ = some (sv j) := hcc _ _ g1
  have k2 : w.cell? ⟨R, o + j * 3 + 2, none⟩ = some (.int .i64 (idle j)) := hcc _ _ g2
  have fz : ∀ x, w.frozen? ⟨R, x, none⟩ = false := fun x => h.rows.free x
  have hi := h.idle j hj
  have HS := Lib.hid (h.sums j hj)
  have H := Lib.hid h
  obtain ⟨d, hd⟩ : ∃ d, d = G - g j := ⟨_, rfl⟩
  obtain ⟨m, hm⟩ : ∃ m, m = c j - g j := ⟨_, rfl⟩
  obtain ⟨q, hq⟩ : ∃ q, q = g j := ⟨_, rfl⟩
  obtain ⟨v, hv⟩ : ∃ v, v = sv j := ⟨_, rfl⟩
  obtain ⟨l, hl⟩ : ∃ l, l = idle j := ⟨_, rfl⟩
  have hd1 : (G : Int) - (q : Int) = (d : Int) := by omega
  have hdm : d ≤ m := by omega
  have hm6 : m ≤ 1000000 := by omega
  have hq6 : (q : Int) ≤ 1000000 := by omega
  have hG6 : (G : Int) ≤ 1000000 := by omega
  have HD := Lib.hid (show _ ∧ _ ∧ _ ∧ _ ∧ _ from ⟨hd, hm, hq, hv, hl⟩)
  rw [← hq] at k0
  rw [← hv] at k1
  rw [← hl] at k2 hi
  have HC := Lib.hid (show _ ∧ _ ∧ _ ∧ _ from ⟨hg, hG, hc, hlen⟩)
  clear hcc g0 g1 g2 h hg hG hc hlen hd hm hq hv hl
  have FZ := Lib.hid fz
  have hzv : ∀ w, (zeroValue 33).run Tryd.prog w = .ok (.agg (cellsOf (List.replicate 32 0))) w := fun _ => by kernel_rfl
  have HZ := Lib.hid hzv
  clear hzv
  rcases HS.out.2 with ⟨hn, hm0⟩ | ⟨gg, off, cc, cur, hn, hg1, hc1, hc2, hc3, hx⟩
  · have hG0 : g j = G ∧ c j - G = 0 := by have := HD.out; have := HC.out; omega
    have hd0 : d = 0 := by have := HD.out; omega
    subst hd0
    replace hd1 : (G : Int) - (q : Int) = 0 := by omega
    rw [← HD.out.2.2.2.1] at hn
    rw [hn] at k1
    have HV := Lib.hid (show _ ∧ _ from ⟨hn, hG0⟩)
    have hr : (Builtin.clear_ #[26] 0 #[.slice none 0 0]).run Tryd.prog w = .ok (.tuple #[]) w := by simp [Builtin.clear_, run_underlying Tryd.underlying26]
    have hl6 : (l : Int) ≤ 1000000 := by omega
    have hl0 : (0 : Int) ≤ (l : Int) := by omega
    clear hn hm0 hG0 hdm hm6
    have hsv : sv j = .slice none 0 0 := by rw [← HD.out.2.2.2.1, HV.out.1]
    have A2 : Seg w 107 3 (.slice (some ⟨R, o, none⟩) K cap) K (flat (rowC g sv idle) 0 K) := H.out.rows
    have A3 := rows_set2 (rows_set1 (rows_set0 A2 hj G) hj (.slice none 0 0)) hj l
    have T3 := (((Turn.refl (fun k => k = R ∨ (sv j).ownBlock = some k) w).put (fun _ => .inl rfl) (o + j * 3) (.int .i64 G)).put (fun _ => .inl rfl) (o + j * 3 + 1) (.slice none 0 0)).put (fun _ => .inl rfl) (o + j * 3 + 2) (.int .i64 l)
    have M := Lib.hid (show _ ∧ _ from ⟨A3.drew, T3.drew⟩)
    have hnil : ∀ W : World, Seg W 33 32 (.slice none 0 0) (c j - G) (flat (nodeC f j) G (c j - G)) := fun W => by
      rw [HV.out.2.2]
      exact Seg.nil _ _ _
    have HN := Lib.hid hnil
    clear A2 A3 T3 hsv hnil
    go_enter Tryd.func82, Tryd.ntmps82
    go_wp2_with fail
    clear hr
    go_region
    clear k0 k1 k2
    go_wp2_with fail
    generalize hW : (((w.setCell ⟨R, o + j * 3, none⟩ (.int .i64 G)).setCell ⟨R, o + j * 3 + 1, none⟩ (.slice none 0 0)).setCell ⟨R, o + j * 3 + 2, none⟩ (.int .i64 l)).drew = W3 at M ⊢
    clear hW
    obtain ⟨_, l1, l2, hRW, lf⟩ := row_cells M.out.1 hj
    rw [upd_at] at l1 l2
    go_region
    have M4 := Lib.hid (show _ ∧ _ from ⟨M.out.1.drew, M.out.2.drew⟩)
    generalize W3.drew = W4 at M4 ⊢
    clear M l1 l2 hRW lf
    obtain ⟨_, l1, l2, hRW, lf⟩ := row_cells M4.out.1 hj
    rw [upd_at] at l1 l2
    by_cases hyr : (l : Int) > 0
    · have hyr2 : ¬ (l : Int) ≤ 0 := by omega
      go_wp2_with fail
      refine (copied_calls (.slice none 0 0) (c j - G) _ W4 (HN.out W4) sum_one (by have := HC.out; omega)).mono ?_
      rintro en w5 ⟨yv, rfl, s5, o5, b5⟩
      obtain ⟨ya, yc, rfl, _, _⟩ := s5.slice
      have A5 := M4.out.1.below b5 (fun x hx => M4.out.1.lt hx)
      have A6 := rows_set2 (rows_set1 A5 hj (.slice ya (c j - G) yc)) hj 0
      rw [upd_upd, upd_upd] at A6
      have hyR : (Value.slice ya (c j - G) yc).ownBlock ≠ some R := fun e => by have := o5 R e; omega
      have B6 := Seg.far (Seg.far s5 (p := ⟨R, o + j * 3 + 1, none⟩) hyR (.slice ya (c j - G) yc)) (p := ⟨R, o + j * 3 + 2, none⟩) hyR (.int .i64 (0 : Nat))
      have T5 : Turn (fun k => k = R ∨ (sv j).ownBlock = some k) w w5 := M4.out.2.trans (Turn.of_below (F := fun k => W4.heap.size ≤ k) b5 (fun _ _ h => h)) (fun k h1 h2 => by have := M4.out.2.size; omega)
      have T6 := (T5.put (fun _ => .inl rfl) (o + j * 3 + 1) (.slice ya (c j - G) yc)).put (fun _ => .inl rfl) (o + j * 3 + 2) (.int .i64 (0 : Nat))
      obtain ⟨_, q1, q2, hRW5, qf⟩ := row_cells A5 hj
      rw [upd_at] at q1 q2
      have N := Lib.hid (show _ ∧ _ ∧ _ ∧ _ from ⟨A6, B6, T6, fun x hx => (.inr (by have := o5 x hx; have := M4.out.2.size; omega) : (sv j).ownBlock = some x ∨ w.heap.size ≤ x)⟩)
      clear A5 A6 B6 T5 T6 s5 o5 b5 hyR l1 l2 lf hRW M4
      go_wp2_with fail
      go_end0
      exact ⟨rfl, ⟨_, _, H.out.recut rfl hj N.out.2.2.1 N.out.2.1 N.out.2.2.2 N.out.1 (by omega)⟩, N.out.2.2.1.more (fun k _ hk => by
        rcases hk with hk | hk
        · rw [hk]; exact H.out.fr R rfl
        · exact H.out.fs j hj k hk)⟩
    · go_wp2_with fail
      go_end0
      exact ⟨rfl, ⟨_, _, H.out.recut rfl hj M4.out.2 (HN.out W4) (fun x hx => by cases hx) M4.out.1 (by omega)⟩, M4.out.2.more (fun k _ hk => by
        rcases hk with hk | hk
        · rw [hk]; exact H.out.fr R rfl
        · exact H.out.fs j hj k hk)⟩
  · rw [← HD.out.2.2.2.1] at hn
    have HV := Lib.hid hn
    rw [hn] at k1
    rw [← HD.out.2.1] at hc1 hn HV k1
    have hmc : (m : Int) ≤ (cc : Int) := by omega
    have hcm : (cc : Int) ≤ 9223372036854775807 := by unfold maxLen at hc2; omega
    have hdc : (d : Int) ≤ (cc : Int) := by omega
    have hd0 : (0 : Int) ≤ (d : Int) := by omega
    clear hg1 hc3 hx hn hc2
    obtain ⟨W2, hr, s2, t2⟩ := run_clear_seg (P := Tryd.prog) w 26 0 33 (.agg (cellsOf (List.replicate 32 0))) 32 Tryd.underlying26 HZ.out (by kernel_rfl) (fun u hu => byteV_one (List.replicate 32 0) u (by simpa [Value.cells, cellsOf] using hu)) gg off m cc _ (by have := HS.out; rw [← HD.out.2.1, ← HD.out.2.2.2.1, HV.out] at this; exact this) 0 d cc (by omega)
    rw [Nat.zero_mul, Nat.add_zero] at hr
    have hm1 : g j + m = c j := by have := HD.out.2.1; have := HC.out; omega
    have hd2 : g j + d = G := by have := HD.out.1; have := HC.out; omega
    have s3 : Seg W2 33 32 (.slice (some ⟨gg, off + d * 32, none⟩) (m - d) (cc - d)) (c j - G) (flat (nodeC f j) G (c j - G)) := by
      have h1 := s2.behind d hdm
      have e1 : (List.take (0 * 32) (flat (nodeC f j) (g j) m) ++ zeroC (Value.agg (cellsOf (List.replicate 32 0))).cells d ++ List.drop ((0 + d) * 32) (flat (nodeC f j) (g j) m)).drop (d * 32) = flat (nodeC f j) G (c j - G) := by
        have hz : (zeroC (Value.agg (cellsOf (List.replicate 32 0))).cells d).length = d * 32 := by rw [zeroC_len]; rfl
        rw [Nat.zero_mul, List.take_zero, List.nil_append, Nat.zero_add, List.drop_append_of_le_length (by omega), List.drop_of_length_le (by omega), List.nil_append, flat_drop (fun i _ _ => nodeC_len HC.out.2.2.2 j i) hdm, hd2]
        congr 1
        omega
      rw [e1, show m - d = c j - G by omega] at h1
      rw [show m - d = c j - G by omega]
      exact h1
    have hcj : c j - G = m - d := by omega
    have HW := Lib.hid (show _ ∧ _ ∧ _ ∧ _ ∧ _ from ⟨s3, t2, hcj, hm1, hd2⟩)
    have hne : R ≠ gg := fun e => H.out.rv_sv hj R rfl (by rw [← HD.out.2.2.2.1, HV.out, e]; rfl)
    have old : ∀ x, W2.cell? ⟨R, x, none⟩ = w.cell? ⟨R, x, none⟩ := fun x => by unfold World.cell?; rw [t2.block R hRl (fun e => hne (by injection e))]
    have j0 : W2.cell? ⟨R, o + j * 3, none⟩ = some (.int .i64 q) := (old _).trans k0
    have j1 : W2.cell? ⟨R, o + j * 3 + 1, none⟩ = some (.slice (some ⟨gg, off, none⟩) m cc) := (old _).trans k1
    have j2 : W2.cell? ⟨R, o + j * 3 + 2, none⟩ = some (.int .i64 l) := (old _).trans k2
    have fz2 : ∀ x, W2.frozen? ⟨R, x, none⟩ = false := fun x => by
      have := FZ.out x
      unfold World.frozen? at *
      rw [t2.block R hRl (fun e => hne (by injection e))]
      exact this
    have hi0 : (0 : Int) ≤ (l : Int) := by omega
    have hi6 : (l : Int) ≤ 1000000 := by omega
    have hd6 : (d : Int) ≤ 1000000 := by omega
    have hdm2 : (d : Int) ≤ (m : Int) := by omega
    go_enter Tryd.func82, Tryd.ntmps82
    go_wp2_with fail
    clear hr k0 k1 k2 s2 s3 t2 old hm1 hd2 hcj
    go_region
    generalize hp : (if cc = d then (some ⟨gg, off, none⟩ : Option Addr) else some ⟨gg, off + d * 32, none⟩) = p
    have HP := Lib.hid hp
    clear hp j0 j1 j2 fz2
    obtain ⟨r, hr⟩ : ∃ r, r = m - d := ⟨_, rfl⟩
    rw [← hr]
    have HR := Lib.hid hr
    have hr6 : (r : Int) ≤ 1000000 := by omega
    have hld : (l : Int) + (d : Int) = ((l + d : Nat) : Int) := (Int.natCast_add l d).symm
    rw [hld]
    obtain ⟨y, hy⟩ : ∃ y, y = l + d := ⟨_, rfl⟩
    rw [← hy]
    have HY := Lib.hid hy
    have hy6 : (y : Int) ≤ 2000000 := by omega
    clear hr hld hy
    obtain ⟨cq, hcq⟩ : ∃ cq, cq = cc - d := ⟨_, rfl⟩
    rw [← hcq]
    have hcq6 : (cq : Int) ≤ 9223372036854775807 := by omega
    have hrc : (r : Int) ≤ (cq : Int) := by have := HR.out; omega
    have HQ := Lib.hid hcq
    clear hcq
    have hsv : sv j = .slice (some ⟨gg, off, none⟩) m cc := by rw [← HD.out.2.2.2.1, HV.out]
    have A2 : Seg W2 107 3 (.slice (some ⟨R, o, none⟩) K cap) K (flat (rowC g sv idle) 0 K) :=
      H.out.rows.keep fun x hx => by
        injection hx with hx
        subst hx
        exact HW.out.2.1.block R hRl (fun e => hne (by injection e))
    have A3 := rows_set2 (rows_set1 (rows_set0 A2 hj G) hj (.slice p r cq)) hj y
    have B2 : Seg W2 33 32 (.slice p r cq) (c j - G) (flat (nodeC f j) G (c j - G)) := by
      rw [HQ.out, ← HP.out]
      by_cases hcd : cc = d
      · have h1 := HW.out.1
        have h2 : c j - G = 0 := by have := HW.out.2.2.1; omega
        rw [if_pos hcd, show r = 0 by have := HR.out; omega, show cc - d = 0 by omega, h2]
        rw [h2] at h1
        rcases h1.2 with ⟨h3, _⟩ | ⟨g3, o3, c3, cur3, h3, h4, _, _, h5, _⟩
        · cases h3
        · simp only [Value.slice.injEq, Option.some.injEq, Addr.mk.injEq, and_true] at h3
          obtain ⟨⟨rfl, rfl⟩, _⟩ := h3
          exact ⟨rfl, .inr ⟨gg, off, 0, cur3, rfl, h4, Nat.le_refl _, Nat.zero_le _, by omega, rfl⟩⟩
      · rw [if_neg hcd, HR.out]
        exact HW.out.1
    have T2 : Turn (fun k => k = R ∨ (sv j).ownBlock = some k) w W2 := Turn.of_grown HW.out.2.1 (.inr (by rw [hsv]; rfl))
    have T3 := ((T2.put (fun _ => .inl rfl) (o + j * 3) (.int .i64 G)).put (fun _ => .inl rfl) (o + j * 3 + 1) (.slice p r cq)).put (fun _ => .inl rfl) (o + j * 3 + 2) (.int .i64 y)
    have hpo : ∀ x, (Value.slice p r cq).ownBlock = some x → x = gg := fun x hx => by
      rw [← HP.out] at hx
      by_cases hcd : cc = d
      · rw [if_pos hcd] at hx; injection hx with hx; exact hx.symm
      · rw [if_neg hcd] at hx; injection hx with hx; exact hx.symm
    have hpR : (Value.slice p r cq).ownBlock ≠ some R := fun e => hne (hpo R e)
    have B3 := Seg.far (Seg.far (Seg.far B2 (p := ⟨R, o + j * 3, none⟩) hpR (.int .i64 G)) (p := ⟨R, o + j * 3 + 1, none⟩) hpR (.slice p r cq)) (p := ⟨R, o + j * 3 + 2, none⟩) hpR (.int .i64 y)
    have HO := Lib.hid (show ∀ x, (Value.slice p r cq).ownBlock = some x → (sv j).ownBlock = some x ∨ w.heap.size ≤ x from fun x hx => .inl (by rw [hpo x hx, hsv]; rfl))
    have M := Lib.hid (show _ ∧ _ ∧ _ from ⟨A3.drew, B3.drew, T3.drew⟩)
    clear A2 A3 B2 T2 T3 B3 hsv hpo hpR
    go_wp2_with fail
    generalize hW : (((W2.setCell ⟨R, o + j * 3, none⟩ (.int .i64 G)).setCell ⟨R, o + j * 3 + 1, none⟩ (.slice p r cq)).setCell ⟨R, o + j * 3 + 2, none⟩ (.int .i64 y)).drew = W3 at M ⊢
    clear hW
    obtain ⟨_, l1, l2, hRW, lf⟩ := row_cells M.out.1 hj
    rw [upd_at] at l1 l2
    go_region
    have M4 := Lib.hid (show _ ∧ _ ∧ _ from ⟨M.out.1.drew, M.out.2.1.drew, M.out.2.2.drew⟩)
    generalize W3.drew = W4 at M4 ⊢
    clear M l1 l2 hRW lf
    obtain ⟨_, l1, l2, hRW, lf⟩ := row_cells M4.out.1 hj
    rw [upd_at] at l1 l2
    by_cases hyr : (y : Int) > (r : Int)
    · have hyr2 : ¬ (y : Int) ≤ (r : Int) := by omega
      go_wp2_with fail
      refine (copied_calls (.slice p r cq) (c j - G) _ W4 M4.out.2.1 sum_one (by have := HC.out; omega)).mono ?_
      rintro en w5 ⟨yv, rfl, s5, o5, b5⟩
      obtain ⟨ya, yc, rfl, _, _⟩ := s5.slice
      have A5 := M4.out.1.below b5 (fun x hx => M4.out.1.lt hx)
      have A6 := rows_set2 (rows_set1 A5 hj (.slice ya (c j - G) yc)) hj 0
      rw [upd_upd, upd_upd] at A6
      have hyR : (Value.slice ya (c j - G) yc).ownBlock ≠ some R := fun e => by have := o5 R e; omega
      have B6 := Seg.far (Seg.far s5 (p := ⟨R, o + j * 3 + 1, none⟩) hyR (.slice ya (c j - G) yc)) (p := ⟨R, o + j * 3 + 2, none⟩) hyR (.int .i64 (0 : Nat))
      have T5 : Turn (fun k => k = R ∨ (sv j).ownBlock = some k) w w5 := M4.out.2.2.trans (Turn.of_below (F := fun k => W4.heap.size ≤ k) b5 (fun _ _ h => h)) (fun k h1 h2 => by have := M4.out.2.2.size; omega)
      have T6 := (T5.put (fun _ => .inl rfl) (o + j * 3 + 1) (.slice ya (c j - G) yc)).put (fun _ => .inl rfl) (o + j * 3 + 2) (.int .i64 (0 : Nat))
      obtain ⟨_, q1, q2, hRW5, qf⟩ := row_cells A5 hj
      rw [upd_at] at q1 q2
      have N := Lib.hid (show _ ∧ _ ∧ _ ∧ _ from ⟨A6, B6, T6, fun x hx => (.inr (by have := o5 x hx; have := M4.out.2.2.size; omega) : (sv j).ownBlock = some x ∨ w.heap.size ≤ x)⟩)
      clear A5 A6 B6 T5 T6 s5 o5 b5 hyR l1 l2 lf hRW M4
      go_wp2_with fail
      go_end0
      exact ⟨rfl, ⟨_, _, H.out.recut rfl hj N.out.2.2.1 N.out.2.1 N.out.2.2.2 N.out.1 (by omega)⟩, N.out.2.2.1.more (fun k _ hk => by
        rcases hk with hk | hk
        · rw [hk]; exact H.out.fr R rfl
        · exact H.out.fs j hj k hk)⟩
    · go_wp2_with fail
      go_end0
      exact ⟨rfl, ⟨_, _, H.out.recut rfl hj M4.out.2.2 M4.out.2.1 HO.out M4.out.1 (by omega)⟩, M4.out.2.2.more (fun k _ hk => by
        rcases hk with hk | hk
        · rw [hk]; exact H.out.fr R rfl
        · exact H.out.fs j hj k hk)⟩
end
end Go.Proofs.YthbncejbcegmgaaDoor.dig
end

section
/- tree: Forget. -/
namespace Go.Proofs.YthbncejbcegmgaaDoor.dig
open Go Go.RowKit

/-- The floor is another one. -/
theorem Raw.floor {F : Nat → Prop} {w : World} {b n fl K : Nat} {g c : Nat → Nat} {f : Nat → List UInt8} {rv : Value} {sv : Nat → Value} {idle : Nat → Nat} (h : Raw F w b n fl K g c f rv sv idle) (p : Nat) :
    Raw F (w.setCell ⟨b, 1, none⟩ (.int .i64 p)) b n p K g c f rv sv idle := by
  refine ⟨?_, Seg.far h.rows h.rv_b _, fun j hj => Seg.far (h.sums j hj) (h.sv_b hj) _, h.apart, h.fb, h.fr, h.fs, h.idle⟩
  have := h.tree.put 1 (.int .i64 p)
  simpa using this

/-- While rows forget: those below k have. -/
def mid (p fl k : Nat) : Nat → Nat := fun i => if i < k then gone p i else gone fl i
theorem mid_zero (p fl : Nat) : mid p fl 0 = gone fl := by
  funext i
  unfold mid
  rw [if_neg (by omega)]
theorem mid_next (p fl k : Nat) : upd (mid p fl k) k (gone p k) = mid p fl (k + 1) := by
  funext i
  unfold mid upd
  by_cases h : i = k
  · rw [if_pos h, if_pos (by omega), h]
  · rw [if_neg h]
    show (if i < k then gone p i else gone fl i) = _
    by_cases h2 : i < k
    · rw [if_pos h2, if_pos (by omega)]
    · rw [if_neg h2, if_neg (by omega)]
theorem mid_at (p fl k : Nat) : mid p fl k k = gone fl k := if_neg (by omega)

theorem Raw.gcongr {F : Nat → Prop} {w : World} {b n fl K : Nat} {g g' c : Nat → Nat} {f : Nat → List UInt8} {rv : Value} {sv : Nat → Value} {idle : Nat → Nat} (h : Raw F w b n fl K g c f rv sv idle) (e : ∀ i, i < K → g i = g' i) :
    Raw F w b n fl K g' c f rv sv idle :=
  ⟨h.tree, by
    rw [← flat_congr (g := rowC g sv idle) (h := rowC g' sv idle) (fun i _ hi => by unfold rowC; rw [e i (by omega)])]
    exact h.rows, fun j hj => by rw [← e j hj]; exact h.sums j hj, h.apart, h.fb, h.fr, h.fs, h.idle⟩

theorem shr_pow (p k : Nat) : (p : Int) / 2 ^ (k + 1) = ((p / 2 ^ (k + 1) : Nat) : Int) := by
  rw [Int.natCast_ediv, Int.natCast_pow]
  rfl

section
variable {B : Nat} {F : Nat → Prop} {b n fl : Nat} {f : Nat → List UInt8} {w : World}

set_option maxRecDepth 100000 in
set_option maxHeartbeats 2000000 in
theorem Tr.forget (hT : Tr B F w b n fl f) (p : Nat) (hp : fl ≤ p) (hn : p ≤ n) :
    Calls Tryd.prog 70 #[.pointer (some ⟨b, 0, none⟩), .int .i64 p] w fun en w' => en = .returned (.int .i64 0) ∧ Tr B (fun k => F k ∨ w.heap.size ≤ k) w' b n p f ∧ Turn F w w' := by
  obtain ⟨rv, sv, idle, h⟩ := hT.raw
  have e0 := h.tree.cell 0
  have e1 := h.tree.cell 1
  simp at e0 e1
  have hsm := hT.small
  have h1 : ¬ (p : Int) < 0 := by omega
  have h2 : ¬ (p : Int) > (n : Int) := by omega
  have h3 : ¬ (p : Int) < (fl : Int) := by omega
  have HT := Lib.hid hT
  have H := Lib.hid h
  have ht : tops n ≤ 32 := tops_small (by omega)
  have fz := h.tree.free
  obtain ⟨a0, c0, hrv, hc1, hc2⟩ := h.rows.slice
  subst hrv
  have hc3 : (c0 : Int) ≤ 9223372036854775807 := by unfold maxLen at hc2; omega
  have hk3 : (tops n : Int) ≤ (c0 : Int) := by omega
  have e2 : w.cell? ⟨b, 2, none⟩ = some (.slice a0 (tops n) c0) := h.tree.cell 2
  have W1 := h.floor p
  have T1 : Turn F w (w.setCell ⟨b, 1, none⟩ (.int .i64 p)) := (Turn.refl F w).put (fun _ => h.fb) 1 _
  have M := Lib.hid (show _ ∧ _ from ⟨W1, T1⟩)
  clear hT h W1 T1 hc1 hc2
  go_enter Tryd.func70, Tryd.ntmps70
  go_wp2_with fail
  generalize w.setCell ⟨b, 1, none⟩ (.int .i64 p) = W1 at M ⊢
  clear e0 e1 e2 fz
  have M0 : Hid ((∃ sv idle, Raw (fun x => F x ∨ w.heap.size ≤ x) W1 b n p (tops n) (mid p fl 0) (fun j => n / 2 ^ j) f (.slice a0 (tops n) c0) sv idle) ∧ Turn F w W1) :=
    Lib.hid ⟨⟨sv, idle, by rw [mid_zero]; exact M.out.1.more (fun _ _ h => .inl h)⟩, M.out.2⟩
  clear M
  go_loopw [31] (fun i wr => ∃ k : Nat, i = .int .i64 k ∧ k ≤ tops n ∧ Hid ((∃ sv idle, Raw (fun x => F x ∨ w.heap.size ≤ x) wr b n p (tops n) (mid p fl k) (fun j => n / 2 ^ j) f (.slice a0 (tops n) c0) sv idle) ∧ Turn F w wr)) (fun i _ => tops n - (intOf i).toNat)
  case atStart => exact ⟨0, rfl, Nat.zero_le _, M0⟩
  case round =>
    obtain ⟨k, rfl, hk, HS⟩ := hrel
    clear M0
    by_cases hkt : k < tops n
    · have hk1 : (k : Int) < (tops n : Int) := by omega
      have hk0 : (0 : Int) ≤ (k : Int) := by omega
      obtain ⟨sv, idle, r⟩ := HS.out.1
      obtain ⟨R, o, C, hrv, hRl, _, _, _⟩ := r.rows.cells (by omega)
      simp only [Value.slice.injEq] at hrv
      obtain ⟨rfl, _, rfl⟩ := hrv
      have f2 : wr.cell? ⟨b, 2, none⟩ = some (.slice (some ⟨R, o, none⟩) (tops n) c0) := r.tree.cell 2
      have hgd : gone fl k ≤ gone p k := gone_mono k hp
      have hgn : gone p k ≤ n / 2 ^ k := gone_le k hn
      have hnk : n / 2 ^ k ≤ 1000000 := Nat.le_trans (Nat.div_le_self _ _) hsm
      have hc := Raw.forget r.drew hkt (G := gone p k) (by rw [mid_at]; exact hgd) hgn hnk HT.out.len
      have HC := Lib.hid hc
      obtain ⟨k1, hk1'⟩ : ∃ k1, k1 = k + 1 := ⟨_, rfl⟩
      have i0 : IntKind.i64.wrap (k1 : Int) = (k1 : Int) := IntWalk.i64_in _ ⟨by omega, by omega⟩
      have i00 : (k : Int) + 1 = (k1 : Int) := by omega
      have i1 : (0 : Int) ≤ (k1 : Int) := by omega
      have i2 : min k1 64 = k1 := by omega
      obtain ⟨q, hq⟩ : ∃ q, q = p / 2 ^ k1 := ⟨_, rfl⟩
      have i3 : (p : Int) / 2 ^ k1 = (q : Int) := by rw [hq, Int.natCast_ediv]; simp
      have hqp : q ≤ p := by rw [hq]; exact Nat.div_le_self _ _
      have i4 : IntKind.i64.wrap (gone p k : Int) = (gone p k : Int) := IntWalk.i64_in _ ⟨by omega, by omega⟩
      have i5 : 2 * (q : Int) = (gone p k : Int) := by
        unfold gone
        rw [← hk1', ← hq]
        rfl
      have HK := Lib.hid (show _ ∧ _ from ⟨hk1', hq⟩)
      clear hc hgd hgn hnk r hk1' hq
      go_wp2_with fail
      go_region_law (refine step_call rfl 82 Tryd.f82 Tryd.func82 (by kernel_rfl) (by kernel_rfl) _ _ rfl #[.pointer (some ⟨R, o + k * 3, none⟩), .int .i64 (gone p k)] (by first | (simp [Act.eval]; done) | (simp [Act.eval, Act.put]; done)) (by exact HC.out) ?_
                     rintro en w4 ⟨rfl, h4, t4⟩
                     refine ⟨_, rfl, ?_⟩)
      have N : Hid ((∃ sv idle, Raw (fun x => F x ∨ w.heap.size ≤ x) w4 b n p (tops n) (mid p fl (k + 1)) (fun j => n / 2 ^ j) f (.slice (some ⟨R, o, none⟩) (tops n) c0) sv idle) ∧ Turn F w w4) := Lib.hid ⟨by
        obtain ⟨sv, idle, r⟩ := h4
        rw [mid_next] at r
        exact ⟨sv, idle, r.more (fun j _ h => by
          rcases h with h | h
          · exact h
          · have := HS.out.2.size; exact .inr (Nat.le_trans this h))⟩, HS.out.2.drew.trans t4 (fun j h1 h2 => by
          rcases h2 with h2 | h2
          · exact h2
          · omega)⟩
      clear h4 t4 HC HS f2 i00 i0 i1 i2 i3 i4 i5
      go_wp2_with fail
      refine ⟨⟨k + 1, by rw [Int.natCast_add]; rfl, by omega, N⟩, ?_⟩
      show tops n - ((k : Int) + 1).toNat < tops n - ((k : Int)).toNat
      omega
    · obtain rfl : k = tops n := by omega
      go_wp2_with fail
      go_ret
      obtain ⟨⟨sv, idle, r⟩, t⟩ := HS.out
      exact ⟨rfl, ⟨⟨_, sv, idle, r.gcongr (fun i hi => by unfold mid; rw [if_pos hi])⟩, HT.out.rt.turn t HT.out.hF, fun k hk => by
        rcases hk with hk | hk
        · exact HT.out.hF k hk
        · have := HT.out.rt.size; omega, HT.out.len, HT.out.small, hn⟩, t⟩

set_option maxRecDepth 100000 in
set_option maxHeartbeats 1000000 in
theorem Tr.forget_arg (hT : Tr B F w b n fl f) (x : Int) (hx : x < 0 ∨ x > n) (hx6 : -9223372036854775808 ≤ x ∧ x ≤ 9223372036854775807) :
    Calls Tryd.prog 70 #[.pointer (some ⟨b, 0, none⟩), .int .i64 x] w fun en w' => en = .returned (.int .i64 4) ∧ w = w' := by
  obtain ⟨rv, hh⟩ := hT.head
  have e0 := hh.cell 0
  have e1 := hh.cell 1
  simp at e0 e1
  have hx1 := hx6.1
  have hx2 := hx6.2
  clear hT hh hx6
  by_cases h1 : x < 0
  · clear hx
    go_enter Tryd.func70, Tryd.ntmps70
    go_wp2_with fail
    go_ret
    exact ⟨rfl, rfl⟩
  · have h2 : x > (n : Int) := by omega
    clear hx
    go_enter Tryd.func70, Tryd.ntmps70
    go_wp2_with fail
    go_ret
    exact ⟨rfl, rfl⟩

set_option maxRecDepth 100000 in
set_option maxHeartbeats 1000000 in
theorem Tr.forget_low (hT : Tr B F w b n fl f) (p : Nat) (hp : p < fl) :
    Calls Tryd.prog 70 #[.pointer (some ⟨b, 0, none⟩), .int .i64 p] w fun en w' => en = .returned (.int .i64 14) ∧ w = w' := by
  obtain ⟨rv, hh⟩ := hT.head
  have e0 := hh.cell 0
  have e1 := hh.cell 1
  simp at e0 e1
  have hfl := hT.floor
  have h1 : ¬ (p : Int) < 0 := by omega
  have h2 : ¬ (p : Int) > (n : Int) := by omega
  have h3 : (p : Int) < (fl : Int) := by omega
  clear hT hh
  go_enter Tryd.func70, Tryd.ntmps70
  go_wp2_with fail
  go_ret
  exact ⟨rfl, rfl⟩
end
end Go.Proofs.YthbncejbcegmgaaDoor.dig
end

