/- Texts laid into one: Hold, Late, TreeH, TreeS, TreeU, TreeI, Leaf. -/
import Derived.Test.YtdlkdgajoafkaaaGreatDoorY004
import Derived.Test.YtdlkdgajoafkaaaGreatDoorY001
section
/- A region that draws its order, where reads and calls that leave the world come ahead of stores: each of them may be taken first. Of no program. -/
namespace Go.Proofs.YtdlkdgajoafkaaaGreatDoor
open Go.RowKit

section
variable {P : Program} {ops : Array Oper} {Q : Exit → Act → World → Prop} {md : Region.Mode} {C : World → Prop} {Wr : List Nat}

/-- What an operation comes to: v, and the world stays. -/
def ComesQ (P : Program) (v : Value) (w : World) : Result Next → Prop
  | .ok (.value u) w' => u = v ∧ w' = w
  | .ok (.enter f args) w' => w' = w ∧ Calls P f args w fun en w'' => en = .returned v ∧ w'' = w
  | _ => False

/-- In state a operation o makes v in every world that meets C, and leaves the world. -/
def Quiet (P : Program) (ops : Array Oper) (C : World → Prop) (o : Oper) (v : Value) (a : Act) : Prop :=
  (Region.wanted o (yielded ops a.tmps) = true ∧ ∀ w, C w → ComesQ P v w ((execOp a.eval o).run P w)) ∨
  (Region.wanted o (yielded ops a.tmps) = false ∧ v = undef)

theorem Quiet.of_same {o : Oper} {v : Value} {a a' : Act} (hy : Quiet P ops C o v a) (he : execOp a'.eval o = execOp a.eval o)
    (hw : Region.wanted o (yielded ops a'.tmps) = Region.wanted o (yielded ops a.tmps)) : Quiet P ops C o v a' := by
  unfold Quiet at *
  rw [he, hw]
  exact hy

theorem Quiet.wpOp {i : Nat} {o : Oper} {v : Value} {a : Act} (hi : ops[i]? = some o) (hy : Quiet P ops C o v a)
    {K : Act → World → Prop} {w : World} (hC : C w) (h : K (a.put o.dst v) w) : wpOp P ops Q i K a w := by
  unfold Go.wpOp
  simp only [hi]
  rcases hy with ⟨hw, hv⟩ | ⟨hw, rfl⟩
  · simp only [hw, if_true, Oper.wp]
    refine .inl ?_
    have := hv w hC
    generalize (execOp a.eval o).run P w = r at this
    cases r with
    | ok n w' =>
      cases n with
      | value u => obtain ⟨rfl, rfl⟩ := this; exact h
      | enter f args =>
        obtain ⟨rfl, hc⟩ := this
        exact Calls.mono hc fun en w'' he => by obtain ⟨rfl, rfl⟩ := he; exact h
      | _ => exact this.elim
    | halt x w' => exact this.elim
  · simp only [hw, Bool.false_eq_true, if_false]; exact h

theorem wpOp_putQ {j : Nat} {oi oj : Oper} {v : Value} (hj : ops[j]? = some oj) (hap : oi.apart ops oj = true)
    (hsi : ∀ cs b, oi.op ≠ .select cs b) (hsj : ∀ cs b, oj.op ≠ .select cs b)
    (hQ : ∀ c a w, Q (.panic c) (a.put oi.dst v) w → Q (.panic c) a w) {K : Act → World → Prop} {a : Act} {w : World}
    (hy : Quiet P ops C oi v a) (h : wpOp P ops Q j K (a.put oi.dst v) w) :
    wpOp P ops Q j (fun a' w' => Quiet P ops C oi v a' ∧ K (a'.put oi.dst v) w') a w := by
  obtain ⟨h1, h2, h3⟩ := Oper.apart_spec hap
  have keep : ∀ (a : Act), Quiet P ops C oi v a → ∀ u, Quiet P ops C oi v (a.put oj.dst u) := fun a hy u =>
    hy.of_same (execOp_put oi hsi a oj.dst u h3) (wanted_put oi a oj.dst u h3)
  have keepD : ∀ d, Quiet P ops C oi v { a with defers := d :: a.defers } := fun d => hy.of_same rfl rfl
  unfold wpOp at *
  simp only [hj] at *
  rw [wanted_put oj a oi.dst v h1] at h
  split
  · rename_i hw
    simp only [hw, if_true] at h
    rcases h with h | ⟨hasks, hlets⟩
    case inr => exact .inr ⟨by unfold Oper.asks at *; rw [execOp_put oj hsj a oi.dst v h1] at hasks; exact hasks, hlets⟩
    refine .inl ?_
    unfold Oper.wp at *
    rw [execOp_put oj hsj a oi.dst v h1] at h
    generalize (execOp a.eval oj).run P w = r at *
    cases r with
    | ok n w' =>
      cases n <;> simp only [Oper.upon] at h ⊢
      case value u => exact ⟨keep a hy u, by rw [← Act.put_comm a v u h2]; exact h⟩
      case skip => exact ⟨keep a hy _, by rw [← Act.put_comm a v undef h2]; exact h⟩
      case defer d =>
        refine ⟨keep _ (keepD d) _, ?_⟩
        rw [← Act.put_comm _ v undef h2, ← Act.put_defers]
        exact h
      case enter f args =>
        refine Calls.mono h fun e w'' he => ?_
        cases e with
        | returned u => exact ⟨keep a hy u, by rw [← Act.put_comm a v u h2]; exact he⟩
        | panicked c => exact hQ _ _ _ he
        | outgrown => exact he
      case row row args => exact Rows.mono h fun u w'' he => ⟨keep a hy u, by rw [← Act.put_comm a v u h2]; exact he⟩
    | halt x w' =>
      cases x <;> simp only [Oper.upon] at h ⊢
      case panic u => exact hQ _ _ _ h
  · rename_i hw
    simp only [hw] at h
    exact ⟨keep a hy _, by rw [← Act.put_comm a v undef h2]; exact h⟩

/-- None of the stores has come up. -/
def noneL (Wr : List Nat) (listed : Array Bool) : Bool := Wr.all fun k => !listed.getD k true

theorem noneL_set {j : Nat} {listed : Array Bool} (h : noneL Wr listed = true) (hj : j ∉ Wr) : noneL Wr (listed.setIfInBounds j true) = true := by
  unfold noneL at *
  rw [List.all_eq_true] at *
  intro k hk
  have hjk : j ≠ k := fun e => hj (e ▸ hk)
  rw [getD_set_ne true hjk]
  exact h k hk

/-- Whatever order is picked from here on; as long as no store has come up C holds. -/
def wpAnyD (P : Program) (md : Region.Mode) (ops : Array Oper) (Q : Exit → Act → World → Prop) (C : World → Prop) (Wr : List Nat) : Nat → Array Bool → Act → World → Prop
  | 0, listed, a, w => Region.ready md ops listed = [] ∧ Q .normal a w
  | fuel + 1, listed, a, w =>
    (Region.ready md ops listed = [] → Q .normal a w) ∧
    ∀ i ∈ Region.ready md ops listed, wpOp P ops Q i (fun a' w' => (noneL Wr (listed.setIfInBounds i true) = true → C w') ∧ wpAnyD P md ops Q C Wr fuel (listed.setIfInBounds i true) a' w') a w

theorem wpAny_of_D : ∀ (fuel : Nat) (listed : Array Bool) (a : Act) (w : World), wpAnyD P md ops Q C Wr fuel listed a w → wpAny P md ops Q fuel listed a w
  | 0, _, _, _, h => h
  | fuel + 1, _, _, _, h => ⟨h.1, fun i hi => wpOp_mono (fun a' w' h' => wpAny_of_D fuel _ a' w' h'.2) (h.2 i hi)⟩

/-- What came up came up behind all that it waits for. -/
def Closed (md : Region.Mode) (ops : Array Oper) (listed : Array Bool) : Prop :=
  ∀ c oc, ops[c]? = some oc → listed.getD c true = true → ∀ e ∈ oc.after, Region.binds md e = true → listed.getD e.on true = true
def closedB (md : Region.Mode) (ops : Array Oper) (listed : Array Bool) : Bool :=
  (List.range ops.size).all fun c => !listed.getD c true || ((ops[c]?.map fun o => o.after.all fun e => !Region.binds md e || listed.getD e.on true).getD true)
theorem closed_spec {listed : Array Bool} (h : closedB md ops listed = true) : Closed md ops listed := by
  intro c oc hc hl e he hb
  unfold closedB at h
  rw [List.all_eq_true] at h
  have hcl : c < ops.size := (Array.getElem?_eq_some_iff.1 hc).1
  have h1 := h c (List.mem_range.2 hcl)
  rw [hl, hc] at h1
  simp only [Bool.not_true, Bool.false_or, Option.map_some, Option.getD_some, Array.all_eq_true] at h1
  obtain ⟨q, hq, rfl⟩ := Array.mem_iff_getElem.1 he
  have h2 := h1 q hq
  rw [hb] at h2
  simpa using h2
theorem ready_listed {j : Nat} {listed : Array Bool} (hj : j ∈ Region.ready md ops listed) : ∃ oj, ops[j]? = some oj ∧ ∀ e ∈ oj.after, Region.binds md e = true → listed.getD e.on true = true := by
  obtain ⟨_, oj, hoj, hall⟩ := mem_ready.1 hj
  refine ⟨oj, hoj, fun e he hb => ?_⟩
  have := hall e he hb
  rcases Nat.lt_or_ge e.on listed.size with h | h
  · simp [h] at this ⊢; exact this
  · simp [Array.getElem?_eq_none h]
theorem closed_set {j : Nat} {listed : Array Bool} (h : Closed md ops listed) (hj : j ∈ Region.ready md ops listed) : Closed md ops (listed.setIfInBounds j true) := by
  have mono : ∀ k, listed.getD k true = true → (listed.setIfInBounds j true).getD k true = true := fun k hk => by
    by_cases e : j = k
    · subst e
      rcases Nat.lt_or_ge j listed.size with h | h
      · simp [h]
      · simp
    · rw [getD_set_ne true e]; exact hk
  intro c oc hc hl e he hb
  by_cases ec : j = c
  · subst ec
    obtain ⟨oj, hoj, hall⟩ := ready_listed hj
    obtain rfl : oj = oc := by rw [hoj] at hc; injection hc
    exact mono _ (hall e he hb)
  · rw [getD_set_ne true ec] at hl
    exact mono _ (h c oc hc hl e he hb)

/-- Operation k waits for i. -/
def waits (md : Region.Mode) (ops : Array Oper) (k i : Nat) : Bool := (ops[k]?.map fun o => o.after.any fun e => Region.binds md e && e.on == i).getD false
theorem waits_spec {k i : Nat} (h : waits md ops k i = true) : ∃ o, ops[k]? = some o ∧ ∃ e ∈ o.after, Region.binds md e = true ∧ e.on = i := by
  unfold waits at h
  cases ho : ops[k]? with
  | none => rw [ho] at h; simp at h
  | some o =>
    rw [ho] at h
    simp only [Option.map_some, Option.getD_some, Array.any_eq_true, Bool.and_eq_true] at h
    obtain ⟨q, hq, hb, he⟩ := h
    exact ⟨o, rfl, _, Array.getElem_mem hq, hb, by simpa using he⟩

/-- Number i has to come ahead of each store, by one step or by two. -/
def ahead (md : Region.Mode) (ops : Array Oper) (Wr : List Nat) (i : Nat) : Bool :=
  Wr.all fun k => k != i && (waits md ops k i || (List.range ops.size).any fun c => waits md ops k c && waits md ops c i)
theorem ahead_not {i j : Nat} {listed : Array Bool} (hah : ahead md ops Wr i = true) (hc : Closed md ops listed) (hi : listed.getD i true = false) (hj : j ∈ Region.ready md ops listed) : j ∉ Wr := fun h => by
  unfold ahead at hah
  rw [List.all_eq_true] at hah
  have h2 := hah j h
  simp only [Bool.and_eq_true, Bool.or_eq_true, List.any_eq_true] at h2
  obtain ⟨oj, hoj, hall⟩ := ready_listed hj
  rcases h2.2 with h3 | ⟨c, _, h3, h4⟩
  · obtain ⟨o, ho, e, he, hb, rfl⟩ := waits_spec h3
    obtain rfl : oj = o := by rw [hoj] at ho; injection ho
    rw [hall e he hb] at hi
    cases hi
  · obtain ⟨o, ho, e, he, hb, rfl⟩ := waits_spec h3
    obtain rfl : oj = o := by rw [hoj] at ho; injection ho
    obtain ⟨o2, ho2, e2, he2, hb2, rfl⟩ := waits_spec h4
    rw [hc _ _ ho2 (hall e he hb) e2 he2 hb2] at hi
    cases hi

theorem wpAnyD_first {i : Nat} {oi : Oper} {v : Value} (hi : ops[i]? = some oi) (hsel : ∀ (j : Nat) (o : Oper) cs b, ops[j]? = some o → o.op ≠ .select cs b)
    (hQ : ∀ c a w, Q (.panic c) (a.put oi.dst v) w → Q (.panic c) a w) (hah : ahead md ops Wr i = true) :
    ∀ (fuel : Nat) (listed : Array Bool) (a : Act) (w : World),
      (∀ j oj, ops[j]? = some oj → j ≠ i → listed.getD j true = false → (∀ e ∈ oj.after, Region.binds md e = true → e.on ≠ i) → oi.apart ops oj = true) →
      i ∈ Region.ready md ops listed → Closed md ops listed → noneL Wr listed = true → Quiet P ops C oi v a → C w →
      wpAnyD P md ops Q C Wr fuel (listed.setIfInBounds i true) (a.put oi.dst v) w → wpAnyD P md ops Q C Wr (fuel + 1) listed a w := by
  have hiW : i ∉ Wr := fun h => by
    unfold ahead at hah
    rw [List.all_eq_true] at hah
    have := hah i h
    simp at this
  intro fuel
  induction fuel with
  | zero =>
    intro listed a w _ hr hcl hn hy hC H
    refine ⟨fun h => (by rw [h] at hr; cases hr), fun j hj => ?_⟩
    by_cases hji : j = i
    · subst hji; exact hy.wpOp hi hC ⟨fun _ => hC, H⟩
    · have := ready_mono hj hji
      rw [H.1] at this
      cases this
  | succ fuel ih =>
    intro listed a w hfree hr hcl hn hy hC H
    refine ⟨fun h => (by rw [h] at hr; cases hr), fun j hj => ?_⟩
    by_cases hji : j = i
    · subst hji; exact hy.wpOp hi hC ⟨fun _ => hC, H⟩
    · have h1 := H.2 j (ready_mono hj hji)
      obtain ⟨hjun, oj, hoj, hall⟩ := mem_ready.1 hj
      have hnot : ∀ e ∈ oj.after, Region.binds md e = true → e.on ≠ i := fun e he hb heq => by
        have h1 := hall e he hb
        have h0 := (mem_ready.1 hr).1
        rw [heq] at h1
        rcases Nat.lt_or_ge i listed.size with h' | h'
        · simp [h'] at h0 h1; rw [h0] at h1; cases h1
        · simp [Array.getElem?_eq_none h'] at h1
      have hjW : j ∉ Wr := ahead_not hah hcl (mem_ready.1 hr).1 hj
      have hn2 : noneL Wr (listed.setIfInBounds j true) = true := noneL_set hn hjW
      have hn3 : noneL Wr ((listed.setIfInBounds i true).setIfInBounds j true) = true := noneL_set (noneL_set hn hiW) hjW
      have h2 := wpOp_putQ hoj (hfree j oj hoj hji hjun hnot) (fun cs b => hsel i oi cs b hi) (fun cs b => hsel j oj cs b hoj) hQ hy h1
      have hfree' : ∀ k ok, ops[k]? = some ok → k ≠ i → (listed.setIfInBounds j true).getD k true = false →
          (∀ e ∈ ok.after, Region.binds md e = true → e.on ≠ i) → oi.apart ops ok = true := fun k ok hk hki hun hno => by
        refine hfree k ok hk hki ?_ hno
        by_cases hjk : j = k
        · subst hjk; exact hjun
        · rw [getD_set_ne true hjk] at hun; exact hun
      refine wpOp_mono (fun a' w' h3 => ⟨fun _ => h3.2.1 hn3, ih (listed.setIfInBounds j true) a' w' hfree' (ready_mono hr (Ne.symm hji)) (closed_set hcl hj) hn2 h3.1 (h3.2.1 hn3) ?_⟩) h2
      rw [Array.setIfInBounds_comm _ _ hji]
      exact h3.2.2

/-- Take number i: a value. -/
theorem quiet_take (i : Nat) (d : Option Tmp) {oi : Oper} {v : Value} {fuel : Nat} {listed : Array Bool} {a : Act} {w : World} (hi : ops[i]? = some oi) (hd : oi.dst = d)
    (hs : Region.noSelect ops = true) (hf : Region.free md ops listed i = true) (hr : (Region.ready md ops listed).contains i = true)
    (hQ : ∀ c a w, Q (.panic c) (a.put d v) w → Q (.panic c) a w) (hah : (ahead md ops Wr i && closedB md ops listed) = true) (hn : noneL Wr listed = true) (hw : Region.wanted oi (yielded ops a.tmps) = true)
    (hy : ∀ w, C w → (execOp a.eval oi).run P w = .ok (.value v) w) (hC : C w)
    (h : wpAnyD P md ops Q C Wr fuel (listed.setIfInBounds i true) (a.put d v) w) : wpAnyD P md ops Q C Wr (fuel + 1) listed a w := by
  subst hd
  exact wpAnyD_first hi (Region.noSelect_spec hs) hQ (by rw [Bool.and_eq_true] at hah; exact hah.1) fuel listed a w (Region.free_spec hi hf) (by simpa using hr) (by rw [Bool.and_eq_true] at hah; exact closed_spec hah.2) hn (.inl ⟨hw, fun w hC => by rw [hy w hC]; exact ⟨rfl, rfl⟩⟩) hC h

/-- Take number i: a call that leaves the world. -/
theorem quiet_call (i : Nat) (d : Option Tmp) {oi : Oper} (v : Value) {fuel : Nat} {listed : Array Bool} {a : Act} {w : World} (hi : ops[i]? = some oi) (hd : oi.dst = d)
    (hs : Region.noSelect ops = true) (hf : Region.free md ops listed i = true) (hr : (Region.ready md ops listed).contains i = true)
    (hQ : ∀ c a w, Q (.panic c) (a.put d v) w → Q (.panic c) a w) (hah : (ahead md ops Wr i && closedB md ops listed) = true) (hn : noneL Wr listed = true) (hw : Region.wanted oi (yielded ops a.tmps) = true)
    (f : FuncId) (fn : Func) (hfn : P.funcs[f]? = some fn) (hname : (fn.name == "runtime.NumGoroutine") = false) (hb : fn.body.isNone = false) (xs : Array Operand) (ts : Array TypeId)
    (ho : oi.op = .call { callee := .value (.func f), args := xs, argTypes := ts }) (vs : Array Value) (hv : xs.map a.eval = vs)
    (hc : ∀ w, C w → Calls P f vs w fun en w' => en = .returned v ∧ w = w') (hC : C w)
    (h : wpAnyD P md ops Q C Wr fuel (listed.setIfInBounds i true) (a.put d v) w) : wpAnyD P md ops Q C Wr (fuel + 1) listed a w := by
  subst hd
  exact wpAnyD_first hi (Region.noSelect_spec hs) hQ (by rw [Bool.and_eq_true] at hah; exact hah.1) fuel listed a w (Region.free_spec hi hf) (by simpa using hr) (by rw [Bool.and_eq_true] at hah; exact closed_spec hah.2) hn (.inl ⟨hw, fun w hC => by
    have hfv : a.eval (.func f) = .func (.func f) #[] #[] := rfl
    have he : (execOp a.eval oi).run P w = .ok (.enter f vs) w := by
      simp only [execOp, ho]
      have h1 : fn.name ≠ "runtime.NumGoroutine" := by simpa using hname
      simp [resolve, hv, hfv, Deferred.ofValue, invoke, callFunc, hfn, h1]
      intro hn
      simp [hn] at hb
    rw [he]
    exact ⟨rfl, (hc w hC).mono fun _ _ h => ⟨h.1, h.2.symm⟩⟩⟩) hC h

/-- Just one may come up. -/
theorem quiet_one {i : Nat} {fuel : Nat} {listed : Array Bool} {a : Act} {w : World} (hr : Region.ready md ops listed = [i])
    (h : wpOp P ops Q i (fun a' w' => (noneL Wr (listed.setIfInBounds i true) = true → C w') ∧ wpAnyD P md ops Q C Wr fuel (listed.setIfInBounds i true) a' w') a w) : wpAnyD P md ops Q C Wr (fuel + 1) listed a w :=
  ⟨fun h0 => (by rw [hr] at h0; cases h0), fun j hj => by rw [hr] at hj; obtain rfl := List.mem_singleton.1 hj; exact h⟩

theorem quiet_done {listed : Array Bool} {a : Act} {w : World} (hr : Region.ready md ops listed = []) (h : Q .normal a w) :
    ∀ fuel, wpAnyD P md ops Q C Wr fuel listed a w
  | 0 => ⟨hr, h⟩
  | _ + 1 => ⟨fun _ => h, by rw [hr]; simp⟩

theorem wp_region_quiet {id : Nat} {a : Act} {w : World} (C : World → Prop) (Wr : List Nat) (hm : P.follows .mixedOrders = true)
    (h : wpAnyD P .any ops Q C Wr ops.size (Array.replicate ops.size false) a w.drew) : (Code.region id ops true).wp P Q a w :=
  wp_region_any hm (wpAny_of_D _ _ _ _ h)

/-- An operation that only turns the world (a store). -/
theorem wpOp_skip {i : Nat} {o : Oper} {K : Act → World → Prop} {a : Act} {w w' : World} (hi : ops[i]? = some o) (hd : o.dst = none) (hw : Region.wanted o (yielded ops a.tmps) = true)
    (hr : (execOp a.eval o).run P w = .ok .skip w') (h : K a w') : wpOp P ops Q i K a w := by
  unfold Go.wpOp
  simp only [hi, hw, if_true, Oper.wp, hr, Oper.upon, hd]
  exact .inl h

end
end Go.Proofs.YtdlkdgajoafkaaaGreatDoor
end

section
/- A region that draws its order: values and calls that keep S, each of which comes ahead of what turns the world (a slice that is made, an append): they are walked once, in one order; then the rest, as it comes. Of no program. -/
namespace Go.Proofs.YtdlkdgajoafkaaaGreatDoor
open Go.RowKit

section
variable {P : Program} {ops : Array Oper} {Q : Exit → Act → World → Prop} {md : Region.Mode} {S : World → Prop} {Wr : List Nat}

/-- A value that hangs on no world may be taken first. -/
theorem any_take (i : Nat) (d : Option Tmp) {oi : Oper} {v : Value} {fuel : Nat} {listed : Array Bool} {a : Act} {w : World} (hi : ops[i]? = some oi) (hd : oi.dst = d)
    (hs : Region.noSelect ops = true) (hf : Region.free md ops listed i = true) (hr : (Region.ready md ops listed).contains i = true)
    (hQ : ∀ c a w, Q (.panic c) (a.put d v) w → Q (.panic c) a w) (hw : Region.wanted oi (yielded ops a.tmps) = true) (hy : ∀ w, (execOp a.eval oi).run P w = .ok (.value v) w)
    (h : wpAny P md ops Q fuel (listed.setIfInBounds i true) (a.put d v) w) : wpAny P md ops Q (fuel + 1) listed a w := by
  subst hd
  exact wpAny_take hi hs hf hr hQ (.inl ⟨hw, hy⟩) h
/-- Just one may come up. -/
theorem any_one {i : Nat} {fuel : Nat} {listed : Array Bool} {a : Act} {w : World} (hr : Region.ready md ops listed = [i])
    (h : wpOp P ops Q i (wpAny P md ops Q fuel (listed.setIfInBounds i true)) a w) : wpAny P md ops Q (fuel + 1) listed a w :=
  wpAny_all hr (by simp) (fun j hj => by obtain rfl := List.mem_singleton.1 hj; exact h)

/-- k waits for i, by however many steps. -/
def reach (md : Region.Mode) (ops : Array Oper) : Nat → Nat → Nat → Bool
  | 0, _, _ => false
  | n + 1, k, i => waits md ops k i || (List.range ops.size).any fun c => waits md ops k c && reach md ops n c i
theorem reach_spec {listed : Array Bool} (hc : Closed md ops listed) {i : Nat} : ∀ (n k : Nat), (∀ ok, ops[k]? = some ok → ∀ e ∈ ok.after, Region.binds md e = true → listed.getD e.on true = true) → reach md ops n k i = true → listed.getD i true = true
  | 0, _, _, h => by cases h
  | n + 1, k, hk, h => by
    unfold reach at h
    rw [Bool.or_eq_true, List.any_eq_true] at h
    rcases h with h | ⟨c, _, h⟩
    · obtain ⟨o, ho, e, he, hb, rfl⟩ := waits_spec h
      exact hk o ho e he hb
    · rw [Bool.and_eq_true] at h
      obtain ⟨o, ho, e, he, hb, rfl⟩ := waits_spec h.1
      refine reach_spec hc n e.on (fun oc hoc e2 he2 hb2 => ?_) h.2
      exact hc _ oc hoc (hk o ho e he hb) e2 he2 hb2
/-- Number i has to come ahead of all of Wr. -/
def before (md : Region.Mode) (ops : Array Oper) (Wr : List Nat) (i : Nat) : Bool := Wr.all fun k => k != i && reach md ops ops.size k i
theorem before_not {i j : Nat} {listed : Array Bool} (hah : before md ops Wr i = true) (hc : Closed md ops listed) (hi : listed.getD i true = false) (hj : j ∈ Region.ready md ops listed) : j ∉ Wr := fun h => by
  unfold before at hah
  rw [List.all_eq_true] at hah
  have h2 := hah j h
  simp only [Bool.and_eq_true] at h2
  obtain ⟨oj, hoj, hall⟩ := ready_listed hj
  have := reach_spec hc ops.size j (fun ok hok e he hb => by obtain rfl : oj = ok := by rw [hoj] at hok; injection hok
                                                             exact hall e he hb) h2.2
  rw [this] at hi
  cases hi

/-- Whatever order is picked from here on, in whatever world that meets S; S holds till one of Wr comes up. -/
def AnyL (P : Program) (md : Region.Mode) (ops : Array Oper) (Q : Exit → Act → World → Prop) (S : World → Prop) (Wr : List Nat) : Nat → Array Bool → Act → Prop
  | 0, listed, a => Region.ready md ops listed = [] ∧ ∀ w, S w → Q .normal a w
  | fuel + 1, listed, a =>
    (Region.ready md ops listed = [] → ∀ w, S w → Q .normal a w) ∧
    ∀ i ∈ Region.ready md ops listed, ∀ w, S w →
      (i ∈ Wr → wpOp P ops Q i (wpAny P md ops Q fuel (listed.setIfInBounds i true)) a w) ∧
      (i ∉ Wr → wpOp P ops Q i (fun a' w' => S w' ∧ AnyL P md ops Q S Wr fuel (listed.setIfInBounds i true) a') a w)

theorem AnyL.any : ∀ (fuel : Nat) (listed : Array Bool) (a : Act) (w : World), S w → AnyL P md ops Q S Wr fuel listed a → wpAny P md ops Q fuel listed a w
  | 0, _, _, w, hs, h => ⟨h.1, h.2 w hs⟩
  | fuel + 1, _, _, w, hs, h => ⟨fun h0 => h.1 h0 w hs, fun i hi => by
      by_cases hw : i ∈ Wr
      · exact (h.2 i hi w hs).1 hw
      · exact wpOp_mono (fun a' w' h' => AnyL.any fuel _ a' w' h'.1 h'.2) ((h.2 i hi w hs).2 hw)⟩

theorem AnyL.first {i : Nat} {oi : Oper} {v : Value} (hi : ops[i]? = some oi) (hsel : ∀ (j : Nat) (o : Oper) cs b, ops[j]? = some o → o.op ≠ .select cs b)
    (hQ : ∀ c a w, Q (.panic c) (a.put oi.dst v) w → Q (.panic c) a w) (hah : before md ops Wr i = true) (hiW : i ∉ Wr) :
    ∀ (fuel : Nat) (listed : Array Bool) (a : Act),
      (∀ j oj, ops[j]? = some oj → j ≠ i → listed.getD j true = false → (∀ e ∈ oj.after, Region.binds md e = true → e.on ≠ i) → oi.apart ops oj = true) →
      i ∈ Region.ready md ops listed → Closed md ops listed → Makes P ops S oi v a →
      AnyL P md ops Q S Wr fuel (listed.setIfInBounds i true) (a.put oi.dst v) → AnyL P md ops Q S Wr (fuel + 1) listed a := by
  intro fuel
  induction fuel with
  | zero =>
    intro listed a _ hr hcl hy H
    refine ⟨fun h => (by rw [h] at hr; cases hr), fun j hj w hS => ?_⟩
    have hjW : j ∉ Wr := before_not hah hcl (mem_ready.1 hr).1 hj
    refine ⟨fun h => absurd h hjW, fun _ => ?_⟩
    by_cases hji : j = i
    · subst hji; exact hy.wpOp hi hS (fun w' hS' => ⟨hS', H⟩)
    · have := ready_mono hj hji
      rw [H.1] at this
      cases this
  | succ fuel ih =>
    intro listed a hfree hr hcl hy H
    refine ⟨fun h => (by rw [h] at hr; cases hr), fun j hj w hS => ?_⟩
    have hjW : j ∉ Wr := before_not hah hcl (mem_ready.1 hr).1 hj
    refine ⟨fun h => absurd h hjW, fun _ => ?_⟩
    by_cases hji : j = i
    · subst hji; exact hy.wpOp hi hS (fun w' hS' => ⟨hS', H⟩)
    · have h1 := (H.2 j (ready_mono hj hji) w hS).2 hjW
      obtain ⟨hjun, oj, hoj, hall⟩ := mem_ready.1 hj
      have hnot : ∀ e ∈ oj.after, Region.binds md e = true → e.on ≠ i := fun e he hb heq => by
        have h1 := hall e he hb
        have h0 := (mem_ready.1 hr).1
        rw [heq] at h1
        rcases Nat.lt_or_ge i listed.size with h' | h'
        · simp [h'] at h0 h1; rw [h0] at h1; cases h1
        · simp [Array.getElem?_eq_none h'] at h1
      have h2 := wpOp_putM hoj (hfree j oj hoj hji hjun hnot) (fun cs b => hsel i oi cs b hi) (fun cs b => hsel j oj cs b hoj) hQ hy h1
      have hfree' : ∀ k ok, ops[k]? = some ok → k ≠ i → (listed.setIfInBounds j true).getD k true = false →
          (∀ e ∈ ok.after, Region.binds md e = true → e.on ≠ i) → oi.apart ops ok = true := fun k ok hk hki hun hno => by
        refine hfree k ok hk hki ?_ hno
        by_cases hjk : j = k
        · subst hjk; exact hjun
        · rw [getD_set_ne true hjk] at hun; exact hun
      refine wpOp_mono (fun a' w' h3 => ⟨h3.2.1, ih (listed.setIfInBounds j true) a' hfree' (ready_mono hr (Ne.symm hji)) (closed_set hcl hj) h3.1 ?_⟩) h2
      rw [Array.setIfInBounds_comm _ _ hji]
      exact h3.2.2

theorem AnyL.done {listed : Array Bool} {a : Act} (hr : Region.ready md ops listed = []) (h : ∀ w, S w → Q .normal a w) :
    ∀ fuel, AnyL P md ops Q S Wr fuel listed a
  | 0 => ⟨hr, h⟩
  | _ + 1 => ⟨fun _ => h, by rw [hr]; simp⟩
/-- The first of Wr comes up, alone: from here on the world is one. -/
theorem AnyL.late {i : Nat} {fuel : Nat} {listed : Array Bool} {a : Act} (hr : Region.ready md ops listed = [i]) (hw : i ∈ Wr)
    (h : ∀ w, S w → wpOp P ops Q i (wpAny P md ops Q fuel (listed.setIfInBounds i true)) a w) : AnyL P md ops Q S Wr (fuel + 1) listed a :=
  ⟨fun h0 => (by rw [hr] at h0; cases h0), fun j hj w hS => by
    rw [hr] at hj
    obtain rfl := List.mem_singleton.1 hj
    exact ⟨fun _ => h w hS, fun h' => absurd hw h'⟩⟩

/-- Take number i: a value. -/
theorem AnyL.pure (i : Nat) (d : Option Tmp) {oi : Oper} {v : Value} {fuel : Nat} {listed : Array Bool} {a : Act} (hi : ops[i]? = some oi) (hd : oi.dst = d)
    (hs : Region.noSelect ops = true) (hf : Region.free md ops listed i = true) (hr : (Region.ready md ops listed).contains i = true)
    (hQ : ∀ c a w, Q (.panic c) (a.put d v) w → Q (.panic c) a w) (hah : (before md ops Wr i && !Wr.contains i && closedB md ops listed) = true) (hw : Region.wanted oi (yielded ops a.tmps) = true)
    (hy : ∀ w, S w → (execOp a.eval oi).run P w = .ok (.value v) w)
    (h : AnyL P md ops Q S Wr fuel (listed.setIfInBounds i true) (a.put d v)) : AnyL P md ops Q S Wr (fuel + 1) listed a := by
  subst hd
  simp only [Bool.and_eq_true] at hah
  exact AnyL.first hi (Region.noSelect_spec hs) hQ hah.1.1 (by simpa using hah.1.2) fuel listed a (Region.free_spec hi hf) (by simpa using hr) (closed_spec hah.2) (.inl ⟨hw, fun w hS => by rw [hy w hS]; exact ⟨rfl, hS⟩⟩) h
/-- Take number i: a call of a Go function, by its contract. -/
theorem AnyL.call (i : Nat) (d : Option Tmp) {oi : Oper} (v : Value) {fuel : Nat} {listed : Array Bool} {a : Act} (hi : ops[i]? = some oi) (hd : oi.dst = d)
    (hs : Region.noSelect ops = true) (hf : Region.free md ops listed i = true) (hr : (Region.ready md ops listed).contains i = true)
    (hQ : ∀ c a w, Q (.panic c) (a.put d v) w → Q (.panic c) a w) (hah : (before md ops Wr i && !Wr.contains i && closedB md ops listed) = true) (hw : Region.wanted oi (yielded ops a.tmps) = true)
    (f : FuncId) (fn : Func) (hfn : P.funcs[f]? = some fn) (hname : (fn.name == "runtime.NumGoroutine") = false) (hb : fn.body.isNone = false) (xs : Array Operand) (ts : Array TypeId)
    (ho : oi.op = .call { callee := .value (.func f), args := xs, argTypes := ts }) (vs : Array Value) (hv : xs.map a.eval = vs)
    (hc : ∀ w, S w → Calls P f vs w fun en w' => en = .returned v ∧ S w')
    (h : AnyL P md ops Q S Wr fuel (listed.setIfInBounds i true) (a.put d v)) : AnyL P md ops Q S Wr (fuel + 1) listed a := by
  subst hd
  simp only [Bool.and_eq_true] at hah
  exact AnyL.first hi (Region.noSelect_spec hs) hQ hah.1.1 (by simpa using hah.1.2) fuel listed a (Region.free_spec hi hf) (by simpa using hr) (closed_spec hah.2) (.inl ⟨hw, fun w hS => by
    have hfv : a.eval (.func f) = .func (.func f) #[] #[] := rfl
    have he : (execOp a.eval oi).run P w = .ok (.enter f vs) w := by
      simp only [execOp, ho]
      have h1 : fn.name ≠ "runtime.NumGoroutine" := by simpa using hname
      simp [resolve, hv, hfv, Deferred.ofValue, invoke, callFunc, hfn, h1]
      intro hn
      simp [hn] at hb
    rw [he]
    exact hc w hS⟩) h

/-- Number i as it comes, by a law on its operation. -/
theorem wpOp_wp {i : Nat} {o : Oper} {K : Act → World → Prop} {a : Act} {w : World} (hi : ops[i]? = some o) (hw : Region.wanted o (yielded ops a.tmps) = true) (h : Oper.wp P o a w K Q) : wpOp P ops Q i K a w := by
  unfold Go.wpOp
  simp only [hi, hw, if_true]
  exact .inl h

end
end Go.Proofs.YtdlkdgajoafkaaaGreatDoor
end

section
/- tree: add. -/
namespace Go.Proofs.YtdlkdgajoafkaaaGreatDoor.dig
open Go Go.RowKit

theorem rowInfo : ∃ i z, Tryz.prog.info? 100 = some i ∧ i.zero = some z ∧ i.size = 3 ∧ z.cells.size = 3 ∧ i.bytes = 40 := by
  have h2 : (Tryz.prog.info? 100).map (fun i => (i.zero.map (fun z => z.cells.size), i.size, i.bytes)) = some (some 3, 3, 40) := by kernel_rfl
  obtain ⟨i, hi, e⟩ := Option.map_eq_some_iff.1 h2
  simp only [Prod.mk.injEq] at e
  obtain ⟨e1, e2, e3⟩ := e
  obtain ⟨z, hz, e4⟩ := Option.map_eq_some_iff.1 e1
  exact ⟨i, z, hi, hz, e2, e4, e3⟩

/-- How many sums a row has had, while a leaf is added: row j is next. -/
def cnt (n j i : Nat) : Nat := if i < j then (n + 1) / 2 ^ i else n / 2 ^ i

/-- While a leaf is added: row j is next, its sum lies at xb. -/
structure AddS (B : Nat) (F : Nat → Prop) (w : World) (b n fl : Nat) (f : Nat → List UInt8) (xb j : Nat) (wr : World) : Prop where
  raw : ∃ rv sv idle, Raw (fun k => (F k ∧ k < w.heap.size) ∨ (w.heap.size ≤ k ∧ k ≠ xb)) wr b (n + 1) fl (tops n) (gone fl) (cnt n j) f rv sv idle
  div : 2 ^ j ∣ n + 1
  box : Has wr xb 56 (cellsOf (rt f (n + 1 - 2 ^ j) (2 ^ j)))
  new : w.heap.size ≤ xb
  rt : Rt B wr
  turn : Turn F w wr

/-- The same, once row j is there. -/
structure AddM (B : Nat) (F : Nat → Prop) (w : World) (b n fl : Nat) (f : Nat → List UInt8) (xb j K : Nat) (rv : Value) (sv : Nat → Value) (idle : Nat → Nat) (wr : World) : Prop where
  raw : Raw (fun k => (F k ∧ k < w.heap.size) ∨ (w.heap.size ≤ k ∧ k ≠ xb)) wr b (n + 1) fl K (gone fl) (cnt n j) f rv sv idle
  div : 2 ^ j ∣ n + 1
  box : Has wr xb 56 (cellsOf (rt f (n + 1 - 2 ^ j) (2 ^ j)))
  new : w.heap.size ≤ xb
  rt : Rt B wr
  turn : Turn F w wr
  hj : j < K
  hK : K = max (tops n) (j + 1)

/-- The same, once the sum is in its row. -/
structure AddP (B : Nat) (F : Nat → Prop) (w : World) (b n fl : Nat) (f : Nat → List UInt8) (xb j K : Nat) (rv : Value) (sv : Nat → Value) (idle : Nat → Nat) (wr : World) : Prop where
  raw : Raw (fun k => (F k ∧ k < w.heap.size) ∨ (w.heap.size ≤ k ∧ k ≠ xb)) wr b (n + 1) fl K (gone fl) (cnt n (j + 1)) f rv sv idle
  div : 2 ^ j ∣ n + 1
  box : Has wr xb 56 (cellsOf (rt f (n + 1 - 2 ^ j) (2 ^ j)))
  new : w.heap.size ≤ xb
  rt : Rt B wr
  turn : Turn F w wr
  hj : j < K
  hK : K = max (tops n) (j + 1)

theorem turn_own {w W W2 : World} {v : Value} {H : Nat} (b : Below H w W) (hH : w.heap.size ≤ H) (g : W.grownBy W2 v.ownBlock) : Turn (fun k => v.ownBlock = some k) w W2 :=
  ⟨g.os.trans b.os, g.tape.trans b.tape, g.output.trans b.output, Nat.le_trans b.size g.size, fun k hk hne => (g.block k (by have := b.size; omega) (fun e => hne e.symm)).trans (b.block k (by omega))⟩

theorem cnt_next {n j : Nat} (h : 2 ^ j ∣ n + 1) : (fun i => if i = j then cnt n j j + 1 else cnt n j i) = cnt n (j + 1) := by
  funext i
  unfold cnt
  by_cases h1 : i = j
  · subst h1
    rw [if_pos rfl, if_neg (Nat.lt_irrefl _), if_pos (Nat.lt_succ_self _), add_div h]
  · rw [if_neg h1]
    by_cases h2 : i < j
    · rw [if_pos h2, if_pos (by omega)]
    · rw [if_neg h2, if_neg (by omega)]

section
variable {B : Nat} {F : Nat → Prop} {w : World} {b n fl : Nat} {f : Nat → List UInt8} {xb j K : Nat} {wr W : World}

/-- Behind the last row that grows. -/
theorem AddP.last {rv : Value} {sv : Nat → Value} {idle : Nat → Nat} (h : AddP B F w b n fl f xb j K rv sv idle wr) (hT : Tr B F w b n fl f) (hn : n < 1000000) (he : n / 2 ^ j % 2 = 0) : Tr B (fun k => F k ∨ w.heap.size ≤ k) wr b (n + 1) fl f := by
  have hK : K = tops (n + 1) := by
    rw [h.hK]
    rcases Nat.lt_or_ge j (tops n) with h1 | h1
    · rw [tops_same h.div he h1]; omega
    · have h2 := add_tops h.div
      obtain rfl : j = tops n := by omega
      rw [add_top h.div, tops_pow]; omega
  have hc : cnt n (j + 1) = fun i => (n + 1) / 2 ^ i := by
    funext i
    unfold cnt
    by_cases h1 : i < j + 1
    · rw [if_pos h1]
    · rw [if_neg h1, add_rest h.div he (by omega)]
  have r := h.raw
  rw [hK, hc] at r
  refine ⟨⟨rv, sv, idle, r.more (fun k _ hk => hk.imp (·.1) (·.1))⟩, h.rt, fun k hk => ?_, hT.len, by omega, by have := hT.floor; omega⟩
  rcases hk with hk | hk
  · exact hT.hF k hk
  · have := hT.rt.size; omega
theorem fx_ge (hT : Tr B F w b n fl f) {k : Nat} (h : (F k ∧ k < w.heap.size) ∨ (w.heap.size ≤ k ∧ k ≠ xb)) : B ≤ k := by
  rcases h with h | h
  · exact hT.hF k h.1
  · have := hT.rt.size; omega
theorem fx_turn {G : Nat → Prop} (t : Turn F w wr) (TT : Turn G wr W) (hG : ∀ k, G k → (F k ∧ k < w.heap.size) ∨ (w.heap.size ≤ k ∧ k ≠ xb)) : Turn F w W :=
  t.trans TT (fun k hk g => by
    rcases hG k g with h | h
    · exact h.1
    · omega)
theorem fx_rt {G : Nat → Prop} (hT : Tr B F w b n fl f) (t : Rt B wr) (TT : Turn G wr W) (hG : ∀ k, G k → (F k ∧ k < w.heap.size) ∨ (w.heap.size ≤ k ∧ k ≠ xb)) : Rt B W :=
  t.turn TT (fun k g => fx_ge hT (hG k g))
theorem fx_more (h : w.heap.size ≤ wr.heap.size) (hx : xb < wr.heap.size) (k : Nat) (hk : ((F k ∧ k < w.heap.size) ∨ (w.heap.size ≤ k ∧ k ≠ xb)) ∨ wr.heap.size ≤ k) : (F k ∧ k < w.heap.size) ∨ (w.heap.size ≤ k ∧ k ≠ xb) := by
  rcases hk with hk | hk
  · exact hk
  · exact .inr ⟨by omega, by omega⟩

/-- A row was added. -/
theorem AddS.grow {a0 : Option Addr} {c0 R o C : Nat} {sv : Nat → Value} {idle : Nat → Nat} (h : AddS B F w b n fl f xb j wr) (hT : Tr B F w b n fl f) (hj : j = tops n) (hg : gone fl j = 0) (hc : cnt n j j = 0)
    (r : Raw (fun k => (F k ∧ k < w.heap.size) ∨ (w.heap.size ≤ k ∧ k ≠ xb)) wr b (n + 1) fl j (gone fl) (cnt n j) f (.slice a0 j c0) sv idle)
    (T : Turn (fun k => (Value.slice a0 j c0).ownBlock = some k) wr W) (hown : Seg W 100 3 (.slice (some ⟨R, o, none⟩) (j + 1) C) (j + 1) (flat (rowC (gone fl) sv idle) 0 j ++ [.int .i64 0, .slice none 0 0, .int .i64 0]))
    (hat : (Value.slice a0 j c0).ownBlock = some R ∨ wr.heap.size ≤ R) :
    ∃ K sv idle, Hid (AddM B F w b n fl f xb j K (.slice (some ⟨R, o, none⟩) K C) sv idle (W.setCell ⟨b, 2, none⟩ (.slice (some ⟨R, o, none⟩) (j + 1) C))) := by
  have hbx : b ≠ xb := fun e => ne_types.2.1 ((r.tree.uniq (e ▸ h.box)).2)
  have hrx : (Value.slice a0 j c0).ownBlock ≠ some xb := r.rows.ne h.box ne_types.2.2
  have TT : Turn (fun k => k = b ∨ (Value.slice a0 j c0).ownBlock = some k) wr (W.setCell ⟨b, 2, none⟩ (.slice (some ⟨R, o, none⟩) (j + 1) C)) :=
    (T.more (fun _ _ e => .inr e)).put (fun _ => .inl rfl) 2 _
  have hG : ∀ k, (k = b ∨ (Value.slice a0 j c0).ownBlock = some k) → (F k ∧ k < w.heap.size) ∨ (w.heap.size ≤ k ∧ k ≠ xb) := fun k hk => by
    rcases hk with hk | hk
    · rw [hk]; exact r.fb
    · exact r.fr k hk
  exact ⟨j + 1, _, _, Lib.hid ⟨(r.grow T hown hat hg hc).more (fun k _ hk => fx_more h.turn.size h.box.lt k hk), h.div, h.box.turn TT (fun e => by
    rcases e with e | e
    · exact hbx e.symm
    · exact hrx e), h.new, fx_rt hT h.rt TT hG, fx_turn h.turn TT hG, by omega, by omega⟩⟩

/-- A sum was put to its row. -/
theorem AddM.push {R o cap : Nat} {sv : Nat → Value} {idle : Nat → Nat} (h : AddM B F w b n fl f xb j K (.slice (some ⟨R, o, none⟩) K cap) sv idle wr) (hT : Tr B F w b n fl f) (T : Turn (fun k => (sv j).ownBlock = some k) wr W)
    {g' off' cap' : Nat} (hown : Seg W 56 32 (.slice (some ⟨g', off', none⟩) (cnt n j j - gone fl j + 1) cap') (cnt n j j - gone fl j + 1) (flat (nodeC f j) (gone fl j) (cnt n j j - gone fl j) ++ (dig.rt f (n + 1 - 2 ^ j) (2 ^ j)).map byteV))
    (hat : (sv j).ownBlock = some g' ∨ wr.heap.size ≤ g') :
    ∃ sv idle, Hid (AddP B F w b n fl f xb j K (.slice (some ⟨R, o, none⟩) K cap) sv idle (W.setCell ⟨R, o + (j * 3 + 1), none⟩ (.slice (some ⟨g', off', none⟩) (cnt n j j - gone fl j + 1) cap'))) := by
  have hcn : cnt n j j = n / 2 ^ j := by unfold cnt; rw [if_neg (Nat.lt_irrefl _)]
  have hx : nodeC f j (cnt n j j) = (dig.rt f (n + 1 - 2 ^ j) (2 ^ j)).map byteV := by
    unfold nodeC
    rw [hcn, add_place h.div]
    simp [cellsOf]
  have hg : gone fl j ≤ cnt n j j := by rw [hcn]; exact gone_le j hT.floor
  have hR : (Value.slice (some ⟨R, o, none⟩) K cap).ownBlock = some R := rfl
  have hRx : R ≠ xb := fun e => h.raw.rows.ne h.box ne_types.2.2 (by rw [hR, e])
  have hsx : (sv j).ownBlock ≠ some xb := fun e => by
    have := h.raw.fs j h.hj xb e
    rcases this with h1 | h1
    · have := h.new; omega
    · exact h1.2 rfl
  have TT : Turn (fun k => k = R ∨ (sv j).ownBlock = some k) wr (W.setCell ⟨R, o + (j * 3 + 1), none⟩ (.slice (some ⟨g', off', none⟩) (cnt n j j - gone fl j + 1) cap')) :=
    (T.more (fun _ _ e => .inr e)).put (fun _ => .inl rfl) _ _
  have hG : ∀ k, (k = R ∨ (sv j).ownBlock = some k) → (F k ∧ k < w.heap.size) ∨ (w.heap.size ≤ k ∧ k ≠ xb) := fun k hk => by
    rcases hk with hk | hk
    · rw [hk]; exact h.raw.fr R hR
    · exact h.raw.fs j h.hj k hk
  have r := h.raw.push rfl h.hj T hown hat hg hx
  rw [cnt_next h.div] at r
  exact ⟨_, _, Lib.hid ⟨r.more (fun k _ hk => fx_more h.turn.size h.box.lt k hk), h.div, h.box.turn TT (fun e => by
    rcases e with e | e
    · exact hRx e.symm
    · exact hsx e), h.new, fx_rt hT h.rt TT hG, fx_turn h.turn TT hG, h.hj, h.hK⟩⟩

/-- Another row is next. -/
theorem AddP.next {rv : Value} {sv : Nat → Value} {idle : Nat → Nat} (h : AddP B F w b n fl f xb j K rv sv idle wr) (hT : Tr B F w b n fl f) (ho : n / 2 ^ j % 2 = 1) (T : Turn (fun k => k = xb) wr W) (hb : Has W xb 56 (cellsOf (dig.rt f (n + 1 - 2 ^ (j + 1)) (2 ^ (j + 1))))) : AddS B F w b n fl f xb (j + 1) W := by
  have hj : j < tops n := by
    rcases Nat.lt_or_ge j (tops n) with h1 | h1
    · exact h1
    · rw [div_zero h1] at ho; omega
  have hK : K = tops n := by rw [h.hK]; omega
  have r := h.raw
  rw [hK] at r
  refine ⟨⟨rv, sv, idle, r.turn T (fun k hk hl e => ?_)⟩, add_next h.div ho, hb, h.new, h.rt.turn T (fun k e => ?_), h.turn.trans T (fun k hk e => ?_)⟩
  · rcases hk with hk | hk
    · have := h.new; omega
    · exact hk.2 e
  · have := hT.rt.size; have := h.new; omega
  · have := h.new; omega
end

set_option maxRecDepth 100000 in
set_option maxHeartbeats 4000000 in
theorem add_leaf_calls (B : Nat) (F : Nat → Prop) (b n fl : Nat) (f : Nat → List UInt8) (w : World) (hT : Tr B F w b n fl f) (hn : n < 1000000) :
    Calls Tryz.prog 48 #[.pointer (some ⟨b, 0, none⟩), .agg (cellsOf (f n))] w fun en w' => en = .returned (.tuple #[]) ∧ Tr B (fun k => F k ∨ w.heap.size ≤ k) w' b (n + 1) fl f ∧ Turn F w w' := by
  obtain ⟨rv, sv, idle, r⟩ := hT.raw
  have e0 : ∀ O, (w.alloc O).cell? ⟨b, 0, none⟩ = some (.int .i64 n) := fun O => (r.tree.alloc O).cell 0
  have f0 : ∀ O, (w.alloc O).frozen? ⟨b, 0, none⟩ = false := fun O => (r.tree.alloc O).free 0
  obtain ⟨n1, hn1⟩ : ∃ n1, n1 = n + 1 := ⟨_, rfl⟩
  have hw1 : (n : Int) + 1 = (n1 : Int) := by omega
  have hw2 : (n1 : Int) ≤ 1000000 := by omega
  have HN1 := Lib.hid hn1
  have HT := Lib.hid hT
  have HR := Lib.hid r
  clear hT r hn1
  go_enter Tryz.func48, Tryz.ntmps48
  go_wp2_with fail
  go_name_world W hW
  have S0 : Hid (AddS B F w b n fl f w.heap.size 0 W) := by
    have e : W = (w.alloc (.cells (cellsOf (f n)) 56)).setCell ⟨b, 0, none⟩ (.int .i64 n1) := hW.symm
    have h := HR.out
    have hb : Has w b 83 #[.int .i64 n, .int .i64 fl, rv] := h.tree
    have hxb : Has (w.alloc (.cells (cellsOf (f n)) 56)) w.heap.size 56 (cellsOf (f n)) := made_at _ _ rfl
    have T : Turn (fun k => k = b) w W := by
      rw [e]; exact ((Turn.refl (fun k => k = b) w).alloc _).put (fun _ => rfl) 0 _
    have h1 := h.more (G := fun k => (F k ∧ k < w.heap.size) ∨ (w.heap.size ≤ k ∧ k ≠ w.heap.size)) (fun k hk hf => .inl ⟨hf, hk⟩)
    have tr : Has W b 83 #[.int .i64 (n + 1 : Nat), .int .i64 fl, rv] := by
      rw [e, ← HN1.out]
      simpa using (hb.alloc (.cells (cellsOf (f n)) 56)).put 0 (.int .i64 n1)
    have ec : cnt n 0 = fun j => n / 2 ^ j := by funext i; unfold cnt; rw [if_neg (by omega)]
    refine Lib.hid ⟨⟨rv, sv, idle, ?_⟩, ⟨n + 1, by simp⟩, ?_, Nat.le_refl _, HT.out.rt.turn T (fun k e => by rw [e]; exact HT.out.hF b h.fb), T.more (fun k _ e => by rw [e]; exact h.fb)⟩
    · rw [ec]
      exact ⟨tr, h1.rows.turn T (fun x hx e => h.rv_b (by rw [hx, e])), fun j hj => (h1.sums j hj).turn T (fun x hx e => h.sv_b hj (by rw [hx, e])), h1.apart, h1.fb, h1.fr, h1.fs, h1.idle⟩
    · rw [show n + 1 - 2 ^ 0 = n by simp, show (2 : Nat) ^ 0 = 1 from rfl, rt_one, e]
      exact hxb.far (p := ⟨b, 0, none⟩) (by have := hb.lt; show w.heap.size ≠ b; omega) _
  clear hW e0 f0 HR
  go_loopw [4] (fun x wr => ∃ j : Nat, x = .int .i64 j ∧ Hid (AddS B F w b n fl f w.heap.size j wr)) (fun x _ => tops n + 1 - (intOf x).toNat)
  case atStart => exact ⟨0, rfl, S0⟩
  case round =>
    obtain ⟨j, rfl, HS⟩ := hrel
    clear S0
    have hjK := add_tops HS.out.div
    have hj0 : (0 : Int) ≤ (j : Int) := by omega
    have hj1 : (j : Int) ≤ 64 := by have := tops_small (n := n) (by omega); omega
    obtain ⟨rv, sv, idle, hr⟩ := HS.out.raw
    have hfl := HT.out.floor
    rcases Nat.lt_or_ge j (tops n) with hjt | hjt
    case' inl =>
      obtain ⟨K, hK⟩ : ∃ K, K = tops n := ⟨_, rfl⟩
      rw [← hK] at hr hjt
      obtain ⟨R, o, C, hrv, hRl, hc1, hc2, _⟩ := hr.rows.cells (by omega)
      subst hrv
      have hc3 : (C : Int) ≤ 9223372036854775807 := by unfold maxLen at hc2; omega
      have hk3 : (K : Int) ≤ (C : Int) := by omega
      have hne : ¬ (j : Int) = (K : Int) := by omega
      have hjK2 : (j : Int) < (K : Int) := by omega
      have e2 : wr.cell? ⟨b, 2, none⟩ = some (.slice (some ⟨R, o, none⟩) K C) := hr.tree.cell 2
      have M : Hid (AddM B F w b n fl f w.heap.size j K (.slice (some ⟨R, o, none⟩) K C) sv idle wr) := Lib.hid ⟨hr, HS.out.div, HS.out.box, HS.out.new, HS.out.rt, HS.out.turn, hjt, by omega⟩
      clear HS hr hjK hfl hc1 hc2
      go_wp2_with fail
    case' inr =>
      obtain ⟨K0, hK0⟩ : ∃ K0, K0 = tops n := ⟨_, rfl⟩
      have hdv := HS.out.div
      rw [← hK0] at hr hjt hjK
      obtain rfl : j = K0 := by omega
      have hg0 : gone fl j = 0 := by
        have h1 := gone_le (fl := fl) (n := n) j hfl
        rw [hK0, div_zero (Nat.le_refl _)] at h1
        rw [hK0]
        omega
      have hc0 : cnt n j j = 0 := by unfold cnt; rw [if_neg (Nat.lt_irrefl _), hK0, div_zero (Nat.le_refl _)]
      obtain ⟨a0, c0, hrv, hc1, hc2⟩ := hr.rows.slice
      subst hrv
      have hc3 : (c0 : Int) ≤ 9223372036854775807 := by unfold maxLen at hc2; omega
      have hk3 : (j : Int) ≤ (c0 : Int) := by omega
      have e2 : wr.cell? ⟨b, 2, none⟩ = some (.slice a0 j c0) := hr.tree.cell 2
      have HR := Lib.hid hr
      have HG := Lib.hid (And.intro hg0 hc0)
      obtain ⟨i0, z0, hi0, hz0, hz1, hz2, hz3⟩ := rowInfo
      have HI0 := Lib.hid hi0
      have HZ0 := Lib.hid hz0
      have HKK := Lib.hid hK0
      clear hr hi0 hz0 hc1 hc2 hg0 hc0 hfl hjt hjK hdv hK0
      go_wp2_with (first
        | ((with_reducible refine at_op 29 ?_); refine wpList_build_one (o := ⟨some 29, _, _, _, _, _⟩) rfl 81 100 _ rfl i0 z0 Tryz.underlying81 HI0.out HZ0.out #[.int .i64 0, .slice none 0 0, .int .i64 0] rfl hz1 (by decide) (by decide) wr.heap.size rfl ?_; intro W3 HW3 BW3;
           (have T3 : Hid (Below wr.heap.size wr W3 ∧ Has W3 wr.heap.size 100 #[.int .i64 0, .slice none 0 0, .int .i64 0] ∧ Seg W3 100 3 (.slice a0 j c0) j (flat (rowC (gone fl) sv idle) 0 j)) := Lib.hid ⟨BW3, HW3, HR.out.rows.below BW3 (fun x hx => HR.out.rows.lt hx)⟩);
           clear HW3 BW3 e2)
        | ((with_reducible refine at_op 30 ?_); refine wpList_append_seg (o := ⟨some 30, _, _, _, _, _⟩) _ rfl (.tmp 27) (.tmp 29) 81 rfl 100 i0 z0 3 40 Tryz.underlying81 HI0.out HZ0.out hz1 hz3 hz2 (by decide) (.slice a0 j c0) j (flat (rowC (gone fl) sv idle) 0 j) rfl T3.out.2.2 ⟨wr.heap.size, 0, none⟩ 1 1 [.int .i64 0, .slice none 0 0, .int .i64 0] rfl rfl (World.news_of_block T3.out.2.1) (by simp [Value.oneCell']) (by decide) (by unfold maxLen; omega) (by omega) _ rfl ?_;
           intro R o C w4 hown hgrow hat hlt;
           (have T4 : Hid (Turn (fun k => (Value.slice a0 j c0).ownBlock = some k) wr w4 ∧ Seg w4 100 3 (.slice (some ⟨R, o, none⟩) (j + 1) C) (j + 1) (flat (rowC (gone fl) sv idle) 0 j ++ [.int .i64 0, .slice none 0 0, .int .i64 0]) ∧ ((Value.slice a0 j c0).ownBlock = some R ∨ wr.heap.size ≤ R)) := Lib.hid ⟨turn_own T3.out.1 (Nat.le_refl _) hgrow, hown, hat.imp id (fun e => by rw [e]; exact T3.out.1.size)⟩);
           (have k2 : w4.cell? ⟨b, 2, none⟩ = some (.slice a0 j c0) := (HR.out.tree.turn T4.out.1 HR.out.rv_b).cell 2);
           (have f2 : w4.frozen? ⟨b, 2, none⟩ = false := (HR.out.tree.turn T4.out.1 HR.out.rv_b).free 2);
           clear hown hgrow hat hlt T3)
        | fail)
      obtain ⟨K, sv, idle, M⟩ := HS.out.grow HT.out HKK.out HG.out.1 HG.out.2 HR.out T4.out.1 T4.out.2.1 T4.out.2.2
      clear T4 k2 f2 HS HR HG hz1 hz2 hz3 HI0 HZ0 HKK
    all_goals
      go_name_world V hV
      rw [hV] at M
      clear hV
      obtain ⟨i0, z0, hi0, hz0, hz1, hz2, hz3⟩ := sumInfo
      have HI0 := Lib.hid hi0
      have HZ0 := Lib.hid hz0
      clear hi0 hz0
      obtain ⟨xl, hxl⟩ : ∃ xl, xl = rt f (n + 1 - 2 ^ j) (2 ^ j) := ⟨_, rfl⟩
      have HX : Hid (xl.length = 32) := Lib.hid (by rw [hxl]; exact rt_len HT.out.len _ _ (Nat.pow_pos (by decide)))
      have HXL := Lib.hid hxl
      have hcell := flat_get (g := rowC (gone fl) sv idle) (a := 0) (k := K) (w := 3) (fun i _ _ => rowC_len _ _ _ i) M.out.hj (r := 1) (by omega)
      have c1 : V.cell? ⟨R, o + j * 3 + 1, none⟩ = some (sv j) := by
        obtain ⟨R', o', C', hv', _, _, _, hc⟩ := M.out.raw.rows.cells (by have := M.out.hj; omega)
        simp only [Value.slice.injEq, Option.some.injEq, Addr.mk.injEq, and_true, true_and] at hv'
        obtain ⟨⟨rfl, rfl⟩, rfl⟩ := hv'
        exact hc (j * 3 + 1) (sv j) (by rw [hcell, Nat.zero_add]; rfl)
      have C0 : Hid (V.cell? ⟨R, o + j * 3 + 1, none⟩ = some (sv j) ∧ V.rangeAt w.heap.size 0 (xl.map byteV)) := Lib.hid ⟨c1, by rw [hxl]; exact Has.range M.out.box⟩
      clear c1 hcell hxl
      refine wp_region_quiet (fun V => V.cell? ⟨R, o + j * 3 + 1, none⟩ = some (sv j) ∧ V.rangeAt w.heap.size 0 (xl.map byteV)) [10] (by kernel_rfl) ?_
      have hC : (fun V => V.cell? ⟨R, o + j * 3 + 1, none⟩ = some (sv j) ∧ V.rangeAt w.heap.size 0 (xl.map byteV)) V.drew := C0.out
      refine quiet_take 0 (some 39) (v := .pointer (some ⟨R, o + j * 3, none⟩)) rfl rfl (by kernel_rfl) (by kernel_rfl) (by kernel_rfl) (fun _ _ _ h => h) (by kernel_rfl) (by kernel_rfl) (by kernel_rfl) (fun V _ => by go_simp) hC ?_
      refine quiet_take 1 (some 40) (v := .pointer (some ⟨R, o + j * 3, none⟩)) rfl rfl (by kernel_rfl) (by kernel_rfl) (by kernel_rfl) (fun _ _ _ h => h) (by kernel_rfl) (by kernel_rfl) (by kernel_rfl) (fun V _ => by go_simp) hC ?_
      refine quiet_take 2 (some 41) (v := .pointer (some ⟨R, o + j * 3, none⟩)) rfl rfl (by kernel_rfl) (by kernel_rfl) (by kernel_rfl) (fun _ _ _ h => h) (by kernel_rfl) (by kernel_rfl) (by kernel_rfl) (fun V _ => by go_simp) hC ?_
      refine quiet_take 3 (some 42) (v := .pointer (some ⟨R, o + j * 3 + 1, none⟩)) rfl rfl (by kernel_rfl) (by kernel_rfl) (by kernel_rfl) (fun _ _ _ h => h) (by kernel_rfl) (by kernel_rfl) (by kernel_rfl) (fun V _ => by go_simp) hC ?_
      refine quiet_take 4 (some 43) (v := sv j) rfl rfl (by kernel_rfl) (by kernel_rfl) (by kernel_rfl) (fun _ _ _ h => h) (by kernel_rfl) (by kernel_rfl) (by kernel_rfl) (fun V hV => by have c1 := hV.1; go_simp) hC ?_
      refine quiet_take 5 (some 44) (v := .agg (cellsOf xl)) rfl rfl (by kernel_rfl) (by kernel_rfl) (by kernel_rfl) (fun _ _ _ h => h) (by kernel_rfl) (by kernel_rfl) (by kernel_rfl) (fun V hV => by have hl := run_loadAt_mid (P := Tryz.prog) V w.heap.size 0 56 (xl.map byteV) _ hV.2 Tryz.underlying56 rfl (by rw [List.length_map, HX.out]; kernel_rfl); exact exec_load 56 (.tmp 3) rfl (.pointer (some ⟨w.heap.size, 0, none⟩)) rfl hl) hC ?_
      simp only [Act.put, List.setIfInBounds_toArray, List.set_cons_zero, List.set_cons_succ]
      refine quiet_one (i := 6) (by kernel_rfl) ?_
      refine wpOp_wp rfl (by kernel_rfl) (wp_build_one 62 56 _ rfl i0 z0 Tryz.underlying62 HI0.out HZ0.out (cellsOf xl) rfl (by rw [hz1, cellsOf_size, HX.out]) (by rw [cellsOf_size, HX.out]; decide) (by rw [cellsOf_size, HX.out]; decide) V.heap.size rfl ?_)
      intro W3 HW3 BW3'
      have BW3 := ((Below.refl V.heap.size V).drew).trans BW3'
      clear BW3'
      have T3 : Hid (Below V.heap.size V W3 ∧ Has W3 V.heap.size 56 (cellsOf xl) ∧ Seg W3 56 32 (sv j) (cnt n j j - gone fl j) (flat (nodeC f j) (gone fl j) (cnt n j j - gone fl j))) :=
        Lib.hid ⟨BW3, HW3, (M.out.raw.sums j M.out.hj).below (B := V.heap.size) BW3 (fun x hx => (M.out.raw.sums j M.out.hj).lt hx)⟩
      have hRV : R < V.heap.size := M.out.raw.rows.lt rfl
      have hC3 : (fun V => V.cell? ⟨R, o + j * 3 + 1, none⟩ = some (sv j) ∧ V.rangeAt w.heap.size 0 (xl.map byteV)) W3 := by
        refine ⟨?_, fun i u hi => ?_⟩
        · rw [← C0.out.1]; unfold World.cell?; rw [T3.out.1.block R hRV]
        · rw [← C0.out.2 i u hi]; unfold World.cell?; rw [T3.out.1.block w.heap.size M.out.box.lt]
      refine ⟨fun _ => hC3, ?_⟩
      clear HW3 BW3
      have hcb : Hid (cnt n j j ≤ 1000000 ∧ cnt n j j - gone fl j ≤ 1000000) := Lib.hid (by have : cnt n j j = n / 2 ^ j := (by unfold cnt; rw [if_neg (Nat.lt_irrefl _)]); have := Nat.div_le_self n (2 ^ j); omega)
      simp only [Act.put, List.setIfInBounds_toArray]
      refine quiet_one (i := 7) (by kernel_rfl) ?_
      refine wpOp_wp rfl (by kernel_rfl) (wp_append_seg _ (.tmp 43) (.tmp 45) 62 rfl 56 i0 z0 32 32 Tryz.underlying62 HI0.out HZ0.out hz1 hz3 hz2 (by decide) (sv j) (cnt n j j - gone fl j) _ rfl T3.out.2.2 ⟨V.heap.size, 0, none⟩ 1 1 (xl.map byteV) rfl (by rw [List.length_map, HX.out]) (World.news_of_block T3.out.2.1) (byteV_one _) (by decide) (by have := hcb.out.2; unfold maxLen; omega) (by have := hcb.out.2; omega) _ rfl ?_)
      intro g' off' cap' w5 hown hgrow hat hlt
      have T5 : Hid (Turn (fun k => (sv j).ownBlock = some k) V w5 ∧ Seg w5 56 32 (.slice (some ⟨g', off', none⟩) (cnt n j j - gone fl j + 1) cap') (cnt n j j - gone fl j + 1) (flat (nodeC f j) (gone fl j) (cnt n j j - gone fl j) ++ xl.map byteV) ∧ ((sv j).ownBlock = some g' ∨ V.heap.size ≤ g')) :=
        Lib.hid ⟨turn_own T3.out.1 (Nat.le_refl _) hgrow, hown, hat.imp id (fun e => by rw [e]; exact T3.out.1.size)⟩
      clear hown hgrow hat hlt
      have hsx : (sv j).ownBlock ≠ some w.heap.size := fun e => by
        have := M.out.raw.fs j M.out.hj _ e
        omega
      have hsR : (sv j).ownBlock ≠ some R := M.out.raw.rv_sv M.out.hj R rfl
      have hC5 : (fun V => V.cell? ⟨R, o + j * 3 + 1, none⟩ = some (sv j) ∧ V.rangeAt w.heap.size 0 (xl.map byteV)) w5 := by
        refine ⟨?_, fun i u hi => ?_⟩
        · rw [← C0.out.1]; unfold World.cell?; rw [T5.out.1.block R hRV hsR]
        · rw [← C0.out.2 i u hi]; unfold World.cell?; rw [T5.out.1.block w.heap.size M.out.box.lt hsx]
      refine ⟨fun _ => hC5, ?_⟩
      have k1 : w5.cell? ⟨R, o + j * 3 + 1, none⟩ = some (sv j) := hC5.1
      have f1 : w5.frozen? ⟨R, o + j * 3 + 1, none⟩ = false := by
        obtain ⟨cs, hcs⟩ : ∃ cs, Has w5 R 100 cs := by
          rcases M.out.raw.rows.2 with ⟨h, _⟩ | ⟨R', o', C', cur, hv', hh, _⟩
          · cases h
          · simp only [Value.slice.injEq, Option.some.injEq, Addr.mk.injEq, and_true, true_and] at hv'
            obtain ⟨⟨rfl, rfl⟩, rfl⟩ := hv'
            exact ⟨cur, Has.turn (t := 100) hh T5.out.1 hsR⟩
        exact hcs.free _
      simp only [Act.put]
      refine quiet_take 8 (some 47) (v := .pointer (some ⟨R, o + j * 3, none⟩)) rfl rfl (by kernel_rfl) (by kernel_rfl) (by kernel_rfl) (fun _ _ _ h => h) (by kernel_rfl) (by kernel_rfl) (by kernel_rfl) (fun V _ => by go_simp) hC5 ?_
      refine quiet_take 9 (some 48) (v := .pointer (some ⟨R, o + j * 3 + 1, none⟩)) rfl rfl (by kernel_rfl) (by kernel_rfl) (by kernel_rfl) (fun _ _ _ h => h) (by kernel_rfl) (by kernel_rfl) (by kernel_rfl) (fun V _ => by go_simp) hC5 ?_
      simp only [Act.put]
      refine quiet_one (i := 10) (by kernel_rfl) ?_
      refine wpOp_skip (w' := w5.setCell ⟨R, o + j * 3 + 1, none⟩ (.slice (some ⟨g', off', none⟩) (cnt n j j - gone fl j + 1) cap')) rfl rfl (by kernel_rfl) (by go_simp) ⟨(fun h => by cases h), ?_⟩
      refine quiet_done (by kernel_rfl) ?_ _
      obtain ⟨sv, idle, P⟩ := M.out.push HT.out T5.out.1 (by rw [← HXL.out]; exact T5.out.2.1) T5.out.2.2
      clear M T5 T3 C0 hC hC3 hC5 k1 f1 hsx hsR hz1 hz2 hz3 HI0 HZ0 hcb
      rw [← Nat.add_assoc] at P
      generalize w5.setCell ⟨R, o + j * 3 + 1, none⟩ (.slice (some ⟨g', off', none⟩) (cnt n j j - gone fl j + 1) cap') = V2 at *
      have e0 : V2.cell? ⟨b, 0, none⟩ = some (.int .i64 n1) := by rw [HN1.out]; exact P.out.raw.tree.cell 0
      obtain ⟨q, hq⟩ : ∃ q, q = n / 2 ^ j := ⟨_, rfl⟩
      have hq1 : (n1 : Int) / 2 ^ j = (q : Int) + 1 := by
        have h1 := add_div P.out.div
        rw [← HN1.out, ← hq] at h1
        have h2 : (n1 : Int) / 2 ^ j = ((n1 / 2 ^ j : Nat) : Int) := by rw [Int.natCast_ediv]; simp
        rw [h2, h1]; omega
      have hqb : (q : Int) ≤ 1000000 := by rw [hq]; have := Nat.div_le_self n (2 ^ j); omega
      have hq0 : (0 : Int) ≤ (q : Int) := by omega
      have HQ := Lib.hid hq
      clear hq
      by_cases he : q % 2 = 0
      · have ht1 : (q : Int) % 2 = 0 := by omega
        have ht2 : (q : Int).tmod 2 = 0 := by rw [Int.tmod_eq_emod_of_nonneg hq0]; exact ht1
        go_wp2_with fail
        exact bodyPost_ret (results_none rfl _ _ _) rfl ⟨rfl, P.out.last HT.out hn (by rw [← HQ.out]; exact he), P.out.turn⟩
      · have ht1 : (q : Int) % 2 = 1 := by omega
        have ht2 : (q : Int).tmod 2 = 1 := by rw [Int.tmod_eq_emod_of_nonneg hq0]; exact ht1
        go_wp2_with fail
        have ho : n / 2 ^ j % 2 = 1 := by rw [← HQ.out]; omega
        have hfl := HT.out.floor
        have hgq : gone fl j ≤ q - 1 := by
          have h1 : fl / 2 ^ (j + 1) ≤ n / 2 ^ (j + 1) := Nat.div_le_div_right hfl
          rw [half_div n, ← HQ.out] at h1
          unfold gone
          omega
        obtain ⟨q0, hq00⟩ : ∃ q0, q0 = q - 1 := ⟨_, rfl⟩
        have hqq : (q : Int) - 1 = (q0 : Int) := by omega
        have hs := P.out.raw.sums j P.out.hj
        have hcn : cnt n (j + 1) j = q + 1 := by
          unfold cnt
          rw [if_pos (Nat.lt_succ_self _), add_div P.out.div, HQ.out]
        rw [hcn] at hs
        obtain ⟨ye, hye⟩ : ∃ ye, ye = rt f (n + 1 - 2 ^ (j + 1)) (2 ^ j) := ⟨_, rfl⟩
        have hpl : q0 * 2 ^ j = n + 1 - 2 ^ (j + 1) := by
          have h1 := add_place P.out.div
          rw [← HQ.out] at h1
          rw [hq00, Nat.sub_mul, h1, Nat.pow_succ]
          omega
        have HN : Hid (nodeS ye xl = rt f (n + 1 - 2 ^ (j + 1)) (2 ^ (j + 1))) := Lib.hid (by
          rw [rt_pow, HXL.out, hye]
          congr 2
          have h2 := Nat.le_of_dvd (by omega) (add_next P.out.div ho)
          rw [Nat.pow_succ] at h2 ⊢
          omega)
        have HY : Hid (ye.length = 32) := Lib.hid (by rw [hye]; exact rt_len HT.out.len _ _ (Nat.pow_pos (by decide)))
        have HA : Hid (∀ r, r < 32 → (flat (nodeC f j) (gone fl j) (q + 1 - gone fl j))[(q0 - gone fl j) * 32 + r]? = (cellsOf ye)[r]?) := Lib.hid fun r hr => by
          rw [flat_get (w := 32) (fun i _ _ => nodeC_len HT.out.len j i) (by omega) hr, Nat.add_sub_cancel' (by omega)]
          unfold nodeC
          rw [hpl, ← hye]
          simp
        have HB : Hid (gone fl j ≤ q0 ∧ q0 - gone fl j < q + 1 - gone fl j ∧ q + 1 - gone fl j ≤ 1000000 ∧ q0 ≤ 1000000) := Lib.hid (by have h1 : q ≤ n := (by rw [HQ.out]; exact Nat.div_le_self _ _); omega)
        have hcell0 := flat_get (g := rowC (gone fl) sv idle) (a := 0) (k := K) (w := 3) (fun i _ _ => rowC_len _ _ _ i) P.out.hj (r := 0) (by omega)
        have hcell := flat_get (g := rowC (gone fl) sv idle) (a := 0) (k := K) (w := 3) (fun i _ _ => rowC_len _ _ _ i) P.out.hj (r := 1) (by omega)
        have cc : V2.cell? ⟨R, o + j * 3, none⟩ = some (.int .i64 (gone fl j)) ∧ V2.cell? ⟨R, o + j * 3 + 1, none⟩ = some (sv j) := by
          obtain ⟨R', o', C', hv', _, _, _, hc⟩ := P.out.raw.rows.cells (by have := P.out.hj; omega)
          simp only [Value.slice.injEq, Option.some.injEq, Addr.mk.injEq, and_true, true_and] at hv'
          obtain ⟨⟨rfl, rfl⟩, rfl⟩ := hv'
          exact ⟨hc (j * 3) _ (by rw [← Nat.add_zero (j * 3), hcell0, Nat.zero_add]; rfl), hc (j * 3 + 1) (sv j) (by rw [hcell, Nat.zero_add]; rfl)⟩
        have C0 : Hid ((V2.cell? ⟨R, o + j * 3, none⟩ = some (.int .i64 (gone fl j)) ∧ V2.cell? ⟨R, o + j * 3 + 1, none⟩ = some (sv j)) ∧ V2.rangeAt w.heap.size 0 (xl.map byteV)) := Lib.hid ⟨cc, by rw [HXL.out]; exact Has.range P.out.box⟩
        have HS := Lib.hid hs
        have HO := Lib.hid ho
        have HXX := HXL
        clear cc hcell hcell0 hs hcn hye hpl hgq ho hfl e0 hq00 HXL
        refine wp_region_quiet (fun V => V.rangeAt w.heap.size 0 (xl.map byteV)) [6] (by kernel_rfl) ?_
        have hC : (fun V => V.rangeAt w.heap.size 0 (xl.map byteV)) V2.drew := C0.out.2
        refine quiet_take 0 (some 59) (v := .pointer (some ⟨R, o + j * 3, none⟩)) rfl rfl (by kernel_rfl) (by kernel_rfl) (by kernel_rfl) (fun _ _ _ h => h) (by kernel_rfl) (by kernel_rfl) (by kernel_rfl) (fun V _ => by go_simp) hC ?_
        refine quiet_take 1 (some 60) (v := .int .i64 q) rfl rfl (by kernel_rfl) (by kernel_rfl) (by kernel_rfl) (fun _ _ _ h => h) (by kernel_rfl) (by kernel_rfl) (by kernel_rfl) (fun V _ => by go_simp) hC ?_
        refine quiet_take 2 (some 61) (v := .int .i64 q0) rfl rfl (by kernel_rfl) (by kernel_rfl) (by kernel_rfl) (fun _ _ _ h => h) (by kernel_rfl) (by kernel_rfl) (by kernel_rfl) (fun V _ => by have i0 : IntKind.i64.wrap (q0 : Int) = (q0 : Int) := IntWalk.i64_in _ ⟨by omega, by omega⟩; go_simp) hC ?_
        refine quiet_take 4 (some 63) (v := .agg (cellsOf xl)) rfl rfl (by kernel_rfl) (by kernel_rfl) (by kernel_rfl) (fun _ _ _ h => h) (by kernel_rfl) (by kernel_rfl) (by kernel_rfl) (fun V hV => by have hl := run_loadAt_mid (P := Tryz.prog) V w.heap.size 0 56 (xl.map byteV) _ hV Tryz.underlying56 rfl (by rw [List.length_map, HX.out]; kernel_rfl); exact exec_load 56 (.tmp 3) rfl (.pointer (some ⟨w.heap.size, 0, none⟩)) rfl hl) hC ?_
        simp only [Act.put, List.setIfInBounds_toArray, List.set_cons_zero, List.set_cons_succ]
        refine quiet_one (i := 3) (by kernel_rfl) ?_
        have hRV : R < V2.heap.size := P.out.raw.rows.lt rfl
        refine wpOp_call (some 62) rfl rfl (by kernel_rfl) 70 Tryz.f70 Tryz.func70 (by kernel_rfl) (by kernel_rfl) _ _ rfl #[.pointer (some ⟨R, o + j * 3, none⟩), .int .i64 q0] (by first | (simp [Act.eval]; done) | (simp [Act.eval, Act.put]; done)) (at_calls R (o + j * 3) q0 (gone fl j) (q + 1 - gone fl j) (sv j) _ ye V2.drew C0.out.1.1 C0.out.1.2 HS.out.drew HB.out.1 HB.out.2.1 HB.out.2.2.1 HB.out.2.2.2 HA.out HY.out) ?_
        rintro en V3 ⟨rfl, b3'⟩
        have b3 : Hid (Below V2.heap.size V2 V3) := Lib.hid (((Below.refl V2.heap.size V2).drew).trans b3')
        clear b3' HA HB
        refine ⟨_, rfl, fun _ => fun i u hi => ?_, ?_⟩
        · rw [← C0.out.2 i u hi]; unfold World.cell?; rw [b3.out.block w.heap.size P.out.box.lt]
        simp only [Act.put, List.setIfInBounds_toArray, List.set_cons_zero, List.set_cons_succ]
        refine quiet_one (i := 5) (by kernel_rfl) ?_
        refine wpOp_call (some 64) rfl rfl (by kernel_rfl) 69 Tryz.f69 Tryz.func69 (by kernel_rfl) (by kernel_rfl) _ _ rfl #[.agg (cellsOf ye), .agg (cellsOf xl)] (by first | (simp [Act.eval]; done) | (simp [Act.eval, Act.put]; done)) (node_calls ye xl V3 (P.out.rt.below b3.out P.out.rt.size).rk HY.out HX.out) ?_
        rw [HN.out]
        rintro en V4 ⟨rfl, b4'⟩
        have b4 : Hid (Below V2.heap.size V2 V4) := Lib.hid (b3.out.trans (b4'.mono b3.out.size))
        clear b4' b3
        refine ⟨_, rfl, fun _ => fun i u hi => ?_, ?_⟩
        · rw [← C0.out.2 i u hi]; unfold World.cell?; rw [b4.out.block w.heap.size P.out.box.lt]
        simp only [Act.put, List.setIfInBounds_toArray, List.set_cons_zero, List.set_cons_succ]
        refine quiet_one (i := 6) (by kernel_rfl) ?_
        have hbox : Has V4 w.heap.size 56 (cellsOf xl) := P.out.box.below b4.out P.out.box.lt |> fun h => by rw [HXX.out]; exact h
        have HL6 : Hid ((rt f (n + 1 - 2 ^ (j + 1)) (2 ^ (j + 1))).length = 32) := Lib.hid (rt_len HT.out.len _ _ (Nat.pow_pos (by decide)))
        refine wpOp_wp rfl (by kernel_rfl) (wp_store_row 56 (.tmp 3) (.tmp 64) rfl w.heap.size (cellsOf (rt f (n + 1 - 2 ^ (j + 1)) (2 ^ (j + 1)))) rfl rfl 56 (cellsOf xl) hbox (by rw [cellsOf_size, HL6.out]; kernel_rfl) (by rw [cellsOf_size, cellsOf_size, HX.out, HL6.out]) (cellsOf_one _) ?_)
        refine ⟨(fun h => by cases h), ?_⟩
        refine quiet_done (by kernel_rfl) ?_ _
        have T6 : Turn (fun k => k = w.heap.size) V2 (V4.setRow w.heap.size (cellsOf (rt f (n + 1 - 2 ^ (j + 1)) (2 ^ (j + 1))))) :=
          (Turn.of_below (F := fun k => k = w.heap.size) b4.out (fun k h1 h2 => by omega)).trans (turn_row _ _ _) (fun _ _ h => h)
        have S6 := Lib.hid (P.out.next HT.out HO.out T6 (hbox.row _))
        have hjK := add_tops P.out.div
        clear T6 hbox P b4 C0 HS hC
        generalize V4.setRow w.heap.size (cellsOf (rt f (n + 1 - 2 ^ (j + 1)) (2 ^ (j + 1)))) = V6 at *
        simp only [Act.put]
        go_wp2_with fail
        refine ⟨⟨j + 1, by rw [Int.natCast_add]; rfl, S6⟩, ?_⟩
        show tops n + 1 - ((j : Int) + 1).toNat < tops n + 1 - ((j : Int)).toNat
        omega
end Go.Proofs.YtdlkdgajoafkaaaGreatDoor.dig
end

section
/- tree: row.first; Clone. -/
namespace Go.Proofs.YtdlkdgajoafkaaaGreatDoor.dig
open Go Go.RowKit

/-- A row was answered, in new memory: of the first x. -/
def FirstPost (w : World) (g x : Nat) (f : Nat → List UInt8) (j : Nat) (en : Ending) (w' : World) : Prop :=
  ∃ y, en = .returned (.agg #[.int .i64 g, y, .int .i64 0]) ∧ Seg w' 56 32 y (x - g) (flat (nodeC f j) g (x - g)) ∧ (∀ b, y.ownBlock = some b → w.heap.size ≤ b) ∧ Below w.heap.size w w'

set_option maxRecDepth 100000 in
set_option maxHeartbeats 2000000 in
theorem first_calls (R o j g c x : Nat) (v : Value) (f : Nat → List UInt8) (w : World) (k0 : w.cell? ⟨R, o, none⟩ = some (.int .i64 g)) (k1 : w.cell? ⟨R, o + 1, none⟩ = some v) (hR : R < w.heap.size)
    (hs : Seg w 56 32 v (c - g) (flat (nodeC f j) g (c - g))) (hg : g ≤ x) (hx : x ≤ c) (hc : c ≤ 1000000) (hlen : ∀ i, (f i).length = 32) :
    Calls Tryz.prog 68 #[.pointer (some ⟨R, o, none⟩), .int .i64 x] w (FirstPost w g x f j) := by
  obtain ⟨a, cc, hv, hc1, hc2⟩ := hs.slice
  subst hv
  have hfr : Seg w 56 32 (.slice a (x - g) cc) (x - g) (flat (nodeC f j) g (x - g)) := by
    rcases hs.2 with ⟨h1, h2⟩ | ⟨gg, off, cap, cur, h1, h2, h3, h4, h5, h6⟩
    · simp only [Value.slice.injEq] at h1
      obtain ⟨rfl, h3, rfl⟩ := h1
      rw [show x - g = 0 by omega]
      exact Seg.nil _ _ _
    · simp only [Value.slice.injEq] at h1
      obtain ⟨rfl, _, rfl⟩ := h1
      refine ⟨flat_len (fun i _ _ => nodeC_len hlen j i), .inr ⟨gg, off, cc, cur, rfl, h2, by omega, h4, h5, ?_⟩⟩
      rw [← flat_take (k := c - g) (fun i _ _ => nodeC_len hlen j i) (show x - g ≤ c - g by omega), ← h6, List.take_take]
      congr 1
      have : (x - g) * 32 ≤ (c - g) * 32 := Nat.mul_le_mul_right _ (by omega)
      omega
  obtain ⟨d, hd⟩ : ∃ d, d = x - g := ⟨_, rfl⟩
  obtain ⟨m, hm⟩ : ∃ m, m = c - g := ⟨_, rfl⟩
  have hd1 : (x : Int) - (g : Int) = (d : Int) := by omega
  have hdm : (d : Int) ≤ (m : Int) := by omega
  have hd0 : (0 : Int) ≤ (d : Int) := by omega
  have hm6 : m ≤ 1000000 := by omega
  have hd6 : (d : Int) ≤ 1000000 := by omega
  have i0 : IntKind.i64.wrap (d : Int) = (d : Int) := IntWalk.i64_in _ ⟨by omega, by omega⟩
  have hmc : (m : Int) ≤ (cc : Int) := by omega
  have hcc6 : (cc : Int) ≤ 9223372036854775807 := by unfold maxLen at hc2; omega
  have hdc : (d : Int) ≤ (cc : Int) := by omega
  unfold FirstPost
  rw [← hd] at hfr ⊢
  rw [← hm] at k1
  have HS := Lib.hid hfr
  have HD := Lib.hid (show _ ∧ _ from ⟨hd, hm⟩)
  clear hs hfr hd hm hc1 hc2 hg hx
  go_enter Tryz.func68, Tryz.ntmps68
  go_wp2_with fail
  go_name_world W hW
  have B0 : Below w.heap.size w W := by rw [← hW]; exact (Below.refl _ _).alloc (Nat.le_refl _) _
  have Z0 : Has W w.heap.size 100 #[.int .i64 0, .slice none 0 0, .int .i64 0] := by rw [← hW]; exact made_at _ _ rfl
  have hs0 : W.heap.size = w.heap.size + 1 := by rw [← hW]; simp
  have d0 : W.cell? ⟨R, o, none⟩ = some (.int .i64 g) := by rw [← k0]; unfold World.cell?; rw [B0.block R hR]
  have d1 : W.cell? ⟨R, o + 1, none⟩ = some (.slice a m cc) := by rw [← k1]; unfold World.cell?; rw [B0.block R hR]
  have hc5 := copied_calls (.slice a d cc) d _ W.drew ((HS.out.below B0 (fun x hx => HS.out.lt hx)).drew) sum_one (by omega)
  have HC := Lib.hid hc5
  have HB := Lib.hid (show _ ∧ _ from ⟨B0, Z0⟩)
  have hRW : R < W.heap.size := by omega
  clear hW k0 k1 hc5 B0 Z0
  go_region_law (refine step_call rfl 72 Tryz.f72 Tryz.func72 (by kernel_rfl) (by kernel_rfl) _ _ rfl #[.slice a d cc] (by first | (simp [Act.eval]; done) | (simp [Act.eval, Act.put]; done)) (by exact HC.out) ?_
                 rintro en w5 ⟨y, rfl, s5, o5, b5⟩
                 obtain ⟨ya, yc, rfl, _, _⟩ := s5.slice
                 have k5 : w5.cell? ⟨R, o, none⟩ = some (.int .i64 g) := by rw [← d0]; unfold World.cell?; rw [b5.block R hRW]; rfl
                 have Z5 : Has w5 w.heap.size 100 #[.int .i64 0, .slice none 0 0, .int .i64 0] := (HB.out.2.drew).below b5 (by show w.heap.size < W.heap.size; omega)
                 have z0 := Z5.cell 0
                 have z1 := Z5.cell 1
                 have z2 := Z5.cell 2
                 have zf := Z5.free
                 simp at z0 z1 z2
                 have S5 := Lib.hid (show _ ∧ _ ∧ _ ∧ _ from ⟨s5, o5, b5, Z5⟩)
                 clear s5 o5 b5 Z5
                 refine ⟨_, rfl, ?_⟩)
  all_goals
    have T0 : Turn (fun k => w.heap.size ≤ k) w w5 := (Turn.of_below (F := fun k => w.heap.size ≤ k) HB.out.1 (fun _ _ h => h)).drew.trans (Turn.of_below (F := fun k => W.heap.size ≤ k) S5.out.2.2.1 (fun _ _ h => h)) (fun k h1 h2 => by omega)
    have T7 := ((T0.put (b := w.heap.size) (fun _ => Nat.le_refl _) 0 (.int .i64 g)).put (b := w.heap.size) (fun _ => Nat.le_refl _) 1 (.slice ya d yc)).put (b := w.heap.size) (fun _ => Nat.le_refl _) 2 (.int .i64 0)
    have hown : ∀ x, (Value.slice ya d yc).ownBlock = some x → W.heap.size ≤ x := fun x hx => S5.out.2.1 x hx
    have hne : (Value.slice ya d yc).ownBlock ≠ some w.heap.size := fun e => by have := hown _ e; omega
    have s7 := Seg.far (Seg.far (Seg.far S5.out.1 (p := ⟨w.heap.size, 0, none⟩) hne (.int .i64 g)) (p := ⟨w.heap.size, 1, none⟩) hne (.slice ya d yc)) (p := ⟨w.heap.size, 2, none⟩) hne (.int .i64 0)
    have Z7 : Has _ w.heap.size 100 #[.int .i64 g, .slice ya d yc, .int .i64 0] := ((S5.out.2.2.2.put 0 (.int .i64 g)).put 1 (.slice ya d yc)).put 2 (.int .i64 0)
    have N := Lib.hid (show _ ∧ _ ∧ _ from ⟨s7, T7, Z7⟩)
    generalize ((w5.setCell ⟨w.heap.size, 0, none⟩ (.int .i64 g)).setCell ⟨w.heap.size, 1, none⟩ (.slice ya d yc)).setCell ⟨w.heap.size, 2, none⟩ (.int .i64 0) = W7 at N ⊢
    clear T0 T7 s7 Z7 z0 z1 z2 zf k5 hne d0 d1 hs0
    have y0 := N.out.2.2.cell 0
    have y1 := N.out.2.2.cell 1
    have y2 := N.out.2.2.cell 2
    simp at y0 y1 y2
    go_wp2_with fail
    refine bodyPost_ret (v := .agg #[.int .i64 g, .slice ya d yc, .int .i64 0]) (by simp [results, Tryz.results68, go_sem, y0, y1, y2]) rfl ?_
    exact ⟨_, rfl, N.out.1, fun x hx => Nat.le_trans HB.out.1.size (hown x hx), N.out.2.1.below (Nat.le_refl _) (fun k hk h => by omega)⟩
end Go.Proofs.YtdlkdgajoafkaaaGreatDoor.dig
end

section
/- tree: Clone. -/
namespace Go.Proofs.YtdlkdgajoafkaaaGreatDoor.dig
open Go Go.RowKit

section
variable {F : Nat → Prop} {w W : World} {b n fl K : Nat} {g c : Nat → Nat} {f : Nat → List UInt8} {rv : Value} {sv : Nat → Value} {idle : Nat → Nat}
/-- A row more, of these sums. -/
theorem Raw.more_row (h : Raw F w b n fl K g c f rv sv idle) (T : Turn (fun k => rv.ownBlock = some k) w W) {y : Value}
    {g' off' cap' : Nat} (hown : Seg W 100 3 (.slice (some ⟨g', off', none⟩) (K + 1) cap') (K + 1) (flat (rowC g sv idle) 0 K ++ [.int .i64 (g K), y, .int .i64 0]))
    (hat : rv.ownBlock = some g' ∨ w.heap.size ≤ g') (hy : Seg w 56 32 y (c K - g K) (flat (nodeC f K) (g K) (c K - g K))) (hyF : ∀ x, y.ownBlock = some x → F x)
    (hyn : ∀ x, y.ownBlock = some x → ∀ j, j < K → (sv j).ownBlock ≠ some x) :
    Raw (fun k => F k ∨ w.heap.size ≤ k) (W.setCell ⟨b, 2, none⟩ (.slice (some ⟨g', off', none⟩) (K + 1) cap')) b n fl (K + 1) g c f (.slice (some ⟨g', off', none⟩) (K + 1) cap') (upd sv K y) (upd idle K 0) := by
  have htree : Has W b 83 #[.int .i64 n, .int .i64 fl, rv] := h.tree.turn T h.rv_b
  have hgb : g' ≠ b := fun e => hown.ne htree (fun e => ne_types.1 e.symm) (by rw [e]; rfl)
  have hyW : Seg W 56 32 y (c K - g K) (flat (nodeC f K) (g K) (c K - g K)) := hy.turn T (fun x hx hr => h.rows.apart hy ne_types.2.2 x hr hx)
  have hyb : y.ownBlock ≠ some b := hy.ne h.tree (fun e => ne_types.2.1 e.symm)
  refine ⟨?_, ?_, ?_, ?_, .inl h.fb, fun x hx => ?_, ?_, ?_⟩
  · have := htree.put 2 (.slice (some ⟨g', off', none⟩) (K + 1) cap')
    simpa using this
  · have h2 := Seg.far hown (p := ⟨b, 2, none⟩) (by intro e; exact hgb (by injection e)) (.slice (some ⟨g', off', none⟩) (K + 1) cap')
    rw [flat_snoc]
    have e1 : flat (rowC g (upd sv K y) (upd idle K 0)) 0 K = flat (rowC g sv idle) 0 K := by
      refine flat_congr fun i _ hi => ?_
      simp [rowC, upd, show i ≠ K by omega]
    have e2 : rowC g (upd sv K y) (upd idle K 0) (0 + K) = [.int .i64 (g K), y, .int .i64 0] := by
      simp [rowC, upd]
    rw [e1, e2]
    exact h2
  · intro i hi
    by_cases e : i = K
    · subst e
      rw [upd_at]
      exact Seg.far hyW hyb _
    · rw [upd_ne _ _ e]
      exact Seg.far ((h.sums i (by omega)).turn T (fun x hx hr => h.rv_sv (by omega) x hr hx)) (h.sv_b (by omega)) _
  · intro i1 i2 h1 h2 hne x hx
    by_cases e1 : i1 = K
    · subst e1
      rw [upd_at] at hx
      rw [upd_ne _ _ (fun e => hne e.symm)]
      exact hyn x hx i2 (by omega)
    · rw [upd_ne _ _ e1] at hx
      by_cases e2 : i2 = K
      · subst e2
        rw [upd_at]
        exact fun e => hyn x e i1 (by omega) hx
      · rw [upd_ne _ _ e2]
        exact h.apart i1 i2 (by omega) (by omega) hne x hx
  · have hgx : g' = x := by injection hx
    subst hgx
    exact hat.imp (fun e => h.fr _ e) id
  · intro i hi x hx
    by_cases e1 : i = K
    · subst e1
      rw [upd_at] at hx
      exact .inl (hyF x hx)
    · rw [upd_ne _ _ e1] at hx
      exact .inl (h.fs i (by omega) x hx)
  · intro i hi
    by_cases e1 : i = K
    · subst e1; rw [upd_at]; omega
    · rw [upd_ne _ _ e1]; exact h.idle i (by omega)
end

/-- A call of a Go function, at the operation. -/
theorem wp_call_op {P : Program} {w : World} {o : Oper} {a : Act} {K : Act → World → Prop} {Q : Exit → Act → World → Prop} (f : FuncId) (fn : Func) (hfn : P.funcs[f]? = some fn) (hname : (fn.name == "runtime.NumGoroutine") = false) (hb : fn.body.isNone = false) (xs : Array Operand) (ts : Array TypeId)
    (ho : o.op = .call { callee := .value (.func f), args := xs, argTypes := ts }) (vs : Array Value) (hv : xs.map a.eval = vs) {R : Ending → World → Prop} (hc : Calls P f vs w R)
    (h : ∀ en w', R en w' → ∃ v, en = .returned v ∧ K (a.put o.dst v) w') : Oper.wp P o a w K Q := by
  have hf : a.eval (.func f) = .func (.func f) #[] #[] := rfl
  have he : (execOp a.eval o).run P w = .ok (.enter f vs) w := by
    simp only [execOp, ho]
    have h1 : fn.name ≠ "runtime.NumGoroutine" := by simpa using hname
    simp [resolve, hv, hf, Deferred.ofValue, invoke, callFunc, hfn, h1]
    intro hn
    simp [hn] at hb
  unfold Oper.wp
  rw [he, Oper.upon_enter]
  refine hc.mono ?_
  intro en w' hR
  obtain ⟨v, rfl, hK⟩ := h en w' hR
  exact hK

section
variable {B : Nat} {F : Nat → Prop} {b n fl : Nat} {f : Nat → List UInt8} {w : World}

set_option maxRecDepth 100000 in
set_option maxHeartbeats 2000000 in
theorem Tr.clone (hT : Tr B F w b n fl f) (p : Nat) (hp : fl ≤ p) (hn : p ≤ n) :
    Calls Tryz.prog 47 #[.pointer (some ⟨b, 0, none⟩), .int .i64 p] w fun en w' => ∃ c, en = .returned (.pointer (some ⟨c, 0, none⟩)) ∧ w.heap.size ≤ c ∧ Tr B (fun k => w.heap.size ≤ k) w' c p fl f ∧ Below w.heap.size w w' := by
  obtain ⟨rv, hh⟩ := hT.head
  have e0 := hh.cell 0
  have e1 := hh.cell 1
  simp at e0 e1
  have hsm := hT.small
  have h3 : ¬ (fl : Int) > (p : Int) := by omega
  have h4 : ¬ (n : Int) < (p : Int) := by omega
  have h5 : (fl : Int) ≤ (p : Int) := by omega
  have h6 : (p : Int) ≤ (n : Int) := by omega
  have hm1 : max (p : Int) (fl : Int) = (p : Int) := by omega
  have hm2 : min (p : Int) (n : Int) = (p : Int) := by omega
  have HT := Lib.hid hT
  clear hT hh
  go_enter Tryz.func47, Tryz.ntmps47
  go_wp2_with fail
  go_region
  go_wp2_with fail
  have M0 : Hid ((∃ rv sv idle, Raw (fun x => w.heap.size ≤ x) (w.alloc (.cells #[.int .i64 p, .int .i64 fl, .slice none 0 0] 83)).drew w.heap.size p fl 0 (gone fl) (fun j => p / 2 ^ j) f rv sv idle) ∧ Below w.heap.size w (w.alloc (.cells #[.int .i64 p, .int .i64 fl, .slice none 0 0] 83)).drew) := by
    refine Lib.hid ⟨⟨.slice none 0 0, fun _ => .slice none 0 0, fun _ => 0, ⟨(made_at _ _ rfl).drew, Seg.nil _ _ _, ?_, ?_, Nat.le_refl _, ?_, ?_, ?_⟩⟩, ((Below.refl _ _).alloc (Nat.le_refl _) _).drew⟩
    · intro j hj; omega
    · intro i j hi; omega
    · intro x hx; cases hx
    · intro j hj; omega
    · intro j hj; omega
  generalize (w.alloc (.cells #[.int .i64 p, .int .i64 fl, .slice none 0 0] 83)).drew = W1 at M0 ⊢
  clear e0 e1 h3 h4 h5 h6 hm1 hm2
  have hps : p ≤ 1000000 := by omega
  have ht : tops p ≤ 32 := tops_small (by omega)
  go_loopw [6] (fun i wr => ∃ k : Nat, i = .int .i64 k ∧ k ≤ tops p ∧ Hid ((∃ rv sv idle, Raw (fun x => w.heap.size ≤ x) wr w.heap.size p fl k (gone fl) (fun j => p / 2 ^ j) f rv sv idle) ∧ Below w.heap.size w wr)) (fun i _ => tops p - (intOf i).toNat)
  case atStart => exact ⟨0, rfl, Nat.zero_le _, M0⟩
  case round =>
    obtain ⟨k, rfl, hk, HS⟩ := hrel
    clear M0
    obtain ⟨q, hq⟩ : ∃ q, q = p / 2 ^ k := ⟨_, rfl⟩
    have i1 : (0 : Int) ≤ (k : Int) := by omega
    have i2 : min k 64 = k := by omega
    have i3 : (p : Int) / 2 ^ k = (q : Int) := by rw [hq, Int.natCast_ediv]; simp
    by_cases hkt : k < tops p
    · have hq0 : (q : Int) > 0 := by have := div_pos hkt; omega
      have hq1 : ¬ (q : Int) ≤ 0 := by omega
      have HQ := Lib.hid hq
      clear hq
      go_wp2_with fail
      have hkn : k < tops n := lt_tops.2 (Nat.le_trans (lt_tops.1 hkt) hn)
      have TT : Tr B F wr b n fl f := HT.out.below HS.out.2
      obtain ⟨R, o, C1, hb2, v, m0, m1, hRl, hsv⟩ := TT.row hkn
      have hc5 := first_calls R (o + k * 3) k (gone fl k) (n / 2 ^ k) q v f wr.drew m0 m1 hRl hsv.drew (by rw [HQ.out]; exact gone_le k hp) (by rw [HQ.out]; exact Nat.div_le_div_right hn) (Nat.le_trans (Nat.div_le_self _ _) hsm) HT.out.len
      obtain ⟨rv, sv, idle, r⟩ := HS.out.1
      obtain ⟨a0, c0, hrv, hc1, hc2⟩ := r.rows.slice
      subst hrv
      have hkC : (k : Int) < (tops n : Int) := by omega
      have C0 : Hid ((fun V : World => V.cell? ⟨w.heap.size, 2, none⟩ = some (.slice a0 k c0) ∧ V.cell? ⟨b, 2, none⟩ = some (.slice (some ⟨R, o, none⟩) (tops n) C1)) wr) := Lib.hid ⟨r.tree.cell 2, hb2.cell 2⟩
      have HC := Lib.hid hc5
      have HR := Lib.hid r
      clear hc5 hb2 m0 m1 hsv r TT
      obtain ⟨i0, z0, hi0, hz0, hz1, hz2, hz3⟩ := rowInfo
      have HI0 := Lib.hid hi0
      have HZ0 := Lib.hid hz0
      clear hi0 hz0
      refine wp_region_quiet (fun V : World => V.cell? ⟨w.heap.size, 2, none⟩ = some (.slice a0 k c0) ∧ V.cell? ⟨b, 2, none⟩ = some (.slice (some ⟨R, o, none⟩) (tops n) C1)) [19] (by kernel_rfl) ?_
      have hC : (fun V : World => V.cell? ⟨w.heap.size, 2, none⟩ = some (.slice a0 k c0) ∧ V.cell? ⟨b, 2, none⟩ = some (.slice (some ⟨R, o, none⟩) (tops n) C1)) wr.drew := C0.out
      refine quiet_take 0 (some 31) (v := .pointer (some ⟨w.heap.size, 0, none⟩)) rfl rfl (by kernel_rfl) (by kernel_rfl) (by kernel_rfl) (fun _ _ _ h => h) (by kernel_rfl) (by kernel_rfl) (by kernel_rfl) (fun V _ => by go_simp) hC ?_
      refine quiet_take 1 (some 32) (v := .pointer (some ⟨w.heap.size, 0, none⟩)) rfl rfl (by kernel_rfl) (by kernel_rfl) (by kernel_rfl) (fun _ _ _ h => h) (by kernel_rfl) (by kernel_rfl) (by kernel_rfl) (fun V _ => by go_simp) hC ?_
      refine quiet_take 2 (some 33) (v := .pointer (some ⟨w.heap.size, 0, none⟩)) rfl rfl (by kernel_rfl) (by kernel_rfl) (by kernel_rfl) (fun _ _ _ h => h) (by kernel_rfl) (by kernel_rfl) (by kernel_rfl) (fun V _ => by go_simp) hC ?_
      refine quiet_take 3 (some 34) (v := .pointer (some ⟨w.heap.size, 2, none⟩)) rfl rfl (by kernel_rfl) (by kernel_rfl) (by kernel_rfl) (fun _ _ _ h => h) (by kernel_rfl) (by kernel_rfl) (by kernel_rfl) (fun V _ => by go_simp) hC ?_
      refine quiet_take 4 (some 35) (v := .slice a0 k c0) rfl rfl (by kernel_rfl) (by kernel_rfl) (by kernel_rfl) (fun _ _ _ h => h) (by kernel_rfl) (by kernel_rfl) (by kernel_rfl) (fun V hV => by have c1 := hV.1; go_simp) hC ?_
      simp only [Act.put, List.setIfInBounds_toArray, List.set_cons_zero, List.set_cons_succ]
      refine quiet_take 5 (some 36) (v := .pointer (some ⟨b, 0, none⟩)) rfl rfl (by kernel_rfl) (by kernel_rfl) (by kernel_rfl) (fun _ _ _ h => h) (by kernel_rfl) (by kernel_rfl) (by kernel_rfl) (fun V _ => by go_simp) hC ?_
      refine quiet_take 6 (some 37) (v := .pointer (some ⟨b, 0, none⟩)) rfl rfl (by kernel_rfl) (by kernel_rfl) (by kernel_rfl) (fun _ _ _ h => h) (by kernel_rfl) (by kernel_rfl) (by kernel_rfl) (fun V _ => by go_simp) hC ?_
      refine quiet_take 7 (some 38) (v := .pointer (some ⟨b, 2, none⟩)) rfl rfl (by kernel_rfl) (by kernel_rfl) (by kernel_rfl) (fun _ _ _ h => h) (by kernel_rfl) (by kernel_rfl) (by kernel_rfl) (fun V _ => by go_simp) hC ?_
      refine quiet_take 8 (some 39) (v := .slice (some ⟨R, o, none⟩) (tops n) C1) rfl rfl (by kernel_rfl) (by kernel_rfl) (by kernel_rfl) (fun _ _ _ h => h) (by kernel_rfl) (by kernel_rfl) (by kernel_rfl) (fun V hV => by have c1 := hV.2; go_simp) hC ?_
      simp only [Act.put, List.setIfInBounds_toArray, List.set_cons_zero, List.set_cons_succ]
      refine quiet_take 9 (some 40) (v := .int .i64 k) rfl rfl (by kernel_rfl) (by kernel_rfl) (by kernel_rfl) (fun _ _ _ h => h) (by kernel_rfl) (by kernel_rfl) (by kernel_rfl) (fun V _ => by go_simp) hC ?_
      refine quiet_take 10 (some 41) (v := .pointer (some ⟨R, o + k * 3, none⟩)) rfl rfl (by kernel_rfl) (by kernel_rfl) (by kernel_rfl) (fun _ _ _ h => h) (by kernel_rfl) (by kernel_rfl) (by kernel_rfl) (fun V _ => by go_simp) hC ?_
      refine quiet_take 11 (some 42) (v := .int .i64 p) rfl rfl (by kernel_rfl) (by kernel_rfl) (by kernel_rfl) (fun _ _ _ h => h) (by kernel_rfl) (by kernel_rfl) (by kernel_rfl) (fun V _ => by go_simp) hC ?_
      refine quiet_take 12 (some 43) (v := .int .i64 k) rfl rfl (by kernel_rfl) (by kernel_rfl) (by kernel_rfl) (fun _ _ _ h => h) (by kernel_rfl) (by kernel_rfl) (by kernel_rfl) (fun V _ => by go_simp) hC ?_
      refine quiet_take 13 (some 44) (v := .int .i64 q) rfl rfl (by kernel_rfl) (by kernel_rfl) (by kernel_rfl) (fun _ _ _ h => h) (by kernel_rfl) (by kernel_rfl) (by kernel_rfl) (fun V _ => by go_simp) hC ?_
      simp only [Act.put, List.setIfInBounds_toArray, List.set_cons_zero, List.set_cons_succ]
      refine quiet_one (i := 14) (by kernel_rfl) ?_
      refine wpOp_wp rfl (by kernel_rfl) (wp_call_op 68 Tryz.f68 Tryz.func68 (by kernel_rfl) (by kernel_rfl) _ _ rfl #[.pointer (some ⟨R, o + k * 3, none⟩), .int .i64 q] (by first | (simp [Act.eval]; done) | (simp [Act.eval, Act.put]; done)) HC.out ?_)
      rintro en w5 ⟨y, rfl, s5, o5, b5⟩
      refine ⟨_, rfl, ?_⟩
      obtain ⟨ya, yc, rfl, _, _⟩ := s5.slice
      have hbl : b < wr.heap.size := Nat.lt_of_lt_of_le HT.out.lt HS.out.2.size
      have hwl : w.heap.size < wr.heap.size := HR.out.tree.lt
      have keepC : ∀ V : World, Below wr.heap.size wr V → (fun V : World => V.cell? ⟨w.heap.size, 2, none⟩ = some (.slice a0 k c0) ∧ V.cell? ⟨b, 2, none⟩ = some (.slice (some ⟨R, o, none⟩) (tops n) C1)) V := fun V h => ⟨by
        rw [← C0.out.1]; unfold World.cell?; rw [h.block _ hwl], by
        rw [← C0.out.2]; unfold World.cell?; rw [h.block _ hbl]⟩
      have b5' : Below wr.heap.size wr w5 := ((Below.refl _ _).drew).trans b5
      have hC5 : (fun V : World => V.cell? ⟨w.heap.size, 2, none⟩ = some (.slice a0 k c0) ∧ V.cell? ⟨b, 2, none⟩ = some (.slice (some ⟨R, o, none⟩) (tops n) C1)) w5 := keepC w5 b5'
      refine ⟨fun _ => hC5, ?_⟩
      have r5 := HR.out.below b5'
      have S5 := Lib.hid (show _ ∧ _ ∧ _ ∧ _ from ⟨s5, o5, b5', r5⟩)
      clear s5 o5 b5 b5' r5 HC
      simp only [Act.put, List.setIfInBounds_toArray]
      refine quiet_one (i := 15) (by kernel_rfl) ?_
      refine wpOp_wp rfl (by kernel_rfl) (wp_build_one 81 100 _ rfl i0 z0 Tryz.underlying81 HI0.out HZ0.out #[.int .i64 (gone fl k), .slice ya (q - gone fl k) yc, .int .i64 0] rfl hz1 (by simp) (by simp) w5.heap.size rfl ?_)
      intro W6 HW6 BW6
      have T6 := Lib.hid (show _ ∧ _ ∧ _ from ⟨BW6, HW6, S5.out.2.2.2.rows.below BW6 (fun x hx => S5.out.2.2.2.rows.lt hx)⟩)
      have hC6 : (fun V : World => V.cell? ⟨w.heap.size, 2, none⟩ = some (.slice a0 k c0) ∧ V.cell? ⟨b, 2, none⟩ = some (.slice (some ⟨R, o, none⟩) (tops n) C1)) W6 := keepC W6 (S5.out.2.2.1.trans (BW6.mono S5.out.2.2.1.size))
      refine ⟨fun _ => hC6, ?_⟩
      clear HW6 BW6
      simp only [Act.put]
      refine quiet_one (i := 16) (by kernel_rfl) ?_
      refine wpOp_wp rfl (by kernel_rfl) (wp_append_seg _ (.tmp 35) (.tmp 46) 81 rfl 100 i0 z0 3 40 Tryz.underlying81 HI0.out HZ0.out hz1 hz3 hz2 (by decide) (.slice a0 k c0) k (flat (rowC (gone fl) sv idle) 0 k) rfl T6.out.2.2 ⟨w5.heap.size, 0, none⟩ 1 1 [.int .i64 (gone fl k), .slice ya (q - gone fl k) yc, .int .i64 0] rfl rfl (World.news_of_block T6.out.2.1) (by simp [Value.oneCell']) (by decide) (by unfold maxLen; omega) (by omega) _ rfl ?_)
      intro g' off' cap' w7 hown hgrow hat hlt
      have t7 : Turn (fun x => (Value.slice a0 k c0).ownBlock = some x) w5 w7 := turn_own T6.out.1 (Nat.le_refl _) hgrow
      have hat7 : (Value.slice a0 k c0).ownBlock = some g' ∨ w5.heap.size ≤ g' := hat.imp id (fun e => by rw [e]; exact T6.out.1.size)
      have T7 := Lib.hid (show _ ∧ _ ∧ _ from ⟨t7, hown, hat7⟩)
      clear t7 hown hgrow hat hlt hat7
      have hrb : (Value.slice a0 k c0).ownBlock ≠ some w.heap.size := S5.out.2.2.2.rv_b
      have htree7 : Has w7 w.heap.size 83 #[.int .i64 p, .int .i64 fl, .slice a0 k c0] := S5.out.2.2.2.tree.turn T7.out.1 hrb
      have hC7 : (fun V : World => V.cell? ⟨w.heap.size, 2, none⟩ = some (.slice a0 k c0) ∧ V.cell? ⟨b, 2, none⟩ = some (.slice (some ⟨R, o, none⟩) (tops n) C1)) w7 := ⟨htree7.cell 2, by
        rw [← C0.out.2]
        unfold World.cell?
        rw [T7.out.1.block b (Nat.lt_of_lt_of_le hbl S5.out.2.2.1.size) (fun e => by
          have := HR.out.fr b e
          have := HT.out.lt
          omega), S5.out.2.2.1.block _ hbl]⟩
      refine ⟨fun _ => hC7, ?_⟩
      have k7 := hC7.1
      have f7 : w7.frozen? ⟨w.heap.size, 2, none⟩ = false := htree7.free 2
      simp only [Act.put]
      refine quiet_take 17 (some 48) (v := .pointer (some ⟨w.heap.size, 0, none⟩)) rfl rfl (by kernel_rfl) (by kernel_rfl) (by kernel_rfl) (fun _ _ _ h => h) (by kernel_rfl) (by kernel_rfl) (by kernel_rfl) (fun V _ => by go_simp) hC7 ?_
      refine quiet_take 18 (some 49) (v := .pointer (some ⟨w.heap.size, 2, none⟩)) rfl rfl (by kernel_rfl) (by kernel_rfl) (by kernel_rfl) (fun _ _ _ h => h) (by kernel_rfl) (by kernel_rfl) (by kernel_rfl) (fun V _ => by go_simp) hC7 ?_
      simp only [Act.put]
      refine quiet_one (i := 19) (by kernel_rfl) ?_
      refine wpOp_skip (w' := w7.setCell ⟨w.heap.size, 2, none⟩ (.slice (some ⟨g', off', none⟩) (k + 1) cap')) rfl rfl (by kernel_rfl) (by go_simp) ⟨(fun h => by cases h), ?_⟩
      refine quiet_done (by kernel_rfl) ?_ _
      have r8 := S5.out.2.2.2.more_row T7.out.1 T7.out.2.1 T7.out.2.2 (by
        show Seg w5 56 32 _ (p / 2 ^ k - gone fl k) (flat _ _ (p / 2 ^ k - gone fl k))
        rw [← HQ.out]
        exact S5.out.1) (fun x hx => Nat.le_trans (Nat.le_of_lt hwl) (S5.out.2.1 x hx)) (fun x hx j hj e => by
        have h1 := (HR.out.sums j hj).lt e
        have h2 : wr.heap.size ≤ x := S5.out.2.1 x hx
        omega)
      have t8 := ((((Turn.of_below (F := fun x => w.heap.size ≤ x) HS.out.2 (fun _ _ h => h)).trans (Turn.of_below (F := fun x => wr.heap.size ≤ x) S5.out.2.2.1 (fun _ _ h => h)) (fun x h1 h2 => by omega)).trans T7.out.1 (fun x _ h2 => HR.out.fr x h2)).put (b := w.heap.size) (fun _ => Nat.le_refl _) 2 (.slice (some ⟨g', off', none⟩) (k + 1) cap')).below (Nat.le_refl _) (fun x hk h => by omega)
      have N : Hid ((∃ rv sv idle, Raw (fun x => w.heap.size ≤ x) (w7.setCell ⟨w.heap.size, 2, none⟩ (.slice (some ⟨g', off', none⟩) (k + 1) cap')) w.heap.size p fl (k + 1) (gone fl) (fun j => p / 2 ^ j) f rv sv idle) ∧ Below w.heap.size w (w7.setCell ⟨w.heap.size, 2, none⟩ (.slice (some ⟨g', off', none⟩) (k + 1) cap'))) :=
        Lib.hid ⟨⟨_, _, _, r8.more (fun x _ h => by
          rcases h with h | h
          · exact h
          · have := S5.out.2.2.1.size; omega)⟩, t8⟩
      clear r8 t8 htree7 hC7 k7 f7 T7 T6 hC6 hC5 S5 keepC hC HR HI0 HZ0 hz1 hz2 hz3 C0 hrb HS hbl hwl
      generalize w7.setCell ⟨w.heap.size, 2, none⟩ (.slice (some ⟨g', off', none⟩) (k + 1) cap') = w8 at N ⊢
      clear i2 i3 hq0 hq1
      go_wp2_with fail
      refine ⟨⟨k + 1, by rw [Int.natCast_add]; rfl, by omega, N⟩, ?_⟩
      show tops p - ((k : Int) + 1).toNat < tops p - ((k : Int)).toNat
      omega
    · obtain rfl : k = tops p := by omega
      have hq0 : ¬ (q : Int) > 0 := by have := div_zero (Nat.le_refl (tops p)); omega
      have hq1 : (q : Int) ≤ 0 := by omega
      clear hq
      go_wp2_with fail
      go_ret
      obtain ⟨⟨rv, sv, idle, r⟩, t⟩ := HS.out
      exact ⟨_, rfl, Nat.le_refl _, ⟨⟨rv, sv, idle, r⟩, HT.out.rt.below t HT.out.rt.size, fun k hk => Nat.le_trans HT.out.rt.size hk, HT.out.len, by omega, hp⟩, t⟩
end
end Go.Proofs.YtdlkdgajoafkaaaGreatDoor.dig
end

section
/- tree: New, Len, Floor, Append. -/
namespace Go.Proofs.YtdlkdgajoafkaaaGreatDoor.dig
open Go Go.RowKit

set_option maxRecDepth 100000 in
set_option maxHeartbeats 1000000 in
theorem tnew_calls (B : Nat) (f : Nat → List UInt8) (w : World) (hR : Rt B w) (hf : ∀ i, (f i).length = 32) :
    Calls Tryz.prog 13 #[] w fun en w' => ∃ b, en = .returned (.pointer (some ⟨b, 0, none⟩)) ∧ w.heap.size ≤ b ∧ Tr B (fun k => k = b) w' b 0 0 f ∧ Below w.heap.size w w' := by
  have HR := Lib.hid hR
  have HF := Lib.hid hf
  clear hR hf
  go_enter Tryz.func13, Tryz.ntmps13
  go_wp2_with fail
  go_ret
  have B0 : Below w.heap.size w (w.alloc (.cells #[.int .i64 0, .int .i64 0, .slice none 0 0] 83)) := (Below.refl _ _).alloc (Nat.le_refl _) _
  refine ⟨w.heap.size, rfl, Nat.le_refl _, ⟨⟨.slice none 0 0, fun _ => .slice none 0 0, fun _ => 0, ⟨made_at _ _ rfl, Seg.nil _ _ _, ?_, ?_, rfl, ?_, ?_, ?_⟩⟩, HR.out.below B0 HR.out.size, ?_, HF.out, by omega, by omega⟩, B0⟩
  · intro j hj; simp [tops] at hj
  · intro i j hi; simp [tops] at hi
  · intro x hx; cases hx
  · intro j hj; simp [tops] at hj
  · intro j hj; simp [tops] at hj
  · intro k hk; rw [hk]; exact HR.out.size

section
variable {B : Nat} {F : Nat → Prop} {b n fl : Nat} {f : Nat → List UInt8} {w : World}

set_option maxHeartbeats 400000 in
theorem Tr.len_calls (hT : Tr B F w b n fl f) : Calls Tryz.prog 28 #[.pointer (some ⟨b, 0, none⟩)] w fun en w' => en = .returned (.int .i64 n) ∧ w = w' := by
  obtain ⟨rv, hh⟩ := hT.head
  have e0 := hh.cell 0
  simp at e0
  clear hT hh
  go_enter Tryz.func28, Tryz.ntmps28
  go_wp2_with fail
  go_ret
  exact ⟨rfl, rfl⟩

set_option maxHeartbeats 400000 in
theorem Tr.floor_calls (hT : Tr B F w b n fl f) : Calls Tryz.prog 29 #[.pointer (some ⟨b, 0, none⟩)] w fun en w' => en = .returned (.int .i64 fl) ∧ w = w' := by
  obtain ⟨rv, hh⟩ := hT.head
  have e0 := hh.cell 1
  simp at e0
  clear hT hh
  go_enter Tryz.func29, Tryz.ntmps29
  go_wp2_with fail
  go_ret
  exact ⟨rfl, rfl⟩
end

/-- Texts that lie in a slice; none of them is long. -/
def Strs (w : World) (v : Value) (L : List ByteArray) : Prop := Seg w 9 1 v L.length (L.map Value.string) ∧ ∀ s ∈ L, s.size ≤ 1000000

set_option maxRecDepth 100000 in
set_option maxHeartbeats 2000000 in
theorem Tr.append_calls {B : Nat} {F : Nat → Prop} {b n fl : Nat} {f : Nat → List UInt8} {w : World} (hT : Tr B F w b n fl f) (a : Option Addr) (c : Nat) (L : List ByteArray) (hL : Strs w (.slice a L.length c) L)
    (hv : ∀ x, (Value.slice a L.length c).ownBlock = some x → ¬ F x) (hf : ∀ i s, L[i]? = some s → f (n + i) = leafS s.data.toList) (hn : n + L.length < 1000000) :
    Calls Tryz.prog 30 #[.pointer (some ⟨b, 0, none⟩), .slice a L.length c] w fun en w' => en = .returned (.tuple #[]) ∧ Tr B (fun k => F k ∨ w.heap.size ≤ k) w' b (n + L.length) fl f ∧ Turn F w w' := by
  have T0 : Hid (Tr B (fun k => F k ∨ w.heap.size ≤ k) w b (n + 0) fl f ∧ Turn F w w) := Lib.hid ⟨hT.more (fun _ _ h => .inl h) (fun k h => by
    rcases h with h | h
    · exact hT.hF k h
    · have := hT.rt.size; omega), Turn.refl _ _⟩
  obtain ⟨m, hm⟩ : ∃ m, m = L.length := ⟨_, rfl⟩
  obtain ⟨a', c', e, hc1, hc2⟩ := hL.1.slice
  obtain ⟨rfl, rfl⟩ : a = a' ∧ c = c' := by simpa using e
  clear e
  have hc3 : (c : Int) ≤ 9223372036854775807 := by unfold maxLen at hc2; omega
  have HL := Lib.hid hL
  have HV := Lib.hid hv
  have HF := Lib.hid hf
  have HM := Lib.hid hm
  rw [← hm] at hc1 hn ⊢
  have hmc : (m : Int) ≤ (c : Int) := by omega
  clear hL hv hf hm hc2 hT
  go_enter Tryz.func30, Tryz.ntmps30
  go_wp2_with fail
  go_loopw [8] (fun i wr => ∃ k : Nat, i = .int .i64 k ∧ k ≤ m ∧ Hid (Tr B (fun j => F j ∨ w.heap.size ≤ j) wr b (n + k) fl f ∧ Turn F w wr)) (fun i _ => m - (intOf i).toNat)
  case atStart => exact ⟨0, rfl, Nat.zero_le _, T0⟩
  case round =>
    obtain ⟨k, rfl, hk, HS⟩ := hrel
    clear T0
    by_cases hkm : k < m
    · have hk1 : (k : Int) < (m : Int) := by omega
      have hk0 : (0 : Int) ≤ (k : Int) := by omega
      obtain ⟨s, hs⟩ : ∃ s, L[k]? = some s := ⟨_, List.getElem?_eq_getElem (by rw [← HM.out]; exact hkm)⟩
      obtain ⟨R, o, C, hrv, hRl, _, _, hcc⟩ := HL.out.1.cells (by rw [← HM.out]; omega)
      simp only [Value.slice.injEq] at hrv
      obtain ⟨rfl, _, rfl⟩ := hrv
      have k0 : wr.cell? ⟨R, o + k, none⟩ = some (.string s) := by
        have h1 := hcc k (.string s) (by rw [List.getElem?_map, hs]; rfl)
        rw [← h1]
        unfold World.cell?
        rw [HS.out.2.block R hRl (HV.out R rfl)]
      have hsz : s.size ≤ 1000000 := HL.out.2 s (List.mem_of_getElem? hs)
      have HX : Hid (leafS s.data.toList = f (n + k)) := Lib.hid (HF.out k s hs).symm
      clear hcc hs
      go_wp2_with fail
      refine (leaf_calls s wr HS.out.1.rt.rk (by omega)).mono ?_
      rw [HX.out]
      rintro en w2 ⟨rfl, b2⟩
      have S2 : Hid (Tr B (fun j => F j ∨ w.heap.size ≤ j) w2 b (n + k) fl f ∧ Turn F w w2) := Lib.hid ⟨HS.out.1.below b2, HS.out.2.trans (Turn.of_below (F := fun j => wr.heap.size ≤ j) b2 (fun _ _ h => h)) (fun j h1 h2 => by have := HS.out.2.size; omega)⟩
      clear b2 HS k0 HX
      go_wp2_with fail
      refine (add_leaf_calls B _ b (n + k) fl f w2 S2.out.1 (by omega)).mono ?_
      rintro en w3 ⟨rfl, t3, u3⟩
      have S3 : Hid (Tr B (fun j => F j ∨ w.heap.size ≤ j) w3 b (n + (k + 1)) fl f ∧ Turn F w w3) := Lib.hid ⟨t3.more (fun j _ h => by
        rcases h with h | h
        · exact h
        · have := S2.out.2.size; exact .inr (by omega)) S2.out.1.hF, S2.out.2.trans u3 (fun j h1 h2 => by
        rcases h2 with h2 | h2
        · exact h2
        · omega)⟩
      clear t3 u3 S2
      go_wp2_with fail
      refine ⟨⟨k + 1, by rw [Int.natCast_add]; rfl, by omega, S3⟩, ?_⟩
      show m - ((k : Int) + 1).toNat < m - ((k : Int)).toNat
      omega
    · obtain rfl : k = m := by omega
      go_wp2_with fail
      go_end0
      exact ⟨rfl, HS.out.1, HS.out.2⟩
end Go.Proofs.YtdlkdgajoafkaaaGreatDoor.dig
end

section
/- The sums of leaves of a list of texts. -/
namespace Go.Proofs.YtdlkdgajoafkaaaGreatDoor.dig
open Go

/-- The sums of the leaves of texts. -/
def leafF (L : List ByteArray) (i : Nat) : List UInt8 := leafS ((L[i]?).getD ByteArray.empty).data.toList
theorem leafF_len (L : List ByteArray) (i : Nat) : (leafF L i).length = 32 := leafS_length _
theorem leafF_at (L : List ByteArray) (i : Nat) (s : ByteArray) (h : L[i]? = some s) : leafF L i = leafS s.data.toList := by unfold leafF; rw [h]; rfl
theorem leafF_app (L M : List ByteArray) (i : Nat) (h : i < L.length) : leafF (L ++ M) i = leafF L i := by unfold leafF; rw [List.getElem?_append_left h]
theorem leafF_take (L : List ByteArray) (n i : Nat) (h : i < n) : leafF (L.take n) i = leafF L i := by unfold leafF; rw [List.getElem?_take_of_lt h]
end Go.Proofs.YtdlkdgajoafkaaaGreatDoor.dig
end

