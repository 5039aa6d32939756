/- Texts laid into one: Hold, Late. -/
import Derived.Test.YtcdedkgkingbdaaGreatDoorQ009
section
/- A region that draws its order, where reads and calls that leave the world come ahead of stores: each of them may be taken first. Of no program. -/
namespace Go.Proofs.YtcdedkgkingbdaaGreatDoor
open Go.RowKit

section
variable {P : Program} {ops : Array Oper} {Q : Exit → Act → World → Prop} {md : Region.Mode} {C : World → Prop} {Wr : List Nat}

/-- What an operation comes to: v, and the world stays. -/
def ComesQ (P : Program) (v : Value) (w : World) : Result Next → Prop
  | .ok (.value u) w' => u = v ∧ w' = w
  | .ok (.enter f args) w' => w' = w ∧ Calls P f args w fun en w'' => en = .returned v ∧ w'' = w
  | _ => False

/-- In state a operation o makes v in every world that meets C, and leaves the world. -/
def Quiet (P : Program) (ops : Array Oper) (C : World → Prop) (o : Oper) (v : Value) (a : Act) : Prop :=
  (Region.wanted o (yielded ops a.tmps) = true ∧ ∀ w, C w → ComesQ P v w ((execOp a.eval o).run P w)) ∨
  (Region.wanted o (yielded ops a.tmps) = false ∧ v = undef)

theorem Quiet.of_same {o : Oper} {v : Value} {a a' : Act} (hy : Quiet P ops C o v a) (he : execOp a'.eval o = execOp a.eval o)
    (hw : Region.wanted o (yielded ops a'.tmps) = Region.wanted o (yielded ops a.tmps)) : Quiet P ops C o v a' := by
  unfold Quiet at *
  rw [he, hw]
  exact hy

theorem Quiet.wpOp {i : Nat} {o : Oper} {v : Value} {a : Act} (hi : ops[i]? = some o) (hy : Quiet P ops C o v a)
    {K : Act → World → Prop} {w : World} (hC : C w) (h : K (a.put o.dst v) w) : wpOp P ops Q i K a w := by
  unfold Go.wpOp
  simp only [hi]
  rcases hy with ⟨hw, hv⟩ | ⟨hw, rfl⟩
  · simp only [hw, if_true, Oper.wp]
    refine .inl ?_
    have := hv w hC
    generalize (execOp a.eval o).run P w = r at this
    cases r with
    | ok n w' =>
      cases n with
      | value u => obtain ⟨rfl, rfl⟩ := this; exact h
      | enter f args =>
        obtain ⟨rfl, hc⟩ := this
        exact Calls.mono hc fun en w'' he => by obtain ⟨rfl, rfl⟩ := he; exact h
      | _ => exact this.elim
    | halt x w' => exact this.elim
  · simp only [hw, Bool.false_eq_true, if_false]; exact h

theorem wpOp_putQ {j : Nat} {oi oj : Oper} {v : Value} (hj : ops[j]? = some oj) (hap : oi.apart ops oj = true)
    (hsi : ∀ cs b, oi.op ≠ .select cs b) (hsj : ∀ cs b, oj.op ≠ .select cs b)
    (hQ : ∀ c a w, Q (.panic c) (a.put oi.dst v) w → Q (.panic c) a w) {K : Act → World → Prop} {a : Act} {w : World}
    (hy : Quiet P ops C oi v a) (h : wpOp P ops Q j K (a.put oi.dst v) w) :
    wpOp P ops Q j (fun a' w' => Quiet P ops C oi v a' ∧ K (a'.put oi.dst v) w') a w := by
  obtain ⟨h1, h2, h3⟩ := Oper.apart_spec hap
  have keep : ∀ (a : Act), Quiet P ops C oi v a → ∀ u, Quiet P ops C oi v (a.put oj.dst u) := fun a hy u =>
    hy.of_same (execOp_put oi hsi a oj.dst u h3) (wanted_put oi a oj.dst u h3)
  have keepD : ∀ d, Quiet P ops C oi v { a with defers := d :: a.defers } := fun d => hy.of_same rfl rfl
  unfold wpOp at *
  simp only [hj] at *
  rw [wanted_put oj a oi.dst v h1] at h
  split
  · rename_i hw
    simp only [hw, if_true] at h
    rcases h with h | ⟨hasks, hlets⟩
    case inr => exact .inr ⟨by unfold Oper.asks at *; rw [execOp_put oj hsj a oi.dst v h1] at hasks; exact hasks, hlets⟩
    refine .inl ?_
    unfold Oper.wp at *
    rw [execOp_put oj hsj a oi.dst v h1] at h
    generalize (execOp a.eval oj).run P w = r at *
    cases r with
    | ok n w' =>
      cases n <;> simp only [Oper.upon] at h ⊢
      case value u => exact ⟨keep a hy u, by rw [← Act.put_comm a v u h2]; exact h⟩
      case skip => exact ⟨keep a hy _, by rw [← Act.put_comm a v undef h2]; exact h⟩
      case defer d =>
        refine ⟨keep _ (keepD d) _, ?_⟩
        rw [← Act.put_comm _ v undef h2, ← Act.put_defers]
        exact h
      case enter f args =>
        refine Calls.mono h fun e w'' he => ?_
        cases e with
        | returned u => exact ⟨keep a hy u, by rw [← Act.put_comm a v u h2]; exact he⟩
        | panicked c => exact hQ _ _ _ he
        | outgrown => exact he
      case row row args => exact Rows.mono h fun u w'' he => ⟨keep a hy u, by rw [← Act.put_comm a v u h2]; exact he⟩
    | halt x w' =>
      cases x <;> simp only [Oper.upon] at h ⊢
      case panic u => exact hQ _ _ _ h
  · rename_i hw
    simp only [hw] at h
    exact ⟨keep a hy _, by rw [← Act.put_comm a v undef h2]; exact h⟩

/-- None of the stores has come up. -/
def noneL (Wr : List Nat) (listed : Array Bool) : Bool := Wr.all fun k => !listed.getD k true

theorem noneL_set {j : Nat} {listed : Array Bool} (h : noneL Wr listed = true) (hj : j ∉ Wr) : noneL Wr (listed.setIfInBounds j true) = true := by
  unfold noneL at *
  rw [List.all_eq_true] at *
  intro k hk
  have hjk : j ≠ k := fun e => hj (e ▸ hk)
  rw [getD_set_ne true hjk]
  exact h k hk

/-- Whatever order is picked from here on; as long as no store has come up C holds. -/
def wpAnyD (P : Program) (md : Region.Mode) (ops : Array Oper) (Q : Exit → Act → World → Prop) (C : World → Prop) (Wr : List Nat) : Nat → Array Bool → Act → World → Prop
  | 0, listed, a, w => Region.ready md ops listed = [] ∧ Q .normal a w
  | fuel + 1, listed, a, w =>
    (Region.ready md ops listed = [] → Q .normal a w) ∧
    ∀ i ∈ Region.ready md ops listed, wpOp P ops Q i (fun a' w' => (noneL Wr (listed.setIfInBounds i true) = true → C w') ∧ wpAnyD P md ops Q C Wr fuel (listed.setIfInBounds i true) a' w') a w

theorem wpAny_of_D : ∀ (fuel : Nat) (listed : Array Bool) (a : Act) (w : World), wpAnyD P md ops Q C Wr fuel listed a w → wpAny P md ops Q fuel listed a w
  | 0, _, _, _, h => h
  | fuel + 1, _, _, _, h => ⟨h.1, fun i hi => wpOp_mono (fun a' w' h' => wpAny_of_D fuel _ a' w' h'.2) (h.2 i hi)⟩

/-- What came up came up behind all that it waits for. -/
def Closed (md : Region.Mode) (ops : Array Oper) (listed : Array Bool) : Prop :=
  ∀ c oc, ops[c]? = some oc → listed.getD c true = true → ∀ e ∈ oc.after, Region.binds md e = true → listed.getD e.on true = true
def closedB (md : Region.Mode) (ops : Array Oper) (listed : Array Bool) : Bool :=
  (List.range ops.size).all fun c => !listed.getD c true || ((ops[c]?.map fun o => o.after.all fun e => !Region.binds md e || listed.getD e.on true).getD true)
theorem closed_spec {listed : Array Bool} (h : closedB md ops listed = true) : Closed md ops listed := by
  intro c oc hc hl e he hb
  unfold closedB at h
  rw [List.all_eq_true] at h
  have hcl : c < ops.size := (Array.getElem?_eq_some_iff.1 hc).1
  have h1 := h c (List.mem_range.2 hcl)
  rw [hl, hc] at h1
  simp only [Bool.not_true, Bool.false_or, Option.map_some, Option.getD_some, Array.all_eq_true] at h1
  obtain ⟨q, hq, rfl⟩ := Array.mem_iff_getElem.1 he
  have h2 := h1 q hq
  rw [hb] at h2
  simpa using h2
theorem ready_listed {j : Nat} {listed : Array Bool} (hj : j ∈ Region.ready md ops listed) : ∃ oj, ops[j]? = some oj ∧ ∀ e ∈ oj.after, Region.binds md e = true → listed.getD e.on true = true := by
  obtain ⟨_, oj, hoj, hall⟩ := mem_ready.1 hj
  refine ⟨oj, hoj, fun e he hb => ?_⟩
  have := hall e he hb
  rcases Nat.lt_or_ge e.on listed.size with h | h
  · simp [h] at this ⊢; exact this
  · simp [Array.getElem?_eq_none h]
theorem closed_set {j : Nat} {listed : Array Bool} (h : Closed md ops listed) (hj : j ∈ Region.ready md ops listed) : Closed md ops (listed.setIfInBounds j true) := by
  have mono : ∀ k, listed.getD k true = true → (listed.setIfInBounds j true).getD k true = true := fun k hk => by
    by_cases e : j = k
    · subst e
      rcases Nat.lt_or_ge j listed.size with h | h
      · simp [h]
      · simp
    · rw [getD_set_ne true e]; exact hk
  intro c oc hc hl e he hb
  by_cases ec : j = c
  · subst ec
    obtain ⟨oj, hoj, hall⟩ := ready_listed hj
    obtain rfl : oj = oc := by rw [hoj] at hc; injection hc
    exact mono _ (hall e he hb)
  · rw [getD_set_ne true ec] at hl
    exact mono _ (h c oc hc hl e he hb)

/-- Operation k waits for i. -/
def waits (md : Region.Mode) (ops : Array Oper) (k i : Nat) : Bool := (ops[k]?.map fun o => o.after.any fun e => Region.binds md e && e.on == i).getD false
theorem waits_spec {k i : Nat} (h : waits md ops k i = true) : ∃ o, ops[k]? = some o ∧ ∃ e ∈ o.after, Region.binds md e = true ∧ e.on = i := by
  unfold waits at h
  cases ho : ops[k]? with
  | none => rw [ho] at h; simp at h
  | some o =>
    rw [ho] at h
    simp only [Option.map_some, Option.getD_some, Array.any_eq_true, Bool.and_eq_true] at h
    obtain ⟨q, hq, hb, he⟩ := h
    exact ⟨o, rfl, _, Array.getElem_mem hq, hb, by simpa using he⟩

/-- Number i has to come ahead of each store, by one step or by two. -/
def ahead (md : Region.Mode) (ops : Array Oper) (Wr : List Nat) (i : Nat) : Bool :=
  Wr.all fun k => k != i && (waits md ops k i || (List.range ops.size).any fun c => waits md ops k c && waits md ops c i)
theorem ahead_not {i j : Nat} {listed : Array Bool} (hah : ahead md ops Wr i = true) (hc : Closed md ops listed) (hi : listed.getD i true = false) (hj : j ∈ Region.ready md ops listed) : j ∉ Wr := fun h => by
  unfold ahead at hah
  rw [List.all_eq_true] at hah
  have h2 := hah j h
  simp only [Bool.and_eq_true, Bool.or_eq_true, List.any_eq_true] at h2
  obtain ⟨oj, hoj, hall⟩ := ready_listed hj
  rcases h2.2 with h3 | ⟨c, _, h3, h4⟩
  · obtain ⟨o, ho, e, he, hb, rfl⟩ := waits_spec h3
    obtain rfl : oj = o := by rw [hoj] at ho; injection ho
    rw [hall e he hb] at hi
    cases hi
  · obtain ⟨o, ho, e, he, hb, rfl⟩ := waits_spec h3
    obtain rfl : oj = o := by rw [hoj] at ho; injection ho
    obtain ⟨o2, ho2, e2, he2, hb2, rfl⟩ := waits_spec h4
    rw [hc _ _ ho2 (hall e he hb) e2 he2 hb2] at hi
    cases hi

theorem wpAnyD_first {i : Nat} {oi : Oper} {v : Value} (hi : ops[i]? = some oi) (hsel : ∀ (j : Nat) (o : Oper) cs b, ops[j]? = some o → o.op ≠ .select cs b)
    (hQ : ∀ c a w, Q (.panic c) (a.put oi.dst v) w → Q (.panic c) a w) (hah : ahead md ops Wr i = true) :
    ∀ (fuel : Nat) (listed : Array Bool) (a : Act) (w : World),
      (∀ j oj, ops[j]? = some oj → j ≠ i → listed.getD j true = false → (∀ e ∈ oj.after, Region.binds md e = true → e.on ≠ i) → oi.apart ops oj = true) →
      i ∈ Region.ready md ops listed → Closed md ops listed → noneL Wr listed = true → Quiet P ops C oi v a → C w →
      wpAnyD P md ops Q C Wr fuel (listed.setIfInBounds i true) (a.put oi.dst v) w → wpAnyD P md ops Q C Wr (fuel + 1) listed a w := by
  have hiW : i ∉ Wr := fun h => by
    unfold ahead at hah
    rw [List.all_eq_true] at hah
    have := hah i h
    simp at this
  intro fuel
  induction fuel with
  | zero =>
    intro listed a w _ hr hcl hn hy hC H
    refine ⟨fun h => (by rw [h] at hr; cases hr), fun j hj => ?_⟩
    by_cases hji : j = i
    · subst hji; exact hy.wpOp hi hC ⟨fun _ => hC, H⟩
    · have := ready_mono hj hji
      rw [H.1] at this
      cases this
  | succ fuel ih =>
    intro listed a w hfree hr hcl hn hy hC H
    refine ⟨fun h => (by rw [h] at hr; cases hr), fun j hj => ?_⟩
    by_cases hji : j = i
    · subst hji; exact hy.wpOp hi hC ⟨fun _ => hC, H⟩
    · have h1 := H.2 j (ready_mono hj hji)
      obtain ⟨hjun, oj, hoj, hall⟩ := mem_ready.1 hj
      have hnot : ∀ e ∈ oj.after, Region.binds md e = true → e.on ≠ i := fun e he hb heq => by
        have h1 := hall e he hb
        have h0 := (mem_ready.1 hr).1
        rw [heq] at h1
        rcases Nat.lt_or_ge i listed.size with h' | h'
        · simp [h'] at h0 h1; rw [h0] at h1; cases h1
        · simp [Array.getElem?_eq_none h'] at h1
      have hjW : j ∉ Wr := ahead_not hah hcl (mem_ready.1 hr).1 hj
      have hn2 : noneL Wr (listed.setIfInBounds j true) = true := noneL_set hn hjW
      have hn3 : noneL Wr ((listed.setIfInBounds i true).setIfInBounds j true) = true := noneL_set (noneL_set hn hiW) hjW
      have h2 := wpOp_putQ hoj (hfree j oj hoj hji hjun hnot) (fun cs b => hsel i oi cs b hi) (fun cs b => hsel j oj cs b hoj) hQ hy h1
      have hfree' : ∀ k ok, ops[k]? = some ok → k ≠ i → (listed.setIfInBounds j true).getD k true = false →
          (∀ e ∈ ok.after, Region.binds md e = true → e.on ≠ i) → oi.apart ops ok = true := fun k ok hk hki hun hno => by
        refine hfree k ok hk hki ?_ hno
        by_cases hjk : j = k
        · subst hjk; exact hjun
        · rw [getD_set_ne true hjk] at hun; exact hun
      refine wpOp_mono (fun a' w' h3 => ⟨fun _ => h3.2.1 hn3, ih (listed.setIfInBounds j true) a' w' hfree' (ready_mono hr (Ne.symm hji)) (closed_set hcl hj) hn2 h3.1 (h3.2.1 hn3) ?_⟩) h2
      rw [Array.setIfInBounds_comm _ _ hji]
      exact h3.2.2

/-- Take number i: a value. -/
theorem quiet_take (i : Nat) (d : Option Tmp) {oi : Oper} {v : Value} {fuel : Nat} {listed : Array Bool} {a : Act} {w : World} (hi : ops[i]? = some oi) (hd : oi.dst = d)
    (hs : Region.noSelect ops = true) (hf : Region.free md ops listed i = true) (hr : (Region.ready md ops listed).contains i = true)
    (hQ : ∀ c a w, Q (.panic c) (a.put d v) w → Q (.panic c) a w) (hah : (ahead md ops Wr i && closedB md ops listed) = true) (hn : noneL Wr listed = true) (hw : Region.wanted oi (yielded ops a.tmps) = true)
    (hy : ∀ w, C w → (execOp a.eval oi).run P w = .ok (.value v) w) (hC : C w)
    (h : wpAnyD P md ops Q C Wr fuel (listed.setIfInBounds i true) (a.put d v) w) : wpAnyD P md ops Q C Wr (fuel + 1) listed a w := by
  subst hd
  exact wpAnyD_first hi (Region.noSelect_spec hs) hQ (by rw [Bool.and_eq_true] at hah; exact hah.1) fuel listed a w (Region.free_spec hi hf) (by simpa using hr) (by rw [Bool.and_eq_true] at hah; exact closed_spec hah.2) hn (.inl ⟨hw, fun w hC => by rw [hy w hC]; exact ⟨rfl, rfl⟩⟩) hC h

/-- Take number i: a call that leaves the world. -/
theorem quiet_call (i : Nat) (d : Option Tmp) {oi : Oper} (v : Value) {fuel : Nat} {listed : Array Bool} {a : Act} {w : World} (hi : ops[i]? = some oi) (hd : oi.dst = d)
    (hs : Region.noSelect ops = true) (hf : Region.free md ops listed i = true) (hr : (Region.ready md ops listed).contains i = true)
    (hQ : ∀ c a w, Q (.panic c) (a.put d v) w → Q (.panic c) a w) (hah : (ahead md ops Wr i && closedB md ops listed) = true) (hn : noneL Wr listed = true) (hw : Region.wanted oi (yielded ops a.tmps) = true)
    (f : FuncId) (fn : Func) (hfn : P.funcs[f]? = some fn) (hname : (fn.name == "runtime.NumGoroutine") = false) (hb : fn.body.isNone = false) (xs : Array Operand) (ts : Array TypeId)
    (ho : oi.op = .call { callee := .value (.func f), args := xs, argTypes := ts }) (vs : Array Value) (hv : xs.map a.eval = vs)
    (hc : ∀ w, C w → Calls P f vs w fun en w' => en = .returned v ∧ w = w') (hC : C w)
    (h : wpAnyD P md ops Q C Wr fuel (listed.setIfInBounds i true) (a.put d v) w) : wpAnyD P md ops Q C Wr (fuel + 1) listed a w := by
  subst hd
  exact wpAnyD_first hi (Region.noSelect_spec hs) hQ (by rw [Bool.and_eq_true] at hah; exact hah.1) fuel listed a w (Region.free_spec hi hf) (by simpa using hr) (by rw [Bool.and_eq_true] at hah; exact closed_spec hah.2) hn (.inl ⟨hw, fun w hC => by
    have hfv : a.eval (.func f) = .func (.func f) #[] #[] := rfl
    have he : (execOp a.eval oi).run P w = .ok (.enter f vs) w := by
      simp only [execOp, ho]
      have h1 : fn.name ≠ "runtime.NumGoroutine" := by simpa using hname
      simp [resolve, hv, hfv, Deferred.ofValue, invoke, callFunc, hfn, h1]
      intro hn
      simp [hn] at hb
    rw [he]
    exact ⟨rfl, (hc w hC).mono fun _ _ h => ⟨h.1, h.2.symm⟩⟩⟩) hC h

/-- Just one may come up. -/
theorem quiet_one {i : Nat} {fuel : Nat} {listed : Array Bool} {a : Act} {w : World} (hr : Region.ready md ops listed = [i])
    (h : wpOp P ops Q i (fun a' w' => (noneL Wr (listed.setIfInBounds i true) = true → C w') ∧ wpAnyD P md ops Q C Wr fuel (listed.setIfInBounds i true) a' w') a w) : wpAnyD P md ops Q C Wr (fuel + 1) listed a w :=
  ⟨fun h0 => (by rw [hr] at h0; cases h0), fun j hj => by rw [hr] at hj; obtain rfl := List.mem_singleton.1 hj; exact h⟩

theorem quiet_done {listed : Array Bool} {a : Act} {w : World} (hr : Region.ready md ops listed = []) (h : Q .normal a w) :
    ∀ fuel, wpAnyD P md ops Q C Wr fuel listed a w
  | 0 => ⟨hr, h⟩
  | _ + 1 => ⟨fun _ => h, by rw [hr]; simp⟩

theorem wp_region_quiet {id : Nat} {a : Act} {w : World} (C : World → Prop) (Wr : List Nat) (hm : P.follows .mixedOrders = true)
    (h : wpAnyD P .any ops Q C Wr ops.size (Array.replicate ops.size false) a w.drew) : (Code.region id ops true).wp P Q a w :=
  wp_region_any hm (wpAny_of_D _ _ _ _ h)

/-- An operation that only turns the world (a store). -/
theorem wpOp_skip {i : Nat} {o : Oper} {K : Act → World → Prop} {a : Act} {w w' : World} (hi : ops[i]? = some o) (hd : o.dst = none) (hw : Region.wanted o (yielded ops a.tmps) = true)
    (hr : (execOp a.eval o).run P w = .ok .skip w') (h : K a w') : wpOp P ops Q i K a w := by
  unfold Go.wpOp
  simp only [hi, hw, if_true, Oper.wp, hr, Oper.upon, hd]
  exact .inl h

end
end Go.Proofs.YtcdedkgkingbdaaGreatDoor
end

section
/- A region that draws its order: values and calls that keep S, each of which comes ahead of what turns the world (a slice that is made, an append): they are walked once, in one order; then the rest, as it comes. Of no program. -/
namespace Go.Proofs.YtcdedkgkingbdaaGreatDoor
open Go.RowKit

section
variable {P : Program} {ops : Array Oper} {Q : Exit → Act → World → Prop} {md : Region.Mode} {S : World → Prop} {Wr : List Nat}

/-- k waits for i, by however many steps. -/
def reach (md : Region.Mode) (ops : Array Oper) : Nat → Nat → Nat → Bool
  | 0, _, _ => false
  | n + 1, k, i => waits md ops k i || (List.range ops.size).any fun c => waits md ops k c && reach md ops n c i
theorem reach_spec {listed : Array Bool} (hc : Closed md ops listed) {i : Nat} : ∀ (n k : Nat), (∀ ok, ops[k]? = some ok → ∀ e ∈ ok.after, Region.binds md e = true → listed.getD e.on true = true) → reach md ops n k i = true → listed.getD i true = true
  | 0, _, _, h => by cases h
  | n + 1, k, hk, h => by
    unfold reach at h
    rw [Bool.or_eq_true, List.any_eq_true] at h
    rcases h with h | ⟨c, _, h⟩
    · obtain ⟨o, ho, e, he, hb, rfl⟩ := waits_spec h
      exact hk o ho e he hb
    · rw [Bool.and_eq_true] at h
      obtain ⟨o, ho, e, he, hb, rfl⟩ := waits_spec h.1
      refine reach_spec hc n e.on (fun oc hoc e2 he2 hb2 => ?_) h.2
      exact hc _ oc hoc (hk o ho e he hb) e2 he2 hb2
/-- Number i has to come ahead of all of Wr. -/
def before (md : Region.Mode) (ops : Array Oper) (Wr : List Nat) (i : Nat) : Bool := Wr.all fun k => k != i && reach md ops ops.size k i
theorem before_not {i j : Nat} {listed : Array Bool} (hah : before md ops Wr i = true) (hc : Closed md ops listed) (hi : listed.getD i true = false) (hj : j ∈ Region.ready md ops listed) : j ∉ Wr := fun h => by
  unfold before at hah
  rw [List.all_eq_true] at hah
  have h2 := hah j h
  simp only [Bool.and_eq_true] at h2
  obtain ⟨oj, hoj, hall⟩ := ready_listed hj
  have := reach_spec hc ops.size j (fun ok hok e he hb => by obtain rfl : oj = ok := by rw [hoj] at hok; injection hok
                                                             exact hall e he hb) h2.2
  rw [this] at hi
  cases hi

/-- Whatever order is picked from here on, in whatever world that meets S; S holds till one of Wr comes up. -/
def AnyL (P : Program) (md : Region.Mode) (ops : Array Oper) (Q : Exit → Act → World → Prop) (S : World → Prop) (Wr : List Nat) : Nat → Array Bool → Act → Prop
  | 0, listed, a => Region.ready md ops listed = [] ∧ ∀ w, S w → Q .normal a w
  | fuel + 1, listed, a =>
    (Region.ready md ops listed = [] → ∀ w, S w → Q .normal a w) ∧
    ∀ i ∈ Region.ready md ops listed, ∀ w, S w →
      (i ∈ Wr → wpOp P ops Q i (wpAny P md ops Q fuel (listed.setIfInBounds i true)) a w) ∧
      (i ∉ Wr → wpOp P ops Q i (fun a' w' => S w' ∧ AnyL P md ops Q S Wr fuel (listed.setIfInBounds i true) a') a w)

theorem AnyL.any : ∀ (fuel : Nat) (listed : Array Bool) (a : Act) (w : World), S w → AnyL P md ops Q S Wr fuel listed a → wpAny P md ops Q fuel listed a w
  | 0, _, _, w, hs, h => ⟨h.1, h.2 w hs⟩
  | fuel + 1, _, _, w, hs, h => ⟨fun h0 => h.1 h0 w hs, fun i hi => by
      by_cases hw : i ∈ Wr
      · exact (h.2 i hi w hs).1 hw
      · exact wpOp_mono (fun a' w' h' => AnyL.any fuel _ a' w' h'.1 h'.2) ((h.2 i hi w hs).2 hw)⟩

theorem AnyL.first {i : Nat} {oi : Oper} {v : Value} (hi : ops[i]? = some oi) (hsel : ∀ (j : Nat) (o : Oper) cs b, ops[j]? = some o → o.op ≠ .select cs b)
    (hQ : ∀ c a w, Q (.panic c) (a.put oi.dst v) w → Q (.panic c) a w) (hah : before md ops Wr i = true) (hiW : i ∉ Wr) :
    ∀ (fuel : Nat) (listed : Array Bool) (a : Act),
      (∀ j oj, ops[j]? = some oj → j ≠ i → listed.getD j true = false → (∀ e ∈ oj.after, Region.binds md e = true → e.on ≠ i) → oi.apart ops oj = true) →
      i ∈ Region.ready md ops listed → Closed md ops listed → Makes P ops S oi v a →
      AnyL P md ops Q S Wr fuel (listed.setIfInBounds i true) (a.put oi.dst v) → AnyL P md ops Q S Wr (fuel + 1) listed a := by
  intro fuel
  induction fuel with
  | zero =>
    intro listed a _ hr hcl hy H
    refine ⟨fun h => (by rw [h] at hr; cases hr), fun j hj w hS => ?_⟩
    have hjW : j ∉ Wr := before_not hah hcl (mem_ready.1 hr).1 hj
    refine ⟨fun h => absurd h hjW, fun _ => ?_⟩
    by_cases hji : j = i
    · subst hji; exact hy.wpOp hi hS (fun w' hS' => ⟨hS', H⟩)
    · have := ready_mono hj hji
      rw [H.1] at this
      cases this
  | succ fuel ih =>
    intro listed a hfree hr hcl hy H
    refine ⟨fun h => (by rw [h] at hr; cases hr), fun j hj w hS => ?_⟩
    have hjW : j ∉ Wr := before_not hah hcl (mem_ready.1 hr).1 hj
    refine ⟨fun h => absurd h hjW, fun _ => ?_⟩
    by_cases hji : j = i
    · subst hji; exact hy.wpOp hi hS (fun w' hS' => ⟨hS', H⟩)
    · have h1 := (H.2 j (ready_mono hj hji) w hS).2 hjW
      obtain ⟨hjun, oj, hoj, hall⟩ := mem_ready.1 hj
      have hnot : ∀ e ∈ oj.after, Region.binds md e = true → e.on ≠ i := fun e he hb heq => by
        have h1 := hall e he hb
        have h0 := (mem_ready.1 hr).1
        rw [heq] at h1
        rcases Nat.lt_or_ge i listed.size with h' | h'
        · simp [h'] at h0 h1; rw [h0] at h1; cases h1
        · simp [Array.getElem?_eq_none h'] at h1
      have h2 := wpOp_putM hoj (hfree j oj hoj hji hjun hnot) (fun cs b => hsel i oi cs b hi) (fun cs b => hsel j oj cs b hoj) hQ hy h1
      have hfree' : ∀ k ok, ops[k]? = some ok → k ≠ i → (listed.setIfInBounds j true).getD k true = false →
          (∀ e ∈ ok.after, Region.binds md e = true → e.on ≠ i) → oi.apart ops ok = true := fun k ok hk hki hun hno => by
        refine hfree k ok hk hki ?_ hno
        by_cases hjk : j = k
        · subst hjk; exact hjun
        · rw [getD_set_ne true hjk] at hun; exact hun
      refine wpOp_mono (fun a' w' h3 => ⟨h3.2.1, ih (listed.setIfInBounds j true) a' hfree' (ready_mono hr (Ne.symm hji)) (closed_set hcl hj) h3.1 ?_⟩) h2
      rw [Array.setIfInBounds_comm _ _ hji]
      exact h3.2.2

theorem AnyL.done {listed : Array Bool} {a : Act} (hr : Region.ready md ops listed = []) (h : ∀ w, S w → Q .normal a w) :
    ∀ fuel, AnyL P md ops Q S Wr fuel listed a
  | 0 => ⟨hr, h⟩
  | _ + 1 => ⟨fun _ => h, by rw [hr]; simp⟩
/-- Take number i: a value. -/
theorem AnyL.pure (i : Nat) (d : Option Tmp) {oi : Oper} {v : Value} {fuel : Nat} {listed : Array Bool} {a : Act} (hi : ops[i]? = some oi) (hd : oi.dst = d)
    (hs : Region.noSelect ops = true) (hf : Region.free md ops listed i = true) (hr : (Region.ready md ops listed).contains i = true)
    (hQ : ∀ c a w, Q (.panic c) (a.put d v) w → Q (.panic c) a w) (hah : (before md ops Wr i && !Wr.contains i && closedB md ops listed) = true) (hw : Region.wanted oi (yielded ops a.tmps) = true)
    (hy : ∀ w, S w → (execOp a.eval oi).run P w = .ok (.value v) w)
    (h : AnyL P md ops Q S Wr fuel (listed.setIfInBounds i true) (a.put d v)) : AnyL P md ops Q S Wr (fuel + 1) listed a := by
  subst hd
  simp only [Bool.and_eq_true] at hah
  exact AnyL.first hi (Region.noSelect_spec hs) hQ hah.1.1 (by simpa using hah.1.2) fuel listed a (Region.free_spec hi hf) (by simpa using hr) (closed_spec hah.2) (.inl ⟨hw, fun w hS => by rw [hy w hS]; exact ⟨rfl, hS⟩⟩) h
/-- Take number i: a call of a Go function, by its contract. -/
theorem AnyL.call (i : Nat) (d : Option Tmp) {oi : Oper} (v : Value) {fuel : Nat} {listed : Array Bool} {a : Act} (hi : ops[i]? = some oi) (hd : oi.dst = d)
    (hs : Region.noSelect ops = true) (hf : Region.free md ops listed i = true) (hr : (Region.ready md ops listed).contains i = true)
    (hQ : ∀ c a w, Q (.panic c) (a.put d v) w → Q (.panic c) a w) (hah : (before md ops Wr i && !Wr.contains i && closedB md ops listed) = true) (hw : Region.wanted oi (yielded ops a.tmps) = true)
    (f : FuncId) (fn : Func) (hfn : P.funcs[f]? = some fn) (hname : (fn.name == "runtime.NumGoroutine") = false) (hb : fn.body.isNone = false) (xs : Array Operand) (ts : Array TypeId)
    (ho : oi.op = .call { callee := .value (.func f), args := xs, argTypes := ts }) (vs : Array Value) (hv : xs.map a.eval = vs)
    (hc : ∀ w, S w → Calls P f vs w fun en w' => en = .returned v ∧ S w')
    (h : AnyL P md ops Q S Wr fuel (listed.setIfInBounds i true) (a.put d v)) : AnyL P md ops Q S Wr (fuel + 1) listed a := by
  subst hd
  simp only [Bool.and_eq_true] at hah
  exact AnyL.first hi (Region.noSelect_spec hs) hQ hah.1.1 (by simpa using hah.1.2) fuel listed a (Region.free_spec hi hf) (by simpa using hr) (closed_spec hah.2) (.inl ⟨hw, fun w hS => by
    have hfv : a.eval (.func f) = .func (.func f) #[] #[] := rfl
    have he : (execOp a.eval oi).run P w = .ok (.enter f vs) w := by
      simp only [execOp, ho]
      have h1 : fn.name ≠ "runtime.NumGoroutine" := by simpa using hname
      simp [resolve, hv, hfv, Deferred.ofValue, invoke, callFunc, hfn, h1]
      intro hn
      simp [hn] at hb
    rw [he]
    exact hc w hS⟩) h

/-- Number i as it comes, by a law on its operation. -/
theorem wpOp_wp {i : Nat} {o : Oper} {K : Act → World → Prop} {a : Act} {w : World} (hi : ops[i]? = some o) (hw : Region.wanted o (yielded ops a.tmps) = true) (h : Oper.wp P o a w K Q) : wpOp P ops Q i K a w := by
  unfold Go.wpOp
  simp only [hi, hw, if_true]
  exact .inl h

end
end Go.Proofs.YtcdedkgkingbdaaGreatDoor
end

