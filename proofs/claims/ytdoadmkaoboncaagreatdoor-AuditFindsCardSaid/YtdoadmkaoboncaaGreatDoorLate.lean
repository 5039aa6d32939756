/- A region that draws its order: values and calls that keep S, each of which comes ahead of what turns the world (a slice that is made, an append): they are walked once, in one order; then the rest, as it comes. Of no program. -/
import Derived.Test.YtdoadmkaoboncaaGreatDoorHold
namespace Go.Proofs.YtdoadmkaoboncaaGreatDoor
open Go.RowKit

section
variable {P : Program} {ops : Array Oper} {Q : Exit → Act → World → Prop} {md : Region.Mode} {S : World → Prop} {Wr : List Nat}

/-- A value that hangs on no world may be taken first. -/
theorem any_take (i : Nat) (d : Option Tmp) {oi : Oper} {v : Value} {fuel : Nat} {listed : Array Bool} {a : Act} {w : World} (hi : ops[i]? = some oi) (hd : oi.dst = d)
    (hs : Region.noSelect ops = true) (hf : Region.free md ops listed i = true) (hr : (Region.ready md ops listed).contains i = true)
    (hQ : ∀ c a w, Q (.panic c) (a.put d v) w → Q (.panic c) a w) (hw : Region.wanted oi (yielded ops a.tmps) = true) (hy : ∀ w, (execOp a.eval oi).run P w = .ok (.value v) w)
    (h : wpAny P md ops Q fuel (listed.setIfInBounds i true) (a.put d v) w) : wpAny P md ops Q (fuel + 1) listed a w := by
  subst hd
  exact wpAny_take hi hs hf hr hQ (.inl ⟨hw, hy⟩) h
/-- Just one may come up. -/
theorem any_one {i : Nat} {fuel : Nat} {listed : Array Bool} {a : Act} {w : World} (hr : Region.ready md ops listed = [i])
    (h : wpOp P ops Q i (wpAny P md ops Q fuel (listed.setIfInBounds i true)) a w) : wpAny P md ops Q (fuel + 1) listed a w :=
  wpAny_all hr (by simp) (fun j hj => by obtain rfl := List.mem_singleton.1 hj; exact h)

/-- k waits for i, by however many steps. -/
def reach (md : Region.Mode) (ops : Array Oper) : Nat → Nat → Nat → Bool
  | 0, _, _ => false
  | n + 1, k, i => waits md ops k i || (List.range ops.size).any fun c => waits md ops k c && reach md ops n c i
theorem reach_spec {listed : Array Bool} (hc : Closed md ops listed) {i : Nat} : ∀ (n k : Nat), (∀ ok, ops[k]? = some ok → ∀ e ∈ ok.after, Region.binds md e = true → listed.getD e.on true = true) → reach md ops n k i = true → listed.getD i true = true
  | 0, _, _, h => by cases h
  | n + 1, k, hk, h => by
    unfold reach at h
    rw [Bool.or_eq_true, List.any_eq_true] at h
    rcases h with h | ⟨c, _, h⟩
    · obtain ⟨o, ho, e, he, hb, rfl⟩ := waits_spec h
      exact hk o ho e he hb
    · rw [Bool.and_eq_true] at h
      obtain ⟨o, ho, e, he, hb, rfl⟩ := waits_spec h.1
      refine reach_spec hc n e.on (fun oc hoc e2 he2 hb2 => ?_) h.2
      exact hc _ oc hoc (hk o ho e he hb) e2 he2 hb2
/-- Number i has to come ahead of all of Wr. -/
def before (md : Region.Mode) (ops : Array Oper) (Wr : List Nat) (i : Nat) : Bool := Wr.all fun k => k != i && reach md ops ops.size k i
theorem before_not {i j : Nat} {listed : Array Bool} (hah : before md ops Wr i = true) (hc : Closed md ops listed) (hi : listed.getD i true = false) (hj : j ∈ Region.ready md ops listed) : j ∉ Wr := fun h => by
  unfold before at hah
  rw [List.all_eq_true] at hah
  have h2 := hah j h
  simp only [Bool.and_eq_true] at h2
  obtain ⟨oj, hoj, hall⟩ := ready_listed hj
  have := reach_spec hc ops.size j (fun ok hok e he hb => by obtain rfl : oj = ok := by rw [hoj] at hok; injection hok
                                                             exact hall e he hb) h2.2
  rw [this] at hi
  cases hi

/-- Whatever order is picked from here on, in whatever world that meets S; S holds till one of Wr comes up. -/
def AnyL (P : Program) (md : Region.Mode) (ops : Array Oper) (Q : Exit → Act → World → Prop) (S : World → Prop) (Wr : List Nat) : Nat → Array Bool → Act → Prop
  | 0, listed, a => Region.ready md ops listed = [] ∧ ∀ w, S w → Q .normal a w
  | fuel + 1, listed, a =>
    (Region.ready md ops listed = [] → ∀ w, S w → Q .normal a w) ∧
    ∀ i ∈ Region.ready md ops listed, ∀ w, S w →
      (i ∈ Wr → wpOp P ops Q i (wpAny P md ops Q fuel (listed.setIfInBounds i true)) a w) ∧
      (i ∉ Wr → wpOp P ops Q i (fun a' w' => S w' ∧ AnyL P md ops Q S Wr fuel (listed.setIfInBounds i true) a') a w)

theorem AnyL.any : ∀ (fuel : Nat) (listed : Array Bool) (a : Act) (w : World), S w → AnyL P md ops Q S Wr fuel listed a → wpAny P md ops Q fuel listed a w
  | 0, _, _, w, hs, h => ⟨h.1, h.2 w hs⟩
  | fuel + 1, _, _, w, hs, h => ⟨fun h0 => h.1 h0 w hs, fun i hi => by
      by_cases hw : i ∈ Wr
      · exact (h.2 i hi w hs).1 hw
      · exact wpOp_mono (fun a' w' h' => AnyL.any fuel _ a' w' h'.1 h'.2) ((h.2 i hi w hs).2 hw)⟩

theorem AnyL.first {i : Nat} {oi : Oper} {v : Value} (hi : ops[i]? = some oi) (hsel : ∀ (j : Nat) (o : Oper) cs b, ops[j]? = some o → o.op ≠ .select cs b)
    (hQ : ∀ c a w, Q (.panic c) (a.put oi.dst v) w → Q (.panic c) a w) (hah : before md ops Wr i = true) (hiW : i ∉ Wr) :
    ∀ (fuel : Nat) (listed : Array Bool) (a : Act),
      (∀ j oj, ops[j]? = some oj → j ≠ i → listed.getD j true = false → (∀ e ∈ oj.after, Region.binds md e = true → e.on ≠ i) → oi.apart ops oj = true) →
      i ∈ Region.ready md ops listed → Closed md ops listed → Makes P ops S oi v a →
      AnyL P md ops Q S Wr fuel (listed.setIfInBounds i true) (a.put oi.dst v) → AnyL P md ops Q S Wr (fuel + 1) listed a := by
  intro fuel
  induction fuel with
  | zero =>
    intro listed a _ hr hcl hy H
    refine ⟨fun h => (by rw [h] at hr; cases hr), fun j hj w hS => ?_⟩
    have hjW : j ∉ Wr := before_not hah hcl (mem_ready.1 hr).1 hj
    refine ⟨fun h => absurd h hjW, fun _ => ?_⟩
    by_cases hji : j = i
    · subst hji; exact hy.wpOp hi hS (fun w' hS' => ⟨hS', H⟩)
    · have := ready_mono hj hji
      rw [H.1] at this
      cases this
  | succ fuel ih =>
    intro listed a hfree hr hcl hy H
    refine ⟨fun h => (by rw [h] at hr; cases hr), fun j hj w hS => ?_⟩
    have hjW : j ∉ Wr := before_not hah hcl (mem_ready.1 hr).1 hj
    refine ⟨fun h => absurd h hjW, fun _ => ?_⟩
    by_cases hji : j = i
    · subst hji; exact hy.wpOp hi hS (fun w' hS' => ⟨hS', H⟩)
    · have h1 := (H.2 j (ready_mono hj hji) w hS).2 hjW
      obtain ⟨hjun, oj, hoj, hall⟩ := mem_ready.1 hj
      have hnot : ∀ e ∈ oj.after, Region.binds md e = true → e.on ≠ i := fun e he hb heq => by
        have h1 := hall e he hb
        have h0 := (mem_ready.1 hr).1
        rw [heq] at h1
        rcases Nat.lt_or_ge i listed.size with h' | h'
        · simp [h'] at h0 h1; rw [h0] at h1; cases h1
        · simp [Array.getElem?_eq_none h'] at h1
      have h2 := wpOp_putM hoj (hfree j oj hoj hji hjun hnot) (fun cs b => hsel i oi cs b hi) (fun cs b => hsel j oj cs b hoj) hQ hy h1
      have hfree' : ∀ k ok, ops[k]? = some ok → k ≠ i → (listed.setIfInBounds j true).getD k true = false →
          (∀ e ∈ ok.after, Region.binds md e = true → e.on ≠ i) → oi.apart ops ok = true := fun k ok hk hki hun hno => by
        refine hfree k ok hk hki ?_ hno
        by_cases hjk : j = k
        · subst hjk; exact hjun
        · rw [getD_set_ne true hjk] at hun; exact hun
      refine wpOp_mono (fun a' w' h3 => ⟨h3.2.1, ih (listed.setIfInBounds j true) a' hfree' (ready_mono hr (Ne.symm hji)) (closed_set hcl hj) h3.1 ?_⟩) h2
      rw [Array.setIfInBounds_comm _ _ hji]
      exact h3.2.2

theorem AnyL.done {listed : Array Bool} {a : Act} (hr : Region.ready md ops listed = []) (h : ∀ w, S w → Q .normal a w) :
    ∀ fuel, AnyL P md ops Q S Wr fuel listed a
  | 0 => ⟨hr, h⟩
  | _ + 1 => ⟨fun _ => h, by rw [hr]; simp⟩
/-- The first of Wr comes up, alone: from here on the world is one. -/
theorem AnyL.late {i : Nat} {fuel : Nat} {listed : Array Bool} {a : Act} (hr : Region.ready md ops listed = [i]) (hw : i ∈ Wr)
    (h : ∀ w, S w → wpOp P ops Q i (wpAny P md ops Q fuel (listed.setIfInBounds i true)) a w) : AnyL P md ops Q S Wr (fuel + 1) listed a :=
  ⟨fun h0 => (by rw [hr] at h0; cases h0), fun j hj w hS => by
    rw [hr] at hj
    obtain rfl := List.mem_singleton.1 hj
    exact ⟨fun _ => h w hS, fun h' => absurd hw h'⟩⟩

/-- Take number i: a value. -/
theorem AnyL.pure (i : Nat) (d : Option Tmp) {oi : Oper} {v : Value} {fuel : Nat} {listed : Array Bool} {a : Act} (hi : ops[i]? = some oi) (hd : oi.dst = d)
    (hs : Region.noSelect ops = true) (hf : Region.free md ops listed i = true) (hr : (Region.ready md ops listed).contains i = true)
    (hQ : ∀ c a w, Q (.panic c) (a.put d v) w → Q (.panic c) a w) (hah : (before md ops Wr i && !Wr.contains i && closedB md ops listed) = true) (hw : Region.wanted oi (yielded ops a.tmps) = true)
    (hy : ∀ w, S w → (execOp a.eval oi).run P w = .ok (.value v) w)
    (h : AnyL P md ops Q S Wr fuel (listed.setIfInBounds i true) (a.put d v)) : AnyL P md ops Q S Wr (fuel + 1) listed a := by
  subst hd
  simp only [Bool.and_eq_true] at hah
  exact AnyL.first hi (Region.noSelect_spec hs) hQ hah.1.1 (by simpa using hah.1.2) fuel listed a (Region.free_spec hi hf) (by simpa using hr) (closed_spec hah.2) (.inl ⟨hw, fun w hS => by rw [hy w hS]; exact ⟨rfl, hS⟩⟩) h
/-- Take number i: a call of a Go function, by its contract. -/
theorem AnyL.call (i : Nat) (d : Option Tmp) {oi : Oper} (v : Value) {fuel : Nat} {listed : Array Bool} {a : Act} (hi : ops[i]? = some oi) (hd : oi.dst = d)
    (hs : Region.noSelect ops = true) (hf : Region.free md ops listed i = true) (hr : (Region.ready md ops listed).contains i = true)
    (hQ : ∀ c a w, Q (.panic c) (a.put d v) w → Q (.panic c) a w) (hah : (before md ops Wr i && !Wr.contains i && closedB md ops listed) = true) (hw : Region.wanted oi (yielded ops a.tmps) = true)
    (f : FuncId) (fn : Func) (hfn : P.funcs[f]? = some fn) (hname : (fn.name == "runtime.NumGoroutine") = false) (hb : fn.body.isNone = false) (xs : Array Operand) (ts : Array TypeId)
    (ho : oi.op = .call { callee := .value (.func f), args := xs, argTypes := ts }) (vs : Array Value) (hv : xs.map a.eval = vs)
    (hc : ∀ w, S w → Calls P f vs w fun en w' => en = .returned v ∧ S w')
    (h : AnyL P md ops Q S Wr fuel (listed.setIfInBounds i true) (a.put d v)) : AnyL P md ops Q S Wr (fuel + 1) listed a := by
  subst hd
  simp only [Bool.and_eq_true] at hah
  exact AnyL.first hi (Region.noSelect_spec hs) hQ hah.1.1 (by simpa using hah.1.2) fuel listed a (Region.free_spec hi hf) (by simpa using hr) (closed_spec hah.2) (.inl ⟨hw, fun w hS => by
    have hfv : a.eval (.func f) = .func (.func f) #[] #[] := rfl
    have he : (execOp a.eval oi).run P w = .ok (.enter f vs) w := by
      simp only [execOp, ho]
      have h1 : fn.name ≠ "runtime.NumGoroutine" := by simpa using hname
      simp [resolve, hv, hfv, Deferred.ofValue, invoke, callFunc, hfn, h1]
      intro hn
      simp [hn] at hb
    rw [he]
    exact hc w hS⟩) h

/-- Number i as it comes, by a law on its operation. -/
theorem wpOp_wp {i : Nat} {o : Oper} {K : Act → World → Prop} {a : Act} {w : World} (hi : ops[i]? = some o) (hw : Region.wanted o (yielded ops a.tmps) = true) (h : Oper.wp P o a w K Q) : wpOp P ops Q i K a w := by
  unfold Go.wpOp
  simp only [hi, hw, if_true]
  exact .inl h

end
end Go.Proofs.YtdoadmkaoboncaaGreatDoor
