/- Texts laid into one: Leaf, Hold, Late, TreeH, TreeI, TreeW, AppE. -/
import Derived.Test.YthbncejbcegmgaaDoorY001
import Derived.Test.YthbncejbcegmgaaDoorY004
import Derived.Test.YthbncejbcegmgaaDoorY002
import Derived.Test.YthbncejbcegmgaaDoorY003
section
/- The sums of leaves of a list of texts. -/
namespace Go.Proofs.YthbncejbcegmgaaDoor.dig
open Go

/-- The sums of the leaves of texts. -/
def leafF (L : List ByteArray) (i : Nat) : List UInt8 := leafS ((L[i]?).getD ByteArray.empty).data.toList
theorem leafF_len (L : List ByteArray) (i : Nat) : (leafF L i).length = 32 := leafS_length _
theorem leafF_at (L : List ByteArray) (i : Nat) (s : ByteArray) (h : L[i]? = some s) : leafF L i = leafS s.data.toList := by unfold leafF; rw [h]; rfl
theorem leafF_app (L M : List ByteArray) (i : Nat) (h : i < L.length) : leafF (L ++ M) i = leafF L i := by unfold leafF; rw [List.getElem?_append_left h]
theorem leafF_take (L : List ByteArray) (n i : Nat) (h : i < n) : leafF (L.take n) i = leafF L i := by unfold leafF; rw [List.getElem?_take_of_lt h]
end Go.Proofs.YthbncejbcegmgaaDoor.dig
end

section
/- A region that draws its order, where reads and calls that leave the world come ahead of stores: each of them may be taken first. Of no program. -/
namespace Go.Proofs.YthbncejbcegmgaaDoor
open Go.RowKit

section
variable {P : Program} {ops : Array Oper} {Q : Exit → Act → World → Prop} {md : Region.Mode} {C : World → Prop} {Wr : List Nat}

/-- What an operation comes to: v, and the world stays. -/
def ComesQ (P : Program) (v : Value) (w : World) : Result Next → Prop
  | .ok (.value u) w' => u = v ∧ w' = w
  | .ok (.enter f args) w' => w' = w ∧ Calls P f args w fun en w'' => en = .returned v ∧ w'' = w
  | _ => False

/-- In state a operation o makes v in every world that meets C, and leaves the world. -/
def Quiet (P : Program) (ops : Array Oper) (C : World → Prop) (o : Oper) (v : Value) (a : Act) : Prop :=
  (Region.wanted o (yielded ops a.tmps) = true ∧ ∀ w, C w → ComesQ P v w ((execOp a.eval o).run P w)) ∨
  (Region.wanted o (yielded ops a.tmps) = false ∧ v = undef)

theorem Quiet.of_same {o : Oper} {v : Value} {a a' : Act} (hy : Quiet P ops C o v a) (he : execOp a'.eval o = execOp a.eval o)
    (hw : Region.wanted o (yielded ops a'.tmps) = Region.wanted o (yielded ops a.tmps)) : Quiet P ops C o v a' := by
  unfold Quiet at *
  rw [he, hw]
  exact hy

theorem Quiet.wpOp {i : Nat} {o : Oper} {v : Value} {a : Act} (hi : ops[i]? = some o) (hy : Quiet P ops C o v a)
    {K : Act → World → Prop} {w : World} (hC : C w) (h : K (a.put o.dst v) w) : wpOp P ops Q i K a w := by
  unfold Go.wpOp
  simp only [hi]
  rcases hy with ⟨hw, hv⟩ | ⟨hw, rfl⟩
  · simp only [hw, if_true, Oper.wp]
    refine .inl ?_
    have := hv w hC
    generalize (execOp a.eval o).run P w = r at this
    cases r with
    | ok n w' =>
      cases n with
      | value u => obtain ⟨rfl, rfl⟩ := this; exact h
      | enter f args =>
        obtain ⟨rfl, hc⟩ := this
        exact Calls.mono hc fun en w'' he => by obtain ⟨rfl, rfl⟩ := he; exact h
      | _ => exact this.elim
    | halt x w' => exact this.elim
  · simp only [hw, Bool.false_eq_true, if_false]; exact h

theorem wpOp_putQ {j : Nat} {oi oj : Oper} {v : Value} (hj : ops[j]? = some oj) (hap : oi.apart ops oj = true)
    (hsi : ∀ cs b, oi.op ≠ .select cs b) (hsj : ∀ cs b, oj.op ≠ .select cs b)
    (hQ : ∀ c a w, Q (.panic c) (a.put oi.dst v) w → Q (.panic c) a w) {K : Act → World → Prop} {a : Act} {w : World}
    (hy : Quiet P ops C oi v a) (h : wpOp P ops Q j K (a.put oi.dst v) w) :
    wpOp P ops Q j (fun a' w' => Quiet P ops C oi v a' ∧ K (a'.put oi.dst v) w') a w := by
  obtain ⟨h1, h2, h3⟩ := Oper.apart_spec hap
  have keep : ∀ (a : Act), Quiet P ops C oi v a → ∀ u, Quiet P ops C oi v (a.put oj.dst u) := fun a hy u =>
    hy.of_same (execOp_put oi hsi a oj.dst u h3) (wanted_put oi a oj.dst u h3)
  have keepD : ∀ d, Quiet P ops C oi v { a with defers := d :: a.defers } := fun d => hy.of_same rfl rfl
  unfold wpOp at *
  simp only [hj] at *
  rw [wanted_put oj a oi.dst v h1] at h
  split
  · rename_i hw
    simp only [hw, if_true] at h
    rcases h with h | ⟨hasks, hlets⟩
    case inr => exact .inr ⟨by unfold Oper.asks at *; rw [execOp_put oj hsj a oi.dst v h1] at hasks; exact hasks, hlets⟩
    refine .inl ?_
    unfold Oper.wp at *
    rw [execOp_put oj hsj a oi.dst v h1] at h
    generalize (execOp a.eval oj).run P w = r at *
    cases r with
    | ok n w' =>
      cases n <;> simp only [Oper.upon] at h ⊢
      case value u => exact ⟨keep a hy u, by rw [← Act.put_comm a v u h2]; exact h⟩
      case skip => exact ⟨keep a hy _, by rw [← Act.put_comm a v undef h2]; exact h⟩
      case defer d =>
        refine ⟨keep _ (keepD d) _, ?_⟩
        rw [← Act.put_comm _ v undef h2, ← Act.put_defers]
        exact h
      case enter f args =>
        refine Calls.mono h fun e w'' he => ?_
        cases e with
        | returned u => exact ⟨keep a hy u, by rw [← Act.put_comm a v u h2]; exact he⟩
        | panicked c => exact hQ _ _ _ he
        | outgrown => exact he
      case row row args => exact Rows.mono h fun u w'' he => ⟨keep a hy u, by rw [← Act.put_comm a v u h2]; exact he⟩
    | halt x w' =>
      cases x <;> simp only [Oper.upon] at h ⊢
      case panic u => exact hQ _ _ _ h
  · rename_i hw
    simp only [hw] at h
    exact ⟨keep a hy _, by rw [← Act.put_comm a v undef h2]; exact h⟩

/-- None of the stores has come up. -/
def noneL (Wr : List Nat) (listed : Array Bool) : Bool := Wr.all fun k => !listed.getD k true

theorem noneL_set {j : Nat} {listed : Array Bool} (h : noneL Wr listed = true) (hj : j ∉ Wr) : noneL Wr (listed.setIfInBounds j true) = true := by
  unfold noneL at *
  rw [List.all_eq_true] at *
  intro k hk
  have hjk : j ≠ k := fun e => hj (e ▸ hk)
  rw [getD_set_ne true hjk]
  exact h k hk

/-- Whatever order is picked from here on; as long as no store has come up C holds. -/
def wpAnyD (P : Program) (md : Region.Mode) (ops : Array Oper) (Q : Exit → Act → World → Prop) (C : World → Prop) (Wr : List Nat) : Nat → Array Bool → Act → World → Prop
  | 0, listed, a, w => Region.ready md ops listed = [] ∧ Q .normal a w
  | fuel + 1, listed, a, w =>
    (Region.ready md ops listed = [] → Q .normal a w) ∧
    ∀ i ∈ Region.ready md ops listed, wpOp P ops Q i (fun a' w' => (noneL Wr (listed.setIfInBounds i true) = true → C w') ∧ wpAnyD P md ops Q C Wr fuel (listed.setIfInBounds i true) a' w') a w

theorem wpAny_of_D : ∀ (fuel : Nat) (listed : Array Bool) (a : Act) (w : World), wpAnyD P md ops Q C Wr fuel listed a w → wpAny P md ops Q fuel listed a w
  | 0, _, _, _, h => h
  | fuel + 1, _, _, _, h => ⟨h.1, fun i hi => wpOp_mono (fun a' w' h' => wpAny_of_D fuel _ a' w' h'.2) (h.2 i hi)⟩

/-- What came up came up behind all that it waits for. -/
def Closed (md : Region.Mode) (ops : Array Oper) (listed : Array Bool) : Prop :=
  ∀ c oc, ops[c]? = some oc → listed.getD c true = true → ∀ e ∈ oc.after, Region.binds md e = true → listed.getD e.on true = true
def closedB (md : Region.Mode) (ops : Array Oper) (listed : Array Bool) : Bool :=
  (List.range ops.size).all fun c => !listed.getD c true || ((ops[c]?.map fun o => o.after.all fun e => !Region.binds md e || listed.getD e.on true).getD true)
theorem closed_spec {listed : Array Bool} (h : closedB md ops listed = true) : Closed md ops listed := by
  intro c oc hc hl e he hb
  unfold closedB at h
  rw [List.all_eq_true] at h
  have hcl : c < ops.size := (Array.getElem?_eq_some_iff.1 hc).1
  have h1 := h c (List.mem_range.2 hcl)
  rw [hl, hc] at h1
  simp only [Bool.not_true, Bool.false_or, Option.map_some, Option.getD_some, Array.all_eq_true] at h1
  obtain ⟨q, hq, rfl⟩ := Array.mem_iff_getElem.1 he
  have h2 := h1 q hq
  rw [hb] at h2
  simpa using h2
theorem ready_listed {j : Nat} {listed : Array Bool} (hj : j ∈ Region.ready md ops listed) : ∃ oj, ops[j]? = some oj ∧ ∀ e ∈ oj.after, Region.binds md e = true → listed.getD e.on true = true := by
  obtain ⟨_, oj, hoj, hall⟩ := mem_ready.1 hj
  refine ⟨oj, hoj, fun e he hb => ?_⟩
  have := hall e he hb
  rcases Nat.lt_or_ge e.on listed.size with h | h
  · simp [h] at this ⊢; exact this
  · simp [Array.getElem?_eq_none h]
theorem closed_set {j : Nat} {listed : Array Bool} (h : Closed md ops listed) (hj : j ∈ Region.ready md ops listed) : Closed md ops (listed.setIfInBounds j true) := by
  have mono : ∀ k, listed.getD k true = true → (listed.setIfInBounds j true).getD k true = true := fun k hk => by
    by_cases e : j = k
    · subst e
      rcases Nat.lt_or_ge j listed.size with h | h
      · simp [h]
      · simp
    · rw [getD_set_ne true e]; exact hk
  intro c oc hc hl e he hb
  by_cases ec : j = c
  · subst ec
    obtain ⟨oj, hoj, hall⟩ := ready_listed hj
    obtain rfl : oj = oc := by rw [hoj] at hc; injection hc
    exact mono _ (hall e he hb)
  · rw [getD_set_ne true ec] at hl
    exact mono _ (h c oc hc hl e he hb)

/-- Operation k waits for i. -/
def waits (md : Region.Mode) (ops : Array Oper) (k i : Nat) : Bool := (ops[k]?.map fun o => o.after.any fun e => Region.binds md e && e.on == i).getD false
theorem waits_spec {k i : Nat} (h : waits md ops k i = true) : ∃ o, ops[k]? = some o ∧ ∃ e ∈ o.after, Region.binds md e = true ∧ e.on = i := by
  unfold waits at h
  cases ho : ops[k]? with
  | none => rw [ho] at h; simp at h
  | some o =>
    rw [ho] at h
    simp only [Option.map_some, Option.getD_some, Array.any_eq_true, Bool.and_eq_true] at h
    obtain ⟨q, hq, hb, he⟩ := h
    exact ⟨o, rfl, _, Array.getElem_mem hq, hb, by simpa using he⟩

/-- Number i has to come ahead of each store, by one step or by two. -/
def ahead (md : Region.Mode) (ops : Array Oper) (Wr : List Nat) (i : Nat) : Bool :=
  Wr.all fun k => k != i && (waits md ops k i || (List.range ops.size).any fun c => waits md ops k c && waits md ops c i)
theorem ahead_not {i j : Nat} {listed : Array Bool} (hah : ahead md ops Wr i = true) (hc : Closed md ops listed) (hi : listed.getD i true = false) (hj : j ∈ Region.ready md ops listed) : j ∉ Wr := fun h => by
  unfold ahead at hah
  rw [List.all_eq_true] at hah
  have h2 := hah j h
  simp only [Bool.and_eq_true, Bool.or_eq_true, List.any_eq_true] at h2
  obtain ⟨oj, hoj, hall⟩ := ready_listed hj
  rcases h2.2 with h3 | ⟨c, _, h3, h4⟩
  · obtain ⟨o, ho, e, he, hb, rfl⟩ := waits_spec h3
    obtain rfl : oj = o := by rw [hoj] at ho; injection ho
    rw [hall e he hb] at hi
    cases hi
  · obtain ⟨o, ho, e, he, hb, rfl⟩ := waits_spec h3
    obtain rfl : oj = o := by rw [hoj] at ho; injection ho
    obtain ⟨o2, ho2, e2, he2, hb2, rfl⟩ := waits_spec h4
    rw [hc _ _ ho2 (hall e he hb) e2 he2 hb2] at hi
    cases hi

theorem wpAnyD_first {i : Nat} {oi : Oper} {v : Value} (hi : ops[i]? = some oi) (hsel : ∀ (j : Nat) (o : Oper) cs b, ops[j]? = some o → o.op ≠ .select cs b)
    (hQ : ∀ c a w, Q (.panic c) (a.put oi.dst v) w → Q (.panic c) a w) (hah : ahead md ops Wr i = true) :
    ∀ (fuel : Nat) (listed : Array Bool) (a : Act) (w : World),
      (∀ j oj, ops[j]? = some oj → j ≠ i → listed.getD j true = false → (∀ e ∈ oj.after, Region.binds md e = true → e.on ≠ i) → oi.apart ops oj = true) →
      i ∈ Region.ready md ops listed → Closed md ops listed → noneL Wr listed = true → Quiet P ops C oi v a → C w →
      wpAnyD P md ops Q C Wr fuel (listed.setIfInBounds i true) (a.put oi.dst v) w → wpAnyD P md ops Q C Wr (fuel + 1) listed a w := by
  have hiW : i ∉ Wr := fun h => by
    unfold ahead at hah
    rw [List.all_eq_true] at hah
    have := hah i h
    simp at this
  intro fuel
  induction fuel with
  | zero =>
    intro listed a w _ hr hcl hn hy hC H
    refine ⟨fun h => (by rw [h] at hr; cases hr), fun j hj => ?_⟩
    by_cases hji : j = i
    · subst hji; exact hy.wpOp hi hC ⟨fun _ => hC, H⟩
    · have := ready_mono hj hji
      rw [H.1] at this
      cases this
  | succ fuel ih =>
    intro listed a w hfree hr hcl hn hy hC H
    refine ⟨fun h => (by rw [h] at hr; cases hr), fun j hj => ?_⟩
    by_cases hji : j = i
    · subst hji; exact hy.wpOp hi hC ⟨fun _ => hC, H⟩
    · have h1 := H.2 j (ready_mono hj hji)
      obtain ⟨hjun, oj, hoj, hall⟩ := mem_ready.1 hj
      have hnot : ∀ e ∈ oj.after, Region.binds md e = true → e.on ≠ i := fun e he hb heq => by
        have h1 := hall e he hb
        have h0 := (mem_ready.1 hr).1
        rw [heq] at h1
        rcases Nat.lt_or_ge i listed.size with h' | h'
        · simp [h'] at h0 h1; rw [h0] at h1; cases h1
        · simp [Array.getElem?_eq_none h'] at h1
      have hjW : j ∉ Wr := ahead_not hah hcl (mem_ready.1 hr).1 hj
      have hn2 : noneL Wr (listed.setIfInBounds j true) = true := noneL_set hn hjW
      have hn3 : noneL Wr ((listed.setIfInBounds i true).setIfInBounds j true) = true := noneL_set (noneL_set hn hiW) hjW
      have h2 := wpOp_putQ hoj (hfree j oj hoj hji hjun hnot) (fun cs b => hsel i oi cs b hi) (fun cs b => hsel j oj cs b hoj) hQ hy h1
      have hfree' : ∀ k ok, ops[k]? = some ok → k ≠ i → (listed.setIfInBounds j true).getD k true = false →
          (∀ e ∈ ok.after, Region.binds md e = true → e.on ≠ i) → oi.apart ops ok = true := fun k ok hk hki hun hno => by
        refine hfree k ok hk hki ?_ hno
        by_cases hjk : j = k
        · subst hjk; exact hjun
        · rw [getD_set_ne true hjk] at hun; exact hun
      refine wpOp_mono (fun a' w' h3 => ⟨fun _ => h3.2.1 hn3, ih (listed.setIfInBounds j true) a' w' hfree' (ready_mono hr (Ne.symm hji)) (closed_set hcl hj) hn2 h3.1 (h3.2.1 hn3) ?_⟩) h2
      rw [Array.setIfInBounds_comm _ _ hji]
      exact h3.2.2

/-- Take number i: a value. -/
theorem quiet_take (i : Nat) (d : Option Tmp) {oi : Oper} {v : Value} {fuel : Nat} {listed : Array Bool} {a : Act} {w : World} (hi : ops[i]? = some oi) (hd : oi.dst = d)
    (hs : Region.noSelect ops = true) (hf : Region.free md ops listed i = true) (hr : (Region.ready md ops listed).contains i = true)
    (hQ : ∀ c a w, Q (.panic c) (a.put d v) w → Q (.panic c) a w) (hah : (ahead md ops Wr i && closedB md ops listed) = true) (hn : noneL Wr listed = true) (hw : Region.wanted oi (yielded ops a.tmps) = true)
    (hy : ∀ w, C w → (execOp a.eval oi).run P w = .ok (.value v) w) (hC : C w)
    (h : wpAnyD P md ops Q C Wr fuel (listed.setIfInBounds i true) (a.put d v) w) : wpAnyD P md ops Q C Wr (fuel + 1) listed a w := by
  subst hd
  exact wpAnyD_first hi (Region.noSelect_spec hs) hQ (by rw [Bool.and_eq_true] at hah; exact hah.1) fuel listed a w (Region.free_spec hi hf) (by simpa using hr) (by rw [Bool.and_eq_true] at hah; exact closed_spec hah.2) hn (.inl ⟨hw, fun w hC => by rw [hy w hC]; exact ⟨rfl, rfl⟩⟩) hC h

/-- Take number i: a call that leaves the world. -/
theorem quiet_call (i : Nat) (d : Option Tmp) {oi : Oper} (v : Value) {fuel : Nat} {listed : Array Bool} {a : Act} {w : World} (hi : ops[i]? = some oi) (hd : oi.dst = d)
    (hs : Region.noSelect ops = true) (hf : Region.free md ops listed i = true) (hr : (Region.ready md ops listed).contains i = true)
    (hQ : ∀ c a w, Q (.panic c) (a.put d v) w → Q (.panic c) a w) (hah : (ahead md ops Wr i && closedB md ops listed) = true) (hn : noneL Wr listed = true) (hw : Region.wanted oi (yielded ops a.tmps) = true)
    (f : FuncId) (fn : Func) (hfn : P.funcs[f]? = some fn) (hname : (fn.name == "runtime.NumGoroutine") = false) (hb : fn.body.isNone = false) (xs : Array Operand) (ts : Array TypeId)
    (ho : oi.op = .call { callee := .value (.func f), args := xs, argTypes := ts }) (vs : Array Value) (hv : xs.map a.eval = vs)
    (hc : ∀ w, C w → Calls P f vs w fun en w' => en = .returned v ∧ w = w') (hC : C w)
    (h : wpAnyD P md ops Q C Wr fuel (listed.setIfInBounds i true) (a.put d v) w) : wpAnyD P md ops Q C Wr (fuel + 1) listed a w := by
  subst hd
  exact wpAnyD_first hi (Region.noSelect_spec hs) hQ (by rw [Bool.and_eq_true] at hah; exact hah.1) fuel listed a w (Region.free_spec hi hf) (by simpa using hr) (by rw [Bool.and_eq_true] at hah; exact closed_spec hah.2) hn (.inl ⟨hw, fun w hC => by
    have hfv : a.eval (.func f) = .func (.func f) #[] #[] := rfl
    have he : (execOp a.eval oi).run P w = .ok (.enter f vs) w := by
      simp only [execOp, ho]
      have h1 : fn.name ≠ "runtime.NumGoroutine" := by simpa using hname
      simp [resolve, hv, hfv, Deferred.ofValue, invoke, callFunc, hfn, h1]
      intro hn
      simp [hn] at hb
    rw [he]
    exact ⟨rfl, (hc w hC).mono fun _ _ h => ⟨h.1, h.2.symm⟩⟩⟩) hC h

/-- Just one may come up. -/
theorem quiet_one {i : Nat} {fuel : Nat} {listed : Array Bool} {a : Act} {w : World} (hr : Region.ready md ops listed = [i])
    (h : wpOp P ops Q i (fun a' w' => (noneL Wr (listed.setIfInBounds i true) = true → C w') ∧ wpAnyD P md ops Q C Wr fuel (listed.setIfInBounds i true) a' w') a w) : wpAnyD P md ops Q C Wr (fuel + 1) listed a w :=
  ⟨fun h0 => (by rw [hr] at h0; cases h0), fun j hj => by rw [hr] at hj; obtain rfl := List.mem_singleton.1 hj; exact h⟩

theorem quiet_done {listed : Array Bool} {a : Act} {w : World} (hr : Region.ready md ops listed = []) (h : Q .normal a w) :
    ∀ fuel, wpAnyD P md ops Q C Wr fuel listed a w
  | 0 => ⟨hr, h⟩
  | _ + 1 => ⟨fun _ => h, by rw [hr]; simp⟩

theorem wp_region_quiet {id : Nat} {a : Act} {w : World} (C : World → Prop) (Wr : List Nat) (hm : P.follows .mixedOrders = true)
    (h : wpAnyD P .any ops Q C Wr ops.size (Array.replicate ops.size false) a w.drew) : (Code.region id ops true).wp P Q a w :=
  wp_region_any hm (wpAny_of_D _ _ _ _ h)

/-- An operation that only turns the world (a store). -/
theorem wpOp_skip {i : Nat} {o : Oper} {K : Act → World → Prop} {a : Act} {w w' : World} (hi : ops[i]? = some o) (hd : o.dst = none) (hw : Region.wanted o (yielded ops a.tmps) = true)
    (hr : (execOp a.eval o).run P w = .ok .skip w') (h : K a w') : wpOp P ops Q i K a w := by
  unfold Go.wpOp
  simp only [hi, hw, if_true, Oper.wp, hr, Oper.upon, hd]
  exact .inl h

end
end Go.Proofs.YthbncejbcegmgaaDoor
end

section
/- A region that draws its order: values and calls that keep S, each of which comes ahead of what turns the world (a slice that is made, an append): they are walked once, in one order; then the rest, as it comes. Of no program. -/
namespace Go.Proofs.YthbncejbcegmgaaDoor
open Go.RowKit

section
variable {P : Program} {ops : Array Oper} {Q : Exit → Act → World → Prop} {md : Region.Mode} {S : World → Prop} {Wr : List Nat}

/-- A value that hangs on no world may be taken first. -/
theorem any_take (i : Nat) (d : Option Tmp) {oi : Oper} {v : Value} {fuel : Nat} {listed : Array Bool} {a : Act} {w : World} (hi : ops[i]? = some oi) (hd : oi.dst = d)
    (hs : Region.noSelect ops = true) (hf : Region.free md ops listed i = true) (hr : (Region.ready md ops listed).contains i = true)
    (hQ : ∀ c a w, Q (.panic c) (a.put d v) w → Q (.panic c) a w) (hw : Region.wanted oi (yielded ops a.tmps) = true) (hy : ∀ w, (execOp a.eval oi).run P w = .ok (.value v) w)
    (h : wpAny P md ops Q fuel (listed.setIfInBounds i true) (a.put d v) w) : wpAny P md ops Q (fuel + 1) listed a w := by
  subst hd
  exact wpAny_take hi hs hf hr hQ (.inl ⟨hw, hy⟩) h
/-- Just one may come up. -/
theorem any_one {i : Nat} {fuel : Nat} {listed : Array Bool} {a : Act} {w : World} (hr : Region.ready md ops listed = [i])
    (h : wpOp P ops Q i (wpAny P md ops Q fuel (listed.setIfInBounds i true)) a w) : wpAny P md ops Q (fuel + 1) listed a w :=
  wpAny_all hr (by simp) (fun j hj => by obtain rfl := List.mem_singleton.1 hj; exact h)

/-- k waits for i, by however many steps. -/
def reach (md : Region.Mode) (ops : Array Oper) : Nat → Nat → Nat → Bool
  | 0, _, _ => false
  | n + 1, k, i => waits md ops k i || (List.range ops.size).any fun c => waits md ops k c && reach md ops n c i
theorem reach_spec {listed : Array Bool} (hc : Closed md ops listed) {i : Nat} : ∀ (n k : Nat), (∀ ok, ops[k]? = some ok → ∀ e ∈ ok.after, Region.binds md e = true → listed.getD e.on true = true) → reach md ops n k i = true → listed.getD i true = true
  | 0, _, _, h => by cases h
  | n + 1, k, hk, h => by
    unfold reach at h
    rw [Bool.or_eq_true, List.any_eq_true] at h
    rcases h with h | ⟨c, _, h⟩
    · obtain ⟨o, ho, e, he, hb, rfl⟩ := waits_spec h
      exact hk o ho e he hb
    · rw [Bool.and_eq_true] at h
      obtain ⟨o, ho, e, he, hb, rfl⟩ := waits_spec h.1
      refine reach_spec hc n e.on (fun oc hoc e2 he2 hb2 => ?_) h.2
      exact hc _ oc hoc (hk o ho e he hb) e2 he2 hb2
/-- Number i has to come ahead of all of Wr. -/
def before (md : Region.Mode) (ops : Array Oper) (Wr : List Nat) (i : Nat) : Bool := Wr.all fun k => k != i && reach md ops ops.size k i
theorem before_not {i j : Nat} {listed : Array Bool} (hah : before md ops Wr i = true) (hc : Closed md ops listed) (hi : listed.getD i true = false) (hj : j ∈ Region.ready md ops listed) : j ∉ Wr := fun h => by
  unfold before at hah
  rw [List.all_eq_true] at hah
  have h2 := hah j h
  simp only [Bool.and_eq_true] at h2
  obtain ⟨oj, hoj, hall⟩ := ready_listed hj
  have := reach_spec hc ops.size j (fun ok hok e he hb => by obtain rfl : oj = ok := by rw [hoj] at hok; injection hok
                                                             exact hall e he hb) h2.2
  rw [this] at hi
  cases hi

/-- Whatever order is picked from here on, in whatever world that meets S; S holds till one of Wr comes up. -/
def AnyL (P : Program) (md : Region.Mode) (ops : Array Oper) (Q : Exit → Act → World → Prop) (S : World → Prop) (Wr : List Nat) : Nat → Array Bool → Act → Prop
  | 0, listed, a => Region.ready md ops listed = [] ∧ ∀ w, S w → Q .normal a w
  | fuel + 1, listed, a =>
    (Region.ready md ops listed = [] → ∀ w, S w → Q .normal a w) ∧
    ∀ i ∈ Region.ready md ops listed, ∀ w, S w →
      (i ∈ Wr → wpOp P ops Q i (wpAny P md ops Q fuel (listed.setIfInBounds i true)) a w) ∧
      (i ∉ Wr → wpOp P ops Q i (fun a' w' => S w' ∧ AnyL P md ops Q S Wr fuel (listed.setIfInBounds i true) a') a w)

theorem AnyL.any : ∀ (fuel : Nat) (listed : Array Bool) (a : Act) (w : World), S w → AnyL P md ops Q S Wr fuel listed a → wpAny P md ops Q fuel listed a w
  | 0, _, _, w, hs, h => ⟨h.1, h.2 w hs⟩
  | fuel + 1, _, _, w, hs, h => ⟨fun h0 => h.1 h0 w hs, fun i hi => by
      by_cases hw : i ∈ Wr
      · exact (h.2 i hi w hs).1 hw
      · exact wpOp_mono (fun a' w' h' => AnyL.any fuel _ a' w' h'.1 h'.2) ((h.2 i hi w hs).2 hw)⟩

theorem AnyL.first {i : Nat} {oi : Oper} {v : Value} (hi : ops[i]? = some oi) (hsel : ∀ (j : Nat) (o : Oper) cs b, ops[j]? = some o → o.op ≠ .select cs b)
    (hQ : ∀ c a w, Q (.panic c) (a.put oi.dst v) w → Q (.panic c) a w) (hah : before md ops Wr i = true) (hiW : i ∉ Wr) :
    ∀ (fuel : Nat) (listed : Array Bool) (a : Act),
      (∀ j oj, ops[j]? = some oj → j ≠ i → listed.getD j true = false → (∀ e ∈ oj.after, Region.binds md e = true → e.on ≠ i) → oi.apart ops oj = true) →
      i ∈ Region.ready md ops listed → Closed md ops listed → Makes P ops S oi v a →
      AnyL P md ops Q S Wr fuel (listed.setIfInBounds i true) (a.put oi.dst v) → AnyL P md ops Q S Wr (fuel + 1) listed a := by
  intro fuel
  induction fuel with
  | zero =>
    intro listed a _ hr hcl hy H
    refine ⟨fun h => (by rw [h] at hr; cases hr), fun j hj w hS => ?_⟩
    have hjW : j ∉ Wr := before_not hah hcl (mem_ready.1 hr).1 hj
    refine ⟨fun h => absurd h hjW, fun _ => ?_⟩
    by_cases hji : j = i
    · subst hji; exact hy.wpOp hi hS (fun w' hS' => ⟨hS', H⟩)
    · have := ready_mono hj hji
      rw [H.1] at this
      cases this
  | succ fuel ih =>
    intro listed a hfree hr hcl hy H
    refine ⟨fun h => (by rw [h] at hr; cases hr), fun j hj w hS => ?_⟩
    have hjW : j ∉ Wr := before_not hah hcl (mem_ready.1 hr).1 hj
    refine ⟨fun h => absurd h hjW, fun _ => ?_⟩
    by_cases hji : j = i
    · subst hji; exact hy.wpOp hi hS (fun w' hS' => ⟨hS', H⟩)
    · have h1 := (H.2 j (ready_mono hj hji) w hS).2 hjW
      obtain ⟨hjun, oj, hoj, hall⟩ := mem_ready.1 hj
      have hnot : ∀ e ∈ oj.after, Region.binds md e = true → e.on ≠ i := fun e he hb heq => by
        have h1 := hall e he hb
        have h0 := (mem_ready.1 hr).1
        rw [heq] at h1
        rcases Nat.lt_or_ge i listed.size with h' | h'
        · simp [h'] at h0 h1; rw [h0] at h1; cases h1
        · simp [Array.getElem?_eq_none h'] at h1
      have h2 := wpOp_putM hoj (hfree j oj hoj hji hjun hnot) (fun cs b => hsel i oi cs b hi) (fun cs b => hsel j oj cs b hoj) hQ hy h1
      have hfree' : ∀ k ok, ops[k]? = some ok → k ≠ i → (listed.setIfInBounds j true).getD k true = false →
          (∀ e ∈ ok.after, Region.binds md e = true → e.on ≠ i) → oi.apart ops ok = true := fun k ok hk hki hun hno => by
        refine hfree k ok hk hki ?_ hno
        by_cases hjk : j = k
        · subst hjk; exact hjun
        · rw [getD_set_ne true hjk] at hun; exact hun
      refine wpOp_mono (fun a' w' h3 => ⟨h3.2.1, ih (listed.setIfInBounds j true) a' hfree' (ready_mono hr (Ne.symm hji)) (closed_set hcl hj) h3.1 ?_⟩) h2
      rw [Array.setIfInBounds_comm _ _ hji]
      exact h3.2.2

theorem AnyL.done {listed : Array Bool} {a : Act} (hr : Region.ready md ops listed = []) (h : ∀ w, S w → Q .normal a w) :
    ∀ fuel, AnyL P md ops Q S Wr fuel listed a
  | 0 => ⟨hr, h⟩
  | _ + 1 => ⟨fun _ => h, by rw [hr]; simp⟩
/-- The first of Wr comes up, alone: from here on the world is one. -/
theorem AnyL.late {i : Nat} {fuel : Nat} {listed : Array Bool} {a : Act} (hr : Region.ready md ops listed = [i]) (hw : i ∈ Wr)
    (h : ∀ w, S w → wpOp P ops Q i (wpAny P md ops Q fuel (listed.setIfInBounds i true)) a w) : AnyL P md ops Q S Wr (fuel + 1) listed a :=
  ⟨fun h0 => (by rw [hr] at h0; cases h0), fun j hj w hS => by
    rw [hr] at hj
    obtain rfl := List.mem_singleton.1 hj
    exact ⟨fun _ => h w hS, fun h' => absurd hw h'⟩⟩

/-- Take number i: a value. -/
theorem AnyL.pure (i : Nat) (d : Option Tmp) {oi : Oper} {v : Value} {fuel : Nat} {listed : Array Bool} {a : Act} (hi : ops[i]? = some oi) (hd : oi.dst = d)
    (hs : Region.noSelect ops = true) (hf : Region.free md ops listed i = true) (hr : (Region.ready md ops listed).contains i = true)
    (hQ : ∀ c a w, Q (.panic c) (a.put d v) w → Q (.panic c) a w) (hah : (before md ops Wr i && !Wr.contains i && closedB md ops listed) = true) (hw : Region.wanted oi (yielded ops a.tmps) = true)
    (hy : ∀ w, S w → (execOp a.eval oi).run P w = .ok (.value v) w)
    (h : AnyL P md ops Q S Wr fuel (listed.setIfInBounds i true) (a.put d v)) : AnyL P md ops Q S Wr (fuel + 1) listed a := by
  subst hd
  simp only [Bool.and_eq_true] at hah
  exact AnyL.first hi (Region.noSelect_spec hs) hQ hah.1.1 (by simpa using hah.1.2) fuel listed a (Region.free_spec hi hf) (by simpa using hr) (closed_spec hah.2) (.inl ⟨hw, fun w hS => by rw [hy w hS]; exact ⟨rfl, hS⟩⟩) h
/-- Take number i: a call of a Go function, by its contract. -/
theorem AnyL.call (i : Nat) (d : Option Tmp) {oi : Oper} (v : Value) {fuel : Nat} {listed : Array Bool} {a : Act} (hi : ops[i]? = some oi) (hd : oi.dst = d)
    (hs : Region.noSelect ops = true) (hf : Region.free md ops listed i = true) (hr : (Region.ready md ops listed).contains i = true)
    (hQ : ∀ c a w, Q (.panic c) (a.put d v) w → Q (.panic c) a w) (hah : (before md ops Wr i && !Wr.contains i && closedB md ops listed) = true) (hw : Region.wanted oi (yielded ops a.tmps) = true)
    (f : FuncId) (fn : Func) (hfn : P.funcs[f]? = some fn) (hname : (fn.name == "runtime.NumGoroutine") = false) (hb : fn.body.isNone = false) (xs : Array Operand) (ts : Array TypeId)
    (ho : oi.op = .call { callee := .value (.func f), args := xs, argTypes := ts }) (vs : Array Value) (hv : xs.map a.eval = vs)
    (hc : ∀ w, S w → Calls P f vs w fun en w' => en = .returned v ∧ S w')
    (h : AnyL P md ops Q S Wr fuel (listed.setIfInBounds i true) (a.put d v)) : AnyL P md ops Q S Wr (fuel + 1) listed a := by
  subst hd
  simp only [Bool.and_eq_true] at hah
  exact AnyL.first hi (Region.noSelect_spec hs) hQ hah.1.1 (by simpa using hah.1.2) fuel listed a (Region.free_spec hi hf) (by simpa using hr) (closed_spec hah.2) (.inl ⟨hw, fun w hS => by
    have hfv : a.eval (.func f) = .func (.func f) #[] #[] := rfl
    have he : (execOp a.eval oi).run P w = .ok (.enter f vs) w := by
      simp only [execOp, ho]
      have h1 : fn.name ≠ "runtime.NumGoroutine" := by simpa using hname
      simp [resolve, hv, hfv, Deferred.ofValue, invoke, callFunc, hfn, h1]
      intro hn
      simp [hn] at hb
    rw [he]
    exact hc w hS⟩) h

/-- Number i as it comes, by a law on its operation. -/
theorem wpOp_wp {i : Nat} {o : Oper} {K : Act → World → Prop} {a : Act} {w : World} (hi : ops[i]? = some o) (hw : Region.wanted o (yielded ops a.tmps) = true) (h : Oper.wp P o a w K Q) : wpOp P ops Q i K a w := by
  unfold Go.wpOp
  simp only [hi, hw, if_true]
  exact .inl h

end
end Go.Proofs.YthbncejbcegmgaaDoor
end

section
/- tree: add. -/
namespace Go.Proofs.YthbncejbcegmgaaDoor.dig
open Go Go.RowKit

theorem rowInfo : ∃ i z, Tryd.prog.info? 107 = some i ∧ i.zero = some z ∧ i.size = 3 ∧ z.cells.size = 3 ∧ i.bytes = 40 := by
  have h2 : (Tryd.prog.info? 107).map (fun i => (i.zero.map (fun z => z.cells.size), i.size, i.bytes)) = some (some 3, 3, 40) := by kernel_rfl
  obtain ⟨i, hi, e⟩ := Option.map_eq_some_iff.1 h2
  simp only [Prod.mk.injEq] at e
  obtain ⟨e1, e2, e3⟩ := e
  obtain ⟨z, hz, e4⟩ := Option.map_eq_some_iff.1 e1
  exact ⟨i, z, hi, hz, e2, e4, e3⟩

/-- How many sums a row has had, while a leaf is added: row j is next. -/
def cnt (n j i : Nat) : Nat := if i < j then (n + 1) / 2 ^ i else n / 2 ^ i

/-- While a leaf is added: row j is next, its sum lies at xb. -/
structure AddS (B : Nat) (F : Nat → Prop) (w : World) (b n fl : Nat) (f : Nat → List UInt8) (xb j : Nat) (wr : World) : Prop where
  raw : ∃ rv sv idle, Raw (fun k => (F k ∧ k < w.heap.size) ∨ (w.heap.size ≤ k ∧ k ≠ xb)) wr b (n + 1) fl (tops n) (gone fl) (cnt n j) f rv sv idle
  div : 2 ^ j ∣ n + 1
  box : Has wr xb 33 (cellsOf (rt f (n + 1 - 2 ^ j) (2 ^ j)))
  new : w.heap.size ≤ xb
  rt : Rt B wr
  turn : Turn F w wr

/-- The same, once row j is there. -/
structure AddM (B : Nat) (F : Nat → Prop) (w : World) (b n fl : Nat) (f : Nat → List UInt8) (xb j K : Nat) (rv : Value) (sv : Nat → Value) (idle : Nat → Nat) (wr : World) : Prop where
  raw : Raw (fun k => (F k ∧ k < w.heap.size) ∨ (w.heap.size ≤ k ∧ k ≠ xb)) wr b (n + 1) fl K (gone fl) (cnt n j) f rv sv idle
  div : 2 ^ j ∣ n + 1
  box : Has wr xb 33 (cellsOf (rt f (n + 1 - 2 ^ j) (2 ^ j)))
  new : w.heap.size ≤ xb
  rt : Rt B wr
  turn : Turn F w wr
  hj : j < K
  hK : K = max (tops n) (j + 1)

/-- The same, once the sum is in its row. -/
structure AddP (B : Nat) (F : Nat → Prop) (w : World) (b n fl : Nat) (f : Nat → List UInt8) (xb j K : Nat) (rv : Value) (sv : Nat → Value) (idle : Nat → Nat) (wr : World) : Prop where
  raw : Raw (fun k => (F k ∧ k < w.heap.size) ∨ (w.heap.size ≤ k ∧ k ≠ xb)) wr b (n + 1) fl K (gone fl) (cnt n (j + 1)) f rv sv idle
  div : 2 ^ j ∣ n + 1
  box : Has wr xb 33 (cellsOf (rt f (n + 1 - 2 ^ j) (2 ^ j)))
  new : w.heap.size ≤ xb
  rt : Rt B wr
  turn : Turn F w wr
  hj : j < K
  hK : K = max (tops n) (j + 1)

theorem turn_own {w W W2 : World} {v : Value} {H : Nat} (b : Below H w W) (hH : w.heap.size ≤ H) (g : W.grownBy W2 v.ownBlock) : Turn (fun k => v.ownBlock = some k) w W2 :=
  ⟨g.os.trans b.os, g.tape.trans b.tape, g.output.trans b.output, Nat.le_trans b.size g.size, fun k hk hne => (g.block k (by have := b.size; omega) (fun e => hne e.symm)).trans (b.block k (by omega))⟩

theorem cnt_next {n j : Nat} (h : 2 ^ j ∣ n + 1) : (fun i => if i = j then cnt n j j + 1 else cnt n j i) = cnt n (j + 1) := by
  funext i
  unfold cnt
  by_cases h1 : i = j
  · subst h1
    rw [if_pos rfl, if_neg (Nat.lt_irrefl _), if_pos (Nat.lt_succ_self _), add_div h]
  · rw [if_neg h1]
    by_cases h2 : i < j
    · rw [if_pos h2, if_pos (by omega)]
    · rw [if_neg h2, if_neg (by omega)]

section
variable {B : Nat} {F : Nat → Prop} {w : World} {b n fl : Nat} {f : Nat → List UInt8} {xb j K : Nat} {wr W : World}

/-- Behind the last row that grows. -/
theorem AddP.last {rv : Value} {sv : Nat → Value} {idle : Nat → Nat} (h : AddP B F w b n fl f xb j K rv sv idle wr) (hT : Tr B F w b n fl f) (hn : n < 1000000) (he : n / 2 ^ j % 2 = 0) : Tr B (fun k => F k ∨ w.heap.size ≤ k) wr b (n + 1) fl f := by
  have hK : K = tops (n + 1) := by
    rw [h.hK]
    rcases Nat.lt_or_ge j (tops n) with h1 | h1
    · rw [tops_same h.div he h1]; omega
    · have h2 := add_tops h.div
      obtain rfl : j = tops n := by omega
      rw [add_top h.div, tops_pow]; omega
  have hc : cnt n (j + 1) = fun i => (n + 1) / 2 ^ i := by
    funext i
    unfold cnt
    by_cases h1 : i < j + 1
    · rw [if_pos h1]
    · rw [if_neg h1, add_rest h.div he (by omega)]
  have r := h.raw
  rw [hK, hc] at r
  refine ⟨⟨rv, sv, idle, r.more (fun k _ hk => hk.imp (·.1) (·.1))⟩, h.rt, fun k hk => ?_, hT.len, by omega, by have := hT.floor; omega⟩
  rcases hk with hk | hk
  · exact hT.hF k hk
  · have := hT.rt.size; omega
theorem fx_ge (hT : Tr B F w b n fl f) {k : Nat} (h : (F k ∧ k < w.heap.size) ∨ (w.heap.size ≤ k ∧ k ≠ xb)) : B ≤ k := by
  rcases h with h | h
  · exact hT.hF k h.1
  · have := hT.rt.size; omega
theorem fx_turn {G : Nat → Prop} (t : Turn F w wr) (TT : Turn G wr W) (hG : ∀ k, G k → (F k ∧ k < w.heap.size) ∨ (w.heap.size ≤ k ∧ k ≠ xb)) : Turn F w W :=
  t.trans TT (fun k hk g => by
    rcases hG k g with h | h
    · exact h.1
    · omega)
theorem fx_rt {G : Nat → Prop} (hT : Tr B F w b n fl f) (t : Rt B wr) (TT : Turn G wr W) (hG : ∀ k, G k → (F k ∧ k < w.heap.size) ∨ (w.heap.size ≤ k ∧ k ≠ xb)) : Rt B W :=
  t.turn TT (fun k g => fx_ge hT (hG k g))
theorem fx_more (h : w.heap.size ≤ wr.heap.size) (hx : xb < wr.heap.size) (k : Nat) (hk : ((F k ∧ k < w.heap.size) ∨ (w.heap.size ≤ k ∧ k ≠ xb)) ∨ wr.heap.size ≤ k) : (F k ∧ k < w.heap.size) ∨ (w.heap.size ≤ k ∧ k ≠ xb) := by
  rcases hk with hk | hk
  · exact hk
  · exact .inr ⟨by omega, by omega⟩

/-- A row was added. -/
theorem AddS.grow {a0 : Option Addr} {c0 R o C : Nat} {sv : Nat → Value} {idle : Nat → Nat} (h : AddS B F w b n fl f xb j wr) (hT : Tr B F w b n fl f) (hj : j = tops n) (hg : gone fl j = 0) (hc : cnt n j j = 0)
    (r : Raw (fun k => (F k ∧ k < w.heap.size) ∨ (w.heap.size ≤ k ∧ k ≠ xb)) wr b (n + 1) fl j (gone fl) (cnt n j) f (.slice a0 j c0) sv idle)
    (T : Turn (fun k => (Value.slice a0 j c0).ownBlock = some k) wr W) (hown : Seg W 107 3 (.slice (some ⟨R, o, none⟩) (j + 1) C) (j + 1) (flat (rowC (gone fl) sv idle) 0 j ++ [.int .i64 0, .slice none 0 0, .int .i64 0]))
    (hat : (Value.slice a0 j c0).ownBlock = some R ∨ wr.heap.size ≤ R) :
    ∃ K sv idle, Hid (AddM B F w b n fl f xb j K (.slice (some ⟨R, o, none⟩) K C) sv idle (W.setCell ⟨b, 2, none⟩ (.slice (some ⟨R, o, none⟩) (j + 1) C))) := by
  have hbx : b ≠ xb := fun e => ne_types.2.1 ((r.tree.uniq (e ▸ h.box)).2)
  have hrx : (Value.slice a0 j c0).ownBlock ≠ some xb := r.rows.ne h.box ne_types.2.2
  have TT : Turn (fun k => k = b ∨ (Value.slice a0 j c0).ownBlock = some k) wr (W.setCell ⟨b, 2, none⟩ (.slice (some ⟨R, o, none⟩) (j + 1) C)) :=
    (T.more (fun _ _ e => .inr e)).put (fun _ => .inl rfl) 2 _
  have hG : ∀ k, (k = b ∨ (Value.slice a0 j c0).ownBlock = some k) → (F k ∧ k < w.heap.size) ∨ (w.heap.size ≤ k ∧ k ≠ xb) := fun k hk => by
    rcases hk with hk | hk
    · rw [hk]; exact r.fb
    · exact r.fr k hk
  exact ⟨j + 1, _, _, Lib.hid ⟨(r.grow T hown hat hg hc).more (fun k _ hk => fx_more h.turn.size h.box.lt k hk), h.div, h.box.turn TT (fun e => by
    rcases e with e | e
    · exact hbx e.symm
    · exact hrx e), h.new, fx_rt hT h.rt TT hG, fx_turn h.turn TT hG, by omega, by omega⟩⟩

/-- A sum was put to its row. -/
theorem AddM.push {R o cap : Nat} {sv : Nat → Value} {idle : Nat → Nat} (h : AddM B F w b n fl f xb j K (.slice (some ⟨R, o, none⟩) K cap) sv idle wr) (hT : Tr B F w b n fl f) (T : Turn (fun k => (sv j).ownBlock = some k) wr W)
    {g' off' cap' : Nat} (hown : Seg W 33 32 (.slice (some ⟨g', off', none⟩) (cnt n j j - gone fl j + 1) cap') (cnt n j j - gone fl j + 1) (flat (nodeC f j) (gone fl j) (cnt n j j - gone fl j) ++ (dig.rt f (n + 1 - 2 ^ j) (2 ^ j)).map byteV))
    (hat : (sv j).ownBlock = some g' ∨ wr.heap.size ≤ g') :
    ∃ sv idle, Hid (AddP B F w b n fl f xb j K (.slice (some ⟨R, o, none⟩) K cap) sv idle (W.setCell ⟨R, o + (j * 3 + 1), none⟩ (.slice (some ⟨g', off', none⟩) (cnt n j j - gone fl j + 1) cap'))) := by
  have hcn : cnt n j j = n / 2 ^ j := by unfold cnt; rw [if_neg (Nat.lt_irrefl _)]
  have hx : nodeC f j (cnt n j j) = (dig.rt f (n + 1 - 2 ^ j) (2 ^ j)).map byteV := by
    unfold nodeC
    rw [hcn, add_place h.div]
    simp [cellsOf]
  have hg : gone fl j ≤ cnt n j j := by rw [hcn]; exact gone_le j hT.floor
  have hR : (Value.slice (some ⟨R, o, none⟩) K cap).ownBlock = some R := rfl
  have hRx : R ≠ xb := fun e => h.raw.rows.ne h.box ne_types.2.2 (by rw [hR, e])
  have hsx : (sv j).ownBlock ≠ some xb := fun e => by
    have := h.raw.fs j h.hj xb e
    rcases this with h1 | h1
    · have := h.new; omega
    · exact h1.2 rfl
  have TT : Turn (fun k => k = R ∨ (sv j).ownBlock = some k) wr (W.setCell ⟨R, o + (j * 3 + 1), none⟩ (.slice (some ⟨g', off', none⟩) (cnt n j j - gone fl j + 1) cap')) :=
    (T.more (fun _ _ e => .inr e)).put (fun _ => .inl rfl) _ _
  have hG : ∀ k, (k = R ∨ (sv j).ownBlock = some k) → (F k ∧ k < w.heap.size) ∨ (w.heap.size ≤ k ∧ k ≠ xb) := fun k hk => by
    rcases hk with hk | hk
    · rw [hk]; exact h.raw.fr R hR
    · exact h.raw.fs j h.hj k hk
  have r := h.raw.push rfl h.hj T hown hat hg hx
  rw [cnt_next h.div] at r
  exact ⟨_, _, Lib.hid ⟨r.more (fun k _ hk => fx_more h.turn.size h.box.lt k hk), h.div, h.box.turn TT (fun e => by
    rcases e with e | e
    · exact hRx e.symm
    · exact hsx e), h.new, fx_rt hT h.rt TT hG, fx_turn h.turn TT hG, h.hj, h.hK⟩⟩

/-- Another row is next. -/
theorem AddP.next {rv : Value} {sv : Nat → Value} {idle : Nat → Nat} (h : AddP B F w b n fl f xb j K rv sv idle wr) (hT : Tr B F w b n fl f) (ho : n / 2 ^ j % 2 = 1) (T : Turn (fun k => k = xb) wr W) (hb : Has W xb 33 (cellsOf (dig.rt f (n + 1 - 2 ^ (j + 1)) (2 ^ (j + 1))))) : AddS B F w b n fl f xb (j + 1) W := by
  have hj : j < tops n := by
    rcases Nat.lt_or_ge j (tops n) with h1 | h1
    · exact h1
    · rw [div_zero h1] at ho; omega
  have hK : K = tops n := by rw [h.hK]; omega
  have r := h.raw
  rw [hK] at r
  refine ⟨⟨rv, sv, idle, r.turn T (fun k hk hl e => ?_)⟩, add_next h.div ho, hb, h.new, h.rt.turn T (fun k e => ?_), h.turn.trans T (fun k hk e => ?_)⟩
  · rcases hk with hk | hk
    · have := h.new; omega
    · exact hk.2 e
  · have := hT.rt.size; have := h.new; omega
  · have := h.new; omega
end

set_option maxRecDepth 100000 in
set_option maxHeartbeats 4000000 in
theorem add_leaf_calls (B : Nat) (F : Nat → Prop) (b n fl : Nat) (f : Nat → List UInt8) (w : World) (hT : Tr B F w b n fl f) (hn : n < 1000000) :
    Calls Tryd.prog 33 #[.pointer (some ⟨b, 0, none⟩), .agg (cellsOf (f n))] w fun en w' => en = .returned (.tuple #[]) ∧ Tr B (fun k => F k ∨ w.heap.size ≤ k) w' b (n + 1) fl f ∧ Turn F w w' := by
  obtain ⟨rv, sv, idle, r⟩ := hT.raw
  have e0 : ∀ O, (w.alloc O).cell? ⟨b, 0, none⟩ = some (.int .i64 n) := fun O => (r.tree.alloc O).cell 0
  have f0 : ∀ O, (w.alloc O).frozen? ⟨b, 0, none⟩ = false := fun O => (r.tree.alloc O).free 0
  obtain ⟨n1, hn1⟩ : ∃ n1, n1 = n + 1 := ⟨_, rfl⟩
  have hw1 : (n : Int) + 1 = (n1 : Int) := by omega
  have hw2 : (n1 : Int) ≤ 1000000 := by omega
  have HN1 := Lib.hid hn1
  have HT := Lib.hid hT
  have HR := Lib.hid r
  clear hT r hn1
  go_enter Tryd.func33, Tryd.ntmps33
  go_wp2_with fail
  go_name_world W hW
  have S0 : Hid (AddS B F w b n fl f w.heap.size 0 W) := by
    have e : W = (w.alloc (.cells (cellsOf (f n)) 33)).setCell ⟨b, 0, none⟩ (.int .i64 n1) := hW.symm
    have h := HR.out
    have hb : Has w b 77 #[.int .i64 n, .int .i64 fl, rv] := h.tree
    have hxb : Has (w.alloc (.cells (cellsOf (f n)) 33)) w.heap.size 33 (cellsOf (f n)) := made_at _ _ rfl
    have T : Turn (fun k => k = b) w W := by
      rw [e]; exact ((Turn.refl (fun k => k = b) w).alloc _).put (fun _ => rfl) 0 _
    have h1 := h.more (G := fun k => (F k ∧ k < w.heap.size) ∨ (w.heap.size ≤ k ∧ k ≠ w.heap.size)) (fun k hk hf => .inl ⟨hf, hk⟩)
    have tr : Has W b 77 #[.int .i64 (n + 1 : Nat), .int .i64 fl, rv] := by
      rw [e, ← HN1.out]
      simpa using (hb.alloc (.cells (cellsOf (f n)) 33)).put 0 (.int .i64 n1)
    have ec : cnt n 0 = fun j => n / 2 ^ j := by funext i; unfold cnt; rw [if_neg (by omega)]
    refine Lib.hid ⟨⟨rv, sv, idle, ?_⟩, ⟨n + 1, by simp⟩, ?_, Nat.le_refl _, HT.out.rt.turn T (fun k e => by rw [e]; exact HT.out.hF b h.fb), T.more (fun k _ e => by rw [e]; exact h.fb)⟩
    · rw [ec]
      exact ⟨tr, h1.rows.turn T (fun x hx e => h.rv_b (by rw [hx, e])), fun j hj => (h1.sums j hj).turn T (fun x hx e => h.sv_b hj (by rw [hx, e])), h1.apart, h1.fb, h1.fr, h1.fs, h1.idle⟩
    · rw [show n + 1 - 2 ^ 0 = n by simp, show (2 : Nat) ^ 0 = 1 from rfl, rt_one, e]
      exact hxb.far (p := ⟨b, 0, none⟩) (by have := hb.lt; show w.heap.size ≠ b; omega) _
  clear hW e0 f0 HR
  go_loopw [4] (fun x wr => ∃ j : Nat, x = .int .i64 j ∧ Hid (AddS B F w b n fl f w.heap.size j wr)) (fun x _ => tops n + 1 - (intOf x).toNat)
  case atStart => exact ⟨0, rfl, S0⟩
  case round =>
    obtain ⟨j, rfl, HS⟩ := hrel
    clear S0
    have hjK := add_tops HS.out.div
    have hj0 : (0 : Int) ≤ (j : Int) := by omega
    have hj1 : (j : Int) ≤ 64 := by have := tops_small (n := n) (by omega); omega
    obtain ⟨rv, sv, idle, hr⟩ := HS.out.raw
    have hfl := HT.out.floor
    rcases Nat.lt_or_ge j (tops n) with hjt | hjt
    case' inl =>
      obtain ⟨K, hK⟩ : ∃ K, K = tops n := ⟨_, rfl⟩
      rw [← hK] at hr hjt
      obtain ⟨R, o, C, hrv, hRl, hc1, hc2, _⟩ := hr.rows.cells (by omega)
      subst hrv
      have hc3 : (C : Int) ≤ 9223372036854775807 := by unfold maxLen at hc2; omega
      have hk3 : (K : Int) ≤ (C : Int) := by omega
      have hne : ¬ (j : Int) = (K : Int) := by omega
      have hjK2 : (j : Int) < (K : Int) := by omega
      have e2 : wr.cell? ⟨b, 2, none⟩ = some (.slice (some ⟨R, o, none⟩) K C) := hr.tree.cell 2
      have M : Hid (AddM B F w b n fl f w.heap.size j K (.slice (some ⟨R, o, none⟩) K C) sv idle wr) := Lib.hid ⟨hr, HS.out.div, HS.out.box, HS.out.new, HS.out.rt, HS.out.turn, hjt, by omega⟩
      clear HS hr hjK hfl hc1 hc2
      go_wp2_with fail
    case' inr =>
      obtain ⟨K0, hK0⟩ : ∃ K0, K0 = tops n := ⟨_, rfl⟩
      have hdv := HS.out.div
      rw [← hK0] at hr hjt hjK
      obtain rfl : j = K0 := by omega
      have hg0 : gone fl j = 0 := by
        have h1 := gone_le (fl := fl) (n := n) j hfl
        rw [hK0, div_zero (Nat.le_refl _)] at h1
        rw [hK0]
        omega
      have hc0 : cnt n j j = 0 := by unfold cnt; rw [if_neg (Nat.lt_irrefl _), hK0, div_zero (Nat.le_refl _)]
      obtain ⟨a0, c0, hrv, hc1, hc2⟩ := hr.rows.slice
      subst hrv
      have hc3 : (c0 : Int) ≤ 9223372036854775807 := by unfold maxLen at hc2; omega
      have hk3 : (j : Int) ≤ (c0 : Int) := by omega
      have e2 : wr.cell? ⟨b, 2, none⟩ = some (.slice a0 j c0) := hr.tree.cell 2
      have HR := Lib.hid hr
      have HG := Lib.hid (And.intro hg0 hc0)
      obtain ⟨i0, z0, hi0, hz0, hz1, hz2, hz3⟩ := rowInfo
      have HI0 := Lib.hid hi0
      have HZ0 := Lib.hid hz0
      have HKK := Lib.hid hK0
      clear hr hi0 hz0 hc1 hc2 hg0 hc0 hfl hjt hjK hdv hK0
      go_wp2_with (first
        | ((with_reducible refine at_op 29 ?_); refine wpList_build_one (o := ⟨some 29, _, _, _, _, _⟩) rfl 75 107 _ rfl i0 z0 Tryd.underlying75 HI0.out HZ0.out #[.int .i64 0, .slice none 0 0, .int .i64 0] rfl hz1 (by decide) (by decide) wr.heap.size rfl ?_; intro W3 HW3 BW3;
           (have T3 : Hid (Below wr.heap.size wr W3 ∧ Has W3 wr.heap.size 107 #[.int .i64 0, .slice none 0 0, .int .i64 0] ∧ Seg W3 107 3 (.slice a0 j c0) j (flat (rowC (gone fl) sv idle) 0 j)) := Lib.hid ⟨BW3, HW3, HR.out.rows.below BW3 (fun x hx => HR.out.rows.lt hx)⟩);
           clear HW3 BW3 e2)
        | ((with_reducible refine at_op 30 ?_); refine wpList_append_seg (o := ⟨some 30, _, _, _, _, _⟩) _ rfl (.tmp 27) (.tmp 29) 75 rfl 107 i0 z0 3 40 Tryd.underlying75 HI0.out HZ0.out hz1 hz3 hz2 (by decide) (.slice a0 j c0) j (flat (rowC (gone fl) sv idle) 0 j) rfl T3.out.2.2 ⟨wr.heap.size, 0, none⟩ 1 1 [.int .i64 0, .slice none 0 0, .int .i64 0] rfl rfl (World.news_of_block T3.out.2.1) (by simp [Value.oneCell']) (by decide) (by unfold maxLen; omega) (by omega) _ rfl ?_;
           intro R o C w4 hown hgrow hat hlt;
           (have T4 : Hid (Turn (fun k => (Value.slice a0 j c0).ownBlock = some k) wr w4 ∧ Seg w4 107 3 (.slice (some ⟨R, o, none⟩) (j + 1) C) (j + 1) (flat (rowC (gone fl) sv idle) 0 j ++ [.int .i64 0, .slice none 0 0, .int .i64 0]) ∧ ((Value.slice a0 j c0).ownBlock = some R ∨ wr.heap.size ≤ R)) := Lib.hid ⟨turn_own T3.out.1 (Nat.le_refl _) hgrow, hown, hat.imp id (fun e => by rw [e]; exact T3.out.1.size)⟩);
           (have k2 : w4.cell? ⟨b, 2, none⟩ = some (.slice a0 j c0) := (HR.out.tree.turn T4.out.1 HR.out.rv_b).cell 2);
           (have f2 : w4.frozen? ⟨b, 2, none⟩ = false := (HR.out.tree.turn T4.out.1 HR.out.rv_b).free 2);
           clear hown hgrow hat hlt T3)
        | fail)
      obtain ⟨K, sv, idle, M⟩ := HS.out.grow HT.out HKK.out HG.out.1 HG.out.2 HR.out T4.out.1 T4.out.2.1 T4.out.2.2
      clear T4 k2 f2 HS HR HG hz1 hz2 hz3 HI0 HZ0 HKK
    all_goals
      go_name_world V hV
      rw [hV] at M
      clear hV
      obtain ⟨i0, z0, hi0, hz0, hz1, hz2, hz3⟩ := sumInfo
      have HI0 := Lib.hid hi0
      have HZ0 := Lib.hid hz0
      clear hi0 hz0
      obtain ⟨xl, hxl⟩ : ∃ xl, xl = rt f (n + 1 - 2 ^ j) (2 ^ j) := ⟨_, rfl⟩
      have HX : Hid (xl.length = 32) := Lib.hid (by rw [hxl]; exact rt_len HT.out.len _ _ (Nat.pow_pos (by decide)))
      have HXL := Lib.hid hxl
      have hcell := flat_get (g := rowC (gone fl) sv idle) (a := 0) (k := K) (w := 3) (fun i _ _ => rowC_len _ _ _ i) M.out.hj (r := 1) (by omega)
      have c1 : V.cell? ⟨R, o + j * 3 + 1, none⟩ = some (sv j) := by
        obtain ⟨R', o', C', hv', _, _, _, hc⟩ := M.out.raw.rows.cells (by have := M.out.hj; omega)
        simp only [Value.slice.injEq, Option.some.injEq, Addr.mk.injEq, and_true, true_and] at hv'
        obtain ⟨⟨rfl, rfl⟩, rfl⟩ := hv'
        exact hc (j * 3 + 1) (sv j) (by rw [hcell, Nat.zero_add]; rfl)
      have C0 : Hid (V.cell? ⟨R, o + j * 3 + 1, none⟩ = some (sv j) ∧ V.rangeAt w.heap.size 0 (xl.map byteV)) := Lib.hid ⟨c1, by rw [hxl]; exact Has.range M.out.box⟩
      clear c1 hcell hxl
      refine wp_region_quiet (fun V => V.cell? ⟨R, o + j * 3 + 1, none⟩ = some (sv j) ∧ V.rangeAt w.heap.size 0 (xl.map byteV)) [10] (by kernel_rfl) ?_
      have hC : (fun V => V.cell? ⟨R, o + j * 3 + 1, none⟩ = some (sv j) ∧ V.rangeAt w.heap.size 0 (xl.map byteV)) V.drew := C0.out
      refine quiet_take 0 (some 39) (v := .pointer (some ⟨R, o + j * 3, none⟩)) rfl rfl (by kernel_rfl) (by kernel_rfl) (by kernel_rfl) (fun _ _ _ h => h) (by kernel_rfl) (by kernel_rfl) (by kernel_rfl) (fun V _ => by go_simp) hC ?_
      refine quiet_take 1 (some 40) (v := .pointer (some ⟨R, o + j * 3, none⟩)) rfl rfl (by kernel_rfl) (by kernel_rfl) (by kernel_rfl) (fun _ _ _ h => h) (by kernel_rfl) (by kernel_rfl) (by kernel_rfl) (fun V _ => by go_simp) hC ?_
      refine quiet_take 2 (some 41) (v := .pointer (some ⟨R, o + j * 3, none⟩)) rfl rfl (by kernel_rfl) (by kernel_rfl) (by kernel_rfl) (fun _ _ _ h => h) (by kernel_rfl) (by kernel_rfl) (by kernel_rfl) (fun V _ => by go_simp) hC ?_
      refine quiet_take 3 (some 42) (v := .pointer (some ⟨R, o + j * 3 + 1, none⟩)) rfl rfl (by kernel_rfl) (by kernel_rfl) (by kernel_rfl) (fun _ _ _ h => h) (by kernel_rfl) (by kernel_rfl) (by kernel_rfl) (fun V _ => by go_simp) hC ?_
      refine quiet_take 4 (some 43) (v := sv j) rfl rfl (by kernel_rfl) (by kernel_rfl) (by kernel_rfl) (fun _ _ _ h => h) (by kernel_rfl) (by kernel_rfl) (by kernel_rfl) (fun V hV => by have c1 := hV.1; go_simp) hC ?_
      refine quiet_take 5 (some 44) (v := .agg (cellsOf xl)) rfl rfl (by kernel_rfl) (by kernel_rfl) (by kernel_rfl) (fun _ _ _ h => h) (by kernel_rfl) (by kernel_rfl) (by kernel_rfl) (fun V hV => by have hl := run_loadAt_mid (P := Tryd.prog) V w.heap.size 0 33 (xl.map byteV) _ hV.2 Tryd.underlying33 rfl (by rw [List.length_map, HX.out]; kernel_rfl); exact exec_load 33 (.tmp 3) rfl (.pointer (some ⟨w.heap.size, 0, none⟩)) rfl hl) hC ?_
      simp only [Act.put, List.setIfInBounds_toArray, List.set_cons_zero, List.set_cons_succ]
      refine quiet_one (i := 6) (by kernel_rfl) ?_
      refine wpOp_wp rfl (by kernel_rfl) (wp_build_one 26 33 _ rfl i0 z0 Tryd.underlying26 HI0.out HZ0.out (cellsOf xl) rfl (by rw [hz1, cellsOf_size, HX.out]) (by rw [cellsOf_size, HX.out]; decide) (by rw [cellsOf_size, HX.out]; decide) V.heap.size rfl ?_)
      intro W3 HW3 BW3'
      have BW3 := ((Below.refl V.heap.size V).drew).trans BW3'
      clear BW3'
      have T3 : Hid (Below V.heap.size V W3 ∧ Has W3 V.heap.size 33 (cellsOf xl) ∧ Seg W3 33 32 (sv j) (cnt n j j - gone fl j) (flat (nodeC f j) (gone fl j) (cnt n j j - gone fl j))) :=
        Lib.hid ⟨BW3, HW3, (M.out.raw.sums j M.out.hj).below (B := V.heap.size) BW3 (fun x hx => (M.out.raw.sums j M.out.hj).lt hx)⟩
      have hRV : R < V.heap.size := M.out.raw.rows.lt rfl
      have hC3 : (fun V => V.cell? ⟨R, o + j * 3 + 1, none⟩ = some (sv j) ∧ V.rangeAt w.heap.size 0 (xl.map byteV)) W3 := by
        refine ⟨?_, fun i u hi => ?_⟩
        · rw [← C0.out.1]; unfold World.cell?; rw [T3.out.1.block R hRV]
        · rw [← C0.out.2 i u hi]; unfold World.cell?; rw [T3.out.1.block w.heap.size M.out.box.lt]
      refine ⟨fun _ => hC3, ?_⟩
      clear HW3 BW3
      have hcb : Hid (cnt n j j ≤ 1000000 ∧ cnt n j j - gone fl j ≤ 1000000) := Lib.hid (by have : cnt n j j = n / 2 ^ j := (by unfold cnt; rw [if_neg (Nat.lt_irrefl _)]); have := Nat.div_le_self n (2 ^ j); omega)
      simp only [Act.put, List.setIfInBounds_toArray]
      refine quiet_one (i := 7) (by kernel_rfl) ?_
      refine wpOp_wp rfl (by kernel_rfl) (wp_append_seg _ (.tmp 43) (.tmp 45) 26 rfl 33 i0 z0 32 32 Tryd.underlying26 HI0.out HZ0.out hz1 hz3 hz2 (by decide) (sv j) (cnt n j j - gone fl j) _ rfl T3.out.2.2 ⟨V.heap.size, 0, none⟩ 1 1 (xl.map byteV) rfl (by rw [List.length_map, HX.out]) (World.news_of_block T3.out.2.1) (byteV_one _) (by decide) (by have := hcb.out.2; unfold maxLen; omega) (by have := hcb.out.2; omega) _ rfl ?_)
      intro g' off' cap' w5 hown hgrow hat hlt
      have T5 : Hid (Turn (fun k => (sv j).ownBlock = some k) V w5 ∧ Seg w5 33 32 (.slice (some ⟨g', off', none⟩) (cnt n j j - gone fl j + 1) cap') (cnt n j j - gone fl j + 1) (flat (nodeC f j) (gone fl j) (cnt n j j - gone fl j) ++ xl.map byteV) ∧ ((sv j).ownBlock = some g' ∨ V.heap.size ≤ g')) :=
        Lib.hid ⟨turn_own T3.out.1 (Nat.le_refl _) hgrow, hown, hat.imp id (fun e => by rw [e]; exact T3.out.1.size)⟩
      clear hown hgrow hat hlt
      have hsx : (sv j).ownBlock ≠ some w.heap.size := fun e => by
        have := M.out.raw.fs j M.out.hj _ e
        omega
      have hsR : (sv j).ownBlock ≠ some R := M.out.raw.rv_sv M.out.hj R rfl
      have hC5 : (fun V => V.cell? ⟨R, o + j * 3 + 1, none⟩ = some (sv j) ∧ V.rangeAt w.heap.size 0 (xl.map byteV)) w5 := by
        refine ⟨?_, fun i u hi => ?_⟩
        · rw [← C0.out.1]; unfold World.cell?; rw [T5.out.1.block R hRV hsR]
        · rw [← C0.out.2 i u hi]; unfold World.cell?; rw [T5.out.1.block w.heap.size M.out.box.lt hsx]
      refine ⟨fun _ => hC5, ?_⟩
      have k1 : w5.cell? ⟨R, o + j * 3 + 1, none⟩ = some (sv j) := hC5.1
      have f1 : w5.frozen? ⟨R, o + j * 3 + 1, none⟩ = false := by
        obtain ⟨cs, hcs⟩ : ∃ cs, Has w5 R 107 cs := by
          rcases M.out.raw.rows.2 with ⟨h, _⟩ | ⟨R', o', C', cur, hv', hh, _⟩
          · cases h
          · simp only [Value.slice.injEq, Option.some.injEq, Addr.mk.injEq, and_true, true_and] at hv'
            obtain ⟨⟨rfl, rfl⟩, rfl⟩ := hv'
            exact ⟨cur, Has.turn (t := 107) hh T5.out.1 hsR⟩
        exact hcs.free _
      simp only [Act.put]
      refine quiet_take 8 (some 47) (v := .pointer (some ⟨R, o + j * 3, none⟩)) rfl rfl (by kernel_rfl) (by kernel_rfl) (by kernel_rfl) (fun _ _ _ h => h) (by kernel_rfl) (by kernel_rfl) (by kernel_rfl) (fun V _ => by go_simp) hC5 ?_
      refine quiet_take 9 (some 48) (v := .pointer (some ⟨R, o + j * 3 + 1, none⟩)) rfl rfl (by kernel_rfl) (by kernel_rfl) (by kernel_rfl) (fun _ _ _ h => h) (by kernel_rfl) (by kernel_rfl) (by kernel_rfl) (fun V _ => by go_simp) hC5 ?_
      simp only [Act.put]
      refine quiet_one (i := 10) (by kernel_rfl) ?_
      refine wpOp_skip (w' := w5.setCell ⟨R, o + j * 3 + 1, none⟩ (.slice (some ⟨g', off', none⟩) (cnt n j j - gone fl j + 1) cap')) rfl rfl (by kernel_rfl) (by go_simp) ⟨(fun h => by cases h), ?_⟩
      refine quiet_done (by kernel_rfl) ?_ _
      obtain ⟨sv, idle, P⟩ := M.out.push HT.out T5.out.1 (by rw [← HXL.out]; exact T5.out.2.1) T5.out.2.2
      clear M T5 T3 C0 hC hC3 hC5 k1 f1 hsx hsR hz1 hz2 hz3 HI0 HZ0 hcb
      rw [← Nat.add_assoc] at P
      generalize w5.setCell ⟨R, o + j * 3 + 1, none⟩ (.slice (some ⟨g', off', none⟩) (cnt n j j - gone fl j + 1) cap') = V2 at *
      have e0 : V2.cell? ⟨b, 0, none⟩ = some (.int .i64 n1) := by rw [HN1.out]; exact P.out.raw.tree.cell 0
      obtain ⟨q, hq⟩ : ∃ q, q = n / 2 ^ j := ⟨_, rfl⟩
      have hq1 : (n1 : Int) / 2 ^ j = (q : Int) + 1 := by
        have h1 := add_div P.out.div
        rw [← HN1.out, ← hq] at h1
        have h2 : (n1 : Int) / 2 ^ j = ((n1 / 2 ^ j : Nat) : Int) := by rw [Int.natCast_ediv]; simp
        rw [h2, h1]; omega
      have hqb : (q : Int) ≤ 1000000 := by rw [hq]; have := Nat.div_le_self n (2 ^ j); omega
      have hq0 : (0 : Int) ≤ (q : Int) := by omega
      have HQ := Lib.hid hq
      clear hq
      by_cases he : q % 2 = 0
      · have ht1 : (q : Int) % 2 = 0 := by omega
        have ht2 : (q : Int).tmod 2 = 0 := by rw [Int.tmod_eq_emod_of_nonneg hq0]; exact ht1
        go_wp2_with fail
        exact bodyPost_ret (results_none rfl _ _ _) rfl ⟨rfl, P.out.last HT.out hn (by rw [← HQ.out]; exact he), P.out.turn⟩
      · have ht1 : (q : Int) % 2 = 1 := by omega
        have ht2 : (q : Int).tmod 2 = 1 := by rw [Int.tmod_eq_emod_of_nonneg hq0]; exact ht1
        go_wp2_with fail
        have ho : n / 2 ^ j % 2 = 1 := by rw [← HQ.out]; omega
        have hfl := HT.out.floor
        have hgq : gone fl j ≤ q - 1 := by
          have h1 : fl / 2 ^ (j + 1) ≤ n / 2 ^ (j + 1) := Nat.div_le_div_right hfl
          rw [half_div n, ← HQ.out] at h1
          unfold gone
          omega
        obtain ⟨q0, hq00⟩ : ∃ q0, q0 = q - 1 := ⟨_, rfl⟩
        have hqq : (q : Int) - 1 = (q0 : Int) := by omega
        have hs := P.out.raw.sums j P.out.hj
        have hcn : cnt n (j + 1) j = q + 1 := by
          unfold cnt
          rw [if_pos (Nat.lt_succ_self _), add_div P.out.div, HQ.out]
        rw [hcn] at hs
        obtain ⟨ye, hye⟩ : ∃ ye, ye = rt f (n + 1 - 2 ^ (j + 1)) (2 ^ j) := ⟨_, rfl⟩
        have hpl : q0 * 2 ^ j = n + 1 - 2 ^ (j + 1) := by
          have h1 := add_place P.out.div
          rw [← HQ.out] at h1
          rw [hq00, Nat.sub_mul, h1, Nat.pow_succ]
          omega
        have HN : Hid (nodeS ye xl = rt f (n + 1 - 2 ^ (j + 1)) (2 ^ (j + 1))) := Lib.hid (by
          rw [rt_pow, HXL.out, hye]
          congr 2
          have h2 := Nat.le_of_dvd (by omega) (add_next P.out.div ho)
          rw [Nat.pow_succ] at h2 ⊢
          omega)
        have HY : Hid (ye.length = 32) := Lib.hid (by rw [hye]; exact rt_len HT.out.len _ _ (Nat.pow_pos (by decide)))
        have HA : Hid (∀ r, r < 32 → (flat (nodeC f j) (gone fl j) (q + 1 - gone fl j))[(q0 - gone fl j) * 32 + r]? = (cellsOf ye)[r]?) := Lib.hid fun r hr => by
          rw [flat_get (w := 32) (fun i _ _ => nodeC_len HT.out.len j i) (by omega) hr, Nat.add_sub_cancel' (by omega)]
          unfold nodeC
          rw [hpl, ← hye]
          simp
        have HB : Hid (gone fl j ≤ q0 ∧ q0 - gone fl j < q + 1 - gone fl j ∧ q + 1 - gone fl j ≤ 1000000 ∧ q0 ≤ 1000000) := Lib.hid (by have h1 : q ≤ n := (by rw [HQ.out]; exact Nat.div_le_self _ _); omega)
        have hcell0 := flat_get (g := rowC (gone fl) sv idle) (a := 0) (k := K) (w := 3) (fun i _ _ => rowC_len _ _ _ i) P.out.hj (r := 0) (by omega)
        have hcell := flat_get (g := rowC (gone fl) sv idle) (a := 0) (k := K) (w := 3) (fun i _ _ => rowC_len _ _ _ i) P.out.hj (r := 1) (by omega)
        have cc : V2.cell? ⟨R, o + j * 3, none⟩ = some (.int .i64 (gone fl j)) ∧ V2.cell? ⟨R, o + j * 3 + 1, none⟩ = some (sv j) := by
          obtain ⟨R', o', C', hv', _, _, _, hc⟩ := P.out.raw.rows.cells (by have := P.out.hj; omega)
          simp only [Value.slice.injEq, Option.some.injEq, Addr.mk.injEq, and_true, true_and] at hv'
          obtain ⟨⟨rfl, rfl⟩, rfl⟩ := hv'
          exact ⟨hc (j * 3) _ (by rw [← Nat.add_zero (j * 3), hcell0, Nat.zero_add]; rfl), hc (j * 3 + 1) (sv j) (by rw [hcell, Nat.zero_add]; rfl)⟩
        have C0 : Hid ((V2.cell? ⟨R, o + j * 3, none⟩ = some (.int .i64 (gone fl j)) ∧ V2.cell? ⟨R, o + j * 3 + 1, none⟩ = some (sv j)) ∧ V2.rangeAt w.heap.size 0 (xl.map byteV)) := Lib.hid ⟨cc, by rw [HXL.out]; exact Has.range P.out.box⟩
        have HS := Lib.hid hs
        have HO := Lib.hid ho
        have HXX := HXL
        clear cc hcell hcell0 hs hcn hye hpl hgq ho hfl e0 hq00 HXL
        refine wp_region_quiet (fun V => V.rangeAt w.heap.size 0 (xl.map byteV)) [6] (by kernel_rfl) ?_
        have hC : (fun V => V.rangeAt w.heap.size 0 (xl.map byteV)) V2.drew := C0.out.2
        refine quiet_take 0 (some 59) (v := .pointer (some ⟨R, o + j * 3, none⟩)) rfl rfl (by kernel_rfl) (by kernel_rfl) (by kernel_rfl) (fun _ _ _ h => h) (by kernel_rfl) (by kernel_rfl) (by kernel_rfl) (fun V _ => by go_simp) hC ?_
        refine quiet_take 1 (some 60) (v := .int .i64 q) rfl rfl (by kernel_rfl) (by kernel_rfl) (by kernel_rfl) (fun _ _ _ h => h) (by kernel_rfl) (by kernel_rfl) (by kernel_rfl) (fun V _ => by go_simp) hC ?_
        refine quiet_take 2 (some 61) (v := .int .i64 q0) rfl rfl (by kernel_rfl) (by kernel_rfl) (by kernel_rfl) (fun _ _ _ h => h) (by kernel_rfl) (by kernel_rfl) (by kernel_rfl) (fun V _ => by have i0 : IntKind.i64.wrap (q0 : Int) = (q0 : Int) := IntWalk.i64_in _ ⟨by omega, by omega⟩; go_simp) hC ?_
        refine quiet_take 4 (some 63) (v := .agg (cellsOf xl)) rfl rfl (by kernel_rfl) (by kernel_rfl) (by kernel_rfl) (fun _ _ _ h => h) (by kernel_rfl) (by kernel_rfl) (by kernel_rfl) (fun V hV => by have hl := run_loadAt_mid (P := Tryd.prog) V w.heap.size 0 33 (xl.map byteV) _ hV Tryd.underlying33 rfl (by rw [List.length_map, HX.out]; kernel_rfl); exact exec_load 33 (.tmp 3) rfl (.pointer (some ⟨w.heap.size, 0, none⟩)) rfl hl) hC ?_
        simp only [Act.put, List.setIfInBounds_toArray, List.set_cons_zero, List.set_cons_succ]
        refine quiet_one (i := 3) (by kernel_rfl) ?_
        have hRV : R < V2.heap.size := P.out.raw.rows.lt rfl
        refine wpOp_call (some 62) rfl rfl (by kernel_rfl) 58 Tryd.f58 Tryd.func58 (by kernel_rfl) (by kernel_rfl) _ _ rfl #[.pointer (some ⟨R, o + j * 3, none⟩), .int .i64 q0] (by first | (simp [Act.eval]; done) | (simp [Act.eval, Act.put]; done)) (at_calls R (o + j * 3) q0 (gone fl j) (q + 1 - gone fl j) (sv j) _ ye V2.drew C0.out.1.1 C0.out.1.2 HS.out.drew HB.out.1 HB.out.2.1 HB.out.2.2.1 HB.out.2.2.2 HA.out HY.out) ?_
        rintro en V3 ⟨rfl, b3'⟩
        have b3 : Hid (Below V2.heap.size V2 V3) := Lib.hid (((Below.refl V2.heap.size V2).drew).trans b3')
        clear b3' HA HB
        refine ⟨_, rfl, fun _ => fun i u hi => ?_, ?_⟩
        · rw [← C0.out.2 i u hi]; unfold World.cell?; rw [b3.out.block w.heap.size P.out.box.lt]
        simp only [Act.put, List.setIfInBounds_toArray, List.set_cons_zero, List.set_cons_succ]
        refine quiet_one (i := 5) (by kernel_rfl) ?_
        refine wpOp_call (some 64) rfl rfl (by kernel_rfl) 57 Tryd.f57 Tryd.func57 (by kernel_rfl) (by kernel_rfl) _ _ rfl #[.agg (cellsOf ye), .agg (cellsOf xl)] (by first | (simp [Act.eval]; done) | (simp [Act.eval, Act.put]; done)) (node_calls ye xl V3 (P.out.rt.below b3.out P.out.rt.size).rk HY.out HX.out) ?_
        rw [HN.out]
        rintro en V4 ⟨rfl, b4'⟩
        have b4 : Hid (Below V2.heap.size V2 V4) := Lib.hid (b3.out.trans (b4'.mono b3.out.size))
        clear b4' b3
        refine ⟨_, rfl, fun _ => fun i u hi => ?_, ?_⟩
        · rw [← C0.out.2 i u hi]; unfold World.cell?; rw [b4.out.block w.heap.size P.out.box.lt]
        simp only [Act.put, List.setIfInBounds_toArray, List.set_cons_zero, List.set_cons_succ]
        refine quiet_one (i := 6) (by kernel_rfl) ?_
        have hbox : Has V4 w.heap.size 33 (cellsOf xl) := P.out.box.below b4.out P.out.box.lt |> fun h => by rw [HXX.out]; exact h
        have HL6 : Hid ((rt f (n + 1 - 2 ^ (j + 1)) (2 ^ (j + 1))).length = 32) := Lib.hid (rt_len HT.out.len _ _ (Nat.pow_pos (by decide)))
        refine wpOp_wp rfl (by kernel_rfl) (wp_store_row 33 (.tmp 3) (.tmp 64) rfl w.heap.size (cellsOf (rt f (n + 1 - 2 ^ (j + 1)) (2 ^ (j + 1)))) rfl rfl 33 (cellsOf xl) hbox (by rw [cellsOf_size, HL6.out]; kernel_rfl) (by rw [cellsOf_size, cellsOf_size, HX.out, HL6.out]) (cellsOf_one _) ?_)
        refine ⟨(fun h => by cases h), ?_⟩
        refine quiet_done (by kernel_rfl) ?_ _
        have T6 : Turn (fun k => k = w.heap.size) V2 (V4.setRow w.heap.size (cellsOf (rt f (n + 1 - 2 ^ (j + 1)) (2 ^ (j + 1))))) :=
          (Turn.of_below (F := fun k => k = w.heap.size) b4.out (fun k h1 h2 => by omega)).trans (turn_row _ _ _) (fun _ _ h => h)
        have S6 := Lib.hid (P.out.next HT.out HO.out T6 (hbox.row _))
        have hjK := add_tops P.out.div
        clear T6 hbox P b4 C0 HS hC
        generalize V4.setRow w.heap.size (cellsOf (rt f (n + 1 - 2 ^ (j + 1)) (2 ^ (j + 1)))) = V6 at *
        simp only [Act.put]
        go_wp2_with fail
        refine ⟨⟨j + 1, by rw [Int.natCast_add]; rfl, S6⟩, ?_⟩
        show tops n + 1 - ((j : Int) + 1).toNat < tops n + 1 - ((j : Int)).toNat
        omega
end Go.Proofs.YthbncejbcegmgaaDoor.dig
end

section
/- tree: New, Len, Floor, Append. -/
namespace Go.Proofs.YthbncejbcegmgaaDoor.dig
open Go Go.RowKit

set_option maxRecDepth 100000 in
set_option maxHeartbeats 1000000 in
theorem tnew_calls (B : Nat) (f : Nat → List UInt8) (w : World) (hR : Rt B w) (hf : ∀ i, (f i).length = 32) :
    Calls Tryd.prog 10 #[] w fun en w' => ∃ b, en = .returned (.pointer (some ⟨b, 0, none⟩)) ∧ w.heap.size ≤ b ∧ Tr B (fun k => k = b) w' b 0 0 f ∧ Below w.heap.size w w' := by
  have HR := Lib.hid hR
  have HF := Lib.hid hf
  clear hR hf
  go_enter Tryd.func10, Tryd.ntmps10
  go_wp2_with fail
  go_ret
  have B0 : Below w.heap.size w (w.alloc (.cells #[.int .i64 0, .int .i64 0, .slice none 0 0] 77)) := (Below.refl _ _).alloc (Nat.le_refl _) _
  refine ⟨w.heap.size, rfl, Nat.le_refl _, ⟨⟨.slice none 0 0, fun _ => .slice none 0 0, fun _ => 0, ⟨made_at _ _ rfl, Seg.nil _ _ _, ?_, ?_, rfl, ?_, ?_, ?_⟩⟩, HR.out.below B0 HR.out.size, ?_, HF.out, by omega, by omega⟩, B0⟩
  · intro j hj; simp [tops] at hj
  · intro i j hi; simp [tops] at hi
  · intro x hx; cases hx
  · intro j hj; simp [tops] at hj
  · intro j hj; simp [tops] at hj
  · intro k hk; rw [hk]; exact HR.out.size

section
variable {B : Nat} {F : Nat → Prop} {b n fl : Nat} {f : Nat → List UInt8} {w : World}

set_option maxHeartbeats 400000 in
theorem Tr.len_calls (hT : Tr B F w b n fl f) : Calls Tryd.prog 83 #[.pointer (some ⟨b, 0, none⟩)] w fun en w' => en = .returned (.int .i64 n) ∧ w = w' := by
  obtain ⟨rv, hh⟩ := hT.head
  have e0 := hh.cell 0
  simp at e0
  clear hT hh
  go_enter Tryd.func83, Tryd.ntmps83
  go_wp2_with fail
  go_ret
  exact ⟨rfl, rfl⟩

set_option maxHeartbeats 400000 in
theorem Tr.floor_calls (hT : Tr B F w b n fl f) : Calls Tryd.prog 81 #[.pointer (some ⟨b, 0, none⟩)] w fun en w' => en = .returned (.int .i64 fl) ∧ w = w' := by
  obtain ⟨rv, hh⟩ := hT.head
  have e0 := hh.cell 1
  simp at e0
  clear hT hh
  go_enter Tryd.func81, Tryd.ntmps81
  go_wp2_with fail
  go_ret
  exact ⟨rfl, rfl⟩
end

/-- Texts that lie in a slice; none of them is long. -/
def Strs (w : World) (v : Value) (L : List ByteArray) : Prop := Seg w 9 1 v L.length (L.map Value.string) ∧ ∀ s ∈ L, s.size ≤ 1000000

set_option maxRecDepth 100000 in
set_option maxHeartbeats 2000000 in
theorem Tr.append_calls {B : Nat} {F : Nat → Prop} {b n fl : Nat} {f : Nat → List UInt8} {w : World} (hT : Tr B F w b n fl f) (a : Option Addr) (c : Nat) (L : List ByteArray) (hL : Strs w (.slice a L.length c) L)
    (hv : ∀ x, (Value.slice a L.length c).ownBlock = some x → ¬ F x) (hf : ∀ i s, L[i]? = some s → f (n + i) = leafS s.data.toList) (hn : n + L.length < 1000000) :
    Calls Tryd.prog 11 #[.pointer (some ⟨b, 0, none⟩), .slice a L.length c] w fun en w' => en = .returned (.tuple #[]) ∧ Tr B (fun k => F k ∨ w.heap.size ≤ k) w' b (n + L.length) fl f ∧ Turn F w w' := by
  have T0 : Hid (Tr B (fun k => F k ∨ w.heap.size ≤ k) w b (n + 0) fl f ∧ Turn F w w) := Lib.hid ⟨hT.more (fun _ _ h => .inl h) (fun k h => by
    rcases h with h | h
    · exact hT.hF k h
    · have := hT.rt.size; omega), Turn.refl _ _⟩
  obtain ⟨m, hm⟩ : ∃ m, m = L.length := ⟨_, rfl⟩
  obtain ⟨a', c', e, hc1, hc2⟩ := hL.1.slice
  obtain ⟨rfl, rfl⟩ : a = a' ∧ c = c' := by simpa using e
  clear e
  have hc3 : (c : Int) ≤ 9223372036854775807 := by unfold maxLen at hc2; omega
  have HL := Lib.hid hL
  have HV := Lib.hid hv
  have HF := Lib.hid hf
  have HM := Lib.hid hm
  rw [← hm] at hc1 hn ⊢
  have hmc : (m : Int) ≤ (c : Int) := by omega
  clear hL hv hf hm hc2 hT
  go_enter Tryd.func11, Tryd.ntmps11
  go_wp2_with fail
  go_loopw [8] (fun i wr => ∃ k : Nat, i = .int .i64 k ∧ k ≤ m ∧ Hid (Tr B (fun j => F j ∨ w.heap.size ≤ j) wr b (n + k) fl f ∧ Turn F w wr)) (fun i _ => m - (intOf i).toNat)
  case atStart => exact ⟨0, rfl, Nat.zero_le _, T0⟩
  case round =>
    obtain ⟨k, rfl, hk, HS⟩ := hrel
    clear T0
    by_cases hkm : k < m
    · have hk1 : (k : Int) < (m : Int) := by omega
      have hk0 : (0 : Int) ≤ (k : Int) := by omega
      obtain ⟨s, hs⟩ : ∃ s, L[k]? = some s := ⟨_, List.getElem?_eq_getElem (by rw [← HM.out]; exact hkm)⟩
      obtain ⟨R, o, C, hrv, hRl, _, _, hcc⟩ := HL.out.1.cells (by rw [← HM.out]; omega)
      simp only [Value.slice.injEq] at hrv
      obtain ⟨rfl, _, rfl⟩ := hrv
      have k0 : wr.cell? ⟨R, o + k, none⟩ = some (.string s) := by
        have h1 := hcc k (.string s) (by rw [List.getElem?_map, hs]; rfl)
        rw [← h1]
        unfold World.cell?
        rw [HS.out.2.block R hRl (HV.out R rfl)]
      have hsz : s.size ≤ 1000000 := HL.out.2 s (List.mem_of_getElem? hs)
      have HX : Hid (leafS s.data.toList = f (n + k)) := Lib.hid (HF.out k s hs).symm
      clear hcc hs
      go_wp2_with fail
      refine (leaf_calls s wr HS.out.1.rt.rk (by omega)).mono ?_
      rw [HX.out]
      rintro en w2 ⟨rfl, b2⟩
      have S2 : Hid (Tr B (fun j => F j ∨ w.heap.size ≤ j) w2 b (n + k) fl f ∧ Turn F w w2) := Lib.hid ⟨HS.out.1.below b2, HS.out.2.trans (Turn.of_below (F := fun j => wr.heap.size ≤ j) b2 (fun _ _ h => h)) (fun j h1 h2 => by have := HS.out.2.size; omega)⟩
      clear b2 HS k0 HX
      go_wp2_with fail
      refine (add_leaf_calls B _ b (n + k) fl f w2 S2.out.1 (by omega)).mono ?_
      rintro en w3 ⟨rfl, t3, u3⟩
      have S3 : Hid (Tr B (fun j => F j ∨ w.heap.size ≤ j) w3 b (n + (k + 1)) fl f ∧ Turn F w w3) := Lib.hid ⟨t3.more (fun j _ h => by
        rcases h with h | h
        · exact h
        · have := S2.out.2.size; exact .inr (by omega)) S2.out.1.hF, S2.out.2.trans u3 (fun j h1 h2 => by
        rcases h2 with h2 | h2
        · exact h2
        · omega)⟩
      clear t3 u3 S2
      go_wp2_with fail
      refine ⟨⟨k + 1, by rw [Int.natCast_add]; rfl, by omega, S3⟩, ?_⟩
      show m - ((k : Int) + 1).toNat < m - ((k : Int)).toNat
      omega
    · obtain rfl : k = m := by omega
      go_wp2_with fail
      go_end0
      exact ⟨rfl, HS.out.1, HS.out.2⟩
end Go.Proofs.YthbncejbcegmgaaDoor.dig
end

section
/- tree: other sums beyond the leaves. -/
namespace Go.Proofs.YthbncejbcegmgaaDoor.dig
open Go Go.RowKit

/-- Sums beyond the leaves make no difference. -/
theorem Tr.fcongr {B : Nat} {F : Nat → Prop} {w : World} {b n fl : Nat} {f f' : Nat → List UInt8} (h : Tr B F w b n fl f) (e : ∀ i, i < n → f i = f' i) (hl : ∀ i, (f' i).length = 32) : Tr B F w b n fl f' := by
  obtain ⟨rv, sv, idle, r⟩ := h.raw
  refine ⟨⟨rv, sv, idle, r.tree, r.rows, fun j hj => ?_, r.apart, r.fb, r.fr, r.fs, r.idle⟩, h.rt, h.hF, hl, h.small, h.floor⟩
  have hc : flat (nodeC f j) (gone fl j) (n / 2 ^ j - gone fl j) = flat (nodeC f' j) (gone fl j) (n / 2 ^ j - gone fl j) := by
    refine flat_congr fun i _ hi => ?_
    have h0 : 0 < 2 ^ j := Nat.pow_pos (by decide)
    have h1 : (i + 1) * 2 ^ j ≤ n := by
      have h2 : i + 1 ≤ n / 2 ^ j := by omega
      exact Nat.le_trans (Nat.mul_le_mul_right _ h2) (Nat.div_mul_le_self _ _)
    rw [Nat.succ_mul] at h1
    unfold nodeC
    rw [rt_congr f f' (2 ^ j) (i * 2 ^ j) h0 (fun x _ hx => e x (by omega))]
  rw [← hc]
  exact r.sums j hj
theorem path_all {f : Nat → List UInt8} (h : ∀ i, (f i).length = 32) : ∀ (n i a : Nat) (x : List UInt8), x ∈ path f i a n → x.length = 32 := by
  intro n
  induction n using Nat.strongRecOn with
  | _ n ih =>
    intro i a x hx
    rw [path] at hx
    by_cases h2 : 2 ≤ n
    · rw [dif_pos h2] at hx
      have l1 := half_lt h2
      have l2 := half_pos n
      split at hx
      · rcases List.mem_append.1 hx with hx | hx
        · exact ih _ l1 _ _ _ hx
        · rw [List.mem_singleton.1 hx]; exact rt_len h _ _ (by omega)
      · rcases List.mem_append.1 hx with hx | hx
        · exact ih _ (by omega) _ _ _ hx
        · rw [List.mem_singleton.1 hx]; exact rt_len h _ _ l2
    · rw [dif_neg h2] at hx; cases hx
/-- A sum in a slice of sums. -/
theorem seg_sum {w : World} {a : Option Addr} {n c : Nat} {l : List (List UInt8)} (h : Seg w 33 32 (.slice a n c) n (sumsC l)) (hl : ∀ x ∈ l, x.length = 32) {t : Nat} {x : List UInt8} (hx : l[t]? = some x) (hn : 0 < n) :
    ∃ g off, a = some ⟨g, off, none⟩ ∧ g < w.heap.size ∧ w.rangeAt g (off + t * 32) (x.map byteV) := by
  obtain ⟨g, off, c', e, hg, _, _, hc⟩ := h.cells hn
  simp only [Value.slice.injEq] at e
  obtain ⟨rfl, _, rfl⟩ := e
  exact ⟨g, off, rfl, hg, fun j u hj => by rw [Nat.add_assoc]; exact hc _ u (sumsC_at l t x j u hl hx hj)⟩
end Go.Proofs.YthbncejbcegmgaaDoor.dig
end

section
/- append of a slice to a slice, either of which may be nil. Of no program. -/
namespace Go.Proofs.YthbncejbcegmgaaDoor
open Go Go.RowKit

/-- A slice is nil, or lies somewhere. -/
theorem Seg.form {w : World} {e : TypeId} {size n : Nat} {v : Value} {xs : List Value} (h : Seg w e size v n xs) : (v = .slice none 0 0 ∧ n = 0 ∧ xs = []) ∨ Thick v n := by
  rcases h.2 with ⟨h1, h2⟩ | ⟨g, off, cap, cur, h1, _⟩
  · refine .inl ⟨h1, h2, ?_⟩
    have := h.1
    rw [h2, Nat.zero_mul] at this
    exact List.eq_nil_of_length_eq_zero this
  · exact .inr ⟨g, off, cap, h1⟩

section
variable {P : Program} (w : World)

theorem run_append_every (t ty : TypeId) (e : TypeId) (i : TypeInfo) (z : Value) (size bytes : Nat) (ht : P.underlying t = some (.slice e)) (hi : P.info? e = some i) (hz : i.zero = some z)
    (hsize : i.size = size) (hby : i.bytes = bytes) (hzs : z.cells.size = size) (hsz : 0 < size)
    (v : Value) (n : Nat) (xs : List Value) (hown : Seg w e size v n xs)
    (x : Value) (m : Nat) (news : List Value) (hx : Seg w e size x m news) (h1 : ∀ u ∈ news, u.oneCell' = true)
    (h63 : n + m ≤ maxLen) (hbytes : (n + m) * bytes ≤ 140737488355328) :
    ∃ y w', (Builtin.append_ #[t, t] ty #[v, x]).run P w = .ok y w' ∧
      Seg w' e size y (n + m) (xs ++ news) ∧ w.grownBy w' v.ownBlock ∧ (∀ b, y.ownBlock = some b → v.ownBlock = some b ∨ w.heap.size ≤ b) := by
  rcases hown.form with ⟨rfl, rfl, rfl⟩ | hv
  · obtain ⟨y, w', hr, h2, h3, h4⟩ := run_append_new (P := P) w t ty e i z size bytes ht hi hz hsize hby hzs hsz x m news hx h1 (by omega) (by rw [Nat.zero_add] at hbytes; exact hbytes)
    rw [Nat.zero_add, List.nil_append]
    exact ⟨y, w', hr, h2, ⟨h3.os, h3.tape, h3.output, h3.size, fun k hk _ => h3.block k hk⟩, fun b hb => .inr (h4 b hb)⟩
  · obtain ⟨y, w', hr, _, h2, h3, h4⟩ := run_append_any (P := P) w t ty e i z size bytes ht hi hz hsize hby hzs hsz v n xs hown hv x m news hx (hx.form.symm.imp id (fun h => h.1)) h1 h63 hbytes
    exact ⟨y, w', hr, h2, h3, fun b hb => (h4 b hb).imp id (fun e => by omega)⟩

theorem wp_append_every {o : Oper} {a : Act} {K : Act → World → Prop} {Q : Exit → Act → World → Prop} (s x : Operand) (t : TypeId)
    (ho : o.op = .call { callee := .builtin .append, args := #[s, x], argTypes := #[t, t] })
    (e : TypeId) (i : TypeInfo) (z : Value) (size bytes : Nat) (ht : P.underlying t = some (.slice e)) (hi : P.info? e = some i) (hz : i.zero = some z)
    (hsize : i.size = size) (hby : i.bytes = bytes) (hzs : z.cells.size = size) (hsz : 0 < size)
    (v : Value) (n : Nat) (xs : List Value) (hs : a.eval s = v) (hown : Seg w e size v n xs)
    (y : Value) (m : Nat) (news : List Value) (hx : a.eval x = y) (hnew : Seg w e size y m news) (h1 : ∀ u ∈ news, u.oneCell' = true)
    (h63 : n + m ≤ maxLen) (hbytes : (n + m) * bytes ≤ 140737488355328)
    (h : ∀ r w', Seg w' e size r (n + m) (xs ++ news) → w.grownBy w' v.ownBlock → (∀ b, r.ownBlock = some b → v.ownBlock = some b ∨ w.heap.size ≤ b) → K (a.put o.dst r) w') : o.wp P a w K Q := by
  obtain ⟨r, w', hr, h2, h3, h4⟩ := run_append_every (P := P) w t o.type e i z size bytes ht hi hz hsize hby hzs hsz v n xs hown y m news hnew h1 h63 hbytes
  unfold Oper.wp execOp
  simp only [ho, resolve, invoke, builtin, Sem.run_bind, Sem.run_pure, Result.andThen_ok, List.map_toArray, List.map_cons, List.map_nil, hs, hx, hr]
  exact h r w' h2 h3 h4

/-- At the list of a plain region's operations. -/
theorem wpList_append_every {ops : Array Oper} {rest : List Oper} {o : Oper} {a : Act} {Q : Exit → Act → World → Prop} (hgd : o.guard = none) (s x : Operand) (t : TypeId)
    (ho : o.op = .call { callee := .builtin .append, args := #[s, x], argTypes := #[t, t] })
    (e : TypeId) (i : TypeInfo) (z : Value) (size bytes : Nat) (ht : P.underlying t = some (.slice e)) (hi : P.info? e = some i) (hz : i.zero = some z)
    (hsize : i.size = size) (hby : i.bytes = bytes) (hzs : z.cells.size = size) (hsz : 0 < size)
    (v : Value) (n : Nat) (xs : List Value) (hs : a.eval s = v) (hown : Seg w e size v n xs)
    (y : Value) (m : Nat) (news : List Value) (hx : a.eval x = y) (hnew : Seg w e size y m news) (h1 : ∀ u ∈ news, u.oneCell' = true)
    (h63 : n + m ≤ maxLen) (hbytes : (n + m) * bytes ≤ 140737488355328)
    (h : ∀ r w', Seg w' e size r (n + m) (xs ++ news) → w.grownBy w' v.ownBlock → (∀ b, r.ownBlock = some b → v.ownBlock = some b ∨ w.heap.size ≤ b) → wpList P ops Q rest (a.put o.dst r) w') : wpList P ops Q (o :: rest) a w :=
  wpList_plain hgd fun _ hK => wp_append_every w s x t ho e i z size bytes ht hi hz hsize hby hzs hsz v n xs hs hown y m news hx hnew h1 h63 hbytes fun r w' h2 h3 h4 => hK _ _ (h r w' h2 h3 h4)

/-- At a step of a region that draws its order. -/
theorem step_append_every {ops : Array Oper} {o : Oper} {a : Act} {K : Act → World → Prop} {Q : Exit → Act → World → Prop} {E : Prop} (hgd : o.guard = none) (s x : Operand) (t : TypeId)
    (ho : o.op = .call { callee := .builtin .append, args := #[s, x], argTypes := #[t, t] })
    (e : TypeId) (i : TypeInfo) (z : Value) (size bytes : Nat) (ht : P.underlying t = some (.slice e)) (hi : P.info? e = some i) (hz : i.zero = some z)
    (hsize : i.size = size) (hby : i.bytes = bytes) (hzs : z.cells.size = size) (hsz : 0 < size)
    (v : Value) (n : Nat) (xs : List Value) (hs : a.eval s = v) (hown : Seg w e size v n xs)
    (y : Value) (m : Nat) (news : List Value) (hx : a.eval x = y) (hnew : Seg w e size y m news) (h1 : ∀ u ∈ news, u.oneCell' = true)
    (h63 : n + m ≤ maxLen) (hbytes : (n + m) * bytes ≤ 140737488355328)
    (h : ∀ r w', Seg w' e size r (n + m) (xs ++ news) → w.grownBy w' v.ownBlock → (∀ b, r.ownBlock = some b → v.ownBlock = some b ∨ w.heap.size ≤ b) → K (a.put o.dst r) w') :
    if Region.wanted o (yielded ops a.tmps) = true then Oper.wp P o a w K Q else E := by
  have hw : Region.wanted o (yielded ops a.tmps) = true := by simp [Region.wanted, hgd]
  rw [if_pos hw]
  exact wp_append_every w s x t ho e i z size bytes ht hi hz hsize hby hzs hsz v n xs hs hown y m news hx hnew h1 h63 hbytes h

/-- s[k:] of a slice that lies somewhere; at its cap its address stays, and it is empty. -/
theorem Seg.rest {w : World} {e : TypeId} {size n g off c : Nat} {xs : List Value} (h : Seg w e size (.slice (some ⟨g, off, none⟩) n c) n xs) (k : Nat) (hk : k ≤ n) :
    Seg w e size (.slice (some (if c = k then ⟨g, off, none⟩ else ⟨g, off + k * size, none⟩)) (n - k) (c - k)) (n - k) (xs.drop (k * size)) := by
  by_cases hc : c = k
  · rw [if_pos hc]
    have hnc : n ≤ c := by
      obtain ⟨a, c', h1, h2, _⟩ := h.slice
      simp only [Value.slice.injEq] at h1
      omega
    have hn0 : n - k = 0 := by omega
    have hd : xs.drop (k * size) = [] := by
      refine List.drop_eq_nil_of_le ?_
      rw [h.1]
      exact Nat.mul_le_mul_right _ (by omega)
    rw [hd, hn0]
    rcases h.2 with ⟨h1, _⟩ | ⟨g', off', cap, cur, h1, hg, hc1, hc2, hc3, hx⟩
    · cases h1
    · simp only [Value.slice.injEq, Option.some.injEq, Addr.mk.injEq, and_true, true_and] at h1
      obtain ⟨⟨rfl, rfl⟩, rfl⟩ := h1
      refine ⟨by simp, .inr ⟨g, off, c - k, cur, rfl, hg, Nat.zero_le _, by omega, ?_, by simp⟩⟩
      have : (c - k) * size ≤ c * size := Nat.mul_le_mul_right _ (by omega)
      omega
  · rw [if_neg hc]
    exact h.behind k hk
end
end Go.Proofs.YthbncejbcegmgaaDoor
end

