/- Texts laid into one: WireT, Any, Own, LedO, WireU, Dec, WireP. -/
import Derived.Test.YtndnjeahepahkaaY000
import Derived.Test.YtndnjeahepahkaaY002
import Derived.OrdersHeld
import Derived.Deep.MidRow
import Derived.Laws.OwnMore
section
/- What Writer.Text and Cut give. -/
namespace Go.Proofs.Ytndnjeahepahkaa
open Go.RowKit

theorem own_text {P : Program} (w : World) (src dst e : TypeId) (hs : P.underlying src = some (.slice e)) (he : P.underlying e = some (.int .u8)) (hd : P.underlying dst = some .string) {v : Value} {xs : List UInt8}
    (ho : w.ownsRow 0 e 1 v xs.length (xs.map byteV)) : (convert src dst v).run P w = .ok (.string ⟨xs.toArray⟩) w := by
  rcases ho.2 with ⟨rfl, h0⟩ | ⟨g, cap, cur, rfl, _⟩
  · have : xs = [] := List.eq_nil_of_length_eq_zero h0
    subst this
    rw [run_convert_bytes_string w src dst e none 0 0 hs he hd]
    rfl
  · refine run_convert_bytes_back w src dst e ⟨g, 0, none⟩ cap xs hs he hd (fun j hj => ?_)
    exact ho.cells rfl j _ (by simp [hj, byteV])

set_option maxHeartbeats 400000 in
theorem text_any (b : Nat) (r : Option Nat) (xs : List UInt8) (w : World) (h : Wr w b r xs) :
    Calls Try.prog 61 #[.pointer (some ⟨b, 0, none⟩)] w fun en w' => en = .returned (.string ⟨xs.toArray⟩) ∧ w = w' := by
  obtain ⟨v, hb, ho, hv, hne⟩ := h
  have c0 : w.cell? ⟨b, 0, none⟩ = some v := hb.cell 0
  have hc := own_text (P := Try.prog) w 114 9 5 Try.underlying114 Try.underlying5 Try.underlying9 ho
  clear hb ho hv hne
  go_enter Try.func61, Try.ntmps61
  go_wp2
  go_ret
  exact ⟨rfl, rfl⟩

theorem dec_lt : ∀ (l : List UInt8) (i n : Nat), n < 18446744073709551616 → (dec i n l).2.1 < 18446744073709551616
  | [], i, n, _ => by simp [dec]
  | b :: t, i, n, h => by
    rw [dec]
    by_cases h1 : (i = 0 ∧ b.toNat = 128) ∨ 144115188075855872 ≤ n
    · rw [if_pos h1]; simp
    · rw [if_neg h1]
      by_cases h2 : b.toNat < 128
      · rw [if_pos h2]; show n * 128 + b.toNat % 128 < _; omega
      · rw [if_neg h2]; exact dec_lt t _ _ (by omega)

/-- A number that may be below 0, out of its number. -/
def unz (n : Nat) : Int := if n % 2 = 1 then -((n / 2 : Nat) : Int) - 1 else ((n / 2 : Nat) : Int)

def IntPost (b : Nat) (s : ByteArray) (e : Int) (w : World) (r : Nat × Nat × Nat) (en : Ending) (w' : World) : Prop :=
  en = .returned (.int .i64 (unz r.2.1)) ∧ Rd w' b (restOf s r) (errOf e r) ∧ w.grownBy w' (some b)

set_option maxHeartbeats 400000 in
theorem cut_any (s : ByteArray) (n : Nat) (w : World) (hn : n ≤ 1000000) (_hs : s.size ≤ maxLen) :
    Calls Try.prog 33 #[.string s, .int .i64 n] w fun en w' => en = .returned (.string (s.extract 0 n)) ∧ w = w' := by
  unfold maxLen at _hs
  by_cases h : n < s.size
  · go_enter Try.func33, Try.ntmps33
    go_wp2
    go_ret
    exact ⟨rfl, rfl⟩
  · have e : s.extract 0 n = s := by
      apply ByteArray.ext
      simp [ByteArray.data_extract]
      omega
    have E := Lib.hid e
    clear e
    go_enter Try.func33, Try.ntmps33
    go_wp2
    go_ret
    rw [E.out]
    exact ⟨rfl, rfl⟩

end Go.Proofs.Ytndnjeahepahkaa
end

section
/- A region that draws its order and holds many calls: where each operation yields one value in every world that meets S, and leaves S, the order makes no difference: the region is walked once, operation by operation. Of no program. -/
namespace Go.Proofs.Ytndnjeahepahkaa
open Go.RowKit

section
variable {P : Program} {ops : Array Oper} {Q : Exit → Act → World → Prop} {md : Region.Mode} {S : World → Prop}

/-- What an operation comes to: v, in a world that meets S. -/
def Comes (P : Program) (S : World → Prop) (v : Value) : Result Next → Prop
  | .ok (.value u) w => u = v ∧ S w
  | .ok .skip w => v = undef ∧ S w
  | .ok (.enter f args) w => Calls P f args w fun en w' => en = .returned v ∧ S w'
  | _ => False

/-- In state a operation o makes v in every world that meets S, and leaves S. -/
def Makes (P : Program) (ops : Array Oper) (S : World → Prop) (o : Oper) (v : Value) (a : Act) : Prop :=
  (Region.wanted o (yielded ops a.tmps) = true ∧ ∀ w, S w → Comes P S v ((execOp a.eval o).run P w)) ∨
  (Region.wanted o (yielded ops a.tmps) = false ∧ v = undef)

theorem Makes.of_same {o : Oper} {v : Value} {a a' : Act} (hy : Makes P ops S o v a) (he : execOp a'.eval o = execOp a.eval o)
    (hw : Region.wanted o (yielded ops a'.tmps) = Region.wanted o (yielded ops a.tmps)) : Makes P ops S o v a' := by
  unfold Makes at *
  rw [he, hw]
  exact hy

theorem Makes.wpOp {i : Nat} {o : Oper} {v : Value} {a : Act} (hi : ops[i]? = some o) (hy : Makes P ops S o v a)
    {K : Act → World → Prop} {w : World} (hS : S w) (h : ∀ w', S w' → K (a.put o.dst v) w') : wpOp P ops Q i K a w := by
  unfold Go.wpOp
  simp only [hi]
  rcases hy with ⟨hw, hv⟩ | ⟨hw, rfl⟩
  · simp only [hw, if_true, Oper.wp]
    refine .inl ?_
    have := hv w hS
    generalize (execOp a.eval o).run P w = r at this
    cases r with
    | ok n w' =>
      cases n with
      | value u => obtain ⟨rfl, hs⟩ := this; exact h _ hs
      | skip => obtain ⟨rfl, hs⟩ := this; exact h _ hs
      | enter f args => exact Calls.mono this fun en w'' he => by obtain ⟨rfl, hs⟩ := he; exact h _ hs
      | _ => exact this.elim
    | halt x w' => exact this.elim
  · simp only [hw, Bool.false_eq_true, if_false]; exact h _ hS

theorem wpOp_putM {j : Nat} {oi oj : Oper} {v : Value} (hj : ops[j]? = some oj) (hap : oi.apart ops oj = true)
    (hsi : ∀ cs b, oi.op ≠ .select cs b) (hsj : ∀ cs b, oj.op ≠ .select cs b)
    (hQ : ∀ c a w, Q (.panic c) (a.put oi.dst v) w → Q (.panic c) a w) {K : Act → World → Prop} {a : Act} {w : World}
    (hy : Makes P ops S oi v a) (h : wpOp P ops Q j K (a.put oi.dst v) w) :
    wpOp P ops Q j (fun a' w' => Makes P ops S oi v a' ∧ K (a'.put oi.dst v) w') a w := by
  obtain ⟨h1, h2, h3⟩ := Oper.apart_spec hap
  have keep : ∀ (a : Act), Makes P ops S oi v a → ∀ u, Makes P ops S oi v (a.put oj.dst u) := fun a hy u =>
    hy.of_same (execOp_put oi hsi a oj.dst u h3) (wanted_put oi a oj.dst u h3)
  have keepD : ∀ d, Makes P ops S oi v { a with defers := d :: a.defers } := fun d => hy.of_same rfl rfl
  unfold wpOp at *
  simp only [hj] at *
  rw [wanted_put oj a oi.dst v h1] at h
  split
  · rename_i hw
    simp only [hw, if_true] at h
    rcases h with h | ⟨hasks, hlets⟩
    case inr => exact .inr ⟨by unfold Oper.asks at *; rw [execOp_put oj hsj a oi.dst v h1] at hasks; exact hasks, hlets⟩
    refine .inl ?_
    unfold Oper.wp at *
    rw [execOp_put oj hsj a oi.dst v h1] at h
    generalize (execOp a.eval oj).run P w = r at *
    cases r with
    | ok n w' =>
      cases n <;> simp only [Oper.upon] at h ⊢
      case value u => exact ⟨keep a hy u, by rw [← Act.put_comm a v u h2]; exact h⟩
      case skip => exact ⟨keep a hy _, by rw [← Act.put_comm a v undef h2]; exact h⟩
      case defer d =>
        refine ⟨keep _ (keepD d) _, ?_⟩
        rw [← Act.put_comm _ v undef h2, ← Act.put_defers]
        exact h
      case enter f args =>
        refine Calls.mono h fun e w'' he => ?_
        cases e with
        | returned u => exact ⟨keep a hy u, by rw [← Act.put_comm a v u h2]; exact he⟩
        | panicked c => exact hQ _ _ _ he
        | outgrown => exact he
      case row row args => exact Rows.mono h fun u w'' he => ⟨keep a hy u, by rw [← Act.put_comm a v u h2]; exact he⟩
    | halt x w' =>
      cases x <;> simp only [Oper.upon] at h ⊢
      case panic u => exact hQ _ _ _ h
  · rename_i hw
    simp only [hw] at h
    exact ⟨keep a hy _, by rw [← Act.put_comm a v undef h2]; exact h⟩

/-- Whatever order is picked from here on, in whatever world that meets S; S holds behind every operation. -/
def AnyS (P : Program) (md : Region.Mode) (ops : Array Oper) (Q : Exit → Act → World → Prop) (S : World → Prop) : Nat → Array Bool → Act → Prop
  | 0, listed, a => Region.ready md ops listed = [] ∧ ∀ w, S w → Q .normal a w
  | fuel + 1, listed, a =>
    (Region.ready md ops listed = [] → ∀ w, S w → Q .normal a w) ∧
    ∀ i ∈ Region.ready md ops listed, ∀ w, S w → wpOp P ops Q i (fun a' w' => S w' ∧ AnyS P md ops Q S fuel (listed.setIfInBounds i true) a') a w

theorem AnyS.any : ∀ (fuel : Nat) (listed : Array Bool) (a : Act) (w : World), S w → AnyS P md ops Q S fuel listed a → wpAny P md ops Q fuel listed a w
  | 0, _, _, w, hs, h => ⟨h.1, h.2 w hs⟩
  | fuel + 1, _, _, w, hs, h => ⟨fun h0 => h.1 h0 w hs, fun i hi => wpOp_mono (fun a' w' h' => AnyS.any fuel _ a' w' h'.1 h'.2) (h.2 i hi w hs)⟩

theorem AnyS.first {i : Nat} {oi : Oper} {v : Value} (hi : ops[i]? = some oi) (hsel : ∀ (j : Nat) (o : Oper) cs b, ops[j]? = some o → o.op ≠ .select cs b)
    (hQ : ∀ c a w, Q (.panic c) (a.put oi.dst v) w → Q (.panic c) a w) :
    ∀ (fuel : Nat) (listed : Array Bool) (a : Act),
      (∀ j oj, ops[j]? = some oj → j ≠ i → listed.getD j true = false → (∀ e ∈ oj.after, Region.binds md e = true → e.on ≠ i) → oi.apart ops oj = true) →
      i ∈ Region.ready md ops listed → Makes P ops S oi v a →
      AnyS P md ops Q S fuel (listed.setIfInBounds i true) (a.put oi.dst v) → AnyS P md ops Q S (fuel + 1) listed a := by
  intro fuel
  induction fuel with
  | zero =>
    intro listed a _ hr hy H
    refine ⟨fun h => (by rw [h] at hr; cases hr), fun j hj w hS => ?_⟩
    by_cases hji : j = i
    · subst hji; exact hy.wpOp hi hS (fun w' hS' => ⟨hS', H⟩)
    · have := ready_mono hj hji
      rw [H.1] at this
      cases this
  | succ fuel ih =>
    intro listed a hfree hr hy H
    refine ⟨fun h => (by rw [h] at hr; cases hr), fun j hj w hS => ?_⟩
    by_cases hji : j = i
    · subst hji; exact hy.wpOp hi hS (fun w' hS' => ⟨hS', H⟩)
    · have h1 := H.2 j (ready_mono hj hji) w hS
      obtain ⟨hjun, oj, hoj, hall⟩ := mem_ready.1 hj
      have hnot : ∀ e ∈ oj.after, Region.binds md e = true → e.on ≠ i := fun e he hb heq => by
        have h1 := hall e he hb
        have h0 := (mem_ready.1 hr).1
        rw [heq] at h1
        rcases Nat.lt_or_ge i listed.size with h' | h'
        · simp [h'] at h0 h1; rw [h0] at h1; cases h1
        · simp [Array.getElem?_eq_none h'] at h1
      have h2 := wpOp_putM hoj (hfree j oj hoj hji hjun hnot) (fun cs b => hsel i oi cs b hi) (fun cs b => hsel j oj cs b hoj) hQ hy h1
      have hfree' : ∀ k ok, ops[k]? = some ok → k ≠ i → (listed.setIfInBounds j true).getD k true = false →
          (∀ e ∈ ok.after, Region.binds md e = true → e.on ≠ i) → oi.apart ops ok = true := fun k ok hk hki hun hno => by
        refine hfree k ok hk hki ?_ hno
        by_cases hjk : j = k
        · subst hjk; exact hjun
        · rw [getD_set_ne true hjk] at hun; exact hun
      refine wpOp_mono (fun a' w' h3 => ⟨h3.2.1, ih (listed.setIfInBounds j true) a' hfree' (ready_mono hr (Ne.symm hji)) h3.1 ?_⟩) h2
      rw [Array.setIfInBounds_comm _ _ hji]
      exact h3.2.2

theorem AnyS.done {listed : Array Bool} {a : Act} (hr : Region.ready md ops listed = []) (h : ∀ w, S w → Q .normal a w) :
    ∀ fuel, AnyS P md ops Q S fuel listed a
  | 0 => ⟨hr, h⟩
  | _ + 1 => ⟨fun _ => h, by rw [hr]; simp⟩

/-- The beginning. -/
theorem wp_region_S {id : Nat} {a : Act} {w : World} (S : World → Prop) (hm : P.follows .mixedOrders = true) (hS : S w.drew)
    (h : AnyS P .any ops Q S ops.size (Array.replicate ops.size false) a) : (Code.region id ops true).wp P Q a w :=
  wp_region_any hm (AnyS.any _ _ _ _ hS h)

/-- Take number i: an operation that yields v and leaves the world as it is. -/
theorem AnyS.pure (i : Nat) (d : Option Tmp) {oi : Oper} {v : Value} {fuel : Nat} {listed : Array Bool} {a : Act} (hi : ops[i]? = some oi) (hd : oi.dst = d)
    (hs : Region.noSelect ops = true) (hf : Region.free md ops listed i = true) (hr : (Region.ready md ops listed).contains i = true)
    (hQ : ∀ c a w, Q (.panic c) (a.put d v) w → Q (.panic c) a w) (hw : Region.wanted oi (yielded ops a.tmps) = true)
    (hy : ∀ w, S w → (execOp a.eval oi).run P w = .ok (.value v) w)
    (h : AnyS P md ops Q S fuel (listed.setIfInBounds i true) (a.put d v)) : AnyS P md ops Q S (fuel + 1) listed a := by
  subst hd
  exact AnyS.first hi (Region.noSelect_spec hs) hQ fuel listed a (Region.free_spec hi hf) (by simpa using hr) (.inl ⟨hw, fun w hS => by rw [hy w hS]; exact ⟨rfl, hS⟩⟩) h

/-- Take number i: its guard is false. -/
theorem AnyS.skip (i : Nat) (d : Option Tmp) {oi : Oper} {fuel : Nat} {listed : Array Bool} {a : Act} (hi : ops[i]? = some oi) (hd : oi.dst = d)
    (hs : Region.noSelect ops = true) (hf : Region.free md ops listed i = true) (hr : (Region.ready md ops listed).contains i = true)
    (hQ : ∀ c a w, Q (.panic c) (a.put d undef) w → Q (.panic c) a w) (hw : Region.wanted oi (yielded ops a.tmps) = false)
    (h : AnyS P md ops Q S fuel (listed.setIfInBounds i true) (a.put d undef)) : AnyS P md ops Q S (fuel + 1) listed a := by
  subst hd
  exact AnyS.first hi (Region.noSelect_spec hs) hQ fuel listed a (Region.free_spec hi hf) (by simpa using hr) (.inr ⟨hw, rfl⟩) h

/-- Take number i: a call of a Go function, by its contract. -/
theorem AnyS.call (i : Nat) (d : Option Tmp) {oi : Oper} (v : Value) {fuel : Nat} {listed : Array Bool} {a : Act} (hi : ops[i]? = some oi) (hd : oi.dst = d)
    (hs : Region.noSelect ops = true) (hf : Region.free md ops listed i = true) (hr : (Region.ready md ops listed).contains i = true)
    (hQ : ∀ c a w, Q (.panic c) (a.put d v) w → Q (.panic c) a w) (hw : Region.wanted oi (yielded ops a.tmps) = true)
    (f : FuncId) (fn : Func) (hfn : P.funcs[f]? = some fn) (hname : (fn.name == "runtime.NumGoroutine") = false) (hb : fn.body.isNone = false) (xs : Array Operand) (ts : Array TypeId)
    (ho : oi.op = .call { callee := .value (.func f), args := xs, argTypes := ts }) (vs : Array Value) (hv : xs.map a.eval = vs)
    (hc : ∀ w, S w → Calls P f vs w fun en w' => en = .returned v ∧ S w')
    (h : AnyS P md ops Q S fuel (listed.setIfInBounds i true) (a.put d v)) : AnyS P md ops Q S (fuel + 1) listed a := by
  subst hd
  exact AnyS.first hi (Region.noSelect_spec hs) hQ fuel listed a (Region.free_spec hi hf) (by simpa using hr) (.inl ⟨hw, fun w hS => by
    have hfv : a.eval (.func f) = .func (.func f) #[] #[] := rfl
    have he : (execOp a.eval oi).run P w = .ok (.enter f vs) w := by
      simp only [execOp, ho]
      have h1 : fn.name ≠ "runtime.NumGoroutine" := by simpa using hname
      simp [resolve, hv, hfv, Deferred.ofValue, invoke, callFunc, hfn, h1]
      intro hn
      simp [hn] at hb
    rw [he]
    exact hc w hS⟩) h

/-- One operation may come up, or one of two; what it comes to. -/
theorem held_one {i : Nat} {fuel : Nat} {listed : Array Bool} {a : Act} {w : World} (hr : Region.ready md ops listed = [i])
    (h : wpOp P ops Q i (fun a' w' => S w' ∧ wpAnyH P md ops Q S fuel (listed.setIfInBounds i true) a' w') a w) : wpAnyH P md ops Q S (fuel + 1) listed a w :=
  wpAnyH_all hr (by simp) (fun j hj => by obtain rfl := List.mem_singleton.1 hj; exact h)
theorem held_two {i j : Nat} {fuel : Nat} {listed : Array Bool} {a : Act} {w : World} (hr : Region.ready md ops listed = [i, j])
    (h1 : wpOp P ops Q i (fun a' w' => S w' ∧ wpAnyH P md ops Q S fuel (listed.setIfInBounds i true) a' w') a w)
    (h2 : wpOp P ops Q j (fun a' w' => S w' ∧ wpAnyH P md ops Q S fuel (listed.setIfInBounds j true) a' w') a w) : wpAnyH P md ops Q S (fuel + 1) listed a w :=
  wpAnyH_all hr (by simp) (fun k hk => by
    rcases List.mem_cons.1 hk with rfl | hk
    · exact h1
    · obtain rfl := List.mem_singleton.1 hk
      exact h2)

theorem held_take (i : Nat) (d : Option Tmp) {oi : Oper} {v : Value} {fuel : Nat} {listed : Array Bool} {a : Act} {w : World} (hi : ops[i]? = some oi) (hd : oi.dst = d)
    (hs : Region.noSelect ops = true) (hf : Region.free md ops listed i = true) (hr : (Region.ready md ops listed).contains i = true)
    (hQ : ∀ c a w, Q (.panic c) (a.put d v) w → Q (.panic c) a w) (hy : YieldsIf P ops S oi v a) (hS : S w)
    (h : wpAnyH P md ops Q S fuel (listed.setIfInBounds i true) (a.put d v) w) : wpAnyH P md ops Q S (fuel + 1) listed a w := by
  subst hd
  exact wpAnyH_take hi hs hf hr hQ hy hS h

theorem wpOp_value (d : Option Tmp) {i : Nat} {o : Oper} {v : Value} {K : Act → World → Prop} {a : Act} {w w' : World} (hi : ops[i]? = some o) (hd : o.dst = d) (hw : Region.wanted o (yielded ops a.tmps) = true)
    (hr : (execOp a.eval o).run P w = .ok (.value v) w') (h : K (a.put d v) w') : wpOp P ops Q i K a w := by
  subst hd
  unfold wpOp
  simp only [hi, hw, if_true, Oper.wp, hr]
  exact .inl h

theorem wpOp_call (d : Option Tmp) {i : Nat} {o : Oper} {K : Act → World → Prop} {a : Act} {w : World} (hi : ops[i]? = some o) (hd : o.dst = d) (hw : Region.wanted o (yielded ops a.tmps) = true)
    (f : FuncId) (fn : Func) (hfn : P.funcs[f]? = some fn) (hname : (fn.name == "runtime.NumGoroutine") = false) (hb : fn.body.isNone = false) (xs : Array Operand) (ts : Array TypeId)
    (ho : o.op = .call { callee := .value (.func f), args := xs, argTypes := ts }) (vs : Array Value) (hv : xs.map a.eval = vs) {R : Ending → World → Prop} (hc : Calls P f vs w R)
    (h : ∀ en w', R en w' → ∃ v, en = .returned v ∧ K (a.put d v) w') : wpOp P ops Q i K a w := by
  subst hd
  have hf : a.eval (.func f) = .func (.func f) #[] #[] := rfl
  have he : (execOp a.eval o).run P w = .ok (.enter f vs) w := by
    simp only [execOp, ho]
    have h1 : fn.name ≠ "runtime.NumGoroutine" := by simpa using hname
    simp [resolve, hv, hf, Deferred.ofValue, invoke, callFunc, hfn, h1]
    intro hn
    simp [hn] at hb
  unfold wpOp
  simp only [hi, hw, if_true]
  refine .inl ?_
  unfold Oper.wp
  rw [he, Oper.upon_enter]
  refine hc.mono ?_
  intro en w' hR
  obtain ⟨v, rfl, hK⟩ := h en w' hR
  exact hK

end
end Go.Proofs.Ytndnjeahepahkaa
end

section
/- Rows that are owned (slices that grew by append, or were laid as literals): what keeps them, what stands in them. Of no program. -/
namespace Go.Proofs.Ytndnjeahepahkaa
open Go.RowKit

section
variable {w w' : World} {e : TypeId} {size n : Nat} {v : Value} {xs : List Value}

theorem own_lt {b : Nat} (h : w.ownsRow 0 e size v n xs) (hb : v.ownBlock = some b) : b < w.heap.size := by
  rcases h.2 with ⟨rfl, _⟩ | ⟨g, cap, cur, rfl, _, hg, _⟩
  · cases hb
  · injection hb with hb
    subst hb
    rcases Nat.lt_or_ge g w.heap.size with k | k
    · exact k
    · rw [Array.getElem?_eq_none k] at hg; cases hg

theorem own_turn {F : Nat → Prop} (h : w.ownsRow 0 e size v n xs) (t : Turn F w w') (hr : ∀ b, v.ownBlock = some b → ¬ F b) : w'.ownsRow 0 e size v n xs := by
  refine ⟨h.1, ?_⟩
  rcases h.2 with k | ⟨g, cap, cur, e1, e2, e3, e4⟩
  · exact .inl k
  · have hg : g < w.heap.size := own_lt h (by rw [e1]; rfl)
    exact .inr ⟨g, cap, cur, e1, e2, (t.block g hg (hr g (by rw [e1]; rfl))).trans e3, e4⟩

theorem own_ne {b : Nat} {t : TypeId} {cs : Array Value} (h : w.ownsRow 0 e size v n xs) (hb : Has w b t cs) (hne : e ≠ t) : v.ownBlock ≠ some b := by
  rcases h.2 with ⟨rfl, _⟩ | ⟨g, cap, cur, rfl, _, hg, _⟩
  · intro k; cases k
  · intro k
    injection k with k
    obtain rfl : g = b := k
    have hg' : Has w g e cur := hg
    exact hne (hg'.uniq hb).2

theorem own_own {e' : TypeId} {size' n' : Nat} {v' : Value} {xs' : List Value} (h : w.ownsRow 0 e size v n xs) (h' : w.ownsRow 0 e' size' v' n' xs') (hne : e ≠ e') : ∀ b, v.ownBlock = some b → v'.ownBlock ≠ some b := by
  intro b hb
  rcases h.2 with ⟨rfl, _⟩ | ⟨g, cap, cur, rfl, _, hg, _⟩
  · cases hb
  · injection hb with hb
    obtain rfl : g = b := hb
    have hg' : Has w g e cur := hg
    exact own_ne h' hg' (fun k => hne k.symm)

/-- What stands in the row. -/
theorem own_cell (h : w.ownsRow 0 e size v n xs) (hn : 0 < n) : ∃ g c, v = .slice (some ⟨g, 0, none⟩) n c ∧ n ≤ c ∧ c ≤ maxLen ∧ ∀ j u, xs[j]? = some u → w.cell? ⟨g, j, none⟩ = some u := by
  rcases h.2 with ⟨_, h0⟩ | ⟨g, cap, cur, rfl, _, hg, hc1, hc2, _, hx⟩
  · omega
  · refine ⟨g, cap, rfl, hc1, hc2, fun j u hj => ?_⟩
    have hg' : Has w g e cur := hg
    rw [hg'.cell, ← Array.getElem?_toList]
    have hjl : j < xs.length := by
      rcases Nat.lt_or_ge j xs.length with k | k
      · exact k
      · rw [List.getElem?_eq_none k] at hj; cases hj
    have hl : xs.length ≤ n * size := by rw [h.1]; exact Nat.le_refl _
    have h1 : (cur.toList.take (n * size))[j]? = cur.toList[j]? := List.getElem?_take_of_lt (by omega)
    rw [← h1, hx, hj]

theorem own_slice (h : w.ownsRow 0 e size v n xs) : ∃ a c, v = .slice a n c := by
  rcases h.2 with ⟨h1, h2⟩ | ⟨g, cap, cur, h1, _⟩
  · exact ⟨none, 0, by rw [h1, h2]⟩
  · exact ⟨_, _, h1⟩
end

end Go.Proofs.Ytndnjeahepahkaa
end

section
/- ledger: what Save gives. -/
namespace Go.Proofs.Ytndnjeahepahkaa
open Go.RowKit Go.Maps Go.Sort

section
variable {H : Type}

theorem Mp.turn {w w' : World} {m : Nat} {D : DataW H} {F : Nat → Prop} (h : Mp w m D) (t : Turn F w w') (hm : ¬ F m) : Mp w' m D := by
  have hlt := World.ownsMap.lt h
  obtain ⟨es, clock, hb, r⟩ := h
  exact ⟨es, clock, (t.block m hlt hm).trans hb, r⟩
theorem Bk.turn {w w' : World} {d m : Nat} {D : DataW H} {F : Nat → Prop} (h : Bk w d m D) (t : Turn F w w') (hd : ¬ F d) (hm : ¬ F m) : Bk w' d m D := ⟨h.box.turn t hd, h.map.turn t hm⟩
theorem row_low {w : World} {e : TypeId} {size n b : Nat} {v : Value} {xs : List Value} (h : w.ownsRow b e size v n xs) : w.ownsRow 0 e size v n xs := by
  refine ⟨h.1, ?_⟩
  rcases h.2 with h | ⟨g, cap, cur, h1, _, h3⟩
  · exact .inl h
  · exact .inr ⟨g, cap, cur, h1, Nat.zero_le _, h3⟩

/-- Where Save's writing stands. -/
structure SJ (w : World) (d m : Nat) (D : DataW H) (b : Nat) (r : Option Nat) (X : List UInt8) (v : Value) (n : Nat) (rows : List Value) (V : World) : Prop where
  wr : Wr V b r X
  bk : Bk V d m D
  rw : V.ownsRow 0 9 1 v n rows
  tn : Turn (fun k => w.heap.size ≤ k) w V
  dl : d < w.heap.size
  ml : m < w.heap.size
  fb : w.heap.size ≤ b
  fr : ∀ k, r = some k → w.heap.size ≤ k

section
variable {w V V' : World} {d m b n : Nat} {D : DataW H} {r r' : Option Nat} {X : List UInt8} {v : Value} {rows : List Value}
theorem SJ.drawn (h : SJ w d m D b r X v n rows V) : SJ w d m D b r X v n rows V.drew := ⟨h.wr, ⟨h.bk.box.drew, h.bk.map⟩, h.rw, h.tn.drew, h.dl, h.ml, h.fb, h.fr⟩
theorem SJ.next (X : List UInt8) {X' : List UInt8} (h : SJ w d m D b r X v n rows V) (hr : r' = r ∨ ∃ k, r' = some k ∧ V.heap.size ≤ k) (t : Turn (fun k => k = b ∨ some k = r) V V') (hw : Wr V' b r' X') : SJ w d m D b r' X' v n rows V' := by
  have hdl := h.dl
  have hml := h.ml
  have hfb := h.fb
  obtain ⟨u, hb, ho, hv, hne⟩ := h.wr
  refine ⟨hw, h.bk.turn t (fun hF => ?_) (fun hF => ?_), own_turn h.rw t (fun k hk hF => ?_), h.tn.trans t (fun j hj hF => ?_), h.dl, h.ml, h.fb, fun k hk => ?_⟩
  · rcases hF with hF | hF
    · omega
    · have := h.fr _ hF.symm; omega
  · rcases hF with hF | hF
    · omega
    · have := h.fr _ hF.symm; omega
  · rcases hF with hF | hF
    · exact own_ne h.rw hb (by decide) (by rw [hk, hF])
    · exact own_own h.rw ho (by decide) k hk (by rw [hv, hF])
  · rcases hF with hF | hF
    · omega
    · exact h.fr _ hF.symm
  · rcases hr with rfl | ⟨j, rfl, hj⟩
    · exact h.fr k hk
    · injection hk with hk
      have := h.tn.size
      omega
end

theorem made_writer (w : World) : Wr (w.alloc (.cells #[.slice none 0 0] 116)) w.heap.size none [] :=
  ⟨_, Has.made _ _ _, World.ownsRow_nil _ 0 _ 1, rfl, by intro h; cases h⟩

theorem flat_len (f : List UInt8 → List UInt8) (c : Nat) : ∀ l : List (List UInt8), (∀ x ∈ l, (f x).length ≤ c) → (l.flatMap f).length ≤ c * l.length
  | [], _ => by simp
  | x :: r, h => by
    have h1 := h x List.mem_cons_self
    have h2 := flat_len f c r (fun y hy => h y (List.mem_cons_of_mem _ hy))
    rw [List.flatMap_cons, List.length_append, List.length_cons, Nat.mul_add]
    omega

theorem piece_len {D : DataW H} (I : InvF D) {x : List UInt8} (hx : x ∈ namesD D) : (pieceD D x).length ≤ 34 ∧ x.length ≤ 12 ∧ 0 ≤ amtL D x ∧ amtL D x ≤ 1099511627776 := by
  obtain ⟨h1, h2⟩ := (mem_namesD I.good x).1 hx
  have h3 := I.keys _ h2
  have h4 : x.length ≤ 12 := h3
  have h5 := I.inv.lo _ (empty_toArray h1)
  have h6 := I.inv.hi _ (empty_toArray h1)
  have h7 : amtL D x = amt D ⟨x.toArray⟩ := rfl
  have e1 := enc_len x.length (by omega)
  have e2 := enc_len (amtL D x).toNat (by omega)
  refine ⟨?_, h4, by omega, by omega⟩
  unfold pieceD
  rw [List.length_append, List.length_append]
  omega

set_option maxRecDepth 100000 in
set_option maxHeartbeats 1000000 in
theorem bsave_calls (d m : Nat) (D : DataW H) (w : World) (h : Bk w d m D) (I : InvF D) :
    Calls Try.prog 75 #[.pointer (some ⟨d, 0, none⟩)] w fun en w' => en = .returned (.string (saveB D)) ∧ Below w.heap.size w w' := by
  have hmax : Maps.size D ≤ 1000 := by have := I.inv.size; omega
  have hnl : (namesD D).length ≤ 16 := by have := namesD_len I; have := I.inv.size; omega
  have B := Lib.hid h
  have II := Lib.hid I
  have DL := Lib.hid h.box.lt
  have ML := Lib.hid (World.ownsMap.lt h.map)
  clear h
  go_enter Try.func75, Try.ntmps75
  go_wp2_with fail
  refine (bnames_calls d m D _ (B.out.kept (World.grownBy_alloc w _ none) (by simp) (by simp)) hmax).mono ?_
  rintro en w1 ⟨v, rfl, hrow, b1⟩
  have hrow' : w1.ownsRow 0 9 1 v (namesD D).length ((namesD D).map encStr) := by
    have := row_low hrow
    have e : (nb (strKeys D)).length = (namesD D).length := by unfold namesD; rw [List.length_mergeSort]
    rw [e] at this
    exact this
  have HJ0 : Hid (SJ w d m D w.heap.size none [] v (namesD D).length ((namesD D).map encStr) w1) := by
    have t0 : Turn (fun k => w.heap.size ≤ k) w (w.alloc (.cells #[.slice none 0 0] 116)) := (Turn.refl _ _).alloc _
    have t1 : Turn (fun k => w.heap.size ≤ k) w w1 := t0.trans (Turn.of_below b1 (F := fun k => (w.alloc (.cells #[.slice none 0 0] 116)).heap.size ≤ k) (fun _ _ e => e)) (fun j hj hF => by simp at hF; omega)
    obtain ⟨u, hb, ho, hv, hne⟩ := made_writer w
    have k1 : Turn (fun k => (w.alloc (.cells #[.slice none 0 0] 116)).heap.size ≤ k) (w.alloc (.cells #[.slice none 0 0] 116)) w1 := Turn.of_below b1 (fun _ _ e => e)
    refine ⟨⟨u, hb.turn k1 (by simp), own_turn ho k1 (fun b hb => by rw [hv] at hb; cases hb), hv, hne⟩, B.out.turn t1 (by have := DL.out; omega) (by have := ML.out; omega), hrow', t1, DL.out, ML.out, Nat.le_refl _, fun k hk => by cases hk⟩
  obtain ⟨a, c, rfl⟩ := own_slice hrow'
  clear hrow hrow' b1
  generalize hn : (namesD D).length = n at *
  have HN := Lib.hid hn
  clear hn
  go_wp2_with fail
  refine (wnum_int w.heap.size none [] (n : Int) w1 (by omega) (by omega) HJ0.out.wr (by simp)).mono ?_
  rintro en w2 ⟨rfl, r2, h2, hr2, t2⟩
  have HJ2 := Lib.hid (SJ.next _ HJ0.out hr2 t2 h2)
  simp only [List.nil_append, Int.toNat_natCast] at HJ2
  clear h2 hr2 t2 HJ0
  go_wp2_with fail
  go_loopw [15] (fun i wr => ∃ (k : Nat) (r : Option Nat), i = .int .i64 k ∧ k ≤ n ∧ SJ w d m D w.heap.size r (enc n ++ ((namesD D).take k).flatMap (pieceD D)) (.slice a n c) n ((namesD D).map encStr) wr)
    (fun i _ => n - (intOf i).toNat)
  case atStart => exact ⟨0, r2, rfl, Nat.zero_le _, by simpa using HJ2.out⟩
  case round =>
    obtain ⟨k, r, rfl, hk, hJ⟩ := hrel
    have HJ := Lib.hid hJ
    by_cases hlt : k < n
    · obtain ⟨g, c', hv, hnc, hcm, hcell⟩ := own_cell hJ.rw (by omega)
      obtain ⟨rfl, rfl⟩ : a = some ⟨g, 0, none⟩ ∧ c = c' := by injection hv with h1 _ h2; exact ⟨h1, h2⟩
      have hkl : k < (namesD D).length := by rw [HN.out]; exact hlt
      have hc0 := hcell k (encStr (namesD D)[k]) (by rw [List.getElem?_map, List.getElem?_eq_getElem hkl]; rfl)
      have HM : Hid ((namesD D)[k] ∈ namesD D) := List.getElem_mem hkl
      have HT : Hid ((namesD D).take (k + 1) = (namesD D).take k ++ [(namesD D)[k]]) := (List.take_append_getElem hkl).symm
      generalize (namesD D)[k] = x at *
      unfold encStr at hc0
      clear hcell hv hJ
      have hk2 : k ≤ c := by omega
      go_wp2_with fail
      have hp := piece_len II.out HM.out
      obtain ⟨hp0, hp1, hp2, hp3⟩ := hp
      have hcv : ∀ V : World, (convert 3 120 (.int .i64 (amtL D x))).run Try.prog V = .ok (.int .u64 (amtL D x)) V := fun V => by
        go_simp
        rw [IntKind.wrap_u64]; omega
      have hkey : keyOf Try.prog 9 (.string ⟨x.toArray⟩) = some (kS ⟨x.toArray⟩) := kS_of (by show x.toArray.size ≤ _; unfold maxLen; simp; omega)
      have hlen : (enc n ++ ((namesD D).take k).flatMap (pieceD D)).length ≤ 1000 := by
        have e1 := enc_len n (by omega)
        have e2 := flat_len (pieceD D) 34 ((namesD D).take k) (fun y hy => (piece_len II.out (List.mem_of_mem_take hy)).1)
        rw [List.length_take] at e2
        rw [List.length_append]
        omega
      have hlen3 : (enc n ++ ((namesD D).take k).flatMap (pieceD D) ++ enc (⟨x.toArray⟩ : ByteArray).size ++ (⟨x.toArray⟩ : ByteArray).data.toList).length ≤ 1000000 := by
        have e0 : (⟨x.toArray⟩ : ByteArray).size = x.length := by show x.toArray.size = _; simp
        have e1 := enc_len x.length (by omega)
        have e2 : (⟨x.toArray⟩ : ByteArray).data.toList.length = x.length := by simp
        rw [e0, List.length_append, List.length_append]
        omega
      refine wp_region_held (S := fun V => Bk V d m D) (by kernel_rfl) ?_
      have HS0 : (fun V : World => Bk V d m D) wr.drew := HJ.out.drawn.bk
      refine held_take 0 (some 19) rfl rfl (by kernel_rfl) (by kernel_rfl) (by kernel_rfl) (fun _ _ _ h => h) (.inl ⟨by kernel_rfl, fun _ _ => rfl⟩) HS0 ?_
      refine held_take 2 (some 21) rfl rfl (by kernel_rfl) (by kernel_rfl) (by kernel_rfl) (fun _ _ _ h => h) (.inl ⟨by kernel_rfl, fun _ _ => rfl⟩) HS0 ?_
      refine held_take 3 (some 22) (v := .pointer (some ⟨d, 0, none⟩)) rfl rfl (by kernel_rfl) (by kernel_rfl) (by kernel_rfl) (fun _ _ _ h => h) (.inl ⟨by kernel_rfl, fun V _ => by go_simp⟩) HS0 ?_
      refine held_take 4 (some 23) (v := .pointer (some ⟨d, 0, none⟩)) rfl rfl (by kernel_rfl) (by kernel_rfl) (by kernel_rfl) (fun _ _ _ h => h) (.inl ⟨by kernel_rfl, fun V _ => by go_simp⟩) HS0 ?_
      refine held_take 5 (some 24) (v := .map (some m)) rfl rfl (by kernel_rfl) (by kernel_rfl) (by kernel_rfl) (fun _ _ _ h => h) (.inl ⟨by kernel_rfl, fun V hV => by have c0 : V.cell? ⟨d, 0, none⟩ = some (.map (some m)) := (show Bk V d m D from hV).box.cell 0; go_simp⟩) HS0 ?_
      refine held_take 6 (some 25) rfl rfl (by kernel_rfl) (by kernel_rfl) (by kernel_rfl) (fun _ _ _ h => h) (.inl ⟨by kernel_rfl, fun _ _ => rfl⟩) HS0 ?_
      refine held_take 7 (some 26) (v := .int .i64 (amtL D x)) rfl rfl (by kernel_rfl) (by kernel_rfl) (by kernel_rfl) (fun _ _ _ h => h) (.inl ⟨by kernel_rfl, fun V hV => by
        obtain ⟨q, hq, hat, _⟩ := World.ownsMap.lookup_int (show Bk V d m D from hV).map strKeyed Try.underlying85 Try.underlying3 (zeroInt V) hkey
        obtain rfl : amtL D x = q := amt_of hat
        go_simp⟩) HS0 ?_
      refine held_take 8 (some 27) (v := .int .u64 (amtL D x)) rfl rfl (by kernel_rfl) (by kernel_rfl) (by kernel_rfl) (fun _ _ _ h => h) (.inl ⟨by kernel_rfl, fun V _ => by go_simp⟩) HS0 ?_
      simp only [Act.put, List.setIfInBounds_toArray, List.set_cons_zero, List.set_cons_succ]
      refine held_one (i := 1) (by kernel_rfl) ?_
      refine wpOp_call (some 20) rfl rfl (by kernel_rfl) 60 Try.f60 Try.func60 (by kernel_rfl) (by kernel_rfl) _ _ rfl #[.pointer (some ⟨w.heap.size, 0, none⟩), .string ⟨x.toArray⟩] (by first | (simp [Act.eval]; done) | (simp [Act.eval, Act.put]; done)) (wstr_any w.heap.size r _ ⟨x.toArray⟩ _ HJ.out.drawn.wr (by omega) (by show x.toArray.size ≤ _; simp; omega)) ?_
      rintro en v ⟨rfl, r3, h3, hr3, t3⟩
      have HJ3 := Lib.hid (SJ.next _ HJ.out.drawn hr3 t3 h3)
      clear h3 hr3 t3
      refine ⟨_, rfl, HJ3.out.bk, ?_⟩
      simp only [Act.put, List.setIfInBounds_toArray, List.set_cons_zero, List.set_cons_succ]
      refine held_one (i := 9) (by kernel_rfl) ?_
      refine wpOp_call (some 28) rfl rfl (by kernel_rfl) 62 Try.f62 Try.func62 (by kernel_rfl) (by kernel_rfl) _ _ rfl #[.pointer (some ⟨w.heap.size, 0, none⟩), .int .u64 (amtL D x)] (by first | (simp [Act.eval]; done) | (simp [Act.eval, Act.put]; done)) (wnum_int w.heap.size r3 _ (amtL D x) _ hp2 (by omega) HJ3.out.wr hlen3) ?_
      rintro en v4 ⟨rfl, r4, h4, hr4, t4⟩
      have HJ4 := Lib.hid (SJ.next _ HJ3.out hr4 t4 h4)
      clear h4 hr4 t4
      refine ⟨_, rfl, HJ4.out.bk, ?_⟩
      simp only [Act.put, List.setIfInBounds_toArray, List.set_cons_zero, List.set_cons_succ]
      refine wpAnyH_done (by kernel_rfl) ?_ _
      clear HS0 hkey hcv
      go_wp2_with fail
      go_roundw
      case rel =>
        refine ⟨k + 1, r4, by go_num, by omega, ?_⟩
        have e : enc n ++ ((namesD D).take (k + 1)).flatMap (pieceD D) = enc n ++ ((namesD D).take k).flatMap (pieceD D) ++ enc (⟨x.toArray⟩ : ByteArray).size ++ (⟨x.toArray⟩ : ByteArray).data.toList ++ enc (amtL D x).toNat := by
          rw [HT.out, List.flatMap_append]
          have : (⟨x.toArray⟩ : ByteArray).size = x.length := by show x.toArray.size = _; simp
          rw [this]
          simp [pieceD]
        rw [e]
        exact HJ4.out
      case measure => simp [intOf]; omega
    · obtain rfl : k = n := by omega
      have E : Hid (enc k ++ ((namesD D).take k).flatMap (pieceD D) = saveL D) := by
        show _ = _
        rw [List.take_of_length_le (by rw [HN.out]; omega)]
        unfold saveL
        rw [HN.out]
      clear hJ
      go_wp2_with fail
      refine (text_any _ _ _ _ HJ.out.wr).mono ?_
      rintro en w6 ⟨rfl, rfl⟩
      go_wp2_with fail
      go_ret
      refine ⟨?_, HJ.out.tn.below (Nat.le_refl _) (fun j hj e => by omega)⟩
      show Ending.returned (.string _) = _
      rw [E.out]
      rfl

end
end Go.Proofs.Ytndnjeahepahkaa
end

section
/- What wire's Reader gives where a bound is named: Upto, take, Str. -/
namespace Go.Proofs.Ytndnjeahepahkaa
open Go.RowKit

/-- What Upto answers, leaves and tells. -/
def upto (most : Int) (s : ByteArray) (e : Int) : Nat × ByteArray × Int :=
  let r := dec 0 0 s.data.toList
  if (r.2.1 : Int) ≤ max most 0 then (r.2.1, restOf s r, errOf e r) else (0, ⟨#[]⟩, first (errOf e r) 3)

def UptoPost (b : Nat) (w : World) (r : Nat × ByteArray × Int) (en : Ending) (w' : World) : Prop :=
  en = .returned (.int .i64 (r.1 : Nat)) ∧ Rd w' b r.2.1 r.2.2 ∧ w.grownBy w' (some b)

set_option maxRecDepth 100000 in
set_option maxHeartbeats 400000 in
theorem upto_any (b : Nat) (s : ByteArray) (e most : Int) (w : World) (hs : s.size ≤ maxLen) (h : Rd w b s e) (hm0 : -9223372036854775808 ≤ most) (hm1 : most ≤ 9223372036854775807) :
    Calls Try.prog 71 #[.pointer (some ⟨b, 0, none⟩), .int .i64 most] w fun en w' => UptoPost b w (upto most s e) en w' := by
  have hlt := dec_lt s.data.toList 0 0 (by omega)
  generalize hu : upto most s e = u
  generalize hr : dec 0 0 s.data.toList = r at hlt
  unfold upto at hu
  rw [hr] at hu
  have HU := Lib.hid hu
  have HR := Lib.hid hr
  clear hu hr
  obtain ⟨r1, n, r3⟩ := r
  have hn : n < 18446744073709551616 := hlt
  clear hlt
  by_cases hc : (n : Int) ≤ max most 0
  · have E : Hid (u = (n, restOf s (r1, n, r3), errOf e (r1, n, r3))) := by show _ = _; rw [← HU.out, if_pos hc]
    clear HU
    by_cases h0 : most < 0
    · obtain rfl : n = 0 := by omega
      clear hc
      go_enter Try.func71, Try.ntmps71
      go_wp2_with fail
      refine (num_any b s e w hs h).mono ?_
      rw [HR.out]
      rintro en w1 ⟨rfl, h1, g1⟩
      have H1 := Lib.hid h1
      clear h1 HR
      go_wp2_with fail
      go_ret
      rw [E.out]
      exact ⟨rfl, H1.out, g1⟩
    · have h0' : 0 ≤ most := by omega
      have hc' : (n : Int) ≤ most := by omega
      have hc2 : ¬ most < (n : Int) := by omega
      clear hc
      go_enter Try.func71, Try.ntmps71
      go_wp2_with fail
      refine (num_any b s e w hs h).mono ?_
      rw [HR.out]
      rintro en w1 ⟨rfl, h1, g1⟩
      have H1 := Lib.hid h1
      clear h1 HR
      go_wp2_with fail
      go_ret
      rw [E.out]
      exact ⟨rfl, H1.out, g1⟩
  · have E : Hid (u = (0, ⟨#[]⟩, first (errOf e (r1, n, r3)) 3)) := by show _ = _; rw [← HU.out, if_neg hc]
    clear HU
    have hc2 : most < (n : Int) := by omega
    have hc3 : 0 < (n : Int) := by omega
    clear hc
    by_cases h0 : most < 0
    · go_enter Try.func71, Try.ntmps71
      go_wp2_with fail
      refine (num_any b s e w hs h).mono ?_
      rw [HR.out]
      rintro en w1 ⟨rfl, h1, g1⟩
      have H1 := Lib.hid h1
      clear h1 HR
      go_wp2_with fail
      refine (fail_any _ _ _ _ _ H1.out).mono ?_
      rintro en w2 ⟨rfl, h2, g2⟩
      have H2 := Lib.hid h2
      clear h2
      go_wp2_with fail
      go_ret
      rw [E.out]
      exact ⟨rfl, H2.out, grown_trans g1 g2⟩
    · have h0' : 0 ≤ most := by omega
      go_enter Try.func71, Try.ntmps71
      go_wp2_with fail
      refine (num_any b s e w hs h).mono ?_
      rw [HR.out]
      rintro en w1 ⟨rfl, h1, g1⟩
      have H1 := Lib.hid h1
      clear h1 HR
      go_wp2_with fail
      refine (fail_any _ _ _ _ _ H1.out).mono ?_
      rintro en w2 ⟨rfl, h2, g2⟩
      have H2 := Lib.hid h2
      clear h2
      go_wp2_with fail
      go_ret
      rw [E.out]
      exact ⟨rfl, H2.out, grown_trans g1 g2⟩

/-- What the next n bytes are, what stays, the error's number. -/
def takeN (n : Nat) (s : ByteArray) (e : Int) : ByteArray × ByteArray × Int :=
  if n ≤ s.size then (s.extract 0 n, s.extract n s.size, e) else (⟨#[]⟩, ⟨#[]⟩, first e 1)

def TakePost (b : Nat) (w : World) (r : ByteArray × ByteArray × Int) (en : Ending) (w' : World) : Prop :=
  en = .returned (.string r.1) ∧ Rd w' b r.2.1 r.2.2 ∧ w.grownBy w' (some b)

set_option maxRecDepth 100000 in
set_option maxHeartbeats 400000 in
theorem take_any (b n : Nat) (s : ByteArray) (e : Int) (w : World) (_hs : s.size ≤ maxLen) (h : Rd w b s e) (_hn : n ≤ 9223372036854775807) :
    Calls Try.prog 70 #[.pointer (some ⟨b, 0, none⟩), .int .i64 n] w fun en w' => TakePost b w (takeN n s e) en w' := by
  have c0 : w.cell? ⟨b, 0, none⟩ = some (.string s) := h.cell 0
  have f0 := h.free 0
  unfold maxLen at _hs
  have H := Lib.hid h
  clear h
  by_cases hc : n ≤ s.size
  · have E : Hid (takeN n s e = (s.extract 0 n, s.extract n s.size, e)) := if_pos hc
    go_enter Try.func70, Try.ntmps70
    go_wp2_with fail
    go_ret
    rw [E.out]
    exact ⟨rfl, H.out.left _, grown_own (grown_refl w _) 0 _⟩
  · have E : Hid (takeN n s e = (⟨#[]⟩, ⟨#[]⟩, first e 1)) := if_neg hc
    go_enter Try.func70, Try.ntmps70
    go_wp2_with fail
    refine (fail_any _ _ _ _ _ H.out).mono ?_
    rintro en w2 ⟨rfl, h2, g2⟩
    have H2 := Lib.hid h2
    clear h2
    go_wp2_with fail
    go_ret
    rw [E.out]
    exact ⟨rfl, H2.out, g2⟩

theorem rest_size (s : ByteArray) (r : Nat × Nat × Nat) : (restOf s r).size ≤ s.size := by
  unfold restOf
  split
  · rw [ByteArray.size_extract]; omega
  · exact Nat.zero_le _

theorem upto_size (most : Int) (s : ByteArray) (e : Int) : (upto most s e).2.1.size ≤ s.size := by
  unfold upto
  simp only
  split
  · exact rest_size _ _
  · exact Nat.zero_le _

theorem upto_le (most : Int) (s : ByteArray) (e : Int) (hm1 : most ≤ 9223372036854775807) : (upto most s e).1 ≤ 9223372036854775807 := by
  unfold upto
  simp only
  split
  · show (dec 0 0 s.data.toList).2.1 ≤ _
    omega
  · exact Nat.zero_le _

/-- What Str answers, leaves and tells. -/
def strN (most : Int) (s : ByteArray) (e : Int) : ByteArray × ByteArray × Int := takeN (upto most s e).1 (upto most s e).2.1 (upto most s e).2.2

set_option maxRecDepth 100000 in
set_option maxHeartbeats 400000 in
theorem str_any (b : Nat) (s : ByteArray) (e most : Int) (w : World) (hs : s.size ≤ maxLen) (h : Rd w b s e) (hm0 : -9223372036854775808 ≤ most) (hm1 : most ≤ 9223372036854775807) :
    Calls Try.prog 68 #[.pointer (some ⟨b, 0, none⟩), .int .i64 most] w fun en w' => TakePost b w (strN most s e) en w' := by
  have hz := upto_size most s e
  have hl := upto_le most s e hm1
  have HT : Hid (strN most s e = takeN (upto most s e).1 (upto most s e).2.1 (upto most s e).2.2) := rfl
  go_enter Try.func68, Try.ntmps68
  go_wp2_with fail
  refine (upto_any b s e most w hs h hm0 hm1).mono ?_
  generalize upto most s e = u at *
  obtain ⟨n, s1, e1⟩ := u
  have hl' : n ≤ 9223372036854775807 := hl
  have hz' : s1.size ≤ maxLen := by have : s1.size ≤ s.size := hz; omega
  rintro en w1 ⟨rfl, h1, g1⟩
  have H1 := Lib.hid h1
  clear h1 hz hl
  go_wp2_with fail
  refine (take_any b n s1 e1 w1 hz' H1.out hl').mono ?_
  generalize takeN n s1 e1 = t at *
  rintro en w2 ⟨rfl, h2, g2⟩
  have H2 := Lib.hid h2
  clear h2 H1
  go_wp2_with fail
  go_ret
  rw [HT.out]
  exact ⟨rfl, H2.out, grown_trans g1 g2⟩

end Go.Proofs.Ytndnjeahepahkaa
end

section
/- A number's bytes are read as that number. -/
namespace Go.Proofs.Ytndnjeahepahkaa
open Go.RowKit

theorem hi_nil (m : Nat) : (hi m).length = 0 → m = 0 := by
  intro h
  rw [hi] at h
  by_cases hm : m = 0
  · exact hm
  · rw [if_neg hm] at h; simp at h

theorem dec_hi (m : Nat) : m < 144115188075855872 → ∀ l, dec 0 0 (hi m ++ l) = dec (hi m).length m l := by
  induction m using Nat.strongRecOn with
  | ind m ih =>
    intro hm l
    by_cases h0 : m = 0
    · subst h0; rw [hi_zero]; rfl
    · have hh : hi m = hi (m / 128) ++ [UInt8.ofNat (128 + m % 128)] := by
        conv => lhs; rw [hi, if_neg h0]
      rw [hh, List.append_assoc, ih (m / 128) (by omega) (by omega), List.singleton_append, dec]
      have hb : (UInt8.ofNat (128 + m % 128)).toNat = 128 + m % 128 := by simp; omega
      rw [hb, if_neg, if_neg (by omega)]
      · rw [List.length_append, List.length_singleton]
        congr 1
        omega
      · rintro (⟨h1, h2⟩ | h1)
        · have := hi_nil _ h1
          omega
        · omega

theorem dec_of_enc (n : Nat) (hn : n < 18446744073709551616) (t : List UInt8) : dec 0 0 (enc n ++ t) = (0, n, (enc n).length) := by
  unfold enc
  rw [List.append_assoc, dec_hi (n / 128) (by omega), List.singleton_append, dec]
  have hb : (UInt8.ofNat (n % 128)).toNat = n % 128 := by simp; omega
  rw [hb, if_neg, if_pos (by omega)]
  · rw [List.length_append, List.length_singleton]
    congr 2
    omega
  · rintro (⟨_, h2⟩ | h1) <;> omega

theorem extract_drop (a t : List UInt8) : (⟨(a ++ t).toArray⟩ : ByteArray).extract a.length (⟨(a ++ t).toArray⟩ : ByteArray).size = ⟨t.toArray⟩ := by
  apply ByteArray.ext
  apply Array.toList_inj.1
  have : (⟨(a ++ t).toArray⟩ : ByteArray).size = a.length + t.length := by show (a ++ t).toArray.size = _; simp
  rw [this]
  simp [ByteArray.data_extract]

theorem extract_head (a t : List UInt8) : (⟨(a ++ t).toArray⟩ : ByteArray).extract 0 a.length = ⟨a.toArray⟩ := by
  apply ByteArray.ext
  apply Array.toList_inj.1
  simp [ByteArray.data_extract]

theorem text_size (a : List UInt8) : (⟨a.toArray⟩ : ByteArray).size = a.length := by show a.toArray.size = _; simp

end Go.Proofs.Ytndnjeahepahkaa
end

section
/- What is put is taken: a number, a text at the head of what is left (no program's walk). -/
namespace Go.Proofs.Ytndnjeahepahkaa
open Go.RowKit

theorem upto_enc (n : Nat) (R : List UInt8) (most : Int) (h : (n : Int) ≤ max most 0) (hn : n < 18446744073709551616) : upto most ⟨(enc n ++ R).toArray⟩ 0 = (n, ⟨R.toArray⟩, 0) := by
  have e : dec 0 0 (⟨(enc n ++ R).toArray⟩ : ByteArray).data.toList = (0, n, (enc n).length) := by
    have := dec_of_enc n hn R
    simpa using this
  unfold upto
  simp only [e]
  rw [if_pos h]
  have hr : restOf ⟨(enc n ++ R).toArray⟩ (0, n, (enc n).length) = ⟨R.toArray⟩ := by
    unfold restOf
    rw [if_pos rfl]
    exact extract_drop (enc n) R
  rw [hr]
  rfl

theorem strN_enc (x R : List UInt8) (most : Int) (h : (x.length : Int) ≤ max most 0) (hn : x.length < 18446744073709551616) : strN most ⟨(enc x.length ++ (x ++ R)).toArray⟩ 0 = (⟨x.toArray⟩, ⟨R.toArray⟩, 0) := by
  unfold strN
  rw [upto_enc x.length (x ++ R) most h hn]
  unfold takeN
  rw [if_pos (by rw [text_size, List.length_append]; omega), extract_head]
  have := extract_drop x R
  rw [this]

theorem end_nil : endE ⟨([] : List UInt8).toArray⟩ 0 = 0 := rfl

end Go.Proofs.Ytndnjeahepahkaa
end

