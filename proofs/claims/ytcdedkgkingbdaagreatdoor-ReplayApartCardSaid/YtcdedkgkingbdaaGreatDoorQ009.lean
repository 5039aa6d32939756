/- Texts laid into one: TreeR, Any. -/
import Derived.Test.YtcdedkgkingbdaaGreatDoorQ008
import Derived.Test.YtcdedkgkingbdaaGreatDoorQ000
import Derived.OrdersHeld
import Derived.Deep.MidRow
section
/- tree: Forget. -/
namespace Go.Proofs.YtcdedkgkingbdaaGreatDoor.dig
open Go Go.RowKit

/-- The floor is another one. -/
theorem Raw.floor {F : Nat → Prop} {w : World} {b n fl K : Nat} {g c : Nat → Nat} {f : Nat → List UInt8} {rv : Value} {sv : Nat → Value} {idle : Nat → Nat} (h : Raw F w b n fl K g c f rv sv idle) (p : Nat) :
    Raw F (w.setCell ⟨b, 1, none⟩ (.int .i64 p)) b n p K g c f rv sv idle := by
  refine ⟨?_, Seg.far h.rows h.rv_b _, fun j hj => Seg.far (h.sums j hj) (h.sv_b hj) _, h.apart, h.fb, h.fr, h.fs, h.idle⟩
  have := h.tree.put 1 (.int .i64 p)
  simpa using this

/-- While rows forget: those below k have. -/
def mid (p fl k : Nat) : Nat → Nat := fun i => if i < k then gone p i else gone fl i
theorem mid_zero (p fl : Nat) : mid p fl 0 = gone fl := by
  funext i
  unfold mid
  rw [if_neg (by omega)]
theorem mid_next (p fl k : Nat) : upd (mid p fl k) k (gone p k) = mid p fl (k + 1) := by
  funext i
  unfold mid upd
  by_cases h : i = k
  · rw [if_pos h, if_pos (by omega), h]
  · rw [if_neg h]
    show (if i < k then gone p i else gone fl i) = _
    by_cases h2 : i < k
    · rw [if_pos h2, if_pos (by omega)]
    · rw [if_neg h2, if_neg (by omega)]
theorem mid_at (p fl k : Nat) : mid p fl k k = gone fl k := if_neg (by omega)

theorem Raw.gcongr {F : Nat → Prop} {w : World} {b n fl K : Nat} {g g' c : Nat → Nat} {f : Nat → List UInt8} {rv : Value} {sv : Nat → Value} {idle : Nat → Nat} (h : Raw F w b n fl K g c f rv sv idle) (e : ∀ i, i < K → g i = g' i) :
    Raw F w b n fl K g' c f rv sv idle :=
  ⟨h.tree, by
    rw [← flat_congr (g := rowC g sv idle) (h := rowC g' sv idle) (fun i _ hi => by unfold rowC; rw [e i (by omega)])]
    exact h.rows, fun j hj => by rw [← e j hj]; exact h.sums j hj, h.apart, h.fb, h.fr, h.fs, h.idle⟩

section
variable {B : Nat} {F : Nat → Prop} {b n fl : Nat} {f : Nat → List UInt8} {w : World}

set_option maxRecDepth 100000 in
set_option maxHeartbeats 2000000 in
theorem Tr.forget (hT : Tr B F w b n fl f) (p : Nat) (hp : fl ≤ p) (hn : p ≤ n) :
    Calls Tryz.prog 102 #[.pointer (some ⟨b, 0, none⟩), .int .i64 p] w fun en w' => en = .returned (.int .i64 0) ∧ Tr B (fun k => F k ∨ w.heap.size ≤ k) w' b n p f ∧ Turn F w w' := by
  obtain ⟨rv, sv, idle, h⟩ := hT.raw
  have e0 := h.tree.cell 0
  have e1 := h.tree.cell 1
  simp at e0 e1
  have hsm := hT.small
  have h1 : ¬ (p : Int) < 0 := by omega
  have h2 : ¬ (p : Int) > (n : Int) := by omega
  have h3 : ¬ (p : Int) < (fl : Int) := by omega
  have HT := Lib.hid hT
  have H := Lib.hid h
  have ht : tops n ≤ 32 := tops_small (by omega)
  have fz := h.tree.free
  obtain ⟨a0, c0, hrv, hc1, hc2⟩ := h.rows.slice
  subst hrv
  have hc3 : (c0 : Int) ≤ 9223372036854775807 := by unfold maxLen at hc2; omega
  have hk3 : (tops n : Int) ≤ (c0 : Int) := by omega
  have e2 : w.cell? ⟨b, 2, none⟩ = some (.slice a0 (tops n) c0) := h.tree.cell 2
  have W1 := h.floor p
  have T1 : Turn F w (w.setCell ⟨b, 1, none⟩ (.int .i64 p)) := (Turn.refl F w).put (fun _ => h.fb) 1 _
  have M := Lib.hid (show _ ∧ _ from ⟨W1, T1⟩)
  clear hT h W1 T1 hc1 hc2
  go_enter Tryz.func102, Tryz.ntmps102
  go_wp2_with fail
  generalize w.setCell ⟨b, 1, none⟩ (.int .i64 p) = W1 at M ⊢
  clear e0 e1 e2 fz
  have M0 : Hid ((∃ sv idle, Raw (fun x => F x ∨ w.heap.size ≤ x) W1 b n p (tops n) (mid p fl 0) (fun j => n / 2 ^ j) f (.slice a0 (tops n) c0) sv idle) ∧ Turn F w W1) :=
    Lib.hid ⟨⟨sv, idle, by rw [mid_zero]; exact M.out.1.more (fun _ _ h => .inl h)⟩, M.out.2⟩
  clear M
  go_loopw [31] (fun i wr => ∃ k : Nat, i = .int .i64 k ∧ k ≤ tops n ∧ Hid ((∃ sv idle, Raw (fun x => F x ∨ w.heap.size ≤ x) wr b n p (tops n) (mid p fl k) (fun j => n / 2 ^ j) f (.slice a0 (tops n) c0) sv idle) ∧ Turn F w wr)) (fun i _ => tops n - (intOf i).toNat)
  case atStart => exact ⟨0, rfl, Nat.zero_le _, M0⟩
  case round =>
    obtain ⟨k, rfl, hk, HS⟩ := hrel
    clear M0
    by_cases hkt : k < tops n
    · have hk1 : (k : Int) < (tops n : Int) := by omega
      have hk0 : (0 : Int) ≤ (k : Int) := by omega
      obtain ⟨sv, idle, r⟩ := HS.out.1
      obtain ⟨R, o, C, hrv, hRl, _, _, _⟩ := r.rows.cells (by omega)
      simp only [Value.slice.injEq] at hrv
      obtain ⟨rfl, _, rfl⟩ := hrv
      have f2 : wr.cell? ⟨b, 2, none⟩ = some (.slice (some ⟨R, o, none⟩) (tops n) c0) := r.tree.cell 2
      have hgd : gone fl k ≤ gone p k := gone_mono k hp
      have hgn : gone p k ≤ n / 2 ^ k := gone_le k hn
      have hnk : n / 2 ^ k ≤ 1000000 := Nat.le_trans (Nat.div_le_self _ _) hsm
      have hc := Raw.forget r.drew hkt (G := gone p k) (by rw [mid_at]; exact hgd) hgn hnk HT.out.len
      have HC := Lib.hid hc
      obtain ⟨k1, hk1'⟩ : ∃ k1, k1 = k + 1 := ⟨_, rfl⟩
      have i0 : IntKind.i64.wrap (k1 : Int) = (k1 : Int) := IntWalk.i64_in _ ⟨by omega, by omega⟩
      have i00 : (k : Int) + 1 = (k1 : Int) := by omega
      have i1 : (0 : Int) ≤ (k1 : Int) := by omega
      have i2 : min k1 64 = k1 := by omega
      obtain ⟨q, hq⟩ : ∃ q, q = p / 2 ^ k1 := ⟨_, rfl⟩
      have i3 : (p : Int) / 2 ^ k1 = (q : Int) := by rw [hq, Int.natCast_ediv]; simp
      have hqp : q ≤ p := by rw [hq]; exact Nat.div_le_self _ _
      have i4 : IntKind.i64.wrap (gone p k : Int) = (gone p k : Int) := IntWalk.i64_in _ ⟨by omega, by omega⟩
      have i5 : 2 * (q : Int) = (gone p k : Int) := by
        unfold gone
        rw [← hk1', ← hq]
        rfl
      have HK := Lib.hid (show _ ∧ _ from ⟨hk1', hq⟩)
      clear hc hgd hgn hnk r hk1' hq
      go_wp2_with fail
      go_region_law (refine step_call rfl 144 Tryz.f144 Tryz.func144 (by kernel_rfl) (by kernel_rfl) _ _ rfl #[.pointer (some ⟨R, o + k * 3, none⟩), .int .i64 (gone p k)] (by first | (simp [Act.eval]; done) | (simp [Act.eval, Act.put]; done)) (by exact HC.out) ?_
                     rintro en w4 ⟨rfl, h4, t4⟩
                     refine ⟨_, rfl, ?_⟩)
      have N : Hid ((∃ sv idle, Raw (fun x => F x ∨ w.heap.size ≤ x) w4 b n p (tops n) (mid p fl (k + 1)) (fun j => n / 2 ^ j) f (.slice (some ⟨R, o, none⟩) (tops n) c0) sv idle) ∧ Turn F w w4) := Lib.hid ⟨by
        obtain ⟨sv, idle, r⟩ := h4
        rw [mid_next] at r
        exact ⟨sv, idle, r.more (fun j _ h => by
          rcases h with h | h
          · exact h
          · have := HS.out.2.size; exact .inr (Nat.le_trans this h))⟩, HS.out.2.drew.trans t4 (fun j h1 h2 => by
          rcases h2 with h2 | h2
          · exact h2
          · omega)⟩
      clear h4 t4 HC HS f2 i00 i0 i1 i2 i3 i4 i5
      go_wp2_with fail
      refine ⟨⟨k + 1, by rw [Int.natCast_add]; rfl, by omega, N⟩, ?_⟩
      show tops n - ((k : Int) + 1).toNat < tops n - ((k : Int)).toNat
      omega
    · obtain rfl : k = tops n := by omega
      go_wp2_with fail
      go_ret
      obtain ⟨⟨sv, idle, r⟩, t⟩ := HS.out
      exact ⟨rfl, ⟨⟨_, sv, idle, r.gcongr (fun i hi => by unfold mid; rw [if_pos hi])⟩, HT.out.rt.turn t HT.out.hF, fun k hk => by
        rcases hk with hk | hk
        · exact HT.out.hF k hk
        · have := HT.out.rt.size; omega, HT.out.len, HT.out.small, hn⟩, t⟩

end
end Go.Proofs.YtcdedkgkingbdaaGreatDoor.dig
end

section
/- A region that draws its order and holds many calls: where each operation yields one value in every world that meets S, and leaves S, the order makes no difference: the region is walked once, operation by operation. Of no program. -/
namespace Go.Proofs.YtcdedkgkingbdaaGreatDoor
open Go.RowKit

section
variable {P : Program} {ops : Array Oper} {Q : Exit → Act → World → Prop} {md : Region.Mode} {S : World → Prop}

/-- What an operation comes to: v, in a world that meets S. -/
def Comes (P : Program) (S : World → Prop) (v : Value) : Result Next → Prop
  | .ok (.value u) w => u = v ∧ S w
  | .ok .skip w => v = undef ∧ S w
  | .ok (.enter f args) w => Calls P f args w fun en w' => en = .returned v ∧ S w'
  | _ => False

/-- In state a operation o makes v in every world that meets S, and leaves S. -/
def Makes (P : Program) (ops : Array Oper) (S : World → Prop) (o : Oper) (v : Value) (a : Act) : Prop :=
  (Region.wanted o (yielded ops a.tmps) = true ∧ ∀ w, S w → Comes P S v ((execOp a.eval o).run P w)) ∨
  (Region.wanted o (yielded ops a.tmps) = false ∧ v = undef)

theorem Makes.of_same {o : Oper} {v : Value} {a a' : Act} (hy : Makes P ops S o v a) (he : execOp a'.eval o = execOp a.eval o)
    (hw : Region.wanted o (yielded ops a'.tmps) = Region.wanted o (yielded ops a.tmps)) : Makes P ops S o v a' := by
  unfold Makes at *
  rw [he, hw]
  exact hy

theorem Makes.wpOp {i : Nat} {o : Oper} {v : Value} {a : Act} (hi : ops[i]? = some o) (hy : Makes P ops S o v a)
    {K : Act → World → Prop} {w : World} (hS : S w) (h : ∀ w', S w' → K (a.put o.dst v) w') : wpOp P ops Q i K a w := by
  unfold Go.wpOp
  simp only [hi]
  rcases hy with ⟨hw, hv⟩ | ⟨hw, rfl⟩
  · simp only [hw, if_true, Oper.wp]
    refine .inl ?_
    have := hv w hS
    generalize (execOp a.eval o).run P w = r at this
    cases r with
    | ok n w' =>
      cases n with
      | value u => obtain ⟨rfl, hs⟩ := this; exact h _ hs
      | skip => obtain ⟨rfl, hs⟩ := this; exact h _ hs
      | enter f args => exact Calls.mono this fun en w'' he => by obtain ⟨rfl, hs⟩ := he; exact h _ hs
      | _ => exact this.elim
    | halt x w' => exact this.elim
  · simp only [hw, Bool.false_eq_true, if_false]; exact h _ hS

theorem wpOp_putM {j : Nat} {oi oj : Oper} {v : Value} (hj : ops[j]? = some oj) (hap : oi.apart ops oj = true)
    (hsi : ∀ cs b, oi.op ≠ .select cs b) (hsj : ∀ cs b, oj.op ≠ .select cs b)
    (hQ : ∀ c a w, Q (.panic c) (a.put oi.dst v) w → Q (.panic c) a w) {K : Act → World → Prop} {a : Act} {w : World}
    (hy : Makes P ops S oi v a) (h : wpOp P ops Q j K (a.put oi.dst v) w) :
    wpOp P ops Q j (fun a' w' => Makes P ops S oi v a' ∧ K (a'.put oi.dst v) w') a w := by
  obtain ⟨h1, h2, h3⟩ := Oper.apart_spec hap
  have keep : ∀ (a : Act), Makes P ops S oi v a → ∀ u, Makes P ops S oi v (a.put oj.dst u) := fun a hy u =>
    hy.of_same (execOp_put oi hsi a oj.dst u h3) (wanted_put oi a oj.dst u h3)
  have keepD : ∀ d, Makes P ops S oi v { a with defers := d :: a.defers } := fun d => hy.of_same rfl rfl
  unfold wpOp at *
  simp only [hj] at *
  rw [wanted_put oj a oi.dst v h1] at h
  split
  · rename_i hw
    simp only [hw, if_true] at h
    rcases h with h | ⟨hasks, hlets⟩
    case inr => exact .inr ⟨by unfold Oper.asks at *; rw [execOp_put oj hsj a oi.dst v h1] at hasks; exact hasks, hlets⟩
    refine .inl ?_
    unfold Oper.wp at *
    rw [execOp_put oj hsj a oi.dst v h1] at h
    generalize (execOp a.eval oj).run P w = r at *
    cases r with
    | ok n w' =>
      cases n <;> simp only [Oper.upon] at h ⊢
      case value u => exact ⟨keep a hy u, by rw [← Act.put_comm a v u h2]; exact h⟩
      case skip => exact ⟨keep a hy _, by rw [← Act.put_comm a v undef h2]; exact h⟩
      case defer d =>
        refine ⟨keep _ (keepD d) _, ?_⟩
        rw [← Act.put_comm _ v undef h2, ← Act.put_defers]
        exact h
      case enter f args =>
        refine Calls.mono h fun e w'' he => ?_
        cases e with
        | returned u => exact ⟨keep a hy u, by rw [← Act.put_comm a v u h2]; exact he⟩
        | panicked c => exact hQ _ _ _ he
        | outgrown => exact he
      case row row args => exact Rows.mono h fun u w'' he => ⟨keep a hy u, by rw [← Act.put_comm a v u h2]; exact he⟩
    | halt x w' =>
      cases x <;> simp only [Oper.upon] at h ⊢
      case panic u => exact hQ _ _ _ h
  · rename_i hw
    simp only [hw] at h
    exact ⟨keep a hy _, by rw [← Act.put_comm a v undef h2]; exact h⟩

/-- Whatever order is picked from here on, in whatever world that meets S; S holds behind every operation. -/
def AnyS (P : Program) (md : Region.Mode) (ops : Array Oper) (Q : Exit → Act → World → Prop) (S : World → Prop) : Nat → Array Bool → Act → Prop
  | 0, listed, a => Region.ready md ops listed = [] ∧ ∀ w, S w → Q .normal a w
  | fuel + 1, listed, a =>
    (Region.ready md ops listed = [] → ∀ w, S w → Q .normal a w) ∧
    ∀ i ∈ Region.ready md ops listed, ∀ w, S w → wpOp P ops Q i (fun a' w' => S w' ∧ AnyS P md ops Q S fuel (listed.setIfInBounds i true) a') a w

theorem AnyS.any : ∀ (fuel : Nat) (listed : Array Bool) (a : Act) (w : World), S w → AnyS P md ops Q S fuel listed a → wpAny P md ops Q fuel listed a w
  | 0, _, _, w, hs, h => ⟨h.1, h.2 w hs⟩
  | fuel + 1, _, _, w, hs, h => ⟨fun h0 => h.1 h0 w hs, fun i hi => wpOp_mono (fun a' w' h' => AnyS.any fuel _ a' w' h'.1 h'.2) (h.2 i hi w hs)⟩

theorem AnyS.first {i : Nat} {oi : Oper} {v : Value} (hi : ops[i]? = some oi) (hsel : ∀ (j : Nat) (o : Oper) cs b, ops[j]? = some o → o.op ≠ .select cs b)
    (hQ : ∀ c a w, Q (.panic c) (a.put oi.dst v) w → Q (.panic c) a w) :
    ∀ (fuel : Nat) (listed : Array Bool) (a : Act),
      (∀ j oj, ops[j]? = some oj → j ≠ i → listed.getD j true = false → (∀ e ∈ oj.after, Region.binds md e = true → e.on ≠ i) → oi.apart ops oj = true) →
      i ∈ Region.ready md ops listed → Makes P ops S oi v a →
      AnyS P md ops Q S fuel (listed.setIfInBounds i true) (a.put oi.dst v) → AnyS P md ops Q S (fuel + 1) listed a := by
  intro fuel
  induction fuel with
  | zero =>
    intro listed a _ hr hy H
    refine ⟨fun h => (by rw [h] at hr; cases hr), fun j hj w hS => ?_⟩
    by_cases hji : j = i
    · subst hji; exact hy.wpOp hi hS (fun w' hS' => ⟨hS', H⟩)
    · have := ready_mono hj hji
      rw [H.1] at this
      cases this
  | succ fuel ih =>
    intro listed a hfree hr hy H
    refine ⟨fun h => (by rw [h] at hr; cases hr), fun j hj w hS => ?_⟩
    by_cases hji : j = i
    · subst hji; exact hy.wpOp hi hS (fun w' hS' => ⟨hS', H⟩)
    · have h1 := H.2 j (ready_mono hj hji) w hS
      obtain ⟨hjun, oj, hoj, hall⟩ := mem_ready.1 hj
      have hnot : ∀ e ∈ oj.after, Region.binds md e = true → e.on ≠ i := fun e he hb heq => by
        have h1 := hall e he hb
        have h0 := (mem_ready.1 hr).1
        rw [heq] at h1
        rcases Nat.lt_or_ge i listed.size with h' | h'
        · simp [h'] at h0 h1; rw [h0] at h1; cases h1
        · simp [Array.getElem?_eq_none h'] at h1
      have h2 := wpOp_putM hoj (hfree j oj hoj hji hjun hnot) (fun cs b => hsel i oi cs b hi) (fun cs b => hsel j oj cs b hoj) hQ hy h1
      have hfree' : ∀ k ok, ops[k]? = some ok → k ≠ i → (listed.setIfInBounds j true).getD k true = false →
          (∀ e ∈ ok.after, Region.binds md e = true → e.on ≠ i) → oi.apart ops ok = true := fun k ok hk hki hun hno => by
        refine hfree k ok hk hki ?_ hno
        by_cases hjk : j = k
        · subst hjk; exact hjun
        · rw [getD_set_ne true hjk] at hun; exact hun
      refine wpOp_mono (fun a' w' h3 => ⟨h3.2.1, ih (listed.setIfInBounds j true) a' hfree' (ready_mono hr (Ne.symm hji)) h3.1 ?_⟩) h2
      rw [Array.setIfInBounds_comm _ _ hji]
      exact h3.2.2

theorem AnyS.done {listed : Array Bool} {a : Act} (hr : Region.ready md ops listed = []) (h : ∀ w, S w → Q .normal a w) :
    ∀ fuel, AnyS P md ops Q S fuel listed a
  | 0 => ⟨hr, h⟩
  | _ + 1 => ⟨fun _ => h, by rw [hr]; simp⟩

/-- Take number i: an operation that yields v and leaves the world as it is. -/
theorem AnyS.pure (i : Nat) (d : Option Tmp) {oi : Oper} {v : Value} {fuel : Nat} {listed : Array Bool} {a : Act} (hi : ops[i]? = some oi) (hd : oi.dst = d)
    (hs : Region.noSelect ops = true) (hf : Region.free md ops listed i = true) (hr : (Region.ready md ops listed).contains i = true)
    (hQ : ∀ c a w, Q (.panic c) (a.put d v) w → Q (.panic c) a w) (hw : Region.wanted oi (yielded ops a.tmps) = true)
    (hy : ∀ w, S w → (execOp a.eval oi).run P w = .ok (.value v) w)
    (h : AnyS P md ops Q S fuel (listed.setIfInBounds i true) (a.put d v)) : AnyS P md ops Q S (fuel + 1) listed a := by
  subst hd
  exact AnyS.first hi (Region.noSelect_spec hs) hQ fuel listed a (Region.free_spec hi hf) (by simpa using hr) (.inl ⟨hw, fun w hS => by rw [hy w hS]; exact ⟨rfl, hS⟩⟩) h

/-- Take number i: its guard is false. -/
theorem AnyS.skip (i : Nat) (d : Option Tmp) {oi : Oper} {fuel : Nat} {listed : Array Bool} {a : Act} (hi : ops[i]? = some oi) (hd : oi.dst = d)
    (hs : Region.noSelect ops = true) (hf : Region.free md ops listed i = true) (hr : (Region.ready md ops listed).contains i = true)
    (hQ : ∀ c a w, Q (.panic c) (a.put d undef) w → Q (.panic c) a w) (hw : Region.wanted oi (yielded ops a.tmps) = false)
    (h : AnyS P md ops Q S fuel (listed.setIfInBounds i true) (a.put d undef)) : AnyS P md ops Q S (fuel + 1) listed a := by
  subst hd
  exact AnyS.first hi (Region.noSelect_spec hs) hQ fuel listed a (Region.free_spec hi hf) (by simpa using hr) (.inr ⟨hw, rfl⟩) h

/-- Take number i: a call of a Go function, by its contract. -/
theorem AnyS.call (i : Nat) (d : Option Tmp) {oi : Oper} (v : Value) {fuel : Nat} {listed : Array Bool} {a : Act} (hi : ops[i]? = some oi) (hd : oi.dst = d)
    (hs : Region.noSelect ops = true) (hf : Region.free md ops listed i = true) (hr : (Region.ready md ops listed).contains i = true)
    (hQ : ∀ c a w, Q (.panic c) (a.put d v) w → Q (.panic c) a w) (hw : Region.wanted oi (yielded ops a.tmps) = true)
    (f : FuncId) (fn : Func) (hfn : P.funcs[f]? = some fn) (hname : (fn.name == "runtime.NumGoroutine") = false) (hb : fn.body.isNone = false) (xs : Array Operand) (ts : Array TypeId)
    (ho : oi.op = .call { callee := .value (.func f), args := xs, argTypes := ts }) (vs : Array Value) (hv : xs.map a.eval = vs)
    (hc : ∀ w, S w → Calls P f vs w fun en w' => en = .returned v ∧ S w')
    (h : AnyS P md ops Q S fuel (listed.setIfInBounds i true) (a.put d v)) : AnyS P md ops Q S (fuel + 1) listed a := by
  subst hd
  exact AnyS.first hi (Region.noSelect_spec hs) hQ fuel listed a (Region.free_spec hi hf) (by simpa using hr) (.inl ⟨hw, fun w hS => by
    have hfv : a.eval (.func f) = .func (.func f) #[] #[] := rfl
    have he : (execOp a.eval oi).run P w = .ok (.enter f vs) w := by
      simp only [execOp, ho]
      have h1 : fn.name ≠ "runtime.NumGoroutine" := by simpa using hname
      simp [resolve, hv, hfv, Deferred.ofValue, invoke, callFunc, hfn, h1]
      intro hn
      simp [hn] at hb
    rw [he]
    exact hc w hS⟩) h

/-- One operation may come up, or one of two; what it comes to. -/
theorem held_one {i : Nat} {fuel : Nat} {listed : Array Bool} {a : Act} {w : World} (hr : Region.ready md ops listed = [i])
    (h : wpOp P ops Q i (fun a' w' => S w' ∧ wpAnyH P md ops Q S fuel (listed.setIfInBounds i true) a' w') a w) : wpAnyH P md ops Q S (fuel + 1) listed a w :=
  wpAnyH_all hr (by simp) (fun j hj => by obtain rfl := List.mem_singleton.1 hj; exact h)
theorem held_two {i j : Nat} {fuel : Nat} {listed : Array Bool} {a : Act} {w : World} (hr : Region.ready md ops listed = [i, j])
    (h1 : wpOp P ops Q i (fun a' w' => S w' ∧ wpAnyH P md ops Q S fuel (listed.setIfInBounds i true) a' w') a w)
    (h2 : wpOp P ops Q j (fun a' w' => S w' ∧ wpAnyH P md ops Q S fuel (listed.setIfInBounds j true) a' w') a w) : wpAnyH P md ops Q S (fuel + 1) listed a w :=
  wpAnyH_all hr (by simp) (fun k hk => by
    rcases List.mem_cons.1 hk with rfl | hk
    · exact h1
    · obtain rfl := List.mem_singleton.1 hk
      exact h2)

theorem held_take (i : Nat) (d : Option Tmp) {oi : Oper} {v : Value} {fuel : Nat} {listed : Array Bool} {a : Act} {w : World} (hi : ops[i]? = some oi) (hd : oi.dst = d)
    (hs : Region.noSelect ops = true) (hf : Region.free md ops listed i = true) (hr : (Region.ready md ops listed).contains i = true)
    (hQ : ∀ c a w, Q (.panic c) (a.put d v) w → Q (.panic c) a w) (hy : YieldsIf P ops S oi v a) (hS : S w)
    (h : wpAnyH P md ops Q S fuel (listed.setIfInBounds i true) (a.put d v) w) : wpAnyH P md ops Q S (fuel + 1) listed a w := by
  subst hd
  exact wpAnyH_take hi hs hf hr hQ hy hS h

theorem wpOp_value (d : Option Tmp) {i : Nat} {o : Oper} {v : Value} {K : Act → World → Prop} {a : Act} {w w' : World} (hi : ops[i]? = some o) (hd : o.dst = d) (hw : Region.wanted o (yielded ops a.tmps) = true)
    (hr : (execOp a.eval o).run P w = .ok (.value v) w') (h : K (a.put d v) w') : wpOp P ops Q i K a w := by
  subst hd
  unfold wpOp
  simp only [hi, hw, if_true, Oper.wp, hr]
  exact .inl h

theorem wpOp_call (d : Option Tmp) {i : Nat} {o : Oper} {K : Act → World → Prop} {a : Act} {w : World} (hi : ops[i]? = some o) (hd : o.dst = d) (hw : Region.wanted o (yielded ops a.tmps) = true)
    (f : FuncId) (fn : Func) (hfn : P.funcs[f]? = some fn) (hname : (fn.name == "runtime.NumGoroutine") = false) (hb : fn.body.isNone = false) (xs : Array Operand) (ts : Array TypeId)
    (ho : o.op = .call { callee := .value (.func f), args := xs, argTypes := ts }) (vs : Array Value) (hv : xs.map a.eval = vs) {R : Ending → World → Prop} (hc : Calls P f vs w R)
    (h : ∀ en w', R en w' → ∃ v, en = .returned v ∧ K (a.put d v) w') : wpOp P ops Q i K a w := by
  subst hd
  have hf : a.eval (.func f) = .func (.func f) #[] #[] := rfl
  have he : (execOp a.eval o).run P w = .ok (.enter f vs) w := by
    simp only [execOp, ho]
    have h1 : fn.name ≠ "runtime.NumGoroutine" := by simpa using hname
    simp [resolve, hv, hf, Deferred.ofValue, invoke, callFunc, hfn, h1]
    intro hn
    simp [hn] at hb
  unfold wpOp
  simp only [hi, hw, if_true]
  refine .inl ?_
  unfold Oper.wp
  rw [he, Oper.upon_enter]
  refine hc.mono ?_
  intro en w' hR
  obtain ⟨v, rfl, hK⟩ := h en w' hR
  exact hK

end
end Go.Proofs.YtcdedkgkingbdaaGreatDoor
end

