/- Texts laid into one: TreeU, PruD. -/
import Derived.Test.YtcdedkgkingbdaaGreatDoorQ038
import Derived.Test.YtcdedkgkingbdaaGreatDoorQ013
section
/- tree: Clone. -/
namespace Go.Proofs.YtcdedkgkingbdaaGreatDoor.dig
open Go Go.RowKit

section
variable {F : Nat → Prop} {w W : World} {b n fl K : Nat} {g c : Nat → Nat} {f : Nat → List UInt8} {rv : Value} {sv : Nat → Value} {idle : Nat → Nat}
/-- A row more, of these sums. -/
theorem Raw.more_row (h : Raw F w b n fl K g c f rv sv idle) (T : Turn (fun k => rv.ownBlock = some k) w W) {y : Value}
    {g' off' cap' : Nat} (hown : Seg W 218 3 (.slice (some ⟨g', off', none⟩) (K + 1) cap') (K + 1) (flat (rowC g sv idle) 0 K ++ [.int .i64 (g K), y, .int .i64 0]))
    (hat : rv.ownBlock = some g' ∨ w.heap.size ≤ g') (hy : Seg w 84 32 y (c K - g K) (flat (nodeC f K) (g K) (c K - g K))) (hyF : ∀ x, y.ownBlock = some x → F x)
    (hyn : ∀ x, y.ownBlock = some x → ∀ j, j < K → (sv j).ownBlock ≠ some x) :
    Raw (fun k => F k ∨ w.heap.size ≤ k) (W.setCell ⟨b, 2, none⟩ (.slice (some ⟨g', off', none⟩) (K + 1) cap')) b n fl (K + 1) g c f (.slice (some ⟨g', off', none⟩) (K + 1) cap') (upd sv K y) (upd idle K 0) := by
  have htree : Has W b 147 #[.int .i64 n, .int .i64 fl, rv] := h.tree.turn T h.rv_b
  have hgb : g' ≠ b := fun e => hown.ne htree (fun e => ne_types.1 e.symm) (by rw [e]; rfl)
  have hyW : Seg W 84 32 y (c K - g K) (flat (nodeC f K) (g K) (c K - g K)) := hy.turn T (fun x hx hr => h.rows.apart hy ne_types.2.2 x hr hx)
  have hyb : y.ownBlock ≠ some b := hy.ne h.tree (fun e => ne_types.2.1 e.symm)
  refine ⟨?_, ?_, ?_, ?_, .inl h.fb, fun x hx => ?_, ?_, ?_⟩
  · have := htree.put 2 (.slice (some ⟨g', off', none⟩) (K + 1) cap')
    simpa using this
  · have h2 := Seg.far hown (p := ⟨b, 2, none⟩) (by intro e; exact hgb (by injection e)) (.slice (some ⟨g', off', none⟩) (K + 1) cap')
    rw [flat_snoc]
    have e1 : flat (rowC g (upd sv K y) (upd idle K 0)) 0 K = flat (rowC g sv idle) 0 K := by
      refine flat_congr fun i _ hi => ?_
      simp [rowC, upd, show i ≠ K by omega]
    have e2 : rowC g (upd sv K y) (upd idle K 0) (0 + K) = [.int .i64 (g K), y, .int .i64 0] := by
      simp [rowC, upd]
    rw [e1, e2]
    exact h2
  · intro i hi
    by_cases e : i = K
    · subst e
      rw [upd_at]
      exact Seg.far hyW hyb _
    · rw [upd_ne _ _ e]
      exact Seg.far ((h.sums i (by omega)).turn T (fun x hx hr => h.rv_sv (by omega) x hr hx)) (h.sv_b (by omega)) _
  · intro i1 i2 h1 h2 hne x hx
    by_cases e1 : i1 = K
    · subst e1
      rw [upd_at] at hx
      rw [upd_ne _ _ (fun e => hne e.symm)]
      exact hyn x hx i2 (by omega)
    · rw [upd_ne _ _ e1] at hx
      by_cases e2 : i2 = K
      · subst e2
        rw [upd_at]
        exact fun e => hyn x e i1 (by omega) hx
      · rw [upd_ne _ _ e2]
        exact h.apart i1 i2 (by omega) (by omega) hne x hx
  · have hgx : g' = x := by injection hx
    subst hgx
    exact hat.imp (fun e => h.fr _ e) id
  · intro i hi x hx
    by_cases e1 : i = K
    · subst e1
      rw [upd_at] at hx
      exact .inl (hyF x hx)
    · rw [upd_ne _ _ e1] at hx
      exact .inl (h.fs i (by omega) x hx)
  · intro i hi
    by_cases e1 : i = K
    · subst e1; rw [upd_at]; omega
    · rw [upd_ne _ _ e1]; exact h.idle i (by omega)
end

/-- A call of a Go function, at the operation. -/
theorem wp_call_op {P : Program} {w : World} {o : Oper} {a : Act} {K : Act → World → Prop} {Q : Exit → Act → World → Prop} (f : FuncId) (fn : Func) (hfn : P.funcs[f]? = some fn) (hname : (fn.name == "runtime.NumGoroutine") = false) (hb : fn.body.isNone = false) (xs : Array Operand) (ts : Array TypeId)
    (ho : o.op = .call { callee := .value (.func f), args := xs, argTypes := ts }) (vs : Array Value) (hv : xs.map a.eval = vs) {R : Ending → World → Prop} (hc : Calls P f vs w R)
    (h : ∀ en w', R en w' → ∃ v, en = .returned v ∧ K (a.put o.dst v) w') : Oper.wp P o a w K Q := by
  have hf : a.eval (.func f) = .func (.func f) #[] #[] := rfl
  have he : (execOp a.eval o).run P w = .ok (.enter f vs) w := by
    simp only [execOp, ho]
    have h1 : fn.name ≠ "runtime.NumGoroutine" := by simpa using hname
    simp [resolve, hv, hf, Deferred.ofValue, invoke, callFunc, hfn, h1]
    intro hn
    simp [hn] at hb
  unfold Oper.wp
  rw [he, Oper.upon_enter]
  refine hc.mono ?_
  intro en w' hR
  obtain ⟨v, rfl, hK⟩ := h en w' hR
  exact hK

section
variable {B : Nat} {F : Nat → Prop} {b n fl : Nat} {f : Nat → List UInt8} {w : World}

set_option maxRecDepth 100000 in
set_option maxHeartbeats 2000000 in
theorem Tr.clone (hT : Tr B F w b n fl f) (p : Nat) (hp : fl ≤ p) (hn : p ≤ n) :
    Calls Tryz.prog 108 #[.pointer (some ⟨b, 0, none⟩), .int .i64 p] w fun en w' => ∃ c, en = .returned (.pointer (some ⟨c, 0, none⟩)) ∧ w.heap.size ≤ c ∧ Tr B (fun k => w.heap.size ≤ k) w' c p fl f ∧ Below w.heap.size w w' := by
  obtain ⟨rv, hh⟩ := hT.head
  have e0 := hh.cell 0
  have e1 := hh.cell 1
  simp at e0 e1
  have hsm := hT.small
  have h3 : ¬ (fl : Int) > (p : Int) := by omega
  have h4 : ¬ (n : Int) < (p : Int) := by omega
  have h5 : (fl : Int) ≤ (p : Int) := by omega
  have h6 : (p : Int) ≤ (n : Int) := by omega
  have hm1 : max (p : Int) (fl : Int) = (p : Int) := by omega
  have hm2 : min (p : Int) (n : Int) = (p : Int) := by omega
  have HT := Lib.hid hT
  clear hT hh
  go_enter Tryz.func108, Tryz.ntmps108
  go_wp2_with fail
  go_region
  go_wp2_with fail
  have M0 : Hid ((∃ rv sv idle, Raw (fun x => w.heap.size ≤ x) (w.alloc (.cells #[.int .i64 p, .int .i64 fl, .slice none 0 0] 147)).drew w.heap.size p fl 0 (gone fl) (fun j => p / 2 ^ j) f rv sv idle) ∧ Below w.heap.size w (w.alloc (.cells #[.int .i64 p, .int .i64 fl, .slice none 0 0] 147)).drew) := by
    refine Lib.hid ⟨⟨.slice none 0 0, fun _ => .slice none 0 0, fun _ => 0, ⟨(made_at _ _ rfl).drew, Seg.nil _ _ _, ?_, ?_, Nat.le_refl _, ?_, ?_, ?_⟩⟩, ((Below.refl _ _).alloc (Nat.le_refl _) _).drew⟩
    · intro j hj; omega
    · intro i j hi; omega
    · intro x hx; cases hx
    · intro j hj; omega
    · intro j hj; omega
  generalize (w.alloc (.cells #[.int .i64 p, .int .i64 fl, .slice none 0 0] 147)).drew = W1 at M0 ⊢
  clear e0 e1 h3 h4 h5 h6 hm1 hm2
  have hps : p ≤ 1000000 := by omega
  have ht : tops p ≤ 32 := tops_small (by omega)
  go_loopw [6] (fun i wr => ∃ k : Nat, i = .int .i64 k ∧ k ≤ tops p ∧ Hid ((∃ rv sv idle, Raw (fun x => w.heap.size ≤ x) wr w.heap.size p fl k (gone fl) (fun j => p / 2 ^ j) f rv sv idle) ∧ Below w.heap.size w wr)) (fun i _ => tops p - (intOf i).toNat)
  case atStart => exact ⟨0, rfl, Nat.zero_le _, M0⟩
  case round =>
    obtain ⟨k, rfl, hk, HS⟩ := hrel
    clear M0
    obtain ⟨q, hq⟩ : ∃ q, q = p / 2 ^ k := ⟨_, rfl⟩
    have i1 : (0 : Int) ≤ (k : Int) := by omega
    have i2 : min k 64 = k := by omega
    have i3 : (p : Int) / 2 ^ k = (q : Int) := by rw [hq, Int.natCast_ediv]; simp
    by_cases hkt : k < tops p
    · have hq0 : (q : Int) > 0 := by have := div_pos hkt; omega
      have hq1 : ¬ (q : Int) ≤ 0 := by omega
      have HQ := Lib.hid hq
      clear hq
      go_wp2_with fail
      have hkn : k < tops n := lt_tops.2 (Nat.le_trans (lt_tops.1 hkt) hn)
      have TT : Tr B F wr b n fl f := HT.out.below HS.out.2
      obtain ⟨R, o, C1, hb2, v, m0, m1, hRl, hsv⟩ := TT.row hkn
      have hc5 := first_calls R (o + k * 3) k (gone fl k) (n / 2 ^ k) q v f wr.drew m0 m1 hRl hsv.drew (by rw [HQ.out]; exact gone_le k hp) (by rw [HQ.out]; exact Nat.div_le_div_right hn) (Nat.le_trans (Nat.div_le_self _ _) hsm) HT.out.len
      obtain ⟨rv, sv, idle, r⟩ := HS.out.1
      obtain ⟨a0, c0, hrv, hc1, hc2⟩ := r.rows.slice
      subst hrv
      have hkC : (k : Int) < (tops n : Int) := by omega
      have C0 : Hid ((fun V : World => V.cell? ⟨w.heap.size, 2, none⟩ = some (.slice a0 k c0) ∧ V.cell? ⟨b, 2, none⟩ = some (.slice (some ⟨R, o, none⟩) (tops n) C1)) wr) := Lib.hid ⟨r.tree.cell 2, hb2.cell 2⟩
      have HC := Lib.hid hc5
      have HR := Lib.hid r
      clear hc5 hb2 m0 m1 hsv r TT
      obtain ⟨i0, z0, hi0, hz0, hz1, hz2, hz3⟩ := rowInfo
      have HI0 := Lib.hid hi0
      have HZ0 := Lib.hid hz0
      clear hi0 hz0
      refine wp_region_quiet (fun V : World => V.cell? ⟨w.heap.size, 2, none⟩ = some (.slice a0 k c0) ∧ V.cell? ⟨b, 2, none⟩ = some (.slice (some ⟨R, o, none⟩) (tops n) C1)) [19] (by kernel_rfl) ?_
      have hC : (fun V : World => V.cell? ⟨w.heap.size, 2, none⟩ = some (.slice a0 k c0) ∧ V.cell? ⟨b, 2, none⟩ = some (.slice (some ⟨R, o, none⟩) (tops n) C1)) wr.drew := C0.out
      refine quiet_take 0 (some 31) (v := .pointer (some ⟨w.heap.size, 0, none⟩)) rfl rfl (by kernel_rfl) (by kernel_rfl) (by kernel_rfl) (fun _ _ _ h => h) (by kernel_rfl) (by kernel_rfl) (by kernel_rfl) (fun V _ => by go_simp) hC ?_
      refine quiet_take 1 (some 32) (v := .pointer (some ⟨w.heap.size, 0, none⟩)) rfl rfl (by kernel_rfl) (by kernel_rfl) (by kernel_rfl) (fun _ _ _ h => h) (by kernel_rfl) (by kernel_rfl) (by kernel_rfl) (fun V _ => by go_simp) hC ?_
      refine quiet_take 2 (some 33) (v := .pointer (some ⟨w.heap.size, 0, none⟩)) rfl rfl (by kernel_rfl) (by kernel_rfl) (by kernel_rfl) (fun _ _ _ h => h) (by kernel_rfl) (by kernel_rfl) (by kernel_rfl) (fun V _ => by go_simp) hC ?_
      refine quiet_take 3 (some 34) (v := .pointer (some ⟨w.heap.size, 2, none⟩)) rfl rfl (by kernel_rfl) (by kernel_rfl) (by kernel_rfl) (fun _ _ _ h => h) (by kernel_rfl) (by kernel_rfl) (by kernel_rfl) (fun V _ => by go_simp) hC ?_
      refine quiet_take 4 (some 35) (v := .slice a0 k c0) rfl rfl (by kernel_rfl) (by kernel_rfl) (by kernel_rfl) (fun _ _ _ h => h) (by kernel_rfl) (by kernel_rfl) (by kernel_rfl) (fun V hV => by have c1 := hV.1; go_simp) hC ?_
      simp only [Act.put, List.setIfInBounds_toArray, List.set_cons_zero, List.set_cons_succ]
      refine quiet_take 5 (some 36) (v := .pointer (some ⟨b, 0, none⟩)) rfl rfl (by kernel_rfl) (by kernel_rfl) (by kernel_rfl) (fun _ _ _ h => h) (by kernel_rfl) (by kernel_rfl) (by kernel_rfl) (fun V _ => by go_simp) hC ?_
      refine quiet_take 6 (some 37) (v := .pointer (some ⟨b, 0, none⟩)) rfl rfl (by kernel_rfl) (by kernel_rfl) (by kernel_rfl) (fun _ _ _ h => h) (by kernel_rfl) (by kernel_rfl) (by kernel_rfl) (fun V _ => by go_simp) hC ?_
      refine quiet_take 7 (some 38) (v := .pointer (some ⟨b, 2, none⟩)) rfl rfl (by kernel_rfl) (by kernel_rfl) (by kernel_rfl) (fun _ _ _ h => h) (by kernel_rfl) (by kernel_rfl) (by kernel_rfl) (fun V _ => by go_simp) hC ?_
      refine quiet_take 8 (some 39) (v := .slice (some ⟨R, o, none⟩) (tops n) C1) rfl rfl (by kernel_rfl) (by kernel_rfl) (by kernel_rfl) (fun _ _ _ h => h) (by kernel_rfl) (by kernel_rfl) (by kernel_rfl) (fun V hV => by have c1 := hV.2; go_simp) hC ?_
      simp only [Act.put, List.setIfInBounds_toArray, List.set_cons_zero, List.set_cons_succ]
      refine quiet_take 9 (some 40) (v := .int .i64 k) rfl rfl (by kernel_rfl) (by kernel_rfl) (by kernel_rfl) (fun _ _ _ h => h) (by kernel_rfl) (by kernel_rfl) (by kernel_rfl) (fun V _ => by go_simp) hC ?_
      refine quiet_take 10 (some 41) (v := .pointer (some ⟨R, o + k * 3, none⟩)) rfl rfl (by kernel_rfl) (by kernel_rfl) (by kernel_rfl) (fun _ _ _ h => h) (by kernel_rfl) (by kernel_rfl) (by kernel_rfl) (fun V _ => by go_simp) hC ?_
      refine quiet_take 11 (some 42) (v := .int .i64 p) rfl rfl (by kernel_rfl) (by kernel_rfl) (by kernel_rfl) (fun _ _ _ h => h) (by kernel_rfl) (by kernel_rfl) (by kernel_rfl) (fun V _ => by go_simp) hC ?_
      refine quiet_take 12 (some 43) (v := .int .i64 k) rfl rfl (by kernel_rfl) (by kernel_rfl) (by kernel_rfl) (fun _ _ _ h => h) (by kernel_rfl) (by kernel_rfl) (by kernel_rfl) (fun V _ => by go_simp) hC ?_
      refine quiet_take 13 (some 44) (v := .int .i64 q) rfl rfl (by kernel_rfl) (by kernel_rfl) (by kernel_rfl) (fun _ _ _ h => h) (by kernel_rfl) (by kernel_rfl) (by kernel_rfl) (fun V _ => by go_simp) hC ?_
      simp only [Act.put, List.setIfInBounds_toArray, List.set_cons_zero, List.set_cons_succ]
      refine quiet_one (i := 14) (by kernel_rfl) ?_
      refine wpOp_wp rfl (by kernel_rfl) (wp_call_op 151 Tryz.f151 Tryz.func151 (by kernel_rfl) (by kernel_rfl) _ _ rfl #[.pointer (some ⟨R, o + k * 3, none⟩), .int .i64 q] (by first | (simp [Act.eval]; done) | (simp [Act.eval, Act.put]; done)) HC.out ?_)
      rintro en w5 ⟨y, rfl, s5, o5, b5⟩
      refine ⟨_, rfl, ?_⟩
      obtain ⟨ya, yc, rfl, _, _⟩ := s5.slice
      have hbl : b < wr.heap.size := Nat.lt_of_lt_of_le HT.out.lt HS.out.2.size
      have hwl : w.heap.size < wr.heap.size := HR.out.tree.lt
      have keepC : ∀ V : World, Below wr.heap.size wr V → (fun V : World => V.cell? ⟨w.heap.size, 2, none⟩ = some (.slice a0 k c0) ∧ V.cell? ⟨b, 2, none⟩ = some (.slice (some ⟨R, o, none⟩) (tops n) C1)) V := fun V h => ⟨by
        rw [← C0.out.1]; unfold World.cell?; rw [h.block _ hwl], by
        rw [← C0.out.2]; unfold World.cell?; rw [h.block _ hbl]⟩
      have b5' : Below wr.heap.size wr w5 := ((Below.refl _ _).drew).trans b5
      have hC5 : (fun V : World => V.cell? ⟨w.heap.size, 2, none⟩ = some (.slice a0 k c0) ∧ V.cell? ⟨b, 2, none⟩ = some (.slice (some ⟨R, o, none⟩) (tops n) C1)) w5 := keepC w5 b5'
      refine ⟨fun _ => hC5, ?_⟩
      have r5 := HR.out.below b5'
      have S5 := Lib.hid (show _ ∧ _ ∧ _ ∧ _ from ⟨s5, o5, b5', r5⟩)
      clear s5 o5 b5 b5' r5 HC
      simp only [Act.put, List.setIfInBounds_toArray]
      refine quiet_one (i := 15) (by kernel_rfl) ?_
      refine wpOp_wp rfl (by kernel_rfl) (wp_build_one 145 218 _ rfl i0 z0 Tryz.underlying145 HI0.out HZ0.out #[.int .i64 (gone fl k), .slice ya (q - gone fl k) yc, .int .i64 0] rfl hz1 (by simp) (by simp) w5.heap.size rfl ?_)
      intro W6 HW6 BW6
      have T6 := Lib.hid (show _ ∧ _ ∧ _ from ⟨BW6, HW6, S5.out.2.2.2.rows.below BW6 (fun x hx => S5.out.2.2.2.rows.lt hx)⟩)
      have hC6 : (fun V : World => V.cell? ⟨w.heap.size, 2, none⟩ = some (.slice a0 k c0) ∧ V.cell? ⟨b, 2, none⟩ = some (.slice (some ⟨R, o, none⟩) (tops n) C1)) W6 := keepC W6 (S5.out.2.2.1.trans (BW6.mono S5.out.2.2.1.size))
      refine ⟨fun _ => hC6, ?_⟩
      clear HW6 BW6
      simp only [Act.put]
      refine quiet_one (i := 16) (by kernel_rfl) ?_
      refine wpOp_wp rfl (by kernel_rfl) (wp_append_seg _ (.tmp 35) (.tmp 46) 145 rfl 218 i0 z0 3 40 Tryz.underlying145 HI0.out HZ0.out hz1 hz3 hz2 (by decide) (.slice a0 k c0) k (flat (rowC (gone fl) sv idle) 0 k) rfl T6.out.2.2 ⟨w5.heap.size, 0, none⟩ 1 1 [.int .i64 (gone fl k), .slice ya (q - gone fl k) yc, .int .i64 0] rfl rfl (World.news_of_block T6.out.2.1) (by simp [Value.oneCell']) (by decide) (by unfold maxLen; omega) (by omega) _ rfl ?_)
      intro g' off' cap' w7 hown hgrow hat hlt
      have t7 : Turn (fun x => (Value.slice a0 k c0).ownBlock = some x) w5 w7 := turn_own T6.out.1 (Nat.le_refl _) hgrow
      have hat7 : (Value.slice a0 k c0).ownBlock = some g' ∨ w5.heap.size ≤ g' := hat.imp id (fun e => by rw [e]; exact T6.out.1.size)
      have T7 := Lib.hid (show _ ∧ _ ∧ _ from ⟨t7, hown, hat7⟩)
      clear t7 hown hgrow hat hlt hat7
      have hrb : (Value.slice a0 k c0).ownBlock ≠ some w.heap.size := S5.out.2.2.2.rv_b
      have htree7 : Has w7 w.heap.size 147 #[.int .i64 p, .int .i64 fl, .slice a0 k c0] := S5.out.2.2.2.tree.turn T7.out.1 hrb
      have hC7 : (fun V : World => V.cell? ⟨w.heap.size, 2, none⟩ = some (.slice a0 k c0) ∧ V.cell? ⟨b, 2, none⟩ = some (.slice (some ⟨R, o, none⟩) (tops n) C1)) w7 := ⟨htree7.cell 2, by
        rw [← C0.out.2]
        unfold World.cell?
        rw [T7.out.1.block b (Nat.lt_of_lt_of_le hbl S5.out.2.2.1.size) (fun e => by
          have := HR.out.fr b e
          have := HT.out.lt
          omega), S5.out.2.2.1.block _ hbl]⟩
      refine ⟨fun _ => hC7, ?_⟩
      have k7 := hC7.1
      have f7 : w7.frozen? ⟨w.heap.size, 2, none⟩ = false := htree7.free 2
      simp only [Act.put]
      refine quiet_take 17 (some 48) (v := .pointer (some ⟨w.heap.size, 0, none⟩)) rfl rfl (by kernel_rfl) (by kernel_rfl) (by kernel_rfl) (fun _ _ _ h => h) (by kernel_rfl) (by kernel_rfl) (by kernel_rfl) (fun V _ => by go_simp) hC7 ?_
      refine quiet_take 18 (some 49) (v := .pointer (some ⟨w.heap.size, 2, none⟩)) rfl rfl (by kernel_rfl) (by kernel_rfl) (by kernel_rfl) (fun _ _ _ h => h) (by kernel_rfl) (by kernel_rfl) (by kernel_rfl) (fun V _ => by go_simp) hC7 ?_
      simp only [Act.put]
      refine quiet_one (i := 19) (by kernel_rfl) ?_
      refine wpOp_skip (w' := w7.setCell ⟨w.heap.size, 2, none⟩ (.slice (some ⟨g', off', none⟩) (k + 1) cap')) rfl rfl (by kernel_rfl) (by go_simp) ⟨(fun h => by cases h), ?_⟩
      refine quiet_done (by kernel_rfl) ?_ _
      have r8 := S5.out.2.2.2.more_row T7.out.1 T7.out.2.1 T7.out.2.2 (by
        show Seg w5 84 32 _ (p / 2 ^ k - gone fl k) (flat _ _ (p / 2 ^ k - gone fl k))
        rw [← HQ.out]
        exact S5.out.1) (fun x hx => Nat.le_trans (Nat.le_of_lt hwl) (S5.out.2.1 x hx)) (fun x hx j hj e => by
        have h1 := (HR.out.sums j hj).lt e
        have h2 : wr.heap.size ≤ x := S5.out.2.1 x hx
        omega)
      have t8 := ((((Turn.of_below (F := fun x => w.heap.size ≤ x) HS.out.2 (fun _ _ h => h)).trans (Turn.of_below (F := fun x => wr.heap.size ≤ x) S5.out.2.2.1 (fun _ _ h => h)) (fun x h1 h2 => by omega)).trans T7.out.1 (fun x _ h2 => HR.out.fr x h2)).put (b := w.heap.size) (fun _ => Nat.le_refl _) 2 (.slice (some ⟨g', off', none⟩) (k + 1) cap')).below (Nat.le_refl _) (fun x hk h => by omega)
      have N : Hid ((∃ rv sv idle, Raw (fun x => w.heap.size ≤ x) (w7.setCell ⟨w.heap.size, 2, none⟩ (.slice (some ⟨g', off', none⟩) (k + 1) cap')) w.heap.size p fl (k + 1) (gone fl) (fun j => p / 2 ^ j) f rv sv idle) ∧ Below w.heap.size w (w7.setCell ⟨w.heap.size, 2, none⟩ (.slice (some ⟨g', off', none⟩) (k + 1) cap'))) :=
        Lib.hid ⟨⟨_, _, _, r8.more (fun x _ h => by
          rcases h with h | h
          · exact h
          · have := S5.out.2.2.1.size; omega)⟩, t8⟩
      clear r8 t8 htree7 hC7 k7 f7 T7 T6 hC6 hC5 S5 keepC hC HR HI0 HZ0 hz1 hz2 hz3 C0 hrb HS hbl hwl
      generalize w7.setCell ⟨w.heap.size, 2, none⟩ (.slice (some ⟨g', off', none⟩) (k + 1) cap') = w8 at N ⊢
      clear i2 i3 hq0 hq1
      go_wp2_with fail
      refine ⟨⟨k + 1, by rw [Int.natCast_add]; rfl, by omega, N⟩, ?_⟩
      show tops p - ((k : Int) + 1).toNat < tops p - ((k : Int)).toNat
      omega
    · obtain rfl : k = tops p := by omega
      have hq0 : ¬ (q : Int) > 0 := by have := div_zero (Nat.le_refl (tops p)); omega
      have hq1 : (q : Int) ≤ 0 := by omega
      clear hq
      go_wp2_with fail
      go_ret
      obtain ⟨⟨rv, sv, idle, r⟩, t⟩ := HS.out
      exact ⟨_, rfl, Nat.le_refl _, ⟨⟨rv, sv, idle, r⟩, HT.out.rt.below t HT.out.rt.size, fun k hk => Nat.le_trans HT.out.rt.size hk, HT.out.len, by omega, hp⟩, t⟩
end
end Go.Proofs.YtcdedkgkingbdaaGreatDoor.dig
end

section
/- prune: errors of At; Clone. -/
namespace Go.Proofs.YtcdedkgkingbdaaGreatDoor.prn
open Go Go.RowKit Go.Proofs.YtcdedkgkingbdaaGreatDoor.dig

section
variable {B : Nat} {F : Nat → Prop} {w : World} {vb fl : Nat} {L : List ByteArray}

/-- A vault like it was answered. -/
def ClonePost (B : Nat) (w : World) (L : List ByteArray) (fl : Nat) (en : Ending) (w' : World) : Prop :=
  ∃ c, en = .returned (.tuple #[.pointer (some ⟨c, 0, none⟩), .nilIface]) ∧ w.heap.size ≤ c ∧ Va B (fun k => w.heap.size ≤ k) w' c L fl ∧ Below w.heap.size w w'

/-- A piece of what is kept, as a slice. -/
theorem Vr.piece {T : Nat → Prop} {tb first : Nat} {cv : Value} (r : Vr B F T w vb tb fl first L cv) {ca : Option Addr} {m cc : Nat} (hcv : cv = .slice ca m cc) (p : Nat) (hp : fl ≤ p) (hn : p ≤ L.length) :
    ∃ q, (if cc = fl - first then ca else ca.map fun a => a.add (fl - first)) = q ∧ Seg w 9 1 (.slice q (p - fl) (cc - (fl - first))) (p - fl) (keptC (L.take p) fl fl) := by
  subst hcv
  have hs := r.seg
  have hf := r.first
  refine ⟨_, rfl, ?_⟩
  rcases hs.2 with ⟨h1, h2⟩ | ⟨g, off, cap, cur, h1, hg, h3⟩
  · simp only [Value.slice.injEq] at h1
    obtain ⟨rfl, rfl, rfl⟩ := h1
    have e1 : fl - first = 0 := by omega
    have e2 : p - fl = 0 := by omega
    have e3 : keptC (L.take p) fl fl = [] := by
      refine List.eq_nil_of_length_eq_zero ?_
      rw [keptC_len (Nat.le_refl _) (by rw [List.length_take]; omega), List.length_take]
      omega
    rw [e1, e2, e3]
    exact Seg.nil _ _ _
  · simp only [Value.slice.injEq] at h1
    obtain ⟨rfl, rfl, rfl⟩ := h1
    have h4 := Seg.rest hs (fl - first) (by omega)
    rw [Nat.mul_one, keptC_drop] at h4
    have h5 := dig.Seg.front h4 (p - fl) (by omega) (by intro e; cases e)
    rw [Nat.mul_one, keptC_take hp] at h5
    by_cases hc : cc = fl - first
    · simp only [if_pos hc] at h5 ⊢; exact h5
    · simp only [if_neg hc] at h5 ⊢; rw [Option.map_some, Addr.add_mid]; exact h5

set_option maxRecDepth 100000 in
set_option maxHeartbeats 2000000 in
theorem Va.clone (h : Va B F w vb L fl) (p : Nat) (hp : fl ≤ p) (hn : p ≤ L.length) :
    Calls Tryz.prog 67 #[.pointer (some ⟨vb, 0, none⟩), .int .i64 p] w (ClonePost B w (L.take p) fl) := by
  have HL := Lib.hid h.len_calls
  have HF := Lib.hid h.floor_calls
  have hsm := h.small
  have H := Lib.hid h
  obtain ⟨T, tb, first, cv, r⟩ := h.raw
  obtain ⟨ca, cc, hcv, hc1, hc2⟩ := r.seg.slice
  have e0 := r.own.cell 0
  have e1 := r.own.cell 1
  have e2 := r.own.cell 2
  simp at e0 e1 e2
  rw [hcv] at e2
  obtain ⟨q, hq, sq⟩ := r.piece hcv p hp hn
  have hff := r.first
  obtain ⟨n, hN⟩ : ∃ n, n = L.length := ⟨_, rfl⟩
  obtain ⟨u, hu⟩ : ∃ u, u = fl - first := ⟨_, rfl⟩
  obtain ⟨v, hv⟩ : ∃ v, v = p - first := ⟨_, rfl⟩
  obtain ⟨m, hm⟩ : ∃ m, m = L.length - first := ⟨_, rfl⟩
  rw [← hN] at HL
  rw [← hm] at e2 hc1 hcv
  rw [← hu] at hq sq
  have h1 : ¬ (p : Int) < (fl : Int) := by omega
  have h2 : ¬ (p : Int) > (n : Int) := by omega
  have h3 : (fl : Int) - (first : Int) = (u : Int) := by omega
  have h4 : (p : Int) - (first : Int) = (v : Int) := by omega
  have h5 : (u : Int) ≤ (v : Int) := by omega
  have h6 : (v : Int) ≤ (cc : Int) := by omega
  have h7 : (cc : Int) ≤ 9223372036854775807 := by unfold maxLen at hc2; omega
  have h8 : (m : Int) ≤ 1000000 := by omega
  have h9 : (m : Int) ≤ (cc : Int) := by omega
  have hvu : v - u = p - fl := by omega
  have HS := Lib.hid (show _ ∧ _ ∧ _ ∧ _ from ⟨sq, r, hvu, hcv⟩)
  have HN := Lib.hid (show _ ∧ _ from ⟨hp, hn⟩)
  clear h r sq hcv hN hu hv hm hc1 hc2 hp hn hff hvu
  go_enter Tryz.func67, Tryz.ntmps67
  go_wp2_with fail
  refine HF.out.mono ?_
  rintro en w1 ⟨rfl, rfl⟩
  go_wp2_with fail
  refine HL.out.mono ?_
  rintro en w1 ⟨rfl, rfl⟩
  go_wp2_with fail
  have HC : Hid (∀ X V, Seg V 9 1 X (p - fl) (keptC (L.take p) fl fl) → Calls Tryz.prog 103 #[X] V fun en w' => ∃ y, en = .returned y ∧ Seg w' 9 1 y (p - fl) (keptC (L.take p) fl fl) ∧ (∀ x, y.ownBlock = some x → V.heap.size ≤ x) ∧ Below V.heap.size V w') :=
    Lib.hid fun X V hV => copied_calls _ _ _ V hV keptC_one (by have := HN.out; omega)
  have HF2 := HS.out.2.1.seg.form
  rw [HS.out.2.2.2] at HF2
  obtain ⟨V, hV⟩ : ∃ V, V = w.drew := ⟨_, rfl⟩
  have M0 : Hid (Vr B F T V vb tb fl first L cv ∧ Below w.heap.size w V) := by
    rw [hV]
    exact Lib.hid ⟨HS.out.2.1.turn (Turn.refl (fun _ => False) w).drew (fun _ _ _ h => h) (fun _ h => h.elim), (Below.refl _ _).drew⟩
  rcases HF2 with ⟨hcv, hm0, _⟩ | ⟨g, off, c', hcv⟩
  · simp only [Value.slice.injEq] at hcv
    obtain ⟨rfl, rfl, rfl⟩ := hcv
    clear hm0
    obtain rfl : v = 0 := by omega
    obtain rfl : u = 0 := by omega
    obtain rfl : q = none := by rw [← hq]; rfl
    clear hq
    have w0 : IntKind.i64.wrap 0 = 0 := by decide
    refine still_tail_at V hV 17 (by kernel_rfl) (by kernel_rfl) ?_
    have d1 : V.cell? ⟨vb, 1, none⟩ = some (.int .i64 first) := by rw [hV]; exact e1
    have d2 : V.cell? ⟨vb, 2, none⟩ = some (.slice none 0 0) := by rw [hV]; exact e2
    have SX : Hid (Seg V 9 1 (.slice none 0 0) (p - fl) (keptC (L.take p) fl fl)) := by
      have h1 := HS.out.1
      have e : p - fl = 0 := by have := HS.out.2.2.1; omega
      rw [e] at h1 ⊢
      rw [hV]
      exact Lib.hid h1
    clear hV e0 e1 e2
    simp only [List.take_succ_cons, List.take_zero, List.drop_succ_cons, List.drop_zero]
    repeat still_step
    refine wpStill_nil ?_
    go_wp2_with fail
    refine (HC.out _ V SX.out).mono ?_
    rintro en w4 ⟨y, rfl, s4, o4, b4⟩
    obtain ⟨ya, yc, rfl, _, _⟩ := s4.slice
    have own4 := M0.out.1.own.below b4 M0.out.1.own.lt
    have f0 := own4.cell 0
    simp at f0
    have b04 := M0.out.2.trans (b4.mono M0.out.2.size)
    have T4 := Lib.hid (show _ ∧ _ ∧ _ ∧ _ from ⟨M0.out.1.tree.below b4, s4, (fun x hx => Nat.le_trans M0.out.2.size (o4 x hx) : ∀ x, _ → w.heap.size ≤ x), b04⟩)
    clear d1 d2 SX s4 o4 b4 own4 b04 HF HL
    go_wp2_with fail
    refine (T4.out.1.clone p HN.out.1 HN.out.2).mono ?_
    rintro en w5 ⟨c, rfl, hc5, t5, b5⟩
    have T5 := Lib.hid (show _ ∧ _ ∧ _ from ⟨hc5, t5, b5⟩)
    clear hc5 t5 b5 f0
    go_wp2_with fail
    go_ret2
    have z4 := T4.out.2.2.2.size
    have z5 := T5.out.2.2.size
    have hlp : (L.take p).length = p := by rw [List.length_take]; have := HN.out.2; omega
    have hT := (T5.out.2.1.more (G := fun k => w4.heap.size ≤ k ∧ k < w5.heap.size) (fun k h1 h2 => ⟨h2, h1⟩) (fun k hk => Nat.le_trans T4.out.1.rt.size hk.1)).alloc (.cells #[.pointer (some ⟨c, 0, none⟩), .int .i64 fl, .slice ya (p - fl) yc] 128)
    refine ⟨w5.heap.size, rfl, by omega, ⟨⟨fun k => w4.heap.size ≤ k ∧ k < w5.heap.size, c, fl, .slice ya (p - fl) yc, made_at _ _ rfl, ?_, ?_, Nat.le_refl _, ⟨by show w.heap.size ≤ _; omega, fun e => by have := e.2; omega⟩, fun k hk => by have := hk.1; show w.heap.size ≤ k; omega, fun x hx => ⟨T4.out.2.2.1 x hx, fun e => by have := T4.out.2.1.lt hx; have := e.1; omega⟩⟩, fun k hk => Nat.le_trans H.out.rt.size hk, fun s hs => H.out.short s (List.mem_of_mem_take hs)⟩, ?_⟩
    · rw [hlp]
      exact hT.fcongr (fun i hi => (leafF_take L p i hi).symm) (leafF_len _)
    · rw [hlp]
      exact (T4.out.2.1.below T5.out.2.2 (fun x hx => T4.out.2.1.lt hx)).alloc _
    · exact (T4.out.2.2.2.trans (T5.out.2.2.mono z4)).alloc (by omega) _
  · simp only [Value.slice.injEq] at hcv
    obtain ⟨rfl, _, rfl⟩ := hcv
    rw [Option.map_some, Addr.add_mid] at hq
    have w1 : IntKind.i64.wrap (u : Int) = (u : Int) := IntWalk.i64_in _ ⟨by omega, by omega⟩
    have w2 : IntKind.i64.wrap (v : Int) = (v : Int) := IntWalk.i64_in _ ⟨by omega, by omega⟩
    have w3 : max (v : Int) 0 = (v : Int) := by omega
    refine still_tail_at V hV 17 (by kernel_rfl) (by kernel_rfl) ?_
    have d1 : V.cell? ⟨vb, 1, none⟩ = some (.int .i64 first) := by rw [hV]; exact e1
    have d2 : V.cell? ⟨vb, 2, none⟩ = some (.slice (some ⟨g, off, none⟩) m cc) := by rw [hV]; exact e2
    have SX : Hid (Seg V 9 1 (.slice q (v - u) (cc - u)) (p - fl) (keptC (L.take p) fl fl)) := by
      rw [HS.out.2.2.1, hV]
      exact Lib.hid HS.out.1
    clear hV e0 e1 e2
    simp only [List.take_succ_cons, List.take_zero, List.drop_succ_cons, List.drop_zero]
    repeat still_step
    refine wpStill_nil ?_
    clear hq
    go_wp2_with fail
    refine (HC.out _ V SX.out).mono ?_
    rintro en w4 ⟨y, rfl, s4, o4, b4⟩
    obtain ⟨ya, yc, rfl, _, _⟩ := s4.slice
    have own4 := M0.out.1.own.below b4 M0.out.1.own.lt
    have f0 := own4.cell 0
    simp at f0
    have b04 := M0.out.2.trans (b4.mono M0.out.2.size)
    have T4 := Lib.hid (show _ ∧ _ ∧ _ ∧ _ from ⟨M0.out.1.tree.below b4, s4, (fun x hx => Nat.le_trans M0.out.2.size (o4 x hx) : ∀ x, _ → w.heap.size ≤ x), b04⟩)
    clear d1 d2 SX s4 o4 b4 own4 b04 HF HL
    go_wp2_with fail
    refine (T4.out.1.clone p HN.out.1 HN.out.2).mono ?_
    rintro en w5 ⟨c, rfl, hc5, t5, b5⟩
    have T5 := Lib.hid (show _ ∧ _ ∧ _ from ⟨hc5, t5, b5⟩)
    clear hc5 t5 b5 f0
    go_wp2_with fail
    go_ret2
    have z4 := T4.out.2.2.2.size
    have z5 := T5.out.2.2.size
    have hlp : (L.take p).length = p := by rw [List.length_take]; have := HN.out.2; omega
    have hT := (T5.out.2.1.more (G := fun k => w4.heap.size ≤ k ∧ k < w5.heap.size) (fun k h1 h2 => ⟨h2, h1⟩) (fun k hk => Nat.le_trans T4.out.1.rt.size hk.1)).alloc (.cells #[.pointer (some ⟨c, 0, none⟩), .int .i64 fl, .slice ya (p - fl) yc] 128)
    refine ⟨w5.heap.size, rfl, by omega, ⟨⟨fun k => w4.heap.size ≤ k ∧ k < w5.heap.size, c, fl, .slice ya (p - fl) yc, made_at _ _ rfl, ?_, ?_, Nat.le_refl _, ⟨by show w.heap.size ≤ _; omega, fun e => by have := e.2; omega⟩, fun k hk => by have := hk.1; show w.heap.size ≤ k; omega, fun x hx => ⟨T4.out.2.2.1 x hx, fun e => by have := T4.out.2.1.lt hx; have := e.1; omega⟩⟩, fun k hk => Nat.le_trans H.out.rt.size hk, fun s hs => H.out.short s (List.mem_of_mem_take hs)⟩, ?_⟩
    · rw [hlp]
      exact hT.fcongr (fun i hi => (leafF_take L p i hi).symm) (leafF_len _)
    · rw [hlp]
      exact (T4.out.2.1.below T5.out.2.2 (fun x hx => T4.out.2.1.lt hx)).alloc _
    · exact (T4.out.2.2.2.trans (T5.out.2.2.mono z4)).alloc (by omega) _
end
end Go.Proofs.YtcdedkgkingbdaaGreatDoor.prn
end

