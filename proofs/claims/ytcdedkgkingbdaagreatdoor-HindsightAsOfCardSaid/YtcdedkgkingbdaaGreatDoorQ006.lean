/- Texts laid into one: Sums, TreeC, TreeD, Bld. -/
import Derived.Test.YtcdedkgkingbdaaGreatDoorQ000
import Derived.Test.YtcdedkgkingbdaaGreatDoorQ004
import Derived.Deep.MidRow
import Derived.StillTailTactics
import Derived.Test.YtcdedkgkingbdaaGreatDoorQ005
import Derived.Great.BuildSlice
section
/- Sums in a row: their cells; a load in a still stretch; the front of a slice. -/
namespace Go.Proofs.YtcdedkgkingbdaaGreatDoor.dig
open Go Go.RowKit

/-- A load in a still stretch, by what it reads. -/
theorem still_load {P : Program} {ops : Array Oper} {w : World} {Q : Act → Prop} {a : Act} {d : Tmp} {ty : TypeId} {x : Operand} {t : TypeId} {p : String} {af : Array _} {rest : List Oper} {v : Value}
    (hl : (Instr.loadAt ty (a.eval x)).run P w = .ok v w) (h : wpStill P ops w Q rest (a.put (some d) v)) : wpStill P ops w Q (⟨some d, .load ty x, t, p, af, none⟩ :: rest) a := by
  unfold wpStill
  rw [if_pos (by simp [Region.wanted])]
  unfold Oper.still execOp
  simp only [Sem.run_bind, hl, Result.andThen_ok, Sem.run_pure, Oper.stillUpon]
  exact ⟨trivial, h⟩

theorem sumInfo : ∃ i z, Tryz.prog.info? 84 = some i ∧ i.zero = some z ∧ i.size = 32 ∧ z.cells.size = 32 ∧ i.bytes = 32 := by
  have h2 : (Tryz.prog.info? 84).map (fun i => (i.zero.map (fun z => z.cells.size), i.size, i.bytes)) = some (some 32, 32, 32) := by kernel_rfl
  obtain ⟨i, hi, e⟩ := Option.map_eq_some_iff.1 h2
  simp only [Prod.mk.injEq] at e
  obtain ⟨e1, e2, e3⟩ := e
  obtain ⟨z, hz, e4⟩ := Option.map_eq_some_iff.1 e1
  exact ⟨i, z, hi, hz, e2, e4, e3⟩

/-- The cells of some sums. -/
def sumsC (l : List (List UInt8)) : List Value := l.flatMap fun x => x.map byteV
theorem sumsC_snoc (l : List (List UInt8)) (x : List UInt8) : sumsC (l ++ [x]) = sumsC l ++ x.map byteV := by simp [sumsC]
theorem byteV_one (l : List UInt8) : ∀ u ∈ l.map byteV, u.oneCell' = true := by
  intro u hu
  obtain ⟨c, _, rfl⟩ := List.mem_map.1 hu
  rfl

theorem Seg.front {w : World} {e : TypeId} {size n : Nat} {a : Option Addr} {c : Nat} {xs : List Value} (h : Seg w e size (.slice a n c) n xs) (m : Nat) (hm : m ≤ n) (ha : a ≠ none) : Seg w e size (.slice a m c) m (xs.take (m * size)) := by
  rcases h.2 with ⟨h1, _⟩ | ⟨g, off, cap, cur, h1, hg, hc1, hc2, hc3, hx⟩
  · simp only [Value.slice.injEq] at h1; exact absurd h1.1 ha
  · simp only [Value.slice.injEq, true_and] at h1
    obtain ⟨rfl, rfl⟩ := h1
    refine ⟨by rw [List.length_take, h.1, Nat.min_eq_left (Nat.mul_le_mul_right _ hm)], .inr ⟨g, off, c, cur, rfl, hg, by omega, hc2, hc3, ?_⟩⟩
    rw [← hx, List.take_take, Nat.min_eq_left (Nat.mul_le_mul_right _ hm)]

theorem exec_load {P : Program} {ev : Operand → Value} {o : Oper} (ty : TypeId) (x : Operand) (ho : o.op = .load ty x) (p : Value) (hx : ev x = p) {V : World} {v : Value} (hl : (Instr.loadAt ty p).run P V = .ok v V) : (execOp ev o).run P V = .ok (.value v) V := by
  unfold execOp
  simp only [ho, hx, Sem.run_bind, hl, Result.andThen_ok, Sem.run_pure]

/-- Guards of a walk: an operation that is wanted only where a test held. -/
theorem at_opg {P : Program} (d : Tmp) {op : Op} {t : TypeId} {p : String} {af : Array _} {gd : _} {ops : Array Oper} {rest : List Oper} {a : Act} {w : World} {Q : Exit → Act → World → Prop}
    (h : wpList P ops Q (⟨some d, op, t, p, af, some gd⟩ :: rest) a w) : wpList P ops Q (⟨some d, op, t, p, af, some gd⟩ :: rest) a w := h
theorem wpList_load_if {P : Program} {ops : Array Oper} {rest : List Oper} {o : Oper} {a : Act} {w : World} {Q : Exit → Act → World → Prop} (hw : Region.wanted o (yielded ops a.tmps) = true) (ty : TypeId) (x : Operand) (ho : o.op = .load ty x)
    (p : Value) (hx : a.eval x = p) {v : Value} (hl : (Instr.loadAt ty p).run P w = .ok v w) (h : wpList P ops Q rest (a.put o.dst v) w) : wpList P ops Q (o :: rest) a w := by
  unfold wpList
  rw [if_pos hw]
  refine .inl ?_
  unfold Oper.wp
  rw [exec_load ty x ho p hx hl]
  exact h

/-- Sums in memory, r: the last one first; they may lie anywhere. -/
def Sms (w : World) (v : Value) (r : List (List UInt8)) : Prop :=
  (∃ a c, v = .slice a r.length c ∧ r.length ≤ c ∧ c ≤ maxLen ∧ ∀ j x, r.reverse[j]? = some x → ∃ g off, a = some ⟨g, off, none⟩ ∧ g < w.heap.size ∧ w.rangeAt g (off + j * 32) (x.map byteV)) ∧ ∀ x ∈ r, x.length = 32

theorem Sms.nil (w : World) : Sms w (.slice none 0 0) [] := ⟨⟨none, 0, rfl, Nat.le_refl _, Nat.zero_le _, fun j x h => by cases h⟩, fun _ h => by cases h⟩
theorem Sms.slice {w : World} {v : Value} {r : List (List UInt8)} (h : Sms w v r) : ∃ a c, v = .slice a r.length c ∧ r.length ≤ c ∧ c ≤ maxLen := by
  obtain ⟨a, c, h1, h2, h3, _⟩ := h.1
  exact ⟨a, c, h1, h2, h3⟩
theorem Sms.below {w w' : World} {v : Value} {r : List (List UInt8)} (h : Sms w v r) (b : Below w.heap.size w w') : Sms w' v r := by
  obtain ⟨⟨a, c, h1, h2, h3, h4⟩, h5⟩ := h
  refine ⟨⟨a, c, h1, h2, h3, fun j x hx => ?_⟩, h5⟩
  obtain ⟨g, off, e, hg, hr⟩ := h4 j x hx
  refine ⟨g, off, e, Nat.lt_of_lt_of_le hg b.size, fun k u hk => ?_⟩
  rw [← hr k u hk]; unfold World.cell?; rw [b.block g hg]
theorem Sms.drew {w : World} {v : Value} {r : List (List UInt8)} (h : Sms w v r) : Sms w.drew v r := h.below (Below.refl _ _).drew
/-- The last one, and the others. -/
theorem Sms.cons {w : World} {a : Option Addr} {n c : Nat} {s : List UInt8} {r : List (List UInt8)} (h : Sms w (.slice a n c) (s :: r)) : Sms w (.slice a r.length c) r ∧ n = r.length + 1 ∧ n ≤ c ∧ c ≤ maxLen ∧ s.length = 32 ∧ ∃ g off, a = some ⟨g, off, none⟩ ∧ g < w.heap.size ∧ w.rangeAt g (off + r.length * 32) (s.map byteV) := by
  obtain ⟨⟨a', c', h1, h2, h3, h4⟩, h5⟩ := h
  simp only [Value.slice.injEq] at h1
  obtain ⟨rfl, e2, rfl⟩ := h1
  rw [List.length_cons] at e2 h2
  subst e2
  refine ⟨⟨⟨a, c, rfl, by omega, h3, fun j x hx => h4 j x ?_⟩, fun x hx => h5 x (by simp [hx])⟩, rfl, h2, h3, h5 s (by simp), ?_⟩
  · rw [List.reverse_cons, List.getElem?_append_left]
    · exact hx
    · exact (List.getElem?_eq_some_iff.1 hx).1
  · have := h4 r.length s (by rw [List.reverse_cons, List.getElem?_append_right (by simp)]; simp)
    exact this
/-- The first m of a slice that is not nil. -/
theorem Sms.front {w : World} {a : Option Addr} {n c m : Nat} {r : List (List UInt8)} (h : Sms w (.slice a n c) r) (hm : m ≤ n) : Sms w (.slice a m c) (r.drop (n - m)) := by
  obtain ⟨⟨a', c', h1, h2, h3, h4⟩, h5⟩ := h
  simp only [Value.slice.injEq] at h1
  obtain ⟨rfl, rfl, rfl⟩ := h1
  have e : (r.drop (r.length - m)).length = m := by rw [List.length_drop]; omega
  refine ⟨⟨a, c, by rw [e], by omega, h3, fun j x hx => h4 j x ?_⟩, fun x hx => h5 x (List.mem_of_mem_drop hx)⟩
  have e2 : (r.drop (r.length - m)).reverse = r.reverse.take m := by rw [List.reverse_drop]; congr 1; omega
  rw [e2] at hx
  have hj : j < m := by
    have := (List.getElem?_eq_some_iff.1 hx).1
    rw [List.length_take] at this; omega
  rwa [List.getElem?_take_of_lt hj] at hx

theorem sumsC_at : ∀ (l : List (List UInt8)) (j : Nat) (x : List UInt8) (k : Nat) (u : Value), (∀ x ∈ l, x.length = 32) → l[j]? = some x → (x.map byteV)[k]? = some u → (sumsC l)[j * 32 + k]? = some u
  | [], j, x, k, u, _, h, _ => by cases h
  | y :: l, 0, x, k, u, hl, h, hu => by
    obtain rfl : y = x := by simpa using h
    have hy := hl y (by simp)
    have hk : k < (y.map byteV).length := (List.getElem?_eq_some_iff.1 hu).1
    unfold sumsC
    rw [List.flatMap_cons, Nat.zero_mul, Nat.zero_add, List.getElem?_append_left hk]
    exact hu
  | y :: l, j + 1, x, k, u, hl, h, hu => by
    have hy := hl y (by simp)
    have := sumsC_at l j x k u (fun z hz => hl z (by simp [hz])) (by simpa using h) hu
    unfold sumsC at *
    rw [List.flatMap_cons, List.getElem?_append_right (by rw [List.length_map, hy]; omega), List.length_map, hy]
    rw [← this]
    congr 1
    omega

/-- Sums in memory, r: the last one first; in a block of their own. -/
def SmS (w : World) (v : Value) (r : List (List UInt8)) : Prop := Seg w 84 32 v r.length (sumsC r.reverse) ∧ ∀ x ∈ r, x.length = 32
theorem SmS.slice {w : World} {v : Value} {r : List (List UInt8)} (h : SmS w v r) : ∃ a c, v = .slice a r.length c ∧ r.length ≤ c ∧ c ≤ maxLen := h.1.slice
theorem SmS.below {w w' : World} {v : Value} {r : List (List UInt8)} (h : SmS w v r) (b : Below w.heap.size w w') : SmS w' v r := ⟨h.1.below b (fun _ e => h.1.lt e), h.2⟩
theorem SmS.weak {w : World} {v : Value} {r : List (List UInt8)} (h : SmS w v r) : Sms w v r := by
  obtain ⟨a, c, rfl, h1, h2⟩ := h.1.slice
  refine ⟨⟨a, c, rfl, h1, h2, fun j x hx => ?_⟩, h.2⟩
  have hj : j < r.length := by have := (List.getElem?_eq_some_iff.1 hx).1; rwa [List.length_reverse] at this
  obtain ⟨g, off, c', e, hg, _, _, hc⟩ := h.1.cells (by omega)
  simp only [Value.slice.injEq] at e
  refine ⟨g, off, e.1, hg, fun k u hk => ?_⟩
  rw [Nat.add_assoc]
  exact hc _ _ (sumsC_at r.reverse j x k u (fun y hy => h.2 y (List.mem_reverse.1 hy)) hx hk)
end Go.Proofs.YtcdedkgkingbdaaGreatDoor.dig
end

section
/- tree: row.at, root. -/
namespace Go.Proofs.YtcdedkgkingbdaaGreatDoor.dig
open Go Go.RowKit


set_option maxRecDepth 100000 in
set_option maxHeartbeats 1000000 in
theorem at_calls (R o k g m : Nat) (v : Value) (xs : List Value) (x : List UInt8) (w : World) (c0 : w.cell? ⟨R, o, none⟩ = some (.int .i64 g)) (c1 : w.cell? ⟨R, o + 1, none⟩ = some v)
    (hs : Seg w 84 32 v m xs) (hg : g ≤ k) (hk : k - g < m) (hm : m ≤ 1000000) (hkm : k ≤ 1000000) (hx : ∀ r, r < 32 → xs[(k - g) * 32 + r]? = (cellsOf x)[r]?) (hl : x.length = 32) :
    Calls Tryz.prog 116 #[.pointer (some ⟨R, o, none⟩), .int .i64 k] w fun en w' => en = .returned (.agg (cellsOf x)) ∧ Below w.heap.size w w' := by
  obtain ⟨g', off, c, rfl, hlt, hc1, hc2, hcell⟩ := hs.cells (by omega)
  have hR : R < w.heap.size := by
    unfold World.cell? at c0
    rcases Nat.lt_or_ge R w.heap.size with h | h
    · exact h
    · simp [Array.getElem?_eq_none h] at c0
  have hcm : (c : Int) ≤ 9223372036854775807 := by unfold maxLen at hc2; omega
  have hr : w.rangeAt g' (off + (k - g) * 32) (x.map byteV) := fun j u hj => by
    rw [Nat.add_assoc]
    have hj32 : j < 32 := by
      have := (List.getElem?_eq_some_iff.1 hj).1
      simp at this
      omega
    refine hcell _ u ?_
    rw [hx j hj32]
    rw [List.getElem?_map] at hj
    simpa [cellsOf] using hj
  obtain ⟨d, hd⟩ : ∃ d, d = k - g := ⟨_, rfl⟩
  have hd1 : (k : Int) - (g : Int) = (d : Int) := by omega
  have hdm : (d : Int) < (m : Int) := by omega
  have hd0 : (0 : Int) ≤ (d : Int) := by omega
  rw [← hd] at hr
  have HL := Lib.hid hl
  have HR := Lib.hid hr
  clear hs hcell hx hl hd hr
  go_enter Tryz.func116, Tryz.ntmps116
  go_wp2_with fail
  go_name_world W hW
  have B0 : Below w.heap.size w W := by rw [← hW]; exact (Below.refl _ _).alloc (Nat.le_refl _) _
  have Z0 : Has W w.heap.size 84 (cellsOf (List.replicate 32 0)) := by rw [← hW]; exact made_at _ _ rfl
  have d0 : W.cell? ⟨R, o, none⟩ = some (.int .i64 g) := by rw [← c0]; unfold World.cell?; rw [B0.block R hR]
  have d1 : W.cell? ⟨R, o + 1, none⟩ = some (.slice (some ⟨g', off, none⟩) m c) := by rw [← c1]; unfold World.cell?; rw [B0.block R hR]
  have dr : W.rangeAt g' (off + d * 32) (x.map byteV) := fun j u hj => by rw [← HR.out j u hj]; unfold World.cell?; rw [B0.block g' hlt]
  clear hW c0 c1 HR
  obtain ⟨V, hV⟩ : ∃ V, V = W.drew := ⟨_, rfl⟩
  refine still_tail_at V hV 12 (by kernel_rfl) (by kernel_rfl) ?_
  have BV : Hid (Below w.heap.size w V ∧ Has V w.heap.size 84 (cellsOf (List.replicate 32 0))) := by rw [hV]; exact Lib.hid ⟨B0.drew, Z0⟩
  have c0 : V.cell? ⟨R, o, none⟩ = some (.int .i64 g) := by rw [hV]; exact d0
  have c1 : V.cell? ⟨R, o + 1, none⟩ = some (.slice (some ⟨g', off, none⟩) m c) := by rw [hV]; exact d1
  have hl : (Instr.loadAt 84 (.pointer (some ⟨g', off + d * 32, none⟩))).run Tryz.prog V = .ok (.agg (cellsOf x)) V :=
    run_loadAt_mid V g' (off + d * 32) 84 (x.map byteV) _ (by rw [hV]; exact dr) Tryz.underlying84 rfl (by rw [List.length_map, HL.out]; kernel_rfl)
  clear hV d0 d1 dr B0 Z0
  simp only [List.take_succ_cons, List.take_zero, List.drop_succ_cons, List.drop_zero]
  have i0 : IntKind.i64.wrap (d : Int) = (d : Int) := IntWalk.i64_in _ ⟨by omega, by omega⟩
  have j0 : (0 : Int) ≤ (d : Int) ∧ (d : Int) < (m : Int) := ⟨hd0, hdm⟩
  repeat still_step
  refine still_load hl ?_
  refine wpStill_nil ?_
  clear hl c0 c1
  go_wp2_with (first
    | (refine wpList_store_arr (o := ⟨none, _, _, _, _, _⟩) rfl 84 _ _ rfl w.heap.size x (List.replicate 32 0) rfl rfl _ BV.out.2 32 (by kernel_rfl) (by simp) HL.out ?_; intro W6 HW6 TW6)
    | fail)
  exact bodyPost_ret (v := .agg (cellsOf x)) (results_cell_row rfl _ _ w.heap.size 84 _ _ _ rfl HW6 Tryz.underlying84 rfl (by rw [cellsOf_size, HL.out]; kernel_rfl)) rfl
    ⟨rfl, BV.out.1.trans (TW6.below BV.out.1.size (fun j hj e => by omega))⟩
end Go.Proofs.YtcdedkgkingbdaaGreatDoor.dig
end

section
/- tree: root. -/
namespace Go.Proofs.YtcdedkgkingbdaaGreatDoor.dig
open Go Go.RowKit

set_option maxRecDepth 100000 in
set_option maxHeartbeats 2000000 in
theorem root_calls (B : Nat) (F : Nat → Prop) (b N fl : Nat) (f : Nat → List UInt8) (hN : N < 1024) : ∀ (n a : Nat) (w : World), Tr B F w b N fl f → Av fl a n → a + n ≤ N →
    Calls Tryz.prog 78 #[.pointer (some ⟨b, 0, none⟩), .int .i64 a, .int .i64 n] w fun en w' => en = .returned (.agg (cellsOf (rt f a n))) ∧ Below w.heap.size w w' := by
  intro n
  induction n using Nat.strongRecOn with
  | _ n ih =>
  intro a w hT hA han
  have HT := Lib.hid hT
  have hn0 := hA.pos
  by_cases hp : 2 ^ Nat.log2 n = n
  · obtain ⟨j, hj⟩ : ∃ j, j = Nat.log2 n := ⟨_, rfl⟩
    rw [← hj] at hp
    have hpop : pop n = 1 := (pop_one (by omega)).2 (by rw [← hj]; exact hp)
    have hA2 : Av fl a (2 ^ j) := by rw [hp]; exact hA
    obtain ⟨hd, hg⟩ := hA2.row
    have hjn : j < 64 := by
      rcases Nat.lt_or_ge j 64 with h | h
      · exact h
      · have := Nat.pow_le_pow_right (n := 2) (by decide) h
        omega
    have hjt : j < tops N := lt_tops.2 (by omega)
    have hq : a / 2 ^ j < N / 2 ^ j := by
      have h1 := Nat.div_le_div_right (c := 2 ^ j) han
      rw [← hp, Nat.add_div_right _ (Nat.pow_pos (by decide))] at h1
      omega
    have hz : ∀ w', Rt B w' → Calls Tryz.prog 121 #[.int .u64 n] w' fun en w2 => en = .returned (.int .i64 j) ∧ w' = w2 := fun w' h => by
      have := zeros_calls B j w' h hjn
      rw [hp] at this
      exact this
    have HZ := Lib.hid hz
    have HP := Lib.hid hp
    have HD := Lib.hid hd
    have HQ := Lib.hid hq
    have HG := Lib.hid hg
    have HPOP := Lib.hid hpop
    have HNT := Lib.hid (show a ≤ 1000000 ∧ N / 2 ^ j ≤ 1000000 ∧ a / 2 ^ j ≤ 1000000 by have := Nat.div_le_self N (2 ^ j); have := Nat.div_le_self a (2 ^ j); omega)
    obtain ⟨q, hqq⟩ : ∃ q, q = a / 2 ^ j := ⟨_, rfl⟩
    have eq1 : (a : Int) / 2 ^ j = (q : Int) := by rw [hqq, Int.natCast_ediv]; simp
    have HQQ := Lib.hid hqq
    have hjK : (j : Int) < (tops N : Int) := by omega
    have hj0 : (0 : Int) ≤ (j : Int) := by omega
    have hj64 : (j : Int) < 64 := by omega
    have ha0 : (0 : Int) ≤ (a : Int) := by omega
    have ha1 : (a : Int) ≤ 1000000 := by omega
    have i1 : IntKind.u64.wrap (n : Int) = (n : Int) := IntWalk.u64_in _ ⟨by omega, by omega⟩
    clear hqq hT hA hA2 hp hd hq hg hj hz han ih hpop hjn
    go_enter Tryz.func78, Tryz.ntmps78
    go_wp2_with fail
    refine callsName (fun W hW => ?_)
    have B0 : Hid (Below w.heap.size w W) := by rw [← hW]; exact Lib.hid ((Below.refl _ _).alloc (Nat.le_refl _) _)
    have Z0 : Hid (Has W w.heap.size 84 (cellsOf (List.replicate 32 0))) := by rw [← hW]; exact Lib.hid (made_at _ _ rfl)
    have T : Hid (Tr B F W b N fl f) := Lib.hid (HT.out.below B0.out)
    clear hW HT
    refine (ones_calls n _).mono ?_
    rw [HPOP.out]
    rintro e w' ⟨rfl, rfl⟩
    go_wp2_with fail
    refine (HZ.out _ T.out.rt).mono ?_
    rintro e w' ⟨rfl, rfl⟩
    go_wp2_with fail
    obtain ⟨R, o, C, hh, v, c0, c1, hRl, hs⟩ := T.out.row hjt
    have HS := Lib.hid hs
    have e2 := hh.cell 2
    simp at e2
    clear hs hh
    obtain ⟨V, hV⟩ : ∃ V, V = W.drew := ⟨_, rfl⟩
    refine still_tail_at V hV 9 (by kernel_rfl) (by kernel_rfl) ?_
    have BV : Hid (Below w.heap.size w V ∧ Has V w.heap.size 84 (cellsOf (List.replicate 32 0)) ∧ Tr B F V b N fl f ∧ Seg V 84 32 v (N / 2 ^ j - gone fl j) (flat (nodeC f j) (gone fl j) (N / 2 ^ j - gone fl j))) := by rw [hV]; exact Lib.hid ⟨B0.out.drew, Z0.out, T.out.drew, HS.out⟩
    have c0 : V.cell? ⟨R, o + j * 3, none⟩ = some (.int .i64 (gone fl j)) := by rw [hV]; exact c0
    have c1 : V.cell? ⟨R, o + (j * 3 + 1), none⟩ = some v := by rw [hV]; exact c1
    have e2 : V.cell? ⟨b, 2, none⟩ = some (.slice (some ⟨R, o, none⟩) (tops N) C) := by rw [hV]; exact e2
    clear hV B0 Z0 T HS HZ
    simp only [List.take_succ_cons, List.take_zero, List.drop_succ_cons, List.drop_zero]
    repeat still_step
    refine wpStill_nil ?_
    rw [← Nat.add_assoc] at c1
    have X : Hid (∀ r, r < 32 → (flat (nodeC f j) (gone fl j) (N / 2 ^ j - gone fl j))[(q - gone fl j) * 32 + r]? = (cellsOf (rt f a n))[r]?) := Lib.hid fun r hr => by
      have h1 := HQ.out
      have h2 := HG.out
      rw [← HQQ.out] at h1 h2
      rw [flat_get (w := 32) (fun i _ _ => nodeC_len BV.out.2.2.1.len j i) (by omega) hr, Nat.add_sub_cancel' h2]
      have e : q * 2 ^ j = a := by rw [HQQ.out]; exact Nat.div_mul_cancel HD.out
      unfold nodeC
      rw [e, HP.out]
      simp
    have hl : Hid ((rt f a n).length = 32) := Lib.hid (rt_len BV.out.2.2.1.len _ _ hn0)
    clear e2
    go_wp2_with (first
      | (go_at_call 116; refine (at_calls R (o + j * 3) q (gone fl j) (N / 2 ^ j - gone fl j) v _ (rt f a n) V c0 c1 BV.out.2.2.2 (by rw [HQQ.out]; exact HG.out) (by have h1 := HQ.out; have h2 := HG.out; rw [← HQQ.out] at h1 h2; omega) (by have := HNT.out; omega) (by have := HNT.out; rw [HQQ.out]; omega) X.out hl.out).mono ?_)
      | fail)
    rintro e w' ⟨rfl, b5⟩
    have S5 : Hid (Has w' w.heap.size 84 (cellsOf (List.replicate 32 0)) ∧ Below w.heap.size w w') := Lib.hid ⟨BV.out.2.1.below b5 BV.out.2.1.lt, BV.out.1.trans (b5.mono BV.out.1.size)⟩
    clear b5 c0 c1 X BV
    go_wp2_with (first
      | (refine wpList_store_arr (o := ⟨none, _, _, _, _, _⟩) rfl 84 _ _ rfl w.heap.size (rt f a n) (List.replicate 32 0) rfl rfl _ S5.out.1 32 (by kernel_rfl) (by simp) hl.out ?_; intro W6 HW6 TW6)
      | fail)
    exact bodyPost_ret (v := .agg (cellsOf (rt f a n))) (results_cell_row rfl _ _ w.heap.size 84 _ _ _ rfl HW6 Tryz.underlying84 rfl (by rw [cellsOf_size, hl.out]; kernel_rfl)) rfl
      ⟨rfl, S5.out.2.trans (TW6.below S5.out.2.size (fun j hj e => by omega))⟩
  · have hpop : pop n ≠ 1 := fun h => hp ((pop_one (by omega)).1 h)
    have hp2 : ∀ j, n ≠ 2 ^ j := fun j e => hp (by rw [e, Nat.log2_two_pow])
    have hn2 : 2 ≤ n := by
      rcases Nat.lt_or_ge n 2 with h | h
      · exact absurd (show n = 2 ^ 0 by simp; omega) (hp2 0)
      · exact h
    obtain ⟨hA1, hA2⟩ := hA.halves hn2 hp2
    have h1 := half_lt hn2
    have h2 := half_pos n
    obtain ⟨k, hk⟩ : ∃ k, k = half n := ⟨_, rfl⟩
    rw [← hk] at h1 h2 hA1 hA2
    have HI1 := Lib.hid (fun w' (h : Tr B F w' b N fl f) => ih k h1 a w' h hA1 (by omega))
    obtain ⟨n', hn'⟩ : ∃ n', n' = n - k := ⟨_, rfl⟩
    obtain ⟨a', ha'⟩ : ∃ a', a' = a + k := ⟨_, rfl⟩
    have HI2 := Lib.hid (fun w' (h : Tr B F w' b N fl f) => ih n' (by omega) a' w' h (by rw [hn', ha']; exact hA2) (by omega))
    have HX : Hid (nodeS (rt f a k) (rt f a' n') = rt f a n) := Lib.hid (by rw [rt_two f a hn2, ← hk, hn', ha'])
    have HL : Hid ((rt f a k).length = 32 ∧ (rt f a' n').length = 32 ∧ (rt f a n).length = 32) := Lib.hid ⟨rt_len hT.len _ _ h2, rt_len hT.len _ _ (by omega), rt_len hT.len _ _ hn0⟩
    have HK := Lib.hid hk
    have hk1 : (n : Int) - (k : Int) = (n' : Int) := by omega
    have hk2 : (a : Int) + (k : Int) = (a' : Int) := by omega
    have hk3 : (a' : Int) ≤ 1000000 := by omega
    have hk4 : (n' : Int) ≤ 1000000 := by omega
    have hb1 : (n : Int) ≤ 1000000 := by omega
    have hb2 : (a : Int) ≤ 1000000 := by omega
    have hb3 : (k : Int) ≤ 1000000 := by omega
    have i1 : IntKind.u64.wrap (n : Int) = (n : Int) := IntWalk.u64_in _ ⟨by omega, by omega⟩
    have hn1000 : n ≤ 1000000000000 := by omega
    clear hT hA hp hp2 hA1 hA2 h1 h2 hk han ih hn' ha'
    go_enter Tryz.func78, Tryz.ntmps78
    go_wp2_with fail
    refine callsName (fun W hW => ?_)
    have B0 : Hid (Below w.heap.size w W) := by rw [← hW]; exact Lib.hid ((Below.refl _ _).alloc (Nat.le_refl _) _)
    have Z0 : Hid (Has W w.heap.size 84 (cellsOf (List.replicate 32 0))) := by rw [← hW]; exact Lib.hid (made_at _ _ rfl)
    have T : Hid (Tr B F W b N fl f) := Lib.hid (HT.out.below B0.out)
    clear hW HT
    refine (ones_calls n _).mono ?_
    rintro e w' ⟨rfl, rfl⟩
    go_wp2_with fail
    refine (half_calls n W hn2 hn1000).mono ?_
    rw [← HK.out]
    rintro e w' ⟨rfl, rfl⟩
    go_wp2_with fail
    refine (HI1.out _ T.out).mono ?_
    rintro e w1 ⟨rfl, b1⟩
    have T1 : Hid (Tr B F w1 b N fl f ∧ Below w.heap.size w w1 ∧ Has w1 w.heap.size 84 (cellsOf (List.replicate 32 0))) := Lib.hid ⟨T.out.below b1, B0.out.trans (b1.mono B0.out.size), Z0.out.below b1 Z0.out.lt⟩
    clear T B0 Z0 b1
    go_wp2_with fail
    refine (HI2.out _ T1.out.1).mono ?_
    rintro e w2 ⟨rfl, b2⟩
    have T2 : Hid (Tr B F w2 b N fl f ∧ Below w.heap.size w w2 ∧ Has w2 w.heap.size 84 (cellsOf (List.replicate 32 0))) := Lib.hid ⟨T1.out.1.below b2, T1.out.2.1.trans (b2.mono T1.out.2.1.size), T1.out.2.2.below b2 T1.out.2.2.lt⟩
    clear T1 b2
    go_wp2_with fail
    refine (node_calls _ _ w2 T2.out.1.rt.rk HL.out.1 HL.out.2.1).mono ?_
    rw [HX.out]
    rintro e w3 ⟨rfl, b3⟩
    have S5 : Hid (Has w3 w.heap.size 84 (cellsOf (List.replicate 32 0)) ∧ Below w.heap.size w w3) := Lib.hid ⟨T2.out.2.2.below b3 T2.out.2.2.lt, T2.out.2.1.trans (b3.mono T2.out.2.1.size)⟩
    clear T2 b3
    go_wp2_with (first
      | (refine wpList_store_arr (o := ⟨none, _, _, _, _, _⟩) rfl 84 _ _ rfl w.heap.size (rt f a n) (List.replicate 32 0) rfl rfl _ S5.out.1 32 (by kernel_rfl) (by simp) HL.out.2.2 ?_; intro W6 HW6 TW6)
      | fail)
    exact bodyPost_ret (v := .agg (cellsOf (rt f a n))) (results_cell_row rfl _ _ w.heap.size 84 _ _ _ rfl HW6 Tryz.underlying84 rfl (by rw [cellsOf_size, HL.out.2.2]; kernel_rfl)) rfl
      ⟨rfl, S5.out.2.trans (TW6.below S5.out.2.size (fun j hj e => by omega))⟩
end Go.Proofs.YtcdedkgkingbdaaGreatDoor.dig
end

section
/- A slice that is made of one whole value. Of no program. -/
namespace Go.Proofs.YtcdedkgkingbdaaGreatDoor
open Go.RowKit

theorem fold_get : ∀ (l : List Value) (k : Nat) (base : Array Value) (j : Nat), k + l.length ≤ base.size →
    ((l.zipIdx k).foldl (fun (a : Array Value) p => a.setIfInBounds (0 + p.2) p.1) base)[j]? = if k ≤ j ∧ j < k + l.length then l[j - k]? else base[j]?
  | [], k, base, j, _ => by
    simp only [List.zipIdx_nil, List.foldl_nil, List.length_nil, Nat.add_zero]
    rw [if_neg (by omega)]
  | x :: l, k, base, j, h => by
    rw [List.zipIdx_cons, List.foldl_cons, fold_get l (k + 1) _ j (by simp at h ⊢; omega)]
    simp only [List.length_cons, Nat.zero_add] at h ⊢
    by_cases h1 : k + 1 ≤ j ∧ j < k + 1 + l.length
    · rw [if_pos h1, if_pos (by omega), show j - k = (j - (k + 1)) + 1 by omega, List.getElem?_cons_succ]
    · rw [if_neg h1, Array.getElem?_setIfInBounds]
      by_cases h2 : k = j
      · subst h2
        rw [if_pos rfl, if_pos (by omega), if_pos (by omega), Nat.sub_self, List.getElem?_cons_zero]
      · rw [if_neg h2, if_neg (by omega)]
theorem fold_all (cs base : Array Value) (h : base.size = cs.size) : cs.zipIdx.foldl (fun (a : Array Value) p => a.setIfInBounds (0 + p.2) p.1) base = cs := by
  apply Array.ext_getElem?
  intro j
  have e := fold_get cs.toList 0 base j (by simp [h])
  have e2 : cs.zipIdx.foldl (fun (a : Array Value) p => a.setIfInBounds (0 + p.2) p.1) base = (cs.toList.zipIdx 0).foldl (fun (a : Array Value) p => a.setIfInBounds (0 + p.2) p.1) base := by
    rw [← Array.foldl_toList, Array.toList_zipIdx]
  rw [e2, e]
  by_cases hj : j < cs.size
  · rw [if_pos (by simp; omega)]
    simp
  · rw [if_neg (by simp; omega), Array.getElem?_eq_none (by omega), Array.getElem?_eq_none (by omega)]

section
variable {P : Program}
theorem fill_one (size : Nat) (z : Array Value) (cs : Array Value) (hs : size = cs.size) :
    Instr.fill (fun i => some (i * size, size)) ((Array.range (1 * size)).map (z[· % z.size]!)) [(0, Value.agg cs)] = some cs := by
  have hf := fold_all cs ((Array.range (1 * size)).map (z[· % z.size]!)) (by simp [hs])
  subst hs
  unfold Instr.fill
  have e : ¬ ((Value.agg cs).cells.size ≠ cs.size || 0 * cs.size + (Value.agg cs).cells.size > ((Array.range (1 * cs.size)).map (z[· % z.size]!)).size) = true := by simp [Value.cells]
  simp only [e]
  unfold Instr.fill
  simp only [Bool.false_eq_true, if_false, Nat.zero_mul]
  exact congrArg some hf
theorem run_build_one (t e : TypeId) (i : TypeInfo) (z : Value) (ht : P.underlying t = some (.slice e)) (hi : P.info? e = some i) (hz : i.zero = some z) (cs : Array Value) (hs : i.size = cs.size) (h0 : 0 < cs.size) (hb : cs.size ≤ 16777216) (w : World) :
    (Instr.buildSlice t 1 #[(0, .agg cs)]).run P w = .ok (.slice (some ⟨w.heap.size, 0, none⟩) 1 1) (w.alloc (.cells cs e)) :=
  run_buildSlice w t e 1 _ cs i z ht hi hz (by rw [hs]; omega) (by omega) (fill_one i.size z.cells cs hs)

/-- A slice of one whole value is made: its block, in a world that is a letter. -/
theorem wp_build_one {o : Oper} {a : Act} {w : World} {K : Act → World → Prop} {Q : Exit → Act → World → Prop} (t e : TypeId) (y : Operand) (ho : o.op = .buildSlice t 1 #[(0, y)])
    (i : TypeInfo) (z : Value) (ht : P.underlying t = some (.slice e)) (hi : P.info? e = some i) (hz : i.zero = some z) (cs : Array Value) (hy : a.eval y = .agg cs) (hs : i.size = cs.size) (h0 : 0 < cs.size) (hb : cs.size ≤ 16777216)
    (H : Nat) (hH : w.heap.size = H)
    (h : ∀ W, Has W H e cs → Below w.heap.size w W → K (a.put o.dst (.slice (some ⟨H, 0, none⟩) 1 1)) W) : o.wp P a w K Q := by
  subst hH
  have hr := run_build_one (P := P) t e i z ht hi hz cs hs h0 hb w
  have he : (#[(0, y)] : Array (Nat × Operand)).map (fun (i, x) => (i, a.eval x)) = #[(0, Value.agg cs)] := by simp [hy]
  unfold Oper.wp execOp
  simp only [ho, he, Sem.run_bind, hr, Result.andThen_ok]
  exact h _ (Has.made w e cs) ((Below.refl _ _).alloc (Nat.le_refl _) _)
theorem wpList_build_one {ops : Array Oper} {rest : List Oper} {o : Oper} {a : Act} {w : World} {Q : Exit → Act → World → Prop} (hg : o.guard = none) (t e : TypeId) (y : Operand) (ho : o.op = .buildSlice t 1 #[(0, y)])
    (i : TypeInfo) (z : Value) (ht : P.underlying t = some (.slice e)) (hi : P.info? e = some i) (hz : i.zero = some z) (cs : Array Value) (hy : a.eval y = .agg cs) (hs : i.size = cs.size) (h0 : 0 < cs.size) (hb : cs.size ≤ 16777216)
    (H : Nat) (hH : w.heap.size = H)
    (h : ∀ W, Has W H e cs → Below w.heap.size w W → wpList P ops Q rest (a.put o.dst (.slice (some ⟨H, 0, none⟩) 1 1)) W) : wpList P ops Q (o :: rest) a w :=
  wpList_plain hg fun _ hK => wp_build_one t e y ho i z ht hi hz cs hy hs h0 hb H hH fun W h1 h2 => hK _ _ (h W h1 h2)

/-- Results: a whole row out of its cell, and a plain one. -/
theorem results_cell_tmp {fn : Func} {p q : Tmp} {ty : TypeId} (h : fn.results = #[.cell p ty, .tmp q]) (tmps : Array Value) (w : World) (g : Nat) (t : TypeId) (cs : Array Value) (fr : Nat × Nat) (d : TypeDesc)
    (hp : tmps.getD p undef = .pointer (some ⟨g, 0, none⟩)) (hg : w.heap[g]? = some (.cells cs t fr))
    (hu : P.underlying ty = some d) (hd : (match d with | .struct _ | .array _ _ => true | _ => false) = true) (hi : (P.info? ty).map (·.size) = some cs.size) (v : Value) (hq : tmps.getD q undef = v) :
    (results fn tmps).run P w = .ok (.tuple #[.agg cs, v]) w := by
  have hp' : tmps[p]?.getD undef = .pointer (some ⟨g, 0, none⟩) := by simpa using hp
  have hq' : tmps[q]?.getD undef = v := by simpa using hq
  simp [results, h, hp', hq', asAddr, run_loadVar_row w g t ty cs fr d hg hu hd hi]
end
end Go.Proofs.YtcdedkgkingbdaaGreatDoor
end

