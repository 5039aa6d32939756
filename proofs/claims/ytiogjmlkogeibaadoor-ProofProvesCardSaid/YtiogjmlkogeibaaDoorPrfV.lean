/- proof: the law's awake. -/
import Derived.Test.YtiogjmlkogeibaaDoorPrfJ
import Derived.Test.YtiogjmlkogeibaaDoorPrfN
import Derived.Test.YtiogjmlkogeibaaDoorBld
namespace Go.Proofs.YtiogjmlkogeibaaDoor.prf
open Go Go.RowKit Go.Proofs.YtiogjmlkogeibaaDoor.dig

theorem of_err {w : World} {v : Value} {s : ByteArray} {a E : Int} (hT : flt.Et w.heap.size w) (h : IsErr w v s a E) : Calls Tryd.prog 13 #[v] w fun en w' => en = .returned (.int .i64 E) ∧ Below w.heap.size w w' := by
  rcases h with ⟨rfl, rfl⟩ | ⟨_, b, rfl, h⟩
  · go_enter Tryd.func13, Tryd.ntmps13
    go_wp2_with fail
    go_ret
    exact ⟨rfl, Below.refl _ _⟩
  · exact flt.of_calls w.heap.size _ E w hT h

theorem list32 (xs : List UInt8) (h : xs.length = 32) : xs = (List.range 32).map (fun i => xs.getD i 0) := by
  apply List.ext_getElem?
  intro i
  by_cases hi : i < 32
  · rw [List.getElem?_map, List.getElem?_range hi, List.getElem?_eq_getElem (by omega)]
    simp [List.getD_eq_getElem?_getD, List.getElem?_eq_getElem (show i < xs.length by omega)]
  · rw [List.getElem?_eq_none (by omega), List.getElem?_eq_none (by simp; omega)]
theorem built_head (n : Int) (xs : List UInt8) (h : xs.length = 32) : Tryd.prog.built 33 [(0, .int .i64 n), (1, .agg (cellsOf xs))] = some (headC n xs) := by
  rw [list32 xs h]
  generalize (fun i => xs.getD i 0) = f
  kernel_rfl
theorem run_head (n : Int) (xs : List UInt8) (h : xs.length = 32) (w : World) : (Instr.build 33 #[(0, .int .i64 n), (1, .agg (cellsOf xs))]).run Tryd.prog w = .ok (.agg (headC n xs)) w :=
  run_build w 33 _ _ (built_head n xs h)
theorem headC_all (n : Int) (xs : List UInt8) : (headC n xs).all (·.oneCell') = true := by
  rw [Array.all_eq_true_iff_forall_mem]
  intro v hv
  simp only [headC, List.mem_toArray, List.mem_cons, List.mem_map] at hv
  rcases hv with rfl | ⟨c, _, rfl⟩ <;> rfl
/-- A whole head is stored. -/
theorem wpList_store_head {ops : Array Oper} {rest : List Oper} {o : Oper} {a : Act} {w : World} {Q : Exit → Act → World → Prop} (hgd : o.guard = none) (x y : Operand) (ho : o.op = .store 33 x y) (g : Nat) (n m : Int) (xs old : List UInt8) (hx : a.eval x = .pointer (some ⟨g, 0, none⟩)) (hy : a.eval y = .agg (headC n xs))
    (hg : Has w g 33 (headC m old)) (hl : xs.length = 32) (hl2 : old.length = 32) (h : ∀ w', Has w' g 33 (headC n xs) → Turn (fun k => k = g) w w' → wpList Tryd.prog ops Q rest (a.put o.dst undef) w') : wpList Tryd.prog ops Q (o :: rest) a w :=
  wpList_store_row hgd 33 x y ho g (headC n xs) hx hy 33 (headC m old) hg (by rw [headC_size, hl]; kernel_rfl) (by rw [headC_size, headC_size, hl, hl2]) (headC_all n xs) (h _ (hg.row _) (turn_row _ _ _))
theorem exec_head {ev : Operand → Value} {o : Oper} {w : World} (x y : Operand) (ho : o.op = .build 33 #[(0, x), (1, y)]) (n : Int) (xs : List UInt8) (hx : ev x = .int .i64 n) (hy : ev y = .agg (cellsOf xs)) (hl : xs.length = 32) :
    (execOp ev o).run Tryd.prog w = .ok (.value (.agg (headC n xs))) w := by
  have hr := run_head n xs hl w
  have he : (#[(0, x), (1, y)] : Array (Nat × Operand)).map (fun (i, x) => (i, ev x)) = #[(0, Value.int .i64 n), (1, Value.agg (cellsOf xs))] := by simp [hx, hy]
  unfold execOp
  simp only [ho, he, Sem.run_bind, hr, Result.andThen_ok, Sem.run_pure]
theorem wpList_head {ops : Array Oper} {rest : List Oper} {o : Oper} {a : Act} {w : World} {Q : Exit → Act → World → Prop} (hgd : o.guard = none) (x y : Operand) (ho : o.op = .build 33 #[(0, x), (1, y)]) (n : Int) (xs : List UInt8) (hx : a.eval x = .int .i64 n) (hy : a.eval y = .agg (cellsOf xs)) (hl : xs.length = 32)
    (h : wpList Tryd.prog ops Q rest (a.put o.dst (.agg (headC n xs))) w) : wpList Tryd.prog ops Q (o :: rest) a w :=
  wpList_plain hgd fun K hK => by
    unfold Oper.wp
    rw [exec_head x y ho n xs hx hy hl]
    exact hK _ _ h

theorem Has.load_hd {w : World} {g : Nat} {n : Int} {o : List UInt8} (h : Has w g 33 (headC n o)) (ho : o.length = 32) : (Instr.loadAt 33 (.pointer (some ⟨g, 0, none⟩))).run Tryd.prog w = .ok (.agg (headC n o)) w :=
  run_loadAt_mid w g 0 33 (Value.int .i64 n :: o.map byteV) _ (Has.range h) Tryd.underlying33 rfl (by rw [List.length_cons, List.length_map, ho]; kernel_rfl)
/-- An operation under a guard that holds. -/
theorem wpList_if {P : Program} {ops : Array Oper} {rest : List Oper} {o : Oper} {a : Act} {w : World} {Q : Exit → Act → World → Prop} (hw : Region.wanted o (yielded ops a.tmps) = true) (h : o.wp P a w (fun a' w' => wpList P ops Q rest a' w') Q) : wpList P ops Q (o :: rest) a w := by
  unfold wpList
  rw [if_pos hw]
  exact .inl h
theorem Sms.one {w : World} {g : Nat} {x : List UInt8} (h : Has w g 27 (cellsOf x)) (hx : x.length = 32) : Sms w (.slice (some ⟨g, 0, none⟩) 1 1) [x] := by
  refine SmS.weak ⟨?_, fun y hy => by rw [List.mem_singleton.1 hy]; exact hx⟩
  have := Seg.of_has (n := 1) (size := 32) h (by rw [cellsOf_size, hx]) (by decide)
  simpa [sumsC, cellsOf] using this

theorem half2 : half 2 = 1 := half_pow 0
set_option maxRecDepth 100000 in
theorem node_ne : (nodeS (leafS [98]) (leafS [97]) == nodeS (leafS [97]) (leafS [98])) = false := by kernel_rfl
theorem incl_one : inclE [97] 0 2 (nodeS (leafS [97]) (leafS [98])) [leafS [98]] = 0 := by
  unfold inclE
  rw [if_neg (by omega)]
  have e : up (List.replicate 32 0) (leafS [97]) [leafS [98]] (0 : Int).toNat (2 : Int).toNat = (nodeS (leafS [97]) (leafS [98]), true) := by
    show up _ _ _ 0 2 = _
    rw [up_left _ _ _ _ (by decide) (by rw [half2]; decide), half2, up_one]; rfl
  rw [e, if_pos ⟨rfl, rfl⟩]
theorem incl_two : inclE [97] 1 2 (nodeS (leafS [97]) (leafS [98])) [leafS [98]] = 12 := by
  unfold inclE
  rw [if_neg (by omega)]
  have e : up (List.replicate 32 0) (leafS [97]) [leafS [98]] (1 : Int).toNat (2 : Int).toNat = (nodeS (leafS [98]) (leafS [97]), true) := by
    show up _ _ _ 1 2 = _
    rw [up_right _ _ _ _ (by decide) (by rw [half2]; decide), half2, up_one]; rfl
  rw [e, if_neg (fun h => by have h2 : nodeS (leafS [98]) (leafS [97]) = nodeS (leafS [97]) (leafS [98]) := h.2; have := node_ne; rw [h2] at this; simp at this)]
theorem incl_three (root : List UInt8) (r : List (List UInt8)) : inclE [97] 2 2 root r = 6 := by unfold inclE; rw [if_pos (by omega)]

theorem Lw.below {w w' : World} (h : Lw w) (b : Below w.heap.size w w') : Lw w' := ⟨h.rk.below b, by
  have e := h.et.below b (Nat.le_refl _)
  exact ⟨e.cell, Nat.lt_of_lt_of_le e.lo b.size, Nat.le_refl _⟩⟩

set_option maxRecDepth 100000 in
set_option maxHeartbeats 4000000 in
theorem awake_any (w : World) (hL : Lw w) : Calls Tryd.prog 6 #[] w fun en w' => en = .returned (.bool true) ∧ Below w.heap.size w w' := by
  have HL := Lib.hid hL
  obtain ⟨la, hla⟩ : ∃ x, x = leafS [97] := ⟨_, rfl⟩
  obtain ⟨lb, hlb⟩ : ∃ x, x = leafS [98] := ⟨_, rfl⟩
  have LA : Hid (la.length = 32) := Lib.hid (by rw [hla]; exact leafS_length _)
  have LB : Hid (lb.length = 32) := Lib.hid (by rw [hlb]; exact leafS_length _)
  have HA : ∀ V, Hid (Lw V → Calls Tryd.prog 16 #[.string ⟨#[97]⟩] V fun en w' => en = .returned (.agg (cellsOf la)) ∧ Below V.heap.size V w') := fun V => Lib.hid (fun h => by rw [hla]; exact leaf_calls ⟨#[97]⟩ V h.rk (by decide))
  have HB : ∀ V, Hid (Lw V → Calls Tryd.prog 16 #[.string ⟨#[98]⟩] V fun en w' => en = .returned (.agg (cellsOf lb)) ∧ Below V.heap.size V w') := fun V => Lib.hid (fun h => by rw [hlb]; exact leaf_calls ⟨#[98]⟩ V h.rk (by decide))
  have HLA := Lib.hid hla
  have HLB := Lib.hid hlb
  clear hL hla hlb
  go_enter Tryd.func6, Tryd.ntmps6
  go_wp2_with fail
  refine ((HA w).out HL.out).mono ?_
  rintro en w1 ⟨rfl, b1⟩
  have L1 := Lib.hid (HL.out.below b1)
  go_wp2_with fail
  refine ((HB w1).out L1.out).mono ?_
  rintro en w2 ⟨rfl, b2'⟩
  have B2 : Hid (Below w.heap.size w w2) := Lib.hid (b1.trans (b2'.mono b1.size))
  clear b1 b2' L1
  go_wp2_with (first
    | ((with_reducible refine at_store (.tmp 1) ?_); refine wpList_store_arr (o := ⟨none, _, _, _, _, _⟩) rfl 27 _ _ rfl w2.heap.size la Z rfl rfl _ ((made_at _ _ rfl).alloc _) 32 (by kernel_rfl) Z_len LA.out ?_; intro W3 HW3 TW3
       (have K3 : Hid (Below w.heap.size w W3 ∧ Has W3 w2.heap.size 27 (cellsOf la) ∧ Has W3 (w2.heap.size + 1) 27 (cellsOf Z)) := Lib.hid (by
         have b3 : Below w2.heap.size w2 W3 := (((Below.refl _ _).alloc (Nat.le_refl _) _).alloc (by simp) _).trans (TW3.below (by simp; omega) (fun j hj e => by omega))
         exact ⟨B2.out.trans (b3.mono B2.out.size), HW3, (made_at _ _ (by simp)).turn TW3 (by omega)⟩))
       (clear TW3 HW3))
    | ((with_reducible refine at_store (.tmp 2) ?_); refine wpList_store_arr (o := ⟨none, _, _, _, _, _⟩) rfl 27 _ _ rfl (w2.heap.size + 1) lb Z rfl rfl _ K3.out.2.2 32 (by kernel_rfl) Z_len LB.out ?_; intro W4 HW4 TW4
       (have K4 : Hid (Below w.heap.size w W4 ∧ Has W4 w2.heap.size 27 (cellsOf la) ∧ Has W4 (w2.heap.size + 1) 27 (cellsOf lb)) := Lib.hid ⟨K3.out.1.trans (TW4.below K3.out.1.size (fun j hj e => by have := B2.out.size; omega)), K3.out.2.1.turn TW4 (by omega), HW4⟩)
       (clear TW4 HW4 K3))
    | ((with_reducible refine at_op 6 ?_); refine wpList_load_arr (o := ⟨some 6, _, _, _, _, _⟩) rfl 27 _ rfl w2.heap.size rfl 27 la 5 32 K4.out.2.1 Tryd.underlying27 (by kernel_rfl) LA.out ?_)
    | ((with_reducible refine at_op 7 ?_); refine wpList_load_arr (o := ⟨some 7, _, _, _, _, _⟩) rfl 27 _ rfl (w2.heap.size + 1) rfl 27 lb 5 32 K4.out.2.2 Tryd.underlying27 (by kernel_rfl) LB.out ?_)
    | fail)
  obtain ⟨nab, hnab⟩ : ∃ x, x = nodeS la lb := ⟨_, rfl⟩
  have HNAB := Lib.hid hnab
  have LN : Hid (nab.length = 32) := Lib.hid (by rw [hnab]; exact nodeS_length _ _)
  have HN : Hid (Calls Tryd.prog 20 #[.agg (cellsOf la), .agg (cellsOf lb)] W4 fun en w' => en = .returned (.agg (cellsOf nab)) ∧ Below W4.heap.size W4 w') := Lib.hid (by rw [hnab]; exact node_calls _ _ W4 (HL.out.below K4.out.1).rk LA.out LB.out)
  clear hnab
  refine HN.out.mono ?_
  rintro en w5 ⟨rfl, b5⟩
  have K5 : Hid (Below w.heap.size w w5 ∧ Has w5 w2.heap.size 27 (cellsOf la) ∧ Has w5 (w2.heap.size + 1) 27 (cellsOf lb)) := Lib.hid ⟨K4.out.1.trans (b5.mono K4.out.1.size), K4.out.2.1.below b5 K4.out.2.1.lt, K4.out.2.2.below b5 K4.out.2.2.lt⟩
  clear b5 K4 HN
  have HO := fun V (v : Value) (s : ByteArray) (a E : Int) => Lib.hid (fun (h : Lw V) (h2 : IsErr V v s a E) => of_err h.et h2)
  have HI := fun (i : Int) (r : List (List UInt8)) (a : Option Addr) (c : Nat) (V : World) => Lib.hid (fun (h : Lw V) (h2 : Sms V (.slice a r.length c) r) => incl_calls ⟨#[97]⟩ i 2 nab LN.out (by decide) r a c V h.rk h2 (by decide))
  obtain ⟨i0, z0, hi0, hz0, hz1, hz2, hz3⟩ := sumInfo
  have HI0 := Lib.hid hi0
  have HZ0 := Lib.hid hz0
  clear hi0 hz0 hz2 hz3
  go_wp2_with (first
    | ((with_reducible refine at_op 9 ?_); refine wpList_head (o := ⟨some 9, _, _, _, _, _⟩) rfl _ _ rfl 2 nab rfl rfl LN.out ?_)
    | ((with_reducible refine at_store (.tmp 3) ?_); refine wpList_store_head (o := ⟨none, _, _, _, _, _⟩) rfl _ _ rfl w5.heap.size 2 0 nab Z rfl rfl (made_at _ _ rfl) LN.out Z_len ?_; intro W6 HW6 TW6
       (have K6 : Hid (Below w.heap.size w W6 ∧ Has W6 (w2.heap.size + 1) 27 (cellsOf lb) ∧ Has W6 w5.heap.size 33 (headC 2 nab)) := Lib.hid (by
         have b6 : Below w5.heap.size w5 W6 := ((Below.refl _ _).alloc (Nat.le_refl _) _).trans (TW6.below (by simp) (fun j hj e => by omega))
         exact ⟨K5.out.1.trans (b6.mono K5.out.1.size), K5.out.2.2.below b6 K5.out.2.2.lt, HW6⟩))
       (clear TW6 HW6))
    | ((with_reducible refine at_op 10 ?_); refine wpList_load_row (o := ⟨some 10, _, _, _, _, _⟩) rfl 33 _ rfl w5.heap.size rfl 33 (headC 2 nab) (0, 0) _ K6.out.2.2 Tryd.underlying33 rfl (by rw [headC_size, LN.out]; kernel_rfl) ?_)
    | ((with_reducible refine at_op 11 ?_); refine wpList_load_arr (o := ⟨some 11, _, _, _, _, _⟩) rfl 27 _ rfl (w2.heap.size + 1) rfl 27 lb 5 32 K6.out.2.1 Tryd.underlying27 (by kernel_rfl) LB.out ?_)
    | ((with_reducible refine at_op 12 ?_); refine wpList_build_one (o := ⟨some 12, _, _, _, _, _⟩) rfl 29 27 _ rfl i0 z0 Tryd.underlying29 HI0.out HZ0.out (cellsOf lb) rfl (by rw [hz1, cellsOf_size, LB.out]) (by rw [cellsOf_size, LB.out]; decide) (by rw [cellsOf_size, LB.out]; decide) W6.heap.size rfl ?_; intro X1 HX1 BX1
       (have M1 : Hid (Below w.heap.size w X1 ∧ Has X1 (w2.heap.size + 1) 27 (cellsOf lb) ∧ Has X1 w5.heap.size 33 (headC 2 nab) ∧ Sms X1 (.slice (some ⟨W6.heap.size, 0, none⟩) 1 1) [lb]) := Lib.hid ⟨K6.out.1.trans (BX1.mono K6.out.1.size), K6.out.2.1.below BX1 K6.out.2.1.lt, K6.out.2.2.below BX1 K6.out.2.2.lt, Sms.one HX1 LB.out⟩)
       (clear HX1 BX1))
    | fail)
  have E1 : inclE [97] 0 2 nab [lb] = 0 := by rw [HNAB.out, HLA.out, HLB.out]; exact incl_one
  have E2 : inclE [97] 1 2 nab [lb] = 12 := by rw [HNAB.out, HLA.out, HLB.out]; exact incl_two
  have E3 : inclE [97] 2 2 nab [lb] = 6 := incl_three _ _
  have HE1 := Lib.hid E1
  have HE2 := Lib.hid E2
  have HE3 := Lib.hid E3
  clear E1 E2 E3
  refine ((HI 0 [lb] (some ⟨W6.heap.size, 0, none⟩) 1 X1).out (HL.out.below M1.out.1) M1.out.2.2.2).mono ?_
  rintro en v1 ⟨e1, rfl, he1, b1⟩
  rw [HE1.out] at he1
  have N1 : Hid (Below w.heap.size w v1 ∧ Has v1 (w2.heap.size + 1) 27 (cellsOf lb) ∧ Has v1 w5.heap.size 33 (headC 2 nab)) := Lib.hid ⟨M1.out.1.trans (b1.mono M1.out.1.size), M1.out.2.1.below b1 M1.out.2.1.lt, M1.out.2.2.1.below b1 M1.out.2.2.1.lt⟩
  clear M1 b1
  obtain rfl : e1 = .nilIface := by
    rcases he1 with ⟨_, h⟩ | ⟨h, _⟩
    · exact h
    · exact absurd rfl h
  clear he1
  go_wp2_with (first
    | ((with_reducible refine at_opg 16 ?_); refine wpList_load_if (by rfl) 33 _ rfl (.pointer (some ⟨w5.heap.size, 0, none⟩)) rfl (Has.load_hd N1.out.2.2 LN.out) ?_)
    | ((with_reducible refine at_opg 17 ?_); refine wpList_load_if (by rfl) 27 _ rfl (.pointer (some ⟨w2.heap.size + 1, 0, none⟩)) rfl (Has.load_sum N1.out.2.1 LB.out) ?_)
    | ((with_reducible refine at_opg 18 ?_); refine wpList_if (by rfl) (wp_build_one 29 27 _ rfl i0 z0 Tryd.underlying29 HI0.out HZ0.out (cellsOf lb) rfl (by rw [hz1, cellsOf_size, LB.out]) (by rw [cellsOf_size, LB.out]; decide) (by rw [cellsOf_size, LB.out]; decide) v1.heap.size rfl ?_); intro X2 HX2 BX2
       (have M2 : Hid (Below w.heap.size w X2 ∧ Has X2 (w2.heap.size + 1) 27 (cellsOf lb) ∧ Has X2 w5.heap.size 33 (headC 2 nab) ∧ Sms X2 (.slice (some ⟨v1.heap.size, 0, none⟩) 1 1) [lb]) := Lib.hid ⟨N1.out.1.trans (BX2.mono N1.out.1.size), N1.out.2.1.below BX2 N1.out.2.1.lt, N1.out.2.2.below BX2 N1.out.2.2.lt, Sms.one HX2 LB.out⟩)
       (clear HX2 BX2))
    | fail)
  refine ((HI 1 [lb] (some ⟨v1.heap.size, 0, none⟩) 1 X2).out (HL.out.below M2.out.1) M2.out.2.2.2).mono ?_
  rintro en v2 ⟨e2, rfl, he2, b2⟩
  rw [HE2.out] at he2
  have N2 : Hid (Below w.heap.size w v2 ∧ Has v2 (w2.heap.size + 1) 27 (cellsOf lb) ∧ Has v2 w5.heap.size 33 (headC 2 nab)) := Lib.hid ⟨M2.out.1.trans (b2.mono M2.out.1.size), M2.out.2.1.below b2 M2.out.2.1.lt, M2.out.2.2.1.below b2 M2.out.2.2.1.lt⟩
  clear M2 b2
  have HE2 := Lib.hid he2
  clear he2
  go_wp2_with fail
  refine ((HO v2 e2 _ _ 12).out (HL.out.below N2.out.1) HE2.out).mono ?_
  rintro en y2 ⟨rfl, b2⟩
  have Q2 : Hid (Below w.heap.size w y2 ∧ Has y2 (w2.heap.size + 1) 27 (cellsOf lb) ∧ Has y2 w5.heap.size 33 (headC 2 nab)) := Lib.hid ⟨N2.out.1.trans (b2.mono N2.out.1.size), N2.out.2.1.below b2 N2.out.2.1.lt, N2.out.2.2.below b2 N2.out.2.2.lt⟩
  clear N2 b2 HE2
  go_wp2_with (first
    | ((with_reducible refine at_opg 24 ?_); refine wpList_load_if (by rfl) 33 _ rfl (.pointer (some ⟨w5.heap.size, 0, none⟩)) rfl (Has.load_hd Q2.out.2.2 LN.out) ?_)
    | ((with_reducible refine at_opg 25 ?_); refine wpList_load_if (by rfl) 27 _ rfl (.pointer (some ⟨w2.heap.size + 1, 0, none⟩)) rfl (Has.load_sum Q2.out.2.1 LB.out) ?_)
    | ((with_reducible refine at_opg 26 ?_); refine wpList_if (by rfl) (wp_build_one 29 27 _ rfl i0 z0 Tryd.underlying29 HI0.out HZ0.out (cellsOf lb) rfl (by rw [hz1, cellsOf_size, LB.out]) (by rw [cellsOf_size, LB.out]; decide) (by rw [cellsOf_size, LB.out]; decide) y2.heap.size rfl ?_); intro X3 HX3 BX3
       (have M3 : Hid (Below w.heap.size w X3 ∧ Has X3 (w2.heap.size + 1) 27 (cellsOf lb) ∧ Has X3 w5.heap.size 33 (headC 2 nab) ∧ Sms X3 (.slice (some ⟨y2.heap.size, 0, none⟩) 1 1) [lb]) := Lib.hid ⟨Q2.out.1.trans (BX3.mono Q2.out.1.size), Q2.out.2.1.below BX3 Q2.out.2.1.lt, Q2.out.2.2.below BX3 Q2.out.2.2.lt, Sms.one HX3 LB.out⟩)
       (clear HX3 BX3))
    | fail)
  refine ((HI 2 [lb] (some ⟨y2.heap.size, 0, none⟩) 1 X3).out (HL.out.below M3.out.1) M3.out.2.2.2).mono ?_
  rintro en v3 ⟨e3, rfl, he3, b3⟩
  rw [HE3.out] at he3
  have N3 : Hid (Below w.heap.size w v3 ∧ Has v3 (w2.heap.size + 1) 27 (cellsOf lb) ∧ Has v3 w5.heap.size 33 (headC 2 nab)) := Lib.hid ⟨M3.out.1.trans (b3.mono M3.out.1.size), M3.out.2.1.below b3 M3.out.2.1.lt, M3.out.2.2.1.below b3 M3.out.2.2.1.lt⟩
  clear M3 b3
  have HE3 := Lib.hid he3
  clear he3
  go_wp2_with fail
  refine ((HO v3 e3 _ _ 6).out (HL.out.below N3.out.1) HE3.out).mono ?_
  rintro en y3 ⟨rfl, b3⟩
  have Q3 : Hid (Below w.heap.size w y3 ∧ Has y3 (w2.heap.size + 1) 27 (cellsOf lb) ∧ Has y3 w5.heap.size 33 (headC 2 nab)) := Lib.hid ⟨N3.out.1.trans (b3.mono N3.out.1.size), N3.out.2.1.below b3 N3.out.2.1.lt, N3.out.2.2.below b3 N3.out.2.2.lt⟩
  clear N3 b3 HE3
  go_wp2_with fail
  go_ret
  exact ⟨rfl, Q3.out.1⟩
end Go.Proofs.YtiogjmlkogeibaaDoor.prf
