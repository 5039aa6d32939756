/-
  For every two numbers and three texts: what wire's writer writes of the number, the number that may be below 0, the text's first 60 bytes, a sum and two sums are the bytes that the document's own words give for them. No condition: all numbers, all texts.
-/
import Derived.Test.YtigojpjmncclaaaWireA
import Derived.Test.YtigojpjmncclaaaWireF
import Derived.Test.YtigojpjmncclaaaBuild
import Derived.Test.YtigojpjmncclaaaAny
import Derived.ProofKit
import Derived.OpenShut
import Derived.ShutString
import Derived.ChangeOld
import Derived.Deep.RegionHeld3
import Derived.Deep.CutRange
import Derived.BigQuiet
namespace Go.Proofs.Ytigojpjmncclaaa.wirePuts
open Go.ChangeShapes Go.WideShapes Go.ChangeAt Go.RowKit
open Go.ChangeMaps (open_string shut_string)

/-- The cells of a sum, as a list that stays closed. -/
def cl (x : List UInt8) : List Value := x.map byteV

/-- What a literal of two sums comes to, by its parts. -/
def twoSums (P : Program) (A B : Value) (w : World) : Result Next := (Next.value <$> Instr.buildSlice 42 2 #[(0, A), (1, B)]).run P w

theorem exec_two (ρ : Operand → Value) (w : World) (ty : TypeId) (pos : String) (af : Array _) (d : Option Tmp) : (execOp ρ ⟨d, .buildSlice 42 2 #[(0, .tmp 28), (1, .tmp 29)], ty, pos, af, none⟩).run Try.prog w = twoSums Try.prog (ρ (.tmp 28)) (ρ (.tmp 29)) w := by
  have e : (#[(0, Operand.tmp 28), (1, Operand.tmp 29)] : Array (Nat × Operand)).map (fun (i, x) => (i, ρ x)) = #[(0, ρ (.tmp 28)), (1, ρ (.tmp 29))] := by simp
  simp only [execOp, e, twoSums]
  rfl

theorem two_sums (x y : List UInt8) (hx : x.length = 32) (hy : y.length = 32) (w : World) :
    twoSums Try.prog (.agg (cl x).toArray) (.agg (cl y).toArray) w = .ok (.value (.slice (some ⟨w.heap.size, 0, none⟩) 2 2)) (w.alloc (.cells (cellsOf (x ++ y)) 25)) := by
  have := run_build_sums [x, y] (by intro z hz; rcases List.mem_cons.1 hz with rfl | hz; exact hx; rcases List.mem_cons.1 hz with rfl | hz; exact hy; cases hz) (by simp) (by simp) w #[(0, .agg (cl x).toArray), (1, .agg (cl y).toArray)] rfl
  have e : ([x, y] : List (List UInt8)).flatten = x ++ y := by simp
  rw [e] at this
  have this' : (Instr.buildSlice 42 2 #[(0, .agg (cl x).toArray), (1, .agg (cl y).toArray)]).run Try.prog w = .ok (.slice (some ⟨w.heap.size, 0, none⟩) 2 2) (w.alloc (.cells (cellsOf (x ++ y)) 25)) := this
  unfold twoSums
  rw [map_eq_pure_bind, Sem.run_bind, this']
  rfl

theorem wf_i64 {y : Int} (h : (Lit.int .i64 y).wf = true) : -9223372036854775808 ≤ y ∧ y ≤ 9223372036854775807 := by
  have m0 : IntKind.i64.min = -9223372036854775808 := by decide
  have m1 : IntKind.i64.max = 9223372036854775807 := by decide
  have h' : (decide (IntKind.i64.min ≤ y) && decide (y ≤ IntKind.i64.max)) = true := h
  rw [m0, m1] at h'
  simpa using h'
theorem wf_u64 {y : Int} (h : (Lit.int .u64 y).wf = true) : 0 ≤ y ∧ y ≤ 18446744073709551615 := by
  have m0 : IntKind.u64.min = 0 := by decide
  have m1 : IntKind.u64.max = 18446744073709551615 := by decide
  have h' : (decide (IntKind.u64.min ≤ y) && decide (y ≤ IntKind.u64.max)) = true := h
  rw [m0, m1] at h'
  simpa using h'

/-- Two sums in a literal's own block, apart from a writer and its row. -/
def Bt (x y : List UInt8) (V : World) (b : Nat) (r : Option Nat) (gs : Nat) : Prop := SumsAt V (some ⟨gs, 0, none⟩) [x, y] ∧ gs ≠ b ∧ some gs ≠ r ∧ gs < V.heap.size

theorem Bt.post {x y : List UInt8} {V V' : World} {b gs : Nat} {r r' : Option Nat} (h : Bt x y V b r gs) (hr : r' = r ∨ ∃ k, r' = some k ∧ V.heap.size ≤ k) (t : Turn (fun k => k = b ∨ some k = r) V V') : Bt x y V' b r' gs := by
  obtain ⟨h1, h2, h3, h4⟩ := h
  refine ⟨h1.turn t (fun k hk hF => ?_), h2, ?_, Nat.lt_of_lt_of_le h4 t.size⟩
  · injection hk with hk
    injection hk with hk
    subst hk
    rcases hF with hF | hF
    · exact h2 hF
    · exact h3 hF
  · rcases hr with rfl | ⟨k, rfl, hk⟩
    · exact h3
    · intro e; injection e with e; omega

theorem Bt.fresh {x y : List UInt8} (V : World) {b : Nat} {r : Option Nat} (hx : x.length = 32) (hy : y.length = 32) (hb : b < V.heap.size) (hr : ∀ k, r = some k → k < V.heap.size) : Bt x y (V.alloc (.cells (cellsOf (x ++ y)) 25)) b r V.heap.size := by
  refine ⟨⟨(by intro z hz; rcases List.mem_cons.1 hz with rfl | hz; exact hx; rcases List.mem_cons.1 hz with rfl | hz; exact hy; cases hz), .inr ⟨_, rfl, ?_⟩⟩, by omega, fun e => by have := hr _ e.symm; omega, by simp⟩
  have e : ([x, y] : List (List UInt8)).flatten = x ++ y := by simp
  rw [e]
  exact Has.range (t := 25) (by exact Has.made V 25 (cellsOf (x ++ y)))

theorem range_turn {F : Nat → Prop} {V V' : World} {g o : Nat} {cs : List Value} (h : V.rangeAt g o cs) (t : Turn F V V') (hF : ¬ F g) : V'.rangeAt g o cs := fun j u hj => by
  have := h j u hj
  rw [t.cell (p := ⟨g, o + j, none⟩) (World.block_lt_of_cell? V _ this) hF]
  exact this

theorem Wr.lt {w : World} {b : Nat} {r : Option Nat} {xs : List UInt8} (h : Wr w b r xs) : b < w.heap.size := by
  obtain ⟨v, h, _⟩ := h
  exact h.lt

/-- Where the region stands: X is written, the two sums lie where they lay, all that turned is new. -/
structure J (w : World) (g b : Nat) (x y : List UInt8) (r : Option Nat) (X : List UInt8) (V : World) : Prop where
  wr : Wr V b r X
  rx : V.rangeAt g 0 (cl x)
  ry : V.rangeAt (g + 1) 0 (cl y)
  tn : Turn (fun k => w.heap.size ≤ k) w V
  fb : w.heap.size ≤ b ∧ g + 1 < b
  fr : ∀ k, r = some k → w.heap.size ≤ k ∧ g + 1 < k

section
variable {w V V' : World} {g b : Nat} {x y X : List UInt8} {r r' : Option Nat}
theorem J.drawn (h : J w g b x y r X V) : J w g b x y r X V.drew := ⟨h.wr, by simpa using h.rx, by simpa using h.ry, h.tn.drew, h.fb, h.fr⟩
theorem J.lay (h : J w g b x y r X V) (o : Obj) : J w g b x y r X (V.alloc o) := ⟨Wr.turn h.wr (alloc_only _ _) (fun h => h) (fun _ _ h => h), World.rangeAt_alloc h.rx o, World.rangeAt_alloc h.ry o, h.tn.alloc o, h.fb, h.fr⟩
theorem J.ranges (h : J w g b x y r X V) : V.rangeAt g 0 (cl x) ∧ V.rangeAt (g + 1) 0 (cl y) := ⟨h.rx, h.ry⟩
theorem J.next (X : List UInt8) {X' : List UInt8} (h : J w g b x y r X V) (hr : r' = r ∨ ∃ k, r' = some k ∧ V.heap.size ≤ k) (t : Turn (fun k => k = b ∨ some k = r) V V') (hw : Wr V' b r' X') : J w g b x y r' X' V' := by
  have hbV := Wr.lt h.wr
  have hfb := h.fb
  refine ⟨hw, range_turn h.rx t (fun hF => ?_), range_turn h.ry t (fun hF => ?_), h.tn.trans t (fun j hj hF => ?_), h.fb, fun k hk => ?_⟩
  · rcases hF with hF | hF
    · omega
    · have := h.fr _ hF.symm; omega
  · rcases hF with hF | hF
    · omega
    · have := h.fr _ hF.symm; omega
  · rcases hF with hF | hF
    · omega
    · exact (h.fr _ hF.symm).1
  · rcases hr with rfl | ⟨j, rfl, hj⟩
    · exact h.fr k hk
    · injection hk with hk
      have := h.tn.size
      omega
end

/-- What the region of all calls leaves. -/
def Fin5 (w : World) (g b : Nat) (x y X : List UInt8) (V : World) : Prop := ∃ r, J w g b x y r X V









theorem wpOp_two {ops : Array Oper} {Q : Exit → Act → World → Prop} {i : Nat} {K : Act → World → Prop} {a : Act} {w : World} {x y : List UInt8} {ty : TypeId} {pos : String} {af : Array _}
    (hi : ops[i]? = some ⟨some 30, .buildSlice 42 2 #[(0, .tmp 28), (1, .tmp 29)], ty, pos, af, none⟩) (hx : x.length = 32) (hy : y.length = 32)
    (h28 : a.eval (.tmp 28) = .agg (cl x).toArray) (h29 : a.eval (.tmp 29) = .agg (cl y).toArray)
    (h : K (a.put (some 30) (.slice (some ⟨w.heap.size, 0, none⟩) 2 2)) (w.alloc (.cells (cellsOf (x ++ y)) 25))) : wpOp Try.prog ops Q i K a w :=
  wpOp_value (some 30) hi rfl rfl (by rw [exec_two, h28, h29]; exact two_sums x y hx hy w) h

theorem call_turn {P : Program} {f : FuncId} {vs : Array Value} {v : Value} {wc w : World} (h : Calls P f vs w fun en w' => en = .returned v ∧ Below w.heap.size w w') (hS : Turn (fun k => wc.heap.size ≤ k) wc w) :
    Calls P f vs w fun en w' => en = .returned v ∧ Turn (fun k => wc.heap.size ≤ k) wc w' :=
  h.mono fun en w' hp => ⟨hp.1, hS.trans (Turn.of_below (F := fun k => wc.heap.size ≤ k) hp.2 (fun j hj h => by have := hS.size; omega)) (fun j _ h => h)⟩

theorem conv_range {P : Program} {w : World} {g : Nat} {xs : List UInt8} (src dst e : TypeId) (cap : Nat) (hs : P.underlying src = some (.slice e)) (he : P.underlying e = some (.int .u8)) (hd : P.underlying dst = some .string) (h : w.rangeAt g 0 (cl xs)) :
    (convert src dst (.slice (some ⟨g, 0, none⟩) xs.length cap)).run P w = .ok (.string ⟨xs.toArray⟩) w :=
  run_convert_bytes_back w src dst e ⟨g, 0, none⟩ cap xs hs he hd (fun j hj => by
    rw [Addr.add_mid]
    exact h j _ (by simp [cl, hj, byteV]))

theorem exec_add {P : Program} (ρ : Operand → Value) (w : World) (d : Option Tmp) (T T' ty : TypeId) (x y : Operand) (pos : String) (af : Array _) (gd : Option (Nat × Bool)) (A B : ByteArray) (hx : ρ x = .string A) (hy : ρ y = .string B) (hs : A.size + B.size ≤ 1000) :
    (execOp ρ ⟨d, .binOp .add T x y T', ty, pos, af, gd⟩).run P w = .ok (.value (.string (A ++ B))) w := by
  have h : A.size + B.size ≤ 9223372036854775807 := by omega
  unfold execOp
  simp only [hx, hy]
  go_simp

theorem exec_eql {P : Program} (ρ : Operand → Value) (w : World) (d : Option Tmp) (T T' ty : TypeId) (x y : Operand) (pos : String) (af : Array _) (gd : Option (Nat × Bool)) (A B : ByteArray) (hx : ρ x = .string A) (hy : ρ y = .string B) (hs : A = B) :
    (execOp ρ ⟨d, .binOp .eql T x y T', ty, pos, af, gd⟩).run P w = .ok (.value (.bool true)) w := by
  subst hs
  unfold execOp
  simp only [hx, hy]
  go_simp

theorem exec_pick {P : Program} (ρ : Operand → Value) (w : World) (d : Option Tmp) (ty : TypeId) (x y z : Operand) (pos : String) (af : Array _) (gd : Option (Nat × Bool)) {v : Value} (hx : ρ x = .bool true) (hy : ρ y = v) :
    (execOp ρ ⟨d, .pick x y z, ty, pos, af, gd⟩).run P w = .ok (.value v) w := by
  unfold execOp
  simp only [hx, hy]
  go_simp

theorem exec_assign {P : Program} (ρ : Operand → Value) (w : World) (d : Option Tmp) (ty : TypeId) (x : Operand) (pos : String) (af : Array _) (gd : Option (Nat × Bool)) {v : Value} (hx : ρ x = v) :
    (execOp ρ ⟨d, .assign x, ty, pos, af, gd⟩).run P w = .ok (.value v) w := by
  unfold execOp
  simp only [hx]
  rfl

theorem exec_conv {P : Program} (ρ : Operand → Value) (w : World) (d : Option Tmp) (src dst ty : TypeId) (x : Operand) (pos : String) (af : Array _) (gd : Option (Nat × Bool)) (v u : Value) (hx : ρ x = v) (h : (convert src dst v).run P w = .ok u w) :
    (execOp ρ ⟨d, .convert src dst x, ty, pos, af, gd⟩).run P w = .ok (.value u) w := by
  unfold execOp
  simp only [hx, Sem.run_bind, h]
  rfl

set_option maxRecDepth 100000 in
set_option maxHeartbeats 4000000 in
theorem walk (a0 : Int) (a1 : Int) (a2 a3 a4 : ByteArray) (w : World) (h0 : (Lit.int .u64 a0).wf = true) (h1 : (Lit.int .i64 a1).wf = true) (h2 : a2.size ≤ maxLen) (_h3 : a3.size ≤ maxLen) (_h4 : a4.size ≤ maxLen) :
    Calls Try.prog 3 #[.int .u64 a0, .int .i64 a1, .string a2, .string a3, .string a4] w fun e w' => e = .returned (.bool true) ∧ Below w.heap.size w w' := by
  go_enter Try.func3, Try.ntmps3
  go_wp2_with fail
  refine (cut_any a2 60 w (by omega) h2).mono ?_
  rintro en w1 ⟨rfl, rfl⟩
  have hs60 : (a2.extract 0 60).size ≤ 60 := by rw [ByteArray.size_extract]; omega
  generalize a2.extract 0 60 = s at *
  go_wp2_with fail
  refine (lsum_any a3 _).mono ?_
  rintro en w1 ⟨rfl, b1⟩
  have hx := sum32_length a3
  generalize sum32 a3 = x at *
  go_wp2_with fail
  refine (lsum_any a4 _).mono ?_
  rintro en w2 ⟨rfl, b2⟩
  have hy := sum32_length a4
  generalize sum32 a4 = y at *
  have B2 := Lib.hid (b1.trans (b2.mono b1.size))
  have HX := Lib.hid hx
  have HY := Lib.hid hy
  clear b1 b2 hx hy
  go_wp2_with ((with_reducible refine at_store (.tmp 11) ?_); refine wpList_store_arr (o := ⟨none, _, _, _, _, _⟩) rfl 25 (.tmp 11) (.tmp 17) rfl w2.heap.size x zeros rfl rfl 25 (by exact (made_zeros_at w2 _ rfl).alloc _) 32 Try.infoSum zeros_length HX.out ?_)
  intro w3 z3 t3
  have y3 : Has w3 (w2.heap.size + 1) 25 (cellsOf zeros) := (made_zeros_at (w2.alloc _) (w2.heap.size + 1) (by simp)).turn t3 (by omega)
  have T3 := Lib.hid ((((Turn.of_below (F := fun k => w.heap.size ≤ k) B2.out (fun j _ h => h)).alloc _).alloc _).trans t3 (fun j hj h => by have := B2.out.size; omega))
  have Z3 := Lib.hid z3
  have Y3 := Lib.hid y3
  have hb2 := B2.out.size
  clear z3 y3 t3 B2
  generalize w2.heap.size = g at *
  go_wp2_with ((with_reducible refine at_store (.tmp 12) ?_); refine wpList_store_arr (o := ⟨none, _, _, _, _, _⟩) rfl 25 (.tmp 12) (.tmp 19) rfl (g + 1) y zeros rfl rfl 25 Y3.out 32 Try.infoSum zeros_length HY.out ?_)
  intro w4 y4 t4
  have T4 := Lib.hid (T3.out.trans t4 (fun j hj h => by omega))
  have Z4 := Lib.hid (Z3.out.turn t4 (by omega))
  have Y4 := Lib.hid y4
  clear T3 Z3 Y3 y4 t4
  go_wp2_with fail
  go_name_world W hW
  generalize hb : w4.heap.size = b at *
  have hgb : g + 1 < b := by rw [← hb]; exact Y4.out.lt
  have HJ0 : Hid (J w g b x y none [] W) := by
    show J w g b x y none [] W
    rw [← hW]
    refine ⟨?_, World.rangeAt_alloc (Has.range (t := 25) (by exact Z4.out)) _, World.rangeAt_alloc (Has.range (t := 25) (by exact Y4.out)) _, T4.out.alloc _, ⟨by omega, hgb⟩, fun k hk => by cases hk⟩
    have := wr_new w4
    rw [hb] at this
    exact this
  obtain ⟨hi0, hi1⟩ := wf_i64 h1
  obtain ⟨hu0, hu1⟩ := wf_u64 h0
  have hu1' : a0 < 18446744073709551616 := by omega
  have he0 := enc_len a0.toNat (by omega)
  have he1 := enc_len (zz a1) (by unfold zz; split <;> omega)
  have he2 := enc_len s.size (by omega)
  have hsd : s.data.toList.length ≤ 60 := by simpa using hs60
  have hx32 : x.length ≤ 32 := Nat.le_of_eq HX.out
  obtain ⟨Zx, Zy⟩ := HJ0.out.ranges
  have hu := Try.underlying25
  have hi : (Try.prog.info? 25).map (·.size) = some (cl x).length := by rw [Try.infoSum, cl, List.length_map, HX.out]
  have hi' : (Try.prog.info? 25).map (·.size) = some (cl y).length := by rw [Try.infoSum, cl, List.length_map, HY.out]
  have kb := two_sums x y HX.out HY.out
  clear hW hb T4 Z4 Y4 hu1
  obtain ⟨X5, hX5⟩ : ∃ X5, X5 = ([] : List UInt8) ++ enc a0.toNat ++ enc (zz a1) ++ enc s.size ++ s.data.toList ++ x ++ enc [x, y].length ++ [x, y].flatten := ⟨_, rfl⟩
  have HX5 := Lib.hid hX5
  clear hX5
  go_cut [] from 20 to 31 (fun V => Fin5 w g b x y (([] : List UInt8) ++ enc a0.toNat ++ enc (zz a1) ++ enc s.size ++ s.data.toList ++ x ++ enc [x, y].length ++ [x, y].flatten) V)
  case first =>
    refine wp_region_held (S := fun V => V.rangeAt g 0 (cl x) ∧ V.rangeAt (g + 1) 0 (cl y)) (by kernel_rfl) ?_
    have HS0 : (fun V : World => V.rangeAt g 0 (cl x) ∧ V.rangeAt (g + 1) 0 (cl y)) W.drew := HJ0.out.drawn.ranges
    refine held_take 0 (some 20) rfl rfl (by kernel_rfl) (by kernel_rfl) (by kernel_rfl) (fun _ _ _ h => h) (.inl ⟨by kernel_rfl, fun _ _ => rfl⟩) HS0 ?_
    refine held_take 2 (some 22) rfl rfl (by kernel_rfl) (by kernel_rfl) (by kernel_rfl) (fun _ _ _ h => h) (.inl ⟨by kernel_rfl, fun _ _ => rfl⟩) HS0 ?_
    refine held_take 4 (some 24) rfl rfl (by kernel_rfl) (by kernel_rfl) (by kernel_rfl) (fun _ _ _ h => h) (.inl ⟨by kernel_rfl, fun _ _ => rfl⟩) HS0 ?_
    refine held_take 6 (some 26) rfl rfl (by kernel_rfl) (by kernel_rfl) (by kernel_rfl) (fun _ _ _ h => h) (yieldsIf_load_mid (by kernel_rfl) 25 (.tmp 11) rfl g 0 rfl (cl x) _ (fun _ h => h.1) hu rfl hi) HS0 ?_
    refine held_take 8 (some 28) rfl rfl (by kernel_rfl) (by kernel_rfl) (by kernel_rfl) (fun _ _ _ h => h) (yieldsIf_load_mid (by kernel_rfl) 25 (.tmp 11) rfl g 0 rfl (cl x) _ (fun _ h => h.1) hu rfl hi) HS0 ?_
    refine held_take 9 (some 29) rfl rfl (by kernel_rfl) (by kernel_rfl) (by kernel_rfl) (fun _ _ _ h => h) (yieldsIf_load_mid (by kernel_rfl) 25 (.tmp 12) rfl (g + 1) 0 rfl (cl y) _ (fun _ h => h.2) hu rfl hi') HS0 ?_
    simp only [Act.put, List.setIfInBounds_toArray, List.set_cons_zero, List.set_cons_succ]
    refine held_two (i := 1) (j := 10) (by kernel_rfl) ?_ ?_
    · refine wpOp_call (some 21) rfl rfl (by kernel_rfl) 9 Try.f9 Try.func9 (by kernel_rfl) (by kernel_rfl) _ _ rfl #[.pointer (some ⟨b, 0, none⟩), .int .u64 a0] (by first | (simp [Act.eval]; done) | (simp [Act.eval, Act.put]; done)) (wnum_int b none [] a0 _ hu0 hu1' (J.wr HJ0.out.drawn) (by simp)) ?_
      rintro en v1 ⟨rfl, r1, h1, hr1, t1⟩
      have HJ1 := Lib.hid (J.next (w := w) (g := g) (x := x) (y := y) _ HJ0.out.drawn hr1 t1 h1)
      clear h1 hr1 t1
      refine ⟨_, rfl, HJ1.out.ranges, ?_⟩
      simp only [Act.put, List.setIfInBounds_toArray, List.set_cons_zero, List.set_cons_succ]
      refine held_two (i := 3) (j := 10) (by kernel_rfl) ?_ ?_
      · refine wpOp_call (some 23) rfl rfl (by kernel_rfl) 10 Try.f10 Try.func10 (by kernel_rfl) (by kernel_rfl) _ _ rfl #[.pointer (some ⟨b, 0, none⟩), .int .i64 a1] (by first | (simp [Act.eval]; done) | (simp [Act.eval, Act.put]; done)) (wint_any b r1 _ a1 _ (J.wr HJ1.out) (by simp only [List.length_append, List.length_nil]; omega) hi0 hi1) ?_
        rintro en v2 ⟨rfl, r2, h2, hr2, t2⟩
        have HJ2 := Lib.hid (J.next (w := w) (g := g) (x := x) (y := y) _ HJ1.out hr2 t2 h2)
        clear h2 hr2 t2
        refine ⟨_, rfl, HJ2.out.ranges, ?_⟩
        simp only [Act.put, List.setIfInBounds_toArray, List.set_cons_zero, List.set_cons_succ]
        refine held_two (i := 5) (j := 10) (by kernel_rfl) ?_ ?_
        · refine wpOp_call (some 25) rfl rfl (by kernel_rfl) 11 Try.f11 Try.func11 (by kernel_rfl) (by kernel_rfl) _ _ rfl #[.pointer (some ⟨b, 0, none⟩), .string s] (by first | (simp [Act.eval]; done) | (simp [Act.eval, Act.put]; done)) (wstr_any b r2 _ s _ (J.wr HJ2.out) (by simp only [List.length_append, List.length_nil]; omega) (by omega)) ?_
          rintro en v3 ⟨rfl, r3, h3, hr3, t3⟩
          have HJ3 := Lib.hid (J.next (w := w) (g := g) (x := x) (y := y) _ HJ2.out hr3 t3 h3)
          clear h3 hr3 t3
          refine ⟨_, rfl, HJ3.out.ranges, ?_⟩
          simp only [Act.put, List.setIfInBounds_toArray, List.set_cons_zero, List.set_cons_succ]
          refine held_two (i := 7) (j := 10) (by kernel_rfl) ?_ ?_
          · refine wpOp_call (some 27) rfl rfl (by kernel_rfl) 12 Try.f12 Try.func12 (by kernel_rfl) (by kernel_rfl) _ _ rfl #[.pointer (some ⟨b, 0, none⟩), .agg (cl x).toArray] (by first | (simp [Act.eval]; done) | (simp [Act.eval, Act.put]; done)) (wsum_any b r3 _ x _ (J.wr HJ3.out) (by simp only [List.length_append, List.length_nil]; omega) HX.out) ?_
            rintro en v4 ⟨rfl, r4, h4, hr4, t4⟩
            have HJ4 := Lib.hid (J.next (w := w) (g := g) (x := x) (y := y) _ HJ3.out hr4 t4 h4)
            clear h4 hr4 t4
            refine ⟨_, rfl, HJ4.out.ranges, ?_⟩
            simp only [Act.put, List.setIfInBounds_toArray, List.set_cons_zero, List.set_cons_succ]
            refine held_one (i := 10) (by kernel_rfl) ?_
            refine wpOp_two (x := x) (y := y) rfl HX.out HY.out (by kernel_rfl) (by kernel_rfl) ?_
            refine ⟨(J.lay HJ4.out _).ranges, ?_⟩
            simp only [Act.put, List.setIfInBounds_toArray, List.set_cons_zero, List.set_cons_succ]
            refine held_one (i := 11) (by kernel_rfl) ?_
            have HB := (Bt.fresh (x := x) (y := y) (b := b) (r := r4) (v4) HX.out HY.out (Wr.lt (J.wr HJ4.out)) (fun j hj => Wr.row_lt (J.wr HJ4.out) hj))
            refine wpOp_call (some 31) rfl rfl (by kernel_rfl) 13 Try.f13 Try.func13 (by kernel_rfl) (by kernel_rfl) _ _ rfl #[.pointer (some ⟨b, 0, none⟩), .slice (some ⟨_, 0, none⟩) 2 2] (by first | (simp [Act.eval]; done) | (simp [Act.eval, Act.put]; done) | (simp [Act.eval]; rfl)) (wsums_any b r4 _ _ 2 [x, y] _ (J.wr (J.lay HJ4.out _)) (by simp only [List.length_append, List.length_nil]; omega) (by simp) HB.1 (fun k hk => by injection hk with hk; injection hk with hk; subst hk; exact HB.2)) ?_
            rintro en v5 ⟨rfl, r5, h5, hr5, t5⟩
            have HJ5 := Lib.hid (J.next (w := w) (g := g) (x := x) (y := y) _ (J.lay HJ4.out _) hr5 t5 h5)
            refine ⟨_, rfl, HJ5.out.ranges, ?_⟩
            refine wpAnyH_done (by kernel_rfl) ?_ _
            clear h5 hr5 t5 HB
            go_wp2_with fail
            go_meet
            exact ⟨r5, HJ5.out⟩
          · refine wpOp_two (x := x) (y := y) rfl HX.out HY.out (by kernel_rfl) (by kernel_rfl) ?_
            refine ⟨(J.lay HJ3.out _).ranges, ?_⟩
            simp only [Act.put, List.setIfInBounds_toArray, List.set_cons_zero, List.set_cons_succ]
            refine held_one (i := 7) (by kernel_rfl) ?_
            refine wpOp_call (some 27) rfl rfl (by kernel_rfl) 12 Try.f12 Try.func12 (by kernel_rfl) (by kernel_rfl) _ _ rfl #[.pointer (some ⟨b, 0, none⟩), .agg (cl x).toArray] (by first | (simp [Act.eval]; done) | (simp [Act.eval, Act.put]; done)) (wsum_any b r3 _ x _ (J.wr (J.lay HJ3.out _)) (by simp only [List.length_append, List.length_nil]; omega) HX.out) ?_
            rintro en v4 ⟨rfl, r4, h4, hr4, t4⟩
            have BS := Lib.hid (Bt.post (Bt.fresh (x := x) (y := y) (b := b) (r := r3) (v3) HX.out HY.out (Wr.lt (J.wr HJ3.out)) (fun j hj => Wr.row_lt (J.wr HJ3.out) hj)) hr4 t4)
            have HJ4 := Lib.hid (J.next (w := w) (g := g) (x := x) (y := y) _ (J.lay HJ3.out _) hr4 t4 h4)
            clear h4 hr4 t4
            refine ⟨_, rfl, HJ4.out.ranges, ?_⟩
            simp only [Act.put, List.setIfInBounds_toArray, List.set_cons_zero, List.set_cons_succ]
            refine held_one (i := 11) (by kernel_rfl) ?_
            have HB := BS.out
            refine wpOp_call (some 31) rfl rfl (by kernel_rfl) 13 Try.f13 Try.func13 (by kernel_rfl) (by kernel_rfl) _ _ rfl #[.pointer (some ⟨b, 0, none⟩), .slice (some ⟨_, 0, none⟩) 2 2] (by first | (simp [Act.eval]; done) | (simp [Act.eval, Act.put]; done) | (simp [Act.eval]; rfl)) (wsums_any b r4 _ _ 2 [x, y] _ (J.wr HJ4.out) (by simp only [List.length_append, List.length_nil]; omega) (by simp) HB.1 (fun k hk => by injection hk with hk; injection hk with hk; subst hk; exact HB.2)) ?_
            rintro en v5 ⟨rfl, r5, h5, hr5, t5⟩
            have HJ5 := Lib.hid (J.next (w := w) (g := g) (x := x) (y := y) _ HJ4.out hr5 t5 h5)
            refine ⟨_, rfl, HJ5.out.ranges, ?_⟩
            refine wpAnyH_done (by kernel_rfl) ?_ _
            clear h5 hr5 t5 HB
            go_wp2_with fail
            go_meet
            exact ⟨r5, HJ5.out⟩
        · refine wpOp_two (x := x) (y := y) rfl HX.out HY.out (by kernel_rfl) (by kernel_rfl) ?_
          refine ⟨(J.lay HJ2.out _).ranges, ?_⟩
          simp only [Act.put, List.setIfInBounds_toArray, List.set_cons_zero, List.set_cons_succ]
          refine held_one (i := 5) (by kernel_rfl) ?_
          refine wpOp_call (some 25) rfl rfl (by kernel_rfl) 11 Try.f11 Try.func11 (by kernel_rfl) (by kernel_rfl) _ _ rfl #[.pointer (some ⟨b, 0, none⟩), .string s] (by first | (simp [Act.eval]; done) | (simp [Act.eval, Act.put]; done)) (wstr_any b r2 _ s _ (J.wr (J.lay HJ2.out _)) (by simp only [List.length_append, List.length_nil]; omega) (by omega)) ?_
          rintro en v3 ⟨rfl, r3, h3, hr3, t3⟩
          have BS := Lib.hid (Bt.post (Bt.fresh (x := x) (y := y) (b := b) (r := r2) (v2) HX.out HY.out (Wr.lt (J.wr HJ2.out)) (fun j hj => Wr.row_lt (J.wr HJ2.out) hj)) hr3 t3)
          have HJ3 := Lib.hid (J.next (w := w) (g := g) (x := x) (y := y) _ (J.lay HJ2.out _) hr3 t3 h3)
          clear h3 hr3 t3
          refine ⟨_, rfl, HJ3.out.ranges, ?_⟩
          simp only [Act.put, List.setIfInBounds_toArray, List.set_cons_zero, List.set_cons_succ]
          refine held_one (i := 7) (by kernel_rfl) ?_
          refine wpOp_call (some 27) rfl rfl (by kernel_rfl) 12 Try.f12 Try.func12 (by kernel_rfl) (by kernel_rfl) _ _ rfl #[.pointer (some ⟨b, 0, none⟩), .agg (cl x).toArray] (by first | (simp [Act.eval]; done) | (simp [Act.eval, Act.put]; done)) (wsum_any b r3 _ x _ (J.wr HJ3.out) (by simp only [List.length_append, List.length_nil]; omega) HX.out) ?_
          rintro en v4 ⟨rfl, r4, h4, hr4, t4⟩
          have BS := Lib.hid (Bt.post BS.out hr4 t4)
          have HJ4 := Lib.hid (J.next (w := w) (g := g) (x := x) (y := y) _ HJ3.out hr4 t4 h4)
          clear h4 hr4 t4
          refine ⟨_, rfl, HJ4.out.ranges, ?_⟩
          simp only [Act.put, List.setIfInBounds_toArray, List.set_cons_zero, List.set_cons_succ]
          refine held_one (i := 11) (by kernel_rfl) ?_
          have HB := BS.out
          refine wpOp_call (some 31) rfl rfl (by kernel_rfl) 13 Try.f13 Try.func13 (by kernel_rfl) (by kernel_rfl) _ _ rfl #[.pointer (some ⟨b, 0, none⟩), .slice (some ⟨_, 0, none⟩) 2 2] (by first | (simp [Act.eval]; done) | (simp [Act.eval, Act.put]; done) | (simp [Act.eval]; rfl)) (wsums_any b r4 _ _ 2 [x, y] _ (J.wr HJ4.out) (by simp only [List.length_append, List.length_nil]; omega) (by simp) HB.1 (fun k hk => by injection hk with hk; injection hk with hk; subst hk; exact HB.2)) ?_
          rintro en v5 ⟨rfl, r5, h5, hr5, t5⟩
          have HJ5 := Lib.hid (J.next (w := w) (g := g) (x := x) (y := y) _ HJ4.out hr5 t5 h5)
          refine ⟨_, rfl, HJ5.out.ranges, ?_⟩
          refine wpAnyH_done (by kernel_rfl) ?_ _
          clear h5 hr5 t5 HB
          go_wp2_with fail
          go_meet
          exact ⟨r5, HJ5.out⟩
      · refine wpOp_two (x := x) (y := y) rfl HX.out HY.out (by kernel_rfl) (by kernel_rfl) ?_
        refine ⟨(J.lay HJ1.out _).ranges, ?_⟩
        simp only [Act.put, List.setIfInBounds_toArray, List.set_cons_zero, List.set_cons_succ]
        refine held_one (i := 3) (by kernel_rfl) ?_
        refine wpOp_call (some 23) rfl rfl (by kernel_rfl) 10 Try.f10 Try.func10 (by kernel_rfl) (by kernel_rfl) _ _ rfl #[.pointer (some ⟨b, 0, none⟩), .int .i64 a1] (by first | (simp [Act.eval]; done) | (simp [Act.eval, Act.put]; done)) (wint_any b r1 _ a1 _ (J.wr (J.lay HJ1.out _)) (by simp only [List.length_append, List.length_nil]; omega) hi0 hi1) ?_
        rintro en v2 ⟨rfl, r2, h2, hr2, t2⟩
        have BS := Lib.hid (Bt.post (Bt.fresh (x := x) (y := y) (b := b) (r := r1) (v1) HX.out HY.out (Wr.lt (J.wr HJ1.out)) (fun j hj => Wr.row_lt (J.wr HJ1.out) hj)) hr2 t2)
        have HJ2 := Lib.hid (J.next (w := w) (g := g) (x := x) (y := y) _ (J.lay HJ1.out _) hr2 t2 h2)
        clear h2 hr2 t2
        refine ⟨_, rfl, HJ2.out.ranges, ?_⟩
        simp only [Act.put, List.setIfInBounds_toArray, List.set_cons_zero, List.set_cons_succ]
        refine held_one (i := 5) (by kernel_rfl) ?_
        refine wpOp_call (some 25) rfl rfl (by kernel_rfl) 11 Try.f11 Try.func11 (by kernel_rfl) (by kernel_rfl) _ _ rfl #[.pointer (some ⟨b, 0, none⟩), .string s] (by first | (simp [Act.eval]; done) | (simp [Act.eval, Act.put]; done)) (wstr_any b r2 _ s _ (J.wr HJ2.out) (by simp only [List.length_append, List.length_nil]; omega) (by omega)) ?_
        rintro en v3 ⟨rfl, r3, h3, hr3, t3⟩
        have BS := Lib.hid (Bt.post BS.out hr3 t3)
        have HJ3 := Lib.hid (J.next (w := w) (g := g) (x := x) (y := y) _ HJ2.out hr3 t3 h3)
        clear h3 hr3 t3
        refine ⟨_, rfl, HJ3.out.ranges, ?_⟩
        simp only [Act.put, List.setIfInBounds_toArray, List.set_cons_zero, List.set_cons_succ]
        refine held_one (i := 7) (by kernel_rfl) ?_
        refine wpOp_call (some 27) rfl rfl (by kernel_rfl) 12 Try.f12 Try.func12 (by kernel_rfl) (by kernel_rfl) _ _ rfl #[.pointer (some ⟨b, 0, none⟩), .agg (cl x).toArray] (by first | (simp [Act.eval]; done) | (simp [Act.eval, Act.put]; done)) (wsum_any b r3 _ x _ (J.wr HJ3.out) (by simp only [List.length_append, List.length_nil]; omega) HX.out) ?_
        rintro en v4 ⟨rfl, r4, h4, hr4, t4⟩
        have BS := Lib.hid (Bt.post BS.out hr4 t4)
        have HJ4 := Lib.hid (J.next (w := w) (g := g) (x := x) (y := y) _ HJ3.out hr4 t4 h4)
        clear h4 hr4 t4
        refine ⟨_, rfl, HJ4.out.ranges, ?_⟩
        simp only [Act.put, List.setIfInBounds_toArray, List.set_cons_zero, List.set_cons_succ]
        refine held_one (i := 11) (by kernel_rfl) ?_
        have HB := BS.out
        refine wpOp_call (some 31) rfl rfl (by kernel_rfl) 13 Try.f13 Try.func13 (by kernel_rfl) (by kernel_rfl) _ _ rfl #[.pointer (some ⟨b, 0, none⟩), .slice (some ⟨_, 0, none⟩) 2 2] (by first | (simp [Act.eval]; done) | (simp [Act.eval, Act.put]; done) | (simp [Act.eval]; rfl)) (wsums_any b r4 _ _ 2 [x, y] _ (J.wr HJ4.out) (by simp only [List.length_append, List.length_nil]; omega) (by simp) HB.1 (fun k hk => by injection hk with hk; injection hk with hk; subst hk; exact HB.2)) ?_
        rintro en v5 ⟨rfl, r5, h5, hr5, t5⟩
        have HJ5 := Lib.hid (J.next (w := w) (g := g) (x := x) (y := y) _ HJ4.out hr5 t5 h5)
        refine ⟨_, rfl, HJ5.out.ranges, ?_⟩
        refine wpAnyH_done (by kernel_rfl) ?_ _
        clear h5 hr5 t5 HB
        go_wp2_with fail
        go_meet
        exact ⟨r5, HJ5.out⟩
    · refine wpOp_two (x := x) (y := y) rfl HX.out HY.out (by kernel_rfl) (by kernel_rfl) ?_
      refine ⟨(J.lay HJ0.out.drawn _).ranges, ?_⟩
      simp only [Act.put, List.setIfInBounds_toArray, List.set_cons_zero, List.set_cons_succ]
      refine held_one (i := 1) (by kernel_rfl) ?_
      refine wpOp_call (some 21) rfl rfl (by kernel_rfl) 9 Try.f9 Try.func9 (by kernel_rfl) (by kernel_rfl) _ _ rfl #[.pointer (some ⟨b, 0, none⟩), .int .u64 a0] (by first | (simp [Act.eval]; done) | (simp [Act.eval, Act.put]; done)) (wnum_int b none [] a0 _ hu0 hu1' (J.wr (J.lay HJ0.out.drawn _)) (by simp)) ?_
      rintro en v1 ⟨rfl, r1, h1, hr1, t1⟩
      have BS := Lib.hid (Bt.post (Bt.fresh (x := x) (y := y) (b := b) (r := none) (W.drew) HX.out HY.out (Wr.lt (J.wr HJ0.out.drawn)) (fun j hj => Wr.row_lt (J.wr HJ0.out.drawn) hj)) hr1 t1)
      have HJ1 := Lib.hid (J.next (w := w) (g := g) (x := x) (y := y) _ (J.lay HJ0.out.drawn _) hr1 t1 h1)
      clear h1 hr1 t1
      refine ⟨_, rfl, HJ1.out.ranges, ?_⟩
      simp only [Act.put, List.setIfInBounds_toArray, List.set_cons_zero, List.set_cons_succ]
      refine held_one (i := 3) (by kernel_rfl) ?_
      refine wpOp_call (some 23) rfl rfl (by kernel_rfl) 10 Try.f10 Try.func10 (by kernel_rfl) (by kernel_rfl) _ _ rfl #[.pointer (some ⟨b, 0, none⟩), .int .i64 a1] (by first | (simp [Act.eval]; done) | (simp [Act.eval, Act.put]; done)) (wint_any b r1 _ a1 _ (J.wr HJ1.out) (by simp only [List.length_append, List.length_nil]; omega) hi0 hi1) ?_
      rintro en v2 ⟨rfl, r2, h2, hr2, t2⟩
      have BS := Lib.hid (Bt.post BS.out hr2 t2)
      have HJ2 := Lib.hid (J.next (w := w) (g := g) (x := x) (y := y) _ HJ1.out hr2 t2 h2)
      clear h2 hr2 t2
      refine ⟨_, rfl, HJ2.out.ranges, ?_⟩
      simp only [Act.put, List.setIfInBounds_toArray, List.set_cons_zero, List.set_cons_succ]
      refine held_one (i := 5) (by kernel_rfl) ?_
      refine wpOp_call (some 25) rfl rfl (by kernel_rfl) 11 Try.f11 Try.func11 (by kernel_rfl) (by kernel_rfl) _ _ rfl #[.pointer (some ⟨b, 0, none⟩), .string s] (by first | (simp [Act.eval]; done) | (simp [Act.eval, Act.put]; done)) (wstr_any b r2 _ s _ (J.wr HJ2.out) (by simp only [List.length_append, List.length_nil]; omega) (by omega)) ?_
      rintro en v3 ⟨rfl, r3, h3, hr3, t3⟩
      have BS := Lib.hid (Bt.post BS.out hr3 t3)
      have HJ3 := Lib.hid (J.next (w := w) (g := g) (x := x) (y := y) _ HJ2.out hr3 t3 h3)
      clear h3 hr3 t3
      refine ⟨_, rfl, HJ3.out.ranges, ?_⟩
      simp only [Act.put, List.setIfInBounds_toArray, List.set_cons_zero, List.set_cons_succ]
      refine held_one (i := 7) (by kernel_rfl) ?_
      refine wpOp_call (some 27) rfl rfl (by kernel_rfl) 12 Try.f12 Try.func12 (by kernel_rfl) (by kernel_rfl) _ _ rfl #[.pointer (some ⟨b, 0, none⟩), .agg (cl x).toArray] (by first | (simp [Act.eval]; done) | (simp [Act.eval, Act.put]; done)) (wsum_any b r3 _ x _ (J.wr HJ3.out) (by simp only [List.length_append, List.length_nil]; omega) HX.out) ?_
      rintro en v4 ⟨rfl, r4, h4, hr4, t4⟩
      have BS := Lib.hid (Bt.post BS.out hr4 t4)
      have HJ4 := Lib.hid (J.next (w := w) (g := g) (x := x) (y := y) _ HJ3.out hr4 t4 h4)
      clear h4 hr4 t4
      refine ⟨_, rfl, HJ4.out.ranges, ?_⟩
      simp only [Act.put, List.setIfInBounds_toArray, List.set_cons_zero, List.set_cons_succ]
      refine held_one (i := 11) (by kernel_rfl) ?_
      have HB := BS.out
      refine wpOp_call (some 31) rfl rfl (by kernel_rfl) 13 Try.f13 Try.func13 (by kernel_rfl) (by kernel_rfl) _ _ rfl #[.pointer (some ⟨b, 0, none⟩), .slice (some ⟨_, 0, none⟩) 2 2] (by first | (simp [Act.eval]; done) | (simp [Act.eval, Act.put]; done) | (simp [Act.eval]; rfl)) (wsums_any b r4 _ _ 2 [x, y] _ (J.wr HJ4.out) (by simp only [List.length_append, List.length_nil]; omega) (by simp) HB.1 (fun k hk => by injection hk with hk; injection hk with hk; subst hk; exact HB.2)) ?_
      rintro en v5 ⟨rfl, r5, h5, hr5, t5⟩
      have HJ5 := Lib.hid (J.next (w := w) (g := g) (x := x) (y := y) _ HJ4.out hr5 t5 h5)
      refine ⟨_, rfl, HJ5.out.ranges, ?_⟩
      refine wpAnyH_done (by kernel_rfl) ?_ _
      clear h5 hr5 t5 HB
      go_wp2_with fail
      go_meet
      exact ⟨r5, HJ5.out⟩
  case rest =>
    obtain ⟨r5, HJ⟩ := hcut
    have hwr := HJ.wr
    have hrx := HJ.rx
    have hry := HJ.ry
    have HTN := Lib.hid HJ.tn
    have HFB := Lib.hid HJ.fb
    have HWR := Lib.hid hwr
    have HRX := Lib.hid hrx
    have HRY := Lib.hid hry
    clear HJ hwr hrx hry
    have hxs : 32 = x.length := HX.out.symm
    have hys : 32 = y.length := HY.out.symm
    have HXS := Lib.hid hxs
    have HYS := Lib.hid hys
    clear hxs hys
    obtain ⟨E, hE⟩ : ∃ E : ByteArray, E = ⟨(([] : List UInt8) ++ enc a0.toNat ++ enc (zz a1) ++ enc s.size ++ s.data.toList ++ x ++ enc [x, y].length ++ [x, y].flatten).toArray⟩ := ⟨_, rfl⟩
    have HE := Lib.hid hE
    obtain ⟨A, hA⟩ : ∃ A : ByteArray, A = ⟨(enc a0.toNat).toArray⟩ := ⟨_, rfl⟩
    obtain ⟨B, hB⟩ : ∃ B : ByteArray, B = ⟨(enc (zz a1)).toArray⟩ := ⟨_, rfl⟩
    obtain ⟨C, hC⟩ : ∃ C : ByteArray, C = ⟨(enc s.size).toArray⟩ ++ s := ⟨_, rfl⟩
    obtain ⟨X, hX⟩ : ∃ X : ByteArray, X = ⟨x.toArray⟩ := ⟨_, rfl⟩
    obtain ⟨Y, hY⟩ : ∃ Y : ByteArray, Y = ⟨y.toArray⟩ := ⟨_, rfl⟩
    have zA : A.size ≤ 11 := by rw [hA]; exact he0
    have zB : B.size ≤ 11 := by rw [hB]; exact he1
    have zC : C.size ≤ 71 := by rw [hC, ByteArray.size_append]; have : (⟨(enc s.size).toArray⟩ : ByteArray).size = (enc s.size).length := rfl; omega
    have zX : X.size ≤ 32 := by rw [hX]; exact hx32
    have zY : Y.size ≤ 32 := by rw [hY]; exact Nat.le_of_eq HY.out
    have zT : (⟨#[2]⟩ : ByteArray).size ≤ 1 := Nat.le_refl _
    have hfin : E = A ++ B ++ C ++ X ++ ⟨#[2]⟩ ++ X ++ Y := by
      rw [hE, hA, hB, hC, hX, hY]
      apply ByteArray.ext
      have e2 : enc [x, y].length = [2] := by
        show Go.Proofs.Ytigojpjmncclaaa.hi (2 / 128) ++ [UInt8.ofNat (2 % 128)] = [2]
        rw [show 2 / 128 = 0 from rfl, hi_zero]
        rfl
      rw [e2]
      simp
    have HFIN := Lib.hid hfin
    have HA := Lib.hid hA
    have HB := Lib.hid hB
    have HC := Lib.hid hC
    have HX' := Lib.hid hX
    have HY' := Lib.hid hY
    clear hE hA hB hC hX hY hfin he0 he1 he2 hsd hx32 hu hi hi' kb Zx Zy
    have hcx : ∀ V, Turn (fun k => wc.heap.size ≤ k) wc V → (convert 27 9 (.slice (some ⟨g, 0, none⟩) 32 32)).run Try.prog V = .ok (.string X) V := fun V hV => by
      rw [HX'.out]
      have := conv_range (P := Try.prog) (w := V) (g := g) (xs := x) 27 9 5 32 Try.underlying27 Try.underlying5 Try.underlying9 (range_turn HRX.out hV (fun h => by have := HFB.out; have := Wr.lt HWR.out; omega))
      rw [HX.out] at this
      exact this
    have hcy : ∀ V, Turn (fun k => wc.heap.size ≤ k) wc V → (convert 27 9 (.slice (some ⟨g + 1, 0, none⟩) 32 32)).run Try.prog V = .ok (.string Y) V := fun V hV => by
      rw [HY'.out]
      have := conv_range (P := Try.prog) (w := V) (g := g + 1) (xs := y) 27 9 5 32 Try.underlying27 Try.underlying5 Try.underlying9 (range_turn HRY.out hV (fun h => by have := HFB.out; have := Wr.lt HWR.out; omega))
      rw [HY.out] at this
      exact this
    go_wp2_with fail
    refine wp_region_S (S := fun V => Turn (fun k => wc.heap.size ≤ k) wc V) (by kernel_rfl) (Turn.refl _ wc).drew ?_
    refine AnyS.call 0 (some 32) (.bool true) rfl rfl (by kernel_rfl) (by kernel_rfl) (by kernel_rfl) (fun _ _ _ h => h) (by kernel_rfl) 14 Try.f14 Try.func14 (by kernel_rfl) (by kernel_rfl) _ _ rfl #[] (by simp) (fun V hV => call_turn (awake_any V) hV) ?_
    simp only [Act.put, List.setIfInBounds_toArray, List.set_cons_zero, List.set_cons_succ]
    refine AnyS.pure 1 (some 33) rfl rfl (by kernel_rfl) (by kernel_rfl) (by kernel_rfl) (fun _ _ _ h => h) (by kernel_rfl) (fun _ _ => rfl) ?_
    refine AnyS.call 2 (some 34) (.string E) rfl rfl (by kernel_rfl) (by kernel_rfl) (by kernel_rfl) (fun _ _ _ h => h) (by kernel_rfl) 15 Try.f15 Try.func15 (by kernel_rfl) (by kernel_rfl) _ _ rfl #[.pointer (some ⟨b, 0, none⟩)] (by first | (simp [Act.eval]; done) | (simp [Act.eval, Act.put]; done)) (fun V hV => (text_any b r5 _ V (HWR.out.turn hV (fun h => absurd (Wr.lt HWR.out) (Nat.not_lt.2 h)) (fun k hk h => absurd (Wr.row_lt HWR.out hk) (Nat.not_lt.2 h)))).mono fun en w' hp => ⟨hp.1.trans (by rw [← HE.out]), hp.2 ▸ hV⟩) ?_
    simp only [Act.put, List.setIfInBounds_toArray, List.set_cons_zero, List.set_cons_succ]
    refine AnyS.pure 3 (some 35) rfl rfl (by kernel_rfl) (by kernel_rfl) (by kernel_rfl) (fun _ _ _ h => h) (by kernel_rfl) (fun _ _ => rfl) ?_
    refine AnyS.call 4 (some 36) (.string A) rfl rfl (by kernel_rfl) (by kernel_rfl) (by kernel_rfl) (fun _ _ _ h => h) (by kernel_rfl) 16 Try.f16 Try.func16 (by kernel_rfl) (by kernel_rfl) _ _ rfl #[.int .u64 a0] (by first | (simp [Act.eval]; done) | (simp [Act.eval, Act.put]; done)) (fun V hV => call_turn (by rw [HA.out]; exact fnum_int a0 V hu0 hu1') hV) ?_
    simp only [Act.put, List.setIfInBounds_toArray, List.set_cons_zero, List.set_cons_succ]
    refine AnyS.pure 5 (some 37) rfl rfl (by kernel_rfl) (by kernel_rfl) (by kernel_rfl) (fun _ _ _ h => h) (by kernel_rfl) (fun _ _ => rfl) ?_
    refine AnyS.call 6 (some 38) (.string B) rfl rfl (by kernel_rfl) (by kernel_rfl) (by kernel_rfl) (fun _ _ _ h => h) (by kernel_rfl) 17 Try.f17 Try.func17 (by kernel_rfl) (by kernel_rfl) _ _ rfl #[.int .i64 a1] (by first | (simp [Act.eval]; done) | (simp [Act.eval, Act.put]; done)) (fun V hV => call_turn (by rw [HB.out]; exact fint_any a1 V hi0 hi1) hV) ?_
    simp only [Act.put, List.setIfInBounds_toArray, List.set_cons_zero, List.set_cons_succ]
    refine AnyS.pure 7 (some 39) rfl rfl (by kernel_rfl) (by kernel_rfl) (by kernel_rfl) (fun _ _ _ h => h) (by kernel_rfl) (v := .string (A ++ B)) (fun _ _ => exec_add _ _ _ _ _ _ _ _ _ _ _ (A) (B) (by kernel_rfl) (by kernel_rfl) (by first | omega | (simp only [ByteArray.size_append]; omega))) ?_
    refine AnyS.pure 8 (some 40) rfl rfl (by kernel_rfl) (by kernel_rfl) (by kernel_rfl) (fun _ _ _ h => h) (by kernel_rfl) (fun _ _ => rfl) ?_
    refine AnyS.call 9 (some 41) (.string C) rfl rfl (by kernel_rfl) (by kernel_rfl) (by kernel_rfl) (fun _ _ _ h => h) (by kernel_rfl) 18 Try.f18 Try.func18 (by kernel_rfl) (by kernel_rfl) _ _ rfl #[.string s] (by first | (simp [Act.eval]; done) | (simp [Act.eval, Act.put]; done)) (fun V hV => call_turn (by rw [HC.out]; exact fstr_any s V (by omega)) hV) ?_
    simp only [Act.put, List.setIfInBounds_toArray, List.set_cons_zero, List.set_cons_succ]
    refine AnyS.pure 10 (some 42) rfl rfl (by kernel_rfl) (by kernel_rfl) (by kernel_rfl) (fun _ _ _ h => h) (by kernel_rfl) (v := .string (A ++ B ++ C)) (fun _ _ => exec_add _ _ _ _ _ _ _ _ _ _ _ (A ++ B) (C) (by kernel_rfl) (by kernel_rfl) (by first | omega | (simp only [ByteArray.size_append]; omega))) ?_
    refine AnyS.pure 11 (some 43) rfl rfl (by kernel_rfl) (by kernel_rfl) (by kernel_rfl) (fun _ _ _ h => h) (by kernel_rfl) (v := .slice (some ⟨g, 0, none⟩) 32 32) (by intro V _; go_simp) ?_
    refine AnyS.pure 12 (some 44) rfl rfl (by kernel_rfl) (by kernel_rfl) (by kernel_rfl) (fun _ _ _ h => h) (by kernel_rfl) (v := .string X) (fun V hV => exec_conv _ _ _ _ _ _ _ _ _ _ _ _ (by kernel_rfl) (hcx V hV)) ?_
    simp only [Act.put, List.setIfInBounds_toArray, List.set_cons_zero, List.set_cons_succ]
    refine AnyS.pure 13 (some 45) rfl rfl (by kernel_rfl) (by kernel_rfl) (by kernel_rfl) (fun _ _ _ h => h) (by kernel_rfl) (v := .string (A ++ B ++ C ++ X)) (fun _ _ => exec_add _ _ _ _ _ _ _ _ _ _ _ (A ++ B ++ C) (X) (by kernel_rfl) (by kernel_rfl) (by first | omega | (simp only [ByteArray.size_append]; omega))) ?_
    refine AnyS.pure 14 (some 46) rfl rfl (by kernel_rfl) (by kernel_rfl) (by kernel_rfl) (fun _ _ _ h => h) (by kernel_rfl) (v := .string (A ++ B ++ C ++ X ++ ⟨#[2]⟩)) (fun _ _ => exec_add _ _ _ _ _ _ _ _ _ _ _ (A ++ B ++ C ++ X) (⟨#[2]⟩) (by kernel_rfl) (by kernel_rfl) (by first | omega | (simp only [ByteArray.size_append]; omega))) ?_
    refine AnyS.pure 15 (some 47) rfl rfl (by kernel_rfl) (by kernel_rfl) (by kernel_rfl) (fun _ _ _ h => h) (by kernel_rfl) (v := .slice (some ⟨g, 0, none⟩) 32 32) (by intro V _; go_simp) ?_
    refine AnyS.pure 16 (some 48) rfl rfl (by kernel_rfl) (by kernel_rfl) (by kernel_rfl) (fun _ _ _ h => h) (by kernel_rfl) (v := .string X) (fun V hV => exec_conv _ _ _ _ _ _ _ _ _ _ _ _ (by kernel_rfl) (hcx V hV)) ?_
    simp only [Act.put, List.setIfInBounds_toArray, List.set_cons_zero, List.set_cons_succ]
    refine AnyS.pure 17 (some 49) rfl rfl (by kernel_rfl) (by kernel_rfl) (by kernel_rfl) (fun _ _ _ h => h) (by kernel_rfl) (v := .string (A ++ B ++ C ++ X ++ ⟨#[2]⟩ ++ X)) (fun _ _ => exec_add _ _ _ _ _ _ _ _ _ _ _ (A ++ B ++ C ++ X ++ ⟨#[2]⟩) (X) (by kernel_rfl) (by kernel_rfl) (by first | omega | (simp only [ByteArray.size_append]; omega))) ?_
    refine AnyS.pure 18 (some 50) rfl rfl (by kernel_rfl) (by kernel_rfl) (by kernel_rfl) (fun _ _ _ h => h) (by kernel_rfl) (v := .slice (some ⟨g + 1, 0, none⟩) 32 32) (by intro V _; go_simp) ?_
    refine AnyS.pure 19 (some 51) rfl rfl (by kernel_rfl) (by kernel_rfl) (by kernel_rfl) (fun _ _ _ h => h) (by kernel_rfl) (v := .string Y) (fun V hV => exec_conv _ _ _ _ _ _ _ _ _ _ _ _ (by kernel_rfl) (hcy V hV)) ?_
    simp only [Act.put, List.setIfInBounds_toArray, List.set_cons_zero, List.set_cons_succ]
    refine AnyS.pure 20 (some 52) rfl rfl (by kernel_rfl) (by kernel_rfl) (by kernel_rfl) (fun _ _ _ h => h) (by kernel_rfl) (v := .string (A ++ B ++ C ++ X ++ ⟨#[2]⟩ ++ X ++ Y)) (fun _ _ => exec_add _ _ _ _ _ _ _ _ _ _ _ (A ++ B ++ C ++ X ++ ⟨#[2]⟩ ++ X) (Y) (by kernel_rfl) (by kernel_rfl) (by first | omega | (simp only [ByteArray.size_append]; omega))) ?_
    simp only [Act.put, List.setIfInBounds_toArray, List.set_cons_zero, List.set_cons_succ]
    refine AnyS.pure 21 (some 53) rfl rfl (by kernel_rfl) (by kernel_rfl) (by kernel_rfl) (fun _ _ _ h => h) (by kernel_rfl) (v := .bool true) (fun _ _ => exec_eql _ _ (some 53) _ _ _ _ _ _ _ _ E (A ++ B ++ C ++ X ++ ⟨#[2]⟩ ++ X ++ Y) (by kernel_rfl) (by kernel_rfl) HFIN.out) ?_
    refine AnyS.pure 22 (some 54) rfl rfl (by kernel_rfl) (by kernel_rfl) (by kernel_rfl) (fun _ _ _ h => h) (by kernel_rfl) (v := .bool true) (fun _ _ => by kernel_rfl) ?_
    refine AnyS.pure 23 (some 10) rfl rfl (by kernel_rfl) (by kernel_rfl) (by kernel_rfl) (fun _ _ _ h => h) (by kernel_rfl) (v := .bool true) (fun _ _ => by kernel_rfl) ?_
    simp only [Act.put, List.setIfInBounds_toArray, List.set_cons_zero, List.set_cons_succ]
    refine AnyS.done (by kernel_rfl) (fun V hV => ?_) _
    have HV := Lib.hid hV
    clear hV
    go_wp2_with fail
    go_ret
    exact ⟨by first | rfl | kernel_rfl | (simp; done), (HTN.out.trans HV.out (fun j hj h => by have := HTN.out.size; omega)).below (Nat.le_refl _) (fun j hj h => by omega)⟩

theorem own : ownKnob Try.prog.godebug = none := by kernel_rfl
theorem laidOut : laidOutB Try.prog = true := by kernel_rfl

set_option maxRecDepth 100000 in
theorem lifted (os : Os) (started : os.Started) (H : Type) (enc : TypeId × Value → H) :
    ReturnsInHanded {} Try.checked os 3 .any (Rows.wirePutsSpec.pre6 enc Try.prog Try.f3 Rows.wirePutsRow.domain false) (Rows.wirePutsSpec.post enc Try.prog Try.f3 false true false false) := by
  refine returnsInHanded_of_change (C := Try.checked) own started (by kernel_rfl) Try.func3
    (ChangeSpec.witness6 (enc := enc) (C := Try.checked) false ⟨#[], #[.int .u64 0, .int .i64 0, .string ByteArray.empty, .string ByteArray.empty, .string ByteArray.empty], []⟩ 8 (by kernel_rfl) (by kernel_rfl) (by kernel_rfl) (by kernel_rfl)) ?_
  intro W base args ds gs before hval0 hW _ _
  have hval : ∀ (j : Nat) t v, Try.f3.params[j]? = some t → args[j]? = some v → Value.okWide Try.prog W .any base t v := hval0
  have hW' := hW
  obtain ⟨p, q, hA0, hV, rfl, _, _⟩ := hW
  have hA : DataW.TrodAll enc Try.prog W 0 (fun _ => true) true Try.f3.params.toList args.toList ds p := hA0
  rw [Try.params3] at hA hval
  obtain ⟨v0, vs0, d0, ds0, p0, q0, hargs, rfl, rfl, h0, r0⟩ := trodAll_cons hA
  obtain ⟨v1, vs1, d1, ds1, p1, q1, rfl, rfl, rfl, h1, r1⟩ := trodAll_cons r0
  obtain ⟨v2, vs2, d2, ds2, p2, q2, rfl, rfl, rfl, h2, r2⟩ := trodAll_cons r1
  obtain ⟨v3, vs3, d3, ds3, p3, q3, rfl, rfl, rfl, h3, r3⟩ := trodAll_cons r2
  obtain ⟨v4, vs4, d4, ds4, p4, q4, rfl, rfl, rfl, h4, r4⟩ := trodAll_cons r3
  obtain ⟨rfl, rfl, rfl⟩ := trodAll_nil r4
  obtain rfl : args = #[v0, v1, v2, v3, v4] := by cases args; simp_all
  obtain ⟨rfl, rfl⟩ := trodVars_none hV
  obtain ⟨a0, rfl, rfl, rfl, w0⟩ := open_int Try.underlying22 (hval 0 22 v0 rfl rfl) h0
  obtain ⟨a1, rfl, rfl, rfl, w1⟩ := open_int Try.underlying3 (hval 1 3 v1 rfl rfl) h1
  obtain ⟨a2, rfl, rfl, rfl, w2⟩ := open_string Try.underlying9 (hval 2 9 v2 rfl rfl) h2
  obtain ⟨a3, rfl, rfl, rfl, w3⟩ := open_string Try.underlying9 (hval 3 9 v3 rfl rfl) h3
  obtain ⟨a4, rfl, rfl, rfl, w4⟩ := open_string Try.underlying9 (hval 4 9 v4 rfl rfl) h4
  clear hA0 hval0
  refine (walk a0 a1 a2 a3 a4 W w0 w1 w2 w3 w4).mono fun e W' ⟨he, bel⟩ => ?_
  subst he
  exact ⟨_, rfl, _, _, _, [], _, [], hW', trodAll_mk1 (shut_bool Try.underlying4 _), (trodAll_cons_mk (shut_int Try.underlying22 w0) (trodAll_cons_mk (shut_int Try.underlying3 w1) (trodAll_cons_mk (shut_string Try.underlying9 w2) (trodAll_cons_mk (shut_string Try.underlying9 w3) (trodAll_cons_mk (shut_string Try.underlying9 w4) trodAll_mk0))))), rfl, bel.frame _, fun h => by cases h⟩

theorem over : Rows.wirePutsRow.holds Try.pinned (OpenSpec.ofChange Rows.wirePutsSpec) :=
  OpenClaim.holds_of_wide 3 Try.f3 rfl rfl rfl rfl rfl rfl rfl ⟨rfl, rfl, rfl, rfl, rfl⟩ rfl rfl rfl rfl rfl (by kernel_rfl) Try.func3 (by kernel_rfl)
    (of_decide_eq_true (by kernel_rfl)) (by unfold Func.isWrapper; first | (rw [if_pos (by decide +kernel)]; kernel_rfl) | (rw [if_neg (by decide +kernel)]; exact ⟨rfl, rfl⟩))
    (fun os started H enc _ => lifted os started H enc)

theorem proved : Rows.WirePutsSaid := over

end Go.Proofs.Ytigojpjmncclaaa.wirePuts
