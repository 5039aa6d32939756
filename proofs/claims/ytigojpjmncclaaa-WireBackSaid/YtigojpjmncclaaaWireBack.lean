/-
  For every two numbers, two texts and a count: what wire's writer has written of sums, a number, a text, a number that may be below 0 and a sum, wire's reader takes again, and nothing is left. No condition: all numbers, all texts.
-/
import Derived.Test.YtigojpjmncclaaaWireA
import Derived.Test.YtigojpjmncclaaaWireC
import Derived.Test.YtigojpjmncclaaaAny
import Derived.ProofKit
import Derived.OpenShut
import Derived.ShutString
import Derived.ChangeOld
import Derived.Deep.CutRange
namespace Go.Proofs.Ytigojpjmncclaaa.wireBack
open Go.ChangeShapes Go.WideShapes Go.ChangeAt Go.RowKit
open Go.ChangeMaps (open_string shut_string)

/-- The cells of a sum, as a list that stays closed. -/
def cl (x : List UInt8) : List Value := x.map byteV

theorem Try.guardSum : Try.prog.eqGuardType Try.prog.depth 25 = false := by kernel_rfl

theorem wf_i64 {y : Int} (h : (Lit.int .i64 y).wf = true) : -9223372036854775808 ≤ y ∧ y ≤ 9223372036854775807 := by
  have m0 : IntKind.i64.min = -9223372036854775808 := by decide
  have m1 : IntKind.i64.max = 9223372036854775807 := by decide
  have h' : (decide (IntKind.i64.min ≤ y) && decide (y ≤ IntKind.i64.max)) = true := h
  rw [m0, m1] at h'
  simpa using h'
theorem wf_u64 {y : Int} (h : (Lit.int .u64 y).wf = true) : 0 ≤ y ∧ y ≤ 18446744073709551615 := by
  have m0 : IntKind.u64.min = 0 := by decide
  have m1 : IntKind.u64.max = 18446744073709551615 := by decide
  have h' : (decide (IntKind.u64.min ≤ y) && decide (y ≤ IntKind.u64.max)) = true := h
  rw [m0, m1] at h'
  simpa using h'

theorem range_turn {F : Nat → Prop} {V V' : World} {g o : Nat} {cs : List Value} (h : V.rangeAt g o cs) (t : Turn F V V') (hF : ¬ F g) : V'.rangeAt g o cs := fun j u hj => by
  have := h j u hj
  rw [t.cell (p := ⟨g, o + j, none⟩) (World.block_lt_of_cell? V _ this) hF]
  exact this

theorem Wr.lt {w : World} {b : Nat} {r : Option Nat} {xs : List UInt8} (h : Wr w b r xs) : b < w.heap.size := by
  obtain ⟨v, h, _⟩ := h
  exact h.lt

theorem exec_add {P : Program} (ρ : Operand → Value) (w : World) (d : Option Tmp) (T T' ty : TypeId) (x y : Operand) (pos : String) (af : Array _) (gd : Option (Nat × Bool)) (A B : ByteArray) (hx : ρ x = .string A) (hy : ρ y = .string B) (hs : A.size + B.size ≤ 1000) :
    (execOp ρ ⟨d, .binOp .add T x y T', ty, pos, af, gd⟩).run P w = .ok (.value (.string (A ++ B))) w := by
  have h : A.size + B.size ≤ 9223372036854775807 := by omega
  unfold execOp
  simp only [hx, hy]
  go_simp

theorem exec_eql {P : Program} (ρ : Operand → Value) (w : World) (d : Option Tmp) (T T' ty : TypeId) (x y : Operand) (pos : String) (af : Array _) (gd : Option (Nat × Bool)) (A B : ByteArray) (hx : ρ x = .string A) (hy : ρ y = .string B) (hs : A = B) :
    (execOp ρ ⟨d, .binOp .eql T x y T', ty, pos, af, gd⟩).run P w = .ok (.value (.bool true)) w := by
  subst hs
  unfold execOp
  simp only [hx, hy]
  go_simp

theorem exec_pick {P : Program} (ρ : Operand → Value) (w : World) (d : Option Tmp) (ty : TypeId) (x y z : Operand) (pos : String) (af : Array _) (gd : Option (Nat × Bool)) {v : Value} (hx : ρ x = .bool true) (hy : ρ y = v) :
    (execOp ρ ⟨d, .pick x y z, ty, pos, af, gd⟩).run P w = .ok (.value v) w := by
  unfold execOp
  simp only [hx, hy]
  go_simp

theorem exec_assign {P : Program} (ρ : Operand → Value) (w : World) (d : Option Tmp) (ty : TypeId) (x : Operand) (pos : String) (af : Array _) (gd : Option (Nat × Bool)) {v : Value} (hx : ρ x = v) :
    (execOp ρ ⟨d, .assign x, ty, pos, af, gd⟩).run P w = .ok (.value v) w := by
  unfold execOp
  simp only [hx]
  rfl

theorem exec_conv {P : Program} (ρ : Operand → Value) (w : World) (d : Option Tmp) (src dst ty : TypeId) (x : Operand) (pos : String) (af : Array _) (gd : Option (Nat × Bool)) (v u : Value) (hx : ρ x = v) (h : (convert src dst v).run P w = .ok u w) :
    (execOp ρ ⟨d, .convert src dst x, ty, pos, af, gd⟩).run P w = .ok (.value u) w := by
  unfold execOp
  simp only [hx, Sem.run_bind, h]
  rfl

/-- Where the region of the writer's calls stands. -/
structure J (w : World) (g b : Nat) (x : List UInt8) (r : Option Nat) (X : List UInt8) (V : World) : Prop where
  wr : Wr V b r X
  rx : V.rangeAt g 0 (cl x)
  tn : Turn (fun k => w.heap.size ≤ k) w V
  fb : w.heap.size ≤ b ∧ g < b
  fr : ∀ k, r = some k → w.heap.size ≤ k ∧ g < k

section
variable {w V V' : World} {g b : Nat} {x X : List UInt8} {r r' : Option Nat}
theorem J.drawn (h : J w g b x r X V) : J w g b x r X V.drew := ⟨h.wr, by simpa using h.rx, h.tn.drew, h.fb, h.fr⟩
theorem J.next (X : List UInt8) {X' : List UInt8} (h : J w g b x r X V) (hr : r' = r ∨ ∃ k, r' = some k ∧ V.heap.size ≤ k) (t : Turn (fun k => k = b ∨ some k = r) V V') (hw : Wr V' b r' X') : J w g b x r' X' V' := by
  have hbV := Wr.lt h.wr
  have hfb := h.fb
  refine ⟨hw, range_turn h.rx t (fun hF => ?_), h.tn.trans t (fun j hj hF => ?_), h.fb, fun k hk => ?_⟩
  · rcases hF with hF | hF
    · omega
    · have := h.fr _ hF.symm; omega
  · rcases hF with hF | hF
    · omega
    · exact (h.fr _ hF.symm).1
  · rcases hr with rfl | ⟨j, rfl, hj⟩
    · exact h.fr k hk
    · injection hk with hk
      have := h.tn.size
      omega
end

theorem Own.at {w : World} {sp : Option Addr} {c : Nat} {L : List (List UInt8)} (h : Own w (.slice sp L.length c) L) : SumsAt w sp L ∧ ∀ g, sp = some ⟨g, 0, none⟩ → g < w.heap.size := by
  refine ⟨⟨h.1, ?_⟩, fun g hg => Own.row_lt h (by rw [hg]; rfl)⟩
  rcases h.2.2 with ⟨h1, h2⟩ | ⟨g, cap, cur, h1, h2, h3, h4⟩
  · exact .inl (List.eq_nil_of_length_eq_zero h2)
  · refine .inr ⟨g, by injection h1, fun j u hj => ?_⟩
    have hs : sp = some ⟨g, 0, none⟩ := by injection h1
    subst hs
    have := h.2.cells rfl j u hj
    rw [Addr.add_mid] at this
    exact this

theorem Own.empty (w : World) : Own (w.alloc (.cells #[] 25)) (.slice (some ⟨w.heap.size, 0, none⟩) 0 0) [] :=
  ⟨by simp, rfl, .inr ⟨w.heap.size, 0, #[], rfl, Nat.zero_le _, heap_alloc_new _ _, Nat.le_refl _, Nat.zero_le _, rfl, rfl⟩⟩

/-- What the count comes to. -/
theorem count (m : Int) : ∃ M : Nat, M ≤ 5 ∧ ((m < 0 ∧ M = 0) ∨ (0 ≤ m ∧ m ≤ 5 ∧ m = M) ∨ (5 < m ∧ M = 5)) := by
  by_cases h : m < 0
  · exact ⟨0, by omega, .inl ⟨h, rfl⟩⟩
  · by_cases h5 : m ≤ 5
    · exact ⟨m.toNat, by omega, .inr (.inl ⟨by omega, h5, by omega⟩)⟩
    · exact ⟨5, by omega, .inr (.inr ⟨by omega, rfl⟩)⟩

theorem rnum_back (b : Nat) (n : Int) (t : List UInt8) (w : World) (h0 : 0 ≤ n) (hn : n < 18446744073709551616) (hl : (enc n.toNat ++ t).length ≤ 1000000) (h : Rd w b ⟨(enc n.toNat ++ t).toArray⟩ 0) :
    Calls Try.prog 21 #[.pointer (some ⟨b, 0, none⟩)] w fun en w' => GotPost b t w (.int .u64 n) en w' := by
  obtain ⟨m, rfl⟩ := Int.eq_ofNat_of_zero_le h0
  exact rnum_got b m t w (by omega) hl h

theorem rend_back (b : Nat) (w : World) (h : Rd w b ⟨([] : List UInt8).toArray⟩ 0) :
    Calls Try.prog 25 #[.pointer (some ⟨b, 0, none⟩)] w fun en w' => en = .returned (.int .i64 0) ∧ w.grownBy w' (some b) :=
  (end_any b _ 0 w h).mono fun _ _ hp => ⟨hp.1, hp.2.2⟩

theorem exec_same {P : Program} (ρ : Operand → Value) (w : World) (d : Option Tmp) (T T' ty : TypeId) (x y : Operand) (pos : String) (af : Array _) (gd : Option (Nat × Bool)) (k : IntKind) (a : Int) (hx : ρ x = .int k a) (hy : ρ y = .int k a) :
    (execOp ρ ⟨d, .binOp .eql T x y T', ty, pos, af, gd⟩).run P w = .ok (.value (.bool true)) w := by
  unfold execOp
  simp only [hx, hy]
  go_simp

theorem exec_same_sum {P : Program} (ρ : Operand → Value) (w : World) (d : Option Tmp) (T T' ty : TypeId) (x y : Operand) (pos : String) (af : Array _) (gd : Option (Nat × Bool)) (A : Array Value) (hx : ρ x = .agg A) (hy : ρ y = .agg A)
    (ke : ∀ V, (Op.equalIn 10000 T (.agg A) (.agg A)).run P V = .ok true V) (hm : P.eqGuardType P.depth T = false) :
    (execOp ρ ⟨d, .binOp .eql T x y T', ty, pos, af, gd⟩).run P w = .ok (.value (.bool true)) w := by
  unfold execOp
  simp only [hx, hy]
  go_simp

set_option maxRecDepth 100000 in
set_option maxHeartbeats 2000000 in
theorem walk (a0 : Int) (a1 : Int) (a2 a3 : ByteArray) (a4 : Int) (w : World) (h0 : (Lit.int .u64 a0).wf = true) (h1 : (Lit.int .i64 a1).wf = true) (h2 : a2.size ≤ maxLen) (_h3 : a3.size ≤ maxLen) (_h4 : (Lit.int .i64 a4).wf = true) :
    Calls Try.prog 4 #[.int .u64 a0, .int .i64 a1, .string a2, .string a3, .int .i64 a4] w fun e w' => e = .returned (.bool true) ∧ Below w.heap.size w w' := by
  obtain ⟨M, hM5, hM⟩ := count a4
  go_enter Try.func4, Try.ntmps4
  go_wp2_with fail
  refine (cut_any a2 60 w (by omega) h2).mono ?_
  rintro en w1 ⟨rfl, rfl⟩
  have hs60 : (a2.extract 0 60).size ≤ 60 := by rw [ByteArray.size_extract]; omega
  generalize a2.extract 0 60 = s at *
  go_wp2_with fail
  refine (lsum_any a3 _).mono ?_
  rintro en w2 ⟨rfl, b2⟩
  have hx := sum32_length a3
  generalize sum32 a3 = x at *
  have B2 := Lib.hid b2
  have HX := Lib.hid hx
  clear b2 hx
  go_wp2_with ((with_reducible refine at_store (.tmp 11) ?_); refine wpList_store_arr (o := ⟨none, _, _, _, _, _⟩) rfl 25 (.tmp 11) (.tmp 19) rfl w2.heap.size x zeros rfl rfl 25 (made_zeros_at w2 _ rfl) 32 Try.infoSum zeros_length HX.out ?_)
  intro w3 z3 t3
  have T3 := Lib.hid (((Turn.of_below (F := fun k => w.heap.size ≤ k) B2.out (fun j _ h => h)).alloc _).trans t3 (fun j hj h => by have := B2.out.size; omega))
  have Z3 := Lib.hid z3
  have hb2 := B2.out.size
  clear z3 t3 B2
  generalize w2.heap.size = g at *
  go_upto_region 3 with fail
  go_cut [4] from 20 to 22 (fun s4 V => s4 = .int .i64 (M : Int) ∧ w3 = V)
  case first =>
    rcases hM with ⟨hm, rfl⟩ | ⟨hm, hm2, rfl⟩ | ⟨hm, rfl⟩
    all_goals
      go_wp2_with fail
      go_meet
      exact ⟨by first | rfl | simp, rfl⟩
  case rest =>
    obtain ⟨rfl, rfl⟩ := hcut
    go_wp2_with fail
    have hgl := Z3.out.lt
    go_loopw [12, 25] (fun l i wr => ∃ (k : Nat) (v : Value), k ≤ M ∧ i = .int .i64 k ∧ v = l ∧ Hid (Own wr v (List.replicate k x)) ∧ Hid (∀ j, v.ownBlock = some j → w.heap.size ≤ j ∧ g < j) ∧ Hid (Has wr g 25 (cellsOf x)) ∧ Hid (Turn (fun k => w.heap.size ≤ k) w wr)) (fun _ i _ => M - (intOf i).toNat)
    case atStart => exact ⟨0, _, Nat.zero_le _, rfl, rfl, Own.empty w3, (fun j hj => by have e : w3.heap.size = j := Option.some.inj hj; have := T3.out.size; exact ⟨by omega, by omega⟩), Z3.out.alloc _, T3.out.alloc _⟩
    case round =>
      clear T3 Z3
      obtain ⟨k, v, hk, rfl, rfl, HO, HN, HZ, HT⟩ := hrel
      by_cases hlt : k < M
      · have hsz := HT.out.size
        have hgw := HZ.out.lt
        go_wp2_with (first
          | ((with_reducible refine at_op 28 ?_); refine wpList_load_arr (o := ⟨some 28, _, _, _, _, _⟩) rfl 25 (.tmp 11) rfl g rfl 25 x 5 32 HZ.out Try.underlying25 Try.infoSum HX.out ?_)
          | ((with_reducible refine at_op 29 ?_); refine wpList_build_one (o := ⟨some 29, _, _, _, _, _⟩) rfl (.tmp 28) rfl x HX.out rfl ?_)
          | ((with_reducible refine at_op 30 ?_); refine wpList_append_one (o := ⟨some 30, _, _, _, _, _⟩) rfl (.tmp 27) (.tmp 29) rfl v (List.replicate k x) x wr.heap.size rfl rfl (HO.out.turn (alloc_only _ _) (fun _ _ h => h)) HX.out (Has.made _ _ _) (by simp; omega) ?_))
        intro v' w4 o4 g4 p4
        have hN' : ∀ j, v'.ownBlock = some j → w.heap.size ≤ j ∧ g < j := fun j hj => by
          rcases p4 with e | e
          · exact HN.out j (by rw [← e]; exact hj)
          · rw [e] at hj; injection hj with hj; omega
        have z4 : Has w4 g 25 (cellsOf x) := (HZ.out.alloc _).grown g4 (fun e => by have := HN.out g e.symm; omega)
        have t4 : Turn (fun k => w.heap.size ≤ k) w w4 := (HT.out.alloc _).grown g4 (fun j hj _ => (HN.out j hj).1)
        have O4 : Hid (Own w4 v' (List.replicate (k + 1) x)) := by
          have e : List.replicate (k + 1) x = List.replicate k x ++ [x] := List.replicate_succ'
          rw [e]
          exact o4
        have N4 := Lib.hid hN'
        have Z4 := Lib.hid z4
        have T4 := Lib.hid t4
        obtain ⟨a', c', hv'⟩ := o4.slice
        clear o4 g4 p4 hN' z4 t4 HO HN HZ HT
        go_wp2_with fail
        go_roundw
        case rel => exact ⟨k + 1, v', by omega, by go_num, rfl, O4, N4, Z4, T4⟩
        case measure => simp [intOf]; omega
      · obtain rfl : k = M := by omega
        obtain ⟨sp, c, hv⟩ := HO.out.slice
        rw [List.length_replicate] at hv
        subst hv
        go_wp2_with fail
        go_name_world W hW
        generalize hb : wr.heap.size = b at *
        obtain ⟨L, hLd⟩ : ∃ L, L = List.replicate k x := ⟨_, rfl⟩
        have hLk : k = L.length := by rw [hLd, List.length_replicate]
        have hL32 : ∀ y ∈ L, y.length = 32 := by intro y hy; rw [hLd] at hy; rw [(List.mem_replicate.1 hy).2]; exact HX.out
        have hown : Own wr (.slice sp L.length c) L := by
          rw [← hLk, hLd]
          exact HO.out
        obtain ⟨hsa, hsl⟩ := Own.at hown
        have HJ0 : Hid (J w g b x none [] W) := by
          show J w g b x none [] W
          rw [← hW]
          have hwb : w.heap.size ≤ b := by rw [← hb]; exact HT.out.size
          have hgb : g < b := by rw [← hb]; exact HZ.out.lt
          refine ⟨?_, World.rangeAt_alloc (Has.range (t := 25) (by exact HZ.out)) _, HT.out.alloc _, ⟨hwb, hgb⟩, fun k hk => by cases hk⟩
          have := wr_new wr
          rw [hb] at this
          exact this
        have HSA : Hid (SumsAt W sp L) := by
          show SumsAt W sp L
          rw [← hW]
          exact hsa.turn (alloc_only _ _) (fun _ _ h => h)
        have HSL : Hid (∀ g', sp = some ⟨g', 0, none⟩ → g' ≠ b ∧ some g' ≠ none ∧ g' < W.drew.heap.size) := fun g' hg' => by
          have h1 := hsl g' hg'
          rw [hb] at h1
          refine ⟨by omega, by simp, ?_⟩
          have h2 := Wr.lt (J.wr HJ0.out)
          show g' < W.heap.size
          omega
        obtain ⟨hi0, hi1⟩ := wf_i64 h1
        obtain ⟨hu0, hu1⟩ := wf_u64 h0
        have hu1' : a0 < 18446744073709551616 := by omega
        have he0 := enc_len a0.toNat (by omega)
        have he1 := enc_len (zz a1) (by unfold zz; split <;> omega)
        have he2 := enc_len s.size (by omega)
        have he3 := enc_len L.length (by omega)
        have hfl : L.flatten.length ≤ 160 := by rw [flatten_len L hL32]; omega
        have hsd : s.data.toList.length ≤ 60 := by simpa using hs60
        have hx32 : x.length ≤ 32 := Nat.le_of_eq HX.out
        have hL5 : L.length ≤ 5 := by omega
        have hu := Try.underlying25
        have hi : (Try.prog.info? 25).map (·.size) = some (cl x).length := by rw [Try.infoSum, cl, List.length_map, HX.out]
        have HL32 := Lib.hid hL32
        obtain rfl := hLk
        clear hW hb HO HN HZ HT hu1 hL32 hown hsa hsl hLd hlt
        refine wp_region_held (S := fun V => V.rangeAt g 0 (cl x)) (by kernel_rfl) ?_
        have HS0 : (fun V : World => V.rangeAt g 0 (cl x)) W.drew := HJ0.out.drawn.rx
        refine held_take 0 (some 32) rfl rfl (by kernel_rfl) (by kernel_rfl) (by kernel_rfl) (fun _ _ _ h => h) (.inl ⟨by kernel_rfl, fun _ _ => rfl⟩) HS0 ?_
        refine held_take 2 (some 34) rfl rfl (by kernel_rfl) (by kernel_rfl) (by kernel_rfl) (fun _ _ _ h => h) (.inl ⟨by kernel_rfl, fun _ _ => rfl⟩) HS0 ?_
        refine held_take 4 (some 36) rfl rfl (by kernel_rfl) (by kernel_rfl) (by kernel_rfl) (fun _ _ _ h => h) (.inl ⟨by kernel_rfl, fun _ _ => rfl⟩) HS0 ?_
        refine held_take 6 (some 38) rfl rfl (by kernel_rfl) (by kernel_rfl) (by kernel_rfl) (fun _ _ _ h => h) (.inl ⟨by kernel_rfl, fun _ _ => rfl⟩) HS0 ?_
        refine held_take 8 (some 40) rfl rfl (by kernel_rfl) (by kernel_rfl) (by kernel_rfl) (fun _ _ _ h => h) (yieldsIf_load_mid (by kernel_rfl) 25 (.tmp 11) rfl g 0 rfl (cl x) _ (fun _ h => h) hu rfl hi) HS0 ?_
        simp only [Act.put, List.setIfInBounds_toArray, List.set_cons_zero, List.set_cons_succ]
        refine held_one (i := 1) (by kernel_rfl) ?_
        refine wpOp_call (some 33) rfl rfl (by kernel_rfl) 13 Try.f13 Try.func13 (by kernel_rfl) (by kernel_rfl) _ _ rfl #[.pointer (some ⟨b, 0, none⟩), .slice sp L.length c] (by first | (simp [Act.eval]; done) | (simp [Act.eval, Act.put]; done)) (wsums_any b none [] sp c L _ (J.wr HJ0.out.drawn) (by simp) (by omega) HSA.out HSL.out) ?_
        rintro en v1 ⟨rfl, r1, h1, hr1, t1⟩
        have HJ1 := Lib.hid (J.next (w := w) (g := g) (x := x) _ HJ0.out.drawn hr1 t1 h1)
        clear h1 hr1 t1
        refine ⟨_, rfl, HJ1.out.rx, ?_⟩
        simp only [Act.put, List.setIfInBounds_toArray, List.set_cons_zero, List.set_cons_succ]
        refine held_one (i := 3) (by kernel_rfl) ?_
        refine wpOp_call (some 35) rfl rfl (by kernel_rfl) 9 Try.f9 Try.func9 (by kernel_rfl) (by kernel_rfl) _ _ rfl #[.pointer (some ⟨b, 0, none⟩), .int .u64 a0] (by first | (simp [Act.eval]; done) | (simp [Act.eval, Act.put]; done)) (wnum_int b r1 _ a0 _ hu0 hu1' (J.wr HJ1.out) (by simp only [List.length_append, List.length_nil]; omega)) ?_
        rintro en v2 ⟨rfl, r2, h2, hr2, t2⟩
        have HJ2 := Lib.hid (J.next (w := w) (g := g) (x := x) _ HJ1.out hr2 t2 h2)
        clear h2 hr2 t2
        refine ⟨_, rfl, HJ2.out.rx, ?_⟩
        simp only [Act.put, List.setIfInBounds_toArray, List.set_cons_zero, List.set_cons_succ]
        refine held_one (i := 5) (by kernel_rfl) ?_
        refine wpOp_call (some 37) rfl rfl (by kernel_rfl) 11 Try.f11 Try.func11 (by kernel_rfl) (by kernel_rfl) _ _ rfl #[.pointer (some ⟨b, 0, none⟩), .string s] (by first | (simp [Act.eval]; done) | (simp [Act.eval, Act.put]; done)) (wstr_any b r2 _ s _ (J.wr HJ2.out) (by simp only [List.length_append, List.length_nil]; omega) (by omega)) ?_
        rintro en v3 ⟨rfl, r3, h3, hr3, t3⟩
        have HJ3 := Lib.hid (J.next (w := w) (g := g) (x := x) _ HJ2.out hr3 t3 h3)
        clear h3 hr3 t3
        refine ⟨_, rfl, HJ3.out.rx, ?_⟩
        simp only [Act.put, List.setIfInBounds_toArray, List.set_cons_zero, List.set_cons_succ]
        refine held_one (i := 7) (by kernel_rfl) ?_
        refine wpOp_call (some 39) rfl rfl (by kernel_rfl) 10 Try.f10 Try.func10 (by kernel_rfl) (by kernel_rfl) _ _ rfl #[.pointer (some ⟨b, 0, none⟩), .int .i64 a1] (by first | (simp [Act.eval]; done) | (simp [Act.eval, Act.put]; done)) (wint_any b r3 _ a1 _ (J.wr HJ3.out) (by simp only [List.length_append, List.length_nil]; omega) hi0 hi1) ?_
        rintro en v4 ⟨rfl, r4, h4, hr4, t4⟩
        have HJ4 := Lib.hid (J.next (w := w) (g := g) (x := x) _ HJ3.out hr4 t4 h4)
        clear h4 hr4 t4
        refine ⟨_, rfl, HJ4.out.rx, ?_⟩
        simp only [Act.put, List.setIfInBounds_toArray, List.set_cons_zero, List.set_cons_succ]
        refine held_one (i := 9) (by kernel_rfl) ?_
        refine wpOp_call (some 41) rfl rfl (by kernel_rfl) 12 Try.f12 Try.func12 (by kernel_rfl) (by kernel_rfl) _ _ rfl #[.pointer (some ⟨b, 0, none⟩), .agg (cl x).toArray] (by first | (simp [Act.eval]; done) | (simp [Act.eval, Act.put]; done)) (wsum_any b r4 _ x _ (J.wr HJ4.out) (by simp only [List.length_append, List.length_nil]; omega) HX.out) ?_
        rintro en v5 ⟨rfl, r5, h5, hr5, t5⟩
        have HJ5 := Lib.hid (J.next (w := w) (g := g) (x := x) _ HJ4.out hr5 t5 h5)
        clear h5 hr5 t5
        refine ⟨_, rfl, HJ5.out.rx, ?_⟩
        simp only [Act.put, List.setIfInBounds_toArray, List.set_cons_zero, List.set_cons_succ]
        refine wpAnyH_done (by kernel_rfl) ?_ _
        clear HSA HSL HS0
        go_wp2_with fail
        refine (text_any b r5 _ v5 (J.wr HJ5.out)).mono ?_
        rintro en v6 ⟨rfl, rfl⟩
        obtain ⟨T, hT⟩ : ∃ T, T = enc a0.toNat ++ (enc s.size ++ (s.data.toList ++ (enc (zz a1) ++ (x ++ [])))) := ⟨_, rfl⟩
        have hE : ([] : List UInt8) ++ enc L.length ++ L.flatten ++ enc a0.toNat ++ enc s.size ++ s.data.toList ++ enc (zz a1) ++ x = enc L.length ++ (L.flatten ++ T) := by rw [hT]; simp
        rw [hE]
        have hTl : T.length ≤ 1000 := by rw [hT]; simp only [List.length_append, List.length_nil]; omega
        have HTd := Lib.hid hT
        clear hT hE
        obtain ⟨E, hE⟩ : ∃ E : ByteArray, E = ⟨(enc L.length ++ (L.flatten ++ T)).toArray⟩ := ⟨_, rfl⟩
        rw [← hE]
        have HE := Lib.hid hE
        clear hE
        go_wp2_with fail
        refine (read_any _ _).mono ?_
        rintro en v6 ⟨rfl, hr6, hb6⟩
        have R6 := Lib.hid hr6
        have T6 := Lib.hid (HJ5.out.tn.trans (Turn.of_below (F := fun k => w.heap.size ≤ k) hb6 (fun j hj h => by have := HJ5.out.tn.size; omega)) (fun j _ h => h))
        have X6 := Lib.hid (range_turn HJ5.out.rx (Turn.of_below (F := fun k => v5.heap.size ≤ k) hb6 (fun j hj h => h)) (by have := HJ5.out.fb; have := Wr.lt (J.wr HJ5.out); omega))
        have hwr := HJ5.out.tn.size
        have hgr : g < v5.heap.size := by have := HJ5.out.fb; have := Wr.lt (J.wr HJ5.out); omega
        clear hr6 hb6
        generalize v5.heap.size = rb at *
        go_wp2_with fail
        refine (awake_any v6).mono ?_
        rintro en v7 ⟨rfl, hb7⟩
        have R7 : Hid (Rd v7 rb ⟨(enc L.length ++ (L.flatten ++ T)).toArray⟩ 0) := by
          have := R6.out.below hb7 R6.out.lt
          rw [HE.out] at this
          exact this
        have T7 := Lib.hid (T6.out.trans (Turn.of_below (F := fun k => w.heap.size ≤ k) hb7 (fun j hj h => by have := T6.out.size; omega)) (fun j _ h => h))
        have X7 := Lib.hid (range_turn X6.out (Turn.of_below (F := fun k => v6.heap.size ≤ k) hb7 (fun j hj h => h)) (by have := R6.out.lt; omega))
        clear hb7 R6 T6 X6
        go_wp2_with fail
        refine (rsums_got rb L T 5 v7 HL32.out (by omega) (by omega) hTl R7.out).mono ?_
        rintro en v8 ⟨v, rfl, o8, n8, hr8, g8⟩
        obtain ⟨a', c', rfl⟩ := o8.slice
        have R8 : Hid (Rd v8 rb ⟨(enc a0.toNat ++ (enc s.size ++ (s.data.toList ++ (enc (zz a1) ++ (x ++ []))))).toArray⟩ 0) := by rw [← HTd.out]; exact hr8
        have T8 : Hid (Turn (fun k => w.heap.size ≤ k) w v8) := T7.out.grown g8 (fun j hj _ => by injection hj with hj; omega)
        have X8 : Hid (v8.rangeAt g 0 (cl x)) := range_turn X7.out (Turn.of_grown (F := fun j => j = rb) g8 rfl) (by omega)
        clear o8 n8 hr8 g8 R7 T7 X7
        go_wp2_with fail
        have ke : ∀ V, (Op.equalIn 10000 25 (.agg (cl x).toArray) (.agg (cl x).toArray)).run Try.prog V = .ok true V := fun V => by
          have := run_equalIn_bytes (P := Try.prog) 9998 32 Try.underlying25 Try.underlying5 Try.infoB1 x x HX.out HX.out V
          rw [beq_self_eq_true] at this
          exact this
        have hm := Try.guardSum
        have hrg : rb ≠ g := by omega
        refine wp_region_held (S := fun V => V.rangeAt g 0 (cl x)) (by kernel_rfl) ?_
        have HS0 : (fun V : World => V.rangeAt g 0 (cl x)) v8.drew := by simpa using X8.out
        refine held_take 0 (some 48) rfl rfl (by kernel_rfl) (by kernel_rfl) (by kernel_rfl) (fun _ _ _ h => h) (.inl ⟨by kernel_rfl, fun _ _ => rfl⟩) HS0 ?_
        refine held_take 1 (some 49) (v := .int .i64 (L.length : Int)) rfl rfl (by kernel_rfl) (by kernel_rfl) (by kernel_rfl) (fun _ _ _ h => h) (.inl ⟨by kernel_rfl, fun _ _ => by go_simp⟩) HS0 ?_
        refine held_take 2 (some 50) rfl rfl (by kernel_rfl) (by kernel_rfl) (by kernel_rfl) (fun _ _ _ h => h) (.inl ⟨by kernel_rfl, fun _ _ => rfl⟩) HS0 ?_
        simp only [Act.put, List.setIfInBounds_toArray, List.set_cons_zero, List.set_cons_succ]
        refine held_take 3 (some 51) rfl rfl (by kernel_rfl) (by kernel_rfl) (by kernel_rfl) (fun _ _ _ h => h) (.inl ⟨by kernel_rfl, fun _ _ => exec_same _ _ _ _ _ _ _ _ _ _ _ .i64 (L.length : Int) (by kernel_rfl) (by kernel_rfl)⟩) HS0 ?_
        refine held_take 4 (some 52) rfl rfl (by kernel_rfl) (by kernel_rfl) (by kernel_rfl) (fun _ _ _ h => h) (.inl ⟨by kernel_rfl, fun _ _ => rfl⟩) HS0 ?_
        simp only [Act.put, List.setIfInBounds_toArray, List.set_cons_zero, List.set_cons_succ]
        refine held_take 5 (some 53) rfl rfl (by kernel_rfl) (by kernel_rfl) (by kernel_rfl) (fun _ _ _ h => h) (.inl ⟨by kernel_rfl, fun _ _ => rfl⟩) HS0 ?_
        refine held_take 7 (some 55) rfl rfl (by kernel_rfl) (by kernel_rfl) (by kernel_rfl) (fun _ _ _ h => h) (.inl ⟨by kernel_rfl, fun _ _ => rfl⟩) HS0 ?_
        simp only [Act.put, List.setIfInBounds_toArray, List.set_cons_zero, List.set_cons_succ]
        refine held_one (i := 6) (by kernel_rfl) ?_
        refine wpOp_call (some 54) rfl rfl (by kernel_rfl) 21 Try.f21 Try.func21 (by kernel_rfl) (by kernel_rfl) _ _ rfl #[.pointer (some ⟨rb, 0, none⟩)] (by first | (simp [Act.eval]; done) | (simp [Act.eval, Act.put]; done)) (rnum_back rb a0 _ _ hu0 hu1' (by simp only [List.length_append, List.length_nil]; omega) (R8.out.drew)) ?_
        rintro en v9 ⟨rfl, h9, g9⟩
        have R9 := Lib.hid h9
        have T9 : Hid (Turn (fun k => w.heap.size ≤ k) w v9) := Turn.grown (T8.out.drew) g9 (fun j hj _ => by injection hj with hj; omega)
        have X9 : Hid (World.rangeAt v9 g 0 (cl x)) := range_turn (HS0) (Turn.of_grown (F := fun j => j = rb) g9 rfl) (by omega)
        have HS9 : (fun V : World => V.rangeAt g 0 (cl x)) v9 := X9.out
        clear h9 g9
        refine ⟨_, rfl, HS9, ?_⟩
        simp only [Act.put, List.setIfInBounds_toArray, List.set_cons_zero, List.set_cons_succ]
        refine held_take 8 (some 56) rfl rfl (by kernel_rfl) (by kernel_rfl) (by kernel_rfl) (fun _ _ _ h => h) (.inl ⟨by kernel_rfl, fun _ _ => exec_same _ _ _ _ _ _ _ _ _ _ _ .u64 a0 (by kernel_rfl) (by kernel_rfl)⟩) HS9 ?_
        refine held_take 9 (some 57) (v := .bool true) rfl rfl (by kernel_rfl) (by kernel_rfl) (by kernel_rfl) (fun _ _ _ h => h) (.inl ⟨by kernel_rfl, fun _ _ => by kernel_rfl⟩) HS9 ?_
        refine held_take 10 (some 58) rfl rfl (by kernel_rfl) (by kernel_rfl) (by kernel_rfl) (fun _ _ _ h => h) (.inl ⟨by kernel_rfl, fun _ _ => rfl⟩) HS9 ?_
        simp only [Act.put, List.setIfInBounds_toArray, List.set_cons_zero, List.set_cons_succ]
        refine held_take 11 (some 59) rfl rfl (by kernel_rfl) (by kernel_rfl) (by kernel_rfl) (fun _ _ _ h => h) (.inl ⟨by kernel_rfl, fun _ _ => rfl⟩) HS9 ?_
        refine held_take 13 (some 61) rfl rfl (by kernel_rfl) (by kernel_rfl) (by kernel_rfl) (fun _ _ _ h => h) (.inl ⟨by kernel_rfl, fun _ _ => rfl⟩) HS9 ?_
        simp only [Act.put, List.setIfInBounds_toArray, List.set_cons_zero, List.set_cons_succ]
        refine held_one (i := 12) (by kernel_rfl) ?_
        refine wpOp_call (some 60) rfl rfl (by kernel_rfl) 22 Try.f22 Try.func22 (by kernel_rfl) (by kernel_rfl) _ _ rfl #[.pointer (some ⟨rb, 0, none⟩), .int .i64 60] (by first | (simp [Act.eval]; done) | (simp [Act.eval, Act.put]; done)) (rstr_got rb s _ 60 _ (by omega) (by omega) (by simp only [List.length_append, List.length_nil]; omega) R9.out) ?_
        rintro en v10 ⟨rfl, h10, g10⟩
        have R10 := Lib.hid h10
        have T10 : Hid (Turn (fun k => w.heap.size ≤ k) w v10) := Turn.grown (T9.out) g10 (fun j hj _ => by injection hj with hj; omega)
        have X10 : Hid (World.rangeAt v10 g 0 (cl x)) := range_turn (X9.out) (Turn.of_grown (F := fun j => j = rb) g10 rfl) (by omega)
        have HS10 : (fun V : World => V.rangeAt g 0 (cl x)) v10 := X10.out
        clear h10 g10
        refine ⟨_, rfl, HS10, ?_⟩
        simp only [Act.put, List.setIfInBounds_toArray, List.set_cons_zero, List.set_cons_succ]
        refine held_take 14 (some 62) rfl rfl (by kernel_rfl) (by kernel_rfl) (by kernel_rfl) (fun _ _ _ h => h) (.inl ⟨by kernel_rfl, fun _ _ => exec_eql _ _ _ _ _ _ _ _ _ _ _ s s (by kernel_rfl) (by kernel_rfl) rfl⟩) HS10 ?_
        refine held_take 15 (some 63) (v := .bool true) rfl rfl (by kernel_rfl) (by kernel_rfl) (by kernel_rfl) (fun _ _ _ h => h) (.inl ⟨by kernel_rfl, fun _ _ => by kernel_rfl⟩) HS10 ?_
        refine held_take 16 (some 64) rfl rfl (by kernel_rfl) (by kernel_rfl) (by kernel_rfl) (fun _ _ _ h => h) (.inl ⟨by kernel_rfl, fun _ _ => rfl⟩) HS10 ?_
        simp only [Act.put, List.setIfInBounds_toArray, List.set_cons_zero, List.set_cons_succ]
        refine held_take 17 (some 65) rfl rfl (by kernel_rfl) (by kernel_rfl) (by kernel_rfl) (fun _ _ _ h => h) (.inl ⟨by kernel_rfl, fun _ _ => rfl⟩) HS10 ?_
        refine held_take 19 (some 67) rfl rfl (by kernel_rfl) (by kernel_rfl) (by kernel_rfl) (fun _ _ _ h => h) (.inl ⟨by kernel_rfl, fun _ _ => rfl⟩) HS10 ?_
        simp only [Act.put, List.setIfInBounds_toArray, List.set_cons_zero, List.set_cons_succ]
        refine held_one (i := 18) (by kernel_rfl) ?_
        refine wpOp_call (some 66) rfl rfl (by kernel_rfl) 23 Try.f23 Try.func23 (by kernel_rfl) (by kernel_rfl) _ _ rfl #[.pointer (some ⟨rb, 0, none⟩)] (by first | (simp [Act.eval]; done) | (simp [Act.eval, Act.put]; done)) (rint_got rb a1 _ _ hi0 hi1 (by simp only [List.length_append, List.length_nil]; omega) R10.out) ?_
        rintro en v11 ⟨rfl, h11, g11⟩
        have R11 := Lib.hid h11
        have T11 : Hid (Turn (fun k => w.heap.size ≤ k) w v11) := Turn.grown (T10.out) g11 (fun j hj _ => by injection hj with hj; omega)
        have X11 : Hid (World.rangeAt v11 g 0 (cl x)) := range_turn (X10.out) (Turn.of_grown (F := fun j => j = rb) g11 rfl) (by omega)
        have HS11 : (fun V : World => V.rangeAt g 0 (cl x)) v11 := X11.out
        clear h11 g11
        refine ⟨_, rfl, HS11, ?_⟩
        simp only [Act.put, List.setIfInBounds_toArray, List.set_cons_zero, List.set_cons_succ]
        refine held_take 20 (some 68) rfl rfl (by kernel_rfl) (by kernel_rfl) (by kernel_rfl) (fun _ _ _ h => h) (.inl ⟨by kernel_rfl, fun _ _ => exec_same _ _ _ _ _ _ _ _ _ _ _ .i64 a1 (by kernel_rfl) (by kernel_rfl)⟩) HS11 ?_
        refine held_take 21 (some 69) (v := .bool true) rfl rfl (by kernel_rfl) (by kernel_rfl) (by kernel_rfl) (fun _ _ _ h => h) (.inl ⟨by kernel_rfl, fun _ _ => by kernel_rfl⟩) HS11 ?_
        refine held_take 22 (some 70) rfl rfl (by kernel_rfl) (by kernel_rfl) (by kernel_rfl) (fun _ _ _ h => h) (.inl ⟨by kernel_rfl, fun _ _ => rfl⟩) HS11 ?_
        simp only [Act.put, List.setIfInBounds_toArray, List.set_cons_zero, List.set_cons_succ]
        refine held_take 23 (some 71) rfl rfl (by kernel_rfl) (by kernel_rfl) (by kernel_rfl) (fun _ _ _ h => h) (.inl ⟨by kernel_rfl, fun _ _ => rfl⟩) HS11 ?_
        refine held_take 25 (some 73) rfl rfl (by kernel_rfl) (by kernel_rfl) (by kernel_rfl) (fun _ _ _ h => h) (yieldsIf_load_mid (by kernel_rfl) 25 (.tmp 11) rfl g 0 rfl (cl x) _ (fun _ h => h) hu rfl hi) HS11 ?_
        simp only [Act.put, List.setIfInBounds_toArray, List.set_cons_zero, List.set_cons_succ]
        refine held_one (i := 24) (by kernel_rfl) ?_
        refine wpOp_call (some 72) rfl rfl (by kernel_rfl) 24 Try.f24 Try.func24 (by kernel_rfl) (by kernel_rfl) _ _ rfl #[.pointer (some ⟨rb, 0, none⟩)] (by first | (simp [Act.eval]; done) | (simp [Act.eval, Act.put]; done)) (rsum_got rb x _ _ HX.out (by simp only [List.length_append, List.length_nil]; omega) R11.out) ?_
        rintro en v12 ⟨rfl, h12, g12⟩
        have R12 := Lib.hid h12
        have T12 : Hid (Turn (fun k => w.heap.size ≤ k) w v12) := Turn.grown (T11.out) g12 (fun j hj _ => by injection hj with hj; omega)
        have X12 : Hid (World.rangeAt v12 g 0 (cl x)) := range_turn (X11.out) (Turn.of_grown (F := fun j => j = rb) g12 rfl) (by omega)
        have HS12 : (fun V : World => V.rangeAt g 0 (cl x)) v12 := X12.out
        clear h12 g12
        refine ⟨_, rfl, HS12, ?_⟩
        simp only [Act.put, List.setIfInBounds_toArray, List.set_cons_zero, List.set_cons_succ]
        refine held_take 26 (some 74) rfl rfl (by kernel_rfl) (by kernel_rfl) (by kernel_rfl) (fun _ _ _ h => h) (.inl ⟨by kernel_rfl, fun _ _ => exec_same_sum _ _ _ _ _ _ _ _ _ _ _ (cl x).toArray (by kernel_rfl) (by kernel_rfl) ke hm⟩) HS12 ?_
        refine held_take 27 (some 75) (v := .bool true) rfl rfl (by kernel_rfl) (by kernel_rfl) (by kernel_rfl) (fun _ _ _ h => h) (.inl ⟨by kernel_rfl, fun _ _ => by kernel_rfl⟩) HS12 ?_
        refine held_take 28 (some 76) rfl rfl (by kernel_rfl) (by kernel_rfl) (by kernel_rfl) (fun _ _ _ h => h) (.inl ⟨by kernel_rfl, fun _ _ => rfl⟩) HS12 ?_
        simp only [Act.put, List.setIfInBounds_toArray, List.set_cons_zero, List.set_cons_succ]
        refine held_take 29 (some 77) rfl rfl (by kernel_rfl) (by kernel_rfl) (by kernel_rfl) (fun _ _ _ h => h) (.inl ⟨by kernel_rfl, fun _ _ => rfl⟩) HS12 ?_
        simp only [Act.put, List.setIfInBounds_toArray, List.set_cons_zero, List.set_cons_succ]
        refine held_one (i := 30) (by kernel_rfl) ?_
        refine wpOp_call (some 78) rfl rfl (by kernel_rfl) 25 Try.f25 Try.func25 (by kernel_rfl) (by kernel_rfl) _ _ rfl #[.pointer (some ⟨rb, 0, none⟩)] (by first | (simp [Act.eval]; done) | (simp [Act.eval, Act.put]; done)) (rend_back rb _ R12.out) ?_
        rintro en v13 ⟨rfl, g13⟩
        have T13 : Hid (Turn (fun k => w.heap.size ≤ k) w v13) := Turn.grown (T12.out) g13 (fun j hj _ => by injection hj with hj; omega)
        have X13 : Hid (World.rangeAt v13 g 0 (cl x)) := range_turn (X12.out) (Turn.of_grown (F := fun j => j = rb) g13 rfl) (by omega)
        have HS13 : (fun V : World => V.rangeAt g 0 (cl x)) v13 := X13.out
        clear g13
        refine ⟨_, rfl, HS13, ?_⟩
        simp only [Act.put, List.setIfInBounds_toArray, List.set_cons_zero, List.set_cons_succ]
        refine held_take 31 (some 79) rfl rfl (by kernel_rfl) (by kernel_rfl) (by kernel_rfl) (fun _ _ _ h => h) (.inl ⟨by kernel_rfl, fun _ _ => exec_same _ _ _ _ _ _ _ _ _ _ _ .i64 0 (by kernel_rfl) (by kernel_rfl)⟩) HS13 ?_
        refine held_take 32 (some 80) (v := .bool true) rfl rfl (by kernel_rfl) (by kernel_rfl) (by kernel_rfl) (fun _ _ _ h => h) (.inl ⟨by kernel_rfl, fun _ _ => by kernel_rfl⟩) HS13 ?_
        refine held_take 33 (some 10) (v := .bool true) rfl rfl (by kernel_rfl) (by kernel_rfl) (by kernel_rfl) (fun _ _ _ h => h) (.inl ⟨by kernel_rfl, fun _ _ => by kernel_rfl⟩) HS13 ?_
        simp only [Act.put, List.setIfInBounds_toArray, List.set_cons_zero, List.set_cons_succ]
        refine wpAnyH_done (by kernel_rfl) ?_ _
        clear ke hm hu hi
        go_wp2_with fail
        go_ret
        exact ⟨by first | rfl | kernel_rfl | (simp; done), T13.out.below (Nat.le_refl _) (fun j hj h => by omega)⟩

theorem own : ownKnob Try.prog.godebug = none := by kernel_rfl
theorem laidOut : laidOutB Try.prog = true := by kernel_rfl

set_option maxRecDepth 100000 in
theorem lifted (os : Os) (started : os.Started) (H : Type) (enc : TypeId × Value → H) :
    ReturnsInHanded {} Try.checked os 4 .any (Rows.wireBackSpec.pre6 enc Try.prog Try.f4 Rows.wireBackRow.domain false) (Rows.wireBackSpec.post enc Try.prog Try.f4 false true false false) := by
  refine returnsInHanded_of_change (C := Try.checked) own started (by kernel_rfl) Try.func4
    (ChangeSpec.witness6 (enc := enc) (C := Try.checked) false ⟨#[], #[.int .u64 0, .int .i64 0, .string ByteArray.empty, .string ByteArray.empty, .int .i64 0], []⟩ 8 (by kernel_rfl) (by kernel_rfl) (by kernel_rfl) (by kernel_rfl)) ?_
  intro W base args ds gs before hval0 hW _ _
  have hval : ∀ (j : Nat) t v, Try.f4.params[j]? = some t → args[j]? = some v → Value.okWide Try.prog W .any base t v := hval0
  have hW' := hW
  obtain ⟨p, q, hA0, hV, rfl, _, _⟩ := hW
  have hA : DataW.TrodAll enc Try.prog W 0 (fun _ => true) true Try.f4.params.toList args.toList ds p := hA0
  rw [Try.params4] at hA hval
  obtain ⟨v0, vs0, d0, ds0, p0, q0, hargs, rfl, rfl, h0, r0⟩ := trodAll_cons hA
  obtain ⟨v1, vs1, d1, ds1, p1, q1, rfl, rfl, rfl, h1, r1⟩ := trodAll_cons r0
  obtain ⟨v2, vs2, d2, ds2, p2, q2, rfl, rfl, rfl, h2, r2⟩ := trodAll_cons r1
  obtain ⟨v3, vs3, d3, ds3, p3, q3, rfl, rfl, rfl, h3, r3⟩ := trodAll_cons r2
  obtain ⟨v4, vs4, d4, ds4, p4, q4, rfl, rfl, rfl, h4, r4⟩ := trodAll_cons r3
  obtain ⟨rfl, rfl, rfl⟩ := trodAll_nil r4
  obtain rfl : args = #[v0, v1, v2, v3, v4] := by cases args; simp_all
  obtain ⟨rfl, rfl⟩ := trodVars_none hV
  obtain ⟨a0, rfl, rfl, rfl, w0⟩ := open_int Try.underlying22 (hval 0 22 v0 rfl rfl) h0
  obtain ⟨a1, rfl, rfl, rfl, w1⟩ := open_int Try.underlying3 (hval 1 3 v1 rfl rfl) h1
  obtain ⟨a2, rfl, rfl, rfl, w2⟩ := open_string Try.underlying9 (hval 2 9 v2 rfl rfl) h2
  obtain ⟨a3, rfl, rfl, rfl, w3⟩ := open_string Try.underlying9 (hval 3 9 v3 rfl rfl) h3
  obtain ⟨a4, rfl, rfl, rfl, w4⟩ := open_int Try.underlying3 (hval 4 3 v4 rfl rfl) h4
  clear hA0 hval0
  refine (walk a0 a1 a2 a3 a4 W w0 w1 w2 w3 w4).mono fun e W' ⟨he, bel⟩ => ?_
  subst he
  exact ⟨_, rfl, _, _, _, [], _, [], hW', trodAll_mk1 (shut_bool Try.underlying4 _), (trodAll_cons_mk (shut_int Try.underlying22 w0) (trodAll_cons_mk (shut_int Try.underlying3 w1) (trodAll_cons_mk (shut_string Try.underlying9 w2) (trodAll_cons_mk (shut_string Try.underlying9 w3) (trodAll_cons_mk (shut_int Try.underlying3 w4) trodAll_mk0))))), rfl, bel.frame _, fun h => by cases h⟩

theorem over : Rows.wireBackRow.holds Try.pinned (OpenSpec.ofChange Rows.wireBackSpec) :=
  OpenClaim.holds_of_wide 4 Try.f4 rfl rfl rfl rfl rfl rfl rfl ⟨rfl, rfl, rfl, rfl, rfl⟩ rfl rfl rfl rfl rfl (by kernel_rfl) Try.func4 (by kernel_rfl)
    (of_decide_eq_true (by kernel_rfl)) (by unfold Func.isWrapper; first | (rw [if_pos (by decide +kernel)]; kernel_rfl) | (rw [if_neg (by decide +kernel)]; exact ⟨rfl, rfl⟩))
    (fun os started H enc _ => lifted os started H enc)

theorem proved : Rows.WireBackSaid := over

end Go.Proofs.Ytigojpjmncclaaa.wireBack
