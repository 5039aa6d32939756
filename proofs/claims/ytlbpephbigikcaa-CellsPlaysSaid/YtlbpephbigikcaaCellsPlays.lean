/- CellsPlays: for every number of cells and every list of accesses the law answers true, and its arguments read afterwards as they did. Conditions: none. -/
import Derived.Test.YtlbpephbigikcaaCelT
import Derived.Test.YtlbpephbigikcaaHold
import Derived.Test.YtlbpephbigikcaaAny
namespace Go.Proofs.Ytlbpephbigikcaa.cellsPlays
open Go Go.ChangeShapes Go.WideShapes Go.ChangeAt Go.RowKit Go.Maps Go.Proofs.Ytlbpephbigikcaa.cel

/-- What lasts: the memory beside the list. -/
structure St (w : World) (d c m n : Nat) (T : Nat → ByteArray) (N : Nat → Int) (D : DataW Unit) (a : Int) (v : Value) (l : List Dn) (V : World) : Prop where
  own : Own w d c m n T N D a V
  same : Same n T N D a l
  lst : Lst w.heap.size V v l

section
variable {w V V' : World} {d c m n : Nat} {T : Nat → ByteArray} {N : Nat → Int} {D : DataW Unit} {a : Int} {v : Value} {l : List Dn}

theorem St.below (h : St w d c m n T N D a v l V) (hb : Below V.heap.size V V') : St w d c m n T N D a v l V' :=
  ⟨h.own.below hb, h.same, h.lst.below hb⟩
theorem St.drew (h : St w d c m n T N D a v l V) : St w d c m n T N D a v l V.drew := ⟨h.own.drew, h.same, h.lst.drew⟩

theorem Lst.far (h : Lst w.heap.size V v l) (hm : Mem V d c m n T N D a) (t : Turn (fun b => b = d ∨ b = c ∨ b = m) V V') : Lst w.heap.size V' v l := by
  refine ⟨h.seg.turn t fun b hb => ?_, h.thick, h.new⟩
  rintro (rfl | rfl | rfl)
  · exact h.seg.ne hm.box (by decide) hb
  · exact h.seg.ne hm.row (by decide) hb
  · rcases h.seg.2 with ⟨e, _⟩ | ⟨g, off, cap, cur, e, hg, _⟩
    · rw [e] at hb; cases hb
    · rw [e] at hb
      have hb' := own_of hb
      subst hb'
      have hg' : Has V g 54 cur := hg
      exact hm.map.ne hg' rfl
end

theorem few_max {z : Int} : ∃ (m0 : Int) (q : Nat), (if z < 0 then 0 else z) = m0 ∧ (if (8 : Int) < m0 then 8 else m0) = (q : Int) ∧ q ≤ 8 := by
  refine ⟨_, (if (8 : Int) < (if z < 0 then 0 else z) then 8 else (if z < 0 then 0 else z)).toNat, rfl, ?_, ?_⟩ <;> (split <;> split <;> omega)

def cut8 (s : ByteArray) : ByteArray := s.extract 0 8

set_option maxRecDepth 100000 in
set_option maxHeartbeats 8000000 in
theorem plays_any (z : Int) (a1 : Option Addr) (len1 cap1 : Nat) (T1 : Nat → Ac) (w : World) (h1 : ArgA w a1 len1 T1) :
    Calls Try.prog 3 #[.int .i64 z, .slice a1 len1 cap1] w fun en w' => en = .returned (.bool true) ∧ Below w.heap.size w w' := by
  have hl1 : len1 ≤ 9223372036854775807 := by have := h1.1; unfold maxLen at this; omega
  have A1 := Lib.hid h1
  obtain ⟨m0, q, hm0, hq, hq8⟩ := few_max (z := z)
  clear h1
  go_enter Try.func3, Try.ntmps3
  go_wp2_with fail
  refine (awake_any w).mono ?_
  rintro en w1 ⟨rfl, b1⟩
  have T1' : Hid (Turn (fun j => w.heap.size ≤ j) w w1) := Turn.of_below b1 (fun _ _ e => e)
  clear b1
  go_wp2_with fail
  refine (new_calls (H := Unit) q (by omega) w1).mono ?_
  intro en w2 hP
  obtain ⟨d, c, m, rfl, hO, _⟩ := own_new T1'.out hP
  have HO := Lib.hid hO
  clear hP hO T1' hm0 hq
  have hq8' : (q : Int) ≤ 8 := by omega
  have hq0' : (0 : Int) ≤ (q : Int) := by omega
  go_wp2_with fail
  go_name_world W hW
  have S0 : Hid (St w d c m q noT noN (.map []) 0 (.slice (some ⟨w2.heap.size, 0, none⟩) 0 0) [] W) := by
    rw [← hW]
    have := HO.out.turn.size
    exact Lib.hid ⟨HO.out.below (new_box _ _), same_none q, ⟨Seg.empty (heap_alloc_new w2 _), ⟨_, _, _, rfl⟩, fun b hb => by have := own_of hb; omega⟩⟩
  clear hW HO
  generalize w2.heap.size = y at *
  go_loopw [6, 7] (fun v i wr => ∃ (k : Nat) (T : Nat → ByteArray) (N : Nat → Int) (D : DataW Unit) (a : Int) (l : List Dn), i = .int .i64 k ∧ k ≤ 60 ∧ k ≤ len1 ∧ Hid (l.length ≤ k ∧ St w d c m q T N D a v l wr)) (fun _ i _ => 60 - (intOf i).toNat)
  case atStart => exact ⟨0, _, _, _, _, [], rfl, by omega, Nat.zero_le _, Lib.hid ⟨Nat.le_refl _, S0.out⟩⟩
  case round =>
    obtain ⟨k, T, N, D, a, l, rfl, hk60, hkl, HS⟩ := hrel
    clear S0
    by_cases hk : k < len1 ∧ k < 60
    · obtain ⟨hk1, hk2⟩ := hk
      have hk1' : (k : Int) < (len1 : Int) := by omega
      have hk2' : (k : Int) < 60 := by omega
      have hk0' : (0 : Int) ≤ (k : Int) := by omega
      obtain ⟨b, o, rfl, hb, hf, c0, c1, c2, c3, c4⟩ := act_at A1.out HS.out.2.own.turn hk1
      have HB := Lib.hid hb
      have HF := Lib.hid hf
      obtain ⟨x, hx⟩ : ∃ x, x = T1 k := ⟨_, rfl⟩
      rw [← hx] at HF c0 c1 c2 c3 c4
      have HX := Lib.hid hx
      clear hx hb hf
      obtain ⟨p, kk, zz, oo, nn⟩ := x
      dsimp only at HF c0 c1 c2 c3 c4
      go_wp2_with fail
      go_name_world W hW
      obtain ⟨X, hX⟩ : ∃ X, X = wr.heap.size := ⟨_, rfl⟩
      rw [← hX]
      have H1 : Hid (Has W X 28 #[.int .i64 kk, .int .i64 zz, .string oo, .string nn]) := by rw [← hW, hX]; exact Lib.hid (Has.made _ _ _)
      have B1 : Hid (Below wr.heap.size wr W) := by rw [← hW]; exact Lib.hid (new_box _ _)
      have HXX := Lib.hid hX
      have HCoo : ∀ V, Hid (Calls Try.prog 6 #[.string oo, .int .i64 8] V fun en w' => en = .returned (.string (cut8 oo)) ∧ V = w') := fun V => Lib.hid ((cut_calls oo 8 V (by decide) HF.out.2.2.1).mono fun _ _ h => ⟨h.1, h.2.symm⟩)
      have HCnn : ∀ V, Hid (Calls Try.prog 6 #[.string nn, .int .i64 8] V fun en w' => en = .returned (.string (cut8 nn)) ∧ V = w') := fun V => Lib.hid ((cut_calls nn 8 V (by decide) HF.out.2.2.2).mono fun _ _ h => ⟨h.1, h.2.symm⟩)
      clear hW hX c0 c1 c2 c3 c4
      refine wp_region_quiet (fun V => Has V X 28 #[.int .i64 kk, .int .i64 zz, .string oo, .string nn]) [7, 9] (by kernel_rfl) ?_
      have hC : (fun V => Has V X 28 #[.int .i64 kk, .int .i64 zz, .string oo, .string nn]) W.drew := H1.out.drew
      refine quiet_take 0 (some 40) (v := .pointer (some ⟨X, 2, none⟩)) rfl rfl (by kernel_rfl) (by kernel_rfl) (by kernel_rfl) (fun _ _ _ h => h) (by kernel_rfl) (by kernel_rfl) (by kernel_rfl) (fun V hV => by go_simp) hC ?_
      refine quiet_take 1 (some 41) (v := .string oo) rfl rfl (by kernel_rfl) (by kernel_rfl) (by kernel_rfl) (fun _ _ _ h => h) (by kernel_rfl) (by kernel_rfl) (by kernel_rfl) (fun V hV => by have c1 := Has.cell hV 2; go_simp) hC ?_
      refine quiet_call 2 (some 42) (.string (cut8 oo)) rfl rfl (by kernel_rfl) (by kernel_rfl) (by kernel_rfl) (fun _ _ _ h => h) (by kernel_rfl) (by kernel_rfl) (by kernel_rfl) 6 Try.f6 Try.func6 (by kernel_rfl) (by kernel_rfl) _ _ rfl #[.string oo, .int .i64 8] (by first | (simp [Act.eval]; done) | (simp [Act.eval, Act.put]; done)) (fun V _ => (HCoo V).out) hC ?_
      refine quiet_take 3 (some 43) (v := .pointer (some ⟨X, 3, none⟩)) rfl rfl (by kernel_rfl) (by kernel_rfl) (by kernel_rfl) (fun _ _ _ h => h) (by kernel_rfl) (by kernel_rfl) (by kernel_rfl) (fun V hV => by go_simp) hC ?_
      refine quiet_take 4 (some 44) (v := .string nn) rfl rfl (by kernel_rfl) (by kernel_rfl) (by kernel_rfl) (fun _ _ _ h => h) (by kernel_rfl) (by kernel_rfl) (by kernel_rfl) (fun V hV => by have c1 := Has.cell hV 3; go_simp) hC ?_
      refine quiet_call 5 (some 45) (.string (cut8 nn)) rfl rfl (by kernel_rfl) (by kernel_rfl) (by kernel_rfl) (fun _ _ _ h => h) (by kernel_rfl) (by kernel_rfl) (by kernel_rfl) 6 Try.f6 Try.func6 (by kernel_rfl) (by kernel_rfl) _ _ rfl #[.string nn, .int .i64 8] (by first | (simp [Act.eval]; done) | (simp [Act.eval, Act.put]; done)) (fun V _ => (HCnn V).out) hC ?_
      simp only [Act.put, List.setIfInBounds_toArray, List.set_cons_zero, List.set_cons_succ]
      refine quiet_one (i := 6) (by kernel_rfl) ?_
      refine wpOp_value (some 46) (v := .pointer (some ⟨X, 2, none⟩)) (w' := W.drew) rfl rfl (by kernel_rfl) (by go_simp) ⟨fun _ => hC, ?_⟩
      have f1 : W.frozen? ⟨X, 2, none⟩ = false := H1.out.free 2
      have f2 : W.frozen? ⟨X, 3, none⟩ = false := H1.out.free 3
      have k1 : W.cell? ⟨X, 2, none⟩ = some (.string oo) := H1.out.cell 2
      have k2 : W.cell? ⟨X, 3, none⟩ = some (.string nn) := H1.out.cell 3
      refine quiet_one (i := 7) (by kernel_rfl) ?_
      refine wpOp_skip (w' := (W.setCell ⟨X, 2, none⟩ (.string (cut8 oo))).drew) rfl rfl (by kernel_rfl) (by go_simp) ⟨(fun h => by cases h), ?_⟩
      refine quiet_one (i := 8) (by kernel_rfl) ?_
      refine wpOp_value (some 47) (v := .pointer (some ⟨X, 3, none⟩)) (w' := (W.setCell ⟨X, 2, none⟩ (.string (cut8 oo))).drew) rfl rfl (by kernel_rfl) (by go_simp) ⟨(fun h => by cases h), ?_⟩
      refine quiet_one (i := 9) (by kernel_rfl) ?_
      refine wpOp_skip (w' := ((W.setCell ⟨X, 2, none⟩ (.string (cut8 oo))).setCell ⟨X, 3, none⟩ (.string (cut8 nn))).drew) rfl rfl (by kernel_rfl) (by go_simp) ⟨(fun h => by cases h), ?_⟩
      refine quiet_done (by kernel_rfl) ?_ _
      obtain ⟨W1, hW1⟩ : ∃ W1, W1 = ((W.setCell ⟨X, 2, none⟩ (.string (cut8 oo))).setCell ⟨X, 3, none⟩ (.string (cut8 nn))).drew := ⟨_, rfl⟩
      have E1 : Hid (Has W1 X 28 #[.int .i64 kk, .int .i64 zz, .string (cut8 oo), .string (cut8 nn)]) := by
        rw [hW1]
        have := ((H1.out.put 2 (.string (cut8 oo))).put 3 (.string (cut8 nn))).drew
        exact Lib.hid (by simpa using this)
      have B2 : Hid (Below wr.heap.size wr W1) := by
        rw [hW1]
        exact Lib.hid (((B1.out.setCell (by show wr.heap.size ≤ X; have := HXX.out; omega) _).setCell (by show wr.heap.size ≤ X; have := HXX.out; omega) _).drew)
      have HS1 : Hid (l.length ≤ k ∧ St w d c m q T N D a u6 l W1) := Lib.hid ⟨HS.out.1, HS.out.2.below B2.out⟩
      have HXw : Hid (w.heap.size ≤ X ∧ X ≠ d ∧ X ≠ c ∧ X ≠ m) := by
        have hm := HS.out.2.own.mem
        have := hm.box.lt
        have := hm.row.lt
        have := hm.map.lt
        have := HS.out.2.own.turn.size
        have := HXX.out
        exact Lib.hid ⟨by omega, by omega, by omega, by omega⟩
      rw [← hW1]
      clear hW1 H1 B1 HCoo HCnn hC f1 f2 k1 k2 HS B2 HXX
      generalize cut8 oo = os at *
      generalize cut8 nn = ns at *
      obtain ⟨s, bb, e, l', ho⟩ := out_any l q p kk zz os ns
      have HO := Lib.hid ho
      obtain ⟨b2, o2, e2, -, -, c0, -, -, -, -⟩ := act_at A1.out HS1.out.2.own.turn hk1
      rw [← HX.out] at c0
      simp only [Option.some.injEq, Addr.mk.injEq, and_true] at e2
      obtain ⟨rfl, rfl⟩ := e2
      have x0 : W1.cell? ⟨X, 0, none⟩ = some (.int .i64 kk) := E1.out.cell 0
      have x1 : W1.cell? ⟨X, 1, none⟩ = some (.int .i64 zz) := E1.out.cell 1
      have x2 : W1.cell? ⟨X, 2, none⟩ = some (.string os) := E1.out.cell 2
      have x3 : W1.cell? ⟨X, 3, none⟩ = some (.string ns) := E1.out.cell 3
      clear ho
      go_wp2_with fail
      have hh := Lib.hid (HS1.out.2.drew.own.any HS1.out.2.same (by have := HS1.out.1; omega) p kk zz os ns HF.out.1 HO.out)
      go_region_law (refine step_call rfl 7 Try.f7 Try.func7 (by kernel_rfl) (by kernel_rfl) _ _ rfl #[.pointer (some ⟨d, 0, none⟩), .int .i64 p, .agg #[.int .i64 kk, .int .i64 zz, .string os, .string ns]] (by first | (simp [Act.eval]; done) | (simp [Act.eval, Act.put]; done)) (by exact hh.out) ?_
                     rintro en w4 ⟨T4, N4, D4, a4, rfl, h4, h5, h6⟩
                     have S4 : Hid (St w d c m q T4 N4 D4 a4 u6 l' w4 → True) := Lib.hid (fun _ => trivial)
                     have O4 := Lib.hid (And.intro h4 (And.intro h5 (Lst.far HS1.out.2.drew.lst HS1.out.2.drew.own.mem h6)))
                     have E4 := Lib.hid (E1.out.drew.turn h6 (fun e => by have := HXw.out; omega))
                     clear h4 h5 h6 hh x0 x1 x2 x3 c0 S4
                     refine ⟨_, rfl, ?_⟩)
      all_goals
        have x0 : w4.cell? ⟨X, 0, none⟩ = some (.int .i64 kk) := E4.out.cell 0
        have x1 : w4.cell? ⟨X, 1, none⟩ = some (.int .i64 zz) := E4.out.cell 1
        have x2 : w4.cell? ⟨X, 2, none⟩ = some (.string os) := E4.out.cell 2
        have x3 : w4.cell? ⟨X, 3, none⟩ = some (.string ns) := E4.out.cell 3
        obtain ⟨b2, o2, e2, -, -, c0, -, -, -, -⟩ := act_at A1.out O4.out.1.turn hk1
        rw [← HX.out] at c0
        simp only [Option.some.injEq, Addr.mk.injEq, and_true] at e2
        obtain ⟨rfl, rfl⟩ := e2
        go_wp2_with fail
        have hh := Lib.hid (Lst.any (n := q) O4.out.2.2.drew (Nat.le_trans O4.out.1.turn.size (Nat.le_refl _)) (by have := HS1.out.1; omega) p kk zz os ns HO.out)
        go_region_law (refine step_call rfl 8 Try.f8 Try.func8 (by kernel_rfl) (by kernel_rfl) _ _ rfl #[u6, .int .i64 q, .int .i64 p, .agg #[.int .i64 kk, .int .i64 zz, .string os, .string ns]] (by first | (simp [Act.eval]; done) | (simp [Act.eval, Act.put]; done)) (by exact hh.out) ?_
                       rintro en w5 ⟨r, rfl, h7, h8⟩
                       have S5 : Hid (l'.length ≤ k + 1 ∧ St w d c m q T4 N4 D4 a4 r l' w5) := Lib.hid ⟨by have := HO.out.len; have := HS1.out.1; omega, O4.out.1.drew.below h8, O4.out.2.1, h7⟩
                       clear h7 h8 hh x0 x1 x2 x3 c0
                       refine ⟨_, rfl, ?_⟩)
      all_goals
        obtain ⟨b2, o2, e2, -, -, c0, -, -, -, -⟩ := act_at A1.out S5.out.2.own.turn hk1
        rw [← HX.out] at c0
        simp only [Option.some.injEq, Addr.mk.injEq, and_true] at e2
        obtain ⟨rfl, rfl⟩ := e2
        obtain ⟨L, hL⟩ : ∃ L, L = l'.length := ⟨_, rfl⟩
        obtain ⟨g, off, cp, hr⟩ := S5.out.2.lst.thick
        rw [← hL] at hr
        subst hr
        have HL : Hid (L = l'.length ∧ l'.length ≤ 1000) := Lib.hid ⟨hL, by have := S5.out.1; omega⟩
        clear hL
        obtain ⟨x, hxc⟩ : ∃ x : Int, x = (count l' p : Int) := ⟨_, rfl⟩
        have HXC := Lib.hid hxc
        clear hxc
        have es : (s.toList == s.toList) = true := beq_self_eq_true _
        go_wp2_with fail
        refine wp_region_S (S := fun V => St w d c m q T4 N4 D4 a4 (.slice (some ⟨g, off, none⟩) L cp) l' V ∧ V.cell? ⟨b, o + k * 5, none⟩ = some (.int .i64 p)) (by kernel_rfl) (by exact ⟨S5.out.2.drew, c0⟩) ?_
        refine AnyS.pure 0 (some 75) rfl rfl (by kernel_rfl) (by kernel_rfl) (by kernel_rfl) (fun _ _ _ h => h) (by kernel_rfl) (fun _ _ => rfl) ?_
        refine AnyS.pure 1 (some 76) rfl rfl (by kernel_rfl) (by kernel_rfl) (by kernel_rfl) (fun _ _ _ h => h) (by kernel_rfl) (fun _ _ => rfl) ?_
        refine AnyS.pure 2 (some 77) (v := .bool false) rfl rfl (by kernel_rfl) (by kernel_rfl) (by kernel_rfl) (fun _ _ _ h => h) (by kernel_rfl) (fun V _ => by go_simp) ?_
        refine AnyS.pure 3 (some 78) rfl rfl (by kernel_rfl) (by kernel_rfl) (by kernel_rfl) (fun _ _ _ h => h) (by kernel_rfl) (fun _ _ => rfl) ?_
        refine AnyS.pure 4 (some 79) rfl rfl (by kernel_rfl) (by kernel_rfl) (by kernel_rfl) (fun _ _ _ h => h) (by kernel_rfl) (fun _ _ => rfl) ?_
        refine AnyS.pure 5 (some 80) rfl rfl (by kernel_rfl) (by kernel_rfl) (by kernel_rfl) (fun _ _ _ h => h) (by kernel_rfl) (fun _ _ => rfl) ?_
        refine AnyS.pure 6 (some 81) (v := .bool false) rfl rfl (by kernel_rfl) (by kernel_rfl) (by kernel_rfl) (fun _ _ _ h => h) (by kernel_rfl) (fun V _ => by go_simp) ?_
        refine AnyS.pure 7 (some 82) (v := .bool false) rfl rfl (by kernel_rfl) (by kernel_rfl) (by kernel_rfl) (fun _ _ _ h => h) (by kernel_rfl) (fun V _ => by go_simp) ?_
        refine AnyS.pure 8 (some 83) rfl rfl (by kernel_rfl) (by kernel_rfl) (by kernel_rfl) (fun _ _ _ h => h) (by kernel_rfl) (fun _ _ => rfl) ?_
        refine AnyS.pure 9 (some 84) rfl rfl (by kernel_rfl) (by kernel_rfl) (by kernel_rfl) (fun _ _ _ h => h) (by kernel_rfl) (fun _ _ => rfl) ?_
        refine AnyS.pure 10 (some 85) rfl rfl (by kernel_rfl) (by kernel_rfl) (by kernel_rfl) (fun _ _ _ h => h) (by kernel_rfl) (fun _ _ => rfl) ?_
        refine AnyS.pure 11 (some 86) (v := .bool false) rfl rfl (by kernel_rfl) (by kernel_rfl) (by kernel_rfl) (fun _ _ _ h => h) (by kernel_rfl) (fun V _ => by go_simp) ?_
        refine AnyS.pure 12 (some 87) (v := .bool false) rfl rfl (by kernel_rfl) (by kernel_rfl) (by kernel_rfl) (fun _ _ _ h => h) (by kernel_rfl) (fun V _ => by go_simp) ?_
        refine AnyS.pure 13 (some 88) rfl rfl (by kernel_rfl) (by kernel_rfl) (by kernel_rfl) (fun _ _ _ h => h) (by kernel_rfl) (fun _ _ => rfl) ?_
        refine AnyS.pure 14 (some 89) rfl rfl (by kernel_rfl) (by kernel_rfl) (by kernel_rfl) (fun _ _ _ h => h) (by kernel_rfl) (fun _ _ => rfl) ?_
        refine AnyS.pure 15 (some 90) rfl rfl (by kernel_rfl) (by kernel_rfl) (by kernel_rfl) (fun _ _ _ h => h) (by kernel_rfl) (fun _ _ => rfl) ?_
        refine AnyS.pure 16 (some 91) rfl rfl (by kernel_rfl) (by kernel_rfl) (by kernel_rfl) (fun _ _ _ h => h) (by kernel_rfl) (fun _ _ => rfl) ?_
        refine AnyS.pure 17 (some 92) (v := .pointer (some ⟨b, o + k * 5, none⟩)) rfl rfl (by kernel_rfl) (by kernel_rfl) (by kernel_rfl) (fun _ _ _ h => h) (by kernel_rfl) (fun V _ => by go_simp) ?_
        refine AnyS.pure 18 (some 93) (v := .pointer (some ⟨b, o + k * 5, none⟩)) rfl rfl (by kernel_rfl) (by kernel_rfl) (by kernel_rfl) (fun _ _ _ h => h) (by kernel_rfl) (fun V _ => by go_simp) ?_
        refine AnyS.pure 19 (some 94) (v := .int .i64 p) rfl rfl (by kernel_rfl) (by kernel_rfl) (by kernel_rfl) (fun _ _ _ h => h) (by kernel_rfl) (fun V hV => by have c0 := hV.2; go_simp) ?_
        refine AnyS.pure 21 (some 96) rfl rfl (by kernel_rfl) (by kernel_rfl) (by kernel_rfl) (fun _ _ _ h => h) (by kernel_rfl) (fun _ _ => rfl) ?_
        refine AnyS.pure 22 (some 97) rfl rfl (by kernel_rfl) (by kernel_rfl) (by kernel_rfl) (fun _ _ _ h => h) (by kernel_rfl) (fun _ _ => rfl) ?_
        refine AnyS.pure 23 (some 98) rfl rfl (by kernel_rfl) (by kernel_rfl) (by kernel_rfl) (fun _ _ _ h => h) (by kernel_rfl) (fun _ _ => rfl) ?_
        refine AnyS.pure 24 (some 99) (v := .pointer (some ⟨b, o + k * 5, none⟩)) rfl rfl (by kernel_rfl) (by kernel_rfl) (by kernel_rfl) (fun _ _ _ h => h) (by kernel_rfl) (fun V _ => by go_simp) ?_
        refine AnyS.pure 25 (some 100) (v := .pointer (some ⟨b, o + k * 5, none⟩)) rfl rfl (by kernel_rfl) (by kernel_rfl) (by kernel_rfl) (fun _ _ _ h => h) (by kernel_rfl) (fun V _ => by go_simp) ?_
        refine AnyS.pure 26 (some 101) (v := .int .i64 p) rfl rfl (by kernel_rfl) (by kernel_rfl) (by kernel_rfl) (fun _ _ _ h => h) (by kernel_rfl) (fun V hV => by have c0 := hV.2; go_simp) ?_
        refine AnyS.call 20 (some 95) (.int .i64 x) rfl rfl (by kernel_rfl) (by kernel_rfl) (by kernel_rfl) (fun _ _ _ h => h) (by kernel_rfl) 9 Try.f9 Try.func9 (by kernel_rfl) (by kernel_rfl) _ _ rfl #[.pointer (some ⟨d, 0, none⟩), .int .i64 p] (by first | (simp [Act.eval]; done) | (simp [Act.eval, Act.put]; done)) (fun V hV => (hV.1.own.count p x HF.out.1 (hV.1.same.count p |>.trans HXC.out.symm)).mono (by rintro en v ⟨rfl, rfl⟩; exact ⟨rfl, hV⟩)) ?_
        simp only [Act.put, List.setIfInBounds_toArray, List.set_cons_zero, List.set_cons_succ]
        refine AnyS.call 27 (some 102) (.int .i64 x) rfl rfl (by kernel_rfl) (by kernel_rfl) (by kernel_rfl) (fun _ _ _ h => h) (by kernel_rfl) 10 Try.f10 Try.func10 (by kernel_rfl) (by kernel_rfl) _ _ rfl #[.slice (some ⟨g, off, none⟩) L cp, .int .i64 p] (by first | (simp [Act.eval]; done) | (simp [Act.eval, Act.put]; done)) (fun V hV => (count_calls hV.1.lst.seg (by have := HL.out; omega) p).mono (by rintro en v ⟨rfl, bv⟩; exact ⟨by rw [← HXC.out], hV.1.below bv, (Turn.cell (F := fun j => V.heap.size ≤ j) (Turn.of_below bv (fun _ _ e => e)) (by have := HB.out; have := hV.1.own.turn.size; show b < _; omega) (by have := HB.out; have := hV.1.own.turn.size; show ¬ _ ≤ b; omega)).trans hV.2⟩)) ?_
        simp only [Act.put, List.setIfInBounds_toArray, List.set_cons_zero, List.set_cons_succ]
        refine AnyS.pure 28 (some 103) (v := .bool false) rfl rfl (by kernel_rfl) (by kernel_rfl) (by kernel_rfl) (fun _ _ _ h => h) (by kernel_rfl) (fun V _ => by go_simp) ?_
        refine AnyS.pure 29 (some 104) (v := .bool false) rfl rfl (by kernel_rfl) (by kernel_rfl) (by kernel_rfl) (fun _ _ _ h => h) (by kernel_rfl) (fun V _ => by go_simp) ?_
        refine AnyS.pure 30 (some 105) rfl rfl (by kernel_rfl) (by kernel_rfl) (by kernel_rfl) (fun _ _ _ h => h) (by kernel_rfl) (fun _ _ => rfl) ?_
        refine AnyS.pure 31 (some 106) rfl rfl (by kernel_rfl) (by kernel_rfl) (by kernel_rfl) (fun _ _ _ h => h) (by kernel_rfl) (fun _ _ => rfl) ?_
        refine AnyS.pure 33 (some 108) rfl rfl (by kernel_rfl) (by kernel_rfl) (by kernel_rfl) (fun _ _ _ h => h) (by kernel_rfl) (fun _ _ => rfl) ?_
        refine AnyS.pure 34 (some 109) (v := .int .i64 L) rfl rfl (by kernel_rfl) (by kernel_rfl) (by kernel_rfl) (fun _ _ _ h => h) (by kernel_rfl) (fun V _ => by go_simp) ?_
        refine AnyS.call 32 (some 107) (.int .i64 L) rfl rfl (by kernel_rfl) (by kernel_rfl) (by kernel_rfl) (fun _ _ _ h => h) (by kernel_rfl) 11 Try.f11 Try.func11 (by kernel_rfl) (by kernel_rfl) _ _ rfl #[.pointer (some ⟨d, 0, none⟩)] (by first | (simp [Act.eval]; done) | (simp [Act.eval, Act.put]; done)) (fun V hV => hV.1.own.mem.all_calls.mono (by rintro en v ⟨rfl, rfl⟩; exact ⟨by rw [hV.1.same.all, ← HL.out.1], hV⟩)) ?_
        simp only [Act.put, List.setIfInBounds_toArray, List.set_cons_zero, List.set_cons_succ]
        refine AnyS.pure 35 (some 110) (v := .bool false) rfl rfl (by kernel_rfl) (by kernel_rfl) (by kernel_rfl) (fun _ _ _ h => h) (by kernel_rfl) (fun V _ => by go_simp) ?_
        refine AnyS.pure 36 (some 111) (v := .bool false) rfl rfl (by kernel_rfl) (by kernel_rfl) (by kernel_rfl) (fun _ _ _ h => h) (by kernel_rfl) (fun V _ => by go_simp) ?_
        refine AnyS.done (by kernel_rfl) (fun V hV => ?_) _
        have S6 : Hid (l'.length ≤ k + 1 ∧ St w d c m q T4 N4 D4 a4 (.slice (some ⟨g, off, none⟩) L cp) l' V) := Lib.hid ⟨S5.out.1, hV.1⟩
        clear hV S5 c0
        go_wp2_with fail
        go_loopw [16] (fun i wr2 => ∃ (j : Nat), i = .int .i64 ((j : Int) - 1) ∧ j ≤ q + 2 ∧ Hid (l'.length ≤ k + 1 ∧ St w d c m q T4 N4 D4 a4 (.slice (some ⟨g, off, none⟩) L cp) l' wr2)) (fun i _ => q + 2 - (intOf i + 1).toNat)
        case atStart => exact ⟨0, rfl, by omega, S6⟩
        case round =>
          clear S6
          obtain ⟨j, rfl, hj, S6⟩ := hrel
          by_cases hj2 : j < q + 2
          · have hjq : ((j : Int) - 1) ≤ (q : Int) := by omega
            obtain ⟨i, hi⟩ : ∃ i : Int, i = (j : Int) - 1 := ⟨_, rfl⟩
            have hi1 : (-1 : Int) ≤ i := by omega
            have hi2 : i ≤ 8 := by omega
            rw [← hi] at hjq ⊢
            have HI := Lib.hid hi
            obtain ⟨t, ht⟩ : ∃ t, t = holds l' i := ⟨_, rfl⟩
            obtain ⟨x2, hx2⟩ : ∃ x2 : Int, x2 = (cel.swaps l' i : Int) := ⟨_, rfl⟩
            have HT := Lib.hid (And.intro ht hx2)
            have et : (t.toList == t.toList) = true := beq_self_eq_true _
            clear hi ht hx2
            go_wp2_with fail
            refine (S6.out.2.own.look i t ((S6.out.2.same.text i).trans HT.out.1.symm)).mono ?_
            rintro en v1 ⟨rfl, rfl⟩
            go_wp2_with fail
            refine (holds_calls S6.out.2.lst.seg (by have := HL.out; omega) i).mono ?_
            rw [← HT.out.1]
            rintro en v2 ⟨rfl, bv2⟩
            have S7 := Lib.hid (And.intro S6.out.1 (S6.out.2.below bv2))
            clear bv2 S6
            go_wp2_with fail
            refine (S7.out.2.own.swaps i x2 ((S7.out.2.same.swaps i).trans HT.out.2.symm)).mono ?_
            rintro en v3 ⟨rfl, rfl⟩
            go_wp2_with fail
            refine (swaps_calls S7.out.2.lst.seg (by have := HL.out; omega) i).mono ?_
            rw [← HT.out.2]
            rintro en v4 ⟨rfl, bv4⟩
            have S8 := Lib.hid (And.intro S7.out.1 (S7.out.2.below bv4))
            clear bv4 S7
            go_wp2_with fail
            refine ⟨⟨j + 1, by rw [HI.out, Int.natCast_add]; congr 1; show (j : Int) - 1 + 1 = (j : Int) + 1 - 1; omega, by omega, S8⟩, ?_⟩
            show q + 2 - (i + 1 + 1).toNat < q + 2 - (i + 1).toNat
            have := HI.out
            omega
          · obtain rfl : j = q + 2 := by omega
            have hjq : ¬ ((q + 2 : Nat) : Int) - 1 ≤ (q : Int) := by omega
            go_wp2_with fail
            refine ⟨⟨k + 1, T4, N4, D4, a4, l', by rw [Int.natCast_add]; rfl, by omega, by omega, S6⟩, ?_⟩
            show 60 - ((k : Int) + 1).toNat < 60 - ((k : Int)).toNat
            omega
    · have hx : ((k : Int) < (len1 : Int) ∧ ¬ (k : Int) < 60) ∨ ¬ (k : Int) < (len1 : Int) := by omega
      clear hk
      rcases hx with ⟨hc1, hc3⟩ | hc1
      all_goals
        go_wp2_with fail
        go_ret
        exact ⟨rfl, HS.out.2.own.ends⟩

def Arg1 (w : World) (a : Option Addr) (len _cap : Nat) : Prop := ∃ T, ArgA w a len T

theorem walk (z : Int) (a1 : Option Addr) (len1 cap1 : Nat) (w : World) (_ : (Lit.int .i64 z).wf = true) (w1 : Arg1 w a1 len1 cap1) :
    Calls Try.prog 3 #[.int .i64 z, .slice a1 len1 cap1] w fun en w' => en = .returned (.bool true) ∧ Below w.heap.size w w' := by
  obtain ⟨T1, h1⟩ := w1
  exact plays_any z a1 len1 cap1 T1 w h1

theorem opened1 {H : Type} {enc : TypeId × Value → H} {w : World} {spare : Nat → Bool} {held : Bool} {a : Option Addr} {len cap : Nat} {d : DataW H} {p : List MemPlace} (h : DataW.Trod enc Try.prog w 0 spare held 22 (.slice a len cap) d p) : Arg1 w a len cap := openedA h

theorem own : ownKnob Try.prog.godebug = none := by kernel_rfl
theorem laidOut : laidOutB Try.prog = true := by kernel_rfl

set_option maxRecDepth 100000 in
theorem lifted (os : Os) (started : os.Started) (H : Type) (enc : TypeId × Value → H) :
    ReturnsInHanded {} Try.checked os 3 .any (Rows.cellsPlaysSpec.pre6 enc Try.prog Try.f3 Rows.cellsPlaysRow.domain false) (Rows.cellsPlaysSpec.post enc Try.prog Try.f3 false true false false) := by
  refine returnsInHanded_of_change (C := Try.checked) own started (by kernel_rfl) Try.func3
    (ChangeSpec.witness6 (enc := enc) (C := Try.checked) false ⟨#[], #[.int .i64 0, .slice none 0 0], []⟩ 8 (by kernel_rfl) (by kernel_rfl) (by kernel_rfl) (by kernel_rfl)) ?_
  intro W base args ds gs before hval0 hW _ _
  have hval : ∀ (j : Nat) t v, Try.f3.params[j]? = some t → args[j]? = some v → Value.okWide Try.prog W .any base t v := hval0
  have hW' := hW
  obtain ⟨p, q, hA0, hV, rfl, _, _⟩ := hW
  have hA : DataW.TrodAll enc Try.prog W 0 (fun _ => true) true Try.f3.params.toList args.toList ds p := hA0
  rw [Try.params3] at hA hval
  obtain ⟨v0, vs0, d0, ds0, p0, q0, hargs, rfl, rfl, h0, r0⟩ := trodAll_cons hA
  obtain ⟨v1, vs1, d1, ds1, p1, q1, rfl, rfl, rfl, h1, r1⟩ := trodAll_cons r0
  obtain ⟨rfl, rfl, rfl⟩ := trodAll_nil r1
  obtain rfl : args = #[v0, v1] := by cases args; simp_all
  obtain ⟨rfl, rfl⟩ := trodVars_none hV
  obtain ⟨a0, rfl, rfl, rfl, w0⟩ := open_int Try.underlying3 (hval 0 3 v0 rfl rfl) h0
  obtain ⟨a1, len1, cap1, rfl⟩ := okWide_slice Try.underlying22 (hval 1 22 v1 rfl rfl)
  have k1 := h1
  have lt1 : ∀ x ∈ p1, x.block < W.heap.size := by obtain ⟨m, hm⟩ := k1; exact DataW.trod_lt m _ _ _ hm
  have w1 : Arg1 W a1 len1 cap1 := opened1 h1
  clear hA0 hval0
  refine (walk a0 a1 len1 cap1 W w0 w1).mono fun e W' ⟨he, bel⟩ => ?_
  subst he
  exact ⟨_, rfl, _, _, _, [], _, [], hW', trodAll_mk1 (shut_bool Try.underlying4 _), (trodAll_cons_mk (shut_int Try.underlying3 w0) (trodAll_cons_mk (Below.trod laidOut (by kernel_rfl) (of_decide_eq_true (by kernel_rfl)) k1 bel lt1) trodAll_mk0)), rfl, bel.frame _, fun h => by cases h⟩

theorem over : Rows.cellsPlaysRow.holds Try.pinned (OpenSpec.ofChange Rows.cellsPlaysSpec) :=
  OpenClaim.holds_of_wide 3 Try.f3 rfl rfl rfl rfl rfl rfl rfl ⟨rfl, rfl, rfl, rfl, rfl⟩ rfl rfl rfl rfl rfl (by kernel_rfl) Try.func3 (by kernel_rfl)
    (of_decide_eq_true (by kernel_rfl)) (by unfold Func.isWrapper; first | (rw [if_pos (by decide +kernel)]; kernel_rfl) | (rw [if_neg (by decide +kernel)]; exact ⟨rfl, rfl⟩))
    (fun os started H enc _ => lifted os started H enc)

theorem proved : Rows.CellsPlaysSaid := over

end Go.Proofs.Ytlbpephbigikcaa.cellsPlays
