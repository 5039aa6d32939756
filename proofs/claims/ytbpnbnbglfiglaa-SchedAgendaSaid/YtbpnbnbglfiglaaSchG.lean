/- sched: a schedule beside an agenda; law 17's awake. -/
import Derived.Test.YtbpnbnbglfiglaaSchD
import Derived.Test.YtbpnbnbglfiglaaSchF
namespace Go.Proofs.Ytbpnbnbglfiglaa.sch
open Go Go.RowKit Go.Maps

section
variable {w W W' : World} {g m s q : Nat} {r : Option Nat} {v : Value} {a : Ab} {D : DataW Value} {V : Int → Value} {L : Int → List ByteArray}

theorem Ag.has_kin (h : Ag w g m D V L W) {b : Nat} {t : TypeId} {cs : Array Value} (hb : Has W b t cs) (h1 : t ≠ 70) (h2 : 9 ≠ t) : ¬ Kin g m V b := by
  rintro (e | e | ⟨x, e⟩)
  · subst e; exact h1 (hb.uniq h.box).2
  · exact h.map.ne hb e.symm
  · exact (h.seg x).ne hb h2 e
theorem Ag.own_kin (h : Ag w g m D V L W) {e : TypeId} {sz n : Nat} {u : Value} {xs : List Value} (hu : W.ownsRow 0 e sz u n xs) (h1 : e ≠ 70) (h2 : 9 ≠ e) : ∀ b, u.ownBlock = some b → ¬ Kin g m V b := by
  intro b hb
  rintro (k | k | ⟨x, k⟩)
  · subst k; exact own_ne hu h.box h1 hb
  · subst k; exact h.map.seg (Seg.of_own hu) hb
  · exact (h.seg x).apart (Seg.of_own hu) h2 b k hb

/-- An agenda's call leaves the schedule. -/
theorem Nw.kin (h : Nw w s q r v a W) (hA : Ag w g m D V L W) (t : Turn (Kin g m V) W W') : Nw w s q r v a W' :=
  h.other t (fun j e => by
    rcases e with e | e | ⟨x, e⟩
    · rw [e]; exact hA.ng
    · rw [e]; exact hA.nm
    · exact hA.nv x j e) (hA.has_kin h.sc.own (by decide) (by decide)) (by obtain ⟨cs, e⟩ := qs_box h.sc.qs; exact hA.has_kin e (by decide) (by decide)) (fun b hb => by obtain ⟨cs, e⟩ := qs_row h.sc.qs b hb; exact hA.has_kin e (by decide) (by decide)) (hA.own_kin h.sc.pac (by decide) (by decide))

/-- A schedule's call leaves the agenda. -/
theorem Ag.sched (h : Ag w g m D V L W) (n : Nw w s q r v a W) (t : Turn (fun j => v.ownBlock = some j ∨ j = s ∨ j = q ∨ r = some j) W W') : Ag w g m D V L W' := by
  have k : ∀ j, Kin g m V j → ¬ (v.ownBlock = some j ∨ j = s ∨ j = q ∨ r = some j) := fun j hj e => by
    rcases e with e | e | e | e
    · exact h.own_kin n.sc.pac (by decide) (by decide) j e hj
    · subst e; exact h.has_kin n.sc.own (by decide) (by decide) hj
    · subst e; obtain ⟨cs, e⟩ := qs_box n.sc.qs; exact h.has_kin e (by decide) (by decide) hj
    · obtain ⟨cs, e⟩ := qs_row n.sc.qs j e; exact h.has_kin e (by decide) (by decide) hj
  exact h.other t (fun j e => by
    rcases e with e | e | e | e
    · exact n.nv j e
    · rw [e]; exact n.ns
    · rw [e]; exact n.nq
    · exact n.nr j e) (k g (.inl rfl)) (k m (.inr (.inl rfl))) (fun x b hb => k b (.inr (.inr ⟨x, hb⟩)))
end

theorem fits1 : Fits 1 := ⟨by decide, by decide⟩
theorem awk1 : (turns 5 (made [2, 3])).1 = [0, 1, 0, 1, 0] := by decide
theorem awk2 : (turns 5 (made [2, 3])).2.T = 6 := by decide

set_option maxRecDepth 100000 in
set_option maxHeartbeats 4000000 in
theorem awake_calls (w : World) : Calls Try.prog 5 #[] w fun en w' => en = .returned (.bool true) ∧ Below w.heap.size w w' := by
  go_enter Try.func5, Try.ntmps5
  go_wp2_with (first
    | (go_at_call 7
       refine (new_calls (w.alloc (.cells #[.int .i64 2, .int .i64 3] 3)) _ 2 2 [2, 3] rfl (by decide) (by
         intro i x hx
         refine ⟨w.heap.size, 0, rfl, by simp, ?_⟩
         have hm := Has.made w 3 #[.int .i64 2, .int .i64 3]
         rcases i with _ | _ | i
         · obtain rfl : 2 = x := by injection hx
           exact hm.cell 0
         · obtain rfl : 3 = x := by injection hx
           exact hm.cell 1
         · simp at hx)).mono ?_
       rintro en w1 ⟨s, q, r, v, rfl, n1⟩
       have hwl : w.heap.size ≤ (w.alloc (.cells #[.int .i64 2, .int .i64 3] 3)).heap.size := by simp
       have N1 : Hid (Nw w s q r v (made [2, 3]) w1) := Lib.hid ⟨n1.sc, Nat.le_trans hwl n1.ns, Nat.le_trans hwl n1.nq, fun b hb => Nat.le_trans hwl (n1.nr b hb), fun b hb => Nat.le_trans hwl (n1.nv b hb), ((Turn.refl (fun j => w.heap.size ≤ j) w).alloc _).trans n1.turn (fun j _ e => Nat.le_trans hwl e)⟩
       clear n1 hwl)
    | (go_at_call 15
       refine (plan_calls w w1 N1.out.turn).mono ?_
       rintro en w2 ⟨g, m, rfl, g1, g2, b2, a2⟩
       have N2 := Lib.hid (N1.out.below b2)
       have A2 := Lib.hid a2
       have c0 : w2.cell? ⟨s, 0, none⟩ = some (.pointer (some ⟨q, 0, none⟩)) := N2.out.sc.c0
       clear g1 g2 b2 a2)
    | (go_at_call 21
       refine (N2.out.picks (made_inv [2, 3] (by decide)).1 5 (by decide) (by decide) (by decide)).mono ?_
       rw [show (5 : Int).toNat = 5 from rfl, awk1]
       rintro en w3 ⟨u, r3, rfl, n3, i3, u3, rr3, t3⟩
       obtain ⟨gu, cu, eu, hcu⟩ := i3.cell 0 (by decide)
       clear hcu
       change u = .slice (some ⟨gu, 0, none⟩) 5 cu at eu
       subst eu
       have N3 := Lib.hid n3
       have A3 := Lib.hid (A2.out.sched N2.out t3)
       have I3 : Hid (Ints w3 (.slice (some ⟨gu, 0, none⟩) 5 cu) [0, 1, 0, 1, 0]) := Lib.hid i3
       clear n3 i3 u3 rr3 t3 c0)
    | (go_at_call 17
       have AA := A3.out.below (W' := w3.alloc (.cells #[.string ⟨#[120]⟩, .string ⟨#[121]⟩] 9)) ((Below.refl _ w3).alloc (Nat.le_refl _) _)
       have NN := N3.out.below (V' := w3.alloc (.cells #[.string ⟨#[120]⟩, .string ⟨#[121]⟩] 9)) ((Below.refl _ w3).alloc (Nat.le_refl _) _)
       have II : Ints (w3.alloc (.cells #[.string ⟨#[120]⟩, .string ⟨#[121]⟩] 9)) (.slice (some ⟨gu, 0, none⟩) 5 cu) [0, 1, 0, 1, 0] := I3.out.turn ((Turn.refl (fun _ => False) w3).alloc _) (fun _ _ e => e)
       refine (add_calls AA 1 fits1 _ _ 2 2 [⟨#[120]⟩, ⟨#[121]⟩] rfl (by decide) (by decide) (by decide) (by decide) (Seg.whole (cs := #[.string ⟨#[120]⟩, .string ⟨#[121]⟩]) (Has.made w3 9 _) rfl (by decide))).mono ?_
       rintro en w4 ⟨rfl, v4, a4, n4, t4⟩
       have N4 := Lib.hid (NN.kin AA t4)
       have A4 := Lib.hid a4
       have I4 : Hid (Ints w4 (.slice (some ⟨gu, 0, none⟩) 5 cu) [0, 1, 0, 1, 0]) := Lib.hid (II.turn t4 (AA.own_kin II (by decide) (by decide)))
       clear a4 n4 t4 AA NN II)
    | (go_at_call 20
       refine (take_more A4.out 1 fits1 ⟨#[120]⟩ [⟨#[121]⟩] (updI_same _ _ _) (by decide) (by decide) (Nat.lt_of_le_of_lt (sizeD_put tidy_empty 1 _) (by decide))).mono ?_
       rintro en w5 ⟨rfl, D5, v5, a5, n5, s5, t5⟩
       have N5 := Lib.hid (N4.out.kin A4.out t5)
       have A5 := Lib.hid a5
       have I5 : Hid (Ints w5 (.slice (some ⟨gu, 0, none⟩) 5 cu) [0, 1, 0, 1, 0]) := Lib.hid (I4.out.turn t5 (A4.out.own_kin I4.out (by decide) (by decide)))
       obtain ⟨g', c', e', hc⟩ := I5.out.cell 0 (by decide)
       obtain ⟨rfl, rfl⟩ : gu = g' ∧ cu = c' := by injection e' with e1 e2 e3; injection e1 with e1; injection e1 with e1; exact ⟨e1, e3⟩
       have k0 : w5.cell? ⟨gu, 0, none⟩ = some (.int .i64 0) := hc 0 0 rfl
       have k1 : w5.cell? ⟨gu, 1, none⟩ = some (.int .i64 1) := hc 1 1 rfl
       have k2 : w5.cell? ⟨gu, 2, none⟩ = some (.int .i64 0) := hc 2 0 rfl
       have k3 : w5.cell? ⟨gu, 3, none⟩ = some (.int .i64 1) := hc 3 1 rfl
       have k4 : w5.cell? ⟨gu, 4, none⟩ = some (.int .i64 0) := hc 4 0 rfl
       clear a5 n5 s5 t5 e' hc)
    | (go_at_call 13
       refine (tick_calls N5.out.sc).mono ?_
       rw [awk2]
       rintro en w6 ⟨rfl, rfl⟩)
    | (go_at_call 19
       refine (left_calls A5.out 1 fits1).mono ?_
       rw [show (updI (updI (fun _ => []) 1 ([] ++ [⟨#[120]⟩, ⟨#[121]⟩])) 1 [(⟨#[121]⟩ : ByteArray)] 1).length = 1 from rfl]
       rintro en w7 ⟨rfl, rfl⟩)
    | fail)
  go_ret
  exact ⟨rfl, N5.out.ends⟩
end Go.Proofs.Ytbpnbnbglfiglaa.sch
