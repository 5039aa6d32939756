/- Texts laid into one: PrdH, Mask, PrdI, PrdK, PrdL, PrdM, PrdN. -/
import Derived.Test.YtbpcfkniflgmfaaYPrdG
import Derived.Laws.MakeOwn
import Derived.Test.YtbpcfkniflgmfaaY000
import Derived.Test.YtbpcfkniflgmfaaY010
import Derived.Lib.ItoaWalk
section
/- The document's Step whole; its New. -/
namespace Go.Proofs.Ytbpcfkniflgmfaa.prc
open Go Go.RowKit

theorem Dw.step {W : World} {s v p : Value} {P L D : Nat} {A : Ab} {O : Nat → ByteArray} (h : Dw W s v p P L A O) (hF : Fit P A) (hI : Inv P L D A) {i : Nat} (hi : i < P) (hP : P ≤ 64) (hL : L ≤ 256) (hnx : (A.X i).next ≤ 5) :
    Calls Try.prog 38 #[.agg #[s, v, p], .int .i64 i] W (DsPost P L (prc.step P L A i).1 (prc.step P L A i).2 W) := by
  have ha : (A.X i).at_ ≤ L := Nat.le_trans (hI.seen i) hI.d
  have hlow := hI.low i
  rcases (show (A.X i).next = 0 ∨ (A.X i).next = 1 ∨ (A.X i).next = 2 ∨ (A.X i).next = 3 ∨ (A.X i).next = 4 ∨ (A.X i).next = 5 by omega) with e | e | e | e | e | e
  · have hst : prc.step P L A i = (A, nope) := by unfold prc.step; rw [e]; rfl
    rw [hst]
    exact h.step_idle hF hi hP hL _ rfl ha e
  · have hst : prc.step P L A i = prc.wishes L A i := by unfold prc.step; rw [e]; rfl
    rw [hst]
    exact h.step_wish hF hi hP hL _ rfl ha e
  · have hst : prc.step P L A i = prc.looks L A i := by unfold prc.step; rw [e]; rfl
    have hlt := hlow (by omega) (by omega)
    rw [hst]
    unfold prc.looks
    cases hS : A.S (A.X i).at_ with
    | none => exact h.step_look hF hi hP hL _ rfl ha e hlt hS
    | some r => exact h.step_see hF hi hP hL _ rfl ha e hlt r hS
  · have hst : prc.step P L A i = prc.helps P A i := by unfold prc.step; rw [e]; rfl
    rw [hst]
    exact h.step_help hF hi hP hL _ rfl ha e
  · have hst : prc.step P L A i = prc.decides L A i := by unfold prc.step; rw [e]; rfl
    have hlt := hlow (by omega) (by omega)
    rw [hst]
    unfold prc.decides
    cases hS : A.S (A.X i).at_ with
    | none => exact h.step_dec_none hF hi hP hL _ rfl ha e hlt hS _ rfl (hF.offer i e)
    | some r => exact h.step_dec_some hF hi hP hL _ rfl ha e hlt r hS
  · have hst : prc.step P L A i = prc.heads L A i := by unfold prc.step; rw [e]; rfl
    rw [hst]
    unfold prc.heads
    by_cases hl : L ≤ (A.X i).at_
    · rw [if_pos (.inl hl)]
      exact h.step_head_full hF hi hP hL _ rfl ha e hl
    · cases hS : A.S (A.X i).at_ with
      | none =>
        rw [if_pos (.inr rfl)]
        exact h.step_head_none hF hi hP hL _ rfl ha e (by omega) hS
      | some r =>
        rw [if_neg (fun h => h.elim hl (fun h => by cases h))]
        exact h.step_head_some hF hi hP hL _ rfl ha e (by omega) r hS

/-- Empty texts. -/
def noS (n : Nat) : Array Value := (rowS (fun _ => none) n).toArray
theorem makes_strs (n : Nat) (hn : n ≤ 1000) (V : World) : (Instr.makeSlice 28 (.int .i64 (n : Int)) (.int .i64 (n : Int))).run Try.prog V = .ok (.slice (some ⟨V.heap.size, 0, none⟩) n n) (V.alloc (.cells (noS n) 9)) := by
  obtain ⟨i0, z0, hi0, hz0, hz1, hz2, hz3⟩ : ∃ i z, Try.prog.info? 9 = some i ∧ i.zero = some z ∧ i.size = 1 ∧ z.cells = #[.string ByteArray.empty] ∧ i.bytes = 16 := by
    have h2 : (Try.prog.info? 9).map (fun i => (i.zero.map (fun z => z.cells), i.size, i.bytes)) = some (some #[.string ByteArray.empty], 1, 16) := by kernel_rfl
    obtain ⟨i, hi, e⟩ := Option.map_eq_some_iff.1 h2
    simp only [Prod.mk.injEq] at e
    obtain ⟨e1, e2, e3⟩ := e
    obtain ⟨z, hz, e4⟩ := Option.map_eq_some_iff.1 e1
    exact ⟨i, z, hi, hz, e2, e4, e3⟩
  have h := run_make (P := Try.prog) V 28 9 i0 z0 Try.underlying28 hi0 hz0 .i64 .i64 (n : Int) (n : Int) (by omega) (by omega) (by rw [hz3]; omega) (by omega)
  rw [Int.toNat_natCast, hz1, hz2] at h
  have e : madeCells #[.string ByteArray.empty] (n * 1) = noS n := by
    apply Array.ext'
    apply List.ext_getElem?
    intro q
    unfold noS
    by_cases hq : q < n
    · rw [List.toList_toArray, rowS_at _ hq]
      have e0 : q % 1 = 0 := Nat.mod_one q
      simp [madeCells, hq, Nat.mod_one]
      rfl
    · rw [List.getElem?_eq_none (by rw [Array.length_toList, size_madeCells]; omega), List.getElem?_eq_none (by rw [List.toList_toArray, rowS_len]; omega)]
  rw [h, e]

theorem below_own {B : Nat} {w w' : World} {v : Value} (h : w.grownBy w' v.ownBlock) (hv : ∀ x, v.ownBlock = some x → B ≤ x) (hB : B ≤ w.heap.size) : Below B w w' :=
  ⟨h.os, h.tape, h.output, h.size, fun i hi => h.block i (by omega) (fun e => by have := hv i e.symm; omega)⟩
theorem nx0 (W : World) (a b c d : Obj) : Below W.heap.size W (((((W.alloc a).alloc b).alloc c).alloc d).drew) := (((((Below.refl _ W).alloc (Nat.le_refl _) _).alloc (by simp) _).alloc (by simp; omega) _).alloc (by simp; omega) _).drew
def noO : Nat → ByteArray := fun _ => ⟨#[]⟩
/-- A world that is being made. -/
structure Nx (W w : World) (P L a b c : Nat) (pv : Value) (j : Nat) : Prop where
  rz : Has w W.heap.size 31 #[.slice none 0 0, .slice none 0 0, .slice none 0 0]
  sl : Has w a 9 (noS L)
  wi : Has w b 9 (noS P)
  bx : Has w c 31 #[.slice (some ⟨a, 0, none⟩) L L, .slice (some ⟨b, 0, none⟩) P P, pv]
  pr : Seg w 40 6 pv j (rowP ab0.X noO j)
  ge : W.heap.size ≤ c
  ne : W.heap.size ≠ c
  lo : Below W.heap.size W w
  own : ∀ x, pv.ownBlock = some x → W.heap.size ≤ x
  th : j ≠ 0 → Thick pv j

theorem Nx.free {W w : World} {P L a b c : Nat} {pv : Value} {j : Nat} (h : Nx W w P L a b c pv j) : w.frozen? ⟨c, 2, none⟩ = false := h.bx.free 2

/-- One process more. -/
theorem Nx.more {W w w1 : World} {P L a b c g off cap : Nat} {pv : Value} {j : Nat} (h : Nx W w P L a b c pv j) {o : Obj}
    (hs : Seg w1 40 6 (.slice (some ⟨g, off, none⟩) (j + 1) cap) (j + 1) (rowP ab0.X noO j ++ prC j (ab0.X j) (noO j))) (hg : (w.alloc o).grownBy w1 pv.ownBlock) (hat : pv.ownBlock = some g ∨ g = (w.alloc o).heap.size) :
    Nx W (w1.setCell ⟨c, 2, none⟩ (.slice (some ⟨g, off, none⟩) (j + 1) cap)) P L a b c (.slice (some ⟨g, off, none⟩) (j + 1) cap) (j + 1) ∧ w1.frozen? ⟨c, 2, none⟩ = false ∧ w1.cell? ⟨c, 2, none⟩ = some pv := by
  have nb : ∀ {k : Nat} {t : TypeId} {cs : Array Value}, Has w k t cs → 40 ≠ t → Has w1 k t cs := fun hk ht => (hk.alloc o).grown hg (fun e => h.pr.ne hk ht e.symm)
  have gc : g ≠ c := fun e => by
    rcases hat with k | k
    · exact h.pr.ne h.bx (by decide) (by rw [k, e])
    · have := h.bx.lt; rw [← e, k] at this; simp at this; omega
  have wg : W.heap.size ≤ g := by
    rcases hat with k | k
    · exact h.own g k
    · rw [k]; exact Nat.le_trans h.lo.size (by simp)
  have l0 : Below W.heap.size W (w.alloc o) := h.lo.alloc h.lo.size o
  have hbx := (nb h.bx (by decide)).put 2 (.slice (some ⟨g, off, none⟩) (j + 1) cap)
  have ac : ∀ {k : Nat} {cs : Array Value}, Has w1 k 9 cs → k ≠ c := fun hk e => by
    subst e
    have := (hk.uniq (nb h.bx (by decide))).2
    exact absurd this (by decide)
  refine ⟨?_, (nb h.bx (by decide)).free 2, (nb h.bx (by decide)).cell 2⟩
  refine ⟨(nb h.rz (by decide)).far (by exact h.ne) _, (nb h.sl (by decide)).far (by exact ac (nb h.sl (by decide))) _, (nb h.wi (by decide)).far (by exact ac (nb h.wi (by decide))) _, by simpa using hbx, ?_, h.ge, h.ne, (l0.trans (below_own hg h.own (Nat.le_trans h.lo.size (by simp)))).setCell (by exact h.ge) _, fun x hx => ?_, fun _ => ⟨_, _, _, rfl⟩⟩
  · have e : rowP ab0.X noO (j + 1) = rowP ab0.X noO j ++ prC j (ab0.X j) (noO j) := by
      unfold rowP
      rw [flat_snoc, Nat.zero_add]
      rfl
    rw [e]
    exact hs.keep fun x hx => Below.heap_setCell w1 _ _ x (fun e => by rw [← own_of hx] at e; exact gc e)
  · rw [← own_of hx]
    exact wg

set_option maxRecDepth 100000 in
set_option maxHeartbeats 4000000 in
theorem dnew_calls (W : World) (P L : Nat) (hP : P ≤ 64) (hL : L ≤ 256) (hP1 : 0 < P) : Calls Try.prog 37 #[.int .i64 P, .int .i64 L] W (DwPost P L ab0 noO W) := by
  have mL := fun V => makes_strs L (by omega) V
  have mP := fun V => makes_strs P (by omega) V
  obtain ⟨i0, z0, hi0, hz0, hz1, hz2, hz3⟩ : ∃ i z, Try.prog.info? 40 = some i ∧ i.zero = some z ∧ i.size = 6 ∧ z.cells.size = 6 ∧ i.bytes = 64 := by
    have h2 : (Try.prog.info? 40).map (fun i => (i.zero.map (fun z => z.cells.size), i.size, i.bytes)) = some (some 6, 6, 64) := by kernel_rfl
    obtain ⟨i, hi, e⟩ := Option.map_eq_some_iff.1 h2
    simp at e
    obtain ⟨⟨z, hz, hz2⟩, h3, h4⟩ := e
    exact ⟨i, z, hi, hz, h3, hz2, h4⟩
  have HI0 := Lib.hid hi0
  have HZ0 := Lib.hid hz0
  clear hi0 hz0
  have hP0 : (0 : Int) < (P : Int) := by omega
  go_enter Try.func37, Try.ntmps37
  go_wp2_with fail
  go_region
  all_goals
    go_wp2_with fail
  all_goals
    go_name_world w1 hw1
  all_goals
    generalize hz : W.heap.size + 1 + 1 + 1 = z3 at *
    generalize hy : W.heap.size + 1 + 1 = z2 at *
    generalize hx : W.heap.size + 1 = z1 at *
  all_goals (first
    | (have HN : Hid (Nx W w1 P L z1 z2 z3 (.slice none 0 0) 0) := by
         rw [← hw1]; subst hz hy hx
         exact Lib.hid ⟨(((Has.made W _ _).alloc _).alloc _).alloc _, ((made_at _ _ (by simp)).alloc _).alloc _, (made_at _ _ (by simp)).alloc _, made_at _ _ (by simp), Seg.nil _ _ _, by omega, by omega, nx0 W _ _ _ _, fun x hx => (by cases hx), fun e => absurd rfl e⟩
       clear hz hy hx hw1
       generalize z1 = a at *
       generalize z2 = b at *
       generalize z3 = c at *)
    | (have HN : Hid (Nx W w1 P L z1 z3 z2 (.slice none 0 0) 0) := by
         rw [← hw1]; subst hz hy hx
         exact Lib.hid ⟨(((Has.made W _ _).alloc _).alloc _).alloc _, ((made_at _ _ (by simp)).alloc _).alloc _, made_at _ _ (by simp), (made_at _ _ (by simp)).alloc _, Seg.nil _ _ _, by omega, by omega, nx0 W _ _ _ _, fun x hx => (by cases hx), fun e => absurd rfl e⟩
       clear hz hy hx hw1
       generalize z1 = a at *
       generalize z3 = b at *
       generalize z2 = c at *)
    | (have HN : Hid (Nx W w1 P L z2 z1 z3 (.slice none 0 0) 0) := by
         rw [← hw1]; subst hz hy hx
         exact Lib.hid ⟨(((Has.made W _ _).alloc _).alloc _).alloc _, (made_at _ _ (by simp)).alloc _, ((made_at _ _ (by simp)).alloc _).alloc _, made_at _ _ (by simp), Seg.nil _ _ _, by omega, by omega, nx0 W _ _ _ _, fun x hx => (by cases hx), fun e => absurd rfl e⟩
       clear hz hy hx hw1
       generalize z2 = a at *
       generalize z1 = b at *
       generalize z3 = c at *)
    | (have HN : Hid (Nx W w1 P L z2 z3 z1 (.slice none 0 0) 0) := by
         rw [← hw1]; subst hz hy hx
         exact Lib.hid ⟨(((Has.made W _ _).alloc _).alloc _).alloc _, (made_at _ _ (by simp)).alloc _, made_at _ _ (by simp), ((made_at _ _ (by simp)).alloc _).alloc _, Seg.nil _ _ _, by omega, by omega, nx0 W _ _ _ _, fun x hx => (by cases hx), fun e => absurd rfl e⟩
       clear hz hy hx hw1
       generalize z2 = a at *
       generalize z3 = b at *
       generalize z1 = c at *)
    | (have HN : Hid (Nx W w1 P L z3 z1 z2 (.slice none 0 0) 0) := by
         rw [← hw1]; subst hz hy hx
         exact Lib.hid ⟨(((Has.made W _ _).alloc _).alloc _).alloc _, made_at _ _ (by simp), ((made_at _ _ (by simp)).alloc _).alloc _, (made_at _ _ (by simp)).alloc _, Seg.nil _ _ _, by omega, by omega, nx0 W _ _ _ _, fun x hx => (by cases hx), fun e => absurd rfl e⟩
       clear hz hy hx hw1
       generalize z3 = a at *
       generalize z1 = b at *
       generalize z2 = c at *)
    | (have HN : Hid (Nx W w1 P L z3 z2 z1 (.slice none 0 0) 0) := by
         rw [← hw1]; subst hz hy hx
         exact Lib.hid ⟨(((Has.made W _ _).alloc _).alloc _).alloc _, made_at _ _ (by simp), (made_at _ _ (by simp)).alloc _, ((made_at _ _ (by simp)).alloc _).alloc _, Seg.nil _ _ _, by omega, by omega, nx0 W _ _ _ _, fun x hx => (by cases hx), fun e => absurd rfl e⟩
       clear hz hy hx hw1
       generalize z3 = a at *
       generalize z2 = b at *
       generalize z1 = c at *))
  all_goals
    go_loopw [6] (fun i wr => ∃ (k : Nat) (pv : Value), i = .int .i64 k ∧ k ≤ P ∧ Hid (Nx W wr P L a b c pv k)) (fun i _ => P - (intOf i).toNat)
    case atStart => exact ⟨0, _, rfl, by omega, HN⟩
    case round =>
      clear HN
      obtain ⟨k, pv, rfl, hk, HN⟩ := hrel
      have hk0 : (0 : Int) ≤ (k : Int) := by omega
      have HK := Lib.hid hk
      have c0 : wr.cell? ⟨c, 0, none⟩ = some (.slice (some ⟨a, 0, none⟩) L L) := HN.out.bx.cell 0
      have c1 : wr.cell? ⟨c, 1, none⟩ = some (.slice (some ⟨b, 0, none⟩) P P) := HN.out.bx.cell 1
      have c2 : wr.cell? ⟨c, 2, none⟩ = some pv := HN.out.bx.cell 2
      have fr : wr.frozen? ⟨c, 2, none⟩ = false := HN.out.free
      have hlc : c < wr.heap.size := HN.out.bx.lt
      by_cases ht : (k : Int) < (P : Int)
      · go_wp2_with (first
          | ((with_reducible refine at_op 23 ?_); refine wpList_append_seg (o := ⟨some 23, _, _, _, _, _⟩) _ rfl (.tmp 18) (.tmp 22) 29 rfl 40 i0 z0 6 64 Try.underlying29 HI0.out HZ0.out hz1 hz3 hz2 (by decide) pv k (rowP ab0.X noO k) rfl (HN.out.pr.alloc _) ⟨wr.heap.size, 0, none⟩ 1 1 (prC k (ab0.X k) (noO k)) rfl rfl (World.news_of_block (heap_alloc_new _ _)) (by simp [Value.oneCell', prC]) (by decide) (by unfold maxLen; omega) (by omega) _ rfl ?_
             intro g off cp w4 hown hgrow hat hlt
             obtain ⟨hm, fr4, c4⟩ := HN.out.more hown hgrow hat
             have HM := Lib.hid hm
             clear hm hown hgrow hat hlt)
          | fail)
        refine ⟨⟨k + 1, _, by rw [Int.natCast_add]; rfl, by omega, HM⟩, ?_⟩
        show P - ((k : Int) + 1).toNat < P - ((k : Int)).toNat
        omega
      · obtain rfl : k = P := by omega
        obtain ⟨gp, op, cp, rfl⟩ := HN.out.th (by omega)
        have d0 : Dw wr (.slice (some ⟨a, 0, none⟩) L L) (.slice (some ⟨b, 0, none⟩) k k) (.slice (some ⟨gp, op, none⟩) k cp) k L ab0 noO := by
          have h := HN.out
          refine ⟨?_, ⟨_, _, _, rfl⟩, ?_, ⟨_, _, _, rfl⟩, h.pr, ⟨_, _, _, rfl⟩, fun i e => by cases e⟩
          · exact Seg.whole (m := L) (size := 1) h.sl (by simp) (by unfold maxLen; omega)
          · exact Seg.whole (m := k) (size := 1) h.wi (by simp) (by unfold maxLen; omega)
        have N5 := HN.out.rz
        have n0 := N5.cell 0
        have n1 := N5.cell 1
        have n2 := N5.cell 2
        have f0 := N5.free 0
        have f1 := N5.free 1
        have f2 := N5.free 2
        have hne : W.heap.size ≠ c := HN.out.ne
        have HR := Lib.hid (And.intro (d0.ended HN.out.lo N5 (Nat.le_refl _)) (has_three (.slice (some ⟨a, 0, none⟩) L L) (.slice (some ⟨b, 0, none⟩) k k) (.slice (some ⟨gp, op, none⟩) k cp) N5))
        clear d0 N5
        go_wp2_with fail
        exact bodyPost_ret (res_dw rfl _ _ W.heap.size _ _ _ rfl HR.out.2) rfl ⟨_, _, _, rfl, HR.out.1⟩
end Go.Proofs.Ytbpcfkniflgmfaa.prc
end

section
/- n & 255, n & 15, n & 7. Of no program. -/
namespace Go.Proofs.Ytbpcfkniflgmfaa
open Go

theorem and_mask (n : Int) (k : Nat) (hk : k ≤ 8) : bits .and .i64 n ((2 ^ k : Nat) - 1 : Int) = n % ((2 ^ k : Nat) : Int) := by
  have h255 : (BitVec.ofInt 64 ((2 ^ k : Nat) - 1 : Int)).toNat = 2 ^ k - 1 := by
    have : k = 0 ∨ k = 1 ∨ k = 2 ∨ k = 3 ∨ k = 4 ∨ k = 5 ∨ k = 6 ∨ k = 7 ∨ k = 8 := by omega
    rcases this with h | h | h | h | h | h | h | h | h <;> subst h <;> decide
  have key : (BitVec.ofInt 64 n &&& BitVec.ofInt 64 ((2 ^ k : Nat) - 1 : Int)).toNat = (n % ((2 ^ 64 : Nat) : Int)).toNat % 2 ^ k := by
    rw [BitVec.toNat_and, BitVec.toNat_ofInt, h255, Nat.and_two_pow_sub_one_eq_mod]
  show IntKind.i64.wrap ((BitVec.ofInt 64 n &&& BitVec.ofInt 64 ((2 ^ k : Nat) - 1 : Int)).toNat : Nat) = n % ((2 ^ k : Nat) : Int)
  rw [key, IntKind.wrap_i64]
  have : k = 0 ∨ k = 1 ∨ k = 2 ∨ k = 3 ∨ k = 4 ∨ k = 5 ∨ k = 6 ∨ k = 7 ∨ k = 8 := by omega
  rcases this with h | h | h | h | h | h | h | h | h <;> subst h <;> simp only [Nat.reducePow] <;> omega
theorem mask255 (n : Int) : bits .and .i64 n 255 = n % 256 := and_mask n 8 (by decide)
theorem mask15 (n : Int) : bits .and .i64 n 15 = n % 16 := and_mask n 4 (by decide)
theorem mask7 (n : Int) : bits .and .i64 n 7 = n % 8 := and_mask n 3 (by decide)
end Go.Proofs.Ytbpcfkniflgmfaa
end

section
/- Law 16's processes over a memory, beside the document's; its Begin. -/
namespace Go.Proofs.Ytbpcfkniflgmfaa.prc
open Go Go.RowKit

theorem Seg.has {w : World} {e : TypeId} {size n : Nat} {v : Value} {xs : List Value} (h : Seg w e size v n xs) {b : Nat} (hb : v.ownBlock = some b) : ∃ cs, Has w b e cs := by
  rcases h.2 with ⟨rfl, _⟩ | ⟨g, off, cap, cur, rfl, hg, _⟩
  · cases hb
  · obtain rfl := own_of hb
    exact ⟨cur, hg⟩

/-- Pointers to processes. -/
def ptrs (B : Nat → Nat) (k : Nat) : List Value := (List.range k).map fun i => .pointer (some ⟨B i, 0, none⟩)
theorem ptrs_len (B : Nat → Nat) (k : Nat) : (ptrs B k).length = k := by unfold ptrs; simp
theorem ptrs_at (B : Nat → Nat) {k i : Nat} (h : i < k) : (ptrs B k)[i]? = some (.pointer (some ⟨B i, 0, none⟩)) := by
  unfold ptrs; rw [List.getElem?_map, List.getElem?_range h]; rfl
theorem ptrs_up (B : Nat → Nat) (k b : Nat) : ptrs (up B k b) (k + 1) = ptrs B k ++ [.pointer (some ⟨b, 0, none⟩)] := by
  unfold ptrs
  rw [List.range_succ, List.map_append]
  congr 1
  · refine List.map_congr_left fun i hi => ?_
    rw [up_other _ _ (by have := List.mem_range.1 hi; omega)]
  · simp [up_same]
theorem one_ptrs (B : Nat → Nat) (k : Nat) : ∀ u ∈ ptrs B k, u.oneCell' = true := by
  intro u hu
  obtain ⟨i, _, rfl⟩ := List.mem_map.1 hu
  rfl

/-- A state: its processes of I, over its memory, and the document's. -/
structure Sd (w : World) (P L q : Nat) (A : Ab) (K d c m : Nat) (B : Nat → Nat) (O : Nat → ByteArray) (l s v p : Value) (V : World) : Prop where
  sys : Sys w d c m P L A K (fun i => i < q) B V
  good : Good P L A
  sq : ∀ i, (A.X i).seq ≤ K
  ls : Seg V 52 1 l q (ptrs B q)
  tl : q ≠ 0 → Thick l q
  lo : ∀ b, l.ownBlock = some b → w.heap.size ≤ b
  dw : Dw V s v p P L A O

section
variable {w V V' : World} {P L q K d c m : Nat} {A : Ab} {B : Nat → Nat} {O : Nat → ByteArray} {l s v p : Value}

theorem Sd.below (h : Sd w P L q A K d c m B O l s v p V) (hb : Below V.heap.size V V') : Sd w P L q A K d c m B O l s v p V' :=
  ⟨h.sys.below hb, h.good, h.sq, h.ls.below hb (fun _ e => h.ls.lt e), h.tl, h.lo, h.dw.below hb⟩
theorem Sd.drew (h : Sd w P L q A K d c m B O l s v p V) : Sd w P L q A K d c m B O l s v p V.drew := ⟨h.sys.drew, h.good, h.sq, h.ls, h.tl, h.lo, h.dw.drew⟩
theorem Sd.alloc (h : Sd w P L q A K d c m B O l s v p V) (o : Obj) : Sd w P L q A K d c m B O l s v p (V.alloc o) := h.below ((Below.refl _ V).alloc (Nat.le_refl _) o)

/-- A block of another type turns. -/
theorem Sd.turned (h : Sd w P L q A K d c m B O l s v p V) {x : Nat} {t : TypeId} {cs : Array Value} (hx : Has V x t cs) (t1 : Turn (fun j => j = x) V V') (hw : w.heap.size ≤ x)
    (h1 : t ≠ 102) (h2 : t ≠ 99) (h3 : 112 ≠ t) (h4 : 52 ≠ t) (h5 : 9 ≠ t) (h6 : 40 ≠ t) : Sd w P L q A K d c m B O l s v p V' := by
  refine ⟨h.sys.other t1 (fun j e => by rw [e]; exact hw) (fun j e => by rw [e]; exact h.sys.mm.ne hx h1 h2) (fun j i e hi e2 => ?_), h.good, h.sq, h.ls.turn t1 (fun b hb e => h.ls.ne hx h4 (by rw [hb, e])), h.tl, h.lo, h.dw.turn t1 (fun b hb e => h.dw.slots.ne hx h5 (by rw [hb, e])) (fun b hb e => h.dw.wish.ne hx h5 (by rw [hb, e])) (fun b hb e => h.dw.procs.ne hx h6 (by rw [hb, e]))⟩
  obtain ⟨y, hy, _⟩ := h.sys.pr i hi
  rw [e2, e] at hy
  exact h3 ((Has.uniq hy hx).2)
theorem Sd.cell (h : Sd w P L q A K d c m B O l s v p V) {x : Nat} {t : TypeId} {cs : Array Value} (hx : Has V x t cs) (hw : w.heap.size ≤ x) (i : Nat) (u : Value)
    (h1 : t ≠ 102) (h2 : t ≠ 99) (h3 : 112 ≠ t) (h4 : 52 ≠ t) (h5 : 9 ≠ t) (h6 : 40 ≠ t) : Sd w P L q A K d c m B O l s v p (V.setCell ⟨x, i, none⟩ u) :=
  h.turned hx ((Turn.refl (fun j => j = x) V).put (fun _ => rfl) i u) hw h1 h2 h3 h4 h5 h6
end

/-- A State's cells. -/
abbrev stC (P L d : Nat) (l s v p : Value) : Array Value := #[.int .i64 P, .int .i64 L, .pointer (some ⟨d, 0, none⟩), l, s, v, p]
abbrev stZ : Array Value := #[.int .i64 0, .int .i64 0, .pointer none, .slice none 0 0, .slice none 0 0, .slice none 0 0, .slice none 0 0]

theorem some5 (n : Int) : ∃ k : Nat, ((k : Nat) : Int) = (n % 256).tmod 5 ∧ k < 5 := by
  refine ⟨((n % 256) % 5).toNat, ?_, by omega⟩
  rw [Int.tmod_eq_emod_of_nonneg (by omega)]
  omega
theorem some21 (n : Int) : ∃ k : Nat, ((k : Nat) : Int) = (n % 256).tmod 21 ∧ k < 21 := by
  refine ⟨((n % 256) % 21).toNat, ?_, by omega⟩
  rw [Int.tmod_eq_emod_of_nonneg (by omega)]
  omega

/-- A state that is being made. -/
structure Bn (W : World) (P L k d c m : Nat) (B : Nat → Nat) (l s v p : Value) (x : Nat) (V : World) : Prop where
  sd : Sd W P L k ab0 0 d c m B noO l s v p V
  bx : Has V x 33 (stC P L d l s v p)
  pl : Has V (W.heap.size + 1) 25 #[.int .i64 P, .int .i64 L]
  rz : Has V W.heap.size 33 stZ
  ge : W.heap.size + 1 < x

/-- What lasts while it is made. -/
structure Bk (W : World) (P L : Nat) (V : World) : Prop where
  lo : Below W.heap.size W V
  pl : Has V (W.heap.size + 1) 25 #[.int .i64 P, .int .i64 L]
  rz : Has V W.heap.size 33 stZ

section
variable {W V V' : World} {P L : Nat}
theorem Bk.below (h : Bk W P L V) (hb : Below V.heap.size V V') : Bk W P L V' :=
  ⟨h.lo.trans (hb.mono h.lo.size), h.pl.below hb h.pl.lt, h.rz.below hb h.rz.lt⟩

theorem Bk.turn (h : Bk W P L V) : Turn (fun j => W.heap.size ≤ j) W V := Turn.of_below h.lo (F := fun j => W.heap.size ≤ j) (fun _ _ e => e)
theorem Bk.drew (h : Bk W P L V) : Bk W P L V.drew := ⟨h.lo.drew, h.pl, h.rz⟩
theorem Bk.alloc (h : Bk W P L V) (o : Obj) : Bk W P L (V.alloc o) := h.below ((Below.refl _ V).alloc (Nat.le_refl _) o)
theorem Bk.far (h : Bk W P L V) {x : Nat} (hx : W.heap.size + 1 < x) (i : Nat) (u : Value) : Bk W P L (V.setCell ⟨x, i, none⟩ u) :=
  ⟨h.lo.setCell (by show W.heap.size ≤ x; omega) u, h.pl.far (by show W.heap.size + 1 ≠ x; omega) u, h.rz.far (by show W.heap.size ≠ x; omega) u⟩
theorem Bk.all (h : Bk W P L V) : Bk W P L V ∧ V.cell? ⟨W.heap.size + 1, 0, none⟩ = some (.int .i64 P) ∧ V.cell? ⟨W.heap.size + 1, 1, none⟩ = some (.int .i64 L) ∧ W.heap.size + 1 < V.heap.size := ⟨h, h.pl.cell 0, h.pl.cell 1, h.pl.lt⟩
theorem Bn.start (h : Bk W P L V) {d c m : Nat} {s v p : Value} (hP : P ≤ 64) (hS : Sys W d c m P L ab0 0 (fun _ => False) (fun _ => 0) V) (hD : Dw V s v p P L ab0 noO) :
    Bn W P L 0 d c m (fun _ => 0) (.slice none 0 0) s v p V.heap.size (V.alloc (.cells (stC P L d (.slice none 0 0) s v p) 33)) := by
  have e : (fun i => i < 0) = (fun _ : Nat => False) := by funext i; simp
  have hs : Sd W P L 0 ab0 0 d c m (fun _ => 0) noO (.slice none 0 0) s v p V := ⟨by rw [e]; exact hS, good0 L hP, fun _ => Nat.le_refl _, Seg.nil _ _ _, fun e => absurd rfl e, fun b hb => (by cases hb), hD⟩
  exact ⟨hs.alloc _, Has.made _ _ _, h.pl.alloc _, h.rz.alloc _, h.pl.lt⟩

theorem Bn.start2 (h : Bk W P L V) {d c m x : Nat} {s v p : Value} (hP : P ≤ 64) (hS : Sys W d c m P L ab0 0 (fun _ => False) (fun _ => 0) V) (hD : Dw V s v p P L ab0 noO) (hx : Has V x 33 stZ) (hwx : W.heap.size + 1 < x) :
    Bn W P L 0 d c m (fun _ => 0) (.slice none 0 0) s v p x (((((((V.setCell ⟨x, 0, none⟩ (.int .i64 P)).setCell ⟨x, 1, none⟩ (.int .i64 L)).setCell ⟨x, 2, none⟩ (.pointer (some ⟨d, 0, none⟩))).setCell ⟨x, 3, none⟩ (.slice none 0 0)).setCell ⟨x, 4, none⟩ s).setCell ⟨x, 5, none⟩ v).setCell ⟨x, 6, none⟩ p) := by
  have e : (fun i => i < 0) = (fun _ : Nat => False) := by funext i; simp
  have s0 : Sd W P L 0 ab0 0 d c m (fun _ => 0) noO (.slice none 0 0) s v p V := ⟨by rw [e]; exact hS, good0 L hP, fun _ => Nat.le_refl _, Seg.nil _ _ _, fun e => absurd rfl e, fun b hb => (by cases hb), hD⟩
  have t1 : Turn (fun j => j = x) V (((((((V.setCell ⟨x, 0, none⟩ (.int .i64 P)).setCell ⟨x, 1, none⟩ (.int .i64 L)).setCell ⟨x, 2, none⟩ (.pointer (some ⟨d, 0, none⟩))).setCell ⟨x, 3, none⟩ (.slice none 0 0)).setCell ⟨x, 4, none⟩ s).setCell ⟨x, 5, none⟩ v).setCell ⟨x, 6, none⟩ p) :=
    (((((((Turn.refl (fun j => j = x) V).put (fun _ => rfl) 0 _).put (fun _ => rfl) 1 _).put (fun _ => rfl) 2 _).put (fun _ => rfl) 3 _).put (fun _ => rfl) 4 _).put (fun _ => rfl) 5 _).put (fun _ => rfl) 6 _
  have x7 := ((((((hx.put 0 (.int .i64 P)).put 1 (.int .i64 L)).put 2 (.pointer (some ⟨d, 0, none⟩))).put 3 (.slice none 0 0)).put 4 s).put 5 v).put 6 p
  exact ⟨s0.turned hx t1 (by omega) (by decide) (by decide) (by decide) (by decide) (by decide) (by decide), by simpa using x7, h.pl.turn t1 (by omega), h.rz.turn t1 (by omega), hwx⟩
theorem Bn.ofStore (h : Bk W P L V) {X U : World} {d c m x : Nat} {s v p : Value} (hP : P ≤ 64) (hS : Sys W d c m P L ab0 0 (fun _ => False) (fun _ => 0) V) (hD : Dw V s v p P L ab0 noO) (hb : Below V.heap.size V X) (hx : Has X x 33 stZ) (hwx : W.heap.size + 1 < x)
    (hu : Has U x 33 (stC P L d (.slice none 0 0) s v p)) (t : Turn (fun k => k = x) X U) :
    Bn W P L 0 d c m (fun _ => 0) (.slice none 0 0) s v p x U := by
  have e : (fun i => i < 0) = (fun _ : Nat => False) := by funext i; simp
  have s0 : Sd W P L 0 ab0 0 d c m (fun _ => 0) noO (.slice none 0 0) s v p X := Sd.below ⟨by rw [e]; exact hS, good0 L hP, fun _ => Nat.le_refl _, Seg.nil _ _ _, fun e => absurd rfl e, fun b hb => (by cases hb), hD⟩ hb
  have k := h.below hb
  exact ⟨s0.turned hx t (by omega) (by decide) (by decide) (by decide) (by decide) (by decide) (by decide), hu, k.pl.turn t (by omega), k.rz.turn t (by omega), by omega⟩
end

theorem Bn.drew {W V : World} {P L k d c m x : Nat} {B : Nat → Nat} {l s v p : Value} (h : Bn W P L k d c m B l s v p x V) : Bn W P L k d c m B l s v p x V.drew := ⟨h.sd.drew, h.bx, h.pl, h.rz, h.ge⟩
theorem Bn.final {W V : World} {P L k d c m x : Nat} {B : Nat → Nat} {l s v p : Value} (h : Bn W P L k d c m B l s v p x V) :
    Sd W P L k ab0 0 d c m B noO l s v p (((((((V.setCell ⟨W.heap.size, 0, none⟩ (.int .i64 P)).setCell ⟨W.heap.size, 1, none⟩ (.int .i64 L)).setCell ⟨W.heap.size, 2, none⟩ (.pointer (some ⟨d, 0, none⟩))).setCell ⟨W.heap.size, 3, none⟩ l).setCell ⟨W.heap.size, 4, none⟩ s).setCell ⟨W.heap.size, 5, none⟩ v).setCell ⟨W.heap.size, 6, none⟩ p) ∧
    Has (((((((V.setCell ⟨W.heap.size, 0, none⟩ (.int .i64 P)).setCell ⟨W.heap.size, 1, none⟩ (.int .i64 L)).setCell ⟨W.heap.size, 2, none⟩ (.pointer (some ⟨d, 0, none⟩))).setCell ⟨W.heap.size, 3, none⟩ l).setCell ⟨W.heap.size, 4, none⟩ s).setCell ⟨W.heap.size, 5, none⟩ v).setCell ⟨W.heap.size, 6, none⟩ p) W.heap.size 33 (stC P L d l s v p) := by
  have t1 : Turn (fun j => j = W.heap.size) V (((((((V.setCell ⟨W.heap.size, 0, none⟩ (.int .i64 P)).setCell ⟨W.heap.size, 1, none⟩ (.int .i64 L)).setCell ⟨W.heap.size, 2, none⟩ (.pointer (some ⟨d, 0, none⟩))).setCell ⟨W.heap.size, 3, none⟩ l).setCell ⟨W.heap.size, 4, none⟩ s).setCell ⟨W.heap.size, 5, none⟩ v).setCell ⟨W.heap.size, 6, none⟩ p) :=
    (((((((Turn.refl (fun j => j = W.heap.size) V).put (fun _ => rfl) 0 _).put (fun _ => rfl) 1 _).put (fun _ => rfl) 2 _).put (fun _ => rfl) 3 _).put (fun _ => rfl) 4 _).put (fun _ => rfl) 5 _).put (fun _ => rfl) 6 _
  have x7 := ((((((h.rz.put 0 (.int .i64 P)).put 1 (.int .i64 L)).put 2 (.pointer (some ⟨d, 0, none⟩))).put 3 l).put 4 s).put 5 v).put 6 p
  exact ⟨h.sd.turned h.rz t1 (Nat.le_refl _) (by decide) (by decide) (by decide) (by decide) (by decide) (by decide), by simpa using x7⟩
theorem res_state {fn : Func} {t : Tmp} (h : fn.results = #[.cell t 33]) (tmps : Array Value) (w : World) (g : Nat) (a b e f i j k : Value) (hx : tmps.getD t undef = .pointer (some ⟨g, 0, none⟩)) (hE : Has w g 33 #[a, b, e, f, i, j, k]) :
    (results fn tmps).run Try.prog w = .ok (.agg #[a, b, e, f, i, j, k]) w := by
  have c0 : w.cell? ⟨g, 0, none⟩ = some a := hE.cell 0
  have c1 : w.cell? ⟨g, 1, none⟩ = some b := hE.cell 1
  have c2 : w.cell? ⟨g, 2, none⟩ = some e := hE.cell 2
  have c3 : w.cell? ⟨g, 3, none⟩ = some f := hE.cell 3
  have c4 : w.cell? ⟨g, 4, none⟩ = some i := hE.cell 4
  have c5 : w.cell? ⟨g, 5, none⟩ = some j := hE.cell 5
  have c6 : w.cell? ⟨g, 6, none⟩ = some k := hE.cell 6
  rw [Array.getD_eq_getD_getElem?] at hx
  simp [results, h, hx, go_sem, c0, c1, c2, c3, c4, c5, c6]
/-- A state that is being made, with one process more than its slice has. -/
structure Bm (W : World) (P L k d c m : Nat) (B : Nat → Nat) (l s v p : Value) (x : Nat) (V : World) : Prop where
  sys : Sys W d c m P L ab0 0 (fun i => i < k + 1) B V
  ls : Seg V 52 1 l k (ptrs B k)
  lo : ∀ b, l.ownBlock = some b → W.heap.size ≤ b
  dw : Dw V s v p P L ab0 noO
  bx : Has V x 33 (stC P L d l s v p)
  pl : Has V (W.heap.size + 1) 25 #[.int .i64 P, .int .i64 L]
  rz : Has V W.heap.size 33 stZ
  ge : W.heap.size + 1 < x

section
variable {W V V' : World} {P L k d c m x : Nat} {B : Nat → Nat} {l s v p : Value}
theorem Bm.below (h : Bm W P L k d c m B l s v p x V) (hb : Below V.heap.size V V') : Bm W P L k d c m B l s v p x V' :=
  ⟨h.sys.below hb, h.ls.below hb (fun _ e => h.ls.lt e), h.lo, h.dw.below hb, h.bx.below hb h.bx.lt, h.pl.below hb h.pl.lt, h.rz.below hb h.rz.lt, h.ge⟩
theorem ptrs_other (B : Nat → Nat) (k b : Nat) : ptrs (up B k b) k = ptrs B k := by
  unfold ptrs
  refine List.map_congr_left fun i hi => ?_
  rw [up_other _ _ (by have := List.mem_range.1 hi; omega)]
theorem Bn.news (h : Bn W P L k d c m B l s v p x V) (hge : W.heap.size + 1 < x) (hk : k < P) {en : Ending} (hp : NewPost P L k V en V') : ∃ b, en = .returned (.pointer (some ⟨b, 0, none⟩)) ∧ Bm W P L k d c m (up B k b) l s v p x V' := by
  obtain ⟨b, rfl, hs, _⟩ := h.sd.sys.more hk (Nat.lt_irrefl k) hp
  obtain ⟨_, _, _, hb, _⟩ := hp
  have e : (fun j => j = k ∨ j < k) = (fun j => j < k + 1) := by funext j; exact propext (by omega)
  rw [e] at hs
  exact ⟨b, rfl, hs, by rw [ptrs_other]; exact h.sd.ls.below hb (fun _ e => h.sd.ls.lt e), h.sd.lo, h.sd.dw.below hb, h.bx.below hb h.bx.lt, h.pl.below hb h.pl.lt, h.rz.below hb h.rz.lt, hge⟩

theorem Bm.more (h : Bm W P L k d c m B l s v p x V) (hP : P ≤ 64) {o : Obj} {w1 : World} {g off cap : Nat}
    (hs : Seg w1 52 1 (.slice (some ⟨g, off, none⟩) (k + 1) cap) (k + 1) (ptrs B k ++ [.pointer (some ⟨B k, 0, none⟩)])) (hg : (V.alloc o).grownBy w1 l.ownBlock) (hat : l.ownBlock = some g ∨ g = (V.alloc o).heap.size) :
    Bn W P L (k + 1) d c m B (.slice (some ⟨g, off, none⟩) (k + 1) cap) s v p x (w1.setCell ⟨x, 3, none⟩ (.slice (some ⟨g, off, none⟩) (k + 1) cap)) ∧ w1.frozen? ⟨x, 3, none⟩ = false ∧ w1.cell? ⟨x, 3, none⟩ = some l := by
  have h1 := h.below ((Below.refl _ V).alloc (Nat.le_refl _) o)
  have t1 : Turn (fun j => l.ownBlock = some j) (V.alloc o) w1 := (Turn.refl (fun j => l.ownBlock = some j) (V.alloc o)).grown hg (fun j e _ => e)
  have hx1 := h1.bx.turn t1 (fun e => h1.ls.ne h1.bx (by decide) e)
  have wg : W.heap.size ≤ g := by
    rcases hat with q | q
    · exact h.lo g q
    · rw [q]; exact h1.sys.turn.size
  have sys1 : Sys W d c m P L ab0 0 (fun i => i < k + 1) B w1 := h1.sys.other t1 (fun j e => h.lo j e) (fun j e => by
      obtain ⟨cs, hc⟩ := Seg.has h1.ls e
      exact h1.sys.mm.ne hc (by decide) (by decide)) (fun j i e hi e2 => by
      obtain ⟨y, hy, _⟩ := h1.sys.pr i hi
      exact h1.ls.ne hy (by decide) (by rw [e, e2]))
  have e2 : ptrs B (k + 1) = ptrs B k ++ [.pointer (some ⟨B k, 0, none⟩)] := by
    unfold ptrs
    rw [List.range_succ, List.map_append]
    rfl
  have s1 : Sd W P L (k + 1) ab0 0 d c m B noO (.slice (some ⟨g, off, none⟩) (k + 1) cap) s v p w1 :=
    ⟨sys1, good0 L hP, fun _ => Nat.le_refl _, by rw [e2]; exact hs, fun _ => ⟨_, _, _, rfl⟩, fun b hb => by rw [← own_of hb]; exact wg, h1.dw.turn t1 (fun b hb e => h1.dw.slots.apart h1.ls (by decide) b hb e) (fun b hb e => h1.dw.wish.apart h1.ls (by decide) b hb e) (fun b hb e => h1.dw.procs.apart h1.ls (by decide) b hb e)⟩
  have t2 : Turn (fun j => j = x) w1 (w1.setCell ⟨x, 3, none⟩ (.slice (some ⟨g, off, none⟩) (k + 1) cap)) := (Turn.refl (fun j => j = x) w1).put (fun _ => rfl) 3 _
  have pl1 := h1.pl.turn t1 (fun e => h1.ls.ne h1.pl (by decide) e)
  have rz1 := h1.rz.turn t1 (fun e => h1.ls.ne h1.rz (by decide) e)
  have hge := h.ge
  refine ⟨⟨s1.turned hx1 t2 (by omega) (by decide) (by decide) (by decide) (by decide) (by decide) (by decide), ?_, pl1.turn t2 (by omega), rz1.turn t2 (by omega), by omega⟩, hx1.free 3, hx1.cell 3⟩
  have := hx1.put 3 (.slice (some ⟨g, off, none⟩) (k + 1) cap)
  simpa using this
end

section
variable {P : Program}
theorem wpList_store_cells {w : World} {ops : Array Oper} {rest : List Oper} {o : Oper} {a : Act} {Q : Exit → Act → World → Prop} (hgd : o.guard = none) (ty : TypeId) (x y : Operand) (ho : o.op = .store ty x y)
    (g : Nat) (cs old : Array Value) (hx : a.eval x = .pointer (some ⟨g, 0, none⟩)) (hy : a.eval y = .agg cs)
    (t : TypeId) (hg : Has w g t old) (hi : (P.info? ty).map (·.size) = some cs.size) (hn : old.size = cs.size) (h1 : cs.all (·.oneCell') = true)
    (h : ∀ w', Has w' g t cs → Turn (fun k => k = g) w w' → wpList P ops Q rest (a.put o.dst undef) w') : wpList P ops Q (o :: rest) a w :=
  wpList_store_row hgd ty x y ho g cs hx hy t old hg hi hn h1 (h _ (hg.row _) (turn_row _ _ _))
/-- A store of a whole block as one step of a region that draws its order. -/
theorem step_store_cells {w : World} {ops : Array Oper} {o : Oper} {a : Act} {K : Act → World → Prop} {Q : Exit → Act → World → Prop} {E : Prop} (hgd : o.guard = none) (ty : TypeId) (x y : Operand) (ho : o.op = .store ty x y)
    (g : Nat) (cs old : Array Value) (hx : a.eval x = .pointer (some ⟨g, 0, none⟩)) (hy : a.eval y = .agg cs)
    (t : TypeId) (hg : Has w g t old) (hi : (P.info? ty).map (·.size) = some cs.size) (hn : old.size = cs.size) (h1 : cs.all (·.oneCell') = true)
    (h : ∀ w', Has w' g t cs → Turn (fun k => k = g) w w' → K (a.put o.dst undef) w') :
    if Region.wanted o (yielded ops a.tmps) = true then Oper.wp P o a w K Q else E := by
  have hw : Region.wanted o (yielded ops a.tmps) = true := by simp [Region.wanted, hgd]
  rw [if_pos hw]
  exact wp_store_row ty x y ho g cs hx hy t old hg hi hn h1 (h _ (hg.row _) (turn_row _ _ _))
end

theorem newpost_below {n : Nat} {w w' : World} {en : Ending} (h : cel.NewPost Unit n w en w') : Below w.heap.size w w' := by obtain ⟨_, _, _, _, _, h, _⟩ := h; exact h
end Go.Proofs.Ytbpcfkniflgmfaa.prc
end

section
/- Law 16's state: its program's steps beside the document's. -/
namespace Go.Proofs.Ytbpcfkniflgmfaa.prc
open Go Go.RowKit

theorem Sys.later {w V : World} {d c m P L K : Nat} {A : Ab} {I : Nat → Prop} {B : Nat → Nat} (h : Sys w d c m P L A K I B V) : Sys w d c m P L A (K + 1) I B V := by
  refine ⟨?_, h.pr, h.lo, h.inj, h.lt, h.turn⟩
  obtain ⟨D, a, ho, ha⟩ := h.mm
  exact ⟨D, a, ho, by have := ha; omega⟩

/-- The program's processes are at A', the document's still at A. -/
structure Sh (w : World) (P L : Nat) (A' A : Ab) (K d c m : Nat) (B : Nat → Nat) (O : Nat → ByteArray) (l s v p : Value) (V : World) : Prop where
  sys : Sys w d c m P L A' K (fun i => i < P) B V
  good : Good P L A'
  sq : ∀ i, (A'.X i).seq ≤ K
  ls : Seg V 52 1 l P (ptrs B P)
  tl : P ≠ 0 → Thick l P
  lo : ∀ b, l.ownBlock = some b → w.heap.size ≤ b
  dw : Dw V s v p P L A O
  gd : Good P L A

section
variable {w V V' : World} {P L K d c m i : Nat} {A A' : Ab} {B : Nat → Nat} {O : Nat → ByteArray} {l s v p : Value}

/-- Neither the slice of processes nor the document's rows lie in what a process turns. -/
theorem Sd.apart (h : Sd w P L P A K d c m B O l s v p V) {F : Nat → Prop} (hF : ∀ j, F j → (∃ i, i < P ∧ j = B i) ∨ Mb d c m j) (t : Turn F V V') :
    Seg V' 52 1 l P (ptrs B P) ∧ Dw V' s v p P L A O := by
  have key : ∀ {e : TypeId} {z n : Nat} {u : Value} {xs : List Value}, Seg V e z u n xs → e ≠ 112 → e ≠ 102 → e ≠ 99 → ∀ b, u.ownBlock = some b → ¬ F b := by
    intro e z n u xs hs h1 h2 h3 b hb hf
    rcases hF b hf with ⟨i, hi, rfl⟩ | hm
    · obtain ⟨y, hy, _⟩ := h.sys.pr i hi
      exact hs.ne hy h1 hb
    · obtain ⟨cs, hc⟩ := Seg.has hs hb
      exact h.sys.mm.ne hc h2 h3 hm
  exact ⟨h.ls.turn t (key h.ls (by decide) (by decide) (by decide)), h.dw.turn t (key h.dw.slots (by decide) (by decide) (by decide)) (key h.dw.wish (by decide) (by decide) (by decide)) (key h.dw.procs (by decide) (by decide) (by decide))⟩

theorem Sd.stepSys (h : Sd w P L P A K d c m B O l s v p V) (hi : i < P) (hP : P ≤ 64) (hL : L ≤ 256) (hK : K ≤ 900000) {A' : Ab} {dn fl : Bool} {sl : Int} (h1 : (prc.step P L A i).1 = A') (h2 : (prc.step P L A i).2.done = dn) (h3 : (prc.step P L A i).2.full = fl) (h4 : ((prc.step P L A i).2.slot : Int) = sl) :
    Calls Try.prog 16 #[.pointer (some ⟨B i, 0, none⟩), .pointer (some ⟨d, 0, none⟩)] V fun en V' => en = .returned (.agg #[.bool dn, .bool fl, .int .i64 sl]) ∧ Sh w P L A' A (K + 1) d c m B O l s v p V' ∧ Turn (fun j => (∃ i, i < P ∧ j = B i) ∨ Mb d c m j) V V' := by
  refine (h.sys.step_is h.good hi hP hL hK h1 h2 h3 h4).mono ?_
  rintro en V' ⟨rfl, hs, t⟩
  obtain ⟨a1, a2⟩ := h.apart (fun _ e => e) t
  subst h1
  exact ⟨rfl, ⟨hs, h.good.step hi, fun j => by rw [(step_seq j).1]; exact Nat.le_succ_of_le (h.sq j), a1, h.tl, h.lo, a2, h.good⟩, t⟩

theorem Sh.below (h : Sh w P L A' A K d c m B O l s v p V) (hb : Below V.heap.size V V') : Sh w P L A' A K d c m B O l s v p V' :=
  ⟨h.sys.below hb, h.good, h.sq, h.ls.below hb (fun _ e => h.ls.lt e), h.tl, h.lo, h.dw.below hb, h.gd⟩

def ShPost (w : World) (P L K d c m : Nat) (A' : Ab) (B : Nat → Nat) (l : Value) (e : En) (V : World) (en : Ending) (V' : World) : Prop :=
  ∃ (O : Nat → ByteArray) (s v p : Value), en = .returned (.tuple #[.agg #[s, v, p], .agg #[.bool e.done, .bool e.full, .int .i64 e.slot]]) ∧ Sd w P L P A' K d c m B O l s v p V' ∧ Below V.heap.size V V'

theorem Sh.stepDoc (h : Sh w P L (prc.step P L A i).1 A K d c m B O l s v p V) (hi : i < P) (hP : P ≤ 64) (hL : L ≤ 256) :
    Calls Try.prog 38 #[.agg #[s, v, p], .int .i64 i] V (ShPost w P L K d c m (prc.step P L A i).1 B l (prc.step P L A i).2 V) := by
  obtain ⟨D, hI⟩ := h.gd.inv
  refine (h.dw.step h.gd.fit hI hi hP hL (h.gd.next i)).mono ?_
  rintro en V' ⟨O', s', v', p', rfl, hd, hb⟩
  have h' := h.below hb
  exact ⟨O', s', v', p', rfl, ⟨h'.sys, h'.good, h'.sq, h'.ls, h'.tl, h'.lo, hd⟩, hb⟩

theorem Sd.beginSys (h : Sd w P L P A K d c m B O l s v p V) (hi : i < P) (hP : P ≤ 64) (h0 : (A.X i).next = 0) (hK : K ≤ 900000) (b : ByteArray) (hb : b.size ≤ 1024) :
    Calls Try.prog 36 #[.pointer (some ⟨B i, 0, none⟩), .string b] V fun en V' => en = .returned (.int .i64 0) ∧ Sh w P L (begins A i b) A (K + 1) d c m B O l s v p V' ∧ Turn (fun j => j = B i) V V' := by
  have hq := h.sq i
  refine (h.sys.begins hi h0 b (by omega) (by omega) hb).mono ?_
  rintro en V' ⟨rfl, hs, t⟩
  obtain ⟨a1, a2⟩ := h.apart (fun j e => .inl ⟨i, hi, e⟩) t
  refine ⟨rfl, ⟨hs.later, h.good.begins (by omega) (by omega) hb, fun j => ?_, a1, h.tl, h.lo, a2, h.good⟩, t⟩
  unfold prc.begins
  rw [put_X]
  split
  · rename_i e; subst e; exact Nat.succ_le_succ hq
  · exact Nat.le_succ_of_le (h.sq j)

theorem Sh.beginDoc {b : ByteArray} (h : Sh w P L (begins A i b) A K d c m B O l s v p V) (hi : i < P) (hP : P ≤ 64) (hq : (A.X i).seq ≤ 1099511627776) :
    Calls Try.prog 39 #[.agg #[s, v, p], .int .i64 i, .string b] V fun en V' => ∃ (O : Nat → ByteArray) (s v p : Value), en = .returned (.agg #[s, v, p]) ∧ Sd w P L P (begins A i b) K d c m B O l s v p V' ∧ Below V.heap.size V V' := by
  refine (h.dw.begin hi hP b hq).mono ?_
  rintro en V' ⟨s', v', p', rfl, hd, hb⟩
  have h' := h.below hb
  exact ⟨_, s', v', p', rfl, ⟨h'.sys, h'.good, h'.sq, h'.ls, h'.tl, h'.lo, hd⟩, hb⟩

theorem Sd.headSys (h : Sd w P L P A K d c m B O l s v p V) (hi : i < P) (h0 : (A.X i).next = 0) :
    Calls Try.prog 40 #[.pointer (some ⟨B i, 0, none⟩)] V fun en V' => en = .returned (.int .i64 0) ∧ Sh w P L (begHead A i) A (K + 1) d c m B O l s v p V' ∧ Turn (fun j => j = B i) V V' := by
  refine (h.sys.head hi h0).mono ?_
  rintro en V' ⟨rfl, hs, t⟩
  obtain ⟨a1, a2⟩ := h.apart (fun j e => .inl ⟨i, hi, e⟩) t
  refine ⟨rfl, ⟨hs.later, h.good.begHead i, fun j => ?_, a1, h.tl, h.lo, a2, h.good⟩, t⟩
  unfold prc.begHead
  rw [put_X]
  split
  · rename_i e; subst e; exact Nat.le_succ_of_le (h.sq j)
  · exact Nat.le_succ_of_le (h.sq j)

theorem Sh.headDoc (h : Sh w P L (begHead A i) A K d c m B O l s v p V) (hi : i < P) (hP : P ≤ 64) :
    Calls Try.prog 41 #[.agg #[s, v, p], .int .i64 i] V fun en V' => ∃ (O : Nat → ByteArray) (s v p : Value), en = .returned (.agg #[s, v, p]) ∧ Sd w P L P (begHead A i) K d c m B O l s v p V' ∧ Below V.heap.size V V' := by
  refine (h.dw.head hi hP).mono ?_
  rintro en V' ⟨s', v', p', rfl, hd, hb⟩
  have h' := h.below hb
  exact ⟨_, s', v', p', rfl, ⟨h'.sys, h'.good, h'.sq, h'.ls, h'.tl, h'.lo, hd⟩, hb⟩

/-- A block of another type turns, between a program's step and the document's. -/
theorem Sh.turned (h : Sh w P L A' A K d c m B O l s v p V) {x : Nat} {t : TypeId} {cs : Array Value} (hx : Has V x t cs) (t1 : Turn (fun j => j = x) V V') (hw : w.heap.size ≤ x)
    (h1 : t ≠ 102) (h2 : t ≠ 99) (h3 : 112 ≠ t) (h4 : 52 ≠ t) (h5 : 9 ≠ t) (h6 : 40 ≠ t) : Sh w P L A' A K d c m B O l s v p V' := by
  refine ⟨h.sys.other t1 (fun j e => by rw [e]; exact hw) (fun j e => by rw [e]; exact h.sys.mm.ne hx h1 h2) (fun j i e hi e2 => ?_), h.good, h.sq, h.ls.turn t1 (fun b hb e => h.ls.ne hx h4 (by rw [hb, e])), h.tl, h.lo, h.dw.turn t1 (fun b hb e => h.dw.slots.ne hx h5 (by rw [hb, e])) (fun b hb e => h.dw.wish.ne hx h5 (by rw [hb, e])) (fun b hb e => h.dw.procs.ne hx h6 (by rw [hb, e])), h.gd⟩
  obtain ⟨y, hy, _⟩ := h.sys.pr i hi
  rw [e2, e] at hy
  exact h3 ((Has.uniq hy hx).2)
end
end Go.Proofs.Ytbpcfkniflgmfaa.prc
end

section
/- Law 16's Does: acts that do nothing. -/
namespace Go.Proofs.Ytbpcfkniflgmfaa.prc
open Go Go.RowKit

theorem someP (n : Int) {P : Nat} (h : 0 < P) : ∃ i : Nat, ((i : Nat) : Int) = (n % 256).tmod P ∧ i < P := by
  refine ⟨((n % 256) % (P : Int)).toNat, ?_, ?_⟩
  · rw [Int.tmod_eq_emod_of_nonneg (by omega)]
    have := Int.emod_nonneg (n % 256) (show (P : Int) ≠ 0 by omega)
    omega
  · have := Int.emod_lt_of_pos (n % 256) (show (0 : Int) < (P : Int) by omega)
    have := Int.emod_nonneg (n % 256) (show (P : Int) ≠ 0 by omega)
    omega

theorem res_does {fn : Func} {t u q : Tmp} (h : fn.results = #[.cell t 33, .cell u 42, .tmp q]) (tmps : Array Value) (w : World) (g r : Nat) (a b e f i j k x y z : Value) (ok : Bool) (hx : tmps.getD t undef = .pointer (some ⟨g, 0, none⟩)) (hy : tmps.getD u undef = .pointer (some ⟨r, 0, none⟩)) (hq : tmps.getD q undef = .bool ok)
    (hE : Has w g 33 #[a, b, e, f, i, j, k]) (hF : Has w r 42 #[x, y, z]) :
    (results fn tmps).run Try.prog w = .ok (.tuple #[.agg #[a, b, e, f, i, j, k], .agg #[x, y, z], .bool ok]) w := by
  have c0 : w.cell? ⟨g, 0, none⟩ = some a := hE.cell 0
  have c1 : w.cell? ⟨g, 1, none⟩ = some b := hE.cell 1
  have c2 : w.cell? ⟨g, 2, none⟩ = some e := hE.cell 2
  have c3 : w.cell? ⟨g, 3, none⟩ = some f := hE.cell 3
  have c4 : w.cell? ⟨g, 4, none⟩ = some i := hE.cell 4
  have c5 : w.cell? ⟨g, 5, none⟩ = some j := hE.cell 5
  have c6 : w.cell? ⟨g, 6, none⟩ = some k := hE.cell 6
  have d0 : w.cell? ⟨r, 0, none⟩ = some x := hF.cell 0
  have d1 : w.cell? ⟨r, 1, none⟩ = some y := hF.cell 1
  have d2 : w.cell? ⟨r, 2, none⟩ = some z := hF.cell 2
  rw [Array.getD_eq_getD_getElem?] at hx hy hq
  simp [results, h, hx, hy, hq, go_sem, c0, c1, c2, c3, c4, c5, c6, d0, d1, d2]

set_option maxRecDepth 100000 in
set_option maxHeartbeats 4000000 in
theorem does_other {w V : World} {P L K d c m : Nat} {A : Ab} {B : Nat → Nat} {O : Nat → ByteArray} {l s v p : Value} (h : Sd w P L P A K d c m B O l s v p V) (hP0 : 0 < P) (hP : P ≤ 5) (hL : L ≤ 20) (kind who : Int) (body : ByteArray) (h1 : kind ≠ 1) (h2 : kind ≠ 2) (h3 : kind ≠ 3) :
    Calls Try.prog 9 #[.agg (stC P L d l s v p), .agg #[.int .i64 kind, .int .i64 who, .string body]] V fun en V' => en = .returned (.tuple #[.agg (stC P L d l s v p), .agg #[.bool false, .bool false, .int .i64 0], .bool true]) ∧ Sd w P L P A K d c m B O l s v p V' ∧ Below V.heap.size V V' := by
  obtain ⟨i, hi, hiP⟩ := someP who hP0
  have a0 := mask255 who
  generalize who % 256 = n2 at *
  have a1 : n2.tmod (P : Int) = (i : Int) := hi.symm
  obtain ⟨gl, ol, cl, rfl⟩ := h.tl (by omega)
  obtain ⟨g, o, cq, rfl, hg, q0, q1, q2, q3, q4, q5⟩ := h.dw.proc hiP
  obtain ⟨gs, os, cs, rfl⟩ := h.dw.ts
  obtain ⟨gv, ov, cv, rfl⟩ := h.dw.tw
  obtain ⟨gl', ol', cl', e, hgl, -, -, hc⟩ := h.ls.cells hP0
  obtain ⟨rfl, rfl⟩ : gl = gl' ∧ ol = ol' := by injection e with e1 e2 e3; injection e1 with e1; injection e1 with e1 e4; exact ⟨e1, e4⟩
  have ci := hc i _ (ptrs_at B hiP)
  have g0 : (0 : Int) ≤ (i : Int) := by omega
  have g1 : (i : Int) < (P : Int) := by omega
  have g2 : ¬ (P : Int) = 0 := by omega
  have g3 : ((P : Int) == 0) = false := by simpa using g2
  have g4 : ¬ P = 0 := by omega
  have k1 : (kind == 1) = false := by simpa using h1
  have k2 : (kind == 2) = false := by simpa using h2
  have k3 : (kind == 3) = false := by simpa using h3
  have H := Lib.hid h
  have HB := Lib.hid (And.intro hP0 (And.intro hP hL))
  have z0 : g < V.heap.size + 1 := by omega
  have z1 : g < V.heap.size + 1 + 1 := by omega
  have z2 : g < V.heap.size + 1 + 1 + 1 := by omega
  have y0 : gl < V.heap.size + 1 := by omega
  have y1 : gl < V.heap.size + 1 + 1 := by omega
  have y2 : gl < V.heap.size + 1 + 1 + 1 := by omega
  clear h e hc hi hP0 hP hL hiP h1 h2 h3 q1 q2 q3 q4 q5
  go_enter Try.func9, Try.ntmps9
  go_wp2_with fail
  refine bodyPost_ret (res_does rfl _ _ (V.heap.size + 1 + 1) (V.heap.size + 1 + 1 + 1) _ _ _ _ _ _ _ _ _ _ true rfl rfl rfl ((made_at _ _ (by simp)).alloc _) (made_at _ _ (by simp))) rfl ⟨rfl, H.out.below (below4 V _ _ _ _), below4 V _ _ _ _⟩
end Go.Proofs.Ytbpcfkniflgmfaa.prc
end

section
/- Law 16's Does: acts on a process that is busy. -/
namespace Go.Proofs.Ytbpcfkniflgmfaa.prc
open Go Go.RowKit

set_option maxRecDepth 100000 in
set_option maxHeartbeats 4000000 in
theorem does_head_busy {w V : World} {P L K d c m : Nat} {A : Ab} {B : Nat → Nat} {O : Nat → ByteArray} {l s v p : Value} (h : Sd w P L P A K d c m B O l s v p V) (hP0 : 0 < P) (hP : P ≤ 5) (hL : L ≤ 20) (who : Int) (body : ByteArray) (hb : ∀ i, ((i : Nat) : Int) = (who % 256).tmod P → (A.X i).next ≠ 0) :
    Calls Try.prog 9 #[.agg (stC P L d l s v p), .agg #[.int .i64 3, .int .i64 who, .string body]] V fun en V' => en = .returned (.tuple #[.agg (stC P L d l s v p), .agg #[.bool false, .bool false, .int .i64 0], .bool true]) ∧ Sd w P L P A K d c m B O l s v p V' ∧ Below V.heap.size V V' := by
  obtain ⟨i, hi, hiP⟩ := someP who hP0
  have a0 := mask255 who
  generalize who % 256 = n2 at *
  have a1 : n2.tmod (P : Int) = (i : Int) := hi.symm
  obtain ⟨gl, ol, cl, rfl⟩ := h.tl (by omega)
  obtain ⟨g, o, cq, rfl, hg, q0, q1, q2, q3, q4, q5⟩ := h.dw.proc hiP
  obtain ⟨gs, os, cs, rfl⟩ := h.dw.ts
  obtain ⟨gv, ov, cv, rfl⟩ := h.dw.tw
  obtain ⟨gl', ol', cl', e, hgl, -, -, hc⟩ := h.ls.cells hP0
  obtain ⟨rfl, rfl⟩ : gl = gl' ∧ ol = ol' := by injection e with e1 e2 e3; injection e1 with e1; injection e1 with e1 e4; exact ⟨e1, e4⟩
  have ci := hc i _ (ptrs_at B hiP)
  have g0 : (0 : Int) ≤ (i : Int) := by omega
  have g1 : (i : Int) < (P : Int) := by omega
  have g2 : ¬ (P : Int) = 0 := by omega
  have g3 : ((P : Int) == 0) = false := by simpa using g2
  have g4 : ¬ P = 0 := by omega
  have hbi : ((A.X i).next : Int) ≠ 0 := by have := hb i hi; omega
  have kb : (((A.X i).next : Int) == 0) = false := by simpa using hbi
  have kc : (((A.X i).next : Int) != 0) = true := by simpa using hbi
  have H := Lib.hid h
  have HB := Lib.hid (And.intro hP0 (And.intro hP (And.intro hL hiP)))
  have HX := Lib.hid (hb i hi)
  have z0 : g < V.heap.size + 1 := by omega
  have z1 : g < V.heap.size + 1 + 1 := by omega
  have z2 : g < V.heap.size + 1 + 1 + 1 := by omega
  have y0 : gl < V.heap.size + 1 := by omega
  have y1 : gl < V.heap.size + 1 + 1 := by omega
  have y2 : gl < V.heap.size + 1 + 1 + 1 := by omega
  clear h e hc hi hP0 hP hL hiP q1 q2 q3 q4 q5
  go_enter Try.func9, Try.ntmps9
  go_wp2_with (first
    | (go_at_call 40; refine ((H.out.below (below4 V _ _ _ _)).sys.busyHead HB.out.2.2.2 HX.out).mono ?_; rintro en w6 ⟨rfl, rfl⟩)
    | fail)

  refine bodyPost_ret (res_does rfl _ _ (V.heap.size + 1 + 1) (V.heap.size + 1 + 1 + 1) _ _ _ _ _ _ _ _ _ _ true rfl rfl rfl ((made_at _ _ (by simp)).alloc _) (made_at _ _ (by simp))) rfl ⟨rfl, H.out.below (below4 V _ _ _ _), below4 V _ _ _ _⟩
set_option maxRecDepth 100000 in
set_option maxHeartbeats 4000000 in
theorem does_begin_busy {w V : World} {P L K d c m : Nat} {A : Ab} {B : Nat → Nat} {O : Nat → ByteArray} {l s v p : Value} (h : Sd w P L P A K d c m B O l s v p V) (hP0 : 0 < P) (hP : P ≤ 5) (hL : L ≤ 20) (who : Int) (body : ByteArray) (hs : body.size ≤ maxLen) (hb : ∀ i, ((i : Nat) : Int) = (who % 256).tmod P → (A.X i).next ≠ 0) :
    Calls Try.prog 9 #[.agg (stC P L d l s v p), .agg #[.int .i64 2, .int .i64 who, .string body]] V fun en V' => en = .returned (.tuple #[.agg (stC P L d l s v p), .agg #[.bool false, .bool false, .int .i64 0], .bool true]) ∧ Sd w P L P A K d c m B O l s v p V' ∧ Below V.heap.size V V' := by
  obtain ⟨i, hi, hiP⟩ := someP who hP0
  have a0 := mask255 who
  generalize who % 256 = n2 at *
  have a1 : n2.tmod (P : Int) = (i : Int) := hi.symm
  obtain ⟨gl, ol, cl, rfl⟩ := h.tl (by omega)
  obtain ⟨g, o, cq, rfl, hg, q0, q1, q2, q3, q4, q5⟩ := h.dw.proc hiP
  obtain ⟨gs, os, cs, rfl⟩ := h.dw.ts
  obtain ⟨gv, ov, cv, rfl⟩ := h.dw.tw
  obtain ⟨gl', ol', cl', e, hgl, -, -, hc⟩ := h.ls.cells hP0
  obtain ⟨rfl, rfl⟩ : gl = gl' ∧ ol = ol' := by injection e with e1 e2 e3; injection e1 with e1; injection e1 with e1 e4; exact ⟨e1, e4⟩
  have ci := hc i _ (ptrs_at B hiP)
  have g0 : (0 : Int) ≤ (i : Int) := by omega
  have g1 : (i : Int) < (P : Int) := by omega
  have g2 : ¬ (P : Int) = 0 := by omega
  have g3 : ((P : Int) == 0) = false := by simpa using g2
  have g4 : ¬ P = 0 := by omega
  have hbi : ((A.X i).next : Int) ≠ 0 := by have := hb i hi; omega
  have kb : (((A.X i).next : Int) == 0) = false := by simpa using hbi
  have kc : (((A.X i).next : Int) != 0) = true := by simpa using hbi
  have H := Lib.hid h
  have HB := Lib.hid (And.intro hP0 (And.intro hP (And.intro hL hiP)))
  have HX := Lib.hid (hb i hi)
  have HS := Lib.hid hs
  clear hs hb
  have z0 : g < V.heap.size + 1 := by omega
  have z1 : g < V.heap.size + 1 + 1 := by omega
  have z2 : g < V.heap.size + 1 + 1 + 1 := by omega
  have y0 : gl < V.heap.size + 1 := by omega
  have y1 : gl < V.heap.size + 1 + 1 := by omega
  have y2 : gl < V.heap.size + 1 + 1 + 1 := by omega
  clear h e hc hi hP0 hP hL hiP q1 q2 q3 q4 q5
  go_enter Try.func9, Try.ntmps9
  go_wp2_with (first
    | (go_at_call 28; refine (cel.cut_calls body 20 _ (by decide) HS.out).mono ?_; rintro en w5 ⟨rfl, rfl⟩)
    | (go_at_call 36; refine ((H.out.below (below4 V _ _ _ _)).sys.busy HB.out.2.2.2 HX.out _).mono ?_; rintro en w6 ⟨rfl, rfl⟩)
    | fail)
  refine bodyPost_ret (res_does rfl _ _ (V.heap.size + 1 + 1) (V.heap.size + 1 + 1 + 1) _ _ _ _ _ _ _ _ _ _ true rfl rfl rfl ((made_at _ _ (by simp)).alloc _) (made_at _ _ (by simp))) rfl ⟨rfl, H.out.below (below4 V _ _ _ _), below4 V _ _ _ _⟩
end Go.Proofs.Ytbpcfkniflgmfaa.prc
end

section
/- Law 16's Does: reading the head. -/
namespace Go.Proofs.Ytbpcfkniflgmfaa.prc
open Go Go.RowKit

def DoPost (w V : World) (P L K d c m : Nat) (A : Ab) (B : Nat → Nat) (l : Value) (e : En) (en : Ending) (V' : World) : Prop :=
  ∃ (O : Nat → ByteArray) (s v p : Value), en = .returned (.tuple #[.agg (stC P L d l s v p), .agg #[.bool e.done, .bool e.full, .int .i64 e.slot], .bool true]) ∧ Sd w P L P A K d c m B O l s v p V' ∧ Turn (fun j => (∃ i, i < P ∧ j = B i) ∨ Mb d c m j ∨ V.heap.size ≤ j) V V'

/-- The document's new rows are stored in the state's box, the state in the result's, the end in its own. -/
theorem Sd.stored {w V : World} {P L K d c m : Nat} {A : Ab} {B : Nat → Nat} {O : Nat → ByteArray} {l s v p : Value} (h : Sd w P L P A K d c m B O l s v p V) {x y z : Nat} {cs : Array Value} {e0 e1 e2 : Value}
    (hx : Has V x 33 cs) (hy : Has V y 33 stZ) (hz : Has V z 42 #[e0, e1, e2]) (wx : w.heap.size ≤ x) (wy : w.heap.size ≤ y) (wz : w.heap.size ≤ z) (xy : y ≠ x) (xz : z ≠ x) (yz : z ≠ y) (a1 a2 a3 a4 a5 a6 a7 b0 b1 b2 : Value) :
    Sd w P L P A K d c m B O l s v p (((((((((((((V.setCell ⟨x, 4, none⟩ s).setCell ⟨x, 5, none⟩ v).setCell ⟨x, 6, none⟩ p).setCell ⟨y, 0, none⟩ a1).setCell ⟨y, 1, none⟩ a2).setCell ⟨y, 2, none⟩ a3).setCell ⟨y, 3, none⟩ a4).setCell ⟨y, 4, none⟩ a5).setCell ⟨y, 5, none⟩ a6).setCell ⟨y, 6, none⟩ a7).setCell ⟨z, 0, none⟩ b0).setCell ⟨z, 1, none⟩ b1).setCell ⟨z, 2, none⟩ b2) ∧
    Has (((((((((((((V.setCell ⟨x, 4, none⟩ s).setCell ⟨x, 5, none⟩ v).setCell ⟨x, 6, none⟩ p).setCell ⟨y, 0, none⟩ a1).setCell ⟨y, 1, none⟩ a2).setCell ⟨y, 2, none⟩ a3).setCell ⟨y, 3, none⟩ a4).setCell ⟨y, 4, none⟩ a5).setCell ⟨y, 5, none⟩ a6).setCell ⟨y, 6, none⟩ a7).setCell ⟨z, 0, none⟩ b0).setCell ⟨z, 1, none⟩ b1).setCell ⟨z, 2, none⟩ b2) y 33 #[a1, a2, a3, a4, a5, a6, a7] ∧
    Has (((((((((((((V.setCell ⟨x, 4, none⟩ s).setCell ⟨x, 5, none⟩ v).setCell ⟨x, 6, none⟩ p).setCell ⟨y, 0, none⟩ a1).setCell ⟨y, 1, none⟩ a2).setCell ⟨y, 2, none⟩ a3).setCell ⟨y, 3, none⟩ a4).setCell ⟨y, 4, none⟩ a5).setCell ⟨y, 5, none⟩ a6).setCell ⟨y, 6, none⟩ a7).setCell ⟨z, 0, none⟩ b0).setCell ⟨z, 1, none⟩ b1).setCell ⟨z, 2, none⟩ b2) z 42 #[b0, b1, b2] ∧ Turn (fun j => j = x ∨ j = y ∨ j = z) V (((((((((((((V.setCell ⟨x, 4, none⟩ s).setCell ⟨x, 5, none⟩ v).setCell ⟨x, 6, none⟩ p).setCell ⟨y, 0, none⟩ a1).setCell ⟨y, 1, none⟩ a2).setCell ⟨y, 2, none⟩ a3).setCell ⟨y, 3, none⟩ a4).setCell ⟨y, 4, none⟩ a5).setCell ⟨y, 5, none⟩ a6).setCell ⟨y, 6, none⟩ a7).setCell ⟨z, 0, none⟩ b0).setCell ⟨z, 1, none⟩ b1).setCell ⟨z, 2, none⟩ b2) := by
  have t1 : Turn (fun j => j = x) V (((V.setCell ⟨x, 4, none⟩ s).setCell ⟨x, 5, none⟩ v).setCell ⟨x, 6, none⟩ p) := (((Turn.refl (fun j => j = x) V).put (fun _ => rfl) 4 _).put (fun _ => rfl) 5 _).put (fun _ => rfl) 6 _
  have h1 := h.turned hx t1 wx (by decide) (by decide) (by decide) (by decide) (by decide) (by decide)
  have hy1 := hy.turn t1 xy
  have hz1 := hz.turn t1 xz
  generalize (((V.setCell ⟨x, 4, none⟩ s).setCell ⟨x, 5, none⟩ v).setCell ⟨x, 6, none⟩ p) = U at *
  have t2 : Turn (fun j => j = y) U (((((((U.setCell ⟨y, 0, none⟩ a1).setCell ⟨y, 1, none⟩ a2).setCell ⟨y, 2, none⟩ a3).setCell ⟨y, 3, none⟩ a4).setCell ⟨y, 4, none⟩ a5).setCell ⟨y, 5, none⟩ a6).setCell ⟨y, 6, none⟩ a7) :=
    (((((((Turn.refl (fun j => j = y) U).put (fun _ => rfl) 0 _).put (fun _ => rfl) 1 _).put (fun _ => rfl) 2 _).put (fun _ => rfl) 3 _).put (fun _ => rfl) 4 _).put (fun _ => rfl) 5 _).put (fun _ => rfl) 6 _
  have h2 := h1.turned hy1 t2 wy (by decide) (by decide) (by decide) (by decide) (by decide) (by decide)
  have hy2 : Has (((((((U.setCell ⟨y, 0, none⟩ a1).setCell ⟨y, 1, none⟩ a2).setCell ⟨y, 2, none⟩ a3).setCell ⟨y, 3, none⟩ a4).setCell ⟨y, 4, none⟩ a5).setCell ⟨y, 5, none⟩ a6).setCell ⟨y, 6, none⟩ a7) y 33 #[a1, a2, a3, a4, a5, a6, a7] := by simpa using ((((((hy1.put 0 a1).put 1 a2).put 2 a3).put 3 a4).put 4 a5).put 5 a6).put 6 a7
  have hz2 := hz1.turn t2 yz
  generalize (((((((U.setCell ⟨y, 0, none⟩ a1).setCell ⟨y, 1, none⟩ a2).setCell ⟨y, 2, none⟩ a3).setCell ⟨y, 3, none⟩ a4).setCell ⟨y, 4, none⟩ a5).setCell ⟨y, 5, none⟩ a6).setCell ⟨y, 6, none⟩ a7) = U2 at *
  have t3 : Turn (fun j => j = z) U2 (((U2.setCell ⟨z, 0, none⟩ b0).setCell ⟨z, 1, none⟩ b1).setCell ⟨z, 2, none⟩ b2) := (((Turn.refl (fun j => j = z) U2).put (fun _ => rfl) 0 _).put (fun _ => rfl) 1 _).put (fun _ => rfl) 2 _
  have T : Turn (fun j => j = x ∨ j = y ∨ j = z) V (((U2.setCell ⟨z, 0, none⟩ b0).setCell ⟨z, 1, none⟩ b1).setCell ⟨z, 2, none⟩ b2) := ((t1.more (fun j _ e => .inl e)).trans t2 (fun j _ e => .inr (.inl e))).trans t3 (fun j _ e => .inr (.inr e))
  exact ⟨h2.turned hz2 t3 wz (by decide) (by decide) (by decide) (by decide) (by decide) (by decide), hy2.turn t3 (fun e => yz e.symm), by simpa using ((hz2.put 0 b0).put 1 b1).put 2 b2, T⟩

set_option maxRecDepth 100000 in
set_option maxHeartbeats 4000000 in
theorem does_head {w V : World} {P L K d c m : Nat} {A : Ab} {B : Nat → Nat} {O : Nat → ByteArray} {l s v p : Value} (h : Sd w P L P A K d c m B O l s v p V) (hP0 : 0 < P) (hP : P ≤ 5) (hL : L ≤ 20) (who : Int) (body : ByteArray) (i : Nat) (hi : ((i : Nat) : Int) = (who % 256).tmod P) (hiP : i < P) (hb : (A.X i).next = 0) :
    Calls Try.prog 9 #[.agg (stC P L d l s v p), .agg #[.int .i64 3, .int .i64 who, .string body]] V (DoPost w V P L (K + 1) d c m (begHead A i) B l nope) := by
  have a0 := mask255 who
  generalize who % 256 = n2 at *
  have a1 : n2.tmod (P : Int) = (i : Int) := hi.symm
  obtain ⟨gl, ol, cl, rfl⟩ := h.tl (by omega)
  obtain ⟨g, o, cq, rfl, hg, q0, q1, q2, q3, q4, q5⟩ := h.dw.proc hiP
  obtain ⟨gs, os, cs, rfl⟩ := h.dw.ts
  obtain ⟨gv, ov, cv, rfl⟩ := h.dw.tw
  obtain ⟨gl', ol', cl', e, hgl, -, -, hc⟩ := h.ls.cells hP0
  obtain ⟨rfl, rfl⟩ : gl = gl' ∧ ol = ol' := by injection e with e1 e2 e3; injection e1 with e1; injection e1 with e1 e4; exact ⟨e1, e4⟩
  have ci := hc i _ (ptrs_at B hiP)
  have g0 : (0 : Int) ≤ (i : Int) := by omega
  have g1 : (i : Int) < (P : Int) := by omega
  have g2 : ¬ (P : Int) = 0 := by omega
  have g3 : ((P : Int) == 0) = false := by simpa using g2
  have g4 : ¬ P = 0 := by omega
  have hbi : ((A.X i).next : Int) = 0 := by omega
  rw [hbi] at q0
  have H := Lib.hid h
  have HB := Lib.hid (And.intro hP0 (And.intro hP (And.intro hL hiP)))
  have HX := Lib.hid hb
  clear hb hbi
  have z0 : g < V.heap.size + 1 := by omega
  have z1 : g < V.heap.size + 1 + 1 := by omega
  have z2 : g < V.heap.size + 1 + 1 + 1 := by omega
  have y0 : gl < V.heap.size + 1 := by omega
  have y1 : gl < V.heap.size + 1 + 1 := by omega
  have y2 : gl < V.heap.size + 1 + 1 + 1 := by omega
  clear h e hc hi hP0 hP hL hiP q1 q2 q3 q4 q5
  go_enter Try.func9, Try.ntmps9
  have HBI : Hid (B i < V.heap.size ∧ w.heap.size ≤ V.heap.size) := Lib.hid (by
    obtain ⟨y, hy, _⟩ := H.out.sys.pr i HB.out.2.2.2
    exact ⟨Has.lt hy, H.out.sys.turn.size⟩)
  go_wp2_with (first
    | (go_at_call 40; refine ((H.out.below (below4 V _ _ _ _)).headSys HB.out.2.2.2 HX.out).mono ?_; rintro en w6 ⟨rfl, hsh, t6⟩
       have S6 := Lib.hid hsh
       have K6 := Lib.hid (And.intro (((((Has.made V 33 (stC P L d (.slice (some ⟨gl, ol, none⟩) P cl) (.slice (some ⟨gs, os, none⟩) L cs) (.slice (some ⟨gv, ov, none⟩) P cv) (.slice (some ⟨g, o, none⟩) P cq))).alloc _).alloc _).alloc _).turn t6 (by have := HBI.out; omega)) (And.intro (((made_at (g := V.heap.size + 1 + 1) 33 stZ (by simp)).alloc _).turn t6 (by have := HBI.out; omega)) ((made_at (g := V.heap.size + 1 + 1 + 1) 42 #[.bool false, .bool false, .int .i64 0] (by simp)).turn t6 (by have := HBI.out; omega))))
       have y4 := K6.out.1.cell 4
       have y5 := K6.out.1.cell 5
       have y6 := K6.out.1.cell 6
       have T6 : Hid (Turn (fun j => (∃ i, i < P ∧ j = B i) ∨ Mb d c m j ∨ V.heap.size ≤ j) V w6) := Lib.hid ((Turn.of_below (below4 V _ _ _ _) (F := fun j => (∃ i, i < P ∧ j = B i) ∨ Mb d c m j ∨ V.heap.size ≤ j) (fun j _ e => .inr (.inr e))).trans t6 (fun j _ e => .inl ⟨i, HB.out.2.2.2, e⟩))
       clear hsh t6)
    | (go_at_call 41; refine (S6.out.headDoc HB.out.2.2.2 (by have := HB.out; omega)).mono ?_; rintro en w7 ⟨O7, s7, v7, p7, rfl, hsd, b7⟩
       clear y4 y5 y6
       obtain ⟨gs7, os7, cs7, rfl⟩ := hsd.dw.ts
       obtain ⟨gv7, ov7, cv7, rfl⟩ := hsd.dw.tw
       obtain ⟨gp7, op7, cp7, rfl⟩ := hsd.dw.tp
       have S7 := Lib.hid hsd
       have K7 := Lib.hid (And.intro (K6.out.1.below b7 K6.out.1.lt) (And.intro (K6.out.2.1.below b7 K6.out.2.1.lt) (K6.out.2.2.below b7 K6.out.2.2.lt)))
       have y0 := K7.out.1.cell 0
       have r0 := K7.out.2.1.cell 0
       have rf0 := K7.out.2.1.free 0
       have y1 := K7.out.1.cell 1
       have r1 := K7.out.2.1.cell 1
       have rf1 := K7.out.2.1.free 1
       have y2 := K7.out.1.cell 2
       have r2 := K7.out.2.1.cell 2
       have rf2 := K7.out.2.1.free 2
       have y3 := K7.out.1.cell 3
       have r3 := K7.out.2.1.cell 3
       have rf3 := K7.out.2.1.free 3
       have y4 := K7.out.1.cell 4
       have r4 := K7.out.2.1.cell 4
       have rf4 := K7.out.2.1.free 4
       have y5 := K7.out.1.cell 5
       have r5 := K7.out.2.1.cell 5
       have rf5 := K7.out.2.1.free 5
       have y6 := K7.out.1.cell 6
       have r6 := K7.out.2.1.cell 6
       have rf6 := K7.out.2.1.free 6
       have yf4 := K7.out.1.free 4
       have yf5 := K7.out.1.free 5
       have yf6 := K7.out.1.free 6
       have e0 := K7.out.2.2.cell 0
       have ef0 := K7.out.2.2.free 0
       have e1 := K7.out.2.2.cell 1
       have ef1 := K7.out.2.2.free 1
       have e2 := K7.out.2.2.cell 2
       have ef2 := K7.out.2.2.free 2
       have T7 := Lib.hid (T6.out.trans (Turn.of_below b7 (F := fun j => w6.heap.size ≤ j) (fun _ _ e => e)) (fun j _ e => .inr (.inr (Nat.le_trans T6.out.size e))))
       clear hsd b7)
    | fail)
  have hbi := HBI.out
  obtain ⟨hs, hy, hz, ht⟩ := S7.out.stored K7.out.1 K7.out.2.1 K7.out.2.2 (by omega) (by omega) (by omega) (by omega) (by omega) (by omega) (.int .i64 P) (.int .i64 L) (.pointer (some ⟨d, 0, none⟩)) (.slice (some ⟨gl, ol, none⟩) P cl) (.slice (some ⟨gs7, os7, none⟩) L cs7) (.slice (some ⟨gv7, ov7, none⟩) P cv7) (.slice (some ⟨gp7, op7, none⟩) P cp7) (.bool false) (.bool false) (.int .i64 0)
  exact bodyPost_ret (res_does rfl _ _ (V.heap.size + 1 + 1) (V.heap.size + 1 + 1 + 1) _ _ _ _ _ _ _ _ _ _ true rfl rfl rfl hy hz) rfl ⟨O7, _, _, _, rfl, hs, T7.out.trans ht (fun j _ e => .inr (.inr (by omega)))⟩
end Go.Proofs.Ytbpcfkniflgmfaa.prc
end

