/- rank's Drop: slices.DeleteFunc, heap.Init, Drop; over the sorted list. -/
import Derived.Test.YtbpnbnbglfiglaaRankL
namespace Go.Proofs.Ytbpnbnbglfiglaa
open Go.RowKit

/-- What isn't who's. -/
def keep (who : Int) (l : List Th) : List Th := l.filter (fun x => decide (x.2.1 ≠ who))

theorem keep_append (who : Int) (a b : List Th) : keep who (a ++ b) = keep who a ++ keep who b := List.filter_append ..
theorem keep_all {who : Int} {l : List Th} (h : ∀ x ∈ l, x.2.1 ≠ who) : keep who l = l := List.filter_eq_self.2 (fun x hx => by simpa using h x hx)
theorem keep_one {who : Int} {x : Th} (h : x.2.1 = who) : keep who [x] = [] := by simp [keep, h]
theorem keep_other {who : Int} {x : Th} (h : x.2.1 ≠ who) : keep who [x] = [x] := by simp [keep, h]

/-- Within DeleteFunc: the first i of the row are what is kept of the first j; behind them all is as it was. -/
structure Del (g cap who : Int) (l : List Th) (i j : Nat) (m : List Th) : Prop where
  len : m.length = l.length
  ij : i < j
  jl : j ≤ l.length
  kept : m.take i = keep who (l.take j)
  rest : m.drop j = l.drop j

theorem at_drop {l m : List Th} {j : Nat} (h : m.drop j = l.drop j) (hj : j < l.length) (hl : m.length = l.length) : at_ m j = at_ l j := by
  rw [at_eq (by omega), at_eq hj]
  have e1 : (m.drop j)[0]? = m[j]? := by simp
  have e2 : (l.drop j)[0]? = l[j]? := by simp
  rw [h, e2, List.getElem?_eq_getElem hj, List.getElem?_eq_getElem (by omega)] at e1
  injection e1 with e1
  exact e1.symm

theorem Del.gone {g cap who : Int} {l m : List Th} {i j : Nat} (h : Del g cap who l i j m) (hj : j < l.length) (hw : (at_ m j).2.1 = who) : Del g cap who l i (j + 1) m := by
  refine ⟨h.len, by have := h.ij; omega, hj, ?_, ?_⟩
  · rw [take_more hj, keep_append, ← at_drop h.rest hj h.len, keep_one hw, List.append_nil]; exact h.kept
  · have h2 := congrArg (List.drop 1) h.rest
    rwa [List.drop_drop, List.drop_drop] at h2

theorem Del.stays {g cap who : Int} {l m : List Th} {i j : Nat} (h : Del g cap who l i j m) (hj : j < l.length) (hw : ¬ (at_ m j).2.1 = who) : Del g cap who l (i + 1) (j + 1) (m.set i (at_ m j)) := by
  have hij := h.ij
  have hl := h.len
  refine ⟨by rw [List.length_set]; exact hl, by omega, hj, ?_, ?_⟩
  · rw [take_more hj, keep_append, ← at_drop h.rest hj h.len, keep_other hw, ← h.kept]
    rw [List.take_succ_eq_append_getElem (by rw [List.length_set]; omega), List.take_set_of_le (Nat.le_refl _)]
    simp
  · rw [List.drop_set_of_lt (by omega)]
    have h2 := congrArg (List.drop 1) h.rest
    rwa [List.drop_drop, List.drop_drop] at h2

def DelPost (w : World) (g cap : Nat) (who : Int) (l : List Th) (en : Ending) (w' : World) : Prop :=
  en = .returned (.slice (some ⟨g, 0, none⟩) (keep who l).length cap) ∧ Lie w' g cap (keep who l) ∧ w.grownBy w' (some g)

set_option maxRecDepth 100000 in
set_option maxHeartbeats 1000000 in
theorem delete_calls (g cap p : Nat) (l : List Th) (who : Int) (w : World) (h : Lie w g cap l) (hp : Who w p who) (hl : l.length ≤ 1000000) :
    Calls Try.prog 36 #[.slice (some ⟨g, 0, none⟩) l.length cap, .func (.func 37) #[] #[.pointer (some ⟨p, 0, none⟩)]] w fun en w' => DelPost w g cap who l en w' := by
  have hg := h.lt
  have hcap := h.room
  have hpg : p ≠ g := by
    rintro rfl
    obtain ⟨cs, hh, _⟩ := h
    exact absurd (hh.uniq hp).2 (by decide)
  have H := Lib.hid h
  have HP := Lib.hid hp
  clear h hp
  go_enter Try.func36, Try.ntmps36
  go_wp2_with fail
  refine (index_calls g cap p l who w H.out HP.out hl).mono ?_
  rintro en w1 ⟨b1, h1⟩
  have B1 := Lib.hid b1
  have t1 : Turn (fun j => w.heap.size ≤ j) w w1 := Turn.of_below b1 (fun _ _ e => e)
  have H1 := Lib.hid (H.out.turn t1 (Nat.not_le_of_lt hg))
  have HP1 := Lib.hid (HP.out.turn t1 (Nat.not_le_of_lt (Has.lt HP.out)))
  have hz := b1.size
  clear b1 t1
  rcases h1 with ⟨rfl, hn⟩ | ⟨i0, rfl, hi0, hw0, hn⟩
  · have E : Hid (keep who l = l) := keep_all hn
    clear hn
    go_wp2_with fail
    go_ret
    unfold DelPost
    rw [E.out]
    exact ⟨rfl, H1.out, grown_below B1.out _ (Nat.le_refl _)⟩
  · have hne : ((i0 : Int) == -1) = false := by simp
    have D0 : Hid (Del g cap who l i0 (i0 + 1) l) := Lib.hid ⟨rfl, by omega, hi0, by rw [take_more hi0, keep_append, keep_all hn, keep_one hw0, List.append_nil], rfl⟩
    have G1 : Hid (w.grownBy w1 (some g)) := grown_below B1.out _ (Nat.le_refl _)
    clear hn hw0 B1
    have hi01 : (i0 : Int) ≤ 1000000 := by omega
    have hi00 : (0 : Int) ≤ (i0 : Int) := by omega
    go_wp2_with fail
    go_loopw [5, 6] (fun a b wr => ∃ (i j : Nat) (m : List Th), a = .int .i64 i ∧ b = .int .i64 j ∧ Hid (Del g cap who l i j m) ∧ Hid (Lie wr g cap m) ∧ Hid (Who wr p who) ∧ Hid (w.grownBy wr (some g))) (fun _ b _ => l.length - (intOf b).toNat)
    case atStart => exact ⟨i0, i0 + 1, l, rfl, by rw [Int.natCast_add]; rfl, D0, H1, HP1, G1⟩
    case round =>
      obtain ⟨i, j, m, rfl, rfl, HD, HL, HW, HG⟩ := hrel
      clear D0 H1 HP1 G1
      have hij := HD.out.ij
      have hjl := HD.out.jl
      have hml := Lib.hid HD.out.len
      by_cases hj : j < l.length
      · have h0 : (0 : Int) ≤ (j : Int) := by omega
        have h1 : (j : Int) < (l.length : Int) := by omega
        have h2 : (0 : Int) ≤ (i : Int) := by omega
        have h3 : (i : Int) < (l.length : Int) := by omega
        obtain ⟨c1, c2, c3⟩ := HL.out.cell j (by rw [hml.out]; exact hj)
        obtain ⟨b, hb⟩ : ∃ b, decide ((at_ m j).2.1 = who) = b := ⟨_, rfl⟩
        have HBB := Lib.hid hb
        clear hb
        go_wp2_with fail
        have t2 : Turn (fun k => wr.heap.size ≤ k) wr (wr.alloc (.cells #[.int .i64 (at_ m j).1, .int .i64 (at_ m j).2.1, .int .i64 (at_ m j).2.2] 82)) := (Turn.refl _ _).alloc _
        refine (clos_calls _ _ _ who p b _ (HW.out.turn t2 (Nat.not_le_of_lt (Has.lt HW.out))) HBB.out).mono ?_
        rintro en w2 ⟨rfl, b2⟩
        have t3 : Turn (fun k => wr.heap.size ≤ k) wr w2 := t2.trans (Turn.of_below (F := fun k => wr.heap.size ≤ k) b2 (fun k _ e => by simp at e; omega)) (fun _ _ e => e)
        have HX : Has w2 wr.heap.size 82 #[.int .i64 (at_ m j).1, .int .i64 (at_ m j).2.1, .int .i64 (at_ m j).2.2] := (Has.made _ _ _).below b2 (by simp)
        have x1 : w2.cell? ⟨wr.heap.size, 0, none⟩ = some (.int .i64 (at_ m j).1) := HX.cell 0
        have x2 : w2.cell? ⟨wr.heap.size, 1, none⟩ = some (.int .i64 (at_ m j).2.1) := HX.cell 1
        have x3 : w2.cell? ⟨wr.heap.size, 2, none⟩ = some (.int .i64 (at_ m j).2.2) := HX.cell 2
        have HL2 := Lib.hid (HL.out.turn t3 (Nat.not_le_of_lt HL.out.lt))
        have HW2 := Lib.hid (HW.out.turn t3 (Nat.not_le_of_lt (Has.lt HW.out)))
        have HG2 : Hid (w.grownBy w2 (some g)) := Lib.hid ((show Turn (fun k => k = g ∨ w.heap.size ≤ k) w w2 from (Turn.of_grown (F := fun k => k = g ∨ w.heap.size ≤ k) HG.out (.inl rfl)).trans t3 (fun k hk e => .inr (by have := HG.out.size; omega))).grownBy)
        clear b2 t2 t3 HX c1 c2 c3 HL HW HG
        cases b with
        | true =>
          have hw : (at_ m j).2.1 = who := of_decide_eq_true HBB.out
          have D2 := Lib.hid (HD.out.gone hj hw)
          clear hw HBB HD
          go_wp2_with fail
          refine ⟨⟨i, j + 1, m, rfl, by rw [Int.natCast_add]; rfl, D2, HL2, HW2, HG2⟩, ?_⟩
          show l.length - ((j : Int) + 1).toNat < l.length - ((j : Int)).toNat
          omega
        | false =>
          have hw : ¬ (at_ m j).2.1 = who := of_decide_eq_false HBB.out
          have D2 := Lib.hid (HD.out.stays hj hw)
          obtain ⟨y1, y2, y3⟩ := HL2.out.cell i (by rw [hml.out]; omega)
          have f1 := HL2.out.free (i * 3)
          have f2 := HL2.out.free (i * 3 + 1)
          have f3 := HL2.out.free (i * 3 + 2)
          have HL3 := Lib.hid (HL2.out.put i (at_ m j) (by rw [hml.out]; omega))
          clear hw HBB HD
          go_wp2_with fail
          refine ⟨⟨i + 1, j + 1, _, by rw [Int.natCast_add]; rfl, by rw [Int.natCast_add]; rfl, D2, HL3, ?_, ?_⟩, ?_⟩
          · exact Lib.hid (((HW2.out.far (p := ⟨g, _, none⟩) hpg _).far (p := ⟨g, _, none⟩) hpg _).far (p := ⟨g, _, none⟩) hpg _)
          · exact Lib.hid (grown_own (grown_own (grown_own HG2.out _ _) _ _) _ _)
          · show l.length - ((j : Int) + 1).toNat < l.length - ((j : Int)).toNat
            omega
      · obtain rfl : j = l.length := by omega
        have hk : m.take i = keep who l := by have := HD.out.kept; rw [List.take_length] at this; exact this
        have hkl : (keep who l).length = i := by rw [← hk, List.length_take, hml.out]; omega
        obtain ⟨w3, hclr, hlie, hgr⟩ := run_clear_things wr g cap i (l.length - i) (cap - i) m HL.out (by omega) (by rw [hml.out]; omega) (by rw [hml.out]; exact hcap)
        have K := Lib.hid hk
        have KL := Lib.hid hkl
        have L3 := Lib.hid hlie
        have G3 := Lib.hid (grown_trans HG.out hgr)
        have h1 : ¬ (l.length : Int) < (l.length : Int) := by omega
        have h2 : (0 : Int) ≤ (i : Int) := by omega
        have h3 : (i : Int) ≤ (l.length : Int) := by omega
        have h4 : (i : Int) ≤ (cap : Int) := by omega
        have h5 : ¬ cap = i := by omega
        have h6 : (l.length : Int) ≤ (cap : Int) := by omega
        clear hk hkl hlie hgr HG HD HL
        go_wp2_with fail
        go_ret
        unfold DelPost
        rw [KL.out, ← K.out]
        exact ⟨rfl, L3.out, G3.out⟩

theorem delete_nil (p : Nat) (w : World) : Calls Try.prog 36 #[.slice none 0 0, .func (.func 37) #[] #[.pointer (some ⟨p, 0, none⟩)]] w fun en w' => en = .returned (.slice none 0 0) ∧ w = w' := by
  go_enter Try.func36, Try.ntmps36
  go_wp2_with fail
  refine (index_nil p w).mono ?_
  rintro en w1 ⟨rfl, rfl⟩
  go_wp2_with fail
  go_ret
  exact ⟨rfl, rfl⟩

theorem heap_low (n : Nat) (l : List Th) : HeapFrom (n / 2) n l := fun k h0 hk hi => by omega

def InitPost (w : World) (q g cap : Nat) (l : List Th) (n : Int) (en : Ending) (w' : World) : Prop :=
  en = .returned (.tuple #[]) ∧ ∃ l', Qa w' q g cap l' n ∧ l'.Perm l ∧ HeapFrom 0 l'.length l' ∧ w.grownBy w' (some g)

set_option maxRecDepth 100000 in
set_option maxHeartbeats 400000 in
theorem init_calls (q g cap : Nat) (l : List Th) (n : Int) (w : World) (h : Qa w q g cap l n) (hl : l.length ≤ 1000000) :
    Calls Try.prog 38 #[ifc q] w fun en w' => InitPost w q g cap l n en w' := by
  have c0 := h.own.cell 0
  change w.cell? ⟨q, 0, none⟩ = some _ at c0
  have ml := fun x => method_len x ⟨q, 0, none⟩ _ w c0
  have H := Lib.hid h
  clear h c0
  go_enter Try.func38, Try.ntmps38
  go_wp2_with fail
  refine (len_calls _ l.length cap w (by unfold maxLen; omega)).mono ?_
  rintro en w1 ⟨rfl, rfl⟩
  clear ml
  have HH := Lib.hid (heap_low l.length l)
  have hq0 : (0 : Int) ≤ (l.length : Int) := by omega
  go_wp2_with fail
  go_loopw [3] (fun i wr => ∃ (y : Int) (k : Nat) (l' : List Th), i = .int .i64 y ∧ Hid (y = (k : Int) - 1) ∧ k ≤ 1000000 ∧ Hid (Qa wr q g cap l' n) ∧ Hid (l'.Perm l) ∧ Hid (HeapFrom k l'.length l') ∧ Hid (w.grownBy wr (some g))) (fun i _ => (intOf i + 1).toNat)
  case atStart => exact ⟨_, l.length / 2, l, rfl, Lib.hid (by omega), by omega, H, Lib.hid (List.Perm.refl _), HH, Lib.hid (grown_refl w _)⟩
  case round =>
    obtain ⟨y, k, l', rfl, HY, hk, HQ, HP, HF, HG⟩ := hrel
    clear H HH
    cases k with
    | zero =>
      have hy : y ≤ -1 := by have := HY.out; simp at this; omega
      have hy' : ¬ 0 ≤ y := by omega
      clear hy
      go_wp2_with fail
      go_end0
      exact ⟨rfl, l', HQ.out, HP.out, HF.out, HG.out⟩
    | succ k =>
      obtain rfl : y = (k : Int) := by have := HY.out; simp at this; omega
      have hk0 : (0 : Int) ≤ (k : Int) := by omega
      have hpl := Lib.hid HP.out.length_eq
      have hl' : l'.length ≤ 1000000 := by rw [hpl.out]; exact hl
      clear HY
      have hs : Hid (Sinks k l.length k l') := Lib.hid (by rw [← hpl.out]; exact Sinks.start HF.out)
      have hll : l.length ≤ l'.length := by rw [hpl.out]; exact Nat.le_refl _
      go_wp2_with fail
      refine (down_calls q g cap k l.length l' n wr HQ.out hs.out hll hl' (by omega)).mono ?_
      rintro en w2 ⟨b, l2, rfl, s2, f2⟩
      have Q2 := Lib.hid s2.qa
      have P2 := Lib.hid (s2.perm.trans HP.out)
      have F2 : Hid (HeapFrom k l2.length l2) := Lib.hid (by rw [s2.perm.length_eq, hpl.out]; exact f2)
      have G2 := Lib.hid (grown_trans HG.out s2.grown)
      clear s2 f2 HQ HP HF HG hs
      go_wp2_with fail
      refine ⟨⟨(k : Int) - 1, k, l2, rfl, Lib.hid rfl, by omega, Q2, P2, F2, G2⟩, ?_⟩
      show ((k : Int) - 1 + 1).toNat < ((k : Int) + 1).toNat
      omega

set_option maxRecDepth 100000 in
set_option maxHeartbeats 400000 in
theorem init_nil (q : Nat) (n : Int) (w : World) (h : Has w q 68 #[.slice none 0 0, .int .i64 n]) :
    Calls Try.prog 38 #[ifc q] w fun en w' => en = .returned (.tuple #[]) ∧ w = w' := by
  have c0 := h.cell 0
  change w.cell? ⟨q, 0, none⟩ = some _ at c0
  have ml := fun x => method_len x ⟨q, 0, none⟩ _ w c0
  clear h c0
  go_enter Try.func38, Try.ntmps38
  go_wp2_with fail
  refine (len_calls _ 0 0 w (by unfold maxLen; omega)).mono ?_
  rintro en w1 ⟨rfl, rfl⟩
  clear ml
  go_wp2_with fail
  go_loopw [3] (fun i wr => i = .int .i64 (-1) ∧ wr = w) (fun _ _ => 0)
  case atStart => exact ⟨rfl, rfl⟩
  case round =>
    obtain ⟨rfl, rfl⟩ := hrel
    go_wp2_with fail
    go_end0
    exact ⟨rfl, rfl⟩

theorem keep_len (who : Int) (l : List Th) : (keep who l).length ≤ l.length := List.length_filter_le _ _
theorem keep_perm {who : Int} {l l' : List Th} (h : l.Perm l') : (keep who l).Perm (keep who l') := h.filter _

def DropPost (w : World) (q : Nat) (r : Option Nat) (l : List Th) (who n : Int) (en : Ending) (w' : World) : Prop :=
  en = .returned (.int .i64 ((l.length : Int) - ((keep who l).length : Int))) ∧ ∃ l', Qh w' q r l' n ∧ l'.Perm (keep who l) ∧ Turn (fun k => k = q ∨ r = some k) w w'

set_option maxRecDepth 100000 in
set_option maxHeartbeats 1000000 in
theorem drop_calls (q : Nat) (r : Option Nat) (l : List Th) (who n : Int) (w : World) (h : Qh w q r l n) :
    Calls Try.prog 30 #[.pointer (some ⟨q, 0, none⟩), .int .i64 who] w fun en w' => DropPost w q r l who n en w' := by
  have hmf : ∀ (fn : Fn) (first cap : Array Value) (w : World), (Instr.makeFunc fn first cap).run Try.prog w = .ok (.func fn first cap) w := fun _ _ _ _ => rfl
  have hfew := h.few
  have hheap := Lib.hid h.heap
  rcases h.at_ with ⟨e1, e2, e3⟩ | ⟨g, cap, e1, e2⟩
  · subst e2 e1
    have c0 : w.cell? ⟨q, 0, none⟩ = some (.slice none 0 0) := e3.cell 0
    have f0 : w.frozen? ⟨q, 0, none⟩ = false := e3.free 0
    have hq := e3.lt
    have HB := Lib.hid e3
    clear h e3
    go_enter Try.func30, Try.ntmps30
    go_wp2_with fail
    refine (delete_nil w.heap.size _).mono ?_
    rintro en w1 ⟨rfl, hw1⟩
    subst hw1
    go_wp2_with fail
    have HB1 : Hid (Has ((w.setCell ⟨q, 0, none⟩ (.slice none 0 0)).alloc (.cells #[.int .i64 who] 3)) q 68 #[.slice none 0 0, .int .i64 n]) := Lib.hid (by have := (HB.out.put 0 (.slice none 0 0)).alloc (.cells #[.int .i64 who] 3); simpa using this)
    refine (init_nil q n _ HB1.out).mono ?_
    rintro en w1 ⟨rfl, hw1⟩
    subst hw1
    go_wp2_with fail
    go_ret
    exact ⟨rfl, [], ⟨hheap.out, Nat.zero_le _, .inl ⟨rfl, rfl, HB1.out⟩⟩, List.Perm.refl _, ((Turn.refl _ w).put (fun _ => .inl rfl) 0 _).alloc _⟩
  · subst e1
    have c0 : w.cell? ⟨q, 0, none⟩ = some (.slice (some ⟨g, 0, none⟩) l.length cap) := e2.own.cell 0
    have hq := e2.own.lt
    have hgl := e2.lie.lt
    have hgq := e2.ne
    have HQ := Lib.hid e2
    have hkl := keep_len who l
    clear h e2
    go_enter Try.func30, Try.ntmps30
    go_wp2_with fail
    have hl1 : Lie (w.alloc (.cells #[.int .i64 who] 3)) g cap l := HQ.out.lie.turn ((Turn.refl (fun k => w.heap.size ≤ k) w).alloc _) (Nat.not_le_of_lt hgl)
    refine (delete_calls g cap w.heap.size l who _ hl1 (Has.made _ _ _) hfew).mono ?_
    rintro en w1 ⟨rfl, lie1, g1⟩
    have hown1 : Has w1 q 68 #[.slice (some ⟨g, 0, none⟩) l.length cap, .int .i64 n] := (HQ.out.own.alloc _).grown g1 (by intro e; injection e with e; exact hgq e.symm)
    have c1 : w1.cell? ⟨q, 0, none⟩ = some (.slice (some ⟨g, 0, none⟩) l.length cap) := hown1.cell 0
    have f1 : w1.frozen? ⟨q, 0, none⟩ = false := hown1.free 0
    have Q2 : Hid (Qa (w1.setCell ⟨q, 0, none⟩ (.slice (some ⟨g, 0, none⟩) (keep who l).length cap)) q g cap (keep who l) n) := by
      refine Lib.hid ⟨by have := hown1.put 0 (.slice (some ⟨g, 0, none⟩) (keep who l).length cap); simpa using this, ?_⟩
      obtain ⟨cs, hh, rest⟩ := lie1
      exact ⟨cs, hh.far (p := ⟨q, 0, none⟩) hgq _, rest⟩
    have T2 : Hid (Turn (fun k => k = q ∨ some g = some k) w (w1.setCell ⟨q, 0, none⟩ (.slice (some ⟨g, 0, none⟩) (keep who l).length cap))) :=
      Lib.hid ((((Turn.refl _ w).alloc _).grown g1 (fun j e _ => .inr e)).put (fun _ => .inl rfl) 0 _)
    have HK := Lib.hid (keep_perm (who := who) (List.Perm.refl l))
    generalize hks : keep who l = ks at *
    have HKS := Lib.hid hks
    clear hks hl1 lie1 g1 hown1 HQ c0
    go_wp2_with fail
    refine (init_calls q g cap ks n _ Q2.out (by omega)).mono ?_
    rintro en w2 ⟨rfl, l2, q2, p2, h2, g2⟩
    have c2 : w2.cell? ⟨q, 0, none⟩ = some (.slice (some ⟨g, 0, none⟩) l2.length cap) := q2.own.cell 0
    rw [p2.length_eq] at c2
    have QF : Hid (Qh w2 q (some g) l2 n) := Lib.hid ⟨h2, by rw [p2.length_eq]; omega, .inr ⟨g, cap, rfl, q2⟩⟩
    have P2 := Lib.hid p2
    have T3 : Hid (Turn (fun k => k = q ∨ some g = some k) w w2) := Lib.hid (T2.out.grown g2 (fun j e _ => .inr e))
    clear q2 p2 h2 g2 T2 Q2 c1 f1
    have hk1 : (ks.length : Int) ≤ (l.length : Int) := by omega
    have hk2 : (l.length : Int) ≤ 1000000 := by omega
    go_wp2_with fail
    go_ret
    unfold DropPost
    rw [HKS.out]
    exact ⟨rfl, l2, QF.out, P2.out, T3.out⟩

def QDropPost (w : World) (q : Nat) (r : Option Nat) (S : List Th) (who n : Int) (en : Ending) (w' : World) : Prop :=
  en = .returned (.int .i64 ((S.length : Int) - ((keep who S).length : Int))) ∧ Qs w' q r (keep who S) n ∧ Turn (fun k => k = q ∨ r = some k) w w'

theorem qs_drop (q : Nat) (r : Option Nat) (S : List Th) (who n : Int) (w : World) (h : Qs w q r S n) :
    Calls Try.prog 30 #[.pointer (some ⟨q, 0, none⟩), .int .i64 who] w fun en w' => QDropPost w q r S who n en w' := by
  obtain ⟨l, h1, h2⟩ := h.heap
  refine (drop_calls q r l who n w h1).mono fun en w' hp => ?_
  obtain ⟨e, l', q2, p2, t2⟩ := hp
  have hpk := keep_perm (who := who) h2
  refine ⟨by rw [e, h2.length_eq, hpk.length_eq], ⟨⟨l', q2, p2.trans hpk⟩, h.sorted.filter _, fun x hx => h.nums x (List.mem_filter.1 hx).1, q2.row_lt⟩, t2⟩

end Go.Proofs.Ytbpnbnbglfiglaa
