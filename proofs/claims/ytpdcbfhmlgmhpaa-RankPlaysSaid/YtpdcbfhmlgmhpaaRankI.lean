/- Queue's Due. -/
import Derived.Test.YtpdcbfhmlgmhpaaRankH
namespace Go.Proofs.Ytpdcbfhmlgmhpaa
open Go.RowKit

def lenOf : Value → Nat
  | .slice _ n _ => n
  | _ => 0

/-- A slice of numbers that is owned. -/
def Ints (w : World) (v : Value) (L : List Int) : Prop := w.ownsRow 0 3 1 v L.length (L.map (Value.int .i64))

theorem Ints.slice {w : World} {v : Value} {L : List Int} (h : Ints w v L) : ∃ a c, v = .slice a L.length c := by
  rcases h.2 with ⟨h1, h2⟩ | ⟨g, cap, cur, h1, _⟩
  · exact ⟨none, 0, by rw [h1, h2]⟩
  · exact ⟨_, _, h1⟩

theorem Ints.turn {F : Nat → Prop} {w w' : World} {v : Value} {L : List Int} (h : Ints w v L) (t : Turn F w w') (hr : ∀ k, v.ownBlock = some k → ¬ F k) : Ints w' v L := by
  refine ⟨h.1, ?_⟩
  rcases h.2 with h | ⟨g, cap, cur, e1, e2, e3, e4⟩
  · exact .inl h
  · have hg : g < w.heap.size := by
      rcases Nat.lt_or_ge g w.heap.size with k | k
      · exact k
      · rw [Array.getElem?_eq_none k] at e3; cases e3
    exact .inr ⟨g, cap, cur, e1, e2, (t.block g hg (hr g (by rw [e1]; rfl))).trans e3, e4⟩

/-- What stands in the queue's first cell. -/
theorem Qh.cell0 {w : World} {q : Nat} {r : Option Nat} {l : List Th} {n : Int} (h : Qh w q r l n) :
    ∃ a cap, w.cell? ⟨q, 0, Option.none⟩ = some (.slice a l.length cap) ∧ (0 < l.length → ∃ g, a = some ⟨g, 0, Option.none⟩ ∧ w.cell? ⟨g, 0, Option.none⟩ = some (.int .i64 (Go.Proofs.Ytpdcbfhmlgmhpaa.at_ l 0).1)) := by
  rcases h.at_ with ⟨e1, e2, e3⟩ | ⟨g, cap, e1, e2⟩
  · subst e2; exact ⟨_, 0, e3.cell 0, fun h => by simp at h⟩
  · exact ⟨_, cap, e2.own.cell 0, fun h => ⟨g, rfl, by have := (e2.lie.cell 0 h).1; simpa using this⟩⟩

theorem Try.zeroInt : ∃ i z, Try.prog.info? 3 = some i ∧ i.zero = some z ∧ i.size = 1 ∧ z.cells.size = 1 ∧ i.bytes = 8 := by
  have h2 : (Try.prog.info? 3).map (fun i => (i.zero.map (fun z => z.cells.size), i.size, i.bytes)) = some (some 1, 1, 8) := by kernel_rfl
  obtain ⟨i, hi, e⟩ := Option.map_eq_some_iff.1 h2
  simp at e
  obtain ⟨⟨z, hz, hz2⟩, h3, h4⟩ := e
  exact ⟨i, z, hi, hz, h3, hz2, h4⟩

theorem firstOf_at {l : List Th} {x : Th} (h : 0 < l.length) (e : Go.Proofs.Ytpdcbfhmlgmhpaa.at_ l 0 = x) : firstOf l = .tuple #[.int .i64 x.1, .int .i64 x.2.1, .bool true] ∧ l = x :: l.tail := by
  cases l with
  | nil => simp at h
  | cons y t => have : y = x := e; subst this; exact ⟨rfl, rfl⟩

theorem Qh.turn {F : Nat → Prop} {w w' : World} {q : Nat} {r : Option Nat} {l : List Th} {n : Int} (h : Qh w q r l n) (t : Turn F w w') (hq : ¬ F q) (hr : ∀ k, r = some k → ¬ F k) : Qh w' q r l n := by
  refine ⟨h.heap, h.few, ?_⟩
  rcases h.at_ with ⟨e1, e2, e3⟩ | ⟨g, cap, e1, e2⟩
  · exact .inl ⟨e1, e2, e3.turn t hq⟩
  · exact .inr ⟨g, cap, e1, e2.own.turn t hq, e2.lie.turn t (hr g e1)⟩

structure DueSt (w : World) (q : Nat) (r : Option Nat) (n tick : Int) (S : List Th) (wr : World) (v : Value) (A R l : List Th) : Prop where
  split : S = A ++ R
  due : ∀ x ∈ A, x.1 ≤ tick
  qh : Qh wr q r l n
  perm : l.Perm R
  ints : Ints wr v (A.map (fun x => x.2.1))
  new : ∀ k, v.ownBlock = some k → w.heap.size ≤ k ∧ k ≠ q ∧ r ≠ some k
  turn : Turn (fun k => k = q ∨ r = some k) w wr

def DuePost (w : World) (q : Nat) (r : Option Nat) (n tick : Int) (S : List Th) (en : Ending) (w' : World) : Prop :=
  ∃ v A R l, en = .returned v ∧ DueSt w q r n tick S w' v A R l ∧ ∀ x t, R = x :: t → ¬ x.1 ≤ tick

set_option maxRecDepth 100000 in
set_option maxHeartbeats 400000 in
theorem due_calls (q : Nat) (r : Option Nat) (l S : List Th) (n tick : Int) (w : World) (h : Qh w q r l n) (hp : l.Perm S) (hs : S.Pairwise lt) (hr : ∀ k, r = some k → k < w.heap.size) (hq : q < w.heap.size) :
    Calls Try.prog 46 #[.pointer (some ⟨q, 0, none⟩), .int .i64 tick] w fun en w' => DuePost w q r n tick S en w' := by
  have H : Hid (DueSt w q r n tick S w (.slice none 0 0) [] S l) := ⟨rfl, by simp, h, hp, World.ownsRow_nil w 0 _ 1, by simp [Value.ownBlock], Turn.refl _ _⟩
  have HN : Hid (S.length ≤ 1000000) := by show _ ≤ _; rw [← hp.length_eq]; exact h.few
  have HS := Lib.hid hs
  have HR := Lib.hid hr
  clear h hp hs hr
  go_enter Try.func46, Try.ntmps46
  go_wp2_with fail
  go_loopw [5] (fun u wr => ∃ (v : Value) (A R l : List Th), v = u ∧ Hid (DueSt w q r n tick S wr v A R l)) (fun u _ => S.length - lenOf u)
  case atStart => exact ⟨_, [], S, l, rfl, H⟩
  case round =>
    obtain ⟨v, A, R, l', rfl, HD⟩ := hrel
    clear H
    obtain ⟨a, cap, c0, hc⟩ := HD.out.qh.cell0
    have hfew := HD.out.qh.few
    cases R with
    | nil =>
      have e : l' = [] := List.perm_nil.1 HD.out.perm
      rw [e] at c0
      change wr.cell? ⟨q, 0, none⟩ = some (.slice a 0 cap) at c0
      clear hc hfew
      go_wp2_with fail
      go_ret
      exact ⟨_, A, [], l', rfl, HD.out, by simp⟩
    | cons x t =>
      have hx : at_ l' 0 = x := heap_head HD.out.perm (by have := HS.out; rw [HD.out.split] at this; exact (List.pairwise_append.1 this).2.1) HD.out.qh.heap
      have el : l'.length = t.length + 1 := by rw [HD.out.perm.length_eq]; rfl
      obtain ⟨g, rfl, c1⟩ := hc (by omega)
      rw [hx] at c1
      rw [el] at c0
      rw [el] at hfew
      have EL := Lib.hid el
      have HX := Lib.hid hx
      clear hc el hx
      obtain ⟨x1, x2, x3⟩ := x
      generalize ht : t.length = m at *
      have HTL := Lib.hid ht
      clear ht
      have hm1 : (0 : Int) < ((m + 1 : Nat) : Int) := by omega
      by_cases hd : x1 ≤ tick
      · obtain ⟨ef, ec⟩ := firstOf_at (by rw [EL.out]; omega) HX.out
        have EC := Lib.hid ec
        clear ec
        go_wp2_with fail
        refine (take_calls q r l' n wr HD.out.qh).mono ?_
        rw [ef]
        rintro en w2 ⟨rfl, ⟨l2, q2, p2⟩, t2⟩
        have Q2 := Lib.hid q2
        have P2 : Hid (l2.Perm t) := p2.trans (by have := HD.out.perm; rw [EC.out] at this; exact this.cons_inv)
        have HI2 : Hid (Ints w2 v (A.map (fun x => x.2.1))) := HD.out.ints.turn t2 (fun k hk e => by
          obtain ⟨_, h2, h3⟩ := HD.out.new k hk
          rcases e with e | e
          · exact h2 e
          · exact h3 e)
        have T2 : Hid (Turn (fun k => k = q ∨ r = some k) w w2) := HD.out.turn.trans t2 (fun _ _ e => e)
        have HLE : Hid ((A.map (fun x => x.2.1)).length + 1 ≤ 1000000) := by
          have h1 := HN.out
          rw [HD.out.split] at h1
          rw [List.length_append, List.length_cons] at h1
          show _ ≤ _
          rw [List.length_map]; omega
        have HSZ : Hid (w.heap.size ≤ w2.heap.size) := T2.out.size
        clear q2 p2 t2 ef c0 c1 hfew
        obtain ⟨i0, z0, hi0, hz0, hz1, hz2, hz3⟩ := Try.zeroInt
        have HI := Lib.hid hi0
        have HZ := Lib.hid hz0
        clear hi0 hz0
        go_wp2_with ((with_reducible refine at_op 35 ?_); refine wpList_append_lies (o := ⟨some 35, _, _, _, _, _⟩) _ rfl (.tmp 32) (.tmp 34) 80 rfl 0 3 i0 z0 1 8 Try.underlying80 HI.out HZ.out hz1 hz3 hz2 (by decide) v (A.map (fun x => x.2.1)).length _ (by simp [Act.eval]) (by exact HI2.out.alloc _) ⟨w2.heap.size, 0, none⟩ 1 1 [.int .i64 x2] (by simp [Act.eval]) rfl (by exact World.news_of_block (Has.made _ _ _)) (by intro u hu; rw [List.mem_singleton.1 hu]; rfl) (by decide) (by unfold maxLen; have := HLE.out; omega) (by have := HLE.out; omega) (Nat.zero_le _) _ rfl ?_)
        intro g2 cap2 w3 hown hg hat hlt
        have HOWN := Lib.hid hown
        have HG := Lib.hid hg
        have HAT := Lib.hid hat
        clear hown hg hat hlt
        go_wp2_with fail
        have HV := HD.out.new
        have hvl : lenOf v = A.length := by
          obtain ⟨a, c, e⟩ := HD.out.ints.slice
          rw [e]; simp [lenOf]
        refine ⟨⟨_, A ++ [(x1, x2, x3)], t, l2, rfl, ?_⟩, ?_⟩
        · refine ⟨by rw [HD.out.split]; simp, ?_, ?_, P2.out, ?_, ?_, ?_⟩
          · intro y hy
            rcases List.mem_append.1 hy with hy | hy
            · exact HD.out.due y hy
            · rw [List.mem_singleton.1 hy]; exact hd
          · have T3 : Turn (fun k => v.ownBlock = some k) w2 w3 := ((Turn.refl _ w2).alloc _).grown HG.out (fun j e _ => e)
            exact Q2.out.turn T3 (fun e => (HV q e).2.1 rfl) (fun k hk e => (HV k e).2.2 hk)
          · have e1 : ((A ++ [(x1, x2, x3)]).map (fun x => x.2.1)).length = A.length + 1 := by simp
            have e2 : ((A ++ [(x1, x2, x3)]).map (fun x : Th => x.2.1)).map (Value.int .i64) = List.map (Value.int .i64 ∘ fun x => x.2.1) A ++ [.int .i64 x2] := by simp
            unfold Ints
            rw [e1, e2]
            exact HOWN.out
          · intro k hk
            obtain rfl : g2 = k := by injection hk
            rcases HAT.out with h | h
            · exact HV g2 h
            · have h3 := HSZ.out
              refine ⟨by omega, by omega, fun e => ?_⟩
              have := HR.out g2 e
              omega
          · exact (T2.out.alloc _).grown HG.out (fun j e hj => absurd (HV j e).1 (by omega))
        · rw [hvl]
          show S.length - (A.length + 1) < S.length - A.length
          have h1 := congrArg List.length HD.out.split
          rw [List.length_append, List.length_cons] at h1
          omega
      · go_wp2_with fail
        go_ret
        exact ⟨_, A, (x1, x2, x3) :: t, l', rfl, HD.out, fun y s e => by injection e with e1 _; rw [← e1]; show ¬ x1 ≤ tick; omega⟩

end Go.Proofs.Ytpdcbfhmlgmhpaa
