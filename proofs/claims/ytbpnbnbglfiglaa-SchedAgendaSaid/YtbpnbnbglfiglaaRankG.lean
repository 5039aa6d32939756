/- rank's things: Push; container/heap's Push; Queue's Add. -/
import Derived.Test.YtbpnbnbglfiglaaRankF
import Derived.Test.YtbpnbnbglfiglaaAppS
namespace Go.Proofs.Ytbpnbnbglfiglaa
open Go.RowKit

theorem Try.zeroThing : ∃ i z, Try.prog.info? 82 = some i ∧ i.zero = some z ∧ i.size = 3 ∧ z.cells.size = 3 ∧ i.bytes = 24 := by
  have h2 : (Try.prog.info? 82).map (fun i => (i.zero.map (fun z => z.cells.size), i.size, i.bytes)) = some (some 3, 3, 24) := by kernel_rfl
  obtain ⟨i, hi, e⟩ := Option.map_eq_some_iff.1 h2
  simp at e
  obtain ⟨⟨z, hz, hz2⟩, h3, h4⟩ := e
  exact ⟨i, z, hi, hz, h3, hz2, h4⟩

/-- The queue's block q; its things lie in row r (nothing: there was none yet); n were added. -/
def Qz (w : World) (q : Nat) (r : Option Nat) (l : List Th) (n : Int) : Prop :=
  (r = none ∧ l = [] ∧ Has w q 68 #[.slice none 0 0, .int .i64 n]) ∨ ∃ g cap, r = some g ∧ Qa w q g cap l n

theorem Lie.own {w : World} {g cap : Nat} {l : List Th} (h : Lie w g cap l) : w.ownsRow 0 82 3 (.slice (some ⟨g, 0, none⟩) l.length cap) l.length (cellsThs l) := by
  have hr := h.room
  obtain ⟨cs, hh, tl, e, hz, hc⟩ := h
  refine ⟨by rw [cellsThs_length]; omega, .inr ⟨g, cap, cs, rfl, Nat.zero_le _, hh, hr, hc, hz, ?_⟩⟩
  have : l.length * 3 = (cellsThs l).length := by rw [cellsThs_length]; omega
  rw [e, this, List.take_left']
  rfl

theorem Lie.of_own {w : World} {g cap : Nat} {l : List Th} (h : w.ownsRow 0 82 3 (.slice (some ⟨g, 0, none⟩) l.length cap) l.length (cellsThs l)) : Lie w g cap l := by
  rcases h.2 with ⟨h, _⟩ | ⟨g', cap', cur, e1, _, e3, e4, e5, e6, e7⟩
  · cases h
  · injection e1 with e1 _ e2
    injection e1 with e1
    injection e1 with e1
    subst e1 e2
    exact ⟨cur, e3, cur.toList.drop (l.length * 3), by rw [← e7, List.take_append_drop], e6, e5⟩

/-- The slice that stands in the queue, and that it owns its row. -/
theorem Qz.open {w : World} {q : Nat} {r : Option Nat} {l : List Th} {n : Int} (h : Qz w q r l n) :
    ∃ v, Has w q 68 #[v, .int .i64 n] ∧ w.ownsRow 0 82 3 v l.length (cellsThs l) ∧ v.ownBlock = r ∧ r ≠ some q := by
  rcases h with ⟨e1, e2, e3⟩ | ⟨g, cap, e1, e2⟩
  · subst e1 e2
    exact ⟨_, e3, World.ownsRow_nil w 0 _ 3, rfl, by simp⟩
  · subst e1
    exact ⟨_, e2.own, e2.lie.own, rfl, by intro e; injection e with e; exact e2.ne e⟩

theorem oneCell_th (x : Th) : ∀ u ∈ cellsTh x, u.oneCell' = true := by
  intro u hu
  simp only [cellsTh, List.mem_cons, List.not_mem_nil, or_false] at hu
  rcases hu with rfl | rfl | rfl <;> rfl

def PushPost (w : World) (q : Nat) (r : Option Nat) (l : List Th) (n : Int) (en : Ending) (w' : World) : Prop :=
  en = .returned (.tuple #[]) ∧ ∃ g', Qz w' q (some g') l n ∧ (r = some g' ∨ w.heap.size ≤ g') ∧ Turn (fun k => k = q ∨ r = some k) w w'

set_option maxRecDepth 100000 in
set_option maxHeartbeats 400000 in
theorem tpush_calls (q : Nat) (r : Option Nat) (l : List Th) (n x1 x2 x3 : Int) (w : World) (h : Qz w q r l n) (hl : l.length < 1000000) :
    Calls Try.prog 90 #[.pointer (some ⟨q, 0, none⟩), .iface 82 (.agg #[.int .i64 x1, .int .i64 x2, .int .i64 x3])] w fun en w' => PushPost w q r (l ++ [(x1, x2, x3)]) n en w' := by
  obtain ⟨v, hb, ho, hv, hne⟩ := h.open
  obtain ⟨i0, z0, hi0, hz0, hz1, hz2, hz3⟩ := Try.zeroThing
  have c0 : w.cell? ⟨q, 0, none⟩ = some v := hb.cell 0
  have hq := hb.lt
  have HB := Lib.hid hb
  have HO := Lib.hid ho
  have HV := Lib.hid hv
  have HNE := Lib.hid hne
  have HI := Lib.hid hi0
  have HZ := Lib.hid hz0
  clear h hb ho hv hne
  have hta : ∀ w : World, (Instr.typeAssert (.iface 82 (.agg #[.int .i64 x1, .int .i64 x2, .int .i64 x3])) 20 82 false).run Try.prog w = .ok (.agg #[.int .i64 x1, .int .i64 x2, .int .i64 x3]) w := fun _ => by kernel_rfl
  go_enter Try.func90, Try.ntmps90
  go_wp2_with fail
  go_region_law (refine step_append_lies _ rfl (.tmp 7) (.tmp 10) 66 rfl 0 82 i0 z0 3 24 Try.underlying66 HI.out HZ.out hz1 hz3 hz2 (by decide) v l.length _ (by simp [Act.eval]) (by first | exact (HO.out.alloc _).drew | exact HO.out.drew.alloc _) ⟨w.heap.size, 0, none⟩ 1 1 (cellsTh (x1, x2, x3)) (by simp [Act.eval]) rfl (by exact World.news_of_block (Has.made _ _ _)) (oneCell_th _) (by decide) (by unfold maxLen; omega) (by omega) (Nat.zero_le _) _ rfl ?_
                 intro g cap w2 hown hg hat hlt
                 have c2 : w2.cell? ⟨q, 0, none⟩ = some v := by first | exact ((HB.out.alloc _).drew.grown hg (by rw [HV.out]; exact fun h => HNE.out h.symm)).cell 0 | exact ((HB.out.drew.alloc _).grown hg (by rw [HV.out]; exact fun h => HNE.out h.symm)).cell 0
                 have f2 : w2.frozen? ⟨q, 0, none⟩ = false := by first | exact ((HB.out.alloc _).drew.grown hg (by rw [HV.out]; exact fun h => HNE.out h.symm)).free 0 | exact ((HB.out.drew.alloc _).grown hg (by rw [HV.out]; exact fun h => HNE.out h.symm)).free 0
                 have HB2 : Hid (Has w2 q 68 #[v, .int .i64 n]) := by first | exact ((HB.out.alloc _).drew.grown hg (by rw [HV.out]; exact fun h => HNE.out h.symm)) | exact ((HB.out.drew.alloc _).grown hg (by rw [HV.out]; exact fun h => HNE.out h.symm))
                 have HT2 : Hid (Turn (fun k => k = q ∨ r = some k) w w2) := by first | exact ((Turn.refl _ w).alloc _).drew.grown hg (fun j e _ => .inr (by rw [← HV.out, e])) | exact ((Turn.refl _ w).drew.alloc _).grown hg (fun j e _ => .inr (by rw [← HV.out, e]))
                 have HOWN := Lib.hid hown
                 have HAT : Hid (r = some g ∨ w.heap.size ≤ g) := hat.imp (fun e => by rw [← HV.out]; exact e) (fun e => by rw [e]; simp)
                 clear hown hg hat hlt c0)
  all_goals
    go_wp2_with fail
    go_end0
    refine ⟨rfl, g, .inr ⟨g, cap, rfl, ?_, ?_⟩, HAT.out, HT2.out.put (fun _ => .inl rfl) 0 _⟩
    · have e : (l ++ [(x1, x2, x3)]).length = l.length + 1 := by simp
      rw [e]
      exact HB2.out.put 0 _
    · have e : (l ++ [(x1, x2, x3)]).length = l.length + 1 := by simp
      have e2 : cellsThs (l ++ [(x1, x2, x3)]) = cellsThs l ++ cellsTh (x1, x2, x3) := by simp [cellsThs]
      have ho : w2.ownsRow 0 82 3 (.slice (some ⟨g, 0, none⟩) (l ++ [(x1, x2, x3)]).length cap) (l ++ [(x1, x2, x3)]).length (cellsThs (l ++ [(x1, x2, x3)])) := by
        rw [e, e2]; exact HOWN.out
      obtain ⟨cs, hh, rest⟩ := Lie.of_own ho
      have hgq : g ≠ q := by
        rintro rfl
        exact absurd (hh.uniq HB2.out).2 (by decide)
      exact ⟨cs, hh.far (p := ⟨q, 0, none⟩) hgq _, rest⟩

end Go.Proofs.Ytbpnbnbglfiglaa
