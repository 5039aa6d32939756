/- object: the law's own Few, Kind; Check of another kind. -/
import Derived.Test.YtcdedkgkingbdaaGreatDoorQ027
namespace Go.Proofs.YtcdedkgkingbdaaGreatDoor.object
open Go.RowKit Go.Maps

theorem set12 {w : World} {g : Nat} {t : TypeId} {cs cs2 : Array Value} (h : Has w g t cs) (i : Nat) (v : Value) (e : cs.setIfInBounds i v = cs2) : Has (w.setCell ⟨g, i, none⟩ v) g t cs2 := e ▸ Proofs.YtcdedkgkingbdaaGreatDoor.Has.put h i v

def zT : text.OpV := ⟨0, 0, ⟨#[]⟩, 0⟩
def zL : OpL := ⟨0, ⟨#[]⟩, ⟨#[]⟩, 0⟩
def zS : stock.OpS := ⟨0, ⟨#[]⟩, 0⟩
def fewT (t : text.OpV) : text.OpV := ⟨t.k, t.a, text.cutB t.x 45, t.n⟩
/-- Short texts, and just the op of its kind. -/
def OpO.few (o : OpO) : OpO := if o.k = 1 then ⟨1, fewT o.t, zL, zS⟩ else if o.k = 2 then ⟨2, zT, o.l.few, zS⟩ else if o.k = 3 then ⟨3, zT, zL, o.s.few⟩ else ⟨o.k, zT, zL, zS⟩
theorem z_short : zT.x.size ≤ maxLen ∧ zL.Short ∧ zS.Short := ⟨Nat.zero_le _, ⟨Nat.zero_le _, Nat.zero_le _⟩, Nat.zero_le _⟩
theorem OpL.few_is (o : OpL) : o.few.Short := Proofs.YtcdedkgkingbdaaGreatDoor.few_short o
theorem OpO.few_short (o : OpO) : o.few.Short := by
  obtain ⟨z1, z2, z3⟩ := z_short
  unfold OpO.few
  split
  · exact ⟨by have := text.cutB_size o.t.x 45; show (text.cutB o.t.x 45).size ≤ maxLen; unfold maxLen; omega, z2, z3⟩
  · split
    · exact ⟨z1, OpL.few_is o.l, z3⟩
    · split
      · exact ⟨z1, z2, stock.few_short _⟩
      · exact ⟨z1, z2, z3⟩

set_option maxHeartbeats 400000 in
theorem lkind_calls (n : Int) (w : World) : Calls Tryz.prog 9 #[.int .i64 n] w fun en w' => en = .returned (.int .i64 (1 + (n.tmod 3 + 3).tmod 3)) ∧ w = w' := by
  go_enter Tryz.func9, Tryz.ntmps9
  go_wp2_with fail
  go_ret
  refine ⟨?_, rfl⟩
  have e1 : wrap64 (n.tmod 3 + 3) = n.tmod 3 + 3 := by have := Int.tmod_lt_of_pos n (show (0:Int) < 3 by decide); have := Int.lt_tmod_of_pos n (show (0:Int) < 3 by decide); unfold wrap64; omega
  have e2 : wrap64 (1 + (n.tmod 3 + 3).tmod 3) = 1 + (n.tmod 3 + 3).tmod 3 := by have := Int.tmod_lt_of_pos (n.tmod 3 + 3) (show (0:Int) < 3 by decide); have := Int.lt_tmod_of_pos (n.tmod 3 + 3) (show (0:Int) < 3 by decide); unfold wrap64; omega
  show Ending.returned (.int .i64 (wrap64 (1 + (wrap64 (n.tmod 3 + 3)).tmod 3))) = _
  rw [e1, e2]

set_option maxRecDepth 100000 in
set_option maxHeartbeats 1000000 in
theorem ofew1 (o : OpO) (w : World) (ho : o.Fits) (hk : o.k = 1) :
    Calls Tryz.prog 22 #[.agg o.cells] w fun en w' => en = .returned (.agg o.few.cells) ∧ Below w.heap.size w w' := by
  · obtain ⟨k, t, l, z⟩ := o
    obtain rfl : k = 1 := hk
    obtain ⟨hx, hs, ht, hss⟩ := ho
    have HX : Hid (t.x.size ≤ maxLen) := Lib.hid hx
    have HS : Hid (l.s.size ≤ maxLen) := Lib.hid hs
    have HT : Hid (l.t.size ≤ maxLen) := Lib.hid ht
    have HSS : Hid (z.s.size ≤ maxLen) := Lib.hid hss
    have HF : Hid ((OpO.mk 1 t l z).few = ⟨1, fewT t, zL, zS⟩) := rfl
    clear hx hs ht hss
    rw [HF.out]
    unfold OpO.cells
    go_enter Tryz.func22, Tryz.ntmps22
    go_wp2_with fail
    refine callsName (fun W hW => ?_)
    obtain ⟨p, ep⟩ : ∃ p, p = w.heap.size + 1 := ⟨_, rfl⟩
    have HQ : Hid (Has W (p + 1) 39 #[.int .i64 1, .int .i64 0, .int .i64 0, .string ⟨#[]⟩, .int .i64 0, .int .i64 0, .string ⟨#[]⟩, .string ⟨#[]⟩, .int .i64 0, .int .i64 0, .string ⟨#[]⟩, .int .i64 0]) := by
      show Has _ _ _ _
      rw [← hW, ep]
      exact made_at _ _ (by simp)
    have HP : Hid (Has W p 39 #[.int .i64 0, .int .i64 0, .int .i64 0, .string ⟨#[]⟩, .int .i64 0, .int .i64 0, .string ⟨#[]⟩, .string ⟨#[]⟩, .int .i64 0, .int .i64 0, .string ⟨#[]⟩, .int .i64 0]) := by
      show Has _ _ _ _
      rw [← hW, ep]
      exact (made_at _ _ (by simp)).alloc _
    have T0 : Hid (Turn (fun k => w.heap.size ≤ k) w W) := by
      show Turn _ _ _
      rw [← hW]
      repeat (first | exact Turn.refl _ _ | refine Turn.alloc ?_ _ | refine Turn.put ?_ (fun h => by omega) _ _)
    have hwp : w.heap.size < p := by omega
    rw [← ep]
    clear hW ep
    refine (text.few_calls t.k t.a t.n t.x W HX.out).mono ?_
    rintro en w1 ⟨rfl, b1⟩
    have HP1 := Lib.hid (HP.out.below b1 HP.out.lt)
    have HQ1 := Lib.hid (HQ.out.below b1 HQ.out.lt)
    have T1 : Hid (Turn (fun k => w.heap.size ≤ k) w w1) := Lib.hid (T0.out.trans (Turn.of_below b1 (F := fun j => W.heap.size ≤ j) (fun _ _ e => e)) (fun j _ e => Nat.le_trans T0.out.size e))
    clear b1 HP HQ T0
    have c0 : w1.cell? ⟨p + 1, 0, none⟩ = some (.int .i64 1) := HQ1.out.cell 0
    have f0 : w1.frozen? ⟨p + 1, 0, none⟩ = false := HQ1.out.free 0
    have y0 : w1.cell? ⟨p, 0, none⟩ = some (.int .i64 0) := HP1.out.cell 0
    have g0 : w1.frozen? ⟨p, 0, none⟩ = false := HP1.out.free 0
    have c1 : w1.cell? ⟨p + 1, 1, none⟩ = some (.int .i64 0) := HQ1.out.cell 1
    have f1 : w1.frozen? ⟨p + 1, 1, none⟩ = false := HQ1.out.free 1
    have y1 : w1.cell? ⟨p, 1, none⟩ = some (.int .i64 0) := HP1.out.cell 1
    have g1 : w1.frozen? ⟨p, 1, none⟩ = false := HP1.out.free 1
    have c2 : w1.cell? ⟨p + 1, 2, none⟩ = some (.int .i64 0) := HQ1.out.cell 2
    have f2 : w1.frozen? ⟨p + 1, 2, none⟩ = false := HQ1.out.free 2
    have y2 : w1.cell? ⟨p, 2, none⟩ = some (.int .i64 0) := HP1.out.cell 2
    have g2 : w1.frozen? ⟨p, 2, none⟩ = false := HP1.out.free 2
    have c3 : w1.cell? ⟨p + 1, 3, none⟩ = some (.string ⟨#[]⟩) := HQ1.out.cell 3
    have f3 : w1.frozen? ⟨p + 1, 3, none⟩ = false := HQ1.out.free 3
    have y3 : w1.cell? ⟨p, 3, none⟩ = some (.string ⟨#[]⟩) := HP1.out.cell 3
    have g3 : w1.frozen? ⟨p, 3, none⟩ = false := HP1.out.free 3
    have c4 : w1.cell? ⟨p + 1, 4, none⟩ = some (.int .i64 0) := HQ1.out.cell 4
    have f4 : w1.frozen? ⟨p + 1, 4, none⟩ = false := HQ1.out.free 4
    have y4 : w1.cell? ⟨p, 4, none⟩ = some (.int .i64 0) := HP1.out.cell 4
    have g4 : w1.frozen? ⟨p, 4, none⟩ = false := HP1.out.free 4
    have c5 : w1.cell? ⟨p + 1, 5, none⟩ = some (.int .i64 0) := HQ1.out.cell 5
    have f5 : w1.frozen? ⟨p + 1, 5, none⟩ = false := HQ1.out.free 5
    have y5 : w1.cell? ⟨p, 5, none⟩ = some (.int .i64 0) := HP1.out.cell 5
    have g5 : w1.frozen? ⟨p, 5, none⟩ = false := HP1.out.free 5
    have c6 : w1.cell? ⟨p + 1, 6, none⟩ = some (.string ⟨#[]⟩) := HQ1.out.cell 6
    have f6 : w1.frozen? ⟨p + 1, 6, none⟩ = false := HQ1.out.free 6
    have y6 : w1.cell? ⟨p, 6, none⟩ = some (.string ⟨#[]⟩) := HP1.out.cell 6
    have g6 : w1.frozen? ⟨p, 6, none⟩ = false := HP1.out.free 6
    have c7 : w1.cell? ⟨p + 1, 7, none⟩ = some (.string ⟨#[]⟩) := HQ1.out.cell 7
    have f7 : w1.frozen? ⟨p + 1, 7, none⟩ = false := HQ1.out.free 7
    have y7 : w1.cell? ⟨p, 7, none⟩ = some (.string ⟨#[]⟩) := HP1.out.cell 7
    have g7 : w1.frozen? ⟨p, 7, none⟩ = false := HP1.out.free 7
    have c8 : w1.cell? ⟨p + 1, 8, none⟩ = some (.int .i64 0) := HQ1.out.cell 8
    have f8 : w1.frozen? ⟨p + 1, 8, none⟩ = false := HQ1.out.free 8
    have y8 : w1.cell? ⟨p, 8, none⟩ = some (.int .i64 0) := HP1.out.cell 8
    have g8 : w1.frozen? ⟨p, 8, none⟩ = false := HP1.out.free 8
    have c9 : w1.cell? ⟨p + 1, 9, none⟩ = some (.int .i64 0) := HQ1.out.cell 9
    have f9 : w1.frozen? ⟨p + 1, 9, none⟩ = false := HQ1.out.free 9
    have y9 : w1.cell? ⟨p, 9, none⟩ = some (.int .i64 0) := HP1.out.cell 9
    have g9 : w1.frozen? ⟨p, 9, none⟩ = false := HP1.out.free 9
    have c10 : w1.cell? ⟨p + 1, 10, none⟩ = some (.string ⟨#[]⟩) := HQ1.out.cell 10
    have f10 : w1.frozen? ⟨p + 1, 10, none⟩ = false := HQ1.out.free 10
    have y10 : w1.cell? ⟨p, 10, none⟩ = some (.string ⟨#[]⟩) := HP1.out.cell 10
    have g10 : w1.frozen? ⟨p, 10, none⟩ = false := HP1.out.free 10
    have c11 : w1.cell? ⟨p + 1, 11, none⟩ = some (.int .i64 0) := HQ1.out.cell 11
    have f11 : w1.frozen? ⟨p + 1, 11, none⟩ = false := HQ1.out.free 11
    have y11 : w1.cell? ⟨p, 11, none⟩ = some (.int .i64 0) := HP1.out.cell 11
    have g11 : w1.frozen? ⟨p, 11, none⟩ = false := HP1.out.free 11
    go_wp2_with fail
    have E3 : Has ((((((((((((((((w1.setCell ⟨p + 1, 1, none⟩ (.int .i64 t.k)).setCell ⟨p + 1, 2, none⟩ (.int .i64 t.a)).setCell ⟨p + 1, 3, none⟩ (.string (text.cutB t.x 45))).setCell ⟨p + 1, 4, none⟩ (.int .i64 t.n)).setCell ⟨p, 0, none⟩ (.int .i64 1)).setCell ⟨p, 1, none⟩ (.int .i64 t.k)).setCell ⟨p, 2, none⟩ (.int .i64 t.a)).setCell ⟨p, 3, none⟩ (.string (text.cutB t.x 45))).setCell ⟨p, 4, none⟩ (.int .i64 t.n)).setCell ⟨p, 5, none⟩ (.int .i64 0)).setCell ⟨p, 6, none⟩ (.string ⟨#[]⟩)).setCell ⟨p, 7, none⟩ (.string ⟨#[]⟩)).setCell ⟨p, 8, none⟩ (.int .i64 0)).setCell ⟨p, 9, none⟩ (.int .i64 0)).setCell ⟨p, 10, none⟩ (.string ⟨#[]⟩)).setCell ⟨p, 11, none⟩ (.int .i64 0)) p 39 #[.int .i64 1, .int .i64 t.k, .int .i64 t.a, .string (text.cutB t.x 45), .int .i64 t.n, .int .i64 0, .string ⟨#[]⟩, .string ⟨#[]⟩, .int .i64 0, .int .i64 0, .string ⟨#[]⟩, .int .i64 0] := (set12 (set12 (set12 (set12 (set12 (set12 (set12 (set12 (set12 (set12 (set12 (set12 (Has.far (Has.far (Has.far (Has.far HP1.out (p := ⟨p + 1, 1, none⟩) (Nat.succ_ne_self p).symm (.int .i64 t.k)) (p := ⟨p + 1, 2, none⟩) (Nat.succ_ne_self p).symm (.int .i64 t.a)) (p := ⟨p + 1, 3, none⟩) (Nat.succ_ne_self p).symm (.string (text.cutB t.x 45))) (p := ⟨p + 1, 4, none⟩) (Nat.succ_ne_self p).symm (.int .i64 t.n)) 0 (.int .i64 1) (cs2 := #[.int .i64 1, .int .i64 0, .int .i64 0, .string ⟨#[]⟩, .int .i64 0, .int .i64 0, .string ⟨#[]⟩, .string ⟨#[]⟩, .int .i64 0, .int .i64 0, .string ⟨#[]⟩, .int .i64 0]) rfl) 1 (.int .i64 t.k) (cs2 := #[.int .i64 1, .int .i64 t.k, .int .i64 0, .string ⟨#[]⟩, .int .i64 0, .int .i64 0, .string ⟨#[]⟩, .string ⟨#[]⟩, .int .i64 0, .int .i64 0, .string ⟨#[]⟩, .int .i64 0]) rfl) 2 (.int .i64 t.a) (cs2 := #[.int .i64 1, .int .i64 t.k, .int .i64 t.a, .string ⟨#[]⟩, .int .i64 0, .int .i64 0, .string ⟨#[]⟩, .string ⟨#[]⟩, .int .i64 0, .int .i64 0, .string ⟨#[]⟩, .int .i64 0]) rfl) 3 (.string (text.cutB t.x 45)) (cs2 := #[.int .i64 1, .int .i64 t.k, .int .i64 t.a, .string (text.cutB t.x 45), .int .i64 0, .int .i64 0, .string ⟨#[]⟩, .string ⟨#[]⟩, .int .i64 0, .int .i64 0, .string ⟨#[]⟩, .int .i64 0]) rfl) 4 (.int .i64 t.n) (cs2 := #[.int .i64 1, .int .i64 t.k, .int .i64 t.a, .string (text.cutB t.x 45), .int .i64 t.n, .int .i64 0, .string ⟨#[]⟩, .string ⟨#[]⟩, .int .i64 0, .int .i64 0, .string ⟨#[]⟩, .int .i64 0]) rfl) 5 (.int .i64 0) (cs2 := #[.int .i64 1, .int .i64 t.k, .int .i64 t.a, .string (text.cutB t.x 45), .int .i64 t.n, .int .i64 0, .string ⟨#[]⟩, .string ⟨#[]⟩, .int .i64 0, .int .i64 0, .string ⟨#[]⟩, .int .i64 0]) rfl) 6 (.string ⟨#[]⟩) (cs2 := #[.int .i64 1, .int .i64 t.k, .int .i64 t.a, .string (text.cutB t.x 45), .int .i64 t.n, .int .i64 0, .string ⟨#[]⟩, .string ⟨#[]⟩, .int .i64 0, .int .i64 0, .string ⟨#[]⟩, .int .i64 0]) rfl) 7 (.string ⟨#[]⟩) (cs2 := #[.int .i64 1, .int .i64 t.k, .int .i64 t.a, .string (text.cutB t.x 45), .int .i64 t.n, .int .i64 0, .string ⟨#[]⟩, .string ⟨#[]⟩, .int .i64 0, .int .i64 0, .string ⟨#[]⟩, .int .i64 0]) rfl) 8 (.int .i64 0) (cs2 := #[.int .i64 1, .int .i64 t.k, .int .i64 t.a, .string (text.cutB t.x 45), .int .i64 t.n, .int .i64 0, .string ⟨#[]⟩, .string ⟨#[]⟩, .int .i64 0, .int .i64 0, .string ⟨#[]⟩, .int .i64 0]) rfl) 9 (.int .i64 0) (cs2 := #[.int .i64 1, .int .i64 t.k, .int .i64 t.a, .string (text.cutB t.x 45), .int .i64 t.n, .int .i64 0, .string ⟨#[]⟩, .string ⟨#[]⟩, .int .i64 0, .int .i64 0, .string ⟨#[]⟩, .int .i64 0]) rfl) 10 (.string ⟨#[]⟩) (cs2 := #[.int .i64 1, .int .i64 t.k, .int .i64 t.a, .string (text.cutB t.x 45), .int .i64 t.n, .int .i64 0, .string ⟨#[]⟩, .string ⟨#[]⟩, .int .i64 0, .int .i64 0, .string ⟨#[]⟩, .int .i64 0]) rfl) 11 (.int .i64 0) (cs2 := #[.int .i64 1, .int .i64 t.k, .int .i64 t.a, .string (text.cutB t.x 45), .int .i64 t.n, .int .i64 0, .string ⟨#[]⟩, .string ⟨#[]⟩, .int .i64 0, .int .i64 0, .string ⟨#[]⟩, .int .i64 0]) rfl)
    have T3 : Hid (Turn (fun k => w.heap.size ≤ k) w ((((((((((((((((w1.setCell ⟨p + 1, 1, none⟩ (.int .i64 t.k)).setCell ⟨p + 1, 2, none⟩ (.int .i64 t.a)).setCell ⟨p + 1, 3, none⟩ (.string (text.cutB t.x 45))).setCell ⟨p + 1, 4, none⟩ (.int .i64 t.n)).setCell ⟨p, 0, none⟩ (.int .i64 1)).setCell ⟨p, 1, none⟩ (.int .i64 t.k)).setCell ⟨p, 2, none⟩ (.int .i64 t.a)).setCell ⟨p, 3, none⟩ (.string (text.cutB t.x 45))).setCell ⟨p, 4, none⟩ (.int .i64 t.n)).setCell ⟨p, 5, none⟩ (.int .i64 0)).setCell ⟨p, 6, none⟩ (.string ⟨#[]⟩)).setCell ⟨p, 7, none⟩ (.string ⟨#[]⟩)).setCell ⟨p, 8, none⟩ (.int .i64 0)).setCell ⟨p, 9, none⟩ (.int .i64 0)).setCell ⟨p, 10, none⟩ (.string ⟨#[]⟩)).setCell ⟨p, 11, none⟩ (.int .i64 0))) := (Turn.put (Turn.put (Turn.put (Turn.put (Turn.put (Turn.put (Turn.put (Turn.put (Turn.put (Turn.put (Turn.put (Turn.put (Turn.put (Turn.put (Turn.put (Turn.put T1.out (fun h => by omega) _ _) (fun h => by omega) _ _) (fun h => by omega) _ _) (fun h => by omega) _ _) (fun h => by omega) _ _) (fun h => by omega) _ _) (fun h => by omega) _ _) (fun h => by omega) _ _) (fun h => by omega) _ _) (fun h => by omega) _ _) (fun h => by omega) _ _) (fun h => by omega) _ _) (fun h => by omega) _ _) (fun h => by omega) _ _) (fun h => by omega) _ _) (fun h => by omega) _ _)
    generalize ((((((((((((((((w1.setCell ⟨p + 1, 1, none⟩ (.int .i64 t.k)).setCell ⟨p + 1, 2, none⟩ (.int .i64 t.a)).setCell ⟨p + 1, 3, none⟩ (.string (text.cutB t.x 45))).setCell ⟨p + 1, 4, none⟩ (.int .i64 t.n)).setCell ⟨p, 0, none⟩ (.int .i64 1)).setCell ⟨p, 1, none⟩ (.int .i64 t.k)).setCell ⟨p, 2, none⟩ (.int .i64 t.a)).setCell ⟨p, 3, none⟩ (.string (text.cutB t.x 45))).setCell ⟨p, 4, none⟩ (.int .i64 t.n)).setCell ⟨p, 5, none⟩ (.int .i64 0)).setCell ⟨p, 6, none⟩ (.string ⟨#[]⟩)).setCell ⟨p, 7, none⟩ (.string ⟨#[]⟩)).setCell ⟨p, 8, none⟩ (.int .i64 0)).setCell ⟨p, 9, none⟩ (.int .i64 0)).setCell ⟨p, 10, none⟩ (.string ⟨#[]⟩)).setCell ⟨p, 11, none⟩ (.int .i64 0)) = W2 at *
    have w100 : W2.cell? ⟨p, 0, none⟩ = some (.int .i64 1) := E3.cell 0
    have w101 : W2.cell? ⟨p, 1, none⟩ = some (.int .i64 t.k) := E3.cell 1
    have w102 : W2.cell? ⟨p, 2, none⟩ = some (.int .i64 t.a) := E3.cell 2
    have w103 : W2.cell? ⟨p, 3, none⟩ = some (.string (text.cutB t.x 45)) := E3.cell 3
    have w104 : W2.cell? ⟨p, 4, none⟩ = some (.int .i64 t.n) := E3.cell 4
    have w105 : W2.cell? ⟨p, 5, none⟩ = some (.int .i64 0) := E3.cell 5
    have w106 : W2.cell? ⟨p, 6, none⟩ = some (.string ⟨#[]⟩) := E3.cell 6
    have w107 : W2.cell? ⟨p, 7, none⟩ = some (.string ⟨#[]⟩) := E3.cell 7
    have w108 : W2.cell? ⟨p, 8, none⟩ = some (.int .i64 0) := E3.cell 8
    have w109 : W2.cell? ⟨p, 9, none⟩ = some (.int .i64 0) := E3.cell 9
    have w110 : W2.cell? ⟨p, 10, none⟩ = some (.string ⟨#[]⟩) := E3.cell 10
    have w111 : W2.cell? ⟨p, 11, none⟩ = some (.int .i64 0) := E3.cell 11
    exact bodyPost_ret (v := .agg #[.int .i64 1, .int .i64 t.k, .int .i64 t.a, .string (text.cutB t.x 45), .int .i64 t.n, .int .i64 0, .string ⟨#[]⟩, .string ⟨#[]⟩, .int .i64 0, .int .i64 0, .string ⟨#[]⟩, .int .i64 0]) (by simp [results, Tryz.results22, go_sem, w100, w101, w102, w103, w104, w105, w106, w107, w108, w109, w110, w111]) rfl ⟨rfl, turn_box T3.out⟩

set_option maxRecDepth 100000 in
set_option maxHeartbeats 1000000 in
theorem ofew2 (o : OpO) (w : World) (ho : o.Fits) (hk : o.k = 2) :
    Calls Tryz.prog 22 #[.agg o.cells] w fun en w' => en = .returned (.agg o.few.cells) ∧ Below w.heap.size w w' := by
  · obtain ⟨k, t, l, z⟩ := o
    obtain rfl : k = 2 := hk
    obtain ⟨hx, hs, ht, hss⟩ := ho
    have HX : Hid (t.x.size ≤ maxLen) := Lib.hid hx
    have HS : Hid (l.s.size ≤ maxLen) := Lib.hid hs
    have HT : Hid (l.t.size ≤ maxLen) := Lib.hid ht
    have HSS : Hid (z.s.size ≤ maxLen) := Lib.hid hss
    have HF : Hid ((OpO.mk 2 t l z).few = ⟨2, zT, l.few, zS⟩) := rfl
    clear hx hs ht hss
    rw [HF.out]
    unfold OpO.cells
    go_enter Tryz.func22, Tryz.ntmps22
    go_wp2_with fail
    refine callsName (fun W hW => ?_)
    obtain ⟨p, ep⟩ : ∃ p, p = w.heap.size + 1 := ⟨_, rfl⟩
    have HQ : Hid (Has W (p + 1) 39 #[.int .i64 2, .int .i64 0, .int .i64 0, .string ⟨#[]⟩, .int .i64 0, .int .i64 0, .string ⟨#[]⟩, .string ⟨#[]⟩, .int .i64 0, .int .i64 0, .string ⟨#[]⟩, .int .i64 0]) := by
      show Has _ _ _ _
      rw [← hW, ep]
      exact made_at _ _ (by simp)
    have HP : Hid (Has W p 39 #[.int .i64 0, .int .i64 0, .int .i64 0, .string ⟨#[]⟩, .int .i64 0, .int .i64 0, .string ⟨#[]⟩, .string ⟨#[]⟩, .int .i64 0, .int .i64 0, .string ⟨#[]⟩, .int .i64 0]) := by
      show Has _ _ _ _
      rw [← hW, ep]
      exact (made_at _ _ (by simp)).alloc _
    have T0 : Hid (Turn (fun k => w.heap.size ≤ k) w W) := by
      show Turn _ _ _
      rw [← hW]
      repeat (first | exact Turn.refl _ _ | refine Turn.alloc ?_ _ | refine Turn.put ?_ (fun h => by omega) _ _)
    have hwp : w.heap.size < p := by omega
    rw [← ep]
    clear hW ep
    refine (lfew_any l W HS.out HT.out).mono ?_
    rintro en w1 ⟨rfl, b1⟩
    have HP1 := Lib.hid (HP.out.below b1 HP.out.lt)
    have HQ1 := Lib.hid (HQ.out.below b1 HQ.out.lt)
    have T1 : Hid (Turn (fun k => w.heap.size ≤ k) w w1) := Lib.hid (T0.out.trans (Turn.of_below b1 (F := fun j => W.heap.size ≤ j) (fun _ _ e => e)) (fun j _ e => Nat.le_trans T0.out.size e))
    clear b1 HP HQ T0
    have c0 : w1.cell? ⟨p + 1, 0, none⟩ = some (.int .i64 2) := HQ1.out.cell 0
    have f0 : w1.frozen? ⟨p + 1, 0, none⟩ = false := HQ1.out.free 0
    have y0 : w1.cell? ⟨p, 0, none⟩ = some (.int .i64 0) := HP1.out.cell 0
    have g0 : w1.frozen? ⟨p, 0, none⟩ = false := HP1.out.free 0
    have c1 : w1.cell? ⟨p + 1, 1, none⟩ = some (.int .i64 0) := HQ1.out.cell 1
    have f1 : w1.frozen? ⟨p + 1, 1, none⟩ = false := HQ1.out.free 1
    have y1 : w1.cell? ⟨p, 1, none⟩ = some (.int .i64 0) := HP1.out.cell 1
    have g1 : w1.frozen? ⟨p, 1, none⟩ = false := HP1.out.free 1
    have c2 : w1.cell? ⟨p + 1, 2, none⟩ = some (.int .i64 0) := HQ1.out.cell 2
    have f2 : w1.frozen? ⟨p + 1, 2, none⟩ = false := HQ1.out.free 2
    have y2 : w1.cell? ⟨p, 2, none⟩ = some (.int .i64 0) := HP1.out.cell 2
    have g2 : w1.frozen? ⟨p, 2, none⟩ = false := HP1.out.free 2
    have c3 : w1.cell? ⟨p + 1, 3, none⟩ = some (.string ⟨#[]⟩) := HQ1.out.cell 3
    have f3 : w1.frozen? ⟨p + 1, 3, none⟩ = false := HQ1.out.free 3
    have y3 : w1.cell? ⟨p, 3, none⟩ = some (.string ⟨#[]⟩) := HP1.out.cell 3
    have g3 : w1.frozen? ⟨p, 3, none⟩ = false := HP1.out.free 3
    have c4 : w1.cell? ⟨p + 1, 4, none⟩ = some (.int .i64 0) := HQ1.out.cell 4
    have f4 : w1.frozen? ⟨p + 1, 4, none⟩ = false := HQ1.out.free 4
    have y4 : w1.cell? ⟨p, 4, none⟩ = some (.int .i64 0) := HP1.out.cell 4
    have g4 : w1.frozen? ⟨p, 4, none⟩ = false := HP1.out.free 4
    have c5 : w1.cell? ⟨p + 1, 5, none⟩ = some (.int .i64 0) := HQ1.out.cell 5
    have f5 : w1.frozen? ⟨p + 1, 5, none⟩ = false := HQ1.out.free 5
    have y5 : w1.cell? ⟨p, 5, none⟩ = some (.int .i64 0) := HP1.out.cell 5
    have g5 : w1.frozen? ⟨p, 5, none⟩ = false := HP1.out.free 5
    have c6 : w1.cell? ⟨p + 1, 6, none⟩ = some (.string ⟨#[]⟩) := HQ1.out.cell 6
    have f6 : w1.frozen? ⟨p + 1, 6, none⟩ = false := HQ1.out.free 6
    have y6 : w1.cell? ⟨p, 6, none⟩ = some (.string ⟨#[]⟩) := HP1.out.cell 6
    have g6 : w1.frozen? ⟨p, 6, none⟩ = false := HP1.out.free 6
    have c7 : w1.cell? ⟨p + 1, 7, none⟩ = some (.string ⟨#[]⟩) := HQ1.out.cell 7
    have f7 : w1.frozen? ⟨p + 1, 7, none⟩ = false := HQ1.out.free 7
    have y7 : w1.cell? ⟨p, 7, none⟩ = some (.string ⟨#[]⟩) := HP1.out.cell 7
    have g7 : w1.frozen? ⟨p, 7, none⟩ = false := HP1.out.free 7
    have c8 : w1.cell? ⟨p + 1, 8, none⟩ = some (.int .i64 0) := HQ1.out.cell 8
    have f8 : w1.frozen? ⟨p + 1, 8, none⟩ = false := HQ1.out.free 8
    have y8 : w1.cell? ⟨p, 8, none⟩ = some (.int .i64 0) := HP1.out.cell 8
    have g8 : w1.frozen? ⟨p, 8, none⟩ = false := HP1.out.free 8
    have c9 : w1.cell? ⟨p + 1, 9, none⟩ = some (.int .i64 0) := HQ1.out.cell 9
    have f9 : w1.frozen? ⟨p + 1, 9, none⟩ = false := HQ1.out.free 9
    have y9 : w1.cell? ⟨p, 9, none⟩ = some (.int .i64 0) := HP1.out.cell 9
    have g9 : w1.frozen? ⟨p, 9, none⟩ = false := HP1.out.free 9
    have c10 : w1.cell? ⟨p + 1, 10, none⟩ = some (.string ⟨#[]⟩) := HQ1.out.cell 10
    have f10 : w1.frozen? ⟨p + 1, 10, none⟩ = false := HQ1.out.free 10
    have y10 : w1.cell? ⟨p, 10, none⟩ = some (.string ⟨#[]⟩) := HP1.out.cell 10
    have g10 : w1.frozen? ⟨p, 10, none⟩ = false := HP1.out.free 10
    have c11 : w1.cell? ⟨p + 1, 11, none⟩ = some (.int .i64 0) := HQ1.out.cell 11
    have f11 : w1.frozen? ⟨p + 1, 11, none⟩ = false := HQ1.out.free 11
    have y11 : w1.cell? ⟨p, 11, none⟩ = some (.int .i64 0) := HP1.out.cell 11
    have g11 : w1.frozen? ⟨p, 11, none⟩ = false := HP1.out.free 11
    go_wp2_with fail
    have E3 : Has ((((((((((((((((w1.setCell ⟨p + 1, 5, none⟩ (.int .i64 l.few.k)).setCell ⟨p + 1, 6, none⟩ (.string l.few.s)).setCell ⟨p + 1, 7, none⟩ (.string l.few.t)).setCell ⟨p + 1, 8, none⟩ (.int .i64 l.few.n)).setCell ⟨p, 0, none⟩ (.int .i64 2)).setCell ⟨p, 1, none⟩ (.int .i64 0)).setCell ⟨p, 2, none⟩ (.int .i64 0)).setCell ⟨p, 3, none⟩ (.string ⟨#[]⟩)).setCell ⟨p, 4, none⟩ (.int .i64 0)).setCell ⟨p, 5, none⟩ (.int .i64 l.few.k)).setCell ⟨p, 6, none⟩ (.string l.few.s)).setCell ⟨p, 7, none⟩ (.string l.few.t)).setCell ⟨p, 8, none⟩ (.int .i64 l.few.n)).setCell ⟨p, 9, none⟩ (.int .i64 0)).setCell ⟨p, 10, none⟩ (.string ⟨#[]⟩)).setCell ⟨p, 11, none⟩ (.int .i64 0)) p 39 #[.int .i64 2, .int .i64 0, .int .i64 0, .string ⟨#[]⟩, .int .i64 0, .int .i64 l.few.k, .string l.few.s, .string l.few.t, .int .i64 l.few.n, .int .i64 0, .string ⟨#[]⟩, .int .i64 0] := (set12 (set12 (set12 (set12 (set12 (set12 (set12 (set12 (set12 (set12 (set12 (set12 (Has.far (Has.far (Has.far (Has.far HP1.out (p := ⟨p + 1, 5, none⟩) (Nat.succ_ne_self p).symm (.int .i64 l.few.k)) (p := ⟨p + 1, 6, none⟩) (Nat.succ_ne_self p).symm (.string l.few.s)) (p := ⟨p + 1, 7, none⟩) (Nat.succ_ne_self p).symm (.string l.few.t)) (p := ⟨p + 1, 8, none⟩) (Nat.succ_ne_self p).symm (.int .i64 l.few.n)) 0 (.int .i64 2) (cs2 := #[.int .i64 2, .int .i64 0, .int .i64 0, .string ⟨#[]⟩, .int .i64 0, .int .i64 0, .string ⟨#[]⟩, .string ⟨#[]⟩, .int .i64 0, .int .i64 0, .string ⟨#[]⟩, .int .i64 0]) rfl) 1 (.int .i64 0) (cs2 := #[.int .i64 2, .int .i64 0, .int .i64 0, .string ⟨#[]⟩, .int .i64 0, .int .i64 0, .string ⟨#[]⟩, .string ⟨#[]⟩, .int .i64 0, .int .i64 0, .string ⟨#[]⟩, .int .i64 0]) rfl) 2 (.int .i64 0) (cs2 := #[.int .i64 2, .int .i64 0, .int .i64 0, .string ⟨#[]⟩, .int .i64 0, .int .i64 0, .string ⟨#[]⟩, .string ⟨#[]⟩, .int .i64 0, .int .i64 0, .string ⟨#[]⟩, .int .i64 0]) rfl) 3 (.string ⟨#[]⟩) (cs2 := #[.int .i64 2, .int .i64 0, .int .i64 0, .string ⟨#[]⟩, .int .i64 0, .int .i64 0, .string ⟨#[]⟩, .string ⟨#[]⟩, .int .i64 0, .int .i64 0, .string ⟨#[]⟩, .int .i64 0]) rfl) 4 (.int .i64 0) (cs2 := #[.int .i64 2, .int .i64 0, .int .i64 0, .string ⟨#[]⟩, .int .i64 0, .int .i64 0, .string ⟨#[]⟩, .string ⟨#[]⟩, .int .i64 0, .int .i64 0, .string ⟨#[]⟩, .int .i64 0]) rfl) 5 (.int .i64 l.few.k) (cs2 := #[.int .i64 2, .int .i64 0, .int .i64 0, .string ⟨#[]⟩, .int .i64 0, .int .i64 l.few.k, .string ⟨#[]⟩, .string ⟨#[]⟩, .int .i64 0, .int .i64 0, .string ⟨#[]⟩, .int .i64 0]) rfl) 6 (.string l.few.s) (cs2 := #[.int .i64 2, .int .i64 0, .int .i64 0, .string ⟨#[]⟩, .int .i64 0, .int .i64 l.few.k, .string l.few.s, .string ⟨#[]⟩, .int .i64 0, .int .i64 0, .string ⟨#[]⟩, .int .i64 0]) rfl) 7 (.string l.few.t) (cs2 := #[.int .i64 2, .int .i64 0, .int .i64 0, .string ⟨#[]⟩, .int .i64 0, .int .i64 l.few.k, .string l.few.s, .string l.few.t, .int .i64 0, .int .i64 0, .string ⟨#[]⟩, .int .i64 0]) rfl) 8 (.int .i64 l.few.n) (cs2 := #[.int .i64 2, .int .i64 0, .int .i64 0, .string ⟨#[]⟩, .int .i64 0, .int .i64 l.few.k, .string l.few.s, .string l.few.t, .int .i64 l.few.n, .int .i64 0, .string ⟨#[]⟩, .int .i64 0]) rfl) 9 (.int .i64 0) (cs2 := #[.int .i64 2, .int .i64 0, .int .i64 0, .string ⟨#[]⟩, .int .i64 0, .int .i64 l.few.k, .string l.few.s, .string l.few.t, .int .i64 l.few.n, .int .i64 0, .string ⟨#[]⟩, .int .i64 0]) rfl) 10 (.string ⟨#[]⟩) (cs2 := #[.int .i64 2, .int .i64 0, .int .i64 0, .string ⟨#[]⟩, .int .i64 0, .int .i64 l.few.k, .string l.few.s, .string l.few.t, .int .i64 l.few.n, .int .i64 0, .string ⟨#[]⟩, .int .i64 0]) rfl) 11 (.int .i64 0) (cs2 := #[.int .i64 2, .int .i64 0, .int .i64 0, .string ⟨#[]⟩, .int .i64 0, .int .i64 l.few.k, .string l.few.s, .string l.few.t, .int .i64 l.few.n, .int .i64 0, .string ⟨#[]⟩, .int .i64 0]) rfl)
    have T3 : Hid (Turn (fun k => w.heap.size ≤ k) w ((((((((((((((((w1.setCell ⟨p + 1, 5, none⟩ (.int .i64 l.few.k)).setCell ⟨p + 1, 6, none⟩ (.string l.few.s)).setCell ⟨p + 1, 7, none⟩ (.string l.few.t)).setCell ⟨p + 1, 8, none⟩ (.int .i64 l.few.n)).setCell ⟨p, 0, none⟩ (.int .i64 2)).setCell ⟨p, 1, none⟩ (.int .i64 0)).setCell ⟨p, 2, none⟩ (.int .i64 0)).setCell ⟨p, 3, none⟩ (.string ⟨#[]⟩)).setCell ⟨p, 4, none⟩ (.int .i64 0)).setCell ⟨p, 5, none⟩ (.int .i64 l.few.k)).setCell ⟨p, 6, none⟩ (.string l.few.s)).setCell ⟨p, 7, none⟩ (.string l.few.t)).setCell ⟨p, 8, none⟩ (.int .i64 l.few.n)).setCell ⟨p, 9, none⟩ (.int .i64 0)).setCell ⟨p, 10, none⟩ (.string ⟨#[]⟩)).setCell ⟨p, 11, none⟩ (.int .i64 0))) := (Turn.put (Turn.put (Turn.put (Turn.put (Turn.put (Turn.put (Turn.put (Turn.put (Turn.put (Turn.put (Turn.put (Turn.put (Turn.put (Turn.put (Turn.put (Turn.put T1.out (fun h => by omega) _ _) (fun h => by omega) _ _) (fun h => by omega) _ _) (fun h => by omega) _ _) (fun h => by omega) _ _) (fun h => by omega) _ _) (fun h => by omega) _ _) (fun h => by omega) _ _) (fun h => by omega) _ _) (fun h => by omega) _ _) (fun h => by omega) _ _) (fun h => by omega) _ _) (fun h => by omega) _ _) (fun h => by omega) _ _) (fun h => by omega) _ _) (fun h => by omega) _ _)
    generalize ((((((((((((((((w1.setCell ⟨p + 1, 5, none⟩ (.int .i64 l.few.k)).setCell ⟨p + 1, 6, none⟩ (.string l.few.s)).setCell ⟨p + 1, 7, none⟩ (.string l.few.t)).setCell ⟨p + 1, 8, none⟩ (.int .i64 l.few.n)).setCell ⟨p, 0, none⟩ (.int .i64 2)).setCell ⟨p, 1, none⟩ (.int .i64 0)).setCell ⟨p, 2, none⟩ (.int .i64 0)).setCell ⟨p, 3, none⟩ (.string ⟨#[]⟩)).setCell ⟨p, 4, none⟩ (.int .i64 0)).setCell ⟨p, 5, none⟩ (.int .i64 l.few.k)).setCell ⟨p, 6, none⟩ (.string l.few.s)).setCell ⟨p, 7, none⟩ (.string l.few.t)).setCell ⟨p, 8, none⟩ (.int .i64 l.few.n)).setCell ⟨p, 9, none⟩ (.int .i64 0)).setCell ⟨p, 10, none⟩ (.string ⟨#[]⟩)).setCell ⟨p, 11, none⟩ (.int .i64 0)) = W2 at *
    have w100 : W2.cell? ⟨p, 0, none⟩ = some (.int .i64 2) := E3.cell 0
    have w101 : W2.cell? ⟨p, 1, none⟩ = some (.int .i64 0) := E3.cell 1
    have w102 : W2.cell? ⟨p, 2, none⟩ = some (.int .i64 0) := E3.cell 2
    have w103 : W2.cell? ⟨p, 3, none⟩ = some (.string ⟨#[]⟩) := E3.cell 3
    have w104 : W2.cell? ⟨p, 4, none⟩ = some (.int .i64 0) := E3.cell 4
    have w105 : W2.cell? ⟨p, 5, none⟩ = some (.int .i64 l.few.k) := E3.cell 5
    have w106 : W2.cell? ⟨p, 6, none⟩ = some (.string l.few.s) := E3.cell 6
    have w107 : W2.cell? ⟨p, 7, none⟩ = some (.string l.few.t) := E3.cell 7
    have w108 : W2.cell? ⟨p, 8, none⟩ = some (.int .i64 l.few.n) := E3.cell 8
    have w109 : W2.cell? ⟨p, 9, none⟩ = some (.int .i64 0) := E3.cell 9
    have w110 : W2.cell? ⟨p, 10, none⟩ = some (.string ⟨#[]⟩) := E3.cell 10
    have w111 : W2.cell? ⟨p, 11, none⟩ = some (.int .i64 0) := E3.cell 11
    exact bodyPost_ret (v := .agg #[.int .i64 2, .int .i64 0, .int .i64 0, .string ⟨#[]⟩, .int .i64 0, .int .i64 l.few.k, .string l.few.s, .string l.few.t, .int .i64 l.few.n, .int .i64 0, .string ⟨#[]⟩, .int .i64 0]) (by simp [results, Tryz.results22, go_sem, w100, w101, w102, w103, w104, w105, w106, w107, w108, w109, w110, w111]) rfl ⟨rfl, turn_box T3.out⟩

set_option maxRecDepth 100000 in
set_option maxHeartbeats 1000000 in
theorem ofew3 (o : OpO) (w : World) (ho : o.Fits) (hk : o.k = 3) :
    Calls Tryz.prog 22 #[.agg o.cells] w fun en w' => en = .returned (.agg o.few.cells) ∧ Below w.heap.size w w' := by
  · obtain ⟨k, t, l, z⟩ := o
    obtain rfl : k = 3 := hk
    obtain ⟨hx, hs, ht, hss⟩ := ho
    have HX : Hid (t.x.size ≤ maxLen) := Lib.hid hx
    have HS : Hid (l.s.size ≤ maxLen) := Lib.hid hs
    have HT : Hid (l.t.size ≤ maxLen) := Lib.hid ht
    have HSS : Hid (z.s.size ≤ maxLen) := Lib.hid hss
    have HF : Hid ((OpO.mk 3 t l z).few = ⟨3, zT, zL, z.few⟩) := rfl
    clear hx hs ht hss
    rw [HF.out]
    unfold OpO.cells
    go_enter Tryz.func22, Tryz.ntmps22
    go_wp2_with fail
    refine callsName (fun W hW => ?_)
    obtain ⟨p, ep⟩ : ∃ p, p = w.heap.size + 1 := ⟨_, rfl⟩
    have HQ : Hid (Has W (p + 1) 39 #[.int .i64 3, .int .i64 0, .int .i64 0, .string ⟨#[]⟩, .int .i64 0, .int .i64 0, .string ⟨#[]⟩, .string ⟨#[]⟩, .int .i64 0, .int .i64 0, .string ⟨#[]⟩, .int .i64 0]) := by
      show Has _ _ _ _
      rw [← hW, ep]
      exact made_at _ _ (by simp)
    have HP : Hid (Has W p 39 #[.int .i64 0, .int .i64 0, .int .i64 0, .string ⟨#[]⟩, .int .i64 0, .int .i64 0, .string ⟨#[]⟩, .string ⟨#[]⟩, .int .i64 0, .int .i64 0, .string ⟨#[]⟩, .int .i64 0]) := by
      show Has _ _ _ _
      rw [← hW, ep]
      exact (made_at _ _ (by simp)).alloc _
    have T0 : Hid (Turn (fun k => w.heap.size ≤ k) w W) := by
      show Turn _ _ _
      rw [← hW]
      repeat (first | exact Turn.refl _ _ | refine Turn.alloc ?_ _ | refine Turn.put ?_ (fun h => by omega) _ _)
    have hwp : w.heap.size < p := by omega
    rw [← ep]
    clear hW ep
    refine (stock.sfew_any z W HSS.out).mono ?_
    rintro en w1 ⟨rfl, b1⟩
    have HP1 := Lib.hid (HP.out.below b1 HP.out.lt)
    have HQ1 := Lib.hid (HQ.out.below b1 HQ.out.lt)
    have T1 : Hid (Turn (fun k => w.heap.size ≤ k) w w1) := Lib.hid (T0.out.trans (Turn.of_below b1 (F := fun j => W.heap.size ≤ j) (fun _ _ e => e)) (fun j _ e => Nat.le_trans T0.out.size e))
    clear b1 HP HQ T0
    have c0 : w1.cell? ⟨p + 1, 0, none⟩ = some (.int .i64 3) := HQ1.out.cell 0
    have f0 : w1.frozen? ⟨p + 1, 0, none⟩ = false := HQ1.out.free 0
    have y0 : w1.cell? ⟨p, 0, none⟩ = some (.int .i64 0) := HP1.out.cell 0
    have g0 : w1.frozen? ⟨p, 0, none⟩ = false := HP1.out.free 0
    have c1 : w1.cell? ⟨p + 1, 1, none⟩ = some (.int .i64 0) := HQ1.out.cell 1
    have f1 : w1.frozen? ⟨p + 1, 1, none⟩ = false := HQ1.out.free 1
    have y1 : w1.cell? ⟨p, 1, none⟩ = some (.int .i64 0) := HP1.out.cell 1
    have g1 : w1.frozen? ⟨p, 1, none⟩ = false := HP1.out.free 1
    have c2 : w1.cell? ⟨p + 1, 2, none⟩ = some (.int .i64 0) := HQ1.out.cell 2
    have f2 : w1.frozen? ⟨p + 1, 2, none⟩ = false := HQ1.out.free 2
    have y2 : w1.cell? ⟨p, 2, none⟩ = some (.int .i64 0) := HP1.out.cell 2
    have g2 : w1.frozen? ⟨p, 2, none⟩ = false := HP1.out.free 2
    have c3 : w1.cell? ⟨p + 1, 3, none⟩ = some (.string ⟨#[]⟩) := HQ1.out.cell 3
    have f3 : w1.frozen? ⟨p + 1, 3, none⟩ = false := HQ1.out.free 3
    have y3 : w1.cell? ⟨p, 3, none⟩ = some (.string ⟨#[]⟩) := HP1.out.cell 3
    have g3 : w1.frozen? ⟨p, 3, none⟩ = false := HP1.out.free 3
    have c4 : w1.cell? ⟨p + 1, 4, none⟩ = some (.int .i64 0) := HQ1.out.cell 4
    have f4 : w1.frozen? ⟨p + 1, 4, none⟩ = false := HQ1.out.free 4
    have y4 : w1.cell? ⟨p, 4, none⟩ = some (.int .i64 0) := HP1.out.cell 4
    have g4 : w1.frozen? ⟨p, 4, none⟩ = false := HP1.out.free 4
    have c5 : w1.cell? ⟨p + 1, 5, none⟩ = some (.int .i64 0) := HQ1.out.cell 5
    have f5 : w1.frozen? ⟨p + 1, 5, none⟩ = false := HQ1.out.free 5
    have y5 : w1.cell? ⟨p, 5, none⟩ = some (.int .i64 0) := HP1.out.cell 5
    have g5 : w1.frozen? ⟨p, 5, none⟩ = false := HP1.out.free 5
    have c6 : w1.cell? ⟨p + 1, 6, none⟩ = some (.string ⟨#[]⟩) := HQ1.out.cell 6
    have f6 : w1.frozen? ⟨p + 1, 6, none⟩ = false := HQ1.out.free 6
    have y6 : w1.cell? ⟨p, 6, none⟩ = some (.string ⟨#[]⟩) := HP1.out.cell 6
    have g6 : w1.frozen? ⟨p, 6, none⟩ = false := HP1.out.free 6
    have c7 : w1.cell? ⟨p + 1, 7, none⟩ = some (.string ⟨#[]⟩) := HQ1.out.cell 7
    have f7 : w1.frozen? ⟨p + 1, 7, none⟩ = false := HQ1.out.free 7
    have y7 : w1.cell? ⟨p, 7, none⟩ = some (.string ⟨#[]⟩) := HP1.out.cell 7
    have g7 : w1.frozen? ⟨p, 7, none⟩ = false := HP1.out.free 7
    have c8 : w1.cell? ⟨p + 1, 8, none⟩ = some (.int .i64 0) := HQ1.out.cell 8
    have f8 : w1.frozen? ⟨p + 1, 8, none⟩ = false := HQ1.out.free 8
    have y8 : w1.cell? ⟨p, 8, none⟩ = some (.int .i64 0) := HP1.out.cell 8
    have g8 : w1.frozen? ⟨p, 8, none⟩ = false := HP1.out.free 8
    have c9 : w1.cell? ⟨p + 1, 9, none⟩ = some (.int .i64 0) := HQ1.out.cell 9
    have f9 : w1.frozen? ⟨p + 1, 9, none⟩ = false := HQ1.out.free 9
    have y9 : w1.cell? ⟨p, 9, none⟩ = some (.int .i64 0) := HP1.out.cell 9
    have g9 : w1.frozen? ⟨p, 9, none⟩ = false := HP1.out.free 9
    have c10 : w1.cell? ⟨p + 1, 10, none⟩ = some (.string ⟨#[]⟩) := HQ1.out.cell 10
    have f10 : w1.frozen? ⟨p + 1, 10, none⟩ = false := HQ1.out.free 10
    have y10 : w1.cell? ⟨p, 10, none⟩ = some (.string ⟨#[]⟩) := HP1.out.cell 10
    have g10 : w1.frozen? ⟨p, 10, none⟩ = false := HP1.out.free 10
    have c11 : w1.cell? ⟨p + 1, 11, none⟩ = some (.int .i64 0) := HQ1.out.cell 11
    have f11 : w1.frozen? ⟨p + 1, 11, none⟩ = false := HQ1.out.free 11
    have y11 : w1.cell? ⟨p, 11, none⟩ = some (.int .i64 0) := HP1.out.cell 11
    have g11 : w1.frozen? ⟨p, 11, none⟩ = false := HP1.out.free 11
    go_wp2_with fail
    have E3 : Has (((((((((((((((w1.setCell ⟨p + 1, 9, none⟩ (.int .i64 z.few.k)).setCell ⟨p + 1, 10, none⟩ (.string z.few.s)).setCell ⟨p + 1, 11, none⟩ (.int .i64 z.few.n)).setCell ⟨p, 0, none⟩ (.int .i64 3)).setCell ⟨p, 1, none⟩ (.int .i64 0)).setCell ⟨p, 2, none⟩ (.int .i64 0)).setCell ⟨p, 3, none⟩ (.string ⟨#[]⟩)).setCell ⟨p, 4, none⟩ (.int .i64 0)).setCell ⟨p, 5, none⟩ (.int .i64 0)).setCell ⟨p, 6, none⟩ (.string ⟨#[]⟩)).setCell ⟨p, 7, none⟩ (.string ⟨#[]⟩)).setCell ⟨p, 8, none⟩ (.int .i64 0)).setCell ⟨p, 9, none⟩ (.int .i64 z.few.k)).setCell ⟨p, 10, none⟩ (.string z.few.s)).setCell ⟨p, 11, none⟩ (.int .i64 z.few.n)) p 39 #[.int .i64 3, .int .i64 0, .int .i64 0, .string ⟨#[]⟩, .int .i64 0, .int .i64 0, .string ⟨#[]⟩, .string ⟨#[]⟩, .int .i64 0, .int .i64 z.few.k, .string z.few.s, .int .i64 z.few.n] := (set12 (set12 (set12 (set12 (set12 (set12 (set12 (set12 (set12 (set12 (set12 (set12 (Has.far (Has.far (Has.far HP1.out (p := ⟨p + 1, 9, none⟩) (Nat.succ_ne_self p).symm (.int .i64 z.few.k)) (p := ⟨p + 1, 10, none⟩) (Nat.succ_ne_self p).symm (.string z.few.s)) (p := ⟨p + 1, 11, none⟩) (Nat.succ_ne_self p).symm (.int .i64 z.few.n)) 0 (.int .i64 3) (cs2 := #[.int .i64 3, .int .i64 0, .int .i64 0, .string ⟨#[]⟩, .int .i64 0, .int .i64 0, .string ⟨#[]⟩, .string ⟨#[]⟩, .int .i64 0, .int .i64 0, .string ⟨#[]⟩, .int .i64 0]) rfl) 1 (.int .i64 0) (cs2 := #[.int .i64 3, .int .i64 0, .int .i64 0, .string ⟨#[]⟩, .int .i64 0, .int .i64 0, .string ⟨#[]⟩, .string ⟨#[]⟩, .int .i64 0, .int .i64 0, .string ⟨#[]⟩, .int .i64 0]) rfl) 2 (.int .i64 0) (cs2 := #[.int .i64 3, .int .i64 0, .int .i64 0, .string ⟨#[]⟩, .int .i64 0, .int .i64 0, .string ⟨#[]⟩, .string ⟨#[]⟩, .int .i64 0, .int .i64 0, .string ⟨#[]⟩, .int .i64 0]) rfl) 3 (.string ⟨#[]⟩) (cs2 := #[.int .i64 3, .int .i64 0, .int .i64 0, .string ⟨#[]⟩, .int .i64 0, .int .i64 0, .string ⟨#[]⟩, .string ⟨#[]⟩, .int .i64 0, .int .i64 0, .string ⟨#[]⟩, .int .i64 0]) rfl) 4 (.int .i64 0) (cs2 := #[.int .i64 3, .int .i64 0, .int .i64 0, .string ⟨#[]⟩, .int .i64 0, .int .i64 0, .string ⟨#[]⟩, .string ⟨#[]⟩, .int .i64 0, .int .i64 0, .string ⟨#[]⟩, .int .i64 0]) rfl) 5 (.int .i64 0) (cs2 := #[.int .i64 3, .int .i64 0, .int .i64 0, .string ⟨#[]⟩, .int .i64 0, .int .i64 0, .string ⟨#[]⟩, .string ⟨#[]⟩, .int .i64 0, .int .i64 0, .string ⟨#[]⟩, .int .i64 0]) rfl) 6 (.string ⟨#[]⟩) (cs2 := #[.int .i64 3, .int .i64 0, .int .i64 0, .string ⟨#[]⟩, .int .i64 0, .int .i64 0, .string ⟨#[]⟩, .string ⟨#[]⟩, .int .i64 0, .int .i64 0, .string ⟨#[]⟩, .int .i64 0]) rfl) 7 (.string ⟨#[]⟩) (cs2 := #[.int .i64 3, .int .i64 0, .int .i64 0, .string ⟨#[]⟩, .int .i64 0, .int .i64 0, .string ⟨#[]⟩, .string ⟨#[]⟩, .int .i64 0, .int .i64 0, .string ⟨#[]⟩, .int .i64 0]) rfl) 8 (.int .i64 0) (cs2 := #[.int .i64 3, .int .i64 0, .int .i64 0, .string ⟨#[]⟩, .int .i64 0, .int .i64 0, .string ⟨#[]⟩, .string ⟨#[]⟩, .int .i64 0, .int .i64 0, .string ⟨#[]⟩, .int .i64 0]) rfl) 9 (.int .i64 z.few.k) (cs2 := #[.int .i64 3, .int .i64 0, .int .i64 0, .string ⟨#[]⟩, .int .i64 0, .int .i64 0, .string ⟨#[]⟩, .string ⟨#[]⟩, .int .i64 0, .int .i64 z.few.k, .string ⟨#[]⟩, .int .i64 0]) rfl) 10 (.string z.few.s) (cs2 := #[.int .i64 3, .int .i64 0, .int .i64 0, .string ⟨#[]⟩, .int .i64 0, .int .i64 0, .string ⟨#[]⟩, .string ⟨#[]⟩, .int .i64 0, .int .i64 z.few.k, .string z.few.s, .int .i64 0]) rfl) 11 (.int .i64 z.few.n) (cs2 := #[.int .i64 3, .int .i64 0, .int .i64 0, .string ⟨#[]⟩, .int .i64 0, .int .i64 0, .string ⟨#[]⟩, .string ⟨#[]⟩, .int .i64 0, .int .i64 z.few.k, .string z.few.s, .int .i64 z.few.n]) rfl)
    have T3 : Hid (Turn (fun k => w.heap.size ≤ k) w (((((((((((((((w1.setCell ⟨p + 1, 9, none⟩ (.int .i64 z.few.k)).setCell ⟨p + 1, 10, none⟩ (.string z.few.s)).setCell ⟨p + 1, 11, none⟩ (.int .i64 z.few.n)).setCell ⟨p, 0, none⟩ (.int .i64 3)).setCell ⟨p, 1, none⟩ (.int .i64 0)).setCell ⟨p, 2, none⟩ (.int .i64 0)).setCell ⟨p, 3, none⟩ (.string ⟨#[]⟩)).setCell ⟨p, 4, none⟩ (.int .i64 0)).setCell ⟨p, 5, none⟩ (.int .i64 0)).setCell ⟨p, 6, none⟩ (.string ⟨#[]⟩)).setCell ⟨p, 7, none⟩ (.string ⟨#[]⟩)).setCell ⟨p, 8, none⟩ (.int .i64 0)).setCell ⟨p, 9, none⟩ (.int .i64 z.few.k)).setCell ⟨p, 10, none⟩ (.string z.few.s)).setCell ⟨p, 11, none⟩ (.int .i64 z.few.n))) := (Turn.put (Turn.put (Turn.put (Turn.put (Turn.put (Turn.put (Turn.put (Turn.put (Turn.put (Turn.put (Turn.put (Turn.put (Turn.put (Turn.put (Turn.put T1.out (fun h => by omega) _ _) (fun h => by omega) _ _) (fun h => by omega) _ _) (fun h => by omega) _ _) (fun h => by omega) _ _) (fun h => by omega) _ _) (fun h => by omega) _ _) (fun h => by omega) _ _) (fun h => by omega) _ _) (fun h => by omega) _ _) (fun h => by omega) _ _) (fun h => by omega) _ _) (fun h => by omega) _ _) (fun h => by omega) _ _) (fun h => by omega) _ _)
    generalize (((((((((((((((w1.setCell ⟨p + 1, 9, none⟩ (.int .i64 z.few.k)).setCell ⟨p + 1, 10, none⟩ (.string z.few.s)).setCell ⟨p + 1, 11, none⟩ (.int .i64 z.few.n)).setCell ⟨p, 0, none⟩ (.int .i64 3)).setCell ⟨p, 1, none⟩ (.int .i64 0)).setCell ⟨p, 2, none⟩ (.int .i64 0)).setCell ⟨p, 3, none⟩ (.string ⟨#[]⟩)).setCell ⟨p, 4, none⟩ (.int .i64 0)).setCell ⟨p, 5, none⟩ (.int .i64 0)).setCell ⟨p, 6, none⟩ (.string ⟨#[]⟩)).setCell ⟨p, 7, none⟩ (.string ⟨#[]⟩)).setCell ⟨p, 8, none⟩ (.int .i64 0)).setCell ⟨p, 9, none⟩ (.int .i64 z.few.k)).setCell ⟨p, 10, none⟩ (.string z.few.s)).setCell ⟨p, 11, none⟩ (.int .i64 z.few.n)) = W2 at *
    have w100 : W2.cell? ⟨p, 0, none⟩ = some (.int .i64 3) := E3.cell 0
    have w101 : W2.cell? ⟨p, 1, none⟩ = some (.int .i64 0) := E3.cell 1
    have w102 : W2.cell? ⟨p, 2, none⟩ = some (.int .i64 0) := E3.cell 2
    have w103 : W2.cell? ⟨p, 3, none⟩ = some (.string ⟨#[]⟩) := E3.cell 3
    have w104 : W2.cell? ⟨p, 4, none⟩ = some (.int .i64 0) := E3.cell 4
    have w105 : W2.cell? ⟨p, 5, none⟩ = some (.int .i64 0) := E3.cell 5
    have w106 : W2.cell? ⟨p, 6, none⟩ = some (.string ⟨#[]⟩) := E3.cell 6
    have w107 : W2.cell? ⟨p, 7, none⟩ = some (.string ⟨#[]⟩) := E3.cell 7
    have w108 : W2.cell? ⟨p, 8, none⟩ = some (.int .i64 0) := E3.cell 8
    have w109 : W2.cell? ⟨p, 9, none⟩ = some (.int .i64 z.few.k) := E3.cell 9
    have w110 : W2.cell? ⟨p, 10, none⟩ = some (.string z.few.s) := E3.cell 10
    have w111 : W2.cell? ⟨p, 11, none⟩ = some (.int .i64 z.few.n) := E3.cell 11
    exact bodyPost_ret (v := .agg #[.int .i64 3, .int .i64 0, .int .i64 0, .string ⟨#[]⟩, .int .i64 0, .int .i64 0, .string ⟨#[]⟩, .string ⟨#[]⟩, .int .i64 0, .int .i64 z.few.k, .string z.few.s, .int .i64 z.few.n]) (by simp [results, Tryz.results22, go_sem, w100, w101, w102, w103, w104, w105, w106, w107, w108, w109, w110, w111]) rfl ⟨rfl, turn_box T3.out⟩

set_option maxRecDepth 100000 in
set_option maxHeartbeats 1000000 in
theorem ofew0 (o : OpO) (w : World) (h1 : o.k ≠ 1) (h2 : o.k ≠ 2) (h3 : o.k ≠ 3) :
    Calls Tryz.prog 22 #[.agg o.cells] w fun en w' => en = .returned (.agg o.few.cells) ∧ Below w.heap.size w w' := by
  obtain ⟨k, t, l, z⟩ := o
  have HF : Hid ((OpO.mk k t l z).few = ⟨k, zT, zL, zS⟩) := by show _ = _; unfold OpO.few; rw [if_neg h1, if_neg h2, if_neg h3]
  have k1 : (k == 1) = false := by simpa using h1
  have k2 : (k == 2) = false := by simpa using h2
  have k3 : (k == 3) = false := by simpa using h3
  clear h1 h2 h3
  rw [HF.out]
  unfold OpO.cells
  go_enter Tryz.func22, Tryz.ntmps22
  go_wp2_with fail
  refine bodyPost_ret (v := .agg #[.int .i64 k, .int .i64 0, .int .i64 0, .string ⟨#[]⟩, .int .i64 0, .int .i64 0, .string ⟨#[]⟩, .string ⟨#[]⟩, .int .i64 0, .int .i64 0, .string ⟨#[]⟩, .int .i64 0]) (by simp [results, Tryz.results22, go_sem]) rfl ⟨rfl, turn_box ?_⟩
  repeat (first | exact Turn.refl _ _ | refine Turn.drew ?_ | refine Turn.alloc ?_ _ | refine Turn.put ?_ (fun h => by omega) _ _)

theorem ofew_calls (o : OpO) (w : World) (ho : o.Fits) :
    Calls Tryz.prog 22 #[.agg o.cells] w fun en w' => en = .returned (.agg o.few.cells) ∧ Below w.heap.size w w' := by
  by_cases h1 : o.k = 1
  · exact ofew1 o w ho h1
  by_cases h2 : o.k = 2
  · exact ofew2 o w ho h2
  by_cases h3 : o.k = 3
  · exact ofew3 o w ho h3
  exact ofew0 o w h1 h2 h3

end Go.Proofs.YtcdedkgkingbdaaGreatDoor.object
