/- proc: what slot, done, toSlot, toHead and New give. -/
import Derived.Test.YtlbpephbigikcabPrcA
import Derived.Test.YtlbpephbigikcabCopy
namespace Go.Proofs.Ytlbpephbigikcab.prc
open Go Go.RowKit

theorem calls_name {P : Program} {f : FuncId} {args : Array Value} {w : World} {R : Ending → World → Prop} (h : ∀ W, w = W → Calls P f args W R) : Calls P f args w R := h w rfl

theorem below_of_drew {B : Nat} {w w' : World} (h : Below B w.drew w') : Below B w w' := ⟨h.os, h.tape, h.output, h.size, h.block⟩

theorem res_end {fn : Func} {t : Tmp} (h : fn.results = #[.cell t 36]) (tmps : Array Value) (w : World) (g : Nat) (d f : Bool) (s : Int) (hx : tmps.getD t undef = .pointer (some ⟨g, 0, none⟩))
    (hE : Has w g 36 #[.bool d, .bool f, .int .i64 s]) :
    (results fn tmps).run Try.prog w = .ok (.agg #[.bool d, .bool f, .int .i64 s]) w := by
  have c0 : w.cell? ⟨g, 0, none⟩ = some (.bool d) := hE.cell 0
  have c1 : w.cell? ⟨g, 1, none⟩ = some (.bool f) := hE.cell 1
  have c2 : w.cell? ⟨g, 2, none⟩ = some (.int .i64 s) := hE.cell 2
  rw [Array.getD_eq_getD_getElem?] at hx
  simp [results, h, hx, go_sem, c0, c1, c2]

theorem set_size (w : World) (a : Addr) (v : Value) : (w.setCell a v).heap.size = w.heap.size := by simp [World.setCell]

section
variable {w : World} {b : Nat} {x : Px}

theorem slot_calls (h : Pr w b x) (h1 : 0 ≤ x.procs) (h2 : x.procs ≤ 1000) (h3 : 0 ≤ x.seen) (h4 : x.seen ≤ 1000) : Calls Try.prog 45 #[.pointer (some ⟨b, 0, none⟩)] w (ret1 (.int .i64 (x.procs + x.seen)) w) := by
  have c0 := h.c0
  have c1 := h.c1
  have c5 := h.c5
  have h0 := Lib.hid (slotP_calls x.procs x.slots x.seen w.drew h1 h2 h3 h4)
  clear h h1 h2 h3 h4
  go_enter Try.func45, Try.ntmps45
  go_wp2_with fail
  go_region_law (refine step_call rfl 18 Try.f18 Try.func18 (by kernel_rfl) (by kernel_rfl) _ _ rfl #[.agg #[.int .i64 x.procs, .int .i64 x.slots], .int .i64 x.seen] (by first | (simp [Act.eval]; done) | (simp [Act.eval, Act.put]; done)) (by exact h0.out) ?_
                 rintro en w2 ⟨rfl, b2⟩
                 have B2 := Lib.hid b2
                 clear b2
                 refine ⟨_, rfl, ?_⟩)
  all_goals
    go_wp2_with fail
    go_ret
    exact ⟨rfl, below_of_drew B2.out⟩

/-- A process that is done: idle, its bytes away. -/
def Px.idle (x : Px) : Px := { x with next := 0, own := ⟨#[]⟩, offer := ⟨#[]⟩ }

def EndPost (b : Nat) (y : Px) (d f : Bool) (s : Int) (w : World) (en : Ending) (w' : World) : Prop :=
  en = .returned (.agg #[.bool d, .bool f, .int .i64 s]) ∧ Pr w' b y ∧ Turn (fun j => j = b) w w'

set_option maxHeartbeats 1000000 in
theorem done_calls (h : Pr w b x) (d f : Bool) (s : Int) : Calls Try.prog 50 #[.pointer (some ⟨b, 0, none⟩), .agg #[.bool d, .bool f, .int .i64 s]] w (EndPost b x.idle true f s w) := by
  have c4 := h.c4
  have c70 := h.c70
  have c71 := h.c71
  have f4 := h.free 4
  have f70 := h.free 70
  have f71 := h.free 71
  have hlt : b < w.heap.size := Has.lt h
  have H := Lib.hid h
  clear h
  go_enter Try.func50, Try.ntmps50
  go_wp2_with fail
  have hE : Has (((((w.setCell ⟨b, 4, none⟩ (.int .i64 0)).setCell ⟨b, 70, none⟩ (.string ⟨#[]⟩)).setCell ⟨b, 71, none⟩ (.string ⟨#[]⟩)).alloc (.cells #[.bool true, .bool f, .int .i64 s] 36)).alloc (.cells #[.bool true, .bool f, .int .i64 s] 36)) (w.heap.size + 1) 36 #[.bool true, .bool f, .int .i64 s] := by
    have h1 := Has.made1 (((w.setCell ⟨b, 4, none⟩ (.int .i64 0)).setCell ⟨b, 70, none⟩ (.string ⟨#[]⟩)).setCell ⟨b, 71, none⟩ (.string ⟨#[]⟩)) (.cells #[.bool true, .bool f, .int .i64 s] 36) 36 #[.bool true, .bool f, .int .i64 s]
    rw [set_size, set_size, set_size] at h1
    exact h1
  refine bodyPost_ret (res_end rfl _ _ (w.heap.size + 1) true f s rfl hE) rfl ⟨rfl, ?_, ?_⟩
  · exact ((((H.out.putNext 0).putOwn _).putOffer _).alloc _).alloc _
  · exact (((((Turn.refl (fun j => j = b) w).put (fun _ => rfl) 4 _).put (fun _ => rfl) 70 _).put (fun _ => rfl) 71 _).alloc _).alloc _

/-- The answer is stored at last. -/
theorem end_fin {y : Px} {w w2 : World} {g : Nat} {d f d0 f0 : Bool} {s s0 : Int} (hE : Has w2 g 36 #[.bool d0, .bool f0, .int .i64 s0]) (hg : w.heap.size ≤ g) (hb : b < w.heap.size) (hP : Pr w2 b y) (hT : Turn (fun j => j = b) w w2) :
    Has (((w2.setCell ⟨g, 0, none⟩ (.bool d)).setCell ⟨g, 1, none⟩ (.bool f)).setCell ⟨g, 2, none⟩ (.int .i64 s)) g 36 #[.bool d, .bool f, .int .i64 s] ∧
    Pr (((w2.setCell ⟨g, 0, none⟩ (.bool d)).setCell ⟨g, 1, none⟩ (.bool f)).setCell ⟨g, 2, none⟩ (.int .i64 s)) b y ∧
    Turn (fun j => j = b) w (((w2.setCell ⟨g, 0, none⟩ (.bool d)).setCell ⟨g, 1, none⟩ (.bool f)).setCell ⟨g, 2, none⟩ (.int .i64 s)) := by
  refine ⟨?_, ?_, ?_⟩
  · have := ((hE.put 0 (.bool d)).put 1 (.bool f)).put 2 (.int .i64 s)
    simpa using this
  · exact ((Has.far (Has.far (Has.far hP (p := ⟨g, 0, none⟩) (by show b ≠ g; omega) _) (p := ⟨g, 1, none⟩) (by show b ≠ g; omega) _) (p := ⟨g, 2, none⟩) (by show b ≠ g; omega) _) : Has _ _ _ _)
  · exact ((hT.put (fun h => absurd h (by omega)) 0 _).put (fun h => absurd h (by omega)) 1 _).put (fun h => absurd h (by omega)) 2 _

/-- What a walk wants of the answer's block. -/
def EndAt (w : World) (g : Nat) : Prop := w.cell? ⟨g, 0, none⟩ = some (.bool false) ∧ w.cell? ⟨g, 1, none⟩ = some (.bool false) ∧ w.cell? ⟨g, 2, none⟩ = some (.int .i64 0) ∧ w.frozen? ⟨g, 0, none⟩ = false ∧ w.frozen? ⟨g, 1, none⟩ = false ∧ w.frozen? ⟨g, 2, none⟩ = false
theorem endAt {w : World} {g : Nat} (h : Has w g 36 #[.bool false, .bool false, .int .i64 0]) : EndAt w g := ⟨h.cell 0, h.cell 1, h.cell 2, h.free 0, h.free 1, h.free 2⟩

/-- It goes on to the next slot, or the log is full. -/
def toSlotX (x : Px) : Px := if x.slots ≤ x.seen then x.idle else { x with next := 2 }
def ToSlotPost (b : Nat) (x : Px) (w : World) (en : Ending) (w' : World) : Prop :=
  EndPost b (toSlotX x) (decide (x.slots ≤ x.seen)) (decide (x.slots ≤ x.seen)) 0 w en w'

theorem turn_quiet {w w1 : World} {o : Obj} (b1 : Below (w.alloc o).heap.size (w.alloc o) w1) : Turn (fun j => j = b) w w1 :=
  ((Turn.refl (fun j => j = b) w).alloc _).trans (Turn.of_below b1 (F := fun j => (w.alloc o).heap.size ≤ j) (fun _ _ h => h)) (fun j h1 h2 => absurd h2 (by simp; omega))

set_option maxHeartbeats 1000000 in
theorem toSlot_calls (h : Pr w b x) : Calls Try.prog 43 #[.pointer (some ⟨b, 0, none⟩)] w (ToSlotPost b x w) := by
  have H := Lib.hid h
  have hlt : b < w.heap.size := Has.lt h
  clear h
  by_cases hs : x.slots ≤ x.seen
  · have e1 := Lib.hid (show toSlotX x = x.idle from if_pos hs)
    have e2 := Lib.hid (decide_eq_true hs)
    clear hs
    go_enter Try.func43, Try.ntmps43
    go_wp2_with (first
      | (go_at_call 62; refine (all_calls (H.out.alloc _)).mono ?_; rw [e2.out]; rintro en w1 ⟨rfl, b1⟩
         have P1 := Lib.hid ((H.out.alloc _).below b1)
         have E1 := Lib.hid ((Has.made w 36 _).below b1 (by simp))
         have T1 : Hid (Turn (fun j => j = b) w w1) := Lib.hid (turn_quiet b1)
         clear b1)
      | (go_at_call 50; refine (done_calls P1.out false true 0).mono ?_; rintro en w2 ⟨rfl, h2, t2⟩
         have P2 := Lib.hid h2
         have E2 := Lib.hid (E1.out.turn t2 (fun e => by omega))
         have T2 : Hid (Turn (fun j => j = b) w w2) := Lib.hid (T1.out.trans t2 (fun _ _ e => e))
         obtain ⟨k0, k1, k2, z0, z1, z2⟩ := endAt E2.out
         clear h2 t2)
      | fail)
    obtain ⟨hE, hP, hT⟩ := end_fin (d := true) (f := true) (s := 0) E2.out (Nat.le_refl _) hlt P2.out T2.out
    refine bodyPost_ret (res_end rfl _ _ w.heap.size true true 0 rfl hE) rfl ⟨by rw [e2.out], by rw [e1.out]; exact hP, hT⟩
  · have e1 := Lib.hid (show toSlotX x = { x with next := 2 } from if_neg hs)
    have e2 := Lib.hid (decide_eq_false hs)
    clear hs
    go_enter Try.func43, Try.ntmps43
    go_wp2_with (first
      | (go_at_call 62; refine (all_calls (H.out.alloc _)).mono ?_; rw [e2.out]; rintro en w1 ⟨rfl, b1⟩
         have P1 := Lib.hid ((H.out.alloc _).below b1)
         have E1 := Lib.hid ((Has.made w 36 _).below b1 (by simp))
         have T1 : Hid (Turn (fun j => j = b) w w1) := Lib.hid (turn_quiet b1)
         have c4 := P1.out.c4
         have f4 := P1.out.free 4
         obtain ⟨k0, k1, k2, z0, z1, z2⟩ := endAt E1.out
         clear b1)
      | fail)
    have P2 : Pr (w1.setCell ⟨b, 4, none⟩ (.int .i64 2)) b { x with next := 2 } := P1.out.putNext 2
    have E2 : Has (w1.setCell ⟨b, 4, none⟩ (.int .i64 2)) w.heap.size 36 #[.bool false, .bool false, .int .i64 0] := E1.out.far (by show w.heap.size ≠ b; omega) _
    obtain ⟨hE, hP, hT⟩ := end_fin (d := false) (f := false) (s := 0) E2 (Nat.le_refl _) hlt P2 (T1.out.put (fun _ => rfl) 4 _)
    refine bodyPost_ret (res_end rfl _ _ w.heap.size false false 0 rfl hE) rfl ⟨by rw [e2.out], by rw [e1.out]; exact hP, hT⟩

/-- Likewise, while it is to read the head. -/
def toHeadX (x : Px) : Px := { x with next := if x.slots ≤ x.seen then 6 else 5 }
def ToHeadPost (b : Nat) (x : Px) (w : World) (en : Ending) (w' : World) : Prop :=
  en = .returned (.tuple #[]) ∧ Pr w' b (toHeadX x) ∧ Turn (fun j => j = b) w w'

set_option maxHeartbeats 1000000 in
theorem toHead_calls (h : Pr w b x) : Calls Try.prog 52 #[.pointer (some ⟨b, 0, none⟩)] w (ToHeadPost b x w) := by
  have H := Lib.hid h
  have hlt : b < w.heap.size := Has.lt h
  have c4 := h.c4
  have f4 := h.free 4
  have P0 := Lib.hid (h.putNext 5)
  clear h
  by_cases hs : x.slots ≤ x.seen
  · have e1 := Lib.hid (show toHeadX x = { x with next := 6 } by unfold toHeadX; rw [if_pos hs])
    have e2 := Lib.hid (decide_eq_true hs)
    clear hs
    go_enter Try.func52, Try.ntmps52
    go_wp2_with (first
      | (go_at_call 62; refine (all_calls P0.out).mono ?_; rw [e2.out]; rintro en w1 ⟨rfl, b1⟩
         have P1 := Lib.hid (P0.out.below b1)
         have T1 : Hid (Turn (fun j => j = b) w w1) := Lib.hid (((Turn.refl (fun j => j = b) w).put (fun _ => rfl) 4 _).trans (Turn.of_below b1 (F := fun j => (w.setCell ⟨b, 4, none⟩ (.int .i64 5)).heap.size ≤ j) (fun _ _ h => h)) (fun j h1 h2 => absurd h2 (by rw [set_size]; omega)))
         have c4 := P1.out.c4
         have f4 := P1.out.free 4
         clear b1)
      | fail)
    go_end0
    exact ⟨rfl, by rw [e1.out]; exact P1.out.putNext 6, T1.out.put (fun _ => rfl) 4 _⟩
  · have e1 := Lib.hid (show toHeadX x = { x with next := 5 } by unfold toHeadX; rw [if_neg hs])
    have e2 := Lib.hid (decide_eq_false hs)
    clear hs
    go_enter Try.func52, Try.ntmps52
    go_wp2_with (first
      | (go_at_call 62; refine (all_calls P0.out).mono ?_; rw [e2.out]; rintro en w1 ⟨rfl, b1⟩
         have P1 := Lib.hid (P0.out.below b1)
         have T1 : Hid (Turn (fun j => j = b) w w1) := Lib.hid (((Turn.refl (fun j => j = b) w).put (fun _ => rfl) 4 _).trans (Turn.of_below b1 (F := fun j => (w.setCell ⟨b, 4, none⟩ (.int .i64 5)).heap.size ≤ j) (fun _ _ h => h)) (fun j h1 h2 => absurd h2 (by rw [set_size]; omega)))
         clear b1)
      | fail)
    go_end0
    exact ⟨rfl, by rw [e1.out]; exact P1.out, T1.out⟩

def newX (P L i : Int) : Px := ⟨P, L, i, 0, 0, 0, fun _ => 0, ⟨#[]⟩, ⟨#[]⟩⟩
def NewPost (P L i : Int) (w : World) (en : Ending) (w' : World) : Prop :=
  ∃ b, en = .returned (.pointer (some ⟨b, 0, none⟩)) ∧ Pr w' b (newX P L i) ∧ Below w.heap.size w w' ∧ w.heap.size ≤ b ∧ b < w'.heap.size

set_option maxRecDepth 100000 in
theorem zeroP : Try.zeroCells87 = cellsF (prF (newX 0 0 0)) 72 := by kernel_rfl

theorem newCells (P L i : Int) : ((Try.zeroCells87.setIfInBounds 0 (.int .i64 P)).setIfInBounds 1 (.int .i64 L)).setIfInBounds 2 (.int .i64 i) = cellsF (prF (newX P L i)) 72 := by
  rw [zeroP, cellsF_put, cellsF_put, cellsF_put]
  unfold cellsF
  congr 1

set_option maxHeartbeats 1000000 in
theorem new_calls (P L i : Int) (w : World) : Calls Try.prog 26 #[.agg #[.int .i64 P, .int .i64 L], .int .i64 i] w (NewPost P L i w) := by
  go_enter Try.func26, Try.ntmps26
  go_wp2_with fail
  go_ret
  refine ⟨_, rfl, ?_, ((Below.refl _ w).alloc (Nat.le_refl _) _).alloc (by simp) _, by omega, by simp⟩
  have h := Has.made1 w (.cells #[.int .i64 P, .int .i64 L] 25) 87 (((Try.zeroCells87.setIfInBounds 0 (.int .i64 P)).setIfInBounds 1 (.int .i64 L)).setIfInBounds 2 (.int .i64 i))
  unfold Pr
  rw [← newCells]
  exact h

end
end Go.Proofs.Ytlbpephbigikcab.prc
