/- Texts laid into one: PrcB, PrcM, PrcN, WireW, AppS, WireS, WireR. -/
import Derived.Test.YtbpcfkniflgmfaaY000
import Derived.Lib.AppendStr
import Derived.Lib.ItoaWalk
import Derived.Deep.MidRow
section
/- proc: what slot, done, toSlot, toHead and New give. -/
namespace Go.Proofs.Ytbpcfkniflgmfaa.prc
open Go Go.RowKit

theorem calls_name {P : Program} {f : FuncId} {args : Array Value} {w : World} {R : Ending → World → Prop} (h : ∀ W, w = W → Calls P f args W R) : Calls P f args w R := h w rfl

theorem below_of_drew {B : Nat} {w w' : World} (h : Below B w.drew w') : Below B w w' := ⟨h.os, h.tape, h.output, h.size, h.block⟩

theorem res_end {fn : Func} {t : Tmp} (h : fn.results = #[.cell t 42]) (tmps : Array Value) (w : World) (g : Nat) (d f : Bool) (s : Int) (hx : tmps.getD t undef = .pointer (some ⟨g, 0, none⟩))
    (hE : Has w g 42 #[.bool d, .bool f, .int .i64 s]) :
    (results fn tmps).run Try.prog w = .ok (.agg #[.bool d, .bool f, .int .i64 s]) w := by
  have c0 : w.cell? ⟨g, 0, none⟩ = some (.bool d) := hE.cell 0
  have c1 : w.cell? ⟨g, 1, none⟩ = some (.bool f) := hE.cell 1
  have c2 : w.cell? ⟨g, 2, none⟩ = some (.int .i64 s) := hE.cell 2
  rw [Array.getD_eq_getD_getElem?] at hx
  simp [results, h, hx, go_sem, c0, c1, c2]

theorem set_size (w : World) (a : Addr) (v : Value) : (w.setCell a v).heap.size = w.heap.size := by simp [World.setCell]

section
variable {w : World} {b : Nat} {x : Px}

set_option maxRecDepth 100000 in
theorem slot_calls (h : Pr w b x) (h1 : 0 ≤ x.procs) (h2 : x.procs ≤ 1000) (h3 : 0 ≤ x.seen) (h4 : x.seen ≤ 1000) : Calls Try.prog 52 #[.pointer (some ⟨b, 0, none⟩)] w (ret1 (.int .i64 (x.procs + x.seen)) w) := by
  have c0 := h.c0
  have c1 := h.c1
  have c5 := h.c5
  have h0 := Lib.hid (slotP_calls x.procs x.slots x.seen w.drew h1 h2 h3 h4)
  clear h h1 h2 h3 h4
  go_enter Try.func52, Try.ntmps52
  go_wp2_with fail
  go_region_law (refine step_call rfl 12 Try.f12 Try.func12 (by kernel_rfl) (by kernel_rfl) _ _ rfl #[.agg #[.int .i64 x.procs, .int .i64 x.slots], .int .i64 x.seen] (by first | (simp [Act.eval]; done) | (simp [Act.eval, Act.put]; done)) (by exact h0.out) ?_
                 rintro en w2 ⟨rfl, b2⟩
                 have B2 := Lib.hid b2
                 clear b2
                 refine ⟨_, rfl, ?_⟩)
  all_goals
    go_wp2_with fail
    go_ret
    exact ⟨rfl, below_of_drew B2.out⟩

/-- A process that is done: idle, its bytes away. -/
def Px.idle (x : Px) : Px := { x with next := 0, own := ⟨#[]⟩, offer := ⟨#[]⟩ }

def EndPost (b : Nat) (y : Px) (d f : Bool) (s : Int) (w : World) (en : Ending) (w' : World) : Prop :=
  en = .returned (.agg #[.bool d, .bool f, .int .i64 s]) ∧ Pr w' b y ∧ Turn (fun j => j = b) w w'

set_option maxRecDepth 100000 in
set_option maxHeartbeats 1000000 in
theorem done_calls (h : Pr w b x) (d f : Bool) (s : Int) : Calls Try.prog 57 #[.pointer (some ⟨b, 0, none⟩), .agg #[.bool d, .bool f, .int .i64 s]] w (EndPost b x.idle true f s w) := by
  have c4 := h.c4
  have c70 := h.c70
  have c71 := h.c71
  have f4 := h.free 4
  have f70 := h.free 70
  have f71 := h.free 71
  have hlt : b < w.heap.size := Has.lt h
  have H := Lib.hid h
  clear h
  go_enter Try.func57, Try.ntmps57
  go_wp2_with fail
  have hE : Has (((((w.setCell ⟨b, 4, none⟩ (.int .i64 0)).setCell ⟨b, 70, none⟩ (.string ⟨#[]⟩)).setCell ⟨b, 71, none⟩ (.string ⟨#[]⟩)).alloc (.cells #[.bool true, .bool f, .int .i64 s] 42)).alloc (.cells #[.bool true, .bool f, .int .i64 s] 42)) (w.heap.size + 1) 42 #[.bool true, .bool f, .int .i64 s] := by
    have h1 := Has.made1 (((w.setCell ⟨b, 4, none⟩ (.int .i64 0)).setCell ⟨b, 70, none⟩ (.string ⟨#[]⟩)).setCell ⟨b, 71, none⟩ (.string ⟨#[]⟩)) (.cells #[.bool true, .bool f, .int .i64 s] 42) 42 #[.bool true, .bool f, .int .i64 s]
    rw [set_size, set_size, set_size] at h1
    exact h1
  refine bodyPost_ret (res_end rfl _ _ (w.heap.size + 1) true f s rfl hE) rfl ⟨rfl, ?_, ?_⟩
  · exact ((((H.out.putNext 0).putOwn _).putOffer _).alloc _).alloc _
  · exact (((((Turn.refl (fun j => j = b) w).put (fun _ => rfl) 4 _).put (fun _ => rfl) 70 _).put (fun _ => rfl) 71 _).alloc _).alloc _

/-- The answer is stored at last. -/
theorem end_fin {y : Px} {w w2 : World} {g : Nat} {d f d0 f0 : Bool} {s s0 : Int} (hE : Has w2 g 42 #[.bool d0, .bool f0, .int .i64 s0]) (hg : w.heap.size ≤ g) (hb : b < w.heap.size) (hP : Pr w2 b y) (hT : Turn (fun j => j = b) w w2) :
    Has (((w2.setCell ⟨g, 0, none⟩ (.bool d)).setCell ⟨g, 1, none⟩ (.bool f)).setCell ⟨g, 2, none⟩ (.int .i64 s)) g 42 #[.bool d, .bool f, .int .i64 s] ∧
    Pr (((w2.setCell ⟨g, 0, none⟩ (.bool d)).setCell ⟨g, 1, none⟩ (.bool f)).setCell ⟨g, 2, none⟩ (.int .i64 s)) b y ∧
    Turn (fun j => j = b) w (((w2.setCell ⟨g, 0, none⟩ (.bool d)).setCell ⟨g, 1, none⟩ (.bool f)).setCell ⟨g, 2, none⟩ (.int .i64 s)) := by
  refine ⟨?_, ?_, ?_⟩
  · have := ((hE.put 0 (.bool d)).put 1 (.bool f)).put 2 (.int .i64 s)
    simpa using this
  · exact ((Has.far (Has.far (Has.far hP (p := ⟨g, 0, none⟩) (by show b ≠ g; omega) _) (p := ⟨g, 1, none⟩) (by show b ≠ g; omega) _) (p := ⟨g, 2, none⟩) (by show b ≠ g; omega) _) : Has _ _ _ _)
  · exact ((hT.put (fun h => absurd h (by omega)) 0 _).put (fun h => absurd h (by omega)) 1 _).put (fun h => absurd h (by omega)) 2 _

/-- What a walk wants of the answer's block. -/
def EndAt (w : World) (g : Nat) : Prop := w.cell? ⟨g, 0, none⟩ = some (.bool false) ∧ w.cell? ⟨g, 1, none⟩ = some (.bool false) ∧ w.cell? ⟨g, 2, none⟩ = some (.int .i64 0) ∧ w.frozen? ⟨g, 0, none⟩ = false ∧ w.frozen? ⟨g, 1, none⟩ = false ∧ w.frozen? ⟨g, 2, none⟩ = false
theorem endAt {w : World} {g : Nat} (h : Has w g 42 #[.bool false, .bool false, .int .i64 0]) : EndAt w g := ⟨h.cell 0, h.cell 1, h.cell 2, h.free 0, h.free 1, h.free 2⟩

/-- It goes on to the next slot, or the log is full. -/
def toSlotX (x : Px) : Px := if x.slots ≤ x.seen then x.idle else { x with next := 2 }
def ToSlotPost (b : Nat) (x : Px) (w : World) (en : Ending) (w' : World) : Prop :=
  EndPost b (toSlotX x) (decide (x.slots ≤ x.seen)) (decide (x.slots ≤ x.seen)) 0 w en w'

theorem turn_quiet {w w1 : World} {o : Obj} (b1 : Below (w.alloc o).heap.size (w.alloc o) w1) : Turn (fun j => j = b) w w1 :=
  ((Turn.refl (fun j => j = b) w).alloc _).trans (Turn.of_below b1 (F := fun j => (w.alloc o).heap.size ≤ j) (fun _ _ h => h)) (fun j h1 h2 => absurd h2 (by simp; omega))

set_option maxRecDepth 100000 in
set_option maxHeartbeats 1000000 in
theorem toSlot_calls (h : Pr w b x) : Calls Try.prog 50 #[.pointer (some ⟨b, 0, none⟩)] w (ToSlotPost b x w) := by
  have H := Lib.hid h
  have hlt : b < w.heap.size := Has.lt h
  clear h
  by_cases hs : x.slots ≤ x.seen
  · have e1 := Lib.hid (show toSlotX x = x.idle from if_pos hs)
    have e2 := Lib.hid (decide_eq_true hs)
    clear hs
    go_enter Try.func50, Try.ntmps50
    go_wp2_with (first
      | (go_at_call 82; refine (all_calls (H.out.alloc _)).mono ?_; rw [e2.out]; rintro en w1 ⟨rfl, b1⟩
         have P1 := Lib.hid ((H.out.alloc _).below b1)
         have E1 := Lib.hid ((Has.made w 42 _).below b1 (by simp))
         have T1 : Hid (Turn (fun j => j = b) w w1) := Lib.hid (turn_quiet b1)
         clear b1)
      | (go_at_call 57; refine (done_calls P1.out false true 0).mono ?_; rintro en w2 ⟨rfl, h2, t2⟩
         have P2 := Lib.hid h2
         have E2 := Lib.hid (E1.out.turn t2 (fun e => by omega))
         have T2 : Hid (Turn (fun j => j = b) w w2) := Lib.hid (T1.out.trans t2 (fun _ _ e => e))
         obtain ⟨k0, k1, k2, z0, z1, z2⟩ := endAt E2.out
         clear h2 t2)
      | fail)
    obtain ⟨hE, hP, hT⟩ := end_fin (d := true) (f := true) (s := 0) E2.out (Nat.le_refl _) hlt P2.out T2.out
    refine bodyPost_ret (res_end rfl _ _ w.heap.size true true 0 rfl hE) rfl ⟨by rw [e2.out], by rw [e1.out]; exact hP, hT⟩
  · have e1 := Lib.hid (show toSlotX x = { x with next := 2 } from if_neg hs)
    have e2 := Lib.hid (decide_eq_false hs)
    clear hs
    go_enter Try.func50, Try.ntmps50
    go_wp2_with (first
      | (go_at_call 82; refine (all_calls (H.out.alloc _)).mono ?_; rw [e2.out]; rintro en w1 ⟨rfl, b1⟩
         have P1 := Lib.hid ((H.out.alloc _).below b1)
         have E1 := Lib.hid ((Has.made w 42 _).below b1 (by simp))
         have T1 : Hid (Turn (fun j => j = b) w w1) := Lib.hid (turn_quiet b1)
         have c4 := P1.out.c4
         have f4 := P1.out.free 4
         obtain ⟨k0, k1, k2, z0, z1, z2⟩ := endAt E1.out
         clear b1)
      | fail)
    have P2 : Pr (w1.setCell ⟨b, 4, none⟩ (.int .i64 2)) b { x with next := 2 } := P1.out.putNext 2
    have E2 : Has (w1.setCell ⟨b, 4, none⟩ (.int .i64 2)) w.heap.size 42 #[.bool false, .bool false, .int .i64 0] := E1.out.far (by show w.heap.size ≠ b; omega) _
    obtain ⟨hE, hP, hT⟩ := end_fin (d := false) (f := false) (s := 0) E2 (Nat.le_refl _) hlt P2 (T1.out.put (fun _ => rfl) 4 _)
    refine bodyPost_ret (res_end rfl _ _ w.heap.size false false 0 rfl hE) rfl ⟨by rw [e2.out], by rw [e1.out]; exact hP, hT⟩

/-- Likewise, while it is to read the head. -/
def toHeadX (x : Px) : Px := { x with next := if x.slots ≤ x.seen then 6 else 5 }
def ToHeadPost (b : Nat) (x : Px) (w : World) (en : Ending) (w' : World) : Prop :=
  en = .returned (.tuple #[]) ∧ Pr w' b (toHeadX x) ∧ Turn (fun j => j = b) w w'

set_option maxRecDepth 100000 in
set_option maxHeartbeats 1000000 in
theorem toHead_calls (h : Pr w b x) : Calls Try.prog 59 #[.pointer (some ⟨b, 0, none⟩)] w (ToHeadPost b x w) := by
  have H := Lib.hid h
  have hlt : b < w.heap.size := Has.lt h
  have c4 := h.c4
  have f4 := h.free 4
  have P0 := Lib.hid (h.putNext 5)
  clear h
  by_cases hs : x.slots ≤ x.seen
  · have e1 := Lib.hid (show toHeadX x = { x with next := 6 } by unfold toHeadX; rw [if_pos hs])
    have e2 := Lib.hid (decide_eq_true hs)
    clear hs
    go_enter Try.func59, Try.ntmps59
    go_wp2_with (first
      | (go_at_call 82; refine (all_calls P0.out).mono ?_; rw [e2.out]; rintro en w1 ⟨rfl, b1⟩
         have P1 := Lib.hid (P0.out.below b1)
         have T1 : Hid (Turn (fun j => j = b) w w1) := Lib.hid (((Turn.refl (fun j => j = b) w).put (fun _ => rfl) 4 _).trans (Turn.of_below b1 (F := fun j => (w.setCell ⟨b, 4, none⟩ (.int .i64 5)).heap.size ≤ j) (fun _ _ h => h)) (fun j h1 h2 => absurd h2 (by rw [set_size]; omega)))
         have c4 := P1.out.c4
         have f4 := P1.out.free 4
         clear b1)
      | fail)
    go_end0
    exact ⟨rfl, by rw [e1.out]; exact P1.out.putNext 6, T1.out.put (fun _ => rfl) 4 _⟩
  · have e1 := Lib.hid (show toHeadX x = { x with next := 5 } by unfold toHeadX; rw [if_neg hs])
    have e2 := Lib.hid (decide_eq_false hs)
    clear hs
    go_enter Try.func59, Try.ntmps59
    go_wp2_with (first
      | (go_at_call 82; refine (all_calls P0.out).mono ?_; rw [e2.out]; rintro en w1 ⟨rfl, b1⟩
         have P1 := Lib.hid (P0.out.below b1)
         have T1 : Hid (Turn (fun j => j = b) w w1) := Lib.hid (((Turn.refl (fun j => j = b) w).put (fun _ => rfl) 4 _).trans (Turn.of_below b1 (F := fun j => (w.setCell ⟨b, 4, none⟩ (.int .i64 5)).heap.size ≤ j) (fun _ _ h => h)) (fun j h1 h2 => absurd h2 (by rw [set_size]; omega)))
         clear b1)
      | fail)
    go_end0
    exact ⟨rfl, by rw [e1.out]; exact P1.out, T1.out⟩

def newX (P L i : Int) : Px := ⟨P, L, i, 0, 0, 0, fun _ => 0, ⟨#[]⟩, ⟨#[]⟩⟩
def NewPost (P L i : Int) (w : World) (en : Ending) (w' : World) : Prop :=
  ∃ b, en = .returned (.pointer (some ⟨b, 0, none⟩)) ∧ Pr w' b (newX P L i) ∧ Below w.heap.size w w' ∧ w.heap.size ≤ b ∧ b < w'.heap.size

set_option maxRecDepth 100000 in
theorem zeroP : Try.zeroCells112 = cellsF (prF (newX 0 0 0)) 72 := by kernel_rfl

theorem newCells (P L i : Int) : ((Try.zeroCells112.setIfInBounds 0 (.int .i64 P)).setIfInBounds 1 (.int .i64 L)).setIfInBounds 2 (.int .i64 i) = cellsF (prF (newX P L i)) 72 := by
  rw [zeroP, cellsF_put, cellsF_put, cellsF_put]
  unfold cellsF
  congr 1

set_option maxRecDepth 100000 in
set_option maxHeartbeats 1000000 in
theorem new_calls (P L i : Int) (w : World) : Calls Try.prog 34 #[.agg #[.int .i64 P, .int .i64 L], .int .i64 i] w (NewPost P L i w) := by
  go_enter Try.func34, Try.ntmps34
  go_wp2_with fail
  go_ret
  refine ⟨_, rfl, ?_, ((Below.refl _ w).alloc (Nat.le_refl _) _).alloc (by simp) _, by omega, by simp⟩
  have h := Has.made1 w (.cells #[.int .i64 P, .int .i64 L] 25) 112 (((Try.zeroCells112.setIfInBounds 0 (.int .i64 P)).setIfInBounds 1 (.int .i64 L)).setIfInBounds 2 (.int .i64 i))
  unfold Pr
  rw [← newCells]
  exact h

end
end Go.Proofs.Ytbpcfkniflgmfaa.prc
end

section
/- proc: the mathematics of it. Processes, wishes, slots; a step of one; what stays true; how many steps are left; who is helped. Of no program. -/
namespace Go.Proofs.Ytbpcfkniflgmfaa.prc

/-- A record. -/
structure Rc where
  who : Nat
  seq : Nat
  body : ByteArray
  deriving DecidableEq

/-- A process: what it does next (0 nothing, 1 wish, 2 look, 3 help, 4 decide, 5 head), how many slots it has seen, its last record's number and bytes, its offer. -/
structure Pc where
  next : Nat
  at_ : Nat
  seq : Nat
  body : ByteArray
  offer : Rc

/-- Wishes, slots, processes. -/
structure Ab where
  W : Nat → Option Rc
  S : Nat → Option Rc
  X : Nat → Pc

structure En where
  done : Bool
  full : Bool
  slot : Nat

def up {α : Type} (F : Nat → α) (k : Nat) (v : α) (i : Nat) : α := if i = k then v else F i
theorem up_same {α : Type} (F : Nat → α) (k : Nat) (v : α) : up F k v k = v := if_pos rfl
theorem up_other {α : Type} (F : Nat → α) {k i : Nat} (v : α) (h : i ≠ k) : up F k v i = F i := if_neg h

def nope : En := ⟨false, false, 0⟩
def mine (a : Ab) (i : Nat) : Rc := ⟨i, (a.X i).seq, (a.X i).body⟩
def put (a : Ab) (i : Nat) (x : Pc) : Ab := { a with X := up a.X i x }

/-- The greatest number of a process's records in the first so many slots. -/
def kn (S : Nat → Option Rc) (who : Nat) : Nat → Nat
  | 0 => 0
  | k + 1 => match S k with
    | some r => if r.who = who then max (kn S who k) r.seq else kn S who k
    | none => kn S who k

def sees (L : Nat) (a : Ab) (i : Nat) (r : Rc) : Ab × En :=
  if r = mine a i then (put a i { a.X i with next := 0, at_ := (a.X i).at_ + 1 }, ⟨true, false, (a.X i).at_⟩)
  else if L ≤ (a.X i).at_ + 1 then (put a i { a.X i with next := 0, at_ := (a.X i).at_ + 1 }, ⟨true, true, 0⟩)
  else (put a i { a.X i with next := 2, at_ := (a.X i).at_ + 1 }, nope)

def wishes (L : Nat) (a : Ab) (i : Nat) : Ab × En :=
  if L ≤ (a.X i).at_ then (put { a with W := up a.W i (some (mine a i)) } i { a.X i with next := 0 }, ⟨true, true, 0⟩)
  else (put { a with W := up a.W i (some (mine a i)) } i { a.X i with next := 2 }, nope)

def choose (a : Ab) (i : Nat) : Option Rc → Rc
  | some r => if kn a.S r.who (a.X i).at_ < r.seq then r else mine a i
  | none => mine a i

theorem choose_or (a : Ab) (i : Nat) (o : Option Rc) : choose a i o = mine a i ∨ ∃ r, o = some r ∧ kn a.S r.who (a.X i).at_ < r.seq ∧ choose a i o = r := by
  cases o with
  | none => exact .inl rfl
  | some r =>
    by_cases h : kn a.S r.who (a.X i).at_ < r.seq
    · exact .inr ⟨r, rfl, h, if_pos h⟩
    · exact .inl (if_neg h)

def looks (L : Nat) (a : Ab) (i : Nat) : Ab × En :=
  match a.S (a.X i).at_ with
  | some r => sees L a i r
  | none => (put a i { a.X i with next := 3 }, nope)

def helps (P : Nat) (a : Ab) (i : Nat) : Ab × En :=
  (put a i { a.X i with next := 4, offer := choose a i (a.W ((a.X i).at_ % P)) }, nope)

def decides (L : Nat) (a : Ab) (i : Nat) : Ab × En :=
  match a.S (a.X i).at_ with
  | some r => sees L a i r
  | none => sees L { a with S := up a.S (a.X i).at_ (some (a.X i).offer) } i (a.X i).offer

def heads (L : Nat) (a : Ab) (i : Nat) : Ab × En :=
  if L ≤ (a.X i).at_ ∨ a.S (a.X i).at_ = none then (put a i { a.X i with next := 0 }, ⟨true, false, (a.X i).at_⟩)
  else (put a i { a.X i with at_ := (a.X i).at_ + 1 }, nope)

def step (P L : Nat) (a : Ab) (i : Nat) : Ab × En :=
  match (a.X i).next with
  | 1 => wishes L a i
  | 2 => looks L a i
  | 3 => helps P a i
  | 4 => decides L a i
  | 5 => heads L a i
  | _ => (a, nope)

def begins (a : Ab) (i : Nat) (s : ByteArray) : Ab := put a i { a.X i with next := 1, seq := (a.X i).seq + 1, body := s }
def begHead (a : Ab) (i : Nat) : Ab := put a i { a.X i with next := 5 }

theorem kn_congr {S S' : Nat → Option Rc} (who : Nat) : ∀ n, (∀ k, k < n → S' k = S k) → kn S' who n = kn S who n
  | 0, _ => rfl
  | n + 1, h => by
    have e := kn_congr who n (fun k hk => h k (by omega))
    unfold kn
    rw [h n (by omega), e]

theorem kn_le {S : Nat → Option Rc} {who m : Nat} : ∀ n, (∀ k r, k < n → S k = some r → r.who = who → r.seq ≤ m) → kn S who n ≤ m
  | 0, _ => Nat.zero_le _
  | n + 1, h => by
    have e := kn_le (who := who) (m := m) n (fun k r hk => h k r (Nat.lt_succ_of_lt hk))
    unfold kn
    split
    · rename_i r hr
      split
      · rename_i hw
        have := h n r (by omega) hr hw
        omega
      · exact e
    · exact e

theorem kn_some {S : Nat → Option Rc} {who m : Nat} : ∀ n, m < kn S who n → ∃ k r, k < n ∧ S k = some r ∧ r.who = who ∧ m < r.seq
  | 0, h => by cases h
  | n + 1, h => by
    unfold kn at h
    split at h
    · rename_i r hr
      split at h
      · rename_i hw
        rcases Nat.lt_or_ge m (kn S who n) with h1 | h1
        · obtain ⟨k, r', a1, a2⟩ := kn_some n h1
          exact ⟨k, r', by omega, a2⟩
        · exact ⟨n, r, by omega, hr, hw, by omega⟩
      · obtain ⟨k, r', a1, a2⟩ := kn_some n h
        exact ⟨k, r', by omega, a2⟩
    · obtain ⟨k, r', a1, a2⟩ := kn_some n h
      exact ⟨k, r', by omega, a2⟩

theorem kn_mono {S : Nat → Option Rc} (who : Nat) {n : Nat} : ∀ m, n ≤ m → kn S who n ≤ kn S who m
  | 0, h => by obtain rfl : n = 0 := by omega
               exact Nat.le_refl _
  | m + 1, h => by
    rcases Nat.lt_or_ge n (m + 1) with h1 | h1
    · have e := kn_mono (S := S) (n := n) who m (by omega)
      refine Nat.le_trans e ?_
      show _ ≤ (match S m with | some r => if r.who = who then max (kn S who m) r.seq else kn S who m | none => kn S who m)
      split
      · split
        · exact Nat.le_max_left _ _
        · exact Nat.le_refl _
      · exact Nat.le_refl _
    · obtain rfl : n = m + 1 := by omega
      exact Nat.le_refl _

/-- A record that is there: of a process, not behind its last one, and that one if of its number. -/
def Ok (P : Nat) (a : Ab) (r : Rc) : Prop := r.who < P ∧ 1 ≤ r.seq ∧ r.seq ≤ (a.X r.who).seq ∧ (r.seq = (a.X r.who).seq → r = mine a r.who)

/-- What is always so; D slots are decided. -/
structure Inv (P L D : Nat) (a : Ab) : Prop where
  d : D ≤ L
  pre : ∀ k, a.S k ≠ none ↔ k < D
  seen : ∀ i, (a.X i).at_ ≤ D
  slot : ∀ k r, a.S k = some r → Ok P a r ∧ kn a.S r.who k < r.seq
  wish : ∀ i r, a.W i = some r → Ok P a r ∧ r.who = i
  own : ∀ i, 1 ≤ (a.X i).next → (a.X i).next ≤ 4 → kn a.S i (a.X i).at_ < (a.X i).seq
  low : ∀ i, 2 ≤ (a.X i).next → (a.X i).next ≤ 4 → (a.X i).at_ < L
  offer : ∀ i, (a.X i).next = 4 → Ok P a (a.X i).offer ∧ kn a.S (a.X i).offer.who (a.X i).at_ < (a.X i).offer.seq

theorem Ok.keep {P : Nat} {a b : Ab} {r : Rc} (h : Ok P a r) (e : ∀ i, (b.X i).seq = (a.X i).seq ∧ (b.X i).body = (a.X i).body) : Ok P b r := by
  obtain ⟨h1, h2, h3, h4⟩ := h
  refine ⟨h1, h2, by rw [(e _).1]; exact h3, fun h => ?_⟩
  have := h4 (by rw [← (e _).1]; exact h)
  rw [this]
  unfold mine
  rw [(e _).1, (e _).2]

theorem put_X (a : Ab) (i : Nat) (x : Pc) (j : Nat) : (put a i x).X j = if j = i then x else a.X j := rfl

theorem put_same (a : Ab) (i : Nat) (x : Pc) (e1 : x.seq = (a.X i).seq) (e2 : x.body = (a.X i).body) : ∀ j, ((put a i x).X j).seq = (a.X j).seq ∧ ((put a i x).X j).body = (a.X j).body := fun j => by
  rw [put_X]
  split
  · rename_i h; subst h; exact ⟨e1, e2⟩
  · exact ⟨rfl, rfl⟩

section
variable {P L D : Nat} {a : Ab} {i : Nat}

/-- A process goes on, and the rest stays. -/
theorem Inv.go (h : Inv P L D a) (x : Pc) (e1 : x.seq = (a.X i).seq) (e2 : x.body = (a.X i).body) (h1 : x.at_ ≤ D)
    (h2 : 1 ≤ x.next → x.next ≤ 4 → kn a.S i x.at_ < x.seq) (h3 : 2 ≤ x.next → x.next ≤ 4 → x.at_ < L) (h4 : x.next = 4 → Ok P a x.offer ∧ kn a.S x.offer.who x.at_ < x.offer.seq) : Inv P L D (put a i x) := by
  have k := put_same a i x e1 e2
  refine ⟨h.d, h.pre, fun j => ?_, fun q r hr => ⟨((h.slot q r hr).1).keep k, (h.slot q r hr).2⟩, fun q r hr => ⟨((h.wish q r hr).1).keep k, (h.wish q r hr).2⟩, fun j => ?_, fun j => ?_, fun j => ?_⟩
  all_goals
    rw [put_X]
    split
  · exact h1
  · exact h.seen j
  · rename_i e; subst e; exact h2
  · exact h.own j
  · exact h3
  · exact h.low j
  · exact fun e => ⟨((h4 e).1).keep k, (h4 e).2⟩
  · exact fun e => ⟨((h.offer j e).1).keep k, (h.offer j e).2⟩

/-- A wish is written. -/
theorem Inv.wished (h : Inv P L D a) (hi : i < P) (h1 : 1 ≤ (a.X i).seq) : Inv P L D { a with W := up a.W i (some (mine a i)) } := by
  refine ⟨h.d, h.pre, h.seen, h.slot, fun q r hr => ?_, h.own, h.low, h.offer⟩
  show Ok P a r ∧ _
  have hr' : up a.W i (some (mine a i)) q = some r := hr
  unfold up at hr'
  split at hr'
  · rename_i e
    subst e
    obtain rfl := Option.some.inj hr'
    exact ⟨⟨hi, h1, Nat.le_refl _, fun _ => rfl⟩, rfl⟩
  · exact h.wish q r hr'

theorem Inv.known (h : Inv P L D a) (n : Nat) : kn a.S i n ≤ (a.X i).seq :=
  kn_le n fun k r _ hr hw => by have := ((h.slot k r hr).1).2.2.1; rw [hw] at this; exact this

theorem Inv.begins (h : Inv P L D a) (s : ByteArray) : Inv P L D (begins a i s) := by
  have kk : ∀ r, Ok P a r → Ok P (prc.begins a i s) r := fun r ⟨r1, r2, r3, r4⟩ => by
    refine ⟨r1, r2, ?_, ?_⟩
    · show r.seq ≤ ((put a i _).X r.who).seq
      rw [put_X]
      split
      · rename_i e; rw [e] at r3; show _ ≤ (a.X i).seq + 1; omega
      · exact r3
    · show r.seq = ((put a i _).X r.who).seq → r = mine (put a i _) r.who
      unfold mine
      rw [put_X]
      split
      · rename_i e
        intro h2
        rw [e] at r3
        have h3 : r.seq = (a.X i).seq + 1 := h2
        omega
      · exact r4
  refine ⟨h.d, h.pre, fun j => ?_, fun q r hr => ⟨kk r (h.slot q r hr).1, (h.slot q r hr).2⟩, fun q r hr => ⟨kk r (h.wish q r hr).1, (h.wish q r hr).2⟩, fun j => ?_, fun j => ?_, fun j => ?_⟩
  all_goals
    show _
    unfold prc.begins
    rw [put_X]
    split
  · rename_i e; subst e; exact h.seen j
  · exact h.seen j
  · rename_i e; subst e
    intro _ _
    exact Nat.lt_succ_of_le (h.known _)
  · exact h.own j
  · intro e; exact absurd e (by show ¬ 2 ≤ 1; omega)
  · exact h.low j
  · intro e; exact absurd e (by show ¬ 1 = 4; omega)
  · exact fun e => ⟨kk _ (h.offer j e).1, (h.offer j e).2⟩

theorem Inv.begHead (h : Inv P L D a) : Inv P L D (begHead a i) :=
  h.go _ rfl rfl (h.seen i) (fun _ e => absurd e (by show ¬ 5 ≤ 4; omega)) (fun _ e => absurd e (by show ¬ 5 ≤ 4; omega)) (fun e => absurd e (by show ¬ 5 = 4; omega))

theorem Inv.sees (h : Inv P L D a) {r : Rc} (hr : a.S (a.X i).at_ = some r) (h1 : 1 ≤ (a.X i).next) (h2 : (a.X i).next ≤ 4) : Inv P L D (sees L a i r).1 := by
  have hlt : (a.X i).at_ < D := (h.pre _).1 (by rw [hr]; intro e; cases e)
  have ho := h.own i h1 h2
  have hk := h.slot _ r hr
  unfold prc.sees
  split
  · exact h.go _ rfl rfl hlt (fun e => absurd e (by show ¬ 1 ≤ 0; omega)) (fun e => absurd e (by show ¬ 2 ≤ 0; omega)) (fun e => absurd e (by show ¬ 0 = 4; omega))
  · rename_i hne
    split
    · exact h.go _ rfl rfl hlt (fun e => absurd e (by show ¬ 1 ≤ 0; omega)) (fun e => absurd e (by show ¬ 2 ≤ 0; omega)) (fun e => absurd e (by show ¬ 0 = 4; omega))
    · rename_i hL
      refine h.go _ rfl rfl hlt (fun _ _ => ?_) (fun _ _ => by show (a.X i).at_ + 1 < L; omega) (fun e => absurd e (by show ¬ 2 = 4; omega))
      show kn a.S i ((a.X i).at_ + 1) < (a.X i).seq
      unfold kn
      rw [hr]
      show (if r.who = i then max (kn a.S i (a.X i).at_) r.seq else kn a.S i (a.X i).at_) < _
      split
      · rename_i hw
        have h3 := hk.1.2.2.1
        have h4 := hk.1.2.2.2
        rw [hw] at h3 h4
        have : r.seq ≠ (a.X i).seq := fun e => hne (h4 e)
        omega
      · exact ho

theorem Inv.swapped (h : Inv P L D a) (hs : a.S (a.X i).at_ = none) (h4 : (a.X i).next = 4) : (a.X i).at_ = D ∧ Inv P L (D + 1) { a with S := up a.S (a.X i).at_ (some (a.X i).offer) } := by
  have hD : (a.X i).at_ = D := by
    have h1 := h.seen i
    rcases Nat.lt_or_ge (a.X i).at_ D with h2 | h2
    · exact absurd hs ((h.pre _).2 h2)
    · omega
  have hL := h.low i (by omega) (by omega)
  have ho := h.offer i h4
  have kk : ∀ (who n : Nat), n ≤ D → kn (up a.S (a.X i).at_ (some (a.X i).offer)) who n = kn a.S who n := fun who n hn => kn_congr who n fun k hk => up_other _ _ (by omega)
  refine ⟨hD, by omega, fun k => ?_, fun j => Nat.le_succ_of_le (h.seen j), fun k r hr => ?_, h.wish, fun j e1 e2 => ?_, h.low, fun j e => ⟨(h.offer j e).1, ?_⟩⟩
  · show up a.S (a.X i).at_ (some (a.X i).offer) k ≠ none ↔ _
    unfold up
    split
    · rename_i e
      exact ⟨fun _ => by omega, fun _ e => by cases e⟩
    · rename_i e
      rw [h.pre k]
      omega
  · have hr' : up a.S (a.X i).at_ (some (a.X i).offer) k = some r := hr
    have hkD : k ≤ D := by
      unfold up at hr'
      split at hr'
      · omega
      · exact Nat.le_of_lt ((h.pre k).1 (by rw [hr']; intro e; cases e))
    show Ok P a r ∧ kn (up a.S (a.X i).at_ (some (a.X i).offer)) r.who k < r.seq
    rw [kk _ _ hkD]
    unfold up at hr'
    split at hr'
    · rename_i e
      obtain rfl := Option.some.inj hr'
      rw [e]
      exact ho
    · exact h.slot k r hr'
  · show kn (up a.S (a.X i).at_ (some (a.X i).offer)) j (a.X j).at_ < _
    rw [kk _ _ (h.seen j)]
    exact h.own j e1 e2
  · show kn (up a.S (a.X i).at_ (some (a.X i).offer)) (a.X j).offer.who (a.X j).at_ < _
    rw [kk _ _ (h.seen j)]
    exact (h.offer j e).2

theorem Inv.step (h : Inv P L D a) (hi : i < P) : ∃ D', D ≤ D' ∧ Inv P L D' (step P L a i).1 := by
  unfold prc.step
  split
  · rename_i e
    have hw := h.wished hi (by have := h.own i (by omega) (by omega); omega)
    unfold prc.wishes
    refine ⟨D, Nat.le_refl _, ?_⟩
    split
    · exact hw.go _ rfl rfl (h.seen i) (fun e => absurd e (by show ¬ 1 ≤ 0; omega)) (fun e => absurd e (by show ¬ 2 ≤ 0; omega)) (fun e => absurd e (by show ¬ 0 = 4; omega))
    · rename_i hL
      exact hw.go _ rfl rfl (h.seen i) (fun _ _ => h.own i (by omega) (by omega)) (fun _ _ => by show (a.X i).at_ < L; omega) (fun e => absurd e (by show ¬ 2 = 4; omega))
  · rename_i e
    unfold prc.looks
    refine ⟨D, Nat.le_refl _, ?_⟩
    split
    · rename_i r hr
      exact h.sees hr (by omega) (by omega)
    · exact h.go _ rfl rfl (h.seen i) (fun _ _ => h.own i (by omega) (by omega)) (fun _ _ => h.low i (by omega) (by omega)) (fun e => absurd e (by show ¬ 3 = 4; omega))
  · rename_i e
    refine ⟨D, Nat.le_refl _, ?_⟩
    refine h.go _ rfl rfl (h.seen i) (fun _ _ => h.own i (by omega) (by omega)) (fun _ _ => h.low i (by omega) (by omega)) (fun _ => ?_)
    have ho := h.own i (by omega) (by omega)
    have hm : Ok P a (mine a i) ∧ kn a.S (mine a i).who (a.X i).at_ < (mine a i).seq := ⟨⟨hi, by show 1 ≤ (a.X i).seq; omega, Nat.le_refl _, fun _ => rfl⟩, ho⟩
    show Ok P a (prc.choose a i (a.W ((a.X i).at_ % P))) ∧ kn a.S (prc.choose a i (a.W ((a.X i).at_ % P))).who (a.X i).at_ < (prc.choose a i (a.W ((a.X i).at_ % P))).seq
    rcases choose_or a i (a.W ((a.X i).at_ % P)) with e | ⟨r, hw, hk, e⟩
    · rw [e]; exact hm
    · rw [e]; exact ⟨(h.wish _ r hw).1, hk⟩
  · rename_i e
    unfold prc.decides
    split
    · rename_i r hr
      exact ⟨D, Nat.le_refl _, h.sees hr (by omega) (by omega)⟩
    · rename_i hs
      obtain ⟨hD, h'⟩ := h.swapped hs e
      refine ⟨D + 1, by omega, h'.sees (up_same _ _ _) (by show 1 ≤ (a.X i).next; omega) (by show (a.X i).next ≤ 4; omega)⟩
  · rename_i e
    unfold prc.heads
    refine ⟨D, Nat.le_refl _, ?_⟩
    split
    · exact h.go _ rfl rfl (h.seen i) (fun e => absurd e (by show ¬ 1 ≤ 0; omega)) (fun e => absurd e (by show ¬ 2 ≤ 0; omega)) (fun e => absurd e (by show ¬ 0 = 4; omega))
    · rename_i hs
      refine h.go _ rfl rfl ?_ (fun _ e4 => absurd e4 (by show ¬ (a.X i).next ≤ 4; omega)) (fun _ e4 => absurd e4 (by show ¬ (a.X i).next ≤ 4; omega)) (fun e4 => absurd e4 (by show ¬ (a.X i).next = 4; omega))
      exact (h.pre _).1 (fun e => hs (.inr e))
  · exact ⟨D, Nat.le_refl _, h⟩
end

end Go.Proofs.Ytbpcfkniflgmfaa.prc
end

section
/- proc: how many steps are left; who is helped. Of no program. -/
namespace Go.Proofs.Ytbpcfkniflgmfaa.prc

/-- How many steps a process has left, at most. -/
def rem (L : Nat) (x : Pc) : Nat :=
  match x.next with
  | 1 => 1 + 3 * (L - x.at_)
  | 2 => 3 * (L - x.at_)
  | 3 => 3 * (L - x.at_) - 1
  | 4 => 3 * (L - x.at_) - 2
  | 5 => L - x.at_ + 1
  | _ => 0

section
variable {P L D : Nat} {a : Ab} {i : Nat}

theorem rem0 (x : Pc) (h : x.next = 0) : rem L x = 0 := by unfold rem; rw [h]; rfl
theorem rem2 (x : Pc) (h : x.next = 2) : rem L x = 3 * (L - x.at_) := by unfold rem; rw [h]; rfl
theorem rem3 (x : Pc) (h : x.next = 3) : rem L x = 3 * (L - x.at_) - 1 := by unfold rem; rw [h]; rfl
theorem rem4 (x : Pc) (h : x.next = 4) : rem L x = 3 * (L - x.at_) - 2 := by unfold rem; rw [h]; rfl
theorem rem5 (x : Pc) (h : x.next = 5) : rem L x = L - x.at_ + 1 := by unfold rem; rw [h]; rfl
theorem rem1 (x : Pc) (h : x.next = 1) : rem L x = 1 + 3 * (L - x.at_) := by unfold rem; rw [h]; rfl

theorem sees_rem (L : Nat) (a : Ab) (i : Nat) (r : Rc) : rem L ((sees L a i r).1.X i) ≤ 3 * (L - ((a.X i).at_ + 1)) ∧ (sees L a i r).2.done = decide (((sees L a i r).1.X i).next = 0) ∧ ((sees L a i r).1.X i).next ≤ 5 := by
  unfold sees
  split
  · show rem L ((put a i _).X i) ≤ _ ∧ true = decide (((put a i _).X i).next = 0) ∧ ((put a i _).X i).next ≤ 5
    rw [put_X, if_pos rfl, rem0 _ rfl]
    exact ⟨Nat.zero_le _, rfl, Nat.zero_le 5⟩
  · split
    · show rem L ((put a i _).X i) ≤ _ ∧ true = decide (((put a i _).X i).next = 0) ∧ ((put a i _).X i).next ≤ 5
      rw [put_X, if_pos rfl, rem0 _ rfl]
      exact ⟨Nat.zero_le _, rfl, Nat.zero_le 5⟩
    · show rem L ((put a i _).X i) ≤ _ ∧ false = decide (((put a i _).X i).next = 0) ∧ ((put a i _).X i).next ≤ 5
      rw [put_X, if_pos rfl, rem2 _ rfl]
      exact ⟨Nat.le_refl _, rfl, by show 2 ≤ 5; omega⟩

/-- Each step of what isn't idle leaves fewer; it is done just when it is idle then. -/
theorem step_rem (h : Inv P L D a) (h0 : (a.X i).next ≠ 0) (h5 : (a.X i).next ≤ 5) :
    rem L ((step P L a i).1.X i) + 1 ≤ rem L (a.X i) ∧ (step P L a i).2.done = decide (((step P L a i).1.X i).next = 0) ∧ ((step P L a i).1.X i).next ≤ 5 := by
  rcases (show (a.X i).next = 1 ∨ (a.X i).next = 2 ∨ (a.X i).next = 3 ∨ (a.X i).next = 4 ∨ (a.X i).next = 5 by omega) with e | e | e | e | e
  all_goals
    unfold step
    rw [e]
  · show rem L ((wishes L a i).1.X i) + 1 ≤ _ ∧ (wishes L a i).2.done = decide (((wishes L a i).1.X i).next = 0) ∧ ((wishes L a i).1.X i).next ≤ 5
    rw [rem1 _ e]
    unfold wishes
    split
    · show rem L ((put _ i _).X i) + 1 ≤ _ ∧ true = decide (((put _ i _).X i).next = 0) ∧ ((put _ i _).X i).next ≤ 5
      rw [put_X, if_pos rfl, rem0 _ rfl]
      exact ⟨by omega, rfl, Nat.zero_le 5⟩
    · show rem L ((put _ i _).X i) + 1 ≤ _ ∧ false = decide (((put _ i _).X i).next = 0) ∧ ((put _ i _).X i).next ≤ 5
      rw [put_X, if_pos rfl, rem2 _ rfl]
      exact ⟨by show 3 * (L - (a.X i).at_) + 1 ≤ _; omega, rfl, by show 2 ≤ 5; omega⟩
  · show rem L ((looks L a i).1.X i) + 1 ≤ _ ∧ (looks L a i).2.done = decide (((looks L a i).1.X i).next = 0) ∧ ((looks L a i).1.X i).next ≤ 5
    have hl := h.low i (by omega) (by omega)
    rw [rem2 _ e]
    unfold looks
    split
    · rename_i r hr
      have := sees_rem L a i r
      exact ⟨by omega, this.2⟩
    · show rem L ((put _ i _).X i) + 1 ≤ _ ∧ false = decide (((put _ i _).X i).next = 0) ∧ ((put _ i _).X i).next ≤ 5
      rw [put_X, if_pos rfl, rem3 _ rfl]
      exact ⟨by show 3 * (L - (a.X i).at_) - 1 + 1 ≤ _; omega, rfl, by show 3 ≤ 5; omega⟩
  · have hl := h.low i (by omega) (by omega)
    rw [rem3 _ e]
    show rem L ((put _ i _).X i) + 1 ≤ _ ∧ false = decide (((put _ i _).X i).next = 0) ∧ ((put _ i _).X i).next ≤ 5
    rw [put_X, if_pos rfl, rem4 _ rfl]
    exact ⟨by show 3 * (L - (a.X i).at_) - 2 + 1 ≤ _; omega, rfl, by show 4 ≤ 5; omega⟩
  · show rem L ((decides L a i).1.X i) + 1 ≤ _ ∧ (decides L a i).2.done = decide (((decides L a i).1.X i).next = 0) ∧ ((decides L a i).1.X i).next ≤ 5
    have hl := h.low i (by omega) (by omega)
    rw [rem4 _ e]
    unfold decides
    split
    · rename_i r hr
      have := sees_rem L a i r
      exact ⟨by omega, this.2⟩
    · have := sees_rem L { a with S := up a.S (a.X i).at_ (some (a.X i).offer) } i (a.X i).offer
      refine ⟨?_, this.2⟩
      have h1 : _ ≤ 3 * (L - ((a.X i).at_ + 1)) := this.1
      omega
  · show rem L ((heads L a i).1.X i) + 1 ≤ _ ∧ (heads L a i).2.done = decide (((heads L a i).1.X i).next = 0) ∧ ((heads L a i).1.X i).next ≤ 5
    rw [rem5 _ e]
    unfold heads
    split
    · show rem L ((put _ i _).X i) + 1 ≤ _ ∧ true = decide (((put _ i _).X i).next = 0) ∧ ((put _ i _).X i).next ≤ 5
      rw [put_X, if_pos rfl, rem0 _ rfl]
      exact ⟨by omega, rfl, Nat.zero_le 5⟩
    · rename_i hs
      have e5 : rem L ({ a.X i with at_ := (a.X i).at_ + 1 } : Pc) = L - ((a.X i).at_ + 1) + 1 := rem5 _ e
      show rem L ((put _ i _).X i) + 1 ≤ _ ∧ false = decide (((put _ i _).X i).next = 0) ∧ ((put _ i _).X i).next ≤ 5
      rw [put_X, if_pos rfl]
      exact ⟨by rw [e5]; omega, by show false = decide ((a.X i).next = 0); rw [e]; rfl, by show (a.X i).next ≤ 5; omega⟩

theorem step_idle (h0 : (a.X i).next = 0) : step P L a i = (a, nope) := by
  unfold step
  rw [h0]
  rfl

theorem sees_other (r : Rc) {j : Nat} (hj : j ≠ i) : (sees L a i r).1.X j = a.X j := by
  unfold sees
  split
  · show (put a i _).X j = _
    rw [put_X, if_neg hj]
  · split <;> (show (put a i _).X j = _; rw [put_X, if_neg hj])

/-- Nobody else's step is one's own. -/
theorem step_other {j : Nat} (hj : j ≠ i) : (step P L a i).1.X j = a.X j := by
  unfold step
  split
  · unfold wishes
    split <;> (show (put _ i _).X j = _; rw [put_X, if_neg hj])
  · unfold looks
    split
    · exact sees_other _ hj
    · show (put a i _).X j = _; rw [put_X, if_neg hj]
  · show (put a i _).X j = _; rw [put_X, if_neg hj]
  · unfold decides
    split
    · exact sees_other _ hj
    · exact sees_other (a := { a with S := up a.S (a.X i).at_ (some (a.X i).offer) }) _ hj
  · unfold heads
    split <;> (show (put _ i _).X j = _; rw [put_X, if_neg hj])
  · rfl

theorem sees_WS (r : Rc) : (sees L a i r).1.W = a.W ∧ (sees L a i r).1.S = a.S := by
  unfold sees
  split
  · exact ⟨rfl, rfl⟩
  · split <;> exact ⟨rfl, rfl⟩

theorem sees_seq (r : Rc) (j : Nat) : ((sees L a i r).1.X j).seq = (a.X j).seq ∧ ((sees L a i r).1.X j).body = (a.X j).body := by
  unfold sees
  split
  · (refine put_same a i _ ?_ ?_ j <;> rfl)
  · split <;> (refine put_same a i _ ?_ ?_ j <;> rfl)

/-- A step leaves each process's number and bytes. -/
theorem step_seq (j : Nat) : ((step P L a i).1.X j).seq = (a.X j).seq ∧ ((step P L a i).1.X j).body = (a.X j).body := by
  unfold step
  split
  · unfold wishes
    split
    · (refine put_same { a with W := up a.W i (some (mine a i)) } i _ ?_ ?_ j <;> rfl)
    · (refine put_same { a with W := up a.W i (some (mine a i)) } i _ ?_ ?_ j <;> rfl)
  · unfold looks
    split
    · exact sees_seq _ j
    · (refine put_same a i _ ?_ ?_ j <;> rfl)
  · exact put_same a i { a.X i with next := 4, offer := choose a i (a.W ((a.X i).at_ % P)) } rfl rfl j
  · unfold decides
    split
    · exact sees_seq _ j
    · exact sees_seq (a := { a with S := up a.S (a.X i).at_ (some (a.X i).offer) }) _ j
  · unfold heads
    split <;> (refine put_same a i _ ?_ ?_ j <;> rfl)
  · exact ⟨rfl, rfl⟩

/-- Process i's wish stands; slot j is the one that is to help it. -/
structure Helped (P L k j i : Nat) (a : Ab) : Prop where
  wish : a.W i = some (mine a i)
  was : k ≤ j
  turn : j % P = i
  old : kn a.S i k < (a.X i).seq
  offer : ∀ q, (a.X q).next = 4 → (a.X q).at_ = j → (∃ m, k ≤ m ∧ m < j ∧ a.S m = some (mine a i)) ∨ (a.X q).offer = mine a i
  slot : a.S j ≠ none → ∃ m, k ≤ m ∧ m ≤ j ∧ a.S m = some (mine a i)
  deep : ∀ m, m < k → a.S m ≠ none

/-- What is known of it up to slot j: then it is decided from k on. -/
theorem Helped.there {k j : Nat} (h : Inv P L D a) (hh : Helped P L k j i a) {n : Nat} (hn : ¬ kn a.S i n < (a.X i).seq) : ∃ m, k ≤ m ∧ m < n ∧ a.S m = some (mine a i) := by
  have hs : 1 ≤ (a.X i).seq := by have := hh.old; omega
  obtain ⟨m, r, h1, h2, h3, h4⟩ := kn_some (S := a.S) (who := i) (m := (a.X i).seq - 1) n (by omega)
  have hr := h.slot m r h2
  have e1 := hr.1.2.2.1
  have e2 := hr.1.2.2.2
  rw [h3] at e1 e2
  have e3 := e2 (by omega)
  refine ⟨m, ?_, h1, by rw [h2, e3]⟩
  rcases Nat.lt_or_ge m k with h5 | h5
  · exfalso
    have h6 : kn a.S i (m + 1) ≤ kn a.S i k := kn_mono i k h5
    have h7 : (a.X i).seq ≤ kn a.S i (m + 1) := by
      show _ ≤ (match a.S m with | some r => if r.who = i then max (kn a.S i m) r.seq else kn a.S i m | none => kn a.S i m)
      rw [h2]
      show _ ≤ (if r.who = i then max (kn a.S i m) r.seq else kn a.S i m)
      rw [if_pos h3]
      have := Nat.le_max_right (kn a.S i m) r.seq
      omega
    have := hh.old
    omega
  · exact h5

theorem mine_of {b : Ab} (e : (b.X i).seq = (a.X i).seq ∧ (b.X i).body = (a.X i).body) : mine b i = mine a i := by
  unfold mine; rw [e.1, e.2]

/-- Another process q goes on. -/
theorem Helped.go {k j q : Nat} (hh : Helped P L k j i a) (hq : q ≠ i) (x : Pc)
    (ho : x.next = 4 → x.at_ = j → (∃ m, k ≤ m ∧ m < j ∧ a.S m = some (mine a i)) ∨ x.offer = mine a i) : Helped P L k j i (put a q x) := by
  have hX : (put a q x).X i = a.X i := by rw [put_X, if_neg (fun e => hq e.symm)]
  have hm : mine (put a q x) i = mine a i := mine_of (by rw [hX]; exact ⟨rfl, rfl⟩)
  refine ⟨by rw [hm]; exact hh.wish, hh.was, hh.turn, by rw [hX]; exact hh.old, fun p => ?_, by rw [hm]; exact hh.slot, hh.deep⟩
  rw [put_X, hm]
  split
  · exact ho
  · exact hh.offer p

theorem Helped.sees {k j q : Nat} (hh : Helped P L k j i a) (hq : q ≠ i) (r : Rc) : Helped P L k j i (sees L a q r).1 := by
  unfold prc.sees
  split
  · exact hh.go hq _ (fun e => absurd e (by show ¬ 0 = 4; omega))
  · split
    · exact hh.go hq _ (fun e => absurd e (by show ¬ 0 = 4; omega))
    · exact hh.go hq _ (fun e => absurd e (by show ¬ 2 = 4; omega))

theorem Helped.begins {k j q : Nat} (hh : Helped P L k j i a) (hq : q ≠ i) (s : ByteArray) : Helped P L k j i (begins a q s) :=
  hh.go hq _ (fun e => absurd e (by show ¬ 1 = 4; omega))
theorem Helped.begHead {k j q : Nat} (hh : Helped P L k j i a) (hq : q ≠ i) : Helped P L k j i (begHead a q) :=
  hh.go hq _ (fun e => absurd e (by show ¬ 5 = 4; omega))

theorem Helped.step {k j q : Nat} (h : Inv P L D a) (hh : Helped P L k j i a) (hq : q ≠ i) : Helped P L k j i (step P L a q).1 := by
  unfold prc.step
  split
  · have hw : Helped P L k j i { a with W := up a.W q (some (mine a q)) } := ⟨by show up a.W q _ i = some (mine a i); rw [up_other _ _ (fun e => hq e.symm)]; exact hh.wish, hh.was, hh.turn, hh.old, hh.offer, hh.slot, hh.deep⟩
    unfold prc.wishes
    split
    · exact hw.go hq _ (fun e => absurd e (by show ¬ 0 = 4; omega))
    · exact hw.go hq _ (fun e => absurd e (by show ¬ 2 = 4; omega))
  · unfold prc.looks
    split
    · exact hh.sees hq _
    · exact hh.go hq _ (fun e => absurd e (by show ¬ 3 = 4; omega))
  · refine hh.go hq _ (fun _ e => ?_)
    have e' : (a.X q).at_ = j := e
    show _ ∨ choose a q (a.W ((a.X q).at_ % P)) = mine a i
    rw [e', hh.turn, hh.wish]
    by_cases hk : kn a.S i (a.X q).at_ < (a.X i).seq
    · refine .inr ?_
      show (if kn a.S i (a.X q).at_ < (a.X i).seq then mine a i else mine a q) = _
      rw [if_pos hk]
    · refine .inl ?_
      rw [e'] at hk
      exact hh.there h hk
  · rename_i e4
    unfold prc.decides
    split
    · exact hh.sees hq _
    · rename_i hs
      have hD := (h.swapped hs e4).1
      refine Helped.sees (a := { a with S := up a.S (a.X q).at_ (some (a.X q).offer) }) ?_ hq _
      have hk : k ≤ D := by
        rcases Nat.lt_or_ge D k with h1 | h1
        · exact absurd (by rw [← hD]; exact hs) (hh.deep D h1)
        · exact h1
      have keep : ∀ m, m < D → up a.S (a.X q).at_ (some (a.X q).offer) m = a.S m := fun m hm => up_other _ _ (by omega)
      have keep2 : ∀ {m}, a.S m = some (mine a i) → up a.S (a.X q).at_ (some (a.X q).offer) m = some (mine a i) := fun {m} hm => by
        rw [keep m ((h.pre m).1 (by rw [hm]; intro e; cases e))]; exact hm
      have hkn : kn (up a.S (a.X q).at_ (some (a.X q).offer)) i k = kn a.S i k := kn_congr i k fun m hm => keep m (by omega)
      refine ⟨hh.wish, hh.was, hh.turn, by rw [hkn]; exact hh.old, fun p e1 e2 => ?_, fun hne => ?_, fun m hm => ?_⟩
      · rcases hh.offer p e1 e2 with ⟨m, m1, m2, m3⟩ | e
        · exact .inl ⟨m, m1, m2, keep2 m3⟩
        · exact .inr e
      · by_cases hj : (a.X q).at_ = j
        · rcases hh.offer q e4 hj with ⟨m, m1, m2, m3⟩ | e
          · exact ⟨m, m1, by omega, keep2 m3⟩
          · refine ⟨j, hh.was, Nat.le_refl _, ?_⟩
            show up a.S (a.X q).at_ (some (a.X q).offer) j = some (mine a i)
            rw [hj, up_same, e]
        · have hne' : a.S j ≠ none := by
            have h2 : up a.S (a.X q).at_ (some (a.X q).offer) j ≠ none := hne
            rw [up_other _ _ (fun e => hj e.symm)] at h2
            exact h2
          obtain ⟨m, m1, m2, m3⟩ := hh.slot hne'
          exact ⟨m, m1, m2, keep2 m3⟩
      · show up a.S (a.X q).at_ (some (a.X q).offer) m ≠ none
        rw [keep m (by omega)]
        exact hh.deep m hm
  · unfold prc.heads
    split
    · exact hh.go hq _ (fun e => absurd e (by show ¬ 0 = 4; omega))
    · rename_i e5 _
      exact hh.go hq _ (fun e => absurd e (by show ¬ (a.X q).next = 4; omega))
  · exact hh

/-- A wish that was just written, when the first D slots were decided. -/
theorem helped_new (h : Inv P L D a) {j : Nat} (hj : D < j) (ht : j % P = i) (hw : a.W i = some (mine a i)) (ho : kn a.S i D < (a.X i).seq) : Helped P L D j i a :=
  ⟨hw, by omega, ht, ho, fun q _ e2 => absurd e2 (by have := h.seen q; omega), fun hne => absurd ((h.pre j).1 hne) (by omega), fun m hm => (h.pre m).2 hm⟩
end
end Go.Proofs.Ytbpcfkniflgmfaa.prc
end

section
/- What each call of wire's Writer does: the bytes that are written, behind it. -/
namespace Go.Proofs.Ytbpcfkniflgmfaa
open Go.RowKit



/-- A writer at block b, its bytes in row r. -/
def Wr (w : World) (b : Nat) (r : Option Nat) (xs : List UInt8) : Prop :=
  ∃ v, Has w b 105 #[v] ∧ w.ownsRow 0 5 1 v xs.length (xs.map byteV) ∧ v.ownBlock = r ∧ r ≠ some b

/-- The digits of what is above the last seven bits. -/
def hi (n : Nat) : List UInt8 := if n = 0 then [] else hi (n / 128) ++ [UInt8.ofNat (128 + n % 128)]
termination_by n
decreasing_by omega

def enc (n : Nat) : List UInt8 := hi (n / 128) ++ [UInt8.ofNat (n % 128)]

/-- Behind a writer's call: the bytes xs stand there, only its own blocks have turned. -/
def WrPost (w : World) (b : Nat) (r : Option Nat) (xs : List UInt8) (en : Ending) (w' : World) : Prop :=
  en = .returned (.pointer (some ⟨b, 0, none⟩)) ∧ ∃ r', Wr w' b r' xs ∧ (r' = r ∨ ∃ k, r' = some k ∧ w.heap.size ≤ k) ∧ Turn (fun k => k = b ∨ some k = r) w w'

theorem Try.infoByte : (Try.prog.info? 5).map (fun i => (i.zero, i.size, i.bytes)) = some (some (.int .u8 0), 1, 1) := by kernel_rfl

/-- The byte that bears seven bits and the mark. -/
def dig (n k : Nat) : UInt8 := UInt8.ofNat (128 + n / 2 ^ (7 * k) % 128)
def low (n : Nat) : UInt8 := UInt8.ofNat (n % 128)

theorem pow7 (n k : Nat) : n / 2 ^ (7 * (k + 1)) = n / 2 ^ (7 * k) / 128 := by
  rw [Nat.mul_succ, Nat.pow_add, ← Nat.div_div_eq_div_mul]

theorem hi_zero : hi 0 = [] := by rw [hi, if_pos rfl]

theorem hi_step (n k : Nat) (h : 0 < n / 2 ^ (7 * k)) : hi (n / 2 ^ (7 * k)) = hi (n / 2 ^ (7 * (k + 1))) ++ [dig n k] := by
  rw [hi, if_neg (by omega), pow7]; rfl

theorem enc_eq (n : Nat) : enc n = hi (n / 2 ^ (7 * (0 + 1))) ++ [low n] := rfl

theorem wrap_u8 (n : Nat) : IntKind.u8.wrap (n : Int) = ((n % 256 : Nat) : Int) := by
  rw [IntKind.wrap_u8]; omega

theorem or_mark (n k : Nat) : bits .or .u8 (IntKind.u8.wrap ((n : Int) / 2 ^ (7 * k))) 128 = ((dig n k).toNat : Int) := by
  have e : ((n : Int) / 2 ^ (7 * k)) = ((n / 2 ^ (7 * k) : Nat) : Int) := by simp
  rw [e, wrap_u8]
  unfold dig
  generalize n / 2 ^ (7 * k) = m at *
  have hh := u8_or_nat (m % 256) 128 (by omega) (by omega)
  have e2 : m % 256 ||| 128 = 128 + m % 128 := by
    have h1 := Nat.shiftLeft_add_eq_or_of_lt (a := 1) (b := m % 128) (i := 7) (by omega)
    have h2 : m % 256 ||| 128 = 128 ||| m % 128 := by
      rw [Nat.or_comm]
      have h3 : m % 256 = m % 128 ∨ m % 256 = 128 + m % 128 := by omega
      rcases h3 with h3 | h3
      · rw [h3]
      · rw [h3]
        have h4 : 128 + m % 128 = 128 ||| m % 128 := by simpa using h1
        rw [h4, ← Nat.or_assoc, Nat.or_self]
    rw [h2]
    have h4 : 128 + m % 128 = 128 ||| m % 128 := by simpa using h1
    exact h4.symm
  rw [e2] at hh
  have : (UInt8.ofNat (128 + m % 128)).toNat = 128 + m % 128 := by simp; omega
  rw [this]
  exact hh

theorem andnot_low (n : Nat) : bits .andNot .u8 ((n : Int) % 256) 128 = ((low n).toNat : Int) := by
  have h := u8_andNot_nat (n % 256) 128 (by omega) (by omega)
  have e : n % 256 &&& (255 - 128) = n % 256 % 128 := Nat.and_two_pow_sub_one_eq_mod _ 7
  rw [e] at h
  have : (low n).toNat = n % 256 % 128 := by unfold low; simp; omega
  rw [this]
  exact h

theorem hi_len (k : Nat) : ∀ n, n < 128 ^ k → (hi n).length ≤ k := by
  induction k with
  | zero => intro n hn; have : n = 0 := by omega
            rw [this, hi_zero]; exact Nat.le_refl _
  | succ k ih =>
    intro n hn
    by_cases h : n = 0
    · rw [h, hi_zero]; exact Nat.zero_le _
    · rw [hi, if_neg h, List.length_append, List.length_singleton]
      have := ih (n / 128) (by rw [Nat.pow_succ] at hn; omega)
      omega

theorem hi_len10 (n j : Nat) (h : n < 18446744073709551616) : (hi (n / 2 ^ (7 * j))).length ≤ 10 :=
  hi_len 10 _ (by have := Nat.div_le_self n (2 ^ (7 * j)); omega)

/-- Bytes are appended to a writer's own: the new row, what turns. -/
theorem Wr.grow {w W1 w2 : World} {b g cap n : Nat} {v : Value} {r : Option Nat} {ys : List UInt8} (hb : Has w b 105 #[v]) (hv : v.ownBlock = r) (hne : r ≠ some b)
    (hT : Turn (fun _ => False) w W1) (hg : W1.grownBy w2 v.ownBlock) (hown : w2.ownsRow 0 5 1 (.slice (some ⟨g, 0, none⟩) n cap) n (ys.map byteV)) (hat : v.ownBlock = some g ∨ w.heap.size ≤ g) :
    Wr (w2.setCell ⟨b, 0, none⟩ (.slice (some ⟨g, 0, none⟩) n cap)) b (some g) ys ∧ (some g = r ∨ ∃ k, some g = some k ∧ w.heap.size ≤ k) ∧
      Turn (fun k => k = b ∨ some k = r) w (w2.setCell ⟨b, 0, none⟩ (.slice (some ⟨g, 0, none⟩) n cap)) := by
  have hbg : g ≠ b := by
    rintro rfl
    rcases hat with h | h
    · exact hne (by rw [← hv, h])
    · have := hb.lt; omega
  have hT2 : Turn (fun k => k = b ∨ some k = r) w w2 :=
    (hT.more (fun _ _ h => h.elim)).grown hg (fun j hj _ => .inr (by rw [← hj, hv]))
  have hb2 : Has w2 b 105 #[v] := (hb.turn hT (fun h => h)).grown hg (by rw [hv]; exact fun h => hne h.symm)
  have hn : n = ys.length := by have := hown.1; simpa using this.symm
  subst hn
  refine ⟨⟨_, by simpa using hb2.put 0 (.slice (some ⟨g, 0, none⟩) ys.length cap), ?_, rfl, by intro h; injection h with h; exact hbg h⟩, ?_, hT2.put (fun _ => .inl rfl) 0 _⟩
  · refine ⟨hown.1, ?_⟩
    rcases hown.2 with ⟨h, _⟩ | ⟨g', cap', cur, h1, h2, h3, h4⟩
    · cases h
    · have e : g = g' := by injection h1 with h1; injection h1 with h1; injection h1
      subst e
      exact .inr ⟨g, cap', cur, h1, h2, (Below.heap_setCell w2 _ _ g hbg).trans h3, h4⟩
  · rcases hat with h | h
    · exact .inl (by rw [← hv, h])
    · exact .inr ⟨g, rfl, h⟩

theorem alloc_only (w : World) (o : Obj) : Turn (fun _ => False) w (w.alloc o) := (Turn.refl _ w).alloc o

theorem alloc_still (w : World) (o : Obj) : Turn (fun _ => False) w (w.alloc o).drew := ((Turn.refl _ w).alloc o).drew

set_option maxRecDepth 100000 in
set_option maxHeartbeats 1000000 in
theorem wnum_any (b : Nat) (r : Option Nat) (xs : List UInt8) (n : Nat) (w : World) (hn : n < 18446744073709551616) (h : Wr w b r xs) (hl : xs.length ≤ 1000000) :
    Calls Try.prog 45 #[.pointer (some ⟨b, 0, none⟩), .int .u64 n] w fun en w' => WrPost w b r (xs ++ enc n) en w' := by
  have HN := Lib.hid hn
  have HW := Lib.hid h
  clear hn h
  obtain ⟨i0, hi0, hz0, hz1, hz2⟩ := info_parts Try.infoByte
  go_enter Try.func45, Try.ntmps45
  go_wp2_with fail
  go_loop [5] (fun i => ∃ k : Nat, k ≤ 9 ∧ i = .int .i64 (7 * (k : Int)) ∧ Hid (k = 0 ∨ 0 < n / 2 ^ (7 * k))) (fun i => 100 - (intOf i).toNat)
  case atStart => exact ⟨0, by omega, rfl, .inl rfl⟩
  case round =>
    obtain ⟨k, hk, rfl, HC⟩ := hrel
    by_cases ht : (128 : Int) ≤ (n : Int) / 2 ^ (7 * k)
    · have hk9 : k + 1 ≤ 9 := by
        have e : ((n : Int) / 2 ^ (7 * k)) = ((n / 2 ^ (7 * k) : Nat) : Int) := by simp
        rw [e] at ht
        have h1 : 128 ≤ n / 2 ^ (7 * k) := by omega
        have hn := HN.out
        rcases Nat.lt_or_ge k 9 with h | h
        · omega
        · have h2 : n / 2 ^ (7 * k) ≤ n / 2 ^ (7 * 9) := Nat.div_le_div_left (Nat.pow_le_pow_right (by omega) (by omega)) (Nat.pos_of_ne_zero (by simp))
          omega
      have HC' : Hid (k + 1 = 0 ∨ 0 < n / 2 ^ (7 * (k + 1))) := .inr (by
        rw [pow7]
        have e : ((n : Int) / 2 ^ (7 * k)) = ((n / 2 ^ (7 * k) : Nat) : Int) := by simp
        rw [e] at ht
        clear e
        generalize n / 2 ^ (7 * k) = m at ht ⊢
        omega)
      go_wp2_with fail
      go_round
      case rel => exact ⟨k + 1, hk9, by go_num, HC'⟩
      case measure => simp [intOf]; omega
    · have HK : Hid (n / 2 ^ (7 * k) < 128) := by
        have e : ((n : Int) / 2 ^ (7 * k)) = ((n / 2 ^ (7 * k) : Nat) : Int) := by simp
        rw [e] at ht
        show n / 2 ^ (7 * k) < 128
        omega
      go_wp2_with fail
      go_loopw [5] (fun i w1 => ∃ (j : Nat) (r1 : Option Nat), j ≤ k ∧ i = .int .i64 (7 * (j : Int)) ∧ Hid (Wr w1 b r1 (xs ++ hi (n / 2 ^ (7 * (j + 1))))) ∧ Hid (r1 = r ∨ ∃ k, r1 = some k ∧ w.heap.size ≤ k) ∧ Turn (fun k => k = b ∨ some k = r) w w1) (fun i _ => (intOf i).toNat)
      case atStart =>
        have e : hi (n / 2 ^ (7 * (k + 1))) = [] := by
          rw [pow7]
          have h1 := HK.out
          generalize n / 2 ^ (7 * k) = m at h1 ⊢
          rw [show m / 128 = 0 by omega, hi_zero]
        exact ⟨k, r, Nat.le_refl _, rfl, by rw [e, List.append_nil]; exact HW, .inl rfl, Turn.refl _ _⟩
      case round =>
        obtain ⟨j, r1, hj, rfl, HW1, HR1, HT1⟩ := hrel
        obtain ⟨v, hb, ho, hv, hne⟩ := HW1.out
        have c0 : wr.cell? ⟨b, 0, none⟩ = some v := hb.cell 0
        have hlen : (hi (n / 2 ^ (7 * (j + 1)))).length ≤ 10 := hi_len10 n (j + 1) HN.out
        have hbl := hb.lt
        have HB := Lib.hid hb
        have HO := Lib.hid ho
        have HV := Lib.hid hv
        have HNE := Lib.hid hne
        clear hb ho hv hne
        by_cases hj0 : 0 < j
        · have hor := or_mark n j
          have e7 : (7 * (j : Int)).toNat = 7 * j := by omega
          have HJ : Hid (0 < n / 2 ^ (7 * j)) := by
            rcases HC.out with h | h
            · omega
            · exact Nat.lt_of_lt_of_le h (Nat.div_le_div_left (Nat.pow_le_pow_right (by omega) (by omega)) (Nat.pos_of_ne_zero (by simp)))
          go_wp2_with fail
          go_region_law (refine step_append_lies _ rfl (.tmp 20) (.tmp 26) 103 rfl 0 5 i0 (.int .u8 0) 1 1 Try.underlying103 hi0 hz0 hz1 hz2 rfl (by decide) v (xs ++ hi (n / 2 ^ (7 * (j + 1)))).length _ (by simp [Act.eval]) (by exact (HO.out.alloc _).drew) ⟨wr.heap.size, 0, none⟩ 1 1 [byteV (dig n j)] (by simp [Act.eval]) rfl (by exact World.news_of_block (heap_alloc_new _ _)) (by simp [byteV, Value.oneCell']) (by decide) (by unfold maxLen; simp; omega) (by simp; omega) (Nat.zero_le _) _ rfl ?_
                         intro g cap w2 hown hg hat hlt
                         have c2 : w2.cell? ⟨b, 0, none⟩ = some v := ((HB.out.turn (alloc_still _ _) (fun h => h)).grown hg (by rw [HV.out]; exact fun h => HNE.out h.symm)).cell 0
                         have f2 : w2.frozen? ⟨b, 0, none⟩ = false := ((HB.out.turn (alloc_still _ _) (fun h => h)).grown hg (by rw [HV.out]; exact fun h => HNE.out h.symm)).free 0
                         have HOWN := Lib.hid hown
                         have HG := Lib.hid hg
                         have HAT := Lib.hid hat
                         clear hown hg hat hlt)
          all_goals
            obtain ⟨hw3, ha3, ht3⟩ := Wr.grow (ys := xs ++ hi (n / 2 ^ (7 * j))) HB.out HV.out HNE.out (alloc_still _ _) HG.out (n := xs.length + (hi (n / 2 ^ (7 * (j + 1)))).length + 1) (by
              have hown := HOWN.out
              rw [List.length_append] at hown
              rw [hi_step n j HJ.out, ← List.append_assoc, List.map_append]; exact hown) (HAT.out.imp id (fun h => by rw [h]; simp))
            have HW3 := Lib.hid hw3
            have HA3 : Hid (some g = r ∨ ∃ k, some g = some k ∧ w.heap.size ≤ k) := by
              rcases ha3 with h | ⟨k, h1, h2⟩
              · rcases HR1.out with h' | ⟨k, h1, h2⟩
                · exact .inl (h.trans h')
                · exact .inr ⟨k, h.trans h1, h2⟩
              · exact .inr ⟨k, h1, Nat.le_trans HT1.size h2⟩
            have HT3 : Turn (fun k => k = b ∨ some k = r) w _ := HT1.trans ht3 (fun i hi h => by
              rcases h with h | h
              · exact .inl h
              · rcases HR1.out with h' | ⟨k, h1, h2⟩
                · exact .inr (h.trans h')
                · rw [h1] at h; injection h with h; omega)
            clear hw3 ha3 ht3 c2 f2 HOWN HG HAT HO HB c0
            go_wp2_with fail
            go_roundw
            case rel => exact ⟨j - 1, some g, by omega, by rw [show 7 * ((j - 1 : Nat) : Int) = 7 * (j : Int) - 7 by omega], by rw [show j - 1 + 1 = j by omega]; exact HW3, HA3, HT3⟩
            case measure => simp [intOf]; omega
        · obtain rfl : j = 0 := by omega
          have hlo := andnot_low n
          have hb63 : (xs ++ hi (n / 2 ^ (7 * (0 + 1)))).length + 1 ≤ maxLen := by rw [List.length_append]; unfold maxLen; omega
          have hbB : ((xs ++ hi (n / 2 ^ (7 * (0 + 1)))).length + 1) * 1 ≤ 140737488355328 := by rw [List.length_append]; omega
          have K1 := Lib.hid hb63
          have K2 := Lib.hid hbB
          clear hb63 hbB
          go_wp2_with (at_builtin; refine wpList_append_lies _ rfl (.tmp 34) (.tmp 38) 103 rfl 0 5 i0 (.int .u8 0) 1 1 Try.underlying103 hi0 hz0 hz1 hz2 rfl (by decide) v (xs ++ hi (n / 2 ^ (7 * (0 + 1)))).length _ rfl (by exact (HO.out.alloc _)) ⟨wr.heap.size, 0, none⟩ 1 1 [byteV (low n)] rfl rfl (by exact World.news_of_block (heap_alloc_new _ _)) (by simp [byteV, Value.oneCell']) (by decide) (by exact K1.out) (by exact K2.out) (Nat.zero_le _) _ rfl ?_)
          intro g cap w2 hown hg hat hlt
          have c2 : w2.cell? ⟨b, 0, none⟩ = some v := ((HB.out.turn (alloc_only _ _) (fun h => h)).grown hg (by rw [HV.out]; exact fun h => HNE.out h.symm)).cell 0
          have f2 : w2.frozen? ⟨b, 0, none⟩ = false := ((HB.out.turn (alloc_only _ _) (fun h => h)).grown hg (by rw [HV.out]; exact fun h => HNE.out h.symm)).free 0
          have HOWN := Lib.hid hown
          have HG := Lib.hid hg
          have HAT := Lib.hid hat
          clear hown hg hat hlt
          go_wp2_with fail
          obtain ⟨hw3, ha3, ht3⟩ := Wr.grow (ys := xs ++ enc n) HB.out HV.out HNE.out (alloc_only _ _) HG.out (n := xs.length + (hi (n / 128)).length + 1) (cap := cap) (by
            have e : List.map byteV (xs ++ enc n) = List.map byteV xs ++ (List.map byteV (hi (n / 128)) ++ [byteV (low n)]) := by rw [List.map_append, enc, List.map_append]; rfl
            rw [e]
            exact HOWN.out) (HAT.out.imp id (fun h => by rw [h]; exact Nat.le_succ _))
          have HW3 := Lib.hid hw3
          have HA3 : Hid (some g = r ∨ ∃ k, some g = some k ∧ w.heap.size ≤ k) := by
            rcases ha3 with h | ⟨k, h1, h2⟩
            · rcases HR1.out with h' | ⟨k, h1, h2⟩
              · exact .inl (h.trans h')
              · exact .inr ⟨k, h.trans h1, h2⟩
            · exact .inr ⟨k, h1, Nat.le_trans HT1.size h2⟩
          have HT3 : Turn (fun k => k = b ∨ some k = r) w _ := HT1.trans ht3 (fun i hi h => by
            rcases h with h | h
            · exact .inl h
            · rcases HR1.out with h' | ⟨k, h1, h2⟩
              · exact .inr (h.trans h')
              · rw [h1] at h; injection h with h; omega)
          clear hw3 ha3 ht3 c2 f2 HOWN HG HAT HO HB c0
          go_ret
          exact ⟨rfl, some g, HW3, HA3, HT3⟩

end Go.Proofs.Ytbpcfkniflgmfaa
end

section
/- A string's bytes appended to bytes that are owned: where the row lies behind it. -/
namespace Go.Proofs.Ytbpcfkniflgmfaa
open Go.RowKit

section
variable {P : Program}

theorem strCells_eq (s : ByteArray) : Lib.strCells s = s.data.toList.map byteV := rfl

theorem run_append_str_at (w : World) (base : Nat) (t u ty e : TypeId) (i : TypeInfo) (ht : P.underlying t = some (.slice e)) (hu : P.underlying u = some .string) (hi : P.info? e = some i) (hz : i.zero = some (.int .u8 0))
    (hsize : i.size = 1) (hby : i.bytes = 1)
    (v : Value) (n : Nat) (xs : List Value) (hown : w.ownsRow base e 1 v n xs) (s : ByteArray)
    (h63 : n + s.size ≤ maxLen) (hbytes : n + s.size ≤ 140737488355328) (hbase : base ≤ w.heap.size) :
    ∃ v' w', (Builtin.append_ #[t, u] ty #[v, .string s]).run P w = .ok v' w' ∧ w'.ownsRow base e 1 v' (n + s.size) (xs ++ Lib.strCells s) ∧ w.grownBy w' v.ownBlock ∧
      (v'.ownBlock = v.ownBlock ∨ v'.ownBlock = some w.heap.size) := by
  obtain ⟨v', w', hr, h2, h3, h4⟩ := Lib.run_append_own_string (P := P) w base t u ty e i ht hu hi hz hsize hby v n xs hown s h63 hbytes hbase
  refine ⟨v', w', hr, h2, h3, ?_⟩
  have hsmall : n + s.size ≤ 9223372036854775807 := by simp only [maxLen] at h63; omega
  have hxl : xs.length = n := by simpa using hown.1
  rcases hown.2 with ⟨rfl, rfl⟩ | ⟨g, cap, cur, rfl, hbg, hg, hnc, hcm, hcs, htake⟩
  · by_cases hm : s.size = 0
    · have := h4.2 ⟨rfl, hm⟩
      subst this
      exact .inl rfl
    · have hr2 := run_append_nil_string (P := P) w t u ty e i (.int .u8 0) ht hu hi hz s (by omega) (by omega) (by rw [hby]; omega)
      rw [hr2] at hr
      injection hr with hv hw
      rw [← hv]
      exact .inr rfl
  · by_cases hroom : n + s.size ≤ cap
    · have hcs' : cur.size = cap := by simpa using hcs
      have hr2 := Lib.run_append_room_string (P := P) w t u ty e i ht hu hi hsize g n cap cur hg s hroom (by omega)
      rw [hr2] at hr
      injection hr with hv hw
      rw [← hv]
      exact .inl rfl
    · have holds : ∀ j u, xs[j]? = some u → w.cell? ((⟨g, 0, none⟩ : Addr).add j) = some u := hown.cells (g := g) rfl
      have hr2 := Lib.run_append_grow_string (P := P) w t u ty e i (.int .u8 0) ht hu hi hz ⟨g, 0, none⟩ n cap xs (by rw [hsize]; simpa using hxl) holds s (by omega) (by omega) (by rw [hby]; exact growslice_fits (by omega) (by omega))
      rw [hr2] at hr
      injection hr with hv hw
      rw [← hv]
      exact .inr rfl

theorem wpList_append_str {w : World} {ops : Array Oper} {rest : List Oper} {o : Oper} {a : Act} {Q : Exit → Act → World → Prop} (hgd : o.guard = none) (sl x : Operand) (t u : TypeId)
    (ho : o.op = .call { callee := .builtin .append, args := #[sl, x], argTypes := #[t, u] })
    (base : Nat) (e : TypeId) (i : TypeInfo) (ht : P.underlying t = some (.slice e)) (hu : P.underlying u = some .string) (hi : P.info? e = some i) (hz : i.zero = some (.int .u8 0))
    (hsize : i.size = 1) (hby : i.bytes = 1)
    (v : Value) (n : Nat) (xs : List Value) (hs : a.eval sl = v) (hown : w.ownsRow base e 1 v n xs) (s : ByteArray) (hx : a.eval x = .string s)
    (h63 : n + s.size ≤ maxLen) (hbytes : n + s.size ≤ 140737488355328) (hbase : base ≤ w.heap.size)
    (h : ∀ v' w', w'.ownsRow base e 1 v' (n + s.size) (xs ++ Lib.strCells s) → w.grownBy w' v.ownBlock → (v'.ownBlock = v.ownBlock ∨ v'.ownBlock = some w.heap.size) → wpList P ops Q rest (a.put o.dst v') w') : wpList P ops Q (o :: rest) a w := by
  refine wpList_plain hgd fun K hK => ?_
  obtain ⟨v', w', hr, h2, h3, h4⟩ := run_append_str_at (P := P) w base t u o.type e i ht hu hi hz hsize hby v n xs hown s h63 hbytes hbase
  unfold Oper.wp execOp
  simp only [ho, resolve, invoke, builtin, Sem.run_bind, Sem.run_pure, Result.andThen_ok, List.map_toArray, List.map_cons, List.map_nil, hs, hx, hr]
  exact hK _ _ (h v' w' h2 h3 h4)

end
end Go.Proofs.Ytbpcfkniflgmfaa
end

section
/- What wire's Writer's Str does. -/
namespace Go.Proofs.Ytbpcfkniflgmfaa
open Go.RowKit

/-- Bytes were appended to a writer's own, and the slice was laid back. -/
theorem Wr.close {w W1 w2 : World} {b : Nat} {v v' : Value} {r : Option Nat} {ys : List UInt8} (hb : Has w b 105 #[v]) (hv : v.ownBlock = r) (hne : r ≠ some b)
    (hT : Turn (fun _ => False) w W1) (hg : W1.grownBy w2 v.ownBlock) (hown : w2.ownsRow 0 5 1 v' ys.length (ys.map byteV)) (hat : v'.ownBlock = v.ownBlock ∨ ∃ k, v'.ownBlock = some k ∧ w.heap.size ≤ k) :
    WrPost w b r ys (.returned (.pointer (some ⟨b, 0, none⟩))) (w2.setCell ⟨b, 0, none⟩ v') := by
  have hbl := hb.lt
  have hnb : v'.ownBlock ≠ some b := by
    rcases hat with h | ⟨k, h, hk⟩
    · rw [h, hv]; exact hne
    · rw [h]; intro e; injection e with e; omega
  have hT2 : Turn (fun k => k = b ∨ some k = r) w w2 :=
    (hT.more (fun _ _ h => h.elim)).grown hg (fun j hj _ => .inr (by rw [← hj, hv]))
  have hb2 : Has w2 b 105 #[v] := (hb.turn hT (fun h => h)).grown hg (by rw [hv]; exact fun h => hne h.symm)
  refine ⟨rfl, v'.ownBlock, ⟨v', by simpa using hb2.put 0 v', ?_, rfl, hnb⟩, by rw [← hv]; exact hat, hT2.put (fun _ => .inl rfl) 0 _⟩
  refine ⟨hown.1, ?_⟩
  rcases hown.2 with h | ⟨g', cap', cur, h1, h2, h3, h4⟩
  · exact .inl h
  · have e : g' ≠ b := by rintro rfl; exact hnb (by rw [h1]; rfl)
    exact .inr ⟨g', cap', cur, h1, h2, (Below.heap_setCell w2 _ _ g' e).trans h3, h4⟩

theorem wnum_int (b : Nat) (r : Option Nat) (xs : List UInt8) (x : Int) (w : World) (h0 : 0 ≤ x) (hx : x < 18446744073709551616) (h : Wr w b r xs) (hl : xs.length ≤ 1000000) :
    Calls Try.prog 45 #[.pointer (some ⟨b, 0, none⟩), .int .u64 x] w fun en w' => WrPost w b r (xs ++ enc x.toNat) en w' := by
  obtain ⟨n, rfl⟩ := Int.eq_ofNat_of_zero_le h0
  exact wnum_any b r xs n w (by omega) h hl

theorem enc_len (n : Nat) (h : n < 18446744073709551616) : (enc n).length ≤ 11 := by
  unfold enc
  rw [List.length_append, List.length_singleton]
  have := hi_len 10 (n / 128) (by omega)
  omega

theorem WrPost.trans {w w1 w2 : World} {b : Nat} {r r1 : Option Nat} {xs : List UInt8} {en : Ending} (hr : r1 = r ∨ ∃ k, r1 = some k ∧ w.heap.size ≤ k) (ht : Turn (fun k => k = b ∨ some k = r) w w1)
    (h : WrPost w1 b r1 xs en w2) : WrPost w b r xs en w2 := by
  obtain ⟨he, r2, h2, hr2, t2⟩ := h
  refine ⟨he, r2, h2, ?_, ht.trans t2 (fun j hj h => ?_)⟩
  · rcases hr2 with h | ⟨k, h, hk⟩
    · subst h; exact hr
    · exact .inr ⟨k, h, Nat.le_trans ht.size hk⟩
  · rcases h with h | h
    · exact .inl h
    · rcases hr with e | ⟨k, e, hk⟩
      · exact .inr (by rw [← e]; exact h)
      · rw [e] at h; injection h with h; omega

set_option maxRecDepth 100000 in
set_option maxHeartbeats 400000 in
theorem wstr_any (b : Nat) (r : Option Nat) (xs : List UInt8) (s : ByteArray) (w : World) (h : Wr w b r xs) (hl : xs.length ≤ 1000000) (hs : s.size ≤ 1000000) :
    Calls Try.prog 46 #[.pointer (some ⟨b, 0, none⟩), .string s] w fun en w' => WrPost w b r (xs ++ enc s.size ++ s.data.toList) en w' := by
  obtain ⟨i0, hi0, hz0, hz1, hz2⟩ := info_parts Try.infoByte
  have hel := enc_len s.size (by omega)
  go_enter Try.func46, Try.ntmps46
  go_wp2_with fail
  refine (wnum_int b r xs _ w (by omega) (by omega) h hl).mono ?_
  rintro en w1 ⟨rfl, r1, h1, hr1, t1⟩
  simp only [Int.toNat_natCast] at h1
  generalize hzs : xs ++ enc s.size = zs at h1
  have hzl : zs.length ≤ 1000011 := by rw [← hzs, List.length_append]; omega
  have HZS := Lib.hid hzs
  clear hzs
  obtain ⟨v, hb, ho, hv, hne⟩ := h1
  have c0 : w1.cell? ⟨b, 0, none⟩ = some v := hb.cell 0
  have HB := Lib.hid hb
  have HO := Lib.hid ho
  have HV := Lib.hid hv
  have HNE := Lib.hid hne
  have HR1 := Lib.hid hr1
  have T1 := Lib.hid t1
  have K1 : zs.length + s.size ≤ maxLen := by unfold maxLen; omega
  have K2 : zs.length + s.size ≤ 140737488355328 := by omega
  have HK1 := Lib.hid K1
  have HK2 := Lib.hid K2
  clear hb ho hv hne h hr1 t1 K1 K2
  go_wp2_with ((with_reducible refine at_op 16 ?_); refine wpList_append_str (o := ⟨some 16, _, _, _, _, _⟩) rfl (.tmp 14) (.tmp 15) 103 9 rfl 0 5 i0 Try.underlying103 Try.underlying9 hi0 hz0 hz1 hz2 v zs.length _ rfl HO.out s rfl HK1.out HK2.out (Nat.zero_le _) ?_)
  intro v' w2 hown hg hat
  have c2 : w2.cell? ⟨b, 0, none⟩ = some v := (HB.out.grown hg (by rw [HV.out]; exact fun h => HNE.out h.symm)).cell 0
  have f2 : w2.frozen? ⟨b, 0, none⟩ = false := (HB.out.grown hg (by rw [HV.out]; exact fun h => HNE.out h.symm)).free 0
  have HOWN := Lib.hid hown
  have HG := Lib.hid hg
  have HAT := Lib.hid hat
  obtain ⟨a', m', c', rfl⟩ : ∃ a' m' c', v' = .slice a' m' c' := by
    rcases hown.2 with ⟨h, _⟩ | ⟨g', cap', cur, h, _⟩
    · exact ⟨_, _, _, h⟩
    · exact ⟨_, _, _, h⟩
  clear hown hg hat c0
  go_wp2_with fail
  go_ret
  rw [HZS.out]
  have hc := Wr.close (ys := zs ++ s.data.toList) HB.out HV.out HNE.out (Turn.refl _ w1) HG.out (by
    have e1 : (zs ++ s.data.toList).length = zs.length + s.size := by simp
    have e2 : (zs ++ s.data.toList).map byteV = zs.map byteV ++ Lib.strCells s := by rw [List.map_append, strCells_eq]
    rw [e1, e2]
    exact HOWN.out) (HAT.out.imp id (fun h => ⟨_, h, Nat.le_refl _⟩))
  exact WrPost.trans HR1.out T1.out hc

end Go.Proofs.Ytbpcfkniflgmfaa
end

section
/- What each call of wire's Reader does: the bytes that are left and the error's number, behind it. -/
namespace Go.Proofs.Ytbpcfkniflgmfaa
open Go.RowKit

/-- A reader at block b: what is left, the error's number. -/
abbrev Rd (w : World) (b : Nat) (s : ByteArray) (e : Int) : Prop := Has w b 164 #[.string s, .int .i64 e]

theorem Rd.left {w : World} {b : Nat} {s : ByteArray} {e : Int} (h : Rd w b s e) (s' : ByteArray) : Rd (w.setCell ⟨b, 0, none⟩ (.string s')) b s' e := by
  have := h.put 0 (.string s')
  simpa using this
theorem Rd.err {w : World} {b : Nat} {s : ByteArray} {e : Int} (h : Rd w b s e) (e' : Int) : Rd (w.setCell ⟨b, 1, none⟩ (.int .i64 e')) b s e' := by
  have := h.put 1 (.int .i64 e')
  simpa using this

set_option maxHeartbeats 400000 in
theorem read_any (s : ByteArray) (w : World) :
    Calls Try.prog 77 #[.string s] w fun en w' => en = .returned (.pointer (some ⟨w.heap.size, 0, none⟩)) ∧ Rd w' w.heap.size s 0 ∧ Below w.heap.size w w' := by
  go_enter Try.func77, Try.ntmps77
  go_wp2
  go_ret
  exact ⟨rfl, Has.made _ _ _, (Below.refl _ _).alloc (Nat.le_refl _) _⟩

/-- The error's number behind a Fail: the first one stays. -/
def first (e k : Int) : Int := if e = 0 then k else e
theorem first_zero (k : Int) : first 0 k = k := rfl
theorem first_some {e : Int} (h : e ≠ 0) (k : Int) : first e k = e := if_neg h

set_option maxHeartbeats 400000 in
theorem fail_any (b : Nat) (s : ByteArray) (e k : Int) (w : World) (h : Rd w b s e) :
    Calls Try.prog 95 #[.pointer (some ⟨b, 0, none⟩), .int .i64 k] w fun en w' => en = .returned (.tuple #[]) ∧ Rd w' b ⟨#[]⟩ (first e k) ∧ w.grownBy w' (some b) := by
  have c0 : w.cell? ⟨b, 0, none⟩ = some (.string s) := h.cell 0
  have c1 : w.cell? ⟨b, 1, none⟩ = some (.int .i64 e) := h.cell 1
  have f0 := h.free 0
  have f1 := h.free 1
  have H := Lib.hid h
  clear h
  by_cases he : e = 0
  · subst he
    rw [first_zero]
    go_enter Try.func95, Try.ntmps95
    go_wp2
    go_end0
    exact ⟨rfl, (H.out.err k).left ⟨#[]⟩, grown_own (grown_own (grown_refl w _) 1 _) 0 _⟩
  · have he' : (e == 0) = false := by simpa using he
    rw [first_some he]
    go_enter Try.func95, Try.ntmps95
    go_wp2
    go_end0
    exact ⟨rfl, H.out.left ⟨#[]⟩, grown_own (grown_refl w _) 0 _⟩

/-- The error's number at the end: ErrForm, if something is left. -/
def endE (s : ByteArray) (e : Int) : Int := if s.data.toList = [] then e else first e 2

set_option maxHeartbeats 400000 in
theorem end_any (b : Nat) (s : ByteArray) (e : Int) (w : World) (h : Rd w b s e) :
    Calls Try.prog 80 #[.pointer (some ⟨b, 0, none⟩)] w fun en w' => en = .returned (.int .i64 (endE s e)) ∧ Rd w' b ⟨#[]⟩ (endE s e) ∧ w.grownBy w' (some b) := by
  have c0 : w.cell? ⟨b, 0, none⟩ = some (.string s) := h.cell 0
  have c1 : w.cell? ⟨b, 1, none⟩ = some (.int .i64 e) := h.cell 1
  by_cases hs : s.data.toList = []
  · have he : endE s e = e := if_pos hs
    rw [he]
    have hs' : s = ⟨#[]⟩ := by
      cases s with | mk d => simp at hs; rw [hs]
    subst hs'
    have H := Lib.hid h
    clear h he
    go_enter Try.func80, Try.ntmps80
    go_wp2
    go_ret
    exact ⟨rfl, H.out, grown_refl w _⟩
  · have he : endE s e = first e 2 := if_neg hs
    rw [he]
    have hs1 : s.toList.isEmpty = false := by rw [ByteArray.toList_eq]; simpa using hs
    have hs2 : (!s.toList.isEmpty) = true := by rw [hs1]; rfl
    have H := Lib.hid h
    clear h he c1 hs
    go_enter Try.func80, Try.ntmps80
    go_wp2_with fail
    refine (fail_any b s e 2 w H.out).mono ?_
    rintro en w1 ⟨rfl, h1, g1⟩
    have c1 : w1.cell? ⟨b, 1, none⟩ = some (.int .i64 (first e 2)) := h1.cell 1
    have H1 := Lib.hid h1
    clear h1
    go_wp2
    go_ret
    exact ⟨rfl, H1.out, g1⟩

/-- How a number is read: the error's number (0: none), the number, how many bytes. i: how many bytes went before, n: what they make. -/
def dec (i n : Nat) : List UInt8 → Nat × Nat × Nat
  | [] => (1, 0, 0)
  | b :: t =>
    if (i = 0 ∧ b.toNat = 128) ∨ 144115188075855872 ≤ n then (2, 0, 0)
    else if b.toNat < 128 then (0, n * 128 + b.toNat % 128, i + 1)
    else dec (i + 1) (n * 128 + b.toNat % 128) t

def restOf (s : ByteArray) (r : Nat × Nat × Nat) : ByteArray := if r.1 = 0 then s.extract r.2.2 s.size else ⟨#[]⟩
def errOf (e : Int) (r : Nat × Nat × Nat) : Int := if r.1 = 0 then e else first e (r.1 : Nat)

/-- What a number's taking leaves. -/
def NumPost (b : Nat) (s : ByteArray) (e : Int) (w : World) (r : Nat × Nat × Nat) (en : Ending) (w' : World) : Prop :=
  en = .returned (.int .u64 (r.2.1 : Nat)) ∧ Rd w' b (restOf s r) (errOf e r) ∧ w.grownBy w' (some b)

theorem andnot_7 (b : UInt8) : bits .andNot .u8 (b.toNat : Int) 128 = (b.toNat : Int) % 128 := by
  have h := u8_andNot_nat b.toNat 128 b.toNat_lt (by omega)
  have e : b.toNat &&& (255 - 128) = b.toNat % 128 := Nat.and_two_pow_sub_one_eq_mod b.toNat 7
  rw [e] at h
  simpa using h

theorem or_7 (N : Nat) (b : UInt8) (h : N < 144115188075855872) : bits .or .u64 ((N : Int) * 128) ((b.toNat : Int) % 128) = (N : Int) * 128 + (b.toNat : Int) % 128 := by
  have h' := u64_or_nat (N * 128) (b.toNat % 128) (by omega) (by omega)
  have e : N * 128 ||| b.toNat % 128 = N * 128 + b.toNat % 128 := by
    have := Nat.shiftLeft_add_eq_or_of_lt (a := N) (b := b.toNat % 128) (i := 7) (by omega)
    rw [Nat.shiftLeft_eq] at this
    exact this.symm
  rw [e] at h'
  simpa using h'

theorem drop_at (s : ByteArray) (k : Nat) (h : k < s.size) : s.data.toList.drop k = s[k] :: s.data.toList.drop (k + 1) := by
  rw [List.drop_eq_getElem_cons (by simpa using h)]
  rfl

set_option maxRecDepth 100000 in
set_option maxHeartbeats 1000000 in
theorem num_any (b : Nat) (s : ByteArray) (e : Int) (w : World) (hs : s.size ≤ maxLen) (h : Rd w b s e) :
    Calls Try.prog 94 #[.pointer (some ⟨b, 0, none⟩)] w fun en w' => NumPost b s e w (dec 0 0 s.data.toList) en w' := by
  have c0 : w.cell? ⟨b, 0, none⟩ = some (.string s) := h.cell 0
  have f0 := h.free 0
  unfold maxLen at hs
  have H := Lib.hid h
  clear h
  go_enter Try.func94, Try.ntmps94
  go_wp2_with fail
  go_loop [3, 4] (fun n i => ∃ k N : Nat, k ≤ s.size ∧ i = .int .i64 k ∧ n = .int .u64 N ∧ Hid (dec 0 0 s.data.toList = dec k N (s.data.toList.drop k))) (fun _ i => s.size - (intOf i).toNat)
  case atStart => exact ⟨0, 0, Nat.zero_le _, rfl, rfl, by rfl⟩
  case round =>
    obtain ⟨k, N, hk, rfl, rfl, HD⟩ := hrel
    by_cases hlt : k < s.size
    · have hd := drop_at s k hlt
      by_cases hN : 144115188075855872 ≤ N
      · have HE : Hid (dec 0 0 s.data.toList = (2, 0, 0)) := by rw [HD.out, hd, dec, if_pos (.inr hN)]; exact rfl
        clear hd
        have hN1 : ((N : Int) / 144115188075855872 != 0) = true := by simp; omega
        have HH := Lib.hid hN
        clear hN
        have hw : (k = 0 ∧ s[k].toNat = 128) ∨ (k = 0 ∧ ¬ s[k].toNat = 128) ∨ ¬ k = 0 := by omega
        rcases hw with ⟨rfl, hb⟩ | ⟨rfl, hb⟩ | hk0
        · have hb1 : ((s[0].toNat : Int) == 128) = true := by rw [hb]; rfl
          clear hb
          go_wp2_with fail
          refine (fail_any b s e 2 w H.out).mono ?_
          rintro en w1 ⟨rfl, h1, g1⟩
          have H1 := Lib.hid h1
          clear h1
          go_wp2
          go_ret
          rw [HE.out]
          exact ⟨rfl, H1.out, g1⟩
        · have hb1 : ((s[0].toNat : Int) == 128) = false := by simp; omega
          clear hb
          go_wp2_with fail
          refine (fail_any b s e 2 w H.out).mono ?_
          rintro en w1 ⟨rfl, h1, g1⟩
          have H1 := Lib.hid h1
          clear h1
          go_wp2
          go_ret
          rw [HE.out]
          exact ⟨rfl, H1.out, g1⟩
        · have hk1 : ((k : Int) == 0) = false := by simpa using hk0
          go_wp2_with fail
          refine (fail_any b s e 2 w H.out).mono ?_
          rintro en w1 ⟨rfl, h1, g1⟩
          have H1 := Lib.hid h1
          clear h1
          go_wp2
          go_ret
          rw [HE.out]
          exact ⟨rfl, H1.out, g1⟩
      · by_cases hk0 : k = 0
        · subst hk0
          have hN1 : ((N : Int) / 144115188075855872 != 0) = false := by simp; omega
          have hx := andnot_7 s[0]
          have hy := or_7 N s[0] (by omega)
          by_cases hb2 : s[0].toNat = 128
          · have HE : Hid (dec 0 0 s.data.toList = (2, 0, 0)) := by rw [HD.out, hd, dec, if_pos (.inl ⟨rfl, hb2⟩)]; exact rfl
            have hb1 : ((s[0].toNat : Int) == 128) = true := by rw [hb2]; rfl
            clear hb2 hd hx hy
            go_wp2_with fail
            refine (fail_any b s e 2 w H.out).mono ?_
            rintro en w1 ⟨rfl, h1, g1⟩
            have H1 := Lib.hid h1
            clear h1
            go_wp2
            go_ret
            rw [HE.out]
            exact ⟨rfl, H1.out, g1⟩
          · have hb1 : ((s[0].toNat : Int) == 128) = false := by simp; omega
            by_cases hb : s[0].toNat < 128
            · have HE : Hid (dec 0 0 s.data.toList = (0, N * 128 + s[0].toNat % 128, 0 + 1)) := by rw [HD.out, hd, dec, if_neg (by omega), if_pos hb]; exact rfl
              clear hd
              go_wp2_with fail
              go_ret
              rw [HE.out]
              exact ⟨rfl, H.out.left _, grown_own (grown_refl w _) 0 _⟩
            · have HE : Hid (dec 0 0 s.data.toList = dec (0 + 1) (N * 128 + s[0].toNat % 128) (s.data.toList.drop (0 + 1))) := by rw [HD.out, hd, dec, if_neg (by omega), if_neg hb]; exact rfl
              clear hd
              go_wp2_with fail
              go_round
              case rel => exact ⟨0 + 1, N * 128 + s[0].toNat % 128, by omega, by go_num, by go_num, HE⟩
              case measure => simp [intOf]; omega
        · have hk1 : ((k : Int) == 0) = false := by simpa using hk0
          have hN1 : ((N : Int) / 144115188075855872 != 0) = false := by simp; omega
          have hx := andnot_7 s[k]
          have hy := or_7 N s[k] (by omega)
          by_cases hb : s[k].toNat < 128
          · have HE : Hid (dec 0 0 s.data.toList = (0, N * 128 + s[k].toNat % 128, k + 1)) := by rw [HD.out, hd, dec, if_neg (by omega), if_pos hb]; exact rfl
            clear hd
            go_wp2_with fail
            go_ret
            rw [HE.out]
            exact ⟨rfl, H.out.left _, grown_own (grown_refl w _) 0 _⟩
          · have HE : Hid (dec 0 0 s.data.toList = dec (k + 1) (N * 128 + s[k].toNat % 128) (s.data.toList.drop (k + 1))) := by rw [HD.out, hd, dec, if_neg (by omega), if_neg hb]; exact rfl
            clear hd
            go_wp2_with fail
            go_round
            case rel => exact ⟨k + 1, N * 128 + s[k].toNat % 128, by omega, by go_num, by go_num, HE⟩
            case measure => simp [intOf]; omega
    · have HE : Hid (dec 0 0 s.data.toList = (1, 0, 0)) := by rw [HD.out, List.drop_of_length_le (by simp; omega)]; exact rfl
      go_wp2_with fail
      refine (fail_any b s e 1 w H.out).mono ?_
      rintro en w1 ⟨rfl, h1, g1⟩
      have H1 := Lib.hid h1
      clear h1
      go_wp2
      go_ret
      rw [HE.out]
      exact ⟨rfl, H1.out, g1⟩

end Go.Proofs.Ytbpcfkniflgmfaa
end

