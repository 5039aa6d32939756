/- proc: a process's block; places; the small calls. -/
import Derived.Test.YtlbpephbigikcabReg
import Derived.Test.YtlbpephbigikcabOwn
import Derived.BigQuiet
import Derived.Lib.ItoaWalk
namespace Go.Proofs.Ytlbpephbigikcab.prc
open Go Go.RowKit

/-- An array of cells by their numbers. -/
def cellsF (f : Nat → Value) (n : Nat) : Array Value := ((List.range n).map f).toArray
theorem cellsF_size (f : Nat → Value) (n : Nat) : (cellsF f n).size = n := by unfold cellsF; simp
theorem cellsF_at (f : Nat → Value) {n i : Nat} (h : i < n) : (cellsF f n)[i]? = some (f i) := by
  unfold cellsF
  rw [List.getElem?_toArray, List.getElem?_map, List.getElem?_range h]
  rfl
def upV (f : Nat → Value) (k : Nat) (v : Value) (i : Nat) : Value := if i = k then v else f i
theorem cellsF_put (f : Nat → Value) {n k : Nat} (v : Value) : (cellsF f n).setIfInBounds k v = cellsF (upV f k v) n := by
  apply Array.ext'
  apply List.ext_getElem?
  intro i
  rw [Array.toList_setIfInBounds, List.getElem?_set]
  unfold cellsF upV
  rw [List.toList_toArray, List.toList_toArray, List.getElem?_map, List.getElem?_map, List.length_map, List.length_range]
  by_cases h : i < n
  · rw [List.getElem?_range h]
    by_cases e : k = i
    · subst e; simp [h]
    · rw [if_neg e]
      show some (f i) = some (if i = k then v else f i)
      rw [if_neg (fun e2 => e e2.symm)]
  · rw [List.getElem?_eq_none (by rw [List.length_range]; omega)]
    by_cases e : k = i
    · subst e; simp [h]
    · rw [if_neg e]; rfl

/-- What a process's fields hold. -/
structure Px where
  procs : Int
  slots : Int
  who : Int
  seq : Int
  next : Int
  seen : Int
  last : Nat → Int
  own : ByteArray
  offer : ByteArray

def prF (x : Px) (i : Nat) : Value :=
  if i = 0 then .int .i64 x.procs else if i = 1 then .int .i64 x.slots else if i = 2 then .int .i64 x.who else if i = 3 then .int .i64 x.seq else if i = 4 then .int .i64 x.next
  else if i = 5 then .int .i64 x.seen else if i = 70 then .string x.own else if i = 71 then .string x.offer else .int .i64 (x.last (i - 6))

/-- The process at block b. -/
def Pr (w : World) (b : Nat) (x : Px) : Prop := Has w b 87 (cellsF (prF x) 72)

section
variable {w w' : World} {b : Nat} {x : Px}

theorem Pr.cell (h : Pr w b x) {i : Nat} (hi : i < 72) : w.cell? ⟨b, i, none⟩ = some (prF x i) := (Has.cell h i).trans (cellsF_at _ hi)
theorem Pr.free (h : Pr w b x) (i : Nat) : w.frozen? ⟨b, i, none⟩ = false := Has.free h i
theorem Pr.c0 (h : Pr w b x) : w.cell? ⟨b, 0, none⟩ = some (.int .i64 x.procs) := h.cell (by decide)
theorem Pr.c1 (h : Pr w b x) : w.cell? ⟨b, 1, none⟩ = some (.int .i64 x.slots) := h.cell (by decide)
theorem Pr.c2 (h : Pr w b x) : w.cell? ⟨b, 2, none⟩ = some (.int .i64 x.who) := h.cell (by decide)
theorem Pr.c3 (h : Pr w b x) : w.cell? ⟨b, 3, none⟩ = some (.int .i64 x.seq) := h.cell (by decide)
theorem Pr.c4 (h : Pr w b x) : w.cell? ⟨b, 4, none⟩ = some (.int .i64 x.next) := h.cell (by decide)
theorem Pr.c5 (h : Pr w b x) : w.cell? ⟨b, 5, none⟩ = some (.int .i64 x.seen) := h.cell (by decide)
theorem Pr.c70 (h : Pr w b x) : w.cell? ⟨b, 70, none⟩ = some (.string x.own) := h.cell (by decide)
theorem Pr.c71 (h : Pr w b x) : w.cell? ⟨b, 71, none⟩ = some (.string x.offer) := h.cell (by decide)
theorem Pr.cl (h : Pr w b x) {i : Nat} (hi : i < 64) : w.cell? ⟨b, 6 + i, none⟩ = some (.int .i64 (x.last i)) := by
  rw [h.cell (by omega)]
  unfold prF
  rw [if_neg (by omega), if_neg (by omega), if_neg (by omega), if_neg (by omega), if_neg (by omega), if_neg (by omega), if_neg (by omega), if_neg (by omega), Nat.add_sub_cancel_left]

theorem Pr.put (h : Pr w b x) (k : Nat) (v : Value) {y : Px} (e : ∀ i, i < 72 → upV (prF x) k v i = prF y i) : Pr (w.setCell ⟨b, k, none⟩ v) b y := by
  have := Has.put h k v
  rw [cellsF_put] at this
  have e2 : cellsF (upV (prF x) k v) 72 = cellsF (prF y) 72 := by
    unfold cellsF
    congr 1
    exact List.map_congr_left fun i hi => e i (List.mem_range.1 hi)
  rw [e2] at this
  exact this

theorem Pr.putSeq (h : Pr w b x) (n : Int) : Pr (w.setCell ⟨b, 3, none⟩ (.int .i64 n)) b { x with seq := n } :=
  h.put 3 _ fun i _ => by unfold upV prF; by_cases e : i = 3 <;> simp [e]
theorem Pr.putNext (h : Pr w b x) (n : Int) : Pr (w.setCell ⟨b, 4, none⟩ (.int .i64 n)) b { x with next := n } :=
  h.put 4 _ fun i _ => by unfold upV prF; by_cases e : i = 4 <;> simp [e]
theorem Pr.putSeen (h : Pr w b x) (n : Int) : Pr (w.setCell ⟨b, 5, none⟩ (.int .i64 n)) b { x with seen := n } :=
  h.put 5 _ fun i _ => by unfold upV prF; by_cases e : i = 5 <;> simp [e]
theorem Pr.putOwn (h : Pr w b x) (s : ByteArray) : Pr (w.setCell ⟨b, 70, none⟩ (.string s)) b { x with own := s } :=
  h.put 70 _ fun i _ => by unfold upV prF; by_cases e : i = 70 <;> simp [e]
theorem Pr.putOffer (h : Pr w b x) (s : ByteArray) : Pr (w.setCell ⟨b, 71, none⟩ (.string s)) b { x with offer := s } :=
  h.put 71 _ fun i _ => by unfold upV prF; by_cases e : i = 71 <;> simp [e]
theorem Pr.putLast (h : Pr w b x) {k : Nat} (hk : k < 64) (n : Int) : Pr (w.setCell ⟨b, 6 + k, none⟩ (.int .i64 n)) b { x with last := fun i => if i = k then n else x.last i } :=
  h.put (6 + k) _ fun i hi => by
    unfold upV prF
    by_cases e : i = 6 + k
    · subst e
      rw [if_pos rfl, if_neg (by omega), if_neg (by omega), if_neg (by omega), if_neg (by omega), if_neg (by omega), if_neg (by omega), if_neg (by omega), if_neg (by omega)]
      show _ = Value.int .i64 (if 6 + k - 6 = k then n else _)
      rw [if_pos (by omega)]
    · rw [if_neg e]
      have e2 : ¬ (6 ≤ i ∧ i - 6 = k) := by omega
      by_cases h6 : 6 ≤ i
      · have e3 : i - 6 ≠ k := fun e4 => e2 ⟨h6, e4⟩
        show _ = (if i = 0 then _ else if i = 1 then _ else if i = 2 then _ else if i = 3 then _ else if i = 4 then _ else if i = 5 then _ else if i = 70 then _ else if i = 71 then _ else Value.int .i64 (if i - 6 = k then n else x.last (i - 6)))
        rw [if_neg e3]
      · rcases (show i = 0 ∨ i = 1 ∨ i = 2 ∨ i = 3 ∨ i = 4 ∨ i = 5 by omega) with rfl | rfl | rfl | rfl | rfl | rfl <;> rfl

theorem Pr.keep (h : Pr w b x) (e : w'.heap[b]? = w.heap[b]?) : Pr w' b x := Has.keep h e
theorem Pr.below (h : Pr w b x) (hb : Below w.heap.size w w') : Pr w' b x := Has.below h hb (Has.lt h)
theorem Pr.turn {F : Nat → Prop} (h : Pr w b x) (t : Turn F w w') (hF : ¬ F b) : Pr w' b x := Has.turn h t hF
theorem Pr.drew (h : Pr w b x) : Pr w.drew b x := h
theorem Pr.alloc (h : Pr w b x) (o : Obj) : Pr (w.alloc o) b x := Has.alloc h o

end

/-- Places. -/
theorem box_below (w : World) (o : Obj) : Below w.heap.size w (w.alloc o) := (Below.refl _ _).alloc (Nat.le_refl _) _

def ret1 (v : Value) (w : World) (en : Ending) (w' : World) : Prop := en = .returned v ∧ Below w.heap.size w w'

theorem slotP_calls (P L k : Int) (w : World) (hP0 : 0 ≤ P) (hP : P ≤ 1000) (hk0 : 0 ≤ k) (hk : k ≤ 1000) : Calls Try.prog 18 #[.agg #[.int .i64 P, .int .i64 L], .int .i64 k] w (ret1 (.int .i64 (P + k)) w) := by
  go_enter Try.func18, Try.ntmps18
  go_wp2_with fail
  go_ret
  exact ⟨rfl, box_below _ _⟩

theorem wishP_calls (P L k : Int) (w : World) : Calls Try.prog 24 #[.agg #[.int .i64 P, .int .i64 L], .int .i64 k] w (ret1 (.int .i64 k) w) := by
  go_enter Try.func24, Try.ntmps24
  go_wp2_with fail
  go_ret
  exact ⟨rfl, box_below _ _⟩

theorem cellsP_calls (P L : Int) (w : World) (hP0 : 0 ≤ P) (hP : P ≤ 1000) (hk0 : 0 ≤ L) (hk : L ≤ 1000) : Calls Try.prog 15 #[.agg #[.int .i64 P, .int .i64 L]] w (ret1 (.int .i64 (P + L)) w) := by
  go_enter Try.func15, Try.ntmps15
  go_wp2_with fail
  go_ret
  exact ⟨rfl, box_below _ _⟩

theorem boundP_calls (P L : Int) (w : World) (hk0 : 0 ≤ L) (hk : L ≤ 1000) : Calls Try.prog 21 #[.agg #[.int .i64 P, .int .i64 L]] w (ret1 (.int .i64 (2 + 3 * L)) w) := by
  go_enter Try.func21, Try.ntmps21
  go_wp2_with fail
  go_ret
  exact ⟨rfl, box_below _ _⟩

def mayP (P L : Int) : Bool := decide (1 ≤ P) && decide (P ≤ 64) && decide (0 ≤ L) && decide (L ≤ 256)

def checkE (P L : Int) : Int := if mayP P L = true then 0 else 4

set_option maxHeartbeats 400000 in
theorem checkP_calls (P L : Int) (w : World) : Calls Try.prog 13 #[.agg #[.int .i64 P, .int .i64 L]] w (ret1 (.int .i64 (checkE P L)) w) := by
  by_cases h1 : P < 1
  · have e := Lib.hid (show checkE P L = 4 by unfold checkE mayP; rw [if_neg]; simp; omega)
    go_enter Try.func13, Try.ntmps13
    go_wp2_with fail
    go_ret
    exact ⟨by rw [e.out]; rfl, box_below _ _⟩
  by_cases h2 : 64 < P
  · have e := Lib.hid (show checkE P L = 4 by unfold checkE mayP; rw [if_neg]; simp; omega)
    go_enter Try.func13, Try.ntmps13
    go_wp2_with fail
    go_ret
    exact ⟨by rw [e.out]; rfl, box_below _ _⟩
  by_cases h3 : L < 0
  · have e := Lib.hid (show checkE P L = 4 by unfold checkE mayP; rw [if_neg]; simp; omega)
    go_enter Try.func13, Try.ntmps13
    go_wp2_with fail
    go_ret
    exact ⟨by rw [e.out]; rfl, box_below _ _⟩
  by_cases h4 : 256 < L
  · have e := Lib.hid (show checkE P L = 4 by unfold checkE mayP; rw [if_neg]; simp; omega)
    go_enter Try.func13, Try.ntmps13
    go_wp2_with fail
    go_ret
    exact ⟨by rw [e.out]; rfl, box_below _ _⟩
  · have e := Lib.hid (show checkE P L = 0 by unfold checkE mayP; rw [if_pos]; simp; omega)
    go_enter Try.func13, Try.ntmps13
    go_wp2_with fail
    go_ret
    exact ⟨by rw [e.out]; rfl, box_below _ _⟩

theorem helpedP_calls (P L : Int) (k : Nat) (w : World) (hP0 : 1 ≤ P) (hP : P ≤ 1000) (hk : k ≤ 1000) : Calls Try.prog 48 #[.agg #[.int .i64 P, .int .i64 L], .int .i64 k] w (ret1 (.int .i64 ((k : Int) % P)) w) := by
  have hk0 : (0 : Int) ≤ (k : Int) := by omega
  have hm : ¬ P < 1 := by omega
  have hz : ¬ P = 0 := by omega
  have ht := Lib.hid (Int.tmod_eq_emod_of_nonneg hk0 (b := P))
  obtain ⟨r, hr⟩ : ∃ r, r = (k : Int).tmod P := ⟨_, rfl⟩
  have hr1 : (k : Int).tmod P = r := hr.symm
  have hr2 : (k : Int) % P = r := by rw [← ht.out, hr]
  clear hr
  go_enter Try.func48, Try.ntmps48
  go_wp2_with fail
  go_ret
  exact ⟨rfl, box_below _ _⟩

section
variable {w : World} {b : Nat} {x : Px}

theorem idle_calls (h : Pr w b x) : Calls Try.prog 20 #[.pointer (some ⟨b, 0, none⟩)] w fun en w' => en = .returned (.bool (x.next == 0)) ∧ w = w' := by
  have c4 := h.c4
  clear h
  go_enter Try.func20, Try.ntmps20
  go_wp2_with fail
  go_ret
  exact ⟨rfl, rfl⟩

theorem at_calls (h : Pr w b x) : Calls Try.prog 35 #[.pointer (some ⟨b, 0, none⟩)] w fun en w' => en = .returned (.int .i64 x.seen) ∧ w = w' := by
  have c5 := h.c5
  clear h
  go_enter Try.func35, Try.ntmps35
  go_wp2_with fail
  go_ret
  exact ⟨rfl, rfl⟩

theorem seq_calls (h : Pr w b x) : Calls Try.prog 23 #[.pointer (some ⟨b, 0, none⟩)] w fun en w' => en = .returned (.int .i64 x.seq) ∧ w = w' := by
  have c3 := h.c3
  clear h
  go_enter Try.func23, Try.ntmps23
  go_wp2_with fail
  go_ret
  exact ⟨rfl, rfl⟩

theorem all_calls (h : Pr w b x) : Calls Try.prog 62 #[.pointer (some ⟨b, 0, none⟩)] w fun en w' => en = .returned (.bool (decide (x.slots ≤ x.seen))) ∧ Below w.heap.size w w' := by
  have c5 := h.drew.c5
  have c1 := h.drew.c1
  clear h
  go_enter Try.func62, Try.ntmps62
  go_wp2_with fail
  go_region
  all_goals
    go_wp2_with fail
    go_ret
    exact ⟨rfl, (Below.refl _ _).drew⟩

end
end Go.Proofs.Ytlbpephbigikcab.prc
