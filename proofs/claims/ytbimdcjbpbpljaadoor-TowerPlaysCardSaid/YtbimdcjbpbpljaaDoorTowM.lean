/- tower, of no program: nodes in a row, their towers, what a node's tower points at. -/
import Derived.Test.YtbimdcjbpbpljaaDoorOwn
namespace Go.Proofs.YtbimdcjbpbpljaaDoor
open Go.RowKit

theorem below_drewN {B : Nat} {w w' : World} (h : Below B w w') (n : Nat) : Below B w (w'.drewN n) := ⟨h.os, h.tape, h.output, h.size, h.block⟩

/-- A version, what is kept of it, how high its tower is; its block, and its tower's. -/
structure Nd (V : Type) where
  a : Int
  v : V
  k : Nat
  g : Nat
  r : Nat

def ptrV : Option Nat → Value
  | none => .pointer none
  | some g => .pointer (some ⟨g, 0, none⟩)

section
variable {V : Type}

/-- The first one that is on level h. -/
def nx (h : Nat) : List (Nd V) → Option Nat
  | [] => none
  | x :: l => if h < x.k then some x.g else nx h l

theorem nx_hit {h : Nat} {x : Nd V} (hx : h < x.k) (l : List (Nd V)) : nx h (x :: l) = some x.g := if_pos hx
theorem nx_miss {h : Nat} {x : Nd V} (hx : ¬ h < x.k) (l : List (Nd V)) : nx h (x :: l) = nx h l := if_neg hx
theorem nx_append (h : Nat) (l t : List (Nd V)) : nx h (l ++ t) = if (nx h l).isSome then nx h l else nx h t := by
  induction l with
  | nil => rfl
  | cons x l ih =>
    rw [List.cons_append]
    by_cases hx : h < x.k
    · rw [nx_hit hx, nx_hit hx]; rfl
    · rw [nx_miss hx, nx_miss hx]; exact ih

theorem nx_congr {h : Nat} {l t t' : List (Nd V)} (e : nx h t = nx h t') : nx h (l ++ t) = nx h (l ++ t') := by
  rw [nx_append, nx_append, e]

theorem nx_none {h : Nat} {l : List (Nd V)} (hl : ∀ y ∈ l, y.k ≤ h) : nx h l = none := by
  induction l with
  | nil => rfl
  | cons x l ih =>
    unfold nx
    rw [if_neg (by have := hl x (by simp); omega)]
    exact ih (fun y hy => hl y (by simp [hy]))

theorem nx_low {h : Nat} {l t : List (Nd V)} (hl : ∀ y ∈ l, y.k ≤ h) : nx h (l ++ t) = nx h t := by
  rw [nx_append, nx_none hl]; rfl

theorem nx_past {h : Nat} {l : List (Nd V)} {c : Nd V} (hc : h < c.k) (m t t' : List (Nd V)) : nx h (l ++ c :: m ++ t) = nx h (l ++ c :: m ++ t') := by
  induction l with
  | nil => simp [nx, hc]
  | cons x l ih =>
    simp only [List.cons_append] at ih ⊢
    unfold nx
    by_cases hx : h < x.k
    · rw [if_pos hx, if_pos hx]
    · rw [if_neg hx, if_neg hx]; exact ih

theorem nx_cases (h : Nat) (l : List (Nd V)) : (nx h l = none ∧ ∀ z ∈ l, z.k ≤ h) ∨ ∃ l1 y l2, l = l1 ++ y :: l2 ∧ h < y.k ∧ (∀ z ∈ l1, z.k ≤ h) ∧ nx h l = some y.g := by
  induction l with
  | nil => exact .inl ⟨rfl, fun z hz => by cases hz⟩
  | cons x l ih =>
    by_cases hx : h < x.k
    · exact .inr ⟨[], x, l, rfl, hx, (by intro z hz; cases hz), nx_hit hx _⟩
    · rcases ih with ⟨e, hl⟩ | ⟨l1, y, l2, rfl, hy, hl, e⟩
      · refine .inl ⟨by rw [nx_miss hx]; exact e, fun z hz => ?_⟩
        rcases List.mem_cons.1 hz with rfl | hz
        · omega
        · exact hl z hz
      · refine .inr ⟨x :: l1, y, l2, rfl, hy, fun z hz => ?_, by rw [nx_miss hx]; exact e⟩
        rcases List.mem_cons.1 hz with rfl | hz
        · omega
        · exact hl z hz

theorem nx_zero {l : List (Nd V)} (hk : ∀ x ∈ l, 0 < x.k) : nx 0 l = l.head?.map (·.g) := by
  cases l with
  | nil => rfl
  | cons x l => unfold nx; rw [if_pos (hk x (by simp))]; rfl

/-- A tower's cells: what comes first behind, on each level; behind l comes T h on level h. -/
def rowT (k : Nat) (l : List (Nd V)) (T : Nat → List (Nd V)) : Array Value := ((List.range k).map fun h => ptrV (nx h (l ++ T h))).toArray

theorem rowT_size (k : Nat) (l : List (Nd V)) (T : Nat → List (Nd V)) : (rowT k l T).size = k := by simp [rowT]
theorem rowT_at {k h : Nat} (hh : h < k) (l : List (Nd V)) (T : Nat → List (Nd V)) : (rowT k l T)[h]? = some (ptrV (nx h (l ++ T h))) := by simp [rowT, hh]
theorem rowT_congr {k : Nat} {l l' : List (Nd V)} {T T' : Nat → List (Nd V)} (e : ∀ h, h < k → nx h (l ++ T h) = nx h (l' ++ T' h)) : rowT k l T = rowT k l' T' := by
  unfold rowT
  congr 1
  exact List.map_congr_left fun h hh => by rw [e h (List.mem_range.1 hh)]
theorem rowT_set {k h : Nat} (l l' : List (Nd V)) (T T' : Nat → List (Nd V)) (e : ∀ i, i < k → i ≠ h → nx i (l ++ T i) = nx i (l' ++ T' i)) (v : Value) (hv : h < k → v = ptrV (nx h (l' ++ T' h))) :
    (rowT k l T).setIfInBounds h v = rowT k l' T' := by
  apply Array.ext_getElem?
  intro i
  rw [Array.getElem?_setIfInBounds, rowT_size]
  by_cases hi : i < k
  · rw [rowT_at hi, rowT_at hi]
    by_cases hh : h = i
    · subst hh
      rw [if_pos rfl, if_pos hi, hv hi]
    · rw [if_neg hh, e i hi (fun x => hh x.symm)]
  · have h1 : (rowT k l T)[i]? = none := Array.getElem?_eq_none (by rw [rowT_size]; omega)
    have h2 : (rowT k l' T')[i]? = none := Array.getElem?_eq_none (by rw [rowT_size]; omega)
    rw [h1, h2]
    by_cases hh : h = i
    · rw [if_pos hh, if_neg (by omega)]
    · rw [if_neg hh]

/-- The nodes lie in memory; behind the last one comes T h on level h. -/
def Lay (w : World) (tn tp : TypeId) (mk : V → Value) (T : Nat → List (Nd V)) : List (Nd V) → Prop
  | [] => True
  | x :: l => Has w x.g tn #[.int .i64 x.a, mk x.v, .slice (some ⟨x.r, 0, none⟩) x.k x.k] ∧ Has w x.r tp (rowT x.k l T) ∧ Lay w tn tp mk T l

variable {w w' : World} {tn tp : TypeId} {mk : V → Value} {T T' : Nat → List (Nd V)} {L : List (Nd V)}

theorem Lay.congr (h : Lay w tn tp mk T L) (e : ∀ i, nx i (T i) = nx i (T' i)) : Lay w tn tp mk T' L := by
  induction L with
  | nil => trivial
  | cons x l ih =>
    refine ⟨h.1, ?_, ih h.2.2⟩
    rw [← rowT_congr (fun i _ => nx_congr (e i))]
    exact h.2.1

theorem Lay.append {A B : List (Nd V)} : Lay w tn tp mk T (A ++ B) ↔ Lay w tn tp mk (fun i => B ++ T i) A ∧ Lay w tn tp mk T B := by
  induction A with
  | nil => exact ⟨fun h => ⟨trivial, h⟩, fun h => h.2⟩
  | cons x A ih =>
    have e : rowT x.k (A ++ B) T = rowT x.k A (fun i => B ++ T i) := by unfold rowT; simp only [List.append_assoc]
    constructor
    · intro h
      exact ⟨⟨h.1, e ▸ h.2.1, (ih.1 h.2.2).1⟩, (ih.1 h.2.2).2⟩
    · intro h
      exact ⟨h.1.1, e.symm ▸ h.1.2.1, ih.2 ⟨h.1.2.2, h.2⟩⟩

theorem Lay.mem (h : Lay w tn tp mk T L) {x : Nd V} (hx : x ∈ L) : x.g < w.heap.size ∧ x.r < w.heap.size := by
  induction L with
  | nil => cases hx
  | cons y l ih =>
    rcases List.mem_cons.1 hx with rfl | hx
    · exact ⟨h.1.lt, h.2.1.lt⟩
    · exact ih h.2.2 hx

theorem Lay.turn {F : Nat → Prop} (h : Lay w tn tp mk T L) (t : Turn F w w') (hF : ∀ x ∈ L, ¬ F x.g ∧ ¬ F x.r) : Lay w' tn tp mk T L := by
  induction L with
  | nil => trivial
  | cons x l ih =>
    have := hF x (by simp)
    exact ⟨h.1.turn t this.1, h.2.1.turn t this.2, ih h.2.2 (fun y hy => hF y (by simp [hy]))⟩

theorem Lay.at_ {X Y : List (Nd V)} {c : Nd V} (h : Lay w tn tp mk T (X ++ c :: Y)) : Has w c.g tn #[.int .i64 c.a, mk c.v, .slice (some ⟨c.r, 0, none⟩) c.k c.k] ∧ Has w c.r tp (rowT c.k Y T) := by
  have := (Lay.append.1 h).2
  exact ⟨this.1, this.2.1⟩

/-- A block of another kind isn't a node's, or isn't a tower's. -/
theorem Lay.not_g (h : Lay w tn tp mk T L) {b : Nat} {t : TypeId} {cs : Array Value} (hb : Has w b t cs) (ht : t ≠ tn) : ∀ x ∈ L, x.g ≠ b := by
  induction L with
  | nil => intro x hx; cases hx
  | cons y l ih =>
    intro x hx
    rcases List.mem_cons.1 hx with rfl | hx
    · intro e
      have := h.1
      rw [e] at this
      exact ht (hb.uniq this).2
    · exact ih h.2.2 x hx
theorem Lay.not_r (h : Lay w tn tp mk T L) {b : Nat} {t : TypeId} {cs : Array Value} (hb : Has w b t cs) (ht : t ≠ tp) : ∀ x ∈ L, x.r ≠ b := by
  induction L with
  | nil => intro x hx; cases hx
  | cons y l ih =>
    intro x hx
    rcases List.mem_cons.1 hx with rfl | hx
    · intro e
      have := h.2.1
      rw [e] at this
      exact ht (hb.uniq this).2
    · exact ih h.2.2 x hx

/-- c is the last one that is on level h. -/
def On (L : List (Nd V)) (h : Nat) (c : Nd V) : Prop := ∃ X Y, L = X ++ c :: Y ∧ h < c.k ∧ ∀ y ∈ Y, y.k ≤ h

/-- What the last one on level h points at is turned. -/
theorem Lay.set {h : Nat} {c : Nd V} (hl : Lay w tn tp mk T L) (ho : On L h c) (hne : tn ≠ tp) (hr : (L.map (·.r)).Nodup) (e : ∀ i, i ≠ h → nx i (T i) = nx i (T' i)) :
    Lay (w.setCell ⟨c.r, h, none⟩ (ptrV (nx h (T' h)))) tn tp mk T' L := by
  obtain ⟨X, Y, rfl, hc, hY⟩ := ho
  have hcr := hl.at_.2
  have hg := hl.not_g hcr (fun e => hne e.symm)
  clear hcr
  induction X with
  | nil =>
    rw [List.nil_append] at hl hr hg ⊢
    rw [List.map_cons, List.nodup_cons] at hr
    refine ⟨hl.1.far (hg c (by simp)) _, ?_, ?_⟩
    · have h2 := hl.2.1.put h (ptrV (nx h (T' h)))
      rw [rowT_set Y Y T T' (fun i _ hi => nx_congr (e i hi)) _ (fun _ => by rw [nx_low hY])] at h2
      exact h2
    · have h3 := hl.2.2
      have hr2 := hr.1
      clear hr hl
      induction Y with
      | nil => trivial
      | cons y Y ih =>
        rw [List.map_cons, List.mem_cons] at hr2
        refine ⟨h3.1.far (hg y (by simp)) _, ?_, ih (fun z hz => hY z (by simp [hz])) (fun z hz => hg z (by
          rcases List.mem_cons.1 hz with rfl | hz
          · simp
          · simp [hz])) h3.2.2 (fun hm => hr2 (.inr hm))⟩
        have h4 := h3.2.1.far (p := ⟨c.r, h, none⟩) (fun e => hr2 (.inl e.symm)) (ptrV (nx h (T' h)))
        rw [rowT_congr (fun i hi => nx_congr (e i (by have := hY y (by simp); omega)))] at h4
        exact h4
  | cons x X ih =>
    rw [List.cons_append] at hl hr hg ⊢
    rw [List.map_cons, List.nodup_cons] at hr
    have hxr : x.r ≠ c.r := fun e => hr.1 (by rw [e]; simp)
    refine ⟨hl.1.far (hg x (by simp)) _, ?_, ih hl.2.2 hr.2 (fun z hz => hg z (List.mem_cons_of_mem _ hz))⟩
    have h4 := hl.2.1.far (p := ⟨c.r, h, none⟩) hxr (ptrV (nx h (T' h)))
    rw [rowT_congr (T' := T') (l' := X ++ c :: Y) (fun i hi => by
      by_cases hih : i = h
      · subst hih; exact nx_past hc Y _ _
      · exact nx_congr (e i hih))] at h4
    exact h4

/-- A far block is turned. -/
theorem Lay.far (hl : Lay w tn tp mk T L) {p : Addr} (hp : ∀ x ∈ L, x.g ≠ p.block ∧ x.r ≠ p.block) (u : Value) : Lay (w.setCell p u) tn tp mk T L := by
  induction L with
  | nil => trivial
  | cons x l ih =>
    have := hp x (by simp)
    exact ⟨hl.1.far this.1 u, hl.2.1.far this.2 u, ih hl.2.2 (fun y hy => hp y (by simp [hy]))⟩

theorem nx_value (h : Nat) (X Y : List (Nd V)) (y : Nd V) (v : V) : nx h (X ++ { y with v := v } :: Y) = nx h (X ++ y :: Y) := by
  rw [nx_append, nx_append (t := y :: Y)]
  rfl
/-- What is kept of a version is turned. -/
theorem Lay.value {X Y : List (Nd V)} {y : Nd V} (hl : Lay w tn tp mk T (X ++ y :: Y)) (hne : tn ≠ tp) (hg : ((X ++ y :: Y).map (·.g)).Nodup) (v : V) : Lay (w.setCell ⟨y.g, 1, none⟩ (mk v)) tn tp mk T (X ++ { y with v := v } :: Y) := by
  have hr := hl.not_r hl.at_.1 hne
  induction X with
  | nil =>
    rw [List.nil_append] at hl hg hr ⊢
    rw [List.map_cons, List.nodup_cons] at hg
    refine ⟨?_, hl.2.1.far (hr y (by simp)) _, hl.2.2.far (fun x hx => ⟨fun e => hg.1 (by rw [← show x.g = y.g from e]; exact List.mem_map_of_mem hx), hr x (by simp [hx])⟩) _⟩
    have := hl.1.put 1 (mk v)
    simpa using this
  | cons x X ih =>
    rw [List.cons_append] at hl hg hr ⊢
    rw [List.map_cons, List.nodup_cons] at hg
    refine ⟨hl.1.far (fun e => hg.1 (by rw [show x.g = y.g from e]; simp)) _, ?_, ih hl.2.2 hg.2 (fun z hz => hr z (List.mem_cons_of_mem _ hz))⟩
    have := hl.2.1.far (p := ⟨y.g, 1, none⟩) (hr x (by simp)) (mk v)
    rw [rowT_congr (T' := T) (l' := X ++ { y with v := v } :: Y) (fun i _ => by rw [List.append_assoc, List.append_assoc, List.cons_append, List.cons_append]; exact (nx_value i X _ y v).symm)] at this
    exact this

/-- How many a search goes past: those that none behind is higher than. -/
def stp : List (Nd V) → Nat
  | [] => 0
  | x :: l => stp l + if l.all (fun y => decide (y.k ≤ x.k)) then 1 else 0

theorem stp_cons (x : Nd V) (l : List (Nd V)) : stp (x :: l) = stp l + if l.all (fun y => decide (y.k ≤ x.k)) then 1 else 0 := rfl
theorem stp_le (l : List (Nd V)) : stp l ≤ l.length := by
  induction l with
  | nil => exact Nat.le_refl _
  | cons x l ih => rw [stp_cons, List.length_cons]; split <;> omega
theorem stp_hit {h : Nat} {l1 l2 : List (Nd V)} {y : Nd V} (h1 : ∀ z ∈ l1, z.k ≤ h) (hy : h < y.k) (h2 : ∀ z ∈ l2, z.k ≤ y.k) : stp (l1 ++ y :: l2) = stp l2 + 1 := by
  induction l1 with
  | nil =>
    rw [List.nil_append, stp_cons, if_pos (by rw [List.all_eq_true]; intro z hz; exact decide_eq_true (h2 z hz))]
  | cons x l1 ih =>
    have hx := h1 x (by simp)
    rw [List.cons_append, stp_cons, if_neg (by
      rw [List.all_eq_true]
      intro hh
      have := of_decide_eq_true (hh y (by simp))
      omega), Nat.add_zero]
    exact ih (fun z hz => h1 z (by simp [hz]))

end
end Go.Proofs.YtbimdcjbpbpljaaDoor
