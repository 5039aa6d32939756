/- sched: who is due, in its order, beside the document's list of who is due. -/
import Derived.Test.YtbpnbnbglfiglaaSchM
namespace Go.Proofs.Ytbpnbnbglfiglaa.sch
open Go Go.RowKit

/-- One that is due, as the document keeps it: whose, at which tick, since which turn. -/
abbrev On := Int × Int × Int
def onLt (a b : On) : Prop := a.2.1 < b.2.1 ∨ (a.2.1 = b.2.1 ∧ a.2.2 < b.2.2)
instance (a b : On) : Decidable (onLt a b) := inferInstanceAs (Decidable (_ ∨ _))

structure Rel (S : List Th) (L : List On) (c : Int) : Prop where
  ex : ∃ N : List Th, N.Perm S ∧ N.Pairwise (fun a b => a.2.2 < b.2.2) ∧ L.map (fun o => (o.1, o.2.1)) = N.map (fun x => (x.2.1, x.1))
  since : L.Pairwise (fun a b => a.2.2 < b.2.2)
  below : ∀ o ∈ L, o.2.2 ≤ c

theorem Rel.empty : Rel [] [] 0 := ⟨⟨[], List.Perm.refl _, List.Pairwise.nil, rfl⟩, List.Pairwise.nil, by simp⟩

theorem Rel.len {S : List Th} {L : List On} {c : Int} (h : Rel S L c) : L.length = S.length := by
  obtain ⟨N, h1, _, h3⟩ := h.ex
  have := congrArg List.length h3
  rw [List.length_map, List.length_map, h1.length_eq] at this
  exact this

theorem Rel.best {S t : List Th} {x : Th} {L : List On} {c : Int} (h : Rel S L c) (hs : S.Pairwise lt) (e : S = x :: t) (b : Nat) (o : On) (hb : L[b]? = some o) (hmin : ∀ (j : Nat) o', L[j]? = some o' → ¬ onLt o' o) : o.1 = x.2.1 ∧ o.2.1 = x.1 := by
  obtain ⟨N, h1, h2, h3⟩ := h.ex
  have hg : ∀ (j : Nat) (o' : On) (y : Th), L[j]? = some o' → N[j]? = some y → o'.1 = y.2.1 ∧ o'.2.1 = y.1 := by
    intro j o' y ho hy
    have := congrArg (fun l : List (Int × Int) => l[j]?) h3
    simp only [List.getElem?_map, ho, hy, Option.map_some] at this
    injection this with this
    injection this with e1 e2
    exact ⟨e1, e2⟩
  have hlen : L.length = N.length := by have := congrArg List.length h3; simpa using this
  have hx : x ∈ N := h1.mem_iff.2 (by rw [e]; simp)
  obtain ⟨i, hi, ei⟩ := List.getElem_of_mem hx
  have hNi : N[i]? = some x := by rw [List.getElem?_eq_getElem hi, ei]
  have hbl : b < L.length := (List.getElem?_eq_some_iff.1 hb).1
  have hNb : N[b]? = some (N[b]'(by omega)) := List.getElem?_eq_getElem (by omega)
  have hLi : L[i]? = some (L[i]'(by omega)) := List.getElem?_eq_getElem (by omega)
  obtain ⟨g1, g2⟩ := hg b o _ hb hNb
  obtain ⟨g3, g4⟩ := hg i _ x hLi hNi
  by_cases hib : i = b
  · subst hib
    rw [hNi] at hNb
    injection hNb with hNb
    rw [← hNb] at g1 g2
    exact ⟨g1, g2⟩
  · exfalso
    have hyS : N[b]'(by omega) ∈ S := h1.mem_iff.1 (List.getElem_mem _)
    have hne : N[b]'(by omega) ≠ x := by
      intro e2
      rcases Nat.lt_or_gt_of_ne hib with k | k
      · have := List.pairwise_iff_getElem.1 h2 i b hi (by omega) k
        rw [ei, e2] at this; omega
      · have := List.pairwise_iff_getElem.1 h2 b i (by omega) hi k
        rw [ei, e2] at this; omega
    have hlt : lt x (N[b]'(by omega)) := by
      rw [e] at hs hyS
      rcases List.mem_cons.1 hyS with k | k
      · exact absurd k hne
      · exact (List.pairwise_cons.1 hs).1 _ k
    apply hmin i _ hLi
    unfold lt at hlt
    unfold onLt
    rcases hlt with k | ⟨k1, k2⟩
    · left; omega
    · right
      refine ⟨by omega, ?_⟩
      rcases Nat.lt_or_gt_of_ne hib with k | k
      · have := List.pairwise_iff_getElem.1 h.since i b (by omega) (by omega) k
        have e2 : L[b]'(by omega) = o := (List.getElem?_eq_some_iff.1 hb).2
        rw [e2] at this
        exact this
      · have := List.pairwise_iff_getElem.1 h2 b i (by omega) hi k
        rw [ei] at this; omega

def keepO (who : Int) (L : List On) : List On := L.filter (fun o => decide (o.1 ≠ who))

theorem filter_map2 {who : Int} : ∀ (L : List On) (N : List Th), L.map (fun o => (o.1, o.2.1)) = N.map (fun x => (x.2.1, x.1)) → (keepO who L).map (fun o => (o.1, o.2.1)) = (keep who N).map (fun x => (x.2.1, x.1))
  | [], [], _ => rfl
  | [], _ :: _, h => by cases h
  | _ :: _, [], h => by cases h
  | o :: L, x :: N, h => by
    rw [List.map_cons, List.map_cons] at h
    injection h with h1 h2
    have ih := filter_map2 (who := who) L N h2
    injection h1 with e1 e2
    unfold keepO keep at ih ⊢
    rw [List.filter_cons, List.filter_cons, e1]
    by_cases hw : x.2.1 = who
    · rw [if_neg (by simpa using hw), if_neg (by simpa using hw)]; exact ih
    · rw [if_pos (by simpa using hw), if_pos (by simpa using hw), List.map_cons, List.map_cons, ih, e1, e2]

theorem Rel.drop {S : List Th} {L : List On} {c : Int} (h : Rel S L c) (who : Int) : Rel (keep who S) (keepO who L) c := by
  obtain ⟨N, h1, h2, h3⟩ := h.ex
  exact ⟨⟨keep who N, h1.filter _, h2.sublist List.filter_sublist, filter_map2 _ _ h3⟩, h.since.sublist List.filter_sublist, fun o ho => h.below o (List.mem_filter.1 ho).1⟩

theorem keep_tail {S t : List Th} {x : Th} (e : S = x :: t) (hn : (S.map (fun x => x.2.1)).Nodup) : keep x.2.1 S = t := by
  subst e
  rw [List.map_cons, List.nodup_cons] at hn
  unfold keep
  rw [List.filter_cons, if_neg (by simp)]
  refine List.filter_eq_self.2 fun y hy => ?_
  simp only [decide_eq_true_eq]
  exact fun e => hn.1 (List.mem_map.2 ⟨y, hy, e⟩)

theorem Rel.add {S : List Th} {L : List On} {c : Int} (h : Rel S L c) (who at_ n : Int) (hn : ∀ x ∈ S, x.2.2 < n) : Rel (ins (at_, who, n) S) (L ++ [(who, at_, c + 1)]) (c + 1) := by
  obtain ⟨N, h1, h2, h3⟩ := h.ex
  refine ⟨⟨N ++ [(at_, who, n)], ?_, ?_, ?_⟩, ?_, ?_⟩
  · exact ((List.perm_append_singleton _ N).trans (h1.cons _)).trans (ins_perm _ S).symm
  · rw [List.pairwise_append]
    refine ⟨h2, List.pairwise_singleton _ _, fun a ha b hb => ?_⟩
    rw [List.mem_singleton.1 hb]
    exact hn a (h1.mem_iff.1 ha)
  · rw [List.map_append, List.map_append, h3]; rfl
  · rw [List.pairwise_append]
    refine ⟨h.since, List.pairwise_singleton _ _, fun a ha b hb => ?_⟩
    rw [List.mem_singleton.1 hb]
    have := h.below a ha
    show a.2.2 < c + 1
    omega
  · intro o ho
    rcases List.mem_append.1 ho with ho | ho
    · have := h.below o ho; omega
    · rw [List.mem_singleton.1 ho]; exact Int.le_refl _

theorem Rel.skip {S : List Th} {L : List On} {c : Int} (h : Rel S L c) : Rel S L (c + 1) := ⟨h.ex, h.since, fun o ho => by have := h.below o ho; omega⟩

/-- A schedule, and the document's: its paces, who is due, the tick, how many turns were given out. -/
structure Dc where
  P : List Int
  L : List On
  T : Int
  c : Int

def due (d : Dc) (i : Nat) : Dc := if 0 < pace d.P i then { d with c := d.c + 1, L := d.L ++ [((i : Int), d.T + pace d.P i, d.c + 1)] } else { d with c := d.c + 1 }
def dropD (d : Dc) (i : Nat) : Dc := { d with L := keepO (i : Int) d.L }
def nextD (d : Dc) (i : Nat) (t : Int) : Dc := due { dropD d i with T := t } i
def setD (d : Dc) (i : Nat) (p : Int) : Dc := due { dropD d i with P := d.P.set i (bnd p) } i
def pushD (d : Dc) (p : Int) : Dc := due { d with P := d.P ++ [bnd p] } d.P.length
def dc0 : Dc := ⟨[], [], 0, 0⟩
def madeD (l : List Int) : Dc := l.foldl pushD dc0

structure Like (a : Ab) (d : Dc) : Prop where
  P : d.P = a.P
  T : d.T = a.T
  rel : Rel a.S d.L d.c

theorem Like.await {a : Ab} {d : Dc} (h : Like a d) (i : Nat) (hn : ∀ x ∈ a.S, x.2.2 < a.n) : Like (await a i) (due d i) := by
  obtain ⟨P, L, T, c⟩ := d
  obtain ⟨h1, h2, h3⟩ := h
  dsimp only at h1 h2 h3
  subst h1 h2
  unfold sch.await due
  by_cases h0 : 0 < pace a.P i
  · rw [if_pos h0, if_pos h0]
    exact ⟨rfl, rfl, h3.add _ _ _ hn⟩
  · rw [if_neg h0, if_neg h0]
    exact ⟨rfl, rfl, h3.skip⟩

theorem Like.next {k : Int} {a : Ab} {d : Dc} {x : Th} {t : List Th} {i : Nat} (h : Like a d) (hI : Inv k a.P.length a) (e : a.S = x :: t) (hi : x.2.1 = (i : Int)) : Like (next a x t i) (nextD d i x.1) := by
  refine Like.await (a := took a x t) (d := { dropD d i with T := x.1 }) ⟨h.P, rfl, ?_⟩ i fun y hy => hI.nums y (by rw [e]; exact List.mem_cons_of_mem _ hy)
  have := h.rel.drop x.2.1
  rw [keep_tail e hI.one, hi] at this
  exact this

theorem Like.setP {k : Int} {a : Ab} {d : Dc} (h : Like a d) (hI : Inv k a.P.length a) (i : Nat) (p : Int) : Like (setP a i p) (setD d i p) := by
  refine Like.await (a := dropped a i p) (d := { dropD d i with P := d.P.set i (bnd p) }) ⟨?_, h.T, h.rel.drop i⟩ i fun y hy => hI.nums y (keep_mem.1 hy).1
  show d.P.set i _ = a.P.set i _
  rw [h.P]

theorem Like.push {k : Int} {a : Ab} {d : Dc} (h : Like a d) (hI : Inv k a.P.length a) (p : Int) : Like (push a p) (pushD d p) := by
  have := Like.await (a := pushed a p) (d := { d with P := d.P ++ [bnd p] }) ⟨by show d.P ++ _ = a.P ++ _; rw [h.P], h.T, h.rel⟩ a.P.length hI.nums
  unfold pushD
  rw [h.P] at this ⊢
  exact this

theorem like_from : ∀ (l : List Int) (a : Ab) (d : Dc) (k : Int), Like a d → Inv k a.P.length a → a.P.length + l.length ≤ 10 → Like (l.foldl push a) (l.foldl pushD d)
  | [], _, _, _, h, _, _ => h
  | p :: l, a, d, k, h, hI, hl => by
    rw [List.length_cons] at hl
    obtain ⟨k1, k2, _⟩ := hI.push p (by omega)
    exact like_from l (push a p) (pushD d p) (k + 1) (h.push hI p) k1 (by rw [k2, List.length_append, List.length_singleton]; omega)
theorem like_made (l : List Int) (h : l.length ≤ 10) : Like (made l) (madeD l) := like_from l ab0 dc0 0 ⟨rfl, rfl, Rel.empty⟩ inv0 (by simpa [ab0] using h)

/-- Behind a call of Next on both, nobody is due. -/
theorem Like.none {a : Ab} {d : Dc} (h : Like a d) : a.S = [] ↔ d.L = [] := by
  have := h.rel.len
  constructor
  · intro e; rw [e] at this; exact List.eq_nil_of_length_eq_zero this
  · intro e; rw [e] at this; exact List.eq_nil_of_length_eq_zero this.symm
end Go.Proofs.Ytbpnbnbglfiglaa.sch
