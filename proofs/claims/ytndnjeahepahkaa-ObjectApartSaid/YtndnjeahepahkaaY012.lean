/- Texts laid into one: ObjL, Row, ObjM, Late. -/
import Derived.Test.YtndnjeahepahkaaY010
import Derived.Test.YtndnjeahepahkaaY003
import Derived.Test.YtndnjeahepahkaaY004
section
/- object: two ops that touch nothing in common may change places: the mathematics. -/
namespace Go.Proofs.Ytndnjeahepahkaa.object
open Go.RowKit Go.Maps Go.Sort

section
variable {H : Type}
/-- What may be done behind an op that touches nothing in common might have been done ahead of it. -/
theorem led_pre {D : DataW H} (I : InvF D) (hz : Maps.size D ≤ 15) {k n k' n' : Int} {s t s' t' : ByteArray} (ha : Apart2 s t s' t') (h : (doL D k s t n).2 = 0) (h' : (doL (doL D k s t n).1 k' s' t' n').2 = 0) :
    (doL D k' s' t' n').2 = 0 := by
  have he := do_eff I.inv.tidy.isMap h
  have ho := do_ok.1 h
  have ho' := do_ok.1 h'
  have k1 : (k = 1 ∨ k = 2) → s ≠ .empty := fun e => empty_list (chk_open e ho.chk).1
  have i1 : ∀ x, (x = s → x = .empty) → isIn (doL D k s t n).1 x = isIn D x := fun x hx => by
    rw [(he x).1]
    unfold isInD
    split
    · rename_i h1; exact absurd (h1.2 ▸ hx h1.2) (k1 (.inl h1.1))
    · split
      · rename_i h1; exact absurd (h1.2 ▸ hx h1.2) (k1 (.inr h1.1))
      · rfl
  have a1 : ∀ x, x ≠ .empty → (x = s → x = .empty) → (x = t → x = .empty) → amt (doL D k s t n).1 x = amt D x := fun x h0 hx hy => by
    rw [(he x).2]
    unfold dlt
    rw [if_neg (fun e => h0 (hy e)), if_neg (fun e => h0 (hx e))]
    split <;> omega
  have b1 : s' = s → s' = .empty := fun e => by rw [e]; exact ha.1 e.symm
  have b2 : s' = t → s' = .empty := fun e => by rw [e]; exact ha.2.2.1 e.symm
  have b3 : t' = s → t' = .empty := fun e => by rw [e]; exact ha.2.1 e.symm
  have b4 : t' = t → t' = .empty := fun e => by rw [e]; exact ha.2.2.2 e.symm
  rw [do_ok]
  refine ⟨ho'.chk, fun e => ?_, fun e => ?_, fun e => ?_⟩
  · have := ho'.one e
    rw [i1 s' b1] at this
    exact ⟨this.1, by omega⟩
  · have h0 : s' ≠ .empty := empty_list (chk_open (.inr e) ho'.chk).1
    have := ho'.two e
    rwa [i1 s' b1, a1 s' h0 b1 b2] at this
  · obtain ⟨c1, c2, c3, c4⟩ := ho'.three e
    rw [i1 s' b1] at c1
    rw [i1 t' b3] at c2
    exact ⟨c1, c2, fun h0 => by have := c3 h0; rwa [a1 s' h0 b1 b2] at this, fun h0 => by have := c4 h0; rwa [a1 t' h0 b3 b4] at this⟩

/-- Goods of unlike names: what each needs of the other. -/
theorem sto_pre {D : DataW H} (I : stock.InvS D) (hz : Maps.size D ≤ 14) {k n k' n' : Int} {s s' : ByteArray} (ha : s ≠ s') (h : (stock.doS D k s n).2 = 0) : (stock.doS (stock.doS D k s n).1 k' s' n').2 = 0 ↔ (stock.doS D k' s' n').2 = 0 := by
  have hs := (stock.doS_inv I k n s)
  have hm := stock.doS_amt I h s'
  have hd : stock.dltS k s n s' = 0 := if_neg (fun e => ha e.symm)
  rw [hd, Int.add_zero] at hm
  rw [stock.doS_ok I, stock.doS_ok hs.1]
  constructor
  · intro o
    exact ⟨o.chk, fun e => ⟨fun _ => by omega, by rw [← hm]; exact (o.one e).2⟩, fun e => by rw [← hm]; exact o.two e⟩
  · intro o
    exact ⟨o.chk, fun e => ⟨fun _ => by omega, by rw [hm]; exact (o.one e).2⟩, fun e => by rw [hm]; exact o.two e⟩
theorem sto_same {D : DataW H} (I : stock.InvS D) (hz : Maps.size D ≤ 14) {k n k' n' : Int} {s s' : ByteArray} (ha : s ≠ s') (h : (stock.doS D k s n).2 = 0) (h' : (stock.doS D k' s' n').2 = 0) :
    Alike (stock.doS (stock.doS D k s n).1 k' s' n').1 (stock.doS (stock.doS D k' s' n').1 k s n).1 := by
  have I1 := (stock.doS_inv I k n s).1
  have I2 := (stock.doS_inv I k' n' s').1
  have c1 := (sto_pre I hz ha h).2 h'
  have c2 := (sto_pre I hz (fun e => ha e.symm) h').2 h
  refine stock.alike_of (stock.doS_inv I1 _ _ _).1 (stock.doS_inv I2 _ _ _).1 fun x => ?_
  rw [stock.doS_amt I1 c1, stock.doS_amt I2 c2, stock.doS_amt I h, stock.doS_amt I h']
  omega
end

/-- Two ops of one kind that touch no name in common. -/
def apB (a b : OpO) : Bool := if a.k ≠ b.k then false else if a.k = 2 then decide (∀ x ∈ tch a.l.s a.l.t, x ∉ tch b.l.s b.l.t) else if a.k = 3 then decide (a.s.s ≠ b.s.s) else false

theorem mem_tch {s t : ByteArray} {x : List UInt8} : x ∈ tch s t ↔ x ≠ [] ∧ (x = s.data.toList ∨ x = t.data.toList) := by
  unfold tch nb
  rw [List.mem_filter]
  simp only [List.mem_cons, List.not_mem_nil, or_false]
  constructor
  · rintro ⟨h1, h2⟩
    exact ⟨fun e => by rw [e] at h2; simp at h2, h1⟩
  · rintro ⟨h1, h2⟩
    exact ⟨h2, by cases x with
      | nil => exact absurd rfl h1
      | cons _ _ => rfl⟩
theorem data_eq {s t : ByteArray} : s.data.toList = t.data.toList ↔ s = t := ⟨fun h => ByteArray.ext (Array.toList_inj.1 h), fun h => by rw [h]⟩
theorem data_nil {s : ByteArray} : s.data.toList = [] ↔ s = .empty := by
  constructor
  · intro h
    exact ByteArray.ext (Array.toList_inj.1 (by rw [h]; rfl))
  · intro h
    rw [h]
    rfl
theorem tch_apart {s t s' t' : ByteArray} : (∀ x ∈ tch s t, x ∉ tch s' t') ↔ Apart2 s t s' t' := by
  constructor
  · intro h
    have key : ∀ u v : ByteArray, (u = s ∨ u = t) → (v = s' ∨ v = t') → u = v → u = .empty := fun u v hu hv e => by
      refine Classical.byContradiction fun hn => ?_
      have h0 : u.data.toList ≠ [] := fun k => hn (data_nil.1 k)
      exact h u.data.toList (mem_tch.2 ⟨h0, hu.elim (fun k => .inl (by rw [k])) (fun k => .inr (by rw [k]))⟩) (mem_tch.2 ⟨h0, hv.elim (fun k => .inl (by rw [e, k])) (fun k => .inr (by rw [e, k]))⟩)
    exact ⟨key s s' (.inl rfl) (.inl rfl), key s t' (.inl rfl) (.inr rfl), key t s' (.inr rfl) (.inl rfl), key t t' (.inr rfl) (.inr rfl)⟩
  · rintro ⟨h1, h2, h3, h4⟩ x hx hx'
    obtain ⟨h0, hx⟩ := mem_tch.1 hx
    obtain ⟨_, hx'⟩ := mem_tch.1 hx'
    rcases hx with rfl | rfl
    · rcases hx' with e | e
      · exact h0 (data_nil.2 (h1 (data_eq.1 e)))
      · exact h0 (data_nil.2 (h2 (data_eq.1 e)))
    · rcases hx' with e | e
      · exact h0 (data_nil.2 (h3 (data_eq.1 e)))
      · exact h0 (data_nil.2 (h4 (data_eq.1 e)))

theorem apB_symm (a b : OpO) : apB a b = apB b a := by
  unfold apB
  by_cases hk : a.k = b.k
  · rw [hk]
    have hn : ¬ (b.k ≠ b.k) := fun e => e rfl
    rw [if_neg hn, if_neg hn]
    by_cases h2 : b.k = 2
    · rw [if_pos h2, if_pos h2]
      congr 1
      rw [tch_apart, tch_apart]
      exact propext ⟨Apart2.symm, Apart2.symm⟩
    · rw [if_neg h2, if_neg h2]
      by_cases h3 : b.k = 3
      · rw [if_pos h3, if_pos h3]
        congr 1
        exact propext ⟨fun h e => h e.symm, fun h e => h e.symm⟩
      · rw [if_neg h3, if_neg h3]
  · rw [if_pos hk, if_pos (fun e => hk e.symm)]

/-- How many names an object has, at most so many. -/
def Ob.few (n : Nat) : Ob → Prop
  | .doc _ => True
  | .led D => Maps.size D ≤ n + 1
  | .sto D => Maps.size D ≤ n
theorem few_act {x : Ob} {o : OpO} {n : Nat} {w : World} {v : Value} {lo hi : Nat} (h : St w v lo hi x) (hf : x.few n) : (x.act o).1.few (n + 1) := by
  by_cases hk : o.k = x.kd
  · rw [show x.act o = x.did o from if_pos hk]
    cases x with
    | doc s => trivial
    | led D =>
      obtain ⟨d, m, _, _, _, _, _, _, I⟩ := h
      have hf' : Maps.size D ≤ n + 1 := hf
      show Maps.size (doO D o.l).1 ≤ n + 1 + 1
      by_cases h0 : (doO D o.l).2 = 0
      · have := do_size I.inv.tidy (k := o.l.k) (s := o.l.s) (t := o.l.t) (n := o.l.n) h0
        unfold doO
        omega
      · rw [doO_not h0]; omega
    | sto D =>
      obtain ⟨d, m, _, _, _, _, _, _, I⟩ := h
      have hf' : Maps.size D ≤ n := hf
      show Maps.size (stock.doO D o.s).1 ≤ n + 1
      have := stock.size_doO I o.s
      omega
  · rw [show x.act o = (x, 5, ⟨#[]⟩) from if_neg hk]
    cases x with
    | doc s => trivial
    | led D => exact Nat.le_succ_of_le hf
    | sto D => exact Nat.le_succ_of_le hf

/-- APART: in either order. -/
theorem act_apart {x y z : Ob} {a b : OpO} {w1 w2 w3 : World} {v1 v2 v3 : Value} {l1 h1 l2 h2 l3 h3 : Nat} (hx : St w1 v1 l1 h1 x) (hy : St w2 v2 l2 h2 y) (hz : St w3 v3 l3 h3 z) (hf : x.few 14) (hly : y.Like x) (hlz : z.Like x)
    (hap : apB a b = true) (ha : (y.act a).2.1 = 0) (hb : ((y.act a).1.act b).2.1 = 0) :
    (z.act b).2.1 = 0 ∧ ((z.act b).1.act a).2.1 = 0 ∧ ((y.act a).1.act b).1.save = ((z.act b).1.act a).1.save := by
  have hka := (act_ok hy ha).2
  unfold apB at hap
  by_cases hk : a.k = b.k
  · rw [if_neg (by simpa using hk)] at hap
    cases x with
    | doc s =>
      cases y with
      | doc s' =>
        have : a.k = 1 := hka
        rw [if_neg (by omega), if_neg (by omega)] at hap
        cases hap
      | led D => exact hly.elim
      | sto D => exact hly.elim
    | led D =>
      cases y with
      | led Dy =>
        cases z with
        | led Dz =>
          have ka : a.k = 2 := hka
          have kb : b.k = 2 := by omega
          rw [if_pos ka] at hap
          have hap2 := tch_apart.1 (of_decide_eq_true hap)
          have hsz : Maps.size D ≤ 15 := hf
          obtain ⟨d, m, _, _, _, _, _, _, Iy⟩ := hy
          obtain ⟨d, m, _, _, _, _, _, _, Iz⟩ := hz
          have aly : Alike Dy D := hly
          have alz : Alike Dz D := hlz
          have e1 : ∀ (E : DataW Unit), (Ob.led E).act a = (Ob.led E).did a := fun E => if_pos ka
          have e2 : ∀ (E : DataW Unit), (Ob.led E).act b = (Ob.led E).did b := fun E => if_pos kb
          rw [e1] at ha
          rw [e1, show (Ob.did (.led Dy) a).1 = .led (doO Dy a.l).1 from rfl, e2] at hb
          rw [e1, e2, show (Ob.did (.led Dy) a).1 = .led (doO Dy a.l).1 from rfl, show (Ob.did (.led Dz) b).1 = .led (doO Dz b.l).1 from rfl, e1, e2]
          have hb0 : (doO Dy b.l).2 = 0 := led_pre Iy (by rw [aly.size]; exact hsz) hap2 ha hb
          have alyz := aly.trans alz.symm
          have hbz : (doO Dz b.l).2 = 0 := (doO_alike alyz b.l).1.1 hb0
          have haz : (doO Dz a.l).2 = 0 := (doO_alike alyz a.l).1.1 ha
          have hsz2 : Maps.size Dz ≤ 15 := by rw [alz.size]; exact hsz
          refine ⟨hbz, apart_ok Iz hsz2 hap2.symm hbz haz, ?_⟩
          have s1 := (doO_alike (doO_alike alyz a.l).2 b.l).2
          have s2 := apart_same Iz hsz2 hap2 haz hbz
          exact Alike.saveB (s1.trans s2)
        | doc s => exact hlz.elim
        | sto D => exact hlz.elim
      | doc s => exact hly.elim
      | sto D => exact hly.elim
    | sto D =>
      cases y with
      | sto Dy =>
        cases z with
        | sto Dz =>
          have ka : a.k = 3 := hka
          have kb : b.k = 3 := by omega
          rw [if_neg (by omega), if_pos ka] at hap
          have hap2 : a.s.s ≠ b.s.s := of_decide_eq_true hap
          have hsz : Maps.size D ≤ 14 := hf
          obtain ⟨d, m, _, _, _, _, _, _, Iy⟩ := hy
          obtain ⟨d, m, _, _, _, _, _, _, Iz⟩ := hz
          have aly : Alike Dy D := hly
          have alz : Alike Dz D := hlz
          have e1 : ∀ (E : DataW Unit), (Ob.sto E).act a = (Ob.sto E).did a := fun E => if_pos ka
          have e2 : ∀ (E : DataW Unit), (Ob.sto E).act b = (Ob.sto E).did b := fun E => if_pos kb
          rw [e1] at ha
          rw [e1, show (Ob.did (.sto Dy) a).1 = .sto (stock.doO Dy a.s).1 from rfl, e2] at hb
          rw [e1, e2, show (Ob.did (.sto Dy) a).1 = .sto (stock.doO Dy a.s).1 from rfl, show (Ob.did (.sto Dz) b).1 = .sto (stock.doO Dz b.s).1 from rfl, e1, e2]
          have hb0 : (stock.doO Dy b.s).2 = 0 := (sto_pre Iy (by rw [aly.size]; exact hsz) hap2 ha).1 hb
          have alyz := aly.trans alz.symm
          have hbz : (stock.doO Dz b.s).2 = 0 := (stock.doO_alike alyz Iz b.s).1.1 hb0
          have haz : (stock.doO Dz a.s).2 = 0 := (stock.doO_alike alyz Iz a.s).1.1 ha
          have hsz2 : Maps.size Dz ≤ 14 := by rw [alz.size]; exact hsz
          refine ⟨hbz, (sto_pre Iz hsz2 (fun e => hap2 e.symm) hbz).2 haz, ?_⟩
          have s1 := (stock.doO_alike (stock.doO_alike alyz Iz a.s).2 (stock.invS_doO Iz _) b.s).2
          have s2 := sto_same Iz hsz2 hap2 haz hbz
          exact Alike.saveB (s1.trans s2)
        | doc s => exact hlz.elim
        | led D => exact hlz.elim
      | doc s => exact hly.elim
      | led D => exact hly.elim
  · rw [if_pos hk] at hap
    cases hap
end Go.Proofs.Ytndnjeahepahkaa.object
end

section
/- Slices that lie anywhere in a block of their own (also behind what was cut off ahead of them): what keeps them, what stands in them, append. Of no program. -/
namespace Go.Proofs.Ytndnjeahepahkaa
open Go.RowKit

/-- The value v is a slice of n elements, each of size cells, of type e; in them stands xs. -/
def Seg (w : World) (e : TypeId) (size : Nat) (v : Value) (n : Nat) (xs : List Value) : Prop :=
  xs.length = n * size ∧ ((v = .slice none 0 0 ∧ n = 0) ∨ ∃ g off cap cur, v = .slice (some ⟨g, off, none⟩) n cap ∧ w.heap[g]? = some (.cells cur e (0, 0)) ∧ n ≤ cap ∧ cap ≤ maxLen ∧ off + cap * size ≤ cur.size ∧ (cur.toList.drop off).take (n * size) = xs)

section
variable {w w' : World} {e : TypeId} {size n : Nat} {v : Value} {xs : List Value}

theorem Seg.nil (w : World) (e : TypeId) (size : Nat) : Seg w e size (.slice none 0 0) 0 [] := ⟨by simp, .inl ⟨rfl, rfl⟩⟩

theorem Seg.of_own {base : Nat} (h : w.ownsRow base e size v n xs) : Seg w e size v n xs := by
  refine ⟨h.1, ?_⟩
  rcases h.2 with k | ⟨g, cap, cur, e1, _, e3, e4, e5, e6, e7⟩
  · exact .inl k
  · exact .inr ⟨g, 0, cap, cur, e1, e3, e4, e5, by rw [e6]; omega, by simpa using e7⟩

theorem Seg.lt {b : Nat} (h : Seg w e size v n xs) (hb : v.ownBlock = some b) : b < w.heap.size := by
  rcases h.2 with ⟨rfl, _⟩ | ⟨g, off, cap, cur, rfl, hg, _⟩
  · cases hb
  · injection hb with hb
    subst hb
    rcases Nat.lt_or_ge g w.heap.size with k | k
    · exact k
    · rw [Array.getElem?_eq_none k] at hg; cases hg

theorem Seg.keep (h : Seg w e size v n xs) (k : ∀ b, v.ownBlock = some b → w'.heap[b]? = w.heap[b]?) : Seg w' e size v n xs := by
  refine ⟨h.1, ?_⟩
  rcases h.2 with h2 | ⟨g, off, cap, cur, e1, e2, e3⟩
  · exact .inl h2
  · exact .inr ⟨g, off, cap, cur, e1, (k g (by rw [e1]; rfl)).trans e2, e3⟩

theorem Seg.turn {F : Nat → Prop} (h : Seg w e size v n xs) (t : Turn F w w') (hr : ∀ b, v.ownBlock = some b → ¬ F b) : Seg w' e size v n xs :=
  h.keep fun b hb => t.block b (h.lt hb) (hr b hb)

theorem Seg.below {B : Nat} (h : Seg w e size v n xs) (t : Below B w w') (hB : ∀ b, v.ownBlock = some b → b < B) : Seg w' e size v n xs :=
  h.keep fun b hb => t.block b (hB b hb)

theorem Seg.drew (h : Seg w e size v n xs) : Seg w.drew e size v n xs := h
theorem Seg.alloc (h : Seg w e size v n xs) (o : Obj) : Seg (w.alloc o) e size v n xs := h.keep fun b hb => Below.heap_alloc w o b (h.lt hb)

theorem Seg.ne {b : Nat} {t : TypeId} {cs : Array Value} (h : Seg w e size v n xs) (hb : Has w b t cs) (hne : e ≠ t) : v.ownBlock ≠ some b := by
  rcases h.2 with ⟨rfl, _⟩ | ⟨g, off, cap, cur, rfl, hg, _⟩
  · intro k; cases k
  · intro k
    injection k with k
    obtain rfl : g = b := k
    have hg' : Has w g e cur := hg
    exact hne (hg'.uniq hb).2

theorem Seg.apart {e' : TypeId} {size' n' : Nat} {v' : Value} {xs' : List Value} (h : Seg w e size v n xs) (h' : Seg w e' size' v' n' xs') (hne : e ≠ e') : ∀ b, v.ownBlock = some b → v'.ownBlock ≠ some b := by
  intro b hb
  rcases h.2 with ⟨rfl, _⟩ | ⟨g, off, cap, cur, rfl, hg, _⟩
  · cases hb
  · injection hb with hb
    obtain rfl : g = b := hb
    have hg' : Has w g e cur := hg
    exact h'.ne hg' (fun k => hne k.symm)

/-- What stands in it. -/
theorem Seg.cells (h : Seg w e size v n xs) (hn : 0 < n) : ∃ g off c, v = .slice (some ⟨g, off, none⟩) n c ∧ g < w.heap.size ∧ n ≤ c ∧ c ≤ maxLen ∧ ∀ j u, xs[j]? = some u → w.cell? ⟨g, off + j, none⟩ = some u := by
  rcases h.2 with ⟨_, h0⟩ | ⟨g, off, cap, cur, rfl, hg, hc1, hc2, _, hx⟩
  · omega
  · refine ⟨g, off, cap, rfl, h.lt rfl, hc1, hc2, fun j u hj => ?_⟩
    have hg' : Has w g e cur := hg
    rw [hg'.cell, ← Array.getElem?_toList]
    have hjl : j < xs.length := by
      rcases Nat.lt_or_ge j xs.length with k | k
      · exact k
      · rw [List.getElem?_eq_none k] at hj; cases hj
    have hl : xs.length ≤ n * size := by rw [h.1]; exact Nat.le_refl _
    rw [← hx, List.getElem?_take_of_lt (by omega), List.getElem?_drop] at hj
    exact hj

theorem Seg.slice (h : Seg w e size v n xs) : ∃ a c, v = .slice a n c ∧ n ≤ c ∧ c ≤ maxLen := by
  rcases h.2 with ⟨h1, h2⟩ | ⟨g, off, cap, cur, rfl, hg, hc1, hc2, _⟩
  · exact ⟨none, 0, by rw [h1, h2], by omega, by unfold maxLen; omega⟩
  · exact ⟨_, _, rfl, hc1, hc2⟩

/-- What is behind the first k. -/
theorem Seg.behind {g off c : Nat} (h : Seg w e size (.slice (some ⟨g, off, none⟩) n c) n xs) (k : Nat) (hk : k ≤ n) : Seg w e size (.slice (some ⟨g, off + k * size, none⟩) (n - k) (c - k)) (n - k) (xs.drop (k * size)) := by
  rcases h.2 with ⟨h1, _⟩ | ⟨g', off', cap, cur, h1, hg, hc1, hc2, hc3, hx⟩
  · cases h1
  · simp only [Value.slice.injEq, Option.some.injEq, Addr.mk.injEq, and_true, true_and] at h1
    obtain ⟨⟨rfl, rfl⟩, rfl⟩ := h1
    refine ⟨by rw [List.length_drop, h.1, Nat.sub_mul], .inr ⟨g, _, c - k, cur, rfl, hg, by omega, by omega, ?_, ?_⟩⟩
    · have : k * size + (c - k) * size = c * size := by rw [← Nat.add_mul, Nat.add_sub_cancel' (by omega)]
      omega
    · rw [← hx, List.drop_take, List.drop_drop, Nat.sub_mul]

/-- A cell of it is written. -/
theorem Seg.put {g off c : Nat} (h : Seg w e size (.slice (some ⟨g, off, none⟩) n c) n xs) (j : Nat) (u : Value) : Seg (w.setCell ⟨g, off + j, none⟩ u) e size (.slice (some ⟨g, off, none⟩) n c) n (xs.set j u) := by
  rcases h.2 with ⟨h1, _⟩ | ⟨g', off', cap, cur, h1, hg, hc1, hc2, hc3, hx⟩
  · cases h1
  · simp only [Value.slice.injEq, Option.some.injEq, Addr.mk.injEq, and_true, true_and] at h1
    obtain ⟨⟨rfl, rfl⟩, rfl⟩ := h1
    have hg' : Has w g e cur := hg
    refine ⟨by rw [List.length_set, h.1], .inr ⟨g, off, c, _, rfl, hg'.put (off + j) u, hc1, hc2, by simpa using hc3, ?_⟩⟩
    rw [Array.toList_setIfInBounds, ← hx, List.drop_set, if_neg (by omega), Nat.add_sub_cancel_left, List.take_set]

theorem Seg.free {g off c : Nat} (h : Seg w e size (.slice (some ⟨g, off, none⟩) n c) n xs) (j : Nat) : w.frozen? ⟨g, j, none⟩ = false := by
  rcases h.2 with ⟨h1, _⟩ | ⟨g', off', cap, cur, h1, hg, _⟩
  · cases h1
  · simp only [Value.slice.injEq, Option.some.injEq, Addr.mk.injEq, and_true, true_and] at h1
    obtain ⟨⟨rfl, rfl⟩, rfl⟩ := h1
    have hg' : Has w g e cur := hg
    exact hg'.free j
end

section
variable {P : Program} (w : World)

theorem run_append_roomy (t ty e : TypeId) (i : TypeInfo) (ht : P.underlying t = some (.slice e)) (hi : P.info? e = some i)
    (g off sLen sCap : Nat) (cur : Array Value) (hg : w.heap[g]? = some (.cells cur e (0, 0)))
    (a : Addr) (m c : Nat) (news : List Value) (hl : news.length = m * i.size) (hnews : ∀ j u, news[j]? = some u → w.cell? (a.add j) = some u) (h1 : ∀ u ∈ news, u.oneCell' = true)
    (hroom : sLen + m ≤ sCap) (hfit : off + sLen * i.size + news.length ≤ cur.size) :
    (Builtin.append_ #[t, t] ty #[.slice (some ⟨g, off, none⟩) sLen sCap, .slice (some a) m c]).run P w =
      .ok (.slice (some ⟨g, off, none⟩) (sLen + m) sCap) (w.setRow g (cur.toList.take (off + sLen * i.size) ++ news ++ cur.toList.drop (off + sLen * i.size + news.length)).toArray) := by
  have hf := run_firstCells_some (P := P) w i.size m a m c news hl hnews
  have hst := run_storeCells_at P g (off + sLen * i.size) e news 0 cur w hg (by simpa using hfit) h1
  simp only [Nat.add_zero] at hst
  have ha : (⟨g, off, none⟩ : Addr).add (sLen * i.size) = ⟨g, off + sLen * i.size, none⟩ := by unfold Addr.add; split <;> simp_all
  simp [Builtin.append_, run_underlying ht, sizeOf, typeInfo, hi, Builtin.lenOf, hroom, hf, ha, hst]

theorem run_append_seg (t ty : TypeId) (e : TypeId) (i : TypeInfo) (z : Value) (size bytes : Nat) (ht : P.underlying t = some (.slice e)) (hi : P.info? e = some i) (hz : i.zero = some z)
    (hsize : i.size = size) (hby : i.bytes = bytes) (hzs : z.cells.size = size) (hsz : 0 < size)
    (v : Value) (n : Nat) (xs : List Value) (hown : Seg w e size v n xs)
    (a : Addr) (m c : Nat) (news : List Value) (hl : news.length = m * size) (hnews : ∀ j u, news[j]? = some u → w.cell? (a.add j) = some u) (h1 : ∀ u ∈ news, u.oneCell' = true)
    (hm : 0 < m) (h63 : n + m ≤ maxLen) (hbytes : (n + m) * bytes ≤ 140737488355328) (H : Nat) (hH : w.heap.size = H) :
    ∃ g off cap w', (Builtin.append_ #[t, t] ty #[v, .slice (some a) m c]).run P w = .ok (.slice (some ⟨g, off, none⟩) (n + m) cap) w' ∧
      Seg w' e size (.slice (some ⟨g, off, none⟩) (n + m) cap) (n + m) (xs ++ news) ∧ w.grownBy w' v.ownBlock ∧ (v.ownBlock = some g ∨ g = H) ∧ g < w'.heap.size := by
  subst hsize
  subst hby
  have hlen : (xs ++ news).length = (n + m) * i.size := by rw [List.length_append, hown.1, hl, Nat.add_mul]
  have hsmall : n + m ≤ 9223372036854775807 := by simp only [maxLen] at h63; omega
  rcases hown.2 with ⟨rfl, rfl⟩ | ⟨g, off, cap, cur, rfl, hg, hnc, hcm, hcs, htake⟩
  · obtain ⟨g, cap, w', hr, h2, h3, h4, h5⟩ := run_append_lies (P := P) w t ty 0 e i z i.size i.bytes ht hi hz rfl rfl hzs hsz (.slice none 0 0) 0 xs ⟨hown.1, .inl ⟨rfl, rfl⟩⟩ a m c news hl hnews h1 hm h63 hbytes (Nat.zero_le _) H hH
    exact ⟨g, 0, cap, w', hr, .of_own h2, h3, h4, h5⟩
  · by_cases hroom : n + m ≤ cap
    · have hfit : off + n * i.size + news.length ≤ cur.size := by
        have h2 : (n + m) * i.size ≤ cap * i.size := Nat.mul_le_mul_right _ hroom
        rw [Nat.add_mul] at h2
        rw [hl]
        omega
      have hr := run_append_roomy (P := P) w t ty e i ht hi g off n cap cur hg a m c news hl hnews h1 hroom hfit
      have hgl : g < w.heap.size := hown.lt rfl
      refine ⟨g, off, cap, _, hr, ⟨hlen, .inr ⟨g, off, cap, _, rfl, setRow_heap w g cur _ e _ hg, hroom, hcm, ?_, ?_⟩⟩, ⟨rfl, rfl, rfl, by simp, fun k _ hk => setRow_other w g k _ (fun e => hk (by simp [Value.ownBlock, e]))⟩, .inl rfl, by simpa [World.setRow] using hgl⟩
      · simp only [List.size_toArray, List.length_append, List.length_take, List.length_drop, Array.length_toList]
        omega
      · have h3 : (cur.toList.take (off + n * i.size)).drop off = xs := by rw [List.drop_take, ← htake]; congr 1; omega
        have h4 : off ≤ (cur.toList.take (off + n * i.size)).length := by simp only [List.length_take, Array.length_toList]; omega
        show (List.drop off (cur.toList.take (off + n * i.size) ++ news ++ cur.toList.drop (off + n * i.size + news.length))).take _ = _
        rw [List.append_assoc, List.drop_append_of_le_length h4, h3, ← List.append_assoc, ← hlen]
        exact List.take_left
    · have holds : ∀ j u, xs[j]? = some u → w.cell? ((⟨g, off, none⟩ : Addr).add j) = some u := by
        intro j u hj
        by_cases hn : 0 < n
        · obtain ⟨g', off', c', hv, _, _, _, hc⟩ := hown.cells hn
          simp only [Value.slice.injEq, Option.some.injEq, Addr.mk.injEq, and_true, true_and] at hv
          obtain ⟨⟨rfl, rfl⟩, rfl⟩ := hv
          have ha : (⟨g, off, none⟩ : Addr).add j = ⟨g, off + j, none⟩ := by unfold Addr.add; split <;> simp_all
          rw [ha]
          exact hc j u hj
        · obtain rfl : n = 0 := by omega
          have hx : xs = [] := List.eq_nil_of_length_eq_zero (by simpa using hown.1)
          rw [hx] at hj
          cases hj
      have hr := run_append_grow (P := P) w t ty e i z ht hi hz ⟨g, off, none⟩ n cap xs hown.1 holds a m c news hl hnews (by omega) (by omega) (growslice_fits (by omega) hbytes)
      refine ⟨_, 0, _, _, hr, ⟨hlen, .inr ⟨w.heap.size, 0, _, _, rfl, heap_alloc_new w.drew _, grownCap_ge w (n + m) cap e, grownCap_le_maxLen w (n + m) cap e h63, ?_, ?_⟩⟩, ⟨rfl, rfl, rfl, by simp, fun k hk _ => Below.heap_alloc w.drew _ k hk⟩, .inr hH, by simp⟩
      · have hge := grownCap_ge w (n + m) cap e
        have h5 : (n + m) * i.size + (grownCap w (n + m) cap e - (n + m)) * i.size = grownCap w (n + m) cap e * i.size := by rw [← Nat.add_mul, Nat.add_sub_cancel' hge]
        simp only [Array.size_append, List.size_toArray, size_zeroCells, hzs, hown.1, hl]
        rw [Nat.add_mul] at h5
        omega
      · simp only [Array.toList_append, List.append_assoc, List.drop_zero]
        rw [← List.append_assoc, ← hlen]
        exact List.take_left

/-- At the operation. -/
theorem wp_append_seg {o : Oper} {a : Act} {K : Act → World → Prop} {Q : Exit → Act → World → Prop} (s x : Operand) (t : TypeId)
    (ho : o.op = .call { callee := .builtin .append, args := #[s, x], argTypes := #[t, t] })
    (e : TypeId) (i : TypeInfo) (z : Value) (size bytes : Nat) (ht : P.underlying t = some (.slice e)) (hi : P.info? e = some i) (hz : i.zero = some z)
    (hsize : i.size = size) (hby : i.bytes = bytes) (hzs : z.cells.size = size) (hsz : 0 < size)
    (v : Value) (n : Nat) (xs : List Value) (hs : a.eval s = v) (hown : Seg w e size v n xs)
    (ad : Addr) (m c : Nat) (news : List Value) (hx : a.eval x = .slice (some ad) m c) (hl : news.length = m * size) (hnews : ∀ j u, news[j]? = some u → w.cell? (ad.add j) = some u) (h1 : ∀ u ∈ news, u.oneCell' = true)
    (hm : 0 < m) (h63 : n + m ≤ maxLen) (hbytes : (n + m) * bytes ≤ 140737488355328) (H : Nat) (hH : w.heap.size = H)
    (h : ∀ g off cap w', Seg w' e size (.slice (some ⟨g, off, none⟩) (n + m) cap) (n + m) (xs ++ news) → w.grownBy w' v.ownBlock → (v.ownBlock = some g ∨ g = H) → g < w'.heap.size → K (a.put o.dst (.slice (some ⟨g, off, none⟩) (n + m) cap)) w') : o.wp P a w K Q := by
  obtain ⟨g, off, cap, w', hr, h2, h3, h4, h5⟩ := run_append_seg (P := P) w t o.type e i z size bytes ht hi hz hsize hby hzs hsz v n xs hown ad m c news hl hnews h1 hm h63 hbytes H hH
  unfold Oper.wp execOp
  simp only [ho, resolve, invoke, builtin, Sem.run_bind, Sem.run_pure, Result.andThen_ok, List.map_toArray, List.map_cons, List.map_nil, hs, hx, hr]
  exact h g off cap w' h2 h3 h4 h5

/-- At the list of a plain region's operations. -/
theorem wpList_append_seg {ops : Array Oper} {rest : List Oper} {o : Oper} {a : Act} {Q : Exit → Act → World → Prop} (hgd : o.guard = none) (s x : Operand) (t : TypeId)
    (ho : o.op = .call { callee := .builtin .append, args := #[s, x], argTypes := #[t, t] })
    (e : TypeId) (i : TypeInfo) (z : Value) (size bytes : Nat) (ht : P.underlying t = some (.slice e)) (hi : P.info? e = some i) (hz : i.zero = some z)
    (hsize : i.size = size) (hby : i.bytes = bytes) (hzs : z.cells.size = size) (hsz : 0 < size)
    (v : Value) (n : Nat) (xs : List Value) (hs : a.eval s = v) (hown : Seg w e size v n xs)
    (ad : Addr) (m c : Nat) (news : List Value) (hx : a.eval x = .slice (some ad) m c) (hl : news.length = m * size) (hnews : ∀ j u, news[j]? = some u → w.cell? (ad.add j) = some u) (h1 : ∀ u ∈ news, u.oneCell' = true)
    (hm : 0 < m) (h63 : n + m ≤ maxLen) (hbytes : (n + m) * bytes ≤ 140737488355328) (H : Nat) (hH : w.heap.size = H)
    (h : ∀ g off cap w', Seg w' e size (.slice (some ⟨g, off, none⟩) (n + m) cap) (n + m) (xs ++ news) → w.grownBy w' v.ownBlock → (v.ownBlock = some g ∨ g = H) → g < w'.heap.size → wpList P ops Q rest (a.put o.dst (.slice (some ⟨g, off, none⟩) (n + m) cap)) w') : wpList P ops Q (o :: rest) a w :=
  wpList_plain hgd fun _ hK => wp_append_seg w s x t ho e i z size bytes ht hi hz hsize hby hzs hsz v n xs hs hown ad m c news hx hl hnews h1 hm h63 hbytes H hH fun g off cap w' h2 h3 h4 h5 => hK _ _ (h g off cap w' h2 h3 h4 h5)

/-- At a step of a region that draws its order. -/
theorem step_append_seg {ops : Array Oper} {o : Oper} {a : Act} {K : Act → World → Prop} {Q : Exit → Act → World → Prop} {E : Prop} (hgd : o.guard = none) (s x : Operand) (t : TypeId)
    (ho : o.op = .call { callee := .builtin .append, args := #[s, x], argTypes := #[t, t] })
    (e : TypeId) (i : TypeInfo) (z : Value) (size bytes : Nat) (ht : P.underlying t = some (.slice e)) (hi : P.info? e = some i) (hz : i.zero = some z)
    (hsize : i.size = size) (hby : i.bytes = bytes) (hzs : z.cells.size = size) (hsz : 0 < size)
    (v : Value) (n : Nat) (xs : List Value) (hs : a.eval s = v) (hown : Seg w e size v n xs)
    (ad : Addr) (m c : Nat) (news : List Value) (hx : a.eval x = .slice (some ad) m c) (hl : news.length = m * size) (hnews : ∀ j u, news[j]? = some u → w.cell? (ad.add j) = some u) (h1 : ∀ u ∈ news, u.oneCell' = true)
    (hm : 0 < m) (h63 : n + m ≤ maxLen) (hbytes : (n + m) * bytes ≤ 140737488355328) (H : Nat) (hH : w.heap.size = H)
    (h : ∀ g off cap w', Seg w' e size (.slice (some ⟨g, off, none⟩) (n + m) cap) (n + m) (xs ++ news) → w.grownBy w' v.ownBlock → (v.ownBlock = some g ∨ g = H) → g < w'.heap.size → K (a.put o.dst (.slice (some ⟨g, off, none⟩) (n + m) cap)) w') :
    if Region.wanted o (yielded ops a.tmps) = true then Oper.wp P o a w K Q else E := by
  have hw : Region.wanted o (yielded ops a.tmps) = true := by simp [Region.wanted, hgd]
  rw [if_pos hw]
  exact wp_append_seg w s x t ho e i z size bytes ht hi hz hsize hby hzs hsz v n xs hs hown ad m c news hx hl hnews h1 hm h63 hbytes H hH h
end
end Go.Proofs.Ytndnjeahepahkaa
end

section
/- object: Apart, and the document's. -/
namespace Go.Proofs.Ytndnjeahepahkaa.object
open Go.RowKit Go.Maps Go.Sort

abbrev sv (x : List UInt8) : Value := .string ⟨x.toArray⟩
theorem enc_sv (l : List (List UInt8)) : l.map encStr = l.map sv := by
  refine List.map_congr_left fun x _ => ?_
  simp [encStr]
theorem bytes_ne {s t : ByteArray} (h : s ≠ t) : (s.toList == t.toList) = false := by
  rw [beq_eq_false_iff_ne]
  intro e
  rw [ByteArray.toList_eq, ByteArray.toList_eq] at e
  exact h (ByteArray.ext (Array.toList_inj.1 e))

def IdxPost (w : World) (p : Bool) (en : Ending) (w' : World) : Prop := ∃ z : Int, en = .returned (.int .i64 z) ∧ decide (0 ≤ z) = p ∧ w = w'

set_option maxRecDepth 100000 in
set_option maxHeartbeats 1000000 in
theorem idx_calls (l : List (List UInt8)) (v : Value) (s : ByteArray) (w : World) (h : Seg w 9 1 v l.length (l.map sv)) : Calls Try.prog 37 #[v, .string s] w (IdxPost w (decide (s.data.toList ∈ l))) := by
  obtain ⟨a, c, rfl, hc1, hc2⟩ := h.slice
  have hlen : (l.length : Int) ≤ 9223372036854775807 := by unfold maxLen at hc2; omega
  have H := Lib.hid h
  clear h
  go_enter Try.func37, Try.ntmps37
  go_wp2_with fail
  go_loopw [8] (fun x wr => ∃ i : Nat, x = .int .i64 i ∧ i ≤ l.length ∧ wr = w ∧ Hid (∀ (j : Nat) y, j < i → l[j]? = some y → y ≠ s.data.toList)) (fun x _ => l.length - (RowKit.intOf x).toNat)
  case atStart => exact ⟨0, rfl, by omega, rfl, Lib.hid fun j y hj => by omega⟩
  case round =>
    obtain ⟨i, rfl, hi, rfl, HN⟩ := hrel
    by_cases hlt : i < l.length
    · obtain ⟨g, off, c', e, hg, _, _, hcells⟩ := H.out.cells (by omega)
      injection e with e1 e2 e3
      subst e1
      subst e3
      obtain ⟨y, hy⟩ : ∃ y, l[i]? = some y := ⟨_, List.getElem?_eq_getElem hlt⟩
      obtain ⟨t, ht⟩ : ∃ t : ByteArray, t = ⟨y.toArray⟩ := ⟨_, rfl⟩
      have c0 : wr.cell? ⟨g, off + i, none⟩ = some (.string t) := hcells i _ (by rw [List.getElem?_map, hy, ht]; rfl)
      have hyt : y = t.data.toList := by rw [ht]
      have hi2 : (i : Int) < (l.length : Int) := by omega
      have HY := Lib.hid (And.intro hy hyt)
      clear ht hy hcells hg hc1 hc2 hyt
      by_cases hst : s = t
      · have HS2 : Hid (decide (s.data.toList ∈ l) = true) := Lib.hid (decide_eq_true (by rw [hst, ← HY.out.2]; exact List.mem_of_getElem? HY.out.1))
        subst hst
        have hne : (s.toList == s.toList) = true := by simp
        go_wp2_with fail
        go_ret
        refine ⟨_, rfl, ?_, rfl⟩
        rw [HS2.out]
        exact decide_eq_true (by omega)
      · have hne := bytes_ne hst
        have HST := Lib.hid hst
        clear hst
        go_wp2_with fail
        refine ⟨⟨i + 1, by rw [Int.natCast_add]; rfl, by omega, by first | rfl | trivial, Lib.hid fun j z hj hz => ?_⟩, by show l.length - ((i : Int) + 1).toNat < l.length - ((i : Int)).toNat; omega⟩
        by_cases e : j = i
        · subst e
          rw [HY.out.1] at hz
          injection hz with hz
          rw [← hz, HY.out.2]
          exact fun k => HST.out (data_eq.1 k.symm)
        · exact HN.out j z (by omega) hz
    · obtain rfl : i = l.length := by omega
      have hno : decide (s.data.toList ∈ l) = false := decide_eq_false fun hm => by
        obtain ⟨j, hj, e⟩ := List.getElem_of_mem hm
        exact HN.out j _ hj (List.getElem?_eq_getElem hj) e
      have HNO := Lib.hid hno
      have hlt2 : ¬ (l.length : Int) < (l.length : Int) := by omega
      clear hno
      go_wp2_with fail
      go_ret
      refine ⟨-1, rfl, ?_, rfl⟩
      rw [HNO.out]
      decide

set_option maxRecDepth 100000 in
set_option maxHeartbeats 1000000 in
theorem cont_calls (l : List (List UInt8)) (v : Value) (s : ByteArray) (w : World) (h : Seg w 9 1 v l.length (l.map sv)) : Calls Try.prog 28 #[v, .string s] w fun en w' => en = .returned (.bool (decide (s.data.toList ∈ l))) ∧ w = w' := by
  have HI := Lib.hid (idx_calls l v s w h)
  generalize decide (s.data.toList ∈ l) = p at *
  clear h
  go_enter Try.func28, Try.ntmps28
  go_wp2_with fail
  refine HI.out.mono ?_
  rintro en w1 ⟨z, rfl, hz, rfl⟩
  go_wp2_with fail
  go_ret
  exact ⟨by rw [← hz]; rfl, rfl⟩

set_option maxRecDepth 100000 in
set_option maxHeartbeats 1000000 in
theorem clo_calls (l : List (List UInt8)) (v : Value) (bx : Nat) (s : ByteArray) (w : World) (h : Seg w 9 1 v l.length (l.map sv)) (hb : Has w bx 76 #[v]) :
    Calls Try.prog 27 #[.string s, .pointer (some ⟨bx, 0, none⟩)] w fun en w' => en = .returned (.bool (decide (s.data.toList ∈ l))) ∧ w = w' := by
  have HI := Lib.hid (cont_calls l v s w h)
  have c0 : w.cell? ⟨bx, 0, none⟩ = some v := hb.cell 0
  generalize decide (s.data.toList ∈ l) = p at *
  clear h hb
  go_enter Try.func27, Try.ntmps27
  go_wp2_with fail
  refine HI.out.mono ?_
  rintro en w1 ⟨rfl, rfl⟩
  go_wp2_with fail
  go_ret
  exact ⟨rfl, rfl⟩

set_option maxRecDepth 100000 in
set_option maxHeartbeats 2000000 in
theorem idxf_calls (l l2 : List (List UInt8)) (v v2 : Value) (bx : Nat) (w : World) (h : Seg w 9 1 v l.length (l.map sv)) (h2 : Seg w 9 1 v2 l2.length (l2.map sv)) (hb : Has w bx 76 #[v2]) :
    Calls Try.prog 36 #[v, .func (.func 27) #[] #[.pointer (some ⟨bx, 0, none⟩)]] w (IdxPost w (decide (∃ x ∈ l, x ∈ l2))) := by
  obtain ⟨a, c, rfl, hc1, hc2⟩ := h.slice
  have hlen : (l.length : Int) ≤ 9223372036854775807 := by unfold maxLen at hc2; omega
  have H := Lib.hid h
  have HCL := Lib.hid (fun s => clo_calls l2 v2 bx s w h2 hb)
  clear h h2 hb
  go_enter Try.func36, Try.ntmps36
  go_wp2_with fail
  go_loopw [8] (fun x wr => ∃ i : Nat, x = .int .i64 i ∧ i ≤ l.length ∧ wr = w ∧ Hid (∀ (j : Nat) y, j < i → l[j]? = some y → y ∉ l2)) (fun x _ => l.length - (RowKit.intOf x).toNat)
  case atStart => exact ⟨0, rfl, by omega, rfl, Lib.hid fun j y hj => by omega⟩
  case round =>
    obtain ⟨i, rfl, hi, rfl, HN⟩ := hrel
    by_cases hlt : i < l.length
    · obtain ⟨g, off, c', e, hg, _, _, hcells⟩ := H.out.cells (by omega)
      injection e with e1 e2 e3
      subst e1
      subst e3
      obtain ⟨y, hy⟩ : ∃ y, l[i]? = some y := ⟨_, List.getElem?_eq_getElem hlt⟩
      obtain ⟨t, ht⟩ : ∃ t : ByteArray, t = ⟨y.toArray⟩ := ⟨_, rfl⟩
      have c0 : wr.cell? ⟨g, off + i, none⟩ = some (.string t) := hcells i _ (by rw [List.getElem?_map, hy, ht]; rfl)
      have hyt : y = t.data.toList := by rw [ht]
      have hi2 : (i : Int) < (l.length : Int) := by omega
      have HY := Lib.hid (And.intro hy hyt)
      clear ht hy hcells hg hc1 hc2 hyt
      have hcl := HCL.out t
      rw [← HY.out.2] at hcl
      by_cases hm : y ∈ l2
      · have HS2 : Hid (decide (∃ x ∈ l, x ∈ l2) = true) := Lib.hid (decide_eq_true ⟨y, List.mem_of_getElem? HY.out.1, hm⟩)
        rw [decide_eq_true hm] at hcl
        have HC := Lib.hid hcl
        clear hcl hm
        go_wp2_with (first
          | (go_at_call 27; refine HC.out.mono ?_; rintro en w1 ⟨rfl, rfl⟩)
          | fail)
        go_ret
        refine ⟨_, rfl, ?_, rfl⟩
        rw [HS2.out]
        exact decide_eq_true (by omega)
      · have HM := Lib.hid hm
        rw [decide_eq_false hm] at hcl
        have HC := Lib.hid hcl
        clear hcl hm
        go_wp2_with (first
          | (go_at_call 27; refine HC.out.mono ?_; rintro en w1 ⟨rfl, rfl⟩)
          | fail)
        refine ⟨⟨i + 1, by rw [Int.natCast_add]; rfl, by omega, by first | rfl | trivial, Lib.hid fun j z hj hz => ?_⟩, by show l.length - ((i : Int) + 1).toNat < l.length - ((i : Int)).toNat; omega⟩
        by_cases e : j = i
        · subst e
          rw [HY.out.1] at hz
          injection hz with hz
          rw [← hz]
          exact HM.out
        · exact HN.out j z (by omega) hz
    · obtain rfl : i = l.length := by omega
      have hno : decide (∃ x ∈ l, x ∈ l2) = false := decide_eq_false fun ⟨x, hm, hm2⟩ => by
        obtain ⟨j, hj, e⟩ := List.getElem_of_mem hm
        exact HN.out j _ hj (List.getElem?_eq_getElem hj) (by rw [e]; exact hm2)
      have HNO := Lib.hid hno
      have hlt2 : ¬ (l.length : Int) < (l.length : Int) := by omega
      clear hno
      go_wp2_with fail
      go_ret
      refine ⟨-1, rfl, ?_, rfl⟩
      rw [HNO.out]
      decide

set_option maxRecDepth 100000 in
set_option maxHeartbeats 1000000 in
theorem contf_calls (l l2 : List (List UInt8)) (v v2 : Value) (bx : Nat) (w : World) (h : Seg w 9 1 v l.length (l.map sv)) (h2 : Seg w 9 1 v2 l2.length (l2.map sv)) (hb : Has w bx 76 #[v2]) :
    Calls Try.prog 26 #[v, .func (.func 27) #[] #[.pointer (some ⟨bx, 0, none⟩)]] w fun en w' => en = .returned (.bool (decide (∃ x ∈ l, x ∈ l2))) ∧ w = w' := by
  have HI := Lib.hid (idxf_calls l l2 v v2 bx w h h2 hb)
  generalize decide (∃ x ∈ l, x ∈ l2) = p at *
  clear h h2 hb
  go_enter Try.func26, Try.ntmps26
  go_wp2_with fail
  refine HI.out.mono ?_
  rintro en w1 ⟨z, rfl, hz, rfl⟩
  go_wp2_with fail
  go_ret
  exact ⟨by rw [← hz]; rfl, rfl⟩

theorem sv_row {w : World} {v : Value} {l : List (List UInt8)} (h : w.ownsRow 0 9 1 v l.length (l.map encStr)) : Seg w 9 1 v l.length (l.map sv) := by
  rw [← enc_sv]
  exact Seg.of_own h

set_option maxRecDepth 100000 in
set_option maxHeartbeats 2000000 in
theorem oapart_calls (o p : OpO) (w : World) : Calls Try.prog 13 #[.agg o.cells, .agg p.cells] w fun en w' => en = .returned (.bool (apB o p)) ∧ Below w.heap.size w w' := by
  obtain ⟨k, ⟨tk, ta, tx, tn⟩, ⟨lk, ls, lt, ln⟩, ⟨sk, ss, sn⟩⟩ := o
  obtain ⟨k2, ⟨tk2, ta2, tx2, tn2⟩, ⟨lk2, ls2, lt2, ln2⟩, ⟨sk2, ss2, sn2⟩⟩ := p
  unfold OpO.cells
  by_cases hk : k = k2
  · subst hk
    by_cases h2 : k = 2
    · subst h2
      have hap : apB ⟨2, ⟨tk, ta, tx, tn⟩, ⟨lk, ls, lt, ln⟩, ⟨sk, ss, sn⟩⟩ ⟨2, ⟨tk2, ta2, tx2, tn2⟩, ⟨lk2, ls2, lt2, ln2⟩, ⟨sk2, ss2, sn2⟩⟩ = !decide (∃ x ∈ tch ls lt, x ∈ tch ls2 lt2) := by
        show decide (∀ x ∈ tch ls lt, x ∉ tch ls2 lt2) = _
        rw [← decide_not]
        congr 1
        simp
      have HAP := Lib.hid hap
      have HT := fun W => Lib.hid (ltouches_calls lk2 ln2 ls2 lt2 W)
      have HT1 := fun W => Lib.hid (ltouches_calls lk ln ls lt W)
      clear hap
      go_enter Try.func13, Try.ntmps13
      go_wp2_with fail
      refine callsName (fun W hW => ?_)
      have HW : Hid (Has W w.heap.size 35 (c12 2 ⟨tk, ta, tx, tn⟩ ⟨lk, ls, lt, ln⟩ ⟨sk, ss, sn⟩) ∧ Below w.heap.size w W) := by
        rw [← hW]
        exact Lib.hid ⟨(Has.made w _ _).alloc _, ((Below.refl _ w).alloc (Nat.le_refl _) _).alloc (by simp) _⟩
      clear hW
      refine (HT W).out.mono ?_
      rintro en w1 ⟨v2, rfl, r2, b1⟩
      have H1 : Hid (Has w1 w.heap.size 35 (c12 2 ⟨tk, ta, tx, tn⟩ ⟨lk, ls, lt, ln⟩ ⟨sk, ss, sn⟩) ∧ Below w.heap.size w w1 ∧ Seg w1 9 1 v2 (tch ls2 lt2).length ((tch ls2 lt2).map sv)) := Lib.hid ⟨HW.out.1.below b1 HW.out.1.lt, HW.out.2.trans (b1.mono HW.out.2.size), sv_row r2⟩
      have x5 : w1.cell? ⟨w.heap.size, 5, none⟩ = some (.int .i64 lk) := H1.out.1.cell 5
      have x6 : w1.cell? ⟨w.heap.size, 6, none⟩ = some (.string ls) := H1.out.1.cell 6
      have x7 : w1.cell? ⟨w.heap.size, 7, none⟩ = some (.string lt) := H1.out.1.cell 7
      have x8 : w1.cell? ⟨w.heap.size, 8, none⟩ = some (.int .i64 ln) := H1.out.1.cell 8
      have hl : w.heap.size < w1.heap.size := H1.out.1.lt
      obtain ⟨va, vc, rfl, _⟩ := H1.out.2.2.slice
      have hmf : ∀ fn first cap w, (Instr.makeFunc fn first cap).run Try.prog w = .ok (.func fn first cap) w := fun _ _ _ _ => rfl
      clear r2 b1 HW HT
      go_wp2_with fail
      refine callsName (fun W2 hW2 => ?_)
      obtain ⟨bx, hbx⟩ : ∃ bx, bx = w1.heap.size := ⟨_, rfl⟩
      have H2 : Hid (Has W2 bx 76 #[.slice va (tch ls2 lt2).length vc] ∧ Below w.heap.size w W2 ∧ Seg W2 9 1 (.slice va (tch ls2 lt2).length vc) (tch ls2 lt2).length ((tch ls2 lt2).map sv)) := by
        rw [← hW2, hbx]
        exact Lib.hid ⟨Has.made _ _ _, H1.out.2.1.alloc H1.out.2.1.size _, H1.out.2.2.alloc _⟩
      rw [← hbx]
      clear hW2 hbx H1 x5 x6 x7 x8 hl
      refine (HT1 W2).out.mono ?_
      rintro en w3 ⟨v3, rfl, r3, b3⟩
      have HC := Lib.hid (contf_calls (tch ls lt) (tch ls2 lt2) v3 (.slice va (tch ls2 lt2).length vc) bx w3 (sv_row r3) (H2.out.2.2.below b3 (fun _ e => H2.out.2.2.lt e)) (H2.out.1.below b3 H2.out.1.lt))
      have B3 : Hid (Below w.heap.size w w3) := Lib.hid (H2.out.2.1.trans (b3.mono H2.out.2.1.size))
      clear r3 b3 H2 HT1
      go_wp2_with (first
        | (go_at_call 26; refine HC.out.mono ?_; rintro en w4 ⟨rfl, rfl⟩)
        | fail)
      go_ret
      rw [HAP.out]
      exact ⟨rfl, B3.out⟩
    · have e2 : (k == 2) = false := by simpa using h2
      by_cases h3 : k = 3
      · subst h3
        have HAP : Hid (apB ⟨3, ⟨tk, ta, tx, tn⟩, ⟨lk, ls, lt, ln⟩, ⟨sk, ss, sn⟩⟩ ⟨3, ⟨tk2, ta2, tx2, tn2⟩, ⟨lk2, ls2, lt2, ln2⟩, ⟨sk2, ss2, sn2⟩⟩ = decide (ss ≠ ss2)) := Lib.hid rfl
        by_cases hs : ss = ss2
        · subst hs
          go_enter Try.func13, Try.ntmps13
          go_wp2_with fail
          go_ret
          rw [HAP.out]
          exact ⟨by simp, ((Below.refl _ w).alloc (Nat.le_refl _) _).alloc (by simp) _⟩
        · have hne := bytes_ne hs
          have hne2 : (ss.toList != ss2.toList) = true := by unfold bne; rw [hne]; rfl
          rw [decide_eq_true hs] at HAP
          clear hs
          go_enter Try.func13, Try.ntmps13
          go_wp2_with fail
          go_ret
          rw [HAP.out]
          exact ⟨rfl, ((Below.refl _ w).alloc (Nat.le_refl _) _).alloc (by simp) _⟩
      · have e3 : (k == 3) = false := by simpa using h3
        have HAP : Hid (apB ⟨k, ⟨tk, ta, tx, tn⟩, ⟨lk, ls, lt, ln⟩, ⟨sk, ss, sn⟩⟩ ⟨k, ⟨tk2, ta2, tx2, tn2⟩, ⟨lk2, ls2, lt2, ln2⟩, ⟨sk2, ss2, sn2⟩⟩ = false) := Lib.hid (by
          unfold apB
          rw [if_neg (fun e => e rfl), if_neg h2, if_neg h3])
        go_enter Try.func13, Try.ntmps13
        go_wp2_with fail
        go_ret
        rw [HAP.out]
        exact ⟨rfl, ((Below.refl _ w).alloc (Nat.le_refl _) _).alloc (by simp) _⟩
  · have e1 : (k != k2) = true := by simpa using hk
    have HAP : Hid (apB ⟨k, ⟨tk, ta, tx, tn⟩, ⟨lk, ls, lt, ln⟩, ⟨sk, ss, sn⟩⟩ ⟨k2, ⟨tk2, ta2, tx2, tn2⟩, ⟨lk2, ls2, lt2, ln2⟩, ⟨sk2, ss2, sn2⟩⟩ = false) := Lib.hid (if_pos hk)
    go_enter Try.func13, Try.ntmps13
    go_wp2_with fail
    go_ret
    rw [HAP.out]
    exact ⟨rfl, ((Below.refl _ w).alloc (Nat.le_refl _) _).alloc (by simp) _⟩

/-- Are two names one, and not the house's? -/
def shB (a b : ByteArray) : Bool := decide (a = b ∧ a ≠ .empty)
set_option maxRecDepth 100000 in
set_option maxHeartbeats 1000000 in
theorem shared_calls (a b : ByteArray) (w : World) : Calls Try.prog 29 #[.string a, .string b] w fun en w' => en = .returned (.bool (shB a b)) ∧ w = w' := by
  by_cases h : a = b
  · subst h
    by_cases h0 : a = .empty
    · have HS : Hid (shB a a = false) := Lib.hid (decide_eq_false fun e => e.2 h0)
      subst h0
      rw [HS.out]
      have e0 : (ByteArray.empty : ByteArray) = ⟨#[]⟩ := rfl
      rw [e0]
      go_enter Try.func29, Try.ntmps29
      go_wp2_with fail
      go_ret
      exact ⟨rfl, rfl⟩
    · have HS : Hid (shB a a = true) := Lib.hid (decide_eq_true ⟨rfl, h0⟩)
      rw [HS.out]
      have h1 : ¬ a.toList = [] := fun e => h0 (data_nil.1 (by rw [← ByteArray.toList_eq]; exact e))
      have h2 : (a.toList == []) = false := by simpa using h1
      clear h0
      go_enter Try.func29, Try.ntmps29
      go_wp2_with fail
      go_ret
      exact ⟨rfl, rfl⟩
  · have HS : Hid (shB a b = false) := Lib.hid (decide_eq_false fun e => h e.1)
    have hne := bytes_ne h
    rw [HS.out]
    clear h
    go_enter Try.func29, Try.ntmps29
    go_wp2_with fail
    go_ret
    exact ⟨rfl, rfl⟩

theorem sh_apart {s t s' t' : ByteArray} : Apart2 s t s' t' ↔ (shB s s' = false ∧ shB s t' = false ∧ shB t s' = false ∧ shB t t' = false) := by
  have key : ∀ u v : ByteArray, (u = v → u = .empty) ↔ shB u v = false := fun u v => by
    unfold shB
    rw [decide_eq_false_iff_not]
    exact ⟨fun h e => e.2 (h e.1), fun h e => Classical.byContradiction fun hn => h ⟨e, hn⟩⟩
  unfold Apart2
  rw [key, key, key, key]

set_option maxRecDepth 100000 in
set_option maxHeartbeats 2000000 in
theorem rapart_calls (o p : OpO) (w : World) : Calls Try.prog 14 #[.agg o.cells, .agg p.cells] w fun en w' => en = .returned (.bool (apB o p)) ∧ Below w.heap.size w w' := by
  obtain ⟨k, ⟨tk, ta, tx, tn⟩, ⟨lk, ls, lt, ln⟩, ⟨sk, ss, sn⟩⟩ := o
  obtain ⟨k2, ⟨tk2, ta2, tx2, tn2⟩, ⟨lk2, ls2, lt2, ln2⟩, ⟨sk2, ss2, sn2⟩⟩ := p
  unfold OpO.cells
  have BB : ∀ A B, Below w.heap.size w ((w.alloc A).alloc B) := fun A B => ((Below.refl _ w).alloc (Nat.le_refl _) _).alloc (by simp) _
  by_cases hk : k = k2
  · subst hk
    by_cases h2 : k = 2
    · subst h2
      have hap : apB ⟨2, ⟨tk, ta, tx, tn⟩, ⟨lk, ls, lt, ln⟩, ⟨sk, ss, sn⟩⟩ ⟨2, ⟨tk2, ta2, tx2, tn2⟩, ⟨lk2, ls2, lt2, ln2⟩, ⟨sk2, ss2, sn2⟩⟩ = decide (shB ls ls2 = false ∧ shB ls lt2 = false ∧ shB lt ls2 = false ∧ shB lt lt2 = false) := by
        show decide (∀ x ∈ tch ls lt, x ∉ tch ls2 lt2) = _
        congr 1
        rw [tch_apart, sh_apart]
      have HAP := Lib.hid hap
      have S1 := fun W => Lib.hid (shared_calls ls ls2 W)
      have S2 := fun W => Lib.hid (shared_calls ls lt2 W)
      have S3 := fun W => Lib.hid (shared_calls lt ls2 W)
      have S4 := fun W => Lib.hid (shared_calls lt lt2 W)
      clear hap
      generalize shB ls ls2 = b1 at *
      generalize shB ls lt2 = b2 at *
      generalize shB lt ls2 = b3 at *
      generalize shB lt lt2 = b4 at *
      go_enter Try.func14, Try.ntmps14
      go_wp2_with fail
      refine (S1 _).out.mono ?_
      rintro en w1 ⟨rfl, rfl⟩
      clear S1
      cases b1 with
      | true =>
        go_wp2_with fail
        go_ret
        rw [HAP.out]
        exact ⟨by simp, BB _ _⟩
      | false =>
        go_wp2_with fail
        refine (S2 _).out.mono ?_
        rintro en w2 ⟨rfl, rfl⟩
        clear S2
        cases b2 with
        | true =>
          go_wp2_with fail
          go_ret
          rw [HAP.out]
          exact ⟨by simp, BB _ _⟩
        | false =>
          go_wp2_with fail
          refine (S3 _).out.mono ?_
          rintro en w3 ⟨rfl, rfl⟩
          clear S3
          cases b3 with
          | true =>
            go_wp2_with fail
            go_ret
            rw [HAP.out]
            exact ⟨by simp, BB _ _⟩
          | false =>
            go_wp2_with fail
            refine (S4 _).out.mono ?_
            rintro en w4 ⟨rfl, rfl⟩
            clear S4
            cases b4 with
            | true =>
              go_wp2_with fail
              go_ret
              rw [HAP.out]
              exact ⟨by simp, BB _ _⟩
            | false =>
              go_wp2_with fail
              go_ret
              rw [HAP.out]
              exact ⟨by simp, BB _ _⟩
    · have e2 : (k == 2) = false := by simpa using h2
      by_cases h3 : k = 3
      · subst h3
        have HAP : Hid (apB ⟨3, ⟨tk, ta, tx, tn⟩, ⟨lk, ls, lt, ln⟩, ⟨sk, ss, sn⟩⟩ ⟨3, ⟨tk2, ta2, tx2, tn2⟩, ⟨lk2, ls2, lt2, ln2⟩, ⟨sk2, ss2, sn2⟩⟩ = decide (ss ≠ ss2)) := Lib.hid rfl
        by_cases hs : ss = ss2
        · subst hs
          go_enter Try.func14, Try.ntmps14
          go_wp2_with fail
          go_ret
          rw [HAP.out]
          exact ⟨by simp, BB _ _⟩
        · have hne := bytes_ne hs
          have hne2 : (ss.toList != ss2.toList) = true := by unfold bne; rw [hne]; rfl
          rw [decide_eq_true hs] at HAP
          clear hs
          go_enter Try.func14, Try.ntmps14
          go_wp2_with fail
          go_ret
          rw [HAP.out]
          exact ⟨rfl, BB _ _⟩
      · have e3 : (k == 3) = false := by simpa using h3
        have HAP : Hid (apB ⟨k, ⟨tk, ta, tx, tn⟩, ⟨lk, ls, lt, ln⟩, ⟨sk, ss, sn⟩⟩ ⟨k, ⟨tk2, ta2, tx2, tn2⟩, ⟨lk2, ls2, lt2, ln2⟩, ⟨sk2, ss2, sn2⟩⟩ = false) := Lib.hid (by
          unfold apB
          rw [if_neg (fun e => e rfl), if_neg h2, if_neg h3])
        have hk : (k != k) = false := by simp
        by_cases hl : k < 2
        · have d1 : decide (k < 2) = true := decide_eq_true hl
          go_enter Try.func14, Try.ntmps14
          go_wp2_with fail
          go_ret
          rw [HAP.out]
          exact ⟨rfl, BB _ _⟩
        · have d1 : ¬ k < 2 := hl
          have d2 : 3 < k := by omega
          go_enter Try.func14, Try.ntmps14
          go_wp2_with fail
          go_ret
          rw [HAP.out]
          exact ⟨rfl, BB _ _⟩
  · have e1 : (k != k2) = true := by simpa using hk
    have HAP : Hid (apB ⟨k, ⟨tk, ta, tx, tn⟩, ⟨lk, ls, lt, ln⟩, ⟨sk, ss, sn⟩⟩ ⟨k2, ⟨tk2, ta2, tx2, tn2⟩, ⟨lk2, ls2, lt2, ln2⟩, ⟨sk2, ss2, sn2⟩⟩ = false) := Lib.hid (if_pos hk)
    go_enter Try.func14, Try.ntmps14
    go_wp2_with fail
    go_ret
    rw [HAP.out]
    exact ⟨rfl, BB _ _⟩
end Go.Proofs.Ytndnjeahepahkaa.object
end

section
/- A region that draws its order: values and calls that keep S, each of which comes ahead of what turns the world (a slice that is made, an append): they are walked once, in one order; then the rest, as it comes. Of no program. -/
namespace Go.Proofs.Ytndnjeahepahkaa
open Go.RowKit

section
variable {P : Program} {ops : Array Oper} {Q : Exit → Act → World → Prop} {md : Region.Mode} {S : World → Prop} {Wr : List Nat}

/-- A value that hangs on no world may be taken first. -/
theorem any_take (i : Nat) (d : Option Tmp) {oi : Oper} {v : Value} {fuel : Nat} {listed : Array Bool} {a : Act} {w : World} (hi : ops[i]? = some oi) (hd : oi.dst = d)
    (hs : Region.noSelect ops = true) (hf : Region.free md ops listed i = true) (hr : (Region.ready md ops listed).contains i = true)
    (hQ : ∀ c a w, Q (.panic c) (a.put d v) w → Q (.panic c) a w) (hw : Region.wanted oi (yielded ops a.tmps) = true) (hy : ∀ w, (execOp a.eval oi).run P w = .ok (.value v) w)
    (h : wpAny P md ops Q fuel (listed.setIfInBounds i true) (a.put d v) w) : wpAny P md ops Q (fuel + 1) listed a w := by
  subst hd
  exact wpAny_take hi hs hf hr hQ (.inl ⟨hw, hy⟩) h
/-- Just one may come up. -/
theorem any_one {i : Nat} {fuel : Nat} {listed : Array Bool} {a : Act} {w : World} (hr : Region.ready md ops listed = [i])
    (h : wpOp P ops Q i (wpAny P md ops Q fuel (listed.setIfInBounds i true)) a w) : wpAny P md ops Q (fuel + 1) listed a w :=
  wpAny_all hr (by simp) (fun j hj => by obtain rfl := List.mem_singleton.1 hj; exact h)

/-- k waits for i, by however many steps. -/
def reach (md : Region.Mode) (ops : Array Oper) : Nat → Nat → Nat → Bool
  | 0, _, _ => false
  | n + 1, k, i => waits md ops k i || (List.range ops.size).any fun c => waits md ops k c && reach md ops n c i
theorem reach_spec {listed : Array Bool} (hc : Closed md ops listed) {i : Nat} : ∀ (n k : Nat), (∀ ok, ops[k]? = some ok → ∀ e ∈ ok.after, Region.binds md e = true → listed.getD e.on true = true) → reach md ops n k i = true → listed.getD i true = true
  | 0, _, _, h => by cases h
  | n + 1, k, hk, h => by
    unfold reach at h
    rw [Bool.or_eq_true, List.any_eq_true] at h
    rcases h with h | ⟨c, _, h⟩
    · obtain ⟨o, ho, e, he, hb, rfl⟩ := waits_spec h
      exact hk o ho e he hb
    · rw [Bool.and_eq_true] at h
      obtain ⟨o, ho, e, he, hb, rfl⟩ := waits_spec h.1
      refine reach_spec hc n e.on (fun oc hoc e2 he2 hb2 => ?_) h.2
      exact hc _ oc hoc (hk o ho e he hb) e2 he2 hb2
/-- Number i has to come ahead of all of Wr. -/
def before (md : Region.Mode) (ops : Array Oper) (Wr : List Nat) (i : Nat) : Bool := Wr.all fun k => k != i && reach md ops ops.size k i
theorem before_not {i j : Nat} {listed : Array Bool} (hah : before md ops Wr i = true) (hc : Closed md ops listed) (hi : listed.getD i true = false) (hj : j ∈ Region.ready md ops listed) : j ∉ Wr := fun h => by
  unfold before at hah
  rw [List.all_eq_true] at hah
  have h2 := hah j h
  simp only [Bool.and_eq_true] at h2
  obtain ⟨oj, hoj, hall⟩ := ready_listed hj
  have := reach_spec hc ops.size j (fun ok hok e he hb => by obtain rfl : oj = ok := by rw [hoj] at hok; injection hok
                                                             exact hall e he hb) h2.2
  rw [this] at hi
  cases hi

/-- Whatever order is picked from here on, in whatever world that meets S; S holds till one of Wr comes up. -/
def AnyL (P : Program) (md : Region.Mode) (ops : Array Oper) (Q : Exit → Act → World → Prop) (S : World → Prop) (Wr : List Nat) : Nat → Array Bool → Act → Prop
  | 0, listed, a => Region.ready md ops listed = [] ∧ ∀ w, S w → Q .normal a w
  | fuel + 1, listed, a =>
    (Region.ready md ops listed = [] → ∀ w, S w → Q .normal a w) ∧
    ∀ i ∈ Region.ready md ops listed, ∀ w, S w →
      (i ∈ Wr → wpOp P ops Q i (wpAny P md ops Q fuel (listed.setIfInBounds i true)) a w) ∧
      (i ∉ Wr → wpOp P ops Q i (fun a' w' => S w' ∧ AnyL P md ops Q S Wr fuel (listed.setIfInBounds i true) a') a w)

theorem AnyL.any : ∀ (fuel : Nat) (listed : Array Bool) (a : Act) (w : World), S w → AnyL P md ops Q S Wr fuel listed a → wpAny P md ops Q fuel listed a w
  | 0, _, _, w, hs, h => ⟨h.1, h.2 w hs⟩
  | fuel + 1, _, _, w, hs, h => ⟨fun h0 => h.1 h0 w hs, fun i hi => by
      by_cases hw : i ∈ Wr
      · exact (h.2 i hi w hs).1 hw
      · exact wpOp_mono (fun a' w' h' => AnyL.any fuel _ a' w' h'.1 h'.2) ((h.2 i hi w hs).2 hw)⟩

theorem AnyL.first {i : Nat} {oi : Oper} {v : Value} (hi : ops[i]? = some oi) (hsel : ∀ (j : Nat) (o : Oper) cs b, ops[j]? = some o → o.op ≠ .select cs b)
    (hQ : ∀ c a w, Q (.panic c) (a.put oi.dst v) w → Q (.panic c) a w) (hah : before md ops Wr i = true) (hiW : i ∉ Wr) :
    ∀ (fuel : Nat) (listed : Array Bool) (a : Act),
      (∀ j oj, ops[j]? = some oj → j ≠ i → listed.getD j true = false → (∀ e ∈ oj.after, Region.binds md e = true → e.on ≠ i) → oi.apart ops oj = true) →
      i ∈ Region.ready md ops listed → Closed md ops listed → Makes P ops S oi v a →
      AnyL P md ops Q S Wr fuel (listed.setIfInBounds i true) (a.put oi.dst v) → AnyL P md ops Q S Wr (fuel + 1) listed a := by
  intro fuel
  induction fuel with
  | zero =>
    intro listed a _ hr hcl hy H
    refine ⟨fun h => (by rw [h] at hr; cases hr), fun j hj w hS => ?_⟩
    have hjW : j ∉ Wr := before_not hah hcl (mem_ready.1 hr).1 hj
    refine ⟨fun h => absurd h hjW, fun _ => ?_⟩
    by_cases hji : j = i
    · subst hji; exact hy.wpOp hi hS (fun w' hS' => ⟨hS', H⟩)
    · have := ready_mono hj hji
      rw [H.1] at this
      cases this
  | succ fuel ih =>
    intro listed a hfree hr hcl hy H
    refine ⟨fun h => (by rw [h] at hr; cases hr), fun j hj w hS => ?_⟩
    have hjW : j ∉ Wr := before_not hah hcl (mem_ready.1 hr).1 hj
    refine ⟨fun h => absurd h hjW, fun _ => ?_⟩
    by_cases hji : j = i
    · subst hji; exact hy.wpOp hi hS (fun w' hS' => ⟨hS', H⟩)
    · have h1 := (H.2 j (ready_mono hj hji) w hS).2 hjW
      obtain ⟨hjun, oj, hoj, hall⟩ := mem_ready.1 hj
      have hnot : ∀ e ∈ oj.after, Region.binds md e = true → e.on ≠ i := fun e he hb heq => by
        have h1 := hall e he hb
        have h0 := (mem_ready.1 hr).1
        rw [heq] at h1
        rcases Nat.lt_or_ge i listed.size with h' | h'
        · simp [h'] at h0 h1; rw [h0] at h1; cases h1
        · simp [Array.getElem?_eq_none h'] at h1
      have h2 := wpOp_putM hoj (hfree j oj hoj hji hjun hnot) (fun cs b => hsel i oi cs b hi) (fun cs b => hsel j oj cs b hoj) hQ hy h1
      have hfree' : ∀ k ok, ops[k]? = some ok → k ≠ i → (listed.setIfInBounds j true).getD k true = false →
          (∀ e ∈ ok.after, Region.binds md e = true → e.on ≠ i) → oi.apart ops ok = true := fun k ok hk hki hun hno => by
        refine hfree k ok hk hki ?_ hno
        by_cases hjk : j = k
        · subst hjk; exact hjun
        · rw [getD_set_ne true hjk] at hun; exact hun
      refine wpOp_mono (fun a' w' h3 => ⟨h3.2.1, ih (listed.setIfInBounds j true) a' hfree' (ready_mono hr (Ne.symm hji)) (closed_set hcl hj) h3.1 ?_⟩) h2
      rw [Array.setIfInBounds_comm _ _ hji]
      exact h3.2.2

theorem AnyL.done {listed : Array Bool} {a : Act} (hr : Region.ready md ops listed = []) (h : ∀ w, S w → Q .normal a w) :
    ∀ fuel, AnyL P md ops Q S Wr fuel listed a
  | 0 => ⟨hr, h⟩
  | _ + 1 => ⟨fun _ => h, by rw [hr]; simp⟩
/-- The first of Wr comes up, alone: from here on the world is one. -/
theorem AnyL.late {i : Nat} {fuel : Nat} {listed : Array Bool} {a : Act} (hr : Region.ready md ops listed = [i]) (hw : i ∈ Wr)
    (h : ∀ w, S w → wpOp P ops Q i (wpAny P md ops Q fuel (listed.setIfInBounds i true)) a w) : AnyL P md ops Q S Wr (fuel + 1) listed a :=
  ⟨fun h0 => (by rw [hr] at h0; cases h0), fun j hj w hS => by
    rw [hr] at hj
    obtain rfl := List.mem_singleton.1 hj
    exact ⟨fun _ => h w hS, fun h' => absurd hw h'⟩⟩

/-- Take number i: a value. -/
theorem AnyL.pure (i : Nat) (d : Option Tmp) {oi : Oper} {v : Value} {fuel : Nat} {listed : Array Bool} {a : Act} (hi : ops[i]? = some oi) (hd : oi.dst = d)
    (hs : Region.noSelect ops = true) (hf : Region.free md ops listed i = true) (hr : (Region.ready md ops listed).contains i = true)
    (hQ : ∀ c a w, Q (.panic c) (a.put d v) w → Q (.panic c) a w) (hah : (before md ops Wr i && !Wr.contains i && closedB md ops listed) = true) (hw : Region.wanted oi (yielded ops a.tmps) = true)
    (hy : ∀ w, S w → (execOp a.eval oi).run P w = .ok (.value v) w)
    (h : AnyL P md ops Q S Wr fuel (listed.setIfInBounds i true) (a.put d v)) : AnyL P md ops Q S Wr (fuel + 1) listed a := by
  subst hd
  simp only [Bool.and_eq_true] at hah
  exact AnyL.first hi (Region.noSelect_spec hs) hQ hah.1.1 (by simpa using hah.1.2) fuel listed a (Region.free_spec hi hf) (by simpa using hr) (closed_spec hah.2) (.inl ⟨hw, fun w hS => by rw [hy w hS]; exact ⟨rfl, hS⟩⟩) h
/-- Take number i: a call of a Go function, by its contract. -/
theorem AnyL.call (i : Nat) (d : Option Tmp) {oi : Oper} (v : Value) {fuel : Nat} {listed : Array Bool} {a : Act} (hi : ops[i]? = some oi) (hd : oi.dst = d)
    (hs : Region.noSelect ops = true) (hf : Region.free md ops listed i = true) (hr : (Region.ready md ops listed).contains i = true)
    (hQ : ∀ c a w, Q (.panic c) (a.put d v) w → Q (.panic c) a w) (hah : (before md ops Wr i && !Wr.contains i && closedB md ops listed) = true) (hw : Region.wanted oi (yielded ops a.tmps) = true)
    (f : FuncId) (fn : Func) (hfn : P.funcs[f]? = some fn) (hname : (fn.name == "runtime.NumGoroutine") = false) (hb : fn.body.isNone = false) (xs : Array Operand) (ts : Array TypeId)
    (ho : oi.op = .call { callee := .value (.func f), args := xs, argTypes := ts }) (vs : Array Value) (hv : xs.map a.eval = vs)
    (hc : ∀ w, S w → Calls P f vs w fun en w' => en = .returned v ∧ S w')
    (h : AnyL P md ops Q S Wr fuel (listed.setIfInBounds i true) (a.put d v)) : AnyL P md ops Q S Wr (fuel + 1) listed a := by
  subst hd
  simp only [Bool.and_eq_true] at hah
  exact AnyL.first hi (Region.noSelect_spec hs) hQ hah.1.1 (by simpa using hah.1.2) fuel listed a (Region.free_spec hi hf) (by simpa using hr) (closed_spec hah.2) (.inl ⟨hw, fun w hS => by
    have hfv : a.eval (.func f) = .func (.func f) #[] #[] := rfl
    have he : (execOp a.eval oi).run P w = .ok (.enter f vs) w := by
      simp only [execOp, ho]
      have h1 : fn.name ≠ "runtime.NumGoroutine" := by simpa using hname
      simp [resolve, hv, hfv, Deferred.ofValue, invoke, callFunc, hfn, h1]
      intro hn
      simp [hn] at hb
    rw [he]
    exact hc w hS⟩) h

/-- Number i as it comes, by a law on its operation. -/
theorem wpOp_wp {i : Nat} {o : Oper} {K : Act → World → Prop} {a : Act} {w : World} (hi : ops[i]? = some o) (hw : Region.wanted o (yielded ops a.tmps) = true) (h : Oper.wp P o a w K Q) : wpOp P ops Q i K a w := by
  unfold Go.wpOp
  simp only [hi, hw, if_true]
  exact .inl h

end
end Go.Proofs.Ytndnjeahepahkaa
end

