/- Texts laid into one: PrdW, PrdX, PrdZ. -/
import Derived.Test.YtbpcfkniflgmfaaY019
section
/- proc: a state made since some world; what an act gives, its slot as a number. -/
namespace Go.Proofs.Ytbpcfkniflgmfaa.prc
open Go Go.RowKit

theorem turn_all {w w1 V : World} {P L K d c m x : Nat} {A : Ab} {B : Nat → Nat} {O : Nat → ByteArray} {l s v p : Value} (h : St w1 P L A K d c m B O l s v p x V) (b : Below w.heap.size w w1) : Turn (fun j => w.heap.size ≤ j) w V :=
  (Turn.of_below b (F := fun j => w.heap.size ≤ j) (fun _ _ e => e)).trans h.sd.sys.turn (fun _ _ e => Nat.le_trans b.size e)
theorem below_all {w w1 V : World} {P L K d c m x : Nat} {A : Ab} {B : Nat → Nat} {O : Nat → ByteArray} {l s v p : Value} (h : St w1 P L A K d c m B O l s v p x V) (b : Below w.heap.size w w1) : Below w.heap.size w V :=
  (turn_all h b).below (Nat.le_refl _) (fun _ hj e => by omega)

theorem St.later {w V : World} {P L K d c m x : Nat} {A : Ab} {B : Nat → Nat} {O : Nat → ByteArray} {l s v p : Value} (h : St w P L A K d c m B O l s v p x V) : St w P L A (K + 1) d c m B O l s v p x V := ⟨h.sd.later, h.bx, h.lo⟩

def DoPostI (w V : World) (P L K d c m : Nat) (A : Ab) (B : Nat → Nat) (l : Value) (dn fl : Bool) (sl : Int) (en : Ending) (V' : World) : Prop :=
  ∃ (O : Nat → ByteArray) (s v p : Value), en = .returned (.tuple #[.agg (stC P L d l s v p), .agg #[.bool dn, .bool fl, .int .i64 sl], .bool true]) ∧ Sd w P L P A K d c m B O l s v p V' ∧ Turn (fun j => (∃ i, i < P ∧ j = B i) ∨ Mb d c m j ∨ V.heap.size ≤ j) V V'

theorem DoPost.int {w V : World} {P L K d c m : Nat} {A : Ab} {B : Nat → Nat} {l : Value} {dn fl : Bool} {sl : Nat} {en : Ending} {V' : World} (h : DoPost w V P L K d c m A B l ⟨dn, fl, sl⟩ en V') : DoPostI w V P L K d c m A B l dn fl sl en V' := h

/-- Behind an act: its box still holds the state of before. -/
theorem St.didI {w V V' : World} {P L K d c m x : Nat} {A : Ab} {B : Nat → Nat} {O : Nat → ByteArray} {l s v p : Value} (h : St w P L A K d c m B O l s v p x V) {A' : Ab} {dn fl : Bool} {sl : Int} {en : Ending} {K' : Nat} (hp : DoPostI w V P L K' d c m A' B l dn fl sl en V') :
    ∃ (O' : Nat → ByteArray) (s' v' p' : Value), en = .returned (.tuple #[.agg (stC P L d l s' v' p'), .agg #[.bool dn, .bool fl, .int .i64 sl], .bool true]) ∧ Sd w P L P A' K' d c m B O' l s' v' p' V' ∧ Has V' x 33 (stC P L d l s v p) ∧ Turn (fun j => (∃ i, i < P ∧ j = B i) ∨ Mb d c m j ∨ V.heap.size ≤ j) V V' := by
  obtain ⟨O', s', v', p', h1, h2, h3⟩ := hp
  exact ⟨O', s', v', p', h1, h2, h.bx.turn h3 (h.sd.none_of h.bx (by decide) (by decide) (by decide)), h3⟩

/-- Behind an act: what it gives; the boxes x and z, and any other block that is no process's and none of the memory's, are as they were. -/
def DoZ (w V : World) (P L K d c m : Nat) (A : Ab) (B : Nat → Nat) (l : Value) (dn fl : Bool) (sl : Int) (x z : Nat) (cx cz : Array Value) (en : Ending) (V' : World) : Prop :=
  ∃ (O : Nat → ByteArray) (s v p : Value), en = .returned (.tuple #[.agg (stC P L d l s v p), .agg #[.bool dn, .bool fl, .int .i64 sl], .bool true]) ∧ Sd w P L P A K d c m B O l s v p V' ∧ Has V' x 33 cx ∧ Has V' z 38 cz ∧
    ∀ (y : Nat) (t : TypeId) (cs : Array Value), Has V y t cs → t ≠ 102 → t ≠ 99 → 112 ≠ t → Has V' y t cs
theorem St.didZ {w V V' : World} {P L K d c m x z : Nat} {A : Ab} {B : Nat → Nat} {O : Nat → ByteArray} {l s v p : Value} {cz : Array Value} (h : St w P L A K d c m B O l s v p x V) (hz : Has V z 38 cz) {A' : Ab} {dn fl : Bool} {sl : Int} {en : Ending} {K' : Nat} (hp : DoPostI w V P L K' d c m A' B l dn fl sl en V') :
    DoZ w V P L K' d c m A' B l dn fl sl x z (stC P L d l s v p) cz en V' := by
  obtain ⟨O', s', v', p', h1, h2, h3⟩ := hp
  exact ⟨O', s', v', p', h1, h2, h.bx.turn h3 (h.sd.none_of h.bx (by decide) (by decide) (by decide)), hz.turn h3 (h.sd.none_of hz (by decide) (by decide) (by decide)), fun y t cs hy k1 k2 k3 => hy.turn h3 (h.sd.none_of hy k1 k2 k3)⟩

/-- What a law reads ahead of an act: the state in box x, the act. -/
structure Rz (b o k : Nat) (kind who : Int) (body : ByteArray) (x : Nat) (C : Array Value) (V : World) : Prop where
  hx : Has V x 33 C
  c0 : V.cell? ⟨b, o + k * 3, none⟩ = some (.int .i64 kind)
  c1 : V.cell? ⟨b, o + k * 3 + 1, none⟩ = some (.int .i64 who)
  c2 : V.cell? ⟨b, o + k * 3 + 2, none⟩ = some (.string body)
  hb : b < V.heap.size
section
variable {b o k : Nat} {kind who : Int} {body : ByteArray} {x : Nat} {C : Array Value} {V : World}
theorem Rz.drew (h : Rz b o k kind who body x C V) : Rz b o k kind who body x C V.drew := ⟨h.hx.drew, h.c0, h.c1, h.c2, h.hb⟩
theorem Rz.alloc (h : Rz b o k kind who body x C V) (ob : Obj) : Rz b o k kind who body x C (V.alloc ob) := by
  have hc : ∀ q : Nat, (V.alloc ob).cell? ⟨b, q, none⟩ = V.cell? ⟨b, q, none⟩ := fun q => (Turn.cell (F := fun j => V.heap.size ≤ j) (Turn.of_below ((Below.refl _ V).alloc (Nat.le_refl _) ob) (fun _ _ e => e)) h.hb (by show ¬ V.heap.size ≤ b; have := h.hb; omega))
  exact ⟨h.hx.alloc _, (hc _).trans h.c0, (hc _).trans h.c1, (hc _).trans h.c2, by simp; have := h.hb; omega⟩
theorem Rz.far (h : Rz b o k kind who body x C V) {y : Nat} (h1 : x ≠ y) (h2 : b ≠ y) (i : Nat) (u : Value) : Rz b o k kind who body x C (V.setCell ⟨y, i, none⟩ u) := by
  have t : Turn (fun j => j = y) V (V.setCell ⟨y, i, none⟩ u) := (Turn.refl (fun j => j = y) V).put (fun _ => rfl) i u
  have hc : ∀ q : Nat, (V.setCell ⟨y, i, none⟩ u).cell? ⟨b, q, none⟩ = V.cell? ⟨b, q, none⟩ := fun q => t.cell h.hb (by exact h2)
  exact ⟨h.hx.turn t h1, (hc _).trans h.c0, (hc _).trans h.c1, (hc _).trans h.c2, Nat.lt_of_lt_of_le h.hb t.size⟩
theorem Rz.all {P L d : Nat} {l s v p : Value} (h : Rz b o k kind who body x (stC P L d l s v p) V) : Rz b o k kind who body x (stC P L d l s v p) V ∧ V.cell? ⟨x, 0, none⟩ = some (.int .i64 P) ∧ V.cell? ⟨x, 1, none⟩ = some (.int .i64 L) ∧ V.cell? ⟨x, 2, none⟩ = some (.pointer (some ⟨d, 0, none⟩)) ∧ V.cell? ⟨x, 3, none⟩ = some l ∧ V.cell? ⟨x, 4, none⟩ = some s ∧ V.cell? ⟨x, 5, none⟩ = some v ∧ V.cell? ⟨x, 6, none⟩ = some p ∧
    V.cell? ⟨b, o + k * 3, none⟩ = some (.int .i64 kind) ∧ V.cell? ⟨b, o + k * 3 + 1, none⟩ = some (.int .i64 who) ∧ V.cell? ⟨b, o + k * 3 + 2, none⟩ = some (.string body) ∧ b < V.heap.size ∧ x < V.heap.size :=
  ⟨h, h.hx.cell 0, h.hx.cell 1, h.hx.cell 2, h.hx.cell 3, h.hx.cell 4, h.hx.cell 5, h.hx.cell 6, h.c0, h.c1, h.c2, h.hb, h.hx.lt⟩
end
end Go.Proofs.Ytbpcfkniflgmfaa.prc
end

section
/- proc: an act's state and end in boxes of their own, the state then copied: what holds, in whatever order that came. -/
namespace Go.Proofs.Ytbpcfkniflgmfaa.prc
open Go Go.RowKit

abbrev set7 (V : World) (x : Nat) (a b e f i j k : Value) : World :=
  ((((((V.setCell ⟨x, 0, none⟩ a).setCell ⟨x, 1, none⟩ b).setCell ⟨x, 2, none⟩ e).setCell ⟨x, 3, none⟩ f).setCell ⟨x, 4, none⟩ i).setCell ⟨x, 5, none⟩ j).setCell ⟨x, 6, none⟩ k
abbrev setS (V : World) (x P L d : Nat) (l s v p : Value) : World := set7 V x (.int .i64 P) (.int .i64 L) (.pointer (some ⟨d, 0, none⟩)) l s v p
abbrev set3 (V : World) (y : Nat) (a b e : Value) : World := ((V.setCell ⟨y, 0, none⟩ a).setCell ⟨y, 1, none⟩ b).setCell ⟨y, 2, none⟩ e

/-- The state in its box x, how an act ended in y. -/
structure Py (w1 : World) (P L : Nat) (A : Ab) (K d c m : Nat) (B : Nat → Nat) (O : Nat → ByteArray) (l s v p : Value) (x y : Nat) (dn fl : Bool) (sl : Int) (V : World) : Prop where
  st : St w1 P L A K d c m B O l s v p x V
  en : Has V y 42 #[.bool dn, .bool fl, .int .i64 sl]

/-- Blocks of other types are as they were. -/
def Rest (V V' : World) : Prop := ∀ (z : Nat) (t : TypeId) (cs : Array Value), Has V z t cs → t ≠ 33 → t ≠ 42 → Has V' z t cs

section
variable {w1 V V' : World} {P L K d c m x y q : Nat} {A : Ab} {B : Nat → Nat} {O : Nat → ByteArray} {l s v p l0 s0 v0 p0 : Value} {dn fl : Bool} {sl : Int}
theorem Py.below (h : Py w1 P L A K d c m B O l s v p x y dn fl sl V) (hb : Below V.heap.size V V') : Py w1 P L A K d c m B O l s v p x y dn fl sl V' := ⟨h.st.below hb, h.en.below hb h.en.lt⟩
theorem Py.drew (h : Py w1 P L A K d c m B O l s v p x y dn fl sl V) : Py w1 P L A K d c m B O l s v p x y dn fl sl V.drew := ⟨h.st.drew, h.en.drew⟩

theorem rest_turn {F : Nat → Prop} (t : Turn F V V') (h : ∀ z t cs, Has V z t cs → t ≠ 33 → t ≠ 42 → ¬ F z) : Rest V V' := fun z t' cs hz h1 h2 => hz.turn t (h z t' cs hz h1 h2)
theorem Rest.trans {V'' : World} (h : Rest V V') (h2 : Rest V' V'') : Rest V V'' := fun z t cs hz k1 k2 => h2 z t cs (h z t cs hz k1 k2) k1 k2
theorem rest_alloc (V : World) (o : Obj) : Rest V (V.alloc o) := fun _ _ _ hz _ _ => hz.alloc o

/-- The seven cells of a box of a state. -/
theorem turned7 (h : Sd w1 P L P A K d c m B O l s v p V) {a b e f i j k a' b' e' f' i' j' k' : Value} (hq : Has V q 33 #[a, b, e, f, i, j, k]) (lo : w1.heap.size ≤ q) :
    Sd w1 P L P A K d c m B O l s v p (set7 V q a' b' e' f' i' j' k') ∧ Has (set7 V q a' b' e' f' i' j' k') q 33 #[a', b', e', f', i', j', k'] ∧ Rest V (set7 V q a' b' e' f' i' j' k') ∧ Turn (fun j => j = q) V (set7 V q a' b' e' f' i' j' k') := by
  obtain ⟨h1, t1⟩ := prc.put7 (a' := a') (b' := b') (e' := e') (f' := f') (i' := i') (j' := j') (k' := k') hq
  exact ⟨h.turned hq t1 lo (by decide) (by decide) (by decide) (by decide) (by decide) (by decide), h1, rest_turn t1 (fun z t cs hz k1 _ e => by subst e; exact k1 (hz.uniq hq).2), t1⟩
theorem turned3 (h : Sd w1 P L P A K d c m B O l s v p V) {a b e a' b' e' : Value} (hy : Has V y 42 #[a, b, e]) (lo : w1.heap.size ≤ y) :
    Sd w1 P L P A K d c m B O l s v p (set3 V y a' b' e') ∧ Has (set3 V y a' b' e') y 42 #[a', b', e'] ∧ Rest V (set3 V y a' b' e') ∧ Turn (fun j => j = y) V (set3 V y a' b' e') := by
  have t1 : Turn (fun j => j = y) V (set3 V y a' b' e') := (((Turn.refl (fun j => j = y) V).put (fun _ => rfl) 0 _).put (fun _ => rfl) 1 _).put (fun _ => rfl) 2 _
  exact ⟨h.turned hy t1 lo (by decide) (by decide) (by decide) (by decide) (by decide) (by decide), by simpa using ((hy.put 0 a').put 1 b').put 2 e', rest_turn t1 (fun z t cs hz _ k2 e => by subst e; exact k2 (hz.uniq hy).2), t1⟩

variable (h : Sd w1 P L P A K d c m B O l s v p V) (hx : Has V x 33 (stC P L d l0 s0 v0 p0)) (lx : w1.heap.size ≤ x)
include h hx lx
theorem aft1 : Py w1 P L A K d c m B O l s v p x (V.heap.size + 1) dn fl sl (((setS V x P L d l s v p).alloc (.cells (stC P L d l s v p) 33)).alloc (.cells #[.bool dn, .bool fl, .int .i64 sl] 42)) ∧
    Rest V (((setS V x P L d l s v p).alloc (.cells (stC P L d l s v p) 33)).alloc (.cells #[.bool dn, .bool fl, .int .i64 sl] 42)) := by
  obtain ⟨h1, h2, h3, _⟩ := turned7 (a' := .int .i64 P) (b' := .int .i64 L) (e' := .pointer (some ⟨d, 0, none⟩)) (f' := l) (i' := s) (j' := v) (k' := p) h hx lx
  exact ⟨⟨(St.mk h1 h2 lx).alloc _ |>.alloc _, made_at _ _ (by simp)⟩, (h3.trans (rest_alloc _ _)).trans (rest_alloc _ _)⟩
theorem aft2 : Py w1 P L A K d c m B O l s v p x V.heap.size dn fl sl (((setS V x P L d l s v p).alloc (.cells #[.bool dn, .bool fl, .int .i64 sl] 42)).alloc (.cells (stC P L d l s v p) 33)) ∧
    Rest V (((setS V x P L d l s v p).alloc (.cells #[.bool dn, .bool fl, .int .i64 sl] 42)).alloc (.cells (stC P L d l s v p) 33)) := by
  obtain ⟨h1, h2, h3, _⟩ := turned7 (a' := .int .i64 P) (b' := .int .i64 L) (e' := .pointer (some ⟨d, 0, none⟩)) (f' := l) (i' := s) (j' := v) (k' := p) h hx lx
  exact ⟨⟨(St.mk h1 h2 lx).alloc _ |>.alloc _, (made_at _ _ (by simp)).alloc _⟩, (h3.trans (rest_alloc _ _)).trans (rest_alloc _ _)⟩
theorem aft3 (hq : Has V q 33 stZ) (lq : w1.heap.size ≤ q) (xq : x ≠ q) : Py w1 P L A K d c m B O l s v p x V.heap.size dn fl sl ((setS (setS V q P L d l s v p) x P L d l s v p).alloc (.cells #[.bool dn, .bool fl, .int .i64 sl] 42)) ∧
    Rest V ((setS (setS V q P L d l s v p) x P L d l s v p).alloc (.cells #[.bool dn, .bool fl, .int .i64 sl] 42)) := by
  obtain ⟨g1, _, g3, g4⟩ := turned7 (a' := .int .i64 P) (b' := .int .i64 L) (e' := .pointer (some ⟨d, 0, none⟩)) (f' := l) (i' := s) (j' := v) (k' := p) h hq lq
  obtain ⟨h1, h2, h3, _⟩ := turned7 (a' := .int .i64 P) (b' := .int .i64 L) (e' := .pointer (some ⟨d, 0, none⟩)) (f' := l) (i' := s) (j' := v) (k' := p) g1 (hx.turn g4 xq) lx
  exact ⟨⟨(St.mk h1 h2 lx).alloc _, made_at _ _ (by simp)⟩, (g3.trans h3).trans (rest_alloc _ _)⟩
theorem aft5 {e0 e1 e2 : Value} (hy : Has V y 42 #[e0, e1, e2]) (ly : w1.heap.size ≤ y) : Py w1 P L A K d c m B O l s v p x y dn fl sl ((setS (set3 V y (.bool dn) (.bool fl) (.int .i64 sl)) x P L d l s v p).alloc (.cells (stC P L d l s v p) 33)) ∧
    Rest V ((setS (set3 V y (.bool dn) (.bool fl) (.int .i64 sl)) x P L d l s v p).alloc (.cells (stC P L d l s v p) 33)) := by
  have xy : x ≠ y := fun e => by subst e; exact absurd (hx.uniq hy).2 (by decide)
  obtain ⟨g1, g2, g3, g4⟩ := turned3 (a' := .bool dn) (b' := .bool fl) (e' := .int .i64 sl) h hy ly
  obtain ⟨h1, h2, h3, h4⟩ := turned7 (a' := .int .i64 P) (b' := .int .i64 L) (e' := .pointer (some ⟨d, 0, none⟩)) (f' := l) (i' := s) (j' := v) (k' := p) g1 (hx.turn g4 xy) lx
  exact ⟨⟨(St.mk h1 h2 lx).alloc _, (g2.turn h4 (fun e => xy e.symm)).alloc _⟩, (g3.trans h3).trans (rest_alloc _ _)⟩
theorem aft4 {e0 e1 e2 : Value} (hq : Has V q 33 stZ) (lq : w1.heap.size ≤ q) (xq : x ≠ q) (hy : Has V y 42 #[e0, e1, e2]) (ly : w1.heap.size ≤ y) : Py w1 P L A K d c m B O l s v p x y dn fl sl (setS (set3 (setS V q P L d l s v p) y (.bool dn) (.bool fl) (.int .i64 sl)) x P L d l s v p) ∧
    Rest V (setS (set3 (setS V q P L d l s v p) y (.bool dn) (.bool fl) (.int .i64 sl)) x P L d l s v p) := by
  have xy : x ≠ y := fun e => by subst e; exact absurd (hx.uniq hy).2 (by decide)
  have yq : y ≠ q := fun e => by subst e; exact absurd (hq.uniq hy).2 (by decide)
  obtain ⟨f1, _, f3, f4⟩ := turned7 (a' := .int .i64 P) (b' := .int .i64 L) (e' := .pointer (some ⟨d, 0, none⟩)) (f' := l) (i' := s) (j' := v) (k' := p) h hq lq
  obtain ⟨g1, g2, g3, g4⟩ := turned3 (a' := .bool dn) (b' := .bool fl) (e' := .int .i64 sl) f1 (hy.turn f4 yq) ly
  obtain ⟨h1, h2, h3, h4⟩ := turned7 (a' := .int .i64 P) (b' := .int .i64 L) (e' := .pointer (some ⟨d, 0, none⟩)) (f' := l) (i' := s) (j' := v) (k' := p) g1 ((hx.turn f4 xq).turn g4 xy) lx
  exact ⟨⟨St.mk h1 h2 lx, g2.turn h4 (fun e => xy e.symm)⟩, (f3.trans g3).trans h3⟩
end
end Go.Proofs.Ytbpcfkniflgmfaa.prc
end

section
/- proc: an act's state and end in boxes of their own, ahead of the copy: what holds, in whatever order that came. -/
namespace Go.Proofs.Ytbpcfkniflgmfaa.prc
open Go Go.RowKit

/-- The state of before in its box x, the state behind in q, how the act ended in y. -/
structure Pq (w1 : World) (P L : Nat) (A : Ab) (K d c m : Nat) (B : Nat → Nat) (O : Nat → ByteArray) (l s v p l0 s0 v0 p0 : Value) (x q y : Nat) (dn fl : Bool) (sl : Int) (V : World) : Prop where
  sd : Sd w1 P L P A K d c m B O l s v p V
  bx : Has V x 33 (stC P L d l0 s0 v0 p0)
  lx : w1.heap.size ≤ x
  bq : Has V q 33 (stC P L d l s v p)
  en : Has V y 42 #[.bool dn, .bool fl, .int .i64 sl]
  xq : x ≠ q

section
variable {w1 V V' : World} {P L K d c m x y q : Nat} {A : Ab} {B : Nat → Nat} {O : Nat → ByteArray} {l s v p l0 s0 v0 p0 : Value} {dn fl : Bool} {sl : Int}
theorem Pq.below (h : Pq w1 P L A K d c m B O l s v p l0 s0 v0 p0 x q y dn fl sl V) (hb : Below V.heap.size V V') : Pq w1 P L A K d c m B O l s v p l0 s0 v0 p0 x q y dn fl sl V' :=
  ⟨h.sd.below hb, h.bx.below hb h.bx.lt, h.lx, h.bq.below hb h.bq.lt, h.en.below hb h.en.lt, h.xq⟩
theorem Pq.drew (h : Pq w1 P L A K d c m B O l s v p l0 s0 v0 p0 x q y dn fl sl V) : Pq w1 P L A K d c m B O l s v p l0 s0 v0 p0 x q y dn fl sl V.drew := h.below (Below.refl _ _).drew
/-- The state is copied into its box. -/
theorem Pq.copied (h : Pq w1 P L A K d c m B O l s v p l0 s0 v0 p0 x q y dn fl sl V) : Py w1 P L A K d c m B O l s v p x y dn fl sl (setS V x P L d l s v p) ∧ Rest V (setS V x P L d l s v p) := by
  have xy : x ≠ y := fun e => by have h1 := h.bx; rw [e] at h1; exact absurd (h1.uniq h.en).2 (by decide)
  obtain ⟨h1, h2, h3, h4⟩ := turned7 (a' := .int .i64 P) (b' := .int .i64 L) (e' := .pointer (some ⟨d, 0, none⟩)) (f' := l) (i' := s) (j' := v) (k' := p) h.sd h.bx h.lx
  exact ⟨⟨St.mk h1 h2 h.lx, h.en.turn h4 (fun e => xy e.symm)⟩, h3⟩
variable (h : Sd w1 P L P A K d c m B O l s v p V) (hx : Has V x 33 (stC P L d l0 s0 v0 p0)) (lx : w1.heap.size ≤ x)
include h hx lx
theorem bft1 : Pq w1 P L A K d c m B O l s v p l0 s0 v0 p0 x V.heap.size (V.heap.size + 1) dn fl sl ((V.alloc (.cells (stC P L d l s v p) 33)).alloc (.cells #[.bool dn, .bool fl, .int .i64 sl] 42)) ∧
    Rest V ((V.alloc (.cells (stC P L d l s v p) 33)).alloc (.cells #[.bool dn, .bool fl, .int .i64 sl] 42)) :=
  ⟨⟨h.below (((Below.refl _ _).alloc (Nat.le_refl _) _).alloc (by simp) _), (hx.alloc _).alloc _, lx, (made_at _ _ rfl).alloc _, made_at _ _ (by simp), by have := hx.lt; omega⟩, (rest_alloc _ _).trans (rest_alloc _ _)⟩
theorem bft2 : Pq w1 P L A K d c m B O l s v p l0 s0 v0 p0 x (V.heap.size + 1) V.heap.size dn fl sl ((V.alloc (.cells #[.bool dn, .bool fl, .int .i64 sl] 42)).alloc (.cells (stC P L d l s v p) 33)) ∧
    Rest V ((V.alloc (.cells #[.bool dn, .bool fl, .int .i64 sl] 42)).alloc (.cells (stC P L d l s v p) 33)) :=
  ⟨⟨h.below (((Below.refl _ _).alloc (Nat.le_refl _) _).alloc (by simp) _), (hx.alloc _).alloc _, lx, made_at _ _ (by simp), (made_at _ _ rfl).alloc _, by have := hx.lt; omega⟩, (rest_alloc _ _).trans (rest_alloc _ _)⟩
theorem bft3 (hq : Has V q 33 stZ) (lq : w1.heap.size ≤ q) (xq : x ≠ q) : Pq w1 P L A K d c m B O l s v p l0 s0 v0 p0 x q V.heap.size dn fl sl ((setS V q P L d l s v p).alloc (.cells #[.bool dn, .bool fl, .int .i64 sl] 42)) ∧
    Rest V ((setS V q P L d l s v p).alloc (.cells #[.bool dn, .bool fl, .int .i64 sl] 42)) := by
  obtain ⟨g1, g2, g3, g4⟩ := turned7 (a' := .int .i64 P) (b' := .int .i64 L) (e' := .pointer (some ⟨d, 0, none⟩)) (f' := l) (i' := s) (j' := v) (k' := p) h hq lq
  exact ⟨⟨g1.below ((Below.refl _ _).alloc (Nat.le_refl _) _), (hx.turn g4 xq).alloc _, lx, Has.alloc g2 _, made_at _ _ (by simp), xq⟩, g3.trans (rest_alloc _ _)⟩
theorem bft5 {e0 e1 e2 : Value} (hy : Has V y 42 #[e0, e1, e2]) (ly : w1.heap.size ≤ y) : Pq w1 P L A K d c m B O l s v p l0 s0 v0 p0 x V.heap.size y dn fl sl ((set3 V y (.bool dn) (.bool fl) (.int .i64 sl)).alloc (.cells (stC P L d l s v p) 33)) ∧
    Rest V ((set3 V y (.bool dn) (.bool fl) (.int .i64 sl)).alloc (.cells (stC P L d l s v p) 33)) := by
  have xy : x ≠ y := fun e => by subst e; exact absurd (hx.uniq hy).2 (by decide)
  obtain ⟨g1, g2, g3, g4⟩ := turned3 (a' := .bool dn) (b' := .bool fl) (e' := .int .i64 sl) h hy ly
  exact ⟨⟨g1.below ((Below.refl _ _).alloc (Nat.le_refl _) _), (hx.turn g4 xy).alloc _, lx, made_at _ _ (by simp), Has.alloc g2 _, by have := hx.lt; omega⟩, g3.trans (rest_alloc _ _)⟩
theorem bft4 {e0 e1 e2 : Value} (hq : Has V q 33 stZ) (lq : w1.heap.size ≤ q) (xq : x ≠ q) (hy : Has V y 42 #[e0, e1, e2]) (ly : w1.heap.size ≤ y) : Pq w1 P L A K d c m B O l s v p l0 s0 v0 p0 x q y dn fl sl (set3 (setS V q P L d l s v p) y (.bool dn) (.bool fl) (.int .i64 sl)) ∧
    Rest V (set3 (setS V q P L d l s v p) y (.bool dn) (.bool fl) (.int .i64 sl)) := by
  have xy : x ≠ y := fun e => by subst e; exact absurd (hx.uniq hy).2 (by decide)
  have yq : y ≠ q := fun e => by subst e; exact absurd (hq.uniq hy).2 (by decide)
  obtain ⟨f1, f2, f3, f4⟩ := turned7 (a' := .int .i64 P) (b' := .int .i64 L) (e' := .pointer (some ⟨d, 0, none⟩)) (f' := l) (i' := s) (j' := v) (k' := p) h hq lq
  obtain ⟨g1, g2, g3, g4⟩ := turned3 (a' := .bool dn) (b' := .bool fl) (e' := .int .i64 sl) f1 (hy.turn f4 yq) ly
  exact ⟨⟨g1, (hx.turn f4 xq).turn g4 xy, lx, Has.turn f2 g4 (fun e => yq e.symm), g2, xq⟩, f3.trans g3⟩
end
end Go.Proofs.Ytbpcfkniflgmfaa.prc
end

