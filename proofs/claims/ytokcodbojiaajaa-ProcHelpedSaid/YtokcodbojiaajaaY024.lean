/- Texts laid into one: PrdW, PrdY. -/
import Derived.Test.YtokcodbojiaajaaY019
section
/- proc: a state made since some world; what an act gives, its slot as a number. -/
namespace Go.Proofs.Ytokcodbojiaajaa.prc
open Go Go.RowKit

theorem turn_all {w w1 V : World} {P L K d c m x : Nat} {A : Ab} {B : Nat → Nat} {O : Nat → ByteArray} {l s v p : Value} (h : St w1 P L A K d c m B O l s v p x V) (b : Below w.heap.size w w1) : Turn (fun j => w.heap.size ≤ j) w V :=
  (Turn.of_below b (F := fun j => w.heap.size ≤ j) (fun _ _ e => e)).trans h.sd.sys.turn (fun _ _ e => Nat.le_trans b.size e)
theorem below_all {w w1 V : World} {P L K d c m x : Nat} {A : Ab} {B : Nat → Nat} {O : Nat → ByteArray} {l s v p : Value} (h : St w1 P L A K d c m B O l s v p x V) (b : Below w.heap.size w w1) : Below w.heap.size w V :=
  (turn_all h b).below (Nat.le_refl _) (fun _ hj e => by omega)

theorem St.later {w V : World} {P L K d c m x : Nat} {A : Ab} {B : Nat → Nat} {O : Nat → ByteArray} {l s v p : Value} (h : St w P L A K d c m B O l s v p x V) : St w P L A (K + 1) d c m B O l s v p x V := ⟨h.sd.later, h.bx, h.lo⟩

def DoPostI (w V : World) (P L K d c m : Nat) (A : Ab) (B : Nat → Nat) (l : Value) (dn fl : Bool) (sl : Int) (en : Ending) (V' : World) : Prop :=
  ∃ (O : Nat → ByteArray) (s v p : Value), en = .returned (.tuple #[.agg (stC P L d l s v p), .agg #[.bool dn, .bool fl, .int .i64 sl], .bool true]) ∧ Sd w P L P A K d c m B O l s v p V' ∧ Turn (fun j => (∃ i, i < P ∧ j = B i) ∨ Mb d c m j ∨ V.heap.size ≤ j) V V'

theorem DoPost.int {w V : World} {P L K d c m : Nat} {A : Ab} {B : Nat → Nat} {l : Value} {dn fl : Bool} {sl : Nat} {en : Ending} {V' : World} (h : DoPost w V P L K d c m A B l ⟨dn, fl, sl⟩ en V') : DoPostI w V P L K d c m A B l dn fl sl en V' := h

/-- Behind an act: its box still holds the state of before. -/
theorem St.didI {w V V' : World} {P L K d c m x : Nat} {A : Ab} {B : Nat → Nat} {O : Nat → ByteArray} {l s v p : Value} (h : St w P L A K d c m B O l s v p x V) {A' : Ab} {dn fl : Bool} {sl : Int} {en : Ending} {K' : Nat} (hp : DoPostI w V P L K' d c m A' B l dn fl sl en V') :
    ∃ (O' : Nat → ByteArray) (s' v' p' : Value), en = .returned (.tuple #[.agg (stC P L d l s' v' p'), .agg #[.bool dn, .bool fl, .int .i64 sl], .bool true]) ∧ Sd w P L P A' K' d c m B O' l s' v' p' V' ∧ Has V' x 33 (stC P L d l s v p) ∧ Turn (fun j => (∃ i, i < P ∧ j = B i) ∨ Mb d c m j ∨ V.heap.size ≤ j) V V' := by
  obtain ⟨O', s', v', p', h1, h2, h3⟩ := hp
  exact ⟨O', s', v', p', h1, h2, h.bx.turn h3 (h.sd.none_of h.bx (by decide) (by decide) (by decide)), h3⟩

/-- Behind an act: what it gives; the boxes x and z, and any other block that is no process's and none of the memory's, are as they were. -/
def DoZ (w V : World) (P L K d c m : Nat) (A : Ab) (B : Nat → Nat) (l : Value) (dn fl : Bool) (sl : Int) (x z : Nat) (cx cz : Array Value) (en : Ending) (V' : World) : Prop :=
  ∃ (O : Nat → ByteArray) (s v p : Value), en = .returned (.tuple #[.agg (stC P L d l s v p), .agg #[.bool dn, .bool fl, .int .i64 sl], .bool true]) ∧ Sd w P L P A K d c m B O l s v p V' ∧ Has V' x 33 cx ∧ Has V' z 47 cz ∧
    ∀ (y : Nat) (t : TypeId) (cs : Array Value), Has V y t cs → t ≠ 99 → t ≠ 104 → 114 ≠ t → Has V' y t cs
theorem St.didZ {w V V' : World} {P L K d c m x z : Nat} {A : Ab} {B : Nat → Nat} {O : Nat → ByteArray} {l s v p : Value} {cz : Array Value} (h : St w P L A K d c m B O l s v p x V) (hz : Has V z 47 cz) {A' : Ab} {dn fl : Bool} {sl : Int} {en : Ending} {K' : Nat} (hp : DoPostI w V P L K' d c m A' B l dn fl sl en V') :
    DoZ w V P L K' d c m A' B l dn fl sl x z (stC P L d l s v p) cz en V' := by
  obtain ⟨O', s', v', p', h1, h2, h3⟩ := hp
  exact ⟨O', s', v', p', h1, h2, h.bx.turn h3 (h.sd.none_of h.bx (by decide) (by decide) (by decide)), hz.turn h3 (h.sd.none_of hz (by decide) (by decide) (by decide)), fun y t cs hy k1 k2 k3 => hy.turn h3 (h.sd.none_of hy k1 k2 k3)⟩

/-- What a law reads ahead of an act: the state in box x, the act. -/
structure Rz (b o k : Nat) (kind who : Int) (body : ByteArray) (x : Nat) (C : Array Value) (V : World) : Prop where
  hx : Has V x 33 C
  c0 : V.cell? ⟨b, o + k * 3, none⟩ = some (.int .i64 kind)
  c1 : V.cell? ⟨b, o + k * 3 + 1, none⟩ = some (.int .i64 who)
  c2 : V.cell? ⟨b, o + k * 3 + 2, none⟩ = some (.string body)
  hb : b < V.heap.size
section
variable {b o k : Nat} {kind who : Int} {body : ByteArray} {x : Nat} {C : Array Value} {V : World}
theorem Rz.drew (h : Rz b o k kind who body x C V) : Rz b o k kind who body x C V.drew := ⟨h.hx.drew, h.c0, h.c1, h.c2, h.hb⟩
theorem Rz.alloc (h : Rz b o k kind who body x C V) (ob : Obj) : Rz b o k kind who body x C (V.alloc ob) := by
  have hc : ∀ q : Nat, (V.alloc ob).cell? ⟨b, q, none⟩ = V.cell? ⟨b, q, none⟩ := fun q => (Turn.cell (F := fun j => V.heap.size ≤ j) (Turn.of_below ((Below.refl _ V).alloc (Nat.le_refl _) ob) (fun _ _ e => e)) h.hb (by show ¬ V.heap.size ≤ b; have := h.hb; omega))
  exact ⟨h.hx.alloc _, (hc _).trans h.c0, (hc _).trans h.c1, (hc _).trans h.c2, by simp; have := h.hb; omega⟩
theorem Rz.far (h : Rz b o k kind who body x C V) {y : Nat} (h1 : x ≠ y) (h2 : b ≠ y) (i : Nat) (u : Value) : Rz b o k kind who body x C (V.setCell ⟨y, i, none⟩ u) := by
  have t : Turn (fun j => j = y) V (V.setCell ⟨y, i, none⟩ u) := (Turn.refl (fun j => j = y) V).put (fun _ => rfl) i u
  have hc : ∀ q : Nat, (V.setCell ⟨y, i, none⟩ u).cell? ⟨b, q, none⟩ = V.cell? ⟨b, q, none⟩ := fun q => t.cell h.hb (by exact h2)
  exact ⟨h.hx.turn t h1, (hc _).trans h.c0, (hc _).trans h.c1, (hc _).trans h.c2, Nat.lt_of_lt_of_le h.hb t.size⟩
theorem Rz.all {P L d : Nat} {l s v p : Value} (h : Rz b o k kind who body x (stC P L d l s v p) V) : Rz b o k kind who body x (stC P L d l s v p) V ∧ V.cell? ⟨x, 0, none⟩ = some (.int .i64 P) ∧ V.cell? ⟨x, 1, none⟩ = some (.int .i64 L) ∧ V.cell? ⟨x, 2, none⟩ = some (.pointer (some ⟨d, 0, none⟩)) ∧ V.cell? ⟨x, 3, none⟩ = some l ∧ V.cell? ⟨x, 4, none⟩ = some s ∧ V.cell? ⟨x, 5, none⟩ = some v ∧ V.cell? ⟨x, 6, none⟩ = some p ∧
    V.cell? ⟨b, o + k * 3, none⟩ = some (.int .i64 kind) ∧ V.cell? ⟨b, o + k * 3 + 1, none⟩ = some (.int .i64 who) ∧ V.cell? ⟨b, o + k * 3 + 2, none⟩ = some (.string body) ∧ b < V.heap.size ∧ x < V.heap.size :=
  ⟨h, h.hx.cell 0, h.hx.cell 1, h.hx.cell 2, h.hx.cell 3, h.hx.cell 4, h.hx.cell 5, h.hx.cell 6, h.c0, h.c1, h.c2, h.hb, h.hx.lt⟩
end
end Go.Proofs.Ytokcodbojiaajaa.prc
end

section
/- proc: the mathematics of who is helped, as the law says it. -/
namespace Go.Proofs.Ytokcodbojiaajaa.prc
open Go Go.RowKit

theorem who_is {i P : Nat} (h : i < P) (hP : P ≤ 5) : ((i : Nat) : Int) = ((i : Int) % 256).tmod P := by
  rw [Int.emod_eq_of_lt (by omega) (by omega), Int.tmod_eq_emod_of_nonneg (by omega), Int.emod_eq_of_lt (by omega) (by omega)]

theorem rem_le (L : Nat) (x : Pc) (h : x.next ≤ 5) : x.next = 0 ∨ rem L x ≤ 2 + 3 * L := by
  rcases (show x.next = 0 ∨ x.next = 1 ∨ x.next = 2 ∨ x.next = 3 ∨ x.next = 4 ∨ x.next = 5 by omega) with e | e | e | e | e | e
  · exact .inl e
  · rw [rem1 _ e]; omega
  · rw [rem2 _ e]; omega
  · rw [rem3 _ e]; omega
  · rw [rem4 _ e]; omega
  · rw [rem5 _ e]; omega

theorem step_less {P L j : Nat} {A : Ab} {i : Nat} (hG : Good P L A) (h : (A.X i).next = 0 ∨ rem L (A.X i) + j ≤ 2 + 3 * L) (body : ByteArray) :
    ((doAb P L A 1 i body).1.X i).next = 0 ∨ rem L ((doAb P L A 1 i body).1.X i) + (j + 1) ≤ 2 + 3 * L := by
  have hr := doAb_rem (kind := 1) (i := i) (body := body) hG
  by_cases h0 : (A.X i).next = 0
  · left
    have e : doAb P L A 1 i body = prc.step P L A i := if_pos rfl
    rw [e, step_idle h0]
    exact h0
  · rw [if_neg h0] at hr
    right
    have := hr.2
    rw [if_pos rfl] at this
    rcases h with h | h
    · exact absurd h h0
    · omega

/-- A wish that was just written. -/
theorem wished_helped {P L D : Nat} {A : Ab} {i : Nat} (hI : Inv P L D A) (hi : i < P) (s : ByteArray) {j : Nat} (hj : D < j) (ht : j % P = i) :
    Helped P L D j i (prc.step P L (begins A i s) i).1 ∧ Inv P L D (prc.step P L (begins A i s) i).1 ∧ prc.mine (prc.step P L (begins A i s) i).1 i = ⟨i, (A.X i).seq + 1, s⟩ := by
  have hB := hI.begins (i := i) s
  have hx : (begins A i s).X i = { A.X i with next := 1, seq := (A.X i).seq + 1, body := s } := begins_at A i s
  have hst : prc.step P L (begins A i s) i = prc.wishes L (begins A i s) i := by unfold prc.step; rw [hx]; rfl
  have hseq := step_seq (P := P) (L := L) (a := begins A i s) (i := i) i
  rw [hx] at hseq
  have hm : prc.mine (prc.step P L (begins A i s) i).1 i = ⟨i, (A.X i).seq + 1, s⟩ := by
    unfold prc.mine
    rw [hseq.1, hseq.2]
  have hm0 : prc.mine (begins A i s) i = ⟨i, (A.X i).seq + 1, s⟩ := by unfold prc.mine; rw [hx]
  have hS : (prc.step P L (begins A i s) i).1.S = A.S := by rw [hst]; unfold prc.wishes; split <;> rfl
  have hW : (prc.step P L (begins A i s) i).1.W i = some (prc.mine (prc.step P L (begins A i s) i).1 i) := by
    rw [hm, ← hm0, hst]
    unfold prc.wishes
    split
    · exact up_same _ _ _
    · exact up_same _ _ _
  obtain ⟨D', hD', hI'⟩ := hB.step hi
  have hDD : D' = D := by
    have h1 := hI'.pre
    have h2 := hI.pre
    rw [hS] at h1
    rcases Nat.lt_trichotomy D D' with h | h | h
    · exact absurd ((h1 D).2 h) (fun h3 => Nat.lt_irrefl _ ((h2 D).1 h3))
    · exact h.symm
    · omega
  subst hDD
  refine ⟨helped_new hI' hj ht hW ?_, hI', hm⟩
  rw [hS, hseq.1]
  exact Nat.lt_succ_of_le (hI.known D')


theorem some_turn {P i : Nat} (hi : i < P) (D : Nat) : ∃ q, D + 1 ≤ q ∧ q < D + 1 + P ∧ q % P = i := by
  have hP : 0 < P := by omega
  refine ⟨D + 1 + (i + P - (D + 1) % P) % P, by omega, ?_, ?_⟩
  · have := Nat.mod_lt (i + P - (D + 1) % P) hP
    omega
  · rw [Nat.add_mod, Nat.mod_mod, ← Nat.add_mod]
    have h1 := Nat.div_add_mod (D + 1) P
    have h2 := Nat.mod_lt (D + 1) hP
    obtain ⟨r, hr⟩ : ∃ r, r = (D + 1) % P := ⟨_, rfl⟩
    rw [← hr] at h1 h2 ⊢
    have e : D + 1 + (i + P - r) = P * ((D + 1) / P) + (i + P) := by omega
    rw [e, Nat.mul_add_mod, Nat.add_mod_right, Nat.mod_eq_of_lt hi]

theorem tmod_nat (j P : Nat) : ((j : Nat) : Int).tmod (P : Int) = ((j % P : Nat) : Int) := by
  rw [Int.tmod_eq_emod_of_nonneg (by omega)]
  exact (Int.natCast_emod j P).symm

theorem doAb_mine {P L : Nat} {A : Ab} {kind : Int} {i q : Nat} {body : ByteArray} (h : i ≠ q) : prc.mine (doAb P L A kind q body).1 i = prc.mine A i := by
  unfold prc.mine
  rw [doAb_other h]
end Go.Proofs.Ytokcodbojiaajaa.prc
end

