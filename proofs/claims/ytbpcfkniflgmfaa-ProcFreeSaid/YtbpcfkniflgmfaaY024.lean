/- Texts laid into one: PrdY, PrdAA. -/
import Derived.Test.YtbpcfkniflgmfaaY019
import Derived.Test.YtbpcfkniflgmfaaY022
section
/- proc: the mathematics of who is helped, as the law says it. -/
namespace Go.Proofs.Ytbpcfkniflgmfaa.prc
open Go Go.RowKit

theorem who_is {i P : Nat} (h : i < P) (hP : P ≤ 5) : ((i : Nat) : Int) = ((i : Int) % 256).tmod P := by
  rw [Int.emod_eq_of_lt (by omega) (by omega), Int.tmod_eq_emod_of_nonneg (by omega), Int.emod_eq_of_lt (by omega) (by omega)]

theorem rem_le (L : Nat) (x : Pc) (h : x.next ≤ 5) : x.next = 0 ∨ rem L x ≤ 2 + 3 * L := by
  rcases (show x.next = 0 ∨ x.next = 1 ∨ x.next = 2 ∨ x.next = 3 ∨ x.next = 4 ∨ x.next = 5 by omega) with e | e | e | e | e | e
  · exact .inl e
  · rw [rem1 _ e]; omega
  · rw [rem2 _ e]; omega
  · rw [rem3 _ e]; omega
  · rw [rem4 _ e]; omega
  · rw [rem5 _ e]; omega

theorem step_less {P L j : Nat} {A : Ab} {i : Nat} (hG : Good P L A) (h : (A.X i).next = 0 ∨ rem L (A.X i) + j ≤ 2 + 3 * L) (body : ByteArray) :
    ((doAb P L A 1 i body).1.X i).next = 0 ∨ rem L ((doAb P L A 1 i body).1.X i) + (j + 1) ≤ 2 + 3 * L := by
  have hr := doAb_rem (kind := 1) (i := i) (body := body) hG
  by_cases h0 : (A.X i).next = 0
  · left
    have e : doAb P L A 1 i body = prc.step P L A i := if_pos rfl
    rw [e, step_idle h0]
    exact h0
  · rw [if_neg h0] at hr
    right
    have := hr.2
    rw [if_pos rfl] at this
    rcases h with h | h
    · exact absurd h h0
    · omega

/-- A wish that was just written. -/
theorem wished_helped {P L D : Nat} {A : Ab} {i : Nat} (hI : Inv P L D A) (hi : i < P) (s : ByteArray) {j : Nat} (hj : D < j) (ht : j % P = i) :
    Helped P L D j i (prc.step P L (begins A i s) i).1 ∧ Inv P L D (prc.step P L (begins A i s) i).1 ∧ prc.mine (prc.step P L (begins A i s) i).1 i = ⟨i, (A.X i).seq + 1, s⟩ := by
  have hB := hI.begins (i := i) s
  have hx : (begins A i s).X i = { A.X i with next := 1, seq := (A.X i).seq + 1, body := s } := begins_at A i s
  have hst : prc.step P L (begins A i s) i = prc.wishes L (begins A i s) i := by unfold prc.step; rw [hx]; rfl
  have hseq := step_seq (P := P) (L := L) (a := begins A i s) (i := i) i
  rw [hx] at hseq
  have hm : prc.mine (prc.step P L (begins A i s) i).1 i = ⟨i, (A.X i).seq + 1, s⟩ := by
    unfold prc.mine
    rw [hseq.1, hseq.2]
  have hm0 : prc.mine (begins A i s) i = ⟨i, (A.X i).seq + 1, s⟩ := by unfold prc.mine; rw [hx]
  have hS : (prc.step P L (begins A i s) i).1.S = A.S := by rw [hst]; unfold prc.wishes; split <;> rfl
  have hW : (prc.step P L (begins A i s) i).1.W i = some (prc.mine (prc.step P L (begins A i s) i).1 i) := by
    rw [hm, ← hm0, hst]
    unfold prc.wishes
    split
    · exact up_same _ _ _
    · exact up_same _ _ _
  obtain ⟨D', hD', hI'⟩ := hB.step hi
  have hDD : D' = D := by
    have h1 := hI'.pre
    have h2 := hI.pre
    rw [hS] at h1
    rcases Nat.lt_trichotomy D D' with h | h | h
    · exact absurd ((h1 D).2 h) (fun h3 => Nat.lt_irrefl _ ((h2 D).1 h3))
    · exact h.symm
    · omega
  subst hDD
  refine ⟨helped_new hI' hj ht hW ?_, hI', hm⟩
  rw [hS, hseq.1]
  exact Nat.lt_succ_of_le (hI.known D')


theorem some_turn {P i : Nat} (hi : i < P) (D : Nat) : ∃ q, D + 1 ≤ q ∧ q < D + 1 + P ∧ q % P = i := by
  have hP : 0 < P := by omega
  refine ⟨D + 1 + (i + P - (D + 1) % P) % P, by omega, ?_, ?_⟩
  · have := Nat.mod_lt (i + P - (D + 1) % P) hP
    omega
  · rw [Nat.add_mod, Nat.mod_mod, ← Nat.add_mod]
    have h1 := Nat.div_add_mod (D + 1) P
    have h2 := Nat.mod_lt (D + 1) hP
    obtain ⟨r, hr⟩ : ∃ r, r = (D + 1) % P := ⟨_, rfl⟩
    rw [← hr] at h1 h2 ⊢
    have e : D + 1 + (i + P - r) = P * ((D + 1) / P) + (i + P) := by omega
    rw [e, Nat.mul_add_mod, Nat.add_mod_right, Nat.mod_eq_of_lt hi]

theorem tmod_nat (j P : Nat) : ((j : Nat) : Int).tmod (P : Int) = ((j % P : Nat) : Int) := by
  rw [Int.tmod_eq_emod_of_nonneg (by omega)]
  exact (Int.natCast_emod j P).symm

theorem doAb_mine {P L : Nat} {A : Ab} {kind : Int} {i q : Nat} {body : ByteArray} (h : i ≠ q) : prc.mine (doAb P L A kind q body).1 i = prc.mine A i := by
  unfold prc.mine
  rw [doAb_other h]
end Go.Proofs.Ytbpcfkniflgmfaa.prc
end

section
/- proc: a law's own map of counts, beside the system: no act touches it. How many steps a process still has. -/
namespace Go.Proofs.Ytbpcfkniflgmfaa.prc
open Go Go.RowKit

/-- Block mo is no process's and none of the memory's. -/
def Off (P d c m : Nat) (B : Nat → Nat) (mo : Nat) : Prop := (∀ i, i < P → B i ≠ mo) ∧ ¬ Mb d c m mo

section
variable {w V V' : World} {P L K d c m x q y mo k k' : Nat} {A : Ab} {B : Nat → Nat} {O : Nat → ByteArray} {l s v p : Value} {F : Nat → Int}

theorem Sys.fresh (h : Sys w d c m P L A K (fun i => i < P) B V) : Off P d c m B V.heap.size := by
  refine ⟨fun i hi e => ?_, ?_⟩
  · obtain ⟨z, hz, _⟩ := h.pr i hi
    have := hz.lt
    omega
  · exact (h.below ((Below.refl _ V).alloc (Nat.le_refl _) (.cells #[] 33))).mm.ne (Has.made V 33 #[]) (by decide) (by decide)

theorem Ct.alloc (h : Ct w mo F k V) (o : Obj) : Ct w mo F k (V.alloc o) := h.below ((Below.refl _ V).alloc (Nat.le_refl _) o)
theorem Ct.more (h : Ct w mo F k V) (hk : k ≤ k') : Ct w mo F k' V := by
  obtain ⟨D, h1, h2, h3⟩ := h.map
  exact ⟨⟨D, h1, h2, by omega⟩, h.new⟩
theorem Ct.set7 (h : Ct w mo F k V) (hq : mo ≠ q) (a b e f i j n : Value) : Ct w mo F k (set7 V q a b e f i j n) :=
  h.turn (F := F) (G := fun j => j = q) ((((((((Turn.refl (fun j => j = q) V).put (fun _ => rfl) 0 _).put (fun _ => rfl) 1 _).put (fun _ => rfl) 2 _).put (fun _ => rfl) 3 _).put (fun _ => rfl) 4 _).put (fun _ => rfl) 5 _).put (fun _ => rfl) 6 _) hq
theorem Ct.set3 (h : Ct w mo F k V) (hq : mo ≠ q) (a b e : Value) : Ct w mo F k (set3 V q a b e) :=
  h.turn (F := F) (G := fun j => j = q) ((((Turn.refl (fun j => j = q) V).put (fun _ => rfl) 0 _).put (fun _ => rfl) 1 _).put (fun _ => rfl) 2 _) hq

/-- The map turns. -/
theorem Sd.mapped (h : Sd w P L P A K d c m B O l s v p V) (hc : Ct w mo F k V) (nb : Off P d c m B mo) (t : Turn (fun j => j = mo) V V') : Sd w P L P A K d c m B O l s v p V' := by
  refine ⟨h.sys.other t (fun j e => by rw [e]; exact hc.new) (fun j e => by rw [e]; exact nb.2) (fun j i e hi e2 => nb.1 i hi (e2.trans e)), h.good, h.sq, h.ls.turn t (fun b hb e => ?_), h.tl, h.lo, h.dw.turn t (fun b hb e => ?_) (fun b hb e => ?_) (fun b hb e => ?_)⟩
  · obtain ⟨cs, hh⟩ := prc.Seg.has h.ls hb; exact hc.ne hh e.symm
  · obtain ⟨cs, hh⟩ := prc.Seg.has h.dw.slots hb; exact hc.ne hh e.symm
  · obtain ⟨cs, hh⟩ := prc.Seg.has h.dw.wish hb; exact hc.ne hh e.symm
  · obtain ⟨cs, hh⟩ := prc.Seg.has h.dw.procs hb; exact hc.ne hh e.symm

set_option maxRecDepth 100000 in
theorem Ct.store (h : Ct w mo F k V) (hk : k < 100000) (i : Nat) (hi : i ≤ 1000) (n : Int) (hn : cel.Fits n) : ∃ V', (Instr.mapUpdate 51 (.map (some mo)) (.int .i64 i) (.int .i64 n)).run Try.prog V = .ok () V' ∧ Ct w mo (up F i n) (k + 1) V' ∧ Turn (fun j => j = mo) V V' := by
  obtain ⟨V', h1, h2, h3⟩ := h.put hk i hi n hn
  exact ⟨V', h1, h2, (Turn.refl (fun j => j = mo) V).grown h3 (fun j e _ => by injection e with e; exact e.symm)⟩

/-- Behind an act: box x holds the state of before; the map is as it was. -/
def DoC (w V : World) (P L K d c m : Nat) (A : Ab) (B : Nat → Nat) (l : Value) (dn fl : Bool) (sl : Int) (x mo : Nat) (F : Nat → Int) (k : Nat) (cx : Array Value) (en : Ending) (V' : World) : Prop :=
  ∃ (O : Nat → ByteArray) (s v p : Value), en = .returned (.tuple #[.agg (stC P L d l s v p), .agg #[.bool dn, .bool fl, .int .i64 sl], .bool true]) ∧ Sd w P L P A K d c m B O l s v p V' ∧ Has V' x 33 cx ∧ Ct w mo F k V' ∧
    ∀ (y : Nat) (t : TypeId) (cs : Array Value), Has V y t cs → t ≠ 102 → t ≠ 99 → 112 ≠ t → Has V' y t cs
theorem St.didC (h : St w P L A K d c m B O l s v p x V) (hz : Ct w mo F k V) (nb : Off P d c m B mo) {A' : Ab} {dn fl : Bool} {sl : Int} {en : Ending} {K' : Nat} (hp : DoPostI w V P L K' d c m A' B l dn fl sl en V') :
    DoC w V P L K' d c m A' B l dn fl sl x mo F k (stC P L d l s v p) en V' := by
  obtain ⟨O', s', v', p', h1, h2, h3⟩ := hp
  refine ⟨O', s', v', p', h1, h2, h.bx.turn h3 (h.sd.none_of h.bx (by decide) (by decide) (by decide)), hz.turn h3 ?_, fun y t cs hy k1 k2 k3 => hy.turn h3 (h.sd.none_of hy k1 k2 k3)⟩
  rintro (⟨i, hi, e⟩ | e | e)
  · exact nb.1 i hi e.symm
  · exact nb.2 e
  · have := hz.lt; omega

/-- No process has taken more of its own steps than are allowed, those that it still has told in. -/
def Own (P L : Nat) (A : Ab) (F : Nat → Int) : Prop := ∀ j, j < P → 0 ≤ F j ∧ F j + rem L (A.X j) ≤ 2 + 3 * (L : Int)
theorem Own.start (P L : Nat) : Own P L ab0 (fun _ => 0) := fun j _ => ⟨Int.le_refl _, by rw [rem0 _ (by rfl)]; show (0 : Int) + ((0 : Nat) : Int) ≤ _; omega⟩
/-- What becomes of the counts at an act of process i. -/
def next (F : Nat → Int) (i : Nat) (was : Bool) (kind : Int) : Nat → Int := if was = true then up F i 0 else if kind = 1 then up F i (F i + 1) else F
theorem Own.act (h : Own P L A F) (hG : Good P L A) (kind : Int) {i : Nat} (body : ByteArray) (hi : i < P) : Own P L (doAb P L A kind i body).1 (next F i (decide ((A.X i).next = 0)) kind) := by
  intro j hj
  have hr := doAb_rem (kind := kind) (i := i) (body := body) hG
  by_cases e : j = i
  · subst e
    have h0 := h j hj
    unfold next
    by_cases hn : (A.X j).next = 0
    · rw [if_pos hn] at hr
      rw [if_pos (by rw [decide_eq_true hn]), up_same]
      omega
    · rw [if_neg hn] at hr
      rw [if_neg (by rw [decide_eq_false hn]; decide)]
      by_cases hk : kind = 1
      · rw [if_pos hk, up_same]
        rw [if_pos hk] at hr
        omega
      · rw [if_neg hk]
        rw [if_neg hk] at hr
        omega
  · rw [doAb_other e]
    have h0 := h j hj
    have : next F i (decide ((A.X i).next = 0)) kind j = F j := by
      unfold next
      split
      · rw [up_other _ _ e]
      · split
        · rw [up_other _ _ e]
        · rfl
    rw [this]
    exact h0
theorem doAb_done (h : Good P L A) (kind : Int) (i : Nat) (body : ByteArray) : (doAb P L A kind i body).2.done = (!decide ((A.X i).next = 0) && decide (((doAb P L A kind i body).1.X i).next = 0)) := by
  have hr := doAb_rem (kind := kind) (i := i) (body := body) h
  by_cases hn : (A.X i).next = 0
  · rw [if_pos hn] at hr; rw [hr.2, decide_eq_true hn]; rfl
  · rw [if_neg hn] at hr; rw [hr.1, decide_eq_false hn]; rfl

theorem Py.mapped {y : Nat} {dn fl : Bool} {sl : Int} (h : Py w P L A K d c m B O l s v p x y dn fl sl V) (hc : Ct w mo F k V) (nb : Off P d c m B mo) (t : Turn (fun j => j = mo) V V') : Py w P L A K d c m B O l s v p x y dn fl sl V' :=
  ⟨⟨h.st.sd.mapped hc nb t, h.st.bx.turn t (fun e => hc.ne h.st.bx e.symm), h.st.lo⟩, h.en.turn t (fun e => hc.ne h.en e.symm)⟩
/-- The state is copied into its box. -/
theorem Pq.copied' {l0 s0 v0 p0 : Value} {y : Nat} {dn fl : Bool} {sl : Int} (h : Pq w P L A K d c m B O l s v p l0 s0 v0 p0 x q y dn fl sl V) (hx : Has V' x 33 (stC P L d l s v p)) (t : Turn (fun j => j = x) V V') : Py w P L A K d c m B O l s v p x y dn fl sl V' :=
  ⟨h.sd.boxed h.bx h.lx hx t, h.en.turn t (fun e => by have h1 := h.bx; rw [← e] at h1; exact absurd (h1.uniq h.en).2 (by decide))⟩

/-- The processes over their memory, in a state's box; the document is left behind. -/
structure Ze (w : World) (P L : Nat) (A : Ab) (K d c m : Nat) (B : Nat → Nat) (l : Value) (x : Nat) (C : Array Value) (V : World) : Prop where
  sys : Sys w d c m P L A K (fun i => i < P) B V
  good : Good P L A
  ls : Seg V 52 1 l P (ptrs B P)
  bx : Has V x 33 C
theorem Ze.below {C : Array Value} (h : Ze w P L A K d c m B l x C V) (hb : Below V.heap.size V V') : Ze w P L A K d c m B l x C V' := ⟨h.sys.below hb, h.good, h.ls.below hb (fun _ e => h.ls.lt e), h.bx.below hb h.bx.lt⟩
theorem St.ze (h : St w P L A K d c m B O l s v p x V) : Ze w P L A K d c m B l x (stC P L d l s v p) V := ⟨h.sd.sys, h.sd.good, h.sd.ls, h.bx⟩
theorem Ze.step {C : Array Value} {i : Nat} (h : Ze w P L A K d c m B l x C V) (hi : i < P) (hP : P ≤ 64) (hL : L ≤ 256) (hK : K ≤ 900000) :
    Calls Try.prog 16 #[.pointer (some ⟨B i, 0, none⟩), .pointer (some ⟨d, 0, none⟩)] V fun en V' => (∃ e : Value, en = .returned e) ∧ Ze w P L (prc.step P L A i).1 (K + 1) d c m B l x C V' := by
  refine (h.sys.step h.good hi hP hL hK).mono ?_
  rintro en V' ⟨rfl, hs, t⟩
  have key : ∀ {z : Nat} {t : TypeId} {cs : Array Value}, Has V z t cs → t ≠ 102 → t ≠ 99 → 112 ≠ t → ¬ ((∃ i, i < P ∧ z = B i) ∨ Mb d c m z) := by
    rintro z t cs hz h1 h2 h3 (⟨i, hi, rfl⟩ | hm)
    · obtain ⟨y, hy, _⟩ := h.sys.pr i hi
      exact h3 ((Has.uniq hy hz).2)
    · exact h.sys.mm.ne hz h1 h2 hm
  refine ⟨⟨_, rfl⟩, hs, h.good.step hi, h.ls.turn t (fun b hb => ?_), h.bx.turn t (key h.bx (by decide) (by decide) (by decide))⟩
  obtain ⟨cs, hc⟩ := prc.Seg.has h.ls hb
  exact key hc (by decide) (by decide) (by decide)
/-- One step more of a process: it is done, or has so many steps left. -/
theorem step_fewer {t i : Nat} (hG : Good P L A) (h : (A.X i).next = 0 ∨ rem L (A.X i) + t ≤ 2 + 3 * L) : ((prc.step P L A i).1.X i).next = 0 ∨ rem L ((prc.step P L A i).1.X i) + (t + 1) ≤ 2 + 3 * L := by
  obtain ⟨D, hI⟩ := hG.inv
  by_cases h0 : (A.X i).next = 0
  · rw [step_idle h0]; exact .inl h0
  · have h1 := step_rem hI h0 (hG.next i)
    rcases h with h | h
    · exact absurd h h0
    · exact .inr (by omega)
end
end Go.Proofs.Ytbpcfkniflgmfaa.prc
end

