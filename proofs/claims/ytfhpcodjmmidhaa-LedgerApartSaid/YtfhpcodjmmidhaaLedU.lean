/- ledger: two moves in one (no program's walk); the play of any ops into one book. -/
import Derived.Test.YtfhpcodjmmidhaaLedT
namespace Go.Proofs.Ytfhpcodjmmidhaa
open Go.RowKit Go.Maps Go.Sort

section
variable {H : Type}

def opM (to : ByteArray) (n : Int) : OpL := ⟨3, ⟨#[]⟩, to, n⟩

theorem opM_chk {to : ByteArray} {n : Int} (h0 : to ≠ .empty) (hz : to.size ≤ 12) (h1 : 1 ≤ n) (h2 : n ≤ 1099511627776) : chkL 3 ⟨#[]⟩ to n = 0 := by
  unfold chkL
  rw [if_neg (by decide), if_pos rfl, if_pos ⟨fun e => h0 (emp_iff.2 (e.symm.trans list_nil0)), h1, h2, by decide, hz⟩]

theorem opM_ok {D : DataW H} (I : InvF D) {to : ByteArray} {n : Int} (h0 : to ≠ .empty) (hi : isIn D to = true) (h1 : 1 ≤ n) (h2 : amt D to + n ≤ 1099511627776) : (doO D (opM to n)).2 = 0 := by
  have hl := I.inv.lo to h0
  have h3 : n ≤ 1099511627776 := by omega
  exact do_ok.2 ⟨opM_chk h0 (I.keys to hi) h1 h3, fun e => absurd (show (3 : Int) = 1 from e) (by decide), fun e => absurd (show (3 : Int) = 2 from e) (by decide), fun _ => ⟨I.house, hi, fun e => absurd rfl e, fun _ => h2⟩⟩

theorem opM_eff {D : DataW H} (I : InvF D) {to : ByteArray} {n : Int} (h : (doO D (opM to n)).2 = 0) (x : ByteArray) :
    isIn (doO D (opM to n)).1 x = isIn D x ∧ amt (doO D (opM to n)).1 x = amt D x + ((if x = to then n else 0) - (if x = .empty then n else 0)) := by
  have := do_eff I.inv.tidy.isMap h x
  refine ⟨this.1.trans ?_, this.2.trans ?_⟩
  · rfl
  · rfl

theorem moves_math {D : DataW H} (I : InvF D) {to : ByteArray} {a b : Int} (h0 : to ≠ .empty) (hi : isIn D to = true) (ha : 1 ≤ a) (hb : 1 ≤ b) (hab : amt D to + a + b ≤ 1099511627776) :
    (doO D (opM to (a + b))).2 = 0 ∧ ∀ D', Alike D' D → (doO D' (opM to a)).2 = 0 ∧ (doO (doO D' (opM to a)).1 (opM to b)).2 = 0 ∧ Alike (doO (doO D' (opM to a)).1 (opM to b)).1 (doO D (opM to (a + b))).1 := by
  have k0 := opM_ok I h0 hi (n := a + b) (by omega) (by omega)
  refine ⟨k0, fun D' al => ?_⟩
  have I' := al.inv I
  have hi' : isIn D' to = true := (al.same to).1.trans hi
  have e' := (al.same to).2
  have k1 := opM_ok I' h0 hi' (n := a) ha (by omega)
  have f1 := opM_eff I' k1
  have I1 := invF_doO I' (opM to a)
  have k2 := opM_ok I1 h0 ((f1 to).1.trans hi') (n := b) hb (by rw [(f1 to).2, if_pos rfl, if_neg h0]; omega)
  have f2 := opM_eff I1 k2
  have f0 := opM_eff I k0
  refine ⟨k1, k2, (invF_doO I1 _).good, (invF_doO I _).good, fun x => ?_⟩
  rw [(f2 x).1, (f1 x).1, (f0 x).1, (f2 x).2, (f1 x).2, (f0 x).2, (al.same x).1, (al.same x).2]
  refine ⟨rfl, ?_⟩
  split <;> split <;> omega

theorem first_name {D : DataW H} (I : InvF D) (h : 0 < (namesD D).length) : (⟨(namesD D)[0].toArray⟩ : ByteArray) ≠ .empty ∧ isIn D ⟨(namesD D)[0].toArray⟩ = true ∧ (⟨(namesD D)[0].toArray⟩ : ByteArray).size ≤ 12 := by
  have h1 := (mem_namesD I.good _).1 (List.getElem_mem h)
  exact ⟨empty_toArray h1.1, h1.2, I.keys _ h1.2⟩

end

/-- A book that was reached, made since w. -/
structure Own1 (H : Type) (w : World) (d m : Nat) (D : DataW H) (V : World) : Prop where
  bk : Bk V d m D
  inv : InvF D
  newd : w.heap.size ≤ d
  newm : w.heap.size ≤ m
  turn : Turn (fun j => w.heap.size ≤ j) w V

section
variable {H : Type} {w V V' : World} {d m : Nat} {D D' : DataW H}
theorem Own1.more (h : Own1 H w d m D V) (t : Turn (fun j => V.heap.size ≤ j) V V') : Own1 H w d m D V' :=
  ⟨h.bk.turn t (Nat.not_le_of_lt h.bk.box.lt) (Nat.not_le_of_lt (World.ownsMap.lt h.bk.map)), h.inv, h.newd, h.newm, h.turn.trans t (fun _ _ e => Nat.le_trans h.turn.size e)⟩
theorem Own1.below (h : Own1 H w d m D V) (b : Below V.heap.size V V') : Own1 H w d m D V' := h.more (Turn.of_below b (fun _ _ e => e))
theorem Own1.did (h : Own1 H w d m D V) (e : Bk V' d m D') (f : InvF D') (g : V.grownBy V' (some m)) : Own1 H w d m D' V' :=
  ⟨e, f, h.newd, h.newm, h.turn.trans (Turn.of_grown (F := fun j => j = m) g rfl) (fun j _ e => by rw [e]; exact h.newm)⟩
/-- Another book has turned. -/
theorem Own1.far (h : Own1 H w d m D V) {d2 m2 : Nat} {D2 : DataW H} (h2 : Own1 H w d2 m2 D2 V) (hne : m ≠ m2) (g : V.grownBy V' (some m2)) : Own1 H w d m D V' :=
  ⟨h.bk.kept g (fun e => by injection e with e; exact h2.bk.map.ne h.bk.box e.symm) (fun e => by injection e with e; exact hne e), h.inv, h.newd, h.newm, h.turn.trans (Turn.of_grown (F := fun j => j = m2) g rfl) (fun j _ e => by rw [e]; exact h2.newm)⟩
theorem Own1.ends (h : Own1 H w d m D V) : Below w.heap.size w V := h.turn.below (Nat.le_refl _) (fun j hj e => by omega)
end

end Go.Proofs.Ytfhpcodjmmidhaa
