/- tree: a row grows, a row is added: what is kept. -/
import Derived.Test.YtdoadmkaoboncaaGreatDoorTreeF
namespace Go.Proofs.YtdoadmkaoboncaaGreatDoor.dig
open Go Go.RowKit

theorem Seg.far {w : World} {e : TypeId} {size n : Nat} {v : Value} {xs : List Value} (h : Seg w e size v n xs) {p : Addr} (hp : v.ownBlock ≠ some p.block) (u : Value) : Seg (w.setCell p u) e size v n xs :=
  h.keep fun b hb => Below.heap_setCell w p u b (fun e => hp (by rw [hb, e]))
theorem fun_if {α : Type} {j : Nat} {a b : Nat → α} {i : Nat} (h : i ≠ j) : (fun k => if k = j then a k else b k) i = b i := if_neg h

section
variable {F : Nat → Prop} {w W : World} {b n fl K : Nat} {g c : Nat → Nat} {f : Nat → List UInt8} {rv : Value} {sv : Nat → Value} {idle : Nat → Nat}

theorem ne_types : (123 : Nat) ≠ 144 ∧ (123 : Nat) ≠ 38 ∧ (144 : Nat) ≠ 38 := by decide

theorem Raw.rv_b (h : Raw F w b n fl K g c f rv sv idle) : rv.ownBlock ≠ some b := h.rows.ne h.tree (fun e => ne_types.1 e.symm)
theorem Raw.sv_b (h : Raw F w b n fl K g c f rv sv idle) {j : Nat} (hj : j < K) : (sv j).ownBlock ≠ some b := (h.sums j hj).ne h.tree (fun e => ne_types.2.1 e.symm)
theorem Raw.rv_sv (h : Raw F w b n fl K g c f rv sv idle) {j : Nat} (hj : j < K) : ∀ x, rv.ownBlock = some x → (sv j).ownBlock ≠ some x := h.rows.apart (h.sums j hj) ne_types.2.2

/-- One sum more at the end of row j. -/
theorem Raw.push (h : Raw F w b n fl K g c f rv sv idle) {R o cap j : Nat} (hrv : rv = .slice (some ⟨R, o, none⟩) K cap) (hj : j < K) (T : Turn (fun k => (sv j).ownBlock = some k) w W)
    {g' off' cap' : Nat} {x : List UInt8} (hown : Seg W 38 32 (.slice (some ⟨g', off', none⟩) (c j - g j + 1) cap') (c j - g j + 1) (flat (nodeC f j) (g j) (c j - g j) ++ x.map byteV))
    (hat : (sv j).ownBlock = some g' ∨ w.heap.size ≤ g') (hg : g j ≤ c j) (hx : nodeC f j (c j) = x.map byteV) :
    Raw (fun k => F k ∨ w.heap.size ≤ k) (W.setCell ⟨R, o + (j * 3 + 1), none⟩ (.slice (some ⟨g', off', none⟩) (c j - g j + 1) cap')) b n fl K g (fun i => if i = j then c j + 1 else c i) f rv
      (fun i => if i = j then .slice (some ⟨g', off', none⟩) (c j - g j + 1) cap' else sv i) idle := by
  have hR : rv.ownBlock = some R := by rw [hrv]; rfl
  have hRF := h.fr R hR
  have hbR : b ≠ R := fun e => h.rv_b (by rw [hR, e])
  have hRl : R < w.heap.size := h.rows.lt hR
  have hrows : Seg W 144 3 rv K (flat (rowC g sv idle) 0 K) := h.rows.turn T (fun x hx => h.rv_sv hj x hx)
  have hRg : R ≠ g' := fun e => hrows.apart hown ne_types.2.2 R hR (by rw [e]; rfl)
  refine ⟨?_, ?_, ?_, ?_, .inl h.fb, fun x hx => .inl (h.fr x hx), ?_, h.idle⟩
  · exact (h.tree.turn T (h.sv_b hj)).far hbR _
  · have hrows2 := hrows
    rw [hrv] at hrows2
    have h2 := hrows2.put (j * 3 + 1) (.slice (some ⟨g', off', none⟩) (c j - g j + 1) cap')
    rw [flat_set (fun i _ _ => rowC_len _ _ _ i) hj (by omega)] at h2
    rw [hrv]
    have e : flat (fun i => if i = 0 + j then (rowC g sv idle i).set 1 (.slice (some ⟨g', off', none⟩) (c j - g j + 1) cap') else rowC g sv idle i) 0 K = flat (rowC g (fun i => if i = j then .slice (some ⟨g', off', none⟩) (c j - g j + 1) cap' else sv i) idle) 0 K := by
      refine flat_congr fun i _ _ => ?_
      simp only [Nat.zero_add]
      by_cases hi : i = j
      · rw [if_pos hi]; simp [rowC, hi]
      · rw [if_neg hi]; simp [rowC, hi]
    rw [← e]
    exact h2
  · intro i hi
    by_cases hij : i = j
    · subst hij
      simp only [if_pos]
      rw [Nat.sub_add_comm hg, flat_snoc, Nat.add_sub_cancel' hg, hx]
      exact Seg.far hown (by intro e; exact hRg (by injection e with e; exact e.symm)) _
    · simp only [if_neg hij]
      exact Seg.far ((h.sums i hi).turn T (fun x hx e => h.apart i j hi hj hij x hx e)) (fun e => h.rv_sv hi R hR e) _
  · intro i1 i2 h1 h2 hne x hx
    by_cases e1 : i1 = j
    · subst e1
      simp only [if_pos] at hx
      rw [if_neg (fun e => hne e.symm)]
      have hgx : g' = x := by injection hx
      subst hgx
      intro e
      rcases hat with hat | hat
      · exact h.apart i1 i2 h1 h2 hne g' hat e
      · have := (h.sums i2 h2).lt e; omega
    · rw [if_neg e1] at hx
      by_cases e2 : i2 = j
      · subst e2
        rw [if_pos rfl]
        intro e
        have hgx : g' = x := by injection e
        subst hgx
        rcases hat with hat | hat
        · exact h.apart i1 i2 h1 h2 hne g' hx hat
        · have := (h.sums i1 h1).lt hx; omega
      · rw [if_neg e2]
        exact h.apart i1 i2 h1 h2 hne x hx
  · intro i hi x hx
    by_cases e1 : i = j
    · subst e1
      rw [if_pos rfl] at hx
      have hgx : g' = x := by injection hx
      subst hgx
      exact hat.imp (fun e => h.fs i hi _ e) id
    · rw [if_neg e1] at hx
      exact .inl (h.fs i hi x hx)

/-- A row more, in which there is nothing yet. -/
theorem Raw.grow (h : Raw F w b n fl K g c f rv sv idle) (T : Turn (fun k => rv.ownBlock = some k) w W)
    {g' off' cap' : Nat} (hown : Seg W 144 3 (.slice (some ⟨g', off', none⟩) (K + 1) cap') (K + 1) (flat (rowC g sv idle) 0 K ++ [.int .i64 0, .slice none 0 0, .int .i64 0]))
    (hat : rv.ownBlock = some g' ∨ w.heap.size ≤ g') (hg : g K = 0) (hc : c K = 0) :
    Raw (fun k => F k ∨ w.heap.size ≤ k) (W.setCell ⟨b, 2, none⟩ (.slice (some ⟨g', off', none⟩) (K + 1) cap')) b n fl (K + 1) g c f (.slice (some ⟨g', off', none⟩) (K + 1) cap')
      (fun i => if i = K then .slice none 0 0 else sv i) (fun i => if i = K then 0 else idle i) := by
  have htree : Has W b 123 #[.int .i64 n, .int .i64 fl, rv] := h.tree.turn T h.rv_b
  have hgb : g' ≠ b := fun e => hown.ne htree (fun e => ne_types.1 e.symm) (by rw [e]; rfl)
  refine ⟨?_, ?_, ?_, ?_, .inl h.fb, fun x hx => ?_, ?_, ?_⟩
  · have := htree.put 2 (.slice (some ⟨g', off', none⟩) (K + 1) cap')
    simpa using this
  · have h2 := Seg.far hown (p := ⟨b, 2, none⟩) (by intro e; exact hgb (by injection e)) (.slice (some ⟨g', off', none⟩) (K + 1) cap')
    rw [flat_snoc]
    have e1 : flat (rowC g (fun i => if i = K then .slice none 0 0 else sv i) (fun i => if i = K then 0 else idle i)) 0 K = flat (rowC g sv idle) 0 K := by
      refine flat_congr fun i _ hi => ?_
      simp [rowC, show i ≠ K by omega]
    have e2 : rowC g (fun i => if i = K then .slice none 0 0 else sv i) (fun i => if i = K then 0 else idle i) (0 + K) = [.int .i64 0, .slice none 0 0, .int .i64 0] := by
      simp [rowC, hg]
    rw [e1, e2]
    exact h2
  · intro i hi
    by_cases e : i = K
    · subst e
      simp only [if_pos, hc, hg]
      exact Seg.nil _ _ _
    · simp only [if_neg e]
      exact Seg.far ((h.sums i (by omega)).turn T (fun x hx hr => h.rv_sv (by omega) x hr hx)) (h.sv_b (by omega)) _
  · intro i1 i2 h1 h2 hne x hx
    by_cases e1 : i1 = K
    · rw [if_pos e1] at hx; cases hx
    · rw [if_neg e1] at hx
      by_cases e2 : i2 = K
      · rw [if_pos e2]; intro e; cases e
      · rw [if_neg e2]
        exact h.apart i1 i2 (by omega) (by omega) hne x hx
  · have hgx : g' = x := by injection hx
    subst hgx
    exact hat.imp (fun e => h.fr _ e) id
  · intro i hi x hx
    by_cases e1 : i = K
    · rw [if_pos e1] at hx; cases hx
    · rw [if_neg e1] at hx
      exact .inl (h.fs i (by omega) x hx)
  · intro i hi
    by_cases e1 : i = K
    · simp [e1]
    · simp only [if_neg e1]; exact h.idle i (by omega)
end
end Go.Proofs.YtdoadmkaoboncaaGreatDoor.dig
