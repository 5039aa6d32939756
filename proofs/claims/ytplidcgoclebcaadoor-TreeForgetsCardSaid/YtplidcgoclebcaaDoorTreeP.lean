/- tree: two trees side by side, over the same texts; a piece of a slice. -/
import Derived.Test.YtplidcgoclebcaaDoorTreeJ
namespace Go.Proofs.YtplidcgoclebcaaDoor.dig
open Go Go.RowKit

/-- The texts from k on, m of them. -/
theorem Strs.piece {w : World} {g off c : Nat} {L : List ByteArray} (h : Strs w (.slice (some ⟨g, off, none⟩) L.length c) L) (k m : Nat) (hk : k + m ≤ L.length) :
    Strs w (.slice (some ⟨g, off + k, none⟩) ((L.drop k).take m).length (c - k)) ((L.drop k).take m) := by
  have h1 := Seg.front (h.1.behind k (by omega)) m (by omega) (by simp)
  have e : ((L.drop k).take m).length = m := by rw [List.length_take, List.length_drop]; omega
  refine ⟨?_, fun s hs => h.2 s (List.mem_of_mem_drop (List.mem_of_mem_take hs))⟩
  rw [e, List.map_take, List.map_drop]
  simpa using h1

/-- Two trees over the texts L: the first na of them in the one, the first nb in the other one. -/
structure Pr (w : World) (a b : Nat) (v : Value) (L : List ByteArray) (na nb : Nat) (w' : World) : Prop where
  tr : ∃ Fa Fb : Nat → Prop, Tr w.heap.size Fa w' a na 0 (leafF L) ∧ Tr w.heap.size Fb w' b nb 0 (leafF L) ∧ (∀ x, Fa x → x < w'.heap.size ∧ ¬ Fb x) ∧ (∀ x, Fb x → x < w'.heap.size) ∧ (∀ x, v.ownBlock = some x → ¬ Fa x ∧ ¬ Fb x)
  strs : Strs w' v L
  bel : Below w.heap.size w w'
section
variable {w w' w2 : World} {a b na nb : Nat} {v : Value} {L : List ByteArray}
theorem Pr.swap (h : Pr w a b v L na nb w') : Pr w b a v L nb na w' := by
  obtain ⟨Fa, Fb, h1, h2, h3, h4, h5⟩ := h.tr
  exact ⟨⟨Fb, Fa, h2, h1, fun x hx => ⟨h4 x hx, fun e => (h3 x e).2 hx⟩, fun x hx => (h3 x hx).1, fun x hx => ⟨(h5 x hx).2, (h5 x hx).1⟩⟩, h.strs, h.bel⟩
theorem Pr.more (h : Pr w a b v L na nb w') (bb : Below w'.heap.size w' w2) : Pr w a b v L na nb w2 := by
  obtain ⟨Fa, Fb, h1, h2, h3, h4, h5⟩ := h.tr
  exact ⟨⟨Fa, Fb, h1.below bb, h2.below bb, fun x hx => ⟨Nat.lt_of_lt_of_le (h3 x hx).1 bb.size, (h3 x hx).2⟩, fun x hx => Nat.lt_of_lt_of_le (h4 x hx) bb.size, h5⟩,
    ⟨h.strs.1.below bb (fun x hx => h.strs.1.lt hx), h.strs.2⟩, h.bel.trans (bb.mono h.bel.size)⟩
theorem Pr.a_tr (h : Pr w a b v L na nb w') : ∃ F, Tr w.heap.size F w' a na 0 (leafF L) := by
  obtain ⟨Fa, Fb, h1, _⟩ := h.tr
  exact ⟨Fa, h1⟩
theorem Pr.b_tr (h : Pr w a b v L na nb w') : ∃ F, Tr w.heap.size F w' b nb 0 (leafF L) := by
  obtain ⟨Fa, Fb, _, h1, _⟩ := h.tr
  exact ⟨Fb, h1⟩

/-- More of the texts come to the other one. -/
theorem Pr.append_b {g off c : Nat} (h : Pr w a b (.slice (some ⟨g, off, none⟩) L.length c) L na nb w') (o' m cp : Nat) (hm : nb + m ≤ L.length) (hL : L.length ≤ 1000) (ho : (o' = off + nb ∧ cp = c - nb) ∨ (c = nb ∧ o' = off ∧ cp = 0)) :
    Calls Tryd.prog 11 #[.pointer (some ⟨b, 0, none⟩), .slice (some ⟨g, o', none⟩) m cp] w' fun en w2 => en = .returned (.tuple #[]) ∧ Pr w a b (.slice (some ⟨g, off, none⟩) L.length c) L na (nb + m) w2 := by
  obtain ⟨Fa, Fb, h1, h2, h3, h4, h5⟩ := h.tr
  have e : ((L.drop nb).take m).length = m := by rw [List.length_take, List.length_drop]; omega
  have hp : Strs w' (.slice (some ⟨g, o', none⟩) ((L.drop nb).take m).length cp) ((L.drop nb).take m) := by
    rcases ho with ⟨rfl, rfl⟩ | ⟨hc, rfl, rfl⟩
    · exact h.strs.piece nb m hm
    · rcases h.strs.1.2 with ⟨h1, _⟩ | ⟨g', off', cap, cur, h1, hg, hc1, hc2, hc3, hx⟩
      · cases h1
      · simp only [Value.slice.injEq, Option.some.injEq, Addr.mk.injEq, and_true, true_and] at h1
        obtain ⟨⟨rfl, rfl⟩, rfl⟩ := h1
        have hm0 : m = 0 := by omega
        subst hm0
        rw [List.take_zero]
        exact ⟨⟨rfl, .inr ⟨g, o', 0, cur, rfl, hg, Nat.le_refl _, Nat.zero_le _, by omega, by simp⟩⟩, fun s hs => by cases hs⟩
  have hc := h2.append_calls (some ⟨g, o', none⟩) cp ((L.drop nb).take m) hp (fun x hx => (h5 x (by simpa [Value.ownBlock] using hx)).2) (fun i s hs => by
    rw [List.getElem?_take] at hs
    split at hs
    · rw [List.getElem?_drop] at hs; exact leafF_at L _ s hs
    · cases hs) (by rw [e]; omega)
  rw [e] at hc
  refine hc.mono ?_
  rintro en w2 ⟨rfl, t2, u2⟩
  have hs2 : w'.heap.size ≤ w2.heap.size := u2.size
  refine ⟨rfl, ⟨Fa, fun x => (Fb x ∨ w'.heap.size ≤ x) ∧ x < w2.heap.size, h1.turn u2 (fun x hx _ => (h3 x hx).2) (fun x hx => h2.hF x hx), t2.more (fun x hl hx => ⟨hx, hl⟩) (fun x hx => t2.hF x hx.1),
    fun x hx => ⟨by have := (h3 x hx).1; omega, fun e => ?_⟩, fun x hx => hx.2, fun x hx => ⟨(h5 x hx).1, fun e => ?_⟩⟩, ⟨h.strs.1.turn u2 (fun x hx => (h5 x hx).2), h.strs.2⟩, turn_below h.bel u2 h.bel.size (fun x hx => h2.hF x hx)⟩
  · rcases e.1 with e | e
    · exact (h3 x hx).2 e
    · have := (h3 x hx).1; omega
  · rcases e.1 with e | e
    · exact (h5 x hx).2 e
    · have := h.strs.1.lt hx; omega
end
end Go.Proofs.YtplidcgoclebcaaDoor.dig
