/- ledger: what every book keeps stays kept (no program's walk). -/
import Derived.Test.YtfhpcodjmmidhaaLedJ
namespace Go.Proofs.Ytfhpcodjmmidhaa
open Go.RowKit Go.Maps Go.Sort

section
variable {H : Type}

theorem inv_opn {D : DataW H} (I : InvB D) (s : ByteArray) : InvB (opn D s).1 := by
  have hm := I.tidy.isMap
  unfold opn
  split
  · exact I
  · rename_i hi
    split
    · exact I
    · rename_i hs
      refine ⟨I.tidy.put (kS_key s) _, ?_, fun x hx => ?_, fun x hx => ?_⟩
      · show Maps.size (D.put (kS s) (nI 0)) ≤ 17
        rw [size_put I.tidy]
        split <;> omega
      · show 0 ≤ amt (D.put (kS s) (nI 0)) x
        rw [amt_put hm]
        split
        · omega
        · exact I.lo x hx
      · show amt (D.put (kS s) (nI 0)) x ≤ _
        rw [amt_put hm]
        split
        · omega
        · exact I.hi x hx

theorem inv_cls {D : DataW H} (I : InvB D) (s : ByteArray) : InvB (cls D s).1 := by
  unfold cls
  split
  · exact I
  · split
    · exact I
    · refine ⟨I.tidy.del _, ?_, fun x hx => ?_, fun x hx => ?_⟩
      · show Maps.size (D.del (kS s)) ≤ 17
        have := size_del (k := kS s) I.tidy
        have := I.size
        omega
      · show 0 ≤ amt (D.del (kS s)) x
        rw [amt_del]
        split
        · omega
        · exact I.lo x hx
      · show amt (D.del (kS s)) x ≤ _
        rw [amt_del]
        split
        · omega
        · exact I.hi x hx

theorem inv_mov {D : DataW H} (I : InvB D) (s t : ByteArray) (n : Int) (hn : 1 ≤ n) (hst : s ≠ t) : InvB (mov D s t n).1 := by
  have hm := I.tidy.isMap
  unfold mov
  split
  · exact I
  · rename_i hs
    split
    · exact I
    · rename_i ht
      split
      · exact I
      · rename_i h1
        split
        · exact I
        · rename_i h2
          have hs' : has D (kS s) = true := show isIn D s = true by simpa using hs
          have ht' : isIn D t = true := by simpa using ht
          have hm2 : IsMap (D.put (kS s) (nI (amt D s - n))) := hm.put _ _
          have t2 : Tidy (D.put (kS s) (nI (amt D s - n))) := I.tidy.put (kS_key s) _
          refine ⟨t2.put (kS_key t) _, ?_, fun x hx => ?_, fun x hx => ?_⟩
          · show Maps.size ((D.put (kS s) (nI (amt D s - n))).put (kS t) (nI (amt D t + n))) ≤ 17
            have ht2 : has (D.put (kS s) (nI (amt D s - n))) (kS t) = true := by
              have := isIn_put hm s t (nI (amt D s - n))
              rw [if_neg (fun e => hst e.symm), ht'] at this
              exact this
            rw [size_put t2, if_pos ht2, size_put I.tidy, if_pos hs']
            exact I.size
          · show 0 ≤ amt ((D.put (kS s) (nI (amt D s - n))).put (kS t) (nI (amt D t + n))) x
            rw [amt_put hm2, amt_put hm]
            have lo := I.lo x hx
            by_cases h3 : x = t
            · rw [if_pos h3]; rw [h3] at lo; omega
            · rw [if_neg h3]
              by_cases h4 : x = s
              · rw [if_pos h4]
                rw [h4] at hx
                by_cases h5 : amt D s < n
                · exact absurd ⟨hx, h5⟩ h1
                · omega
              · rw [if_neg h4]; exact lo
          · show amt ((D.put (kS s) (nI (amt D s - n))).put (kS t) (nI (amt D t + n))) x ≤ _
            rw [amt_put hm2, amt_put hm]
            have hi := I.hi x hx
            by_cases h3 : x = t
            · rw [if_pos h3]
              rw [h3] at hx
              by_cases h5 : 1099511627776 < amt D t + n
              · exact absurd ⟨hx, h5⟩ h2
              · omega
            · rw [if_neg h3]
              by_cases h4 : x = s
              · rw [if_pos h4]; rw [h4] at hi; omega
              · rw [if_neg h4]; exact hi

/-- Whatever is done. -/
theorem inv_do {D : DataW H} (I : InvB D) (k n : Int) (s t : ByteArray) : InvB (doL D k s t n).1 := by
  unfold doL
  split
  · exact I
  · rename_i hc
    have hc' : chkL k s t n = 0 := by simpa using hc
    split
    · exact inv_opn I s
    · rename_i h1
      split
      · exact inv_cls I s
      · rename_i h2
        rcases chk_kind hc' with h | h | ⟨rfl, hn, _⟩
        · exact absurd h h1
        · exact absurd h h2
        · exact inv_mov I s t n hn (fun e => (chk_move hc').1 (by rw [e]))

theorem inv_new : InvB (D0 (H := H)) := by
  have hm : IsMap (.map [] : DataW H) := isMap_empty
  refine ⟨tidy_empty.put (kS_key _) _, ?_, fun x hx => ?_, fun x hx => ?_⟩
  · show Maps.size ((DataW.map []).put (kS ⟨#[]⟩) (nI 0)) ≤ 17
    rw [size_put tidy_empty]
    split <;> simp [Maps.size]
  · show 0 ≤ amt ((DataW.map []).put (kS ⟨#[]⟩) (nI 0)) x
    rw [amt_put hm, if_neg (by exact hx), amt_absent rfl]
    omega
  · show amt ((DataW.map []).put (kS ⟨#[]⟩) (nI 0)) x ≤ _
    rw [amt_put hm, if_neg (by exact hx), amt_absent rfl]
    omega

end
end Go.Proofs.Ytfhpcodjmmidhaa
