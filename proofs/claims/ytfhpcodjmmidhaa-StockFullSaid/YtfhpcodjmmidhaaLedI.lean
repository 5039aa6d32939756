/- ledger: two maps that say the same; an op and what takes it back (no program's walk). -/
import Derived.Test.YtfhpcodjmmidhaaLedG
namespace Go.Proofs.Ytfhpcodjmmidhaa
open Go.RowKit Go.Maps Go.Sort

section
variable {H : Type}

/-- A map from names. -/
def Good (D : DataW H) : Prop := ∃ es, D = .map es ∧ es.Pairwise (fun p q => p.1 ≠ q.1) ∧ ∀ p ∈ es, ∃ x, p.1 = .string x

theorem Mp.good {w : World} {m : Nat} {D : DataW H} (h : Mp w m D) : Good D := by
  obtain ⟨es, hD, hpw, _⟩ := World.ownsMap.entries h strKeyed
  obtain ⟨es', hD', hko⟩ := World.ownsMap.keysOf h
  obtain rfl : es = es' := by rw [hD] at hD'; simpa using hD'
  exact ⟨es, hD, hpw, fun p hp => by obtain ⟨v, hv⟩ := hko p hp; obtain ⟨x, _, hx, _⟩ := Maps.keyOf_str Try.underlying9 hv; exact ⟨x, hx⟩⟩

theorem Good.tidy {D : DataW H} (h : Good D) : Tidy D := by
  obtain ⟨es, e, hp, _⟩ := h
  exact ⟨es, e, hp⟩

theorem mem_strKeys {D : DataW H} (h : Good D) (x : List UInt8) : x ∈ strKeys D ↔ has D (.string x) = true := by
  obtain ⟨es, rfl, _, hk⟩ := h
  rw [has_eq, List.any_eq_true]
  show x ∈ es.map (fun p => strOf p.1) ↔ _
  rw [List.mem_map]
  constructor
  · rintro ⟨p, hp, rfl⟩
    obtain ⟨a, ha⟩ := hk p hp
    exact ⟨p, hp, by rw [ha]; simp [Lit.sameKey, strOf]⟩
  · rintro ⟨p, hp, hs⟩
    obtain ⟨a, ha⟩ := hk p hp
    rw [ha] at hs
    exact ⟨p, hp, by rw [ha]; simpa [Lit.sameKey, strOf] using hs⟩

theorem nodup_strKeys {D : DataW H} (h : Good D) : (strKeys D).Nodup := by
  obtain ⟨es, rfl, hp, hk⟩ := h
  show (es.map fun p => strOf p.1).Nodup
  refine List.pairwise_map.2 (hp.imp_of_mem fun {p q} hp' hq' hne e => hne ?_)
  obtain ⟨a, ha⟩ := hk p hp'
  obtain ⟨b, hb⟩ := hk q hq'
  rw [ha, hb] at e ⊢
  exact congrArg _ e

/-- Two maps that say the same. -/
structure Alike (D D' : DataW H) : Prop where
  l : Good D
  r : Good D'
  same : ∀ s, isIn D s = isIn D' s ∧ amt D s = amt D' s

theorem Alike.perm {D D' : DataW H} (h : Alike D D') : (strKeys D).Perm (strKeys D') :=
  (List.perm_ext_iff_of_nodup (nodup_strKeys h.l) (nodup_strKeys h.r)).2 fun x => by
    rw [mem_strKeys h.l, mem_strKeys h.r]
    have := (h.same ⟨x.toArray⟩).1
    unfold isIn kS at this
    simp at this
    rw [this]

theorem Alike.names {D D' : DataW H} (h : Alike D D') : (nb (strKeys D)).mergeSort leB = (nb (strKeys D')).mergeSort leB := mergeSort_of_perm (h.perm.filter _)
theorem Alike.amtL {D D' : DataW H} (h : Alike D D') (x : List UInt8) : amtL D x = amtL D' x := (h.same _).2
theorem Alike.size {D D' : DataW H} (h : Alike D D') : Maps.size D = Maps.size D' := by
  have e := h.perm.length_eq
  obtain ⟨es, rfl, _⟩ := h.l
  obtain ⟨es', rfl, _⟩ := h.r
  simpa [strKeys, Maps.size] using e

theorem isIn_put {D : DataW H} (hD : IsMap D) (s t : ByteArray) (d : DataW H) : isIn (D.put (kS s) d) t = if t = s then true else isIn D t := by
  unfold isIn
  by_cases h : t = s
  · rw [if_pos h, h]; exact has_put_same hD (kS_key s) d
  · rw [if_neg h]; exact has_put_other (fun e => h (kS_inj e)) d
theorem isIn_del {D : DataW H} (s t : ByteArray) : isIn (D.del (kS s)) t = if t = s then false else isIn D t := by
  unfold isIn
  by_cases h : t = s
  · rw [if_pos h, h]; exact has_del_same
  · rw [if_neg h]; exact has_del_other (fun e => h (kS_inj e))
theorem amt_put {D : DataW H} (hD : IsMap D) (s t : ByteArray) (n : Int) : amt (D.put (kS s) (nI n)) t = if t = s then n else amt D t := by
  by_cases h : t = s
  · subst h; rw [if_pos rfl]; exact amt_of (atKey_put_same hD (kS_key t) _ _)
  · rw [if_neg h]; unfold amt; rw [atKey_put_other (fun e => h (kS_inj e))]
theorem amt_del {D : DataW H} (s t : ByteArray) : amt (D.del (kS s)) t = if t = s then 0 else amt D t := by
  by_cases h : t = s
  · subst h; rw [if_pos rfl]; exact amt_of (atKey_del_same _)
  · rw [if_neg h]; unfold amt; rw [atKey_del_other (fun e => h (kS_inj e))]

end
end Go.Proofs.Ytfhpcodjmmidhaa
