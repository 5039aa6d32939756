/- Texts laid into one: LedN, WTxt, WireT, LedO. -/
import Derived.Test.YtcdedkgkingbdaaGreatDoorQ019
import Derived.Test.YtcdedkgkingbdaaGreatDoorQ018
import Derived.Test.YtcdedkgkingbdaaGreatDoorQ009
import Derived.Test.YtcdedkgkingbdaaGreatDoorQ000
section
/- ledger: when an op is done, and what it does to each name (no program's walk). -/
namespace Go.Proofs.YtcdedkgkingbdaaGreatDoor
open Go.RowKit Go.Maps Go.Sort

section
variable {H : Type}

/-- When an op is done. -/
structure okL (D : DataW H) (k : Int) (s t : ByteArray) (n : Int) : Prop where
  chk : chkL k s t n = 0
  one : k = 1 → isIn D s = false ∧ Maps.size D ≤ 16
  two : k = 2 → isIn D s = true ∧ amt D s = 0
  three : k = 3 → isIn D s = true ∧ isIn D t = true ∧ (s ≠ .empty → n ≤ amt D s) ∧ (t ≠ .empty → amt D t + n ≤ 1099511627776)

theorem opn_ok {D : DataW H} {s : ByteArray} : (opn D s).2 = 0 ↔ isIn D s = false ∧ Maps.size D ≤ 16 := by
  unfold opn
  cases h : isIn D s
  · by_cases h2 : 16 < Maps.size D
    · simp [h2]
    · simp [h2]; omega
  · simp
theorem opn_is {D : DataW H} {s : ByteArray} (h : (opn D s).2 = 0) : (opn D s).1 = D.put (kS s) (nI 0) := by
  obtain ⟨h1, h2⟩ := opn_ok.1 h
  unfold opn
  rw [if_neg (by rw [h1]; simp), if_neg (by omega)]
theorem cls_ok {D : DataW H} {s : ByteArray} : (cls D s).2 = 0 ↔ isIn D s = true ∧ amt D s = 0 := by
  unfold cls
  cases h : isIn D s
  · simp
  · by_cases h2 : amt D s = 0
    · simp [h2]
    · simp [h2]
theorem cls_is {D : DataW H} {s : ByteArray} (h : (cls D s).2 = 0) : (cls D s).1 = D.del (kS s) := by
  obtain ⟨h1, h2⟩ := cls_ok.1 h
  unfold cls
  rw [if_neg (by rw [h1]; simp), if_neg (by simpa using h2)]
theorem mov_ok {D : DataW H} {s t : ByteArray} {n : Int} : (mov D s t n).2 = 0 ↔ isIn D s = true ∧ isIn D t = true ∧ (s ≠ .empty → n ≤ amt D s) ∧ (t ≠ .empty → amt D t + n ≤ 1099511627776) := by
  unfold mov
  cases h1 : isIn D s
  · simp
  · cases h2 : isIn D t
    · simp
    · rw [if_neg (by simp), if_neg (by simp)]
      by_cases h3 : s ≠ .empty ∧ amt D s < n
      · rw [if_pos h3]
        constructor
        · intro h; simp at h
        · rintro ⟨_, _, h, _⟩
          have := h h3.1
          omega
      · rw [if_neg h3]
        by_cases h4 : t ≠ .empty ∧ 1099511627776 < amt D t + n
        · rw [if_pos h4]
          constructor
          · intro h; simp at h
          · rintro ⟨_, _, _, h⟩
            have := h h4.1
            omega
        · rw [if_neg h4]
          refine ⟨fun _ => ⟨rfl, rfl, fun h => ?_, fun h => ?_⟩, fun _ => rfl⟩
          · exact Int.not_lt.1 (fun k => h3 ⟨h, k⟩)
          · exact Int.not_lt.1 (fun k => h4 ⟨h, k⟩)
theorem mov_is {D : DataW H} {s t : ByteArray} {n : Int} (h : (mov D s t n).2 = 0) : (mov D s t n).1 = (D.put (kS s) (nI (amt D s - n))).put (kS t) (nI (amt D t + n)) := by
  obtain ⟨h1, h2, h3, h4⟩ := mov_ok.1 h
  unfold mov
  rw [if_neg (by rw [h1]; simp), if_neg (by rw [h2]; simp), if_neg (fun e => by have := h3 e.1; omega), if_neg (fun e => by have := h4 e.1; omega)]

theorem do_of {D : DataW H} {k n : Int} {s t : ByteArray} (h : chkL k s t n = 0) : doL D k s t n = if k = 1 then opn D s else if k = 2 then cls D s else mov D s t n := by
  unfold doL; rw [if_neg (by simpa using h)]
theorem do_chk {D : DataW H} {k n : Int} {s t : ByteArray} (h : (doL D k s t n).2 = 0) : chkL k s t n = 0 := by
  by_cases hc : chkL k s t n = 0
  · exact hc
  · unfold doL at h; rw [if_pos hc] at h; exact absurd h hc

theorem do_ok {D : DataW H} {k n : Int} {s t : ByteArray} : (doL D k s t n).2 = 0 ↔ okL D k s t n := by
  constructor
  · intro h
    have hc := do_chk h
    rw [do_of hc] at h
    rcases chk_kind hc with rfl | rfl | ⟨rfl, _, _⟩
    · rw [if_pos rfl] at h
      exact ⟨hc, fun _ => opn_ok.1 h, fun e => by omega, fun e => by omega⟩
    · rw [if_neg (by decide), if_pos rfl] at h
      exact ⟨hc, fun e => by omega, fun _ => cls_ok.1 h, fun e => by omega⟩
    · rw [if_neg (by decide), if_neg (by decide)] at h
      exact ⟨hc, fun e => by omega, fun e => by omega, fun _ => mov_ok.1 h⟩
  · intro h
    rw [do_of h.chk]
    rcases chk_kind h.chk with rfl | rfl | ⟨rfl, _, _⟩
    · rw [if_pos rfl]; exact opn_ok.2 (h.one rfl)
    · rw [if_neg (by decide), if_pos rfl]; exact cls_ok.2 (h.two rfl)
    · rw [if_neg (by decide), if_neg (by decide)]; exact mov_ok.2 (h.three rfl)

/-- What an op adds to a name's amount. -/
def dlt (k : Int) (s t : ByteArray) (n : Int) (x : ByteArray) : Int := if k = 3 then (if x = t then n else 0) - (if x = s then n else 0) else 0
/-- Which names are there behind it. -/
def isInD (k : Int) (s : ByteArray) (b : Bool) (x : ByteArray) : Bool := if k = 1 ∧ x = s then true else if k = 2 ∧ x = s then false else b

theorem do_eff {D : DataW H} (hm : IsMap D) {k n : Int} {s t : ByteArray} (h : (doL D k s t n).2 = 0) (x : ByteArray) :
    isIn (doL D k s t n).1 x = isInD k s (isIn D x) x ∧ amt (doL D k s t n).1 x = amt D x + dlt k s t n x := by
  have hc := do_chk h
  have ho := do_ok.1 h
  rw [do_of hc] at h ⊢
  rcases chk_kind hc with rfl | rfl | ⟨rfl, hn1, hn2⟩
  · rw [if_pos rfl] at h ⊢
    rw [opn_is h, isIn_put hm, amt_put hm]
    unfold isInD dlt
    by_cases hx : x = s
    · subst hx; simp [amt_absent (ho.one rfl).1]
    · simp [hx]
  · rw [if_neg (by decide), if_pos rfl] at h ⊢
    rw [cls_is h, isIn_del, amt_del]
    unfold isInD dlt
    by_cases hx : x = s
    · subst hx; simp [(ho.two rfl).2]
    · simp [hx]
  · rw [if_neg (by decide), if_neg (by decide)] at h ⊢
    have hm2 : IsMap (D.put (kS s) (nI (amt D s - n))) := hm.put _ _
    obtain ⟨h1, h2, _⟩ := ho.three rfl
    have hst : s ≠ t := fun e => (chk_move hc).1 (by rw [e])
    rw [mov_is h, isIn_put hm2, isIn_put hm, amt_put hm2, amt_put hm]
    unfold isInD dlt
    by_cases hx : x = t
    · subst hx
      have : ¬ x = s := fun e => hst e.symm
      simp [this, h2]
    · by_cases hy : x = s
      · subst hy; simp [hx, h1]; omega
      · simp [hx, hy]

theorem do_size {D : DataW H} (ht : Tidy D) {k n : Int} {s t : ByteArray} (h : (doL D k s t n).2 = 0) : Maps.size (doL D k s t n).1 ≤ Maps.size D + 1 := by
  have hc := do_chk h
  have ho := do_ok.1 h
  rw [do_of hc] at h ⊢
  rcases chk_kind hc with rfl | rfl | ⟨rfl, hn1, hn2⟩
  · rw [if_pos rfl] at h ⊢
    rw [opn_is h, size_put ht]
    split <;> omega
  · rw [if_neg (by decide), if_pos rfl] at h ⊢
    rw [cls_is h]
    have := size_del (k := kS s) ht
    omega
  · rw [if_neg (by decide), if_neg (by decide)] at h ⊢
    obtain ⟨h1, h2, _⟩ := ho.three rfl
    rw [mov_is h, size_put (ht.put (kS_key s) _)]
    have : has (D.put (kS s) (nI (amt D s - n))) (kS t) = true := by
      have := isIn_put ht.isMap s t (nI (amt D s - n))
      rw [h2] at this
      unfold isIn at this
      rw [this]; split <;> rfl
    rw [if_pos this, size_put ht]
    split <;> omega

theorem do_good {D : DataW H} (g : Good D) (k n : Int) (s t : ByteArray) : Good (doL D k s t n).1 := by
  unfold doL
  split
  · exact g
  · split
    · unfold opn
      split
      · exact g
      · split
        · exact g
        · exact g.put _ _
    · split
      · unfold cls
        split
        · exact g
        · split
          · exact g
          · exact g.del _
      · unfold mov
        split
        · exact g
        · split
          · exact g
          · split
            · exact g
            · split
              · exact g
              · exact (g.put _ _).put _ _

theorem do_not {D : DataW H} {k n : Int} {s t : ByteArray} (h : ¬ (doL D k s t n).2 = 0) : (doL D k s t n).1 = D := by
  unfold doL at h ⊢
  split at h
  · rename_i h1; rw [if_pos h1]
  · rename_i h1
    rw [if_neg h1]
    split at h
    · rename_i h2
      rw [if_pos h2]
      unfold opn at h ⊢
      split at h <;> rename_i h3
      · rw [if_pos h3]
      · rw [if_neg h3]
        split at h <;> rename_i h4
        · rw [if_pos h4]
        · exact absurd rfl h
    · rename_i h2
      rw [if_neg h2]
      split at h
      · rename_i h3
        rw [if_pos h3]
        unfold cls at h ⊢
        split at h <;> rename_i h4
        · rw [if_pos h4]
        · rw [if_neg h4]
          split at h <;> rename_i h5
          · rw [if_pos h5]
          · exact absurd rfl h
      · rename_i h3
        rw [if_neg h3]
        unfold mov at h ⊢
        split at h <;> rename_i h4
        · rw [if_pos h4]
        · rw [if_neg h4]
          split at h <;> rename_i h5
          · rw [if_pos h5]
          · rw [if_neg h5]
            split at h <;> rename_i h6
            · rw [if_pos h6]
            · rw [if_neg h6]
              split at h <;> rename_i h7
              · rw [if_pos h7]
              · exact absurd rfl h

theorem empty_list {s : ByteArray} (h : ¬ s.toList = []) : s ≠ .empty := fun e => h (emp_iff.1 e)

/-- The invariant stays. -/
theorem invF_do {D : DataW H} (I : InvF D) (k n : Int) (s t : ByteArray) : InvF (doL D k s t n).1 := by
  by_cases h : (doL D k s t n).2 = 0
  · have hc := do_chk h
    have ho := do_ok.1 h
    have hm := I.inv.tidy.isMap
    have he := do_eff hm h
    refine ⟨do_good I.good k n s t, inv_do I.inv k n s t, fun x hx => ?_, ?_, ?_⟩
    · rw [(he x).1] at hx
      unfold isInD at hx
      split at hx
      · rename_i h1
        rw [h1.2]
        exact (chk_open (.inl h1.1) hc).2
      · split at hx
        · cases hx
        · exact I.keys x hx
    · rw [(he _).1]
      unfold isInD
      split
      · rfl
      · split
        · rename_i h1
          exact absurd h1.2.symm (empty_list (chk_open (.inr h1.1) hc).1)
        · exact I.house
    · rw [do_of hc] at h ⊢
      rcases chk_kind hc with rfl | rfl | ⟨rfl, hn1, hn2⟩
      · rw [if_pos rfl] at h ⊢
        rw [opn_is h, sumD_put I.good, amt_absent (ho.one rfl).1, I.sum]
        rfl
      · rw [if_neg (by decide), if_pos rfl] at h ⊢
        rw [cls_is h, sumD_del I.good, (ho.two rfl).2, I.sum]
        rfl
      · rw [if_neg (by decide), if_neg (by decide)] at h ⊢
        have hst : t ≠ s := fun e => (chk_move hc).1 (by rw [e])
        rw [mov_is h, sumD_put (I.good.put _ _), sumD_put I.good, amt_put hm, if_neg hst, I.sum]
        omega
  · rw [do_not h]; exact I

theorem invF_new : InvF (D0 (H := H)) := by
  have hm : IsMap (.map [] : DataW H) := isMap_empty
  refine ⟨good_empty.put _ _, inv_new, fun s hs => ?_, ?_, ?_⟩
  · have : isIn (D0 (H := H)) s = if s = ⟨#[]⟩ then true else isIn (.map []) s := isIn_put hm ⟨#[]⟩ s (nI 0)
    rw [this] at hs
    split at hs
    · rename_i h; rw [h]; exact Nat.zero_le _
    · cases hs
  · have : isIn (D0 (H := H)) .empty = if (.empty : ByteArray) = ⟨#[]⟩ then true else isIn (.map []) .empty := isIn_put hm ⟨#[]⟩ .empty (nI 0)
    rw [this]; exact if_pos rfl
  · show sumD ((DataW.map []).put (kS ⟨#[]⟩) (nI 0)) = 0
    rw [sumD_put good_empty, amt_absent rfl]
    rfl

/-- What is alike stays alike. -/
theorem do_alike {D D' : DataW H} (a : Alike D D') (k n : Int) (s t : ByteArray) :
    ((doL D k s t n).2 = 0 ↔ (doL D' k s t n).2 = 0) ∧ Alike (doL D k s t n).1 (doL D' k s t n).1 := by
  have hiff : (doL D k s t n).2 = 0 ↔ (doL D' k s t n).2 = 0 := by
    rw [do_ok, do_ok]
    constructor
    · intro h
      exact ⟨h.chk, fun e => by rw [← (a.same s).1, ← a.size]; exact h.one e, fun e => by rw [← (a.same s).1, ← (a.same s).2]; exact h.two e, fun e => by
        rw [← (a.same s).1, ← (a.same s).2, ← (a.same t).1, ← (a.same t).2]; exact h.three e⟩
    · intro h
      exact ⟨h.chk, fun e => by rw [(a.same s).1, a.size]; exact h.one e, fun e => by rw [(a.same s).1, (a.same s).2]; exact h.two e, fun e => by
        rw [(a.same s).1, (a.same s).2, (a.same t).1, (a.same t).2]; exact h.three e⟩
  refine ⟨hiff, ?_⟩
  by_cases h : (doL D k s t n).2 = 0
  · refine ⟨do_good a.l _ _ _ _, do_good a.r _ _ _ _, fun x => ?_⟩
    have e1 := do_eff a.l.tidy.isMap h x
    have e2 := do_eff a.r.tidy.isMap (hiff.1 h) x
    rw [e1.1, e1.2, e2.1, e2.2, (a.same x).1, (a.same x).2]
    exact ⟨rfl, rfl⟩
  · rw [do_not h, do_not (fun e => h (hiff.2 e))]; exact a

/-- Of two ops: no account in common but the house. -/
def Apart2 (s t s' t' : ByteArray) : Prop := (s = s' → s = .empty) ∧ (s = t' → s = .empty) ∧ (t = s' → t = .empty) ∧ (t = t' → t = .empty)
theorem Apart2.symm {s t s' t' : ByteArray} (h : Apart2 s t s' t') : Apart2 s' t' s t :=
  ⟨fun e => by rw [e]; exact h.1 e.symm, fun e => by rw [e]; exact h.2.2.1 e.symm, fun e => by rw [e]; exact h.2.1 e.symm, fun e => by rw [e]; exact h.2.2.2 e.symm⟩

end
end Go.Proofs.YtcdedkgkingbdaaGreatDoor
end

section
/- wire: what Writer.Text gives. -/
namespace Go.Proofs.YtcdedkgkingbdaaGreatDoor
open Go.RowKit

theorem own_text {P : Program} (w : World) (src dst e : TypeId) (hs : P.underlying src = some (.slice e)) (he : P.underlying e = some (.int .u8)) (hd : P.underlying dst = some .string) {v : Value} {xs : List UInt8}
    (ho : w.ownsRow 0 e 1 v xs.length (xs.map byteV)) : (convert src dst v).run P w = .ok (.string ⟨xs.toArray⟩) w := by
  rcases ho.2 with ⟨rfl, h0⟩ | ⟨g, cap, cur, rfl, _⟩
  · have : xs = [] := List.eq_nil_of_length_eq_zero h0
    subst this
    rw [run_convert_bytes_string w src dst e none 0 0 hs he hd]
    rfl
  · refine run_convert_bytes_back w src dst e ⟨g, 0, none⟩ cap xs hs he hd (fun j hj => ?_)
    exact ho.cells rfl j _ (by simp [hj, byteV])

set_option maxHeartbeats 400000 in
theorem text_any (b : Nat) (r : Option Nat) (xs : List UInt8) (w : World) (h : Wr w b r xs) :
    Calls Tryz.prog 77 #[.pointer (some ⟨b, 0, none⟩)] w fun en w' => en = .returned (.string ⟨xs.toArray⟩) ∧ w = w' := by
  obtain ⟨v, hb, ho, hv, hne⟩ := h
  have c0 : w.cell? ⟨b, 0, none⟩ = some v := hb.cell 0
  have hc := own_text (P := Tryz.prog) w 150 9 5 Tryz.underlying150 Tryz.underlying5 Tryz.underlying9 ho
  clear hb ho hv hne
  go_enter Tryz.func77, Tryz.ntmps77
  go_wp2
  go_ret
  exact ⟨rfl, rfl⟩
end Go.Proofs.YtcdedkgkingbdaaGreatDoor
end

section
/- What Writer.Text and Cut give. -/
namespace Go.Proofs.YtcdedkgkingbdaaGreatDoor
open Go.RowKit

theorem dec_lt : ∀ (l : List UInt8) (i n : Nat), n < 18446744073709551616 → (dec i n l).2.1 < 18446744073709551616
  | [], i, n, _ => by simp [dec]
  | b :: t, i, n, h => by
    rw [dec]
    by_cases h1 : (i = 0 ∧ b.toNat = 128) ∨ 144115188075855872 ≤ n
    · rw [if_pos h1]; simp
    · rw [if_neg h1]
      by_cases h2 : b.toNat < 128
      · rw [if_pos h2]; show n * 128 + b.toNat % 128 < _; omega
      · rw [if_neg h2]; exact dec_lt t _ _ (by omega)

set_option maxHeartbeats 400000 in
theorem cut_any (s : ByteArray) (n : Nat) (w : World) (hn : n ≤ 1000000) (_hs : s.size ≤ maxLen) :
    Calls Tryz.prog 107 #[.string s, .int .i64 n] w fun en w' => en = .returned (.string (s.extract 0 n)) ∧ w = w' := by
  unfold maxLen at _hs
  by_cases h : n < s.size
  · go_enter Tryz.func107, Tryz.ntmps107
    go_wp2
    go_ret
    exact ⟨rfl, rfl⟩
  · have e : s.extract 0 n = s := by
      apply ByteArray.ext
      simp [ByteArray.data_extract]
      omega
    have E := Lib.hid e
    clear e
    go_enter Tryz.func107, Tryz.ntmps107
    go_wp2
    go_ret
    rw [E.out]
    exact ⟨rfl, rfl⟩

end Go.Proofs.YtcdedkgkingbdaaGreatDoor
end

section
/- ledger: what Save gives. -/
namespace Go.Proofs.YtcdedkgkingbdaaGreatDoor
open Go.RowKit Go.Maps Go.Sort

section
variable {H : Type}

theorem Mp.turn {w w' : World} {m : Nat} {D : DataW H} {F : Nat → Prop} (h : Mp w m D) (t : Turn F w w') (hm : ¬ F m) : Mp w' m D := by
  have hlt := World.ownsMap.lt h
  obtain ⟨es, clock, hb, r⟩ := h
  exact ⟨es, clock, (t.block m hlt hm).trans hb, r⟩
theorem Bk.turn {w w' : World} {d m : Nat} {D : DataW H} {F : Nat → Prop} (h : Bk w d m D) (t : Turn F w w') (hd : ¬ F d) (hm : ¬ F m) : Bk w' d m D := ⟨h.box.turn t hd, h.map.turn t hm⟩
theorem row_low {w : World} {e : TypeId} {size n b : Nat} {v : Value} {xs : List Value} (h : w.ownsRow b e size v n xs) : w.ownsRow 0 e size v n xs := by
  refine ⟨h.1, ?_⟩
  rcases h.2 with h | ⟨g, cap, cur, h1, _, h3⟩
  · exact .inl h
  · exact .inr ⟨g, cap, cur, h1, Nat.zero_le _, h3⟩

/-- Where Save's writing stands. -/
structure SJ (w : World) (d m : Nat) (D : DataW H) (b : Nat) (r : Option Nat) (X : List UInt8) (v : Value) (n : Nat) (rows : List Value) (V : World) : Prop where
  wr : Wr V b r X
  bk : Bk V d m D
  rw : V.ownsRow 0 9 1 v n rows
  tn : Turn (fun k => w.heap.size ≤ k) w V
  dl : d < w.heap.size
  ml : m < w.heap.size
  fb : w.heap.size ≤ b
  fr : ∀ k, r = some k → w.heap.size ≤ k

section
variable {w V V' : World} {d m b n : Nat} {D : DataW H} {r r' : Option Nat} {X : List UInt8} {v : Value} {rows : List Value}
theorem SJ.drawn (h : SJ w d m D b r X v n rows V) : SJ w d m D b r X v n rows V.drew := ⟨h.wr, ⟨h.bk.box.drew, h.bk.map⟩, h.rw, h.tn.drew, h.dl, h.ml, h.fb, h.fr⟩
theorem SJ.next (X : List UInt8) {X' : List UInt8} (h : SJ w d m D b r X v n rows V) (hr : r' = r ∨ ∃ k, r' = some k ∧ V.heap.size ≤ k) (t : Turn (fun k => k = b ∨ some k = r) V V') (hw : Wr V' b r' X') : SJ w d m D b r' X' v n rows V' := by
  have hdl := h.dl
  have hml := h.ml
  have hfb := h.fb
  obtain ⟨u, hb, ho, hv, hne⟩ := h.wr
  refine ⟨hw, h.bk.turn t (fun hF => ?_) (fun hF => ?_), own_turn h.rw t (fun k hk hF => ?_), h.tn.trans t (fun j hj hF => ?_), h.dl, h.ml, h.fb, fun k hk => ?_⟩
  · rcases hF with hF | hF
    · omega
    · have := h.fr _ hF.symm; omega
  · rcases hF with hF | hF
    · omega
    · have := h.fr _ hF.symm; omega
  · rcases hF with hF | hF
    · exact own_ne h.rw hb (by decide) (by rw [hk, hF])
    · exact own_own h.rw ho (by decide) k hk (by rw [hv, hF])
  · rcases hF with hF | hF
    · omega
    · exact h.fr _ hF.symm
  · rcases hr with rfl | ⟨j, rfl, hj⟩
    · exact h.fr k hk
    · injection hk with hk
      have := h.tn.size
      omega
end

theorem made_writer (w : World) : Wr (w.alloc (.cells #[.slice none 0 0] 152)) w.heap.size none [] :=
  ⟨_, Has.made _ _ _, World.ownsRow_nil _ 0 _ 1, rfl, by intro h; cases h⟩

theorem lflat_len (f : List UInt8 → List UInt8) (c : Nat) : ∀ l : List (List UInt8), (∀ x ∈ l, (f x).length ≤ c) → (l.flatMap f).length ≤ c * l.length
  | [], _ => by simp
  | x :: r, h => by
    have h1 := h x List.mem_cons_self
    have h2 := lflat_len f c r (fun y hy => h y (List.mem_cons_of_mem _ hy))
    rw [List.flatMap_cons, List.length_append, List.length_cons, Nat.mul_add]
    omega

theorem piece_len {D : DataW H} (I : InvF D) {x : List UInt8} (hx : x ∈ namesD D) : (pieceD D x).length ≤ 34 ∧ x.length ≤ 12 ∧ 0 ≤ amtL D x ∧ amtL D x ≤ 1099511627776 := by
  obtain ⟨h1, h2⟩ := (mem_namesD I.good x).1 hx
  have h3 := I.keys _ h2
  have h4 : x.length ≤ 12 := h3
  have h5 := I.inv.lo _ (empty_toArray h1)
  have h6 := I.inv.hi _ (empty_toArray h1)
  have h7 : amtL D x = amt D ⟨x.toArray⟩ := rfl
  have e1 := enc_len x.length (by omega)
  have e2 := enc_len (amtL D x).toNat (by omega)
  refine ⟨?_, h4, by omega, by omega⟩
  unfold pieceD
  rw [List.length_append, List.length_append]
  omega

set_option maxRecDepth 100000 in
set_option maxHeartbeats 1000000 in
theorem bsave_calls (d m : Nat) (D : DataW H) (w : World) (h : Bk w d m D) (I : InvF D) :
    Calls Tryz.prog 217 #[.pointer (some ⟨d, 0, none⟩)] w fun en w' => en = .returned (.string (saveB D)) ∧ Below w.heap.size w w' := by
  have hmax : Maps.size D ≤ 1000 := by have := I.inv.size; omega
  have hnl : (namesD D).length ≤ 16 := by have := namesD_len I; have := I.inv.size; omega
  have B := Lib.hid h
  have II := Lib.hid I
  have DL := Lib.hid h.box.lt
  have ML := Lib.hid (World.ownsMap.lt h.map)
  clear h
  go_enter Tryz.func217, Tryz.ntmps217
  go_wp2_with fail
  refine (bnames_calls d m D _ (B.out.kept (World.grownBy_alloc w _ none) (by simp) (by simp)) hmax).mono ?_
  rintro en w1 ⟨v, rfl, hrow, b1⟩
  have hrow' : w1.ownsRow 0 9 1 v (namesD D).length ((namesD D).map encStr) := by
    have := row_low hrow
    have e : (nb (strKeys D)).length = (namesD D).length := by unfold namesD; rw [List.length_mergeSort]
    rw [e] at this
    exact this
  have HJ0 : Hid (SJ w d m D w.heap.size none [] v (namesD D).length ((namesD D).map encStr) w1) := by
    have t0 : Turn (fun k => w.heap.size ≤ k) w (w.alloc (.cells #[.slice none 0 0] 152)) := (Turn.refl _ _).alloc _
    have t1 : Turn (fun k => w.heap.size ≤ k) w w1 := t0.trans (Turn.of_below b1 (F := fun k => (w.alloc (.cells #[.slice none 0 0] 152)).heap.size ≤ k) (fun _ _ e => e)) (fun j hj hF => by simp at hF; omega)
    obtain ⟨u, hb, ho, hv, hne⟩ := made_writer w
    have k1 : Turn (fun k => (w.alloc (.cells #[.slice none 0 0] 152)).heap.size ≤ k) (w.alloc (.cells #[.slice none 0 0] 152)) w1 := Turn.of_below b1 (fun _ _ e => e)
    refine ⟨⟨u, hb.turn k1 (by simp), own_turn ho k1 (fun b hb => by rw [hv] at hb; cases hb), hv, hne⟩, B.out.turn t1 (by have := DL.out; omega) (by have := ML.out; omega), hrow', t1, DL.out, ML.out, Nat.le_refl _, fun k hk => by cases hk⟩
  obtain ⟨a, c, rfl⟩ := own_slice hrow'
  clear hrow hrow' b1
  generalize hn : (namesD D).length = n at *
  have HN := Lib.hid hn
  clear hn
  go_wp2_with fail
  refine (wnum_int w.heap.size none [] (n : Int) w1 (by omega) (by omega) HJ0.out.wr (by simp)).mono ?_
  rintro en w2 ⟨rfl, r2, h2, hr2, t2⟩
  have HJ2 := Lib.hid (SJ.next _ HJ0.out hr2 t2 h2)
  simp only [List.nil_append, Int.toNat_natCast] at HJ2
  clear h2 hr2 t2 HJ0
  go_wp2_with fail
  go_loopw [15] (fun i wr => ∃ (k : Nat) (r : Option Nat), i = .int .i64 k ∧ k ≤ n ∧ SJ w d m D w.heap.size r (enc n ++ ((namesD D).take k).flatMap (pieceD D)) (.slice a n c) n ((namesD D).map encStr) wr)
    (fun i _ => n - (intOf i).toNat)
  case atStart => exact ⟨0, r2, rfl, Nat.zero_le _, by simpa using HJ2.out⟩
  case round =>
    obtain ⟨k, r, rfl, hk, hJ⟩ := hrel
    have HJ := Lib.hid hJ
    by_cases hlt : k < n
    · obtain ⟨g, c', hv, hnc, hcm, hcell⟩ := own_cell hJ.rw (by omega)
      obtain ⟨rfl, rfl⟩ : a = some ⟨g, 0, none⟩ ∧ c = c' := by injection hv with h1 _ h2; exact ⟨h1, h2⟩
      have hkl : k < (namesD D).length := by rw [HN.out]; exact hlt
      have hc0 := hcell k (encStr (namesD D)[k]) (by rw [List.getElem?_map, List.getElem?_eq_getElem hkl]; rfl)
      have HM : Hid ((namesD D)[k] ∈ namesD D) := List.getElem_mem hkl
      have HT : Hid ((namesD D).take (k + 1) = (namesD D).take k ++ [(namesD D)[k]]) := (List.take_append_getElem hkl).symm
      generalize (namesD D)[k] = x at *
      unfold encStr at hc0
      clear hcell hv hJ
      have hk2 : k ≤ c := by omega
      go_wp2_with fail
      have hp := piece_len II.out HM.out
      obtain ⟨hp0, hp1, hp2, hp3⟩ := hp
      have hcv : ∀ V : World, (convert 3 155 (.int .i64 (amtL D x))).run Tryz.prog V = .ok (.int .u64 (amtL D x)) V := fun V => by
        go_simp
        rw [IntKind.wrap_u64]; omega
      have hkey : keyOf Tryz.prog 9 (.string ⟨x.toArray⟩) = some (kS ⟨x.toArray⟩) := kS_of (by show x.toArray.size ≤ _; unfold maxLen; simp; omega)
      have hlen : (enc n ++ ((namesD D).take k).flatMap (pieceD D)).length ≤ 1000 := by
        have e1 := enc_len n (by omega)
        have e2 := lflat_len (pieceD D) 34 ((namesD D).take k) (fun y hy => (piece_len II.out (List.mem_of_mem_take hy)).1)
        rw [List.length_take] at e2
        rw [List.length_append]
        omega
      have hlen3 : (enc n ++ ((namesD D).take k).flatMap (pieceD D) ++ enc (⟨x.toArray⟩ : ByteArray).size ++ (⟨x.toArray⟩ : ByteArray).data.toList).length ≤ 1000000 := by
        have e0 : (⟨x.toArray⟩ : ByteArray).size = x.length := by show x.toArray.size = _; simp
        have e1 := enc_len x.length (by omega)
        have e2 : (⟨x.toArray⟩ : ByteArray).data.toList.length = x.length := by simp
        rw [e0, List.length_append, List.length_append]
        omega
      refine wp_region_held (S := fun V => Bk V d m D) (by kernel_rfl) ?_
      have HS0 : (fun V : World => Bk V d m D) wr.drew := HJ.out.drawn.bk
      refine held_take 0 (some 19) rfl rfl (by kernel_rfl) (by kernel_rfl) (by kernel_rfl) (fun _ _ _ h => h) (.inl ⟨by kernel_rfl, fun _ _ => rfl⟩) HS0 ?_
      refine held_take 2 (some 21) rfl rfl (by kernel_rfl) (by kernel_rfl) (by kernel_rfl) (fun _ _ _ h => h) (.inl ⟨by kernel_rfl, fun _ _ => rfl⟩) HS0 ?_
      refine held_take 3 (some 22) (v := .pointer (some ⟨d, 0, none⟩)) rfl rfl (by kernel_rfl) (by kernel_rfl) (by kernel_rfl) (fun _ _ _ h => h) (.inl ⟨by kernel_rfl, fun V _ => by go_simp⟩) HS0 ?_
      refine held_take 4 (some 23) (v := .pointer (some ⟨d, 0, none⟩)) rfl rfl (by kernel_rfl) (by kernel_rfl) (by kernel_rfl) (fun _ _ _ h => h) (.inl ⟨by kernel_rfl, fun V _ => by go_simp⟩) HS0 ?_
      refine held_take 5 (some 24) (v := .map (some m)) rfl rfl (by kernel_rfl) (by kernel_rfl) (by kernel_rfl) (fun _ _ _ h => h) (.inl ⟨by kernel_rfl, fun V hV => by have c0 : V.cell? ⟨d, 0, none⟩ = some (.map (some m)) := (show Bk V d m D from hV).box.cell 0; go_simp⟩) HS0 ?_
      refine held_take 6 (some 25) rfl rfl (by kernel_rfl) (by kernel_rfl) (by kernel_rfl) (fun _ _ _ h => h) (.inl ⟨by kernel_rfl, fun _ _ => rfl⟩) HS0 ?_
      refine held_take 7 (some 26) (v := .int .i64 (amtL D x)) rfl rfl (by kernel_rfl) (by kernel_rfl) (by kernel_rfl) (fun _ _ _ h => h) (.inl ⟨by kernel_rfl, fun V hV => by
        obtain ⟨q, hq, hat, _⟩ := World.ownsMap.lookup_int (show Bk V d m D from hV).map strKeyed Tryz.underlying238 Tryz.underlying3 (zeroInt V) hkey
        obtain rfl : amtL D x = q := amt_of hat
        go_simp⟩) HS0 ?_
      refine held_take 8 (some 27) (v := .int .u64 (amtL D x)) rfl rfl (by kernel_rfl) (by kernel_rfl) (by kernel_rfl) (fun _ _ _ h => h) (.inl ⟨by kernel_rfl, fun V _ => by go_simp⟩) HS0 ?_
      simp only [Act.put, List.setIfInBounds_toArray, List.set_cons_zero, List.set_cons_succ]
      refine held_one (i := 1) (by kernel_rfl) ?_
      refine wpOp_call (some 20) rfl rfl (by kernel_rfl) 161 Tryz.f161 Tryz.func161 (by kernel_rfl) (by kernel_rfl) _ _ rfl #[.pointer (some ⟨w.heap.size, 0, none⟩), .string ⟨x.toArray⟩] (by first | (simp [Act.eval]; done) | (simp [Act.eval, Act.put]; done)) (wstr_any w.heap.size r _ ⟨x.toArray⟩ _ HJ.out.drawn.wr (by omega) (by show x.toArray.size ≤ _; simp; omega)) ?_
      rintro en v ⟨rfl, r3, h3, hr3, t3⟩
      have HJ3 := Lib.hid (SJ.next _ HJ.out.drawn hr3 t3 h3)
      clear h3 hr3 t3
      refine ⟨_, rfl, HJ3.out.bk, ?_⟩
      simp only [Act.put, List.setIfInBounds_toArray, List.set_cons_zero, List.set_cons_succ]
      refine held_one (i := 9) (by kernel_rfl) ?_
      refine wpOp_call (some 28) rfl rfl (by kernel_rfl) 75 Tryz.f75 Tryz.func75 (by kernel_rfl) (by kernel_rfl) _ _ rfl #[.pointer (some ⟨w.heap.size, 0, none⟩), .int .u64 (amtL D x)] (by first | (simp [Act.eval]; done) | (simp [Act.eval, Act.put]; done)) (wnum_int w.heap.size r3 _ (amtL D x) _ hp2 (by omega) HJ3.out.wr hlen3) ?_
      rintro en v4 ⟨rfl, r4, h4, hr4, t4⟩
      have HJ4 := Lib.hid (SJ.next _ HJ3.out hr4 t4 h4)
      clear h4 hr4 t4
      refine ⟨_, rfl, HJ4.out.bk, ?_⟩
      simp only [Act.put, List.setIfInBounds_toArray, List.set_cons_zero, List.set_cons_succ]
      refine wpAnyH_done (by kernel_rfl) ?_ _
      clear HS0 hkey hcv
      go_wp2_with fail
      go_roundw
      case rel =>
        refine ⟨k + 1, r4, by go_num, by omega, ?_⟩
        have e : enc n ++ ((namesD D).take (k + 1)).flatMap (pieceD D) = enc n ++ ((namesD D).take k).flatMap (pieceD D) ++ enc (⟨x.toArray⟩ : ByteArray).size ++ (⟨x.toArray⟩ : ByteArray).data.toList ++ enc (amtL D x).toNat := by
          rw [HT.out, List.flatMap_append]
          have : (⟨x.toArray⟩ : ByteArray).size = x.length := by show x.toArray.size = _; simp
          rw [this]
          simp [pieceD]
        rw [e]
        exact HJ4.out
      case measure => simp [intOf]; omega
    · obtain rfl : k = n := by omega
      have E : Hid (enc k ++ ((namesD D).take k).flatMap (pieceD D) = saveL D) := by
        show _ = _
        rw [List.take_of_length_le (by rw [HN.out]; omega)]
        unfold saveL
        rw [HN.out]
      clear hJ
      go_wp2_with fail
      refine (text_any _ _ _ _ HJ.out.wr).mono ?_
      rintro en w6 ⟨rfl, rfl⟩
      go_wp2_with fail
      go_ret
      refine ⟨?_, HJ.out.tn.below (Nat.le_refl _) (fun j hj e => by omega)⟩
      show Ending.returned (.string _) = _
      rw [E.out]
      rfl

end
end Go.Proofs.YtcdedkgkingbdaaGreatDoor
end

