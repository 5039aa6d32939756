/- Texts laid into one: StoB, StoN, StoC. -/
import Derived.Test.YtcdedkgkingbdaaGreatDoorQ022
import Derived.Test.YtcdedkgkingbdaaGreatDoorQ021
import Derived.Shelf.SlIter.Nil
import Derived.Shelf.SortM.Plain
import Derived.Shelf.SortM.SortNone
import Derived.Ground.GgzProg
import Derived.Ground.SlgmProg
import Derived.Shelf.SlGeneric
section
/- stock: what every shelf keeps; when an op is done, what it does, what takes it back (no program's walk). -/
namespace Go.Proofs.YtcdedkgkingbdaaGreatDoor.stock
open Go.RowKit Go.Maps Go.Sort

section
variable {H : Type}

/-- What every shelf that is reached keeps. -/
structure InvS (D : DataW H) : Prop where
  good : Good D
  size : Maps.size D ≤ 16
  keys : ∀ s : ByteArray, isIn D s = true → s ≠ .empty ∧ s.size ≤ 12 ∧ 1 ≤ amt D s ∧ amt D s ≤ 1099511627776

theorem InvS.map {D : DataW H} (I : InvS D) : IsMap D := I.good.tidy.isMap
theorem InvS.small {D : DataW H} (I : InvS D) (s : ByteArray) : 0 ≤ amt D s ∧ amt D s ≤ 1099511627776 := by
  cases h : isIn D s
  · rw [amt_absent h]; omega
  · have := I.keys s h; omega
theorem InvS.isIn_iff {D : DataW H} (I : InvS D) (s : ByteArray) : isIn D s = true ↔ 1 ≤ amt D s := by
  constructor
  · intro h; exact (I.keys s h).2.2.1
  · intro h
    cases h2 : isIn D s
    · rw [amt_absent h2] at h; omega
    · rfl
theorem InvS.absent {D : DataW H} (I : InvS D) {s : ByteArray} : isIn D s = false ↔ amt D s = 0 := by
  have h := I.isIn_iff s
  have h2 := (I.small s).1
  constructor
  · intro e; exact amt_absent e
  · intro e
    cases h3 : isIn D s
    · rfl
    · have := h.1 h3; omega

theorem alike_of {D D' : DataW H} (I : InvS D) (I' : InvS D') (h : ∀ s, amt D s = amt D' s) : Alike D D' := by
  refine ⟨I.good, I'.good, fun s => ⟨?_, h s⟩⟩
  have h1 := I.isIn_iff s
  have h2 := I'.isIn_iff s
  rw [h s, ← h2] at h1
  cases e1 : isIn D s <;> cases e2 : isIn D' s
  · rfl
  · rw [e1, e2] at h1; simp at h1
  · rw [e1, e2] at h1; simp at h1
  · rfl
theorem Alike.invS {D D' : DataW H} (h : Alike D D') (I : InvS D') : InvS D :=
  ⟨h.l, by rw [h.size]; exact I.size, fun s hs => by rw [(h.same s).2]; exact I.keys s (by rw [← (h.same s).1]; exact hs)⟩

/-- The error of an op. -/
def chkS (k : Int) (s : ByteArray) (n : Int) : Int :=
  if k = 1 ∨ k = 2 then (if ¬ s.toList = [] ∧ s.size ≤ 12 ∧ 1 ≤ n ∧ n ≤ 1099511627776 then 0 else 4) else 5
/-- An op done: the map, the error. -/
def doS (D : DataW H) (k : Int) (s : ByteArray) (n : Int) : DataW H × Int :=
  if ¬ chkS k s n = 0 then (D, chkS k s n) else if k = 1 then adS D s n else tkS D s n

theorem chkS_ok {k n : Int} {s : ByteArray} (h : chkS k s n = 0) : (k = 1 ∨ k = 2) ∧ ¬ s.toList = [] ∧ s.size ≤ 12 ∧ 1 ≤ n ∧ n ≤ 1099511627776 := by
  unfold chkS at h
  split at h
  · rename_i h1
    split at h
    · rename_i h2; exact ⟨h1, h2⟩
    · omega
  · omega
/-- When an op is done. -/
structure okS (D : DataW H) (k : Int) (s : ByteArray) (n : Int) : Prop where
  chk : chkS k s n = 0
  one : k = 1 → (amt D s = 0 → Maps.size D < 16) ∧ amt D s + n ≤ 1099511627776
  two : k = 2 → n ≤ amt D s

theorem doS_chk {D : DataW H} {k n : Int} {s : ByteArray} (h : (doS D k s n).2 = 0) : chkS k s n = 0 := by
  by_cases hc : chkS k s n = 0
  · exact hc
  · unfold doS at h; rw [if_pos hc] at h; exact absurd h hc
theorem doS_of {D : DataW H} {k n : Int} {s : ByteArray} (h : chkS k s n = 0) : doS D k s n = if k = 1 then adS D s n else tkS D s n := by
  unfold doS; rw [if_neg (by simpa using h)]

theorem adS_ok {D : DataW H} (I : InvS D) {s : ByteArray} {n : Int} : (adS D s n).2 = 0 ↔ (amt D s = 0 → Maps.size D < 16) ∧ amt D s + n ≤ 1099511627776 := by
  unfold adS
  by_cases h1 : isIn D s = false ∧ 16 ≤ Maps.size D
  · rw [if_pos h1]
    constructor
    · intro h; simp at h
    · rintro ⟨h, _⟩
      have := h (I.absent.1 h1.1)
      omega
  · rw [if_neg h1]
    have h1' : amt D s = 0 → Maps.size D < 16 := fun e => Nat.lt_of_not_le (fun k => h1 ⟨I.absent.2 e, k⟩)
    by_cases h2 : 1099511627776 < amt D s + n
    · rw [if_pos h2]
      constructor
      · intro h; simp at h
      · rintro ⟨_, h⟩; omega
    · rw [if_neg h2]
      exact ⟨fun _ => ⟨h1', by omega⟩, fun _ => rfl⟩
theorem adS_is {D : DataW H} (I : InvS D) {s : ByteArray} {n : Int} (h : (adS D s n).2 = 0) : (adS D s n).1 = D.put (kS s) (nI (amt D s + n)) := by
  obtain ⟨h1, h2⟩ := (adS_ok I).1 h
  unfold adS
  rw [if_neg (fun e => by have := h1 (I.absent.1 e.1); omega), if_neg (by omega)]
theorem tkS_ok {D : DataW H} (I : InvS D) {s : ByteArray} {n : Int} (hn : 1 ≤ n) : (tkS D s n).2 = 0 ↔ n ≤ amt D s := by
  unfold tkS
  cases h1 : isIn D s
  · rw [if_pos rfl]
    have := I.absent.1 h1
    constructor
    · intro h; simp at h
    · intro h; omega
  · rw [if_neg (by simp)]
    by_cases h2 : amt D s < n
    · rw [if_pos h2]
      constructor
      · intro h; simp at h
      · intro h; omega
    · rw [if_neg h2]
      refine ⟨fun _ => by omega, fun _ => ?_⟩
      split <;> rfl
theorem tkS_is {D : DataW H} (I : InvS D) {s : ByteArray} {n : Int} (hn : 1 ≤ n) (h : (tkS D s n).2 = 0) : (tkS D s n).1 = if amt D s = n then D.del (kS s) else D.put (kS s) (nI (amt D s - n)) := by
  have h1 := (tkS_ok I hn).1 h
  have h2 : isIn D s = true := (I.isIn_iff s).2 (by omega)
  unfold tkS
  rw [if_neg (by rw [h2]; simp), if_neg (by omega)]
  split <;> rfl

theorem doS_ok {D : DataW H} (I : InvS D) {k n : Int} {s : ByteArray} : (doS D k s n).2 = 0 ↔ okS D k s n := by
  constructor
  · intro h
    have hc := doS_chk h
    obtain ⟨hk, h0, _, h1, _⟩ := chkS_ok hc
    rw [doS_of hc] at h
    rcases hk with rfl | rfl
    · rw [if_pos rfl] at h
      exact ⟨hc, fun _ => (adS_ok I).1 h, fun e => by omega⟩
    · rw [if_neg (by decide)] at h
      exact ⟨hc, fun e => by omega, fun _ => (tkS_ok I h1).1 h⟩
  · intro h
    obtain ⟨hk, h0, _, h1, _⟩ := chkS_ok h.chk
    rw [doS_of h.chk]
    rcases hk with rfl | rfl
    · rw [if_pos rfl]; exact (adS_ok I).2 (h.one rfl)
    · rw [if_neg (by decide)]; exact (tkS_ok I h1).2 (h.two rfl)

/-- What an op adds to a name's amount. -/
def dltS (k : Int) (s : ByteArray) (n : Int) (x : ByteArray) : Int := if x = s then (if k = 1 then n else -n) else 0

theorem doS_amt {D : DataW H} (I : InvS D) {k n : Int} {s : ByteArray} (h : (doS D k s n).2 = 0) (x : ByteArray) : amt (doS D k s n).1 x = amt D x + dltS k s n x := by
  have hc := doS_chk h
  have ho := (doS_ok I).1 h
  obtain ⟨hk, h0, _, h1, _⟩ := chkS_ok hc
  rw [doS_of hc] at h ⊢
  unfold dltS
  rcases hk with rfl | rfl
  · rw [if_pos rfl] at h ⊢
    rw [adS_is I h, amt_put I.map]
    by_cases hx : x = s
    · subst hx; simp
    · simp [hx]
  · rw [if_neg (by decide)] at h ⊢
    rw [tkS_is I h1 h]
    split
    · rename_i he
      rw [amt_del]
      by_cases hx : x = s
      · subst hx; simp; omega
      · simp [hx]
    · rw [amt_put I.map]
      by_cases hx : x = s
      · subst hx; simp; omega
      · simp [hx]

theorem doS_not {D : DataW H} {k n : Int} {s : ByteArray} (h : ¬ (doS D k s n).2 = 0) : (doS D k s n).1 = D := by
  unfold doS at h ⊢
  split at h
  · rename_i h1; rw [if_pos h1]
  · rename_i h1
    rw [if_neg h1]
    split at h
    · rename_i h2
      rw [if_pos h2]
      unfold adS at h ⊢
      split at h <;> rename_i h3
      · rw [if_pos h3]
      · rw [if_neg h3]
        split at h <;> rename_i h4
        · rw [if_pos h4]
        · exact absurd rfl h
    · rename_i h2
      rw [if_neg h2]
      unfold tkS at h ⊢
      split at h <;> rename_i h3
      · rw [if_pos h3]
      · rw [if_neg h3]
        split at h <;> rename_i h4
        · rw [if_pos h4]
        · rw [if_neg h4]
          split at h <;> exact absurd rfl h

/-- The invariant stays; there is at most one good more. -/
theorem doS_inv {D : DataW H} (I : InvS D) (k n : Int) (s : ByteArray) : InvS (doS D k s n).1 ∧ Maps.size (doS D k s n).1 ≤ Maps.size D + 1 := by
  by_cases h : (doS D k s n).2 = 0
  · have hc := doS_chk h
    have ho := (doS_ok I).1 h
    have ha := doS_amt I h
    obtain ⟨hk, h0, hz, h1, h2⟩ := chkS_ok hc
    have hs0 : s ≠ .empty := empty_list h0
    have hsm := I.small s
    have key : Good (doS D k s n).1 ∧ Maps.size (doS D k s n).1 ≤ 16 ∧ Maps.size (doS D k s n).1 ≤ Maps.size D + 1 ∧ ∀ x, isIn (doS D k s n).1 x = true → x = s ∨ isIn D x = true := by
      have hI := I.size
      rw [doS_of hc] at h ⊢
      rcases hk with rfl | rfl
      · rw [if_pos rfl] at h ⊢
        rw [adS_is I h]
        have hz := (ho.one rfl).1
        refine ⟨I.good.put _ _, ?_, ?_, fun x hx => ?_⟩
        · rw [size_put I.good.tidy]
          split
          · exact hI
          · rename_i hn
            have : amt D s = 0 := I.absent.1 (by show has D (kS s) = false; simpa using hn)
            have := hz this
            omega
        · rw [size_put I.good.tidy]
          split <;> omega
        · rw [isIn_put I.map] at hx
          split at hx
          · exact .inl (by assumption)
          · exact .inr hx
      · rw [if_neg (by decide)] at h ⊢
        rw [tkS_is I h1 h]
        have hin : has D (kS s) = true := (I.isIn_iff s).2 (by have := ho.two rfl; omega)
        split
        · have := size_del (k := kS s) I.good.tidy
          refine ⟨I.good.del _, by omega, by omega, fun x hx => ?_⟩
          rw [isIn_del] at hx
          split at hx
          · cases hx
          · exact .inr hx
        · refine ⟨I.good.put _ _, ?_, ?_, fun x hx => ?_⟩
          · rw [size_put I.good.tidy, if_pos hin]; exact hI
          · rw [size_put I.good.tidy, if_pos hin]; omega
          · rw [isIn_put I.map] at hx
            split at hx
            · exact .inl (by assumption)
            · exact .inr hx
    have pos : ∀ x, isIn (doS D k s n).1 x = true → 1 ≤ amt (doS D k s n).1 x := fun x hx => by
      rw [ha x]
      unfold dltS
      by_cases hxs : x = s
      · subst hxs
        rw [if_pos rfl]
        rcases hk with rfl | rfl
        · rw [if_pos rfl]; omega
        · rw [if_neg (by decide)]
          have h5 := ho.two rfl
          rcases Int.lt_or_eq_of_le h5 with h6 | h6
          · omega
          · exfalso
            rw [doS_of hc, if_neg (by decide)] at h hx
            rw [tkS_is I h1 h, if_pos h6.symm, isIn_del, if_pos rfl] at hx
            cases hx
      · rw [if_neg hxs]
        rcases key.2.2.2 x hx with h6 | h6
        · exact absurd h6 hxs
        · have := I.keys x h6; omega
    refine ⟨⟨key.1, key.2.1, fun x hx => ?_⟩, key.2.2.1⟩
    have hp := pos x hx
    rcases key.2.2.2 x hx with rfl | h6
    · refine ⟨hs0, hz, hp, ?_⟩
      rw [ha x]
      unfold dltS
      rw [if_pos rfl]
      rcases hk with rfl | rfl
      · rw [if_pos rfl]; exact (ho.one rfl).2
      · rw [if_neg (by decide)]; omega
    · have h7 := I.keys x h6
      refine ⟨h7.1, h7.2.1, hp, ?_⟩
      rw [ha x]
      unfold dltS
      by_cases hxs : x = s
      · subst hxs
        rw [if_pos rfl]
        rcases hk with rfl | rfl
        · rw [if_pos rfl]; exact (ho.one rfl).2
        · rw [if_neg (by decide)]; omega
      · rw [if_neg hxs]; omega
  · rw [doS_not h]; exact ⟨I, by omega⟩

theorem invS_new : InvS (.map [] : DataW H) := ⟨good_empty, by show (0 : Nat) ≤ 16; omega, fun s hs => by cases hs⟩

/-- What is alike stays alike. -/
theorem doS_alike {D D' : DataW H} (a : Alike D D') (I' : InvS D') (k n : Int) (s : ByteArray) :
    ((doS D k s n).2 = 0 ↔ (doS D' k s n).2 = 0) ∧ Alike (doS D k s n).1 (doS D' k s n).1 := by
  have I : InvS D := Alike.invS a I'
  have hiff : (doS D k s n).2 = 0 ↔ (doS D' k s n).2 = 0 := by
    rw [doS_ok I, doS_ok I']
    constructor
    · intro h
      exact ⟨h.chk, fun e => by rw [← (a.same s).2, ← a.size]; exact h.one e, fun e => by rw [← (a.same s).2]; exact h.two e⟩
    · intro h
      exact ⟨h.chk, fun e => by rw [(a.same s).2, a.size]; exact h.one e, fun e => by rw [(a.same s).2]; exact h.two e⟩
  refine ⟨hiff, ?_⟩
  by_cases h : (doS D k s n).2 = 0
  · refine alike_of (doS_inv I k n s).1 (doS_inv I' k n s).1 (fun x => ?_)
    rw [doS_amt I h, doS_amt I' (hiff.1 h), (a.same x).2]
  · rw [doS_not h, doS_not (fun e => h (hiff.2 e))]; exact a

/-- No name is empty: all are told. -/
theorem names_all {D : DataW H} (I : InvS D) : nb (strKeys D) = strKeys D := by
  unfold nb
  rw [List.filter_eq_self]
  intro x hx
  have h := (I.keys ⟨x.toArray⟩ (by have := (mem_strKeys I.good x).1 hx; unfold isIn kS; simpa using this)).1
  cases x with
  | nil => exact absurd rfl h
  | cons a b => rfl
theorem names_is {D : DataW H} (I : InvS D) : namesD D = (strKeys D).mergeSort leB := by unfold namesD; rw [names_all I]
theorem names_size {D : DataW H} (I : InvS D) : (namesD D).length = Maps.size D := by
  rw [names_is I, List.length_mergeSort, strKeys_len I.good]
theorem piece_lenS {D : DataW H} (I : InvS D) {x : List UInt8} (hx : x ∈ namesD D) : (pieceD D x).length ≤ 34 ∧ x.length ≤ 12 ∧ 1 ≤ amtL D x ∧ amtL D x ≤ 1099511627776 := by
  obtain ⟨h1, h2⟩ := (mem_namesD I.good x).1 hx
  have h3 := I.keys _ h2
  have h4 : x.length ≤ 12 := h3.2.1
  have h7 : amtL D x = amt D ⟨x.toArray⟩ := rfl
  have e1 := enc_len x.length (by omega)
  have e2 := enc_len (amtL D x).toNat (by omega)
  refine ⟨?_, h4, by omega, by omega⟩
  unfold pieceD
  rw [List.length_append, List.length_append]
  omega

end
end Go.Proofs.YtcdedkgkingbdaaGreatDoor.stock
end

section
/- stock: slices.Sorted(maps.Keys(m)) off the shelf; what Names gives. -/
namespace Go.Proofs
open Go.RowKit Go.Maps Go.Sort Go.Shelf

shelf_lay_g SlLaysZ.n7 Ggz 7 at Tryz 249 as Tryz.stKeys
shelf_lay_g SlLaysZ.n6 Ggz 6 at Tryz 248 as Tryz.stSorted
shelf_lay_g SlLaysM.n6 Slgm 6 at Tryz 222 as Tryz.stSort

/-- slices.Sort's two contracts at this dump, at the fence that asks nothing. -/
theorem Tryz.stSorts (m : Nat) : AnyZ.SortsIn Tryz.prog Tryz.stSorted_ren Fence.wide m :=
  ⟨fun blk off cap ss W hH hblk hsz => callsIn_wide.2 (AnyM.slices_Sort_string Tryz.stSort blk off cap ss W hH hblk hsz),
   fun p cap W => callsIn_wide.2 (AnyM.slices_Sort_string_none Tryz.stSort p cap W)⟩

/-- **maps.Keys[map[string]int,string,int], at whatever map, the nil one too:** a function value over ONE NEW BLOCK, which holds the map. -/
theorem Tryz.st_maps_Keys (mb : Option Nat) (W : World) : CallsIn Fence.wide 5 Tryz.prog 249 #[.map mb] W fun e w' => e = .returned (.func (.func 251) #[] #[.pointer (some ⟨W.heap.size, 0, none⟩)]) ∧ w' = W.alloc (.cells #[.map mb] 238) :=
  AnyZ.keys_in Tryz.stKeys Fence.wide 5 trivial rfl mb W

set_option maxHeartbeats 1000000 in
/-- **slices.Sorted[string] AT WHAT maps.Keys[map[string]int,string,int] HANDED BACK FOR A MAP THAT IS NOT nil** ('w': the world AHEAD of maps.Keys' call): A NEW SLICE THAT HOLDS THE MAP's KEYS, SORTED; nil just where it has none; nothing that lay before has turned. -/
theorem Tryz.st_sorted_keys {H : Type} (b nn : Nat) (D0 : DataW H) (R : Value → Option (DataW H × List MemPlace)) (w : World) (hown : w.ownsMap Tryz.prog 9 R b nn D0) (hmax : Maps.size D0 ≤ maxLen) (hbytes : Maps.size D0 * 16 ≤ 140737488355328) :
    CallsIn Fence.wide 5 Tryz.prog 248 #[.func (.func 251) #[] #[.pointer (some ⟨w.heap.size, 0, none⟩)]] (w.alloc (.cells #[.map (some b)] 238)) fun e w' => ∃ (v : Value) (ss : List (List UInt8)), e = .returned v ∧ ss.Perm (strKeys D0) ∧
      w'.ownsRow (w.alloc (.cells #[.map (some b)] 238)).heap.size 9 1 v ss.length ((ss.mergeSort (fun x y => decide (x ≤ y))).map encStr) ∧ (v = .slice none 0 0 ↔ ss = []) ∧ Below (w.alloc (.cells #[.map (some b)] 238)).heap.size (w.alloc (.cells #[.map (some b)] 238)) w' := by
  have hbl := hown.lt
  have hseq : SeqGives Fence.wide 2 Tryz.prog 251 #[.pointer (some ⟨w.heap.size, 0, none⟩)] encStr (fun ss => ss.Perm (strKeys D0)) (Maps.size D0) (w.alloc (.cells #[.map (some b)] 238)) :=
    AnyZ.keys_gives (ρ := Tryz.stKeys_ren) { Tryz.stKeys with } Fence.wide _ trivial rfl (by omega) w.heap.size b nn D0 _ (by simp) (by simp) (by
      obtain ⟨es, clock, hb, Ft, hs, hD⟩ := hown
      exact ⟨es, clock, (Below.heap_alloc _ _ b hbl).trans hb, Ft, hs, hD⟩)
  exact AnyZ.sorted_in Tryz.stSorted Fence.wide 5 trivial trivial trivial trivial rfl (by omega) (Tryz.stSorts _) (enters_of Tryz.func222 (by kernel_rfl) rfl) 251 #[.pointer (some ⟨w.heap.size, 0, none⟩)] trivial (enters_of Tryz.func251 (by kernel_rfl) rfl) _ _ hmax hbytes _ hseq

end Go.Proofs
namespace Go.Proofs.YtcdedkgkingbdaaGreatDoor.stock
open Go.RowKit Go.Maps Go.Sort

section
variable {H : Type}

def SNamesPost (D : DataW H) (w : World) (en : Ending) (w' : World) : Prop :=
  ∃ v, en = .returned v ∧ w'.ownsRow 0 9 1 v (namesD D).length ((namesD D).map encStr) ∧ Below w.heap.size w w'

set_option maxRecDepth 100000 in
set_option maxHeartbeats 1000000 in
theorem snames_calls (d m : Nat) (D : DataW H) (w : World) (h : Sk w d m D) (I : InvS D) :
    Calls Tryz.prog 247 #[.pointer (some ⟨d, 0, none⟩)] w fun en w' => SNamesPost D w en w' := by
  have c0 : w.cell? ⟨d, 0, none⟩ = some (.map (some m)) := h.box.cell 0
  have hown : w.ownsMap Tryz.prog 9 (plainElem Tryz.prog 3) m (Maps.size D) D := h.map
  have hsz := I.size
  have hm1 : Maps.size D ≤ maxLen := by unfold maxLen; omega
  have hm2 : Maps.size D * 16 ≤ 140737488355328 := by omega
  have hK := Lib.hid (callsIn_wide.1 (Tryz.st_maps_Keys (some m) w))
  have hS := Lib.hid (callsIn_wide.1 (Tryz.st_sorted_keys m (Maps.size D) D (plainElem Tryz.prog 3) w hown hm1 hm2))
  have II := Lib.hid I
  clear h hown hsz hm1 hm2 I
  go_enter Tryz.func247, Tryz.ntmps247
  go_wp2_with fail
  refine hK.out.mono ?_
  rintro en w1 ⟨rfl, rfl⟩
  go_wp2_with fail
  refine hS.out.mono ?_
  rintro en w2 ⟨v, ss, rfl, hp, hrow, _, hb⟩
  go_wp2_with fail
  go_ret
  have e : ss.mergeSort leB = namesD D := by rw [names_is II.out, mergeSort_of_perm hp]
  have e2 : ss.length = (namesD D).length := by rw [← e, List.length_mergeSort]
  refine ⟨v, rfl, ?_, ((Below.refl _ w).alloc (Nat.le_refl _) _).trans (hb.mono (by simp))⟩
  rw [← e2, ← e]
  exact row_low hrow

end
end Go.Proofs.YtcdedkgkingbdaaGreatDoor.stock
end

section
/- stock: what Check, Do, Inverse give. -/
namespace Go.Proofs.YtcdedkgkingbdaaGreatDoor.stock
open Go.RowKit Go.Maps

section
variable (k n : Int) (s : ByteArray) (w : World)
def CkPost (c : Int) (w : World) (en : Ending) (w' : World) : Prop := en = .returned (.int .i64 c) ∧ Below w.heap.size w w'
set_option maxRecDepth 100000 in
set_option maxHeartbeats 1000000 in
theorem chk1_a (h : s.toList = []) (hs : (s.size : Int) ≤ 9223372036854775807) (e : chkS 1 s n = 4) :
    Calls Tryz.prog 181 #[.agg #[.int .i64 1, .string s, .int .i64 n]] w (CkPost (chkS 1 s n) w) := by
  obtain rfl := nil_of h
  clear h
  have _u := Lib.hid hs
  have E := Lib.hid e
  clear e
  go_enter Tryz.func181, Tryz.ntmps181
  go_wp2_with fail
  go_ret
  rw [E.out]
  exact ⟨rfl, new_box _ _⟩

set_option maxRecDepth 100000 in
set_option maxHeartbeats 1000000 in
theorem chk1_b (h : ¬ s.toList = []) (h2 : 12 < s.size) (hs : (s.size : Int) ≤ 9223372036854775807) (e : chkS 1 s n = 4) :
    Calls Tryz.prog 181 #[.agg #[.int .i64 1, .string s, .int .i64 n]] w (CkPost (chkS 1 s n) w) := by
  obtain ⟨a1, a2, a3⟩ := some_of h
  have _u := Lib.hid hs
  have E := Lib.hid e
  clear e
  go_enter Tryz.func181, Tryz.ntmps181
  go_wp2_with fail
  go_ret
  rw [E.out]
  exact ⟨rfl, new_box _ _⟩

set_option maxRecDepth 100000 in
set_option maxHeartbeats 1000000 in
theorem chk1_c (h : ¬ s.toList = []) (h2 : s.size ≤ 12) (h3 : n < 1) (hs : (s.size : Int) ≤ 9223372036854775807) (e : chkS 1 s n = 4) :
    Calls Tryz.prog 181 #[.agg #[.int .i64 1, .string s, .int .i64 n]] w (CkPost (chkS 1 s n) w) := by
  obtain ⟨a1, a2, a3⟩ := some_of h
  have _u := Lib.hid hs
  have E := Lib.hid e
  clear e
  go_enter Tryz.func181, Tryz.ntmps181
  go_wp2_with fail
  go_ret
  rw [E.out]
  exact ⟨rfl, new_box _ _⟩

set_option maxRecDepth 100000 in
set_option maxHeartbeats 1000000 in
theorem chk1_d (h : ¬ s.toList = []) (h2 : s.size ≤ 12) (h3 : 1 ≤ n) (h4 : 1099511627776 < n) (hs : (s.size : Int) ≤ 9223372036854775807) (e : chkS 1 s n = 4) :
    Calls Tryz.prog 181 #[.agg #[.int .i64 1, .string s, .int .i64 n]] w (CkPost (chkS 1 s n) w) := by
  obtain ⟨a1, a2, a3⟩ := some_of h
  have _u := Lib.hid hs
  have E := Lib.hid e
  clear e
  go_enter Tryz.func181, Tryz.ntmps181
  go_wp2_with fail
  go_ret
  rw [E.out]
  exact ⟨rfl, new_box _ _⟩

set_option maxRecDepth 100000 in
set_option maxHeartbeats 1000000 in
theorem chk1_f (h : ¬ s.toList = []) (h2 : s.size ≤ 12) (h3 : 1 ≤ n) (h4 : n ≤ 1099511627776) (hs : (s.size : Int) ≤ 9223372036854775807) (e : chkS 1 s n = 0) :
    Calls Tryz.prog 181 #[.agg #[.int .i64 1, .string s, .int .i64 n]] w (CkPost (chkS 1 s n) w) := by
  obtain ⟨a1, a2, a3⟩ := some_of h
  have _u := Lib.hid hs
  have E := Lib.hid e
  clear e
  go_enter Tryz.func181, Tryz.ntmps181
  go_wp2_with fail
  go_ret
  rw [E.out]
  exact ⟨rfl, new_box _ _⟩

set_option maxRecDepth 100000 in
set_option maxHeartbeats 1000000 in
theorem chk2_a (h : s.toList = []) (hs : (s.size : Int) ≤ 9223372036854775807) (e : chkS 2 s n = 4) :
    Calls Tryz.prog 181 #[.agg #[.int .i64 2, .string s, .int .i64 n]] w (CkPost (chkS 2 s n) w) := by
  obtain rfl := nil_of h
  clear h
  have _u := Lib.hid hs
  have E := Lib.hid e
  clear e
  go_enter Tryz.func181, Tryz.ntmps181
  go_wp2_with fail
  go_ret
  rw [E.out]
  exact ⟨rfl, new_box _ _⟩

set_option maxRecDepth 100000 in
set_option maxHeartbeats 1000000 in
theorem chk2_b (h : ¬ s.toList = []) (h2 : 12 < s.size) (hs : (s.size : Int) ≤ 9223372036854775807) (e : chkS 2 s n = 4) :
    Calls Tryz.prog 181 #[.agg #[.int .i64 2, .string s, .int .i64 n]] w (CkPost (chkS 2 s n) w) := by
  obtain ⟨a1, a2, a3⟩ := some_of h
  have _u := Lib.hid hs
  have E := Lib.hid e
  clear e
  go_enter Tryz.func181, Tryz.ntmps181
  go_wp2_with fail
  go_ret
  rw [E.out]
  exact ⟨rfl, new_box _ _⟩

set_option maxRecDepth 100000 in
set_option maxHeartbeats 1000000 in
theorem chk2_c (h : ¬ s.toList = []) (h2 : s.size ≤ 12) (h3 : n < 1) (hs : (s.size : Int) ≤ 9223372036854775807) (e : chkS 2 s n = 4) :
    Calls Tryz.prog 181 #[.agg #[.int .i64 2, .string s, .int .i64 n]] w (CkPost (chkS 2 s n) w) := by
  obtain ⟨a1, a2, a3⟩ := some_of h
  have _u := Lib.hid hs
  have E := Lib.hid e
  clear e
  go_enter Tryz.func181, Tryz.ntmps181
  go_wp2_with fail
  go_ret
  rw [E.out]
  exact ⟨rfl, new_box _ _⟩

set_option maxRecDepth 100000 in
set_option maxHeartbeats 1000000 in
theorem chk2_d (h : ¬ s.toList = []) (h2 : s.size ≤ 12) (h3 : 1 ≤ n) (h4 : 1099511627776 < n) (hs : (s.size : Int) ≤ 9223372036854775807) (e : chkS 2 s n = 4) :
    Calls Tryz.prog 181 #[.agg #[.int .i64 2, .string s, .int .i64 n]] w (CkPost (chkS 2 s n) w) := by
  obtain ⟨a1, a2, a3⟩ := some_of h
  have _u := Lib.hid hs
  have E := Lib.hid e
  clear e
  go_enter Tryz.func181, Tryz.ntmps181
  go_wp2_with fail
  go_ret
  rw [E.out]
  exact ⟨rfl, new_box _ _⟩

set_option maxRecDepth 100000 in
set_option maxHeartbeats 1000000 in
theorem chk2_f (h : ¬ s.toList = []) (h2 : s.size ≤ 12) (h3 : 1 ≤ n) (h4 : n ≤ 1099511627776) (hs : (s.size : Int) ≤ 9223372036854775807) (e : chkS 2 s n = 0) :
    Calls Tryz.prog 181 #[.agg #[.int .i64 2, .string s, .int .i64 n]] w (CkPost (chkS 2 s n) w) := by
  obtain ⟨a1, a2, a3⟩ := some_of h
  have _u := Lib.hid hs
  have E := Lib.hid e
  clear e
  go_enter Tryz.func181, Tryz.ntmps181
  go_wp2_with fail
  go_ret
  rw [E.out]
  exact ⟨rfl, new_box _ _⟩

set_option maxRecDepth 100000 in
set_option maxHeartbeats 1000000 in
theorem chk0 (h1 : ¬ k = 1) (h2 : ¬ k = 2) (hs : (s.size : Int) ≤ 9223372036854775807) (e : chkS k s n = 5) :
    Calls Tryz.prog 181 #[.agg #[.int .i64 k, .string s, .int .i64 n]] w (CkPost (chkS k s n) w) := by
  have k1 : (k != 1) = true := by simpa using h1
  have k2 : (k != 2) = true := by simpa using h2
  clear h1 h2
  have _u := Lib.hid hs
  have E := Lib.hid e
  clear e
  go_enter Tryz.func181, Tryz.ntmps181
  go_wp2_with fail
  go_ret
  rw [E.out]
  exact ⟨rfl, new_box _ _⟩

theorem scheck_calls (hs : s.size ≤ maxLen) :
    Calls Tryz.prog 181 #[.agg #[.int .i64 k, .string s, .int .i64 n]] w fun en w' => en = .returned (.int .i64 (chkS k s n)) ∧ Below w.heap.size w w' := by
  have hs' : (s.size : Int) ≤ 9223372036854775807 := by unfold maxLen at hs; omega
  by_cases h1 : k = 1
  · subst h1
    by_cases a : s.toList = []
    · exact chk1_a n s w a hs' (by unfold chkS; rw [if_pos (.inl rfl), if_neg (fun e => e.1 a)])
    by_cases b : s.size ≤ 12
    · by_cases c : 1 ≤ n
      · by_cases d : n ≤ 1099511627776
        · exact chk1_f n s w a b c d hs' (by unfold chkS; rw [if_pos (.inl rfl), if_pos ⟨a, b, c, d⟩])
        · exact chk1_d n s w a b c (by omega) hs' (by unfold chkS; rw [if_pos (.inl rfl), if_neg (fun e => d e.2.2.2)])
      · exact chk1_c n s w a b (by omega) hs' (by unfold chkS; rw [if_pos (.inl rfl), if_neg (fun e => c e.2.2.1)])
    · exact chk1_b n s w a (by omega) hs' (by unfold chkS; rw [if_pos (.inl rfl), if_neg (fun e => b e.2.1)])
  by_cases h2 : k = 2
  · subst h2
    by_cases a : s.toList = []
    · exact chk2_a n s w a hs' (by unfold chkS; rw [if_pos (.inr rfl), if_neg (fun e => e.1 a)])
    by_cases b : s.size ≤ 12
    · by_cases c : 1 ≤ n
      · by_cases d : n ≤ 1099511627776
        · exact chk2_f n s w a b c d hs' (by unfold chkS; rw [if_pos (.inr rfl), if_pos ⟨a, b, c, d⟩])
        · exact chk2_d n s w a b c (by omega) hs' (by unfold chkS; rw [if_pos (.inr rfl), if_neg (fun e => d e.2.2.2)])
      · exact chk2_c n s w a b (by omega) hs' (by unfold chkS; rw [if_pos (.inr rfl), if_neg (fun e => c e.2.2.1)])
    · exact chk2_b n s w a (by omega) hs' (by unfold chkS; rw [if_pos (.inr rfl), if_neg (fun e => b e.2.1)])
  exact chk0 k n s w h1 h2 hs' (by unfold chkS; rw [if_neg (by omega)])
end

section
variable {H : Type}
set_option maxRecDepth 100000 in
set_option maxHeartbeats 1000000 in
theorem sdo_calls (d m : Nat) (D : DataW H) (k n : Int) (s : ByteArray) (w : World) (h : Sk w d m D) (I : InvS D) (hs : s.size ≤ maxLen) :
    Calls Tryz.prog 243 #[.pointer (some ⟨d, 0, none⟩), .agg #[.int .i64 k, .string s, .int .i64 n]] w fun en w' => SPost d m w (doS D k s n) en w' := by
  have hck := fun W => scheck_calls k n s W hs
  obtain ⟨hb1, hb2⟩ := I.small s
  have hD := I.size
  have hD2 : Maps.size D < maxLen := by unfold maxLen; omega
  by_cases hc : chkS k s n = 0
  · rw [hc] at hck
    have E0 : doS D k s n = if k = 1 then adS D s n else tkS D s n := doS_of hc
    obtain ⟨hk, _, _, hn1, hn2⟩ := chkS_ok hc
    have HB := Lib.hid (And.intro (And.intro hb1 hb2) (And.intro hn1 hn2))
    have B := Lib.hid h
    clear hc h hb1 hb2 hn1 hn2
    rcases hk with rfl | rfl
    · have E := Lib.hid (E0.trans (if_pos rfl))
      clear E0
      go_enter Tryz.func243, Tryz.ntmps243
      go_wp2_with fail
      refine (hck _).mono ?_
      rintro en w1 ⟨rfl, b1⟩
      have hz := b1.size
      simp at hz
      have G1 : Hid (w.grownBy w1 (some m)) := grown_trans (grown_alloc (grown_refl w _) _) (below_any b1 _)
      have B1 : Hid (Sk w1 d m D) := (B.out.more (new_box _ _)).more b1
      have C1 : Has w1 w.heap.size 37 #[.int .i64 1, .string s, .int .i64 n] := (Has.made _ _ _).below b1 (by simp)
      have b10 : w1.cell? ⟨w.heap.size, 0, none⟩ = some (.int .i64 1) := C1.cell 0
      have b11 : w1.cell? ⟨w.heap.size, 1, none⟩ = some (.string s) := C1.cell 1
      have b12 : w1.cell? ⟨w.heap.size, 2, none⟩ = some (.int .i64 n) := C1.cell 2
      clear b1 C1 B
      go_wp2_with fail
      refine (sadd_calls d m D s n w1 B1.out hs hD2 (by have := HB.out.2.1; omega) HB.out.2.2 HB.out.1.1 HB.out.1.2).mono ?_
      rintro en w2 ⟨rfl, h2, g2⟩
      have H2 := Lib.hid h2
      have G2 := Lib.hid (grown_trans G1.out g2)
      clear h2 g2
      go_wp2_with fail
      go_ret
      rw [E.out]
      exact ⟨rfl, H2.out, G2.out⟩
    · have E := Lib.hid (E0.trans (if_neg (by decide)))
      clear E0
      go_enter Tryz.func243, Tryz.ntmps243
      go_wp2_with fail
      refine (hck _).mono ?_
      rintro en w1 ⟨rfl, b1⟩
      have hz := b1.size
      simp at hz
      have G1 : Hid (w.grownBy w1 (some m)) := grown_trans (grown_alloc (grown_refl w _) _) (below_any b1 _)
      have B1 : Hid (Sk w1 d m D) := (B.out.more (new_box _ _)).more b1
      have C1 : Has w1 w.heap.size 37 #[.int .i64 2, .string s, .int .i64 n] := (Has.made _ _ _).below b1 (by simp)
      have b10 : w1.cell? ⟨w.heap.size, 0, none⟩ = some (.int .i64 2) := C1.cell 0
      have b11 : w1.cell? ⟨w.heap.size, 1, none⟩ = some (.string s) := C1.cell 1
      have b12 : w1.cell? ⟨w.heap.size, 2, none⟩ = some (.int .i64 n) := C1.cell 2
      clear b1 C1 B
      go_wp2_with fail
      refine (stake_calls d m D s n w1 B1.out hs hD2 (by have := HB.out.2.1; omega) HB.out.2.2 HB.out.1.1 HB.out.1.2).mono ?_
      rintro en w2 ⟨rfl, h2, g2⟩
      have H2 := Lib.hid h2
      have G2 := Lib.hid (grown_trans G1.out g2)
      clear h2 g2
      go_wp2_with fail
      go_ret
      rw [E.out]
      exact ⟨rfl, H2.out, G2.out⟩
  · have E : Hid (doS D k s n = (D, chkS k s n)) := if_pos hc
    generalize hq : chkS k s n = c at *
    have hc' : (c != 0) = true := by simpa using hc
    have B := Lib.hid h
    clear hq hc h hb1 hb2
    go_enter Tryz.func243, Tryz.ntmps243
    go_wp2_with fail
    refine (hck _).mono ?_
    rintro en w1 ⟨rfl, b1⟩
    have hz := b1.size
    simp at hz
    have G1 : Hid (w.grownBy w1 (some m)) := grown_trans (grown_alloc (grown_refl w _) _) (below_any b1 _)
    have B1 : Hid (Sk w1 d m D) := (B.out.more (new_box _ _)).more b1
    clear b1 B
    go_wp2_with fail
    go_ret
    rw [E.out]
    exact ⟨rfl, B1.out, G1.out⟩
end

end Go.Proofs.YtcdedkgkingbdaaGreatDoor.stock
end

