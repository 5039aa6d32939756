/- sched: slices.Sorted(maps.Keys(m)) at keys that are numbers, off the shelf; an agenda's Who. -/
import Derived.Shelf.SlIterI.Nil
import Derived.Shelf.SortM.Plain
import Derived.Shelf.SortM.SortNone
import Derived.Ground.GgzProg
import Derived.Ground.SlgmProg
import Derived.Test.YtbpnbnbglfiglaaSchF
import Derived.Test.YtbpnbnbglfiglaaRankIA
namespace Go.Proofs
open Go.RowKit Go.Maps Go.Sort Go.Shelf

shelf_lay_g SlLaysZI.n7 Ggz 7 at Try 33 as Try.agKeys
shelf_lay_g SlLaysZI.n6 Ggz 6 at Try 32 as Try.agSorted
shelf_lay_g SlLaysM.n5 Slgm 5 at Try 40 as Try.agSort

/-- slices.Sort's two contracts at this dump, at the fence that asks nothing. -/
theorem Try.agSorts (m : Nat) : AnyZI.SortsIn Try.prog Try.agSorted_ren Fence.wide m :=
  ⟨fun blk off cap ss W hH hblk hsz => callsIn_wide.2 (AnyM.slices_Sort_int Try.agSort blk off cap ss W hH hblk hsz),
   fun p cap W => callsIn_wide.2 (AnyM.slices_Sort_int_none Try.agSort p cap W)⟩

theorem Try.ag_maps_Keys (mb : Option Nat) (W : World) : CallsIn Fence.wide 5 Try.prog 33 #[.map mb] W fun e w' => e = .returned (.func (.func 41) #[] #[.pointer (some ⟨W.heap.size, 0, none⟩)]) ∧ w' = W.alloc (.cells #[.map mb] 48) :=
  AnyZI.keys_in Try.agKeys Fence.wide 5 trivial rfl mb W

set_option maxHeartbeats 1000000 in
theorem Try.ag_sorted_keys {H : Type} (b nn : Nat) (D0 : DataW H) (R : Value → Option (DataW H × List MemPlace)) (w : World) (hown : w.ownsMap Try.prog 3 R b nn D0) (hmax : Maps.size D0 ≤ maxLen) (hbytes : Maps.size D0 * 8 ≤ 140737488355328) :
    CallsIn Fence.wide 5 Try.prog 32 #[.func (.func 41) #[] #[.pointer (some ⟨w.heap.size, 0, none⟩)]] (w.alloc (.cells #[.map (some b)] 48)) fun e w' => ∃ (v : Value) (ss : List Int), e = .returned v ∧ ss.Perm (intKeys D0) ∧
      w'.ownsRow (w.alloc (.cells #[.map (some b)] 48)).heap.size 3 1 v ss.length ((ss.mergeSort (fun x y => decide (x ≤ y))).map encZ) ∧ (v = .slice none 0 0 ↔ ss = []) ∧ Below (w.alloc (.cells #[.map (some b)] 48)).heap.size (w.alloc (.cells #[.map (some b)] 48)) w' := by
  have hbl := hown.lt
  have hseq : SeqGives Fence.wide 2 Try.prog 41 #[.pointer (some ⟨w.heap.size, 0, none⟩)] encZ (fun ss => ss.Perm (intKeys D0)) (Maps.size D0) (w.alloc (.cells #[.map (some b)] 48)) :=
    AnyZI.keys_gives (ρ := Try.agKeys_ren) { Try.agKeys with } Fence.wide _ trivial rfl (by omega) w.heap.size b nn D0 _ (by simp) (by simp) (by
      obtain ⟨es, clock, hb, Ft, hs, hD⟩ := hown
      exact ⟨es, clock, (Below.heap_alloc _ _ b hbl).trans hb, Ft, hs, hD⟩)
  exact AnyZI.sorted_in Try.agSorted Fence.wide 5 trivial trivial trivial trivial rfl (by omega) (Try.agSorts _) (enters_of Try.func40 (by kernel_rfl) rfl) 41 #[.pointer (some ⟨w.heap.size, 0, none⟩)] trivial (enters_of Try.func41 (by kernel_rfl) rfl) _ _ hmax hbytes _ hseq

/-- A map's keys: each once, just those that it has, as many as it is great. -/
theorem keysI_spec {P : Program} {k : TypeId} {H : Type} {R : Value → Option (DataW H × List MemPlace)} {w : World} {b n : Nat} {D : DataW H} (hown : w.ownsMap P k R b n D) (K : Keyed P k) (hk : P.underlying k = some (.int .i64)) :
    (intKeys D).Nodup ∧ (∀ x, x ∈ intKeys D ↔ has D (.int .i64 x) = true) ∧ (intKeys D).length = Maps.size D ∧ ∀ x ∈ intKeys D, (Lit.int .i64 x).wf = true := by
  have hwf := intKeys_wf hown hk
  obtain ⟨es, hD, hpw, _⟩ := hown.entries K
  obtain ⟨es', hD', hko⟩ := hown.keysOf
  obtain rfl : es = es' := by rw [hD] at hD'; simpa using hD'
  subst hD
  have hk2 : ∀ p ∈ es, ∃ x, p.1 = .int .i64 x := fun p hp => by obtain ⟨v, hv⟩ := hko p hp; obtain ⟨x, _, hx, _⟩ := Maps.keyOf_i64 hk hv; exact ⟨x, hx⟩
  refine ⟨?_, fun x => ?_, by simp [intKeys, Maps.size], hwf⟩
  · show (es.map fun p => Go.intOf p.1).Nodup
    refine List.pairwise_map.2 (hpw.imp_of_mem fun {p q} hp' hq' hne e => hne ?_)
    obtain ⟨a, ha⟩ := hk2 p hp'
    obtain ⟨b, hb⟩ := hk2 q hq'
    rw [ha, hb] at e ⊢
    exact congrArg _ e
  · rw [has_eq, List.any_eq_true]
    show x ∈ es.map (fun p => Go.intOf p.1) ↔ _
    rw [List.mem_map]
    constructor
    · rintro ⟨p, hp', rfl⟩
      obtain ⟨a, ha⟩ := hk2 p hp'
      exact ⟨p, hp', by rw [ha]; simp [Lit.sameKey, Go.intOf]⟩
    · rintro ⟨p, hp', hs⟩
      obtain ⟨a, ha⟩ := hk2 p hp'
      rw [ha] at hs
      exact ⟨p, hp', by rw [ha]; simpa [Lit.sameKey, Go.intOf] using hs⟩

/-- Sorted, they rise. -/
theorem sorted_rises {l : List Int} (h : l.Nodup) : (l.mergeSort leI).Pairwise (· < ·) := by
  have tr : ∀ a b c : Int, leI a b = true → leI b c = true → leI a c = true := fun a b c h1 h2 => by simp only [leI, decide_eq_true_eq] at *; exact Int.le_trans h1 h2
  have to : ∀ a b : Int, (leI a b || leI b a) = true := fun a b => by simp only [leI, Bool.or_eq_true, decide_eq_true_eq]; exact Int.le_total a b
  have h1 := List.pairwise_mergeSort tr to l
  have h2 : (l.mergeSort leI).Nodup := ((List.mergeSort_perm l leI).nodup_iff).2 h
  refine (h1.and h2).imp fun {a b} h => ?_
  have h3 := h.1
  simp only [leI, decide_eq_true_eq] at h3
  have h4 : a ≠ b := h.2
  omega

end Go.Proofs
namespace Go.Proofs.Ytbpnbnbglfiglaa.sch
open Go Go.RowKit Go.Maps Go.Sort

section
variable {w W W' : World} {g m : Nat} {D : DataW Value} {V : Int → Value} {L : Int → List ByteArray}

def WhoPost (D : DataW Value) (L : Int → List ByteArray) (W : World) (en : Ending) (W' : World) : Prop :=
  ∃ v ks, en = .returned v ∧ Ints W' v ks ∧ ks.Pairwise (· < ·) ∧ (∀ x, x ∈ ks ↔ L x ≠ []) ∧ (∀ x ∈ ks, Fits x) ∧ ks.length = Maps.size D ∧ (∀ b, v.ownBlock = some b → W.heap.size ≤ b) ∧ Below W.heap.size W W'

theorem fits_wf {n : Int} (h : (Lit.int .i64 n).wf = true) : Fits n := by
  have m0 : IntKind.i64.min = -9223372036854775808 := by decide
  have m1 : IntKind.i64.max = 9223372036854775807 := by decide
  have h' : (decide (IntKind.i64.min ≤ n) && decide (n ≤ IntKind.i64.max)) = true := h
  rw [m0, m1] at h'
  simpa [Fits] using h'

set_option maxRecDepth 100000 in
set_option maxHeartbeats 1000000 in
theorem who_calls (h : Ag w g m D V L W) (hs : Maps.size D ≤ 1000000) : Calls Try.prog 18 #[.pointer (some ⟨g, 0, none⟩)] W (WhoPost D L W) := by
  have c0 : W.cell? ⟨g, 0, none⟩ = some (.map (some m)) := h.box.cell 0
  have hown : W.ownsMap Try.prog 3 anyR m (Maps.size D) D := h.map
  obtain ⟨k1, k2, k3, k4⟩ := keysI_spec hown intKeyed Try.underlying3
  have hK := Lib.hid (callsIn_wide.1 (Try.ag_maps_Keys (some m) W))
  have hS := Lib.hid (callsIn_wide.1 (Try.ag_sorted_keys m (Maps.size D) D anyR W hown (by unfold maxLen; omega) (by omega)))
  have HK := Lib.hid (And.intro k1 (And.intro k2 (And.intro k3 (And.intro k4 h.has))))
  clear h hown hs k1 k2 k3 k4
  go_enter Try.func18, Try.ntmps18
  go_wp2_with fail
  refine hK.out.mono ?_
  rintro en w1 ⟨rfl, rfl⟩
  go_wp2_with fail
  refine hS.out.mono ?_
  rintro en w2 ⟨v, ss, rfl, hp, hrow, _, hb⟩
  go_wp2_with fail
  go_ret
  have hmem : ∀ x, x ∈ ss.mergeSort leI ↔ x ∈ intKeys D := fun x => (List.mem_mergeSort).trans hp.mem_iff
  refine ⟨v, ss.mergeSort leI, rfl, ?_, sorted_rises (hp.nodup_iff.2 HK.out.1), fun x => ?_, fun x hx => fits_wf (HK.out.2.2.2.1 x ((hmem x).1 hx)), ?_, ?_, ((Below.refl _ W).alloc (Nat.le_refl _) _).trans (hb.mono (by simp))⟩
  · unfold Ints
    rw [List.length_mergeSort]
    exact ownsRow_base_a hrow (Nat.zero_le _)
  · rw [hmem, HK.out.2.1]
    exact HK.out.2.2.2.2 x
  · rw [List.length_mergeSort, hp.length_eq, HK.out.2.2.1]
  · intro b hb2
    rcases hrow.2 with ⟨rfl, _⟩ | ⟨g, cap, cur, rfl, hg, _⟩
    · cases hb2
    · obtain rfl : g = b := by injection hb2 with hb2
      have : (W.alloc (.cells #[.map (some m)] 48)).heap.size = W.heap.size + 1 := by simp
      omega
end
end Go.Proofs.Ytbpnbnbglfiglaa.sch
