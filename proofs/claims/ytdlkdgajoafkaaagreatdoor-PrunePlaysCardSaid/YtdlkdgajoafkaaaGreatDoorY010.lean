/- Texts laid into one: RefT, RefP, Same, Piece, RefV, RefS, RefW. -/
import Derived.Test.YtdlkdgajoafkaaaGreatDoorY009
import Derived.Test.YtdlkdgajoafkaaaGreatDoorY002
import Derived.Test.YtdlkdgajoafkaaaGreatDoorY005
import Derived.Test.YtdlkdgajoafkaaaGreatDoorY004
import Derived.Lib.ItoaWalk
import Derived.Test.YtdlkdgajoafkaaaGreatDoorY003
import Derived.Test.YtdlkdgajoafkaaaGreatDoorY006
import Derived.Test.YtdlkdgajoafkaaaGreatDoorY007
section
/- the document's Root over leaves. -/
namespace Go.Proofs.YtdlkdgajoafkaaaGreatDoor.prf
open Go Go.RowKit Go.Proofs.YtdlkdgajoafkaaaGreatDoor.dig

/-- Where texts lie: those of L, from g, off on. -/
def TxtAt (w : World) (g off : Nat) (L : List ByteArray) : Prop := g < w.heap.size ∧ ∀ i s, L[i]? = some s → w.cell? ⟨g, off + i, none⟩ = some (.string s)
theorem TxtAt.below {w w' : World} {g off : Nat} {L : List ByteArray} (h : TxtAt w g off L) (b : Below w.heap.size w w') : TxtAt w' g off L :=
  ⟨Nat.lt_of_lt_of_le h.1 b.size, fun i s hs => by rw [← h.2 i s hs]; unfold World.cell?; rw [b.block g h.1]⟩

set_option maxRecDepth 100000 in
set_option maxHeartbeats 2000000 in
theorem rroot_calls (L : List ByteArray) (hsz : ∀ s ∈ L, s.size ≤ 1000000) (hLL : L.length ≤ 1000000) (g off : Nat) : ∀ (k : Nat) {a c : Nat} (w : World), 0 < k → a + k ≤ L.length → k ≤ c → c ≤ maxLen → TxtAt w g off L →
    Calls Tryz.prog 40 #[.slice (some ⟨g, off + a, none⟩) k c] w fun en w' => en = .returned (.string (bs (rt (leafF L) a k))) ∧ Below w.heap.size w w' := by
  intro k
  induction k using Nat.strongRecOn with
  | _ k ih =>
  intro a c w hk ha hkc hc hT
  have HT := Lib.hid hT
  have hc9 : (c : Int) ≤ 9223372036854775807 := by unfold maxLen at hc; omega
  have hkc2 : (k : Int) ≤ (c : Int) := by omega
  have h0' : ¬ (k : Int) = 0 := by omega
  by_cases h1 : k = 1
  · subst h1
    obtain ⟨s, hs⟩ : ∃ s, L[a]? = some s := ⟨_, List.getElem?_eq_getElem (by omega)⟩
    have HE : Hid (rt (leafF L) a 1 = leafS s.data.toList) := Lib.hid (by rw [rt_one]; exact leafF_at L a s hs)
    have HS : Hid (s.size ≤ 1000000) := Lib.hid (hsz s (List.mem_of_getElem? hs))
    have c0 := hT.2 a s hs
    rw [HE.out]
    have HC := Lib.hid (rleaf_calls s (by have := HS.out; omega) w)
    clear hs ih hT HE
    go_enter Tryz.func40, Tryz.ntmps40
    go_wp2_with fail
    refine HC.out.mono ?_
    rintro en w2 ⟨rfl, b2⟩
    go_wp2_with fail
    go_ret
    exact ⟨rfl, b2⟩
  · have hk2 : 2 ≤ k := by omega
    have h1' : ¬ (k : Int) = 1 := by omega
    have hx3 := rt_two (leafF L) a hk2
    have hlt := half_lt hk2
    have hp := half_pos k
    have HH := Lib.hid (rhalf_calls k w hk2 (by omega))
    obtain ⟨h, hh⟩ : ∃ h, h = half k := ⟨_, rfl⟩
    obtain ⟨h2, hh2⟩ : ∃ h2, h2 = k - h := ⟨_, rfl⟩
    obtain ⟨c2, hc2⟩ : ∃ c2, c2 = c - h := ⟨_, rfl⟩
    rw [← hh] at hlt hp hx3 HH
    rw [← hh2] at hx3
    have HX := Lib.hid (show _ ∧ _ from ⟨hx3, hh2⟩)
    have HA : Hid (∀ V, TxtAt V g off L → Calls Tryz.prog 40 #[.slice (some ⟨g, off + a, none⟩) h c] V fun en w' => en = .returned (.string (bs (rt (leafF L) a h))) ∧ Below V.heap.size V w') := Lib.hid fun V hV => ih h hlt V hp (by omega) (by omega) hc hV
    have HB : Hid (∀ V, TxtAt V g off L → Calls Tryz.prog 40 #[.slice (some ⟨g, off + a + h, none⟩) h2 c2] V fun en w' => en = .returned (.string (bs (rt (leafF L) (a + h) h2))) ∧ Below V.heap.size V w') := Lib.hid fun V hV => by
      rw [Nat.add_assoc]
      exact ih h2 (by omega) V (by omega) (by omega) (by omega) (by omega) hV
    have HN : Hid (∀ V, Calls Tryz.prog 65 #[.string (bs (rt (leafF L) a h)), .string (bs (rt (leafF L) (a + h) h2))] V fun en w' => en = .returned (.string (bs (rt (leafF L) a k))) ∧ Below V.heap.size V w') := Lib.hid fun V => by
      rw [HX.out.1]
      exact rnode_calls _ _ (Nat.le_of_eq (rt_length _ _ _ (fun i _ _ => leafF_len L i) hp)) (Nat.le_of_eq (rt_length _ _ _ (fun i _ _ => leafF_len L i) (by omega))) V
    have hhk : (h : Int) ≤ (k : Int) := by omega
    have hhc : (h : Int) ≤ (c : Int) := by omega
    have hh0 : (0 : Int) ≤ (h : Int) := by omega
    have hkh : k - h = h2 := hh2.symm
    have hch : c - h = c2 := hc2.symm
    have hcn : ¬ c = h := by omega
    clear ih hx3 hT hlt hp hh hh2 hc2
    go_enter Tryz.func40, Tryz.ntmps40
    go_wp2_with fail
    refine HH.out.mono ?_
    rintro en wx ⟨rfl, rfl⟩
    go_wp2_with fail
    refine wp_region_S (S := fun V => TxtAt V g off L ∧ Below w.heap.size w V) (by kernel_rfl) ⟨HT.out.below (Below.refl _ _).drew, (Below.refl _ _).drew⟩ ?_
    refine AnyS.pure 0 (some 18) rfl rfl (by kernel_rfl) (by kernel_rfl) (by kernel_rfl) (fun _ _ _ h => h) (by kernel_rfl) (fun _ _ => rfl) ?_
    refine AnyS.pure 1 (some 19) rfl rfl (by kernel_rfl) (by kernel_rfl) (by kernel_rfl) (fun _ _ _ h => h) (by kernel_rfl) (fun _ _ => rfl) ?_
    simp only [Act.put, List.setIfInBounds_toArray, List.set_cons_zero, List.set_cons_succ]
    refine AnyS.pure 2 (some 20) (v := .slice (some ⟨g, off + a, none⟩) h c) rfl rfl (by kernel_rfl) (by kernel_rfl) (by kernel_rfl) (fun _ _ _ h => h) (by kernel_rfl) (fun V hV => by go_simp) ?_
    refine AnyS.call 3 (some 21) (.string (bs (rt (leafF L) a h))) rfl rfl (by kernel_rfl) (by kernel_rfl) (by kernel_rfl) (fun _ _ _ h => h) (by kernel_rfl) 40 Tryz.f40 Tryz.func40 (by kernel_rfl) (by kernel_rfl) _ _ rfl #[.slice (some ⟨g, off + a, none⟩) h c] (by first | (simp [Act.eval]; done) | (simp [Act.eval, Act.put]; done)) (fun V hV => (HA.out V hV.1).mono fun _ _ p => ⟨p.1, hV.1.below p.2, hV.2.trans (p.2.mono hV.2.size)⟩) ?_
    simp only [Act.put, List.setIfInBounds_toArray, List.set_cons_zero, List.set_cons_succ]
    refine AnyS.pure 4 (some 22) rfl rfl (by kernel_rfl) (by kernel_rfl) (by kernel_rfl) (fun _ _ _ h => h) (by kernel_rfl) (fun _ _ => rfl) ?_
    refine AnyS.pure 5 (some 23) rfl rfl (by kernel_rfl) (by kernel_rfl) (by kernel_rfl) (fun _ _ _ h => h) (by kernel_rfl) (fun _ _ => rfl) ?_
    simp only [Act.put, List.setIfInBounds_toArray, List.set_cons_zero, List.set_cons_succ]
    refine AnyS.pure 6 (some 24) (v := .slice (some ⟨g, off + a + h, none⟩) h2 c2) rfl rfl (by kernel_rfl) (by kernel_rfl) (by kernel_rfl) (fun _ _ _ h => h) (by kernel_rfl) (fun V hV => by go_simp) ?_
    refine AnyS.call 7 (some 25) (.string (bs (rt (leafF L) (a + h) h2))) rfl rfl (by kernel_rfl) (by kernel_rfl) (by kernel_rfl) (fun _ _ _ h => h) (by kernel_rfl) 40 Tryz.f40 Tryz.func40 (by kernel_rfl) (by kernel_rfl) _ _ rfl #[.slice (some ⟨g, off + a + h, none⟩) h2 c2] (by first | (simp [Act.eval]; done) | (simp [Act.eval, Act.put]; done)) (fun V hV => (HB.out V hV.1).mono fun _ _ p => ⟨p.1, hV.1.below p.2, hV.2.trans (p.2.mono hV.2.size)⟩) ?_
    simp only [Act.put, List.setIfInBounds_toArray, List.set_cons_zero, List.set_cons_succ]
    refine AnyS.call 8 (some 26) (.string (bs (rt (leafF L) a k))) rfl rfl (by kernel_rfl) (by kernel_rfl) (by kernel_rfl) (fun _ _ _ h => h) (by kernel_rfl) 65 Tryz.f65 Tryz.func65 (by kernel_rfl) (by kernel_rfl) _ _ rfl #[.string (bs (rt (leafF L) a h)), .string (bs (rt (leafF L) (a + h) h2))] (by first | (simp [Act.eval]; done) | (simp [Act.eval, Act.put]; done)) (fun V hV => (HN.out V).mono fun _ _ p => ⟨p.1, hV.1.below p.2, hV.2.trans (p.2.mono hV.2.size)⟩) ?_
    simp only [Act.put, List.setIfInBounds_toArray, List.set_cons_zero, List.set_cons_succ]
    refine AnyS.pure 9 (some 2) rfl rfl (by kernel_rfl) (by kernel_rfl) (by kernel_rfl) (fun _ _ _ h => h) (by kernel_rfl) (fun _ _ => rfl) ?_
    refine AnyS.done (by kernel_rfl) (fun V hV => ?_) _
    have HV := Lib.hid hV.2
    clear hV
    go_wp2_with fail
    go_ret
    exact ⟨rfl, HV.out⟩
end Go.Proofs.YtdlkdgajoafkaaaGreatDoor.prf
end

section
/- the document's Path: the proof of a leaf. -/
namespace Go.Proofs.YtdlkdgajoafkaaaGreatDoor.prf
open Go Go.RowKit Go.Proofs.YtdlkdgajoafkaaaGreatDoor.dig

/-- A list of sums as texts, in new memory. -/
def SnPost (w : World) (l : List (List UInt8)) (en : Ending) (w' : World) : Prop :=
  ∃ v, en = .returned v ∧ Seg w' 9 1 v l.length (l.map fun x => Value.string (bs x)) ∧ (∀ b, v.ownBlock = some b → w.heap.size ≤ b) ∧ Below w.heap.size w w'

set_option maxRecDepth 100000 in
set_option maxHeartbeats 2000000 in
theorem rpath_calls (L : List ByteArray) (hsz : ∀ s ∈ L, s.size ≤ 1000000) (hLL : L.length ≤ 1000000) (g off : Nat) : ∀ (k : Nat) {a c : Nat} (i : Nat) (w : World), i < k → a + k ≤ L.length → k ≤ c → c ≤ maxLen → TxtAt w g off L →
    Calls Tryz.prog 43 #[.int .i64 i, .slice (some ⟨g, off + a, none⟩) k c] w (SnPost w (path (leafF L) i a k)) := by
  intro k
  induction k using Nat.strongRecOn with
  | _ k ih =>
  intro a c i w hik ha hkc hc hT
  have HT := Lib.hid hT
  have hc9 : (c : Int) ≤ 9223372036854775807 := by unfold maxLen at hc; omega
  have hkc2 : (k : Int) ≤ (c : Int) := by omega
  by_cases h1 : k = 1
  · subst h1
    rw [path, dif_neg (by omega)]
    clear ih hT
    go_enter Tryz.func43, Tryz.ntmps43
    go_wp2_with fail
    go_ret
    exact ⟨_, rfl, Seg.empty (heap_alloc_new _ _), (fun b hb => by injection hb with hb; exact Nat.le_of_eq hb), (Below.refl _ _).alloc (Nat.le_refl _) _⟩
  · have hk2 : 2 ≤ k := by omega
    have h1' : ¬ (k : Int) ≤ 1 := by omega
    have hlt := half_lt hk2
    have hp := half_pos k
    have hln : (path (leafF L) i a k).length ≤ 64 := path_le _ 64 k a i (by omega)
    have HH := Lib.hid (rhalf_calls k w hk2 (by omega))
    have HX := path.eq_1 (leafF L) i a k
    rw [dif_pos hk2] at HX
    obtain ⟨h, hh⟩ : ∃ h, h = half k := ⟨_, rfl⟩
    obtain ⟨h2, hh2⟩ : ∃ h2, h2 = k - h := ⟨_, rfl⟩
    obtain ⟨c2, hc2⟩ : ∃ c2, c2 = c - h := ⟨_, rfl⟩
    rw [← hh] at hlt hp HX HH
    rw [← hh2] at HX
    obtain ⟨i0, z0, hi0, hz0, hz1, hz2, hz3⟩ := flt.strInfo
    have HI := Lib.hid (show _ ∧ _ from ⟨hi0, hz0⟩)
    have hhk : (h : Int) ≤ (k : Int) := by omega
    have hhc : (h : Int) ≤ (c : Int) := by omega
    have hh0 : (0 : Int) ≤ (h : Int) := by omega
    have hkh : k - h = h2 := hh2.symm
    have hch : c - h = c2 := hc2.symm
    have hcn : ¬ c = h := by omega
    have HRL : Hid (∀ V, TxtAt V g off L → Calls Tryz.prog 40 #[.slice (some ⟨g, off + a, none⟩) h c] V fun en w' => en = .returned (.string (bs (rt (leafF L) a h))) ∧ Below V.heap.size V w') := Lib.hid fun V hV => rroot_calls L hsz hLL g off h V hp (by omega) (by omega) hc hV
    have HRR : Hid (∀ V, TxtAt V g off L → Calls Tryz.prog 40 #[.slice (some ⟨g, off + a + h, none⟩) h2 c2] V fun en w' => en = .returned (.string (bs (rt (leafF L) (a + h) h2))) ∧ Below V.heap.size V w') := Lib.hid fun V hV => by
      rw [Nat.add_assoc]
      exact rroot_calls L hsz hLL g off h2 V (by omega) (by omega) (by omega) (by omega) hV
    by_cases hih : i < h
    · rw [if_pos hih] at HX
      have hih1 : (i : Int) < (h : Int) := by omega
      have HP : Hid (∀ V, TxtAt V g off L → Calls Tryz.prog 43 #[.int .i64 i, .slice (some ⟨g, off + a, none⟩) h c] V (SnPost V (path (leafF L) i a h))) := Lib.hid fun V hV => ih h hlt i V hih (by omega) (by omega) hc hV
      obtain ⟨l, hl⟩ : ∃ l, l = path (leafF L) i a h := ⟨_, rfl⟩
      obtain ⟨r, hr⟩ : ∃ r, r = rt (leafF L) (a + h) h2 := ⟨_, rfl⟩
      rw [← hl, ← hr] at HX
      rw [← hl] at HP
      rw [← hr] at HRR
      rw [HX] at hln ⊢
      have hl63 : l.length ≤ 63 := by simp at hln; omega
      clear ih hT hlt hp hh hh2 hc2 hl hr HX hln
      go_enter Tryz.func43, Tryz.ntmps43
      go_wp2_with fail
      refine HH.out.mono ?_
      rintro en wx ⟨rfl, rfl⟩
      go_wp2_with fail
      refine wp_region_any (by kernel_rfl) ?_
      refine any_take 0 (some 16) (v := .int .i64 i) rfl rfl (by kernel_rfl) (by kernel_rfl) (by kernel_rfl) (fun _ _ _ h => h) (by kernel_rfl) (fun V => by go_simp) ?_
      simp only [Act.put, List.setIfInBounds_toArray, List.set_cons_zero, List.set_cons_succ]
      refine any_take 1 (some 17) (v := Value.slice (some ⟨g, off + a, none⟩) k c) rfl rfl (by kernel_rfl) (by kernel_rfl) (by kernel_rfl) (fun _ _ _ h => h) (by kernel_rfl) (fun V => by go_simp) ?_
      simp only [Act.put, List.setIfInBounds_toArray, List.set_cons_zero, List.set_cons_succ]
      refine any_take 2 (some 18) (v := .int .i64 h) rfl rfl (by kernel_rfl) (by kernel_rfl) (by kernel_rfl) (fun _ _ _ h => h) (by kernel_rfl) (fun V => by go_simp) ?_
      simp only [Act.put, List.setIfInBounds_toArray, List.set_cons_zero, List.set_cons_succ]
      refine any_take 3 (some 19) (v := Value.slice (some ⟨g, off + a, none⟩) h c) rfl rfl (by kernel_rfl) (by kernel_rfl) (by kernel_rfl) (fun _ _ _ h => h) (by kernel_rfl) (fun V => by go_simp) ?_
      simp only [Act.put, List.setIfInBounds_toArray, List.set_cons_zero, List.set_cons_succ]
      refine any_take 5 (some 21) (v := Value.slice (some ⟨g, off + a, none⟩) k c) rfl rfl (by kernel_rfl) (by kernel_rfl) (by kernel_rfl) (fun _ _ _ h => h) (by kernel_rfl) (fun V => by go_simp) ?_
      simp only [Act.put, List.setIfInBounds_toArray, List.set_cons_zero, List.set_cons_succ]
      refine any_take 6 (some 22) (v := .int .i64 h) rfl rfl (by kernel_rfl) (by kernel_rfl) (by kernel_rfl) (fun _ _ _ h => h) (by kernel_rfl) (fun V => by go_simp) ?_
      simp only [Act.put, List.setIfInBounds_toArray, List.set_cons_zero, List.set_cons_succ]
      refine any_take 7 (some 23) (v := Value.slice (some ⟨g, off + a + h, none⟩) h2 c2) rfl rfl (by kernel_rfl) (by kernel_rfl) (by kernel_rfl) (fun _ _ _ h => h) (by kernel_rfl) (fun V => by go_simp) ?_
      simp only [Act.put, List.setIfInBounds_toArray, List.set_cons_zero, List.set_cons_succ]
      refine any_one (i := 4) (by kernel_rfl) ?_
      refine wpOp_call (some 20) rfl rfl (by kernel_rfl) 43 Tryz.f43 Tryz.func43 (by kernel_rfl) (by kernel_rfl) _ _ rfl #[.int .i64 i, .slice (some ⟨g, off + a, none⟩) h c] (by first | (simp [Act.eval]; done) | (simp [Act.eval, Act.put]; done)) (HP.out _ (HT.out.below (Below.refl _ _).drew)) ?_
      rintro en w2 ⟨v2, rfl, s2, o2, b2⟩
      refine ⟨v2, rfl, ?_⟩
      have B2 : Below w.heap.size w w2 := (Below.refl _ _).drew.trans b2
      simp only [Act.put, List.setIfInBounds_toArray, List.set_cons_zero, List.set_cons_succ]
      refine any_one (i := 8) (by kernel_rfl) ?_
      refine wpOp_call (some 24) rfl rfl (by kernel_rfl) 40 Tryz.f40 Tryz.func40 (by kernel_rfl) (by kernel_rfl) _ _ rfl #[.slice (some ⟨g, off + a + h, none⟩) h2 c2] (by first | (simp [Act.eval]; done) | (simp [Act.eval, Act.put]; done)) (HRR.out _ (HT.out.below B2)) ?_
      rintro en w3 ⟨rfl, b3⟩
      refine ⟨_, rfl, ?_⟩
      have s3 := s2.below b3 (fun b hb => s2.lt hb)
      have B3 := B2.trans (b3.mono B2.size)
      simp only [Act.put, List.setIfInBounds_toArray, List.set_cons_zero, List.set_cons_succ]
      refine any_one (i := 9) (by kernel_rfl) ?_
      refine wpOp_value (some 25) (v := .slice (some ⟨w3.heap.size, 0, none⟩) 1 1) (w' := w3.alloc (.cells #[.string (bs r)] 9)) rfl rfl (by kernel_rfl) (by go_simp) ?_
      have s4 := s3.alloc (.cells #[.string (bs r)] 9)
      have B4 := B3.alloc B3.size (.cells #[.string (bs r)] 9)
      have n4 : Seg (w3.alloc (.cells #[.string (bs r)] 9)) 9 1 (.slice (some ⟨w3.heap.size, 0, none⟩) 1 1) 1 [.string (bs r)] := Seg.whole (m := 1) (cs := #[.string (bs r)]) (heap_alloc_new _ _) rfl (by unfold maxLen; omega)
      simp only [Act.put, List.setIfInBounds_toArray, List.set_cons_zero, List.set_cons_succ]
      refine any_one (i := 10) (by kernel_rfl) ?_
      refine wpOp_wp (o := ⟨some 26, _, _, _, _, _⟩) rfl (by kernel_rfl) ?_
      refine wp_append_every _ (.tmp 20) (.tmp 25) 26 rfl 9 i0 z0 1 16 Tryz.underlying26 HI.out.1 HI.out.2 hz1 hz3 hz2 (by decide) v2 l.length _ (by simp [Act.eval]) s4 _ 1 [.string (bs r)] (by simp [Act.eval]) n4 (by simp [Value.oneCell']) (by unfold maxLen; omega) (by omega) ?_
      intro v5 w5 s5 g5 o5
      have F5 : Hid (SnPost w (l ++ [r]) (.returned v5) w5) := Lib.hid ⟨v5, rfl, by simpa using s5, (fun b hb => by
        rcases o5 b hb with e | e
        · exact o2 b e
        · exact Nat.le_trans B4.size e), B4.trans (flt.below_own g5 o2 B4.size)⟩
      clear s5 g5 o5 s4 B4 n4 s3 B3 s2 o2 b2 B2 b3
      simp only [Act.put, List.setIfInBounds_toArray, List.set_cons_zero, List.set_cons_succ]
      refine any_take 11 (some 4) (v := v5) rfl rfl (by kernel_rfl) (by kernel_rfl) (by kernel_rfl) (fun _ _ _ h => h) (by kernel_rfl) (fun V => by go_simp) ?_
      refine wpAny_done (by kernel_rfl) ?_ _
      simp only [Act.put]
      go_wp2_with fail
      go_ret
      exact F5.out
    · rw [if_neg hih] at HX
      have hih1 : ¬ (i : Int) < (h : Int) := by omega
      obtain ⟨j, hj⟩ : ∃ j, j = i - h := ⟨_, rfl⟩
      have hij : (i : Int) - (h : Int) = (j : Int) := by omega
      have wij : IntKind.i64.wrap ((i : Int) - (h : Int)) = (j : Int) := by rw [hij]; exact IntWalk.i64_in _ ⟨by omega, by omega⟩
      have wj : IntKind.i64.wrap (j : Int) = (j : Int) := IntWalk.i64_in _ ⟨by omega, by omega⟩
      rw [← hj] at HX
      have HP : Hid (∀ V, TxtAt V g off L → Calls Tryz.prog 43 #[.int .i64 j, .slice (some ⟨g, off + a + h, none⟩) h2 c2] V (SnPost V (path (leafF L) j (a + h) h2))) := Lib.hid fun V hV => by
        rw [Nat.add_assoc]
        exact ih h2 (by omega) j V (by omega) (by omega) (by omega) (by omega) hV
      obtain ⟨l, hl⟩ : ∃ l, l = path (leafF L) j (a + h) h2 := ⟨_, rfl⟩
      obtain ⟨r, hr⟩ : ∃ r, r = rt (leafF L) a h := ⟨_, rfl⟩
      rw [← hl, ← hr] at HX
      rw [← hl] at HP
      rw [← hr] at HRL
      rw [HX] at hln ⊢
      have hl63 : l.length ≤ 63 := by simp at hln; omega
      clear ih hT hlt hp hh hh2 hc2 hl hr HX hln hj
      go_enter Tryz.func43, Tryz.ntmps43
      go_wp2_with fail
      refine HH.out.mono ?_
      rintro en wx ⟨rfl, rfl⟩
      go_wp2_with fail
      refine wp_region_any (by kernel_rfl) ?_
      refine any_take 0 (some 27) (v := .int .i64 i) rfl rfl (by kernel_rfl) (by kernel_rfl) (by kernel_rfl) (fun _ _ _ h => h) (by kernel_rfl) (fun V => by go_simp) ?_
      simp only [Act.put, List.setIfInBounds_toArray, List.set_cons_zero, List.set_cons_succ]
      refine any_take 1 (some 28) (v := .int .i64 h) rfl rfl (by kernel_rfl) (by kernel_rfl) (by kernel_rfl) (fun _ _ _ h => h) (by kernel_rfl) (fun V => by go_simp) ?_
      simp only [Act.put, List.setIfInBounds_toArray, List.set_cons_zero, List.set_cons_succ]
      refine any_take 2 (some 29) (v := .int .i64 j) rfl rfl (by kernel_rfl) (by kernel_rfl) (by kernel_rfl) (fun _ _ _ h => h) (by kernel_rfl) (fun V => by go_simp) ?_
      simp only [Act.put, List.setIfInBounds_toArray, List.set_cons_zero, List.set_cons_succ]
      refine any_take 3 (some 30) (v := Value.slice (some ⟨g, off + a, none⟩) k c) rfl rfl (by kernel_rfl) (by kernel_rfl) (by kernel_rfl) (fun _ _ _ h => h) (by kernel_rfl) (fun V => by go_simp) ?_
      simp only [Act.put, List.setIfInBounds_toArray, List.set_cons_zero, List.set_cons_succ]
      refine any_take 4 (some 31) (v := .int .i64 h) rfl rfl (by kernel_rfl) (by kernel_rfl) (by kernel_rfl) (fun _ _ _ h => h) (by kernel_rfl) (fun V => by go_simp) ?_
      simp only [Act.put, List.setIfInBounds_toArray, List.set_cons_zero, List.set_cons_succ]
      refine any_take 5 (some 32) (v := Value.slice (some ⟨g, off + a + h, none⟩) h2 c2) rfl rfl (by kernel_rfl) (by kernel_rfl) (by kernel_rfl) (fun _ _ _ h => h) (by kernel_rfl) (fun V => by go_simp) ?_
      simp only [Act.put, List.setIfInBounds_toArray, List.set_cons_zero, List.set_cons_succ]
      refine any_take 7 (some 34) (v := Value.slice (some ⟨g, off + a, none⟩) k c) rfl rfl (by kernel_rfl) (by kernel_rfl) (by kernel_rfl) (fun _ _ _ h => h) (by kernel_rfl) (fun V => by go_simp) ?_
      simp only [Act.put, List.setIfInBounds_toArray, List.set_cons_zero, List.set_cons_succ]
      refine any_take 8 (some 35) (v := .int .i64 h) rfl rfl (by kernel_rfl) (by kernel_rfl) (by kernel_rfl) (fun _ _ _ h => h) (by kernel_rfl) (fun V => by go_simp) ?_
      simp only [Act.put, List.setIfInBounds_toArray, List.set_cons_zero, List.set_cons_succ]
      refine any_take 9 (some 36) (v := Value.slice (some ⟨g, off + a, none⟩) h c) rfl rfl (by kernel_rfl) (by kernel_rfl) (by kernel_rfl) (fun _ _ _ h => h) (by kernel_rfl) (fun V => by go_simp) ?_
      simp only [Act.put, List.setIfInBounds_toArray, List.set_cons_zero, List.set_cons_succ]
      refine any_one (i := 6) (by kernel_rfl) ?_
      refine wpOp_call (some 33) rfl rfl (by kernel_rfl) 43 Tryz.f43 Tryz.func43 (by kernel_rfl) (by kernel_rfl) _ _ rfl #[.int .i64 j, .slice (some ⟨g, off + a + h, none⟩) h2 c2] (by first | (simp [Act.eval]; done) | (simp [Act.eval, Act.put]; done)) (HP.out _ (HT.out.below (Below.refl _ _).drew)) ?_
      rintro en w2 ⟨v2, rfl, s2, o2, b2⟩
      refine ⟨v2, rfl, ?_⟩
      have B2 : Below w.heap.size w w2 := (Below.refl _ _).drew.trans b2
      simp only [Act.put, List.setIfInBounds_toArray, List.set_cons_zero, List.set_cons_succ]
      refine any_one (i := 10) (by kernel_rfl) ?_
      refine wpOp_call (some 37) rfl rfl (by kernel_rfl) 40 Tryz.f40 Tryz.func40 (by kernel_rfl) (by kernel_rfl) _ _ rfl #[.slice (some ⟨g, off + a, none⟩) h c] (by first | (simp [Act.eval]; done) | (simp [Act.eval, Act.put]; done)) (HRL.out _ (HT.out.below B2)) ?_
      rintro en w3 ⟨rfl, b3⟩
      refine ⟨_, rfl, ?_⟩
      have s3 := s2.below b3 (fun b hb => s2.lt hb)
      have B3 := B2.trans (b3.mono B2.size)
      simp only [Act.put, List.setIfInBounds_toArray, List.set_cons_zero, List.set_cons_succ]
      refine any_one (i := 11) (by kernel_rfl) ?_
      refine wpOp_value (some 38) (v := .slice (some ⟨w3.heap.size, 0, none⟩) 1 1) (w' := w3.alloc (.cells #[.string (bs r)] 9)) rfl rfl (by kernel_rfl) (by go_simp) ?_
      have s4 := s3.alloc (.cells #[.string (bs r)] 9)
      have B4 := B3.alloc B3.size (.cells #[.string (bs r)] 9)
      have n4 : Seg (w3.alloc (.cells #[.string (bs r)] 9)) 9 1 (.slice (some ⟨w3.heap.size, 0, none⟩) 1 1) 1 [.string (bs r)] := Seg.whole (m := 1) (cs := #[.string (bs r)]) (heap_alloc_new _ _) rfl (by unfold maxLen; omega)
      simp only [Act.put, List.setIfInBounds_toArray, List.set_cons_zero, List.set_cons_succ]
      refine any_one (i := 12) (by kernel_rfl) ?_
      refine wpOp_wp (o := ⟨some 39, _, _, _, _, _⟩) rfl (by kernel_rfl) ?_
      refine wp_append_every _ (.tmp 33) (.tmp 38) 26 rfl 9 i0 z0 1 16 Tryz.underlying26 HI.out.1 HI.out.2 hz1 hz3 hz2 (by decide) v2 l.length _ (by simp [Act.eval]) s4 _ 1 [.string (bs r)] (by simp [Act.eval]) n4 (by simp [Value.oneCell']) (by unfold maxLen; omega) (by omega) ?_
      intro v5 w5 s5 g5 o5
      have F5 : Hid (SnPost w (l ++ [r]) (.returned v5) w5) := Lib.hid ⟨v5, rfl, by simpa using s5, (fun b hb => by
        rcases o5 b hb with e | e
        · exact o2 b e
        · exact Nat.le_trans B4.size e), B4.trans (flt.below_own g5 o2 B4.size)⟩
      clear s5 g5 o5 s4 B4 n4 s3 B3 s2 o2 b2 B2 b3
      simp only [Act.put, List.setIfInBounds_toArray, List.set_cons_zero, List.set_cons_succ]
      refine any_take 13 (some 4) (v := v5) rfl rfl (by kernel_rfl) (by kernel_rfl) (by kernel_rfl) (fun _ _ _ h => h) (by kernel_rfl) (fun V => by go_simp) ?_
      refine wpAny_done (by kernel_rfl) ?_ _
      simp only [Act.put]
      go_wp2_with fail
      go_ret
      exact F5.out
end Go.Proofs.YtdlkdgajoafkaaaGreatDoor.prf
end

section
/- law 9's Same: sums against texts. -/
namespace Go.Proofs.YtdlkdgajoafkaaaGreatDoor.prf
open Go Go.RowKit Go.Proofs.YtdlkdgajoafkaaaGreatDoor.dig

set_option maxRecDepth 100000 in
set_option maxHeartbeats 2000000 in
theorem same_calls (l : List (List UInt8)) (hl : ∀ x ∈ l, x.length = 32) (a : Option Addr) (c : Nat) (u : Value) (w : World) (h1 : Seg w 56 32 (.slice a l.length c) l.length (sumsC l))
    (h2 : Seg w 9 1 u l.length (l.map fun x => Value.string (bs x))) :
    Calls Tryz.prog 44 #[.slice a l.length c, u] w fun en w' => en = .returned (.int .i64 0) ∧ Below w.heap.size w w' := by
  obtain ⟨a2, c2, rfl, hc1, hc2⟩ := h2.slice
  obtain ⟨a', c', e, hd1, hd2⟩ := h1.slice
  simp only [Value.slice.injEq, true_and] at e
  obtain ⟨rfl, rfl⟩ := e
  have hc9 : (c : Int) ≤ 9223372036854775807 := by unfold maxLen at hd2; omega
  have hc29 : (c2 : Int) ≤ 9223372036854775807 := by unfold maxLen at hc2; omega
  obtain ⟨n, hn⟩ : ∃ n, n = l.length := ⟨_, rfl⟩
  have H := Lib.hid (show _ ∧ _ ∧ _ ∧ _ from ⟨hl, h1, h2, hn⟩)
  rw [← hn] at hc1 hd1 ⊢
  have hnc : (n : Int) ≤ (c : Int) := by omega
  clear hl h1 h2 hn hc2 hd2
  go_enter Tryz.func44, Tryz.ntmps44
  go_wp2_with fail
  go_loopw [13] (fun s wr => ∃ i : Nat, s = .int .i64 i ∧ i ≤ n ∧ Hid (Below w.heap.size w wr)) (fun s _ => n - (intOf s).toNat)
  case atStart => exact ⟨0, rfl, Nat.zero_le _, Lib.hid (Below.refl _ _)⟩
  case round =>
    obtain ⟨i, rfl, hi, HB⟩ := hrel
    have hi0 : (0 : Int) ≤ (i : Int) := by omega
    by_cases hin : i < n
    · have hin1 : (i : Int) < (n : Int) := by omega
      have i1 : IntKind.i64.wrap ((i : Int) + 1) = (i : Int) + 1 := IntWalk.i64_in _ ⟨by omega, by omega⟩
      obtain ⟨x, hx⟩ : ∃ x, l[i]? = some x := ⟨_, List.getElem?_eq_getElem (by rw [← H.out.2.2.2]; exact hin)⟩
      have hx32 : x.length = 32 := H.out.1 x (List.mem_of_getElem? hx)
      obtain ⟨g1, o1, ha, hg1, hk1⟩ := seg_sum H.out.2.1 H.out.1 hx (by have := H.out.2.2.2; omega)
      obtain ⟨g2, o2, cc, hb, hg2, _, _, hk2⟩ := H.out.2.2.1.cells (by have := H.out.2.2.2; omega)
      injection hb with hb1 _ hb2
      subst ha hb1 hb2
      have RX := Lib.hid hx32
      have K1 : Hid (∀ V, Below w.heap.size w V → ∀ j (hj : j < x.length), V.cell? ((⟨g1, o1 + i * 32, none⟩ : Addr).add j) = some (.int .u8 (x[j].toNat : Int))) := Lib.hid fun V hV j hj => by
        have h0 := hk1 j (byteV x[j]) (by rw [List.getElem?_map, List.getElem?_eq_getElem hj]; rfl)
        rw [Addr.add_mid]
        refine Eq.trans ?_ h0
        unfold World.cell?; rw [hV.block g1 hg1]
      have K2 : Hid (∀ V, Below w.heap.size w V → V.cell? ⟨g2, o2 + i, none⟩ = some (.string (bs x))) := Lib.hid fun V hV => by
        rw [← hk2 i (.string (bs x)) (by rw [List.getElem?_map, hx]; rfl)]
        unfold World.cell?; rw [hV.block g2 hg2]
      clear hx hx32 hk1 hk2 hg1 hg2
      go_wp2_with fail
      refine wp_region_S (S := fun V => Below w.heap.size w V) (by kernel_rfl) HB.out.drew ?_
      refine AnyS.pure 0 (some 16) rfl rfl (by kernel_rfl) (by kernel_rfl) (by kernel_rfl) (fun _ _ _ h => h) (by kernel_rfl) (fun _ _ => rfl) ?_
      refine AnyS.pure 1 (some 17) rfl rfl (by kernel_rfl) (by kernel_rfl) (by kernel_rfl) (fun _ _ _ h => h) (by kernel_rfl) (fun _ _ => rfl) ?_
      simp only [Act.put, List.setIfInBounds_toArray, List.set_cons_zero, List.set_cons_succ]
      refine AnyS.pure 2 (some 18) (v := .pointer (some ⟨g1, o1 + i * 32, none⟩)) rfl rfl (by kernel_rfl) (by kernel_rfl) (by kernel_rfl) (fun _ _ _ h => h) (by kernel_rfl) (fun V hV => by go_simp) ?_
      refine AnyS.pure 3 (some 19) (v := .slice (some ⟨g1, o1 + i * 32, none⟩) 32 32) rfl rfl (by kernel_rfl) (by kernel_rfl) (by kernel_rfl) (fun _ _ _ h => h) (by kernel_rfl) (fun V hV => by go_simp) ?_
      simp only [Act.put, List.setIfInBounds_toArray, List.set_cons_zero, List.set_cons_succ]
      refine AnyS.pure 4 (some 20) (v := .string (bs x)) rfl rfl (by kernel_rfl) (by kernel_rfl) (by kernel_rfl) (fun _ _ _ h => h) (by kernel_rfl) (fun V hV => by have hcv := run_convert_bytes_back (P := Tryz.prog) V 61 9 5 ⟨g1, o1 + i * 32, none⟩ 32 x Tryz.underlying61 Tryz.underlying5 Tryz.underlying9 (fun j hj => K1.out V hV j hj); rw [RX.out] at hcv; go_simp; first | done | rfl) ?_
      refine AnyS.pure 5 (some 21) rfl rfl (by kernel_rfl) (by kernel_rfl) (by kernel_rfl) (fun _ _ _ h => h) (by kernel_rfl) (fun _ _ => rfl) ?_
      simp only [Act.put, List.setIfInBounds_toArray, List.set_cons_zero, List.set_cons_succ]
      refine AnyS.pure 6 (some 22) rfl rfl (by kernel_rfl) (by kernel_rfl) (by kernel_rfl) (fun _ _ _ h => h) (by kernel_rfl) (fun _ _ => rfl) ?_
      refine AnyS.pure 7 (some 23) (v := .pointer (some ⟨g2, o2 + i, none⟩)) rfl rfl (by kernel_rfl) (by kernel_rfl) (by kernel_rfl) (fun _ _ _ h => h) (by kernel_rfl) (fun V hV => by go_simp) ?_
      simp only [Act.put, List.setIfInBounds_toArray, List.set_cons_zero, List.set_cons_succ]
      refine AnyS.pure 8 (some 24) (v := .string (bs x)) rfl rfl (by kernel_rfl) (by kernel_rfl) (by kernel_rfl) (fun _ _ _ h => h) (by kernel_rfl) (fun V hV => by have k2 := K2.out V hV; go_simp) ?_
      refine AnyS.pure 9 (some 25) (v := .bool false) rfl rfl (by kernel_rfl) (by kernel_rfl) (by kernel_rfl) (fun _ _ _ h => h) (by kernel_rfl) (fun V hV => by have hss : ((bs x).toList == (bs x).toList) = true := (by simp); go_simp) ?_
      simp only [Act.put, List.setIfInBounds_toArray, List.set_cons_zero, List.set_cons_succ]
      refine AnyS.done (by kernel_rfl) (fun V hV => ?_) _
      have HV := Lib.hid hV
      clear hV HB K1 K2
      go_wp2_with fail
      have hcs : Value.int .i64 ((i : Int) + 1) = .int .i64 ((i + 1 : Nat) : Int) := by rw [Int.natCast_add]; rfl
      refine ⟨⟨i + 1, hcs, hin, HV⟩, ?_⟩
      show n - ((i : Int) + 1).toNat < n - ((i : Int)).toNat
      omega
    · obtain rfl : i = n := by omega
      go_wp2_with fail
      go_ret
      exact ⟨rfl, HB.out⟩
end Go.Proofs.YtdlkdgajoafkaaaGreatDoor.prf
end

section
/- A piece of a slice of texts. -/
namespace Go.Proofs.YtdlkdgajoafkaaaGreatDoor.dig
open Go Go.RowKit

/-- The texts from k on, m of them. -/
theorem Strs.piece {w : World} {g off c : Nat} {L : List ByteArray} (h : Strs w (.slice (some ⟨g, off, none⟩) L.length c) L) (k m : Nat) (hk : k + m ≤ L.length) :
    Strs w (.slice (some ⟨g, off + k, none⟩) ((L.drop k).take m).length (c - k)) ((L.drop k).take m) := by
  have h1 := Seg.front (h.1.behind k (by omega)) m (by omega) (by simp)
  have e : ((L.drop k).take m).length = m := by rw [List.length_take, List.length_drop]; omega
  refine ⟨?_, fun s hs => h.2 s (List.mem_of_mem_drop (List.mem_of_mem_take hs))⟩
  rw [e, List.map_take, List.map_drop]
  simpa using h1
end Go.Proofs.YtdlkdgajoafkaaaGreatDoor.dig
end

section
/- the document's vault: Keep, At, Head. -/
namespace Go.Proofs.YtdlkdgajoafkaaaGreatDoor.prf
open Go Go.RowKit Go.Proofs.YtdlkdgajoafkaaaGreatDoor.dig

/-- The document's vault as a value. -/
def dvC (v : Value) (fl : Int) : Value := .agg #[v, .int .i64 fl]

section
variable {a : Option Addr} {n c : Nat}
set_option maxRecDepth 100000 in
set_option maxHeartbeats 1000000 in
theorem rkeep_arg (fl x : Int) (hx : x < 0 ∨ x > n) (w : World) :
    Calls Tryz.prog 16 #[dvC (.slice a n c) fl, .int .i64 x] w fun en w' => en = .returned (.tuple #[dvC (.slice a n c) fl, .int .i64 4]) ∧ Below w.heap.size w w' := by
  unfold dvC
  rcases hx with h1 | h1
  · go_enter Tryz.func16, Tryz.ntmps16
    go_wp2_with fail
    exact bodyPost_ret (v := .tuple #[.agg #[.slice a n c, .int .i64 fl], .int .i64 4]) (results_cell_tmp rfl _ _ (w.heap.size + 1) 28 _ _ _ rfl (made_at _ _ (by simp)) Tryz.underlying28 rfl (by kernel_rfl) _ rfl) rfl
      ⟨rfl, ((Below.refl _ _).alloc (Nat.le_refl _) _).alloc (by simp) _⟩
  · have h0 : ¬ x < 0 := by omega
    go_enter Tryz.func16, Tryz.ntmps16
    go_wp2_with fail
    exact bodyPost_ret (v := .tuple #[.agg #[.slice a n c, .int .i64 fl], .int .i64 4]) (results_cell_tmp rfl _ _ (w.heap.size + 1) 28 _ _ _ rfl (made_at _ _ (by simp)) Tryz.underlying28 rfl (by kernel_rfl) _ rfl) rfl
      ⟨rfl, ((Below.refl _ _).alloc (Nat.le_refl _) _).alloc (by simp) _⟩
set_option maxRecDepth 100000 in
set_option maxHeartbeats 1000000 in
theorem rkeep_low (fl x : Int) (h0 : ¬ x < 0) (h1 : ¬ x > n) (h2 : x < fl) (w : World) :
    Calls Tryz.prog 16 #[dvC (.slice a n c) fl, .int .i64 x] w fun en w' => en = .returned (.tuple #[dvC (.slice a n c) fl, .int .i64 14]) ∧ Below w.heap.size w w' := by
  unfold dvC
  go_enter Tryz.func16, Tryz.ntmps16
  go_wp2_with fail
  exact bodyPost_ret (v := .tuple #[.agg #[.slice a n c, .int .i64 fl], .int .i64 14]) (results_cell_tmp rfl _ _ (w.heap.size + 1) 28 _ _ _ rfl (made_at _ _ (by simp)) Tryz.underlying28 rfl (by kernel_rfl) _ rfl) rfl
    ⟨rfl, ((Below.refl _ _).alloc (Nat.le_refl _) _).alloc (by simp) _⟩
set_option maxRecDepth 100000 in
set_option maxHeartbeats 1000000 in
theorem rkeep_ok (fl x : Int) (h0 : ¬ x < 0) (h1 : ¬ x > n) (h2 : ¬ x < fl) (w : World) :
    Calls Tryz.prog 16 #[dvC (.slice a n c) fl, .int .i64 x] w fun en w' => en = .returned (.tuple #[dvC (.slice a n c) x, .int .i64 0]) ∧ Below w.heap.size w w' := by
  unfold dvC
  go_enter Tryz.func16, Tryz.ntmps16
  go_wp2_with fail
  exact bodyPost_ret (v := .tuple #[.agg #[.slice a n c, .int .i64 x], .int .i64 0]) (results_cell_tmp rfl _ _ (w.heap.size + 1) 28 _ _ _ rfl (made_at _ _ (by simp)) Tryz.underlying28 rfl (by kernel_rfl) _ rfl) rfl
    ⟨rfl, ((Below.refl _ _).alloc (Nat.le_refl _) _).alloc (by simp) _⟩

set_option maxRecDepth 100000 in
set_option maxHeartbeats 1000000 in
theorem rat_future (fl x : Int) (hx : x < 0 ∨ x ≥ n) (w : World) :
    Calls Tryz.prog 19 #[dvC (.slice a n c) fl, .int .i64 x] w fun en w' => en = .returned (.tuple #[.string ⟨#[]⟩, .int .i64 13]) ∧ Below w.heap.size w w' := by
  unfold dvC
  rcases hx with h1 | h1
  · go_enter Tryz.func19, Tryz.ntmps19
    go_wp2_with fail
    go_ret2
    exact ⟨rfl, (Below.refl _ _).alloc (Nat.le_refl _) _⟩
  · have h0 : ¬ x < 0 := by omega
    go_enter Tryz.func19, Tryz.ntmps19
    go_wp2_with fail
    go_ret2
    exact ⟨rfl, (Below.refl _ _).alloc (Nat.le_refl _) _⟩
set_option maxRecDepth 100000 in
set_option maxHeartbeats 1000000 in
theorem rat_low (fl x : Int) (h0 : ¬ x < 0) (h1 : ¬ x ≥ n) (h2 : x < fl) (w : World) :
    Calls Tryz.prog 19 #[dvC (.slice a n c) fl, .int .i64 x] w fun en w' => en = .returned (.tuple #[.string ⟨#[]⟩, .int .i64 14]) ∧ Below w.heap.size w w' := by
  unfold dvC
  go_enter Tryz.func19, Tryz.ntmps19
  go_wp2_with fail
  go_ret2
  exact ⟨rfl, (Below.refl _ _).alloc (Nat.le_refl _) _⟩
set_option maxRecDepth 100000 in
set_option maxHeartbeats 1000000 in
theorem rat_ok {L : List ByteArray} (fl : Int) (i : Nat) (s : ByteArray) (hs : L[i]? = some s) (h2 : ¬ (i : Int) < fl) (w : World) (hL : Strs w (.slice a L.length c) L) :
    Calls Tryz.prog 19 #[dvC (.slice a L.length c) fl, .int .i64 i] w fun en w' => en = .returned (.tuple #[.string s, .int .i64 0]) ∧ Below w.heap.size w w' := by
  unfold dvC
  have hil : i < L.length := (List.getElem?_eq_some_iff.1 hs).1
  obtain ⟨g, off, c', e, hg, hc1, hc2, hcell⟩ := hL.1.cells (by omega)
  injection e with e1 _ e3
  subst e1 e3
  have k0 : ∀ O, (w.alloc O).cell? ⟨g, off + i, none⟩ = some (.string s) := fun O => by
    rw [← hcell i (.string s) (by rw [List.getElem?_map, hs]; rfl)]
    unfold World.cell?
    rw [Below.heap_alloc w O g hg]
  obtain ⟨n, hn⟩ : ∃ n, n = L.length := ⟨_, rfl⟩
  rw [← hn] at hil ⊢
  have h0 : ¬ (i : Int) < 0 := by omega
  have h1 : ¬ (i : Int) ≥ (n : Int) := by omega
  have h3 : (i : Int) < (n : Int) := by omega
  have h4 : (0 : Int) ≤ (i : Int) := by omega
  have h5 : (n : Int) ≤ 9223372036854775807 := by unfold maxLen at hc2; omega
  clear hs hL hcell hn hg hc1 hc2
  go_enter Tryz.func19, Tryz.ntmps19
  go_wp2_with fail
  go_ret2
  exact ⟨rfl, (Below.refl _ _).alloc (Nat.le_refl _) _⟩

set_option maxRecDepth 100000 in
set_option maxHeartbeats 1000000 in
theorem rhead_range (fl x : Int) (hx : x < 0 ∨ x > n) (w : World) :
    Calls Tryz.prog 21 #[dvC (.slice a n c) fl, .int .i64 x] w fun en w' => en = .returned (.tuple #[.string ⟨#[]⟩, .int .i64 6]) ∧ Below w.heap.size w w' := by
  unfold dvC
  rcases hx with h1 | h1
  · go_enter Tryz.func21, Tryz.ntmps21
    go_wp2_with fail
    go_ret2
    exact ⟨rfl, (Below.refl _ _).alloc (Nat.le_refl _) _⟩
  · have h0 : ¬ x < 0 := by omega
    go_enter Tryz.func21, Tryz.ntmps21
    go_wp2_with fail
    go_ret2
    exact ⟨rfl, (Below.refl _ _).alloc (Nat.le_refl _) _⟩
set_option maxRecDepth 100000 in
set_option maxHeartbeats 1000000 in
theorem rhead_low (fl x : Int) (h0 : ¬ x < 0) (h1 : ¬ x > n) (h2 : x < fl) (w : World) :
    Calls Tryz.prog 21 #[dvC (.slice a n c) fl, .int .i64 x] w fun en w' => en = .returned (.tuple #[.string ⟨#[]⟩, .int .i64 14]) ∧ Below w.heap.size w w' := by
  unfold dvC
  go_enter Tryz.func21, Tryz.ntmps21
  go_wp2_with fail
  go_ret2
  exact ⟨rfl, (Below.refl _ _).alloc (Nat.le_refl _) _⟩
end
end Go.Proofs.YtdlkdgajoafkaaaGreatDoor.prf
end

section
/- the document's Steps: the proof of the first so many. -/
namespace Go.Proofs.YtdlkdgajoafkaaaGreatDoor.prf
open Go Go.RowKit Go.Proofs.YtdlkdgajoafkaaaGreatDoor.dig

set_option maxRecDepth 100000 in
set_option maxHeartbeats 2000000 in
theorem rsteps_calls (L : List ByteArray) (hsz : ∀ s ∈ L, s.size ≤ 1000000) (hLL : L.length ≤ 1000000) (g off : Nat) : ∀ (k : Nat) {a c : Nat} (i : Nat) (fst : Bool) (w : World), 0 < i → i ≤ k → a + k ≤ L.length → k ≤ c → c ≤ maxLen → TxtAt w g off L →
    Calls Tryz.prog 46 #[.int .i64 i, .slice (some ⟨g, off + a, none⟩) k c, .bool fst] w (SnPost w (steps (leafF L) i a k fst)) := by
  intro k
  induction k using Nat.strongRecOn with
  | _ k ih =>
  intro a c i fst w hi0 hik ha hkc hc hT
  have HT := Lib.hid hT
  have hc9 : (c : Int) ≤ 9223372036854775807 := by unfold maxLen at hc; omega
  have hkc2 : (k : Int) ≤ (c : Int) := by omega
  by_cases h1 : i = k
  · subst h1
    rw [steps, if_pos rfl]
    cases fst
    · rw [if_neg (by simp)]
      have HR := Lib.hid (rroot_calls L hsz hLL g off i w hi0 ha hkc hc hT)
      obtain ⟨r, hr⟩ : ∃ r, r = rt (leafF L) a i := ⟨_, rfl⟩
      rw [← hr] at HR ⊢
      clear ih hT hr
      go_enter Tryz.func46, Tryz.ntmps46
      go_wp2_with fail
      refine HR.out.mono ?_
      rintro en w2 ⟨rfl, b2⟩
      go_wp2_with fail
      go_ret
      exact ⟨_, rfl, Seg.whole (m := 1) (cs := #[.string (bs r)]) (heap_alloc_new _ _) rfl (by unfold maxLen; omega), (fun b hb => by injection hb with hb; exact Nat.le_trans b2.size (Nat.le_of_eq hb)), b2.alloc b2.size _⟩
    · rw [if_pos rfl]
      clear ih hT
      go_enter Tryz.func46, Tryz.ntmps46
      go_wp2_with fail
      go_ret
      exact ⟨_, rfl, Seg.empty (heap_alloc_new _ _), (fun b hb => by injection hb with hb; exact Nat.le_of_eq hb), (Below.refl _ _).alloc (Nat.le_refl _) _⟩
  · have hk2 : 2 ≤ k := by omega
    have h1' : ¬ (i : Int) = (k : Int) := by omega
    have hlt := half_lt hk2
    have hp := half_pos k
    have hln : (steps (leafF L) i a k fst).length ≤ 65 := steps_le _ 64 k a i fst (by omega)
    have HH := Lib.hid (rhalf_calls k w hk2 (by omega))
    have HX := steps.eq_1 (leafF L) i a k fst
    rw [if_neg h1, dif_pos hk2] at HX
    obtain ⟨h, hh⟩ : ∃ h, h = half k := ⟨_, rfl⟩
    obtain ⟨h2, hh2⟩ : ∃ h2, h2 = k - h := ⟨_, rfl⟩
    obtain ⟨c2, hc2⟩ : ∃ c2, c2 = c - h := ⟨_, rfl⟩
    rw [← hh] at hlt hp HX HH
    rw [← hh2] at HX
    obtain ⟨i0, z0, hi0, hz0, hz1, hz2, hz3⟩ := flt.strInfo
    have HI := Lib.hid (show _ ∧ _ from ⟨hi0, hz0⟩)
    have hhk : (h : Int) ≤ (k : Int) := by omega
    have hhc : (h : Int) ≤ (c : Int) := by omega
    have hh0 : (0 : Int) ≤ (h : Int) := by omega
    have hkh : k - h = h2 := hh2.symm
    have hch : c - h = c2 := hc2.symm
    have hcn : ¬ c = h := by omega
    have HRL : Hid (∀ V, TxtAt V g off L → Calls Tryz.prog 40 #[.slice (some ⟨g, off + a, none⟩) h c] V fun en w' => en = .returned (.string (bs (rt (leafF L) a h))) ∧ Below V.heap.size V w') := Lib.hid fun V hV => rroot_calls L hsz hLL g off h V hp (by omega) (by omega) hc hV
    have HRR : Hid (∀ V, TxtAt V g off L → Calls Tryz.prog 40 #[.slice (some ⟨g, off + a + h, none⟩) h2 c2] V fun en w' => en = .returned (.string (bs (rt (leafF L) (a + h) h2))) ∧ Below V.heap.size V w') := Lib.hid fun V hV => by
      rw [Nat.add_assoc]
      exact rroot_calls L hsz hLL g off h2 V (by omega) (by omega) (by omega) (by omega) hV
    by_cases hih : i ≤ h
    · rw [if_pos hih] at HX
      have hih1 : (i : Int) ≤ (h : Int) := by omega
      have HP : Hid (∀ V, TxtAt V g off L → Calls Tryz.prog 46 #[.int .i64 i, .slice (some ⟨g, off + a, none⟩) h c, .bool fst] V (SnPost V (steps (leafF L) i a h fst))) := Lib.hid fun V hV => ih h hlt i fst V (by omega) hih (by omega) (by omega) hc hV
      obtain ⟨l, hl⟩ : ∃ l, l = steps (leafF L) i a h fst := ⟨_, rfl⟩
      obtain ⟨r, hr⟩ : ∃ r, r = rt (leafF L) (a + h) h2 := ⟨_, rfl⟩
      rw [← hl, ← hr] at HX
      rw [← hl] at HP
      rw [← hr] at HRR
      rw [HX] at hln ⊢
      have hl63 : l.length ≤ 64 := by simp at hln; omega
      clear ih hT hlt hp hh hh2 hc2 hl hr HX hln
      go_enter Tryz.func46, Tryz.ntmps46
      go_wp2_with fail
      refine HH.out.mono ?_
      rintro en wx ⟨rfl, rfl⟩
      go_wp2_with fail
      refine wp_region_any (by kernel_rfl) ?_
      refine any_take 0 (some 23) (v := .int .i64 i) rfl rfl (by kernel_rfl) (by kernel_rfl) (by kernel_rfl) (fun _ _ _ h => h) (by kernel_rfl) (fun V => by go_simp) ?_
      simp only [Act.put, List.setIfInBounds_toArray, List.set_cons_zero, List.set_cons_succ]
      refine any_take 1 (some 24) (v := Value.slice (some ⟨g, off + a, none⟩) k c) rfl rfl (by kernel_rfl) (by kernel_rfl) (by kernel_rfl) (fun _ _ _ h => h) (by kernel_rfl) (fun V => by go_simp) ?_
      simp only [Act.put, List.setIfInBounds_toArray, List.set_cons_zero, List.set_cons_succ]
      refine any_take 2 (some 25) (v := .int .i64 h) rfl rfl (by kernel_rfl) (by kernel_rfl) (by kernel_rfl) (fun _ _ _ h => h) (by kernel_rfl) (fun V => by go_simp) ?_
      simp only [Act.put, List.setIfInBounds_toArray, List.set_cons_zero, List.set_cons_succ]
      refine any_take 3 (some 26) (v := Value.slice (some ⟨g, off + a, none⟩) h c) rfl rfl (by kernel_rfl) (by kernel_rfl) (by kernel_rfl) (fun _ _ _ h => h) (by kernel_rfl) (fun V => by go_simp) ?_
      simp only [Act.put, List.setIfInBounds_toArray, List.set_cons_zero, List.set_cons_succ]
      refine any_take 4 (some 27) (v := .bool fst) rfl rfl (by kernel_rfl) (by kernel_rfl) (by kernel_rfl) (fun _ _ _ h => h) (by kernel_rfl) (fun V => by go_simp) ?_
      simp only [Act.put, List.setIfInBounds_toArray, List.set_cons_zero, List.set_cons_succ]
      refine any_take 6 (some 29) (v := Value.slice (some ⟨g, off + a, none⟩) k c) rfl rfl (by kernel_rfl) (by kernel_rfl) (by kernel_rfl) (fun _ _ _ h => h) (by kernel_rfl) (fun V => by go_simp) ?_
      simp only [Act.put, List.setIfInBounds_toArray, List.set_cons_zero, List.set_cons_succ]
      refine any_take 7 (some 30) (v := .int .i64 h) rfl rfl (by kernel_rfl) (by kernel_rfl) (by kernel_rfl) (fun _ _ _ h => h) (by kernel_rfl) (fun V => by go_simp) ?_
      simp only [Act.put, List.setIfInBounds_toArray, List.set_cons_zero, List.set_cons_succ]
      refine any_take 8 (some 31) (v := Value.slice (some ⟨g, off + a + h, none⟩) h2 c2) rfl rfl (by kernel_rfl) (by kernel_rfl) (by kernel_rfl) (fun _ _ _ h => h) (by kernel_rfl) (fun V => by go_simp) ?_
      simp only [Act.put, List.setIfInBounds_toArray, List.set_cons_zero, List.set_cons_succ]
      refine any_one (i := 5) (by kernel_rfl) ?_
      refine wpOp_call (some 28) rfl rfl (by kernel_rfl) 46 Tryz.f46 Tryz.func46 (by kernel_rfl) (by kernel_rfl) _ _ rfl #[.int .i64 i, .slice (some ⟨g, off + a, none⟩) h c, .bool fst] (by first | (simp [Act.eval]; done) | (simp [Act.eval, Act.put]; done)) (HP.out _ (HT.out.below (Below.refl _ _).drew)) ?_
      rintro en w2 ⟨v2, rfl, s2, o2, b2⟩
      refine ⟨v2, rfl, ?_⟩
      have B2 : Below w.heap.size w w2 := (Below.refl _ _).drew.trans b2
      simp only [Act.put, List.setIfInBounds_toArray, List.set_cons_zero, List.set_cons_succ]
      refine any_one (i := 9) (by kernel_rfl) ?_
      refine wpOp_call (some 32) rfl rfl (by kernel_rfl) 40 Tryz.f40 Tryz.func40 (by kernel_rfl) (by kernel_rfl) _ _ rfl #[.slice (some ⟨g, off + a + h, none⟩) h2 c2] (by first | (simp [Act.eval]; done) | (simp [Act.eval, Act.put]; done)) (HRR.out _ (HT.out.below B2)) ?_
      rintro en w3 ⟨rfl, b3⟩
      refine ⟨_, rfl, ?_⟩
      have s3 := s2.below b3 (fun b hb => s2.lt hb)
      have B3 := B2.trans (b3.mono B2.size)
      simp only [Act.put, List.setIfInBounds_toArray, List.set_cons_zero, List.set_cons_succ]
      refine any_one (i := 10) (by kernel_rfl) ?_
      refine wpOp_value (some 33) (v := .slice (some ⟨w3.heap.size, 0, none⟩) 1 1) (w' := w3.alloc (.cells #[.string (bs r)] 9)) rfl rfl (by kernel_rfl) (by go_simp) ?_
      have s4 := s3.alloc (.cells #[.string (bs r)] 9)
      have B4 := B3.alloc B3.size (.cells #[.string (bs r)] 9)
      have n4 : Seg (w3.alloc (.cells #[.string (bs r)] 9)) 9 1 (.slice (some ⟨w3.heap.size, 0, none⟩) 1 1) 1 [.string (bs r)] := Seg.whole (m := 1) (cs := #[.string (bs r)]) (heap_alloc_new _ _) rfl (by unfold maxLen; omega)
      simp only [Act.put, List.setIfInBounds_toArray, List.set_cons_zero, List.set_cons_succ]
      refine any_one (i := 11) (by kernel_rfl) ?_
      refine wpOp_wp (o := ⟨some 34, _, _, _, _, _⟩) rfl (by kernel_rfl) ?_
      refine wp_append_every _ (.tmp 28) (.tmp 33) 26 rfl 9 i0 z0 1 16 Tryz.underlying26 HI.out.1 HI.out.2 hz1 hz3 hz2 (by decide) v2 l.length _ (by simp [Act.eval]) s4 _ 1 [.string (bs r)] (by simp [Act.eval]) n4 (by simp [Value.oneCell']) (by unfold maxLen; omega) (by omega) ?_
      intro v5 w5 s5 g5 o5
      have F5 : Hid (SnPost w (l ++ [r]) (.returned v5) w5) := Lib.hid ⟨v5, rfl, by simpa using s5, (fun b hb => by
        rcases o5 b hb with e | e
        · exact o2 b e
        · exact Nat.le_trans B4.size e), B4.trans (flt.below_own g5 o2 B4.size)⟩
      clear s5 g5 o5 s4 B4 n4 s3 B3 s2 o2 b2 B2 b3
      simp only [Act.put, List.setIfInBounds_toArray, List.set_cons_zero, List.set_cons_succ]
      refine any_take 12 (some 6) (v := v5) rfl rfl (by kernel_rfl) (by kernel_rfl) (by kernel_rfl) (fun _ _ _ h => h) (by kernel_rfl) (fun V => by go_simp) ?_
      refine wpAny_done (by kernel_rfl) ?_ _
      simp only [Act.put]
      go_wp2_with fail
      go_ret
      exact F5.out
    · rw [if_neg hih] at HX
      have hih1 : ¬ (i : Int) ≤ (h : Int) := by omega
      obtain ⟨j, hj⟩ : ∃ j, j = i - h := ⟨_, rfl⟩
      have hij : (i : Int) - (h : Int) = (j : Int) := by omega
      have wij : IntKind.i64.wrap ((i : Int) - (h : Int)) = (j : Int) := by rw [hij]; exact IntWalk.i64_in _ ⟨by omega, by omega⟩
      have wj : IntKind.i64.wrap (j : Int) = (j : Int) := IntWalk.i64_in _ ⟨by omega, by omega⟩
      rw [← hj] at HX
      have HP : Hid (∀ V, TxtAt V g off L → Calls Tryz.prog 46 #[.int .i64 j, .slice (some ⟨g, off + a + h, none⟩) h2 c2, .bool false] V (SnPost V (steps (leafF L) j (a + h) h2 false))) := Lib.hid fun V hV => by
        rw [Nat.add_assoc]
        exact ih h2 (by omega) j false V (by omega) (by omega) (by omega) (by omega) (by omega) hV
      obtain ⟨l, hl⟩ : ∃ l, l = steps (leafF L) j (a + h) h2 false := ⟨_, rfl⟩
      obtain ⟨r, hr⟩ : ∃ r, r = rt (leafF L) a h := ⟨_, rfl⟩
      rw [← hl, ← hr] at HX
      rw [← hl] at HP
      rw [← hr] at HRL
      rw [HX] at hln ⊢
      have hl63 : l.length ≤ 64 := by simp at hln; omega
      clear ih hT hlt hp hh hh2 hc2 hl hr HX hln hj
      go_enter Tryz.func46, Tryz.ntmps46
      go_wp2_with fail
      refine HH.out.mono ?_
      rintro en wx ⟨rfl, rfl⟩
      go_wp2_with fail
      refine wp_region_any (by kernel_rfl) ?_
      refine any_take 0 (some 35) (v := .int .i64 i) rfl rfl (by kernel_rfl) (by kernel_rfl) (by kernel_rfl) (fun _ _ _ h => h) (by kernel_rfl) (fun V => by go_simp) ?_
      simp only [Act.put, List.setIfInBounds_toArray, List.set_cons_zero, List.set_cons_succ]
      refine any_take 1 (some 36) (v := .int .i64 h) rfl rfl (by kernel_rfl) (by kernel_rfl) (by kernel_rfl) (fun _ _ _ h => h) (by kernel_rfl) (fun V => by go_simp) ?_
      simp only [Act.put, List.setIfInBounds_toArray, List.set_cons_zero, List.set_cons_succ]
      refine any_take 2 (some 37) (v := .int .i64 j) rfl rfl (by kernel_rfl) (by kernel_rfl) (by kernel_rfl) (fun _ _ _ h => h) (by kernel_rfl) (fun V => by go_simp) ?_
      simp only [Act.put, List.setIfInBounds_toArray, List.set_cons_zero, List.set_cons_succ]
      refine any_take 3 (some 38) (v := Value.slice (some ⟨g, off + a, none⟩) k c) rfl rfl (by kernel_rfl) (by kernel_rfl) (by kernel_rfl) (fun _ _ _ h => h) (by kernel_rfl) (fun V => by go_simp) ?_
      simp only [Act.put, List.setIfInBounds_toArray, List.set_cons_zero, List.set_cons_succ]
      refine any_take 4 (some 39) (v := .int .i64 h) rfl rfl (by kernel_rfl) (by kernel_rfl) (by kernel_rfl) (fun _ _ _ h => h) (by kernel_rfl) (fun V => by go_simp) ?_
      simp only [Act.put, List.setIfInBounds_toArray, List.set_cons_zero, List.set_cons_succ]
      refine any_take 5 (some 40) (v := Value.slice (some ⟨g, off + a + h, none⟩) h2 c2) rfl rfl (by kernel_rfl) (by kernel_rfl) (by kernel_rfl) (fun _ _ _ h => h) (by kernel_rfl) (fun V => by go_simp) ?_
      simp only [Act.put, List.setIfInBounds_toArray, List.set_cons_zero, List.set_cons_succ]
      refine any_take 7 (some 42) (v := Value.slice (some ⟨g, off + a, none⟩) k c) rfl rfl (by kernel_rfl) (by kernel_rfl) (by kernel_rfl) (fun _ _ _ h => h) (by kernel_rfl) (fun V => by go_simp) ?_
      simp only [Act.put, List.setIfInBounds_toArray, List.set_cons_zero, List.set_cons_succ]
      refine any_take 8 (some 43) (v := .int .i64 h) rfl rfl (by kernel_rfl) (by kernel_rfl) (by kernel_rfl) (fun _ _ _ h => h) (by kernel_rfl) (fun V => by go_simp) ?_
      simp only [Act.put, List.setIfInBounds_toArray, List.set_cons_zero, List.set_cons_succ]
      refine any_take 9 (some 44) (v := Value.slice (some ⟨g, off + a, none⟩) h c) rfl rfl (by kernel_rfl) (by kernel_rfl) (by kernel_rfl) (fun _ _ _ h => h) (by kernel_rfl) (fun V => by go_simp) ?_
      simp only [Act.put, List.setIfInBounds_toArray, List.set_cons_zero, List.set_cons_succ]
      refine any_one (i := 6) (by kernel_rfl) ?_
      refine wpOp_call (some 41) rfl rfl (by kernel_rfl) 46 Tryz.f46 Tryz.func46 (by kernel_rfl) (by kernel_rfl) _ _ rfl #[.int .i64 j, .slice (some ⟨g, off + a + h, none⟩) h2 c2, .bool false] (by first | (simp [Act.eval]; done) | (simp [Act.eval, Act.put]; done)) (HP.out _ (HT.out.below (Below.refl _ _).drew)) ?_
      rintro en w2 ⟨v2, rfl, s2, o2, b2⟩
      refine ⟨v2, rfl, ?_⟩
      have B2 : Below w.heap.size w w2 := (Below.refl _ _).drew.trans b2
      simp only [Act.put, List.setIfInBounds_toArray, List.set_cons_zero, List.set_cons_succ]
      refine any_one (i := 10) (by kernel_rfl) ?_
      refine wpOp_call (some 45) rfl rfl (by kernel_rfl) 40 Tryz.f40 Tryz.func40 (by kernel_rfl) (by kernel_rfl) _ _ rfl #[.slice (some ⟨g, off + a, none⟩) h c] (by first | (simp [Act.eval]; done) | (simp [Act.eval, Act.put]; done)) (HRL.out _ (HT.out.below B2)) ?_
      rintro en w3 ⟨rfl, b3⟩
      refine ⟨_, rfl, ?_⟩
      have s3 := s2.below b3 (fun b hb => s2.lt hb)
      have B3 := B2.trans (b3.mono B2.size)
      simp only [Act.put, List.setIfInBounds_toArray, List.set_cons_zero, List.set_cons_succ]
      refine any_one (i := 11) (by kernel_rfl) ?_
      refine wpOp_value (some 46) (v := .slice (some ⟨w3.heap.size, 0, none⟩) 1 1) (w' := w3.alloc (.cells #[.string (bs r)] 9)) rfl rfl (by kernel_rfl) (by go_simp) ?_
      have s4 := s3.alloc (.cells #[.string (bs r)] 9)
      have B4 := B3.alloc B3.size (.cells #[.string (bs r)] 9)
      have n4 : Seg (w3.alloc (.cells #[.string (bs r)] 9)) 9 1 (.slice (some ⟨w3.heap.size, 0, none⟩) 1 1) 1 [.string (bs r)] := Seg.whole (m := 1) (cs := #[.string (bs r)]) (heap_alloc_new _ _) rfl (by unfold maxLen; omega)
      simp only [Act.put, List.setIfInBounds_toArray, List.set_cons_zero, List.set_cons_succ]
      refine any_one (i := 12) (by kernel_rfl) ?_
      refine wpOp_wp (o := ⟨some 47, _, _, _, _, _⟩) rfl (by kernel_rfl) ?_
      refine wp_append_every _ (.tmp 41) (.tmp 46) 26 rfl 9 i0 z0 1 16 Tryz.underlying26 HI.out.1 HI.out.2 hz1 hz3 hz2 (by decide) v2 l.length _ (by simp [Act.eval]) s4 _ 1 [.string (bs r)] (by simp [Act.eval]) n4 (by simp [Value.oneCell']) (by unfold maxLen; omega) (by omega) ?_
      intro v5 w5 s5 g5 o5
      have F5 : Hid (SnPost w (l ++ [r]) (.returned v5) w5) := Lib.hid ⟨v5, rfl, by simpa using s5, (fun b hb => by
        rcases o5 b hb with e | e
        · exact o2 b e
        · exact Nat.le_trans B4.size e), B4.trans (flt.below_own g5 o2 B4.size)⟩
      clear s5 g5 o5 s4 B4 n4 s3 B3 s2 o2 b2 B2 b3
      simp only [Act.put, List.setIfInBounds_toArray, List.set_cons_zero, List.set_cons_succ]
      refine any_take 13 (some 6) (v := v5) rfl rfl (by kernel_rfl) (by kernel_rfl) (by kernel_rfl) (fun _ _ _ h => h) (by kernel_rfl) (fun V => by go_simp) ?_
      refine wpAny_done (by kernel_rfl) ?_ _
      simp only [Act.put]
      go_wp2_with fail
      go_ret
      exact F5.out
end Go.Proofs.YtdlkdgajoafkaaaGreatDoor.prf
end

section
/- the document's vault: Head, Leaf, Prefix. -/
namespace Go.Proofs.YtdlkdgajoafkaaaGreatDoor.prf
open Go Go.RowKit Go.Proofs.YtdlkdgajoafkaaaGreatDoor.dig

theorem strs_txt {w : World} {a : Option Addr} {c : Nat} {L : List ByteArray} (h : Strs w (.slice a L.length c) L) (h0 : 0 < L.length) : ∃ g off, a = some ⟨g, off, none⟩ ∧ TxtAt w g off L := by
  obtain ⟨g, off, c', e, hg, _, _, hc⟩ := h.1.cells h0
  simp only [Value.slice.injEq] at e
  obtain ⟨rfl, _, rfl⟩ := e
  exact ⟨g, off, rfl, hg, fun i s hs => hc i (.string s) (by rw [List.getElem?_map, hs]; rfl)⟩

/-- A proof of the document's, with the error's number. -/
def DrPost (w : World) (K I N : Int) (l : List (List UInt8)) (E : Int) (en : Ending) (w' : World) : Prop :=
  ∃ a c, en = .returned (.tuple #[.agg (prC K I N (.slice a l.length c)), .int .i64 E]) ∧ Seg w' 9 1 (.slice a l.length c) l.length (l.map fun x => Value.string (bs x)) ∧ Below w.heap.size w w'

section
variable {a : Option Addr} {n c : Nat}
set_option maxRecDepth 100000 in
set_option maxHeartbeats 1000000 in
theorem rleafv_range (fl i x : Int) (hx : x < 0 ∨ x > n ∨ i < 0 ∨ i ≥ x) (w : World) :
    Calls Tryz.prog 23 #[dvC (.slice a n c) fl, .int .i64 i, .int .i64 x] w (DrPost w 0 0 0 [] 6) := by
  unfold dvC
  by_cases h1 : x < 0
  · go_enter Tryz.func23, Tryz.ntmps23
    go_wp2_with fail
    exact bodyPost_ret (v := .tuple #[.agg (prC 0 0 0 (.slice none 0 0)), .int .i64 6]) (results_cell_tmp rfl _ _ (w.heap.size + 1) 68 _ _ _ rfl (made_at _ _ (by simp)) Tryz.underlying68 rfl (by kernel_rfl) _ rfl) rfl
      ⟨none, 0, rfl, Seg.nil _ _ _, ((Below.refl _ _).alloc (Nat.le_refl _) _).alloc (by simp) _⟩
  · by_cases h2 : x > n
    · go_enter Tryz.func23, Tryz.ntmps23
      go_wp2_with fail
      exact bodyPost_ret (v := .tuple #[.agg (prC 0 0 0 (.slice none 0 0)), .int .i64 6]) (results_cell_tmp rfl _ _ (w.heap.size + 1) 68 _ _ _ rfl (made_at _ _ (by simp)) Tryz.underlying68 rfl (by kernel_rfl) _ rfl) rfl
        ⟨none, 0, rfl, Seg.nil _ _ _, ((Below.refl _ _).alloc (Nat.le_refl _) _).alloc (by simp) _⟩
    · by_cases h3 : i < 0
      · go_enter Tryz.func23, Tryz.ntmps23
        go_wp2_with fail
        exact bodyPost_ret (v := .tuple #[.agg (prC 0 0 0 (.slice none 0 0)), .int .i64 6]) (results_cell_tmp rfl _ _ (w.heap.size + 1) 68 _ _ _ rfl (made_at _ _ (by simp)) Tryz.underlying68 rfl (by kernel_rfl) _ rfl) rfl
          ⟨none, 0, rfl, Seg.nil _ _ _, ((Below.refl _ _).alloc (Nat.le_refl _) _).alloc (by simp) _⟩
      · have h4 : i ≥ x := by omega
        go_enter Tryz.func23, Tryz.ntmps23
        go_wp2_with fail
        exact bodyPost_ret (v := .tuple #[.agg (prC 0 0 0 (.slice none 0 0)), .int .i64 6]) (results_cell_tmp rfl _ _ (w.heap.size + 1) 68 _ _ _ rfl (made_at _ _ (by simp)) Tryz.underlying68 rfl (by kernel_rfl) _ rfl) rfl
          ⟨none, 0, rfl, Seg.nil _ _ _, ((Below.refl _ _).alloc (Nat.le_refl _) _).alloc (by simp) _⟩
set_option maxRecDepth 100000 in
set_option maxHeartbeats 1000000 in
theorem rleafv_low (fl i x : Int) (h1 : ¬ x < 0) (h2 : ¬ x > n) (h3 : ¬ i < 0) (h4 : ¬ i ≥ x) (h5 : i < fl) (w : World) :
    Calls Tryz.prog 23 #[dvC (.slice a n c) fl, .int .i64 i, .int .i64 x] w (DrPost w 0 0 0 [] 14) := by
  unfold dvC
  go_enter Tryz.func23, Tryz.ntmps23
  go_wp2_with fail
  exact bodyPost_ret (v := .tuple #[.agg (prC 0 0 0 (.slice none 0 0)), .int .i64 14]) (results_cell_tmp rfl _ _ (w.heap.size + 1) 68 _ _ _ rfl (made_at _ _ (by simp)) Tryz.underlying68 rfl (by kernel_rfl) _ rfl) rfl
    ⟨none, 0, rfl, Seg.nil _ _ _, ((Below.refl _ _).alloc (Nat.le_refl _) _).alloc (by simp) _⟩
set_option maxRecDepth 100000 in
set_option maxHeartbeats 1000000 in
theorem rprefixv_range (fl i x : Int) (hx : x < 0 ∨ x > n ∨ i < 0 ∨ i > x) (w : World) :
    Calls Tryz.prog 26 #[dvC (.slice a n c) fl, .int .i64 i, .int .i64 x] w (DrPost w 0 0 0 [] 6) := by
  unfold dvC
  by_cases h1 : x < 0
  · go_enter Tryz.func26, Tryz.ntmps26
    go_wp2_with fail
    exact bodyPost_ret (v := .tuple #[.agg (prC 0 0 0 (.slice none 0 0)), .int .i64 6]) (results_cell_tmp rfl _ _ (w.heap.size + 1) 68 _ _ _ rfl (made_at _ _ (by simp)) Tryz.underlying68 rfl (by kernel_rfl) _ rfl) rfl
      ⟨none, 0, rfl, Seg.nil _ _ _, ((Below.refl _ _).alloc (Nat.le_refl _) _).alloc (by simp) _⟩
  · by_cases h2 : x > n
    · go_enter Tryz.func26, Tryz.ntmps26
      go_wp2_with fail
      exact bodyPost_ret (v := .tuple #[.agg (prC 0 0 0 (.slice none 0 0)), .int .i64 6]) (results_cell_tmp rfl _ _ (w.heap.size + 1) 68 _ _ _ rfl (made_at _ _ (by simp)) Tryz.underlying68 rfl (by kernel_rfl) _ rfl) rfl
        ⟨none, 0, rfl, Seg.nil _ _ _, ((Below.refl _ _).alloc (Nat.le_refl _) _).alloc (by simp) _⟩
    · by_cases h3 : i < 0
      · go_enter Tryz.func26, Tryz.ntmps26
        go_wp2_with fail
        exact bodyPost_ret (v := .tuple #[.agg (prC 0 0 0 (.slice none 0 0)), .int .i64 6]) (results_cell_tmp rfl _ _ (w.heap.size + 1) 68 _ _ _ rfl (made_at _ _ (by simp)) Tryz.underlying68 rfl (by kernel_rfl) _ rfl) rfl
          ⟨none, 0, rfl, Seg.nil _ _ _, ((Below.refl _ _).alloc (Nat.le_refl _) _).alloc (by simp) _⟩
      · have h4 : i > x := by omega
        go_enter Tryz.func26, Tryz.ntmps26
        go_wp2_with fail
        exact bodyPost_ret (v := .tuple #[.agg (prC 0 0 0 (.slice none 0 0)), .int .i64 6]) (results_cell_tmp rfl _ _ (w.heap.size + 1) 68 _ _ _ rfl (made_at _ _ (by simp)) Tryz.underlying68 rfl (by kernel_rfl) _ rfl) rfl
          ⟨none, 0, rfl, Seg.nil _ _ _, ((Below.refl _ _).alloc (Nat.le_refl _) _).alloc (by simp) _⟩
set_option maxRecDepth 100000 in
set_option maxHeartbeats 1000000 in
theorem rprefixv_low (fl i x : Int) (h1 : ¬ x < 0) (h2 : ¬ x > n) (h3 : ¬ i < 0) (h4 : ¬ i > x) (h5 : i < fl) (w : World) :
    Calls Tryz.prog 26 #[dvC (.slice a n c) fl, .int .i64 i, .int .i64 x] w (DrPost w 0 0 0 [] 14) := by
  unfold dvC
  go_enter Tryz.func26, Tryz.ntmps26
  go_wp2_with fail
  exact bodyPost_ret (v := .tuple #[.agg (prC 0 0 0 (.slice none 0 0)), .int .i64 14]) (results_cell_tmp rfl _ _ (w.heap.size + 1) 68 _ _ _ rfl (made_at _ _ (by simp)) Tryz.underlying68 rfl (by kernel_rfl) _ rfl) rfl
    ⟨none, 0, rfl, Seg.nil _ _ _, ((Below.refl _ _).alloc (Nat.le_refl _) _).alloc (by simp) _⟩
set_option maxRecDepth 100000 in
set_option maxHeartbeats 1000000 in
theorem rprefixv_none (fl x : Int) (h1 : ¬ x < 0) (h2 : ¬ x > n) (h5 : ¬ (0 : Int) < fl) (w : World) :
    Calls Tryz.prog 26 #[dvC (.slice a n c) fl, .int .i64 0, .int .i64 x] w (DrPost w 2 0 x [] 0) := by
  unfold dvC
  have h4 : ¬ (0 : Int) > x := by omega
  go_enter Tryz.func26, Tryz.ntmps26
  go_wp2_with fail
  exact bodyPost_ret (v := .tuple #[.agg (prC 2 0 x (.slice none 0 0)), .int .i64 0]) (results_cell_tmp rfl _ _ (w.heap.size + 1) 68 _ _ _ rfl (made_at _ _ (by simp)) Tryz.underlying68 rfl (by kernel_rfl) _ rfl) rfl
    ⟨none, 0, rfl, Seg.nil _ _ _, ((Below.refl _ _).alloc (Nat.le_refl _) _).alloc (by simp) _⟩
end

set_option maxRecDepth 100000 in
set_option maxHeartbeats 2000000 in
theorem rleafv_ok {a : Option Addr} {c : Nat} {L : List ByteArray} (fl : Int) (i n : Nat) (hn : n ≤ L.length) (hi : i < n) (hf : ¬ (i : Int) < fl) (hLL : L.length ≤ 1000000) (w : World) (hL : Strs w (.slice a L.length c) L) :
    Calls Tryz.prog 23 #[dvC (.slice a L.length c) fl, .int .i64 i, .int .i64 n] w (DrPost w 1 i n (path (leafF L) i 0 n) 0) := by
  unfold dvC
  obtain ⟨g, off, rfl, hT⟩ := strs_txt hL (by omega)
  obtain ⟨a', c', e, hc1, hc2⟩ := hL.1.slice
  simp only [Value.slice.injEq, true_and] at e
  obtain ⟨rfl, rfl⟩ := e
  have HP : Hid (∀ V, Below w.heap.size w V → Calls Tryz.prog 43 #[.int .i64 i, .slice (some ⟨g, off, none⟩) n c] V (SnPost V (path (leafF L) i 0 n))) := Lib.hid fun V hV =>
    rpath_calls L hL.2 hLL g off n (a := 0) i V hi (by omega) (by omega) hc2 (hT.below hV)
  obtain ⟨l, hl⟩ : ∃ l, l = path (leafF L) i 0 n := ⟨_, rfl⟩
  obtain ⟨m, hm⟩ : ∃ m, m = L.length := ⟨_, rfl⟩
  rw [← hl] at HP ⊢
  rw [← hm] at hn hc1 hLL ⊢
  have h1 : ¬ (n : Int) < 0 := by omega
  have h2 : ¬ (n : Int) > (m : Int) := by omega
  have h3 : ¬ (i : Int) < 0 := by omega
  have h4 : ¬ (i : Int) ≥ (n : Int) := by omega
  have h5 : (n : Int) ≤ (c : Int) := by omega
  have h6 : (0 : Int) ≤ (n : Int) := by omega
  have h7 : (c : Int) ≤ 9223372036854775807 := by unfold maxLen at hc2; omega
  clear hL hT hl hm hc2 hn hi hc1
  go_enter Tryz.func23, Tryz.ntmps23
  go_wp2_with fail
  refine callsName (fun W hW => ?_)
  have B0 : Hid (Below w.heap.size w W) := by rw [← hW]; exact Lib.hid (((Below.refl _ _).alloc (Nat.le_refl _) _).alloc (by simp) _)
  have Z0 : Hid (Has W (w.heap.size + 1) 68 (prC 0 0 0 (.slice none 0 0))) := by rw [← hW]; exact Lib.hid (made_at _ _ (by simp))
  clear hW
  refine (HP.out W B0.out).mono ?_
  rintro en w1 ⟨v, rfl, s1, o1, b1⟩
  obtain ⟨a1, c1, rfl, _, _⟩ := s1.slice
  have S1 : Hid (Has w1 (w.heap.size + 1) 68 (prC 0 0 0 (.slice none 0 0)) ∧ Below w.heap.size w w1 ∧ Seg w1 9 1 (.slice a1 l.length c1) l.length (l.map fun x => Value.string (bs x))) :=
    Lib.hid ⟨Z0.out.below b1 Z0.out.lt, B0.out.trans (b1.mono B0.out.size), s1⟩
  clear b1 Z0 B0 s1 o1 HP
  obtain ⟨q, hq⟩ : ∃ q, q = l.length := ⟨_, rfl⟩
  have HM := Lib.hid hq
  rw [← hq] at S1 ⊢
  clear hq
  go_wp2_with (first
    | ((with_reducible refine at_store (.tmp 6) ?_); refine wpList_store_cells (o := ⟨none, _, _, _, _, _⟩) rfl 68 (.tmp 6) (.tmp 40) rfl (w.heap.size + 1) (prC 1 i n (.slice a1 q c1)) (prC 0 0 0 (.slice none 0 0)) rfl rfl _ S1.out.1 (by kernel_rfl) rfl (by simp [prC, Value.oneCell']) ?_; intro W9 HW9 TW9)
    | fail)
  exact bodyPost_ret (v := .tuple #[.agg (prC 1 i n (.slice a1 q c1)), .int .i64 0]) (results_cell_tmp rfl _ _ (w.heap.size + 1) 68 _ _ _ rfl HW9 Tryz.underlying68 rfl (by kernel_rfl) _ rfl) rfl
    ⟨a1, c1, by rw [← HM.out], by rw [← HM.out]; exact S1.out.2.2.turn TW9 (fun x hx e => S1.out.2.2.ne S1.out.1 (by decide) (by rw [hx, e])), S1.out.2.1.trans (TW9.below S1.out.2.1.size (fun j hj e => by omega))⟩

set_option maxRecDepth 100000 in
set_option maxHeartbeats 2000000 in
theorem rprefixv_ok {a : Option Addr} {c : Nat} {L : List ByteArray} (fl : Int) (i n : Nat) (hn : n ≤ L.length) (h0 : 0 < i) (hi : i ≤ n) (hf : ¬ (i : Int) < fl) (hLL : L.length ≤ 1000000) (w : World) (hL : Strs w (.slice a L.length c) L) :
    Calls Tryz.prog 26 #[dvC (.slice a L.length c) fl, .int .i64 i, .int .i64 n] w (DrPost w 2 i n (steps (leafF L) i 0 n true) 0) := by
  unfold dvC
  obtain ⟨g, off, rfl, hT⟩ := strs_txt hL (by omega)
  obtain ⟨a', c', e, hc1, hc2⟩ := hL.1.slice
  simp only [Value.slice.injEq, true_and] at e
  obtain ⟨rfl, rfl⟩ := e
  have HP : Hid (∀ V, Below w.heap.size w V → Calls Tryz.prog 46 #[.int .i64 i, .slice (some ⟨g, off, none⟩) n c, .bool true] V (SnPost V (steps (leafF L) i 0 n true))) := Lib.hid fun V hV =>
    rsteps_calls L hL.2 hLL g off n (a := 0) i true V h0 hi (by omega) (by omega) hc2 (hT.below hV)
  obtain ⟨l, hl⟩ : ∃ l, l = steps (leafF L) i 0 n true := ⟨_, rfl⟩
  obtain ⟨m, hm⟩ : ∃ m, m = L.length := ⟨_, rfl⟩
  rw [← hl] at HP ⊢
  rw [← hm] at hn hc1 hLL ⊢
  have h1 : ¬ (n : Int) < 0 := by omega
  have h2 : ¬ (n : Int) > (m : Int) := by omega
  have h3 : ¬ (i : Int) < 0 := by omega
  have h4 : ¬ (i : Int) > (n : Int) := by omega
  have h5 : (n : Int) ≤ (c : Int) := by omega
  have h6 : (0 : Int) ≤ (n : Int) := by omega
  have h7 : (c : Int) ≤ 9223372036854775807 := by unfold maxLen at hc2; omega
  have h8 : ¬ (i : Int) = 0 := by omega
  clear hL hT hl hm hc2 hn hi hc1 h0
  go_enter Tryz.func26, Tryz.ntmps26
  go_wp2_with fail
  refine callsName (fun W hW => ?_)
  have B0 : Hid (Below w.heap.size w W) := by rw [← hW]; exact Lib.hid (((Below.refl _ _).alloc (Nat.le_refl _) _).alloc (by simp) _)
  have Z0 : Hid (Has W (w.heap.size + 1) 68 (prC 0 0 0 (.slice none 0 0))) := by rw [← hW]; exact Lib.hid (made_at _ _ (by simp))
  clear hW
  refine (HP.out W B0.out).mono ?_
  rintro en w1 ⟨v, rfl, s1, o1, b1⟩
  obtain ⟨a1, c1, rfl, _, _⟩ := s1.slice
  have S1 : Hid (Has w1 (w.heap.size + 1) 68 (prC 0 0 0 (.slice none 0 0)) ∧ Below w.heap.size w w1 ∧ Seg w1 9 1 (.slice a1 l.length c1) l.length (l.map fun x => Value.string (bs x))) :=
    Lib.hid ⟨Z0.out.below b1 Z0.out.lt, B0.out.trans (b1.mono B0.out.size), s1⟩
  clear b1 Z0 B0 s1 o1 HP
  obtain ⟨q, hq⟩ : ∃ q, q = l.length := ⟨_, rfl⟩
  have HM := Lib.hid hq
  rw [← hq] at S1 ⊢
  clear hq
  go_wp2_with (first
    | ((with_reducible refine at_store (.tmp 6) ?_); refine wpList_store_cells (o := ⟨none, _, _, _, _, _⟩) rfl 68 (.tmp 6) (.tmp 44) rfl (w.heap.size + 1) (prC 2 i n (.slice a1 q c1)) (prC 0 0 0 (.slice none 0 0)) rfl rfl _ S1.out.1 (by kernel_rfl) rfl (by simp [prC, Value.oneCell']) ?_; intro W9 HW9 TW9)
    | fail)
  exact bodyPost_ret (v := .tuple #[.agg (prC 2 i n (.slice a1 q c1)), .int .i64 0]) (results_cell_tmp rfl _ _ (w.heap.size + 1) 68 _ _ _ rfl HW9 Tryz.underlying68 rfl (by kernel_rfl) _ rfl) rfl
    ⟨a1, c1, by rw [← HM.out], by rw [← HM.out]; exact S1.out.2.2.turn TW9 (fun x hx e => S1.out.2.2.ne S1.out.1 (by decide) (by rw [hx, e])), S1.out.2.1.trans (TW9.below S1.out.2.1.size (fun j hj e => by omega))⟩

set_option maxRecDepth 100000 in
set_option maxHeartbeats 1000000 in
theorem rroot_none (a : Option Addr) (c : Nat) (f : Nat → List UInt8) (w : World) : Calls Tryz.prog 40 #[.slice a 0 c] w fun en w' => en = .returned (.string (bs (rtAll f 0))) ∧ Below w.heap.size w w' := by
  have HC := Lib.hid (rof_calls ⟨#[]⟩ (by decide) w)
  unfold rtAll
  rw [if_pos rfl]
  go_enter Tryz.func40, Tryz.ntmps40
  go_wp2_with fail
  refine HC.out.mono ?_
  rintro en w2 ⟨rfl, b2⟩
  go_wp2_with fail
  go_ret
  exact ⟨rfl, b2⟩

set_option maxRecDepth 100000 in
set_option maxHeartbeats 2000000 in
theorem rheadv_ok {a : Option Addr} {c : Nat} {L : List ByteArray} (fl : Int) (n : Nat) (hn : n ≤ L.length) (hf : ¬ (n : Int) < fl) (hLL : L.length ≤ 1000000) (w : World) (hL : Strs w (.slice a L.length c) L) :
    Calls Tryz.prog 21 #[dvC (.slice a L.length c) fl, .int .i64 n] w fun en w' => en = .returned (.tuple #[.string (bs (rtAll (leafF L) n)), .int .i64 0]) ∧ Below w.heap.size w w' := by
  unfold dvC
  have hsl : (a = none ∧ n = 0 ∧ c = 0) ∨ ∃ g off, a = some ⟨g, off, none⟩ := by
    rcases hL.1.2 with ⟨h, h0⟩ | ⟨g, off, cp, cur, h, _⟩
    · simp only [Value.slice.injEq] at h
      exact .inl ⟨h.1, by omega, h.2.2⟩
    · simp only [Value.slice.injEq] at h
      exact .inr ⟨g, off, h.1⟩
  have HP : Hid (∀ V, Below w.heap.size w V → Calls Tryz.prog 40 #[.slice a n c] V fun en w' => en = .returned (.string (bs (rtAll (leafF L) n))) ∧ Below V.heap.size V w') := Lib.hid fun V hV => by
    by_cases h0 : n = 0
    · subst h0; exact rroot_none a c _ V
    · obtain ⟨g, off, rfl, hT⟩ := strs_txt hL (by omega)
      obtain ⟨a', c', e, hc1, hc2⟩ := hL.1.slice
      simp only [Value.slice.injEq, true_and] at e
      obtain ⟨rfl, rfl⟩ := e
      have h1 := rroot_calls L hL.2 hLL g off n (a := 0) V (by omega) (by omega) (by omega) hc2 (hT.below hV)
      unfold rtAll
      rw [if_neg h0]
      exact h1
  obtain ⟨a', c', e, hc1, hc2⟩ := hL.1.slice
  simp only [Value.slice.injEq, true_and] at e
  obtain ⟨rfl, rfl⟩ := e
  obtain ⟨m, hm⟩ : ∃ m, m = L.length := ⟨_, rfl⟩
  obtain ⟨r, hr⟩ : ∃ r, r = rtAll (leafF L) n := ⟨_, rfl⟩
  rw [← hr] at HP ⊢
  rw [← hm] at hn hc1 hLL ⊢
  have h1 : ¬ (n : Int) < 0 := by omega
  have h2 : ¬ (n : Int) > (m : Int) := by omega
  have h5 : (n : Int) ≤ (c : Int) := by omega
  have h6 : (0 : Int) ≤ (n : Int) := by omega
  have h7 : (c : Int) ≤ 9223372036854775807 := by unfold maxLen at hc2; omega
  clear hL hm hc2 hn hc1 hr
  have HAL : Below w.heap.size w (w.alloc (.cells #[.slice a m c, .int .i64 fl] 28)) := (Below.refl _ _).alloc (Nat.le_refl _) _
  have HB := Lib.hid HAL
  clear HAL
  rcases hsl with ⟨rfl, rfl, rfl⟩ | ⟨g, off, rfl⟩
  · go_enter Tryz.func21, Tryz.ntmps21
    go_wp2_with fail
    refine (HP.out _ HB.out).mono ?_
    rintro en w1 ⟨rfl, b1⟩
    go_wp2_with fail
    go_ret2
    exact ⟨rfl, HB.out.trans (b1.mono HB.out.size)⟩
  · go_enter Tryz.func21, Tryz.ntmps21
    go_wp2_with fail
    refine (HP.out _ HB.out).mono ?_
    rintro en w1 ⟨rfl, b1⟩
    go_wp2_with fail
    go_ret2
    exact ⟨rfl, HB.out.trans (b1.mono HB.out.size)⟩
end Go.Proofs.YtdlkdgajoafkaaaGreatDoor.prf
end

