/- TreeGrows: for every list of texts, every number and every list of floors the law answers true, and its arguments read afterwards as they did. Conditions: the row lists three package-level variables (digest's table of rounds, and both tables of math/bits), which the card ties to the program's text. -/
import Derived.Test.YtiobdhkadbipkaaDoorY005
import Derived.Test.YtiobdhkadbipkaaDoorY006
import Derived.Test.YtiobdhkadbipkaaDoorY007
import Derived.Test.YtiobdhkadbipkaaDoorCards
import Derived.Test.YtiobdhkadbipkaaDoorTie
import Derived.ProofKit
import Derived.OpenShut
import Derived.SevenTiedAt
namespace Go.Proofs.YtiobdhkadbipkaaDoor.treeGrows
open Go Go.ChangeShapes Go.WideShapes Go.ChangeAt Go.RowKit Go.Proofs.YtiobdhkadbipkaaDoor.dig Go.Proofs.YtiobdhkadbipkaaDoor.tree Go.Proofs.YtiobdhkadbipkaaDoor.prf

def Arg0 (w : World) (a : Option Addr) (len cap : Nat) : Prop := ∃ T, ArgS w a len cap T
theorem opened0 {H : Type} {enc : TypeId × Value → H} {w : World} {spare : Nat → Bool} {held : Bool} {a : Option Addr} {len cap : Nat} {d : DataW H} {p : List MemPlace} (h : DataW.Trod enc Tryd.prog w 0 spare held 22 (.slice a len cap) d p) : Arg0 w a len cap := openedStrs h
def Arg2 (w : World) (a : Option Addr) (len cap : Nat) : Prop := ∃ T, ArgI w a len cap T
theorem opened2 {H : Type} {enc : TypeId × Value → H} {w : World} {spare : Nat → Bool} {held : Bool} {a : Option Addr} {len cap : Nat} {d : DataW H} {p : List MemPlace} (h : DataW.Trod enc Tryd.prog w 0 spare held 23 (.slice a len cap) d p) : Arg2 w a len cap := openedI h

/-- A tree of the first i of texts L, its floor m; the texts lie at g, off. -/
structure Tg (B : Nat) (w : World) (t : Nat) (L : List ByteArray) (g off i m : Nat) (W : World) : Prop where
  tr : ∃ F, Tr B F W t i m (leafF L) ∧ (∀ j, F j → j < W.heap.size)
  bel : Below w.heap.size w W
  lo : w.heap.size ≤ B
  txt : TxtAt W g off L
  gB : g < B
section
variable {B : Nat} {w W W' : World} {t g off i m : Nat} {L : List ByteArray}
theorem Tg.below (h : Tg B w t L g off i m W) (b : Below W.heap.size W W') : Tg B w t L g off i m W' := by
  obtain ⟨F, h1, h2⟩ := h.tr
  exact ⟨⟨F, h1.below b, fun j hj => Nat.lt_of_lt_of_le (h2 j hj) b.size⟩, h.bel.trans (b.mono h.bel.size), h.lo, h.txt.below b, h.gB⟩
theorem Tg.tight {F : Nat → Prop} (h : Tr B F W' t i m (leafF L)) : ∃ F, Tr B F W' t i m (leafF L) ∧ (∀ j, F j → j < W'.heap.size) :=
  ⟨fun j => F j ∧ j < W'.heap.size, h.more (fun _ h1 h2 => ⟨h2, h1⟩) (fun _ hj => h.hF _ hj.1), fun _ hj => hj.2⟩
theorem Tg.turn {F : Nat → Prop} {i' m' : Nat} (h : Tg B w t L g off i m W) (hF : ∀ j, F j → B ≤ j) (tr : Tr B (fun k => F k ∨ W.heap.size ≤ k) W' t i' m' (leafF L)) (tt : Turn F W W') : Tg B w t L g off i' m' W' :=
  ⟨Tg.tight tr, h.bel.trans (tt.below h.bel.size (fun j hj hf => by have := hF j hf; have := h.lo; omega)), h.lo, ⟨Nat.lt_of_lt_of_le h.txt.1 tt.size, fun i s hs => by
    rw [← h.txt.2 i s hs]; unfold World.cell?; rw [tt.block g h.txt.1 (fun hf => by have := hF g hf; have := h.gB; omega)]⟩, h.gB⟩
theorem Tg.add (h : Tg B w t L g off i m W) {s : ByteArray} (hs : L[i]? = some s) (hsz : s.size ≤ 1000000) (hi : i < 1000) :
    Calls Tryd.prog 10 #[.pointer (some ⟨t, 0, none⟩), .slice (some ⟨W.heap.size, 0, none⟩) 1 1] (W.alloc (.cells #[.string s] 9)) fun en w' => en = .returned (.tuple #[]) ∧ Tg B w t L g off (i + 1) m w' := by
  have h' := h.below ((Below.refl _ _).alloc (Nat.le_refl _) (.cells #[.string s] 9))
  obtain ⟨F, h1, h2⟩ := h.tr
  refine ((h1.alloc (.cells #[.string s] 9)).append_calls (some ⟨W.heap.size, 0, none⟩) 1 [s] ⟨Seg.whole (m := 1) (cs := #[.string s]) (heap_alloc_new _ _) rfl (by unfold maxLen; omega), fun x hx => by rw [List.mem_singleton.1 hx]; exact hsz⟩
    (fun x hx hf => by
      have e : W.heap.size = x := by simpa [Value.ownBlock] using hx
      have := h2 x hf
      omega)
    (fun j x hx => by
      have hj : j = 0 := by
        rcases j with _ | j
        · rfl
        · cases hx
      subst hj
      have e : s = x := by injection hx
      rw [← e]
      exact leafF_at L i s hs) (by show i + 1 < _; omega)).mono ?_
  rintro en w' ⟨rfl, tr, tt⟩
  exact ⟨rfl, h'.turn (fun j hj => h1.hF j hj) tr tt⟩
theorem Tg.forget (h : Tg B w t L g off i m W) (p : Nat) (hp : m ≤ p) (hn : p ≤ i) :
    Calls Tryd.prog 11 #[.pointer (some ⟨t, 0, none⟩), .int .i64 p] W fun en w' => en = .returned (.int .i64 0) ∧ Tg B w t L g off i p w' := by
  obtain ⟨F, h1, h2⟩ := h.tr
  refine (h1.forget p hp hn).mono ?_
  rintro en w' ⟨rfl, tr, tt⟩
  exact ⟨rfl, h.turn (fun j hj => h1.hF j hj) tr tt⟩
end

/-- What lasts in the region of a round. -/
structure Ls (B : Nat) (w : World) (t : Nat) (L : List ByteArray) (g off i m g1 : Nat) (R : List UInt8) (V : World) : Prop where
  tg : Tg B w t L g off i m V
  sum : Has V g1 32 (cellsOf R)
theorem Ls.below {B : Nat} {w : World} {t : Nat} {L : List ByteArray} {g off i m g1 : Nat} {R : List UInt8} {V V' : World} (h : Ls B w t L g off i m g1 R V) (b : Below V.heap.size V V') : Ls B w t L g off i m g1 R V' :=
  ⟨h.tg.below b, h.sum.below b h.sum.lt⟩

set_option maxRecDepth 100000 in
set_option maxHeartbeats 4000000 in
theorem walk (a : Option Addr) (len cap : Nat) (n : Int) (a2 : Option Addr) (len2 cap2 : Nat) (w : World) (hA : Arg0 w a len cap) (hn : (Lit.int .i64 n).wf = true) (hA2 : Arg2 w a2 len2 cap2) (hR : Rt w.heap.size w) :
    Calls Tryd.prog 3 #[.slice a len cap, .int .i64 n, .slice a2 len2 cap2] w fun en w' => en = .returned (.bool true) ∧ Below w.heap.size w w' := by
  obtain ⟨T2, hT2⟩ := hA2
  have HT2 := Lib.hid hT2
  have hlc2 : (len2 : Int) ≤ 9223372036854775807 := by have := hT2.1; have := hT2.2.1; unfold maxLen at this; omega
  have hl20 : (0 : Int) ≤ (len2 : Int) := by omega
  obtain ⟨T, hT⟩ := hA
  have hn2 := wf_i64 hn
  have HN2 := Lib.hid hn2
  have HT := Lib.hid hT
  have HR := Lib.hid hR
  clear hT hT2 hR hn hn2
  go_enter Tryd.func3, Tryd.ntmps3
  go_wp2_with fail
  refine (tawake_calls _ w HR.out).mono ?_
  rintro en w1 ⟨rfl, b1⟩
  have R1 : Hid (Rt w.heap.size w1 ∧ Below w.heap.size w w1 ∧ ArgS w1 a len cap T) := Lib.hid ⟨HR.out.below b1 (Nat.le_refl _), b1, HT.out.1, HT.out.2.1, fun k hk => by
    obtain ⟨gb, go, h1, h2, h3, h4⟩ := HT.out.2.2 k hk
    exact ⟨gb, go, h1, Nat.lt_of_lt_of_le h2 b1.size, by rw [← h3]; unfold World.cell?; rw [b1.block gb h2], h4⟩⟩
  clear b1 HR HT
  go_wp2_with fail
  refine (leaves_calls a len cap T n w1 R1.out.2.2 HN2.out.1 HN2.out.2).mono ?_
  rintro en w2 ⟨v, L, rfl, hs2, hlen, lo2, b2, hne⟩
  obtain ⟨a0, c0, rfl, hc1, hc2⟩ := hs2.1.slice
  obtain ⟨g, off, rfl⟩ : ∃ g off, a0 = some ⟨g, off, none⟩ := by
    rcases hs2.1.2 with ⟨h, _⟩ | ⟨g, off, cp, cur, h, _⟩
    · exact absurd h hne
    · simp only [Value.slice.injEq] at h; exact ⟨g, off, h.1⟩
  have hc3 : (c0 : Int) ≤ 9223372036854775807 := by unfold maxLen at hc2; omega
  obtain ⟨k, hk⟩ : ∃ k, k = L.length := ⟨_, rfl⟩
  have hk40 : k ≤ 40 := by omega
  rw [← hk] at hc1 ⊢
  have hcl : (k : Int) ≤ (c0 : Int) := by omega
  have HC2 := Lib.hid hc2
  have R2 : Hid (Rt w.heap.size w2 ∧ Below w.heap.size w w2 ∧ Strs w2 (.slice (some ⟨g, off, none⟩) L.length c0) L ∧ k = L.length) := Lib.hid ⟨R1.out.1.below b2 R1.out.2.1.size, R1.out.2.1.trans (b2.mono R1.out.2.1.size), hs2, hk⟩
  clear hs2 lo2 b2 R1 hlen hc2 hc1 hne hk
  go_wp2_with fail
  have hrt : Rt w2.heap.size w2 := ⟨R2.out.1.rk, R2.out.1.tz, ⟨Nat.lt_of_lt_of_le R2.out.1.lo.1 R2.out.2.1.size, Nat.lt_of_lt_of_le R2.out.1.lo.2 R2.out.2.1.size⟩, Nat.le_refl _⟩
  refine (tnew_calls w2.heap.size (leafF L) w2 hrt (leafF_len L)).mono ?_
  rintro en w3 ⟨ta, rfl, hb, t3, b3⟩
  have R3 : Hid (Tg w2.heap.size w ta L g off 0 0 w3 ∧ k = L.length ∧ (∀ s ∈ L, s.size ≤ 1000000) ∧ (0 < k → c0 ≤ maxLen)) := by
    obtain ⟨h1, h2, h3, h4⟩ := R2.out
    have hg : g < w2.heap.size := h3.1.lt rfl
    refine Lib.hid ⟨⟨Tg.tight t3, h2.trans (b3.mono h2.size), h2.size, ⟨Nat.lt_of_lt_of_le hg b3.size, fun i s hs => ?_⟩, hg⟩, h4, h3.2, fun _ => HC2.out⟩
    obtain ⟨g', off', c', e, hgl, _, _, hcc⟩ := h3.1.cells (by have := (List.getElem?_eq_some_iff.1 hs).1; omega)
    simp only [Value.slice.injEq, Option.some.injEq, Addr.mk.injEq, and_true] at e
    obtain ⟨⟨rfl, rfl⟩, _, rfl⟩ := e
    rw [← hcc i (.string s) (by rw [List.getElem?_map, hs]; rfl)]
    unfold World.cell?; rw [b3.block g hgl]
  clear t3 b3 hb hrt R2
  go_wp2_with fail
  go_loopw [9, 26] (fun mo s wr => ∃ m i : Nat, mo = .int .i64 m ∧ s = .int .i64 i ∧ m ≤ i ∧ i ≤ k ∧ Hid (Tg w2.heap.size w ta L g off i m wr)) (fun _ s _ => k - (intOf s).toNat)
  case atStart => exact ⟨0, 0, rfl, rfl, Nat.le_refl _, Nat.zero_le _, Lib.hid R3.out.1⟩
  case round =>
    obtain ⟨m, i, rfl, rfl, hm, hi, HS⟩ := hrel
    have hi0 : (0 : Int) ≤ (i : Int) := by omega
    have hm0 : (0 : Int) ≤ (m : Int) := by omega
    have hi40 : (i : Int) ≤ 40 := by omega
    by_cases hik : i < k
    · have hik1 : (i : Int) < (k : Int) := by omega
      obtain ⟨s, hs⟩ : ∃ s, L[i]? = some s := ⟨_, List.getElem?_eq_getElem (by rw [← R3.out.2.1]; exact hik)⟩
      have k0 := HS.out.txt.2 i s hs
      have HAD := Lib.hid (HS.out.add hs (R3.out.2.2.1 s (List.mem_of_getElem? hs)) (by omega))
      clear hs
      go_wp2_with fail
      refine HAD.out.mono ?_
      rintro en w4 ⟨rfl, t4⟩
      have R4 := Lib.hid t4
      clear t4 HAD HS k0
      obtain ⟨q, hq⟩ : ∃ q : Nat, q = i + 1 := ⟨_, rfl⟩
      have HQ := Lib.hid hq
      have i1 : (i : Int) + 1 = (q : Int) := by omega
      have hq41 : (q : Int) ≤ 41 := by omega
      have wq : IntKind.i64.wrap (q : Int) = (q : Int) := IntWalk.i64_in _ ⟨by omega, by omega⟩
      have hq0 : (0 : Int) ≤ (q : Int) := by omega
      have hqk : q ≤ k := by omega
      rw [← hq] at R4
      clear hq
      by_cases hl2 : i < len2
      · have hl21 : (i : Int) < (len2 : Int) := by omega
        obtain ⟨gb, go, ha2, hgb, hcell, ht0, ht1⟩ := HT2.out.2.2 i hl2
        subst ha2
        have k1 : w4.cell? ⟨gb, go + i, none⟩ = some (.int .i64 (T2 i)) := by rw [← hcell]; unfold World.cell?; rw [R4.out.bel.block gb hgb]
        obtain ⟨x, hx⟩ : ∃ x, x = T2 i := ⟨_, rfl⟩
        rw [← hx] at k1
        clear hx ht0 ht1 hcell hgb
        obtain ⟨y, hy⟩ : ∃ y : Int, max x 0 = y := ⟨_, rfl⟩
        obtain ⟨p, hp⟩ : ∃ p : Nat, min y (q : Int) = (p : Int) := ⟨(min y (q : Int)).toNat, by omega⟩
        have hpq : p ≤ q := by omega
        by_cases hpm : m ≤ p
        · have hpm1 : (p : Int) ≥ (m : Int) := by omega
          have hmx : max (m : Int) (p : Int) = (p : Int) := by omega
          have HFG := Lib.hid (R4.out.forget p hpm hpq)
          go_wp2_with fail
          refine HFG.out.mono ?_
          rintro en w5 ⟨rfl, t5⟩
          have R5 := Lib.hid t5
          clear t5 HFG R4 k1 hy hp
          go_wp2_with fail
          obtain ⟨R, hR⟩ : ∃ R, R = rtAll (leafF L) q := ⟨_, rfl⟩
          have RL : Hid (R.length = 32) := Lib.hid (by rw [hR]; exact rtAll_len (leafF_len L) q)
          have HRC : Hid ((cellsOf R).size = 32) := Lib.hid (by rw [cellsOf_size, RL.out])
          have hmq : p ≤ q := by omega
          have HRT : Hid (Calls Tryd.prog 12 #[.pointer (some ⟨ta, 0, none⟩), .int .i64 q] w5 fun en w' => en = .returned (.tuple #[.agg (cellsOf R), .int .i64 0]) ∧ Below w5.heap.size w5 w') := Lib.hid (by
            obtain ⟨F, h1, _⟩ := R5.out.tr
            rw [hR]
            exact h1.root (by omega) q (Nat.le_refl _) hmq)
          have HRR : Hid (∀ V, TxtAt V g off L → Calls Tryd.prog 13 #[.slice (some ⟨g, off, none⟩) q c0] V fun en w' => en = .returned (.string (bs R)) ∧ Below V.heap.size V w') := Lib.hid fun V hV => by
            have h1 := rroot_calls L R3.out.2.2.1 (by have := R3.out.2.1; omega) g off q (a := 0) (c := c0) V (by have := HQ.out; omega) (by have := R3.out.2.1; omega) (by omega) (R3.out.2.2.2 (by omega)) hV
            rw [hR]
            unfold rtAll
            rw [if_neg (by have := HQ.out; omega)]
            exact h1
          have HRG : Hid (∀ g1 V, Has V g1 32 (cellsOf R) → ∀ j (hj : j < R.length), V.cell? ((⟨g1, 0, none⟩ : Addr).add j) = some (.int .u8 (R[j].toNat : Int))) := Lib.hid fun g1 V hV j hj => by
            rw [Addr.add_mid, Nat.zero_add, hV.cell]
            simp [cellsOf, byteV, hj]
          obtain ⟨kp, hkp⟩ : ∃ kp, kp = keptN q p (tops q) := ⟨_, rfl⟩
          have HKP := Lib.hid hkp
          have hkpb : kp ≤ 2 * (q - p) + 2 * tops q := by rw [hkp]; exact keptN_bound hmq _
          have ht10 : tops q ≤ 10 := tops_le (by omega)
          have HKB := Lib.hid hkpb
          have hkp6 : (kp : Int) ≤ 1000 := by omega
          have hkp0 : (0 : Int) ≤ (kp : Int) := by omega
          clear hkp hR hkpb
          refine HRT.out.mono ?_
          rintro en w6 ⟨rfl, b6⟩
          have R6 := Lib.hid (R5.out.below b6)
          clear b6 HRT R5
          go_wp2_with (first
            | ((with_reducible refine at_store (.tmp 14) ?_); refine wpList_store_cells (o := ⟨none, _, _, _, _, _⟩) rfl 32 (.tmp 14) (.tmp 72) rfl w6.heap.size (cellsOf R) _ rfl rfl _ (made_at _ _ rfl) (HRC.out.symm ▸ (by kernel_rfl)) (HRC.out.symm ▸ rfl) (cellsOf_one _) ?_; intro W8 HW8 TW8;
               (have R8 : Hid (Ls w2.heap.size w ta L g off q p w6.heap.size R W8) := (by
                 have bb : Below w6.heap.size w6 W8 := ((Below.refl _ _).alloc (Nat.le_refl _) _).trans (TW8.below (by simp) (fun j hj e => by omega))
                 exact Lib.hid ⟨R6.out.below bb, HW8⟩));
               clear R6 HW8 TW8)
            | fail)
          obtain ⟨g1, hg1⟩ : ∃ g1, g1 = w6.heap.size := ⟨_, rfl⟩
          rw [← hg1] at R8 ⊢
          clear hg1
          have hqk1 : (q : Int) ≤ (k : Int) := by omega
          have hqc : (q : Int) ≤ (c0 : Int) := by omega
          refine wp_region_S (S := Ls w2.heap.size w ta L g off q p g1 R) (by kernel_rfl) (R8.out.below (Below.refl _ _).drew) ?_
          refine AnyS.pure 0 (some 74) rfl rfl (by kernel_rfl) (by kernel_rfl) (by kernel_rfl) (fun _ _ _ h => h) (by kernel_rfl) (fun _ _ => rfl) ?_
          refine AnyS.pure 1 (some 75) (v := .bool false) rfl rfl (by kernel_rfl) (by kernel_rfl) (by kernel_rfl) (fun _ _ _ h => h) (by kernel_rfl) (fun V hV => by go_simp) ?_
          simp only [Act.put, List.setIfInBounds_toArray, List.set_cons_zero, List.set_cons_succ]
          refine AnyS.pure 2 (some 76) rfl rfl (by kernel_rfl) (by kernel_rfl) (by kernel_rfl) (fun _ _ _ h => h) (by kernel_rfl) (fun _ _ => rfl) ?_
          refine AnyS.pure 3 (some 77) (v := .slice (some ⟨g1, 0, none⟩) 32 32) rfl rfl (by kernel_rfl) (by kernel_rfl) (by kernel_rfl) (fun _ _ _ h => h) (by kernel_rfl) (fun V hV => by go_simp) ?_
          simp only [Act.put, List.setIfInBounds_toArray, List.set_cons_zero, List.set_cons_succ]
          refine AnyS.pure 4 (some 78) (v := .string (bs R)) rfl rfl (by kernel_rfl) (by kernel_rfl) (by kernel_rfl) (fun _ _ _ h => h) (by kernel_rfl) (fun V hV => by have hcv := run_convert_bytes_back (P := Tryd.prog) V 35 9 5 ⟨g1, 0, none⟩ 32 R Tryd.underlying35 Tryd.underlying5 Tryd.underlying9 (fun j hj => HRG.out g1 V hV.sum j hj); rw [RL.out] at hcv; go_simp; first | done | rfl) ?_
          refine AnyS.pure 5 (some 79) rfl rfl (by kernel_rfl) (by kernel_rfl) (by kernel_rfl) (fun _ _ _ h => h) (by kernel_rfl) (fun _ _ => rfl) ?_
          simp only [Act.put, List.setIfInBounds_toArray, List.set_cons_zero, List.set_cons_succ]
          refine AnyS.pure 6 (some 80) rfl rfl (by kernel_rfl) (by kernel_rfl) (by kernel_rfl) (fun _ _ _ h => h) (by kernel_rfl) (fun _ _ => rfl) ?_
          refine AnyS.pure 7 (some 81) (v := .int .i64 q) rfl rfl (by kernel_rfl) (by kernel_rfl) (by kernel_rfl) (fun _ _ _ h => h) (by kernel_rfl) (fun V hV => by go_simp) ?_
          simp only [Act.put, List.setIfInBounds_toArray, List.set_cons_zero, List.set_cons_succ]
          refine AnyS.pure 8 (some 82) (v := .slice (some ⟨g, off, none⟩) q c0) rfl rfl (by kernel_rfl) (by kernel_rfl) (by kernel_rfl) (fun _ _ _ h => h) (by kernel_rfl) (fun V hV => by go_simp) ?_
          refine AnyS.call 9 (some 83) (.string (bs R)) rfl rfl (by kernel_rfl) (by kernel_rfl) (by kernel_rfl) (fun _ _ _ h => h) (by kernel_rfl) 13 Tryd.f13 Tryd.func13 (by kernel_rfl) (by kernel_rfl) _ _ rfl #[.slice (some ⟨g, off, none⟩) q c0] (by first | (simp [Act.eval]; done) | (simp [Act.eval, Act.put]; done)) (fun V hV => (HRR.out V hV.tg.txt).mono fun _ _ h => ⟨h.1, hV.below h.2⟩) ?_
          simp only [Act.put, List.setIfInBounds_toArray, List.set_cons_zero, List.set_cons_succ]
          refine AnyS.pure 10 (some 84) (v := .bool false) rfl rfl (by kernel_rfl) (by kernel_rfl) (by kernel_rfl) (fun _ _ _ h => h) (by kernel_rfl) (fun V hV => by have hss : ((bs R).toList == (bs R).toList) = true := (by simp); go_simp) ?_
          refine AnyS.pure 11 (some 85) (v := .bool false) rfl rfl (by kernel_rfl) (by kernel_rfl) (by kernel_rfl) (fun _ _ _ h => h) (by kernel_rfl) (fun V hV => by go_simp) ?_
          simp only [Act.put, List.setIfInBounds_toArray, List.set_cons_zero, List.set_cons_succ]
          refine AnyS.pure 12 (some 86) rfl rfl (by kernel_rfl) (by kernel_rfl) (by kernel_rfl) (fun _ _ _ h => h) (by kernel_rfl) (fun _ _ => rfl) ?_
          refine AnyS.pure 13 (some 87) rfl rfl (by kernel_rfl) (by kernel_rfl) (by kernel_rfl) (fun _ _ _ h => h) (by kernel_rfl) (fun _ _ => rfl) ?_
          simp only [Act.put, List.setIfInBounds_toArray, List.set_cons_zero, List.set_cons_succ]
          refine AnyS.call 14 (some 88) (.int .i64 p) rfl rfl (by kernel_rfl) (by kernel_rfl) (by kernel_rfl) (fun _ _ _ h => h) (by kernel_rfl) 14 Tryd.f14 Tryd.func14 (by kernel_rfl) (by kernel_rfl) _ _ rfl #[.pointer (some ⟨ta, 0, none⟩)] (by first | (simp [Act.eval]; done) | (simp [Act.eval, Act.put]; done)) (fun V hV => (by obtain ⟨F, h1, _⟩ := hV.tg.tr; exact h1.floor_calls.mono fun _ _ h => ⟨h.1, h.2 ▸ hV⟩)) ?_
          refine AnyS.pure 15 (some 89) rfl rfl (by kernel_rfl) (by kernel_rfl) (by kernel_rfl) (fun _ _ _ h => h) (by kernel_rfl) (fun _ _ => rfl) ?_
          simp only [Act.put, List.setIfInBounds_toArray, List.set_cons_zero, List.set_cons_succ]
          refine AnyS.pure 16 (some 90) (v := .bool false) rfl rfl (by kernel_rfl) (by kernel_rfl) (by kernel_rfl) (fun _ _ _ h => h) (by kernel_rfl) (fun V hV => by go_simp) ?_
          refine AnyS.pure 17 (some 91) (v := .bool false) rfl rfl (by kernel_rfl) (by kernel_rfl) (by kernel_rfl) (fun _ _ _ h => h) (by kernel_rfl) (fun V hV => by go_simp) ?_
          simp only [Act.put, List.setIfInBounds_toArray, List.set_cons_zero, List.set_cons_succ]
          refine AnyS.pure 18 (some 92) rfl rfl (by kernel_rfl) (by kernel_rfl) (by kernel_rfl) (fun _ _ _ h => h) (by kernel_rfl) (fun _ _ => rfl) ?_
          refine AnyS.pure 19 (some 93) rfl rfl (by kernel_rfl) (by kernel_rfl) (by kernel_rfl) (fun _ _ _ h => h) (by kernel_rfl) (fun _ _ => rfl) ?_
          simp only [Act.put, List.setIfInBounds_toArray, List.set_cons_zero, List.set_cons_succ]
          refine AnyS.call 20 (some 94) (.int .i64 q) rfl rfl (by kernel_rfl) (by kernel_rfl) (by kernel_rfl) (fun _ _ _ h => h) (by kernel_rfl) 15 Tryd.f15 Tryd.func15 (by kernel_rfl) (by kernel_rfl) _ _ rfl #[.pointer (some ⟨ta, 0, none⟩)] (by first | (simp [Act.eval]; done) | (simp [Act.eval, Act.put]; done)) (fun V hV => (by obtain ⟨F, h1, _⟩ := hV.tg.tr; exact h1.len_calls.mono fun _ _ h => ⟨h.1, h.2 ▸ hV⟩)) ?_
          refine AnyS.pure 21 (some 95) rfl rfl (by kernel_rfl) (by kernel_rfl) (by kernel_rfl) (fun _ _ _ h => h) (by kernel_rfl) (fun _ _ => rfl) ?_
          simp only [Act.put, List.setIfInBounds_toArray, List.set_cons_zero, List.set_cons_succ]
          refine AnyS.pure 22 (some 96) (v := .int .i64 q) rfl rfl (by kernel_rfl) (by kernel_rfl) (by kernel_rfl) (fun _ _ _ h => h) (by kernel_rfl) (fun V hV => by go_simp) ?_
          refine AnyS.pure 23 (some 97) (v := .bool false) rfl rfl (by kernel_rfl) (by kernel_rfl) (by kernel_rfl) (fun _ _ _ h => h) (by kernel_rfl) (fun V hV => by go_simp) ?_
          simp only [Act.put, List.setIfInBounds_toArray, List.set_cons_zero, List.set_cons_succ]
          refine AnyS.pure 24 (some 98) (v := .bool false) rfl rfl (by kernel_rfl) (by kernel_rfl) (by kernel_rfl) (fun _ _ _ h => h) (by kernel_rfl) (fun V hV => by go_simp) ?_
          refine AnyS.pure 25 (some 99) rfl rfl (by kernel_rfl) (by kernel_rfl) (by kernel_rfl) (fun _ _ _ h => h) (by kernel_rfl) (fun _ _ => rfl) ?_
          simp only [Act.put, List.setIfInBounds_toArray, List.set_cons_zero, List.set_cons_succ]
          refine AnyS.pure 26 (some 100) rfl rfl (by kernel_rfl) (by kernel_rfl) (by kernel_rfl) (fun _ _ _ h => h) (by kernel_rfl) (fun _ _ => rfl) ?_
          refine AnyS.call 27 (some 101) (.int .i64 kp) rfl rfl (by kernel_rfl) (by kernel_rfl) (by kernel_rfl) (fun _ _ _ h => h) (by kernel_rfl) 16 Tryd.f16 Tryd.func16 (by kernel_rfl) (by kernel_rfl) _ _ rfl #[.pointer (some ⟨ta, 0, none⟩)] (by first | (simp [Act.eval]; done) | (simp [Act.eval, Act.put]; done)) (fun V hV => (by obtain ⟨F, h1, _⟩ := hV.tg.tr; rw [HKP.out]; exact h1.kept_calls.mono fun _ _ h => ⟨h.1, hV.below h.2⟩)) ?_
          simp only [Act.put, List.setIfInBounds_toArray, List.set_cons_zero, List.set_cons_succ]
          refine AnyS.pure 28 (some 102) rfl rfl (by kernel_rfl) (by kernel_rfl) (by kernel_rfl) (fun _ _ _ h => h) (by kernel_rfl) (fun _ _ => rfl) ?_
          refine AnyS.pure 29 (some 103) (v := .int .i64 q) rfl rfl (by kernel_rfl) (by kernel_rfl) (by kernel_rfl) (fun _ _ _ h => h) (by kernel_rfl) (fun V hV => by go_simp) ?_
          simp only [Act.put, List.setIfInBounds_toArray, List.set_cons_zero, List.set_cons_succ]
          refine AnyS.pure 30 (some 104) rfl rfl (by kernel_rfl) (by kernel_rfl) (by kernel_rfl) (fun _ _ _ h => h) (by kernel_rfl) (fun _ _ => rfl) ?_
          refine AnyS.call 31 (some 105) (.int .i64 kp) rfl rfl (by kernel_rfl) (by kernel_rfl) (by kernel_rfl) (fun _ _ _ h => h) (by kernel_rfl) 17 Tryd.f17 Tryd.func17 (by kernel_rfl) (by kernel_rfl) _ _ rfl #[.int .i64 q, .int .i64 p] (by first | (simp [Act.eval]; done) | (simp [Act.eval, Act.put]; done)) (fun V hV => (by rw [HKP.out]; exact (rkept_calls q p (by omega) hmq V).mono fun _ _ h => ⟨h.1, h.2 ▸ hV⟩)) ?_
          simp only [Act.put, List.setIfInBounds_toArray, List.set_cons_zero, List.set_cons_succ]
          refine AnyS.pure 32 (some 106) (v := .bool false) rfl rfl (by kernel_rfl) (by kernel_rfl) (by kernel_rfl) (fun _ _ _ h => h) (by kernel_rfl) (fun V hV => by go_simp) ?_
          refine AnyS.pure 33 (some 107) (v := .bool false) rfl rfl (by kernel_rfl) (by kernel_rfl) (by kernel_rfl) (fun _ _ _ h => h) (by kernel_rfl) (fun V hV => by go_simp) ?_
          simp only [Act.put, List.setIfInBounds_toArray, List.set_cons_zero, List.set_cons_succ]
          refine AnyS.done (by kernel_rfl) (fun V hV => ?_) _
          have RV := Lib.hid hV.tg
          have HKC : Hid (Calls Tryd.prog 16 #[.pointer (some ⟨ta, 0, none⟩)] V fun en w' => en = .returned (.int .i64 kp) ∧ Below V.heap.size V w') := Lib.hid (by
            obtain ⟨F, h1, _⟩ := RV.out.tr
            rw [HKP.out]
            exact h1.kept_calls)
          clear hV R8 HRR HRG
          obtain ⟨d, hd⟩ : ∃ d, d = 2 * (q - p) := ⟨_, rfl⟩
          have i2 : 2 * ((q : Int) - (p : Int)) = (d : Int) := by omega
          have hd6 : (d : Int) ≤ 100 := by omega
          have HD := Lib.hid hd
          clear hd
          go_wp2_with fail
          go_loopw [16, 17] (fun mo s wx => ∃ j x : Nat, mo = .int .i64 ((d + 2 * j : Nat) : Int) ∧ s = .int .i64 x ∧ Hid (x = q / 2 ^ j) ∧ j ≤ tops q ∧ wx = V) (fun _ s _ => (intOf s).toNat)
          case atStart => exact ⟨0, q, rfl, rfl, Lib.hid (by simp), Nat.zero_le _, rfl⟩
          case round =>
            obtain ⟨j, x, rfl, rfl, HX, hj, rfl⟩ := hrel
            obtain ⟨e, he⟩ : ∃ e, e = d + 2 * j := ⟨_, rfl⟩
            have HE := Lib.hid he
            rw [← he]
            have he6 : (e : Int) ≤ 200 := by omega
            have he0 : (0 : Int) ≤ (e : Int) := by omega
            have hx0 : (0 : Int) ≤ (x : Int) := by omega
            have hxq : x ≤ q := by rw [HX.out]; exact Nat.div_le_self _ _
            have hx41 : (x : Int) ≤ 41 := by omega
            clear he
            by_cases hx : x = 0
            · subst hx
              have hjt : j = tops q := by
                rcases Nat.lt_or_ge j (tops q) with h | h
                · have := div_pos h; have := HX.out; omega
                · omega
              have hfin : ¬ (kp : Int) > (e : Int) := by have := HE.out; have := HD.out; have := HKB.out; omega
              go_wp2_with fail
              refine HKC.out.mono ?_
              rintro en w9 ⟨rfl, b9⟩
              have R9 := Lib.hid (RV.out.below b9)
              clear b9 HKC RV
              go_wp2_with fail
              have hcs : Value.int .i64 (q : Int) = .int .i64 (q : Int) := rfl
              have hms : k - ((q : Int)).toNat < k - ((i : Int)).toNat := by have := HQ.out; omega
              first
                | exact ⟨⟨p, q, rfl, rfl, hmq, hqk, R9⟩, hms⟩
                | (refine ⟨?_, hms⟩
                   repeat apply Exists.intro
                   exact ⟨⟨p, q, rfl, rfl, hmq, hqk, R9⟩, rfl⟩)
            · have hx1 : (x : Int) > 0 := by omega
              obtain ⟨h, hh⟩ : ∃ h, h = x / 2 := ⟨_, rfl⟩
              have e2 : (x : Int).tdiv 2 = (h : Int) := by rw [hh]; rfl
              have e3 : (x : Int) / 2 = (h : Int) := by rw [hh]; rfl
              have hhx : h < x := by omega
              have hjt : j < tops q := by
                rcases Nat.lt_or_ge j (tops q) with h2 | h2
                · exact h2
                · have := div_zero h2; have := HX.out; omega
              have HH : Hid (h = q / 2 ^ (j + 1)) := Lib.hid (by rw [hh, HX.out, half_div])
              clear hh
              go_wp2_with fail
              have hcs : Value.int .i64 ((e : Int) + 2) = .int .i64 ((d + 2 * (j + 1) : Nat) : Int) := by
                have : e + 2 = d + 2 * (j + 1) := by have := HE.out; omega
                rw [← this, Int.natCast_add]; rfl
              refine ⟨⟨j + 1, h, hcs, rfl, HH, by omega, trivial⟩, ?_⟩
              show ((h : Int)).toNat < ((x : Int)).toNat
              omega
        · have hpm1 : ¬ (p : Int) ≥ (m : Int) := by omega
          have hmx : max (m : Int) (p : Int) = (m : Int) := by omega
          have HFG : Hid (Calls Tryd.prog 11 #[.pointer (some ⟨ta, 0, none⟩), .int .i64 p] w4 fun en w' => en = .returned (.int .i64 14) ∧ w4 = w') := Lib.hid (by
            obtain ⟨F, h1, _⟩ := R4.out.tr
            exact h1.forget_low p (by omega))
          go_wp2_with fail
          refine HFG.out.mono ?_
          rintro en w5 ⟨rfl, rfl⟩
          clear HFG k1 hy hp
          have R5 := Lib.hid R4.out
          clear R4
          go_wp2_with fail
          obtain ⟨R, hR⟩ : ∃ R, R = rtAll (leafF L) q := ⟨_, rfl⟩
          have RL : Hid (R.length = 32) := Lib.hid (by rw [hR]; exact rtAll_len (leafF_len L) q)
          have HRC : Hid ((cellsOf R).size = 32) := Lib.hid (by rw [cellsOf_size, RL.out])
          have hmq : m ≤ q := by omega
          have HRT : Hid (Calls Tryd.prog 12 #[.pointer (some ⟨ta, 0, none⟩), .int .i64 q] w4 fun en w' => en = .returned (.tuple #[.agg (cellsOf R), .int .i64 0]) ∧ Below w4.heap.size w4 w') := Lib.hid (by
            obtain ⟨F, h1, _⟩ := R5.out.tr
            rw [hR]
            exact h1.root (by omega) q (Nat.le_refl _) hmq)
          have HRR : Hid (∀ V, TxtAt V g off L → Calls Tryd.prog 13 #[.slice (some ⟨g, off, none⟩) q c0] V fun en w' => en = .returned (.string (bs R)) ∧ Below V.heap.size V w') := Lib.hid fun V hV => by
            have h1 := rroot_calls L R3.out.2.2.1 (by have := R3.out.2.1; omega) g off q (a := 0) (c := c0) V (by have := HQ.out; omega) (by have := R3.out.2.1; omega) (by omega) (R3.out.2.2.2 (by omega)) hV
            rw [hR]
            unfold rtAll
            rw [if_neg (by have := HQ.out; omega)]
            exact h1
          have HRG : Hid (∀ g1 V, Has V g1 32 (cellsOf R) → ∀ j (hj : j < R.length), V.cell? ((⟨g1, 0, none⟩ : Addr).add j) = some (.int .u8 (R[j].toNat : Int))) := Lib.hid fun g1 V hV j hj => by
            rw [Addr.add_mid, Nat.zero_add, hV.cell]
            simp [cellsOf, byteV, hj]
          obtain ⟨kp, hkp⟩ : ∃ kp, kp = keptN q m (tops q) := ⟨_, rfl⟩
          have HKP := Lib.hid hkp
          have hkpb : kp ≤ 2 * (q - m) + 2 * tops q := by rw [hkp]; exact keptN_bound hmq _
          have ht10 : tops q ≤ 10 := tops_le (by omega)
          have HKB := Lib.hid hkpb
          have hkp6 : (kp : Int) ≤ 1000 := by omega
          have hkp0 : (0 : Int) ≤ (kp : Int) := by omega
          clear hkp hR hkpb
          refine HRT.out.mono ?_
          rintro en w6 ⟨rfl, b6⟩
          have R6 := Lib.hid (R5.out.below b6)
          clear b6 HRT R5
          go_wp2_with (first
            | ((with_reducible refine at_store (.tmp 14) ?_); refine wpList_store_cells (o := ⟨none, _, _, _, _, _⟩) rfl 32 (.tmp 14) (.tmp 72) rfl w6.heap.size (cellsOf R) _ rfl rfl _ (made_at _ _ rfl) (HRC.out.symm ▸ (by kernel_rfl)) (HRC.out.symm ▸ rfl) (cellsOf_one _) ?_; intro W8 HW8 TW8;
               (have R8 : Hid (Ls w2.heap.size w ta L g off q m w6.heap.size R W8) := (by
                 have bb : Below w6.heap.size w6 W8 := ((Below.refl _ _).alloc (Nat.le_refl _) _).trans (TW8.below (by simp) (fun j hj e => by omega))
                 exact Lib.hid ⟨R6.out.below bb, HW8⟩));
               clear R6 HW8 TW8)
            | fail)
          obtain ⟨g1, hg1⟩ : ∃ g1, g1 = w6.heap.size := ⟨_, rfl⟩
          rw [← hg1] at R8 ⊢
          clear hg1
          have hqk1 : (q : Int) ≤ (k : Int) := by omega
          have hqc : (q : Int) ≤ (c0 : Int) := by omega
          refine wp_region_S (S := Ls w2.heap.size w ta L g off q m g1 R) (by kernel_rfl) (R8.out.below (Below.refl _ _).drew) ?_
          refine AnyS.pure 0 (some 74) rfl rfl (by kernel_rfl) (by kernel_rfl) (by kernel_rfl) (fun _ _ _ h => h) (by kernel_rfl) (fun _ _ => rfl) ?_
          refine AnyS.pure 1 (some 75) (v := .bool false) rfl rfl (by kernel_rfl) (by kernel_rfl) (by kernel_rfl) (fun _ _ _ h => h) (by kernel_rfl) (fun V hV => by go_simp) ?_
          simp only [Act.put, List.setIfInBounds_toArray, List.set_cons_zero, List.set_cons_succ]
          refine AnyS.pure 2 (some 76) rfl rfl (by kernel_rfl) (by kernel_rfl) (by kernel_rfl) (fun _ _ _ h => h) (by kernel_rfl) (fun _ _ => rfl) ?_
          refine AnyS.pure 3 (some 77) (v := .slice (some ⟨g1, 0, none⟩) 32 32) rfl rfl (by kernel_rfl) (by kernel_rfl) (by kernel_rfl) (fun _ _ _ h => h) (by kernel_rfl) (fun V hV => by go_simp) ?_
          simp only [Act.put, List.setIfInBounds_toArray, List.set_cons_zero, List.set_cons_succ]
          refine AnyS.pure 4 (some 78) (v := .string (bs R)) rfl rfl (by kernel_rfl) (by kernel_rfl) (by kernel_rfl) (fun _ _ _ h => h) (by kernel_rfl) (fun V hV => by have hcv := run_convert_bytes_back (P := Tryd.prog) V 35 9 5 ⟨g1, 0, none⟩ 32 R Tryd.underlying35 Tryd.underlying5 Tryd.underlying9 (fun j hj => HRG.out g1 V hV.sum j hj); rw [RL.out] at hcv; go_simp; first | done | rfl) ?_
          refine AnyS.pure 5 (some 79) rfl rfl (by kernel_rfl) (by kernel_rfl) (by kernel_rfl) (fun _ _ _ h => h) (by kernel_rfl) (fun _ _ => rfl) ?_
          simp only [Act.put, List.setIfInBounds_toArray, List.set_cons_zero, List.set_cons_succ]
          refine AnyS.pure 6 (some 80) rfl rfl (by kernel_rfl) (by kernel_rfl) (by kernel_rfl) (fun _ _ _ h => h) (by kernel_rfl) (fun _ _ => rfl) ?_
          refine AnyS.pure 7 (some 81) (v := .int .i64 q) rfl rfl (by kernel_rfl) (by kernel_rfl) (by kernel_rfl) (fun _ _ _ h => h) (by kernel_rfl) (fun V hV => by go_simp) ?_
          simp only [Act.put, List.setIfInBounds_toArray, List.set_cons_zero, List.set_cons_succ]
          refine AnyS.pure 8 (some 82) (v := .slice (some ⟨g, off, none⟩) q c0) rfl rfl (by kernel_rfl) (by kernel_rfl) (by kernel_rfl) (fun _ _ _ h => h) (by kernel_rfl) (fun V hV => by go_simp) ?_
          refine AnyS.call 9 (some 83) (.string (bs R)) rfl rfl (by kernel_rfl) (by kernel_rfl) (by kernel_rfl) (fun _ _ _ h => h) (by kernel_rfl) 13 Tryd.f13 Tryd.func13 (by kernel_rfl) (by kernel_rfl) _ _ rfl #[.slice (some ⟨g, off, none⟩) q c0] (by first | (simp [Act.eval]; done) | (simp [Act.eval, Act.put]; done)) (fun V hV => (HRR.out V hV.tg.txt).mono fun _ _ h => ⟨h.1, hV.below h.2⟩) ?_
          simp only [Act.put, List.setIfInBounds_toArray, List.set_cons_zero, List.set_cons_succ]
          refine AnyS.pure 10 (some 84) (v := .bool false) rfl rfl (by kernel_rfl) (by kernel_rfl) (by kernel_rfl) (fun _ _ _ h => h) (by kernel_rfl) (fun V hV => by have hss : ((bs R).toList == (bs R).toList) = true := (by simp); go_simp) ?_
          refine AnyS.pure 11 (some 85) (v := .bool false) rfl rfl (by kernel_rfl) (by kernel_rfl) (by kernel_rfl) (fun _ _ _ h => h) (by kernel_rfl) (fun V hV => by go_simp) ?_
          simp only [Act.put, List.setIfInBounds_toArray, List.set_cons_zero, List.set_cons_succ]
          refine AnyS.pure 12 (some 86) rfl rfl (by kernel_rfl) (by kernel_rfl) (by kernel_rfl) (fun _ _ _ h => h) (by kernel_rfl) (fun _ _ => rfl) ?_
          refine AnyS.pure 13 (some 87) rfl rfl (by kernel_rfl) (by kernel_rfl) (by kernel_rfl) (fun _ _ _ h => h) (by kernel_rfl) (fun _ _ => rfl) ?_
          simp only [Act.put, List.setIfInBounds_toArray, List.set_cons_zero, List.set_cons_succ]
          refine AnyS.call 14 (some 88) (.int .i64 m) rfl rfl (by kernel_rfl) (by kernel_rfl) (by kernel_rfl) (fun _ _ _ h => h) (by kernel_rfl) 14 Tryd.f14 Tryd.func14 (by kernel_rfl) (by kernel_rfl) _ _ rfl #[.pointer (some ⟨ta, 0, none⟩)] (by first | (simp [Act.eval]; done) | (simp [Act.eval, Act.put]; done)) (fun V hV => (by obtain ⟨F, h1, _⟩ := hV.tg.tr; exact h1.floor_calls.mono fun _ _ h => ⟨h.1, h.2 ▸ hV⟩)) ?_
          refine AnyS.pure 15 (some 89) rfl rfl (by kernel_rfl) (by kernel_rfl) (by kernel_rfl) (fun _ _ _ h => h) (by kernel_rfl) (fun _ _ => rfl) ?_
          simp only [Act.put, List.setIfInBounds_toArray, List.set_cons_zero, List.set_cons_succ]
          refine AnyS.pure 16 (some 90) (v := .bool false) rfl rfl (by kernel_rfl) (by kernel_rfl) (by kernel_rfl) (fun _ _ _ h => h) (by kernel_rfl) (fun V hV => by go_simp) ?_
          refine AnyS.pure 17 (some 91) (v := .bool false) rfl rfl (by kernel_rfl) (by kernel_rfl) (by kernel_rfl) (fun _ _ _ h => h) (by kernel_rfl) (fun V hV => by go_simp) ?_
          simp only [Act.put, List.setIfInBounds_toArray, List.set_cons_zero, List.set_cons_succ]
          refine AnyS.pure 18 (some 92) rfl rfl (by kernel_rfl) (by kernel_rfl) (by kernel_rfl) (fun _ _ _ h => h) (by kernel_rfl) (fun _ _ => rfl) ?_
          refine AnyS.pure 19 (some 93) rfl rfl (by kernel_rfl) (by kernel_rfl) (by kernel_rfl) (fun _ _ _ h => h) (by kernel_rfl) (fun _ _ => rfl) ?_
          simp only [Act.put, List.setIfInBounds_toArray, List.set_cons_zero, List.set_cons_succ]
          refine AnyS.call 20 (some 94) (.int .i64 q) rfl rfl (by kernel_rfl) (by kernel_rfl) (by kernel_rfl) (fun _ _ _ h => h) (by kernel_rfl) 15 Tryd.f15 Tryd.func15 (by kernel_rfl) (by kernel_rfl) _ _ rfl #[.pointer (some ⟨ta, 0, none⟩)] (by first | (simp [Act.eval]; done) | (simp [Act.eval, Act.put]; done)) (fun V hV => (by obtain ⟨F, h1, _⟩ := hV.tg.tr; exact h1.len_calls.mono fun _ _ h => ⟨h.1, h.2 ▸ hV⟩)) ?_
          refine AnyS.pure 21 (some 95) rfl rfl (by kernel_rfl) (by kernel_rfl) (by kernel_rfl) (fun _ _ _ h => h) (by kernel_rfl) (fun _ _ => rfl) ?_
          simp only [Act.put, List.setIfInBounds_toArray, List.set_cons_zero, List.set_cons_succ]
          refine AnyS.pure 22 (some 96) (v := .int .i64 q) rfl rfl (by kernel_rfl) (by kernel_rfl) (by kernel_rfl) (fun _ _ _ h => h) (by kernel_rfl) (fun V hV => by go_simp) ?_
          refine AnyS.pure 23 (some 97) (v := .bool false) rfl rfl (by kernel_rfl) (by kernel_rfl) (by kernel_rfl) (fun _ _ _ h => h) (by kernel_rfl) (fun V hV => by go_simp) ?_
          simp only [Act.put, List.setIfInBounds_toArray, List.set_cons_zero, List.set_cons_succ]
          refine AnyS.pure 24 (some 98) (v := .bool false) rfl rfl (by kernel_rfl) (by kernel_rfl) (by kernel_rfl) (fun _ _ _ h => h) (by kernel_rfl) (fun V hV => by go_simp) ?_
          refine AnyS.pure 25 (some 99) rfl rfl (by kernel_rfl) (by kernel_rfl) (by kernel_rfl) (fun _ _ _ h => h) (by kernel_rfl) (fun _ _ => rfl) ?_
          simp only [Act.put, List.setIfInBounds_toArray, List.set_cons_zero, List.set_cons_succ]
          refine AnyS.pure 26 (some 100) rfl rfl (by kernel_rfl) (by kernel_rfl) (by kernel_rfl) (fun _ _ _ h => h) (by kernel_rfl) (fun _ _ => rfl) ?_
          refine AnyS.call 27 (some 101) (.int .i64 kp) rfl rfl (by kernel_rfl) (by kernel_rfl) (by kernel_rfl) (fun _ _ _ h => h) (by kernel_rfl) 16 Tryd.f16 Tryd.func16 (by kernel_rfl) (by kernel_rfl) _ _ rfl #[.pointer (some ⟨ta, 0, none⟩)] (by first | (simp [Act.eval]; done) | (simp [Act.eval, Act.put]; done)) (fun V hV => (by obtain ⟨F, h1, _⟩ := hV.tg.tr; rw [HKP.out]; exact h1.kept_calls.mono fun _ _ h => ⟨h.1, hV.below h.2⟩)) ?_
          simp only [Act.put, List.setIfInBounds_toArray, List.set_cons_zero, List.set_cons_succ]
          refine AnyS.pure 28 (some 102) rfl rfl (by kernel_rfl) (by kernel_rfl) (by kernel_rfl) (fun _ _ _ h => h) (by kernel_rfl) (fun _ _ => rfl) ?_
          refine AnyS.pure 29 (some 103) (v := .int .i64 q) rfl rfl (by kernel_rfl) (by kernel_rfl) (by kernel_rfl) (fun _ _ _ h => h) (by kernel_rfl) (fun V hV => by go_simp) ?_
          simp only [Act.put, List.setIfInBounds_toArray, List.set_cons_zero, List.set_cons_succ]
          refine AnyS.pure 30 (some 104) rfl rfl (by kernel_rfl) (by kernel_rfl) (by kernel_rfl) (fun _ _ _ h => h) (by kernel_rfl) (fun _ _ => rfl) ?_
          refine AnyS.call 31 (some 105) (.int .i64 kp) rfl rfl (by kernel_rfl) (by kernel_rfl) (by kernel_rfl) (fun _ _ _ h => h) (by kernel_rfl) 17 Tryd.f17 Tryd.func17 (by kernel_rfl) (by kernel_rfl) _ _ rfl #[.int .i64 q, .int .i64 m] (by first | (simp [Act.eval]; done) | (simp [Act.eval, Act.put]; done)) (fun V hV => (by rw [HKP.out]; exact (rkept_calls q m (by omega) hmq V).mono fun _ _ h => ⟨h.1, h.2 ▸ hV⟩)) ?_
          simp only [Act.put, List.setIfInBounds_toArray, List.set_cons_zero, List.set_cons_succ]
          refine AnyS.pure 32 (some 106) (v := .bool false) rfl rfl (by kernel_rfl) (by kernel_rfl) (by kernel_rfl) (fun _ _ _ h => h) (by kernel_rfl) (fun V hV => by go_simp) ?_
          refine AnyS.pure 33 (some 107) (v := .bool false) rfl rfl (by kernel_rfl) (by kernel_rfl) (by kernel_rfl) (fun _ _ _ h => h) (by kernel_rfl) (fun V hV => by go_simp) ?_
          simp only [Act.put, List.setIfInBounds_toArray, List.set_cons_zero, List.set_cons_succ]
          refine AnyS.done (by kernel_rfl) (fun V hV => ?_) _
          have RV := Lib.hid hV.tg
          have HKC : Hid (Calls Tryd.prog 16 #[.pointer (some ⟨ta, 0, none⟩)] V fun en w' => en = .returned (.int .i64 kp) ∧ Below V.heap.size V w') := Lib.hid (by
            obtain ⟨F, h1, _⟩ := RV.out.tr
            rw [HKP.out]
            exact h1.kept_calls)
          clear hV R8 HRR HRG
          obtain ⟨d, hd⟩ : ∃ d, d = 2 * (q - m) := ⟨_, rfl⟩
          have i2 : 2 * ((q : Int) - (m : Int)) = (d : Int) := by omega
          have hd6 : (d : Int) ≤ 100 := by omega
          have HD := Lib.hid hd
          clear hd
          go_wp2_with fail
          go_loopw [16, 17] (fun mo s wx => ∃ j x : Nat, mo = .int .i64 ((d + 2 * j : Nat) : Int) ∧ s = .int .i64 x ∧ Hid (x = q / 2 ^ j) ∧ j ≤ tops q ∧ wx = V) (fun _ s _ => (intOf s).toNat)
          case atStart => exact ⟨0, q, rfl, rfl, Lib.hid (by simp), Nat.zero_le _, rfl⟩
          case round =>
            obtain ⟨j, x, rfl, rfl, HX, hj, rfl⟩ := hrel
            obtain ⟨e, he⟩ : ∃ e, e = d + 2 * j := ⟨_, rfl⟩
            have HE := Lib.hid he
            rw [← he]
            have he6 : (e : Int) ≤ 200 := by omega
            have he0 : (0 : Int) ≤ (e : Int) := by omega
            have hx0 : (0 : Int) ≤ (x : Int) := by omega
            have hxq : x ≤ q := by rw [HX.out]; exact Nat.div_le_self _ _
            have hx41 : (x : Int) ≤ 41 := by omega
            clear he
            by_cases hx : x = 0
            · subst hx
              have hjt : j = tops q := by
                rcases Nat.lt_or_ge j (tops q) with h | h
                · have := div_pos h; have := HX.out; omega
                · omega
              have hfin : ¬ (kp : Int) > (e : Int) := by have := HE.out; have := HD.out; have := HKB.out; omega
              go_wp2_with fail
              refine HKC.out.mono ?_
              rintro en w9 ⟨rfl, b9⟩
              have R9 := Lib.hid (RV.out.below b9)
              clear b9 HKC RV
              go_wp2_with fail
              have hcs : Value.int .i64 (q : Int) = .int .i64 (q : Int) := rfl
              have hms : k - ((q : Int)).toNat < k - ((i : Int)).toNat := by have := HQ.out; omega
              first
                | exact ⟨⟨m, q, rfl, rfl, hmq, hqk, R9⟩, hms⟩
                | (refine ⟨?_, hms⟩
                   repeat apply Exists.intro
                   exact ⟨⟨m, q, rfl, rfl, hmq, hqk, R9⟩, rfl⟩)
            · have hx1 : (x : Int) > 0 := by omega
              obtain ⟨h, hh⟩ : ∃ h, h = x / 2 := ⟨_, rfl⟩
              have e2 : (x : Int).tdiv 2 = (h : Int) := by rw [hh]; rfl
              have e3 : (x : Int) / 2 = (h : Int) := by rw [hh]; rfl
              have hhx : h < x := by omega
              have hjt : j < tops q := by
                rcases Nat.lt_or_ge j (tops q) with h2 | h2
                · exact h2
                · have := div_zero h2; have := HX.out; omega
              have HH : Hid (h = q / 2 ^ (j + 1)) := Lib.hid (by rw [hh, HX.out, half_div])
              clear hh
              go_wp2_with fail
              have hcs : Value.int .i64 ((e : Int) + 2) = .int .i64 ((d + 2 * (j + 1) : Nat) : Int) := by
                have : e + 2 = d + 2 * (j + 1) := by have := HE.out; omega
                rw [← this, Int.natCast_add]; rfl
              refine ⟨⟨j + 1, h, hcs, rfl, HH, by omega, trivial⟩, ?_⟩
              show ((h : Int)).toNat < ((x : Int)).toNat
              omega
      · have hl21 : ¬ (i : Int) < (len2 : Int) := by omega
        have R5 := Lib.hid R4.out
        clear R4
        go_wp2_with fail
        obtain ⟨R, hR⟩ : ∃ R, R = rtAll (leafF L) q := ⟨_, rfl⟩
        have RL : Hid (R.length = 32) := Lib.hid (by rw [hR]; exact rtAll_len (leafF_len L) q)
        have HRC : Hid ((cellsOf R).size = 32) := Lib.hid (by rw [cellsOf_size, RL.out])
        have hmq : m ≤ q := by omega
        have HRT : Hid (Calls Tryd.prog 12 #[.pointer (some ⟨ta, 0, none⟩), .int .i64 q] w4 fun en w' => en = .returned (.tuple #[.agg (cellsOf R), .int .i64 0]) ∧ Below w4.heap.size w4 w') := Lib.hid (by
          obtain ⟨F, h1, _⟩ := R5.out.tr
          rw [hR]
          exact h1.root (by omega) q (Nat.le_refl _) hmq)
        have HRR : Hid (∀ V, TxtAt V g off L → Calls Tryd.prog 13 #[.slice (some ⟨g, off, none⟩) q c0] V fun en w' => en = .returned (.string (bs R)) ∧ Below V.heap.size V w') := Lib.hid fun V hV => by
          have h1 := rroot_calls L R3.out.2.2.1 (by have := R3.out.2.1; omega) g off q (a := 0) (c := c0) V (by have := HQ.out; omega) (by have := R3.out.2.1; omega) (by omega) (R3.out.2.2.2 (by omega)) hV
          rw [hR]
          unfold rtAll
          rw [if_neg (by have := HQ.out; omega)]
          exact h1
        have HRG : Hid (∀ g1 V, Has V g1 32 (cellsOf R) → ∀ j (hj : j < R.length), V.cell? ((⟨g1, 0, none⟩ : Addr).add j) = some (.int .u8 (R[j].toNat : Int))) := Lib.hid fun g1 V hV j hj => by
          rw [Addr.add_mid, Nat.zero_add, hV.cell]
          simp [cellsOf, byteV, hj]
        obtain ⟨kp, hkp⟩ : ∃ kp, kp = keptN q m (tops q) := ⟨_, rfl⟩
        have HKP := Lib.hid hkp
        have hkpb : kp ≤ 2 * (q - m) + 2 * tops q := by rw [hkp]; exact keptN_bound hmq _
        have ht10 : tops q ≤ 10 := tops_le (by omega)
        have HKB := Lib.hid hkpb
        have hkp6 : (kp : Int) ≤ 1000 := by omega
        have hkp0 : (0 : Int) ≤ (kp : Int) := by omega
        clear hkp hR hkpb
        refine HRT.out.mono ?_
        rintro en w6 ⟨rfl, b6⟩
        have R6 := Lib.hid (R5.out.below b6)
        clear b6 HRT R5
        go_wp2_with (first
          | ((with_reducible refine at_store (.tmp 14) ?_); refine wpList_store_cells (o := ⟨none, _, _, _, _, _⟩) rfl 32 (.tmp 14) (.tmp 72) rfl w6.heap.size (cellsOf R) _ rfl rfl _ (made_at _ _ rfl) (HRC.out.symm ▸ (by kernel_rfl)) (HRC.out.symm ▸ rfl) (cellsOf_one _) ?_; intro W8 HW8 TW8;
             (have R8 : Hid (Ls w2.heap.size w ta L g off q m w6.heap.size R W8) := (by
               have bb : Below w6.heap.size w6 W8 := ((Below.refl _ _).alloc (Nat.le_refl _) _).trans (TW8.below (by simp) (fun j hj e => by omega))
               exact Lib.hid ⟨R6.out.below bb, HW8⟩));
             clear R6 HW8 TW8)
          | fail)
        obtain ⟨g1, hg1⟩ : ∃ g1, g1 = w6.heap.size := ⟨_, rfl⟩
        rw [← hg1] at R8 ⊢
        clear hg1
        have hqk1 : (q : Int) ≤ (k : Int) := by omega
        have hqc : (q : Int) ≤ (c0 : Int) := by omega
        refine wp_region_S (S := Ls w2.heap.size w ta L g off q m g1 R) (by kernel_rfl) (R8.out.below (Below.refl _ _).drew) ?_
        refine AnyS.pure 0 (some 74) rfl rfl (by kernel_rfl) (by kernel_rfl) (by kernel_rfl) (fun _ _ _ h => h) (by kernel_rfl) (fun _ _ => rfl) ?_
        refine AnyS.pure 1 (some 75) (v := .bool false) rfl rfl (by kernel_rfl) (by kernel_rfl) (by kernel_rfl) (fun _ _ _ h => h) (by kernel_rfl) (fun V hV => by go_simp) ?_
        simp only [Act.put, List.setIfInBounds_toArray, List.set_cons_zero, List.set_cons_succ]
        refine AnyS.pure 2 (some 76) rfl rfl (by kernel_rfl) (by kernel_rfl) (by kernel_rfl) (fun _ _ _ h => h) (by kernel_rfl) (fun _ _ => rfl) ?_
        refine AnyS.pure 3 (some 77) (v := .slice (some ⟨g1, 0, none⟩) 32 32) rfl rfl (by kernel_rfl) (by kernel_rfl) (by kernel_rfl) (fun _ _ _ h => h) (by kernel_rfl) (fun V hV => by go_simp) ?_
        simp only [Act.put, List.setIfInBounds_toArray, List.set_cons_zero, List.set_cons_succ]
        refine AnyS.pure 4 (some 78) (v := .string (bs R)) rfl rfl (by kernel_rfl) (by kernel_rfl) (by kernel_rfl) (fun _ _ _ h => h) (by kernel_rfl) (fun V hV => by have hcv := run_convert_bytes_back (P := Tryd.prog) V 35 9 5 ⟨g1, 0, none⟩ 32 R Tryd.underlying35 Tryd.underlying5 Tryd.underlying9 (fun j hj => HRG.out g1 V hV.sum j hj); rw [RL.out] at hcv; go_simp; first | done | rfl) ?_
        refine AnyS.pure 5 (some 79) rfl rfl (by kernel_rfl) (by kernel_rfl) (by kernel_rfl) (fun _ _ _ h => h) (by kernel_rfl) (fun _ _ => rfl) ?_
        simp only [Act.put, List.setIfInBounds_toArray, List.set_cons_zero, List.set_cons_succ]
        refine AnyS.pure 6 (some 80) rfl rfl (by kernel_rfl) (by kernel_rfl) (by kernel_rfl) (fun _ _ _ h => h) (by kernel_rfl) (fun _ _ => rfl) ?_
        refine AnyS.pure 7 (some 81) (v := .int .i64 q) rfl rfl (by kernel_rfl) (by kernel_rfl) (by kernel_rfl) (fun _ _ _ h => h) (by kernel_rfl) (fun V hV => by go_simp) ?_
        simp only [Act.put, List.setIfInBounds_toArray, List.set_cons_zero, List.set_cons_succ]
        refine AnyS.pure 8 (some 82) (v := .slice (some ⟨g, off, none⟩) q c0) rfl rfl (by kernel_rfl) (by kernel_rfl) (by kernel_rfl) (fun _ _ _ h => h) (by kernel_rfl) (fun V hV => by go_simp) ?_
        refine AnyS.call 9 (some 83) (.string (bs R)) rfl rfl (by kernel_rfl) (by kernel_rfl) (by kernel_rfl) (fun _ _ _ h => h) (by kernel_rfl) 13 Tryd.f13 Tryd.func13 (by kernel_rfl) (by kernel_rfl) _ _ rfl #[.slice (some ⟨g, off, none⟩) q c0] (by first | (simp [Act.eval]; done) | (simp [Act.eval, Act.put]; done)) (fun V hV => (HRR.out V hV.tg.txt).mono fun _ _ h => ⟨h.1, hV.below h.2⟩) ?_
        simp only [Act.put, List.setIfInBounds_toArray, List.set_cons_zero, List.set_cons_succ]
        refine AnyS.pure 10 (some 84) (v := .bool false) rfl rfl (by kernel_rfl) (by kernel_rfl) (by kernel_rfl) (fun _ _ _ h => h) (by kernel_rfl) (fun V hV => by have hss : ((bs R).toList == (bs R).toList) = true := (by simp); go_simp) ?_
        refine AnyS.pure 11 (some 85) (v := .bool false) rfl rfl (by kernel_rfl) (by kernel_rfl) (by kernel_rfl) (fun _ _ _ h => h) (by kernel_rfl) (fun V hV => by go_simp) ?_
        simp only [Act.put, List.setIfInBounds_toArray, List.set_cons_zero, List.set_cons_succ]
        refine AnyS.pure 12 (some 86) rfl rfl (by kernel_rfl) (by kernel_rfl) (by kernel_rfl) (fun _ _ _ h => h) (by kernel_rfl) (fun _ _ => rfl) ?_
        refine AnyS.pure 13 (some 87) rfl rfl (by kernel_rfl) (by kernel_rfl) (by kernel_rfl) (fun _ _ _ h => h) (by kernel_rfl) (fun _ _ => rfl) ?_
        simp only [Act.put, List.setIfInBounds_toArray, List.set_cons_zero, List.set_cons_succ]
        refine AnyS.call 14 (some 88) (.int .i64 m) rfl rfl (by kernel_rfl) (by kernel_rfl) (by kernel_rfl) (fun _ _ _ h => h) (by kernel_rfl) 14 Tryd.f14 Tryd.func14 (by kernel_rfl) (by kernel_rfl) _ _ rfl #[.pointer (some ⟨ta, 0, none⟩)] (by first | (simp [Act.eval]; done) | (simp [Act.eval, Act.put]; done)) (fun V hV => (by obtain ⟨F, h1, _⟩ := hV.tg.tr; exact h1.floor_calls.mono fun _ _ h => ⟨h.1, h.2 ▸ hV⟩)) ?_
        refine AnyS.pure 15 (some 89) rfl rfl (by kernel_rfl) (by kernel_rfl) (by kernel_rfl) (fun _ _ _ h => h) (by kernel_rfl) (fun _ _ => rfl) ?_
        simp only [Act.put, List.setIfInBounds_toArray, List.set_cons_zero, List.set_cons_succ]
        refine AnyS.pure 16 (some 90) (v := .bool false) rfl rfl (by kernel_rfl) (by kernel_rfl) (by kernel_rfl) (fun _ _ _ h => h) (by kernel_rfl) (fun V hV => by go_simp) ?_
        refine AnyS.pure 17 (some 91) (v := .bool false) rfl rfl (by kernel_rfl) (by kernel_rfl) (by kernel_rfl) (fun _ _ _ h => h) (by kernel_rfl) (fun V hV => by go_simp) ?_
        simp only [Act.put, List.setIfInBounds_toArray, List.set_cons_zero, List.set_cons_succ]
        refine AnyS.pure 18 (some 92) rfl rfl (by kernel_rfl) (by kernel_rfl) (by kernel_rfl) (fun _ _ _ h => h) (by kernel_rfl) (fun _ _ => rfl) ?_
        refine AnyS.pure 19 (some 93) rfl rfl (by kernel_rfl) (by kernel_rfl) (by kernel_rfl) (fun _ _ _ h => h) (by kernel_rfl) (fun _ _ => rfl) ?_
        simp only [Act.put, List.setIfInBounds_toArray, List.set_cons_zero, List.set_cons_succ]
        refine AnyS.call 20 (some 94) (.int .i64 q) rfl rfl (by kernel_rfl) (by kernel_rfl) (by kernel_rfl) (fun _ _ _ h => h) (by kernel_rfl) 15 Tryd.f15 Tryd.func15 (by kernel_rfl) (by kernel_rfl) _ _ rfl #[.pointer (some ⟨ta, 0, none⟩)] (by first | (simp [Act.eval]; done) | (simp [Act.eval, Act.put]; done)) (fun V hV => (by obtain ⟨F, h1, _⟩ := hV.tg.tr; exact h1.len_calls.mono fun _ _ h => ⟨h.1, h.2 ▸ hV⟩)) ?_
        refine AnyS.pure 21 (some 95) rfl rfl (by kernel_rfl) (by kernel_rfl) (by kernel_rfl) (fun _ _ _ h => h) (by kernel_rfl) (fun _ _ => rfl) ?_
        simp only [Act.put, List.setIfInBounds_toArray, List.set_cons_zero, List.set_cons_succ]
        refine AnyS.pure 22 (some 96) (v := .int .i64 q) rfl rfl (by kernel_rfl) (by kernel_rfl) (by kernel_rfl) (fun _ _ _ h => h) (by kernel_rfl) (fun V hV => by go_simp) ?_
        refine AnyS.pure 23 (some 97) (v := .bool false) rfl rfl (by kernel_rfl) (by kernel_rfl) (by kernel_rfl) (fun _ _ _ h => h) (by kernel_rfl) (fun V hV => by go_simp) ?_
        simp only [Act.put, List.setIfInBounds_toArray, List.set_cons_zero, List.set_cons_succ]
        refine AnyS.pure 24 (some 98) (v := .bool false) rfl rfl (by kernel_rfl) (by kernel_rfl) (by kernel_rfl) (fun _ _ _ h => h) (by kernel_rfl) (fun V hV => by go_simp) ?_
        refine AnyS.pure 25 (some 99) rfl rfl (by kernel_rfl) (by kernel_rfl) (by kernel_rfl) (fun _ _ _ h => h) (by kernel_rfl) (fun _ _ => rfl) ?_
        simp only [Act.put, List.setIfInBounds_toArray, List.set_cons_zero, List.set_cons_succ]
        refine AnyS.pure 26 (some 100) rfl rfl (by kernel_rfl) (by kernel_rfl) (by kernel_rfl) (fun _ _ _ h => h) (by kernel_rfl) (fun _ _ => rfl) ?_
        refine AnyS.call 27 (some 101) (.int .i64 kp) rfl rfl (by kernel_rfl) (by kernel_rfl) (by kernel_rfl) (fun _ _ _ h => h) (by kernel_rfl) 16 Tryd.f16 Tryd.func16 (by kernel_rfl) (by kernel_rfl) _ _ rfl #[.pointer (some ⟨ta, 0, none⟩)] (by first | (simp [Act.eval]; done) | (simp [Act.eval, Act.put]; done)) (fun V hV => (by obtain ⟨F, h1, _⟩ := hV.tg.tr; rw [HKP.out]; exact h1.kept_calls.mono fun _ _ h => ⟨h.1, hV.below h.2⟩)) ?_
        simp only [Act.put, List.setIfInBounds_toArray, List.set_cons_zero, List.set_cons_succ]
        refine AnyS.pure 28 (some 102) rfl rfl (by kernel_rfl) (by kernel_rfl) (by kernel_rfl) (fun _ _ _ h => h) (by kernel_rfl) (fun _ _ => rfl) ?_
        refine AnyS.pure 29 (some 103) (v := .int .i64 q) rfl rfl (by kernel_rfl) (by kernel_rfl) (by kernel_rfl) (fun _ _ _ h => h) (by kernel_rfl) (fun V hV => by go_simp) ?_
        simp only [Act.put, List.setIfInBounds_toArray, List.set_cons_zero, List.set_cons_succ]
        refine AnyS.pure 30 (some 104) rfl rfl (by kernel_rfl) (by kernel_rfl) (by kernel_rfl) (fun _ _ _ h => h) (by kernel_rfl) (fun _ _ => rfl) ?_
        refine AnyS.call 31 (some 105) (.int .i64 kp) rfl rfl (by kernel_rfl) (by kernel_rfl) (by kernel_rfl) (fun _ _ _ h => h) (by kernel_rfl) 17 Tryd.f17 Tryd.func17 (by kernel_rfl) (by kernel_rfl) _ _ rfl #[.int .i64 q, .int .i64 m] (by first | (simp [Act.eval]; done) | (simp [Act.eval, Act.put]; done)) (fun V hV => (by rw [HKP.out]; exact (rkept_calls q m (by omega) hmq V).mono fun _ _ h => ⟨h.1, h.2 ▸ hV⟩)) ?_
        simp only [Act.put, List.setIfInBounds_toArray, List.set_cons_zero, List.set_cons_succ]
        refine AnyS.pure 32 (some 106) (v := .bool false) rfl rfl (by kernel_rfl) (by kernel_rfl) (by kernel_rfl) (fun _ _ _ h => h) (by kernel_rfl) (fun V hV => by go_simp) ?_
        refine AnyS.pure 33 (some 107) (v := .bool false) rfl rfl (by kernel_rfl) (by kernel_rfl) (by kernel_rfl) (fun _ _ _ h => h) (by kernel_rfl) (fun V hV => by go_simp) ?_
        simp only [Act.put, List.setIfInBounds_toArray, List.set_cons_zero, List.set_cons_succ]
        refine AnyS.done (by kernel_rfl) (fun V hV => ?_) _
        have RV := Lib.hid hV.tg
        have HKC : Hid (Calls Tryd.prog 16 #[.pointer (some ⟨ta, 0, none⟩)] V fun en w' => en = .returned (.int .i64 kp) ∧ Below V.heap.size V w') := Lib.hid (by
          obtain ⟨F, h1, _⟩ := RV.out.tr
          rw [HKP.out]
          exact h1.kept_calls)
        clear hV R8 HRR HRG
        obtain ⟨d, hd⟩ : ∃ d, d = 2 * (q - m) := ⟨_, rfl⟩
        have i2 : 2 * ((q : Int) - (m : Int)) = (d : Int) := by omega
        have hd6 : (d : Int) ≤ 100 := by omega
        have HD := Lib.hid hd
        clear hd
        go_wp2_with fail
        go_loopw [16, 17] (fun mo s wx => ∃ j x : Nat, mo = .int .i64 ((d + 2 * j : Nat) : Int) ∧ s = .int .i64 x ∧ Hid (x = q / 2 ^ j) ∧ j ≤ tops q ∧ wx = V) (fun _ s _ => (intOf s).toNat)
        case atStart => exact ⟨0, q, rfl, rfl, Lib.hid (by simp), Nat.zero_le _, rfl⟩
        case round =>
          obtain ⟨j, x, rfl, rfl, HX, hj, rfl⟩ := hrel
          obtain ⟨e, he⟩ : ∃ e, e = d + 2 * j := ⟨_, rfl⟩
          have HE := Lib.hid he
          rw [← he]
          have he6 : (e : Int) ≤ 200 := by omega
          have he0 : (0 : Int) ≤ (e : Int) := by omega
          have hx0 : (0 : Int) ≤ (x : Int) := by omega
          have hxq : x ≤ q := by rw [HX.out]; exact Nat.div_le_self _ _
          have hx41 : (x : Int) ≤ 41 := by omega
          clear he
          by_cases hx : x = 0
          · subst hx
            have hjt : j = tops q := by
              rcases Nat.lt_or_ge j (tops q) with h | h
              · have := div_pos h; have := HX.out; omega
              · omega
            have hfin : ¬ (kp : Int) > (e : Int) := by have := HE.out; have := HD.out; have := HKB.out; omega
            go_wp2_with fail
            refine HKC.out.mono ?_
            rintro en w9 ⟨rfl, b9⟩
            have R9 := Lib.hid (RV.out.below b9)
            clear b9 HKC RV
            go_wp2_with fail
            have hcs : Value.int .i64 (q : Int) = .int .i64 (q : Int) := rfl
            have hms : k - ((q : Int)).toNat < k - ((i : Int)).toNat := by have := HQ.out; omega
            first
              | exact ⟨⟨m, q, rfl, rfl, hmq, hqk, R9⟩, hms⟩
              | (refine ⟨?_, hms⟩
                 repeat apply Exists.intro
                 exact ⟨⟨m, q, rfl, rfl, hmq, hqk, R9⟩, rfl⟩)
          · have hx1 : (x : Int) > 0 := by omega
            obtain ⟨h, hh⟩ : ∃ h, h = x / 2 := ⟨_, rfl⟩
            have e2 : (x : Int).tdiv 2 = (h : Int) := by rw [hh]; rfl
            have e3 : (x : Int) / 2 = (h : Int) := by rw [hh]; rfl
            have hhx : h < x := by omega
            have hjt : j < tops q := by
              rcases Nat.lt_or_ge j (tops q) with h2 | h2
              · exact h2
              · have := div_zero h2; have := HX.out; omega
            have HH : Hid (h = q / 2 ^ (j + 1)) := Lib.hid (by rw [hh, HX.out, half_div])
            clear hh
            go_wp2_with fail
            have hcs : Value.int .i64 ((e : Int) + 2) = .int .i64 ((d + 2 * (j + 1) : Nat) : Int) := by
              have : e + 2 = d + 2 * (j + 1) := by have := HE.out; omega
              rw [← this, Int.natCast_add]; rfl
            refine ⟨⟨j + 1, h, hcs, rfl, HH, by omega, trivial⟩, ?_⟩
            show ((h : Int)).toNat < ((x : Int)).toNat
            omega
    · obtain rfl : i = k := by omega
      have HFA : Hid (∀ x : Int, x < 0 ∨ x > i → (-9223372036854775808 ≤ x ∧ x ≤ 9223372036854775807) → Calls Tryd.prog 11 #[.pointer (some ⟨ta, 0, none⟩), .int .i64 x] wr fun en w' => en = .returned (.int .i64 4) ∧ wr = w') := Lib.hid fun x hx hx6 => by
        obtain ⟨F, h1, _⟩ := HS.out.tr
        exact h1.forget_arg x hx hx6
      go_wp2_with fail
      refine (HFA.out (-1) (by omega) (by omega)).mono ?_
      rintro en w5 ⟨rfl, rfl⟩
      go_wp2_with fail
      refine (HFA.out ((i : Int) + 1) (by omega) (by omega)).mono ?_
      rintro en w5 ⟨rfl, rfl⟩
      go_wp2_with fail
      go_ret
      exact ⟨rfl, HS.out.bel⟩
theorem own : ownKnob Tryd.prog.godebug = none := by kernel_rfl
theorem laidOut : laidOutB Tryd.prog = true := by kernel_rfl

set_option maxRecDepth 100000 in
theorem lifted (os : Os) (started : os.Started) (H : Type) (enc : TypeId × Value → H) :
    ReturnsInHanded {} Tryd.checked os 3 .any (fun w args => (Rows.treeGrowsSpec.pre enc Tryd.prog Tryd.f3 [] false w args ∧ laidMetH Tryd.prog Rows.treeGrowsRow.laid w) ∧ sizedMet enc Tryd.prog Tryd.f3 (OpenSpec.ofChange Rows.treeGrowsSpec) false w args)
      (Rows.treeGrowsSpec.post enc Tryd.prog Tryd.f3 false true false false) := by
  refine returnsInHanded_of_change_and (C := Tryd.checked) (X := fun w _ => laidMetH Tryd.prog Rows.treeGrowsRow.laid w) (fun _ _ _ hh h => h.of_heap hh) own started (by kernel_rfl) Tryd.func3
    (ChangeSpec.witness_shaped (enc := enc) (C := Tryd.checked) (os := os) (X := fun w _ => laidMetH Tryd.prog Rows.treeGrowsRow.laid w) false (World.doorLaid Tryd.prog 31 os) #[.slice none 0 0, .int .i64 0, .slice none 0 0] 8 rfl (door_shaped os _) (by kernel_rfl) (by kernel_rfl) (by kernel_rfl) (door_met os _)) ?_
  intro W base args ds gs before hval0 hW _ _ hL _
  have hval : ∀ (j : Nat) t v, Tryd.f3.params[j]? = some t → args[j]? = some v → Value.okWide Tryd.prog W .any base t v := hval0
  have hW' := hW
  obtain ⟨p, q, hA0, hV, rfl, _, _⟩ := hW
  have hA : DataW.TrodAll enc Tryd.prog W 0 (fun _ => true) true Tryd.f3.params.toList args.toList ds p := hA0
  rw [Tryd.params3] at hA hval
  obtain ⟨v0, vs0, d0, ds0, p0, q0, hargs, rfl, rfl, h0, r0⟩ := trodAll_cons hA
  obtain ⟨v1, vs1, d1, ds1, p1, q1, rfl, rfl, rfl, h1, r1⟩ := trodAll_cons r0
  obtain ⟨v2, vs2, d2, ds2, p2, q2, rfl, rfl, rfl, h2, r2⟩ := trodAll_cons r1
  obtain ⟨rfl, rfl, rfl⟩ := trodAll_nil r2
  obtain rfl : args = #[v0, v1, v2] := by cases args; simp_all
  obtain ⟨rfl, rfl⟩ := trodVars_none hV
  obtain ⟨a0, len0, cap0, rfl⟩ := okWide_slice Tryd.underlying22 (hval 0 22 v0 rfl rfl)
  have k0 := h0
  have lt0 : ∀ x ∈ p0, x.block < W.heap.size := by obtain ⟨m, hm⟩ := k0; exact DataW.trod_lt m _ _ _ hm
  have w0 : Arg0 W a0 len0 cap0 := opened0 h0
  obtain ⟨a1, rfl, rfl, rfl, w1⟩ := open_int Tryd.underlying3 (hval 1 3 v1 rfl rfl) h1
  obtain ⟨a2, len2, cap2, rfl⟩ := okWide_slice Tryd.underlying23 (hval 2 23 v2 rfl rfl)
  have k2 := h2
  have lt2 : ∀ x ∈ p2, x.block < W.heap.size := by obtain ⟨m, hm⟩ := k2; exact DataW.trod_lt m _ _ _ hm
  have w2 : Arg2 W a2 len2 cap2 := opened2 h2
  clear hA0 hval0
  refine (walk a0 len0 cap0 a1 a2 len2 cap2 W w0 w1 w2 (rt_of_laid (rest := []) hL)).mono fun e W' ⟨he, bel⟩ => ?_
  subst he
  exact ⟨_, rfl, _, _, _, [], _, [], hW', trodAll_mk1 (shut_bool Tryd.underlying4 _), (trodAll_cons_mk (Below.trod laidOut (by kernel_rfl) (of_decide_eq_true (by kernel_rfl)) k0 bel lt0) (trodAll_cons_mk (shut_int Tryd.underlying3 w1) (trodAll_cons_mk (Below.trod laidOut (by kernel_rfl) (of_decide_eq_true (by kernel_rfl)) k2 bel lt2) trodAll_mk0))), rfl, bel.frame _, fun h => by cases h⟩

theorem over : Rows.treeGrowsRow.holds Tryd.pinned (OpenSpec.ofChange Rows.treeGrowsSpec) :=
  OpenClaim.holds_of_wide 3 Tryd.f3 rfl rfl rfl rfl rfl rfl rfl ⟨rfl, rfl, rfl, rfl, rfl⟩ rfl rfl rfl rfl rfl (by kernel_rfl) Tryd.func3 (by kernel_rfl)
    (of_decide_eq_true (by kernel_rfl)) (by unfold Func.isWrapper; first | (rw [if_pos (by decide +kernel)]; kernel_rfl) | (rw [if_neg (by decide +kernel)]; exact ⟨rfl, rfl⟩))
    (fun os started H enc _ => lifted os started H enc)

theorem plain (f : FuncId) (fn : Func) (hf : Tryd.pinned.checked.prog.funcNamed "hindsight/hindsightlaw09.TreeGrows" = some f) (hfn : Tryd.pinned.checked.prog.funcs[f]? = some fn) :
    (true : Bool) = Tryd.pinned.checked.prog.looks [] ∧ ∀ (j : Nat) t, fn.params[j]? = some t → Tryd.pinned.checked.prog.wantsStandIn t = false := by
  obtain rfl : f = 3 := Option.some.inj ((show Tryd.prog.funcNamed "hindsight/hindsightlaw09.TreeGrows" = some 3 by kernel_rfl).symm.trans hf) |>.symm
  obtain rfl : fn = Tryd.f3 := (Option.some.inj (Tryd.func3.symm.trans hfn)).symm
  refine ⟨by kernel_rfl, fun j t ht => ?_⟩
  rw [Tryd.params3] at ht
  have hm := Array.mem_of_getElem? ht
  simp only [List.mem_toArray, List.mem_cons, List.not_mem_nil, or_false] at hm
  rcases hm with rfl | rfl | rfl
  · exact (show Tryd.prog.wantsStandIn 22 = false by kernel_rfl)
  · exact (show Tryd.prog.wantsStandIn 3 = false by kernel_rfl)
  · exact (show Tryd.prog.wantsStandIn 23 = false by kernel_rfl)

theorem card : Rows.TreeGrowsCardSaid :=
  Claim7.holds_tied_plain_at .later [] _ _ _ _ over (fun _ h => by cases h) (by kernel_rfl) (fun _ h => by cases h) treeGrows_row_tie rfl ⟨rfl, rfl⟩ (by kernel_rfl) rfl plain (by kernel_rfl)

theorem proved : Rows.TreeGrowsCardSaid := card
end Go.Proofs.YtiobdhkadbipkaaDoor.treeGrows
