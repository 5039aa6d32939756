/- PruneProves: for every list of texts and every three numbers the law answers true, and its arguments read afterwards as they did. Conditions: the row lists four package-level variables (digest's table of rounds, both tables of math/bits, errors.errorType), which the card ties to the program's text. -/
import Derived.Test.YtiobdhkadbipkaaGreatDoorY008
import Derived.Test.YtiobdhkadbipkaaGreatDoorY009
import Derived.Test.YtiobdhkadbipkaaGreatDoorY010
import Derived.Test.YtiobdhkadbipkaaGreatDoorY004
import Derived.Test.YtiobdhkadbipkaaGreatDoorY011
import Derived.Test.YtiobdhkadbipkaaGreatDoorCards
import Derived.Test.YtiobdhkadbipkaaGreatDoorTie
import Derived.ProofKit
import Derived.OpenShut
import Derived.SevenTiedAt
namespace Go.Proofs.YtiobdhkadbipkaaGreatDoor.pruneProves
open Go Go.ChangeShapes Go.WideShapes Go.ChangeAt Go.RowKit Go.Proofs.YtiobdhkadbipkaaGreatDoor.dig Go.Proofs.YtiobdhkadbipkaaGreatDoor.prn Go.Proofs.YtiobdhkadbipkaaGreatDoor.prf

def Arg0 (w : World) (a : Option Addr) (len cap : Nat) : Prop := ∃ T, ArgS w a len cap T
theorem opened0 {H : Type} {enc : TypeId × Value → H} {w : World} {spare : Nat → Bool} {held : Bool} {a : Option Addr} {len cap : Nat} {d : DataW H} {p : List MemPlace} (h : DataW.Trod enc Tryz.prog w 0 spare held 26 (.slice a len cap) d p) : Arg0 w a len cap := openedStrs h

set_option maxRecDepth 100000 in
set_option maxHeartbeats 4000000 in
theorem walk (a : Option Addr) (len cap : Nat) (n floor cut : Int) (w : World) (hA : Arg0 w a len cap) (hn : (Lit.int .i64 n).wf = true) (_ : (Lit.int .i64 floor).wf = true) (_ : (Lit.int .i64 cut).wf = true) (hP : Pw w) :
    Calls Tryz.prog 4 #[.slice a len cap, .int .i64 n, .int .i64 floor, .int .i64 cut] w fun en w' => en = .returned (.bool true) ∧ Below w.heap.size w w' := by
  obtain ⟨T, hT⟩ := hA
  have hn2 := wf_i64 hn
  obtain ⟨x, hx⟩ : ∃ x : Int, max n 0 = x := ⟨_, rfl⟩
  obtain ⟨k, hk⟩ : ∃ k : Nat, min x 24 = (k : Int) := ⟨(min x 24).toNat, by omega⟩
  have hk16 : k ≤ 24 := by omega
  have HT := Lib.hid hT
  have HP := Lib.hid hP
  have HPK := Lib.hid hP
  clear hT hP hn hn2
  go_enter Tryz.func4, Tryz.ntmps4
  go_wp2_with fail
  refine (awake_calls w HP.out).mono ?_
  rintro en w1 ⟨rfl, b1⟩
  have R1 : Hid (Pw w1 ∧ Below w.heap.size w w1 ∧ ArgS w1 a len cap T) := Lib.hid ⟨HP.out.below b1, b1, HT.out.1, HT.out.2.1, fun k hk => by
    obtain ⟨gb, go, h1, h2, h3, h4⟩ := HT.out.2.2 k hk
    exact ⟨gb, go, h1, Nat.lt_of_lt_of_le h2 b1.size, by rw [← h3]; unfold World.cell?; rw [b1.block gb h2], h4⟩⟩
  clear b1 HP HT
  go_wp2_with fail
  refine (leaves_calls a len cap T k w1 R1.out.2.2 (by omega) (by omega)).mono ?_
  rintro en w2 ⟨v, L, rfl, hs2, hlen, lo2, b2, hne⟩
  have hlen2 : L.length = k := by omega
  obtain ⟨a0, c0, rfl, hc1, hc2⟩ := hs2.1.slice
  obtain ⟨g, off, rfl⟩ : ∃ g off, a0 = some ⟨g, off, none⟩ := by
    rcases hs2.1.2 with ⟨h, _⟩ | ⟨g, off, cp, cur, h, _⟩
    · exact absurd h hne
    · simp only [Value.slice.injEq] at h; exact ⟨g, off, h.1⟩
  have hc3 : (c0 : Int) ≤ 9223372036854775807 := by unfold maxLen at hc2; omega
  rw [hlen2] at hc1 ⊢
  have hcl : (k : Int) ≤ (c0 : Int) := by omega
  have R2 : Hid (Pw w2 ∧ Below w.heap.size w w2 ∧ Strs w2 (.slice (some ⟨g, off, none⟩) L.length c0) L ∧ L.length = k) := Lib.hid ⟨R1.out.1.below b2, R1.out.2.1.trans (b2.mono R1.out.2.1.size), hs2, hlen2⟩
  clear hs2 lo2 b2 R1 hlen hlen2 hc2 hc1 hne hx hk
  go_wp2_with fail
  refine (vnew_calls w2.heap.size w2 R2.out.1.rt).mono ?_
  rintro en w3 ⟨vb, rfl, hvb, v3, b3⟩
  have R3 : Hid (Va w2.heap.size (fun j => w2.heap.size ≤ j ∧ j < w3.heap.size) w3 vb [] 0 ∧ Below w.heap.size w w3 ∧ Strs w3 (.slice (some ⟨g, off, none⟩) L.length c0) L ∧ g < w2.heap.size ∧ w2.heap.size ≤ w3.heap.size ∧ w.heap.size ≤ w2.heap.size ∧ L.length = k) :=
    Lib.hid ⟨v3.fresh w2.heap.size (fun _ h _ => h) (Nat.le_refl _), R2.out.2.1.trans (b3.mono R2.out.2.1.size), ⟨R2.out.2.2.1.1.below b3 (fun x hx => R2.out.2.2.1.1.lt hx), R2.out.2.2.1.2⟩, R2.out.2.2.1.1.lt rfl, b3.size, R2.out.2.1.size, R2.out.2.2.2⟩
  clear v3 b3 hvb R2
  have hap := R3.out.1.add (some ⟨g, off, none⟩) c0 L R3.out.2.2.1 (fun x hx e => by
    have h1 : g = x := by simpa [Value.ownBlock] using hx
    have := R3.out.2.2.2.1
    have := e.1
    omega) (by have := R3.out.2.2.2.2.2.2; simp; omega)
  rw [R3.out.2.2.2.2.2.2, List.nil_append] at hap
  have HAP := Lib.hid hap
  clear hap
  go_wp2_with fail
  refine HAP.out.mono ?_
  rintro en w4 ⟨rfl, v4, t4⟩
  have R4 : Hid ((∃ F, Va w2.heap.size F w4 vb L 0 ∧ (∀ j, F j → j < w4.heap.size)) ∧ Below w.heap.size w w4 ∧ Strs w4 (.slice (some ⟨g, off, none⟩) L.length c0) L ∧ L.length = k ∧ g < w2.heap.size ∧ w.heap.size ≤ w2.heap.size) := by
    obtain ⟨_, h2, h3, h4, h5, h6, h7⟩ := R3.out
    refine Lib.hid ⟨⟨_, v4.tight, fun j hj => hj.2⟩, h2.trans (t4.below h2.size (fun j hj e => by have := e.1; omega)), ⟨h3.1.turn t4 (fun x hx e => ?_), h3.2⟩, h7, h4, h6⟩
    have h1 : g = x := by simpa [Value.ownBlock] using hx
    have := e.1
    omega
  clear v4 t4 HAP R3
  obtain ⟨y, hy⟩ : ∃ y : Int, max floor 0 = y := ⟨_, rfl⟩
  obtain ⟨p, hp⟩ : ∃ p : Nat, min y (k : Int) = (p : Int) := ⟨(min y (k : Int)).toNat, by omega⟩
  have hpk : p ≤ k := by omega
  obtain ⟨z, hz⟩ : ∃ z : Int, max cut (p : Int) = z := ⟨_, rfl⟩
  obtain ⟨q, hq⟩ : ∃ q : Nat, min z (k : Int) = (q : Int) := ⟨(min z (k : Int)).toNat, by omega⟩
  have hqk : q ≤ k := by omega
  have hpq : p ≤ q := by omega
  have HZ := Lib.hid (show _ ∧ _ from ⟨hz, hq⟩)
  clear hz hq
  obtain ⟨F4, va4, hF4⟩ := R4.out.1
  have HKP := Lib.hid (va4.keep p (Nat.zero_le _) (by rw [R4.out.2.2.2.1]; exact hpk))
  have HF4 := Lib.hid (show _ ∧ _ from ⟨va4, hF4⟩)
  clear va4 hF4
  go_wp2_with fail
  refine HKP.out.mono ?_
  rintro en w5 ⟨rfl, v5, t5⟩
  have R5 : Hid (Va w2.heap.size (fun j => F4 j ∨ w4.heap.size ≤ j) w5 vb L p ∧ Below w.heap.size w w5 ∧ Strs w5 (.slice (some ⟨g, off, none⟩) L.length c0) L ∧ L.length = k ∧ g < w2.heap.size ∧ w.heap.size ≤ w2.heap.size) := by
    obtain ⟨_, h2, h3, h4, h5, h6⟩ := R4.out
    refine Lib.hid ⟨v5, h2.trans (t5.below h2.size (fun j hj e => by have := HF4.out.1.hF j e; omega)), ⟨h3.1.turn t5 (fun x hx e => ?_), h3.2⟩, h4, h5, h6⟩
    have h1 : g = x := by simpa [Value.ownBlock] using hx
    have := HF4.out.1.hF x e
    omega
  clear v5 t5 HKP HF4 R4 hy hp
  have hz := HZ.out.1
  have hq := HZ.out.2
  go_wp2_with fail
  refine (R5.out.1.clone q hpq (by rw [R5.out.2.2.2.1]; exact hqk)).mono ?_
  rintro en w6 ⟨vc, rfl, hvc, v6, b6⟩
  have R6 : Hid ((∃ F, Va w2.heap.size F w6 vb L p) ∧ (∃ F, Va w2.heap.size F w6 vc (L.take q) p) ∧ Below w.heap.size w w6 ∧ Strs w6 (.slice (some ⟨g, off, none⟩) L.length c0) L ∧ L.length = k) := by
    obtain ⟨h1, h2, h3, h4, h5, h6⟩ := R5.out
    exact Lib.hid ⟨⟨_, h1.below b6⟩, ⟨_, v6⟩, h2.trans (b6.mono h2.size), ⟨h3.1.below b6 (fun x hx => h3.1.lt hx), h3.2⟩, h4⟩
  clear v6 b6 hvc R5 hz hq HZ
  go_wp2_with fail
  go_name_world W7 hW7
  have R7 : Hid ((∃ F, Va w2.heap.size F W7 vb L p) ∧ (∃ F, Va w2.heap.size F W7 vc (L.take q) p) ∧ Below w.heap.size w W7 ∧ Strs W7 (.slice (some ⟨g, off, none⟩) L.length c0) L ∧ L.length = k ∧ Has W7 w6.heap.size 24 #[.pointer (some ⟨vb, 0, none⟩), .pointer (some ⟨vc, 0, none⟩)]) := by
    rw [← hW7]
    obtain ⟨⟨F1, h1⟩, ⟨F2, h2⟩, h3, h4, h5⟩ := R6.out
    exact Lib.hid ⟨⟨_, h1.alloc _⟩, ⟨_, h2.alloc _⟩, h3.alloc h3.size _, ⟨h4.1.alloc _, h4.2⟩, h5, made_at _ _ rfl⟩
  clear hW7 R6
  obtain ⟨gp, hgp⟩ : ∃ gp, gp = w6.heap.size := ⟨_, rfl⟩
  rw [← hgp] at R7 ⊢
  clear hgp
  have hp0 : (0 : Int) ≤ (p : Int) := by omega
  have hp24 : (p : Int) ≤ 24 := by omega
  go_loopw [67] (fun s wr => ∃ t : Nat, s = .int .i64 t ∧ t ≤ 2 ∧ Hid (Below W7.heap.size W7 wr)) (fun s _ => 2 - (intOf s).toNat)
  case atStart => exact ⟨0, rfl, by omega, Below.refl _ _⟩
  case round =>
    obtain ⟨t, rfl, ht, HB⟩ := hrel
    have ht0 : (0 : Int) ≤ (t : Int) := by omega
    by_cases ht2 : t < 2
    · have ht1 : (t : Int) < 2 := by omega
      obtain ⟨b, mm, hcell, hmk, hpm, hvx⟩ : ∃ b mm, W7.cell? ⟨gp, t, none⟩ = some (.pointer (some ⟨b, 0, none⟩)) ∧ mm ≤ k ∧ p ≤ mm ∧ ∃ F, Va w2.heap.size F W7 b (L.take mm) p := by
        obtain ⟨⟨F1, h1⟩, ⟨F2, h2⟩, h3, h4, h5, h6⟩ := R7.out
        have : t = 0 ∨ t = 1 := by omega
        rcases this with rfl | rfl
        · exact ⟨vb, k, h6.cell 0, Nat.le_refl _, hpk, F1, by rw [List.take_of_length_le (by omega)]; exact h1⟩
        · exact ⟨vc, q, h6.cell 1, hqk, hpq, F2, h2⟩
      have hml : (L.take mm).length = mm := by rw [List.length_take, R7.out.2.2.2.2.1]; omega
      have k0 : wr.cell? ⟨gp, t, none⟩ = some (.pointer (some ⟨b, 0, none⟩)) := by rw [← hcell]; unfold World.cell?; rw [HB.out.block gp R7.out.2.2.2.2.2.lt]
      have HVX := Lib.hid (show _ ∧ _ from ⟨hvx, hml⟩)
      clear hcell hvx hml
      have HLN : Hid (∀ V, Below W7.heap.size W7 V → Calls Tryz.prog 8 #[.pointer (some ⟨b, 0, none⟩)] V fun en w' => en = .returned (.int .i64 mm) ∧ V = w') := Lib.hid fun V hV => by
        obtain ⟨F, va⟩ := HVX.out.1
        have := (va.below hV).len_calls
        rwa [HVX.out.2] at this
      have HHD : Hid (∀ V, Below W7.heap.size W7 V → ∀ i, p ≤ i → i ≤ mm → Calls Tryz.prog 14 #[.pointer (some ⟨b, 0, none⟩), .int .i64 i] V fun en w' => en = .returned (.tuple #[.agg (headC i (rtAll (leafF (L.take mm)) i)), .nilIface]) ∧ Below V.heap.size V w') := Lib.hid fun V hV i h1 h2 => by
        obtain ⟨F, va⟩ := HVX.out.1
        exact (va.below hV).head (by rw [HVX.out.2]; omega) i h1 (by rw [HVX.out.2]; exact h2)
      have HAT : Hid (∀ V, Below W7.heap.size W7 V → ∀ i s, p ≤ i → (L.take mm)[i]? = some s → Calls Tryz.prog 15 #[.pointer (some ⟨b, 0, none⟩), .int .i64 i] V fun en w' => en = .returned (.tuple #[.string s, .nilIface]) ∧ Below V.heap.size V w') := Lib.hid fun V hV i s h1 h2 => by
        obtain ⟨F, va⟩ := HVX.out.1
        exact (va.below hV).at_ok i h1 s h2
      have HLF : Hid (∀ V, Below W7.heap.size W7 V → ∀ i j, p ≤ i → i < j → j ≤ mm → Calls Tryz.prog 16 #[.pointer (some ⟨b, 0, none⟩), .int .i64 i, .int .i64 j] V (ProofPost V 1 i j (path (leafF (L.take mm)) i 0 j))) := Lib.hid fun V hV i j h1 h2 h3 => by
        obtain ⟨F, va⟩ := HVX.out.1
        exact (va.below hV).leaf (by rw [HVX.out.2]; omega) i j (by rw [HVX.out.2]; exact h3) h2 h1
      have HPX : Hid (∀ V, Below W7.heap.size W7 V → ∀ i j, p ≤ i → i ≤ j → j ≤ mm → Calls Tryz.prog 18 #[.pointer (some ⟨b, 0, none⟩), .int .i64 i, .int .i64 j] V (ProofPost V 2 i j (stepsL (L.take mm) i j))) := Lib.hid fun V hV i j h1 h2 h3 => by
        obtain ⟨F, va⟩ := HVX.out.1
        exact (va.below hV).pfx (by rw [HVX.out.2]; omega) i j (by rw [HVX.out.2]; exact h3) h2 h1
      go_wp2_with fail
      go_loopw [15] (fun s wr2 => ∃ j : Nat, s = .int .i64 j ∧ p ≤ j ∧ j ≤ mm + 1 ∧ Hid (Below W7.heap.size W7 wr2)) (fun s _ => mm + 1 - (intOf s).toNat)
      case atStart => exact ⟨p, rfl, Nat.le_refl _, by omega, HB⟩
      case round =>
        obtain ⟨j, rfl, hpj, hj, HB2⟩ := hrel
        have hj0 : (0 : Int) ≤ (j : Int) := by omega
        have hj25 : (j : Int) ≤ 25 := by omega
        go_wp2_with fail
        refine (HLN.out _ HB2.out).mono ?_
        rintro en wx ⟨rfl, rfl⟩
        by_cases hjm : j ≤ mm
        · have hjm1 : (j : Int) ≤ (mm : Int) := by omega
          obtain ⟨R, hR⟩ : ∃ R, R = rtAll (leafF (L.take mm)) j := ⟨_, rfl⟩
          have RL : Hid (R.length = 32) := Lib.hid (by rw [hR]; exact rtAll_len (leafF_len _) j)
          have HH := Lib.hid (HHD.out _ HB2.out j hpj hjm)
          rw [← hR] at HH
          have HR := Lib.hid hR
          clear hR
          go_wp2_with fail
          refine HH.out.mono ?_
          rintro en wa ⟨rfl, ba⟩
          have Ra := Lib.hid (HB2.out.trans (ba.mono HB2.out.size))
          clear ba HH
          go_wp2_with (first
            | ((with_reducible refine at_store (.tmp 16) ?_); refine wpList_store_head (o := ⟨none, _, _, _, _, _⟩) rfl (.tmp 16) (.tmp 82) rfl wa.heap.size j 0 R (List.replicate 32 0) rfl rfl (made_at _ _ rfl) RL.out (by simp) ?_; intro Wb HWb TWb;
               (have BWb : Hid (Below wa.heap.size wa Wb ∧ Has Wb wa.heap.size 46 (headC j R)) := Lib.hid ⟨((Below.refl _ _).alloc (Nat.le_refl _) _).trans (TWb.below (by simp) (fun j hj e => by omega)), HWb⟩);
               clear HWb TWb)
            | fail)
          obtain ⟨g1, hg1⟩ : ∃ g1, g1 = wa.heap.size := ⟨_, rfl⟩
          have Rb : Hid (Below W7.heap.size W7 Wb ∧ Has Wb g1 46 (headC j R)) := Lib.hid ⟨Ra.out.trans (BWb.out.1.mono Ra.out.size), by rw [hg1]; exact BWb.out.2⟩
          rw [← hg1]
          clear hg1 Ra BWb
          go_loopw [18] (fun s wr3 => ∃ i : Nat, s = .int .i64 i ∧ p ≤ i ∧ i ≤ j ∧ Hid (Below W7.heap.size W7 wr3 ∧ Has wr3 g1 46 (headC j R))) (fun s _ => j - (intOf s).toNat)
          case atStart => exact ⟨p, rfl, Nat.le_refl _, hpj, Rb⟩
          case round =>
            obtain ⟨i, rfl, hpi, hi, HC⟩ := hrel
            clear Rb
            have hi0 : (0 : Int) ≤ (i : Int) := by omega
            by_cases hij : i < j
            · have hij1 : (i : Int) < (j : Int) := by omega
              have hik1 : (i : Int) < (k : Int) := by omega
              obtain ⟨s, hs⟩ : ∃ s, L[i]? = some s := ⟨_, List.getElem?_eq_getElem (by rw [R7.out.2.2.2.2.1]; omega)⟩
              have hs2 : (L.take mm)[i]? = some s := by rw [List.getElem?_take_of_lt (by omega)]; exact hs
              have hsz : s.size ≤ 1000000 := R7.out.2.2.2.1.2 s (List.mem_of_getElem? hs)
              obtain ⟨g', off', c', e, hgl, _, _, hcc⟩ := R7.out.2.2.2.1.1.cells (by rw [R7.out.2.2.2.2.1]; omega)
              simp only [Value.slice.injEq, Option.some.injEq, Addr.mk.injEq, and_true] at e
              obtain ⟨⟨rfl, rfl⟩, _, rfl⟩ := e
              have HCC : Hid (∀ V, Below W7.heap.size W7 V → V.cell? ⟨g, off + i, none⟩ = some (.string s)) := Lib.hid fun V hV => by
                have h1 := hcc i (.string s) (by rw [List.getElem?_map, hs]; rfl)
                rw [← h1]; unfold World.cell?; rw [hV.block g hgl]
              have HA := Lib.hid (HAT.out _ HC.out.1 i s hpi hs2)
              obtain ⟨l, hl⟩ : ∃ l, l = path (leafF (L.take mm)) i 0 j := ⟨_, rfl⟩
              obtain ⟨lm, hlm⟩ : ∃ lm, lm = l.length := ⟨_, rfl⟩
              have HLL := Lib.hid (show _ ∧ _ ∧ _ ∧ _ from ⟨hl, hlm, hs2, hsz⟩)
              clear hs hs2 hcc hgl hl hlm hsz
              go_wp2_with fail
              refine HA.out.mono ?_
              rintro en wc ⟨rfl, bc⟩
              have Rc := Lib.hid (show _ ∧ _ from ⟨HC.out.1.trans (bc.mono HC.out.1.size), HC.out.2.below bc HC.out.2.lt⟩)
              have HLF2 := Lib.hid (HLF.out wc Rc.out.1 i j hpi hij hjm)
              rw [← HLL.out.1] at HLF2
              clear bc HA HC
              go_wp2_with fail
              refine HLF2.out.mono ?_
              rintro en wd ⟨sa, sc, rfl, s1, o1, bd⟩
              rw [← HLL.out.2.1] at s1 ⊢
              have Rd := Lib.hid (show _ ∧ _ ∧ _ from ⟨Rc.out.1.trans (bd.mono Rc.out.1.size), Rc.out.2.below bd Rc.out.2.lt, s1⟩)
              clear s1 o1 bd HLF2 Rc
              have hss : (s.toList == s.toList) = true := by simp
              go_wp2_with (first
                | ((with_reducible refine at_store (.tmp 21) ?_); refine wpList_store_cells (o := ⟨none, _, _, _, _, _⟩) rfl 53 (.tmp 21) (.tmp 103) rfl wd.heap.size (prC 1 i j (.slice sa lm sc)) (prC 0 0 0 (.slice none 0 0)) rfl rfl _ (made_at _ _ rfl) (by kernel_rfl) rfl (by simp [prC, Value.oneCell']) ?_; intro We HWe TWe;
                   (have Re : Hid (Below W7.heap.size W7 We ∧ Has We g1 46 (headC j R) ∧ Seg We 44 32 (.slice sa lm sc) lm (sumsC l) ∧ Has We wd.heap.size 53 (prC 1 i j (.slice sa lm sc))) := (by
                     obtain ⟨h1, h2, h3⟩ := Rd.out
                     have bb : Below wd.heap.size wd We := ((Below.refl _ _).alloc (Nat.le_refl _) _).trans (TWe.below (by simp) (fun j hj e => by omega))
                     exact Lib.hid ⟨h1.trans (bb.mono h1.size), h2.below bb h2.lt, h3.below bb (fun x hx => h3.lt hx), HWe⟩));
                   have q0 : We.cell? ⟨wd.heap.size, 0, none⟩ = some (.int .i64 1) := Re.out.2.2.2.cell 0;
                   have q1 : We.cell? ⟨wd.heap.size, 1, none⟩ = some (.int .i64 i) := Re.out.2.2.2.cell 1;
                   have q2 : We.cell? ⟨wd.heap.size, 2, none⟩ = some (.int .i64 j) := Re.out.2.2.2.cell 2;
                   have q3 : We.cell? ⟨wd.heap.size, 3, none⟩ = some (.slice sa lm sc) := Re.out.2.2.2.cell 3;
                   have k1 := HCC.out We Re.out.1;
                   have hlh : (Instr.loadAt 46 (.pointer (some ⟨g1, 0, none⟩))).run Tryz.prog We = .ok (.agg (headC j R)) We := prf.Has.load_hd Re.out.2.1 RL.out;
                   clear HWe TWe)
                | ((with_reducible refine at_opg 123 ?_); refine wpList_load_if (o := ⟨some 123, _, _, _, _, _⟩) (by kernel_rfl) 46 (.tmp 16) rfl (.pointer (some ⟨g1, 0, none⟩)) rfl hlh ?_)
                | fail)
              have HPV : Hid (Calls Tryz.prog 17 #[.agg (prC 1 i j (.slice sa lm sc)), .string s, .agg (headC 0 (List.replicate 32 0)), .agg (headC j R)] We fun en w' => en = .returned .nilIface ∧ Below We.heap.size We w') := Lib.hid (by
                have hi2 : inclE s.data.toList i j R l.reverse = 0 := by rw [HR.out, HLL.out.1]; exact incl_path hij HLL.out.2.2.1
                refine (proves_leaf (old := List.replicate 32 0) (root := R) RL.out s i j 0 (.slice sa lm sc) We 0 (fun U hU => ?_)).mono fun en w' h => ?_
                · have sU := Re.out.2.2.1.below hU (fun x hx => Re.out.2.2.1.lt hx)
                  have hsm : Sms U (.slice sa lm sc) l.reverse := SmS.weak (by
                    refine ⟨?_, fun x hx => ?_⟩
                    · rw [List.length_reverse, List.reverse_reverse, ← HLL.out.2.1]
                      exact sU
                    · rw [HLL.out.1] at hx
                      exact path_all (leafF_len _) j i 0 x (List.mem_reverse.1 hx))
                  have h1 := incl_calls s i j R RL.out (by omega) l.reverse sa sc U (HPK.out.below (R7.out.2.2.1.trans ((Re.out.1.trans (hU.mono Re.out.1.size)).mono R7.out.2.2.1.size))).rt.rk (by rw [List.length_reverse, ← HLL.out.2.1]; exact hsm) (by have := HLL.out.2.2.2; omega)
                  rw [hi2, List.length_reverse, ← HLL.out.2.1] at h1
                  exact h1
                · obtain ⟨v, rfl, he, b⟩ := h
                  rcases he with ⟨_, rfl⟩ | ⟨h0, _⟩
                  · exact ⟨rfl, b⟩
                  · exact absurd rfl h0)
              refine HPV.out.mono ?_
              rintro en wf ⟨rfl, bf⟩
              have Rf : Hid (Below W7.heap.size W7 wf ∧ Has wf g1 46 (headC j R)) := Lib.hid ⟨Re.out.1.trans (bf.mono Re.out.1.size), Re.out.2.1.below bf Re.out.2.1.lt⟩
              clear bf Re HPV q0 q1 q2 q3 hlh k1 hss HCC Rd
              go_wp2_with fail
              have hcs : Value.int .i64 ((i : Int) + 1) = .int .i64 ((i + 1 : Nat) : Int) := by rw [Int.natCast_add]; rfl
              refine ⟨⟨i + 1, hcs, by omega, by omega, Rf⟩, ?_⟩
              show j - ((i : Int) + 1).toNat < j - ((i : Int)).toNat
              omega
            · obtain rfl : i = j := by omega
              go_wp2_with fail
              go_loopw [23] (fun s wr4 => ∃ m : Nat, s = .int .i64 m ∧ p ≤ m ∧ m ≤ i + 1 ∧ Hid (Below W7.heap.size W7 wr4 ∧ Has wr4 g1 46 (headC i R))) (fun s _ => i + 1 - (intOf s).toNat)
              case atStart => exact ⟨p, rfl, Nat.le_refl _, by omega, HC⟩
              case round =>
                obtain ⟨m, rfl, hpm2, hm, HD⟩ := hrel
                clear HC
                have hm0 : (0 : Int) ≤ (m : Int) := by omega
                by_cases hmi : m ≤ i
                · have hmi1 : (m : Int) ≤ (i : Int) := by omega
                  obtain ⟨Q, hQ⟩ : ∃ Q, Q = rtAll (leafF (L.take mm)) m := ⟨_, rfl⟩
                  have QL : Hid (Q.length = 32) := Lib.hid (by rw [hQ]; exact rtAll_len (leafF_len _) m)
                  have HH := Lib.hid (HHD.out _ HD.out.1 m hpm2 (by omega))
                  rw [← hQ] at HH
                  obtain ⟨l, hl⟩ : ∃ l, l = stepsL (L.take mm) m i := ⟨_, rfl⟩
                  obtain ⟨lm, hlm⟩ : ∃ lm, lm = l.length := ⟨_, rfl⟩
                  have HLL := Lib.hid (show _ ∧ _ ∧ _ from ⟨hl, hlm, hQ⟩)
                  clear hl hlm hQ
                  go_wp2_with fail
                  refine HH.out.mono ?_
                  rintro en wa2 ⟨rfl, ba⟩
                  have Ra := Lib.hid (show _ ∧ _ from ⟨HD.out.1.trans (ba.mono HD.out.1.size), HD.out.2.below ba HD.out.2.lt⟩)
                  clear ba HH HD
                  go_wp2_with (first
                    | ((with_reducible refine at_store (.tmp 24) ?_); refine wpList_store_head (o := ⟨none, _, _, _, _, _⟩) rfl (.tmp 24) (.tmp 137) rfl wa2.heap.size m 0 Q (List.replicate 32 0) rfl rfl (made_at _ _ rfl) QL.out (by simp) ?_; intro Wc HWc TWc;
                       (have BWc : Hid (Below wa2.heap.size wa2 Wc ∧ Has Wc wa2.heap.size 46 (headC m Q)) := Lib.hid ⟨((Below.refl _ _).alloc (Nat.le_refl _) _).trans (TWc.below (by simp) (fun j hj e => by omega)), HWc⟩);
                       clear HWc TWc)
                    | fail)
                  obtain ⟨g4, hg4⟩ : ∃ g4, g4 = wa2.heap.size := ⟨_, rfl⟩
                  have Rc : Hid (Below W7.heap.size W7 Wc ∧ Has Wc g1 46 (headC i R) ∧ Has Wc g4 46 (headC m Q)) := Lib.hid ⟨Ra.out.1.trans (BWc.out.1.mono Ra.out.1.size), Ra.out.2.below BWc.out.1 Ra.out.2.lt, by rw [hg4]; exact BWc.out.2⟩
                  have HPX2 := Lib.hid (HPX.out Wc Rc.out.1 m i hpm2 hmi hjm)
                  rw [← HLL.out.1] at HPX2
                  rw [← hg4]
                  clear hg4 Ra BWc
                  refine HPX2.out.mono ?_
                  rintro en wd ⟨sa, sc, rfl, s1, o1, bd⟩
                  rw [← HLL.out.2.1] at s1 ⊢
                  have Rd := Lib.hid (show _ ∧ _ ∧ _ ∧ _ from ⟨Rc.out.1.trans (bd.mono Rc.out.1.size), Rc.out.2.1.below bd Rc.out.2.1.lt, Rc.out.2.2.below bd Rc.out.2.2.lt, s1⟩)
                  clear s1 o1 bd HPX2 Rc
                  go_wp2_with (first
                    | ((with_reducible refine at_store (.tmp 26) ?_); refine wpList_store_cells (o := ⟨none, _, _, _, _, _⟩) rfl 53 (.tmp 26) (.tmp 144) rfl wd.heap.size (prC 2 m i (.slice sa lm sc)) (prC 0 0 0 (.slice none 0 0)) rfl rfl _ (made_at _ _ rfl) (by kernel_rfl) rfl (by simp [prC, Value.oneCell']) ?_; intro We HWe TWe;
                       (have Re : Hid (Below W7.heap.size W7 We ∧ Has We g1 46 (headC i R) ∧ Has We g4 46 (headC m Q) ∧ Seg We 44 32 (.slice sa lm sc) lm (sumsC l) ∧ Has We wd.heap.size 53 (prC 2 m i (.slice sa lm sc))) := (by
                         obtain ⟨h1, h2, h3, h4⟩ := Rd.out
                         have bb : Below wd.heap.size wd We := ((Below.refl _ _).alloc (Nat.le_refl _) _).trans (TWe.below (by simp) (fun j hj e => by omega))
                         exact Lib.hid ⟨h1.trans (bb.mono h1.size), h2.below bb h2.lt, h3.below bb h3.lt, h4.below bb (fun x hx => h4.lt hx), HWe⟩));
                       have q0 : We.cell? ⟨wd.heap.size, 0, none⟩ = some (.int .i64 2) := Re.out.2.2.2.2.cell 0;
                       have q1 : We.cell? ⟨wd.heap.size, 1, none⟩ = some (.int .i64 m) := Re.out.2.2.2.2.cell 1;
                       have q2 : We.cell? ⟨wd.heap.size, 2, none⟩ = some (.int .i64 i) := Re.out.2.2.2.2.cell 2;
                       have q3 : We.cell? ⟨wd.heap.size, 3, none⟩ = some (.slice sa lm sc) := Re.out.2.2.2.2.cell 3;
                       have hlh : (Instr.loadAt 46 (.pointer (some ⟨g1, 0, none⟩))).run Tryz.prog We = .ok (.agg (headC i R)) We := prf.Has.load_hd Re.out.2.1 RL.out;
                       have hlo : (Instr.loadAt 46 (.pointer (some ⟨g4, 0, none⟩))).run Tryz.prog We = .ok (.agg (headC m Q)) We := prf.Has.load_hd Re.out.2.2.1 QL.out;
                       clear HWe TWe)
                    | ((with_reducible refine at_opg 150 ?_); refine wpList_load_if (o := ⟨some 150, _, _, _, _, _⟩) (by kernel_rfl) 46 (.tmp 24) rfl (.pointer (some ⟨g4, 0, none⟩)) rfl hlo ?_)
                    | ((with_reducible refine at_opg 151 ?_); refine wpList_load_if (o := ⟨some 151, _, _, _, _, _⟩) (by kernel_rfl) 46 (.tmp 16) rfl (.pointer (some ⟨g1, 0, none⟩)) rfl hlh ?_)
                    | fail)
                  have HPV : Hid (Calls Tryz.prog 17 #[.agg (prC 2 m i (.slice sa lm sc)), .string ⟨#[]⟩, .agg (headC m Q), .agg (headC i R)] We fun en w' => en = .returned .nilIface ∧ Below We.heap.size We w') := Lib.hid (by
                    have hi2 : consE m Q i R l.reverse = 0 := by
                      unfold consE
                      rw [if_neg (by omega), Int.toNat_natCast, Int.toNat_natCast, HLL.out.2.2, HR.out, HLL.out.1, if_pos (elder_steps hmi)]
                    refine (proves_prefix QL.out RL.out ⟨#[]⟩ m i (.slice sa lm sc) We 0 (fun U hU => ?_)).mono fun en w' h => ?_
                    · have sU := Re.out.2.2.2.1.below hU (fun x hx => Re.out.2.2.2.1.lt hx)
                      have hsm : Sms U (.slice sa lm sc) l.reverse := SmS.weak (by
                        refine ⟨?_, fun x hx => ?_⟩
                        · rw [List.length_reverse, List.reverse_reverse, ← HLL.out.2.1]
                          exact sU
                        · rw [HLL.out.1] at hx
                          exact stepsL_all _ m i hmi x (List.mem_reverse.1 hx))
                      have h1 := cons_calls QL.out RL.out m i (by omega) l.reverse sa sc U (HPK.out.below (R7.out.2.2.1.trans ((Re.out.1.trans (hU.mono Re.out.1.size)).mono R7.out.2.2.1.size))).rt.rk (by rw [List.length_reverse, ← HLL.out.2.1]; exact hsm)
                      rw [hi2, List.length_reverse, ← HLL.out.2.1] at h1
                      exact h1
                    · obtain ⟨v, rfl, he, b⟩ := h
                      rcases he with ⟨_, rfl⟩ | ⟨h0, _⟩
                      · exact ⟨rfl, b⟩
                      · exact absurd rfl h0)
                  refine HPV.out.mono ?_
                  rintro en wf ⟨rfl, bf⟩
                  have Rf : Hid (Below W7.heap.size W7 wf ∧ Has wf g1 46 (headC i R)) := Lib.hid ⟨Re.out.1.trans (bf.mono Re.out.1.size), Re.out.2.1.below bf Re.out.2.1.lt⟩
                  clear bf Re HPV q0 q1 q2 q3 hlh hlo Rd
                  go_wp2_with fail
                  have hcs : Value.int .i64 ((m : Int) + 1) = .int .i64 ((m + 1 : Nat) : Int) := by rw [Int.natCast_add]; rfl
                  refine ⟨⟨m + 1, hcs, by omega, by omega, Rf⟩, ?_⟩
                  show i + 1 - ((m : Int) + 1).toNat < i + 1 - ((m : Int)).toNat
                  omega
                · have hmi1 : ¬ (m : Int) ≤ (i : Int) := by omega
                  have HB3 := Lib.hid HD.out.1
                  clear HD
                  go_wp2_with fail
                  have hcs : Value.int .i64 ((i : Int) + 1) = .int .i64 ((i + 1 : Nat) : Int) := by rw [Int.natCast_add]; rfl
                  have hms : mm + 1 - ((i : Int) + 1).toNat < mm + 1 - ((i : Int)).toNat := by omega
                  first
                    | exact ⟨⟨i + 1, hcs, by omega, by omega, HB3⟩, hms⟩
                    | (refine ⟨?_, hms⟩
                       repeat apply Exists.intro
                       exact ⟨⟨i + 1, hcs, by omega, by omega, HB3⟩, rfl⟩)
        · have hjm1 : ¬ (j : Int) ≤ (mm : Int) := by omega
          clear HLN HHD HAT HLF HPX HVX
          go_wp2_with fail
          have hcs : Value.int .i64 ((t : Int) + 1) = .int .i64 ((t + 1 : Nat) : Int) := by rw [Int.natCast_add]; rfl
          have hms : 2 - ((t : Int) + 1).toNat < 2 - ((t : Int)).toNat := by omega
          first
            | exact ⟨⟨t + 1, hcs, by omega, HB2⟩, hms⟩
            | (refine ⟨?_, hms⟩
               repeat apply Exists.intro
               exact ⟨⟨t + 1, hcs, by omega, HB2⟩, rfl⟩)
    · obtain rfl : t = 2 := by omega
      obtain ⟨F, va⟩ := R7.out.1
      have HQ := Lib.hid ((va.below HB.out).at_future (k : Int) (.inr (by rw [R7.out.2.2.2.2.1]; exact Int.le_refl _)))
      have HB2 := Lib.hid (R7.out.2.2.1.trans (HB.out.mono R7.out.2.2.1.size))
      clear va HB
      go_wp2_with fail
      refine HQ.out.mono ?_
      rintro en wa ⟨eb, rfl, heb, her, ba⟩
      have HB3 := Lib.hid (show _ ∧ _ from ⟨HB2.out.trans (ba.mono HB2.out.size), her⟩)
      clear heb her ba HQ HB2
      go_wp2_with fail
      refine (flt.of_calls wa.heap.size _ 13 wa (HPK.out.below HB3.out.1).et HB3.out.2).mono ?_
      rintro en wb ⟨rfl, bb⟩
      go_wp2_with fail
      go_ret
      exact ⟨rfl, HB3.out.1.trans (bb.mono HB3.out.1.size)⟩
theorem own : ownKnob Tryz.prog.godebug = none := by kernel_rfl
theorem laidOut : laidOutB Tryz.prog = true := by kernel_rfl

set_option maxRecDepth 100000 in
theorem lifted (os : Os) (started : os.Started) (H : Type) (enc : TypeId × Value → H) :
    ReturnsInHanded {} Tryz.checked os 4 .any (fun w args => (Rows.pruneProvesSpec.pre enc Tryz.prog Tryz.f4 [] false w args ∧ laidMetH Tryz.prog Rows.pruneProvesRow.laid w) ∧ sizedMet enc Tryz.prog Tryz.f4 (OpenSpec.ofChange Rows.pruneProvesSpec) false w args)
      (Rows.pruneProvesSpec.post enc Tryz.prog Tryz.f4 false true false false) := by
  refine returnsInHanded_of_change_and (C := Tryz.checked) (X := fun w _ => laidMetH Tryz.prog Rows.pruneProvesRow.laid w) (fun _ _ _ hh h => h.of_heap hh) own started (by kernel_rfl) Tryz.func4
    (ChangeSpec.witness_shaped (enc := enc) (C := Tryz.checked) (os := os) (X := fun w _ => laidMetH Tryz.prog Rows.pruneProvesRow.laid w) false (World.doorLaid Tryz.prog 31 os) #[.slice none 0 0, .int .i64 0, .int .i64 0, .int .i64 0] 8 rfl (door_shaped os _) (by kernel_rfl) (by kernel_rfl) (by kernel_rfl) (door_met os _)) ?_
  intro W base args ds gs before hval0 hW _ _ hL _
  have hval : ∀ (j : Nat) t v, Tryz.f4.params[j]? = some t → args[j]? = some v → Value.okWide Tryz.prog W .any base t v := hval0
  have hW' := hW
  obtain ⟨p, q, hA0, hV, rfl, _, _⟩ := hW
  have hA : DataW.TrodAll enc Tryz.prog W 0 (fun _ => true) true Tryz.f4.params.toList args.toList ds p := hA0
  rw [Tryz.params4] at hA hval
  obtain ⟨v0, vs0, d0, ds0, p0, q0, hargs, rfl, rfl, h0, r0⟩ := trodAll_cons hA
  obtain ⟨v1, vs1, d1, ds1, p1, q1, rfl, rfl, rfl, h1, r1⟩ := trodAll_cons r0
  obtain ⟨v2, vs2, d2, ds2, p2, q2, rfl, rfl, rfl, h2, r2⟩ := trodAll_cons r1
  obtain ⟨v3, vs3, d3, ds3, p3, q3, rfl, rfl, rfl, h3, r3⟩ := trodAll_cons r2
  obtain ⟨rfl, rfl, rfl⟩ := trodAll_nil r3
  obtain rfl : args = #[v0, v1, v2, v3] := by cases args; simp_all
  obtain ⟨rfl, rfl⟩ := trodVars_none hV
  obtain ⟨a0, len0, cap0, rfl⟩ := okWide_slice Tryz.underlying26 (hval 0 26 v0 rfl rfl)
  have k0 := h0
  have lt0 : ∀ x ∈ p0, x.block < W.heap.size := by obtain ⟨m, hm⟩ := k0; exact DataW.trod_lt m _ _ _ hm
  have w0 : Arg0 W a0 len0 cap0 := opened0 h0
  obtain ⟨a1, rfl, rfl, rfl, w1⟩ := open_int Tryz.underlying3 (hval 1 3 v1 rfl rfl) h1
  obtain ⟨a2, rfl, rfl, rfl, w2⟩ := open_int Tryz.underlying3 (hval 2 3 v2 rfl rfl) h2
  obtain ⟨a3, rfl, rfl, rfl, w3⟩ := open_int Tryz.underlying3 (hval 3 3 v3 rfl rfl) h3
  clear hA0 hval0
  refine (walk a0 len0 cap0 a1 a2 a3 W w0 w1 w2 w3 (pw_of_laid hL)).mono fun e W' ⟨he, bel⟩ => ?_
  subst he
  exact ⟨_, rfl, _, _, _, [], _, [], hW', trodAll_mk1 (shut_bool Tryz.underlying4 _), (trodAll_cons_mk (Below.trod laidOut (by kernel_rfl) (of_decide_eq_true (by kernel_rfl)) k0 bel lt0) (trodAll_cons_mk (shut_int Tryz.underlying3 w1) (trodAll_cons_mk (shut_int Tryz.underlying3 w2) (trodAll_cons_mk (shut_int Tryz.underlying3 w3) trodAll_mk0)))), rfl, bel.frame _, fun h => by cases h⟩

theorem over : Rows.pruneProvesRow.holds Tryz.pinned (OpenSpec.ofChange Rows.pruneProvesSpec) :=
  OpenClaim.holds_of_wide 4 Tryz.f4 rfl rfl rfl rfl rfl rfl rfl ⟨rfl, rfl, rfl, rfl, rfl⟩ rfl rfl rfl rfl rfl (by kernel_rfl) Tryz.func4 (by kernel_rfl)
    (of_decide_eq_true (by kernel_rfl)) (by unfold Func.isWrapper; first | (rw [if_pos (by decide +kernel)]; kernel_rfl) | (rw [if_neg (by decide +kernel)]; exact ⟨rfl, rfl⟩))
    (fun os started H enc _ => lifted os started H enc)

theorem plain (f : FuncId) (fn : Func) (hf : Tryz.pinned.checked.prog.funcNamed "hindsight/hindsightlaw12.PruneProves" = some f) (hfn : Tryz.pinned.checked.prog.funcs[f]? = some fn) :
    (true : Bool) = Tryz.pinned.checked.prog.looks [] ∧ ∀ (j : Nat) t, fn.params[j]? = some t → Tryz.pinned.checked.prog.wantsStandIn t = false := by
  obtain rfl : f = 4 := Option.some.inj ((show Tryz.prog.funcNamed "hindsight/hindsightlaw12.PruneProves" = some 4 by kernel_rfl).symm.trans hf) |>.symm
  obtain rfl : fn = Tryz.f4 := (Option.some.inj (Tryz.func4.symm.trans hfn)).symm
  refine ⟨by kernel_rfl, fun j t ht => ?_⟩
  rw [Tryz.params4] at ht
  have hm := Array.mem_of_getElem? ht
  simp only [List.mem_toArray, List.mem_cons, List.not_mem_nil, or_false] at hm
  rcases hm with rfl | rfl | rfl | rfl
  · exact (show Tryz.prog.wantsStandIn 26 = false by kernel_rfl)
  · exact (show Tryz.prog.wantsStandIn 3 = false by kernel_rfl)
  · exact (show Tryz.prog.wantsStandIn 3 = false by kernel_rfl)
  · exact (show Tryz.prog.wantsStandIn 3 = false by kernel_rfl)

theorem card : Rows.PruneProvesCardSaid :=
  Claim7.holds_tied_plain_at .later [] _ _ _ _ over (fun _ h => by cases h) (by kernel_rfl) (fun _ h => by cases h) pruneProves_row_tie rfl ⟨rfl, rfl⟩ (by kernel_rfl) rfl plain (by kernel_rfl)

theorem proved : Rows.PruneProvesCardSaid := card
end Go.Proofs.YtiobdhkadbipkaaGreatDoor.pruneProves
