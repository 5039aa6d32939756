/- PruneLeaf: for every list of texts and every two numbers the law answers true, and its arguments read afterwards as they did. Conditions: the row lists four package-level variables (digest's table of rounds, both tables of math/bits, errors.errorType), which the card ties to the program's text. -/
import Derived.Test.YtiobdhkadbipkaaDoorY008
import Derived.Test.YtiobdhkadbipkaaDoorY011
import Derived.Test.YtiobdhkadbipkaaDoorY015
import Derived.Test.YtiobdhkadbipkaaDoorY004
import Derived.Test.YtiobdhkadbipkaaDoorYInts
import Derived.Test.YtiobdhkadbipkaaDoorCards
import Derived.Test.YtiobdhkadbipkaaDoorTie
import Derived.ProofKit
import Derived.OpenShut
import Derived.SevenTiedAt
namespace Go.Proofs.YtiobdhkadbipkaaDoor.pruneLeaf
open Go Go.ChangeShapes Go.WideShapes Go.ChangeAt Go.RowKit Go.Proofs.YtiobdhkadbipkaaDoor.dig Go.Proofs.YtiobdhkadbipkaaDoor.prn Go.Proofs.YtiobdhkadbipkaaDoor.prf

def Arg0 (w : World) (a : Option Addr) (len cap : Nat) : Prop := ∃ T, ArgS w a len cap T
theorem opened0 {H : Type} {enc : TypeId × Value → H} {w : World} {spare : Nat → Bool} {held : Bool} {a : Option Addr} {len cap : Nat} {d : DataW H} {p : List MemPlace} (h : DataW.Trod enc Tryd.prog w 0 spare held 22 (.slice a len cap) d p) : Arg0 w a len cap := openedStrs h

/-- What lasts in the last region of a round. -/
structure Ls (w4 : World) (sa : Option Addr) (lm sc : Nat) (l : List (List UInt8)) (g1 g2 g o : Nat) (p m : Int) (R : List UInt8) (s : ByteArray) (V : World) : Prop where
  bel : Below w4.heap.size w4 V
  seg : Seg V 32 32 (.slice sa lm sc) lm (sumsC l)
  prf : Has V g1 58 (prC 1 p m (.slice sa lm sc))
  hd : Has V g2 48 (headC m R)
  cell : V.cell? ⟨g, o, none⟩ = some (.string s)
theorem Ls.below {w4 : World} {sa : Option Addr} {lm sc : Nat} {l : List (List UInt8)} {g1 g2 g o : Nat} {p m : Int} {R : List UInt8} {s : ByteArray} {V V' : World} (h : Ls w4 sa lm sc l g1 g2 g o p m R s V) (b : Below V.heap.size V V') : Ls w4 sa lm sc l g1 g2 g o p m R s V' :=
  ⟨h.bel.trans (b.mono h.bel.size), h.seg.below b (fun x hx => h.seg.lt hx), h.prf.below b h.prf.lt, h.hd.below b h.hd.lt, by
    rw [← h.cell]; unfold World.cell?; rw [b.block g (World.block_lt_of_cell? V _ h.cell)]⟩

set_option maxRecDepth 100000 in
set_option maxHeartbeats 4000000 in
theorem walk (a : Option Addr) (len cap : Nat) (n i : Int) (w : World) (hA : Arg0 w a len cap) (hn : (Lit.int .i64 n).wf = true) (_ : (Lit.int .i64 i).wf = true) (hP : Pw w) :
    Calls Tryd.prog 6 #[.slice a len cap, .int .i64 n, .int .i64 i] w fun en w' => en = .returned (.bool true) ∧ Below w.heap.size w w' := by
  obtain ⟨T, hT⟩ := hA
  have hn2 := wf_i64 hn
  obtain ⟨x, hx⟩ : ∃ x : Int, max n 1 = x := ⟨_, rfl⟩
  obtain ⟨k, hk⟩ : ∃ k : Nat, min x 16 = (k : Int) := ⟨(min x 16).toNat, by omega⟩
  have hk16 : k ≤ 16 := by omega
  have hk1 : 1 ≤ k := by omega
  have HT := Lib.hid hT
  have HP := Lib.hid hP
  have HPK := Lib.hid hP
  clear hT hP hn hn2
  go_enter Tryd.func6, Tryd.ntmps6
  go_wp2_with fail
  refine (awake_calls w HP.out).mono ?_
  rintro en w1 ⟨rfl, b1⟩
  have R1 : Hid (Pw w1 ∧ Below w.heap.size w w1 ∧ ArgS w1 a len cap T) := Lib.hid ⟨HP.out.below b1, b1, HT.out.1, HT.out.2.1, fun k hk => by
    obtain ⟨gb, go, h1, h2, h3, h4⟩ := HT.out.2.2 k hk
    exact ⟨gb, go, h1, Nat.lt_of_lt_of_le h2 b1.size, by rw [← h3]; unfold World.cell?; rw [b1.block gb h2], h4⟩⟩
  clear b1 HP HT
  go_wp2_with fail
  refine (leaves_calls a len cap T k w1 R1.out.2.2 (by omega) (by omega)).mono ?_
  rintro en w2 ⟨v, L, rfl, hs2, hlen, lo2, b2, hne⟩
  have hlen2 : L.length = k := by omega
  obtain ⟨a0, c0, rfl, hc1, hc2⟩ := hs2.1.slice
  obtain ⟨g, off, rfl⟩ : ∃ g off, a0 = some ⟨g, off, none⟩ := by
    rcases hs2.1.2 with ⟨h, _⟩ | ⟨g, off, cp, cur, h, _⟩
    · exact absurd h hne
    · simp only [Value.slice.injEq] at h; exact ⟨g, off, h.1⟩
  have hc3 : (c0 : Int) ≤ 9223372036854775807 := by unfold maxLen at hc2; omega
  rw [hlen2] at hc1 ⊢
  have hcl : (k : Int) ≤ (c0 : Int) := by omega
  have R2 : Hid (Pw w2 ∧ Below w.heap.size w w2 ∧ Strs w2 (.slice (some ⟨g, off, none⟩) L.length c0) L ∧ L.length = k) := Lib.hid ⟨R1.out.1.below b2, R1.out.2.1.trans (b2.mono R1.out.2.1.size), hs2, hlen2⟩
  clear hs2 lo2 b2 R1 hlen hlen2 hc2 hc1 hne hx hk
  go_wp2_with fail
  refine (vnew_calls w2.heap.size w2 R2.out.1.rt).mono ?_
  rintro en w3 ⟨vb, rfl, hvb, v3, b3⟩
  have R3 : Hid (Va w2.heap.size (fun j => w2.heap.size ≤ j ∧ j < w3.heap.size) w3 vb [] 0 ∧ Below w.heap.size w w3 ∧ Strs w3 (.slice (some ⟨g, off, none⟩) L.length c0) L ∧ g < w2.heap.size ∧ w2.heap.size ≤ w3.heap.size ∧ w.heap.size ≤ w2.heap.size ∧ L.length = k) :=
    Lib.hid ⟨v3.fresh w2.heap.size (fun _ h _ => h) (Nat.le_refl _), R2.out.2.1.trans (b3.mono R2.out.2.1.size), ⟨R2.out.2.2.1.1.below b3 (fun x hx => R2.out.2.2.1.1.lt hx), R2.out.2.2.1.2⟩, R2.out.2.2.1.1.lt rfl, b3.size, R2.out.2.1.size, R2.out.2.2.2⟩
  clear v3 b3 hvb R2
  have hap := R3.out.1.add (some ⟨g, off, none⟩) c0 L R3.out.2.2.1 (fun x hx e => by
    have h1 : g = x := by simpa [Value.ownBlock] using hx
    have := R3.out.2.2.2.1
    have := e.1
    omega) (by have := R3.out.2.2.2.2.2.2; simp; omega)
  rw [R3.out.2.2.2.2.2.2, List.nil_append] at hap
  have HAP := Lib.hid hap
  clear hap
  go_wp2_with fail
  refine HAP.out.mono ?_
  rintro en w4 ⟨rfl, v4, t4⟩
  have R4 : Hid ((∃ F, Va w2.heap.size F w4 vb L 0) ∧ Below w.heap.size w w4 ∧ Strs w4 (.slice (some ⟨g, off, none⟩) L.length c0) L ∧ L.length = k) := by
    obtain ⟨_, h2, h3, h4, h5, h6, h7⟩ := R3.out
    refine Lib.hid ⟨⟨_, v4⟩, h2.trans (t4.below h2.size (fun j hj e => by have := e.1; omega)), ⟨h3.1.turn t4 (fun x hx e => ?_), h3.2⟩, h7⟩
    have h1 : g = x := by simpa [Value.ownBlock] using hx
    have := e.1
    omega
  clear v4 t4 HAP R3
  have ha := and255 i
  obtain ⟨y, hy⟩ : ∃ y : Nat, i % 256 = (y : Int) := ⟨(i % 256).toNat, by omega⟩
  rw [hy] at ha
  obtain ⟨p, hp⟩ : ∃ p : Nat, p = y % k := ⟨_, rfl⟩
  have hpk : p < k := by rw [hp]; exact Nat.mod_lt _ (by omega)
  have hr : (y : Int).tmod (k : Int) = (p : Int) := by rw [hp]; rfl
  have hr2 : (y : Int) % (k : Int) = (p : Int) := by rw [hp]; rfl
  clear hy hp
  go_wp2_with fail
  go_loopw [9] (fun s wr => ∃ m : Nat, s = .int .i64 m ∧ m ≤ k + 1 ∧ Hid (Below w4.heap.size w4 wr)) (fun s _ => k + 1 - (intOf s).toNat)
  case atStart => exact ⟨0, rfl, by omega, Below.refl _ _⟩
  case round =>
    obtain ⟨m, rfl, hm, HB⟩ := hrel
    have hm0 : (0 : Int) ≤ (m : Int) := by omega
    have hm17 : (m : Int) ≤ 17 := by omega
    by_cases hmk : m ≤ k
    · have hmk1 : (m : Int) ≤ (k : Int) := by omega
      obtain ⟨R, hR⟩ : ∃ R, R = rtAll (leafF L) m := ⟨_, rfl⟩
      have HRL : Hid (R.length = 32) := Lib.hid (by rw [hR]; exact rtAll_len (leafF_len L) m)
      have RH : Hid (∀ V, Below w4.heap.size w4 V → Calls Tryd.prog 23 #[.pointer (some ⟨vb, 0, none⟩), .int .i64 m] V fun en w' => en = .returned (.tuple #[.agg (headC m R), .nilIface]) ∧ Below V.heap.size V w') := Lib.hid fun V h => by
        obtain ⟨F, va⟩ := R4.out.1
        rw [hR]
        exact (va.below h).head (by rw [R4.out.2.2.2]; omega) m (Nat.zero_le _) (by rw [R4.out.2.2.2]; exact hmk)
      have HR := Lib.hid hR
      clear hR
      by_cases hpm : p < m
      · have hpm1 : (p : Int) < (m : Int) := by omega
        obtain ⟨l, hl⟩ : ∃ l, l = path (leafF L) p 0 m := ⟨_, rfl⟩
        have HLF : Hid (Calls Tryd.prog 29 #[.pointer (some ⟨vb, 0, none⟩), .int .i64 p, .int .i64 m] wr (ProofPost wr 1 p m l)) := Lib.hid (by
          obtain ⟨F, va⟩ := R4.out.1
          rw [hl]
          exact (va.below HB.out).leaf (by rw [R4.out.2.2.2]; omega) p m (by rw [R4.out.2.2.2]; exact hmk) hpm (Nat.zero_le _))
        obtain ⟨lm, hlm⟩ : ∃ lm, lm = l.length := ⟨_, rfl⟩
        have HLL := Lib.hid (show _ ∧ _ from ⟨hl, hlm⟩)
        clear hl hlm
        go_wp2_with fail
        refine HLF.out.mono ?_
        rintro en wa ⟨sa, sc, rfl, s1, o1, ba⟩
        rw [← HLL.out.2] at s1 ⊢
        have Ra := Lib.hid (show _ ∧ _ from ⟨HB.out.trans (ba.mono HB.out.size), s1⟩)
        clear s1 o1 ba HB HLF
        go_wp2_with (first
          | ((with_reducible refine at_store (.tmp 10) ?_); refine wpList_store_cells (o := ⟨none, _, _, _, _, _⟩) rfl 58 (.tmp 10) (.tmp 41) rfl wa.heap.size (prC 1 p m (.slice sa lm sc)) (prC 0 0 0 (.slice none 0 0)) rfl rfl _ (made_at _ _ rfl) (by kernel_rfl) rfl (by simp [prC, Value.oneCell']) ?_; intro Wb HWb TWb;
             (have Rb : Hid (Below w4.heap.size w4 Wb ∧ Seg Wb 32 32 (.slice sa lm sc) lm (sumsC l) ∧ Has Wb wa.heap.size 58 (prC 1 p m (.slice sa lm sc))) := (by
               have bb : Below wa.heap.size wa Wb := ((Below.refl _ _).alloc (Nat.le_refl _) _).trans (TWb.below (by simp) (fun j hj e => by omega))
               exact Lib.hid ⟨Ra.out.1.trans (bb.mono Ra.out.1.size), Ra.out.2.below bb (fun x hx => Ra.out.2.lt hx), HWb⟩));
             clear HWb TWb)
          | fail)
        obtain ⟨g1, hg1⟩ : ∃ g1, g1 = wa.heap.size := ⟨_, rfl⟩
        rw [← hg1] at Rb ⊢
        clear hg1 Ra
        refine (RH.out Wb Rb.out.1).mono ?_
        rintro en wc ⟨rfl, bc⟩
        have Rc : Hid (Below w4.heap.size w4 wc ∧ Seg wc 32 32 (.slice sa lm sc) lm (sumsC l) ∧ Has wc g1 58 (prC 1 p m (.slice sa lm sc))) := Lib.hid ⟨Rb.out.1.trans (bc.mono Rb.out.1.size), Rb.out.2.1.below bc (fun x hx => Rb.out.2.1.lt hx), Rb.out.2.2.below bc Rb.out.2.2.lt⟩
        clear bc Rb
        go_wp2_with (first
          | ((with_reducible refine at_store (.tmp 12) ?_); refine wpList_store_head (o := ⟨none, _, _, _, _, _⟩) rfl (.tmp 12) (.tmp 47) rfl wc.heap.size m 0 R (List.replicate 32 0) rfl rfl (made_at _ _ rfl) HRL.out (by simp) ?_; intro Wd HWd TWd;
             (have Rd : Hid (Below w4.heap.size w4 Wd ∧ Seg Wd 32 32 (.slice sa lm sc) lm (sumsC l) ∧ Has Wd g1 58 (prC 1 p m (.slice sa lm sc)) ∧ Has Wd wc.heap.size 48 (headC m R)) := (by
               have bb : Below wc.heap.size wc Wd := ((Below.refl _ _).alloc (Nat.le_refl _) _).trans (TWd.below (by simp) (fun j hj e => by omega))
               exact Lib.hid ⟨Rc.out.1.trans (bb.mono Rc.out.1.size), Rc.out.2.1.below bb (fun x hx => Rc.out.2.1.lt hx), Rc.out.2.2.below bb Rc.out.2.2.lt, HWd⟩));
             clear HWd TWd)
          | fail)
        obtain ⟨g2, hg2⟩ : ∃ g2, g2 = wc.heap.size := ⟨_, rfl⟩
        rw [← hg2] at Rd ⊢
        clear hg2 Rc
        obtain ⟨s, hs⟩ : ∃ s, L[p]? = some s := ⟨_, List.getElem?_eq_getElem (by rw [R4.out.2.2.2]; exact hpk)⟩
        obtain ⟨g', off', c', e, hgl, _, _, hcc⟩ := R4.out.2.2.1.1.cells (by rw [R4.out.2.2.2]; omega)
        simp only [Value.slice.injEq, Option.some.injEq, Addr.mk.injEq, and_true] at e
        obtain ⟨⟨rfl, rfl⟩, _, rfl⟩ := e
        have hsz : s.size ≤ 1000000 := R4.out.2.2.1.2 s (List.mem_of_getElem? hs)
        have L0 : Hid (Ls w4 sa lm sc l g1 g2 g (off + p) p m R s Wd.drew) := Lib.hid ⟨Rd.out.1.drew, Rd.out.2.1.drew, Rd.out.2.2.1.drew, Rd.out.2.2.2.drew, by
          have h1 := hcc p (.string s) (by rw [List.getElem?_map, hs]; rfl)
          rw [← h1]; unfold World.cell?; show _ = _; rw [← Rd.out.1.block g hgl]; rfl⟩
        have HPV : Hid (∀ V, Ls w4 sa lm sc l g1 g2 g (off + p) p m R s V → Calls Tryd.prog 31 #[.agg (prC 1 p m (.slice sa lm sc)), .string s, .agg (headC 0 (List.replicate 32 0)), .agg (headC m R)] V fun en w' => en = .returned .nilIface ∧ Ls w4 sa lm sc l g1 g2 g (off + p) p m R s w') := Lib.hid fun V hV => by
          have hi : inclE s.data.toList p m R l.reverse = 0 := by rw [HR.out, HLL.out.1]; exact incl_path hpm hs
          refine (proves_leaf (old := List.replicate 32 0) (root := R) HRL.out s p m 0 (.slice sa lm sc) V 0 (fun U hU => ?_)).mono fun en w' h => ?_
          · have hsm : Sms U (.slice sa lm sc) l.reverse := SmS.weak (by
              refine ⟨?_, fun x hx => ?_⟩
              · rw [List.length_reverse, List.reverse_reverse, ← HLL.out.2]
                exact (hV.below hU).seg
              · rw [HLL.out.1] at hx
                exact path_all (leafF_len L) m p 0 x (List.mem_reverse.1 hx))
            have h1 := incl_calls s p m R HRL.out (by omega) l.reverse sa sc U (HPK.out.below (R4.out.2.1.trans ((hV.below hU).bel.mono R4.out.2.1.size))).rt.rk (by rw [List.length_reverse, ← HLL.out.2]; exact hsm) (by omega)
            rw [hi, List.length_reverse, ← HLL.out.2] at h1
            exact h1
          · obtain ⟨v, rfl, he, b⟩ := h
            rcases he with ⟨_, rfl⟩ | ⟨h0, _⟩
            · exact ⟨rfl, hV.below b⟩
            · exact absurd rfl h0
        clear hs hcc hgl Rd hr hr2 ha
        have hp0 : (0 : Int) ≤ (p : Int) := by omega
        have hpk1 : (p : Int) < (k : Int) := by omega
        refine wp_region_S (S := Ls w4 sa lm sc l g1 g2 g (off + p) p m R s) (by kernel_rfl) L0.out ?_
        clear L0
        refine AnyS.pure 0 (some 68) rfl rfl (by kernel_rfl) (by kernel_rfl) (by kernel_rfl) (fun _ _ _ h => h) (by kernel_rfl) (fun _ _ => rfl) ?_
        refine AnyS.pure 1 (some 69) (v := .bool true) rfl rfl (by kernel_rfl) (by kernel_rfl) (by kernel_rfl) (fun _ _ _ h => h) (by kernel_rfl) (fun V hV => by go_simp) ?_
        simp only [Act.put, List.setIfInBounds_toArray, List.set_cons_zero, List.set_cons_succ]
        refine AnyS.pure 2 (some 70) rfl rfl (by kernel_rfl) (by kernel_rfl) (by kernel_rfl) (fun _ _ _ h => h) (by kernel_rfl) (fun _ _ => rfl) ?_
        refine AnyS.pure 3 (some 71) (v := .agg (prC 1 p m (.slice sa lm sc))) rfl rfl (by kernel_rfl) (by kernel_rfl) (by kernel_rfl) (fun _ _ _ h => h) (by kernel_rfl) (fun V hV => exec_load 58 (.tmp 10) rfl (.pointer (some ⟨g1, 0, none⟩)) (by kernel_rfl) (run_loadAt_mid V g1 0 58 [.int .i64 1, .int .i64 p, .int .i64 m, .slice sa lm sc] _ (Has.range hV.prf) Tryd.underlying58 rfl (by kernel_rfl))) ?_
        simp only [Act.put, List.setIfInBounds_toArray, List.set_cons_zero, List.set_cons_succ]
        refine AnyS.pure 4 (some 72) rfl rfl (by kernel_rfl) (by kernel_rfl) (by kernel_rfl) (fun _ _ _ h => h) (by kernel_rfl) (fun _ _ => rfl) ?_
        refine AnyS.pure 5 (some 73) rfl rfl (by kernel_rfl) (by kernel_rfl) (by kernel_rfl) (fun _ _ _ h => h) (by kernel_rfl) (fun _ _ => rfl) ?_
        simp only [Act.put, List.setIfInBounds_toArray, List.set_cons_zero, List.set_cons_succ]
        refine AnyS.pure 6 (some 74) (v := .pointer (some ⟨g, off + p, none⟩)) rfl rfl (by kernel_rfl) (by kernel_rfl) (by kernel_rfl) (fun _ _ _ h => h) (by kernel_rfl) (fun V hV => by go_simp) ?_
        refine AnyS.pure 7 (some 75) (v := .string s) rfl rfl (by kernel_rfl) (by kernel_rfl) (by kernel_rfl) (fun _ _ _ h => h) (by kernel_rfl) (fun V hV => by have c1 := hV.cell; go_simp) ?_
        simp only [Act.put, List.setIfInBounds_toArray, List.set_cons_zero, List.set_cons_succ]
        refine AnyS.pure 8 (some 76) (v := .agg (headC 0 (List.replicate 32 0))) rfl rfl (by kernel_rfl) (by kernel_rfl) (by kernel_rfl) (fun _ _ _ h => h) (by kernel_rfl) (fun V hV => by first | (go_simp; done) | (go_simp; rfl)) ?_
        refine AnyS.pure 9 (some 77) (v := .agg (headC m R)) rfl rfl (by kernel_rfl) (by kernel_rfl) (by kernel_rfl) (fun _ _ _ h => h) (by kernel_rfl) (fun V hV => exec_load 48 (.tmp 12) rfl (.pointer (some ⟨g2, 0, none⟩)) (by kernel_rfl) (prf.Has.load_hd hV.hd HRL.out)) ?_
        simp only [Act.put, List.setIfInBounds_toArray, List.set_cons_zero, List.set_cons_succ]
        refine AnyS.call 10 (some 78) (.nilIface) rfl rfl (by kernel_rfl) (by kernel_rfl) (by kernel_rfl) (fun _ _ _ h => h) (by kernel_rfl) 31 Tryd.f31 Tryd.func31 (by kernel_rfl) (by kernel_rfl) _ _ rfl #[.agg (prC 1 p m (.slice sa lm sc)), .string s, .agg (headC 0 (List.replicate 32 0)), .agg (headC m R)] (by first | (simp [Act.eval]; done) | (simp [Act.eval, Act.put]; done)) (fun V hV => HPV.out V hV) ?_
        refine AnyS.pure 11 (some 79) (v := .bool false) rfl rfl (by kernel_rfl) (by kernel_rfl) (by kernel_rfl) (fun _ _ _ h => h) (by kernel_rfl) (fun V hV => by go_simp) ?_
        simp only [Act.put, List.setIfInBounds_toArray, List.set_cons_zero, List.set_cons_succ]
        refine AnyS.pure 12 (some 80) rfl rfl (by kernel_rfl) (by kernel_rfl) (by kernel_rfl) (fun _ _ _ h => h) (by kernel_rfl) (fun _ _ => rfl) ?_
        refine AnyS.pure 13 (some 81) (v := .pointer (some ⟨g1, 2, none⟩)) rfl rfl (by kernel_rfl) (by kernel_rfl) (by kernel_rfl) (fun _ _ _ h => h) (by kernel_rfl) (fun V hV => by go_simp) ?_
        simp only [Act.put, List.setIfInBounds_toArray, List.set_cons_zero, List.set_cons_succ]
        refine AnyS.pure 14 (some 82) (v := .int .i64 m) rfl rfl (by kernel_rfl) (by kernel_rfl) (by kernel_rfl) (fun _ _ _ h => h) (by kernel_rfl) (fun V hV => by have c1 : V.cell? ⟨g1, 2, none⟩ = some (.int .i64 m) := hV.prf.cell 2; go_simp) ?_
        refine AnyS.pure 15 (some 83) rfl rfl (by kernel_rfl) (by kernel_rfl) (by kernel_rfl) (fun _ _ _ h => h) (by kernel_rfl) (fun _ _ => rfl) ?_
        simp only [Act.put, List.setIfInBounds_toArray, List.set_cons_zero, List.set_cons_succ]
        refine AnyS.pure 16 (some 84) (v := .bool false) rfl rfl (by kernel_rfl) (by kernel_rfl) (by kernel_rfl) (fun _ _ _ h => h) (by kernel_rfl) (fun V hV => by go_simp) ?_
        refine AnyS.pure 17 (some 85) (v := .bool false) rfl rfl (by kernel_rfl) (by kernel_rfl) (by kernel_rfl) (fun _ _ _ h => h) (by kernel_rfl) (fun V hV => by go_simp) ?_
        simp only [Act.put, List.setIfInBounds_toArray, List.set_cons_zero, List.set_cons_succ]
        refine AnyS.pure 18 (some 86) rfl rfl (by kernel_rfl) (by kernel_rfl) (by kernel_rfl) (fun _ _ _ h => h) (by kernel_rfl) (fun _ _ => rfl) ?_
        refine AnyS.pure 19 (some 87) (v := .pointer (some ⟨g1, 1, none⟩)) rfl rfl (by kernel_rfl) (by kernel_rfl) (by kernel_rfl) (fun _ _ _ h => h) (by kernel_rfl) (fun V hV => by go_simp) ?_
        simp only [Act.put, List.setIfInBounds_toArray, List.set_cons_zero, List.set_cons_succ]
        refine AnyS.pure 20 (some 88) (v := .int .i64 p) rfl rfl (by kernel_rfl) (by kernel_rfl) (by kernel_rfl) (fun _ _ _ h => h) (by kernel_rfl) (fun V hV => by have c1 : V.cell? ⟨g1, 1, none⟩ = some (.int .i64 p) := hV.prf.cell 1; go_simp) ?_
        refine AnyS.pure 21 (some 89) rfl rfl (by kernel_rfl) (by kernel_rfl) (by kernel_rfl) (fun _ _ _ h => h) (by kernel_rfl) (fun _ _ => rfl) ?_
        simp only [Act.put, List.setIfInBounds_toArray, List.set_cons_zero, List.set_cons_succ]
        refine AnyS.pure 22 (some 90) (v := .bool false) rfl rfl (by kernel_rfl) (by kernel_rfl) (by kernel_rfl) (fun _ _ _ h => h) (by kernel_rfl) (fun V hV => by go_simp) ?_
        refine AnyS.pure 23 (some 91) (v := .bool false) rfl rfl (by kernel_rfl) (by kernel_rfl) (by kernel_rfl) (fun _ _ _ h => h) (by kernel_rfl) (fun V hV => by go_simp) ?_
        simp only [Act.put, List.setIfInBounds_toArray, List.set_cons_zero, List.set_cons_succ]
        refine AnyS.pure 24 (some 92) (v := .bool false) rfl rfl (by kernel_rfl) (by kernel_rfl) (by kernel_rfl) (fun _ _ _ h => h) (by kernel_rfl) (fun V hV => by go_simp) ?_
        simp only [Act.put, List.setIfInBounds_toArray, List.set_cons_zero, List.set_cons_succ]
        refine AnyS.done (by kernel_rfl) (fun V hV => ?_) _
        have HB2 := Lib.hid hV.bel
        clear hV HPV
        go_wp2_with fail
        refine ⟨⟨m + 1, by rw [Int.natCast_add]; rfl, by omega, HB2⟩, ?_⟩
        show k + 1 - ((m : Int) + 1).toNat < k + 1 - ((m : Int)).toNat
        omega
      · have hpm1 : ¬ (p : Int) < (m : Int) := by omega
        have HLF : Hid (Calls Tryd.prog 29 #[.pointer (some ⟨vb, 0, none⟩), .int .i64 p, .int .i64 m] wr (PairErr wr (.agg (prC 0 0 0 (.slice none 0 0))) leafNm p 6)) := Lib.hid (by
          obtain ⟨F, va⟩ := R4.out.1
          exact (va.below HB.out).leaf_range p m (by omega))
        go_wp2_with fail
        refine HLF.out.mono ?_
        rintro en wa ⟨eb, rfl, heb, her, ba⟩
        have hev : flt.ev [⟨eb, leafNm, (p : Int)⟩] 6 = .iface 107 (.pointer (some ⟨eb, 0, none⟩)) := rfl
        have HEV := Lib.hid hev
        rw [hev]
        clear hev
        have Ra := Lib.hid (show _ ∧ _ from ⟨HB.out.trans (ba.mono HB.out.size), her⟩)
        clear heb her ba HB HLF
        go_wp2_with (first
          | ((with_reducible refine at_store (.tmp 10) ?_); refine wpList_store_cells (o := ⟨none, _, _, _, _, _⟩) rfl 58 (.tmp 10) (.tmp 41) rfl wa.heap.size (prC 0 0 0 (.slice none 0 0)) (prC 0 0 0 (.slice none 0 0)) rfl rfl _ (made_at _ _ rfl) (by kernel_rfl) rfl (by simp [prC, Value.oneCell']) ?_; intro Wb HWb TWb;
             (have Rb : Hid (Below w4.heap.size w4 Wb ∧ flt.Er Wb.heap.size Wb [⟨eb, leafNm, p⟩] 6) := (by
               have bb : Below wa.heap.size wa Wb := ((Below.refl _ _).alloc (Nat.le_refl _) _).trans (TWb.below (by simp) (fun j hj e => by omega))
               exact Lib.hid ⟨Ra.out.1.trans (bb.mono Ra.out.1.size), (Ra.out.2.below bb (Nat.le_refl _)).more bb.size⟩));
             clear HWb TWb)
          | fail)
        clear Ra
        refine (RH.out Wb Rb.out.1).mono ?_
        rintro en wc ⟨rfl, bc⟩
        have Rc : Hid (Below w4.heap.size w4 wc ∧ flt.Er wc.heap.size wc [⟨eb, leafNm, p⟩] 6) := Lib.hid ⟨Rb.out.1.trans (bc.mono Rb.out.1.size), (Rb.out.2.below bc (Nat.le_refl _)).more bc.size⟩
        clear bc Rb
        go_wp2_with (first
          | ((with_reducible refine at_store (.tmp 12) ?_); refine wpList_store_head (o := ⟨none, _, _, _, _, _⟩) rfl (.tmp 12) (.tmp 47) rfl wc.heap.size m 0 R (List.replicate 32 0) rfl rfl (made_at _ _ rfl) HRL.out (by simp) ?_; intro Wd HWd TWd;
             (have Rd : Hid (Below w4.heap.size w4 Wd ∧ flt.Er Wd.heap.size Wd [⟨eb, leafNm, p⟩] 6) := (by
               have bb : Below wc.heap.size wc Wd := ((Below.refl _ _).alloc (Nat.le_refl _) _).trans (TWd.below (by simp) (fun j hj e => by omega))
               exact Lib.hid ⟨Rc.out.1.trans (bb.mono Rc.out.1.size), (Rc.out.2.below bb (Nat.le_refl _)).more bb.size⟩));
             clear HWd TWd)
          | fail)
        clear Rc
        have hpth := path_one (HPK.out.below (R4.out.2.1.trans (Rd.out.1.mono R4.out.2.1.size))) Rd.out.2 (by decide) (by decide) (by decide)
        rw [path_leaf_range, HEV.out] at hpth
        have HPT := Lib.hid hpth
        clear hpth
        refine HPT.out.mono ?_
        rintro en we ⟨rfl, be⟩
        have Re := Lib.hid (Rd.out.1.trans (be.mono Rd.out.1.size))
        clear be HPT Rd
        go_wp2_with fail
        refine wp_region_S (S := fun V => Below w4.heap.size w4 V) (by kernel_rfl) Re.out.drew ?_
        refine AnyS.pure 0 (some 68) rfl rfl (by kernel_rfl) (by kernel_rfl) (by kernel_rfl) (fun _ _ _ h => h) (by kernel_rfl) (fun _ _ => rfl) ?_
        refine AnyS.pure 1 (some 69) (v := .bool false) rfl rfl (by kernel_rfl) (by kernel_rfl) (by kernel_rfl) (fun _ _ _ h => h) (by kernel_rfl) (fun V hV => by go_simp) ?_
        simp only [Act.put, List.setIfInBounds_toArray, List.set_cons_zero, List.set_cons_succ]
        refine AnyS.pure 2 (some 70) rfl rfl (by kernel_rfl) (by kernel_rfl) (by kernel_rfl) (fun _ _ _ h => h) (by kernel_rfl) (fun _ _ => rfl) ?_
        refine AnyS.skip 3 (some 71) rfl rfl (by kernel_rfl) (by kernel_rfl) (by kernel_rfl) (fun _ _ _ h => h) (by kernel_rfl) ?_
        simp only [Act.put, List.setIfInBounds_toArray, List.set_cons_zero, List.set_cons_succ]
        refine AnyS.skip 4 (some 72) rfl rfl (by kernel_rfl) (by kernel_rfl) (by kernel_rfl) (fun _ _ _ h => h) (by kernel_rfl) ?_
        refine AnyS.skip 5 (some 73) rfl rfl (by kernel_rfl) (by kernel_rfl) (by kernel_rfl) (fun _ _ _ h => h) (by kernel_rfl) ?_
        simp only [Act.put, List.setIfInBounds_toArray, List.set_cons_zero, List.set_cons_succ]
        refine AnyS.skip 6 (some 74) rfl rfl (by kernel_rfl) (by kernel_rfl) (by kernel_rfl) (fun _ _ _ h => h) (by kernel_rfl) ?_
        refine AnyS.skip 7 (some 75) rfl rfl (by kernel_rfl) (by kernel_rfl) (by kernel_rfl) (fun _ _ _ h => h) (by kernel_rfl) ?_
        simp only [Act.put, List.setIfInBounds_toArray, List.set_cons_zero, List.set_cons_succ]
        refine AnyS.skip 8 (some 76) rfl rfl (by kernel_rfl) (by kernel_rfl) (by kernel_rfl) (fun _ _ _ h => h) (by kernel_rfl) ?_
        refine AnyS.skip 9 (some 77) rfl rfl (by kernel_rfl) (by kernel_rfl) (by kernel_rfl) (fun _ _ _ h => h) (by kernel_rfl) ?_
        simp only [Act.put, List.setIfInBounds_toArray, List.set_cons_zero, List.set_cons_succ]
        refine AnyS.skip 10 (some 78) rfl rfl (by kernel_rfl) (by kernel_rfl) (by kernel_rfl) (fun _ _ _ h => h) (by kernel_rfl) ?_
        refine AnyS.skip 11 (some 79) rfl rfl (by kernel_rfl) (by kernel_rfl) (by kernel_rfl) (fun _ _ _ h => h) (by kernel_rfl) ?_
        simp only [Act.put, List.setIfInBounds_toArray, List.set_cons_zero, List.set_cons_succ]
        refine AnyS.skip 12 (some 80) rfl rfl (by kernel_rfl) (by kernel_rfl) (by kernel_rfl) (fun _ _ _ h => h) (by kernel_rfl) ?_
        refine AnyS.skip 13 (some 81) rfl rfl (by kernel_rfl) (by kernel_rfl) (by kernel_rfl) (fun _ _ _ h => h) (by kernel_rfl) ?_
        simp only [Act.put, List.setIfInBounds_toArray, List.set_cons_zero, List.set_cons_succ]
        refine AnyS.skip 14 (some 82) rfl rfl (by kernel_rfl) (by kernel_rfl) (by kernel_rfl) (fun _ _ _ h => h) (by kernel_rfl) ?_
        refine AnyS.skip 15 (some 83) rfl rfl (by kernel_rfl) (by kernel_rfl) (by kernel_rfl) (fun _ _ _ h => h) (by kernel_rfl) ?_
        simp only [Act.put, List.setIfInBounds_toArray, List.set_cons_zero, List.set_cons_succ]
        refine AnyS.skip 16 (some 84) rfl rfl (by kernel_rfl) (by kernel_rfl) (by kernel_rfl) (fun _ _ _ h => h) (by kernel_rfl) ?_
        refine AnyS.skip 17 (some 85) rfl rfl (by kernel_rfl) (by kernel_rfl) (by kernel_rfl) (fun _ _ _ h => h) (by kernel_rfl) ?_
        simp only [Act.put, List.setIfInBounds_toArray, List.set_cons_zero, List.set_cons_succ]
        refine AnyS.skip 18 (some 86) rfl rfl (by kernel_rfl) (by kernel_rfl) (by kernel_rfl) (fun _ _ _ h => h) (by kernel_rfl) ?_
        refine AnyS.skip 19 (some 87) rfl rfl (by kernel_rfl) (by kernel_rfl) (by kernel_rfl) (fun _ _ _ h => h) (by kernel_rfl) ?_
        simp only [Act.put, List.setIfInBounds_toArray, List.set_cons_zero, List.set_cons_succ]
        refine AnyS.skip 20 (some 88) rfl rfl (by kernel_rfl) (by kernel_rfl) (by kernel_rfl) (fun _ _ _ h => h) (by kernel_rfl) ?_
        refine AnyS.skip 21 (some 89) rfl rfl (by kernel_rfl) (by kernel_rfl) (by kernel_rfl) (fun _ _ _ h => h) (by kernel_rfl) ?_
        simp only [Act.put, List.setIfInBounds_toArray, List.set_cons_zero, List.set_cons_succ]
        refine AnyS.skip 22 (some 90) rfl rfl (by kernel_rfl) (by kernel_rfl) (by kernel_rfl) (fun _ _ _ h => h) (by kernel_rfl) ?_
        refine AnyS.skip 23 (some 91) rfl rfl (by kernel_rfl) (by kernel_rfl) (by kernel_rfl) (fun _ _ _ h => h) (by kernel_rfl) ?_
        simp only [Act.put, List.setIfInBounds_toArray, List.set_cons_zero, List.set_cons_succ]
        refine AnyS.pure 24 (some 92) (v := .bool false) rfl rfl (by kernel_rfl) (by kernel_rfl) (by kernel_rfl) (fun _ _ _ h => h) (by kernel_rfl) (fun V hV => by go_simp) ?_
        simp only [Act.put, List.setIfInBounds_toArray, List.set_cons_zero, List.set_cons_succ]
        refine AnyS.done (by kernel_rfl) (fun V hV => ?_) _
        have HB2 := Lib.hid hV
        clear hV Re
        go_wp2_with fail
        refine ⟨⟨m + 1, by rw [Int.natCast_add]; rfl, by omega, HB2⟩, ?_⟩
        show k + 1 - ((m : Int) + 1).toNat < k + 1 - ((m : Int)).toNat
        omega
    · obtain rfl : m = k + 1 := by omega
      have hx : ¬ ((k + 1 : Nat) : Int) ≤ (k : Int) := by omega
      go_wp2_with fail
      go_ret
      exact ⟨rfl, R4.out.2.1.trans (HB.out.mono R4.out.2.1.size)⟩
theorem own : ownKnob Tryd.prog.godebug = none := by kernel_rfl
theorem laidOut : laidOutB Tryd.prog = true := by kernel_rfl

set_option maxRecDepth 100000 in
theorem lifted (os : Os) (started : os.Started) (H : Type) (enc : TypeId × Value → H) :
    ReturnsInHanded {} Tryd.checked os 6 .any (fun w args => (Rows.pruneLeafSpec.pre enc Tryd.prog Tryd.f6 [] false w args ∧ laidMetH Tryd.prog Rows.pruneLeafRow.laid w) ∧ sizedMet enc Tryd.prog Tryd.f6 (OpenSpec.ofChange Rows.pruneLeafSpec) false w args)
      (Rows.pruneLeafSpec.post enc Tryd.prog Tryd.f6 false true false false) := by
  refine returnsInHanded_of_change_and (C := Tryd.checked) (X := fun w _ => laidMetH Tryd.prog Rows.pruneLeafRow.laid w) (fun _ _ _ hh h => h.of_heap hh) own started (by kernel_rfl) Tryd.func6
    (ChangeSpec.witness_shaped (enc := enc) (C := Tryd.checked) (os := os) (X := fun w _ => laidMetH Tryd.prog Rows.pruneLeafRow.laid w) false (World.doorLaid Tryd.prog 31 os) #[.slice none 0 0, .int .i64 0, .int .i64 0] 8 rfl (door_shaped os _) (by kernel_rfl) (by kernel_rfl) (by kernel_rfl) (door_met os _)) ?_
  intro W base args ds gs before hval0 hW _ _ hL _
  have hval : ∀ (j : Nat) t v, Tryd.f6.params[j]? = some t → args[j]? = some v → Value.okWide Tryd.prog W .any base t v := hval0
  have hW' := hW
  obtain ⟨p, q, hA0, hV, rfl, _, _⟩ := hW
  have hA : DataW.TrodAll enc Tryd.prog W 0 (fun _ => true) true Tryd.f6.params.toList args.toList ds p := hA0
  rw [Tryd.params6] at hA hval
  obtain ⟨v0, vs0, d0, ds0, p0, q0, hargs, rfl, rfl, h0, r0⟩ := trodAll_cons hA
  obtain ⟨v1, vs1, d1, ds1, p1, q1, rfl, rfl, rfl, h1, r1⟩ := trodAll_cons r0
  obtain ⟨v2, vs2, d2, ds2, p2, q2, rfl, rfl, rfl, h2, r2⟩ := trodAll_cons r1
  obtain ⟨rfl, rfl, rfl⟩ := trodAll_nil r2
  obtain rfl : args = #[v0, v1, v2] := by cases args; simp_all
  obtain ⟨rfl, rfl⟩ := trodVars_none hV
  obtain ⟨a0, len0, cap0, rfl⟩ := okWide_slice Tryd.underlying22 (hval 0 22 v0 rfl rfl)
  have k0 := h0
  have lt0 : ∀ x ∈ p0, x.block < W.heap.size := by obtain ⟨m, hm⟩ := k0; exact DataW.trod_lt m _ _ _ hm
  have w0 : Arg0 W a0 len0 cap0 := opened0 h0
  obtain ⟨a1, rfl, rfl, rfl, w1⟩ := open_int Tryd.underlying3 (hval 1 3 v1 rfl rfl) h1
  obtain ⟨a2, rfl, rfl, rfl, w2⟩ := open_int Tryd.underlying3 (hval 2 3 v2 rfl rfl) h2
  clear hA0 hval0
  refine (walk a0 len0 cap0 a1 a2 W w0 w1 w2 (pw_of_laid hL)).mono fun e W' ⟨he, bel⟩ => ?_
  subst he
  exact ⟨_, rfl, _, _, _, [], _, [], hW', trodAll_mk1 (shut_bool Tryd.underlying4 _), (trodAll_cons_mk (Below.trod laidOut (by kernel_rfl) (of_decide_eq_true (by kernel_rfl)) k0 bel lt0) (trodAll_cons_mk (shut_int Tryd.underlying3 w1) (trodAll_cons_mk (shut_int Tryd.underlying3 w2) trodAll_mk0))), rfl, bel.frame _, fun h => by cases h⟩

theorem over : Rows.pruneLeafRow.holds Tryd.pinned (OpenSpec.ofChange Rows.pruneLeafSpec) :=
  OpenClaim.holds_of_wide 6 Tryd.f6 rfl rfl rfl rfl rfl rfl rfl ⟨rfl, rfl, rfl, rfl, rfl⟩ rfl rfl rfl rfl rfl (by kernel_rfl) Tryd.func6 (by kernel_rfl)
    (of_decide_eq_true (by kernel_rfl)) (by unfold Func.isWrapper; first | (rw [if_pos (by decide +kernel)]; kernel_rfl) | (rw [if_neg (by decide +kernel)]; exact ⟨rfl, rfl⟩))
    (fun os started H enc _ => lifted os started H enc)

theorem plain (f : FuncId) (fn : Func) (hf : Tryd.pinned.checked.prog.funcNamed "hindsight/hindsightlaw12.PruneLeaf" = some f) (hfn : Tryd.pinned.checked.prog.funcs[f]? = some fn) :
    (true : Bool) = Tryd.pinned.checked.prog.looks [] ∧ ∀ (j : Nat) t, fn.params[j]? = some t → Tryd.pinned.checked.prog.wantsStandIn t = false := by
  obtain rfl : f = 6 := Option.some.inj ((show Tryd.prog.funcNamed "hindsight/hindsightlaw12.PruneLeaf" = some 6 by kernel_rfl).symm.trans hf) |>.symm
  obtain rfl : fn = Tryd.f6 := (Option.some.inj (Tryd.func6.symm.trans hfn)).symm
  refine ⟨by kernel_rfl, fun j t ht => ?_⟩
  rw [Tryd.params6] at ht
  have hm := Array.mem_of_getElem? ht
  simp only [List.mem_toArray, List.mem_cons, List.not_mem_nil, or_false] at hm
  rcases hm with rfl | rfl | rfl
  · exact (show Tryd.prog.wantsStandIn 22 = false by kernel_rfl)
  · exact (show Tryd.prog.wantsStandIn 3 = false by kernel_rfl)
  · exact (show Tryd.prog.wantsStandIn 3 = false by kernel_rfl)

theorem card : Rows.PruneLeafCardSaid :=
  Claim7.holds_tied_plain_at .later [] _ _ _ _ over (fun _ h => by cases h) (by kernel_rfl) (fun _ h => by cases h) pruneLeaf_row_tie rfl ⟨rfl, rfl⟩ (by kernel_rfl) rfl plain (by kernel_rfl)

theorem proved : Rows.PruneLeafCardSaid := card
end Go.Proofs.YtiobdhkadbipkaaDoor.pruneLeaf
