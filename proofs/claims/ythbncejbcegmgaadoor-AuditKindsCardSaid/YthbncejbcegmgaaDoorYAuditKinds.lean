/- AuditKinds: for every list of texts and all numbers the law answers true, and its arguments read afterwards as they did. Conditions: the row lists three package-level variables (digest's table of rounds, both tables of math/bits), which the card ties to the program's text. -/
import Derived.Test.YthbncejbcegmgaaDoorY010
import Derived.Test.YthbncejbcegmgaaDoorY011
import Derived.Test.YthbncejbcegmgaaDoorY008
import Derived.Test.YthbncejbcegmgaaDoorCards
import Derived.Test.YthbncejbcegmgaaDoorTie
import Derived.ProofKit
import Derived.OpenShut
import Derived.SevenTiedAt
namespace Go.Proofs.YthbncejbcegmgaaDoor.auditKinds
open Go Go.ChangeShapes Go.WideShapes Go.ChangeAt Go.RowKit Go.Proofs.YthbncejbcegmgaaDoor.dig Go.Proofs.YthbncejbcegmgaaDoor.prn Go.Proofs.YthbncejbcegmgaaDoor.prf Go.Proofs.YthbncejbcegmgaaDoor.aud Go.Proofs.YthbncejbcegmgaaDoor.tree

def Arg0 (w : World) (a : Option Addr) (len cap : Nat) : Prop := ∃ T, ArgS w a len cap T
theorem opened0 {H : Type} {enc : TypeId × Value → H} {w : World} {spare : Nat → Bool} {held : Bool} {a : Option Addr} {len cap : Nat} {d : DataW H} {p : List MemPlace} (h : DataW.Trod enc Tryd.prog w 0 spare held 22 (.slice a len cap) d p) : Arg0 w a len cap := openedStrs h

theorem wpList_name {P : Program} {ops : Array Oper} {rest : List Oper} {a : Act} {w : World} {Q : Exit → Act → World → Prop} (h : ∀ W, w = W → wpList P ops Q rest a W) : wpList P ops Q rest a w := h w rfl

/-- What lasts: the vault, the document's, two proofs of its own, an elder head. -/
structure K0 (w : World) (vb gd g off c k : Nat) (L : List ByteArray) (V : World) : Prop where
  va : ∃ F, Va w.heap.size F V vb L 0
  own : Has V gd 60 #[.slice (some ⟨g, off, none⟩) k c, .int .i64 0]
  str : Strs V (.slice (some ⟨g, off, none⟩) k c) L
  bel : Below w.heap.size w V
theorem K0.below {w V V' : World} {vb gd g off c k : Nat} {L : List ByteArray} (h : K0 w vb gd g off c k L V) (b : Below V.heap.size V V') : K0 w vb gd g off c k L V' :=
  ⟨by obtain ⟨F, v⟩ := h.va; exact ⟨F, v.below b⟩, h.own.below b h.own.lt, ⟨h.str.1.below b (fun x hx => h.str.1.lt hx), h.str.2⟩, h.bel.trans (b.mono h.bel.size)⟩

/-- A proof's sums, as the slice that holds them. -/
def Sv (l : List (List UInt8)) (s : Value) (V : World) : Prop := ∃ a c, s = .slice a l.length c ∧ Sms V s l.reverse
theorem Sv.below {l : List (List UInt8)} {s : Value} {V V' : World} (h : Sv l s V) (b : Below V.heap.size V V') : Sv l s V' := by
  obtain ⟨a, c, h1, h2⟩ := h
  exact ⟨a, c, h1, h2.below b⟩
theorem Sv.of {l : List (List UInt8)} {a : Option Addr} {c : Nat} {V : World} (h : Seg V 33 32 (.slice a l.length c) l.length (sumsC l)) (hl : ∀ x ∈ l, x.length = 32) : Sv l (.slice a l.length c) V :=
  ⟨a, c, rfl, SmS.weak (by
    refine ⟨?_, fun x hx => hl x (List.mem_reverse.1 hx)⟩
    rw [List.length_reverse, List.reverse_reverse]
    exact h)⟩

structure K1 (w : World) (vb gd g off c k p : Nat) (L : List ByteArray) (g1 g2 g3 : Nat) (s1 s2 : Value) (l1 l2 : List (List UInt8)) (Q : List UInt8) (V : World) : Prop where
  k0 : K0 w vb gd g off c k L V
  p1 : Has V g1 64 (prC 1 p k s1)
  v1 : Sv l1 s1 V
  q2 : Has V g2 64 (prC 2 p k s2)
  v2 : Sv l2 s2 V
  h3 : Has V g3 38 (headC p Q)
theorem K1.below {w V V' : World} {vb gd g off c k p : Nat} {L : List ByteArray} {g1 g2 g3 : Nat} {s1 s2 : Value} {l1 l2 : List (List UInt8)} {Q : List UInt8} (h : K1 w vb gd g off c k p L g1 g2 g3 s1 s2 l1 l2 Q V) (b : Below V.heap.size V V') : K1 w vb gd g off c k p L g1 g2 g3 s1 s2 l1 l2 Q V' :=
  ⟨h.k0.below b, h.p1.below b h.p1.lt, h.v1.below b, h.q2.below b h.q2.lt, h.v2.below b, h.h3.below b h.h3.lt⟩

/-- What lasts in the last region. -/
structure K2 (w : World) (vb gd g off c k p nn : Nat) (L : List ByteArray) (s : ByteArray) (g1 g2 g3 g4 g5 g6 : Nat) (s1 s2 : Value) (l1 l2 : List (List UInt8)) (Q : List UInt8) (V : World) : Prop where
  k1 : K1 w vb gd g off c k p L g1 g2 g3 s1 s2 l1 l2 Q V
  r4 : Has V g4 64 (prC 1 p nn s1)
  s5 : Has V g5 64 (prC 2 p k s1)
  u6 : Has V g6 64 (prC 1 p k s2)
  cs : V.cell? ⟨g, off + p, none⟩ = some (.string s)
  glt : g < V.heap.size
section
variable {w V V' : World} {vb gd g off c k p nn : Nat} {L : List ByteArray} {s : ByteArray} {g1 g2 g3 g4 g5 g6 : Nat} {s1 s2 : Value} {l1 l2 : List (List UInt8)} {Q : List UInt8}
theorem K2.below (h : K2 w vb gd g off c k p nn L s g1 g2 g3 g4 g5 g6 s1 s2 l1 l2 Q V) (b : Below V.heap.size V V') : K2 w vb gd g off c k p nn L s g1 g2 g3 g4 g5 g6 s1 s2 l1 l2 Q V' :=
  ⟨h.k1.below b, h.r4.below b h.r4.lt, h.s5.below b h.s5.lt, h.u6.below b h.u6.lt, by rw [← h.cs]; unfold World.cell?; rw [b.block g h.glt], Nat.lt_of_lt_of_le h.glt b.size⟩
theorem K2.own (h : K2 w vb gd g off c k p nn L s g1 g2 g3 g4 g5 g6 s1 s2 l1 l2 Q V) : Has V gd 60 #[.slice (some ⟨g, off, none⟩) k c, .int .i64 0] := h.k1.k0.own
theorem K2.p1 (h : K2 w vb gd g off c k p nn L s g1 g2 g3 g4 g5 g6 s1 s2 l1 l2 Q V) : Has V g1 64 (prC 1 p k s1) := h.k1.p1
theorem K2.q2 (h : K2 w vb gd g off c k p nn L s g1 g2 g3 g4 g5 g6 s1 s2 l1 l2 Q V) : Has V g2 64 (prC 2 p k s2) := h.k1.q2
theorem K2.h3 (h : K2 w vb gd g off c k p nn L s g1 g2 g3 g4 g5 g6 s1 s2 l1 l2 Q V) : Has V g3 38 (headC p Q) := h.k1.h3
end

set_option maxRecDepth 100000 in
set_option maxHeartbeats 8000000 in
theorem walk (a : Option Addr) (len cap : Nat) (n i more : Int) (w : World) (hA : Arg0 w a len cap) (hn : (Lit.int .i64 n).wf = true) (_hi : (Lit.int .i64 i).wf = true) (_hm : (Lit.int .i64 more).wf = true) (hP : Rt w.heap.size w) :
    Calls Tryd.prog 5 #[.slice a len cap, .int .i64 n, .int .i64 i, .int .i64 more] w fun en w' => en = .returned (.bool true) ∧ Below w.heap.size w w' := by
  obtain ⟨T, hT⟩ := hA
  have hn2 := wf_i64 hn
  obtain ⟨x, hx⟩ : ∃ x : Int, max n 1 = x := ⟨_, rfl⟩
  obtain ⟨k, hk⟩ : ∃ k : Nat, (k : Int) = min (max x 0) 16 := ⟨(min (max x 0) 16).toNat, by omega⟩
  have hk16 : k ≤ 16 := by omega
  have hk1 : 1 ≤ k := by omega
  have HK := Lib.hid hk
  have HT := Lib.hid (show _ ∧ _ from ⟨hT, hP⟩)
  clear hT hP hn hn2 hk
  go_enter Tryd.func5, Tryd.ntmps5
  go_wp2_with fail
  refine (awake_calls w HT.out.2).mono ?_
  rintro en w1 ⟨rfl, b1⟩
  have R1 : Hid (Rt w1.heap.size w1 ∧ Below w.heap.size w w1 ∧ ArgS w1 a len cap T) := Lib.hid ⟨by
      have r := HT.out.2.below b1 (Nat.le_refl _)
      exact ⟨r.rk, r.tz, ⟨Nat.lt_of_lt_of_le r.lo.1 b1.size, Nat.lt_of_lt_of_le r.lo.2 b1.size⟩, Nat.le_refl _⟩, b1, HT.out.1.1, HT.out.1.2.1, fun k hk => by
    obtain ⟨gb, go, h1, h2, h3, h4⟩ := HT.out.1.2.2 k hk
    exact ⟨gb, go, h1, Nat.lt_of_lt_of_le h2 b1.size, by rw [← h3]; unfold World.cell?; rw [b1.block gb h2], h4⟩⟩
  clear b1 HT
  go_wp2_with fail
  refine (made_calls a len cap T x 0 w1 R1.out.2.2 R1.out.1 k 0 HK.out (by omega)).mono ?_
  rintro en w2 ⟨vb, a0, c, L, rfl, va2, st2, hL, b2⟩
  obtain ⟨g, off, rfl⟩ : ∃ g off, a0 = some ⟨g, off, none⟩ := by
    rcases st2.1.2 with ⟨h, h0⟩ | ⟨g, off, cp, cur, h, _⟩
    · simp only [Value.slice.injEq] at h; omega
    · simp only [Value.slice.injEq] at h; exact ⟨g, off, h.1⟩
  have R2 : Hid (Va w1.heap.size (fun j => w1.heap.size ≤ j ∧ j < w2.heap.size) w2 vb L 0 ∧ Strs w2 (.slice (some ⟨g, off, none⟩) k c) L ∧ Below w1.heap.size w1 w2) := Lib.hid ⟨va2, st2, b2⟩
  have HL := Lib.hid hL
  clear va2 st2 b2 hL
  have ha := and255 i
  obtain ⟨y, hy⟩ : ∃ y : Nat, i % 256 = (y : Int) := ⟨(i % 256).toNat, by omega⟩
  rw [hy] at ha
  obtain ⟨p, hp⟩ : ∃ p : Nat, p = y % k := ⟨_, rfl⟩
  have hpk : p < k := by rw [hp]; exact Nat.mod_lt _ (by omega)
  have hr : (y : Int).tmod (k : Int) = (p : Int) := by rw [hp]; rfl
  have hr2 : (y : Int) % (k : Int) = (p : Int) := by rw [hp]; rfl
  have hm7 := and7 more
  obtain ⟨z, hz⟩ : ∃ z : Nat, more % 8 = (z : Int) := ⟨(more % 8).toNat, by omega⟩
  have hz8 : (z : Int) < 8 := by omega
  rw [hz] at hm7
  obtain ⟨nn, hnn⟩ : ∃ nn : Nat, (k : Int) + 1 + (z : Int) = (nn : Int) := ⟨k + 1 + z, by omega⟩
  have HNN : Hid (k < nn ∧ p < k ∧ k ≤ 16 ∧ 1 ≤ k ∧ L.length = k) := Lib.hid ⟨by omega, hpk, hk16, hk1, HL.out⟩
  clear hy hp hz
  obtain ⟨s, hs⟩ : ∃ s, L[p]? = some s := ⟨_, List.getElem?_eq_getElem (by have := HL.out; omega)⟩
  have HSS := Lib.hid hs
  clear hs
  go_wp2_with fail

  refine callsName (fun W3 hW3 => ?_)
  have R3 : Hid (K0 w1 vb w2.heap.size g off c k L W3) := by
    obtain ⟨h1, h2, h3⟩ := R2.out
    have bb : Below w2.heap.size w2 W3 := by rw [← hW3]; exact (Below.refl _ _).alloc (Nat.le_refl _) _
    exact Lib.hid ⟨⟨_, h1.below bb⟩, by rw [← hW3]; exact made_at _ _ rfl, ⟨h2.1.below bb (fun x hx => h2.1.lt hx), h2.2⟩, h3.trans (bb.mono h3.size)⟩
  clear hW3 R2
  obtain ⟨gd, hgd⟩ : ∃ gd, gd = w2.heap.size := ⟨_, rfl⟩
  rw [← hgd] at R3 ⊢
  clear hgd
  obtain ⟨l1, hl1⟩ : ∃ l, l = path (leafF L) p 0 k := ⟨_, rfl⟩
  obtain ⟨l2, hl2⟩ : ∃ l, l = stepsL L p k := ⟨_, rfl⟩
  obtain ⟨Q, hQ⟩ : ∃ Q, Q = rtAll (leafF L) p := ⟨_, rfl⟩
  have QL : Hid (Q.length = 32) := Lib.hid (by rw [hQ]; exact rtAll_len (leafF_len L) p)
  have HLQ := Lib.hid (show _ ∧ _ ∧ _ from ⟨hl1, hl2, hQ⟩)
  have hc1 : Hid (Calls Tryd.prog 26 #[.pointer (some ⟨vb, 0, none⟩), .int .i64 p, .int .i64 k] W3 (ProofPost W3 1 p k l1)) := Lib.hid (by
    obtain ⟨F, va⟩ := R3.out.va
    rw [hl1]
    exact va.leaf (by have := HNN.out; omega) p k (by have := HNN.out; omega) HNN.out.2.1 (Nat.zero_le _))
  clear hl1 hl2 hQ
  refine hc1.out.mono ?_
  rintro en w4 ⟨a1, c1, rfl, s4, o4, b4⟩
  have HSV1 : Hid (Sv l1 (.slice a1 l1.length c1) w4) := Lib.hid (Sv.of s4 (by rw [HLQ.out.1]; exact path_all (leafF_len _) k p 0))
  obtain ⟨s1, hs1⟩ : ∃ s1, s1 = Value.slice a1 l1.length c1 := ⟨_, rfl⟩
  rw [← hs1] at HSV1 ⊢
  have R4 := Lib.hid (R3.out.below b4)
  clear hs1 s4 o4 b4 R3 hc1
  go_wp2_with (first
    | ((with_reducible refine at_store (.tmp 11) ?_); refine wpList_store_cells (o := ⟨none, _, _, _, _, _⟩) rfl 64 (.tmp 11) (.tmp 41) rfl w4.heap.size (prC 1 p k s1) (prC 0 0 0 (.slice none 0 0)) rfl rfl _ (made_at _ _ rfl) (by kernel_rfl) rfl (by have := HSV1.out.choose_spec.choose_spec.1; rw [this]; simp [prC, Value.oneCell']) ?_; intro W5 HW5 TW5;
       (have R5 : Hid (K0 w1 vb gd g off c k L W5 ∧ Has W5 w4.heap.size 64 (prC 1 p k s1) ∧ Sv l1 s1 W5) := (by
         have bb : Below w4.heap.size w4 W5 := ((Below.refl _ _).alloc (Nat.le_refl _) _).trans (TW5.below (by simp) (fun j hj e => by omega))
         exact Lib.hid ⟨R4.out.below bb, HW5, HSV1.out.below bb⟩));
       clear HW5 TW5 R4 HSV1)
    | fail)
  obtain ⟨g1, hg1⟩ : ∃ gd, gd = w4.heap.size := ⟨_, rfl⟩
  rw [← hg1] at R5 ⊢
  clear hg1
  have hc1 : Hid (Calls Tryd.prog 27 #[.pointer (some ⟨vb, 0, none⟩), .int .i64 p, .int .i64 k] W5 (ProofPost W5 2 p k l2)) := Lib.hid (by
    obtain ⟨F, va⟩ := R5.out.1.va
    rw [HLQ.out.2.1]
    exact va.pfx (by have := HNN.out; omega) p k (by have := HNN.out; omega) (by have := HNN.out; omega) (Nat.zero_le _))
  refine hc1.out.mono ?_
  rintro en w6 ⟨a2, c2, rfl, s6, o6, b6⟩
  have HSV2 : Hid (Sv l2 (.slice a2 l2.length c2) w6) := Lib.hid (Sv.of s6 (by rw [HLQ.out.2.1]; exact stepsL_all L p k (by have := HNN.out; omega)))
  obtain ⟨s2, hs2⟩ : ∃ s1, s1 = Value.slice a2 l2.length c2 := ⟨_, rfl⟩
  rw [← hs2] at HSV2 ⊢
  have R6 : Hid (K0 w1 vb gd g off c k L w6 ∧ Has w6 g1 64 (prC 1 p k s1) ∧ Sv l1 s1 w6) := Lib.hid ⟨R5.out.1.below b6, R5.out.2.1.below b6 R5.out.2.1.lt, R5.out.2.2.below b6⟩
  clear hs2 s6 o6 b6 R5 hc1
  go_wp2_with (first
    | ((with_reducible refine at_store (.tmp 13) ?_); refine wpList_store_cells (o := ⟨none, _, _, _, _, _⟩) rfl 64 (.tmp 13) (.tmp 48) rfl w6.heap.size (prC 2 p k s2) (prC 0 0 0 (.slice none 0 0)) rfl rfl _ (made_at _ _ rfl) (by kernel_rfl) rfl (by have := HSV2.out.choose_spec.choose_spec.1; rw [this]; simp [prC, Value.oneCell']) ?_; intro W7 HW7 TW7;
       (have R7 : Hid (K0 w1 vb gd g off c k L W7 ∧ Has W7 g1 64 (prC 1 p k s1) ∧ Sv l1 s1 W7 ∧ Has W7 w6.heap.size 64 (prC 2 p k s2) ∧ Sv l2 s2 W7) := (by
         have bb : Below w6.heap.size w6 W7 := ((Below.refl _ _).alloc (Nat.le_refl _) _).trans (TW7.below (by simp) (fun j hj e => by omega))
         exact Lib.hid ⟨R6.out.1.below bb, R6.out.2.1.below bb R6.out.2.1.lt, R6.out.2.2.below bb, HW7, HSV2.out.below bb⟩));
       clear HW7 TW7 R6 HSV2)
    | fail)
  obtain ⟨g2, hg2⟩ : ∃ gd, gd = w6.heap.size := ⟨_, rfl⟩
  rw [← hg2] at R7 ⊢
  clear hg2
  have hc1 : Hid (Calls Tryd.prog 28 #[.pointer (some ⟨vb, 0, none⟩), .int .i64 p] W7 fun en w' => en = .returned (.tuple #[.agg (headC p Q), .nilIface]) ∧ Below W7.heap.size W7 w') := Lib.hid (by
    obtain ⟨F, va⟩ := R7.out.1.va
    rw [HLQ.out.2.2]
    exact va.head (by have := HNN.out; omega) p (Nat.zero_le _) (by have := HNN.out; omega))
  refine hc1.out.mono ?_
  rintro en w8 ⟨rfl, b8⟩
  have R8 : Hid (K0 w1 vb gd g off c k L w8 ∧ Has w8 g1 64 (prC 1 p k s1) ∧ Sv l1 s1 w8 ∧ Has w8 g2 64 (prC 2 p k s2) ∧ Sv l2 s2 w8) := Lib.hid ⟨R7.out.1.below b8, R7.out.2.1.below b8 R7.out.2.1.lt, R7.out.2.2.1.below b8, R7.out.2.2.2.1.below b8 R7.out.2.2.2.1.lt, R7.out.2.2.2.2.below b8⟩
  clear b8 R7 hc1
  have H1S : Hid (s1.oneCell' = true) := Lib.hid (by obtain ⟨a', c', h, _⟩ := R8.out.2.2.1; rw [h]; rfl)
  have H2S : Hid (s2.oneCell' = true) := Lib.hid (by obtain ⟨a', c', h, _⟩ := R8.out.2.2.2.2; rw [h]; rfl)
  go_wp2_with (first
    | ((with_reducible refine at_store (.tmp 15) ?_); refine wpList_store_head (o := ⟨none, _, _, _, _, _⟩) rfl (.tmp 15) (.tmp 54) rfl w8.heap.size p 0 Q (List.replicate 32 0) rfl rfl (made_at _ _ rfl) QL.out (by simp) ?_; intro W9 HW9 TW9;
       (have R9 : Hid (K1 w1 vb gd g off c k p L g1 g2 w8.heap.size s1 s2 l1 l2 Q W9) := (by
         have bb : Below w8.heap.size w8 W9 := ((Below.refl _ _).alloc (Nat.le_refl _) _).trans (TW9.below (by simp) (fun j hj e => by omega))
         exact Lib.hid ⟨R8.out.1.below bb, R8.out.2.1.below bb R8.out.2.1.lt, R8.out.2.2.1.below bb, R8.out.2.2.2.1.below bb R8.out.2.2.2.1.lt, R8.out.2.2.2.2.below bb, HW9⟩));
       clear HW9 TW9 R8)
    | ((with_reducible refine at_op 66 ?_); refine wpList_load_row (o := ⟨some 66, _, _, _, _, _⟩) rfl 64 _ rfl g1 rfl 64 (prC 1 p k s1) (0, 0) _ R9.out.p1 Tryd.underlying64 rfl (by kernel_rfl) ?_)
    | ((with_reducible refine at_store (.tmp 17) ?_); refine wpList_store_cells (o := ⟨none, _, _, _, _, _⟩) rfl 64 (.tmp 17) (.tmp 66) rfl W9.heap.size (prC 1 p k s1) (prC 0 0 0 (.slice none 0 0)) rfl rfl _ (made_at _ _ rfl) (by kernel_rfl) rfl (by simp [prC, H1S.out]; exact ⟨rfl, rfl, rfl⟩) ?_; intro WA HWA TWA;
       (have RA : Hid (K1 w1 vb gd g off c k p L g1 g2 w8.heap.size s1 s2 l1 l2 Q WA ∧ Has WA W9.heap.size 64 (prC 1 p k s1)) := (by
         have bb : Below W9.heap.size W9 WA := ((Below.refl _ _).alloc (Nat.le_refl _) _).trans (TWA.below (by simp) (fun j hj e => by omega))
         exact Lib.hid ⟨R9.out.below bb, HWA⟩));
       have f2 : WA.cell? ⟨W9.heap.size, 2, none⟩ = some (.int .i64 k) := RA.out.2.cell 2;
       have z2 : WA.frozen? ⟨W9.heap.size, 2, none⟩ = false := RA.out.2.free 2;
       have lA : Hid (W9.heap.size < WA.heap.size ∧ ∀ j, (j = w8.heap.size ∨ j = g1 ∨ j = g2 ∨ j = gd) → j < W9.heap.size) := Lib.hid ⟨RA.out.2.lt, fun j hj => by rcases hj with rfl | rfl | rfl | rfl; exact R9.out.h3.lt; exact R9.out.p1.lt; exact R9.out.q2.lt; exact R9.out.k0.own.lt⟩;
       have BA : Hid (Below W9.heap.size W9 WA) := Lib.hid (((Below.refl _ _).alloc (Nat.le_refl _) _).trans (TWA.below (by simp) (fun j hj e => by omega)));
       clear HWA TWA)
    | ((with_reducible refine at_op 73 ?_); refine wpList_name (fun WB hWB => ?_);
       (have RB : Hid (K1 w1 vb gd g off c k p L g1 g2 w8.heap.size s1 s2 l1 l2 Q WB ∧ Has WB W9.heap.size 64 (prC 1 p nn s1)) := (by
         have bb : Below W9.heap.size W9 WB := by rw [← hWB]; exact BA.out.setCell (Nat.le_refl _) _
         exact Lib.hid ⟨R9.out.below bb, by rw [← hWB]; exact RA.out.2.put 2 (.int .i64 nn)⟩));
       clear hWB RA f2 z2 R9 lA BA;
       refine wpList_load_row (o := ⟨some 73, _, _, _, _, _⟩) rfl 64 _ rfl g1 rfl 64 (prC 1 p k s1) (0, 0) _ RB.out.1.p1 Tryd.underlying64 rfl (by kernel_rfl) ?_)
    | ((with_reducible refine at_store (.tmp 18) ?_); refine wpList_store_cells (o := ⟨none, _, _, _, _, _⟩) rfl 64 (.tmp 18) (.tmp 73) rfl WB.heap.size (prC 1 p k s1) (prC 0 0 0 (.slice none 0 0)) rfl rfl _ (made_at _ _ rfl) (by kernel_rfl) rfl (by simp [prC, H1S.out]; exact ⟨rfl, rfl, rfl⟩) ?_; intro WC HWC TWC;
       (have RC : Hid (Has WC WB.heap.size 64 (prC 1 p k s1)) := Lib.hid HWC);
       have f2 : WC.cell? ⟨WB.heap.size, 0, none⟩ = some (.int .i64 1) := RC.out.cell 0;
       have z2 : WC.frozen? ⟨WB.heap.size, 0, none⟩ = false := RC.out.free 0;
       have BC : Hid (Below WB.heap.size WB WC) := Lib.hid (((Below.refl _ _).alloc (Nat.le_refl _) _).trans (TWC.below (by simp) (fun j hj e => by omega)));
       clear HWC TWC)
    | ((with_reducible refine at_op 75 ?_); refine wpList_name (fun WD hWD => ?_);
       (have RD : Hid (K1 w1 vb gd g off c k p L g1 g2 w8.heap.size s1 s2 l1 l2 Q WD ∧ Has WD W9.heap.size 64 (prC 1 p nn s1) ∧ Has WD WB.heap.size 64 (prC 2 p k s1)) := (by
         have bb : Below WB.heap.size WB WD := by rw [← hWD]; exact BC.out.setCell (Nat.le_refl _) _
         exact Lib.hid ⟨RB.out.1.below bb, RB.out.2.below bb RB.out.2.lt, by rw [← hWD]; exact RC.out.put 0 (.int .i64 2)⟩));
       clear hWD RC f2 z2 BC RB;
       refine wpList_load_row (o := ⟨some 75, _, _, _, _, _⟩) rfl 64 _ rfl g2 rfl 64 (prC 2 p k s2) (0, 0) _ RD.out.1.q2 Tryd.underlying64 rfl (by kernel_rfl) ?_)
    | ((with_reducible refine at_store (.tmp 19) ?_); refine wpList_store_cells (o := ⟨none, _, _, _, _, _⟩) rfl 64 (.tmp 19) (.tmp 75) rfl WD.heap.size (prC 2 p k s2) (prC 0 0 0 (.slice none 0 0)) rfl rfl _ (made_at _ _ rfl) (by kernel_rfl) rfl (by simp [prC, H2S.out]; exact ⟨rfl, rfl, rfl⟩) ?_; intro WE HWE TWE;
       (have RE : Hid (Has WE WD.heap.size 64 (prC 2 p k s2)) := Lib.hid HWE);
       have f2 : WE.cell? ⟨WD.heap.size, 0, none⟩ = some (.int .i64 2) := RE.out.cell 0;
       have z2 : WE.frozen? ⟨WD.heap.size, 0, none⟩ = false := RE.out.free 0;
       have BE : Hid (Below WD.heap.size WD WE) := Lib.hid (((Below.refl _ _).alloc (Nat.le_refl _) _).trans (TWE.below (by simp) (fun j hj e => by omega)));
       clear HWE TWE)
    | fail)
  go_name_world WF hWF
  have RF : Hid (K2 w1 vb gd g off c k p nn L s g1 g2 w8.heap.size W9.heap.size WB.heap.size WD.heap.size s1 s2 l1 l2 Q WF) := by
    have bb : Below WD.heap.size WD WF := by rw [← hWF]; exact BE.out.setCell (Nat.le_refl _) _
    have k1 := RD.out.1.below bb
    refine Lib.hid ⟨k1, RD.out.2.1.below bb RD.out.2.1.lt, RD.out.2.2.below bb RD.out.2.2.lt, by rw [← hWF]; exact RE.out.put 0 (.int .i64 1), ?_, ?_⟩
    · obtain ⟨g', o', c', hv, hg, _, _, hcell⟩ := k1.k0.str.1.cells (by have := HNN.out; omega)
      simp only [Value.slice.injEq, Option.some.injEq, Addr.mk.injEq] at hv
      obtain ⟨⟨rfl, rfl, _⟩, _, _⟩ := hv
      exact hcell p _ (by rw [List.getElem?_map, HSS.out]; rfl)
    · exact k1.k0.str.1.lt rfl
  clear hWF f2 z2 BE RE RD
  obtain ⟨g3, hg3⟩ : ∃ gd, gd = w8.heap.size := ⟨_, rfl⟩
  obtain ⟨g4, hg4⟩ : ∃ gd, gd = W9.heap.size := ⟨_, rfl⟩
  obtain ⟨g5, hg5⟩ : ∃ gd, gd = WB.heap.size := ⟨_, rfl⟩
  obtain ⟨g6, hg6⟩ : ∃ gd, gd = WD.heap.size := ⟨_, rfl⟩
  rw [← hg3, ← hg4, ← hg5, ← hg6] at RF ⊢
  clear hg3 hg4 hg5 hg6
  have hLk := HL.out
  have hss : s.size < 1000000000000000000 := by
    have := RF.out.k1.k0.str.2 s (List.mem_of_getElem? HSS.out)
    omega
  have C1 : Hid (∀ V, K2 w1 vb gd g off c k p nn L s g1 g2 g3 g4 g5 g6 s1 s2 l1 l2 Q V → Calls Tryd.prog 30 #[.pointer (some ⟨vb, 0, none⟩), .string s, .agg (prC 1 p k s1)] V fun en w' => en = .returned (.agg (verC 1 ⟨#[]⟩ ⟨#[]⟩)) ∧ K2 w1 vb gd g off c k p nn L s g1 g2 g3 g4 g5 g6 s1 s2 l1 l2 Q w') := Lib.hid fun V hV => by
    obtain ⟨F, va⟩ := hV.k1.k0.va
    obtain ⟨a', c', rfl, hs⟩ := hV.k1.v1
    have h1 := aleaf_ok va (by have := HNN.out; omega) s hss 1 p k (Nat.zero_le _) (by omega) l1.reverse a' c' (by rw [List.length_reverse]; exact hs) 0 1
      (by rw [if_pos rfl, HLQ.out.1]; exact (incl_path HNN.out.2.1 HSS.out).symm) (.inr ⟨rfl, p, rfl, .inr ⟨Nat.zero_le _, HSS.out, rfl⟩⟩)
    rw [List.length_reverse] at h1
    exact h1.mono fun _ _ h => ⟨h.1, hV.below h.2⟩
  have C2 : Hid (∀ V, K2 w1 vb gd g off c k p nn L s g1 g2 g3 g4 g5 g6 s1 s2 l1 l2 Q V → Calls Tryd.prog 31 #[.pointer (some ⟨vb, 0, none⟩), .agg (headC p Q), .agg (prC 2 p k s2)] V fun en w' => en = .returned (.agg (verC 1 ⟨#[]⟩ ⟨#[]⟩)) ∧ K2 w1 vb gd g off c k p nn L s g1 g2 g3 g4 g5 g6 s1 s2 l1 l2 Q w') := Lib.hid fun V hV => by
    obtain ⟨F, va⟩ := hV.k1.k0.va
    obtain ⟨a', c', rfl, hs⟩ := hV.k1.v2
    have h1 := aprefix_ok va (by have := HNN.out; omega) p QL.out 2 p k (Nat.zero_le _) (by omega) l2.reverse a' c' (by rw [List.length_reverse]; exact hs) 0 1
      (by
        unfold provE consE
        rw [if_pos rfl, if_pos rfl, if_neg (by have := HNN.out; omega), Int.toNat_natCast, Int.toNat_natCast, HLQ.out.2.2, HLQ.out.2.1, elder_steps (by have := HNN.out; omega), if_pos rfl])
      (.inr ⟨rfl, p, rfl, by have := HNN.out; omega, .inr ⟨Nat.zero_le _, HLQ.out.2.2, rfl⟩⟩)
    rw [List.length_reverse] at h1
    exact h1.mono fun _ _ h => ⟨h.1, hV.below h.2⟩
  have C3 : Hid (∀ V, K2 w1 vb gd g off c k p nn L s g1 g2 g3 g4 g5 g6 s1 s2 l1 l2 Q V → Calls Tryd.prog 30 #[.pointer (some ⟨vb, 0, none⟩), .string s, .agg (prC 1 p nn s1)] V fun en w' => en = .returned (.agg (verC 0 ⟨#[]⟩ ⟨#[]⟩)) ∧ K2 w1 vb gd g off c k p nn L s g1 g2 g3 g4 g5 g6 s1 s2 l1 l2 Q w') := Lib.hid fun V hV => by
    obtain ⟨F, va⟩ := hV.k1.k0.va
    exact (aleaf_nohead va s 1 p nn s1 6 (.inl ⟨rfl, .inr (by have := HNN.out; omega)⟩)).mono fun _ _ h => ⟨h.1, hV.below h.2⟩
  have C4 : Hid (∀ V, K2 w1 vb gd g off c k p nn L s g1 g2 g3 g4 g5 g6 s1 s2 l1 l2 Q V → Calls Tryd.prog 30 #[.pointer (some ⟨vb, 0, none⟩), .string s, .agg (prC 2 p k s1)] V fun en w' => en = .returned (.agg (verC 0 ⟨#[]⟩ ⟨#[]⟩)) ∧ K2 w1 vb gd g off c k p nn L s g1 g2 g3 g4 g5 g6 s1 s2 l1 l2 Q w') := Lib.hid fun V hV => by
    obtain ⟨F, va⟩ := hV.k1.k0.va
    obtain ⟨a', c', rfl, hs⟩ := hV.k1.v1
    have h1 := aleaf_ok va (by have := HNN.out; omega) s hss 2 p k (Nat.zero_le _) (by omega) l1.reverse a' c' (by rw [List.length_reverse]; exact hs) 1 0
      (by rw [if_neg (by decide)]) (.inl ⟨by decide, rfl⟩)
    rw [List.length_reverse] at h1
    exact h1.mono fun _ _ h => ⟨h.1, hV.below h.2⟩
  have C5 : Hid (∀ V, K2 w1 vb gd g off c k p nn L s g1 g2 g3 g4 g5 g6 s1 s2 l1 l2 Q V → Calls Tryd.prog 31 #[.pointer (some ⟨vb, 0, none⟩), .agg (headC p Q), .agg (prC 1 p k s2)] V fun en w' => en = .returned (.agg (verC 0 ⟨#[]⟩ ⟨#[]⟩)) ∧ K2 w1 vb gd g off c k p nn L s g1 g2 g3 g4 g5 g6 s1 s2 l1 l2 Q w') := Lib.hid fun V hV => by
    obtain ⟨F, va⟩ := hV.k1.k0.va
    obtain ⟨a', c', rfl, hs⟩ := hV.k1.v2
    have h1 := aprefix_ok va (by have := HNN.out; omega) p QL.out 1 p k (Nat.zero_le _) (by omega) l2.reverse a' c' (by rw [List.length_reverse]; exact hs) 1 0
      (by unfold provE; rw [if_neg (by decide)]) (.inl ⟨by decide, rfl⟩)
    rw [List.length_reverse] at h1
    exact h1.mono fun _ _ h => ⟨h.1, hV.below h.2⟩
  have I1 : Hid (∀ V, K2 w1 vb gd g off c k p nn L s g1 g2 g3 g4 g5 g6 s1 s2 l1 l2 Q V → Calls Tryd.prog 29 #[.agg (verC 1 ⟨#[]⟩ ⟨#[]⟩), .int .i64 1] V fun en w' => en = .returned (.bool true) ∧ K2 w1 vb gd g off c k p nn L s g1 g2 g3 g4 g5 g6 s1 s2 l1 l2 Q w') := Lib.hid fun V hV => by
    obtain ⟨F, va⟩ := hV.k1.k0.va
    exact (is_calls0 1 (.inr (.inl rfl)) V va.rt.rk).mono fun _ _ h => ⟨h.1, hV.below h.2⟩
  have I0 : Hid (∀ V, K2 w1 vb gd g off c k p nn L s g1 g2 g3 g4 g5 g6 s1 s2 l1 l2 Q V → Calls Tryd.prog 29 #[.agg (verC 0 ⟨#[]⟩ ⟨#[]⟩), .int .i64 0] V fun en w' => en = .returned (.bool true) ∧ K2 w1 vb gd g off c k p nn L s g1 g2 g3 g4 g5 g6 s1 s2 l1 l2 Q w') := Lib.hid fun V hV => by
    obtain ⟨F, va⟩ := hV.k1.k0.va
    exact (is_calls0 0 (.inl rfl) V va.rt.rk).mono fun _ _ h => ⟨h.1, hV.below h.2⟩
  clear hLk hss
  refine wp_region_S (S := K2 w1 vb gd g off c k p nn L s g1 g2 g3 g4 g5 g6 s1 s2 l1 l2 Q) (by kernel_rfl) (RF.out.below (Below.refl _ _).drew) ?_
  refine AnyS.pure 0 (some 77) (v := .pointer (some ⟨vb, 0, none⟩)) rfl rfl (by kernel_rfl) (by kernel_rfl) (by kernel_rfl) (fun _ _ _ h => h) (by kernel_rfl) (fun V hV => by rfl) ?_
  refine AnyS.pure 1 (some 78) (v := .pointer (some ⟨gd, 0, none⟩)) rfl rfl (by kernel_rfl) (by kernel_rfl) (by kernel_rfl) (fun _ _ _ h => h) (by kernel_rfl) (fun V hV => by go_simp) ?_
  simp only [Act.put, List.setIfInBounds_toArray, List.set_cons_zero, List.set_cons_succ]
  refine AnyS.pure 2 (some 79) (v := .slice (some ⟨g, off, none⟩) k c) rfl rfl (by kernel_rfl) (by kernel_rfl) (by kernel_rfl) (fun _ _ _ h => h) (by kernel_rfl) (fun V hV => by have c0 := hV.own.cell 0; simp at c0; go_simp) ?_
  refine AnyS.pure 3 (some 80) (v := .int .i64 p) rfl rfl (by kernel_rfl) (by kernel_rfl) (by kernel_rfl) (fun _ _ _ h => h) (by kernel_rfl) (fun V hV => by rfl) ?_
  simp only [Act.put, List.setIfInBounds_toArray, List.set_cons_zero, List.set_cons_succ]
  refine AnyS.pure 4 (some 81) (v := .pointer (some ⟨g, off + p, none⟩)) rfl rfl (by kernel_rfl) (by kernel_rfl) (by kernel_rfl) (fun _ _ _ h => h) (by kernel_rfl) (fun V hV => by go_simp) ?_
  refine AnyS.pure 5 (some 82) (v := .string s) rfl rfl (by kernel_rfl) (by kernel_rfl) (by kernel_rfl) (fun _ _ _ h => h) (by kernel_rfl) (fun V hV => by have c0 := hV.cs; go_simp) ?_
  simp only [Act.put, List.setIfInBounds_toArray, List.set_cons_zero, List.set_cons_succ]
  refine AnyS.pure 6 (some 83) (v := .agg (prC 1 p k s1)) rfl rfl (by kernel_rfl) (by kernel_rfl) (by kernel_rfl) (fun _ _ _ h => h) (by kernel_rfl) (fun V hV => exec_load 64 (.tmp 11) rfl (.pointer (some ⟨g1, 0, none⟩)) (by kernel_rfl) (run_loadAt_mid V g1 0 64 [.int .i64 1, .int .i64 p, .int .i64 k, s1] _ (Has.range hV.p1) Tryd.underlying64 rfl (by kernel_rfl))) ?_
  refine AnyS.call 7 (some 84) (.agg (verC 1 ⟨#[]⟩ ⟨#[]⟩)) rfl rfl (by kernel_rfl) (by kernel_rfl) (by kernel_rfl) (fun _ _ _ h => h) (by kernel_rfl) 30 Tryd.f30 Tryd.func30 (by kernel_rfl) (by kernel_rfl) _ _ rfl #[.pointer (some ⟨vb, 0, none⟩), .string s, .agg (prC 1 p k s1)] (by first | (simp [Act.eval]; done) | (simp [Act.eval, Act.put]; done)) (fun V hV => C1.out V hV) ?_
  simp only [Act.put, List.setIfInBounds_toArray, List.set_cons_zero, List.set_cons_succ]
  refine AnyS.call 8 (some 85) (.bool true) rfl rfl (by kernel_rfl) (by kernel_rfl) (by kernel_rfl) (fun _ _ _ h => h) (by kernel_rfl) 29 Tryd.f29 Tryd.func29 (by kernel_rfl) (by kernel_rfl) _ _ rfl #[.agg (verC 1 ⟨#[]⟩ ⟨#[]⟩), .int .i64 1] (by first | (simp [Act.eval]; done) | (simp [Act.eval, Act.put]; done)) (fun V hV => I1.out V hV) ?_
  refine AnyS.pure 9 (some 86) (v := .bool true) rfl rfl (by kernel_rfl) (by kernel_rfl) (by kernel_rfl) (fun _ _ _ h => h) (by kernel_rfl) (fun V hV => by rfl) ?_
  simp only [Act.put, List.setIfInBounds_toArray, List.set_cons_zero, List.set_cons_succ]
  refine AnyS.pure 10 (some 87) (v := .pointer (some ⟨vb, 0, none⟩)) rfl rfl (by kernel_rfl) (by kernel_rfl) (by kernel_rfl) (fun _ _ _ h => h) (by kernel_rfl) (fun V hV => by rfl) ?_
  refine AnyS.pure 11 (some 88) (v := .agg (headC p Q)) rfl rfl (by kernel_rfl) (by kernel_rfl) (by kernel_rfl) (fun _ _ _ h => h) (by kernel_rfl) (fun V hV => exec_load 38 (.tmp 15) rfl (.pointer (some ⟨g3, 0, none⟩)) (by kernel_rfl) (prf.Has.load_hd hV.h3 QL.out)) ?_
  simp only [Act.put, List.setIfInBounds_toArray, List.set_cons_zero, List.set_cons_succ]
  refine AnyS.pure 12 (some 89) (v := .agg (prC 2 p k s2)) rfl rfl (by kernel_rfl) (by kernel_rfl) (by kernel_rfl) (fun _ _ _ h => h) (by kernel_rfl) (fun V hV => exec_load 64 (.tmp 13) rfl (.pointer (some ⟨g2, 0, none⟩)) (by kernel_rfl) (run_loadAt_mid V g2 0 64 [.int .i64 2, .int .i64 p, .int .i64 k, s2] _ (Has.range hV.q2) Tryd.underlying64 rfl (by kernel_rfl))) ?_
  refine AnyS.call 13 (some 90) (.agg (verC 1 ⟨#[]⟩ ⟨#[]⟩)) rfl rfl (by kernel_rfl) (by kernel_rfl) (by kernel_rfl) (fun _ _ _ h => h) (by kernel_rfl) 31 Tryd.f31 Tryd.func31 (by kernel_rfl) (by kernel_rfl) _ _ rfl #[.pointer (some ⟨vb, 0, none⟩), .agg (headC p Q), .agg (prC 2 p k s2)] (by first | (simp [Act.eval]; done) | (simp [Act.eval, Act.put]; done)) (fun V hV => C2.out V hV) ?_
  simp only [Act.put, List.setIfInBounds_toArray, List.set_cons_zero, List.set_cons_succ]
  refine AnyS.call 14 (some 91) (.bool true) rfl rfl (by kernel_rfl) (by kernel_rfl) (by kernel_rfl) (fun _ _ _ h => h) (by kernel_rfl) 29 Tryd.f29 Tryd.func29 (by kernel_rfl) (by kernel_rfl) _ _ rfl #[.agg (verC 1 ⟨#[]⟩ ⟨#[]⟩), .int .i64 1] (by first | (simp [Act.eval]; done) | (simp [Act.eval, Act.put]; done)) (fun V hV => I1.out V hV) ?_
  refine AnyS.pure 15 (some 92) (v := .bool true) rfl rfl (by kernel_rfl) (by kernel_rfl) (by kernel_rfl) (fun _ _ _ h => h) (by kernel_rfl) (fun V hV => by rfl) ?_
  simp only [Act.put, List.setIfInBounds_toArray, List.set_cons_zero, List.set_cons_succ]
  refine AnyS.pure 16 (some 93) (v := .bool true) rfl rfl (by kernel_rfl) (by kernel_rfl) (by kernel_rfl) (fun _ _ _ h => h) (by kernel_rfl) (fun V hV => by rfl) ?_
  refine AnyS.pure 17 (some 94) (v := .pointer (some ⟨vb, 0, none⟩)) rfl rfl (by kernel_rfl) (by kernel_rfl) (by kernel_rfl) (fun _ _ _ h => h) (by kernel_rfl) (fun V hV => by rfl) ?_
  simp only [Act.put, List.setIfInBounds_toArray, List.set_cons_zero, List.set_cons_succ]
  refine AnyS.pure 18 (some 95) (v := .pointer (some ⟨gd, 0, none⟩)) rfl rfl (by kernel_rfl) (by kernel_rfl) (by kernel_rfl) (fun _ _ _ h => h) (by kernel_rfl) (fun V hV => by go_simp) ?_
  refine AnyS.pure 19 (some 96) (v := .slice (some ⟨g, off, none⟩) k c) rfl rfl (by kernel_rfl) (by kernel_rfl) (by kernel_rfl) (fun _ _ _ h => h) (by kernel_rfl) (fun V hV => by have c0 := hV.own.cell 0; simp at c0; go_simp) ?_
  simp only [Act.put, List.setIfInBounds_toArray, List.set_cons_zero, List.set_cons_succ]
  refine AnyS.pure 20 (some 97) (v := .int .i64 p) rfl rfl (by kernel_rfl) (by kernel_rfl) (by kernel_rfl) (fun _ _ _ h => h) (by kernel_rfl) (fun V hV => by rfl) ?_
  refine AnyS.pure 21 (some 98) (v := .pointer (some ⟨g, off + p, none⟩)) rfl rfl (by kernel_rfl) (by kernel_rfl) (by kernel_rfl) (fun _ _ _ h => h) (by kernel_rfl) (fun V hV => by go_simp) ?_
  simp only [Act.put, List.setIfInBounds_toArray, List.set_cons_zero, List.set_cons_succ]
  refine AnyS.pure 22 (some 99) (v := .string s) rfl rfl (by kernel_rfl) (by kernel_rfl) (by kernel_rfl) (fun _ _ _ h => h) (by kernel_rfl) (fun V hV => by have c0 := hV.cs; go_simp) ?_
  refine AnyS.pure 23 (some 100) (v := .agg (prC 1 p nn s1)) rfl rfl (by kernel_rfl) (by kernel_rfl) (by kernel_rfl) (fun _ _ _ h => h) (by kernel_rfl) (fun V hV => exec_load 64 (.tmp 17) rfl (.pointer (some ⟨g4, 0, none⟩)) (by kernel_rfl) (run_loadAt_mid V g4 0 64 [.int .i64 1, .int .i64 p, .int .i64 nn, s1] _ (Has.range hV.r4) Tryd.underlying64 rfl (by kernel_rfl))) ?_
  simp only [Act.put, List.setIfInBounds_toArray, List.set_cons_zero, List.set_cons_succ]
  refine AnyS.call 24 (some 101) (.agg (verC 0 ⟨#[]⟩ ⟨#[]⟩)) rfl rfl (by kernel_rfl) (by kernel_rfl) (by kernel_rfl) (fun _ _ _ h => h) (by kernel_rfl) 30 Tryd.f30 Tryd.func30 (by kernel_rfl) (by kernel_rfl) _ _ rfl #[.pointer (some ⟨vb, 0, none⟩), .string s, .agg (prC 1 p nn s1)] (by first | (simp [Act.eval]; done) | (simp [Act.eval, Act.put]; done)) (fun V hV => C3.out V hV) ?_
  refine AnyS.call 25 (some 102) (.bool true) rfl rfl (by kernel_rfl) (by kernel_rfl) (by kernel_rfl) (fun _ _ _ h => h) (by kernel_rfl) 29 Tryd.f29 Tryd.func29 (by kernel_rfl) (by kernel_rfl) _ _ rfl #[.agg (verC 0 ⟨#[]⟩ ⟨#[]⟩), .int .i64 0] (by first | (simp [Act.eval]; done) | (simp [Act.eval, Act.put]; done)) (fun V hV => I0.out V hV) ?_
  simp only [Act.put, List.setIfInBounds_toArray, List.set_cons_zero, List.set_cons_succ]
  refine AnyS.pure 26 (some 103) (v := .bool true) rfl rfl (by kernel_rfl) (by kernel_rfl) (by kernel_rfl) (fun _ _ _ h => h) (by kernel_rfl) (fun V hV => by rfl) ?_
  refine AnyS.pure 27 (some 104) (v := .bool true) rfl rfl (by kernel_rfl) (by kernel_rfl) (by kernel_rfl) (fun _ _ _ h => h) (by kernel_rfl) (fun V hV => by rfl) ?_
  simp only [Act.put, List.setIfInBounds_toArray, List.set_cons_zero, List.set_cons_succ]
  refine AnyS.pure 28 (some 105) (v := .pointer (some ⟨vb, 0, none⟩)) rfl rfl (by kernel_rfl) (by kernel_rfl) (by kernel_rfl) (fun _ _ _ h => h) (by kernel_rfl) (fun V hV => by rfl) ?_
  refine AnyS.pure 29 (some 106) (v := .pointer (some ⟨gd, 0, none⟩)) rfl rfl (by kernel_rfl) (by kernel_rfl) (by kernel_rfl) (fun _ _ _ h => h) (by kernel_rfl) (fun V hV => by go_simp) ?_
  simp only [Act.put, List.setIfInBounds_toArray, List.set_cons_zero, List.set_cons_succ]
  refine AnyS.pure 30 (some 107) (v := .slice (some ⟨g, off, none⟩) k c) rfl rfl (by kernel_rfl) (by kernel_rfl) (by kernel_rfl) (fun _ _ _ h => h) (by kernel_rfl) (fun V hV => by have c0 := hV.own.cell 0; simp at c0; go_simp) ?_
  refine AnyS.pure 31 (some 108) (v := .int .i64 p) rfl rfl (by kernel_rfl) (by kernel_rfl) (by kernel_rfl) (fun _ _ _ h => h) (by kernel_rfl) (fun V hV => by rfl) ?_
  simp only [Act.put, List.setIfInBounds_toArray, List.set_cons_zero, List.set_cons_succ]
  refine AnyS.pure 32 (some 109) (v := .pointer (some ⟨g, off + p, none⟩)) rfl rfl (by kernel_rfl) (by kernel_rfl) (by kernel_rfl) (fun _ _ _ h => h) (by kernel_rfl) (fun V hV => by go_simp) ?_
  refine AnyS.pure 33 (some 110) (v := .string s) rfl rfl (by kernel_rfl) (by kernel_rfl) (by kernel_rfl) (fun _ _ _ h => h) (by kernel_rfl) (fun V hV => by have c0 := hV.cs; go_simp) ?_
  simp only [Act.put, List.setIfInBounds_toArray, List.set_cons_zero, List.set_cons_succ]
  refine AnyS.pure 34 (some 111) (v := .agg (prC 2 p k s1)) rfl rfl (by kernel_rfl) (by kernel_rfl) (by kernel_rfl) (fun _ _ _ h => h) (by kernel_rfl) (fun V hV => exec_load 64 (.tmp 18) rfl (.pointer (some ⟨g5, 0, none⟩)) (by kernel_rfl) (run_loadAt_mid V g5 0 64 [.int .i64 2, .int .i64 p, .int .i64 k, s1] _ (Has.range hV.s5) Tryd.underlying64 rfl (by kernel_rfl))) ?_
  refine AnyS.call 35 (some 112) (.agg (verC 0 ⟨#[]⟩ ⟨#[]⟩)) rfl rfl (by kernel_rfl) (by kernel_rfl) (by kernel_rfl) (fun _ _ _ h => h) (by kernel_rfl) 30 Tryd.f30 Tryd.func30 (by kernel_rfl) (by kernel_rfl) _ _ rfl #[.pointer (some ⟨vb, 0, none⟩), .string s, .agg (prC 2 p k s1)] (by first | (simp [Act.eval]; done) | (simp [Act.eval, Act.put]; done)) (fun V hV => C4.out V hV) ?_
  simp only [Act.put, List.setIfInBounds_toArray, List.set_cons_zero, List.set_cons_succ]
  refine AnyS.call 36 (some 113) (.bool true) rfl rfl (by kernel_rfl) (by kernel_rfl) (by kernel_rfl) (fun _ _ _ h => h) (by kernel_rfl) 29 Tryd.f29 Tryd.func29 (by kernel_rfl) (by kernel_rfl) _ _ rfl #[.agg (verC 0 ⟨#[]⟩ ⟨#[]⟩), .int .i64 0] (by first | (simp [Act.eval]; done) | (simp [Act.eval, Act.put]; done)) (fun V hV => I0.out V hV) ?_
  refine AnyS.pure 37 (some 114) (v := .bool true) rfl rfl (by kernel_rfl) (by kernel_rfl) (by kernel_rfl) (fun _ _ _ h => h) (by kernel_rfl) (fun V hV => by rfl) ?_
  simp only [Act.put, List.setIfInBounds_toArray, List.set_cons_zero, List.set_cons_succ]
  refine AnyS.pure 38 (some 115) (v := .bool true) rfl rfl (by kernel_rfl) (by kernel_rfl) (by kernel_rfl) (fun _ _ _ h => h) (by kernel_rfl) (fun V hV => by rfl) ?_
  refine AnyS.pure 39 (some 116) (v := .pointer (some ⟨vb, 0, none⟩)) rfl rfl (by kernel_rfl) (by kernel_rfl) (by kernel_rfl) (fun _ _ _ h => h) (by kernel_rfl) (fun V hV => by rfl) ?_
  simp only [Act.put, List.setIfInBounds_toArray, List.set_cons_zero, List.set_cons_succ]
  refine AnyS.pure 40 (some 117) (v := .agg (headC p Q)) rfl rfl (by kernel_rfl) (by kernel_rfl) (by kernel_rfl) (fun _ _ _ h => h) (by kernel_rfl) (fun V hV => exec_load 38 (.tmp 15) rfl (.pointer (some ⟨g3, 0, none⟩)) (by kernel_rfl) (prf.Has.load_hd hV.h3 QL.out)) ?_
  refine AnyS.pure 41 (some 118) (v := .agg (prC 1 p k s2)) rfl rfl (by kernel_rfl) (by kernel_rfl) (by kernel_rfl) (fun _ _ _ h => h) (by kernel_rfl) (fun V hV => exec_load 64 (.tmp 19) rfl (.pointer (some ⟨g6, 0, none⟩)) (by kernel_rfl) (run_loadAt_mid V g6 0 64 [.int .i64 1, .int .i64 p, .int .i64 k, s2] _ (Has.range hV.u6) Tryd.underlying64 rfl (by kernel_rfl))) ?_
  simp only [Act.put, List.setIfInBounds_toArray, List.set_cons_zero, List.set_cons_succ]
  refine AnyS.call 42 (some 119) (.agg (verC 0 ⟨#[]⟩ ⟨#[]⟩)) rfl rfl (by kernel_rfl) (by kernel_rfl) (by kernel_rfl) (fun _ _ _ h => h) (by kernel_rfl) 31 Tryd.f31 Tryd.func31 (by kernel_rfl) (by kernel_rfl) _ _ rfl #[.pointer (some ⟨vb, 0, none⟩), .agg (headC p Q), .agg (prC 1 p k s2)] (by first | (simp [Act.eval]; done) | (simp [Act.eval, Act.put]; done)) (fun V hV => C5.out V hV) ?_
  refine AnyS.call 43 (some 120) (.bool true) rfl rfl (by kernel_rfl) (by kernel_rfl) (by kernel_rfl) (fun _ _ _ h => h) (by kernel_rfl) 29 Tryd.f29 Tryd.func29 (by kernel_rfl) (by kernel_rfl) _ _ rfl #[.agg (verC 0 ⟨#[]⟩ ⟨#[]⟩), .int .i64 0] (by first | (simp [Act.eval]; done) | (simp [Act.eval, Act.put]; done)) (fun V hV => I0.out V hV) ?_
  simp only [Act.put, List.setIfInBounds_toArray, List.set_cons_zero, List.set_cons_succ]
  refine AnyS.pure 44 (some 121) (v := .bool true) rfl rfl (by kernel_rfl) (by kernel_rfl) (by kernel_rfl) (fun _ _ _ h => h) (by kernel_rfl) (fun V hV => by rfl) ?_
  refine AnyS.pure 45 (some 8) (v := .bool true) rfl rfl (by kernel_rfl) (by kernel_rfl) (by kernel_rfl) (fun _ _ _ h => h) (by kernel_rfl) (fun V hV => by rfl) ?_
  simp only [Act.put, List.setIfInBounds_toArray, List.set_cons_zero, List.set_cons_succ]
  refine AnyS.done (by kernel_rfl) (fun V hV => ?_) _
  have HB := Lib.hid hV.k1.k0.bel
  clear hV RF
  go_wp2_with fail
  go_ret
  exact ⟨rfl, R1.out.2.1.trans (HB.out.mono R1.out.2.1.size)⟩
theorem own : ownKnob Tryd.prog.godebug = none := by kernel_rfl
theorem laidOut : laidOutB Tryd.prog = true := by kernel_rfl

set_option maxRecDepth 100000 in
theorem lifted (os : Os) (started : os.Started) (H : Type) (enc : TypeId × Value → H) :
    ReturnsInHanded {} Tryd.checked os 5 .any (fun w args => (Rows.auditKindsSpec.pre enc Tryd.prog Tryd.f5 [] false w args ∧ laidMetH Tryd.prog Rows.auditKindsRow.laid w) ∧ sizedMet enc Tryd.prog Tryd.f5 (OpenSpec.ofChange Rows.auditKindsSpec) false w args)
      (Rows.auditKindsSpec.post enc Tryd.prog Tryd.f5 false true false false) := by
  refine returnsInHanded_of_change_and (C := Tryd.checked) (X := fun w _ => laidMetH Tryd.prog Rows.auditKindsRow.laid w) (fun _ _ _ hh h => h.of_heap hh) own started (by kernel_rfl) Tryd.func5
    (ChangeSpec.witness_shaped (enc := enc) (C := Tryd.checked) (os := os) (X := fun w _ => laidMetH Tryd.prog Rows.auditKindsRow.laid w) false (World.doorLaid Tryd.prog 31 os) #[.slice none 0 0, .int .i64 0, .int .i64 0, .int .i64 0] 8 rfl (door_shaped os _) (by kernel_rfl) (by kernel_rfl) (by kernel_rfl) (door_met os _)) ?_
  intro W base args ds gs before hval0 hW _ _ hL _
  have hval : ∀ (j : Nat) t v, Tryd.f5.params[j]? = some t → args[j]? = some v → Value.okWide Tryd.prog W .any base t v := hval0
  have hW' := hW
  obtain ⟨p, q, hA0, hV, rfl, _, _⟩ := hW
  have hA : DataW.TrodAll enc Tryd.prog W 0 (fun _ => true) true Tryd.f5.params.toList args.toList ds p := hA0
  rw [Tryd.params5] at hA hval
  obtain ⟨v0, vs0, d0, ds0, p0, q0, hargs, rfl, rfl, h0, r0⟩ := trodAll_cons hA
  obtain ⟨v1, vs1, d1, ds1, p1, q1, rfl, rfl, rfl, h1, r1⟩ := trodAll_cons r0
  obtain ⟨v2, vs2, d2, ds2, p2, q2, rfl, rfl, rfl, h2, r2⟩ := trodAll_cons r1
  obtain ⟨v3, vs3, d3, ds3, p3, q3, rfl, rfl, rfl, h3, r3⟩ := trodAll_cons r2
  obtain ⟨rfl, rfl, rfl⟩ := trodAll_nil r3
  obtain rfl : args = #[v0, v1, v2, v3] := by cases args; simp_all
  obtain ⟨rfl, rfl⟩ := trodVars_none hV
  obtain ⟨a0, len0, cap0, rfl⟩ := okWide_slice Tryd.underlying22 (hval 0 22 v0 rfl rfl)
  have k0 := h0
  have lt0 : ∀ x ∈ p0, x.block < W.heap.size := by obtain ⟨m, hm⟩ := k0; exact DataW.trod_lt m _ _ _ hm
  have w0 : Arg0 W a0 len0 cap0 := opened0 h0
  obtain ⟨a1, rfl, rfl, rfl, w1⟩ := open_int Tryd.underlying3 (hval 1 3 v1 rfl rfl) h1
  obtain ⟨a2, rfl, rfl, rfl, w2⟩ := open_int Tryd.underlying3 (hval 2 3 v2 rfl rfl) h2
  obtain ⟨a3, rfl, rfl, rfl, w3⟩ := open_int Tryd.underlying3 (hval 3 3 v3 rfl rfl) h3
  clear hA0 hval0
  refine (walk a0 len0 cap0 a1 a2 a3 W w0 w1 w2 w3 (rt_of_laid (rest := []) hL)).mono fun e W' ⟨he, bel⟩ => ?_
  subst he
  exact ⟨_, rfl, _, _, _, [], _, [], hW', trodAll_mk1 (shut_bool Tryd.underlying4 _), (trodAll_cons_mk (Below.trod laidOut (by kernel_rfl) (of_decide_eq_true (by kernel_rfl)) k0 bel lt0) (trodAll_cons_mk (shut_int Tryd.underlying3 w1) (trodAll_cons_mk (shut_int Tryd.underlying3 w2) (trodAll_cons_mk (shut_int Tryd.underlying3 w3) trodAll_mk0)))), rfl, bel.frame _, fun h => by cases h⟩

theorem over : Rows.auditKindsRow.holds Tryd.pinned (OpenSpec.ofChange Rows.auditKindsSpec) :=
  OpenClaim.holds_of_wide 5 Tryd.f5 rfl rfl rfl rfl rfl rfl rfl ⟨rfl, rfl, rfl, rfl, rfl⟩ rfl rfl rfl rfl rfl (by kernel_rfl) Tryd.func5 (by kernel_rfl)
    (of_decide_eq_true (by kernel_rfl)) (by unfold Func.isWrapper; first | (rw [if_pos (by decide +kernel)]; kernel_rfl) | (rw [if_neg (by decide +kernel)]; exact ⟨rfl, rfl⟩))
    (fun os started H enc _ => lifted os started H enc)

theorem plain (f : FuncId) (fn : Func) (hf : Tryd.pinned.checked.prog.funcNamed "hindsight/hindsightlaw25.AuditKinds" = some f) (hfn : Tryd.pinned.checked.prog.funcs[f]? = some fn) :
    (true : Bool) = Tryd.pinned.checked.prog.looks [] ∧ ∀ (j : Nat) t, fn.params[j]? = some t → Tryd.pinned.checked.prog.wantsStandIn t = false := by
  obtain rfl : f = 5 := Option.some.inj ((show Tryd.prog.funcNamed "hindsight/hindsightlaw25.AuditKinds" = some 5 by kernel_rfl).symm.trans hf) |>.symm
  obtain rfl : fn = Tryd.f5 := (Option.some.inj (Tryd.func5.symm.trans hfn)).symm
  refine ⟨by kernel_rfl, fun j t ht => ?_⟩
  rw [Tryd.params5] at ht
  have hm := Array.mem_of_getElem? ht
  simp only [List.mem_toArray, List.mem_cons, List.not_mem_nil, or_false] at hm
  rcases hm with rfl | rfl | rfl | rfl
  · exact (show Tryd.prog.wantsStandIn 22 = false by kernel_rfl)
  · exact (show Tryd.prog.wantsStandIn 3 = false by kernel_rfl)
  · exact (show Tryd.prog.wantsStandIn 3 = false by kernel_rfl)
  · exact (show Tryd.prog.wantsStandIn 3 = false by kernel_rfl)

theorem card : Rows.AuditKindsCardSaid :=
  Claim7.holds_tied_plain_at .later [] _ _ _ _ over (fun _ h => by cases h) (by kernel_rfl) (fun _ h => by cases h) auditKinds_row_tie rfl ⟨rfl, rfl⟩ (by kernel_rfl) rfl plain (by kernel_rfl)

theorem proved : Rows.AuditKindsCardSaid := card

end Go.Proofs.YthbncejbcegmgaaDoor.auditKinds
