/- AuditAny: for every list of texts, all numbers, any text, any proof, any sums and any elder head the law answers true, and its arguments read afterwards as they did. Conditions: the row lists three package-level variables (digest's table of rounds, both tables of math/bits), which the card ties to the program's starting state. -/
import Derived.Test.YtdoadmkaoboncaaGreatDoorZ001
import Derived.Test.YtdoadmkaoboncaaGreatDoorZ008
import Derived.Test.YtdoadmkaoboncaaGreatDoorDigLA
import Derived.Test.YtdoadmkaoboncaaGreatDoorCards
import Derived.Test.YtdoadmkaoboncaaGreatDoorTie
import Derived.ProofKit
import Derived.OpenShut
import Derived.ShutString
import Derived.SevenTiedAt
namespace Go.Proofs.YtdoadmkaoboncaaGreatDoor.auditAny
open Go Go.ChangeShapes Go.WideShapes Go.ChangeAt Go.RowKit Go.Proofs.YtdoadmkaoboncaaGreatDoor.dig Go.Proofs.YtdoadmkaoboncaaGreatDoor.prn Go.Proofs.YtdoadmkaoboncaaGreatDoor.prf Go.Proofs.YtdoadmkaoboncaaGreatDoor.aud Go.Proofs.YtdoadmkaoboncaaGreatDoor.tree
open Go.ChangeMaps (open_string shut_string)

def Arg0 (w : World) (a : Option Addr) (len cap : Nat) : Prop := ∃ T, ArgS w a len cap T
theorem opened0 {H : Type} {enc : TypeId × Value → H} {w : World} {spare : Nat → Bool} {held : Bool} {a : Option Addr} {len cap : Nat} {d : DataW H} {p : List MemPlace} (h : DataW.Trod enc Tryz.prog w 0 spare held 22 (.slice a len cap) d p) : Arg0 w a len cap := openedStrs h
abbrev Arg5 := Arg0
theorem opened5 {H : Type} {enc : TypeId × Value → H} {w : World} {spare : Nat → Bool} {held : Bool} {a : Option Addr} {len cap : Nat} {d : DataW H} {p : List MemPlace} (h : DataW.Trod enc Tryz.prog w 0 spare held 22 (.slice a len cap) d p) : Arg5 w a len cap := openedStrs h
set_option maxRecDepth 100000 in
theorem openedS4 {H : Type} {enc : TypeId × Value → H} {w W : World} {spare : Nat → Bool} {held : Bool} {r : Reach} {b0 : Nat} {v : Value} {d : DataW H} {p : List MemPlace}
    (hw : Value.okWide Tryz.prog W r b0 25 v) (h : DataW.Trod enc Tryz.prog w 0 spare held 25 v d p) : ∃ q : PrA, Sms w q.v q.r ∧ v = q.val := opened_proof hw h
theorem args_below {w w' : World} {a : Option Addr} {len cap : Nat} {T : Nat → ByteArray} (h : ArgS w a len cap T) (b : Below w.heap.size w w') : ArgS w' a len cap T := ⟨h.1, h.2.1, fun k hk => by
    obtain ⟨gb, go, h1, h2, h3, h4⟩ := h.2.2 k hk
    exact ⟨gb, go, h1, Nat.lt_of_lt_of_le h2 b.size, by rw [← h3]; unfold World.cell?; rw [b.block gb h2], h4⟩⟩
theorem wp_held_name {P : Program} {c : Code} {Q : Exit → Act → World → Prop} {a : Act} {w : World} (h : ∀ V, w = V → c.wp P Q a V) : c.wp P Q a w := h w rfl

/-- What lasts: the vault, the document's, the proof's box. -/
structure A0 (w : World) (vb gd k fl : Nat) (a : Option Addr) (c : Nat) (L : List ByteArray) (pc : Array Value) (V : World) : Prop where
  va : ∃ F, Va w.heap.size F V vb L fl ∧ ∀ j, F j → w.heap.size < j
  d : Has V gd 29 #[.slice a k c, .int .i64 fl]
  str : Strs V (.slice a k c) L
  p : Has V w.heap.size 25 pc
  bel : Below w.heap.size w V
theorem A0.below {w : World} {vb gd k fl : Nat} {a : Option Addr} {c : Nat} {L : List ByteArray} {pc : Array Value} {V V' : World} (h : A0 w vb gd k fl a c L pc V) (b : Below V.heap.size V V') : A0 w vb gd k fl a c L pc V' :=
  ⟨by obtain ⟨F, v, hf⟩ := h.va; exact ⟨F, v.below b, hf⟩, h.d.below b h.d.lt, ⟨h.str.1.below b (fun x hx => h.str.1.lt hx), h.str.2⟩, h.p.below b h.p.lt, h.bel.trans (b.mono h.bel.size)⟩

theorem A0.turn {w : World} {vb gd k fl : Nat} {a : Option Addr} {c : Nat} {L : List ByteArray} {pc pc' : Array Value} {V V' : World} (h : A0 w vb gd k fl a c L pc V) (t : Turn (fun j => j = w.heap.size) V V') (hp : Has V' w.heap.size 25 pc') : A0 w vb gd k fl a c L pc' V' :=
  ⟨by obtain ⟨F, v, hf⟩ := h.va; exact ⟨F, v.turn t (fun j hj _ e => by have := hf j hj; omega) (fun j e => by omega), hf⟩,
   h.d.turn t (fun e => absurd (h.d.uniq (by rw [e]; exact h.p)).2 (by decide)),
   ⟨h.str.1.turn t (fun x hx e => h.str.1.ne h.p (by decide) (by rw [hx, e])), h.str.2⟩, hp, h.bel.trans (t.below h.bel.size (fun j hj e => by omega))⟩
theorem low_va {B B' : Nat} {F : Nat → Prop} {V : World} {vb fl : Nat} {L : List ByteArray} (h : Va B F V vb L fl) (hR : Rt B' V) (hle : B' ≤ B) : Va B' F V vb L fl := by
  obtain ⟨T, tb, first, cv, r⟩ := h.raw
  exact ⟨⟨T, tb, first, cv, ⟨r.own, ⟨r.tree.raw, hR, fun k hk => Nat.le_trans hle (r.tree.hF k hk), r.tree.len, r.tree.small, r.tree.floor⟩, r.seg, r.first, r.fv, r.ft, r.fc⟩⟩, fun k hk => Nat.le_trans hle (h.hF k hk), h.short⟩

/-- What lasts in the last region. -/
structure A1 (w : World) (vb gd k fl : Nat) (a : Option Addr) (c : Nat) (L : List ByteArray) (pc : Array Value) (g1 g2 : Nat) (qc hc : Array Value) (sv tv : Value) (r : List (List UInt8)) (V : World) : Prop where
  a0 : A0 w vb gd k fl a c L pc V
  q : Has V g1 36 qc
  h : Has V g2 41 hc
  ss : SmS V sv r
  tt : Tst V tv r
theorem A1.below {w : World} {vb gd k fl : Nat} {a : Option Addr} {c : Nat} {L : List ByteArray} {pc : Array Value} {g1 g2 : Nat} {qc hc : Array Value} {sv tv : Value} {r : List (List UInt8)} {V V' : World} (h : A1 w vb gd k fl a c L pc g1 g2 qc hc sv tv r V) (b : Below V.heap.size V V') : A1 w vb gd k fl a c L pc g1 g2 qc hc sv tv r V' :=
  ⟨h.a0.below b, h.q.below b h.q.lt, h.h.below b h.h.lt, h.ss.below b, h.tt.below b⟩

set_option maxRecDepth 100000 in
set_option maxHeartbeats 8000000 in
theorem walk (a0 : Option Addr) (len0 cap0 : Nat) (n f : Int) (tx : ByteArray) (p : PrA) (a5 : Option Addr) (len5 cap5 : Nat) (m0 : Int) (old0 : ByteArray) (w : World) (hA : Arg0 w a0 len0 cap0) (_hn : (Lit.int .i64 n).wf = true) (_hf : (Lit.int .i64 f).wf = true) (htx : tx.size ≤ maxLen) (_hp : Sms w p.v p.r)
    (hA5 : Arg5 w a5 len5 cap5) (_hm : (Lit.int .i64 m0).wf = true) (_ho : old0.size ≤ maxLen) (hP : Rt w.heap.size w) :
    Calls Tryz.prog 3 #[.slice a0 len0 cap0, .int .i64 n, .int .i64 f, .string tx, p.val, .slice a5 len5 cap5, .int .i64 m0, .string old0] w fun en w' => en = .returned (.bool true) ∧ Below w.heap.size w w' := by
  obtain ⟨K, I0, N0, v0, r0⟩ := p
  show Calls Tryz.prog 3 #[.slice a0 len0 cap0, .int .i64 n, .int .i64 f, .string tx, .agg (prC K I0 N0 v0), .slice a5 len5 cap5, .int .i64 m0, .string old0] w _
  obtain ⟨T, hT⟩ := hA
  obtain ⟨T5, hT5⟩ := hA5
  obtain ⟨k, hk⟩ : ∃ k : Nat, (k : Int) = min (max n 0) 16 := ⟨(min (max n 0) 16).toNat, by omega⟩
  obtain ⟨fl, hfl⟩ : ∃ fl : Nat, (fl : Int) = min (max f 0) (k : Int) := ⟨(min (max f 0) (k : Int)).toNat, by omega⟩
  have HK := Lib.hid (show _ ∧ _ ∧ _ from ⟨hk, hfl, (by omega : k ≤ 16)⟩)
  obtain ⟨text, htext⟩ : ∃ t, t = tx.extract 0 20 := ⟨_, rfl⟩
  have HTS : Hid (text.size ≤ 20) := Lib.hid (by rw [htext, ByteArray.size_extract]; omega)
  have HCT : Hid (∀ V, Calls Tryz.prog 7 #[.string tx, .int .i64 20] V fun en w' => en = .returned (.string text) ∧ V = w') := Lib.hid fun V => by rw [htext]; exact cut_any tx 20 V (by omega) htx
  obtain ⟨x1, hx1⟩ : ∃ x : Int, max N0 (-2) = x := ⟨_, rfl⟩
  obtain ⟨N, hN⟩ : ∃ x : Int, min x1 40 = x := ⟨_, rfl⟩
  obtain ⟨x2, hx2⟩ : ∃ x : Int, max I0 (-2) = x := ⟨_, rfl⟩
  obtain ⟨I, hI⟩ : ∃ x : Int, min x2 40 = x := ⟨_, rfl⟩
  obtain ⟨x3, hx3⟩ : ∃ x : Int, max m0 (-2) = x := ⟨_, rfl⟩
  obtain ⟨m, hm⟩ : ∃ x : Int, min x3 40 = x := ⟨_, rfl⟩
  obtain ⟨old, hold⟩ : ∃ o, o = pad old0.data.toList := ⟨_, rfl⟩
  have HOL : Hid (old.length = 32) := Lib.hid (by rw [hold]; exact pad_len _)
  have HSM : Hid (∀ V, Calls Tryz.prog 9 #[.string old0] V fun en w' => en = .returned (.agg (cellsOf old)) ∧ Below V.heap.size V w') := Lib.hid fun V => by rw [hold]; exact lsum_calls old0 V
  have HT := Lib.hid (show _ ∧ _ ∧ _ from ⟨hT, hP, hT5⟩)
  clear hT hP hT5 hk hfl htext htx hold
  go_enter Tryz.func3, Tryz.ntmps3
  go_wp2_with fail
  refine callsName (fun W hW => ?_)
  have B0 : Hid (Below w.heap.size w W ∧ Has W w.heap.size 25 (prC K I0 N0 v0)) := by rw [← hW]; exact Lib.hid ⟨(Below.refl _ _).alloc (Nat.le_refl _) _, made_at _ _ rfl⟩
  clear hW
  refine (awake_calls W (by
    have r := HT.out.2.1.below B0.out.1 (Nat.le_refl _)
    exact ⟨r.rk, r.tz, ⟨Nat.lt_of_lt_of_le r.lo.1 B0.out.1.size, Nat.lt_of_lt_of_le r.lo.2 B0.out.1.size⟩, Nat.le_refl _⟩)).mono ?_
  rintro en w1 ⟨rfl, b1⟩
  have B1 : Hid (Below w.heap.size w w1 ∧ Has w1 w.heap.size 25 (prC K I0 N0 v0)) := Lib.hid ⟨B0.out.1.trans (b1.mono B0.out.1.size), B0.out.2.below b1 B0.out.2.lt⟩
  clear b1 B0
  go_wp2_with fail
  refine (made_calls a0 len0 cap0 T n f w1 (args_below HT.out.1 B1.out.1) (by
    have r := HT.out.2.1.below B1.out.1 (Nat.le_refl _)
    exact ⟨r.rk, r.tz, ⟨Nat.lt_of_lt_of_le r.lo.1 B1.out.1.size, Nat.lt_of_lt_of_le r.lo.2 B1.out.1.size⟩, Nat.le_refl _⟩) k fl HK.out.1 HK.out.2.1).mono ?_
  rintro en w2 ⟨vb, a, c, L, rfl, va2, st2, hL, b2⟩
  have HL := Lib.hid hL
  obtain ⟨W2, hW2⟩ : ∃ W, W = w2.alloc (.cells #[.slice a k c, .int .i64 fl] 29) := ⟨_, rfl⟩
  obtain ⟨gd, hgd⟩ : ∃ g, g = w2.heap.size := ⟨_, rfl⟩
  have R2 : Hid (A0 w vb gd k fl a c L (prC K I0 N0 v0) W2) := by
    have bb : Below w2.heap.size w2 W2 := by rw [hW2]; exact (Below.refl _ _).alloc (Nat.le_refl _) _
    exact Lib.hid ⟨⟨_, (low_va va2 (HT.out.2.1.below (B1.out.1.trans (b2.mono B1.out.1.size)) (Nat.le_refl _)) B1.out.1.size).below bb, fun j hj => Nat.lt_of_lt_of_le B1.out.2.lt hj.1⟩, by rw [hW2, hgd]; exact made_at _ _ rfl, ⟨st2.1.below bb (fun x hx => st2.1.lt hx), st2.2⟩, (B1.out.2.below b2 B1.out.2.lt).below bb (B1.out.2.below b2 B1.out.2.lt).lt, (B1.out.1.trans (b2.mono B1.out.1.size)).trans (bb.mono (B1.out.1.trans (b2.mono B1.out.1.size)).size)⟩
  have HW2 := Lib.hid (show _ ∧ _ from ⟨hW2, hgd⟩)
  clear va2 st2 b2 hL B1 hW2 hgd
  go_wp2_with fail
  refine callsName (fun W hW => ?_)
  obtain rfl : W2 = W := by rw [HW2.out.1]; exact hW
  rw [← HW2.out.2]
  clear hW HW2
  refine (HCT.out W2).mono ?_
  rintro en wx ⟨rfl, rfl⟩
  clear HCT
  go_wp2_with fail
  refine (lsums_calls a5 len5 cap5 T5 W2 (args_below HT.out.2.2 R2.out.bel)).mono ?_
  rintro en w3 ⟨sv, tv, r, rfl, hr12, ss, tt, _, _, b3⟩
  obtain ⟨sa, sc, rfl, _, _⟩ := ss.slice
  obtain ⟨ta, tc, rfl, _, _⟩ := tt.slice
  obtain ⟨lr, hlr⟩ : ∃ lr, lr = r.length := ⟨_, rfl⟩
  rw [← hlr] at ss tt ⊢
  have HLR := Lib.hid hlr
  have R3 : Hid (A0 w vb gd k fl a c L (prC K I0 N0 v0) w3 ∧ SmS w3 (.slice sa lr sc) r ∧ Tst w3 (.slice ta lr tc) r) := Lib.hid ⟨R2.out.below b3, ss, tt⟩
  clear ss tt b3 R2 hr12 hlr HT
  have q0 : w3.cell? ⟨w.heap.size, 0, none⟩ = some (.int .i64 K) := R3.out.1.p.cell 0
  have q1 : w3.cell? ⟨w.heap.size, 1, none⟩ = some (.int .i64 I0) := R3.out.1.p.cell 1
  have q2 : w3.cell? ⟨w.heap.size, 2, none⟩ = some (.int .i64 N0) := R3.out.1.p.cell 2
  have q3 : w3.cell? ⟨w.heap.size, 3, none⟩ = some v0 := R3.out.1.p.cell 3
  have z1 : w3.frozen? ⟨w.heap.size, 1, none⟩ = false := R3.out.1.p.free 1
  have z2 : w3.frozen? ⟨w.heap.size, 2, none⟩ = false := R3.out.1.p.free 2
  have z3 : w3.frozen? ⟨w.heap.size, 3, none⟩ = false := R3.out.1.p.free 3
  go_wp2_with fail
  refine callsName (fun W hW => ?_)
  obtain ⟨g21, hg21⟩ : ∃ g, g = w3.heap.size := ⟨_, rfl⟩
  have S4 : Hid (A0 w vb gd k fl a c L (prC K I N (.slice sa lr sc)) W ∧ SmS W (.slice sa lr sc) r ∧ Tst W (.slice ta lr tc) r ∧ Has W g21 36 (prC K I N (.slice ta lr tc))) := by
    have h := R3.out
    obtain ⟨W', hW'⟩ : ∃ W', W' = ((w3.setCell ⟨w.heap.size, 3, none⟩ (.slice sa lr sc)).setCell ⟨w.heap.size, 2, none⟩ (.int .i64 N)).setCell ⟨w.heap.size, 1, none⟩ (.int .i64 I) := ⟨_, rfl⟩
    have t : Turn (fun j => j = w.heap.size) w3 W' := by rw [hW']; exact (((Turn.refl (fun j => j = w.heap.size) w3).put (fun _ => rfl) _ _).put (fun _ => rfl) _ _).put (fun _ => rfl) _ _
    have hp : Has W' w.heap.size 25 (prC K I N (.slice sa lr sc)) := by rw [hW']; exact ((h.1.p.put 3 (.slice sa lr sc)).put 2 (.int .i64 N)).put 1 (.int .i64 I)
    have hsz : W'.heap.size = w3.heap.size := by rw [hW']; simp
    have b : Below W'.heap.size W' W := by rw [← hW, ← hW']; exact (Below.refl _ _).alloc (Nat.le_refl _) _
    refine Lib.hid ⟨(h.1.turn t hp).below b, ?_, ?_, by rw [← hW, ← hW', hg21, ← hsz]; exact made_at _ _ rfl⟩
    · exact SmS.below ⟨h.2.1.1.turn t (fun x hx e => h.2.1.1.ne h.1.p (by decide) (by rw [hx, e])), h.2.1.2⟩ b
    · exact Tst.below ⟨h.2.2.1.turn t (fun x hx e => h.2.2.1.ne h.1.p (by decide) (by rw [hx, e])), h.2.2.2⟩ b
  rw [← hg21]
  clear hW hg21 R3 q0 q1 q2 q3 z1 z2 z3 hx1 hN hx2 hI hx3 hm
  refine (HSM.out W).mono ?_
  rintro en w5 ⟨rfl, b5⟩
  have S5 : Hid (A0 w vb gd k fl a c L (prC K I N (.slice sa lr sc)) w5 ∧ SmS w5 (.slice sa lr sc) r ∧ Tst w5 (.slice ta lr tc) r ∧ Has w5 g21 36 (prC K I N (.slice ta lr tc))) := Lib.hid ⟨S4.out.1.below b5, S4.out.2.1.below b5, S4.out.2.2.1.below b5, S4.out.2.2.2.below b5 S4.out.2.2.2.lt⟩
  clear b5 S4 HSM
  obtain ⟨g22, hg22⟩ : ∃ g, g = w5.heap.size := ⟨_, rfl⟩
  go_wp2_with (first
    | ((with_reducible refine at_op 65 ?_); refine wpList_head (o := ⟨some 65, _, _, _, _, _⟩) rfl (.tmp 62) (.tmp 64) rfl m old rfl rfl HOL.out ?_)
    | ((with_reducible refine at_store (.tmp 22) ?_); refine wpList_store_head (o := ⟨none, _, _, _, _, _⟩) rfl (.tmp 22) (.tmp 65) rfl w5.heap.size m 0 old (List.replicate 32 0) rfl rfl (made_at _ _ rfl) HOL.out (by simp) ?_; intro Wb HWb TWb;
       (have SF : Hid (A1 w vb gd k fl a c L (prC K I N (.slice sa lr sc)) g21 w5.heap.size (prC K I N (.slice ta lr tc)) (headC m old) (.slice sa lr sc) (.slice ta lr tc) r Wb) := (by
         have bb : Below w5.heap.size w5 Wb := ((Below.refl _ _).alloc (Nat.le_refl _) _).trans (TWb.below (by simp) (fun j hj e => by omega))
         exact Lib.hid ⟨S5.out.1.below bb, S5.out.2.2.2.below bb S5.out.2.2.2.lt, HWb, S5.out.2.1.below bb, S5.out.2.2.1.below bb⟩));
       clear HWb TWb S5)
    | fail)
  rw [← hg22] at SF ⊢
  clear hg22
  obtain ⟨kL, hkL⟩ : ∃ x, x = wantL L fl text K I N r := ⟨_, rfl⟩
  obtain ⟨kP, hkP⟩ : ∃ x, x = wantP L fl m old K I N r := ⟨_, rfl⟩
  have HLF : Hid (∀ V, A1 w vb gd k fl a c L (prC K I N (.slice sa lr sc)) g21 g22 (prC K I N (.slice ta lr tc)) (headC m old) (.slice sa lr sc) (.slice ta lr tc) r V → Calls Tryz.prog 11 #[.pointer (some ⟨vb, 0, none⟩), .string text, .agg (prC K I N (.slice sa lr sc))] V (VerdPost V kL)) := Lib.hid fun V hV => by
    obtain ⟨F, va, _⟩ := hV.a0.va
    have h := aleaf_all va (by have := HK.out; have := HL.out; omega) va.short text (by have := HTS.out; omega) K I N r sa sc (by rw [← HLR.out]; exact hV.ss)
    rw [← HLR.out, ← hkL] at h
    exact h
  have HPF : Hid (∀ V, A1 w vb gd k fl a c L (prC K I N (.slice sa lr sc)) g21 g22 (prC K I N (.slice ta lr tc)) (headC m old) (.slice sa lr sc) (.slice ta lr tc) r V → Calls Tryz.prog 13 #[.pointer (some ⟨vb, 0, none⟩), .agg (headC m old), .agg (prC K I N (.slice sa lr sc))] V (VerdPost V kP)) := Lib.hid fun V hV => by
    obtain ⟨F, va, _⟩ := hV.a0.va
    have h := aprefix_all va (by have := HK.out; have := HL.out; omega) va.short m HOL.out K I N r sa sc (by rw [← HLR.out]; exact hV.ss)
    rw [← HLR.out, ← hkP] at h
    exact h
  have HRL : Hid (∀ V, A1 w vb gd k fl a c L (prC K I N (.slice sa lr sc)) g21 g22 (prC K I N (.slice ta lr tc)) (headC m old) (.slice sa lr sc) (.slice ta lr tc) r V → Calls Tryz.prog 12 #[.agg #[.slice a k c, .int .i64 fl], .string text, .agg (prC K I N (.slice ta lr tc))] V fun en w' => en = .returned (.int .i64 kL) ∧ Below V.heap.size V w') := Lib.hid fun V hV => by
    have h := rleafA_calls (a := a) (c := c) (a2 := ta) (c2 := tc) L (by have := HK.out; have := HL.out; omega) fl text (by have := HTS.out; omega) K I N r V (by rw [HL.out]; exact hV.a0.str) (by rw [← HLR.out]; exact hV.tt)
    rw [← HLR.out, ← hkL, HL.out] at h
    exact h
  have HRP : Hid (∀ V, A1 w vb gd k fl a c L (prC K I N (.slice sa lr sc)) g21 g22 (prC K I N (.slice ta lr tc)) (headC m old) (.slice sa lr sc) (.slice ta lr tc) r V → Calls Tryz.prog 14 #[.agg #[.slice a k c, .int .i64 fl], .int .i64 m, .string (bs old), .agg (prC K I N (.slice ta lr tc))] V fun en w' => en = .returned (.int .i64 kP) ∧ Below V.heap.size V w') := Lib.hid fun V hV => by
    have h := rprefA_calls (a := a) (c := c) (a2 := ta) (c2 := tc) L (by have := HK.out; have := HL.out; omega) fl m HOL.out K I N r V (by rw [HL.out]; exact hV.a0.str) (by rw [← HLR.out]; exact hV.tt)
    rw [← HLR.out, ← hkP, HL.out] at h
    exact h
  have HRK : Hid (∀ V, A1 w vb gd k fl a c L (prC K I N (.slice sa lr sc)) g21 g22 (prC K I N (.slice ta lr tc)) (headC m old) (.slice sa lr sc) (.slice ta lr tc) r V → Rk V) := Lib.hid fun V hV => by
    obtain ⟨F, va, _⟩ := hV.a0.va
    exact va.rt.rk
  clear hkL hkP
  refine Go.wp_region_held (S := A1 w vb gd k fl a c L (prC K I N (.slice sa lr sc)) g21 g22 (prC K I N (.slice ta lr tc)) (headC m old) (.slice sa lr sc) (.slice ta lr tc) r) (by kernel_rfl) ?_
  have S0 := SF.out.below (Below.refl _ _).drew
  clear SF
  refine held_take 0 (some 66) (v := .pointer (some ⟨vb, 0, none⟩)) rfl rfl (by kernel_rfl) (by kernel_rfl) (by kernel_rfl) (fun _ _ _ h => h) (.inl ⟨by kernel_rfl, fun V hV => by rfl⟩) S0 ?_
  simp only [Act.put, List.setIfInBounds_toArray, List.set_cons_zero, List.set_cons_succ]
  refine held_take 1 (some 67) (v := .string text) rfl rfl (by kernel_rfl) (by kernel_rfl) (by kernel_rfl) (fun _ _ _ h => h) (.inl ⟨by kernel_rfl, fun V hV => by rfl⟩) S0 ?_
  simp only [Act.put, List.setIfInBounds_toArray, List.set_cons_zero, List.set_cons_succ]
  refine held_take 2 (some 68) (v := .agg (prC K I N (.slice sa lr sc))) rfl rfl (by kernel_rfl) (by kernel_rfl) (by kernel_rfl) (fun _ _ _ h => h) (.inl ⟨by kernel_rfl, fun V hV => by exact exec_load 25 (.tmp 12) rfl (.pointer (some ⟨w.heap.size, 0, none⟩)) (by kernel_rfl) (run_loadAt_mid V w.heap.size 0 25 [.int .i64 K, .int .i64 I, .int .i64 N, .slice sa lr sc] _ (Has.range hV.a0.p) Tryz.underlying25 rfl (by kernel_rfl))⟩) S0 ?_
  simp only [Act.put, List.setIfInBounds_toArray, List.set_cons_zero, List.set_cons_succ]
  refine held_take 4 (some 70) (v := .agg #[.slice a k c, .int .i64 fl]) rfl rfl (by kernel_rfl) (by kernel_rfl) (by kernel_rfl) (fun _ _ _ h => h) (.inl ⟨by kernel_rfl, fun V hV => by exact exec_load 29 (.tmp 18) rfl (.pointer (some ⟨gd, 0, none⟩)) (by kernel_rfl) (run_loadAt_mid V gd 0 29 [.slice a k c, .int .i64 fl] _ (Has.range hV.a0.d) Tryz.underlying29 rfl (by kernel_rfl))⟩) S0 ?_
  simp only [Act.put, List.setIfInBounds_toArray, List.set_cons_zero, List.set_cons_succ]
  refine held_take 5 (some 71) (v := .string text) rfl rfl (by kernel_rfl) (by kernel_rfl) (by kernel_rfl) (fun _ _ _ h => h) (.inl ⟨by kernel_rfl, fun V hV => by rfl⟩) S0 ?_
  simp only [Act.put, List.setIfInBounds_toArray, List.set_cons_zero, List.set_cons_succ]
  refine held_take 6 (some 72) (v := .agg (prC K I N (.slice ta lr tc))) rfl rfl (by kernel_rfl) (by kernel_rfl) (by kernel_rfl) (fun _ _ _ h => h) (.inl ⟨by kernel_rfl, fun V hV => by exact exec_load 36 (.tmp 21) rfl (.pointer (some ⟨g21, 0, none⟩)) (by kernel_rfl) (run_loadAt_mid V g21 0 36 [.int .i64 K, .int .i64 I, .int .i64 N, .slice ta lr tc] _ (Has.range hV.q) Tryz.underlying36 rfl (by kernel_rfl))⟩) S0 ?_
  simp only [Act.put, List.setIfInBounds_toArray, List.set_cons_zero, List.set_cons_succ]
  refine held_one (i := 3) (by kernel_rfl) ?_
  refine wpOp_call (some 69) rfl rfl (by kernel_rfl) 11 Tryz.f11 Tryz.func11 (by kernel_rfl) (by kernel_rfl) _ _ rfl #[.pointer (some ⟨vb, 0, none⟩), .string text, .agg (prC K I N (.slice sa lr sc))] (by first | (simp [Act.eval]; done) | (simp [Act.eval, Act.put]; done)) (HLF.out _ S0) ?_
  rintro en w20 ⟨x1, y1, rfl, hf1, b20⟩
  have S1 := S0.below b20
  refine ⟨.agg (verC kL x1 y1), rfl, S1, ?_⟩
  simp only [Act.put, List.setIfInBounds_toArray, List.set_cons_zero, List.set_cons_succ]
  refine held_one (i := 7) (by kernel_rfl) ?_
  refine wpOp_call (some 73) rfl rfl (by kernel_rfl) 12 Tryz.f12 Tryz.func12 (by kernel_rfl) (by kernel_rfl) _ _ rfl #[.agg #[.slice a k c, .int .i64 fl], .string text, .agg (prC K I N (.slice ta lr tc))] (by first | (simp [Act.eval]; done) | (simp [Act.eval, Act.put]; done)) (HRL.out _ S1) ?_
  rintro en w21 ⟨rfl, b21⟩
  have S2 := S1.below b21
  refine ⟨.int .i64 kL, rfl, S2, ?_⟩
  simp only [Act.put, List.setIfInBounds_toArray, List.set_cons_zero, List.set_cons_succ]
  refine held_one (i := 8) (by kernel_rfl) ?_
  refine wpOp_call (some 74) rfl rfl (by kernel_rfl) 10 Tryz.f10 Tryz.func10 (by kernel_rfl) (by kernel_rfl) _ _ rfl #[.agg (verC kL x1 y1), .int .i64 kL] (by first | (simp [Act.eval]; done) | (simp [Act.eval, Act.put]; done)) (fits_is hf1 _ (HRK.out _ S2)) ?_
  rintro en w22 ⟨rfl, b22⟩
  have S3 := S2.below b22
  refine ⟨.bool true, rfl, S3, ?_⟩
  simp only [Act.put, List.setIfInBounds_toArray, List.set_cons_zero, List.set_cons_succ]
  refine held_take 9 (some 75) (v := .bool true) rfl rfl (by kernel_rfl) (by kernel_rfl) (by kernel_rfl) (fun _ _ _ h => h) (.inl ⟨by kernel_rfl, fun V hV => by rfl⟩) S3 ?_
  simp only [Act.put, List.setIfInBounds_toArray, List.set_cons_zero, List.set_cons_succ]
  refine held_take 10 (some 76) (v := .pointer (some ⟨vb, 0, none⟩)) rfl rfl (by kernel_rfl) (by kernel_rfl) (by kernel_rfl) (fun _ _ _ h => h) (.inl ⟨by kernel_rfl, fun V hV => by rfl⟩) S3 ?_
  simp only [Act.put, List.setIfInBounds_toArray, List.set_cons_zero, List.set_cons_succ]
  refine held_take 11 (some 77) (v := .agg (headC m old)) rfl rfl (by kernel_rfl) (by kernel_rfl) (by kernel_rfl) (fun _ _ _ h => h) (.inl ⟨by kernel_rfl, fun V hV => by exact exec_load 41 (.tmp 22) rfl (.pointer (some ⟨g22, 0, none⟩)) (by kernel_rfl) (prf.Has.load_hd hV.h HOL.out)⟩) S3 ?_
  simp only [Act.put, List.setIfInBounds_toArray, List.set_cons_zero, List.set_cons_succ]
  refine held_take 12 (some 78) (v := .agg (prC K I N (.slice sa lr sc))) rfl rfl (by kernel_rfl) (by kernel_rfl) (by kernel_rfl) (fun _ _ _ h => h) (.inl ⟨by kernel_rfl, fun V hV => by exact exec_load 25 (.tmp 12) rfl (.pointer (some ⟨w.heap.size, 0, none⟩)) (by kernel_rfl) (run_loadAt_mid V w.heap.size 0 25 [.int .i64 K, .int .i64 I, .int .i64 N, .slice sa lr sc] _ (Has.range hV.a0.p) Tryz.underlying25 rfl (by kernel_rfl))⟩) S3 ?_
  simp only [Act.put, List.setIfInBounds_toArray, List.set_cons_zero, List.set_cons_succ]
  refine held_take 14 (some 80) (v := .agg #[.slice a k c, .int .i64 fl]) rfl rfl (by kernel_rfl) (by kernel_rfl) (by kernel_rfl) (fun _ _ _ h => h) (.inl ⟨by kernel_rfl, fun V hV => by exact exec_load 29 (.tmp 18) rfl (.pointer (some ⟨gd, 0, none⟩)) (by kernel_rfl) (run_loadAt_mid V gd 0 29 [.slice a k c, .int .i64 fl] _ (Has.range hV.a0.d) Tryz.underlying29 rfl (by kernel_rfl))⟩) S3 ?_
  simp only [Act.put, List.setIfInBounds_toArray, List.set_cons_zero, List.set_cons_succ]
  refine held_take 15 (some 81) (v := .int .i64 m) rfl rfl (by kernel_rfl) (by kernel_rfl) (by kernel_rfl) (fun _ _ _ h => h) (.inl ⟨by kernel_rfl, fun V hV => by rfl⟩) S3 ?_
  simp only [Act.put, List.setIfInBounds_toArray, List.set_cons_zero, List.set_cons_succ]
  refine held_take 16 (some 82) (v := .pointer (some ⟨g22, 1, none⟩)) rfl rfl (by kernel_rfl) (by kernel_rfl) (by kernel_rfl) (fun _ _ _ h => h) (.inl ⟨by kernel_rfl, fun V hV => by go_simp⟩) S3 ?_
  simp only [Act.put, List.setIfInBounds_toArray, List.set_cons_zero, List.set_cons_succ]
  refine held_take 17 (some 83) (v := .slice (some ⟨g22, 1, none⟩) 32 32) rfl rfl (by kernel_rfl) (by kernel_rfl) (by kernel_rfl) (fun _ _ _ h => h) (.inl ⟨by kernel_rfl, fun V hV => by go_simp⟩) S3 ?_
  simp only [Act.put, List.setIfInBounds_toArray, List.set_cons_zero, List.set_cons_succ]
  refine held_take 18 (some 84) (v := .string (bs old)) rfl rfl (by kernel_rfl) (by kernel_rfl) (by kernel_rfl) (fun _ _ _ h => h) (.inl ⟨by kernel_rfl, fun V hV => by have hcv := run_convert_bytes_back (P := Tryz.prog) V 51 9 5 ⟨g22, 1, none⟩ 32 old Tryz.underlying51 Tryz.underlying5 Tryz.underlying9 (fun j hj => by rw [Addr.add_mid]; exact prf.Has.root hV.h j _ (by rw [List.getElem?_map, List.getElem?_eq_getElem hj]; rfl)); rw [HOL.out] at hcv; go_simp; first | done | rfl⟩) S3 ?_
  simp only [Act.put, List.setIfInBounds_toArray, List.set_cons_zero, List.set_cons_succ]
  refine held_take 19 (some 85) (v := .agg (prC K I N (.slice ta lr tc))) rfl rfl (by kernel_rfl) (by kernel_rfl) (by kernel_rfl) (fun _ _ _ h => h) (.inl ⟨by kernel_rfl, fun V hV => by exact exec_load 36 (.tmp 21) rfl (.pointer (some ⟨g21, 0, none⟩)) (by kernel_rfl) (run_loadAt_mid V g21 0 36 [.int .i64 K, .int .i64 I, .int .i64 N, .slice ta lr tc] _ (Has.range hV.q) Tryz.underlying36 rfl (by kernel_rfl))⟩) S3 ?_
  simp only [Act.put, List.setIfInBounds_toArray, List.set_cons_zero, List.set_cons_succ]
  refine held_one (i := 13) (by kernel_rfl) ?_
  refine wpOp_call (some 79) rfl rfl (by kernel_rfl) 13 Tryz.f13 Tryz.func13 (by kernel_rfl) (by kernel_rfl) _ _ rfl #[.pointer (some ⟨vb, 0, none⟩), .agg (headC m old), .agg (prC K I N (.slice sa lr sc))] (by first | (simp [Act.eval]; done) | (simp [Act.eval, Act.put]; done)) (HPF.out _ S3) ?_
  rintro en w23 ⟨x2, y2, rfl, hf2, b23⟩
  have S4 := S3.below b23
  refine ⟨.agg (verC kP x2 y2), rfl, S4, ?_⟩
  simp only [Act.put, List.setIfInBounds_toArray, List.set_cons_zero, List.set_cons_succ]
  refine held_one (i := 20) (by kernel_rfl) ?_
  refine wpOp_call (some 86) rfl rfl (by kernel_rfl) 14 Tryz.f14 Tryz.func14 (by kernel_rfl) (by kernel_rfl) _ _ rfl #[.agg #[.slice a k c, .int .i64 fl], .int .i64 m, .string (bs old), .agg (prC K I N (.slice ta lr tc))] (by first | (simp [Act.eval]; done) | (simp [Act.eval, Act.put]; done)) (HRP.out _ S4) ?_
  rintro en w24 ⟨rfl, b24⟩
  have S5 := S4.below b24
  refine ⟨.int .i64 kP, rfl, S5, ?_⟩
  simp only [Act.put, List.setIfInBounds_toArray, List.set_cons_zero, List.set_cons_succ]
  refine held_one (i := 21) (by kernel_rfl) ?_
  refine wpOp_call (some 87) rfl rfl (by kernel_rfl) 10 Tryz.f10 Tryz.func10 (by kernel_rfl) (by kernel_rfl) _ _ rfl #[.agg (verC kP x2 y2), .int .i64 kP] (by first | (simp [Act.eval]; done) | (simp [Act.eval, Act.put]; done)) (fits_is hf2 _ (HRK.out _ S5)) ?_
  rintro en w25 ⟨rfl, b25⟩
  have S6 := S5.below b25
  refine ⟨.bool true, rfl, S6, ?_⟩
  simp only [Act.put, List.setIfInBounds_toArray, List.set_cons_zero, List.set_cons_succ]
  refine held_take 22 (some 88) (v := .bool true) rfl rfl (by kernel_rfl) (by kernel_rfl) (by kernel_rfl) (fun _ _ _ h => h) (.inl ⟨by kernel_rfl, fun V hV => by rfl⟩) S6 ?_
  simp only [Act.put, List.setIfInBounds_toArray, List.set_cons_zero, List.set_cons_succ]
  refine held_take 23 (some 16) (v := .bool true) rfl rfl (by kernel_rfl) (by kernel_rfl) (by kernel_rfl) (fun _ _ _ h => h) (.inl ⟨by kernel_rfl, fun V hV => by rfl⟩) S6 ?_
  simp only [Act.put, List.setIfInBounds_toArray, List.set_cons_zero, List.set_cons_succ]
  refine wpAnyH_done (by kernel_rfl) ?_ _
  have SG := Lib.hid S6
  clear S0 S1 S2 S3 S4 S5 S6 hf1 hf2 b20 b21 b22 b23 b24 b25
  go_wp2_with fail
  go_ret
  exact ⟨rfl, SG.out.a0.bel⟩
theorem own : ownKnob Tryz.prog.godebug = none := by kernel_rfl
theorem laidOut : laidOutB Tryz.prog = true := by kernel_rfl

set_option maxRecDepth 100000 in
theorem lifted (os : Os) (started : os.Started) (H : Type) (enc : TypeId × Value → H) :
    ReturnsInHanded {} Tryz.checked os 3 .any (fun w args => (Rows.auditAnySpec.pre enc Tryz.prog Tryz.f3 [] false w args ∧ laidMetH Tryz.prog Rows.auditAnyRow.laid w) ∧ sizedMet enc Tryz.prog Tryz.f3 (OpenSpec.ofChange Rows.auditAnySpec) false w args)
      (Rows.auditAnySpec.post enc Tryz.prog Tryz.f3 false true false false) := by
  refine returnsInHanded_of_change_and (C := Tryz.checked) (X := fun w _ => laidMetH Tryz.prog Rows.auditAnyRow.laid w) (fun _ _ _ hh h => h.of_heap hh) own started (by kernel_rfl) Tryz.func3
    (ChangeSpec.witness_shaped (enc := enc) (C := Tryz.checked) (os := os) (X := fun w _ => laidMetH Tryz.prog Rows.auditAnyRow.laid w) false (World.doorLaid Tryz.prog 31 os) #[.slice none 0 0, .int .i64 0, .int .i64 0, .string ByteArray.empty, .agg #[.int .i64 0, .int .i64 0, .int .i64 0, .slice none 0 0], .slice none 0 0, .int .i64 0, .string ByteArray.empty] 8 rfl (door_shaped os _) (by kernel_rfl) (by kernel_rfl) (by kernel_rfl) (door_met os _)) ?_
  intro W base args ds gs before hval0 hW _ _ hL _
  have hval : ∀ (j : Nat) t v, Tryz.f3.params[j]? = some t → args[j]? = some v → Value.okWide Tryz.prog W .any base t v := hval0
  have hW' := hW
  obtain ⟨p, q, hA0, hV, rfl, _, _⟩ := hW
  have hA : DataW.TrodAll enc Tryz.prog W 0 (fun _ => true) true Tryz.f3.params.toList args.toList ds p := hA0
  rw [Tryz.params3] at hA hval
  obtain ⟨v0, vs0, d0, ds0, p0, q0, hargs, rfl, rfl, h0, r0⟩ := trodAll_cons hA
  obtain ⟨v1, vs1, d1, ds1, p1, q1, rfl, rfl, rfl, h1, r1⟩ := trodAll_cons r0
  obtain ⟨v2, vs2, d2, ds2, p2, q2, rfl, rfl, rfl, h2, r2⟩ := trodAll_cons r1
  obtain ⟨v3, vs3, d3, ds3, p3, q3, rfl, rfl, rfl, h3, r3⟩ := trodAll_cons r2
  obtain ⟨v4, vs4, d4, ds4, p4, q4, rfl, rfl, rfl, h4, r4⟩ := trodAll_cons r3
  obtain ⟨v5, vs5, d5, ds5, p5, q5, rfl, rfl, rfl, h5, r5⟩ := trodAll_cons r4
  obtain ⟨v6, vs6, d6, ds6, p6, q6, rfl, rfl, rfl, h6, r6⟩ := trodAll_cons r5
  obtain ⟨v7, vs7, d7, ds7, p7, q7, rfl, rfl, rfl, h7, r7⟩ := trodAll_cons r6
  obtain ⟨rfl, rfl, rfl⟩ := trodAll_nil r7
  obtain rfl : args = #[v0, v1, v2, v3, v4, v5, v6, v7] := by cases args; simp_all
  obtain ⟨rfl, rfl⟩ := trodVars_none hV
  obtain ⟨a0, len0, cap0, rfl⟩ := okWide_slice Tryz.underlying22 (hval 0 22 v0 rfl rfl)
  have k0 := h0
  have lt0 : ∀ x ∈ p0, x.block < W.heap.size := by obtain ⟨m, hm⟩ := k0; exact DataW.trod_lt m _ _ _ hm
  have w0 : Arg0 W a0 len0 cap0 := opened0 h0
  obtain ⟨a1, rfl, rfl, rfl, w1⟩ := open_int Tryz.underlying3 (hval 1 3 v1 rfl rfl) h1
  obtain ⟨a2, rfl, rfl, rfl, w2⟩ := open_int Tryz.underlying3 (hval 2 3 v2 rfl rfl) h2
  obtain ⟨a3, rfl, rfl, rfl, w3⟩ := open_string Tryz.underlying9 (hval 3 9 v3 rfl rfl) h3
  obtain ⟨a4, w4, rfl⟩ := openedS4 (hval 4 25 v4 rfl rfl) h4
  have k4 := h4
  have lt4 : ∀ x ∈ p4, x.block < W.heap.size := by obtain ⟨m, hm⟩ := k4; exact DataW.trod_lt m _ _ _ hm
  obtain ⟨a5, len5, cap5, rfl⟩ := okWide_slice Tryz.underlying22 (hval 5 22 v5 rfl rfl)
  have k5 := h5
  have lt5 : ∀ x ∈ p5, x.block < W.heap.size := by obtain ⟨m, hm⟩ := k5; exact DataW.trod_lt m _ _ _ hm
  have w5 : Arg5 W a5 len5 cap5 := opened5 h5
  obtain ⟨a6, rfl, rfl, rfl, w6⟩ := open_int Tryz.underlying3 (hval 6 3 v6 rfl rfl) h6
  obtain ⟨a7, rfl, rfl, rfl, w7⟩ := open_string Tryz.underlying9 (hval 7 9 v7 rfl rfl) h7
  clear hA0 hval0
  refine (walk a0 len0 cap0 a1 a2 a3 a4 a5 len5 cap5 a6 a7 W w0 w1 w2 w3 w4 w5 w6 w7 (rt_of_laid (rest := []) hL)).mono fun e W' ⟨he, bel⟩ => ?_
  subst he
  exact ⟨_, rfl, _, _, _, [], _, [], hW', trodAll_mk1 (shut_bool Tryz.underlying4 _), (trodAll_cons_mk (Below.trod laidOut (by kernel_rfl) (of_decide_eq_true (by kernel_rfl)) k0 bel lt0) (trodAll_cons_mk (shut_int Tryz.underlying3 w1) (trodAll_cons_mk (shut_int Tryz.underlying3 w2) (trodAll_cons_mk (shut_string Tryz.underlying9 w3) (trodAll_cons_mk (Below.trod laidOut (by kernel_rfl) (of_decide_eq_true (by kernel_rfl)) k4 bel lt4) (trodAll_cons_mk (Below.trod laidOut (by kernel_rfl) (of_decide_eq_true (by kernel_rfl)) k5 bel lt5) (trodAll_cons_mk (shut_int Tryz.underlying3 w6) (trodAll_cons_mk (shut_string Tryz.underlying9 w7) trodAll_mk0)))))))), rfl, bel.frame _, fun h => by cases h⟩

theorem over : Rows.auditAnyRow.holds Tryz.pinned (OpenSpec.ofChange Rows.auditAnySpec) :=
  OpenClaim.holds_of_wide 3 Tryz.f3 rfl rfl rfl rfl rfl rfl rfl ⟨rfl, rfl, rfl, rfl, rfl⟩ rfl rfl rfl rfl rfl (by kernel_rfl) Tryz.func3 (by kernel_rfl)
    (of_decide_eq_true (by kernel_rfl)) (by unfold Func.isWrapper; first | (rw [if_pos (by decide +kernel)]; kernel_rfl) | (rw [if_neg (by decide +kernel)]; exact ⟨rfl, rfl⟩))
    (fun os started H enc _ => lifted os started H enc)

theorem plain (f : FuncId) (fn : Func) (hf : Tryz.pinned.checked.prog.funcNamed "hindsight/hindsightlaw25.AuditAny" = some f) (hfn : Tryz.pinned.checked.prog.funcs[f]? = some fn) :
    (true : Bool) = Tryz.pinned.checked.prog.looks [] ∧ ∀ (j : Nat) t, fn.params[j]? = some t → Tryz.pinned.checked.prog.wantsStandIn t = false := by
  obtain rfl : f = 3 := Option.some.inj ((show Tryz.prog.funcNamed "hindsight/hindsightlaw25.AuditAny" = some 3 by kernel_rfl).symm.trans hf) |>.symm
  obtain rfl : fn = Tryz.f3 := (Option.some.inj (Tryz.func3.symm.trans hfn)).symm
  refine ⟨by kernel_rfl, fun j t ht => ?_⟩
  rw [Tryz.params3] at ht
  have hm := Array.mem_of_getElem? ht
  simp only [List.mem_toArray, List.mem_cons, List.not_mem_nil, or_false] at hm
  rcases hm with rfl | rfl | rfl | rfl | rfl | rfl | rfl | rfl
  · exact (show Tryz.prog.wantsStandIn 22 = false by kernel_rfl)
  · exact (show Tryz.prog.wantsStandIn 3 = false by kernel_rfl)
  · exact (show Tryz.prog.wantsStandIn 3 = false by kernel_rfl)
  · exact (show Tryz.prog.wantsStandIn 9 = false by kernel_rfl)
  · exact (show Tryz.prog.wantsStandIn 25 = false by kernel_rfl)
  · exact (show Tryz.prog.wantsStandIn 22 = false by kernel_rfl)
  · exact (show Tryz.prog.wantsStandIn 3 = false by kernel_rfl)
  · exact (show Tryz.prog.wantsStandIn 9 = false by kernel_rfl)

theorem card : Rows.AuditAnyCardSaid :=
  Claim7.holds_tied_plain_at .later [] _ _ _ _ over (fun _ h => by cases h) (by kernel_rfl) (fun _ h => by cases h) auditAny_row_tie rfl ⟨rfl, rfl⟩ (by kernel_rfl) rfl plain (by kernel_rfl)

theorem proved : Rows.AuditAnyCardSaid := card


end Go.Proofs.YtdoadmkaoboncaaGreatDoor.auditAny
