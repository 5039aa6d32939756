/- StockParts: for every list of ops, every name and every two numbers the law answers true, and its arguments read afterwards as they did. Conditions: none. -/
import Derived.Test.YtfhpcodjmmidhaaStoT
import Derived.ShutString
namespace Go.Proofs.Ytfhpcodjmmidhaa.stock.stockParts
open Go.ChangeShapes Go.WideShapes Go.ChangeAt Go.RowKit Go.Maps
open Go.ChangeMaps (open_string shut_string)

theorem and65535 (n : Int) : bits .and .i64 n 65535 = n % 65536 := by
  have h255 : (BitVec.ofInt 64 65535).toNat = 2 ^ 16 - 1 := by decide
  have key : (BitVec.ofInt 64 n &&& BitVec.ofInt 64 65535).toNat = (n % ((2 ^ 64 : Nat) : Int)).toNat % 2 ^ 16 := by
    rw [BitVec.toNat_and, BitVec.toNat_ofInt, h255, Nat.and_two_pow_sub_one_eq_mod]
  show IntKind.i64.wrap ((BitVec.ofInt 64 n &&& BitVec.ofInt 64 65535).toNat : Nat) = n % 65536
  rw [key, IntKind.wrap_i64]
  omega

theorem calls_name {P : Program} {f : FuncId} {args : Array Value} {w : World} {R : Ending → World → Prop} (h : ∀ W, w = W → Calls P f args W R) : Calls P f args w R := h w rfl

set_option maxRecDepth 100000 in
set_option maxHeartbeats 400000 in
theorem clo_calls (k n : Int) (q : Nat) (to : ByteArray) (w : World) (hq : Has w q 9 #[.string to]) :
    Calls Try.prog 34 #[.int .i64 k, .int .i64 n, .pointer (some ⟨q, 0, none⟩)] w fun en w' => en = .returned (.agg #[.int .i64 k, .string to, .int .i64 n]) ∧ Below w.heap.size w w' := by
  have hz := hq.lt
  have c0 : w.cell? ⟨q, 0, none⟩ = some (.string to) := hq.cell 0
  clear hq
  go_enter Try.func34, Try.ntmps34
  go_wp2_with fail
  refine bodyPost_ret (v := .agg #[.int .i64 k, .string to, .int .i64 n]) (by simp [results, Try.results34, go_sem]) rfl ⟨rfl, turn_box ?_⟩
  repeat (first | exact Turn.refl _ _ | refine Turn.drew ?_ | refine Turn.alloc ?_ _ | refine Turn.put ?_ (fun h => by omega) _ _)

section
variable {H : Type}
def opP (k : Int) (nm : ByteArray) (n : Int) : OpS := ⟨k, nm, n⟩

theorem add_ok {D : DataW H} (I : InvS D) {nm : ByteArray} {n : Int} (h0 : nm ≠ .empty) (hz : nm.size ≤ 12) (h1 : 1 ≤ n) (h2 : amt D nm + n ≤ 1099511627776) (h3 : amt D nm = 0 → Maps.size D < 16) : (doO D (opP 1 nm n)).2 = 0 := by
  have := (I.small nm).1
  have h4 : n ≤ 1099511627776 := by omega
  exact (doS_ok I).2 ⟨chkS_of (.inl rfl) h0 hz h1 h4, fun _ => ⟨h3, h2⟩, fun e => absurd (show (1 : Int) = 2 from e) (by decide)⟩
theorem take_ok {D : DataW H} (I : InvS D) {nm : ByteArray} {n : Int} (h0 : nm ≠ .empty) (hz : nm.size ≤ 12) (h1 : 1 ≤ n) (h2 : n ≤ amt D nm) : (doO D (opP 2 nm n)).2 = 0 := by
  have := (I.small nm).2
  have h4 : n ≤ 1099511627776 := by omega
  exact (doS_ok I).2 ⟨chkS_of (.inr rfl) h0 hz h1 h4, fun e => absurd (show (2 : Int) = 1 from e) (by decide), fun _ => h2⟩
theorem add_amt {D : DataW H} (I : InvS D) {nm : ByteArray} {n : Int} (h : (doO D (opP 1 nm n)).2 = 0) (x : ByteArray) : amt (doO D (opP 1 nm n)).1 x = amt D x + if x = nm then n else 0 := by
  refine (doS_amt I h x).trans ?_
  show amt D x + dltS 1 nm n x = _
  unfold dltS
  rw [if_pos rfl]
theorem take_amt {D : DataW H} (I : InvS D) {nm : ByteArray} {n : Int} (h : (doO D (opP 2 nm n)).2 = 0) (x : ByteArray) : amt (doO D (opP 2 nm n)).1 x = amt D x + if x = nm then -n else 0 := by
  refine (doS_amt I h x).trans ?_
  show amt D x + dltS 2 nm n x = _
  unfold dltS
  rw [if_neg (show ¬ (2 : Int) = 1 by decide)]

/-- All that the law asks. -/
structure Parts (D E : DataW H) (nm : ByteArray) (a b : Int) : Prop where
  k0 : (doO D (opP 1 nm (a + b))).2 = 0
  k1 : (doO E (opP 1 nm a)).2 = 0
  k2 : (doO (doO E (opP 1 nm a)).1 (opP 1 nm b)).2 = 0
  same : Alike (doO (doO E (opP 1 nm a)).1 (opP 1 nm b)).1 (doO D (opP 1 nm (a + b))).1
  k3 : (doO (doO D (opP 1 nm (a + b))).1 (opP 2 nm a)).2 = 0
  k4 : (doO (doO (doO D (opP 1 nm (a + b))).1 (opP 2 nm a)).1 (opP 2 nm b)).2 = 0
  x : Alike (doO (doO (doO D (opP 1 nm (a + b))).1 (opP 2 nm a)).1 (opP 2 nm b)).1 D
  k5 : (doO (doO (doO E (opP 1 nm a)).1 (opP 1 nm b)).1 (opP 2 nm (a + b))).2 = 0
  y : Alike (doO (doO (doO E (opP 1 nm a)).1 (opP 1 nm b)).1 (opP 2 nm (a + b))).1 D

theorem parts_math {D E : DataW H} (I : InvS D) (al : Alike E D) (hz : Maps.size D ≤ 14) {nm : ByteArray} {a b : Int} (h0 : nm ≠ .empty) (hn : nm.size ≤ 12) (ha : 1 ≤ a) (hb : 1 ≤ b) (hab : amt D nm + a + b ≤ 1099511627776) : Parts D E nm a b := by
  have I' : InvS E := Alike.invS al I
  have hs := I.small nm
  have e' := (al.same nm).2
  have k0 := add_ok I h0 hn (n := a + b) (by omega) (by omega) (fun _ => by omega)
  have f0 := add_amt I k0
  have I0 := invS_doO I (opP 1 nm (a + b))
  have k1 := add_ok I' h0 hn (n := a) ha (by omega) (fun _ => by rw [al.size]; omega)
  have f1 := add_amt I' k1
  have I1 := invS_doO I' (opP 1 nm a)
  have e1 := f1 nm
  rw [if_pos rfl] at e1
  have k2 := add_ok I1 h0 hn (n := b) hb (by omega) (fun _ => by omega)
  have f2 := add_amt I1 k2
  have I2 := invS_doO I1 (opP 1 nm b)
  have e0 := f0 nm
  rw [if_pos rfl] at e0
  have e2 := f2 nm
  rw [if_pos rfl] at e2
  have k3 := take_ok I0 h0 hn (n := a) ha (by omega)
  have f3 := take_amt I0 k3
  have I3 := invS_doO I0 (opP 2 nm a)
  have e3 := f3 nm
  rw [if_pos rfl] at e3
  have k4 := take_ok I3 h0 hn (n := b) hb (by omega)
  have f4 := take_amt I3 k4
  have I4 := invS_doO I3 (opP 2 nm b)
  have k5 := take_ok I2 h0 hn (n := a + b) (by omega) (by omega)
  have f5 := take_amt I2 k5
  have I5 := invS_doO I2 (opP 2 nm (a + b))
  refine ⟨k0, k1, k2, alike_of I2 I0 (fun x => ?_), k3, k4, alike_of I4 I (fun x => ?_), k5, alike_of I5 I (fun x => ?_)⟩
  · rw [f2, f1, f0, (al.same x).2]
    split <;> omega
  · rw [f4, f3, f0]
    split <;> omega
  · rw [f5, f2, f1, (al.same x).2]
    split <;> omega
end

/-- The name that is asked for. -/
def nmOf (s : ByteArray) : ByteArray := ⟨#[110]⟩ ++ s.extract 0 10
theorem nmOf_size (s : ByteArray) : (nmOf s).size ≤ 11 := by
  unfold nmOf
  rw [ByteArray.size_append, ByteArray.size_extract]
  have : (⟨#[110]⟩ : ByteArray).size = 1 := rfl
  omega
theorem nmOf_ne (s : ByteArray) : nmOf s ≠ .empty := fun e => by
  have h : (nmOf s).size = 0 := by rw [e]; rfl
  unfold nmOf at h
  rw [ByteArray.size_append] at h
  have : (⟨#[110]⟩ : ByteArray).size = 1 := rfl
  omega

set_option maxRecDepth 100000 in
set_option maxHeartbeats 4000000 in
theorem parts_any (a : Option Addr) (len cap : Nat) (nm0 : ByteArray) (n1 n2 : Int) (w : World) (hA : ArgS w a len) (hnm : nm0.size ≤ maxLen) :
    Calls Try.prog 7 #[.slice a len cap, .string nm0, .int .i64 n1, .int .i64 n2] w fun en w' => en = .returned (.bool true) ∧ Below w.heap.size w w' := by
  have hlen : len ≤ 9223372036854775807 := by have := hA.1; unfold maxLen at this; omega
  have HA := Lib.hid hA
  have hr1 := and65535 n1
  have hr2 := and65535 n2
  obtain ⟨x1, ex1⟩ : ∃ x, x = n1 % 65536 := ⟨_, rfl⟩
  obtain ⟨x2, ex2⟩ : ∃ x, x = n2 % 65536 := ⟨_, rfl⟩
  rw [← ex1] at hr1
  rw [← ex2] at hr2
  have p1 : 0 ≤ x1 := by omega
  have p2 : x1 ≤ 65535 := by omega
  have p3 : 0 ≤ x2 := by omega
  have p4 : x2 ≤ 65535 := by omega
  clear hA ex1 ex2
  go_enter Try.func7, Try.ntmps7
  go_wp2_with fail
  refine calls_name (fun W hW => ?_)
  obtain ⟨q, eq⟩ : ∃ q, q = w.heap.size := ⟨_, rfl⟩
  have HQ : Hid (Has W q 9 #[.string nm0]) := by
    show Has _ _ _ _
    rw [← hW, eq]
    exact Has.made _ _ _
  have T0 : Hid (Turn (fun j => w.heap.size ≤ j) w W) := by show Turn _ _ _; rw [← hW]; exact (Turn.refl _ _).alloc _
  have hwq : Hid (w.heap.size ≤ q) := Nat.le_of_eq eq.symm
  rw [← eq]
  clear hW eq
  refine (lawake_any W).mono ?_
  rintro en w1 ⟨rfl, b1⟩
  have T1 : Hid (Turn (fun j => w.heap.size ≤ j) w w1) := T0.out.trans (Turn.of_below b1 (F := fun j => W.heap.size ≤ j) (fun _ _ e => e)) (fun j _ e => Nat.le_trans T0.out.size e)
  have HQ1 := Lib.hid (HQ.out.below b1 HQ.out.lt)
  clear b1 T0 HQ
  have c0 : w1.cell? ⟨q, 0, none⟩ = some (.string nm0) := HQ1.out.cell 0
  have f0 : w1.frozen? ⟨q, 0, none⟩ = false := HQ1.out.free 0
  go_wp2_with fail
  refine (cutN_any nm0 10 w1 (by omega) hnm).mono ?_
  rintro en w2 ⟨rfl, rfl⟩
  go_wp2_with fail
  refine calls_name (fun W hW => ?_)
  obtain ⟨to, eto⟩ : ∃ to, to = nmOf nm0 := ⟨_, rfl⟩
  have HQ2 : Hid (Has W q 9 #[.string to]) := by
    show Has _ _ _ _
    rw [← hW, eto]
    simpa [nmOf] using HQ1.out.put 0 (.string (nmOf nm0))
  have T2 : Hid (Turn (fun j => w.heap.size ≤ j) w W) := by show Turn _ _ _; rw [← hW]; exact T1.out.put (fun _ => hwq.out) _ _
  have HTO : Hid (to ≠ .empty ∧ to.size ≤ 11) := by show _ ∧ _; rw [eto]; exact ⟨nmOf_ne _, nmOf_size _⟩
  clear hW HQ1 T1 c0 f0 eto
  refine (snew_calls (H := Unit) W).mono ?_
  rintro en w2 ⟨d, m, rfl, h2, b2, hd, hm⟩
  have HW : Hid (Own1 Unit w d m (.map []) w2) := ⟨h2, invS_new, Nat.le_trans T2.out.size hd, Nat.le_trans T2.out.size hm, T2.out.trans (Turn.of_below b2 (F := fun j => W.heap.size ≤ j) (fun _ _ e => e)) (fun j _ e => Nat.le_trans T2.out.size e)⟩
  have HQ3 := Lib.hid (HQ2.out.below b2 HQ2.out.lt)
  clear h2 b2 T2 hd hm HQ2
  go_wp2_with fail
  go_loopw [10] (fun i wr => ∃ (k : Nat) (D : DataW Unit), i = .int .i64 k ∧ k ≤ 14 ∧ k ≤ len ∧ Hid (Maps.size D ≤ k) ∧ Hid (Own1 Unit w d m D wr) ∧ Hid (Has wr q 9 #[.string to])) (fun i _ => 14 - (intOf i).toNat)
  case atStart => exact ⟨0, .map [], rfl, by omega, Nat.zero_le _, Lib.hid (Nat.le_refl _), HW, HQ3⟩
  case round =>
    obtain ⟨k, D, rfl, hk20, hkl, HSZ, HD, HQ⟩ := hrel
    clear HW HQ3
    by_cases hk : k < len ∧ k < 14
    · obtain ⟨hk1, hk2⟩ := hk
      have hk1' : (k : Int) < (len : Int) := by omega
      have hk2' : (k : Int) < 14 := by omega
      have hk0' : (0 : Int) ≤ (k : Int) := by omega
      obtain ⟨b, o, rfl, hb, K, n, x, hx, c0, c1, c2⟩ := (HA.out.turn HD.out.turn).2 k hk1
      go_wp2_with fail
      refine (sfew_any ⟨K, x, n⟩ _ hx).mono ?_
      have hsh := few_short ⟨K, x, n⟩
      generalize OpS.few ⟨K, x, n⟩ = op at *
      rintro en w3 ⟨rfl, b3⟩
      have D3 := Lib.hid (HD.out.below b3)
      have Q3 := Lib.hid (HQ.out.below b3 HQ.out.lt)
      have HSH := Lib.hid hsh
      clear b3 HD HQ c0 c1 c2 hsh
      go_wp2_with fail
      refine (sdo_any d m D op w3 D3.out.bk D3.out.inv HSH.out).mono ?_
      rintro en w4 ⟨rfl, d4, g4⟩
      have D4 := Lib.hid (D3.out.did d4 (invS_doO D3.out.inv op) g4)
      have Q4 : Hid (Has w4 q 9 #[.string to]) := Lib.hid (Q3.out.grown g4 (fun e => by injection e with e; exact D3.out.bk.map.ne Q3.out e.symm))
      have HSZ2 : Hid (Maps.size (doO D op).1 ≤ k + 1) := Lib.hid (Nat.le_trans (size_doO D3.out.inv op) (Nat.succ_le_succ HSZ.out))
      clear d4 g4 D3 Q3 HSZ
      go_wp2_with fail
      refine ⟨⟨k + 1, _, by rw [Int.natCast_add]; rfl, by omega, by omega, HSZ2, D4, Q4⟩, ?_⟩
      show 14 - ((k : Int) + 1).toNat < 14 - ((k : Int)).toNat
      omega
    · have hx : ((k : Int) < (len : Int) ∧ ¬ (k : Int) < 14) ∨ ¬ (k : Int) < (len : Int) := by omega
      have HZ : Hid (Maps.size D ≤ 14) := Lib.hid (Nat.le_trans HSZ.out hk20)
      clear hk
      rcases hx with ⟨hc1, hc2⟩ | hc1
      all_goals
        have c0 : wr.cell? ⟨q, 0, none⟩ = some (.string to) := HQ.out.cell 0
        go_wp2_with fail
        refine (scount_calls d m D to _ HD.out.bk (by have := HTO.out.2; unfold maxLen; omega)).mono ?_
        rintro en w5 ⟨rfl, rfl⟩
        obtain ⟨hs1, hs2⟩ := HD.out.inv.small to
        obtain ⟨A, eA⟩ : ∃ A, A = amt D to := ⟨_, rfl⟩
        have HAm := Lib.hid eA
        rw [← eA] at hs1 hs2 ⊢
        clear eA c0
        by_cases hbig : 1099511627776 < A + (1 + x1) + (1 + x2)
        · go_wp2_with fail
          go_ret
          exact ⟨rfl, HD.out.ends⟩
        · have hsm : A + (1 + x1) + (1 + x2) ≤ 1099511627776 := by omega
          clear hbig
          go_wp2_with fail
          refine (ssave_calls d m D _ HD.out.bk HD.out.inv).mono ?_
          rintro en w6 ⟨rfl, b6⟩
          have D6 := Lib.hid (HD.out.below b6)
          have Q6 := Lib.hid (HQ.out.below b6 HQ.out.lt)
          clear b6 HD HQ
          go_wp2_with fail
          refine (sload_calls D w6 D6.out.inv).mono ?_
          rintro en w7 ⟨d2, m2, E, rfl, h7, al, b7, hd7, hm7⟩
          have D7 := Lib.hid (D6.out.below b7)
          have Q7 := Lib.hid (Q6.out.below b7 Q6.out.lt)
          have hmm : m ≠ m2 := by have := World.ownsMap.lt D6.out.bk.map; omega
          have E7 : Hid (Own1 Unit w d2 m2 E w7) := ⟨h7, Alike.invS al D6.out.inv, Nat.le_trans D6.out.turn.size hd7, Nat.le_trans D6.out.turn.size hm7, D7.out.turn⟩
          have PP : Hid (Parts D E to (1 + x1) (1 + x2)) := Lib.hid (parts_math D6.out.inv al HZ.out HTO.out.1 (by have := HTO.out.2; omega) (by omega) (by omega) (by have := HAm.out; omega))
          have HMM2 := Lib.hid hmm
          have HSH : Hid (∀ k n, (opP k to n).Short) := Lib.hid (fun k n => by have := HTO.out.2; show to.size ≤ 14; omega)
          clear h7 al b7 hd7 hm7 D6 Q6 hmm
          have hmf : ∀ (fn : Fn) (first cap : Array Value) (w : World), (Instr.makeFunc fn first cap).run Try.prog w = .ok (.func fn first cap) w := fun _ _ _ _ => rfl
          have hw1 : -9223372036854775808 ≤ 1 + x1 + (1 + x2) := by omega
          have hw2 : 1 + x1 + (1 + x2) ≤ 9223372036854775807 := by omega
          go_wp2_with fail
          refine (clo_calls 1 (1 + x1 + (1 + x2)) q to w7 Q7.out).mono ?_
          rintro en w8 ⟨rfl, b8⟩
          have D8 := Lib.hid (D7.out.below b8)
          have E8 := Lib.hid (E7.out.below b8)
          have Q8 := Lib.hid (Q7.out.below b8 Q7.out.lt)
          clear b8 D7 E7 Q7
          go_wp2_with fail
          refine (sdo_any d m _ (opP 1 to (1 + x1 + (1 + x2))) w8 D8.out.bk D8.out.inv (HSH.out _ _)).mono ?_
          rintro en w9 ⟨rfl, h9, g9⟩
          rw [PP.out.k0]
          have D9 := Lib.hid (D8.out.did h9 (invS_doO D8.out.inv _) g9)
          have E9 := Lib.hid (E8.out.far D8.out HMM2.out.symm g9)
          have Q9 : Hid (Has w9 q 9 #[.string to]) := Lib.hid (Q8.out.grown g9 (fun e => by injection e with e; exact D8.out.bk.map.ne Q8.out e.symm))
          clear h9 g9 D8 E8 Q8
          go_wp2_with fail
          refine (clo_calls 1 (1 + x1) q to w9 Q9.out).mono ?_
          rintro en w10 ⟨rfl, b10⟩
          have D10 := Lib.hid (D9.out.below b10)
          have E10 := Lib.hid (E9.out.below b10)
          have Q10 := Lib.hid (Q9.out.below b10 Q9.out.lt)
          clear b10 D9 E9 Q9
          go_wp2_with fail
          refine (sdo_any d2 m2 _ (opP 1 to (1 + x1)) w10 E10.out.bk E10.out.inv (HSH.out _ _)).mono ?_
          rintro en w11 ⟨rfl, h11, g11⟩
          rw [PP.out.k1]
          have E11 := Lib.hid (E10.out.did h11 (invS_doO E10.out.inv _) g11)
          have D11 := Lib.hid (D10.out.far E10.out HMM2.out g11)
          have Q11 : Hid (Has w11 q 9 #[.string to]) := Lib.hid (Q10.out.grown g11 (fun e => by injection e with e; exact E10.out.bk.map.ne Q10.out e.symm))
          clear h11 g11 D10 E10 Q10
          go_wp2_with fail
          refine (clo_calls 1 (1 + x2) q to w11 Q11.out).mono ?_
          rintro en w12 ⟨rfl, b12⟩
          have D12 := Lib.hid (D11.out.below b12)
          have E12 := Lib.hid (E11.out.below b12)
          have Q12 := Lib.hid (Q11.out.below b12 Q11.out.lt)
          clear b12 D11 E11 Q11
          go_wp2_with fail
          refine (sdo_any d2 m2 _ (opP 1 to (1 + x2)) w12 E12.out.bk E12.out.inv (HSH.out _ _)).mono ?_
          rintro en w13 ⟨rfl, h13, g13⟩
          rw [PP.out.k2]
          have E13 := Lib.hid (E12.out.did h13 (invS_doO E12.out.inv _) g13)
          have D13 := Lib.hid (D12.out.far E12.out HMM2.out g13)
          have Q13 : Hid (Has w13 q 9 #[.string to]) := Lib.hid (Q12.out.grown g13 (fun e => by injection e with e; exact E12.out.bk.map.ne Q12.out e.symm))
          clear h13 g13 D12 E12 Q12
          go_wp2_with fail
          refine (ssave_calls d m _ _ D13.out.bk D13.out.inv).mono ?_
          rintro en w14 ⟨rfl, b14⟩
          have D14 := Lib.hid (D13.out.below b14)
          have E14 := Lib.hid (E13.out.below b14)
          have Q14 := Lib.hid (Q13.out.below b14 Q13.out.lt)
          clear b14 D13 E13 Q13
          go_wp2_with fail
          refine (ssave_calls d2 m2 _ _ E14.out.bk E14.out.inv).mono ?_
          rw [Alike.saveB PP.out.same]
          rintro en w15 ⟨rfl, b15⟩
          have D15 := Lib.hid (D14.out.below b15)
          have E15 := Lib.hid (E14.out.below b15)
          have Q15 := Lib.hid (Q14.out.below b15 Q14.out.lt)
          clear b15 D14 E14 Q14
          go_wp2_with fail
          refine (clo_calls 2 (1 + x1) q to w15 Q15.out).mono ?_
          rintro en w16 ⟨rfl, b16⟩
          have D16 := Lib.hid (D15.out.below b16)
          have E16 := Lib.hid (E15.out.below b16)
          have Q16 := Lib.hid (Q15.out.below b16 Q15.out.lt)
          clear b16 D15 E15 Q15
          go_wp2_with fail
          refine (sdo_any d m _ (opP 2 to (1 + x1)) w16 D16.out.bk D16.out.inv (HSH.out _ _)).mono ?_
          rintro en w17 ⟨rfl, h17, g17⟩
          rw [PP.out.k3]
          have D17 := Lib.hid (D16.out.did h17 (invS_doO D16.out.inv _) g17)
          have E17 := Lib.hid (E16.out.far D16.out HMM2.out.symm g17)
          have Q17 : Hid (Has w17 q 9 #[.string to]) := Lib.hid (Q16.out.grown g17 (fun e => by injection e with e; exact D16.out.bk.map.ne Q16.out e.symm))
          clear h17 g17 D16 E16 Q16
          go_wp2_with fail
          refine (clo_calls 2 (1 + x2) q to w17 Q17.out).mono ?_
          rintro en w18 ⟨rfl, b18⟩
          have D18 := Lib.hid (D17.out.below b18)
          have E18 := Lib.hid (E17.out.below b18)
          have Q18 := Lib.hid (Q17.out.below b18 Q17.out.lt)
          clear b18 D17 E17 Q17
          go_wp2_with fail
          refine (sdo_any d m _ (opP 2 to (1 + x2)) w18 D18.out.bk D18.out.inv (HSH.out _ _)).mono ?_
          rintro en w19 ⟨rfl, h19, g19⟩
          rw [PP.out.k4]
          have D19 := Lib.hid (D18.out.did h19 (invS_doO D18.out.inv _) g19)
          have E19 := Lib.hid (E18.out.far D18.out HMM2.out.symm g19)
          have Q19 : Hid (Has w19 q 9 #[.string to]) := Lib.hid (Q18.out.grown g19 (fun e => by injection e with e; exact D18.out.bk.map.ne Q18.out e.symm))
          clear h19 g19 D18 E18 Q18
          go_wp2_with fail
          refine (clo_calls 2 (1 + x1 + (1 + x2)) q to w19 Q19.out).mono ?_
          rintro en w20 ⟨rfl, b20⟩
          have D20 := Lib.hid (D19.out.below b20)
          have E20 := Lib.hid (E19.out.below b20)
          have Q20 := Lib.hid (Q19.out.below b20 Q19.out.lt)
          clear b20 D19 E19 Q19
          go_wp2_with fail
          refine (sdo_any d2 m2 _ (opP 2 to (1 + x1 + (1 + x2))) w20 E20.out.bk E20.out.inv (HSH.out _ _)).mono ?_
          rintro en w21 ⟨rfl, h21, g21⟩
          rw [PP.out.k5]
          have E21 := Lib.hid (E20.out.did h21 (invS_doO E20.out.inv _) g21)
          have D21 := Lib.hid (D20.out.far E20.out HMM2.out g21)
          have Q21 : Hid (Has w21 q 9 #[.string to]) := Lib.hid (Q20.out.grown g21 (fun e => by injection e with e; exact E20.out.bk.map.ne Q20.out e.symm))
          clear h21 g21 D20 E20 Q20
          go_wp2_with fail
          refine (ssave_calls d m _ _ D21.out.bk D21.out.inv).mono ?_
          rw [Alike.saveB PP.out.x]
          rintro en w22 ⟨rfl, b22⟩
          have D22 := Lib.hid (D21.out.below b22)
          have E22 := Lib.hid (E21.out.below b22)
          have Q22 := Lib.hid (Q21.out.below b22 Q21.out.lt)
          clear b22 D21 E21 Q21
          go_wp2_with fail
          refine (ssave_calls d2 m2 _ _ E22.out.bk E22.out.inv).mono ?_
          rw [Alike.saveB PP.out.y]
          rintro en w23 ⟨rfl, b23⟩
          have D23 := Lib.hid (D22.out.below b23)
          have E23 := Lib.hid (E22.out.below b23)
          have Q23 := Lib.hid (Q22.out.below b23 Q22.out.lt)
          clear b23 D22 E22 Q22
          go_wp2_with fail
          go_ret
          exact ⟨rfl, D23.out.ends⟩

def Arg0 (w : World) (a : Option Addr) (len _cap : Nat) : Prop := ArgS w a len
theorem walk (a0 : Option Addr) (len0 cap0 : Nat) (a1 : ByteArray) (a2 a3 : Int) (w : World) (w0 : Arg0 w a0 len0 cap0) (w1 : a1.size ≤ maxLen) (_w2 : (Lit.int .i64 a2).wf = true) (_w3 : (Lit.int .i64 a3).wf = true) :
    Calls Try.prog 7 #[.slice a0 len0 cap0, .string a1, .int .i64 a2, .int .i64 a3] w fun en w' => en = .returned (.bool true) ∧ Below w.heap.size w w' := parts_any a0 len0 cap0 a1 a2 a3 w w0 w1
theorem opened0 {H : Type} {enc : TypeId × Value → H} {w : World} {spare : Nat → Bool} {held : Bool} {a : Option Addr} {len cap : Nat} {d : DataW H} {p : List MemPlace} (h : DataW.Trod enc Try.prog w 0 spare held 44 (.slice a len cap) d p) : Arg0 w a len cap := openedS h

theorem own : ownKnob Try.prog.godebug = none := by kernel_rfl
theorem laidOut : laidOutB Try.prog = true := by kernel_rfl

set_option maxRecDepth 100000 in
theorem lifted (os : Os) (started : os.Started) (H : Type) (enc : TypeId × Value → H) :
    ReturnsInHanded {} Try.checked os 7 .any (Rows.stockPartsSpec.pre6 enc Try.prog Try.f7 Rows.stockPartsRow.domain false) (Rows.stockPartsSpec.post enc Try.prog Try.f7 false true false false) := by
  refine returnsInHanded_of_change (C := Try.checked) own started (by kernel_rfl) Try.func7
    (ChangeSpec.witness6 (enc := enc) (C := Try.checked) false ⟨#[], #[.slice none 0 0, .string ByteArray.empty, .int .i64 0, .int .i64 0], []⟩ 8 (by kernel_rfl) (by kernel_rfl) (by kernel_rfl) (by kernel_rfl)) ?_
  intro W base args ds gs before hval0 hW _ _
  have hval : ∀ (j : Nat) t v, Try.f7.params[j]? = some t → args[j]? = some v → Value.okWide Try.prog W .any base t v := hval0
  have hW' := hW
  obtain ⟨p, q, hA0, hV, rfl, _, _⟩ := hW
  have hA : DataW.TrodAll enc Try.prog W 0 (fun _ => true) true Try.f7.params.toList args.toList ds p := hA0
  rw [Try.params7] at hA hval
  obtain ⟨v0, vs0, d0, ds0, p0, q0, hargs, rfl, rfl, h0, r0⟩ := trodAll_cons hA
  obtain ⟨v1, vs1, d1, ds1, p1, q1, rfl, rfl, rfl, h1, r1⟩ := trodAll_cons r0
  obtain ⟨v2, vs2, d2, ds2, p2, q2, rfl, rfl, rfl, h2, r2⟩ := trodAll_cons r1
  obtain ⟨v3, vs3, d3, ds3, p3, q3, rfl, rfl, rfl, h3, r3⟩ := trodAll_cons r2
  obtain ⟨rfl, rfl, rfl⟩ := trodAll_nil r3
  obtain rfl : args = #[v0, v1, v2, v3] := by cases args; simp_all
  obtain ⟨rfl, rfl⟩ := trodVars_none hV
  obtain ⟨a0, len0, cap0, rfl⟩ := okWide_slice Try.underlying44 (hval 0 44 v0 rfl rfl)
  have k0 := h0
  have lt0 : ∀ x ∈ p0, x.block < W.heap.size := by obtain ⟨m, hm⟩ := k0; exact DataW.trod_lt m _ _ _ hm
  have w0 : Arg0 W a0 len0 cap0 := opened0 h0
  obtain ⟨a1, rfl, rfl, rfl, w1⟩ := open_string Try.underlying9 (hval 1 9 v1 rfl rfl) h1
  obtain ⟨a2, rfl, rfl, rfl, w2⟩ := open_int Try.underlying3 (hval 2 3 v2 rfl rfl) h2
  obtain ⟨a3, rfl, rfl, rfl, w3⟩ := open_int Try.underlying3 (hval 3 3 v3 rfl rfl) h3
  clear hA0 hval0
  refine (walk a0 len0 cap0 a1 a2 a3 W w0 w1 w2 w3).mono fun e W' ⟨he, bel⟩ => ?_
  subst he
  exact ⟨_, rfl, _, _, _, [], _, [], hW', trodAll_mk1 (shut_bool Try.underlying4 _), (trodAll_cons_mk (Below.trod laidOut (by kernel_rfl) (of_decide_eq_true (by kernel_rfl)) k0 bel lt0) (trodAll_cons_mk (shut_string Try.underlying9 w1) (trodAll_cons_mk (shut_int Try.underlying3 w2) (trodAll_cons_mk (shut_int Try.underlying3 w3) trodAll_mk0)))), rfl, bel.frame _, fun h => by cases h⟩

theorem over : Rows.stockPartsRow.holds Try.pinned (OpenSpec.ofChange Rows.stockPartsSpec) :=
  OpenClaim.holds_of_wide 7 Try.f7 rfl rfl rfl rfl rfl rfl rfl ⟨rfl, rfl, rfl, rfl, rfl⟩ rfl rfl rfl rfl rfl (by kernel_rfl) Try.func7 (by kernel_rfl)
    (of_decide_eq_true (by kernel_rfl)) (by unfold Func.isWrapper; first | (rw [if_pos (by decide +kernel)]; kernel_rfl) | (rw [if_neg (by decide +kernel)]; exact ⟨rfl, rfl⟩))
    (fun os started H enc _ => lifted os started H enc)

theorem proved : Rows.StockPartsSaid := over

end Go.Proofs.Ytfhpcodjmmidhaa.stock.stockParts
