/- LedgerMoves: for every list of ops and every two numbers the law answers true, and its arguments read afterwards as they did. Conditions: none. -/
import Derived.Test.YtfhpcodjmmidhaaLedU
namespace Go.Proofs.Ytfhpcodjmmidhaa.ledgerMoves
open Go.ChangeShapes Go.WideShapes Go.ChangeAt Go.RowKit Go.Maps

theorem and65535 (n : Int) : bits .and .i64 n 65535 = n % 65536 := by
  have h255 : (BitVec.ofInt 64 65535).toNat = 2 ^ 16 - 1 := by decide
  have key : (BitVec.ofInt 64 n &&& BitVec.ofInt 64 65535).toNat = (n % ((2 ^ 64 : Nat) : Int)).toNat % 2 ^ 16 := by
    rw [BitVec.toNat_and, BitVec.toNat_ofInt, h255, Nat.and_two_pow_sub_one_eq_mod]
  show IntKind.i64.wrap ((BitVec.ofInt 64 n &&& BitVec.ofInt 64 65535).toNat : Nat) = n % 65536
  rw [key, IntKind.wrap_i64]
  omega

theorem calls_name {P : Program} {f : FuncId} {args : Array Value} {w : World} {R : Ending → World → Prop} (h : ∀ W, w = W → Calls P f args W R) : Calls P f args w R := h w rfl

set_option maxRecDepth 100000 in
set_option maxHeartbeats 400000 in
theorem clo_calls (n : Int) (q : Nat) (to : ByteArray) (w : World) (hq : Has w q 9 #[.string to]) :
    Calls Try.prog 23 #[.int .i64 n, .pointer (some ⟨q, 0, none⟩)] w fun en w' => en = .returned (.agg #[.int .i64 3, .string ⟨#[]⟩, .string to, .int .i64 n]) ∧ Below w.heap.size w w' := by
  have hz := hq.lt
  have c0 : w.cell? ⟨q, 0, none⟩ = some (.string to) := hq.cell 0
  clear hq
  go_enter Try.func23, Try.ntmps23
  go_wp2_with fail
  refine bodyPost_ret (v := .agg #[.int .i64 3, .string ⟨#[]⟩, .string to, .int .i64 n]) (by simp [results, Try.results23, go_sem]) rfl ⟨rfl, turn_box ?_⟩
  repeat (first | exact Turn.refl _ _ | refine Turn.drew ?_ | refine Turn.alloc ?_ _ | refine Turn.put ?_ (fun h => by omega) _ _)

set_option maxRecDepth 100000 in
set_option maxHeartbeats 2000000 in
theorem moves_any (a : Option Addr) (len cap : Nat) (n1 n2 : Int) (w : World) (hA : ArgL w a len) :
    Calls Try.prog 5 #[.slice a len cap, .int .i64 n1, .int .i64 n2] w fun en w' => en = .returned (.bool true) ∧ Below w.heap.size w w' := by
  have hlen : len ≤ 9223372036854775807 := by have := hA.1; unfold maxLen at this; omega
  have HA := Lib.hid hA
  have hr1 := and65535 n1
  have hr2 := and65535 n2
  obtain ⟨x1, ex1⟩ : ∃ x, x = n1 % 65536 := ⟨_, rfl⟩
  obtain ⟨x2, ex2⟩ : ∃ x, x = n2 % 65536 := ⟨_, rfl⟩
  rw [← ex1] at hr1
  rw [← ex2] at hr2
  have p1 : 0 ≤ x1 := by omega
  have p2 : x1 ≤ 65535 := by omega
  have p3 : 0 ≤ x2 := by omega
  have p4 : x2 ≤ 65535 := by omega
  clear hA ex1 ex2
  go_enter Try.func5, Try.ntmps5
  go_wp2_with fail
  refine (lawake_any w).mono ?_
  rintro en w1 ⟨rfl, b1⟩
  have T1 : Hid (Turn (fun j => w.heap.size ≤ j) w w1) := Turn.of_below b1 (fun _ _ e => e)
  clear b1
  go_wp2_with fail
  refine (bnew_calls (H := Unit) w1).mono ?_
  rintro en w2 ⟨d, m, rfl, h2, b2, hd, hm⟩
  have HW : Hid (Own1 Unit w d m D0 w2) := ⟨h2, invF_new, Nat.le_trans T1.out.size hd, Nat.le_trans T1.out.size hm, T1.out.trans (Turn.of_below b2 (F := fun j => w1.heap.size ≤ j) (fun _ _ e => e)) (fun j _ e => Nat.le_trans T1.out.size e)⟩
  clear h2 b2 T1 hd hm
  go_wp2_with fail
  go_loopw [8] (fun i wr => ∃ (k : Nat) (D : DataW Unit), i = .int .i64 k ∧ k ≤ 20 ∧ k ≤ len ∧ Hid (Own1 Unit w d m D wr)) (fun i _ => 20 - (intOf i).toNat)
  case atStart => exact ⟨0, D0, rfl, by omega, Nat.zero_le _, HW⟩
  case round =>
    obtain ⟨k, D, rfl, hk20, hkl, HD⟩ := hrel
    clear HW
    by_cases hk : k < len ∧ k < 20
    · obtain ⟨hk1, hk2⟩ := hk
      have hk1' : (k : Int) < (len : Int) := by omega
      have hk2' : (k : Int) < 20 := by omega
      have hk0' : (0 : Int) ≤ (k : Int) := by omega
      obtain ⟨b, o, rfl, hb, K, n, x, y, hx, hy, c0, c1, c2, c3⟩ := (HA.out.turn HD.out.turn).2 k hk1
      go_wp2_with fail
      refine (lfew_any ⟨K, x, y, n⟩ _ hx hy).mono ?_
      have hsh := few_short ⟨K, x, y, n⟩
      generalize OpL.few ⟨K, x, y, n⟩ = op at *
      rintro en w3 ⟨rfl, b3⟩
      have D3 := Lib.hid (HD.out.below b3)
      have HSH := Lib.hid hsh
      clear b3 HD c0 c1 c2 c3 hsh
      go_wp2_with fail
      refine (bdo_any d m D op w3 D3.out.bk D3.out.inv HSH.out).mono ?_
      rintro en w4 ⟨rfl, d4, g4⟩
      have D4 := Lib.hid (D3.out.did d4 (invF_doO D3.out.inv op) g4)
      clear d4 g4 D3
      go_wp2_with fail
      refine ⟨⟨k + 1, _, by rw [Int.natCast_add]; rfl, by omega, by omega, D4⟩, ?_⟩
      show 20 - ((k : Int) + 1).toNat < 20 - ((k : Int)).toNat
      omega
    · have hx : ((k : Int) < (len : Int) ∧ ¬ (k : Int) < 20) ∨ ¬ (k : Int) < (len : Int) := by omega
      clear hk
      rcases hx with ⟨hc1, hc2⟩ | hc1
      all_goals
        go_wp2_with fail
        refine (bnames_calls d m D _ HD.out.bk (by have := HD.out.inv.inv.size; omega)).mono ?_
        rintro en w3 ⟨v, rfl, hrow, b3⟩
        have hl : (nb (strKeys D)).length = (namesD D).length := by unfold namesD; rw [List.length_mergeSort]
        rw [hl] at hrow
        have hrow' : w3.ownsRow 0 9 1 v (namesD D).length ((namesD D).map encStr) := row_low hrow
        have D3 := Lib.hid (HD.out.below b3)
        obtain ⟨va, vc, rfl⟩ := own_slice hrow'
        clear hrow b3 HD hl
        by_cases hz : (namesD D).length = 0
        · have HZ : ((namesD D).length : Int) = 0 := by omega
          rw [hz] at *
          clear hz HZ hrow'
          go_wp2_with fail
          have hsz := D3.out.inv.inv.size
          refine (bsum_calls d m D _ D3.out.bk (by omega) (fun x => by have := D3.out.inv.small ⟨x.toArray⟩; unfold amtL; omega)).mono ?_
          rw [D3.out.inv.sum]
          rintro en w4 ⟨rfl, b4⟩
          have D4 := Lib.hid (D3.out.below b4)
          clear b4 hsz
          go_wp2_with fail
          go_ret
          exact ⟨rfl, D4.out.ends⟩
        · have hpos : 0 < (namesD D).length := by omega
          have hzi : (((namesD D).length : Int) == 0) = false := beq_eq_false_iff_ne.2 (by omega)
          have hpi : (0 : Int) < ((namesD D).length : Int) := by omega
          obtain ⟨hto0, htoi, htoz⟩ := first_name D3.out.inv hpos
          obtain ⟨g, c', hv, hnc, hcm, hcell⟩ := own_cell hrow' hpos
          obtain ⟨rfl, rfl⟩ : va = some ⟨g, 0, none⟩ ∧ vc = c' := by injection hv with h1 _ h2; exact ⟨h1, h2⟩
          have hc0 : w3.cell? ⟨g, 0, none⟩ = some (.string ⟨(namesD D)[0].toArray⟩) := hcell 0 (encStr (namesD D)[0]) (by rw [List.getElem?_map, List.getElem?_eq_getElem hpos]; rfl)
          generalize (⟨(namesD D)[0].toArray⟩ : ByteArray) = to at *
          generalize (namesD D).length = M at *
          clear hcell hv hrow' hz
          have HTO := Lib.hid (And.intro hto0 (And.intro htoi htoz))
          clear hto0 htoi htoz
          go_wp2_with fail
          refine calls_name (fun W4 hW4 => ?_)
          obtain ⟨q, eq⟩ : ∃ q, q = w3.heap.size := ⟨_, rfl⟩
          have HQ : Hid (Has W4 q 9 #[.string to]) := by
            show Has _ _ _ _
            rw [← hW4, eq]
            exact Has.made _ _ _
          have D4 := Lib.hid (D3.out.more (V' := W4) (by rw [← hW4]; exact (Turn.refl _ _).alloc _))
          rw [← eq]
          clear hW4 D3 eq hc0
          refine (bhas_calls d m D to W4 D4.out.bk (by have := HTO.out.2.2; unfold maxLen; omega)).mono ?_
          rintro en w5 ⟨rfl, rfl⟩
          obtain ⟨hs1, hs2⟩ := D4.out.inv.small to
          obtain ⟨A, eA⟩ : ∃ A, A = amt D to := ⟨_, rfl⟩
          have HAm := Lib.hid eA
          rw [← eA] at hs1 hs2 ⊢
          clear eA
          by_cases hbig : 1099511627776 < A + (1 + x1) + (1 + x2)
          · go_wp2_with fail
            go_ret
            exact ⟨rfl, D4.out.ends⟩
          · have hsm : A + (1 + x1) + (1 + x2) ≤ 1099511627776 := by omega
            have HMM := Lib.hid (moves_math D4.out.inv HTO.out.1 HTO.out.2.1 (a := 1 + x1) (b := 1 + x2) (by omega) (by omega) (by have := HAm.out; omega))
            clear hbig
            go_wp2_with fail
            refine (bsave_calls d m D _ D4.out.bk D4.out.inv).mono ?_
            rintro en w6 ⟨rfl, b6⟩
            have D6 := Lib.hid (D4.out.below b6)
            have HQ6 := Lib.hid (HQ.out.below b6 HQ.out.lt)
            clear b6 D4 HQ
            go_wp2_with fail
            refine (bload_calls D w6 D6.out.inv).mono ?_
            rintro en w7 ⟨d2, m2, E, rfl, h7, al, b7, hd7, hm7⟩
            have D7 := Lib.hid (D6.out.below b7)
            have HQ7 := Lib.hid (HQ6.out.below b7 HQ6.out.lt)
            have hmm : m ≠ m2 := by have := World.ownsMap.lt D6.out.bk.map; omega
            have E7 : Hid (Own1 Unit w d2 m2 E w7) := ⟨h7, al.inv D6.out.inv, Nat.le_trans D6.out.turn.size hd7, Nat.le_trans D6.out.turn.size hm7, D7.out.turn⟩
            have HAL := Lib.hid al
            have HID := Lib.hid D6.out.inv
            have HMM2 := Lib.hid hmm
            clear h7 al b7 hd7 hm7 D6 HQ6 hmm
            have hmf : ∀ (fn : Fn) (first cap : Array Value) (w : World), (Instr.makeFunc fn first cap).run Try.prog w = .ok (.func fn first cap) w := fun _ _ _ _ => rfl
            have hw1 : -9223372036854775808 ≤ 1 + x1 + (1 + x2) := by omega
            have hw2 : 1 + x1 + (1 + x2) ≤ 9223372036854775807 := by omega
            go_wp2_with fail
            refine (clo_calls (1 + x1 + (1 + x2)) q to w7 HQ7.out).mono ?_
            rintro en w8 ⟨rfl, b8⟩
            have D8 := Lib.hid (D7.out.below b8)
            have E8 := Lib.hid (E7.out.below b8)
            have HQ8 := Lib.hid (HQ7.out.below b8 HQ7.out.lt)
            clear b8 D7 E7 HQ7
            have hsh : ∀ n, (opM to n).Short := fun n => ⟨by show (0 : Nat) ≤ 14; omega, by have := HTO.out.2.2; show to.size ≤ 14; omega⟩
            have HSH := Lib.hid hsh
            clear hsh
            go_wp2_with fail
            refine (bdo_any d m D (opM to (1 + x1 + (1 + x2))) w8 D8.out.bk D8.out.inv (HSH.out _)).mono ?_
            rintro en w9 ⟨rfl, h9, g9⟩
            rw [HMM.out.1]
            have D9 := Lib.hid (D8.out.did h9 (invF_doO D8.out.inv _) g9)
            have E9 := Lib.hid (E8.out.far D8.out HMM2.out.symm g9)
            have HQ9 : Hid (Has w9 q 9 #[.string to]) := Lib.hid (HQ8.out.grown g9 (fun e => by injection e with e; exact D8.out.bk.map.ne HQ8.out e.symm))
            obtain ⟨D2, eD2⟩ : ∃ D2, D2 = (doO D (opM to (1 + x1 + (1 + x2)))).1 := ⟨_, rfl⟩
            have HD2 := Lib.hid eD2
            rw [← eD2] at D9
            clear h9 g9 D8 E8 HQ8 eD2
            obtain ⟨f1, f2, f3⟩ := HMM.out.2 E HAL.out
            have F1 := Lib.hid f1
            have F2 := Lib.hid f2
            have F3 := Lib.hid f3
            clear f1 f2 f3
            go_wp2_with fail
            refine (clo_calls (1 + x1) q to w9 HQ9.out).mono ?_
            rintro en w10 ⟨rfl, b10⟩
            have D10 := Lib.hid (D9.out.below b10)
            have E10 := Lib.hid (E9.out.below b10)
            have HQ10 := Lib.hid (HQ9.out.below b10 HQ9.out.lt)
            clear b10 D9 E9 HQ9
            go_wp2_with fail
            refine (bdo_any d2 m2 E (opM to (1 + x1)) w10 E10.out.bk E10.out.inv (HSH.out _)).mono ?_
            rintro en w11 ⟨rfl, h11, g11⟩
            rw [F1.out]
            have E11 := Lib.hid (E10.out.did h11 (invF_doO E10.out.inv _) g11)
            have D11 := Lib.hid (D10.out.far E10.out HMM2.out g11)
            have HQ11 : Hid (Has w11 q 9 #[.string to]) := Lib.hid (HQ10.out.grown g11 (fun e => by injection e with e; exact E10.out.bk.map.ne HQ10.out e.symm))
            clear h11 g11 D10 E10 HQ10
            go_wp2_with fail
            refine (clo_calls (1 + x2) q to w11 HQ11.out).mono ?_
            rintro en w12 ⟨rfl, b12⟩
            have D12 := Lib.hid (D11.out.below b12)
            have E12 := Lib.hid (E11.out.below b12)
            have HQ12 := Lib.hid (HQ11.out.below b12 HQ11.out.lt)
            clear b12 D11 E11 HQ11
            go_wp2_with fail
            refine (bdo_any d2 m2 _ (opM to (1 + x2)) w12 E12.out.bk E12.out.inv (HSH.out _)).mono ?_
            rintro en w13 ⟨rfl, h13, g13⟩
            rw [F2.out]
            have E13 := Lib.hid (E12.out.did h13 (invF_doO E12.out.inv _) g13)
            have D13 := Lib.hid (D12.out.far E12.out HMM2.out g13)
            have HQ13 : Hid (Has w13 q 9 #[.string to]) := Lib.hid (HQ12.out.grown g13 (fun e => by injection e with e; exact E12.out.bk.map.ne HQ12.out e.symm))
            clear h13 g13 D12 E12 HQ12
            have hsv : saveB (doO (doO E (opM to (1 + x1))).1 (opM to (1 + x2))).1 = saveB D2 := by rw [HD2.out]; exact F3.out.saveB
            go_wp2_with fail
            refine (bsave_calls d m D2 _ D13.out.bk D13.out.inv).mono ?_
            rintro en w14 ⟨rfl, b14⟩
            have D14 := Lib.hid (D13.out.below b14)
            have E14 := Lib.hid (E13.out.below b14)
            have HQ14 := Lib.hid (HQ13.out.below b14 HQ13.out.lt)
            clear b14 D13 E13 HQ13
            go_wp2_with fail
            refine (bsave_calls d2 m2 _ _ E14.out.bk E14.out.inv).mono ?_
            rw [hsv]
            rintro en w15 ⟨rfl, b15⟩
            have D15 := Lib.hid (D14.out.below b15)
            have HQ15 := Lib.hid (HQ14.out.below b15 HQ14.out.lt)
            clear b15 D14 E14 HQ14 hsv F1 F2 F3
            go_wp2_with fail
            refine (clo_calls (1 + x1 + (1 + x2)) q to w15 HQ15.out).mono ?_
            rintro en w16 ⟨rfl, b16⟩
            have D16 := Lib.hid (D15.out.below b16)
            clear b16 D15 HQ15
            go_wp2_with fail
            refine (linv_any (opM to (1 + x1 + (1 + x2))) w16 (.inr (.inr rfl))).mono ?_
            rintro en w17 ⟨rfl, b17⟩
            have D17 := Lib.hid (D16.out.below b17)
            clear b17 D16
            have hback := doO_back (o := opM to (1 + x1 + (1 + x2))) HID.out HMM.out.1
            rw [← HD2.out] at hback
            have HB := Lib.hid hback
            clear hback
            go_wp2_with fail
            refine (bdo_any d m D2 (opM to (1 + x1 + (1 + x2))).inv w17 D17.out.bk D17.out.inv (inv_short (HSH.out _))).mono ?_
            rintro en w18 ⟨rfl, h18, g18⟩
            rw [HB.out.1]
            have D18 := Lib.hid (D17.out.did h18 (invF_doO D17.out.inv _) g18)
            clear h18 g18 D17
            go_wp2_with fail
            refine (bsave_calls d m _ _ D18.out.bk D18.out.inv).mono ?_
            rw [HB.out.2.saveB]
            rintro en w19 ⟨rfl, b19⟩
            have D19 := Lib.hid (D18.out.below b19)
            clear b19 D18
            go_wp2_with fail
            refine (bsum_calls d m _ _ D19.out.bk (by have := D19.out.inv.inv.size; omega) (fun x => by have := D19.out.inv.small ⟨x.toArray⟩; unfold amtL; omega)).mono ?_
            rw [D19.out.inv.sum]
            rintro en w20 ⟨rfl, b20⟩
            have D20 := Lib.hid (D19.out.below b20)
            clear b20 D19
            go_wp2_with fail
            go_ret
            exact ⟨rfl, D20.out.ends⟩

def Arg0 (w : World) (a : Option Addr) (len _cap : Nat) : Prop := ArgL w a len

theorem walk (a0 : Option Addr) (len0 cap0 : Nat) (a1 a2 : Int) (w : World) (w0 : Arg0 w a0 len0 cap0) (_w1 : (Lit.int .i64 a1).wf = true) (_w2 : (Lit.int .i64 a2).wf = true) :
    Calls Try.prog 5 #[.slice a0 len0 cap0, .int .i64 a1, .int .i64 a2] w fun en w' => en = .returned (.bool true) ∧ Below w.heap.size w w' := moves_any a0 len0 cap0 a1 a2 w w0

theorem opened0 {H : Type} {enc : TypeId × Value → H} {w : World} {spare : Nat → Bool} {held : Bool} {a : Option Addr} {len cap : Nat} {d : DataW H} {p : List MemPlace} (h : DataW.Trod enc Try.prog w 0 spare held 22 (.slice a len cap) d p) : Arg0 w a len cap := openedL h

theorem own : ownKnob Try.prog.godebug = none := by kernel_rfl
theorem laidOut : laidOutB Try.prog = true := by kernel_rfl

set_option maxRecDepth 100000 in
theorem lifted (os : Os) (started : os.Started) (H : Type) (enc : TypeId × Value → H) :
    ReturnsInHanded {} Try.checked os 5 .any (Rows.ledgerMovesSpec.pre6 enc Try.prog Try.f5 Rows.ledgerMovesRow.domain false) (Rows.ledgerMovesSpec.post enc Try.prog Try.f5 false true false false) := by
  refine returnsInHanded_of_change (C := Try.checked) own started (by kernel_rfl) Try.func5
    (ChangeSpec.witness6 (enc := enc) (C := Try.checked) false ⟨#[], #[.slice none 0 0, .int .i64 0, .int .i64 0], []⟩ 8 (by kernel_rfl) (by kernel_rfl) (by kernel_rfl) (by kernel_rfl)) ?_
  intro W base args ds gs before hval0 hW _ _
  have hval : ∀ (j : Nat) t v, Try.f5.params[j]? = some t → args[j]? = some v → Value.okWide Try.prog W .any base t v := hval0
  have hW' := hW
  obtain ⟨p, q, hA0, hV, rfl, _, _⟩ := hW
  have hA : DataW.TrodAll enc Try.prog W 0 (fun _ => true) true Try.f5.params.toList args.toList ds p := hA0
  rw [Try.params5] at hA hval
  obtain ⟨v0, vs0, d0, ds0, p0, q0, hargs, rfl, rfl, h0, r0⟩ := trodAll_cons hA
  obtain ⟨v1, vs1, d1, ds1, p1, q1, rfl, rfl, rfl, h1, r1⟩ := trodAll_cons r0
  obtain ⟨v2, vs2, d2, ds2, p2, q2, rfl, rfl, rfl, h2, r2⟩ := trodAll_cons r1
  obtain ⟨rfl, rfl, rfl⟩ := trodAll_nil r2
  obtain rfl : args = #[v0, v1, v2] := by cases args; simp_all
  obtain ⟨rfl, rfl⟩ := trodVars_none hV
  obtain ⟨a0, len0, cap0, rfl⟩ := okWide_slice Try.underlying22 (hval 0 22 v0 rfl rfl)
  have k0 := h0
  have lt0 : ∀ x ∈ p0, x.block < W.heap.size := by obtain ⟨m, hm⟩ := k0; exact DataW.trod_lt m _ _ _ hm
  have w0 : Arg0 W a0 len0 cap0 := opened0 h0
  obtain ⟨a1, rfl, rfl, rfl, w1⟩ := open_int Try.underlying3 (hval 1 3 v1 rfl rfl) h1
  obtain ⟨a2, rfl, rfl, rfl, w2⟩ := open_int Try.underlying3 (hval 2 3 v2 rfl rfl) h2
  clear hA0 hval0
  refine (walk a0 len0 cap0 a1 a2 W w0 w1 w2).mono fun e W' ⟨he, bel⟩ => ?_
  subst he
  exact ⟨_, rfl, _, _, _, [], _, [], hW', trodAll_mk1 (shut_bool Try.underlying4 _), (trodAll_cons_mk (Below.trod laidOut (by kernel_rfl) (of_decide_eq_true (by kernel_rfl)) k0 bel lt0) (trodAll_cons_mk (shut_int Try.underlying3 w1) (trodAll_cons_mk (shut_int Try.underlying3 w2) trodAll_mk0))), rfl, bel.frame _, fun h => by cases h⟩

theorem over : Rows.ledgerMovesRow.holds Try.pinned (OpenSpec.ofChange Rows.ledgerMovesSpec) :=
  OpenClaim.holds_of_wide 5 Try.f5 rfl rfl rfl rfl rfl rfl rfl ⟨rfl, rfl, rfl, rfl, rfl⟩ rfl rfl rfl rfl rfl (by kernel_rfl) Try.func5 (by kernel_rfl)
    (of_decide_eq_true (by kernel_rfl)) (by unfold Func.isWrapper; first | (rw [if_pos (by decide +kernel)]; kernel_rfl) | (rw [if_neg (by decide +kernel)]; exact ⟨rfl, rfl⟩))
    (fun os started H enc _ => lifted os started H enc)

theorem proved : Rows.LedgerMovesSaid := over

end Go.Proofs.Ytfhpcodjmmidhaa.ledgerMoves
