/- ledger: what Load gives of what was saved. -/
import Derived.Test.YtfhpcodjmmidhaaLedP
namespace Go.Proofs.Ytfhpcodjmmidhaa
open Go.RowKit Go.Maps Go.Sort

section
variable {H : Type}

/-- Where Load's reading stands. -/
structure LJ (w : World) (b d m : Nat) (s : List UInt8) (D : DataW H) (V : World) : Prop where
  rd : Rd V b ⟨s.toArray⟩ 0
  bk : Bk V d m D
  tn : Turn (fun k => w.heap.size ≤ k) w V
  bl : w.heap.size ≤ b
  dl : w.heap.size ≤ d
  ml : w.heap.size ≤ m

section
variable {w V V' : World} {b d m : Nat} {s s' : List UInt8} {D D' : DataW H}
theorem LJ.read (s' : List UInt8) (h : LJ w b d m s D V) (hr : Rd V' b ⟨s'.toArray⟩ 0) (g : V.grownBy V' (some b)) : LJ w b d m s' D V' := by
  have hbl := h.bl
  refine ⟨hr, h.bk.kept g (fun e => ?_) (fun e => ?_), h.tn.grown g (fun j e _ => by injection e with e; omega), h.bl, h.dl, h.ml⟩
  · injection e with e
    have := h.bk.box
    rw [e] at this
    exact absurd (this.uniq h.rd).2 (by decide)
  · injection e with e
    exact h.bk.map.ne h.rd e
theorem LJ.put (h : LJ w b d m s D V) (hm : Mp V' m D') (t : V.mapTurned V' m) : LJ w b d m s D' V' := by
  have hml := h.ml
  refine ⟨h.rd.grown t.grown (fun e => ?_), h.bk.turned hm t, h.tn.grown t.grown (fun j e _ => by injection e with e; omega), h.bl, h.dl, h.ml⟩
  injection e with e
  exact h.bk.map.ne h.rd e.symm
end

def BLoadPost (D : DataW H) (w : World) (en : Ending) (w' : World) : Prop :=
  ∃ (d m : Nat) (D' : DataW H), en = .returned (.tuple #[.pointer (some ⟨d, 0, none⟩), .int .i64 0]) ∧ Bk w' d m D' ∧ Alike D' D ∧ Below w.heap.size w w' ∧ w.heap.size ≤ d ∧ w.heap.size ≤ m

theorem got_house {D Dk : DataW H} (I : InvF D) {k : Nat} (h : Got D Dk k) (hk : k ≤ 16) : -17592186044416 ≤ amt Dk .empty ∧ amt Dk .empty ≤ 0 := by
  have h1 := h.amt .empty
  rw [if_pos rfl] at h1
  have h2 := sumL_lo D ((namesD D).take k) (fun x hx => (piece_len I (List.mem_of_mem_take hx)).2.2.1) (fun x hx => (piece_len I (List.mem_of_mem_take hx)).2.2.2)
  rw [List.length_take] at h2
  omega
theorem bytesLess_eq' : ∀ x y : List UInt8, Op.bytesLess x y = decide (x < y)
  | [], [] => by simp [Op.bytesLess]
  | [], b :: y => by simp [Op.bytesLess]
  | a :: x, [] => by simp [Op.bytesLess]
  | a :: x, b :: y => by
    rw [Op.bytesLess, bytesLess_eq' x y]
    by_cases h1 : a < b
    · simp [h1, List.cons_lt_cons_iff]
    · by_cases h2 : a = b
      · subst h2; simp
      · simp [h1, h2, List.cons_lt_cons_iff]
theorem less_not {x y : List UInt8} (h : ¬ x ≤ y) : (Op.bytesLess x y || x == y) = false := by
  rw [bytesLess_eq']
  have h1 : ¬ x < y := fun e => h (List.le_of_lt e)
  have h2 : x ≠ y := fun e => h (e ▸ List.le_refl _)
  rw [decide_eq_false h1]
  simpa using h2

set_option maxRecDepth 100000 in
set_option maxHeartbeats 1000000 in
theorem bload_calls (D : DataW H) (w : World) (I : InvF D) :
    Calls Try.prog 20 #[.string (saveB D)] w fun en w' => BLoadPost D w en w' := by
  have hnl : (namesD D).length ≤ 16 := by have := namesD_len I; have := I.inv.size; omega
  have hS : saveB D = ⟨(enc (namesD D).length ++ leftD D 0).toArray⟩ := by unfold saveB saveL leftD; rw [List.drop_zero]
  have hSz : (⟨(enc (namesD D).length ++ leftD D 0).toArray⟩ : ByteArray).size ≤ maxLen := by
    have e1 := enc_len (namesD D).length (by omega)
    have e2 := left_len I 0
    rw [text_size, List.length_append]
    unfold maxLen
    omega
  have hU := upto_enc (namesD D).length (leftD D 0) 16 (by omega) (by omega)
  rw [hS]
  have II := Lib.hid I
  have HU := Lib.hid hU
  have HSZ := Lib.hid hSz
  clear hS hSz hU
  go_enter Try.func20, Try.ntmps20
  go_wp2_with fail
  refine (read_any _ w).mono ?_
  rintro en w1 ⟨rfl, h1, b1⟩
  have H1 := Lib.hid h1
  have B1 := Lib.hid b1
  clear h1 b1
  go_wp2_with fail
  refine (bnew_calls (H := H) w1).mono ?_
  rintro en w2 ⟨d, m, rfl, h2, b2, hd2, hm2⟩
  have hsz := H1.out.lt
  have HJ2 : Hid (LJ w w.heap.size d m (enc (namesD D).length ++ leftD D 0) D0 w2) :=
    ⟨H1.out.below b2 hsz, h2, (Turn.of_below (F := fun j => w.heap.size ≤ j) B1.out (fun _ _ e => e)).trans (Turn.of_below b2 (F := fun j => w1.heap.size ≤ j) (fun _ _ e => e)) (fun j hj e => by omega), Nat.le_refl _, by omega, by omega⟩
  clear h2 b2 H1 B1
  go_wp2_with fail
  refine (upto_any w.heap.size _ 0 16 w2 HSZ.out HJ2.out.rd (by omega) (by omega)).mono ?_
  rw [HU.out]
  rintro en w3 ⟨rfl, h3, g3⟩
  have HJ3 : Hid (LJ w w.heap.size d m (leftD D 0) D0 w3) := HJ2.out.read _ h3 g3
  clear h3 g3 HJ2 HU HSZ
  generalize hn : (namesD D).length = n at *
  have HN := Lib.hid hn
  clear hn
  go_wp2_with fail
  go_loopw [6, 15] (fun ah i wr => ∃ (k : Nat) (Dk : DataW H), i = .int .i64 k ∧ k ≤ n ∧ ah = .string ⟨(aheadD D k).toArray⟩ ∧ Hid (Got D Dk k) ∧ Hid (LJ w w.heap.size d m (leftD D k) Dk wr))
    (fun _ i _ => n - (intOf i).toNat)
  case atStart => exact ⟨0, D0, rfl, Nat.zero_le _, rfl, got_new D, HJ3⟩
  case round =>
    obtain ⟨k, Dk, rfl, hk, rfl, HG, HJ⟩ := hrel
    by_cases hlt : k < n
    · have hkl : k < (namesD D).length := by rw [HN.out]; exact hlt
      have HL := left_step D k hkl
      have HX := Lib.hid (got_next II.out HG.out hkl)
      have HM := piece_len II.out (List.getElem_mem hkl)
      have HMX : Hid ((namesD D)[k] ≠ []) := ((mem_namesD II.out.good _).1 (List.getElem_mem hkl)).1
      have HA := less_not (ahead_lt II.out.good k hkl)
      have HE : Hid (aheadD D (k + 1) = (namesD D)[k]) := ahead_next k hkl
      have HLE := left_len II.out k
      generalize (namesD D)[k] = x at *
      generalize amtL D x = A at *
      obtain ⟨N, rfl⟩ := Int.eq_ofNat_of_zero_le HM.2.2.1
      simp only [Int.toNat_natCast] at HL
      have hwA : (Lit.int .i64 ((N : Int))).wf = true := wf64 (by omega) (by omega)
      have hUp := upto_enc N (leftD D (k + 1)) 1099511627776 (by omega) (by omega)
      have hSt := strN_enc x (enc N ++ leftD D (k + 1)) 12 (by omega) (by omega)
      have hZ : (⟨(enc x.length ++ (x ++ (enc N ++ leftD D (k + 1)))).toArray⟩ : ByteArray).size ≤ maxLen := by
        have e3 := HN.out
        rw [← HL, text_size]; unfold maxLen; omega
      have hZ2 : (⟨(enc N ++ leftD D (k + 1)).toArray⟩ : ByteArray).size ≤ maxLen := by
        have e1 := enc_len N (by omega)
        have e2 := left_len II.out (k + 1)
        have e3 := HN.out
        rw [text_size, List.length_append]
        unfold maxLen
        omega
      rw [HL] at HJ
      have HUP := Lib.hid hUp
      have HST := Lib.hid hSt
      have HZ := Lib.hid hZ
      have HZ2 := Lib.hid hZ2
      have HMM := Lib.hid HM
      clear HL hUp hSt hZ hZ2 HM HLE
      go_wp2_with fail
      refine (str_any w.heap.size _ 0 12 _ HZ.out HJ.out.rd (by omega) (by omega)).mono ?_
      rw [HST.out]
      rintro en v1 ⟨rfl, k1, g1⟩
      have HJ1 : Hid (LJ w w.heap.size d m (enc N ++ leftD D (k + 1)) Dk v1) := HJ.out.read _ k1 g1
      clear k1 g1
      go_wp2_with fail
      refine (upto_any w.heap.size _ 0 1099511627776 v1 HZ2.out HJ1.out.rd (by omega) (by omega)).mono ?_
      rw [HUP.out]
      rintro en v2 ⟨rfl, k2, g2⟩
      have HJ2 : Hid (LJ w w.heap.size d m (leftD D (k + 1)) Dk v2) := HJ1.out.read _ k2 g2
      clear k2 g2
      go_wp2_with fail
      refine (err_any w.heap.size _ 0 v2 HJ2.out.rd).mono ?_
      rintro en v3 ⟨rfl, rfl⟩
      have hksz : Maps.size Dk + 1 < maxLen := by have := HG.out.size; unfold maxLen; omega
      have hkx : keyOf Try.prog 9 (.string ⟨x.toArray⟩) = some (kS ⟨x.toArray⟩) := kS_of (by have := HMM.out.2.1; rw [text_size]; unfold maxLen; omega)
      have hk0 : keyOf Try.prog 9 (.string ⟨#[]⟩) = some (kS ⟨#[]⟩) := kS_of (Nat.zero_le _)
      have c0 : v2.cell? ⟨d, 0, none⟩ = some (.map (some m)) := HJ2.out.bk.box.cell 0
      obtain ⟨v4, hrun4, hown4, hturn4⟩ := World.ownsMap.store HJ2.out.bk.map strKeyed Try.underlying88 (Nat.lt_of_succ_lt hksz) hkx (plainElem_int Try.underlying3 hwA)
      have HJ4 : Hid (LJ w w.heap.size d m (leftD D (k + 1)) (Dk.put (kS ⟨x.toArray⟩) (nI N)) v4) := HJ2.out.put (ownsMap_tight hown4) hturn4
      have hm := HG.out.good.tidy.isMap
      have hne : (⟨x.toArray⟩ : ByteArray) ≠ .empty := empty_toArray HMX.out
      have ha4 : amt (Dk.put (kS ⟨x.toArray⟩) (nI N)) .empty = amt Dk .empty := by rw [amt_put hm, if_neg (fun e => hne e.symm)]
      obtain ⟨q, hq, hat, _⟩ := World.ownsMap.lookup_int HJ4.out.bk.map strKeyed Try.underlying88 Try.underlying3 (zeroInt v4) hk0
      obtain rfl : q = amt Dk .empty := ((amt_of hat).symm.trans ha4)
      have c4 : v4.cell? ⟨d, 0, none⟩ = some (.map (some m)) := HJ4.out.bk.box.cell 0
      obtain ⟨hb1, hb2⟩ := got_house II.out HG.out (by omega)
      have hN2 := HMM.out.2.2.2
      have hwB : (Lit.int .i64 (amt Dk .empty - N)).wf = true := wf64 (by omega) (by omega)
      obtain ⟨v5, hrun5, hown5, hturn5⟩ := World.ownsMap.store hown4 strKeyed Try.underlying88 hksz hk0 (plainElem_int Try.underlying3 hwB)
      have HJ5 : Hid (LJ w w.heap.size d m (leftD D (k + 1)) ((Dk.put (kS ⟨x.toArray⟩) (nI N)).put (kS .empty) (nI (amt Dk .empty - N))) v5) := HJ4.out.put (ownsMap_tight hown5) hturn5
      generalize amt Dk .empty = B at *
      have hs1 : -9223372036854775808 ≤ B - (N : Int) := by omega
      have hs2 : B - (N : Int) ≤ 9223372036854775807 := by omega
      clear hown4 hturn4 hown5 hturn5 hat hkx hk0 hm hne ha4 hwA hwB HJ4 HJ2 HJ1
      go_wp2_with fail
      go_roundw
      case rel => exact ⟨k + 1, _, by go_num, by omega, by rw [HE.out], HX, HJ5⟩
      case measure => simp [intOf]; omega
    · obtain rfl : k = n := by omega
      have E : leftD D k = [] := by rw [← HN.out]; exact left_end D
      have HQ : Hid (Alike Dk D) := got_all II.out (by rw [HN.out]; exact HG.out)
      rw [E] at HJ
      clear E
      go_wp2_with fail
      refine (end_any w.heap.size _ 0 _ HJ.out.rd).mono ?_
      rw [end_nil]
      rintro en w6 ⟨rfl, h6, g6⟩
      have HJ6 := Lib.hid (HJ.out.read [] h6 g6)
      clear h6 g6
      go_wp2_with fail
      go_ret2
      exact ⟨d, m, Dk, rfl, HJ6.out.bk, HQ.out, HJ6.out.tn.below (Nat.le_refl _) (fun j hj e => by omega), HJ6.out.dl, HJ6.out.ml⟩

end
end Go.Proofs.Ytfhpcodjmmidhaa
