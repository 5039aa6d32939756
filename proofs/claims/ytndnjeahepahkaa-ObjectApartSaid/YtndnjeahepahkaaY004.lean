/- Texts laid into one: LedP, LedQ, Hold, LedR, LedH, Open, LedS. -/
import Derived.Test.YtndnjeahepahkaaY003
import Derived.Test.YtndnjeahepahkaaY000
import Derived.Test.YtndnjeahepahkaaY001
import Derived.Deep.Slices
import Derived.Deep.Fields
import Derived.ChangeSame
import Derived.ChangeSlices
import Derived.ProofKit
import Derived.OpenShut
import Derived.Deep.MidRow
import Derived.ChangeOld
section
/- ledger: what was saved is loaded (no program's walk). -/
namespace Go.Proofs.Ytndnjeahepahkaa
open Go.RowKit Go.Maps Go.Sort

section
variable {H : Type}

theorem names_nodup {D : DataW H} (g : Good D) : (namesD D).Nodup :=
  ((List.mergeSort_perm _ _).nodup_iff).2 ((nodup_strKeys g).filter _)

theorem names_lt {D : DataW H} (g : Good D) : (namesD D).Pairwise (· < ·) := by
  have tr : ∀ a b c : List UInt8, leB a b = true → leB b c = true → leB a c = true := fun a b c h1 h2 => by simp only [leB, decide_eq_true_eq] at *; exact List.le_trans h1 h2
  have to : ∀ a b : List UInt8, (leB a b || leB b a) = true := fun a b => by simp only [leB, Bool.or_eq_true, decide_eq_true_eq]; exact List.le_total a b
  have h1 : (namesD D).Pairwise (fun a b => leB a b = true) := List.pairwise_mergeSort tr to _
  refine (h1.and (names_nodup g)).imp (fun {a b} h => ?_)
  obtain ⟨h2, h3⟩ := h
  simp only [leB, decide_eq_true_eq] at h2
  by_cases h : a < b
  · exact h
  · exact absurd (List.le_antisymm h2 (List.not_lt.1 h)) h3

/-- The name ahead of number k. -/
def aheadD (D : DataW H) (k : Nat) : List UInt8 := if k = 0 then [] else (namesD D)[k - 1]?.getD []

theorem ahead_lt {D : DataW H} (g : Good D) (k : Nat) (hk : k < (namesD D).length) : ¬ (namesD D)[k] ≤ aheadD D k := by
  have hm := ((mem_namesD g _).1 (List.getElem_mem hk)).1
  unfold aheadD
  by_cases h : k = 0
  · rw [if_pos h]
    intro h2
    apply hm
    generalize (namesD D)[k] = y at *
    cases y with
    | nil => rfl
    | cons a b => exact absurd (List.nil_lt_cons a b) h2
  · rw [if_neg h, List.getElem?_eq_getElem (by omega)]
    have h1 := List.pairwise_iff_getElem.1 (names_lt g) (k - 1) k (by omega) hk (by omega)
    show ¬ _ ≤ (namesD D)[k - 1]
    exact fun h2 => h2 h1

theorem ahead_next {D : DataW H} (k : Nat) (hk : k < (namesD D).length) : aheadD D (k + 1) = (namesD D)[k] := by
  unfold aheadD
  rw [if_neg (by omega), Nat.add_sub_cancel, List.getElem?_eq_getElem hk]
  rfl

/-- The first k names are in. -/
structure Got (D Dk : DataW H) (k : Nat) : Prop where
  good : Good Dk
  size : Maps.size Dk ≤ k + 1
  isIn : ∀ s : ByteArray, isIn Dk s = true ↔ s = .empty ∨ s.data.toList ∈ (namesD D).take k
  amt : ∀ s : ByteArray, amt Dk s = if s = .empty then - sumL D ((namesD D).take k) else if s.data.toList ∈ (namesD D).take k then amt D s else 0

theorem got_new (D : DataW H) : Got D D0 0 := by
  have hm : IsMap (.map [] : DataW H) := isMap_empty
  refine ⟨good_empty.put _ _, ?_, fun s => ?_, fun s => ?_⟩
  · show Maps.size ((DataW.map []).put (kS ⟨#[]⟩) (nI 0)) ≤ 1
    rw [size_put tidy_empty]
    split <;> simp [Maps.size]
  · have : Proofs.Ytndnjeahepahkaa.isIn (D0 (H := H)) s = if s = ⟨#[]⟩ then true else Proofs.Ytndnjeahepahkaa.isIn (.map []) s := isIn_put hm ⟨#[]⟩ s (nI 0)
    rw [this]
    constructor
    · intro h
      split at h
      · rename_i h1; exact .inl h1
      · cases h
    · rintro (h | h)
      · exact if_pos h
      · simp at h
  · have : Proofs.Ytndnjeahepahkaa.amt (D0 (H := H)) s = if s = ⟨#[]⟩ then 0 else Proofs.Ytndnjeahepahkaa.amt (.map []) s := amt_put hm ⟨#[]⟩ s 0
    rw [this]
    by_cases h : s = .empty
    · rw [if_pos h, if_pos (by exact h)]; simp [sumL]
    · rw [if_neg h, if_neg (by exact h), if_neg (by simp)]
      exact amt_absent rfl

theorem got_next {D Dk : DataW H} (I : InvF D) {k : Nat} (h : Got D Dk k) (hk : k < (namesD D).length) :
    Got D ((Dk.put (kS ⟨(namesD D)[k].toArray⟩) (nI (amtL D (namesD D)[k]))).put (kS .empty) (nI (amt Dk .empty - amtL D (namesD D)[k]))) (k + 1) := by
  have hx := (mem_namesD I.good _).1 (List.getElem_mem hk)
  have hT : (namesD D).take (k + 1) = (namesD D).take k ++ [(namesD D)[k]] := (List.take_append_getElem hk).symm
  have hnd := names_nodup I.good
  generalize hxe : (namesD D)[k] = x at *
  have hne : (⟨x.toArray⟩ : ByteArray) ≠ .empty := empty_toArray hx.1
  have hm := h.good.tidy.isMap
  have hm2 : IsMap (Dk.put (kS ⟨x.toArray⟩) (nI (amtL D x))) := hm.put _ _
  have hof : ∀ s : ByteArray, s = ⟨x.toArray⟩ ↔ s.data.toList = x := fun s => ⟨fun e => by rw [e], fun e => by rw [← e]⟩
  have hin : Proofs.Ytndnjeahepahkaa.isIn (Dk.put (kS ⟨x.toArray⟩) (nI (amtL D x))) .empty = true := by
    rw [isIn_put hm, if_neg (fun e => hne e.symm)]
    exact (h.isIn _).2 (.inl rfl)
  refine ⟨(h.good.put _ _).put _ _, ?_, fun s => ?_, fun s => ?_⟩
  · rw [size_put (h.good.put _ _).tidy, if_pos (show has _ _ = true from hin), size_put h.good.tidy]
    have := h.size
    split <;> omega
  · rw [isIn_put hm2, isIn_put hm, hT, List.mem_append, List.mem_singleton, ← hof s]
    by_cases h1 : s = .empty
    · simp [h1]
    · rw [if_neg h1]
      by_cases h2 : s = ⟨x.toArray⟩
      · simp [h2]
      · rw [if_neg h2, h.isIn s]
        simp [h1, h2]
  · rw [amt_put hm2, amt_put hm, hT]
    by_cases h1 : s = .empty
    · rw [if_pos h1, if_pos h1, sumL_snoc, h.amt, if_pos rfl]
      omega
    · rw [if_neg h1, if_neg h1]
      by_cases h2 : s = ⟨x.toArray⟩
      · rw [if_pos h2, if_pos (by rw [(hof s).1 h2]; simp), h2]
        rfl
      · rw [if_neg h2, h.amt s, if_neg h1]
        have : (s.data.toList ∈ (namesD D).take k ++ [x]) ↔ s.data.toList ∈ (namesD D).take k := by
          rw [List.mem_append, List.mem_singleton, ← hof s]
          simp [h2]
        simp only [this]

theorem got_all {D Dk : DataW H} (I : InvF D) (h : Got D Dk (namesD D).length) : Alike Dk D := by
  refine ⟨h.good, I.good, fun s => ?_⟩
  have hi := h.isIn s
  have ha := h.amt s
  rw [List.take_of_length_le (Nat.le_refl _)] at hi ha
  have hs : s = ⟨s.data.toList.toArray⟩ := by simp
  by_cases h1 : s = .empty
  · subst h1
    rw [if_pos rfl] at ha
    refine ⟨(hi.2 (.inl rfl)).trans I.house.symm, ?_⟩
    rw [ha, (house_amt I).1]
  · rw [if_neg h1] at ha
    have hl : s.data.toList ≠ [] := fun e => h1 (by rw [hs, e]; rfl)
    have hm := mem_namesD I.good s.data.toList
    rw [← hs] at hm
    cases h2 : isIn D s
    · have hn : s.data.toList ∉ namesD D := fun e => by have := (hm.1 e).2; rw [h2] at this; cases this
      rw [if_neg hn] at ha
      refine ⟨?_, by rw [ha, amt_absent h2]⟩
      cases h3 : isIn Dk s
      · rfl
      · rcases hi.1 h3 with h | h
        · exact absurd h h1
        · exact absurd h hn
    · have hn : s.data.toList ∈ namesD D := hm.2 ⟨hl, h2⟩
      rw [if_pos hn] at ha
      exact ⟨hi.2 (.inr hn), ha⟩

theorem Alike.sum {D D' : DataW H} (h : Alike D D') : sumD D = sumD D' := by
  unfold sumD
  rw [sumL_perm D h.perm]
  have : Proofs.Ytndnjeahepahkaa.amtL D = Proofs.Ytndnjeahepahkaa.amtL D' := funext h.amtL
  unfold sumL
  rw [this]

theorem Alike.inv {D D' : DataW H} (h : Alike D D') (I : InvF D') : InvF D := by
  refine ⟨h.l, ⟨h.l.tidy, by rw [h.size]; exact I.inv.size, fun s hs => by rw [(h.same s).2]; exact I.inv.lo s hs, fun s hs => by rw [(h.same s).2]; exact I.inv.hi s hs⟩,
    fun s hs => I.keys s (by rw [← (h.same s).1]; exact hs), by rw [(h.same _).1]; exact I.house, by rw [h.sum]; exact I.sum⟩

/-- What is left of the bytes behind k names. -/
def leftD (D : DataW H) (k : Nat) : List UInt8 := ((namesD D).drop k).flatMap (pieceD D)
theorem left_step (D : DataW H) (k : Nat) (hk : k < (namesD D).length) : leftD D k = enc (namesD D)[k].length ++ ((namesD D)[k] ++ (enc (amtL D (namesD D)[k]).toNat ++ leftD D (k + 1))) := by
  unfold leftD
  rw [List.drop_eq_getElem_cons hk, List.flatMap_cons]
  simp [pieceD]
theorem left_end (D : DataW H) : leftD D (namesD D).length = [] := by
  unfold leftD
  rw [List.drop_of_length_le (Nat.le_refl _)]
  rfl
theorem left_len {D : DataW H} (I : InvF D) (k : Nat) : (leftD D k).length ≤ 34 * (namesD D).length := by
  unfold leftD
  have := flat_len (pieceD D) 34 ((namesD D).drop k) (fun y hy => (piece_len I (List.mem_of_mem_drop hy)).1)
  rw [List.length_drop] at this
  exact Nat.le_trans this (Nat.mul_le_mul_left _ (Nat.sub_le _ _))

end
end Go.Proofs.Ytndnjeahepahkaa
end

section
/- ledger: what Load gives of what was saved. -/
namespace Go.Proofs.Ytndnjeahepahkaa
open Go.RowKit Go.Maps Go.Sort

section
variable {H : Type}

/-- Where Load's reading stands. -/
structure LJ (w : World) (b d m : Nat) (s : List UInt8) (D : DataW H) (V : World) : Prop where
  rd : Rd V b ⟨s.toArray⟩ 0
  bk : Bk V d m D
  tn : Turn (fun k => w.heap.size ≤ k) w V
  bl : w.heap.size ≤ b
  dl : w.heap.size ≤ d
  ml : w.heap.size ≤ m

section
variable {w V V' : World} {b d m : Nat} {s s' : List UInt8} {D D' : DataW H}
theorem LJ.read (s' : List UInt8) (h : LJ w b d m s D V) (hr : Rd V' b ⟨s'.toArray⟩ 0) (g : V.grownBy V' (some b)) : LJ w b d m s' D V' := by
  have hbl := h.bl
  refine ⟨hr, h.bk.kept g (fun e => ?_) (fun e => ?_), h.tn.grown g (fun j e _ => by injection e with e; omega), h.bl, h.dl, h.ml⟩
  · injection e with e
    have := h.bk.box
    rw [e] at this
    exact absurd (this.uniq h.rd).2 (by decide)
  · injection e with e
    exact h.bk.map.ne h.rd e
theorem LJ.put (h : LJ w b d m s D V) (hm : Mp V' m D') (t : V.mapTurned V' m) : LJ w b d m s D' V' := by
  have hml := h.ml
  refine ⟨h.rd.grown t.grown (fun e => ?_), h.bk.turned hm t, h.tn.grown t.grown (fun j e _ => by injection e with e; omega), h.bl, h.dl, h.ml⟩
  injection e with e
  exact h.bk.map.ne h.rd e.symm
end

def BLoadPost (D : DataW H) (w : World) (en : Ending) (w' : World) : Prop :=
  ∃ (d m : Nat) (D' : DataW H), en = .returned (.tuple #[.pointer (some ⟨d, 0, none⟩), .int .i64 0]) ∧ Bk w' d m D' ∧ Alike D' D ∧ Below w.heap.size w w' ∧ w.heap.size ≤ d ∧ w.heap.size ≤ m

theorem got_house {D Dk : DataW H} (I : InvF D) {k : Nat} (h : Got D Dk k) (hk : k ≤ 16) : -17592186044416 ≤ amt Dk .empty ∧ amt Dk .empty ≤ 0 := by
  have h1 := h.amt .empty
  rw [if_pos rfl] at h1
  have h2 := sumL_lo D ((namesD D).take k) (fun x hx => (piece_len I (List.mem_of_mem_take hx)).2.2.1) (fun x hx => (piece_len I (List.mem_of_mem_take hx)).2.2.2)
  rw [List.length_take] at h2
  omega
theorem bytesLess_eq' : ∀ x y : List UInt8, Op.bytesLess x y = decide (x < y)
  | [], [] => by simp [Op.bytesLess]
  | [], b :: y => by simp [Op.bytesLess]
  | a :: x, [] => by simp [Op.bytesLess]
  | a :: x, b :: y => by
    rw [Op.bytesLess, bytesLess_eq' x y]
    by_cases h1 : a < b
    · simp [h1, List.cons_lt_cons_iff]
    · by_cases h2 : a = b
      · subst h2; simp
      · simp [h1, h2, List.cons_lt_cons_iff]
theorem less_not {x y : List UInt8} (h : ¬ x ≤ y) : (Op.bytesLess x y || x == y) = false := by
  rw [bytesLess_eq']
  have h1 : ¬ x < y := fun e => h (List.le_of_lt e)
  have h2 : x ≠ y := fun e => h (e ▸ List.le_refl _)
  rw [decide_eq_false h1]
  simpa using h2

set_option maxRecDepth 100000 in
set_option maxHeartbeats 1000000 in
theorem bload_calls (D : DataW H) (w : World) (I : InvF D) :
    Calls Try.prog 104 #[.string (saveB D)] w fun en w' => BLoadPost D w en w' := by
  have hnl : (namesD D).length ≤ 16 := by have := namesD_len I; have := I.inv.size; omega
  have hS : saveB D = ⟨(enc (namesD D).length ++ leftD D 0).toArray⟩ := by unfold saveB saveL leftD; rw [List.drop_zero]
  have hSz : (⟨(enc (namesD D).length ++ leftD D 0).toArray⟩ : ByteArray).size ≤ maxLen := by
    have e1 := enc_len (namesD D).length (by omega)
    have e2 := left_len I 0
    rw [text_size, List.length_append]
    unfold maxLen
    omega
  have hU := upto_enc (namesD D).length (leftD D 0) 16 (by omega) (by omega)
  rw [hS]
  have II := Lib.hid I
  have HU := Lib.hid hU
  have HSZ := Lib.hid hSz
  clear hS hSz hU
  go_enter Try.func104, Try.ntmps104
  go_wp2_with fail
  refine (read_any _ w).mono ?_
  rintro en w1 ⟨rfl, h1, b1⟩
  have H1 := Lib.hid h1
  have B1 := Lib.hid b1
  clear h1 b1
  go_wp2_with fail
  refine (bnew_calls (H := H) w1).mono ?_
  rintro en w2 ⟨d, m, rfl, h2, b2, hd2, hm2⟩
  have hsz := H1.out.lt
  have HJ2 : Hid (LJ w w.heap.size d m (enc (namesD D).length ++ leftD D 0) D0 w2) :=
    ⟨H1.out.below b2 hsz, h2, (Turn.of_below (F := fun j => w.heap.size ≤ j) B1.out (fun _ _ e => e)).trans (Turn.of_below b2 (F := fun j => w1.heap.size ≤ j) (fun _ _ e => e)) (fun j hj e => by omega), Nat.le_refl _, by omega, by omega⟩
  clear h2 b2 H1 B1
  go_wp2_with fail
  refine (upto_any w.heap.size _ 0 16 w2 HSZ.out HJ2.out.rd (by omega) (by omega)).mono ?_
  rw [HU.out]
  rintro en w3 ⟨rfl, h3, g3⟩
  have HJ3 : Hid (LJ w w.heap.size d m (leftD D 0) D0 w3) := HJ2.out.read _ h3 g3
  clear h3 g3 HJ2 HU HSZ
  generalize hn : (namesD D).length = n at *
  have HN := Lib.hid hn
  clear hn
  go_wp2_with fail
  go_loopw [6, 15] (fun ah i wr => ∃ (k : Nat) (Dk : DataW H), i = .int .i64 k ∧ k ≤ n ∧ ah = .string ⟨(aheadD D k).toArray⟩ ∧ Hid (Got D Dk k) ∧ Hid (LJ w w.heap.size d m (leftD D k) Dk wr))
    (fun _ i _ => n - (intOf i).toNat)
  case atStart => exact ⟨0, D0, rfl, Nat.zero_le _, rfl, got_new D, HJ3⟩
  case round =>
    obtain ⟨k, Dk, rfl, hk, rfl, HG, HJ⟩ := hrel
    by_cases hlt : k < n
    · have hkl : k < (namesD D).length := by rw [HN.out]; exact hlt
      have HL := left_step D k hkl
      have HX := Lib.hid (got_next II.out HG.out hkl)
      have HM := piece_len II.out (List.getElem_mem hkl)
      have HMX : Hid ((namesD D)[k] ≠ []) := ((mem_namesD II.out.good _).1 (List.getElem_mem hkl)).1
      have HA := less_not (ahead_lt II.out.good k hkl)
      have HE : Hid (aheadD D (k + 1) = (namesD D)[k]) := ahead_next k hkl
      have HLE := left_len II.out k
      generalize (namesD D)[k] = x at *
      generalize amtL D x = A at *
      obtain ⟨N, rfl⟩ := Int.eq_ofNat_of_zero_le HM.2.2.1
      simp only [Int.toNat_natCast] at HL
      have hwA : (Lit.int .i64 ((N : Int))).wf = true := wf64 (by omega) (by omega)
      have hUp := upto_enc N (leftD D (k + 1)) 1099511627776 (by omega) (by omega)
      have hSt := strN_enc x (enc N ++ leftD D (k + 1)) 12 (by omega) (by omega)
      have hZ : (⟨(enc x.length ++ (x ++ (enc N ++ leftD D (k + 1)))).toArray⟩ : ByteArray).size ≤ maxLen := by
        have e3 := HN.out
        rw [← HL, text_size]; unfold maxLen; omega
      have hZ2 : (⟨(enc N ++ leftD D (k + 1)).toArray⟩ : ByteArray).size ≤ maxLen := by
        have e1 := enc_len N (by omega)
        have e2 := left_len II.out (k + 1)
        have e3 := HN.out
        rw [text_size, List.length_append]
        unfold maxLen
        omega
      rw [HL] at HJ
      have HUP := Lib.hid hUp
      have HST := Lib.hid hSt
      have HZ := Lib.hid hZ
      have HZ2 := Lib.hid hZ2
      have HMM := Lib.hid HM
      clear HL hUp hSt hZ hZ2 HM HLE
      go_wp2_with fail
      refine (str_any w.heap.size _ 0 12 _ HZ.out HJ.out.rd (by omega) (by omega)).mono ?_
      rw [HST.out]
      rintro en v1 ⟨rfl, k1, g1⟩
      have HJ1 : Hid (LJ w w.heap.size d m (enc N ++ leftD D (k + 1)) Dk v1) := HJ.out.read _ k1 g1
      clear k1 g1
      go_wp2_with fail
      refine (upto_any w.heap.size _ 0 1099511627776 v1 HZ2.out HJ1.out.rd (by omega) (by omega)).mono ?_
      rw [HUP.out]
      rintro en v2 ⟨rfl, k2, g2⟩
      have HJ2 : Hid (LJ w w.heap.size d m (leftD D (k + 1)) Dk v2) := HJ1.out.read _ k2 g2
      clear k2 g2
      go_wp2_with fail
      refine (err_any w.heap.size _ 0 v2 HJ2.out.rd).mono ?_
      rintro en v3 ⟨rfl, rfl⟩
      have hksz : Maps.size Dk + 1 < maxLen := by have := HG.out.size; unfold maxLen; omega
      have hkx : keyOf Try.prog 9 (.string ⟨x.toArray⟩) = some (kS ⟨x.toArray⟩) := kS_of (by have := HMM.out.2.1; rw [text_size]; unfold maxLen; omega)
      have hk0 : keyOf Try.prog 9 (.string ⟨#[]⟩) = some (kS ⟨#[]⟩) := kS_of (Nat.zero_le _)
      have c0 : v2.cell? ⟨d, 0, none⟩ = some (.map (some m)) := HJ2.out.bk.box.cell 0
      obtain ⟨v4, hrun4, hown4, hturn4⟩ := World.ownsMap.store HJ2.out.bk.map strKeyed Try.underlying85 (Nat.lt_of_succ_lt hksz) hkx (plainElem_int Try.underlying3 hwA)
      have HJ4 : Hid (LJ w w.heap.size d m (leftD D (k + 1)) (Dk.put (kS ⟨x.toArray⟩) (nI N)) v4) := HJ2.out.put (ownsMap_tight hown4) hturn4
      have hm := HG.out.good.tidy.isMap
      have hne : (⟨x.toArray⟩ : ByteArray) ≠ .empty := empty_toArray HMX.out
      have ha4 : amt (Dk.put (kS ⟨x.toArray⟩) (nI N)) .empty = amt Dk .empty := by rw [amt_put hm, if_neg (fun e => hne e.symm)]
      obtain ⟨q, hq, hat, _⟩ := World.ownsMap.lookup_int HJ4.out.bk.map strKeyed Try.underlying85 Try.underlying3 (zeroInt v4) hk0
      obtain rfl : q = amt Dk .empty := ((amt_of hat).symm.trans ha4)
      have c4 : v4.cell? ⟨d, 0, none⟩ = some (.map (some m)) := HJ4.out.bk.box.cell 0
      obtain ⟨hb1, hb2⟩ := got_house II.out HG.out (by omega)
      have hN2 := HMM.out.2.2.2
      have hwB : (Lit.int .i64 (amt Dk .empty - N)).wf = true := wf64 (by omega) (by omega)
      obtain ⟨v5, hrun5, hown5, hturn5⟩ := World.ownsMap.store hown4 strKeyed Try.underlying85 hksz hk0 (plainElem_int Try.underlying3 hwB)
      have HJ5 : Hid (LJ w w.heap.size d m (leftD D (k + 1)) ((Dk.put (kS ⟨x.toArray⟩) (nI N)).put (kS .empty) (nI (amt Dk .empty - N))) v5) := HJ4.out.put (ownsMap_tight hown5) hturn5
      generalize amt Dk .empty = B at *
      have hs1 : -9223372036854775808 ≤ B - (N : Int) := by omega
      have hs2 : B - (N : Int) ≤ 9223372036854775807 := by omega
      clear hown4 hturn4 hown5 hturn5 hat hkx hk0 hm hne ha4 hwA hwB HJ4 HJ2 HJ1
      go_wp2_with fail
      go_roundw
      case rel => exact ⟨k + 1, _, by go_num, by omega, by rw [HE.out], HX, HJ5⟩
      case measure => simp [intOf]; omega
    · obtain rfl : k = n := by omega
      have E : leftD D k = [] := by rw [← HN.out]; exact left_end D
      have HQ : Hid (Alike Dk D) := got_all II.out (by rw [HN.out]; exact HG.out)
      rw [E] at HJ
      clear E
      go_wp2_with fail
      refine (end_any w.heap.size _ 0 _ HJ.out.rd).mono ?_
      rw [end_nil]
      rintro en w6 ⟨rfl, h6, g6⟩
      have HJ6 := Lib.hid (HJ.out.read [] h6 g6)
      clear h6 g6
      go_wp2_with fail
      go_ret2
      exact ⟨d, m, Dk, rfl, HJ6.out.bk, HQ.out, HJ6.out.tn.below (Nat.le_refl _) (fun j hj e => by omega), HJ6.out.dl, HJ6.out.ml⟩

end
end Go.Proofs.Ytndnjeahepahkaa
end

section
/- A region that draws its order, where reads and calls that leave the world come ahead of stores: each of them may be taken first. Of no program. -/
namespace Go.Proofs.Ytndnjeahepahkaa
open Go.RowKit

section
variable {P : Program} {ops : Array Oper} {Q : Exit → Act → World → Prop} {md : Region.Mode} {C : World → Prop} {Wr : List Nat}

/-- What an operation comes to: v, and the world stays. -/
def ComesQ (P : Program) (v : Value) (w : World) : Result Next → Prop
  | .ok (.value u) w' => u = v ∧ w' = w
  | .ok (.enter f args) w' => w' = w ∧ Calls P f args w fun en w'' => en = .returned v ∧ w'' = w
  | _ => False

/-- In state a operation o makes v in every world that meets C, and leaves the world. -/
def Quiet (P : Program) (ops : Array Oper) (C : World → Prop) (o : Oper) (v : Value) (a : Act) : Prop :=
  (Region.wanted o (yielded ops a.tmps) = true ∧ ∀ w, C w → ComesQ P v w ((execOp a.eval o).run P w)) ∨
  (Region.wanted o (yielded ops a.tmps) = false ∧ v = undef)

theorem Quiet.of_same {o : Oper} {v : Value} {a a' : Act} (hy : Quiet P ops C o v a) (he : execOp a'.eval o = execOp a.eval o)
    (hw : Region.wanted o (yielded ops a'.tmps) = Region.wanted o (yielded ops a.tmps)) : Quiet P ops C o v a' := by
  unfold Quiet at *
  rw [he, hw]
  exact hy

theorem Quiet.wpOp {i : Nat} {o : Oper} {v : Value} {a : Act} (hi : ops[i]? = some o) (hy : Quiet P ops C o v a)
    {K : Act → World → Prop} {w : World} (hC : C w) (h : K (a.put o.dst v) w) : wpOp P ops Q i K a w := by
  unfold Go.wpOp
  simp only [hi]
  rcases hy with ⟨hw, hv⟩ | ⟨hw, rfl⟩
  · simp only [hw, if_true, Oper.wp]
    refine .inl ?_
    have := hv w hC
    generalize (execOp a.eval o).run P w = r at this
    cases r with
    | ok n w' =>
      cases n with
      | value u => obtain ⟨rfl, rfl⟩ := this; exact h
      | enter f args =>
        obtain ⟨rfl, hc⟩ := this
        exact Calls.mono hc fun en w'' he => by obtain ⟨rfl, rfl⟩ := he; exact h
      | _ => exact this.elim
    | halt x w' => exact this.elim
  · simp only [hw, Bool.false_eq_true, if_false]; exact h

theorem wpOp_putQ {j : Nat} {oi oj : Oper} {v : Value} (hj : ops[j]? = some oj) (hap : oi.apart ops oj = true)
    (hsi : ∀ cs b, oi.op ≠ .select cs b) (hsj : ∀ cs b, oj.op ≠ .select cs b)
    (hQ : ∀ c a w, Q (.panic c) (a.put oi.dst v) w → Q (.panic c) a w) {K : Act → World → Prop} {a : Act} {w : World}
    (hy : Quiet P ops C oi v a) (h : wpOp P ops Q j K (a.put oi.dst v) w) :
    wpOp P ops Q j (fun a' w' => Quiet P ops C oi v a' ∧ K (a'.put oi.dst v) w') a w := by
  obtain ⟨h1, h2, h3⟩ := Oper.apart_spec hap
  have keep : ∀ (a : Act), Quiet P ops C oi v a → ∀ u, Quiet P ops C oi v (a.put oj.dst u) := fun a hy u =>
    hy.of_same (execOp_put oi hsi a oj.dst u h3) (wanted_put oi a oj.dst u h3)
  have keepD : ∀ d, Quiet P ops C oi v { a with defers := d :: a.defers } := fun d => hy.of_same rfl rfl
  unfold wpOp at *
  simp only [hj] at *
  rw [wanted_put oj a oi.dst v h1] at h
  split
  · rename_i hw
    simp only [hw, if_true] at h
    rcases h with h | ⟨hasks, hlets⟩
    case inr => exact .inr ⟨by unfold Oper.asks at *; rw [execOp_put oj hsj a oi.dst v h1] at hasks; exact hasks, hlets⟩
    refine .inl ?_
    unfold Oper.wp at *
    rw [execOp_put oj hsj a oi.dst v h1] at h
    generalize (execOp a.eval oj).run P w = r at *
    cases r with
    | ok n w' =>
      cases n <;> simp only [Oper.upon] at h ⊢
      case value u => exact ⟨keep a hy u, by rw [← Act.put_comm a v u h2]; exact h⟩
      case skip => exact ⟨keep a hy _, by rw [← Act.put_comm a v undef h2]; exact h⟩
      case defer d =>
        refine ⟨keep _ (keepD d) _, ?_⟩
        rw [← Act.put_comm _ v undef h2, ← Act.put_defers]
        exact h
      case enter f args =>
        refine Calls.mono h fun e w'' he => ?_
        cases e with
        | returned u => exact ⟨keep a hy u, by rw [← Act.put_comm a v u h2]; exact he⟩
        | panicked c => exact hQ _ _ _ he
        | outgrown => exact he
      case row row args => exact Rows.mono h fun u w'' he => ⟨keep a hy u, by rw [← Act.put_comm a v u h2]; exact he⟩
    | halt x w' =>
      cases x <;> simp only [Oper.upon] at h ⊢
      case panic u => exact hQ _ _ _ h
  · rename_i hw
    simp only [hw] at h
    exact ⟨keep a hy _, by rw [← Act.put_comm a v undef h2]; exact h⟩

/-- None of the stores has come up. -/
def noneL (Wr : List Nat) (listed : Array Bool) : Bool := Wr.all fun k => !listed.getD k true

theorem noneL_set {j : Nat} {listed : Array Bool} (h : noneL Wr listed = true) (hj : j ∉ Wr) : noneL Wr (listed.setIfInBounds j true) = true := by
  unfold noneL at *
  rw [List.all_eq_true] at *
  intro k hk
  have hjk : j ≠ k := fun e => hj (e ▸ hk)
  rw [getD_set_ne true hjk]
  exact h k hk

/-- Whatever order is picked from here on; as long as no store has come up C holds. -/
def wpAnyD (P : Program) (md : Region.Mode) (ops : Array Oper) (Q : Exit → Act → World → Prop) (C : World → Prop) (Wr : List Nat) : Nat → Array Bool → Act → World → Prop
  | 0, listed, a, w => Region.ready md ops listed = [] ∧ Q .normal a w
  | fuel + 1, listed, a, w =>
    (Region.ready md ops listed = [] → Q .normal a w) ∧
    ∀ i ∈ Region.ready md ops listed, wpOp P ops Q i (fun a' w' => (noneL Wr (listed.setIfInBounds i true) = true → C w') ∧ wpAnyD P md ops Q C Wr fuel (listed.setIfInBounds i true) a' w') a w

theorem wpAny_of_D : ∀ (fuel : Nat) (listed : Array Bool) (a : Act) (w : World), wpAnyD P md ops Q C Wr fuel listed a w → wpAny P md ops Q fuel listed a w
  | 0, _, _, _, h => h
  | fuel + 1, _, _, _, h => ⟨h.1, fun i hi => wpOp_mono (fun a' w' h' => wpAny_of_D fuel _ a' w' h'.2) (h.2 i hi)⟩

/-- What came up came up behind all that it waits for. -/
def Closed (md : Region.Mode) (ops : Array Oper) (listed : Array Bool) : Prop :=
  ∀ c oc, ops[c]? = some oc → listed.getD c true = true → ∀ e ∈ oc.after, Region.binds md e = true → listed.getD e.on true = true
def closedB (md : Region.Mode) (ops : Array Oper) (listed : Array Bool) : Bool :=
  (List.range ops.size).all fun c => !listed.getD c true || ((ops[c]?.map fun o => o.after.all fun e => !Region.binds md e || listed.getD e.on true).getD true)
theorem closed_spec {listed : Array Bool} (h : closedB md ops listed = true) : Closed md ops listed := by
  intro c oc hc hl e he hb
  unfold closedB at h
  rw [List.all_eq_true] at h
  have hcl : c < ops.size := (Array.getElem?_eq_some_iff.1 hc).1
  have h1 := h c (List.mem_range.2 hcl)
  rw [hl, hc] at h1
  simp only [Bool.not_true, Bool.false_or, Option.map_some, Option.getD_some, Array.all_eq_true] at h1
  obtain ⟨q, hq, rfl⟩ := Array.mem_iff_getElem.1 he
  have h2 := h1 q hq
  rw [hb] at h2
  simpa using h2
theorem ready_listed {j : Nat} {listed : Array Bool} (hj : j ∈ Region.ready md ops listed) : ∃ oj, ops[j]? = some oj ∧ ∀ e ∈ oj.after, Region.binds md e = true → listed.getD e.on true = true := by
  obtain ⟨_, oj, hoj, hall⟩ := mem_ready.1 hj
  refine ⟨oj, hoj, fun e he hb => ?_⟩
  have := hall e he hb
  rcases Nat.lt_or_ge e.on listed.size with h | h
  · simp [h] at this ⊢; exact this
  · simp [Array.getElem?_eq_none h]
theorem closed_set {j : Nat} {listed : Array Bool} (h : Closed md ops listed) (hj : j ∈ Region.ready md ops listed) : Closed md ops (listed.setIfInBounds j true) := by
  have mono : ∀ k, listed.getD k true = true → (listed.setIfInBounds j true).getD k true = true := fun k hk => by
    by_cases e : j = k
    · subst e
      rcases Nat.lt_or_ge j listed.size with h | h
      · simp [h]
      · simp
    · rw [getD_set_ne true e]; exact hk
  intro c oc hc hl e he hb
  by_cases ec : j = c
  · subst ec
    obtain ⟨oj, hoj, hall⟩ := ready_listed hj
    obtain rfl : oj = oc := by rw [hoj] at hc; injection hc
    exact mono _ (hall e he hb)
  · rw [getD_set_ne true ec] at hl
    exact mono _ (h c oc hc hl e he hb)

/-- Operation k waits for i. -/
def waits (md : Region.Mode) (ops : Array Oper) (k i : Nat) : Bool := (ops[k]?.map fun o => o.after.any fun e => Region.binds md e && e.on == i).getD false
theorem waits_spec {k i : Nat} (h : waits md ops k i = true) : ∃ o, ops[k]? = some o ∧ ∃ e ∈ o.after, Region.binds md e = true ∧ e.on = i := by
  unfold waits at h
  cases ho : ops[k]? with
  | none => rw [ho] at h; simp at h
  | some o =>
    rw [ho] at h
    simp only [Option.map_some, Option.getD_some, Array.any_eq_true, Bool.and_eq_true] at h
    obtain ⟨q, hq, hb, he⟩ := h
    exact ⟨o, rfl, _, Array.getElem_mem hq, hb, by simpa using he⟩

/-- Number i has to come ahead of each store, by one step or by two. -/
def ahead (md : Region.Mode) (ops : Array Oper) (Wr : List Nat) (i : Nat) : Bool :=
  Wr.all fun k => k != i && (waits md ops k i || (List.range ops.size).any fun c => waits md ops k c && waits md ops c i)
theorem ahead_not {i j : Nat} {listed : Array Bool} (hah : ahead md ops Wr i = true) (hc : Closed md ops listed) (hi : listed.getD i true = false) (hj : j ∈ Region.ready md ops listed) : j ∉ Wr := fun h => by
  unfold ahead at hah
  rw [List.all_eq_true] at hah
  have h2 := hah j h
  simp only [Bool.and_eq_true, Bool.or_eq_true, List.any_eq_true] at h2
  obtain ⟨oj, hoj, hall⟩ := ready_listed hj
  rcases h2.2 with h3 | ⟨c, _, h3, h4⟩
  · obtain ⟨o, ho, e, he, hb, rfl⟩ := waits_spec h3
    obtain rfl : oj = o := by rw [hoj] at ho; injection ho
    rw [hall e he hb] at hi
    cases hi
  · obtain ⟨o, ho, e, he, hb, rfl⟩ := waits_spec h3
    obtain rfl : oj = o := by rw [hoj] at ho; injection ho
    obtain ⟨o2, ho2, e2, he2, hb2, rfl⟩ := waits_spec h4
    rw [hc _ _ ho2 (hall e he hb) e2 he2 hb2] at hi
    cases hi

theorem wpAnyD_first {i : Nat} {oi : Oper} {v : Value} (hi : ops[i]? = some oi) (hsel : ∀ (j : Nat) (o : Oper) cs b, ops[j]? = some o → o.op ≠ .select cs b)
    (hQ : ∀ c a w, Q (.panic c) (a.put oi.dst v) w → Q (.panic c) a w) (hah : ahead md ops Wr i = true) :
    ∀ (fuel : Nat) (listed : Array Bool) (a : Act) (w : World),
      (∀ j oj, ops[j]? = some oj → j ≠ i → listed.getD j true = false → (∀ e ∈ oj.after, Region.binds md e = true → e.on ≠ i) → oi.apart ops oj = true) →
      i ∈ Region.ready md ops listed → Closed md ops listed → noneL Wr listed = true → Quiet P ops C oi v a → C w →
      wpAnyD P md ops Q C Wr fuel (listed.setIfInBounds i true) (a.put oi.dst v) w → wpAnyD P md ops Q C Wr (fuel + 1) listed a w := by
  have hiW : i ∉ Wr := fun h => by
    unfold ahead at hah
    rw [List.all_eq_true] at hah
    have := hah i h
    simp at this
  intro fuel
  induction fuel with
  | zero =>
    intro listed a w _ hr hcl hn hy hC H
    refine ⟨fun h => (by rw [h] at hr; cases hr), fun j hj => ?_⟩
    by_cases hji : j = i
    · subst hji; exact hy.wpOp hi hC ⟨fun _ => hC, H⟩
    · have := ready_mono hj hji
      rw [H.1] at this
      cases this
  | succ fuel ih =>
    intro listed a w hfree hr hcl hn hy hC H
    refine ⟨fun h => (by rw [h] at hr; cases hr), fun j hj => ?_⟩
    by_cases hji : j = i
    · subst hji; exact hy.wpOp hi hC ⟨fun _ => hC, H⟩
    · have h1 := H.2 j (ready_mono hj hji)
      obtain ⟨hjun, oj, hoj, hall⟩ := mem_ready.1 hj
      have hnot : ∀ e ∈ oj.after, Region.binds md e = true → e.on ≠ i := fun e he hb heq => by
        have h1 := hall e he hb
        have h0 := (mem_ready.1 hr).1
        rw [heq] at h1
        rcases Nat.lt_or_ge i listed.size with h' | h'
        · simp [h'] at h0 h1; rw [h0] at h1; cases h1
        · simp [Array.getElem?_eq_none h'] at h1
      have hjW : j ∉ Wr := ahead_not hah hcl (mem_ready.1 hr).1 hj
      have hn2 : noneL Wr (listed.setIfInBounds j true) = true := noneL_set hn hjW
      have hn3 : noneL Wr ((listed.setIfInBounds i true).setIfInBounds j true) = true := noneL_set (noneL_set hn hiW) hjW
      have h2 := wpOp_putQ hoj (hfree j oj hoj hji hjun hnot) (fun cs b => hsel i oi cs b hi) (fun cs b => hsel j oj cs b hoj) hQ hy h1
      have hfree' : ∀ k ok, ops[k]? = some ok → k ≠ i → (listed.setIfInBounds j true).getD k true = false →
          (∀ e ∈ ok.after, Region.binds md e = true → e.on ≠ i) → oi.apart ops ok = true := fun k ok hk hki hun hno => by
        refine hfree k ok hk hki ?_ hno
        by_cases hjk : j = k
        · subst hjk; exact hjun
        · rw [getD_set_ne true hjk] at hun; exact hun
      refine wpOp_mono (fun a' w' h3 => ⟨fun _ => h3.2.1 hn3, ih (listed.setIfInBounds j true) a' w' hfree' (ready_mono hr (Ne.symm hji)) (closed_set hcl hj) hn2 h3.1 (h3.2.1 hn3) ?_⟩) h2
      rw [Array.setIfInBounds_comm _ _ hji]
      exact h3.2.2

/-- Take number i: a value. -/
theorem quiet_take (i : Nat) (d : Option Tmp) {oi : Oper} {v : Value} {fuel : Nat} {listed : Array Bool} {a : Act} {w : World} (hi : ops[i]? = some oi) (hd : oi.dst = d)
    (hs : Region.noSelect ops = true) (hf : Region.free md ops listed i = true) (hr : (Region.ready md ops listed).contains i = true)
    (hQ : ∀ c a w, Q (.panic c) (a.put d v) w → Q (.panic c) a w) (hah : (ahead md ops Wr i && closedB md ops listed) = true) (hn : noneL Wr listed = true) (hw : Region.wanted oi (yielded ops a.tmps) = true)
    (hy : ∀ w, C w → (execOp a.eval oi).run P w = .ok (.value v) w) (hC : C w)
    (h : wpAnyD P md ops Q C Wr fuel (listed.setIfInBounds i true) (a.put d v) w) : wpAnyD P md ops Q C Wr (fuel + 1) listed a w := by
  subst hd
  exact wpAnyD_first hi (Region.noSelect_spec hs) hQ (by rw [Bool.and_eq_true] at hah; exact hah.1) fuel listed a w (Region.free_spec hi hf) (by simpa using hr) (by rw [Bool.and_eq_true] at hah; exact closed_spec hah.2) hn (.inl ⟨hw, fun w hC => by rw [hy w hC]; exact ⟨rfl, rfl⟩⟩) hC h

/-- Take number i: a call that leaves the world. -/
theorem quiet_call (i : Nat) (d : Option Tmp) {oi : Oper} (v : Value) {fuel : Nat} {listed : Array Bool} {a : Act} {w : World} (hi : ops[i]? = some oi) (hd : oi.dst = d)
    (hs : Region.noSelect ops = true) (hf : Region.free md ops listed i = true) (hr : (Region.ready md ops listed).contains i = true)
    (hQ : ∀ c a w, Q (.panic c) (a.put d v) w → Q (.panic c) a w) (hah : (ahead md ops Wr i && closedB md ops listed) = true) (hn : noneL Wr listed = true) (hw : Region.wanted oi (yielded ops a.tmps) = true)
    (f : FuncId) (fn : Func) (hfn : P.funcs[f]? = some fn) (hname : (fn.name == "runtime.NumGoroutine") = false) (hb : fn.body.isNone = false) (xs : Array Operand) (ts : Array TypeId)
    (ho : oi.op = .call { callee := .value (.func f), args := xs, argTypes := ts }) (vs : Array Value) (hv : xs.map a.eval = vs)
    (hc : ∀ w, C w → Calls P f vs w fun en w' => en = .returned v ∧ w = w') (hC : C w)
    (h : wpAnyD P md ops Q C Wr fuel (listed.setIfInBounds i true) (a.put d v) w) : wpAnyD P md ops Q C Wr (fuel + 1) listed a w := by
  subst hd
  exact wpAnyD_first hi (Region.noSelect_spec hs) hQ (by rw [Bool.and_eq_true] at hah; exact hah.1) fuel listed a w (Region.free_spec hi hf) (by simpa using hr) (by rw [Bool.and_eq_true] at hah; exact closed_spec hah.2) hn (.inl ⟨hw, fun w hC => by
    have hfv : a.eval (.func f) = .func (.func f) #[] #[] := rfl
    have he : (execOp a.eval oi).run P w = .ok (.enter f vs) w := by
      simp only [execOp, ho]
      have h1 : fn.name ≠ "runtime.NumGoroutine" := by simpa using hname
      simp [resolve, hv, hfv, Deferred.ofValue, invoke, callFunc, hfn, h1]
      intro hn
      simp [hn] at hb
    rw [he]
    exact ⟨rfl, (hc w hC).mono fun _ _ h => ⟨h.1, h.2.symm⟩⟩⟩) hC h

/-- Just one may come up. -/
theorem quiet_one {i : Nat} {fuel : Nat} {listed : Array Bool} {a : Act} {w : World} (hr : Region.ready md ops listed = [i])
    (h : wpOp P ops Q i (fun a' w' => (noneL Wr (listed.setIfInBounds i true) = true → C w') ∧ wpAnyD P md ops Q C Wr fuel (listed.setIfInBounds i true) a' w') a w) : wpAnyD P md ops Q C Wr (fuel + 1) listed a w :=
  ⟨fun h0 => (by rw [hr] at h0; cases h0), fun j hj => by rw [hr] at hj; obtain rfl := List.mem_singleton.1 hj; exact h⟩

theorem quiet_done {listed : Array Bool} {a : Act} {w : World} (hr : Region.ready md ops listed = []) (h : Q .normal a w) :
    ∀ fuel, wpAnyD P md ops Q C Wr fuel listed a w
  | 0 => ⟨hr, h⟩
  | _ + 1 => ⟨fun _ => h, by rw [hr]; simp⟩

theorem wp_region_quiet {id : Nat} {a : Act} {w : World} (C : World → Prop) (Wr : List Nat) (hm : P.follows .mixedOrders = true)
    (h : wpAnyD P .any ops Q C Wr ops.size (Array.replicate ops.size false) a w.drew) : (Code.region id ops true).wp P Q a w :=
  wp_region_any hm (wpAny_of_D _ _ _ _ h)

/-- An operation that only turns the world (a store). -/
theorem wpOp_skip {i : Nat} {o : Oper} {K : Act → World → Prop} {a : Act} {w w' : World} (hi : ops[i]? = some o) (hd : o.dst = none) (hw : Region.wanted o (yielded ops a.tmps) = true)
    (hr : (execOp a.eval o).run P w = .ok .skip w') (h : K a w') : wpOp P ops Q i K a w := by
  unfold Go.wpOp
  simp only [hi, hw, if_true, Oper.wp, hr, Oper.upon, hd]
  exact .inl h

end
end Go.Proofs.Ytndnjeahepahkaa
end

section
/- ledger: what Few gives. -/
namespace Go.Proofs.Ytndnjeahepahkaa
open Go.RowKit Go.Maps

def few14 (s : ByteArray) : ByteArray := s.extract 0 14
theorem few14_size (s : ByteArray) : (few14 s).size ≤ 14 := by
  unfold few14
  rw [ByteArray.size_extract]
  omega

theorem cut14_any (s : ByteArray) (w : World) (hs : s.size ≤ maxLen) : Calls Try.prog 33 #[.string s, .int .i64 14] w fun en w' => en = .returned (.string (few14 s)) ∧ w = w' := cut_any s 14 w (by omega) hs

set_option maxRecDepth 100000 in
set_option maxHeartbeats 1000000 in
theorem lfew_calls (k n : Int) (s t : ByteArray) (w : World) (hs : s.size ≤ maxLen) (ht : t.size ≤ maxLen) :
    Calls Try.prog 20 #[.agg #[.int .i64 k, .string s, .string t, .int .i64 n]] w fun en w' => en = .returned (.agg #[.int .i64 k, .string (few14 s), .string (few14 t), .int .i64 n]) ∧ Below w.heap.size w w' := by
  have HS := fun W => Lib.hid (cut14_any s W hs)
  have HT := fun W => Lib.hid (cut14_any t W ht)
  clear hs ht
  go_enter Try.func20, Try.ntmps20
  go_wp2_with fail
  go_name_world W hW
  obtain ⟨p, ep⟩ : ∃ p, p = w.heap.size := ⟨_, rfl⟩
  have H1 : Hid (Has W p 31 #[.int .i64 k, .string s, .string t, .int .i64 n]) := by show Has _ _ _ _; rw [← hW, ep]; exact (Has.made _ _ _).alloc _
  have H2 : Hid (Has W (p + 1) 31 #[.int .i64 0, .string ⟨#[]⟩, .string ⟨#[]⟩, .int .i64 0]) := by show Has _ _ _ _; rw [← hW, ep]; exact made_at _ _ (by simp)
  have T0 : Hid (Turn (fun k => w.heap.size ≤ k) w W) := by show Turn _ _ _; rw [← hW]; exact ((Turn.refl _ _).alloc _).alloc _
  rw [← ep]
  have hq : Hid (w.heap.size ≤ p) := Nat.le_of_eq ep.symm
  have c1 : W.cell? ⟨p, 1, none⟩ = some (.string s) := H1.out.cell 1
  have c2 : W.cell? ⟨p, 2, none⟩ = some (.string t) := H1.out.cell 2
  have f1 : W.frozen? ⟨p, 1, none⟩ = false := H1.out.free 1
  have f2 : W.frozen? ⟨p, 2, none⟩ = false := H1.out.free 2
  clear hW ep
  go_wp2_with fail
  refine wp_region_quiet (fun V => Has V p 31 #[.int .i64 k, .string s, .string t, .int .i64 n]) [7, 9] (by kernel_rfl) ?_
  have hC : (fun V => Has V p 31 #[.int .i64 k, .string s, .string t, .int .i64 n]) W.drew := H1.out.drew
  clear c1 c2 f1 f2
  refine quiet_take 0 (some 3) (v := .pointer (some ⟨p, 1, none⟩)) rfl rfl (by kernel_rfl) (by kernel_rfl) (by kernel_rfl) (fun _ _ _ h => h) (by kernel_rfl) (by kernel_rfl) (by kernel_rfl) (fun V _ => by go_simp) hC ?_
  refine quiet_take 1 (some 4) (v := .string s) rfl rfl (by kernel_rfl) (by kernel_rfl) (by kernel_rfl) (fun _ _ _ h => h) (by kernel_rfl) (by kernel_rfl) (by kernel_rfl) (fun V hV => by have c1 := Has.cell hV 1; go_simp) hC ?_
  refine quiet_call 2 (some 5) (.string (few14 s)) rfl rfl (by kernel_rfl) (by kernel_rfl) (by kernel_rfl) (fun _ _ _ h => h) (by kernel_rfl) (by kernel_rfl) (by kernel_rfl) 33 Try.f33 Try.func33 (by kernel_rfl) (by kernel_rfl) _ _ rfl #[.string s, .int .i64 14] (by first | (simp [Act.eval]; done) | (simp [Act.eval, Act.put]; done)) (fun V _ => (HS V).out) hC ?_
  refine quiet_take 3 (some 6) (v := .pointer (some ⟨p, 2, none⟩)) rfl rfl (by kernel_rfl) (by kernel_rfl) (by kernel_rfl) (fun _ _ _ h => h) (by kernel_rfl) (by kernel_rfl) (by kernel_rfl) (fun V _ => by go_simp) hC ?_
  refine quiet_take 4 (some 7) (v := .string t) rfl rfl (by kernel_rfl) (by kernel_rfl) (by kernel_rfl) (fun _ _ _ h => h) (by kernel_rfl) (by kernel_rfl) (by kernel_rfl) (fun V hV => by have c1 := Has.cell hV 2; go_simp) hC ?_
  refine quiet_call 5 (some 8) (.string (few14 t)) rfl rfl (by kernel_rfl) (by kernel_rfl) (by kernel_rfl) (fun _ _ _ h => h) (by kernel_rfl) (by kernel_rfl) (by kernel_rfl) 33 Try.f33 Try.func33 (by kernel_rfl) (by kernel_rfl) _ _ rfl #[.string t, .int .i64 14] (by first | (simp [Act.eval]; done) | (simp [Act.eval, Act.put]; done)) (fun V _ => (HT V).out) hC ?_
  simp only [Act.put, List.setIfInBounds_toArray, List.set_cons_zero, List.set_cons_succ]
  refine quiet_one (i := 6) (by kernel_rfl) ?_
  refine wpOp_value (some 9) (v := .pointer (some ⟨p, 1, none⟩)) (w' := W.drew) rfl rfl (by kernel_rfl) (by go_simp) ⟨fun _ => hC, ?_⟩
  have f1 : W.frozen? ⟨p, 1, none⟩ = false := H1.out.free 1
  have f2 : W.frozen? ⟨p, 2, none⟩ = false := H1.out.free 2
  have k1 : W.cell? ⟨p, 1, none⟩ = some (.string s) := H1.out.cell 1
  have k2 : W.cell? ⟨p, 2, none⟩ = some (.string t) := H1.out.cell 2
  refine quiet_one (i := 7) (by kernel_rfl) ?_
  refine wpOp_skip (w' := (W.setCell ⟨p, 1, none⟩ (.string (few14 s))).drew) rfl rfl (by kernel_rfl) (by go_simp) ⟨(fun h => by cases h), ?_⟩
  refine quiet_one (i := 8) (by kernel_rfl) ?_
  refine wpOp_value (some 10) (v := .pointer (some ⟨p, 2, none⟩)) (w' := (W.setCell ⟨p, 1, none⟩ (.string (few14 s))).drew) rfl rfl (by kernel_rfl) (by go_simp) ⟨(fun h => by cases h), ?_⟩
  refine quiet_one (i := 9) (by kernel_rfl) ?_
  refine wpOp_skip (w' := ((W.setCell ⟨p, 1, none⟩ (.string (few14 s))).setCell ⟨p, 2, none⟩ (.string (few14 t))).drew) rfl rfl (by kernel_rfl) (by go_simp) ⟨(fun h => by cases h), ?_⟩
  refine quiet_done (by kernel_rfl) ?_ _
  have E1 : Hid (Has (((W.setCell ⟨p, 1, none⟩ (.string (few14 s))).setCell ⟨p, 2, none⟩ (.string (few14 t))).drew) p 31 #[.int .i64 k, .string (few14 s), .string (few14 t), .int .i64 n]) := by
    show Has _ _ _ _
    simpa using ((H1.out.put 1 (.string (few14 s))).put 2 (.string (few14 t))).drew
  have E2 : Hid (Has (((W.setCell ⟨p, 1, none⟩ (.string (few14 s))).setCell ⟨p, 2, none⟩ (.string (few14 t))).drew) (p + 1) 31 #[.int .i64 0, .string ⟨#[]⟩, .string ⟨#[]⟩, .int .i64 0]) := 
    ((H2.out.far (p := ⟨p, 1, none⟩) (Nat.succ_ne_self p) _).far (p := ⟨p, 2, none⟩) (Nat.succ_ne_self p) _).drew
  have T1 : Hid (Turn (fun k => w.heap.size ≤ k) w (((W.setCell ⟨p, 1, none⟩ (.string (few14 s))).setCell ⟨p, 2, none⟩ (.string (few14 t))).drew)) :=
    ((T0.out.put (fun h => by have := hq.out; omega) 1 _).put (fun h => by have := hq.out; omega) 2 _).drew
  generalize ((W.setCell ⟨p, 1, none⟩ (.string (few14 s))).setCell ⟨p, 2, none⟩ (.string (few14 t))).drew = W1 at *
  have x0 : W1.cell? ⟨p, 0, none⟩ = some (.int .i64 k) := E1.out.cell 0
  have x1 : W1.cell? ⟨p, 1, none⟩ = some (.string (few14 s)) := E1.out.cell 1
  have x2 : W1.cell? ⟨p, 2, none⟩ = some (.string (few14 t)) := E1.out.cell 2
  have x3 : W1.cell? ⟨p, 3, none⟩ = some (.int .i64 n) := E1.out.cell 3
  have y0 : W1.cell? ⟨p + 1, 0, none⟩ = some (.int .i64 0) := E2.out.cell 0
  have y1 : W1.cell? ⟨p + 1, 1, none⟩ = some (.string ⟨#[]⟩) := E2.out.cell 1
  have y2 : W1.cell? ⟨p + 1, 2, none⟩ = some (.string ⟨#[]⟩) := E2.out.cell 2
  have y3 : W1.cell? ⟨p + 1, 3, none⟩ = some (.int .i64 0) := E2.out.cell 3
  have z0 : W1.frozen? ⟨p + 1, 0, none⟩ = false := E2.out.free 0
  have z1 : W1.frozen? ⟨p + 1, 1, none⟩ = false := E2.out.free 1
  have z2 : W1.frozen? ⟨p + 1, 2, none⟩ = false := E2.out.free 2
  have z3 : W1.frozen? ⟨p + 1, 3, none⟩ = false := E2.out.free 3
  go_wp2_with fail
  have E3 : Has ((((W1.setCell ⟨p + 1, 0, none⟩ (.int .i64 k)).setCell ⟨p + 1, 1, none⟩ (.string (few14 s))).setCell ⟨p + 1, 2, none⟩ (.string (few14 t))).setCell ⟨p + 1, 3, none⟩ (.int .i64 n)) (p + 1) 31 #[.int .i64 k, .string (few14 s), .string (few14 t), .int .i64 n] := by
    simpa using (((E2.out.put 0 (.int .i64 k)).put 1 (.string (few14 s))).put 2 (.string (few14 t))).put 3 (.int .i64 n)
  have T3 : Hid (Turn (fun k => w.heap.size ≤ k) w ((((W1.setCell ⟨p + 1, 0, none⟩ (.int .i64 k)).setCell ⟨p + 1, 1, none⟩ (.string (few14 s))).setCell ⟨p + 1, 2, none⟩ (.string (few14 t))).setCell ⟨p + 1, 3, none⟩ (.int .i64 n))) :=
    (((T1.out.put (fun h => by have := hq.out; omega) _ _).put (fun h => by have := hq.out; omega) _ _).put (fun h => by have := hq.out; omega) _ _).put (fun h => by have := hq.out; omega) _ _
  generalize (((W1.setCell ⟨p + 1, 0, none⟩ (.int .i64 k)).setCell ⟨p + 1, 1, none⟩ (.string (few14 s))).setCell ⟨p + 1, 2, none⟩ (.string (few14 t))).setCell ⟨p + 1, 3, none⟩ (.int .i64 n) = W2 at *
  have w0 : W2.cell? ⟨p + 1, 0, none⟩ = some (.int .i64 k) := E3.cell 0
  have w1 : W2.cell? ⟨p + 1, 1, none⟩ = some (.string (few14 s)) := E3.cell 1
  have w2 : W2.cell? ⟨p + 1, 2, none⟩ = some (.string (few14 t)) := E3.cell 2
  have w3 : W2.cell? ⟨p + 1, 3, none⟩ = some (.int .i64 n) := E3.cell 3
  exact bodyPost_ret (v := .agg #[.int .i64 k, .string (few14 s), .string (few14 t), .int .i64 n]) (by simp [results, Try.results20, go_sem, w0, w1, w2, w3]) rfl ⟨rfl, turn_box T3.out⟩

end Go.Proofs.Ytndnjeahepahkaa
end

section
/- ledger: what Inverse gives. -/
namespace Go.Proofs.Ytndnjeahepahkaa
open Go.RowKit

/-- The op that takes one back. -/
def invL (k n : Int) (s t : ByteArray) : Value :=
  if k = 1 then .agg #[.int .i64 2, .string s, .string ⟨#[]⟩, .int .i64 0]
  else if k = 2 then .agg #[.int .i64 1, .string s, .string ⟨#[]⟩, .int .i64 0]
  else if k = 3 then .agg #[.int .i64 3, .string t, .string s, .int .i64 n]
  else .agg #[.int .i64 0, .string ⟨#[]⟩, .string ⟨#[]⟩, .int .i64 0]



set_option maxRecDepth 100000 in
set_option maxHeartbeats 1000000 in
theorem linverse_calls (k n : Int) (s t : ByteArray) (w : World) :
    Calls Try.prog 23 #[.agg #[.int .i64 k, .string s, .string t, .int .i64 n]] w fun en w' => en = .returned (invL k n s t) ∧ Below w.heap.size w w' := by
  by_cases h1 : k = 1
  · subst h1
    go_enter Try.func23, Try.ntmps23
    go_wp2_with fail
    refine bodyPost_ret (v := .agg #[.int .i64 2, .string s, .string ⟨#[]⟩, .int .i64 0]) (by simp [results, Try.results23, go_sem]) rfl ⟨rfl, turn_box ?_⟩
    repeat (first | exact Turn.refl _ _ | refine Turn.drew ?_ | refine Turn.alloc ?_ _ | refine Turn.put ?_ (fun h => by omega) _ _)
  · by_cases h2 : k = 2
    · subst h2
      go_enter Try.func23, Try.ntmps23
      go_wp2_with fail
      refine bodyPost_ret (v := .agg #[.int .i64 1, .string s, .string ⟨#[]⟩, .int .i64 0]) (by simp [results, Try.results23, go_sem]) rfl ⟨rfl, turn_box ?_⟩
      repeat (first | exact Turn.refl _ _ | refine Turn.drew ?_ | refine Turn.alloc ?_ _ | refine Turn.put ?_ (fun h => by omega) _ _)
    · by_cases h3 : k = 3
      · subst h3
        go_enter Try.func23, Try.ntmps23
        go_wp2_with fail
        refine bodyPost_ret (v := .agg #[.int .i64 3, .string t, .string s, .int .i64 n]) (by simp [results, Try.results23, go_sem]) rfl ⟨rfl, turn_box ?_⟩
        repeat (first | exact Turn.refl _ _ | refine Turn.drew ?_ | refine Turn.alloc ?_ _ | refine Turn.put ?_ (fun h => by omega) _ _)
      · have E : Hid (invL k n s t = .agg #[.int .i64 0, .string ⟨#[]⟩, .string ⟨#[]⟩, .int .i64 0]) := by show _ = _; unfold invL; rw [if_neg h1, if_neg h2, if_neg h3]
        have k1 : (k != 1) = true := by simpa using h1
        have k2 : (k != 2) = true := by simpa using h2
        have k3 : (k != 3) = true := by simpa using h3
        clear h1 h2 h3
        go_enter Try.func23, Try.ntmps23
        go_wp2_with fail
        refine bodyPost_ret (v := .agg #[.int .i64 0, .string ⟨#[]⟩, .string ⟨#[]⟩, .int .i64 0]) (by simp [results, Try.results23, go_sem]) rfl ⟨E.out.symm ▸ rfl, turn_box ?_⟩
        repeat (first | exact Turn.refl _ _ | refine Turn.drew ?_ | refine Turn.alloc ?_ _ | refine Turn.put ?_ (fun h => by omega) _ _)

end Go.Proofs.Ytndnjeahepahkaa
end

section
/- A slice of structs that is handed in: what stands in the cells of its elements. Of no program. -/
namespace Go.Proofs.Ytndnjeahepahkaa
open Go.ChangeShapes Go.WideShapes Go.ChangeAt Go.RowKit

theorem opened_rows {H : Type} {enc : TypeId × Value → H} {P : Program} {w : World} {spare : Nat → Bool} {held : Bool} {t e : TypeId} {fs : Array Field}
    (ht : P.underlying t = some (.slice e)) (he : P.underlying e = some (.struct fs)) (hone : Go.Deep.oneCellFields P fs = true) (hC : P.cellsOf e = fs.size) (h0 : 0 < fs.size)
    {a : Option Addr} {len cap : Nat} {d : DataW H} {p : List MemPlace} (h : DataW.Trod enc P w 0 spare held t (.slice a len cap) d p) :
    len ≤ cap ∧ cap ≤ maxLen ∧ ∀ i, i < len → ∃ b o, a = some ⟨b, o, none⟩ ∧ b < w.heap.size ∧
      ∀ (j : Nat) (f : Field), fs[j]? = some f → ∃ (v : Value) (n : Nat) (y : DataW H × List MemPlace), w.cell? ⟨b, o + i * fs.size + j, none⟩ = some v ∧ DataW.trod enc P w 0 spare held n f.type [v] = some y := by
  obtain ⟨fuel, h⟩ := h
  rcases Go.Deep.open_slice ht h with ⟨hn, _⟩ | ⟨g, l, c, m, n, D, Pl, hn, _, hlc, hcm, hm, _, hall⟩
  · simp [Value.cells] at hn
    obtain ⟨rfl, rfl, rfl⟩ := hn
    exact ⟨Nat.le_refl _, Nat.zero_le _, fun i hi => absurd hi (Nat.not_lt_zero _)⟩
  · simp [Value.cells] at hn
    obtain ⟨rfl, rfl, rfl⟩ := hn
    refine ⟨hlc, hcm, fun i hi => ?_⟩
    obtain ⟨cs, hc, hd⟩ := hall i (by rw [hm]; split <;> omega)
    rw [hC] at hc
    obtain ⟨_, hcl, hat⟩ := World.cells?_some hc
    obtain ⟨ys, k, _, _, hlen, hyl, hf⟩ := DataW.trod_struct he hd
    obtain ⟨gb, go, gs⟩ := g
    have hcell : ∀ j, j < fs.size → ∃ v, cs[j]? = some v ∧ w.cell? (((⟨gb, go, gs⟩ : Addr).add (i * fs.size)).add j) = some v := fun j hj => by
      have hv : cs[j]? = some (cs[j]'(by omega)) := List.getElem?_eq_getElem (by omega)
      exact ⟨_, hv, by rw [hat j hj, hv]⟩
    have hs : gs = none := by
      obtain ⟨cs0, hc0, _⟩ := hall 0 (by rw [hm]; split <;> omega)
      rw [hC, Nat.zero_mul] at hc0
      obtain ⟨_, hcl0, hat0⟩ := World.cells?_some hc0
      have hv : cs0[0]? = some (cs0[0]'(by omega)) := List.getElem?_eq_getElem (by omega)
      have h1 := World.cell?_spot ((hat0 0 h0).trans hv)
      simpa [Addr.add] using h1
    subst hs
    have hb : gb < w.heap.size := by
      obtain ⟨v, _, hv⟩ := hcell 0 h0
      rw [Addr.add_mid, Addr.add_mid] at hv
      rcases Nat.lt_or_ge gb w.heap.size with k | k
      · exact k
      · unfold World.cell? at hv
        simp [Array.getElem?_eq_none k] at hv
    refine ⟨gb, go, rfl, hb, fun j f hj => ?_⟩
    have hjl : j < fs.size := (Array.getElem?_eq_some_iff.1 hj).1
    obtain ⟨v, hv, hw⟩ := hcell j hjl
    rw [Addr.add_mid, Addr.add_mid] at hw
    obtain ⟨ho, hk⟩ := Go.Deep.hone_of hone j f hj
    have h1 := hf j f hj
    rw [ho, hk] at h1
    have hjc : j < cs.length := by omega
    have e1 : (cs.drop j).take 1 = [v] := by
      rw [List.drop_eq_getElem_cons hjc]
      have : cs[j] = v := by rw [List.getElem?_eq_getElem hjc] at hv; injection hv
      rw [this]; rfl
    rw [e1] at h1
    have hys : ys[j]? = some (ys[j]'(by omega)) := List.getElem?_eq_getElem (by omega)
    exact ⟨v, _, _, hw, h1.trans hys⟩

/-- A struct that is handed in by value: what stands in its fields (any number of one-cell fields). -/
theorem opened_agg {H : Type} {enc : TypeId × Value → H} {P : Program} {w W : World} {spare : Nat → Bool} {held : Bool} {r : Reach} {b0 : Nat} {e : TypeId} {fs : Array Field}
    (he : P.underlying e = some (.struct fs)) (hone : Go.Deep.oneCellFields P fs = true) (hC : P.cellsOf e = fs.size)
    {v : Value} {d : DataW H} {p : List MemPlace} (hw : Value.okWide P W r b0 e v) (h : DataW.Trod enc P w 0 spare held e v d p) :
    ∃ cs : Array Value, v = .agg cs ∧ cs.size = fs.size ∧ ∀ (j : Nat) (f : Field), fs[j]? = some f → ∃ (u : Value) (n : Nat) (y : DataW H × List MemPlace), cs[j]? = some u ∧ DataW.trod enc P w 0 spare held n f.type [u] = some y := by
  obtain ⟨cs, rfl, hz⟩ := okWide_struct he hw
  obtain ⟨fuel, h⟩ := h
  rw [hC] at hz
  refine ⟨cs, rfl, hz, fun j f hj => ?_⟩
  obtain ⟨ys, k, _, _, hlen, hyl, hf⟩ := DataW.trod_struct he h
  have hjl : j < fs.size := (Array.getElem?_eq_some_iff.1 hj).1
  obtain ⟨ho, hk⟩ := Go.Deep.hone_of hone j f hj
  have h1 := hf j f hj
  rw [ho, hk] at h1
  have hjc : j < cs.toList.length := by simp; omega
  have hv : cs[j]? = some (cs.toList[j]'hjc) := by simp [hz ▸ hjl]
  have e1 : ((Value.agg cs).cells.toList.drop j).take 1 = [cs.toList[j]'hjc] := by
    show (cs.toList.drop j).take 1 = _
    rw [List.drop_eq_getElem_cons hjc]
    rfl
  rw [e1] at h1
  have hys : ys[j]? = some (ys[j]'(by omega)) := List.getElem?_eq_getElem (by omega)
  exact ⟨_, _, _, hv, h1.trans hys⟩

end Go.Proofs.Ytndnjeahepahkaa
end

section
/- ledger: an op as a struct; slices of ops that are handed in; Do of any op at a book that was reached. -/
namespace Go.Proofs.Ytndnjeahepahkaa
open Go.ChangeShapes Go.WideShapes Go.ChangeAt Go.RowKit Go.Maps Go.Sort

/-- An op. -/
structure OpL where
  k : Int
  s : ByteArray
  t : ByteArray
  n : Int

def OpL.cells (o : OpL) : List Value := [.int .i64 o.k, .string o.s, .string o.t, .int .i64 o.n]
def OpL.val (o : OpL) : Value := .agg #[.int .i64 o.k, .string o.s, .string o.t, .int .i64 o.n]
def OpL.few (o : OpL) : OpL := ⟨o.k, few14 o.s, few14 o.t, o.n⟩
def OpL.inv (o : OpL) : OpL := ⟨invK o.k, invS o.k o.s o.t, invT o.k o.s, invN o.k o.n⟩
/-- Short names. -/
def OpL.Short (o : OpL) : Prop := o.s.size ≤ 14 ∧ o.t.size ≤ 14
theorem few_short (o : OpL) : o.few.Short := ⟨few14_size _, few14_size _⟩
theorem inv_short {o : OpL} (h : o.Short) : o.inv.Short := by
  obtain ⟨k, s, t, n⟩ := o
  obtain ⟨h1, h2⟩ := h
  have h1' : s.size ≤ 14 := h1
  have h2' : t.size ≤ 14 := h2
  constructor
  · show (invS k s t).size ≤ 14
    unfold invS
    split <;> assumption
  · show (invT k s).size ≤ 14
    unfold invT
    split
    · assumption
    · exact Nat.zero_le _

section
variable {H : Type}
def doO (D : DataW H) (o : OpL) : DataW H × Int := doL D o.k o.s o.t o.n

theorem invF_doO {D : DataW H} (I : InvF D) (o : OpL) : InvF (doO D o).1 := invF_do I _ _ _ _

theorem bdo_any (d m : Nat) (D : DataW H) (o : OpL) (w : World) (h : Bk w d m D) (I : InvF D) (ho : o.Short) :
    Calls Try.prog 74 #[.pointer (some ⟨d, 0, none⟩), .agg #[.int .i64 o.k, .string o.s, .string o.t, .int .i64 o.n]] w fun en w' => DPost d m w (doO D o) en w' := by
  have h1 := I.small o.s
  have h2 := I.small o.t
  have h3 := I.inv.size
  have h4 := ho.1
  have h5 := ho.2
  exact bdo_calls d m D o.k o.n o.s o.t w h (by unfold maxLen; omega) (by unfold maxLen; omega) (by unfold maxLen; omega) (by omega) (by omega) (by omega) (by omega)

theorem linv_any (o : OpL) (w : World) (h : o.k = 1 ∨ o.k = 2 ∨ o.k = 3) :
    Calls Try.prog 23 #[.agg #[.int .i64 o.k, .string o.s, .string o.t, .int .i64 o.n]] w fun en w' => en = .returned (.agg #[.int .i64 o.inv.k, .string o.inv.s, .string o.inv.t, .int .i64 o.inv.n]) ∧ Below w.heap.size w w' := by
  obtain ⟨k, s, t, n⟩ := o
  refine (linverse_calls k n s t w).mono ?_
  rintro en w' ⟨rfl, b⟩
  refine ⟨?_, b⟩
  have h' : k = 1 ∨ k = 2 ∨ k = 3 := h
  rcases h' with rfl | rfl | rfl <;> rfl

theorem doO_kind {D : DataW H} {o : OpL} (h : (doO D o).2 = 0) : o.k = 1 ∨ o.k = 2 ∨ o.k = 3 := by
  rcases chk_kind (do_chk h) with h | h | h
  · exact .inl h
  · exact .inr (.inl h)
  · exact .inr (.inr h.1)

theorem doO_back {D : DataW H} (I : InvF D) {o : OpL} (h : (doO D o).2 = 0) : (doO (doO D o).1 o.inv).2 = 0 ∧ Alike (doO (doO D o).1 o.inv).1 D := by
  obtain ⟨h1, h2⟩ := do_back I.inv h
  exact ⟨h1, do_good (do_good I.good _ _ _ _) _ _ _ _, I.good, h2⟩

theorem doO_not {D : DataW H} {o : OpL} (h : ¬ (doO D o).2 = 0) : (doO D o).1 = D := do_not h
theorem doO_alike {D D' : DataW H} (a : Alike D D') (o : OpL) : ((doO D o).2 = 0 ↔ (doO D' o).2 = 0) ∧ Alike (doO D o).1 (doO D' o).1 := do_alike a _ _ _ _

end

/-- Two moves of the same names in one. -/
theorem lfew_any (o : OpL) (w : World) (hs : o.s.size ≤ maxLen) (ht : o.t.size ≤ maxLen) :
    Calls Try.prog 20 #[.agg #[.int .i64 o.k, .string o.s, .string o.t, .int .i64 o.n]] w fun en w' => en = .returned (.agg #[.int .i64 o.few.k, .string o.few.s, .string o.few.t, .int .i64 o.few.n]) ∧ Below w.heap.size w w' := lfew_calls o.k o.n o.s o.t w hs ht

end Go.Proofs.Ytndnjeahepahkaa
end

