/- StockFull: for every number the law answers true, and its argument reads afterwards as it did. Conditions: none. -/
import Derived.Test.YtfhpcodjmmidhaaStoT
namespace Go.Proofs.Ytfhpcodjmmidhaa.stock.stockFull
open Go.ChangeShapes Go.WideShapes Go.ChangeAt Go.RowKit Go.Maps

/-- The k-th name. -/
def lt (k : Nat) : ByteArray := Utf8.encode (65 + (k : Int))
set_option maxRecDepth 100000 in
theorem lt_is (k : Nat) (h : k < 30) : lt k = ⟨#[UInt8.ofNat (65 + k)]⟩ := by
  unfold lt Utf8.encode
  have h1 : (65 + (k : Int)).toNat = 65 + k := by omega
  have h2 : Utf8.valid (65 + (k : Int)) = true := by
    unfold Utf8.valid
    simp
    omega
  rw [if_pos h2, h1, if_pos (by omega)]
theorem lt_size (k : Nat) (h : k < 30) : (lt k).size = 1 := by rw [lt_is k h]; rfl
theorem lt_ne (k : Nat) (h : k < 30) : lt k ≠ .empty := fun e => by
  have := lt_size k h
  rw [e] at this
  cases this
theorem lt_inj {j k : Nat} (hj : j < 30) (hk : k < 30) (h : lt j = lt k) : j = k := by
  rw [lt_is j hj, lt_is k hk] at h
  have h2 : UInt8.ofNat (65 + j) = UInt8.ofNat (65 + k) := by
    have := congrArg (fun b : ByteArray => b.data.toList) h
    simpa using this
  have h3 := congrArg UInt8.toNat h2
  simp at h3
  omega

/-- Names of one byte each, of which no two are the same. -/
structure Ls (L : Nat → ByteArray) : Prop where
  size : ∀ k, k < 30 → (L k).size = 1
  inj : ∀ j k, j < 30 → k < 30 → L j = L k → j = k
theorem Ls.ne {L : Nat → ByteArray} (h : Ls L) (k : Nat) (hk : k < 30) : L k ≠ .empty := fun e => by
  have := h.size k hk
  rw [e] at this
  cases this
theorem ls : ∃ L : Nat → ByteArray, Ls L ∧ ∀ k : Nat, Utf8.encode (65 + (k : Int)) = L k := ⟨lt, ⟨lt_size, fun _ _ hj hk h => lt_inj hj hk h⟩, fun _ => rfl⟩

section
variable {H : Type}
def op1 (s : ByteArray) : OpS := ⟨1, s, 1⟩
/-- Behind k names. -/
def DF (H : Type) (L : Nat → ByteArray) : Nat → DataW H
  | 0 => .map []
  | k + 1 => (doO (DF H L k) (op1 (L k))).1

theorem add_put {D : DataW H} (I : InvS D) {s : ByteArray} (h0 : s ≠ .empty) (hz : s.size ≤ 12) (ha : amt D s + 1 ≤ 1099511627776) (h1 : amt D s = 0 → Maps.size D < 16) :
    (doO D (op1 s)).2 = 0 ∧ (doO D (op1 s)).1 = D.put (kS s) (nI (amt D s + 1)) ∧ Maps.size (doO D (op1 s)).1 = if amt D s = 0 then Maps.size D + 1 else Maps.size D := by
  have hc : chkS 1 s 1 = 0 := chkS_of (.inl rfl) h0 hz (by decide) (by decide)
  have hk : (doS D 1 s 1).2 = 0 := (doS_ok I).2 ⟨hc, fun _ => ⟨h1, ha⟩, fun e => absurd e (by decide)⟩
  have e : (doS D 1 s 1).1 = D.put (kS s) (nI (amt D s + 1)) := by
    rw [doS_of hc, if_pos rfl] at hk ⊢
    exact adS_is I hk
  refine ⟨hk, e, ?_⟩
  show Maps.size (doS D 1 s 1).1 = _
  rw [e, size_put I.good.tidy]
  by_cases h : amt D s = 0
  · rw [if_pos h, if_neg (by rw [show has D (kS s) = false from I.absent.2 h]; simp)]
  · rw [if_neg h, if_pos (show has D (kS s) = true by cases hh : has D (kS s) with | true => rfl | false => exact absurd (I.absent.1 hh) h)]

structure FF (L : Nat → ByteArray) (D : DataW H) (k : Nat) : Prop where
  inv : InvS D
  size : Maps.size D = min k 16
  at1 : ∀ j, j < k → j < 16 → amt D (L j) = 1
  at0 : ∀ x, (∀ j, j < k → j < 16 → x ≠ L j) → amt D x = 0

set_option maxRecDepth 100000 in
theorem ff {L : Nat → ByteArray} (hL : Ls L) (k : Nat) (h : k ≤ 30) : FF L (DF H L k) k := by
  induction k with
  | zero => exact ⟨invS_new, rfl, fun j hj => by omega, fun x _ => amt_absent rfl⟩
  | succ k ih =>
    have F := ih (by omega)
    have hn : amt (DF H L k) (L k) = 0 := F.at0 _ (fun j hj _ e => by have := hL.inj _ _ (by omega) (by omega) e; omega)
    have hl := hL.size k (by omega)
    by_cases hk : k < 16
    · obtain ⟨h1, h2, h3⟩ := add_put F.inv (hL.ne k (by omega)) (by omega) (by rw [hn]; decide) (fun _ => by rw [F.size]; omega)
      rw [if_pos hn, F.size] at h3
      have ha : ∀ x, amt (DF H L (k + 1)) x = if x = L k then 1 else amt (DF H L k) x := fun x => by
        show amt (doO (DF H L k) (op1 (L k))).1 x = _
        rw [h2, amt_put F.inv.map, hn]
        rfl
      refine ⟨invS_doO F.inv _, by rw [show Maps.size (DF H L (k + 1)) = _ from h3]; omega, fun j hj hj2 => ?_, fun x hx => ?_⟩
      · rw [ha]
        by_cases e : j = k
        · rw [e, if_pos rfl]
        · rw [if_neg (fun e2 => e (hL.inj _ _ (by omega) (by omega) e2)), F.at1 j (by omega) hj2]
      · rw [ha, if_neg (hx k (by omega) hk)]
        exact F.at0 x (fun j hj hj2 => hx j (by omega) hj2)
    · have hc : chkS 1 (L k) 1 = 0 := chkS_of (.inl rfl) (hL.ne k (by omega)) (by omega) (by decide) (by decide)
      have e : doO (DF H L k) (op1 (L k)) = (DF H L k, 7) := by
        show doS (DF H L k) 1 (L k) 1 = _
        rw [doS_of hc, if_pos rfl]
        exact if_pos ⟨F.inv.absent.2 hn, by rw [F.size]; omega⟩
      have e2 : DF H L (k + 1) = DF H L k := by show (doO (DF H L k) (op1 (L k))).1 = _; rw [e]
      rw [e2]
      exact ⟨F.inv, by rw [F.size]; omega, fun j hj hj2 => F.at1 j (by omega) hj2, fun x hx => F.at0 x (fun j hj hj2 => hx j (by omega) hj2)⟩

set_option maxRecDepth 100000 in
theorem ff_code {L : Nat → ByteArray} (hL : Ls L) (k : Nat) (h : k < 30) : (doO (DF H L k) (op1 (L k))).2 = if k < 16 then 0 else 7 := by
  have F := ff (H := H) hL k (by omega)
  have hn : amt (DF H L k) (L k) = 0 := F.at0 _ (fun j hj _ e => by have := hL.inj _ _ (by omega) (by omega) e; omega)
  have hl := hL.size k h
  by_cases hk : k < 16
  · rw [if_pos hk]
    exact (add_put F.inv (hL.ne k h) (by omega) (by rw [hn]; decide) (fun _ => by rw [F.size]; omega)).1
  · rw [if_neg hk]
    have hc : chkS 1 (L k) 1 = 0 := chkS_of (.inl rfl) (hL.ne k h) (by omega) (by decide) (by decide)
    have e : doO (DF H L k) (op1 (L k)) = (DF H L k, 7) := by
      show doS (DF H L k) 1 (L k) 1 = _
      rw [doS_of hc, if_pos rfl]
      exact if_pos ⟨F.inv.absent.2 hn, by rw [F.size]; omega⟩
    rw [e]

set_option maxRecDepth 100000 in
/-- What is there has one. -/
theorem ff_one {L : Nat → ByteArray} (hL : Ls L) (k : Nat) (h : k ≤ 30) (x : ByteArray) (hx : isIn (DF H L k) x = true) : amt (DF H L k) x = 1 := by
  have F := ff (H := H) hL k h
  by_cases he : ∃ j, j < k ∧ j < 16 ∧ x = L j
  · obtain ⟨j, h1, h2, rfl⟩ := he
    exact F.at1 j h1 h2
  · have := F.at0 x (fun j h1 h2 e => he ⟨j, h1, h2, e⟩)
    have h3 := (F.inv.isIn_iff x).1 hx
    omega

/-- Behind the growing of k of the names. -/
structure GG (D G : DataW H) (k : Nat) : Prop where
  inv : InvS G
  size : Maps.size G = Maps.size D
  amt : ∀ x : ByteArray, amt G x = amt D x + if x.data.toList ∈ (namesD D).take k then 1 else 0

theorem gg_step {D G : DataW H} (I : InvS D) (h1 : ∀ x, isIn D x = true → Proofs.Ytfhpcodjmmidhaa.amt D x = 1) {k : Nat} (h : GG D G k) (hk : k < (namesD D).length) :
    (doO G (op1 ⟨(namesD D)[k].toArray⟩)).2 = 0 ∧ GG D (doO G (op1 ⟨(namesD D)[k].toArray⟩)).1 (k + 1) ∧ Proofs.Ytfhpcodjmmidhaa.amt (doO G (op1 ⟨(namesD D)[k].toArray⟩)).1 ⟨(namesD D)[k].toArray⟩ = 2 := by
  have hx := (mem_namesD I.good _).1 (List.getElem_mem hk)
  have hT : (namesD D).take (k + 1) = (namesD D).take k ++ [(namesD D)[k]] := (List.take_append_getElem hk).symm
  have hnot : (namesD D)[k] ∉ (namesD D).take k := fun hm => by
    have hn := names_nodup I.good
    rw [← List.take_append_drop k (namesD D), List.nodup_append] at hn
    exact hn.2.2 _ hm _ (by rw [List.drop_eq_getElem_cons hk]; exact List.mem_cons_self) rfl
  have hkeys := I.keys _ hx.2
  have hone := h1 _ hx.2
  generalize (namesD D)[k] = x at *
  have hxl : (⟨x.toArray⟩ : ByteArray).data.toList = x := by simp
  have ha : Proofs.Ytfhpcodjmmidhaa.amt G ⟨x.toArray⟩ = 1 := by rw [h.amt, hone, hxl, if_neg hnot]; rfl
  obtain ⟨k1, k2, k3⟩ := add_put h.inv hkeys.1 hkeys.2.1 (by rw [ha]; decide) (fun e => by omega)
  have hamt : ∀ y, Proofs.Ytfhpcodjmmidhaa.amt (doO G (op1 ⟨x.toArray⟩)).1 y = if y = ⟨x.toArray⟩ then 2 else Proofs.Ytfhpcodjmmidhaa.amt G y := fun y => by
    rw [k2, amt_put h.inv.map, ha]
    rfl
  refine ⟨k1, ⟨invS_doO h.inv _, by rw [k3, if_neg (by omega), h.size], fun y => ?_⟩, by rw [hamt, if_pos rfl]⟩
  rw [hamt, hT]
  by_cases hy : y = ⟨x.toArray⟩
  · rw [if_pos hy, hy, hone, hxl, if_pos (by simp)]
    rfl
  · rw [if_neg hy, h.amt y]
    have : (y.data.toList ∈ (namesD D).take k ++ [x]) ↔ y.data.toList ∈ (namesD D).take k := by
      rw [List.mem_append, List.mem_singleton]
      constructor
      · rintro (e | e)
        · exact e
        · exact absurd (show y = ⟨x.toArray⟩ by rw [← e]) hy
      · exact .inl
    simp only [this]
end

theorem calls_name {P : Program} {f : FuncId} {args : Array Value} {w : World} {R : Ending → World → Prop} (h : ∀ W, w = W → Calls P f args W R) : Calls P f args w R := h w rfl

set_option maxRecDepth 100000 in
set_option maxHeartbeats 2000000 in
theorem full_any (n : Int) (w : World) (hn : -9223372036854775808 ≤ n) (hn' : n ≤ 9223372036854775807) :
    Calls Try.prog 8 #[.int .i64 n] w fun en w' => en = .returned (.bool true) ∧ Below w.heap.size w w' := by
  obtain ⟨L, hLs, hUt⟩ := ls
  have HLs := Lib.hid hLs
  have HUt := Lib.hid hUt
  clear hLs hUt
  go_enter Try.func8, Try.ntmps8
  go_wp2_with fail
  refine (lawake_any w).mono ?_
  rintro en w1 ⟨rfl, b1⟩
  have T1 : Hid (Turn (fun j => w.heap.size ≤ j) w w1) := Turn.of_below b1 (fun _ _ e => e)
  clear b1
  go_wp2_with fail
  obtain ⟨N, hN, hN30⟩ : ∃ N : Nat, min (max n 0) 30 = (N : Int) ∧ N ≤ 30 := ⟨(min (max n 0) 30).toNat, by omega, by omega⟩
  rw [hN]
  have HN30 := Lib.hid hN30
  clear hN
  refine (snew_calls (H := Unit) w1).mono ?_
  rintro en w2 ⟨d, m, rfl, h2, b2, hd, hm⟩
  have HW : Hid (Own1 Unit w d m (DF Unit L 0) w2) := ⟨h2, invS_new, Nat.le_trans T1.out.size hd, Nat.le_trans T1.out.size hm, T1.out.trans (Turn.of_below b2 (F := fun j => w1.heap.size ≤ j) (fun _ _ e => e)) (fun j _ e => Nat.le_trans T1.out.size e)⟩
  clear h2 b2 T1 hd hm
  go_wp2_with fail
  go_loopw [15] (fun i wr => ∃ (k : Nat), i = .int .i64 k ∧ k ≤ N ∧ Hid (Own1 Unit w d m (DF Unit L k) wr)) (fun i _ => N - (intOf i).toNat)
  case atStart => exact ⟨0, rfl, Nat.zero_le _, HW⟩
  case round =>
    obtain ⟨k, rfl, hk, HD⟩ := hrel
    clear HW
    by_cases hlt : k < N
    · have hk30 : k < 30 := by omega
      have hcode := ff_code (H := Unit) HLs.out k hk30
      have hl := HLs.out.size k hk30
      have hL := HUt.out k
      have HL := Lib.hid hl
      have hi1 : (65 : Int) + k ≤ 2147483647 := by omega
      have hi2 : (0 : Int) ≤ 65 + (k : Int) := by omega
      clear hl
      go_wp2_with fail
      refine (sdo_any d m (DF Unit L k) (op1 (L k)) wr HD.out.bk HD.out.inv (by have := HL.out; show (L k).size ≤ 14; omega)).mono ?_
      rintro en w4 ⟨rfl, d4, g4⟩
      have D4 : Hid (Own1 Unit w d m (DF Unit L (k + 1)) w4) := Lib.hid (HD.out.did d4 (invS_doO HD.out.inv _) g4)
      rw [hcode]
      clear d4 g4 HD hcode
      by_cases h16 : k < 16
      · rw [if_pos h16]
        have h16' : (k : Int) < 16 := by omega
        clear h16
        go_wp2_with fail
        go_roundw
        case rel => exact ⟨k + 1, by go_num, by omega, D4⟩
        case measure => simp [intOf]; omega
      · rw [if_neg h16]
        have h16' : ¬ (k : Int) < 16 := by omega
        have h16d : decide ((k : Int) < 16) = false := decide_eq_false h16'
        clear h16 hL hi1 hi2
        go_wp2_with fail
        go_roundw
        case rel => exact ⟨k + 1, by go_num, by omega, D4⟩
        case measure => simp [intOf]; omega
    · obtain rfl : k = N := by omega
      have F := ff (H := Unit) HLs.out k HN30.out
      have ho := ff_one (H := Unit) HLs.out k HN30.out
      have hlen : (namesD (DF Unit L k)).length = min k 16 := by rw [names_size F.inv, F.size]
      have HF := Lib.hid F
      have HO := Lib.hid ho
      have HLEN := Lib.hid hlen
      clear F ho hlen
      go_wp2_with fail
      refine (snames_calls d m _ _ HD.out.bk HD.out.inv).mono ?_
      rintro en w5 ⟨v, rfl, hrow, b5⟩
      have D5 := Lib.hid (HD.out.below b5)
      clear b5 HD
      obtain ⟨va, vc, rfl⟩ := own_slice hrow
      obtain ⟨M, eM⟩ : ∃ M, M = (namesD (DF Unit L k)).length := ⟨_, rfl⟩
      have HM := Lib.hid eM
      have HMK : Hid (M = min k 16) := Lib.hid (eM.trans HLEN.out)
      have hM16 : M ≤ 16 := by have := HMK.out; omega
      rw [← eM] at hrow ⊢
      have HR := Lib.hid hrow
      have HG0 : Hid (GG (DF Unit L k) (DF Unit L k) 0) := ⟨HF.out.inv, rfl, fun x => by simp⟩
      clear eM hrow
      generalize DF Unit L k = D at *
      go_wp2_with fail
      go_loopw [42] (fun i wr => ∃ (j : Nat) (G : DataW Unit), i = .int .i64 j ∧ j ≤ M ∧ Hid (GG D G j) ∧ Hid (Own1 Unit w d m G wr) ∧ Hid (wr.ownsRow 0 9 1 (.slice va M vc) M ((namesD D).map encStr))) (fun i _ => M - (intOf i).toNat)
      case atStart => exact ⟨0, D, rfl, Nat.zero_le _, HG0, D5, HR⟩
      case round =>
        obtain ⟨j, G, rfl, hj, HG, HD, HR2⟩ := hrel
        clear HG0 D5 HR
        by_cases hjl : j < M
        · obtain ⟨g, c', hv, hnc, hcm, hcell⟩ := own_cell HR2.out (by omega)
          obtain ⟨rfl, rfl⟩ : va = some ⟨g, 0, none⟩ ∧ vc = c' := by injection hv with h1 _ h2; exact ⟨h1, h2⟩
          have hkl : j < (namesD D).length := by rw [← HM.out]; exact hjl
          have hc0 := hcell j (encStr (namesD D)[j]) (by rw [List.getElem?_map, List.getElem?_eq_getElem hkl]; rfl)
          obtain ⟨s1, s2, s3⟩ := gg_step HF.out.inv HO.out HG.out hkl
          have hsz := (HF.out.inv.keys _ ((mem_namesD HF.out.inv.good _).1 (List.getElem_mem hkl)).2).2.1
          generalize (namesD D)[j] = x at *
          unfold encStr at hc0
          have S1 := Lib.hid s1
          have S2 := Lib.hid s2
          have S3 := Lib.hid s3
          have HSZ := Lib.hid hsz
          clear hcell hv s1 s2 s3 hsz
          have hk2 : j ≤ vc := by omega
          go_wp2_with fail
          refine (sdo_any d m G (op1 ⟨x.toArray⟩) wr HD.out.bk HD.out.inv (by have := HSZ.out; show (⟨x.toArray⟩ : ByteArray).size ≤ 14; omega)).mono ?_
          rintro en w6 ⟨rfl, d6, g6⟩
          rw [S1.out]
          have D6 := Lib.hid (HD.out.did d6 (invS_doO HD.out.inv _) g6)
          have R6 : Hid (w6.ownsRow 0 9 1 (.slice (some ⟨g, 0, none⟩) M vc) M ((namesD D).map encStr)) := Lib.hid (own_turn HR2.out (Turn.of_grown (F := fun q => q = m) g6 rfl) (fun b hb e => by
            injection hb with hb
            obtain rfl : g = b := hb
            rcases HR2.out.2 with ⟨h1, _⟩ | ⟨g', cap', cur, h1, _, h3, _⟩
            · cases h1
            · injection h1 with h1
              injection h1 with h1
              injection h1 with h1
              subst h1
              have h3' : Has wr g 9 cur := h3
              exact HD.out.bk.map.ne h3' e.symm))
          clear d6 g6 HD HR2 hc0
          go_wp2_with fail
          refine (scount_calls d m _ ⟨x.toArray⟩ w6 D6.out.bk (by have := HSZ.out; unfold maxLen; omega)).mono ?_
          rintro en w7 ⟨rfl, rfl⟩
          rw [S3.out]
          go_wp2_with fail
          go_roundw
          case rel => exact ⟨j + 1, _, by go_num, by omega, S2, D6, R6⟩
          case measure => simp [intOf]; omega
        · obtain rfl : j = M := by omega
          have hGl : (namesD G).length = j := by rw [names_size HG.out.inv, HG.out.size, ← names_size HF.out.inv, ← HM.out]
          have HGL := Lib.hid hGl
          clear hGl
          go_wp2_with fail
          refine (snames_calls d m G _ HD.out.bk HD.out.inv).mono ?_
          rintro en w8 ⟨v8, rfl, hrow8, b8⟩
          rw [HGL.out] at hrow8
          obtain ⟨va8, vc8, rfl⟩ := own_slice hrow8
          have D8 := Lib.hid (HD.out.below b8)
          have hmin : min (k : Int) 16 = (j : Int) := by have := HMK.out; omega
          clear hrow8 b8 HD
          go_wp2_with fail
          go_ret
          exact ⟨rfl, D8.out.ends⟩

theorem walk (a0 : Int) (w : World) (w0 : (Lit.int .i64 a0).wf = true) :
    Calls Try.prog 8 #[.int .i64 a0] w fun en w' => en = .returned (.bool true) ∧ Below w.heap.size w w' := by
  have e1 : IntKind.i64.min = -9223372036854775808 := by decide
  have e2 : IntKind.i64.max = 9223372036854775807 := by decide
  simp [Lit.wf, e1, e2] at w0
  exact full_any a0 w w0.1 w0.2

theorem own : ownKnob Try.prog.godebug = none := by kernel_rfl
theorem laidOut : laidOutB Try.prog = true := by kernel_rfl

set_option maxRecDepth 100000 in
theorem lifted (os : Os) (started : os.Started) (H : Type) (enc : TypeId × Value → H) :
    ReturnsInHanded {} Try.checked os 8 .any (Rows.stockFullSpec.pre6 enc Try.prog Try.f8 Rows.stockFullRow.domain false) (Rows.stockFullSpec.post enc Try.prog Try.f8 false true false false) := by
  refine returnsInHanded_of_change (C := Try.checked) own started (by kernel_rfl) Try.func8
    (ChangeSpec.witness6 (enc := enc) (C := Try.checked) false ⟨#[], #[.int .i64 0], []⟩ 8 (by kernel_rfl) (by kernel_rfl) (by kernel_rfl) (by kernel_rfl)) ?_
  intro W base args ds gs before hval0 hW _ _
  have hval : ∀ (j : Nat) t v, Try.f8.params[j]? = some t → args[j]? = some v → Value.okWide Try.prog W .any base t v := hval0
  have hW' := hW
  obtain ⟨p, q, hA0, hV, rfl, _, _⟩ := hW
  have hA : DataW.TrodAll enc Try.prog W 0 (fun _ => true) true Try.f8.params.toList args.toList ds p := hA0
  rw [Try.params8] at hA hval
  obtain ⟨v0, vs0, d0, ds0, p0, q0, hargs, rfl, rfl, h0, r0⟩ := trodAll_cons hA
  obtain ⟨rfl, rfl, rfl⟩ := trodAll_nil r0
  obtain rfl : args = #[v0] := by cases args; simp_all
  obtain ⟨rfl, rfl⟩ := trodVars_none hV
  obtain ⟨a0, rfl, rfl, rfl, w0⟩ := open_int Try.underlying3 (hval 0 3 v0 rfl rfl) h0
  clear hA0 hval0
  refine (walk a0 W w0).mono fun e W' ⟨he, bel⟩ => ?_
  subst he
  exact ⟨_, rfl, _, _, _, [], _, [], hW', trodAll_mk1 (shut_bool Try.underlying4 _), (trodAll_cons_mk (shut_int Try.underlying3 w0) trodAll_mk0), rfl, bel.frame _, fun h => by cases h⟩

theorem over : Rows.stockFullRow.holds Try.pinned (OpenSpec.ofChange Rows.stockFullSpec) :=
  OpenClaim.holds_of_wide 8 Try.f8 rfl rfl rfl rfl rfl rfl rfl ⟨rfl, rfl, rfl, rfl, rfl⟩ rfl rfl rfl rfl rfl (by kernel_rfl) Try.func8 (by kernel_rfl)
    (of_decide_eq_true (by kernel_rfl)) (by unfold Func.isWrapper; first | (rw [if_pos (by decide +kernel)]; kernel_rfl) | (rw [if_neg (by decide +kernel)]; exact ⟨rfl, rfl⟩))
    (fun os started H enc _ => lifted os started H enc)

theorem proved : Rows.StockFullSaid := over

end Go.Proofs.Ytfhpcodjmmidhaa.stock.stockFull
