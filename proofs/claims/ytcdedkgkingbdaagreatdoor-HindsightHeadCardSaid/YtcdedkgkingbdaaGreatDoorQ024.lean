/- Texts laid into one: StoS, StoL, StoT. -/
import Derived.Test.YtcdedkgkingbdaaGreatDoorQ023
import Derived.Test.YtcdedkgkingbdaaGreatDoorQ018
import Derived.Test.YtcdedkgkingbdaaGreatDoorQ021
import Derived.Test.YtcdedkgkingbdaaGreatDoorQ022
section
/- stock: what Save gives. -/
namespace Go.Proofs.YtcdedkgkingbdaaGreatDoor.stock
open Go.RowKit Go.Maps Go.Sort

section
variable {H : Type}

/-- Where Save's writing stands. -/
structure SJ (w : World) (d m : Nat) (D : DataW H) (b : Nat) (r : Option Nat) (X : List UInt8) (v : Value) (n : Nat) (rows : List Value) (V : World) : Prop where
  wr : Wr V b r X
  bk : Sk V d m D
  rw : V.ownsRow 0 9 1 v n rows
  tn : Turn (fun k => w.heap.size ≤ k) w V
  dl : d < w.heap.size
  ml : m < w.heap.size
  fb : w.heap.size ≤ b
  fr : ∀ k, r = some k → w.heap.size ≤ k

section
variable {w V V' : World} {d m b n : Nat} {D : DataW H} {r r' : Option Nat} {X : List UInt8} {v : Value} {rows : List Value}
theorem SJ.drawn (h : SJ w d m D b r X v n rows V) : SJ w d m D b r X v n rows V.drew := ⟨h.wr, ⟨h.bk.box.drew, h.bk.map⟩, h.rw, h.tn.drew, h.dl, h.ml, h.fb, h.fr⟩
theorem SJ.next (X : List UInt8) {X' : List UInt8} (h : SJ w d m D b r X v n rows V) (hr : r' = r ∨ ∃ k, r' = some k ∧ V.heap.size ≤ k) (t : Turn (fun k => k = b ∨ some k = r) V V') (hw : Wr V' b r' X') : SJ w d m D b r' X' v n rows V' := by
  have hdl := h.dl
  have hml := h.ml
  have hfb := h.fb
  obtain ⟨u, hb, ho, hv, hne⟩ := h.wr
  refine ⟨hw, h.bk.turn t (fun hF => ?_) (fun hF => ?_), own_turn h.rw t (fun k hk hF => ?_), h.tn.trans t (fun j hj hF => ?_), h.dl, h.ml, h.fb, fun k hk => ?_⟩
  · rcases hF with hF | hF
    · omega
    · have := h.fr _ hF.symm; omega
  · rcases hF with hF | hF
    · omega
    · have := h.fr _ hF.symm; omega
  · rcases hF with hF | hF
    · exact own_ne h.rw hb (by decide) (by rw [hk, hF])
    · exact own_own h.rw ho (by decide) k hk (by rw [hv, hF])
  · rcases hF with hF | hF
    · omega
    · exact h.fr _ hF.symm
  · rcases hr with rfl | ⟨j, rfl, hj⟩
    · exact h.fr k hk
    · injection hk with hk
      have := h.tn.size
      omega
end

set_option maxRecDepth 100000 in
set_option maxHeartbeats 1000000 in
theorem ssave_calls (d m : Nat) (D : DataW H) (w : World) (h : Sk w d m D) (I : InvS D) :
    Calls Tryz.prog 244 #[.pointer (some ⟨d, 0, none⟩)] w fun en w' => en = .returned (.string (saveB D)) ∧ Below w.heap.size w w' := by
  have hnl : (namesD D).length ≤ 16 := by have := names_size I; have := I.size; omega
  have B := Lib.hid h
  have II := Lib.hid I
  have DL := Lib.hid h.box.lt
  have ML := Lib.hid (World.ownsMap.lt h.map)
  clear h
  go_enter Tryz.func244, Tryz.ntmps244
  go_wp2_with fail
  refine (snames_calls d m D _ (B.out.kept (World.grownBy_alloc w _ none) (by simp) (by simp)) II.out).mono ?_
  rintro en w1 ⟨v, rfl, hrow, b1⟩
  have hrow' := hrow
  have HJ0 : Hid (SJ w d m D w.heap.size none [] v (namesD D).length ((namesD D).map encStr) w1) := by
    have t0 : Turn (fun k => w.heap.size ≤ k) w (w.alloc (.cells #[.slice none 0 0] 152)) := (Turn.refl _ _).alloc _
    have t1 : Turn (fun k => w.heap.size ≤ k) w w1 := t0.trans (Turn.of_below b1 (F := fun k => (w.alloc (.cells #[.slice none 0 0] 152)).heap.size ≤ k) (fun _ _ e => e)) (fun j hj hF => by simp at hF; omega)
    obtain ⟨u, hb, ho, hv, hne⟩ := made_writer w
    have k1 : Turn (fun k => (w.alloc (.cells #[.slice none 0 0] 152)).heap.size ≤ k) (w.alloc (.cells #[.slice none 0 0] 152)) w1 := Turn.of_below b1 (fun _ _ e => e)
    refine ⟨⟨u, hb.turn k1 (by simp), own_turn ho k1 (fun b hb => by rw [hv] at hb; cases hb), hv, hne⟩, B.out.turn t1 (by have := DL.out; omega) (by have := ML.out; omega), hrow', t1, DL.out, ML.out, Nat.le_refl _, fun k hk => by cases hk⟩
  obtain ⟨a, c, rfl⟩ := own_slice hrow'
  clear hrow hrow' b1
  generalize hn : (namesD D).length = n at *
  have HN := Lib.hid hn
  clear hn
  go_wp2_with fail
  refine (wnum_int w.heap.size none [] (n : Int) w1 (by omega) (by omega) HJ0.out.wr (by simp)).mono ?_
  rintro en w2 ⟨rfl, r2, h2, hr2, t2⟩
  have HJ2 := Lib.hid (SJ.next _ HJ0.out hr2 t2 h2)
  simp only [List.nil_append, Int.toNat_natCast] at HJ2
  clear h2 hr2 t2 HJ0
  go_wp2_with fail
  go_loopw [15] (fun i wr => ∃ (k : Nat) (r : Option Nat), i = .int .i64 k ∧ k ≤ n ∧ SJ w d m D w.heap.size r (enc n ++ ((namesD D).take k).flatMap (pieceD D)) (.slice a n c) n ((namesD D).map encStr) wr)
    (fun i _ => n - (intOf i).toNat)
  case atStart => exact ⟨0, r2, rfl, Nat.zero_le _, by simpa using HJ2.out⟩
  case round =>
    obtain ⟨k, r, rfl, hk, hJ⟩ := hrel
    have HJ := Lib.hid hJ
    by_cases hlt : k < n
    · obtain ⟨g, c', hv, hnc, hcm, hcell⟩ := own_cell hJ.rw (by omega)
      obtain ⟨rfl, rfl⟩ : a = some ⟨g, 0, none⟩ ∧ c = c' := by injection hv with h1 _ h2; exact ⟨h1, h2⟩
      have hkl : k < (namesD D).length := by rw [HN.out]; exact hlt
      have hc0 := hcell k (encStr (namesD D)[k]) (by rw [List.getElem?_map, List.getElem?_eq_getElem hkl]; rfl)
      have HM : Hid ((namesD D)[k] ∈ namesD D) := List.getElem_mem hkl
      have HT : Hid ((namesD D).take (k + 1) = (namesD D).take k ++ [(namesD D)[k]]) := (List.take_append_getElem hkl).symm
      generalize (namesD D)[k] = x at *
      unfold encStr at hc0
      clear hcell hv hJ
      have hk2 : k ≤ c := by omega
      go_wp2_with fail
      have hp := piece_lenS II.out HM.out
      obtain ⟨hp0, hp1, hp2', hp3⟩ := hp
      have hp2 : 0 ≤ amtL D x := by omega
      have hcv : ∀ V : World, (convert 3 155 (.int .i64 (amtL D x))).run Tryz.prog V = .ok (.int .u64 (amtL D x)) V := fun V => by
        go_simp
        rw [IntKind.wrap_u64]; omega
      have hkey : keyOf Tryz.prog 9 (.string ⟨x.toArray⟩) = some (kS ⟨x.toArray⟩) := kS_of (by show x.toArray.size ≤ _; unfold maxLen; simp; omega)
      have hlen : (enc n ++ ((namesD D).take k).flatMap (pieceD D)).length ≤ 1000 := by
        have e1 := enc_len n (by omega)
        have e2 := lflat_len (pieceD D) 34 ((namesD D).take k) (fun y hy => (piece_lenS II.out (List.mem_of_mem_take hy)).1)
        rw [List.length_take] at e2
        rw [List.length_append]
        omega
      have hlen3 : (enc n ++ ((namesD D).take k).flatMap (pieceD D) ++ enc (⟨x.toArray⟩ : ByteArray).size ++ (⟨x.toArray⟩ : ByteArray).data.toList).length ≤ 1000000 := by
        have e0 : (⟨x.toArray⟩ : ByteArray).size = x.length := by show x.toArray.size = _; simp
        have e1 := enc_len x.length (by omega)
        have e2 : (⟨x.toArray⟩ : ByteArray).data.toList.length = x.length := by simp
        rw [e0, List.length_append, List.length_append]
        omega
      refine wp_region_held (S := fun V => Sk V d m D) (by kernel_rfl) ?_
      have HS0 : (fun V : World => Sk V d m D) wr.drew := HJ.out.drawn.bk
      refine held_take 0 (some 19) rfl rfl (by kernel_rfl) (by kernel_rfl) (by kernel_rfl) (fun _ _ _ h => h) (.inl ⟨by kernel_rfl, fun _ _ => rfl⟩) HS0 ?_
      refine held_take 2 (some 21) rfl rfl (by kernel_rfl) (by kernel_rfl) (by kernel_rfl) (fun _ _ _ h => h) (.inl ⟨by kernel_rfl, fun _ _ => rfl⟩) HS0 ?_
      refine held_take 3 (some 22) (v := .pointer (some ⟨d, 0, none⟩)) rfl rfl (by kernel_rfl) (by kernel_rfl) (by kernel_rfl) (fun _ _ _ h => h) (.inl ⟨by kernel_rfl, fun V _ => by go_simp⟩) HS0 ?_
      refine held_take 4 (some 23) (v := .pointer (some ⟨d, 0, none⟩)) rfl rfl (by kernel_rfl) (by kernel_rfl) (by kernel_rfl) (fun _ _ _ h => h) (.inl ⟨by kernel_rfl, fun V _ => by go_simp⟩) HS0 ?_
      refine held_take 5 (some 24) (v := .map (some m)) rfl rfl (by kernel_rfl) (by kernel_rfl) (by kernel_rfl) (fun _ _ _ h => h) (.inl ⟨by kernel_rfl, fun V hV => by have c0 : V.cell? ⟨d, 0, none⟩ = some (.map (some m)) := (show Sk V d m D from hV).box.cell 0; go_simp⟩) HS0 ?_
      refine held_take 6 (some 25) rfl rfl (by kernel_rfl) (by kernel_rfl) (by kernel_rfl) (fun _ _ _ h => h) (.inl ⟨by kernel_rfl, fun _ _ => rfl⟩) HS0 ?_
      refine held_take 7 (some 26) (v := .int .i64 (amtL D x)) rfl rfl (by kernel_rfl) (by kernel_rfl) (by kernel_rfl) (fun _ _ _ h => h) (.inl ⟨by kernel_rfl, fun V hV => by
        obtain ⟨q, hq, hat, _⟩ := World.ownsMap.lookup_int (show Sk V d m D from hV).map strKeyed Tryz.underlying238 Tryz.underlying3 (zeroInt V) hkey
        obtain rfl : amtL D x = q := amt_of hat
        go_simp⟩) HS0 ?_
      refine held_take 8 (some 27) (v := .int .u64 (amtL D x)) rfl rfl (by kernel_rfl) (by kernel_rfl) (by kernel_rfl) (fun _ _ _ h => h) (.inl ⟨by kernel_rfl, fun V _ => by go_simp⟩) HS0 ?_
      simp only [Act.put, List.setIfInBounds_toArray, List.set_cons_zero, List.set_cons_succ]
      refine held_one (i := 1) (by kernel_rfl) ?_
      refine wpOp_call (some 20) rfl rfl (by kernel_rfl) 161 Tryz.f161 Tryz.func161 (by kernel_rfl) (by kernel_rfl) _ _ rfl #[.pointer (some ⟨w.heap.size, 0, none⟩), .string ⟨x.toArray⟩] (by first | (simp [Act.eval]; done) | (simp [Act.eval, Act.put]; done)) (wstr_any w.heap.size r _ ⟨x.toArray⟩ _ HJ.out.drawn.wr (by omega) (by show x.toArray.size ≤ _; simp; omega)) ?_
      rintro en v ⟨rfl, r3, h3, hr3, t3⟩
      have HJ3 := Lib.hid (SJ.next _ HJ.out.drawn hr3 t3 h3)
      clear h3 hr3 t3
      refine ⟨_, rfl, HJ3.out.bk, ?_⟩
      simp only [Act.put, List.setIfInBounds_toArray, List.set_cons_zero, List.set_cons_succ]
      refine held_one (i := 9) (by kernel_rfl) ?_
      refine wpOp_call (some 28) rfl rfl (by kernel_rfl) 75 Tryz.f75 Tryz.func75 (by kernel_rfl) (by kernel_rfl) _ _ rfl #[.pointer (some ⟨w.heap.size, 0, none⟩), .int .u64 (amtL D x)] (by first | (simp [Act.eval]; done) | (simp [Act.eval, Act.put]; done)) (wnum_int w.heap.size r3 _ (amtL D x) _ hp2 (by omega) HJ3.out.wr hlen3) ?_
      rintro en v4 ⟨rfl, r4, h4, hr4, t4⟩
      have HJ4 := Lib.hid (SJ.next _ HJ3.out hr4 t4 h4)
      clear h4 hr4 t4
      refine ⟨_, rfl, HJ4.out.bk, ?_⟩
      simp only [Act.put, List.setIfInBounds_toArray, List.set_cons_zero, List.set_cons_succ]
      refine wpAnyH_done (by kernel_rfl) ?_ _
      clear HS0 hkey hcv
      go_wp2_with fail
      go_roundw
      case rel =>
        refine ⟨k + 1, r4, by go_num, by omega, ?_⟩
        have e : enc n ++ ((namesD D).take (k + 1)).flatMap (pieceD D) = enc n ++ ((namesD D).take k).flatMap (pieceD D) ++ enc (⟨x.toArray⟩ : ByteArray).size ++ (⟨x.toArray⟩ : ByteArray).data.toList ++ enc (amtL D x).toNat := by
          rw [HT.out, List.flatMap_append]
          have : (⟨x.toArray⟩ : ByteArray).size = x.length := by show x.toArray.size = _; simp
          rw [this]
          simp [pieceD]
        rw [e]
        exact HJ4.out
      case measure => simp [intOf]; omega
    · obtain rfl : k = n := by omega
      have E : Hid (enc k ++ ((namesD D).take k).flatMap (pieceD D) = saveL D) := by
        show _ = _
        rw [List.take_of_length_le (by rw [HN.out]; omega)]
        unfold saveL
        rw [HN.out]
      clear hJ
      go_wp2_with fail
      refine (text_any _ _ _ _ HJ.out.wr).mono ?_
      rintro en w6 ⟨rfl, rfl⟩
      go_wp2_with fail
      go_ret
      refine ⟨?_, HJ.out.tn.below (Nat.le_refl _) (fun j hj e => by omega)⟩
      show Ending.returned (.string _) = _
      rw [E.out]
      rfl

end
end Go.Proofs.YtcdedkgkingbdaaGreatDoor.stock
end

section
/- stock: what Load gives of what was saved. -/
namespace Go.Proofs.YtcdedkgkingbdaaGreatDoor.stock
open Go.RowKit Go.Maps Go.Sort

section
variable {H : Type}

/-- The first k names are in. -/
structure GotS (D Dk : DataW H) (k : Nat) : Prop where
  good : Good Dk
  size : Maps.size Dk ≤ k
  isIn : ∀ s : ByteArray, isIn Dk s = true ↔ s.data.toList ∈ (namesD D).take k
  amt : ∀ s : ByteArray, amt Dk s = if s.data.toList ∈ (namesD D).take k then amt D s else 0

theorem gotS_new (D : DataW H) : GotS D (.map []) 0 := by
  refine ⟨good_empty, Nat.le_refl _, fun s => ?_, fun s => ?_⟩
  · constructor
    · intro h; cases h
    · intro h; simp at h
  · rw [if_neg (by simp)]
    exact amt_absent rfl

theorem gotS_next {D Dk : DataW H} (I : InvS D) {k : Nat} (h : GotS D Dk k) (hk : k < (namesD D).length) :
    GotS D (Dk.put (kS ⟨(namesD D)[k].toArray⟩) (nI (amtL D (namesD D)[k]))) (k + 1) := by
  have hx := (mem_namesD I.good _).1 (List.getElem_mem hk)
  have hT : (namesD D).take (k + 1) = (namesD D).take k ++ [(namesD D)[k]] := (List.take_append_getElem hk).symm
  generalize hxe : (namesD D)[k] = x at *
  have hm := h.good.tidy.isMap
  have hof : ∀ s : ByteArray, s = ⟨x.toArray⟩ ↔ s.data.toList = x := fun s => ⟨fun e => by rw [e], fun e => by rw [← e]⟩
  refine ⟨h.good.put _ _, ?_, fun s => ?_, fun s => ?_⟩
  · rw [size_put h.good.tidy]
    have := h.size
    split <;> omega
  · rw [isIn_put hm, hT, List.mem_append, List.mem_singleton, ← hof s]
    by_cases h2 : s = ⟨x.toArray⟩
    · simp [h2]
    · rw [if_neg h2, h.isIn s]
      simp [h2]
  · rw [amt_put hm, hT]
    by_cases h2 : s = ⟨x.toArray⟩
    · rw [if_pos h2, if_pos (by rw [(hof s).1 h2]; simp), h2]
      rfl
    · rw [if_neg h2, h.amt s]
      have : (s.data.toList ∈ (namesD D).take k ++ [x]) ↔ s.data.toList ∈ (namesD D).take k := by
        rw [List.mem_append, List.mem_singleton, ← hof s]
        simp [h2]
      simp only [this]

theorem gotS_all {D Dk : DataW H} (I : InvS D) (h : GotS D Dk (namesD D).length) : Alike Dk D := by
  refine ⟨h.good, I.good, fun s => ?_⟩
  have hi := h.isIn s
  have ha := h.amt s
  rw [List.take_of_length_le (Nat.le_refl _)] at hi ha
  have hs : s = ⟨s.data.toList.toArray⟩ := by simp
  have hm := mem_namesD I.good s.data.toList
  rw [← hs] at hm
  cases h2 : isIn D s
  · have hn : s.data.toList ∉ namesD D := fun e => by have := (hm.1 e).2; rw [h2] at this; cases this
    rw [if_neg hn] at ha
    refine ⟨?_, by rw [ha, amt_absent h2]⟩
    cases h3 : isIn Dk s
    · rfl
    · exact absurd (hi.1 h3) hn
  · have hl : s.data.toList ≠ [] := fun e => (I.keys s h2).1 (by rw [hs, e]; rfl)
    have hn : s.data.toList ∈ namesD D := hm.2 ⟨hl, h2⟩
    rw [if_pos hn] at ha
    exact ⟨hi.2 hn, ha⟩

theorem left_lenS {D : DataW H} (I : InvS D) (k : Nat) : (leftD D k).length ≤ 34 * (namesD D).length := by
  unfold leftD
  have := lflat_len (pieceD D) 34 ((namesD D).drop k) (fun y hy => (piece_lenS I (List.mem_of_mem_drop hy)).1)
  rw [List.length_drop] at this
  exact Nat.le_trans this (Nat.mul_le_mul_left _ (Nat.sub_le _ _))

/-- Where Load's reading stands. -/
structure LJ (w : World) (b d m : Nat) (s : List UInt8) (D : DataW H) (V : World) : Prop where
  rd : Rd V b ⟨s.toArray⟩ 0
  bk : Sk V d m D
  tn : Turn (fun k => w.heap.size ≤ k) w V
  bl : w.heap.size ≤ b
  dl : w.heap.size ≤ d
  ml : w.heap.size ≤ m

section
variable {w V V' : World} {b d m : Nat} {s s' : List UInt8} {D D' : DataW H}
theorem LJ.read (s' : List UInt8) (h : LJ w b d m s D V) (hr : Rd V' b ⟨s'.toArray⟩ 0) (g : V.grownBy V' (some b)) : LJ w b d m s' D V' := by
  have hbl := h.bl
  refine ⟨hr, h.bk.kept g (fun e => ?_) (fun e => ?_), h.tn.grown g (fun j e _ => by injection e with e; omega), h.bl, h.dl, h.ml⟩
  · injection e with e
    have := h.bk.box
    rw [e] at this
    exact absurd (this.uniq h.rd).2 (by decide)
  · injection e with e
    exact h.bk.map.ne h.rd e
theorem LJ.put (h : LJ w b d m s D V) (hm : Mp V' m D') (t : V.mapTurned V' m) : LJ w b d m s D' V' := by
  have hml := h.ml
  refine ⟨h.rd.grown t.grown (fun e => ?_), h.bk.turned hm t, h.tn.grown t.grown (fun j e _ => by injection e with e; omega), h.bl, h.dl, h.ml⟩
  injection e with e
  exact h.bk.map.ne h.rd e.symm
end

def SLoadPost (D : DataW H) (w : World) (en : Ending) (w' : World) : Prop :=
  ∃ (d m : Nat) (D' : DataW H), en = .returned (.tuple #[.pointer (some ⟨d, 0, none⟩), .int .i64 0]) ∧ Sk w' d m D' ∧ Alike D' D ∧ Below w.heap.size w w' ∧ w.heap.size ≤ d ∧ w.heap.size ≤ m

set_option maxRecDepth 100000 in
set_option maxHeartbeats 1000000 in
theorem sload_calls (D : DataW H) (w : World) (I : InvS D) :
    Calls Tryz.prog 150 #[.string (saveB D)] w fun en w' => SLoadPost D w en w' := by
  have hnl : (namesD D).length ≤ 16 := by have := names_size I; have := I.size; omega
  have hS : saveB D = ⟨(enc (namesD D).length ++ leftD D 0).toArray⟩ := by unfold saveB saveL leftD; rw [List.drop_zero]
  have hSz : (⟨(enc (namesD D).length ++ leftD D 0).toArray⟩ : ByteArray).size ≤ maxLen := by
    have e1 := enc_len (namesD D).length (by omega)
    have e2 := left_lenS I 0
    rw [text_size, List.length_append]
    unfold maxLen
    omega
  have hU := upto_enc (namesD D).length (leftD D 0) 16 (by omega) (by omega)
  rw [hS]
  have II := Lib.hid I
  have HU := Lib.hid hU
  have HSZ := Lib.hid hSz
  clear hS hSz hU
  go_enter Tryz.func150, Tryz.ntmps150
  go_wp2_with fail
  refine (read_any _ w).mono ?_
  rintro en w1 ⟨rfl, h1, b1⟩
  have H1 := Lib.hid h1
  have B1 := Lib.hid b1
  clear h1 b1
  go_wp2_with fail
  refine (snew_calls (H := H) w1).mono ?_
  rintro en w2 ⟨d, m, rfl, h2, b2, hd2, hm2⟩
  have hsz := H1.out.lt
  have HJ2 : Hid (LJ w w.heap.size d m (enc (namesD D).length ++ leftD D 0) (.map []) w2) :=
    ⟨H1.out.below b2 hsz, h2, (Turn.of_below (F := fun j => w.heap.size ≤ j) B1.out (fun _ _ e => e)).trans (Turn.of_below b2 (F := fun j => w1.heap.size ≤ j) (fun _ _ e => e)) (fun j hj e => by omega), Nat.le_refl _, by omega, by omega⟩
  clear h2 b2 H1 B1
  go_wp2_with fail
  refine (upto_any w.heap.size _ 0 16 w2 HSZ.out HJ2.out.rd (by omega) (by omega)).mono ?_
  rw [HU.out]
  rintro en w3 ⟨rfl, h3, g3⟩
  have HJ3 : Hid (LJ w w.heap.size d m (leftD D 0) (.map []) w3) := HJ2.out.read _ h3 g3
  clear h3 g3 HJ2 HU HSZ
  generalize hn : (namesD D).length = n at *
  have HN := Lib.hid hn
  clear hn
  go_wp2_with fail
  go_loopw [6, 15] (fun ah i wr => ∃ (k : Nat) (Dk : DataW H), i = .int .i64 k ∧ k ≤ n ∧ ah = .string ⟨(aheadD D k).toArray⟩ ∧ Hid (GotS D Dk k) ∧ Hid (LJ w w.heap.size d m (leftD D k) Dk wr))
    (fun _ i _ => n - (intOf i).toNat)
  case atStart => exact ⟨0, .map [], rfl, Nat.zero_le _, rfl, gotS_new D, HJ3⟩
  case round =>
    obtain ⟨k, Dk, rfl, hk, rfl, HG, HJ⟩ := hrel
    by_cases hlt : k < n
    · have hkl : k < (namesD D).length := by rw [HN.out]; exact hlt
      have HL := left_step D k hkl
      have HX := Lib.hid (gotS_next II.out HG.out hkl)
      have HM := piece_lenS II.out (List.getElem_mem hkl)
      have HMX : Hid ((namesD D)[k] ≠ []) := ((mem_namesD II.out.good _).1 (List.getElem_mem hkl)).1
      have HA := less_not (ahead_lt II.out.good k hkl)
      have HE : Hid (aheadD D (k + 1) = (namesD D)[k]) := ahead_next k hkl
      have HLE := left_lenS II.out k
      generalize (namesD D)[k] = x at *
      generalize amtL D x = A at *
      obtain ⟨N, rfl⟩ := Int.eq_ofNat_of_zero_le (show 0 ≤ A by have := HM.2.2.1; omega)
      have hn0 : ((N : Int) == 0) = false := beq_eq_false_iff_ne.2 (by have := HM.2.2.1; omega)
      simp only [Int.toNat_natCast] at HL
      have hwA : (Lit.int .i64 ((N : Int))).wf = true := wf64 (by omega) (by omega)
      have hUp := upto_enc N (leftD D (k + 1)) 1099511627776 (by omega) (by omega)
      have hSt := strN_enc x (enc N ++ leftD D (k + 1)) 12 (by omega) (by omega)
      have hZ : (⟨(enc x.length ++ (x ++ (enc N ++ leftD D (k + 1)))).toArray⟩ : ByteArray).size ≤ maxLen := by
        have e3 := HN.out
        rw [← HL, text_size]; unfold maxLen; omega
      have hZ2 : (⟨(enc N ++ leftD D (k + 1)).toArray⟩ : ByteArray).size ≤ maxLen := by
        have e1 := enc_len N (by omega)
        have e2 := left_lenS II.out (k + 1)
        have e3 := HN.out
        rw [text_size, List.length_append]
        unfold maxLen
        omega
      rw [HL] at HJ
      have HUP := Lib.hid hUp
      have HST := Lib.hid hSt
      have HZ := Lib.hid hZ
      have HZ2 := Lib.hid hZ2
      have HMM := Lib.hid HM
      clear HL hUp hSt hZ hZ2 HM HLE
      go_wp2_with fail
      refine (str_any w.heap.size _ 0 12 _ HZ.out HJ.out.rd (by omega) (by omega)).mono ?_
      rw [HST.out]
      rintro en v1 ⟨rfl, k1, g1⟩
      have HJ1 : Hid (LJ w w.heap.size d m (enc N ++ leftD D (k + 1)) Dk v1) := HJ.out.read _ k1 g1
      clear k1 g1
      go_wp2_with fail
      refine (upto_any w.heap.size _ 0 1099511627776 v1 HZ2.out HJ1.out.rd (by omega) (by omega)).mono ?_
      rw [HUP.out]
      rintro en v2 ⟨rfl, k2, g2⟩
      have HJ2 : Hid (LJ w w.heap.size d m (leftD D (k + 1)) Dk v2) := HJ1.out.read _ k2 g2
      clear k2 g2
      go_wp2_with fail
      refine (err_any w.heap.size _ 0 v2 HJ2.out.rd).mono ?_
      rintro en v3 ⟨rfl, rfl⟩
      have hksz : Maps.size Dk < maxLen := by have := HG.out.size; unfold maxLen; omega
      have hkx : keyOf Tryz.prog 9 (.string ⟨x.toArray⟩) = some (kS ⟨x.toArray⟩) := kS_of (by have := HMM.out.2.1; rw [text_size]; unfold maxLen; omega)
      have c0 : v2.cell? ⟨d, 0, none⟩ = some (.map (some m)) := HJ2.out.bk.box.cell 0
      obtain ⟨v4, hrun4, hown4, hturn4⟩ := World.ownsMap.store HJ2.out.bk.map strKeyed Tryz.underlying238 hksz hkx (plainElem_int Tryz.underlying3 hwA)
      have HJ4 : Hid (LJ w w.heap.size d m (leftD D (k + 1)) (Dk.put (kS ⟨x.toArray⟩) (nI N)) v4) := HJ2.out.put (ownsMap_tight hown4) hturn4
      clear hown4 hturn4 hkx hwA HJ2 HJ1
      go_wp2_with fail
      go_roundw
      case rel => exact ⟨k + 1, _, by go_num, by omega, by rw [HE.out], HX, HJ4⟩
      case measure => simp [intOf]; omega
    · obtain rfl : k = n := by omega
      have E : leftD D k = [] := by rw [← HN.out]; exact left_end D
      have HQ : Hid (Alike Dk D) := gotS_all II.out (by rw [HN.out]; exact HG.out)
      rw [E] at HJ
      clear E
      go_wp2_with fail
      refine (end_any w.heap.size _ 0 _ HJ.out.rd).mono ?_
      rw [end_nil]
      rintro en w6 ⟨rfl, h6, g6⟩
      have HJ6 := Lib.hid (HJ.out.read [] h6 g6)
      clear h6 g6
      go_wp2_with fail
      go_ret2
      exact ⟨d, m, Dk, rfl, HJ6.out.bk, HQ.out, HJ6.out.tn.below (Nat.le_refl _) (fun j hj e => by omega), HJ6.out.dl, HJ6.out.ml⟩

end
end Go.Proofs.YtcdedkgkingbdaaGreatDoor.stock
end

section
/- stock: an op as a struct; slices of ops that are handed in; Few; awake. -/
namespace Go.Proofs.YtcdedkgkingbdaaGreatDoor.stock
open Go.ChangeShapes Go.WideShapes Go.ChangeAt Go.RowKit Go.Maps Go.Sort

/-- An op. -/
structure OpS where
  k : Int
  s : ByteArray
  n : Int

def few14 (s : ByteArray) : ByteArray := s.extract 0 14
theorem few14_size (s : ByteArray) : (few14 s).size ≤ 14 := by
  unfold few14
  rw [ByteArray.size_extract]
  omega
def OpS.cells (o : OpS) : List Value := [.int .i64 o.k, .string o.s, .int .i64 o.n]
def OpS.few (o : OpS) : OpS := ⟨o.k, few14 o.s, o.n⟩
def OpS.inv (o : OpS) : OpS := ⟨3 - o.k, o.s, o.n⟩
def OpS.Short (o : OpS) : Prop := o.s.size ≤ 14
theorem few_short (o : OpS) : o.few.Short := few14_size _
section
variable {H : Type}
def doO (D : DataW H) (o : OpS) : DataW H × Int := doS D o.k o.s o.n
theorem invS_doO {D : DataW H} (I : InvS D) (o : OpS) : InvS (doO D o).1 := (doS_inv I _ _ _).1
theorem sdo_any (d m : Nat) (D : DataW H) (o : OpS) (w : World) (h : Sk w d m D) (I : InvS D) (ho : o.Short) :
    Calls Tryz.prog 243 #[.pointer (some ⟨d, 0, none⟩), .agg #[.int .i64 o.k, .string o.s, .int .i64 o.n]] w fun en w' => SPost d m w (doO D o) en w' :=
  sdo_calls d m D o.k o.n o.s w h I (by have : o.s.size ≤ 14 := ho; unfold maxLen; omega)

theorem doO_not {D : DataW H} {o : OpS} (h : ¬ (doO D o).2 = 0) : (doO D o).1 = D := doS_not h
theorem doO_alike {D D' : DataW H} (a : Alike D D') (I' : InvS D') (o : OpS) : ((doO D o).2 = 0 ↔ (doO D' o).2 = 0) ∧ Alike (doO D o).1 (doO D' o).1 := doS_alike a I' _ _ _
end

theorem cutN_any (s : ByteArray) (n : Nat) (w : World) (hn : n ≤ 1000000) (hs : s.size ≤ maxLen) : Calls Tryz.prog 107 #[.string s, .int .i64 n] w fun en w' => en = .returned (.string (s.extract 0 n)) ∧ w = w' := cut_any s n w hn hs

set_option maxRecDepth 100000 in
set_option maxHeartbeats 400000 in
theorem sfew_calls (k n : Int) (s : ByteArray) (w : World) (hs : s.size ≤ maxLen) :
    Calls Tryz.prog 66 #[.agg #[.int .i64 k, .string s, .int .i64 n]] w fun en w' => en = .returned (.agg #[.int .i64 k, .string (few14 s), .int .i64 n]) ∧ Below w.heap.size w w' := by
  go_enter Tryz.func66, Tryz.ntmps66
  go_wp2_with fail
  refine (cutN_any s 14 _ (by omega) hs).mono ?_
  rintro en w1 ⟨rfl, rfl⟩
  rw [show s.extract 0 14 = few14 s from rfl]
  go_wp2_with fail
  refine bodyPost_ret (v := .agg #[.int .i64 k, .string (few14 s), .int .i64 n]) (by simp [results, Tryz.results66, go_sem]) rfl ⟨rfl, turn_box ?_⟩
  repeat (first | exact Turn.refl _ _ | refine Turn.drew ?_ | refine Turn.alloc ?_ _ | refine Turn.put ?_ (fun h => by omega) _ _)
theorem sfew_any (o : OpS) (w : World) (hs : o.s.size ≤ maxLen) :
    Calls Tryz.prog 66 #[.agg #[.int .i64 o.k, .string o.s, .int .i64 o.n]] w fun en w' => en = .returned (.agg #[.int .i64 o.few.k, .string o.few.s, .int .i64 o.few.n]) ∧ Below w.heap.size w w' := sfew_calls o.k o.n o.s w hs

/-- A shelf that was reached, made since w. -/
structure Own1 (H : Type) (w : World) (d m : Nat) (D : DataW H) (V : World) : Prop where
  bk : Sk V d m D
  inv : InvS D
  newd : w.heap.size ≤ d
  newm : w.heap.size ≤ m
  turn : Turn (fun j => w.heap.size ≤ j) w V

section
variable {H : Type} {w V V' : World} {d m : Nat} {D D' : DataW H}
theorem Own1.more (h : Own1 H w d m D V) (t : Turn (fun j => V.heap.size ≤ j) V V') : Own1 H w d m D V' :=
  ⟨h.bk.turn t (Nat.not_le_of_lt h.bk.box.lt) (Nat.not_le_of_lt (World.ownsMap.lt h.bk.map)), h.inv, h.newd, h.newm, h.turn.trans t (fun _ _ e => Nat.le_trans h.turn.size e)⟩
theorem Own1.below (h : Own1 H w d m D V) (b : Below V.heap.size V V') : Own1 H w d m D V' := h.more (Turn.of_below b (fun _ _ e => e))
theorem Own1.did (h : Own1 H w d m D V) (e : Sk V' d m D') (f : InvS D') (g : V.grownBy V' (some m)) : Own1 H w d m D' V' :=
  ⟨e, f, h.newd, h.newm, h.turn.trans (Turn.of_grown (F := fun j => j = m) g rfl) (fun j _ e => by rw [e]; exact h.newm)⟩
/-- Another shelf has turned. -/
theorem Own1.far (h : Own1 H w d m D V) {d2 m2 : Nat} {D2 : DataW H} (h2 : Own1 H w d2 m2 D2 V) (hne : m ≠ m2) (g : V.grownBy V' (some m2)) : Own1 H w d m D V' :=
  ⟨h.bk.kept g (fun e => by injection e with e; exact h2.bk.map.ne h.bk.box e.symm) (fun e => by injection e with e; exact hne e), h.inv, h.newd, h.newm, h.turn.trans (Turn.of_grown (F := fun j => j = m2) g rfl) (fun j _ e => by rw [e]; exact h2.newm)⟩
theorem Own1.ends (h : Own1 H w d m D V) : Below w.heap.size w V := h.turn.below (Nat.le_refl _) (fun j hj e => by omega)
end

section
variable {H : Type}
end

end Go.Proofs.YtcdedkgkingbdaaGreatDoor.stock
end

