/- Texts laid into one: StoS, StoL, StoT, TextA, TextC, TextD, ObjA. -/
import Derived.Test.YtndnjeahepahkaaY005
import Derived.Test.YtndnjeahepahkaaY000
import Derived.Test.YtndnjeahepahkaaY004
import Derived.Deep.QuietTactic
import Derived.BigQuiet
import Derived.IntWalk
import Derived.Test.YtndnjeahepahkaaY002
import Derived.Test.YtndnjeahepahkaaY003
section
/- stock: what Save gives. -/
namespace Go.Proofs.Ytndnjeahepahkaa.stock
open Go.RowKit Go.Maps Go.Sort

section
variable {H : Type}

/-- Where Save's writing stands. -/
structure SJ (w : World) (d m : Nat) (D : DataW H) (b : Nat) (r : Option Nat) (X : List UInt8) (v : Value) (n : Nat) (rows : List Value) (V : World) : Prop where
  wr : Wr V b r X
  bk : Sk V d m D
  rw : V.ownsRow 0 9 1 v n rows
  tn : Turn (fun k => w.heap.size ≤ k) w V
  dl : d < w.heap.size
  ml : m < w.heap.size
  fb : w.heap.size ≤ b
  fr : ∀ k, r = some k → w.heap.size ≤ k

section
variable {w V V' : World} {d m b n : Nat} {D : DataW H} {r r' : Option Nat} {X : List UInt8} {v : Value} {rows : List Value}
theorem SJ.drawn (h : SJ w d m D b r X v n rows V) : SJ w d m D b r X v n rows V.drew := ⟨h.wr, ⟨h.bk.box.drew, h.bk.map⟩, h.rw, h.tn.drew, h.dl, h.ml, h.fb, h.fr⟩
theorem SJ.next (X : List UInt8) {X' : List UInt8} (h : SJ w d m D b r X v n rows V) (hr : r' = r ∨ ∃ k, r' = some k ∧ V.heap.size ≤ k) (t : Turn (fun k => k = b ∨ some k = r) V V') (hw : Wr V' b r' X') : SJ w d m D b r' X' v n rows V' := by
  have hdl := h.dl
  have hml := h.ml
  have hfb := h.fb
  obtain ⟨u, hb, ho, hv, hne⟩ := h.wr
  refine ⟨hw, h.bk.turn t (fun hF => ?_) (fun hF => ?_), own_turn h.rw t (fun k hk hF => ?_), h.tn.trans t (fun j hj hF => ?_), h.dl, h.ml, h.fb, fun k hk => ?_⟩
  · rcases hF with hF | hF
    · omega
    · have := h.fr _ hF.symm; omega
  · rcases hF with hF | hF
    · omega
    · have := h.fr _ hF.symm; omega
  · rcases hF with hF | hF
    · exact own_ne h.rw hb (by decide) (by rw [hk, hF])
    · exact own_own h.rw ho (by decide) k hk (by rw [hv, hF])
  · rcases hF with hF | hF
    · omega
    · exact h.fr _ hF.symm
  · rcases hr with rfl | ⟨j, rfl, hj⟩
    · exact h.fr k hk
    · injection hk with hk
      have := h.tn.size
      omega
end

set_option maxRecDepth 100000 in
set_option maxHeartbeats 1000000 in
theorem ssave_calls (d m : Nat) (D : DataW H) (w : World) (h : Sk w d m D) (I : InvS D) :
    Calls Try.prog 107 #[.pointer (some ⟨d, 0, none⟩)] w fun en w' => en = .returned (.string (saveB D)) ∧ Below w.heap.size w w' := by
  have hnl : (namesD D).length ≤ 16 := by have := names_size I; have := I.size; omega
  have B := Lib.hid h
  have II := Lib.hid I
  have DL := Lib.hid h.box.lt
  have ML := Lib.hid (World.ownsMap.lt h.map)
  clear h
  go_enter Try.func107, Try.ntmps107
  go_wp2_with fail
  refine (snames_calls d m D _ (B.out.kept (World.grownBy_alloc w _ none) (by simp) (by simp)) II.out).mono ?_
  rintro en w1 ⟨v, rfl, hrow, b1⟩
  have hrow' := hrow
  have HJ0 : Hid (SJ w d m D w.heap.size none [] v (namesD D).length ((namesD D).map encStr) w1) := by
    have t0 : Turn (fun k => w.heap.size ≤ k) w (w.alloc (.cells #[.slice none 0 0] 116)) := (Turn.refl _ _).alloc _
    have t1 : Turn (fun k => w.heap.size ≤ k) w w1 := t0.trans (Turn.of_below b1 (F := fun k => (w.alloc (.cells #[.slice none 0 0] 116)).heap.size ≤ k) (fun _ _ e => e)) (fun j hj hF => by simp at hF; omega)
    obtain ⟨u, hb, ho, hv, hne⟩ := made_writer w
    have k1 : Turn (fun k => (w.alloc (.cells #[.slice none 0 0] 116)).heap.size ≤ k) (w.alloc (.cells #[.slice none 0 0] 116)) w1 := Turn.of_below b1 (fun _ _ e => e)
    refine ⟨⟨u, hb.turn k1 (by simp), own_turn ho k1 (fun b hb => by rw [hv] at hb; cases hb), hv, hne⟩, B.out.turn t1 (by have := DL.out; omega) (by have := ML.out; omega), hrow', t1, DL.out, ML.out, Nat.le_refl _, fun k hk => by cases hk⟩
  obtain ⟨a, c, rfl⟩ := own_slice hrow'
  clear hrow hrow' b1
  generalize hn : (namesD D).length = n at *
  have HN := Lib.hid hn
  clear hn
  go_wp2_with fail
  refine (wnum_int w.heap.size none [] (n : Int) w1 (by omega) (by omega) HJ0.out.wr (by simp)).mono ?_
  rintro en w2 ⟨rfl, r2, h2, hr2, t2⟩
  have HJ2 := Lib.hid (SJ.next _ HJ0.out hr2 t2 h2)
  simp only [List.nil_append, Int.toNat_natCast] at HJ2
  clear h2 hr2 t2 HJ0
  go_wp2_with fail
  go_loopw [15] (fun i wr => ∃ (k : Nat) (r : Option Nat), i = .int .i64 k ∧ k ≤ n ∧ SJ w d m D w.heap.size r (enc n ++ ((namesD D).take k).flatMap (pieceD D)) (.slice a n c) n ((namesD D).map encStr) wr)
    (fun i _ => n - (intOf i).toNat)
  case atStart => exact ⟨0, r2, rfl, Nat.zero_le _, by simpa using HJ2.out⟩
  case round =>
    obtain ⟨k, r, rfl, hk, hJ⟩ := hrel
    have HJ := Lib.hid hJ
    by_cases hlt : k < n
    · obtain ⟨g, c', hv, hnc, hcm, hcell⟩ := own_cell hJ.rw (by omega)
      obtain ⟨rfl, rfl⟩ : a = some ⟨g, 0, none⟩ ∧ c = c' := by injection hv with h1 _ h2; exact ⟨h1, h2⟩
      have hkl : k < (namesD D).length := by rw [HN.out]; exact hlt
      have hc0 := hcell k (encStr (namesD D)[k]) (by rw [List.getElem?_map, List.getElem?_eq_getElem hkl]; rfl)
      have HM : Hid ((namesD D)[k] ∈ namesD D) := List.getElem_mem hkl
      have HT : Hid ((namesD D).take (k + 1) = (namesD D).take k ++ [(namesD D)[k]]) := (List.take_append_getElem hkl).symm
      generalize (namesD D)[k] = x at *
      unfold encStr at hc0
      clear hcell hv hJ
      have hk2 : k ≤ c := by omega
      go_wp2_with fail
      have hp := piece_lenS II.out HM.out
      obtain ⟨hp0, hp1, hp2', hp3⟩ := hp
      have hp2 : 0 ≤ amtL D x := by omega
      have hcv : ∀ V : World, (convert 3 120 (.int .i64 (amtL D x))).run Try.prog V = .ok (.int .u64 (amtL D x)) V := fun V => by
        go_simp
        rw [IntKind.wrap_u64]; omega
      have hkey : keyOf Try.prog 9 (.string ⟨x.toArray⟩) = some (kS ⟨x.toArray⟩) := kS_of (by show x.toArray.size ≤ _; unfold maxLen; simp; omega)
      have hlen : (enc n ++ ((namesD D).take k).flatMap (pieceD D)).length ≤ 1000 := by
        have e1 := enc_len n (by omega)
        have e2 := flat_len (pieceD D) 34 ((namesD D).take k) (fun y hy => (piece_lenS II.out (List.mem_of_mem_take hy)).1)
        rw [List.length_take] at e2
        rw [List.length_append]
        omega
      have hlen3 : (enc n ++ ((namesD D).take k).flatMap (pieceD D) ++ enc (⟨x.toArray⟩ : ByteArray).size ++ (⟨x.toArray⟩ : ByteArray).data.toList).length ≤ 1000000 := by
        have e0 : (⟨x.toArray⟩ : ByteArray).size = x.length := by show x.toArray.size = _; simp
        have e1 := enc_len x.length (by omega)
        have e2 : (⟨x.toArray⟩ : ByteArray).data.toList.length = x.length := by simp
        rw [e0, List.length_append, List.length_append]
        omega
      refine wp_region_held (S := fun V => Sk V d m D) (by kernel_rfl) ?_
      have HS0 : (fun V : World => Sk V d m D) wr.drew := HJ.out.drawn.bk
      refine held_take 0 (some 19) rfl rfl (by kernel_rfl) (by kernel_rfl) (by kernel_rfl) (fun _ _ _ h => h) (.inl ⟨by kernel_rfl, fun _ _ => rfl⟩) HS0 ?_
      refine held_take 2 (some 21) rfl rfl (by kernel_rfl) (by kernel_rfl) (by kernel_rfl) (fun _ _ _ h => h) (.inl ⟨by kernel_rfl, fun _ _ => rfl⟩) HS0 ?_
      refine held_take 3 (some 22) (v := .pointer (some ⟨d, 0, none⟩)) rfl rfl (by kernel_rfl) (by kernel_rfl) (by kernel_rfl) (fun _ _ _ h => h) (.inl ⟨by kernel_rfl, fun V _ => by go_simp⟩) HS0 ?_
      refine held_take 4 (some 23) (v := .pointer (some ⟨d, 0, none⟩)) rfl rfl (by kernel_rfl) (by kernel_rfl) (by kernel_rfl) (fun _ _ _ h => h) (.inl ⟨by kernel_rfl, fun V _ => by go_simp⟩) HS0 ?_
      refine held_take 5 (some 24) (v := .map (some m)) rfl rfl (by kernel_rfl) (by kernel_rfl) (by kernel_rfl) (fun _ _ _ h => h) (.inl ⟨by kernel_rfl, fun V hV => by have c0 : V.cell? ⟨d, 0, none⟩ = some (.map (some m)) := (show Sk V d m D from hV).box.cell 0; go_simp⟩) HS0 ?_
      refine held_take 6 (some 25) rfl rfl (by kernel_rfl) (by kernel_rfl) (by kernel_rfl) (fun _ _ _ h => h) (.inl ⟨by kernel_rfl, fun _ _ => rfl⟩) HS0 ?_
      refine held_take 7 (some 26) (v := .int .i64 (amtL D x)) rfl rfl (by kernel_rfl) (by kernel_rfl) (by kernel_rfl) (fun _ _ _ h => h) (.inl ⟨by kernel_rfl, fun V hV => by
        obtain ⟨q, hq, hat, _⟩ := World.ownsMap.lookup_int (show Sk V d m D from hV).map strKeyed Try.underlying85 Try.underlying3 (zeroInt V) hkey
        obtain rfl : amtL D x = q := amt_of hat
        go_simp⟩) HS0 ?_
      refine held_take 8 (some 27) (v := .int .u64 (amtL D x)) rfl rfl (by kernel_rfl) (by kernel_rfl) (by kernel_rfl) (fun _ _ _ h => h) (.inl ⟨by kernel_rfl, fun V _ => by go_simp⟩) HS0 ?_
      simp only [Act.put, List.setIfInBounds_toArray, List.set_cons_zero, List.set_cons_succ]
      refine held_one (i := 1) (by kernel_rfl) ?_
      refine wpOp_call (some 20) rfl rfl (by kernel_rfl) 60 Try.f60 Try.func60 (by kernel_rfl) (by kernel_rfl) _ _ rfl #[.pointer (some ⟨w.heap.size, 0, none⟩), .string ⟨x.toArray⟩] (by first | (simp [Act.eval]; done) | (simp [Act.eval, Act.put]; done)) (wstr_any w.heap.size r _ ⟨x.toArray⟩ _ HJ.out.drawn.wr (by omega) (by show x.toArray.size ≤ _; simp; omega)) ?_
      rintro en v ⟨rfl, r3, h3, hr3, t3⟩
      have HJ3 := Lib.hid (SJ.next _ HJ.out.drawn hr3 t3 h3)
      clear h3 hr3 t3
      refine ⟨_, rfl, HJ3.out.bk, ?_⟩
      simp only [Act.put, List.setIfInBounds_toArray, List.set_cons_zero, List.set_cons_succ]
      refine held_one (i := 9) (by kernel_rfl) ?_
      refine wpOp_call (some 28) rfl rfl (by kernel_rfl) 62 Try.f62 Try.func62 (by kernel_rfl) (by kernel_rfl) _ _ rfl #[.pointer (some ⟨w.heap.size, 0, none⟩), .int .u64 (amtL D x)] (by first | (simp [Act.eval]; done) | (simp [Act.eval, Act.put]; done)) (wnum_int w.heap.size r3 _ (amtL D x) _ hp2 (by omega) HJ3.out.wr hlen3) ?_
      rintro en v4 ⟨rfl, r4, h4, hr4, t4⟩
      have HJ4 := Lib.hid (SJ.next _ HJ3.out hr4 t4 h4)
      clear h4 hr4 t4
      refine ⟨_, rfl, HJ4.out.bk, ?_⟩
      simp only [Act.put, List.setIfInBounds_toArray, List.set_cons_zero, List.set_cons_succ]
      refine wpAnyH_done (by kernel_rfl) ?_ _
      clear HS0 hkey hcv
      go_wp2_with fail
      go_roundw
      case rel =>
        refine ⟨k + 1, r4, by go_num, by omega, ?_⟩
        have e : enc n ++ ((namesD D).take (k + 1)).flatMap (pieceD D) = enc n ++ ((namesD D).take k).flatMap (pieceD D) ++ enc (⟨x.toArray⟩ : ByteArray).size ++ (⟨x.toArray⟩ : ByteArray).data.toList ++ enc (amtL D x).toNat := by
          rw [HT.out, List.flatMap_append]
          have : (⟨x.toArray⟩ : ByteArray).size = x.length := by show x.toArray.size = _; simp
          rw [this]
          simp [pieceD]
        rw [e]
        exact HJ4.out
      case measure => simp [intOf]; omega
    · obtain rfl : k = n := by omega
      have E : Hid (enc k ++ ((namesD D).take k).flatMap (pieceD D) = saveL D) := by
        show _ = _
        rw [List.take_of_length_le (by rw [HN.out]; omega)]
        unfold saveL
        rw [HN.out]
      clear hJ
      go_wp2_with fail
      refine (text_any _ _ _ _ HJ.out.wr).mono ?_
      rintro en w6 ⟨rfl, rfl⟩
      go_wp2_with fail
      go_ret
      refine ⟨?_, HJ.out.tn.below (Nat.le_refl _) (fun j hj e => by omega)⟩
      show Ending.returned (.string _) = _
      rw [E.out]
      rfl

end
end Go.Proofs.Ytndnjeahepahkaa.stock
end

section
/- stock: what Load gives of what was saved. -/
namespace Go.Proofs.Ytndnjeahepahkaa.stock
open Go.RowKit Go.Maps Go.Sort

section
variable {H : Type}

/-- The first k names are in. -/
structure GotS (D Dk : DataW H) (k : Nat) : Prop where
  good : Good Dk
  size : Maps.size Dk ≤ k
  isIn : ∀ s : ByteArray, isIn Dk s = true ↔ s.data.toList ∈ (namesD D).take k
  amt : ∀ s : ByteArray, amt Dk s = if s.data.toList ∈ (namesD D).take k then amt D s else 0

theorem gotS_new (D : DataW H) : GotS D (.map []) 0 := by
  refine ⟨good_empty, Nat.le_refl _, fun s => ?_, fun s => ?_⟩
  · constructor
    · intro h; cases h
    · intro h; simp at h
  · rw [if_neg (by simp)]
    exact amt_absent rfl

theorem gotS_next {D Dk : DataW H} (I : InvS D) {k : Nat} (h : GotS D Dk k) (hk : k < (namesD D).length) :
    GotS D (Dk.put (kS ⟨(namesD D)[k].toArray⟩) (nI (amtL D (namesD D)[k]))) (k + 1) := by
  have hx := (mem_namesD I.good _).1 (List.getElem_mem hk)
  have hT : (namesD D).take (k + 1) = (namesD D).take k ++ [(namesD D)[k]] := (List.take_append_getElem hk).symm
  generalize hxe : (namesD D)[k] = x at *
  have hm := h.good.tidy.isMap
  have hof : ∀ s : ByteArray, s = ⟨x.toArray⟩ ↔ s.data.toList = x := fun s => ⟨fun e => by rw [e], fun e => by rw [← e]⟩
  refine ⟨h.good.put _ _, ?_, fun s => ?_, fun s => ?_⟩
  · rw [size_put h.good.tidy]
    have := h.size
    split <;> omega
  · rw [isIn_put hm, hT, List.mem_append, List.mem_singleton, ← hof s]
    by_cases h2 : s = ⟨x.toArray⟩
    · simp [h2]
    · rw [if_neg h2, h.isIn s]
      simp [h2]
  · rw [amt_put hm, hT]
    by_cases h2 : s = ⟨x.toArray⟩
    · rw [if_pos h2, if_pos (by rw [(hof s).1 h2]; simp), h2]
      rfl
    · rw [if_neg h2, h.amt s]
      have : (s.data.toList ∈ (namesD D).take k ++ [x]) ↔ s.data.toList ∈ (namesD D).take k := by
        rw [List.mem_append, List.mem_singleton, ← hof s]
        simp [h2]
      simp only [this]

theorem gotS_all {D Dk : DataW H} (I : InvS D) (h : GotS D Dk (namesD D).length) : Alike Dk D := by
  refine ⟨h.good, I.good, fun s => ?_⟩
  have hi := h.isIn s
  have ha := h.amt s
  rw [List.take_of_length_le (Nat.le_refl _)] at hi ha
  have hs : s = ⟨s.data.toList.toArray⟩ := by simp
  have hm := mem_namesD I.good s.data.toList
  rw [← hs] at hm
  cases h2 : isIn D s
  · have hn : s.data.toList ∉ namesD D := fun e => by have := (hm.1 e).2; rw [h2] at this; cases this
    rw [if_neg hn] at ha
    refine ⟨?_, by rw [ha, amt_absent h2]⟩
    cases h3 : isIn Dk s
    · rfl
    · exact absurd (hi.1 h3) hn
  · have hl : s.data.toList ≠ [] := fun e => (I.keys s h2).1 (by rw [hs, e]; rfl)
    have hn : s.data.toList ∈ namesD D := hm.2 ⟨hl, h2⟩
    rw [if_pos hn] at ha
    exact ⟨hi.2 hn, ha⟩

theorem left_lenS {D : DataW H} (I : InvS D) (k : Nat) : (leftD D k).length ≤ 34 * (namesD D).length := by
  unfold leftD
  have := flat_len (pieceD D) 34 ((namesD D).drop k) (fun y hy => (piece_lenS I (List.mem_of_mem_drop hy)).1)
  rw [List.length_drop] at this
  exact Nat.le_trans this (Nat.mul_le_mul_left _ (Nat.sub_le _ _))

/-- Where Load's reading stands. -/
structure LJ (w : World) (b d m : Nat) (s : List UInt8) (D : DataW H) (V : World) : Prop where
  rd : Rd V b ⟨s.toArray⟩ 0
  bk : Sk V d m D
  tn : Turn (fun k => w.heap.size ≤ k) w V
  bl : w.heap.size ≤ b
  dl : w.heap.size ≤ d
  ml : w.heap.size ≤ m

section
variable {w V V' : World} {b d m : Nat} {s s' : List UInt8} {D D' : DataW H}
theorem LJ.read (s' : List UInt8) (h : LJ w b d m s D V) (hr : Rd V' b ⟨s'.toArray⟩ 0) (g : V.grownBy V' (some b)) : LJ w b d m s' D V' := by
  have hbl := h.bl
  refine ⟨hr, h.bk.kept g (fun e => ?_) (fun e => ?_), h.tn.grown g (fun j e _ => by injection e with e; omega), h.bl, h.dl, h.ml⟩
  · injection e with e
    have := h.bk.box
    rw [e] at this
    exact absurd (this.uniq h.rd).2 (by decide)
  · injection e with e
    exact h.bk.map.ne h.rd e
theorem LJ.put (h : LJ w b d m s D V) (hm : Mp V' m D') (t : V.mapTurned V' m) : LJ w b d m s D' V' := by
  have hml := h.ml
  refine ⟨h.rd.grown t.grown (fun e => ?_), h.bk.turned hm t, h.tn.grown t.grown (fun j e _ => by injection e with e; omega), h.bl, h.dl, h.ml⟩
  injection e with e
  exact h.bk.map.ne h.rd e.symm
end

def SLoadPost (D : DataW H) (w : World) (en : Ending) (w' : World) : Prop :=
  ∃ (d m : Nat) (D' : DataW H), en = .returned (.tuple #[.pointer (some ⟨d, 0, none⟩), .int .i64 0]) ∧ Sk w' d m D' ∧ Alike D' D ∧ Below w.heap.size w w' ∧ w.heap.size ≤ d ∧ w.heap.size ≤ m

set_option maxRecDepth 100000 in
set_option maxHeartbeats 1000000 in
theorem sload_calls (D : DataW H) (w : World) (I : InvS D) :
    Calls Try.prog 119 #[.string (saveB D)] w fun en w' => SLoadPost D w en w' := by
  have hnl : (namesD D).length ≤ 16 := by have := names_size I; have := I.size; omega
  have hS : saveB D = ⟨(enc (namesD D).length ++ leftD D 0).toArray⟩ := by unfold saveB saveL leftD; rw [List.drop_zero]
  have hSz : (⟨(enc (namesD D).length ++ leftD D 0).toArray⟩ : ByteArray).size ≤ maxLen := by
    have e1 := enc_len (namesD D).length (by omega)
    have e2 := left_lenS I 0
    rw [text_size, List.length_append]
    unfold maxLen
    omega
  have hU := upto_enc (namesD D).length (leftD D 0) 16 (by omega) (by omega)
  rw [hS]
  have II := Lib.hid I
  have HU := Lib.hid hU
  have HSZ := Lib.hid hSz
  clear hS hSz hU
  go_enter Try.func119, Try.ntmps119
  go_wp2_with fail
  refine (read_any _ w).mono ?_
  rintro en w1 ⟨rfl, h1, b1⟩
  have H1 := Lib.hid h1
  have B1 := Lib.hid b1
  clear h1 b1
  go_wp2_with fail
  refine (snew_calls (H := H) w1).mono ?_
  rintro en w2 ⟨d, m, rfl, h2, b2, hd2, hm2⟩
  have hsz := H1.out.lt
  have HJ2 : Hid (LJ w w.heap.size d m (enc (namesD D).length ++ leftD D 0) (.map []) w2) :=
    ⟨H1.out.below b2 hsz, h2, (Turn.of_below (F := fun j => w.heap.size ≤ j) B1.out (fun _ _ e => e)).trans (Turn.of_below b2 (F := fun j => w1.heap.size ≤ j) (fun _ _ e => e)) (fun j hj e => by omega), Nat.le_refl _, by omega, by omega⟩
  clear h2 b2 H1 B1
  go_wp2_with fail
  refine (upto_any w.heap.size _ 0 16 w2 HSZ.out HJ2.out.rd (by omega) (by omega)).mono ?_
  rw [HU.out]
  rintro en w3 ⟨rfl, h3, g3⟩
  have HJ3 : Hid (LJ w w.heap.size d m (leftD D 0) (.map []) w3) := HJ2.out.read _ h3 g3
  clear h3 g3 HJ2 HU HSZ
  generalize hn : (namesD D).length = n at *
  have HN := Lib.hid hn
  clear hn
  go_wp2_with fail
  go_loopw [6, 15] (fun ah i wr => ∃ (k : Nat) (Dk : DataW H), i = .int .i64 k ∧ k ≤ n ∧ ah = .string ⟨(aheadD D k).toArray⟩ ∧ Hid (GotS D Dk k) ∧ Hid (LJ w w.heap.size d m (leftD D k) Dk wr))
    (fun _ i _ => n - (intOf i).toNat)
  case atStart => exact ⟨0, .map [], rfl, Nat.zero_le _, rfl, gotS_new D, HJ3⟩
  case round =>
    obtain ⟨k, Dk, rfl, hk, rfl, HG, HJ⟩ := hrel
    by_cases hlt : k < n
    · have hkl : k < (namesD D).length := by rw [HN.out]; exact hlt
      have HL := left_step D k hkl
      have HX := Lib.hid (gotS_next II.out HG.out hkl)
      have HM := piece_lenS II.out (List.getElem_mem hkl)
      have HMX : Hid ((namesD D)[k] ≠ []) := ((mem_namesD II.out.good _).1 (List.getElem_mem hkl)).1
      have HA := less_not (ahead_lt II.out.good k hkl)
      have HE : Hid (aheadD D (k + 1) = (namesD D)[k]) := ahead_next k hkl
      have HLE := left_lenS II.out k
      generalize (namesD D)[k] = x at *
      generalize amtL D x = A at *
      obtain ⟨N, rfl⟩ := Int.eq_ofNat_of_zero_le (show 0 ≤ A by have := HM.2.2.1; omega)
      have hn0 : ((N : Int) == 0) = false := beq_eq_false_iff_ne.2 (by have := HM.2.2.1; omega)
      simp only [Int.toNat_natCast] at HL
      have hwA : (Lit.int .i64 ((N : Int))).wf = true := wf64 (by omega) (by omega)
      have hUp := upto_enc N (leftD D (k + 1)) 1099511627776 (by omega) (by omega)
      have hSt := strN_enc x (enc N ++ leftD D (k + 1)) 12 (by omega) (by omega)
      have hZ : (⟨(enc x.length ++ (x ++ (enc N ++ leftD D (k + 1)))).toArray⟩ : ByteArray).size ≤ maxLen := by
        have e3 := HN.out
        rw [← HL, text_size]; unfold maxLen; omega
      have hZ2 : (⟨(enc N ++ leftD D (k + 1)).toArray⟩ : ByteArray).size ≤ maxLen := by
        have e1 := enc_len N (by omega)
        have e2 := left_lenS II.out (k + 1)
        have e3 := HN.out
        rw [text_size, List.length_append]
        unfold maxLen
        omega
      rw [HL] at HJ
      have HUP := Lib.hid hUp
      have HST := Lib.hid hSt
      have HZ := Lib.hid hZ
      have HZ2 := Lib.hid hZ2
      have HMM := Lib.hid HM
      clear HL hUp hSt hZ hZ2 HM HLE
      go_wp2_with fail
      refine (str_any w.heap.size _ 0 12 _ HZ.out HJ.out.rd (by omega) (by omega)).mono ?_
      rw [HST.out]
      rintro en v1 ⟨rfl, k1, g1⟩
      have HJ1 : Hid (LJ w w.heap.size d m (enc N ++ leftD D (k + 1)) Dk v1) := HJ.out.read _ k1 g1
      clear k1 g1
      go_wp2_with fail
      refine (upto_any w.heap.size _ 0 1099511627776 v1 HZ2.out HJ1.out.rd (by omega) (by omega)).mono ?_
      rw [HUP.out]
      rintro en v2 ⟨rfl, k2, g2⟩
      have HJ2 : Hid (LJ w w.heap.size d m (leftD D (k + 1)) Dk v2) := HJ1.out.read _ k2 g2
      clear k2 g2
      go_wp2_with fail
      refine (err_any w.heap.size _ 0 v2 HJ2.out.rd).mono ?_
      rintro en v3 ⟨rfl, rfl⟩
      have hksz : Maps.size Dk < maxLen := by have := HG.out.size; unfold maxLen; omega
      have hkx : keyOf Try.prog 9 (.string ⟨x.toArray⟩) = some (kS ⟨x.toArray⟩) := kS_of (by have := HMM.out.2.1; rw [text_size]; unfold maxLen; omega)
      have c0 : v2.cell? ⟨d, 0, none⟩ = some (.map (some m)) := HJ2.out.bk.box.cell 0
      obtain ⟨v4, hrun4, hown4, hturn4⟩ := World.ownsMap.store HJ2.out.bk.map strKeyed Try.underlying85 hksz hkx (plainElem_int Try.underlying3 hwA)
      have HJ4 : Hid (LJ w w.heap.size d m (leftD D (k + 1)) (Dk.put (kS ⟨x.toArray⟩) (nI N)) v4) := HJ2.out.put (ownsMap_tight hown4) hturn4
      clear hown4 hturn4 hkx hwA HJ2 HJ1
      go_wp2_with fail
      go_roundw
      case rel => exact ⟨k + 1, _, by go_num, by omega, by rw [HE.out], HX, HJ4⟩
      case measure => simp [intOf]; omega
    · obtain rfl : k = n := by omega
      have E : leftD D k = [] := by rw [← HN.out]; exact left_end D
      have HQ : Hid (Alike Dk D) := gotS_all II.out (by rw [HN.out]; exact HG.out)
      rw [E] at HJ
      clear E
      go_wp2_with fail
      refine (end_any w.heap.size _ 0 _ HJ.out.rd).mono ?_
      rw [end_nil]
      rintro en w6 ⟨rfl, h6, g6⟩
      have HJ6 := Lib.hid (HJ.out.read [] h6 g6)
      clear h6 g6
      go_wp2_with fail
      go_ret2
      exact ⟨d, m, Dk, rfl, HJ6.out.bk, HQ.out, HJ6.out.tn.below (Nat.le_refl _) (fun j hj e => by omega), HJ6.out.dl, HJ6.out.ml⟩

end
end Go.Proofs.Ytndnjeahepahkaa.stock
end

section
/- stock: an op as a struct; slices of ops that are handed in; Few; awake. -/
namespace Go.Proofs.Ytndnjeahepahkaa.stock
open Go.ChangeShapes Go.WideShapes Go.ChangeAt Go.RowKit Go.Maps Go.Sort

/-- An op. -/
structure OpS where
  k : Int
  s : ByteArray
  n : Int

def few14 (s : ByteArray) : ByteArray := s.extract 0 14
theorem few14_size (s : ByteArray) : (few14 s).size ≤ 14 := by
  unfold few14
  rw [ByteArray.size_extract]
  omega
def OpS.cells (o : OpS) : List Value := [.int .i64 o.k, .string o.s, .int .i64 o.n]
def OpS.few (o : OpS) : OpS := ⟨o.k, few14 o.s, o.n⟩
def OpS.inv (o : OpS) : OpS := ⟨3 - o.k, o.s, o.n⟩
def OpS.Short (o : OpS) : Prop := o.s.size ≤ 14
theorem few_short (o : OpS) : o.few.Short := few14_size _
theorem inv_short {o : OpS} (h : o.Short) : o.inv.Short := h

section
variable {H : Type}
def doO (D : DataW H) (o : OpS) : DataW H × Int := doS D o.k o.s o.n
theorem invS_doO {D : DataW H} (I : InvS D) (o : OpS) : InvS (doO D o).1 := (doS_inv I _ _ _).1
theorem size_doO {D : DataW H} (I : InvS D) (o : OpS) : Maps.size (doO D o).1 ≤ Maps.size D + 1 := (doS_inv I _ _ _).2

theorem sdo_any (d m : Nat) (D : DataW H) (o : OpS) (w : World) (h : Sk w d m D) (I : InvS D) (ho : o.Short) :
    Calls Try.prog 106 #[.pointer (some ⟨d, 0, none⟩), .agg #[.int .i64 o.k, .string o.s, .int .i64 o.n]] w fun en w' => SPost d m w (doO D o) en w' :=
  sdo_calls d m D o.k o.n o.s w h I (by have : o.s.size ≤ 14 := ho; unfold maxLen; omega)

theorem sinv_any (o : OpS) (w : World) (h : o.k = 1 ∨ o.k = 2) :
    Calls Try.prog 24 #[.agg #[.int .i64 o.k, .string o.s, .int .i64 o.n]] w fun en w' => en = .returned (.agg #[.int .i64 o.inv.k, .string o.inv.s, .int .i64 o.inv.n]) ∧ Below w.heap.size w w' := sinverse_calls o.k o.n o.s w h

theorem doO_kind {D : DataW H} {o : OpS} (h : (doO D o).2 = 0) : o.k = 1 ∨ o.k = 2 := (chkS_ok (doS_chk h)).1
theorem doO_back {D : DataW H} (I : InvS D) {o : OpS} (h : (doO D o).2 = 0) : (doO (doO D o).1 o.inv).2 = 0 ∧ Alike (doO (doO D o).1 o.inv).1 D := doS_back I h
theorem doO_not {D : DataW H} {o : OpS} (h : ¬ (doO D o).2 = 0) : (doO D o).1 = D := doS_not h
theorem doO_alike {D D' : DataW H} (a : Alike D D') (I' : InvS D') (o : OpS) : ((doO D o).2 = 0 ↔ (doO D' o).2 = 0) ∧ Alike (doO D o).1 (doO D' o).1 := doS_alike a I' _ _ _
end

theorem cutN_any (s : ByteArray) (n : Nat) (w : World) (hn : n ≤ 1000000) (hs : s.size ≤ maxLen) : Calls Try.prog 33 #[.string s, .int .i64 n] w fun en w' => en = .returned (.string (s.extract 0 n)) ∧ w = w' := cut_any s n w hn hs

set_option maxRecDepth 100000 in
set_option maxHeartbeats 400000 in
theorem sfew_calls (k n : Int) (s : ByteArray) (w : World) (hs : s.size ≤ maxLen) :
    Calls Try.prog 21 #[.agg #[.int .i64 k, .string s, .int .i64 n]] w fun en w' => en = .returned (.agg #[.int .i64 k, .string (few14 s), .int .i64 n]) ∧ Below w.heap.size w w' := by
  go_enter Try.func21, Try.ntmps21
  go_wp2_with fail
  refine (cutN_any s 14 _ (by omega) hs).mono ?_
  rintro en w1 ⟨rfl, rfl⟩
  rw [show s.extract 0 14 = few14 s from rfl]
  go_wp2_with fail
  refine bodyPost_ret (v := .agg #[.int .i64 k, .string (few14 s), .int .i64 n]) (by simp [results, Try.results21, go_sem]) rfl ⟨rfl, turn_box ?_⟩
  repeat (first | exact Turn.refl _ _ | refine Turn.drew ?_ | refine Turn.alloc ?_ _ | refine Turn.put ?_ (fun h => by omega) _ _)
theorem sfew_any (o : OpS) (w : World) (hs : o.s.size ≤ maxLen) :
    Calls Try.prog 21 #[.agg #[.int .i64 o.k, .string o.s, .int .i64 o.n]] w fun en w' => en = .returned (.agg #[.int .i64 o.few.k, .string o.few.s, .int .i64 o.few.n]) ∧ Below w.heap.size w w' := sfew_calls o.k o.n o.s w hs

/-- A shelf that was reached, made since w. -/
structure Own1 (H : Type) (w : World) (d m : Nat) (D : DataW H) (V : World) : Prop where
  bk : Sk V d m D
  inv : InvS D
  newd : w.heap.size ≤ d
  newm : w.heap.size ≤ m
  turn : Turn (fun j => w.heap.size ≤ j) w V

section
variable {H : Type} {w V V' : World} {d m : Nat} {D D' : DataW H}
theorem Own1.more (h : Own1 H w d m D V) (t : Turn (fun j => V.heap.size ≤ j) V V') : Own1 H w d m D V' :=
  ⟨h.bk.turn t (Nat.not_le_of_lt h.bk.box.lt) (Nat.not_le_of_lt (World.ownsMap.lt h.bk.map)), h.inv, h.newd, h.newm, h.turn.trans t (fun _ _ e => Nat.le_trans h.turn.size e)⟩
theorem Own1.below (h : Own1 H w d m D V) (b : Below V.heap.size V V') : Own1 H w d m D V' := h.more (Turn.of_below b (fun _ _ e => e))
theorem Own1.did (h : Own1 H w d m D V) (e : Sk V' d m D') (f : InvS D') (g : V.grownBy V' (some m)) : Own1 H w d m D' V' :=
  ⟨e, f, h.newd, h.newm, h.turn.trans (Turn.of_grown (F := fun j => j = m) g rfl) (fun j _ e => by rw [e]; exact h.newm)⟩
/-- Another shelf has turned. -/
theorem Own1.far (h : Own1 H w d m D V) {d2 m2 : Nat} {D2 : DataW H} (h2 : Own1 H w d2 m2 D2 V) (hne : m ≠ m2) (g : V.grownBy V' (some m2)) : Own1 H w d m D V' :=
  ⟨h.bk.kept g (fun e => by injection e with e; exact h2.bk.map.ne h.bk.box e.symm) (fun e => by injection e with e; exact hne e), h.inv, h.newd, h.newm, h.turn.trans (Turn.of_grown (F := fun j => j = m2) g rfl) (fun j _ e => by rw [e]; exact h2.newm)⟩
theorem Own1.ends (h : Own1 H w d m D V) : Below w.heap.size w V := h.turn.below (Nat.le_refl _) (fun j hj e => by omega)
end

section
variable {H : Type}
def nut : ByteArray := ⟨#[110, 117, 116]⟩
def opN (k n : Int) : OpS := ⟨k, ⟨#[110, 117, 116]⟩, n⟩
def DN1 : DataW H := (doO (.map []) (opN 1 5)).1
def DN2 : DataW H := (doO DN1 (opN 2 5)).1
theorem nut_ne : (⟨#[110, 117, 116]⟩ : ByteArray) ≠ .empty := by decide
theorem n1_ok : (doO (.map [] : DataW H) (opN 1 5)).2 = 0 :=
  (doS_ok invS_new).2 ⟨chkS_of (.inl rfl) nut_ne (by decide) (by decide) (by decide), fun _ => ⟨fun _ => by show (0 : Nat) < 16; omega, by show amt (.map []) _ + 5 ≤ _; rw [amt_absent rfl]; decide⟩, fun e => absurd (show (1 : Int) = 2 from e) (by decide)⟩
theorem n1_amt (x : ByteArray) : amt (DN1 (H := H)) x = if x = ⟨#[110, 117, 116]⟩ then 5 else 0 := by
  have := doS_amt (H := H) invS_new n1_ok x
  refine this.trans ?_
  rw [amt_absent rfl]
  show 0 + dltS 1 ⟨#[110, 117, 116]⟩ 5 x = _
  unfold dltS
  simp
theorem n1_inv : InvS (DN1 (H := H)) := invS_doO invS_new _
theorem n1_short : (doO (DN1 (H := H)) (opN 2 6)).2 = 11 := by
  have hc : chkS 2 ⟨#[110, 117, 116]⟩ 6 = 0 := chkS_of (.inr rfl) nut_ne (by decide) (by decide) (by decide)
  have ha := n1_amt (H := H) ⟨#[110, 117, 116]⟩
  rw [if_pos rfl] at ha
  show (doS DN1 2 ⟨#[110, 117, 116]⟩ 6).2 = 11
  rw [doS_of hc, if_neg (by decide)]
  unfold tkS
  rw [if_neg (by rw [(n1_inv.isIn_iff _).2 (by rw [ha]; decide)]; simp), if_pos (by rw [ha]; decide)]
theorem n2_ok : (doO (DN1 (H := H)) (opN 2 5)).2 = 0 :=
  (doS_ok n1_inv).2 ⟨chkS_of (.inr rfl) nut_ne (by decide) (by decide) (by decide), fun e => absurd (show (2 : Int) = 1 from e) (by decide), fun _ => by
    have ha := n1_amt (H := H) ⟨#[110, 117, 116]⟩
    rw [if_pos rfl] at ha
    show (5 : Int) ≤ amt DN1 ⟨#[110, 117, 116]⟩
    rw [ha]; decide⟩
theorem n2_inv : InvS (DN2 (H := H)) := invS_doO n1_inv _
theorem n2_names : namesD (DN2 (H := H)) = [] := by
  refine List.eq_nil_iff_forall_not_mem.2 (fun x hx => ?_)
  have h1 := ((mem_namesD (n2_inv (H := H)).good x).1 hx).2
  have h2 := (n2_inv.isIn_iff _).1 h1
  have h3 := doS_amt (H := H) n1_inv n2_ok ⟨x.toArray⟩
  have h4 : amt (DN2 (H := H)) ⟨x.toArray⟩ = amt DN1 ⟨x.toArray⟩ + dltS 2 ⟨#[110, 117, 116]⟩ 5 ⟨x.toArray⟩ := h3
  rw [n1_amt] at h4
  unfold dltS at h4
  rw [if_neg (show ¬ (2 : Int) = 1 by decide)] at h4
  split at h4 <;> omega
end

end Go.Proofs.Ytndnjeahepahkaa.stock
end

section
/- text: what Check, insert, cut, Do, New give. -/
namespace Go.Proofs.Ytndnjeahepahkaa.text
open Go.RowKit

/-- The error of an op; m: how many bytes its text has. -/
def chk (k a m n : Int) : Int :=
  if k = 1 then (if 0 ≤ a ∧ a ≤ 200 ∧ 1 ≤ m ∧ m ≤ 40 ∧ n = 0 then 0 else 4)
  else if k = 2 then (if 0 ≤ a ∧ a ≤ 200 ∧ 1 ≤ n ∧ n ≤ 40 ∧ m = 0 then 0 else 4) else 5

/-- The document at block d. -/
def Dc (w : World) (d : Nat) (s : ByteArray) : Prop := Has w d 84 #[.string s]

theorem one_box {w w' : World} (h : Turn (fun k => w.heap.size ≤ k) w w') : Below w.heap.size w w' := h.below (Nat.le_refl _) (fun j hj e => by omega)

theorem ends4 {a b n : Int} (h : ¬ (0 ≤ a ∧ a ≤ 200 ∧ 1 ≤ b ∧ b ≤ 40 ∧ n = 0)) : a < 0 ∨ (0 ≤ a ∧ 200 < a) ∨ (0 ≤ a ∧ a ≤ 200 ∧ b < 1) ∨ (0 ≤ a ∧ a ≤ 200 ∧ 1 ≤ b ∧ 40 < b) ∨ (0 ≤ a ∧ a ≤ 200 ∧ 1 ≤ b ∧ b ≤ 40 ∧ (n != 0) = true) := by
  have e : (n != 0) = true ↔ n ≠ 0 := by simp
  rw [e]; omega

set_option maxRecDepth 100000 in
set_option maxHeartbeats 1000000 in
theorem check_calls (k a n : Int) (x : ByteArray) (w : World) (hx : x.size ≤ maxLen) :
    Calls Try.prog 30 #[.agg #[.int .i64 k, .int .i64 a, .string x, .int .i64 n]] w fun en w' => en = .returned (.int .i64 (chk k a x.size n)) ∧ Below w.heap.size w w' := by
  have hm : x.size ≤ 9223372036854775807 := by unfold maxLen at hx; omega
  generalize hc : chk k a x.size n = c
  unfold chk at hc
  by_cases h1 : k = 1
  · subst h1
    rw [if_pos rfl] at hc
    by_cases h : 0 ≤ a ∧ a ≤ 200 ∧ 1 ≤ (x.size : Int) ∧ (x.size : Int) ≤ 40 ∧ n = 0
    · rw [if_pos h] at hc
      subst hc
      obtain ⟨h2, h3, h4, h5, rfl⟩ := h
      go_enter Try.func30, Try.ntmps30
      go_wp2_with fail
      go_region
      go_wp2_with fail
      go_ret
      refine ⟨rfl, one_box ?_⟩
      repeat (first | exact Turn.refl _ _ | refine Turn.drew ?_ | refine Turn.alloc ?_ _)
    · rw [if_neg h] at hc
      subst hc
      rcases ends4 h with h2 | ⟨h2, h3⟩ | ⟨h2, h3, h4⟩ | ⟨h2, h3, h4, h5⟩ | ⟨h2, h3, h4, h5, h6⟩
      all_goals
        clear h
        go_enter Try.func30, Try.ntmps30
        go_wp2_with fail
        go_region
        go_wp2_with fail
        go_ret
        refine ⟨rfl, one_box ?_⟩
        repeat (first | exact Turn.refl _ _ | refine Turn.drew ?_ | refine Turn.alloc ?_ _)
  · rw [if_neg h1] at hc
    by_cases h2 : k = 2
    · subst h2
      clear h1
      rw [if_pos rfl] at hc
      by_cases h : 0 ≤ a ∧ a ≤ 200 ∧ 1 ≤ n ∧ n ≤ 40 ∧ (x.size : Int) = 0
      · rw [if_pos h] at hc
        subst hc
        obtain ⟨h2, h3, h4, h5, h6⟩ := h
        go_enter Try.func30, Try.ntmps30
        go_wp2_with fail
        go_region
        go_wp2_with fail
        go_ret
        refine ⟨rfl, one_box ?_⟩
        repeat (first | exact Turn.refl _ _ | refine Turn.drew ?_ | refine Turn.alloc ?_ _)
      · rw [if_neg h] at hc
        subst hc
        rcases ends4 h with h2 | ⟨h2, h3⟩ | ⟨h2, h3, h4⟩ | ⟨h2, h3, h4, h5⟩ | ⟨h2, h3, h4, h5, h6⟩
        all_goals
          clear h
          go_enter Try.func30, Try.ntmps30
          go_wp2_with fail
          go_region
          go_wp2_with fail
          go_ret
          refine ⟨rfl, one_box ?_⟩
          repeat (first | exact Turn.refl _ _ | refine Turn.drew ?_ | refine Turn.alloc ?_ _)
    · rw [if_neg h2] at hc
      subst hc
      have k1 : (k != 1) = true := by simpa using h1
      have k2 : (k != 2) = true := by simpa using h2
      clear h1 h2
      go_enter Try.func30, Try.ntmps30
      go_wp2_with fail
      go_ret
      refine ⟨rfl, one_box ?_⟩
      repeat (first | exact Turn.refl _ _ | refine Turn.drew ?_ | refine Turn.alloc ?_ _)

/-- What insert leaves, the error. -/
def insT (s : ByteArray) (n : Nat) (x : ByteArray) : ByteArray × Int :=
  if s.size < n then (s, 6) else if 200 < s.size + x.size then (s, 7) else (s.extract 0 n ++ x ++ s.extract n s.size, 0)

def InsPost (d : Nat) (w : World) (r : ByteArray × Int) (en : Ending) (w' : World) : Prop :=
  en = .returned (.int .i64 r.2) ∧ Dc w' d r.1 ∧ w.grownBy w' (some d)

set_option maxRecDepth 100000 in
set_option maxHeartbeats 400000 in
theorem insert_calls (d n : Nat) (s x : ByteArray) (w : World) (h : Dc w d s) (hs : s.size ≤ 200) (hn : n ≤ 200) (hx : x.size ≤ 40) :
    Calls Try.prog 58 #[.pointer (some ⟨d, 0, none⟩), .int .i64 n, .string x] w fun en w' => InsPost d w (insT s n x) en w' := by
  have c0 : w.cell? ⟨d, 0, none⟩ = some (.string s) := h.cell 0
  have f0 := h.free 0
  have H := Lib.hid h
  clear h
  by_cases h1 : s.size < n
  · have E : Hid (insT s n x = (s, 6)) := if_pos h1
    have h1' : (s.size : Int) < (n : Int) := by omega
    go_enter Try.func58, Try.ntmps58
    go_wp2_with fail
    go_ret
    rw [E.out]
    exact ⟨rfl, H.out, grown_refl _ _⟩
  · by_cases h2 : 200 < s.size + x.size
    · have E : Hid (insT s n x = (s, 7)) := by show _ = _; unfold insT; rw [if_neg h1, if_pos h2]
      have h1' : (n : Int) ≤ (s.size : Int) := by omega
      have h2' : 200 < (s.size : Int) + (x.size : Int) := by omega
      go_enter Try.func58, Try.ntmps58
      go_wp2_with fail
      go_ret
      rw [E.out]
      exact ⟨rfl, H.out, grown_refl _ _⟩
    · have E : Hid (insT s n x = (s.extract 0 n ++ x ++ s.extract n s.size, 0)) := by show _ = _; unfold insT; rw [if_neg h1, if_neg h2]
      have h1' : (n : Int) ≤ (s.size : Int) := by omega
      have h1'' : n ≤ s.size := by omega
      have h2' : (s.size : Int) + (x.size : Int) ≤ 200 := by omega
      have h0 : (0 : Int) ≤ (n : Int) := by omega
      go_enter Try.func58, Try.ntmps58
      go_wp2_with fail
      go_region
      go_wp2_with fail
      go_ret
      rw [E.out]
      exact ⟨rfl, (H.out.put 0 _).drew, grown_drew (grown_own (grown_refl w _) 0 _)⟩

/-- What cut leaves, what went, the error. -/
def cutT (s : ByteArray) (n k : Nat) : ByteArray × ByteArray × Int :=
  if s.size < n + k then (s, ⟨#[]⟩, 6) else (s.extract 0 n ++ s.extract (n + k) s.size, s.extract n (n + k), 0)

def DoPost (d : Nat) (w : World) (r : ByteArray × ByteArray × Int) (en : Ending) (w' : World) : Prop :=
  en = .returned (.tuple #[.string r.2.1, .int .i64 r.2.2]) ∧ Dc w' d r.1 ∧ w.grownBy w' (some d)

set_option maxRecDepth 100000 in
set_option maxHeartbeats 400000 in
theorem cut_calls (d n k : Nat) (s : ByteArray) (w : World) (h : Dc w d s) (hs : s.size ≤ 200) (hn : n ≤ 200) (hk : k ≤ 40) :
    Calls Try.prog 59 #[.pointer (some ⟨d, 0, none⟩), .int .i64 n, .int .i64 k] w fun en w' => DoPost d w (cutT s n k) en w' := by
  have c0 : w.cell? ⟨d, 0, none⟩ = some (.string s) := h.cell 0
  have f0 := h.free 0
  have H := Lib.hid h
  clear h
  by_cases h1 : s.size < n + k
  · have E : Hid (cutT s n k = (s, ⟨#[]⟩, 6)) := if_pos h1
    have h1' : (s.size : Int) < (n : Int) + (k : Int) := by omega
    go_enter Try.func59, Try.ntmps59
    go_wp2_with fail
    go_ret2
    rw [E.out]
    exact ⟨rfl, H.out, grown_refl _ _⟩
  · have E : Hid (cutT s n k = (s.extract 0 n ++ s.extract (n + k) s.size, s.extract n (n + k), 0)) := if_neg h1
    have h1' : (n : Int) + (k : Int) ≤ (s.size : Int) := by omega
    have h3' : (n : Int) ≤ (s.size : Int) := by omega
    have h0 : (0 : Int) ≤ (n : Int) := by omega
    have h4 : (0 : Int) ≤ (k : Int) := by omega
    have h5 : (n : Int) ≤ (n : Int) + (k : Int) := by omega
    have h6 : (0 : Int) ≤ (n : Int) + (k : Int) := by omega
    have e1 : ((n : Int) + (k : Int)).toNat = n + k := by omega
    go_enter Try.func59, Try.ntmps59
    go_wp2_with fail
    go_region
    go_wp2_with fail
    go_ret2
    rw [E.out]
    exact ⟨rfl, (H.out.put 0 _).drew, grown_drew (grown_own (grown_refl w _) 0 _)⟩

/-- What Do leaves, what went, the error. -/
def doT (s : ByteArray) (k a : Int) (x : ByteArray) (n : Int) : ByteArray × ByteArray × Int :=
  if chk k a x.size n = 0 then (if k = 1 then ((insT s a.toNat x).1, ⟨#[]⟩, (insT s a.toNat x).2) else cutT s a.toNat n.toNat) else (s, ⟨#[]⟩, chk k a x.size n)

theorem chk_ok {k a m n : Int} (h : chk k a m n = 0) : 0 ≤ a ∧ a ≤ 200 ∧ ((k = 1 ∧ 1 ≤ m ∧ m ≤ 40 ∧ n = 0) ∨ (k = 2 ∧ 1 ≤ n ∧ n ≤ 40 ∧ m = 0)) := by
  unfold chk at h
  split at h
  · split at h
    · omega
    · omega
  · split at h
    · split at h
      · omega
      · omega
    · omega

set_option maxRecDepth 100000 in
set_option maxHeartbeats 400000 in
theorem do_calls (d : Nat) (s : ByteArray) (k a : Int) (x : ByteArray) (n : Int) (w : World) (h : Dc w d s) (hs : s.size ≤ 200) (hx : x.size ≤ maxLen) :
    Calls Try.prog 56 #[.pointer (some ⟨d, 0, none⟩), .agg #[.int .i64 k, .int .i64 a, .string x, .int .i64 n]] w fun en w' => DoPost d w (doT s k a x n) en w' := by
  have H := Lib.hid h
  have hd := h.lt
  clear h
  by_cases hc : chk k a x.size n = 0
  · obtain ⟨ha0, ha1, ho⟩ := chk_ok hc
    obtain ⟨m, em⟩ : ∃ m : Nat, a = (m : Int) := ⟨a.toNat, by omega⟩
    have HC := Lib.hid hc
    clear hc
    subst em
    rcases ho with ⟨rfl, h1, h2, rfl⟩ | ⟨rfl, h1, h2, h3⟩
    · have E : Hid (doT s 1 m x 0 = ((insT s m x).1, ⟨#[]⟩, (insT s m x).2)) := by show _ = _; unfold doT; rw [if_pos HC.out, if_pos rfl]; rfl
      go_enter Try.func56, Try.ntmps56
      go_wp2_with fail
      refine (check_calls _ _ _ _ _ hx).mono ?_
      rw [HC.out]
      rintro en w1 ⟨rfl, b1⟩
      have hz := b1.size
      simp at hz
      have G1 : Hid (w.grownBy w1 (some d)) := grown_trans (grown_alloc (grown_refl w _) _) (grown_below b1 _ (Nat.le_refl _))
      have H1 : Hid (Dc w1 d s) := (H.out.alloc _).below b1 (by simp; omega)
      have B1 : Has w1 w.heap.size 29 #[.int .i64 1, .int .i64 m, .string x, .int .i64 0] := (Has.made _ _ _).below b1 (by simp)
      have b10 : w1.cell? ⟨w.heap.size, 0, none⟩ = some (.int .i64 1) := B1.cell 0
      have b11 : w1.cell? ⟨w.heap.size, 1, none⟩ = some (.int .i64 m) := B1.cell 1
      have b12 : w1.cell? ⟨w.heap.size, 2, none⟩ = some (.string x) := B1.cell 2
      clear b1 B1 HC
      go_wp2_with fail
      refine (insert_calls d m s x w1 H1.out hs (by omega) (by omega)).mono ?_
      rintro en w2 ⟨rfl, h2, g2⟩
      have H2 := Lib.hid h2
      have G2 := Lib.hid (grown_trans G1.out g2)
      clear h2 g2
      go_wp2_with fail
      go_ret2
      rw [E.out]
      exact ⟨rfl, H2.out, G2.out⟩
    · obtain ⟨l, el⟩ : ∃ l : Nat, n = (l : Int) := ⟨n.toNat, by omega⟩
      subst el
      have E : Hid (doT s 2 m x l = cutT s m l) := by show _ = _; unfold doT; rw [if_pos HC.out, if_neg (by decide)]; rfl
      have H3 := Lib.hid h3
      clear h3
      go_enter Try.func56, Try.ntmps56
      go_wp2_with fail
      refine (check_calls _ _ _ _ _ hx).mono ?_
      rw [HC.out]
      rintro en w1 ⟨rfl, b1⟩
      have hz := b1.size
      simp at hz
      have G1 : Hid (w.grownBy w1 (some d)) := grown_trans (grown_alloc (grown_refl w _) _) (grown_below b1 _ (Nat.le_refl _))
      have H1 : Hid (Dc w1 d s) := (H.out.alloc _).below b1 (by simp; omega)
      have B1 : Has w1 w.heap.size 29 #[.int .i64 2, .int .i64 m, .string x, .int .i64 l] := (Has.made _ _ _).below b1 (by simp)
      have b10 : w1.cell? ⟨w.heap.size, 0, none⟩ = some (.int .i64 2) := B1.cell 0
      have b11 : w1.cell? ⟨w.heap.size, 1, none⟩ = some (.int .i64 m) := B1.cell 1
      have b13 : w1.cell? ⟨w.heap.size, 3, none⟩ = some (.int .i64 l) := B1.cell 3
      clear b1 B1 HC
      go_wp2_with fail
      refine (cut_calls d m l s w1 H1.out hs (by omega) (by omega)).mono ?_
      rintro en w2 ⟨rfl, h2, g2⟩
      have H2 := Lib.hid h2
      have G2 := Lib.hid (grown_trans G1.out g2)
      clear h2 g2
      go_wp2_with fail
      go_ret2
      rw [E.out]
      exact ⟨rfl, H2.out, G2.out⟩
  · have E : Hid (doT s k a x n = (s, ⟨#[]⟩, chk k a x.size n)) := if_neg hc
    generalize hq : chk k a x.size n = c at *
    have hc' : (c != 0) = true := by simpa using hc
    have HQ := Lib.hid hq
    clear hq hc
    go_enter Try.func56, Try.ntmps56
    go_wp2_with fail
    refine (check_calls _ _ _ _ _ hx).mono ?_
    rw [HQ.out]
    rintro en w1 ⟨rfl, b1⟩
    have hz := b1.size
    simp at hz
    have G1 : Hid (w.grownBy w1 (some d)) := grown_trans (grown_alloc (grown_refl w _) _) (grown_below b1 _ (Nat.le_refl _))
    have H1 : Hid (Dc w1 d s) := (H.out.alloc _).below b1 (by simp; omega)
    clear b1 HQ
    go_wp2_with fail
    go_ret2
    rw [E.out]
    exact ⟨rfl, H1.out, G1.out⟩

theorem dnew_calls (w : World) : Calls Try.prog 16 #[] w fun en w' => en = .returned (.pointer (some ⟨w.heap.size, 0, none⟩)) ∧ Dc w' w.heap.size ⟨#[]⟩ ∧ w.grownBy w' none := by
  go_enter Try.func16, Try.ntmps16
  go_wp2_with fail
  go_ret
  exact ⟨rfl, Has.made _ _ _, grown_alloc (grown_refl w _) _⟩

end Go.Proofs.Ytndnjeahepahkaa.text
end

section
/- text: Cut, Few, Inverse; an op as a struct; what Inverse takes back. -/
namespace Go.Proofs.Ytndnjeahepahkaa.text
open Go.RowKit

/-- At most n bytes of s. -/
def cutB (s : ByteArray) (n : Nat) : ByteArray := s.extract 0 n
theorem cutB_size (s : ByteArray) (n : Nat) : (cutB s n).size ≤ n := by
  unfold cutB
  rw [ByteArray.size_extract]
  omega

set_option maxHeartbeats 400000 in
theorem tcut_any (s : ByteArray) (n : Nat) (w : World) (hn : n ≤ 1000000) (_hs : s.size ≤ maxLen) :
    Calls Try.prog 33 #[.string s, .int .i64 n] w fun en w' => en = .returned (.string (cutB s n)) ∧ w = w' := by
  unfold maxLen at _hs
  by_cases h : n < s.size
  · have E : Hid (cutB s n = s.extract 0 n) := rfl
    go_enter Try.func33, Try.ntmps33
    go_wp2
    go_ret
    rw [E.out]
    exact ⟨rfl, rfl⟩
  · have E : Hid (cutB s n = s) := by
      show _ = _
      apply ByteArray.ext
      simp [cutB, ByteArray.data_extract]
      omega
    go_enter Try.func33, Try.ntmps33
    go_wp2
    go_ret
    rw [E.out]
    exact ⟨rfl, rfl⟩

set_option maxRecDepth 100000 in
set_option maxHeartbeats 400000 in
theorem few_calls (k a n : Int) (x : ByteArray) (w : World) (hx : x.size ≤ maxLen) :
    Calls Try.prog 19 #[.agg #[.int .i64 k, .int .i64 a, .string x, .int .i64 n]] w fun en w' => en = .returned (.agg #[.int .i64 k, .int .i64 a, .string (cutB x 45), .int .i64 n]) ∧ Below w.heap.size w w' := by
  go_enter Try.func19, Try.ntmps19
  go_wp2_with fail
  refine (tcut_any x 45 _ (by omega) hx).mono ?_
  rintro en w1 ⟨rfl, rfl⟩
  go_wp2_with fail
  refine bodyPost_ret (v := .agg #[.int .i64 k, .int .i64 a, .string (cutB x 45), .int .i64 n]) (by simp [results, Try.results19, go_sem]) rfl ⟨rfl, one_box ?_⟩
  repeat (first | exact Turn.refl _ _ | refine Turn.drew ?_ | refine Turn.alloc ?_ _ | refine Turn.put ?_ (fun h => by omega) _ _)

set_option maxRecDepth 100000 in
set_option maxHeartbeats 400000 in
theorem inv1_calls (a n : Int) (x g : ByteArray) (w : World) :
    Calls Try.prog 22 #[.agg #[.int .i64 1, .int .i64 a, .string x, .int .i64 n], .string g] w fun en w' => en = .returned (.agg #[.int .i64 2, .int .i64 a, .string ⟨#[]⟩, .int .i64 x.size]) ∧ Below w.heap.size w w' := by
  go_enter Try.func22, Try.ntmps22
  go_wp2_with fail
  refine bodyPost_ret (v := .agg #[.int .i64 2, .int .i64 a, .string ⟨#[]⟩, .int .i64 x.size]) (by simp [results, Try.results22, go_sem]) rfl ⟨rfl, one_box ?_⟩
  repeat (first | exact Turn.refl _ _ | refine Turn.drew ?_ | refine Turn.alloc ?_ _ | refine Turn.put ?_ (fun h => by omega) _ _)

set_option maxRecDepth 100000 in
set_option maxHeartbeats 400000 in
theorem inv2_calls (a n : Int) (x g : ByteArray) (w : World) :
    Calls Try.prog 22 #[.agg #[.int .i64 2, .int .i64 a, .string x, .int .i64 n], .string g] w fun en w' => en = .returned (.agg #[.int .i64 1, .int .i64 a, .string g, .int .i64 0]) ∧ Below w.heap.size w w' := by
  go_enter Try.func22, Try.ntmps22
  go_wp2_with fail
  refine bodyPost_ret (v := .agg #[.int .i64 1, .int .i64 a, .string g, .int .i64 0]) (by simp [results, Try.results22, go_sem]) rfl ⟨rfl, one_box ?_⟩
  repeat (first | exact Turn.refl _ _ | refine Turn.drew ?_ | refine Turn.alloc ?_ _ | refine Turn.put ?_ (fun h => by omega) _ _)

/-- An op. -/
structure OpV where
  k : Int
  a : Int
  x : ByteArray
  n : Int

def OpV.cells (o : OpV) : List Value := [.int .i64 o.k, .int .i64 o.a, .string o.x, .int .i64 o.n]
def OpV.chk (o : OpV) : Int := Go.Proofs.Ytndnjeahepahkaa.text.chk o.k o.a o.x.size o.n
def doV (s : ByteArray) (o : OpV) : ByteArray × ByteArray × Int := doT s o.k o.a o.x o.n

theorem bytes_eq {s t : ByteArray} (h : s.data.toList = t.data.toList) : s = t := by
  apply ByteArray.ext
  exact Array.toList_inj.1 h

theorem extract_list (s : ByteArray) (i j : Nat) : (s.extract i j).data.toList = (s.data.toList.take j).drop i := by
  simp only [ByteArray.data_extract, Array.toList_extract, List.extract_eq_take_drop, List.drop_take]

theorem append_list (s t : ByteArray) : (s ++ t).data.toList = s.data.toList ++ t.data.toList := by simp

theorem head_list (s : ByteArray) (n : Nat) : (s.extract 0 n).data.toList = s.data.toList.take n := by
  rw [extract_list, List.drop_zero]

theorem tail_list (s : ByteArray) (n : Nat) : (s.extract n s.size).data.toList = s.data.toList.drop n := by
  have h : s.data.toList.take s.size = s.data.toList := List.take_of_length_le (by simp)
  rw [extract_list, h]

/-- What was let in goes again. -/
theorem back_ins (s x : ByteArray) (n : Nat) (hn : n ≤ s.size) : let s' := s.extract 0 n ++ x ++ s.extract n s.size
    s'.size = s.size + x.size ∧ s'.extract 0 n ++ s'.extract (n + x.size) s'.size = s := by
  intro s'
  have hz : s'.size = s.size + x.size := by simp only [s', ByteArray.size_append, ByteArray.size_extract]; omega
  refine ⟨hz, bytes_eq ?_⟩
  have hl : s.data.toList.length = s.size := by simp
  have hx : x.data.toList.length = x.size := by simp
  have es : s'.data.toList = s.data.toList.take n ++ x.data.toList ++ s.data.toList.drop n := by simp only [s', append_list, head_list, tail_list]
  rw [append_list, head_list, tail_list, es]
  generalize s.data.toList = L at *
  generalize x.data.toList = X at *
  have h1 : (L.take n).length = n := by rw [List.length_take]; omega
  have e1 : (L.take n ++ X ++ L.drop n).take n = L.take n := by
    rw [List.append_assoc, List.take_append_of_le_length (by omega), List.take_of_length_le (by omega)]
  have e3 : (L.take n ++ X ++ L.drop n).drop (n + x.size) = L.drop n := by
    rw [List.drop_append_of_le_length (by rw [List.length_append]; omega), List.drop_eq_nil_of_le (by rw [List.length_append]; omega), List.nil_append]
  rw [e1, e3, List.take_append_drop]

/-- What went comes in again. -/
theorem back_cut (s : ByteArray) (n k : Nat) (hn : n + k ≤ s.size) : let s' := s.extract 0 n ++ s.extract (n + k) s.size
    s'.size + k = s.size ∧ (s.extract n (n + k)).size = k ∧ s'.extract 0 n ++ s.extract n (n + k) ++ s'.extract n s'.size = s := by
  intro s'
  have hz : s'.size + k = s.size := by simp only [s', ByteArray.size_append, ByteArray.size_extract]; omega
  refine ⟨hz, by rw [ByteArray.size_extract]; omega, bytes_eq ?_⟩
  have hl : s.data.toList.length = s.size := by simp
  have es : s'.data.toList = s.data.toList.take n ++ s.data.toList.drop (n + k) := by simp only [s', append_list, head_list, tail_list]
  rw [append_list, append_list, head_list, tail_list, extract_list, es]
  generalize s.data.toList = L at *
  have h1 : (L.take n).length = n := by rw [List.length_take]; omega
  have e1 : (L.take n ++ L.drop (n + k)).take n = L.take n := by
    rw [List.take_append_of_le_length (by omega), List.take_of_length_le (by omega)]
  have e2 : (L.take n ++ L.drop (n + k)).drop n = L.drop (n + k) := by
    rw [List.drop_append_of_le_length (by omega), List.drop_eq_nil_of_le (by omega), List.nil_append]
  rw [e1, e2]
  have e3 : (L.take (n + k)).drop n ++ L.drop (n + k) = L.drop n := by
    rw [List.drop_take, show n + k - n = k by omega, ← List.drop_drop, List.take_append_drop]
  rw [List.append_assoc, e3, List.take_append_drop]

/-- Behind an error nothing has changed. -/
theorem do_err {s : ByteArray} {o : OpV} (h : (doV s o).2.2 ≠ 0) : (doV s o).1 = s ∧ (doV s o).2.1 = ⟨#[]⟩ := by
  unfold doV doT at h ⊢
  split at h
  · rename_i hc
    rw [if_pos hc]
    split at h
    · rename_i h1
      rw [if_pos h1]
      unfold insT at h ⊢
      split at h
      · rename_i h2; rw [if_pos h2]; exact ⟨rfl, rfl⟩
      · rename_i h2
        rw [if_neg h2]
        split at h
        · rename_i h3; rw [if_pos h3]; exact ⟨rfl, rfl⟩
        · exact absurd rfl h
    · rename_i h1
      rw [if_neg h1]
      unfold cutT at h ⊢
      split at h
      · rename_i h2; rw [if_pos h2]; exact ⟨rfl, rfl⟩
      · exact absurd rfl h
  · rename_i hc
    rw [if_neg hc]
    exact ⟨rfl, rfl⟩

/-- The op that takes back one that was done, by what went. -/
def inv (o : OpV) (g : ByteArray) : OpV := if o.k = 1 then ⟨2, o.a, ⟨#[]⟩, o.x.size⟩ else ⟨1, o.a, g, 0⟩

theorem do_size {s : ByteArray} {o : OpV} (hs : s.size ≤ 200) : (doV s o).1.size ≤ 200 := by
  unfold doV doT
  split
  · split
    · unfold insT
      split
      · exact hs
      · split
        · exact hs
        · rename_i h1 h2
          simp only [ByteArray.size_append, ByteArray.size_extract]
          omega
    · unfold cutT
      split
      · exact hs
      · rename_i h1
        simp only [ByteArray.size_append, ByteArray.size_extract]
        omega
  · exact hs

/-- BACK: behind an op that was OK its Inverse is OK, and makes the document what it was. -/
theorem do_back {s : ByteArray} {o : OpV} (hs : s.size ≤ 200) (h : (doV s o).2.2 = 0) :
    (doV (doV s o).1 (inv o (doV s o).2.1)).1 = s ∧ (doV (doV s o).1 (inv o (doV s o).2.1)).2.2 = 0 ∧ (inv o (doV s o).2.1).chk = 0 ∧ (inv o (doV s o).2.1).x.size ≤ 200 ∧ (o.k = 1 ∨ o.k = 2) := by
  obtain ⟨k, a, x, n⟩ := o
  unfold doV at h ⊢
  simp only at h ⊢
  have hc : chk k a x.size n = 0 := by
    unfold doT at h
    split at h
    · assumption
    · exact h
  obtain ⟨ha0, ha1, ho⟩ := chk_ok hc
  rcases ho with ⟨rfl, h1, h2, rfl⟩ | ⟨rfl, h1, h2, h3⟩
  · have ei : ∀ g, inv ⟨1, a, x, 0⟩ g = ⟨2, a, ⟨#[]⟩, x.size⟩ := fun g => if_pos rfl
    have ed : doT s 1 a x 0 = ((insT s a.toNat x).1, ⟨#[]⟩, (insT s a.toNat x).2) := by unfold doT; rw [if_pos hc, if_pos rfl]
    rw [ed] at h ⊢
    rw [ei]
    simp only at h ⊢
    have e0 : ¬ s.size < a.toNat := by
      intro k
      unfold insT at h
      rw [if_pos k] at h
      exact absurd (show (6 : Int) = 0 from h) (by decide)
    have e1 : ¬ 200 < s.size + x.size := by
      intro k
      unfold insT at h
      rw [if_neg e0, if_pos k] at h
      exact absurd (show (7 : Int) = 0 from h) (by decide)
    have es : insT s a.toNat x = (s.extract 0 a.toNat ++ x ++ s.extract a.toNat s.size, 0) := by unfold insT; rw [if_neg e0, if_neg e1]
    obtain ⟨b1, b2⟩ := back_ins s x a.toNat (by omega)
    rw [es]
    simp only
    generalize s.extract 0 a.toNat ++ x ++ s.extract a.toNat s.size = s' at b1 b2
    have hc2 : chk 2 a (ByteArray.size ⟨#[]⟩ : Nat) (x.size : Int) = 0 := by
      unfold chk
      rw [if_neg (by decide), if_pos rfl, if_pos ⟨ha0, ha1, h1, h2, rfl⟩]
    have ed2 : doT s' 2 a ⟨#[]⟩ x.size = cutT s' a.toNat x.size := by unfold doT; rw [if_pos hc2, if_neg (by decide)]; rfl
    have ec : cutT s' a.toNat x.size = (s'.extract 0 a.toNat ++ s'.extract (a.toNat + x.size) s'.size, s'.extract a.toNat (a.toNat + x.size), 0) := by unfold cutT; rw [if_neg (by omega)]
    rw [ed2, ec]
    exact ⟨b2, rfl, hc2, by decide, .inl trivial⟩
  · have ei : ∀ g, inv ⟨2, a, x, n⟩ g = ⟨1, a, g, 0⟩ := fun g => if_neg (show ¬ (2 : Int) = 1 by decide)
    have ed : doT s 2 a x n = cutT s a.toNat n.toNat := by unfold doT; rw [if_pos hc, if_neg (by decide)]
    rw [ed] at h ⊢
    rw [ei]
    have e0 : ¬ s.size < a.toNat + n.toNat := by
      intro k
      unfold cutT at h
      rw [if_pos k] at h
      exact absurd (show (6 : Int) = 0 from h) (by decide)
    have es : cutT s a.toNat n.toNat = (s.extract 0 a.toNat ++ s.extract (a.toNat + n.toNat) s.size, s.extract a.toNat (a.toNat + n.toNat), 0) := by unfold cutT; rw [if_neg e0]
    obtain ⟨b1, b2, b3⟩ := back_cut s a.toNat n.toNat (by omega)
    rw [es]
    simp only
    generalize s.extract 0 a.toNat ++ s.extract (a.toNat + n.toNat) s.size = s' at b1 b3
    generalize s.extract a.toNat (a.toNat + n.toNat) = g at b2 b3
    have hc2 : chk 1 a (g.size : Int) 0 = 0 := by
      unfold chk
      rw [if_pos rfl, if_pos ⟨ha0, ha1, by omega, by omega, rfl⟩]
    have ed2 : doT s' 1 a g 0 = ((insT s' a.toNat g).1, ⟨#[]⟩, (insT s' a.toNat g).2) := by unfold doT; rw [if_pos hc2, if_pos rfl]
    have ec : insT s' a.toNat g = (s'.extract 0 a.toNat ++ g ++ s'.extract a.toNat s'.size, 0) := by unfold insT; rw [if_neg (by omega), if_neg (by omega)]
    rw [ed2, ec]
    exact ⟨b3, rfl, hc2, by show g.size ≤ 200; omega, .inr trivial⟩

end Go.Proofs.Ytndnjeahepahkaa.text
end

section
/- text: Save and Load; what is saved is loaded again. -/
namespace Go.Proofs.Ytndnjeahepahkaa.text
open Go.RowKit

/-- The bytes of a text. -/
def encT (s : ByteArray) : ByteArray := ⟨(enc s.size ++ s.data.toList).toArray⟩

theorem encT_eq (s : ByteArray) : (⟨(enc s.size).toArray⟩ : ByteArray) ++ s = encT s := by
  apply bytes_eq
  simp [encT]

theorem encT_size (s : ByteArray) (h : s.size ≤ 1000000) : (encT s).size ≤ 1000011 := by
  have h1 := enc_len s.size (by omega)
  have h2 : s.data.toList.length = s.size := by simp
  unfold encT
  rw [text_size, List.length_append]
  omega

theorem wr_made (w : World) : Wr (w.alloc (.cells #[.slice none 0 0] 116)) w.heap.size none [] :=
  ⟨_, Has.made _ _ _, World.ownsRow_nil _ 0 _ 1, rfl, by intro h; cases h⟩

set_option maxRecDepth 100000 in
set_option maxHeartbeats 400000 in
theorem dsave_calls (d : Nat) (s : ByteArray) (w : World) (h : Dc w d s) (hs : s.size ≤ 200) :
    Calls Try.prog 57 #[.pointer (some ⟨d, 0, none⟩)] w fun en w' => en = .returned (.string (encT s)) ∧ Below w.heap.size w w' := by
  have c0 : w.cell? ⟨d, 0, none⟩ = some (.string s) := h.cell 0
  have hd := h.lt
  clear h
  go_enter Try.func57, Try.ntmps57
  go_wp2_with fail
  refine (wstr_any w.heap.size none [] s _ (wr_made w) (by simp) (by omega)).mono ?_
  rintro en w1 ⟨rfl, r1, h1, hr1, t1⟩
  rw [List.nil_append] at h1
  have B1 : Below w.heap.size w w1 := by
    have h0 : Below w.heap.size w (w.alloc (.cells #[.slice none 0 0] 116)) := (Below.refl _ _).alloc (Nat.le_refl _) _
    exact h0.trans (t1.below (by simp) (fun j hj h => by rcases h with h | h; (omega); (cases h)))
  have H1 := Lib.hid h1
  have HB := Lib.hid B1
  clear h1 hr1 t1 B1
  go_wp2_with fail
  refine (text_any _ _ _ _ H1.out).mono ?_
  rintro en w2 ⟨rfl, rfl⟩
  go_wp2_with fail
  go_ret
  exact ⟨rfl, HB.out⟩

theorem strN_encT (s : ByteArray) (hs : s.size ≤ 200) : strN 200 (encT s) 0 = (s, ⟨#[]⟩, 0) := by
  have e : dec 0 0 (encT s).data.toList = (0, s.size, (enc s.size).length) := dec_of_enc s.size (by omega) s.data.toList
  have hu : upto 200 (encT s) 0 = (s.size, s, 0) := by
    unfold upto
    simp only [e]
    rw [if_pos (by omega)]
    have hr : restOf (encT s) (0, s.size, (enc s.size).length) = s := by
      unfold restOf
      rw [if_pos rfl]
      have := extract_drop (enc s.size) s.data.toList
      unfold encT
      rw [this]
    rw [hr]
    rfl
  unfold strN
  rw [hu]
  unfold takeN
  rw [if_pos (Nat.le_refl _)]
  have e1 : s.extract 0 s.size = s := by
    apply bytes_eq
    rw [head_list, List.take_of_length_le (by simp)]
  have e2 : s.extract s.size s.size = ⟨#[]⟩ := by
    apply bytes_eq
    rw [tail_list, List.drop_eq_nil_of_le (by simp)]
  rw [e1, e2]

def LoadPost (w : World) (s : ByteArray) (en : Ending) (w' : World) : Prop :=
  ∃ d, en = .returned (.tuple #[.pointer (some ⟨d, 0, none⟩), .int .i64 0]) ∧ w.heap.size ≤ d ∧ Dc w' d s ∧ Below w.heap.size w w'

set_option maxRecDepth 100000 in
set_option maxHeartbeats 400000 in
theorem dload_calls (s : ByteArray) (w : World) (hs : s.size ≤ 200) :
    Calls Try.prog 66 #[.string (encT s)] w fun en w' => LoadPost w s en w' := by
  have hz : (encT s).size ≤ maxLen := by have := encT_size s (by omega); unfold maxLen; omega
  go_enter Try.func66, Try.ntmps66
  go_wp2_with fail
  refine (read_any (encT s) w).mono ?_
  rintro en w1 ⟨rfl, h1, b1⟩
  have H1 := Lib.hid h1
  have B1 := Lib.hid b1
  clear h1 b1
  go_wp2_with fail
  refine (str_any _ (encT s) 0 200 w1 hz H1.out (by omega) (by omega)).mono ?_
  rw [strN_encT s hs]
  rintro en w2 ⟨rfl, h2, g2⟩
  have H2 := Lib.hid h2
  have T2 : Hid (Turn (fun j => w.heap.size ≤ j) w w2) := (Turn.of_below (F := fun j => w.heap.size ≤ j) B1.out (fun _ _ e => e)).grown g2 (fun j e _ => by injection e with e; omega)
  clear h2 g2 H1 B1
  go_wp2_with fail
  have hEnd : endE ⟨#[]⟩ 0 = 0 := rfl
  have hlt := H2.out.lt
  refine (end_any w.heap.size ⟨#[]⟩ 0 _ (by exact H2.out.alloc _)).mono ?_
  rw [hEnd]
  rintro en w3 ⟨rfl, _, g3⟩
  have D3 : Hid (Dc w3 w2.heap.size s) := Lib.hid ((Has.made w2 _ _).grown g3 (by intro e; injection e with e; omega))
  have T3 : Hid (Turn (fun j => w.heap.size ≤ j) w w3) := (T2.out.alloc _).grown g3 (fun j e _ => by injection e with e; omega)
  clear g3 hEnd H2 T2
  go_wp2_with fail
  go_ret2
  exact ⟨_, rfl, Nat.le_of_lt hlt, D3.out, T3.out.below (Nat.le_refl _) (fun j hj e => by omega)⟩

end Go.Proofs.Ytndnjeahepahkaa.text
end

section
/- object: the methods of the three objects behind their interface; Kind, Do, Clone of each; New. -/
namespace Go.Proofs.Ytndnjeahepahkaa.object
open Go.RowKit Go.Maps Go.Sort

/-- An object as its struct of one pointer. -/
abbrev pv (d : Nat) : Value := .agg #[.pointer (some ⟨d, 0, none⟩)]

theorem m_dkind (x d : Nat) (w : World) : (method (x + 1) 61 (pv d) "Kind").run Try.prog w = .ok (65, pv d) w := by kernel_rfl
theorem m_ddo (x d : Nat) (w : World) : (method (x + 1) 61 (pv d) "Do").run Try.prog w = .ok (64, pv d) w := by kernel_rfl
theorem m_dclone (x d : Nat) (w : World) : (method (x + 1) 61 (pv d) "Clone").run Try.prog w = .ok (63, pv d) w := by kernel_rfl
theorem m_dsave (x d : Nat) (w : World) : (method (x + 1) 61 (pv d) "Save").run Try.prog w = .ok (57, .pointer (some ⟨d, 0, none⟩)) w := by kernel_rfl
theorem m_akind (x d : Nat) (w : World) : (method (x + 1) 65 (pv d) "Kind").run Try.prog w = .ok (103, pv d) w := by kernel_rfl
theorem m_ado (x d : Nat) (w : World) : (method (x + 1) 65 (pv d) "Do").run Try.prog w = .ok (102, pv d) w := by kernel_rfl
theorem m_aclone (x d : Nat) (w : World) : (method (x + 1) 65 (pv d) "Clone").run Try.prog w = .ok (101, pv d) w := by kernel_rfl
theorem m_asave (x d : Nat) (w : World) : (method (x + 1) 65 (pv d) "Save").run Try.prog w = .ok (75, .pointer (some ⟨d, 0, none⟩)) w := by kernel_rfl
theorem m_gkind (x d : Nat) (w : World) : (method (x + 1) 69 (pv d) "Kind").run Try.prog w = .ok (118, pv d) w := by kernel_rfl
theorem m_gdo (x d : Nat) (w : World) : (method (x + 1) 69 (pv d) "Do").run Try.prog w = .ok (117, pv d) w := by kernel_rfl
theorem m_gclone (x d : Nat) (w : World) : (method (x + 1) 69 (pv d) "Clone").run Try.prog w = .ok (116, pv d) w := by kernel_rfl
theorem m_gsave (x d : Nat) (w : World) : (method (x + 1) 69 (pv d) "Save").run Try.prog w = .ok (107, .pointer (some ⟨d, 0, none⟩)) w := by kernel_rfl

set_option maxHeartbeats 400000 in
theorem dkind_calls (v : Nat) (w : World) : Calls Try.prog 65 #[pv v] w fun en w' => en = .returned (.int .i64 1) ∧ Below w.heap.size w w' := by
  go_enter Try.func65, Try.ntmps65
  go_wp2_with fail
  go_ret
  exact ⟨rfl, new_box _ _⟩
set_option maxHeartbeats 400000 in
theorem akind_calls (v : Nat) (w : World) : Calls Try.prog 103 #[pv v] w fun en w' => en = .returned (.int .i64 2) ∧ Below w.heap.size w w' := by
  go_enter Try.func103, Try.ntmps103
  go_wp2_with fail
  go_ret
  exact ⟨rfl, new_box _ _⟩
set_option maxHeartbeats 400000 in
theorem gkind_calls (v : Nat) (w : World) : Calls Try.prog 118 #[pv v] w fun en w' => en = .returned (.int .i64 3) ∧ Below w.heap.size w w' := by
  go_enter Try.func118, Try.ntmps118
  go_wp2_with fail
  go_ret
  exact ⟨rfl, new_box _ _⟩

/-- An op. -/
structure OpO where
  k : Int
  t : text.OpV
  l : OpL
  s : stock.OpS

def OpO.cells (o : OpO) : Array Value :=
  #[.int .i64 o.k, .int .i64 o.t.k, .int .i64 o.t.a, .string o.t.x, .int .i64 o.t.n, .int .i64 o.l.k, .string o.l.s, .string o.l.t, .int .i64 o.l.n, .int .i64 o.s.k, .string o.s.s, .int .i64 o.s.n]
def OpO.Short (o : OpO) : Prop := o.t.x.size ≤ maxLen ∧ o.l.Short ∧ o.s.Short

/-- What Do answers. -/
abbrev rv (e : Int) (g : ByteArray) : Value := .agg #[.int .i64 e, .string g]

theorem tdo_any (d : Nat) (s : ByteArray) (o : text.OpV) (w : World) (h : text.Dc w d s) (hs : s.size ≤ 200) (hx : o.x.size ≤ maxLen) :
    Calls Try.prog 56 #[.pointer (some ⟨d, 0, none⟩), .agg #[.int .i64 o.k, .int .i64 o.a, .string o.x, .int .i64 o.n]] w fun en w' => text.DoPost d w (text.doV s o) en w' := text.do_calls d s o.k o.a o.x o.n w h hs hx

set_option maxRecDepth 100000 in
set_option maxHeartbeats 1000000 in
theorem ddo_other (d : Nat) (o : OpO) (w : World) (hk : o.k ≠ 1) :
    Calls Try.prog 64 #[pv d, .agg o.cells] w fun en w' => en = .returned (rv 5 ⟨#[]⟩) ∧ Below w.heap.size w w' := by
  obtain ⟨k, t, l, z⟩ := o
  have hk' : (k != 1) = true := by simpa using hk
  clear hk
  unfold OpO.cells
  go_enter Try.func64, Try.ntmps64
  go_wp2_with fail
  refine bodyPost_ret (v := rv 5 ⟨#[]⟩) (by simp [results, Try.results64, go_sem]) rfl ⟨rfl, turn_box ?_⟩
  repeat (first | exact Turn.refl _ _ | refine Turn.drew ?_ | refine Turn.alloc ?_ _ | refine Turn.put ?_ (fun h => by omega) _ _)

set_option maxRecDepth 100000 in
set_option maxHeartbeats 1000000 in
theorem ddo_calls (d : Nat) (s : ByteArray) (o : OpO) (w : World) (h : text.Dc w d s) (hs : s.size ≤ 200) (hk : o.k = 1) (ho : o.Short) :
    Calls Try.prog 64 #[pv d, .agg o.cells] w fun en w' => en = .returned (rv (text.doV s o.t).2.2 (text.doV s o.t).2.1) ∧ text.Dc w' d (text.doV s o.t).1 ∧ w.grownBy w' (some d) := by
  obtain ⟨k, t, l, z⟩ := o
  obtain rfl : k = 1 := hk
  obtain ⟨hx, hl, hz⟩ := ho
  have hx' : t.x.size ≤ maxLen := hx
  have hl' : l.Short := hl
  have hz' : z.Short := hz
  have H := Lib.hid h
  have hlt : Hid (d < w.heap.size) := h.lt
  clear h
  clear hx hl hz
  unfold OpO.cells
  go_enter Try.func64, Try.ntmps64
  go_wp2_with fail
  refine callsName (fun W hW => ?_)
  obtain ⟨p, ep⟩ : ∃ p, p = w.heap.size + 2 := ⟨_, rfl⟩
  have HP : Hid (Has W p 40 #[.int .i64 0, .string ⟨#[]⟩]) := by show Has _ _ _ _; rw [← hW, ep]; exact made_at _ _ (by simp)
  have GW : Hid (w.grownBy W (some d)) := by show World.grownBy _ _ _; rw [← hW]; exact grown_alloc (grown_alloc (grown_alloc (grown_refl w _) _) _) _
  have HW : Hid (text.Dc W d s) := by show Has _ _ _ _; rw [← hW]; exact ((H.out.alloc _).alloc _).alloc _
  have hpd : p ≠ d := by have := hlt.out; omega
  have hwp : w.heap.size ≤ p := by omega
  rw [← ep]
  clear hW ep
  refine (tdo_any d s t W HW.out hs hx').mono ?_
  rintro en w1 ⟨rfl, h1, g1⟩
  have HP1 : Hid (Has w1 p 40 #[.int .i64 0, .string ⟨#[]⟩]) := Lib.hid (HP.out.grown g1 (by intro e; injection e with e; exact hpd e))
  have G1 := Lib.hid (grown_trans GW.out g1)
  have H1 := Lib.hid h1
  have f0 : w1.frozen? ⟨p, 0, none⟩ = false := HP1.out.free 0
  have f1 : w1.frozen? ⟨p, 1, none⟩ = false := HP1.out.free 1
  have y0 : w1.cell? ⟨p, 0, none⟩ = some (.int .i64 0) := HP1.out.cell 0
  have y1 : w1.cell? ⟨p, 1, none⟩ = some (.string ⟨#[]⟩) := HP1.out.cell 1
  clear h1 g1 HP GW
  go_wp2_with fail
  have E3 : Has ((w1.setCell ⟨p, 0, none⟩ (.int .i64 ((text.doV s t).2.2))).setCell ⟨p, 1, none⟩ (.string ((text.doV s t).2.1))) p 40 #[.int .i64 ((text.doV s t).2.2), .string ((text.doV s t).2.1)] := by
    simpa using (HP1.out.put 0 (.int .i64 ((text.doV s t).2.2))).put 1 (.string ((text.doV s t).2.1))
  have G3 : Hid (w.grownBy ((w1.setCell ⟨p, 0, none⟩ (.int .i64 ((text.doV s t).2.2))).setCell ⟨p, 1, none⟩ (.string ((text.doV s t).2.1))) (some d)) := grown_put (grown_put G1.out (.inr hwp) _) (.inr hwp) _
  have S3 := Lib.hid (show text.Dc ((w1.setCell ⟨p, 0, none⟩ (.int .i64 ((text.doV s t).2.2))).setCell ⟨p, 1, none⟩ (.string ((text.doV s t).2.1))) d (text.doV s t).1 from (Has.far (Has.far H1.out (p := ⟨p, 0, none⟩) (Ne.symm hpd) _) (p := ⟨p, 1, none⟩) (Ne.symm hpd) _))
  generalize (w1.setCell ⟨p, 0, none⟩ (.int .i64 ((text.doV s t).2.2))).setCell ⟨p, 1, none⟩ (.string ((text.doV s t).2.1)) = W2 at *
  have w0 : W2.cell? ⟨p, 0, none⟩ = some (.int .i64 ((text.doV s t).2.2)) := E3.cell 0
  have w1 : W2.cell? ⟨p, 1, none⟩ = some (.string ((text.doV s t).2.1)) := E3.cell 1
  exact bodyPost_ret (v := rv ((text.doV s t).2.2) ((text.doV s t).2.1)) (by simp [results, Try.results64, go_sem, w0, w1]) rfl ⟨rfl, S3.out, G3.out⟩

set_option maxRecDepth 100000 in
set_option maxHeartbeats 1000000 in
theorem ado_other (d : Nat) (o : OpO) (w : World) (hk : o.k ≠ 2) :
    Calls Try.prog 102 #[pv d, .agg o.cells] w fun en w' => en = .returned (rv 5 ⟨#[]⟩) ∧ Below w.heap.size w w' := by
  obtain ⟨k, t, l, z⟩ := o
  have hk' : (k != 2) = true := by simpa using hk
  clear hk
  unfold OpO.cells
  go_enter Try.func102, Try.ntmps102
  go_wp2_with fail
  refine bodyPost_ret (v := rv 5 ⟨#[]⟩) (by simp [results, Try.results102, go_sem]) rfl ⟨rfl, turn_box ?_⟩
  repeat (first | exact Turn.refl _ _ | refine Turn.drew ?_ | refine Turn.alloc ?_ _ | refine Turn.put ?_ (fun h => by omega) _ _)

set_option maxRecDepth 100000 in
set_option maxHeartbeats 1000000 in
theorem ado_calls (d : Nat) (m : Nat) {H : Type} (D : DataW H) (o : OpO) (w : World) (h : Bk w d m D) (I : InvF D) (hk : o.k = 2) (ho : o.Short) :
    Calls Try.prog 102 #[pv d, .agg o.cells] w fun en w' => en = .returned (rv (doO D o.l).2 ⟨#[]⟩) ∧ Bk w' d m (doO D o.l).1 ∧ w.grownBy w' (some m) := by
  obtain ⟨k, t, l, z⟩ := o
  obtain rfl : k = 2 := hk
  obtain ⟨hx, hl, hz⟩ := ho
  have hx' : t.x.size ≤ maxLen := hx
  have hl' : l.Short := hl
  have hz' : z.Short := hz
  have HB := Lib.hid h
  have hlt : Hid (d < w.heap.size ∧ m < w.heap.size) := ⟨h.box.lt, World.ownsMap.lt h.map⟩
  clear h
  clear hx hl hz
  unfold OpO.cells
  go_enter Try.func102, Try.ntmps102
  go_wp2_with fail
  refine callsName (fun W hW => ?_)
  obtain ⟨p, ep⟩ : ∃ p, p = w.heap.size + 2 := ⟨_, rfl⟩
  have HP : Hid (Has W p 40 #[.int .i64 0, .string ⟨#[]⟩]) := by show Has _ _ _ _; rw [← hW, ep]; exact made_at _ _ (by simp)
  have GW : Hid (w.grownBy W (some m)) := by show World.grownBy _ _ _; rw [← hW]; exact grown_alloc (grown_alloc (grown_alloc (grown_refl w _) _) _) _
  have HW : Hid (Bk W d m D) := by show Bk _ _ _ _; rw [← hW]; exact ((HB.out.more (new_box _ _)).more (new_box _ _)).more (new_box _ _)
  have hpd : p ≠ m := by have := hlt.out.2; omega
  have hpp : p ≠ d := by have := hlt.out.1; omega
  have hwp : w.heap.size ≤ p := by omega
  rw [← ep]
  clear hW ep
  refine (bdo_any d m D l W HW.out I hl').mono ?_
  rintro en w1 ⟨rfl, h1, g1⟩
  have HP1 : Hid (Has w1 p 40 #[.int .i64 0, .string ⟨#[]⟩]) := Lib.hid (HP.out.grown g1 (by intro e; injection e with e; exact hpd e))
  have G1 := Lib.hid (grown_trans GW.out g1)
  have H1 := Lib.hid h1
  have f0 : w1.frozen? ⟨p, 0, none⟩ = false := HP1.out.free 0
  have f1 : w1.frozen? ⟨p, 1, none⟩ = false := HP1.out.free 1
  have y0 : w1.cell? ⟨p, 0, none⟩ = some (.int .i64 0) := HP1.out.cell 0
  have y1 : w1.cell? ⟨p, 1, none⟩ = some (.string ⟨#[]⟩) := HP1.out.cell 1
  clear h1 g1 HP GW
  go_wp2_with fail
  have E3 : Has ((w1.setCell ⟨p, 0, none⟩ (.int .i64 ((doO D l).2))).setCell ⟨p, 1, none⟩ (.string (⟨#[]⟩))) p 40 #[.int .i64 ((doO D l).2), .string (⟨#[]⟩)] := by
    simpa using (HP1.out.put 0 (.int .i64 ((doO D l).2))).put 1 (.string (⟨#[]⟩))
  have G3 : Hid (w.grownBy ((w1.setCell ⟨p, 0, none⟩ (.int .i64 ((doO D l).2))).setCell ⟨p, 1, none⟩ (.string (⟨#[]⟩))) (some m)) := grown_put (grown_put G1.out (.inr hwp) _) (.inr hwp) _
  have S3 := Lib.hid (show Bk ((w1.setCell ⟨p, 0, none⟩ (.int .i64 ((doO D l).2))).setCell ⟨p, 1, none⟩ (.string (⟨#[]⟩))) d m (doO D l).1 from H1.out.turn (((Turn.refl (fun j => j = p) w1).put (fun _ => rfl) 0 _).put (fun _ => rfl) 1 _) (fun e => hpp e.symm) (fun e => hpd e.symm))
  generalize (w1.setCell ⟨p, 0, none⟩ (.int .i64 ((doO D l).2))).setCell ⟨p, 1, none⟩ (.string (⟨#[]⟩)) = W2 at *
  have w0 : W2.cell? ⟨p, 0, none⟩ = some (.int .i64 ((doO D l).2)) := E3.cell 0
  have w1 : W2.cell? ⟨p, 1, none⟩ = some (.string (⟨#[]⟩)) := E3.cell 1
  exact bodyPost_ret (v := rv ((doO D l).2) (⟨#[]⟩)) (by simp [results, Try.results102, go_sem, w0, w1]) rfl ⟨rfl, S3.out, G3.out⟩

set_option maxRecDepth 100000 in
set_option maxHeartbeats 1000000 in
theorem gdo_other (d : Nat) (o : OpO) (w : World) (hk : o.k ≠ 3) :
    Calls Try.prog 117 #[pv d, .agg o.cells] w fun en w' => en = .returned (rv 5 ⟨#[]⟩) ∧ Below w.heap.size w w' := by
  obtain ⟨k, t, l, z⟩ := o
  have hk' : (k != 3) = true := by simpa using hk
  clear hk
  unfold OpO.cells
  go_enter Try.func117, Try.ntmps117
  go_wp2_with fail
  refine bodyPost_ret (v := rv 5 ⟨#[]⟩) (by simp [results, Try.results117, go_sem]) rfl ⟨rfl, turn_box ?_⟩
  repeat (first | exact Turn.refl _ _ | refine Turn.drew ?_ | refine Turn.alloc ?_ _ | refine Turn.put ?_ (fun h => by omega) _ _)

set_option maxRecDepth 100000 in
set_option maxHeartbeats 1000000 in
theorem gdo_calls (d : Nat) (m : Nat) {H : Type} (D : DataW H) (o : OpO) (w : World) (h : stock.Sk w d m D) (I : stock.InvS D) (hk : o.k = 3) (ho : o.Short) :
    Calls Try.prog 117 #[pv d, .agg o.cells] w fun en w' => en = .returned (rv (stock.doO D o.s).2 ⟨#[]⟩) ∧ stock.Sk w' d m (stock.doO D o.s).1 ∧ w.grownBy w' (some m) := by
  obtain ⟨k, t, l, z⟩ := o
  obtain rfl : k = 3 := hk
  obtain ⟨hx, hl, hz⟩ := ho
  have hx' : t.x.size ≤ maxLen := hx
  have hl' : l.Short := hl
  have hz' : z.Short := hz
  have HB := Lib.hid h
  have hlt : Hid (d < w.heap.size ∧ m < w.heap.size) := ⟨h.box.lt, World.ownsMap.lt h.map⟩
  clear h
  clear hx hl hz
  unfold OpO.cells
  go_enter Try.func117, Try.ntmps117
  go_wp2_with fail
  refine callsName (fun W hW => ?_)
  obtain ⟨p, ep⟩ : ∃ p, p = w.heap.size + 2 := ⟨_, rfl⟩
  have HP : Hid (Has W p 40 #[.int .i64 0, .string ⟨#[]⟩]) := by show Has _ _ _ _; rw [← hW, ep]; exact made_at _ _ (by simp)
  have GW : Hid (w.grownBy W (some m)) := by show World.grownBy _ _ _; rw [← hW]; exact grown_alloc (grown_alloc (grown_alloc (grown_refl w _) _) _) _
  have HW : Hid (stock.Sk W d m D) := by show stock.Sk _ _ _ _; rw [← hW]; exact ((HB.out.more (new_box _ _)).more (new_box _ _)).more (new_box _ _)
  have hpd : p ≠ m := by have := hlt.out.2; omega
  have hpp : p ≠ d := by have := hlt.out.1; omega
  have hwp : w.heap.size ≤ p := by omega
  rw [← ep]
  clear hW ep
  refine (stock.sdo_any d m D z W HW.out I hz').mono ?_
  rintro en w1 ⟨rfl, h1, g1⟩
  have HP1 : Hid (Has w1 p 40 #[.int .i64 0, .string ⟨#[]⟩]) := Lib.hid (HP.out.grown g1 (by intro e; injection e with e; exact hpd e))
  have G1 := Lib.hid (grown_trans GW.out g1)
  have H1 := Lib.hid h1
  have f0 : w1.frozen? ⟨p, 0, none⟩ = false := HP1.out.free 0
  have f1 : w1.frozen? ⟨p, 1, none⟩ = false := HP1.out.free 1
  have y0 : w1.cell? ⟨p, 0, none⟩ = some (.int .i64 0) := HP1.out.cell 0
  have y1 : w1.cell? ⟨p, 1, none⟩ = some (.string ⟨#[]⟩) := HP1.out.cell 1
  clear h1 g1 HP GW
  go_wp2_with fail
  have E3 : Has ((w1.setCell ⟨p, 0, none⟩ (.int .i64 ((stock.doO D z).2))).setCell ⟨p, 1, none⟩ (.string (⟨#[]⟩))) p 40 #[.int .i64 ((stock.doO D z).2), .string (⟨#[]⟩)] := by
    simpa using (HP1.out.put 0 (.int .i64 ((stock.doO D z).2))).put 1 (.string (⟨#[]⟩))
  have G3 : Hid (w.grownBy ((w1.setCell ⟨p, 0, none⟩ (.int .i64 ((stock.doO D z).2))).setCell ⟨p, 1, none⟩ (.string (⟨#[]⟩))) (some m)) := grown_put (grown_put G1.out (.inr hwp) _) (.inr hwp) _
  have S3 := Lib.hid (show stock.Sk ((w1.setCell ⟨p, 0, none⟩ (.int .i64 ((stock.doO D z).2))).setCell ⟨p, 1, none⟩ (.string (⟨#[]⟩))) d m (stock.doO D z).1 from H1.out.turn (((Turn.refl (fun j => j = p) w1).put (fun _ => rfl) 0 _).put (fun _ => rfl) 1 _) (fun e => hpp e.symm) (fun e => hpd e.symm))
  generalize (w1.setCell ⟨p, 0, none⟩ (.int .i64 ((stock.doO D z).2))).setCell ⟨p, 1, none⟩ (.string (⟨#[]⟩)) = W2 at *
  have w0 : W2.cell? ⟨p, 0, none⟩ = some (.int .i64 ((stock.doO D z).2)) := E3.cell 0
  have w1 : W2.cell? ⟨p, 1, none⟩ = some (.string (⟨#[]⟩)) := E3.cell 1
  exact bodyPost_ret (v := rv ((stock.doO D z).2) (⟨#[]⟩)) (by simp [results, Try.results117, go_sem, w0, w1]) rfl ⟨rfl, S3.out, G3.out⟩

end Go.Proofs.Ytndnjeahepahkaa.object
end

