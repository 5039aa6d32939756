/- stock: what Save gives. -/
import Derived.Test.YtfhpcodjmmidhaaStoC
namespace Go.Proofs.Ytfhpcodjmmidhaa.stock
open Go.RowKit Go.Maps Go.Sort

section
variable {H : Type}

/-- Where Save's writing stands. -/
structure SJ (w : World) (d m : Nat) (D : DataW H) (b : Nat) (r : Option Nat) (X : List UInt8) (v : Value) (n : Nat) (rows : List Value) (V : World) : Prop where
  wr : Wr V b r X
  bk : Sk V d m D
  rw : V.ownsRow 0 9 1 v n rows
  tn : Turn (fun k => w.heap.size ≤ k) w V
  dl : d < w.heap.size
  ml : m < w.heap.size
  fb : w.heap.size ≤ b
  fr : ∀ k, r = some k → w.heap.size ≤ k

section
variable {w V V' : World} {d m b n : Nat} {D : DataW H} {r r' : Option Nat} {X : List UInt8} {v : Value} {rows : List Value}
theorem SJ.drawn (h : SJ w d m D b r X v n rows V) : SJ w d m D b r X v n rows V.drew := ⟨h.wr, ⟨h.bk.box.drew, h.bk.map⟩, h.rw, h.tn.drew, h.dl, h.ml, h.fb, h.fr⟩
theorem SJ.next (X : List UInt8) {X' : List UInt8} (h : SJ w d m D b r X v n rows V) (hr : r' = r ∨ ∃ k, r' = some k ∧ V.heap.size ≤ k) (t : Turn (fun k => k = b ∨ some k = r) V V') (hw : Wr V' b r' X') : SJ w d m D b r' X' v n rows V' := by
  have hdl := h.dl
  have hml := h.ml
  have hfb := h.fb
  obtain ⟨u, hb, ho, hv, hne⟩ := h.wr
  refine ⟨hw, h.bk.turn t (fun hF => ?_) (fun hF => ?_), own_turn h.rw t (fun k hk hF => ?_), h.tn.trans t (fun j hj hF => ?_), h.dl, h.ml, h.fb, fun k hk => ?_⟩
  · rcases hF with hF | hF
    · omega
    · have := h.fr _ hF.symm; omega
  · rcases hF with hF | hF
    · omega
    · have := h.fr _ hF.symm; omega
  · rcases hF with hF | hF
    · exact own_ne h.rw hb (by decide) (by rw [hk, hF])
    · exact own_own h.rw ho (by decide) k hk (by rw [hv, hF])
  · rcases hF with hF | hF
    · omega
    · exact h.fr _ hF.symm
  · rcases hr with rfl | ⟨j, rfl, hj⟩
    · exact h.fr k hk
    · injection hk with hk
      have := h.tn.size
      omega
end

set_option maxRecDepth 100000 in
set_option maxHeartbeats 1000000 in
theorem ssave_calls (d m : Nat) (D : DataW H) (w : World) (h : Sk w d m D) (I : InvS D) :
    Calls Try.prog 26 #[.pointer (some ⟨d, 0, none⟩)] w fun en w' => en = .returned (.string (saveB D)) ∧ Below w.heap.size w w' := by
  have hnl : (namesD D).length ≤ 16 := by have := names_size I; have := I.size; omega
  have B := Lib.hid h
  have II := Lib.hid I
  have DL := Lib.hid h.box.lt
  have ML := Lib.hid (World.ownsMap.lt h.map)
  clear h
  go_enter Try.func26, Try.ntmps26
  go_wp2_with fail
  refine (snames_calls d m D _ (B.out.kept (World.grownBy_alloc w _ none) (by simp) (by simp)) II.out).mono ?_
  rintro en w1 ⟨v, rfl, hrow, b1⟩
  have hrow' := hrow
  have HJ0 : Hid (SJ w d m D w.heap.size none [] v (namesD D).length ((namesD D).map encStr) w1) := by
    have t0 : Turn (fun k => w.heap.size ≤ k) w (w.alloc (.cells #[.slice none 0 0] 93)) := (Turn.refl _ _).alloc _
    have t1 : Turn (fun k => w.heap.size ≤ k) w w1 := t0.trans (Turn.of_below b1 (F := fun k => (w.alloc (.cells #[.slice none 0 0] 93)).heap.size ≤ k) (fun _ _ e => e)) (fun j hj hF => by simp at hF; omega)
    obtain ⟨u, hb, ho, hv, hne⟩ := made_writer w
    have k1 : Turn (fun k => (w.alloc (.cells #[.slice none 0 0] 93)).heap.size ≤ k) (w.alloc (.cells #[.slice none 0 0] 93)) w1 := Turn.of_below b1 (fun _ _ e => e)
    refine ⟨⟨u, hb.turn k1 (by simp), own_turn ho k1 (fun b hb => by rw [hv] at hb; cases hb), hv, hne⟩, B.out.turn t1 (by have := DL.out; omega) (by have := ML.out; omega), hrow', t1, DL.out, ML.out, Nat.le_refl _, fun k hk => by cases hk⟩
  obtain ⟨a, c, rfl⟩ := own_slice hrow'
  clear hrow hrow' b1
  generalize hn : (namesD D).length = n at *
  have HN := Lib.hid hn
  clear hn
  go_wp2_with fail
  refine (wnum_int w.heap.size none [] (n : Int) w1 (by omega) (by omega) HJ0.out.wr (by simp)).mono ?_
  rintro en w2 ⟨rfl, r2, h2, hr2, t2⟩
  have HJ2 := Lib.hid (SJ.next _ HJ0.out hr2 t2 h2)
  simp only [List.nil_append, Int.toNat_natCast] at HJ2
  clear h2 hr2 t2 HJ0
  go_wp2_with fail
  go_loopw [15] (fun i wr => ∃ (k : Nat) (r : Option Nat), i = .int .i64 k ∧ k ≤ n ∧ SJ w d m D w.heap.size r (enc n ++ ((namesD D).take k).flatMap (pieceD D)) (.slice a n c) n ((namesD D).map encStr) wr)
    (fun i _ => n - (intOf i).toNat)
  case atStart => exact ⟨0, r2, rfl, Nat.zero_le _, by simpa using HJ2.out⟩
  case round =>
    obtain ⟨k, r, rfl, hk, hJ⟩ := hrel
    have HJ := Lib.hid hJ
    by_cases hlt : k < n
    · obtain ⟨g, c', hv, hnc, hcm, hcell⟩ := own_cell hJ.rw (by omega)
      obtain ⟨rfl, rfl⟩ : a = some ⟨g, 0, none⟩ ∧ c = c' := by injection hv with h1 _ h2; exact ⟨h1, h2⟩
      have hkl : k < (namesD D).length := by rw [HN.out]; exact hlt
      have hc0 := hcell k (encStr (namesD D)[k]) (by rw [List.getElem?_map, List.getElem?_eq_getElem hkl]; rfl)
      have HM : Hid ((namesD D)[k] ∈ namesD D) := List.getElem_mem hkl
      have HT : Hid ((namesD D).take (k + 1) = (namesD D).take k ++ [(namesD D)[k]]) := (List.take_append_getElem hkl).symm
      generalize (namesD D)[k] = x at *
      unfold encStr at hc0
      clear hcell hv hJ
      have hk2 : k ≤ c := by omega
      go_wp2_with fail
      have hp := piece_lenS II.out HM.out
      obtain ⟨hp0, hp1, hp2', hp3⟩ := hp
      have hp2 : 0 ≤ amtL D x := by omega
      have hcv : ∀ V : World, (convert 3 96 (.int .i64 (amtL D x))).run Try.prog V = .ok (.int .u64 (amtL D x)) V := fun V => by
        go_simp
        rw [IntKind.wrap_u64]; omega
      have hkey : keyOf Try.prog 9 (.string ⟨x.toArray⟩) = some (kS ⟨x.toArray⟩) := kS_of (by show x.toArray.size ≤ _; unfold maxLen; simp; omega)
      have hlen : (enc n ++ ((namesD D).take k).flatMap (pieceD D)).length ≤ 1000 := by
        have e1 := enc_len n (by omega)
        have e2 := flat_len (pieceD D) 34 ((namesD D).take k) (fun y hy => (piece_lenS II.out (List.mem_of_mem_take hy)).1)
        rw [List.length_take] at e2
        rw [List.length_append]
        omega
      have hlen3 : (enc n ++ ((namesD D).take k).flatMap (pieceD D) ++ enc (⟨x.toArray⟩ : ByteArray).size ++ (⟨x.toArray⟩ : ByteArray).data.toList).length ≤ 1000000 := by
        have e0 : (⟨x.toArray⟩ : ByteArray).size = x.length := by show x.toArray.size = _; simp
        have e1 := enc_len x.length (by omega)
        have e2 : (⟨x.toArray⟩ : ByteArray).data.toList.length = x.length := by simp
        rw [e0, List.length_append, List.length_append]
        omega
      refine wp_region_held (S := fun V => Sk V d m D) (by kernel_rfl) ?_
      have HS0 : (fun V : World => Sk V d m D) wr.drew := HJ.out.drawn.bk
      refine held_take 0 (some 19) rfl rfl (by kernel_rfl) (by kernel_rfl) (by kernel_rfl) (fun _ _ _ h => h) (.inl ⟨by kernel_rfl, fun _ _ => rfl⟩) HS0 ?_
      refine held_take 2 (some 21) rfl rfl (by kernel_rfl) (by kernel_rfl) (by kernel_rfl) (fun _ _ _ h => h) (.inl ⟨by kernel_rfl, fun _ _ => rfl⟩) HS0 ?_
      refine held_take 3 (some 22) (v := .pointer (some ⟨d, 0, none⟩)) rfl rfl (by kernel_rfl) (by kernel_rfl) (by kernel_rfl) (fun _ _ _ h => h) (.inl ⟨by kernel_rfl, fun V _ => by go_simp⟩) HS0 ?_
      refine held_take 4 (some 23) (v := .pointer (some ⟨d, 0, none⟩)) rfl rfl (by kernel_rfl) (by kernel_rfl) (by kernel_rfl) (fun _ _ _ h => h) (.inl ⟨by kernel_rfl, fun V _ => by go_simp⟩) HS0 ?_
      refine held_take 5 (some 24) (v := .map (some m)) rfl rfl (by kernel_rfl) (by kernel_rfl) (by kernel_rfl) (fun _ _ _ h => h) (.inl ⟨by kernel_rfl, fun V hV => by have c0 : V.cell? ⟨d, 0, none⟩ = some (.map (some m)) := (show Sk V d m D from hV).box.cell 0; go_simp⟩) HS0 ?_
      refine held_take 6 (some 25) rfl rfl (by kernel_rfl) (by kernel_rfl) (by kernel_rfl) (fun _ _ _ h => h) (.inl ⟨by kernel_rfl, fun _ _ => rfl⟩) HS0 ?_
      refine held_take 7 (some 26) (v := .int .i64 (amtL D x)) rfl rfl (by kernel_rfl) (by kernel_rfl) (by kernel_rfl) (fun _ _ _ h => h) (.inl ⟨by kernel_rfl, fun V hV => by
        obtain ⟨q, hq, hat, _⟩ := World.ownsMap.lookup_int (show Sk V d m D from hV).map strKeyed Try.underlying88 Try.underlying3 (zeroInt V) hkey
        obtain rfl : amtL D x = q := amt_of hat
        go_simp⟩) HS0 ?_
      refine held_take 8 (some 27) (v := .int .u64 (amtL D x)) rfl rfl (by kernel_rfl) (by kernel_rfl) (by kernel_rfl) (fun _ _ _ h => h) (.inl ⟨by kernel_rfl, fun V _ => by go_simp⟩) HS0 ?_
      simp only [Act.put, List.setIfInBounds_toArray, List.set_cons_zero, List.set_cons_succ]
      refine held_one (i := 1) (by kernel_rfl) ?_
      refine wpOp_call (some 20) rfl rfl (by kernel_rfl) 46 Try.f46 Try.func46 (by kernel_rfl) (by kernel_rfl) _ _ rfl #[.pointer (some ⟨w.heap.size, 0, none⟩), .string ⟨x.toArray⟩] (by first | (simp [Act.eval]; done) | (simp [Act.eval, Act.put]; done)) (wstr_any w.heap.size r _ ⟨x.toArray⟩ _ HJ.out.drawn.wr (by omega) (by show x.toArray.size ≤ _; simp; omega)) ?_
      rintro en v ⟨rfl, r3, h3, hr3, t3⟩
      have HJ3 := Lib.hid (SJ.next _ HJ.out.drawn hr3 t3 h3)
      clear h3 hr3 t3
      refine ⟨_, rfl, HJ3.out.bk, ?_⟩
      simp only [Act.put, List.setIfInBounds_toArray, List.set_cons_zero, List.set_cons_succ]
      refine held_one (i := 9) (by kernel_rfl) ?_
      refine wpOp_call (some 28) rfl rfl (by kernel_rfl) 45 Try.f45 Try.func45 (by kernel_rfl) (by kernel_rfl) _ _ rfl #[.pointer (some ⟨w.heap.size, 0, none⟩), .int .u64 (amtL D x)] (by first | (simp [Act.eval]; done) | (simp [Act.eval, Act.put]; done)) (wnum_int w.heap.size r3 _ (amtL D x) _ hp2 (by omega) HJ3.out.wr hlen3) ?_
      rintro en v4 ⟨rfl, r4, h4, hr4, t4⟩
      have HJ4 := Lib.hid (SJ.next _ HJ3.out hr4 t4 h4)
      clear h4 hr4 t4
      refine ⟨_, rfl, HJ4.out.bk, ?_⟩
      simp only [Act.put, List.setIfInBounds_toArray, List.set_cons_zero, List.set_cons_succ]
      refine wpAnyH_done (by kernel_rfl) ?_ _
      clear HS0 hkey hcv
      go_wp2_with fail
      go_roundw
      case rel =>
        refine ⟨k + 1, r4, by go_num, by omega, ?_⟩
        have e : enc n ++ ((namesD D).take (k + 1)).flatMap (pieceD D) = enc n ++ ((namesD D).take k).flatMap (pieceD D) ++ enc (⟨x.toArray⟩ : ByteArray).size ++ (⟨x.toArray⟩ : ByteArray).data.toList ++ enc (amtL D x).toNat := by
          rw [HT.out, List.flatMap_append]
          have : (⟨x.toArray⟩ : ByteArray).size = x.length := by show x.toArray.size = _; simp
          rw [this]
          simp [pieceD]
        rw [e]
        exact HJ4.out
      case measure => simp [intOf]; omega
    · obtain rfl : k = n := by omega
      have E : Hid (enc k ++ ((namesD D).take k).flatMap (pieceD D) = saveL D) := by
        show _ = _
        rw [List.take_of_length_le (by rw [HN.out]; omega)]
        unfold saveL
        rw [HN.out]
      clear hJ
      go_wp2_with fail
      refine (text_any _ _ _ _ HJ.out.wr).mono ?_
      rintro en w6 ⟨rfl, rfl⟩
      go_wp2_with fail
      go_ret
      refine ⟨?_, HJ.out.tn.below (Nat.le_refl _) (fun j hj e => by omega)⟩
      show Ending.returned (.string _) = _
      rw [E.out]
      rfl

end
end Go.Proofs.Ytfhpcodjmmidhaa.stock
