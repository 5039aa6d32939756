/- digest: bytes more. -/
import Derived.Test.YtdoadmkaoboncaaGreatDoorDigD
namespace Go.Proofs.YtdoadmkaoboncaaGreatDoor.dig
open Go Go.RowKit

section
variable {P : Program}
/-- Cells with bytes laid over those from off on, of len at most. -/
def laid (cs : Array Value) (off len : Nat) (s : List UInt8) : Array Value := (cs.toList.take off ++ (s.take len).map byteV ++ cs.toList.drop (off + min s.length len)).toArray

theorem run_copy_mid (w : World) (dT sT ty elem : TypeId) (g off len dCap : Nat) (s : ByteArray) (cs : Array Value) (t : TypeId)
    (hu : P.underlying dT = some (.slice elem)) (hs : (P.info? elem).map (·.size) = some 1) (hfit : off + len ≤ cs.size)
    (hg : Has w g t cs) :
    (Builtin.copy_ #[dT, sT] ty #[.slice (some ⟨g, off, none⟩) len dCap, .string s]).run P w =
      .ok (goInt ((min s.size len : Nat) : Int)) (w.setRow g (laid cs off len s.data.toList)) := by
  have hz : s.size = s.data.toList.length := by simp
  have hlen : ((s.data.toList.take len).map byteV).length = min s.data.toList.length len := by simp [Nat.min_comm]
  have hst := run_storeCells_at P g off t ((s.data.toList.take len).map byteV) 0 cs w hg (by rw [hlen]; omega) (byteV_one _)
  have hcells : ((s.extract 0 (min s.size len)).data.map fun b => Value.int .u8 (b.toNat : Nat)).toList = (s.data.toList.take len).map byteV := by
    rw [← take_min, ← hz]
    simp only [ByteArray.data_extract, Array.toList_map, Array.toList_extract, List.extract_eq_take_drop, List.drop_zero, Nat.sub_zero]
    rfl
  have hrow : (cs.toList.take (off + 0) ++ (s.data.toList.take len).map byteV ++ cs.toList.drop (off + 0 + ((s.data.toList.take len).map byteV).length)).toArray = laid cs off len s.data.toList := by
    unfold laid
    rw [hlen, Nat.add_zero]
  rw [hrow] at hst
  cases hq : P.info? elem with
  | none => simp [hq] at hs
  | some i =>
    have hi : i.size = 1 := by simpa [hq] using hs
    simp only [Builtin.copy_]
    simp [run_underlying hu, Builtin.lenOf, Builtin.firstCells, sizeOf, typeInfo, hq, -ByteArray.data_extract, -Array.toList_map, -Array.toList_extract, -Array.map_extract]
    have e : s.size.min len = min s.size len := rfl
    rw [e, hcells, hst]
    simp [Result.andThen]

theorem wpList_copy_mid {w : World} {ops : Array Oper} {rest : List Oper} {o : Oper} {a : Act} {Q : Exit → Act → World → Prop} (hgd : o.guard = none) (d x : Operand) (dT sT : TypeId)
    (ho : o.op = .call { callee := .builtin .copy, args := #[d, x], argTypes := #[dT, sT] }) (elem : TypeId) (hu : P.underlying dT = some (.slice elem)) (hsz : (P.info? elem).map (·.size) = some 1)
    (g off len dCap : Nat) (s : ByteArray) (cs : Array Value) (hd : a.eval d = .slice (some ⟨g, off, none⟩) len dCap) (hs : a.eval x = .string s) (hfit : off + len ≤ cs.size)
    (t : TypeId) (hg : Has w g t cs)
    (h : ∀ w', Has w' g t (laid cs off len s.data.toList) → Turn (fun k => k = g) w w' → wpList P ops Q rest (a.put o.dst (goInt ((min s.size len : Nat) : Int))) w') : wpList P ops Q (o :: rest) a w := by
  refine wpList_plain hgd fun K hK => ?_
  have hrun := run_copy_mid (P := P) w dT sT o.type elem g off len dCap s cs t hu hsz hfit hg
  unfold Oper.wp
  simp [execOp, ho, resolve, invoke, builtin, hd, hs, hrun, Result.andThen]
  exact hK _ _ (by have := h _ (hg.row _) (turn_row _ _ _); simpa using this)
end

theorem callsName {P : Program} {f : FuncId} {args : Array Value} {w : World} {R : Ending → World → Prop} (h : ∀ W, w = W → Calls P f args W R) : Calls P f args w R := h w rfl

/-- The block when bytes are laid over it from r on. -/
def over64 (bs : List UInt8) (r : Nat) (s : List UInt8) : List UInt8 := bs.take r ++ (s.take (64 - r) ++ bs.drop (r + min s.length (64 - r)))
theorem over64_length (bs : List UInt8) (r : Nat) (s : List UInt8) (hb : bs.length = 64) (hr : r ≤ 64) : (over64 bs r s).length = 64 := by
  unfold over64
  simp
  omega
theorem laid_hash (ws : List Int) (bs : List UInt8) (n r : Nat) (s : List UInt8) (hw : ws.length = 8) (hb : bs.length = 64) (hr : r ≤ 64) : laid (hcells ws bs n) (8 + r) (64 - r) s = hcells ws (over64 bs r s) n := by
  unfold laid hcells over64
  have e1 : (ws.map wordV).length = 8 := by simpa using hw
  have e2 : (bs.map byteV).length = 64 := by simpa using hb
  simp only [List.map_append, List.map_take, List.map_drop]
  rw [List.take_append, List.drop_append, e1, List.take_of_length_le (by omega), List.drop_of_length_le (by omega)]
  rw [show 8 + r - 8 = r by omega, show 8 + r + min s.length (64 - r) - 8 = r + min s.length (64 - r) by omega]
  rw [List.take_append_of_le_length (by omega), List.drop_append_of_le_length (by omega)]
  simp

theorem over64_take (bs : List UInt8) (r : Nat) (l : List UInt8) (k : Nat) (hk : k = min l.length (64 - r)) : over64 bs r l = over64 bs r (l.take k) := by
  have h1 : (l.take k).length = k := by rw [List.length_take]; omega
  have h2 : l.take (64 - r) = l.take k := by
    by_cases hc : 64 - r ≤ l.length
    · rw [show k = 64 - r by omega]
    · have a1 : l.take (64 - r) = l := List.take_of_length_le (by omega)
      have a2 : l.take k = l := List.take_of_length_le (by omega)
      rw [a1, a2]
  have h3 : (l.take k).take (64 - r) = l.take k := List.take_of_length_le (by rw [h1]; omega)
  unfold over64
  rw [h1, h2, h3, show min k (64 - r) = min l.length (64 - r) by omega]
theorem rest_eq (t : ByteArray) (k : Nat) : t.data.toList = t.data.toList.take k ++ (t.extract k t.size).data.toList := by
  have e : (t.extract k t.size).data.toList = t.data.toList.drop k := by
    simp only [ByteArray.data_extract, Array.toList_extract, List.extract_eq_take_drop]
    exact List.take_of_length_le (by simp)
  rw [e, List.take_append_drop]
/-- A Hash to which xs came. -/
def Hs (w : World) (h : Nat) (xs : List UInt8) : Prop :=
  ∃ bs, bs.length = 64 ∧ bs.take (xs.length % 64) = xs.drop (64 * (xs.length / 64)) ∧ Has w h 214 (hcells (wd xs (xs.length / 64)).list bs xs.length)

/-- What copy makes of it, when the block isn't full. -/
theorem Hs_short {bs xs s : List UInt8} (hb : bs.length = 64) (ht : bs.take (xs.length % 64) = xs.drop (64 * (xs.length / 64))) (hl : xs.length % 64 + s.length < 64) :
    wd (xs ++ s) ((xs ++ s).length / 64) = wd xs (xs.length / 64) ∧ (over64 bs (xs.length % 64) s).take ((xs ++ s).length % 64) = (xs ++ s).drop (64 * ((xs ++ s).length / 64)) := by
  have e1 : (xs ++ s).length / 64 = xs.length / 64 := by rw [List.length_append]; omega
  have e2 : (xs ++ s).length % 64 = xs.length % 64 + s.length := by rw [List.length_append]; omega
  have h3 : 64 * (xs.length / 64) ≤ xs.length := by omega
  rw [e1, e2]
  refine ⟨wd_congr _ _ _ (List.take_append_of_le_length h3), ?_⟩
  rw [List.drop_append_of_le_length h3, ← ht]
  unfold over64
  have e3 : (bs.take (xs.length % 64)).length = xs.length % 64 := by rw [List.length_take]; omega
  have e4 : s.take (64 - xs.length % 64) = s := List.take_of_length_le (by omega)
  rw [List.take_append, e3, List.take_of_length_le (by omega), e4, Nat.add_sub_cancel_left, List.take_append_of_le_length (by omega), List.take_of_length_le (Nat.le_refl _)]
/-- .. and when it is. -/
theorem Hs_full {bs xs s : List UInt8} (hb : bs.length = 64) (ht : bs.take (xs.length % 64) = xs.drop (64 * (xs.length / 64))) (hl : xs.length % 64 + s.length = 64) :
    (xs ++ s).length / 64 = xs.length / 64 + 1 ∧ (xs ++ s).length % 64 = 0 ∧ wd (xs ++ s) (xs.length / 64 + 1) = comp (wd xs (xs.length / 64)) (over64 bs (xs.length % 64) s) := by
  have h3 : 64 * (xs.length / 64) ≤ xs.length := by omega
  refine ⟨by rw [List.length_append]; omega, by rw [List.length_append]; omega, ?_⟩
  rw [wd, wd_congr (xs ++ s) xs _ (List.take_append_of_le_length h3)]
  congr 1
  rw [List.drop_append_of_le_length h3, ← ht]
  unfold over64
  have e3 : (bs.take (xs.length % 64)).length = xs.length % 64 := by rw [List.length_take]; omega
  have e4 : s.take (64 - xs.length % 64) = s := List.take_of_length_le (by omega)
  rw [e4, List.drop_of_length_le (by omega), List.append_nil, List.take_of_length_le (by rw [List.length_append, e3]; omega)]

/-- What lasts while bytes come. -/
structure Ax (w : World) (h : Nat) (xs : List UInt8) (w' : World) : Prop where
  st : Hs w' h xs
  rk : Rk w'
  hne : h ≠ 4
  turn : w.grownBy w' (some h)

def strLen : Value → Nat
  | .string t => t.size
  | _ => 0

set_option maxRecDepth 100000 in
set_option maxHeartbeats 1000000 in
theorem add_calls (h : Nat) (xs : List UInt8) (s : ByteArray) (w : World) (H : Ax w h xs w) (hn : xs.length + s.size < 4611686018427387904) :
    Calls Tryz.prog 106 #[.pointer (some ⟨h, 0, none⟩), .string s] w fun en w' => en = .returned (.tuple #[]) ∧ Ax w h (xs ++ s.data.toList) w' := by
  have A0 : Hid (∃ ys : List UInt8, ys.length + s.size < 4611686018427387904 ∧ xs ++ s.data.toList = ys ++ s.data.toList ∧ Ax w h ys w) := ⟨xs, hn, rfl, H⟩
  clear H hn
  go_enter Tryz.func106, Tryz.ntmps106
  go_wp2_with fail
  go_loopw [1] (fun x wr => ∃ t : ByteArray, x = .string t ∧ Hid (∃ ys : List UInt8, ys.length + t.size < 4611686018427387904 ∧ xs ++ s.data.toList = ys ++ t.data.toList ∧ Ax w h ys wr)) (fun x _ => strLen x)
  case atStart => exact ⟨s, rfl, A0⟩
  case round =>
    obtain ⟨t, rfl, HA⟩ := hrel
    clear A0
    obtain ⟨ys, hn, he, hax⟩ := HA.out
    obtain ⟨bs, hb, ht, hB⟩ := hax.st
    by_cases h0 : 0 < t.size
    · have ht0 : (0 : Int) < (t.size : Int) := by omega
      obtain ⟨n, hnl⟩ : ∃ n, n = ys.length := ⟨_, rfl⟩
      obtain ⟨r, hr⟩ : ∃ r, r = ys.length % 64 := ⟨_, rfl⟩
      have hB : Has wr h 214 (hcells (wd ys (ys.length / 64)).list bs n) := by rw [hnl]; exact hB
      rw [← hnl] at hn
      have hr64 : r < 64 := by omega
      have hnr : (n : Int).tmod 64 = (r : Int) := by rw [Int.tmod_eq_emod_of_nonneg (by omega)]; omega
      have hr0 : (0 : Int) ≤ (r : Int) := by omega
      have hr1 : (r : Int) ≤ 64 := by omega
      have hul := Tryz.underlying212
      have HB := Lib.hid hB
      have HAX := Lib.hid hax
      have HE := Lib.hid he
      have HN := Lib.hid hnl
      have HR := Lib.hid hr
      have HT := Lib.hid ht
      have c72 : wr.cell? ⟨h, 72, none⟩ = some (.int .u64 n) := (hB.cell 72).trans (hcells_n rfl hb)
      obtain ⟨k, hk⟩ : ∃ k, k = min t.size (64 - r) := ⟨_, rfl⟩
      have hk1 : (0 : Int) < (k : Int) := by omega
      have hk2 : (k : Int) ≤ (t.size : Int) := by omega
      have hk3 : (k : Int) ≤ 64 := by omega
      have hn2 : (n : Int) + (t.size : Int) < 4611686018427387904 := by omega
      have hr2 : ¬ 64 = r := by omega
      have HK := Lib.hid hk
      have hkt : k ≤ t.size := by omega
      have htl : t.data.toList.length = t.size := by simp
      -- what is there behind the copy
      obtain ⟨ex, hex⟩ : ∃ ex, ex = t.data.toList.take k := ⟨_, rfl⟩
      have hexl : ex.length = k := by rw [hex, List.length_take, htl]; omega
      have hov : over64 bs r t.data.toList = over64 bs r ex := by rw [hex]; exact over64_take bs r _ k (by rw [htl]; exact hk)
      have hrest : ys ++ t.data.toList = (ys ++ ex) ++ (t.extract k t.size).data.toList := by
        rw [hex, List.append_assoc, ← rest_eq]
      have hrsz : (t.extract k t.size).size = t.size - k := by simp [ByteArray.size_extract]
      have HX := Lib.hid hexl
      have HRE := Lib.hid hrest
      have HRS := Lib.hid hrsz
      have HTL := Lib.hid htl
      have HOV := Lib.hid hov
      have hbl : (hcells (wd ys (ys.length / 64)).list bs n).size = 73 := by simp [hcells, hb, Oct.list]
      have HBL := Lib.hid hbl
      clear HA hax hB he hnl hr ht hk hex hexl hov hrest hrsz htl hbl
      go_wp2_with fail
      obtain ⟨V, hV⟩ : ∃ V, V = wr.drew := ⟨_, rfl⟩
      refine still_tail_at V hV 10 (by kernel_rfl) (by kernel_rfl) ?_
      have c72 : V.cell? ⟨h, 72, none⟩ = some (.int .u64 n) := by rw [hV]; exact c72
      have HBV : Hid (Has V h 214 (hcells (wd ys (ys.length / 64)).list bs n)) := by rw [hV]; exact HB
      have TV : Hid (w.grownBy V (some h) ∧ Rk V) := by rw [hV]; exact Lib.hid ⟨grown_drew HAX.out.turn, HAX.out.rk⟩
      clear hV c72
      have c72 : V.cell? ⟨h, 72, none⟩ = some (.int .u64 n) := (HBV.out.cell 72).trans (hcells_n rfl hb)
      simp only [List.take_succ_cons, List.take_zero, List.drop_succ_cons, List.drop_zero]
      repeat still_step
      refine wpStill_nil ?_
      clear hnr c72
      refine wpList_copy_mid (o := ⟨some 18, _, _, _, _, _⟩) rfl _ _ _ _ rfl 5 Tryz.underlying51 (by kernel_rfl) h (8 + r) (64 - r) (64 - r) t _ rfl rfl (by rw [HBL.out]; omega) _ HBV.out ?_
      intro W2 HW2 T2
      rw [laid_hash _ _ _ _ _ rfl hb (by omega), HOV.out] at HW2
      rw [← HK.out]
      have c72 : W2.cell? ⟨h, 72, none⟩ = some (.int .u64 n) := (HW2.cell 72).trans (hcells_n rfl (over64_length _ _ _ hb (by omega)))
      have f72 : W2.frozen? ⟨h, 72, none⟩ = false := HW2.free 72
      have H3 : Hid (Has (W2.setCell ⟨h, 72, none⟩ (.int .u64 ((n : Int) + (k : Int)))) h 214 (hcells (wd ys (ys.length / 64)).list (over64 bs r ex) (n + k))) := by
        have e := HW2.put 72 (.int .u64 ((n + k : Nat) : Int))
        rw [hcells_setn rfl (over64_length _ _ _ hb (by omega)), Int.natCast_add] at e
        exact e
      have T3 : Hid (w.grownBy (W2.setCell ⟨h, 72, none⟩ (.int .u64 ((n : Int) + (k : Int)))) (some h) ∧ Rk (W2.setCell ⟨h, 72, none⟩ (.int .u64 ((n : Int) + (k : Int))))) := by
        have g2 : w.grownBy W2 (some h) := ⟨T2.os.trans TV.out.1.os, T2.tape.trans TV.out.1.tape, T2.output.trans TV.out.1.output, Nat.le_trans TV.out.1.size T2.size, fun i hi hne =>
          (T2.block i (Nat.lt_of_lt_of_le hi TV.out.1.size) (fun e => hne (by rw [e]))).trans (TV.out.1.block i hi hne)⟩
        have k2 : Rk W2 := TV.out.2.turn T2 (fun e => HAX.out.hne e.symm)
        exact Lib.hid ⟨grown_own g2 _ _, k2.keep (Below.heap_setCell _ ⟨h, 72, none⟩ _ _ (fun e => HAX.out.hne e.symm))⟩
      clear HW2 T2 TV HBV
      by_cases hf : r + k = 64
      · have hm : ((n : Int) + (k : Int)) % 64 = 0 := by have h1 := HR.out; have h2 := HN.out; omega
        go_wp2_with fail
        refine callsName (fun W3 hW3 => ?_)
        have H4 : Has W3 h 214 (hcells (wd ys (ys.length / 64)).list (over64 bs r ex) (n + k)) := by rw [← hW3]; exact H3.out
        have T4 : w.grownBy W3 (some h) ∧ Rk W3 := by rw [← hW3]; exact T3.out
        clear hW3 H3 T3 c72 f72
        refine (mix_calls h (wd ys (ys.length / 64)) (over64 bs r ex) (n + k) W3 H4 T4.2 HAX.out.hne (over64_length _ _ _ hb (by omega)) (W_wd _ _)).mono ?_
        rintro en w4 ⟨rfl, hm4⟩
        have HF := Hs_full (s := ex) hb HT.out (by rw [HX.out, ← HR.out]; exact hf)
        have A4 : Hid (Ax w h (ys ++ ex) w4) := by
          refine Lib.hid ⟨⟨over64 bs r ex, over64_length _ _ _ hb (by omega), ?_, ?_⟩, hm4.rk, hm4.hne, grown_trans T4.1 hm4.turn⟩
          · rw [HF.2.1, HF.1, List.take_zero, List.drop_of_length_le]
            have h1 := HF.1
            have h2 := HF.2.1
            omega
          · have e1 : (ys ++ ex).length = n + k := by rw [List.length_append, HX.out, HN.out]
            rw [HF.1, HF.2.2, e1, ← HR.out]
            exact hm4.own
        clear hm4 HF H4 T4
        go_wp2_with fail
        refine ⟨⟨_, rfl, ⟨ys ++ ex, ?_, ?_, A4.out⟩⟩, ?_⟩
        · rw [List.length_append, HX.out, ← HN.out, HRS.out]; omega
        · rw [HE.out]; exact HRE.out
        · show (t.extract k t.size).size < t.size
          rw [HRS.out]; omega
      · have hj0 : (((n : Int) + (k : Int)) % 64 == 0) = false := by
          have h1 := HR.out; have h2 := HN.out; have h3 := HK.out
          rw [beq_eq_false_iff_ne]
          omega
        go_wp2_with fail
        have hlt : ys.length % 64 + ex.length < 64 := by have h1 := HR.out; have h2 := HX.out; have h3 := HK.out; omega
        obtain ⟨h5, h6⟩ := Hs_short (s := ex) hb HT.out hlt
        have e1 : (ys ++ ex).length = n + k := by rw [List.length_append, HX.out, HN.out]
        refine ⟨⟨_, rfl, ⟨ys ++ ex, ?_, ?_, ⟨⟨over64 bs r ex, over64_length _ _ _ hb (by omega), ?_, ?_⟩, T3.out.2, HAX.out.hne, T3.out.1⟩⟩⟩, ?_⟩
        · rw [e1, HRS.out]; omega
        · rw [HE.out]; exact HRE.out
        · rw [HR.out]; exact h6
        · rw [h5, e1]; exact H3.out
        · show (t.extract k t.size).size < t.size
          rw [HRS.out]; omega
    · have ht0 : ¬ (0 : Int) < (t.size : Int) := by omega
      have hnil : Hid (ys ++ t.data.toList = ys) := by
        show _ = _
        rw [List.eq_nil_of_length_eq_zero (show t.data.toList.length = 0 from (show t.data.toList.length = t.size by simp).trans (by omega)), List.append_nil]
      go_wp2_with fail
      go_end0
      exact ⟨rfl, by rw [hnil.out]; exact hax⟩
end Go.Proofs.YtdoadmkaoboncaaGreatDoor.dig
