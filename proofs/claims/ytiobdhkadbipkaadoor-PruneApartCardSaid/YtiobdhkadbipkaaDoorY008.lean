/- Texts laid into one: PruG, TreeQ, FltK, PruQ, HeadQ, Strs, Lvs. -/
import Derived.Test.YtiobdhkadbipkaaDoorY007
import Derived.Test.YtiobdhkadbipkaaDoorY002
import Derived.Test.YtiobdhkadbipkaaDoorRows
import Derived.LaidMore
import Derived.ProofKit
import Derived.Stop.LaidErr
import Derived.Test.YtiobdhkadbipkaaDoorY006
import Derived.LaidLaws
import Derived.LaidHandle
import Derived.Test.YtiobdhkadbipkaaDoorY000
import Derived.SliceStrings
import Derived.OpenShut
import Derived.Deep.MidRow
import Derived.Deep.SlicePairs
import Derived.ChangeOld
import Derived.Test.YtiobdhkadbipkaaDoorY005
section
/- prune's laws: awake. -/
namespace Go.Proofs.YtiobdhkadbipkaaDoor.prn
open Go Go.RowKit Go.Proofs.YtiobdhkadbipkaaDoor.dig

/-- What prune's laws want of a world: the tables of tree's, and the handle that errors' things are told by. -/
structure Pw (w : World) : Prop where
  rt : Rt w.heap.size w
  et : flt.Et w.heap.size w
theorem Pw.below {w w' : World} (h : Pw w) (b : Below w.heap.size w w') : Pw w' := by
  have r := h.rt.below b (Nat.le_refl _)
  have e := h.et.below b (Nat.le_refl _)
  exact ⟨⟨r.rk, r.tz, ⟨Nat.lt_of_lt_of_le r.lo.1 b.size, Nat.lt_of_lt_of_le r.lo.2 b.size⟩, Nat.le_refl _⟩, ⟨e.cell, Nat.lt_of_lt_of_le e.lo b.size, Nat.le_refl _⟩⟩

theorem path_pruned (b : Nat) (a : Int) : flt.pathB [⟨b, commandB, a⟩] 14 = ⟨#[99, 111, 109, 109, 97, 110, 100, 47, 112, 114, 117, 110, 101, 100]⟩ := by rfl

/-- Path of an error of one step, known by its name. -/
theorem path_one {w : World} (hP : Pw w) {s : ByteArray} {a n : Int} {b : Nat} (he : flt.Er w.heap.size w [⟨b, s, a⟩] n) (h1 : 1 ≤ n) (h2 : n ≤ 20) (hs : s.size ≤ 1000) :
    Calls Tryd.prog 28 #[flt.ev [⟨b, s, a⟩] n] w fun en w' => en = .returned (.string (flt.pathB [⟨b, s, a⟩] n)) ∧ Below w.heap.size w w' := by
  refine flt.path_calls w.heap.size _ n w hP.et he (by simp) h1 h2 ?_
  have hw : (flt.word n).data.toList.length ≤ 1000 := by
    unfold flt.word
    rw [if_pos (by omega)]
    have : ∀ i : Fin 20, (flt.words.getD i.val ⟨#[]⟩).data.toList.length ≤ 1000 := by decide
    exact this ⟨(n - 1).toNat, by omega⟩
  have h2 : s.data.toList.length ≤ 1000 := by simpa using hs
  show (Lib.join [s.data.toList, (flt.word n).data.toList] [47]).length ≤ _
  have h3 : (Lib.join [s.data.toList, (flt.word n).data.toList] [47]).length = s.data.toList.length + 1 + (flt.word n).data.toList.length := by
    simp [Lib.join]
    try omega
  omega

set_option maxRecDepth 100000 in
set_option maxHeartbeats 4000000 in
theorem awake_calls (w : World) (hP : Pw w) : Calls Tryd.prog 18 #[] w fun en w' => en = .returned (.bool true) ∧ Below w.heap.size w w' := by
  have HP := Lib.hid hP
  have HV := Lib.hid (vnew_calls w.heap.size w hP.rt)
  clear hP
  go_enter Tryd.func18, Tryd.ntmps18
  go_wp2_with fail
  refine HV.out.mono ?_
  rintro en w1 ⟨v, rfl, hv, va, b1⟩
  have V1 := Lib.hid (show _ ∧ _ from ⟨va.fresh w.heap.size (fun _ h _ => h) (Nat.le_refl _), b1⟩)
  clear hv va b1 HV
  go_wp2_with fail
  have hs1 := V1.out.2.size
  have HA := Lib.hid ((V1.out.1.alloc (.cells #[.string ⟨#[97]⟩, .string ⟨#[98]⟩, .string ⟨#[99]⟩] 9)).add (some ⟨w1.heap.size, 0, none⟩) 3 [⟨#[97]⟩, ⟨#[98]⟩, ⟨#[99]⟩]
    ⟨Seg.whole (m := 3) (heap_alloc_new _ _) rfl (by unfold maxLen; omega), fun s hs => by
      rcases List.mem_cons.1 hs with rfl | hs
      · decide
      rcases List.mem_cons.1 hs with rfl | hs
      · decide
      rw [List.mem_singleton.1 hs]; decide⟩
    (fun x hx e => by
      have h1 : w1.heap.size = x := by simpa [Value.ownBlock] using hx
      have := e.2
      omega) (by decide))
  refine HA.out.mono ?_
  rintro en w2 ⟨rfl, v2, t2⟩
  have b2 : Below w.heap.size w w2 := (V1.out.2.alloc hs1 _).trans (t2.below (by simp; omega) (fun j hj e => by have := e.1; omega))
  have V2 := Lib.hid (show _ ∧ _ from ⟨v2.fresh w.heap.size (fun k h _ => by
    rcases h with h | h
    · exact h.1
    · simp at h; omega) (Nat.le_refl _), b2⟩)
  clear v2 t2 b2 HA V1 hs1
  rw [List.nil_append] at V2
  go_wp2_with fail
  refine (V2.out.1.keep 2 (by decide) (by decide)).mono ?_
  rintro en w3 ⟨rfl, v3, t3⟩
  have b3 : Below w.heap.size w w3 := V2.out.2.trans (t3.below V2.out.2.size (fun j hj e => by have := e.1; omega))
  have V3 := Lib.hid (show _ ∧ _ from ⟨v3.fresh w.heap.size (fun k h _ => by
    rcases h with h | h
    · exact h.1
    · have := V2.out.2.size; omega) (Nat.le_refl _), b3⟩)
  clear v3 t3 b3 V2
  go_wp2_with fail
  refine (V3.out.1.at_pruned 1 (by decide)).mono ?_
  rintro en w4 ⟨e4, rfl, he4, er4, b4⟩
  have V4 := Lib.hid (show _ ∧ _ ∧ _ from ⟨V3.out.1.below b4, V3.out.2.trans (b4.mono V3.out.2.size), er4⟩)
  clear he4 er4 b4 V3
  go_wp2_with fail
  refine (V4.out.1.at_ok 2 (by decide) ⟨#[99]⟩ rfl).mono ?_
  rintro en w5 ⟨rfl, b5⟩
  have V5 := Lib.hid (show _ ∧ _ ∧ _ from ⟨V4.out.1.below b5, V4.out.2.1.trans (b5.mono V4.out.2.1.size), (V4.out.2.2.below b5 (Nat.le_refl _)).more b5.size⟩)
  clear b5 V4
  go_wp2_with fail
  have hp := path_one (HP.out.below V5.out.2.1) V5.out.2.2 (by decide) (by decide) (by decide)
  rw [path_pruned] at hp
  have HPA := Lib.hid hp
  clear hp
  refine HPA.out.mono ?_
  rintro en w6 ⟨rfl, b6⟩
  have V6 := Lib.hid (show _ ∧ _ from ⟨V5.out.1.below b6, V5.out.2.1.trans (b6.mono V5.out.2.1.size)⟩)
  clear b6 V5 HPA
  go_wp2_with fail
  refine V6.out.1.len_calls.mono ?_
  rintro en w7 ⟨rfl, rfl⟩
  go_wp2_with fail
  refine V6.out.1.floor_calls.mono ?_
  rintro en w7 ⟨rfl, rfl⟩
  go_wp2_with fail
  go_ret
  exact ⟨rfl, V6.out.2⟩
end Go.Proofs.YtiobdhkadbipkaaDoor.prn
end

section
/- tree: what the row's list gives; the world that the program's own initialisers leave meets the rows' condition (of the rows that list digest's rounds and both tables of trailing zeros). -/
namespace Go.Proofs.YtiobdhkadbipkaaDoor.tree
open Go Go.ChangeShapes Go.WideShapes Go.ChangeAt Go.RowKit Go.Proofs.YtiobdhkadbipkaaDoor.dig

theorem gTab : Tryd.prog.globalNamed "math/bits.deBruijn64tab" = some 2 := by kernel_rfl
theorem gTabType : (Tryd.prog.globals[2]?).map (·.type) = some 153 := by kernel_rfl
theorem cellsTab : Tryd.prog.cellsOf 153 = 64 := by kernel_rfl
theorem cellsU8 : Tryd.prog.cellsOf 5 = 1 := by kernel_rfl
theorem rt_of_laid {W : World} {rest : List (String × DataW Unit)} (h : laidMet Tryd.prog (("math/bits.deBruijn32tab", Rows.laid_math_bits_deBruijn32tab) :: ("math/bits.deBruijn64tab", Rows.laid_math_bits_deBruijn64tab) :: ("hindsight/digest.rounds", Rows.laid_hindsight_digest_rounds) :: rest) W) : Rt W.heap.size W := by
  have ht : Lib.TabIs Tryd.prog W "math/bits.deBruijn64tab" .u8 (Lib.deBruijn64tab.map (Int.ofNat ·)) := Lib.tabIs_of_head (rest := ("hindsight/digest.rounds", Rows.laid_hindsight_digest_rounds) :: rest) gTab gTabType Tryd.underlying153 Tryd.underlying5 cellsU8 cellsTab h.tail
  have hk : Rk W := rk_of_laid (rest := rest) h.tail.tail
  have tz : ∀ (i x : Nat), Lib.deBruijn64tab[i]? = some x → W.cell? ⟨2, i, none⟩ = some (.int .u8 (x : Int)) := fun i x hx => by
    have hi : i < Lib.deBruijn64tab.length := (List.getElem?_eq_some_iff.1 hx).1
    have := ht.cell gTab i (by rw [List.length_map]; exact hi)
    rw [this]
    have e : (Lib.deBruijn64tab.map (Int.ofNat ·)).getD i 0 = (x : Int) := by
      rw [List.getD_eq_getElem?_getD, List.getElem?_map, hx]
      rfl
    rw [e]
  refine ⟨hk, tz, ⟨hk.lt, ?_⟩, Nat.le_refl _⟩
  have h0 := tz 0 0 rfl
  unfold World.cell? at h0
  rcases Nat.lt_or_ge 2 W.heap.size with k | k
  · exact k
  · simp [Array.getElem?_eq_none k] at h0

theorem door_met (os : Os) (args : Array Value) : laidMetH Tryd.prog [("math/bits.deBruijn32tab", Rows.laid_math_bits_deBruijn32tab), ("math/bits.deBruijn64tab", Rows.laid_math_bits_deBruijn64tab), ("hindsight/digest.rounds", Rows.laid_hindsight_digest_rounds)] ((World.doorLaid Tryd.prog 31 os).forCall (fun _ _ => 0) ⟨#[], args, []⟩).memory :=
  laidMetH_of_parts3 (fuel := 8) (laidMet_of_run' 8 (by kernel_rfl) (by kernel_rfl)) (by kernel_rfl) (by kernel_rfl)
theorem door_shaped (os : Os) (args : Array Value) : ((World.doorLaid Tryd.prog 31 os).forCall (fun _ _ => 0) ⟨#[], args, []⟩).Shaped Tryd.prog :=
  World.shaped_of_RefB (by kernel_rfl) (by kernel_rfl)
end Go.Proofs.YtiobdhkadbipkaaDoor.tree
end

section
/- fault: errors.errorType's cell out of what the row lists; the world that the program's own initialisers leave meets the rows' condition. -/
namespace Go.Proofs.YtiobdhkadbipkaaDoor.flt
open Go Go.ChangeShapes Go.WideShapes Go.ChangeAt Go.RowKit

theorem etG : Tryd.prog.globalNamed "errors.errorType" = some 0 := by kernel_rfl
theorem etRt : (Tryd.prog.cutTypes.find? (·.1 == "internal/reflectlite.rtype")).map (·.2) = some 160 := by kernel_rfl
theorem etRow : ((List.range Tryd.prog.types.size).filter fun t => Tryd.prog.rowNamed t [101, 114, 114, 111, 114]) = [44] := by kernel_rfl

theorem et_of_laid {W : World} (h : laidMetH Tryd.prog [("errors.errorType", Rows.laid_errors_errorType)] W) : Et W.heap.size W := by
  have h' : laidMet Tryd.prog [] W ∧ handlesMet Tryd.prog [("errors.errorType", Rows.laid_errors_errorType)] W := h
  obtain ⟨name, u, ty, e1, e2, e3, e4, e5⟩ := h'.2 _ (List.mem_singleton.2 rfl)
  have en : name = [101, 114, 114, 111, 114] := (Option.some.inj e1).symm
  subst en
  obtain rfl := Option.some.inj (etRt.symm.trans e2)
  have hm : ty ∈ (List.range Tryd.prog.types.size).filter fun t => Tryd.prog.rowNamed t [101, 114, 114, 111, 114] := List.mem_filter.2 ⟨List.mem_range.2 e3, e4⟩
  rw [etRow] at hm
  obtain rfl := List.mem_singleton.1 hm
  have hh : typeHandle Tryd.prog 44 = .pointer (some ⟨5, 44, none⟩) := by kernel_rfl
  rw [hh] at e5
  have hc : W.cell? ⟨0, 0, none⟩ = some (.iface 160 (.agg #[.pointer (some ⟨5, 44, none⟩)])) := by simpa using World.var?_cell etG e5 0
  refine ⟨hc, ?_, Nat.le_refl _⟩
  unfold World.cell? at hc
  rcases Nat.lt_or_ge 0 W.heap.size with k | k
  · exact k
  · simp [Array.getElem?_eq_none k] at hc

theorem door_met (os : Os) (args : Array Value) : laidMetH Tryd.prog [("errors.errorType", Rows.laid_errors_errorType)] ((World.doorLaid Tryd.prog 31 os).forCall (fun _ _ => 0) ⟨#[], args, []⟩).memory :=
  laidMetH_of_parts ⟨[], rfl, List.nodup_nil, fun _ _ h => by cases h⟩ (by kernel_rfl)
theorem door_shaped (os : Os) (args : Array Value) : ((World.doorLaid Tryd.prog 31 os).forCall (fun _ _ => 0) ⟨#[], args, []⟩).Shaped Tryd.prog :=
  World.shaped_of_RefB (by kernel_rfl) (by kernel_rfl)
end Go.Proofs.YtiobdhkadbipkaaDoor.flt
end

section
/- prune: what the rows' list gives; the world that the program's own initialisers leave meets the rows' condition. -/
namespace Go.Proofs.YtiobdhkadbipkaaDoor.prn
open Go Go.ChangeShapes Go.WideShapes Go.ChangeAt Go.RowKit Go.Proofs.YtiobdhkadbipkaaDoor.dig

theorem pw_of_laid {W : World} (h : laidMetH Tryd.prog [("math/bits.deBruijn32tab", Rows.laid_math_bits_deBruijn32tab), ("math/bits.deBruijn64tab", Rows.laid_math_bits_deBruijn64tab), ("hindsight/digest.rounds", Rows.laid_hindsight_digest_rounds), ("errors.errorType", Rows.laid_errors_errorType)] W) : Pw W := by
  have h' : laidMet Tryd.prog [("math/bits.deBruijn32tab", Rows.laid_math_bits_deBruijn32tab), ("math/bits.deBruijn64tab", Rows.laid_math_bits_deBruijn64tab), ("hindsight/digest.rounds", Rows.laid_hindsight_digest_rounds)] W ∧ handlesMet Tryd.prog [("errors.errorType", Rows.laid_errors_errorType)] W := h
  have h2 : laidMet Tryd.prog [] W ∧ handlesMet Tryd.prog [("errors.errorType", Rows.laid_errors_errorType)] W := ⟨⟨[], rfl, List.nodup_nil, fun _ _ h => by cases h⟩, h'.2⟩
  exact ⟨tree.rt_of_laid (rest := []) h'.1, flt.et_of_laid h2⟩
theorem door_met (os : Os) (args : Array Value) : laidMetH Tryd.prog [("math/bits.deBruijn32tab", Rows.laid_math_bits_deBruijn32tab), ("math/bits.deBruijn64tab", Rows.laid_math_bits_deBruijn64tab), ("hindsight/digest.rounds", Rows.laid_hindsight_digest_rounds), ("errors.errorType", Rows.laid_errors_errorType)] ((World.doorLaid Tryd.prog 31 os).forCall (fun _ _ => 0) ⟨#[], args, []⟩).memory :=
  laidMetH_of_parts3 (fuel := 8) (laidMet_of_run' 8 (by kernel_rfl) (by kernel_rfl)) (by kernel_rfl) (by kernel_rfl)
theorem door_shaped (os : Os) (args : Array Value) : ((World.doorLaid Tryd.prog 31 os).forCall (fun _ _ => 0) ⟨#[], args, []⟩).Shaped Tryd.prog :=
  World.shaped_of_RefB (by kernel_rfl) (by kernel_rfl)
end Go.Proofs.YtiobdhkadbipkaaDoor.prn
end

section
/- proof: heads compared. -/
namespace Go.Proofs.YtiobdhkadbipkaaDoor.prf
open Go Go.RowKit Go.Proofs.YtiobdhkadbipkaaDoor.dig

theorem headFields : ∃ f0 f1 : Field, (Tryd.prog.fieldsOf 48).toList = [f0, f1] ∧ f0.name = "N" ∧ f0.type = 3 ∧ f0.offset = 0 ∧ f1.name = "Root" ∧ f1.type = 32 ∧ f1.offset = 1 := by
  have h : (Tryd.prog.fieldsOf 48).toList.map (fun f => (f.name, f.type, f.offset)) = [("N", 3, 0), ("Root", 32, 1)] := by kernel_rfl
  generalize (Tryd.prog.fieldsOf 48).toList = l at h
  rcases l with _ | ⟨f0, _ | ⟨f1, _ | ⟨f2, l⟩⟩⟩
  · simp at h
  · simp at h
  · simp only [List.map_cons, List.map_nil, List.cons.injEq, Prod.mk.injEq, and_true] at h
    exact ⟨f0, f1, rfl, h.1.1, h.1.2.1, h.1.2.2, h.2.1, h.2.2.1, h.2.2.2⟩
  · simp at h

theorem headC_cut (n : Int) (xs : List UInt8) (h : xs.length = 32) : (headC n xs).extract 1 (1 + 32) = cellsOf xs := by
  unfold headC cellsOf
  apply Array.toList_inj.1
  simp [h, List.take_of_length_le]

theorem hq_p0 (n : Int) (xs : List UInt8) (w : World) : (part 3 (headC n xs) 0).run Tryd.prog w = .ok (.int .i64 n) w := by
  have h0 : (headC n xs)[0]? = some (.int .i64 n) := by simp [headC]
  simp [part, Tryd.isAgg3, h0]
theorem hq_q0 (n : Int) (xs : List UInt8) (hx : xs.length = 32) (w : World) : (part 32 (headC n xs) 1).run Tryd.prog w = .ok (.agg (cellsOf xs)) w := by
  have h0 := headC_cut n xs hx
  simp only [part, Sem.run_bind, Tryd.isAgg32, Tryd.sizeOf32, Result.andThen_ok, if_true, Sem.run_pure, h0]
theorem eqFields_cons {P : Program} (d : Nat) (xs ys : Array Value) (f : Field) (fs : List Field) (hn : f.name ≠ "_") (a b : Value) (r : Bool) (w : World)
    (ha : (part f.type xs f.offset).run P w = .ok a w) (hb : (part f.type ys f.offset).run P w = .ok b w) (hr : (Op.equalIn d f.type a b).run P w = .ok r w) :
    (Op.eqFields d xs ys (f :: fs)).run P w = if r = true then (Op.eqFields d xs ys fs).run P w else .ok false w := by
  rw [Op.eqFields, if_pos hn]
  simp only [Sem.run_bind, ha, hb, hr, Result.andThen_ok]
  cases r <;> simp
theorem hq_fields (d : Nat) (n m : Int) (xs ys : List UInt8) (hx : xs.length = 32) (hy : ys.length = 32) (w : World) (f0 f1 : Field) (a1 : f0.name = "N") (a2 : f0.type = 3) (a3 : f0.offset = 0) (b1 : f1.name = "Root") (b2 : f1.type = 32) (b3 : f1.offset = 1) :
    (Op.eqFields (d + 2) (headC n xs) (headC m ys) [f0, f1]).run Tryd.prog w = .ok (n == m && xs == ys) w := by
  have hs := run_equalIn_bytes (P := Tryd.prog) d (t := 32) (e := 5) 32 Tryd.underlying32 Tryd.underlying5 (by kernel_rfl) xs ys hx hy w
  have hi : (Op.equalIn (d + 2) 3 (.int .i64 n) (.int .i64 m)).run Tryd.prog w = .ok (n == m) w := run_equalIn_int w (P := Tryd.prog) (d + 1) 3 .i64 .i64 n m Tryd.underlying3
  rw [eqFields_cons (d + 2) _ _ f0 [f1] (by rw [a1]; decide) (.int .i64 n) (.int .i64 m) (n == m) w (by rw [a2, a3]; exact hq_p0 n xs w) (by rw [a2, a3]; exact hq_p0 m ys w) (by rw [a2]; exact hi)]
  rw [eqFields_cons (d + 2) _ _ f1 [] (by rw [b1]; decide) (.agg (cellsOf xs)) (.agg (cellsOf ys)) (xs == ys) w (by rw [b2, b3]; exact hq_q0 n xs hx w) (by rw [b2, b3]; exact hq_q0 m ys hy w) (by rw [b2]; exact hs)]
  have h0 : (Op.eqFields (d + 2) (headC n xs) (headC m ys) []).run Tryd.prog w = .ok true w := by unfold Op.eqFields; simp
  rw [h0]
  cases n == m <;> cases xs == ys <;> simp
theorem run_equalIn_head (d : Nat) (n m : Int) (xs ys : List UInt8) (hx : xs.length = 32) (hy : ys.length = 32) (w : World) :
    (Op.equalIn (d + 2 + 1) 48 (.agg (headC n xs)) (.agg (headC m ys))).run Tryd.prog w = .ok (n == m && xs == ys) w := by
  rw [run_equalIn_struct w (d + 2) 48 _ _ (by kernel_rfl) (by kernel_rfl)]
  obtain ⟨f0, f1, hf, a1, a2, a3, b1, b2, b3⟩ := headFields
  rw [hf]
  exact hq_fields d n m xs ys hx hy w f0 f1 a1 a2 a3 b1 b2 b3
theorem run_eql_head (n m : Int) (xs ys : List UInt8) (hx : xs.length = 32) (hy : ys.length = 32) (w : World) :
    (binOp .eql 48 (.agg (headC n xs)) (.agg (headC m ys))).run Tryd.prog w = .ok (.bool (n == m && xs == ys)) w := by
  rw [run_eql_struct, run_equalIn_head 9997 n m xs ys hx hy]
  rfl
theorem run_eql_head_same (n : Int) (xs : List UInt8) (hx : xs.length = 32) (w : World) :
    (binOp .eql 48 (.agg (headC n xs)) (.agg (headC n xs))).run Tryd.prog w = .ok (.bool true) w := by
  rw [run_eql_head n n xs xs hx hx]
  simp
end Go.Proofs.YtiobdhkadbipkaaDoor.prf
end

section
/- A slice of strings that is handed in: what a law may read of it. -/
namespace Go.Proofs.YtiobdhkadbipkaaDoor
open Go.ChangeShapes Go.WideShapes Go.ChangeAt Go.RowKit

/-- The strings T lie from a on. -/
def ArgS (w : World) (a : Option Addr) (len cap : Nat) (T : Nat → ByteArray) : Prop :=
  len ≤ cap ∧ cap ≤ maxLen ∧ ∀ i, i < len → ∃ b o, a = some ⟨b, o, none⟩ ∧ b < w.heap.size ∧ w.cell? ⟨b, o + i, none⟩ = some (.string (T i)) ∧ (T i).size ≤ maxLen

theorem openedStrs {H : Type} {enc : TypeId × Value → H} {w : World} {spare : Nat → Bool} {held : Bool} {a : Option Addr} {len cap : Nat} {d : DataW H} {p : List MemPlace} (h : DataW.Trod enc Tryd.prog w 0 spare held 22 (.slice a len cap) d p) : ∃ T, ArgS w a len cap T := by
  obtain ⟨fuel, h⟩ := h
  rcases open_strings Tryd.underlying22 Tryd.underlying9 (by kernel_rfl) h with ⟨hn, _⟩ | ⟨g, l, c, zs, hn, _, hlc, hcm, hm, _, hall, hwf⟩
  · simp [Value.cells] at hn
    obtain ⟨rfl, rfl, rfl⟩ := hn
    exact ⟨fun _ => ByteArray.empty, Nat.le_refl _, Nat.zero_le _, fun i hi => absurd hi (Nat.not_lt_zero _)⟩
  · simp [Value.cells] at hn
    obtain ⟨rfl, rfl, rfl⟩ := hn
    refine ⟨fun i => zs.getD i ByteArray.empty, hlc, hcm, fun i hi => ?_⟩
    have hi' : i < zs.length := by rw [hm]; split <;> omega
    have h0 := hall i hi'
    have hs : g.spot = none := by
      have h00 := hall 0 (by omega)
      simpa [Addr.add] using World.cell?_spot h00
    obtain ⟨gb, go, gs⟩ := g
    obtain rfl : gs = none := hs
    have e0 : (⟨gb, go, none⟩ : Addr).add i = ⟨gb, go + i, none⟩ := Addr.add_mid _ _ _
    rw [e0] at h0
    have hw : (zs.getD i ByteArray.empty).size ≤ maxLen := hwf _ (by
      have : zs.getD i ByteArray.empty = zs[i] := by simp [hi']
      rw [this]; exact List.getElem_mem hi')
    have hb : gb < w.heap.size := by
      rcases Nat.lt_or_ge gb w.heap.size with k | k
      · exact k
      · unfold World.cell? at h0
        simp [Array.getElem?_eq_none k] at h0
    exact ⟨gb, go, rfl, hb, h0, hw⟩

end Go.Proofs.YtiobdhkadbipkaaDoor
end

section
/- tree's laws: Leaves. -/
namespace Go.Proofs.YtiobdhkadbipkaaDoor.dig
open Go Go.RowKit

theorem strInfo : ∃ i z, Tryd.prog.info? 9 = some i ∧ i.zero = some z ∧ i.size = 1 ∧ z.cells.size = 1 ∧ i.bytes = 16 := by
  have h2 : (Tryd.prog.info? 9).map (fun i => (i.zero.map (fun z => z.cells.size), i.size, i.bytes)) = some (some 1, 1, 16) := by kernel_rfl
  obtain ⟨i, hi, e⟩ := Option.map_eq_some_iff.1 h2
  simp only [Prod.mk.injEq] at e
  obtain ⟨e1, e2, e3⟩ := e
  obtain ⟨z, hz, e4⟩ := Option.map_eq_some_iff.1 e1
  exact ⟨i, z, hi, hz, e2, e4, e3⟩

theorem enc_size (k : Nat) (h1 : k < 128) : (Utf8.encode (k : Int)).size = 1 := by
  unfold Utf8.encode
  have h2 : (k : Int).toNat = k := by omega
  have h3 : Utf8.valid (k : Int) = true := by
    unfold Utf8.valid
    simp
    omega
  rw [if_pos h3, h2, if_pos (by omega)]
  rfl

theorem and_mask (n : Int) (k : Nat) (hk : k ≤ 8) : bits .and .i64 n ((2 ^ k : Nat) - 1 : Int) = n % ((2 ^ k : Nat) : Int) := by
  have h255 : (BitVec.ofInt 64 ((2 ^ k : Nat) - 1 : Int)).toNat = 2 ^ k - 1 := by
    have : k = 0 ∨ k = 1 ∨ k = 2 ∨ k = 3 ∨ k = 4 ∨ k = 5 ∨ k = 6 ∨ k = 7 ∨ k = 8 := by omega
    rcases this with h | h | h | h | h | h | h | h | h <;> subst h <;> decide
  have key : (BitVec.ofInt 64 n &&& BitVec.ofInt 64 ((2 ^ k : Nat) - 1 : Int)).toNat = (n % ((2 ^ 64 : Nat) : Int)).toNat % 2 ^ k := by
    rw [BitVec.toNat_and, BitVec.toNat_ofInt, h255, Nat.and_two_pow_sub_one_eq_mod]
  show IntKind.i64.wrap ((BitVec.ofInt 64 n &&& BitVec.ofInt 64 ((2 ^ k : Nat) - 1 : Int)).toNat : Nat) = n % ((2 ^ k : Nat) : Int)
  rw [key, IntKind.wrap_i64]
  have : k = 0 ∨ k = 1 ∨ k = 2 ∨ k = 3 ∨ k = 4 ∨ k = 5 ∨ k = 6 ∨ k = 7 ∨ k = 8 := by omega
  rcases this with h | h | h | h | h | h | h | h | h <;> subst h <;> simp only [Nat.reducePow] <;> omega
theorem and255 (n : Int) : bits .and .i64 n 255 = n % 256 := and_mask n 8 (by decide)
theorem and7 (n : Int) : bits .and .i64 n 7 = n % 8 := and_mask n 3 (by decide)

def Stay (p : Prop) := p
theorem stay {p : Prop} (h : Stay p) : p := h
/-- Texts were answered, in new memory. -/
def LvsPost (w : World) (m : Nat) (en : Ending) (w' : World) : Prop :=
  ∃ v L, en = .returned v ∧ Strs w' v L ∧ L.length = m ∧ (∀ x, v.ownBlock = some x → w.heap.size ≤ x) ∧ Below w.heap.size w w' ∧ v ≠ .slice none 0 0

set_option maxRecDepth 100000 in
set_option maxHeartbeats 1000000 in
theorem leaves_calls (a : Option Addr) (len cap : Nat) (T : Nat → ByteArray) (n : Int) (w : World) (hA : ArgS w a len cap T) (hn0 : -9223372036854775808 ≤ n) (hn1 : n ≤ 9223372036854775807) :
    Calls Tryd.prog 8 #[.slice a len cap, .int .i64 n] w (LvsPost w (min (max n 0) 40).toNat) := by
  have HA := Lib.hid hA
  have hlen : (len : Int) ≤ 9223372036854775807 := by have := hA.1; have := hA.2.1; unfold maxLen at this; omega
  clear hA
  go_enter Tryd.func8, Tryd.ntmps8
  go_wp2_with fail
  go_name_world W hW
  obtain ⟨M, hM⟩ : ∃ M, M = (min (max n 0) 40).toNat := ⟨_, rfl⟩
  have hM40 : M ≤ 40 := by omega
  have S0 : Hid (Seg W 9 1 (.slice (some ⟨w.heap.size, 0, none⟩) 0 0) 0 [] ∧ (∀ x, (Value.slice (some ⟨w.heap.size, 0, none⟩) 0 0).ownBlock = some x → w.heap.size ≤ x) ∧ Below w.heap.size w W) := by
    rw [← hW]
    exact Lib.hid ⟨Seg.of_has (n := 0) (size := 1) (made_at _ _ rfl) (by simp) (by decide), fun x hx => by have e : w.heap.size = x := (by simpa [Value.ownBlock] using hx); omega, (Below.refl _ _).alloc (Nat.le_refl _) _⟩
  clear hW
  go_loopw [5, 6] (fun o i wr => ∃ (k : Nat) (L : List ByteArray), i = .int .i64 k ∧ k ≤ M ∧ L.length = k ∧ Hid (Seg wr 9 1 o k (L.map Value.string) ∧ (∀ x, o.ownBlock = some x → w.heap.size ≤ x) ∧ Below w.heap.size w wr) ∧ Hid ((∀ s ∈ L, s.size ≤ 1000) ∧ o ≠ .slice none 0 0)) (fun _ i _ => M - (intOf i).toNat)
  case atStart => exact ⟨0, [], rfl, Nat.zero_le _, rfl, S0, Lib.hid ⟨fun s hs => (by cases hs), fun e => by cases e⟩⟩
  case round =>
    obtain ⟨k, L, rfl, hk, hL, HS, HL⟩ := hrel
    clear S0
    have hk0 : (0 : Int) ≤ (k : Int) := by omega
    have hk40 : (k : Int) ≤ 40 := by omega
    have HCH : Hid ((Utf8.encode (97 + (k : Int) % 26)).size ≤ 4) := Lib.hid (by rw [show 97 + (k : Int) % 26 = ((97 + k % 26 : Nat) : Int) by omega, enc_size _ (by omega)]; decide)
    by_cases hkM : k < M
    · have ht : (k : Int) < min (max n 0) 40 := by omega
      obtain ⟨i0, z0, hi0, hz0, hz1, hz2, hz3⟩ := strInfo
      have HI0 := Lib.hid hi0
      have HZ0 := Lib.hid hz0
      have hks : 0 < k ∨ 0 ≤ k := by omega
      clear hi0 hz0 hks
      by_cases hl0 : len = 0
      case' pos =>
        subst hl0
        have HCS : Hid ((Utf8.encode (97 + (k : Int) % 26)).size ≤ 1000) := Lib.hid (by have := HCH.out; omega)
        clear HCH
        have HCUT : Hid True := Lib.hid trivial
        have hlp : ¬ (0 : Int) < 0 := by decide
      case' neg =>
        have hlp : (len : Int) > 0 := by omega
        have hrl : k % len < len := Nat.mod_lt _ (by omega)
        obtain ⟨gb, go, ha, hgb, hcell, hsz⟩ := HA.out.2.2 (k % len) hrl
        subst ha
        have c0 : wr.cell? ⟨gb, go + k % len, none⟩ = some (.string (T (k % len))) := by
          rw [← hcell]; unfold World.cell?; rw [HS.out.2.2.block gb hgb]
        obtain ⟨t0, ht0⟩ : ∃ t0, t0 = T (k % len) := ⟨_, rfl⟩
        rw [← ht0] at c0 hsz
        have HSZ := Lib.hid hsz
        obtain ⟨p', hp, hp2⟩ := cut_size t0 10
        have HP2 := Lib.hid hp2
        have HCUT : Hid (Calls Tryd.prog 19 #[.string t0, .int .i64 10] wr fun en w' => en = .returned (.string p') ∧ wr = w') := Lib.hid (by rw [← hp]; exact cut_any t0 10 wr (by decide) HSZ.out)
        clear hp hp2 HSZ hcell hsz hl0 ht0
        have hrl2 : (k : Int) % (len : Int) < (len : Int) := by omega
        have hrl3 : (0 : Int) ≤ (k : Int) % (len : Int) := Int.emod_nonneg _ (by omega)
        have HCS : Hid ((Utf8.encode (97 + (k : Int) % 26) ++ p').size ≤ 1000) := Lib.hid (by rw [ByteArray.size_append]; have := HCH.out; have := HP2.out; omega)
        clear HP2 HCH
      all_goals
        go_wp2_with (first
          | ((with_reducible refine at_op 23 ?_); refine stay ?_)
          | fail)
        unfold Stay
        generalize Utf8.encode (97 + (k : Int) % 26) = ch at *
        have hcc := HCS.out
        try rw [ByteArray.size_append] at hcc
        go_wp2_with (first
        | (go_at_call 19; refine HCUT.out.mono ?_; rintro e w' ⟨rfl, rfl⟩)
        | ((with_reducible refine at_op 37 ?_); refine wpList_append_seg (o := ⟨some 37, _, _, _, _, _⟩) _ rfl (.tmp 34) (.tmp 36) 22 rfl 9 i0 z0 1 16 Tryd.underlying22 HI0.out HZ0.out hz1 hz3 hz2 (by decide) u5 k (L.map Value.string) rfl (HS.out.1.alloc _) ⟨wr.heap.size, 0, none⟩ 1 1 [.string _] rfl rfl (World.news_of_block (heap_alloc_new _ _)) (by simp [Value.oneCell']) (by decide) (by unfold maxLen; omega) (by omega) _ rfl ?_;
           intro g off cp w4 hown hgrow hat hlt)
        | fail)
        refine ⟨⟨k + 1, L ++ [_], by rw [Int.natCast_add]; rfl, by omega, by rw [List.length_append, hL]; rfl, Lib.hid ⟨by rw [List.map_append]; exact hown, fun x hx => ?_, ?_⟩, Lib.hid ⟨fun t ht => ?_, fun e => by cases e⟩⟩, ?_⟩
        · have e : g = x := by simpa [Value.ownBlock] using hx
          rw [← e]
          rcases hat with h | h
          · exact HS.out.2.1 g h
          · rw [h]; exact Nat.le_trans HS.out.2.2.size (by simp)
        · exact (HS.out.2.2.alloc HS.out.2.2.size _).trans (below_own hgrow HS.out.2.1 (Nat.le_trans HS.out.2.2.size (by simp)))
        · rcases List.mem_append.1 ht with h | h
          · exact HL.out.1 t h
          · rw [List.mem_singleton.1 h]; exact HCS.out
        · show M - ((k : Int) + 1).toNat < M - ((k : Int)).toNat
          omega
    · have ht : ¬ (k : Int) < min (max n 0) 40 := by omega
      go_wp2_with fail
      go_ret
      refine ⟨_, L, rfl, ⟨?_, fun s hs => by have := HL.out.1 s hs; omega⟩, by omega, HS.out.2.1, HS.out.2.2, HL.out.2⟩
      rw [hL]
      exact HS.out.1
end Go.Proofs.YtiobdhkadbipkaaDoor.dig
end

