/- Texts laid into one: PruG, TreeQ, FltK, PruQ, PrfM, PruM, PruH. -/
import Derived.Test.YtdlkdgajoafkaaaGreatDoorY007
import Derived.Test.YtdlkdgajoafkaaaGreatDoorY002
import Derived.Test.YtdlkdgajoafkaaaGreatDoorRows
import Derived.LaidMore
import Derived.ProofKit
import Derived.Stop.LaidErr
import Derived.Test.YtdlkdgajoafkaaaGreatDoorY006
import Derived.LaidLaws
import Derived.LaidHandle
import Derived.Test.YtdlkdgajoafkaaaGreatDoorY001
import Derived.Test.YtdlkdgajoafkaaaGreatDoorY005
section
/- prune's laws: awake. -/
namespace Go.Proofs.YtdlkdgajoafkaaaGreatDoor.prn
open Go Go.RowKit Go.Proofs.YtdlkdgajoafkaaaGreatDoor.dig

/-- What prune's laws want of a world: the tables of tree's, and the handle that errors' things are told by. -/
structure Pw (w : World) : Prop where
  rt : Rt w.heap.size w
  et : flt.Et w.heap.size w
theorem Pw.below {w w' : World} (h : Pw w) (b : Below w.heap.size w w') : Pw w' := by
  have r := h.rt.below b (Nat.le_refl _)
  have e := h.et.below b (Nat.le_refl _)
  exact ⟨⟨r.rk, r.tz, ⟨Nat.lt_of_lt_of_le r.lo.1 b.size, Nat.lt_of_lt_of_le r.lo.2 b.size⟩, Nat.le_refl _⟩, ⟨e.cell, Nat.lt_of_lt_of_le e.lo b.size, Nat.le_refl _⟩⟩

theorem path_pruned (b : Nat) (a : Int) : flt.pathB [⟨b, commandB, a⟩] 14 = ⟨#[99, 111, 109, 109, 97, 110, 100, 47, 112, 114, 117, 110, 101, 100]⟩ := by rfl

/-- Path of an error of one step, known by its name. -/
theorem path_one {w : World} (hP : Pw w) {s : ByteArray} {a n : Int} {b : Nat} (he : flt.Er w.heap.size w [⟨b, s, a⟩] n) (h1 : 1 ≤ n) (h2 : n ≤ 20) (hs : s.size ≤ 1000) :
    Calls Tryz.prog 12 #[flt.ev [⟨b, s, a⟩] n] w fun en w' => en = .returned (.string (flt.pathB [⟨b, s, a⟩] n)) ∧ Below w.heap.size w w' := by
  refine flt.path_calls w.heap.size _ n w hP.et he (by simp) h1 h2 ?_
  have hw : (flt.word n).data.toList.length ≤ 1000 := by
    unfold flt.word
    rw [if_pos (by omega)]
    have : ∀ i : Fin 20, (flt.words.getD i.val ⟨#[]⟩).data.toList.length ≤ 1000 := by decide
    exact this ⟨(n - 1).toNat, by omega⟩
  have h2 : s.data.toList.length ≤ 1000 := by simpa using hs
  show (Lib.join [s.data.toList, (flt.word n).data.toList] [47]).length ≤ _
  have h3 : (Lib.join [s.data.toList, (flt.word n).data.toList] [47]).length = s.data.toList.length + 1 + (flt.word n).data.toList.length := by
    simp [Lib.join]
    try omega
  omega

set_option maxRecDepth 100000 in
set_option maxHeartbeats 4000000 in
theorem awake_calls (w : World) (hP : Pw w) : Calls Tryz.prog 4 #[] w fun en w' => en = .returned (.bool true) ∧ Below w.heap.size w w' := by
  have HP := Lib.hid hP
  have HV := Lib.hid (vnew_calls w.heap.size w hP.rt)
  clear hP
  go_enter Tryz.func4, Tryz.ntmps4
  go_wp2_with fail
  refine HV.out.mono ?_
  rintro en w1 ⟨v, rfl, hv, va, b1⟩
  have V1 := Lib.hid (show _ ∧ _ from ⟨va.fresh w.heap.size (fun _ h _ => h) (Nat.le_refl _), b1⟩)
  clear hv va b1 HV
  go_wp2_with fail
  have hs1 := V1.out.2.size
  have HA := Lib.hid ((V1.out.1.alloc (.cells #[.string ⟨#[97]⟩, .string ⟨#[98]⟩, .string ⟨#[99]⟩] 9)).add (some ⟨w1.heap.size, 0, none⟩) 3 [⟨#[97]⟩, ⟨#[98]⟩, ⟨#[99]⟩]
    ⟨Seg.whole (m := 3) (heap_alloc_new _ _) rfl (by unfold maxLen; omega), fun s hs => by
      rcases List.mem_cons.1 hs with rfl | hs
      · decide
      rcases List.mem_cons.1 hs with rfl | hs
      · decide
      rw [List.mem_singleton.1 hs]; decide⟩
    (fun x hx e => by
      have h1 : w1.heap.size = x := by simpa [Value.ownBlock] using hx
      have := e.2
      omega) (by decide))
  refine HA.out.mono ?_
  rintro en w2 ⟨rfl, v2, t2⟩
  have b2 : Below w.heap.size w w2 := (V1.out.2.alloc hs1 _).trans (t2.below (by simp; omega) (fun j hj e => by have := e.1; omega))
  have V2 := Lib.hid (show _ ∧ _ from ⟨v2.fresh w.heap.size (fun k h _ => by
    rcases h with h | h
    · exact h.1
    · simp at h; omega) (Nat.le_refl _), b2⟩)
  clear v2 t2 b2 HA V1 hs1
  rw [List.nil_append] at V2
  go_wp2_with fail
  refine (V2.out.1.keep 2 (by decide) (by decide)).mono ?_
  rintro en w3 ⟨rfl, v3, t3⟩
  have b3 : Below w.heap.size w w3 := V2.out.2.trans (t3.below V2.out.2.size (fun j hj e => by have := e.1; omega))
  have V3 := Lib.hid (show _ ∧ _ from ⟨v3.fresh w.heap.size (fun k h _ => by
    rcases h with h | h
    · exact h.1
    · have := V2.out.2.size; omega) (Nat.le_refl _), b3⟩)
  clear v3 t3 b3 V2
  go_wp2_with fail
  refine (V3.out.1.at_pruned 1 (by decide)).mono ?_
  rintro en w4 ⟨e4, rfl, he4, er4, b4⟩
  have V4 := Lib.hid (show _ ∧ _ ∧ _ from ⟨V3.out.1.below b4, V3.out.2.trans (b4.mono V3.out.2.size), er4⟩)
  clear he4 er4 b4 V3
  go_wp2_with fail
  refine (V4.out.1.at_ok 2 (by decide) ⟨#[99]⟩ rfl).mono ?_
  rintro en w5 ⟨rfl, b5⟩
  have V5 := Lib.hid (show _ ∧ _ ∧ _ from ⟨V4.out.1.below b5, V4.out.2.1.trans (b5.mono V4.out.2.1.size), (V4.out.2.2.below b5 (Nat.le_refl _)).more b5.size⟩)
  clear b5 V4
  go_wp2_with fail
  have hp := path_one (HP.out.below V5.out.2.1) V5.out.2.2 (by decide) (by decide) (by decide)
  rw [path_pruned] at hp
  have HPA := Lib.hid hp
  clear hp
  refine HPA.out.mono ?_
  rintro en w6 ⟨rfl, b6⟩
  have V6 := Lib.hid (show _ ∧ _ from ⟨V5.out.1.below b6, V5.out.2.1.trans (b6.mono V5.out.2.1.size)⟩)
  clear b6 V5 HPA
  go_wp2_with fail
  refine V6.out.1.len_calls.mono ?_
  rintro en w7 ⟨rfl, rfl⟩
  go_wp2_with fail
  refine V6.out.1.floor_calls.mono ?_
  rintro en w7 ⟨rfl, rfl⟩
  go_wp2_with fail
  go_ret
  exact ⟨rfl, V6.out.2⟩
end Go.Proofs.YtdlkdgajoafkaaaGreatDoor.prn
end

section
/- tree: what the row's list gives; the world that the program's own initialisers leave meets the rows' condition (of the rows that list digest's rounds and both tables of trailing zeros). -/
namespace Go.Proofs.YtdlkdgajoafkaaaGreatDoor.tree
open Go Go.ChangeShapes Go.WideShapes Go.ChangeAt Go.RowKit Go.Proofs.YtdlkdgajoafkaaaGreatDoor.dig

theorem gTab : Tryz.prog.globalNamed "math/bits.deBruijn64tab" = some 3 := by kernel_rfl
theorem gTabType : (Tryz.prog.globals[3]?).map (·.type) = some 171 := by kernel_rfl
theorem cellsTab : Tryz.prog.cellsOf 171 = 64 := by kernel_rfl
theorem cellsU8 : Tryz.prog.cellsOf 5 = 1 := by kernel_rfl
theorem rt_of_laid {W : World} {rest : List (String × DataW Unit)} (h : laidMet Tryz.prog (("math/bits.deBruijn32tab", Rows.laid_math_bits_deBruijn32tab) :: ("math/bits.deBruijn64tab", Rows.laid_math_bits_deBruijn64tab) :: ("hindsight/digest.rounds", Rows.laid_hindsight_digest_rounds) :: rest) W) : Rt W.heap.size W := by
  have ht : Lib.TabIs Tryz.prog W "math/bits.deBruijn64tab" .u8 (Lib.deBruijn64tab.map (Int.ofNat ·)) := Lib.tabIs_of_head (rest := ("hindsight/digest.rounds", Rows.laid_hindsight_digest_rounds) :: rest) gTab gTabType Tryz.underlying171 Tryz.underlying5 cellsU8 cellsTab h.tail
  have hk : Rk W := rk_of_laid (rest := rest) h.tail.tail
  have tz : ∀ (i x : Nat), Lib.deBruijn64tab[i]? = some x → W.cell? ⟨3, i, none⟩ = some (.int .u8 (x : Int)) := fun i x hx => by
    have hi : i < Lib.deBruijn64tab.length := (List.getElem?_eq_some_iff.1 hx).1
    have := ht.cell gTab i (by rw [List.length_map]; exact hi)
    rw [this]
    have e : (Lib.deBruijn64tab.map (Int.ofNat ·)).getD i 0 = (x : Int) := by
      rw [List.getD_eq_getElem?_getD, List.getElem?_map, hx]
      rfl
    rw [e]
  refine ⟨hk, tz, ⟨hk.lt, ?_⟩, Nat.le_refl _⟩
  have h0 := tz 0 0 rfl
  unfold World.cell? at h0
  rcases Nat.lt_or_ge 3 W.heap.size with k | k
  · exact k
  · simp [Array.getElem?_eq_none k] at h0

theorem door_met (os : Os) (args : Array Value) : laidMetH Tryz.prog [("math/bits.deBruijn32tab", Rows.laid_math_bits_deBruijn32tab), ("math/bits.deBruijn64tab", Rows.laid_math_bits_deBruijn64tab), ("hindsight/digest.rounds", Rows.laid_hindsight_digest_rounds)] ((World.doorLaid Tryz.prog 31 os).forCall (fun _ _ => 0) ⟨#[], args, []⟩).memory :=
  laidMetH_of_parts3 (fuel := 8) (laidMet_of_run' 8 (by kernel_rfl) (by kernel_rfl)) (by kernel_rfl) (by kernel_rfl)
theorem door_shaped (os : Os) (args : Array Value) : ((World.doorLaid Tryz.prog 31 os).forCall (fun _ _ => 0) ⟨#[], args, []⟩).Shaped Tryz.prog :=
  World.shaped_of_RefB (by kernel_rfl) (by kernel_rfl)
end Go.Proofs.YtdlkdgajoafkaaaGreatDoor.tree
end

section
/- fault: errors.errorType's cell out of what the row lists; the world that the program's own initialisers leave meets the rows' condition. -/
namespace Go.Proofs.YtdlkdgajoafkaaaGreatDoor.flt
open Go Go.ChangeShapes Go.WideShapes Go.ChangeAt Go.RowKit

theorem etG : Tryz.prog.globalNamed "errors.errorType" = some 0 := by kernel_rfl
theorem etRt : (Tryz.prog.cutTypes.find? (·.1 == "internal/reflectlite.rtype")).map (·.2) = some 140 := by kernel_rfl
theorem etRow : ((List.range Tryz.prog.types.size).filter fun t => Tryz.prog.rowNamed t [101, 114, 114, 111, 114]) = [37] := by kernel_rfl

theorem et_of_laid {W : World} (h : laidMetH Tryz.prog [("errors.errorType", Rows.laid_errors_errorType)] W) : Et W.heap.size W := by
  have h' : laidMet Tryz.prog [] W ∧ handlesMet Tryz.prog [("errors.errorType", Rows.laid_errors_errorType)] W := h
  obtain ⟨name, u, ty, e1, e2, e3, e4, e5⟩ := h'.2 _ (List.mem_singleton.2 rfl)
  have en : name = [101, 114, 114, 111, 114] := (Option.some.inj e1).symm
  subst en
  obtain rfl := Option.some.inj (etRt.symm.trans e2)
  have hm : ty ∈ (List.range Tryz.prog.types.size).filter fun t => Tryz.prog.rowNamed t [101, 114, 114, 111, 114] := List.mem_filter.2 ⟨List.mem_range.2 e3, e4⟩
  rw [etRow] at hm
  obtain rfl := List.mem_singleton.1 hm
  have hh : typeHandle Tryz.prog 37 = .pointer (some ⟨5, 37, none⟩) := by kernel_rfl
  rw [hh] at e5
  have hc : W.cell? ⟨0, 0, none⟩ = some (.iface 140 (.agg #[.pointer (some ⟨5, 37, none⟩)])) := by simpa using World.var?_cell etG e5 0
  refine ⟨hc, ?_, Nat.le_refl _⟩
  unfold World.cell? at hc
  rcases Nat.lt_or_ge 0 W.heap.size with k | k
  · exact k
  · simp [Array.getElem?_eq_none k] at hc

theorem door_met (os : Os) (args : Array Value) : laidMetH Tryz.prog [("errors.errorType", Rows.laid_errors_errorType)] ((World.doorLaid Tryz.prog 31 os).forCall (fun _ _ => 0) ⟨#[], args, []⟩).memory :=
  laidMetH_of_parts ⟨[], rfl, List.nodup_nil, fun _ _ h => by cases h⟩ (by kernel_rfl)
theorem door_shaped (os : Os) (args : Array Value) : ((World.doorLaid Tryz.prog 31 os).forCall (fun _ _ => 0) ⟨#[], args, []⟩).Shaped Tryz.prog :=
  World.shaped_of_RefB (by kernel_rfl) (by kernel_rfl)
end Go.Proofs.YtdlkdgajoafkaaaGreatDoor.flt
end

section
/- prune: what the rows' list gives; the world that the program's own initialisers leave meets the rows' condition. -/
namespace Go.Proofs.YtdlkdgajoafkaaaGreatDoor.prn
open Go Go.ChangeShapes Go.WideShapes Go.ChangeAt Go.RowKit Go.Proofs.YtdlkdgajoafkaaaGreatDoor.dig

theorem pw_of_laid {W : World} (h : laidMetH Tryz.prog [("math/bits.deBruijn32tab", Rows.laid_math_bits_deBruijn32tab), ("math/bits.deBruijn64tab", Rows.laid_math_bits_deBruijn64tab), ("hindsight/digest.rounds", Rows.laid_hindsight_digest_rounds), ("errors.errorType", Rows.laid_errors_errorType)] W) : Pw W := by
  have h' : laidMet Tryz.prog [("math/bits.deBruijn32tab", Rows.laid_math_bits_deBruijn32tab), ("math/bits.deBruijn64tab", Rows.laid_math_bits_deBruijn64tab), ("hindsight/digest.rounds", Rows.laid_hindsight_digest_rounds)] W ∧ handlesMet Tryz.prog [("errors.errorType", Rows.laid_errors_errorType)] W := h
  have h2 : laidMet Tryz.prog [] W ∧ handlesMet Tryz.prog [("errors.errorType", Rows.laid_errors_errorType)] W := ⟨⟨[], rfl, List.nodup_nil, fun _ _ h => by cases h⟩, h'.2⟩
  exact ⟨tree.rt_of_laid (rest := []) h'.1, flt.et_of_laid h2⟩
theorem door_met (os : Os) (args : Array Value) : laidMetH Tryz.prog [("math/bits.deBruijn32tab", Rows.laid_math_bits_deBruijn32tab), ("math/bits.deBruijn64tab", Rows.laid_math_bits_deBruijn64tab), ("hindsight/digest.rounds", Rows.laid_hindsight_digest_rounds), ("errors.errorType", Rows.laid_errors_errorType)] ((World.doorLaid Tryz.prog 31 os).forCall (fun _ _ => 0) ⟨#[], args, []⟩).memory :=
  laidMetH_of_parts3 (fuel := 8) (laidMet_of_run' 8 (by kernel_rfl) (by kernel_rfl)) (by kernel_rfl) (by kernel_rfl)
theorem door_shaped (os : Os) (args : Array Value) : ((World.doorLaid Tryz.prog 31 os).forCall (fun _ _ => 0) ⟨#[], args, []⟩).Shaped Tryz.prog :=
  World.shaped_of_RefB (by kernel_rfl) (by kernel_rfl)
end Go.Proofs.YtdlkdgajoafkaaaGreatDoor.prn
end

section
/- proof: what sums prove (the mathematics). -/
namespace Go.Proofs.YtdlkdgajoafkaaaGreatDoor.prf
open Go Go.Proofs.YtdlkdgajoafkaaaGreatDoor.dig

/-- The root over n leaves, of the i-th one's sum x and of sums, the outermost first; z: what stands for none. -/
def up (z x : List UInt8) : List (List UInt8) → Nat → Nat → List UInt8 × Bool
  | [], _, n => if n = 1 then (x, true) else (z, false)
  | s :: r, i, n => if n = 1 then (x, false) else if i < half n then (nodeS (up z x r i (half n)).1 s, (up z x r i (half n)).2) else (nodeS s (up z x r (i - half n) (n - half n)).1, (up z x r (i - half n) (n - half n)).2)

theorem up_one (z x : List UInt8) (r : List (List UInt8)) (i : Nat) : up z x r i 1 = (x, r.isEmpty) := by
  cases r <;> simp [up]
theorem up_nil (z x : List UInt8) (i : Nat) {n : Nat} (h : n ≠ 1) : up z x [] i n = (z, false) := by simp [up, h]
theorem up_left (z x s : List UInt8) (r : List (List UInt8)) {i n : Nat} (h : n ≠ 1) (hi : i < half n) : up z x (s :: r) i n = (nodeS (up z x r i (half n)).1 s, (up z x r i (half n)).2) := by
  rw [up, if_neg h, if_pos hi]
theorem up_right (z x s : List UInt8) (r : List (List UInt8)) {i n : Nat} (h : n ≠ 1) (hi : ¬ i < half n) : up z x (s :: r) i n = (nodeS s (up z x r (i - half n) (n - half n)).1, (up z x r (i - half n) (n - half n)).2) := by
  rw [up, if_neg h, if_neg hi]

theorem up_len {z x : List UInt8} (hz : z.length = 32) (hx : x.length = 32) : ∀ (r : List (List UInt8)) (i n : Nat), (up z x r i n).1.length = 32
  | [], i, n => by by_cases h : n = 1 <;> simp [up, h, hz, hx]
  | s :: r, i, n => by
    by_cases h : n = 1
    · simp [up, h, hx]
    · by_cases hi : i < half n
      · rw [up_left z x s r h hi]; exact nodeS_length _ _
      · rw [up_right z x s r h hi]; exact nodeS_length _ _

/-- What stands for none matters in none that is right. -/
theorem up_any (z z' x : List UInt8) : ∀ (r : List (List UInt8)) (i n : Nat), (up z x r i n).2 = (up z' x r i n).2 ∧ ((up z x r i n).2 = true → (up z x r i n).1 = (up z' x r i n).1)
  | [], i, n => by by_cases h : n = 1 <;> simp [up, h]
  | s :: r, i, n => by
    by_cases h : n = 1
    · simp [up, h]
    · by_cases hi : i < half n
      · rw [up_left z x s r h hi, up_left z' x s r h hi]
        obtain ⟨h1, h2⟩ := up_any z z' x r i (half n)
        exact ⟨h1, fun e => by show nodeS _ _ = nodeS _ _; rw [h2 e]⟩
      · rw [up_right z x s r h hi, up_right z' x s r h hi]
        obtain ⟨h1, h2⟩ := up_any z z' x r (i - half n) (n - half n)
        exact ⟨h1, fun e => by show nodeS _ _ = nodeS _ _; rw [h2 e]⟩

/-- As many sums as it takes are a matter of their number alone. -/
theorem up_count (z x z' x' : List UInt8) : ∀ (r r' : List (List UInt8)) (i n : Nat), r.length = r'.length → (up z x r i n).2 = (up z' x' r' i n).2
  | [], [], i, n, _ => by by_cases h : n = 1 <;> simp [up, h]
  | s :: r, s' :: r', i, n, hl => by
    have hl' : r.length = r'.length := by simpa using hl
    by_cases h : n = 1
    · simp [up, h]
    · by_cases hi : i < half n
      · rw [up_left z x s r h hi, up_left z' x' s' r' h hi]; exact up_count z x z' x' r r' i (half n) hl'
      · rw [up_right z x s r h hi, up_right z' x' s' r' h hi]; exact up_count z x z' x' r r' (i - half n) (n - half n) hl'
  | [], _ :: _, _, _, hl => by cases hl
  | _ :: _, [], _, _, hl => by cases hl

/-- Of one number of leaves and one place there is one number of sums that it takes. -/
theorem up_more (z x z' x' : List UInt8) : ∀ (r r' : List (List UInt8)) (i n : Nat), (up z x r i n).2 = true → r.length ≠ r'.length → (up z' x' r' i n).2 = false
  | [], [], i, n, _, hl => by exact absurd rfl hl
  | s :: r, s' :: r', i, n, ho, hl => by
    have hl' : r.length ≠ r'.length := by simpa using hl
    by_cases h : n = 1
    · simp [up, h]
    · by_cases hi : i < half n
      · rw [up_left z x s r h hi] at ho; rw [up_left z' x' s' r' h hi]; exact up_more z x z' x' r r' i (half n) ho hl'
      · rw [up_right z x s r h hi] at ho; rw [up_right z' x' s' r' h hi]; exact up_more z x z' x' r r' (i - half n) (n - half n) ho hl'
  | [], s' :: r', i, n, ho, _ => by
    by_cases h : n = 1
    · simp [up, h]
    · rw [up_nil z x i h] at ho; cases ho
  | s :: r, [], i, n, ho, _ => by
    by_cases h : n = 1
    · rw [up, if_pos h] at ho; cases ho
    · rw [up_nil z' x' i h]

/-- The roots over the first m and over all n leaves; o: the first one's, f: it is known. -/
def both (z o : List UInt8) : List (List UInt8) → Bool → Nat → Nat → List UInt8 × List UInt8 × Bool
  | [], f, m, n => if m = n ∧ f = true then (o, o, true) else (z, z, false)
  | s :: r, f, m, n => if m = n ∧ f = true then (o, o, false) else if m = n then (s, s, r.isEmpty) else if m ≤ half n then ((both z o r f m (half n)).1, nodeS (both z o r f m (half n)).2.1 s, (both z o r f m (half n)).2.2) else (nodeS s (both z o r false (m - half n) (n - half n)).1, nodeS s (both z o r false (m - half n) (n - half n)).2.1, (both z o r false (m - half n) (n - half n)).2.2)

theorem both_known (z o : List UInt8) (r : List (List UInt8)) (n : Nat) : both z o r true n n = (o, o, r.isEmpty) := by cases r <;> simp [both]
theorem both_nil (z o : List UInt8) (f : Bool) {m n : Nat} (h : ¬ (m = n ∧ f = true)) : both z o [] f m n = (z, z, false) := by rw [both, if_neg h]
theorem both_all (z o s : List UInt8) (r : List (List UInt8)) (n : Nat) : both z o (s :: r) false n n = (s, s, r.isEmpty) := by simp [both]
theorem both_left (z o s : List UInt8) (r : List (List UInt8)) (f : Bool) {m n : Nat} (h : m ≠ n) (hm : m ≤ half n) : both z o (s :: r) f m n = ((both z o r f m (half n)).1, nodeS (both z o r f m (half n)).2.1 s, (both z o r f m (half n)).2.2) := by
  rw [both, if_neg (fun e => h e.1), if_neg h, if_pos hm]
theorem both_right (z o s : List UInt8) (r : List (List UInt8)) (f : Bool) {m n : Nat} (h : m ≠ n) (hm : ¬ m ≤ half n) : both z o (s :: r) f m n = (nodeS s (both z o r false (m - half n) (n - half n)).1, nodeS s (both z o r false (m - half n) (n - half n)).2.1, (both z o r false (m - half n) (n - half n)).2.2) := by
  rw [both, if_neg (fun e => h e.1), if_neg h, if_neg hm]

theorem both_len {z o : List UInt8} (hz : z.length = 32) (ho : o.length = 32) : ∀ (r : List (List UInt8)) (f : Bool) (m n : Nat), (∀ x ∈ r, x.length = 32) → (both z o r f m n).1.length = 32 ∧ (both z o r f m n).2.1.length = 32
  | [], f, m, n, _ => by by_cases h : m = n ∧ f = true <;> simp [both, h, hz, ho]
  | s :: r, f, m, n, hr => by
    have hs := hr s (by simp)
    have hr' : ∀ x ∈ r, x.length = 32 := fun x hx => hr x (by simp [hx])
    by_cases h : m = n
    · subst h
      cases f
      · rw [both_all]; exact ⟨hs, hs⟩
      · rw [both_known]; exact ⟨ho, ho⟩
    · by_cases hm : m ≤ half n
      · rw [both_left z o s r f h hm]; exact ⟨(both_len hz ho r f m (half n) hr').1, nodeS_length _ _⟩
      · rw [both_right z o s r f h hm]; exact ⟨nodeS_length _ _, nodeS_length _ _⟩

theorem both_any (z z' o : List UInt8) : ∀ (r : List (List UInt8)) (f : Bool) (m n : Nat), (both z o r f m n).2.2 = (both z' o r f m n).2.2 ∧ ((both z o r f m n).2.2 = true → (both z o r f m n).1 = (both z' o r f m n).1 ∧ (both z o r f m n).2.1 = (both z' o r f m n).2.1)
  | [], f, m, n => by by_cases h : m = n ∧ f = true <;> simp [both, h]
  | s :: r, f, m, n => by
    by_cases h : m = n
    · subst h
      cases f
      · rw [both_all, both_all]; exact ⟨rfl, fun _ => ⟨rfl, rfl⟩⟩
      · rw [both_known, both_known]; exact ⟨rfl, fun _ => ⟨rfl, rfl⟩⟩
    · by_cases hm : m ≤ half n
      · rw [both_left z o s r f h hm, both_left z' o s r f h hm]
        obtain ⟨h1, h2⟩ := both_any z z' o r f m (half n)
        exact ⟨h1, fun e => ⟨(h2 e).1, by show nodeS _ _ = nodeS _ _; rw [(h2 e).2]⟩⟩
      · rw [both_right z o s r f h hm, both_right z' o s r f h hm]
        obtain ⟨h1, h2⟩ := both_any z z' o r false (m - half n) (n - half n)
        exact ⟨h1, fun e => ⟨by show nodeS _ _ = nodeS _ _; rw [(h2 e).1], by show nodeS _ _ = nodeS _ _; rw [(h2 e).2]⟩⟩

/-- Do sums prove a leaf: 0, 6 (no such place) or 12. -/
def inclE (leaf : List UInt8) (i n : Int) (root : List UInt8) (r : List (List UInt8)) : Int :=
  if i < 0 ∨ n ≤ i then 6 else if (up (List.replicate 32 0) (leafS leaf) r i.toNat n.toNat).2 = true ∧ (up (List.replicate 32 0) (leafS leaf) r i.toNat n.toNat).1 = root then 0 else 12

/-- Do they prove an elder head, of no more leaves? -/
def elderB (m : Nat) (old : List UInt8) (n : Nat) (root : List UInt8) (r : List (List UInt8)) : Bool :=
  if m = n then r.isEmpty && (old == root) else if m = 0 then r.isEmpty && (old == sum []) else
    (both (List.replicate 32 0) old r true m n).2.2 && ((both (List.replicate 32 0) old r true m n).1 == old) && ((both (List.replicate 32 0) old r true m n).2.1 == root)
def consE (m : Int) (old : List UInt8) (n : Int) (root : List UInt8) (r : List (List UInt8)) : Int :=
  if m < 0 ∨ n < m then 6 else if elderB m.toNat old n.toNat root r = true then 0 else 12
end Go.Proofs.YtdlkdgajoafkaaaGreatDoor.prf
end

section
/- prune: the mathematics: what a tree's proof of a leaf, and of a prefix, comes to. -/
namespace Go.Proofs.YtdlkdgajoafkaaaGreatDoor.prn
open Go Go.Proofs.YtdlkdgajoafkaaaGreatDoor.dig Go.Proofs.YtdlkdgajoafkaaaGreatDoor.prf

/-- The proof of a leaf comes to the root. -/
theorem up_path (z : List UInt8) (f : Nat → List UInt8) : ∀ (n i a : Nat), i < n → up z (f (a + i)) (path f i a n).reverse i n = (rt f a n, true) := by
  intro n
  induction n using Nat.strongRecOn with
  | _ n ih =>
    intro i a hi
    by_cases h2 : 2 ≤ n
    · have hp := half_pos n
      have hl := half_lt h2
      rw [path, dif_pos h2, rt_two f a h2]
      by_cases hh : i < half n
      · rw [if_pos hh, List.reverse_append, List.reverse_singleton, List.singleton_append, up_left _ _ _ _ (by omega) hh, ih (half n) hl i a hh]
      · rw [if_neg hh, List.reverse_append, List.reverse_singleton, List.singleton_append, up_right _ _ _ _ (by omega) hh]
        have h3 := ih (n - half n) (by omega) (i - half n) (a + half n) (by omega)
        rw [show a + half n + (i - half n) = a + i by omega] at h3
        rw [h3]
    · obtain rfl : n = 1 := by omega
      obtain rfl : i = 0 := by omega
      rw [path, dif_neg h2, List.reverse_nil, up_one, rt_one]
      rfl

/-- The proof of a prefix comes to both roots. -/
theorem both_steps (z o : List UInt8) (f : Nat → List UInt8) : ∀ (n m a : Nat) (first : Bool), 0 < m → m ≤ n → (first = true → o = rt f a m) →
    both z o (steps f m a n first).reverse first m n = (rt f a m, rt f a n, true) := by
  intro n
  induction n using Nat.strongRecOn with
  | _ n ih =>
    intro m a first h0 hm ho
    by_cases he : m = n
    · subst he
      rw [steps, if_pos rfl]
      cases first
      · rw [if_neg (by simp), List.reverse_singleton, both_all]
        rfl
      · rw [if_pos rfl, List.reverse_nil, both_known, ho rfl]
        rfl
    · have h2 : 2 ≤ n := by omega
      have hp := half_pos n
      have hl := half_lt h2
      rw [steps, if_neg he, dif_pos h2, rt_two f a h2]
      by_cases hh : m ≤ half n
      · rw [if_pos hh, List.reverse_append, List.reverse_singleton, List.singleton_append, both_left _ _ _ _ _ he hh, ih (half n) hl m a first h0 hh ho]
      · rw [if_neg hh, List.reverse_append, List.reverse_singleton, List.singleton_append, both_right _ _ _ _ _ he hh]
        have h3 := ih (n - half n) (by omega) (m - half n) (a + half n) false (by omega) (by omega) (fun h => by cases h)
        rw [h3]
        have hg := half_ge h2
        have e : half m = half n := half_of (j := Nat.log2 (n - 1)) (by show half n < m; omega) (by rw [Nat.pow_succ]; show m ≤ half n * 2; omega)
        have h4 := rt_two f a (n := m) (by omega)
        rw [e] at h4
        rw [h4]
end Go.Proofs.YtdlkdgajoafkaaaGreatDoor.prn
end

section
/- prune: Leaf, where it answers an error. -/
namespace Go.Proofs.YtdlkdgajoafkaaaGreatDoor.prn
open Go Go.RowKit Go.Proofs.YtdlkdgajoafkaaaGreatDoor.dig Go.Proofs.YtdlkdgajoafkaaaGreatDoor.prf

section
variable {B : Nat} {F : Nat → Prop} {w : World} {b vb N fl : Nat} {f : Nat → List UInt8} {L : List ByteArray}

set_option maxRecDepth 100000 in
set_option maxHeartbeats 1000000 in
theorem _root_.Go.Proofs.YtdlkdgajoafkaaaGreatDoor.dig.Tr.inclusion_range (hT : Tr B F w b N fl f) (x n : Int) (h : n < 0 ∨ n > N ∨ x < 0 ∨ x ≥ n) :
    Calls Tryz.prog 41 #[.pointer (some ⟨b, 0, none⟩), .int .i64 x, .int .i64 n] w fun en w' => en = .returned (.tuple #[.slice none 0 0, .int .i64 6]) ∧ w = w' := by
  obtain ⟨rv, hh⟩ := hT.head
  have e0 := hh.cell 0
  simp at e0
  clear hT hh
  by_cases h1 : n < 0
  · clear h
    go_enter Tryz.func41, Tryz.ntmps41
    go_wp2_with fail
    go_ret2
    exact ⟨rfl, rfl⟩
  by_cases h2 : n > (N : Int)
  · clear h
    go_enter Tryz.func41, Tryz.ntmps41
    go_wp2_with fail
    go_ret2
    exact ⟨rfl, rfl⟩
  by_cases h3 : x < 0
  · clear h
    go_enter Tryz.func41, Tryz.ntmps41
    go_wp2_with fail
    go_ret2
    exact ⟨rfl, rfl⟩
  · have h4 : x ≥ n := by omega
    clear h
    go_enter Tryz.func41, Tryz.ntmps41
    go_wp2_with fail
    go_ret2
    exact ⟨rfl, rfl⟩

theorem Va.leaf_range (h : Va B F w vb L fl) (x n : Int) (hx : n < 0 ∨ n > L.length ∨ x < 0 ∨ x ≥ n) :
    Calls Tryz.prog 22 #[.pointer (some ⟨vb, 0, none⟩), .int .i64 x, .int .i64 n] w (PairErr w (.agg (prC 0 0 0 (.slice none 0 0))) leafNm x 6) :=
  h.leaf_err x n 6 (by decide) fun _ _ ⟨_, tr⟩ => tr.inclusion_range x n hx
theorem Va.leaf_low (h : Va B F w vb L fl) (i n : Nat) (hn : n ≤ L.length) (hi : i < n) (hf : i < fl) :
    Calls Tryz.prog 22 #[.pointer (some ⟨vb, 0, none⟩), .int .i64 i, .int .i64 n] w (PairErr w (.agg (prC 0 0 0 (.slice none 0 0))) leafNm i 14) :=
  h.leaf_err i n 14 (by decide) fun _ _ ⟨_, tr⟩ => tr.inclusion_low i n hn hi hf

theorem path_leaf_range (b : Nat) (a : Int) : flt.pathB [⟨b, leafNm, a⟩] 6 = ⟨#[108, 101, 97, 102, 47, 114, 97, 110, 103, 101]⟩ := by rfl
theorem path_floor_pruned (b : Nat) (a : Int) : flt.pathB [⟨b, floorB, a⟩] 14 = ⟨#[102, 108, 111, 111, 114, 47, 112, 114, 117, 110, 101, 100]⟩ := by rfl
theorem path_floor_arg (b : Nat) (a : Int) : flt.pathB [⟨b, floorB, a⟩] 4 = ⟨#[102, 108, 111, 111, 114, 47, 97, 114, 103]⟩ := by rfl

/-- What a vault's own proof of a leaf proves. -/
theorem incl_path {L : List ByteArray} {i n : Nat} (hi : i < n) {s : ByteArray} (hs : L[i]? = some s) : inclE s.data.toList i n (rtAll (leafF L) n) (path (leafF L) i 0 n).reverse = 0 := by
  have h := up_path (List.replicate 32 0) (leafF L) n i 0 hi
  rw [Nat.zero_add, leafF_at L i s hs] at h
  unfold inclE
  rw [if_neg (by omega), Int.toNat_natCast, Int.toNat_natCast, h]
  exact if_pos ⟨rfl, by unfold rtAll; rw [if_neg (by omega)]⟩
end
end Go.Proofs.YtdlkdgajoafkaaaGreatDoor.prn
end

