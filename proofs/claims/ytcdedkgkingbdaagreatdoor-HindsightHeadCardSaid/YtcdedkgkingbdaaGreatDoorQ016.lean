/- Texts laid into one: FltG, PruGP, TreeQ, FltK, PruQ, LedA. -/
import Derived.Test.YtcdedkgkingbdaaGreatDoorQ015
import Derived.Lib.ItoaWalk
import Derived.Shelf.Lay
import Derived.Shelf.Strings.Builder1
import Derived.Shelf.Strings.Builder2
import Derived.Shelf.Strings.OnBuilder
import Derived.Test.YtcdedkgkingbdaaGreatDoorQ014
import Derived.Test.YtcdedkgkingbdaaGreatDoorQ005
import Derived.Test.YtcdedkgkingbdaaGreatDoorRows
import Derived.LaidMore
import Derived.ProofKit
import Derived.Stop.LaidErr
import Derived.LaidLaws
import Derived.LaidHandle
import Derived.Test.YtcdedkgkingbdaaGreatDoorQ000
import Derived.Maps.OwnSet
import Derived.Deep.QuietTactic
import Derived.BigQuiet
import Derived.IntWalk
section
/- fault: strings.Join and the Builder, off the library. -/
namespace Go.Proofs
open Go.Shelf
shelf_lay Lays.n156 Nm 156 at Tryz as Tryz.lays156
theorem Tryz.extra156 : Builder.Extra Tryz.prog Tryz.lays156_ren where
  sizeBuilder := by kernel_rfl
  liesBuilder := by kernel_rfl
  t5 := Tryz.underlying5
  a5 := Tryz.isAgg5
  z5 := Tryz.sizeOf5
  v5 := Tryz.zeroValue5
  infoByte := by kernel_rfl
  cellsByte := by kernel_rfl
  sizeByte := by kernel_rfl
  neB5 := by decide
end Go.Proofs
namespace Go.Proofs.YtcdedkgkingbdaaGreatDoor.flt
open Go Go.RowKit Go.Extern.Stop Go.Stop Go.Extern

/-- The words of the numbers, from 1 on. -/
def words : List ByteArray := [⟨#[101, 110, 100]⟩, ⟨#[102, 111, 114, 109]⟩, ⟨#[98, 105, 103]⟩, ⟨#[97, 114, 103]⟩, ⟨#[107, 105, 110, 100]⟩, ⟨#[114, 97, 110, 103, 101]⟩, ⟨#[102, 117, 108, 108]⟩, ⟨#[110, 111, 110, 101]⟩, ⟨#[116, 104, 101, 114, 101]⟩, ⟨#[111, 118, 101, 114, 102, 108, 111, 119]⟩, ⟨#[115, 104, 111, 114, 116]⟩, ⟨#[112, 114, 111, 111, 102]⟩, ⟨#[102, 117, 116, 117, 114, 101]⟩, ⟨#[112, 114, 117, 110, 101, 100]⟩, ⟨#[98, 114, 97, 110, 99, 104]⟩, ⟨#[117, 110, 100, 111, 110, 101]⟩, ⟨#[102, 105, 120, 101, 100]⟩, ⟨#[99, 111, 110, 102, 108, 105, 99, 116]⟩, ⟨#[100, 105, 118, 101, 114, 103, 101, 100]⟩, ⟨#[98, 117, 115, 121]⟩]
/-- The word of a number. -/
def word (n : Int) : ByteArray := if 1 ≤ n ∧ n ≤ 20 then words.getD (n - 1).toNat ⟨#[]⟩ else ⟨#[111, 107]⟩

def tab : Array Value := (words.zipIdx.flatMap fun (s, i) => [Value.int .i64 ((i : Int) + 1), .string s]).toArray
theorem tab0 : ∀ i : Fin 20, tab[2 * i.val]? = some (.int .i64 ((i.val : Int) + 1)) := by
  intro i
  rcases i with ⟨i, hi⟩
  rcases i with _ | _ | _ | _ | _ | _ | _ | _ | _ | _ | _ | _ | _ | _ | _ | _ | _ | _ | _ | _ | i <;> first | rfl | omega
theorem tab1 : ∀ i : Fin 20, tab[2 * i.val + 1]? = some (.string (words.getD i.val ⟨#[]⟩)) := by
  intro i
  rcases i with ⟨i, hi⟩
  rcases i with _ | _ | _ | _ | _ | _ | _ | _ | _ | _ | _ | _ | _ | _ | _ | _ | _ | _ | _ | _ | i <;> first | rfl | omega

set_option maxRecDepth 100000 in
set_option maxHeartbeats 2000000 in
theorem err_calls (n : Int) (w : World) (h1 : 1 ≤ n) (h2 : n ≤ 20) : Calls Tryz.prog 85 #[.int .i64 n] w fun en w' => en = .returned (.string (word n)) ∧ Below w.heap.size w w' := by
  go_enter Tryz.func85, Tryz.ntmps85
  go_wp2_with fail
  go_name_world W hW
  have hT : Has W w.heap.size 234 tab := by rw [← hW]; exact Has.made w 234 _
  have hB : Below w.heap.size w W := by rw [← hW]; exact (Below.refl _ w).alloc (Nat.le_refl _) _
  clear hW
  have HT := Lib.hid hT
  have HB := Lib.hid hB
  have HN := Lib.hid (And.intro h1 h2)
  clear hT hB
  go_loopw [27] (fun x wr => ∃ i : Nat, x = .int .i64 i ∧ i ≤ 20 ∧ Hid ((i : Int) < n) ∧ Hid (Has wr w.heap.size 234 tab ∧ Below w.heap.size w wr)) (fun x _ => 20 - (intOf x).toNat)
  case atStart => exact ⟨0, rfl, by omega, Lib.hid (by show (0 : Int) < n; omega), Lib.hid ⟨HT.out, HB.out⟩⟩
  case round =>
    obtain ⟨i, rfl, hi, HI, HS⟩ := hrel
    have hlt : i < 20 := by have := HI.out; omega
    have c0 : wr.cell? ⟨w.heap.size, i * 2, none⟩ = some (.int .i64 ((i : Int) + 1)) := by rw [Nat.mul_comm]; exact (HS.out.1.cell _).trans (tab0 ⟨i, hlt⟩)
    have c1 : wr.cell? ⟨w.heap.size, i * 2 + 1, none⟩ = some (.string (words.getD i ⟨#[]⟩)) := by rw [Nat.mul_comm]; exact (HS.out.1.cell _).trans (tab1 ⟨i, hlt⟩)
    have hi2 : (i : Int) < 20 := by omega
    obtain ⟨s, hs⟩ : ∃ s, s = words.getD i ⟨#[]⟩ := ⟨_, rfl⟩
    rw [← hs] at c1
    have HSS := Lib.hid hs
    clear hs
    by_cases hq : (i : Int) + 1 = n
    · have HQ := Lib.hid hq
      go_wp2_with fail
      go_ret
      refine ⟨?_, HS.out.2.alloc HS.out.2.size _⟩
      rw [HSS.out]
      have e : word n = words.getD i ⟨#[]⟩ := by
        unfold word
        rw [if_pos HN.out, ← HQ.out]
        congr 1
        omega
      rw [e]
      rfl
    · have HQ := Lib.hid hq
      go_wp2_with fail
      refine ⟨⟨i + 1, by rw [Int.natCast_add]; rfl, by omega, Lib.hid (by have := HI.out; have := HQ.out; omega), Lib.hid ⟨HS.out.1.alloc _, HS.out.2.alloc HS.out.2.size _⟩⟩, ?_⟩
      show 20 - ((i : Int) + 1).toNat < 20 - ((i : Int)).toNat
      omega

theorem names_map (L : List Sp) (wd : ByteArray) : names L ++ [Value.string wd] = (L.map (fun x => x.s) ++ [wd]).map Value.string := by unfold names; simp

/-- strings.Join of strings that lie in a row. -/
theorem join_calls (w : World) (g off c : Nat) (xs : List ByteArray) (n : Nat) (hn : xs.length = n) (h : Seg w 9 1 (.slice (some ⟨g, off, none⟩) n c) n (xs.map Value.string)) (hle : n ≤ 140737488355328)
    (hlen : (Lib.join (xs.map (·.data.toList)) [47]).length ≤ 140737488355328) :
    Calls Tryz.prog 84 #[.slice (some ⟨g, off, none⟩) n c, .string ⟨#[47]⟩] w fun e w' => e = .returned (.string ⟨(Lib.join (xs.map (·.data.toList)) [47]).toArray⟩) ∧ Below w.heap.size w w' := by
  subst hn
  have hc : xs.length ≤ c := by
    obtain ⟨a, c', e, h1, _⟩ := h.slice
    injection e with e1 e2 e3
    omega
  refine Any.strings_Join Tryz.lays156 Tryz.extra156 g off c xs ⟨#[47]⟩ w (fun j x hj => ?_) (h.lt rfl) hle hc hlen
  have h0 : 0 < xs.length := by
    have := (List.getElem?_eq_some_iff.1 hj).1
    omega
  obtain ⟨g', off', c', e, _, _, _, hcells⟩ := h.cells h0
  injection e with e1 e2 e3
  injection e1 with e1
  injection e1 with e4 e5
  subst e4 e5
  exact hcells j _ (by rw [List.getElem?_map, hj]; rfl)

/-- The steps' names and the number's word, with slashes between. -/
def pathB (L : List Sp) (n : Int) : ByteArray := ⟨(Lib.join ((L.map (fun x => x.s.data.toList)) ++ [(word n).data.toList]) [47]).toArray⟩

set_option maxRecDepth 100000 in
set_option maxHeartbeats 2000000 in
theorem path_calls (B : Nat) (L : List Sp) (n : Int) (w : World) (hT : Et B w) (hE : Er B w L n) (hl : L.length ≤ 1000000) (h1 : 1 ≤ n) (h2 : n ≤ 20)
    (hsz : (Lib.join ((L.map (fun x => x.s.data.toList)) ++ [(word n).data.toList]) [47]).length ≤ 140737488355328) :
    Calls Tryz.prog 37 #[ev L n] w fun en w' => en = .returned (.string (pathB L n)) ∧ Below B w w' := by
  obtain ⟨z0i, z0, hi0, hz0, hz1, hz2, hz3⟩ := strInfo
  have HI0 := Lib.hid hi0
  have HZ0 := Lib.hid hz0
  have HT := Lib.hid hT
  have HE := Lib.hid hE
  have HN := Lib.hid (And.intro h1 h2)
  have HSZ := Lib.hid hsz
  have HB : Hid (B ≤ w.heap.size) := Lib.hid hT.size
  clear hi0 hz0 hT hE h1 h2 hsz
  obtain ⟨wd, hwd⟩ : ∃ wd, wd = word n := ⟨_, rfl⟩
  have HWD := Lib.hid hwd
  clear hwd
  go_enter Tryz.func37, Tryz.ntmps37
  go_wp2_with (first
    | (go_at_call 83; refine (where_calls B L n _ HT.out HE.out hl).mono ?_; rintro en w1 ⟨v, rfl, hS, hO, b1⟩;
       have HS := Lib.hid (And.intro hS hO); have B1 := Lib.hid b1; clear hS hO b1)
    | (go_at_call 45; refine (of_calls B L n _ (HT.out.below B1.out (Nat.le_refl B)) (HE.out.below B1.out (Nat.le_refl B))).mono ?_; rintro en w2 ⟨rfl, b2⟩;
       have B2 := Lib.hid b2; clear b2)
    | (go_at_call 85; refine (err_calls n _ HN.out.1 HN.out.2).mono ?_; rw [← HWD.out]; rintro en w3 ⟨rfl, b3⟩;
       have B3 := Lib.hid b3; clear b3;
       have HS3 := Lib.hid ((HS.out.1.below B2.out (fun b hb => HS.out.1.lt hb)).below B3.out (fun b hb => Nat.lt_of_lt_of_le (HS.out.1.lt hb) B2.out.size));
       have SZ3 : Hid (B ≤ w3.heap.size) := Lib.hid (Nat.le_trans HB.out (Nat.le_trans B1.out.size (Nat.le_trans B2.out.size B3.out.size))))
    | ((with_reducible refine at_op 15 ?_); refine wpList_append_seg (o := ⟨some 15, _, _, _, _, _⟩) _ rfl (.tmp 10) (.tmp 14) 74 rfl 9 z0i z0 1 16 Tryz.underlying74 HI0.out HZ0.out hz1 hz3 hz2 (by decide) v L.length (names L) rfl (HS3.out.alloc _) ⟨w3.heap.size, 0, none⟩ 1 1 [.string wd] rfl rfl (World.news_of_block (heap_alloc_new _ _)) (by simp [Value.oneCell']) (by decide) (by unfold maxLen; omega) (by omega) _ rfl ?_;
       intro g off cp w4 hown hgrow hat hlt;
       have OW := Lib.hid hown; have GR := Lib.hid hgrow; have LT := Lib.hid hlt; clear hown hgrow hat hlt)
    | (go_at_call 84; refine (join_calls w4 g off cp (L.map (fun x => x.s) ++ [wd]) (L.length + 1) (by simp) (by rw [names_map] at OW; exact OW.out) (by omega) (by rw [HWD.out, List.map_append, List.map_map]; exact HSZ.out)).mono ?_; rintro en w5 ⟨rfl, b5⟩)
    | fail)
  go_ret
  refine ⟨?_, ?_⟩
  · unfold pathB
    rw [← HWD.out]
    rfl
  · have b4 : Below B w3 w4 := ((Below.refl B w3).alloc SZ3.out _).trans (below_own GR.out (fun y hy => HS.out.2 y hy) (Nat.le_trans SZ3.out (by simp)))
    have s1 := B1.out.size
    have s2 := B2.out.size
    have s3 := b4.size
    exact (((B1.out.trans (below_less B2.out (by have := HB.out; omega))).trans (below_less B3.out (by have := HB.out; omega))).trans b4).trans (below_less b5 (by have := SZ3.out; omega))
end Go.Proofs.YtcdedkgkingbdaaGreatDoor.flt
end

section
/- Out of PruG: Pw, Pw.below, path_one. -/
namespace Go.Proofs.YtcdedkgkingbdaaGreatDoor.prn
open Go Go.RowKit Go.Proofs.YtcdedkgkingbdaaGreatDoor.dig

/-- What prune's laws want of a world: the tables of tree's, and the handle that errors' things are told by. -/
structure Pw (w : World) : Prop where
  rt : Rt w.heap.size w
  et : flt.Et w.heap.size w
theorem Pw.below {w w' : World} (h : Pw w) (b : Below w.heap.size w w') : Pw w' := by
  have r := h.rt.below b (Nat.le_refl _)
  have e := h.et.below b (Nat.le_refl _)
  exact ⟨⟨r.rk, r.tz, ⟨Nat.lt_of_lt_of_le r.lo.1 b.size, Nat.lt_of_lt_of_le r.lo.2 b.size⟩, Nat.le_refl _⟩, ⟨e.cell, Nat.lt_of_lt_of_le e.lo b.size, Nat.le_refl _⟩⟩

/-- Path of an error of one step, known by its name. -/
theorem path_one {w : World} (hP : Pw w) {s : ByteArray} {a n : Int} {b : Nat} (he : flt.Er w.heap.size w [⟨b, s, a⟩] n) (h1 : 1 ≤ n) (h2 : n ≤ 20) (hs : s.size ≤ 1000) :
    Calls Tryz.prog 37 #[flt.ev [⟨b, s, a⟩] n] w fun en w' => en = .returned (.string (flt.pathB [⟨b, s, a⟩] n)) ∧ Below w.heap.size w w' := by
  refine flt.path_calls w.heap.size _ n w hP.et he (by simp) h1 h2 ?_
  have hw : (flt.word n).data.toList.length ≤ 1000 := by
    unfold flt.word
    rw [if_pos (by omega)]
    have : ∀ i : Fin 20, (flt.words.getD i.val ⟨#[]⟩).data.toList.length ≤ 1000 := by decide
    exact this ⟨(n - 1).toNat, by omega⟩
  have h2 : s.data.toList.length ≤ 1000 := by simpa using hs
  show (Lib.join [s.data.toList, (flt.word n).data.toList] [47]).length ≤ _
  have h3 : (Lib.join [s.data.toList, (flt.word n).data.toList] [47]).length = s.data.toList.length + 1 + (flt.word n).data.toList.length := by
    simp [Lib.join]
    try omega
  omega
end Go.Proofs.YtcdedkgkingbdaaGreatDoor.prn
end

section
/- tree: what the row's list gives; the world that the program's own initialisers leave meets the rows' condition (of the rows that list digest's rounds and both tables of trailing zeros). -/
namespace Go.Proofs.YtcdedkgkingbdaaGreatDoor.tree
open Go Go.ChangeShapes Go.WideShapes Go.ChangeAt Go.RowKit Go.Proofs.YtcdedkgkingbdaaGreatDoor.dig

theorem gTab : Tryz.prog.globalNamed "math/bits.deBruijn64tab" = some 2 := by kernel_rfl
theorem gTabType : (Tryz.prog.globals[2]?).map (·.type) = some 316 := by kernel_rfl
theorem cellsTab : Tryz.prog.cellsOf 316 = 64 := by kernel_rfl
theorem cellsU8 : Tryz.prog.cellsOf 5 = 1 := by kernel_rfl
theorem rt_of_laid {W : World} {rest : List (String × DataW Unit)} (h : laidMet Tryz.prog (("math/bits.deBruijn32tab", Rows.laid_math_bits_deBruijn32tab) :: ("math/bits.deBruijn64tab", Rows.laid_math_bits_deBruijn64tab) :: ("hindsight/digest.rounds", Rows.laid_hindsight_digest_rounds) :: rest) W) : Rt W.heap.size W := by
  have ht : Lib.TabIs Tryz.prog W "math/bits.deBruijn64tab" .u8 (Lib.deBruijn64tab.map (Int.ofNat ·)) := Lib.tabIs_of_head (rest := ("hindsight/digest.rounds", Rows.laid_hindsight_digest_rounds) :: rest) gTab gTabType Tryz.underlying316 Tryz.underlying5 cellsU8 cellsTab h.tail
  have hk : Rk W := rk_of_laid (rest := rest) h.tail.tail
  have tz : ∀ (i x : Nat), Lib.deBruijn64tab[i]? = some x → W.cell? ⟨2, i, none⟩ = some (.int .u8 (x : Int)) := fun i x hx => by
    have hi : i < Lib.deBruijn64tab.length := (List.getElem?_eq_some_iff.1 hx).1
    have := ht.cell gTab i (by rw [List.length_map]; exact hi)
    rw [this]
    have e : (Lib.deBruijn64tab.map (Int.ofNat ·)).getD i 0 = (x : Int) := by
      rw [List.getD_eq_getElem?_getD, List.getElem?_map, hx]
      rfl
    rw [e]
  refine ⟨hk, tz, ⟨hk.lt, ?_⟩, Nat.le_refl _⟩
  have h0 := tz 0 0 rfl
  unfold World.cell? at h0
  rcases Nat.lt_or_ge 2 W.heap.size with k | k
  · exact k
  · simp [Array.getElem?_eq_none k] at h0

theorem door_met (os : Os) (args : Array Value) : laidMetH Tryz.prog [("math/bits.deBruijn32tab", Rows.laid_math_bits_deBruijn32tab), ("math/bits.deBruijn64tab", Rows.laid_math_bits_deBruijn64tab), ("hindsight/digest.rounds", Rows.laid_hindsight_digest_rounds)] ((World.doorLaid Tryz.prog 31 os).forCall (fun _ _ => 0) ⟨#[], args, []⟩).memory :=
  laidMetH_of_parts3 (fuel := 8) (laidMet_of_run' 8 (by kernel_rfl) (by kernel_rfl)) (by kernel_rfl) (by kernel_rfl)
theorem door_shaped (os : Os) (args : Array Value) : ((World.doorLaid Tryz.prog 31 os).forCall (fun _ _ => 0) ⟨#[], args, []⟩).Shaped Tryz.prog :=
  World.shaped_of_RefB (by kernel_rfl) (by kernel_rfl)
end Go.Proofs.YtcdedkgkingbdaaGreatDoor.tree
end

section
/- fault: errors.errorType's cell out of what the row lists; the world that the program's own initialisers leave meets the rows' condition. -/
namespace Go.Proofs.YtcdedkgkingbdaaGreatDoor.flt
open Go Go.ChangeShapes Go.WideShapes Go.ChangeAt Go.RowKit

theorem etG : Tryz.prog.globalNamed "errors.errorType" = some 0 := by kernel_rfl
theorem etRt : (Tryz.prog.cutTypes.find? (·.1 == "internal/reflectlite.rtype")).map (·.2) = some 300 := by kernel_rfl
theorem etRow : ((List.range Tryz.prog.types.size).filter fun t => Tryz.prog.rowNamed t [101, 114, 114, 111, 114]) = [63] := by kernel_rfl

theorem et_of_laid {W : World} (h : laidMetH Tryz.prog [("errors.errorType", Rows.laid_errors_errorType)] W) : Et W.heap.size W := by
  have h' : laidMet Tryz.prog [] W ∧ handlesMet Tryz.prog [("errors.errorType", Rows.laid_errors_errorType)] W := h
  obtain ⟨name, u, ty, e1, e2, e3, e4, e5⟩ := h'.2 _ (List.mem_singleton.2 rfl)
  have en : name = [101, 114, 114, 111, 114] := (Option.some.inj e1).symm
  subst en
  obtain rfl := Option.some.inj (etRt.symm.trans e2)
  have hm : ty ∈ (List.range Tryz.prog.types.size).filter fun t => Tryz.prog.rowNamed t [101, 114, 114, 111, 114] := List.mem_filter.2 ⟨List.mem_range.2 e3, e4⟩
  rw [etRow] at hm
  obtain rfl := List.mem_singleton.1 hm
  have hh : typeHandle Tryz.prog 63 = .pointer (some ⟨5, 63, none⟩) := by kernel_rfl
  rw [hh] at e5
  have hc : W.cell? ⟨0, 0, none⟩ = some (.iface 300 (.agg #[.pointer (some ⟨5, 63, none⟩)])) := by simpa using World.var?_cell etG e5 0
  refine ⟨hc, ?_, Nat.le_refl _⟩
  unfold World.cell? at hc
  rcases Nat.lt_or_ge 0 W.heap.size with k | k
  · exact k
  · simp [Array.getElem?_eq_none k] at hc

theorem door_met (os : Os) (args : Array Value) : laidMetH Tryz.prog [("errors.errorType", Rows.laid_errors_errorType)] ((World.doorLaid Tryz.prog 31 os).forCall (fun _ _ => 0) ⟨#[], args, []⟩).memory :=
  laidMetH_of_parts ⟨[], rfl, List.nodup_nil, fun _ _ h => by cases h⟩ (by kernel_rfl)
theorem door_shaped (os : Os) (args : Array Value) : ((World.doorLaid Tryz.prog 31 os).forCall (fun _ _ => 0) ⟨#[], args, []⟩).Shaped Tryz.prog :=
  World.shaped_of_RefB (by kernel_rfl) (by kernel_rfl)
end Go.Proofs.YtcdedkgkingbdaaGreatDoor.flt
end

section
/- prune: what the rows' list gives; the world that the program's own initialisers leave meets the rows' condition. -/
namespace Go.Proofs.YtcdedkgkingbdaaGreatDoor.prn
open Go Go.ChangeShapes Go.WideShapes Go.ChangeAt Go.RowKit Go.Proofs.YtcdedkgkingbdaaGreatDoor.dig

theorem pw_of_laid {W : World} (h : laidMetH Tryz.prog [("math/bits.deBruijn32tab", Rows.laid_math_bits_deBruijn32tab), ("math/bits.deBruijn64tab", Rows.laid_math_bits_deBruijn64tab), ("hindsight/digest.rounds", Rows.laid_hindsight_digest_rounds), ("errors.errorType", Rows.laid_errors_errorType)] W) : Pw W := by
  have h' : laidMet Tryz.prog [("math/bits.deBruijn32tab", Rows.laid_math_bits_deBruijn32tab), ("math/bits.deBruijn64tab", Rows.laid_math_bits_deBruijn64tab), ("hindsight/digest.rounds", Rows.laid_hindsight_digest_rounds)] W ∧ handlesMet Tryz.prog [("errors.errorType", Rows.laid_errors_errorType)] W := h
  have h2 : laidMet Tryz.prog [] W ∧ handlesMet Tryz.prog [("errors.errorType", Rows.laid_errors_errorType)] W := ⟨⟨[], rfl, List.nodup_nil, fun _ _ h => by cases h⟩, h'.2⟩
  exact ⟨tree.rt_of_laid (rest := []) h'.1, flt.et_of_laid h2⟩
theorem door_met (os : Os) (args : Array Value) : laidMetH Tryz.prog [("math/bits.deBruijn32tab", Rows.laid_math_bits_deBruijn32tab), ("math/bits.deBruijn64tab", Rows.laid_math_bits_deBruijn64tab), ("hindsight/digest.rounds", Rows.laid_hindsight_digest_rounds), ("errors.errorType", Rows.laid_errors_errorType)] ((World.doorLaid Tryz.prog 31 os).forCall (fun _ _ => 0) ⟨#[], args, []⟩).memory :=
  laidMetH_of_parts3 (fuel := 8) (laidMet_of_run' 8 (by kernel_rfl) (by kernel_rfl)) (by kernel_rfl) (by kernel_rfl)
theorem door_shaped (os : Os) (args : Array Value) : ((World.doorLaid Tryz.prog 31 os).forCall (fun _ _ => 0) ⟨#[], args, []⟩).Shaped Tryz.prog :=
  World.shaped_of_RefB (by kernel_rfl) (by kernel_rfl)
end Go.Proofs.YtcdedkgkingbdaaGreatDoor.prn
end

section
/- ledger: what New, Has, open, close, move give, of a book whose map reads as D. -/
namespace Go.Proofs.YtcdedkgkingbdaaGreatDoor
open Go.RowKit Go.Maps

section
variable {H : Type}

abbrev kS (s : ByteArray) : Lit := .string s.data.toList
abbrev nI (n : Int) : DataW H := .lit (.int .i64 n)

theorem kS_key (s : ByteArray) : WideAt.IsKeyLit (kS s) := by simp [WideAt.IsKeyLit]
theorem kS_inj {s t : ByteArray} (h : kS s = kS t) : s = t := by
  cases s; cases t; simp [kS] at h; rw [h]
theorem strKeyed : Keyed Tryz.prog 9 := string_keyed Tryz.underlying9
theorem kS_of {s : ByteArray} (h : s.size ≤ maxLen) : keyOf Tryz.prog 9 (.string s) = some (kS s) := WideMaps.keyOf_string_mk Tryz.underlying9 h
theorem zeroInt (w : World) : (zeroValue 3).run Tryz.prog w = .ok (.int .i64 0) w := by kernel_rfl

/-- What is under a name; 0 where nothing is. -/
def amt (D : DataW H) (s : ByteArray) : Int := match D.atKey (kS s) (nI 0) with | .lit (.int _ n) => n | _ => 0
/-- Is the name there? -/
def isIn (D : DataW H) (s : ByteArray) : Bool := Maps.has D (kS s)

theorem amt_of {D : DataW H} {s : ByteArray} {c : Int} (h : D.atKey (kS s) (.lit (.int .i64 0)) = .lit (.int .i64 c)) : amt D s = c := by
  unfold amt nI; rw [h]

/-- Block m is a map from names to amounts that reads as D. -/
def Mp (w : World) (m : Nat) (D : DataW H) : Prop := w.ownsMap Tryz.prog 9 (plainElem Tryz.prog 3) m (Maps.size D) D

/-- The bound is the number of entries itself. -/
theorem ownsMap_tight {P : Program} {k : TypeId} {R : Value → Option (DataW H × List MemPlace)} {w : World} {b n : Nat} {D : DataW H} (h : w.ownsMap P k R b n D) : w.ownsMap P k R b (Maps.size D) D := by
  obtain ⟨es, clock, hb, F, _, rfl⟩ := h
  exact ⟨es, clock, hb, F, by simp [Maps.size, length_sorted], rfl⟩

/-- The book at block d, whose map is in block m. -/
structure Bk (w : World) (d m : Nat) (D : DataW H) : Prop where
  box : Has w d 240 #[.map (some m)]
  map : Mp w m D

theorem Bk.kept {w w' : World} {d m : Nat} {D : DataW H} {row : Option Nat} (h : Bk w d m D) (hg : w.grownBy w' row) (h1 : some d ≠ row) (h2 : some m ≠ row) : Bk w' d m D :=
  ⟨h.box.grown hg h1, h.map.kept hg h2⟩

theorem Mp.ne {w : World} {d m : Nat} {D : DataW H} {t : TypeId} {cs : Array Value} (h : Mp w m D) (hb : Has w d t cs) : m ≠ d := by
  rintro rfl
  obtain ⟨es, clock, h1, _⟩ := h
  unfold Has at hb
  rw [h1] at hb
  cases hb

/-- The map alone has turned. -/
theorem Bk.turned {w w' : World} {d m : Nat} {D D' : DataW H} {n : Nat} (h : Bk w d m D) (hm : w'.ownsMap Tryz.prog 9 (plainElem Tryz.prog 3) m n D') (ht : w.mapTurned w' m) : Bk w' d m D' :=
  ⟨h.box.grown ht.grown (fun e => h.map.ne h.box (by injection e with e; exact e.symm)), ownsMap_tight hm⟩

/-- What a call that may turn the book gives. -/
def BPost (d m : Nat) (w : World) (r : DataW H × Int) (en : Ending) (w' : World) : Prop :=
  en = .returned (.int .i64 r.2) ∧ Bk w' d m r.1 ∧ w.mapTurned w' m

/-- open, close, move of the program: the map, the error. -/
def opn (D : DataW H) (s : ByteArray) : DataW H × Int :=
  if isIn D s = true then (D, 9) else if 16 < Maps.size D then (D, 7) else (D.put (kS s) (nI 0), 0)
def cls (D : DataW H) (s : ByteArray) : DataW H × Int :=
  if isIn D s = false then (D, 8) else if amt D s ≠ 0 then (D, 11) else (D.del (kS s), 0)
def mov (D : DataW H) (s t : ByteArray) (n : Int) : DataW H × Int :=
  if isIn D s = false then (D, 8) else if isIn D t = false then (D, 8)
  else if s ≠ .empty ∧ amt D s < n then (D, 11) else if t ≠ .empty ∧ 1099511627776 < amt D t + n then (D, 10)
  else ((D.put (kS s) (nI (amt D s - n))).put (kS t) (nI (amt D t + n)), 0)

set_option maxRecDepth 100000 in
set_option maxHeartbeats 400000 in
theorem bopen_calls (d m : Nat) (D : DataW H) (s : ByteArray) (w : World) (h : Bk w d m D) (hs : s.size ≤ maxLen) (hD : Maps.size D < maxLen) :
    Calls Tryz.prog 218 #[.pointer (some ⟨d, 0, none⟩), .string s] w fun en w' => BPost d m w (opn D s) en w' := by
  have hkey := kS_of hs
  have c0 : w.cell? ⟨d, 0, none⟩ = some (.map (some m)) := h.box.cell 0
  have hown : w.ownsMap Tryz.prog 9 (plainElem Tryz.prog 3) m (Maps.size D) D := h.map
  have B := Lib.hid h
  clear h hs
  cases hi : isIn D s
  · have hi' : Maps.has D (kS s) = false := hi
    by_cases h2 : 16 < Maps.size D
    · have E := Lib.hid (show opn D s = (D, 7) by unfold opn; rw [if_neg (by rw [hi]; simp), if_pos h2])
      have h2' : (16 : Int) < (Maps.size D : Int) := by omega
      clear hi h2
      go_enter Tryz.func218, Tryz.ntmps218
      go_wp2_with (first
        | (at_lookup; refine wpList_lookup_own_ok_int _ rfl _ _ 238 rfl 9 3 .i64 strKeyed Tryz.underlying238 Tryz.underlying3 (zeroInt _) m (Maps.size D) D rfl hown _ _ rfl hkey ?_; intro c hat hwc)
        | (at_len; refine wpList_len_own _ rfl _ 238 rfl 9 3 Tryz.underlying238 _ m (Maps.size D) D rfl hown ?_)
        | go_in)
      go_ret
      rw [show opn D s = _ from E]
      exact ⟨rfl, B, hown.turned_refl⟩
    · have E := Lib.hid (show opn D s = (D.put (kS s) (nI 0), 0) by unfold opn; rw [if_neg (by rw [hi]; simp), if_neg h2])
      have h2' : (Maps.size D : Int) ≤ (16 : Int) := by omega
      clear hi h2
      go_enter Tryz.func218, Tryz.ntmps218
      go_wp2_with (first
        | (at_lookup; refine wpList_lookup_own_ok_int _ rfl _ _ 238 rfl 9 3 .i64 strKeyed Tryz.underlying238 Tryz.underlying3 (zeroInt _) m (Maps.size D) D rfl hown _ _ rfl hkey ?_; intro c hat hwc)
        | (at_len; refine wpList_len_own _ rfl _ 238 rfl 9 3 Tryz.underlying238 _ m (Maps.size D) D rfl hown ?_)
        | (at_mapUpdate; refine wpList_mapUpdate_in _ rfl _ _ _ 238 rfl 9 3 strKeyed Tryz.underlying238 _ m (Maps.size D) D rfl hown hD _ _ _ rfl rfl hkey _ [] (plainElem_int Tryz.underlying3 (by decide)) ?_; intro w1 hown1 hturn1)
        | go_in)
      go_ret
      rw [show opn D s = _ from E]
      exact ⟨rfl, B.turned hown1 hturn1, hturn1⟩
  · have hi' : Maps.has D (kS s) = true := hi
    have E := Lib.hid (show opn D s = (D, 9) by unfold opn; rw [if_pos hi])
    clear hi
    go_enter Tryz.func218, Tryz.ntmps218
    go_wp2_with (first
      | (at_lookup; refine wpList_lookup_own_ok_int _ rfl _ _ 238 rfl 9 3 .i64 strKeyed Tryz.underlying238 Tryz.underlying3 (zeroInt _) m (Maps.size D) D rfl hown _ _ rfl hkey ?_; intro c hat hwc)
      | go_in)
    go_ret
    rw [show opn D s = _ from E]
    exact ⟨rfl, B, hown.turned_refl⟩

set_option maxRecDepth 100000 in
set_option maxHeartbeats 400000 in
theorem bclose_calls (d m : Nat) (D : DataW H) (s : ByteArray) (w : World) (h : Bk w d m D) (hs : s.size ≤ maxLen) :
    Calls Tryz.prog 219 #[.pointer (some ⟨d, 0, none⟩), .string s] w fun en w' => BPost d m w (cls D s) en w' := by
  have hkey := kS_of hs
  have c0 : w.cell? ⟨d, 0, none⟩ = some (.map (some m)) := h.box.cell 0
  have hown : w.ownsMap Tryz.prog 9 (plainElem Tryz.prog 3) m (Maps.size D) D := h.map
  have B := Lib.hid h
  clear h hs
  cases hi : isIn D s
  · have hi' : Maps.has D (kS s) = false := hi
    have E := Lib.hid (show cls D s = (D, 8) by unfold cls; rw [if_pos hi])
    clear hi
    go_enter Tryz.func219, Tryz.ntmps219
    go_wp2_with (first
      | (at_lookup; refine wpList_lookup_own_ok_int _ rfl _ _ 238 rfl 9 3 .i64 strKeyed Tryz.underlying238 Tryz.underlying3 (zeroInt _) m (Maps.size D) D rfl hown _ _ rfl hkey ?_; intro c hat hwc)
      | go_in)
    go_ret
    rw [show cls D s = _ from E]
    exact ⟨rfl, B, hown.turned_refl⟩
  · have hi' : Maps.has D (kS s) = true := hi
    by_cases h2 : amt D s = 0
    · have E := Lib.hid (show cls D s = (D.del (kS s), 0) by unfold cls; rw [if_neg (by rw [hi]; simp), if_neg (by simpa using h2)])
      have E2 := Lib.hid h2
      clear hi h2
      go_enter Tryz.func219, Tryz.ntmps219
      go_wp2_with (first
        | (at_lookup; refine wpList_lookup_own_ok_int _ rfl _ _ 238 rfl 9 3 .i64 strKeyed Tryz.underlying238 Tryz.underlying3 (zeroInt _) m (Maps.size D) D rfl hown _ _ rfl hkey ?_; intro c hat hwc; obtain rfl : c = 0 := (amt_of hat).symm.trans E2)
        | (at_delete; refine wpList_delete_own _ rfl _ _ 238 9 rfl 3 strKeyed Tryz.underlying238 _ m (Maps.size D) D rfl hown _ _ rfl hkey ?_; intro w1 hown1 hturn1)
        | go_in)
      go_ret
      rw [show cls D s = _ from E]
      exact ⟨rfl, B.turned hown1 hturn1, hturn1⟩
    · have E := Lib.hid (show cls D s = (D, 11) by unfold cls; rw [if_neg (by rw [hi]; simp), if_pos h2])
      have E2 := Lib.hid h2
      clear hi h2
      go_enter Tryz.func219, Tryz.ntmps219
      go_wp2_with (first
        | (at_lookup; refine wpList_lookup_own_ok_int _ rfl _ _ 238 rfl 9 3 .i64 strKeyed Tryz.underlying238 Tryz.underlying3 (zeroInt _) m (Maps.size D) D rfl hown _ _ rfl hkey ?_; intro c hat hwc; have hc : (c != 0) = true := by { have hz : c ≠ 0 := fun e => E2 ((amt_of hat).trans e); simpa using hz })
        | go_in)
      go_ret
      rw [show cls D s = _ from E]
      exact ⟨rfl, B, hown.turned_refl⟩

end
end Go.Proofs.YtcdedkgkingbdaaGreatDoor
end

