/- ProofRight: for every leaf, three numbers and list of strings the law answers true, and its arguments read afterwards as they did. Conditions: the row lists two package-level variables (digest's table of rounds, errors.errorType); the card ties them to the program's own text. -/
import Derived.Test.YtiogjmlkogeibaaDoorPrfU
import Derived.Test.YtiogjmlkogeibaaDoorPrfV
import Derived.Test.YtiogjmlkogeibaaDoorPrfT
import Derived.Test.YtiogjmlkogeibaaDoorKeep
import Derived.Test.YtiogjmlkogeibaaDoorCards
import Derived.Test.YtiogjmlkogeibaaDoorTie
import Derived.ProofKit
import Derived.OpenShut
import Derived.ShutString
import Derived.SevenTiedAt
namespace Go.Proofs.YtiogjmlkogeibaaDoor.proofRight
open Go Go.ChangeShapes Go.WideShapes Go.ChangeAt Go.RowKit Go.Proofs.YtiogjmlkogeibaaDoor.dig Go.Proofs.YtiogjmlkogeibaaDoor.prf
open Go.ChangeMaps (open_string shut_string)

def Arg4 (w : World) (a : Option Addr) (len cap : Nat) : Prop := ∃ T, ArgS w a len cap T
theorem opened4 {H : Type} {enc : TypeId × Value → H} {w : World} {spare : Nat → Bool} {held : Bool} {a : Option Addr} {len cap : Nat} {d : DataW H} {p : List MemPlace} (h : DataW.Trod enc Tryd.prog w 0 spare held 22 (.slice a len cap) d p) : Arg4 w a len cap := openedStrs h

theorem argS_below {w V : World} {a : Option Addr} {len cap : Nat} {T : Nat → ByteArray} (h : ArgS w a len cap T) (b : Below w.heap.size w V) : ArgS V a len cap T := ⟨h.1, h.2.1, fun i hi => by
  obtain ⟨g, o, e, hg, hc, hs⟩ := h.2.2 i hi
  refine ⟨g, o, e, Nat.lt_of_lt_of_le hg b.size, ?_, hs⟩
  rw [← hc]; unfold World.cell?; rw [b.block g hg]⟩

/-- What lasts: the head, the sums. -/
structure Rx (w : World) (y : List UInt8) (n : Int) (o : Value) (r : List (List UInt8)) (gh : Nat) (V : World) : Prop where
  bel : Below w.heap.size w V
  hh : Has V gh 33 (headC n y)
  so : Sms V o r
theorem Rx.below {w V V' : World} {y : List UInt8} {n : Int} {o : Value} {r : List (List UInt8)} {gh : Nat} (h : Rx w y n o r gh V) (b : Below V.heap.size V V') : Rx w y n o r gh V' :=
  ⟨h.bel.trans (b.mono h.bel.size), h.hh.below b h.hh.lt, h.so.below b⟩

/-- The first in memory, and the others. -/
theorem Sms.tail {w : World} {g off n c : Nat} {r : List (List UInt8)} {x : List UInt8} (h : Sms w (.slice (some ⟨g, off, none⟩) n c) (r ++ [x])) : Sms w (.slice (some ⟨g, off + 32, none⟩) r.length (c - 1)) r ∧ n = r.length + 1 ∧ n ≤ c ∧ c ≤ maxLen := by
  have hx : x.length = 32 := h.2 x (by simp)
  obtain ⟨a', c', e, h1, h2⟩ := h.1.slice
  simp only [Value.slice.injEq] at e
  obtain ⟨_, e2, rfl⟩ := e
  have hn : n = r.length + 1 := by rw [e2]; simp
  have hs := h.1
  rw [e2] at hs
  have hb := Seg.behind hs 1 (by simp)
  refine ⟨⟨?_, fun y hy => h.2 y (by simp [hy])⟩, hn, by omega, h2⟩
  have e3 : (r ++ [x]).length - 1 = r.length := by simp
  rw [e3, Nat.one_mul] at hb
  have e4 : (sumsC (r ++ [x]).reverse).drop 32 = sumsC r.reverse := by
    rw [List.reverse_append]
    show (sumsC (x :: r.reverse)).drop 32 = _
    unfold sumsC
    rw [List.flatMap_cons, List.drop_append_of_le_length (by rw [List.length_map, hx]; exact Nat.le_refl _), List.drop_of_length_le (by rw [List.length_map, hx]; exact Nat.le_refl _), List.nil_append]
  rwa [e4] at hb

set_option maxRecDepth 100000 in
set_option maxHeartbeats 4000000 in
theorem walk (lf : ByteArray) (i0 m0 n0 : Int) (a : Option Addr) (len cap : Nat) (w : World) (hlf : lf.size ≤ maxLen) (_hi0 : (Lit.int .i64 i0).wf = true) (_hm0 : (Lit.int .i64 m0).wf = true) (_hn0 : (Lit.int .i64 n0).wf = true) (hA : Arg4 w a len cap) (hL : Lw w) :
    Calls Tryd.prog 4 #[.string lf, .int .i64 i0, .int .i64 m0, .int .i64 n0, .slice a len cap] w fun en w' => en = .returned (.bool true) ∧ Below w.heap.size w w' := by
  obtain ⟨T, hT⟩ := hA
  have HT := Lib.hid hT
  have HL := Lib.hid hL
  have HLF := Lib.hid hlf
  clear hT hL hlf
  go_enter Tryd.func4, Tryd.ntmps4
  go_wp2_with fail
  refine (awake_any w HL.out).mono ?_
  rintro en w1 ⟨rfl, b1⟩
  have B1 := Lib.hid b1
  clear b1
  go_wp2_with fail
  refine (cut_any lf 20 w1 (by decide) HLF.out).mono ?_
  rintro en w' ⟨rfl, rfl⟩
  obtain ⟨leaf, hleaf, hls⟩ := cut_size lf 20
  rw [hleaf]
  have HLS : Hid (leaf.size ≤ 20) := Lib.hid hls
  clear hleaf hls
  go_wp2_with fail
  refine (few_calls n0 w1).mono ?_
  rintro en w' ⟨⟨n1, rfl, hn1, hn2⟩, rfl⟩
  obtain ⟨n2, hn3⟩ : ∃ n2, n2 = n1 + 3 := ⟨_, rfl⟩
  obtain ⟨q, hq⟩ : ∃ q : Nat, (q : Int) = n2 % 200 := ⟨(n2 % 200).toNat, by omega⟩
  have n3 : n1 + 3 = n2 := hn3.symm
  have n4 : 0 ≤ n2 := by omega
  have n5 : n2.tmod 200 = (q : Int) := by rw [Int.tmod_eq_emod_of_nonneg n4]; exact hq.symm
  obtain ⟨N, hN⟩ : ∃ N : Nat, N = 1 + q := ⟨_, rfl⟩
  have n6 : 1 + (q : Int) = (N : Int) := by omega
  have n7 : (q : Int) < 200 := by omega
  have HN : Hid (1 ≤ N ∧ N ≤ 200) := Lib.hid (by omega)
  clear hn3 hq hN
  go_wp2_with fail
  refine (few_calls i0 w1).mono ?_
  rintro en w' ⟨⟨i1, rfl, hi1, hi2⟩, rfl⟩
  obtain ⟨i2, hi3⟩ : ∃ i2, i2 = i1 + 3 := ⟨_, rfl⟩
  have hNp := HN.out.1
  obtain ⟨i, hi⟩ : ∃ i : Nat, (i : Int) = i2 % (N : Int) := ⟨(i2 % (N : Int)).toNat, by have := Int.emod_nonneg i2 (show (N : Int) ≠ 0 by omega); omega⟩
  have i3 : i1 + 3 = i2 := hi3.symm
  have i4 : 0 ≤ i2 := by omega
  have i5 : i2.tmod (N : Int) = (i : Int) := by rw [Int.tmod_eq_emod_of_nonneg i4]; exact hi.symm
  have i6 : ¬ (N : Int) = 0 := by omega
  have HIN : Hid (i < N) := Lib.hid (by have := Int.emod_lt_of_pos i2 (show (0 : Int) < N by omega); omega)
  clear hi3 hi hNp
  go_wp2_with fail
  refine (lsums_calls a len cap T w1 (argS_below HT.out B1.out)).mono ?_
  rintro en w6 ⟨o, t, r, rfl, hrl, hs6, ht6, lo6, -, b6⟩
  obtain ⟨ao, co, rfl, -⟩ := hs6.slice
  obtain ⟨ai, ci, rfl, -⟩ := ht6.slice
  have HRL := Lib.hid hrl
  have LO : Hid (∀ b, (Value.slice ao r.length co).ownBlock = some b → w.heap.size ≤ b) := Lib.hid (fun b hb => Nat.le_trans B1.out.size (lo6 b hb))
  have K6 : Hid (Below w.heap.size w w6 ∧ Sms w6 (.slice ao r.length co) r ∧ Tst w6 (.slice ai r.length ci) r) := Lib.hid ⟨B1.out.trans (b6.mono B1.out.size), hs6, ht6⟩
  clear hs6 ht6 b6 hrl lo6
  obtain ⟨lfs, hlfs⟩ : ∃ x, x = leafS leaf.data.toList := ⟨_, rfl⟩
  have LL : Hid (lfs.length = 32) := Lib.hid (by rw [hlfs]; exact leafS_length _)
  have CL : Hid (∀ V, Lw V → Calls Tryd.prog 16 #[.string leaf] V fun en w' => en = .returned (.agg (cellsOf lfs)) ∧ Below V.heap.size V w') := Lib.hid (fun V h => by rw [hlfs]; exact leaf_calls leaf V h.rk (by have := HLS.out; omega))
  have HLFS := Lib.hid hlfs
  clear hlfs
  go_wp2_with fail
  refine (CL.out w6 (HL.out.below K6.out.1)).mono ?_
  rintro en w7 ⟨rfl, b7⟩
  have K7 : Hid (Below w.heap.size w w7 ∧ Sms w7 (.slice ao r.length co) r ∧ Tst w7 (.slice ai r.length ci) r) := Lib.hid ⟨K6.out.1.trans (b7.mono K6.out.1.size), K6.out.2.1.below b7, K6.out.2.2.below b7⟩
  clear b7 K6 CL
  obtain ⟨sl, hsl⟩ : ∃ sl, sl = bs lfs := ⟨_, rfl⟩
  have HSL := Lib.hid hsl
  go_wp2_with (first
    | ((with_reducible refine at_store (.tmp 13) ?_); refine wpList_store_arr (o := ⟨none, _, _, _, _, _⟩) rfl 27 _ _ rfl w7.heap.size lfs Z rfl rfl _ (made_at _ _ rfl) 32 (by kernel_rfl) Z_len LL.out ?_; intro W8 HW8 TW8
       (have K8 : Hid (Below w.heap.size w W8 ∧ Sms W8 (.slice ao r.length co) r ∧ Tst W8 (.slice ai r.length ci) r) := Lib.hid (by
         have b8 : Below w7.heap.size w7 W8 := ((Below.refl _ _).alloc (Nat.le_refl _) _).trans (TW8.below (by simp) (fun j hj e => by omega))
         exact ⟨K7.out.1.trans (b8.mono K7.out.1.size), K7.out.2.1.below b8, K7.out.2.2.below b8⟩))
       (have ca : (convert 41 9 (.slice (some ⟨w7.heap.size, 0, none⟩) 32 32)).run Tryd.prog W8 = .ok (.string sl) W8 := by
         have := run_str_arr (P := Tryd.prog) 41 9 5 Tryd.underlying41 Tryd.underlying5 Tryd.underlying9 w7.heap.size 27 lfs 32 W8 HW8
         rwa [LL.out, show (⟨lfs.toArray⟩ : ByteArray) = sl from hsl.symm] at this)
       (clear TW8 HW8 K7 hsl))
    | fail)
  clear ca
  obtain ⟨ub, hub⟩ : ∃ b, b = (up [] lfs r i N).2 := ⟨_, rfl⟩
  obtain ⟨u1, hu1⟩ : ∃ x, x = (up [] lfs r i N).1 := ⟨_, rfl⟩
  obtain ⟨su, hsu⟩ : ∃ x, x = bs u1 := ⟨_, rfl⟩
  have CU : Hid (Calls Tryd.prog 17 #[.int .i64 i, .int .i64 N, .string sl, .slice ai r.length ci] W8 fun en w' => en = .returned (.tuple #[.string su, .bool ub]) ∧ Below W8.heap.size W8 w') := Lib.hid (by
    rw [hsu, hu1, hub, HSL.out]; exact rup_calls LL.out r i N ai ci W8 K8.out.2.2 HIN.out (by have := HN.out; omega))
  have HUB := Lib.hid hub
  have HU1 := Lib.hid hu1
  have HSU := Lib.hid hsu
  clear hub hu1 hsu
  refine CU.out.mono ?_
  rintro en w9 ⟨rfl, b9⟩
  have K9 : Hid (Below w.heap.size w w9 ∧ Sms w9 (.slice ao r.length co) r) := Lib.hid ⟨K8.out.1.trans (b9.mono K8.out.1.size), K8.out.2.1.below b9⟩
  clear b9 K8 CU
  cases ub
  · go_wp2_with fail
    go_ret
    exact ⟨rfl, K9.out.1⟩
  have hok := HUB.out
  have hz := up_any (List.replicate 32 0) [] lfs r i N
  have HU : Hid (u1.length = 32) := Lib.hid (by rw [HU1.out, ← hz.2 (by rw [hz.1, ← hok])]; exact up_len Zl LL.out r i N)
  have HE0 : Hid (inclE leaf.data.toList i N u1 r = 0) := Lib.hid (by
    have hin := HIN.out
    rw [inclE_nil _ (by omega), ← HLFS.out, Int.toNat_natCast, Int.toNat_natCast, ← hok, ← HU1.out]
    simp)
  have HEX : Hid (∀ r' : List (List UInt8), r.length ≠ r'.length → inclE leaf.data.toList i N u1 r' = 12) := Lib.hid (fun r' hl => by
    have hin := HIN.out
    rw [inclE_nil _ (by omega), ← HLFS.out, Int.toNat_natCast, Int.toNat_natCast, up_more [] lfs [] lfs r r' i N hok.symm hl]
    simp)
  clear hz hok
  have CS : Hid (∀ V, Calls Tryd.prog 9 #[.string su] V fun en w' => en = .returned (.agg (cellsOf u1)) ∧ Below V.heap.size V w') := Lib.hid (fun V => by
    have := lsum_calls su V
    have e : pad su.data.toList = u1 := by rw [HSU.out, bs_list, pad_self HU.out]
    rw [e] at this
    exact this)
  go_wp2_with fail
  refine (CS.out w9).mono ?_
  rintro en w10 ⟨rfl, b10⟩
  have K10 : Hid (Below w.heap.size w w10 ∧ Sms w10 (.slice ao r.length co) r) := Lib.hid ⟨K9.out.1.trans (b10.mono K9.out.1.size), K9.out.2.below b10⟩
  clear b10 K9 CS HUB HU1 HSU HSL HLFS
  go_wp2_with (first
    | ((with_reducible refine at_op 52 ?_); refine wpList_head (o := ⟨some 52, _, _, _, _, _⟩) rfl _ _ rfl N u1 rfl rfl HU.out ?_)
    | ((with_reducible refine at_store (.tmp 16) ?_); refine wpList_store_head (o := ⟨none, _, _, _, _, _⟩) rfl _ _ rfl w10.heap.size N 0 u1 Z rfl rfl (made_at _ _ rfl) HU.out Z_len ?_; intro W11 HW11 TW11
       (have K11 : Hid (Rx w u1 N (.slice ao r.length co) r w10.heap.size W11) := Lib.hid (by
         have b11 : Below w10.heap.size w10 W11 := ((Below.refl _ _).alloc (Nat.le_refl _) _).trans (TW11.below (by simp) (fun j hj e => by omega))
         exact ⟨K10.out.1.trans (b11.mono K10.out.1.size), HW11, K10.out.2.below b11⟩))
       (clear TW11 HW11 K10))
    | fail)
  generalize w10.heap.size = gh at *
  have CI : Hid (∀ V r' (a' : Option Addr) (c' : Nat), Lw V → Sms V (.slice a' r'.length c') r' → Calls Tryd.prog 11 #[.string leaf, .int .i64 i, .agg (headC N u1), .slice a' r'.length c'] V (ErrPost V ⟨#[108, 101, 97, 102]⟩ i (inclE leaf.data.toList i N u1 r'))) := Lib.hid fun V r' a' c' h hs => incl_calls leaf i N u1 HU.out (by have := HN.out; omega) r' a' c' V h.rk hs (by have := HLS.out; omega)
  have C0 : Hid (∀ V, Rx w u1 N (.slice ao r.length co) r gh V → Calls Tryd.prog 11 #[.string leaf, .int .i64 i, .agg (headC N u1), .slice ao r.length co] V fun en w' => en = .returned .nilIface ∧ Below V.heap.size V w') := Lib.hid fun V h => (CI.out V r ao co (HL.out.below h.bel) h.so).mono fun _ _ p => by
    obtain ⟨v, rfl, he, b⟩ := p
    rw [HE0.out] at he
    rcases he with ⟨_, rfl⟩ | ⟨h, _⟩
    · exact ⟨rfl, b⟩
    · exact absurd rfl h
  obtain ⟨i0, z0, hi0, hz0, hz1, hz2, hz3⟩ := sumInfo
  have HI0 := Lib.hid hi0
  have HZ0 := Lib.hid hz0
  clear hi0 hz0
  obtain ⟨one, hone⟩ : ∃ one : List UInt8, one = 1 :: List.replicate 31 0 := ⟨_, rfl⟩
  have HONE : Hid (one.length = 32) := Lib.hid (by rw [hone]; simp)
  obtain ⟨V0, hV0⟩ : ∃ V, V = W11.drew := ⟨_, rfl⟩
  refine prf.wp_region_held (fun V => Rx w u1 N (.slice ao r.length co) r gh V) V0 hV0 (by kernel_rfl) ?_
  have S0 : Rx w u1 N (.slice ao r.length co) r gh V0 := by rw [hV0]; exact K11.out.below (Below.refl _ _).drew
  clear hV0 K11
  refine held_take 0 (some 53) (v := .string leaf) rfl rfl (by kernel_rfl) (by kernel_rfl) (by kernel_rfl) (fun _ _ _ h => h) (.inl ⟨by kernel_rfl, fun V hV => by go_simp⟩) S0 ?_
  refine held_take 1 (some 54) (v := .int .i64 i) rfl rfl (by kernel_rfl) (by kernel_rfl) (by kernel_rfl) (fun _ _ _ h => h) (.inl ⟨by kernel_rfl, fun V hV => by go_simp⟩) S0 ?_
  refine held_take 2 (some 55) (v := .agg (headC N u1)) rfl rfl (by kernel_rfl) (by kernel_rfl) (by kernel_rfl) (fun _ _ _ h => h) (.inl ⟨by kernel_rfl, fun V hV => by exact exec_load 33 (.tmp 16) rfl (.pointer (some ⟨gh, 0, none⟩)) rfl (Has.load_hd hV.hh HU.out)⟩) S0 ?_
  refine held_take 3 (some 56) (v := .slice ao r.length co) rfl rfl (by kernel_rfl) (by kernel_rfl) (by kernel_rfl) (fun _ _ _ h => h) (.inl ⟨by kernel_rfl, fun V hV => by go_simp⟩) S0 ?_
  simp only [Act.put, List.setIfInBounds_toArray, List.set_cons_zero, List.set_cons_succ]
  refine held_one (i := 4) (by kernel_rfl) ?_
  refine wpOp_call (some 57) rfl rfl (by kernel_rfl) 11 Tryd.f11 Tryd.func11 (by kernel_rfl) (by kernel_rfl) _ _ rfl #[.string leaf, .int .i64 i, .agg (headC N u1), .slice ao r.length co] (by first | (simp [Act.eval]; done) | (simp [Act.eval, Act.put]; done)) (C0.out V0 S0) ?_
  rintro en V1 ⟨rfl, b⟩
  have S1 := S0.below b
  clear b
  refine ⟨_, rfl, S1, ?_⟩
  simp only [Act.put, List.setIfInBounds_toArray, List.set_cons_zero, List.set_cons_succ]
  refine held_take 5 (some 58) (v := .bool false) rfl rfl (by kernel_rfl) (by kernel_rfl) (by kernel_rfl) (fun _ _ _ h => h) (.inl ⟨by kernel_rfl, fun V hV => by go_simp⟩) S1 ?_
  refine held_take 6 (some 59) (v := .bool false) rfl rfl (by kernel_rfl) (by kernel_rfl) (by kernel_rfl) (fun _ _ _ h => h) (.inl ⟨by kernel_rfl, fun V hV => by go_simp⟩) S1 ?_
  refine held_take 7 (some 60) (v := .string leaf) rfl rfl (by kernel_rfl) (by kernel_rfl) (by kernel_rfl) (fun _ _ _ h => h) (.inl ⟨by kernel_rfl, fun V hV => by go_simp⟩) S1 ?_
  refine held_take 8 (some 61) (v := .int .i64 i) rfl rfl (by kernel_rfl) (by kernel_rfl) (by kernel_rfl) (fun _ _ _ h => h) (.inl ⟨by kernel_rfl, fun V hV => by go_simp⟩) S1 ?_
  refine held_take 9 (some 62) (v := .agg (headC N u1)) rfl rfl (by kernel_rfl) (by kernel_rfl) (by kernel_rfl) (fun _ _ _ h => h) (.inl ⟨by kernel_rfl, fun V hV => by exact exec_load 33 (.tmp 16) rfl (.pointer (some ⟨gh, 0, none⟩)) rfl (Has.load_hd hV.hh HU.out)⟩) S1 ?_
  refine held_take 10 (some 63) (v := .slice ao r.length co) rfl rfl (by kernel_rfl) (by kernel_rfl) (by kernel_rfl) (fun _ _ _ h => h) (.inl ⟨by kernel_rfl, fun V hV => by go_simp⟩) S1 ?_
  refine held_take 11 (some 64) (v := .agg (cellsOf one)) rfl rfl (by kernel_rfl) (by kernel_rfl) (by kernel_rfl) (fun _ _ _ h => h) (.inl ⟨by kernel_rfl, fun V hV => by rw [hone]; go_simp; rfl⟩) S1 ?_
  simp only [Act.put, List.setIfInBounds_toArray, List.set_cons_zero, List.set_cons_succ]
  refine held_one (i := 12) (by kernel_rfl) ?_
  refine wpOp_wp (o := ⟨some 65, _, _, _, _, _⟩) rfl (by kernel_rfl) (wp_build_one 29 27 _ rfl i0 z0 Tryd.underlying29 HI0.out HZ0.out (cellsOf one) rfl (by rw [hz1, cellsOf_size, HONE.out]) (by rw [cellsOf_size, HONE.out]; decide) (by rw [cellsOf_size, HONE.out]; decide) V1.heap.size rfl ?_)
  intro W2 HW2 BW2
  have S2 := S1.below BW2
  clear BW2
  refine ⟨S2, ?_⟩
  simp only [Act.put, List.setIfInBounds_toArray, List.set_cons_zero, List.set_cons_succ]
  refine held_one (i := 13) (by kernel_rfl) ?_
  refine wpOp_wp (o := ⟨some 66, _, _, _, _, _⟩) rfl (by kernel_rfl) (wp_append_keep W2 (.tmp 63) (.tmp 65) 29 rfl 27 i0 z0 32 32 Tryd.underlying29 HI0.out HZ0.out hz1 hz3 hz2 (by decide) (.slice ao r.length co) r.length (sumsC r.reverse) rfl S2.so.1 ⟨V1.heap.size, 0, none⟩ 1 1 (one.map byteV) rfl (by rw [List.length_map, HONE.out]) (World.news_of_block HW2) (byteV_one _) (by decide) (by have := HRL.out; unfold maxLen; omega) (by have := HRL.out; omega) W2.heap.size rfl ?_)
  intro g off cp W3 hown hgrow hat hlt hkeep
  have t3 : Turn (fun j => (Value.slice ao r.length co).ownBlock = some j) W2 W3 := ⟨hgrow.os, hgrow.tape, hgrow.output, hgrow.size, fun j hj e => hgrow.block j hj (fun e2 => e e2.symm)⟩
  have S3 : Rx w u1 N (.slice ao r.length co) r gh W3 := ⟨S2.bel.trans (t3.below S2.bel.size (fun j hj e => by have := LO.out j e; omega)), S2.hh.turn t3 (S2.so.1.ne S2.hh (by decide)), ⟨hkeep, S2.so.2⟩⟩
  have P3 : Sms W3 (.slice (some ⟨g, off, none⟩) (one :: r).length cp) (one :: r) := ⟨by rw [List.reverse_cons, sumsC_snoc]; exact hown, fun y hy => by rcases List.mem_cons.1 hy with rfl | hy; exact HONE.out; exact S2.so.2 y hy⟩
  clear hown hgrow hat hlt hkeep t3 HW2
  refine ⟨S3, ?_⟩
  simp only [Act.put, List.setIfInBounds_toArray, List.set_cons_zero, List.set_cons_succ]
  refine held_one (i := 14) (by kernel_rfl) ?_
  refine wpOp_call (some 67) rfl rfl (by kernel_rfl) 11 Tryd.f11 Tryd.func11 (by kernel_rfl) (by kernel_rfl) _ _ rfl #[.string leaf, .int .i64 i, .agg (headC N u1), .slice (some ⟨g, off, none⟩) (one :: r).length cp] (by first | (simp [Act.eval]; done) | (simp [Act.eval, Act.put]; done)) (CI.out W3 (one :: r) (some ⟨g, off, none⟩) cp (HL.out.below S3.bel) P3) ?_
  rintro en V4 ⟨e, rfl, he, b⟩
  rw [HEX.out (one :: r) (by simp)] at he
  have S4 := S3.below b
  clear b P3
  refine ⟨_, rfl, S4, ?_⟩
  simp only [Act.put, List.setIfInBounds_toArray, List.set_cons_zero, List.set_cons_succ]
  refine held_one (i := 15) (by kernel_rfl) ?_
  refine wpOp_call (some 68) rfl rfl (by kernel_rfl) 13 Tryd.f13 Tryd.func13 (by kernel_rfl) (by kernel_rfl) _ _ rfl #[e] (by first | (simp [Act.eval]; done) | (simp [Act.eval, Act.put]; done)) (of_err (HL.out.below S4.bel).et he) ?_
  rintro en V5 ⟨rfl, b⟩
  have S5 := S4.below b
  clear b he
  refine ⟨_, rfl, S5, ?_⟩
  simp only [Act.put, List.setIfInBounds_toArray, List.set_cons_zero, List.set_cons_succ]
  refine held_take 16 (some 69) (v := .bool false) rfl rfl (by kernel_rfl) (by kernel_rfl) (by kernel_rfl) (fun _ _ _ h => h) (.inl ⟨by kernel_rfl, fun V hV => by go_simp⟩) S5 ?_
  refine held_take 17 (some 70) (v := .bool false) rfl rfl (by kernel_rfl) (by kernel_rfl) (by kernel_rfl) (fun _ _ _ h => h) (.inl ⟨by kernel_rfl, fun V hV => by go_simp⟩) S5 ?_
  simp only [Act.put, List.setIfInBounds_toArray, List.set_cons_zero, List.set_cons_succ]
  refine wpAnyH_done (by kernel_rfl) ?_ _
  have K12 := Lib.hid S5
  clear S0 S1 S2 S3 S4 S5 C0 HE0 HI0 HZ0 hone HONE
  go_wp2_with fail
  obtain ⟨V6, hV6⟩ : ∃ V, V = V5.drew := ⟨_, rfl⟩
  refine prf.wp_region_held (fun V => Rx w u1 N (.slice ao r.length co) r gh V) V6 hV6 (by kernel_rfl) ?_
  have S6 : Rx w u1 N (.slice ao r.length co) r gh V6 := by rw [hV6]; exact K12.out.below (Below.refl _ _).drew
  clear hV6 K12
  rcases List.eq_nil_or_concat r with hr | ⟨r', x, hr⟩
  · subst hr
    refine held_take 0 (some 71) (v := .slice ao 0 co) rfl rfl (by kernel_rfl) (by kernel_rfl) (by kernel_rfl) (fun _ _ _ h => h) (.inl ⟨by kernel_rfl, fun V hV => by go_simp⟩) S6 ?_
    refine held_take 1 (some 72) (v := .int .i64 0) rfl rfl (by kernel_rfl) (by kernel_rfl) (by kernel_rfl) (fun _ _ _ h => h) (.inl ⟨by kernel_rfl, fun V hV => by go_simp⟩) S6 ?_
    refine held_take 2 (some 73) (v := .bool true) rfl rfl (by kernel_rfl) (by kernel_rfl) (by kernel_rfl) (fun _ _ _ h => h) (.inl ⟨by kernel_rfl, fun V hV => by go_simp⟩) S6 ?_
    refine held_take 3 (some 74) (v := .bool true) rfl rfl (by kernel_rfl) (by kernel_rfl) (by kernel_rfl) (fun _ _ _ h => h) (.inl ⟨by kernel_rfl, fun V hV => by go_simp⟩) S6 ?_
    refine held_take 4 (some 75) (v := undef) rfl rfl (by kernel_rfl) (by kernel_rfl) (by kernel_rfl) (fun _ _ _ h => h) (.inr ⟨by kernel_rfl, rfl⟩) S6 ?_
    refine held_take 5 (some 76) (v := undef) rfl rfl (by kernel_rfl) (by kernel_rfl) (by kernel_rfl) (fun _ _ _ h => h) (.inr ⟨by kernel_rfl, rfl⟩) S6 ?_
    refine held_take 6 (some 77) (v := undef) rfl rfl (by kernel_rfl) (by kernel_rfl) (by kernel_rfl) (fun _ _ _ h => h) (.inr ⟨by kernel_rfl, rfl⟩) S6 ?_
    refine held_take 7 (some 78) (v := undef) rfl rfl (by kernel_rfl) (by kernel_rfl) (by kernel_rfl) (fun _ _ _ h => h) (.inr ⟨by kernel_rfl, rfl⟩) S6 ?_
    refine held_take 8 (some 79) (v := undef) rfl rfl (by kernel_rfl) (by kernel_rfl) (by kernel_rfl) (fun _ _ _ h => h) (.inr ⟨by kernel_rfl, rfl⟩) S6 ?_
    refine held_take 9 (some 80) (v := undef) rfl rfl (by kernel_rfl) (by kernel_rfl) (by kernel_rfl) (fun _ _ _ h => h) (.inr ⟨by kernel_rfl, rfl⟩) S6 ?_
    refine held_take 10 (some 81) (v := undef) rfl rfl (by kernel_rfl) (by kernel_rfl) (by kernel_rfl) (fun _ _ _ h => h) (.inr ⟨by kernel_rfl, rfl⟩) S6 ?_
    refine held_take 11 (some 82) (v := undef) rfl rfl (by kernel_rfl) (by kernel_rfl) (by kernel_rfl) (fun _ _ _ h => h) (.inr ⟨by kernel_rfl, rfl⟩) S6 ?_
    simp only [Act.put, List.setIfInBounds_toArray, List.set_cons_zero, List.set_cons_succ]
    refine held_take 12 (some 83) (v := .bool true) rfl rfl (by kernel_rfl) (by kernel_rfl) (by kernel_rfl) (fun _ _ _ h => h) (.inl ⟨by kernel_rfl, fun V hV => by go_simp⟩) S6 ?_
    refine held_take 13 (some 10) (v := .bool true) rfl rfl (by kernel_rfl) (by kernel_rfl) (by kernel_rfl) (fun _ _ _ h => h) (.inl ⟨by kernel_rfl, fun V hV => by go_simp⟩) S6 ?_
    simp only [Act.put, List.setIfInBounds_toArray, List.set_cons_zero, List.set_cons_succ]
    refine wpAnyH_done (by kernel_rfl) ?_ _
    have HS6 := Lib.hid S6.bel
    clear S6
    go_wp2_with fail
    go_ret
    exact ⟨rfl, HS6.out⟩
  · rw [List.concat_eq_append] at hr
    obtain ⟨q2, hq2⟩ : ∃ q2, q2 = r.length := ⟨_, rfl⟩
    have hq3 : q2 = r'.length + 1 := by rw [hq2, hr]; simp
    have S6' := S6.so
    rw [← hq2, hr] at S6'
    obtain ⟨a6, c6, e6, -, -⟩ := S6'.1.slice
    have hao : ∃ g off, ao = some ⟨g, off, none⟩ := by
      obtain ⟨g, off, c, e, _⟩ := S6.so.1.cells (by omega)
      simp only [Value.slice.injEq] at e
      exact ⟨g, off, e.1⟩
    obtain ⟨g, off, rfl⟩ := hao
    obtain ⟨P6, -, hqc, hcm⟩ := Sms.tail S6'
    have HP6 : Hid (∀ V, Rx w u1 N (.slice (some ⟨g, off, none⟩) r.length co) r gh V → Sms V (.slice (some ⟨g, off + 32, none⟩) r'.length (co - 1)) r') := Lib.hid (fun V h => by
      have h2 := h.so
      rw [← hq2, hr] at h2
      exact (Sms.tail h2).1)
    have HX6 : Hid (inclE leaf.data.toList i N u1 r' = 12) := Lib.hid (HEX.out r' (by omega))
    clear S6' P6 a6 c6 e6
    obtain ⟨l, hl⟩ : ∃ l, l = r'.length := ⟨_, rfl⟩
    obtain ⟨c2, hc2⟩ : ∃ c2, c2 = co - 1 := ⟨_, rfl⟩
    rw [← hq2] at *
    have d1 : (q2 : Int) - 1 = (l : Int) := by omega
    have d2 : (co : Int) - 1 = (c2 : Int) := by omega
    have d3 : q2 - 1 = l := by omega
    have d4 : co - 1 = c2 := by omega
    have d5 : (1 : Int) ≤ (q2 : Int) := by omega
    have d6 : (q2 : Int) ≤ (co : Int) := by omega
    have d7 : (1 : Int) ≤ (co : Int) := by omega
    have d8 : ((q2 : Int) == 0) = false := by rw [beq_eq_false_iff_ne]; omega
    have d9 : ¬ (q2 : Int) = 0 := by omega
    have d10 : (co : Int) ≤ 9223372036854775807 := by unfold maxLen at hcm; omega
    have HLR := Lib.hid hl
    obtain ⟨o2, ho2, HP⟩ : ∃ o2, ((co = 1 ∧ o2 = off) ∨ (co ≠ 1 ∧ o2 = off + 32)) ∧ Hid (∀ V, Rx w u1 N (.slice (some ⟨g, off, none⟩) q2 co) r gh V → Sms V (.slice (some ⟨g, o2, none⟩) r'.length c2) r') := by
      by_cases h1 : co = 1
      · refine ⟨off, .inl ⟨h1, rfl⟩, Lib.hid fun V h => ?_⟩
        have hl0 : l = 0 := by omega
        have hr0 : r' = [] := List.eq_nil_of_length_eq_zero (by omega)
        have hc0 : c2 = 0 := by omega
        subst hr0 hc0
        refine ⟨?_, fun y hy => by cases hy⟩
        rcases h.so.1.2 with ⟨e, _⟩ | ⟨g', off', cap, cur, e, hg, _, _, hs, _⟩
        · cases e
        · simp only [Value.slice.injEq, Option.some.injEq, Addr.mk.injEq, and_true] at e
          obtain ⟨⟨rfl, rfl⟩, _, rfl⟩ := e
          exact ⟨by simp [sumsC], .inr ⟨g, off, 0, cur, rfl, hg, Nat.le_refl _, by unfold maxLen; omega, by omega, by simp [sumsC]⟩⟩
      · refine ⟨off + 32, .inr ⟨h1, rfl⟩, Lib.hid fun V h => ?_⟩
        rw [hc2]
        exact HP6.out V h
    clear hr hq2 hq3 hqc hcm hl hc2 HP6
    rw [← HLR.out] at HP
    rcases ho2 with ⟨d0, ho2⟩ | ⟨d0, ho2⟩
    all_goals
      have d00 : Hid True := Lib.hid trivial
      refine held_take 0 (some 71) (v := .slice (some ⟨g, off, none⟩) q2 co) rfl rfl (by kernel_rfl) (by kernel_rfl) (by kernel_rfl) (fun _ _ _ h => h) (.inl ⟨by kernel_rfl, fun V hV => by go_simp⟩) S6 ?_
      refine held_take 1 (some 72) (v := .int .i64 q2) rfl rfl (by kernel_rfl) (by kernel_rfl) (by kernel_rfl) (fun _ _ _ h => h) (.inl ⟨by kernel_rfl, fun V hV => by go_simp⟩) S6 ?_
      refine held_take 2 (some 73) (v := .bool false) rfl rfl (by kernel_rfl) (by kernel_rfl) (by kernel_rfl) (fun _ _ _ h => h) (.inl ⟨by kernel_rfl, fun V hV => by go_simp⟩) S6 ?_
      refine held_take 3 (some 74) (v := .bool false) rfl rfl (by kernel_rfl) (by kernel_rfl) (by kernel_rfl) (fun _ _ _ h => h) (.inl ⟨by kernel_rfl, fun V hV => by go_simp⟩) S6 ?_
      refine held_take 4 (some 75) (v := .string leaf) rfl rfl (by kernel_rfl) (by kernel_rfl) (by kernel_rfl) (fun _ _ _ h => h) (.inl ⟨by kernel_rfl, fun V hV => by go_simp⟩) S6 ?_
      refine held_take 5 (some 76) (v := .int .i64 i) rfl rfl (by kernel_rfl) (by kernel_rfl) (by kernel_rfl) (fun _ _ _ h => h) (.inl ⟨by kernel_rfl, fun V hV => by go_simp⟩) S6 ?_
      refine held_take 6 (some 77) (v := .agg (headC N u1)) rfl rfl (by kernel_rfl) (by kernel_rfl) (by kernel_rfl) (fun _ _ _ h => h) (.inl ⟨by kernel_rfl, fun V hV => by exact exec_load 33 (.tmp 16) rfl (.pointer (some ⟨gh, 0, none⟩)) rfl (Has.load_hd hV.hh HU.out)⟩) S6 ?_
      refine held_take 7 (some 78) (v := .slice (some ⟨g, off, none⟩) q2 co) rfl rfl (by kernel_rfl) (by kernel_rfl) (by kernel_rfl) (fun _ _ _ h => h) (.inl ⟨by kernel_rfl, fun V hV => by go_simp⟩) S6 ?_
      simp only [Act.put, List.setIfInBounds_toArray, List.set_cons_zero, List.set_cons_succ]
      refine held_take 8 (some 79) (v := .slice (some ⟨g, o2, none⟩) l c2) rfl rfl (by kernel_rfl) (by kernel_rfl) (by kernel_rfl) (fun _ _ _ h => h) (.inl ⟨by kernel_rfl, fun V hV => by rw [ho2]; go_simp; try omega⟩) S6 ?_
      simp only [Act.put, List.setIfInBounds_toArray, List.set_cons_zero, List.set_cons_succ]
      refine held_one (i := 9) (by kernel_rfl) ?_
      have CI6 := CI.out V6 r' (some ⟨g, o2, none⟩) c2 (HL.out.below S6.bel) (by rw [← HLR.out]; exact HP.out V6 S6)
      rw [HX6.out, ← HLR.out] at CI6
      refine wpOp_call (some 80) rfl rfl (by kernel_rfl) 11 Tryd.f11 Tryd.func11 (by kernel_rfl) (by kernel_rfl) _ _ rfl #[.string leaf, .int .i64 i, .agg (headC N u1), .slice (some ⟨g, o2, none⟩) l c2] (by first | (simp [Act.eval]; done) | (simp [Act.eval, Act.put]; done)) CI6 ?_
      rintro en V7 ⟨e, rfl, he, b⟩
      have S7 := S6.below b
      clear b CI6
      refine ⟨_, rfl, S7, ?_⟩
      simp only [Act.put, List.setIfInBounds_toArray, List.set_cons_zero, List.set_cons_succ]
      refine held_one (i := 10) (by kernel_rfl) ?_
      refine wpOp_call (some 81) rfl rfl (by kernel_rfl) 13 Tryd.f13 Tryd.func13 (by kernel_rfl) (by kernel_rfl) _ _ rfl #[e] (by first | (simp [Act.eval]; done) | (simp [Act.eval, Act.put]; done)) (of_err (HL.out.below S7.bel).et he) ?_
      rintro en V8 ⟨rfl, b⟩
      have S8 := S7.below b
      clear b he
      refine ⟨_, rfl, S8, ?_⟩
      simp only [Act.put, List.setIfInBounds_toArray, List.set_cons_zero, List.set_cons_succ]
      refine held_take 11 (some 82) (v := .bool true) rfl rfl (by kernel_rfl) (by kernel_rfl) (by kernel_rfl) (fun _ _ _ h => h) (.inl ⟨by kernel_rfl, fun V hV => by go_simp⟩) S8 ?_
      refine held_take 12 (some 83) (v := .bool true) rfl rfl (by kernel_rfl) (by kernel_rfl) (by kernel_rfl) (fun _ _ _ h => h) (.inl ⟨by kernel_rfl, fun V hV => by go_simp⟩) S8 ?_
      refine held_take 13 (some 10) (v := .bool true) rfl rfl (by kernel_rfl) (by kernel_rfl) (by kernel_rfl) (fun _ _ _ h => h) (.inl ⟨by kernel_rfl, fun V hV => by go_simp⟩) S8 ?_
      simp only [Act.put, List.setIfInBounds_toArray, List.set_cons_zero, List.set_cons_succ]
      refine wpAnyH_done (by kernel_rfl) ?_ _
      have HS8 := Lib.hid S8.bel
      clear S6 S7 S8
      go_wp2_with fail
      go_ret
      exact ⟨rfl, HS8.out⟩
theorem own : ownKnob Tryd.prog.godebug = none := by kernel_rfl
theorem laidOut : laidOutB Tryd.prog = true := by kernel_rfl

set_option maxRecDepth 100000 in
theorem lifted (os : Os) (started : os.Started) (H : Type) (enc : TypeId × Value → H) :
    ReturnsInHanded {} Tryd.checked os 4 .any (fun w args => (Rows.proofRightSpec.pre enc Tryd.prog Tryd.f4 [] false w args ∧ laidMetH Tryd.prog Rows.proofRightRow.laid w) ∧ sizedMet enc Tryd.prog Tryd.f4 (OpenSpec.ofChange Rows.proofRightSpec) false w args)
      (Rows.proofRightSpec.post enc Tryd.prog Tryd.f4 false true false false) := by
  refine returnsInHanded_of_change_and (C := Tryd.checked) (X := fun w _ => laidMetH Tryd.prog Rows.proofRightRow.laid w) (fun _ _ _ hh h => h.of_heap hh) own started (by kernel_rfl) Tryd.func4
    (ChangeSpec.witness_shaped (enc := enc) (C := Tryd.checked) (os := os) (X := fun w _ => laidMetH Tryd.prog Rows.proofRightRow.laid w) false (World.doorLaid Tryd.prog 31 os) #[.string ByteArray.empty, .int .i64 0, .int .i64 0, .int .i64 0, .slice none 0 0] 8 rfl (door_shaped os _) (by kernel_rfl) (by kernel_rfl) (by kernel_rfl) (door_met os _)) ?_
  intro W base args ds gs before hval0 hW _ _ hL _
  have hval : ∀ (j : Nat) t v, Tryd.f4.params[j]? = some t → args[j]? = some v → Value.okWide Tryd.prog W .any base t v := hval0
  have hW' := hW
  obtain ⟨p, q, hA0, hV, rfl, _, _⟩ := hW
  have hA : DataW.TrodAll enc Tryd.prog W 0 (fun _ => true) true Tryd.f4.params.toList args.toList ds p := hA0
  rw [Tryd.params4] at hA hval
  obtain ⟨v0, vs0, d0, ds0, p0, q0, hargs, rfl, rfl, h0, r0⟩ := trodAll_cons hA
  obtain ⟨v1, vs1, d1, ds1, p1, q1, rfl, rfl, rfl, h1, r1⟩ := trodAll_cons r0
  obtain ⟨v2, vs2, d2, ds2, p2, q2, rfl, rfl, rfl, h2, r2⟩ := trodAll_cons r1
  obtain ⟨v3, vs3, d3, ds3, p3, q3, rfl, rfl, rfl, h3, r3⟩ := trodAll_cons r2
  obtain ⟨v4, vs4, d4, ds4, p4, q4, rfl, rfl, rfl, h4, r4⟩ := trodAll_cons r3
  obtain ⟨rfl, rfl, rfl⟩ := trodAll_nil r4
  obtain rfl : args = #[v0, v1, v2, v3, v4] := by cases args; simp_all
  obtain ⟨rfl, rfl⟩ := trodVars_none hV
  obtain ⟨a0, rfl, rfl, rfl, w0⟩ := open_string Tryd.underlying9 (hval 0 9 v0 rfl rfl) h0
  obtain ⟨a1, rfl, rfl, rfl, w1⟩ := open_int Tryd.underlying3 (hval 1 3 v1 rfl rfl) h1
  obtain ⟨a2, rfl, rfl, rfl, w2⟩ := open_int Tryd.underlying3 (hval 2 3 v2 rfl rfl) h2
  obtain ⟨a3, rfl, rfl, rfl, w3⟩ := open_int Tryd.underlying3 (hval 3 3 v3 rfl rfl) h3
  obtain ⟨a4, len4, cap4, rfl⟩ := okWide_slice Tryd.underlying22 (hval 4 22 v4 rfl rfl)
  have k4 := h4
  have lt4 : ∀ x ∈ p4, x.block < W.heap.size := by obtain ⟨m, hm⟩ := k4; exact DataW.trod_lt m _ _ _ hm
  have w4 : Arg4 W a4 len4 cap4 := opened4 h4
  clear hA0 hval0
  refine (walk a0 a1 a2 a3 a4 len4 cap4 W w0 w1 w2 w3 w4 (lw_of_laid hL)).mono fun e W' ⟨he, bel⟩ => ?_
  subst he
  exact ⟨_, rfl, _, _, _, [], _, [], hW', trodAll_mk1 (shut_bool Tryd.underlying4 _), (trodAll_cons_mk (shut_string Tryd.underlying9 w0) (trodAll_cons_mk (shut_int Tryd.underlying3 w1) (trodAll_cons_mk (shut_int Tryd.underlying3 w2) (trodAll_cons_mk (shut_int Tryd.underlying3 w3) (trodAll_cons_mk (Below.trod laidOut (by kernel_rfl) (of_decide_eq_true (by kernel_rfl)) k4 bel lt4) trodAll_mk0))))), rfl, bel.frame _, fun h => by cases h⟩

theorem over : Rows.proofRightRow.holds Tryd.pinned (OpenSpec.ofChange Rows.proofRightSpec) :=
  OpenClaim.holds_of_wide 4 Tryd.f4 rfl rfl rfl rfl rfl rfl rfl ⟨rfl, rfl, rfl, rfl, rfl⟩ rfl rfl rfl rfl rfl (by kernel_rfl) Tryd.func4 (by kernel_rfl)
    (of_decide_eq_true (by kernel_rfl)) (by unfold Func.isWrapper; first | (rw [if_pos (by decide +kernel)]; kernel_rfl) | (rw [if_neg (by decide +kernel)]; exact ⟨rfl, rfl⟩))
    (fun os started H enc _ => lifted os started H enc)

theorem plain (f : FuncId) (fn : Func) (hf : Tryd.pinned.checked.prog.funcNamed "hindsight/hindsightlaw10.ProofRight" = some f) (hfn : Tryd.pinned.checked.prog.funcs[f]? = some fn) :
    (true : Bool) = Tryd.pinned.checked.prog.looks [] ∧ ∀ (j : Nat) t, fn.params[j]? = some t → Tryd.pinned.checked.prog.wantsStandIn t = false := by
  obtain rfl : f = 4 := Option.some.inj ((show Tryd.prog.funcNamed "hindsight/hindsightlaw10.ProofRight" = some 4 by kernel_rfl).symm.trans hf) |>.symm
  obtain rfl : fn = Tryd.f4 := (Option.some.inj (Tryd.func4.symm.trans hfn)).symm
  refine ⟨by kernel_rfl, fun j t ht => ?_⟩
  rw [Tryd.params4] at ht
  have hm := Array.mem_of_getElem? ht
  simp only [List.mem_toArray, List.mem_cons, List.not_mem_nil, or_false] at hm
  rcases hm with rfl | rfl | rfl | rfl | rfl
  · exact (show Tryd.prog.wantsStandIn 9 = false by kernel_rfl)
  · exact (show Tryd.prog.wantsStandIn 3 = false by kernel_rfl)
  · exact (show Tryd.prog.wantsStandIn 3 = false by kernel_rfl)
  · exact (show Tryd.prog.wantsStandIn 3 = false by kernel_rfl)
  · exact (show Tryd.prog.wantsStandIn 22 = false by kernel_rfl)

theorem card : Rows.ProofRightCardSaid :=
  Claim7.holds_tied_plain_at .later [] _ _ _ _ over (fun _ h => by cases h) (by kernel_rfl) (fun _ h => by cases h) proofRight_row_tie rfl ⟨rfl, rfl⟩ (by kernel_rfl) rfl plain (by kernel_rfl)

theorem proved : Rows.ProofRightCardSaid := card
end Go.Proofs.YtiogjmlkogeibaaDoor.proofRight
