/- ProofAny: for every leaf, old and new root, list of strings and any three numbers the law answers true, and its arguments read afterwards as they did. Conditions: the row lists two package-level variables (digest's table of rounds, errors.errorType); the card ties them to the program's own text. -/
import Derived.Test.YtiogjmlkogeibaaDoorPrfU
import Derived.Test.YtiogjmlkogeibaaDoorPrfV
import Derived.Test.YtiogjmlkogeibaaDoorPrfT
import Derived.Test.YtiogjmlkogeibaaDoorCards
import Derived.Test.YtiogjmlkogeibaaDoorTie
import Derived.ProofKit
import Derived.OpenShut
import Derived.ShutString
import Derived.SevenTiedAt
namespace Go.Proofs.YtiogjmlkogeibaaDoor.proofAny
open Go Go.ChangeShapes Go.WideShapes Go.ChangeAt Go.RowKit Go.Proofs.YtiogjmlkogeibaaDoor.dig Go.Proofs.YtiogjmlkogeibaaDoor.prf
open Go.ChangeMaps (open_string shut_string)

def Arg6 (w : World) (a : Option Addr) (len cap : Nat) : Prop := ∃ T, ArgS w a len cap T
theorem opened6 {H : Type} {enc : TypeId × Value → H} {w : World} {spare : Nat → Bool} {held : Bool} {a : Option Addr} {len cap : Nat} {d : DataW H} {p : List MemPlace} (h : DataW.Trod enc Tryd.prog w 0 spare held 22 (.slice a len cap) d p) : Arg6 w a len cap := openedStrs h

theorem argS_below {w V : World} {a : Option Addr} {len cap : Nat} {T : Nat → ByteArray} (h : ArgS w a len cap T) (b : Below w.heap.size w V) : ArgS V a len cap T := ⟨h.1, h.2.1, fun i hi => by
  obtain ⟨g, o, e, hg, hc, hs⟩ := h.2.2 i hi
  refine ⟨g, o, e, Nat.lt_of_lt_of_le hg b.size, ?_, hs⟩
  rw [← hc]; unfold World.cell?; rw [b.block g hg]⟩

/-- What lasts: both roots, the head now, the sums, the texts. -/
structure Ax (w : World) (x y : List UInt8) (n : Int) (o t : Value) (r : List (List UInt8)) (gx gy gh : Nat) (V : World) : Prop where
  bel : Below w.heap.size w V
  hx : Has V gx 27 (cellsOf x)
  hy : Has V gy 27 (cellsOf y)
  hh : Has V gh 33 (headC n y)
  so : Sms V o r
  st : Tst V t r
theorem Ax.below {w V V' : World} {x y : List UInt8} {n : Int} {o t : Value} {r : List (List UInt8)} {gx gy gh : Nat} (h : Ax w x y n o t r gx gy gh V) (b : Below V.heap.size V V') : Ax w x y n o t r gx gy gh V' :=
  ⟨h.bel.trans (b.mono h.bel.size), h.hx.below b h.hx.lt, h.hy.below b h.hy.lt, h.hh.below b h.hh.lt, h.so.below b, h.st.below b⟩

set_option maxRecDepth 100000 in
set_option maxHeartbeats 4000000 in
theorem walk (lf : ByteArray) (i0 m0 n0 : Int) (old0 root0 : ByteArray) (a : Option Addr) (len cap : Nat) (w : World) (hlf : lf.size ≤ maxLen) (_hi0 : (Lit.int .i64 i0).wf = true) (_hm0 : (Lit.int .i64 m0).wf = true) (_hn0 : (Lit.int .i64 n0).wf = true) (_ho : old0.size ≤ maxLen) (_hr : root0.size ≤ maxLen) (hA : Arg6 w a len cap) (hL : Lw w) :
    Calls Tryd.prog 3 #[.string lf, .int .i64 i0, .int .i64 m0, .int .i64 n0, .string old0, .string root0, .slice a len cap] w fun en w' => en = .returned (.bool true) ∧ Below w.heap.size w w' := by
  obtain ⟨T, hT⟩ := hA
  have HT := Lib.hid hT
  have HL := Lib.hid hL
  have HLF := Lib.hid hlf
  clear hT hL hlf
  go_enter Tryd.func3, Tryd.ntmps3
  go_wp2_with fail
  refine (awake_any w HL.out).mono ?_
  rintro en w1 ⟨rfl, b1⟩
  have B1 := Lib.hid b1
  clear b1
  go_wp2_with fail
  refine (cut_any lf 20 w1 (by decide) HLF.out).mono ?_
  rintro en w' ⟨rfl, rfl⟩
  obtain ⟨leaf, hleaf, hls⟩ := cut_size lf 20
  rw [hleaf]
  have HLS : Hid (leaf.size ≤ 20) := Lib.hid hls
  clear hleaf hls
  go_wp2_with fail
  refine (few_calls i0 w1).mono ?_
  rintro en w' ⟨⟨i, rfl, hi1, hi2⟩, rfl⟩
  have HI := Lib.hid (And.intro hi1 hi2)
  clear hi1 hi2
  go_wp2_with fail
  refine (few_calls m0 w1).mono ?_
  rintro en w' ⟨⟨m, rfl, hm1, hm2⟩, rfl⟩
  have HM := Lib.hid (And.intro hm1 hm2)
  clear hm1 hm2
  go_wp2_with fail
  refine (few_calls n0 w1).mono ?_
  rintro en w' ⟨⟨n, rfl, hn1, hn2⟩, rfl⟩
  have HN := Lib.hid (And.intro hn1 hn2)
  clear hn1 hn2
  go_wp2_with fail
  obtain ⟨x, hx⟩ : ∃ x, x = pad old0.data.toList := ⟨_, rfl⟩
  obtain ⟨y, hy⟩ : ∃ y, y = pad root0.data.toList := ⟨_, rfl⟩
  have HX : Hid (x.length = 32) := Lib.hid (by rw [hx]; exact pad_len _)
  have HY : Hid (y.length = 32) := Lib.hid (by rw [hy]; exact pad_len _)
  have CX : Hid (∀ V, Calls Tryd.prog 9 #[.string old0] V fun en w' => en = .returned (.agg (cellsOf x)) ∧ Below V.heap.size V w') := Lib.hid (fun V => by rw [hx]; exact lsum_calls old0 V)
  have CY : Hid (∀ V, Calls Tryd.prog 9 #[.string root0] V fun en w' => en = .returned (.agg (cellsOf y)) ∧ Below V.heap.size V w') := Lib.hid (fun V => by rw [hy]; exact lsum_calls root0 V)
  clear hx hy
  refine (CX.out w1).mono ?_
  rintro en w2 ⟨rfl, b2⟩
  have B2 : Hid (Below w.heap.size w w2) := Lib.hid (B1.out.trans (b2.mono B1.out.size))
  clear b2
  go_wp2_with fail
  refine (CY.out w2).mono ?_
  rintro en w3 ⟨rfl, b3⟩
  have B3 : Hid (Below w.heap.size w w3) := Lib.hid (B2.out.trans (b3.mono B2.out.size))
  clear b3 B2 CX CY
  go_wp2_with (first
    | ((with_reducible refine at_store (.tmp 15) ?_); refine wpList_store_arr (o := ⟨none, _, _, _, _, _⟩) rfl 27 _ _ rfl w3.heap.size x Z rfl rfl _ ((made_at _ _ rfl).alloc _) 32 (by kernel_rfl) Z_len HX.out ?_; intro W4 HW4 TW4
       (have K4 : Hid (Below w.heap.size w W4 ∧ Has W4 w3.heap.size 27 (cellsOf x) ∧ Has W4 (w3.heap.size + 1) 27 (cellsOf Z)) := Lib.hid (by
         have b4 : Below w3.heap.size w3 W4 := (((Below.refl _ _).alloc (Nat.le_refl _) _).alloc (by simp) _).trans (TW4.below (by simp; omega) (fun j hj e => by omega))
         exact ⟨B3.out.trans (b4.mono B3.out.size), HW4, (made_at _ _ (by simp)).turn TW4 (by omega)⟩))
       (clear TW4 HW4))
    | ((with_reducible refine at_store (.tmp 16) ?_); refine wpList_store_arr (o := ⟨none, _, _, _, _, _⟩) rfl 27 _ _ rfl (w3.heap.size + 1) y Z rfl rfl _ K4.out.2.2 32 (by kernel_rfl) Z_len HY.out ?_; intro W5 HW5 TW5
       (have K5 : Hid (Below w.heap.size w W5 ∧ Has W5 w3.heap.size 27 (cellsOf x) ∧ Has W5 (w3.heap.size + 1) 27 (cellsOf y)) := Lib.hid ⟨K4.out.1.trans (TW5.below K4.out.1.size (fun j hj e => by have := B3.out.size; omega)), K4.out.2.1.turn TW5 (by omega), HW5⟩)
       (clear TW5 HW5 K4))
    | fail)
  refine (lsums_calls a len cap T W5 (argS_below HT.out K5.out.1)).mono ?_
  rintro en w6 ⟨o, t, r, rfl, hrl, hs6, ht6, -, -, b6⟩
  obtain ⟨ao, co, rfl, -⟩ := hs6.slice
  obtain ⟨ai, ci, rfl, -⟩ := ht6.slice
  have HRL := Lib.hid hrl
  have K6 : Hid (Below w.heap.size w w6 ∧ Has w6 w3.heap.size 27 (cellsOf x) ∧ Has w6 (w3.heap.size + 1) 27 (cellsOf y) ∧ Sms w6 (.slice ao r.length co) r ∧ Tst w6 (.slice ai r.length ci) r) := Lib.hid ⟨K5.out.1.trans (b6.mono K5.out.1.size), K5.out.2.1.below b6 K5.out.2.1.lt, K5.out.2.2.below b6 K5.out.2.2.lt, hs6, ht6⟩
  clear hs6 ht6 b6 K5 hrl
  obtain ⟨ro, hro⟩ : ∃ ro, ro = Value.slice ao r.length co := ⟨_, rfl⟩
  go_wp2_with (first
    | ((with_reducible refine at_op 42 ?_); refine wpList_load_arr (o := ⟨some 42, _, _, _, _, _⟩) rfl 27 _ rfl (w3.heap.size + 1) rfl 27 y 5 32 K6.out.2.2.1 Tryd.underlying27 (by kernel_rfl) HY.out ?_)
    | ((with_reducible refine at_op 43 ?_); refine wpList_head (o := ⟨some 43, _, _, _, _, _⟩) rfl _ _ rfl n y rfl rfl HY.out ?_)
    | ((with_reducible refine at_store (.tmp 19) ?_); refine wpList_store_head (o := ⟨none, _, _, _, _, _⟩) rfl _ _ rfl w6.heap.size n 0 y Z rfl rfl (made_at _ _ rfl) HY.out Z_len ?_; intro W7 HW7 TW7
       (have K7 : Hid (Ax w x y n (.slice ao r.length co) (.slice ai r.length ci) r w3.heap.size (w3.heap.size + 1) w6.heap.size W7) := Lib.hid (by
         have b7 : Below w6.heap.size w6 W7 := ((Below.refl _ _).alloc (Nat.le_refl _) _).trans (TW7.below (by simp) (fun j hj e => by omega))
         exact ⟨K6.out.1.trans (b7.mono K6.out.1.size), K6.out.2.1.below b7 K6.out.2.1.lt, K6.out.2.2.1.below b7 K6.out.2.2.1.lt, HW7, K6.out.2.2.2.1.below b7, K6.out.2.2.2.2.below b7⟩))
       (clear TW7 HW7 K6))
    | ((with_reducible refine at_op 46 ?_); refine wpList_load_row (o := ⟨some 46, _, _, _, _, _⟩) rfl 33 _ rfl w6.heap.size rfl 33 (headC n y) (0, 0) _ K7.out.hh Tryd.underlying33 rfl (by rw [headC_size, HY.out]; kernel_rfl) ?_)
    | fail)
  refine (incl_calls leaf i n y HY.out (by have := HN.out; omega) r ao co W7 (HL.out.below K7.out.bel).rk K7.out.so (by have := HLS.out; omega)).mono ?_
  rintro en w8 ⟨e, rfl, he, b8⟩
  obtain ⟨E, hE⟩ : ∃ E, E = inclE leaf.data.toList i n y r := ⟨_, rfl⟩
  rw [← hE] at he
  have HE := Lib.hid hE
  have K8 : Hid (Ax w x y n (.slice ao r.length co) (.slice ai r.length ci) r w3.heap.size (w3.heap.size + 1) w6.heap.size w8 ∧ IsErr w8 e ⟨#[108, 101, 97, 102]⟩ i E) := Lib.hid ⟨K7.out.below b8, he⟩
  clear he b8 K7 hE
  go_wp2_with (first
    | ((with_reducible refine at_op 50 ?_); refine wpList_load_arr (o := ⟨some 50, _, _, _, _, _⟩) rfl 27 _ rfl w3.heap.size rfl 27 x 5 32 K8.out.1.hx Tryd.underlying27 (by kernel_rfl) HX.out ?_)
    | ((with_reducible refine at_op 51 ?_); refine wpList_head (o := ⟨some 51, _, _, _, _, _⟩) rfl _ _ rfl m x rfl rfl HX.out ?_)
    | ((with_reducible refine at_op 52 ?_); refine wpList_load_row (o := ⟨some 52, _, _, _, _, _⟩) rfl 33 _ rfl w6.heap.size rfl 33 (headC n y) (0, 0) _ K8.out.1.hh Tryd.underlying33 rfl (by rw [headC_size, HY.out]; kernel_rfl) ?_)
    | fail)
  refine (cons_calls HX.out HY.out m n (by have := HN.out; omega) r ao co w8 (HL.out.below K8.out.1.bel).rk K8.out.1.so).mono ?_
  rintro en w9 ⟨f, rfl, hf, b9⟩
  obtain ⟨F, hF⟩ : ∃ F, F = consE m x n y r := ⟨_, rfl⟩
  rw [← hF] at hf
  have HF := Lib.hid hF
  have K9 : Hid (Ax w x y n (.slice ao r.length co) (.slice ai r.length ci) r w3.heap.size (w3.heap.size + 1) w6.heap.size w9 ∧ IsErr w9 e ⟨#[108, 101, 97, 102]⟩ i E ∧ IsErr w9 f ⟨#[112, 114, 101, 102, 105, 120]⟩ m F) := Lib.hid ⟨K8.out.1.below b9, K8.out.2.below b9, hf⟩
  clear hf b9 K8 hF
  clear hro
  go_wp2_with fail
  generalize w3.heap.size + 1 = gy at *
  generalize w3.heap.size = gx at *
  generalize w6.heap.size = gh at *
  obtain ⟨sx, hsx⟩ : ∃ sx, sx = bs x := ⟨_, rfl⟩
  obtain ⟨sy, hsy⟩ : ∃ sy, sy = bs y := ⟨_, rfl⟩
  have CO : Hid (∀ V (v : Value) (s : ByteArray) (a E : Int), Lw V → IsErr V v s a E → Calls Tryd.prog 13 #[v] V fun en w' => en = .returned (.int .i64 E) ∧ Below V.heap.size V w') := Lib.hid fun V v s a E h h2 => of_err h.et h2
  have CI : Hid (∀ V, Tst V (.slice ai r.length ci) r → Calls Tryd.prog 14 #[.string leaf, .int .i64 i, .int .i64 n, .string sy, .slice ai r.length ci] V fun en w' => en = .returned (.int .i64 E) ∧ Below V.heap.size V w') := Lib.hid fun V h => by
    rw [HE.out, hsy]; exact rincl_calls leaf i n y (by have := HN.out; omega) r ai ci V h (by have := HLS.out; omega)
  have CC : Hid (∀ V, Tst V (.slice ai r.length ci) r → Calls Tryd.prog 15 #[.int .i64 m, .string sx, .int .i64 n, .string sy, .slice ai r.length ci] V fun en w' => en = .returned (.int .i64 F) ∧ Below V.heap.size V w') := Lib.hid fun V h => by
    rw [HF.out, hsx, hsy]; exact rcons_calls HX.out m n y (by have := HN.out; omega) r ai ci V h
  have CVX : Hid (∀ V, Has V gx 27 (cellsOf x) → (convert 41 9 (.slice (some ⟨gx, 0, none⟩) 32 32)).run Tryd.prog V = .ok (.string sx) V) := Lib.hid fun V h => by
    have := run_str_arr (P := Tryd.prog) 41 9 5 Tryd.underlying41 Tryd.underlying5 Tryd.underlying9 gx 27 x 32 V h
    rwa [HX.out, show (⟨x.toArray⟩ : ByteArray) = sx from hsx.symm] at this
  have CVY : Hid (∀ V, Has V gy 27 (cellsOf y) → (convert 41 9 (.slice (some ⟨gy, 0, none⟩) 32 32)).run Tryd.prog V = .ok (.string sy) V) := Lib.hid fun V h => by
    have := run_str_arr (P := Tryd.prog) 41 9 5 Tryd.underlying41 Tryd.underlying5 Tryd.underlying9 gy 27 y 32 V h
    rwa [HY.out, show (⟨y.toArray⟩ : ByteArray) = sy from hsy.symm] at this
  clear hsx hsy HE HF
  generalize Value.slice ai r.length ci = tv at *
  generalize Value.slice ao r.length co = ov at *
  have SB : Hid (∀ V V', (Ax w x y n ov tv r gx gy gh V ∧ IsErr V e ⟨#[108, 101, 97, 102]⟩ i E ∧ IsErr V f ⟨#[112, 114, 101, 102, 105, 120]⟩ m F) → Below V.heap.size V V' → (Ax w x y n ov tv r gx gy gh V' ∧ IsErr V' e ⟨#[108, 101, 97, 102]⟩ i E ∧ IsErr V' f ⟨#[112, 114, 101, 102, 105, 120]⟩ m F)) := Lib.hid fun V V' h b => ⟨h.1.below b, h.2.1.below b, h.2.2.below b⟩
  refine wp_region_S (S := fun V => Ax w x y n ov tv r gx gy gh V ∧ IsErr V e ⟨#[108, 101, 97, 102]⟩ i E ∧ IsErr V f ⟨#[112, 114, 101, 102, 105, 120]⟩ m F) (by kernel_rfl) (SB.out _ _ K9.out (Below.refl _ _).drew) ?_
  refine AnyS.pure 0 (some 55) rfl rfl (by kernel_rfl) (by kernel_rfl) (by kernel_rfl) (fun _ _ _ h => h) (by kernel_rfl) (fun _ _ => rfl) ?_
  refine AnyS.pure 2 (some 57) rfl rfl (by kernel_rfl) (by kernel_rfl) (by kernel_rfl) (fun _ _ _ h => h) (by kernel_rfl) (fun _ _ => rfl) ?_
  refine AnyS.pure 3 (some 58) rfl rfl (by kernel_rfl) (by kernel_rfl) (by kernel_rfl) (fun _ _ _ h => h) (by kernel_rfl) (fun _ _ => rfl) ?_
  refine AnyS.pure 4 (some 59) rfl rfl (by kernel_rfl) (by kernel_rfl) (by kernel_rfl) (fun _ _ _ h => h) (by kernel_rfl) (fun _ _ => rfl) ?_
  refine AnyS.pure 5 (some 60) (v := .slice (some ⟨gy, 0, none⟩) 32 32) rfl rfl (by kernel_rfl) (by kernel_rfl) (by kernel_rfl) (fun _ _ _ h => h) (by kernel_rfl) (fun V _ => by go_simp) ?_
  refine AnyS.pure 6 (some 61) (v := .string sy) rfl rfl (by kernel_rfl) (by kernel_rfl) (by kernel_rfl) (fun _ _ _ h => h) (by kernel_rfl) (fun V hV => by have ct := CVY.out V hV.1.hy; go_simp) ?_
  refine AnyS.pure 7 (some 62) rfl rfl (by kernel_rfl) (by kernel_rfl) (by kernel_rfl) (fun _ _ _ h => h) (by kernel_rfl) (fun _ _ => rfl) ?_
  refine AnyS.call 1 (some 56) (.int .i64 E) rfl rfl (by kernel_rfl) (by kernel_rfl) (by kernel_rfl) (fun _ _ _ h => h) (by kernel_rfl) 13 Tryd.f13 Tryd.func13 (by kernel_rfl) (by kernel_rfl) _ _ rfl #[e] (by first | (simp [Act.eval]; done) | (simp [Act.eval, Act.put]; done)) (fun V hV => (CO.out V e _ _ E (HL.out.below hV.1.bel) hV.2.1).mono fun _ _ p => ⟨p.1, SB.out _ _ hV p.2⟩) ?_
  simp only [Act.put, List.setIfInBounds_toArray, List.set_cons_zero, List.set_cons_succ]
  refine AnyS.call 8 (some 63) (.int .i64 E) rfl rfl (by kernel_rfl) (by kernel_rfl) (by kernel_rfl) (fun _ _ _ h => h) (by kernel_rfl) 14 Tryd.f14 Tryd.func14 (by kernel_rfl) (by kernel_rfl) _ _ rfl #[.string leaf, .int .i64 i, .int .i64 n, .string sy, tv] (by first | (simp [Act.eval]; done) | (simp [Act.eval, Act.put]; done)) (fun V hV => (CI.out V hV.1.st).mono fun _ _ p => ⟨p.1, SB.out _ _ hV p.2⟩) ?_
  simp only [Act.put, List.setIfInBounds_toArray, List.set_cons_zero, List.set_cons_succ]
  refine AnyS.pure 9 (some 64) (v := .bool true) rfl rfl (by kernel_rfl) (by kernel_rfl) (by kernel_rfl) (fun _ _ _ h => h) (by kernel_rfl) (fun V _ => by go_simp) ?_
  refine AnyS.pure 10 (some 65) rfl rfl (by kernel_rfl) (by kernel_rfl) (by kernel_rfl) (fun _ _ _ h => h) (by kernel_rfl) (fun _ _ => rfl) ?_
  refine AnyS.pure 11 (some 66) rfl rfl (by kernel_rfl) (by kernel_rfl) (by kernel_rfl) (fun _ _ _ h => h) (by kernel_rfl) (fun _ _ => rfl) ?_
  refine AnyS.pure 13 (some 68) rfl rfl (by kernel_rfl) (by kernel_rfl) (by kernel_rfl) (fun _ _ _ h => h) (by kernel_rfl) (fun _ _ => rfl) ?_
  refine AnyS.pure 14 (some 69) (v := .slice (some ⟨gx, 0, none⟩) 32 32) rfl rfl (by kernel_rfl) (by kernel_rfl) (by kernel_rfl) (fun _ _ _ h => h) (by kernel_rfl) (fun V _ => by go_simp) ?_
  refine AnyS.pure 15 (some 70) (v := .string sx) rfl rfl (by kernel_rfl) (by kernel_rfl) (by kernel_rfl) (fun _ _ _ h => h) (by kernel_rfl) (fun V hV => by have ct := CVX.out V hV.1.hx; go_simp) ?_
  refine AnyS.pure 16 (some 71) rfl rfl (by kernel_rfl) (by kernel_rfl) (by kernel_rfl) (fun _ _ _ h => h) (by kernel_rfl) (fun _ _ => rfl) ?_
  refine AnyS.pure 17 (some 72) (v := .slice (some ⟨gy, 0, none⟩) 32 32) rfl rfl (by kernel_rfl) (by kernel_rfl) (by kernel_rfl) (fun _ _ _ h => h) (by kernel_rfl) (fun V _ => by go_simp) ?_
  refine AnyS.pure 18 (some 73) (v := .string sy) rfl rfl (by kernel_rfl) (by kernel_rfl) (by kernel_rfl) (fun _ _ _ h => h) (by kernel_rfl) (fun V hV => by have ct := CVY.out V hV.1.hy; go_simp) ?_
  refine AnyS.pure 19 (some 74) rfl rfl (by kernel_rfl) (by kernel_rfl) (by kernel_rfl) (fun _ _ _ h => h) (by kernel_rfl) (fun _ _ => rfl) ?_
  refine AnyS.call 12 (some 67) (.int .i64 F) rfl rfl (by kernel_rfl) (by kernel_rfl) (by kernel_rfl) (fun _ _ _ h => h) (by kernel_rfl) 13 Tryd.f13 Tryd.func13 (by kernel_rfl) (by kernel_rfl) _ _ rfl #[f] (by first | (simp [Act.eval]; done) | (simp [Act.eval, Act.put]; done)) (fun V hV => (CO.out V f _ _ F (HL.out.below hV.1.bel) hV.2.2).mono fun _ _ p => ⟨p.1, SB.out _ _ hV p.2⟩) ?_
  simp only [Act.put, List.setIfInBounds_toArray, List.set_cons_zero, List.set_cons_succ]
  refine AnyS.call 20 (some 75) (.int .i64 F) rfl rfl (by kernel_rfl) (by kernel_rfl) (by kernel_rfl) (fun _ _ _ h => h) (by kernel_rfl) 15 Tryd.f15 Tryd.func15 (by kernel_rfl) (by kernel_rfl) _ _ rfl #[.int .i64 m, .string sx, .int .i64 n, .string sy, tv] (by first | (simp [Act.eval]; done) | (simp [Act.eval, Act.put]; done)) (fun V hV => (CC.out V hV.1.st).mono fun _ _ p => ⟨p.1, SB.out _ _ hV p.2⟩) ?_
  simp only [Act.put, List.setIfInBounds_toArray, List.set_cons_zero, List.set_cons_succ]
  refine AnyS.pure 21 (some 76) (v := .bool true) rfl rfl (by kernel_rfl) (by kernel_rfl) (by kernel_rfl) (fun _ _ _ h => h) (by kernel_rfl) (fun V _ => by go_simp) ?_
  refine AnyS.pure 22 (some 77) (v := .bool true) rfl rfl (by kernel_rfl) (by kernel_rfl) (by kernel_rfl) (fun _ _ _ h => h) (by kernel_rfl) (fun V _ => by go_simp) ?_
  refine AnyS.pure 23 (some 14) rfl rfl (by kernel_rfl) (by kernel_rfl) (by kernel_rfl) (fun _ _ _ h => h) (by kernel_rfl) (fun _ _ => rfl) ?_
  refine AnyS.done (by kernel_rfl) (fun V hV => ?_) _
  have HV := Lib.hid hV.1.bel
  clear hV K9 CO CI CC CVX CVY SB
  go_wp2_with fail
  go_ret
  exact ⟨rfl, HV.out⟩
theorem own : ownKnob Tryd.prog.godebug = none := by kernel_rfl
theorem laidOut : laidOutB Tryd.prog = true := by kernel_rfl

set_option maxRecDepth 100000 in
theorem lifted (os : Os) (started : os.Started) (H : Type) (enc : TypeId × Value → H) :
    ReturnsInHanded {} Tryd.checked os 3 .any (fun w args => (Rows.proofAnySpec.pre enc Tryd.prog Tryd.f3 [] false w args ∧ laidMetH Tryd.prog Rows.proofAnyRow.laid w) ∧ sizedMet enc Tryd.prog Tryd.f3 (OpenSpec.ofChange Rows.proofAnySpec) false w args)
      (Rows.proofAnySpec.post enc Tryd.prog Tryd.f3 false true false false) := by
  refine returnsInHanded_of_change_and (C := Tryd.checked) (X := fun w _ => laidMetH Tryd.prog Rows.proofAnyRow.laid w) (fun _ _ _ hh h => h.of_heap hh) own started (by kernel_rfl) Tryd.func3
    (ChangeSpec.witness_shaped (enc := enc) (C := Tryd.checked) (os := os) (X := fun w _ => laidMetH Tryd.prog Rows.proofAnyRow.laid w) false (World.doorLaid Tryd.prog 31 os) #[.string ByteArray.empty, .int .i64 0, .int .i64 0, .int .i64 0, .string ByteArray.empty, .string ByteArray.empty, .slice none 0 0] 8 rfl (door_shaped os _) (by kernel_rfl) (by kernel_rfl) (by kernel_rfl) (door_met os _)) ?_
  intro W base args ds gs before hval0 hW _ _ hL _
  have hval : ∀ (j : Nat) t v, Tryd.f3.params[j]? = some t → args[j]? = some v → Value.okWide Tryd.prog W .any base t v := hval0
  have hW' := hW
  obtain ⟨p, q, hA0, hV, rfl, _, _⟩ := hW
  have hA : DataW.TrodAll enc Tryd.prog W 0 (fun _ => true) true Tryd.f3.params.toList args.toList ds p := hA0
  rw [Tryd.params3] at hA hval
  obtain ⟨v0, vs0, d0, ds0, p0, q0, hargs, rfl, rfl, h0, r0⟩ := trodAll_cons hA
  obtain ⟨v1, vs1, d1, ds1, p1, q1, rfl, rfl, rfl, h1, r1⟩ := trodAll_cons r0
  obtain ⟨v2, vs2, d2, ds2, p2, q2, rfl, rfl, rfl, h2, r2⟩ := trodAll_cons r1
  obtain ⟨v3, vs3, d3, ds3, p3, q3, rfl, rfl, rfl, h3, r3⟩ := trodAll_cons r2
  obtain ⟨v4, vs4, d4, ds4, p4, q4, rfl, rfl, rfl, h4, r4⟩ := trodAll_cons r3
  obtain ⟨v5, vs5, d5, ds5, p5, q5, rfl, rfl, rfl, h5, r5⟩ := trodAll_cons r4
  obtain ⟨v6, vs6, d6, ds6, p6, q6, rfl, rfl, rfl, h6, r6⟩ := trodAll_cons r5
  obtain ⟨rfl, rfl, rfl⟩ := trodAll_nil r6
  obtain rfl : args = #[v0, v1, v2, v3, v4, v5, v6] := by cases args; simp_all
  obtain ⟨rfl, rfl⟩ := trodVars_none hV
  obtain ⟨a0, rfl, rfl, rfl, w0⟩ := open_string Tryd.underlying9 (hval 0 9 v0 rfl rfl) h0
  obtain ⟨a1, rfl, rfl, rfl, w1⟩ := open_int Tryd.underlying3 (hval 1 3 v1 rfl rfl) h1
  obtain ⟨a2, rfl, rfl, rfl, w2⟩ := open_int Tryd.underlying3 (hval 2 3 v2 rfl rfl) h2
  obtain ⟨a3, rfl, rfl, rfl, w3⟩ := open_int Tryd.underlying3 (hval 3 3 v3 rfl rfl) h3
  obtain ⟨a4, rfl, rfl, rfl, w4⟩ := open_string Tryd.underlying9 (hval 4 9 v4 rfl rfl) h4
  obtain ⟨a5, rfl, rfl, rfl, w5⟩ := open_string Tryd.underlying9 (hval 5 9 v5 rfl rfl) h5
  obtain ⟨a6, len6, cap6, rfl⟩ := okWide_slice Tryd.underlying22 (hval 6 22 v6 rfl rfl)
  have k6 := h6
  have lt6 : ∀ x ∈ p6, x.block < W.heap.size := by obtain ⟨m, hm⟩ := k6; exact DataW.trod_lt m _ _ _ hm
  have w6 : Arg6 W a6 len6 cap6 := opened6 h6
  clear hA0 hval0
  refine (walk a0 a1 a2 a3 a4 a5 a6 len6 cap6 W w0 w1 w2 w3 w4 w5 w6 (lw_of_laid hL)).mono fun e W' ⟨he, bel⟩ => ?_
  subst he
  exact ⟨_, rfl, _, _, _, [], _, [], hW', trodAll_mk1 (shut_bool Tryd.underlying4 _), (trodAll_cons_mk (shut_string Tryd.underlying9 w0) (trodAll_cons_mk (shut_int Tryd.underlying3 w1) (trodAll_cons_mk (shut_int Tryd.underlying3 w2) (trodAll_cons_mk (shut_int Tryd.underlying3 w3) (trodAll_cons_mk (shut_string Tryd.underlying9 w4) (trodAll_cons_mk (shut_string Tryd.underlying9 w5) (trodAll_cons_mk (Below.trod laidOut (by kernel_rfl) (of_decide_eq_true (by kernel_rfl)) k6 bel lt6) trodAll_mk0))))))), rfl, bel.frame _, fun h => by cases h⟩

theorem over : Rows.proofAnyRow.holds Tryd.pinned (OpenSpec.ofChange Rows.proofAnySpec) :=
  OpenClaim.holds_of_wide 3 Tryd.f3 rfl rfl rfl rfl rfl rfl rfl ⟨rfl, rfl, rfl, rfl, rfl⟩ rfl rfl rfl rfl rfl (by kernel_rfl) Tryd.func3 (by kernel_rfl)
    (of_decide_eq_true (by kernel_rfl)) (by unfold Func.isWrapper; first | (rw [if_pos (by decide +kernel)]; kernel_rfl) | (rw [if_neg (by decide +kernel)]; exact ⟨rfl, rfl⟩))
    (fun os started H enc _ => lifted os started H enc)

theorem plain (f : FuncId) (fn : Func) (hf : Tryd.pinned.checked.prog.funcNamed "hindsight/hindsightlaw10.ProofAny" = some f) (hfn : Tryd.pinned.checked.prog.funcs[f]? = some fn) :
    (true : Bool) = Tryd.pinned.checked.prog.looks [] ∧ ∀ (j : Nat) t, fn.params[j]? = some t → Tryd.pinned.checked.prog.wantsStandIn t = false := by
  obtain rfl : f = 3 := Option.some.inj ((show Tryd.prog.funcNamed "hindsight/hindsightlaw10.ProofAny" = some 3 by kernel_rfl).symm.trans hf) |>.symm
  obtain rfl : fn = Tryd.f3 := (Option.some.inj (Tryd.func3.symm.trans hfn)).symm
  refine ⟨by kernel_rfl, fun j t ht => ?_⟩
  rw [Tryd.params3] at ht
  have hm := Array.mem_of_getElem? ht
  simp only [List.mem_toArray, List.mem_cons, List.not_mem_nil, or_false] at hm
  rcases hm with rfl | rfl | rfl | rfl | rfl | rfl | rfl
  · exact (show Tryd.prog.wantsStandIn 9 = false by kernel_rfl)
  · exact (show Tryd.prog.wantsStandIn 3 = false by kernel_rfl)
  · exact (show Tryd.prog.wantsStandIn 3 = false by kernel_rfl)
  · exact (show Tryd.prog.wantsStandIn 3 = false by kernel_rfl)
  · exact (show Tryd.prog.wantsStandIn 9 = false by kernel_rfl)
  · exact (show Tryd.prog.wantsStandIn 9 = false by kernel_rfl)
  · exact (show Tryd.prog.wantsStandIn 22 = false by kernel_rfl)

theorem card : Rows.ProofAnyCardSaid :=
  Claim7.holds_tied_plain_at .later [] _ _ _ _ over (fun _ h => by cases h) (by kernel_rfl) (fun _ h => by cases h) proofAny_row_tie rfl ⟨rfl, rfl⟩ (by kernel_rfl) rfl plain (by kernel_rfl)

theorem proved : Rows.ProofAnyCardSaid := card
end Go.Proofs.YtiogjmlkogeibaaDoor.proofAny
