/- ClashSure: for every two lists of strings, list of texts, all texts and numbers the law answers true, and its arguments read afterwards as they did. Conditions: the row lists three package-level variables (digest's table of rounds, both tables of math/bits), which the card ties to the program's text. -/
import Derived.Test.YthbncejbcegmgaaDoorY014
import Derived.Test.YthbncejbcegmgaaDoorYClaE
import Derived.Test.YthbncejbcegmgaaDoorY010S
import Derived.Test.YthbncejbcegmgaaDoorY011S
import Derived.Test.YthbncejbcegmgaaDoorY002
import Derived.Test.YthbncejbcegmgaaDoorY017
import Derived.Test.YthbncejbcegmgaaDoorCards
import Derived.Test.YthbncejbcegmgaaDoorTie
import Derived.ProofKit
import Derived.OpenShut
import Derived.ShutString
import Derived.SevenTiedAt
namespace Go.Proofs.YthbncejbcegmgaaDoor.clashSure
open Go Go.ChangeShapes Go.WideShapes Go.ChangeAt Go.RowKit Go.Proofs.YthbncejbcegmgaaDoor.dig Go.Proofs.YthbncejbcegmgaaDoor.prf Go.Proofs.YthbncejbcegmgaaDoor.prn Go.Proofs.YthbncejbcegmgaaDoor.clash Go.Proofs.YthbncejbcegmgaaDoor.tree
open Go.ChangeMaps (open_string shut_string)

def Arg0 (w : World) (a : Option Addr) (len cap : Nat) : Prop := ∃ T, ArgS w a len cap T
theorem opened0 {H : Type} {enc : TypeId × Value → H} {w : World} {spare : Nat → Bool} {held : Bool} {a : Option Addr} {len cap : Nat} {d : DataW H} {p : List MemPlace} (h : DataW.Trod enc Tryd.prog w 0 spare held 22 (.slice a len cap) d p) : Arg0 w a len cap := openedStrs h
abbrev Arg6 := Arg0
abbrev Arg7 := Arg0
theorem opened6 {H : Type} {enc : TypeId × Value → H} {w : World} {spare : Nat → Bool} {held : Bool} {a : Option Addr} {len cap : Nat} {d : DataW H} {p : List MemPlace} (h : DataW.Trod enc Tryd.prog w 0 spare held 22 (.slice a len cap) d p) : Arg6 w a len cap := openedStrs h
theorem opened7 {H : Type} {enc : TypeId × Value → H} {w : World} {spare : Nat → Bool} {held : Bool} {a : Option Addr} {len cap : Nat} {d : DataW H} {p : List MemPlace} (h : DataW.Trod enc Tryd.prog w 0 spare held 22 (.slice a len cap) d p) : Arg7 w a len cap := openedStrs h
theorem ArgS.below {w w' : World} {a : Option Addr} {len cap : Nat} {T : Nat → ByteArray} (h : ArgS w a len cap T) (b : Below w.heap.size w w') : ArgS w' a len cap T := ⟨h.1, h.2.1, fun k hk => by
    obtain ⟨gb, go, h1, h2, h3, h4⟩ := h.2.2 k hk
    exact ⟨gb, go, h1, Nat.lt_of_lt_of_le h2 b.size, by rw [← h3]; unfold World.cell?; rw [b.block gb h2], h4⟩⟩
theorem wpList_name {P : Program} {ops : Array Oper} {rest : List Oper} {a : Act} {w : World} {Q : Exit → Act → World → Prop} (h : ∀ W, w = W → wpList P ops Q rest a W) : wpList P ops Q rest a w := h w rfl
theorem cut_size (s : ByteArray) : (s.extract 0 20).size ≤ 20 := by rw [ByteArray.size_extract]; omega
theorem built_pair : Tryd.prog.built 40 [] = some #[.string ⟨#[]⟩, .string ⟨#[]⟩] := by kernel_rfl

/-- A frame of letters. -/
def FR (f : Nat → Value) : Array Value := #[f 0, f 1, f 2, f 3, f 4, f 5, f 6, f 7, f 8, f 9, f 10, f 11, f 12, f 13, f 14, f 15, f 16, f 17, f 18, f 19, f 20, f 21, f 22, f 23, f 24, f 25, f 26, f 27, f 28, f 29, f 30, f 31, f 32, f 33, f 34, f 35, f 36, f 37, f 38, f 39, f 40, f 41, f 42, f 43, f 44, f 45, f 46, f 47, f 48, f 49, f 50, f 51, f 52, f 53, f 54, f 55, f 56, f 57, f 58, f 59, f 60, f 61, f 62, f 63, f 64, f 65, f 66, f 67, f 68, f 69, f 70, f 71, f 72, f 73, f 74, f 75, f 76, f 77, f 78, f 79, f 80, f 81, f 82, f 83, f 84, f 85, f 86, f 87, f 88, f 89, f 90, f 91, f 92, f 93, f 94, f 95, f 96, f 97, f 98, f 99, f 100, f 101, f 102, f 103, f 104, f 105, f 106, f 107, f 108, f 109, f 110, f 111, f 112, f 113, f 114, f 115, f 116, f 117, f 118, f 119, f 120, f 121, f 122, f 123, f 124, f 125, f 126, f 127, f 128, f 129, f 130, f 131, f 132, f 133, f 134, f 135, f 136, f 137, f 138, f 139, f 140, f 141, f 142, f 143, f 144, f 145, f 146, f 147, f 148, f 149, f 150, f 151, f 152, f 153, f 154, f 155, f 156, f 157, f 158, f 159, f 160, f 161, f 162, f 163, f 164, f 165, f 166, f 167, f 168, f 169, f 170, f 171, f 172, f 173, f 174, f 175, f 176, f 177, f 178, f 179, f 180, f 181, f 182, f 183, f 184, f 185, f 186, f 187, f 188, f 189, f 190, f 191, f 192, f 193, f 194, f 195, f 196, f 197, f 198, f 199, f 200, f 201, f 202, f 203, f 204, f 205, f 206, f 207, f 208, f 209, f 210, f 211, f 212, f 213, f 214, f 215, f 216, f 217, f 218, f 219, f 220, f 221, f 222, f 223, f 224, f 225, f 226, f 227, f 228, f 229, f 230, f 231, f 232, f 233, f 234, f 235]
set_option maxRecDepth 100000 in
theorem frame_of (xs : Array Value) (h : xs.size = 236) : xs = FR (fun i => xs.getD i undef) := by
  have h1 : xs = ((List.range 236).map (fun i => xs.getD i undef)).toArray := by
    apply Array.ext_getElem?
    intro i
    by_cases hi : i < 236
    · rw [Array.getElem?_eq_getElem (by omega), List.getElem?_toArray, List.getElem?_map, List.getElem?_range hi]
      simp [Array.getD, h, hi]
    · rw [Array.getElem?_eq_none (by omega), Array.getElem?_eq_none (by simp; omega)]
  refine h1.trans ?_
  generalize (fun i => xs.getD i undef) = f
  kernel_rfl
theorem wp_seq_cut {P : Program} {x y : Code} {Q : Exit → Act → World → Prop} {a : Act} {w : World} (M : Act → World → Prop) (h1 : x.wp P (Exit.then M (fun _ _ _ => False)) a w) (h2 : ∀ a w, M a w → y.wp P Q a w) : (Code.seq x y).wp P Q a w :=
  wp_seq (Code.wp_mono (fun e a w h => by cases e <;> first | exact h2 a w h | exact h.elim) h1)
/-- Of a frame of this size these slots are known. -/
def Fr (l : List (Nat × Value)) (a : Act) : Prop := a.defers = [] ∧ a.tmps.size = 236 ∧ ∀ p ∈ l, a.tmps.getD p.1 undef = p.2
theorem Fr.out {l : List (Nat × Value)} {a : Act} (h : Fr l a) : ∃ f, a = { tmps := FR f, defers := [] } ∧ ∀ p ∈ l, f p.1 = p.2 := by
  obtain ⟨tm, df⟩ := a
  obtain ⟨h1, h2, h3⟩ := h
  dsimp only at h1 h2 h3
  subst h1
  exact ⟨fun i => tm.getD i undef, by rw [← frame_of tm h2], h3⟩

theorem wp_held_name {P : Program} {c : Code} {Q : Exit → Act → World → Prop} {a : Act} {w : World} (h : ∀ V, w = V → c.wp P Q a V) : c.wp P Q a w := h w rfl
/-- What lasts from the head on. -/
structure Sh (w : World) (tb g off c : Nat) (L : List ByteArray) (gr gh : Nat) (R : List UInt8) (V : World) : Prop where
  k : Cw w tb g off c L V
  r : Has V gr 33 (cellsOf R)
  h : Has V gh 38 (headC L.length R)
theorem Sh.below {w : World} {tb g off c : Nat} {L : List ByteArray} {gr gh : Nat} {R : List UInt8} {V V' : World} (h : Sh w tb g off c L gr gh R V) (b : Below V.heap.size V V') : Sh w tb g off c L gr gh R V' := ⟨h.k.below b, h.r.below b h.r.lt, h.h.below b h.h.lt⟩

/-- The slots that a round leaves. -/
def keepL (f : Nat → Value) : List Value := [f 0, f 1, f 2, f 3, f 4, f 6, f 7, f 8, f 9, f 10, f 11, f 12, f 13, f 14, f 15, f 18, f 19, f 20, f 21, f 23, f 24, f 26, f 27, f 28, f 29, f 45, f 46, f 47, f 48, f 49, f 50, f 51, f 52, f 53, f 54, f 55, f 56, f 57, f 58, f 59, f 60, f 61, f 62, f 63, f 64, f 65, f 66, f 67, f 68, f 69, f 70, f 71, f 72, f 73, f 74, f 75, f 76, f 77, f 78, f 79, f 80, f 81, f 82, f 83, f 84, f 85, f 86, f 87, f 88, f 89, f 90, f 91, f 92, f 93, f 94, f 95, f 96, f 97, f 98, f 99, f 100, f 101, f 102, f 103, f 104, f 105, f 106, f 107, f 108, f 109, f 110, f 111, f 112, f 113, f 114, f 115, f 116, f 117, f 118, f 119, f 120, f 121, f 122, f 123, f 124, f 125, f 126, f 127, f 128, f 129, f 130, f 131]
theorem keep_FR (f : Nat → Value) : keepL (fun i => (FR f).getD i undef) = keepL f := by kernel_rfl
theorem FR_mix {f h : Nat → Value} (e : keepL h = keepL f) : FR h = #[f 0, f 1, f 2, f 3, f 4, h 5, f 6, f 7, f 8, f 9, f 10, f 11, f 12, f 13, f 14, f 15, h 16, h 17, f 18, f 19, f 20, f 21, h 22, f 23, f 24, h 25, f 26, f 27, f 28, f 29, h 30, h 31, h 32, h 33, h 34, h 35, h 36, h 37, h 38, h 39, h 40, h 41, h 42, h 43, h 44, f 45, f 46, f 47, f 48, f 49, f 50, f 51, f 52, f 53, f 54, f 55, f 56, f 57, f 58, f 59, f 60, f 61, f 62, f 63, f 64, f 65, f 66, f 67, f 68, f 69, f 70, f 71, f 72, f 73, f 74, f 75, f 76, f 77, f 78, f 79, f 80, f 81, f 82, f 83, f 84, f 85, f 86, f 87, f 88, f 89, f 90, f 91, f 92, f 93, f 94, f 95, f 96, f 97, f 98, f 99, f 100, f 101, f 102, f 103, f 104, f 105, f 106, f 107, f 108, f 109, f 110, f 111, f 112, f 113, f 114, f 115, f 116, f 117, f 118, f 119, f 120, f 121, f 122, f 123, f 124, f 125, f 126, f 127, f 128, f 129, f 130, f 131, h 132, h 133, h 134, h 135, h 136, h 137, h 138, h 139, h 140, h 141, h 142, h 143, h 144, h 145, h 146, h 147, h 148, h 149, h 150, h 151, h 152, h 153, h 154, h 155, h 156, h 157, h 158, h 159, h 160, h 161, h 162, h 163, h 164, h 165, h 166, h 167, h 168, h 169, h 170, h 171, h 172, h 173, h 174, h 175, h 176, h 177, h 178, h 179, h 180, h 181, h 182, h 183, h 184, h 185, h 186, h 187, h 188, h 189, h 190, h 191, h 192, h 193, h 194, h 195, h 196, h 197, h 198, h 199, h 200, h 201, h 202, h 203, h 204, h 205, h 206, h 207, h 208, h 209, h 210, h 211, h 212, h 213, h 214, h 215, h 216, h 217, h 218, h 219, h 220, h 221, h 222, h 223, h 224, h 225, h 226, h 227, h 228, h 229, h 230, h 231, h 232, h 233, h 234, h 235] := by
  simp only [keepL, List.cons.injEq] at e
  obtain ⟨e0, e1, e2, e3, e4, e6, e7, e8, e9, e10, e11, e12, e13, e14, e15, e18, e19, e20, e21, e23, e24, e26, e27, e28, e29, e45, e46, e47, e48, e49, e50, e51, e52, e53, e54, e55, e56, e57, e58, e59, e60, e61, e62, e63, e64, e65, e66, e67, e68, e69, e70, e71, e72, e73, e74, e75, e76, e77, e78, e79, e80, e81, e82, e83, e84, e85, e86, e87, e88, e89, e90, e91, e92, e93, e94, e95, e96, e97, e98, e99, e100, e101, e102, e103, e104, e105, e106, e107, e108, e109, e110, e111, e112, e113, e114, e115, e116, e117, e118, e119, e120, e121, e122, e123, e124, e125, e126, e127, e128, e129, e130, e131, _⟩ := e
  unfold FR
  rw [e0, e1, e2, e3, e4, e6, e7, e8, e9, e10, e11, e12, e13, e14, e15, e18, e19, e20, e21, e23, e24, e26, e27, e28, e29, e45, e46, e47, e48, e49, e50, e51, e52, e53, e54, e55, e56, e57, e58, e59, e60, e61, e62, e63, e64, e65, e66, e67, e68, e69, e70, e71, e72, e73, e74, e75, e76, e77, e78, e79, e80, e81, e82, e83, e84, e85, e86, e87, e88, e89, e90, e91, e92, e93, e94, e95, e96, e97, e98, e99, e100, e101, e102, e103, e104, e105, e106, e107, e108, e109, e110, e111, e112, e113, e114, e115, e116, e117, e118, e119, e120, e121, e122, e123, e124, e125, e126, e127, e128, e129, e130, e131]

/-- What lasts in the last region of a round. -/
structure Sd (w : World) (tb g off c : Nat) (L : List ByteArray) (gr gh : Nat) (R : List UInt8) (g36 : Nat) (Q : List UInt8) (g42 : Nat) (x4 y4 : ByteArray) (wv : Value) (wr2 : List (List UInt8)) (V : World) : Prop where
  s : Sh w tb g off c L gr gh R V
  q : Has V g36 33 (cellsOf Q)
  p : Has V g42 40 #[.string x4, .string y4]
  ss : SmS V wv wr2
theorem Sd.below {w : World} {tb g off c : Nat} {L : List ByteArray} {gr gh : Nat} {R : List UInt8} {g36 : Nat} {Q : List UInt8} {g42 : Nat} {x4 y4 : ByteArray} {wv : Value} {wr2 : List (List UInt8)} {V V' : World} (h : Sd w tb g off c L gr gh R g36 Q g42 x4 y4 wv wr2 V) (b : Below V.heap.size V V') : Sd w tb g off c L gr gh R g36 Q g42 x4 y4 wv wr2 V' := ⟨h.s.below b, h.q.below b h.q.lt, h.p.below b h.p.lt, h.ss.below b⟩

set_option maxRecDepth 100000 in
set_option maxHeartbeats 16000000 in
theorem walk (a0 : Option Addr) (len0 cap0 : Nat) (n i m : Int) (sa sb : ByteArray) (a6 : Option Addr) (len6 cap6 : Nat) (a7 : Option Addr) (len7 cap7 : Nat) (w : World) (hA : Arg0 w a0 len0 cap0) (hn : (Lit.int .i64 n).wf = true) (_hi : (Lit.int .i64 i).wf = true) (_hm : (Lit.int .i64 m).wf = true)
    (hsa : sa.size ≤ maxLen) (hsb : sb.size ≤ maxLen) (hA6 : Arg6 w a6 len6 cap6) (hA7 : Arg7 w a7 len7 cap7) (hP : Rt w.heap.size w) :
    Calls Tryd.prog 3 #[.slice a0 len0 cap0, .int .i64 n, .int .i64 i, .int .i64 m, .string sa, .string sb, .slice a6 len6 cap6, .slice a7 len7 cap7] w fun en w' => en = .returned (.bool true) ∧ Below w.heap.size w w' := by
  obtain ⟨T, hT⟩ := hA
  obtain ⟨T6, hT6⟩ := hA6
  obtain ⟨T7, hT7⟩ := hA7
  have hn2 := wf_i64 hn
  obtain ⟨x, hx⟩ : ∃ x : Int, max n 0 = x := ⟨_, rfl⟩
  obtain ⟨k, hk⟩ : ∃ k : Nat, min x 20 = (k : Int) := ⟨(min x 20).toNat, by omega⟩
  have hk20 : k ≤ 20 := by omega
  obtain ⟨ta, hta⟩ : ∃ t, t = sa.extract 0 20 := ⟨_, rfl⟩
  obtain ⟨tbb, htb⟩ : ∃ t, t = sb.extract 0 20 := ⟨_, rfl⟩
  have HSZ : Hid (ta.size ≤ 20 ∧ tbb.size ≤ 20) := Lib.hid ⟨by rw [hta]; exact cut_size _, by rw [htb]; exact cut_size _⟩
  have HCA : Hid (∀ V, Calls Tryd.prog 8 #[.string sa, .int .i64 20] V fun en w' => en = .returned (.string ta) ∧ V = w') := Lib.hid fun V => by rw [hta]; exact cut_any sa 20 V (by omega) hsa
  have HCB : Hid (∀ V, Calls Tryd.prog 8 #[.string sb, .int .i64 20] V fun en w' => en = .returned (.string tbb) ∧ V = w') := Lib.hid fun V => by rw [htb]; exact cut_any sb 20 V (by omega) hsb
  have HT := Lib.hid (show _ ∧ _ ∧ _ ∧ _ from ⟨hT, hP, hT6, hT7⟩)
  clear hT hP hn hn2 hT6 hT7 hta htb hsa hsb
  go_enter Tryd.func3, Tryd.ntmps3
  go_wp2_with fail
  refine (clawake_calls w HT.out.2.1.rk).mono ?_
  rintro en w1 ⟨rfl, b1⟩
  have R1 : Hid (Rt w.heap.size w1 ∧ Below w.heap.size w w1 ∧ ArgS w1 a0 len0 cap0 T ∧ ArgS w1 a6 len6 cap6 T6 ∧ ArgS w1 a7 len7 cap7 T7) := Lib.hid ⟨HT.out.2.1.below b1 (Nat.le_refl _), b1, ArgS.below HT.out.1 b1, ArgS.below HT.out.2.2.1 b1, ArgS.below HT.out.2.2.2 b1⟩
  clear b1 HT
  go_wp2_with fail
  refine (leaves_calls a0 len0 cap0 T k w1 R1.out.2.2.1 (by omega) (by omega)).mono ?_
  rintro en w2 ⟨v, L, rfl, hs2, hlen, lo2, b2, hne⟩
  have hlen2 : L.length = k := by omega
  obtain ⟨aa, c, rfl, hc1, hc2⟩ := hs2.1.slice
  obtain ⟨g, off, rfl⟩ : ∃ g off, aa = some ⟨g, off, none⟩ := by
    rcases hs2.1.2 with ⟨h, _⟩ | ⟨g, off, cp, cur, h, _⟩
    · exact absurd h hne
    · simp only [Value.slice.injEq] at h; exact ⟨g, off, h.1⟩
  have R2 : Hid (Rt w.heap.size w2 ∧ Below w.heap.size w w2 ∧ Strs w2 (.slice (some ⟨g, off, none⟩) L.length c) L ∧ g < w2.heap.size ∧ ArgS w2 a6 len6 cap6 T6 ∧ ArgS w2 a7 len7 cap7 T7) := Lib.hid ⟨R1.out.1.below b2 R1.out.2.1.size, R1.out.2.1.trans (b2.mono R1.out.2.1.size), hs2, hs2.1.lt rfl, ArgS.below R1.out.2.2.2.1 b2, ArgS.below R1.out.2.2.2.2 b2⟩
  rw [hlen2]
  have HL := Lib.hid hlen2
  clear hs2 lo2 b2 R1 hlen hlen2 hc2 hc1 hne hx hk
  go_wp2_with fail
  refine (HCA.out w2).mono ?_
  rintro en wx ⟨rfl, rfl⟩
  go_wp2_with fail
  refine (HCB.out w2).mono ?_
  rintro en wx ⟨rfl, rfl⟩
  clear HCA HCB
  go_wp2_with fail
  refine (lsums_calls a6 len6 cap6 T6 w2 R2.out.2.2.2.2.1).mono ?_
  rintro en w3 ⟨o1, t1, r1, rfl, hr1, so1, st1, lo1, lt1, b3⟩
  have R3 : Hid (Rt w.heap.size w3 ∧ Below w.heap.size w w3 ∧ Strs w3 (.slice (some ⟨g, off, none⟩) L.length c) L ∧ g < w3.heap.size ∧ SmS w3 o1 r1 ∧ ArgS w3 a7 len7 cap7 T7) := Lib.hid ⟨R2.out.1.below b3 R2.out.2.1.size, R2.out.2.1.trans (b3.mono R2.out.2.1.size), ⟨R2.out.2.2.1.1.below b3 (fun x hx => R2.out.2.2.1.1.lt hx), R2.out.2.2.1.2⟩, Nat.lt_of_lt_of_le R2.out.2.2.2.1 b3.size, so1, ArgS.below R2.out.2.2.2.2.2 b3⟩
  clear so1 st1 lo1 lt1 b3 R2 hr1
  go_wp2_with fail
  refine (lsums_calls a7 len7 cap7 T7 w3 R3.out.2.2.2.2.2).mono ?_
  rintro en w4 ⟨o2, t2, r2, rfl, hr2, so2, st2, lo2, lt2, b4⟩
  have R4 : Hid (Rt w.heap.size w4 ∧ Below w.heap.size w w4 ∧ Strs w4 (.slice (some ⟨g, off, none⟩) L.length c) L ∧ g < w4.heap.size ∧ SmS w4 o1 r1 ∧ SmS w4 o2 r2) := Lib.hid ⟨R3.out.1.below b4 R3.out.2.1.size, R3.out.2.1.trans (b4.mono R3.out.2.1.size), ⟨R3.out.2.2.1.1.below b4 (fun x hx => R3.out.2.2.1.1.lt hx), R3.out.2.2.1.2⟩, Nat.lt_of_lt_of_le R3.out.2.2.2.1 b4.size, R3.out.2.2.2.2.1.below b4, so2⟩
  clear so2 st2 lo2 lt2 b4 R3 hr2
  go_wp2_with fail
  refine (tnew_calls w.heap.size (leafF L) w4 R4.out.1 (leafF_len L)).mono ?_
  rintro en w5 ⟨tb, rfl, htb, tr5, b5⟩
  have R5 : Hid (Tr w.heap.size (fun k => k = tb) w5 tb 0 0 (leafF L) ∧ Below w.heap.size w w5 ∧ Strs w5 (.slice (some ⟨g, off, none⟩) L.length c) L ∧ g < tb ∧ SmS w5 o1 r1 ∧ SmS w5 o2 r2 ∧ w4.heap.size ≤ tb ∧ SmS w4 o1 r1 ∧ SmS w4 o2 r2) := Lib.hid ⟨tr5, R4.out.2.1.trans (b5.mono R4.out.2.1.size), ⟨R4.out.2.2.1.1.below b5 (fun x hx => R4.out.2.2.1.1.lt hx), R4.out.2.2.1.2⟩, Nat.lt_of_lt_of_le R4.out.2.2.2.1 htb, R4.out.2.2.2.2.1.below b5, R4.out.2.2.2.2.2.below b5, htb, R4.out.2.2.2.2.1, R4.out.2.2.2.2.2⟩
  clear tr5 b5 htb R4
  have hap := R5.out.1.append_calls (some ⟨g, off, none⟩) c L R5.out.2.2.1 (fun x hx e => by
    have h1 : g = x := by simpa [Value.ownBlock] using hx
    have := R5.out.2.2.2.1
    omega) (fun i s hs => by rw [Nat.zero_add]; exact leafF_at L i s hs) (by have := HL.out; omega)
  rw [HL.out, Nat.zero_add] at hap
  have HAP := Lib.hid hap
  clear hap
  go_wp2_with fail
  refine HAP.out.mono ?_
  rintro en w6 ⟨rfl, tr6, t6⟩
  have R6 : Hid (Cw w tb g off c L w6 ∧ SmS w6 o1 r1 ∧ SmS w6 o2 r2) := by
    obtain ⟨h1, h2, h3, h4, h5, h6, h7, h8, h9⟩ := R5.out
    refine Lib.hid ⟨⟨⟨_, by rw [HL.out]; exact tr6⟩, ⟨h3.1.turn t6 (fun x hx e => ?_), h3.2⟩, Nat.lt_of_lt_of_le (Nat.lt_trans h4 (h1.head.choose_spec.lt)) t6.size, h2.trans (t6.below h2.size (fun j hj e => by have := h1.hF j e; omega))⟩, ⟨h5.1.turn t6 (fun x hx e => ?_), h5.2⟩, ⟨h6.1.turn t6 (fun x hx e => ?_), h6.2⟩⟩
    · have h8 : g = x := by simpa [Value.ownBlock] using hx
      omega
    · have := h8.1.lt hx; omega
    · have := h9.1.lt hx; omega
  clear tr6 t6 HAP R5
  obtain ⟨R, hR⟩ : ∃ R, R = rtAll (leafF L) k := ⟨_, rfl⟩
  have RL : Hid (R.length = 32) := Lib.hid (by rw [hR]; exact rtAll_len (leafF_len L) _)
  have HRC : Hid ((cellsOf R).size = 32) := Lib.hid (by rw [cellsOf_size, RL.out])
  have HR := Lib.hid hR
  clear hR
  have HRT : Hid (∀ V (j : Nat), Cw w tb g off c L V → j ≤ k → Calls Tryd.prog 12 #[.pointer (some ⟨tb, 0, none⟩), .int .i64 j] V fun en w' => en = .returned (.tuple #[.agg (cellsOf (rtAll (leafF L) j)), .int .i64 0]) ∧ Below V.heap.size V w') := Lib.hid fun V j hV hj => hV.root (by have := HL.out; omega) j (by have := HL.out; omega)
  go_wp2_with fail
  refine (HRT.out _ k R6.out.1 (Nat.le_refl _)).mono ?_
  rw [← HR.out]
  rintro en w7 ⟨rfl, b7⟩
  have R7 : Hid (Cw w tb g off c L w7 ∧ SmS w7 o1 r1 ∧ SmS w7 o2 r2) := Lib.hid ⟨R6.out.1.below b7, R6.out.2.1.below b7, R6.out.2.2.below b7⟩
  clear b7 R6
  go_wp2_with (first
    | ((with_reducible refine at_store (.tmp 23) ?_); refine wpList_store_cells (o := ⟨none, _, _, _, _, _⟩) rfl 33 (.tmp 23) (.tmp 75) rfl w7.heap.size (cellsOf R) _ rfl rfl _ (made_at _ _ rfl) (HRC.out.symm ▸ (by kernel_rfl)) (HRC.out.symm ▸ rfl) (cellsOf_one _) ?_; intro W8 HW8 TW8;
       (have R8 : Hid (Cw w tb g off c L W8 ∧ SmS W8 o1 r1 ∧ SmS W8 o2 r2 ∧ Has W8 w7.heap.size 33 (cellsOf R)) := (by
         have bb : Below w7.heap.size w7 W8 := ((Below.refl _ _).alloc (Nat.le_refl _) _).trans (TW8.below (by simp) (fun j hj e => by omega))
         exact Lib.hid ⟨R7.out.1.below bb, R7.out.2.1.below bb, R7.out.2.2.below bb, HW8⟩));
       clear HW8 TW8 R7)
    | ((with_reducible refine at_op 79 ?_); refine wpList_load_row (o := ⟨some 79, _, _, _, _, _⟩) rfl 33 _ rfl w7.heap.size rfl 33 (cellsOf R) (0, 0) _ R8.out.2.2.2 Tryd.underlying33 rfl (by rw [HRC.out]; kernel_rfl) ?_)
    | ((with_reducible refine at_op 80 ?_); refine wpList_head (o := ⟨some 80, _, _, _, _, _⟩) rfl (.tmp 78) (.tmp 79) rfl k R rfl rfl RL.out ?_)
    | ((with_reducible refine at_store (.tmp 25) ?_); refine wpList_store_head (o := ⟨none, _, _, _, _, _⟩) rfl (.tmp 25) (.tmp 80) rfl W8.heap.size k 0 R (List.replicate 32 0) rfl rfl (made_at _ _ rfl) RL.out (by simp) ?_; intro W9 HW9 TW9;
       (have R9 : Hid (Sh w tb g off c L w7.heap.size W8.heap.size R W9 ∧ SmS W9 o1 r1 ∧ SmS W9 o2 r2) := (by
         have bb : Below W8.heap.size W8 W9 := ((Below.refl _ _).alloc (Nat.le_refl _) _).trans (TW9.below (by simp) (fun j hj e => by omega))
         exact Lib.hid ⟨⟨R8.out.1.below bb, R8.out.2.2.2.below bb R8.out.2.2.2.lt, by rw [HL.out]; exact HW9⟩, R8.out.2.1.below bb, R8.out.2.2.1.below bb⟩));
       have hlh : (Instr.loadAt 38 (.pointer (some ⟨W8.heap.size, 0, none⟩))).run Tryd.prog W9 = .ok (.agg (headC k R)) W9 := prf.Has.load_hd HW9 RL.out;
       clear HW9 TW9 R8)
    | ((with_reducible refine at_op 83 ?_); refine wpList_load_if (o := ⟨some 83, _, _, _, _, _⟩) (by kernel_rfl) 38 (.tmp 25) rfl (.pointer (some ⟨W8.heap.size, 0, none⟩)) rfl hlh ?_)
    | fail)
  obtain ⟨gr, hgr⟩ : ∃ gr, gr = w7.heap.size := ⟨_, rfl⟩
  obtain ⟨gh, hgh⟩ : ∃ gh, gh = W8.heap.size := ⟨_, rfl⟩
  rw [← hgr, ← hgh] at R9
  rw [← hgr, ← hgh]
  clear hlh hgr hgh
  refine (cleaves_calls ta tbb i k (by omega) R RL.out r1 r2 o1 o2 (by have := HSZ.out; omega) (by have := HSZ.out; omega) W9 R9.out.1.k.rk R9.out.2.1 R9.out.2.2).mono ?_
  obtain ⟨ok1, hok1⟩ : ∃ ok, ok = twoB ta tbb i k R r1 r2 := ⟨_, rfl⟩
  rw [← hok1]
  clear hok1
  rintro en wa ⟨x1, y1, rfl, hp1, hz1, ba⟩
  have RA : Hid (Sh w tb g off c L gr gh R wa ∧ SmS wa o1 r1) := Lib.hid ⟨R9.out.1.below ba, R9.out.2.1.below ba⟩
  have HP1 := Lib.hid (show _ ∧ _ from ⟨hp1, hz1⟩)
  clear hp1 hz1 ba R9
  have PAD : Hid ((pad ta.data.toList).length = 32 ∧ (pad tbb.data.toList).length = 32) := Lib.hid ⟨pad_len _, pad_len _⟩
  obtain ⟨qa, hqa⟩ : ∃ q, q = pad ta.data.toList := ⟨_, rfl⟩
  obtain ⟨qb, hqb⟩ : ∃ q, q = pad tbb.data.toList := ⟨_, rfl⟩
  rw [← hqa, ← hqb] at PAD
  have LSA : Hid (∀ V, Calls Tryd.prog 15 #[.string ta] V fun en w' => en = .returned (.agg (cellsOf qa)) ∧ Below V.heap.size V w') := Lib.hid fun V => by rw [hqa]; exact lsum_calls ta V
  have LSB : Hid (∀ V, Calls Tryd.prog 15 #[.string tbb] V fun en w' => en = .returned (.agg (cellsOf qb)) ∧ Below V.heap.size V w') := Lib.hid fun V => by rw [hqb]; exact lsum_calls tbb V
  have CP : Hid (∀ (j : Int) V (q : List UInt8) sv r, q.length = 32 → Sh w tb g off c L gr gh R V → SmS V sv r → Calls Tryd.prog 14 #[.int .i64 j, .agg (cellsOf q), .slice (some ⟨g, off, none⟩) k c, sv] V (PairPost V (liesB j q L r))) := Lib.hid fun j V q sv r h1 h2 h3 => by
    have h := cprefix_calls j q h1 L h2.k.str.2 (by have := HL.out; omega) g off c h2.k.cap.1 h2.k.cap.2 sv r V h2.k.rk h2.k.glt (fun i s hs => h2.k.cell i s hs) h3
    rw [HL.out] at h
    exact h
  clear hqa hqb
  go_wp2_with (first
    | ((with_reducible refine at_store (.tmp 26) ?_); refine wpList_store_cells (o := ⟨none, _, _, _, _, _⟩) rfl 40 (.tmp 26) (.tmp 89) rfl wa.heap.size #[.string x1, .string y1] _ rfl rfl _ (made_at _ _ rfl) (by kernel_rfl) rfl (by simp [Value.oneCell']) ?_; intro Wb HWb TWb;
       (have RB : Hid (Sh w tb g off c L gr gh R Wb ∧ SmS Wb o1 r1 ∧ Has Wb wa.heap.size 40 #[.string x1, .string y1]) := (by
         have bb : Below wa.heap.size wa Wb := ((Below.refl _ _).alloc (Nat.le_refl _) _).trans (TWb.below (by simp) (fun j hj e => by omega))
         exact Lib.hid ⟨RA.out.1.below bb, RA.out.2.below bb, HWb⟩));
       clear HWb TWb RA)
    | fail)
  obtain ⟨g26, hg26⟩ : ∃ gg, gg = wa.heap.size := ⟨_, rfl⟩
  rw [← hg26] at RB ⊢
  clear hg26
  refine (LSA.out _).mono ?_
  rintro en wb2 ⟨rfl, bb2⟩
  have RC : Hid (Sh w tb g off c L gr gh R wb2 ∧ SmS wb2 o1 r1 ∧ Has wb2 g26 40 #[.string x1, .string y1]) := Lib.hid ⟨RB.out.1.below bb2, RB.out.2.1.below bb2, RB.out.2.2.below bb2 RB.out.2.2.lt⟩
  clear bb2 RB
  go_wp2_with fail
  refine (CP.out m _ qa o1 r1 PAD.out.1 RC.out.1 RC.out.2.1).mono ?_
  obtain ⟨ok2, hok2⟩ : ∃ ok, ok = liesB m qa L r1 := ⟨_, rfl⟩
  rw [← hok2]
  clear hok2
  rintro en wc ⟨x2, y2, rfl, hp2, hz2, bc⟩
  have RD : Hid (Sh w tb g off c L gr gh R wc ∧ Has wc g26 40 #[.string x1, .string y1]) := Lib.hid ⟨RC.out.1.below bc, RC.out.2.2.below bc RC.out.2.2.lt⟩
  have HP2 := Lib.hid (show _ ∧ _ from ⟨hp2, hz2⟩)
  clear hp2 hz2 bc RC
  rename_i K1 h1 K2 h2
  have H1 := Lib.hid h1
  clear h1
  go_wp2_with fail
  refine H1.out _ _ ?_
  clear H1
  obtain ⟨Wd, hWd⟩ : ∃ Wd, Wd = wc.alloc (.cells #[.string x2, .string y2] 40) := ⟨_, rfl⟩
  have RE : Hid (Sh w tb g off c L gr gh R Wd ∧ Has Wd g26 40 #[.string x1, .string y1] ∧ Has Wd wc.heap.size 40 #[.string x2, .string y2]) := by
    have bb : Below wc.heap.size wc Wd := by rw [hWd]; exact (Below.refl _ _).alloc (Nat.le_refl _) _
    exact Lib.hid ⟨RD.out.1.below bb, RD.out.2.below bb RD.out.2.lt, by rw [hWd]; exact made_at _ _ rfl⟩
  rw [← hWd]
  obtain ⟨g28, hg28⟩ : ∃ gg, gg = wc.heap.size := ⟨_, rfl⟩
  rw [← hg28] at RE ⊢
  clear hWd hg28 RD
  obtain ⟨QQ, hQQ⟩ : ∃ QQ : Act → World → Prop, QQ = fun a' w' => Fr [(5, .string tbb), (17, .slice (some ⟨g, off, none⟩) k c), (22, .pointer (some ⟨tb, 0, none⟩)), (25, .pointer (some ⟨gh, 0, none⟩))] a' ∧ Hid (Sh w tb g off c L gr gh R w') := ⟨_, rfl⟩
  have HQQ := Lib.hid hQQ
  clear hQQ
  refine wp_seq_cut QQ ?_ ?_
  · have hpe : ∀ V, (binOp .neq 40 (.agg #[.string ⟨#[]⟩, .string ⟨#[]⟩]) (.agg #[.string ⟨#[]⟩, .string ⟨#[]⟩])).run Tryd.prog V = .ok (.bool false) V := fun V => by kernel_rfl
    have m0 : Wd.cell? ⟨g26, 0, none⟩ = some (.string x1) := RE.out.2.1.cell 0
    have m1 : Wd.cell? ⟨g26, 1, none⟩ = some (.string y1) := RE.out.2.1.cell 1
    have m2 : Wd.cell? ⟨g28, 0, none⟩ = some (.string x2) := RE.out.2.2.cell 0
    have m3 : Wd.cell? ⟨g28, 1, none⟩ = some (.string y2) := RE.out.2.2.cell 1
    cases ok1
    · obtain ⟨rfl, rfl⟩ := HP1.out.2 rfl
      cases ok2
      · obtain ⟨rfl, rfl⟩ := HP2.out.2 rfl
        go_wp2_with fail
        show QQ _ _
        rw [HQQ.out]
        refine ⟨⟨rfl, rfl, ?_⟩, ?_⟩
        · intro p hp
          simp only [List.mem_cons, List.not_mem_nil, or_false] at hp
          rcases hp with rfl | rfl | rfl | rfl <;> rfl
        exact Lib.hid RE.out.1
      · obtain ⟨hc, hx, hy⟩ := HP2.out.1 rfl
        have HI := Lib.hid (is_calls x2 y2 Wd RE.out.1.k.rk hx hy)
        rw [hc] at HI
        clear hc hx hy
        go_wp2_with fail
        refine HI.out.mono ?_
        rintro en we ⟨rfl, be⟩
        have RF : Hid (Sh w tb g off c L gr gh R we ∧ Has we g26 40 #[.string ⟨#[]⟩, .string ⟨#[]⟩]) := Lib.hid ⟨RE.out.1.below be, RE.out.2.1.below be RE.out.2.1.lt⟩
        clear HI be m0 m1 m2 m3
        have m0 : we.cell? ⟨g26, 0, none⟩ = some (.string ⟨#[]⟩) := RF.out.2.cell 0
        have m1 : we.cell? ⟨g26, 1, none⟩ = some (.string ⟨#[]⟩) := RF.out.2.cell 1
        go_wp2_with fail
        show QQ _ _
        rw [HQQ.out]
        refine ⟨⟨rfl, rfl, ?_⟩, ?_⟩
        · intro p hp
          simp only [List.mem_cons, List.not_mem_nil, or_false] at hp
          rcases hp with rfl | rfl | rfl | rfl <;> rfl
        exact Lib.hid RF.out.1
    · obtain ⟨hc, hx, hy⟩ := HP1.out.1 rfl
      have HI := Lib.hid (is_calls x1 y1 Wd RE.out.1.k.rk hx hy)
      rw [hc] at HI
      clear hc hx hy
      cases ok2
      · obtain ⟨rfl, rfl⟩ := HP2.out.2 rfl
        go_wp2_with fail
        refine HI.out.mono ?_
        rintro en we ⟨rfl, be⟩
        have RF : Hid (Sh w tb g off c L gr gh R we ∧ Has we g28 40 #[.string ⟨#[]⟩, .string ⟨#[]⟩]) := Lib.hid ⟨RE.out.1.below be, RE.out.2.2.below be RE.out.2.2.lt⟩
        clear HI be m0 m1 m2 m3
        have m0 : we.cell? ⟨g28, 0, none⟩ = some (.string ⟨#[]⟩) := RF.out.2.cell 0
        have m1 : we.cell? ⟨g28, 1, none⟩ = some (.string ⟨#[]⟩) := RF.out.2.cell 1
        go_wp2_with fail
        show QQ _ _
        rw [HQQ.out]
        refine ⟨⟨rfl, rfl, ?_⟩, ?_⟩
        · intro p hp
          simp only [List.mem_cons, List.not_mem_nil, or_false] at hp
          rcases hp with rfl | rfl | rfl | rfl <;> rfl
        exact Lib.hid RF.out.1
      · obtain ⟨hc, hx, hy⟩ := HP2.out.1 rfl
        go_wp2_with fail
        refine HI.out.mono ?_
        rintro en we ⟨rfl, be⟩
        have RF : Hid (Sh w tb g off c L gr gh R we ∧ Has we g28 40 #[.string x2, .string y2]) := Lib.hid ⟨RE.out.1.below be, RE.out.2.2.below be RE.out.2.2.lt⟩
        have HI2 := Lib.hid (is_calls x2 y2 we RF.out.1.k.rk hx hy)
        rw [hc] at HI2
        clear HI be m0 m1 m2 m3 hc hx hy
        have m0 : we.cell? ⟨g28, 0, none⟩ = some (.string x2) := RF.out.2.cell 0
        have m1 : we.cell? ⟨g28, 1, none⟩ = some (.string y2) := RF.out.2.cell 1
        go_wp2_with fail
        refine HI2.out.mono ?_
        rintro en wf ⟨rfl, bf⟩
        have RG := Lib.hid (RF.out.1.below bf)
        clear HI2 bf RF m0 m1
        go_wp2_with fail
        show QQ _ _
        rw [HQQ.out]
        refine ⟨⟨rfl, rfl, ?_⟩, ?_⟩
        · intro p hp
          simp only [List.mem_cons, List.not_mem_nil, or_false] at hp
          rcases hp with rfl | rfl | rfl | rfl <;> rfl
        exact RG
  intro a' W0 hq
  rw [HQQ.out] at hq
  obtain ⟨hfr, RS⟩ := hq
  obtain ⟨f, rfl, hfs⟩ := hfr.out
  have e5 : f 5 = .string tbb := hfs (5, .string tbb) (by simp)
  have e17 : f 17 = .slice (some ⟨g, off, none⟩) k c := hfs (17, .slice (some ⟨g, off, none⟩) k c) (by simp)
  have e22 : f 22 = .pointer (some ⟨tb, 0, none⟩) := hfs (22, .pointer (some ⟨tb, 0, none⟩)) (by simp)
  have e25 : f 25 = .pointer (some ⟨gh, 0, none⟩) := hfs (25, .pointer (some ⟨gh, 0, none⟩)) (by simp)
  clear hfr hfs HQQ RE HP1 HP2
  unfold FR
  rw [e5, e17, e22, e25]
  clear e5 e17 e22 e25
  go_wp2_with fail
  go_loopw [134] (fun x wr => ∃ j : Nat, x = .int .i64 j ∧ j ≤ k ∧ Hid (Sh w tb g off c L gr gh R wr)) (fun x _ => k - (intOf x).toNat)
  case atStart => exact ⟨0, rfl, Nat.zero_le _, RS⟩
  case round =>
    obtain ⟨j, rfl, hj, HS⟩ := hrel
    by_cases hjk : j < k
    · have h1 : (j : Int) < (k : Int) := by omega
      obtain ⟨s, hs⟩ : ∃ s, L[j]? = some s := ⟨_, List.getElem?_eq_getElem (by have := HL.out; omega)⟩
      have k0 : wr.cell? ⟨g, off + j, none⟩ = some (.string s) := HS.out.k.cell j s hs
      have hss : s.size ≤ 1000000 := HS.out.k.str.2 s (List.mem_of_getElem? hs)
      obtain ⟨z, hz⟩ : ∃ z, z = path (leafF L) j 0 k := ⟨_, rfl⟩
      have hE0 : inclE s.data.toList j k R z.reverse = 0 := by rw [hz, HR.out]; exact incl_path hjk hs
      have HI : Hid (∀ V, Sh w tb g off c L gr gh R V → Calls Tryd.prog 17 #[.pointer (some ⟨tb, 0, none⟩), .int .i64 j, .int .i64 k] V (SmPost V z)) := Lib.hid fun V hV => by
        have h := hV.k.incl (by have := HL.out; omega) j (by have := HL.out; omega)
        rw [HL.out, ← hz] at h
        exact h
      have HZ := Lib.hid (show _ ∧ _ ∧ _ from ⟨hE0, hss, hjk⟩)
      clear hs hss hE0 hz
      go_wp2_with fail
      refine (HI.out _ HS.out).mono ?_
      rintro en w2 ⟨za, zc, rfl, sz, b2⟩
      have S2 := Lib.hid (show _ ∧ _ from ⟨HS.out.below b2, sz⟩)
      clear sz b2 HI k0
      obtain ⟨zl, hzl⟩ : ∃ zl, zl = z.length := ⟨_, rfl⟩
      rw [← hzl] at S2 ⊢
      have HZL := Lib.hid hzl
      clear hzl
      have hlh : (Instr.loadAt 38 (.pointer (some ⟨gh, 0, none⟩))).run Tryd.prog w2 = .ok (.agg (headC k R)) w2 := prf.Has.load_hd (by have := S2.out.1.h; rw [HL.out] at this; exact this) RL.out
      go_wp2_with (first
        | ((with_reducible refine at_op 149 ?_); refine wpList_load_if (o := ⟨some 149, _, _, _, _, _⟩) (by kernel_rfl) 38 (.tmp 25) rfl (.pointer (some ⟨gh, 0, none⟩)) rfl hlh ?_)
        | fail)
      have hcl := cleaves_calls s tbb j k (by omega) R RL.out z.reverse z.reverse (.slice za zl zc) (.slice za zl zc) (by have := HZ.out.2.1; omega) (by have := HSZ.out; omega) w2 S2.out.1.k.rk S2.out.2 S2.out.2
      have hok : twoB s tbb j k R z.reverse z.reverse = (decide (s ≠ tbb) && (inclE tbb.data.toList j k R z.reverse == 0)) := by
        unfold twoB
        rw [HZ.out.1]
        simp
      obtain ⟨E, hE⟩ : ∃ E, E = inclE tbb.data.toList j k R z.reverse := ⟨_, rfl⟩
      rw [← hE] at hok
      obtain ⟨ok3, hok3⟩ : ∃ o, o = (decide (s ≠ tbb) && (E == 0)) := ⟨_, rfl⟩
      rw [← hok3] at hok
      rw [hok] at hcl
      have HCL := Lib.hid hcl
      have HE := Lib.hid hE
      have HOK3 := Lib.hid hok3
      clear hcl hok hlh hE hok3
      refine HCL.out.mono ?_
      clear HCL
      rintro en w3 ⟨x3, y3, rfl, hp3, hz3, b3⟩
      have HP3 := Lib.hid (show _ ∧ _ from ⟨hp3, hz3⟩)
      have S3 := Lib.hid (show _ ∧ _ from ⟨S2.out.1.below b3, S2.out.2.below b3⟩)
      clear hp3 hz3 b3 S2
      rename_i K1 h1' K2 h2'
      have H1 := Lib.hid h1'
      clear h1'
      go_wp2_with fail
      refine H1.out _ _ ?_
      clear H1
      obtain ⟨W4, hW4⟩ : ∃ W, W = w3.alloc (.cells #[.string x3, .string y3] 40) := ⟨_, rfl⟩
      have S4 : Hid (Sh w tb g off c L gr gh R W4 ∧ SmS W4 (.slice za zl zc) z.reverse ∧ Has W4 w3.heap.size 40 #[.string x3, .string y3]) := by
        have bb : Below w3.heap.size w3 W4 := by rw [hW4]; exact (Below.refl _ _).alloc (Nat.le_refl _) _
        exact Lib.hid ⟨S3.out.1.below bb, S3.out.2.below bb, by rw [hW4]; exact made_at _ _ rfl⟩
      rw [← hW4]
      obtain ⟨g34, hg34⟩ : ∃ gg, gg = w3.heap.size := ⟨_, rfl⟩
      rw [← hg34] at S4 ⊢
      clear hW4 hg34 S3
      obtain ⟨QR, hQR⟩ : ∃ QR : Act → World → Prop, QR = fun a' w' => Fr [(5, .string tbb), (17, .slice (some ⟨g, off, none⟩) k c), (22, .pointer (some ⟨tb, 0, none⟩)), (25, .pointer (some ⟨gh, 0, none⟩)), (30, .int .i64 j), (132, .slice (some ⟨g, off, none⟩) k c), (133, .int .i64 k), (134, .int .i64 j)] a' ∧ keepL (fun i => a'.tmps.getD i undef) = keepL f ∧ Hid (Sh w tb g off c L gr gh R w') := ⟨_, rfl⟩
      have HQR := Lib.hid hQR
      clear hQR
      refine wp_seq_cut QR ?_ ?_
      · have m0 : W4.cell? ⟨g34, 0, none⟩ = some (.string x3) := S4.out.2.2.cell 0
        have m1 : W4.cell? ⟨g34, 1, none⟩ = some (.string y3) := S4.out.2.2.cell 1
        by_cases hst : s = tbb
        · subst hst
          have hss : (s.toList == s.toList) = true := by simp
          obtain rfl : ok3 = false := by rw [HOK3.out]; simp
          clear HOK3
          go_wp2_with fail
          show QR _ _
          rw [HQR.out]
          refine ⟨⟨rfl, rfl, ?_⟩, by kernel_rfl, ?_⟩
          · intro p hp
            simp only [List.mem_cons, List.not_mem_nil, or_false] at hp
            rcases hp with rfl | rfl | rfl | rfl | rfl | rfl | rfl | rfl <;> rfl
          exact Lib.hid S4.out.1
        · have hss : (s.toList == tbb.toList) = false := by
            rw [ByteArray.toList_eq, ByteArray.toList_eq]
            simpa using fun e => hst (ByteArray.ext (Array.toList_inj.1 e))
          have hlh : (Instr.loadAt 38 (.pointer (some ⟨gh, 0, none⟩))).run Tryd.prog W4 = .ok (.agg (headC k R)) W4 := prf.Has.load_hd (by have := S4.out.1.h; rw [HL.out] at this; exact this) RL.out
          have HII : Hid (Calls Tryd.prog 18 #[.string tbb, .int .i64 j, .agg (headC k R), .slice za zl zc] W4 fun en w' => ∃ e, en = .returned e ∧ ((E = 0 ∧ e = .nilIface) ∨ (E ≠ 0 ∧ ∃ b, e = .iface 114 (.pointer (some ⟨b, 0, none⟩)))) ∧ Below W4.heap.size W4 w') := Lib.hid (by
            have h := incl_calls tbb j k R RL.out (by omega) z.reverse za zc W4 S4.out.1.k.rk (by rw [List.length_reverse, ← HZL.out]; exact S4.out.2.1.weak) (by have := HSZ.out; omega)
            rw [List.length_reverse, ← HZL.out, ← HE.out] at h
            refine h.mono ?_
            rintro en w' ⟨e, rfl, he, bb⟩
            refine ⟨e, rfl, ?_, bb⟩
            rcases he with h | ⟨h, b, rfl, _⟩
            · exact .inl h
            · exact .inr ⟨h, b, rfl⟩)
          by_cases hE0 : E = 0
          · obtain rfl : ok3 = true := by rw [HOK3.out]; simp [hst, hE0]
            obtain ⟨hc, hx, hy⟩ := HP3.out.1 rfl
            have HE0 := Lib.hid hE0
            clear HOK3 hst hE0
            go_wp2_with (first
              | ((with_reducible refine at_opg 164 ?_); refine wpList_load_if (o := ⟨some 164, _, _, _, _, _⟩) (by kernel_rfl) 38 (.tmp 25) rfl (.pointer (some ⟨gh, 0, none⟩)) rfl hlh ?_)
              | fail)
            refine HII.out.mono ?_
            rintro en we ⟨e, rfl, he, be⟩
            obtain rfl : e = .nilIface := by
              rcases he with ⟨_, h⟩ | ⟨h, _⟩
              · exact h
              · exact absurd HE0.out h
            have RF : Hid (Sh w tb g off c L gr gh R we ∧ Has we g34 40 #[.string x3, .string y3]) := Lib.hid ⟨S4.out.1.below be, S4.out.2.2.below be S4.out.2.2.lt⟩
            have HI2 := Lib.hid (is_calls x3 y3 we RF.out.1.k.rk hx hy)
            rw [hc] at HI2
            clear he be m0 m1 hc hx hy hlh HII
            have m0 : we.cell? ⟨g34, 0, none⟩ = some (.string x3) := RF.out.2.cell 0
            have m1 : we.cell? ⟨g34, 1, none⟩ = some (.string y3) := RF.out.2.cell 1
            go_wp2_with fail
            refine HI2.out.mono ?_
            rintro en wf ⟨rfl, bf⟩
            have RG := Lib.hid (RF.out.1.below bf)
            clear HI2 bf RF m0 m1
            go_wp2_with fail
            show QR _ _
            rw [HQR.out]
            refine ⟨⟨rfl, rfl, ?_⟩, by kernel_rfl, ?_⟩
            · intro p hp
              simp only [List.mem_cons, List.not_mem_nil, or_false] at hp
              rcases hp with rfl | rfl | rfl | rfl | rfl | rfl | rfl | rfl <;> rfl
            exact RG
          · obtain rfl : ok3 = false := by rw [HOK3.out]; simp [hE0]
            have HE0 := Lib.hid hE0
            clear HOK3 hst hE0
            go_wp2_with (first
              | ((with_reducible refine at_opg 164 ?_); refine wpList_load_if (o := ⟨some 164, _, _, _, _, _⟩) (by kernel_rfl) 38 (.tmp 25) rfl (.pointer (some ⟨gh, 0, none⟩)) rfl hlh ?_)
              | fail)
            refine HII.out.mono ?_
            rintro en we ⟨e, rfl, he, be⟩
            obtain ⟨bb, rfl⟩ : ∃ b, e = .iface 114 (.pointer (some ⟨b, 0, none⟩)) := by
              rcases he with ⟨h, _⟩ | ⟨_, b, h⟩
              · exact absurd h HE0.out
              · exact ⟨b, h⟩
            have RG := Lib.hid (S4.out.1.below be)
            clear he be m0 m1 hlh HII
            go_wp2_with fail
            show QR _ _
            rw [HQR.out]
            refine ⟨⟨rfl, rfl, ?_⟩, by kernel_rfl, ?_⟩
            · intro p hp
              simp only [List.mem_cons, List.not_mem_nil, or_false] at hp
              rcases hp with rfl | rfl | rfl | rfl | rfl | rfl | rfl | rfl <;> rfl
            exact RG
      intro a' W0' hq
      rw [HQR.out] at hq
      obtain ⟨hfr, hkp, RS2⟩ := hq
      obtain ⟨f2, rfl, hfs⟩ := hfr.out
      have e5 : f2 5 = .string tbb := hfs (5, .string tbb) (by simp)
      have e17 : f2 17 = .slice (some ⟨g, off, none⟩) k c := hfs (17, .slice (some ⟨g, off, none⟩) k c) (by simp)
      have e22 : f2 22 = .pointer (some ⟨tb, 0, none⟩) := hfs (22, .pointer (some ⟨tb, 0, none⟩)) (by simp)
      have e25 : f2 25 = .pointer (some ⟨gh, 0, none⟩) := hfs (25, .pointer (some ⟨gh, 0, none⟩)) (by simp)
      have e30 : f2 30 = .int .i64 j := hfs (30, .int .i64 j) (by simp)
      have e132 : f2 132 = .slice (some ⟨g, off, none⟩) k c := hfs (132, .slice (some ⟨g, off, none⟩) k c) (by simp)
      have e133 : f2 133 = .int .i64 k := hfs (133, .int .i64 k) (by simp)
      have e134 : f2 134 = .int .i64 j := hfs (134, .int .i64 j) (by simp)
      have hmx := FR_mix ((keep_FR f2).symm.trans hkp)
      clear hfr hfs hkp HQR S4 HP3 HE HZ
      rw [hmx]
      clear hmx
      rw [e5, e17, e22, e25, e30, e132, e133, e134]
      clear e5 e17 e22 e25 e30 e132 e133 e134
      obtain ⟨Q, hQ⟩ : ∃ Q, Q = rtAll (leafF L) j := ⟨_, rfl⟩
      have QL : Hid (Q.length = 32) := Lib.hid (by rw [hQ]; exact rtAll_len (leafF_len L) _)
      have HQC : Hid ((cellsOf Q).size = 32) := Lib.hid (by rw [cellsOf_size, QL.out])
      have HQ := Lib.hid hQ
      clear hQ
      go_wp2_with fail
      refine (HRT.out _ j RS2.out.k (by omega)).mono ?_
      rw [← HQ.out]
      rintro en w5 ⟨rfl, b5⟩
      have S5 := Lib.hid (RS2.out.below b5)
      clear b5 RS2
      obtain ⟨wz, hwz⟩ : ∃ z, z = stepsL L j k := ⟨_, rfl⟩
      have HWC : Hid (∀ V, Sh w tb g off c L gr gh R V → Calls Tryd.prog 19 #[.pointer (some ⟨tb, 0, none⟩), .int .i64 j, .int .i64 k] V (SmPost V wz)) := Lib.hid fun V hV => by
        have h := hV.k.cons (by have := HL.out; omega) j (by have := HL.out; omega)
        rw [HL.out, ← hwz] at h
        exact h
      clear hwz
      go_wp2_with (first
        | ((with_reducible refine at_store (.tmp 36) ?_); refine wpList_store_cells (o := ⟨none, _, _, _, _, _⟩) rfl 33 (.tmp 36) (.tmp 182) rfl w5.heap.size (cellsOf Q) _ rfl rfl _ (made_at _ _ rfl) (HQC.out.symm ▸ (by kernel_rfl)) (HQC.out.symm ▸ rfl) (cellsOf_one _) ?_; intro W6 HW6 TW6;
           (have S6 : Hid (Sh w tb g off c L gr gh R W6 ∧ Has W6 w5.heap.size 33 (cellsOf Q)) := (by
             have bb : Below w5.heap.size w5 W6 := ((Below.refl _ _).alloc (Nat.le_refl _) _).trans (TW6.below (by simp) (fun j hj e => by omega))
             exact Lib.hid ⟨S5.out.below bb, HW6⟩));
           clear HW6 TW6 S5)
        | fail)
      obtain ⟨g36, hg36⟩ : ∃ gg, gg = w5.heap.size := ⟨_, rfl⟩
      rw [← hg36] at S6 ⊢
      clear hg36
      refine (HWC.out _ S6.out.1).mono ?_
      rintro en w7 ⟨wa1, wc1, rfl, sw7, b7⟩
      obtain ⟨wl, hwl⟩ : ∃ wl, wl = wz.length := ⟨_, rfl⟩
      rw [← hwl] at sw7 ⊢
      have HWL := Lib.hid hwl
      have S7 := Lib.hid (show _ ∧ _ ∧ _ from ⟨S6.out.1.below b7, S6.out.2.below b7 S6.out.2.lt, sw7⟩)
      clear hwl sw7 b7 S6 HWC
      have hlies : liesB j Q L wz.reverse = false := by
        unfold liesB
        rw [Int.toNat_natCast, ← HQ.out]
        simp
      have hp := CP.out j w7 Q (.slice wa1 wl wc1) wz.reverse QL.out S7.out.1 S7.out.2.2
      rw [hlies] at hp
      have HPX := Lib.hid hp
      clear hlies hp
      go_wp2_with (first
        | ((with_reducible refine at_op 194 ?_); refine wpList_load_row (o := ⟨some 194, _, _, _, _, _⟩) rfl 33 _ rfl g36 rfl 33 (cellsOf Q) (0, 0) _ S7.out.2.1 Tryd.underlying33 rfl (by rw [HQC.out]; kernel_rfl) ?_)
        | fail)
      refine HPX.out.mono ?_
      rintro en w8 ⟨x9, y9, rfl, _, hz9, b8⟩
      obtain ⟨rfl, rfl⟩ := hz9 rfl
      have S8 := Lib.hid (show _ ∧ _ ∧ _ from ⟨S7.out.1.below b8, S7.out.2.1.below b8 S7.out.2.1.lt, S7.out.2.2.below b8⟩)
      clear b8 S7 HPX
      go_wp2_with fail
      refine (LSB.out _).mono ?_
      rintro en w9 ⟨rfl, b9⟩
      have S9 : Hid (Sh w tb g off c L gr gh R w9 ∧ Has w9 g36 33 (cellsOf Q) ∧ SmS w9 (.slice wa1 wl wc1) wz.reverse) := by
        have bb := ((Below.refl w8.heap.size w8).alloc (Nat.le_refl _) (.cells #[.string ⟨#[]⟩, .string ⟨#[]⟩] 40)).trans (b9.mono (by simp))
        exact Lib.hid ⟨S8.out.1.below bb, S8.out.2.1.below bb S8.out.2.1.lt, S8.out.2.2.below bb⟩
      clear b9 S8
      go_wp2_with fail
      refine (CP.out j _ qb (.slice wa1 wl wc1) wz.reverse PAD.out.2 S9.out.1 S9.out.2.2).mono ?_
      obtain ⟨E2, hE2⟩ : ∃ E, E = consE j qb k R wz.reverse := ⟨_, rfl⟩
      have hlies : liesB j qb L wz.reverse = ((E2 == 0) && decide (qb ≠ Q)) := by
        unfold liesB
        rw [Int.toNat_natCast, HL.out, ← HR.out, ← hE2, ← HQ.out]
      obtain ⟨ok4, hok4⟩ : ∃ o, o = ((E2 == 0) && decide (qb ≠ Q)) := ⟨_, rfl⟩
      rw [← hok4] at hlies
      rw [hlies]
      have HE2 := Lib.hid hE2
      have HOK4 := Lib.hid hok4
      clear hlies hE2 hok4
      rintro en wb ⟨x4, y4, rfl, hp4, hz4, bb⟩
      have HP4 := Lib.hid (show _ ∧ _ from ⟨hp4, hz4⟩)
      have SB := Lib.hid (show _ ∧ _ ∧ _ from ⟨S9.out.1.below bb, S9.out.2.1.below bb S9.out.2.1.lt, S9.out.2.2.below bb⟩)
      clear hp4 hz4 bb S9
      have HCC : Hid (∀ V, SmS V (.slice wa1 wl wc1) wz.reverse → Rk V → Calls Tryd.prog 20 #[.agg (headC j qb), .agg (headC k R), .slice wa1 wl wc1] V fun en w' => ∃ e, en = .returned e ∧ ((E2 = 0 ∧ e = .nilIface) ∨ (E2 ≠ 0 ∧ ∃ b, e = .iface 114 (.pointer (some ⟨b, 0, none⟩)))) ∧ Below V.heap.size V w') := Lib.hid fun V hV hR => by
        have h := cons_calls PAD.out.2 RL.out j k (by omega) wz.reverse wa1 wc1 V hR (by rw [List.length_reverse, ← HWL.out]; exact hV.weak)
        rw [List.length_reverse, ← HWL.out, ← HE2.out] at h
        refine h.mono ?_
        rintro en w' ⟨e, rfl, he, bb⟩
        refine ⟨e, rfl, ?_, bb⟩
        rcases he with h | ⟨h, b, rfl, _⟩
        · exact .inl h
        · exact .inr ⟨h, b, rfl⟩
      go_wp2_with fail
      refine wp_held_name (fun V0 hV0 => ?_)
      obtain ⟨g42, hg42⟩ : ∃ gg, gg = wb.heap.size := ⟨_, rfl⟩
      have SF : Hid (Sd w tb g off c L gr gh R g36 Q g42 x4 y4 (.slice wa1 wl wc1) wz.reverse V0) := by
        have bb : Below wb.heap.size wb V0 := by rw [← hV0]; exact (Below.refl _ _).alloc (Nat.le_refl _) _
        exact Lib.hid ⟨SB.out.1.below bb, SB.out.2.1.below bb SB.out.2.1.lt, by rw [← hV0, hg42]; exact made_at _ _ rfl, SB.out.2.2.below bb⟩
      rw [← hg42]
      clear hV0 hg42 SB
      by_cases hE0 : E2 = 0
      · have HE0 := Lib.hid hE0
        clear hE0
        by_cases hqq : qb = Q
        · obtain rfl : ok4 = false := by rw [HOK4.out]; simp [hqq]
          have HNE : Hid ((qb == Q) = true) := Lib.hid (by simp [hqq])
          clear HOK4 hqq
          refine Go.wp_region_held (S := Sd w tb g off c L gr gh R g36 Q g42 x4 y4 (.slice wa1 wl wc1) wz.reverse) (by kernel_rfl) ?_
          have S0 := SF.out.below (Below.refl _ _).drew
          clear SF
          refine held_take 0 (some 210) (v := .int .i64 j) rfl rfl (by kernel_rfl) (by kernel_rfl) (by kernel_rfl) (fun _ _ _ h => h) (.inl ⟨by kernel_rfl, fun V hV => by rfl⟩) S0 ?_
          simp only [Act.put, List.setIfInBounds_toArray, List.set_cons_zero, List.set_cons_succ]
          refine held_take 1 (some 211) (v := .string tbb) rfl rfl (by kernel_rfl) (by kernel_rfl) (by kernel_rfl) (fun _ _ _ h => h) (.inl ⟨by kernel_rfl, fun V hV => by rfl⟩) S0 ?_
          simp only [Act.put, List.setIfInBounds_toArray, List.set_cons_zero, List.set_cons_succ]
          refine held_take 4 (some 214) (v := .agg (headC k R)) rfl rfl (by kernel_rfl) (by kernel_rfl) (by kernel_rfl) (fun _ _ _ h => h) (.inl ⟨by kernel_rfl, fun V hV => by exact exec_load 38 (.tmp 25) rfl (.pointer (some ⟨gh, 0, none⟩)) (by kernel_rfl) (prf.Has.load_hd (by have := hV.s.h; rw [HL.out] at this; exact this) RL.out)⟩) S0 ?_
          simp only [Act.put, List.setIfInBounds_toArray, List.set_cons_zero, List.set_cons_succ]
          refine held_take 5 (some 215) (v := .slice wa1 wl wc1) rfl rfl (by kernel_rfl) (by kernel_rfl) (by kernel_rfl) (fun _ _ _ h => h) (.inl ⟨by kernel_rfl, fun V hV => by rfl⟩) S0 ?_
          simp only [Act.put, List.setIfInBounds_toArray, List.set_cons_zero, List.set_cons_succ]
          refine held_one (i := 2) (by kernel_rfl) ?_
          refine wpOp_call (some 212) rfl rfl (by kernel_rfl) 15 Tryd.f15 Tryd.func15 (by kernel_rfl) (by kernel_rfl) _ _ rfl #[.string tbb] (by first | (simp [Act.eval]; done) | (simp [Act.eval, Act.put]; done)) (LSB.out _) ?_
          rintro en w20 ⟨rfl, b20⟩
          have S1 := S0.below b20
          refine ⟨.agg (cellsOf qb), rfl, S1, ?_⟩
          simp only [Act.put, List.setIfInBounds_toArray, List.set_cons_zero, List.set_cons_succ]
          refine held_take 3 (some 213) (v := .agg (headC j qb)) rfl rfl (by kernel_rfl) (by kernel_rfl) (by kernel_rfl) (fun _ _ _ h => h) (.inl ⟨by kernel_rfl, fun V hV => by exact exec_head _ _ rfl j qb rfl rfl PAD.out.2⟩) S1 ?_
          simp only [Act.put, List.setIfInBounds_toArray, List.set_cons_zero, List.set_cons_succ]
          refine held_one (i := 6) (by kernel_rfl) ?_
          refine wpOp_call (some 216) rfl rfl (by kernel_rfl) 20 Tryd.f20 Tryd.func20 (by kernel_rfl) (by kernel_rfl) _ _ rfl #[.agg (headC j qb), .agg (headC k R), .slice wa1 wl wc1] (by first | (simp [Act.eval]; done) | (simp [Act.eval, Act.put]; done)) (HCC.out _ S1.ss S1.s.k.rk) ?_
          rintro en w21 ⟨e, rfl, he, b21⟩
          obtain rfl : e = .nilIface := by
            rcases he with ⟨_, h⟩ | ⟨h, _⟩
            · exact h
            · exact absurd HE0.out h
          have S2 := S1.below b21
          refine ⟨.nilIface, rfl, S2, ?_⟩
          simp only [Act.put, List.setIfInBounds_toArray, List.set_cons_zero, List.set_cons_succ]
          refine held_take 7 (some 217) (v := .bool true) rfl rfl (by kernel_rfl) (by kernel_rfl) (by kernel_rfl) (fun _ _ _ h => h) (.inl ⟨by kernel_rfl, fun V hV => by go_simp⟩) S2 ?_
          simp only [Act.put, List.setIfInBounds_toArray, List.set_cons_zero, List.set_cons_succ]
          refine held_take 8 (some 218) (v := .bool true) rfl rfl (by kernel_rfl) (by kernel_rfl) (by kernel_rfl) (fun _ _ _ h => h) (.inl ⟨by kernel_rfl, fun V hV => by rfl⟩) S2 ?_
          simp only [Act.put, List.setIfInBounds_toArray, List.set_cons_zero, List.set_cons_succ]
          refine held_take 9 (some 219) (v := .string tbb) rfl rfl (by kernel_rfl) (by kernel_rfl) (by kernel_rfl) (fun _ _ _ h => h) (.inl ⟨by kernel_rfl, fun V hV => by rfl⟩) S2 ?_
          simp only [Act.put, List.setIfInBounds_toArray, List.set_cons_zero, List.set_cons_succ]
          refine held_take 11 (some 221) (v := .agg (cellsOf Q)) rfl rfl (by kernel_rfl) (by kernel_rfl) (by kernel_rfl) (fun _ _ _ h => h) (.inl ⟨by kernel_rfl, fun V hV => by exact exec_load 33 (.tmp 36) rfl (.pointer (some ⟨g36, 0, none⟩)) (by kernel_rfl) (run_loadAt_mid V g36 0 33 (Q.map byteV) _ (Has.range hV.q) Tryd.underlying33 rfl (by rw [List.length_map, QL.out]; kernel_rfl))⟩) S2 ?_
          simp only [Act.put, List.setIfInBounds_toArray, List.set_cons_zero, List.set_cons_succ]
          refine held_one (i := 10) (by kernel_rfl) ?_
          refine wpOp_call (some 220) rfl rfl (by kernel_rfl) 15 Tryd.f15 Tryd.func15 (by kernel_rfl) (by kernel_rfl) _ _ rfl #[.string tbb] (by first | (simp [Act.eval]; done) | (simp [Act.eval, Act.put]; done)) (LSB.out _) ?_
          rintro en w22 ⟨rfl, b22⟩
          have S3 := S2.below b22
          refine ⟨.agg (cellsOf qb), rfl, S3, ?_⟩
          simp only [Act.put, List.setIfInBounds_toArray, List.set_cons_zero, List.set_cons_succ]
          refine held_take 12 (some 222) (v := .bool false) rfl rfl (by kernel_rfl) (by kernel_rfl) (by kernel_rfl) (fun _ _ _ h => h) (.inl ⟨by kernel_rfl, fun V hV => by have he2 := run_equal_sum' qb Q PAD.out.2 QL.out V; rw [HNE.out] at he2; go_simp⟩) S3 ?_
          simp only [Act.put, List.setIfInBounds_toArray, List.set_cons_zero, List.set_cons_succ]
          refine held_take 13 (some 223) (v := .bool false) rfl rfl (by kernel_rfl) (by kernel_rfl) (by kernel_rfl) (fun _ _ _ h => h) (.inl ⟨by kernel_rfl, fun V hV => by rfl⟩) S3 ?_
          simp only [Act.put, List.setIfInBounds_toArray, List.set_cons_zero, List.set_cons_succ]
          refine held_take 14 (some 44) (v := .bool false) rfl rfl (by kernel_rfl) (by kernel_rfl) (by kernel_rfl) (fun _ _ _ h => h) (.inl ⟨by kernel_rfl, fun V hV => by rfl⟩) S3 ?_
          simp only [Act.put, List.setIfInBounds_toArray, List.set_cons_zero, List.set_cons_succ]
          refine wpAnyH_done (by kernel_rfl) ?_ _
          have SG := Lib.hid S3
          clear S0 S1 S2 S3 he b20 b21 b22
          go_wp2_with fail
          refine ⟨⟨j + 1, by rw [Int.natCast_add]; rfl, by omega, Lib.hid SG.out.s⟩, ?_⟩
          show k - ((j : Int) + 1).toNat < k - ((j : Int)).toNat
          omega
        · obtain rfl : ok4 = true := by rw [HOK4.out]; simp [hqq, HE0.out]
          have HNE : Hid ((qb == Q) = false) := Lib.hid (by simpa using hqq)
          clear HOK4 hqq
          refine Go.wp_region_held (S := Sd w tb g off c L gr gh R g36 Q g42 x4 y4 (.slice wa1 wl wc1) wz.reverse) (by kernel_rfl) ?_
          have S0 := SF.out.below (Below.refl _ _).drew
          clear SF
          refine held_take 0 (some 210) (v := .int .i64 j) rfl rfl (by kernel_rfl) (by kernel_rfl) (by kernel_rfl) (fun _ _ _ h => h) (.inl ⟨by kernel_rfl, fun V hV => by rfl⟩) S0 ?_
          simp only [Act.put, List.setIfInBounds_toArray, List.set_cons_zero, List.set_cons_succ]
          refine held_take 1 (some 211) (v := .string tbb) rfl rfl (by kernel_rfl) (by kernel_rfl) (by kernel_rfl) (fun _ _ _ h => h) (.inl ⟨by kernel_rfl, fun V hV => by rfl⟩) S0 ?_
          simp only [Act.put, List.setIfInBounds_toArray, List.set_cons_zero, List.set_cons_succ]
          refine held_take 4 (some 214) (v := .agg (headC k R)) rfl rfl (by kernel_rfl) (by kernel_rfl) (by kernel_rfl) (fun _ _ _ h => h) (.inl ⟨by kernel_rfl, fun V hV => by exact exec_load 38 (.tmp 25) rfl (.pointer (some ⟨gh, 0, none⟩)) (by kernel_rfl) (prf.Has.load_hd (by have := hV.s.h; rw [HL.out] at this; exact this) RL.out)⟩) S0 ?_
          simp only [Act.put, List.setIfInBounds_toArray, List.set_cons_zero, List.set_cons_succ]
          refine held_take 5 (some 215) (v := .slice wa1 wl wc1) rfl rfl (by kernel_rfl) (by kernel_rfl) (by kernel_rfl) (fun _ _ _ h => h) (.inl ⟨by kernel_rfl, fun V hV => by rfl⟩) S0 ?_
          simp only [Act.put, List.setIfInBounds_toArray, List.set_cons_zero, List.set_cons_succ]
          refine held_one (i := 2) (by kernel_rfl) ?_
          refine wpOp_call (some 212) rfl rfl (by kernel_rfl) 15 Tryd.f15 Tryd.func15 (by kernel_rfl) (by kernel_rfl) _ _ rfl #[.string tbb] (by first | (simp [Act.eval]; done) | (simp [Act.eval, Act.put]; done)) (LSB.out _) ?_
          rintro en w20 ⟨rfl, b20⟩
          have S1 := S0.below b20
          refine ⟨.agg (cellsOf qb), rfl, S1, ?_⟩
          simp only [Act.put, List.setIfInBounds_toArray, List.set_cons_zero, List.set_cons_succ]
          refine held_take 3 (some 213) (v := .agg (headC j qb)) rfl rfl (by kernel_rfl) (by kernel_rfl) (by kernel_rfl) (fun _ _ _ h => h) (.inl ⟨by kernel_rfl, fun V hV => by exact exec_head _ _ rfl j qb rfl rfl PAD.out.2⟩) S1 ?_
          simp only [Act.put, List.setIfInBounds_toArray, List.set_cons_zero, List.set_cons_succ]
          refine held_one (i := 6) (by kernel_rfl) ?_
          refine wpOp_call (some 216) rfl rfl (by kernel_rfl) 20 Tryd.f20 Tryd.func20 (by kernel_rfl) (by kernel_rfl) _ _ rfl #[.agg (headC j qb), .agg (headC k R), .slice wa1 wl wc1] (by first | (simp [Act.eval]; done) | (simp [Act.eval, Act.put]; done)) (HCC.out _ S1.ss S1.s.k.rk) ?_
          rintro en w21 ⟨e, rfl, he, b21⟩
          obtain rfl : e = .nilIface := by
            rcases he with ⟨_, h⟩ | ⟨h, _⟩
            · exact h
            · exact absurd HE0.out h
          have S2 := S1.below b21
          refine ⟨.nilIface, rfl, S2, ?_⟩
          simp only [Act.put, List.setIfInBounds_toArray, List.set_cons_zero, List.set_cons_succ]
          refine held_take 7 (some 217) (v := .bool true) rfl rfl (by kernel_rfl) (by kernel_rfl) (by kernel_rfl) (fun _ _ _ h => h) (.inl ⟨by kernel_rfl, fun V hV => by go_simp⟩) S2 ?_
          simp only [Act.put, List.setIfInBounds_toArray, List.set_cons_zero, List.set_cons_succ]
          refine held_take 8 (some 218) (v := .bool true) rfl rfl (by kernel_rfl) (by kernel_rfl) (by kernel_rfl) (fun _ _ _ h => h) (.inl ⟨by kernel_rfl, fun V hV => by rfl⟩) S2 ?_
          simp only [Act.put, List.setIfInBounds_toArray, List.set_cons_zero, List.set_cons_succ]
          refine held_take 9 (some 219) (v := .string tbb) rfl rfl (by kernel_rfl) (by kernel_rfl) (by kernel_rfl) (fun _ _ _ h => h) (.inl ⟨by kernel_rfl, fun V hV => by rfl⟩) S2 ?_
          simp only [Act.put, List.setIfInBounds_toArray, List.set_cons_zero, List.set_cons_succ]
          refine held_take 11 (some 221) (v := .agg (cellsOf Q)) rfl rfl (by kernel_rfl) (by kernel_rfl) (by kernel_rfl) (fun _ _ _ h => h) (.inl ⟨by kernel_rfl, fun V hV => by exact exec_load 33 (.tmp 36) rfl (.pointer (some ⟨g36, 0, none⟩)) (by kernel_rfl) (run_loadAt_mid V g36 0 33 (Q.map byteV) _ (Has.range hV.q) Tryd.underlying33 rfl (by rw [List.length_map, QL.out]; kernel_rfl))⟩) S2 ?_
          simp only [Act.put, List.setIfInBounds_toArray, List.set_cons_zero, List.set_cons_succ]
          refine held_one (i := 10) (by kernel_rfl) ?_
          refine wpOp_call (some 220) rfl rfl (by kernel_rfl) 15 Tryd.f15 Tryd.func15 (by kernel_rfl) (by kernel_rfl) _ _ rfl #[.string tbb] (by first | (simp [Act.eval]; done) | (simp [Act.eval, Act.put]; done)) (LSB.out _) ?_
          rintro en w22 ⟨rfl, b22⟩
          have S3 := S2.below b22
          refine ⟨.agg (cellsOf qb), rfl, S3, ?_⟩
          simp only [Act.put, List.setIfInBounds_toArray, List.set_cons_zero, List.set_cons_succ]
          refine held_take 12 (some 222) (v := .bool true) rfl rfl (by kernel_rfl) (by kernel_rfl) (by kernel_rfl) (fun _ _ _ h => h) (.inl ⟨by kernel_rfl, fun V hV => by have he2 := run_equal_sum' qb Q PAD.out.2 QL.out V; rw [HNE.out] at he2; go_simp⟩) S3 ?_
          simp only [Act.put, List.setIfInBounds_toArray, List.set_cons_zero, List.set_cons_succ]
          refine held_take 13 (some 223) (v := .bool true) rfl rfl (by kernel_rfl) (by kernel_rfl) (by kernel_rfl) (fun _ _ _ h => h) (.inl ⟨by kernel_rfl, fun V hV => by rfl⟩) S3 ?_
          simp only [Act.put, List.setIfInBounds_toArray, List.set_cons_zero, List.set_cons_succ]
          refine held_take 14 (some 44) (v := .bool true) rfl rfl (by kernel_rfl) (by kernel_rfl) (by kernel_rfl) (fun _ _ _ h => h) (.inl ⟨by kernel_rfl, fun V hV => by rfl⟩) S3 ?_
          simp only [Act.put, List.setIfInBounds_toArray, List.set_cons_zero, List.set_cons_succ]
          refine wpAnyH_done (by kernel_rfl) ?_ _
          have SG := Lib.hid S3
          clear S0 S1 S2 S3 he b20 b21 b22
          obtain ⟨hc, hx, hy⟩ := HP4.out.1 rfl
          have HI2 := Lib.hid (is_calls x4 y4 w22 SG.out.s.k.rk hx hy)
          rw [hc] at HI2
          clear hc hx hy
          have m0 : w22.cell? ⟨g42, 0, none⟩ = some (.string x4) := SG.out.p.cell 0
          have m1 : w22.cell? ⟨g42, 1, none⟩ = some (.string y4) := SG.out.p.cell 1
          go_wp2_with fail
          refine HI2.out.mono ?_
          rintro en wf ⟨rfl, bf⟩
          have SJ := Lib.hid (SG.out.s.below bf)
          clear HI2 bf SG m0 m1
          go_wp2_with fail
          refine ⟨⟨j + 1, by rw [Int.natCast_add]; rfl, by omega, SJ⟩, ?_⟩
          show k - ((j : Int) + 1).toNat < k - ((j : Int)).toNat
          omega
      · obtain rfl : ok4 = false := by rw [HOK4.out]; simp [hE0]
        have HE0 := Lib.hid hE0
        clear hE0 HOK4
        refine Go.wp_region_held (S := Sd w tb g off c L gr gh R g36 Q g42 x4 y4 (.slice wa1 wl wc1) wz.reverse) (by kernel_rfl) ?_
        have S0 := SF.out.below (Below.refl _ _).drew
        clear SF
        refine held_take 0 (some 210) (v := .int .i64 j) rfl rfl (by kernel_rfl) (by kernel_rfl) (by kernel_rfl) (fun _ _ _ h => h) (.inl ⟨by kernel_rfl, fun V hV => by rfl⟩) S0 ?_
        simp only [Act.put, List.setIfInBounds_toArray, List.set_cons_zero, List.set_cons_succ]
        refine held_take 1 (some 211) (v := .string tbb) rfl rfl (by kernel_rfl) (by kernel_rfl) (by kernel_rfl) (fun _ _ _ h => h) (.inl ⟨by kernel_rfl, fun V hV => by rfl⟩) S0 ?_
        simp only [Act.put, List.setIfInBounds_toArray, List.set_cons_zero, List.set_cons_succ]
        refine held_take 4 (some 214) (v := .agg (headC k R)) rfl rfl (by kernel_rfl) (by kernel_rfl) (by kernel_rfl) (fun _ _ _ h => h) (.inl ⟨by kernel_rfl, fun V hV => by exact exec_load 38 (.tmp 25) rfl (.pointer (some ⟨gh, 0, none⟩)) (by kernel_rfl) (prf.Has.load_hd (by have := hV.s.h; rw [HL.out] at this; exact this) RL.out)⟩) S0 ?_
        simp only [Act.put, List.setIfInBounds_toArray, List.set_cons_zero, List.set_cons_succ]
        refine held_take 5 (some 215) (v := .slice wa1 wl wc1) rfl rfl (by kernel_rfl) (by kernel_rfl) (by kernel_rfl) (fun _ _ _ h => h) (.inl ⟨by kernel_rfl, fun V hV => by rfl⟩) S0 ?_
        simp only [Act.put, List.setIfInBounds_toArray, List.set_cons_zero, List.set_cons_succ]
        refine held_one (i := 2) (by kernel_rfl) ?_
        refine wpOp_call (some 212) rfl rfl (by kernel_rfl) 15 Tryd.f15 Tryd.func15 (by kernel_rfl) (by kernel_rfl) _ _ rfl #[.string tbb] (by first | (simp [Act.eval]; done) | (simp [Act.eval, Act.put]; done)) (LSB.out _) ?_
        rintro en w20 ⟨rfl, b20⟩
        have S1 := S0.below b20
        refine ⟨.agg (cellsOf qb), rfl, S1, ?_⟩
        simp only [Act.put, List.setIfInBounds_toArray, List.set_cons_zero, List.set_cons_succ]
        refine held_take 3 (some 213) (v := .agg (headC j qb)) rfl rfl (by kernel_rfl) (by kernel_rfl) (by kernel_rfl) (fun _ _ _ h => h) (.inl ⟨by kernel_rfl, fun V hV => by exact exec_head _ _ rfl j qb rfl rfl PAD.out.2⟩) S1 ?_
        simp only [Act.put, List.setIfInBounds_toArray, List.set_cons_zero, List.set_cons_succ]
        refine held_one (i := 6) (by kernel_rfl) ?_
        refine wpOp_call (some 216) rfl rfl (by kernel_rfl) 20 Tryd.f20 Tryd.func20 (by kernel_rfl) (by kernel_rfl) _ _ rfl #[.agg (headC j qb), .agg (headC k R), .slice wa1 wl wc1] (by first | (simp [Act.eval]; done) | (simp [Act.eval, Act.put]; done)) (HCC.out _ S1.ss S1.s.k.rk) ?_
        rintro en w21 ⟨e, rfl, he, b21⟩
        obtain ⟨be, rfl⟩ : ∃ b, e = .iface 114 (.pointer (some ⟨b, 0, none⟩)) := by
          rcases he with ⟨h, _⟩ | ⟨_, b, h⟩
          · exact absurd h HE0.out
          · exact ⟨b, h⟩
        have S2 := S1.below b21
        refine ⟨.iface 114 (.pointer (some ⟨be, 0, none⟩)), rfl, S2, ?_⟩
        simp only [Act.put, List.setIfInBounds_toArray, List.set_cons_zero, List.set_cons_succ]
        refine held_take 7 (some 217) (v := .bool false) rfl rfl (by kernel_rfl) (by kernel_rfl) (by kernel_rfl) (fun _ _ _ h => h) (.inl ⟨by kernel_rfl, fun V hV => by go_simp⟩) S2 ?_
        simp only [Act.put, List.setIfInBounds_toArray, List.set_cons_zero, List.set_cons_succ]
        refine held_take 8 (some 218) (v := .bool false) rfl rfl (by kernel_rfl) (by kernel_rfl) (by kernel_rfl) (fun _ _ _ h => h) (.inl ⟨by kernel_rfl, fun V hV => by rfl⟩) S2 ?_
        simp only [Act.put, List.setIfInBounds_toArray, List.set_cons_zero, List.set_cons_succ]
        refine held_take 9 (some 219) (v := undef) rfl rfl (by kernel_rfl) (by kernel_rfl) (by kernel_rfl) (fun _ _ _ h => h) (.inr ⟨by kernel_rfl, rfl⟩) S2 ?_
        simp only [Act.put, List.setIfInBounds_toArray, List.set_cons_zero, List.set_cons_succ]
        refine held_take 10 (some 220) (v := undef) rfl rfl (by kernel_rfl) (by kernel_rfl) (by kernel_rfl) (fun _ _ _ h => h) (.inr ⟨by kernel_rfl, rfl⟩) S2 ?_
        simp only [Act.put, List.setIfInBounds_toArray, List.set_cons_zero, List.set_cons_succ]
        refine held_take 11 (some 221) (v := undef) rfl rfl (by kernel_rfl) (by kernel_rfl) (by kernel_rfl) (fun _ _ _ h => h) (.inr ⟨by kernel_rfl, rfl⟩) S2 ?_
        simp only [Act.put, List.setIfInBounds_toArray, List.set_cons_zero, List.set_cons_succ]
        refine held_take 12 (some 222) (v := undef) rfl rfl (by kernel_rfl) (by kernel_rfl) (by kernel_rfl) (fun _ _ _ h => h) (.inr ⟨by kernel_rfl, rfl⟩) S2 ?_
        simp only [Act.put, List.setIfInBounds_toArray, List.set_cons_zero, List.set_cons_succ]
        refine held_take 13 (some 223) (v := .bool false) rfl rfl (by kernel_rfl) (by kernel_rfl) (by kernel_rfl) (fun _ _ _ h => h) (.inl ⟨by kernel_rfl, fun V hV => by rfl⟩) S2 ?_
        simp only [Act.put, List.setIfInBounds_toArray, List.set_cons_zero, List.set_cons_succ]
        refine held_take 14 (some 44) (v := .bool false) rfl rfl (by kernel_rfl) (by kernel_rfl) (by kernel_rfl) (fun _ _ _ h => h) (.inl ⟨by kernel_rfl, fun V hV => by rfl⟩) S2 ?_
        simp only [Act.put, List.setIfInBounds_toArray, List.set_cons_zero, List.set_cons_succ]
        refine wpAnyH_done (by kernel_rfl) ?_ _
        have SG := Lib.hid S2
        clear S0 S1 S2 he b20 b21
        go_wp2_with fail
        refine ⟨⟨j + 1, by rw [Int.natCast_add]; rfl, by omega, Lib.hid SG.out.s⟩, ?_⟩
        show k - ((j : Int) + 1).toNat < k - ((j : Int)).toNat
        omega
    · obtain rfl : j = k := by omega
      have h1 : ¬ (j : Int) < (j : Int) := by omega
      go_wp2_with fail
      go_ret
      exact ⟨rfl, HS.out.k.bel⟩
theorem own : ownKnob Tryd.prog.godebug = none := by kernel_rfl
theorem laidOut : laidOutB Tryd.prog = true := by kernel_rfl

set_option maxRecDepth 100000 in
theorem lifted (os : Os) (started : os.Started) (H : Type) (enc : TypeId × Value → H) :
    ReturnsInHanded {} Tryd.checked os 3 .any (fun w args => (Rows.clashSureSpec.pre enc Tryd.prog Tryd.f3 [] false w args ∧ laidMetH Tryd.prog Rows.clashSureRow.laid w) ∧ sizedMet enc Tryd.prog Tryd.f3 (OpenSpec.ofChange Rows.clashSureSpec) false w args)
      (Rows.clashSureSpec.post enc Tryd.prog Tryd.f3 false true false false) := by
  refine returnsInHanded_of_change_and (C := Tryd.checked) (X := fun w _ => laidMetH Tryd.prog Rows.clashSureRow.laid w) (fun _ _ _ hh h => h.of_heap hh) own started (by kernel_rfl) Tryd.func3
    (ChangeSpec.witness_shaped (enc := enc) (C := Tryd.checked) (os := os) (X := fun w _ => laidMetH Tryd.prog Rows.clashSureRow.laid w) false (World.doorLaid Tryd.prog 31 os) #[.slice none 0 0, .int .i64 0, .int .i64 0, .int .i64 0, .string ByteArray.empty, .string ByteArray.empty, .slice none 0 0, .slice none 0 0] 8 rfl (door_shaped os _) (by kernel_rfl) (by kernel_rfl) (by kernel_rfl) (door_met os _)) ?_
  intro W base args ds gs before hval0 hW _ _ hL _
  have hval : ∀ (j : Nat) t v, Tryd.f3.params[j]? = some t → args[j]? = some v → Value.okWide Tryd.prog W .any base t v := hval0
  have hW' := hW
  obtain ⟨p, q, hA0, hV, rfl, _, _⟩ := hW
  have hA : DataW.TrodAll enc Tryd.prog W 0 (fun _ => true) true Tryd.f3.params.toList args.toList ds p := hA0
  rw [Tryd.params3] at hA hval
  obtain ⟨v0, vs0, d0, ds0, p0, q0, hargs, rfl, rfl, h0, r0⟩ := trodAll_cons hA
  obtain ⟨v1, vs1, d1, ds1, p1, q1, rfl, rfl, rfl, h1, r1⟩ := trodAll_cons r0
  obtain ⟨v2, vs2, d2, ds2, p2, q2, rfl, rfl, rfl, h2, r2⟩ := trodAll_cons r1
  obtain ⟨v3, vs3, d3, ds3, p3, q3, rfl, rfl, rfl, h3, r3⟩ := trodAll_cons r2
  obtain ⟨v4, vs4, d4, ds4, p4, q4, rfl, rfl, rfl, h4, r4⟩ := trodAll_cons r3
  obtain ⟨v5, vs5, d5, ds5, p5, q5, rfl, rfl, rfl, h5, r5⟩ := trodAll_cons r4
  obtain ⟨v6, vs6, d6, ds6, p6, q6, rfl, rfl, rfl, h6, r6⟩ := trodAll_cons r5
  obtain ⟨v7, vs7, d7, ds7, p7, q7, rfl, rfl, rfl, h7, r7⟩ := trodAll_cons r6
  obtain ⟨rfl, rfl, rfl⟩ := trodAll_nil r7
  obtain rfl : args = #[v0, v1, v2, v3, v4, v5, v6, v7] := by cases args; simp_all
  obtain ⟨rfl, rfl⟩ := trodVars_none hV
  obtain ⟨a0, len0, cap0, rfl⟩ := okWide_slice Tryd.underlying22 (hval 0 22 v0 rfl rfl)
  have k0 := h0
  have lt0 : ∀ x ∈ p0, x.block < W.heap.size := by obtain ⟨m, hm⟩ := k0; exact DataW.trod_lt m _ _ _ hm
  have w0 : Arg0 W a0 len0 cap0 := opened0 h0
  obtain ⟨a1, rfl, rfl, rfl, w1⟩ := open_int Tryd.underlying3 (hval 1 3 v1 rfl rfl) h1
  obtain ⟨a2, rfl, rfl, rfl, w2⟩ := open_int Tryd.underlying3 (hval 2 3 v2 rfl rfl) h2
  obtain ⟨a3, rfl, rfl, rfl, w3⟩ := open_int Tryd.underlying3 (hval 3 3 v3 rfl rfl) h3
  obtain ⟨a4, rfl, rfl, rfl, w4⟩ := open_string Tryd.underlying9 (hval 4 9 v4 rfl rfl) h4
  obtain ⟨a5, rfl, rfl, rfl, w5⟩ := open_string Tryd.underlying9 (hval 5 9 v5 rfl rfl) h5
  obtain ⟨a6, len6, cap6, rfl⟩ := okWide_slice Tryd.underlying22 (hval 6 22 v6 rfl rfl)
  have k6 := h6
  have lt6 : ∀ x ∈ p6, x.block < W.heap.size := by obtain ⟨m, hm⟩ := k6; exact DataW.trod_lt m _ _ _ hm
  have w6 : Arg6 W a6 len6 cap6 := opened6 h6
  obtain ⟨a7, len7, cap7, rfl⟩ := okWide_slice Tryd.underlying22 (hval 7 22 v7 rfl rfl)
  have k7 := h7
  have lt7 : ∀ x ∈ p7, x.block < W.heap.size := by obtain ⟨m, hm⟩ := k7; exact DataW.trod_lt m _ _ _ hm
  have w7 : Arg7 W a7 len7 cap7 := opened7 h7
  clear hA0 hval0
  refine (walk a0 len0 cap0 a1 a2 a3 a4 a5 a6 len6 cap6 a7 len7 cap7 W w0 w1 w2 w3 w4 w5 w6 w7 (rt_of_laid (rest := []) hL)).mono fun e W' ⟨he, bel⟩ => ?_
  subst he
  exact ⟨_, rfl, _, _, _, [], _, [], hW', trodAll_mk1 (shut_bool Tryd.underlying4 _), (trodAll_cons_mk (Below.trod laidOut (by kernel_rfl) (of_decide_eq_true (by kernel_rfl)) k0 bel lt0) (trodAll_cons_mk (shut_int Tryd.underlying3 w1) (trodAll_cons_mk (shut_int Tryd.underlying3 w2) (trodAll_cons_mk (shut_int Tryd.underlying3 w3) (trodAll_cons_mk (shut_string Tryd.underlying9 w4) (trodAll_cons_mk (shut_string Tryd.underlying9 w5) (trodAll_cons_mk (Below.trod laidOut (by kernel_rfl) (of_decide_eq_true (by kernel_rfl)) k6 bel lt6) (trodAll_cons_mk (Below.trod laidOut (by kernel_rfl) (of_decide_eq_true (by kernel_rfl)) k7 bel lt7) trodAll_mk0)))))))), rfl, bel.frame _, fun h => by cases h⟩

theorem over : Rows.clashSureRow.holds Tryd.pinned (OpenSpec.ofChange Rows.clashSureSpec) :=
  OpenClaim.holds_of_wide 3 Tryd.f3 rfl rfl rfl rfl rfl rfl rfl ⟨rfl, rfl, rfl, rfl, rfl⟩ rfl rfl rfl rfl rfl (by kernel_rfl) Tryd.func3 (by kernel_rfl)
    (of_decide_eq_true (by kernel_rfl)) (by unfold Func.isWrapper; first | (rw [if_pos (by decide +kernel)]; kernel_rfl) | (rw [if_neg (by decide +kernel)]; exact ⟨rfl, rfl⟩))
    (fun os started H enc _ => lifted os started H enc)

theorem plain (f : FuncId) (fn : Func) (hf : Tryd.pinned.checked.prog.funcNamed "hindsight/hindsightlaw11.ClashSure" = some f) (hfn : Tryd.pinned.checked.prog.funcs[f]? = some fn) :
    (true : Bool) = Tryd.pinned.checked.prog.looks [] ∧ ∀ (j : Nat) t, fn.params[j]? = some t → Tryd.pinned.checked.prog.wantsStandIn t = false := by
  obtain rfl : f = 3 := Option.some.inj ((show Tryd.prog.funcNamed "hindsight/hindsightlaw11.ClashSure" = some 3 by kernel_rfl).symm.trans hf) |>.symm
  obtain rfl : fn = Tryd.f3 := (Option.some.inj (Tryd.func3.symm.trans hfn)).symm
  refine ⟨by kernel_rfl, fun j t ht => ?_⟩
  rw [Tryd.params3] at ht
  have hm := Array.mem_of_getElem? ht
  simp only [List.mem_toArray, List.mem_cons, List.not_mem_nil, or_false] at hm
  rcases hm with rfl | rfl | rfl | rfl | rfl | rfl | rfl | rfl
  · exact (show Tryd.prog.wantsStandIn 22 = false by kernel_rfl)
  · exact (show Tryd.prog.wantsStandIn 3 = false by kernel_rfl)
  · exact (show Tryd.prog.wantsStandIn 3 = false by kernel_rfl)
  · exact (show Tryd.prog.wantsStandIn 3 = false by kernel_rfl)
  · exact (show Tryd.prog.wantsStandIn 9 = false by kernel_rfl)
  · exact (show Tryd.prog.wantsStandIn 9 = false by kernel_rfl)
  · exact (show Tryd.prog.wantsStandIn 22 = false by kernel_rfl)
  · exact (show Tryd.prog.wantsStandIn 22 = false by kernel_rfl)

theorem card : Rows.ClashSureCardSaid :=
  Claim7.holds_tied_plain_at .later [] _ _ _ _ over (fun _ h => by cases h) (by kernel_rfl) (fun _ h => by cases h) clashSure_row_tie rfl ⟨rfl, rfl⟩ (by kernel_rfl) rfl plain (by kernel_rfl)

theorem proved : Rows.ClashSureCardSaid := card

end Go.Proofs.YthbncejbcegmgaaDoor.clashSure
