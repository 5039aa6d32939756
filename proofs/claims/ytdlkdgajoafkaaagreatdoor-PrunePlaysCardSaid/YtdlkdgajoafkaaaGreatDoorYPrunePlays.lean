/- PrunePlays: for every list of acts the law answers true, and its argument reads afterwards as it did. Conditions: the row lists four package-level variables (digest's table of rounds, both tables of math/bits, errors.errorType), which the card ties to the program's text. -/
import Derived.Test.YtdlkdgajoafkaaaGreatDoorY008
import Derived.Test.YtdlkdgajoafkaaaGreatDoorY012
import Derived.Test.YtdlkdgajoafkaaaGreatDoorY013
import Derived.Test.YtdlkdgajoafkaaaGreatDoorCards
import Derived.Test.YtdlkdgajoafkaaaGreatDoorTie
import Derived.ProofKit
import Derived.OpenShut
import Derived.SevenTiedAt
namespace Go.Proofs.YtdlkdgajoafkaaaGreatDoor.prunePlays
open Go Go.ChangeShapes Go.WideShapes Go.ChangeAt Go.RowKit Go.Proofs.YtdlkdgajoafkaaaGreatDoor.dig Go.Proofs.YtdlkdgajoafkaaaGreatDoor.prn Go.Proofs.YtdlkdgajoafkaaaGreatDoor.prf

def Arg0 (w : World) (a : Option Addr) (len _cap : Nat) : Prop := ∃ T, ArgP w a len T
theorem opened0 {H : Type} {enc : TypeId × Value → H} {w : World} {spare : Nat → Bool} {held : Bool} {a : Option Addr} {len cap : Nat} {d : DataW H} {p : List MemPlace} (h : DataW.Trod enc Tryz.prog w 0 spare held 22 (.slice a len cap) d p) : Arg0 w a len cap := openedP h

/-- What lasts in the loop. -/
def Lp (w : World) (B g vb i : Nat) (W : World) : Prop := ∃ a c L fl, Dx B ⟨w, g, #[.slice a (L : List ByteArray).length c, .int .i64 (fl : Nat)]⟩ vb (.slice a L.length c) L fl W ∧ L.length ≤ i
theorem boxed_aux {B : Nat} {w : World} {g : Nat} {C C' : Array Value} {vb : Nat} {v : Value} {L : List ByteArray} {fl : Nat} {W : World} (h : Dx B ⟨w, g, C⟩ vb v L fl W) (hg : w.heap.size ≤ g ∧ B ≤ g) : Dx B ⟨w, g, C'⟩ vb v L fl (W.setRow g C') := by
  have t := turn_row W g C'
  obtain ⟨F, h1, h2, h3, h5⟩ := h.va
  have hp : Has W g 28 C := h.pr
  exact ⟨⟨F, h1.turn t (fun k hk _ e => h5 (by subst e; exact hk)) (fun k e => by omega), fun j hj => Nat.lt_of_lt_of_le (h2 j hj) t.size, h3, h5⟩, h.bel.trans (t.below h.bel.size (fun j hj e => by have := hg.1; have hj' : j < w.heap.size := hj; omega)), h.lo, hp.row _, ⟨h.dc.1.turn t (fun x hx e => h.dc.1.ne hp (by decide) (by rw [hx, e])), h.dc.2⟩⟩

set_option maxRecDepth 100000 in
set_option maxHeartbeats 4000000 in
theorem walk (a : Option Addr) (len cap : Nat) (w : World) (hA : Arg0 w a len cap) (hP : Pw w) :
    Calls Tryz.prog 3 #[.slice a len cap] w fun en w' => en = .returned (.bool true) ∧ Below w.heap.size w w' := by
  obtain ⟨T, hT⟩ := hA
  have HT := Lib.hid hT
  have hlc2 : (len : Int) ≤ 9223372036854775807 := by have := hT.1; unfold maxLen at this; omega
  have HP := Lib.hid hP
  clear hT hP
  go_enter Tryz.func3, Tryz.ntmps3
  go_wp2_with fail
  refine (awake_calls w HP.out).mono ?_
  rintro en w1 ⟨rfl, b1⟩
  have R1 : Hid (Pw w1 ∧ Below w.heap.size w w1) := Lib.hid ⟨HP.out.below b1, b1⟩
  clear b1
  go_wp2_with fail
  refine (vnew_calls w1.heap.size w1 R1.out.1.rt).mono ?_
  rintro en w2 ⟨vb0, rfl, hvb, v2, b2⟩
  have R2 := Lib.hid (show _ ∧ _ from ⟨v2, b2⟩)
  clear v2 b2 hvb
  go_wp2_with fail
  obtain ⟨g, hg⟩ : ∃ g, g = w2.heap.size := ⟨_, rfl⟩
  obtain ⟨B0, hB0⟩ : ∃ B0, B0 = w1.heap.size := ⟨_, rfl⟩
  go_name_world W hW
  have HG : Hid (w.heap.size ≤ g ∧ B0 ≤ g) := Lib.hid (by rw [hg, hB0]; exact ⟨Nat.le_trans R1.out.2.size R2.out.2.size, R2.out.2.size⟩)
  have S0 : Hid (Lp w B0 g vb0 0 W) := Lib.hid (by
    have b3 : Below w2.heap.size w2 W := by rw [← hW]; exact (Below.refl _ _).alloc (Nat.le_refl _) _
    have hp : Has W g 28 #[.slice none 0 0, .int .i64 0] := by rw [← hW]; exact made_at _ _ hg
    refine ⟨none, 0, [], 0, ⟨⟨_, (R2.out.1.fresh w1.heap.size (fun _ h _ => h) (Nat.le_refl _)).below b3 |> fun h => hB0 ▸ h, fun j hj => Nat.lt_of_lt_of_le hj.2 b3.size, (fun x hx => by cases hx), fun e => by have := e.2; have : g = w2.heap.size := hg; show False; simp at *; omega⟩, (R1.out.2.trans (R2.out.2.mono R1.out.2.size)).trans (b3.mono (Nat.le_trans R1.out.2.size R2.out.2.size)), by show w.heap.size ≤ B0; rw [hB0]; exact R1.out.2.size, hp, ⟨Seg.nil _ _ _, fun s hs => by cases hs⟩⟩, Nat.le_refl _⟩)
  rw [← hg]
  clear hW R2 hg
  have HB0 := Lib.hid hB0
  clear hB0
  go_loopw [3, 5, 6] (fun v s _ wr => ∃ vb i : Nat, v = .pointer (some ⟨vb, 0, none⟩) ∧ s = .int .i64 i ∧ i ≤ 40 ∧ Hid (Lp w B0 g vb i wr)) (fun _ s _ _ => 40 - (intOf s).toNat)
  case atStart => exact ⟨vb0, 0, rfl, rfl, by omega, S0⟩
  case round =>
    obtain ⟨vb, i, rfl, rfl, hi, HS⟩ := hrel
    have hi0 : (0 : Int) ≤ (i : Int) := by omega
    by_cases hik : i < len ∧ i < 40
    · obtain ⟨hi1, hi2⟩ := hik
      have hi3 : (i : Int) < (len : Int) := by omega
      have hi4 : (i : Int) < 40 := by omega
      have i1 : IntKind.i64.wrap ((i : Int) + 1) = (i : Int) + 1 := IntWalk.i64_in _ ⟨by omega, by omega⟩
      obtain ⟨xa, xc, L, fl, hx, hl⟩ := HS.out
      obtain ⟨b, o, ha, hb, hf, d0, d1, d2, d3⟩ := HT.out.at hx.bel hi1
      subst ha
      obtain ⟨x, hxx⟩ : ∃ x, x = T i := ⟨_, rfl⟩
      rw [← hxx] at hf d0 d1 d2 d3
      have HLL := Lib.hid hl
      have HX := Lib.hid (show _ ∧ _ from ⟨hx, hf⟩)
      have HD : Hid (∀ V, Dx B0 ⟨w, g, #[.slice xa L.length xc, .int .i64 fl]⟩ vb (.slice xa L.length xc) L fl V → Calls Tryz.prog 6 #[.pointer (some ⟨vb, 0, none⟩), .agg #[.slice xa L.length xc, .int .i64 fl], .agg #[.int .i64 x.kind, .int .i64 x.m, .int .i64 x.n, .string x.s]] V (DoPost B0 ⟨w, g, #[.slice xa L.length xc, .int .i64 fl]⟩ L)) := Lib.hid fun V hV =>
        does_all (w0 := ⟨w, g, _⟩) HP.out vb xa xc fl x.kind x.m x.n x.s L V HX.out.2.2 (by have := HLL.out; omega) HX.out.2.1 hV (by have h1 : g < V.heap.size := hV.pr.lt; have := HG.out.2; omega)
      clear hx hf hl hxx HS
      go_wp2_with fail
      refine wp_region_any (by kernel_rfl) ?_
      refine AnyL.any (S := fun V => Has V g 28 #[.slice xa L.length xc, .int .i64 fl] ∧ (V.cell? ⟨b, o + i * 4, none⟩ = some (.int .i64 x.kind) ∧ V.cell? ⟨b, o + i * 4 + 1, none⟩ = some (.int .i64 x.m) ∧ V.cell? ⟨b, o + i * 4 + 2, none⟩ = some (.int .i64 x.n) ∧ V.cell? ⟨b, o + i * 4 + 3, none⟩ = some (.string x.s)) ∧ Dx B0 ⟨w, g, #[.slice xa L.length xc, .int .i64 fl]⟩ vb (.slice xa L.length xc) L fl V) (Wr := [6]) _ _ _ _ ⟨HX.out.1.pr.drew, ⟨d0, d1, d2, d3⟩, HX.out.1.below (Below.refl _ _).drew⟩ ?_
      refine AnyL.pure 0 (some 22) (v := .pointer (some ⟨vb, 0, none⟩)) rfl rfl (by kernel_rfl) (by kernel_rfl) (by kernel_rfl) (fun _ _ _ h => h) (by kernel_rfl) (by kernel_rfl) (fun V hV => by go_simp) ?_
      simp only [Act.put, List.setIfInBounds_toArray, List.set_cons_zero, List.set_cons_succ]
      refine AnyL.pure 1 (some 23) (v := .agg #[.slice xa L.length xc, .int .i64 fl]) rfl rfl (by kernel_rfl) (by kernel_rfl) (by kernel_rfl) (fun _ _ _ h => h) (by kernel_rfl) (by kernel_rfl) (fun V hV => by have c0 := hV.1.cell 0; have c1 := hV.1.cell 1; simp at c0 c1; go_simp) ?_
      simp only [Act.put, List.setIfInBounds_toArray, List.set_cons_zero, List.set_cons_succ]
      refine AnyL.pure 2 (some 24) (v := .slice (some ⟨b, o, none⟩) len cap) rfl rfl (by kernel_rfl) (by kernel_rfl) (by kernel_rfl) (fun _ _ _ h => h) (by kernel_rfl) (by kernel_rfl) (fun V hV => by go_simp) ?_
      simp only [Act.put, List.setIfInBounds_toArray, List.set_cons_zero, List.set_cons_succ]
      refine AnyL.pure 3 (some 25) (v := .int .i64 i) rfl rfl (by kernel_rfl) (by kernel_rfl) (by kernel_rfl) (fun _ _ _ h => h) (by kernel_rfl) (by kernel_rfl) (fun V hV => by go_simp) ?_
      simp only [Act.put, List.setIfInBounds_toArray, List.set_cons_zero, List.set_cons_succ]
      refine AnyL.pure 4 (some 26) (v := .pointer (some ⟨b, o + i * 4, none⟩)) rfl rfl (by kernel_rfl) (by kernel_rfl) (by kernel_rfl) (fun _ _ _ h => h) (by kernel_rfl) (by kernel_rfl) (fun V hV => by go_simp) ?_
      simp only [Act.put, List.setIfInBounds_toArray, List.set_cons_zero, List.set_cons_succ]
      refine AnyL.pure 5 (some 27) (v := .agg #[.int .i64 x.kind, .int .i64 x.m, .int .i64 x.n, .string x.s]) rfl rfl (by kernel_rfl) (by kernel_rfl) (by kernel_rfl) (fun _ _ _ h => h) (by kernel_rfl) (by kernel_rfl) (fun V hV => by obtain ⟨d0, d1, d2, d3⟩ := hV.2.1; go_simp) ?_
      simp only [Act.put, List.setIfInBounds_toArray, List.set_cons_zero, List.set_cons_succ]
      refine AnyL.late (i := 6) (by kernel_rfl) (by decide) (fun V hV => ?_)
      refine wpOp_call (some 28) rfl rfl (by kernel_rfl) 6 Tryz.f6 Tryz.func6 (by kernel_rfl) (by kernel_rfl) _ _ rfl #[.pointer (some ⟨vb, 0, none⟩), .agg #[.slice xa L.length xc, .int .i64 fl], .agg #[.int .i64 x.kind, .int .i64 x.m, .int .i64 x.n, .string x.s]] (by first | (simp [Act.eval]; done) | (simp [Act.eval, Act.put]; done)) (HD.out V hV.2.2) ?_
      rintro en w5 ⟨vb5, v5, L5, fl5, rfl, hx5, hl5⟩
      refine ⟨_, rfl, ?_⟩
      obtain ⟨a5, c5, rfl, _, _⟩ := hx5.dc.1.slice
      unfold dvC
      simp only [Act.put, List.setIfInBounds_toArray, List.set_cons_zero, List.set_cons_succ]
      refine any_take 7 (some 21) (v := .tuple #[.pointer (some ⟨vb5, 0, none⟩), .agg #[.slice a5 L5.length c5, .int .i64 fl5], .bool true]) rfl rfl (by kernel_rfl) (by kernel_rfl) (by kernel_rfl) (fun _ _ _ h => h) (by kernel_rfl) (fun V => by go_simp) ?_
      simp only [Act.put, List.setIfInBounds_toArray, List.set_cons_zero, List.set_cons_succ]
      refine any_take 8 (some 29) (v := .pointer (some ⟨vb5, 0, none⟩)) rfl rfl (by kernel_rfl) (by kernel_rfl) (by kernel_rfl) (fun _ _ _ h => h) (by kernel_rfl) (fun V => by go_simp) ?_
      simp only [Act.put, List.setIfInBounds_toArray, List.set_cons_zero, List.set_cons_succ]
      refine any_take 9 (some 30) (v := .agg #[.slice a5 L5.length c5, .int .i64 fl5]) rfl rfl (by kernel_rfl) (by kernel_rfl) (by kernel_rfl) (fun _ _ _ h => h) (by kernel_rfl) (fun V => by go_simp) ?_
      simp only [Act.put, List.setIfInBounds_toArray, List.set_cons_zero, List.set_cons_succ]
      refine any_take 10 (some 31) (v := .bool true) rfl rfl (by kernel_rfl) (by kernel_rfl) (by kernel_rfl) (fun _ _ _ h => h) (by kernel_rfl) (fun V => by go_simp) ?_
      simp only [Act.put, List.setIfInBounds_toArray, List.set_cons_zero, List.set_cons_succ]
      refine any_take 11 (some 3) (v := .pointer (some ⟨vb5, 0, none⟩)) rfl rfl (by kernel_rfl) (by kernel_rfl) (by kernel_rfl) (fun _ _ _ h => h) (by kernel_rfl) (fun V => by go_simp) ?_
      simp only [Act.put, List.setIfInBounds_toArray, List.set_cons_zero, List.set_cons_succ]
      refine any_one (i := 12) (by kernel_rfl) ?_
      refine wpOp_wp (o := ⟨none, _, _, _, _, _⟩) rfl (by kernel_rfl) ?_
      refine wp_store_row 28 (.tmp 4) (.tmp 30) rfl g #[.slice a5 L5.length c5, .int .i64 fl5] (by first | rfl | simp [Act.eval]) (by first | rfl | simp [Act.eval]) 28 _ hx5.pr (by kernel_rfl) rfl (by simp [Value.oneCell']) ?_
      try simp only [Act.put]
      have R5 := Lib.hid (boxed_aux (C' := #[.slice a5 L5.length c5, .int .i64 fl5]) hx5 HG.out)
      have HL5 : Hid (L5.length ≤ i + 1) := Lib.hid (by have := HLL.out; omega)
      clear hx5 hl5
      refine any_take 13 (some 6) (v := .bool true) rfl rfl (by kernel_rfl) (by kernel_rfl) (by kernel_rfl) (fun _ _ _ h => h) (by kernel_rfl) (fun V => by go_simp) ?_
      simp only [Act.put, List.setIfInBounds_toArray, List.set_cons_zero, List.set_cons_succ]
      refine wpAny_done (by kernel_rfl) ?_ _
      try simp only [Act.put]
      go_wp2_with fail
      refine wp_region_S (S := Dx B0 ⟨w, g, #[.slice a5 L5.length c5, .int .i64 fl5]⟩ vb5 (.slice a5 L5.length c5) L5 fl5) (by kernel_rfl) (R5.out.below (Below.refl _ _).drew) ?_
      refine AnyS.pure 0 (some 32) rfl rfl (by kernel_rfl) (by kernel_rfl) (by kernel_rfl) (fun _ _ _ h => h) (by kernel_rfl) (fun _ _ => rfl) ?_
      refine AnyS.pure 1 (some 33) (v := .bool false) rfl rfl (by kernel_rfl) (by kernel_rfl) (by kernel_rfl) (fun _ _ _ h => h) (by kernel_rfl) (fun V hV => by go_simp) ?_
      simp only [Act.put, List.setIfInBounds_toArray, List.set_cons_zero, List.set_cons_succ]
      refine AnyS.pure 2 (some 34) rfl rfl (by kernel_rfl) (by kernel_rfl) (by kernel_rfl) (fun _ _ _ h => h) (by kernel_rfl) (fun _ _ => rfl) ?_
      refine AnyS.pure 3 (some 35) rfl rfl (by kernel_rfl) (by kernel_rfl) (by kernel_rfl) (fun _ _ _ h => h) (by kernel_rfl) (fun _ _ => rfl) ?_
      simp only [Act.put, List.setIfInBounds_toArray, List.set_cons_zero, List.set_cons_succ]
      refine AnyS.pure 4 (some 36) (v := .bool false) rfl rfl (by kernel_rfl) (by kernel_rfl) (by kernel_rfl) (fun _ _ _ h => h) (by kernel_rfl) (fun V hV => by go_simp) ?_
      refine AnyS.pure 5 (some 37) (v := .bool false) rfl rfl (by kernel_rfl) (by kernel_rfl) (by kernel_rfl) (fun _ _ _ h => h) (by kernel_rfl) (fun V hV => by go_simp) ?_
      simp only [Act.put, List.setIfInBounds_toArray, List.set_cons_zero, List.set_cons_succ]
      refine AnyS.pure 6 (some 38) rfl rfl (by kernel_rfl) (by kernel_rfl) (by kernel_rfl) (fun _ _ _ h => h) (by kernel_rfl) (fun _ _ => rfl) ?_
      refine AnyS.pure 7 (some 39) rfl rfl (by kernel_rfl) (by kernel_rfl) (by kernel_rfl) (fun _ _ _ h => h) (by kernel_rfl) (fun _ _ => rfl) ?_
      simp only [Act.put, List.setIfInBounds_toArray, List.set_cons_zero, List.set_cons_succ]
      refine AnyS.call 8 (some 40) (.int .i64 L5.length) rfl rfl (by kernel_rfl) (by kernel_rfl) (by kernel_rfl) (fun _ _ _ h => h) (by kernel_rfl) 7 Tryz.f7 Tryz.func7 (by kernel_rfl) (by kernel_rfl) _ _ rfl #[.pointer (some ⟨vb5, 0, none⟩)] (by first | (simp [Act.eval]; done) | (simp [Act.eval, Act.put]; done)) (fun V hV => (by obtain ⟨F, h1, _⟩ := hV.va; exact h1.len_calls.mono fun _ _ h => ⟨h.1, h.2 ▸ hV⟩)) ?_
      refine AnyS.pure 9 (some 41) (v := .pointer (some ⟨g, 0, none⟩)) rfl rfl (by kernel_rfl) (by kernel_rfl) (by kernel_rfl) (fun _ _ _ h => h) (by kernel_rfl) (fun V hV => by go_simp) ?_
      simp only [Act.put, List.setIfInBounds_toArray, List.set_cons_zero, List.set_cons_succ]
      refine AnyS.pure 10 (some 42) (v := .slice a5 L5.length c5) rfl rfl (by kernel_rfl) (by kernel_rfl) (by kernel_rfl) (fun _ _ _ h => h) (by kernel_rfl) (fun V hV => by have c0 := hV.pr.cell 0; simp at c0; go_simp) ?_
      refine AnyS.pure 11 (some 43) (v := .int .i64 L5.length) rfl rfl (by kernel_rfl) (by kernel_rfl) (by kernel_rfl) (fun _ _ _ h => h) (by kernel_rfl) (fun V hV => by go_simp) ?_
      simp only [Act.put, List.setIfInBounds_toArray, List.set_cons_zero, List.set_cons_succ]
      refine AnyS.pure 12 (some 44) (v := .bool false) rfl rfl (by kernel_rfl) (by kernel_rfl) (by kernel_rfl) (fun _ _ _ h => h) (by kernel_rfl) (fun V hV => by go_simp) ?_
      refine AnyS.pure 13 (some 45) (v := .bool false) rfl rfl (by kernel_rfl) (by kernel_rfl) (by kernel_rfl) (fun _ _ _ h => h) (by kernel_rfl) (fun V hV => by go_simp) ?_
      simp only [Act.put, List.setIfInBounds_toArray, List.set_cons_zero, List.set_cons_succ]
      refine AnyS.pure 14 (some 46) rfl rfl (by kernel_rfl) (by kernel_rfl) (by kernel_rfl) (fun _ _ _ h => h) (by kernel_rfl) (fun _ _ => rfl) ?_
      refine AnyS.pure 15 (some 47) rfl rfl (by kernel_rfl) (by kernel_rfl) (by kernel_rfl) (fun _ _ _ h => h) (by kernel_rfl) (fun _ _ => rfl) ?_
      simp only [Act.put, List.setIfInBounds_toArray, List.set_cons_zero, List.set_cons_succ]
      refine AnyS.call 16 (some 48) (.int .i64 fl5) rfl rfl (by kernel_rfl) (by kernel_rfl) (by kernel_rfl) (fun _ _ _ h => h) (by kernel_rfl) 8 Tryz.f8 Tryz.func8 (by kernel_rfl) (by kernel_rfl) _ _ rfl #[.pointer (some ⟨vb5, 0, none⟩)] (by first | (simp [Act.eval]; done) | (simp [Act.eval, Act.put]; done)) (fun V hV => (by obtain ⟨F, h1, _⟩ := hV.va; exact h1.floor_calls.mono fun _ _ h => ⟨h.1, h.2 ▸ hV⟩)) ?_
      refine AnyS.pure 17 (some 49) (v := .pointer (some ⟨g, 1, none⟩)) rfl rfl (by kernel_rfl) (by kernel_rfl) (by kernel_rfl) (fun _ _ _ h => h) (by kernel_rfl) (fun V hV => by go_simp) ?_
      simp only [Act.put, List.setIfInBounds_toArray, List.set_cons_zero, List.set_cons_succ]
      refine AnyS.pure 18 (some 50) (v := .int .i64 fl5) rfl rfl (by kernel_rfl) (by kernel_rfl) (by kernel_rfl) (fun _ _ _ h => h) (by kernel_rfl) (fun V hV => by have c1 := hV.pr.cell 1; simp at c1; go_simp) ?_
      refine AnyS.pure 19 (some 51) (v := .bool false) rfl rfl (by kernel_rfl) (by kernel_rfl) (by kernel_rfl) (fun _ _ _ h => h) (by kernel_rfl) (fun V hV => by go_simp) ?_
      simp only [Act.put, List.setIfInBounds_toArray, List.set_cons_zero, List.set_cons_succ]
      refine AnyS.pure 20 (some 52) (v := .bool false) rfl rfl (by kernel_rfl) (by kernel_rfl) (by kernel_rfl) (fun _ _ _ h => h) (by kernel_rfl) (fun V hV => by go_simp) ?_
      simp only [Act.put, List.setIfInBounds_toArray, List.set_cons_zero, List.set_cons_succ]
      refine AnyS.done (by kernel_rfl) (fun V hV => ?_) _
      have R6 := Lib.hid hV
      clear hV R5
      go_wp2_with fail
      have hcs : Value.int .i64 ((i : Int) + 1) = .int .i64 ((i + 1 : Nat) : Int) := by rw [Int.natCast_add]; rfl
      refine ⟨⟨vb5, i + 1, rfl, hcs, by omega, Lib.hid ⟨_, _, _, _, R6.out, HL5.out⟩⟩, ?_⟩
      show 40 - ((i : Int) + 1).toNat < 40 - ((i : Int)).toNat
      omega
    · have hfin : ∃ r : Bool, r = true := ⟨true, rfl⟩
      clear hfin
      obtain ⟨xa, xc, L, fl, hx, hl⟩ := HS.out
      have HB := Lib.hid hx.bel
      clear hx hl HS
      by_cases hi1 : i < len
      · have hi3 : (i : Int) < (len : Int) := by omega
        have hi4 : ¬ (i : Int) < 40 := by omega
        go_wp2_with fail
        go_ret
        exact ⟨rfl, HB.out⟩
      · have hi3 : ¬ (i : Int) < (len : Int) := by omega
        go_wp2_with fail
        go_ret
        exact ⟨rfl, HB.out⟩

theorem own : ownKnob Tryz.prog.godebug = none := by kernel_rfl
theorem laidOut : laidOutB Tryz.prog = true := by kernel_rfl

set_option maxRecDepth 100000 in
theorem lifted (os : Os) (started : os.Started) (H : Type) (enc : TypeId × Value → H) :
    ReturnsInHanded {} Tryz.checked os 3 .any (fun w args => (Rows.prunePlaysSpec.pre enc Tryz.prog Tryz.f3 [] false w args ∧ laidMetH Tryz.prog Rows.prunePlaysRow.laid w) ∧ sizedMet enc Tryz.prog Tryz.f3 (OpenSpec.ofChange Rows.prunePlaysSpec) false w args)
      (Rows.prunePlaysSpec.post enc Tryz.prog Tryz.f3 false true false false) := by
  refine returnsInHanded_of_change_and (C := Tryz.checked) (X := fun w _ => laidMetH Tryz.prog Rows.prunePlaysRow.laid w) (fun _ _ _ hh h => h.of_heap hh) own started (by kernel_rfl) Tryz.func3
    (ChangeSpec.witness_shaped (enc := enc) (C := Tryz.checked) (os := os) (X := fun w _ => laidMetH Tryz.prog Rows.prunePlaysRow.laid w) false (World.doorLaid Tryz.prog 31 os) #[.slice none 0 0] 8 rfl (door_shaped os _) (by kernel_rfl) (by kernel_rfl) (by kernel_rfl) (door_met os _)) ?_
  intro W base args ds gs before hval0 hW _ _ hL _
  have hval : ∀ (j : Nat) t v, Tryz.f3.params[j]? = some t → args[j]? = some v → Value.okWide Tryz.prog W .any base t v := hval0
  have hW' := hW
  obtain ⟨p, q, hA0, hV, rfl, _, _⟩ := hW
  have hA : DataW.TrodAll enc Tryz.prog W 0 (fun _ => true) true Tryz.f3.params.toList args.toList ds p := hA0
  rw [Tryz.params3] at hA hval
  obtain ⟨v0, vs0, d0, ds0, p0, q0, hargs, rfl, rfl, h0, r0⟩ := trodAll_cons hA
  obtain ⟨rfl, rfl, rfl⟩ := trodAll_nil r0
  obtain rfl : args = #[v0] := by cases args; simp_all
  obtain ⟨rfl, rfl⟩ := trodVars_none hV
  obtain ⟨a0, len0, cap0, rfl⟩ := okWide_slice Tryz.underlying22 (hval 0 22 v0 rfl rfl)
  have k0 := h0
  have lt0 : ∀ x ∈ p0, x.block < W.heap.size := by obtain ⟨m, hm⟩ := k0; exact DataW.trod_lt m _ _ _ hm
  have w0 : Arg0 W a0 len0 cap0 := opened0 h0
  clear hA0 hval0
  refine (walk a0 len0 cap0 W w0 (pw_of_laid hL)).mono fun e W' ⟨he, bel⟩ => ?_
  subst he
  exact ⟨_, rfl, _, _, _, [], _, [], hW', trodAll_mk1 (shut_bool Tryz.underlying4 _), (trodAll_cons_mk (Below.trod laidOut (by kernel_rfl) (of_decide_eq_true (by kernel_rfl)) k0 bel lt0) trodAll_mk0), rfl, bel.frame _, fun h => by cases h⟩

theorem over : Rows.prunePlaysRow.holds Tryz.pinned (OpenSpec.ofChange Rows.prunePlaysSpec) :=
  OpenClaim.holds_of_wide 3 Tryz.f3 rfl rfl rfl rfl rfl rfl rfl ⟨rfl, rfl, rfl, rfl, rfl⟩ rfl rfl rfl rfl rfl (by kernel_rfl) Tryz.func3 (by kernel_rfl)
    (of_decide_eq_true (by kernel_rfl)) (by unfold Func.isWrapper; first | (rw [if_pos (by decide +kernel)]; kernel_rfl) | (rw [if_neg (by decide +kernel)]; exact ⟨rfl, rfl⟩))
    (fun os started H enc _ => lifted os started H enc)

theorem plain (f : FuncId) (fn : Func) (hf : Tryz.pinned.checked.prog.funcNamed "hindsight/hindsightlaw12.PrunePlays" = some f) (hfn : Tryz.pinned.checked.prog.funcs[f]? = some fn) :
    (true : Bool) = Tryz.pinned.checked.prog.looks [] ∧ ∀ (j : Nat) t, fn.params[j]? = some t → Tryz.pinned.checked.prog.wantsStandIn t = false := by
  obtain rfl : f = 3 := Option.some.inj ((show Tryz.prog.funcNamed "hindsight/hindsightlaw12.PrunePlays" = some 3 by kernel_rfl).symm.trans hf) |>.symm
  obtain rfl : fn = Tryz.f3 := (Option.some.inj (Tryz.func3.symm.trans hfn)).symm
  refine ⟨by kernel_rfl, fun j t ht => ?_⟩
  rw [Tryz.params3] at ht
  have hm := Array.mem_of_getElem? ht
  simp only [List.mem_toArray, List.mem_cons, List.not_mem_nil, or_false] at hm
  subst hm
  exact (show Tryz.prog.wantsStandIn 22 = false by kernel_rfl)

theorem card : Rows.PrunePlaysCardSaid :=
  Claim7.holds_tied_plain_at .later [] _ _ _ _ over (fun _ h => by cases h) (by kernel_rfl) (fun _ h => by cases h) prunePlays_row_tie rfl ⟨rfl, rfl⟩ (by kernel_rfl) rfl plain (by kernel_rfl)

theorem proved : Rows.PrunePlaysCardSaid := card
end Go.Proofs.YtdlkdgajoafkaaaGreatDoor.prunePlays
