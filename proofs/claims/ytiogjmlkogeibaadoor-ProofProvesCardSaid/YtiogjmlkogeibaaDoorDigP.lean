/- the document's digest: keys, the 64 words of a block. -/
import Derived.Test.YtiogjmlkogeibaaDoorDigM
import Derived.Test.YtiogjmlkogeibaaDoorLate
namespace Go.Proofs.YtiogjmlkogeibaaDoor.dig
open Go Go.RowKit

set_option maxRecDepth 100000 in
theorem rkeys_calls (w : World) : Calls Tryd.prog 55 #[] w fun en w' => en = .returned (.slice (some ⟨w.heap.size, 0, none⟩) 64 64) ∧ Has w' w.heap.size 87 (wordsOf keys) ∧ Below w.heap.size w w' := by
  go_enter Tryd.func55, Tryd.ntmps55
  go_wp2_with fail
  go_ret
  exact ⟨rfl, made_at _ _ rfl, (Below.refl _ _).alloc (Nat.le_refl _) _⟩

theorem u32Info : (Tryd.prog.info? 87).map (fun i => (i.zero, i.size, i.bytes)) = some (some (.int .u32 0), 1, 4) := by kernel_rfl

/-- A row of words that was made since base. -/
def Row (w : World) (base : Nat) (v : Value) (l : List Int) : Prop := w.ownsRow base 87 1 v l.length (l.map wordV)

theorem World.ownsRow.drew {w : World} {base : Nat} {e : TypeId} {size n : Nat} {v : Value} {xs : List Value} (h : w.ownsRow base e size v n xs) : w.drew.ownsRow base e size v n xs := h
/-- A word is appended. -/
theorem Row.step {w wr w' : World} {v v' : Value} {l : List Int} {k : Nat} {z : Int} {O : Obj} (h : Row wr w.heap.size v (l.take k)) (hb : Below w.heap.size w wr) (hs : w.heap.size ≤ wr.heap.size) (hz : l[k]? = some z)
    (hown : w'.ownsRow w.heap.size 87 1 v' ((l.take k).length + 1) (((l.take k).map wordV) ++ [.int .u32 z])) (hgr : (wr.alloc O).grownBy w' v.ownBlock) :
    Row w' w.heap.size v' (l.take (k + 1)) ∧ Below w.heap.size w w' ∧ w.heap.size ≤ w'.heap.size := by
  have hk : k < l.length := (List.getElem?_eq_some_iff.1 hz).1
  refine ⟨?_, ?_, ?_⟩
  · unfold Row
    have e1 : l.take (k + 1) = l.take k ++ [z] := by rw [List.take_add_one, hz]; rfl
    rw [e1, List.length_append, List.map_append]
    exact hown
  · have hb1 : Below w.heap.size w (wr.alloc O) := hb.alloc hs _
    refine hb1.trans ⟨hgr.os, hgr.tape, hgr.output, hgr.size, fun j hj => hgr.block j (by simp; omega) (fun e => ?_)⟩
    have := own_base h e.symm
    omega
  · have h1 := hgr.size
    simp at h1
    omega
theorem Row.cells {w : World} {base : Nat} {v : Value} {l : List Int} (h : Row w base v l) (hl : 0 < l.length) : ∃ g c, v = .slice (some ⟨g, 0, none⟩) l.length c ∧ ∀ j x, l[j]? = some x → w.cell? ⟨g, j, none⟩ = some (.int .u32 x) := by
  have h0 : w.ownsRow 0 87 1 v l.length (l.map wordV) := ⟨h.1, h.2.imp id (fun ⟨g, cap, cur, e1, _, e3⟩ => ⟨g, cap, cur, e1, Nat.zero_le _, e3⟩)⟩
  obtain ⟨g, c, e, _, _, hc⟩ := own_cell h0 hl
  exact ⟨g, c, e, fun j x hx => hc j _ (by rw [List.getElem?_map, hx]; rfl)⟩
theorem spread_at (xs : List UInt8) (j : Nat) (h : j < 64) : (spreadL xs)[j]? = some (wordAt xs j) := by
  have := grown_get xs 48 j (by omega) (by omega)
  rw [grown_all] at this
  exact this
theorem spread_first (xs : List UInt8) : (spreadL xs).take (16 + 0) = (firsts xs).take 16 := by
  apply List.ext_getElem?
  intro j
  by_cases hj : j < 16
  · rw [List.getElem?_take_of_lt (by omega), List.getElem?_take_of_lt hj, spread_at xs j (by omega)]
    have := exts_at xs 0 j (by omega) (by omega)
    exact this.symm
  · rw [List.getElem?_eq_none (by rw [List.length_take]; omega), List.getElem?_eq_none (by rw [List.length_take]; omega)]
theorem word_next (xs : List UInt8) (k : Nat) (hk : k < 48) : wordAt xs (k + 16) = next (wordAt xs k) (wordAt xs (k + 9)) (wordAt xs (k + 1)) (wordAt xs (k + 14)) := by
  have h1 := grown_get xs (k + 1) (k + 16) (by omega) (by omega)
  rw [← grown_next xs k hk, List.getElem?_set_self (by rw [grown_length xs k (by omega)]; omega)] at h1
  exact (Option.some.inj h1).symm
theorem rturn_int (x m : Int) (hx : W x) (h1 : 1 ≤ m) (h2 : m ≤ 31) (w : World) :
    Calls Tryd.prog 57 #[.int .u32 x, .int .i64 m] w fun en w' => en = .returned (.int .u32 (rot m.toNat x)) ∧ w' = w.drew := by
  have e : m = ((m.toNat : Nat) : Int) := by omega
  have := rturn_calls x m.toNat hx (by omega) (by omega) w
  rw [← e] at this
  exact this
theorem div_u32 (p d : Int) (hp : W p) (hd : 1 ≤ d) : IntKind.u32.wrap (p.tdiv d) = p / d := by
  rw [u32_wrap, Int.tdiv_eq_ediv_of_nonneg hp.1]
  have h3 := Int.ediv_le_self d hp.1
  have h4 : 0 ≤ p / d := Int.ediv_nonneg hp.1 (by omega)
  have h5 := hp.2
  exact Int.emod_eq_of_lt h4 (by omega)
theorem bytes_at (s : ByteArray) (i : Nat) (b : UInt8) (h : s.data.toList[i]? = some b) : s[i]? = some b := by
  have hi : i < s.data.toList.length := (List.getElem?_eq_some_iff.1 h).1
  have hi2 : i < s.size := by simpa using hi
  rw [List.getElem?_eq_getElem hi] at h
  rw [getElem?_pos s i hi2]
  rw [← h]
  rfl
theorem firsts_at (xs : List UInt8) (i : Nat) (h : i < 16) (hx : xs.length = 64) : ∃ b0 b1 b2 b3 : UInt8, xs[4 * i]? = some b0 ∧ xs[4 * i + 1]? = some b1 ∧ xs[4 * i + 2]? = some b2 ∧ xs[4 * i + 3]? = some b3 ∧
    (firsts xs)[i]? = some (((((b0.toNat : Int) * 256) + b1.toNat) * 256 + b2.toNat) * 256 + b3.toNat) := by
  refine ⟨xs[4 * i], xs[4 * i + 1], xs[4 * i + 2], xs[4 * i + 3], List.getElem?_eq_getElem (by omega), List.getElem?_eq_getElem (by omega), List.getElem?_eq_getElem (by omega), List.getElem?_eq_getElem (by omega), ?_⟩
  rw [firsts_get xs i h]
  have e : (xs.drop (4 * i)).take 4 = [xs[4 * i], xs[4 * i + 1], xs[4 * i + 2], xs[4 * i + 3]] := by
    apply List.ext_getElem?
    intro j
    by_cases hj : j < 4
    · rw [List.getElem?_take_of_lt hj, List.getElem?_drop]
      have : j = 0 ∨ j = 1 ∨ j = 2 ∨ j = 3 := by omega
      rcases this with rfl | rfl | rfl | rfl <;> simp
    · rw [List.getElem?_eq_none (by simp; omega), List.getElem?_eq_none (by simp; omega)]
  rw [e]
  simp [pk]

set_option maxRecDepth 100000 in
set_option maxHeartbeats 1000000 in
theorem rspread_calls (s : ByteArray) (hs : s.size = 64) (w : World) :
    Calls Tryd.prog 56 #[.string s] w fun en w' => ∃ v, en = .returned v ∧ Row w' w.heap.size v (spreadL s.data.toList) ∧ Below w.heap.size w w' := by
  have hx : s.data.toList.length = 64 := by simpa using hs
  have HX := Lib.hid hx
  have HS := Lib.hid hs
  obtain ⟨i0, hi0, e⟩ := Option.map_eq_some_iff.1 u32Info
  simp only [Prod.mk.injEq] at e
  obtain ⟨hz0, hz1, hz2⟩ := e
  have HI := Lib.hid hi0
  have HZ0 := Lib.hid hz0
  have HZ1 := Lib.hid hz1
  have HZ2 := Lib.hid hz2
  clear hx hi0 hz0 hz1 hz2 hs
  go_enter Tryd.func56, Tryd.ntmps56
  go_wp2_with fail
  go_name_world W hW
  have S0 : Hid (Row W w.heap.size (.slice (some ⟨w.heap.size, 0, none⟩) 0 0) ((firsts s.data.toList).take 0) ∧ Below w.heap.size w W ∧ w.heap.size ≤ W.heap.size) := by
    rw [← hW]
    exact Lib.hid ⟨⟨rfl, .inr ⟨w.heap.size, 0, _, rfl, Nat.le_refl _, made_at _ _ rfl, Nat.le_refl _, by unfold maxLen; omega, rfl, rfl⟩⟩, (Below.refl _ _).alloc (Nat.le_refl _) _, by simp⟩
  clear hW
  go_loopw [3, 4] (fun v i wr => ∃ k : Nat, i = .int .i64 k ∧ k ≤ 16 ∧ Hid (Row wr w.heap.size v ((firsts s.data.toList).take k) ∧ Below w.heap.size w wr ∧ w.heap.size ≤ wr.heap.size)) (fun _ i _ => 16 - (intOf i).toNat)
  case atStart => exact ⟨0, rfl, by omega, S0⟩
  case round =>
    obtain ⟨k, rfl, hk, HR⟩ := hrel
    clear S0
    by_cases h16 : k < 16
    · have hk1 : (k : Int) < 16 := by omega
      obtain ⟨c0, c1, c2, c3, g0, g1, g2, g3, gf⟩ := firsts_at s.data.toList k h16 HX.out
      obtain ⟨i, ei⟩ : ∃ i : Int, i = (k : Int) := ⟨_, rfl⟩
      obtain ⟨x0, e0⟩ : ∃ x : Int, x = 4 * i := ⟨_, rfl⟩
      obtain ⟨x1, e1⟩ : ∃ x : Int, x = x0 + 1 := ⟨_, rfl⟩
      obtain ⟨x2, e2⟩ : ∃ x : Int, x = x0 + 2 := ⟨_, rfl⟩
      obtain ⟨x3, e3⟩ : ∃ x : Int, x = x0 + 3 := ⟨_, rfl⟩
      have i0' : ∀ w, (Instr.index 9 (.string s) (.int .i64 x0)).run Tryd.prog w = .ok (.int .u8 (c0.toNat : Int)) w := by
        rw [show x0 = ((4 * k : Nat) : Int) by omega]
        exact run_index_strb 9 s .i64 _ c0 Tryd.underlying9 (bytes_at s _ _ g0)
      have i1' : ∀ w, (Instr.index 9 (.string s) (.int .i64 x1)).run Tryd.prog w = .ok (.int .u8 (c1.toNat : Int)) w := by
        rw [show x1 = ((4 * k + 1 : Nat) : Int) by omega]
        exact run_index_strb 9 s .i64 _ c1 Tryd.underlying9 (bytes_at s _ _ g1)
      have i2' : ∀ w, (Instr.index 9 (.string s) (.int .i64 x2)).run Tryd.prog w = .ok (.int .u8 (c2.toNat : Int)) w := by
        rw [show x2 = ((4 * k + 2 : Nat) : Int) by omega]
        exact run_index_strb 9 s .i64 _ c2 Tryd.underlying9 (bytes_at s _ _ g2)
      have i3' : ∀ w, (Instr.index 9 (.string s) (.int .i64 x3)).run Tryd.prog w = .ok (.int .u8 (c3.toNat : Int)) w := by
        rw [show x3 = ((4 * k + 3 : Nat) : Int) by omega]
        exact run_index_strb 9 s .i64 _ c3 Tryd.underlying9 (bytes_at s _ _ g3)
      have m0 : IntKind.i64.wrap (4 * i) = x0 := by rw [IntWalk.i64_in _ ⟨by omega, by omega⟩]; omega
      have m1 : IntKind.i64.wrap (x0 + 1) = x1 := by rw [IntWalk.i64_in _ ⟨by omega, by omega⟩]; omega
      have m2 : IntKind.i64.wrap (x0 + 2) = x2 := by rw [IntWalk.i64_in _ ⟨by omega, by omega⟩]; omega
      have m3 : IntKind.i64.wrap (x0 + 3) = x3 := by rw [IntWalk.i64_in _ ⟨by omega, by omega⟩]; omega
      have t0 := c0.toNat_lt
      have t1 := c1.toNat_lt
      have t2 := c2.toNat_lt
      have t3 := c3.toNat_lt
      obtain ⟨b0, q0⟩ : ∃ b : Int, b = (c0.toNat : Int) := ⟨_, rfl⟩
      obtain ⟨b1, q1⟩ : ∃ b : Int, b = (c1.toNat : Int) := ⟨_, rfl⟩
      obtain ⟨b2, q2⟩ : ∃ b : Int, b = (c2.toNat : Int) := ⟨_, rfl⟩
      obtain ⟨b3, q3⟩ : ∃ b : Int, b = (c3.toNat : Int) := ⟨_, rfl⟩
      rw [← q0] at i0'
      rw [← q1] at i1'
      rw [← q2] at i2'
      rw [← q3] at i3'
      have w0' : IntKind.u32.wrap b0 = b0 := by rw [u32_wrap]; omega
      have w1' : IntKind.u32.wrap b1 = b1 := by rw [u32_wrap]; omega
      have w2' : IntKind.u32.wrap b2 = b2 := by rw [u32_wrap]; omega
      have w3' : IntKind.u32.wrap b3 = b3 := by rw [u32_wrap]; omega
      obtain ⟨y0, r0⟩ : ∃ y : Int, IntKind.u32.wrap (b0 * 16777216) = y := ⟨_, rfl⟩
      obtain ⟨y1, r1⟩ : ∃ y : Int, IntKind.u32.wrap (b1 * 65536) = y := ⟨_, rfl⟩
      obtain ⟨y2, r2⟩ : ∃ y : Int, IntKind.u32.wrap (b2 * 256) = y := ⟨_, rfl⟩
      obtain ⟨z1, s1⟩ : ∃ y : Int, IntKind.u32.wrap (y0 + y1) = y := ⟨_, rfl⟩
      obtain ⟨z2, s2⟩ : ∃ y : Int, IntKind.u32.wrap (z1 + y2) = y := ⟨_, rfl⟩
      obtain ⟨z3, s3⟩ : ∃ y : Int, IntKind.u32.wrap (z2 + b3) = y := ⟨_, rfl⟩
      have HZ3 : Hid ((firsts s.data.toList)[k]? = some z3) := by
        show _ = _
        rw [gf]
        congr 1
        rw [← s3, ← s2, ← s1, ← r0, ← r1, ← r2]
        simp only [u32_wrap]
        omega
      go_wp2_with fail
      rw [← ei]
      clear g0 g1 g2 g3 gf e0 e1 e2 e3 q0 q1 q2 q3 t0 t1 t2 t3
      have HEI := Lib.hid ei
      clear ei
      refine wp_region_any (by kernel_rfl) ?_
      refine any_take 0 (some 13) (v := u3) rfl rfl (by kernel_rfl) (by kernel_rfl) (by kernel_rfl) (fun _ _ _ h => h) (by kernel_rfl) (fun V => by go_simp) ?_
      simp only [Act.put, List.setIfInBounds_toArray, List.set_cons_zero, List.set_cons_succ]
      refine any_take 1 (some 14) (v := .string s) rfl rfl (by kernel_rfl) (by kernel_rfl) (by kernel_rfl) (fun _ _ _ h => h) (by kernel_rfl) (fun V => by go_simp) ?_
      simp only [Act.put, List.setIfInBounds_toArray, List.set_cons_zero, List.set_cons_succ]
      refine any_take 2 (some 15) (v := .int .i64 i) rfl rfl (by kernel_rfl) (by kernel_rfl) (by kernel_rfl) (fun _ _ _ h => h) (by kernel_rfl) (fun V => by go_simp) ?_
      simp only [Act.put, List.setIfInBounds_toArray, List.set_cons_zero, List.set_cons_succ]
      refine any_take 3 (some 16) (v := .int .i64 x0) rfl rfl (by kernel_rfl) (by kernel_rfl) (by kernel_rfl) (fun _ _ _ h => h) (by kernel_rfl) (fun V => by go_simp) ?_
      simp only [Act.put, List.setIfInBounds_toArray, List.set_cons_zero, List.set_cons_succ]
      refine any_take 4 (some 17) (v := .int .u8 b0) rfl rfl (by kernel_rfl) (by kernel_rfl) (by kernel_rfl) (fun _ _ _ h => h) (by kernel_rfl) (fun V => by go_simp) ?_
      simp only [Act.put, List.setIfInBounds_toArray, List.set_cons_zero, List.set_cons_succ]
      refine any_take 5 (some 18) (v := .int .u32 b0) rfl rfl (by kernel_rfl) (by kernel_rfl) (by kernel_rfl) (fun _ _ _ h => h) (by kernel_rfl) (fun V => by go_simp) ?_
      simp only [Act.put, List.setIfInBounds_toArray, List.set_cons_zero, List.set_cons_succ]
      refine any_take 6 (some 19) (v := .int .u32 y0) rfl rfl (by kernel_rfl) (by kernel_rfl) (by kernel_rfl) (fun _ _ _ h => h) (by kernel_rfl) (fun V => by go_simp) ?_
      simp only [Act.put, List.setIfInBounds_toArray, List.set_cons_zero, List.set_cons_succ]
      refine any_take 7 (some 20) (v := .string s) rfl rfl (by kernel_rfl) (by kernel_rfl) (by kernel_rfl) (fun _ _ _ h => h) (by kernel_rfl) (fun V => by go_simp) ?_
      simp only [Act.put, List.setIfInBounds_toArray, List.set_cons_zero, List.set_cons_succ]
      refine any_take 8 (some 21) (v := .int .i64 i) rfl rfl (by kernel_rfl) (by kernel_rfl) (by kernel_rfl) (fun _ _ _ h => h) (by kernel_rfl) (fun V => by go_simp) ?_
      simp only [Act.put, List.setIfInBounds_toArray, List.set_cons_zero, List.set_cons_succ]
      refine any_take 9 (some 22) (v := .int .i64 x0) rfl rfl (by kernel_rfl) (by kernel_rfl) (by kernel_rfl) (fun _ _ _ h => h) (by kernel_rfl) (fun V => by go_simp) ?_
      simp only [Act.put, List.setIfInBounds_toArray, List.set_cons_zero, List.set_cons_succ]
      refine any_take 10 (some 23) (v := .int .i64 x1) rfl rfl (by kernel_rfl) (by kernel_rfl) (by kernel_rfl) (fun _ _ _ h => h) (by kernel_rfl) (fun V => by go_simp) ?_
      simp only [Act.put, List.setIfInBounds_toArray, List.set_cons_zero, List.set_cons_succ]
      refine any_take 11 (some 24) (v := .int .u8 b1) rfl rfl (by kernel_rfl) (by kernel_rfl) (by kernel_rfl) (fun _ _ _ h => h) (by kernel_rfl) (fun V => by go_simp) ?_
      simp only [Act.put, List.setIfInBounds_toArray, List.set_cons_zero, List.set_cons_succ]
      refine any_take 12 (some 25) (v := .int .u32 b1) rfl rfl (by kernel_rfl) (by kernel_rfl) (by kernel_rfl) (fun _ _ _ h => h) (by kernel_rfl) (fun V => by go_simp) ?_
      simp only [Act.put, List.setIfInBounds_toArray, List.set_cons_zero, List.set_cons_succ]
      refine any_take 13 (some 26) (v := .int .u32 y1) rfl rfl (by kernel_rfl) (by kernel_rfl) (by kernel_rfl) (fun _ _ _ h => h) (by kernel_rfl) (fun V => by go_simp) ?_
      simp only [Act.put, List.setIfInBounds_toArray, List.set_cons_zero, List.set_cons_succ]
      refine any_take 14 (some 27) (v := .int .u32 z1) rfl rfl (by kernel_rfl) (by kernel_rfl) (by kernel_rfl) (fun _ _ _ h => h) (by kernel_rfl) (fun V => by go_simp) ?_
      simp only [Act.put, List.setIfInBounds_toArray, List.set_cons_zero, List.set_cons_succ]
      refine any_take 15 (some 28) (v := .string s) rfl rfl (by kernel_rfl) (by kernel_rfl) (by kernel_rfl) (fun _ _ _ h => h) (by kernel_rfl) (fun V => by go_simp) ?_
      simp only [Act.put, List.setIfInBounds_toArray, List.set_cons_zero, List.set_cons_succ]
      refine any_take 16 (some 29) (v := .int .i64 i) rfl rfl (by kernel_rfl) (by kernel_rfl) (by kernel_rfl) (fun _ _ _ h => h) (by kernel_rfl) (fun V => by go_simp) ?_
      simp only [Act.put, List.setIfInBounds_toArray, List.set_cons_zero, List.set_cons_succ]
      refine any_take 17 (some 30) (v := .int .i64 x0) rfl rfl (by kernel_rfl) (by kernel_rfl) (by kernel_rfl) (fun _ _ _ h => h) (by kernel_rfl) (fun V => by go_simp) ?_
      simp only [Act.put, List.setIfInBounds_toArray, List.set_cons_zero, List.set_cons_succ]
      refine any_take 18 (some 31) (v := .int .i64 x2) rfl rfl (by kernel_rfl) (by kernel_rfl) (by kernel_rfl) (fun _ _ _ h => h) (by kernel_rfl) (fun V => by go_simp) ?_
      simp only [Act.put, List.setIfInBounds_toArray, List.set_cons_zero, List.set_cons_succ]
      refine any_take 19 (some 32) (v := .int .u8 b2) rfl rfl (by kernel_rfl) (by kernel_rfl) (by kernel_rfl) (fun _ _ _ h => h) (by kernel_rfl) (fun V => by go_simp) ?_
      simp only [Act.put, List.setIfInBounds_toArray, List.set_cons_zero, List.set_cons_succ]
      refine any_take 20 (some 33) (v := .int .u32 b2) rfl rfl (by kernel_rfl) (by kernel_rfl) (by kernel_rfl) (fun _ _ _ h => h) (by kernel_rfl) (fun V => by go_simp) ?_
      simp only [Act.put, List.setIfInBounds_toArray, List.set_cons_zero, List.set_cons_succ]
      refine any_take 21 (some 34) (v := .int .u32 y2) rfl rfl (by kernel_rfl) (by kernel_rfl) (by kernel_rfl) (fun _ _ _ h => h) (by kernel_rfl) (fun V => by go_simp) ?_
      simp only [Act.put, List.setIfInBounds_toArray, List.set_cons_zero, List.set_cons_succ]
      refine any_take 22 (some 35) (v := .int .u32 z2) rfl rfl (by kernel_rfl) (by kernel_rfl) (by kernel_rfl) (fun _ _ _ h => h) (by kernel_rfl) (fun V => by go_simp) ?_
      simp only [Act.put, List.setIfInBounds_toArray, List.set_cons_zero, List.set_cons_succ]
      refine any_take 23 (some 36) (v := .string s) rfl rfl (by kernel_rfl) (by kernel_rfl) (by kernel_rfl) (fun _ _ _ h => h) (by kernel_rfl) (fun V => by go_simp) ?_
      simp only [Act.put, List.setIfInBounds_toArray, List.set_cons_zero, List.set_cons_succ]
      refine any_take 24 (some 37) (v := .int .i64 i) rfl rfl (by kernel_rfl) (by kernel_rfl) (by kernel_rfl) (fun _ _ _ h => h) (by kernel_rfl) (fun V => by go_simp) ?_
      simp only [Act.put, List.setIfInBounds_toArray, List.set_cons_zero, List.set_cons_succ]
      refine any_take 25 (some 38) (v := .int .i64 x0) rfl rfl (by kernel_rfl) (by kernel_rfl) (by kernel_rfl) (fun _ _ _ h => h) (by kernel_rfl) (fun V => by go_simp) ?_
      simp only [Act.put, List.setIfInBounds_toArray, List.set_cons_zero, List.set_cons_succ]
      refine any_take 26 (some 39) (v := .int .i64 x3) rfl rfl (by kernel_rfl) (by kernel_rfl) (by kernel_rfl) (fun _ _ _ h => h) (by kernel_rfl) (fun V => by go_simp) ?_
      simp only [Act.put, List.setIfInBounds_toArray, List.set_cons_zero, List.set_cons_succ]
      refine any_take 27 (some 40) (v := .int .u8 b3) rfl rfl (by kernel_rfl) (by kernel_rfl) (by kernel_rfl) (fun _ _ _ h => h) (by kernel_rfl) (fun V => by go_simp) ?_
      simp only [Act.put, List.setIfInBounds_toArray, List.set_cons_zero, List.set_cons_succ]
      refine any_take 28 (some 41) (v := .int .u32 b3) rfl rfl (by kernel_rfl) (by kernel_rfl) (by kernel_rfl) (fun _ _ _ h => h) (by kernel_rfl) (fun V => by go_simp) ?_
      simp only [Act.put, List.setIfInBounds_toArray, List.set_cons_zero, List.set_cons_succ]
      refine any_take 29 (some 42) (v := .int .u32 z3) rfl rfl (by kernel_rfl) (by kernel_rfl) (by kernel_rfl) (fun _ _ _ h => h) (by kernel_rfl) (fun V => by go_simp) ?_
      simp only [Act.put, List.setIfInBounds_toArray, List.set_cons_zero, List.set_cons_succ]
      refine any_one (i := 30) (by kernel_rfl) ?_
      refine wpOp_value (some 43) (v := .slice (some ⟨wr.heap.size, 0, none⟩) 1 1) (w' := (wr.drew).alloc (.cells #[.int .u32 z3] 87)) rfl rfl (by kernel_rfl) (by go_simp) ?_
      simp only [Act.put, List.setIfInBounds_toArray, List.set_cons_zero, List.set_cons_succ]
      refine any_one (i := 31) (by kernel_rfl) ?_
      clear m0 m1 m2 m3 i0' i1' i2' i3' w0' w1' w2' w3' r0 r1 r2 s1 s2 s3
      have hlk : ((firsts s.data.toList).take k).length = k := by rw [List.length_take, firsts_length]; omega
      refine wpOp_wp rfl (by kernel_rfl) ?_
      refine wp_append_own _ (.tmp 13) (.tmp 43) 88 rfl w.heap.size 87 i0 (.int .u32 0) 1 4 Tryd.underlying88 HI.out HZ0.out HZ1.out HZ2.out rfl (by decide) u3 ((firsts s.data.toList).take k).length _ (by simp [Act.eval]) (by exact (World.ownsRow.drew HR.out.1).alloc _) ⟨wr.heap.size, 0, none⟩ 1 1 [.int .u32 z3] (by simp [Act.eval]) rfl (by exact World.news_of_block (heap_alloc_new _ _)) (by simp [Value.oneCell']) (by unfold maxLen; omega) (by omega) (by simp; have := HR.out.2.2; omega) ?_
      intro v' w' hown hgr _
      have HR2 : Hid (Row w' w.heap.size v' ((firsts s.data.toList).take (k + 1)) ∧ Below w.heap.size w w' ∧ w.heap.size ≤ w'.heap.size) := Lib.hid (Row.step (wr := wr.drew) HR.out.1 HR.out.2.1.drew HR.out.2.2 HZ3.out hown hgr)
      clear hown hgr HR hlk
      simp only [Act.put, List.setIfInBounds_toArray]
      refine any_take 32 (some 3) (v := v') rfl rfl (by kernel_rfl) (by kernel_rfl) (by kernel_rfl) (fun _ _ _ h => h) (by kernel_rfl) (fun V => by go_simp) ?_
      refine wpAny_done (by kernel_rfl) ?_ _
      simp only [Act.put]
      rw [HEI.out]
      go_wp2_with fail
      refine ⟨⟨k + 1, by rw [Int.natCast_add]; rfl, by omega, HR2⟩, ?_⟩
      show 16 - ((k : Int) + 1).toNat < 16 - ((k : Int)).toNat
      omega
    · obtain rfl : k = 16 := by omega
      have S1 : Hid (Row wr w.heap.size u3 ((spreadL s.data.toList).take (16 + 0)) ∧ Below w.heap.size w wr ∧ w.heap.size ≤ wr.heap.size) := by rw [show (spreadL s.data.toList).take (16 + 0) = (firsts s.data.toList).take 16 from spread_first _]; exact HR
      clear HR
      go_wp2_with fail
      go_loopw [3, 5] (fun v i wr => ∃ k : Nat, i = .int .i64 (k + 16 : Nat) ∧ k ≤ 48 ∧ Hid (Row wr w.heap.size v ((spreadL s.data.toList).take (16 + k)) ∧ Below w.heap.size w wr ∧ w.heap.size ≤ wr.heap.size)) (fun _ i _ => 64 - (intOf i).toNat)
      case atStart => exact ⟨0, rfl, by omega, S1⟩
      case round =>
        obtain ⟨k, rfl, hk, HR⟩ := hrel
        clear S1
        by_cases h48 : k < 48
        · have hlk : ((spreadL s.data.toList).take (16 + k)).length = 16 + k := by rw [List.length_take, spreadL_length]; omega
          obtain ⟨g, cap, rfl, hcell⟩ := Row.cells HR.out.1 (by omega)
          rw [hlk]
          have hat : ∀ j, j < 16 + k → wr.cell? ⟨g, j, none⟩ = some (.int .u32 (wordAt s.data.toList j)) := fun j hj => hcell j _ (by rw [List.getElem?_take_of_lt hj]; exact spread_at _ _ (by omega))
          have hk1 : (k : Int) < 48 := by omega
          have hk0 : (0 : Int) ≤ (k : Int) := by omega
          obtain ⟨n, hn⟩ : ∃ n, n = 16 + k := ⟨_, rfl⟩
          have hn1 : (n : Int) = (k : Int) + 16 := by omega
          have c1 := hat (k + 1) (by omega)
          have c14 := hat (k + 14) (by omega)
          have c9 := hat (k + 9) (by omega)
          have c0 := hat k (by omega)
          have HP := Lib.hid (W_wordAt s.data.toList (k + 1))
          have HQ := Lib.hid (W_wordAt s.data.toList (k + 14))
          have hz := spread_at s.data.toList (16 + k) (by omega)
          rw [show 16 + k = k + 16 by omega, word_next _ k h48] at hz
          have HZ := Lib.hid hz
          clear hz
          generalize wordAt s.data.toList (k + 1) = p at *
          generalize wordAt s.data.toList (k + 14) = q at *
          generalize wordAt s.data.toList (k + 9) = xb at *
          generalize wordAt s.data.toList k = xa at *
          rw [← hn]
          have HN := Lib.hid hn
          have HL := Lib.hid hlk
          have b1 : (k : Int) + 16 ≤ (n : Int) := by omega
          have b2 : (n : Int) ≤ 64 := by omega
          have HN1 := Lib.hid hn1
          clear hcell hat hn hlk hn1
          have hd : decide ((k : Int) + 16 < 64) = true := by rw [decide_eq_true_iff]; omega
          go_wp2_with fail
          clear hd c1 c14
          obtain ⟨i, ei⟩ : ∃ i : Int, i = ((k + 16 : Nat) : Int) := ⟨_, rfl⟩
          obtain ⟨k9, e9⟩ : ∃ x : Int, x = (k : Int) + 9 := ⟨_, rfl⟩
          have m16 : IntKind.i64.wrap (i - 16) = (k : Int) := by rw [IntWalk.i64_in _ ⟨by omega, by omega⟩]; omega
          have m7 : IntKind.i64.wrap (i - 7) = k9 := by rw [IntWalk.i64_in _ ⟨by omega, by omega⟩]; omega
          have j0 : (0 : Int) ≤ (k : Int) ∧ (k : Int) < (n : Int) := ⟨by omega, by omega⟩
          have j9 : (0 : Int) ≤ k9 ∧ k9 < (n : Int) := ⟨by omega, by omega⟩
          have n9 : k9.toNat = k + 9 := by omega
          obtain ⟨y1, r1⟩ : ∃ y : Int, IntKind.u32.wrap (xa + xb) = y := ⟨_, rfl⟩
          obtain ⟨v1, r2⟩ : ∃ y : Int, bits .xor .u32 (rot 7 p) (rot 18 p) = y := ⟨_, rfl⟩
          obtain ⟨p8, r3⟩ : ∃ y : Int, IntKind.u32.wrap (p.tdiv 8) = y := ⟨_, rfl⟩
          obtain ⟨v2, r4⟩ : ∃ y : Int, bits .xor .u32 v1 p8 = y := ⟨_, rfl⟩
          obtain ⟨y2, r5⟩ : ∃ y : Int, IntKind.u32.wrap (y1 + v2) = y := ⟨_, rfl⟩
          obtain ⟨v3, r6⟩ : ∃ y : Int, bits .xor .u32 (rot 17 q) (rot 19 q) = y := ⟨_, rfl⟩
          obtain ⟨q10, r7⟩ : ∃ y : Int, IntKind.u32.wrap (q.tdiv 1024) = y := ⟨_, rfl⟩
          obtain ⟨v4, r8⟩ : ∃ y : Int, bits .xor .u32 v3 q10 = y := ⟨_, rfl⟩
          obtain ⟨y3, r9⟩ : ∃ y : Int, IntKind.u32.wrap (y2 + v4) = y := ⟨_, rfl⟩
          have HY3 : Hid ((spreadL s.data.toList)[k + 16]? = some y3) := by
            show _ = _
            rw [HZ.out, ← r9, ← r8, ← r7, ← r6, ← r5, ← r4, ← r3, ← r2, ← r1]
            rw [div_u32 p 8 HP.out (by omega), div_u32 q 1024 HQ.out (by omega)]
            unfold next ad xo
            simp only [u32_wrap]
          rw [← ei]
          have HEI := Lib.hid ei
          clear ei e9 HZ
          refine wp_region_any (by kernel_rfl) ?_
          refine any_take 0 (some 59) (v := .slice (some ⟨g, 0, none⟩) n cap) rfl rfl (by kernel_rfl) (by kernel_rfl) (by kernel_rfl) (fun _ _ _ h => h) (by kernel_rfl) (fun V => by go_simp) ?_
          simp only [Act.put, List.setIfInBounds_toArray, List.set_cons_zero, List.set_cons_succ]
          refine AnyL.any (S := fun V => ∃ m, V = wr.drew.drewN m) (Wr := [30, 31, 32]) _ _ _ _ ⟨0, rfl⟩ ?_
          refine AnyL.pure 1 (some 60) (v := .slice (some ⟨g, 0, none⟩) n cap) rfl rfl (by kernel_rfl) (by kernel_rfl) (by kernel_rfl) (fun _ _ _ h => h) (by kernel_rfl) (by kernel_rfl) (fun V hV => by obtain ⟨m, rfl⟩ := hV; go_simp) ?_
          simp only [Act.put, List.setIfInBounds_toArray, List.set_cons_zero, List.set_cons_succ]
          refine AnyL.pure 2 (some 61) (v := .int .i64 i) rfl rfl (by kernel_rfl) (by kernel_rfl) (by kernel_rfl) (fun _ _ _ h => h) (by kernel_rfl) (by kernel_rfl) (fun V hV => by obtain ⟨m, rfl⟩ := hV; go_simp) ?_
          simp only [Act.put, List.setIfInBounds_toArray, List.set_cons_zero, List.set_cons_succ]
          refine AnyL.pure 3 (some 62) (v := .int .i64 k) rfl rfl (by kernel_rfl) (by kernel_rfl) (by kernel_rfl) (fun _ _ _ h => h) (by kernel_rfl) (by kernel_rfl) (fun V hV => by obtain ⟨m, rfl⟩ := hV; go_simp) ?_
          simp only [Act.put, List.setIfInBounds_toArray, List.set_cons_zero, List.set_cons_succ]
          refine AnyL.pure 4 (some 63) (v := .pointer (some ⟨g, k, none⟩)) rfl rfl (by kernel_rfl) (by kernel_rfl) (by kernel_rfl) (fun _ _ _ h => h) (by kernel_rfl) (by kernel_rfl) (fun V hV => by obtain ⟨m, rfl⟩ := hV; go_simp) ?_
          simp only [Act.put, List.setIfInBounds_toArray, List.set_cons_zero, List.set_cons_succ]
          refine AnyL.pure 5 (some 64) (v := .int .u32 xa) rfl rfl (by kernel_rfl) (by kernel_rfl) (by kernel_rfl) (fun _ _ _ h => h) (by kernel_rfl) (by kernel_rfl) (fun V hV => by obtain ⟨m, rfl⟩ := hV; go_simp) ?_
          simp only [Act.put, List.setIfInBounds_toArray, List.set_cons_zero, List.set_cons_succ]
          refine AnyL.pure 6 (some 65) (v := .slice (some ⟨g, 0, none⟩) n cap) rfl rfl (by kernel_rfl) (by kernel_rfl) (by kernel_rfl) (fun _ _ _ h => h) (by kernel_rfl) (by kernel_rfl) (fun V hV => by obtain ⟨m, rfl⟩ := hV; go_simp) ?_
          simp only [Act.put, List.setIfInBounds_toArray, List.set_cons_zero, List.set_cons_succ]
          refine AnyL.pure 7 (some 66) (v := .int .i64 i) rfl rfl (by kernel_rfl) (by kernel_rfl) (by kernel_rfl) (fun _ _ _ h => h) (by kernel_rfl) (by kernel_rfl) (fun V hV => by obtain ⟨m, rfl⟩ := hV; go_simp) ?_
          simp only [Act.put, List.setIfInBounds_toArray, List.set_cons_zero, List.set_cons_succ]
          refine AnyL.pure 8 (some 67) (v := .int .i64 k9) rfl rfl (by kernel_rfl) (by kernel_rfl) (by kernel_rfl) (fun _ _ _ h => h) (by kernel_rfl) (by kernel_rfl) (fun V hV => by obtain ⟨m, rfl⟩ := hV; go_simp) ?_
          simp only [Act.put, List.setIfInBounds_toArray, List.set_cons_zero, List.set_cons_succ]
          refine AnyL.pure 9 (some 68) (v := .pointer (some ⟨g, k + 9, none⟩)) rfl rfl (by kernel_rfl) (by kernel_rfl) (by kernel_rfl) (fun _ _ _ h => h) (by kernel_rfl) (by kernel_rfl) (fun V hV => by obtain ⟨m, rfl⟩ := hV; go_simp) ?_
          simp only [Act.put, List.setIfInBounds_toArray, List.set_cons_zero, List.set_cons_succ]
          refine AnyL.pure 10 (some 69) (v := .int .u32 xb) rfl rfl (by kernel_rfl) (by kernel_rfl) (by kernel_rfl) (fun _ _ _ h => h) (by kernel_rfl) (by kernel_rfl) (fun V hV => by obtain ⟨m, rfl⟩ := hV; go_simp) ?_
          simp only [Act.put, List.setIfInBounds_toArray, List.set_cons_zero, List.set_cons_succ]
          refine AnyL.pure 11 (some 70) (v := .int .u32 y1) rfl rfl (by kernel_rfl) (by kernel_rfl) (by kernel_rfl) (fun _ _ _ h => h) (by kernel_rfl) (by kernel_rfl) (fun V hV => by obtain ⟨m, rfl⟩ := hV; go_simp) ?_
          simp only [Act.put, List.setIfInBounds_toArray, List.set_cons_zero, List.set_cons_succ]
          refine AnyL.pure 12 (some 71) (v := .int .u32 p) rfl rfl (by kernel_rfl) (by kernel_rfl) (by kernel_rfl) (fun _ _ _ h => h) (by kernel_rfl) (by kernel_rfl) (fun V hV => by obtain ⟨m, rfl⟩ := hV; go_simp) ?_
          simp only [Act.put, List.setIfInBounds_toArray, List.set_cons_zero, List.set_cons_succ]
          refine AnyL.call 13 (some 72) (.int .u32 (rot 7 p)) rfl rfl (by kernel_rfl) (by kernel_rfl) (by kernel_rfl) (fun _ _ _ h => h) (by kernel_rfl) (by kernel_rfl) 57 Tryd.f57 Tryd.func57 (by kernel_rfl) (by kernel_rfl) _ _ rfl #[.int .u32 p, .int .i64 7] (by first | (simp [Act.eval]; done) | (simp [Act.eval, Act.put]; done)) (fun V hV => by obtain ⟨m, rfl⟩ := hV; exact (rturn_int p 7 HP.out (by omega) (by omega) _).mono fun _ _ h => ⟨h.1, m + 1, h.2⟩) ?_
          simp only [Act.put, List.setIfInBounds_toArray, List.set_cons_zero, List.set_cons_succ]
          refine AnyL.pure 14 (some 73) (v := .int .u32 p) rfl rfl (by kernel_rfl) (by kernel_rfl) (by kernel_rfl) (fun _ _ _ h => h) (by kernel_rfl) (by kernel_rfl) (fun V hV => by obtain ⟨m, rfl⟩ := hV; go_simp) ?_
          simp only [Act.put, List.setIfInBounds_toArray, List.set_cons_zero, List.set_cons_succ]
          refine AnyL.call 15 (some 74) (.int .u32 (rot 18 p)) rfl rfl (by kernel_rfl) (by kernel_rfl) (by kernel_rfl) (fun _ _ _ h => h) (by kernel_rfl) (by kernel_rfl) 57 Tryd.f57 Tryd.func57 (by kernel_rfl) (by kernel_rfl) _ _ rfl #[.int .u32 p, .int .i64 18] (by first | (simp [Act.eval]; done) | (simp [Act.eval, Act.put]; done)) (fun V hV => by obtain ⟨m, rfl⟩ := hV; exact (rturn_int p 18 HP.out (by omega) (by omega) _).mono fun _ _ h => ⟨h.1, m + 1, h.2⟩) ?_
          simp only [Act.put, List.setIfInBounds_toArray, List.set_cons_zero, List.set_cons_succ]
          refine AnyL.pure 16 (some 75) (v := .int .u32 v1) rfl rfl (by kernel_rfl) (by kernel_rfl) (by kernel_rfl) (fun _ _ _ h => h) (by kernel_rfl) (by kernel_rfl) (fun V hV => by obtain ⟨m, rfl⟩ := hV; go_simp) ?_
          simp only [Act.put, List.setIfInBounds_toArray, List.set_cons_zero, List.set_cons_succ]
          refine AnyL.pure 17 (some 76) (v := .int .u32 p) rfl rfl (by kernel_rfl) (by kernel_rfl) (by kernel_rfl) (fun _ _ _ h => h) (by kernel_rfl) (by kernel_rfl) (fun V hV => by obtain ⟨m, rfl⟩ := hV; go_simp) ?_
          simp only [Act.put, List.setIfInBounds_toArray, List.set_cons_zero, List.set_cons_succ]
          refine AnyL.pure 18 (some 77) (v := .int .u32 p8) rfl rfl (by kernel_rfl) (by kernel_rfl) (by kernel_rfl) (fun _ _ _ h => h) (by kernel_rfl) (by kernel_rfl) (fun V hV => by obtain ⟨m, rfl⟩ := hV; go_simp) ?_
          simp only [Act.put, List.setIfInBounds_toArray, List.set_cons_zero, List.set_cons_succ]
          refine AnyL.pure 19 (some 78) (v := .int .u32 v2) rfl rfl (by kernel_rfl) (by kernel_rfl) (by kernel_rfl) (fun _ _ _ h => h) (by kernel_rfl) (by kernel_rfl) (fun V hV => by obtain ⟨m, rfl⟩ := hV; go_simp) ?_
          simp only [Act.put, List.setIfInBounds_toArray, List.set_cons_zero, List.set_cons_succ]
          refine AnyL.pure 20 (some 79) (v := .int .u32 y2) rfl rfl (by kernel_rfl) (by kernel_rfl) (by kernel_rfl) (fun _ _ _ h => h) (by kernel_rfl) (by kernel_rfl) (fun V hV => by obtain ⟨m, rfl⟩ := hV; go_simp) ?_
          simp only [Act.put, List.setIfInBounds_toArray, List.set_cons_zero, List.set_cons_succ]
          refine AnyL.pure 21 (some 80) (v := .int .u32 q) rfl rfl (by kernel_rfl) (by kernel_rfl) (by kernel_rfl) (fun _ _ _ h => h) (by kernel_rfl) (by kernel_rfl) (fun V hV => by obtain ⟨m, rfl⟩ := hV; go_simp) ?_
          simp only [Act.put, List.setIfInBounds_toArray, List.set_cons_zero, List.set_cons_succ]
          refine AnyL.call 22 (some 81) (.int .u32 (rot 17 q)) rfl rfl (by kernel_rfl) (by kernel_rfl) (by kernel_rfl) (fun _ _ _ h => h) (by kernel_rfl) (by kernel_rfl) 57 Tryd.f57 Tryd.func57 (by kernel_rfl) (by kernel_rfl) _ _ rfl #[.int .u32 q, .int .i64 17] (by first | (simp [Act.eval]; done) | (simp [Act.eval, Act.put]; done)) (fun V hV => by obtain ⟨m, rfl⟩ := hV; exact (rturn_int q 17 HQ.out (by omega) (by omega) _).mono fun _ _ h => ⟨h.1, m + 1, h.2⟩) ?_
          simp only [Act.put, List.setIfInBounds_toArray, List.set_cons_zero, List.set_cons_succ]
          refine AnyL.pure 23 (some 82) (v := .int .u32 q) rfl rfl (by kernel_rfl) (by kernel_rfl) (by kernel_rfl) (fun _ _ _ h => h) (by kernel_rfl) (by kernel_rfl) (fun V hV => by obtain ⟨m, rfl⟩ := hV; go_simp) ?_
          simp only [Act.put, List.setIfInBounds_toArray, List.set_cons_zero, List.set_cons_succ]
          refine AnyL.call 24 (some 83) (.int .u32 (rot 19 q)) rfl rfl (by kernel_rfl) (by kernel_rfl) (by kernel_rfl) (fun _ _ _ h => h) (by kernel_rfl) (by kernel_rfl) 57 Tryd.f57 Tryd.func57 (by kernel_rfl) (by kernel_rfl) _ _ rfl #[.int .u32 q, .int .i64 19] (by first | (simp [Act.eval]; done) | (simp [Act.eval, Act.put]; done)) (fun V hV => by obtain ⟨m, rfl⟩ := hV; exact (rturn_int q 19 HQ.out (by omega) (by omega) _).mono fun _ _ h => ⟨h.1, m + 1, h.2⟩) ?_
          simp only [Act.put, List.setIfInBounds_toArray, List.set_cons_zero, List.set_cons_succ]
          refine AnyL.pure 25 (some 84) (v := .int .u32 v3) rfl rfl (by kernel_rfl) (by kernel_rfl) (by kernel_rfl) (fun _ _ _ h => h) (by kernel_rfl) (by kernel_rfl) (fun V hV => by obtain ⟨m, rfl⟩ := hV; go_simp) ?_
          simp only [Act.put, List.setIfInBounds_toArray, List.set_cons_zero, List.set_cons_succ]
          refine AnyL.pure 26 (some 85) (v := .int .u32 q) rfl rfl (by kernel_rfl) (by kernel_rfl) (by kernel_rfl) (fun _ _ _ h => h) (by kernel_rfl) (by kernel_rfl) (fun V hV => by obtain ⟨m, rfl⟩ := hV; go_simp) ?_
          simp only [Act.put, List.setIfInBounds_toArray, List.set_cons_zero, List.set_cons_succ]
          refine AnyL.pure 27 (some 86) (v := .int .u32 q10) rfl rfl (by kernel_rfl) (by kernel_rfl) (by kernel_rfl) (fun _ _ _ h => h) (by kernel_rfl) (by kernel_rfl) (fun V hV => by obtain ⟨m, rfl⟩ := hV; go_simp) ?_
          simp only [Act.put, List.setIfInBounds_toArray, List.set_cons_zero, List.set_cons_succ]
          refine AnyL.pure 28 (some 87) (v := .int .u32 v4) rfl rfl (by kernel_rfl) (by kernel_rfl) (by kernel_rfl) (fun _ _ _ h => h) (by kernel_rfl) (by kernel_rfl) (fun V hV => by obtain ⟨m, rfl⟩ := hV; go_simp) ?_
          simp only [Act.put, List.setIfInBounds_toArray, List.set_cons_zero, List.set_cons_succ]
          refine AnyL.pure 29 (some 88) (v := .int .u32 y3) rfl rfl (by kernel_rfl) (by kernel_rfl) (by kernel_rfl) (fun _ _ _ h => h) (by kernel_rfl) (by kernel_rfl) (fun V hV => by obtain ⟨m, rfl⟩ := hV; go_simp) ?_
          simp only [Act.put, List.setIfInBounds_toArray, List.set_cons_zero, List.set_cons_succ]
          refine AnyL.late (i := 30) (by kernel_rfl) (by decide) ?_
          rintro V ⟨m, rfl⟩
          have HRV : Hid (Row (wr.drew.drewN m) w.heap.size (.slice (some ⟨g, 0, none⟩) ((spreadL s.data.toList).take (16 + k)).length cap) ((spreadL s.data.toList).take (16 + k)) ∧ Below w.heap.size w (wr.drew.drewN m) ∧ w.heap.size ≤ (wr.drew.drewN m).heap.size) :=
            Lib.hid ⟨HR.out.1, ⟨HR.out.2.1.os, HR.out.2.1.tape, HR.out.2.1.output, HR.out.2.1.size, HR.out.2.1.block⟩, HR.out.2.2⟩
          generalize wr.drew.drewN m = V at *
          rw [HL.out] at HRV
          clear HR
          refine wpOp_value (some 89) (v := .slice (some ⟨V.heap.size, 0, none⟩) 1 1) (w' := V.alloc (.cells #[.int .u32 y3] 87)) rfl rfl (by kernel_rfl) (by go_simp) ?_
          simp only [Act.put, List.setIfInBounds_toArray, List.set_cons_zero, List.set_cons_succ]
          refine any_one (i := 31) (by kernel_rfl) ?_
          clear m16 m7 j0 j9 n9 r1 r2 r3 r4 r5 r6 r7 r8 r9
          refine wpOp_wp rfl (by kernel_rfl) ?_
          refine wp_append_own _ (.tmp 59) (.tmp 89) 88 rfl w.heap.size 87 i0 (.int .u32 0) 1 4 Tryd.underlying88 HI.out HZ0.out HZ1.out HZ2.out rfl (by decide) (.slice (some ⟨g, 0, none⟩) n cap) ((spreadL s.data.toList).take (16 + k)).length _ (by simp [Act.eval]) (by rw [HN.out]; exact World.ownsRow.alloc HRV.out.1 _) ⟨V.heap.size, 0, none⟩ 1 1 [.int .u32 y3] (by simp [Act.eval]) rfl (by exact World.news_of_block (heap_alloc_new _ _)) (by simp [Value.oneCell']) (by rw [HL.out]; unfold maxLen; omega) (by rw [HL.out]; omega) (by simp; have := HRV.out.2.2; omega) ?_
          intro v' w' hown hgr _
          have HR2 : Hid (Row w' w.heap.size v' ((spreadL s.data.toList).take (16 + (k + 1))) ∧ Below w.heap.size w w' ∧ w.heap.size ≤ w'.heap.size) := by
            rw [HN.out] at hgr
            rw [show 16 + (k + 1) = 16 + k + 1 by omega]
            exact Lib.hid (Row.step (k := 16 + k) HRV.out.1 HRV.out.2.1 HRV.out.2.2 (by rw [show 16 + k = k + 16 by omega]; exact HY3.out) hown hgr)
          clear hown hgr HRV
          simp only [Act.put, List.setIfInBounds_toArray]
          refine any_take 32 (some 3) (v := v') rfl rfl (by kernel_rfl) (by kernel_rfl) (by kernel_rfl) (fun _ _ _ h => h) (by kernel_rfl) (fun V => by go_simp) ?_
          refine wpAny_done (by kernel_rfl) ?_ _
          simp only [Act.put]
          rw [HEI.out]
          go_wp2_with fail
          refine ⟨?_, ?_⟩
          · repeat apply Exists.intro
            refine ⟨⟨k + 1, by rw [show k + 1 + 16 = k + 16 + 1 by omega, Int.natCast_add, Int.natCast_add]; rfl, by omega, HR2⟩, rfl⟩
          · show 64 - ((k : Int) + 16 + 1).toNat < 64 - (((k + 16 : Nat) : Int)).toNat
            omega
        · obtain rfl : k = 48 := by omega
          have e1 : (spreadL s.data.toList).take (16 + 48) = spreadL s.data.toList := List.take_of_length_le (by rw [spreadL_length]; omega)
          rw [e1] at HR
          clear e1
          go_wp2_with fail
          go_ret
          exact ⟨_, rfl, HR.out.1, HR.out.2.1⟩
end Go.Proofs.YtiogjmlkogeibaaDoor.dig
