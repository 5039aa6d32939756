/- Texts laid into one: DigB, DigC. -/
import Derived.Test.YtcdedkgkingbdaaGreatDoorQ000
import Derived.Deep.QuietTactic
import Derived.BigQuiet
import Derived.Lib.Hide
import Derived.Lib.ItoaWalk
import Derived.StillTailTactics
section
/- digest: turning a word. -/
namespace Go.Proofs.YtcdedkgkingbdaaGreatDoor.dig
open Go Go.RowKit

set_option maxHeartbeats 400000 in
theorem dturn_calls (x : Int) (n : Nat) (hx : W x) (h1 : 1 ≤ n) (h2 : n ≤ 31) (w : World) :
    Calls Tryz.prog 188 #[.int .u32 x, .int .i64 n] w fun en w' => en = .returned (.int .u32 (rot n x)) ∧ w = w' := by
  have hn1 : (1 : Int) ≤ n := by omega
  have hn2 : (n : Int) ≤ 31 := by omega
  obtain ⟨m, hm⟩ : ∃ m, n + m = 32 := ⟨32 - n, by omega⟩
  have hb : bits .and .u64 (IntKind.u64.wrap (-(n : Int))) 31 = (m : Int) := by
    rw [and31, show IntKind.u64.wrap (-(n : Int)) = (-(n : Int)) % 18446744073709551616 from by unfold IntKind.wrap; simp [IntKind.bits, IntKind.signed]]
    omega
  have hc : bits .or .u32 (x * 2 ^ m % 4294967296) (x / 2 ^ (32 - m)) = rot n x := by
    rw [← rot_code n x hx h1 h2, show 32 - n = m by omega, u32_wrap, show 32 - m = n by omega]
  have hm1 : (m : Int) ≤ 31 := by omega
  have HM := Lib.hid hm
  clear hm
  go_enter Tryz.func188, Tryz.ntmps188
  go_wp2
  go_ret
  exact ⟨rfl, rfl⟩
end Go.Proofs.YtcdedkgkingbdaaGreatDoor.dig
end

section
/- digest: the 64 words of a block. -/
namespace Go.Proofs.YtcdedkgkingbdaaGreatDoor.dig
open Go Go.RowKit

def wordV (x : Int) : Value := .int .u32 x
def wordsOf (l : List Int) : Array Value := (l.map wordV).toArray
theorem wordsOf_size (l : List Int) : (wordsOf l).size = l.length := by simp [wordsOf]
theorem wordsOf_at (l : List Int) (i : Nat) (x : Int) (h : l[i]? = some x) : (wordsOf l)[i]? = some (wordV x) := by simp [wordsOf, h]
theorem wordsOf_set (l : List Int) (i : Nat) (x : Int) : (wordsOf l).setIfInBounds i (wordV x) = wordsOf (l.set i x) := by
  unfold wordsOf
  rw [List.map_set]
  simp
theorem wordsOf_one (l : List Int) : (wordsOf l).all (·.oneCell') = true := by
  rw [Array.all_eq_true_iff_forall_mem]
  intro v hv
  simp [wordsOf] at hv
  obtain ⟨c, _, rfl⟩ := hv
  rfl

section
variable {P : Program}
/-- A whole row of words is loaded. -/
theorem wpList_load_words {w : World} {ops : Array Oper} {rest : List Oper} {o : Oper} {a : Act} {Q : Exit → Act → World → Prop} (hgd : o.guard = none) (ty : TypeId) (x : Operand) (ho : o.op = .load ty x)
    (g : Nat) (hx : a.eval x = .pointer (some ⟨g, 0, none⟩)) (t : TypeId) (xs : List Int) (e : TypeId) (n : Nat) (hg : Has w g t (wordsOf xs))
    (hu : P.underlying ty = some (.array n e)) (hi : (P.info? ty).map (·.size) = some n) (hl : xs.length = n)
    (h : wpList P ops Q rest (a.put o.dst (.agg (wordsOf xs))) w) : wpList P ops Q (o :: rest) a w :=
  wpList_load_row hgd ty x ho g hx t (wordsOf xs) (0, 0) _ hg hu rfl (by rw [hi, wordsOf_size, hl]) h
/-- A whole row of words is stored: its block behind it, in a world that is a letter. -/
theorem wpList_store_words {w : World} {ops : Array Oper} {rest : List Oper} {o : Oper} {a : Act} {Q : Exit → Act → World → Prop} (hgd : o.guard = none) (ty : TypeId) (x y : Operand) (ho : o.op = .store ty x y)
    (g : Nat) (xs old : List Int) (hx : a.eval x = .pointer (some ⟨g, 0, none⟩)) (hy : a.eval y = .agg (wordsOf xs))
    (t : TypeId) (hg : Has w g t (wordsOf old)) (n : Nat) (hi : (P.info? ty).map (·.size) = some n) (hn : old.length = n) (hl : xs.length = n)
    (h : ∀ w', Has w' g t (wordsOf xs) → Turn (fun k => k = g) w w' → wpList P ops Q rest (a.put o.dst undef) w') : wpList P ops Q (o :: rest) a w :=
  wpList_store_row hgd ty x y ho g (wordsOf xs) hx hy t (wordsOf old) hg (by rw [hi, wordsOf_size, hl]) (by rw [wordsOf_size, wordsOf_size, hl, hn]) (wordsOf_one xs)
    (h _ (hg.row _) (turn_row _ _ _))
end

theorem run_index_arr {P : Program} (t e : TypeId) (n : Nat) (cs : Array Value) (k : IntKind) (i : Nat) (v : Value) (hu : P.underlying t = some (.array n e)) (hk : P.plainKey e = true)
    (hs : (P.info? e).map (·.size) = some 1) (hi : i < n) (hv : cs[i]? = some v) (w : World) : (Instr.index t (.agg cs) (.int k i)).run P w = .ok v w := by
  have h1 := run_part_plain (P := P) w hk hv
  have h2 : (0 : Int) ≤ (i : Int) ∧ (i : Int) < (n : Int) := by omega
  cases hq : P.info? e with
  | none => simp [hq] at hs
  | some z =>
    have hz : z.size = 1 := by simpa [hq] using hs
    simp [Instr.index, asIntOf, run_underlying hu, sizeOf, typeInfo, hq, hz, h1]
    intro h3
    omega

/-- The words that the first k bytes make. -/
def packed (xs : List UInt8) (k : Nat) : List Int := (List.range 64).map fun j => pk (((xs.take k).drop (4 * j)).take 4)
theorem packed_length (xs : List UInt8) (k : Nat) : (packed xs k).length = 64 := by simp [packed]
theorem packed_get (xs : List UInt8) (k j : Nat) (h : j < 64) : (packed xs k)[j]? = some (pk (((xs.take k).drop (4 * j)).take 4)) := by
  simp [packed, h]
theorem pk_push (xs : List UInt8) (b : UInt8) : pk (xs ++ [b]) = pk xs * 256 + (b.toNat : Int) := by
  unfold pk
  rw [List.foldl_append]
  rfl
theorem take4_same (T : List UInt8) (b : UInt8) (j : Nat) (h : T.length / 4 = j) : ((T ++ [b]).drop (4 * j)).take 4 = (T.drop (4 * j)).take 4 ++ [b] := by
  have hd : (T.drop (4 * j)).length = T.length - 4 * j := List.length_drop
  rw [List.drop_append_of_le_length (by omega), List.take_of_length_le (by rw [List.length_append, hd, List.length_singleton]; omega), List.take_of_length_le (by omega)]
theorem take4_other (T : List UInt8) (b : UInt8) (j : Nat) (h : ¬ T.length / 4 = j) : ((T ++ [b]).drop (4 * j)).take 4 = (T.drop (4 * j)).take 4 := by
  have hd : (T.drop (4 * j)).length = T.length - 4 * j := List.length_drop
  by_cases h1 : j < T.length / 4
  · rw [List.drop_append_of_le_length (by omega), List.take_append_of_le_length (by omega)]
  · have h2 : (T ++ [b]).length ≤ 4 * j := by rw [List.length_append, List.length_singleton]; omega
    have h3 : T.length ≤ 4 * j := by omega
    rw [List.drop_of_length_le h2, List.drop_of_length_le h3]
theorem packed_step (xs : List UInt8) (k : Nat) (b : UInt8) (hb : xs[k]? = some b) :
    packed xs (k + 1) = (packed xs k).set (k / 4) (pk (((xs.take k).drop (4 * (k / 4))).take 4) * 256 + (b.toNat : Int)) := by
  have hkl : k < xs.length := (List.getElem?_eq_some_iff.1 hb).1
  have ht : xs.take (k + 1) = xs.take k ++ [b] := by
    rw [List.take_add_one, hb]
    rfl
  have hl : (xs.take k).length = k := by simp; omega
  apply List.ext_getElem?
  intro j
  by_cases hj : j < 64
  · rw [packed_get _ _ _ hj, ht]
    by_cases e : k / 4 = j
    · subst e
      rw [List.getElem?_set_self (by rw [packed_length]; omega), ← pk_push, take4_same _ _ _ (by rw [hl])]
    · rw [List.getElem?_set_ne e, packed_get _ _ _ hj, take4_other _ _ _ (by rw [hl]; exact e)]
  · rw [List.getElem?_eq_none (by rw [packed_length]; omega), List.getElem?_eq_none (by rw [List.length_set, packed_length]; omega)]
theorem packed_zero (xs : List UInt8) : packed xs 0 = List.replicate 64 0 := by
  unfold packed
  simp only [List.take_zero, List.drop_nil, List.take_nil]
  rfl
theorem firsts_get (xs : List UInt8) (j : Nat) (h : j < 16) : (firsts xs)[j]? = some (pk ((xs.drop (4 * j)).take 4)) := by simp [firsts, h]
theorem packed_all (xs : List UInt8) (h : xs.length = 64) : packed xs 64 = firsts xs ++ List.replicate 48 0 := by
  apply List.ext_getElem?
  intro j
  by_cases hj : j < 64
  · have e : xs.take 64 = xs := List.take_of_length_le (by omega)
    rw [packed_get _ _ _ hj, e]
    by_cases h1 : j < 16
    · rw [List.getElem?_append_left (by rw [firsts_length]; exact h1), firsts_get _ _ h1]
    · rw [List.getElem?_append_right (by rw [firsts_length]; omega), List.drop_of_length_le (by omega), firsts_length]
      rw [List.getElem?_replicate, if_pos (by omega)]
      rfl
  · rw [List.getElem?_eq_none (by rw [packed_length]; omega), List.getElem?_eq_none (by rw [List.length_append, firsts_length, List.length_replicate]; omega)]
theorem packed_lt (xs : List UInt8) (k : Nat) : 0 ≤ pk (((xs.take k).drop (4 * (k / 4))).take 4) ∧ pk (((xs.take k).drop (4 * (k / 4))).take 4) < 16777216 := by
  obtain ⟨h1, h2⟩ := pk_lt (((xs.take k).drop (4 * (k / 4))).take 4)
  refine ⟨h1, Int.lt_of_lt_of_le h2 ?_⟩
  have hl : ((((xs.take k).drop (4 * (k / 4))).take 4)).length ≤ 3 := by simp; omega
  generalize (((xs.take k).drop (4 * (k / 4))).take 4).length = m at hl
  have : m = 0 ∨ m = 1 ∨ m = 2 ∨ m = 3 := by omega
  rcases this with rfl | rfl | rfl | rfl <;> decide

/-- The words when k more are there. -/
def grown (xs : List UInt8) (k : Nat) : List Int := exts k (firsts xs) ++ List.replicate (48 - k) 0
theorem grown_zero (xs : List UInt8) (h : xs.length = 64) : grown xs 0 = packed xs 64 := (packed_all xs h).symm
theorem grown_all (xs : List UInt8) : grown xs 48 = spreadL xs := by
  unfold grown spreadL
  simp
theorem grown_length (xs : List UInt8) (k : Nat) (h : k ≤ 48) : (grown xs k).length = 64 := by
  unfold grown
  rw [List.length_append, exts_length, firsts_length, List.length_replicate]
  omega
/-- The j-th of them. -/
def wordAt (xs : List UInt8) (j : Nat) : Int := (spreadL xs).getD j 0
theorem W_wordAt (xs : List UInt8) (j : Nat) : W (wordAt xs j) := by
  have hL := W_spreadL xs
  unfold wordAt
  generalize spreadL xs = L at *
  rw [List.getD_eq_getElem?_getD]
  cases h : L[j]? with
  | none => exact ⟨by simp, by simp⟩
  | some x => exact hL x (List.mem_of_getElem? h)
theorem exts_at (xs : List UInt8) (k j : Nat) (hk : k ≤ 48) (hj : j < 16 + k) : (exts k (firsts xs))[j]? = some (wordAt xs j) := by
  have h1 : (spreadL xs)[j]? = (exts k (firsts xs))[j]? := by
    unfold spreadL
    exact exts_get (firsts xs) 48 k j hk (by rw [firsts_length]; exact hj)
  have h2 : j < (spreadL xs).length := by rw [spreadL_length]; omega
  rw [← h1]
  unfold wordAt
  rw [List.getD_eq_getElem?_getD, List.getElem?_eq_getElem h2, Option.getD_some]
theorem grown_get (xs : List UInt8) (k j : Nat) (hk : k ≤ 48) (hj : j < 16 + k) : (grown xs k)[j]? = some (wordAt xs j) := by
  unfold grown
  rw [List.getElem?_append_left (by rw [exts_length, firsts_length]; omega), exts_at xs k j hk hj]
theorem grown_next (xs : List UInt8) (k : Nat) (hk : k < 48) :
    (grown xs k).set (k + 16) (next (wordAt xs k) (wordAt xs (k + 9)) (wordAt xs (k + 1)) (wordAt xs (k + 14))) = grown xs (k + 1) := by
  have hl : (exts k (firsts xs)).length = 16 + k := by rw [exts_length, firsts_length]
  have g : ∀ j, j < 16 + k → (exts k (firsts xs)).getD j 0 = wordAt xs j := fun j hj => by
    rw [List.getD_eq_getElem?_getD, exts_at xs k j (by omega) hj, Option.getD_some]
  unfold grown
  rw [exts, ext, hl, List.set_append_right _ _ (by omega), hl, show 48 - k = (48 - (k + 1)) + 1 by omega, List.replicate_succ, show k + 16 - (16 + k) = 0 by omega, List.set_cons_zero, List.append_assoc]
  rw [g _ (by omega), g _ (by omega), g _ (by omega), g _ (by omega)]
  rw [show 16 + k - 16 = k by omega, show 16 + k - 7 = k + 9 by omega, show 16 + k - 15 = k + 1 by omega, show 16 + k - 2 = k + 14 by omega]
  simp only [List.cons_append, List.nil_append]
theorem next_eq (a b p q : Int) : (a + b + bits .xor .u32 (bits .xor .u32 (rot 7 p) (rot 18 p)) (p / 8) + bits .xor .u32 (bits .xor .u32 (rot 17 q) (rot 19 q)) (q / 1024)) % 4294967296 = next a b p q := by
  unfold next ad xo
  generalize bits .xor .u32 (bits .xor .u32 (rot 7 p) (rot 18 p)) (p / 8) = X
  generalize bits .xor .u32 (bits .xor .u32 (rot 17 q) (rot 19 q)) (q / 1024) = Y
  omega
theorem still_tail_at {P : Program} {id : Nat} {Q : Exit → Act → World → Prop} {a : Act} {w : World} {l : List Oper} (V : World) (hV : V = w.drew) (n : Nat) (hm : P.follows .mixedOrders = true) (hB : Region.lexTailB .any l.toArray n = true)
    (h : wpStill P l.toArray V (fun a' => wpList P l.toArray Q (l.drop n) a' V) (l.take n) a) : (Code.region id l.toArray true).wp P Q a w := by
  subst hV
  exact wp_region_still_tail n hm hB h
/-- What lasts while spread runs. -/
structure Sp (w : World) (g2 g : Nat) (l : List Int) (w' : World) : Prop where
  own : Has w' g 321 (wordsOf l)
  res : Has w' g2 321 (wordsOf (List.replicate 64 0))
  lo : w.heap.size ≤ g2
  lt : g2 < g
  below : Below w.heap.size w w'

theorem Sp.put {w w' : World} {g2 g : Nat} {l : List Int} (h : Sp w g2 g l w') (i : Nat) (x : Int) : Sp w g2 g (l.set i x) (w'.setCell ⟨g, i, none⟩ (.int .u32 x)) := by
  have e := h.own.put i (wordV x)
  rw [wordsOf_set] at e
  exact ⟨e, h.res.far (p := ⟨g, i, none⟩) (by have := h.lt; simp; omega) _, h.lo, h.lt, h.below.setCell (by have := h.lt; have := h.lo; simp; omega) _⟩
theorem Sp.drewN {w w' : World} {g2 g : Nat} {l : List Int} (h : Sp w g2 g l w') (n : Nat) : Sp w g2 g l (w'.drewN n) := ⟨h.own, h.res, h.lo, h.lt, ⟨h.below.os, h.below.tape, h.below.output, h.below.size, h.below.block⟩⟩
theorem Sp.drew {w w' : World} {g2 g : Nat} {l : List Int} (h : Sp w g2 g l w') : Sp w g2 g l w'.drew := ⟨h.own, h.res, h.lo, h.lt, ⟨h.below.os, h.below.tape, h.below.output, h.below.size, h.below.block⟩⟩

set_option maxRecDepth 100000 in
set_option maxHeartbeats 1000000 in
theorem dspread_calls (xs : List UInt8) (hl : xs.length = 64) (w : World) :
    Calls Tryz.prog 187 #[.agg (cellsOf xs)] w fun en w' => en = .returned (.agg (wordsOf (spreadL xs))) ∧ Below w.heap.size w w' := by
  have HL := Lib.hid hl
  go_enter Tryz.func187, Tryz.ntmps187
  go_wp2_with (first
    | ((with_reducible refine at_op 9 ?_); refine wpList_load_arr (o := ⟨some 9, _, _, _, _, _⟩) rfl 316 _ rfl w.heap.size rfl _ xs 5 64 (((Has.made w _ _).alloc _).alloc _) Tryz.underlying316 (by kernel_rfl) hl ?_)
    | fail)
  clear hl
  go_name_world W hW
  have S0 : Hid (Sp w (w.heap.size + 1) (w.heap.size + 1 + 1) (packed xs 0) W) := by
    show Sp _ _ _ _ _
    rw [← hW, packed_zero]
    refine ⟨made_at _ _ (by simp), (made_at _ _ (by simp)).alloc _, by omega, by omega, (((Below.refl w.heap.size w).alloc (Nat.le_refl _) _).alloc (by simp) _).alloc (by simp; omega) _⟩
  clear hW
  generalize w.heap.size + 1 + 1 = g at *
  generalize w.heap.size + 1 = g2 at *
  go_loopw [10] (fun i wr => ∃ k : Nat, i = .int .i64 k ∧ k ≤ 64 ∧ Hid (Sp w g2 g (packed xs k) wr)) (fun i _ => 64 - (intOf i).toNat)
  case atStart => exact ⟨0, rfl, by omega, S0⟩
  case round =>
    obtain ⟨k, rfl, hk, HS⟩ := hrel
    clear S0
    by_cases h : k < 64
    · have hk1 : (k : Int) < 64 := by omega
      obtain ⟨b, hb⟩ : ∃ b, xs[k]? = some b := ⟨xs[k]'(by rw [HL.out]; exact h), List.getElem?_eq_getElem _⟩
      have hidx : ∀ w, (Instr.index 316 (.agg (cellsOf xs)) (.int .i64 k)).run Tryz.prog w = .ok (.int .u8 (b.toNat : Nat)) w :=
        run_index_arr 316 5 64 (cellsOf xs) .i64 k _ Tryz.underlying316 (by kernel_rfl) (by kernel_rfl) h (cells_at xs k b hb)
      have e1 := packed_step xs k b hb
      obtain ⟨l0, l1⟩ := packed_lt xs k
      have e2 := packed_get xs k (k / 4) (by omega)
      generalize pk (((xs.take k).drop (4 * (k / 4))).take 4) = p at *
      have c0 : wr.cell? ⟨g, k / 4, none⟩ = some (.int .u32 p) := (HS.out.own.cell _).trans (wordsOf_at _ _ _ e2)
      have f0 : wr.frozen? ⟨g, k / 4, none⟩ = false := HS.out.own.free _
      have hp := push_code p b l0 l1
      rw [u32_wrap, Int.emod_eq_of_lt (by omega) (by omega)] at hp
      have hb2 := b.toNat_lt
      have E1 := Lib.hid e1
      have HSP := Lib.hid (HS.out.put (k / 4) (p * 256 + (b.toNat : Int)))
      clear e1 e2 hb HS
      go_wp2_with fail
      refine ⟨⟨k + 1, by rw [Int.natCast_add]; rfl, by omega, by rw [E1.out]; exact HSP⟩, ?_⟩
      show 64 - ((k : Int) + 1).toNat < 64 - ((k : Int)).toNat
      omega
    · obtain rfl : k = 64 := by omega
      have S1 : Hid (Sp w g2 g (grown xs 0) wr) := by rw [grown_zero xs HL.out]; exact HS
      clear HS
      go_wp2_with fail
      go_loopw [6] (fun i wr => ∃ k : Nat, i = .int .i64 (k + 16 : Nat) ∧ k ≤ 48 ∧ Hid (Sp w g2 g (grown xs k) wr)) (fun i _ => 64 - (intOf i).toNat)
      case atStart => exact ⟨0, rfl, by omega, S1⟩
      case round =>
        obtain ⟨k, rfl, hk, HS⟩ := hrel
        clear S1
        by_cases h : k < 48
        · have hk1 : (k : Int) < 48 := by omega
          have hk2 : (0 : Int) ≤ (k : Int) := by omega
          have c1 : wr.cell? ⟨g, k + 1, none⟩ = some (.int .u32 (wordAt xs (k + 1))) := (HS.out.own.cell _).trans (wordsOf_at _ _ _ (grown_get xs k _ (by omega) (by omega)))
          have c14 : wr.cell? ⟨g, k + 14, none⟩ = some (.int .u32 (wordAt xs (k + 14))) := (HS.out.own.cell _).trans (wordsOf_at _ _ _ (grown_get xs k _ (by omega) (by omega)))
          have c9 : wr.cell? ⟨g, k + 9, none⟩ = some (.int .u32 (wordAt xs (k + 9))) := (HS.out.own.cell _).trans (wordsOf_at _ _ _ (grown_get xs k _ (by omega) (by omega)))
          have c0 : wr.cell? ⟨g, k, none⟩ = some (.int .u32 (wordAt xs k)) := (HS.out.own.cell _).trans (wordsOf_at _ _ _ (grown_get xs k _ (by omega) (by omega)))
          obtain ⟨v16, c16⟩ : ∃ v, wr.cell? ⟨g, k + 16, none⟩ = some v := by
            rw [HS.out.own.cell]
            exact ⟨_, Array.getElem?_eq_getElem (by rw [wordsOf_size, grown_length xs k (by omega)]; omega)⟩
          have f16 : wr.frozen? ⟨g, k + 16, none⟩ = false := HS.out.own.free _
          obtain ⟨a1, a2⟩ := W_wordAt xs (k + 1)
          obtain ⟨b1, b2⟩ := W_wordAt xs (k + 14)
          have HN := Lib.hid (grown_next xs k h)
          have HA := Lib.hid (W_wordAt xs (k + 1))
          have HB := Lib.hid (W_wordAt xs (k + 14))
          generalize wordAt xs (k + 1) = p at *
          generalize wordAt xs (k + 14) = q at *
          generalize wordAt xs (k + 9) = x9 at *
          generalize wordAt xs k = x0 at *
          go_wp2_with fail
          go_quiet (fail)
          obtain ⟨V, hV⟩ : ∃ V, V = (wr.drewN nq).drew := ⟨_, rfl⟩
          go_wp2_with fail
          have HS2 : Hid (Sp w g2 g ((grown xs k).set (k + 16) (next x0 x9 p q)) (V.setCell ⟨g, k + 16, none⟩ (.int .u32 (next x0 x9 p q)))) := by rw [hV]; exact Lib.hid ((HS.out.drewN _).drew.put _ _)
          have i0 : IntKind.i64.wrap (k : Int) = (k : Int) := IntWalk.i64_in _ ⟨by omega, by omega⟩
          have i9 : IntKind.i64.wrap ((k : Int) + 16 - 7) = (k : Int) + 9 := by rw [IntWalk.i64_in _ ⟨by omega, by omega⟩]; omega
          have j0 : (0 : Int) ≤ (k : Int) ∧ (k : Int) < 64 := ⟨by omega, by omega⟩
          have j9 : (0 : Int) ≤ (k : Int) + 9 ∧ (k : Int) + 9 < 64 := ⟨by omega, by omega⟩
          have j16 : (0 : Int) ≤ (k : Int) + 16 ∧ (k : Int) + 16 < 64 := ⟨by omega, by omega⟩
          have n9 : ((k : Int) + 9).toNat = k + 9 := by omega
          have n16 : ((k : Int) + 16).toNat = k + 16 := by omega
          refine still_tail_at V hV 29 (by kernel_rfl) (by kernel_rfl) ?_
          have c0 : V.cell? ⟨g, k, none⟩ = some (.int .u32 x0) := by rw [hV]; exact c0
          have c9 : V.cell? ⟨g, k + 9, none⟩ = some (.int .u32 x9) := by rw [hV]; exact c9
          have c16 : V.cell? ⟨g, k + 16, none⟩ = some v16 := by rw [hV]; exact c16
          have f16 : V.frozen? ⟨g, k + 16, none⟩ = false := by rw [hV]; exact f16
          clear hV HS c1 c14
          simp only [List.take_succ_cons, List.take_zero, List.drop_succ_cons, List.drop_zero]
          repeat still_step
          still_call ((dturn_calls p 7 HA.out (by omega) (by omega) _).mono fun _ _ h => ⟨h.1, h.2.symm⟩)
          repeat still_step
          still_call ((dturn_calls p 18 HA.out (by omega) (by omega) _).mono fun _ _ h => ⟨h.1, h.2.symm⟩)
          repeat still_step
          still_call ((dturn_calls q 17 HB.out (by omega) (by omega) _).mono fun _ _ h => ⟨h.1, h.2.symm⟩)
          repeat still_step
          still_call ((dturn_calls q 19 HB.out (by omega) (by omega) _).mono fun _ _ h => ⟨h.1, h.2.symm⟩)
          repeat still_step
          refine wpStill_nil ?_
          clear c0 c9 i0 i9 j0 j9 n9
          go_wp2_with fail
          have HS3 := HS2.out
          rw [HN.out] at HS3
          refine ⟨?_, ?_⟩
          · repeat apply Exists.intro
            refine ⟨⟨k + 1, by rw [show k + 1 + 16 = k + 16 + 1 by omega, Int.natCast_add, Int.natCast_add]; rfl, by omega, ?_⟩, rfl⟩
            rw [next_eq]
            exact HS3
          · show 64 - ((k : Int) + 16 + 1).toNat < 64 - (((k + 16 : Nat) : Int)).toNat
            omega
        · obtain rfl : k = 48 := by omega
          rw [grown_all] at HS
          go_wp2_with (first
            | ((with_reducible refine at_op 67 ?_); refine wpList_load_words (o := ⟨some 67, _, _, _, _, _⟩) rfl 321 _ rfl g rfl _ (spreadL xs) 291 64 HS.out.own Tryz.underlying321 (by kernel_rfl) (spreadL_length xs) ?_)
            | (refine wpList_store_words (o := ⟨none, _, _, _, _, _⟩) rfl 321 _ _ rfl g2 (spreadL xs) (List.replicate 64 0) rfl rfl _ HS.out.res 64 (by kernel_rfl) rfl (spreadL_length xs) ?_; intro W2 HW2 TW2)
            | fail)
          have B2 := Lib.hid (HS.out.below.trans (TW2.below (B := w.heap.size) HS.out.below.size (fun j hj e => by have := HS.out.lo; omega)))
          exact bodyPost_ret (v := .agg (wordsOf (spreadL xs))) (results_cell_row rfl _ _ g2 321 _ _ _ rfl HW2 Tryz.underlying321 rfl (by rw [wordsOf_size, spreadL_length]; kernel_rfl)) rfl ⟨rfl, B2.out⟩
end Go.Proofs.YtcdedkgkingbdaaGreatDoor.dig
end

