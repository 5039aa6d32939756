/- What each call of wire's Writer does: the bytes that are written, behind it. -/
import Derived.Test.YtlbpephbigikcabArr
namespace Go.Proofs.Ytlbpephbigikcab
open Go.RowKit



/-- A writer at block b, its bytes in row r. -/
def Wr (w : World) (b : Nat) (r : Option Nat) (xs : List UInt8) : Prop :=
  ∃ v, Has w b 80 #[v] ∧ w.ownsRow 0 5 1 v xs.length (xs.map byteV) ∧ v.ownBlock = r ∧ r ≠ some b

/-- The digits of what is above the last seven bits. -/
def hi (n : Nat) : List UInt8 := if n = 0 then [] else hi (n / 128) ++ [UInt8.ofNat (128 + n % 128)]
termination_by n
decreasing_by omega

def enc (n : Nat) : List UInt8 := hi (n / 128) ++ [UInt8.ofNat (n % 128)]

/-- Behind a writer's call: the bytes xs stand there, only its own blocks have turned. -/
def WrPost (w : World) (b : Nat) (r : Option Nat) (xs : List UInt8) (en : Ending) (w' : World) : Prop :=
  en = .returned (.pointer (some ⟨b, 0, none⟩)) ∧ ∃ r', Wr w' b r' xs ∧ (r' = r ∨ ∃ k, r' = some k ∧ w.heap.size ≤ k) ∧ Turn (fun k => k = b ∨ some k = r) w w'

theorem Try.infoByte : (Try.prog.info? 5).map (fun i => (i.zero, i.size, i.bytes)) = some (some (.int .u8 0), 1, 1) := by kernel_rfl

/-- The byte that bears seven bits and the mark. -/
def dig (n k : Nat) : UInt8 := UInt8.ofNat (128 + n / 2 ^ (7 * k) % 128)
def low (n : Nat) : UInt8 := UInt8.ofNat (n % 128)

theorem pow7 (n k : Nat) : n / 2 ^ (7 * (k + 1)) = n / 2 ^ (7 * k) / 128 := by
  rw [Nat.mul_succ, Nat.pow_add, ← Nat.div_div_eq_div_mul]

theorem hi_zero : hi 0 = [] := by rw [hi, if_pos rfl]

theorem hi_step (n k : Nat) (h : 0 < n / 2 ^ (7 * k)) : hi (n / 2 ^ (7 * k)) = hi (n / 2 ^ (7 * (k + 1))) ++ [dig n k] := by
  rw [hi, if_neg (by omega), pow7]; rfl

theorem enc_eq (n : Nat) : enc n = hi (n / 2 ^ (7 * (0 + 1))) ++ [low n] := rfl

theorem wrap_u8 (n : Nat) : IntKind.u8.wrap (n : Int) = ((n % 256 : Nat) : Int) := by
  rw [IntKind.wrap_u8]; omega

theorem or_mark (n k : Nat) : bits .or .u8 (IntKind.u8.wrap ((n : Int) / 2 ^ (7 * k))) 128 = ((dig n k).toNat : Int) := by
  have e : ((n : Int) / 2 ^ (7 * k)) = ((n / 2 ^ (7 * k) : Nat) : Int) := by simp
  rw [e, wrap_u8]
  unfold dig
  generalize n / 2 ^ (7 * k) = m at *
  have hh := u8_or_nat (m % 256) 128 (by omega) (by omega)
  have e2 : m % 256 ||| 128 = 128 + m % 128 := by
    have h1 := Nat.shiftLeft_add_eq_or_of_lt (a := 1) (b := m % 128) (i := 7) (by omega)
    have h2 : m % 256 ||| 128 = 128 ||| m % 128 := by
      rw [Nat.or_comm]
      have h3 : m % 256 = m % 128 ∨ m % 256 = 128 + m % 128 := by omega
      rcases h3 with h3 | h3
      · rw [h3]
      · rw [h3]
        have h4 : 128 + m % 128 = 128 ||| m % 128 := by simpa using h1
        rw [h4, ← Nat.or_assoc, Nat.or_self]
    rw [h2]
    have h4 : 128 + m % 128 = 128 ||| m % 128 := by simpa using h1
    exact h4.symm
  rw [e2] at hh
  have : (UInt8.ofNat (128 + m % 128)).toNat = 128 + m % 128 := by simp; omega
  rw [this]
  exact hh

theorem andnot_low (n : Nat) : bits .andNot .u8 ((n : Int) % 256) 128 = ((low n).toNat : Int) := by
  have h := u8_andNot_nat (n % 256) 128 (by omega) (by omega)
  have e : n % 256 &&& (255 - 128) = n % 256 % 128 := Nat.and_two_pow_sub_one_eq_mod _ 7
  rw [e] at h
  have : (low n).toNat = n % 256 % 128 := by unfold low; simp; omega
  rw [this]
  exact h

theorem hi_len (k : Nat) : ∀ n, n < 128 ^ k → (hi n).length ≤ k := by
  induction k with
  | zero => intro n hn; have : n = 0 := by omega
            rw [this, hi_zero]; exact Nat.le_refl _
  | succ k ih =>
    intro n hn
    by_cases h : n = 0
    · rw [h, hi_zero]; exact Nat.zero_le _
    · rw [hi, if_neg h, List.length_append, List.length_singleton]
      have := ih (n / 128) (by rw [Nat.pow_succ] at hn; omega)
      omega

theorem hi_len10 (n j : Nat) (h : n < 18446744073709551616) : (hi (n / 2 ^ (7 * j))).length ≤ 10 :=
  hi_len 10 _ (by have := Nat.div_le_self n (2 ^ (7 * j)); omega)

/-- Bytes are appended to a writer's own: the new row, what turns. -/
theorem Wr.grow {w W1 w2 : World} {b g cap n : Nat} {v : Value} {r : Option Nat} {ys : List UInt8} (hb : Has w b 80 #[v]) (hv : v.ownBlock = r) (hne : r ≠ some b)
    (hT : Turn (fun _ => False) w W1) (hg : W1.grownBy w2 v.ownBlock) (hown : w2.ownsRow 0 5 1 (.slice (some ⟨g, 0, none⟩) n cap) n (ys.map byteV)) (hat : v.ownBlock = some g ∨ w.heap.size ≤ g) :
    Wr (w2.setCell ⟨b, 0, none⟩ (.slice (some ⟨g, 0, none⟩) n cap)) b (some g) ys ∧ (some g = r ∨ ∃ k, some g = some k ∧ w.heap.size ≤ k) ∧
      Turn (fun k => k = b ∨ some k = r) w (w2.setCell ⟨b, 0, none⟩ (.slice (some ⟨g, 0, none⟩) n cap)) := by
  have hbg : g ≠ b := by
    rintro rfl
    rcases hat with h | h
    · exact hne (by rw [← hv, h])
    · have := hb.lt; omega
  have hT2 : Turn (fun k => k = b ∨ some k = r) w w2 :=
    (hT.more (fun _ _ h => h.elim)).grown hg (fun j hj _ => .inr (by rw [← hj, hv]))
  have hb2 : Has w2 b 80 #[v] := (hb.turn hT (fun h => h)).grown hg (by rw [hv]; exact fun h => hne h.symm)
  have hn : n = ys.length := by have := hown.1; simpa using this.symm
  subst hn
  refine ⟨⟨_, by simpa using hb2.put 0 (.slice (some ⟨g, 0, none⟩) ys.length cap), ?_, rfl, by intro h; injection h with h; exact hbg h⟩, ?_, hT2.put (fun _ => .inl rfl) 0 _⟩
  · refine ⟨hown.1, ?_⟩
    rcases hown.2 with ⟨h, _⟩ | ⟨g', cap', cur, h1, h2, h3, h4⟩
    · cases h
    · have e : g = g' := by injection h1 with h1; injection h1 with h1; injection h1
      subst e
      exact .inr ⟨g, cap', cur, h1, h2, (Below.heap_setCell w2 _ _ g hbg).trans h3, h4⟩
  · rcases hat with h | h
    · exact .inl (by rw [← hv, h])
    · exact .inr ⟨g, rfl, h⟩

theorem alloc_only (w : World) (o : Obj) : Turn (fun _ => False) w (w.alloc o) := (Turn.refl _ w).alloc o

theorem alloc_still (w : World) (o : Obj) : Turn (fun _ => False) w (w.alloc o).drew := ((Turn.refl _ w).alloc o).drew

set_option maxRecDepth 100000 in
set_option maxHeartbeats 1000000 in
theorem wnum_any (b : Nat) (r : Option Nat) (xs : List UInt8) (n : Nat) (w : World) (hn : n < 18446744073709551616) (h : Wr w b r xs) (hl : xs.length ≤ 1000000) :
    Calls Try.prog 39 #[.pointer (some ⟨b, 0, none⟩), .int .u64 n] w fun en w' => WrPost w b r (xs ++ enc n) en w' := by
  have HN := Lib.hid hn
  have HW := Lib.hid h
  clear hn h
  obtain ⟨i0, hi0, hz0, hz1, hz2⟩ := info_parts Try.infoByte
  go_enter Try.func39, Try.ntmps39
  go_wp2_with fail
  go_loop [5] (fun i => ∃ k : Nat, k ≤ 9 ∧ i = .int .i64 (7 * (k : Int)) ∧ Hid (k = 0 ∨ 0 < n / 2 ^ (7 * k))) (fun i => 100 - (intOf i).toNat)
  case atStart => exact ⟨0, by omega, rfl, .inl rfl⟩
  case round =>
    obtain ⟨k, hk, rfl, HC⟩ := hrel
    by_cases ht : (128 : Int) ≤ (n : Int) / 2 ^ (7 * k)
    · have hk9 : k + 1 ≤ 9 := by
        have e : ((n : Int) / 2 ^ (7 * k)) = ((n / 2 ^ (7 * k) : Nat) : Int) := by simp
        rw [e] at ht
        have h1 : 128 ≤ n / 2 ^ (7 * k) := by omega
        have hn := HN.out
        rcases Nat.lt_or_ge k 9 with h | h
        · omega
        · have h2 : n / 2 ^ (7 * k) ≤ n / 2 ^ (7 * 9) := Nat.div_le_div_left (Nat.pow_le_pow_right (by omega) (by omega)) (Nat.pos_of_ne_zero (by simp))
          omega
      have HC' : Hid (k + 1 = 0 ∨ 0 < n / 2 ^ (7 * (k + 1))) := .inr (by
        rw [pow7]
        have e : ((n : Int) / 2 ^ (7 * k)) = ((n / 2 ^ (7 * k) : Nat) : Int) := by simp
        rw [e] at ht
        clear e
        generalize n / 2 ^ (7 * k) = m at ht ⊢
        omega)
      go_wp2_with fail
      go_round
      case rel => exact ⟨k + 1, hk9, by go_num, HC'⟩
      case measure => simp [intOf]; omega
    · have HK : Hid (n / 2 ^ (7 * k) < 128) := by
        have e : ((n : Int) / 2 ^ (7 * k)) = ((n / 2 ^ (7 * k) : Nat) : Int) := by simp
        rw [e] at ht
        show n / 2 ^ (7 * k) < 128
        omega
      go_wp2_with fail
      go_loopw [5] (fun i w1 => ∃ (j : Nat) (r1 : Option Nat), j ≤ k ∧ i = .int .i64 (7 * (j : Int)) ∧ Hid (Wr w1 b r1 (xs ++ hi (n / 2 ^ (7 * (j + 1))))) ∧ Hid (r1 = r ∨ ∃ k, r1 = some k ∧ w.heap.size ≤ k) ∧ Turn (fun k => k = b ∨ some k = r) w w1) (fun i _ => (intOf i).toNat)
      case atStart =>
        have e : hi (n / 2 ^ (7 * (k + 1))) = [] := by
          rw [pow7]
          have h1 := HK.out
          generalize n / 2 ^ (7 * k) = m at h1 ⊢
          rw [show m / 128 = 0 by omega, hi_zero]
        exact ⟨k, r, Nat.le_refl _, rfl, by rw [e, List.append_nil]; exact HW, .inl rfl, Turn.refl _ _⟩
      case round =>
        obtain ⟨j, r1, hj, rfl, HW1, HR1, HT1⟩ := hrel
        obtain ⟨v, hb, ho, hv, hne⟩ := HW1.out
        have c0 : wr.cell? ⟨b, 0, none⟩ = some v := hb.cell 0
        have hlen : (hi (n / 2 ^ (7 * (j + 1)))).length ≤ 10 := hi_len10 n (j + 1) HN.out
        have hbl := hb.lt
        have HB := Lib.hid hb
        have HO := Lib.hid ho
        have HV := Lib.hid hv
        have HNE := Lib.hid hne
        clear hb ho hv hne
        by_cases hj0 : 0 < j
        · have hor := or_mark n j
          have e7 : (7 * (j : Int)).toNat = 7 * j := by omega
          have HJ : Hid (0 < n / 2 ^ (7 * j)) := by
            rcases HC.out with h | h
            · omega
            · exact Nat.lt_of_lt_of_le h (Nat.div_le_div_left (Nat.pow_le_pow_right (by omega) (by omega)) (Nat.pos_of_ne_zero (by simp)))
          go_wp2_with fail
          go_region_law (refine step_append_lies _ rfl (.tmp 20) (.tmp 26) 63 rfl 0 5 i0 (.int .u8 0) 1 1 Try.underlying63 hi0 hz0 hz1 hz2 rfl (by decide) v (xs ++ hi (n / 2 ^ (7 * (j + 1)))).length _ (by simp [Act.eval]) (by exact (HO.out.alloc _).drew) ⟨wr.heap.size, 0, none⟩ 1 1 [byteV (dig n j)] (by simp [Act.eval]) rfl (by exact World.news_of_block (heap_alloc_new _ _)) (by simp [byteV, Value.oneCell']) (by decide) (by unfold maxLen; simp; omega) (by simp; omega) (Nat.zero_le _) _ rfl ?_
                         intro g cap w2 hown hg hat hlt
                         have c2 : w2.cell? ⟨b, 0, none⟩ = some v := ((HB.out.turn (alloc_still _ _) (fun h => h)).grown hg (by rw [HV.out]; exact fun h => HNE.out h.symm)).cell 0
                         have f2 : w2.frozen? ⟨b, 0, none⟩ = false := ((HB.out.turn (alloc_still _ _) (fun h => h)).grown hg (by rw [HV.out]; exact fun h => HNE.out h.symm)).free 0
                         have HOWN := Lib.hid hown
                         have HG := Lib.hid hg
                         have HAT := Lib.hid hat
                         clear hown hg hat hlt)
          all_goals
            obtain ⟨hw3, ha3, ht3⟩ := Wr.grow (ys := xs ++ hi (n / 2 ^ (7 * j))) HB.out HV.out HNE.out (alloc_still _ _) HG.out (n := xs.length + (hi (n / 2 ^ (7 * (j + 1)))).length + 1) (by
              have hown := HOWN.out
              rw [List.length_append] at hown
              rw [hi_step n j HJ.out, ← List.append_assoc, List.map_append]; exact hown) (HAT.out.imp id (fun h => by rw [h]; simp))
            have HW3 := Lib.hid hw3
            have HA3 : Hid (some g = r ∨ ∃ k, some g = some k ∧ w.heap.size ≤ k) := by
              rcases ha3 with h | ⟨k, h1, h2⟩
              · rcases HR1.out with h' | ⟨k, h1, h2⟩
                · exact .inl (h.trans h')
                · exact .inr ⟨k, h.trans h1, h2⟩
              · exact .inr ⟨k, h1, Nat.le_trans HT1.size h2⟩
            have HT3 : Turn (fun k => k = b ∨ some k = r) w _ := HT1.trans ht3 (fun i hi h => by
              rcases h with h | h
              · exact .inl h
              · rcases HR1.out with h' | ⟨k, h1, h2⟩
                · exact .inr (h.trans h')
                · rw [h1] at h; injection h with h; omega)
            clear hw3 ha3 ht3 c2 f2 HOWN HG HAT HO HB c0
            go_wp2_with fail
            go_roundw
            case rel => exact ⟨j - 1, some g, by omega, by rw [show 7 * ((j - 1 : Nat) : Int) = 7 * (j : Int) - 7 by omega], by rw [show j - 1 + 1 = j by omega]; exact HW3, HA3, HT3⟩
            case measure => simp [intOf]; omega
        · obtain rfl : j = 0 := by omega
          have hlo := andnot_low n
          have hb63 : (xs ++ hi (n / 2 ^ (7 * (0 + 1)))).length + 1 ≤ maxLen := by rw [List.length_append]; unfold maxLen; omega
          have hbB : ((xs ++ hi (n / 2 ^ (7 * (0 + 1)))).length + 1) * 1 ≤ 140737488355328 := by rw [List.length_append]; omega
          have K1 := Lib.hid hb63
          have K2 := Lib.hid hbB
          clear hb63 hbB
          go_wp2_with (at_builtin; refine wpList_append_lies _ rfl (.tmp 34) (.tmp 38) 63 rfl 0 5 i0 (.int .u8 0) 1 1 Try.underlying63 hi0 hz0 hz1 hz2 rfl (by decide) v (xs ++ hi (n / 2 ^ (7 * (0 + 1)))).length _ rfl (by exact (HO.out.alloc _)) ⟨wr.heap.size, 0, none⟩ 1 1 [byteV (low n)] rfl rfl (by exact World.news_of_block (heap_alloc_new _ _)) (by simp [byteV, Value.oneCell']) (by decide) (by exact K1.out) (by exact K2.out) (Nat.zero_le _) _ rfl ?_)
          intro g cap w2 hown hg hat hlt
          have c2 : w2.cell? ⟨b, 0, none⟩ = some v := ((HB.out.turn (alloc_only _ _) (fun h => h)).grown hg (by rw [HV.out]; exact fun h => HNE.out h.symm)).cell 0
          have f2 : w2.frozen? ⟨b, 0, none⟩ = false := ((HB.out.turn (alloc_only _ _) (fun h => h)).grown hg (by rw [HV.out]; exact fun h => HNE.out h.symm)).free 0
          have HOWN := Lib.hid hown
          have HG := Lib.hid hg
          have HAT := Lib.hid hat
          clear hown hg hat hlt
          go_wp2_with fail
          obtain ⟨hw3, ha3, ht3⟩ := Wr.grow (ys := xs ++ enc n) HB.out HV.out HNE.out (alloc_only _ _) HG.out (n := xs.length + (hi (n / 128)).length + 1) (cap := cap) (by
            have e : List.map byteV (xs ++ enc n) = List.map byteV xs ++ (List.map byteV (hi (n / 128)) ++ [byteV (low n)]) := by rw [List.map_append, enc, List.map_append]; rfl
            rw [e]
            exact HOWN.out) (HAT.out.imp id (fun h => by rw [h]; exact Nat.le_succ _))
          have HW3 := Lib.hid hw3
          have HA3 : Hid (some g = r ∨ ∃ k, some g = some k ∧ w.heap.size ≤ k) := by
            rcases ha3 with h | ⟨k, h1, h2⟩
            · rcases HR1.out with h' | ⟨k, h1, h2⟩
              · exact .inl (h.trans h')
              · exact .inr ⟨k, h.trans h1, h2⟩
            · exact .inr ⟨k, h1, Nat.le_trans HT1.size h2⟩
          have HT3 : Turn (fun k => k = b ∨ some k = r) w _ := HT1.trans ht3 (fun i hi h => by
            rcases h with h | h
            · exact .inl h
            · rcases HR1.out with h' | ⟨k, h1, h2⟩
              · exact .inr (h.trans h')
              · rw [h1] at h; injection h with h; omega)
          clear hw3 ha3 ht3 c2 f2 HOWN HG HAT HO HB c0
          go_ret
          exact ⟨rfl, some g, HW3, HA3, HT3⟩

end Go.Proofs.Ytlbpephbigikcab
