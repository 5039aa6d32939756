/- Texts laid into one: WireW, WNum, AppS, WireS, LedM. -/
import Derived.Test.YtcdedkgkingbdaaGreatDoorQ000
import Derived.Lib.AppendStr
import Derived.Lib.ItoaWalk
import Derived.Deep.MidRow
import Derived.Test.YtcdedkgkingbdaaGreatDoorQ018
section
/- What each call of wire's Writer does: the bytes that are written, behind it. -/
namespace Go.Proofs.YtcdedkgkingbdaaGreatDoor
open Go.RowKit



/-- A writer at block b, its bytes in row r. -/
def Wr (w : World) (b : Nat) (r : Option Nat) (xs : List UInt8) : Prop :=
  ∃ v, Has w b 152 #[v] ∧ w.ownsRow 0 5 1 v xs.length (xs.map byteV) ∧ v.ownBlock = r ∧ r ≠ some b

/-- The digits of what is above the last seven bits. -/
def hi (n : Nat) : List UInt8 := if n = 0 then [] else hi (n / 128) ++ [UInt8.ofNat (128 + n % 128)]
termination_by n
decreasing_by omega

def enc (n : Nat) : List UInt8 := hi (n / 128) ++ [UInt8.ofNat (n % 128)]

/-- Behind a writer's call: the bytes xs stand there, only its own blocks have turned. -/
def WrPost (w : World) (b : Nat) (r : Option Nat) (xs : List UInt8) (en : Ending) (w' : World) : Prop :=
  en = .returned (.pointer (some ⟨b, 0, none⟩)) ∧ ∃ r', Wr w' b r' xs ∧ (r' = r ∨ ∃ k, r' = some k ∧ w.heap.size ≤ k) ∧ Turn (fun k => k = b ∨ some k = r) w w'

theorem Tryz.infoByte : (Tryz.prog.info? 5).map (fun i => (i.zero, i.size, i.bytes)) = some (some (.int .u8 0), 1, 1) := by kernel_rfl

/-- The byte that bears seven bits and the mark. -/
def dig (n k : Nat) : UInt8 := UInt8.ofNat (128 + n / 2 ^ (7 * k) % 128)
def low (n : Nat) : UInt8 := UInt8.ofNat (n % 128)

theorem pow7 (n k : Nat) : n / 2 ^ (7 * (k + 1)) = n / 2 ^ (7 * k) / 128 := by
  rw [Nat.mul_succ, Nat.pow_add, ← Nat.div_div_eq_div_mul]

theorem hi_zero : hi 0 = [] := by rw [hi, if_pos rfl]

theorem hi_step (n k : Nat) (h : 0 < n / 2 ^ (7 * k)) : hi (n / 2 ^ (7 * k)) = hi (n / 2 ^ (7 * (k + 1))) ++ [dig n k] := by
  rw [hi, if_neg (by omega), pow7]; rfl

theorem wrap_u8 (n : Nat) : IntKind.u8.wrap (n : Int) = ((n % 256 : Nat) : Int) := by
  rw [IntKind.wrap_u8]; omega

theorem or_mark (n k : Nat) : bits .or .u8 (IntKind.u8.wrap ((n : Int) / 2 ^ (7 * k))) 128 = ((dig n k).toNat : Int) := by
  have e : ((n : Int) / 2 ^ (7 * k)) = ((n / 2 ^ (7 * k) : Nat) : Int) := by simp
  rw [e, wrap_u8]
  unfold dig
  generalize n / 2 ^ (7 * k) = m at *
  have hh := u8_or_nat (m % 256) 128 (by omega) (by omega)
  have e2 : m % 256 ||| 128 = 128 + m % 128 := by
    have h1 := Nat.shiftLeft_add_eq_or_of_lt (a := 1) (b := m % 128) (i := 7) (by omega)
    have h2 : m % 256 ||| 128 = 128 ||| m % 128 := by
      rw [Nat.or_comm]
      have h3 : m % 256 = m % 128 ∨ m % 256 = 128 + m % 128 := by omega
      rcases h3 with h3 | h3
      · rw [h3]
      · rw [h3]
        have h4 : 128 + m % 128 = 128 ||| m % 128 := by simpa using h1
        rw [h4, ← Nat.or_assoc, Nat.or_self]
    rw [h2]
    have h4 : 128 + m % 128 = 128 ||| m % 128 := by simpa using h1
    exact h4.symm
  rw [e2] at hh
  have : (UInt8.ofNat (128 + m % 128)).toNat = 128 + m % 128 := by simp; omega
  rw [this]
  exact hh

theorem andnot_low (n : Nat) : bits .andNot .u8 ((n : Int) % 256) 128 = ((low n).toNat : Int) := by
  have h := u8_andNot_nat (n % 256) 128 (by omega) (by omega)
  have e : n % 256 &&& (255 - 128) = n % 256 % 128 := Nat.and_two_pow_sub_one_eq_mod _ 7
  rw [e] at h
  have : (low n).toNat = n % 256 % 128 := by unfold low; simp; omega
  rw [this]
  exact h

theorem hi_len (k : Nat) : ∀ n, n < 128 ^ k → (hi n).length ≤ k := by
  induction k with
  | zero => intro n hn; have : n = 0 := by omega
            rw [this, hi_zero]; exact Nat.le_refl _
  | succ k ih =>
    intro n hn
    by_cases h : n = 0
    · rw [h, hi_zero]; exact Nat.zero_le _
    · rw [hi, if_neg h, List.length_append, List.length_singleton]
      have := ih (n / 128) (by rw [Nat.pow_succ] at hn; omega)
      omega

theorem hi_len10 (n j : Nat) (h : n < 18446744073709551616) : (hi (n / 2 ^ (7 * j))).length ≤ 10 :=
  hi_len 10 _ (by have := Nat.div_le_self n (2 ^ (7 * j)); omega)

/-- Bytes are appended to a writer's own: the new row, what turns. -/
theorem Wr.grow {w W1 w2 : World} {b g cap n : Nat} {v : Value} {r : Option Nat} {ys : List UInt8} (hb : Has w b 152 #[v]) (hv : v.ownBlock = r) (hne : r ≠ some b)
    (hT : Turn (fun _ => False) w W1) (hg : W1.grownBy w2 v.ownBlock) (hown : w2.ownsRow 0 5 1 (.slice (some ⟨g, 0, none⟩) n cap) n (ys.map byteV)) (hat : v.ownBlock = some g ∨ w.heap.size ≤ g) :
    Wr (w2.setCell ⟨b, 0, none⟩ (.slice (some ⟨g, 0, none⟩) n cap)) b (some g) ys ∧ (some g = r ∨ ∃ k, some g = some k ∧ w.heap.size ≤ k) ∧
      Turn (fun k => k = b ∨ some k = r) w (w2.setCell ⟨b, 0, none⟩ (.slice (some ⟨g, 0, none⟩) n cap)) := by
  have hbg : g ≠ b := by
    rintro rfl
    rcases hat with h | h
    · exact hne (by rw [← hv, h])
    · have := hb.lt; omega
  have hT2 : Turn (fun k => k = b ∨ some k = r) w w2 :=
    (hT.more (fun _ _ h => h.elim)).grown hg (fun j hj _ => .inr (by rw [← hj, hv]))
  have hb2 : Has w2 b 152 #[v] := (hb.turn hT (fun h => h)).grown hg (by rw [hv]; exact fun h => hne h.symm)
  have hn : n = ys.length := by have := hown.1; simpa using this.symm
  subst hn
  refine ⟨⟨_, by simpa using hb2.put 0 (.slice (some ⟨g, 0, none⟩) ys.length cap), ?_, rfl, by intro h; injection h with h; exact hbg h⟩, ?_, hT2.put (fun _ => .inl rfl) 0 _⟩
  · refine ⟨hown.1, ?_⟩
    rcases hown.2 with ⟨h, _⟩ | ⟨g', cap', cur, h1, h2, h3, h4⟩
    · cases h
    · have e : g = g' := by injection h1 with h1; injection h1 with h1; injection h1
      subst e
      exact .inr ⟨g, cap', cur, h1, h2, (Below.heap_setCell w2 _ _ g hbg).trans h3, h4⟩
  · rcases hat with h | h
    · exact .inl (by rw [← hv, h])
    · exact .inr ⟨g, rfl, h⟩

theorem alloc_only (w : World) (o : Obj) : Turn (fun _ => False) w (w.alloc o) := (Turn.refl _ w).alloc o

theorem alloc_still (w : World) (o : Obj) : Turn (fun _ => False) w (w.alloc o).drew := ((Turn.refl _ w).alloc o).drew

set_option maxRecDepth 100000 in
set_option maxHeartbeats 1000000 in
theorem wnum_any (b : Nat) (r : Option Nat) (xs : List UInt8) (n : Nat) (w : World) (hn : n < 18446744073709551616) (h : Wr w b r xs) (hl : xs.length ≤ 1000000) :
    Calls Tryz.prog 75 #[.pointer (some ⟨b, 0, none⟩), .int .u64 n] w fun en w' => WrPost w b r (xs ++ enc n) en w' := by
  have HN := Lib.hid hn
  have HW := Lib.hid h
  clear hn h
  obtain ⟨i0, hi0, hz0, hz1, hz2⟩ := info_parts Tryz.infoByte
  go_enter Tryz.func75, Tryz.ntmps75
  go_wp2_with fail
  go_loop [5] (fun i => ∃ k : Nat, k ≤ 9 ∧ i = .int .i64 (7 * (k : Int)) ∧ Hid (k = 0 ∨ 0 < n / 2 ^ (7 * k))) (fun i => 100 - (intOf i).toNat)
  case atStart => exact ⟨0, by omega, rfl, .inl rfl⟩
  case round =>
    obtain ⟨k, hk, rfl, HC⟩ := hrel
    by_cases ht : (128 : Int) ≤ (n : Int) / 2 ^ (7 * k)
    · have hk9 : k + 1 ≤ 9 := by
        have e : ((n : Int) / 2 ^ (7 * k)) = ((n / 2 ^ (7 * k) : Nat) : Int) := by simp
        rw [e] at ht
        have h1 : 128 ≤ n / 2 ^ (7 * k) := by omega
        have hn := HN.out
        rcases Nat.lt_or_ge k 9 with h | h
        · omega
        · have h2 : n / 2 ^ (7 * k) ≤ n / 2 ^ (7 * 9) := Nat.div_le_div_left (Nat.pow_le_pow_right (by omega) (by omega)) (Nat.pos_of_ne_zero (by simp))
          omega
      have HC' : Hid (k + 1 = 0 ∨ 0 < n / 2 ^ (7 * (k + 1))) := .inr (by
        rw [pow7]
        have e : ((n : Int) / 2 ^ (7 * k)) = ((n / 2 ^ (7 * k) : Nat) : Int) := by simp
        rw [e] at ht
        clear e
        generalize n / 2 ^ (7 * k) = m at ht ⊢
        omega)
      go_wp2_with fail
      go_round
      case rel => exact ⟨k + 1, hk9, by go_num, HC'⟩
      case measure => simp [intOf]; omega
    · have HK : Hid (n / 2 ^ (7 * k) < 128) := by
        have e : ((n : Int) / 2 ^ (7 * k)) = ((n / 2 ^ (7 * k) : Nat) : Int) := by simp
        rw [e] at ht
        show n / 2 ^ (7 * k) < 128
        omega
      go_wp2_with fail
      go_loopw [5] (fun i w1 => ∃ (j : Nat) (r1 : Option Nat), j ≤ k ∧ i = .int .i64 (7 * (j : Int)) ∧ Hid (Wr w1 b r1 (xs ++ hi (n / 2 ^ (7 * (j + 1))))) ∧ Hid (r1 = r ∨ ∃ k, r1 = some k ∧ w.heap.size ≤ k) ∧ Turn (fun k => k = b ∨ some k = r) w w1) (fun i _ => (intOf i).toNat)
      case atStart =>
        have e : hi (n / 2 ^ (7 * (k + 1))) = [] := by
          rw [pow7]
          have h1 := HK.out
          generalize n / 2 ^ (7 * k) = m at h1 ⊢
          rw [show m / 128 = 0 by omega, hi_zero]
        exact ⟨k, r, Nat.le_refl _, rfl, by rw [e, List.append_nil]; exact HW, .inl rfl, Turn.refl _ _⟩
      case round =>
        obtain ⟨j, r1, hj, rfl, HW1, HR1, HT1⟩ := hrel
        obtain ⟨v, hb, ho, hv, hne⟩ := HW1.out
        have c0 : wr.cell? ⟨b, 0, none⟩ = some v := hb.cell 0
        have hlen : (hi (n / 2 ^ (7 * (j + 1)))).length ≤ 10 := hi_len10 n (j + 1) HN.out
        have hbl := hb.lt
        have HB := Lib.hid hb
        have HO := Lib.hid ho
        have HV := Lib.hid hv
        have HNE := Lib.hid hne
        clear hb ho hv hne
        by_cases hj0 : 0 < j
        · have hor := or_mark n j
          have e7 : (7 * (j : Int)).toNat = 7 * j := by omega
          have HJ : Hid (0 < n / 2 ^ (7 * j)) := by
            rcases HC.out with h | h
            · omega
            · exact Nat.lt_of_lt_of_le h (Nat.div_le_div_left (Nat.pow_le_pow_right (by omega) (by omega)) (Nat.pos_of_ne_zero (by simp)))
          go_wp2_with fail
          go_region_law (refine step_append_lies _ rfl (.tmp 20) (.tmp 26) 150 rfl 0 5 i0 (.int .u8 0) 1 1 Tryz.underlying150 hi0 hz0 hz1 hz2 rfl (by decide) v (xs ++ hi (n / 2 ^ (7 * (j + 1)))).length _ (by simp [Act.eval]) (by exact (HO.out.alloc _).drew) ⟨wr.heap.size, 0, none⟩ 1 1 [byteV (dig n j)] (by simp [Act.eval]) rfl (by exact World.news_of_block (heap_alloc_new _ _)) (by simp [byteV, Value.oneCell']) (by decide) (by unfold maxLen; simp; omega) (by simp; omega) (Nat.zero_le _) _ rfl ?_
                         intro g cap w2 hown hg hat hlt
                         have c2 : w2.cell? ⟨b, 0, none⟩ = some v := ((HB.out.turn (alloc_still _ _) (fun h => h)).grown hg (by rw [HV.out]; exact fun h => HNE.out h.symm)).cell 0
                         have f2 : w2.frozen? ⟨b, 0, none⟩ = false := ((HB.out.turn (alloc_still _ _) (fun h => h)).grown hg (by rw [HV.out]; exact fun h => HNE.out h.symm)).free 0
                         have HOWN := Lib.hid hown
                         have HG := Lib.hid hg
                         have HAT := Lib.hid hat
                         clear hown hg hat hlt)
          all_goals
            obtain ⟨hw3, ha3, ht3⟩ := Wr.grow (ys := xs ++ hi (n / 2 ^ (7 * j))) HB.out HV.out HNE.out (alloc_still _ _) HG.out (n := xs.length + (hi (n / 2 ^ (7 * (j + 1)))).length + 1) (by
              have hown := HOWN.out
              rw [List.length_append] at hown
              rw [hi_step n j HJ.out, ← List.append_assoc, List.map_append]; exact hown) (HAT.out.imp id (fun h => by rw [h]; simp))
            have HW3 := Lib.hid hw3
            have HA3 : Hid (some g = r ∨ ∃ k, some g = some k ∧ w.heap.size ≤ k) := by
              rcases ha3 with h | ⟨k, h1, h2⟩
              · rcases HR1.out with h' | ⟨k, h1, h2⟩
                · exact .inl (h.trans h')
                · exact .inr ⟨k, h.trans h1, h2⟩
              · exact .inr ⟨k, h1, Nat.le_trans HT1.size h2⟩
            have HT3 : Turn (fun k => k = b ∨ some k = r) w _ := HT1.trans ht3 (fun i hi h => by
              rcases h with h | h
              · exact .inl h
              · rcases HR1.out with h' | ⟨k, h1, h2⟩
                · exact .inr (h.trans h')
                · rw [h1] at h; injection h with h; omega)
            clear hw3 ha3 ht3 c2 f2 HOWN HG HAT HO HB c0
            go_wp2_with fail
            go_roundw
            case rel => exact ⟨j - 1, some g, by omega, by rw [show 7 * ((j - 1 : Nat) : Int) = 7 * (j : Int) - 7 by omega], by rw [show j - 1 + 1 = j by omega]; exact HW3, HA3, HT3⟩
            case measure => simp [intOf]; omega
        · obtain rfl : j = 0 := by omega
          have hlo := andnot_low n
          have hb63 : (xs ++ hi (n / 2 ^ (7 * (0 + 1)))).length + 1 ≤ maxLen := by rw [List.length_append]; unfold maxLen; omega
          have hbB : ((xs ++ hi (n / 2 ^ (7 * (0 + 1)))).length + 1) * 1 ≤ 140737488355328 := by rw [List.length_append]; omega
          have K1 := Lib.hid hb63
          have K2 := Lib.hid hbB
          clear hb63 hbB
          go_wp2_with (at_builtin; refine wpList_append_lies _ rfl (.tmp 34) (.tmp 38) 150 rfl 0 5 i0 (.int .u8 0) 1 1 Tryz.underlying150 hi0 hz0 hz1 hz2 rfl (by decide) v (xs ++ hi (n / 2 ^ (7 * (0 + 1)))).length _ rfl (by exact (HO.out.alloc _)) ⟨wr.heap.size, 0, none⟩ 1 1 [byteV (low n)] rfl rfl (by exact World.news_of_block (heap_alloc_new _ _)) (by simp [byteV, Value.oneCell']) (by decide) (by exact K1.out) (by exact K2.out) (Nat.zero_le _) _ rfl ?_)
          intro g cap w2 hown hg hat hlt
          have c2 : w2.cell? ⟨b, 0, none⟩ = some v := ((HB.out.turn (alloc_only _ _) (fun h => h)).grown hg (by rw [HV.out]; exact fun h => HNE.out h.symm)).cell 0
          have f2 : w2.frozen? ⟨b, 0, none⟩ = false := ((HB.out.turn (alloc_only _ _) (fun h => h)).grown hg (by rw [HV.out]; exact fun h => HNE.out h.symm)).free 0
          have HOWN := Lib.hid hown
          have HG := Lib.hid hg
          have HAT := Lib.hid hat
          clear hown hg hat hlt
          go_wp2_with fail
          obtain ⟨hw3, ha3, ht3⟩ := Wr.grow (ys := xs ++ enc n) HB.out HV.out HNE.out (alloc_only _ _) HG.out (n := xs.length + (hi (n / 128)).length + 1) (cap := cap) (by
            have e : List.map byteV (xs ++ enc n) = List.map byteV xs ++ (List.map byteV (hi (n / 128)) ++ [byteV (low n)]) := by rw [List.map_append, enc, List.map_append]; rfl
            rw [e]
            exact HOWN.out) (HAT.out.imp id (fun h => by rw [h]; exact Nat.le_succ _))
          have HW3 := Lib.hid hw3
          have HA3 : Hid (some g = r ∨ ∃ k, some g = some k ∧ w.heap.size ≤ k) := by
            rcases ha3 with h | ⟨k, h1, h2⟩
            · rcases HR1.out with h' | ⟨k, h1, h2⟩
              · exact .inl (h.trans h')
              · exact .inr ⟨k, h.trans h1, h2⟩
            · exact .inr ⟨k, h1, Nat.le_trans HT1.size h2⟩
          have HT3 : Turn (fun k => k = b ∨ some k = r) w _ := HT1.trans ht3 (fun i hi h => by
            rcases h with h | h
            · exact .inl h
            · rcases HR1.out with h' | ⟨k, h1, h2⟩
              · exact .inr (h.trans h')
              · rw [h1] at h; injection h with h; omega)
          clear hw3 ha3 ht3 c2 f2 HOWN HG HAT HO HB c0
          go_ret
          exact ⟨rfl, some g, HW3, HA3, HT3⟩

end Go.Proofs.YtcdedkgkingbdaaGreatDoor
end

section
/- wire: what is appended to a Writer's bytes; Num. -/
namespace Go.Proofs.YtcdedkgkingbdaaGreatDoor
open Go.RowKit

/-- Bytes were appended to a writer's own, and the slice was laid back. -/
theorem Wr.close {w W1 w2 : World} {b : Nat} {v v' : Value} {r : Option Nat} {ys : List UInt8} (hb : Has w b 152 #[v]) (hv : v.ownBlock = r) (hne : r ≠ some b)
    (hT : Turn (fun _ => False) w W1) (hg : W1.grownBy w2 v.ownBlock) (hown : w2.ownsRow 0 5 1 v' ys.length (ys.map byteV)) (hat : v'.ownBlock = v.ownBlock ∨ ∃ k, v'.ownBlock = some k ∧ w.heap.size ≤ k) :
    WrPost w b r ys (.returned (.pointer (some ⟨b, 0, none⟩))) (w2.setCell ⟨b, 0, none⟩ v') := by
  have hbl := hb.lt
  have hnb : v'.ownBlock ≠ some b := by
    rcases hat with h | ⟨k, h, hk⟩
    · rw [h, hv]; exact hne
    · rw [h]; intro e; injection e with e; omega
  have hT2 : Turn (fun k => k = b ∨ some k = r) w w2 :=
    (hT.more (fun _ _ h => h.elim)).grown hg (fun j hj _ => .inr (by rw [← hj, hv]))
  have hb2 : Has w2 b 152 #[v] := (hb.turn hT (fun h => h)).grown hg (by rw [hv]; exact fun h => hne h.symm)
  refine ⟨rfl, v'.ownBlock, ⟨v', by simpa using hb2.put 0 v', ?_, rfl, hnb⟩, by rw [← hv]; exact hat, hT2.put (fun _ => .inl rfl) 0 _⟩
  refine ⟨hown.1, ?_⟩
  rcases hown.2 with h | ⟨g', cap', cur, h1, h2, h3, h4⟩
  · exact .inl h
  · have e : g' ≠ b := by rintro rfl; exact hnb (by rw [h1]; rfl)
    exact .inr ⟨g', cap', cur, h1, h2, (Below.heap_setCell w2 _ _ g' e).trans h3, h4⟩

theorem wnum_int (b : Nat) (r : Option Nat) (xs : List UInt8) (x : Int) (w : World) (h0 : 0 ≤ x) (hx : x < 18446744073709551616) (h : Wr w b r xs) (hl : xs.length ≤ 1000000) :
    Calls Tryz.prog 75 #[.pointer (some ⟨b, 0, none⟩), .int .u64 x] w fun en w' => WrPost w b r (xs ++ enc x.toNat) en w' := by
  obtain ⟨n, rfl⟩ := Int.eq_ofNat_of_zero_le h0
  exact wnum_any b r xs n w (by omega) h hl

theorem enc_len (n : Nat) (h : n < 18446744073709551616) : (enc n).length ≤ 11 := by
  unfold enc
  rw [List.length_append, List.length_singleton]
  have := hi_len 10 (n / 128) (by omega)
  omega

theorem WrPost.trans {w w1 w2 : World} {b : Nat} {r r1 : Option Nat} {xs : List UInt8} {en : Ending} (hr : r1 = r ∨ ∃ k, r1 = some k ∧ w.heap.size ≤ k) (ht : Turn (fun k => k = b ∨ some k = r) w w1)
    (h : WrPost w1 b r1 xs en w2) : WrPost w b r xs en w2 := by
  obtain ⟨he, r2, h2, hr2, t2⟩ := h
  refine ⟨he, r2, h2, ?_, ht.trans t2 (fun j hj h => ?_)⟩
  · rcases hr2 with h | ⟨k, h, hk⟩
    · subst h; exact hr
    · exact .inr ⟨k, h, Nat.le_trans ht.size hk⟩
  · rcases h with h | h
    · exact .inl h
    · rcases hr with e | ⟨k, e, hk⟩
      · exact .inr (by rw [← e]; exact h)
      · rw [e] at h; injection h with h; omega
end Go.Proofs.YtcdedkgkingbdaaGreatDoor
end

section
/- A string's bytes appended to bytes that are owned: where the row lies behind it. -/
namespace Go.Proofs.YtcdedkgkingbdaaGreatDoor
open Go.RowKit

section
variable {P : Program}

theorem strCells_eq (s : ByteArray) : Lib.strCells s = s.data.toList.map byteV := rfl

theorem run_append_str_at (w : World) (base : Nat) (t u ty e : TypeId) (i : TypeInfo) (ht : P.underlying t = some (.slice e)) (hu : P.underlying u = some .string) (hi : P.info? e = some i) (hz : i.zero = some (.int .u8 0))
    (hsize : i.size = 1) (hby : i.bytes = 1)
    (v : Value) (n : Nat) (xs : List Value) (hown : w.ownsRow base e 1 v n xs) (s : ByteArray)
    (h63 : n + s.size ≤ maxLen) (hbytes : n + s.size ≤ 140737488355328) (hbase : base ≤ w.heap.size) :
    ∃ v' w', (Builtin.append_ #[t, u] ty #[v, .string s]).run P w = .ok v' w' ∧ w'.ownsRow base e 1 v' (n + s.size) (xs ++ Lib.strCells s) ∧ w.grownBy w' v.ownBlock ∧
      (v'.ownBlock = v.ownBlock ∨ v'.ownBlock = some w.heap.size) := by
  obtain ⟨v', w', hr, h2, h3, h4⟩ := Lib.run_append_own_string (P := P) w base t u ty e i ht hu hi hz hsize hby v n xs hown s h63 hbytes hbase
  refine ⟨v', w', hr, h2, h3, ?_⟩
  have hsmall : n + s.size ≤ 9223372036854775807 := by simp only [maxLen] at h63; omega
  have hxl : xs.length = n := by simpa using hown.1
  rcases hown.2 with ⟨rfl, rfl⟩ | ⟨g, cap, cur, rfl, hbg, hg, hnc, hcm, hcs, htake⟩
  · by_cases hm : s.size = 0
    · have := h4.2 ⟨rfl, hm⟩
      subst this
      exact .inl rfl
    · have hr2 := run_append_nil_string (P := P) w t u ty e i (.int .u8 0) ht hu hi hz s (by omega) (by omega) (by rw [hby]; omega)
      rw [hr2] at hr
      injection hr with hv hw
      rw [← hv]
      exact .inr rfl
  · by_cases hroom : n + s.size ≤ cap
    · have hcs' : cur.size = cap := by simpa using hcs
      have hr2 := Lib.run_append_room_string (P := P) w t u ty e i ht hu hi hsize g n cap cur hg s hroom (by omega)
      rw [hr2] at hr
      injection hr with hv hw
      rw [← hv]
      exact .inl rfl
    · have holds : ∀ j u, xs[j]? = some u → w.cell? ((⟨g, 0, none⟩ : Addr).add j) = some u := hown.cells (g := g) rfl
      have hr2 := Lib.run_append_grow_string (P := P) w t u ty e i (.int .u8 0) ht hu hi hz ⟨g, 0, none⟩ n cap xs (by rw [hsize]; simpa using hxl) holds s (by omega) (by omega) (by rw [hby]; exact growslice_fits (by omega) (by omega))
      rw [hr2] at hr
      injection hr with hv hw
      rw [← hv]
      exact .inr rfl

theorem wpList_append_str {w : World} {ops : Array Oper} {rest : List Oper} {o : Oper} {a : Act} {Q : Exit → Act → World → Prop} (hgd : o.guard = none) (sl x : Operand) (t u : TypeId)
    (ho : o.op = .call { callee := .builtin .append, args := #[sl, x], argTypes := #[t, u] })
    (base : Nat) (e : TypeId) (i : TypeInfo) (ht : P.underlying t = some (.slice e)) (hu : P.underlying u = some .string) (hi : P.info? e = some i) (hz : i.zero = some (.int .u8 0))
    (hsize : i.size = 1) (hby : i.bytes = 1)
    (v : Value) (n : Nat) (xs : List Value) (hs : a.eval sl = v) (hown : w.ownsRow base e 1 v n xs) (s : ByteArray) (hx : a.eval x = .string s)
    (h63 : n + s.size ≤ maxLen) (hbytes : n + s.size ≤ 140737488355328) (hbase : base ≤ w.heap.size)
    (h : ∀ v' w', w'.ownsRow base e 1 v' (n + s.size) (xs ++ Lib.strCells s) → w.grownBy w' v.ownBlock → (v'.ownBlock = v.ownBlock ∨ v'.ownBlock = some w.heap.size) → wpList P ops Q rest (a.put o.dst v') w') : wpList P ops Q (o :: rest) a w := by
  refine wpList_plain hgd fun K hK => ?_
  obtain ⟨v', w', hr, h2, h3, h4⟩ := run_append_str_at (P := P) w base t u o.type e i ht hu hi hz hsize hby v n xs hown s h63 hbytes hbase
  unfold Oper.wp execOp
  simp only [ho, resolve, invoke, builtin, Sem.run_bind, Sem.run_pure, Result.andThen_ok, List.map_toArray, List.map_cons, List.map_nil, hs, hx, hr]
  exact hK _ _ (h v' w' h2 h3 h4)

end
end Go.Proofs.YtcdedkgkingbdaaGreatDoor
end

section
/- What wire's Writer's Str does. -/
namespace Go.Proofs.YtcdedkgkingbdaaGreatDoor
open Go.RowKit

set_option maxRecDepth 100000 in
set_option maxHeartbeats 400000 in
theorem wstr_any (b : Nat) (r : Option Nat) (xs : List UInt8) (s : ByteArray) (w : World) (h : Wr w b r xs) (hl : xs.length ≤ 1000000) (hs : s.size ≤ 1000000) :
    Calls Tryz.prog 161 #[.pointer (some ⟨b, 0, none⟩), .string s] w fun en w' => WrPost w b r (xs ++ enc s.size ++ s.data.toList) en w' := by
  obtain ⟨i0, hi0, hz0, hz1, hz2⟩ := info_parts Tryz.infoByte
  have hel := enc_len s.size (by omega)
  go_enter Tryz.func161, Tryz.ntmps161
  go_wp2_with fail
  refine (wnum_int b r xs _ w (by omega) (by omega) h hl).mono ?_
  rintro en w1 ⟨rfl, r1, h1, hr1, t1⟩
  simp only [Int.toNat_natCast] at h1
  generalize hzs : xs ++ enc s.size = zs at h1
  have hzl : zs.length ≤ 1000011 := by rw [← hzs, List.length_append]; omega
  have HZS := Lib.hid hzs
  clear hzs
  obtain ⟨v, hb, ho, hv, hne⟩ := h1
  have c0 : w1.cell? ⟨b, 0, none⟩ = some v := hb.cell 0
  have HB := Lib.hid hb
  have HO := Lib.hid ho
  have HV := Lib.hid hv
  have HNE := Lib.hid hne
  have HR1 := Lib.hid hr1
  have T1 := Lib.hid t1
  have K1 : zs.length + s.size ≤ maxLen := by unfold maxLen; omega
  have K2 : zs.length + s.size ≤ 140737488355328 := by omega
  have HK1 := Lib.hid K1
  have HK2 := Lib.hid K2
  clear hb ho hv hne h hr1 t1 K1 K2
  go_wp2_with ((with_reducible refine at_op 16 ?_); refine wpList_append_str (o := ⟨some 16, _, _, _, _, _⟩) rfl (.tmp 14) (.tmp 15) 150 9 rfl 0 5 i0 Tryz.underlying150 Tryz.underlying9 hi0 hz0 hz1 hz2 v zs.length _ rfl HO.out s rfl HK1.out HK2.out (Nat.zero_le _) ?_)
  intro v' w2 hown hg hat
  have c2 : w2.cell? ⟨b, 0, none⟩ = some v := (HB.out.grown hg (by rw [HV.out]; exact fun h => HNE.out h.symm)).cell 0
  have f2 : w2.frozen? ⟨b, 0, none⟩ = false := (HB.out.grown hg (by rw [HV.out]; exact fun h => HNE.out h.symm)).free 0
  have HOWN := Lib.hid hown
  have HG := Lib.hid hg
  have HAT := Lib.hid hat
  obtain ⟨a', m', c', rfl⟩ : ∃ a' m' c', v' = .slice a' m' c' := by
    rcases hown.2 with ⟨h, _⟩ | ⟨g', cap', cur, h, _⟩
    · exact ⟨_, _, _, h⟩
    · exact ⟨_, _, _, h⟩
  clear hown hg hat c0
  go_wp2_with fail
  go_ret
  rw [HZS.out]
  have hc := Wr.close (ys := zs ++ s.data.toList) HB.out HV.out HNE.out (Turn.refl _ w1) HG.out (by
    have e1 : (zs ++ s.data.toList).length = zs.length + s.size := by simp
    have e2 : (zs ++ s.data.toList).map byteV = zs.map byteV ++ Lib.strCells s := by rw [List.map_append, strCells_eq]
    rw [e1, e2]
    exact HOWN.out) (HAT.out.imp id (fun h => ⟨_, h, Nat.le_refl _⟩))
  exact WrPost.trans HR1.out T1.out hc

end Go.Proofs.YtcdedkgkingbdaaGreatDoor
end

section
/- ledger: what Save tells of a map; the whole invariant of a book (no program's walk). -/
namespace Go.Proofs.YtcdedkgkingbdaaGreatDoor
open Go.RowKit Go.Maps Go.Sort

section
variable {H : Type}

theorem Good.put {D : DataW H} (h : Good D) (s : ByteArray) (d : DataW H) : Good (D.put (kS s) d) := by
  obtain ⟨es, e, hp, hk⟩ := h
  have ht : Tidy (D.put (kS s) d) := Tidy.put ⟨es, e, hp⟩ (kS_key s) d
  obtain ⟨es', e', hp'⟩ := ht
  refine ⟨es', e', hp', fun p hp2 => ?_⟩
  subst e
  have e2 : DataW.insert (kS s, d) (es.filter fun p => !p.1.sameKey (kS s)) = es' := by
    have : (DataW.map (DataW.insert (kS s, d) (es.filter fun p => !p.1.sameKey (kS s)))) = .map es' := e'
    injection this
  rw [← e2] at hp2
  rcases List.mem_cons.1 ((WideShapes.insert_perm _ _).subset hp2) with h1 | h1
  · exact ⟨_, by rw [h1]⟩
  · exact hk p (List.mem_filter.1 h1).1

theorem Good.del {D : DataW H} (h : Good D) (s : ByteArray) : Good (D.del (kS s)) := by
  obtain ⟨es, rfl, hp, hk⟩ := h
  exact ⟨_, rfl, hp.filter _, fun p hp2 => hk p (List.mem_filter.1 hp2).1⟩

theorem good_empty : Good (.map [] : DataW H) := ⟨[], rfl, List.Pairwise.nil, fun p hp => by cases hp⟩

/-- The names that Save tells, and its bytes. -/
def namesD (D : DataW H) : List (List UInt8) := (nb (strKeys D)).mergeSort leB
def pieceD (D : DataW H) (x : List UInt8) : List UInt8 := enc x.length ++ x ++ enc (amtL D x).toNat
def saveL (D : DataW H) : List UInt8 := enc (namesD D).length ++ (namesD D).flatMap (pieceD D)
def saveB (D : DataW H) : ByteArray := ⟨(saveL D).toArray⟩

theorem Alike.namesD {D D' : DataW H} (h : Alike D D') : namesD D = namesD D' := h.names
theorem Alike.saveB {D D' : DataW H} (h : Alike D D') : saveB D = saveB D' := by
  unfold Proofs.YtcdedkgkingbdaaGreatDoor.saveB saveL
  rw [h.namesD]
  congr 3
  have : (pieceD D) = pieceD D' := funext fun x => by unfold pieceD; rw [h.amtL]
  rw [this]
theorem Alike.refl {D : DataW H} (h : Good D) : Alike D D := ⟨h, h, fun _ => ⟨rfl, rfl⟩⟩
theorem Alike.symm {D D' : DataW H} (h : Alike D D') : Alike D' D := ⟨h.r, h.l, fun s => ⟨(h.same s).1.symm, (h.same s).2.symm⟩⟩
theorem Alike.trans {D D' D2 : DataW H} (h : Alike D D') (k : Alike D' D2) : Alike D D2 := ⟨h.l, k.r, fun s => ⟨(h.same s).1.trans (k.same s).1, (h.same s).2.trans (k.same s).2⟩⟩

theorem mem_namesD {D : DataW H} (h : Good D) (x : List UInt8) : x ∈ namesD D ↔ x ≠ [] ∧ isIn D ⟨x.toArray⟩ = true := by
  unfold namesD
  rw [List.mem_mergeSort]
  unfold nb
  rw [List.mem_filter, mem_strKeys h]
  have e : isIn D ⟨x.toArray⟩ = has D (.string x) := by unfold isIn kS; simp
  rw [e]
  cases x <;> simp

theorem strKeys_len {D : DataW H} (h : Good D) : (strKeys D).length = Maps.size D := by
  obtain ⟨es, rfl, _⟩ := h
  simp [strKeys, Maps.size]

/-- One name less than there are where the house is there. -/
theorem nb_one : ∀ l : List (List UInt8), l.Nodup → [] ∈ l → (nb l).length + 1 = l.length
  | [], _, h => by cases h
  | x :: r, hn, h => by
    have hx := (List.nodup_cons.1 hn).1
    cases x with
    | nil =>
      have : nb ([] :: r) = nb r := by unfold nb; simp
      rw [this]
      have h2 : nb r = r := by
        unfold nb
        rw [List.filter_eq_self]
        intro y hy
        cases y
        · exact absurd hy hx
        · rfl
      rw [h2]; rfl
    | cons a b =>
      have h1 : [] ∈ r := by
        rcases List.mem_cons.1 h with h | h
        · cases h
        · exact h
      have ih := nb_one r (List.nodup_cons.1 hn).2 h1
      have : nb ((a :: b) :: r) = (a :: b) :: nb r := by unfold nb; simp
      rw [this]
      simp only [List.length_cons]
      omega

/-- What every book that is reached keeps. -/
structure InvF (D : DataW H) : Prop where
  good : Good D
  inv : InvB D
  keys : ∀ s : ByteArray, isIn D s = true → s.size ≤ 12
  house : isIn D .empty = true
  sum : sumD D = 0

theorem house_mem {D : DataW H} (I : InvF D) : [] ∈ strKeys D := by
  rw [mem_strKeys I.good]
  exact I.house

theorem namesD_len {D : DataW H} (I : InvF D) : (namesD D).length + 1 = Maps.size D := by
  unfold namesD
  rw [List.length_mergeSort, nb_one _ (nodup_strKeys I.good) (house_mem I), strKeys_len I.good]

theorem sumL_lo (D : DataW H) (l : List (List UInt8)) (h : ∀ x ∈ l, 0 ≤ amtL D x) (h' : ∀ x ∈ l, amtL D x ≤ 1099511627776) : 0 ≤ sumL D l ∧ sumL D l ≤ 1099511627776 * (l.length : Int) := by
  unfold sumL
  induction l with
  | nil => simp
  | cons y r ih =>
    have h1 := h y List.mem_cons_self
    have h2 := h' y List.mem_cons_self
    have := ih (fun x hx => h x (List.mem_cons_of_mem _ hx)) (fun x hx => h' x (List.mem_cons_of_mem _ hx))
    simp at this ⊢
    omega

theorem sum_split (D : DataW H) : ∀ l : List (List UInt8), l.Nodup → [] ∈ l → sumL D l = amtL D [] + sumL D (nb l)
  | [], _, h => by cases h
  | x :: r, hn, h => by
    have hx := (List.nodup_cons.1 hn).1
    cases x with
    | nil =>
      have h2 : nb ([] :: r) = r := by
        have : nb ([] :: r) = nb r := by unfold nb; simp
        rw [this]
        unfold nb
        rw [List.filter_eq_self]
        intro y hy
        cases y
        · exact absurd hy hx
        · rfl
      rw [h2]; rfl
    | cons a b =>
      have h1 : [] ∈ r := by
        rcases List.mem_cons.1 h with h | h
        · cases h
        · exact h
      have ih := sum_split D r (List.nodup_cons.1 hn).2 h1
      have : nb ((a :: b) :: r) = (a :: b) :: nb r := by unfold nb; simp
      rw [this]
      have e1 : sumL D ((a :: b) :: r) = amtL D (a :: b) + sumL D r := rfl
      have e2 : sumL D ((a :: b) :: nb r) = amtL D (a :: b) + sumL D (nb r) := rfl
      rw [e1, e2, ih]
      omega

theorem empty_toArray {x : List UInt8} (h : x ≠ []) : (⟨x.toArray⟩ : ByteArray) ≠ .empty := fun e => h (by
  have : (⟨x.toArray⟩ : ByteArray).data.toList = (ByteArray.empty).data.toList := by rw [e]
  simpa using this)

/-- What the house has. -/
theorem house_amt {D : DataW H} (I : InvF D) : amt D .empty = - sumL D (namesD D) ∧ -17592186044416 ≤ amt D .empty ∧ amt D .empty ≤ 0 := by
  have h1 := sum_split D _ (nodup_strKeys I.good) (house_mem I)
  have h2 : sumL D (strKeys D) = 0 := I.sum
  have h3 : sumL D (namesD D) = sumL D (nb (strKeys D)) := sumL_perm D (List.mergeSort_perm _ _)
  have h4 : amtL D [] = amt D .empty := rfl
  have h5 := sumL_lo D (namesD D) (fun x hx => I.inv.lo _ (empty_toArray ((mem_namesD I.good x).1 hx).1)) (fun x hx => I.inv.hi _ (empty_toArray ((mem_namesD I.good x).1 hx).1))
  have h6 := namesD_len I
  have h7 := I.inv.size
  omega

/-- No amount is great. -/
theorem InvF.small {D : DataW H} (I : InvF D) (s : ByteArray) : -17592186044416 ≤ amt D s ∧ amt D s ≤ 1099511627776 := by
  by_cases h : s = .empty
  · subst h
    have := house_amt I
    omega
  · have := I.inv.lo s h
    have := I.inv.hi s h
    omega

theorem amtL_of (D : DataW H) (s : ByteArray) : amtL D s.data.toList = amt D s := by unfold amtL; cases s; simp
theorem ne_list {s : ByteArray} {x : List UInt8} (h : x ≠ s.data.toList) : (⟨x.toArray⟩ : ByteArray) ≠ s := fun e => h (by rw [← e])

theorem sumD_put {D : DataW H} (g : Good D) (s : ByteArray) (n : Int) : sumD (D.put (kS s) (nI n)) = sumD D + (n - amt D s) := by
  have hm := g.tidy.isMap
  have := sumD_change (y := s.data.toList) g (g.put s (nI n)) (fun x hx => by
    show amt _ _ = amt _ _
    rw [amt_put hm, if_neg (ne_list hx)]) (fun x hx => by
    have := isIn_put hm s ⟨x.toArray⟩ (nI n)
    rw [if_neg (ne_list hx)] at this
    unfold isIn at this
    simpa [kS] using this)
  rw [this, amtL_of, amtL_of, amt_put hm, if_pos rfl]

theorem sumD_del {D : DataW H} (g : Good D) (s : ByteArray) : sumD (D.del (kS s)) = sumD D - amt D s := by
  have := sumD_change (y := s.data.toList) g (g.del s) (fun x hx => by
    show amt _ _ = amt _ _
    rw [amt_del, if_neg (ne_list hx)]) (fun x hx => by
    have := isIn_del (D := D) s ⟨x.toArray⟩
    rw [if_neg (ne_list hx)] at this
    unfold isIn at this
    simpa [kS] using this)
  rw [this, amtL_of, amtL_of, amt_del, if_pos rfl]
  omega

end
end Go.Proofs.YtcdedkgkingbdaaGreatDoor
end

