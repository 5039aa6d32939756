/- Texts laid into one: LedF, LedG, WireR, WireQ, LedI, LedJ, LedK, LedL. -/
import Derived.Test.YtcdedkgkingbdaaGreatDoorQ017
import Derived.Shelf.Lay
import Derived.Shelf.Sort.Plain
import Derived.Shelf.Slices.In.SortNone
import Derived.Sort.KeysCollected
import Derived.Sort.OwnSorted
import Derived.Maps.RangeWalk
import Derived.Maps.AppendAt
import Derived.Test.YtcdedkgkingbdaaGreatDoorQ000
section
/- ledger: slices.Sort of strings off the shelf; what Names gives. -/
namespace Go.Proofs
open Go.Shelf
shelf_lay Lays.n190 Nm 190 at Tryz as Tryz.lays190
end Go.Proofs
namespace Go.Proofs.YtcdedkgkingbdaaGreatDoor
open Go.RowKit Go.Maps Go.Sort

theorem sort_strs (blk cap : Nat) (ss : List (List UInt8)) (w : World) (hH : Holds encStr w blk 0 ss.toArray) (hblk : blk < w.heap.size) (hsz : ss.length < 4611686018427387904) :
    Calls Tryz.prog 222 #[.slice (some ⟨blk, 0, none⟩) ss.length cap] w fun e w' =>
      e = .returned (.tuple #[]) ∧ ∃ n os, w' = grow (putRow encStr (Sort.ahead w n) blk 0 (ss.mergeSort fun x y => decide (x ≤ y)).toArray) os := Any.slices_Sort_string Tryz.lays190 blk 0 cap ss w hH hblk hsz
theorem sort_none (p : Option Addr) (cap : Nat) (w : World) : Calls Tryz.prog 222 #[.slice p 0 cap] w fun e w' => e = .returned (.tuple #[]) ∧ w' = w := Any.slices_Sort_string_none Tryz.lays190 p cap w

/-- The names but the house's. -/
def nb (ss : List (List UInt8)) : List (List UInt8) := ss.filter fun x => !x.isEmpty

section
variable {H : Type}

def NamesPost (D : DataW H) (w : World) (en : Ending) (w' : World) : Prop :=
  ∃ v, en = .returned v ∧ w'.ownsRow w.heap.size 9 1 v (nb (strKeys D)).length (((nb (strKeys D)).mergeSort leB).map encStr) ∧ Below w.heap.size w w'

theorem nb_le (ss : List (List UInt8)) : (nb ss).length ≤ ss.length := List.length_filter_le _ _
theorem nb_snoc (ss : List (List UInt8)) (x : List UInt8) (h : x ≠ []) : nb (ss ++ [x]) = nb ss ++ [x] := by
  unfold nb; rw [List.filter_append]; congr 1; cases x <;> simp_all
theorem nb_house (ss : List (List UInt8)) : nb (ss ++ [[]]) = nb ss := by
  unfold nb; rw [List.filter_append]; simp

set_option maxRecDepth 100000 in
set_option maxHeartbeats 1000000 in
theorem bnames_calls (d m : Nat) (D : DataW H) (w : World) (h : Bk w d m D) (hmax : Maps.size D ≤ 1000) :
    Calls Tryz.prog 221 #[.pointer (some ⟨d, 0, none⟩)] w fun en w' => NamesPost D w en w' := by
  obtain ⟨i0, hi, hz0, hz1, hz2⟩ := info_parts (P := Tryz.prog) (e := 9) (z := .string ⟨#[]⟩) (size := 1) (bytes := 16) (by kernel_rfl)
  have c0 : w.cell? ⟨d, 0, none⟩ = some (.map (some m)) := h.box.cell 0
  have hown : w.ownsMap Tryz.prog 9 (plainElem Tryz.prog 3) m (Maps.size D) D := h.map
  have hbl := hown.lt
  clear h
  go_enter Tryz.func221, Tryz.ntmps221
  go_wp2_with (first
    | (at_range; refine wpList_range_own _ rfl _ 238 rfl 9 3 strKeyed Tryz.underlying238 _ m (Maps.size D) D rfl hown ?_; intro w0 hrg0 hg0 hs0)
    | go_in)
  go_frame
  go_loopw [3] (fun v wr => ∃ (left : Lit → Bool) (cnt : Nat) (ss : List (List UInt8)), wr.ranges Tryz.prog 9 (plainElem Tryz.prog 3) m w.heap.size (Maps.size D) D left cnt ∧ ss.length + cnt ≤ Maps.size D ∧
      wr.ownsRow w.heap.size 9 1 v (nb ss).length ((nb ss).map encStr) ∧ Collected D left ss ∧ Below w.heap.size w wr)
    (fun _ wr => wr.rangeLeft m w.heap.size)
  case atStart =>
    exact ⟨_, _, [], hrg0, by simp, World.ownsRow_nil _ _ _ _, Collected.start D, (Below.refl _ _).grown hg0 (Nat.le_refl _) (fun j hj => by cases hj)⟩
  case round =>
    obtain ⟨left, cnt, ss, hrg, hcs, hrow, hC, hnx⟩ := hrel
    go_wp2_with (first
      | (at_next; refine wpList_next_ranges _ rfl _ rfl 9 strKeyed (plainElem Tryz.prog 3) encStr (Value.int .i64) (fun key kl hk => by obtain ⟨x, hx, _⟩ := Maps.keyOf_str Tryz.underlying9 hk; exact ⟨x, hx⟩) (fun v y hv => by obtain ⟨c, rfl, _⟩ := plainElem_int_inv Tryz.underlying3 hv; exact ⟨c, rfl⟩) m w.heap.size (Maps.size D) D left cnt rfl hrg ?_ ?_)
      | go_in)
    · -- nothing is left
      intro hc0 hl0
      have hperm := hC.perm hown strKeyed Tryz.underlying9 hl0
      have hp2 : (nb ss).Perm (nb (strKeys D)) := hperm.filter _
      have hlen := nb_le ss
      rcases hrow.2 with ⟨rfl, hnil⟩ | ⟨g, cap, cur, rfl, hbase, hb, h1, h2, h3, h4⟩
      · have hn2 : nb (strKeys D) = [] := List.length_eq_zero_iff.1 (by rw [← hp2.length_eq]; exact hnil)
        go_wp2_with fail
        refine (sort_none none 0 _).mono ?_
        rintro en w' ⟨rfl, rfl⟩
        go_wp2_with fail
        go_ret
        refine ⟨_, rfl, ?_, hnx⟩
        rw [hn2]
        show w'.ownsRow w.heap.size 9 1 (.slice none 0 0) 0 (List.map encStr (List.mergeSort [] leB))
        rw [List.mergeSort_nil]
        exact World.ownsRow_nil _ _ _ _
      · have hH : Holds encStr wr g 0 (nb ss).toArray := holds_of_block hb (by simpa using h4)
        have hgl : g < wr.heap.size := (Array.getElem?_eq_some_iff.1 hb).1
        have hc := sort_strs g cap (nb ss) wr hH hgl (by omega)
        go_wp2_with fail
        refine hc.mono ?_
        rintro en w' ⟨rfl, nn, os, rfl⟩
        go_wp2_with fail
        go_ret
        refine ⟨_, rfl, ?_, hnx.grown (grownBy_sorted _) hnx.size (fun j hj => by cases hj; exact hbase)⟩
        rw [← mergeSort_of_perm hp2, ← hp2.length_eq]
        exact ownsRow_sorted (by simp) hbase hb h1 h2 h3
    · -- an entry has come
      intro x c kl yd yp w2 cnt2 hkey hlk hv hat hrg2 hlt hg2 hs2 hen
      obtain ⟨x', ex, rfl, _⟩ := Maps.keyOf_str Tryz.underlying9 hkey
      obtain rfl : x = x' := encStr_inj ex
      have hrow2 := hrow.kept hg2 (Or.inr (row_ne_iter hrow hrg).symm)
      have hlen := nb_le ss
      clear hs2
      by_cases hx : x = []
      · subst hx
        go_wp2_with fail
        go_roundw
        case rel =>
          refine ⟨_, cnt2, ss ++ [[]], hrg2, by simp; omega, ?_, hC.step hlk hat, hnx.grown hg2 hnx.size (fun j hj => by cases hj; exact Nat.le_refl _)⟩
          rw [nb_house]; exact hrow2
        case measure => rw [hrg2.left_eq, hrg.left_eq]; exact hlt
      · have hE : (ByteArray.mk x.toArray).toList ≠ [] := by rw [ByteArray.toList_eq]; simpa using hx
        go_wp2_with (first
          | (at_builtin; refine wpList_append_own _ rfl _ _ 74 rfl w.heap.size 9 i0 (.string ⟨#[]⟩) 1 16 Tryz.underlying74 hi hz0 hz1 hz2 rfl (by decide) _ _ _ rfl (hrow2.alloc _) ⟨w2.heap.size, 0, none⟩ 1 1 [encStr x] rfl rfl (cell_one_new _ _ _) (by simp [Value.oneCell', encStr]) (by unfold maxLen at *; omega) (by omega) (by have := hnx.size; have := hg2.size; simp; omega) ?_; intro v' w3 hown' hg3 hnil3; go_frame)
          | go_in)
        · have hg3' : (w2.alloc (.cells #[encStr x] 9)).grownBy w3 u3.ownBlock := hg3
          have hrg3 := (hrg2.alloc _).kept hg3' (row_ne_low hrow2 hbl) (row_ne_iter hrow2 hrg2)
          clear hg3 hnil3
          go_roundw
          case rel =>
            refine ⟨_, cnt2, ss ++ [x], hrg3, by simp; omega, ?_, hC.step hlk hat, ?_⟩
            · rw [nb_snoc ss x hx, List.length_append, List.map_append]; exact hown'
            · exact ((hnx.grown hg2 hnx.size (fun j hj => by cases hj; exact Nat.le_refl _)).alloc (by have := hnx.size; have := hg2.size; omega) _).grown hg3' (by have := hnx.size; have := hg2.size; simp; omega) (fun j hj => (hrow2.lt j hj).1)
          case measure => rw [hrg3.left_eq, hrg.left_eq]; exact hlt
        · exfalso
          have hz : (!x.isEmpty) = false := by assumption
          apply hx
          simpa using hz

end
end Go.Proofs.YtcdedkgkingbdaaGreatDoor
end

section
/- ledger: what Sum, Inverse give. -/
namespace Go.Proofs.YtcdedkgkingbdaaGreatDoor
open Go.RowKit Go.Maps Go.Sort

theorem turn_box {w w' : World} (h : Turn (fun k => w.heap.size ≤ k) w w') : Below w.heap.size w w' := h.below (Nat.le_refl _) (fun j hj e => by omega)

section
variable {H : Type}

/-- What is under a name, said by its bytes. -/
def amtL (D : DataW H) (x : List UInt8) : Int := amt D ⟨x.toArray⟩
def sumL (D : DataW H) (l : List (List UInt8)) : Int := (l.map (amtL D)).foldr (· + ·) 0
/-- The sum of all. -/
def sumD (D : DataW H) : Int := sumL D (strKeys D)

theorem sumL_snoc (D : DataW H) (l : List (List UInt8)) (x : List UInt8) : sumL D (l ++ [x]) = sumL D l + amtL D x := by
  unfold sumL
  induction l with
  | nil => simp
  | cons y r ih => simp at ih ⊢; omega

theorem sumL_perm (D : DataW H) {l l' : List (List UInt8)} (h : l.Perm l') : sumL D l = sumL D l' := by
  unfold sumL
  induction h with
  | nil => rfl
  | cons x _ ih => simp at ih ⊢; omega
  | swap x y l => simp; omega
  | trans _ _ i1 i2 => exact i1.trans i2

end
end Go.Proofs.YtcdedkgkingbdaaGreatDoor
end

section
/- What each call of wire's Reader does: the bytes that are left and the error's number, behind it. -/
namespace Go.Proofs.YtcdedkgkingbdaaGreatDoor
open Go.RowKit

/-- A reader at block b: what is left, the error's number. -/
abbrev Rd (w : World) (b : Nat) (s : ByteArray) (e : Int) : Prop := Has w b 283 #[.string s, .int .i64 e]

theorem Rd.left {w : World} {b : Nat} {s : ByteArray} {e : Int} (h : Rd w b s e) (s' : ByteArray) : Rd (w.setCell ⟨b, 0, none⟩ (.string s')) b s' e := by
  have := h.put 0 (.string s')
  simpa using this
theorem Rd.err {w : World} {b : Nat} {s : ByteArray} {e : Int} (h : Rd w b s e) (e' : Int) : Rd (w.setCell ⟨b, 1, none⟩ (.int .i64 e')) b s e' := by
  have := h.put 1 (.int .i64 e')
  simpa using this

set_option maxHeartbeats 400000 in
theorem read_any (s : ByteArray) (w : World) :
    Calls Tryz.prog 111 #[.string s] w fun en w' => en = .returned (.pointer (some ⟨w.heap.size, 0, none⟩)) ∧ Rd w' w.heap.size s 0 ∧ Below w.heap.size w w' := by
  go_enter Tryz.func111, Tryz.ntmps111
  go_wp2
  go_ret
  exact ⟨rfl, Has.made _ _ _, (Below.refl _ _).alloc (Nat.le_refl _) _⟩

/-- The error's number behind a Fail: the first one stays. -/
def first (e k : Int) : Int := if e = 0 then k else e
theorem first_zero (k : Int) : first 0 k = k := rfl
theorem first_some {e : Int} (h : e ≠ 0) (k : Int) : first e k = e := if_neg h

set_option maxHeartbeats 400000 in
theorem fail_any (b : Nat) (s : ByteArray) (e k : Int) (w : World) (h : Rd w b s e) :
    Calls Tryz.prog 156 #[.pointer (some ⟨b, 0, none⟩), .int .i64 k] w fun en w' => en = .returned (.tuple #[]) ∧ Rd w' b ⟨#[]⟩ (first e k) ∧ w.grownBy w' (some b) := by
  have c0 : w.cell? ⟨b, 0, none⟩ = some (.string s) := h.cell 0
  have c1 : w.cell? ⟨b, 1, none⟩ = some (.int .i64 e) := h.cell 1
  have f0 := h.free 0
  have f1 := h.free 1
  have H := Lib.hid h
  clear h
  by_cases he : e = 0
  · subst he
    rw [first_zero]
    go_enter Tryz.func156, Tryz.ntmps156
    go_wp2
    go_end0
    exact ⟨rfl, (H.out.err k).left ⟨#[]⟩, grown_own (grown_own (grown_refl w _) 1 _) 0 _⟩
  · have he' : (e == 0) = false := by simpa using he
    rw [first_some he]
    go_enter Tryz.func156, Tryz.ntmps156
    go_wp2
    go_end0
    exact ⟨rfl, H.out.left ⟨#[]⟩, grown_own (grown_refl w _) 0 _⟩

/-- The error's number at the end: ErrForm, if something is left. -/
def endE (s : ByteArray) (e : Int) : Int := if s.data.toList = [] then e else first e 2

set_option maxHeartbeats 400000 in
theorem end_any (b : Nat) (s : ByteArray) (e : Int) (w : World) (h : Rd w b s e) :
    Calls Tryz.prog 114 #[.pointer (some ⟨b, 0, none⟩)] w fun en w' => en = .returned (.int .i64 (endE s e)) ∧ Rd w' b ⟨#[]⟩ (endE s e) ∧ w.grownBy w' (some b) := by
  have c0 : w.cell? ⟨b, 0, none⟩ = some (.string s) := h.cell 0
  have c1 : w.cell? ⟨b, 1, none⟩ = some (.int .i64 e) := h.cell 1
  by_cases hs : s.data.toList = []
  · have he : endE s e = e := if_pos hs
    rw [he]
    have hs' : s = ⟨#[]⟩ := by
      cases s with | mk d => simp at hs; rw [hs]
    subst hs'
    have H := Lib.hid h
    clear h he
    go_enter Tryz.func114, Tryz.ntmps114
    go_wp2
    go_ret
    exact ⟨rfl, H.out, grown_refl w _⟩
  · have he : endE s e = first e 2 := if_neg hs
    rw [he]
    have hs1 : s.toList.isEmpty = false := by rw [ByteArray.toList_eq]; simpa using hs
    have hs2 : (!s.toList.isEmpty) = true := by rw [hs1]; rfl
    have H := Lib.hid h
    clear h he c1 hs
    go_enter Tryz.func114, Tryz.ntmps114
    go_wp2_with fail
    refine (fail_any b s e 2 w H.out).mono ?_
    rintro en w1 ⟨rfl, h1, g1⟩
    have c1 : w1.cell? ⟨b, 1, none⟩ = some (.int .i64 (first e 2)) := h1.cell 1
    have H1 := Lib.hid h1
    clear h1
    go_wp2
    go_ret
    exact ⟨rfl, H1.out, g1⟩

/-- How a number is read: the error's number (0: none), the number, how many bytes. i: how many bytes went before, n: what they make. -/
def dec (i n : Nat) : List UInt8 → Nat × Nat × Nat
  | [] => (1, 0, 0)
  | b :: t =>
    if (i = 0 ∧ b.toNat = 128) ∨ 144115188075855872 ≤ n then (2, 0, 0)
    else if b.toNat < 128 then (0, n * 128 + b.toNat % 128, i + 1)
    else dec (i + 1) (n * 128 + b.toNat % 128) t

def restOf (s : ByteArray) (r : Nat × Nat × Nat) : ByteArray := if r.1 = 0 then s.extract r.2.2 s.size else ⟨#[]⟩
def errOf (e : Int) (r : Nat × Nat × Nat) : Int := if r.1 = 0 then e else first e (r.1 : Nat)

/-- What a number's taking leaves. -/
def NumPost (b : Nat) (s : ByteArray) (e : Int) (w : World) (r : Nat × Nat × Nat) (en : Ending) (w' : World) : Prop :=
  en = .returned (.int .u64 (r.2.1 : Nat)) ∧ Rd w' b (restOf s r) (errOf e r) ∧ w.grownBy w' (some b)

theorem andnot_7 (b : UInt8) : bits .andNot .u8 (b.toNat : Int) 128 = (b.toNat : Int) % 128 := by
  have h := u8_andNot_nat b.toNat 128 b.toNat_lt (by omega)
  have e : b.toNat &&& (255 - 128) = b.toNat % 128 := Nat.and_two_pow_sub_one_eq_mod b.toNat 7
  rw [e] at h
  simpa using h

theorem or_7 (N : Nat) (b : UInt8) (h : N < 144115188075855872) : bits .or .u64 ((N : Int) * 128) ((b.toNat : Int) % 128) = (N : Int) * 128 + (b.toNat : Int) % 128 := by
  have h' := u64_or_nat (N * 128) (b.toNat % 128) (by omega) (by omega)
  have e : N * 128 ||| b.toNat % 128 = N * 128 + b.toNat % 128 := by
    have := Nat.shiftLeft_add_eq_or_of_lt (a := N) (b := b.toNat % 128) (i := 7) (by omega)
    rw [Nat.shiftLeft_eq] at this
    exact this.symm
  rw [e] at h'
  simpa using h'

theorem drop_at (s : ByteArray) (k : Nat) (h : k < s.size) : s.data.toList.drop k = s[k] :: s.data.toList.drop (k + 1) := by
  rw [List.drop_eq_getElem_cons (by simpa using h)]
  rfl

set_option maxRecDepth 100000 in
set_option maxHeartbeats 1000000 in
theorem num_any (b : Nat) (s : ByteArray) (e : Int) (w : World) (hs : s.size ≤ maxLen) (h : Rd w b s e) :
    Calls Tryz.prog 155 #[.pointer (some ⟨b, 0, none⟩)] w fun en w' => NumPost b s e w (dec 0 0 s.data.toList) en w' := by
  have c0 : w.cell? ⟨b, 0, none⟩ = some (.string s) := h.cell 0
  have f0 := h.free 0
  unfold maxLen at hs
  have H := Lib.hid h
  clear h
  go_enter Tryz.func155, Tryz.ntmps155
  go_wp2_with fail
  go_loop [3, 4] (fun n i => ∃ k N : Nat, k ≤ s.size ∧ i = .int .i64 k ∧ n = .int .u64 N ∧ Hid (dec 0 0 s.data.toList = dec k N (s.data.toList.drop k))) (fun _ i => s.size - (intOf i).toNat)
  case atStart => exact ⟨0, 0, Nat.zero_le _, rfl, rfl, by rfl⟩
  case round =>
    obtain ⟨k, N, hk, rfl, rfl, HD⟩ := hrel
    by_cases hlt : k < s.size
    · have hd := drop_at s k hlt
      by_cases hN : 144115188075855872 ≤ N
      · have HE : Hid (dec 0 0 s.data.toList = (2, 0, 0)) := by rw [HD.out, hd, dec, if_pos (.inr hN)]; exact rfl
        clear hd
        have hN1 : ((N : Int) / 144115188075855872 != 0) = true := by simp; omega
        have HH := Lib.hid hN
        clear hN
        have hw : (k = 0 ∧ s[k].toNat = 128) ∨ (k = 0 ∧ ¬ s[k].toNat = 128) ∨ ¬ k = 0 := by omega
        rcases hw with ⟨rfl, hb⟩ | ⟨rfl, hb⟩ | hk0
        · have hb1 : ((s[0].toNat : Int) == 128) = true := by rw [hb]; rfl
          clear hb
          go_wp2_with fail
          refine (fail_any b s e 2 w H.out).mono ?_
          rintro en w1 ⟨rfl, h1, g1⟩
          have H1 := Lib.hid h1
          clear h1
          go_wp2
          go_ret
          rw [HE.out]
          exact ⟨rfl, H1.out, g1⟩
        · have hb1 : ((s[0].toNat : Int) == 128) = false := by simp; omega
          clear hb
          go_wp2_with fail
          refine (fail_any b s e 2 w H.out).mono ?_
          rintro en w1 ⟨rfl, h1, g1⟩
          have H1 := Lib.hid h1
          clear h1
          go_wp2
          go_ret
          rw [HE.out]
          exact ⟨rfl, H1.out, g1⟩
        · have hk1 : ((k : Int) == 0) = false := by simpa using hk0
          go_wp2_with fail
          refine (fail_any b s e 2 w H.out).mono ?_
          rintro en w1 ⟨rfl, h1, g1⟩
          have H1 := Lib.hid h1
          clear h1
          go_wp2
          go_ret
          rw [HE.out]
          exact ⟨rfl, H1.out, g1⟩
      · by_cases hk0 : k = 0
        · subst hk0
          have hN1 : ((N : Int) / 144115188075855872 != 0) = false := by simp; omega
          have hx := andnot_7 s[0]
          have hy := or_7 N s[0] (by omega)
          by_cases hb2 : s[0].toNat = 128
          · have HE : Hid (dec 0 0 s.data.toList = (2, 0, 0)) := by rw [HD.out, hd, dec, if_pos (.inl ⟨rfl, hb2⟩)]; exact rfl
            have hb1 : ((s[0].toNat : Int) == 128) = true := by rw [hb2]; rfl
            clear hb2 hd hx hy
            go_wp2_with fail
            refine (fail_any b s e 2 w H.out).mono ?_
            rintro en w1 ⟨rfl, h1, g1⟩
            have H1 := Lib.hid h1
            clear h1
            go_wp2
            go_ret
            rw [HE.out]
            exact ⟨rfl, H1.out, g1⟩
          · have hb1 : ((s[0].toNat : Int) == 128) = false := by simp; omega
            by_cases hb : s[0].toNat < 128
            · have HE : Hid (dec 0 0 s.data.toList = (0, N * 128 + s[0].toNat % 128, 0 + 1)) := by rw [HD.out, hd, dec, if_neg (by omega), if_pos hb]; exact rfl
              clear hd
              go_wp2_with fail
              go_ret
              rw [HE.out]
              exact ⟨rfl, H.out.left _, grown_own (grown_refl w _) 0 _⟩
            · have HE : Hid (dec 0 0 s.data.toList = dec (0 + 1) (N * 128 + s[0].toNat % 128) (s.data.toList.drop (0 + 1))) := by rw [HD.out, hd, dec, if_neg (by omega), if_neg hb]; exact rfl
              clear hd
              go_wp2_with fail
              go_round
              case rel => exact ⟨0 + 1, N * 128 + s[0].toNat % 128, by omega, by go_num, by go_num, HE⟩
              case measure => simp [intOf]; omega
        · have hk1 : ((k : Int) == 0) = false := by simpa using hk0
          have hN1 : ((N : Int) / 144115188075855872 != 0) = false := by simp; omega
          have hx := andnot_7 s[k]
          have hy := or_7 N s[k] (by omega)
          by_cases hb : s[k].toNat < 128
          · have HE : Hid (dec 0 0 s.data.toList = (0, N * 128 + s[k].toNat % 128, k + 1)) := by rw [HD.out, hd, dec, if_neg (by omega), if_pos hb]; exact rfl
            clear hd
            go_wp2_with fail
            go_ret
            rw [HE.out]
            exact ⟨rfl, H.out.left _, grown_own (grown_refl w _) 0 _⟩
          · have HE : Hid (dec 0 0 s.data.toList = dec (k + 1) (N * 128 + s[k].toNat % 128) (s.data.toList.drop (k + 1))) := by rw [HD.out, hd, dec, if_neg (by omega), if_neg hb]; exact rfl
            clear hd
            go_wp2_with fail
            go_round
            case rel => exact ⟨k + 1, N * 128 + s[k].toNat % 128, by omega, by go_num, by go_num, HE⟩
            case measure => simp [intOf]; omega
    · have HE : Hid (dec 0 0 s.data.toList = (1, 0, 0)) := by rw [HD.out, List.drop_of_length_le (by simp; omega)]; exact rfl
      go_wp2_with fail
      refine (fail_any b s e 1 w H.out).mono ?_
      rintro en w1 ⟨rfl, h1, g1⟩
      have H1 := Lib.hid h1
      clear h1
      go_wp2
      go_ret
      rw [HE.out]
      exact ⟨rfl, H1.out, g1⟩

end Go.Proofs.YtcdedkgkingbdaaGreatDoor
end

section
/- What wire's Reader's Err gives. -/
namespace Go.Proofs.YtcdedkgkingbdaaGreatDoor
open Go.RowKit

set_option maxHeartbeats 400000 in
theorem err_any (b : Nat) (s : ByteArray) (e : Int) (w : World) (h : Rd w b s e) :
    Calls Tryz.prog 160 #[.pointer (some ⟨b, 0, none⟩)] w fun en w' => en = .returned (.int .i64 e) ∧ w = w' := by
  have c1 : w.cell? ⟨b, 1, none⟩ = some (.int .i64 e) := h.cell 1
  clear h
  go_enter Tryz.func160, Tryz.ntmps160
  go_wp2
  go_ret
  exact ⟨rfl, rfl⟩


end Go.Proofs.YtcdedkgkingbdaaGreatDoor
end

section
/- ledger: two maps that say the same; an op and what takes it back (no program's walk). -/
namespace Go.Proofs.YtcdedkgkingbdaaGreatDoor
open Go.RowKit Go.Maps Go.Sort

section
variable {H : Type}

/-- A map from names. -/
def Good (D : DataW H) : Prop := ∃ es, D = .map es ∧ es.Pairwise (fun p q => p.1 ≠ q.1) ∧ ∀ p ∈ es, ∃ x, p.1 = .string x

theorem Mp.good {w : World} {m : Nat} {D : DataW H} (h : Mp w m D) : Good D := by
  obtain ⟨es, hD, hpw, _⟩ := World.ownsMap.entries h strKeyed
  obtain ⟨es', hD', hko⟩ := World.ownsMap.keysOf h
  obtain rfl : es = es' := by rw [hD] at hD'; simpa using hD'
  exact ⟨es, hD, hpw, fun p hp => by obtain ⟨v, hv⟩ := hko p hp; obtain ⟨x, _, hx, _⟩ := Maps.keyOf_str Tryz.underlying9 hv; exact ⟨x, hx⟩⟩

theorem Good.tidy {D : DataW H} (h : Good D) : Tidy D := by
  obtain ⟨es, e, hp, _⟩ := h
  exact ⟨es, e, hp⟩

theorem mem_strKeys {D : DataW H} (h : Good D) (x : List UInt8) : x ∈ strKeys D ↔ has D (.string x) = true := by
  obtain ⟨es, rfl, _, hk⟩ := h
  rw [has_eq, List.any_eq_true]
  show x ∈ es.map (fun p => strOf p.1) ↔ _
  rw [List.mem_map]
  constructor
  · rintro ⟨p, hp, rfl⟩
    obtain ⟨a, ha⟩ := hk p hp
    exact ⟨p, hp, by rw [ha]; simp [Lit.sameKey, strOf]⟩
  · rintro ⟨p, hp, hs⟩
    obtain ⟨a, ha⟩ := hk p hp
    rw [ha] at hs
    exact ⟨p, hp, by rw [ha]; simpa [Lit.sameKey, strOf] using hs⟩

theorem nodup_strKeys {D : DataW H} (h : Good D) : (strKeys D).Nodup := by
  obtain ⟨es, rfl, hp, hk⟩ := h
  show (es.map fun p => strOf p.1).Nodup
  refine List.pairwise_map.2 (hp.imp_of_mem fun {p q} hp' hq' hne e => hne ?_)
  obtain ⟨a, ha⟩ := hk p hp'
  obtain ⟨b, hb⟩ := hk q hq'
  rw [ha, hb] at e ⊢
  exact congrArg _ e

/-- Two maps that say the same. -/
structure Alike (D D' : DataW H) : Prop where
  l : Good D
  r : Good D'
  same : ∀ s, isIn D s = isIn D' s ∧ amt D s = amt D' s

theorem Alike.perm {D D' : DataW H} (h : Alike D D') : (strKeys D).Perm (strKeys D') :=
  (List.perm_ext_iff_of_nodup (nodup_strKeys h.l) (nodup_strKeys h.r)).2 fun x => by
    rw [mem_strKeys h.l, mem_strKeys h.r]
    have := (h.same ⟨x.toArray⟩).1
    unfold isIn kS at this
    simp at this
    rw [this]

theorem Alike.names {D D' : DataW H} (h : Alike D D') : (nb (strKeys D)).mergeSort leB = (nb (strKeys D')).mergeSort leB := mergeSort_of_perm (h.perm.filter _)
theorem Alike.amtL {D D' : DataW H} (h : Alike D D') (x : List UInt8) : amtL D x = amtL D' x := (h.same _).2
theorem Alike.size {D D' : DataW H} (h : Alike D D') : Maps.size D = Maps.size D' := by
  have e := h.perm.length_eq
  obtain ⟨es, rfl, _⟩ := h.l
  obtain ⟨es', rfl, _⟩ := h.r
  simpa [strKeys, Maps.size] using e

theorem isIn_put {D : DataW H} (hD : IsMap D) (s t : ByteArray) (d : DataW H) : isIn (D.put (kS s) d) t = if t = s then true else isIn D t := by
  unfold isIn
  by_cases h : t = s
  · rw [if_pos h, h]; exact has_put_same hD (kS_key s) d
  · rw [if_neg h]; exact has_put_other (fun e => h (kS_inj e)) d
theorem isIn_del {D : DataW H} (s t : ByteArray) : isIn (D.del (kS s)) t = if t = s then false else isIn D t := by
  unfold isIn
  by_cases h : t = s
  · rw [if_pos h, h]; exact has_del_same
  · rw [if_neg h]; exact has_del_other (fun e => h (kS_inj e))
theorem amt_put {D : DataW H} (hD : IsMap D) (s t : ByteArray) (n : Int) : amt (D.put (kS s) (nI n)) t = if t = s then n else amt D t := by
  by_cases h : t = s
  · subst h; rw [if_pos rfl]; exact amt_of (atKey_put_same hD (kS_key t) _ _)
  · rw [if_neg h]; unfold amt; rw [atKey_put_other (fun e => h (kS_inj e))]
theorem amt_del {D : DataW H} (s t : ByteArray) : amt (D.del (kS s)) t = if t = s then 0 else amt D t := by
  by_cases h : t = s
  · subst h; rw [if_pos rfl]; exact amt_of (atKey_del_same _)
  · rw [if_neg h]; unfold amt; rw [atKey_del_other (fun e => h (kS_inj e))]

end
end Go.Proofs.YtcdedkgkingbdaaGreatDoor
end

section
/- ledger: an op that was done is taken back by its inverse (no program's walk). -/
namespace Go.Proofs.YtcdedkgkingbdaaGreatDoor
open Go.RowKit Go.Maps Go.Sort

section
variable {H : Type}

/-- What every book keeps. -/
structure InvB (D : DataW H) : Prop where
  tidy : Tidy D
  size : Maps.size D ≤ 17
  lo : ∀ s : ByteArray, s ≠ .empty → 0 ≤ amt D s
  hi : ∀ s : ByteArray, s ≠ .empty → amt D s ≤ 1099511627776

/-- The inverse's parts. -/
def invK (k : Int) : Int := if k = 1 then 2 else if k = 2 then 1 else 3
def invS (k : Int) (s t : ByteArray) : ByteArray := if k = 3 then t else s
def invT (k : Int) (s : ByteArray) : ByteArray := if k = 3 then s else ⟨#[]⟩
def invN (k n : Int) : Int := if k = 3 then n else 0

theorem amt_absent {D : DataW H} {s : ByteArray} (h : isIn D s = false) : amt D s = 0 := amt_of (atKey_of_not_has h _)

theorem chk_open {k n : Int} {s t : ByteArray} (hk : k = 1 ∨ k = 2) (h : chkL k s t n = 0) : ¬ s.toList = [] ∧ s.size ≤ 12 := by
  unfold chkL at h
  rw [if_pos hk] at h
  split at h
  · rename_i h1; exact ⟨h1.1, h1.2.2.2.1⟩
  · omega

theorem chk_move {n : Int} {s t : ByteArray} (h : chkL 3 s t n = 0) : ¬ s.toList = t.toList ∧ 1 ≤ n ∧ n ≤ 1099511627776 ∧ s.size ≤ 12 ∧ t.size ≤ 12 := by
  unfold chkL at h
  rw [if_neg (by decide), if_pos rfl] at h
  split at h
  · assumption
  · omega

end
end Go.Proofs.YtcdedkgkingbdaaGreatDoor
end

section
/- ledger: what every book keeps stays kept (no program's walk). -/
namespace Go.Proofs.YtcdedkgkingbdaaGreatDoor
open Go.RowKit Go.Maps Go.Sort

section
variable {H : Type}

theorem inv_opn {D : DataW H} (I : InvB D) (s : ByteArray) : InvB (opn D s).1 := by
  have hm := I.tidy.isMap
  unfold opn
  split
  · exact I
  · rename_i hi
    split
    · exact I
    · rename_i hs
      refine ⟨I.tidy.put (kS_key s) _, ?_, fun x hx => ?_, fun x hx => ?_⟩
      · show Maps.size (D.put (kS s) (nI 0)) ≤ 17
        rw [size_put I.tidy]
        split <;> omega
      · show 0 ≤ amt (D.put (kS s) (nI 0)) x
        rw [amt_put hm]
        split
        · omega
        · exact I.lo x hx
      · show amt (D.put (kS s) (nI 0)) x ≤ _
        rw [amt_put hm]
        split
        · omega
        · exact I.hi x hx

theorem inv_cls {D : DataW H} (I : InvB D) (s : ByteArray) : InvB (cls D s).1 := by
  unfold cls
  split
  · exact I
  · split
    · exact I
    · refine ⟨I.tidy.del _, ?_, fun x hx => ?_, fun x hx => ?_⟩
      · show Maps.size (D.del (kS s)) ≤ 17
        have := size_del (k := kS s) I.tidy
        have := I.size
        omega
      · show 0 ≤ amt (D.del (kS s)) x
        rw [amt_del]
        split
        · omega
        · exact I.lo x hx
      · show amt (D.del (kS s)) x ≤ _
        rw [amt_del]
        split
        · omega
        · exact I.hi x hx

theorem inv_mov {D : DataW H} (I : InvB D) (s t : ByteArray) (n : Int) (hn : 1 ≤ n) (hst : s ≠ t) : InvB (mov D s t n).1 := by
  have hm := I.tidy.isMap
  unfold mov
  split
  · exact I
  · rename_i hs
    split
    · exact I
    · rename_i ht
      split
      · exact I
      · rename_i h1
        split
        · exact I
        · rename_i h2
          have hs' : has D (kS s) = true := show isIn D s = true by simpa using hs
          have ht' : isIn D t = true := by simpa using ht
          have hm2 : IsMap (D.put (kS s) (nI (amt D s - n))) := hm.put _ _
          have t2 : Tidy (D.put (kS s) (nI (amt D s - n))) := I.tidy.put (kS_key s) _
          refine ⟨t2.put (kS_key t) _, ?_, fun x hx => ?_, fun x hx => ?_⟩
          · show Maps.size ((D.put (kS s) (nI (amt D s - n))).put (kS t) (nI (amt D t + n))) ≤ 17
            have ht2 : has (D.put (kS s) (nI (amt D s - n))) (kS t) = true := by
              have := isIn_put hm s t (nI (amt D s - n))
              rw [if_neg (fun e => hst e.symm), ht'] at this
              exact this
            rw [size_put t2, if_pos ht2, size_put I.tidy, if_pos hs']
            exact I.size
          · show 0 ≤ amt ((D.put (kS s) (nI (amt D s - n))).put (kS t) (nI (amt D t + n))) x
            rw [amt_put hm2, amt_put hm]
            have lo := I.lo x hx
            by_cases h3 : x = t
            · rw [if_pos h3]; rw [h3] at lo; omega
            · rw [if_neg h3]
              by_cases h4 : x = s
              · rw [if_pos h4]
                rw [h4] at hx
                by_cases h5 : amt D s < n
                · exact absurd ⟨hx, h5⟩ h1
                · omega
              · rw [if_neg h4]; exact lo
          · show amt ((D.put (kS s) (nI (amt D s - n))).put (kS t) (nI (amt D t + n))) x ≤ _
            rw [amt_put hm2, amt_put hm]
            have hi := I.hi x hx
            by_cases h3 : x = t
            · rw [if_pos h3]
              rw [h3] at hx
              by_cases h5 : 1099511627776 < amt D t + n
              · exact absurd ⟨hx, h5⟩ h2
              · omega
            · rw [if_neg h3]
              by_cases h4 : x = s
              · rw [if_pos h4]; rw [h4] at hi; omega
              · rw [if_neg h4]; exact hi

/-- Whatever is done. -/
theorem inv_do {D : DataW H} (I : InvB D) (k n : Int) (s t : ByteArray) : InvB (doL D k s t n).1 := by
  unfold doL
  split
  · exact I
  · rename_i hc
    have hc' : chkL k s t n = 0 := by simpa using hc
    split
    · exact inv_opn I s
    · rename_i h1
      split
      · exact inv_cls I s
      · rename_i h2
        rcases chk_kind hc' with h | h | ⟨rfl, hn, _⟩
        · exact absurd h h1
        · exact absurd h h2
        · exact inv_mov I s t n hn (fun e => (chk_move hc').1 (by rw [e]))

theorem inv_new : InvB (D0 (H := H)) := by
  have hm : IsMap (.map [] : DataW H) := isMap_empty
  refine ⟨tidy_empty.put (kS_key _) _, ?_, fun x hx => ?_, fun x hx => ?_⟩
  · show Maps.size ((DataW.map []).put (kS ⟨#[]⟩) (nI 0)) ≤ 17
    rw [size_put tidy_empty]
    split <;> simp [Maps.size]
  · show 0 ≤ amt ((DataW.map []).put (kS ⟨#[]⟩) (nI 0)) x
    rw [amt_put hm, if_neg (by exact hx), amt_absent rfl]
    omega
  · show amt ((DataW.map []).put (kS ⟨#[]⟩) (nI 0)) x ≤ _
    rw [amt_put hm, if_neg (by exact hx), amt_absent rfl]
    omega

end
end Go.Proofs.YtcdedkgkingbdaaGreatDoor
end

section
/- ledger: how the sum turns where one name's amount turns (no program's walk). -/
namespace Go.Proofs.YtcdedkgkingbdaaGreatDoor
open Go.RowKit Go.Maps Go.Sort

section
variable {H : Type}

theorem amtL_absent {D : DataW H} {x : List UInt8} (h : has D (.string x) = false) : amtL D x = 0 :=
  amt_absent (D := D) (s := ⟨x.toArray⟩) (by unfold isIn kS; simpa using h)

theorem sumL_filter (D : DataW H) (l : List (List UInt8)) : sumL D (l.filter fun x => has D (.string x)) = sumL D l := by
  induction l with
  | nil => rfl
  | cons x r ih =>
    cases hx : has D (.string x)
    · rw [List.filter_cons_of_neg (by simp [hx]), ih]
      unfold sumL
      simp [amtL_absent hx]
    · rw [List.filter_cons_of_pos (by simpa using hx)]
      unfold sumL at ih ⊢
      simp only [List.map_cons, List.foldr_cons]
      rw [ih]

/-- Over any names that hold all that are there. -/
theorem sumL_super {D : DataW H} (h : Good D) {l : List (List UInt8)} (hn : l.Nodup) (hl : ∀ x, has D (.string x) = true → x ∈ l) : sumL D l = sumD D := by
  rw [← sumL_filter]
  exact sumL_perm D ((List.perm_ext_iff_of_nodup (hn.filter _) (nodup_strKeys h)).2 fun x => by
    rw [mem_strKeys h, List.mem_filter]
    exact ⟨fun e => e.2, fun e => ⟨hl x e, e⟩⟩)

theorem sumL_change {D D' : DataW H} {y : List UInt8} (h : ∀ x, x ≠ y → amtL D' x = amtL D x) : ∀ l : List (List UInt8), l.Nodup → sumL D' l = sumL D l + if y ∈ l then amtL D' y - amtL D y else 0
  | [], _ => by simp [sumL]
  | x :: r, hn => by
    have ih := sumL_change h r (List.nodup_cons.1 hn).2
    have hx := (List.nodup_cons.1 hn).1
    have c1 : sumL D' (x :: r) = amtL D' x + sumL D' r := rfl
    have c2 : sumL D (x :: r) = amtL D x + sumL D r := rfl
    rw [c1, c2, ih]
    by_cases e : x = y
    · subst e
      rw [if_neg hx, if_pos (List.mem_cons_self)]
      omega
    · rw [h x e]
      by_cases hy : y ∈ r
      · rw [if_pos hy, if_pos (List.mem_cons_of_mem _ hy)]; omega
      · rw [if_neg hy, if_neg (by simp [hy]; exact fun e' => e e'.symm)]; omega

/-- One name's amount alone has turned (it may have come or gone). -/
theorem sumD_change {D D' : DataW H} (g : Good D) (g' : Good D') {y : List UInt8} (h : ∀ x, x ≠ y → amtL D' x = amtL D x) (hi : ∀ x, x ≠ y → has D' (.string x) = has D (.string x)) :
    sumD D' = sumD D + (amtL D' y - amtL D y) := by
  by_cases hy : y ∈ strKeys D
  · rw [← sumL_super g' (nodup_strKeys g) (fun x hx => by
      by_cases e : x = y
      · rw [e]; exact hy
      · exact (mem_strKeys g x).2 (by rw [← hi x e]; exact hx)), sumL_change h _ (nodup_strKeys g), if_pos hy]
    rfl
  · have hn : (y :: strKeys D).Nodup := List.nodup_cons.2 ⟨hy, nodup_strKeys g⟩
    rw [← sumL_super g' hn (fun x hx => by
      by_cases e : x = y
      · rw [e]; exact List.mem_cons_self
      · exact List.mem_cons_of_mem _ ((mem_strKeys g x).2 (by rw [← hi x e]; exact hx))), sumL_change h _ hn, if_pos (List.mem_cons_self),
      sumL_super g hn (fun x hx => List.mem_cons_of_mem _ ((mem_strKeys g x).2 hx))]

end
end Go.Proofs.YtcdedkgkingbdaaGreatDoor
end

