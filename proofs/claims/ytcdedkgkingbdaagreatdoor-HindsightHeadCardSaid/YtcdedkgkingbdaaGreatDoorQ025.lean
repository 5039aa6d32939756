/- Texts laid into one: TextA, TextC, TextD. -/
import Derived.Test.YtcdedkgkingbdaaGreatDoorQ000
import Derived.Deep.QuietTactic
import Derived.BigQuiet
import Derived.IntWalk
import Derived.Test.YtcdedkgkingbdaaGreatDoorQ019
import Derived.Test.YtcdedkgkingbdaaGreatDoorQ020
import Derived.Test.YtcdedkgkingbdaaGreatDoorQ021
section
/- text: what Check, insert, cut, Do, New give. -/
namespace Go.Proofs.YtcdedkgkingbdaaGreatDoor.text
open Go.RowKit

/-- The error of an op; m: how many bytes its text has. -/
def chk (k a m n : Int) : Int :=
  if k = 1 then (if 0 ≤ a ∧ a ≤ 200 ∧ 1 ≤ m ∧ m ≤ 40 ∧ n = 0 then 0 else 4)
  else if k = 2 then (if 0 ≤ a ∧ a ≤ 200 ∧ 1 ≤ n ∧ n ≤ 40 ∧ m = 0 then 0 else 4) else 5

/-- The document at block d. -/
def Dc (w : World) (d : Nat) (s : ByteArray) : Prop := Has w d 237 #[.string s]

theorem one_box {w w' : World} (h : Turn (fun k => w.heap.size ≤ k) w w') : Below w.heap.size w w' := h.below (Nat.le_refl _) (fun j hj e => by omega)

theorem ends4 {a b n : Int} (h : ¬ (0 ≤ a ∧ a ≤ 200 ∧ 1 ≤ b ∧ b ≤ 40 ∧ n = 0)) : a < 0 ∨ (0 ≤ a ∧ 200 < a) ∨ (0 ≤ a ∧ a ≤ 200 ∧ b < 1) ∨ (0 ≤ a ∧ a ≤ 200 ∧ 1 ≤ b ∧ 40 < b) ∨ (0 ≤ a ∧ a ≤ 200 ∧ 1 ≤ b ∧ b ≤ 40 ∧ (n != 0) = true) := by
  have e : (n != 0) = true ↔ n ≠ 0 := by simp
  rw [e]; omega

set_option maxRecDepth 100000 in
set_option maxHeartbeats 1000000 in
theorem check_calls (k a n : Int) (x : ByteArray) (w : World) (hx : x.size ≤ maxLen) :
    Calls Tryz.prog 179 #[.agg #[.int .i64 k, .int .i64 a, .string x, .int .i64 n]] w fun en w' => en = .returned (.int .i64 (chk k a x.size n)) ∧ Below w.heap.size w w' := by
  have hm : x.size ≤ 9223372036854775807 := by unfold maxLen at hx; omega
  generalize hc : chk k a x.size n = c
  unfold chk at hc
  by_cases h1 : k = 1
  · subst h1
    rw [if_pos rfl] at hc
    by_cases h : 0 ≤ a ∧ a ≤ 200 ∧ 1 ≤ (x.size : Int) ∧ (x.size : Int) ≤ 40 ∧ n = 0
    · rw [if_pos h] at hc
      subst hc
      obtain ⟨h2, h3, h4, h5, rfl⟩ := h
      go_enter Tryz.func179, Tryz.ntmps179
      go_wp2_with fail
      go_region
      go_wp2_with fail
      go_ret
      refine ⟨rfl, one_box ?_⟩
      repeat (first | exact Turn.refl _ _ | refine Turn.drew ?_ | refine Turn.alloc ?_ _)
    · rw [if_neg h] at hc
      subst hc
      rcases ends4 h with h2 | ⟨h2, h3⟩ | ⟨h2, h3, h4⟩ | ⟨h2, h3, h4, h5⟩ | ⟨h2, h3, h4, h5, h6⟩
      all_goals
        clear h
        go_enter Tryz.func179, Tryz.ntmps179
        go_wp2_with fail
        go_region
        go_wp2_with fail
        go_ret
        refine ⟨rfl, one_box ?_⟩
        repeat (first | exact Turn.refl _ _ | refine Turn.drew ?_ | refine Turn.alloc ?_ _)
  · rw [if_neg h1] at hc
    by_cases h2 : k = 2
    · subst h2
      clear h1
      rw [if_pos rfl] at hc
      by_cases h : 0 ≤ a ∧ a ≤ 200 ∧ 1 ≤ n ∧ n ≤ 40 ∧ (x.size : Int) = 0
      · rw [if_pos h] at hc
        subst hc
        obtain ⟨h2, h3, h4, h5, h6⟩ := h
        go_enter Tryz.func179, Tryz.ntmps179
        go_wp2_with fail
        go_region
        go_wp2_with fail
        go_ret
        refine ⟨rfl, one_box ?_⟩
        repeat (first | exact Turn.refl _ _ | refine Turn.drew ?_ | refine Turn.alloc ?_ _)
      · rw [if_neg h] at hc
        subst hc
        rcases ends4 h with h2 | ⟨h2, h3⟩ | ⟨h2, h3, h4⟩ | ⟨h2, h3, h4, h5⟩ | ⟨h2, h3, h4, h5, h6⟩
        all_goals
          clear h
          go_enter Tryz.func179, Tryz.ntmps179
          go_wp2_with fail
          go_region
          go_wp2_with fail
          go_ret
          refine ⟨rfl, one_box ?_⟩
          repeat (first | exact Turn.refl _ _ | refine Turn.drew ?_ | refine Turn.alloc ?_ _)
    · rw [if_neg h2] at hc
      subst hc
      have k1 : (k != 1) = true := by simpa using h1
      have k2 : (k != 2) = true := by simpa using h2
      clear h1 h2
      go_enter Tryz.func179, Tryz.ntmps179
      go_wp2_with fail
      go_ret
      refine ⟨rfl, one_box ?_⟩
      repeat (first | exact Turn.refl _ _ | refine Turn.drew ?_ | refine Turn.alloc ?_ _)

/-- What insert leaves, the error. -/
def insT (s : ByteArray) (n : Nat) (x : ByteArray) : ByteArray × Int :=
  if s.size < n then (s, 6) else if 200 < s.size + x.size then (s, 7) else (s.extract 0 n ++ x ++ s.extract n s.size, 0)

def InsPost (d : Nat) (w : World) (r : ByteArray × Int) (en : Ending) (w' : World) : Prop :=
  en = .returned (.int .i64 r.2) ∧ Dc w' d r.1 ∧ w.grownBy w' (some d)

set_option maxRecDepth 100000 in
set_option maxHeartbeats 400000 in
theorem insert_calls (d n : Nat) (s x : ByteArray) (w : World) (h : Dc w d s) (hs : s.size ≤ 200) (hn : n ≤ 200) (hx : x.size ≤ 40) :
    Calls Tryz.prog 211 #[.pointer (some ⟨d, 0, none⟩), .int .i64 n, .string x] w fun en w' => InsPost d w (insT s n x) en w' := by
  have c0 : w.cell? ⟨d, 0, none⟩ = some (.string s) := h.cell 0
  have f0 := h.free 0
  have H := Lib.hid h
  clear h
  by_cases h1 : s.size < n
  · have E : Hid (insT s n x = (s, 6)) := if_pos h1
    have h1' : (s.size : Int) < (n : Int) := by omega
    go_enter Tryz.func211, Tryz.ntmps211
    go_wp2_with fail
    go_ret
    rw [E.out]
    exact ⟨rfl, H.out, grown_refl _ _⟩
  · by_cases h2 : 200 < s.size + x.size
    · have E : Hid (insT s n x = (s, 7)) := by show _ = _; unfold insT; rw [if_neg h1, if_pos h2]
      have h1' : (n : Int) ≤ (s.size : Int) := by omega
      have h2' : 200 < (s.size : Int) + (x.size : Int) := by omega
      go_enter Tryz.func211, Tryz.ntmps211
      go_wp2_with fail
      go_ret
      rw [E.out]
      exact ⟨rfl, H.out, grown_refl _ _⟩
    · have E : Hid (insT s n x = (s.extract 0 n ++ x ++ s.extract n s.size, 0)) := by show _ = _; unfold insT; rw [if_neg h1, if_neg h2]
      have h1' : (n : Int) ≤ (s.size : Int) := by omega
      have h1'' : n ≤ s.size := by omega
      have h2' : (s.size : Int) + (x.size : Int) ≤ 200 := by omega
      have h0 : (0 : Int) ≤ (n : Int) := by omega
      go_enter Tryz.func211, Tryz.ntmps211
      go_wp2_with fail
      go_region
      go_wp2_with fail
      go_ret
      rw [E.out]
      exact ⟨rfl, (H.out.put 0 _).drew, grown_drew (grown_own (grown_refl w _) 0 _)⟩

/-- What cut leaves, what went, the error. -/
def cutT (s : ByteArray) (n k : Nat) : ByteArray × ByteArray × Int :=
  if s.size < n + k then (s, ⟨#[]⟩, 6) else (s.extract 0 n ++ s.extract (n + k) s.size, s.extract n (n + k), 0)

def DoPost (d : Nat) (w : World) (r : ByteArray × ByteArray × Int) (en : Ending) (w' : World) : Prop :=
  en = .returned (.tuple #[.string r.2.1, .int .i64 r.2.2]) ∧ Dc w' d r.1 ∧ w.grownBy w' (some d)

set_option maxRecDepth 100000 in
set_option maxHeartbeats 400000 in
theorem cut_calls (d n k : Nat) (s : ByteArray) (w : World) (h : Dc w d s) (hs : s.size ≤ 200) (hn : n ≤ 200) (hk : k ≤ 40) :
    Calls Tryz.prog 212 #[.pointer (some ⟨d, 0, none⟩), .int .i64 n, .int .i64 k] w fun en w' => DoPost d w (cutT s n k) en w' := by
  have c0 : w.cell? ⟨d, 0, none⟩ = some (.string s) := h.cell 0
  have f0 := h.free 0
  have H := Lib.hid h
  clear h
  by_cases h1 : s.size < n + k
  · have E : Hid (cutT s n k = (s, ⟨#[]⟩, 6)) := if_pos h1
    have h1' : (s.size : Int) < (n : Int) + (k : Int) := by omega
    go_enter Tryz.func212, Tryz.ntmps212
    go_wp2_with fail
    go_ret2
    rw [E.out]
    exact ⟨rfl, H.out, grown_refl _ _⟩
  · have E : Hid (cutT s n k = (s.extract 0 n ++ s.extract (n + k) s.size, s.extract n (n + k), 0)) := if_neg h1
    have h1' : (n : Int) + (k : Int) ≤ (s.size : Int) := by omega
    have h3' : (n : Int) ≤ (s.size : Int) := by omega
    have h0 : (0 : Int) ≤ (n : Int) := by omega
    have h4 : (0 : Int) ≤ (k : Int) := by omega
    have h5 : (n : Int) ≤ (n : Int) + (k : Int) := by omega
    have h6 : (0 : Int) ≤ (n : Int) + (k : Int) := by omega
    have e1 : ((n : Int) + (k : Int)).toNat = n + k := by omega
    go_enter Tryz.func212, Tryz.ntmps212
    go_wp2_with fail
    go_region
    go_wp2_with fail
    go_ret2
    rw [E.out]
    exact ⟨rfl, (H.out.put 0 _).drew, grown_drew (grown_own (grown_refl w _) 0 _)⟩

/-- What Do leaves, what went, the error. -/
def doT (s : ByteArray) (k a : Int) (x : ByteArray) (n : Int) : ByteArray × ByteArray × Int :=
  if chk k a x.size n = 0 then (if k = 1 then ((insT s a.toNat x).1, ⟨#[]⟩, (insT s a.toNat x).2) else cutT s a.toNat n.toNat) else (s, ⟨#[]⟩, chk k a x.size n)

theorem chk_ok {k a m n : Int} (h : chk k a m n = 0) : 0 ≤ a ∧ a ≤ 200 ∧ ((k = 1 ∧ 1 ≤ m ∧ m ≤ 40 ∧ n = 0) ∨ (k = 2 ∧ 1 ≤ n ∧ n ≤ 40 ∧ m = 0)) := by
  unfold chk at h
  split at h
  · split at h
    · omega
    · omega
  · split at h
    · split at h
      · omega
      · omega
    · omega

set_option maxRecDepth 100000 in
set_option maxHeartbeats 400000 in
theorem do_calls (d : Nat) (s : ByteArray) (k a : Int) (x : ByteArray) (n : Int) (w : World) (h : Dc w d s) (hs : s.size ≤ 200) (hx : x.size ≤ maxLen) :
    Calls Tryz.prog 209 #[.pointer (some ⟨d, 0, none⟩), .agg #[.int .i64 k, .int .i64 a, .string x, .int .i64 n]] w fun en w' => DoPost d w (doT s k a x n) en w' := by
  have H := Lib.hid h
  have hd := h.lt
  clear h
  by_cases hc : chk k a x.size n = 0
  · obtain ⟨ha0, ha1, ho⟩ := chk_ok hc
    obtain ⟨m, em⟩ : ∃ m : Nat, a = (m : Int) := ⟨a.toNat, by omega⟩
    have HC := Lib.hid hc
    clear hc
    subst em
    rcases ho with ⟨rfl, h1, h2, rfl⟩ | ⟨rfl, h1, h2, h3⟩
    · have E : Hid (doT s 1 m x 0 = ((insT s m x).1, ⟨#[]⟩, (insT s m x).2)) := by show _ = _; unfold doT; rw [if_pos HC.out, if_pos rfl]; rfl
      go_enter Tryz.func209, Tryz.ntmps209
      go_wp2_with fail
      refine (check_calls _ _ _ _ _ hx).mono ?_
      rw [HC.out]
      rintro en w1 ⟨rfl, b1⟩
      have hz := b1.size
      simp at hz
      have G1 : Hid (w.grownBy w1 (some d)) := grown_trans (grown_alloc (grown_refl w _) _) (grown_below b1 _ (Nat.le_refl _))
      have H1 : Hid (Dc w1 d s) := (H.out.alloc _).below b1 (by simp; omega)
      have B1 : Has w1 w.heap.size 33 #[.int .i64 1, .int .i64 m, .string x, .int .i64 0] := (Has.made _ _ _).below b1 (by simp)
      have b10 : w1.cell? ⟨w.heap.size, 0, none⟩ = some (.int .i64 1) := B1.cell 0
      have b11 : w1.cell? ⟨w.heap.size, 1, none⟩ = some (.int .i64 m) := B1.cell 1
      have b12 : w1.cell? ⟨w.heap.size, 2, none⟩ = some (.string x) := B1.cell 2
      clear b1 B1 HC
      go_wp2_with fail
      refine (insert_calls d m s x w1 H1.out hs (by omega) (by omega)).mono ?_
      rintro en w2 ⟨rfl, h2, g2⟩
      have H2 := Lib.hid h2
      have G2 := Lib.hid (grown_trans G1.out g2)
      clear h2 g2
      go_wp2_with fail
      go_ret2
      rw [E.out]
      exact ⟨rfl, H2.out, G2.out⟩
    · obtain ⟨l, el⟩ : ∃ l : Nat, n = (l : Int) := ⟨n.toNat, by omega⟩
      subst el
      have E : Hid (doT s 2 m x l = cutT s m l) := by show _ = _; unfold doT; rw [if_pos HC.out, if_neg (by decide)]; rfl
      have H3 := Lib.hid h3
      clear h3
      go_enter Tryz.func209, Tryz.ntmps209
      go_wp2_with fail
      refine (check_calls _ _ _ _ _ hx).mono ?_
      rw [HC.out]
      rintro en w1 ⟨rfl, b1⟩
      have hz := b1.size
      simp at hz
      have G1 : Hid (w.grownBy w1 (some d)) := grown_trans (grown_alloc (grown_refl w _) _) (grown_below b1 _ (Nat.le_refl _))
      have H1 : Hid (Dc w1 d s) := (H.out.alloc _).below b1 (by simp; omega)
      have B1 : Has w1 w.heap.size 33 #[.int .i64 2, .int .i64 m, .string x, .int .i64 l] := (Has.made _ _ _).below b1 (by simp)
      have b10 : w1.cell? ⟨w.heap.size, 0, none⟩ = some (.int .i64 2) := B1.cell 0
      have b11 : w1.cell? ⟨w.heap.size, 1, none⟩ = some (.int .i64 m) := B1.cell 1
      have b13 : w1.cell? ⟨w.heap.size, 3, none⟩ = some (.int .i64 l) := B1.cell 3
      clear b1 B1 HC
      go_wp2_with fail
      refine (cut_calls d m l s w1 H1.out hs (by omega) (by omega)).mono ?_
      rintro en w2 ⟨rfl, h2, g2⟩
      have H2 := Lib.hid h2
      have G2 := Lib.hid (grown_trans G1.out g2)
      clear h2 g2
      go_wp2_with fail
      go_ret2
      rw [E.out]
      exact ⟨rfl, H2.out, G2.out⟩
  · have E : Hid (doT s k a x n = (s, ⟨#[]⟩, chk k a x.size n)) := if_neg hc
    generalize hq : chk k a x.size n = c at *
    have hc' : (c != 0) = true := by simpa using hc
    have HQ := Lib.hid hq
    clear hq hc
    go_enter Tryz.func209, Tryz.ntmps209
    go_wp2_with fail
    refine (check_calls _ _ _ _ _ hx).mono ?_
    rw [HQ.out]
    rintro en w1 ⟨rfl, b1⟩
    have hz := b1.size
    simp at hz
    have G1 : Hid (w.grownBy w1 (some d)) := grown_trans (grown_alloc (grown_refl w _) _) (grown_below b1 _ (Nat.le_refl _))
    have H1 : Hid (Dc w1 d s) := (H.out.alloc _).below b1 (by simp; omega)
    clear b1 HQ
    go_wp2_with fail
    go_ret2
    rw [E.out]
    exact ⟨rfl, H1.out, G1.out⟩

theorem dnew_calls (w : World) : Calls Tryz.prog 86 #[] w fun en w' => en = .returned (.pointer (some ⟨w.heap.size, 0, none⟩)) ∧ Dc w' w.heap.size ⟨#[]⟩ ∧ w.grownBy w' none := by
  go_enter Tryz.func86, Tryz.ntmps86
  go_wp2_with fail
  go_ret
  exact ⟨rfl, Has.made _ _ _, grown_alloc (grown_refl w _) _⟩

end Go.Proofs.YtcdedkgkingbdaaGreatDoor.text
end

section
/- text: Cut, Few, Inverse; an op as a struct; what Inverse takes back. -/
namespace Go.Proofs.YtcdedkgkingbdaaGreatDoor.text
open Go.RowKit

/-- At most n bytes of s. -/
def cutB (s : ByteArray) (n : Nat) : ByteArray := s.extract 0 n
theorem cutB_size (s : ByteArray) (n : Nat) : (cutB s n).size ≤ n := by
  unfold cutB
  rw [ByteArray.size_extract]
  omega

set_option maxHeartbeats 400000 in
theorem tcut_any (s : ByteArray) (n : Nat) (w : World) (hn : n ≤ 1000000) (_hs : s.size ≤ maxLen) :
    Calls Tryz.prog 107 #[.string s, .int .i64 n] w fun en w' => en = .returned (.string (cutB s n)) ∧ w = w' := by
  unfold maxLen at _hs
  by_cases h : n < s.size
  · have E : Hid (cutB s n = s.extract 0 n) := rfl
    go_enter Tryz.func107, Tryz.ntmps107
    go_wp2
    go_ret
    rw [E.out]
    exact ⟨rfl, rfl⟩
  · have E : Hid (cutB s n = s) := by
      show _ = _
      apply ByteArray.ext
      simp [cutB, ByteArray.data_extract]
      omega
    go_enter Tryz.func107, Tryz.ntmps107
    go_wp2
    go_ret
    rw [E.out]
    exact ⟨rfl, rfl⟩

set_option maxRecDepth 100000 in
set_option maxHeartbeats 400000 in
theorem few_calls (k a n : Int) (x : ByteArray) (w : World) (hx : x.size ≤ maxLen) :
    Calls Tryz.prog 64 #[.agg #[.int .i64 k, .int .i64 a, .string x, .int .i64 n]] w fun en w' => en = .returned (.agg #[.int .i64 k, .int .i64 a, .string (cutB x 45), .int .i64 n]) ∧ Below w.heap.size w w' := by
  go_enter Tryz.func64, Tryz.ntmps64
  go_wp2_with fail
  refine (tcut_any x 45 _ (by omega) hx).mono ?_
  rintro en w1 ⟨rfl, rfl⟩
  go_wp2_with fail
  refine bodyPost_ret (v := .agg #[.int .i64 k, .int .i64 a, .string (cutB x 45), .int .i64 n]) (by simp [results, Tryz.results64, go_sem]) rfl ⟨rfl, one_box ?_⟩
  repeat (first | exact Turn.refl _ _ | refine Turn.drew ?_ | refine Turn.alloc ?_ _ | refine Turn.put ?_ (fun h => by omega) _ _)

/-- An op. -/
structure OpV where
  k : Int
  a : Int
  x : ByteArray
  n : Int

def OpV.cells (o : OpV) : List Value := [.int .i64 o.k, .int .i64 o.a, .string o.x, .int .i64 o.n]
def OpV.chk (o : OpV) : Int := Go.Proofs.YtcdedkgkingbdaaGreatDoor.text.chk o.k o.a o.x.size o.n
def doV (s : ByteArray) (o : OpV) : ByteArray × ByteArray × Int := doT s o.k o.a o.x o.n

theorem bytes_eq {s t : ByteArray} (h : s.data.toList = t.data.toList) : s = t := by
  apply ByteArray.ext
  exact Array.toList_inj.1 h

theorem extract_list (s : ByteArray) (i j : Nat) : (s.extract i j).data.toList = (s.data.toList.take j).drop i := by
  simp only [ByteArray.data_extract, Array.toList_extract, List.extract_eq_take_drop, List.drop_take]

theorem head_list (s : ByteArray) (n : Nat) : (s.extract 0 n).data.toList = s.data.toList.take n := by
  rw [extract_list, List.drop_zero]

theorem tail_list (s : ByteArray) (n : Nat) : (s.extract n s.size).data.toList = s.data.toList.drop n := by
  have h : s.data.toList.take s.size = s.data.toList := List.take_of_length_le (by simp)
  rw [extract_list, h]

/-- The op that takes back one that was done, by what went. -/
def inv (o : OpV) (g : ByteArray) : OpV := if o.k = 1 then ⟨2, o.a, ⟨#[]⟩, o.x.size⟩ else ⟨1, o.a, g, 0⟩

theorem do_size {s : ByteArray} {o : OpV} (hs : s.size ≤ 200) : (doV s o).1.size ≤ 200 := by
  unfold doV doT
  split
  · split
    · unfold insT
      split
      · exact hs
      · split
        · exact hs
        · rename_i h1 h2
          simp only [ByteArray.size_append, ByteArray.size_extract]
          omega
    · unfold cutT
      split
      · exact hs
      · rename_i h1
        simp only [ByteArray.size_append, ByteArray.size_extract]
        omega
  · exact hs

end Go.Proofs.YtcdedkgkingbdaaGreatDoor.text
end

section
/- text: Save and Load; what is saved is loaded again. -/
namespace Go.Proofs.YtcdedkgkingbdaaGreatDoor.text
open Go.RowKit

/-- The bytes of a text. -/
def encT (s : ByteArray) : ByteArray := ⟨(enc s.size ++ s.data.toList).toArray⟩

theorem encT_size (s : ByteArray) (h : s.size ≤ 1000000) : (encT s).size ≤ 1000011 := by
  have h1 := enc_len s.size (by omega)
  have h2 : s.data.toList.length = s.size := by simp
  unfold encT
  rw [text_size, List.length_append]
  omega

theorem wr_made (w : World) : Wr (w.alloc (.cells #[.slice none 0 0] 152)) w.heap.size none [] :=
  ⟨_, Has.made _ _ _, World.ownsRow_nil _ 0 _ 1, rfl, by intro h; cases h⟩

set_option maxRecDepth 100000 in
set_option maxHeartbeats 400000 in
theorem dsave_calls (d : Nat) (s : ByteArray) (w : World) (h : Dc w d s) (hs : s.size ≤ 200) :
    Calls Tryz.prog 210 #[.pointer (some ⟨d, 0, none⟩)] w fun en w' => en = .returned (.string (encT s)) ∧ Below w.heap.size w w' := by
  have c0 : w.cell? ⟨d, 0, none⟩ = some (.string s) := h.cell 0
  have hd := h.lt
  clear h
  go_enter Tryz.func210, Tryz.ntmps210
  go_wp2_with fail
  refine (wstr_any w.heap.size none [] s _ (wr_made w) (by simp) (by omega)).mono ?_
  rintro en w1 ⟨rfl, r1, h1, hr1, t1⟩
  rw [List.nil_append] at h1
  have B1 : Below w.heap.size w w1 := by
    have h0 : Below w.heap.size w (w.alloc (.cells #[.slice none 0 0] 152)) := (Below.refl _ _).alloc (Nat.le_refl _) _
    exact h0.trans (t1.below (by simp) (fun j hj h => by rcases h with h | h; (omega); (cases h)))
  have H1 := Lib.hid h1
  have HB := Lib.hid B1
  clear h1 hr1 t1 B1
  go_wp2_with fail
  refine (text_any _ _ _ _ H1.out).mono ?_
  rintro en w2 ⟨rfl, rfl⟩
  go_wp2_with fail
  go_ret
  exact ⟨rfl, HB.out⟩

theorem strN_encT (s : ByteArray) (hs : s.size ≤ 200) : strN 200 (encT s) 0 = (s, ⟨#[]⟩, 0) := by
  have e : dec 0 0 (encT s).data.toList = (0, s.size, (enc s.size).length) := dec_of_enc s.size (by omega) s.data.toList
  have hu : upto 200 (encT s) 0 = (s.size, s, 0) := by
    unfold upto
    simp only [e]
    rw [if_pos (by omega)]
    have hr : restOf (encT s) (0, s.size, (enc s.size).length) = s := by
      unfold restOf
      rw [if_pos rfl]
      have := extract_drop (enc s.size) s.data.toList
      unfold encT
      rw [this]
    rw [hr]
    rfl
  unfold strN
  rw [hu]
  unfold takeN
  rw [if_pos (Nat.le_refl _)]
  have e1 : s.extract 0 s.size = s := by
    apply bytes_eq
    rw [head_list, List.take_of_length_le (by simp)]
  have e2 : s.extract s.size s.size = ⟨#[]⟩ := by
    apply bytes_eq
    rw [tail_list, List.drop_eq_nil_of_le (by simp)]
  rw [e1, e2]

def LoadPost (w : World) (s : ByteArray) (en : Ending) (w' : World) : Prop :=
  ∃ d, en = .returned (.tuple #[.pointer (some ⟨d, 0, none⟩), .int .i64 0]) ∧ w.heap.size ≤ d ∧ Dc w' d s ∧ Below w.heap.size w w'

set_option maxRecDepth 100000 in
set_option maxHeartbeats 400000 in
theorem dload_calls (s : ByteArray) (w : World) (hs : s.size ≤ 200) :
    Calls Tryz.prog 147 #[.string (encT s)] w fun en w' => LoadPost w s en w' := by
  have hz : (encT s).size ≤ maxLen := by have := encT_size s (by omega); unfold maxLen; omega
  go_enter Tryz.func147, Tryz.ntmps147
  go_wp2_with fail
  refine (read_any (encT s) w).mono ?_
  rintro en w1 ⟨rfl, h1, b1⟩
  have H1 := Lib.hid h1
  have B1 := Lib.hid b1
  clear h1 b1
  go_wp2_with fail
  refine (str_any _ (encT s) 0 200 w1 hz H1.out (by omega) (by omega)).mono ?_
  rw [strN_encT s hs]
  rintro en w2 ⟨rfl, h2, g2⟩
  have H2 := Lib.hid h2
  have T2 : Hid (Turn (fun j => w.heap.size ≤ j) w w2) := (Turn.of_below (F := fun j => w.heap.size ≤ j) B1.out (fun _ _ e => e)).grown g2 (fun j e _ => by injection e with e; omega)
  clear h2 g2 H1 B1
  go_wp2_with fail
  have hEnd : endE ⟨#[]⟩ 0 = 0 := rfl
  have hlt := H2.out.lt
  refine (end_any w.heap.size ⟨#[]⟩ 0 _ (by exact H2.out.alloc _)).mono ?_
  rw [hEnd]
  rintro en w3 ⟨rfl, _, g3⟩
  have D3 : Hid (Dc w3 w2.heap.size s) := Lib.hid ((Has.made w2 _ _).grown g3 (by intro e; injection e with e; omega))
  have T3 : Hid (Turn (fun j => w.heap.size ≤ j) w w3) := (T2.out.alloc _).grown g3 (fun j e _ => by injection e with e; omega)
  clear g3 hEnd H2 T2
  go_wp2_with fail
  go_ret2
  exact ⟨_, rfl, Nat.le_of_lt hlt, D3.out, T3.out.below (Nat.le_refl _) (fun j hj e => by omega)⟩

end Go.Proofs.YtcdedkgkingbdaaGreatDoor.text
end

