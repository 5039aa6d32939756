/- TextParts: for every list of ops, every two numbers and every text the law answers true, and its arguments read afterwards as they did. Conditions: none. -/
import Derived.Test.YtpdcbfhmlgmhpaaTextD
import Derived.Laws.BitsLemmas
import Derived.SizedLaws
import Derived.ShutString
namespace Go.Proofs.Ytpdcbfhmlgmhpaa.textParts
open Go.ChangeShapes Go.WideShapes Go.ChangeAt Go.RowKit
open Go.ChangeMaps (open_string shut_string)

theorem and255 (n : Int) : bits .and .i64 n 255 = n % 256 := by
  have h255 : (BitVec.ofInt 64 255).toNat = 2 ^ 8 - 1 := by decide
  have key : (BitVec.ofInt 64 n &&& BitVec.ofInt 64 255).toNat = (n % ((2 ^ 64 : Nat) : Int)).toNat % 2 ^ 8 := by
    rw [BitVec.toNat_and, BitVec.toNat_ofInt, h255, Nat.and_two_pow_sub_one_eq_mod]
  show IntKind.i64.wrap ((BitVec.ofInt 64 n &&& BitVec.ofInt 64 255).toNat : Nat) = n % 256
  rw [key, IntKind.wrap_i64]
  omega

set_option maxHeartbeats 400000 in
theorem cut_big (s : ByteArray) (n : Nat) (w : World) (hn : n ≤ 1000000) (_hs : s.size ≤ 9223372036854775807) :
    Calls Try.prog 26 #[.string s, .int .i64 n] w fun en w' => en = .returned (.string (cutB s n)) ∧ w = w' := by
  by_cases h : n < s.size
  · have E : Hid (cutB s n = s.extract 0 n) := rfl
    go_enter Try.func26, Try.ntmps26
    go_wp2
    go_ret
    rw [E.out]
    exact ⟨rfl, rfl⟩
  · have E : Hid (cutB s n = s) := by
      show _ = _
      apply ByteArray.ext
      simp [cutB, ByteArray.data_extract]
      omega
    go_enter Try.func26, Try.ntmps26
    go_wp2
    go_ret
    rw [E.out]
    exact ⟨rfl, rfl⟩

/-- x let in at place m. -/
def insB (s : ByteArray) (m : Nat) (x : ByteArray) : ByteArray := s.extract 0 m ++ x ++ s.extract m s.size

theorem insB_list (s : ByteArray) (m : Nat) (x : ByteArray) : (insB s m x).data.toList = s.data.toList.take m ++ x.data.toList ++ s.data.toList.drop m := by
  unfold insB
  rw [append_list, append_list, head_list, tail_list]

theorem insB_size (s : ByteArray) (m : Nat) (x : ByteArray) (hm : m ≤ s.size) : (insB s m x).size = s.size + x.size := by
  unfold insB
  rw [ByteArray.size_append, ByteArray.size_append, ByteArray.size_extract, ByteArray.size_extract]
  omega

theorem do_ins (s : ByteArray) (m : Nat) (x : ByteArray) (hm : m ≤ s.size) (h1 : 1 ≤ x.size) (h2 : x.size ≤ 40) (h3 : s.size + x.size ≤ 200) : doT s 1 m x 0 = (insB s m x, ⟨#[]⟩, 0) := by
  have hc : chk 1 (m : Int) x.size 0 = 0 := by
    unfold chk
    rw [if_pos rfl, if_pos (by omega)]
  have hi : insT s m x = (insB s m x, 0) := by
    unfold insT
    rw [if_neg (by omega), if_neg (by omega)]
    rfl
  unfold doT
  rw [if_pos hc, if_pos rfl, Int.toNat_natCast, hi]

theorem lists {L X Y : List UInt8} {m : Nat} (hm : m ≤ L.length) :
    (L.take m ++ (X ++ Y) ++ L.drop m).take m = L.take m ∧ (L.take m ++ (X ++ Y) ++ L.drop m).drop (m + X.length) = Y ++ L.drop m ∧ ((L.take m ++ (X ++ Y) ++ L.drop m).take (m + X.length)).drop m = X ∧ (L.take m ++ (X ++ Y) ++ L.drop m).take (m + X.length) = L.take m ++ X := by
  have h1 : (L.take m).length = m := by rw [List.length_take]; omega
  have e1 : (L.take m ++ (X ++ Y) ++ L.drop m).take m = L.take m := by
    rw [List.append_assoc, List.take_append_of_le_length (by omega), List.take_of_length_le (by omega)]
  have e2 : L.take m ++ (X ++ Y) ++ L.drop m = (L.take m ++ X) ++ (Y ++ L.drop m) := by simp [List.append_assoc]
  have hl : (L.take m ++ X).length = m + X.length := by rw [List.length_append, h1]
  have e3 : ((L.take m ++ X) ++ (Y ++ L.drop m)).drop (m + X.length) = Y ++ L.drop m := by rw [← hl, List.drop_left]
  have e4 : ((L.take m ++ X) ++ (Y ++ L.drop m)).take (m + X.length) = L.take m ++ X := by rw [← hl, List.take_left]
  refine ⟨e1, by rw [e2, e3], ?_, by rw [e2, e4]⟩
  rw [e2, e4]
  rw [List.drop_append_of_le_length (by omega), List.drop_eq_nil_of_le (by omega), List.nil_append]

theorem do_del (s : ByteArray) (m : Nat) (x y : ByteArray) (hm : m ≤ s.size) (h1 : 1 ≤ x.size) (h2 : x.size ≤ 40) (h200 : m ≤ 200) : doT (insB s m (x ++ y)) 2 m ⟨#[]⟩ x.size = (insB s m y, x, 0) := by
  have hc : chk 2 (m : Int) (ByteArray.size ⟨#[]⟩ : Nat) (x.size : Int) = 0 := by
    unfold chk
    rw [if_neg (by decide), if_pos rfl, if_pos ⟨by omega, by omega, by omega, by omega, rfl⟩]
  have hz := insB_size s m (x ++ y) hm
  rw [ByteArray.size_append] at hz
  have hl : s.data.toList.length = s.size := by simp
  have hx : x.data.toList.length = x.size := by simp
  obtain ⟨l1, l2, l3, _⟩ := lists (L := s.data.toList) (X := x.data.toList) (Y := y.data.toList) (m := m) (by omega)
  rw [hx] at l2 l3
  have hi : cutT (insB s m (x ++ y)) m x.size = (insB s m y, x, 0) := by
    unfold cutT
    rw [if_neg (by omega)]
    have a1 : (insB s m (x ++ y)).extract 0 m ++ (insB s m (x ++ y)).extract (m + x.size) (insB s m (x ++ y)).size = insB s m y := by
      apply bytes_eq
      rw [append_list, head_list, tail_list, insB_list, insB_list, append_list, l1, l2, List.append_assoc]
    have a2 : (insB s m (x ++ y)).extract m (m + x.size) = x := by
      apply bytes_eq
      rw [extract_list, insB_list, append_list, l3]
    rw [a1, a2]
  unfold doT
  rw [if_pos hc, if_neg (by decide), Int.toNat_natCast, Int.toNat_natCast, hi]

theorem insB_two (s : ByteArray) (m : Nat) (x y : ByteArray) (hm : m ≤ s.size) : insB (insB s m x) (m + x.size) y = insB s m (x ++ y) := by
  have hl : s.data.toList.length = s.size := by simp
  have hx : x.data.toList.length = x.size := by simp
  obtain ⟨l1, l2, l3, l4⟩ := lists (L := s.data.toList) (X := x.data.toList) (Y := []) (m := m) (by omega)
  rw [hx, List.append_nil] at l2 l4
  apply bytes_eq
  rw [insB_list, insB_list, insB_list, append_list, l2, l4, List.nil_append]
  simp [List.append_assoc]

theorem insB_nil (s : ByteArray) (m : Nat) : insB s m ⟨#[]⟩ = s := by
  apply bytes_eq
  rw [insB_list]
  simp

theorem append_nil (x : ByteArray) : x ++ ⟨#[]⟩ = x := by
  apply bytes_eq
  rw [append_list]
  simp

theorem split (s : ByteArray) (c : Nat) : s.extract 0 c ++ s.extract c s.size = s := by
  apply bytes_eq
  rw [append_list, head_list, tail_list, List.take_append_drop]

/-- One document, two. -/
structure Pl (w : World) (d : Nat) (s : ByteArray) (wr : World) : Prop where
  doc : Dc wr d s
  few : s.size ≤ 200
  newd : w.heap.size ≤ d
  turn : Turn (fun j => w.heap.size ≤ j) w wr

structure Tw (w : World) (d : Nat) (s : ByteArray) (c : Nat) (t : ByteArray) (wr : World) : Prop where
  one : Pl w d s wr
  doc : Dc wr c t
  few : t.size ≤ 200
  newc : w.heap.size ≤ c
  ne : d ≠ c

section
variable {w wr w' : World} {d c : Nat} {s s' t : ByteArray}
theorem Pl.more (h : Pl w d s wr) (t : Turn (fun j => wr.heap.size ≤ j) wr w') : Pl w d s w' :=
  ⟨h.doc.turn t (Nat.not_le_of_lt h.doc.lt), h.few, h.newd, h.turn.trans t (fun _ _ e => Nat.le_trans h.turn.size e)⟩
theorem Pl.did (h : Pl w d s wr) (e : Dc w' d s') (f : s'.size ≤ 200) (g : wr.grownBy w' (some d)) : Pl w d s' w' :=
  ⟨e, f, h.newd, h.turn.grown g (fun j e _ => by injection e with e; subst e; exact h.newd)⟩
theorem Tw.did1 (h : Tw w d s c t wr) (e : Dc w' d s') (f : s'.size ≤ 200) (g : wr.grownBy w' (some d)) : Tw w d s' c t w' :=
  ⟨h.one.did e f g, h.doc.grown g (fun k => by injection k with k; exact h.ne k.symm), h.few, h.newc, h.ne⟩
theorem Tw.did2 (h : Tw w d s c t wr) (e : Dc w' c s') (f : s'.size ≤ 200) (g : wr.grownBy w' (some c)) : Tw w d s c s' w' :=
  ⟨⟨h.one.doc.grown g (fun k => by injection k with k; exact h.ne k), h.one.few, h.one.newd, h.one.turn.grown g (fun j e _ => by injection e with e; subst e; exact h.newc)⟩, e, f, h.newc, h.ne⟩
end

set_option maxRecDepth 100000 in
set_option maxHeartbeats 2000000 in
theorem parts_any (a : Option Addr) (len cap : Nat) (at' : Int) (s0 : ByteArray) (cut' : Int) (w : World) (hA : ArgO w a len) (hs0 : s0.size ≤ 140737488351232) :
    Calls Try.prog 5 #[.slice a len cap, .int .i64 at', .string s0, .int .i64 cut'] w fun en w' => en = .returned (.bool true) ∧ Below w.heap.size w w' := by
  have hlen : len ≤ 9223372036854775807 := by have := hA.1; unfold maxLen at this; omega
  have HA := Lib.hid hA
  clear hA
  go_enter Try.func5, Try.ntmps5
  go_wp2_with fail
  refine (tawake_any w).mono ?_
  rintro en w1 ⟨rfl, b1⟩
  have T1 : Hid (Turn (fun j => w.heap.size ≤ j) w w1) := Turn.of_below b1 (fun _ _ e => e)
  clear b1
  go_wp2_with fail
  refine (cut_big _ 40 w1 (by omega) (by rw [ByteArray.size_append, ByteArray.size_append]; show 1 + s0.size + 1 ≤ _; omega)).mono ?_
  obtain ⟨s, es⟩ : ∃ s, s = cutB ((⟨#[120]⟩ : ByteArray) ++ s0 ++ ⟨#[121]⟩) 40 := ⟨_, rfl⟩
  rw [← es]
  have hL2 : 2 ≤ s.size ∧ s.size ≤ 40 := by
    have h1 : ((⟨#[120]⟩ : ByteArray) ++ s0 ++ ⟨#[121]⟩).size = 1 + s0.size + 1 := by rw [ByteArray.size_append, ByteArray.size_append]; rfl
    rw [es]
    unfold cutB
    rw [ByteArray.size_extract, h1]
    omega
  clear es
  rintro en w2 ⟨rfl, rfl⟩
  go_wp2_with fail
  refine (dnew_calls w1).mono ?_
  rintro en w2 ⟨rfl, h2, g2⟩
  obtain ⟨d, ed⟩ : ∃ d, d = w1.heap.size := ⟨_, rfl⟩
  rw [← ed] at h2 ⊢
  have hd : w.heap.size ≤ d := by rw [ed]; exact T1.out.size
  have HW : Hid (Pl w d ⟨#[]⟩ w2) := ⟨h2, Nat.zero_le _, hd, T1.out.grown g2 (fun j e _ => by cases e)⟩
  clear h2 g2 T1 ed
  go_wp2_with fail
  go_loopw [10] (fun i wr => ∃ (k : Nat) (S : ByteArray), i = .int .i64 k ∧ k ≤ 10 ∧ k ≤ len ∧ Hid (Pl w d S wr)) (fun i _ => 10 - (intOf i).toNat)
  case atStart => exact ⟨0, ⟨#[]⟩, rfl, by omega, Nat.zero_le _, HW⟩
  case round =>
    obtain ⟨k, S, rfl, hk40, hkl, HD⟩ := hrel
    clear HW
    by_cases hk : k < len ∧ k < 10
    · obtain ⟨hk1, hk2⟩ := hk
      have hk1' : (k : Int) < (len : Int) := by omega
      have hk2' : (k : Int) < 10 := by omega
      have hk0' : (0 : Int) ≤ (k : Int) := by omega
      obtain ⟨b, o, rfl, hb, K, t, n, x, hx, c0, c1, c2, c3⟩ := (HA.out.turn HD.out.turn).2 k hk1
      go_wp2_with fail
      refine (few_calls K t n x _ hx).mono ?_
      rintro en w3 ⟨rfl, b3⟩
      have D3 := Lib.hid (HD.out.more (Turn.of_below b3 (fun _ _ e => e)))
      have hx45 := cutB_size x 45
      generalize cutB x 45 = y at *
      clear b3 HD c0 c1 c2 c3
      go_wp2_with fail
      have hs := D3.out.few
      refine (do_calls d S K t y n w3 D3.out.doc hs (by unfold maxLen; omega)).mono ?_
      have hb3 : (doT S K t y n).1.size ≤ 200 := do_size (o := ⟨K, t, y, n⟩) hs
      generalize doT S K t y n = r at hb3 ⊢
      obtain ⟨s', g, e⟩ := r
      simp only at hb3
      rintro en w6 ⟨rfl, d6, g6⟩
      have D6 := Lib.hid (D3.out.did d6 hb3 g6)
      clear d6 g6 D3
      go_wp2_with fail
      refine ⟨⟨k + 1, s', by rw [Int.natCast_add]; rfl, by omega, by omega, D6⟩, ?_⟩
      show 10 - ((k : Int) + 1).toNat < 10 - ((k : Int)).toNat
      omega
    · have hx : ((k : Int) < (len : Int) ∧ ¬ (k : Int) < 10) ∨ ¬ (k : Int) < (len : Int) := by omega
      have hS := HD.out.few
      obtain ⟨a0, ha0⟩ : ∃ a0 : Int, (if (0 : Int) > at' then (0 : Int) else at') = a0 := ⟨_, rfl⟩
      obtain ⟨m, hm⟩ : ∃ m : Nat, (if (S.size : Int) < a0 then (S.size : Int) else a0) = (m : Int) := ⟨(if (S.size : Int) < a0 then (S.size : Int) else a0).toNat, by
        have : 0 ≤ a0 := by rw [← ha0]; split <;> omega
        split <;> omega⟩
      have hmS : m ≤ S.size := by
        split at hm <;> omega
      obtain ⟨r, hr⟩ : ∃ r : Int, bits .and .i64 cut' 255 = r := ⟨_, rfl⟩
      have hr' := hr
      rw [and255] at hr'
      have r0 : 0 ≤ r := by omega
      have r1 : r ≤ 255 := by omega
      clear hr'
      obtain ⟨q, hq⟩ : ∃ q : Int, (s.size : Int) - 1 = q := ⟨_, rfl⟩
      have q0 : 1 ≤ q := by omega
      have q1 : q ≤ 39 := by omega
      obtain ⟨u, hu⟩ : ∃ u : Int, r % q = u := ⟨_, rfl⟩
      have u0 : 0 ≤ u := by rw [← hu]; exact Int.emod_nonneg _ (by omega)
      have u1 : u < q := by rw [← hu]; exact Int.emod_lt_of_pos _ (by omega)
      obtain ⟨c, hc⟩ : ∃ c : Nat, 1 + u = (c : Int) := ⟨(1 + u).toNat, by omega⟩
      have hc1 : 1 ≤ c ∧ c < s.size := by omega
      have HS := Lib.hid (split s c)
      have z1 : (s.extract 0 c).size = c := by rw [ByteArray.size_extract]; omega
      have z2 : (s.extract c s.size).size = s.size - c := by rw [ByteArray.size_extract]; omega
      have HE : Hid (S.size + s.size ≤ 200 → ∃ A1 A2 A3 : ByteArray, A1.size ≤ 200 ∧ A2.size ≤ 200 ∧ A3.size ≤ 200 ∧ doT S 1 (m : Int) s 0 = (A1, ⟨#[]⟩, 0) ∧ doT S 1 (m : Int) (s.extract 0 c) 0 = (A2, ⟨#[]⟩, 0) ∧ doT A2 1 ((m : Int) + (c : Int)) (s.extract c s.size) 0 = (A1, ⟨#[]⟩, 0) ∧
          doT A1 2 (m : Int) ⟨#[]⟩ (s.size : Int) = (S, s, 0) ∧ doT A1 2 (m : Int) ⟨#[]⟩ (c : Int) = (A3, s.extract 0 c, 0) ∧ doT A3 2 (m : Int) ⟨#[]⟩ ((s.size : Int) - (c : Int)) = (S, s.extract c s.size, 0)) := by
        refine Lib.hid (fun h2 => ⟨insB S m s, insB S m (s.extract 0 c), insB S m (s.extract c s.size), ?_, ?_, ?_, ?_, ?_, ?_, ?_, ?_, ?_⟩)
        · rw [insB_size _ _ _ hmS]; exact h2
        · rw [insB_size _ _ _ hmS]; omega
        · rw [insB_size _ _ _ hmS]; omega
        · exact do_ins S m s hmS (by omega) (by omega) h2
        · exact do_ins S m _ hmS (by omega) (by omega) (by omega)
        · have h := do_ins (insB S m (s.extract 0 c)) (m + c) (s.extract c s.size) (by rw [insB_size _ _ _ hmS]; omega) (by omega) (by omega) (by rw [insB_size _ _ _ hmS]; omega)
          have h3 := insB_two S m (s.extract 0 c) (s.extract c s.size) hmS
          rw [z1, HS.out] at h3
          rw [h3, Int.natCast_add] at h
          exact h
        · have h := do_del S m s ⟨#[]⟩ hmS (by omega) (by omega) (by omega)
          rw [append_nil, insB_nil] at h
          exact h
        · have h := do_del S m (s.extract 0 c) (s.extract c s.size) hmS (by omega) (by omega) (by omega)
          rw [HS.out, z1] at h
          exact h
        · have h := do_del S m (s.extract c s.size) ⟨#[]⟩ hmS (by omega) (by omega) (by omega)
          rw [append_nil, insB_nil, z2] at h
          have e : ((s.size - c : Nat) : Int) = (s.size : Int) - (c : Int) := by omega
          rw [e] at h
          exact h
      have hcs : (c : Int) ≤ (s.size : Int) := by omega
      have hcs0 : (0 : Int) ≤ (c : Int) := by omega
      have hm200 : (m : Int) ≤ 200 := by omega
      have hm0 : (0 : Int) ≤ (m : Int) := by omega
      have hs2 : ¬ (s.size : Int) < 2 := by omega
      have hs40 : (s.size : Int) ≤ 40 := by omega
      have hz1 : (s.extract 0 c).size ≤ maxLen := by unfold maxLen; omega
      have hz2 : (s.extract c s.size).size ≤ maxLen := by unfold maxLen; omega
      have hz3 : s.size ≤ maxLen := by unfold maxLen; omega
      have u2 : u ≤ 38 := by omega
      clear hk u1 z1 z2 hc1 hmS
      rcases hx with ⟨hx1, hx2⟩ | hx1
      all_goals
        go_wp2_with fail
        refine (dsave_calls d S _ HD.out.doc hS).mono ?_
        rintro en w3 ⟨rfl, b3⟩
        have D3 := Lib.hid (HD.out.more (Turn.of_below b3 (fun _ _ e => e)))
        clear b3 HD
        go_wp2_with fail
        refine (dload_calls S w3 hS).mono ?_
        rintro en w4 ⟨e, rfl, he, hde, b4⟩
        have D4 : Hid (Tw w d S e S w4) := Lib.hid ⟨D3.out.more (Turn.of_below b4 (fun _ _ e => e)), hde, hS, Nat.le_trans D3.out.turn.size he, by have := D3.out.doc.lt; omega⟩
        clear b4 D3 hde
        go_wp2_with fail
        refine (dtext_calls d S w4 D4.out.one.doc).mono ?_
        rintro en w5 ⟨rfl, rfl⟩
        by_cases hful : S.size + s.size ≤ 200
        · have hful' : (S.size : Int) + (s.size : Int) ≤ 200 := by omega
          obtain ⟨A1, A2, A3, y1, y2, y3, e1, e2, e3, e4, e5, e6⟩ := HE.out hful
          have E1 := Lib.hid e1
          have E2 := Lib.hid e2
          have E3 := Lib.hid e3
          have E4 := Lib.hid e4
          have E5 := Lib.hid e5
          have E6 := Lib.hid e6
          clear e1 e2 e3 e4 e5 e6 HE hful
          go_wp2_with fail
          refine (dtext_calls d S w4 D4.out.one.doc).mono ?_
          rintro en w5 ⟨rfl, rfl⟩
          go_wp2_with fail
          refine (do_calls d S 1 m s 0 w4 D4.out.one.doc hS hz3).mono ?_
          rw [E1.out]
          rintro en w5 ⟨rfl, d5, g5⟩
          have D5 := Lib.hid (D4.out.did1 d5 y1 g5)
          clear d5 g5 D4 E1
          go_wp2_with fail
          refine (do_calls e S 1 m (s.extract 0 c) 0 w5 D5.out.doc hS hz1).mono ?_
          rw [E2.out]
          rintro en w6 ⟨rfl, d6, g6⟩
          have D6 := Lib.hid (D5.out.did2 d6 y2 g6)
          clear d6 g6 D5 E2
          go_wp2_with fail
          refine (do_calls e A2 1 ((m : Int) + (c : Int)) (s.extract c s.size) 0 w6 D6.out.doc y2 hz2).mono ?_
          rw [E3.out]
          rintro en w7 ⟨rfl, d7, g7⟩
          have D7 := Lib.hid (D6.out.did2 d7 y1 g7)
          clear d7 g7 D6 E3
          go_wp2_with fail
          refine (dtext_calls d A1 w7 D7.out.one.doc).mono ?_
          rintro en w8 ⟨rfl, rfl⟩
          go_wp2_with fail
          refine (dtext_calls e A1 w7 D7.out.doc).mono ?_
          rintro en w8 ⟨rfl, rfl⟩
          go_wp2_with fail
          refine (do_calls d A1 2 m ⟨#[]⟩ s.size w7 D7.out.one.doc y1 (by decide)).mono ?_
          rw [E4.out]
          rintro en w8 ⟨rfl, d8, g8⟩
          have D8 := Lib.hid (D7.out.did1 d8 hS g8)
          clear d8 g8 D7 E4
          go_wp2_with fail
          refine (do_calls e A1 2 m ⟨#[]⟩ c w8 D8.out.doc y1 (by decide)).mono ?_
          rw [E5.out]
          rintro en w9 ⟨rfl, d9, g9⟩
          have D9 := Lib.hid (D8.out.did2 d9 y3 g9)
          clear d9 g9 D8 E5
          go_wp2_with fail
          refine (do_calls e A3 2 m ⟨#[]⟩ ((s.size : Int) - (c : Int)) w9 D9.out.doc y3 (by decide)).mono ?_
          rw [E6.out]
          rintro en w10 ⟨rfl, d10, g10⟩
          have D10 := Lib.hid (D9.out.did2 d10 hS g10)
          clear d10 g10 D9 E6
          have hsp := HS.out
          go_wp2_with fail
          refine (dtext_calls d S w10 D10.out.one.doc).mono ?_
          rintro en w11 ⟨rfl, rfl⟩
          go_wp2_with fail
          refine (dtext_calls e S w10 D10.out.doc).mono ?_
          rintro en w11 ⟨rfl, rfl⟩
          go_wp2_with fail
          go_ret
          exact ⟨rfl, D10.out.one.turn.below (Nat.le_refl _) (fun j hj e => by omega)⟩
        · have hful' : (200 : Int) < (S.size : Int) + (s.size : Int) := by omega
          clear HE
          go_wp2_with fail
          refine (dtext_calls d S w4 D4.out.one.doc).mono ?_
          rintro en w5 ⟨rfl, rfl⟩
          go_wp2_with fail
          go_ret
          exact ⟨rfl, D4.out.one.turn.below (Nat.le_refl _) (fun j hj e => by omega)⟩

def Arg0 (w : World) (a : Option Addr) (len _cap : Nat) : Prop := ArgO w a len

theorem walk (a0 : Option Addr) (len0 cap0 : Nat) (a1 : Int) (a2 : ByteArray) (a3 : Int) (w : World) (w0 : Arg0 w a0 len0 cap0) (_w1 : (Lit.int .i64 a1).wf = true) (_w2 : a2.size ≤ maxLen) (_w3 : (Lit.int .i64 a3).wf = true) (s2 : a2.size ≤ 140737488351232) :
    Calls Try.prog 5 #[.slice a0 len0 cap0, .int .i64 a1, .string a2, .int .i64 a3] w fun en w' => en = .returned (.bool true) ∧ Below w.heap.size w w' := parts_any a0 len0 cap0 a1 a2 a3 w w0 s2

theorem opened0 {H : Type} {enc : TypeId × Value → H} {w : World} {spare : Nat → Bool} {held : Bool} {a : Option Addr} {len cap : Nat} {d : DataW H} {p : List MemPlace} (h : DataW.Trod enc Try.prog w 0 spare held 22 (.slice a len cap) d p) : Arg0 w a len cap := openedO h

theorem own : ownKnob Try.prog.godebug = none := by kernel_rfl
theorem laidOut : laidOutB Try.prog = true := by kernel_rfl

set_option maxRecDepth 100000 in
theorem lifted (os : Os) (started : os.Started) (H : Type) (enc : TypeId × Value → H) :
    ReturnsInHanded {} Try.checked os 5 .any (Rows.textPartsSpec.pre6 enc Try.prog Try.f5 Rows.textPartsRow.domain false) (Rows.textPartsSpec.post enc Try.prog Try.f5 false true false false) := by
  refine returnsInHanded_of_change_sized (C := Try.checked) own started (by kernel_rfl) Try.func5
    (ChangeSpec.witness6 (enc := enc) (C := Try.checked) false ⟨#[], #[.slice none 0 0, .int .i64 0, .string ByteArray.empty, .int .i64 0], []⟩ 8 (by kernel_rfl) (by kernel_rfl) (by kernel_rfl) (by kernel_rfl)) ?_
  intro W base args ds gs before hval0 hW _ hsz0 _
  have hval : ∀ (j : Nat) t v, Try.f5.params[j]? = some t → args[j]? = some v → Value.okWide Try.prog W .any base t v := hval0
  have hW' := hW
  obtain ⟨p, q, hA0, hV, rfl, _, _⟩ := hW
  have hA : DataW.TrodAll enc Try.prog W 0 (fun _ => true) true Try.f5.params.toList args.toList ds p := hA0
  have hsz : (DataW.weightsEach Try.prog (Try.f5.params.toList ++ Rows.textPartsSpec.plain.varTypes Try.prog) (ds ++ gs)).all (· ≤ reachBytes) = true := hsz0
  rw [Try.params5] at hA hval hsz
  obtain ⟨v0, vs0, d0, ds0, p0, q0, hargs, rfl, rfl, h0, r0⟩ := trodAll_cons hA
  obtain ⟨v1, vs1, d1, ds1, p1, q1, rfl, rfl, rfl, h1, r1⟩ := trodAll_cons r0
  obtain ⟨v2, vs2, d2, ds2, p2, q2, rfl, rfl, rfl, h2, r2⟩ := trodAll_cons r1
  obtain ⟨v3, vs3, d3, ds3, p3, q3, rfl, rfl, rfl, h3, r3⟩ := trodAll_cons r2
  obtain ⟨rfl, rfl, rfl⟩ := trodAll_nil r3
  obtain rfl : args = #[v0, v1, v2, v3] := by cases args; simp_all
  obtain ⟨rfl, rfl⟩ := trodVars_none hV
  obtain ⟨a0, len0, cap0, rfl⟩ := okWide_slice Try.underlying22 (hval 0 22 v0 rfl rfl)
  have k0 := h0
  have lt0 : ∀ x ∈ p0, x.block < W.heap.size := by obtain ⟨m, hm⟩ := k0; exact DataW.trod_lt m _ _ _ hm
  have w0 : Arg0 W a0 len0 cap0 := opened0 h0
  obtain ⟨a1, rfl, rfl, rfl, w1⟩ := open_int Try.underlying3 (hval 1 3 v1 rfl rfl) h1
  obtain ⟨a2, rfl, rfl, rfl, w2⟩ := open_string Try.underlying9 (hval 2 9 v2 rfl rfl) h2
  obtain ⟨a3, rfl, rfl, rfl, w3⟩ := open_int Try.underlying3 (hval 3 3 v3 rfl rfl) h3
  have s2 : a2.size ≤ 140737488351232 := by have h := sized_string hsz (j := 2) (t := 9) (bytes := a2.data.toList) rfl rfl; unfold reachBytes at h; simpa using h
  clear hA0 hval0 hsz0 hsz
  refine (walk a0 len0 cap0 a1 a2 a3 W w0 w1 w2 w3 s2).mono fun e W' ⟨he, bel⟩ => ?_
  subst he
  exact ⟨_, rfl, _, _, _, [], _, [], hW', trodAll_mk1 (shut_bool Try.underlying4 _), (trodAll_cons_mk (Below.trod laidOut (by kernel_rfl) (of_decide_eq_true (by kernel_rfl)) k0 bel lt0) (trodAll_cons_mk (shut_int Try.underlying3 w1) (trodAll_cons_mk (shut_string Try.underlying9 w2) (trodAll_cons_mk (shut_int Try.underlying3 w3) trodAll_mk0)))), rfl, bel.frame _, fun h => by cases h⟩

theorem over : Rows.textPartsRow.holds Try.pinned (OpenSpec.ofChange Rows.textPartsSpec) :=
  OpenClaim.holds_of_wide 5 Try.f5 rfl rfl rfl rfl rfl rfl rfl ⟨rfl, rfl, rfl, rfl, rfl⟩ rfl rfl rfl rfl rfl (by kernel_rfl) Try.func5 (by kernel_rfl)
    (of_decide_eq_true (by kernel_rfl)) (by unfold Func.isWrapper; first | (rw [if_pos (by decide +kernel)]; kernel_rfl) | (rw [if_neg (by decide +kernel)]; exact ⟨rfl, rfl⟩))
    (fun os started H enc _ => lifted os started H enc)

theorem proved : Rows.TextPartsSaid := over

end Go.Proofs.Ytpdcbfhmlgmhpaa.textParts
