/- The document's reader over any bytes: Take, TakeNum. -/
import Derived.Test.YtbpcfkniflgmfaaY002
namespace Go.Proofs.Ytbpcfkniflgmfaa.prc
open Go Go.RowKit

set_option maxRecDepth 100000 in
set_option maxHeartbeats 400000 in
theorem rtake_dead (s : ByteArray) (e n : Int) (w : World) (he : e ≠ 0) :
    Calls Try.prog 123 #[.agg #[.string s, .int .i64 e], .int .i64 n] w fun en w' => en = .returned (.tuple #[.agg #[.string ⟨#[]⟩, .int .i64 e], .string ⟨#[]⟩]) ∧ Below w.heap.size w w' := by
  have he' : (e != 0) = true := by simpa using he
  clear he
  go_enter Try.func123, Try.ntmps123
  go_wp2_with fail
  exact bodyPost_ret (v := .tuple #[.agg #[.string ⟨#[]⟩, .int .i64 e], .string ⟨#[]⟩]) (by simp [results, Try.results123, go_sem]) rfl ⟨rfl, (((Below.refl _ _).alloc (Nat.le_refl _) _).alloc (by simp) _)⟩

set_option maxRecDepth 100000 in
set_option maxHeartbeats 400000 in
theorem rnum_dead (s : ByteArray) (e : Int) (w : World) (he : e ≠ 0) :
    Calls Try.prog 122 #[.agg #[.string s, .int .i64 e]] w fun en w' => en = .returned (.tuple #[.agg #[.string ⟨#[]⟩, .int .i64 e], .int .u64 0]) ∧ Below w.heap.size w w' := by
  have he' : (e != 0) = true := by simpa using he
  have HE := Lib.hid he
  clear he
  go_enter Try.func122, Try.ntmps122
  go_wp2_with fail
  go_name_world W hW
  have hx : Has W w.heap.size 180 #[.string s, .int .i64 e] := by rw [← hW]; exact (Has.made _ _ _).alloc _
  have hr : Has W (w.heap.size + 1) 180 #[.string ⟨#[]⟩, .int .i64 0] := by rw [← hW]; exact made_at _ _ (by simp)
  have hB : Turn (fun k => w.heap.size ≤ k) w W := by rw [← hW]; exact ((Turn.refl _ w).alloc _).alloc _
  have hz' : w.heap.size + 1 < W.heap.size := hr.lt
  have HX := Lib.hid hx
  have HR := Lib.hid hr
  obtain ⟨c0, c1, -, -⟩ := hx.two
  clear hW hx hr
  go_loopw [5] (fun i wr => i = .int .i64 0 ∧ wr = W) (fun _ _ => 0)
  case atStart => exact ⟨rfl, rfl⟩
  case round =>
    obtain ⟨rfl, rfl⟩ := hrel
    go_wp2_with fail
    refine (rtake_dead _ _ _ _ HE.out).mono ?_
    rintro en w1 ⟨rfl, hb⟩
    have hs1 := hb.size
    have hx1 := HX.out.below hb HX.out.lt
    have hr1 := HR.out.below hb HR.out.lt
    have T1 : Turn (fun k => w.heap.size ≤ k) w w1 := hB.trans (Turn.of_below (F := fun k => w.heap.size ≤ k) hb (fun j _ h => by omega)) (fun j _ h => h)
    clear c0 c1
    obtain ⟨c0, c1, f0, f1⟩ := hx1.two
    obtain ⟨d0, d1, g0, g1⟩ := hr1.two
    have T := Lib.hid T1
    have q0 : w.heap.size < w1.heap.size := by omega
    have q1 : w.heap.size + 1 < w1.heap.size := by omega
    clear HX HR hb hB hx1 hr1 T1 hs1 hz'
    go_wp2_with fail
    refine bodyPost_ret (v := .tuple #[.agg #[.string ⟨#[]⟩, .int .i64 e], .int .u64 0]) (by simp [results, Try.results122, go_sem, d0, d1, q1]) rfl ?_
    refine ⟨rfl, Turn.below (F := fun k => w.heap.size ≤ k) ?_ (Nat.le_refl _) (fun j hj h => by omega)⟩
    repeat (first | exact T.out | refine Turn.alloc ?_ _ | refine Turn.put ?_ (fun h => by omega) _ _)


/-- The document's reader, as a value. -/
abbrev rdv (s : ByteArray) (e : Int) : Value := .agg #[.string s, .int .i64 e]

set_option maxRecDepth 100000 in
set_option maxHeartbeats 400000 in
theorem rtake_short (s : ByteArray) (n : Int) (w : World) (hn : (s.size : Int) < n) :
    Calls Try.prog 123 #[rdv s 0, .int .i64 n] w fun en w' => en = .returned (.tuple #[rdv ⟨#[]⟩ 1, .string ⟨#[]⟩]) ∧ Below w.heap.size w w' := by
  unfold rdv
  go_enter Try.func123, Try.ntmps123
  go_wp2_with fail
  exact bodyPost_ret (v := .tuple #[.agg #[.string ⟨#[]⟩, .int .i64 1], .string ⟨#[]⟩]) (by simp [results, Try.results123, go_sem]) rfl ⟨rfl, (((Below.refl _ _).alloc (Nat.le_refl _) _).alloc (by simp) _)⟩

set_option maxRecDepth 100000 in
set_option maxHeartbeats 400000 in
theorem rtake_live (s : ByteArray) (n : Nat) (w : World) (hn : n ≤ s.size) (hs : s.size ≤ maxLen) :
    Calls Try.prog 123 #[rdv s 0, .int .i64 n] w fun en w' => en = .returned (.tuple #[rdv (s.extract n s.size) 0, .string (s.extract 0 n)]) ∧ Below w.heap.size w w' := by
  unfold rdv
  have hn1 : (n : Int) ≤ (s.size : Int) := by omega
  have hs1 : (s.size : Int) ≤ 9223372036854775807 := by unfold maxLen at hs; omega
  go_enter Try.func123, Try.ntmps123
  go_wp2_with fail
  go_region
  all_goals
    go_wp2_with fail
    exact bodyPost_ret (v := .tuple #[.agg #[.string (s.extract n s.size), .int .i64 0], .string (s.extract 0 n)]) (by simp [results, Try.results123, go_sem]) rfl ⟨rfl, (((Below.refl _ _).alloc (Nat.le_refl _) _).alloc (by simp) _).drew⟩
theorem rtake_one (c : UInt8) (l : List UInt8) (w : World) (hs : l.length < 1000000) :
    Calls Try.prog 123 #[rdv ⟨(c :: l).toArray⟩ 0, .int .i64 1] w fun en w' => en = .returned (.tuple #[rdv ⟨l.toArray⟩ 0, .string ⟨#[c]⟩]) ∧ Below w.heap.size w w' := by
  have hz : (⟨(c :: l).toArray⟩ : ByteArray).size = l.length + 1 := by show (c :: l).toArray.size = _; simp
  have h := rtake_live ⟨(c :: l).toArray⟩ 1 w (by rw [hz]; omega) (by rw [hz]; unfold maxLen; omega)
  rw [hz] at h
  have e1 : (⟨(c :: l).toArray⟩ : ByteArray).extract 1 (l.length + 1) = ⟨l.toArray⟩ := by
    apply ByteArray.ext
    apply Array.toList_inj.1
    simp
  have e2 : (⟨(c :: l).toArray⟩ : ByteArray).extract 0 1 = ⟨#[c]⟩ := by
    apply ByteArray.ext
    apply Array.toList_inj.1
    simp
  rw [e1, e2] at h
  exact h

theorem dec_lt : ∀ (l : List UInt8) (i n N K : Nat), dec i n l = (0, N, K) → i < K
  | [], i, n, N, K, h => by rw [dec] at h; injection h with h; cases h
  | b :: t, i, n, N, K, h => by
    rw [dec] at h
    split at h
    · injection h with h; cases h
    · split at h
      · injection h with _ h; injection h with _ h; omega
      · have := dec_lt t (i + 1) _ N K h; omega
def natOf : Value → Nat
  | .int _ x => x.toNat
  | _ => 0
set_option maxRecDepth 100000 in
set_option maxHeartbeats 1000000 in
theorem rnum_ok (l : List UInt8) (N K : Nat) (w : World) (hd : dec 0 0 l = (0, N, K)) (hK : K ≤ 10) (hl : l.length < 1000000) :
    Calls Try.prog 122 #[rdv ⟨l.toArray⟩ 0] w fun en w' => en = .returned (.tuple #[rdv ⟨(l.drop K).toArray⟩ 0, .int .u64 N]) ∧ Below w.heap.size w w' := by
  have HD := Lib.hid hd
  have HK := Lib.hid hK
  have HL := Lib.hid hl
  clear hd hK hl
  unfold rdv
  go_enter Try.func122, Try.ntmps122
  go_wp2_with fail
  go_name_world W hW
  have hx : Has W w.heap.size 180 #[.string ⟨l.toArray⟩, .int .i64 0] := by rw [← hW]; exact (Has.made _ _ _).alloc _
  have hr : Has W (w.heap.size + 1) 180 #[.string ⟨#[]⟩, .int .i64 0] := by rw [← hW]; exact made_at _ _ (by simp)
  have hB : Turn (fun k => w.heap.size ≤ k) w W := by rw [← hW]; exact ((Turn.refl _ w).alloc _).alloc _
  have HX := Lib.hid (And.intro hx (And.intro hr hB))
  clear hW hx hr hB
  obtain ⟨z, hz⟩ : ∃ z, z = w.heap.size := ⟨_, rfl⟩
  rw [← hz] at HX ⊢
  have HZ := Lib.hid hz
  clear hz
  go_loopw [4, 5] (fun v i wr => ∃ (k V : Nat) (l' : List UInt8), v = .int .u64 V ∧ i = .int .i64 k ∧ Hid (dec k V l' = (0, N, K) ∧ l' = l.drop k) ∧ Hid (Has wr z 180 #[.string ⟨l'.toArray⟩, .int .i64 0] ∧ Has wr (z + 1) 180 #[.string ⟨#[]⟩, .int .i64 0] ∧ Turn (fun k => z ≤ k) w wr)) (fun _ i _ => 20 - natOf i)
  case atStart => exact ⟨0, 0, l, rfl, rfl, Lib.hid ⟨HD.out, rfl⟩, HX⟩
  case round =>
    clear HX
    obtain ⟨k, V, l', rfl, rfl, HDD, HS⟩ := hrel
    cases l' with
    | nil => have := HDD.out.1; unfold dec at this; injection this with this; cases this
    | cons c t =>
      have hdd := HDD.out.1
      rw [dec] at hdd
      by_cases hbad : (k = 0 ∧ c.toNat = 128) ∨ 144115188075855872 ≤ V
      · rw [if_pos hbad] at hdd; injection hdd with hdd; cases hdd
      rw [if_neg hbad] at hdd
      have HDX := Lib.hid hdd
      obtain ⟨v, hv⟩ : ∃ v : Int, v = (V : Int) := ⟨_, rfl⟩
      rw [← hv]
      have hv0 : 0 ≤ v := by omega
      have hv1 : v < 144115188075855872 := by omega
      have HV := Lib.hid hv
      clear hv
      have hk : k < 11 := by have := dec_lt _ _ _ _ _ HDD.out.1; have := HK.out; omega
      have hk1 : (k : Int) < 11 := by omega
      have HTL : Hid (t.length < 1000000) := Lib.hid (by
        have h1 := congrArg List.length HDD.out.2
        rw [List.length_cons, List.length_drop] at h1
        have := HL.out
        omega)
      have HB := Lib.hid hbad
      clear hbad hdd
      have c0 : wr.cell? ⟨z, 0, none⟩ = some (.string ⟨(c :: t).toArray⟩) := HS.out.1.cell 0
      have c1 : wr.cell? ⟨z, 1, none⟩ = some (.int .i64 0) := HS.out.1.cell 1
      go_wp2_with fail
      refine (rtake_one c t _ HTL.out).mono ?_
      unfold rdv
      obtain ⟨s1, hs1⟩ : ∃ s1 : ByteArray, s1 = ⟨#[c]⟩ := ⟨_, rfl⟩
      rw [← hs1]
      have hz1 : 0 < s1.size := by rw [hs1]; exact Nat.one_pos
      have hg1 : Hid (s1[0].toNat = c.toNat) := Lib.hid (by subst hs1; rfl)
      clear hs1
      rintro en w1 ⟨rfl, b1⟩
      have S1 : Hid (Has w1 z 180 #[.string ⟨(c :: t).toArray⟩, .int .i64 0] ∧ Has w1 (z + 1) 180 #[.string ⟨#[]⟩, .int .i64 0] ∧ Turn (fun k => z ≤ k) w w1) := Lib.hid ⟨HS.out.1.below b1 HS.out.1.lt, HS.out.2.1.below b1 HS.out.2.1.lt, HS.out.2.2.trans (Turn.of_below b1 (F := fun j => wr.heap.size ≤ j) (fun _ _ e => e)) (fun j h1 h2 => absurd h2 (by have := HS.out.2.2.size; omega))⟩
      clear b1 c0 c1 HS
      obtain ⟨c0, c1, f0, f1⟩ := S1.out.1.two
      have zl : z < w1.heap.size := S1.out.1.lt
      obtain ⟨d0, d1, g0, g1⟩ := S1.out.2.1.two
      have yl : z + 1 < w1.heap.size := S1.out.2.1.lt
      by_cases hk0 : k = 0
      · have hk0b : ((k : Int) == 0) = true := by rw [hk0]; rfl
        have h128 : ((s1[0].toNat : Int) == 128) = false := by
          rw [beq_eq_false_iff_ne]
          intro e
          have := hg1.out
          exact HB.out (.inl ⟨hk0, by omega⟩)
        have HK0 := Lib.hid hk0
        clear hk0
        by_cases hcl : s1[0].toNat < 128
        · have HE : Hid (((N : Nat) : Int) = v * 128 + (s1[0].toNat : Int) % 128 ∧ l.drop K = t) := Lib.hid (by
            have h := HDX.out
            rw [if_pos (by have := hg1.out; omega)] at h
            injection h with _ h
            injection h with h1 h2
            have h3 := hg1.out
            have h4 := HV.out
            refine ⟨by rw [← h1, h3, h4]; push_cast; rfl, ?_⟩
            have h5 := congrArg List.tail HDD.out.2
            rw [List.tail_cons, List.tail_drop] at h5
            rw [← h2]; exact h5.symm)
          go_wp2_with fail
          refine bodyPost_ret (v := .tuple #[.agg #[.string ⟨t.toArray⟩, .int .i64 0], .int .u64 (v * 128 + (s1[0].toNat : Int) % 128)]) (by simp [results, Try.results122, go_sem, d0, d1, yl]) rfl ?_
          refine ⟨by rw [← HE.out.1, HE.out.2], ?_⟩
          have hzz := HZ.out
          refine Turn.below (F := fun k => z ≤ k) ?_ (Nat.le_refl _) (fun j hj h => by omega)
          have T := S1.out.2.2
          repeat (first | exact T | refine Turn.alloc ?_ _ | refine Turn.put ?_ (fun h => by omega) _ _)
        · have HE : Hid (dec (k + 1) (V * 128 + c.toNat % 128) t = (0, N, K) ∧ t = l.drop (k + 1) ∧ v * 128 + (s1[0].toNat : Int) % 128 = ((V * 128 + c.toNat % 128 : Nat) : Int)) := Lib.hid (by
            have h := HDX.out
            rw [if_neg (by have := hg1.out; omega)] at h
            have h3 := hg1.out
            have h4 := HV.out
            refine ⟨h, ?_, by rw [h3, h4]; push_cast; rfl⟩
            have h5 := congrArg List.tail HDD.out.2
            rw [List.tail_cons, List.tail_drop] at h5
            exact h5)
          go_wp2_with fail
          refine ⟨⟨k + 1, V * 128 + c.toNat % 128, t, by rw [← HE.out.2.2]; rfl, by rw [Int.natCast_add]; rfl, Lib.hid ⟨HE.out.1, HE.out.2.1⟩, Lib.hid ⟨?_, ?_, ?_⟩⟩, ?_⟩
          · have := ((S1.out.1.put 0 (.string ⟨t.toArray⟩)).put 1 (.int .i64 0)).alloc (.cells #[.string ⟨t.toArray⟩, .int .i64 0] 180)
            simpa using this
          · exact ((S1.out.2.1.far (by show z + 1 ≠ z; omega) _).far (by show z + 1 ≠ z; omega) _).alloc _
          · have T := S1.out.2.2
            repeat (first | exact T | refine Turn.alloc ?_ _ | refine Turn.put ?_ (fun h => by omega) _ _)
          · show 20 - ((k : Int) + 1).toNat < 20 - ((k : Int)).toNat
            omega
      · have hkb : ((k : Int) == 0) = false := by rw [beq_eq_false_iff_ne]; omega
        by_cases hcl : s1[0].toNat < 128
        · have HE : Hid (((N : Nat) : Int) = v * 128 + (s1[0].toNat : Int) % 128 ∧ l.drop K = t) := Lib.hid (by
            have h := HDX.out
            rw [if_pos (by have := hg1.out; omega)] at h
            injection h with _ h
            injection h with h1 h2
            have h3 := hg1.out
            have h4 := HV.out
            refine ⟨by rw [← h1, h3, h4]; push_cast; rfl, ?_⟩
            have h5 := congrArg List.tail HDD.out.2
            rw [List.tail_cons, List.tail_drop] at h5
            rw [← h2]; exact h5.symm)
          go_wp2_with fail
          refine bodyPost_ret (v := .tuple #[.agg #[.string ⟨t.toArray⟩, .int .i64 0], .int .u64 (v * 128 + (s1[0].toNat : Int) % 128)]) (by simp [results, Try.results122, go_sem, d0, d1, yl]) rfl ?_
          refine ⟨by rw [← HE.out.1, HE.out.2], ?_⟩
          have hzz := HZ.out
          refine Turn.below (F := fun k => z ≤ k) ?_ (Nat.le_refl _) (fun j hj h => by omega)
          have T := S1.out.2.2
          repeat (first | exact T | refine Turn.alloc ?_ _ | refine Turn.put ?_ (fun h => by omega) _ _)
        · have HE : Hid (dec (k + 1) (V * 128 + c.toNat % 128) t = (0, N, K) ∧ t = l.drop (k + 1) ∧ v * 128 + (s1[0].toNat : Int) % 128 = ((V * 128 + c.toNat % 128 : Nat) : Int)) := Lib.hid (by
            have h := HDX.out
            rw [if_neg (by have := hg1.out; omega)] at h
            have h3 := hg1.out
            have h4 := HV.out
            refine ⟨h, ?_, by rw [h3, h4]; push_cast; rfl⟩
            have h5 := congrArg List.tail HDD.out.2
            rw [List.tail_cons, List.tail_drop] at h5
            exact h5)
          go_wp2_with fail
          refine ⟨⟨k + 1, V * 128 + c.toNat % 128, t, by rw [← HE.out.2.2]; rfl, by rw [Int.natCast_add]; rfl, Lib.hid ⟨HE.out.1, HE.out.2.1⟩, Lib.hid ⟨?_, ?_, ?_⟩⟩, ?_⟩
          · have := ((S1.out.1.put 0 (.string ⟨t.toArray⟩)).put 1 (.int .i64 0)).alloc (.cells #[.string ⟨t.toArray⟩, .int .i64 0] 180)
            simpa using this
          · exact ((S1.out.2.1.far (by show z + 1 ≠ z; omega) _).far (by show z + 1 ≠ z; omega) _).alloc _
          · have T := S1.out.2.2
            repeat (first | exact T | refine Turn.alloc ?_ _ | refine Turn.put ?_ (fun h => by omega) _ _)
          · show 20 - ((k : Int) + 1).toNat < 20 - ((k : Int)).toNat
            omega
set_option maxRecDepth 100000 in
set_option maxHeartbeats 400000 in
theorem rnum_none (w : World) :
    Calls Try.prog 122 #[.agg #[.string ⟨#[]⟩, .int .i64 0]] w fun en w' => en = .returned (.tuple #[.agg #[.string ⟨#[]⟩, .int .i64 1], .int .u64 0]) ∧ Below w.heap.size w w' := by
  go_enter Try.func122, Try.ntmps122
  go_wp2_with fail
  go_name_world W hW
  have hx : Has W w.heap.size 180 #[.string ⟨#[]⟩, .int .i64 0] := by rw [← hW]; exact (Has.made _ _ _).alloc _
  have hr : Has W (w.heap.size + 1) 180 #[.string ⟨#[]⟩, .int .i64 0] := by rw [← hW]; exact made_at _ _ (by simp)
  have hB : Turn (fun k => w.heap.size ≤ k) w W := by rw [← hW]; exact ((Turn.refl _ w).alloc _).alloc _
  have hz' : w.heap.size + 1 < W.heap.size := hr.lt
  have HX := Lib.hid hx
  have HR := Lib.hid hr
  obtain ⟨c0, c1, -, -⟩ := hx.two
  clear hW hx hr
  go_loopw [5] (fun i wr => i = .int .i64 0 ∧ wr = W) (fun _ _ => 0)
  case atStart => exact ⟨rfl, rfl⟩
  case round =>
    obtain ⟨rfl, rfl⟩ := hrel
    go_wp2_with fail
    refine (rtake_short ⟨#[]⟩ 1 _ (by show (0 : Int) < 1; decide)).mono ?_
    unfold rdv
    rintro en w1 ⟨rfl, hb⟩
    have hs1 := hb.size
    have hx1 := HX.out.below hb HX.out.lt
    have hr1 := HR.out.below hb HR.out.lt
    have T1 : Turn (fun k => w.heap.size ≤ k) w w1 := hB.trans (Turn.of_below (F := fun k => w.heap.size ≤ k) hb (fun j _ h => by omega)) (fun j _ h => h)
    clear c0 c1
    obtain ⟨c0, c1, f0, f1⟩ := hx1.two
    obtain ⟨d0, d1, g0, g1⟩ := hr1.two
    have T := Lib.hid T1
    have q0 : w.heap.size < w1.heap.size := by omega
    have q1 : w.heap.size + 1 < w1.heap.size := by omega
    clear HX HR hb hB hx1 hr1 T1 hs1 hz'
    go_wp2_with fail
    refine bodyPost_ret (v := .tuple #[.agg #[.string ⟨#[]⟩, .int .i64 1], .int .u64 0]) (by simp [results, Try.results122, go_sem, d0, d1, q1]) rfl ?_
    refine ⟨rfl, Turn.below (F := fun k => w.heap.size ≤ k) ?_ (Nat.le_refl _) (fun j hj h => by omega)⟩
    repeat (first | exact T.out | refine Turn.alloc ?_ _ | refine Turn.put ?_ (fun h => by omega) _ _)


set_option maxRecDepth 100000 in
theorem rend_ok (w : World) : Calls Try.prog 109 #[rdv ⟨#[]⟩ 0] w fun en w' => en = .returned (.int .i64 0) ∧ Below w.heap.size w w' := by
  unfold rdv
  go_enter Try.func109, Try.ntmps109
  go_wp2_with fail
  go_ret
  exact ⟨rfl, box_below _ _⟩
set_option maxRecDepth 100000 in
theorem rend_bad (s : ByteArray) (e : Int) (w : World) (he : e ≠ 0) : Calls Try.prog 109 #[rdv s e] w fun en w' => en = .returned (.int .i64 e) ∧ Below w.heap.size w w' := by
  have he' : (e == 0) = false := by simpa using he
  unfold rdv
  go_enter Try.func109, Try.ntmps109
  go_wp2_with fail
  go_ret
  exact ⟨rfl, box_below _ _⟩
end Go.Proofs.Ytbpcfkniflgmfaa.prc
