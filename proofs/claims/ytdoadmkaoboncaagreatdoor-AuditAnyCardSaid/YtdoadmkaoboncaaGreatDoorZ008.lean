/- Texts laid into one: PrfT, RefX, RefY, AudI, Open, PrfW, PrfUS, Wf, TreeQ. -/
import Derived.Test.YtdoadmkaoboncaaGreatDoorZ007
import Derived.Test.YtdoadmkaoboncaaGreatDoorZ006
import Derived.Test.YtdoadmkaoboncaaGreatDoorBase
import Derived.Deep.Slices
import Derived.Deep.Fields
import Derived.ChangeSame
import Derived.ChangeSlices
import Derived.ProofKit
import Derived.OpenShut
import Derived.Deep.MidRow
import Derived.ChangeOld
import Derived.Test.YtdoadmkaoboncaaGreatDoorSums
import Derived.Test.YtdoadmkaoboncaaGreatDoorDigI
import Derived.Test.YtdoadmkaoboncaaGreatDoorZ000
import Derived.Test.YtdoadmkaoboncaaGreatDoorBld
import Derived.Lib.ItoaWalk
import Derived.Test.YtdoadmkaoboncaaGreatDoorTreeA
import Derived.Test.YtdoadmkaoboncaaGreatDoorRows
import Derived.LaidMore
import Derived.Stop.LaidErr
section
/- proof: the document's Inclusion, Consistency. -/
namespace Go.Proofs.YtdoadmkaoboncaaGreatDoor.prf
open Go Go.RowKit Go.Proofs.YtdoadmkaoboncaaGreatDoor.dig

theorem txt_beq (x y : List UInt8) : ((bs x).toList == (bs y).toList) = (x == y) := by
  rw [ByteArray.toList_eq, ByteArray.toList_eq, bs_list, bs_list]

theorem inclE_nil (leaf : List UInt8) {i n : Int} (h : ¬ (i < 0 ∨ n ≤ i)) (root : List UInt8) (r : List (List UInt8)) :
    inclE leaf i n root r = if ((up [] (leafS leaf) r i.toNat n.toNat).2 && ((up [] (leafS leaf) r i.toNat n.toNat).1 == root)) = true then 0 else 12 := by
  unfold inclE
  rw [if_neg h]
  obtain ⟨h1, h2⟩ := up_any (List.replicate 32 0) [] (leafS leaf) r i.toNat n.toNat
  rw [h1]
  cases hb : (up [] (leafS leaf) r i.toNat n.toNat).2
  · rw [if_neg (by simp), if_neg (by simp)]
  · rw [h2 (by rw [h1, hb])]
    by_cases he : (up [] (leafS leaf) r i.toNat n.toNat).1 = root
    · rw [if_pos ⟨rfl, he⟩, if_pos (by simp [he])]
    · rw [if_neg (fun e => he e.2), if_neg (by simp [he])]

theorem elderB_nil (m : Nat) (old : List UInt8) (n : Nat) (root : List UInt8) (r : List (List UInt8)) (h : m ≠ n) (h0 : m ≠ 0) :
    elderB m old n root r = ((both [] old r true m n).2.2 && ((both [] old r true m n).1 == old) && ((both [] old r true m n).2.1 == root)) := by
  unfold elderB
  rw [if_neg h, if_neg h0]
  obtain ⟨h1, h2⟩ := both_any (List.replicate 32 0) [] old r true m n
  rw [h1]
  cases hb : (both [] old r true m n).2.2
  · simp
  · obtain ⟨h3, h4⟩ := h2 (by rw [h1, hb])
    rw [h3, h4]

set_option maxRecDepth 100000 in
set_option maxHeartbeats 1000000 in
theorem rincl_out (leaf s : ByteArray) (i n : Int) (h : i < 0 ∨ n ≤ i) (v : Value) (w : World) : Calls Tryz.prog 31 #[.string leaf, .int .i64 i, .int .i64 n, .string s, v] w fun en w' => en = .returned (.int .i64 6) ∧ w = w' := by
  by_cases h0 : i < 0
  · clear h
    go_enter Tryz.func31, Tryz.ntmps31
    go_wp2_with fail
    go_ret
    exact ⟨rfl, rfl⟩
  · have h1 : n ≤ i := h.resolve_left h0
    clear h
    go_enter Tryz.func31, Tryz.ntmps31
    go_wp2_with fail
    go_ret
    exact ⟨rfl, rfl⟩

set_option maxRecDepth 100000 in
set_option maxHeartbeats 1000000 in
theorem rincl_in {leaf sr slf su : ByteArray} {ub b1 : Bool} (hq : (su.toList == sr.toList) = b1) (i n : Nat) (hi : i < n) (v : Value) (w : World)
    (hl : ∀ V, Below w.heap.size w V → Calls Tryz.prog 61 #[.string leaf] V fun en w' => en = .returned (.string slf) ∧ Below V.heap.size V w')
    (hc : ∀ V, Below w.heap.size w V → Calls Tryz.prog 60 #[.int .i64 i, .int .i64 n, .string slf, v] V fun en w' => en = .returned (.tuple #[.string su, .bool ub]) ∧ Below V.heap.size V w') :
    Calls Tryz.prog 31 #[.string leaf, .int .i64 i, .int .i64 n, .string sr, v] w fun en w' => en = .returned (.int .i64 (if (ub && b1) = true then 0 else 12)) ∧ Below w.heap.size w w' := by
  have HL := Lib.hid hl
  have HC := Lib.hid hc
  have i0 : (0 : Int) ≤ (i : Int) := by omega
  have i1 : (i : Int) < (n : Int) := by omega
  clear hl hc hi
  have key : ub = false ∨ (ub = true ∧ b1 = false) ∨ (ub = true ∧ b1 = true) := by cases ub <;> cases b1 <;> simp
  rcases key with rfl | ⟨rfl, rfl⟩ | ⟨rfl, rfl⟩
  all_goals
    go_enter Tryz.func31, Tryz.ntmps31
    go_wp2_with fail
    refine (HL.out w (Below.refl _ _)).mono ?_
    rintro en w1 ⟨rfl, b1'⟩
    go_wp2_with fail
    refine (HC.out w1 b1').mono ?_
    rintro en w2 ⟨rfl, b2'⟩
    go_wp2_with fail
    go_ret
    exact ⟨rfl, b1'.trans (b2'.mono b1'.size)⟩

theorem rincl_calls (leaf : ByteArray) (i n : Int) (root : List UInt8) (hn : n ≤ 1000000) (r : List (List UInt8)) (a : Option Addr) (c : Nat) (w : World) (hT : Tst w (.slice a r.length c) r) (hl : leaf.size ≤ 100000000) :
    Calls Tryz.prog 31 #[.string leaf, .int .i64 i, .int .i64 n, .string (bs root), .slice a r.length c] w fun en w' => en = .returned (.int .i64 (inclE leaf.data.toList i n root r)) ∧ Below w.heap.size w w' := by
  by_cases h : i < 0 ∨ n ≤ i
  · have e : inclE leaf.data.toList i n root r = 6 := by unfold inclE; rw [if_pos h]
    rw [e]
    exact (rincl_out leaf (bs root) i n h _ w).mono fun _ _ p => ⟨p.1, p.2 ▸ Below.refl _ _⟩
  · rw [inclE_nil _ h]
    have hi : i = (i.toNat : Int) := by omega
    have hn' : n = (n.toNat : Int) := by omega
    obtain ⟨j, hj⟩ : ∃ j, j = i.toNat := ⟨_, rfl⟩
    obtain ⟨k, hk⟩ : ∃ k, k = n.toNat := ⟨_, rfl⟩
    rw [← hj] at hi ⊢
    rw [← hk] at hn' ⊢
    subst hi hn'
    have hjk : j < k := by omega
    exact rincl_in (txt_beq _ _) j k hjk _ w (fun V b => rleaf_calls leaf hl V) (fun V b => rup_calls (leafS_length _) r j k a c V (hT.below b) hjk (by omega))

set_option maxRecDepth 100000 in
set_option maxHeartbeats 1000000 in
theorem rcons_out (s t : ByteArray) (m n : Int) (h : m < 0 ∨ n < m) (v : Value) (w : World) : Calls Tryz.prog 35 #[.int .i64 m, .string s, .int .i64 n, .string t, v] w fun en w' => en = .returned (.int .i64 6) ∧ w = w' := by
  by_cases h0 : m < 0
  · clear h
    go_enter Tryz.func35, Tryz.ntmps35
    go_wp2_with fail
    go_ret
    exact ⟨rfl, rfl⟩
  · have h1 : n < m := h.resolve_left h0
    clear h
    go_enter Tryz.func35, Tryz.ntmps35
    go_wp2_with fail
    go_ret
    exact ⟨rfl, rfl⟩

set_option maxRecDepth 100000 in
set_option maxHeartbeats 1000000 in
theorem rcons_same {so sr : ByteArray} {b1 : Bool} (hq : (so.toList == sr.toList) = b1) (n : Nat) (a : Option Addr) (l c : Nat) (w : World) (e : Bool) (he : ((l : Int) == 0) = e) : Calls Tryz.prog 35 #[.int .i64 n, .string so, .int .i64 n, .string sr, .slice a l c] w fun en w' => en = .returned (.int .i64 (if (e && b1) = true then 0 else 12)) ∧ w = w' := by
  have n0 : (0 : Int) ≤ (n : Int) := by omega
  have key : (e = false ∧ 0 < l) ∨ (e = true ∧ l = 0 ∧ b1 = false) ∨ (e = true ∧ l = 0 ∧ b1 = true) := by
    by_cases hl : l = 0
    · subst hl
      have : e = true := by rw [← he]; rfl
      cases b1 <;> simp [this]
    · have : e = false := by rw [← he, beq_eq_false_iff_ne]; omega
      exact .inl ⟨this, by omega⟩
  clear he
  rcases key with ⟨rfl, hl⟩ | ⟨rfl, rfl, rfl⟩ | ⟨rfl, rfl, rfl⟩
  all_goals
    try have hl2 : (0 : Int) < (l : Int) := by omega
    go_enter Tryz.func35, Tryz.ntmps35
    go_wp2_with fail
    go_ret
    exact ⟨rfl, rfl⟩

set_option maxRecDepth 100000 in
set_option maxHeartbeats 1000000 in
theorem rcons_zero {so sz sr : ByteArray} {b1 : Bool} (hq : (so.toList == sz.toList) = b1) (n : Nat) (hn : 0 < n) (a : Option Addr) (l c : Nat) (w : World) (e : Bool) (he : ((l : Int) == 0) = e)
    (hc : Calls Tryz.prog 64 #[.string ⟨#[]⟩] w fun en w' => en = .returned (.string sz) ∧ Below w.heap.size w w') :
    Calls Tryz.prog 35 #[.int .i64 0, .string so, .int .i64 n, .string sr, .slice a l c] w fun en w' => en = .returned (.int .i64 (if (e && b1) = true then 0 else 12)) ∧ Below w.heap.size w w' := by
  have n0 : (0 : Int) < (n : Int) := by omega
  have n1 : ¬ (0 : Int) = (n : Int) := by omega
  have n2 : ((0 : Int) == (n : Int)) = false := by rw [beq_eq_false_iff_ne]; omega
  have HC := Lib.hid hc
  have key : (e = false ∧ 0 < l) ∨ (e = true ∧ l = 0 ∧ b1 = false) ∨ (e = true ∧ l = 0 ∧ b1 = true) := by
    by_cases hl : l = 0
    · subst hl
      have : e = true := by rw [← he]; rfl
      cases b1 <;> simp [this]
    · have : e = false := by rw [← he, beq_eq_false_iff_ne]; omega
      exact .inl ⟨this, by omega⟩
  clear he hc hn
  rcases key with ⟨rfl, hl⟩ | ⟨rfl, rfl, rfl⟩ | ⟨rfl, rfl, rfl⟩
  · have hl2 : (0 : Int) < (l : Int) := by omega
    go_enter Tryz.func35, Tryz.ntmps35
    go_wp2_with fail
    go_ret
    exact ⟨rfl, Below.refl _ _⟩
  all_goals
    go_enter Tryz.func35, Tryz.ntmps35
    go_wp2_with fail
    refine HC.out.mono ?_
    rintro en w1 ⟨rfl, b⟩
    go_wp2_with fail
    go_ret
    exact ⟨rfl, b⟩

set_option maxRecDepth 100000 in
set_option maxHeartbeats 1000000 in
theorem rcons_more {so sr s1 s2 : ByteArray} {tb b1 b2 : Bool} (q1 : (s1.toList == so.toList) = b1) (q2 : (s2.toList == sr.toList) = b2) (m n : Nat) (h0 : 0 < m) (h1 : m < n) (v : Value) (w : World)
    (hc : Calls Tryz.prog 65 #[.int .i64 m, .int .i64 n, .string so, .bool true, v] w fun en w' => en = .returned (.tuple #[.string s1, .string s2, .bool tb]) ∧ Below w.heap.size w w') :
    Calls Tryz.prog 35 #[.int .i64 m, .string so, .int .i64 n, .string sr, v] w fun en w' => en = .returned (.int .i64 (if (tb && b1 && b2) = true then 0 else 12)) ∧ Below w.heap.size w w' := by
  have n0 : (0 : Int) < (m : Int) := by omega
  have n1 : (m : Int) < (n : Int) := by omega
  have n2 : ((m : Int) == (n : Int)) = false := by rw [beq_eq_false_iff_ne]; omega
  have n3 : ((m : Int) == 0) = false := by rw [beq_eq_false_iff_ne]; omega
  have HC := Lib.hid hc
  clear hc h0 h1
  have key : tb = false ∨ (tb = true ∧ b1 = false) ∨ (tb = true ∧ b1 = true ∧ b2 = false) ∨ (tb = true ∧ b1 = true ∧ b2 = true) := by cases tb <;> cases b1 <;> cases b2 <;> simp
  rcases key with rfl | ⟨rfl, rfl⟩ | ⟨rfl, rfl, rfl⟩ | ⟨rfl, rfl, rfl⟩
  all_goals
    go_enter Tryz.func35, Tryz.ntmps35
    go_wp2_with fail
    refine HC.out.mono ?_
    rintro en w1 ⟨rfl, b⟩
    go_wp2_with fail
    go_ret
    exact ⟨rfl, b⟩

theorem rcons_calls {old : List UInt8} (ho : old.length = 32) (m n : Int) (root : List UInt8) (hn : n ≤ 1000000) (r : List (List UInt8)) (a : Option Addr) (c : Nat) (w : World) (hT : Tst w (.slice a r.length c) r) :
    Calls Tryz.prog 35 #[.int .i64 m, .string (bs old), .int .i64 n, .string (bs root), .slice a r.length c] w fun en w' => en = .returned (.int .i64 (consE m old n root r)) ∧ Below w.heap.size w w' := by
  by_cases h : m < 0 ∨ n < m
  · have e : consE m old n root r = 6 := by unfold consE; rw [if_pos h]
    rw [e]
    exact (rcons_out (bs old) (bs root) m n h _ w).mono fun _ _ p => ⟨p.1, p.2 ▸ Below.refl _ _⟩
  · have e : consE m old n root r = if elderB m.toNat old n.toNat root r = true then 0 else 12 := by unfold consE; rw [if_neg h]
    rw [e]
    have hm : m = (m.toNat : Int) := by omega
    have hn' : n = (n.toNat : Int) := by omega
    obtain ⟨j, hj⟩ : ∃ j, j = m.toNat := ⟨_, rfl⟩
    obtain ⟨k, hk⟩ : ∃ k, k = n.toNat := ⟨_, rfl⟩
    rw [← hj] at hm ⊢
    rw [← hk] at hn' ⊢
    subst hm hn'
    by_cases h1 : j = k
    · subst h1
      have e2 : elderB j old j root r = (r.isEmpty && (old == root)) := by unfold elderB; rw [if_pos rfl]
      rw [e2]
      exact (rcons_same (txt_beq _ _) j a _ c w _ (empty_len r)).mono fun _ _ p => ⟨p.1, p.2 ▸ Below.refl _ _⟩
    · by_cases h0 : j = 0
      · subst h0
        have e2 : elderB 0 old k root r = (r.isEmpty && (old == sum [])) := by unfold elderB; rw [if_neg h1, if_pos rfl]
        rw [e2]
        exact rcons_zero (txt_beq _ _) k (by omega) a _ c w _ (empty_len r) (rof_calls ⟨#[]⟩ (by decide) w)
      · rw [elderB_nil _ _ _ _ _ h1 h0]
        exact rcons_more (txt_beq _ _) (txt_beq _ _) j k (by omega) (by omega) _ w (rboth_calls ho r true j k a c w hT (by omega) (by omega) (by omega))
end Go.Proofs.YtdoadmkaoboncaaGreatDoor.prf
end

section
/- the document's Leaf of layer 25: the verdict on a leaf's proof. -/
namespace Go.Proofs.YtdoadmkaoboncaaGreatDoor.prf
open Go Go.RowKit Go.Proofs.YtdoadmkaoboncaaGreatDoor.dig

/-- What lasts in the document's look. -/
structure RvS (w : World) (v : Value) (fl : Int) (pc : Array Value) (V : World) : Prop where
  b : Below w.heap.size w V
  d : Has V w.heap.size 29 #[v, .int .i64 fl]
  p : Has V (w.heap.size + 1) 36 pc
theorem RvS.below {w : World} {v : Value} {fl : Int} {pc : Array Value} {V V' : World} (h : RvS w v fl pc V) (b : Below V.heap.size V V') : RvS w v fl pc V' :=
  ⟨h.b.trans (b.mono h.b.size), h.d.below b h.d.lt, h.p.below b h.p.lt⟩

/-- The verdict on a leaf's proof. -/
def wantL (L : List ByteArray) (fl : Nat) (text : ByteArray) (K I N : Int) (r : List (List UInt8)) : Int :=
  if N < 0 ∨ N > L.length ∨ N < fl then 0 else if K ≠ 1 then 0 else if inclE text.data.toList I N (rtAll (leafF L) N.toNat) r ≠ 0 then 0
  else if I < fl then 3 else if L[I.toNat]? = some text then 1 else 2

set_option maxRecDepth 100000 in
set_option maxHeartbeats 4000000 in
theorem rleafA_bad (v : Value) (fl : Nat) (_n K I N : Int) (text : ByteArray) (sv : Value) (E : Int) (hE : E ≠ 0) (w : World)
    (hc : ∀ V, Below w.heap.size w V → Calls Tryz.prog 30 #[dvC v fl, .int .i64 N] V fun en w' => en = .returned (.tuple #[.string ⟨#[]⟩, .int .i64 E]) ∧ Below V.heap.size V w') :
    Calls Tryz.prog 12 #[dvC v fl, .string text, .agg (prC K I N sv)] w fun en w' => en = .returned (.int .i64 0) ∧ Below w.heap.size w w' := by
  have HC := Lib.hid hc
  have hE1 : (E != 0) = true := by simpa using hE
  have hE2 : (E == 0) = false := by simpa using hE
  unfold dvC
  clear hc hE
  go_enter Tryz.func12, Tryz.ntmps12
  go_wp2_with fail
  refine callsName (fun W hW => ?_)
  have B0 : Hid (Below w.heap.size w W) := by rw [← hW]; exact Lib.hid (((Below.refl _ _).alloc (Nat.le_refl _) _).alloc (by simp) _)
  clear hW
  refine (HC.out W B0.out).mono ?_
  rintro en w1 ⟨rfl, b1⟩
  have S1 := Lib.hid (B0.out.trans (b1.mono B0.out.size))
  clear b1 B0 HC
  go_wp2_with fail
  go_ret
  exact ⟨rfl, S1.out⟩

set_option maxRecDepth 100000 in
set_option maxHeartbeats 4000000 in
theorem rleafA_calls {a a2 : Option Addr} {c c2 : Nat} (L : List ByteArray) (hLL : L.length ≤ 1000000) (fl : Nat) (text : ByteArray) (hts : text.size ≤ 100000000) (K I N : Int) (r : List (List UInt8)) (w : World) (hS : Strs w (.slice a L.length c) L) (hT : Tst w (.slice a2 r.length c2) r) :
    Calls Tryz.prog 12 #[dvC (.slice a L.length c) fl, .string text, .agg (prC K I N (.slice a2 r.length c2))] w fun en w' => en = .returned (.int .i64 (wantL L fl text K I N r)) ∧ Below w.heap.size w w' := by
  unfold wantL
  by_cases h1 : N < 0 ∨ N > L.length
  · rw [if_pos (by omega)]
    exact rleafA_bad _ fl L.length K I N text _ 6 (by decide) w (fun V _ => rhead_range fl N h1 V)
  by_cases h2 : N < fl
  · rw [if_pos (by omega)]
    exact rleafA_bad _ fl L.length K I N text _ 14 (by decide) w (fun V _ => rhead_low fl N (by omega) (by omega) h2 V)
  rw [if_neg (by omega)]
  obtain ⟨n, rfl⟩ : ∃ n : Nat, N = n := ⟨N.toNat, by omega⟩
  rw [Int.toNat_natCast]
  have hn : n ≤ L.length := by omega
  have hnf : ¬ (n : Int) < (fl : Int) := h2
  obtain ⟨R, hR⟩ : ∃ R, R = rtAll (leafF L) n := ⟨_, rfl⟩
  rw [← hR]
  obtain ⟨E, hE⟩ : ∃ E, E = inclE text.data.toList I n R r := ⟨_, rfl⟩
  rw [← hE]
  obtain ⟨wv, hwv⟩ : ∃ k, k = (if K ≠ 1 then (0 : Int) else if E ≠ 0 then 0 else if I < fl then 3 else if L[I.toNat]? = some text then 1 else 2) := ⟨_, rfl⟩
  rw [← hwv]
  have HWV := Lib.hid hwv
  clear hwv
  have HNN := Lib.hid (show _ ∧ _ ∧ _ ∧ _ from ⟨hLL, hn, hnf, hts⟩)
  have HR := Lib.hid hR
  have HE := Lib.hid hE
  have HSS := Lib.hid (show _ ∧ _ from ⟨hS, hT⟩)
  obtain ⟨lr, hlr⟩ : ∃ lr, lr = r.length := ⟨_, rfl⟩
  obtain ⟨ln, hln⟩ : ∃ ln, ln = L.length := ⟨_, rfl⟩
  have HLR := Lib.hid (show _ ∧ _ from ⟨hlr, hln⟩)
  rw [← hlr, ← hln]
  have p2 : ∀ A, ((w.alloc A).alloc (.cells (prC K I n (.slice a2 lr c2)) 36)).cell? ⟨w.heap.size + 1, 2, none⟩ = some (.int .i64 n) := fun A => (made_at _ _ (by simp)).cell 2
  unfold dvC
  clear h1 h2 hn hnf hR hE hS hT hlr hln hLL hts
  go_enter Tryz.func12, Tryz.ntmps12
  go_wp2_with fail
  refine callsName (fun W hW => ?_)
  have B0 : Hid (RvS w (.slice a ln c) fl (prC K I n (.slice a2 lr c2)) W) := by
    rw [← hW]
    exact Lib.hid ⟨((Below.refl _ _).alloc (Nat.le_refl _) _).alloc (by simp) _, (made_at _ _ rfl).alloc _, made_at _ _ (by simp)⟩
  clear hW p2
  have h := rheadv_ok (a := a) (c := c) fl n HNN.out.2.1 (by have := HNN.out; omega) HNN.out.1 W (by
    exact ⟨HSS.out.1.1.below B0.out.b (fun _ e => HSS.out.1.1.lt e), HSS.out.1.2⟩)
  rw [← HLR.out.2, ← HR.out] at h
  refine h.mono ?_
  clear h
  rintro en w1 ⟨rfl, b1⟩
  have S1 := Lib.hid (B0.out.below b1)
  clear b1 B0
  have q0 : w1.cell? ⟨w.heap.size + 1, 0, none⟩ = some (.int .i64 K) := S1.out.p.cell 0
  have q1 : w1.cell? ⟨w.heap.size + 1, 1, none⟩ = some (.int .i64 I) := S1.out.p.cell 1
  have q2 : w1.cell? ⟨w.heap.size + 1, 2, none⟩ = some (.int .i64 n) := S1.out.p.cell 2
  have q3 : w1.cell? ⟨w.heap.size + 1, 3, none⟩ = some (.slice a2 lr c2) := S1.out.p.cell 3
  by_cases hK : K = 1
  · subst hK
    go_wp2_with fail
    have h := rincl_calls text I n R (by have := HNN.out; omega) r a2 c2 w1 (HSS.out.2.below S1.out.b) HNN.out.2.2.2
    rw [← HLR.out.1, ← HE.out] at h
    refine h.mono ?_
    clear h q0 q1 q2 q3
    rintro en w2 ⟨rfl, b2⟩
    have S2 := Lib.hid (S1.out.below b2)
    clear b2 S1
    by_cases hE0 : E = 0
    · subst hE0
      have hin : 0 ≤ I ∧ I < n := by
        have h := HE.out
        unfold inclE at h
        by_cases hc : I < 0 ∨ (n : Int) ≤ I
        · rw [if_pos hc] at h; cases h
        · omega
      obtain ⟨i, rfl⟩ : ∃ i : Nat, I = i := ⟨I.toNat, by omega⟩
      have hi : i < L.length := by have := HNN.out; omega
      obtain ⟨s, hs⟩ : ∃ s, L[i]? = some s := ⟨_, List.getElem?_eq_getElem hi⟩
      have HI := Lib.hid (show _ ∧ _ from ⟨hi, hs⟩)
      have HW2 : Hid (wv = if (i : Int) < fl then 3 else if s = text then 1 else 2) := Lib.hid (by
        rw [HWV.out, if_neg (by simp), if_neg (by simp), Int.toNat_natCast, hs]
        simp only [Option.some.injEq])
      clear HWV
      clear hin hi hs
      have d0 : w2.cell? ⟨w.heap.size, 0, none⟩ = some (.slice a ln c) := S2.out.d.cell 0
      have d1 : w2.cell? ⟨w.heap.size, 1, none⟩ = some (.int .i64 fl) := S2.out.d.cell 1
      have q1 : w2.cell? ⟨w.heap.size + 1, 1, none⟩ = some (.int .i64 i) := S2.out.p.cell 1
      go_wp2_with fail
      by_cases hl : (i : Int) < fl
      · obtain rfl : wv = 3 := by rw [HW2.out, if_pos hl]
        clear HW2
        refine (rat_low (a := a) (n := ln) (c := c) fl i (by omega) (by have := HI.out.1; have := HLR.out.2; omega) hl w2).mono ?_
        clear hl d0 d1 q1
        rintro en w3 ⟨rfl, b3⟩
        have S3 := Lib.hid (S2.out.b.trans (b3.mono S2.out.b.size))
        clear b3 S2
        go_wp2_with fail
        go_ret
        exact ⟨rfl, S3.out⟩
      · rw [if_neg hl] at HW2
        have h := rat_ok (a := a) (c := c) (L := L) fl i s HI.out.2 hl w2 ⟨HSS.out.1.1.below S2.out.b (fun _ e => HSS.out.1.1.lt e), HSS.out.1.2⟩
        rw [← HLR.out.2] at h
        refine h.mono ?_
        clear h hl d0 d1 q1
        rintro en w3 ⟨rfl, b3⟩
        have S3 := Lib.hid (S2.out.b.trans (b3.mono S2.out.b.size))
        clear b3 S2
        by_cases hst : s = text
        · subst hst
          have hss : (s.toList == s.toList) = true := by simp
          obtain rfl : wv = 1 := by rw [HW2.out, if_pos rfl]
          clear HW2
          go_wp2_with fail
          go_ret
          exact ⟨rfl, S3.out⟩
        · have hss : (s.toList == text.toList) = false := by
            rw [ByteArray.toList_eq, ByteArray.toList_eq]
            simpa using fun e => hst (ByteArray.ext (Array.toList_inj.1 e))
          obtain rfl : wv = 2 := by rw [HW2.out, if_neg hst]
          clear hst HW2
          go_wp2_with fail
          go_ret
          exact ⟨rfl, S3.out⟩
    · obtain rfl : wv = 0 := by rw [HWV.out, if_neg (by simp), if_pos hE0]
      clear HWV
      have hE1 : (E != 0) = true := by simpa using hE0
      have hE2 : (E == 0) = false := by simpa using hE0
      clear hE0
      go_wp2_with fail
      go_ret
      exact ⟨rfl, S2.out.b⟩
  · obtain rfl : wv = 0 := by rw [HWV.out, if_pos hK]
    clear HWV
    have hK1 : (K != 1) = true := by simpa using hK
    have hK2 : (K == 1) = false := by simpa using hK
    clear hK
    go_wp2_with fail
    go_ret
    exact ⟨rfl, S1.out.b⟩
end Go.Proofs.YtdoadmkaoboncaaGreatDoor.prf
end

section
/- the document's Prefix of layer 25: the verdict on a head's proof. -/
namespace Go.Proofs.YtdoadmkaoboncaaGreatDoor.prf
open Go Go.RowKit Go.Proofs.YtdoadmkaoboncaaGreatDoor.dig

/-- The verdict on a head's proof. -/
def wantP (L : List ByteArray) (fl : Nat) (m : Int) (old : List UInt8) (K I N : Int) (r : List (List UInt8)) : Int :=
  if N < 0 ∨ N > L.length ∨ N < fl then 0 else if K ≠ 2 then 0 else if I ≠ m then 0 else if consE m old N (rtAll (leafF L) N.toNat) r ≠ 0 then 0
  else if m < fl then 3 else if old = rtAll (leafF L) m.toNat then 1 else if 0 < fl then 3 else 2

set_option maxRecDepth 100000 in
set_option maxHeartbeats 4000000 in
theorem rprefA_bad (v : Value) (fl : Nat) (m K I N : Int) (old : ByteArray) (sv : Value) (E : Int) (hE : E ≠ 0) (w : World)
    (hc : ∀ V, Below w.heap.size w V → Calls Tryz.prog 30 #[dvC v fl, .int .i64 N] V fun en w' => en = .returned (.tuple #[.string ⟨#[]⟩, .int .i64 E]) ∧ Below V.heap.size V w') :
    Calls Tryz.prog 14 #[dvC v fl, .int .i64 m, .string old, .agg (prC K I N sv)] w fun en w' => en = .returned (.int .i64 0) ∧ Below w.heap.size w w' := by
  have HC := Lib.hid hc
  have hE1 : (E != 0) = true := by simpa using hE
  have hE2 : (E == 0) = false := by simpa using hE
  unfold dvC
  clear hc hE
  go_enter Tryz.func14, Tryz.ntmps14
  go_wp2_with fail
  refine callsName (fun W hW => ?_)
  have B0 : Hid (Below w.heap.size w W) := by rw [← hW]; exact Lib.hid (((Below.refl _ _).alloc (Nat.le_refl _) _).alloc (by simp) _)
  clear hW
  refine (HC.out W B0.out).mono ?_
  rintro en w1 ⟨rfl, b1⟩
  have S1 := Lib.hid (B0.out.trans (b1.mono B0.out.size))
  clear b1 B0 HC
  go_wp2_with fail
  go_ret
  exact ⟨rfl, S1.out⟩

set_option maxRecDepth 100000 in
set_option maxHeartbeats 4000000 in
theorem rprefA_calls {a a2 : Option Addr} {c c2 : Nat} (L : List ByteArray) (hLL : L.length ≤ 1000000) (fl : Nat) (m : Int) {old : List UInt8} (ho : old.length = 32) (K I N : Int) (r : List (List UInt8)) (w : World) (hS : Strs w (.slice a L.length c) L) (hT : Tst w (.slice a2 r.length c2) r) :
    Calls Tryz.prog 14 #[dvC (.slice a L.length c) fl, .int .i64 m, .string (bs old), .agg (prC K I N (.slice a2 r.length c2))] w fun en w' => en = .returned (.int .i64 (wantP L fl m old K I N r)) ∧ Below w.heap.size w w' := by
  unfold wantP
  by_cases h1 : N < 0 ∨ N > L.length
  · rw [if_pos (by omega)]
    exact rprefA_bad _ fl m K I N (bs old) _ 6 (by decide) w (fun V _ => rhead_range fl N h1 V)
  by_cases h2 : N < fl
  · rw [if_pos (by omega)]
    exact rprefA_bad _ fl m K I N (bs old) _ 14 (by decide) w (fun V _ => rhead_low fl N (by omega) (by omega) h2 V)
  rw [if_neg (by omega)]
  obtain ⟨n, rfl⟩ : ∃ n : Nat, N = n := ⟨N.toNat, by omega⟩
  rw [Int.toNat_natCast]
  have hn : n ≤ L.length := by omega
  have hnf : ¬ (n : Int) < (fl : Int) := h2
  obtain ⟨R, hR⟩ : ∃ R, R = rtAll (leafF L) n := ⟨_, rfl⟩
  rw [← hR]
  obtain ⟨E, hE⟩ : ∃ E, E = consE m old n R r := ⟨_, rfl⟩
  rw [← hE]
  obtain ⟨wv, hwv⟩ : ∃ k, k = (if K ≠ 2 then (0 : Int) else if I ≠ m then 0 else if E ≠ 0 then 0 else if m < fl then 3 else if old = rtAll (leafF L) m.toNat then 1 else if 0 < fl then 3 else 2) := ⟨_, rfl⟩
  rw [← hwv]
  have HWV := Lib.hid hwv
  clear hwv
  have HNN := Lib.hid (show _ ∧ _ ∧ _ ∧ _ from ⟨hLL, hn, hnf, ho⟩)
  have HR := Lib.hid hR
  have HE := Lib.hid hE
  have HSS := Lib.hid (show _ ∧ _ from ⟨hS, hT⟩)
  obtain ⟨lr, hlr⟩ : ∃ lr, lr = r.length := ⟨_, rfl⟩
  obtain ⟨ln, hln⟩ : ∃ ln, ln = L.length := ⟨_, rfl⟩
  have HLR := Lib.hid (show _ ∧ _ from ⟨hlr, hln⟩)
  rw [← hlr, ← hln]
  have p2 : ∀ A, ((w.alloc A).alloc (.cells (prC K I n (.slice a2 lr c2)) 36)).cell? ⟨w.heap.size + 1, 2, none⟩ = some (.int .i64 n) := fun A => (made_at _ _ (by simp)).cell 2
  have HX : Hid (∀ (j : Nat) V, Below w.heap.size w V → j ≤ L.length → ¬ (j : Int) < fl → Calls Tryz.prog 30 #[dvC (.slice a ln c) fl, .int .i64 j] V fun en w' => en = .returned (.tuple #[.string (bs (rtAll (leafF L) j)), .int .i64 0]) ∧ Below V.heap.size V w') := Lib.hid fun j V hV h1 h2 => by
    have h := rheadv_ok (a := a) (c := c) fl j h1 h2 HNN.out.1 V ⟨HSS.out.1.1.below hV (fun _ e => HSS.out.1.1.lt e), HSS.out.1.2⟩
    rw [← HLR.out.2] at h
    exact h
  unfold dvC
  clear h1 h2 hn hnf hR hE hS hT hlr hln hLL ho
  go_enter Tryz.func14, Tryz.ntmps14
  go_wp2_with fail
  refine callsName (fun W hW => ?_)
  have B0 : Hid (RvS w (.slice a ln c) fl (prC K I n (.slice a2 lr c2)) W) := by
    rw [← hW]
    exact Lib.hid ⟨((Below.refl _ _).alloc (Nat.le_refl _) _).alloc (by simp) _, (made_at _ _ rfl).alloc _, made_at _ _ (by simp)⟩
  clear hW p2
  refine (HX.out n W B0.out.b HNN.out.2.1 (by have := HNN.out; omega)).mono ?_
  rw [← HR.out]
  rintro en w1 ⟨rfl, b1⟩
  have S1 := Lib.hid (B0.out.below b1)
  clear b1 B0
  have q0 : w1.cell? ⟨w.heap.size + 1, 0, none⟩ = some (.int .i64 K) := S1.out.p.cell 0
  have q1 : w1.cell? ⟨w.heap.size + 1, 1, none⟩ = some (.int .i64 I) := S1.out.p.cell 1
  have q2 : w1.cell? ⟨w.heap.size + 1, 2, none⟩ = some (.int .i64 n) := S1.out.p.cell 2
  have q3 : w1.cell? ⟨w.heap.size + 1, 3, none⟩ = some (.slice a2 lr c2) := S1.out.p.cell 3
  by_cases hK : K = 2
  · subst hK
    by_cases hI : I = m
    · subst hI
      have hmm : (I != I) = false := by simp
      have hmm2 : (I == I) = true := by simp
      go_wp2_with fail
      have h := rcons_calls HNN.out.2.2.2 I n R (by have := HNN.out; omega) r a2 c2 w1 (HSS.out.2.below S1.out.b)
      rw [← HLR.out.1, ← HE.out] at h
      refine h.mono ?_
      clear h q0 q1 q2 q3 hmm hmm2
      rintro en w2 ⟨rfl, b2⟩
      have S2 := Lib.hid (S1.out.below b2)
      clear b2 S1
      by_cases hE0 : E = 0
      · subst hE0
        have hin : 0 ≤ I ∧ I ≤ n := by
          have h := HE.out
          unfold consE at h
          by_cases hc : I < 0 ∨ (n : Int) < I
          · rw [if_pos hc] at h; cases h
          · omega
        obtain ⟨j, rfl⟩ : ∃ j : Nat, I = j := ⟨I.toNat, by omega⟩
        have HW2 : Hid (wv = if (j : Int) < fl then 3 else if old = rtAll (leafF L) j then 1 else if 0 < fl then 3 else 2) := Lib.hid (by
          rw [HWV.out, if_neg (by simp), if_neg (by simp), if_neg (by simp), Int.toNat_natCast])
        clear HWV
        have HJ := Lib.hid (show _ ∧ _ from hin)
        clear hin
        have d0 : w2.cell? ⟨w.heap.size, 0, none⟩ = some (.slice a ln c) := S2.out.d.cell 0
        have d1 : w2.cell? ⟨w.heap.size, 1, none⟩ = some (.int .i64 fl) := S2.out.d.cell 1
        go_wp2_with fail
        by_cases hl : (j : Int) < fl
        · obtain rfl : wv = 3 := by rw [HW2.out, if_pos hl]
          clear HW2
          refine (rhead_low (a := a) (n := ln) (c := c) fl j (by omega) (by have := HJ.out; have := HNN.out; have := HLR.out.2; omega) hl w2).mono ?_
          clear hl d0 d1
          rintro en w3 ⟨rfl, b3⟩
          have S3 := Lib.hid (S2.out.b.trans (b3.mono S2.out.b.size))
          clear b3 S2
          go_wp2_with fail
          go_ret
          exact ⟨rfl, S3.out⟩
        · rw [if_neg hl] at HW2
          refine (HX.out j w2 S2.out.b (by have := HJ.out; have := HNN.out; omega) (by omega)).mono ?_
          obtain ⟨Q, hQ⟩ : ∃ Q, Q = rtAll (leafF L) j := ⟨_, rfl⟩
          rw [← hQ] at HW2 ⊢
          clear hl d0 d1 hQ
          rintro en w3 ⟨rfl, b3⟩
          have S3 := Lib.hid (S2.out.below b3)
          clear b3 S2
          by_cases hst : old = Q
          · subst hst
            have hss : ((bs old).toList == (bs old).toList) = true := by simp
            obtain rfl : wv = 1 := by rw [HW2.out, if_pos rfl]
            clear HW2
            go_wp2_with fail
            go_ret
            exact ⟨rfl, S3.out.b⟩
          · have hss : ((bs Q).toList == (bs old).toList) = false := by
              rw [txt_beq]
              simpa using fun e => hst e.symm
            rw [if_neg hst] at HW2
            have d1 : w3.cell? ⟨w.heap.size, 1, none⟩ = some (.int .i64 fl) := S3.out.d.cell 1
            by_cases hf : 0 < fl
            · have hf1 : (fl : Int) > 0 := by omega
              obtain rfl : wv = 3 := by rw [HW2.out, if_pos hf]
              clear HW2
              clear hst hf
              go_wp2_with fail
              go_ret
              exact ⟨rfl, S3.out.b⟩
            · obtain rfl : fl = 0 := by omega
              obtain rfl : wv = 2 := by rw [HW2.out, if_neg hf]
              clear HW2
              clear hst hf
              go_wp2_with fail
              go_ret
              exact ⟨rfl, S3.out.b⟩
      · obtain rfl : wv = 0 := by rw [HWV.out, if_neg (by simp), if_neg (by simp), if_pos hE0]
        clear HWV
        have hE1 : (E != 0) = true := by simpa using hE0
        have hE2 : (E == 0) = false := by simpa using hE0
        clear hE0
        go_wp2_with fail
        go_ret
        exact ⟨rfl, S2.out.b⟩
    · obtain rfl : wv = 0 := by rw [HWV.out, if_neg (by simp), if_pos hI]
      clear HWV
      have hI1 : (I != m) = true := by simpa using hI
      have hI2 : (I == m) = false := by simpa using hI
      clear hI
      go_wp2_with fail
      go_ret
      exact ⟨rfl, S1.out.b⟩
  · obtain rfl : wv = 0 := by rw [HWV.out, if_pos hK]
    clear HWV
    have hK1 : (K != 2) = true := by simpa using hK
    have hK2 : (K == 2) = false := by simpa using hK
    clear hK
    go_wp2_with fail
    go_ret
    exact ⟨rfl, S1.out.b⟩
end Go.Proofs.YtdoadmkaoboncaaGreatDoor.prf
end

section
/- audit: the verdicts, of any proof: as the document's. -/
namespace Go.Proofs.YtdoadmkaoboncaaGreatDoor.aud
open Go Go.RowKit Go.Proofs.YtdoadmkaoboncaaGreatDoor.dig Go.Proofs.YtdoadmkaoboncaaGreatDoor.prf Go.Proofs.YtdoadmkaoboncaaGreatDoor.prn Go.Proofs.YtdoadmkaoboncaaGreatDoor.clash

/-- A verdict: two texts of one sum beside 2, and nothing beside any other. -/
def Fits (k : Int) (x y : ByteArray) : Prop := (k = 2 ∧ clashB x y = true ∧ x.size < 1000000000 ∧ y.size < 1000000000) ∨ ((k = 0 ∨ k = 1 ∨ k = 3) ∧ x = ⟨#[]⟩ ∧ y = ⟨#[]⟩)
def VerdPost (w : World) (k : Int) (en : Ending) (w' : World) : Prop := ∃ x y, en = .returned (.agg (verC k x y)) ∧ Fits k x y ∧ Below w.heap.size w w'

theorem fits_is {k : Int} {x y : ByteArray} (h : Fits k x y) (w : World) (hR : Rk w) : Calls Tryz.prog 10 #[.agg (verC k x y), .int .i64 k] w fun en w' => en = .returned (.bool true) ∧ Below w.heap.size w w' := by
  rcases h with ⟨rfl, h1, h2, h3⟩ | ⟨h, rfl, rfl⟩
  · exact is_calls2 x y h1 h2 h3 w hR
  · exact is_calls0 k h w hR

section
variable {B : Nat} {F : Nat → Prop} {w : World} {vb fl : Nat} {L : List ByteArray}

theorem verd_plain {k : Int} (hk : k = 0 ∨ k = 1 ∨ k = 3) {en : Ending} {w' : World} (h : en = .returned (.agg (verC k ⟨#[]⟩ ⟨#[]⟩)) ∧ Below w.heap.size w w') : VerdPost w k en w' := ⟨_, _, h.1, .inr ⟨hk, rfl, rfl⟩, h.2⟩

theorem aleaf_all (h : Va B F w vb L fl) (hN : L.length < 1024) (hLs : ∀ s ∈ L, s.size ≤ 1000000) (text : ByteArray) (hts : text.size ≤ 100000000) (K I N : Int) (r : List (List UInt8)) (a : Option Addr) (c : Nat) (hS : SmS w (.slice a r.length c) r) :
    Calls Tryz.prog 11 #[.pointer (some ⟨vb, 0, none⟩), .string text, .agg (prC K I N (.slice a r.length c))] w (VerdPost w (wantL L fl text K I N r)) := by
  unfold wantL
  by_cases h1 : N < 0 ∨ N > L.length
  · rw [if_pos (by omega)]
    exact (aleaf_nohead h text K I N _ 6 (.inl ⟨rfl, h1⟩)).mono fun _ _ => verd_plain (.inl rfl)
  by_cases h2 : N < fl
  · rw [if_pos (by omega)]
    exact (aleaf_nohead h text K I N _ 14 (.inr ⟨rfl, by omega, by omega, h2⟩)).mono fun _ _ => verd_plain (.inl rfl)
  rw [if_neg (by omega)]
  obtain ⟨n, rfl⟩ : ∃ n : Nat, N = n := ⟨N.toNat, by omega⟩
  rw [Int.toNat_natCast]
  have hn : n ≤ L.length := by omega
  have hnf : fl ≤ n := by omega
  by_cases hK : K = 1
  · subst hK
    rw [if_neg (by omega)]
    by_cases hE : inclE text.data.toList I n (rtAll (leafF L) n) r = 0
    · rw [if_neg (by omega)]
      have hin : 0 ≤ I ∧ I < n := by
        have h := hE
        unfold inclE at h
        by_cases hc : I < 0 ∨ (n : Int) ≤ I
        · rw [if_pos hc] at h; cases h
        · omega
      obtain ⟨i, rfl⟩ : ∃ i : Nat, I = i := ⟨I.toNat, by omega⟩
      rw [Int.toNat_natCast]
      by_cases hl : (i : Int) < fl
      · rw [if_pos hl]
        exact (aleaf_ok h hN text (by omega) 1 i n hnf hn r a c hS.weak 0 3 (by rw [if_pos rfl]; exact hE.symm) (.inr ⟨rfl, i, rfl, .inl ⟨by omega, rfl⟩⟩)).mono fun _ _ => verd_plain (.inr (.inr rfl))
      · rw [if_neg hl]
        obtain ⟨s, hs⟩ : ∃ s, L[i]? = some s := ⟨_, List.getElem?_eq_getElem (by omega)⟩
        by_cases hst : s = text
        · subst hst
          rw [if_pos hs]
          exact (aleaf_ok h hN s (by omega) 1 i n hnf hn r a c hS.weak 0 1 (by rw [if_pos rfl]; exact hE.symm) (.inr ⟨rfl, i, rfl, .inr ⟨by omega, hs, rfl⟩⟩)).mono fun _ _ => verd_plain (.inr (.inl rfl))
        · rw [if_neg (by rw [hs]; simpa using hst)]
          have hss := hLs s (List.mem_of_getElem? hs)
          refine (aleaf_bad h hN text s (by omega) (by omega) i n (by omega) hn (by omega) hs hst r a c hS hE).mono ?_
          rintro en w' ⟨x, y, rfl, h1, h2, h3, b⟩
          exact ⟨x, y, rfl, .inl ⟨rfl, h1, h2, h3⟩, b⟩
    · rw [if_pos hE]
      exact (aleaf_ok h hN text (by omega) 1 I n hnf hn r a c hS.weak _ 0 (by rw [if_pos rfl]) (.inl ⟨hE, rfl⟩)).mono fun _ _ => verd_plain (.inl rfl)
  · rw [if_pos hK]
    exact (aleaf_ok h hN text (by omega) K I n hnf hn r a c hS.weak 1 0 (by rw [if_neg hK]) (.inl ⟨by omega, rfl⟩)).mono fun _ _ => verd_plain (.inl rfl)

theorem aprefix_all (h : Va B F w vb L fl) (hN : L.length < 1024) (hLs : ∀ s ∈ L, s.size ≤ 1000000) (m : Int) {old : List UInt8} (ho : old.length = 32) (K I N : Int) (r : List (List UInt8)) (a : Option Addr) (c : Nat) (hS : SmS w (.slice a r.length c) r) :
    Calls Tryz.prog 13 #[.pointer (some ⟨vb, 0, none⟩), .agg (headC m old), .agg (prC K I N (.slice a r.length c))] w (VerdPost w (wantP L fl m old K I N r)) := by
  unfold wantP
  by_cases h1 : N < 0 ∨ N > L.length
  · rw [if_pos (by omega)]
    exact (aprefix_nohead h m ho K I N _ 6 (.inl ⟨rfl, h1⟩)).mono fun _ _ => verd_plain (.inl rfl)
  by_cases h2 : N < fl
  · rw [if_pos (by omega)]
    exact (aprefix_nohead h m ho K I N _ 14 (.inr ⟨rfl, by omega, by omega, h2⟩)).mono fun _ _ => verd_plain (.inl rfl)
  rw [if_neg (by omega)]
  obtain ⟨n, rfl⟩ : ∃ n : Nat, N = n := ⟨N.toNat, by omega⟩
  rw [Int.toNat_natCast]
  have hn : n ≤ L.length := by omega
  have hnf : fl ≤ n := by omega
  by_cases hK : K = 2
  · subst hK
    rw [if_neg (by omega)]
    by_cases hI : I = m
    · subst hI
      rw [if_neg (by omega)]
      by_cases hE : consE I old n (rtAll (leafF L) n) r = 0
      · rw [if_neg (by omega)]
        have hp : 0 = provE 2 I I old n (rtAll (leafF L) n) r := by unfold provE; rw [if_pos rfl, if_pos rfl]; exact hE.symm
        have hin : 0 ≤ I ∧ I ≤ n := by
          have h := hE
          unfold consE at h
          by_cases hc : I < 0 ∨ (n : Int) < I
          · rw [if_pos hc] at h; cases h
          · omega
        obtain ⟨j, rfl⟩ : ∃ j : Nat, I = j := ⟨I.toNat, by omega⟩
        rw [Int.toNat_natCast]
        by_cases hl : (j : Int) < fl
        · rw [if_pos hl]
          exact (aprefix_ok h hN j ho 2 j n hnf hn r a c hS.weak 0 3 hp (.inr ⟨rfl, j, rfl, by omega, .inl ⟨by omega, rfl⟩⟩)).mono fun _ _ => verd_plain (.inr (.inr rfl))
        · rw [if_neg hl]
          by_cases hq : old = rtAll (leafF L) j
          · rw [if_pos hq]
            exact (aprefix_ok h hN j ho 2 j n hnf hn r a c hS.weak 0 1 hp (.inr ⟨rfl, j, rfl, by omega, .inr ⟨by omega, hq, rfl⟩⟩)).mono fun _ _ => verd_plain (.inr (.inl rfl))
          · rw [if_neg hq]
            refine (aprefix_other h hN hLs ho j n (by omega) hn r a c hS hE hq).mono ?_
            rintro en w' (⟨h0, rfl, b⟩ | ⟨h0, x, y, rfl, h1, h2, h3, b⟩)
            · rw [if_pos h0]
              exact ⟨_, _, rfl, .inr ⟨.inr (.inr rfl), rfl, rfl⟩, b⟩
            · rw [if_neg (by omega)]
              exact ⟨x, y, rfl, .inl ⟨rfl, h1, h2, h3⟩, b⟩
      · rw [if_pos hE]
        exact (aprefix_ok h hN I ho 2 I n hnf hn r a c hS.weak _ 0 rfl (.inl ⟨by unfold provE; rw [if_pos rfl, if_pos rfl]; exact hE, rfl⟩)).mono fun _ _ => verd_plain (.inl rfl)
    · rw [if_pos hI]
      exact (aprefix_ok h hN m ho 2 I n hnf hn r a c hS.weak _ 0 rfl (.inl ⟨by unfold provE; rw [if_pos rfl, if_neg hI]; decide, rfl⟩)).mono fun _ _ => verd_plain (.inl rfl)
  · rw [if_pos hK]
    exact (aprefix_ok h hN m ho K I n hnf hn r a c hS.weak _ 0 rfl (.inl ⟨by unfold provE; rw [if_neg hK]; decide, rfl⟩)).mono fun _ _ => verd_plain (.inl rfl)
end
end Go.Proofs.YtdoadmkaoboncaaGreatDoor.aud
end

section
/- A slice of structs that is handed in: what stands in the cells of its elements. Of no program. -/
namespace Go.Proofs.YtdoadmkaoboncaaGreatDoor
open Go.ChangeShapes Go.WideShapes Go.ChangeAt Go.RowKit

theorem opened_rows {H : Type} {enc : TypeId × Value → H} {P : Program} {w : World} {spare : Nat → Bool} {held : Bool} {t e : TypeId} {fs : Array Field}
    (ht : P.underlying t = some (.slice e)) (he : P.underlying e = some (.struct fs)) (hone : Go.Deep.oneCellFields P fs = true) (hC : P.cellsOf e = fs.size) (h0 : 0 < fs.size)
    {a : Option Addr} {len cap : Nat} {d : DataW H} {p : List MemPlace} (h : DataW.Trod enc P w 0 spare held t (.slice a len cap) d p) :
    len ≤ cap ∧ cap ≤ maxLen ∧ ∀ i, i < len → ∃ b o, a = some ⟨b, o, none⟩ ∧ b < w.heap.size ∧
      ∀ (j : Nat) (f : Field), fs[j]? = some f → ∃ (v : Value) (n : Nat) (y : DataW H × List MemPlace), w.cell? ⟨b, o + i * fs.size + j, none⟩ = some v ∧ DataW.trod enc P w 0 spare held n f.type [v] = some y := by
  obtain ⟨fuel, h⟩ := h
  rcases Go.Deep.open_slice ht h with ⟨hn, _⟩ | ⟨g, l, c, m, n, D, Pl, hn, _, hlc, hcm, hm, _, hall⟩
  · simp [Value.cells] at hn
    obtain ⟨rfl, rfl, rfl⟩ := hn
    exact ⟨Nat.le_refl _, Nat.zero_le _, fun i hi => absurd hi (Nat.not_lt_zero _)⟩
  · simp [Value.cells] at hn
    obtain ⟨rfl, rfl, rfl⟩ := hn
    refine ⟨hlc, hcm, fun i hi => ?_⟩
    obtain ⟨cs, hc, hd⟩ := hall i (by rw [hm]; split <;> omega)
    rw [hC] at hc
    obtain ⟨_, hcl, hat⟩ := World.cells?_some hc
    obtain ⟨ys, k, _, _, hlen, hyl, hf⟩ := DataW.trod_struct he hd
    obtain ⟨gb, go, gs⟩ := g
    have hcell : ∀ j, j < fs.size → ∃ v, cs[j]? = some v ∧ w.cell? (((⟨gb, go, gs⟩ : Addr).add (i * fs.size)).add j) = some v := fun j hj => by
      have hv : cs[j]? = some (cs[j]'(by omega)) := List.getElem?_eq_getElem (by omega)
      exact ⟨_, hv, by rw [hat j hj, hv]⟩
    have hs : gs = none := by
      obtain ⟨cs0, hc0, _⟩ := hall 0 (by rw [hm]; split <;> omega)
      rw [hC, Nat.zero_mul] at hc0
      obtain ⟨_, hcl0, hat0⟩ := World.cells?_some hc0
      have hv : cs0[0]? = some (cs0[0]'(by omega)) := List.getElem?_eq_getElem (by omega)
      have h1 := World.cell?_spot ((hat0 0 h0).trans hv)
      simpa [Addr.add] using h1
    subst hs
    have hb : gb < w.heap.size := by
      obtain ⟨v, _, hv⟩ := hcell 0 h0
      rw [Addr.add_mid, Addr.add_mid] at hv
      rcases Nat.lt_or_ge gb w.heap.size with k | k
      · exact k
      · unfold World.cell? at hv
        simp [Array.getElem?_eq_none k] at hv
    refine ⟨gb, go, rfl, hb, fun j f hj => ?_⟩
    have hjl : j < fs.size := (Array.getElem?_eq_some_iff.1 hj).1
    obtain ⟨v, hv, hw⟩ := hcell j hjl
    rw [Addr.add_mid, Addr.add_mid] at hw
    obtain ⟨ho, hk⟩ := Go.Deep.hone_of hone j f hj
    have h1 := hf j f hj
    rw [ho, hk] at h1
    have hjc : j < cs.length := by omega
    have e1 : (cs.drop j).take 1 = [v] := by
      rw [List.drop_eq_getElem_cons hjc]
      have : cs[j] = v := by rw [List.getElem?_eq_getElem hjc] at hv; injection hv
      rw [this]; rfl
    rw [e1] at h1
    have hys : ys[j]? = some (ys[j]'(by omega)) := List.getElem?_eq_getElem (by omega)
    exact ⟨v, _, _, hw, h1.trans hys⟩

/-- A struct that is handed in by value: what stands in its fields (any number of one-cell fields). -/
theorem opened_agg {H : Type} {enc : TypeId × Value → H} {P : Program} {w W : World} {spare : Nat → Bool} {held : Bool} {r : Reach} {b0 : Nat} {e : TypeId} {fs : Array Field}
    (he : P.underlying e = some (.struct fs)) (hone : Go.Deep.oneCellFields P fs = true) (hC : P.cellsOf e = fs.size)
    {v : Value} {d : DataW H} {p : List MemPlace} (hw : Value.okWide P W r b0 e v) (h : DataW.Trod enc P w 0 spare held e v d p) :
    ∃ cs : Array Value, v = .agg cs ∧ cs.size = fs.size ∧ ∀ (j : Nat) (f : Field), fs[j]? = some f → ∃ (u : Value) (n : Nat) (y : DataW H × List MemPlace), cs[j]? = some u ∧ DataW.trod enc P w 0 spare held n f.type [u] = some y := by
  obtain ⟨cs, rfl, hz⟩ := okWide_struct he hw
  obtain ⟨fuel, h⟩ := h
  rw [hC] at hz
  refine ⟨cs, rfl, hz, fun j f hj => ?_⟩
  obtain ⟨ys, k, _, _, hlen, hyl, hf⟩ := DataW.trod_struct he h
  have hjl : j < fs.size := (Array.getElem?_eq_some_iff.1 hj).1
  obtain ⟨ho, hk⟩ := Go.Deep.hone_of hone j f hj
  have h1 := hf j f hj
  rw [ho, hk] at h1
  have hjc : j < cs.toList.length := by simp; omega
  have hv : cs[j]? = some (cs.toList[j]'hjc) := by simp [hz ▸ hjl]
  have e1 : ((Value.agg cs).cells.toList.drop j).take 1 = [cs.toList[j]'hjc] := by
    show (cs.toList.drop j).take 1 = _
    rw [List.drop_eq_getElem_cons hjc]
    rfl
  rw [e1] at h1
  have hys : ys[j]? = some (ys[j]'(by omega)) := List.getElem?_eq_getElem (by omega)
  exact ⟨_, _, _, hv, h1.trans hys⟩

end Go.Proofs.YtdoadmkaoboncaaGreatDoor
end

section
/- proof: a proof that is handed in: its numbers, its sums. -/
namespace Go.Proofs.YtdoadmkaoboncaaGreatDoor.prf
open Go Go.ChangeShapes Go.WideShapes Go.ChangeAt Go.RowKit Go.Proofs.YtdoadmkaoboncaaGreatDoor.dig

theorem wf_u8 {y : Int} (h : (Lit.int .u8 y).wf = true) : 0 ≤ y ∧ y ≤ 255 := by
  have m0 : IntKind.u8.min = 0 := by decide
  have m1 : IntKind.u8.max = 255 := by decide
  have h' : (decide (IntKind.u8.min ≤ y) && decide (y ≤ IntKind.u8.max)) = true := h
  rw [m0, m1] at h'
  simpa using h'

/-- The elements of a slice that is handed in, as cells that read. -/
theorem opened_raw {H : Type} {enc : TypeId × Value → H} {P : Program} {w : World} {spare : Nat → Bool} {held : Bool} {t e : TypeId} {n0 fuel : Nat}
    (ht : P.underlying t = some (.slice e)) (hC : P.cellsOf e = n0) (h0 : 0 < n0) {u : Value} {y : DataW H × List MemPlace} (h : DataW.trod enc P w 0 spare held fuel t [u] = some y) :
    ∃ a len cap, u = .slice a len cap ∧ len ≤ cap ∧ cap ≤ maxLen ∧ ∀ i, i < len → ∃ b o, a = some ⟨b, o, none⟩ ∧ b < w.heap.size ∧ ∃ (cs : List Value) (n : Nat) (y : DataW H × List MemPlace), cs.length = n0 ∧ DataW.trod enc P w 0 spare held n e cs = some y ∧
      ∀ j v, cs[j]? = some v → w.cell? ⟨b, o + i * n0 + j, none⟩ = some v := by
  rcases Go.Deep.open_slice ht h with ⟨hn, _⟩ | ⟨g, l, c, m, n, D, Pl, hn, _, hlc, hcm, hm, _, hall⟩
  · simp only [List.cons.injEq, and_true] at hn
    subst hn
    exact ⟨none, 0, 0, rfl, Nat.le_refl _, Nat.zero_le _, fun i hi => absurd hi (Nat.not_lt_zero _)⟩
  · simp only [List.cons.injEq, and_true] at hn
    subst hn
    refine ⟨some g, l, c, rfl, hlc, hcm, fun i hi => ?_⟩
    obtain ⟨cs, hc, hd⟩ := hall i (by rw [hm]; split <;> omega)
    rw [hC] at hc
    obtain ⟨_, hcl, hat⟩ := World.cells?_some hc
    obtain ⟨gb, go, gs⟩ := g
    have hcell : ∀ j, j < n0 → ∃ v, cs[j]? = some v ∧ w.cell? (((⟨gb, go, gs⟩ : Addr).add (i * n0)).add j) = some v := fun j hj => by
      have hv : cs[j]? = some (cs[j]'(by omega)) := List.getElem?_eq_getElem (by omega)
      exact ⟨_, hv, by rw [hat j hj, hv]⟩
    have hs : gs = none := by
      obtain ⟨cs0, hc0, _⟩ := hall 0 (by rw [hm]; split <;> omega)
      rw [hC, Nat.zero_mul] at hc0
      obtain ⟨_, hcl0, hat0⟩ := World.cells?_some hc0
      have hv : cs0[0]? = some (cs0[0]'(by omega)) := List.getElem?_eq_getElem (by omega)
      have h1 := World.cell?_spot ((hat0 0 h0).trans hv)
      simpa [Addr.add] using h1
    subst hs
    have hb : gb < w.heap.size := by
      obtain ⟨v, _, hv⟩ := hcell 0 h0
      rw [Addr.add_mid, Addr.add_mid] at hv
      rcases Nat.lt_or_ge gb w.heap.size with k | k
      · exact k
      · unfold World.cell? at hv
        simp [Array.getElem?_eq_none k] at hv
    refine ⟨gb, go, rfl, hb, cs, _, _, hcl, hd, fun j v hj => ?_⟩
    have hjl : j < cs.length := (List.getElem?_eq_some_iff.1 hj).1
    obtain ⟨v', hv', hw⟩ := hcell j (by omega)
    rw [hj] at hv'
    injection hv' with hv'
    subst hv'
    rw [Addr.add_mid, Addr.add_mid] at hw
    exact hw

theorem bytes_of {H : Type} {enc : TypeId × Value → H} {w : World} {spare : Nat → Bool} {held : Bool} {n : Nat} {cs : List Value} {y : DataW H × List MemPlace} (hl : cs.length = 32) (h : DataW.trod enc Tryz.prog w 0 spare held n 38 cs = some y) :
    ∃ x : List UInt8, x.length = 32 ∧ cs = x.map byteV := by
  obtain ⟨xs, m, _, _, _, hxl, he⟩ := DataW.trod_array Tryz.underlying38 h
  have hC : Tryz.prog.cellsOf 5 = 1 := by kernel_rfl
  have key : ∀ i, i < 32 → ∃ b : UInt8, cs[i]? = some (byteV b) := fun i hi => by
    have h1 := he i hi
    rw [hC, Nat.mul_one] at h1
    have e1 : (cs.drop i).take 1 = [cs[i]'(by omega)] := by rw [List.drop_eq_getElem_cons (by omega)]; rfl
    rw [e1, List.getElem?_eq_getElem (by omega)] at h1
    obtain ⟨k, e, _, hw⟩ := DataW.trod_int Tryz.underlying5 h1
    simp only [List.cons.injEq, and_true] at e
    have hb := wf_u8 hw
    refine ⟨UInt8.ofNat k.toNat, ?_⟩
    rw [List.getElem?_eq_getElem (by omega), e]
    have : ((UInt8.ofNat k.toNat).toNat : Int) = k := by
      rw [UInt8.toNat_ofNat']
      omega
    unfold byteV
    rw [this]
  refine ⟨(List.range 32).map (fun i => if h : i < 32 then Classical.choose (key i h) else 0), by simp, ?_⟩
  apply List.ext_getElem?
  intro i
  by_cases hi : i < 32
  · rw [List.map_map, List.getElem?_map, List.getElem?_range hi]
    simp only [Option.map_some, Function.comp, dif_pos hi]
    exact Classical.choose_spec (key i hi)
  · rw [List.getElem?_eq_none (by omega), List.getElem?_eq_none (by simp; omega)]

theorem sums_of {H : Type} {enc : TypeId × Value → H} {w : World} {spare : Nat → Bool} {held : Bool} {fuel : Nat} {u : Value} {y : DataW H × List MemPlace} (h : DataW.trod enc Tryz.prog w 0 spare held fuel 23 [u] = some y) :
    ∃ r, Sms w u r := by
  obtain ⟨a, len, cap, rfl, h1, h2, h3⟩ := opened_raw (n0 := 32) Tryz.underlying23 (by kernel_rfl) (by decide) h
  have key : ∀ i, i < len → ∃ x : List UInt8, x.length = 32 ∧ ∃ g off, a = some ⟨g, off, none⟩ ∧ g < w.heap.size ∧ w.rangeAt g (off + i * 32) (x.map byteV) := fun i hi => by
    obtain ⟨b, o, e, hb, cs, n, y, hl, hd, hc⟩ := h3 i hi
    obtain ⟨x, hx, rfl⟩ := bytes_of hl hd
    exact ⟨x, hx, b, o, e, hb, fun j v hj => hc j v hj⟩
  obtain ⟨f, hf⟩ : ∃ f : Nat → List UInt8, f = fun i => if h : i < len then Classical.choose (key i h) else [] := ⟨_, rfl⟩
  have hfs : ∀ i, i < len → (f i).length = 32 ∧ ∃ g off, a = some ⟨g, off, none⟩ ∧ g < w.heap.size ∧ w.rangeAt g (off + i * 32) ((f i).map byteV) := fun i hi => by
    rw [hf]
    simp only [dif_pos hi]
    exact Classical.choose_spec (key i hi)
  refine ⟨((List.range len).map f).reverse, ⟨a, cap, by simp, by simpa using h1, h2, fun j x hx => ?_⟩, fun x hx => ?_⟩
  · rw [List.reverse_reverse, List.getElem?_map] at hx
    have hj : j < len := by
      rcases Nat.lt_or_ge j len with k | k
      · exact k
      · rw [List.getElem?_eq_none (by simpa using k)] at hx; cases hx
    rw [List.getElem?_range hj] at hx
    obtain rfl : f j = x := by simpa using hx
    exact (hfs j hj).2
  · rw [List.mem_reverse, List.mem_map] at hx
    obtain ⟨i, hi, rfl⟩ := hx
    exact (hfs i (List.mem_range.1 hi)).1

/-- A proof that is handed in. -/
structure PrA where
  K : Int
  I : Int
  N : Int
  v : Value
  r : List (List UInt8)
def PrA.val (p : PrA) : Value := .agg #[.int .i64 p.K, .int .i64 p.I, .int .i64 p.N, p.v]

set_option maxRecDepth 100000 in
theorem opened_proof {H : Type} {enc : TypeId × Value → H} {w W : World} {spare : Nat → Bool} {held : Bool} {r : Reach} {b0 : Nat} {v : Value} {d : DataW H} {p : List MemPlace}
    (hw : Value.okWide Tryz.prog W r b0 25 v) (h : DataW.Trod enc Tryz.prog w 0 spare held 25 v d p) : ∃ q : PrA, Sms w q.v q.r ∧ v = q.val := by
  obtain ⟨cs, rfl, hz, hf⟩ := opened_agg Tryz.underlying25 (by kernel_rfl) (by kernel_rfl) hw h
  obtain ⟨u0, n0, y0, e0, t0⟩ := hf 0 _ rfl
  obtain ⟨u1, n1, y1, e1, t1⟩ := hf 1 _ rfl
  obtain ⟨u2, n2, y2, e2, t2⟩ := hf 2 _ rfl
  obtain ⟨u3, n3, y3, e3, t3⟩ := hf 3 _ rfl
  obtain ⟨k0, a0, _, _⟩ := DataW.trod_int Tryz.underlying3 (show DataW.trod enc Tryz.prog w 0 spare held _ 3 [u0] = _ from t0)
  obtain ⟨k1, a1, _, _⟩ := DataW.trod_int Tryz.underlying3 (show DataW.trod enc Tryz.prog w 0 spare held _ 3 [u1] = _ from t1)
  obtain ⟨k2, a2, _, _⟩ := DataW.trod_int Tryz.underlying3 (show DataW.trod enc Tryz.prog w 0 spare held _ 3 [u2] = _ from t2)
  obtain ⟨l, hs⟩ := sums_of (show DataW.trod enc Tryz.prog w 0 spare held _ 23 [u3] = _ from t3)
  simp only [List.cons.injEq, and_true] at a0 a1 a2
  subst a0; subst a1; subst a2
  refine ⟨⟨k0, k1, k2, u3, l⟩, hs, ?_⟩
  have hz4 : cs.size = 4 := hz
  unfold PrA.val
  congr 1
  apply Array.ext_getElem?
  intro i
  match i with
  | 0 => exact e0
  | 1 => exact e1
  | 2 => exact e2
  | 3 => exact e3
  | i + 4 => rw [Array.getElem?_eq_none (by omega), Array.getElem?_eq_none (by simp)]
end Go.Proofs.YtdoadmkaoboncaaGreatDoor.prf
end

section
/- Out of PrfU: pad, pad_len, pad_self, Zl, infoB1, lsum_calls, strInfo, Sq, Sq.below, SumsPost, lsums_calls. -/
namespace Go.Proofs.YtdoadmkaoboncaaGreatDoor.prf
open Go Go.RowKit Go.Proofs.YtdoadmkaoboncaaGreatDoor.dig

/-- Thirty-two bytes of a text: zeros behind it. -/
def pad (s : List UInt8) : List UInt8 := over (List.replicate 32 0) s
theorem pad_len (s : List UInt8) : (pad s).length = 32 := by rw [pad, over_length, List.length_replicate]
theorem pad_self {s : List UInt8} (h : s.length = 32) : pad s = s := by
  unfold pad over
  rw [List.length_replicate, List.take_of_length_le (by omega), List.drop_of_length_le (by rw [List.length_replicate]; omega), List.append_nil]
theorem Zl : (List.replicate 32 (0 : UInt8)).length = 32 := by simp
theorem infoB1 : (Tryz.prog.info? 5).map (·.size) = some 1 := by kernel_rfl

set_option maxRecDepth 100000 in
set_option maxHeartbeats 400000 in
theorem lsum_calls (s : ByteArray) (w : World) : Calls Tryz.prog 9 #[.string s] w fun en w' => en = .returned (.agg (cellsOf (pad s.data.toList))) ∧ Below w.heap.size w w' := by
  go_enter Tryz.func9, Tryz.ntmps9
  go_wp2_with (first
    | ((with_reducible refine at_op 6 ?_); refine wpList_copy_str (o := ⟨some 6, _, _, _, _, _⟩) rfl (.tmp 4) (.tmp 5) 51 9 rfl 5 Tryz.underlying51 infoB1 (w.heap.size + 1) 32 s (List.replicate 32 0) rfl rfl 38 (made_at _ _ (by simp)) ?_; intro w1 h1 t1
       (have K1 : Hid (Has w1 w.heap.size 38 (cellsOf (List.replicate 32 0)) ∧ Has w1 (w.heap.size + 1) 38 (cellsOf (pad s.data.toList)) ∧ Turn (fun k => w.heap.size ≤ k) w w1) := Lib.hid ⟨((made_at _ _ rfl).alloc _).turn t1 (by omega), h1, (((Turn.refl _ w).alloc _).alloc _).trans t1 (fun j hj e => by omega)⟩)
       (clear h1 t1))
    | ((with_reducible refine at_op 7 ?_); refine wpList_load_arr (o := ⟨some 7, _, _, _, _, _⟩) rfl 38 (.tmp 3) rfl (w.heap.size + 1) rfl 38 (pad s.data.toList) 5 32 K1.out.2.1 Tryz.underlying38 (by kernel_rfl) (pad_len _) ?_)
    | ((with_reducible refine at_store (.tmp 2) ?_); refine wpList_store_arr (o := ⟨none, _, _, _, _, _⟩) rfl 38 (.tmp 2) (.tmp 7) rfl w.heap.size (pad s.data.toList) (List.replicate 32 0) rfl rfl 38 K1.out.1 32 (by kernel_rfl) Zl (pad_len _) ?_; intro w2 h2 t2
       (have K2 : Hid (Has w2 w.heap.size 38 (cellsOf (pad s.data.toList)) ∧ Below w.heap.size w w2) := Lib.hid ⟨h2, (K1.out.2.2.trans t2 (fun j hj e => by omega)).below (Nat.le_refl _) (fun j hj e => by omega)⟩)
       (clear h2 t2))
    | fail)
  exact bodyPost_ret (v := .agg (cellsOf (pad s.data.toList))) (results_cell_row rfl _ _ w.heap.size 38 _ _ _ rfl K2.out.1 Tryz.underlying38 rfl (by rw [cellsOf_size, pad_len]; kernel_rfl)) rfl ⟨rfl, K2.out.2⟩

theorem strInfo : ∃ i z, Tryz.prog.info? 9 = some i ∧ i.zero = some z ∧ i.size = 1 ∧ z.cells.size = 1 ∧ i.bytes = 16 := by
  have h2 : (Tryz.prog.info? 9).map (fun i => (i.zero.map (fun z => z.cells.size), i.size, i.bytes)) = some (some 1, 1, 16) := by kernel_rfl
  obtain ⟨i, hi, e⟩ := Option.map_eq_some_iff.1 h2
  simp only [Prod.mk.injEq] at e
  obtain ⟨e1, e2, e3⟩ := e
  obtain ⟨z, hz, e4⟩ := Option.map_eq_some_iff.1 e1
  exact ⟨i, z, hi, hz, e2, e4, e3⟩

/-- What lasts while Sums makes both rows. -/
structure Sq (w : World) (o t : Value) (r : List (List UInt8)) (V : World) : Prop where
  so : Seg V 38 32 o r.length (sumsC r.reverse)
  st : Seg V 9 1 t r.length (r.reverse.map fun x => Value.string (bs x))
  lo : ∀ b, o.ownBlock = some b → w.heap.size ≤ b
  lt : ∀ b, t.ownBlock = some b → w.heap.size ≤ b
  len : ∀ x ∈ r, x.length = 32
  bel : Below w.heap.size w V
theorem Sq.below {w V V' : World} {o t : Value} {r : List (List UInt8)} (h : Sq w o t r V) (b : Below V.heap.size V V') : Sq w o t r V' :=
  ⟨h.so.below b (fun _ e => h.so.lt e), h.st.below b (fun _ e => h.st.lt e), h.lo, h.lt, h.len, h.bel.trans (b.mono h.bel.size)⟩
/-- What Sums answers: one row as sums, one as texts. -/
def SumsPost (w : World) (en : Ending) (w' : World) : Prop :=
  ∃ (o t : Value) (r : List (List UInt8)), en = .returned (.tuple #[o, t]) ∧ r.length ≤ 12 ∧ SmS w' o r ∧ Tst w' t r ∧ (∀ b, o.ownBlock = some b → w.heap.size ≤ b) ∧ (∀ b, t.ownBlock = some b → w.heap.size ≤ b) ∧ Below w.heap.size w w'

set_option maxRecDepth 100000 in
set_option maxHeartbeats 4000000 in
theorem lsums_calls (a : Option Addr) (len cap : Nat) (T : Nat → ByteArray) (w : World) (hA : ArgS w a len cap T) : Calls Tryz.prog 8 #[.slice a len cap] w (SumsPost w) := by
  have HA := Lib.hid hA
  have hlen : (len : Int) ≤ 9223372036854775807 := by have := hA.1; have := hA.2.1; unfold maxLen at this; omega
  clear hA
  go_enter Tryz.func8, Tryz.ntmps8
  go_wp2_with fail
  go_name_world W hW
  have S0 : Hid (Sq w (.slice (some ⟨w.heap.size, 0, none⟩) 0 0) (.slice (some ⟨w.heap.size + 1, 0, none⟩) 0 0) [] W) := by
    rw [← hW]
    exact Lib.hid ⟨Seg.of_has (n := 0) (size := 32) ((made_at _ _ rfl).alloc _) (by simp) (by decide), Seg.of_has (n := 0) (size := 1) (made_at _ _ (by simp)) (by simp) (by decide), fun x hx => by have e : w.heap.size = x := (by simpa [Value.ownBlock] using hx); omega, fun x hx => by have e : w.heap.size + 1 = x := (by simpa [Value.ownBlock] using hx); omega, fun x hx => (by cases hx), ((Below.refl _ _).alloc (Nat.le_refl _) _).alloc (by simp) _⟩
  clear hW
  go_loopw [4, 5, 6] (fun o t i wr => ∃ (k : Nat) (r : List (List UInt8)), i = .int .i64 k ∧ k ≤ 12 ∧ r.length = k ∧ Hid (Sq w o t r wr)) (fun _ _ i _ => 12 - (intOf i).toNat)
  case atStart => exact ⟨0, [], rfl, by omega, rfl, S0⟩
  case round =>
    obtain ⟨k, r, rfl, hk, hr, HS⟩ := hrel
    clear S0
    have hk0 : (0 : Int) ≤ (k : Int) := by omega
    have hk12 : (k : Int) ≤ 12 := by omega
    by_cases hkl : k < len ∧ k < 12
    · obtain ⟨h1, h2⟩ := hkl
      have h1' : (k : Int) < (len : Int) := by omega
      have h2' : (k : Int) < 12 := by omega
      obtain ⟨gb, go, ha, hgb, hcell, hsz⟩ := HA.out.2.2 k h1
      subst ha
      have c0 : wr.cell? ⟨gb, go + k, none⟩ = some (.string (T k)) := by
        rw [← hcell]; unfold World.cell?; rw [HS.out.bel.block gb hgb]
      obtain ⟨t0, ht0⟩ : ∃ t0, t0 = T k := ⟨_, rfl⟩
      rw [← ht0] at c0
      obtain ⟨x, hx⟩ : ∃ x, x = pad t0.data.toList := ⟨_, rfl⟩
      have HX : Hid (x.length = 32) := Lib.hid (by rw [hx, pad_len])
      have HC : ∀ V, Hid (Calls Tryz.prog 9 #[.string t0] V fun en w' => en = .returned (.agg (cellsOf x)) ∧ Below V.heap.size V w') := fun V => Lib.hid (by rw [hx]; exact lsum_calls t0 V)
      have HR := Lib.hid hr
      clear hcell hsz ht0 hx hr
      obtain ⟨i0, z0, hi0, hz0, hz1, hz2, hz3⟩ := sumInfo
      obtain ⟨i1, z1, hi1, hz4, hz5, hz6, hz7⟩ := strInfo
      have HI0 := Lib.hid hi0
      have HZ0 := Lib.hid hz0
      have HI1 := Lib.hid hi1
      have HZ1 := Lib.hid hz4
      clear hi0 hz0 hi1 hz4
      go_wp2_with fail
      refine (HC wr).out.mono ?_
      rintro en w1 ⟨rfl, b1⟩
      have S1 := Lib.hid (HS.out.below b1)
      clear b1 HC HS
      go_wp2_with (first
        | ((with_reducible refine at_store (.tmp 7) ?_); refine wpList_store_arr (o := ⟨none, _, _, _, _, _⟩) rfl 38 _ _ rfl w1.heap.size x (List.replicate 32 0) rfl rfl _ (made_at _ _ rfl) 32 (by kernel_rfl) Zl HX.out ?_; intro W2 HW2 TW2
           (have S2 : Hid (Sq w u4 u5 r W2 ∧ Has W2 w1.heap.size 38 (cellsOf x)) := Lib.hid ⟨S1.out.below (((Below.refl _ w1).alloc (Nat.le_refl _) _).trans (TW2.below (by simp) (fun j hj e => by omega))), HW2⟩)
           (have L2 : Hid (∀ b, u4.ownBlock = some b → b < w1.heap.size) := Lib.hid (fun b hb => S1.out.so.lt hb))
           (clear TW2 HW2 S1))
        | ((with_reducible refine at_op 26 ?_); refine wpList_load_arr (o := ⟨some 26, _, _, _, _, _⟩) rfl 38 _ rfl w1.heap.size rfl 38 x 5 32 S2.out.2 Tryz.underlying38 (by kernel_rfl) HX.out ?_)
        | ((with_reducible refine at_op 27 ?_); refine wpList_build_one (o := ⟨some 27, _, _, _, _, _⟩) rfl 23 38 _ rfl i0 z0 Tryz.underlying23 HI0.out HZ0.out (cellsOf x) rfl (by rw [hz1, cellsOf_size, HX.out]) (by rw [cellsOf_size, HX.out]; decide) (by rw [cellsOf_size, HX.out]; decide) W2.heap.size rfl ?_; intro W3 HW3 BW3
           (have S3 : Hid (Sq w u4 u5 r W3 ∧ Has W3 w1.heap.size 38 (cellsOf x) ∧ Has W3 W2.heap.size 38 (cellsOf x) ∧ W2.heap.size ≤ W3.heap.size) := Lib.hid ⟨S2.out.1.below BW3, S2.out.2.below BW3 S2.out.2.lt, HW3, BW3.size⟩)
           (have LW : Hid (w.heap.size ≤ W2.heap.size) := Lib.hid S2.out.1.bel.size)
           (clear HW3 BW3 S2))
        | ((with_reducible refine at_op 28 ?_); refine wpList_append_seg (o := ⟨some 28, _, _, _, _, _⟩) _ rfl (.tmp 25) (.tmp 27) 23 rfl 38 i0 z0 32 32 Tryz.underlying23 HI0.out HZ0.out hz1 hz3 hz2 (by decide) u4 r.length (sumsC r.reverse) rfl S3.out.1.so ⟨W2.heap.size, 0, none⟩ 1 1 (x.map byteV) rfl (by rw [List.length_map, HX.out]) (World.news_of_block S3.out.2.2.1) (byteV_one _) (by decide) (by have := HR.out; unfold maxLen; omega) (by have := HR.out; omega) _ rfl ?_
           intro g off cp w4 hown hgrow hat hlt
           (have S4 : Hid (Seg w4 38 32 (.slice (some ⟨g, off, none⟩) (r.length + 1) cp) (r.length + 1) (sumsC r.reverse ++ x.map byteV) ∧ Seg w4 9 1 u5 r.length (r.reverse.map fun x => Value.string (bs x)) ∧ Has w4 w1.heap.size 38 (cellsOf x) ∧ (w.heap.size ≤ g) ∧ Below w.heap.size w w4) := Lib.hid (by
             have t4 : Turn (fun j => u4.ownBlock = some j) W3 w4 := ⟨hgrow.os, hgrow.tape, hgrow.output, hgrow.size, fun j hj e => hgrow.block j hj (fun e2 => e e2.symm)⟩
             refine ⟨hown, S3.out.1.st.turn t4 (fun b hb e => S3.out.1.so.apart S3.out.1.st (by decide) b e hb), S3.out.2.1.turn t4 (fun e => by have := L2.out _ e; omega), ?_, S3.out.1.bel.trans (t4.below S3.out.1.bel.size (fun j hj e => by have := S3.out.1.lo j e; omega))⟩
             rcases hat with h | h
             · exact S3.out.1.lo g h
             · rw [h]; exact S3.out.1.bel.size))
           (have ca : (convert 51 9 (.slice (some ⟨w1.heap.size, 0, none⟩) 32 32)).run Tryz.prog w4 = .ok (.string (bs x)) w4 := by
             have := run_str_arr (P := Tryz.prog) 51 9 5 Tryz.underlying51 Tryz.underlying5 Tryz.underlying9 w1.heap.size 38 x 32 w4 S4.out.2.2.1
             rwa [HX.out] at this)
           (have G4 := Lib.hid (And.intro S3.out.1.lt S3.out.1.len))
           (clear hown hgrow hat hlt S3 L2))
        | ((with_reducible refine at_op 33 ?_); refine wpList_append_seg (o := ⟨some 33, _, _, _, _, _⟩) _ rfl (.tmp 29) (.tmp 32) 22 rfl 9 i1 z1 1 16 Tryz.underlying22 HI1.out HZ1.out hz5 hz7 hz6 (by decide) u5 r.length (r.reverse.map fun x => Value.string (bs x)) rfl (S4.out.2.1.alloc _) ⟨w4.heap.size, 0, none⟩ 1 1 [.string (bs x)] rfl rfl (World.news_of_block (heap_alloc_new _ _)) (by simp [Value.oneCell']) (by decide) (by have := HR.out; unfold maxLen; omega) (by have := HR.out; omega) _ rfl ?_
           intro g2 off2 cp2 w5 hown hgrow hat hlt
           (have S5 : Hid (Sq w (.slice (some ⟨g, off, none⟩) (r.length + 1) cp) (.slice (some ⟨g2, off2, none⟩) (r.length + 1) cp2) (x :: r) w5) := Lib.hid (by
             have t5 : Turn (fun j => u5.ownBlock = some j ∨ w4.heap.size ≤ j) w4 w5 := ((Turn.refl _ w4).alloc _).trans ⟨hgrow.os, hgrow.tape, hgrow.output, hgrow.size, fun j hj e => hgrow.block j hj (fun e2 => e e2.symm)⟩ (fun j _ e => .inl e)
             have hlt4 : ∀ b, (Value.slice (some ⟨g, off, none⟩) (r.length + 1) cp).ownBlock = some b → b < w4.heap.size := fun b hb => S4.out.1.lt hb
             refine ⟨?_, ?_, fun b hb => ?_, fun b hb => ?_, fun y hy => ?_, ?_⟩
             · rw [List.length_cons, List.reverse_cons, sumsC_snoc]
               exact S4.out.1.turn t5 (fun b hb e => by
                 rcases e with e | e
                 · exact S4.out.1.apart S4.out.2.1 (by decide) b hb e
                 · have := hlt4 b hb; omega)
             · rw [List.length_cons, List.reverse_cons, List.map_append]; exact hown
             · have e : g = b := by simpa [Value.ownBlock] using hb
               rw [← e]; exact S4.out.2.2.2.1
             · have e : g2 = b := by simpa [Value.ownBlock] using hb
               rw [← e]
               rcases hat with h | h
               · exact G4.out.1 g2 h
               · rw [h]; exact Nat.le_trans S4.out.2.2.2.2.size (by simp)
             · rcases List.mem_cons.1 hy with rfl | hy
               · exact HX.out
               · exact G4.out.2 y hy
             · exact S4.out.2.2.2.2.trans (t5.below S4.out.2.2.2.2.size (fun j hj e => by
                 rcases e with e | e
                 · have := G4.out.1 j e; omega
                 · have := S4.out.2.2.2.2.size; omega))))
           (clear hown hgrow hat hlt S4 ca G4))
        | fail)
      have hR := HR.out
      refine ⟨⟨k + 1, x :: r, by rw [Int.natCast_add]; rfl, by omega, by rw [List.length_cons, hR], ?_⟩, ?_⟩
      · exact S5
      · show 12 - ((k : Int) + 1).toNat < 12 - ((k : Int)).toNat
        omega
    · have HS' : Hid (SumsPost w (.returned (.tuple #[u4, u5])) wr) := Lib.hid ⟨_, _, r, rfl, by omega, ⟨HS.out.so, HS.out.len⟩, ⟨HS.out.st, HS.out.len⟩, HS.out.lo, HS.out.lt, HS.out.bel⟩
      by_cases hk1 : k < len
      · have h2' : ¬ (k : Int) < 12 := by omega
        have h1' : (k : Int) < (len : Int) := by omega
        go_wp2_with fail
        go_ret2
        exact HS'.out
      · have h1' : ¬ (k : Int) < (len : Int) := by omega
        go_wp2_with fail
        go_ret2
        exact HS'.out
end Go.Proofs.YtdoadmkaoboncaaGreatDoor.prf
end

section
/- Integers that fit. Of no program. -/
namespace Go.Proofs.YtdoadmkaoboncaaGreatDoor
open Go.ChangeShapes Go.WideShapes Go.ChangeAt Go.RowKit

theorem wf_i64 {y : Int} (h : (Lit.int .i64 y).wf = true) : -9223372036854775808 ≤ y ∧ y ≤ 9223372036854775807 := by
  have m0 : IntKind.i64.min = -9223372036854775808 := by decide
  have m1 : IntKind.i64.max = 9223372036854775807 := by decide
  have h' : (decide (IntKind.i64.min ≤ y) && decide (y ≤ IntKind.i64.max)) = true := h
  rw [m0, m1] at h'
  simpa using h'
end Go.Proofs.YtdoadmkaoboncaaGreatDoor
end

section
/- tree: what the row's list gives; the world that the program's own initialisers leave meets the rows' condition (of the rows that list digest's rounds and both tables of trailing zeros). -/
namespace Go.Proofs.YtdoadmkaoboncaaGreatDoor.tree
open Go Go.ChangeShapes Go.WideShapes Go.ChangeAt Go.RowKit Go.Proofs.YtdoadmkaoboncaaGreatDoor.dig

theorem gTab : Tryz.prog.globalNamed "math/bits.deBruijn64tab" = some 2 := by kernel_rfl
theorem gTabType : (Tryz.prog.globals[2]?).map (·.type) = some 212 := by kernel_rfl
theorem cellsTab : Tryz.prog.cellsOf 212 = 64 := by kernel_rfl
theorem cellsU8 : Tryz.prog.cellsOf 5 = 1 := by kernel_rfl
theorem rt_of_laid {W : World} {rest : List (String × DataW Unit)} (h : laidMet Tryz.prog (("math/bits.deBruijn32tab", Rows.laid_math_bits_deBruijn32tab) :: ("math/bits.deBruijn64tab", Rows.laid_math_bits_deBruijn64tab) :: ("hindsight/digest.rounds", Rows.laid_hindsight_digest_rounds) :: rest) W) : Rt W.heap.size W := by
  have ht : Lib.TabIs Tryz.prog W "math/bits.deBruijn64tab" .u8 (Lib.deBruijn64tab.map (Int.ofNat ·)) := Lib.tabIs_of_head (rest := ("hindsight/digest.rounds", Rows.laid_hindsight_digest_rounds) :: rest) gTab gTabType Tryz.underlying212 Tryz.underlying5 cellsU8 cellsTab h.tail
  have hk : Rk W := rk_of_laid (rest := rest) h.tail.tail
  have tz : ∀ (i x : Nat), Lib.deBruijn64tab[i]? = some x → W.cell? ⟨2, i, none⟩ = some (.int .u8 (x : Int)) := fun i x hx => by
    have hi : i < Lib.deBruijn64tab.length := (List.getElem?_eq_some_iff.1 hx).1
    have := ht.cell gTab i (by rw [List.length_map]; exact hi)
    rw [this]
    have e : (Lib.deBruijn64tab.map (Int.ofNat ·)).getD i 0 = (x : Int) := by
      rw [List.getD_eq_getElem?_getD, List.getElem?_map, hx]
      rfl
    rw [e]
  refine ⟨hk, tz, ⟨hk.lt, ?_⟩, Nat.le_refl _⟩
  have h0 := tz 0 0 rfl
  unfold World.cell? at h0
  rcases Nat.lt_or_ge 2 W.heap.size with k | k
  · exact k
  · simp [Array.getElem?_eq_none k] at h0

theorem door_met (os : Os) (args : Array Value) : laidMetH Tryz.prog [("math/bits.deBruijn32tab", Rows.laid_math_bits_deBruijn32tab), ("math/bits.deBruijn64tab", Rows.laid_math_bits_deBruijn64tab), ("hindsight/digest.rounds", Rows.laid_hindsight_digest_rounds)] ((World.doorLaid Tryz.prog 31 os).forCall (fun _ _ => 0) ⟨#[], args, []⟩).memory :=
  laidMetH_of_parts3 (fuel := 8) (laidMet_of_run' 8 (by kernel_rfl) (by kernel_rfl)) (by kernel_rfl) (by kernel_rfl)
theorem door_shaped (os : Os) (args : Array Value) : ((World.doorLaid Tryz.prog 31 os).forCall (fun _ _ => 0) ⟨#[], args, []⟩).Shaped Tryz.prog :=
  World.shaped_of_RefB (by kernel_rfl) (by kernel_rfl)
end Go.Proofs.YtdoadmkaoboncaaGreatDoor.tree
end

