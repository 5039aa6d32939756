/- proof: split, rootOf. -/
import Derived.Test.YtiogjmlkogeibaaDoorPrfM
import Derived.Test.YtiogjmlkogeibaaDoorSums
import Derived.Test.YtiogjmlkogeibaaDoorDigI
import Derived.Test.YtiogjmlkogeibaaDoorBld
import Derived.Lib.ItoaWalk
namespace Go.Proofs.YtiogjmlkogeibaaDoor.prf
open Go Go.RowKit Go.Proofs.YtiogjmlkogeibaaDoor.dig

/-- Thirty-two zeros. -/
abbrev Z : List UInt8 := List.replicate 32 0
theorem Z_len : Z.length = 32 := by simp

theorem results_mid {P : Program} {fn : Func} {p q r : Tmp} {ty : TypeId} (h : fn.results = #[.tmp q, .cell p ty, .tmp r]) (tmps : Array Value) (w : World) (g : Nat) (t : TypeId) (cs : Array Value) (fr : Nat × Nat) (d : TypeDesc)
    (hp : tmps.getD p undef = .pointer (some ⟨g, 0, none⟩)) (hg : w.heap[g]? = some (.cells cs t fr))
    (hu : P.underlying ty = some d) (hd : (match d with | .struct _ | .array _ _ => true | _ => false) = true) (hi : (P.info? ty).map (·.size) = some cs.size) (u v : Value) (hq : tmps.getD q undef = u) (hr : tmps.getD r undef = v) :
    (results fn tmps).run P w = .ok (.tuple #[u, .agg cs, v]) w := by
  have hp' : tmps[p]?.getD undef = .pointer (some ⟨g, 0, none⟩) := by simpa using hp
  have hq' : tmps[q]?.getD undef = u := by simpa using hq
  have hr' : tmps[r]?.getD undef = v := by simpa using hr
  simp [results, h, hp', hq', hr', asAddr, run_loadVar_row w g t ty cs fr d hg hu hd hi]

set_option maxRecDepth 100000 in
set_option maxHeartbeats 1000000 in
theorem split_none (a : Option Addr) (c : Nat) (w : World) : Calls Tryd.prog 34 #[.slice a 0 c] w fun en w' => en = .returned (.tuple #[.slice none 0 0, .agg (cellsOf Z), .bool false]) ∧ Below w.heap.size w w' := by
  go_enter Tryd.func34, Tryd.ntmps34
  go_wp2_with (first
    | ((with_reducible refine at_store (.tmp 3) ?_); refine wpList_store_arr (o := ⟨none, _, _, _, _, _⟩) rfl 27 _ _ rfl w.heap.size Z Z rfl rfl _ (made_at _ _ rfl) 32 (by kernel_rfl) Z_len Z_len ?_; intro W6 HW6 TW6
       (have B6 : Hid (Below w.heap.size w W6) := Lib.hid (((Below.refl _ w).alloc (Nat.le_refl _) _).trans (TW6.below (by simp) (fun j hj e => by omega))))
       (clear TW6))
    | fail)
  exact bodyPost_ret (v := .tuple #[.slice none 0 0, .agg (cellsOf Z), .bool false]) (results_mid rfl _ _ w.heap.size 27 _ _ _ rfl HW6 Tryd.underlying27 rfl (by rw [cellsOf_size, Z_len]; kernel_rfl) _ _ rfl rfl) rfl ⟨rfl, B6.out⟩
set_option maxRecDepth 100000 in
set_option maxHeartbeats 1000000 in
theorem split_some {w : World} {a : Option Addr} {n c : Nat} {s : List UInt8} {r : List (List UInt8)} (h : Sms w (.slice a n c) (s :: r)) : Calls Tryd.prog 34 #[.slice a n c] w fun en w' => en = .returned (.tuple #[.slice a r.length c, .agg (cellsOf s), .bool true]) ∧ Below w.heap.size w w' := by
  obtain ⟨hr, hnk, hn, hc, hs, g, off, rfl, hg, hrng⟩ := h.cons
  obtain ⟨k, hk⟩ : ∃ k, k = r.length := ⟨_, rfl⟩
  rw [← hk] at hnk hrng ⊢
  have hcm : (c : Int) ≤ 9223372036854775807 := by unfold maxLen at hc; omega
  have HS := Lib.hid hs
  have HR := Lib.hid hrng
  have k0 : (0 : Int) ≤ (k : Int) := by omega
  have k1 : (k : Int) < (n : Int) := by omega
  have k2 : (k : Int) ≤ (c : Int) := by omega
  have n1 : (n : Int) ≤ 9223372036854775807 := by omega
  have e1 : (n : Int) - 1 = (k : Int) := by omega
  clear h hr hs hrng hk hnk
  go_enter Tryd.func34, Tryd.ntmps34
  go_wp2_with fail
  go_name_world W hW
  have B0 : Below w.heap.size w W := by rw [← hW]; exact (Below.refl _ _).alloc (Nat.le_refl _) _
  have Z0 : Has W w.heap.size 27 (cellsOf Z) := by rw [← hW]; exact made_at _ _ rfl
  have dr : W.rangeAt g (off + k * 32) (s.map byteV) := fun j u hj => by rw [← HR.out j u hj]; unfold World.cell?; rw [B0.block g hg]
  clear hW HR
  obtain ⟨V, hV⟩ : ∃ V, V = W.drew := ⟨_, rfl⟩
  refine still_tail_at V hV 8 (by kernel_rfl) (by kernel_rfl) ?_
  have BV : Hid (Below w.heap.size w V ∧ Has V w.heap.size 27 (cellsOf Z)) := by rw [hV]; exact Lib.hid ⟨B0.drew, Z0⟩
  have hl : (Instr.loadAt 27 (.pointer (some ⟨g, off + k * 32, none⟩))).run Tryd.prog V = .ok (.agg (cellsOf s)) V :=
    run_loadAt_mid V g (off + k * 32) 27 (s.map byteV) _ (by rw [hV]; exact dr) Tryd.underlying27 rfl (by rw [List.length_map, HS.out]; kernel_rfl)
  clear hV dr B0 Z0
  simp only [List.take_succ_cons, List.take_zero, List.drop_succ_cons, List.drop_zero]
  have j0 : (0 : Int) ≤ (k : Int) ∧ (k : Int) < (n : Int) := ⟨k0, by omega⟩
  have j1 : (0 : Int) ≤ (k : Int) ∧ (k : Int) ≤ (c : Int) := ⟨k0, by omega⟩
  repeat still_step
  refine still_load hl ?_
  repeat still_step
  refine wpStill_nil ?_
  clear hl
  go_wp2_with (first
    | ((with_reducible refine at_store (.tmp 3) ?_); refine wpList_store_arr (o := ⟨none, _, _, _, _, _⟩) rfl 27 _ _ rfl w.heap.size s Z rfl rfl _ BV.out.2 32 (by kernel_rfl) Z_len HS.out ?_; intro W6 HW6 TW6
       (have B6 : Hid (Below w.heap.size w W6) := Lib.hid (BV.out.1.trans (TW6.below BV.out.1.size (fun j hj e => by omega))))
       (clear TW6))
    | fail)
  exact bodyPost_ret (v := .tuple #[.slice (some ⟨g, off, none⟩) k c, .agg (cellsOf s), .bool true]) (results_mid rfl _ _ w.heap.size 27 _ _ _ rfl HW6 Tryd.underlying27 rfl (by rw [cellsOf_size, HS.out]; kernel_rfl) _ _ rfl rfl) rfl ⟨rfl, B6.out⟩

/-- What lasts in rootOf: the leaf's sum in its box, the result's cell, the outermost sum at g. -/
structure Ro (w : World) (x y s : List UInt8) (g : Nat) (W : World) : Prop where
  bel : Below w.heap.size w W
  bx : Has W w.heap.size 27 (cellsOf x)
  re : Has W (w.heap.size + 1) 27 (cellsOf y)
  ou : Has W g 27 (cellsOf s)
theorem Ro.below {w W W' : World} {x y s : List UInt8} {g : Nat} (h : Ro w x y s g W) (b : Below W.heap.size W W') : Ro w x y s g W' :=
  ⟨h.bel.trans (b.mono h.bel.size), h.bx.below b h.bx.lt, h.re.below b h.re.lt, h.ou.below b h.ou.lt⟩

set_option maxRecDepth 100000 in
set_option maxHeartbeats 1000000 in
theorem rootOf_one {x : List UInt8} (hx : x.length = 32) (i : Int) (a : Option Addr) (l c : Nat) (w : World) (e : Bool) (he : ((l : Int) == 0) = e) :
    Calls Tryd.prog 22 #[.agg (cellsOf x), .int .i64 i, .int .i64 1, .slice a l c] w fun en w' => en = .returned (.tuple #[.agg (cellsOf x), .bool e]) ∧ Below w.heap.size w w' := by
  have HX := Lib.hid hx
  clear hx
  go_enter Tryd.func22, Tryd.ntmps22
  go_wp2_with (first
    | ((with_reducible refine at_op 18 ?_); refine wpList_load_arr (o := ⟨some 18, _, _, _, _, _⟩) rfl 27 _ rfl w.heap.size rfl 27 x 5 32 ((made_at _ _ rfl).alloc _) Tryd.underlying27 (by kernel_rfl) HX.out ?_)
    | ((with_reducible refine at_store (.tmp 8) ?_); refine wpList_store_arr (o := ⟨none, _, _, _, _, _⟩) rfl 27 _ _ rfl (w.heap.size + 1) x Z rfl rfl _ (made_at _ _ (by simp)) 32 (by kernel_rfl) Z_len HX.out ?_; intro W6 HW6 TW6
       (have B6 : Hid (Below w.heap.size w W6) := Lib.hid ((((Below.refl _ _).alloc (Nat.le_refl _) _).alloc (by simp) _).trans (TW6.below (by simp; omega) (fun j hj e => by omega))))
       (clear TW6))
    | fail)
  exact bodyPost_ret (v := .tuple #[.agg (cellsOf x), .bool e]) (results_cell_tmp rfl _ _ (w.heap.size + 1) 27 _ _ _ rfl HW6 Tryd.underlying27 rfl (by rw [cellsOf_size, HX.out]; kernel_rfl) _ rfl) rfl ⟨rfl, B6.out⟩

set_option maxRecDepth 100000 in
set_option maxHeartbeats 1000000 in
theorem rootOf_none (x : List UInt8) (i n : Nat) (hn : n ≠ 1) (a : Option Addr) (c : Nat) (w : World) :
    Calls Tryd.prog 22 #[.agg (cellsOf x), .int .i64 i, .int .i64 n, .slice a 0 c] w fun en w' => en = .returned (.tuple #[.agg (cellsOf Z), .bool false]) ∧ Below w.heap.size w w' := by
  have h3 : ¬ (n : Int) = 1 := by omega
  go_enter Tryd.func22, Tryd.ntmps22
  go_wp2_with fail
  refine callsName (fun W hW => ?_)
  have K0 : Hid (Below w.heap.size w W ∧ Has W (w.heap.size + 1) 27 (cellsOf Z)) := by
    rw [← hW]; exact Lib.hid ⟨((Below.refl _ _).alloc (Nat.le_refl _) _).alloc (by simp) _, made_at _ _ (by simp)⟩
  clear hW
  refine (split_none a c W).mono ?_
  rintro en w1 ⟨rfl, b1⟩
  have K1 : Hid (Below w.heap.size w w1 ∧ Has w1 (w.heap.size + 1) 27 (cellsOf Z)) :=
    Lib.hid ⟨K0.out.1.trans (b1.mono K0.out.1.size), K0.out.2.below b1 K0.out.2.lt⟩
  clear K0 b1
  go_wp2_with (first
    | ((with_reducible refine at_store (.tmp 10) ?_); refine wpList_store_arr (o := ⟨none, _, _, _, _, _⟩) rfl 27 _ _ rfl w1.heap.size Z Z rfl rfl _ (made_at _ _ rfl) 32 (by kernel_rfl) Z_len Z_len ?_; intro W2 HW2 TW2
       (have K2 : Hid (Below w.heap.size w W2 ∧ Has W2 (w.heap.size + 1) 27 (cellsOf Z)) := Lib.hid ⟨K1.out.1.trans ((((Below.refl _ w1).alloc (Nat.le_refl _) _).trans (TW2.below (by simp) (fun j hj e => by omega))).mono K1.out.1.size), (K1.out.2.alloc _).turn TW2 (by have := K1.out.2.lt; omega)⟩)
       (clear TW2 HW2 K1))
    | ((with_reducible refine at_store (.tmp 8) ?_); refine wpList_store_arr (o := ⟨none, _, _, _, _, _⟩) rfl 27 _ _ rfl (w.heap.size + 1) Z Z rfl rfl _ K2.out.2 32 (by kernel_rfl) Z_len Z_len ?_; intro W6 HW6 TW6
       (have B6 : Hid (Below w.heap.size w W6) := Lib.hid (K2.out.1.trans (TW6.below K2.out.1.size (fun j hj e => by omega))))
       (clear TW6 K2))
    | fail)
  exact bodyPost_ret (v := .tuple #[.agg (cellsOf Z), .bool false]) (results_cell_tmp rfl _ _ (w.heap.size + 1) 27 _ _ _ rfl HW6 Tryd.underlying27 rfl (by rw [cellsOf_size, Z_len]; kernel_rfl) _ rfl) rfl ⟨rfl, B6.out⟩

theorem isEmpty_len (r : List (List UInt8)) : ((r.length : Int) == 0) = r.isEmpty := by
  cases r
  · rfl
  · rw [List.isEmpty_cons, beq_eq_false_iff_ne, List.length_cons]; omega

set_option maxRecDepth 100000 in
set_option maxHeartbeats 2000000 in
theorem rootOf_calls {x : List UInt8} (hx : x.length = 32) : ∀ (r : List (List UInt8)) (i n : Nat) (a : Option Addr) (c : Nat) (w : World), Rk w → Sms w (.slice a r.length c) r → i < n → n ≤ 1000000 →
    Calls Tryd.prog 22 #[.agg (cellsOf x), .int .i64 i, .int .i64 n, .slice a r.length c] w fun en w' => en = .returned (.tuple #[.agg (cellsOf (up Z x r i n).1), .bool (up Z x r i n).2]) ∧ Below w.heap.size w w' := by
  intro r
  induction r with
  | nil =>
    intro i n a c w hR hS hi hn
    by_cases h1 : n = 1
    · subst h1
      rw [up_one]
      exact rootOf_one hx i a 0 c w true rfl
    · rw [up_nil _ _ _ h1]
      exact rootOf_none x i n h1 a c w
  | cons s r ih =>
    intro i n a c w hR hS hi hn
    by_cases h1 : n = 1
    · subst h1
      rw [up_one]
      exact rootOf_one hx i a _ c w _ (isEmpty_len _)
    · have HX := Lib.hid hx
      have HR0 := Lib.hid hR
      have HS := Lib.hid hS
      have h2 : 2 ≤ n := by omega
      have h3 : ¬ (n : Int) = 1 := by omega
      obtain ⟨k, hk⟩ : ∃ k, k = half n := ⟨_, rfl⟩
      have hk1 := half_lt h2
      have hk0 := half_pos n
      rw [← hk] at hk1 hk0
      obtain ⟨m, hm⟩ : ∃ m, m = (s :: r).length := ⟨_, rfl⟩
      rw [← hm]
      have HSP : ∀ V, Hid (Sms V (.slice a m c) (s :: r) → Calls Tryd.prog 34 #[.slice a m c] V fun en w' => en = .returned (.tuple #[.slice a r.length c, .agg (cellsOf s), .bool true]) ∧ Below V.heap.size V w') := fun V => Lib.hid split_some
      have HM := Lib.hid hm
      have HH : ∀ V, Hid (Calls Tryd.prog 35 #[.int .i64 n] V fun en w' => en = .returned (.int .i64 k) ∧ V = w') := fun V => Lib.hid (by rw [hk]; exact half_calls n V h2 (by omega))
      have hsl : s.length = 32 := hS.2 s (by simp)
      have HL := Lib.hid hsl
      by_cases hik : i < k
      · have e := up_left Z x s r h1 (by rw [← hk]; exact hik)
        rw [← hk] at e
        have HI := Lib.hid (fun V hR' hS' => ih i k a c V hR' hS' hik (by omega))
        have hik2 : (i : Int) < (k : Int) := by omega
        have HE := Lib.hid e
        have HU := Lib.hid (up_len Z_len hx r i k)
        have HN := Lib.hid (show (nodeS (up Z x r i k).1 s).length = 32 from nodeS_length _ _)
        clear hR hS hx ih hk hm e hsl
        generalize up Z x (s :: r) i n = u at *
        go_enter Tryd.func22, Tryd.ntmps22
        go_wp2_with fail
        refine callsName (fun W hW => ?_)
        have K0 : Hid (Below w.heap.size w W ∧ Has W w.heap.size 27 (cellsOf x) ∧ Has W (w.heap.size + 1) 27 (cellsOf Z)) := by
          rw [← hW]; exact Lib.hid ⟨((Below.refl _ _).alloc (Nat.le_refl _) _).alloc (by simp) _, (made_at _ _ rfl).alloc _, made_at _ _ (by simp)⟩
        clear hW
        refine ((HSP W).out (by rw [HM.out]; exact HS.out.below K0.out.1)).mono ?_
        rintro en w1 ⟨rfl, b1⟩
        have K1 : Hid (Below w.heap.size w w1 ∧ Has w1 w.heap.size 27 (cellsOf x) ∧ Has w1 (w.heap.size + 1) 27 (cellsOf Z)) :=
          Lib.hid ⟨K0.out.1.trans (b1.mono K0.out.1.size), K0.out.2.1.below b1 K0.out.2.1.lt, K0.out.2.2.below b1 K0.out.2.2.lt⟩
        clear K0 b1
        go_wp2_with (first
          | ((with_reducible refine at_store (.tmp 10) ?_); refine wpList_store_arr (o := ⟨none, _, _, _, _, _⟩) rfl 27 _ _ rfl w1.heap.size s Z rfl rfl _ (made_at _ _ rfl) 32 (by kernel_rfl) Z_len HL.out ?_; intro W2 HW2 TW2
             (have K2 : Hid (Ro w x Z s w1.heap.size W2) := Lib.hid ⟨K1.out.1.trans ((((Below.refl _ w1).alloc (Nat.le_refl _) _).trans (TW2.below (by simp) (fun j hj e => by omega))).mono K1.out.1.size), (K1.out.2.1.alloc _).turn TW2 (by have := K1.out.2.1.lt; omega), (K1.out.2.2.alloc _).turn TW2 (by have := K1.out.2.2.lt; omega), HW2⟩)
             (clear TW2 HW2 K1))
          | fail)
        refine (HH W2).out.mono ?_
        rintro en w' ⟨rfl, rfl⟩
        go_wp2_with (first
          | ((with_reducible refine at_op 37 ?_); refine wpList_load_arr (o := ⟨some 37, _, _, _, _, _⟩) rfl 27 _ rfl w.heap.size rfl 27 x 5 32 K2.out.bx Tryd.underlying27 (by kernel_rfl) HX.out ?_)
          | fail)
        refine (HI.out W2 (HR0.out.below K2.out.bel) (HS.out.below K2.out.bel).cons.1).mono ?_
        rintro en w3 ⟨rfl, b3⟩
        have K3 : Hid (Ro w x Z s w1.heap.size w3) := Lib.hid (K2.out.below b3)
        clear K2 b3
        go_wp2_with (first
          | ((with_reducible refine at_store (.tmp 13) ?_); refine wpList_store_arr (o := ⟨none, _, _, _, _, _⟩) rfl 27 _ _ rfl w3.heap.size (up Z x r i k).1 Z rfl rfl _ (made_at _ _ rfl) 32 (by kernel_rfl) Z_len HU.out ?_; intro W4 HW4 TW4
             (have K4 : Hid (Ro w x Z s w1.heap.size W4 ∧ Has W4 w3.heap.size 27 (cellsOf (up Z x r i k).1)) := Lib.hid ⟨K3.out.below ((((Below.refl _ w3).alloc (Nat.le_refl _) _).trans (TW4.below (by simp) (fun j hj e => by omega)))), HW4⟩)
             (clear TW4 HW4 K3))
          | ((with_reducible refine at_op 44 ?_); refine wpList_load_arr (o := ⟨some 44, _, _, _, _, _⟩) rfl 27 _ rfl w3.heap.size rfl 27 (up Z x r i k).1 5 32 K4.out.2 Tryd.underlying27 (by kernel_rfl) HU.out ?_)
          | ((with_reducible refine at_op 45 ?_); refine wpList_load_arr (o := ⟨some 45, _, _, _, _, _⟩) rfl 27 _ rfl w1.heap.size rfl 27 s 5 32 K4.out.1.ou Tryd.underlying27 (by kernel_rfl) HL.out ?_)
          | fail)
        refine (node_calls (up Z x r i k).1 s W4 (HR0.out.below K4.out.1.bel) HU.out HL.out).mono ?_
        rintro en w5 ⟨rfl, b5⟩
        have K5 : Hid (Ro w x Z s w1.heap.size w5) := Lib.hid (K4.out.1.below b5)
        clear K4 b5
        go_wp2_with (first
          | ((with_reducible refine at_store (.tmp 8) ?_); refine wpList_store_arr (o := ⟨none, _, _, _, _, _⟩) rfl 27 _ _ rfl (w.heap.size + 1) (nodeS (up Z x r i k).1 s) Z rfl rfl _ K5.out.re 32 (by kernel_rfl) Z_len HN.out ?_; intro W6 HW6 TW6
             (have B6 : Hid (Below w.heap.size w W6) := Lib.hid (K5.out.bel.trans (TW6.below K5.out.bel.size (fun j hj e => by omega))))
             (clear TW6 K5))
          | fail)
        rw [HE.out]
        exact bodyPost_ret (v := .tuple #[.agg (cellsOf (nodeS (up Z x r i k).1 s)), .bool (up Z x r i k).2]) (results_cell_tmp rfl _ _ (w.heap.size + 1) 27 _ _ _ rfl HW6 Tryd.underlying27 rfl (by rw [cellsOf_size, HN.out]; kernel_rfl) _ rfl) rfl ⟨rfl, B6.out⟩
      · have e := up_right Z x s r h1 (by rw [← hk]; exact hik)
        rw [← hk] at e
        obtain ⟨i', hi'⟩ : ∃ i', i' = i - k := ⟨_, rfl⟩
        obtain ⟨n', hn'⟩ : ∃ n', n' = n - k := ⟨_, rfl⟩
        rw [← hi', ← hn'] at e
        have HI := Lib.hid (fun V hR' hS' => ih i' n' a c V hR' hS' (by omega) (by omega))
        have hik2 : ¬ (i : Int) < (k : Int) := by omega
        have ha1 : (i : Int) - (k : Int) = (i' : Int) := by omega
        have ha2 : (n : Int) - (k : Int) = (n' : Int) := by omega
        have ha3 : (i' : Int) ≤ 1000000 := by omega
        have ha4 : (n' : Int) ≤ 1000000 := by omega
        have HE := Lib.hid e
        have HU := Lib.hid (up_len Z_len hx r i' n')
        have HN := Lib.hid (show (nodeS s (up Z x r i' n').1).length = 32 from nodeS_length _ _)
        clear hR hS hx ih hk hm e hsl hi' hn'
        generalize up Z x (s :: r) i n = u at *
        go_enter Tryd.func22, Tryd.ntmps22
        go_wp2_with fail
        refine callsName (fun W hW => ?_)
        have K0 : Hid (Below w.heap.size w W ∧ Has W w.heap.size 27 (cellsOf x) ∧ Has W (w.heap.size + 1) 27 (cellsOf Z)) := by
          rw [← hW]; exact Lib.hid ⟨((Below.refl _ _).alloc (Nat.le_refl _) _).alloc (by simp) _, (made_at _ _ rfl).alloc _, made_at _ _ (by simp)⟩
        clear hW
        refine ((HSP W).out (by rw [HM.out]; exact HS.out.below K0.out.1)).mono ?_
        rintro en w1 ⟨rfl, b1⟩
        have K1 : Hid (Below w.heap.size w w1 ∧ Has w1 w.heap.size 27 (cellsOf x) ∧ Has w1 (w.heap.size + 1) 27 (cellsOf Z)) :=
          Lib.hid ⟨K0.out.1.trans (b1.mono K0.out.1.size), K0.out.2.1.below b1 K0.out.2.1.lt, K0.out.2.2.below b1 K0.out.2.2.lt⟩
        clear K0 b1
        go_wp2_with (first
          | ((with_reducible refine at_store (.tmp 10) ?_); refine wpList_store_arr (o := ⟨none, _, _, _, _, _⟩) rfl 27 _ _ rfl w1.heap.size s Z rfl rfl _ (made_at _ _ rfl) 32 (by kernel_rfl) Z_len HL.out ?_; intro W2 HW2 TW2
             (have K2 : Hid (Ro w x Z s w1.heap.size W2) := Lib.hid ⟨K1.out.1.trans ((((Below.refl _ w1).alloc (Nat.le_refl _) _).trans (TW2.below (by simp) (fun j hj e => by omega))).mono K1.out.1.size), (K1.out.2.1.alloc _).turn TW2 (by have := K1.out.2.1.lt; omega), (K1.out.2.2.alloc _).turn TW2 (by have := K1.out.2.2.lt; omega), HW2⟩)
             (clear TW2 HW2 K1))
          | fail)
        refine (HH W2).out.mono ?_
        rintro en w' ⟨rfl, rfl⟩
        go_wp2_with (first
          | ((with_reducible refine at_op 49 ?_); refine wpList_load_arr (o := ⟨some 49, _, _, _, _, _⟩) rfl 27 _ rfl w.heap.size rfl 27 x 5 32 K2.out.bx Tryd.underlying27 (by kernel_rfl) HX.out ?_)
          | fail)
        refine (HI.out W2 (HR0.out.below K2.out.bel) (HS.out.below K2.out.bel).cons.1).mono ?_
        rintro en w3 ⟨rfl, b3⟩
        have K3 : Hid (Ro w x Z s w1.heap.size w3) := Lib.hid (K2.out.below b3)
        clear K2 b3
        go_wp2_with (first
          | ((with_reducible refine at_store (.tmp 15) ?_); refine wpList_store_arr (o := ⟨none, _, _, _, _, _⟩) rfl 27 _ _ rfl w3.heap.size (up Z x r i' n').1 Z rfl rfl _ (made_at _ _ rfl) 32 (by kernel_rfl) Z_len HU.out ?_; intro W4 HW4 TW4
             (have K4 : Hid (Ro w x Z s w1.heap.size W4 ∧ Has W4 w3.heap.size 27 (cellsOf (up Z x r i' n').1)) := Lib.hid ⟨K3.out.below ((((Below.refl _ w3).alloc (Nat.le_refl _) _).trans (TW4.below (by simp) (fun j hj e => by omega)))), HW4⟩)
             (clear TW4 HW4 K3))
          | ((with_reducible refine at_op 60 ?_); refine wpList_load_arr (o := ⟨some 60, _, _, _, _, _⟩) rfl 27 _ rfl w1.heap.size rfl 27 s 5 32 K4.out.1.ou Tryd.underlying27 (by kernel_rfl) HL.out ?_)
          | ((with_reducible refine at_op 61 ?_); refine wpList_load_arr (o := ⟨some 61, _, _, _, _, _⟩) rfl 27 _ rfl w3.heap.size rfl 27 (up Z x r i' n').1 5 32 K4.out.2 Tryd.underlying27 (by kernel_rfl) HU.out ?_)
          | fail)
        refine (node_calls s (up Z x r i' n').1 W4 (HR0.out.below K4.out.1.bel) HL.out HU.out).mono ?_
        rintro en w5 ⟨rfl, b5⟩
        have K5 : Hid (Ro w x Z s w1.heap.size w5) := Lib.hid (K4.out.1.below b5)
        clear K4 b5
        go_wp2_with (first
          | ((with_reducible refine at_store (.tmp 8) ?_); refine wpList_store_arr (o := ⟨none, _, _, _, _, _⟩) rfl 27 _ _ rfl (w.heap.size + 1) (nodeS s (up Z x r i' n').1) Z rfl rfl _ K5.out.re 32 (by kernel_rfl) Z_len HN.out ?_; intro W6 HW6 TW6
             (have B6 : Hid (Below w.heap.size w W6) := Lib.hid (K5.out.bel.trans (TW6.below K5.out.bel.size (fun j hj e => by omega))))
             (clear TW6 K5))
          | fail)
        rw [HE.out]
        exact bodyPost_ret (v := .tuple #[.agg (cellsOf (nodeS s (up Z x r i' n').1)), .bool (up Z x r i' n').2]) (results_cell_tmp rfl _ _ (w.heap.size + 1) 27 _ _ _ rfl HW6 Tryd.underlying27 rfl (by rw [cellsOf_size, HN.out]; kernel_rfl) _ rfl) rfl ⟨rfl, B6.out⟩
end Go.Proofs.YtiogjmlkogeibaaDoor.prf
