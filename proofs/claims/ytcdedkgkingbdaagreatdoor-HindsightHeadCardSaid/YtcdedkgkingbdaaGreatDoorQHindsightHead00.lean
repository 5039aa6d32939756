/- Texts laid into one: PrfM, PruM, PruHI, PruHZ, PrfA, PrfB, PrfC, PrfD, PrfE, PrfF, PrfG, PrfH. -/
import Derived.Test.YtcdedkgkingbdaaGreatDoorQ003
import Derived.Test.YtcdedkgkingbdaaGreatDoorQ004
import Derived.Test.YtcdedkgkingbdaaGreatDoorQ012
import Derived.Test.YtcdedkgkingbdaaGreatDoorQ014
import Derived.Test.YtcdedkgkingbdaaGreatDoorQ009
import Derived.Test.YtcdedkgkingbdaaGreatDoorQ006
import Derived.Lib.ItoaWalk
import Derived.Test.YtcdedkgkingbdaaGreatDoorQ010
import Derived.Test.YtcdedkgkingbdaaGreatDoorQ013
import Derived.Test.YtcdedkgkingbdaaGreatDoorQ005
section
/- proof: what sums prove (the mathematics). -/
namespace Go.Proofs.YtcdedkgkingbdaaGreatDoor.prf
open Go Go.Proofs.YtcdedkgkingbdaaGreatDoor.dig

/-- The root over n leaves, of the i-th one's sum x and of sums, the outermost first; z: what stands for none. -/
def up (z x : List UInt8) : List (List UInt8) → Nat → Nat → List UInt8 × Bool
  | [], _, n => if n = 1 then (x, true) else (z, false)
  | s :: r, i, n => if n = 1 then (x, false) else if i < half n then (nodeS (up z x r i (half n)).1 s, (up z x r i (half n)).2) else (nodeS s (up z x r (i - half n) (n - half n)).1, (up z x r (i - half n) (n - half n)).2)

theorem up_one (z x : List UInt8) (r : List (List UInt8)) (i : Nat) : up z x r i 1 = (x, r.isEmpty) := by
  cases r <;> simp [up]
theorem up_nil (z x : List UInt8) (i : Nat) {n : Nat} (h : n ≠ 1) : up z x [] i n = (z, false) := by simp [up, h]
theorem up_left (z x s : List UInt8) (r : List (List UInt8)) {i n : Nat} (h : n ≠ 1) (hi : i < half n) : up z x (s :: r) i n = (nodeS (up z x r i (half n)).1 s, (up z x r i (half n)).2) := by
  rw [up, if_neg h, if_pos hi]
theorem up_right (z x s : List UInt8) (r : List (List UInt8)) {i n : Nat} (h : n ≠ 1) (hi : ¬ i < half n) : up z x (s :: r) i n = (nodeS s (up z x r (i - half n) (n - half n)).1, (up z x r (i - half n) (n - half n)).2) := by
  rw [up, if_neg h, if_neg hi]

theorem up_len {z x : List UInt8} (hz : z.length = 32) (hx : x.length = 32) : ∀ (r : List (List UInt8)) (i n : Nat), (up z x r i n).1.length = 32
  | [], i, n => by by_cases h : n = 1 <;> simp [up, h, hz, hx]
  | s :: r, i, n => by
    by_cases h : n = 1
    · simp [up, h, hx]
    · by_cases hi : i < half n
      · rw [up_left z x s r h hi]; exact nodeS_length _ _
      · rw [up_right z x s r h hi]; exact nodeS_length _ _

/-- The roots over the first m and over all n leaves; o: the first one's, f: it is known. -/
def both (z o : List UInt8) : List (List UInt8) → Bool → Nat → Nat → List UInt8 × List UInt8 × Bool
  | [], f, m, n => if m = n ∧ f = true then (o, o, true) else (z, z, false)
  | s :: r, f, m, n => if m = n ∧ f = true then (o, o, false) else if m = n then (s, s, r.isEmpty) else if m ≤ half n then ((both z o r f m (half n)).1, nodeS (both z o r f m (half n)).2.1 s, (both z o r f m (half n)).2.2) else (nodeS s (both z o r false (m - half n) (n - half n)).1, nodeS s (both z o r false (m - half n) (n - half n)).2.1, (both z o r false (m - half n) (n - half n)).2.2)

/-- Do sums prove a leaf: 0, 6 (no such place) or 12. -/
def inclE (leaf : List UInt8) (i n : Int) (root : List UInt8) (r : List (List UInt8)) : Int :=
  if i < 0 ∨ n ≤ i then 6 else if (up (List.replicate 32 0) (leafS leaf) r i.toNat n.toNat).2 = true ∧ (up (List.replicate 32 0) (leafS leaf) r i.toNat n.toNat).1 = root then 0 else 12

end Go.Proofs.YtcdedkgkingbdaaGreatDoor.prf
end

section
/- prune: the mathematics: what a tree's proof of a leaf, and of a prefix, comes to. -/
namespace Go.Proofs.YtcdedkgkingbdaaGreatDoor.prn
open Go Go.Proofs.YtcdedkgkingbdaaGreatDoor.dig Go.Proofs.YtcdedkgkingbdaaGreatDoor.prf

/-- The proof of a leaf comes to the root. -/
theorem up_path (z : List UInt8) (f : Nat → List UInt8) : ∀ (n i a : Nat), i < n → up z (f (a + i)) (path f i a n).reverse i n = (rt f a n, true) := by
  intro n
  induction n using Nat.strongRecOn with
  | _ n ih =>
    intro i a hi
    by_cases h2 : 2 ≤ n
    · have hp := half_pos n
      have hl := half_lt h2
      rw [path, dif_pos h2, rt_two f a h2]
      by_cases hh : i < half n
      · rw [if_pos hh, List.reverse_append, List.reverse_singleton, List.singleton_append, up_left _ _ _ _ (by omega) hh, ih (half n) hl i a hh]
      · rw [if_neg hh, List.reverse_append, List.reverse_singleton, List.singleton_append, up_right _ _ _ _ (by omega) hh]
        have h3 := ih (n - half n) (by omega) (i - half n) (a + half n) (by omega)
        rw [show a + half n + (i - half n) = a + i by omega] at h3
        rw [h3]
    · obtain rfl : n = 1 := by omega
      obtain rfl : i = 0 := by omega
      rw [path, dif_neg h2, List.reverse_nil, up_one, rt_one]
      rfl

end Go.Proofs.YtcdedkgkingbdaaGreatDoor.prn
end

section
/- Out of PruH: dig.Tr.inclusion_range, Va.leaf_range, Va.leaf_low, incl_path. -/
namespace Go.Proofs.YtcdedkgkingbdaaGreatDoor.prn
open Go Go.RowKit Go.Proofs.YtcdedkgkingbdaaGreatDoor.dig Go.Proofs.YtcdedkgkingbdaaGreatDoor.prf

section
variable {B : Nat} {F : Nat → Prop} {w : World} {b vb N fl : Nat} {f : Nat → List UInt8} {L : List ByteArray}
set_option maxRecDepth 100000 in
set_option maxHeartbeats 1000000 in
theorem _root_.Go.Proofs.YtcdedkgkingbdaaGreatDoor.dig.Tr.inclusion_range (hT : Tr B F w b N fl f) (x n : Int) (h : n < 0 ∨ n > N ∨ x < 0 ∨ x ≥ n) :
    Calls Tryz.prog 79 #[.pointer (some ⟨b, 0, none⟩), .int .i64 x, .int .i64 n] w fun en w' => en = .returned (.tuple #[.slice none 0 0, .int .i64 6]) ∧ w = w' := by
  obtain ⟨rv, hh⟩ := hT.head
  have e0 := hh.cell 0
  simp at e0
  clear hT hh
  by_cases h1 : n < 0
  · clear h
    go_enter Tryz.func79, Tryz.ntmps79
    go_wp2_with fail
    go_ret2
    exact ⟨rfl, rfl⟩
  by_cases h2 : n > (N : Int)
  · clear h
    go_enter Tryz.func79, Tryz.ntmps79
    go_wp2_with fail
    go_ret2
    exact ⟨rfl, rfl⟩
  by_cases h3 : x < 0
  · clear h
    go_enter Tryz.func79, Tryz.ntmps79
    go_wp2_with fail
    go_ret2
    exact ⟨rfl, rfl⟩
  · have h4 : x ≥ n := by omega
    clear h
    go_enter Tryz.func79, Tryz.ntmps79
    go_wp2_with fail
    go_ret2
    exact ⟨rfl, rfl⟩

theorem Va.leaf_range (h : Va B F w vb L fl) (x n : Int) (hx : n < 0 ∨ n > L.length ∨ x < 0 ∨ x ≥ n) :
    Calls Tryz.prog 35 #[.pointer (some ⟨vb, 0, none⟩), .int .i64 x, .int .i64 n] w (PairErr w (.agg (prC 0 0 0 (.slice none 0 0))) leafNm x 6) :=
  h.leaf_err x n 6 (by decide) fun _ _ ⟨_, tr⟩ => tr.inclusion_range x n hx
theorem Va.leaf_low (h : Va B F w vb L fl) (i n : Nat) (hn : n ≤ L.length) (hi : i < n) (hf : i < fl) :
    Calls Tryz.prog 35 #[.pointer (some ⟨vb, 0, none⟩), .int .i64 i, .int .i64 n] w (PairErr w (.agg (prC 0 0 0 (.slice none 0 0))) leafNm i 14) :=
  h.leaf_err i n 14 (by decide) fun _ _ ⟨_, tr⟩ => tr.inclusion_low i n hn hi hf

/-- What a vault's own proof of a leaf proves. -/
theorem incl_path {L : List ByteArray} {i n : Nat} (hi : i < n) {s : ByteArray} (hs : L[i]? = some s) : inclE s.data.toList i n (rtAll (leafF L) n) (path (leafF L) i 0 n).reverse = 0 := by
  have h := up_path (List.replicate 32 0) (leafF L) n i 0 hi
  rw [Nat.zero_add, leafF_at L i s hs] at h
  unfold inclE
  rw [if_neg (by omega), Int.toNat_natCast, Int.toNat_natCast, h]
  exact if_pos ⟨rfl, by unfold rtAll; rw [if_neg (by omega)]⟩
end
end Go.Proofs.YtcdedkgkingbdaaGreatDoor.prn
end

section
/- Out of PruHd: exec_load_of, exec_eql_of, built_zero, exec_zero_head. -/
namespace Go.Proofs.YtcdedkgkingbdaaGreatDoor.prn
open Go Go.RowKit Go.Proofs.YtcdedkgkingbdaaGreatDoor.dig Go.Proofs.YtcdedkgkingbdaaGreatDoor.prf

theorem exec_load_of {P : Program} {ev : Operand → Value} {o : Oper} {ty : TypeId} {x : Operand} (ho : o.op = .load ty x) {p v : Value} (hp : ev x = p) {w : World} (h : (Instr.loadAt ty p).run P w = .ok v w) : (execOp ev o).run P w = .ok (.value v) w := by
  unfold execOp
  simp only [ho, hp, Sem.run_bind, h, Result.andThen_ok, Sem.run_pure]
theorem exec_eql_of {P : Program} {ev : Operand → Value} {o : Oper} {ty ty2 : TypeId} {x y : Operand} (ho : o.op = .binOp .eql ty x y ty2) {a b v : Value} (hx : ev x = a) (hy : ev y = b) {w : World} (h : (binOp .eql ty a b).run P w = .ok v w) (hg : (eqGuard .eql ty x y a b).run P w = .ok () w) : (execOp ev o).run P w = .ok (.value v) w := by
  unfold execOp
  simp only [ho, hx, hy, Sem.run_bind, hg, h, Result.andThen_ok, Sem.run_pure]
theorem built_zero : Tryz.prog.built 86 [] = some (headC 0 (List.replicate 32 0)) := by kernel_rfl
set_option maxRecDepth 100000 in
theorem exec_zero_head {ev : Operand → Value} {o : Oper} {w : World} (ho : o.op = .build 86 #[]) : (execOp ev o).run Tryz.prog w = .ok (.value (.agg (headC 0 (List.replicate 32 0)))) w := by
  have hr := run_build (P := Tryz.prog) w 86 #[] _ built_zero
  unfold execOp
  simp only [ho, Sem.run_bind, Sem.run_pure]
  simp [hr]
end Go.Proofs.YtcdedkgkingbdaaGreatDoor.prn
end

section
/- proof: split, rootOf. -/
namespace Go.Proofs.YtcdedkgkingbdaaGreatDoor.prf
open Go Go.RowKit Go.Proofs.YtcdedkgkingbdaaGreatDoor.dig

/-- Thirty-two zeros. -/
abbrev Z : List UInt8 := List.replicate 32 0
theorem Z_len : Z.length = 32 := by simp

theorem results_mid {P : Program} {fn : Func} {p q r : Tmp} {ty : TypeId} (h : fn.results = #[.tmp q, .cell p ty, .tmp r]) (tmps : Array Value) (w : World) (g : Nat) (t : TypeId) (cs : Array Value) (fr : Nat × Nat) (d : TypeDesc)
    (hp : tmps.getD p undef = .pointer (some ⟨g, 0, none⟩)) (hg : w.heap[g]? = some (.cells cs t fr))
    (hu : P.underlying ty = some d) (hd : (match d with | .struct _ | .array _ _ => true | _ => false) = true) (hi : (P.info? ty).map (·.size) = some cs.size) (u v : Value) (hq : tmps.getD q undef = u) (hr : tmps.getD r undef = v) :
    (results fn tmps).run P w = .ok (.tuple #[u, .agg cs, v]) w := by
  have hp' : tmps[p]?.getD undef = .pointer (some ⟨g, 0, none⟩) := by simpa using hp
  have hq' : tmps[q]?.getD undef = u := by simpa using hq
  have hr' : tmps[r]?.getD undef = v := by simpa using hr
  simp [results, h, hp', hq', hr', asAddr, run_loadVar_row w g t ty cs fr d hg hu hd hi]

set_option maxRecDepth 100000 in
set_option maxHeartbeats 1000000 in
theorem split_none (a : Option Addr) (c : Nat) (w : World) : Calls Tryz.prog 167 #[.slice a 0 c] w fun en w' => en = .returned (.tuple #[.slice none 0 0, .agg (cellsOf Z), .bool false]) ∧ Below w.heap.size w w' := by
  go_enter Tryz.func167, Tryz.ntmps167
  go_wp2_with (first
    | ((with_reducible refine at_store (.tmp 3) ?_); refine wpList_store_arr (o := ⟨none, _, _, _, _, _⟩) rfl 84 _ _ rfl w.heap.size Z Z rfl rfl _ (made_at _ _ rfl) 32 (by kernel_rfl) Z_len Z_len ?_; intro W6 HW6 TW6
       (have B6 : Hid (Below w.heap.size w W6) := Lib.hid (((Below.refl _ w).alloc (Nat.le_refl _) _).trans (TW6.below (by simp) (fun j hj e => by omega))))
       (clear TW6))
    | fail)
  exact bodyPost_ret (v := .tuple #[.slice none 0 0, .agg (cellsOf Z), .bool false]) (results_mid rfl _ _ w.heap.size 84 _ _ _ rfl HW6 Tryz.underlying84 rfl (by rw [cellsOf_size, Z_len]; kernel_rfl) _ _ rfl rfl) rfl ⟨rfl, B6.out⟩
set_option maxRecDepth 100000 in
set_option maxHeartbeats 1000000 in
theorem split_some {w : World} {a : Option Addr} {n c : Nat} {s : List UInt8} {r : List (List UInt8)} (h : Sms w (.slice a n c) (s :: r)) : Calls Tryz.prog 167 #[.slice a n c] w fun en w' => en = .returned (.tuple #[.slice a r.length c, .agg (cellsOf s), .bool true]) ∧ Below w.heap.size w w' := by
  obtain ⟨hr, hnk, hn, hc, hs, g, off, rfl, hg, hrng⟩ := h.cons
  obtain ⟨k, hk⟩ : ∃ k, k = r.length := ⟨_, rfl⟩
  rw [← hk] at hnk hrng ⊢
  have hcm : (c : Int) ≤ 9223372036854775807 := by unfold maxLen at hc; omega
  have HS := Lib.hid hs
  have HR := Lib.hid hrng
  have k0 : (0 : Int) ≤ (k : Int) := by omega
  have k1 : (k : Int) < (n : Int) := by omega
  have k2 : (k : Int) ≤ (c : Int) := by omega
  have n1 : (n : Int) ≤ 9223372036854775807 := by omega
  have e1 : (n : Int) - 1 = (k : Int) := by omega
  clear h hr hs hrng hk hnk
  go_enter Tryz.func167, Tryz.ntmps167
  go_wp2_with fail
  go_name_world W hW
  have B0 : Below w.heap.size w W := by rw [← hW]; exact (Below.refl _ _).alloc (Nat.le_refl _) _
  have Z0 : Has W w.heap.size 84 (cellsOf Z) := by rw [← hW]; exact made_at _ _ rfl
  have dr : W.rangeAt g (off + k * 32) (s.map byteV) := fun j u hj => by rw [← HR.out j u hj]; unfold World.cell?; rw [B0.block g hg]
  clear hW HR
  obtain ⟨V, hV⟩ : ∃ V, V = W.drew := ⟨_, rfl⟩
  refine still_tail_at V hV 8 (by kernel_rfl) (by kernel_rfl) ?_
  have BV : Hid (Below w.heap.size w V ∧ Has V w.heap.size 84 (cellsOf Z)) := by rw [hV]; exact Lib.hid ⟨B0.drew, Z0⟩
  have hl : (Instr.loadAt 84 (.pointer (some ⟨g, off + k * 32, none⟩))).run Tryz.prog V = .ok (.agg (cellsOf s)) V :=
    run_loadAt_mid V g (off + k * 32) 84 (s.map byteV) _ (by rw [hV]; exact dr) Tryz.underlying84 rfl (by rw [List.length_map, HS.out]; kernel_rfl)
  clear hV dr B0 Z0
  simp only [List.take_succ_cons, List.take_zero, List.drop_succ_cons, List.drop_zero]
  have j0 : (0 : Int) ≤ (k : Int) ∧ (k : Int) < (n : Int) := ⟨k0, by omega⟩
  have j1 : (0 : Int) ≤ (k : Int) ∧ (k : Int) ≤ (c : Int) := ⟨k0, by omega⟩
  repeat still_step
  refine still_load hl ?_
  repeat still_step
  refine wpStill_nil ?_
  clear hl
  go_wp2_with (first
    | ((with_reducible refine at_store (.tmp 3) ?_); refine wpList_store_arr (o := ⟨none, _, _, _, _, _⟩) rfl 84 _ _ rfl w.heap.size s Z rfl rfl _ BV.out.2 32 (by kernel_rfl) Z_len HS.out ?_; intro W6 HW6 TW6
       (have B6 : Hid (Below w.heap.size w W6) := Lib.hid (BV.out.1.trans (TW6.below BV.out.1.size (fun j hj e => by omega))))
       (clear TW6))
    | fail)
  exact bodyPost_ret (v := .tuple #[.slice (some ⟨g, off, none⟩) k c, .agg (cellsOf s), .bool true]) (results_mid rfl _ _ w.heap.size 84 _ _ _ rfl HW6 Tryz.underlying84 rfl (by rw [cellsOf_size, HS.out]; kernel_rfl) _ _ rfl rfl) rfl ⟨rfl, B6.out⟩

/-- What lasts in rootOf: the leaf's sum in its box, the result's cell, the outermost sum at g. -/
structure Ro (w : World) (x y s : List UInt8) (g : Nat) (W : World) : Prop where
  bel : Below w.heap.size w W
  bx : Has W w.heap.size 84 (cellsOf x)
  re : Has W (w.heap.size + 1) 84 (cellsOf y)
  ou : Has W g 84 (cellsOf s)
theorem Ro.below {w W W' : World} {x y s : List UInt8} {g : Nat} (h : Ro w x y s g W) (b : Below W.heap.size W W') : Ro w x y s g W' :=
  ⟨h.bel.trans (b.mono h.bel.size), h.bx.below b h.bx.lt, h.re.below b h.re.lt, h.ou.below b h.ou.lt⟩

set_option maxRecDepth 100000 in
set_option maxHeartbeats 1000000 in
theorem rootOf_one {x : List UInt8} (hx : x.length = 32) (i : Int) (a : Option Addr) (l c : Nat) (w : World) (e : Bool) (he : ((l : Int) == 0) = e) :
    Calls Tryz.prog 124 #[.agg (cellsOf x), .int .i64 i, .int .i64 1, .slice a l c] w fun en w' => en = .returned (.tuple #[.agg (cellsOf x), .bool e]) ∧ Below w.heap.size w w' := by
  have HX := Lib.hid hx
  clear hx
  go_enter Tryz.func124, Tryz.ntmps124
  go_wp2_with (first
    | ((with_reducible refine at_op 18 ?_); refine wpList_load_arr (o := ⟨some 18, _, _, _, _, _⟩) rfl 84 _ rfl w.heap.size rfl 84 x 5 32 ((made_at _ _ rfl).alloc _) Tryz.underlying84 (by kernel_rfl) HX.out ?_)
    | ((with_reducible refine at_store (.tmp 8) ?_); refine wpList_store_arr (o := ⟨none, _, _, _, _, _⟩) rfl 84 _ _ rfl (w.heap.size + 1) x Z rfl rfl _ (made_at _ _ (by simp)) 32 (by kernel_rfl) Z_len HX.out ?_; intro W6 HW6 TW6
       (have B6 : Hid (Below w.heap.size w W6) := Lib.hid ((((Below.refl _ _).alloc (Nat.le_refl _) _).alloc (by simp) _).trans (TW6.below (by simp; omega) (fun j hj e => by omega))))
       (clear TW6))
    | fail)
  exact bodyPost_ret (v := .tuple #[.agg (cellsOf x), .bool e]) (results_cell_tmp rfl _ _ (w.heap.size + 1) 84 _ _ _ rfl HW6 Tryz.underlying84 rfl (by rw [cellsOf_size, HX.out]; kernel_rfl) _ rfl) rfl ⟨rfl, B6.out⟩

set_option maxRecDepth 100000 in
set_option maxHeartbeats 1000000 in
theorem rootOf_none (x : List UInt8) (i n : Nat) (hn : n ≠ 1) (a : Option Addr) (c : Nat) (w : World) :
    Calls Tryz.prog 124 #[.agg (cellsOf x), .int .i64 i, .int .i64 n, .slice a 0 c] w fun en w' => en = .returned (.tuple #[.agg (cellsOf Z), .bool false]) ∧ Below w.heap.size w w' := by
  have h3 : ¬ (n : Int) = 1 := by omega
  go_enter Tryz.func124, Tryz.ntmps124
  go_wp2_with fail
  refine callsName (fun W hW => ?_)
  have K0 : Hid (Below w.heap.size w W ∧ Has W (w.heap.size + 1) 84 (cellsOf Z)) := by
    rw [← hW]; exact Lib.hid ⟨((Below.refl _ _).alloc (Nat.le_refl _) _).alloc (by simp) _, made_at _ _ (by simp)⟩
  clear hW
  refine (split_none a c W).mono ?_
  rintro en w1 ⟨rfl, b1⟩
  have K1 : Hid (Below w.heap.size w w1 ∧ Has w1 (w.heap.size + 1) 84 (cellsOf Z)) :=
    Lib.hid ⟨K0.out.1.trans (b1.mono K0.out.1.size), K0.out.2.below b1 K0.out.2.lt⟩
  clear K0 b1
  go_wp2_with (first
    | ((with_reducible refine at_store (.tmp 10) ?_); refine wpList_store_arr (o := ⟨none, _, _, _, _, _⟩) rfl 84 _ _ rfl w1.heap.size Z Z rfl rfl _ (made_at _ _ rfl) 32 (by kernel_rfl) Z_len Z_len ?_; intro W2 HW2 TW2
       (have K2 : Hid (Below w.heap.size w W2 ∧ Has W2 (w.heap.size + 1) 84 (cellsOf Z)) := Lib.hid ⟨K1.out.1.trans ((((Below.refl _ w1).alloc (Nat.le_refl _) _).trans (TW2.below (by simp) (fun j hj e => by omega))).mono K1.out.1.size), (K1.out.2.alloc _).turn TW2 (by have := K1.out.2.lt; omega)⟩)
       (clear TW2 HW2 K1))
    | ((with_reducible refine at_store (.tmp 8) ?_); refine wpList_store_arr (o := ⟨none, _, _, _, _, _⟩) rfl 84 _ _ rfl (w.heap.size + 1) Z Z rfl rfl _ K2.out.2 32 (by kernel_rfl) Z_len Z_len ?_; intro W6 HW6 TW6
       (have B6 : Hid (Below w.heap.size w W6) := Lib.hid (K2.out.1.trans (TW6.below K2.out.1.size (fun j hj e => by omega))))
       (clear TW6 K2))
    | fail)
  exact bodyPost_ret (v := .tuple #[.agg (cellsOf Z), .bool false]) (results_cell_tmp rfl _ _ (w.heap.size + 1) 84 _ _ _ rfl HW6 Tryz.underlying84 rfl (by rw [cellsOf_size, Z_len]; kernel_rfl) _ rfl) rfl ⟨rfl, B6.out⟩

theorem isEmpty_len (r : List (List UInt8)) : ((r.length : Int) == 0) = r.isEmpty := by
  cases r
  · rfl
  · rw [List.isEmpty_cons, beq_eq_false_iff_ne, List.length_cons]; omega

set_option maxRecDepth 100000 in
set_option maxHeartbeats 2000000 in
theorem rootOf_calls {x : List UInt8} (hx : x.length = 32) : ∀ (r : List (List UInt8)) (i n : Nat) (a : Option Addr) (c : Nat) (w : World), Rk w → Sms w (.slice a r.length c) r → i < n → n ≤ 1000000 →
    Calls Tryz.prog 124 #[.agg (cellsOf x), .int .i64 i, .int .i64 n, .slice a r.length c] w fun en w' => en = .returned (.tuple #[.agg (cellsOf (up Z x r i n).1), .bool (up Z x r i n).2]) ∧ Below w.heap.size w w' := by
  intro r
  induction r with
  | nil =>
    intro i n a c w hR hS hi hn
    by_cases h1 : n = 1
    · subst h1
      rw [up_one]
      exact rootOf_one hx i a 0 c w true rfl
    · rw [up_nil _ _ _ h1]
      exact rootOf_none x i n h1 a c w
  | cons s r ih =>
    intro i n a c w hR hS hi hn
    by_cases h1 : n = 1
    · subst h1
      rw [up_one]
      exact rootOf_one hx i a _ c w _ (isEmpty_len _)
    · have HX := Lib.hid hx
      have HR0 := Lib.hid hR
      have HS := Lib.hid hS
      have h2 : 2 ≤ n := by omega
      have h3 : ¬ (n : Int) = 1 := by omega
      obtain ⟨k, hk⟩ : ∃ k, k = half n := ⟨_, rfl⟩
      have hk1 := half_lt h2
      have hk0 := half_pos n
      rw [← hk] at hk1 hk0
      obtain ⟨m, hm⟩ : ∃ m, m = (s :: r).length := ⟨_, rfl⟩
      rw [← hm]
      have HSP : ∀ V, Hid (Sms V (.slice a m c) (s :: r) → Calls Tryz.prog 167 #[.slice a m c] V fun en w' => en = .returned (.tuple #[.slice a r.length c, .agg (cellsOf s), .bool true]) ∧ Below V.heap.size V w') := fun V => Lib.hid split_some
      have HM := Lib.hid hm
      have HH : ∀ V, Hid (Calls Tryz.prog 122 #[.int .i64 n] V fun en w' => en = .returned (.int .i64 k) ∧ V = w') := fun V => Lib.hid (by rw [hk]; exact half_calls n V h2 (by omega))
      have hsl : s.length = 32 := hS.2 s (by simp)
      have HL := Lib.hid hsl
      by_cases hik : i < k
      · have e := up_left Z x s r h1 (by rw [← hk]; exact hik)
        rw [← hk] at e
        have HI := Lib.hid (fun V hR' hS' => ih i k a c V hR' hS' hik (by omega))
        have hik2 : (i : Int) < (k : Int) := by omega
        have HE := Lib.hid e
        have HU := Lib.hid (up_len Z_len hx r i k)
        have HN := Lib.hid (show (nodeS (up Z x r i k).1 s).length = 32 from nodeS_length _ _)
        clear hR hS hx ih hk hm e hsl
        generalize up Z x (s :: r) i n = u at *
        go_enter Tryz.func124, Tryz.ntmps124
        go_wp2_with fail
        refine callsName (fun W hW => ?_)
        have K0 : Hid (Below w.heap.size w W ∧ Has W w.heap.size 84 (cellsOf x) ∧ Has W (w.heap.size + 1) 84 (cellsOf Z)) := by
          rw [← hW]; exact Lib.hid ⟨((Below.refl _ _).alloc (Nat.le_refl _) _).alloc (by simp) _, (made_at _ _ rfl).alloc _, made_at _ _ (by simp)⟩
        clear hW
        refine ((HSP W).out (by rw [HM.out]; exact HS.out.below K0.out.1)).mono ?_
        rintro en w1 ⟨rfl, b1⟩
        have K1 : Hid (Below w.heap.size w w1 ∧ Has w1 w.heap.size 84 (cellsOf x) ∧ Has w1 (w.heap.size + 1) 84 (cellsOf Z)) :=
          Lib.hid ⟨K0.out.1.trans (b1.mono K0.out.1.size), K0.out.2.1.below b1 K0.out.2.1.lt, K0.out.2.2.below b1 K0.out.2.2.lt⟩
        clear K0 b1
        go_wp2_with (first
          | ((with_reducible refine at_store (.tmp 10) ?_); refine wpList_store_arr (o := ⟨none, _, _, _, _, _⟩) rfl 84 _ _ rfl w1.heap.size s Z rfl rfl _ (made_at _ _ rfl) 32 (by kernel_rfl) Z_len HL.out ?_; intro W2 HW2 TW2
             (have K2 : Hid (Ro w x Z s w1.heap.size W2) := Lib.hid ⟨K1.out.1.trans ((((Below.refl _ w1).alloc (Nat.le_refl _) _).trans (TW2.below (by simp) (fun j hj e => by omega))).mono K1.out.1.size), (K1.out.2.1.alloc _).turn TW2 (by have := K1.out.2.1.lt; omega), (K1.out.2.2.alloc _).turn TW2 (by have := K1.out.2.2.lt; omega), HW2⟩)
             (clear TW2 HW2 K1))
          | fail)
        refine (HH W2).out.mono ?_
        rintro en w' ⟨rfl, rfl⟩
        go_wp2_with (first
          | ((with_reducible refine at_op 37 ?_); refine wpList_load_arr (o := ⟨some 37, _, _, _, _, _⟩) rfl 84 _ rfl w.heap.size rfl 84 x 5 32 K2.out.bx Tryz.underlying84 (by kernel_rfl) HX.out ?_)
          | fail)
        refine (HI.out W2 (HR0.out.below K2.out.bel) (HS.out.below K2.out.bel).cons.1).mono ?_
        rintro en w3 ⟨rfl, b3⟩
        have K3 : Hid (Ro w x Z s w1.heap.size w3) := Lib.hid (K2.out.below b3)
        clear K2 b3
        go_wp2_with (first
          | ((with_reducible refine at_store (.tmp 13) ?_); refine wpList_store_arr (o := ⟨none, _, _, _, _, _⟩) rfl 84 _ _ rfl w3.heap.size (up Z x r i k).1 Z rfl rfl _ (made_at _ _ rfl) 32 (by kernel_rfl) Z_len HU.out ?_; intro W4 HW4 TW4
             (have K4 : Hid (Ro w x Z s w1.heap.size W4 ∧ Has W4 w3.heap.size 84 (cellsOf (up Z x r i k).1)) := Lib.hid ⟨K3.out.below ((((Below.refl _ w3).alloc (Nat.le_refl _) _).trans (TW4.below (by simp) (fun j hj e => by omega)))), HW4⟩)
             (clear TW4 HW4 K3))
          | ((with_reducible refine at_op 44 ?_); refine wpList_load_arr (o := ⟨some 44, _, _, _, _, _⟩) rfl 84 _ rfl w3.heap.size rfl 84 (up Z x r i k).1 5 32 K4.out.2 Tryz.underlying84 (by kernel_rfl) HU.out ?_)
          | ((with_reducible refine at_op 45 ?_); refine wpList_load_arr (o := ⟨some 45, _, _, _, _, _⟩) rfl 84 _ rfl w1.heap.size rfl 84 s 5 32 K4.out.1.ou Tryz.underlying84 (by kernel_rfl) HL.out ?_)
          | fail)
        refine (node_calls (up Z x r i k).1 s W4 (HR0.out.below K4.out.1.bel) HU.out HL.out).mono ?_
        rintro en w5 ⟨rfl, b5⟩
        have K5 : Hid (Ro w x Z s w1.heap.size w5) := Lib.hid (K4.out.1.below b5)
        clear K4 b5
        go_wp2_with (first
          | ((with_reducible refine at_store (.tmp 8) ?_); refine wpList_store_arr (o := ⟨none, _, _, _, _, _⟩) rfl 84 _ _ rfl (w.heap.size + 1) (nodeS (up Z x r i k).1 s) Z rfl rfl _ K5.out.re 32 (by kernel_rfl) Z_len HN.out ?_; intro W6 HW6 TW6
             (have B6 : Hid (Below w.heap.size w W6) := Lib.hid (K5.out.bel.trans (TW6.below K5.out.bel.size (fun j hj e => by omega))))
             (clear TW6 K5))
          | fail)
        rw [HE.out]
        exact bodyPost_ret (v := .tuple #[.agg (cellsOf (nodeS (up Z x r i k).1 s)), .bool (up Z x r i k).2]) (results_cell_tmp rfl _ _ (w.heap.size + 1) 84 _ _ _ rfl HW6 Tryz.underlying84 rfl (by rw [cellsOf_size, HN.out]; kernel_rfl) _ rfl) rfl ⟨rfl, B6.out⟩
      · have e := up_right Z x s r h1 (by rw [← hk]; exact hik)
        rw [← hk] at e
        obtain ⟨i', hi'⟩ : ∃ i', i' = i - k := ⟨_, rfl⟩
        obtain ⟨n', hn'⟩ : ∃ n', n' = n - k := ⟨_, rfl⟩
        rw [← hi', ← hn'] at e
        have HI := Lib.hid (fun V hR' hS' => ih i' n' a c V hR' hS' (by omega) (by omega))
        have hik2 : ¬ (i : Int) < (k : Int) := by omega
        have ha1 : (i : Int) - (k : Int) = (i' : Int) := by omega
        have ha2 : (n : Int) - (k : Int) = (n' : Int) := by omega
        have ha3 : (i' : Int) ≤ 1000000 := by omega
        have ha4 : (n' : Int) ≤ 1000000 := by omega
        have HE := Lib.hid e
        have HU := Lib.hid (up_len Z_len hx r i' n')
        have HN := Lib.hid (show (nodeS s (up Z x r i' n').1).length = 32 from nodeS_length _ _)
        clear hR hS hx ih hk hm e hsl hi' hn'
        generalize up Z x (s :: r) i n = u at *
        go_enter Tryz.func124, Tryz.ntmps124
        go_wp2_with fail
        refine callsName (fun W hW => ?_)
        have K0 : Hid (Below w.heap.size w W ∧ Has W w.heap.size 84 (cellsOf x) ∧ Has W (w.heap.size + 1) 84 (cellsOf Z)) := by
          rw [← hW]; exact Lib.hid ⟨((Below.refl _ _).alloc (Nat.le_refl _) _).alloc (by simp) _, (made_at _ _ rfl).alloc _, made_at _ _ (by simp)⟩
        clear hW
        refine ((HSP W).out (by rw [HM.out]; exact HS.out.below K0.out.1)).mono ?_
        rintro en w1 ⟨rfl, b1⟩
        have K1 : Hid (Below w.heap.size w w1 ∧ Has w1 w.heap.size 84 (cellsOf x) ∧ Has w1 (w.heap.size + 1) 84 (cellsOf Z)) :=
          Lib.hid ⟨K0.out.1.trans (b1.mono K0.out.1.size), K0.out.2.1.below b1 K0.out.2.1.lt, K0.out.2.2.below b1 K0.out.2.2.lt⟩
        clear K0 b1
        go_wp2_with (first
          | ((with_reducible refine at_store (.tmp 10) ?_); refine wpList_store_arr (o := ⟨none, _, _, _, _, _⟩) rfl 84 _ _ rfl w1.heap.size s Z rfl rfl _ (made_at _ _ rfl) 32 (by kernel_rfl) Z_len HL.out ?_; intro W2 HW2 TW2
             (have K2 : Hid (Ro w x Z s w1.heap.size W2) := Lib.hid ⟨K1.out.1.trans ((((Below.refl _ w1).alloc (Nat.le_refl _) _).trans (TW2.below (by simp) (fun j hj e => by omega))).mono K1.out.1.size), (K1.out.2.1.alloc _).turn TW2 (by have := K1.out.2.1.lt; omega), (K1.out.2.2.alloc _).turn TW2 (by have := K1.out.2.2.lt; omega), HW2⟩)
             (clear TW2 HW2 K1))
          | fail)
        refine (HH W2).out.mono ?_
        rintro en w' ⟨rfl, rfl⟩
        go_wp2_with (first
          | ((with_reducible refine at_op 49 ?_); refine wpList_load_arr (o := ⟨some 49, _, _, _, _, _⟩) rfl 84 _ rfl w.heap.size rfl 84 x 5 32 K2.out.bx Tryz.underlying84 (by kernel_rfl) HX.out ?_)
          | fail)
        refine (HI.out W2 (HR0.out.below K2.out.bel) (HS.out.below K2.out.bel).cons.1).mono ?_
        rintro en w3 ⟨rfl, b3⟩
        have K3 : Hid (Ro w x Z s w1.heap.size w3) := Lib.hid (K2.out.below b3)
        clear K2 b3
        go_wp2_with (first
          | ((with_reducible refine at_store (.tmp 15) ?_); refine wpList_store_arr (o := ⟨none, _, _, _, _, _⟩) rfl 84 _ _ rfl w3.heap.size (up Z x r i' n').1 Z rfl rfl _ (made_at _ _ rfl) 32 (by kernel_rfl) Z_len HU.out ?_; intro W4 HW4 TW4
             (have K4 : Hid (Ro w x Z s w1.heap.size W4 ∧ Has W4 w3.heap.size 84 (cellsOf (up Z x r i' n').1)) := Lib.hid ⟨K3.out.below ((((Below.refl _ w3).alloc (Nat.le_refl _) _).trans (TW4.below (by simp) (fun j hj e => by omega)))), HW4⟩)
             (clear TW4 HW4 K3))
          | ((with_reducible refine at_op 60 ?_); refine wpList_load_arr (o := ⟨some 60, _, _, _, _, _⟩) rfl 84 _ rfl w1.heap.size rfl 84 s 5 32 K4.out.1.ou Tryz.underlying84 (by kernel_rfl) HL.out ?_)
          | ((with_reducible refine at_op 61 ?_); refine wpList_load_arr (o := ⟨some 61, _, _, _, _, _⟩) rfl 84 _ rfl w3.heap.size rfl 84 (up Z x r i' n').1 5 32 K4.out.2 Tryz.underlying84 (by kernel_rfl) HU.out ?_)
          | fail)
        refine (node_calls s (up Z x r i' n').1 W4 (HR0.out.below K4.out.1.bel) HL.out HU.out).mono ?_
        rintro en w5 ⟨rfl, b5⟩
        have K5 : Hid (Ro w x Z s w1.heap.size w5) := Lib.hid (K4.out.1.below b5)
        clear K4 b5
        go_wp2_with (first
          | ((with_reducible refine at_store (.tmp 8) ?_); refine wpList_store_arr (o := ⟨none, _, _, _, _, _⟩) rfl 84 _ _ rfl (w.heap.size + 1) (nodeS s (up Z x r i' n').1) Z rfl rfl _ K5.out.re 32 (by kernel_rfl) Z_len HN.out ?_; intro W6 HW6 TW6
             (have B6 : Hid (Below w.heap.size w W6) := Lib.hid (K5.out.bel.trans (TW6.below K5.out.bel.size (fun j hj e => by omega))))
             (clear TW6 K5))
          | fail)
        rw [HE.out]
        exact bodyPost_ret (v := .tuple #[.agg (cellsOf (nodeS s (up Z x r i' n').1)), .bool (up Z x r i' n').2]) (results_cell_tmp rfl _ _ (w.heap.size + 1) 84 _ _ _ rfl HW6 Tryz.underlying84 rfl (by rw [cellsOf_size, HN.out]; kernel_rfl) _ rfl) rfl ⟨rfl, B6.out⟩
end Go.Proofs.YtcdedkgkingbdaaGreatDoor.prf
end

section
/- proof: bothRoots. -/
namespace Go.Proofs.YtcdedkgkingbdaaGreatDoor.prf
open Go Go.RowKit Go.Proofs.YtcdedkgkingbdaaGreatDoor.dig

/-- What lasts in bothRoots: the elder head in its box, the two results' cells. -/
structure Bo (w : World) (N : Int) (o y1 y2 : List UInt8) (W : World) : Prop where
  bel : Below w.heap.size w W
  hd : Has W w.heap.size 86 (headC N o)
  r1 : Has W (w.heap.size + 1) 84 (cellsOf y1)
  r2 : Has W (w.heap.size + 1 + 1) 84 (cellsOf y2)
section
variable {w W W' : World} {N : Int} {o y1 y2 y : List UInt8}
theorem Bo.below (h : Bo w N o y1 y2 W) (b : Below W.heap.size W W') : Bo w N o y1 y2 W' :=
  ⟨h.bel.trans (b.mono h.bel.size), h.hd.below b h.hd.lt, h.r1.below b h.r1.lt, h.r2.below b h.r2.lt⟩
theorem Bo.drew (h : Bo w N o y1 y2 W) : Bo w N o y1 y2 W.drew := h.below (Below.refl _ _).drew
theorem Bo.made (w : World) (N : Int) (o : List UInt8) : Bo w N o Z Z (((w.alloc (.cells (headC N o) 86)).alloc (.cells (cellsOf Z) 84)).alloc (.cells (cellsOf Z) 84)) :=
  ⟨(((Below.refl _ _).alloc (Nat.le_refl _) _).alloc (by simp) _).alloc (by simp; omega) _, ((made_at _ _ rfl).alloc _).alloc _, (made_at _ _ (by simp)).alloc _, made_at _ _ (by simp)⟩
theorem Bo.st1 (h : Bo w N o y1 y2 W) (hW : Has W' (w.heap.size + 1) 84 (cellsOf y)) (t : Turn (fun k => k = w.heap.size + 1) W W') : Bo w N o y y2 W' :=
  ⟨h.bel.trans (t.below h.bel.size (fun j hj e => by omega)), h.hd.turn t (by omega), hW, h.r2.turn t (by omega)⟩
end

theorem wp_region_held {P : Program} {ops : Array Oper} {Q : Exit → Act → World → Prop} {id : Nat} {a : Act} {w : World} (S : World → Prop) (V : World) (hV : V = w.drew) (hm : P.follows .mixedOrders = true)
    (h : wpAnyH P .any ops Q S ops.size (Array.replicate ops.size false) a V) : (Code.region id ops true).wp P Q a w := by
  subst hV
  exact wp_region_any hm (wpAny_of_held _ _ _ _ h)

end Go.Proofs.YtcdedkgkingbdaaGreatDoor.prf
end

section
/- proof: bothRoots, where there is an outermost sum. -/
namespace Go.Proofs.YtcdedkgkingbdaaGreatDoor.prf
open Go Go.RowKit Go.Proofs.YtcdedkgkingbdaaGreatDoor.dig


end Go.Proofs.YtcdedkgkingbdaaGreatDoor.prf
end

section
/- proof: bothRoots, the lower half. -/
namespace Go.Proofs.YtcdedkgkingbdaaGreatDoor.prf
open Go Go.RowKit Go.Proofs.YtcdedkgkingbdaaGreatDoor.dig



end Go.Proofs.YtcdedkgkingbdaaGreatDoor.prf
end

section
/- proof: bothRoots, the upper half. -/
namespace Go.Proofs.YtcdedkgkingbdaaGreatDoor.prf
open Go Go.RowKit Go.Proofs.YtcdedkgkingbdaaGreatDoor.dig



end Go.Proofs.YtcdedkgkingbdaaGreatDoor.prf
end

section
/- proof: bothRoots whole. -/
namespace Go.Proofs.YtcdedkgkingbdaaGreatDoor.prf
open Go Go.RowKit Go.Proofs.YtcdedkgkingbdaaGreatDoor.dig

end Go.Proofs.YtcdedkgkingbdaaGreatDoor.prf
end

section
/- proof: elder. -/
namespace Go.Proofs.YtcdedkgkingbdaaGreatDoor.prf
open Go Go.RowKit Go.Proofs.YtcdedkgkingbdaaGreatDoor.dig

theorem Has.load_sum {w : World} {g : Nat} {o : List UInt8} (h : Has w g 84 (cellsOf o)) (ho : o.length = 32) : (Instr.loadAt 84 (.pointer (some ⟨g, 0, none⟩))).run Tryz.prog w = .ok (.agg (cellsOf o)) w :=
  run_loadAt_mid w g 0 84 (o.map byteV) _ (Has.range h) Tryz.underlying84 rfl (by rw [List.length_map, ho]; kernel_rfl)

end Go.Proofs.YtcdedkgkingbdaaGreatDoor.prf
end

section
/- proof: elder, of an elder head over some leaves. -/
namespace Go.Proofs.YtcdedkgkingbdaaGreatDoor.prf
open Go Go.RowKit Go.Proofs.YtcdedkgkingbdaaGreatDoor.dig

end Go.Proofs.YtcdedkgkingbdaaGreatDoor.prf
end

