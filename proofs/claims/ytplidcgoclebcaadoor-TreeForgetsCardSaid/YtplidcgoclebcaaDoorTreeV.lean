/- tree: Root below the floor; other sums beyond the leaves; a tree, and one like it that forgets. -/
import Derived.Test.YtplidcgoclebcaaDoorTreeU
import Derived.Test.YtplidcgoclebcaaDoorTreeP
namespace Go.Proofs.YtplidcgoclebcaaDoor.dig
open Go Go.RowKit

theorem run_neq_same (xs : List UInt8) (hx : xs.length = 32) (w : World) : (binOp .neq 32 (.agg (cellsOf xs)) (.agg (cellsOf xs))).run Tryd.prog w = .ok (.bool false) w := by
  simp only [binOp]
  have := run_equalIn_bytes (P := Tryd.prog) 9998 (t := 32) (e := 5) 32 Tryd.underlying32 Tryd.underlying5 (by kernel_rfl) xs xs hx hx w
  simp [Op.equal, Op.maxDepth, this]

theorem run_eqin_same (xs : List UInt8) (hx : xs.length = 32) (w : World) : (Op.equalIn 10000 32 (.agg (cellsOf xs)) (.agg (cellsOf xs))).run Tryd.prog w = .ok true w := by
  have := run_equalIn_bytes (P := Tryd.prog) 9998 (t := 32) (e := 5) 32 Tryd.underlying32 Tryd.underlying5 (by kernel_rfl) xs xs hx hx w
  simpa using this
theorem path_all {f : Nat → List UInt8} (h : ∀ i, (f i).length = 32) : ∀ (n i a : Nat) (x : List UInt8), x ∈ path f i a n → x.length = 32 := by
  intro n
  induction n using Nat.strongRecOn with
  | _ n ih =>
    intro i a x hx
    rw [path] at hx
    by_cases h2 : 2 ≤ n
    · rw [dif_pos h2] at hx
      have l1 := half_lt h2
      have l2 := half_pos n
      split at hx
      · rcases List.mem_append.1 hx with hx | hx
        · exact ih _ l1 _ _ _ hx
        · rw [List.mem_singleton.1 hx]; exact rt_len h _ _ (by omega)
      · rcases List.mem_append.1 hx with hx | hx
        · exact ih _ (by omega) _ _ _ hx
        · rw [List.mem_singleton.1 hx]; exact rt_len h _ _ l2
    · rw [dif_neg h2] at hx; cases hx
/-- A sum in a slice of sums. -/
theorem seg_sum {w : World} {a : Option Addr} {n c : Nat} {l : List (List UInt8)} (h : Seg w 32 32 (.slice a n c) n (sumsC l)) (hl : ∀ x ∈ l, x.length = 32) {t : Nat} {x : List UInt8} (hx : l[t]? = some x) (hn : 0 < n) :
    ∃ g off, a = some ⟨g, off, none⟩ ∧ g < w.heap.size ∧ w.rangeAt g (off + t * 32) (x.map byteV) := by
  obtain ⟨g, off, c', e, hg, _, _, hc⟩ := h.cells hn
  simp only [Value.slice.injEq] at e
  obtain ⟨rfl, _, rfl⟩ := e
  exact ⟨g, off, rfl, hg, fun j u hj => by rw [Nat.add_assoc]; exact hc _ u (sumsC_at l t x j u hl hx hj)⟩

/-- Sums beyond the leaves make no difference. -/
theorem Tr.fcongr {B : Nat} {F : Nat → Prop} {w : World} {b n fl : Nat} {f f' : Nat → List UInt8} (h : Tr B F w b n fl f) (e : ∀ i, i < n → f i = f' i) (hl : ∀ i, (f' i).length = 32) : Tr B F w b n fl f' := by
  obtain ⟨rv, sv, idle, r⟩ := h.raw
  refine ⟨⟨rv, sv, idle, r.tree, r.rows, fun j hj => ?_, r.apart, r.fb, r.fr, r.fs, r.idle⟩, h.rt, h.hF, hl, h.small, h.floor⟩
  have hc : flat (nodeC f j) (gone fl j) (n / 2 ^ j - gone fl j) = flat (nodeC f' j) (gone fl j) (n / 2 ^ j - gone fl j) := by
    refine flat_congr fun i _ hi => ?_
    have h0 : 0 < 2 ^ j := Nat.pow_pos (by decide)
    have h1 : (i + 1) * 2 ^ j ≤ n := by
      have h2 : i + 1 ≤ n / 2 ^ j := by omega
      exact Nat.le_trans (Nat.mul_le_mul_right _ h2) (Nat.div_mul_le_self _ _)
    rw [Nat.succ_mul] at h1
    unfold nodeC
    rw [rt_congr f f' (2 ^ j) (i * 2 ^ j) h0 (fun x _ hx => e x (by omega))]
  rw [← hc]
  exact r.sums j hj

set_option maxRecDepth 100000 in
set_option maxHeartbeats 1000000 in
theorem Tr.root_low {B : Nat} {F : Nat → Prop} {w : World} {b N fl : Nat} {f : Nat → List UInt8} (hT : Tr B F w b N fl f) (n : Nat) (hn : n < fl) :
    Calls Tryd.prog 13 #[.pointer (some ⟨b, 0, none⟩), .int .i64 n] w fun en w' => en = .returned (.tuple #[.agg (cellsOf (List.replicate 32 0)), .int .i64 14]) ∧ Below w.heap.size w w' := by
  obtain ⟨rv, hh⟩ := hT.head
  have e0 : ∀ O, (w.alloc O).cell? ⟨b, 0, none⟩ = some (.int .i64 N) := fun O => (hh.alloc O).cell 0
  have e1 : ∀ O, (w.alloc O).cell? ⟨b, 1, none⟩ = some (.int .i64 fl) := fun O => (hh.alloc O).cell 1
  have hfl := hT.floor
  have h1 : ¬ (n : Int) < 0 := by omega
  have h2 : ¬ (n : Int) > (N : Int) := by omega
  have h5 : (n : Int) < (fl : Int) := by omega
  clear hT hh
  go_enter Tryd.func13, Tryd.ntmps13
  go_wp2_with (first
    | (refine wpList_store_arr (o := ⟨none, _, _, _, _, _⟩) rfl 32 _ _ rfl w.heap.size (List.replicate 32 0) (List.replicate 32 0) rfl rfl _ (made_at _ _ rfl) 32 (by kernel_rfl) (by simp) (by simp) ?_; intro W6 HW6 TW6)
    | fail)
  exact bodyPost_ret (v := .tuple #[.agg (cellsOf (List.replicate 32 0)), .int .i64 14]) (results_cell_tmp rfl _ _ w.heap.size 32 _ _ _ rfl HW6 Tryd.underlying32 rfl (by kernel_rfl) _ rfl) rfl ⟨rfl, ((Below.refl _ _).alloc (Nat.le_refl _) _).trans (TW6.below (by simp) (fun j hj e => by omega))⟩

/-- Two trees over the texts L, N of them: the other one's floor is fl. -/
structure Pf (w : World) (a b N fl : Nat) (L : List ByteArray) (w' : World) : Prop where
  ta : ∃ F, Tr w.heap.size F w' a N 0 (leafF L)
  tb : ∃ F, Tr w.heap.size F w' b N fl (leafF L)
  bel : Below w.heap.size w w'
theorem Pf.more {w w' w2 : World} {a b N fl : Nat} {L : List ByteArray} (h : Pf w a b N fl L w') (bb : Below w'.heap.size w' w2) : Pf w a b N fl L w2 := by
  obtain ⟨Fa, ha⟩ := h.ta
  obtain ⟨Fb, hb⟩ := h.tb
  exact ⟨⟨Fa, ha.below bb⟩, ⟨Fb, hb.below bb⟩, h.bel.trans (bb.mono h.bel.size)⟩
theorem Pr.forget_b {w w' : World} {a b N : Nat} {v : Value} {L : List ByteArray} (h : Pr w a b v L N N w') (p : Nat) (hp : p ≤ N) :
    Calls Tryd.prog 12 #[.pointer (some ⟨b, 0, none⟩), .int .i64 p] w' fun en w2 => en = .returned (.int .i64 0) ∧ Pf w a b N p L w2 := by
  obtain ⟨Fa, Fb, h1, h2, h3, h4, h5⟩ := h.tr
  refine (h2.forget p (Nat.zero_le _) hp).mono ?_
  rintro en w2 ⟨rfl, t2, u2⟩
  exact ⟨rfl, ⟨Fa, h1.turn u2 (fun x hx _ => (h3 x hx).2) (fun x hx => h2.hF x hx)⟩, ⟨_, t2⟩, turn_below h.bel u2 h.bel.size (fun x hx => h2.hF x hx)⟩
end Go.Proofs.YtplidcgoclebcaaDoor.dig
