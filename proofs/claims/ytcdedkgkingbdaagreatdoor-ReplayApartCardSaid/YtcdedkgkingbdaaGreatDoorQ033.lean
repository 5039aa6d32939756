/- replay: an op of any kind is read from its bytes; a command's bytes, and back. -/
import Derived.Test.YtcdedkgkingbdaaGreatDoorQ032
import Derived.Test.YtcdedkgkingbdaaGreatDoorQ029
import Derived.Test.YtcdedkgkingbdaaGreatDoorQ006
namespace Go.Proofs.YtcdedkgkingbdaaGreatDoor.rep
open Go Go.RowKit Go.Proofs.YtcdedkgkingbdaaGreatDoor.object

theorem gt_kind {o : text.OpV} (h : GT o) : o.k = 1 ∨ o.k = 2 := by
  obtain ⟨_, _, h⟩ := text.chk_ok h
  omega
theorem ttake_calls (o : text.OpV) (ho : GT o) (b : Nat) (R : List UInt8) (w : World) (hL : Left w b (opT o ++ R)) : Calls Tryz.prog 157 #[.pointer (some ⟨b, 0, none⟩)] w (TakeO w b R #[.int .i64 o.k, .int .i64 o.a, .string o.x, .int .i64 o.n]) := by
  obtain ⟨k, a, x, n⟩ := o
  rcases gt_kind ho with h | h
  · obtain rfl : k = 1 := h
    exact ttake1 a n x ho b R w hL
  · obtain rfl : k = 2 := h
    exact ttake2 a n x ho b R w hL
theorem ltake_calls (o : OpL) (ho : GL o) (b : Nat) (R : List UInt8) (w : World) (hL : Left w b (opL o ++ R)) : Calls Tryz.prog 158 #[.pointer (some ⟨b, 0, none⟩)] w (TakeO w b R #[.int .i64 o.k, .string o.s, .string o.t, .int .i64 o.n]) := by
  obtain ⟨k, s, t, n⟩ := o
  have h := (gl_parts ho).1
  dsimp only at h
  by_cases hk : k = 3
  · exact ltake3 k n s t ho hk b R w hL
  · exact ltake1 k n s t ho (by omega) b R w hL


set_option maxRecDepth 100000 in
set_option maxHeartbeats 4000000 in
theorem otake1 (tk ta tn : Int) (tx : ByteArray) (ho : GT ⟨tk, ta, tx, tn⟩) (b : Nat) (R : List UInt8) (w : World) (hL : Left w b (enc (1 : Int).toNat ++ (opT ⟨tk, ta, tx, tn⟩ ++ R))) :
    Calls Tryz.prog 113 #[.pointer (some ⟨b, 0, none⟩)] w (TakeO w b R #[.int .i64 1, .int .i64 tk, .int .i64 ta, .string tx, .int .i64 tn, .int .i64 0, .string ⟨#[]⟩, .string ⟨#[]⟩, .int .i64 0, .int .i64 0, .string ⟨#[]⟩, .int .i64 0]) := by
  obtain ⟨R1, hR1⟩ : ∃ R1, R1 = opT ⟨tk, ta, tx, tn⟩ ++ R := ⟨_, rfl⟩
  rw [← hR1] at hL
  have HR1 := Lib.hid hR1
  have HLF := Lib.hid hL
  have HO := Lib.hid ho
  have HKT : Hid ((((1 : Int).toNat : Nat) : Int) = 1) := Lib.hid (by decide)
  clear hL hR1 ho
  go_enter Tryz.func113, Tryz.ntmps113
  go_wp2_with fail
  refine callsName (fun W hW => ?_)
  have H0 : Hid (Left W b (enc (1 : Int).toNat ++ R1) ∧ Has W w.heap.size 39 #[.int .i64 0, .int .i64 0, .int .i64 0, .string ⟨#[]⟩, .int .i64 0, .int .i64 0, .string ⟨#[]⟩, .string ⟨#[]⟩, .int .i64 0, .int .i64 0, .string ⟨#[]⟩, .int .i64 0] ∧ Turn (fun k => k = b) w W ∧ b < w.heap.size) := by rw [← hW]; exact Lib.hid ⟨HLF.out.alloc _, made_at _ _ rfl, (Turn.refl _ w).alloc _, HLF.out.lt⟩
  clear hW HLF
  have hc := H0.out.1.upto 3 (by omega) (by decide)
  rw [HKT.out] at hc
  refine hc.mono ?_
  rintro en w1 ⟨rfl, l1, t1⟩
  have H1 : Hid (Left w1 b R1 ∧ Has w1 w.heap.size 39 #[.int .i64 0, .int .i64 0, .int .i64 0, .string ⟨#[]⟩, .int .i64 0, .int .i64 0, .string ⟨#[]⟩, .string ⟨#[]⟩, .int .i64 0, .int .i64 0, .string ⟨#[]⟩, .int .i64 0] ∧ Turn (fun k => k = b) w w1 ∧ b < w.heap.size) := Lib.hid ⟨l1, H0.out.2.1.turn t1 (by have := H0.out.2.2.2; omega), H0.out.2.2.1.trans t1 (fun _ _ e => e), H0.out.2.2.2⟩
  clear l1 t1 H0 hc
  obtain ⟨g, hg⟩ : ∃ g, g = w1.heap.size := ⟨_, rfl⟩
  have HG := Lib.hid hg
  clear hg
  go_wp2_with (first
    | ((with_reducible refine at_store (.tmp 3) ?_); refine wpList_store_all (o := ⟨none, _, _, _, _, _⟩) rfl 39 (.tmp 3) (.tmp 6) rfl w1.heap.size #[.int .i64 1, .int .i64 0, .int .i64 0, .string ⟨#[]⟩, .int .i64 0, .int .i64 0, .string ⟨#[]⟩, .string ⟨#[]⟩, .int .i64 0, .int .i64 0, .string ⟨#[]⟩, .int .i64 0] #[.int .i64 0, .int .i64 0, .int .i64 0, .string ⟨#[]⟩, .int .i64 0, .int .i64 0, .string ⟨#[]⟩, .string ⟨#[]⟩, .int .i64 0, .int .i64 0, .string ⟨#[]⟩, .int .i64 0] rfl rfl _ (made_at _ _ rfl) (by kernel_rfl) rfl (by simp [Value.oneCell']) ?_; intro W HWa TWa;
       have q0 : W.cell? ⟨w1.heap.size, 0, none⟩ = some (.int .i64 1) := HWa.cell 0)
    | fail)
  clear q0
  have K0 : Hid (Tk w b 39 #[.int .i64 0, .int .i64 0, .int .i64 0, .string ⟨#[]⟩, .int .i64 0, .int .i64 0, .string ⟨#[]⟩, .string ⟨#[]⟩, .int .i64 0, .int .i64 0, .string ⟨#[]⟩, .int .i64 0] (opT ⟨tk, ta, tx, tn⟩ ++ R) g #[.int .i64 1, .int .i64 0, .int .i64 0, .string ⟨#[]⟩, .int .i64 0, .int .i64 0, .string ⟨#[]⟩, .string ⟨#[]⟩, .int .i64 0, .int .i64 0, .string ⟨#[]⟩, .int .i64 0] W) := by
    rw [← HR1.out, HG.out]
    have hlt := H1.out.1.lt
    have hlw := H1.out.2.1.lt
    exact Lib.hid ⟨(H1.out.1.alloc _).turn TWa (by omega), (H1.out.2.1.alloc _).turn TWa (by omega), HWa, (H1.out.2.2.1.alloc _).trans TWa (fun j hj e => by omega), H1.out.2.2.2, hlw⟩
  rw [← HG.out]
  clear HWa TWa H1 HG
  refine (ttake_calls ⟨tk, ta, tx, tn⟩ HO.out b R W K0.out.left).mono ?_
  rintro en v1 ⟨rfl, l, t⟩
  have K1 := Lib.hid (K0.out.read l t)
  clear l t K0
  go_wp2_with (first
    | ((with_reducible refine at_store (.tmp 15) ?_); refine wpList_store_piece (o := ⟨none, _, _, _, _, _⟩) rfl 33 (.tmp 15) (.tmp 14) rfl g 1 #[.int .i64 tk, .int .i64 ta, .string tx, .int .i64 tn] #[.int .i64 1, .int .i64 0, .int .i64 0, .string ⟨#[]⟩, .int .i64 0, .int .i64 0, .string ⟨#[]⟩, .string ⟨#[]⟩, .int .i64 0, .int .i64 0, .string ⟨#[]⟩, .int .i64 0] #[.int .i64 1, .int .i64 tk, .int .i64 ta, .string tx, .int .i64 tn, .int .i64 0, .string ⟨#[]⟩, .string ⟨#[]⟩, .int .i64 0, .int .i64 0, .string ⟨#[]⟩, .int .i64 0] rfl rfl 39 K1.out.box (by kernel_rfl) (by show 1 + 4 ≤ 12; omega) (by simp [Value.oneCell']) rfl ?_; intro Wp HWp TWp)
    | fail)
  have K2 := Lib.hid (K1.out.stored HWp TWp)
  clear HWp TWp K1
  refine (K2.out.left.err).mono ?_
  rintro en v2 ⟨rfl, rfl⟩
  go_wp2_with (first
    | ((with_reducible refine at_op 30 ?_); refine wpList_load_row (o := ⟨some 30, _, _, _, _, _⟩) rfl 39 _ rfl g rfl 39 #[.int .i64 1, .int .i64 tk, .int .i64 ta, .string tx, .int .i64 tn, .int .i64 0, .string ⟨#[]⟩, .string ⟨#[]⟩, .int .i64 0, .int .i64 0, .string ⟨#[]⟩, .int .i64 0] (0, 0) _ K2.out.box Tryz.underlying39 rfl (by kernel_rfl) ?_)
    | ((with_reducible refine at_store (.tmp 2) ?_); refine wpList_store_all (o := ⟨none, _, _, _, _, _⟩) rfl 39 (.tmp 2) (.tmp 30) rfl w.heap.size #[.int .i64 1, .int .i64 tk, .int .i64 ta, .string tx, .int .i64 tn, .int .i64 0, .string ⟨#[]⟩, .string ⟨#[]⟩, .int .i64 0, .int .i64 0, .string ⟨#[]⟩, .int .i64 0] #[.int .i64 0, .int .i64 0, .int .i64 0, .string ⟨#[]⟩, .int .i64 0, .int .i64 0, .string ⟨#[]⟩, .string ⟨#[]⟩, .int .i64 0, .int .i64 0, .string ⟨#[]⟩, .int .i64 0] rfl rfl _ K2.out.res (by kernel_rfl) rfl (by simp [Value.oneCell']) ?_; intro Wb HWb TWb)
    | fail)
  exact bodyPost_ret (v := .agg #[.int .i64 1, .int .i64 tk, .int .i64 ta, .string tx, .int .i64 tn, .int .i64 0, .string ⟨#[]⟩, .string ⟨#[]⟩, .int .i64 0, .int .i64 0, .string ⟨#[]⟩, .int .i64 0]) (results_cell_row rfl _ _ w.heap.size 39 _ _ _ rfl HWb Tryz.underlying39 rfl (by kernel_rfl)) rfl
    ⟨rfl, K2.out.left.turn TWb (by have := K2.out.ord; omega), K2.out.turn.trans TWb (fun j hj e => by omega)⟩

set_option maxRecDepth 100000 in
set_option maxHeartbeats 4000000 in
theorem otake2 (lk ln : Int) (ls lt : ByteArray) (ho : GL ⟨lk, ls, lt, ln⟩) (b : Nat) (R : List UInt8) (w : World) (hL : Left w b (enc (2 : Int).toNat ++ (opL ⟨lk, ls, lt, ln⟩ ++ R))) :
    Calls Tryz.prog 113 #[.pointer (some ⟨b, 0, none⟩)] w (TakeO w b R #[.int .i64 2, .int .i64 0, .int .i64 0, .string ⟨#[]⟩, .int .i64 0, .int .i64 lk, .string ls, .string lt, .int .i64 ln, .int .i64 0, .string ⟨#[]⟩, .int .i64 0]) := by
  obtain ⟨R1, hR1⟩ : ∃ R1, R1 = opL ⟨lk, ls, lt, ln⟩ ++ R := ⟨_, rfl⟩
  rw [← hR1] at hL
  have HR1 := Lib.hid hR1
  have HLF := Lib.hid hL
  have HO := Lib.hid ho
  have HKT : Hid ((((2 : Int).toNat : Nat) : Int) = 2) := Lib.hid (by decide)
  clear hL hR1 ho
  go_enter Tryz.func113, Tryz.ntmps113
  go_wp2_with fail
  refine callsName (fun W hW => ?_)
  have H0 : Hid (Left W b (enc (2 : Int).toNat ++ R1) ∧ Has W w.heap.size 39 #[.int .i64 0, .int .i64 0, .int .i64 0, .string ⟨#[]⟩, .int .i64 0, .int .i64 0, .string ⟨#[]⟩, .string ⟨#[]⟩, .int .i64 0, .int .i64 0, .string ⟨#[]⟩, .int .i64 0] ∧ Turn (fun k => k = b) w W ∧ b < w.heap.size) := by rw [← hW]; exact Lib.hid ⟨HLF.out.alloc _, made_at _ _ rfl, (Turn.refl _ w).alloc _, HLF.out.lt⟩
  clear hW HLF
  have hc := H0.out.1.upto 3 (by omega) (by decide)
  rw [HKT.out] at hc
  refine hc.mono ?_
  rintro en w1 ⟨rfl, l1, t1⟩
  have H1 : Hid (Left w1 b R1 ∧ Has w1 w.heap.size 39 #[.int .i64 0, .int .i64 0, .int .i64 0, .string ⟨#[]⟩, .int .i64 0, .int .i64 0, .string ⟨#[]⟩, .string ⟨#[]⟩, .int .i64 0, .int .i64 0, .string ⟨#[]⟩, .int .i64 0] ∧ Turn (fun k => k = b) w w1 ∧ b < w.heap.size) := Lib.hid ⟨l1, H0.out.2.1.turn t1 (by have := H0.out.2.2.2; omega), H0.out.2.2.1.trans t1 (fun _ _ e => e), H0.out.2.2.2⟩
  clear l1 t1 H0 hc
  obtain ⟨g, hg⟩ : ∃ g, g = w1.heap.size := ⟨_, rfl⟩
  have HG := Lib.hid hg
  clear hg
  go_wp2_with (first
    | ((with_reducible refine at_store (.tmp 3) ?_); refine wpList_store_all (o := ⟨none, _, _, _, _, _⟩) rfl 39 (.tmp 3) (.tmp 6) rfl w1.heap.size #[.int .i64 2, .int .i64 0, .int .i64 0, .string ⟨#[]⟩, .int .i64 0, .int .i64 0, .string ⟨#[]⟩, .string ⟨#[]⟩, .int .i64 0, .int .i64 0, .string ⟨#[]⟩, .int .i64 0] #[.int .i64 0, .int .i64 0, .int .i64 0, .string ⟨#[]⟩, .int .i64 0, .int .i64 0, .string ⟨#[]⟩, .string ⟨#[]⟩, .int .i64 0, .int .i64 0, .string ⟨#[]⟩, .int .i64 0] rfl rfl _ (made_at _ _ rfl) (by kernel_rfl) rfl (by simp [Value.oneCell']) ?_; intro W HWa TWa;
       have q0 : W.cell? ⟨w1.heap.size, 0, none⟩ = some (.int .i64 2) := HWa.cell 0)
    | fail)
  clear q0
  have K0 : Hid (Tk w b 39 #[.int .i64 0, .int .i64 0, .int .i64 0, .string ⟨#[]⟩, .int .i64 0, .int .i64 0, .string ⟨#[]⟩, .string ⟨#[]⟩, .int .i64 0, .int .i64 0, .string ⟨#[]⟩, .int .i64 0] (opL ⟨lk, ls, lt, ln⟩ ++ R) g #[.int .i64 2, .int .i64 0, .int .i64 0, .string ⟨#[]⟩, .int .i64 0, .int .i64 0, .string ⟨#[]⟩, .string ⟨#[]⟩, .int .i64 0, .int .i64 0, .string ⟨#[]⟩, .int .i64 0] W) := by
    rw [← HR1.out, HG.out]
    have hlt := H1.out.1.lt
    have hlw := H1.out.2.1.lt
    exact Lib.hid ⟨(H1.out.1.alloc _).turn TWa (by omega), (H1.out.2.1.alloc _).turn TWa (by omega), HWa, (H1.out.2.2.1.alloc _).trans TWa (fun j hj e => by omega), H1.out.2.2.2, hlw⟩
  rw [← HG.out]
  clear HWa TWa H1 HG
  refine (ltake_calls ⟨lk, ls, lt, ln⟩ HO.out b R W K0.out.left).mono ?_
  rintro en v1 ⟨rfl, l, t⟩
  have K1 := Lib.hid (K0.out.read l t)
  clear l t K0
  go_wp2_with (first
    | ((with_reducible refine at_store (.tmp 20) ?_); refine wpList_store_piece (o := ⟨none, _, _, _, _, _⟩) rfl 35 (.tmp 20) (.tmp 19) rfl g 5 #[.int .i64 lk, .string ls, .string lt, .int .i64 ln] #[.int .i64 2, .int .i64 0, .int .i64 0, .string ⟨#[]⟩, .int .i64 0, .int .i64 0, .string ⟨#[]⟩, .string ⟨#[]⟩, .int .i64 0, .int .i64 0, .string ⟨#[]⟩, .int .i64 0] #[.int .i64 2, .int .i64 0, .int .i64 0, .string ⟨#[]⟩, .int .i64 0, .int .i64 lk, .string ls, .string lt, .int .i64 ln, .int .i64 0, .string ⟨#[]⟩, .int .i64 0] rfl rfl 39 K1.out.box (by kernel_rfl) (by show 5 + 4 ≤ 12; omega) (by simp [Value.oneCell']) rfl ?_; intro Wp HWp TWp)
    | fail)
  have K2 := Lib.hid (K1.out.stored HWp TWp)
  clear HWp TWp K1
  refine (K2.out.left.err).mono ?_
  rintro en v2 ⟨rfl, rfl⟩
  go_wp2_with (first
    | ((with_reducible refine at_op 30 ?_); refine wpList_load_row (o := ⟨some 30, _, _, _, _, _⟩) rfl 39 _ rfl g rfl 39 #[.int .i64 2, .int .i64 0, .int .i64 0, .string ⟨#[]⟩, .int .i64 0, .int .i64 lk, .string ls, .string lt, .int .i64 ln, .int .i64 0, .string ⟨#[]⟩, .int .i64 0] (0, 0) _ K2.out.box Tryz.underlying39 rfl (by kernel_rfl) ?_)
    | ((with_reducible refine at_store (.tmp 2) ?_); refine wpList_store_all (o := ⟨none, _, _, _, _, _⟩) rfl 39 (.tmp 2) (.tmp 30) rfl w.heap.size #[.int .i64 2, .int .i64 0, .int .i64 0, .string ⟨#[]⟩, .int .i64 0, .int .i64 lk, .string ls, .string lt, .int .i64 ln, .int .i64 0, .string ⟨#[]⟩, .int .i64 0] #[.int .i64 0, .int .i64 0, .int .i64 0, .string ⟨#[]⟩, .int .i64 0, .int .i64 0, .string ⟨#[]⟩, .string ⟨#[]⟩, .int .i64 0, .int .i64 0, .string ⟨#[]⟩, .int .i64 0] rfl rfl _ K2.out.res (by kernel_rfl) rfl (by simp [Value.oneCell']) ?_; intro Wb HWb TWb)
    | fail)
  exact bodyPost_ret (v := .agg #[.int .i64 2, .int .i64 0, .int .i64 0, .string ⟨#[]⟩, .int .i64 0, .int .i64 lk, .string ls, .string lt, .int .i64 ln, .int .i64 0, .string ⟨#[]⟩, .int .i64 0]) (results_cell_row rfl _ _ w.heap.size 39 _ _ _ rfl HWb Tryz.underlying39 rfl (by kernel_rfl)) rfl
    ⟨rfl, K2.out.left.turn TWb (by have := K2.out.ord; omega), K2.out.turn.trans TWb (fun j hj e => by omega)⟩

set_option maxRecDepth 100000 in
set_option maxHeartbeats 4000000 in
theorem otake3 (sk sn : Int) (ss : ByteArray) (ho : GS ⟨sk, ss, sn⟩) (b : Nat) (R : List UInt8) (w : World) (hL : Left w b (enc (3 : Int).toNat ++ (opS ⟨sk, ss, sn⟩ ++ R))) :
    Calls Tryz.prog 113 #[.pointer (some ⟨b, 0, none⟩)] w (TakeO w b R #[.int .i64 3, .int .i64 0, .int .i64 0, .string ⟨#[]⟩, .int .i64 0, .int .i64 0, .string ⟨#[]⟩, .string ⟨#[]⟩, .int .i64 0, .int .i64 sk, .string ss, .int .i64 sn]) := by
  obtain ⟨R1, hR1⟩ : ∃ R1, R1 = opS ⟨sk, ss, sn⟩ ++ R := ⟨_, rfl⟩
  rw [← hR1] at hL
  have HR1 := Lib.hid hR1
  have HLF := Lib.hid hL
  have HO := Lib.hid ho
  have HKT : Hid ((((3 : Int).toNat : Nat) : Int) = 3) := Lib.hid (by decide)
  clear hL hR1 ho
  go_enter Tryz.func113, Tryz.ntmps113
  go_wp2_with fail
  refine callsName (fun W hW => ?_)
  have H0 : Hid (Left W b (enc (3 : Int).toNat ++ R1) ∧ Has W w.heap.size 39 #[.int .i64 0, .int .i64 0, .int .i64 0, .string ⟨#[]⟩, .int .i64 0, .int .i64 0, .string ⟨#[]⟩, .string ⟨#[]⟩, .int .i64 0, .int .i64 0, .string ⟨#[]⟩, .int .i64 0] ∧ Turn (fun k => k = b) w W ∧ b < w.heap.size) := by rw [← hW]; exact Lib.hid ⟨HLF.out.alloc _, made_at _ _ rfl, (Turn.refl _ w).alloc _, HLF.out.lt⟩
  clear hW HLF
  have hc := H0.out.1.upto 3 (by omega) (by decide)
  rw [HKT.out] at hc
  refine hc.mono ?_
  rintro en w1 ⟨rfl, l1, t1⟩
  have H1 : Hid (Left w1 b R1 ∧ Has w1 w.heap.size 39 #[.int .i64 0, .int .i64 0, .int .i64 0, .string ⟨#[]⟩, .int .i64 0, .int .i64 0, .string ⟨#[]⟩, .string ⟨#[]⟩, .int .i64 0, .int .i64 0, .string ⟨#[]⟩, .int .i64 0] ∧ Turn (fun k => k = b) w w1 ∧ b < w.heap.size) := Lib.hid ⟨l1, H0.out.2.1.turn t1 (by have := H0.out.2.2.2; omega), H0.out.2.2.1.trans t1 (fun _ _ e => e), H0.out.2.2.2⟩
  clear l1 t1 H0 hc
  obtain ⟨g, hg⟩ : ∃ g, g = w1.heap.size := ⟨_, rfl⟩
  have HG := Lib.hid hg
  clear hg
  go_wp2_with (first
    | ((with_reducible refine at_store (.tmp 3) ?_); refine wpList_store_all (o := ⟨none, _, _, _, _, _⟩) rfl 39 (.tmp 3) (.tmp 6) rfl w1.heap.size #[.int .i64 3, .int .i64 0, .int .i64 0, .string ⟨#[]⟩, .int .i64 0, .int .i64 0, .string ⟨#[]⟩, .string ⟨#[]⟩, .int .i64 0, .int .i64 0, .string ⟨#[]⟩, .int .i64 0] #[.int .i64 0, .int .i64 0, .int .i64 0, .string ⟨#[]⟩, .int .i64 0, .int .i64 0, .string ⟨#[]⟩, .string ⟨#[]⟩, .int .i64 0, .int .i64 0, .string ⟨#[]⟩, .int .i64 0] rfl rfl _ (made_at _ _ rfl) (by kernel_rfl) rfl (by simp [Value.oneCell']) ?_; intro W HWa TWa;
       have q0 : W.cell? ⟨w1.heap.size, 0, none⟩ = some (.int .i64 3) := HWa.cell 0)
    | fail)
  clear q0
  have K0 : Hid (Tk w b 39 #[.int .i64 0, .int .i64 0, .int .i64 0, .string ⟨#[]⟩, .int .i64 0, .int .i64 0, .string ⟨#[]⟩, .string ⟨#[]⟩, .int .i64 0, .int .i64 0, .string ⟨#[]⟩, .int .i64 0] (opS ⟨sk, ss, sn⟩ ++ R) g #[.int .i64 3, .int .i64 0, .int .i64 0, .string ⟨#[]⟩, .int .i64 0, .int .i64 0, .string ⟨#[]⟩, .string ⟨#[]⟩, .int .i64 0, .int .i64 0, .string ⟨#[]⟩, .int .i64 0] W) := by
    rw [← HR1.out, HG.out]
    have hlt := H1.out.1.lt
    have hlw := H1.out.2.1.lt
    exact Lib.hid ⟨(H1.out.1.alloc _).turn TWa (by omega), (H1.out.2.1.alloc _).turn TWa (by omega), HWa, (H1.out.2.2.1.alloc _).trans TWa (fun j hj e => by omega), H1.out.2.2.2, hlw⟩
  rw [← HG.out]
  clear HWa TWa H1 HG
  refine (sread_calls ⟨sk, ss, sn⟩ HO.out b R W K0.out.left).mono ?_
  rintro en v1 ⟨rfl, l, t⟩
  have K1 := Lib.hid (K0.out.read l t)
  clear l t K0
  go_wp2_with (first
    | ((with_reducible refine at_store (.tmp 25) ?_); refine wpList_store_piece (o := ⟨none, _, _, _, _, _⟩) rfl 37 (.tmp 25) (.tmp 24) rfl g 9 #[.int .i64 sk, .string ss, .int .i64 sn] #[.int .i64 3, .int .i64 0, .int .i64 0, .string ⟨#[]⟩, .int .i64 0, .int .i64 0, .string ⟨#[]⟩, .string ⟨#[]⟩, .int .i64 0, .int .i64 0, .string ⟨#[]⟩, .int .i64 0] #[.int .i64 3, .int .i64 0, .int .i64 0, .string ⟨#[]⟩, .int .i64 0, .int .i64 0, .string ⟨#[]⟩, .string ⟨#[]⟩, .int .i64 0, .int .i64 sk, .string ss, .int .i64 sn] rfl rfl 39 K1.out.box (by kernel_rfl) (by show 9 + 3 ≤ 12; omega) (by simp [Value.oneCell']) rfl ?_; intro Wp HWp TWp)
    | fail)
  have K2 := Lib.hid (K1.out.stored HWp TWp)
  clear HWp TWp K1
  refine (K2.out.left.err).mono ?_
  rintro en v2 ⟨rfl, rfl⟩
  go_wp2_with (first
    | ((with_reducible refine at_op 30 ?_); refine wpList_load_row (o := ⟨some 30, _, _, _, _, _⟩) rfl 39 _ rfl g rfl 39 #[.int .i64 3, .int .i64 0, .int .i64 0, .string ⟨#[]⟩, .int .i64 0, .int .i64 0, .string ⟨#[]⟩, .string ⟨#[]⟩, .int .i64 0, .int .i64 sk, .string ss, .int .i64 sn] (0, 0) _ K2.out.box Tryz.underlying39 rfl (by kernel_rfl) ?_)
    | ((with_reducible refine at_store (.tmp 2) ?_); refine wpList_store_all (o := ⟨none, _, _, _, _, _⟩) rfl 39 (.tmp 2) (.tmp 30) rfl w.heap.size #[.int .i64 3, .int .i64 0, .int .i64 0, .string ⟨#[]⟩, .int .i64 0, .int .i64 0, .string ⟨#[]⟩, .string ⟨#[]⟩, .int .i64 0, .int .i64 sk, .string ss, .int .i64 sn] #[.int .i64 0, .int .i64 0, .int .i64 0, .string ⟨#[]⟩, .int .i64 0, .int .i64 0, .string ⟨#[]⟩, .string ⟨#[]⟩, .int .i64 0, .int .i64 0, .string ⟨#[]⟩, .int .i64 0] rfl rfl _ K2.out.res (by kernel_rfl) rfl (by simp [Value.oneCell']) ?_; intro Wb HWb TWb)
    | fail)
  exact bodyPost_ret (v := .agg #[.int .i64 3, .int .i64 0, .int .i64 0, .string ⟨#[]⟩, .int .i64 0, .int .i64 0, .string ⟨#[]⟩, .string ⟨#[]⟩, .int .i64 0, .int .i64 sk, .string ss, .int .i64 sn]) (results_cell_row rfl _ _ w.heap.size 39 _ _ _ rfl HWb Tryz.underlying39 rfl (by kernel_rfl)) rfl
    ⟨rfl, K2.out.left.turn TWb (by have := K2.out.ord; omega), K2.out.turn.trans TWb (fun j hj e => by omega)⟩

theorem otake_calls (o : OpO) (ho : OpO.Good o) (b : Nat) (R : List UInt8) (w : World) (hL : Left w b (opB o ++ R)) : Calls Tryz.prog 113 #[.pointer (some ⟨b, 0, none⟩)] w (TakeO w b R o.cells) := by
  obtain ⟨k, ⟨tk, ta, tx, tn⟩, ⟨lk, ls, lt, ln⟩, ⟨sk, ss, sn⟩⟩ := o
  unfold opB at hL
  rcases ho with ⟨h, hg, h1, h2⟩ | ⟨h, hg, h1, h2⟩ | ⟨h, hg, h1, h2⟩
  · obtain rfl : k = 1 := h
    injection h1 with a1 a2 a3 a4
    injection h2 with b1 b2 b3
    subst a1 a2 a3 a4 b1 b2 b3
    dsimp only at hL
    rw [if_pos rfl, List.append_assoc] at hL
    exact otake1 tk ta tn tx hg b R w hL
  · obtain rfl : k = 2 := h
    injection h1 with a1 a2 a3 a4
    injection h2 with b1 b2 b3
    subst a1 a2 a3 a4 b1 b2 b3
    dsimp only at hL
    rw [if_neg (by decide), if_pos rfl, List.append_assoc] at hL
    exact otake2 lk ln ls lt hg b R w hL
  · obtain rfl : k = 3 := h
    injection h1 with a1 a2 a3 a4
    injection h2 with b1 b2 b3 b4
    subst a1 a2 a3 a4 b1 b2 b3 b4
    dsimp only at hL
    rw [if_neg (by decide), if_neg (by decide), List.append_assoc] at hL
    exact otake3 sk sn ss hg b R w hL

/-- A command's cells, and its bytes. -/
def cmdC (o : OpO) (f : Int) : Array Value :=
  #[.int .i64 o.k, .int .i64 o.t.k, .int .i64 o.t.a, .string o.t.x, .int .i64 o.t.n, .int .i64 o.l.k, .string o.l.s, .string o.l.t, .int .i64 o.l.n, .int .i64 o.s.k, .string o.s.s, .int .i64 o.s.n, .int .i64 f]
def cmdL (o : OpO) (f : Nat) : List UInt8 := enc f ++ opB o
def cmdT (o : OpO) (f : Nat) : ByteArray := ⟨(cmdL o f).toArray⟩
theorem opB_len {o : OpO} (h : OpO.Good o) : (opB o).length ≤ 120 := by
  unfold opB
  have e : ∀ n : Int, 0 ≤ n → n ≤ 1099511627776 → (enc n.toNat).length ≤ 11 := fun n h1 h2 => enc_len _ (by omega)
  have es : ∀ s : ByteArray, s.size ≤ 1000 → (enc s.size).length ≤ 11 ∧ s.data.toList.length = s.size := fun s hs => ⟨enc_len _ (by omega), by simp⟩
  rcases h with ⟨hk, hg, _, _⟩ | ⟨hk, hg, _, _⟩ | ⟨hk, hg, _, _⟩
  · rw [if_pos hk, hk]
    obtain ⟨h0, h1, h2⟩ := text.chk_ok hg
    unfold opT
    have e1 := e 1 (by decide) (by decide)
    have e2 := e o.t.k (by omega) (by omega)
    have e3 := e o.t.a (by omega) (by omega)
    have e4 := es o.t.x (by omega)
    split
    · simp only [List.length_append]; omega
    · have e5 := e o.t.n (by omega) (by omega)
      simp only [List.length_append]; omega
  · rw [if_neg (by omega), if_pos hk, hk]
    obtain ⟨h0, h1, h2, h3, h4, _⟩ := gl_parts hg
    unfold opL
    have e1 := e 2 (by decide) (by decide)
    have e2 := e o.l.k (by omega) (by omega)
    have e3 := es o.l.s (by omega)
    have e4 := es o.l.t (by omega)
    have e5 := e o.l.n (by omega) (by omega)
    split
    · simp only [List.length_append]; omega
    · simp only [List.length_append, List.length_nil]; omega
  · rw [if_neg (by omega), if_neg (by omega), hk]
    obtain ⟨h0, _, h2, h3, h4⟩ := stock.chkS_ok hg
    unfold opS
    have e1 := e 3 (by decide) (by decide)
    have e2 := e o.s.k (by omega) (by omega)
    have e3 := es o.s.s (by omega)
    have e4 := e o.s.n (by omega) (by omega)
    simp only [List.length_append]; omega
theorem cmdL_len {o : OpO} (h : OpO.Good o) {f : Nat} (hf : f < 1000000000) : (cmdL o f).length ≤ 131 := by
  unfold cmdL
  have := opB_len h
  have := enc_len f (by omega)
  rw [List.length_append]; omega
theorem cmdT_size {o : OpO} (h : OpO.Good o) {f : Nat} (hf : f < 1000000000) : (cmdT o f).size ≤ 131 := by
  show (cmdL o f).toArray.size ≤ _
  rw [List.size_toArray]
  exact cmdL_len h hf

set_option maxRecDepth 100000 in
set_option maxHeartbeats 4000000 in
theorem ctext_calls (o : OpO) (ho : OpO.Good o) (f : Nat) (hf : f < 1000000000) (w : World) :
    Calls Tryz.prog 31 #[.agg (cmdC o f)] w fun en w' => en = .returned (.string (cmdT o f)) ∧ Below w.heap.size w w' := by
  have HO := Lib.hid (show _ ∧ _ from ⟨ho, hf⟩)
  have HX := Lib.hid (show cmdL o f = enc f ++ opB o from rfl)
  have HB : Hid ((w.alloc (.cells (cmdC o f) 60)).cell? ⟨w.heap.size, 12, none⟩ = some (.int .i64 f)) := Lib.hid ((made_at _ _ rfl : Has _ w.heap.size 60 (cmdC o f)).cell 12)
  have c12 : ∀ A : Obj, ((w.alloc (.cells (cmdC o f) 60)).alloc A).cell? ⟨w.heap.size, 12, none⟩ = some (.int .i64 f) := fun A => ((made_at _ _ rfl : Has _ w.heap.size 60 (cmdC o f)).alloc A).cell 12
  obtain ⟨cs, hcs⟩ : ∃ cs, cs = cmdC o f := ⟨_, rfl⟩
  have HCS := Lib.hid hcs
  rw [← hcs] at HB c12 ⊢
  have hm : max (f : Int) 0 = (f : Int) := by omega
  have hu : IntKind.u64.wrap (f : Int) = (f : Int) := wrap_u64 (by omega) (by omega)
  clear ho hf hcs
  go_enter Tryz.func31, Tryz.ntmps31
  go_wp2_with fail
  refine callsName (fun W hW => ?_)
  have P0 : Hid (Has W w.heap.size 60 cs ∧ Wr W (w.heap.size + 1) none [] ∧ Below w.heap.size w W) := by
    rw [← hW]
    refine Lib.hid ⟨(made_at _ _ rfl).alloc _, ?_, ((Below.refl _ _).alloc (Nat.le_refl _) _).alloc (by simp) _⟩
    have h := text.wr_made (w.alloc (.cells cs 60))
    rw [show (w.alloc (.cells cs 60)).heap.size = w.heap.size + 1 by simp] at h
    exact h
  clear hW HB c12
  refine (wnum_int (w.heap.size + 1) none [] (f : Int) W (by omega) (by have := HO.out.2; omega) P0.out.2.1 (by simp)).mono ?_
  rw [List.nil_append, Int.toNat_natCast]
  rintro en w1 ⟨rfl, r1, h1, hr1, t1⟩
  have hno : ∀ j, (j = w.heap.size + 1 ∨ some j = none) → j ≠ w.heap.size ∧ w.heap.size ≤ j := fun j e => by
    rcases e with e | e
    · omega
    · cases e
  have P1 : Hid (Has w1 w.heap.size 60 cs ∧ Wr w1 (w.heap.size + 1) r1 (enc f) ∧ Below w.heap.size w w1 ∧ ∀ k, r1 = some k → w.heap.size < k) := Lib.hid ⟨P0.out.1.turn t1 (fun e => (hno _ e).1 rfl), h1, P0.out.2.2.trans (t1.below P0.out.2.2.size (fun j hj e => by have := (hno j e).2; omega)), fun k hk => by
    rcases hr1 with e | ⟨k', e, h⟩
    · rw [e] at hk; cases hk
    · rw [e] at hk; injection hk with hk; have := P0.out.1.lt; omega⟩
  clear h1 hr1 t1 hno P0
  have hld : Hid ((Instr.loadAt 39 (.pointer (some ⟨w.heap.size, 0, none⟩))).run Tryz.prog w1 = .ok (.agg o.cells) w1) := Lib.hid (run_loadAt_mid w1 w.heap.size 0 39 o.cells.toList _ (fun j v hj => by
    rw [Nat.zero_add, P1.out.1.cell, HCS.out]
    have hj' : j < 12 := (List.getElem?_eq_some_iff.1 hj).1
    rw [← hj]
    show (cmdC o f)[j]? = o.cells.toList[j]?
    rcases j with _ | _ | _ | _ | _ | _ | _ | _ | _ | _ | _ | _ | j <;> first | rfl | omega) Tryz.underlying39 rfl (by kernel_rfl))
  go_wp2_with (first
    | ((with_reducible refine at_op 10 ?_); refine dig.wpList_load_if (o := ⟨some 10, _, _, _, _, _⟩) (by kernel_rfl) 39 (.tmp 9) rfl (.pointer (some ⟨w.heap.size, 0, none⟩)) rfl hld.out ?_)
    | fail)
  refine (oput_calls o HO.out.1 (w.heap.size + 1) r1 (enc f) w1 (by have := enc_len f (by have := HO.out.2; omega); omega) P1.out.2.1).mono ?_
  rintro en w2 ⟨rfl, r2, h2, _, t2⟩
  have P2 : Hid (Wr w2 (w.heap.size + 1) r2 (cmdL o f) ∧ Below w.heap.size w w2) := Lib.hid ⟨by rw [HX.out]; exact h2, P1.out.2.2.1.trans (t2.below P1.out.2.2.1.size (fun j hj e => by
    rcases e with e | e
    · omega
    · have := P1.out.2.2.2 j e.symm; omega))⟩
  clear h2 t2 P1 hld
  go_wp2_with fail
  refine (text_any _ _ _ _ P2.out.1).mono ?_
  rintro en w3 ⟨rfl, rfl⟩
  go_wp2_with fail
  go_ret
  exact ⟨rfl, P2.out.2⟩

set_option maxRecDepth 100000 in
set_option maxHeartbeats 4000000 in
theorem parse_calls (o : OpO) (ho : OpO.Good o) (f : Nat) (hf : f < 1000000000) (most : Int) (hm : (f : Int) ≤ most) (hm2 : most ≤ 9223372036854775807) (w : World) :
    Calls Tryz.prog 73 #[.string (cmdT o f), .int .i64 most] w fun en w' => en = .returned (.tuple #[.agg (cmdC o f), .nilIface]) ∧ Below w.heap.size w w' := by
  have HO := Lib.hid ho
  have HX : Hid (cmdT o f = ⟨(enc f ++ (opB o ++ [])).toArray⟩ ∧ (enc f ++ (opB o ++ [])).length ≤ 1000) := Lib.hid ⟨by rw [List.append_nil]; rfl, by rw [List.append_nil]; have := cmdL_len ho hf; unfold cmdL at this; omega⟩
  have HM := Lib.hid (show _ ∧ _ from ⟨hm, hm2⟩)
  obtain ⟨tx0, htx⟩ : ∃ t, t = cmdT o f := ⟨_, rfl⟩
  rw [← htx] at HX ⊢
  clear ho hf hm hm2 htx
  obtain ⟨k, ⟨tk, ta, tx, tn⟩, ⟨lk, ls, lt, ln⟩, ⟨sk, ss, sn⟩⟩ := o
  obtain ⟨bs, hbs⟩ : ∃ bs, bs = opB ⟨k, ⟨tk, ta, tx, tn⟩, ⟨lk, ls, lt, ln⟩, ⟨sk, ss, sn⟩⟩ := ⟨_, rfl⟩
  have HTK : Hid (∀ b R w, Left w b (bs ++ R) → Calls Tryz.prog 113 #[.pointer (some ⟨b, 0, none⟩)] w (TakeO w b R #[.int .i64 k, .int .i64 tk, .int .i64 ta, .string tx, .int .i64 tn, .int .i64 lk, .string ls, .string lt, .int .i64 ln, .int .i64 sk, .string ss, .int .i64 sn])) := Lib.hid fun b R w h => otake_calls ⟨k, ⟨tk, ta, tx, tn⟩, ⟨lk, ls, lt, ln⟩, ⟨sk, ss, sn⟩⟩ HO.out b R w (by rw [← hbs]; exact h)
  rw [← hbs] at HX
  show Calls Tryz.prog 73 #[.string tx0, .int .i64 most] w fun en w' => en = .returned (.tuple #[.agg #[.int .i64 k, .int .i64 tk, .int .i64 ta, .string tx, .int .i64 tn, .int .i64 lk, .string ls, .string lt, .int .i64 ln, .int .i64 sk, .string ss, .int .i64 sn, .int .i64 f], .nilIface]) ∧ Below w.heap.size w w'
  clear hbs HO
  go_enter Tryz.func73, Tryz.ntmps73
  go_wp2_with fail
  refine callsName (fun W hW => ?_)
  have P0 : Hid (Has W w.heap.size 60 #[.int .i64 0, .int .i64 0, .int .i64 0, .string ⟨#[]⟩, .int .i64 0, .int .i64 0, .string ⟨#[]⟩, .string ⟨#[]⟩, .int .i64 0, .int .i64 0, .string ⟨#[]⟩, .int .i64 0, .int .i64 0] ∧ Below w.heap.size w W ∧ W.heap.size = w.heap.size + 1) := by rw [← hW]; exact Lib.hid ⟨made_at _ _ rfl, (Below.refl _ _).alloc (Nat.le_refl _) _, by simp⟩
  clear hW
  refine (read_any tx0 W).mono ?_
  rintro en w1 ⟨rfl, h1, b1⟩
  rw [P0.out.2.2] at h1 ⊢
  have P1 : Hid (Has w1 w.heap.size 60 #[.int .i64 0, .int .i64 0, .int .i64 0, .string ⟨#[]⟩, .int .i64 0, .int .i64 0, .string ⟨#[]⟩, .string ⟨#[]⟩, .int .i64 0, .int .i64 0, .string ⟨#[]⟩, .int .i64 0, .int .i64 0] ∧ Left w1 (w.heap.size + 1) (enc f ++ (bs ++ [])) ∧ Below w.heap.size w w1) := Lib.hid ⟨P0.out.1.below b1 P0.out.1.lt, ⟨by rw [← HX.out.1]; exact h1, by have := HX.out.2; omega⟩, P0.out.2.1.trans (b1.mono P0.out.2.1.size)⟩
  clear h1 b1 P0
  go_wp2_with fail
  refine (P1.out.2.1.upto most HM.out.1 HM.out.2).mono ?_
  rintro en w2 ⟨rfl, l2, t2⟩
  have P2 : Hid (Has w2 w.heap.size 60 #[.int .i64 0, .int .i64 0, .int .i64 0, .string ⟨#[]⟩, .int .i64 0, .int .i64 0, .string ⟨#[]⟩, .string ⟨#[]⟩, .int .i64 0, .int .i64 0, .string ⟨#[]⟩, .int .i64 0, .int .i64 0] ∧ Left w2 (w.heap.size + 1) (bs ++ []) ∧ Below w.heap.size w w2) := Lib.hid ⟨P1.out.1.turn t2 (by omega), l2, P1.out.2.2.trans (t2.below P1.out.2.2.size (fun j hj e => by omega))⟩
  clear l2 t2 P1
  obtain ⟨g, hg⟩ : ∃ g, g = w2.heap.size := ⟨_, rfl⟩
  have HG := Lib.hid hg
  clear hg
  go_wp2_with (first
    | ((with_reducible refine at_store (.tmp 7) ?_); refine wpList_store_all (o := ⟨none, _, _, _, _, _⟩) rfl 60 (.tmp 7) (.tmp 14) rfl w2.heap.size #[.int .i64 0, .int .i64 0, .int .i64 0, .string ⟨#[]⟩, .int .i64 0, .int .i64 0, .string ⟨#[]⟩, .string ⟨#[]⟩, .int .i64 0, .int .i64 0, .string ⟨#[]⟩, .int .i64 0, .int .i64 f] #[.int .i64 0, .int .i64 0, .int .i64 0, .string ⟨#[]⟩, .int .i64 0, .int .i64 0, .string ⟨#[]⟩, .string ⟨#[]⟩, .int .i64 0, .int .i64 0, .string ⟨#[]⟩, .int .i64 0, .int .i64 0] rfl rfl _ (made_at _ _ rfl) (by kernel_rfl) rfl (by simp [Value.oneCell']) ?_; intro W HWa TWa)
    | fail)
  have P3 : Hid (Has W w.heap.size 60 #[.int .i64 0, .int .i64 0, .int .i64 0, .string ⟨#[]⟩, .int .i64 0, .int .i64 0, .string ⟨#[]⟩, .string ⟨#[]⟩, .int .i64 0, .int .i64 0, .string ⟨#[]⟩, .int .i64 0, .int .i64 0] ∧ Left W (w.heap.size + 1) (bs ++ []) ∧ Below w.heap.size w W ∧ Has W g 60 #[.int .i64 0, .int .i64 0, .int .i64 0, .string ⟨#[]⟩, .int .i64 0, .int .i64 0, .string ⟨#[]⟩, .string ⟨#[]⟩, .int .i64 0, .int .i64 0, .string ⟨#[]⟩, .int .i64 0, .int .i64 f] ∧ w.heap.size + 1 < g) := by
    rw [HG.out]
    have hlt := P2.out.2.1.lt
    have hsz := P2.out.2.2.size
    exact Lib.hid ⟨(P2.out.1.alloc _).turn TWa (by omega), (P2.out.2.1.alloc _).turn TWa (by omega), (P2.out.2.2.alloc hsz _).trans (TWa.below (by simp; omega) (fun j hj e => by omega)), HWa, hlt⟩
  rw [← HG.out]
  clear HWa TWa P2 HG
  refine (HTK.out (w.heap.size + 1) [] W P3.out.2.1).mono ?_
  rintro en w3 ⟨rfl, l3, t3⟩
  have P4 : Hid (Has w3 w.heap.size 60 #[.int .i64 0, .int .i64 0, .int .i64 0, .string ⟨#[]⟩, .int .i64 0, .int .i64 0, .string ⟨#[]⟩, .string ⟨#[]⟩, .int .i64 0, .int .i64 0, .string ⟨#[]⟩, .int .i64 0, .int .i64 0] ∧ Left w3 (w.heap.size + 1) [] ∧ Below w.heap.size w w3 ∧ Has w3 g 60 #[.int .i64 0, .int .i64 0, .int .i64 0, .string ⟨#[]⟩, .int .i64 0, .int .i64 0, .string ⟨#[]⟩, .string ⟨#[]⟩, .int .i64 0, .int .i64 0, .string ⟨#[]⟩, .int .i64 0, .int .i64 f] ∧ w.heap.size + 1 < g) := Lib.hid ⟨P3.out.1.turn t3 (by omega), l3, P3.out.2.2.1.trans (t3.below P3.out.2.2.1.size (fun j hj e => by omega)), P3.out.2.2.2.1.turn t3 (by have := P3.out.2.2.2.2; omega), P3.out.2.2.2.2⟩
  clear l3 t3 P3
  go_wp2_with (first
    | ((with_reducible refine at_store (.tmp 17) ?_); refine wpList_store_piece (o := ⟨none, _, _, _, _, _⟩) rfl 39 (.tmp 17) (.tmp 16) rfl g 0 #[.int .i64 k, .int .i64 tk, .int .i64 ta, .string tx, .int .i64 tn, .int .i64 lk, .string ls, .string lt, .int .i64 ln, .int .i64 sk, .string ss, .int .i64 sn] #[.int .i64 0, .int .i64 0, .int .i64 0, .string ⟨#[]⟩, .int .i64 0, .int .i64 0, .string ⟨#[]⟩, .string ⟨#[]⟩, .int .i64 0, .int .i64 0, .string ⟨#[]⟩, .int .i64 0, .int .i64 f] #[.int .i64 k, .int .i64 tk, .int .i64 ta, .string tx, .int .i64 tn, .int .i64 lk, .string ls, .string lt, .int .i64 ln, .int .i64 sk, .string ss, .int .i64 sn, .int .i64 f] rfl rfl 60 P4.out.2.2.2.1 (by kernel_rfl) (by show 0 + 12 ≤ 13; omega) (by simp [Value.oneCell']) (by kernel_rfl) ?_; intro Wp HWp TWp)
    | fail)
  have P5 : Hid (Has Wp w.heap.size 60 #[.int .i64 0, .int .i64 0, .int .i64 0, .string ⟨#[]⟩, .int .i64 0, .int .i64 0, .string ⟨#[]⟩, .string ⟨#[]⟩, .int .i64 0, .int .i64 0, .string ⟨#[]⟩, .int .i64 0, .int .i64 0] ∧ Left Wp (w.heap.size + 1) [] ∧ Below w.heap.size w Wp ∧ Has Wp g 60 #[.int .i64 k, .int .i64 tk, .int .i64 ta, .string tx, .int .i64 tn, .int .i64 lk, .string ls, .string lt, .int .i64 ln, .int .i64 sk, .string ss, .int .i64 sn, .int .i64 f] ∧ w.heap.size + 1 < g) := Lib.hid ⟨P4.out.1.turn TWp (by have := P4.out.2.2.2.2; omega), P4.out.2.1.turn TWp (by have := P4.out.2.2.2.2; omega), P4.out.2.2.1.trans (TWp.below P4.out.2.2.1.size (fun j hj e => by have := P4.out.2.2.2.2; omega)), HWp, P4.out.2.2.2.2⟩
  clear HWp TWp P4
  refine (end_any (w.heap.size + 1) _ 0 Wp P5.out.2.1.1).mono ?_
  rw [end_nil]
  rintro en w6 ⟨rfl, h6, g6⟩
  have t6 : Turn (fun k => k = w.heap.size + 1) Wp w6 := Turn.of_grown g6 rfl
  have P6 : Hid (Has w6 w.heap.size 60 #[.int .i64 0, .int .i64 0, .int .i64 0, .string ⟨#[]⟩, .int .i64 0, .int .i64 0, .string ⟨#[]⟩, .string ⟨#[]⟩, .int .i64 0, .int .i64 0, .string ⟨#[]⟩, .int .i64 0, .int .i64 0] ∧ Below w.heap.size w w6 ∧ Has w6 g 60 #[.int .i64 k, .int .i64 tk, .int .i64 ta, .string tx, .int .i64 tn, .int .i64 lk, .string ls, .string lt, .int .i64 ln, .int .i64 sk, .string ss, .int .i64 sn, .int .i64 f]) := Lib.hid ⟨P5.out.1.turn t6 (by omega), P5.out.2.2.1.trans (t6.below P5.out.2.2.1.size (fun j hj e => by omega)), P5.out.2.2.2.1.turn t6 (by have := P5.out.2.2.2.2; omega)⟩
  clear h6 g6 t6 P5
  go_wp2_with (first
    | ((with_reducible refine at_op 28 ?_); refine wpList_load_row (o := ⟨some 28, _, _, _, _, _⟩) rfl 60 _ rfl g rfl 60 #[.int .i64 k, .int .i64 tk, .int .i64 ta, .string tx, .int .i64 tn, .int .i64 lk, .string ls, .string lt, .int .i64 ln, .int .i64 sk, .string ss, .int .i64 sn, .int .i64 f] (0, 0) _ P6.out.2.2 Tryz.underlying60 rfl (by kernel_rfl) ?_)
    | ((with_reducible refine at_store (.tmp 4) ?_); refine wpList_store_all (o := ⟨none, _, _, _, _, _⟩) rfl 60 (.tmp 4) (.tmp 28) rfl w.heap.size #[.int .i64 k, .int .i64 tk, .int .i64 ta, .string tx, .int .i64 tn, .int .i64 lk, .string ls, .string lt, .int .i64 ln, .int .i64 sk, .string ss, .int .i64 sn, .int .i64 f] #[.int .i64 0, .int .i64 0, .int .i64 0, .string ⟨#[]⟩, .int .i64 0, .int .i64 0, .string ⟨#[]⟩, .string ⟨#[]⟩, .int .i64 0, .int .i64 0, .string ⟨#[]⟩, .int .i64 0, .int .i64 0] rfl rfl _ P6.out.1 (by kernel_rfl) rfl (by simp [Value.oneCell']) ?_; intro Wb HWb TWb)
    | fail)
  exact bodyPost_ret (v := .tuple #[.agg #[.int .i64 k, .int .i64 tk, .int .i64 ta, .string tx, .int .i64 tn, .int .i64 lk, .string ls, .string lt, .int .i64 ln, .int .i64 sk, .string ss, .int .i64 sn, .int .i64 f], .nilIface]) (results_cell_tmp rfl _ _ w.heap.size 60 _ _ _ rfl HWb Tryz.underlying60 rfl (by kernel_rfl) _ rfl) rfl
    ⟨rfl, P6.out.2.1.trans (TWb.below P6.out.2.1.size (fun j hj e => by omega))⟩
end Go.Proofs.YtcdedkgkingbdaaGreatDoor.rep
