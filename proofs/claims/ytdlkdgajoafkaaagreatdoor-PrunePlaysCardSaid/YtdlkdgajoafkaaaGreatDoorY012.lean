/- Texts laid into one: PruAd, HeadQ, PruHd, PruCl, PruEr, PruDo, Raw. -/
import Derived.Test.YtdlkdgajoafkaaaGreatDoorY011
import Derived.Test.YtdlkdgajoafkaaaGreatDoorY007
import Derived.Test.YtdlkdgajoafkaaaGreatDoorY000
import Derived.ProofKit
import Derived.OpenShut
import Derived.Deep.MidRow
import Derived.Deep.SlicePairs
import Derived.ChangeOld
section
/- law 12's does: the call of Add. -/
namespace Go.Proofs.YtdlkdgajoafkaaaGreatDoor.prn
open Go Go.RowKit Go.Proofs.YtdlkdgajoafkaaaGreatDoor.dig Go.Proofs.YtdlkdgajoafkaaaGreatDoor.prf

theorem Dz.boxT {s B : Nat} {w : Gh} {vb : Nat} {v : Value} {L : List ByteArray} {fl : Nat} {W W' : World} (h : Dz s B w vb v L fl W) {b : Nat} (hb : s ≤ b ∧ b < s + 3) (t : Turn (fun k => k = b) W W') : Dz s B w vb v L fl W' := by
  obtain ⟨F, h1, h2, h3, h4⟩ := h.va
  exact ⟨⟨F, h1.turn t (fun k hk _ e => h4.1 k hk (by subst e; exact hb)) (fun k e => by have := h.lo.2.2; omega), fun j hj => Nat.lt_of_lt_of_le (h2 j hj) t.size, h3, h4⟩, h.vs,
    h.bel.trans (t.below h.bel.size (fun j hj e => by have := h.lo.2.1; omega)), h.lo, h.gs, h.pr.turn t (fun e => by have := h.gs; omega), ⟨h.dc.1.turn t (fun x hx e => h.vs x hx (by subst e; exact hb)), h.dc.2⟩⟩

set_option maxRecDepth 100000 in
theorem lcut_calls (s : ByteArray) (n : Nat) (w : World) (hn : n ≤ 1000000) (_hs : s.size ≤ maxLen) :
    Calls Tryz.prog 14 #[.string s, .int .i64 n] w fun en w' => en = .returned (.string (s.extract 0 n)) ∧ w = w' := by
  unfold maxLen at _hs
  by_cases h : n < s.size
  · go_enter Tryz.func14, Tryz.ntmps14
    go_wp2
    go_ret
    exact ⟨rfl, rfl⟩
  · have e : s.extract 0 n = s := by
      apply ByteArray.ext
      simp [ByteArray.data_extract]
      omega
    have E := Lib.hid e
    clear e
    go_enter Tryz.func14, Tryz.ntmps14
    go_wp2
    go_ret
    rw [E.out]
    exact ⟨rfl, rfl⟩

/-- The vault and the document's grew by a text, the document's in new memory. -/
theorem Dz.grew {s0 B : Nat} {w : Gh} {vb : Nat} {v y : Value} {L : List ByteArray} {t : ByteArray} {fl : Nat} {W W1 W2 : World} (h : Dz s0 B w vb v L fl W) {F : Nat → Prop} (_h2 : ∀ j, F j → j < W.heap.size) (h4 : ∀ j, F j → ¬ (s0 ≤ j ∧ j < s0 + 3)) (hB : ∀ j, F j → B ≤ j) (h5 : ¬ F w.g)
    (n : Va B (fun k => F k ∨ W.heap.size ≤ k) W1 vb (L ++ [t]) fl) (tt : Turn F W W1) (hs : s0 + 3 ≤ W.heap.size) (hy : Strs W2 y (L ++ [t])) (ho : ∀ x, y.ownBlock = some x → W1.heap.size ≤ x) (b : Below W1.heap.size W1 W2) : Dz s0 B w vb y (L ++ [t]) fl W2 :=
  ⟨⟨_, n.tight.below b, fun j hj => Nat.lt_of_lt_of_le hj.2 b.size, fun x hx e => by have := ho x hx; have := e.2; omega, fun j hj e => by
    rcases hj.1 with e1 | e1
    · exact h4 j e1 e
    · omega, fun e => by
    rcases e.1 with e1 | e1
    · exact h5 e1
    · have := h.pr.lt; omega⟩, fun x hx e => by have := ho x hx; have := tt.size; omega, (h.bel.trans (tt.below h.bel.size (fun j hj e => by have := hB j e; have := h.lo.1; omega))).trans (b.mono (Nat.le_trans h.bel.size tt.size)), h.lo, h.gs, (h.pr.turn tt h5).below b (h.pr.turn tt h5).lt, hy⟩

set_option maxRecDepth 100000 in
set_option maxHeartbeats 4000000 in
theorem does_add {B : Nat} {w0 : Gh} (vb : Nat) (a : Option Addr) (c : Nat) (fl : Nat) (m n : Int) (s : ByteArray) (L : List ByteArray) (w : World) (hs : s.size ≤ maxLen) (hLL : L.length ≤ 1000)
    (hZ : Dx B w0 vb (.slice a L.length c) L fl w) (hB : B ≤ w.heap.size) :
    Calls Tryz.prog 6 #[.pointer (some ⟨vb, 0, none⟩), dvC (.slice a L.length c) fl, .agg #[.int .i64 1, .int .i64 m, .int .i64 n, .string s]] w (DoPost B w0 L) := by
  unfold dvC at *
  have HZ := Lib.hid (show _ ∧ _ ∧ _ from ⟨hZ, hB, hLL⟩)
  obtain ⟨t, ht⟩ : ∃ t, t = s.extract 0 20 := ⟨_, rfl⟩
  have HT : Hid (t.size ≤ 20) := Lib.hid (by rw [ht]; simp; omega)
  have HC : Hid (∀ V, Calls Tryz.prog 14 #[.string s, .int .i64 20] V fun en w' => en = .returned (.string t) ∧ V = w') := Lib.hid fun V => by rw [ht]; exact lcut_calls s 20 V (by omega) hs
  obtain ⟨k, hk⟩ : ∃ k, k = L.length := ⟨_, rfl⟩
  have HK := Lib.hid hk
  rw [← hk] at HZ ⊢
  clear hZ hB hLL hs ht hk
  go_enter Tryz.func6, Tryz.ntmps6
  go_wp2_with fail
  refine callsName (fun W hW => ?_)
  have B0 : Hid (Bw w (.slice a k c) fl 1 m n s W ∧ Below w.heap.size w W) := by
    rw [← hW]
    exact Lib.hid ⟨⟨((made_at _ _ rfl).alloc _).alloc _, (made_at _ _ (by simp)).alloc _, made_at _ _ (by simp)⟩, (((Below.refl _ _).alloc (Nat.le_refl _) _).alloc (by simp) _).alloc (by simp; omega) _⟩
  clear hW
  refine (HC.out W).mono ?_
  rintro en w1 ⟨rfl, rfl⟩
  go_wp2_with fail
  refine callsName (fun W1 hW1 => ?_)
  have Z1 : Hid (Dz w.heap.size B w0 vb (.slice a k c) L fl W1 ∧ Bw w (.slice a k c) fl 1 m n s W1 ∧ W.heap.size < W1.heap.size ∧ Strs W1 (.slice (some ⟨W.heap.size, 0, none⟩) 1 1) [t]) := by
    have b1 : Below W.heap.size W W1 := by rw [← hW1]; exact (Below.refl _ _).alloc (Nat.le_refl _) _
    refine Lib.hid ⟨HZ.out.1.enter HZ.out.2.1 (B0.out.2.trans (b1.mono B0.out.2.size)), B0.out.1.below b1, by rw [← hW1]; simp, ?_, fun u hu => by rw [List.mem_singleton.1 hu]; have := HT.out; omega⟩
    rw [← hW1]
    exact Seg.whole (m := 1) (cs := #[.string t]) (heap_alloc_new _ _) rfl (by unfold maxLen; omega)
  have HW3 : Hid (w.heap.size + 3 ≤ W.heap.size) := Lib.hid B0.out.1.r.lt
  have HB1 : Hid (Below w.heap.size w W1) := by
    rw [← hW1]
    exact Lib.hid (B0.out.2.alloc B0.out.2.size _)
  clear hW1 B0
  obtain ⟨F, g1, g2, g3, g5⟩ := HZ.out.1.va
  have f1 := g1.below HB1.out
  have hown : ∀ x, (Value.slice (some ⟨W.heap.size, 0, none⟩) [t].length 1).ownBlock = some x → ¬ F x := fun x hx hf => by
    have e : W.heap.size = x := by simpa [Value.ownBlock] using hx
    have := g2 x hf
    have := HW3.out
    omega
  have hadd := f1.add (some ⟨W.heap.size, 0, none⟩) 1 [t] Z1.out.2.2.2 hown (by have := HZ.out.2.2; have := HK.out; simp; omega)
  have HF := Lib.hid (show _ ∧ _ ∧ _ ∧ _ ∧ _ from ⟨f1, g2, g3, g1.hF, g5⟩)
  clear f1 g1 g2 g3 g5 hown
  refine hadd.mono ?_
  rintro en w2 ⟨rfl, v2, t2⟩
  have B2 : Hid (Bw w (.slice a k c) fl 1 m n s w2) := Lib.hid (Z1.out.2.1.turn t2 (fun j hj => .inl (HF.out.2.1 j hj)))
  have D2 : Hid (Strs w2 (.slice a k c) L) := Lib.hid ⟨Z1.out.1.dc.1.turn t2 HF.out.2.2.1, Z1.out.1.dc.2⟩
  have V2 := Lib.hid (show _ ∧ _ from ⟨v2, t2⟩)
  obtain ⟨c0, c1, d1, d2, d3⟩ := B2.out.cells
  clear v2 t2 hadd
  go_wp2_with fail
  have hr := raddv_calls (a := a) (c := c) (L := L) fl t (by have := HT.out; omega) (by have := HZ.out.2.2; have := HK.out; omega) w2 (HK.out ▸ D2.out)
  rw [← HK.out] at hr
  refine hr.mono ?_
  rintro en w3 ⟨y, rfl, hy, ho, b3⟩
  obtain ⟨ay, cy, rfl, _, _⟩ := hy.1.slice
  unfold dvC
  have B3 : Hid (Bw w (.slice a k c) fl 1 m n s w3) := Lib.hid (B2.out.below b3)
  have Z3 : Hid (Dz w.heap.size B w0 vb (.slice ay (L ++ [t]).length cy) (L ++ [t]) fl w3) := Lib.hid (Z1.out.1.grew (fun j hj => Nat.lt_of_lt_of_le (HF.out.2.1 j hj) HB1.out.size) (fun j hj e => by have := HF.out.2.1 j hj; omega) HF.out.2.2.2.1 HF.out.2.2.2.2 V2.out.1 V2.out.2 (by have := HW3.out; have := Z1.out.2.2.1; omega) hy ho b3)
  obtain ⟨q, hq⟩ : ∃ q, q = (L ++ [t]).length := ⟨_, rfl⟩
  rw [← hq] at Z3 ⊢
  clear hy ho b3 V2 D2 B2 c0 c1 d1 d2 d3 hr
  have r0 : w3.frozen? ⟨w.heap.size + 1 + 1, 0, none⟩ = false := B3.out.r.free 0
  have r1 : w3.frozen? ⟨w.heap.size + 1 + 1, 1, none⟩ = false := B3.out.r.free 1
  have r2 : w3.cell? ⟨w.heap.size + 1 + 1, 0, none⟩ = some (.slice none 0 0) := B3.out.r.cell 0
  have r3 : w3.cell? ⟨w.heap.size + 1 + 1, 1, none⟩ = some (.int .i64 0) := B3.out.r.cell 1
  have HQ := Lib.hid hq
  clear hq
  go_wp2_with fail
  have hR := ((B3.out.r.put 0 (.slice ay q cy)).put 1 (.int .i64 fl))
  have hT : Turn (fun k => k = w.heap.size + 2) w3 ((w3.setCell ⟨w.heap.size + 2, 0, none⟩ (.slice ay q cy)).setCell ⟨w.heap.size + 2, 1, none⟩ (.int .i64 fl)) := by
    have t0 : Turn (fun k => k = w.heap.size + 2) w3 w3 := Turn.refl _ _
    exact (t0.put (fun _ => rfl) _ _).put (fun _ => rfl) _ _
  exact bodyPost_ret (v := .tuple #[.pointer (some ⟨vb, 0, none⟩), .agg #[.slice ay q cy, .int .i64 fl], .bool true]) (res_does rfl _ _ (w.heap.size + 2) _ _ _ rfl rfl rfl hR (by kernel_rfl)) rfl ⟨vb, .slice ay q cy, L ++ [t], fl, rfl, (Z3.out.boxT ⟨by omega, by omega⟩ hT).dx, by simp⟩
end Go.Proofs.YtdlkdgajoafkaaaGreatDoor.prn
end

section
/- proof: heads compared. -/
namespace Go.Proofs.YtdlkdgajoafkaaaGreatDoor.prf
open Go Go.RowKit Go.Proofs.YtdlkdgajoafkaaaGreatDoor.dig

theorem headFields : ∃ f0 f1 : Field, (Tryz.prog.fieldsOf 58).toList = [f0, f1] ∧ f0.name = "N" ∧ f0.type = 3 ∧ f0.offset = 0 ∧ f1.name = "Root" ∧ f1.type = 56 ∧ f1.offset = 1 := by
  have h : (Tryz.prog.fieldsOf 58).toList.map (fun f => (f.name, f.type, f.offset)) = [("N", 3, 0), ("Root", 56, 1)] := by kernel_rfl
  generalize (Tryz.prog.fieldsOf 58).toList = l at h
  rcases l with _ | ⟨f0, _ | ⟨f1, _ | ⟨f2, l⟩⟩⟩
  · simp at h
  · simp at h
  · simp only [List.map_cons, List.map_nil, List.cons.injEq, Prod.mk.injEq, and_true] at h
    exact ⟨f0, f1, rfl, h.1.1, h.1.2.1, h.1.2.2, h.2.1, h.2.2.1, h.2.2.2⟩
  · simp at h

theorem headC_cut (n : Int) (xs : List UInt8) (h : xs.length = 32) : (headC n xs).extract 1 (1 + 32) = cellsOf xs := by
  unfold headC cellsOf
  apply Array.toList_inj.1
  simp [h, List.take_of_length_le]

theorem hq_p0 (n : Int) (xs : List UInt8) (w : World) : (part 3 (headC n xs) 0).run Tryz.prog w = .ok (.int .i64 n) w := by
  have h0 : (headC n xs)[0]? = some (.int .i64 n) := by simp [headC]
  simp [part, Tryz.isAgg3, h0]
theorem hq_q0 (n : Int) (xs : List UInt8) (hx : xs.length = 32) (w : World) : (part 56 (headC n xs) 1).run Tryz.prog w = .ok (.agg (cellsOf xs)) w := by
  have h0 := headC_cut n xs hx
  simp only [part, Sem.run_bind, Tryz.isAgg56, Tryz.sizeOf56, Result.andThen_ok, if_true, Sem.run_pure, h0]
theorem eqFields_cons {P : Program} (d : Nat) (xs ys : Array Value) (f : Field) (fs : List Field) (hn : f.name ≠ "_") (a b : Value) (r : Bool) (w : World)
    (ha : (part f.type xs f.offset).run P w = .ok a w) (hb : (part f.type ys f.offset).run P w = .ok b w) (hr : (Op.equalIn d f.type a b).run P w = .ok r w) :
    (Op.eqFields d xs ys (f :: fs)).run P w = if r = true then (Op.eqFields d xs ys fs).run P w else .ok false w := by
  rw [Op.eqFields, if_pos hn]
  simp only [Sem.run_bind, ha, hb, hr, Result.andThen_ok]
  cases r <;> simp
theorem hq_fields (d : Nat) (n m : Int) (xs ys : List UInt8) (hx : xs.length = 32) (hy : ys.length = 32) (w : World) (f0 f1 : Field) (a1 : f0.name = "N") (a2 : f0.type = 3) (a3 : f0.offset = 0) (b1 : f1.name = "Root") (b2 : f1.type = 56) (b3 : f1.offset = 1) :
    (Op.eqFields (d + 2) (headC n xs) (headC m ys) [f0, f1]).run Tryz.prog w = .ok (n == m && xs == ys) w := by
  have hs := run_equalIn_bytes (P := Tryz.prog) d (t := 56) (e := 5) 32 Tryz.underlying56 Tryz.underlying5 (by kernel_rfl) xs ys hx hy w
  have hi : (Op.equalIn (d + 2) 3 (.int .i64 n) (.int .i64 m)).run Tryz.prog w = .ok (n == m) w := run_equalIn_int w (P := Tryz.prog) (d + 1) 3 .i64 .i64 n m Tryz.underlying3
  rw [eqFields_cons (d + 2) _ _ f0 [f1] (by rw [a1]; decide) (.int .i64 n) (.int .i64 m) (n == m) w (by rw [a2, a3]; exact hq_p0 n xs w) (by rw [a2, a3]; exact hq_p0 m ys w) (by rw [a2]; exact hi)]
  rw [eqFields_cons (d + 2) _ _ f1 [] (by rw [b1]; decide) (.agg (cellsOf xs)) (.agg (cellsOf ys)) (xs == ys) w (by rw [b2, b3]; exact hq_q0 n xs hx w) (by rw [b2, b3]; exact hq_q0 m ys hy w) (by rw [b2]; exact hs)]
  have h0 : (Op.eqFields (d + 2) (headC n xs) (headC m ys) []).run Tryz.prog w = .ok true w := by unfold Op.eqFields; simp
  rw [h0]
  cases n == m <;> cases xs == ys <;> simp
theorem run_equalIn_head (d : Nat) (n m : Int) (xs ys : List UInt8) (hx : xs.length = 32) (hy : ys.length = 32) (w : World) :
    (Op.equalIn (d + 2 + 1) 58 (.agg (headC n xs)) (.agg (headC m ys))).run Tryz.prog w = .ok (n == m && xs == ys) w := by
  rw [run_equalIn_struct w (d + 2) 58 _ _ (by kernel_rfl) (by kernel_rfl)]
  obtain ⟨f0, f1, hf, a1, a2, a3, b1, b2, b3⟩ := headFields
  rw [hf]
  exact hq_fields d n m xs ys hx hy w f0 f1 a1 a2 a3 b1 b2 b3
theorem run_eql_head (n m : Int) (xs ys : List UInt8) (hx : xs.length = 32) (hy : ys.length = 32) (w : World) :
    (binOp .eql 58 (.agg (headC n xs)) (.agg (headC m ys))).run Tryz.prog w = .ok (.bool (n == m && xs == ys)) w := by
  rw [run_eql_struct, run_equalIn_head 9997 n m xs ys hx hy]
  rfl
theorem run_eql_head_same (n : Int) (xs : List UInt8) (hx : xs.length = 32) (w : World) :
    (binOp .eql 58 (.agg (headC n xs)) (.agg (headC n xs))).run Tryz.prog w = .ok (.bool true) w := by
  rw [run_eql_head n n xs xs hx hx]
  simp
end Go.Proofs.YtdlkdgajoafkaaaGreatDoor.prf
end

section
/- law 12's does: the call of Head. -/
namespace Go.Proofs.YtdlkdgajoafkaaaGreatDoor.prn
open Go Go.RowKit Go.Proofs.YtdlkdgajoafkaaaGreatDoor.dig Go.Proofs.YtdlkdgajoafkaaaGreatDoor.prf

theorem exec_load_of {P : Program} {ev : Operand → Value} {o : Oper} {ty : TypeId} {x : Operand} (ho : o.op = .load ty x) {p v : Value} (hp : ev x = p) {w : World} (h : (Instr.loadAt ty p).run P w = .ok v w) : (execOp ev o).run P w = .ok (.value v) w := by
  unfold execOp
  simp only [ho, hp, Sem.run_bind, h, Result.andThen_ok, Sem.run_pure]
theorem exec_eql_of {P : Program} {ev : Operand → Value} {o : Oper} {ty ty2 : TypeId} {x y : Operand} (ho : o.op = .binOp .eql ty x y ty2) {a b v : Value} (hx : ev x = a) (hy : ev y = b) {w : World} (h : (binOp .eql ty a b).run P w = .ok v w) (hg : (eqGuard .eql ty x y a b).run P w = .ok () w) : (execOp ev o).run P w = .ok (.value v) w := by
  unfold execOp
  simp only [ho, hx, hy, Sem.run_bind, hg, h, Result.andThen_ok, Sem.run_pure]
theorem built_zero : Tryz.prog.built 58 [] = some (headC 0 (List.replicate 32 0)) := by kernel_rfl
set_option maxRecDepth 100000 in
theorem exec_zero_head {ev : Operand → Value} {o : Oper} {w : World} (ho : o.op = .build 58 #[]) : (execOp ev o).run Tryz.prog w = .ok (.value (.agg (headC 0 (List.replicate 32 0)))) w := by
  have hr := run_build (P := Tryz.prog) w 58 #[] _ built_zero
  unfold execOp
  simp only [ho, Sem.run_bind, Sem.run_pure]
  simp [hr]

/-- What Head's drawn regions keep. -/
def Sh (w : World) (v : Value) (fl m n : Int) (s : ByteArray) (p : Nat) (C : Array Value) (V : World) : Prop := Sx w v fl V ∧ Has V p 58 C ∧ Has V (w.heap.size + 1) 32 #[.int .i64 4, .int .i64 m, .int .i64 n, .string s]
theorem Sh.below {w W W' : World} {v : Value} {fl m n : Int} {s : ByteArray} {p : Nat} {C : Array Value} (h : Sh w v fl m n s p C W) (b : Below W.heap.size W W') : Sh w v fl m n s p C W' := ⟨h.1.below b, h.2.1.below b h.2.1.lt, h.2.2.below b h.2.2.lt⟩
theorem Sh.stored {w W : World} {v : Value} {fl m n : Int} {s : ByteArray} {p : Nat} {C : Array Value} (h : Sh w v fl m n s p C W) (x q : Value) (h1 : w.heap.size + 2 < p) : Sh w v fl m n s p C (W.setRow (w.heap.size + 2) #[x, q]) :=
  ⟨h.1.stored x q, h.2.1.turn (turn_row W (w.heap.size + 2) #[x, q]) (by omega), h.2.2.turn (turn_row W (w.heap.size + 2) #[x, q]) (by omega)⟩

set_option maxRecDepth 100000 in
set_option maxHeartbeats 4000000 in
theorem does_head_bad (vb : Nat) (a : Option Addr) (ln c : Nat) (fl m n f : Int) (hf : ¬ f = 0) (t : ByteArray) (s : ByteArray) (w : World)
    (hA : ∀ V, Below w.heap.size w V → Calls Tryz.prog 20 #[.pointer (some ⟨vb, 0, none⟩), .int .i64 n] V fun en w' => ∃ e, en = .returned (.tuple #[.agg (headC 0 (List.replicate 32 0)), e]) ∧ ErrIs w' e headNm f ∧ Below V.heap.size V w')
    (hD : ∀ V, Below w.heap.size w V → Calls Tryz.prog 21 #[dvC (.slice a ln c) fl, .int .i64 n] V fun en w' => en = .returned (.tuple #[.string t, .int .i64 f]) ∧ Below V.heap.size V w') :
    Calls Tryz.prog 6 #[.pointer (some ⟨vb, 0, none⟩), dvC (.slice a ln c) fl, .agg #[.int .i64 4, .int .i64 m, .int .i64 n, .string s]] w fun en w' =>
      en = .returned (.tuple #[.pointer (some ⟨vb, 0, none⟩), dvC (.slice a ln c) fl, .bool true]) ∧ Below w.heap.size w w' := by
  unfold dvC at *
  have HA := Lib.hid (show _ ∧ _ from ⟨hA, hD⟩)
  have RL : Hid (((List.replicate 32 0) : List UInt8).length = 32) := Lib.hid (by simp)
  obtain ⟨q, hq⟩ : ∃ q : List UInt8, q = (List.replicate 32 0) := ⟨_, rfl⟩
  have HQ := Lib.hid hq
  rw [← hq] at HA RL
  clear hA hD hq 
  go_enter Tryz.func6, Tryz.ntmps6
  go_wp2_with fail
  refine callsName (fun W hW => ?_)
  have B0 : Hid (Bx w (.slice a ln c) fl 4 m n s W) := by
    rw [← hW]
    exact Lib.hid ⟨((made_at _ _ rfl).alloc _).alloc _, (made_at _ _ (by simp)).alloc _, made_at _ _ (by simp), (((Below.refl _ _).alloc (Nat.le_refl _) _).alloc (by simp) _).alloc (by simp; omega) _⟩
  clear hW
  refine (HA.out.1 W B0.out.bel).mono ?_
  rintro en w1 ⟨e, rfl, he, b1⟩
  have B1 : Hid (Bx w (.slice a ln c) fl 4 m n s w1) := Lib.hid (B0.out.below b1)
  have E1 := Lib.hid he
  clear b1 B0 he
  go_wp2_with (first
    | ((with_reducible refine at_store (.tmp 17) ?_); refine wpList_store_head (o := ⟨none, _, _, _, _, _⟩) rfl (.tmp 17) (.tmp 115) rfl w1.heap.size 0 0 q (List.replicate 32 0) rfl rfl (made_at _ _ rfl) RL.out (by simp) ?_; intro W2 HW2 TW2;
       (have b2 : Below w1.heap.size w1 W2 := ((Below.refl _ _).alloc (Nat.le_refl _) _).trans (TW2.below (by simp) (fun j hj e => by omega)));
       (have G2 : Hid (Bx w (.slice a ln c) fl 4 m n s W2 ∧ Has W2 w1.heap.size 58 (headC 0 q) ∧ w.heap.size + 2 < w1.heap.size ∧ ErrIs W2 e headNm f) := Lib.hid ⟨B1.out.below b2, HW2, B1.out.r.lt, E1.out.below b2⟩);
       clear B1 HW2 TW2 b2 E1;
       obtain ⟨c0, c1, d1, d2, d3⟩ := G2.out.1.cells)
    | fail)
  refine (HA.out.2 W2 G2.out.1.bel).mono ?_
  rintro en w3 ⟨rfl, b3⟩
  have B3 : Hid (Bx w (.slice a ln c) fl 4 m n s w3 ∧ Has w3 w1.heap.size 58 (headC 0 q) ∧ w.heap.size + 2 < w1.heap.size ∧ ErrIs w3 e headNm f) := Lib.hid ⟨G2.out.1.below b3, G2.out.2.1.below b3 G2.out.2.1.lt, G2.out.2.2.1, G2.out.2.2.2.below b3⟩
  clear b3 G2 c0 c1 d1 d2 d3
  obtain ⟨c0, c1, d1, d2, d3⟩ := B3.out.1.cells
  go_wp2_with fail
  have S3 : Sh w (.slice a ln c) fl m n s w1.heap.size (headC 0 q) w3.drew := ⟨⟨B3.out.1.x.drew, _, _, B3.out.1.r.drew⟩, B3.out.2.1.drew, B3.out.1.a.drew⟩
  have HL : Hid (w.heap.size + 2 < w1.heap.size ∧ Below w.heap.size w w3.drew) := Lib.hid ⟨B3.out.2.2.1, B3.out.1.bel.drew⟩
  clear c0 c1 d1 d2 d3
  refine Go.wp_region_held (P := Tryz.prog) (S := Sh w (.slice a ln c) fl m n s w1.heap.size (headC 0 q)) (by kernel_rfl) ?_
  refine held_take 0 (some 126) rfl rfl (by kernel_rfl) (by kernel_rfl) (by kernel_rfl) (fun _ _ _ h => h) (.inl ⟨by kernel_rfl, fun _ _ => rfl⟩) S3 ?_
  simp only [Act.put, List.setIfInBounds_toArray, List.set_cons_zero, List.set_cons_succ]
  refine held_take 1 (some 127) (v := .agg #[.slice a ln c, .int .i64 fl]) rfl rfl (by kernel_rfl) (by kernel_rfl) (by kernel_rfl) (fun _ _ _ h => h) (.inl ⟨by kernel_rfl, fun V hV => by have c0 := hV.1.1.cell 0; have c1 := hV.1.1.cell 1; simp at c0 c1; go_simp⟩) S3 ?_
  simp only [Act.put, List.setIfInBounds_toArray, List.set_cons_zero, List.set_cons_succ]
  refine held_take 2 (some 128) rfl rfl (by kernel_rfl) (by kernel_rfl) (by kernel_rfl) (fun _ _ _ h => h) (.inl ⟨by kernel_rfl, fun _ _ => rfl⟩) S3 ?_
  simp only [Act.put, List.setIfInBounds_toArray, List.set_cons_zero, List.set_cons_succ]
  refine held_take 4 (some 130) rfl rfl (by kernel_rfl) (by kernel_rfl) (by kernel_rfl) (fun _ _ _ h => h) (.inl ⟨by kernel_rfl, fun _ _ => rfl⟩) S3 ?_
  simp only [Act.put, List.setIfInBounds_toArray, List.set_cons_zero, List.set_cons_succ]
  refine held_one (i := 3) (by kernel_rfl) ?_
  refine wpOp_call (some 129) rfl rfl (by kernel_rfl) 17 Tryz.f17 Tryz.func17 (by kernel_rfl) (by kernel_rfl) _ _ rfl #[e] (by first | (simp [Act.eval]; done) | (simp [Act.eval, Act.put]; done)) (B3.out.2.2.2.1 _ (Below.refl _ _).drew) ?_
  rintro en w5 ⟨rfl, b5⟩
  have S5 := S3.below b5
  refine ⟨_, rfl, S5, ?_⟩
  simp only [Act.put, List.setIfInBounds_toArray, List.set_cons_zero, List.set_cons_succ]
  refine held_take 5 (some 131) (v := .bool true) rfl rfl (by kernel_rfl) (by kernel_rfl) (by kernel_rfl) (fun _ _ _ h => h) (.inl ⟨by kernel_rfl, fun V hV => by go_simp⟩) S5 ?_
  simp only [Act.put, List.setIfInBounds_toArray, List.set_cons_zero, List.set_cons_succ]
  refine held_take 6 (some 132) rfl rfl (by kernel_rfl) (by kernel_rfl) (by kernel_rfl) (fun _ _ _ h => h) (.inl ⟨by kernel_rfl, fun _ _ => rfl⟩) S5 ?_
  simp only [Act.put, List.setIfInBounds_toArray, List.set_cons_zero, List.set_cons_succ]
  refine held_take 7 (some 133) rfl rfl (by kernel_rfl) (by kernel_rfl) (by kernel_rfl) (fun _ _ _ h => h) (.inl ⟨by kernel_rfl, fun _ _ => rfl⟩) S5 ?_
  simp only [Act.put, List.setIfInBounds_toArray, List.set_cons_zero, List.set_cons_succ]
  refine held_one (i := 8) (by kernel_rfl) ?_
  refine wpOp_call (some 134) rfl rfl (by kernel_rfl) 18 Tryz.f18 Tryz.func18 (by kernel_rfl) (by kernel_rfl) _ _ rfl #[e, .string headNm] (by first | (simp [Act.eval, headNm]; done) | (simp [Act.eval, Act.put]; done)) (B3.out.2.2.2.2 hf _ (((Below.refl _ _).drew).trans b5)) ?_
  rintro en w6 ⟨rfl, b6⟩
  have S6 := S5.below b6
  refine ⟨_, rfl, S6, ?_⟩
  simp only [Act.put, List.setIfInBounds_toArray, List.set_cons_zero, List.set_cons_succ]
  refine held_take 9 (some 135) (v := .bool true) rfl rfl (by kernel_rfl) (by kernel_rfl) (by kernel_rfl) (fun _ _ _ h => h) (.inl ⟨by kernel_rfl, fun V hV => by go_simp⟩) S6 ?_
  simp only [Act.put, List.setIfInBounds_toArray, List.set_cons_zero, List.set_cons_succ]
  refine held_take 10 (some 136) rfl rfl (by kernel_rfl) (by kernel_rfl) (by kernel_rfl) (fun _ _ _ h => h) (.inl ⟨by kernel_rfl, fun _ _ => rfl⟩) S6 ?_
  simp only [Act.put, List.setIfInBounds_toArray, List.set_cons_zero, List.set_cons_succ]
  refine held_take 11 (some 137) (v := .agg (headC 0 q)) rfl rfl (by kernel_rfl) (by kernel_rfl) (by kernel_rfl) (fun _ _ _ h => h) (.inl ⟨by kernel_rfl, fun V hV => by exact exec_load_of rfl (p := .pointer (some ⟨w1.heap.size, 0, none⟩)) (by first | rfl | simp [Act.eval]) (prf.Has.load_hd hV.2.1 RL.out)⟩) S6 ?_
  simp only [Act.put, List.setIfInBounds_toArray, List.set_cons_zero, List.set_cons_succ]
  refine held_take 12 (some 138) (v := .agg (headC 0 q)) rfl rfl (by kernel_rfl) (by kernel_rfl) (by kernel_rfl) (fun _ _ _ h => h) (.inl ⟨by kernel_rfl, fun V hV => by rw [HQ.out]; exact exec_zero_head rfl⟩) S6 ?_
  simp only [Act.put, List.setIfInBounds_toArray, List.set_cons_zero, List.set_cons_succ]
  refine held_take 13 (some 139) (v := .bool true) rfl rfl (by kernel_rfl) (by kernel_rfl) (by kernel_rfl) (fun _ _ _ h => h) (.inl ⟨by kernel_rfl, fun V hV => by exact exec_eql_of rfl (by first | rfl | simp [Act.eval]) (by first | rfl | simp [Act.eval]) (run_eql_head_same 0 q RL.out V) (by first | rfl | (simp [eqGuard]; done) | go_simp)⟩) S6 ?_
  simp only [Act.put, List.setIfInBounds_toArray, List.set_cons_zero, List.set_cons_succ]
  refine held_take 14 (some 140) (v := .bool true) rfl rfl (by kernel_rfl) (by kernel_rfl) (by kernel_rfl) (fun _ _ _ h => h) (.inl ⟨by kernel_rfl, fun V hV => by go_simp⟩) S6 ?_
  simp only [Act.put, List.setIfInBounds_toArray, List.set_cons_zero, List.set_cons_succ]
  refine held_take 15 (some 6) rfl rfl (by kernel_rfl) (by kernel_rfl) (by kernel_rfl) (fun _ _ _ h => h) (.inl ⟨by kernel_rfl, fun _ _ => rfl⟩) S6 ?_
  simp only [Act.put, List.setIfInBounds_toArray, List.set_cons_zero, List.set_cons_succ]
  obtain ⟨x7, y7, R7⟩ := S6.1.2
  refine held_one (i := 16) (by kernel_rfl) ?_
  refine wpOp_wp (o := ⟨none, _, _, _, _, _⟩) rfl (by kernel_rfl) ?_
  refine wp_store_row 28 (.tmp 7) (.tmp 127) rfl (w.heap.size + 2) #[.slice a ln c, .int .i64 fl] (by first | rfl | simp [Act.eval]) (by first | rfl | simp [Act.eval]) 28 _ R7 (by kernel_rfl) rfl (by simp [Value.oneCell']) ?_
  have S9 := S6.stored (.slice a ln c) (.int .i64 fl) HL.out.1
  refine ⟨S9, ?_⟩
  simp only [Act.put]
  refine held_take 17 (some 8) rfl rfl (by kernel_rfl) (by kernel_rfl) (by kernel_rfl) (fun _ _ _ h => h) (.inl ⟨by kernel_rfl, fun _ _ => rfl⟩) S9 ?_
  simp only [Act.put, List.setIfInBounds_toArray, List.set_cons_zero, List.set_cons_succ]
  refine wpAnyH_done (by kernel_rfl) ?_ _
  go_wp2_with fail
  exact bodyPost_ret (v := .tuple #[.pointer (some ⟨vb, 0, none⟩), .agg #[.slice a ln c, .int .i64 fl], .bool true]) (res_does rfl _ _ (w.heap.size + 2) _ _ _ rfl rfl rfl (R7.row _) (by kernel_rfl)) rfl ⟨rfl, ((HL.out.2.trans (b5.mono HL.out.2.size)).trans (b6.mono (HL.out.2.trans (b5.mono HL.out.2.size)).size)).trans ((turn_row _ (w.heap.size + 2) _).below ((HL.out.2.trans (b5.mono HL.out.2.size)).trans (b6.mono (HL.out.2.trans (b5.mono HL.out.2.size)).size)).size (fun j hj e => by omega))⟩

set_option maxRecDepth 100000 in
set_option maxHeartbeats 4000000 in
theorem does_head_ok (vb : Nat) (a : Option Addr) (ln c : Nat) (fl m n  : Int) (R : List UInt8) (hR : R.length = 32) (s : ByteArray) (w : World)
    (hA : ∀ V, Below w.heap.size w V → Calls Tryz.prog 20 #[.pointer (some ⟨vb, 0, none⟩), .int .i64 n] V fun en w' => en = .returned (.tuple #[.agg (headC n R), .nilIface]) ∧ Below V.heap.size V w')
    (hD : ∀ V, Below w.heap.size w V → Calls Tryz.prog 21 #[dvC (.slice a ln c) fl, .int .i64 n] V fun en w' => en = .returned (.tuple #[.string (bs R), .int .i64 0]) ∧ Below V.heap.size V w') :
    Calls Tryz.prog 6 #[.pointer (some ⟨vb, 0, none⟩), dvC (.slice a ln c) fl, .agg #[.int .i64 4, .int .i64 m, .int .i64 n, .string s]] w fun en w' =>
      en = .returned (.tuple #[.pointer (some ⟨vb, 0, none⟩), dvC (.slice a ln c) fl, .bool true]) ∧ Below w.heap.size w w' := by
  unfold dvC at *
  have HA := Lib.hid (show _ ∧ _ from ⟨hA, hD⟩)
  have RL : Hid ((R : List UInt8).length = 32) := Lib.hid hR
  obtain ⟨q, hq⟩ : ∃ q : List UInt8, q = R := ⟨_, rfl⟩
  have HQ := Lib.hid hq
  rw [← hq] at HA RL
  clear hA hD hq hR
  go_enter Tryz.func6, Tryz.ntmps6
  go_wp2_with fail
  refine callsName (fun W hW => ?_)
  have B0 : Hid (Bx w (.slice a ln c) fl 4 m n s W) := by
    rw [← hW]
    exact Lib.hid ⟨((made_at _ _ rfl).alloc _).alloc _, (made_at _ _ (by simp)).alloc _, made_at _ _ (by simp), (((Below.refl _ _).alloc (Nat.le_refl _) _).alloc (by simp) _).alloc (by simp; omega) _⟩
  clear hW
  refine (HA.out.1 W B0.out.bel).mono ?_
  rintro en w1 ⟨rfl, b1⟩
  have B1 : Hid (Bx w (.slice a ln c) fl 4 m n s w1) := Lib.hid (B0.out.below b1)
  skip
  clear b1 B0 
  go_wp2_with (first
    | ((with_reducible refine at_store (.tmp 17) ?_); refine wpList_store_head (o := ⟨none, _, _, _, _, _⟩) rfl (.tmp 17) (.tmp 115) rfl w1.heap.size n 0 q (List.replicate 32 0) rfl rfl (made_at _ _ rfl) RL.out (by simp) ?_; intro W2 HW2 TW2;
       (have b2 : Below w1.heap.size w1 W2 := ((Below.refl _ _).alloc (Nat.le_refl _) _).trans (TW2.below (by simp) (fun j hj e => by omega)));
       (have G2 : Hid (Bx w (.slice a ln c) fl 4 m n s W2 ∧ Has W2 w1.heap.size 58 (headC n q) ∧ w.heap.size + 2 < w1.heap.size) := Lib.hid ⟨B1.out.below b2, HW2, B1.out.r.lt⟩);
       clear B1 HW2 TW2 b2 ;
       obtain ⟨c0, c1, d1, d2, d3⟩ := G2.out.1.cells)
    | fail)
  refine (HA.out.2 W2 G2.out.1.bel).mono ?_
  rintro en w3 ⟨rfl, b3⟩
  have B3 : Hid (Bx w (.slice a ln c) fl 4 m n s w3 ∧ Has w3 w1.heap.size 58 (headC n q) ∧ w.heap.size + 2 < w1.heap.size) := Lib.hid ⟨G2.out.1.below b3, G2.out.2.1.below b3 G2.out.2.1.lt, G2.out.2.2⟩
  clear b3 G2 c0 c1 d1 d2 d3
  obtain ⟨c0, c1, d1, d2, d3⟩ := B3.out.1.cells
  go_wp2_with fail
  have S3 : Sh w (.slice a ln c) fl m n s w1.heap.size (headC n q) w3.drew := ⟨⟨B3.out.1.x.drew, _, _, B3.out.1.r.drew⟩, B3.out.2.1.drew, B3.out.1.a.drew⟩
  have HL : Hid (w.heap.size + 2 < w1.heap.size ∧ Below w.heap.size w w3.drew) := Lib.hid ⟨B3.out.2.2, B3.out.1.bel.drew⟩
  clear c0 c1 d1 d2 d3
  refine Go.wp_region_held (P := Tryz.prog) (S := Sh w (.slice a ln c) fl m n s w1.heap.size (headC n q)) (by kernel_rfl) ?_
  refine held_take 0 (some 141) rfl rfl (by kernel_rfl) (by kernel_rfl) (by kernel_rfl) (fun _ _ _ h => h) (.inl ⟨by kernel_rfl, fun _ _ => rfl⟩) S3 ?_
  simp only [Act.put, List.setIfInBounds_toArray, List.set_cons_zero, List.set_cons_succ]
  refine held_take 1 (some 142) (v := .agg #[.slice a ln c, .int .i64 fl]) rfl rfl (by kernel_rfl) (by kernel_rfl) (by kernel_rfl) (fun _ _ _ h => h) (.inl ⟨by kernel_rfl, fun V hV => by have c0 := hV.1.1.cell 0; have c1 := hV.1.1.cell 1; simp at c0 c1; go_simp⟩) S3 ?_
  simp only [Act.put, List.setIfInBounds_toArray, List.set_cons_zero, List.set_cons_succ]
  refine held_take 2 (some 143) rfl rfl (by kernel_rfl) (by kernel_rfl) (by kernel_rfl) (fun _ _ _ h => h) (.inl ⟨by kernel_rfl, fun _ _ => rfl⟩) S3 ?_
  simp only [Act.put, List.setIfInBounds_toArray, List.set_cons_zero, List.set_cons_succ]
  refine held_take 3 (some 144) (v := .bool true) rfl rfl (by kernel_rfl) (by kernel_rfl) (by kernel_rfl) (fun _ _ _ h => h) (.inl ⟨by kernel_rfl, fun V hV => by go_simp⟩) S3 ?_
  simp only [Act.put, List.setIfInBounds_toArray, List.set_cons_zero, List.set_cons_succ]
  refine held_take 4 (some 145) rfl rfl (by kernel_rfl) (by kernel_rfl) (by kernel_rfl) (fun _ _ _ h => h) (.inl ⟨by kernel_rfl, fun _ _ => rfl⟩) S3 ?_
  simp only [Act.put, List.setIfInBounds_toArray, List.set_cons_zero, List.set_cons_succ]
  refine held_take 5 (some 146) (v := .pointer (some ⟨w1.heap.size, 0, none⟩)) rfl rfl (by kernel_rfl) (by kernel_rfl) (by kernel_rfl) (fun _ _ _ h => h) (.inl ⟨by kernel_rfl, fun V hV => by go_simp⟩) S3 ?_
  simp only [Act.put, List.setIfInBounds_toArray, List.set_cons_zero, List.set_cons_succ]
  refine held_take 6 (some 147) (v := .int .i64 n) rfl rfl (by kernel_rfl) (by kernel_rfl) (by kernel_rfl) (fun _ _ _ h => h) (.inl ⟨by kernel_rfl, fun V hV => by have hn := prf.Has.num hV.2.1; go_simp⟩) S3 ?_
  simp only [Act.put, List.setIfInBounds_toArray, List.set_cons_zero, List.set_cons_succ]
  refine held_take 7 (some 148) (v := .pointer (some ⟨w.heap.size + 1, 2, none⟩)) rfl rfl (by kernel_rfl) (by kernel_rfl) (by kernel_rfl) (fun _ _ _ h => h) (.inl ⟨by kernel_rfl, fun V hV => by go_simp⟩) S3 ?_
  simp only [Act.put, List.setIfInBounds_toArray, List.set_cons_zero, List.set_cons_succ]
  refine held_take 8 (some 149) (v := .int .i64 n) rfl rfl (by kernel_rfl) (by kernel_rfl) (by kernel_rfl) (fun _ _ _ h => h) (.inl ⟨by kernel_rfl, fun V hV => by have hn := hV.2.2.cell 2; simp at hn; go_simp⟩) S3 ?_
  simp only [Act.put, List.setIfInBounds_toArray, List.set_cons_zero, List.set_cons_succ]
  refine held_take 9 (some 150) (v := .bool true) rfl rfl (by kernel_rfl) (by kernel_rfl) (by kernel_rfl) (fun _ _ _ h => h) (.inl ⟨by kernel_rfl, fun V hV => by go_simp⟩) S3 ?_
  simp only [Act.put, List.setIfInBounds_toArray, List.set_cons_zero, List.set_cons_succ]
  refine held_take 10 (some 151) (v := .bool true) rfl rfl (by kernel_rfl) (by kernel_rfl) (by kernel_rfl) (fun _ _ _ h => h) (.inl ⟨by kernel_rfl, fun V hV => by go_simp⟩) S3 ?_
  simp only [Act.put, List.setIfInBounds_toArray, List.set_cons_zero, List.set_cons_succ]
  refine held_take 11 (some 152) rfl rfl (by kernel_rfl) (by kernel_rfl) (by kernel_rfl) (fun _ _ _ h => h) (.inl ⟨by kernel_rfl, fun _ _ => rfl⟩) S3 ?_
  simp only [Act.put, List.setIfInBounds_toArray, List.set_cons_zero, List.set_cons_succ]
  refine held_take 12 (some 153) (v := .pointer (some ⟨w1.heap.size, 1, none⟩)) rfl rfl (by kernel_rfl) (by kernel_rfl) (by kernel_rfl) (fun _ _ _ h => h) (.inl ⟨by kernel_rfl, fun V hV => by go_simp⟩) S3 ?_
  simp only [Act.put, List.setIfInBounds_toArray, List.set_cons_zero, List.set_cons_succ]
  refine held_take 13 (some 154) (v := .slice (some ⟨w1.heap.size, 1, none⟩) 32 32) rfl rfl (by kernel_rfl) (by kernel_rfl) (by kernel_rfl) (fun _ _ _ h => h) (.inl ⟨by kernel_rfl, fun V hV => by go_simp⟩) S3 ?_
  simp only [Act.put, List.setIfInBounds_toArray, List.set_cons_zero, List.set_cons_succ]
  refine held_take 14 (some 155) (v := .string (bs q)) rfl rfl (by kernel_rfl) (by kernel_rfl) (by kernel_rfl) (fun _ _ _ h => h) (.inl ⟨by kernel_rfl, fun V hV => by have hcv := run_convert_bytes_back (P := Tryz.prog) V 61 9 5 ⟨w1.heap.size, 1, none⟩ 32 q Tryz.underlying61 Tryz.underlying5 Tryz.underlying9 (fun j hj => by rw [Addr.add_mid]; exact prf.Has.root hV.2.1 j _ (by rw [List.getElem?_map, List.getElem?_eq_getElem hj]; rfl)); rw [RL.out] at hcv; go_simp; first | done | rfl⟩) S3 ?_
  simp only [Act.put, List.setIfInBounds_toArray, List.set_cons_zero, List.set_cons_succ]
  refine held_take 15 (some 156) rfl rfl (by kernel_rfl) (by kernel_rfl) (by kernel_rfl) (fun _ _ _ h => h) (.inl ⟨by kernel_rfl, fun _ _ => rfl⟩) S3 ?_
  simp only [Act.put, List.setIfInBounds_toArray, List.set_cons_zero, List.set_cons_succ]
  refine held_take 16 (some 157) (v := .bool true) rfl rfl (by kernel_rfl) (by kernel_rfl) (by kernel_rfl) (fun _ _ _ h => h) (.inl ⟨by kernel_rfl, fun V hV => by have hss : ((bs q).toList == (bs q).toList) = true := (by simp); go_simp⟩) S3 ?_
  simp only [Act.put, List.setIfInBounds_toArray, List.set_cons_zero, List.set_cons_succ]
  refine held_take 17 (some 158) (v := .bool true) rfl rfl (by kernel_rfl) (by kernel_rfl) (by kernel_rfl) (fun _ _ _ h => h) (.inl ⟨by kernel_rfl, fun V hV => by go_simp⟩) S3 ?_
  simp only [Act.put, List.setIfInBounds_toArray, List.set_cons_zero, List.set_cons_succ]
  refine held_take 18 (some 6) rfl rfl (by kernel_rfl) (by kernel_rfl) (by kernel_rfl) (fun _ _ _ h => h) (.inl ⟨by kernel_rfl, fun _ _ => rfl⟩) S3 ?_
  simp only [Act.put, List.setIfInBounds_toArray, List.set_cons_zero, List.set_cons_succ]
  obtain ⟨x7, y7, R7⟩ := S3.1.2
  refine held_one (i := 19) (by kernel_rfl) ?_
  refine wpOp_wp (o := ⟨none, _, _, _, _, _⟩) rfl (by kernel_rfl) ?_
  refine wp_store_row 28 (.tmp 7) (.tmp 142) rfl (w.heap.size + 2) #[.slice a ln c, .int .i64 fl] (by first | rfl | simp [Act.eval]) (by first | rfl | simp [Act.eval]) 28 _ R7 (by kernel_rfl) rfl (by simp [Value.oneCell']) ?_
  have S9 := S3.stored (.slice a ln c) (.int .i64 fl) HL.out.1
  refine ⟨S9, ?_⟩
  simp only [Act.put]
  refine held_take 20 (some 8) rfl rfl (by kernel_rfl) (by kernel_rfl) (by kernel_rfl) (fun _ _ _ h => h) (.inl ⟨by kernel_rfl, fun _ _ => rfl⟩) S9 ?_
  simp only [Act.put, List.setIfInBounds_toArray, List.set_cons_zero, List.set_cons_succ]
  refine wpAnyH_done (by kernel_rfl) ?_ _
  go_wp2_with fail
  exact bodyPost_ret (v := .tuple #[.pointer (some ⟨vb, 0, none⟩), .agg #[.slice a ln c, .int .i64 fl], .bool true]) (res_does rfl _ _ (w.heap.size + 2) _ _ _ rfl rfl rfl (R7.row _) (by kernel_rfl)) rfl ⟨rfl, (HL.out.2).trans ((turn_row _ (w.heap.size + 2) _).below (HL.out.2).size (fun j hj e => by omega))⟩

end Go.Proofs.YtdlkdgajoafkaaaGreatDoor.prn
end

section
/- law 12's does: the call of Clone. -/
namespace Go.Proofs.YtdlkdgajoafkaaaGreatDoor.prn
open Go Go.RowKit Go.Proofs.YtdlkdgajoafkaaaGreatDoor.dig Go.Proofs.YtdlkdgajoafkaaaGreatDoor.prf

/-- What Path tells of an error, in every world from here on. -/
def PthIs (W : World) (e : Value) (pt : ByteArray) : Prop := ∀ V, Below W.heap.size W V → Calls Tryz.prog 12 #[e] V fun en w' => en = .returned (.string pt) ∧ Below V.heap.size V w'
theorem PthIs.err {W : World} (hP : Pw W) {b : Nat} {s : ByteArray} {a n : Int} (he : flt.Er W.heap.size W [⟨b, s, a⟩] n) (h1 : 1 ≤ n) (h2 : n ≤ 20) (hs : s.size ≤ 1000) : PthIs W (flt.ev [⟨b, s, a⟩] n) (flt.pathB [⟨b, s, a⟩] n) :=
  fun _ hV => path_one (hP.below hV) ((he.below hV (Nat.le_refl _)).more hV.size) h1 h2 hs
def cloneP : ByteArray := ⟨#[99, 108, 111, 110, 101, 47, 114, 97, 110, 103, 101]⟩

set_option maxRecDepth 100000 in
set_option maxHeartbeats 4000000 in
theorem does_clone_bad (vb : Nat) (a : Option Addr) (ln c : Nat) (fl m n : Int) (hx : n < fl ∨ n > ln) (s : ByteArray) (w : World)
    (hA : ∀ V, Below w.heap.size w V → Calls Tryz.prog 27 #[.pointer (some ⟨vb, 0, none⟩), .int .i64 n] V fun en w' => ∃ e, en = .returned (.tuple #[.pointer none, e]) ∧ PthIs w' e cloneP ∧ Below V.heap.size V w') :
    Calls Tryz.prog 6 #[.pointer (some ⟨vb, 0, none⟩), dvC (.slice a ln c) fl, .agg #[.int .i64 7, .int .i64 m, .int .i64 n, .string s]] w fun en w' =>
      en = .returned (.tuple #[.pointer (some ⟨vb, 0, none⟩), dvC (.slice a ln c) fl, .bool true]) ∧ Below w.heap.size w w' := by
  unfold dvC at *
  have HA := Lib.hid hA
  have HX := Lib.hid hx
  clear hA hx
  go_enter Tryz.func6, Tryz.ntmps6
  go_wp2_with fail
  refine callsName (fun W hW => ?_)
  have B0 : Hid (Bx w (.slice a ln c) fl 7 m n s W) := by
    rw [← hW]
    exact Lib.hid ⟨((made_at _ _ rfl).alloc _).alloc _, (made_at _ _ (by simp)).alloc _, made_at _ _ (by simp), (((Below.refl _ _).alloc (Nat.le_refl _) _).alloc (by simp) _).alloc (by simp; omega) _⟩
  clear hW
  refine (HA.out W B0.out.bel).mono ?_
  rintro en w1 ⟨e, rfl, he, b1⟩
  have B1 : Hid (Bx w (.slice a ln c) fl 7 m n s w1) := Lib.hid (B0.out.below b1)
  have E1 := Lib.hid he
  obtain ⟨c0, c1, d1, d2, d3⟩ := B1.out.cells
  clear b1 he B0
  have S3 : Sx w (.slice a ln c) fl w1.drew := ⟨B1.out.x.drew, _, _, B1.out.r.drew⟩
  have HL : Hid (Below w.heap.size w w1.drew) := Lib.hid B1.out.bel.drew
  by_cases h1 : n < fl
  · go_wp2_with fail
    clear c0 c1 d1 d2 d3
    refine Go.wp_region_held (P := Tryz.prog) (S := Sx w (.slice a ln c) fl) (by kernel_rfl) ?_
    refine held_take 0 (some 251) rfl rfl (by kernel_rfl) (by kernel_rfl) (by kernel_rfl) (fun _ _ _ h => h) (.inl ⟨by kernel_rfl, fun _ _ => rfl⟩) S3 ?_
    simp only [Act.put, List.setIfInBounds_toArray, List.set_cons_zero, List.set_cons_succ]
    refine held_take 1 (some 252) (v := .agg #[.slice a ln c, .int .i64 fl]) rfl rfl (by kernel_rfl) (by kernel_rfl) (by kernel_rfl) (fun _ _ _ h => h) (.inl ⟨by kernel_rfl, fun V hV => by have c0 := hV.1.cell 0; have c1 := hV.1.cell 1; simp at c0 c1; go_simp⟩) S3 ?_
    simp only [Act.put, List.setIfInBounds_toArray, List.set_cons_zero, List.set_cons_succ]
    refine held_take 2 (some 253) rfl rfl (by kernel_rfl) (by kernel_rfl) (by kernel_rfl) (fun _ _ _ h => h) (.inl ⟨by kernel_rfl, fun _ _ => rfl⟩) S3 ?_
    simp only [Act.put, List.setIfInBounds_toArray, List.set_cons_zero, List.set_cons_succ]
    refine held_take 3 (some 254) (v := .bool true) rfl rfl (by kernel_rfl) (by kernel_rfl) (by kernel_rfl) (fun _ _ _ h => h) (.inl ⟨by kernel_rfl, fun V hV => by go_simp⟩) S3 ?_
    simp only [Act.put, List.setIfInBounds_toArray, List.set_cons_zero, List.set_cons_succ]
    refine held_take 4 (some 255) rfl rfl (by kernel_rfl) (by kernel_rfl) (by kernel_rfl) (fun _ _ _ h => h) (.inl ⟨by kernel_rfl, fun _ _ => rfl⟩) S3 ?_
    simp only [Act.put, List.setIfInBounds_toArray, List.set_cons_zero, List.set_cons_succ]
    refine held_take 5 (some 256) rfl rfl (by kernel_rfl) (by kernel_rfl) (by kernel_rfl) (fun _ _ _ h => h) (.inl ⟨by kernel_rfl, fun _ _ => rfl⟩) S3 ?_
    simp only [Act.put, List.setIfInBounds_toArray, List.set_cons_zero, List.set_cons_succ]
    refine held_one (i := 6) (by kernel_rfl) ?_
    refine wpOp_call (some 257) rfl rfl (by kernel_rfl) 12 Tryz.f12 Tryz.func12 (by kernel_rfl) (by kernel_rfl) _ _ rfl #[e] (by first | (simp [Act.eval]; done) | (simp [Act.eval, Act.put]; done)) (E1.out _ (Below.refl _ _).drew) ?_
    rintro en w5 ⟨rfl, b5⟩
    have S5 := S3.below b5
    refine ⟨_, rfl, S5, ?_⟩
    simp only [Act.put, List.setIfInBounds_toArray, List.set_cons_zero, List.set_cons_succ]
    refine held_take 7 (some 258) (v := .bool true) rfl rfl (by kernel_rfl) (by kernel_rfl) (by kernel_rfl) (fun _ _ _ h => h) (.inl ⟨by kernel_rfl, fun V hV => by unfold cloneP; go_simp⟩) S5 ?_
    simp only [Act.put, List.setIfInBounds_toArray, List.set_cons_zero, List.set_cons_succ]
    refine held_take 8 (some 259) (v := .bool true) rfl rfl (by kernel_rfl) (by kernel_rfl) (by kernel_rfl) (fun _ _ _ h => h) (.inl ⟨by kernel_rfl, fun V hV => by go_simp⟩) S5 ?_
    simp only [Act.put, List.setIfInBounds_toArray, List.set_cons_zero, List.set_cons_succ]
    refine held_take 9 (some 6) rfl rfl (by kernel_rfl) (by kernel_rfl) (by kernel_rfl) (fun _ _ _ h => h) (.inl ⟨by kernel_rfl, fun _ _ => rfl⟩) S5 ?_
    simp only [Act.put, List.setIfInBounds_toArray, List.set_cons_zero, List.set_cons_succ]
    obtain ⟨x7, y7, R7⟩ := S5.2
    refine held_one (i := 10) (by kernel_rfl) ?_
    refine wpOp_wp (o := ⟨none, _, _, _, _, _⟩) rfl (by kernel_rfl) ?_
    refine wp_store_row 28 (.tmp 7) (.tmp 252) rfl (w.heap.size + 2) #[.slice a ln c, .int .i64 fl] (by first | rfl | simp [Act.eval]) (by first | rfl | simp [Act.eval]) 28 _ R7 (by kernel_rfl) rfl (by simp [Value.oneCell']) ?_
    have S9 := S5.stored (.slice a ln c) (.int .i64 fl)
    refine ⟨S9, ?_⟩
    simp only [Act.put]
    refine held_take 11 (some 8) rfl rfl (by kernel_rfl) (by kernel_rfl) (by kernel_rfl) (fun _ _ _ h => h) (.inl ⟨by kernel_rfl, fun _ _ => rfl⟩) S9 ?_
    simp only [Act.put, List.setIfInBounds_toArray, List.set_cons_zero, List.set_cons_succ]
    refine wpAnyH_done (by kernel_rfl) ?_ _
    go_wp2_with fail
    exact bodyPost_ret (v := .tuple #[.pointer (some ⟨vb, 0, none⟩), .agg #[.slice a ln c, .int .i64 fl], .bool true]) (res_does rfl _ _ (w.heap.size + 2) _ _ _ rfl rfl rfl (R7.row _) (by kernel_rfl)) rfl ⟨rfl, (HL.out.trans (b5.mono HL.out.size)).trans ((turn_row _ (w.heap.size + 2) _).below (HL.out.trans (b5.mono HL.out.size)).size (fun j hj e => by omega))⟩
  · have h2 : n > (ln : Int) := by have := HX.out; omega
    go_wp2_with fail
    clear c0 c1 d1 d2 d3
    refine Go.wp_region_held (P := Tryz.prog) (S := Sx w (.slice a ln c) fl) (by kernel_rfl) ?_
    refine held_take 0 (some 251) rfl rfl (by kernel_rfl) (by kernel_rfl) (by kernel_rfl) (fun _ _ _ h => h) (.inl ⟨by kernel_rfl, fun _ _ => rfl⟩) S3 ?_
    simp only [Act.put, List.setIfInBounds_toArray, List.set_cons_zero, List.set_cons_succ]
    refine held_take 1 (some 252) (v := .agg #[.slice a ln c, .int .i64 fl]) rfl rfl (by kernel_rfl) (by kernel_rfl) (by kernel_rfl) (fun _ _ _ h => h) (.inl ⟨by kernel_rfl, fun V hV => by have c0 := hV.1.cell 0; have c1 := hV.1.cell 1; simp at c0 c1; go_simp⟩) S3 ?_
    simp only [Act.put, List.setIfInBounds_toArray, List.set_cons_zero, List.set_cons_succ]
    refine held_take 2 (some 253) rfl rfl (by kernel_rfl) (by kernel_rfl) (by kernel_rfl) (fun _ _ _ h => h) (.inl ⟨by kernel_rfl, fun _ _ => rfl⟩) S3 ?_
    simp only [Act.put, List.setIfInBounds_toArray, List.set_cons_zero, List.set_cons_succ]
    refine held_take 3 (some 254) (v := .bool true) rfl rfl (by kernel_rfl) (by kernel_rfl) (by kernel_rfl) (fun _ _ _ h => h) (.inl ⟨by kernel_rfl, fun V hV => by go_simp⟩) S3 ?_
    simp only [Act.put, List.setIfInBounds_toArray, List.set_cons_zero, List.set_cons_succ]
    refine held_take 4 (some 255) rfl rfl (by kernel_rfl) (by kernel_rfl) (by kernel_rfl) (fun _ _ _ h => h) (.inl ⟨by kernel_rfl, fun _ _ => rfl⟩) S3 ?_
    simp only [Act.put, List.setIfInBounds_toArray, List.set_cons_zero, List.set_cons_succ]
    refine held_take 5 (some 256) rfl rfl (by kernel_rfl) (by kernel_rfl) (by kernel_rfl) (fun _ _ _ h => h) (.inl ⟨by kernel_rfl, fun _ _ => rfl⟩) S3 ?_
    simp only [Act.put, List.setIfInBounds_toArray, List.set_cons_zero, List.set_cons_succ]
    refine held_one (i := 6) (by kernel_rfl) ?_
    refine wpOp_call (some 257) rfl rfl (by kernel_rfl) 12 Tryz.f12 Tryz.func12 (by kernel_rfl) (by kernel_rfl) _ _ rfl #[e] (by first | (simp [Act.eval]; done) | (simp [Act.eval, Act.put]; done)) (E1.out _ (Below.refl _ _).drew) ?_
    rintro en w5 ⟨rfl, b5⟩
    have S5 := S3.below b5
    refine ⟨_, rfl, S5, ?_⟩
    simp only [Act.put, List.setIfInBounds_toArray, List.set_cons_zero, List.set_cons_succ]
    refine held_take 7 (some 258) (v := .bool true) rfl rfl (by kernel_rfl) (by kernel_rfl) (by kernel_rfl) (fun _ _ _ h => h) (.inl ⟨by kernel_rfl, fun V hV => by unfold cloneP; go_simp⟩) S5 ?_
    simp only [Act.put, List.setIfInBounds_toArray, List.set_cons_zero, List.set_cons_succ]
    refine held_take 8 (some 259) (v := .bool true) rfl rfl (by kernel_rfl) (by kernel_rfl) (by kernel_rfl) (fun _ _ _ h => h) (.inl ⟨by kernel_rfl, fun V hV => by go_simp⟩) S5 ?_
    simp only [Act.put, List.setIfInBounds_toArray, List.set_cons_zero, List.set_cons_succ]
    refine held_take 9 (some 6) rfl rfl (by kernel_rfl) (by kernel_rfl) (by kernel_rfl) (fun _ _ _ h => h) (.inl ⟨by kernel_rfl, fun _ _ => rfl⟩) S5 ?_
    simp only [Act.put, List.setIfInBounds_toArray, List.set_cons_zero, List.set_cons_succ]
    obtain ⟨x7, y7, R7⟩ := S5.2
    refine held_one (i := 10) (by kernel_rfl) ?_
    refine wpOp_wp (o := ⟨none, _, _, _, _, _⟩) rfl (by kernel_rfl) ?_
    refine wp_store_row 28 (.tmp 7) (.tmp 252) rfl (w.heap.size + 2) #[.slice a ln c, .int .i64 fl] (by first | rfl | simp [Act.eval]) (by first | rfl | simp [Act.eval]) 28 _ R7 (by kernel_rfl) rfl (by simp [Value.oneCell']) ?_
    have S9 := S5.stored (.slice a ln c) (.int .i64 fl)
    refine ⟨S9, ?_⟩
    simp only [Act.put]
    refine held_take 11 (some 8) rfl rfl (by kernel_rfl) (by kernel_rfl) (by kernel_rfl) (fun _ _ _ h => h) (.inl ⟨by kernel_rfl, fun _ _ => rfl⟩) S9 ?_
    simp only [Act.put, List.setIfInBounds_toArray, List.set_cons_zero, List.set_cons_succ]
    refine wpAnyH_done (by kernel_rfl) ?_ _
    go_wp2_with fail
    exact bodyPost_ret (v := .tuple #[.pointer (some ⟨vb, 0, none⟩), .agg #[.slice a ln c, .int .i64 fl], .bool true]) (res_does rfl _ _ (w.heap.size + 2) _ _ _ rfl rfl rfl (R7.row _) (by kernel_rfl)) rfl ⟨rfl, (HL.out.trans (b5.mono HL.out.size)).trans ((turn_row _ (w.heap.size + 2) _).below (HL.out.trans (b5.mono HL.out.size)).size (fun j hj e => by omega))⟩

/-- What Clone's drawn region keeps. -/
def Sq (w : World) (v : Value) (fl m n : Int) (s : ByteArray) (V : World) : Prop := Sx w v fl V ∧ Has V (w.heap.size + 1) 32 #[.int .i64 7, .int .i64 m, .int .i64 n, .string s]
theorem Sq.stored {w W : World} {v : Value} {fl m n : Int} {s : ByteArray} (h : Sq w v fl m n s W) (p q : Value) : Sq w v fl m n s (W.setRow (w.heap.size + 2) #[p, q]) :=
  ⟨h.1.stored p q, h.2.turn (turn_row W (w.heap.size + 2) #[p, q]) (by omega)⟩

/-- A clone goes on in the vault's place. -/
theorem Dz.cloned {s0 B : Nat} {w : Gh} {vb cb : Nat} {a : Option Addr} {c p : Nat} {L : List ByteArray} {fl : Nat} {W W1 W2 : World} (h : Dz s0 B w vb (.slice a L.length c) L fl W) (hp : p ≤ L.length) (ha : a ≠ none ∨ L.length = 0)
    {F : Nat → Prop} (f1 : Va B F W1 vb L fl) (h2 : ∀ j, F j → j < s0) (hv : ∀ x, (Value.slice a L.length c).ownBlock = some x → ¬ F x) (h5 : ¬ F w.g) (hc : Va B (fun j => W.heap.size ≤ j) W1 cb (L.take p) fl) (b : Below W.heap.size W W1) (hs : s0 + 3 ≤ W.heap.size) (t : Turn F W1 W2) :
    Dz s0 B w cb (.slice a p c) (L.take p) fl W2 := by
  have hdc : Strs W2 (.slice a p c) (L.take p) := by
    have d1 := (h.dc.1.below b (fun x hx => h.dc.1.lt hx)).turn t hv
    have e : (L.take p).length = p := by rw [List.length_take]; omega
    refine ⟨?_, fun u hu => h.dc.2 u (List.mem_of_mem_take hu)⟩
    rw [e]
    rcases ha with ha | ha
    · have := Seg.front d1 p hp ha
      rw [Nat.mul_one, ← List.map_take] at this
      exact this
    · have hp0 : p = 0 := by omega
      have hl : L = [] := List.eq_nil_of_length_eq_zero ha
      subst hl
      subst hp0
      exact d1
  have hown : ∀ x, (Value.slice a p c).ownBlock = some x → (Value.slice a L.length c).ownBlock = some x := fun x hx => by cases a with
    | none => exact hx
    | some q => exact hx
  refine ⟨⟨_, (hc.turn t (fun j hj _ e => by have := h2 j e; omega) (fun j hj => f1.hF j hj)).tight, fun j hj => hj.2, fun x hx e => by have := h.dc.1.lt (hown x hx); have := e.1; omega, fun j hj e => by have := hj.1; omega, fun e => by have := h.pr.lt; have := e.1; omega⟩,
    fun x hx => h.vs x (hown x hx), (h.bel.trans (b.mono h.bel.size)).trans (t.below (Nat.le_trans h.bel.size b.size) (fun j hj e => by have := f1.hF j e; have := h.lo.1; omega)), h.lo, h.gs, (h.pr.below b h.pr.lt).turn t h5, hdc⟩

set_option maxRecDepth 100000 in
set_option maxHeartbeats 4000000 in
theorem does_clone_ok {B : Nat} {w0 : Gh} (vb : Nat) (a : Option Addr) (c : Nat) (fl : Nat) (m : Int) (p : Nat) (s : ByteArray) (L : List ByteArray) (w : World) (hLL : L.length ≤ 1000) (hp1 : fl ≤ p) (hp2 : p ≤ L.length)
    (hZ : Dx B w0 vb (.slice a L.length c) L fl w) (hB : B ≤ w.heap.size) :
    Calls Tryz.prog 6 #[.pointer (some ⟨vb, 0, none⟩), dvC (.slice a L.length c) fl, .agg #[.int .i64 7, .int .i64 m, .int .i64 p, .string s]] w (DoPost B w0 L) := by
  unfold dvC at *
  have hsl : (a = none ∧ p = 0 ∧ c = 0 ∧ L.length = 0) ∨ ∃ g off, a = some ⟨g, off, none⟩ := by
    rcases hZ.dc.1.2 with ⟨h, h0⟩ | ⟨g, off, cp, cur, h, _⟩
    · simp only [Value.slice.injEq] at h
      exact .inl ⟨h.1, by omega, h.2.2, h0⟩
    · simp only [Value.slice.injEq] at h
      exact .inr ⟨g, off, h.1⟩
  obtain ⟨a', c', e, hc1, hc2⟩ := hZ.dc.1.slice
  simp only [Value.slice.injEq, true_and] at e
  obtain ⟨rfl, rfl⟩ := e
  have HZ := Lib.hid (show _ ∧ _ ∧ _ ∧ _ from ⟨hZ, hB, hLL, hp2⟩)
  have HSL : Hid (a ≠ none ∨ L.length = 0) := Lib.hid (by rcases hsl with h | ⟨g, off, rfl⟩; exact .inr h.2.2.2; exact .inl (by simp))
  have HP1 := Lib.hid hp1
  obtain ⟨k, hk⟩ : ∃ k, k = L.length := ⟨_, rfl⟩
  have HK := Lib.hid hk
  rw [← hk] at HZ hc1 hp2 ⊢
  have h1 : ¬ (p : Int) < (fl : Int) := by omega
  have h2 : ¬ (p : Int) > (k : Int) := by omega
  have h3 : (p : Int) ≤ (c : Int) := by omega
  have h4 : (0 : Int) ≤ (p : Int) := by omega
  have h5 : (c : Int) ≤ 9223372036854775807 := by unfold maxLen at hc2; omega
  have h6 : Hid (p ≤ k) := Lib.hid hp2
  clear hZ hB hLL hk hc1 hc2 hp1 hp2
  go_enter Tryz.func6, Tryz.ntmps6
  go_wp2_with fail
  refine callsName (fun W hW => ?_)
  have B0 : Hid (Bw w (.slice a k c) fl 7 m p s W ∧ Below w.heap.size w W) := by
    rw [← hW]
    exact Lib.hid ⟨⟨((made_at _ _ rfl).alloc _).alloc _, (made_at _ _ (by simp)).alloc _, made_at _ _ (by simp)⟩, (((Below.refl _ _).alloc (Nat.le_refl _) _).alloc (by simp) _).alloc (by simp; omega) _⟩
  clear hW
  have HW3 : Hid (w.heap.size + 3 ≤ W.heap.size) := Lib.hid B0.out.1.r.lt
  have Z0 : Hid (Dz w.heap.size B w0 vb (.slice a k c) L fl W) := Lib.hid (HZ.out.1.enter HZ.out.2.1 B0.out.2)
  obtain ⟨F, g1, g2, g3, g5⟩ := HZ.out.1.va
  have HF := Lib.hid (show _ ∧ _ ∧ _ ∧ _ from ⟨g1.below B0.out.2, g2, g3, g5⟩)
  clear g1 g2 g3 g5
  refine (HF.out.1.clone p HP1.out (by have := h6.out; have := HK.out; omega)).mono ?_
  rintro en w1 ⟨cb, rfl, hcb, hva, b1⟩
  have V1 := Lib.hid (show _ ∧ _ from ⟨hva, b1⟩)
  have B1 : Hid (Bw w (.slice a k c) fl 7 m p s w1) := Lib.hid (B0.out.1.below b1)
  obtain ⟨c0, c1, d1, d2, d3⟩ := B1.out.cells
  clear hva b1 hcb
  go_wp2_with fail
  refine callsName (fun W2 hW2 => ?_)
  obtain ⟨t, ht⟩ : ∃ t : ByteArray, t = ⟨#[115, 111, 109, 101, 116, 104, 105, 110, 103, 32, 101, 108, 115, 101]⟩ := ⟨_, rfl⟩
  rw [← ht] at hW2
  have HT : Hid (t.size ≤ 20) := Lib.hid (by rw [ht]; decide)
  have G2 : Hid (Below w1.heap.size w1 W2 ∧ Strs W2 (.slice (some ⟨w1.heap.size, 0, none⟩) 1 1) [t]) := by
    rw [← hW2]
    exact Lib.hid ⟨(Below.refl _ _).alloc (Nat.le_refl _) _, Seg.whole (m := 1) (cs := #[.string t]) (heap_alloc_new _ _) rfl (by unfold maxLen; omega), fun u hu => by rw [List.mem_singleton.1 hu]; have := HT.out; omega⟩
  clear hW2 ht c0 c1 d1 d2 d3
  have bW : Below W.heap.size W W2 := V1.out.2.trans (G2.out.1.mono V1.out.2.size)
  have f2 := HF.out.1.below bW
  have hadd := f2.add (some ⟨w1.heap.size, 0, none⟩) 1 [t] G2.out.2 (fun x hx hf => by
    have e : w1.heap.size = x := by simpa [Value.ownBlock] using hx
    have := HF.out.2.1 x hf
    have := HW3.out
    have := V1.out.2.size
    omega) (by have := HZ.out.2.2.1; have := HK.out; simp; omega)
  refine hadd.mono ?_
  rintro en w3 ⟨rfl, v3, t3⟩
  have B3 : Hid (Bw w (.slice a k c) fl 7 m p s w3) := Lib.hid ((B1.out.below G2.out.1).turn t3 (fun j hj => .inl (HF.out.2.1 j hj)))
  have Z3 : Hid (Dz w.heap.size B w0 cb (.slice a p c) (L.take p) fl w3) := Lib.hid (by
    have hz := Z0.out
    rw [HK.out] at hz
    exact hz.cloned (by have := h6.out; have := HK.out; omega) HSL.out f2 HF.out.2.1 (HK.out ▸ HF.out.2.2.1) HF.out.2.2.2 (V1.out.1.below G2.out.1) bW HW3.out t3)
  clear hadd v3 t3 f2 bW
  obtain ⟨c0, c1, d1, d2, d3⟩ := B3.out.cells
  go_wp2_with fail
  clear c0 c1 d1 d2 d3
  have S3 : Sq w (.slice a k c) fl m p s w3.drew := ⟨⟨B3.out.x.drew, _, _, B3.out.r.drew⟩, B3.out.a.drew⟩
  have Z4 := Z3.out.below (Below.refl _ _).drew
  have HLT : Hid ((L.take p).length ≤ L.length + 1) := Lib.hid (by rw [List.length_take]; omega)
  refine Go.wp_region_held (P := Tryz.prog) (S := Sq w (.slice a k c) fl m p s) (by kernel_rfl) ?_
  rcases hsl with ⟨rfl, rfl, rfl, _⟩ | ⟨g, off, rfl⟩
  · skip
    refine held_take 0 (some 263) rfl rfl (by kernel_rfl) (by kernel_rfl) (by kernel_rfl) (fun _ _ _ h => h) (.inl ⟨by kernel_rfl, fun _ _ => rfl⟩) S3 ?_
    simp only [Act.put, List.setIfInBounds_toArray, List.set_cons_zero, List.set_cons_succ]
    refine held_take 1 (some 264) (v := .pointer (some ⟨w.heap.size, 0, none⟩)) rfl rfl (by kernel_rfl) (by kernel_rfl) (by kernel_rfl) (fun _ _ _ h => h) (.inl ⟨by kernel_rfl, fun V hV => by go_simp⟩) S3 ?_
    simp only [Act.put, List.setIfInBounds_toArray, List.set_cons_zero, List.set_cons_succ]
    refine held_take 2 (some 265) (v := .slice none k 0) rfl rfl (by kernel_rfl) (by kernel_rfl) (by kernel_rfl) (fun _ _ _ h => h) (.inl ⟨by kernel_rfl, fun V hV => by have c0 := hV.1.1.cell 0; simp at c0; go_simp⟩) S3 ?_
    simp only [Act.put, List.setIfInBounds_toArray, List.set_cons_zero, List.set_cons_succ]
    refine held_take 3 (some 266) (v := .pointer (some ⟨w.heap.size + 1, 2, none⟩)) rfl rfl (by kernel_rfl) (by kernel_rfl) (by kernel_rfl) (fun _ _ _ h => h) (.inl ⟨by kernel_rfl, fun V hV => by go_simp⟩) S3 ?_
    simp only [Act.put, List.setIfInBounds_toArray, List.set_cons_zero, List.set_cons_succ]
    refine held_take 4 (some 267) (v := .int .i64 (0 : Nat)) rfl rfl (by kernel_rfl) (by kernel_rfl) (by kernel_rfl) (fun _ _ _ h => h) (.inl ⟨by kernel_rfl, fun V hV => by have c0 := hV.2.cell 2; simp at c0; go_simp; first | done | rfl⟩) S3 ?_
    simp only [Act.put, List.setIfInBounds_toArray, List.set_cons_zero, List.set_cons_succ]
    refine held_take 5 (some 268) (v := .slice none 0 0) rfl rfl (by kernel_rfl) (by kernel_rfl) (by kernel_rfl) (fun _ _ _ h => h) (.inl ⟨by kernel_rfl, fun V hV => by go_simp; first | done | rfl⟩) S3 ?_
    simp only [Act.put, List.setIfInBounds_toArray, List.set_cons_zero, List.set_cons_succ]
    refine held_take 6 (some 269) (v := .pointer (some ⟨w.heap.size, 1, none⟩)) rfl rfl (by kernel_rfl) (by kernel_rfl) (by kernel_rfl) (fun _ _ _ h => h) (.inl ⟨by kernel_rfl, fun V hV => by go_simp⟩) S3 ?_
    simp only [Act.put, List.setIfInBounds_toArray, List.set_cons_zero, List.set_cons_succ]
    refine held_take 7 (some 270) (v := .int .i64 fl) rfl rfl (by kernel_rfl) (by kernel_rfl) (by kernel_rfl) (fun _ _ _ h => h) (.inl ⟨by kernel_rfl, fun V hV => by have c1 := hV.1.1.cell 1; simp at c1; go_simp⟩) S3 ?_
    simp only [Act.put, List.setIfInBounds_toArray, List.set_cons_zero, List.set_cons_succ]
    refine held_take 8 (some 271) (v := .agg #[.slice none 0 0, .int .i64 fl]) rfl rfl (by kernel_rfl) (by kernel_rfl) (by kernel_rfl) (fun _ _ _ h => h) (.inl ⟨by kernel_rfl, fun V hV => by go_simp⟩) S3 ?_
    simp only [Act.put, List.setIfInBounds_toArray, List.set_cons_zero, List.set_cons_succ]
    refine held_take 9 (some 272) rfl rfl (by kernel_rfl) (by kernel_rfl) (by kernel_rfl) (fun _ _ _ h => h) (.inl ⟨by kernel_rfl, fun _ _ => rfl⟩) S3 ?_
    simp only [Act.put, List.setIfInBounds_toArray, List.set_cons_zero, List.set_cons_succ]
    refine held_take 10 (some 273) (v := .bool true) rfl rfl (by kernel_rfl) (by kernel_rfl) (by kernel_rfl) (fun _ _ _ h => h) (.inl ⟨by kernel_rfl, fun V hV => by go_simp⟩) S3 ?_
    simp only [Act.put, List.setIfInBounds_toArray, List.set_cons_zero, List.set_cons_succ]
    refine held_take 11 (some 274) rfl rfl (by kernel_rfl) (by kernel_rfl) (by kernel_rfl) (fun _ _ _ h => h) (.inl ⟨by kernel_rfl, fun _ _ => rfl⟩) S3 ?_
    simp only [Act.put, List.setIfInBounds_toArray, List.set_cons_zero, List.set_cons_succ]
    refine held_take 12 (some 275) rfl rfl (by kernel_rfl) (by kernel_rfl) (by kernel_rfl) (fun _ _ _ h => h) (.inl ⟨by kernel_rfl, fun _ _ => rfl⟩) S3 ?_
    simp only [Act.put, List.setIfInBounds_toArray, List.set_cons_zero, List.set_cons_succ]
    refine held_take 13 (some 276) (v := .bool true) rfl rfl (by kernel_rfl) (by kernel_rfl) (by kernel_rfl) (fun _ _ _ h => h) (.inl ⟨by kernel_rfl, fun V hV => by go_simp⟩) S3 ?_
    simp only [Act.put, List.setIfInBounds_toArray, List.set_cons_zero, List.set_cons_succ]
    refine held_take 14 (some 277) (v := .bool true) rfl rfl (by kernel_rfl) (by kernel_rfl) (by kernel_rfl) (fun _ _ _ h => h) (.inl ⟨by kernel_rfl, fun V hV => by go_simp⟩) S3 ?_
    simp only [Act.put, List.setIfInBounds_toArray, List.set_cons_zero, List.set_cons_succ]
    refine held_take 15 (some 6) rfl rfl (by kernel_rfl) (by kernel_rfl) (by kernel_rfl) (fun _ _ _ h => h) (.inl ⟨by kernel_rfl, fun _ _ => rfl⟩) S3 ?_
    simp only [Act.put, List.setIfInBounds_toArray, List.set_cons_zero, List.set_cons_succ]
    obtain ⟨x7, y7, R7⟩ := S3.1.2
    refine held_one (i := 16) (by kernel_rfl) ?_
    refine wpOp_wp (o := ⟨none, _, _, _, _, _⟩) rfl (by kernel_rfl) ?_
    refine wp_store_row 28 (.tmp 7) (.tmp 271) rfl (w.heap.size + 2) #[.slice none 0 0, .int .i64 fl] (by first | rfl | simp [Act.eval]) (by first | rfl | simp [Act.eval]) 28 _ R7 (by kernel_rfl) rfl (by simp [Value.oneCell']) ?_
    have S9 := S3.stored (.slice none 0 0) (.int .i64 fl)
    refine ⟨S9, ?_⟩
    simp only [Act.put]
    refine held_take 17 (some 8) rfl rfl (by kernel_rfl) (by kernel_rfl) (by kernel_rfl) (fun _ _ _ h => h) (.inl ⟨by kernel_rfl, fun _ _ => rfl⟩) S9 ?_
    simp only [Act.put, List.setIfInBounds_toArray, List.set_cons_zero, List.set_cons_succ]
    refine wpAnyH_done (by kernel_rfl) ?_ _
    go_wp2_with fail
    exact bodyPost_ret (v := .tuple #[.pointer (some ⟨cb, 0, none⟩), .agg #[.slice none 0 0, .int .i64 fl], .bool true]) (res_does rfl _ _ (w.heap.size + 2) _ _ _ rfl rfl rfl (R7.row _) (by kernel_rfl)) rfl ⟨cb, .slice none 0 0, L.take 0, fl, rfl, (Z4.box ⟨by omega, by omega⟩ _).dx, HLT.out⟩
  · skip
    refine held_take 0 (some 263) rfl rfl (by kernel_rfl) (by kernel_rfl) (by kernel_rfl) (fun _ _ _ h => h) (.inl ⟨by kernel_rfl, fun _ _ => rfl⟩) S3 ?_
    simp only [Act.put, List.setIfInBounds_toArray, List.set_cons_zero, List.set_cons_succ]
    refine held_take 1 (some 264) (v := .pointer (some ⟨w.heap.size, 0, none⟩)) rfl rfl (by kernel_rfl) (by kernel_rfl) (by kernel_rfl) (fun _ _ _ h => h) (.inl ⟨by kernel_rfl, fun V hV => by go_simp⟩) S3 ?_
    simp only [Act.put, List.setIfInBounds_toArray, List.set_cons_zero, List.set_cons_succ]
    refine held_take 2 (some 265) (v := .slice (some ⟨g, off, none⟩) k c) rfl rfl (by kernel_rfl) (by kernel_rfl) (by kernel_rfl) (fun _ _ _ h => h) (.inl ⟨by kernel_rfl, fun V hV => by have c0 := hV.1.1.cell 0; simp at c0; go_simp⟩) S3 ?_
    simp only [Act.put, List.setIfInBounds_toArray, List.set_cons_zero, List.set_cons_succ]
    refine held_take 3 (some 266) (v := .pointer (some ⟨w.heap.size + 1, 2, none⟩)) rfl rfl (by kernel_rfl) (by kernel_rfl) (by kernel_rfl) (fun _ _ _ h => h) (.inl ⟨by kernel_rfl, fun V hV => by go_simp⟩) S3 ?_
    simp only [Act.put, List.setIfInBounds_toArray, List.set_cons_zero, List.set_cons_succ]
    refine held_take 4 (some 267) (v := .int .i64 (p : Nat)) rfl rfl (by kernel_rfl) (by kernel_rfl) (by kernel_rfl) (fun _ _ _ h => h) (.inl ⟨by kernel_rfl, fun V hV => by have c0 := hV.2.cell 2; simp at c0; go_simp; first | done | rfl⟩) S3 ?_
    simp only [Act.put, List.setIfInBounds_toArray, List.set_cons_zero, List.set_cons_succ]
    refine held_take 5 (some 268) (v := .slice (some ⟨g, off, none⟩) p c) rfl rfl (by kernel_rfl) (by kernel_rfl) (by kernel_rfl) (fun _ _ _ h => h) (.inl ⟨by kernel_rfl, fun V hV => by go_simp; first | done | rfl⟩) S3 ?_
    simp only [Act.put, List.setIfInBounds_toArray, List.set_cons_zero, List.set_cons_succ]
    refine held_take 6 (some 269) (v := .pointer (some ⟨w.heap.size, 1, none⟩)) rfl rfl (by kernel_rfl) (by kernel_rfl) (by kernel_rfl) (fun _ _ _ h => h) (.inl ⟨by kernel_rfl, fun V hV => by go_simp⟩) S3 ?_
    simp only [Act.put, List.setIfInBounds_toArray, List.set_cons_zero, List.set_cons_succ]
    refine held_take 7 (some 270) (v := .int .i64 fl) rfl rfl (by kernel_rfl) (by kernel_rfl) (by kernel_rfl) (fun _ _ _ h => h) (.inl ⟨by kernel_rfl, fun V hV => by have c1 := hV.1.1.cell 1; simp at c1; go_simp⟩) S3 ?_
    simp only [Act.put, List.setIfInBounds_toArray, List.set_cons_zero, List.set_cons_succ]
    refine held_take 8 (some 271) (v := .agg #[.slice (some ⟨g, off, none⟩) p c, .int .i64 fl]) rfl rfl (by kernel_rfl) (by kernel_rfl) (by kernel_rfl) (fun _ _ _ h => h) (.inl ⟨by kernel_rfl, fun V hV => by go_simp⟩) S3 ?_
    simp only [Act.put, List.setIfInBounds_toArray, List.set_cons_zero, List.set_cons_succ]
    refine held_take 9 (some 272) rfl rfl (by kernel_rfl) (by kernel_rfl) (by kernel_rfl) (fun _ _ _ h => h) (.inl ⟨by kernel_rfl, fun _ _ => rfl⟩) S3 ?_
    simp only [Act.put, List.setIfInBounds_toArray, List.set_cons_zero, List.set_cons_succ]
    refine held_take 10 (some 273) (v := .bool true) rfl rfl (by kernel_rfl) (by kernel_rfl) (by kernel_rfl) (fun _ _ _ h => h) (.inl ⟨by kernel_rfl, fun V hV => by go_simp⟩) S3 ?_
    simp only [Act.put, List.setIfInBounds_toArray, List.set_cons_zero, List.set_cons_succ]
    refine held_take 11 (some 274) rfl rfl (by kernel_rfl) (by kernel_rfl) (by kernel_rfl) (fun _ _ _ h => h) (.inl ⟨by kernel_rfl, fun _ _ => rfl⟩) S3 ?_
    simp only [Act.put, List.setIfInBounds_toArray, List.set_cons_zero, List.set_cons_succ]
    refine held_take 12 (some 275) rfl rfl (by kernel_rfl) (by kernel_rfl) (by kernel_rfl) (fun _ _ _ h => h) (.inl ⟨by kernel_rfl, fun _ _ => rfl⟩) S3 ?_
    simp only [Act.put, List.setIfInBounds_toArray, List.set_cons_zero, List.set_cons_succ]
    refine held_take 13 (some 276) (v := .bool true) rfl rfl (by kernel_rfl) (by kernel_rfl) (by kernel_rfl) (fun _ _ _ h => h) (.inl ⟨by kernel_rfl, fun V hV => by go_simp⟩) S3 ?_
    simp only [Act.put, List.setIfInBounds_toArray, List.set_cons_zero, List.set_cons_succ]
    refine held_take 14 (some 277) (v := .bool true) rfl rfl (by kernel_rfl) (by kernel_rfl) (by kernel_rfl) (fun _ _ _ h => h) (.inl ⟨by kernel_rfl, fun V hV => by go_simp⟩) S3 ?_
    simp only [Act.put, List.setIfInBounds_toArray, List.set_cons_zero, List.set_cons_succ]
    refine held_take 15 (some 6) rfl rfl (by kernel_rfl) (by kernel_rfl) (by kernel_rfl) (fun _ _ _ h => h) (.inl ⟨by kernel_rfl, fun _ _ => rfl⟩) S3 ?_
    simp only [Act.put, List.setIfInBounds_toArray, List.set_cons_zero, List.set_cons_succ]
    obtain ⟨x7, y7, R7⟩ := S3.1.2
    refine held_one (i := 16) (by kernel_rfl) ?_
    refine wpOp_wp (o := ⟨none, _, _, _, _, _⟩) rfl (by kernel_rfl) ?_
    refine wp_store_row 28 (.tmp 7) (.tmp 271) rfl (w.heap.size + 2) #[.slice (some ⟨g, off, none⟩) p c, .int .i64 fl] (by first | rfl | simp [Act.eval]) (by first | rfl | simp [Act.eval]) 28 _ R7 (by kernel_rfl) rfl (by simp [Value.oneCell']) ?_
    have S9 := S3.stored (.slice (some ⟨g, off, none⟩) p c) (.int .i64 fl)
    refine ⟨S9, ?_⟩
    simp only [Act.put]
    refine held_take 17 (some 8) rfl rfl (by kernel_rfl) (by kernel_rfl) (by kernel_rfl) (fun _ _ _ h => h) (.inl ⟨by kernel_rfl, fun _ _ => rfl⟩) S9 ?_
    simp only [Act.put, List.setIfInBounds_toArray, List.set_cons_zero, List.set_cons_succ]
    refine wpAnyH_done (by kernel_rfl) ?_ _
    go_wp2_with fail
    exact bodyPost_ret (v := .tuple #[.pointer (some ⟨cb, 0, none⟩), .agg #[.slice (some ⟨g, off, none⟩) p c, .int .i64 fl], .bool true]) (res_does rfl _ _ (w.heap.size + 2) _ _ _ rfl rfl rfl (R7.row _) (by kernel_rfl)) rfl ⟨cb, .slice (some ⟨g, off, none⟩) p c, L.take p, fl, rfl, (Z4.box ⟨by omega, by omega⟩ _).dx, HLT.out⟩
end Go.Proofs.YtdlkdgajoafkaaaGreatDoor.prn
end

section
/- prune: errors of Head and of Prefix. -/
namespace Go.Proofs.YtdlkdgajoafkaaaGreatDoor.prn
open Go Go.RowKit Go.Proofs.YtdlkdgajoafkaaaGreatDoor.dig Go.Proofs.YtdlkdgajoafkaaaGreatDoor.prf

section
variable {B : Nat} {F : Nat → Prop} {w : World} {b vb N fl : Nat} {f : Nat → List UInt8} {L : List ByteArray}
set_option maxRecDepth 100000 in
set_option maxHeartbeats 1000000 in
theorem _root_.Go.Proofs.YtdlkdgajoafkaaaGreatDoor.dig.Tr.consistency_range (hT : Tr B F w b N fl f) (x n : Int) (h : n < 0 ∨ n > N ∨ x < 0 ∨ x > n) :
    Calls Tryz.prog 45 #[.pointer (some ⟨b, 0, none⟩), .int .i64 x, .int .i64 n] w fun en w' => en = .returned (.tuple #[.slice none 0 0, .int .i64 6]) ∧ w = w' := by
  obtain ⟨rv, hh⟩ := hT.head
  have e0 := hh.cell 0
  simp at e0
  clear hT hh
  by_cases h1 : n < 0
  · clear h
    go_enter Tryz.func45, Tryz.ntmps45
    go_wp2_with fail
    go_ret2
    exact ⟨rfl, rfl⟩
  by_cases h2 : n > (N : Int)
  · clear h
    go_enter Tryz.func45, Tryz.ntmps45
    go_wp2_with fail
    go_ret2
    exact ⟨rfl, rfl⟩
  by_cases h3 : x < 0
  · clear h
    go_enter Tryz.func45, Tryz.ntmps45
    go_wp2_with fail
    go_ret2
    exact ⟨rfl, rfl⟩
  · have h4 : x > n := by omega
    clear h
    go_enter Tryz.func45, Tryz.ntmps45
    go_wp2_with fail
    go_ret2
    exact ⟨rfl, rfl⟩


set_option maxRecDepth 100000 in
set_option maxHeartbeats 1000000 in
theorem _root_.Go.Proofs.YtdlkdgajoafkaaaGreatDoor.dig.Tr.consistency_low (hT : Tr B F w b N fl f) (i n : Nat) (hn : n ≤ N) (hi : i ≤ n) (hf : i < fl) :
    Calls Tryz.prog 45 #[.pointer (some ⟨b, 0, none⟩), .int .i64 i, .int .i64 n] w fun en w' => en = .returned (.tuple #[.slice none 0 0, .int .i64 14]) ∧ w = w' := by
  obtain ⟨rv, hh⟩ := hT.head
  have e0 := hh.cell 0
  have e1 := hh.cell 1
  simp at e0 e1
  have h1 : ¬ (n : Int) < 0 := by omega
  have h2 : ¬ (n : Int) > (N : Int) := by omega
  have h3 : ¬ (i : Int) < 0 := by omega
  have h4 : ¬ (i : Int) > (n : Int) := by omega
  have h5 : (i : Int) < (fl : Int) := by omega
  clear hT hh
  go_enter Tryz.func45, Tryz.ntmps45
  go_wp2_with fail
  go_ret2
  exact ⟨rfl, rfl⟩

set_option maxRecDepth 100000 in
set_option maxHeartbeats 2000000 in
theorem Va.pfx_err (h : Va B F w vb L fl) (x n : Int) (E : Int) (hE : E ≠ 0) (hc : ∀ tb V, (∃ T, Tr B T V tb L.length fl (leafF L)) → Calls Tryz.prog 45 #[.pointer (some ⟨tb, 0, none⟩), .int .i64 x, .int .i64 n] V fun en w' => en = .returned (.tuple #[.slice none 0 0, .int .i64 E]) ∧ V = w') :
    Calls Tryz.prog 25 #[.pointer (some ⟨vb, 0, none⟩), .int .i64 x, .int .i64 n] w (PairErr w (.agg (prC 0 0 0 (.slice none 0 0))) prefixNm x E) := by
  obtain ⟨T, tb, first, cv, r⟩ := h.raw
  have e0 : ∀ O, (w.alloc O).cell? ⟨vb, 0, none⟩ = some (.pointer (some ⟨tb, 0, none⟩)) := fun O => by
    have := (r.own.alloc O).cell 0
    simpa using this
  have HT := Lib.hid r.tree
  have HC := Lib.hid hc
  have HE := Lib.hid hE
  clear h r hE hc
  go_enter Tryz.func25, Tryz.ntmps25
  go_wp2_with fail
  refine callsName (fun W hW => ?_)
  have B0 : Hid (Below w.heap.size w W) := by rw [← hW]; exact Lib.hid ((Below.refl _ _).alloc (Nat.le_refl _) _)
  have Z0 : Hid (Has W w.heap.size 64 (prC 0 0 0 (.slice none 0 0))) := by rw [← hW]; exact Lib.hid (made_at _ _ rfl)
  clear hW e0
  refine (HC.out tb W ⟨T, HT.out.below B0.out⟩).mono ?_
  rintro en w1 ⟨rfl, rfl⟩
  go_wp2_with fail
  refine (answer_err prefixNm 2 x n (.slice none 0 0) E HE.out W).mono ?_
  rintro en w2 ⟨b, rfl, hb, her, b2⟩
  have S2 := Lib.hid (show _ ∧ _ ∧ _ ∧ _ from ⟨Z0.out.below b2 Z0.out.lt, B0.out.trans (b2.mono B0.out.size), Nat.le_trans B0.out.size hb, her⟩)
  clear b2 Z0 B0 hb her
  go_wp2_with (first
    | ((with_reducible refine at_store (.tmp 6) ?_); refine wpList_store_cells (o := ⟨none, _, _, _, _, _⟩) rfl 64 (.tmp 6) (.tmp 26) rfl w.heap.size (prC 0 0 0 (.slice none 0 0)) (prC 0 0 0 (.slice none 0 0)) rfl rfl _ S2.out.1 (by kernel_rfl) rfl (by simp [prC, Value.oneCell']) ?_; intro W9 HW9 TW9)
    | fail)
  have B9 := S2.out.2.1.trans (TW9.below S2.out.2.1.size (fun j hj e => by omega))
  exact bodyPost_ret (v := .tuple #[.agg (prC 0 0 0 (.slice none 0 0)), flt.ev [⟨b, prefixNm, x⟩] E]) (results_cell_tmp rfl _ _ w.heap.size 64 _ _ _ rfl HW9 Tryz.underlying64 rfl (by kernel_rfl) _ rfl) rfl
    ⟨b, rfl, S2.out.2.2.1, by
      have he := S2.out.2.2.2
      refine ⟨⟨he.1.1.turn TW9 (fun e => ?_), by have := he.1.2; have := TW9.size; omega⟩, trivial⟩
      have e1 : b = w.heap.size := e
      have h1 := he.1.1
      rw [e1] at h1
      exact absurd (h1.uniq S2.out.1).2 (by decide), B9⟩

theorem Va.pfx_range (h : Va B F w vb L fl) (x n : Int) (hx : n < 0 ∨ n > L.length ∨ x < 0 ∨ x > n) :
    Calls Tryz.prog 25 #[.pointer (some ⟨vb, 0, none⟩), .int .i64 x, .int .i64 n] w (PairErr w (.agg (prC 0 0 0 (.slice none 0 0))) prefixNm x 6) :=
  h.pfx_err x n 6 (by decide) fun _ _ ⟨_, tr⟩ => tr.consistency_range x n hx
theorem Va.pfx_low (h : Va B F w vb L fl) (i n : Nat) (hn : n ≤ L.length) (hi : i ≤ n) (hf : i < fl) :
    Calls Tryz.prog 25 #[.pointer (some ⟨vb, 0, none⟩), .int .i64 i, .int .i64 n] w (PairErr w (.agg (prC 0 0 0 (.slice none 0 0))) prefixNm i 14) :=
  h.pfx_err i n 14 (by decide) fun _ _ ⟨_, tr⟩ => tr.consistency_low i n hn hi hf

set_option maxRecDepth 100000 in
set_option maxHeartbeats 1000000 in
/-- Root that answers number E: of a range, or below the floor. -/
theorem _root_.Go.Proofs.YtdlkdgajoafkaaaGreatDoor.dig.Tr.root_err (hT : Tr B F w b N fl f) (x E : Int) (hx : (E = 6 ∧ (x < 0 ∨ x > N)) ∨ (E = 14 ∧ 0 ≤ x ∧ x ≤ N ∧ x < fl)) :
    Calls Tryz.prog 39 #[.pointer (some ⟨b, 0, none⟩), .int .i64 x] w fun en w' => en = .returned (.tuple #[.agg (cellsOf (List.replicate 32 0)), .int .i64 E]) ∧ Below w.heap.size w w' := by
  obtain ⟨rv, hh⟩ := hT.head
  have e0 : ∀ O, (w.alloc O).cell? ⟨b, 0, none⟩ = some (.int .i64 N) := fun O => (hh.alloc O).cell 0
  have e1 : ∀ O, (w.alloc O).cell? ⟨b, 1, none⟩ = some (.int .i64 fl) := fun O => (hh.alloc O).cell 1
  clear hT hh
  rcases hx with ⟨rfl, h | h⟩ | ⟨rfl, h1, h2, h3⟩
  · skip
    go_enter Tryz.func39, Tryz.ntmps39
    go_wp2_with (first
      | (refine wpList_store_arr (o := ⟨none, _, _, _, _, _⟩) rfl 56 _ _ rfl w.heap.size (List.replicate 32 0) (List.replicate 32 0) rfl rfl _ (made_at _ _ rfl) 32 (by kernel_rfl) (by simp) (by simp) ?_; intro W6 HW6 TW6)
      | fail)
    exact bodyPost_ret (v := .tuple #[.agg (cellsOf (List.replicate 32 0)), .int .i64 6]) (results_cell_tmp rfl _ _ w.heap.size 56 _ _ _ rfl HW6 Tryz.underlying56 rfl (by kernel_rfl) _ rfl) rfl ⟨rfl, ((Below.refl _ _).alloc (Nat.le_refl _) _).trans (TW6.below (by simp) (fun j hj e => by omega))⟩
  · have h0 : ¬ x < 0 := by omega
    go_enter Tryz.func39, Tryz.ntmps39
    go_wp2_with (first
      | (refine wpList_store_arr (o := ⟨none, _, _, _, _, _⟩) rfl 56 _ _ rfl w.heap.size (List.replicate 32 0) (List.replicate 32 0) rfl rfl _ (made_at _ _ rfl) 32 (by kernel_rfl) (by simp) (by simp) ?_; intro W6 HW6 TW6)
      | fail)
    exact bodyPost_ret (v := .tuple #[.agg (cellsOf (List.replicate 32 0)), .int .i64 6]) (results_cell_tmp rfl _ _ w.heap.size 56 _ _ _ rfl HW6 Tryz.underlying56 rfl (by kernel_rfl) _ rfl) rfl ⟨rfl, ((Below.refl _ _).alloc (Nat.le_refl _) _).trans (TW6.below (by simp) (fun j hj e => by omega))⟩
  · have h0 : ¬ x < 0 := by omega
    have h4 : ¬ x > (N : Int) := by omega
    go_enter Tryz.func39, Tryz.ntmps39
    go_wp2_with (first
      | (refine wpList_store_arr (o := ⟨none, _, _, _, _, _⟩) rfl 56 _ _ rfl w.heap.size (List.replicate 32 0) (List.replicate 32 0) rfl rfl _ (made_at _ _ rfl) 32 (by kernel_rfl) (by simp) (by simp) ?_; intro W6 HW6 TW6)
      | fail)
    exact bodyPost_ret (v := .tuple #[.agg (cellsOf (List.replicate 32 0)), .int .i64 14]) (results_cell_tmp rfl _ _ w.heap.size 56 _ _ _ rfl HW6 Tryz.underlying56 rfl (by kernel_rfl) _ rfl) rfl ⟨rfl, ((Below.refl _ _).alloc (Nat.le_refl _) _).trans (TW6.below (by simp) (fun j hj e => by omega))⟩

set_option maxRecDepth 100000 in
set_option maxHeartbeats 2000000 in
theorem Va.head_err (h : Va B F w vb L fl) (x E : Int) (hx : (E = 6 ∧ (x < 0 ∨ x > L.length)) ∨ (E = 14 ∧ 0 ≤ x ∧ x ≤ L.length ∧ x < fl)) :
    Calls Tryz.prog 20 #[.pointer (some ⟨vb, 0, none⟩), .int .i64 x] w (PairErr w (.agg (headC 0 (List.replicate 32 0))) headNm x E) := by
  obtain ⟨T, tb, first, cv, r⟩ := h.raw
  have e0 : ∀ O, (w.alloc O).cell? ⟨vb, 0, none⟩ = some (.pointer (some ⟨tb, 0, none⟩)) := fun O => by
    have := (r.own.alloc O).cell 0
    simpa using this
  have HT := Lib.hid r.tree
  have HX := Lib.hid hx
  have HE : Hid (E ≠ 0) := Lib.hid (by rcases hx with h | h <;> omega)
  clear h r hx
  go_enter Tryz.func20, Tryz.ntmps20
  go_wp2_with fail
  refine callsName (fun W hW => ?_)
  have B0 : Hid (Below w.heap.size w W) := by rw [← hW]; exact Lib.hid ((Below.refl _ _).alloc (Nat.le_refl _) _)
  have Z0 : Hid (Has W w.heap.size 58 (headC 0 (List.replicate 32 0))) := by rw [← hW]; exact Lib.hid (made_at _ _ rfl)
  clear hW e0
  refine ((HT.out.below B0.out).root_err x E HX.out).mono ?_
  obtain ⟨q, hq⟩ : ∃ q : List UInt8, q = List.replicate 32 0 := ⟨_, rfl⟩
  have HQ := Lib.hid hq
  have QL : Hid (q.length = 32) := Lib.hid (by rw [hq]; simp)
  have QC : Hid ((cellsOf q).size = 32) := Lib.hid (by rw [cellsOf_size, hq]; simp)
  rw [← hq] at Z0 ⊢
  clear hq
  rintro en w1 ⟨rfl, b1⟩
  have S1 : Hid (Has w1 w.heap.size 58 (headC 0 q) ∧ Below w.heap.size w w1) := Lib.hid ⟨Z0.out.below b1 Z0.out.lt, B0.out.trans (b1.mono B0.out.size)⟩
  clear b1 Z0 B0
  have hE := HE.out
  go_wp2_with (first
    | ((with_reducible refine at_store (.tmp 6) ?_); refine wpList_store_cells (o := ⟨none, _, _, _, _, _⟩) rfl 56 (.tmp 6) (.tmp 15) rfl w1.heap.size (cellsOf q) _ rfl rfl _ (made_at _ _ rfl) (QC.out.symm ▸ (by kernel_rfl)) (QC.out.symm ▸ rfl) (cellsOf_one _) ?_; intro W8 HW8 TW8;
       (have S2 : Hid (Has W8 w.heap.size 58 (headC 0 q) ∧ Below w.heap.size w W8) := (by
         have bb : Below w1.heap.size w1 W8 := ((Below.refl _ _).alloc (Nat.le_refl _) _).trans (TW8.below (by simp) (fun j hj e => by omega))
         exact Lib.hid ⟨S1.out.1.below bb S1.out.1.lt, S1.out.2.trans (bb.mono S1.out.2.size)⟩));
       clear S1 HW8 TW8)
    | ((with_reducible refine at_op 19 ?_); refine wpList_plain rfl (fun K hK => ?_); unfold Oper.wp; rw [exec_zero_head rfl, ← HQ.out]; refine hK _ _ ?_)
    | fail)
  refine (flt.in_calls [] E headNm x _ HE.out).mono ?_
  rintro en w3 ⟨rfl, rfl⟩
  have S3 : Hid (Has (W8.alloc (.cells #[.string headNm, .int .i64 x, flt.ev [] E] 104)) w.heap.size 58 (headC 0 q) ∧ Below w.heap.size w (W8.alloc (.cells #[.string headNm, .int .i64 x, flt.ev [] E] 104))) := Lib.hid ⟨S2.out.1.alloc _, S2.out.2.alloc S2.out.2.size _⟩
  have W3L : Hid (w.heap.size ≤ W8.heap.size ∧ w.heap.size ≠ W8.heap.size) := Lib.hid ⟨S2.out.2.size, by have := S2.out.1.lt; omega⟩
  go_wp2_with (first
    | ((with_reducible refine at_store (.tmp 4) ?_); refine wpList_store_head (o := ⟨none, _, _, _, _, _⟩) rfl (.tmp 4) (.tmp 19) rfl w.heap.size 0 0 q q rfl (by first | rfl | (rw [HQ.out]; rfl)) S3.out.1 QL.out QL.out ?_; intro W9 HW9 TW9)
    | fail)
  exact bodyPost_ret (v := .tuple #[.agg (headC 0 q), flt.ev [⟨W8.heap.size, headNm, x⟩] E]) (results_cell_tmp rfl _ _ w.heap.size 58 _ _ _ rfl HW9 Tryz.underlying58 rfl (by rw [headC_size, QL.out]; kernel_rfl) _ rfl) rfl
    ⟨W8.heap.size, by rw [HQ.out], W3L.out.1, ⟨⟨(made_at _ _ rfl).turn TW9 (fun e => W3L.out.2 (Eq.symm e)), by have := TW9.size; simp at this; show W8.heap.size < _; omega⟩, trivial⟩, S3.out.2.trans (TW9.below S3.out.2.size (fun j hj e => by omega))⟩
end
end Go.Proofs.YtdlkdgajoafkaaaGreatDoor.prn
end

section
/- law 12's does, whole. -/
namespace Go.Proofs.YtdlkdgajoafkaaaGreatDoor.prn
open Go Go.RowKit Go.Proofs.YtdlkdgajoafkaaaGreatDoor.dig Go.Proofs.YtdlkdgajoafkaaaGreatDoor.prf

set_option maxHeartbeats 1000000 in
theorem does_all {B : Nat} {w0 : Gh} (hP : Pw w0.w) (vb : Nat) (a : Option Addr) (c : Nat) (fl : Nat) (k m n : Int) (s : ByteArray) (L : List ByteArray) (w : World) (hs : s.size ≤ maxLen) (hLL : L.length ≤ 100)
    (hn : -9223372036854775808 ≤ n ∧ n ≤ 9223372036854775807) (hZ : Dx B w0 vb (.slice a L.length c) L fl w) (hB : B ≤ w.heap.size) :
    Calls Tryz.prog 6 #[.pointer (some ⟨vb, 0, none⟩), dvC (.slice a L.length c) fl, .agg #[.int .i64 k, .int .i64 m, .int .i64 n, .string s]] w (DoPost B w0 L) := by
  have stay : ∀ {en : Ending} {w' : World}, (en = .returned (.tuple #[.pointer (some ⟨vb, 0, none⟩), dvC (.slice a L.length c) fl, .bool true]) ∧ Below w.heap.size w w') → DoPost B w0 L en w' :=
    fun h => ⟨vb, .slice a L.length c, L, fl, h.1, hZ.below h.2, by omega⟩
  have hPw : ∀ V, Below w.heap.size w V → Pw V := fun V b => hP.below (hZ.bel.trans (b.mono hZ.bel.size))
  have hV : ∀ V, Below w.heap.size w V → ∃ F, Va B F V vb L fl := fun V b => by obtain ⟨F, h, _⟩ := (hZ.below b).va; exact ⟨F, h⟩
  have hD : ∀ V, Below w.heap.size w V → Strs V (.slice a L.length c) L := fun V b => (hZ.below b).dc
  have hfl : fl ≤ L.length := by obtain ⟨F, h, _⟩ := hZ.va; exact h.floor_le
  have pe : ∀ {V : World} {v : Value} {s2 : ByteArray} {x E : Int} {en : Ending} {w' : World}, Below w.heap.size w V → PairErr V v s2 x E en w' → ∃ e, en = .returned (.tuple #[v, e]) ∧ ErrIs w' e s2 E ∧ Below V.heap.size V w' := by
    rintro V v s2 x E en w' b ⟨bb, rfl, _, he, b2⟩
    exact ⟨_, rfl, ErrIs.err (hPw _ (b.trans (b2.mono b.size))) he, b2⟩
  by_cases k1 : k = 1
  · subst k1; exact does_add vb a c fl m n s L w hs (by omega) hZ hB
  by_cases k2 : k = 2
  · subst k2
    have hE : ∀ V, Below w.heap.size w V → Dz w.heap.size B w0 vb (.slice a L.length c) L fl V := fun V b => hZ.enter hB b
    have oe : ∀ {V : World} {x E : Int} {en : Ending} {w' : World}, Below w.heap.size w V → OneErr V floorB x E en w' → ∃ e, en = .returned e ∧ ErrIs w' e floorB E ∧ Turn (fun j => j < w.heap.size ∨ V.heap.size ≤ j) V w' ∧ Dz w.heap.size B w0 vb (.slice a L.length c) L fl w' := by
      rintro V x E en w' b ⟨bb, rfl, _, he, b2⟩
      exact ⟨_, rfl, ErrIs.err (hPw _ (b.trans (b2.mono b.size))) he, Turn.of_below b2 (fun j h1 h2 => .inr (by omega)), (hE V b).below b2⟩
    by_cases hx : n < 0 ∨ n > L.length
    · exact does_keep vb a L.length c fl m n 4 fl s L w hE (fun V b _ => by obtain ⟨F, h⟩ := hV V b; exact (h.keep_arg n hx hn).mono fun _ _ p => oe b p) (fun V => rkeep_arg fl n hx V)
    · obtain ⟨p, rfl⟩ : ∃ p : Nat, n = p := ⟨n.toNat, by omega⟩
      by_cases hl : p < fl
      · exact does_keep vb a L.length c fl m p 14 fl s L w hE (fun V b _ => by obtain ⟨F, h⟩ := hV V b; exact (h.keep_low p hl).mono fun _ _ p => oe b p) (fun V => rkeep_low fl p (by omega) (by omega) (by omega) V)
      · refine does_keep vb a L.length c fl m p 0 p s L w hE (fun V b hsz => ?_) (fun V => rkeep_ok fl p (by omega) (by omega) (by omega) V)
        obtain ⟨F, h1, h2, h3, h5⟩ := hZ.va
        refine ((h1.below b).keep p (by omega) (by omega)).mono ?_
        rintro en w' ⟨rfl, hv, ht⟩
        exact ⟨_, rfl, ErrIs.none _ _, ⟨ht.os, ht.tape, ht.output, ht.size, fun j hj hne => ht.block j hj (fun hf => hne (.inl (h2 j hf)))⟩,
          (hE V b).turned (fun j hj => Nat.lt_of_lt_of_le (h2 j hj) b.size) h3 (fun j hj e => by have := h2 j hj; omega) (fun j hj => h1.hF j hj) h5 hv ht hsz⟩
  by_cases k3 : k = 3
  · subst k3
    by_cases hx : n < 0 ∨ n ≥ L.length
    · exact (does_at vb a L.length c fl m n 13 s _ w (fun V b => by obtain ⟨F, h⟩ := hV V b; exact (h.at_future n hx).mono fun _ _ p => pe b p) (fun V _ => rat_future fl n hx V)).mono fun _ _ h => stay h
    · obtain ⟨i, rfl⟩ : ∃ p : Nat, n = p := ⟨n.toNat, by omega⟩
      by_cases hl : i < fl
      · exact (does_at vb a L.length c fl m i 14 s _ w (fun V b => by obtain ⟨F, h⟩ := hV V b; exact (h.at_pruned i hl).mono fun _ _ p => pe b p) (fun V _ => rat_low fl i (by omega) (by omega) (by omega) V)).mono fun _ _ h => stay h
      · obtain ⟨t, ht⟩ : ∃ t, L[i]? = some t := ⟨_, List.getElem?_eq_getElem (by omega)⟩
        exact (does_at vb a L.length c fl m i 0 s t w (fun V b => by obtain ⟨F, h⟩ := hV V b; exact (h.at_ok i (by omega) t ht).mono fun _ w' p => ⟨_, p.1, ErrIs.none _ _, p.2⟩) (fun V b => rat_ok fl i t ht (by omega) V (hD V b))).mono fun _ _ h => stay h
  by_cases k4 : k = 4
  · subst k4
    by_cases hx : n < 0 ∨ n > L.length
    · exact (does_head_bad vb a L.length c fl m n 6 (by decide) _ s w (fun V b => by obtain ⟨F, h⟩ := hV V b; exact (h.head_err n 6 (.inl ⟨rfl, hx⟩)).mono fun _ _ p => pe b p) (fun V _ => rhead_range fl n hx V)).mono fun _ _ h => stay h
    · obtain ⟨i, rfl⟩ : ∃ p : Nat, n = p := ⟨n.toNat, by omega⟩
      by_cases hl : i < fl
      · exact (does_head_bad vb a L.length c fl m i 14 (by decide) _ s w (fun V b => by obtain ⟨F, h⟩ := hV V b; exact (h.head_err i 14 (.inr ⟨rfl, by omega, by omega, by omega⟩)).mono fun _ _ p => pe b p) (fun V _ => rhead_low fl i (by omega) (by omega) (by omega) V)).mono fun _ _ h => stay h
      · exact (does_head_ok vb a L.length c fl m i (rtAll (leafF L) i) (rtAll_len (leafF_len L) i) s w (fun V b => by obtain ⟨F, h⟩ := hV V b; exact h.head (by omega) i (by omega) (by omega)) (fun V b => rheadv_ok fl i (by omega) (by omega) (by omega) V (hD V b))).mono fun _ _ h => stay h
  have pf : ∀ {V : World} {s2 : ByteArray} {x E : Int} {en : Ending} {w' : World}, Below w.heap.size w V → PairErr V (.agg (prC 0 0 0 (.slice none 0 0))) s2 x E en w' → ∃ e a1 c1, en = .returned (.tuple #[.agg (prC 0 0 0 (.slice a1 ([] : List (List UInt8)).length c1)), e]) ∧ Seg w' 56 32 (.slice a1 ([] : List (List UInt8)).length c1) ([] : List (List UInt8)).length (sumsC []) ∧ ErrIs w' e s2 E ∧ Below V.heap.size V w' := by
    rintro V s2 x E en w' b ⟨bb, rfl, _, he, b2⟩
    exact ⟨_, none, 0, rfl, Seg.nil _ _ _, ErrIs.err (hPw _ (b.trans (b2.mono b.size))) he, b2⟩
  have po : ∀ {V : World} {s2 : ByteArray} {K I N : Int} {l : List (List UInt8)} {en : Ending} {w' : World}, ProofPost V K I N l en w' → ∃ e a1 c1, en = .returned (.tuple #[.agg (prC K I N (.slice a1 l.length c1)), e]) ∧ Seg w' 56 32 (.slice a1 l.length c1) l.length (sumsC l) ∧ ErrIs w' e s2 0 ∧ Below V.heap.size V w' := by
    rintro V s2 K I N l en w' ⟨a1, c1, rfl, h1, _, b1⟩
    exact ⟨_, a1, c1, rfl, h1, ErrIs.none _ _, b1⟩
  by_cases k5 : k = 5
  · subst k5
    by_cases hx : n < 0 ∨ n > L.length ∨ m < 0 ∨ m ≥ n
    · exact (does_leaf vb a L.length c fl m n 6 0 0 0 [] (by simp) s w (fun V b => by obtain ⟨F, h⟩ := hV V b; exact (h.leaf_range m n hx).mono fun _ _ p => pf b p) (fun V _ => rleafv_range fl m n hx V)).mono fun _ _ h => stay h
    · obtain ⟨i, rfl⟩ : ∃ p : Nat, m = p := ⟨m.toNat, by omega⟩
      obtain ⟨q, rfl⟩ : ∃ p : Nat, n = p := ⟨n.toNat, by omega⟩
      by_cases hl : i < fl
      · exact (does_leaf vb a L.length c fl i q 14 0 0 0 [] (by simp) s w (fun V b => by obtain ⟨F, h⟩ := hV V b; exact (h.leaf_low i q (by omega) (by omega) hl).mono fun _ _ p => pf b p) (fun V _ => rleafv_low fl i q (by omega) (by omega) (by omega) (by omega) (by omega) V)).mono fun _ _ h => stay h
      · exact (does_leaf vb a L.length c fl i q 0 1 i q (path (leafF L) i 0 q) (fun x hx => path_all (leafF_len L) q i 0 x hx) s w (fun V b => by obtain ⟨F, h⟩ := hV V b; exact (h.leaf (by omega) i q (by omega) (by omega) (by omega)).mono fun _ _ p => po p) (fun V b => rleafv_ok fl i q (by omega) (by omega) (by omega) (by omega) V (hD V b))).mono fun _ _ h => stay h
  by_cases k6 : k = 6
  · subst k6
    by_cases hx : n < 0 ∨ n > L.length ∨ m < 0 ∨ m > n
    · exact (does_prefix vb a L.length c fl m n 6 0 0 0 [] (by simp) s w (fun V b => by obtain ⟨F, h⟩ := hV V b; exact (h.pfx_range m n hx).mono fun _ _ p => pf b p) (fun V _ => rprefixv_range fl m n hx V)).mono fun _ _ h => stay h
    · obtain ⟨i, rfl⟩ : ∃ p : Nat, m = p := ⟨m.toNat, by omega⟩
      obtain ⟨q, rfl⟩ : ∃ p : Nat, n = p := ⟨n.toNat, by omega⟩
      by_cases hl : i < fl
      · exact (does_prefix vb a L.length c fl i q 14 0 0 0 [] (by simp) s w (fun V b => by obtain ⟨F, h⟩ := hV V b; exact (h.pfx_low i q (by omega) (by omega) hl).mono fun _ _ p => pf b p) (fun V _ => rprefixv_low fl i q (by omega) (by omega) (by omega) (by omega) (by omega) V)).mono fun _ _ h => stay h
      · refine (does_prefix vb a L.length c fl i q 0 2 i q (stepsL L i q) (stepsL_all L i q (by omega)) s w (fun V b => by obtain ⟨F, h⟩ := hV V b; exact (h.pfx (by omega) i q (by omega) (by omega) (by omega)).mono fun _ _ p => po p) (fun V b => ?_)).mono fun _ _ h => stay h
        by_cases h0 : i = 0
        · subst h0
          unfold stepsL
          rw [if_pos rfl]
          exact rprefixv_none fl q (by omega) (by omega) (by omega) V
        · unfold stepsL
          rw [if_neg h0]
          exact rprefixv_ok fl i q (by omega) (by omega) (by omega) (by omega) (by omega) V (hD V b)
  by_cases k7 : k = 7
  · subst k7
    by_cases hx : n < fl ∨ n > L.length
    · refine (does_clone_bad vb a L.length c fl m n hx s w (fun V b => ?_)).mono fun _ _ h => stay h
      obtain ⟨F, h⟩ := hV V b
      refine (h.clone_range n hx).mono ?_
      rintro en w' ⟨bb, rfl, _, he, b2⟩
      exact ⟨_, rfl, PthIs.err (hPw _ (b.trans (b2.mono b.size))) he (by decide) (by decide) (by decide), b2⟩
    · obtain ⟨p, rfl⟩ : ∃ p : Nat, n = p := ⟨n.toNat, by omega⟩
      exact does_clone_ok vb a c fl m p s L w (by omega) (by omega) (by omega) hZ hB
  · exact (does_none vb a L.length c fl k m n s w ⟨k1, k2, k3, k4, k5, k6, k7⟩).mono fun _ _ h => stay h
end Go.Proofs.YtdlkdgajoafkaaaGreatDoor.prn
end

section
/- A slice that is handed in, as cells that read. Of no program. -/
namespace Go.Proofs.YtdlkdgajoafkaaaGreatDoor
open Go Go.ChangeShapes Go.WideShapes Go.ChangeAt Go.RowKit Go.Maps

/-- The elements of a slice that is handed in, as cells that read. -/
theorem opened_raw {H : Type} {enc : TypeId × Value → H} {P : Program} {w : World} {spare : Nat → Bool} {held : Bool} {t e : TypeId} {n0 : Nat}
    (ht : P.underlying t = some (.slice e)) (hC : P.cellsOf e = n0) (h0 : 0 < n0)
    {a : Option Addr} {len cap : Nat} {d : DataW H} {p : List MemPlace} (h : DataW.Trod enc P w 0 spare held t (.slice a len cap) d p) :
    len ≤ cap ∧ cap ≤ maxLen ∧ ∀ i, i < len → ∃ b o, a = some ⟨b, o, none⟩ ∧ b < w.heap.size ∧ ∃ (cs : List Value) (n : Nat) (y : DataW H × List MemPlace), cs.length = n0 ∧ DataW.trod enc P w 0 spare held n e cs = some y ∧
      ∀ j v, cs[j]? = some v → w.cell? ⟨b, o + i * n0 + j, none⟩ = some v := by
  obtain ⟨fuel, h⟩ := h
  rcases Go.Deep.open_slice ht h with ⟨hn, _⟩ | ⟨g, l, c, m, n, D, Pl, hn, _, hlc, hcm, hm, _, hall⟩
  · simp [Value.cells] at hn
    obtain ⟨rfl, rfl, rfl⟩ := hn
    exact ⟨Nat.le_refl _, Nat.zero_le _, fun i hi => absurd hi (Nat.not_lt_zero _)⟩
  · simp [Value.cells] at hn
    obtain ⟨rfl, rfl, rfl⟩ := hn
    refine ⟨hlc, hcm, fun i hi => ?_⟩
    obtain ⟨cs, hc, hd⟩ := hall i (by rw [hm]; split <;> omega)
    rw [hC] at hc
    obtain ⟨_, hcl, hat⟩ := World.cells?_some hc
    obtain ⟨gb, go, gs⟩ := g
    have hcell : ∀ j, j < n0 → ∃ v, cs[j]? = some v ∧ w.cell? (((⟨gb, go, gs⟩ : Addr).add (i * n0)).add j) = some v := fun j hj => by
      have hv : cs[j]? = some (cs[j]'(by omega)) := List.getElem?_eq_getElem (by omega)
      exact ⟨_, hv, by rw [hat j hj, hv]⟩
    have hs : gs = none := by
      obtain ⟨cs0, hc0, _⟩ := hall 0 (by rw [hm]; split <;> omega)
      rw [hC, Nat.zero_mul] at hc0
      obtain ⟨_, hcl0, hat0⟩ := World.cells?_some hc0
      have hv : cs0[0]? = some (cs0[0]'(by omega)) := List.getElem?_eq_getElem (by omega)
      have h1 := World.cell?_spot ((hat0 0 h0).trans hv)
      simpa [Addr.add] using h1
    subst hs
    have hb : gb < w.heap.size := by
      obtain ⟨v, _, hv⟩ := hcell 0 h0
      rw [Addr.add_mid, Addr.add_mid] at hv
      rcases Nat.lt_or_ge gb w.heap.size with k | k
      · exact k
      · unfold World.cell? at hv
        simp [Array.getElem?_eq_none k] at hv
    refine ⟨gb, go, rfl, hb, cs, _, _, hcl, hd, fun j v hj => ?_⟩
    have hjl : j < cs.length := (List.getElem?_eq_some_iff.1 hj).1
    obtain ⟨v', hv', hw⟩ := hcell j (by omega)
    rw [hj] at hv'
    injection hv' with hv'
    subst hv'
    rw [Addr.add_mid, Addr.add_mid] at hw
    exact hw
end Go.Proofs.YtdlkdgajoafkaaaGreatDoor
end

