/- HindsightHead's walk: the head of a line is the root over its commands' bytes, and each command is proved under it. -/
import Derived.Test.YtcdedkgkingbdaaGreatDoorQ016
import Derived.Test.YtcdedkgkingbdaaGreatDoorQ045
import Derived.Test.YtcdedkgkingbdaaGreatDoorQHindsightHead00
import Derived.Test.YtcdedkgkingbdaaGreatDoorQHindsightHead01
import Derived.Test.YtcdedkgkingbdaaGreatDoorQ009
import Derived.Test.YtcdedkgkingbdaaGreatDoorQ010
import Derived.ProofKit
import Derived.OpenShut
namespace Go.Proofs.YtcdedkgkingbdaaGreatDoor.hindsightHead
open Go Go.ChangeShapes Go.WideShapes Go.ChangeAt Go.RowKit Go.Proofs.YtcdedkgkingbdaaGreatDoor.dig Go.Proofs.YtcdedkgkingbdaaGreatDoor.object Go.Proofs.YtcdedkgkingbdaaGreatDoor.prn Go.Proofs.YtcdedkgkingbdaaGreatDoor.rep Go.Proofs.YtcdedkgkingbdaaGreatDoor.prf

def Arg1 (w : World) (a : Option Addr) (len _cap : Nat) : Prop := ∃ T, ArgA w a len T
theorem opened1 {H : Type} {enc : TypeId × Value → H} {w : World} {spare : Nat → Bool} {held : Bool} {a : Option Addr} {len cap : Nat} {d : DataW H} {p : List MemPlace} (h : DataW.Trod enc Tryz.prog w 0 spare held 22 (.slice a len cap) d p) : Arg1 w a len cap := openedA h

/-- A line and a tree that grows behind it. -/
structure Two (w V0 : World) (b tb : Nat) (k : Int) (C : List Cm) (n : Nat) (V : World) : Prop where
  ln : Ln w.heap.size (fun j => w.heap.size ≤ j ∧ j < V0.heap.size) V b k C 0
  tr : Tr w.heap.size (fun j => V0.heap.size ≤ j) V tb n 0 (leafF (texts C))
  bel : Below w.heap.size w V
  sz : w.heap.size ≤ V0.heap.size ∧ V0.heap.size ≤ V.heap.size
theorem Two.below {w V0 V V' : World} {b tb n : Nat} {k : Int} {C : List Cm} (h : Two w V0 b tb k C n V) (t : Below V.heap.size V V') : Two w V0 b tb k C n V' :=
  ⟨h.ln.below t, h.tr.turn (Turn.of_below (F := fun j => V.heap.size ≤ j) t (fun _ _ h => h)) (fun _ _ h1 h2 => by omega) (fun j hj => by have := h.sz; omega), h.bel.trans (t.mono h.bel.size), h.sz.1, Nat.le_trans h.sz.2 t.size⟩
theorem Two.tight {w V0 V : World} {b tb n : Nat} {k : Int} {C : List Cm} (h : Two w V0 b tb k C n V) (o : Obj) : Tr w.heap.size (fun j => V0.heap.size ≤ j ∧ j < V.heap.size) (V.alloc o) tb n 0 (leafF (texts C)) :=
  (h.tr.more (fun _ hj e => ⟨e, hj⟩) (fun j e => by have := h.sz; omega)).turn (Turn.of_below (F := fun j => V.heap.size ≤ j) ((Below.refl _ _).alloc (Nat.le_refl _) o) (fun _ _ h => h)) (fun j e _ h2 => by omega) (fun j hj => by have := h.sz; omega)
theorem Two.app {w V0 V V' : World} {b tb n : Nat} {k : Int} {C : List Cm} {o : Obj} (h : Two w V0 b tb k C n V) (s : Tr w.heap.size (fun j => (V0.heap.size ≤ j ∧ j < V.heap.size) ∨ (V.alloc o).heap.size ≤ j) V' tb (n + 1) 0 (leafF (texts C))) (t : Turn (fun j => V0.heap.size ≤ j ∧ j < V.heap.size) (V.alloc o) V') : Two w V0 b tb k C (n + 1) V' := by
  have h1 := h.below ((Below.refl _ V).alloc (Nat.le_refl _) o)
  have hl : V.heap.size ≤ (V.alloc o).heap.size := by simp
  exact ⟨h1.ln.turn t (fun j hj _ e => by omega) (fun j e => by have := h.sz; omega), s.more (fun j _ e => e.elim (fun x => x.1) (fun x => Nat.le_trans h1.sz.2 x)) (fun j e => by have := h.sz; omega), h1.bel.trans (t.below h1.bel.size (fun j hj e => by have := h.sz; omega)), h.sz.1, Nat.le_trans h1.sz.2 t.size⟩
/-- A line that has forgotten what is below fl, its vault, a tree of all its texts: blocks from w on, below Z. -/
structure Hd (w : World) (Z b vb tb : Nat) (k : Int) (C : List Cm) (fl : Nat) (V : World) : Prop where
  cell : V.cell? ⟨b, 0, none⟩ = some (.pointer (some ⟨vb, 0, none⟩))
  va : Va w.heap.size (fun j => w.heap.size ≤ j ∧ j < Z) V vb (texts C) fl
  tr : Tr w.heap.size (fun j => w.heap.size ≤ j ∧ j < Z) V tb C.length 0 (leafF (texts C))
  bel : Below w.heap.size w V
  lt : b < Z
  hz : Z ≤ V.heap.size
  wz : w.heap.size ≤ Z
theorem Hd.turn {w V V' : World} {Z b vb tb fl : Nat} {k : Int} {C : List Cm} {G : Nat → Prop} (h : Hd w Z b vb tb k C fl V) (t : Turn G V V') (hG : ∀ j, G j → Z ≤ j) : Hd w Z b vb tb k C fl V' :=
  ⟨by rw [← h.cell]; unfold World.cell?; rw [t.block b (by have := h.lt; have := h.hz; omega) (fun e => by have := hG _ e; have := h.lt; omega)], h.va.turn t (fun j e _ e2 => by have := hG _ e2; omega) (fun j e => by have := hG _ e; have := h.wz; omega), h.tr.turn t (fun j e _ e2 => by have := hG _ e2; omega) (fun j e => by have := hG _ e; have := h.wz; omega), h.bel.trans (t.below h.bel.size (fun j hj e => by have := hG _ e; have := h.wz; omega)), h.lt, Nat.le_trans h.hz t.size, h.wz⟩
theorem Hd.below {w V V' : World} {Z b vb tb fl : Nat} {k : Int} {C : List Cm} (h : Hd w Z b vb tb k C fl V) (t : Below V.heap.size V V') : Hd w Z b vb tb k C fl V' :=
  h.turn (Turn.of_below (F := fun j => V.heap.size ≤ j) t (fun _ _ h => h)) (fun _ e => Nat.le_trans h.hz e)
/-- So, and the head's box. -/
structure He (w : World) (Z b vb tb : Nat) (k : Int) (C : List Cm) (fl gh N : Nat) (R : List UInt8) (V : World) : Prop where
  hd : Hd w Z b vb tb k C fl V
  hh : Has V gh 86 (headC N R)
theorem He.turn {w V V' : World} {Z b vb tb fl gh N : Nat} {R : List UInt8} {k : Int} {C : List Cm} {g : Nat} (h : He w Z b vb tb k C fl gh N R V) (t : Turn (fun j => j = g) V V') (hG : Z ≤ g ∧ gh < g) : He w Z b vb tb k C fl gh N R V' :=
  ⟨h.hd.turn t (fun j e => by omega), h.hh.turn t (by omega)⟩
theorem He.below {w V V' : World} {Z b vb tb fl gh N : Nat} {R : List UInt8} {k : Int} {C : List Cm} (h : He w Z b vb tb k C fl gh N R V) (t : Below V.heap.size V V') : He w Z b vb tb k C fl gh N R V' :=
  ⟨h.hd.below t, h.hh.below t h.hh.lt⟩
theorem Two.hd {w V0 V V' : World} {b tb fl : Nat} {k : Int} {C : List Cm} (h : Two w V0 b tb k C C.length V) (s : Ln w.heap.size (fun j => (w.heap.size ≤ j ∧ j < V0.heap.size) ∨ V.heap.size ≤ j) V' b k C fl) (t : Turn (fun j => w.heap.size ≤ j ∧ j < V0.heap.size) V V') : ∃ vb, Hd w V'.heap.size b vb tb k C fl V' := by
  obtain ⟨vb, F1, hc, hv, hF⟩ := s.vault
  have hb := h.bel.trans (t.below h.bel.size (fun j hj e => by omega))
  refine ⟨vb, hc, hv.more (fun j hj e => ⟨?_, hj⟩) (fun _ e => e.1), (h.tr.turn t (fun j hj _ e => by omega) (fun _ e => e.1)).more (fun _ hj e => ⟨Nat.le_trans h.sz.1 e, hj⟩) (fun _ e => e.1), hb, World.block_lt_of_cell? _ _ hc, Nat.le_refl _, hb.size⟩
  rcases hF j e with e | e
  · exact e.1
  · exact Nat.le_trans h.bel.size e
theorem run_neq_same (xs : List UInt8) (hx : xs.length = 32) (w : World) : (binOp .neq 84 (.agg (cellsOf xs)) (.agg (cellsOf xs))).run Tryz.prog w = .ok (.bool false) w := by
  simp only [binOp]
  have e := run_equalIn_bytes (P := Tryz.prog) 9998 (t := 84) (e := 5) 32 Tryz.underlying84 Tryz.underlying5 (by kernel_rfl) xs xs hx hx w
  simp [Op.equal, Op.maxDepth, e]
theorem wpList_exec_if {P : Program} {ops : Array Oper} {rest : List Oper} {o : Oper} {a : Act} {w : World} {Q : Exit → Act → World → Prop} (hw : Region.wanted o (yielded ops a.tmps) = true) {v : Value} (hx : (execOp a.eval o).run P w = .ok (.value v) w) (h : wpList P ops Q rest (a.put o.dst v) w) : wpList P ops Q (o :: rest) a w := by
  refine wpList_if hw ?_
  unfold Oper.wp
  rw [hx]
  exact h
theorem exec_neq {P : Program} {ev : Operand → Value} {o : Oper} (ty : TypeId) (x y : Operand) {z : TypeId} (ho : o.op = .binOp .neq ty x y z) {a b v : Value} (hx : ev x = a) (hy : ev y = b) {V : World} (hq : (eqGuard .neq ty x y a b).run P V = .ok () V) (h : (binOp .neq ty a b).run P V = .ok v V) : (execOp ev o).run P V = .ok (.value v) V := by
  simp [execOp, ho, hx, hy, hq, h, Result.andThen]
/-- A whole value is stored into a block. -/
theorem wp_store_whole {P : Program} {w : World} {o : Oper} {a : Act} {K : Act → World → Prop} {Q : Exit → Act → World → Prop} (ty : TypeId) (x y : Operand) (ho : o.op = .store ty x y)
    (g : Nat) (cs old : Array Value) (hx : a.eval x = .pointer (some ⟨g, 0, none⟩)) (hy : a.eval y = .agg cs)
    (t : TypeId) (hg : Has w g t old) (hi : (P.info? ty).map (·.size) = some cs.size) (hn : old.size = cs.size) (h1 : cs.all (·.oneCell') = true)
    (h : ∀ w', Has w' g t cs → Turn (fun k => k = g) w w' → K (a.put o.dst undef) w') : o.wp P a w K Q :=
  wp_store_row ty x y ho g cs hx hy t old hg hi hn h1 (h _ (hg.row _) (turn_row _ _ _))

set_option maxRecDepth 100000 in
set_option maxHeartbeats 8000000 in
theorem walk (n : Int) (a1 : Option Addr) (len1 cap1 : Nat) (x : Int) (w : World) (_hn : (Lit.int .i64 n).wf = true) (hA1 : Arg1 w a1 len1 cap1) (hx : (Lit.int .i64 x).wf = true) (hP : dig.Rt w.heap.size w) :
    Calls Tryz.prog 7 #[.int .i64 n, .slice a1 len1 cap1, .int .i64 x] w fun en w' => en = .returned (.bool true) ∧ Below w.heap.size w w' := by
  have HA1 := Lib.hid hA1
  have HX := Lib.hid (wf_i64 hx)
  have HP := Lib.hid hP
  clear hA1 hx hP
  go_enter Tryz.func7, Tryz.ntmps7
  go_wp2_with fail
  refine (live_calls w HP.out).mono ?_
  rintro en w1 ⟨rfl, b1⟩
  have R1 := Lib.hid (show Below w.heap.size w w1 from b1)
  clear b1
  go_wp2_with fail
  refine (lkind_calls n w1).mono ?_
  rintro en w2 ⟨rfl, rfl⟩
  obtain ⟨k, hk⟩ : ∃ k, k = 1 + (n.tmod 3 + 3).tmod 3 := ⟨_, rfl⟩
  rw [← hk]
  have HK : Hid (k = 1 ∨ k = 2 ∨ k = 3) := Lib.hid (by
    have := Int.tmod_lt_of_pos n (show (0:Int) < 3 by decide); have := Int.lt_tmod_of_pos n (show (0:Int) < 3 by decide)
    rw [Int.tmod_eq_emod_of_nonneg (by omega)] at hk
    omega)
  clear hk
  go_wp2_with fail
  have hR : dig.Rt w.heap.size w1 := HP.out.below R1.out (Nat.le_refl _)
  refine (line_calls w w1 R1.out hR k HK.out a1 len1 cap1 HA1.out).mono ?_
  rintro en w3 ⟨b, C, v, rfl, l3, c3⟩
  have L3 := Lib.hid (show Lw w w3 b k C 0 ∧ C.length ≤ 16 from ⟨l3.lw, c3⟩)
  obtain ⟨va, vo, vc, rfl⟩ : ∃ a n c, v = .slice a n c := by
    obtain ⟨a, c, h, _⟩ := l3.row.slice
    exact ⟨a, _, c, h⟩
  obtain ⟨N, hN⟩ : ∃ N, N = C.length := ⟨_, rfl⟩
  have HN := Lib.hid hN
  clear l3 c3 R1 hR hN
  go_wp2_with fail
  refine (tnew_calls w.heap.size (leafF (texts C)) w3 L3.out.1.1.rt (leafF_len _)).mono ?_
  rintro en w4 ⟨tb, rfl, htb, t4, b4⟩
  have T4 : Hid (Two w w3 b tb k C 0 w4 ∧ N ≤ 16) := Lib.hid ⟨⟨(L3.out.1.1.more fun j hj e => ⟨e, hj⟩).below b4, t4.more (fun j _ e => by omega) (fun j e => by have := L3.out.1.2.size; omega), L3.out.1.2.trans (b4.mono L3.out.1.2.size), L3.out.1.2.size, b4.size⟩, by rw [HN.out]; exact L3.out.2⟩
  clear t4 b4 htb
  obtain ⟨vb0, F1, cv, hva, _⟩ := T4.out.1.ln.vault
  have hle := hva.len_calls
  rw [texts_len, ← HN.out] at hle
  have HLE := Lib.hid hle
  clear hva hle L3
  go_wp2_with fail
  refine HLE.out.mono ?_
  rintro en w5 ⟨rfl, rfl⟩
  clear HLE cv
  go_wp2_with fail
  go_loopw [37] (fun i wr => ∃ (i' : Nat), i = .int .i64 i' ∧ i' ≤ N ∧ Hid (Two w w3 b tb k C i' wr)) (fun i _ => N - (intOf i).toNat)
  case atStart => exact ⟨0, rfl, by omega, Lib.hid T4.out.1⟩
  case round =>
    have HC := Lib.hid T4.out.2
    clear T4
    obtain ⟨i, rfl, hi, HS⟩ := hrel
    have hN16 : N ≤ 16 := HC.out
    by_cases hiv : i < N
    · have hiv2 : (i : Int) < (N : Int) := by omega
      have hib : (i : Int) ≤ 16 := by omega
      have i1 : IntKind.i64.wrap ((i : Int) + 1) = (i : Int) + 1 := IntWalk.i64_in _ ⟨by omega, by omega⟩
      obtain ⟨c, hc⟩ : ∃ c, C[i]? = some c := ⟨_, List.getElem?_eq_getElem (by have := HN.out; omega)⟩
      obtain ⟨hgd, _, hf9⟩ := HS.out.ln.did i c hc
      have hcm := HS.out.ln.command_ok i (Nat.zero_le _) c hc
      have hct := fun V => ctext_calls c.o hgd c.f hf9 V
      have hsz := cmdT_size hgd hf9
      have hta := texts_at hc
      obtain ⟨t, ht⟩ : ∃ t, t = cmdT c.o c.f := ⟨_, rfl⟩
      rw [← ht] at hct hsz hta
      have HT := Lib.hid (show _ ∧ _ from ⟨hsz, hta⟩)
      obtain ⟨⟨ok, ⟨tk, ta, tx, tn⟩, ⟨lk, ls, lt, ln⟩, ⟨sk, ss, sn⟩⟩, f⟩ := c
      have HCM : Hid (Calls Tryz.prog 29 #[.pointer (some ⟨b, 0, none⟩), .int .i64 i] wr fun en w' => en = .returned (.tuple #[.agg #[.int .i64 ok, .int .i64 tk, .int .i64 ta, .string tx, .int .i64 tn, .int .i64 lk, .string ls, .string lt, .int .i64 ln, .int .i64 sk, .string ss, .int .i64 sn, .int .i64 f], .nilIface]) ∧ Below wr.heap.size wr w') := Lib.hid hcm
      have HCT : Hid (∀ V, Calls Tryz.prog 31 #[.agg #[.int .i64 ok, .int .i64 tk, .int .i64 ta, .string tx, .int .i64 tn, .int .i64 lk, .string ls, .string lt, .int .i64 ln, .int .i64 sk, .string ss, .int .i64 sn, .int .i64 f]] V fun en w' => en = .returned (.string t) ∧ Below V.heap.size V w') := Lib.hid hct
      clear hc hgd hf9 hcm hct hsz hta ht
      go_wp2_with fail
      refine HCM.out.mono ?_
      rintro en w6 ⟨rfl, b6⟩
      have P6 := Lib.hid (HS.out.below b6)
      clear b6 HS HCM
      go_wp2_with (first
        | ((with_reducible refine at_store (.tmp 11) ?_); refine wpList_store_all (o := ⟨none, _, _, _, _, _⟩) rfl 60 (.tmp 11) (.tmp 44) rfl w6.heap.size #[.int .i64 ok, .int .i64 tk, .int .i64 ta, .string tx, .int .i64 tn, .int .i64 lk, .string ls, .string lt, .int .i64 ln, .int .i64 sk, .string ss, .int .i64 sn, .int .i64 f] #[.int .i64 0, .int .i64 0, .int .i64 0, .string ⟨#[]⟩, .int .i64 0, .int .i64 0, .string ⟨#[]⟩, .string ⟨#[]⟩, .int .i64 0, .int .i64 0, .string ⟨#[]⟩, .int .i64 0, .int .i64 0] rfl rfl _ (made_at _ _ rfl) (by kernel_rfl) rfl (by simp [Value.oneCell']) ?_; intro Wa HWa TWa;
           (have P7 := Lib.hid (P6.out.below (((Below.refl _ _).alloc (Nat.le_refl _) _).trans (TWa.below (by simp) (fun j hj e => by omega)))))
           (have hld : Hid ((Instr.loadAt 60 (.pointer (some ⟨w6.heap.size, 0, none⟩))).run Tryz.prog Wa = .ok (.agg #[.int .i64 ok, .int .i64 tk, .int .i64 ta, .string tx, .int .i64 tn, .int .i64 lk, .string ls, .string lt, .int .i64 ln, .int .i64 sk, .string ss, .int .i64 sn, .int .i64 f]) Wa) := Lib.hid (run_loadAt_mid Wa w6.heap.size 0 60 [.int .i64 ok, .int .i64 tk, .int .i64 ta, .string tx, .int .i64 tn, .int .i64 lk, .string ls, .string lt, .int .i64 ln, .int .i64 sk, .string ss, .int .i64 sn, .int .i64 f] _ (Has.range HWa) Tryz.underlying60 rfl (by kernel_rfl)));
           clear HWa TWa)
        | ((with_reducible refine at_op 49 ?_); refine dig.wpList_load_if (o := ⟨some 49, _, _, _, _, _⟩) (by kernel_rfl) 60 (.tmp 11) rfl (.pointer (some ⟨w6.heap.size, 0, none⟩)) rfl hld.out ?_)
        | fail)
      refine (HCT.out Wa).mono ?_
      rintro en w8 ⟨rfl, b8⟩
      have P8 := Lib.hid (P7.out.below b8)
      have hap := (P8.out.tight (.cells #[.string t] 9)).append_calls (some ⟨w8.heap.size, 0, none⟩) 1 [t] ⟨Seg.whole (heap_alloc_new _ _) rfl (by unfold maxLen; simp), fun s hs => by have := HT.out.1; rw [List.mem_singleton.1 hs]; omega⟩ (fun x hx e => by
        have : w8.heap.size = x := by injection hx
        omega) (fun j s hs => by
        obtain rfl : j = 0 := by rcases j with _ | j; rfl; simp at hs
        obtain rfl : t = s := by simpa using hs
        show leafF (texts C) (i + 0) = _
        rw [Nat.add_zero]
        exact leafF_at _ _ _ HT.out.2) (by simp; omega)
      have HAP := Lib.hid hap
      clear hap b8 P7 hld
      go_wp2_with fail
      refine HAP.out.mono ?_
      rintro en w9 ⟨rfl, s9, t9⟩
      have P9 := Lib.hid (P8.out.app s9 t9)
      clear s9 t9 P8 HAP
      go_wp2_with fail
      refine ⟨⟨i + 1, by rw [Int.natCast_add]; rfl, by omega, P9⟩, ?_⟩
      show N - ((i : Int) + 1).toNat < N - ((i : Int)).toNat
      omega
    · obtain rfl : i = N := by omega
      have hiv2 : ¬ (i : Int) < (i : Int) := by omega
      have H8 := HS.out
      rw [HN.out] at H8
      have HS := Lib.hid H8
      obtain ⟨N, hNi⟩ : ∃ N, N = i := ⟨_, rfl⟩
      clear H8
      obtain ⟨vb1, F2, cv2, hva2, _⟩ := HS.out.ln.vault
      have hle2 := hva2.len_calls
      rw [texts_len, ← HN.out] at hle2
      have HLE2 := Lib.hid hle2
      obtain ⟨v, hv⟩ : ∃ v : Nat, (v : Int) = min (max x 0) (i : Int) := ⟨(min (max x 0) (i : Int)).toNat, by omega⟩
      have hmin : min (max x 0) (i : Int) = (v : Int) := hv.symm
      have HV := Lib.hid (show v ≤ i ∧ v ≤ 16 from ⟨by omega, by have := HN.out; omega⟩)
      clear hva2 hle2 hv
      go_wp2_with fail
      refine HLE2.out.mono ?_
      rintro en w7 ⟨rfl, rfl⟩
      clear HLE2
      go_wp2_with fail
      refine (HS.out.ln.retain_calls v (Nat.zero_le _) (by have := HV.out; have := HN.out; omega) (by have := HN.out; omega)).mono ?_
      rintro en w8 ⟨rfl, s8, t8⟩
      obtain ⟨vb, hd⟩ := HS.out.hd s8 t8
      obtain ⟨Z, hZ⟩ : ∃ Z, Z = w8.heap.size := ⟨_, rfl⟩
      rw [← hZ] at hd
      have T8 := Lib.hid hd
      obtain rfl := hNi
      have HDD : Hid (Did k C) := Lib.hid HS.out.ln.did
      clear HS s8 t8 cv2 hmin hiv2 hd hZ
      obtain ⟨L, hL⟩ : ∃ L, L = texts C := ⟨_, rfl⟩
      obtain ⟨R, hR⟩ : ∃ R, R = rtAll (leafF L) N := ⟨_, rfl⟩
      have HRL : Hid (R.length = 32) := Lib.hid (by rw [hR]; exact rtAll_len (leafF_len L) N)
      have HHD : Hid (∀ V, Hd w Z b vb tb k C v V → Calls Tryz.prog 32 #[.pointer (some ⟨vb, 0, none⟩), .int .i64 N] V fun en w' => en = .returned (.tuple #[.agg (headC N R), .nilIface]) ∧ Below V.heap.size V w') := Lib.hid fun V h => by
        rw [hR, hL]
        exact h.va.head (by rw [texts_len]; have := HN.out; omega) N (HV.out.1) (by rw [texts_len, HN.out]; exact Nat.le_refl _)
      have HRT : Hid (∀ V, Hd w Z b vb tb k C v V → Calls Tryz.prog 33 #[.pointer (some ⟨tb, 0, none⟩), .int .i64 N] V fun en w' => en = .returned (.tuple #[.agg (cellsOf R), .int .i64 0]) ∧ Below V.heap.size V w') := Lib.hid fun V h => by
        rw [hR, hL]
        exact h.tr.root (by have := HN.out; omega) N (by rw [HN.out]; exact Nat.le_refl _) (Nat.zero_le _)
      have HLR := Lib.hid (show _ ∧ _ from ⟨hL, hR⟩)
      clear hL hR
      go_wp2_with fail
      obtain ⟨V, hV⟩ : ∃ V, V = w8.drew := ⟨_, rfl⟩
      refine Go.Proofs.YtcdedkgkingbdaaGreatDoor.rep.wp_region_heldV (Hd w Z b vb tb k C v) V hV (by kernel_rfl) ?_
      have S0 : Hd w Z b vb tb k C v V := by rw [hV]; exact T8.out.below (Below.refl _ _).drew
      clear hV T8
      refine held_take 0 (some 66) rfl rfl (by kernel_rfl) (by kernel_rfl) (by kernel_rfl) (fun _ _ _ h => h) (.inl ⟨by kernel_rfl, fun _ _ => rfl⟩) S0 ?_
      simp only [Act.put, List.setIfInBounds_toArray, List.set_cons_zero, List.set_cons_succ]
      refine held_take 1 (some 67) (v := .pointer (some ⟨b, 0, none⟩)) rfl rfl (by kernel_rfl) (by kernel_rfl) (by kernel_rfl) (fun _ _ _ h => h) (.inl ⟨by kernel_rfl, fun V hV => by go_simp⟩) S0 ?_
      simp only [Act.put, List.setIfInBounds_toArray, List.set_cons_zero, List.set_cons_succ]
      refine held_take 2 (some 68) (v := .pointer (some ⟨b, 0, none⟩)) rfl rfl (by kernel_rfl) (by kernel_rfl) (by kernel_rfl) (fun _ _ _ h => h) (.inl ⟨by kernel_rfl, fun V hV => by go_simp⟩) S0 ?_
      simp only [Act.put, List.setIfInBounds_toArray, List.set_cons_zero, List.set_cons_succ]
      refine held_take 3 (some 69) (v := .pointer (some ⟨vb, 0, none⟩)) rfl rfl (by kernel_rfl) (by kernel_rfl) (by kernel_rfl) (fun _ _ _ h => h) (.inl ⟨by kernel_rfl, fun V hV => by have c := hV.cell; go_simp⟩) S0 ?_
      simp only [Act.put, List.setIfInBounds_toArray, List.set_cons_zero, List.set_cons_succ]
      refine held_take 4 (some 70) rfl rfl (by kernel_rfl) (by kernel_rfl) (by kernel_rfl) (fun _ _ _ h => h) (.inl ⟨by kernel_rfl, fun _ _ => rfl⟩) S0 ?_
      simp only [Act.put, List.setIfInBounds_toArray, List.set_cons_zero, List.set_cons_succ]
      refine held_take 5 (some 71) (v := .pointer (some ⟨b, 0, none⟩)) rfl rfl (by kernel_rfl) (by kernel_rfl) (by kernel_rfl) (fun _ _ _ h => h) (.inl ⟨by kernel_rfl, fun V hV => by go_simp⟩) S0 ?_
      simp only [Act.put, List.setIfInBounds_toArray, List.set_cons_zero, List.set_cons_succ]
      refine held_take 6 (some 72) (v := .pointer (some ⟨b, 0, none⟩)) rfl rfl (by kernel_rfl) (by kernel_rfl) (by kernel_rfl) (fun _ _ _ h => h) (.inl ⟨by kernel_rfl, fun V hV => by go_simp⟩) S0 ?_
      simp only [Act.put, List.setIfInBounds_toArray, List.set_cons_zero, List.set_cons_succ]
      refine held_take 7 (some 73) (v := .pointer (some ⟨vb, 0, none⟩)) rfl rfl (by kernel_rfl) (by kernel_rfl) (by kernel_rfl) (fun _ _ _ h => h) (.inl ⟨by kernel_rfl, fun V hV => by have c := hV.cell; go_simp⟩) S0 ?_
      simp only [Act.put, List.setIfInBounds_toArray, List.set_cons_zero, List.set_cons_succ]
      refine held_two (i := 8) (j := 13) (by kernel_rfl) ?_ ?_
      refine wpOp_call (some 74) rfl rfl (by kernel_rfl) 15 Tryz.f15 Tryz.func15 (by kernel_rfl) (by kernel_rfl) _ _ rfl #[.pointer (some ⟨vb, 0, none⟩)] (by first | (simp [Act.eval]; done) | (simp [Act.eval, Act.put]; done)) (by have := S0.va.len_calls; rw [texts_len, ← HN.out] at this; exact this) ?_
      rintro en w' ⟨rfl, rfl⟩
      refine ⟨.int .i64 N, rfl, S0, ?_⟩
      simp only [Act.put, List.setIfInBounds_toArray, List.set_cons_zero, List.set_cons_succ]
      refine held_two (i := 9) (j := 13) (by kernel_rfl) ?_ ?_
      refine wpOp_call (some 75) rfl rfl (by kernel_rfl) 32 Tryz.f32 Tryz.func32 (by kernel_rfl) (by kernel_rfl) _ _ rfl #[.pointer (some ⟨vb, 0, none⟩), .int .i64 N] (by first | (simp [Act.eval]; done) | (simp [Act.eval, Act.put]; done)) (HHD.out _ S0) ?_
      rintro en w6 ⟨rfl, b6⟩
      have S2 := S0.below b6
      refine ⟨_, rfl, S2, ?_⟩
      simp only [Act.put, List.setIfInBounds_toArray, List.set_cons_zero, List.set_cons_succ]
      refine held_take 10 (some 65) rfl rfl (by kernel_rfl) (by kernel_rfl) (by kernel_rfl) (fun _ _ _ h => h) (.inl ⟨by kernel_rfl, fun _ _ => rfl⟩) S2 ?_
      simp only [Act.put, List.setIfInBounds_toArray, List.set_cons_zero, List.set_cons_succ]
      refine held_take 11 (some 76) (v := .agg (headC N R)) rfl rfl (by kernel_rfl) (by kernel_rfl) (by kernel_rfl) (fun _ _ _ h => h) (.inl ⟨by kernel_rfl, fun V hV => by first | (go_simp; done) | rfl⟩) S2 ?_
      simp only [Act.put, List.setIfInBounds_toArray, List.set_cons_zero, List.set_cons_succ]
      refine held_take 12 (some 77) (v := .nilIface) rfl rfl (by kernel_rfl) (by kernel_rfl) (by kernel_rfl) (fun _ _ _ h => h) (.inl ⟨by kernel_rfl, fun V hV => by first | (go_simp; done) | rfl⟩) S2 ?_
      simp only [Act.put, List.setIfInBounds_toArray, List.set_cons_zero, List.set_cons_succ]
      refine held_one (i := 13) (by kernel_rfl) ?_
      obtain ⟨g, hg⟩ : ∃ g, g = w6.heap.size := ⟨_, rfl⟩
      refine wpOp_value (some 13) (v := .pointer (some ⟨g, 0, none⟩)) (w' := w6.alloc (.cells (headC 0 (List.replicate 32 0)) 86)) rfl rfl (by kernel_rfl) (by rw [hg]; first | (go_simp; done) | (go_simp; rfl)) ?_
      have S3 := S2.below ((Below.refl _ w6).alloc (Nat.le_refl _) (.cells (headC 0 (List.replicate 32 0)) 86))
      have G2 := made_at (w := w6) (g := g) 86 (headC 0 (List.replicate 32 0)) hg
      have hgz : Z ≤ g := by rw [hg]; exact S2.hz
      clear hg
      refine ⟨S3, ?_⟩
      simp only [Act.put, List.setIfInBounds_toArray, List.set_cons_zero, List.set_cons_succ]
      refine held_one (i := 14) (by kernel_rfl) ?_
      refine wpOp_wp (o := ⟨none, _, _, _, _, _⟩) rfl (by kernel_rfl) ?_
      refine Go.Proofs.YtcdedkgkingbdaaGreatDoor.hindsightHead.wp_store_whole 86 (.tmp 13) (.tmp 76) rfl g (headC N R) (headC 0 (List.replicate 32 0)) (by first | (simp [Act.eval]; done) | rfl) (by first | (simp [Act.eval]; done) | rfl) 86 G2 (by rw [headC_size, HRL.out]; kernel_rfl) (by rw [headC_size, headC_size, HRL.out]; rfl) (headC_all _ _) ?_
      intro w9 G9 t9
      have S9 := S3.turn t9 (fun j e => by omega)
      refine ⟨S9, ?_⟩
      simp only [Act.put]
      refine held_take 15 (some 14) (v := .nilIface) rfl rfl (by kernel_rfl) (by kernel_rfl) (by kernel_rfl) (fun _ _ _ h => h) (.inl ⟨by kernel_rfl, fun V hV => by go_simp⟩) S9 ?_
      simp only [Act.put, List.setIfInBounds_toArray, List.set_cons_zero, List.set_cons_succ]
      refine wpAnyH_done (by kernel_rfl) ?_ _
      have P9 := Lib.hid (show Hd w Z b vb tb k C v w9 ∧ Has w9 g 86 (headC N R) ∧ Z ≤ g from ⟨S9, G9, hgz⟩)
      clear S9 G9 hgz t9 S0
      try clear G2
      try clear G3
      try clear S3
      try clear S2
      try clear S1
      try clear b6
      rotate_left
      obtain ⟨g, hg⟩ : ∃ g, g = V.heap.size := ⟨_, rfl⟩
      refine wpOp_value (some 13) (v := .pointer (some ⟨g, 0, none⟩)) (w' := V.alloc (.cells (headC 0 (List.replicate 32 0)) 86)) rfl rfl (by kernel_rfl) (by rw [hg]; first | (go_simp; done) | (go_simp; rfl)) ?_
      have S1 := S0.below ((Below.refl _ V).alloc (Nat.le_refl _) (.cells (headC 0 (List.replicate 32 0)) 86))
      have G2 := made_at (w := V) (g := g) 86 (headC 0 (List.replicate 32 0)) hg
      have hgz : Z ≤ g := by rw [hg]; exact S0.hz
      clear hg
      refine ⟨S1, ?_⟩
      simp only [Act.put, List.setIfInBounds_toArray, List.set_cons_zero, List.set_cons_succ]
      refine held_one (i := 9) (by kernel_rfl) ?_
      refine wpOp_call (some 75) rfl rfl (by kernel_rfl) 32 Tryz.f32 Tryz.func32 (by kernel_rfl) (by kernel_rfl) _ _ rfl #[.pointer (some ⟨vb, 0, none⟩), .int .i64 N] (by first | (simp [Act.eval]; done) | (simp [Act.eval, Act.put]; done)) (HHD.out _ S1) ?_
      rintro en w6 ⟨rfl, b6⟩
      have S2 := S1.below b6
      refine ⟨_, rfl, S2, ?_⟩
      simp only [Act.put, List.setIfInBounds_toArray, List.set_cons_zero, List.set_cons_succ]
      have G3 := G2.below b6 G2.lt
      refine held_take 10 (some 65) rfl rfl (by kernel_rfl) (by kernel_rfl) (by kernel_rfl) (fun _ _ _ h => h) (.inl ⟨by kernel_rfl, fun _ _ => rfl⟩) S2 ?_
      simp only [Act.put, List.setIfInBounds_toArray, List.set_cons_zero, List.set_cons_succ]
      refine held_take 11 (some 76) (v := .agg (headC N R)) rfl rfl (by kernel_rfl) (by kernel_rfl) (by kernel_rfl) (fun _ _ _ h => h) (.inl ⟨by kernel_rfl, fun V hV => by first | (go_simp; done) | rfl⟩) S2 ?_
      simp only [Act.put, List.setIfInBounds_toArray, List.set_cons_zero, List.set_cons_succ]
      refine held_take 12 (some 77) (v := .nilIface) rfl rfl (by kernel_rfl) (by kernel_rfl) (by kernel_rfl) (fun _ _ _ h => h) (.inl ⟨by kernel_rfl, fun V hV => by first | (go_simp; done) | rfl⟩) S2 ?_
      simp only [Act.put, List.setIfInBounds_toArray, List.set_cons_zero, List.set_cons_succ]
      refine held_one (i := 14) (by kernel_rfl) ?_
      refine wpOp_wp (o := ⟨none, _, _, _, _, _⟩) rfl (by kernel_rfl) ?_
      refine Go.Proofs.YtcdedkgkingbdaaGreatDoor.hindsightHead.wp_store_whole 86 (.tmp 13) (.tmp 76) rfl g (headC N R) (headC 0 (List.replicate 32 0)) (by first | (simp [Act.eval]; done) | rfl) (by first | (simp [Act.eval]; done) | rfl) 86 G3 (by rw [headC_size, HRL.out]; kernel_rfl) (by rw [headC_size, headC_size, HRL.out]; rfl) (headC_all _ _) ?_
      intro w9 G9 t9
      have S9 := S2.turn t9 (fun j e => by omega)
      refine ⟨S9, ?_⟩
      simp only [Act.put]
      refine held_take 15 (some 14) (v := .nilIface) rfl rfl (by kernel_rfl) (by kernel_rfl) (by kernel_rfl) (fun _ _ _ h => h) (.inl ⟨by kernel_rfl, fun V hV => by go_simp⟩) S9 ?_
      simp only [Act.put, List.setIfInBounds_toArray, List.set_cons_zero, List.set_cons_succ]
      refine wpAnyH_done (by kernel_rfl) ?_ _
      have P9 := Lib.hid (show Hd w Z b vb tb k C v w9 ∧ Has w9 g 86 (headC N R) ∧ Z ≤ g from ⟨S9, G9, hgz⟩)
      clear S9 G9 hgz t9 S0
      try clear G2
      try clear G3
      try clear S3
      try clear S2
      try clear S1
      try clear b6
      rotate_left
      obtain ⟨g, hg⟩ : ∃ g, g = V.heap.size := ⟨_, rfl⟩
      refine wpOp_value (some 13) (v := .pointer (some ⟨g, 0, none⟩)) (w' := V.alloc (.cells (headC 0 (List.replicate 32 0)) 86)) rfl rfl (by kernel_rfl) (by rw [hg]; first | (go_simp; done) | (go_simp; rfl)) ?_
      have S1 := S0.below ((Below.refl _ V).alloc (Nat.le_refl _) (.cells (headC 0 (List.replicate 32 0)) 86))
      have G2 := made_at (w := V) (g := g) 86 (headC 0 (List.replicate 32 0)) hg
      have hgz : Z ≤ g := by rw [hg]; exact S0.hz
      clear hg
      refine ⟨S1, ?_⟩
      simp only [Act.put, List.setIfInBounds_toArray, List.set_cons_zero, List.set_cons_succ]
      refine held_one (i := 8) (by kernel_rfl) ?_
      refine wpOp_call (some 74) rfl rfl (by kernel_rfl) 15 Tryz.f15 Tryz.func15 (by kernel_rfl) (by kernel_rfl) _ _ rfl #[.pointer (some ⟨vb, 0, none⟩)] (by first | (simp [Act.eval]; done) | (simp [Act.eval, Act.put]; done)) (by have := S1.va.len_calls; rw [texts_len, ← HN.out] at this; exact this) ?_
      rintro en w' ⟨rfl, rfl⟩
      refine ⟨.int .i64 N, rfl, S1, ?_⟩
      simp only [Act.put, List.setIfInBounds_toArray, List.set_cons_zero, List.set_cons_succ]
      refine held_one (i := 9) (by kernel_rfl) ?_
      refine wpOp_call (some 75) rfl rfl (by kernel_rfl) 32 Tryz.f32 Tryz.func32 (by kernel_rfl) (by kernel_rfl) _ _ rfl #[.pointer (some ⟨vb, 0, none⟩), .int .i64 N] (by first | (simp [Act.eval]; done) | (simp [Act.eval, Act.put]; done)) (HHD.out _ S1) ?_
      rintro en w6 ⟨rfl, b6⟩
      have S2 := S1.below b6
      refine ⟨_, rfl, S2, ?_⟩
      simp only [Act.put, List.setIfInBounds_toArray, List.set_cons_zero, List.set_cons_succ]
      have G3 := G2.below b6 G2.lt
      refine held_take 10 (some 65) rfl rfl (by kernel_rfl) (by kernel_rfl) (by kernel_rfl) (fun _ _ _ h => h) (.inl ⟨by kernel_rfl, fun _ _ => rfl⟩) S2 ?_
      simp only [Act.put, List.setIfInBounds_toArray, List.set_cons_zero, List.set_cons_succ]
      refine held_take 11 (some 76) (v := .agg (headC N R)) rfl rfl (by kernel_rfl) (by kernel_rfl) (by kernel_rfl) (fun _ _ _ h => h) (.inl ⟨by kernel_rfl, fun V hV => by first | (go_simp; done) | rfl⟩) S2 ?_
      simp only [Act.put, List.setIfInBounds_toArray, List.set_cons_zero, List.set_cons_succ]
      refine held_take 12 (some 77) (v := .nilIface) rfl rfl (by kernel_rfl) (by kernel_rfl) (by kernel_rfl) (fun _ _ _ h => h) (.inl ⟨by kernel_rfl, fun V hV => by first | (go_simp; done) | rfl⟩) S2 ?_
      simp only [Act.put, List.setIfInBounds_toArray, List.set_cons_zero, List.set_cons_succ]
      refine held_one (i := 14) (by kernel_rfl) ?_
      refine wpOp_wp (o := ⟨none, _, _, _, _, _⟩) rfl (by kernel_rfl) ?_
      refine Go.Proofs.YtcdedkgkingbdaaGreatDoor.hindsightHead.wp_store_whole 86 (.tmp 13) (.tmp 76) rfl g (headC N R) (headC 0 (List.replicate 32 0)) (by first | (simp [Act.eval]; done) | rfl) (by first | (simp [Act.eval]; done) | rfl) 86 G3 (by rw [headC_size, HRL.out]; kernel_rfl) (by rw [headC_size, headC_size, HRL.out]; rfl) (headC_all _ _) ?_
      intro w9 G9 t9
      have S9 := S2.turn t9 (fun j e => by omega)
      refine ⟨S9, ?_⟩
      simp only [Act.put]
      refine held_take 15 (some 14) (v := .nilIface) rfl rfl (by kernel_rfl) (by kernel_rfl) (by kernel_rfl) (fun _ _ _ h => h) (.inl ⟨by kernel_rfl, fun V hV => by go_simp⟩) S9 ?_
      simp only [Act.put, List.setIfInBounds_toArray, List.set_cons_zero, List.set_cons_succ]
      refine wpAnyH_done (by kernel_rfl) ?_ _
      have P9 := Lib.hid (show Hd w Z b vb tb k C v w9 ∧ Has w9 g 86 (headC N R) ∧ Z ≤ g from ⟨S9, G9, hgz⟩)
      clear S9 G9 hgz t9 S0
      try clear G2
      try clear G3
      try clear S3
      try clear S2
      try clear S1
      try clear b6
      all_goals
        have hle3 := P9.out.1.va.len_calls
        rw [texts_len, ← HN.out] at hle3
        have HLE3 := Lib.hid hle3
        have k0 := P9.out.1.cell
        have hne : Hid (∀ V, (binOp .neq 84 (.agg (cellsOf R)) (.agg (cellsOf R))).run Tryz.prog V = .ok (.bool false) V) := Lib.hid fun V => run_neq_same R HRL.out V
        clear hle3
        go_wp2_with fail
        refine HLE3.out.mono ?_
        rintro en w10 ⟨rfl, rfl⟩
        clear HLE3 k0
        go_wp2_with fail
        refine (HRT.out _ P9.out.1).mono ?_
        rintro en w11 ⟨rfl, b11⟩
        have P11 := Lib.hid (show Hd w Z b vb tb k C v w11 ∧ Has w11 g 86 (headC N R) from ⟨P9.out.1.below b11, P9.out.2.1.below b11 P9.out.2.1.lt⟩)
        have hz11 : Z ≤ w11.heap.size := P11.out.1.hz
        clear P9 b11
        go_wp2_with (first
          | ((with_reducible refine at_store (.tmp 15) ?_); refine wpList_store_cells (o := ⟨none, _, _, _, _, _⟩) rfl 84 (.tmp 15) (.tmp 86) rfl w11.heap.size (cellsOf R) (cellsOf (List.replicate 32 0)) rfl rfl _ (made_at _ _ rfl) (by rw [cellsOf_size, HRL.out]; kernel_rfl) (by rw [cellsOf_size, cellsOf_size, HRL.out]; rfl) (cellsOf_one _) ?_; intro Wb HWb TWb;
             (have P12 : Hid (Hd w Z b vb tb k C v Wb ∧ Has Wb g 86 (headC N R) ∧ Has Wb w11.heap.size 84 (cellsOf R)) := Lib.hid ⟨(P11.out.1.below ((Below.refl _ _).alloc (Nat.le_refl _) _)).turn TWb (fun j e => by omega), (P11.out.2.alloc _).turn TWb (by have := P11.out.2.lt; omega), HWb⟩);
             have k1 := P12.out.1.cell;
             clear HWb TWb)
          | ((with_reducible refine at_opg 96 ?_); refine dig.wpList_load_if (by rfl) 84 _ rfl (.pointer (some ⟨g, 1, none⟩)) rfl (Has.load_root P12.out.2.1 HRL.out) ?_)
          | ((with_reducible refine at_opg 97 ?_); refine dig.wpList_load_if (by rfl) 84 _ rfl (.pointer (some ⟨w11.heap.size, 0, none⟩)) rfl (Has.load_sum P12.out.2.2 HRL.out) ?_)
          | ((with_reducible refine at_opg 98 ?_); refine wpList_exec_if (by rfl) (exec_neq 84 (.tmp 96) (.tmp 97) rfl rfl rfl rfl (hne.out _)) ?_)
          | fail)
        have HFL := Lib.hid P12.out.1.va.floor_calls
        refine HFL.out.mono ?_
        rintro en w13 ⟨rfl, rfl⟩
        have P13 := Lib.hid (show Hd w Z b vb tb k C v Wb ∧ Has Wb g 86 (headC N R) from ⟨P12.out.1, P12.out.2.1⟩)
        obtain ⟨gh, hgh⟩ : ∃ gh, gh = g := ⟨_, rfl⟩
        rw [← hgh] at P13 ⊢
        clear HFL P12 k1 P11 hz11 hgh hne
        go_wp2_with fail
        go_loopw [17] (fun i wr2 => ∃ (i' : Nat), i = .int .i64 i' ∧ v ≤ i' ∧ i' ≤ N ∧ Hid (He w Z b vb tb k C v gh N R wr2)) (fun i _ => N - (intOf i).toNat)
        case atStart => exact ⟨v, rfl, Nat.le_refl _, HV.out.1, Lib.hid ⟨P13.out.1, P13.out.2⟩⟩
        case round =>
          clear P13
          obtain ⟨i, rfl, hvi, hiN, HS2⟩ := hrel
          have hle4 := HS2.out.hd.va.len_calls
          rw [texts_len, ← HN.out] at hle4
          have HLE4 := Lib.hid hle4
          have k2 := HS2.out.hd.cell
          clear hle4
          go_wp2_with fail
          refine HLE4.out.mono ?_
          rintro en w14 ⟨rfl, rfl⟩
          clear HLE4
          by_cases hlt : i < N
          · have hlt2 : (i : Int) < (N : Int) := by omega
            have hib : (i : Int) ≤ 16 := by omega
            have i1 : IntKind.i64.wrap ((i : Int) + 1) = (i : Int) + 1 := IntWalk.i64_in _ ⟨by omega, by omega⟩
            obtain ⟨s, hs⟩ : ∃ s, L[i]? = some s := ⟨_, List.getElem?_eq_getElem (by rw [HLR.out.1, texts_len]; have := HN.out; omega)⟩
            have hsz : s.size ≤ 131 := by
              have h0 := hs
              rw [HLR.out.1] at h0
              unfold texts at h0
              obtain ⟨c, hc, rfl⟩ := List.getElem?_map .. ▸ h0 |> Option.map_eq_some_iff.1
              obtain ⟨h1, _, h2⟩ := HDD.out i c hc
              exact cmdT_size h1 h2
            have HAT := Lib.hid (HS2.out.hd.va.at_ok i hvi s (by rw [← HLR.out.1]; exact hs))
            obtain ⟨l, hl⟩ : ∃ l, l = path (leafF L) i 0 N := ⟨_, rfl⟩
            obtain ⟨lm, hlm⟩ : ∃ lm, lm = l.length := ⟨_, rfl⟩
            have HLM := Lib.hid hlm
            have HLF : Hid (∀ V, He w Z b vb tb k C v gh N R V → Calls Tryz.prog 35 #[.pointer (some ⟨vb, 0, none⟩), .int .i64 i, .int .i64 N] V (ProofPost V 1 i N l)) := Lib.hid fun V h => by
              rw [hl, HLR.out.1]
              exact h.hd.va.leaf (by rw [texts_len]; have := HN.out; omega) i N (by rw [texts_len, HN.out]; exact Nat.le_refl _) hlt hvi
            have HSL := Lib.hid (show _ ∧ _ ∧ _ from ⟨hl, hs, hsz⟩)
            clear hl hlm hs hsz
            go_wp2_with fail
            refine HAT.out.mono ?_
            rintro en w15 ⟨rfl, b15⟩
            have P15 := Lib.hid (HS2.out.below b15)
            clear HAT HS2 b15 k2
            go_wp2_with fail
            obtain ⟨V, hV⟩ : ∃ V, V = w15.drew := ⟨_, rfl⟩
            refine Go.Proofs.YtcdedkgkingbdaaGreatDoor.rep.wp_region_heldV (He w Z b vb tb k C v gh N R) V hV (by kernel_rfl) ?_
            have S0 : He w Z b vb tb k C v gh N R V := by rw [hV]; exact P15.out.below (Below.refl _ _).drew
            clear hV P15
            refine held_take 0 (some 124) rfl rfl (by kernel_rfl) (by kernel_rfl) (by kernel_rfl) (fun _ _ _ h => h) (.inl ⟨by kernel_rfl, fun _ _ => rfl⟩) S0 ?_
            simp only [Act.put, List.setIfInBounds_toArray, List.set_cons_zero, List.set_cons_succ]
            refine held_take 1 (some 125) (v := .pointer (some ⟨b, 0, none⟩)) rfl rfl (by kernel_rfl) (by kernel_rfl) (by kernel_rfl) (fun _ _ _ h => h) (.inl ⟨by kernel_rfl, fun V hV => by go_simp⟩) S0 ?_
            simp only [Act.put, List.setIfInBounds_toArray, List.set_cons_zero, List.set_cons_succ]
            refine held_take 2 (some 126) (v := .pointer (some ⟨b, 0, none⟩)) rfl rfl (by kernel_rfl) (by kernel_rfl) (by kernel_rfl) (fun _ _ _ h => h) (.inl ⟨by kernel_rfl, fun V hV => by go_simp⟩) S0 ?_
            simp only [Act.put, List.setIfInBounds_toArray, List.set_cons_zero, List.set_cons_succ]
            refine held_take 3 (some 127) (v := .pointer (some ⟨vb, 0, none⟩)) rfl rfl (by kernel_rfl) (by kernel_rfl) (by kernel_rfl) (fun _ _ _ h => h) (.inl ⟨by kernel_rfl, fun V hV => by have c := hV.hd.cell; go_simp⟩) S0 ?_
            simp only [Act.put, List.setIfInBounds_toArray, List.set_cons_zero, List.set_cons_succ]
            refine held_take 4 (some 128) rfl rfl (by kernel_rfl) (by kernel_rfl) (by kernel_rfl) (fun _ _ _ h => h) (.inl ⟨by kernel_rfl, fun _ _ => rfl⟩) S0 ?_
            simp only [Act.put, List.setIfInBounds_toArray, List.set_cons_zero, List.set_cons_succ]
            refine held_take 5 (some 129) rfl rfl (by kernel_rfl) (by kernel_rfl) (by kernel_rfl) (fun _ _ _ h => h) (.inl ⟨by kernel_rfl, fun _ _ => rfl⟩) S0 ?_
            simp only [Act.put, List.setIfInBounds_toArray, List.set_cons_zero, List.set_cons_succ]
            refine held_take 6 (some 130) (v := .pointer (some ⟨b, 0, none⟩)) rfl rfl (by kernel_rfl) (by kernel_rfl) (by kernel_rfl) (fun _ _ _ h => h) (.inl ⟨by kernel_rfl, fun V hV => by go_simp⟩) S0 ?_
            simp only [Act.put, List.setIfInBounds_toArray, List.set_cons_zero, List.set_cons_succ]
            refine held_take 7 (some 131) (v := .pointer (some ⟨b, 0, none⟩)) rfl rfl (by kernel_rfl) (by kernel_rfl) (by kernel_rfl) (fun _ _ _ h => h) (.inl ⟨by kernel_rfl, fun V hV => by go_simp⟩) S0 ?_
            simp only [Act.put, List.setIfInBounds_toArray, List.set_cons_zero, List.set_cons_succ]
            refine held_take 8 (some 132) (v := .pointer (some ⟨vb, 0, none⟩)) rfl rfl (by kernel_rfl) (by kernel_rfl) (by kernel_rfl) (fun _ _ _ h => h) (.inl ⟨by kernel_rfl, fun V hV => by have c := hV.hd.cell; go_simp⟩) S0 ?_
            simp only [Act.put, List.setIfInBounds_toArray, List.set_cons_zero, List.set_cons_succ]
            refine held_two (i := 9) (j := 14) (by kernel_rfl) ?_ ?_
            refine wpOp_call (some 133) rfl rfl (by kernel_rfl) 15 Tryz.f15 Tryz.func15 (by kernel_rfl) (by kernel_rfl) _ _ rfl #[.pointer (some ⟨vb, 0, none⟩)] (by first | (simp [Act.eval]; done) | (simp [Act.eval, Act.put]; done)) (by have := S0.hd.va.len_calls; rw [texts_len, ← HN.out] at this; exact this) ?_
            rintro en w' ⟨rfl, rfl⟩
            refine ⟨.int .i64 N, rfl, S0, ?_⟩
            simp only [Act.put, List.setIfInBounds_toArray, List.set_cons_zero, List.set_cons_succ]
            refine held_two (i := 10) (j := 14) (by kernel_rfl) ?_ ?_
            refine wpOp_call (some 134) rfl rfl (by kernel_rfl) 35 Tryz.f35 Tryz.func35 (by kernel_rfl) (by kernel_rfl) _ _ rfl #[.pointer (some ⟨vb, 0, none⟩), .int .i64 i, .int .i64 N] (by first | (simp [Act.eval]; done) | (simp [Act.eval, Act.put]; done)) (HLF.out _ S0) ?_
            rintro en w6 ⟨sa, sc, rfl, Sg, _, b6⟩
            have S2 := S0.below b6
            rw [← HLM.out] at Sg ⊢
            refine ⟨_, rfl, S2, ?_⟩
            simp only [Act.put, List.setIfInBounds_toArray, List.set_cons_zero, List.set_cons_succ]
            refine held_take 11 (some 123) rfl rfl (by kernel_rfl) (by kernel_rfl) (by kernel_rfl) (fun _ _ _ h => h) (.inl ⟨by kernel_rfl, fun _ _ => rfl⟩) S2 ?_
            simp only [Act.put, List.setIfInBounds_toArray, List.set_cons_zero, List.set_cons_succ]
            refine held_take 12 (some 135) (v := .agg (prC 1 i N (.slice sa lm sc))) rfl rfl (by kernel_rfl) (by kernel_rfl) (by kernel_rfl) (fun _ _ _ h => h) (.inl ⟨by kernel_rfl, fun V hV => by first | (go_simp; done) | rfl⟩) S2 ?_
            simp only [Act.put, List.setIfInBounds_toArray, List.set_cons_zero, List.set_cons_succ]
            refine held_take 13 (some 136) (v := .nilIface) rfl rfl (by kernel_rfl) (by kernel_rfl) (by kernel_rfl) (fun _ _ _ h => h) (.inl ⟨by kernel_rfl, fun V hV => by first | (go_simp; done) | rfl⟩) S2 ?_
            simp only [Act.put, List.setIfInBounds_toArray, List.set_cons_zero, List.set_cons_succ]
            refine held_one (i := 14) (by kernel_rfl) ?_
            obtain ⟨g, hg⟩ : ∃ g, g = w6.heap.size := ⟨_, rfl⟩
            refine wpOp_value (some 20) (v := .pointer (some ⟨g, 0, none⟩)) (w' := w6.alloc (.cells (prC 0 0 0 (.slice none 0 0)) 93)) rfl rfl (by kernel_rfl) (by rw [hg]; first | (go_simp; done) | (go_simp; rfl)) ?_
            have S3 := S2.below ((Below.refl _ w6).alloc (Nat.le_refl _) (.cells (prC 0 0 0 (.slice none 0 0)) 93))
            have G2 := made_at (w := w6) (g := g) 93 (prC 0 0 0 (.slice none 0 0)) hg
            have hgz : Z ≤ g := by rw [hg]; exact S2.hd.hz
            have hgn : gh < g := by rw [hg]; exact S2.hh.lt
            clear hg
            refine ⟨S3, ?_⟩
            simp only [Act.put, List.setIfInBounds_toArray, List.set_cons_zero, List.set_cons_succ]
            refine held_one (i := 15) (by kernel_rfl) ?_
            refine wpOp_wp (o := ⟨none, _, _, _, _, _⟩) rfl (by kernel_rfl) ?_
            refine Go.Proofs.YtcdedkgkingbdaaGreatDoor.hindsightHead.wp_store_whole 93 (.tmp 20) (.tmp 135) rfl g (prC 1 i N (.slice sa lm sc)) (prC 0 0 0 (.slice none 0 0)) (by first | (simp [Act.eval]; done) | rfl) (by first | (simp [Act.eval]; done) | rfl) 93 G2 (by kernel_rfl) rfl (by simp [prC, Value.oneCell']) ?_
            intro w9 G9 t9
            have S9 := S3.turn t9 ⟨hgz, hgn⟩
            have Sg9 := (Sg.alloc _).turn t9 (fun x hx e => by subst e; exact (Sg.alloc _).ne G2 (by decide) hx)
            refine ⟨S9, ?_⟩
            simp only [Act.put]
            refine held_take 16 (some 21) (v := .nilIface) rfl rfl (by kernel_rfl) (by kernel_rfl) (by kernel_rfl) (fun _ _ _ h => h) (.inl ⟨by kernel_rfl, fun V hV => by go_simp⟩) S9 ?_
            simp only [Act.put, List.setIfInBounds_toArray, List.set_cons_zero, List.set_cons_succ]
            refine wpAnyH_done (by kernel_rfl) ?_ _
            have P8 := Lib.hid (show He w Z b vb tb k C v gh N R w9 ∧ Has w9 g 93 (prC 1 i N (.slice sa lm sc)) ∧ Seg w9 84 32 (.slice sa lm sc) lm (sumsC l) from ⟨S9, G9, Sg9⟩)
            clear S9 G9 Sg9 hgz hgn t9
            try clear G2
            try clear G3
            try clear S3
            try clear S2
            try clear S1
            try clear S0
            try clear Sg
            try clear b6
            rotate_left
            obtain ⟨g, hg⟩ : ∃ g, g = V.heap.size := ⟨_, rfl⟩
            refine wpOp_value (some 20) (v := .pointer (some ⟨g, 0, none⟩)) (w' := V.alloc (.cells (prC 0 0 0 (.slice none 0 0)) 93)) rfl rfl (by kernel_rfl) (by rw [hg]; first | (go_simp; done) | (go_simp; rfl)) ?_
            have S1 := S0.below ((Below.refl _ V).alloc (Nat.le_refl _) (.cells (prC 0 0 0 (.slice none 0 0)) 93))
            have G2 := made_at (w := V) (g := g) 93 (prC 0 0 0 (.slice none 0 0)) hg
            have hgz : Z ≤ g := by rw [hg]; exact S0.hd.hz
            have hgn : gh < g := by rw [hg]; exact S0.hh.lt
            clear hg
            refine ⟨S1, ?_⟩
            simp only [Act.put, List.setIfInBounds_toArray, List.set_cons_zero, List.set_cons_succ]
            refine held_one (i := 10) (by kernel_rfl) ?_
            refine wpOp_call (some 134) rfl rfl (by kernel_rfl) 35 Tryz.f35 Tryz.func35 (by kernel_rfl) (by kernel_rfl) _ _ rfl #[.pointer (some ⟨vb, 0, none⟩), .int .i64 i, .int .i64 N] (by first | (simp [Act.eval]; done) | (simp [Act.eval, Act.put]; done)) (HLF.out _ S1) ?_
            rintro en w6 ⟨sa, sc, rfl, Sg, _, b6⟩
            have S2 := S1.below b6
            rw [← HLM.out] at Sg ⊢
            refine ⟨_, rfl, S2, ?_⟩
            simp only [Act.put, List.setIfInBounds_toArray, List.set_cons_zero, List.set_cons_succ]
            have G3 := G2.below b6 G2.lt
            refine held_take 11 (some 123) rfl rfl (by kernel_rfl) (by kernel_rfl) (by kernel_rfl) (fun _ _ _ h => h) (.inl ⟨by kernel_rfl, fun _ _ => rfl⟩) S2 ?_
            simp only [Act.put, List.setIfInBounds_toArray, List.set_cons_zero, List.set_cons_succ]
            refine held_take 12 (some 135) (v := .agg (prC 1 i N (.slice sa lm sc))) rfl rfl (by kernel_rfl) (by kernel_rfl) (by kernel_rfl) (fun _ _ _ h => h) (.inl ⟨by kernel_rfl, fun V hV => by first | (go_simp; done) | rfl⟩) S2 ?_
            simp only [Act.put, List.setIfInBounds_toArray, List.set_cons_zero, List.set_cons_succ]
            refine held_take 13 (some 136) (v := .nilIface) rfl rfl (by kernel_rfl) (by kernel_rfl) (by kernel_rfl) (fun _ _ _ h => h) (.inl ⟨by kernel_rfl, fun V hV => by first | (go_simp; done) | rfl⟩) S2 ?_
            simp only [Act.put, List.setIfInBounds_toArray, List.set_cons_zero, List.set_cons_succ]
            refine held_one (i := 15) (by kernel_rfl) ?_
            refine wpOp_wp (o := ⟨none, _, _, _, _, _⟩) rfl (by kernel_rfl) ?_
            refine Go.Proofs.YtcdedkgkingbdaaGreatDoor.hindsightHead.wp_store_whole 93 (.tmp 20) (.tmp 135) rfl g (prC 1 i N (.slice sa lm sc)) (prC 0 0 0 (.slice none 0 0)) (by first | (simp [Act.eval]; done) | rfl) (by first | (simp [Act.eval]; done) | rfl) 93 G3 (by kernel_rfl) rfl (by simp [prC, Value.oneCell']) ?_
            intro w9 G9 t9
            have S9 := S2.turn t9 ⟨hgz, hgn⟩
            have Sg9 := (Sg).turn t9 (fun x hx e => by subst e; exact (Sg).ne G3 (by decide) hx)
            refine ⟨S9, ?_⟩
            simp only [Act.put]
            refine held_take 16 (some 21) (v := .nilIface) rfl rfl (by kernel_rfl) (by kernel_rfl) (by kernel_rfl) (fun _ _ _ h => h) (.inl ⟨by kernel_rfl, fun V hV => by go_simp⟩) S9 ?_
            simp only [Act.put, List.setIfInBounds_toArray, List.set_cons_zero, List.set_cons_succ]
            refine wpAnyH_done (by kernel_rfl) ?_ _
            have P8 := Lib.hid (show He w Z b vb tb k C v gh N R w9 ∧ Has w9 g 93 (prC 1 i N (.slice sa lm sc)) ∧ Seg w9 84 32 (.slice sa lm sc) lm (sumsC l) from ⟨S9, G9, Sg9⟩)
            clear S9 G9 Sg9 hgz hgn t9
            try clear G2
            try clear G3
            try clear S3
            try clear S2
            try clear S1
            try clear S0
            try clear Sg
            try clear b6
            rotate_left
            obtain ⟨g, hg⟩ : ∃ g, g = V.heap.size := ⟨_, rfl⟩
            refine wpOp_value (some 20) (v := .pointer (some ⟨g, 0, none⟩)) (w' := V.alloc (.cells (prC 0 0 0 (.slice none 0 0)) 93)) rfl rfl (by kernel_rfl) (by rw [hg]; first | (go_simp; done) | (go_simp; rfl)) ?_
            have S1 := S0.below ((Below.refl _ V).alloc (Nat.le_refl _) (.cells (prC 0 0 0 (.slice none 0 0)) 93))
            have G2 := made_at (w := V) (g := g) 93 (prC 0 0 0 (.slice none 0 0)) hg
            have hgz : Z ≤ g := by rw [hg]; exact S0.hd.hz
            have hgn : gh < g := by rw [hg]; exact S0.hh.lt
            clear hg
            refine ⟨S1, ?_⟩
            simp only [Act.put, List.setIfInBounds_toArray, List.set_cons_zero, List.set_cons_succ]
            refine held_one (i := 9) (by kernel_rfl) ?_
            refine wpOp_call (some 133) rfl rfl (by kernel_rfl) 15 Tryz.f15 Tryz.func15 (by kernel_rfl) (by kernel_rfl) _ _ rfl #[.pointer (some ⟨vb, 0, none⟩)] (by first | (simp [Act.eval]; done) | (simp [Act.eval, Act.put]; done)) (by have := S1.hd.va.len_calls; rw [texts_len, ← HN.out] at this; exact this) ?_
            rintro en w' ⟨rfl, rfl⟩
            refine ⟨.int .i64 N, rfl, S1, ?_⟩
            simp only [Act.put, List.setIfInBounds_toArray, List.set_cons_zero, List.set_cons_succ]
            refine held_one (i := 10) (by kernel_rfl) ?_
            refine wpOp_call (some 134) rfl rfl (by kernel_rfl) 35 Tryz.f35 Tryz.func35 (by kernel_rfl) (by kernel_rfl) _ _ rfl #[.pointer (some ⟨vb, 0, none⟩), .int .i64 i, .int .i64 N] (by first | (simp [Act.eval]; done) | (simp [Act.eval, Act.put]; done)) (HLF.out _ S1) ?_
            rintro en w6 ⟨sa, sc, rfl, Sg, _, b6⟩
            have S2 := S1.below b6
            rw [← HLM.out] at Sg ⊢
            refine ⟨_, rfl, S2, ?_⟩
            simp only [Act.put, List.setIfInBounds_toArray, List.set_cons_zero, List.set_cons_succ]
            have G3 := G2.below b6 G2.lt
            refine held_take 11 (some 123) rfl rfl (by kernel_rfl) (by kernel_rfl) (by kernel_rfl) (fun _ _ _ h => h) (.inl ⟨by kernel_rfl, fun _ _ => rfl⟩) S2 ?_
            simp only [Act.put, List.setIfInBounds_toArray, List.set_cons_zero, List.set_cons_succ]
            refine held_take 12 (some 135) (v := .agg (prC 1 i N (.slice sa lm sc))) rfl rfl (by kernel_rfl) (by kernel_rfl) (by kernel_rfl) (fun _ _ _ h => h) (.inl ⟨by kernel_rfl, fun V hV => by first | (go_simp; done) | rfl⟩) S2 ?_
            simp only [Act.put, List.setIfInBounds_toArray, List.set_cons_zero, List.set_cons_succ]
            refine held_take 13 (some 136) (v := .nilIface) rfl rfl (by kernel_rfl) (by kernel_rfl) (by kernel_rfl) (fun _ _ _ h => h) (.inl ⟨by kernel_rfl, fun V hV => by first | (go_simp; done) | rfl⟩) S2 ?_
            simp only [Act.put, List.setIfInBounds_toArray, List.set_cons_zero, List.set_cons_succ]
            refine held_one (i := 15) (by kernel_rfl) ?_
            refine wpOp_wp (o := ⟨none, _, _, _, _, _⟩) rfl (by kernel_rfl) ?_
            refine Go.Proofs.YtcdedkgkingbdaaGreatDoor.hindsightHead.wp_store_whole 93 (.tmp 20) (.tmp 135) rfl g (prC 1 i N (.slice sa lm sc)) (prC 0 0 0 (.slice none 0 0)) (by first | (simp [Act.eval]; done) | rfl) (by first | (simp [Act.eval]; done) | rfl) 93 G3 (by kernel_rfl) rfl (by simp [prC, Value.oneCell']) ?_
            intro w9 G9 t9
            have S9 := S2.turn t9 ⟨hgz, hgn⟩
            have Sg9 := (Sg).turn t9 (fun x hx e => by subst e; exact (Sg).ne G3 (by decide) hx)
            refine ⟨S9, ?_⟩
            simp only [Act.put]
            refine held_take 16 (some 21) (v := .nilIface) rfl rfl (by kernel_rfl) (by kernel_rfl) (by kernel_rfl) (fun _ _ _ h => h) (.inl ⟨by kernel_rfl, fun V hV => by go_simp⟩) S9 ?_
            simp only [Act.put, List.setIfInBounds_toArray, List.set_cons_zero, List.set_cons_succ]
            refine wpAnyH_done (by kernel_rfl) ?_ _
            have P8 := Lib.hid (show He w Z b vb tb k C v gh N R w9 ∧ Has w9 g 93 (prC 1 i N (.slice sa lm sc)) ∧ Seg w9 84 32 (.slice sa lm sc) lm (sumsC l) from ⟨S9, G9, Sg9⟩)
            clear S9 G9 Sg9 hgz hgn t9
            try clear G2
            try clear G3
            try clear S3
            try clear S2
            try clear S1
            try clear S0
            try clear Sg
            try clear b6
            all_goals
              have HPV : Hid (∀ V, He w Z b vb tb k C v gh N R V ∧ Seg V 84 32 (.slice sa lm sc) lm (sumsC l) → Calls Tryz.prog 36 #[.agg (prC 1 i N (.slice sa lm sc)), .string s, .agg (headC 0 (List.replicate 32 0)), .agg (headC N R)] V fun en w' => en = .returned .nilIface ∧ He w Z b vb tb k C v gh N R w') := Lib.hid fun V hV => by
                have hi : inclE s.data.toList i N R l.reverse = 0 := by rw [HLR.out.2, HSL.out.1]; exact incl_path hlt HSL.out.2.1
                refine (proves_leaf (old := List.replicate 32 0) (root := R) HRL.out s i N 0 (.slice sa lm sc) V 0 (fun U hU => ?_)).mono fun en w' h => ?_
                · have hsm : Sms U (.slice sa lm sc) l.reverse := SmS.weak (by
                    refine ⟨?_, fun x hx => ?_⟩
                    · rw [List.length_reverse, List.reverse_reverse, ← HLM.out]
                      exact hV.2.below hU (fun x hx => hV.2.lt hx)
                    · rw [HSL.out.1] at hx
                      exact path_all (leafF_len L) N i 0 x (List.mem_reverse.1 hx))
                  have h1 := incl_calls s i N R HRL.out (by omega) l.reverse sa sc U (hV.1.hd.va.rt.below hU (by have := hV.1.hd.bel.size; omega)).rk (by rw [List.length_reverse, ← HLM.out]; exact hsm) (by have := HSL.out.2.2; omega)
                  rw [hi, List.length_reverse, ← HLM.out] at h1
                  exact h1
                · obtain ⟨v', rfl, he, b'⟩ := h
                  rcases he with ⟨_, rfl⟩ | ⟨h0, _⟩
                  · exact ⟨rfl, hV.1.below b'⟩
                  · exact absurd rfl h0
              go_wp2_with (first
                | ((with_reducible refine at_opg 144 ?_); refine dig.wpList_load_if (by rfl) 93 _ rfl (.pointer (some ⟨g, 0, none⟩)) rfl (run_loadAt_mid _ g 0 93 [.int .i64 1, .int .i64 i, .int .i64 N, .slice sa lm sc] _ (Has.range P8.out.2.1) Tryz.underlying93 rfl (by kernel_rfl)) ?_)
                | ((with_reducible refine at_opg 146 ?_); refine wpList_exec_if (by rfl) (exec_zero_head rfl) ?_)
                | ((with_reducible refine at_opg 147 ?_); refine dig.wpList_load_if (by rfl) 86 _ rfl (.pointer (some ⟨gh, 0, none⟩)) rfl (Has.load_hd P8.out.1.hh HRL.out) ?_)
                | fail)
              refine (HPV.out w9 ⟨P8.out.1, P8.out.2.2⟩).mono ?_
              rintro en w16 ⟨rfl, h16⟩
              have P16 := Lib.hid h16
              clear h16 P8 HPV HLF HSL HLM
              go_wp2_with fail
              refine ⟨⟨i + 1, by rw [Int.natCast_add]; rfl, by omega, by omega, P16⟩, ?_⟩
              show N - ((i : Int) + 1).toNat < N - ((i : Int)).toNat
              omega
          · have hlt2 : ¬ (i : Int) < (N : Int) := by omega
            go_wp2_with fail
            go_ret
            exact ⟨rfl, HS2.out.hd.bel⟩
end Go.Proofs.YtcdedkgkingbdaaGreatDoor.hindsightHead
