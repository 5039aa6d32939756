/- AuditFinds: for every list of texts, number and list of places the law answers true, and its arguments read afterwards as they did. Conditions: the row lists four package-level variables (digest's table of rounds, both tables of math/bits, errors' handle of the type error), which the card ties to the program's starting state. -/
import Derived.Test.YtdoadmkaoboncaaGreatDoorZ003
import Derived.Test.YtdoadmkaoboncaaGreatDoorZ004
import Derived.Test.YtdoadmkaoboncaaGreatDoorZ001
import Derived.Test.YtdoadmkaoboncaaGreatDoorZ005
import Derived.Test.YtdoadmkaoboncaaGreatDoorCards
import Derived.Test.YtdoadmkaoboncaaGreatDoorTie
import Derived.ProofKit
import Derived.OpenShut
import Derived.SevenTiedAt
namespace Go.Proofs.YtdoadmkaoboncaaGreatDoor.auditFinds
open Go Go.ChangeShapes Go.WideShapes Go.ChangeAt Go.RowKit Go.Proofs.YtdoadmkaoboncaaGreatDoor.dig Go.Proofs.YtdoadmkaoboncaaGreatDoor.prn Go.Proofs.YtdoadmkaoboncaaGreatDoor.prf Go.Proofs.YtdoadmkaoboncaaGreatDoor.aud

def Arg0 (w : World) (a : Option Addr) (len cap : Nat) : Prop := ∃ T, ArgS w a len cap T
theorem opened0 {H : Type} {enc : TypeId × Value → H} {w : World} {spare : Nat → Bool} {held : Bool} {a : Option Addr} {len cap : Nat} {d : DataW H} {p : List MemPlace} (h : DataW.Trod enc Tryz.prog w 0 spare held 22 (.slice a len cap) d p) : Arg0 w a len cap := openedStrs h
def Arg2 (w : World) (a : Option Addr) (len cap : Nat) : Prop := ∃ T, ArgI w a len cap T
theorem opened2 {H : Type} {enc : TypeId × Value → H} {w : World} {spare : Nat → Bool} {held : Bool} {a : Option Addr} {len cap : Nat} {d : DataW H} {p : List MemPlace} (h : DataW.Trod enc Tryz.prog w 0 spare held 53 (.slice a len cap) d p) : Arg2 w a len cap := openedI h

theorem run_neq_head_same (n : Int) (xs : List UInt8) (hx : xs.length = 32) (w : World) :
    (binOp .neq 41 (.agg (headC n xs)) (.agg (headC n xs))).run Tryz.prog w = .ok (.bool false) w := by
  rw [run_neq_struct, run_equalIn_head 9997 n n xs xs hx hx]
  simp

/-- The heads that were told: over these numbers. -/
def hsL (L : List ByteArray) (P : List Nat) : List (Int × List UInt8) := P.map (fun k : Nat => ((k : Int), rtAll (leafF L) k))
theorem hsL_len (L : List ByteArray) (P : List Nat) : (hsL L P).length = P.length := by simp [hsL]
theorem hsL_snoc (L : List ByteArray) (P : List Nat) (k : Nat) : hsL L P ++ [((k : Int), rtAll (leafF L) k)] = hsL L (P ++ [k]) := by simp [hsL]
theorem hsL_at {L : List ByteArray} {P : List Nat} {j k : Nat} (h : P[j]? = some k) : numAt (hsL L P) j = k ∧ rootAt (hsL L P) j = rtAll (leafF L) k := by
  unfold numAt rootAt hsL
  rw [List.getD_eq_getElem?_getD, List.getElem?_map, h]
  exact ⟨rfl, rfl⟩
def lastZ (P : List Nat) : Int := match P.getLast? with | none => -1 | some p => p
theorem lastZ_snoc (P : List Nat) (k : Nat) : lastZ (P ++ [k]) = k := by simp [lastZ]
def Rises (P : List Nat) (K : Nat) : Prop := P.Pairwise (· ≤ ·) ∧ ∀ p ∈ P, p ≤ K
theorem Rises.snoc {P : List Nat} {K k : Nat} (h : Rises P K) (hk : k ≤ K) (hl : lastZ P ≤ k) : Rises (P ++ [k]) K := by
  refine ⟨List.pairwise_append.2 ⟨h.1, List.pairwise_singleton _ _, fun a ha b hb => ?_⟩, fun p hp => ?_⟩
  · rw [List.mem_singleton.1 hb]
    rcases List.eq_nil_or_concat P with rfl | ⟨Q, q, rfl⟩
    · cases ha
    · rw [List.concat_eq_append] at *
      rw [lastZ_snoc] at hl
      rcases List.mem_append.1 ha with h1 | h1
      · have := (List.pairwise_append.1 h.1).2.2 a h1 q (by simp)
        omega
      · rw [List.mem_singleton.1 h1]; omega
  · rcases List.mem_append.1 hp with h1 | h1
    · exact h.2 p h1
    · rw [List.mem_singleton.1 h1]; exact hk

/-- What lasts from round to round. -/
structure Fs (w : World) (B0 vb gd : Nat) (a : Option Addr) (c k : Nat) (L : List ByteArray) (P : List Nat) (v : Value) (V : World) : Prop where
  va : ∃ F, Va B0 F V vb L 0 ∧ ∀ j, F j → j < gd
  d : Has V gd 29 #[.slice a k c, .int .i64 0]
  lo : Lo V (gd + 1) v (hsL L P)
  nv : ∀ x, v.ownBlock = some x → gd + 1 < x
  bel : Below w.heap.size w V
  wg : w.heap.size ≤ gd ∧ B0 ≤ gd
  pw : Pw w
section
variable {w : World} {B0 vb gd : Nat} {a : Option Addr} {c k : Nat} {L : List ByteArray} {P : List Nat} {v : Value} {V V' : World}
theorem Fs.below (h : Fs w B0 vb gd a c k L P v V) (b : Below V.heap.size V V') : Fs w B0 vb gd a c k L P v V' :=
  ⟨by obtain ⟨F, h1, h2⟩ := h.va; exact ⟨F, h1.below b, h2⟩, h.d.below b h.d.lt, h.lo.below b, h.nv, h.bel.trans (b.mono h.bel.size), h.wg, h.pw⟩
theorem Fs.pwV (h : Fs w B0 vb gd a c k L P v V) : Pw V := h.pw.below h.bel
theorem Fs.added {kk : Nat} {V0 : World} {en : Ending} (h : Fs w B0 vb gd a c k L P v V) (b0 : AddPost V (gd + 1) v (hsL L P) kk (rtAll (leafF L) kk) en V0) : en = .returned .nilIface ∧ ∃ v', Fs w B0 vb gd a c k L (P ++ [kk]) v' V0 := by
  obtain ⟨rfl, v', lo, nv, t⟩ := b0
  have lt : gd + 1 < V.heap.size := h.lo.own.lt
  have hG : ∀ j, j = gd + 1 ∨ v.ownBlock = some j → gd < j := fun j hj => by
    rcases hj with rfl | e
    · omega
    · have := h.nv j e; omega
  have bw : Below w.heap.size w V0 := h.bel.trans (t.below h.bel.size (fun j hj e => by have := hG j e; have := h.wg.1; omega))
  have bg : Below (gd + 1) V V0 := t.below (by omega) (fun j hj e => by have := hG j e; omega)
  refine ⟨rfl, v', ⟨?_, h.d.turn t (fun e => by have := hG gd e; omega), by rw [← hsL_snoc]; exact lo, fun x hx => ?_, bw, h.wg, h.pw⟩⟩
  · obtain ⟨F, h1, h2⟩ := h.va
    exact ⟨F, h1.turn t (fun j hj _ e => by have := hG j e; have := h2 j hj; omega) (fun j e => by have := hG j e; have := h.wg.2; omega), h2⟩
  · rcases nv x hx with e | e
    · exact h.nv x e
    · omega
theorem Fs.find {Q : List Nat} {q : Nat} (h : Fs w B0 vb gd a c k L (Q ++ [q]) v V) (hr : Rises (Q ++ [q]) k) (hl : Q.length ≤ 100) :
    Calls Tryz.prog 19 #[.pointer (some ⟨gd + 1, 0, none⟩), .int .i64 q] V fun en w' => en = .returned (.tuple #[.agg (headC q (rtAll (leafF L) q)), .nilIface]) ∧ Below V.heap.size V w' := by
  have hlen : (hsL L (Q ++ [q])).length = Q.length + 1 := by simp [hsL]
  obtain ⟨g, off, cc, _, lg⟩ := h.lo.lg (by omega)
  have hat : ∀ j, j < Q.length + 1 → ∃ x, (Q ++ [q])[j]? = some x ∧ numAt (hsL L (Q ++ [q])) j = x := fun j hj => by
    have e : (Q ++ [q])[j]? = some ((Q ++ [q])[j]'(by simp; omega)) := List.getElem?_eq_getElem _
    exact ⟨_, e, (hsL_at e).1⟩
  have hq : (Q ++ [q])[Q.length]? = some q := by simp
  have h1 := find_ok (gd + 1) g off _ cc _ _ (rootAt_len h.lo.len) Q.length (by omega) (by omega) (fun j m hjm hm => by
    obtain ⟨x, hx, ex⟩ := hat j (by omega)
    obtain ⟨y, hy, ey⟩ := hat m (by omega)
    rw [ex, ey]
    rcases Nat.lt_or_ge j m with hlt | hge
    · obtain ⟨hj', hx'⟩ := List.getElem?_eq_some_iff.1 hx
      obtain ⟨hm', hy'⟩ := List.getElem?_eq_some_iff.1 hy
      have := List.pairwise_iff_getElem.1 hr.1 j m hj' hm' hlt
      rw [hx', hy'] at this
      omega
    · obtain rfl : j = m := by omega
      rw [hx] at hy
      injection hy with hy
      omega) (fun j h2 h3 => by omega) V lg
  rw [(hsL_at hq).1, (hsL_at hq).2] at h1
  exact h1
theorem Fs.head (h : Fs w B0 vb gd a c k L P v V) (hk : L.length = k) (hk2 : k ≤ 16) {q : Nat} (hq : q ≤ k) :
    Calls Tryz.prog 15 #[.pointer (some ⟨vb, 0, none⟩), .int .i64 q] V fun en w' => en = .returned (.tuple #[.agg (headC q (rtAll (leafF L) q)), .nilIface]) ∧ Below V.heap.size V w' := by
  obtain ⟨F, va, _⟩ := h.va
  exact va.head (by omega) q (Nat.zero_le _) (by omega)
theorem Rises.last {Q : List Nat} {q K : Nat} (h : Rises (Q ++ [q]) K) : q ≤ K := h.2 q (by simp)
end

set_option maxRecDepth 100000 in
set_option maxHeartbeats 8000000 in
theorem walk (a : Option Addr) (len cap : Nat) (n : Int) (ai : Option Addr) (li ci : Nat) (w : World) (hA : Arg0 w a len cap) (_hn : (Lit.int .i64 n).wf = true) (hI : Arg2 w ai li ci) (hP : Pw w) :
    Calls Tryz.prog 4 #[.slice a len cap, .int .i64 n, .slice ai li ci] w fun en w' => en = .returned (.bool true) ∧ Below w.heap.size w w' := by
  obtain ⟨T, hT⟩ := hA
  obtain ⟨TI, hTI⟩ := hI
  obtain ⟨k, hk⟩ : ∃ k : Nat, (k : Int) = min (max n 0) 16 := ⟨(min (max n 0) 16).toNat, by omega⟩
  have hk16 : k ≤ 16 := by omega
  have HK := Lib.hid hk
  have HK16 := Lib.hid hk16
  have HT := Lib.hid (show _ ∧ _ ∧ _ from ⟨hT, hP, hTI⟩)
  clear hT hP hTI hk hk16
  go_enter Tryz.func4, Tryz.ntmps4
  go_wp2_with fail
  refine (awake_calls w HT.out.2.1.rt).mono ?_
  rintro en w1 ⟨rfl, b1⟩
  have R1 : Hid (Rt w1.heap.size w1 ∧ Below w.heap.size w w1 ∧ ArgS w1 a len cap T) := Lib.hid ⟨(HT.out.2.1.below b1).rt, b1, HT.out.1.1, HT.out.1.2.1, fun k hk => by
    obtain ⟨gb, go, h1, h2, h3, h4⟩ := HT.out.1.2.2 k hk
    exact ⟨gb, go, h1, Nat.lt_of_lt_of_le h2 b1.size, by rw [← h3]; unfold World.cell?; rw [b1.block gb h2], h4⟩⟩
  clear b1
  go_wp2_with fail
  refine (made_calls a len cap T n 0 w1 R1.out.2.2 R1.out.1 k 0 HK.out (by omega)).mono ?_
  rintro en w2 ⟨vb, a0, c, L, rfl, va2, st2, hL, b2⟩
  have HL := Lib.hid hL
  have R2 : Hid (Va w1.heap.size (fun j => w1.heap.size ≤ j ∧ j < w2.heap.size) w2 vb L 0 ∧ Below w.heap.size w w2 ∧ w1.heap.size ≤ w2.heap.size) := Lib.hid ⟨va2, R1.out.2.1.trans (b2.mono R1.out.2.1.size), b2.size⟩
  clear va2 st2 b2 hL
  obtain ⟨B0, hB0⟩ : ∃ B0, B0 = w1.heap.size := ⟨_, rfl⟩
  obtain ⟨gd, hgd⟩ : ∃ gd, gd = w2.heap.size := ⟨_, rfl⟩
  have HG := Lib.hid (show _ ∧ _ from ⟨hB0, hgd⟩)
  clear hB0 hgd
  go_wp2_with fail
  refine wp_held_name (fun W3 hW3 => ?_)
  have R3 : Hid (Fs w B0 vb gd a0 c k L [] (.slice none 0 0) W3) := by
    have h1 := R2.out.1
    have bb : Below w2.heap.size w2 W3 := by rw [← hW3]; exact ((Below.refl _ _).alloc (Nat.le_refl _) _).alloc (by simp) _
    refine Lib.hid ⟨⟨_, by rw [HG.out.1]; exact h1.below bb, fun j hj => by rw [HG.out.2]; exact hj.2⟩, by rw [← hW3, HG.out.2]; exact (made_at _ _ rfl).alloc _, ⟨by rw [← hW3, HG.out.2]; exact made_at _ _ (by simp), (show Seg W3 41 33 (.slice none 0 0) 0 [] from Seg.nil _ _ _), fun h hh => by cases hh⟩, fun x hx => (by cases hx), R2.out.2.1.trans (bb.mono R2.out.2.1.size), ⟨by rw [HG.out.2]; exact R2.out.2.1.size, by rw [HG.out.1, HG.out.2]; exact R2.out.2.2⟩, HT.out.2.1⟩
  rw [← HG.out.2]
  clear hW3 R2 R1 HG
  go_loopw [10, 11, 12] (fun x y z wr => ∃ (P : List Nat) (la : Int) (np i : Nat) (v : Value), x = .int .i64 la ∧ y = .int .i64 np ∧ z = .int .i64 i ∧ i ≤ 10 ∧ Hid (Fs w B0 vb gd a0 c k L P v wr ∧ la = lastZ P ∧ np = P.length ∧ np ≤ i ∧ Rises P k ∧ (P = [] → i = 0))) (fun _ _ z _ => 10 - (intOf z).toNat)
  case atStart => exact ⟨[], -1, 0, 0, _, rfl, rfl, rfl, Nat.zero_le _, Lib.hid ⟨R3.out, rfl, rfl, Nat.le_refl _, ⟨List.Pairwise.nil, fun p hp => (by cases hp)⟩, fun _ => rfl⟩⟩
  case round =>
    obtain ⟨P, la, np, i, v, rfl, rfl, rfl, hi10, HF⟩ := hrel
    clear R3
    have XIT : Hid (∀ V, Fs w B0 vb gd a0 c k L P v V → Calls Tryz.prog 20 #[.pointer (some ⟨gd + 1, 0, none⟩)] V fun en w' => ∃ a c, en = .returned (.slice a np c) ∧ Below w.heap.size w w') := Lib.hid fun V hV => by
      have h := heads_calls (gd + 1) v (hsL L P) (by rw [hsL_len]; have := HF.out; omega) V hV.lo
      rw [hsL_len, ← HF.out.2.2.1] at h
      exact h.mono fun en w' ⟨x, y, e, b⟩ => ⟨x, y, e, hV.bel.trans (b.mono hV.bel.size)⟩
    have hnn : ((np : Int) == (np : Int)) = true := by simp
    by_cases h1 : i < li ∧ i < 10
    · obtain ⟨h1, h2⟩ := h1
      have h1i : (i : Int) < (li : Int) := by omega
      have h2i : (i : Int) < 10 := by omega
      obtain ⟨gb, go, rfl, hgb, hcell, hlo, hhi⟩ := HT.out.2.2.2.2 i h1
      have e1 : wr.cell? ⟨gb, go + i, none⟩ = some (.int .i64 (TI i)) := by rw [← hcell]; unfold World.cell?; rw [HF.out.1.bel.block gb hgb]
      obtain ⟨x, hx⟩ : ∃ x, x = TI i := ⟨_, rfl⟩
      rw [← hx] at e1 hlo hhi
      obtain ⟨y, hy⟩ : ∃ y : Int, max x 0 = y := ⟨_, rfl⟩
      obtain ⟨kk, hkk⟩ : ∃ kk : Nat, min y (k : Int) = (kk : Int) := ⟨(min y (k : Int)).toNat, by omega⟩
      have HKK : Hid (kk ≤ k) := Lib.hid (by omega)
      have e2 : wr.cell? ⟨gd, 0, none⟩ = some (.slice a0 k c) := HF.out.1.d.cell 0
      have i0 : (0 : Int) ≤ (i : Int) := by omega
      have hq1 : (if (0 : Int) > x then 0 else x) = y := by rw [← hy]; split <;> omega
      have hq2 : (if (k : Int) < y then (k : Int) else y) = (kk : Int) := by rw [← hkk]; split <;> omega
      clear hcell hgb hx hlo hhi XIT
      go_wp2_with fail
      go_quiet (fail)
      rename_i nq
      obtain ⟨V1, hV1⟩ : ∃ V, V = wr.drewN nq := ⟨_, rfl⟩
      have F1 : Hid (Fs w B0 vb gd a0 c k L P v V1) := Lib.hid (by rw [hV1]; exact HF.out.1.below (below_drewN (Below.refl _ _) nq))
      rw [← hV1]
      obtain ⟨R, hR⟩ : ∃ R, R = rtAll (leafF L) kk := ⟨_, rfl⟩
      have RL : Hid (R.length = 32) := Lib.hid (by rw [hR]; exact rtAll_len (leafF_len L) kk)
      have HR := Lib.hid hR
      have hc1 : Hid (Calls Tryz.prog 15 #[.pointer (some ⟨vb, 0, none⟩), .int .i64 kk] V1 fun en w' => en = .returned (.tuple #[.agg (headC kk R), .nilIface]) ∧ Below V1.heap.size V1 w') := Lib.hid (by rw [hR]; exact F1.out.head HL.out HK16.out HKK.out)
      have hnp : np ≤ 10 := by have := HF.out.2.2.2.1; omega
      have hneq := fun (V : World) => run_neq_head_same kk R RL.out V
      clear hV1 e1 e2 i0 hq1 hq2 hy hkk hR h1i h2i hnn
      rcases List.eq_nil_or_concat P with hP0 | ⟨Q, q, hPq⟩
      · have hla : la = -1 := by rw [HF.out.2.1, hP0]; rfl
        have HP0 := Lib.hid hP0
        have hge : (kk : Int) ≥ -1 := by omega
        subst hla
        clear hP0
        go_wp2_with fail
        refine hc1.out.mono ?_
        rintro en V2 ⟨rfl, b2⟩
        have F2 := Lib.hid (F1.out.below b2)
        clear b2 F1 hc1
        go_wp2_with (first
          | ((with_reducible refine at_store (.tmp 14) ?_); refine wpList_store_head (o := ⟨none, _, _, _, _, _⟩) rfl (.tmp 14) (.tmp 55) rfl V2.heap.size kk 0 R (List.replicate 32 0) rfl rfl (made_at _ _ rfl) RL.out (by simp) ?_; intro Wb HWb TWb;
             (have F3 : Hid (Fs w B0 vb gd a0 c k L P v Wb ∧ Has Wb V2.heap.size 41 (headC kk R)) := (by
               have bb : Below V2.heap.size V2 Wb := ((Below.refl _ _).alloc (Nat.le_refl _) _).trans (TWb.below (by simp) (fun j hj e => by omega))
               exact Lib.hid ⟨F2.out.below bb, HWb⟩));
             have hlh : (Instr.loadAt 41 (.pointer (some ⟨V2.heap.size, 0, none⟩))).run Tryz.prog Wb = .ok (.agg (headC kk R)) Wb := prf.Has.load_hd F3.out.2 RL.out;
             clear HWb TWb F2)
          | ((with_reducible refine at_op 75 ?_); refine wpList_load_if (o := ⟨some 75, _, _, _, _, _⟩) (by kernel_rfl) 41 (.tmp 14) rfl (.pointer (some ⟨V2.heap.size, 0, none⟩)) rfl hlh ?_)
          | fail)
        have F5 := Lib.hid F3.out.1
        clear F3
        refine ((by have h := F5.out.lo; rw [HP0.out] at h ⊢; exact add_first (gd + 1) v kk R RL.out (.slice none 0 0) Wb h : Calls Tryz.prog 17 #[.pointer (some ⟨gd + 1, 0, none⟩), .agg (headC kk R), .slice none 0 0] Wb (AddPost Wb (gd + 1) v (hsL L P) kk R))).mono ?_
        rintro en V7 hpost
        rw [HR.out] at hpost
        obtain ⟨rfl, v', hf7⟩ := F5.out.added hpost
        have F7 := Lib.hid hf7
        have HRI : Hid (Rises (P ++ [kk]) k) := Lib.hid (HF.out.2.2.2.2.1.snoc HKK.out (by rw [← HF.out.2.1]; omega))
        have HRQ : Hid (rtAll (leafF L) kk = R) := Lib.hid HR.out.symm
        have RLQ := RL
        have HQ9 := HKK
        clear hf7 hpost hlh
        go_wp2_with fail
        refine (F7.out.find HRI.out (by have := HF.out; omega)).mono ?_
        rintro en V8 ⟨rfl, b8⟩
        have F8 := Lib.hid (F7.out.below b8)
        clear b8
        rw [HRQ.out]
        go_wp2_with (first
          | ((with_reducible refine at_store (.tmp 20) ?_); refine wpList_store_head (o := ⟨none, _, _, _, _, _⟩) rfl (.tmp 20) (.tmp 101) rfl V8.heap.size kk 0 R (List.replicate 32 0) rfl rfl (made_at _ _ rfl) RLQ.out (by simp) ?_; intro Wc HWc TWc;
             (have F9 : Hid (Fs w B0 vb gd a0 c k L (P ++ [kk]) v' Wc ∧ Has Wc V8.heap.size 41 (headC kk R)) := (by
               have bb : Below V8.heap.size V8 Wc := ((Below.refl _ _).alloc (Nat.le_refl _) _).trans (TWc.below (by simp) (fun j hj e => by omega))
               exact Lib.hid ⟨F8.out.below bb, HWc⟩));
             clear HWc TWc F8)
          | fail)
        refine (F9.out.1.head HL.out HK16.out HQ9.out).mono ?_
        rintro en V10 ⟨rfl, b10⟩
        have F10 := Lib.hid (show _ ∧ _ from ⟨F9.out.1.below b10, F9.out.2.below b10 F9.out.2.lt⟩)
        clear b10 F9
        rw [HRQ.out]
        go_wp2_with (first
          | ((with_reducible refine at_store (.tmp 22) ?_); refine wpList_store_head (o := ⟨none, _, _, _, _, _⟩) rfl (.tmp 22) (.tmp 107) rfl V10.heap.size kk 0 R (List.replicate 32 0) rfl rfl (made_at _ _ rfl) RLQ.out (by simp) ?_; intro Wd HWd TWd;
             (have F11 : Hid (Fs w B0 vb gd a0 c k L (P ++ [kk]) v' Wd) := (by
               have bb : Below V10.heap.size V10 Wd := ((Below.refl _ _).alloc (Nat.le_refl _) _).trans (TWd.below (by simp) (fun j hj e => by omega))
               exact Lib.hid (F10.out.1.below bb)));
             have hl1 : (Instr.loadAt 41 (.pointer (some ⟨V8.heap.size, 0, none⟩))).run Tryz.prog Wd = .ok (.agg (headC kk R)) Wd := prf.Has.load_hd (F10.out.2.below (((Below.refl _ _).alloc (Nat.le_refl _) _).trans (TWd.below (by simp) (fun j hj e => by omega))) F10.out.2.lt) RLQ.out;
             have hl2 : (Instr.loadAt 41 (.pointer (some ⟨V10.heap.size, 0, none⟩))).run Tryz.prog Wd = .ok (.agg (headC kk R)) Wd := prf.Has.load_hd HWd RLQ.out;
             clear HWd TWd F10)
          | ((with_reducible refine at_opg 112 ?_); refine wpList_load_if (o := ⟨some 112, _, _, _, _, _⟩) (by kernel_rfl) 41 (.tmp 20) rfl (.pointer (some ⟨V8.heap.size, 0, none⟩)) rfl hl1 ?_)
          | ((with_reducible refine at_opg 113 ?_); refine wpList_load_if (o := ⟨some 113, _, _, _, _, _⟩) (by kernel_rfl) 41 (.tmp 22) rfl (.pointer (some ⟨V10.heap.size, 0, none⟩)) rfl hl2 ?_)
          | fail)
        refine ⟨⟨_, (kk : Int), np + 1, i + 1, v', rfl, by rw [Int.natCast_add]; rfl, by rw [Int.natCast_add]; rfl, by omega, Lib.hid ⟨F11.out, (lastZ_snoc P kk).symm, by rw [List.length_append, HF.out.2.2.1]; rfl, by have := HF.out.2.2.2.1; omega, HRI.out, fun e => absurd e (by simp)⟩⟩, ?_⟩
        show 10 - ((i : Int) + 1).toNat < 10 - ((i : Int)).toNat
        omega
      · rw [List.concat_eq_append] at hPq
        have HPQ := Lib.hid hPq
        obtain rfl : la = (q : Int) := by rw [HF.out.2.1, hPq]; exact lastZ_snoc Q q
        have hq0 : (q : Int) ≥ 0 := by omega
        have HQK : Hid (q ≤ k) := Lib.hid (by have := HF.out.2.2.2.2.1; rw [hPq] at this; exact this.last)
        clear hPq
        by_cases hge : kk ≥ q
        · have hge1 : (kk : Int) ≥ (q : Int) := by omega
          have HGE := Lib.hid hge
          clear hge
          go_wp2_with fail
          refine hc1.out.mono ?_
          rintro en V2 ⟨rfl, b2⟩
          have F2 := Lib.hid (F1.out.below b2)
          clear b2 F1 hc1
          go_wp2_with (first
            | ((with_reducible refine at_store (.tmp 14) ?_); refine wpList_store_head (o := ⟨none, _, _, _, _, _⟩) rfl (.tmp 14) (.tmp 55) rfl V2.heap.size kk 0 R (List.replicate 32 0) rfl rfl (made_at _ _ rfl) RL.out (by simp) ?_; intro Wb HWb TWb;
               (have F3 : Hid (Fs w B0 vb gd a0 c k L P v Wb ∧ Has Wb V2.heap.size 41 (headC kk R)) := (by
                 have bb : Below V2.heap.size V2 Wb := ((Below.refl _ _).alloc (Nat.le_refl _) _).trans (TWb.below (by simp) (fun j hj e => by omega))
                 exact Lib.hid ⟨F2.out.below bb, HWb⟩));
               have hlh : (Instr.loadAt 41 (.pointer (some ⟨V2.heap.size, 0, none⟩))).run Tryz.prog Wb = .ok (.agg (headC kk R)) Wb := prf.Has.load_hd F3.out.2 RL.out;
               clear HWb TWb F2)
            | fail)
          clear hlh
          obtain ⟨l, hl⟩ : ∃ l, l = stepsL L q kk := ⟨_, rfl⟩
          have HLS := Lib.hid hl
          have hc2 : Hid (Calls Tryz.prog 16 #[.pointer (some ⟨vb, 0, none⟩), .int .i64 q, .int .i64 kk] Wb (ProofPost Wb 2 q kk l)) := Lib.hid (by
            obtain ⟨F, va, _⟩ := F3.out.1.va
            rw [hl]
            exact va.pfx (by have := HL.out; have := HK16.out; omega) q kk (by have := HKK.out; have := HL.out; omega) HGE.out (Nat.zero_le _))
          clear hl
          refine hc2.out.mono ?_
          rintro en V4 ⟨a4, c4, rfl, s4, o4, b4⟩
          obtain ⟨ll, hll⟩ : ∃ ll, ll = l.length := ⟨_, rfl⟩
          rw [← hll] at s4 ⊢
          have HLL := Lib.hid hll
          have F4 : Hid (Fs w B0 vb gd a0 c k L P v V4 ∧ Seg V4 38 32 (.slice a4 ll c4) ll (sumsC l) ∧ Has V4 V2.heap.size 41 (headC kk R)) := Lib.hid ⟨F3.out.1.below b4, s4, F3.out.2.below b4 F3.out.2.lt⟩
          clear hll s4 o4 b4 F3 hc2
          go_wp2_with (first
            | ((with_reducible refine at_store (.tmp 17) ?_); refine wpList_store_cells (o := ⟨none, _, _, _, _, _⟩) rfl 25 (.tmp 17) (.tmp 69) rfl V4.heap.size (prC 2 q kk (.slice a4 ll c4)) (prC 0 0 0 (.slice none 0 0)) rfl rfl _ (made_at _ _ rfl) (by kernel_rfl) rfl (by simp [prC, Value.oneCell']) ?_; intro W5 HW5 TW5;
               (have F6 : Hid (Fs w B0 vb gd a0 c k L P v W5 ∧ Seg W5 38 32 (.slice a4 ll c4) ll (sumsC l)) := (by
                 have bb : Below V4.heap.size V4 W5 := ((Below.refl _ _).alloc (Nat.le_refl _) _).trans (TW5.below (by simp) (fun j hj e => by omega))
                 exact Lib.hid ⟨F4.out.1.below bb, F4.out.2.1.below bb (fun x hx => F4.out.2.1.lt hx)⟩));
               have hlh : (Instr.loadAt 41 (.pointer (some ⟨V2.heap.size, 0, none⟩))).run Tryz.prog W5 = .ok (.agg (headC kk R)) W5 := prf.Has.load_hd (F4.out.2.2.below (((Below.refl _ _).alloc (Nat.le_refl _) _).trans (TW5.below (by simp) (fun j hj e => by omega))) F4.out.2.2.lt) RL.out;
               have q3 : W5.cell? ⟨V4.heap.size, 3, none⟩ = some (.slice a4 ll c4) := HW5.cell 3;
               clear HW5 TW5 F4)
            | ((with_reducible refine at_op 75 ?_); refine wpList_load_if (o := ⟨some 75, _, _, _, _, _⟩) (by kernel_rfl) 41 (.tmp 14) rfl (.pointer (some ⟨V2.heap.size, 0, none⟩)) rfl hlh ?_)
            | fail)
          have F5 := Lib.hid F6.out.1
          have HAD : Hid (Calls Tryz.prog 17 #[.pointer (some ⟨gd + 1, 0, none⟩), .agg (headC kk R), .slice a4 ll c4] W5 (AddPost W5 (gd + 1) v (hsL L P) kk R)) := Lib.hid (by
            have hj : P[Q.length]? = some q := by rw [HPQ.out]; simp
            have hpl : P.length = Q.length + 1 := by rw [HPQ.out]; simp
            refine (add_next (gd + 1) v (hsL L P) Q.length (by rw [hsL_len, hpl]) (by rw [hsL_len]; have := HF.out.2.2.1; omega) kk R RL.out (.slice a4 ll c4) q 0 W5 F5.out.lo (fun V hV => ?_)).mono (fun en w' h => h.elim (fun h => h.2) (fun h => absurd rfl h.1))
            rw [(hsL_at hj).1, (hsL_at hj).2]
            have b : Below W5.heap.size W5 V := hV.bel
            have hE : consE q (rtAll (leafF L) q) kk R l.reverse = 0 := by
              unfold consE
              rw [if_neg (by have := HGE.out; omega), Int.toNat_natCast, Int.toNat_natCast, HLS.out, HR.out, if_pos (elder_steps HGE.out)]
            have h := cons_calls (rtAll_len (leafF_len L) q) RL.out q kk (by have := HKK.out; have := HK16.out; omega) l.reverse a4 c4 V ((F5.out.below b).pwV.rt.rk) (by
              rw [List.length_reverse, ← HLL.out]
              refine SmS.weak ⟨?_, fun x hx => ?_⟩
              · rw [List.length_reverse, List.reverse_reverse, ← HLL.out]
                exact F6.out.2.below b (fun x hx => F6.out.2.lt hx)
              · exact stepsL_all L q kk HGE.out x (by rw [← HLS.out]; exact List.mem_reverse.1 hx))
            rw [List.length_reverse, ← HLL.out, hE] at h
            exact h)
          clear F6 q3
          refine (HAD.out).mono ?_
          rintro en V7 hpost
          rw [HR.out] at hpost
          obtain ⟨rfl, v', hf7⟩ := F5.out.added hpost
          have F7 := Lib.hid hf7
          have HRI : Hid (Rises (P ++ [kk]) k) := Lib.hid (HF.out.2.2.2.2.1.snoc HKK.out (by rw [← HF.out.2.1]; omega))
          have HRQ : Hid (rtAll (leafF L) kk = R) := Lib.hid HR.out.symm
          have RLQ := RL
          have HQ9 := HKK
          clear hf7 hpost hlh
          go_wp2_with fail
          refine (F7.out.find HRI.out (by have := HF.out; omega)).mono ?_
          rintro en V8 ⟨rfl, b8⟩
          have F8 := Lib.hid (F7.out.below b8)
          clear b8
          rw [HRQ.out]
          go_wp2_with (first
            | ((with_reducible refine at_store (.tmp 20) ?_); refine wpList_store_head (o := ⟨none, _, _, _, _, _⟩) rfl (.tmp 20) (.tmp 101) rfl V8.heap.size kk 0 R (List.replicate 32 0) rfl rfl (made_at _ _ rfl) RLQ.out (by simp) ?_; intro Wc HWc TWc;
               (have F9 : Hid (Fs w B0 vb gd a0 c k L (P ++ [kk]) v' Wc ∧ Has Wc V8.heap.size 41 (headC kk R)) := (by
                 have bb : Below V8.heap.size V8 Wc := ((Below.refl _ _).alloc (Nat.le_refl _) _).trans (TWc.below (by simp) (fun j hj e => by omega))
                 exact Lib.hid ⟨F8.out.below bb, HWc⟩));
               clear HWc TWc F8)
            | fail)
          refine (F9.out.1.head HL.out HK16.out HQ9.out).mono ?_
          rintro en V10 ⟨rfl, b10⟩
          have F10 := Lib.hid (show _ ∧ _ from ⟨F9.out.1.below b10, F9.out.2.below b10 F9.out.2.lt⟩)
          clear b10 F9
          rw [HRQ.out]
          go_wp2_with (first
            | ((with_reducible refine at_store (.tmp 22) ?_); refine wpList_store_head (o := ⟨none, _, _, _, _, _⟩) rfl (.tmp 22) (.tmp 107) rfl V10.heap.size kk 0 R (List.replicate 32 0) rfl rfl (made_at _ _ rfl) RLQ.out (by simp) ?_; intro Wd HWd TWd;
               (have F11 : Hid (Fs w B0 vb gd a0 c k L (P ++ [kk]) v' Wd) := (by
                 have bb : Below V10.heap.size V10 Wd := ((Below.refl _ _).alloc (Nat.le_refl _) _).trans (TWd.below (by simp) (fun j hj e => by omega))
                 exact Lib.hid (F10.out.1.below bb)));
               have hl1 : (Instr.loadAt 41 (.pointer (some ⟨V8.heap.size, 0, none⟩))).run Tryz.prog Wd = .ok (.agg (headC kk R)) Wd := prf.Has.load_hd (F10.out.2.below (((Below.refl _ _).alloc (Nat.le_refl _) _).trans (TWd.below (by simp) (fun j hj e => by omega))) F10.out.2.lt) RLQ.out;
               have hl2 : (Instr.loadAt 41 (.pointer (some ⟨V10.heap.size, 0, none⟩))).run Tryz.prog Wd = .ok (.agg (headC kk R)) Wd := prf.Has.load_hd HWd RLQ.out;
               clear HWd TWd F10)
            | ((with_reducible refine at_opg 112 ?_); refine wpList_load_if (o := ⟨some 112, _, _, _, _, _⟩) (by kernel_rfl) 41 (.tmp 20) rfl (.pointer (some ⟨V8.heap.size, 0, none⟩)) rfl hl1 ?_)
            | ((with_reducible refine at_opg 113 ?_); refine wpList_load_if (o := ⟨some 113, _, _, _, _, _⟩) (by kernel_rfl) 41 (.tmp 22) rfl (.pointer (some ⟨V10.heap.size, 0, none⟩)) rfl hl2 ?_)
            | fail)
          refine ⟨⟨_, (kk : Int), np + 1, i + 1, v', rfl, by rw [Int.natCast_add]; rfl, by rw [Int.natCast_add]; rfl, by omega, Lib.hid ⟨F11.out, (lastZ_snoc P kk).symm, by rw [List.length_append, HF.out.2.2.1]; rfl, by have := HF.out.2.2.2.1; omega, HRI.out, fun e => absurd e (by simp)⟩⟩, ?_⟩
          show 10 - ((i : Int) + 1).toNat < 10 - ((i : Int)).toNat
          omega
        · have hge1 : ¬ (kk : Int) ≥ (q : Int) := by omega
          have HGE := Lib.hid hge
          clear hge
          go_wp2_with fail
          refine hc1.out.mono ?_
          rintro en V2 ⟨rfl, b2⟩
          have F2 := Lib.hid (F1.out.below b2)
          clear b2 F1 hc1
          go_wp2_with (first
            | ((with_reducible refine at_store (.tmp 14) ?_); refine wpList_store_head (o := ⟨none, _, _, _, _, _⟩) rfl (.tmp 14) (.tmp 55) rfl V2.heap.size kk 0 R (List.replicate 32 0) rfl rfl (made_at _ _ rfl) RL.out (by simp) ?_; intro Wb HWb TWb;
               (have F3 : Hid (Fs w B0 vb gd a0 c k L P v Wb ∧ Has Wb V2.heap.size 41 (headC kk R)) := (by
                 have bb : Below V2.heap.size V2 Wb := ((Below.refl _ _).alloc (Nat.le_refl _) _).trans (TWb.below (by simp) (fun j hj e => by omega))
                 exact Lib.hid ⟨F2.out.below bb, HWb⟩));
               have hlh : (Instr.loadAt 41 (.pointer (some ⟨V2.heap.size, 0, none⟩))).run Tryz.prog Wb = .ok (.agg (headC kk R)) Wb := prf.Has.load_hd F3.out.2 RL.out;
               clear HWb TWb F2)
            | ((with_reducible refine at_op 75 ?_); refine wpList_load_if (o := ⟨some 75, _, _, _, _, _⟩) (by kernel_rfl) 41 (.tmp 14) rfl (.pointer (some ⟨V2.heap.size, 0, none⟩)) rfl hlh ?_)
            | fail)
          have F5 := Lib.hid F3.out.1
          have HAD : Hid (Calls Tryz.prog 17 #[.pointer (some ⟨gd + 1, 0, none⟩), .agg (headC kk R), .slice none 0 0] Wb (AddErr Wb np q 6)) := Lib.hid (by
            have hj : P[Q.length]? = some q := by rw [HPQ.out]; simp
            have hpl : P.length = Q.length + 1 := by rw [HPQ.out]; simp
            have h := (add_next (gd + 1) v (hsL L P) Q.length (by rw [hsL_len, hpl]) (by rw [hsL_len]; have := HF.out.2.2.1; omega) kk R RL.out (.slice none 0 0) q 6 Wb F5.out.lo (fun V hV => ?_)).mono (fun en w' h => h.elim (fun h => absurd h.1 (by decide)) (fun h => h.2))
            · rw [hsL_len, ← HF.out.2.2.1] at h
              exact h
            · rw [(hsL_at hj).1, (hsL_at hj).2]
              exact cons_out q kk _ R (.inr (by have := HGE.out; omega)) _ V)
          clear F3 hlh
          refine HAD.out.mono ?_
          rintro en V6 ⟨b61, b62, rfl, er6, b6⟩
          have hev : flt.ev [(⟨b61, ⟨#[97, 100, 100]⟩, np⟩ : flt.Sp), ⟨b62, ⟨#[112, 114, 101, 102, 105, 120]⟩, q⟩] 6 = .iface 125 (.pointer (some ⟨b61, 0, none⟩)) := rfl
          have HPT : Hid (Calls Tryz.prog 18 #[.iface 125 (.pointer (some ⟨b61, 0, none⟩))] V6 fun en w' => en = .returned (.string ⟨#[97, 100, 100, 47, 112, 114, 101, 102, 105, 120, 47, 114, 97, 110, 103, 101]⟩) ∧ Below V6.heap.size V6 w') := Lib.hid (by
            rw [← hev]
            exact flt.path_calls V6.heap.size _ 6 V6 (F5.out.below b6).pwV.et er6 (by show 2 ≤ 1000000; omega) (by decide) (by decide) (by show (16 : Nat) ≤ _; omega))
          have F6 := Lib.hid (F5.out.below b6)
          rw [hev]
          clear hev er6 b6 F5 HAD
          go_wp2_with fail
          refine HPT.out.mono ?_
          rintro en V7 ⟨rfl, b7⟩
          have F7 : Hid (Fs w B0 vb gd a0 c k L (Q ++ [q]) v V7) := Lib.hid (by rw [← HPQ.out]; exact F6.out.below b7)
          clear b7 F6 HPT
          obtain ⟨v', hv'⟩ : ∃ v', v' = v := ⟨_, rfl⟩
          rw [← hv'] at F7
          obtain ⟨Rq, hRq⟩ : ∃ Rq, rtAll (leafF L) q = Rq := ⟨_, rfl⟩
          have HRQ := Lib.hid hRq
          have RLQ : Hid (Rq.length = 32) := Lib.hid (by rw [← hRq]; exact rtAll_len (leafF_len L) q)
          have HQ9 := HQK
          have hneq := fun (V : World) => run_neq_head_same q Rq RLQ.out V
          clear hRq hv'
          go_wp2_with fail
          refine (F7.out.find (by have := HF.out.2.2.2.2.1; rw [HPQ.out] at this; exact this) (by have h1 := HF.out; have h2 := congrArg List.length HPQ.out; rw [List.length_append] at h2; omega)).mono ?_
          rintro en V8 ⟨rfl, b8⟩
          have F8 := Lib.hid (F7.out.below b8)
          clear b8
          rw [HRQ.out]
          go_wp2_with (first
            | ((with_reducible refine at_store (.tmp 20) ?_); refine wpList_store_head (o := ⟨none, _, _, _, _, _⟩) rfl (.tmp 20) (.tmp 101) rfl V8.heap.size q 0 Rq (List.replicate 32 0) rfl rfl (made_at _ _ rfl) RLQ.out (by simp) ?_; intro Wc HWc TWc;
               (have F9 : Hid (Fs w B0 vb gd a0 c k L (Q ++ [q]) v' Wc ∧ Has Wc V8.heap.size 41 (headC q Rq)) := (by
                 have bb : Below V8.heap.size V8 Wc := ((Below.refl _ _).alloc (Nat.le_refl _) _).trans (TWc.below (by simp) (fun j hj e => by omega))
                 exact Lib.hid ⟨F8.out.below bb, HWc⟩));
               clear HWc TWc F8)
            | fail)
          refine (F9.out.1.head HL.out HK16.out HQ9.out).mono ?_
          rintro en V10 ⟨rfl, b10⟩
          have F10 := Lib.hid (show _ ∧ _ from ⟨F9.out.1.below b10, F9.out.2.below b10 F9.out.2.lt⟩)
          clear b10 F9
          rw [HRQ.out]
          go_wp2_with (first
            | ((with_reducible refine at_store (.tmp 22) ?_); refine wpList_store_head (o := ⟨none, _, _, _, _, _⟩) rfl (.tmp 22) (.tmp 107) rfl V10.heap.size q 0 Rq (List.replicate 32 0) rfl rfl (made_at _ _ rfl) RLQ.out (by simp) ?_; intro Wd HWd TWd;
               (have F11 : Hid (Fs w B0 vb gd a0 c k L (Q ++ [q]) v' Wd) := (by
                 have bb : Below V10.heap.size V10 Wd := ((Below.refl _ _).alloc (Nat.le_refl _) _).trans (TWd.below (by simp) (fun j hj e => by omega))
                 exact Lib.hid (F10.out.1.below bb)));
               have hl1 : (Instr.loadAt 41 (.pointer (some ⟨V8.heap.size, 0, none⟩))).run Tryz.prog Wd = .ok (.agg (headC q Rq)) Wd := prf.Has.load_hd (F10.out.2.below (((Below.refl _ _).alloc (Nat.le_refl _) _).trans (TWd.below (by simp) (fun j hj e => by omega))) F10.out.2.lt) RLQ.out;
               have hl2 : (Instr.loadAt 41 (.pointer (some ⟨V10.heap.size, 0, none⟩))).run Tryz.prog Wd = .ok (.agg (headC q Rq)) Wd := prf.Has.load_hd HWd RLQ.out;
               clear HWd TWd F10)
            | ((with_reducible refine at_opg 112 ?_); refine wpList_load_if (o := ⟨some 112, _, _, _, _, _⟩) (by kernel_rfl) 41 (.tmp 20) rfl (.pointer (some ⟨V8.heap.size, 0, none⟩)) rfl hl1 ?_)
            | ((with_reducible refine at_opg 113 ?_); refine wpList_load_if (o := ⟨some 113, _, _, _, _, _⟩) (by kernel_rfl) 41 (.tmp 22) rfl (.pointer (some ⟨V10.heap.size, 0, none⟩)) rfl hl2 ?_)
            | fail)
          refine ⟨⟨P, (q : Int), np, i + 1, v', rfl, rfl, by rw [Int.natCast_add]; rfl, by omega, Lib.hid ⟨by rw [HPQ.out]; exact F11.out, HF.out.2.1, HF.out.2.2.1, by have := HF.out.2.2.2.1; omega, HF.out.2.2.2.2.1, fun e => absurd (HPQ.out.symm.trans e) (by simp)⟩⟩, ?_⟩
          show 10 - ((i : Int) + 1).toNat < 10 - ((i : Int)).toNat
          omega
    · have HX := HF
      clear hi10
      by_cases h3 : i < li
      · have h3i : (i : Int) < (li : Int) := by omega
        have h4i : ¬ (i : Int) < 10 := by omega
        clear h1 h3
        go_wp2_with fail
        refine (XIT.out _ HF.out.1).mono ?_
        rintro en wz ⟨a9, c9, rfl, b9⟩
        go_wp2_with fail
        go_ret
        exact ⟨rfl, b9⟩
      · have h3i : ¬ (i : Int) < (li : Int) := by omega
        clear h1 h3
        go_wp2_with fail
        refine (XIT.out _ HF.out.1).mono ?_
        rintro en wz ⟨a9, c9, rfl, b9⟩
        go_wp2_with fail
        go_ret
        exact ⟨rfl, b9⟩
theorem own : ownKnob Tryz.prog.godebug = none := by kernel_rfl
theorem laidOut : laidOutB Tryz.prog = true := by kernel_rfl

set_option maxRecDepth 100000 in
theorem lifted (os : Os) (started : os.Started) (H : Type) (enc : TypeId × Value → H) :
    ReturnsInHanded {} Tryz.checked os 4 .any (fun w args => (Rows.auditFindsSpec.pre enc Tryz.prog Tryz.f4 [] false w args ∧ laidMetH Tryz.prog Rows.auditFindsRow.laid w) ∧ sizedMet enc Tryz.prog Tryz.f4 (OpenSpec.ofChange Rows.auditFindsSpec) false w args)
      (Rows.auditFindsSpec.post enc Tryz.prog Tryz.f4 false true false false) := by
  refine returnsInHanded_of_change_and (C := Tryz.checked) (X := fun w _ => laidMetH Tryz.prog Rows.auditFindsRow.laid w) (fun _ _ _ hh h => h.of_heap hh) own started (by kernel_rfl) Tryz.func4
    (ChangeSpec.witness_shaped (enc := enc) (C := Tryz.checked) (os := os) (X := fun w _ => laidMetH Tryz.prog Rows.auditFindsRow.laid w) false (World.doorLaid Tryz.prog 31 os) #[.slice none 0 0, .int .i64 0, .slice none 0 0] 8 rfl (door_shaped os _) (by kernel_rfl) (by kernel_rfl) (by kernel_rfl) (door_met os _)) ?_
  intro W base args ds gs before hval0 hW _ _ hL _
  have hval : ∀ (j : Nat) t v, Tryz.f4.params[j]? = some t → args[j]? = some v → Value.okWide Tryz.prog W .any base t v := hval0
  have hW' := hW
  obtain ⟨p, q, hA0, hV, rfl, _, _⟩ := hW
  have hA : DataW.TrodAll enc Tryz.prog W 0 (fun _ => true) true Tryz.f4.params.toList args.toList ds p := hA0
  rw [Tryz.params4] at hA hval
  obtain ⟨v0, vs0, d0, ds0, p0, q0, hargs, rfl, rfl, h0, r0⟩ := trodAll_cons hA
  obtain ⟨v1, vs1, d1, ds1, p1, q1, rfl, rfl, rfl, h1, r1⟩ := trodAll_cons r0
  obtain ⟨v2, vs2, d2, ds2, p2, q2, rfl, rfl, rfl, h2, r2⟩ := trodAll_cons r1
  obtain ⟨rfl, rfl, rfl⟩ := trodAll_nil r2
  obtain rfl : args = #[v0, v1, v2] := by cases args; simp_all
  obtain ⟨rfl, rfl⟩ := trodVars_none hV
  obtain ⟨a0, len0, cap0, rfl⟩ := okWide_slice Tryz.underlying22 (hval 0 22 v0 rfl rfl)
  have k0 := h0
  have lt0 : ∀ x ∈ p0, x.block < W.heap.size := by obtain ⟨m, hm⟩ := k0; exact DataW.trod_lt m _ _ _ hm
  have w0 : Arg0 W a0 len0 cap0 := opened0 h0
  obtain ⟨a1, rfl, rfl, rfl, w1⟩ := open_int Tryz.underlying3 (hval 1 3 v1 rfl rfl) h1
  obtain ⟨a2, len2, cap2, rfl⟩ := okWide_slice Tryz.underlying53 (hval 2 53 v2 rfl rfl)
  have k2 := h2
  have lt2 : ∀ x ∈ p2, x.block < W.heap.size := by obtain ⟨m, hm⟩ := k2; exact DataW.trod_lt m _ _ _ hm
  have w2 : Arg2 W a2 len2 cap2 := opened2 h2
  clear hA0 hval0
  refine (walk a0 len0 cap0 a1 a2 len2 cap2 W w0 w1 w2 (pw_of_laid hL)).mono fun e W' ⟨he, bel⟩ => ?_
  subst he
  exact ⟨_, rfl, _, _, _, [], _, [], hW', trodAll_mk1 (shut_bool Tryz.underlying4 _), (trodAll_cons_mk (Below.trod laidOut (by kernel_rfl) (of_decide_eq_true (by kernel_rfl)) k0 bel lt0) (trodAll_cons_mk (shut_int Tryz.underlying3 w1) (trodAll_cons_mk (Below.trod laidOut (by kernel_rfl) (of_decide_eq_true (by kernel_rfl)) k2 bel lt2) trodAll_mk0))), rfl, bel.frame _, fun h => by cases h⟩

theorem over : Rows.auditFindsRow.holds Tryz.pinned (OpenSpec.ofChange Rows.auditFindsSpec) :=
  OpenClaim.holds_of_wide 4 Tryz.f4 rfl rfl rfl rfl rfl rfl rfl ⟨rfl, rfl, rfl, rfl, rfl⟩ rfl rfl rfl rfl rfl (by kernel_rfl) Tryz.func4 (by kernel_rfl)
    (of_decide_eq_true (by kernel_rfl)) (by unfold Func.isWrapper; first | (rw [if_pos (by decide +kernel)]; kernel_rfl) | (rw [if_neg (by decide +kernel)]; exact ⟨rfl, rfl⟩))
    (fun os started H enc _ => lifted os started H enc)

theorem plain (f : FuncId) (fn : Func) (hf : Tryz.pinned.checked.prog.funcNamed "hindsight/hindsightlaw25.AuditFinds" = some f) (hfn : Tryz.pinned.checked.prog.funcs[f]? = some fn) :
    (true : Bool) = Tryz.pinned.checked.prog.looks [] ∧ ∀ (j : Nat) t, fn.params[j]? = some t → Tryz.pinned.checked.prog.wantsStandIn t = false := by
  obtain rfl : f = 4 := Option.some.inj ((show Tryz.prog.funcNamed "hindsight/hindsightlaw25.AuditFinds" = some 4 by kernel_rfl).symm.trans hf) |>.symm
  obtain rfl : fn = Tryz.f4 := (Option.some.inj (Tryz.func4.symm.trans hfn)).symm
  refine ⟨by kernel_rfl, fun j t ht => ?_⟩
  rw [Tryz.params4] at ht
  have hm := Array.mem_of_getElem? ht
  simp only [List.mem_toArray, List.mem_cons, List.not_mem_nil, or_false] at hm
  rcases hm with rfl | rfl | rfl
  · exact (show Tryz.prog.wantsStandIn 22 = false by kernel_rfl)
  · exact (show Tryz.prog.wantsStandIn 3 = false by kernel_rfl)
  · exact (show Tryz.prog.wantsStandIn 53 = false by kernel_rfl)

theorem card : Rows.AuditFindsCardSaid :=
  Claim7.holds_tied_plain_at .later [] _ _ _ _ over (fun _ h => by cases h) (by kernel_rfl) (fun _ h => by cases h) auditFinds_row_tie rfl ⟨rfl, rfl⟩ (by kernel_rfl) rfl plain (by kernel_rfl)

theorem proved : Rows.AuditFindsCardSaid := card


end Go.Proofs.YtdoadmkaoboncaaGreatDoor.auditFinds
