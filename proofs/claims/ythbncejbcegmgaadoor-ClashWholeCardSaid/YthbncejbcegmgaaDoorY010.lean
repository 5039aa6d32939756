/- Texts laid into one: AudA, HeadQ, AudB, ClaA, AudC, Strs, Lvs. -/
import Derived.Test.YthbncejbcegmgaaDoorY008
import Derived.Test.YthbncejbcegmgaaDoorY009
import Derived.Test.YthbncejbcegmgaaDoorY003
import Derived.Test.YthbncejbcegmgaaDoorY007
import Derived.Test.YthbncejbcegmgaaDoorY002
import Derived.Test.YthbncejbcegmgaaDoorY001
import Derived.Test.YthbncejbcegmgaaDoorY004
import Derived.StillTailTactics
import Derived.Test.YthbncejbcegmgaaDoorY000
import Derived.SliceStrings
import Derived.ProofKit
import Derived.OpenShut
import Derived.Deep.MidRow
import Derived.Deep.SlicePairs
import Derived.ChangeOld
import Derived.Test.YthbncejbcegmgaaDoorY005
section
/- audit: Leaf, where it refuses, and where what is proved is so, or is gone. -/
namespace Go.Proofs.YthbncejbcegmgaaDoor.aud
open Go Go.RowKit Go.Proofs.YthbncejbcegmgaaDoor.dig Go.Proofs.YthbncejbcegmgaaDoor.prf Go.Proofs.YthbncejbcegmgaaDoor.prn

/-- A verdict's cells. -/
abbrev verC (k : Int) (a b : ByteArray) : Array Value := #[.int .i64 k, .string a, .string b]

section
variable {B : Nat} {F : Nat → Prop} {w : World} {vb fl : Nat} {L : List ByteArray}

set_option maxRecDepth 100000 in
set_option maxHeartbeats 2000000 in
theorem aleaf_nohead (h : Va B F w vb L fl) (text : ByteArray) (K I N : Int) (v : Value) (E : Int) (hx : (E = 6 ∧ (N < 0 ∨ N > L.length)) ∨ (E = 14 ∧ 0 ≤ N ∧ N ≤ L.length ∧ N < fl)) :
    Calls Tryd.prog 30 #[.pointer (some ⟨vb, 0, none⟩), .string text, .agg (prC K I N v)] w fun en w' => en = .returned (.agg (verC 0 ⟨#[]⟩ ⟨#[]⟩)) ∧ Below w.heap.size w w' := by
  have H := Lib.hid h
  have HX := Lib.hid hx
  have p2 : ∀ A, ((w.alloc (.cells (prC K I N v) 64)).alloc A).cell? ⟨w.heap.size, 2, none⟩ = some (.int .i64 N) := fun A => ((made_at _ _ rfl).alloc A).cell 2
  clear h hx
  go_enter Tryd.func30, Tryd.ntmps30
  go_wp2_with fail
  refine callsName (fun W hW => ?_)
  have B0 : Hid (Below w.heap.size w W ∧ Has W (w.heap.size + 1) 71 (verC 0 ⟨#[]⟩ ⟨#[]⟩)) := by rw [← hW]; exact Lib.hid ⟨((Below.refl _ _).alloc (Nat.le_refl _) _).alloc (by simp) _, made_at _ _ (by simp)⟩
  clear hW p2
  refine ((H.out.below B0.out.1).head_err N E HX.out).mono ?_
  obtain ⟨q, hq⟩ : ∃ q : List UInt8, q = List.replicate 32 0 := ⟨_, rfl⟩
  have QL : Hid (q.length = 32) := Lib.hid (by rw [hq]; simp)
  have HQ := Lib.hid hq
  rw [← hq]
  clear hq
  rintro en w1 ⟨b, rfl, hb, her, b1⟩
  have hev : flt.ev [⟨b, headNm, N⟩] E = .iface 114 (.pointer (some ⟨b, 0, none⟩)) := rfl
  rw [hev]
  have S1 : Hid (Below w.heap.size w w1 ∧ Has w1 (w.heap.size + 1) 71 (verC 0 ⟨#[]⟩ ⟨#[]⟩)) := Lib.hid ⟨B0.out.1.trans (b1.mono B0.out.1.size), B0.out.2.below b1 B0.out.2.lt⟩
  clear b1 B0 her hb hev
  go_wp2_with (first
    | ((with_reducible refine at_store (.tmp 7) ?_); refine wpList_store_head (o := ⟨none, _, _, _, _, _⟩) rfl (.tmp 7) (.tmp 19) rfl w1.heap.size 0 0 q (List.replicate 32 0) rfl rfl (made_at _ _ rfl) QL.out (by simp) ?_; intro Wb HWb TWb;
       (have S2 : Hid (Below w.heap.size w Wb ∧ Has Wb (w.heap.size + 1) 71 (verC 0 ⟨#[]⟩ ⟨#[]⟩)) := (by
         have bb : Below w1.heap.size w1 Wb := ((Below.refl _ _).alloc (Nat.le_refl _) _).trans (TWb.below (by simp) (fun j hj e => by omega))
         exact Lib.hid ⟨S1.out.1.trans (bb.mono S1.out.1.size), S1.out.2.below bb S1.out.2.lt⟩));
       clear HWb TWb S1)
    | ((with_reducible refine at_store (.tmp 6) ?_); refine wpList_store_cells (o := ⟨none, _, _, _, _, _⟩) rfl 71 (.tmp 6) (.tmp 36) rfl (w.heap.size + 1) (verC 0 ⟨#[]⟩ ⟨#[]⟩) (verC 0 ⟨#[]⟩ ⟨#[]⟩) rfl rfl _ S2.out.2 (by kernel_rfl) rfl (by simp [verC, Value.oneCell']) ?_; intro W9 HW9 TW9)
    | fail)
  exact bodyPost_ret (v := .agg (verC 0 ⟨#[]⟩ ⟨#[]⟩)) (results_cell_row rfl _ _ (w.heap.size + 1) 71 _ _ _ rfl HW9 Tryd.underlying71 rfl (by kernel_rfl)) rfl
    ⟨rfl, S2.out.1.trans (TW9.below S2.out.1.size (fun j hj e => by omega))⟩

/-- How a look at a leaf's proof ends, if it doesn't end with a clash; E: what Proves answers, 1 of a proof of another kind. -/
def EndsL (L : List ByteArray) (fl : Nat) (text : ByteArray) (I E k : Int) : Prop :=
  (E ≠ 0 ∧ k = 0) ∨ (E = 0 ∧ ∃ i : Nat, I = i ∧ ((i < fl ∧ k = 3) ∨ (fl ≤ i ∧ L[i]? = some text ∧ k = 1)))

set_option maxRecDepth 100000 in
set_option maxHeartbeats 4000000 in
theorem aleaf_ok (h : Va B F w vb L fl) (hN : L.length < 1024) (text : ByteArray) (hts : text.size < 1000000000000000000) (K I : Int) (n : Nat) (hf : fl ≤ n) (hn : n ≤ L.length) (r : List (List UInt8)) (a : Option Addr) (c : Nat) (hS : Sms w (.slice a r.length c) r)
    (E k : Int) (hE : E = if K = 1 then inclE text.data.toList I n (rtAll (leafF L) n) r else 1) (hk : EndsL L fl text I E k) :
    Calls Tryd.prog 30 #[.pointer (some ⟨vb, 0, none⟩), .string text, .agg (prC K I n (.slice a r.length c))] w fun en w' => en = .returned (.agg (verC k ⟨#[]⟩ ⟨#[]⟩)) ∧ Below w.heap.size w w' := by
  have H := Lib.hid h
  have HK := Lib.hid hk
  have HE := Lib.hid hE
  have HNN := Lib.hid (show _ ∧ _ ∧ _ ∧ _ from ⟨hN, hf, hn, hts⟩)
  have HS := Lib.hid hS
  have RL : Hid ((rtAll (leafF L) n).length = 32) := Lib.hid (rtAll_len (leafF_len L) n)
  obtain ⟨R, hR⟩ : ∃ R, R = rtAll (leafF L) n := ⟨_, rfl⟩
  obtain ⟨lr, hlr⟩ : ∃ lr, lr = r.length := ⟨_, rfl⟩
  have HLR := Lib.hid hlr
  rw [← hR] at RL HE
  rw [← hlr] at HS ⊢
  have HR := Lib.hid hR
  have p2 : ∀ A, ((w.alloc (.cells (prC K I n (.slice a lr c)) 64)).alloc A).cell? ⟨w.heap.size, 2, none⟩ = some (.int .i64 n) := fun A => ((made_at _ _ rfl).alloc A).cell 2
  clear h hk hE hN hf hn hS hR hlr hts
  go_enter Tryd.func30, Tryd.ntmps30
  go_wp2_with fail
  refine callsName (fun W hW => ?_)
  have B0 : Hid (Below w.heap.size w W ∧ Has W (w.heap.size + 1) 71 (verC 0 ⟨#[]⟩ ⟨#[]⟩) ∧ Has W w.heap.size 64 (prC K I n (.slice a lr c))) := by rw [← hW]; exact Lib.hid ⟨((Below.refl _ _).alloc (Nat.le_refl _) _).alloc (by simp) _, made_at _ _ (by simp), (made_at _ _ rfl).alloc _⟩
  clear hW p2
  refine ((H.out.below B0.out.1).head HNN.out.1 n HNN.out.2.1 HNN.out.2.2.1).mono ?_
  rw [← HR.out]
  rintro en w1 ⟨rfl, b1⟩
  have S1 : Hid (Below w.heap.size w w1 ∧ Has w1 (w.heap.size + 1) 71 (verC 0 ⟨#[]⟩ ⟨#[]⟩) ∧ Has w1 w.heap.size 64 (prC K I n (.slice a lr c))) := Lib.hid ⟨B0.out.1.trans (b1.mono B0.out.1.size), B0.out.2.1.below b1 B0.out.2.1.lt, B0.out.2.2.below b1 B0.out.2.2.lt⟩
  clear b1 B0
  have hkk : (K == 1) = decide (K = 1) := by by_cases h : K = 1 <;> simp [h]
  by_cases hK : K = 1
  · subst hK
    clear hkk
    rw [if_pos rfl] at HE
    go_wp2_with (first
      | ((with_reducible refine at_store (.tmp 7) ?_); refine wpList_store_head (o := ⟨none, _, _, _, _, _⟩) rfl (.tmp 7) (.tmp 19) rfl w1.heap.size n 0 R (List.replicate 32 0) rfl rfl (made_at _ _ rfl) RL.out (by simp) ?_; intro Wb HWb TWb;
         (have S2 : Hid (Below w.heap.size w Wb ∧ Has Wb (w.heap.size + 1) 71 (verC 0 ⟨#[]⟩ ⟨#[]⟩) ∧ Has Wb w.heap.size 64 (prC 1 I n (.slice a lr c)) ∧ Has Wb w1.heap.size 38 (headC n R)) := (by
           have bb : Below w1.heap.size w1 Wb := ((Below.refl _ _).alloc (Nat.le_refl _) _).trans (TWb.below (by simp) (fun j hj e => by omega))
           exact Lib.hid ⟨S1.out.1.trans (bb.mono S1.out.1.size), S1.out.2.1.below bb S1.out.2.1.lt, S1.out.2.2.below bb S1.out.2.2.lt, HWb⟩));
         have q0 : Wb.cell? ⟨w.heap.size, 0, none⟩ = some (.int .i64 1) := S2.out.2.2.1.cell 0;
         have q1 : Wb.cell? ⟨w.heap.size, 1, none⟩ = some (.int .i64 I) := S2.out.2.2.1.cell 1;
         have q2 : Wb.cell? ⟨w.heap.size, 2, none⟩ = some (.int .i64 n) := S2.out.2.2.1.cell 2;
         have q3 : Wb.cell? ⟨w.heap.size, 3, none⟩ = some (.slice a lr c) := S2.out.2.2.1.cell 3;
         have hlh : (Instr.loadAt 38 (.pointer (some ⟨w1.heap.size, 0, none⟩))).run Tryd.prog Wb = .ok (.agg (headC n R)) Wb := prf.Has.load_hd S2.out.2.2.2 RL.out;
         clear HWb TWb S1)
      | ((with_reducible refine at_opg 32 ?_); refine wpList_load_if (o := ⟨some 32, _, _, _, _, _⟩) (by kernel_rfl) 38 (.tmp 7) rfl (.pointer (some ⟨w1.heap.size, 0, none⟩)) rfl hlh ?_)
      | fail)
    have HPV : Hid (Calls Tryd.prog 54 #[.agg (prC 1 I n (.slice a lr c)), .string text, .agg (headC 0 (List.replicate 32 0)), .agg (headC n R)] Wb (ErrPost Wb leafB I E)) := Lib.hid (by
      refine proves_leaf (old := List.replicate 32 0) (root := R) RL.out text I n 0 (.slice a lr c) Wb E (fun U hU => ?_)
      have h1 := incl_calls text I n R RL.out (by have := HNN.out; omega) r a c U ((H.out.below (S2.out.1.trans (hU.mono S2.out.1.size))).rt.rk) (by rw [← HLR.out]; exact HS.out.below (S2.out.1.trans (hU.mono S2.out.1.size))) HNN.out.2.2.2
      rw [← HLR.out, ← HE.out] at h1
      exact h1)
    refine HPV.out.mono ?_
    rintro en w2 ⟨e, rfl, he, b2⟩
    have S3 : Hid (Below w.heap.size w w2 ∧ Has w2 (w.heap.size + 1) 71 (verC 0 ⟨#[]⟩ ⟨#[]⟩) ∧ Has w2 w.heap.size 64 (prC 1 I n (.slice a lr c)) ∧ Has w2 w1.heap.size 38 (headC n R)) :=
      Lib.hid ⟨S2.out.1.trans (b2.mono S2.out.1.size), S2.out.2.1.below b2 S2.out.2.1.lt, S2.out.2.2.1.below b2 S2.out.2.2.1.lt, S2.out.2.2.2.below b2 S2.out.2.2.2.lt⟩
    have HER := Lib.hid he
    clear b2 S2 HPV q0 q1 q2 q3 hlh he
    by_cases hE0 : E = 0
    · subst hE0
      obtain rfl : e = .nilIface := by
        rcases HER.out with ⟨_, h⟩ | ⟨h, _⟩
        · exact h
        · exact absurd rfl h
      obtain ⟨i, rfl, hk⟩ : ∃ i : Nat, I = i ∧ ((i < fl ∧ k = 3) ∨ (fl ≤ i ∧ L[i]? = some text ∧ k = 1)) := by
        rcases HK.out with h | h
        · exact absurd rfl h.1
        · exact h.2
      have q1 : w2.cell? ⟨w.heap.size, 1, none⟩ = some (.int .i64 i) := S3.out.2.2.1.cell 1
      go_wp2_with fail
      rcases hk with ⟨h1, rfl⟩ | ⟨h1, h2, rfl⟩
      · refine ((H.out.below S3.out.1).at_pruned i h1).mono ?_
        rintro en w3 ⟨b, rfl, hb, her, b3⟩
        have hev : flt.ev [⟨b, commandB, (i : Int)⟩] 14 = .iface 114 (.pointer (some ⟨b, 0, none⟩)) := rfl
        rw [hev]
        have S4 : Hid (Below w.heap.size w w3 ∧ Has w3 (w.heap.size + 1) 71 (verC 0 ⟨#[]⟩ ⟨#[]⟩)) := Lib.hid ⟨S3.out.1.trans (b3.mono S3.out.1.size), S3.out.2.1.below b3 S3.out.2.1.lt⟩
        clear b3 S3 her hb hev q1
        go_wp2_with (first
          | ((with_reducible refine at_store (.tmp 6) ?_); refine wpList_store_cells (o := ⟨none, _, _, _, _, _⟩) rfl 71 (.tmp 6) (.tmp 46) rfl (w.heap.size + 1) (verC 3 ⟨#[]⟩ ⟨#[]⟩) (verC 0 ⟨#[]⟩ ⟨#[]⟩) rfl rfl _ S4.out.2 (by kernel_rfl) rfl (by simp [verC, Value.oneCell']) ?_; intro W9 HW9 TW9)
          | fail)
        exact bodyPost_ret (v := .agg (verC 3 ⟨#[]⟩ ⟨#[]⟩)) (results_cell_row rfl _ _ (w.heap.size + 1) 71 _ _ _ rfl HW9 Tryd.underlying71 rfl (by kernel_rfl)) rfl
          ⟨rfl, S4.out.1.trans (TW9.below S4.out.1.size (fun j hj e => by omega))⟩
      · refine ((H.out.below S3.out.1).at_ok i h1 text h2).mono ?_
        rintro en w3 ⟨rfl, b3⟩
        have S4 : Hid (Below w.heap.size w w3 ∧ Has w3 (w.heap.size + 1) 71 (verC 0 ⟨#[]⟩ ⟨#[]⟩)) := Lib.hid ⟨S3.out.1.trans (b3.mono S3.out.1.size), S3.out.2.1.below b3 S3.out.2.1.lt⟩
        clear b3 S3 q1
        have hss : (text.toList == text.toList) = true := by simp
        go_wp2_with (first
          | ((with_reducible refine at_store (.tmp 6) ?_); refine wpList_store_cells (o := ⟨none, _, _, _, _, _⟩) rfl 71 (.tmp 6) (.tmp 50) rfl (w.heap.size + 1) (verC 1 ⟨#[]⟩ ⟨#[]⟩) (verC 0 ⟨#[]⟩ ⟨#[]⟩) rfl rfl _ S4.out.2 (by kernel_rfl) rfl (by simp [verC, Value.oneCell']) ?_; intro W9 HW9 TW9)
          | fail)
        exact bodyPost_ret (v := .agg (verC 1 ⟨#[]⟩ ⟨#[]⟩)) (results_cell_row rfl _ _ (w.heap.size + 1) 71 _ _ _ rfl HW9 Tryd.underlying71 rfl (by kernel_rfl)) rfl
          ⟨rfl, S4.out.1.trans (TW9.below S4.out.1.size (fun j hj e => by omega))⟩
    · obtain ⟨b, rfl⟩ : ∃ b, e = .iface 114 (.pointer (some ⟨b, 0, none⟩)) := by
        rcases HER.out with ⟨h, _⟩ | ⟨_, b, h, _⟩
        · exact absurd h hE0
        · exact ⟨b, h⟩
      obtain rfl : k = 0 := by
        rcases HK.out with h | h
        · exact h.2
        · exact absurd h.1 hE0
      clear hE0
      go_wp2_with (first
        | ((with_reducible refine at_store (.tmp 6) ?_); refine wpList_store_cells (o := ⟨none, _, _, _, _, _⟩) rfl 71 (.tmp 6) (.tmp 36) rfl (w.heap.size + 1) (verC 0 ⟨#[]⟩ ⟨#[]⟩) (verC 0 ⟨#[]⟩ ⟨#[]⟩) rfl rfl _ S3.out.2.1 (by kernel_rfl) rfl (by simp [verC, Value.oneCell']) ?_; intro W9 HW9 TW9)
        | fail)
      exact bodyPost_ret (v := .agg (verC 0 ⟨#[]⟩ ⟨#[]⟩)) (results_cell_row rfl _ _ (w.heap.size + 1) 71 _ _ _ rfl HW9 Tryd.underlying71 rfl (by kernel_rfl)) rfl
        ⟨rfl, S3.out.1.trans (TW9.below S3.out.1.size (fun j hj e => by omega))⟩
  · rw [if_neg hK] at HE
    obtain rfl : k = 0 := by
      rcases HK.out with h | h
      · exact h.2
      · have := HE.out; omega
    have hK1 : (K != 1) = true := by simpa using hK
    have hK2 : (K == 1) = false := by simpa using hK
    clear hK hkk
    go_wp2_with (first
      | ((with_reducible refine at_store (.tmp 7) ?_); refine wpList_store_head (o := ⟨none, _, _, _, _, _⟩) rfl (.tmp 7) (.tmp 19) rfl w1.heap.size n 0 R (List.replicate 32 0) rfl rfl (made_at _ _ rfl) RL.out (by simp) ?_; intro Wb HWb TWb;
         (have S2 : Hid (Below w.heap.size w Wb ∧ Has Wb (w.heap.size + 1) 71 (verC 0 ⟨#[]⟩ ⟨#[]⟩) ∧ Has Wb w.heap.size 64 (prC K I n (.slice a lr c))) := (by
           have bb : Below w1.heap.size w1 Wb := ((Below.refl _ _).alloc (Nat.le_refl _) _).trans (TWb.below (by simp) (fun j hj e => by omega))
           exact Lib.hid ⟨S1.out.1.trans (bb.mono S1.out.1.size), S1.out.2.1.below bb S1.out.2.1.lt, S1.out.2.2.below bb S1.out.2.2.lt⟩));
         have q0 : Wb.cell? ⟨w.heap.size, 0, none⟩ = some (.int .i64 K) := S2.out.2.2.cell 0;
         clear HWb TWb S1)
      | ((with_reducible refine at_store (.tmp 6) ?_); refine wpList_store_cells (o := ⟨none, _, _, _, _, _⟩) rfl 71 (.tmp 6) (.tmp 36) rfl (w.heap.size + 1) (verC 0 ⟨#[]⟩ ⟨#[]⟩) (verC 0 ⟨#[]⟩ ⟨#[]⟩) rfl rfl _ S2.out.2.1 (by kernel_rfl) rfl (by simp [verC, Value.oneCell']) ?_; intro W9 HW9 TW9)
      | fail)
    exact bodyPost_ret (v := .agg (verC 0 ⟨#[]⟩ ⟨#[]⟩)) (results_cell_row rfl _ _ (w.heap.size + 1) 71 _ _ _ rfl HW9 Tryd.underlying71 rfl (by kernel_rfl)) rfl
      ⟨rfl, S2.out.1.trans (TW9.below S2.out.1.size (fun j hj e => by omega))⟩
end
end Go.Proofs.YthbncejbcegmgaaDoor.aud
end

section
/- proof: heads compared. -/
namespace Go.Proofs.YthbncejbcegmgaaDoor.prf
open Go Go.RowKit Go.Proofs.YthbncejbcegmgaaDoor.dig

theorem headFields : ∃ f0 f1 : Field, (Tryd.prog.fieldsOf 38).toList = [f0, f1] ∧ f0.name = "N" ∧ f0.type = 3 ∧ f0.offset = 0 ∧ f1.name = "Root" ∧ f1.type = 33 ∧ f1.offset = 1 := by
  have h : (Tryd.prog.fieldsOf 38).toList.map (fun f => (f.name, f.type, f.offset)) = [("N", 3, 0), ("Root", 33, 1)] := by kernel_rfl
  generalize (Tryd.prog.fieldsOf 38).toList = l at h
  rcases l with _ | ⟨f0, _ | ⟨f1, _ | ⟨f2, l⟩⟩⟩
  · simp at h
  · simp at h
  · simp only [List.map_cons, List.map_nil, List.cons.injEq, Prod.mk.injEq, and_true] at h
    exact ⟨f0, f1, rfl, h.1.1, h.1.2.1, h.1.2.2, h.2.1, h.2.2.1, h.2.2.2⟩
  · simp at h

theorem headC_cut (n : Int) (xs : List UInt8) (h : xs.length = 32) : (headC n xs).extract 1 (1 + 32) = cellsOf xs := by
  unfold headC cellsOf
  apply Array.toList_inj.1
  simp [h, List.take_of_length_le]

theorem hq_p0 (n : Int) (xs : List UInt8) (w : World) : (part 3 (headC n xs) 0).run Tryd.prog w = .ok (.int .i64 n) w := by
  have h0 : (headC n xs)[0]? = some (.int .i64 n) := by simp [headC]
  simp [part, Tryd.isAgg3, h0]
theorem hq_q0 (n : Int) (xs : List UInt8) (hx : xs.length = 32) (w : World) : (part 33 (headC n xs) 1).run Tryd.prog w = .ok (.agg (cellsOf xs)) w := by
  have h0 := headC_cut n xs hx
  simp only [part, Sem.run_bind, Tryd.isAgg33, Tryd.sizeOf33, Result.andThen_ok, if_true, Sem.run_pure, h0]
theorem eqFields_cons {P : Program} (d : Nat) (xs ys : Array Value) (f : Field) (fs : List Field) (hn : f.name ≠ "_") (a b : Value) (r : Bool) (w : World)
    (ha : (part f.type xs f.offset).run P w = .ok a w) (hb : (part f.type ys f.offset).run P w = .ok b w) (hr : (Op.equalIn d f.type a b).run P w = .ok r w) :
    (Op.eqFields d xs ys (f :: fs)).run P w = if r = true then (Op.eqFields d xs ys fs).run P w else .ok false w := by
  rw [Op.eqFields, if_pos hn]
  simp only [Sem.run_bind, ha, hb, hr, Result.andThen_ok]
  cases r <;> simp
theorem hq_fields (d : Nat) (n m : Int) (xs ys : List UInt8) (hx : xs.length = 32) (hy : ys.length = 32) (w : World) (f0 f1 : Field) (a1 : f0.name = "N") (a2 : f0.type = 3) (a3 : f0.offset = 0) (b1 : f1.name = "Root") (b2 : f1.type = 33) (b3 : f1.offset = 1) :
    (Op.eqFields (d + 2) (headC n xs) (headC m ys) [f0, f1]).run Tryd.prog w = .ok (n == m && xs == ys) w := by
  have hs := run_equalIn_bytes (P := Tryd.prog) d (t := 33) (e := 5) 32 Tryd.underlying33 Tryd.underlying5 (by kernel_rfl) xs ys hx hy w
  have hi : (Op.equalIn (d + 2) 3 (.int .i64 n) (.int .i64 m)).run Tryd.prog w = .ok (n == m) w := run_equalIn_int w (P := Tryd.prog) (d + 1) 3 .i64 .i64 n m Tryd.underlying3
  rw [eqFields_cons (d + 2) _ _ f0 [f1] (by rw [a1]; decide) (.int .i64 n) (.int .i64 m) (n == m) w (by rw [a2, a3]; exact hq_p0 n xs w) (by rw [a2, a3]; exact hq_p0 m ys w) (by rw [a2]; exact hi)]
  rw [eqFields_cons (d + 2) _ _ f1 [] (by rw [b1]; decide) (.agg (cellsOf xs)) (.agg (cellsOf ys)) (xs == ys) w (by rw [b2, b3]; exact hq_q0 n xs hx w) (by rw [b2, b3]; exact hq_q0 m ys hy w) (by rw [b2]; exact hs)]
  have h0 : (Op.eqFields (d + 2) (headC n xs) (headC m ys) []).run Tryd.prog w = .ok true w := by unfold Op.eqFields; simp
  rw [h0]
  cases n == m <;> cases xs == ys <;> simp
theorem run_equalIn_head (d : Nat) (n m : Int) (xs ys : List UInt8) (hx : xs.length = 32) (hy : ys.length = 32) (w : World) :
    (Op.equalIn (d + 2 + 1) 38 (.agg (headC n xs)) (.agg (headC m ys))).run Tryd.prog w = .ok (n == m && xs == ys) w := by
  rw [run_equalIn_struct w (d + 2) 38 _ _ (by kernel_rfl) (by kernel_rfl)]
  obtain ⟨f0, f1, hf, a1, a2, a3, b1, b2, b3⟩ := headFields
  rw [hf]
  exact hq_fields d n m xs ys hx hy w f0 f1 a1 a2 a3 b1 b2 b3
theorem run_eql_head (n m : Int) (xs ys : List UInt8) (hx : xs.length = 32) (hy : ys.length = 32) (w : World) :
    (binOp .eql 38 (.agg (headC n xs)) (.agg (headC m ys))).run Tryd.prog w = .ok (.bool (n == m && xs == ys)) w := by
  rw [run_eql_struct, run_equalIn_head 9997 n m xs ys hx hy]
  rfl
theorem run_eql_head_same (n : Int) (xs : List UInt8) (hx : xs.length = 32) (w : World) :
    (binOp .eql 38 (.agg (headC n xs)) (.agg (headC n xs))).run Tryd.prog w = .ok (.bool true) w := by
  rw [run_eql_head n n xs xs hx hx]
  simp
end Go.Proofs.YthbncejbcegmgaaDoor.prf
end

section
/- audit: Prefix, where it refuses, and where what is proved is so, or is gone. -/
namespace Go.Proofs.YthbncejbcegmgaaDoor.aud
open Go Go.RowKit Go.Proofs.YthbncejbcegmgaaDoor.dig Go.Proofs.YthbncejbcegmgaaDoor.prf Go.Proofs.YthbncejbcegmgaaDoor.prn

section
variable {B : Nat} {F : Nat → Prop} {w : World} {vb fl : Nat} {L : List ByteArray}

set_option maxRecDepth 100000 in
set_option maxHeartbeats 2000000 in
theorem aprefix_nohead (h : Va B F w vb L fl) (m : Int) {old : List UInt8} (_ho : old.length = 32) (K I N : Int) (v : Value) (E : Int) (hx : (E = 6 ∧ (N < 0 ∨ N > L.length)) ∨ (E = 14 ∧ 0 ≤ N ∧ N ≤ L.length ∧ N < fl)) :
    Calls Tryd.prog 31 #[.pointer (some ⟨vb, 0, none⟩), .agg (headC m old), .agg (prC K I N v)] w fun en w' => en = .returned (.agg (verC 0 ⟨#[]⟩ ⟨#[]⟩)) ∧ Below w.heap.size w w' := by
  have H := Lib.hid h
  have HX := Lib.hid hx
  have p2 : ∀ A C, (((w.alloc A).alloc (.cells (prC K I N v) 64)).alloc C).cell? ⟨w.heap.size + 1, 2, none⟩ = some (.int .i64 N) := fun A C => ((made_at _ _ (by simp)).alloc _).cell 2
  clear h hx
  go_enter Tryd.func31, Tryd.ntmps31
  go_wp2_with fail
  refine callsName (fun W hW => ?_)
  have B0 : Hid (Below w.heap.size w W ∧ Has W (w.heap.size + 1 + 1) 71 (verC 0 ⟨#[]⟩ ⟨#[]⟩)) := by rw [← hW]; exact Lib.hid ⟨(((Below.refl _ _).alloc (Nat.le_refl _) _).alloc (by simp) _).alloc (by simp; omega) _, made_at _ _ (by simp)⟩
  clear hW p2
  refine ((H.out.below B0.out.1).head_err N E HX.out).mono ?_
  obtain ⟨q, hq⟩ : ∃ q : List UInt8, q = List.replicate 32 0 := ⟨_, rfl⟩
  have QL : Hid (q.length = 32) := Lib.hid (by rw [hq]; simp)
  rw [← hq]
  clear hq
  rintro en w1 ⟨b, rfl, hb, her, b1⟩
  have hev : flt.ev [⟨b, headNm, N⟩] E = .iface 114 (.pointer (some ⟨b, 0, none⟩)) := rfl
  rw [hev]
  have S1 : Hid (Below w.heap.size w w1 ∧ Has w1 (w.heap.size + 1 + 1) 71 (verC 0 ⟨#[]⟩ ⟨#[]⟩)) := Lib.hid ⟨B0.out.1.trans (b1.mono B0.out.1.size), B0.out.2.below b1 B0.out.2.lt⟩
  clear b1 B0 her hb hev
  go_wp2_with (first
    | ((with_reducible refine at_store (.tmp 7) ?_); refine wpList_store_head (o := ⟨none, _, _, _, _, _⟩) rfl (.tmp 7) (.tmp 18) rfl w1.heap.size 0 0 q (List.replicate 32 0) rfl rfl (made_at _ _ rfl) QL.out (by simp) ?_; intro Wb HWb TWb;
       (have S2 : Hid (Below w.heap.size w Wb ∧ Has Wb (w.heap.size + 1 + 1) 71 (verC 0 ⟨#[]⟩ ⟨#[]⟩)) := (by
         have bb : Below w1.heap.size w1 Wb := ((Below.refl _ _).alloc (Nat.le_refl _) _).trans (TWb.below (by simp) (fun j hj e => by omega))
         exact Lib.hid ⟨S1.out.1.trans (bb.mono S1.out.1.size), S1.out.2.below bb S1.out.2.lt⟩));
       clear HWb TWb S1)
    | ((with_reducible refine at_store (.tmp 6) ?_); refine wpList_store_cells (o := ⟨none, _, _, _, _, _⟩) rfl 71 (.tmp 6) (.tmp 34) rfl (w.heap.size + 1 + 1) (verC 0 ⟨#[]⟩ ⟨#[]⟩) (verC 0 ⟨#[]⟩ ⟨#[]⟩) rfl rfl _ S2.out.2 (by kernel_rfl) rfl (by simp [verC, Value.oneCell']) ?_; intro W9 HW9 TW9)
    | fail)
  exact bodyPost_ret (v := .agg (verC 0 ⟨#[]⟩ ⟨#[]⟩)) (results_cell_row rfl _ _ (w.heap.size + 1 + 1) 71 _ _ _ rfl HW9 Tryd.underlying71 rfl (by kernel_rfl)) rfl
    ⟨rfl, S2.out.1.trans (TW9.below S2.out.1.size (fun j hj e => by omega))⟩

/-- How a look at a prefix's proof ends, if it ends without a look at the commands; E: what Proves answers, 1 of a proof of another kind. -/
def EndsP (L : List ByteArray) (fl : Nat) (m : Int) (old : List UInt8) (E k : Int) : Prop :=
  (E ≠ 0 ∧ k = 0) ∨ (E = 0 ∧ ∃ j : Nat, m = j ∧ j ≤ L.length ∧ ((j < fl ∧ k = 3) ∨ (fl ≤ j ∧ old = rtAll (leafF L) j ∧ k = 1)))
/-- What Proves answers of a prefix's proof. -/
def provE (K I m : Int) (old : List UInt8) (n : Int) (root : List UInt8) (r : List (List UInt8)) : Int := if K = 2 then (if I = m then consE m old n root r else 4) else 1

set_option maxRecDepth 100000 in
set_option maxHeartbeats 4000000 in
theorem aprefix_ok (h : Va B F w vb L fl) (hN : L.length < 1024) (m : Int) {old : List UInt8} (ho : old.length = 32) (K I : Int) (n : Nat) (hf : fl ≤ n) (hn : n ≤ L.length) (r : List (List UInt8)) (a : Option Addr) (c : Nat) (hS : Sms w (.slice a r.length c) r)
    (E k : Int) (hE : E = provE K I m old n (rtAll (leafF L) n) r) (hk : EndsP L fl m old E k) :
    Calls Tryd.prog 31 #[.pointer (some ⟨vb, 0, none⟩), .agg (headC m old), .agg (prC K I n (.slice a r.length c))] w fun en w' => en = .returned (.agg (verC k ⟨#[]⟩ ⟨#[]⟩)) ∧ Below w.heap.size w w' := by
  have H := Lib.hid h
  have HK := Lib.hid hk
  have HE := Lib.hid hE
  have HNN := Lib.hid (show _ ∧ _ ∧ _ from ⟨hN, hf, hn⟩)
  have HS := Lib.hid hS
  have HO := Lib.hid ho
  have RL : Hid ((rtAll (leafF L) n).length = 32) := Lib.hid (rtAll_len (leafF_len L) n)
  obtain ⟨R, hR⟩ : ∃ R, R = rtAll (leafF L) n := ⟨_, rfl⟩
  obtain ⟨lr, hlr⟩ : ∃ lr, lr = r.length := ⟨_, rfl⟩
  have HLR := Lib.hid hlr
  rw [← hR] at RL HE
  rw [← hlr] at HS ⊢
  have HR := Lib.hid hR
  have p2 : ∀ A C, (((w.alloc A).alloc (.cells (prC K I n (.slice a lr c)) 64)).alloc C).cell? ⟨w.heap.size + 1, 2, none⟩ = some (.int .i64 n) := fun A C => ((made_at _ _ (by simp)).alloc _).cell 2
  clear h hk hE hN hf hn hS hR hlr ho
  go_enter Tryd.func31, Tryd.ntmps31
  go_wp2_with fail
  refine callsName (fun W hW => ?_)
  have B0 : Hid (Below w.heap.size w W ∧ Has W (w.heap.size + 1 + 1) 71 (verC 0 ⟨#[]⟩ ⟨#[]⟩) ∧ Has W (w.heap.size + 1) 64 (prC K I n (.slice a lr c)) ∧ Has W w.heap.size 38 (headC m old)) := by
    rw [← hW]
    exact Lib.hid ⟨(((Below.refl _ _).alloc (Nat.le_refl _) _).alloc (by simp) _).alloc (by simp; omega) _, made_at _ _ (by simp), (made_at _ _ (by simp)).alloc _, ((made_at _ _ rfl).alloc _).alloc _⟩
  clear hW p2
  refine ((H.out.below B0.out.1).head HNN.out.1 n HNN.out.2.1 HNN.out.2.2).mono ?_
  rw [← HR.out]
  rintro en w1 ⟨rfl, b1⟩
  have S1 : Hid (Below w.heap.size w w1 ∧ Has w1 (w.heap.size + 1 + 1) 71 (verC 0 ⟨#[]⟩ ⟨#[]⟩) ∧ Has w1 (w.heap.size + 1) 64 (prC K I n (.slice a lr c)) ∧ Has w1 w.heap.size 38 (headC m old)) := Lib.hid ⟨B0.out.1.trans (b1.mono B0.out.1.size), B0.out.2.1.below b1 B0.out.2.1.lt, B0.out.2.2.1.below b1 B0.out.2.2.1.lt, B0.out.2.2.2.below b1 B0.out.2.2.2.lt⟩
  clear b1 B0
  by_cases hK : K = 2
  · subst hK
    go_wp2_with (first
      | ((with_reducible refine at_store (.tmp 7) ?_); refine wpList_store_head (o := ⟨none, _, _, _, _, _⟩) rfl (.tmp 7) (.tmp 18) rfl w1.heap.size n 0 R (List.replicate 32 0) rfl rfl (made_at _ _ rfl) RL.out (by simp) ?_; intro Wb HWb TWb;
         (have S2 : Hid (Below w.heap.size w Wb ∧ Has Wb (w.heap.size + 1 + 1) 71 (verC 0 ⟨#[]⟩ ⟨#[]⟩) ∧ Has Wb (w.heap.size + 1) 64 (prC 2 I n (.slice a lr c)) ∧ Has Wb w.heap.size 38 (headC m old) ∧ Has Wb w1.heap.size 38 (headC n R)) := (by
           have bb : Below w1.heap.size w1 Wb := ((Below.refl _ _).alloc (Nat.le_refl _) _).trans (TWb.below (by simp) (fun j hj e => by omega))
           exact Lib.hid ⟨S1.out.1.trans (bb.mono S1.out.1.size), S1.out.2.1.below bb S1.out.2.1.lt, S1.out.2.2.1.below bb S1.out.2.2.1.lt, S1.out.2.2.2.below bb S1.out.2.2.2.lt, HWb⟩));
         have q0 : Wb.cell? ⟨w.heap.size + 1, 0, none⟩ = some (.int .i64 2) := S2.out.2.2.1.cell 0;
         have q1 : Wb.cell? ⟨w.heap.size + 1, 1, none⟩ = some (.int .i64 I) := S2.out.2.2.1.cell 1;
         have q2 : Wb.cell? ⟨w.heap.size + 1, 2, none⟩ = some (.int .i64 n) := S2.out.2.2.1.cell 2;
         have q3 : Wb.cell? ⟨w.heap.size + 1, 3, none⟩ = some (.slice a lr c) := S2.out.2.2.1.cell 3;
         have hlh : (Instr.loadAt 38 (.pointer (some ⟨w1.heap.size, 0, none⟩))).run Tryd.prog Wb = .ok (.agg (headC n R)) Wb := prf.Has.load_hd S2.out.2.2.2.2 RL.out;
         have hlo : (Instr.loadAt 38 (.pointer (some ⟨w.heap.size, 0, none⟩))).run Tryd.prog Wb = .ok (.agg (headC m old)) Wb := prf.Has.load_hd S2.out.2.2.2.1 HO.out;
         clear HWb TWb S1)
      | ((with_reducible refine at_opg 29 ?_); refine wpList_load_if (o := ⟨some 29, _, _, _, _, _⟩) (by kernel_rfl) 38 (.tmp 4) rfl (.pointer (some ⟨w.heap.size, 0, none⟩)) rfl hlo ?_)
      | ((with_reducible refine at_opg 30 ?_); refine wpList_load_if (o := ⟨some 30, _, _, _, _, _⟩) (by kernel_rfl) 38 (.tmp 7) rfl (.pointer (some ⟨w1.heap.size, 0, none⟩)) rfl hlh ?_)
      | fail)
    have HPV : Hid (Calls Tryd.prog 54 #[.agg (prC 2 I n (.slice a lr c)), .string ⟨#[]⟩, .agg (headC m old), .agg (headC n R)] Wb fun en w' => ∃ e, en = .returned e ∧ ((E = 0 ∧ e = .nilIface) ∨ (E ≠ 0 ∧ ∃ b, e = .iface 114 (.pointer (some ⟨b, 0, none⟩)))) ∧ Below Wb.heap.size Wb w') := Lib.hid (by
      have conv : ∀ {s : ByteArray} {x : Int} {en : Ending} {w' : World}, ErrPost Wb s x E en w' → ∃ e, en = .returned e ∧ ((E = 0 ∧ e = .nilIface) ∨ (E ≠ 0 ∧ ∃ b, e = .iface 114 (.pointer (some ⟨b, 0, none⟩)))) ∧ Below Wb.heap.size Wb w' := by
        rintro s x en w' ⟨e, rfl, he, b⟩
        refine ⟨e, rfl, ?_, b⟩
        rcases he with h | ⟨h, bb, rfl, _⟩
        · exact .inl h
        · exact .inr ⟨h, bb, rfl⟩
      have hE := HE.out
      unfold provE at hE
      rw [if_pos rfl] at hE
      by_cases hI : I = m
      · subst hI
        rw [if_pos rfl] at hE
        refine (proves_prefix HO.out RL.out ⟨#[]⟩ I n (.slice a lr c) Wb E (fun U hU => ?_)).mono fun _ _ => conv
        have h1 := cons_calls HO.out RL.out I n (by have := HNN.out; omega) r a c U ((H.out.below (S2.out.1.trans (hU.mono S2.out.1.size))).rt.rk) (by rw [← HLR.out]; exact HS.out.below (S2.out.1.trans (hU.mono S2.out.1.size)))
        rw [← HLR.out, ← hE] at h1
        exact h1
      · rw [if_neg hI] at hE
        have h1 := proves_none (old := old) (root := R) ⟨#[]⟩ 2 I n m n (by unfold kindOf; rw [if_neg (by omega), if_neg (by omega)]) (.slice a lr c) Wb
        rw [← hE] at h1
        exact h1.mono fun _ _ => conv)
    refine HPV.out.mono ?_
    rintro en w2 ⟨e, rfl, he, b2⟩
    have S3 : Hid (Below w.heap.size w w2 ∧ Has w2 (w.heap.size + 1 + 1) 71 (verC 0 ⟨#[]⟩ ⟨#[]⟩) ∧ Has w2 w.heap.size 38 (headC m old)) :=
      Lib.hid ⟨S2.out.1.trans (b2.mono S2.out.1.size), S2.out.2.1.below b2 S2.out.2.1.lt, S2.out.2.2.2.1.below b2 S2.out.2.2.2.1.lt⟩
    have HER := Lib.hid he
    clear b2 S2 HPV q0 q1 q2 q3 hlh hlo he
    by_cases hE0 : E = 0
    · subst hE0
      obtain rfl : e = .nilIface := by
        rcases HER.out with ⟨_, h⟩ | ⟨h, _⟩
        · exact h
        · exact absurd rfl h
      obtain ⟨j, rfl, hjl, hk⟩ : ∃ j : Nat, m = j ∧ j ≤ L.length ∧ ((j < fl ∧ k = 3) ∨ (fl ≤ j ∧ old = rtAll (leafF L) j ∧ k = 1)) := by
        rcases HK.out with h | h
        · exact absurd rfl h.1
        · exact h.2
      have q1 : w2.cell? ⟨w.heap.size, 0, none⟩ = some (.int .i64 j) := prf.Has.num S3.out.2.2
      go_wp2_with fail
      rcases hk with ⟨h1, rfl⟩ | ⟨h1, h2, rfl⟩
      · refine ((H.out.below S3.out.1).head_err j 14 (.inr ⟨rfl, by omega, by omega, by omega⟩)).mono ?_
        obtain ⟨q, hq⟩ : ∃ q : List UInt8, q = List.replicate 32 0 := ⟨_, rfl⟩
        have QL : Hid (q.length = 32) := Lib.hid (by rw [hq]; simp)
        rw [← hq]
        clear hq
        rintro en w3 ⟨b, rfl, hb, her, b3⟩
        have hev : flt.ev [⟨b, headNm, (j : Int)⟩] 14 = .iface 114 (.pointer (some ⟨b, 0, none⟩)) := rfl
        rw [hev]
        have S4 : Hid (Below w.heap.size w w3 ∧ Has w3 (w.heap.size + 1 + 1) 71 (verC 0 ⟨#[]⟩ ⟨#[]⟩)) := Lib.hid ⟨S3.out.1.trans (b3.mono S3.out.1.size), S3.out.2.1.below b3 S3.out.2.1.lt⟩
        clear b3 S3 her hb hev q1
        go_wp2_with (first
          | ((with_reducible refine at_store (.tmp 9) ?_); refine wpList_store_head (o := ⟨none, _, _, _, _, _⟩) rfl (.tmp 9) (.tmp 40) rfl w3.heap.size 0 0 q (List.replicate 32 0) rfl rfl (made_at _ _ rfl) QL.out (by simp) ?_; intro Wc HWb TWb;
             (have S5 : Hid (Below w.heap.size w Wc ∧ Has Wc (w.heap.size + 1 + 1) 71 (verC 0 ⟨#[]⟩ ⟨#[]⟩)) := (by
               have bb : Below w3.heap.size w3 Wc := ((Below.refl _ _).alloc (Nat.le_refl _) _).trans (TWb.below (by simp) (fun j hj e => by omega))
               exact Lib.hid ⟨S4.out.1.trans (bb.mono S4.out.1.size), S4.out.2.below bb S4.out.2.lt⟩));
             clear HWb TWb S4)
          | ((with_reducible refine at_store (.tmp 6) ?_); refine wpList_store_cells (o := ⟨none, _, _, _, _, _⟩) rfl 71 (.tmp 6) (.tmp 44) rfl (w.heap.size + 1 + 1) (verC 3 ⟨#[]⟩ ⟨#[]⟩) (verC 0 ⟨#[]⟩ ⟨#[]⟩) rfl rfl _ S5.out.2 (by kernel_rfl) rfl (by simp [verC, Value.oneCell']) ?_; intro W9 HW9 TW9)
          | fail)
        exact bodyPost_ret (v := .agg (verC 3 ⟨#[]⟩ ⟨#[]⟩)) (results_cell_row rfl _ _ (w.heap.size + 1 + 1) 71 _ _ _ rfl HW9 Tryd.underlying71 rfl (by kernel_rfl)) rfl
          ⟨rfl, S5.out.1.trans (TW9.below S5.out.1.size (fun j hj e => by omega))⟩
      · refine ((H.out.below S3.out.1).head HNN.out.1 j h1 hjl).mono ?_
        rw [← h2]
        clear h1 h2 hjl
        rintro en w3 ⟨rfl, b3⟩
        have S4 : Hid (Below w.heap.size w w3 ∧ Has w3 (w.heap.size + 1 + 1) 71 (verC 0 ⟨#[]⟩ ⟨#[]⟩) ∧ Has w3 w.heap.size 38 (headC j old)) := Lib.hid ⟨S3.out.1.trans (b3.mono S3.out.1.size), S3.out.2.1.below b3 S3.out.2.1.lt, S3.out.2.2.below b3 S3.out.2.2.lt⟩
        clear b3 S3 q1
        have he := fun V => run_eql_head_same (j : Int) old HO.out V
        have hh1 : Hid ((headC (j : Int) old).size = 33) := Lib.hid (by rw [headC_size, HO.out])
        go_wp2_with (first
          | ((with_reducible refine at_store (.tmp 9) ?_); refine wpList_store_head (o := ⟨none, _, _, _, _, _⟩) rfl (.tmp 9) (.tmp 40) rfl w3.heap.size j 0 old (List.replicate 32 0) rfl rfl (made_at _ _ rfl) HO.out (by simp) ?_; intro Wc HWb TWb;
             (have S5 : Hid (Below w.heap.size w Wc ∧ Has Wc (w.heap.size + 1 + 1) 71 (verC 0 ⟨#[]⟩ ⟨#[]⟩) ∧ Has Wc w.heap.size 38 (headC j old) ∧ Has Wc w3.heap.size 38 (headC j old)) := (by
               have bb : Below w3.heap.size w3 Wc := ((Below.refl _ _).alloc (Nat.le_refl _) _).trans (TWb.below (by simp) (fun j hj e => by omega))
               exact Lib.hid ⟨S4.out.1.trans (bb.mono S4.out.1.size), S4.out.2.1.below bb S4.out.2.1.lt, S4.out.2.2.below bb S4.out.2.2.lt, HWb⟩));
             clear HWb TWb S4)
          | ((with_reducible refine at_op 45 ?_); refine wpList_load_row (o := ⟨some 45, _, _, _, _, _⟩) rfl 38 _ rfl w3.heap.size rfl 38 (headC j old) (0, 0) _ S5.out.2.2.2 Tryd.underlying38 rfl (by rw [hh1.out]; kernel_rfl) ?_)
          | ((with_reducible refine at_op 46 ?_); refine wpList_load_row (o := ⟨some 46, _, _, _, _, _⟩) rfl 38 _ rfl w.heap.size rfl 38 (headC j old) (0, 0) _ S5.out.2.2.1 Tryd.underlying38 rfl (by rw [hh1.out]; kernel_rfl) ?_)
          | ((with_reducible refine at_store (.tmp 6) ?_); refine wpList_store_cells (o := ⟨none, _, _, _, _, _⟩) rfl 71 (.tmp 6) (.tmp 48) rfl (w.heap.size + 1 + 1) (verC 1 ⟨#[]⟩ ⟨#[]⟩) (verC 0 ⟨#[]⟩ ⟨#[]⟩) rfl rfl _ S5.out.2.1 (by kernel_rfl) rfl (by simp [verC, Value.oneCell']) ?_; intro W9 HW9 TW9)
          | fail)
        exact bodyPost_ret (v := .agg (verC 1 ⟨#[]⟩ ⟨#[]⟩)) (results_cell_row rfl _ _ (w.heap.size + 1 + 1) 71 _ _ _ rfl HW9 Tryd.underlying71 rfl (by kernel_rfl)) rfl
          ⟨rfl, S5.out.1.trans (TW9.below S5.out.1.size (fun j hj e => by omega))⟩
    · obtain ⟨b, rfl⟩ : ∃ b, e = .iface 114 (.pointer (some ⟨b, 0, none⟩)) := by
        rcases HER.out with ⟨h, _⟩ | ⟨_, b, h⟩
        · exact absurd h hE0
        · exact ⟨b, h⟩
      obtain rfl : k = 0 := by
        rcases HK.out with h | h
        · exact h.2
        · exact absurd h.1 hE0
      clear hE0
      go_wp2_with (first
        | ((with_reducible refine at_store (.tmp 6) ?_); refine wpList_store_cells (o := ⟨none, _, _, _, _, _⟩) rfl 71 (.tmp 6) (.tmp 34) rfl (w.heap.size + 1 + 1) (verC 0 ⟨#[]⟩ ⟨#[]⟩) (verC 0 ⟨#[]⟩ ⟨#[]⟩) rfl rfl _ S3.out.2.1 (by kernel_rfl) rfl (by simp [verC, Value.oneCell']) ?_; intro W9 HW9 TW9)
        | fail)
      exact bodyPost_ret (v := .agg (verC 0 ⟨#[]⟩ ⟨#[]⟩)) (results_cell_row rfl _ _ (w.heap.size + 1 + 1) 71 _ _ _ rfl HW9 Tryd.underlying71 rfl (by kernel_rfl)) rfl
        ⟨rfl, S3.out.1.trans (TW9.below S3.out.1.size (fun j hj e => by omega))⟩
  · have hE := HE.out
    unfold provE at hE
    rw [if_neg hK] at hE
    obtain rfl : k = 0 := by
      rcases HK.out with h | h
      · exact h.2
      · have := h.1; omega
    have hK1 : (K != 2) = true := by simpa using hK
    have hK2 : (K == 2) = false := by simpa using hK
    clear hK hE
    go_wp2_with (first
      | ((with_reducible refine at_store (.tmp 7) ?_); refine wpList_store_head (o := ⟨none, _, _, _, _, _⟩) rfl (.tmp 7) (.tmp 18) rfl w1.heap.size n 0 R (List.replicate 32 0) rfl rfl (made_at _ _ rfl) RL.out (by simp) ?_; intro Wb HWb TWb;
         (have S2 : Hid (Below w.heap.size w Wb ∧ Has Wb (w.heap.size + 1 + 1) 71 (verC 0 ⟨#[]⟩ ⟨#[]⟩) ∧ Has Wb (w.heap.size + 1) 64 (prC K I n (.slice a lr c))) := (by
           have bb : Below w1.heap.size w1 Wb := ((Below.refl _ _).alloc (Nat.le_refl _) _).trans (TWb.below (by simp) (fun j hj e => by omega))
           exact Lib.hid ⟨S1.out.1.trans (bb.mono S1.out.1.size), S1.out.2.1.below bb S1.out.2.1.lt, S1.out.2.2.1.below bb S1.out.2.2.1.lt⟩));
         have q0 : Wb.cell? ⟨w.heap.size + 1, 0, none⟩ = some (.int .i64 K) := S2.out.2.2.cell 0;
         clear HWb TWb S1)
      | ((with_reducible refine at_store (.tmp 6) ?_); refine wpList_store_cells (o := ⟨none, _, _, _, _, _⟩) rfl 71 (.tmp 6) (.tmp 34) rfl (w.heap.size + 1 + 1) (verC 0 ⟨#[]⟩ ⟨#[]⟩) (verC 0 ⟨#[]⟩ ⟨#[]⟩) rfl rfl _ S2.out.2.1 (by kernel_rfl) rfl (by simp [verC, Value.oneCell']) ?_; intro W9 HW9 TW9)
      | fail)
    exact bodyPost_ret (v := .agg (verC 0 ⟨#[]⟩ ⟨#[]⟩)) (results_cell_row rfl _ _ (w.heap.size + 1 + 1) 71 _ _ _ rfl HW9 Tryd.underlying71 rfl (by kernel_rfl)) rfl
      ⟨rfl, S2.out.1.trans (TW9.below S2.out.1.size (fun j hj e => by omega))⟩
end
end Go.Proofs.YthbncejbcegmgaaDoor.aud
end

section
/- clash: under, Is. -/
namespace Go.Proofs.YthbncejbcegmgaaDoor.clash
open Go Go.RowKit Go.Proofs.YthbncejbcegmgaaDoor.dig

/-- The text under the Node of two sums. -/
def underS (a b : List UInt8) : ByteArray := ⟨(1 :: (a ++ b)).toArray⟩
theorem underS_of (a b : List UInt8) : (⟨#[1]⟩ ++ (⟨a.toArray⟩ : ByteArray) ++ (⟨b.toArray⟩ : ByteArray) : ByteArray) = underS a b := by
  apply ByteArray.ext
  simp [underS, ByteArray.data_append]

set_option maxRecDepth 100000 in
set_option maxHeartbeats 1000000 in
theorem under_calls (a b : List UInt8) (w : World) (ha : a.length = 32) (hb : b.length = 32) :
    Calls Tryd.prog 64 #[.agg (cellsOf a), .agg (cellsOf b)] w fun en w' => en = .returned (.string (underS a b)) ∧ Below w.heap.size w w' := by
  have HA := Lib.hid ha
  have HB := Lib.hid hb
  clear ha hb
  obtain ⟨sa, hsa⟩ : ∃ sa : ByteArray, sa = ⟨a.toArray⟩ := ⟨_, rfl⟩
  obtain ⟨sb, hsb⟩ : ∃ sb : ByteArray, sb = ⟨b.toArray⟩ := ⟨_, rfl⟩
  have za : sa.size = 32 := by rw [hsa]; simpa [ByteArray.size] using HA.out
  have zb : sb.size = 32 := by rw [hsb]; simpa [ByteArray.size] using HB.out
  have HU : Hid ((⟨#[1]⟩ : ByteArray) ++ sa ++ sb = underS a b) := Lib.hid (by rw [hsa, hsb]; exact underS_of a b)
  have HSA := Lib.hid hsa
  have HSB := Lib.hid hsb
  clear hsa hsb
  go_enter Tryd.func64, Tryd.ntmps64
  go_wp2_with fail
  go_name_world W hW
  have B0 : Below w.heap.size w W := by rw [← hW]; exact ((Below.refl _ _).alloc (Nat.le_refl _) _).alloc (by simp) _
  have PA : Has W w.heap.size 33 (cellsOf a) := by rw [← hW]; exact Has.alloc (made_at _ _ rfl) _
  have PB : Has W (w.heap.size + 1) 33 (cellsOf b) := by rw [← hW]; exact made_at _ _ (by simp)
  clear hW
  have ca := run_str_arr (P := Tryd.prog) 74 9 5 Tryd.underlying74 Tryd.underlying5 Tryd.underlying9 _ _ a 32 W.drew PA.drew
  have cb := run_str_arr (P := Tryd.prog) 74 9 5 Tryd.underlying74 Tryd.underlying5 Tryd.underlying9 _ _ b 32 W.drew PB.drew
  rw [HA.out, ← HSA.out] at ca
  rw [HB.out, ← HSB.out] at cb
  have hul := Tryd.underlying33
  have BB := Lib.hid B0.drew
  clear PA PB B0
  have e1 : (⟨#[1]⟩ : ByteArray).size = 1 := rfl
  have e2 : ((⟨#[1]⟩ : ByteArray) ++ sa).size = 33 := by rw [ByteArray.size_append, za]; rfl
  refine wp_region_still_lit (by kernel_rfl) (by kernel_rfl) ?_
  repeat still_step
  refine wpStill_nil ?_
  clear ca cb hul e1 e2
  go_wp2_with fail
  go_ret
  rw [HU.out]
  exact ⟨rfl, BB.out⟩

theorem run_equal_sum' (xs ys : List UInt8) (hx : xs.length = 32) (hy : ys.length = 32) (w : World) : (Op.equalIn 10000 33 (.agg (cellsOf xs)) (.agg (cellsOf ys))).run Tryd.prog w = .ok (xs == ys) w := by
  have := run_equalIn_bytes (P := Tryd.prog) 9998 (t := 33) (e := 5) 32 Tryd.underlying33 Tryd.underlying5 (by kernel_rfl) xs ys hx hy w
  simpa using this

/-- Are two texts a clash? -/
def clashB (s t : ByteArray) : Bool := decide (s ≠ t) && (sum s.data.toList == sum t.data.toList)
theorem clashB_self (s : ByteArray) : clashB s s = false := by simp [clashB]

/-- What lasts while a pair is looked at. -/
structure PairS (w : World) (g : Nat) (s t : ByteArray) (V : World) : Prop where
  rk : Rk V
  own : Has V g 40 #[.string s, .string t]
  bel : Below w.heap.size w V
theorem PairS.below {w V V' : World} {g : Nat} {s t : ByteArray} (h : PairS w g s t V) (b : Below V.heap.size V V') : PairS w g s t V' :=
  ⟨h.rk.below b, h.own.below b h.own.lt, h.bel.trans (b.mono h.bel.size)⟩

set_option maxRecDepth 100000 in
set_option maxHeartbeats 1000000 in
theorem is_calls (s t : ByteArray) (w : World) (hR : Rk w) (hs : s.size < 1000000) (ht : t.size < 1000000) :
    Calls Tryd.prog 16 #[.agg #[.string s, .string t]] w fun en w' => en = .returned (.bool (clashB s t)) ∧ Below w.heap.size w w' := by
  have HR := Lib.hid hR
  clear hR
  by_cases he : s = t
  · subst he
    rw [clashB_self]
    go_enter Tryd.func16, Tryd.ntmps16
    go_wp2_with fail
    go_name_world W hW
    have P0 : Hid (PairS w w.heap.size s s W) := by
      have b0 : Below w.heap.size w W := by rw [← hW]; exact (Below.refl _ _).alloc (Nat.le_refl _) _
      exact Lib.hid ⟨HR.out.below b0, by rw [← hW]; exact made_at _ _ rfl, b0⟩
    clear hW HR
    have c0 : W.cell? ⟨w.heap.size, 0, none⟩ = some (.string s) := P0.out.own.cell 0
    have c1 : W.cell? ⟨w.heap.size, 1, none⟩ = some (.string s) := P0.out.own.cell 1
    go_quiet (fail)
    go_wp2_with fail
    go_ret
    exact ⟨rfl, ⟨P0.out.bel.os, P0.out.bel.tape, P0.out.bel.output, P0.out.bel.size, P0.out.bel.block⟩⟩
  · have hq : clashB s t = (sum s.data.toList == sum t.data.toList) := by simp [clashB, he]
    rw [hq]
    have hne : ¬ s.toList = t.toList := fun e => he (by
      rw [ByteArray.toList_eq, ByteArray.toList_eq] at e
      apply ByteArray.ext
      exact Array.toList_inj.1 e)
    have HQ := Lib.hid hq
    clear hq
    go_enter Tryd.func16, Tryd.ntmps16
    go_wp2_with fail
    go_name_world W hW
    have P0 : Hid (PairS w w.heap.size s t W) := by
      have b0 : Below w.heap.size w W := by rw [← hW]; exact (Below.refl _ _).alloc (Nat.le_refl _) _
      exact Lib.hid ⟨HR.out.below b0, by rw [← hW]; exact made_at _ _ rfl, b0⟩
    clear hW HR
    refine wp_region_S (S := PairS w w.heap.size s t) (by kernel_rfl) (P0.out.below (Below.refl _ _).drew) ?_
    refine AnyS.pure 0 (some 3) (v := .pointer (some ⟨w.heap.size, 0, none⟩)) rfl rfl (by kernel_rfl) (by kernel_rfl) (by kernel_rfl) (fun _ _ _ h => h) (by kernel_rfl) (fun V _ => by go_simp) ?_
    refine AnyS.pure 1 (some 4) (v := .string s) rfl rfl (by kernel_rfl) (by kernel_rfl) (by kernel_rfl) (fun _ _ _ h => h) (by kernel_rfl) (fun V hV => by have c0 := hV.own.cell 0; have c1 := hV.own.cell 1; simp at c0 c1; go_simp) ?_
    refine AnyS.pure 2 (some 5) (v := .pointer (some ⟨w.heap.size, 1, none⟩)) rfl rfl (by kernel_rfl) (by kernel_rfl) (by kernel_rfl) (fun _ _ _ h => h) (by kernel_rfl) (fun V _ => by go_simp) ?_
    refine AnyS.pure 3 (some 6) (v := .string t) rfl rfl (by kernel_rfl) (by kernel_rfl) (by kernel_rfl) (fun _ _ _ h => h) (by kernel_rfl) (fun V hV => by have c0 := hV.own.cell 0; have c1 := hV.own.cell 1; simp at c0 c1; go_simp) ?_
    refine AnyS.pure 4 (some 7) (v := .bool true) rfl rfl (by kernel_rfl) (by kernel_rfl) (by kernel_rfl) (fun _ _ _ h => h) (by kernel_rfl) (fun V _ => by go_simp) ?_
    refine AnyS.pure 5 (some 8) rfl rfl (by kernel_rfl) (by kernel_rfl) (by kernel_rfl) (fun _ _ _ h => h) (by kernel_rfl) (fun _ _ => rfl) ?_
    refine AnyS.pure 6 (some 9) (v := .pointer (some ⟨w.heap.size, 0, none⟩)) rfl rfl (by kernel_rfl) (by kernel_rfl) (by kernel_rfl) (fun _ _ _ h => h) (by kernel_rfl) (fun V _ => by go_simp) ?_
    refine AnyS.pure 7 (some 10) (v := .string s) rfl rfl (by kernel_rfl) (by kernel_rfl) (by kernel_rfl) (fun _ _ _ h => h) (by kernel_rfl) (fun V hV => by have c0 := hV.own.cell 0; have c1 := hV.own.cell 1; simp at c0 c1; go_simp) ?_
    refine AnyS.pure 9 (some 12) (v := .pointer (some ⟨w.heap.size, 1, none⟩)) rfl rfl (by kernel_rfl) (by kernel_rfl) (by kernel_rfl) (fun _ _ _ h => h) (by kernel_rfl) (fun V _ => by go_simp) ?_
    refine AnyS.pure 10 (some 13) (v := .string t) rfl rfl (by kernel_rfl) (by kernel_rfl) (by kernel_rfl) (fun _ _ _ h => h) (by kernel_rfl) (fun V hV => by have c0 := hV.own.cell 0; have c1 := hV.own.cell 1; simp at c0 c1; go_simp) ?_
    refine AnyS.call 8 (some 11) (.agg (cellsOf (sum s.data.toList))) rfl rfl (by kernel_rfl) (by kernel_rfl) (by kernel_rfl) (fun _ _ _ h => h) (by kernel_rfl) 22 Tryd.f22 Tryd.func22 (by kernel_rfl) (by kernel_rfl) _ _ rfl #[.string s] (by first | (simp [Act.eval]; done) | (simp [Act.eval, Act.put]; done)) (fun V hV => (of_calls s V hV.rk (by omega)).mono (fun _ _ h => ⟨h.1, hV.below h.2⟩)) ?_
    simp only [Act.put, List.setIfInBounds_toArray, List.set_cons_zero, List.set_cons_succ]
    refine AnyS.call 11 (some 14) (.agg (cellsOf (sum t.data.toList))) rfl rfl (by kernel_rfl) (by kernel_rfl) (by kernel_rfl) (fun _ _ _ h => h) (by kernel_rfl) 22 Tryd.f22 Tryd.func22 (by kernel_rfl) (by kernel_rfl) _ _ rfl #[.string t] (by first | (simp [Act.eval]; done) | (simp [Act.eval, Act.put]; done)) (fun V hV => (of_calls t V hV.rk (by omega)).mono (fun _ _ h => ⟨h.1, hV.below h.2⟩)) ?_
    simp only [Act.put, List.setIfInBounds_toArray, List.set_cons_zero, List.set_cons_succ]
    refine AnyS.pure 12 (some 15) (v := .bool (sum s.data.toList == sum t.data.toList)) rfl rfl (by kernel_rfl) (by kernel_rfl) (by kernel_rfl) (fun _ _ _ h => h) (by kernel_rfl) (fun V _ => by have he := run_equal_sum' (sum s.data.toList) (sum t.data.toList) (sum_length _) (sum_length _) V; go_simp) ?_
    refine AnyS.pure 13 (some 16) (v := .bool (sum s.data.toList == sum t.data.toList)) rfl rfl (by kernel_rfl) (by kernel_rfl) (by kernel_rfl) (fun _ _ _ h => h) (by kernel_rfl) (fun V _ => by go_simp) ?_
    refine AnyS.pure 14 (some 2) rfl rfl (by kernel_rfl) (by kernel_rfl) (by kernel_rfl) (fun _ _ _ h => h) (by kernel_rfl) (fun _ _ => rfl) ?_
    refine AnyS.done (by kernel_rfl) (fun V hV => ?_) _
    have HB := Lib.hid hV.bel
    clear hV P0
    go_wp2_with fail
    go_ret
    exact ⟨rfl, HB.out⟩
end Go.Proofs.YthbncejbcegmgaaDoor.clash
end

section
/- audit's laws: is, of what is no clash; awake. -/
namespace Go.Proofs.YthbncejbcegmgaaDoor.aud
open Go Go.RowKit Go.Proofs.YthbncejbcegmgaaDoor.dig Go.Proofs.YthbncejbcegmgaaDoor.prf Go.Proofs.YthbncejbcegmgaaDoor.prn Go.Proofs.YthbncejbcegmgaaDoor.clash

theorem is_none (w : World) (hR : Rk w) : Calls Tryd.prog 16 #[.agg #[.string ⟨#[]⟩, .string ⟨#[]⟩]] w fun en w' => en = .returned (.bool false) ∧ Below w.heap.size w w' := by
  have h := is_calls ⟨#[]⟩ ⟨#[]⟩ w hR (by decide) (by decide)
  rw [clashB_self] at h
  exact h

/-- What lasts while a verdict is looked at. -/
structure IsV (w : World) (k : Int) (V : World) : Prop where
  rk : Rk V
  own : Has V w.heap.size 71 (verC k ⟨#[]⟩ ⟨#[]⟩)
  bel : Below w.heap.size w V
theorem IsV.below {w V V' : World} {k : Int} (h : IsV w k V) (b : Below V.heap.size V V') : IsV w k V' :=
  ⟨h.rk.below b, h.own.below b h.own.lt, h.bel.trans (b.mono h.bel.size)⟩
theorem pair_range {V : World} {g : Nat} {k : Int} {a b : ByteArray} (h : Has V g 71 (verC k a b)) : V.rangeAt g 1 [.string a, .string b] := fun j u hj => by
  rw [h.cell, ← hj]
  rcases j with _ | _ | j
  · simp [verC]
  · simp [verC]
  · simp at hj
theorem built_pair : Tryd.prog.built 40 [] = some #[.string ⟨#[]⟩, .string ⟨#[]⟩] := by kernel_rfl
theorem exec_zero_pair {ev : Operand → Value} {o : Oper} {w : World} (ho : o.op = .build 40 #[]) : (execOp ev o).run Tryd.prog w = .ok (.value (.agg #[.string ⟨#[]⟩, .string ⟨#[]⟩])) w := by
  have hr := run_build (P := Tryd.prog) w 40 #[] _ built_pair
  unfold execOp
  simp only [ho, Sem.run_bind, Sem.run_pure]
  simp [hr]

set_option maxRecDepth 100000 in
set_option maxHeartbeats 2000000 in
theorem is_calls0 (k : Int) (hk : k = 0 ∨ k = 1 ∨ k = 3) (w : World) (hR : Rk w) :
    Calls Tryd.prog 29 #[.agg (verC k ⟨#[]⟩ ⟨#[]⟩), .int .i64 k] w fun en w' => en = .returned (.bool true) ∧ Below w.heap.size w w' := by
  have HR := Lib.hid hR
  clear hR
  rcases hk with rfl | rfl | rfl
  · go_enter Tryd.func29, Tryd.ntmps29
    go_wp2_with fail
    go_name_world W hW
    have P0 : Hid (IsV w 0 W) := by
      have b0 : Below w.heap.size w W := by rw [← hW]; exact (Below.refl _ _).alloc (Nat.le_refl _) _
      exact Lib.hid ⟨HR.out.below b0, by rw [← hW]; exact made_at _ _ rfl, b0⟩
    clear hW HR
    refine wp_region_S (S := IsV w 0) (by kernel_rfl) (P0.out.below (Below.refl _ _).drew) ?_
    refine AnyS.pure 0 (some 5) (v := .pointer (some ⟨w.heap.size, 0, none⟩)) rfl rfl (by kernel_rfl) (by kernel_rfl) (by kernel_rfl) (fun _ _ _ h => h) (by kernel_rfl) (fun V hV => by go_simp) ?_
    refine AnyS.pure 1 (some 6) (v := .int .i64 0) rfl rfl (by kernel_rfl) (by kernel_rfl) (by kernel_rfl) (fun _ _ _ h => h) (by kernel_rfl) (fun V hV => by have c0 := hV.own.cell 0; have c1 := hV.own.cell 1; have c2 := hV.own.cell 2; simp at c0 c1 c2; go_simp) ?_
    simp only [Act.put, List.setIfInBounds_toArray, List.set_cons_zero, List.set_cons_succ]
    refine AnyS.pure 2 (some 7) (v := .int .i64 0) rfl rfl (by kernel_rfl) (by kernel_rfl) (by kernel_rfl) (fun _ _ _ h => h) (by kernel_rfl) (fun V hV => by rfl) ?_
    refine AnyS.pure 3 (some 8) (v := .bool true) rfl rfl (by kernel_rfl) (by kernel_rfl) (by kernel_rfl) (fun _ _ _ h => h) (by kernel_rfl) (fun V hV => by go_simp) ?_
    simp only [Act.put, List.setIfInBounds_toArray, List.set_cons_zero, List.set_cons_succ]
    refine AnyS.pure 4 (some 9) (v := .bool true) rfl rfl (by kernel_rfl) (by kernel_rfl) (by kernel_rfl) (fun _ _ _ h => h) (by kernel_rfl) (fun V hV => by rfl) ?_
    refine AnyS.pure 5 (some 10) (v := .pointer (some ⟨w.heap.size, 0, none⟩)) rfl rfl (by kernel_rfl) (by kernel_rfl) (by kernel_rfl) (fun _ _ _ h => h) (by kernel_rfl) (fun V hV => by go_simp) ?_
    simp only [Act.put, List.setIfInBounds_toArray, List.set_cons_zero, List.set_cons_succ]
    refine AnyS.pure 6 (some 11) (v := .int .i64 0) rfl rfl (by kernel_rfl) (by kernel_rfl) (by kernel_rfl) (fun _ _ _ h => h) (by kernel_rfl) (fun V hV => by have c0 := hV.own.cell 0; have c1 := hV.own.cell 1; have c2 := hV.own.cell 2; simp at c0 c1 c2; go_simp) ?_
    refine AnyS.pure 7 (some 12) (v := .bool false) rfl rfl (by kernel_rfl) (by kernel_rfl) (by kernel_rfl) (fun _ _ _ h => h) (by kernel_rfl) (fun V hV => by go_simp) ?_
    simp only [Act.put, List.setIfInBounds_toArray, List.set_cons_zero, List.set_cons_succ]
    refine AnyS.pure 8 (some 13) (v := .pointer (some ⟨w.heap.size, 1, none⟩)) rfl rfl (by kernel_rfl) (by kernel_rfl) (by kernel_rfl) (fun _ _ _ h => h) (by kernel_rfl) (fun V hV => by go_simp) ?_
    refine AnyS.pure 9 (some 14) (v := .agg #[.string ⟨#[]⟩, .string ⟨#[]⟩]) rfl rfl (by kernel_rfl) (by kernel_rfl) (by kernel_rfl) (fun _ _ _ h => h) (by kernel_rfl) (fun V hV => exec_load 40 (.tmp 13) rfl (.pointer (some ⟨w.heap.size, 1, none⟩)) (by kernel_rfl) (run_loadAt_mid V w.heap.size 1 40 [.string ⟨#[]⟩, .string ⟨#[]⟩] _ (pair_range hV.own) Tryd.underlying40 rfl (by kernel_rfl))) ?_
    simp only [Act.put, List.setIfInBounds_toArray, List.set_cons_zero, List.set_cons_succ]
    refine AnyS.call 10 (some 15) (.bool false) rfl rfl (by kernel_rfl) (by kernel_rfl) (by kernel_rfl) (fun _ _ _ h => h) (by kernel_rfl) 16 Tryd.f16 Tryd.func16 (by kernel_rfl) (by kernel_rfl) _ _ rfl #[.agg #[.string ⟨#[]⟩, .string ⟨#[]⟩]] (by first | (simp [Act.eval]; done) | (simp [Act.eval, Act.put]; done)) (fun V hV => (is_none V hV.rk).mono fun _ _ h => ⟨h.1, hV.below h.2⟩) ?_
    refine AnyS.pure 11 (some 16) (v := .bool true) rfl rfl (by kernel_rfl) (by kernel_rfl) (by kernel_rfl) (fun _ _ _ h => h) (by kernel_rfl) (fun V hV => by go_simp) ?_
    simp only [Act.put, List.setIfInBounds_toArray, List.set_cons_zero, List.set_cons_succ]
    refine AnyS.pure 12 (some 17) (v := .bool true) rfl rfl (by kernel_rfl) (by kernel_rfl) (by kernel_rfl) (fun _ _ _ h => h) (by kernel_rfl) (fun V hV => by rfl) ?_
    refine AnyS.pure 13 (some 18) (v := .bool true) rfl rfl (by kernel_rfl) (by kernel_rfl) (by kernel_rfl) (fun _ _ _ h => h) (by kernel_rfl) (fun V hV => by rfl) ?_
    simp only [Act.put, List.setIfInBounds_toArray, List.set_cons_zero, List.set_cons_succ]
    refine AnyS.pure 14 (some 19) (v := .pointer (some ⟨w.heap.size, 0, none⟩)) rfl rfl (by kernel_rfl) (by kernel_rfl) (by kernel_rfl) (fun _ _ _ h => h) (by kernel_rfl) (fun V hV => by go_simp) ?_
    refine AnyS.pure 15 (some 20) (v := .int .i64 0) rfl rfl (by kernel_rfl) (by kernel_rfl) (by kernel_rfl) (fun _ _ _ h => h) (by kernel_rfl) (fun V hV => by have c0 := hV.own.cell 0; have c1 := hV.own.cell 1; have c2 := hV.own.cell 2; simp at c0 c1 c2; go_simp) ?_
    simp only [Act.put, List.setIfInBounds_toArray, List.set_cons_zero, List.set_cons_succ]
    refine AnyS.pure 16 (some 21) (v := .bool false) rfl rfl (by kernel_rfl) (by kernel_rfl) (by kernel_rfl) (fun _ _ _ h => h) (by kernel_rfl) (fun V hV => by go_simp) ?_
    refine AnyS.pure 17 (some 22) (v := .bool false) rfl rfl (by kernel_rfl) (by kernel_rfl) (by kernel_rfl) (fun _ _ _ h => h) (by kernel_rfl) (fun V hV => by rfl) ?_
    simp only [Act.put, List.setIfInBounds_toArray, List.set_cons_zero, List.set_cons_succ]
    refine AnyS.pure 18 (some 23) (v := .pointer (some ⟨w.heap.size, 1, none⟩)) rfl rfl (by kernel_rfl) (by kernel_rfl) (by kernel_rfl) (fun _ _ _ h => h) (by kernel_rfl) (fun V hV => by go_simp) ?_
    refine AnyS.pure 19 (some 24) (v := .agg #[.string ⟨#[]⟩, .string ⟨#[]⟩]) rfl rfl (by kernel_rfl) (by kernel_rfl) (by kernel_rfl) (fun _ _ _ h => h) (by kernel_rfl) (fun V hV => exec_load 40 (.tmp 23) rfl (.pointer (some ⟨w.heap.size, 1, none⟩)) (by kernel_rfl) (run_loadAt_mid V w.heap.size 1 40 [.string ⟨#[]⟩, .string ⟨#[]⟩] _ (pair_range hV.own) Tryd.underlying40 rfl (by kernel_rfl))) ?_
    simp only [Act.put, List.setIfInBounds_toArray, List.set_cons_zero, List.set_cons_succ]
    refine AnyS.pure 20 (some 25) (v := .agg #[.string ⟨#[]⟩, .string ⟨#[]⟩]) rfl rfl (by kernel_rfl) (by kernel_rfl) (by kernel_rfl) (fun _ _ _ h => h) (by kernel_rfl) (fun V hV => exec_zero_pair rfl) ?_
    refine AnyS.pure 21 (some 26) (v := .bool true) rfl rfl (by kernel_rfl) (by kernel_rfl) (by kernel_rfl) (fun _ _ _ h => h) (by kernel_rfl) (fun V hV => exec_eql_of (a := .agg #[.string ⟨#[]⟩, .string ⟨#[]⟩]) (b := .agg #[.string ⟨#[]⟩, .string ⟨#[]⟩]) rfl (by first | rfl | simp [Act.eval]) (by first | rfl | simp [Act.eval]) (by kernel_rfl) (by first | (simp [eqGuard]; done) | kernel_rfl | go_simp)) ?_
    simp only [Act.put, List.setIfInBounds_toArray, List.set_cons_zero, List.set_cons_succ]
    refine AnyS.pure 22 (some 27) (v := .bool true) rfl rfl (by kernel_rfl) (by kernel_rfl) (by kernel_rfl) (fun _ _ _ h => h) (by kernel_rfl) (fun V hV => by rfl) ?_
    refine AnyS.pure 23 (some 28) (v := .bool true) rfl rfl (by kernel_rfl) (by kernel_rfl) (by kernel_rfl) (fun _ _ _ h => h) (by kernel_rfl) (fun V hV => by rfl) ?_
    simp only [Act.put, List.setIfInBounds_toArray, List.set_cons_zero, List.set_cons_succ]
    refine AnyS.pure 24 (some 4) (v := .bool true) rfl rfl (by kernel_rfl) (by kernel_rfl) (by kernel_rfl) (fun _ _ _ h => h) (by kernel_rfl) (fun V hV => by rfl) ?_
    simp only [Act.put, List.setIfInBounds_toArray, List.set_cons_zero, List.set_cons_succ]
    refine AnyS.done (by kernel_rfl) (fun V hV => ?_) _
    have HB := Lib.hid hV.bel
    clear hV P0
    go_wp2_with fail
    go_ret
    exact ⟨rfl, HB.out⟩
  · go_enter Tryd.func29, Tryd.ntmps29
    go_wp2_with fail
    go_name_world W hW
    have P0 : Hid (IsV w 1 W) := by
      have b0 : Below w.heap.size w W := by rw [← hW]; exact (Below.refl _ _).alloc (Nat.le_refl _) _
      exact Lib.hid ⟨HR.out.below b0, by rw [← hW]; exact made_at _ _ rfl, b0⟩
    clear hW HR
    refine wp_region_S (S := IsV w 1) (by kernel_rfl) (P0.out.below (Below.refl _ _).drew) ?_
    refine AnyS.pure 0 (some 5) (v := .pointer (some ⟨w.heap.size, 0, none⟩)) rfl rfl (by kernel_rfl) (by kernel_rfl) (by kernel_rfl) (fun _ _ _ h => h) (by kernel_rfl) (fun V hV => by go_simp) ?_
    refine AnyS.pure 1 (some 6) (v := .int .i64 1) rfl rfl (by kernel_rfl) (by kernel_rfl) (by kernel_rfl) (fun _ _ _ h => h) (by kernel_rfl) (fun V hV => by have c0 := hV.own.cell 0; have c1 := hV.own.cell 1; have c2 := hV.own.cell 2; simp at c0 c1 c2; go_simp) ?_
    simp only [Act.put, List.setIfInBounds_toArray, List.set_cons_zero, List.set_cons_succ]
    refine AnyS.pure 2 (some 7) (v := .int .i64 1) rfl rfl (by kernel_rfl) (by kernel_rfl) (by kernel_rfl) (fun _ _ _ h => h) (by kernel_rfl) (fun V hV => by rfl) ?_
    refine AnyS.pure 3 (some 8) (v := .bool true) rfl rfl (by kernel_rfl) (by kernel_rfl) (by kernel_rfl) (fun _ _ _ h => h) (by kernel_rfl) (fun V hV => by go_simp) ?_
    simp only [Act.put, List.setIfInBounds_toArray, List.set_cons_zero, List.set_cons_succ]
    refine AnyS.pure 4 (some 9) (v := .bool true) rfl rfl (by kernel_rfl) (by kernel_rfl) (by kernel_rfl) (fun _ _ _ h => h) (by kernel_rfl) (fun V hV => by rfl) ?_
    refine AnyS.pure 5 (some 10) (v := .pointer (some ⟨w.heap.size, 0, none⟩)) rfl rfl (by kernel_rfl) (by kernel_rfl) (by kernel_rfl) (fun _ _ _ h => h) (by kernel_rfl) (fun V hV => by go_simp) ?_
    simp only [Act.put, List.setIfInBounds_toArray, List.set_cons_zero, List.set_cons_succ]
    refine AnyS.pure 6 (some 11) (v := .int .i64 1) rfl rfl (by kernel_rfl) (by kernel_rfl) (by kernel_rfl) (fun _ _ _ h => h) (by kernel_rfl) (fun V hV => by have c0 := hV.own.cell 0; have c1 := hV.own.cell 1; have c2 := hV.own.cell 2; simp at c0 c1 c2; go_simp) ?_
    refine AnyS.pure 7 (some 12) (v := .bool false) rfl rfl (by kernel_rfl) (by kernel_rfl) (by kernel_rfl) (fun _ _ _ h => h) (by kernel_rfl) (fun V hV => by go_simp) ?_
    simp only [Act.put, List.setIfInBounds_toArray, List.set_cons_zero, List.set_cons_succ]
    refine AnyS.pure 8 (some 13) (v := .pointer (some ⟨w.heap.size, 1, none⟩)) rfl rfl (by kernel_rfl) (by kernel_rfl) (by kernel_rfl) (fun _ _ _ h => h) (by kernel_rfl) (fun V hV => by go_simp) ?_
    refine AnyS.pure 9 (some 14) (v := .agg #[.string ⟨#[]⟩, .string ⟨#[]⟩]) rfl rfl (by kernel_rfl) (by kernel_rfl) (by kernel_rfl) (fun _ _ _ h => h) (by kernel_rfl) (fun V hV => exec_load 40 (.tmp 13) rfl (.pointer (some ⟨w.heap.size, 1, none⟩)) (by kernel_rfl) (run_loadAt_mid V w.heap.size 1 40 [.string ⟨#[]⟩, .string ⟨#[]⟩] _ (pair_range hV.own) Tryd.underlying40 rfl (by kernel_rfl))) ?_
    simp only [Act.put, List.setIfInBounds_toArray, List.set_cons_zero, List.set_cons_succ]
    refine AnyS.call 10 (some 15) (.bool false) rfl rfl (by kernel_rfl) (by kernel_rfl) (by kernel_rfl) (fun _ _ _ h => h) (by kernel_rfl) 16 Tryd.f16 Tryd.func16 (by kernel_rfl) (by kernel_rfl) _ _ rfl #[.agg #[.string ⟨#[]⟩, .string ⟨#[]⟩]] (by first | (simp [Act.eval]; done) | (simp [Act.eval, Act.put]; done)) (fun V hV => (is_none V hV.rk).mono fun _ _ h => ⟨h.1, hV.below h.2⟩) ?_
    refine AnyS.pure 11 (some 16) (v := .bool true) rfl rfl (by kernel_rfl) (by kernel_rfl) (by kernel_rfl) (fun _ _ _ h => h) (by kernel_rfl) (fun V hV => by go_simp) ?_
    simp only [Act.put, List.setIfInBounds_toArray, List.set_cons_zero, List.set_cons_succ]
    refine AnyS.pure 12 (some 17) (v := .bool true) rfl rfl (by kernel_rfl) (by kernel_rfl) (by kernel_rfl) (fun _ _ _ h => h) (by kernel_rfl) (fun V hV => by rfl) ?_
    refine AnyS.pure 13 (some 18) (v := .bool true) rfl rfl (by kernel_rfl) (by kernel_rfl) (by kernel_rfl) (fun _ _ _ h => h) (by kernel_rfl) (fun V hV => by rfl) ?_
    simp only [Act.put, List.setIfInBounds_toArray, List.set_cons_zero, List.set_cons_succ]
    refine AnyS.pure 14 (some 19) (v := .pointer (some ⟨w.heap.size, 0, none⟩)) rfl rfl (by kernel_rfl) (by kernel_rfl) (by kernel_rfl) (fun _ _ _ h => h) (by kernel_rfl) (fun V hV => by go_simp) ?_
    refine AnyS.pure 15 (some 20) (v := .int .i64 1) rfl rfl (by kernel_rfl) (by kernel_rfl) (by kernel_rfl) (fun _ _ _ h => h) (by kernel_rfl) (fun V hV => by have c0 := hV.own.cell 0; have c1 := hV.own.cell 1; have c2 := hV.own.cell 2; simp at c0 c1 c2; go_simp) ?_
    simp only [Act.put, List.setIfInBounds_toArray, List.set_cons_zero, List.set_cons_succ]
    refine AnyS.pure 16 (some 21) (v := .bool false) rfl rfl (by kernel_rfl) (by kernel_rfl) (by kernel_rfl) (fun _ _ _ h => h) (by kernel_rfl) (fun V hV => by go_simp) ?_
    refine AnyS.pure 17 (some 22) (v := .bool false) rfl rfl (by kernel_rfl) (by kernel_rfl) (by kernel_rfl) (fun _ _ _ h => h) (by kernel_rfl) (fun V hV => by rfl) ?_
    simp only [Act.put, List.setIfInBounds_toArray, List.set_cons_zero, List.set_cons_succ]
    refine AnyS.pure 18 (some 23) (v := .pointer (some ⟨w.heap.size, 1, none⟩)) rfl rfl (by kernel_rfl) (by kernel_rfl) (by kernel_rfl) (fun _ _ _ h => h) (by kernel_rfl) (fun V hV => by go_simp) ?_
    refine AnyS.pure 19 (some 24) (v := .agg #[.string ⟨#[]⟩, .string ⟨#[]⟩]) rfl rfl (by kernel_rfl) (by kernel_rfl) (by kernel_rfl) (fun _ _ _ h => h) (by kernel_rfl) (fun V hV => exec_load 40 (.tmp 23) rfl (.pointer (some ⟨w.heap.size, 1, none⟩)) (by kernel_rfl) (run_loadAt_mid V w.heap.size 1 40 [.string ⟨#[]⟩, .string ⟨#[]⟩] _ (pair_range hV.own) Tryd.underlying40 rfl (by kernel_rfl))) ?_
    simp only [Act.put, List.setIfInBounds_toArray, List.set_cons_zero, List.set_cons_succ]
    refine AnyS.pure 20 (some 25) (v := .agg #[.string ⟨#[]⟩, .string ⟨#[]⟩]) rfl rfl (by kernel_rfl) (by kernel_rfl) (by kernel_rfl) (fun _ _ _ h => h) (by kernel_rfl) (fun V hV => exec_zero_pair rfl) ?_
    refine AnyS.pure 21 (some 26) (v := .bool true) rfl rfl (by kernel_rfl) (by kernel_rfl) (by kernel_rfl) (fun _ _ _ h => h) (by kernel_rfl) (fun V hV => exec_eql_of (a := .agg #[.string ⟨#[]⟩, .string ⟨#[]⟩]) (b := .agg #[.string ⟨#[]⟩, .string ⟨#[]⟩]) rfl (by first | rfl | simp [Act.eval]) (by first | rfl | simp [Act.eval]) (by kernel_rfl) (by first | (simp [eqGuard]; done) | kernel_rfl | go_simp)) ?_
    simp only [Act.put, List.setIfInBounds_toArray, List.set_cons_zero, List.set_cons_succ]
    refine AnyS.pure 22 (some 27) (v := .bool true) rfl rfl (by kernel_rfl) (by kernel_rfl) (by kernel_rfl) (fun _ _ _ h => h) (by kernel_rfl) (fun V hV => by rfl) ?_
    refine AnyS.pure 23 (some 28) (v := .bool true) rfl rfl (by kernel_rfl) (by kernel_rfl) (by kernel_rfl) (fun _ _ _ h => h) (by kernel_rfl) (fun V hV => by rfl) ?_
    simp only [Act.put, List.setIfInBounds_toArray, List.set_cons_zero, List.set_cons_succ]
    refine AnyS.pure 24 (some 4) (v := .bool true) rfl rfl (by kernel_rfl) (by kernel_rfl) (by kernel_rfl) (fun _ _ _ h => h) (by kernel_rfl) (fun V hV => by rfl) ?_
    simp only [Act.put, List.setIfInBounds_toArray, List.set_cons_zero, List.set_cons_succ]
    refine AnyS.done (by kernel_rfl) (fun V hV => ?_) _
    have HB := Lib.hid hV.bel
    clear hV P0
    go_wp2_with fail
    go_ret
    exact ⟨rfl, HB.out⟩
  · go_enter Tryd.func29, Tryd.ntmps29
    go_wp2_with fail
    go_name_world W hW
    have P0 : Hid (IsV w 3 W) := by
      have b0 : Below w.heap.size w W := by rw [← hW]; exact (Below.refl _ _).alloc (Nat.le_refl _) _
      exact Lib.hid ⟨HR.out.below b0, by rw [← hW]; exact made_at _ _ rfl, b0⟩
    clear hW HR
    refine wp_region_S (S := IsV w 3) (by kernel_rfl) (P0.out.below (Below.refl _ _).drew) ?_
    refine AnyS.pure 0 (some 5) (v := .pointer (some ⟨w.heap.size, 0, none⟩)) rfl rfl (by kernel_rfl) (by kernel_rfl) (by kernel_rfl) (fun _ _ _ h => h) (by kernel_rfl) (fun V hV => by go_simp) ?_
    refine AnyS.pure 1 (some 6) (v := .int .i64 3) rfl rfl (by kernel_rfl) (by kernel_rfl) (by kernel_rfl) (fun _ _ _ h => h) (by kernel_rfl) (fun V hV => by have c0 := hV.own.cell 0; have c1 := hV.own.cell 1; have c2 := hV.own.cell 2; simp at c0 c1 c2; go_simp) ?_
    simp only [Act.put, List.setIfInBounds_toArray, List.set_cons_zero, List.set_cons_succ]
    refine AnyS.pure 2 (some 7) (v := .int .i64 3) rfl rfl (by kernel_rfl) (by kernel_rfl) (by kernel_rfl) (fun _ _ _ h => h) (by kernel_rfl) (fun V hV => by rfl) ?_
    refine AnyS.pure 3 (some 8) (v := .bool true) rfl rfl (by kernel_rfl) (by kernel_rfl) (by kernel_rfl) (fun _ _ _ h => h) (by kernel_rfl) (fun V hV => by go_simp) ?_
    simp only [Act.put, List.setIfInBounds_toArray, List.set_cons_zero, List.set_cons_succ]
    refine AnyS.pure 4 (some 9) (v := .bool true) rfl rfl (by kernel_rfl) (by kernel_rfl) (by kernel_rfl) (fun _ _ _ h => h) (by kernel_rfl) (fun V hV => by rfl) ?_
    refine AnyS.pure 5 (some 10) (v := .pointer (some ⟨w.heap.size, 0, none⟩)) rfl rfl (by kernel_rfl) (by kernel_rfl) (by kernel_rfl) (fun _ _ _ h => h) (by kernel_rfl) (fun V hV => by go_simp) ?_
    simp only [Act.put, List.setIfInBounds_toArray, List.set_cons_zero, List.set_cons_succ]
    refine AnyS.pure 6 (some 11) (v := .int .i64 3) rfl rfl (by kernel_rfl) (by kernel_rfl) (by kernel_rfl) (fun _ _ _ h => h) (by kernel_rfl) (fun V hV => by have c0 := hV.own.cell 0; have c1 := hV.own.cell 1; have c2 := hV.own.cell 2; simp at c0 c1 c2; go_simp) ?_
    refine AnyS.pure 7 (some 12) (v := .bool false) rfl rfl (by kernel_rfl) (by kernel_rfl) (by kernel_rfl) (fun _ _ _ h => h) (by kernel_rfl) (fun V hV => by go_simp) ?_
    simp only [Act.put, List.setIfInBounds_toArray, List.set_cons_zero, List.set_cons_succ]
    refine AnyS.pure 8 (some 13) (v := .pointer (some ⟨w.heap.size, 1, none⟩)) rfl rfl (by kernel_rfl) (by kernel_rfl) (by kernel_rfl) (fun _ _ _ h => h) (by kernel_rfl) (fun V hV => by go_simp) ?_
    refine AnyS.pure 9 (some 14) (v := .agg #[.string ⟨#[]⟩, .string ⟨#[]⟩]) rfl rfl (by kernel_rfl) (by kernel_rfl) (by kernel_rfl) (fun _ _ _ h => h) (by kernel_rfl) (fun V hV => exec_load 40 (.tmp 13) rfl (.pointer (some ⟨w.heap.size, 1, none⟩)) (by kernel_rfl) (run_loadAt_mid V w.heap.size 1 40 [.string ⟨#[]⟩, .string ⟨#[]⟩] _ (pair_range hV.own) Tryd.underlying40 rfl (by kernel_rfl))) ?_
    simp only [Act.put, List.setIfInBounds_toArray, List.set_cons_zero, List.set_cons_succ]
    refine AnyS.call 10 (some 15) (.bool false) rfl rfl (by kernel_rfl) (by kernel_rfl) (by kernel_rfl) (fun _ _ _ h => h) (by kernel_rfl) 16 Tryd.f16 Tryd.func16 (by kernel_rfl) (by kernel_rfl) _ _ rfl #[.agg #[.string ⟨#[]⟩, .string ⟨#[]⟩]] (by first | (simp [Act.eval]; done) | (simp [Act.eval, Act.put]; done)) (fun V hV => (is_none V hV.rk).mono fun _ _ h => ⟨h.1, hV.below h.2⟩) ?_
    refine AnyS.pure 11 (some 16) (v := .bool true) rfl rfl (by kernel_rfl) (by kernel_rfl) (by kernel_rfl) (fun _ _ _ h => h) (by kernel_rfl) (fun V hV => by go_simp) ?_
    simp only [Act.put, List.setIfInBounds_toArray, List.set_cons_zero, List.set_cons_succ]
    refine AnyS.pure 12 (some 17) (v := .bool true) rfl rfl (by kernel_rfl) (by kernel_rfl) (by kernel_rfl) (fun _ _ _ h => h) (by kernel_rfl) (fun V hV => by rfl) ?_
    refine AnyS.pure 13 (some 18) (v := .bool true) rfl rfl (by kernel_rfl) (by kernel_rfl) (by kernel_rfl) (fun _ _ _ h => h) (by kernel_rfl) (fun V hV => by rfl) ?_
    simp only [Act.put, List.setIfInBounds_toArray, List.set_cons_zero, List.set_cons_succ]
    refine AnyS.pure 14 (some 19) (v := .pointer (some ⟨w.heap.size, 0, none⟩)) rfl rfl (by kernel_rfl) (by kernel_rfl) (by kernel_rfl) (fun _ _ _ h => h) (by kernel_rfl) (fun V hV => by go_simp) ?_
    refine AnyS.pure 15 (some 20) (v := .int .i64 3) rfl rfl (by kernel_rfl) (by kernel_rfl) (by kernel_rfl) (fun _ _ _ h => h) (by kernel_rfl) (fun V hV => by have c0 := hV.own.cell 0; have c1 := hV.own.cell 1; have c2 := hV.own.cell 2; simp at c0 c1 c2; go_simp) ?_
    simp only [Act.put, List.setIfInBounds_toArray, List.set_cons_zero, List.set_cons_succ]
    refine AnyS.pure 16 (some 21) (v := .bool false) rfl rfl (by kernel_rfl) (by kernel_rfl) (by kernel_rfl) (fun _ _ _ h => h) (by kernel_rfl) (fun V hV => by go_simp) ?_
    refine AnyS.pure 17 (some 22) (v := .bool false) rfl rfl (by kernel_rfl) (by kernel_rfl) (by kernel_rfl) (fun _ _ _ h => h) (by kernel_rfl) (fun V hV => by rfl) ?_
    simp only [Act.put, List.setIfInBounds_toArray, List.set_cons_zero, List.set_cons_succ]
    refine AnyS.pure 18 (some 23) (v := .pointer (some ⟨w.heap.size, 1, none⟩)) rfl rfl (by kernel_rfl) (by kernel_rfl) (by kernel_rfl) (fun _ _ _ h => h) (by kernel_rfl) (fun V hV => by go_simp) ?_
    refine AnyS.pure 19 (some 24) (v := .agg #[.string ⟨#[]⟩, .string ⟨#[]⟩]) rfl rfl (by kernel_rfl) (by kernel_rfl) (by kernel_rfl) (fun _ _ _ h => h) (by kernel_rfl) (fun V hV => exec_load 40 (.tmp 23) rfl (.pointer (some ⟨w.heap.size, 1, none⟩)) (by kernel_rfl) (run_loadAt_mid V w.heap.size 1 40 [.string ⟨#[]⟩, .string ⟨#[]⟩] _ (pair_range hV.own) Tryd.underlying40 rfl (by kernel_rfl))) ?_
    simp only [Act.put, List.setIfInBounds_toArray, List.set_cons_zero, List.set_cons_succ]
    refine AnyS.pure 20 (some 25) (v := .agg #[.string ⟨#[]⟩, .string ⟨#[]⟩]) rfl rfl (by kernel_rfl) (by kernel_rfl) (by kernel_rfl) (fun _ _ _ h => h) (by kernel_rfl) (fun V hV => exec_zero_pair rfl) ?_
    refine AnyS.pure 21 (some 26) (v := .bool true) rfl rfl (by kernel_rfl) (by kernel_rfl) (by kernel_rfl) (fun _ _ _ h => h) (by kernel_rfl) (fun V hV => exec_eql_of (a := .agg #[.string ⟨#[]⟩, .string ⟨#[]⟩]) (b := .agg #[.string ⟨#[]⟩, .string ⟨#[]⟩]) rfl (by first | rfl | simp [Act.eval]) (by first | rfl | simp [Act.eval]) (by kernel_rfl) (by first | (simp [eqGuard]; done) | kernel_rfl | go_simp)) ?_
    simp only [Act.put, List.setIfInBounds_toArray, List.set_cons_zero, List.set_cons_succ]
    refine AnyS.pure 22 (some 27) (v := .bool true) rfl rfl (by kernel_rfl) (by kernel_rfl) (by kernel_rfl) (fun _ _ _ h => h) (by kernel_rfl) (fun V hV => by rfl) ?_
    refine AnyS.pure 23 (some 28) (v := .bool true) rfl rfl (by kernel_rfl) (by kernel_rfl) (by kernel_rfl) (fun _ _ _ h => h) (by kernel_rfl) (fun V hV => by rfl) ?_
    simp only [Act.put, List.setIfInBounds_toArray, List.set_cons_zero, List.set_cons_succ]
    refine AnyS.pure 24 (some 4) (v := .bool true) rfl rfl (by kernel_rfl) (by kernel_rfl) (by kernel_rfl) (fun _ _ _ h => h) (by kernel_rfl) (fun V hV => by rfl) ?_
    simp only [Act.put, List.setIfInBounds_toArray, List.set_cons_zero, List.set_cons_succ]
    refine AnyS.done (by kernel_rfl) (fun V hV => ?_) _
    have HB := Lib.hid hV.bel
    clear hV P0
    go_wp2_with fail
    go_ret
    exact ⟨rfl, HB.out⟩

theorem two_root (f : Nat → List UInt8) : rtAll f 2 = nodeS (f 0) (f 1) := by
  unfold rtAll
  rw [if_neg (by decide), rt_two f 0 (by decide), show half 2 = 1 from half_pow 0, rt_one, rt_one]
theorem two_path (f : Nat → List UInt8) : path f 0 0 2 = [f 1] := by
  rw [path, dif_pos (by decide), show half 2 = 1 from half_pow 0, if_pos (by decide), show 2 - 1 = 1 from rfl, path, dif_neg (by decide), rt_one]
  rfl
theorem up_two (z x s : List UInt8) : up z x [s] 0 2 = (nodeS x s, true) := by
  rw [up_left _ _ _ _ (by decide) (by rw [show half 2 = 1 from half_pow 0]; decide), show half 2 = 1 from half_pow 0, up_one]
  rfl
theorem ab_ne : (nodeS (leafS [98]) (leafS [98]) == nodeS (leafS [97]) (leafS [98])) = false := by kernel_rfl
theorem incl_b (L : List ByteArray) (hL : L = [⟨#[97]⟩, ⟨#[98]⟩]) : inclE [98] 0 2 (rtAll (leafF L) 2) (path (leafF L) 0 0 2).reverse ≠ 0 := by
  have e0 : leafF L 0 = leafS [97] := by rw [hL]; rfl
  have e1 : leafF L 1 = leafS [98] := by rw [hL]; rfl
  rw [two_root, two_path, e0, e1]
  unfold inclE
  rw [if_neg (by omega), if_neg]
  · decide
  · intro h
    have h2 := h.2
    have hne := ab_ne
    rw [show ((0 : Int).toNat) = 0 from rfl, show ((2 : Int).toNat) = 2 from rfl, List.reverse_singleton, up_two] at h2
    generalize nodeS (leafS [98]) (leafS [98]) = X at h2 hne
    generalize nodeS (leafS [97]) (leafS [98]) = Y at h2 hne
    dsimp only at h2
    rw [h2, beq_self_eq_true] at hne
    cases hne

set_option maxRecDepth 100000 in
set_option maxHeartbeats 4000000 in
theorem awake_calls (w : World) (hP : Rt w.heap.size w) : Calls Tryd.prog 24 #[] w fun en w' => en = .returned (.bool true) ∧ Below w.heap.size w w' := by
  have HV := Lib.hid (vnew_calls w.heap.size w hP)
  clear hP
  obtain ⟨L, hL⟩ : ∃ L : List ByteArray, L = [⟨#[97]⟩, ⟨#[98]⟩] := ⟨_, rfl⟩
  have HL := Lib.hid hL
  go_enter Tryd.func24, Tryd.ntmps24
  go_wp2_with fail
  refine HV.out.mono ?_
  rintro en w1 ⟨v, rfl, hv, va, b1⟩
  have V1 := Lib.hid (show _ ∧ _ from ⟨va.fresh w.heap.size (fun _ h _ => h) (Nat.le_refl _), b1⟩)
  clear hv va b1 HV
  go_wp2_with fail
  have hs1 := V1.out.2.size
  have HA := Lib.hid ((V1.out.1.alloc (.cells #[.string ⟨#[97]⟩, .string ⟨#[98]⟩] 9)).add (some ⟨w1.heap.size, 0, none⟩) 2 [⟨#[97]⟩, ⟨#[98]⟩]
    ⟨Seg.whole (m := 2) (heap_alloc_new _ _) rfl (by unfold maxLen; omega), fun s hs => by
      rcases List.mem_cons.1 hs with rfl | hs
      · decide
      rw [List.mem_singleton.1 hs]; decide⟩
    (fun x hx e => by
      have h1 : w1.heap.size = x := by simpa [Value.ownBlock] using hx
      have := e.2
      omega) (by decide))
  refine HA.out.mono ?_
  rintro en w2 ⟨rfl, v2, t2⟩
  have b2 : Below w.heap.size w w2 := (V1.out.2.alloc hs1 _).trans (t2.below (by simp; omega) (fun j hj e => by have := e.1; omega))
  have v2' := v2.fresh w.heap.size (fun k h _ => by
    rcases h with h | h
    · exact h.1
    · simp at h; omega) (Nat.le_refl _)
  rw [List.nil_append, ← hL] at v2'
  have V2 := Lib.hid (show _ ∧ _ from ⟨v2', b2⟩)
  have HN : Hid (L.length = 2) := Lib.hid (by rw [hL]; rfl)
  have HI := Lib.hid (incl_b L hL)
  clear v2 t2 b2 HA V1 hs1 hL v2'
  go_wp2_with fail
  refine (V2.out.1.leaf (by have := HN.out; omega) 0 2 (by have := HN.out; omega) (by decide) (Nat.le_refl _)).mono ?_
  obtain ⟨l, hl⟩ : ∃ l, l = path (leafF L) 0 0 2 := ⟨_, rfl⟩
  have hl1 : l.length = 1 := by rw [hl, two_path]; rfl
  rw [← hl] at HI ⊢
  have HLL := Lib.hid hl
  rintro en w3 ⟨a, c, rfl, s3, o3, b3⟩
  rw [hl1] at s3 ⊢
  have V3 : Hid (Va w.heap.size (fun j => w.heap.size ≤ j ∧ j < w2.heap.size) w3 v L 0 ∧ Below w.heap.size w w3 ∧ Seg w3 33 32 (.slice a 1 c) 1 (sumsC l)) := Lib.hid ⟨V2.out.1.below b3, V2.out.2.trans (b3.mono V2.out.2.size), s3⟩
  have HL1 := Lib.hid hl1
  clear b3 s3 o3 hl hl1 V2
  have hv1 : ∀ V, (binOp .eql 71 (.agg (verC 1 ⟨#[]⟩ ⟨#[]⟩)) (.agg (verC 1 ⟨#[]⟩ ⟨#[]⟩))).run Tryd.prog V = .ok (.bool true) V := fun V => by kernel_rfl
  have hv0 : ∀ V, (binOp .eql 71 (.agg (verC 0 ⟨#[]⟩ ⟨#[]⟩)) (.agg (verC 0 ⟨#[]⟩ ⟨#[]⟩))).run Tryd.prog V = .ok (.bool true) V := fun V => by kernel_rfl
  go_wp2_with (first
    | ((with_reducible refine at_store (.tmp 2) ?_); refine wpList_store_cells (o := ⟨none, _, _, _, _, _⟩) rfl 64 (.tmp 2) (.tmp 13) rfl w3.heap.size (prC 1 0 2 (.slice a 1 c)) (prC 0 0 0 (.slice none 0 0)) rfl rfl _ (made_at _ _ rfl) (by kernel_rfl) rfl (by simp [prC, Value.oneCell']) ?_; intro W1 HW1 TW1;
       (have V4 : Hid (Va w.heap.size (fun j => w.heap.size ≤ j ∧ j < w2.heap.size) W1 v L 0 ∧ Below w.heap.size w W1 ∧ Seg W1 33 32 (.slice a 1 c) 1 (sumsC l) ∧ Has W1 w3.heap.size 64 (prC 1 0 2 (.slice a 1 c))) := (by
         obtain ⟨h1, h2, h3⟩ := V3.out
         have bb : Below w3.heap.size w3 W1 := ((Below.refl _ _).alloc (Nat.le_refl _) _).trans (TW1.below (by simp) (fun j hj e => by omega))
         exact Lib.hid ⟨h1.below bb, h2.trans (bb.mono h2.size), h3.below bb (fun x hx => h3.lt hx), HW1⟩));
       have q0 : W1.cell? ⟨w3.heap.size, 0, none⟩ = some (.int .i64 1) := V4.out.2.2.2.cell 0;
       have q1 : W1.cell? ⟨w3.heap.size, 1, none⟩ = some (.int .i64 0) := V4.out.2.2.2.cell 1;
       have q2 : W1.cell? ⟨w3.heap.size, 2, none⟩ = some (.int .i64 2) := V4.out.2.2.2.cell 2;
       have q3 : W1.cell? ⟨w3.heap.size, 3, none⟩ = some (.slice a 1 c) := V4.out.2.2.2.cell 3;
       clear HW1 TW1 V3)
    | fail)
  have HSM : Hid (∀ V, Seg V 33 32 (.slice a 1 c) 1 (sumsC l) → Sms V (.slice a l.reverse.length c) l.reverse) := Lib.hid fun V hV => SmS.weak (by
    refine ⟨?_, fun x hx => ?_⟩
    · rw [List.length_reverse, List.reverse_reverse, HL1.out]
      exact hV
    · have hx' := List.mem_reverse.1 hx
      rw [HLL.out, two_path] at hx'
      rw [List.mem_singleton.1 hx']
      exact leafF_len _ _)
  have hr1 : Hid (l.reverse.length = 1) := Lib.hid (by rw [List.length_reverse, HL1.out])
  have A1 := aleaf_ok V4.out.1 (by have := HN.out; omega) ⟨#[97]⟩ (by decide) 1 0 2 (by decide) (by have := HN.out; omega) l.reverse a c (HSM.out _ V4.out.2.2.1) 0 1
    (by
      rw [if_pos rfl, HLL.out]
      exact (incl_path (L := L) (i := 0) (n := 2) (by decide) (s := ⟨#[97]⟩) (by rw [HL.out]; rfl)).symm)
    (.inr ⟨rfl, 0, rfl, .inr ⟨Nat.le_refl _, by rw [HL.out]; rfl, rfl⟩⟩)
  rw [hr1.out] at A1
  have HA1 := Lib.hid A1
  clear A1
  refine HA1.out.mono ?_
  rintro en w5 ⟨rfl, b5⟩
  have V5 : Hid (Va w.heap.size (fun j => w.heap.size ≤ j ∧ j < w2.heap.size) w5 v L 0 ∧ Below w.heap.size w w5 ∧ Seg w5 33 32 (.slice a 1 c) 1 (sumsC l) ∧ Has w5 w3.heap.size 64 (prC 1 0 2 (.slice a 1 c))) := (by
    obtain ⟨h1, h2, h3, h4⟩ := V4.out
    exact Lib.hid ⟨h1.below b5, h2.trans (b5.mono h2.size), h3.below b5 (fun x hx => h3.lt hx), h4.below b5 h4.lt⟩)
  clear q0 q1 q2 q3 b5 V4 HA1
  have q0 : w5.cell? ⟨w3.heap.size, 0, none⟩ = some (.int .i64 1) := V5.out.2.2.2.cell 0
  have q1 : w5.cell? ⟨w3.heap.size, 1, none⟩ = some (.int .i64 0) := V5.out.2.2.2.cell 1
  have q2 : w5.cell? ⟨w3.heap.size, 2, none⟩ = some (.int .i64 2) := V5.out.2.2.2.cell 2
  have q3 : w5.cell? ⟨w3.heap.size, 3, none⟩ = some (.slice a 1 c) := V5.out.2.2.2.cell 3
  go_wp2_with fail
  have A2 := aleaf_ok V5.out.1 (by have := HN.out; omega) ⟨#[98]⟩ (by decide) 1 0 2 (by decide) (by have := HN.out; omega) l.reverse a c (HSM.out _ V5.out.2.2.1) _ 0
    rfl
    (.inl ⟨by
      rw [if_pos rfl]
      exact HI.out, rfl⟩)
  rw [hr1.out] at A2
  have HA2 := Lib.hid A2
  clear A2
  refine HA2.out.mono ?_
  rintro en w6 ⟨rfl, b6⟩
  have V6 := Lib.hid (V5.out.2.1.trans (b6.mono V5.out.2.1.size))
  clear V5 b6 HA2 q0 q1 q2 q3
  go_wp2_with fail
  go_ret
  exact ⟨rfl, V6.out⟩
end Go.Proofs.YthbncejbcegmgaaDoor.aud
end

section
/- A slice of strings that is handed in: what a law may read of it. -/
namespace Go.Proofs.YthbncejbcegmgaaDoor
open Go.ChangeShapes Go.WideShapes Go.ChangeAt Go.RowKit

/-- The strings T lie from a on. -/
def ArgS (w : World) (a : Option Addr) (len cap : Nat) (T : Nat → ByteArray) : Prop :=
  len ≤ cap ∧ cap ≤ maxLen ∧ ∀ i, i < len → ∃ b o, a = some ⟨b, o, none⟩ ∧ b < w.heap.size ∧ w.cell? ⟨b, o + i, none⟩ = some (.string (T i)) ∧ (T i).size ≤ maxLen

theorem openedStrs {H : Type} {enc : TypeId × Value → H} {w : World} {spare : Nat → Bool} {held : Bool} {a : Option Addr} {len cap : Nat} {d : DataW H} {p : List MemPlace} (h : DataW.Trod enc Tryd.prog w 0 spare held 22 (.slice a len cap) d p) : ∃ T, ArgS w a len cap T := by
  obtain ⟨fuel, h⟩ := h
  rcases open_strings Tryd.underlying22 Tryd.underlying9 (by kernel_rfl) h with ⟨hn, _⟩ | ⟨g, l, c, zs, hn, _, hlc, hcm, hm, _, hall, hwf⟩
  · simp [Value.cells] at hn
    obtain ⟨rfl, rfl, rfl⟩ := hn
    exact ⟨fun _ => ByteArray.empty, Nat.le_refl _, Nat.zero_le _, fun i hi => absurd hi (Nat.not_lt_zero _)⟩
  · simp [Value.cells] at hn
    obtain ⟨rfl, rfl, rfl⟩ := hn
    refine ⟨fun i => zs.getD i ByteArray.empty, hlc, hcm, fun i hi => ?_⟩
    have hi' : i < zs.length := by rw [hm]; split <;> omega
    have h0 := hall i hi'
    have hs : g.spot = none := by
      have h00 := hall 0 (by omega)
      simpa [Addr.add] using World.cell?_spot h00
    obtain ⟨gb, go, gs⟩ := g
    obtain rfl : gs = none := hs
    have e0 : (⟨gb, go, none⟩ : Addr).add i = ⟨gb, go + i, none⟩ := Addr.add_mid _ _ _
    rw [e0] at h0
    have hw : (zs.getD i ByteArray.empty).size ≤ maxLen := hwf _ (by
      have : zs.getD i ByteArray.empty = zs[i] := by simp [hi']
      rw [this]; exact List.getElem_mem hi')
    have hb : gb < w.heap.size := by
      rcases Nat.lt_or_ge gb w.heap.size with k | k
      · exact k
      · unfold World.cell? at h0
        simp [Array.getElem?_eq_none k] at h0
    exact ⟨gb, go, rfl, hb, h0, hw⟩

end Go.Proofs.YthbncejbcegmgaaDoor
end

section
/- tree's laws: Leaves. -/
namespace Go.Proofs.YthbncejbcegmgaaDoor.dig
open Go Go.RowKit

theorem strInfo : ∃ i z, Tryd.prog.info? 9 = some i ∧ i.zero = some z ∧ i.size = 1 ∧ z.cells.size = 1 ∧ i.bytes = 16 := by
  have h2 : (Tryd.prog.info? 9).map (fun i => (i.zero.map (fun z => z.cells.size), i.size, i.bytes)) = some (some 1, 1, 16) := by kernel_rfl
  obtain ⟨i, hi, e⟩ := Option.map_eq_some_iff.1 h2
  simp only [Prod.mk.injEq] at e
  obtain ⟨e1, e2, e3⟩ := e
  obtain ⟨z, hz, e4⟩ := Option.map_eq_some_iff.1 e1
  exact ⟨i, z, hi, hz, e2, e4, e3⟩

theorem enc_size (k : Nat) (h1 : k < 128) : (Utf8.encode (k : Int)).size = 1 := by
  unfold Utf8.encode
  have h2 : (k : Int).toNat = k := by omega
  have h3 : Utf8.valid (k : Int) = true := by
    unfold Utf8.valid
    simp
    omega
  rw [if_pos h3, h2, if_pos (by omega)]
  rfl

theorem and_mask (n : Int) (k : Nat) (hk : k ≤ 8) : bits .and .i64 n ((2 ^ k : Nat) - 1 : Int) = n % ((2 ^ k : Nat) : Int) := by
  have h255 : (BitVec.ofInt 64 ((2 ^ k : Nat) - 1 : Int)).toNat = 2 ^ k - 1 := by
    have : k = 0 ∨ k = 1 ∨ k = 2 ∨ k = 3 ∨ k = 4 ∨ k = 5 ∨ k = 6 ∨ k = 7 ∨ k = 8 := by omega
    rcases this with h | h | h | h | h | h | h | h | h <;> subst h <;> decide
  have key : (BitVec.ofInt 64 n &&& BitVec.ofInt 64 ((2 ^ k : Nat) - 1 : Int)).toNat = (n % ((2 ^ 64 : Nat) : Int)).toNat % 2 ^ k := by
    rw [BitVec.toNat_and, BitVec.toNat_ofInt, h255, Nat.and_two_pow_sub_one_eq_mod]
  show IntKind.i64.wrap ((BitVec.ofInt 64 n &&& BitVec.ofInt 64 ((2 ^ k : Nat) - 1 : Int)).toNat : Nat) = n % ((2 ^ k : Nat) : Int)
  rw [key, IntKind.wrap_i64]
  have : k = 0 ∨ k = 1 ∨ k = 2 ∨ k = 3 ∨ k = 4 ∨ k = 5 ∨ k = 6 ∨ k = 7 ∨ k = 8 := by omega
  rcases this with h | h | h | h | h | h | h | h | h <;> subst h <;> simp only [Nat.reducePow] <;> omega
theorem and255 (n : Int) : bits .and .i64 n 255 = n % 256 := and_mask n 8 (by decide)
theorem and7 (n : Int) : bits .and .i64 n 7 = n % 8 := and_mask n 3 (by decide)

def Stay (p : Prop) := p
theorem stay {p : Prop} (h : Stay p) : p := h
/-- Texts were answered, in new memory. -/
def LvsPost (w : World) (m : Nat) (en : Ending) (w' : World) : Prop :=
  ∃ v L, en = .returned v ∧ Strs w' v L ∧ L.length = m ∧ (∀ x, v.ownBlock = some x → w.heap.size ≤ x) ∧ Below w.heap.size w w' ∧ v ≠ .slice none 0 0

set_option maxRecDepth 100000 in
set_option maxHeartbeats 1000000 in
theorem leaves_calls (a : Option Addr) (len cap : Nat) (T : Nat → ByteArray) (n : Int) (w : World) (hA : ArgS w a len cap T) (hn0 : -9223372036854775808 ≤ n) (hn1 : n ≤ 9223372036854775807) :
    Calls Tryd.prog 7 #[.slice a len cap, .int .i64 n] w (LvsPost w (min (max n 0) 40).toNat) := by
  have HA := Lib.hid hA
  have hlen : (len : Int) ≤ 9223372036854775807 := by have := hA.1; have := hA.2.1; unfold maxLen at this; omega
  clear hA
  go_enter Tryd.func7, Tryd.ntmps7
  go_wp2_with fail
  go_name_world W hW
  obtain ⟨M, hM⟩ : ∃ M, M = (min (max n 0) 40).toNat := ⟨_, rfl⟩
  have hM40 : M ≤ 40 := by omega
  have S0 : Hid (Seg W 9 1 (.slice (some ⟨w.heap.size, 0, none⟩) 0 0) 0 [] ∧ (∀ x, (Value.slice (some ⟨w.heap.size, 0, none⟩) 0 0).ownBlock = some x → w.heap.size ≤ x) ∧ Below w.heap.size w W) := by
    rw [← hW]
    exact Lib.hid ⟨Seg.of_has (n := 0) (size := 1) (made_at _ _ rfl) (by simp) (by decide), fun x hx => by have e : w.heap.size = x := (by simpa [Value.ownBlock] using hx); omega, (Below.refl _ _).alloc (Nat.le_refl _) _⟩
  clear hW
  go_loopw [5, 6] (fun o i wr => ∃ (k : Nat) (L : List ByteArray), i = .int .i64 k ∧ k ≤ M ∧ L.length = k ∧ Hid (Seg wr 9 1 o k (L.map Value.string) ∧ (∀ x, o.ownBlock = some x → w.heap.size ≤ x) ∧ Below w.heap.size w wr) ∧ Hid ((∀ s ∈ L, s.size ≤ 1000) ∧ o ≠ .slice none 0 0)) (fun _ i _ => M - (intOf i).toNat)
  case atStart => exact ⟨0, [], rfl, Nat.zero_le _, rfl, S0, Lib.hid ⟨fun s hs => (by cases hs), fun e => by cases e⟩⟩
  case round =>
    obtain ⟨k, L, rfl, hk, hL, HS, HL⟩ := hrel
    clear S0
    have hk0 : (0 : Int) ≤ (k : Int) := by omega
    have hk40 : (k : Int) ≤ 40 := by omega
    have HCH : Hid ((Utf8.encode (97 + (k : Int) % 26)).size ≤ 4) := Lib.hid (by rw [show 97 + (k : Int) % 26 = ((97 + k % 26 : Nat) : Int) by omega, enc_size _ (by omega)]; decide)
    by_cases hkM : k < M
    · have ht : (k : Int) < min (max n 0) 40 := by omega
      obtain ⟨i0, z0, hi0, hz0, hz1, hz2, hz3⟩ := strInfo
      have HI0 := Lib.hid hi0
      have HZ0 := Lib.hid hz0
      have hks : 0 < k ∨ 0 ≤ k := by omega
      clear hi0 hz0 hks
      by_cases hl0 : len = 0
      case' pos =>
        subst hl0
        have HCS : Hid ((Utf8.encode (97 + (k : Int) % 26)).size ≤ 1000) := Lib.hid (by have := HCH.out; omega)
        clear HCH
        have HCUT : Hid True := Lib.hid trivial
        have hlp : ¬ (0 : Int) < 0 := by decide
      case' neg =>
        have hlp : (len : Int) > 0 := by omega
        have hrl : k % len < len := Nat.mod_lt _ (by omega)
        obtain ⟨gb, go, ha, hgb, hcell, hsz⟩ := HA.out.2.2 (k % len) hrl
        subst ha
        have c0 : wr.cell? ⟨gb, go + k % len, none⟩ = some (.string (T (k % len))) := by
          rw [← hcell]; unfold World.cell?; rw [HS.out.2.2.block gb hgb]
        obtain ⟨t0, ht0⟩ : ∃ t0, t0 = T (k % len) := ⟨_, rfl⟩
        rw [← ht0] at c0 hsz
        have HSZ := Lib.hid hsz
        obtain ⟨p', hp, hp2⟩ := cut_size t0 10
        have HP2 := Lib.hid hp2
        have HCUT : Hid (Calls Tryd.prog 8 #[.string t0, .int .i64 10] wr fun en w' => en = .returned (.string p') ∧ wr = w') := Lib.hid (by rw [← hp]; exact cut_any t0 10 wr (by decide) HSZ.out)
        clear hp hp2 HSZ hcell hsz hl0 ht0
        have hrl2 : (k : Int) % (len : Int) < (len : Int) := by omega
        have hrl3 : (0 : Int) ≤ (k : Int) % (len : Int) := Int.emod_nonneg _ (by omega)
        have HCS : Hid ((Utf8.encode (97 + (k : Int) % 26) ++ p').size ≤ 1000) := Lib.hid (by rw [ByteArray.size_append]; have := HCH.out; have := HP2.out; omega)
        clear HP2 HCH
      all_goals
        go_wp2_with (first
          | ((with_reducible refine at_op 23 ?_); refine stay ?_)
          | fail)
        unfold Stay
        generalize Utf8.encode (97 + (k : Int) % 26) = ch at *
        have hcc := HCS.out
        try rw [ByteArray.size_append] at hcc
        go_wp2_with (first
        | (go_at_call 8; refine HCUT.out.mono ?_; rintro e w' ⟨rfl, rfl⟩)
        | ((with_reducible refine at_op 37 ?_); refine wpList_append_seg (o := ⟨some 37, _, _, _, _, _⟩) _ rfl (.tmp 34) (.tmp 36) 22 rfl 9 i0 z0 1 16 Tryd.underlying22 HI0.out HZ0.out hz1 hz3 hz2 (by decide) u5 k (L.map Value.string) rfl (HS.out.1.alloc _) ⟨wr.heap.size, 0, none⟩ 1 1 [.string _] rfl rfl (World.news_of_block (heap_alloc_new _ _)) (by simp [Value.oneCell']) (by decide) (by unfold maxLen; omega) (by omega) _ rfl ?_;
           intro g off cp w4 hown hgrow hat hlt)
        | fail)
        refine ⟨⟨k + 1, L ++ [_], by rw [Int.natCast_add]; rfl, by omega, by rw [List.length_append, hL]; rfl, Lib.hid ⟨by rw [List.map_append]; exact hown, fun x hx => ?_, ?_⟩, Lib.hid ⟨fun t ht => ?_, fun e => by cases e⟩⟩, ?_⟩
        · have e : g = x := by simpa [Value.ownBlock] using hx
          rw [← e]
          rcases hat with h | h
          · exact HS.out.2.1 g h
          · rw [h]; exact Nat.le_trans HS.out.2.2.size (by simp)
        · exact (HS.out.2.2.alloc HS.out.2.2.size _).trans (below_own hgrow HS.out.2.1 (Nat.le_trans HS.out.2.2.size (by simp)))
        · rcases List.mem_append.1 ht with h | h
          · exact HL.out.1 t h
          · rw [List.mem_singleton.1 h]; exact HCS.out
        · show M - ((k : Int) + 1).toNat < M - ((k : Int)).toNat
          omega
    · have ht : ¬ (k : Int) < min (max n 0) 40 := by omega
      go_wp2_with fail
      go_ret
      refine ⟨_, L, rfl, ⟨?_, fun s hs => by have := HL.out.1 s hs; omega⟩, by omega, HS.out.2.1, HS.out.2.2, HL.out.2⟩
      rw [hL]
      exact HS.out.1
end Go.Proofs.YthbncejbcegmgaaDoor.dig
end

