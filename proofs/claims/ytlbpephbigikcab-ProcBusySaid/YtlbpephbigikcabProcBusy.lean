/- ProcBusy: for any two numbers the law answers true. Conditions: none. -/
import Derived.Test.YtlbpephbigikcabPrcT
import Derived.Laws.OwnMore
import Derived.Laws.IdiomStrings
import Derived.ProofKit
import Derived.OpenShut
import Derived.ChangeOld
namespace Go.Proofs.Ytlbpephbigikcab.procBusy
open Go Go.ChangeShapes Go.WideShapes Go.ChangeAt Go.RowKit Go.Maps Go.Proofs.Ytlbpephbigikcab.prc

theorem textByte : (Try.prog.info? 5).map (fun i => (i.zero, i.size, i.bytes)) = some (some (.int .u8 0), 1, 1) := by kernel_rfl

/-- k bytes 0. -/
def zerosB (k : Nat) : ByteArray := ⟨Array.replicate k 0⟩
theorem zerosB_size (k : Nat) : (zerosB k).size = k := by simp [zerosB, ByteArray.size]
def zeroRow (k : Nat) : Obj := .cells (madeCells #[.int .u8 0] k) 5

theorem make_zeros (k : Nat) (hk : k ≤ 2000) (W : World) :
    (Instr.makeSlice 63 (.int .i64 (k : Int)) (.int .i64 (k : Int))).run Try.prog W = .ok (.slice (some ⟨W.heap.size, 0, none⟩) k k) (W.alloc (zeroRow k)) := by
  obtain ⟨i, hi, e⟩ := Option.map_eq_some_iff.1 textByte
  simp only [Prod.mk.injEq] at e
  obtain ⟨e1, e2, e3⟩ := e
  have h := run_make (P := Try.prog) W 63 5 i (.int .u8 0) Try.underlying63 hi e1 .i64 .i64 (k : Int) (k : Int) (by omega) (by omega) (by rw [e3]; omega) (by omega)
  simp only [Int.toNat_natCast, e2, Nat.mul_one] at h
  exact h

theorem text_zeros (k : Nat) (W : World) :
    (convert 63 9 (.slice (some ⟨W.heap.size, 0, none⟩) k k)).run Try.prog (W.alloc (zeroRow k)) = .ok (.string (zerosB k)) (W.alloc (zeroRow k)) := by
  have h := run_convert_bytes_back (P := Try.prog) (W.alloc (zeroRow k)) 63 9 5 ⟨W.heap.size, 0, none⟩ k (List.replicate k 0) Try.underlying63 Try.underlying5 Try.underlying9 (fun j hj => by
    have hj' : j < k := by simpa using hj
    rw [Addr.add_mid, Nat.zero_add]
    unfold zeroRow
    rw [World.cell?_alloc_mark, ← Array.getElem?_toList, toList_madeCells_one]
    simp [hj'])
  simpa [zerosB, List.toArray_replicate] using h

def bw (s : ByteArray) : Nat → Ab
  | 0 => begins ab0 1 s
  | k + 1 => (prc.step 2 3 (bw s k) 1).1

theorem bw_no (s : ByteArray) : ∀ k, k < 3 → (prc.step 2 3 (bw s k) 1).2 = nope := by
  intro k hk
  rcases (show k = 0 ∨ k = 1 ∨ k = 2 by omega) with rfl | rfl | rfl
  · rfl
  · rfl
  · rfl
theorem bw_busy (s : ByteArray) : ∀ k, k ≤ 3 → ((bw s k).X 1).next ≠ 0 ∧ ((bw s k).X 1).seq = 1 := by
  intro k hk
  rcases (show k = 0 ∨ k = 1 ∨ k = 2 ∨ k = 3 by omega) with rfl | rfl | rfl | rfl
  · exact ⟨by show 1 ≠ 0; decide, rfl⟩
  · exact ⟨by show 2 ≠ 0; decide, rfl⟩
  · exact ⟨by show 3 ≠ 0; decide, rfl⟩
  · exact ⟨by show 4 ≠ 0; decide, rfl⟩
theorem bw_good (s : ByteArray) (hs : s.size ≤ 1024) : ∀ k, prc.Good 2 3 (bw s k)
  | 0 => (good0 3 (by decide)).begins (by decide) (by decide) hs
  | k + 1 => (bw_good s hs k).step (by decide)

section
variable {w V : World} {d c m P L K : Nat} {A : Ab} {I : Nat → Prop} {B : Nat → Nat} {i : Nat}

theorem big (h : prc.Sys w d c m P L A K I B V) (hi : I i) (h0 : (A.X i).next = 0) (s : ByteArray) (h1 : 1024 < s.size) (h2 : s.size ≤ maxLen) : Calls Try.prog 27 #[.pointer (some ⟨B i, 0, none⟩), .string s] V fun en w' => en = .returned (.int .i64 3) ∧ V = w' := by
  obtain ⟨x, hp, hx⟩ := h.pr i hi
  exact big_begin hp ((rx_next0 hx).2 h0) s h1 h2

theorem idleStep (h : prc.Sys w d c m P L A K I B V) (hi : I i) (h0 : (A.X i).next = 0) : Calls Try.prog 22 #[.pointer (some ⟨B i, 0, none⟩), .pointer (some ⟨d, 0, none⟩)] V fun en w' => en = .returned (.agg #[.bool false, .bool false, .int .i64 0]) ∧ Mm w d c m P L A K w' ∧ Turn (fun j => j = B i ∨ Mb d c m j) V w' := by
  obtain ⟨x, hp, hx⟩ := h.pr i hi
  refine (step_0 hp h.mm (h.lo i hi) ((rx_next0 hx).2 h0)).mono ?_
  rintro en w' ⟨rfl, _, h2, h3⟩
  exact ⟨rfl, h2, h3⟩

theorem all0 (h : Mm w d c m P L A 0 V) : Calls Try.prog 28 #[.pointer (some ⟨d, 0, none⟩)] V fun en w' => en = .returned (.int .i64 0) ∧ w' = V := by
  obtain ⟨D, a, ho, ha⟩ := h
  have e : a = 0 := by have := ho.a0; omega
  subst e
  exact ho.mem.all_calls
end

theorem few_n {z : Int} : ∃ (m0 : Int) (q : Nat), (if z < 0 then 0 else z) = m0 ∧ (if (2000 : Int) < m0 then 2000 else m0) = (q : Int) ∧ q ≤ 2000 := by
  refine ⟨_, (if (2000 : Int) < (if z < 0 then 0 else z) then 2000 else (if z < 0 then 0 else z)).toNat, rfl, ?_, ?_⟩ <;> (split <;> split <;> omega)
theorem few_s {z : Int} : ∃ (m0 : Int) (q : Nat), (if z < 0 then 0 else z) = m0 ∧ (if (3 : Int) < m0 then 3 else m0) = (q : Int) ∧ q ≤ 3 := by
  refine ⟨_, (if (3 : Int) < (if z < 0 then 0 else z) then 3 else (if z < 0 then 0 else z)).toNat, rfl, ?_, ?_⟩ <;> (split <;> split <;> omega)

set_option maxRecDepth 100000 in
set_option maxHeartbeats 4000000 in
theorem busy_any (n st : Int) (w : World) : Calls Try.prog 8 #[.int .i64 n, .int .i64 st] w fun en w' => en = .returned (.bool true) ∧ Below w.heap.size w w' := by
  obtain ⟨m0, q, hm0, hq, hq2⟩ := few_n (z := n)
  obtain ⟨m1, r, hm1, hr, hr3⟩ := few_s (z := st)
  have HR := Lib.hid (And.intro hm1 (And.intro hr hr3))
  clear hm1 hr hr3
  go_enter Try.func8, Try.ntmps8
  go_wp2_with fail
  refine (awake_calls w).mono ?_
  rintro en w1 ⟨rfl, b1⟩
  have B1 := Lib.hid b1
  clear b1
  go_wp2_with (first
    | (go_at_call 15; refine (cellsP_calls 2 3 _ (by decide) (by decide) (by decide) (by decide)).mono ?_; rintro en w2 ⟨rfl, b2⟩
       have B2 : Hid (Below w.heap.size w w2) := Lib.hid ((B1.out.alloc B1.out.size (.cells #[.int .i64 2, .int .i64 3] 25)).trans (b2.mono (by have := B1.out.size; simp; omega)))
       have Z2 : Hid (Has w2 w1.heap.size 25 #[.int .i64 2, .int .i64 3]) := Lib.hid ((Has.made w1 25 _).below b2 (by simp))
       clear b2)
    | (go_at_call 25; refine (cel.new_calls (H := Unit) 5 (by decide) _).mono ?_; intro en w3 hP
       have hb3 : Below w2.heap.size w2 w3 := by obtain ⟨_, _, _, _, _, h, _⟩ := hP; exact h
       obtain ⟨d, c, m, rfl, hS⟩ := mm_new (P := 2) (L := 3) (w := w) (Turn.of_below B2.out (F := fun j => w.heap.size ≤ j) (fun _ _ e => e)) hP
       have S3 := Lib.hid hS
       have Z3 := Lib.hid (Z2.out.below hb3 Z2.out.lt)
       have z0 : w3.cell? ⟨w1.heap.size, 0, none⟩ = some (.int .i64 2) := Z3.out.cell 0
       have z1 : w3.cell? ⟨w1.heap.size, 1, none⟩ = some (.int .i64 3) := Z3.out.cell 1
       clear hP hb3 hS)
    | fail)
  refine (new_calls 2 3 1 w3).mono ?_
  intro en w4 hP
  obtain ⟨b, rfl, hS, -⟩ := S3.out.more (i := 1) (by decide) (fun h => h) hP
  obtain ⟨B, hB⟩ : ∃ B, B = up (fun _ => 0) 1 b := ⟨_, rfl⟩
  have hB0 : Hid (B 1 = b) := Lib.hid (by rw [hB]; exact up_same _ _ _)
  rw [← hB] at hS
  have S4 := Lib.hid hS
  clear hS hP z0 z1 hB S3 Z3 Z2 B2
  have hmk := make_zeros q hq2 w4
  have htx := text_zeros q w4
  have S5 := Lib.hid (S4.out.below (box_below w4 (zeroRow q)))
  have hsz := Lib.hid (zerosB_size q)
  generalize zerosB q = s at *
  generalize w4.alloc (zeroRow q) = W5 at *
  have hq0 : (0 : Int) ≤ (q : Int) := by omega
  by_cases hbig : q ≤ 1024
  · have hb1 : (q : Int) ≤ 1024 := by omega
    have hmq : m0 = (q : Int) := by split at hq <;> omega
    subst hmq
    clear hq
    have hs1 : Hid (s.size ≤ 1024) := Lib.hid (by have := hsz.out; omega)
    go_wp2_with (first
      | (go_at_call 27; rw [← hB0.out]; refine (S5.out.begins (i := 1) (.inl rfl) rfl s (by decide) (by decide) hs1.out).mono ?_; rw [hB0.out]; rintro en w6 ⟨rfl, h6, -⟩
         have S6 : Hid (prc.Sys w d c m 2 3 (bw s 0) 0 (fun j => j = 1 ∨ False) B w6) := Lib.hid h6
         have hr1 := HR.out.1
         have hr2 := HR.out.2.1
         have hr0 : (0 : Int) ≤ (r : Int) := by omega
         have hr3 : (r : Int) ≤ 3 := by have := HR.out.2.2; omega
         clear h6)
      | fail)
    clear hr1 hr2
    go_loopw [62] (fun i wr => ∃ k : Nat, i = .int .i64 k ∧ k ≤ r ∧ Hid (prc.Sys w d c m 2 3 (bw s k) k (fun j => j = 1 ∨ False) B wr)) (fun i _ => 3 - (prc.intOf i).toNat)
    case atStart => exact ⟨0, rfl, by omega, S6⟩
    case round =>
      obtain ⟨k, rfl, hk, HS⟩ := hrel
      by_cases hk3 : k < r
      · have hkb : (k : Int) < (r : Int) := by omega
        have hno := Lib.hid (bw_no s k (by omega))
        have hfd : ∀ w', (Instr.field 36 (.agg #[.bool false, .bool false, .int .i64 0]) 0).run Try.prog w' = .ok (.bool false) w' := fun w' => rfl
        go_wp2_with (first
          | (go_at_call 22; rw [← hB0.out]; refine (HS.out.step_is (i := 1) (bw_good s hs1.out k) (.inl rfl) (by decide) (by decide) (by omega) (A' := bw s (k + 1)) (dn := false) (fl := false) (s := 0) rfl (by rw [hno.out]; rfl) (by rw [hno.out]; rfl) (by rw [hno.out]; rfl)).mono ?_; rw [hB0.out]; rintro en w7 ⟨rfl, h7, -⟩
             have S7 := Lib.hid h7
             clear h7)
          | fail)
        refine ⟨⟨k + 1, by rw [Int.natCast_add]; rfl, by omega, S7⟩, ?_⟩
        show 3 - ((k : Int) + 1).toNat < 3 - ((k : Int)).toNat
        omega
      · obtain rfl : k = r := by omega
        have hbz := Lib.hid (bw_busy s k (by omega))
        go_wp2_with (first
          | (go_at_call 20; rw [← hB0.out]; refine (HS.out.idle (i := 1) (.inl rfl)).mono ?_; rw [hB0.out, decide_eq_false hbz.out.1]; rintro en w7 ⟨rfl, rfl⟩)
          | (go_at_call 27; rw [← hB0.out]; refine (HS.out.busy (i := 1) (.inl rfl) hbz.out.1 ⟨#[]⟩).mono ?_; rw [hB0.out]; rintro en w7 ⟨rfl, rfl⟩)
          | (go_at_call 29; rw [← hB0.out]; refine (HS.out.busyHead (i := 1) (.inl rfl) hbz.out.1).mono ?_; rw [hB0.out]; rintro en w7 ⟨rfl, rfl⟩)
          | (go_at_call 23; rw [← hB0.out]; refine (HS.out.seq (i := 1) (.inl rfl)).mono ?_; rw [hB0.out, hbz.out.2]; rintro en w7 ⟨rfl, rfl⟩)
          | fail)
        go_ret
        exact ⟨rfl, HS.out.ends⟩
  · have hb1 : ¬ (q : Int) ≤ 1024 := by omega
    have hmn : n = m0 := by
      split at hm0
      · split at hq <;> omega
      · exact hm0
    subst hmn
    have hn0 : ¬ n < 0 := by split at hq <;> omega
    clear hm0
    have hs1 : Hid (1024 < s.size ∧ s.size ≤ maxLen) := Lib.hid (by have := hsz.out; unfold maxLen; omega)
    have heq : ∀ w', (binOp .eql 36 (.agg #[.bool false, .bool false, .int .i64 0]) (.agg #[.bool false, .bool false, .int .i64 0])).run Try.prog w' = .ok (.bool true) w' := fun w' => by kernel_rfl
    go_wp2_with (first
      | (go_at_call 27; rw [← hB0.out]; refine (big S5.out (i := 1) (.inl rfl) rfl s hs1.out.1 hs1.out.2).mono ?_; rw [hB0.out]; rintro en w6 ⟨rfl, rfl⟩)
      | (go_at_call 20; rw [← hB0.out]; refine (S5.out.idle (i := 1) (.inl rfl)).mono ?_; rw [hB0.out, decide_eq_true (show (ab0.X 1).next = 0 from rfl)]; rintro en w7 ⟨rfl, rfl⟩)
      | (go_at_call 23; rw [← hB0.out]; refine (S5.out.seq (i := 1) (.inl rfl)).mono ?_; rw [hB0.out]; rintro en w7 ⟨rfl, rfl⟩)
      | (go_at_call 22; rw [← hB0.out]; refine (idleStep S5.out (i := 1) (.inl rfl) rfl).mono ?_; rw [hB0.out]; rintro en w8 ⟨rfl, h8, t8⟩
         have M8 := Lib.hid h8
         have B8 : Hid (Below w.heap.size w w8) := Lib.hid ((S5.out.turn.trans t8 (fun j h1 h2 => by
           rcases h2 with h2 | h2
           · have := S5.out.lo 1 (.inl rfl); rw [hB0.out] at this; omega
           · obtain ⟨_, _, ho, _⟩ := S5.out.mm
             rcases h2 with h2 | h2 | h2
             · have := ho.nd; omega
             · have := ho.nc; omega
             · have := ho.nm; omega)).below (Nat.le_refl _) (fun _ hj e => by omega))
         clear h8 t8)
      | (go_at_call 28; refine (all0 M8.out).mono ?_; rintro en w9 ⟨rfl, rfl⟩)
      | fail)
    go_ret
    exact ⟨rfl, B8.out⟩

theorem walk (n st : Int) (w : World) (_ : (Lit.int .i64 n).wf = true) (_ : (Lit.int .i64 st).wf = true) :
    Calls Try.prog 8 #[.int .i64 n, .int .i64 st] w fun en w' => en = .returned (.bool true) ∧ Below w.heap.size w w' := busy_any n st w

theorem own : ownKnob Try.prog.godebug = none := by kernel_rfl
theorem laidOut : laidOutB Try.prog = true := by kernel_rfl

set_option maxRecDepth 100000 in
theorem lifted (os : Os) (started : os.Started) (H : Type) (enc : TypeId × Value → H) :
    ReturnsInHanded {} Try.checked os 8 .any (Rows.procBusySpec.pre6 enc Try.prog Try.f8 Rows.procBusyRow.domain false) (Rows.procBusySpec.post enc Try.prog Try.f8 false true false false) := by
  refine returnsInHanded_of_change (C := Try.checked) own started (by kernel_rfl) Try.func8
    (ChangeSpec.witness6 (enc := enc) (C := Try.checked) false ⟨#[], #[.int .i64 0, .int .i64 0], []⟩ 8 (by kernel_rfl) (by kernel_rfl) (by kernel_rfl) (by kernel_rfl)) ?_
  intro W base args ds gs before hval0 hW _ _
  have hval : ∀ (j : Nat) t v, Try.f8.params[j]? = some t → args[j]? = some v → Value.okWide Try.prog W .any base t v := hval0
  have hW' := hW
  obtain ⟨p, q, hA0, hV, rfl, _, _⟩ := hW
  have hA : DataW.TrodAll enc Try.prog W 0 (fun _ => true) true Try.f8.params.toList args.toList ds p := hA0
  rw [Try.params8] at hA hval
  obtain ⟨v0, vs0, d0, ds0, p0, q0, hargs, rfl, rfl, h0, r0⟩ := trodAll_cons hA
  obtain ⟨v1, vs1, d1, ds1, p1, q1, rfl, rfl, rfl, h1, r1⟩ := trodAll_cons r0
  obtain ⟨rfl, rfl, rfl⟩ := trodAll_nil r1
  obtain rfl : args = #[v0, v1] := by cases args; simp_all
  obtain ⟨rfl, rfl⟩ := trodVars_none hV
  obtain ⟨a0, rfl, rfl, rfl, w0⟩ := open_int Try.underlying3 (hval 0 3 v0 rfl rfl) h0
  obtain ⟨a1, rfl, rfl, rfl, w1⟩ := open_int Try.underlying3 (hval 1 3 v1 rfl rfl) h1
  clear hA0 hval0
  refine (walk a0 a1 W w0 w1).mono fun e W' ⟨he, bel⟩ => ?_
  subst he
  exact ⟨_, rfl, _, _, _, [], _, [], hW', trodAll_mk1 (shut_bool Try.underlying4 _), (trodAll_cons_mk (shut_int Try.underlying3 w0) (trodAll_cons_mk (shut_int Try.underlying3 w1) trodAll_mk0)), rfl, bel.frame _, fun h => by cases h⟩

theorem over : Rows.procBusyRow.holds Try.pinned (OpenSpec.ofChange Rows.procBusySpec) :=
  OpenClaim.holds_of_wide 8 Try.f8 rfl rfl rfl rfl rfl rfl rfl ⟨rfl, rfl, rfl, rfl, rfl⟩ rfl rfl rfl rfl rfl (by kernel_rfl) Try.func8 (by kernel_rfl)
    (of_decide_eq_true (by kernel_rfl)) (by unfold Func.isWrapper; first | (rw [if_pos (by decide +kernel)]; kernel_rfl) | (rw [if_neg (by decide +kernel)]; exact ⟨rfl, rfl⟩))
    (fun os started H enc _ => lifted os started H enc)

theorem proved : Rows.ProcBusySaid := over

end Go.Proofs.Ytlbpephbigikcab.procBusy
