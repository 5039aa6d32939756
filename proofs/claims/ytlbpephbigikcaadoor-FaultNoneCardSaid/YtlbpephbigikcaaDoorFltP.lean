/- fault: errors.New; In around an error from elsewhere, around nothing; the word of a step at place 1 with nothing behind it. -/
import Derived.Test.YtlbpephbigikcaaDoorFltO
import Derived.Test.YtlbpephbigikcaaDoorFltH
namespace Go.Proofs.YtlbpephbigikcaaDoor.flt
open Go Go.RowKit Go.Extern.Stop Go.Stop Go.Extern Go.Shelf

theorem new_calls (s : ByteArray) (w : World) : Calls Tryd.prog 24 #[.string s] w fun en w' => en = .returned (pe w.heap.size) ∧ w' = w.alloc (.cells #[.string s] 82) := by
  go_enter Tryd.func24, Tryd.ntmps24
  go_wp2
  go_ret
  exact ⟨rfl, rfl⟩
theorem in_plain (p : Nat) (s : ByteArray) (a : Int) (w : World) : Calls Tryd.prog 17 #[.string s, .int .i64 a, pe p] w
    fun en w' => en = .returned (.iface 42 (.pointer (some ⟨w.heap.size, 0, none⟩))) ∧ w' = w.alloc (.cells #[.string s, .int .i64 a, pe p] 47) := by
  have hne := fun w => run_eql_iface_types (P := Tryd.prog) 80 28 (.pointer (some ⟨p, 0, none⟩)) (.int .i64 0) Tryd.underlying25 (by decide) w
  unfold pe
  go_enter Tryd.func17, Tryd.ntmps17
  go_wp2
  go_ret
  exact ⟨rfl, rfl⟩

/-- What such a step tells. -/
def bareB (s : ByteArray) : ByteArray := s ++ ⟨#[32, 49, 58, 32, 110, 111, 116, 104, 105, 110, 103]⟩
def nothingB : ByteArray := ⟨#[110, 111, 116, 104, 105, 110, 103]⟩
theorem bare_eq (b : Nat) (s : ByteArray) : (⟨(stepsL [⟨b, s, 1⟩] ++ nothingB.data.toList).toArray⟩ : ByteArray) = bareB s := by
  apply ByteArray.ext
  apply Array.toList_inj.1
  unfold stepsL stepB bareB nothingB dig
  simp

set_option maxRecDepth 100000 in
set_option maxHeartbeats 4000000 in
theorem error_bare (B b : Nat) (s : ByteArray) (w : World) (hT : Et B w) (h : Has w b 47 #[.string s, .int .i64 1, .nilIface]) (hs : s.size ≤ 1000) :
    Calls Tryd.prog 25 #[.pointer (some ⟨b, 0, none⟩)] w fun en w' => en = .returned (.string (bareB s)) ∧ Below w.heap.size w w' := by
  have HT := Lib.hid hT
  have HH := Lib.hid h
  have HSZ := Lib.hid hs
  have HB := Lib.hid hT.size
  have hSL : Hid ((stepsL [⟨b, s, 1⟩]).length ≤ 1010) := Lib.hid (stepsL_len (L := [⟨b, s, 1⟩]) (fun y hy => by rcases List.mem_cons.1 hy with rfl | h; exact hs; cases h))
  clear hT h hs
  go_enter Tryd.func25, Tryd.ntmps25
  go_wp2_with fail
  go_name_world W hW
  have B0 : Below w.heap.size w W := by rw [← hW]; exact (Below.refl _ w).alloc (Nat.le_refl _) _
  have I0 : Lib.IsBuilder 86 5 w.heap.size w.heap.size [] W := by rw [← hW]; exact Lib.fresh_isBuilder 86 5 w
  clear hW
  have BB0 := Lib.hid B0
  have II0 := Lib.hid I0
  clear B0 I0
  go_loopg [4, 5] 1 (fun k l g wr => l = .pointer (some ⟨b, 0, none⟩) ∧ ((k = 1 ∧ g = .pointer (some ⟨b, 0, none⟩) ∧ Hid (Lib.IsBuilder 86 5 w.heap.size w.heap.size [] wr ∧ Below w.heap.size w wr)) ∨ (k = 0 ∧ g = .pointer none ∧ Hid (Lib.IsBuilder 86 5 w.heap.size w.heap.size (Lib.byteCells (stepsL [⟨b, s, 1⟩])) wr ∧ Below w.heap.size w wr))))
  case atStart => exact ⟨rfl, .inl ⟨rfl, rfl, Lib.hid ⟨II0.out, BB0.out⟩⟩⟩
  case round =>
    obtain ⟨rfl, hk⟩ := hrel
    rcases hk with ⟨hk, rfl, HS⟩ | ⟨hk, rfl, HS⟩
    · have hh := Lib.hid (HH.out.below HS.out.2 HH.out.lt)
      have c0 : wr.cell? ⟨b, 0, none⟩ = some (.string s) := hh.out.cell 0
      have c1 : wr.cell? ⟨b, 1, none⟩ = some (.int .i64 (1 : Nat)) := hh.out.cell 1
      go_wp2_with fail
      obtain ⟨V, hV⟩ : ∃ V, V = wr.drew := ⟨_, rfl⟩
      refine still_tail_at V hV 12 (by kernel_rfl) (by kernel_rfl) ?_
      have BV : Hid (Lib.IsBuilder 86 5 w.heap.size w.heap.size [] V ∧ Below w.heap.size w V) := by
        rw [hV]
        exact Lib.hid ⟨HS.out.1, HS.out.2.drew⟩
      have d0 : V.cell? ⟨b, 0, none⟩ = some (.string s) := by rw [hV]; exact c0
      have d1 : V.cell? ⟨b, 1, none⟩ = some (.int .i64 (1 : Nat)) := by rw [hV]; exact c1
      have hd : (dig 1).size = 1 := rfl
      have hb1 : ¬ 9223372036854775807 < s.size + 1 := by have := HSZ.out; omega
      have hb2 : ¬ 9223372036854775807 < s.size + 1 + (dig 1).size := by have := HSZ.out; omega
      have hb3 : ¬ 9223372036854775807 < s.size + 1 + (dig 1).size + 2 := by have := HSZ.out; omega
      clear hd
      clear hV c0 c1 HS
      simp only [List.take_succ_cons, List.take_zero, List.drop_succ_cons, List.drop_zero]
      repeat still_step
      still_call ((itoa_calls 1 _ (by decide)).mono fun _ _ h => ⟨h.1, h.2.symm⟩)
      repeat still_step
      refine wpStill_nil ?_
      clear hb1 hb2 hb3 d0 d1
      have HQ : Hid (s ++ ⟨#[32]⟩ ++ dig 1 ++ ⟨#[58, 32]⟩ = stepB ⟨b, s, 1⟩) := Lib.hid rfl
      obtain ⟨q, hq⟩ : ∃ q, q = s ++ ⟨#[32]⟩ ++ dig 1 ++ ⟨#[58, 32]⟩ := ⟨_, rfl⟩
      rw [← hq] at HQ ⊢
      clear hq
      have HZ : Hid ((([] : List Value)).length + q.size ≤ 140737488355328) := Lib.hid (by
        have h3 : q.size = s.size + 4 := by rw [HQ.out, stepB_size]
        have := HSZ.out
        simp only [List.length_nil]
        omega)
      go_wp2_with (first
        | (go_at_call 37; refine (write_calls w.heap.size w.heap.size _ q _ BV.out.1 HZ.out BV.out.2.size).mono ?_; rintro en w1 ⟨rfl, i1, b1⟩;
           have I1 := Lib.hid i1; have B1 := Lib.hid b1;
           have c2 : w1.cell? ⟨b, 2, none⟩ = some .nilIface := ((HH.out.below BV.out.2 HH.out.lt).below b1 HH.out.lt).cell 2
           clear i1 b1)
        | (go_at_call 36; refine (itself_nil _).mono ?_; rintro en w2 ⟨rfl, b2⟩; have B2 := Lib.hid b2; clear b2)
        | fail)
      go_roundg 0
      case measure => omega
      case rel =>
        refine ⟨rfl, .inr ⟨rfl, rfl, Lib.hid ⟨?_, (BV.out.2.trans B1.out).trans (below_less B2.out (Nat.le_trans BV.out.2.size B1.out.size))⟩⟩⟩
        have e : Lib.byteCells (stepsL [⟨b, s, 1⟩]) = [] ++ Lib.strCells q := by
          rw [HQ.out, Lib.strCells_eq]
          unfold stepsL
          simp
        rw [e]
        exact builder_below I1.out B2.out
    · have c2 : wr.cell? ⟨b, 2, none⟩ = some .nilIface := (HH.out.below HS.out.2 HH.out.lt).cell 2
      have HZ : Hid ((Lib.byteCells (stepsL [⟨b, s, 1⟩])).length + nothingB.size ≤ 140737488355328) := Lib.hid (by
        have h1 := hSL.out
        have h3 : nothingB.size = 7 := rfl
        rw [Lib.byteCells_length]
        omega)
      go_wp2_with (first
        | (go_at_call 37; refine (write_calls w.heap.size w.heap.size _ nothingB _ HS.out.1 HZ.out HS.out.2.size).mono ?_; rintro en w2 ⟨rfl, i2, b2⟩; have I2 := Lib.hid i2; have B2 := Lib.hid b2; clear i2 b2)
        | (go_at_call 39; refine (string_calls w.heap.size w.heap.size (stepsL [⟨b, s, 1⟩] ++ nothingB.data.toList) _ (by rw [Lib.byteCells_append, ← Lib.strCells_eq]; exact I2.out) (Nat.le_trans HS.out.2.size B2.out.size)).mono ?_; rw [bare_eq]; rintro en w3 ⟨rfl, b3⟩; have B3 := Lib.hid b3; clear b3)
        | fail)
      go_ret
      exact ⟨rfl, (HS.out.2.trans B2.out).trans B3.out⟩
end Go.Proofs.YtlbpephbigikcaaDoor.flt
