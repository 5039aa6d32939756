/- text: Save and Load; what is saved is loaded again. -/
import Derived.Test.YtpdcbfhmlgmhpaaTextC
import Derived.Test.YtpdcbfhmlgmhpaaWireG
import Derived.Test.YtpdcbfhmlgmhpaaWireU
import Derived.Test.YtpdcbfhmlgmhpaaDec
namespace Go.Proofs.Ytpdcbfhmlgmhpaa
open Go.RowKit

/-- The bytes of a text. -/
def encT (s : ByteArray) : ByteArray := ⟨(enc s.size ++ s.data.toList).toArray⟩

theorem encT_eq (s : ByteArray) : (⟨(enc s.size).toArray⟩ : ByteArray) ++ s = encT s := by
  apply bytes_eq
  simp [encT]

theorem encT_size (s : ByteArray) (h : s.size ≤ 1000000) : (encT s).size ≤ 1000011 := by
  have h1 := enc_len s.size (by omega)
  have h2 : s.data.toList.length = s.size := by simp
  unfold encT
  rw [text_size, List.length_append]
  omega

theorem rstr_calls (s : ByteArray) (w : World) (hs : s.size ≤ 1000000) :
    Calls Try.prog 24 #[.string s] w fun en w' => en = .returned (.string (encT s)) ∧ Below w.heap.size w w' :=
  (fstr_any s w hs).mono fun en w' h => ⟨by rw [h.1, encT_eq], h.2⟩

theorem wr_made (w : World) : Wr (w.alloc (.cells #[.slice none 0 0] 97)) w.heap.size none [] :=
  ⟨_, Has.made _ _ _, World.ownsRow_nil _ 0 _ 1, rfl, by intro h; cases h⟩

set_option maxRecDepth 100000 in
set_option maxHeartbeats 400000 in
theorem dsave_calls (d : Nat) (s : ByteArray) (w : World) (h : Dc w d s) (hs : s.size ≤ 200) :
    Calls Try.prog 23 #[.pointer (some ⟨d, 0, none⟩)] w fun en w' => en = .returned (.string (encT s)) ∧ Below w.heap.size w w' := by
  have c0 : w.cell? ⟨d, 0, none⟩ = some (.string s) := h.cell 0
  have hd := h.lt
  clear h
  go_enter Try.func23, Try.ntmps23
  go_wp2_with fail
  refine (wstr_any w.heap.size none [] s _ (wr_made w) (by simp) (by omega)).mono ?_
  rintro en w1 ⟨rfl, r1, h1, hr1, t1⟩
  rw [List.nil_append] at h1
  have B1 : Below w.heap.size w w1 := by
    have h0 : Below w.heap.size w (w.alloc (.cells #[.slice none 0 0] 97)) := (Below.refl _ _).alloc (Nat.le_refl _) _
    exact h0.trans (t1.below (by simp) (fun j hj h => by rcases h with h | h; (omega); (cases h)))
  have H1 := Lib.hid h1
  have HB := Lib.hid B1
  clear h1 hr1 t1 B1
  go_wp2_with fail
  refine (text_any _ _ _ _ H1.out).mono ?_
  rintro en w2 ⟨rfl, rfl⟩
  go_wp2_with fail
  go_ret
  exact ⟨rfl, HB.out⟩

theorem strN_encT (s : ByteArray) (hs : s.size ≤ 200) : strN 200 (encT s) 0 = (s, ⟨#[]⟩, 0) := by
  have e : dec 0 0 (encT s).data.toList = (0, s.size, (enc s.size).length) := dec_of_enc s.size (by omega) s.data.toList
  have hu : upto 200 (encT s) 0 = (s.size, s, 0) := by
    unfold upto
    simp only [e]
    rw [if_pos (by omega)]
    have hr : restOf (encT s) (0, s.size, (enc s.size).length) = s := by
      unfold restOf
      rw [if_pos rfl]
      have := extract_drop (enc s.size) s.data.toList
      unfold encT
      rw [this]
    rw [hr]
    rfl
  unfold strN
  rw [hu]
  unfold takeN
  rw [if_pos (Nat.le_refl _)]
  have e1 : s.extract 0 s.size = s := by
    apply bytes_eq
    rw [head_list, List.take_of_length_le (by simp)]
  have e2 : s.extract s.size s.size = ⟨#[]⟩ := by
    apply bytes_eq
    rw [tail_list, List.drop_eq_nil_of_le (by simp)]
  rw [e1, e2]

def LoadPost (w : World) (s : ByteArray) (en : Ending) (w' : World) : Prop :=
  ∃ d, en = .returned (.tuple #[.pointer (some ⟨d, 0, none⟩), .int .i64 0]) ∧ w.heap.size ≤ d ∧ Dc w' d s ∧ Below w.heap.size w w'

set_option maxRecDepth 100000 in
set_option maxHeartbeats 400000 in
theorem dload_calls (s : ByteArray) (w : World) (hs : s.size ≤ 200) :
    Calls Try.prog 22 #[.string (encT s)] w fun en w' => LoadPost w s en w' := by
  have hz : (encT s).size ≤ maxLen := by have := encT_size s (by omega); unfold maxLen; omega
  go_enter Try.func22, Try.ntmps22
  go_wp2_with fail
  refine (read_any (encT s) w).mono ?_
  rintro en w1 ⟨rfl, h1, b1⟩
  have H1 := Lib.hid h1
  have B1 := Lib.hid b1
  clear h1 b1
  go_wp2_with fail
  refine (str_any _ (encT s) 0 200 w1 hz H1.out (by omega) (by omega)).mono ?_
  rw [strN_encT s hs]
  rintro en w2 ⟨rfl, h2, g2⟩
  have H2 := Lib.hid h2
  have T2 : Hid (Turn (fun j => w.heap.size ≤ j) w w2) := (Turn.of_below (F := fun j => w.heap.size ≤ j) B1.out (fun _ _ e => e)).grown g2 (fun j e _ => by injection e with e; omega)
  clear h2 g2 H1 B1
  go_wp2_with fail
  have hEnd : endE ⟨#[]⟩ 0 = 0 := rfl
  have hlt := H2.out.lt
  refine (end_any w.heap.size ⟨#[]⟩ 0 _ (by exact H2.out.alloc _)).mono ?_
  rw [hEnd]
  rintro en w3 ⟨rfl, _, g3⟩
  have D3 : Hid (Dc w3 w2.heap.size s) := Lib.hid ((Has.made w2 _ _).grown g3 (by intro e; injection e with e; omega))
  have T3 : Hid (Turn (fun j => w.heap.size ≤ j) w w3) := (T2.out.alloc _).grown g3 (fun j e _ => by injection e with e; omega)
  clear g3 hEnd H2 T2
  go_wp2_with fail
  go_ret2
  exact ⟨_, rfl, Nat.le_of_lt hlt, D3.out, T3.out.below (Nat.le_refl _) (fun j hj e => by omega)⟩

end Go.Proofs.Ytpdcbfhmlgmhpaa
