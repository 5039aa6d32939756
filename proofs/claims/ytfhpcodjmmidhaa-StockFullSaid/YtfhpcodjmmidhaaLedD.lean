/- ledger: what Do gives. -/
import Derived.Test.YtfhpcodjmmidhaaLedC
namespace Go.Proofs.Ytfhpcodjmmidhaa
open Go.RowKit Go.Maps

section
variable {H : Type}

/-- An op done: the map, the error. -/
def doL (D : DataW H) (k : Int) (s t : ByteArray) (n : Int) : DataW H × Int :=
  if ¬ chkL k s t n = 0 then (D, chkL k s t n) else if k = 1 then opn D s else if k = 2 then cls D s else mov D s t n

def DPost (d m : Nat) (w : World) (r : DataW H × Int) (en : Ending) (w' : World) : Prop :=
  en = .returned (.int .i64 r.2) ∧ Bk w' d m r.1 ∧ w.grownBy w' (some m)

theorem chk_kind {k n : Int} {s t : ByteArray} (h : chkL k s t n = 0) : k = 1 ∨ k = 2 ∨ (k = 3 ∧ 1 ≤ n ∧ n ≤ 1099511627776) := by
  unfold chkL at h
  split at h
  · omega
  · split at h
    · split at h
      · rename_i h2; exact Or.inr (Or.inr ⟨by assumption, h2.2.1, h2.2.2.1⟩)
      · omega
    · omega

theorem below_any {w w' : World} (h : Below w.heap.size w w') (r : Option Nat) : w.grownBy w' r :=
  ⟨h.os, h.tape, h.output, h.size, fun i hi _ => h.block i hi⟩

theorem Bk.more {w w' : World} {d m : Nat} {D : DataW H} (h : Bk w d m D) (hb : Below w.heap.size w w') : Bk w' d m D :=
  h.kept (below_any hb none) (by simp) (by simp)

set_option maxRecDepth 100000 in
set_option maxHeartbeats 1000000 in
theorem bdo_calls (d m : Nat) (D : DataW H) (k n : Int) (s t : ByteArray) (w : World) (h : Bk w d m D) (hs : s.size ≤ maxLen) (ht : t.size ≤ maxLen) (hD : Maps.size D + 1 < maxLen)
    (ha : -1152921504606846976 ≤ amt D s) (ha' : amt D s ≤ 1152921504606846976) (hb : -1152921504606846976 ≤ amt D t) (hb' : amt D t ≤ 1152921504606846976) :
    Calls Try.prog 16 #[.pointer (some ⟨d, 0, none⟩), .agg #[.int .i64 k, .string s, .string t, .int .i64 n]] w fun en w' => DPost d m w (doL D k s t n) en w' := by
  have hck := fun W => lcheck_calls k n s t W hs ht
  by_cases hc : chkL k s t n = 0
  · rw [hc] at hck
    have E0 : doL D k s t n = if k = 1 then opn D s else if k = 2 then cls D s else mov D s t n := by unfold doL; rw [if_neg (by simpa using hc)]
    rcases chk_kind hc with rfl | rfl | ⟨rfl, hn1, hn2⟩
    · clear hc
      have E := Lib.hid (E0.trans (if_pos rfl))
      have B := Lib.hid h
      have HB := Lib.hid (And.intro (And.intro ha ha') (And.intro hb hb'))
      clear E0 h ha ha' hb hb'
      go_enter Try.func16, Try.ntmps16
      go_wp2_with fail
      refine (hck _).mono ?_
      rintro en w1 ⟨rfl, b1⟩
      have hz := b1.size
      simp at hz
      have G1 : Hid (w.grownBy w1 (some m)) := grown_trans (grown_alloc (grown_refl w _) _) (below_any b1 _)
      have B1 : Hid (Bk w1 d m D) := (B.out.more (new_box _ _)).more b1
      have C1 : Has w1 w.heap.size 29 #[.int .i64 1, .string s, .string t, .int .i64 n] := (Has.made _ _ _).below b1 (by simp)
      have b10 : w1.cell? ⟨w.heap.size, 0, none⟩ = some (.int .i64 1) := C1.cell 0
      have b11 : w1.cell? ⟨w.heap.size, 1, none⟩ = some (.string s) := C1.cell 1
      clear b1 C1 B
      go_wp2_with fail
      refine (bopen_calls d m D s w1 B1.out hs (by omega)).mono ?_
      rintro en w2 ⟨rfl, h2, g2⟩
      have H2 := Lib.hid h2
      have G2 := Lib.hid (grown_trans G1.out g2.grown)
      clear h2 g2
      go_wp2_with fail
      go_ret
      rw [E.out]
      exact ⟨rfl, H2.out, G2.out⟩
    · clear hc
      have E := Lib.hid (E0.trans ((if_neg (by decide)).trans (if_pos rfl)))
      have B := Lib.hid h
      have HB := Lib.hid (And.intro (And.intro ha ha') (And.intro hb hb'))
      clear E0 h ha ha' hb hb'
      go_enter Try.func16, Try.ntmps16
      go_wp2_with fail
      refine (hck _).mono ?_
      rintro en w1 ⟨rfl, b1⟩
      have hz := b1.size
      simp at hz
      have G1 : Hid (w.grownBy w1 (some m)) := grown_trans (grown_alloc (grown_refl w _) _) (below_any b1 _)
      have B1 : Hid (Bk w1 d m D) := (B.out.more (new_box _ _)).more b1
      have C1 : Has w1 w.heap.size 29 #[.int .i64 2, .string s, .string t, .int .i64 n] := (Has.made _ _ _).below b1 (by simp)
      have b10 : w1.cell? ⟨w.heap.size, 0, none⟩ = some (.int .i64 2) := C1.cell 0
      have b11 : w1.cell? ⟨w.heap.size, 1, none⟩ = some (.string s) := C1.cell 1
      clear b1 C1 B
      go_wp2_with fail
      refine (bclose_calls d m D s w1 B1.out hs).mono ?_
      rintro en w2 ⟨rfl, h2, g2⟩
      have H2 := Lib.hid h2
      have G2 := Lib.hid (grown_trans G1.out g2.grown)
      clear h2 g2
      go_wp2_with fail
      go_ret
      rw [E.out]
      exact ⟨rfl, H2.out, G2.out⟩
    · clear hc
      have E := Lib.hid (E0.trans ((if_neg (by decide)).trans (if_neg (by decide))))
      have B := Lib.hid h
      have HB := Lib.hid (And.intro (And.intro ha ha') (And.intro hb hb'))
      clear E0 h ha ha' hb hb'
      go_enter Try.func16, Try.ntmps16
      go_wp2_with fail
      refine (hck _).mono ?_
      rintro en w1 ⟨rfl, b1⟩
      have hz := b1.size
      simp at hz
      have G1 : Hid (w.grownBy w1 (some m)) := grown_trans (grown_alloc (grown_refl w _) _) (below_any b1 _)
      have B1 : Hid (Bk w1 d m D) := (B.out.more (new_box _ _)).more b1
      have C1 : Has w1 w.heap.size 29 #[.int .i64 3, .string s, .string t, .int .i64 n] := (Has.made _ _ _).below b1 (by simp)
      have b10 : w1.cell? ⟨w.heap.size, 0, none⟩ = some (.int .i64 3) := C1.cell 0
      have b11 : w1.cell? ⟨w.heap.size, 1, none⟩ = some (.string s) := C1.cell 1
      have b12 : w1.cell? ⟨w.heap.size, 2, none⟩ = some (.string t) := C1.cell 2
      have b13 : w1.cell? ⟨w.heap.size, 3, none⟩ = some (.int .i64 n) := C1.cell 3
      clear b1 C1 B
      go_wp2_with fail
      refine (bmove_calls d m D s t n w1 B1.out hs ht hD (by omega) hn2 HB.out.1.1 HB.out.1.2 HB.out.2.1 HB.out.2.2).mono ?_
      rintro en w2 ⟨rfl, h2, g2⟩
      have H2 := Lib.hid h2
      have G2 := Lib.hid (grown_trans G1.out g2.grown)
      clear h2 g2
      go_wp2_with fail
      go_ret
      rw [E.out]
      exact ⟨rfl, H2.out, G2.out⟩
  · have E : Hid (doL D k s t n = (D, chkL k s t n)) := if_pos hc
    generalize hq : chkL k s t n = c at *
    have hc' : (c != 0) = true := by simpa using hc
    have B := Lib.hid h
    clear hq hc h ha ha' hb hb'
    go_enter Try.func16, Try.ntmps16
    go_wp2_with fail
    refine (hck _).mono ?_
    rintro en w1 ⟨rfl, b1⟩
    have hz := b1.size
    simp at hz
    have G1 : Hid (w.grownBy w1 (some m)) := grown_trans (grown_alloc (grown_refl w _) _) (below_any b1 _)
    have B1 : Hid (Bk w1 d m D) := (B.out.more (new_box _ _)).more b1
    clear b1 B
    go_wp2_with fail
    go_ret
    rw [E.out]
    exact ⟨rfl, B1.out, G1.out⟩

end
end Go.Proofs.Ytfhpcodjmmidhaa
