/- cells: what is handed in, in a later world. -/
import Derived.Test.YtdofnmllhgabdaaCelD
import Derived.Test.YtdofnmllhgabdaaStrs
import Derived.Test.YtdofnmllhgabdaaInts
namespace Go.Proofs.Ytdofnmllhgabdaa.cel
open Go Go.RowKit

theorem str_at {w V : World} {a : Option Addr} {len cap : Nat} {T : Nat → ByteArray} (h : ArgS w a len cap T) (t : Turn (fun j => w.heap.size ≤ j) w V) {i : Nat} (hi : i < len) :
    ∃ b o, a = some ⟨b, o, none⟩ ∧ V.cell? ⟨b, o + i, none⟩ = some (.string (T i)) ∧ (T i).size ≤ maxLen := by
  obtain ⟨b, o, e, hb, hc, hs⟩ := h.2.2 i hi
  exact ⟨b, o, e, (t.cell hb (by simpa using hb)).trans hc, hs⟩

theorem int_at {w V : World} {a : Option Addr} {len cap : Nat} {T : Nat → Int} (h : ArgI w a len cap T) (t : Turn (fun j => w.heap.size ≤ j) w V) {i : Nat} (hi : i < len) :
    ∃ b o, a = some ⟨b, o, none⟩ ∧ V.cell? ⟨b, o + i, none⟩ = some (.int .i64 (T i)) ∧ Fits (T i) := by
  obtain ⟨b, o, e, hb, hc, h1, h2⟩ := h.2.2 i hi
  exact ⟨b, o, e, (t.cell hb (by simpa using hb)).trans hc, h1, h2⟩

theorem calls_name {P : Program} {f : FuncId} {args : Array Value} {w : World} {R : Ending → World → Prop} (h : ∀ W, w = W → Calls P f args W R) : Calls P f args w R := h w rfl

theorem upd_same {α : Type} (F : Nat → α) (k : Nat) (v : α) : upd F k v k = v := if_pos rfl
theorem upd_other {α : Type} (F : Nat → α) {k i : Nat} (v : α) (h : i ≠ k) : upd F k v i = F i := if_neg h

theorem cut8_size (s : ByteArray) : (s.extract 0 8).size ≤ 8 := by rw [ByteArray.size_extract]; omega

end Go.Proofs.Ytdofnmllhgabdaa.cel
