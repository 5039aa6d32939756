/- What wire's Writer's Str does. -/
import Derived.Test.YtlbpephbigikcabWireW
import Derived.Test.YtlbpephbigikcabAppS
import Derived.Lib.ItoaWalk
import Derived.Deep.MidRow
namespace Go.Proofs.Ytlbpephbigikcab
open Go.RowKit

/-- Bytes were appended to a writer's own, and the slice was laid back. -/
theorem Wr.close {w W1 w2 : World} {b : Nat} {v v' : Value} {r : Option Nat} {ys : List UInt8} (hb : Has w b 80 #[v]) (hv : v.ownBlock = r) (hne : r ≠ some b)
    (hT : Turn (fun _ => False) w W1) (hg : W1.grownBy w2 v.ownBlock) (hown : w2.ownsRow 0 5 1 v' ys.length (ys.map byteV)) (hat : v'.ownBlock = v.ownBlock ∨ ∃ k, v'.ownBlock = some k ∧ w.heap.size ≤ k) :
    WrPost w b r ys (.returned (.pointer (some ⟨b, 0, none⟩))) (w2.setCell ⟨b, 0, none⟩ v') := by
  have hbl := hb.lt
  have hnb : v'.ownBlock ≠ some b := by
    rcases hat with h | ⟨k, h, hk⟩
    · rw [h, hv]; exact hne
    · rw [h]; intro e; injection e with e; omega
  have hT2 : Turn (fun k => k = b ∨ some k = r) w w2 :=
    (hT.more (fun _ _ h => h.elim)).grown hg (fun j hj _ => .inr (by rw [← hj, hv]))
  have hb2 : Has w2 b 80 #[v] := (hb.turn hT (fun h => h)).grown hg (by rw [hv]; exact fun h => hne h.symm)
  refine ⟨rfl, v'.ownBlock, ⟨v', by simpa using hb2.put 0 v', ?_, rfl, hnb⟩, by rw [← hv]; exact hat, hT2.put (fun _ => .inl rfl) 0 _⟩
  refine ⟨hown.1, ?_⟩
  rcases hown.2 with h | ⟨g', cap', cur, h1, h2, h3, h4⟩
  · exact .inl h
  · have e : g' ≠ b := by rintro rfl; exact hnb (by rw [h1]; rfl)
    exact .inr ⟨g', cap', cur, h1, h2, (Below.heap_setCell w2 _ _ g' e).trans h3, h4⟩

theorem wnum_int (b : Nat) (r : Option Nat) (xs : List UInt8) (x : Int) (w : World) (h0 : 0 ≤ x) (hx : x < 18446744073709551616) (h : Wr w b r xs) (hl : xs.length ≤ 1000000) :
    Calls Try.prog 39 #[.pointer (some ⟨b, 0, none⟩), .int .u64 x] w fun en w' => WrPost w b r (xs ++ enc x.toNat) en w' := by
  obtain ⟨n, rfl⟩ := Int.eq_ofNat_of_zero_le h0
  exact wnum_any b r xs n w (by omega) h hl

theorem enc_len (n : Nat) (h : n < 18446744073709551616) : (enc n).length ≤ 11 := by
  unfold enc
  rw [List.length_append, List.length_singleton]
  have := hi_len 10 (n / 128) (by omega)
  omega

theorem WrPost.trans {w w1 w2 : World} {b : Nat} {r r1 : Option Nat} {xs : List UInt8} {en : Ending} (hr : r1 = r ∨ ∃ k, r1 = some k ∧ w.heap.size ≤ k) (ht : Turn (fun k => k = b ∨ some k = r) w w1)
    (h : WrPost w1 b r1 xs en w2) : WrPost w b r xs en w2 := by
  obtain ⟨he, r2, h2, hr2, t2⟩ := h
  refine ⟨he, r2, h2, ?_, ht.trans t2 (fun j hj h => ?_)⟩
  · rcases hr2 with h | ⟨k, h, hk⟩
    · subst h; exact hr
    · exact .inr ⟨k, h, Nat.le_trans ht.size hk⟩
  · rcases h with h | h
    · exact .inl h
    · rcases hr with e | ⟨k, e, hk⟩
      · exact .inr (by rw [← e]; exact h)
      · rw [e] at h; injection h with h; omega

set_option maxRecDepth 100000 in
set_option maxHeartbeats 400000 in
theorem wstr_any (b : Nat) (r : Option Nat) (xs : List UInt8) (s : ByteArray) (w : World) (h : Wr w b r xs) (hl : xs.length ≤ 1000000) (hs : s.size ≤ 1000000) :
    Calls Try.prog 40 #[.pointer (some ⟨b, 0, none⟩), .string s] w fun en w' => WrPost w b r (xs ++ enc s.size ++ s.data.toList) en w' := by
  obtain ⟨i0, hi0, hz0, hz1, hz2⟩ := info_parts Try.infoByte
  have hel := enc_len s.size (by omega)
  go_enter Try.func40, Try.ntmps40
  go_wp2_with fail
  refine (wnum_int b r xs _ w (by omega) (by omega) h hl).mono ?_
  rintro en w1 ⟨rfl, r1, h1, hr1, t1⟩
  simp only [Int.toNat_natCast] at h1
  generalize hzs : xs ++ enc s.size = zs at h1
  have hzl : zs.length ≤ 1000011 := by rw [← hzs, List.length_append]; omega
  have HZS := Lib.hid hzs
  clear hzs
  obtain ⟨v, hb, ho, hv, hne⟩ := h1
  have c0 : w1.cell? ⟨b, 0, none⟩ = some v := hb.cell 0
  have HB := Lib.hid hb
  have HO := Lib.hid ho
  have HV := Lib.hid hv
  have HNE := Lib.hid hne
  have HR1 := Lib.hid hr1
  have T1 := Lib.hid t1
  have K1 : zs.length + s.size ≤ maxLen := by unfold maxLen; omega
  have K2 : zs.length + s.size ≤ 140737488355328 := by omega
  have HK1 := Lib.hid K1
  have HK2 := Lib.hid K2
  clear hb ho hv hne h hr1 t1 K1 K2
  go_wp2_with ((with_reducible refine at_op 16 ?_); refine wpList_append_str (o := ⟨some 16, _, _, _, _, _⟩) rfl (.tmp 14) (.tmp 15) 63 9 rfl 0 5 i0 Try.underlying63 Try.underlying9 hi0 hz0 hz1 hz2 v zs.length _ rfl HO.out s rfl HK1.out HK2.out (Nat.zero_le _) ?_)
  intro v' w2 hown hg hat
  have c2 : w2.cell? ⟨b, 0, none⟩ = some v := (HB.out.grown hg (by rw [HV.out]; exact fun h => HNE.out h.symm)).cell 0
  have f2 : w2.frozen? ⟨b, 0, none⟩ = false := (HB.out.grown hg (by rw [HV.out]; exact fun h => HNE.out h.symm)).free 0
  have HOWN := Lib.hid hown
  have HG := Lib.hid hg
  have HAT := Lib.hid hat
  obtain ⟨a', m', c', rfl⟩ : ∃ a' m' c', v' = .slice a' m' c' := by
    rcases hown.2 with ⟨h, _⟩ | ⟨g', cap', cur, h, _⟩
    · exact ⟨_, _, _, h⟩
    · exact ⟨_, _, _, h⟩
  clear hown hg hat c0
  go_wp2_with fail
  go_ret
  rw [HZS.out]
  have hc := Wr.close (ys := zs ++ s.data.toList) HB.out HV.out HNE.out (Turn.refl _ w1) HG.out (by
    have e1 : (zs ++ s.data.toList).length = zs.length + s.size := by simp
    have e2 : (zs ++ s.data.toList).map byteV = zs.map byteV ++ Lib.strCells s := by rw [List.map_append, strCells_eq]
    rw [e1, e2]
    exact HOWN.out) (HAT.out.imp id (fun h => ⟨_, h, Nat.le_refl _⟩))
  exact WrPost.trans HR1.out T1.out hc

end Go.Proofs.Ytlbpephbigikcab
