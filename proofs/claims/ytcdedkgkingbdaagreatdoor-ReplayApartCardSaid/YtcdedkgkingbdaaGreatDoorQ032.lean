/- object: an op is read from the bytes that it was put as. -/
import Derived.Test.YtcdedkgkingbdaaGreatDoorQ030
import Derived.Test.YtcdedkgkingbdaaGreatDoorQ021
import Derived.Test.YtcdedkgkingbdaaGreatDoorQ018
import Derived.Test.YtcdedkgkingbdaaGreatDoorQ031
namespace Go.Proofs.YtcdedkgkingbdaaGreatDoor.rep
open Go Go.RowKit Go.Proofs.YtcdedkgkingbdaaGreatDoor.object

/-- What is left to read: bytes, without an error. -/
def Left (w : World) (b : Nat) (R : List UInt8) : Prop := Rd w b ⟨R.toArray⟩ 0 ∧ R.length ≤ 1000000
section
variable {w w' : World} {b : Nat} {R : List UInt8}
theorem Left.lt (h : Left w b R) : b < w.heap.size := Has.lt h.1
theorem Left.turn {F : Nat → Prop} (h : Left w b R) (t : Turn F w w') (hb : ¬ F b) : Left w' b R := ⟨Has.turn h.1 t hb, h.2⟩
theorem Left.alloc (h : Left w b R) (o : Obj) : Left (w.alloc o) b R := ⟨Has.alloc h.1 o, h.2⟩
theorem size_toArray_le {l : List UInt8} (h : l.length ≤ 1000000) : (⟨l.toArray⟩ : ByteArray).size ≤ maxLen := by
  show l.toArray.size ≤ _
  rw [List.size_toArray]
  unfold maxLen
  omega
theorem Left.upto {n : Nat} (h : Left w b (enc n ++ R)) (most : Int) (hn : (n : Int) ≤ most) (hm : most ≤ 9223372036854775807) :
    Calls Tryz.prog 112 #[.pointer (some ⟨b, 0, none⟩), .int .i64 most] w fun en w' => en = .returned (.int .i64 n) ∧ Left w' b R ∧ Turn (fun k => k = b) w w' := by
  refine (upto_any b _ 0 most w (size_toArray_le h.2) h.1 (by omega) hm).mono ?_
  rw [upto_enc n R most (by omega) (by omega)]
  rintro en w' ⟨rfl, h1, h2⟩
  exact ⟨rfl, ⟨h1, by have := h.2; rw [List.length_append] at this; omega⟩, Turn.of_grown h2 rfl⟩
theorem Left.str {s : ByteArray} (h : Left w b (enc s.size ++ (s.data.toList ++ R))) (most : Int) (hn : (s.size : Int) ≤ most) (hm : most ≤ 9223372036854775807) :
    Calls Tryz.prog 176 #[.pointer (some ⟨b, 0, none⟩), .int .i64 most] w fun en w' => en = .returned (.string s) ∧ Left w' b R ∧ Turn (fun k => k = b) w w' := by
  have hl : s.data.toList.length = s.size := by simp
  have e : strN most ⟨(enc s.size ++ (s.data.toList ++ R)).toArray⟩ 0 = (⟨s.data.toList.toArray⟩, ⟨R.toArray⟩, 0) := by
    have := strN_enc s.data.toList R most (by rw [hl]; omega) (by rw [hl]; omega)
    rw [hl] at this
    exact this
  refine (str_any b _ 0 most w (size_toArray_le h.2) h.1 (by omega) hm).mono ?_
  rw [e]
  rintro en w' ⟨rfl, h1, h2⟩
  exact ⟨rfl, ⟨h1, by have := h.2; rw [List.length_append, List.length_append] at this; omega⟩, Turn.of_grown h2 rfl⟩
theorem Left.err (h : Left w b R) : Calls Tryz.prog 160 #[.pointer (some ⟨b, 0, none⟩)] w fun en w' => en = .returned (.int .i64 0) ∧ w = w' := err_any b _ 0 w h.1
end
def TakeO (w : World) (b : Nat) (R : List UInt8) (cs : Array Value) (en : Ending) (w' : World) : Prop := en = .returned (.agg cs) ∧ Left w' b R ∧ Turn (fun k => k = b) w w'
theorem nil_ba (x : ByteArray) (h : (x.size : Int) = 0) : x = ⟨#[]⟩ := by
  apply ByteArray.ext
  apply Array.eq_empty_of_size_eq_zero
  have : x.size = 0 := by omega
  exact this

/-- While an op is taken: the reader, the answer's box, the op's. -/
structure Tk (w : World) (b : Nat) (T : TypeId) (z : Array Value) (R : List UInt8) (g : Nat) (cs : Array Value) (V : World) : Prop where
  left : Left V b R
  res : Has V w.heap.size T z
  box : Has V g T cs
  turn : Turn (fun k => k = b) w V
  ord : b < w.heap.size ∧ w.heap.size < g
section
variable {w V V' : World} {b g : Nat} {T : TypeId} {z cs : Array Value} {R R' : List UInt8}
theorem Tk.read (h : Tk w b T z R g cs V) (l : Left V' b R') (t : Turn (fun k => k = b) V V') : Tk w b T z R' g cs V' :=
  ⟨l, h.res.turn t (by have := h.ord; omega), h.box.turn t (by have := h.ord; omega), h.turn.trans t (fun _ _ e => e), h.ord⟩
theorem Tk.below (h : Tk w b T z R g cs V) (t : Below V.heap.size V V') : Tk w b T z R g cs V' :=
  ⟨h.left.turn (Turn.of_below (F := fun k => V.heap.size ≤ k) t (fun _ _ e => e)) (by have := h.left.lt; omega), h.res.below t h.res.lt, h.box.below t h.box.lt, h.turn.trans (Turn.of_below (F := fun k => V.heap.size ≤ k) t (fun _ _ e => e)) (fun j h1 h2 => by have := h.turn.size; omega), h.ord⟩
theorem Tk.put (h : Tk w b T z R g cs V) (i : Nat) (v : Value) : Tk w b T z R g (cs.setIfInBounds i v) (V.setCell ⟨g, i, none⟩ v) := by
  have t : Turn (fun k => k = g) V (V.setCell ⟨g, i, none⟩ v) := (Turn.refl (fun k => k = g) V).put (fun _ => rfl) i v
  exact ⟨h.left.turn t (by have := h.ord; omega), h.res.turn t (by have := h.ord; omega), h.box.put i v, h.turn.trans t (fun j hj e => by have := h.ord; omega), h.ord⟩
theorem Tk.stored {cs2 : Array Value} (h : Tk w b T z R g cs V) (h1 : Has V' g T cs2) (t : Turn (fun k => k = g) V V') : Tk w b T z R g cs2 V' :=
  ⟨h.left.turn t (by have := h.ord; omega), h.res.turn t (by have := h.ord; omega), h1, h.turn.trans t (fun j hj e => by have := h.ord; omega), h.ord⟩
end

set_option maxRecDepth 100000 in
set_option maxHeartbeats 4000000 in
theorem sread_calls (o : stock.OpS) (ho : GS o) (b : Nat) (R : List UInt8) (w : World) (hL : Left w b (opS o ++ R)) :
    Calls Tryz.prog 159 #[.pointer (some ⟨b, 0, none⟩)] w (TakeO w b R #[.int .i64 o.k, .string o.s, .int .i64 o.n]) := by
  obtain ⟨k, s, n⟩ := o
  obtain ⟨h0, _, h2, h3, h4⟩ := stock.chkS_ok ho
  have hck : stock.chkS k s n = 0 := ho
  dsimp only at h0 h2 h3 h4 ⊢
  unfold opS at hL
  dsimp only at hL
  simp only [List.append_assoc] at hL
  obtain ⟨R1, hR1⟩ : ∃ R1, R1 = enc s.size ++ (s.data.toList ++ (enc n.toNat ++ R)) := ⟨_, rfl⟩
  rw [← hR1] at hL
  have HR1 := Lib.hid hR1
  have HLF := Lib.hid hL
  have HKT : Hid (((k.toNat : Nat) : Int) = k) := Lib.hid (by omega)
  have HNT : Hid (((n.toNat : Nat) : Int) = n) := Lib.hid (by omega)
  have HCK := Lib.hid hck
  have HB := Lib.hid (show _ ∧ _ ∧ _ from ⟨h2, h3, h4⟩)
  clear ho hL hR1 hck h2 h3 h4
  go_enter Tryz.func159, Tryz.ntmps159
  go_wp2_with fail
  refine callsName (fun W hW => ?_)
  have H0 : Hid (Left W b (enc (k : Int).toNat ++ R1) ∧ Has W w.heap.size 37 #[.int .i64 0, .string ⟨#[]⟩, .int .i64 0] ∧ Turn (fun k => k = b) w W ∧ b < w.heap.size) := by rw [← hW]; exact Lib.hid ⟨HLF.out.alloc _, made_at _ _ rfl, (Turn.refl _ w).alloc _, HLF.out.lt⟩
  clear hW HLF
  have hc := H0.out.1.upto 2 (by omega) (by decide)
  rw [HKT.out] at hc
  refine hc.mono ?_
  rintro en w1 ⟨rfl, l1, t1⟩
  have H1 : Hid (Left w1 b R1 ∧ Has w1 w.heap.size 37 #[.int .i64 0, .string ⟨#[]⟩, .int .i64 0] ∧ Turn (fun k => k = b) w w1 ∧ b < w.heap.size) := Lib.hid ⟨l1, H0.out.2.1.turn t1 (by have := H0.out.2.2.2; omega), H0.out.2.2.1.trans t1 (fun _ _ e => e), H0.out.2.2.2⟩
  clear l1 t1 H0 hc
  obtain ⟨g, hg⟩ : ∃ g, g = w1.heap.size := ⟨_, rfl⟩
  have HG := Lib.hid hg
  clear hg
  go_wp2_with fail
  refine callsName (fun W hW => ?_)
  have K0 : Hid (Tk w b 37 #[.int .i64 0, .string ⟨#[]⟩, .int .i64 0] R1 g #[.int .i64 k, .string ⟨#[]⟩, .int .i64 0] W) := by
    rw [← hW]
    exact Lib.hid ⟨H1.out.1.alloc _, H1.out.2.1.alloc _, made_at _ _ HG.out, H1.out.2.2.1.alloc _, H1.out.2.2.2, by rw [HG.out]; exact H1.out.2.1.lt⟩
  rw [← HG.out]
  clear hW H1 HG
  have K0' : Hid (Tk w b 37 #[.int .i64 0, .string ⟨#[]⟩, .int .i64 0] (enc s.size ++ (s.data.toList ++ (enc n.toNat ++ R))) g #[.int .i64 k, .string ⟨#[]⟩, .int .i64 0] W) := by rw [← HR1.out]; exact K0
  clear K0
  refine (K0'.out.left.str 12 (by have := HB.out; omega) (by decide)).mono ?_
  rintro en va ⟨rfl, lf, tn⟩
  have La := Lib.hid (K0'.out.read lf tn)
  have qva0 : va.cell? ⟨g, 0, none⟩ = some (.int .i64 k) := La.out.box.cell 0
  have qva1 : va.cell? ⟨g, 1, none⟩ = some (.string ⟨#[]⟩) := La.out.box.cell 1
  have qva2 : va.cell? ⟨g, 2, none⟩ = some (.int .i64 0) := La.out.box.cell 2
  have za : va.frozen? ⟨g, 1, none⟩ = false := La.out.box.free 1
  clear lf tn K0'
  go_wp2_with fail
  refine callsName (fun WKB hW => ?_)
  have KB : Hid (Tk w b 37 #[.int .i64 0, .string ⟨#[]⟩, .int .i64 0] (enc n.toNat ++ R) g #[.int .i64 k, .string s, .int .i64 0] WKB) := by rw [← hW]; exact Lib.hid (La.out.put 1 (.string s))
  clear hW La za qva0 qva1 qva2
  have hc2 := KB.out.left.upto 1099511627776 (by have := HB.out; omega) (by decide)
  rw [HNT.out] at hc2
  refine (hc2).mono ?_
  rintro en vb ⟨rfl, lf, tn⟩
  have Lb := Lib.hid (KB.out.read lf tn)
  have qvb0 : vb.cell? ⟨g, 0, none⟩ = some (.int .i64 k) := Lb.out.box.cell 0
  have qvb1 : vb.cell? ⟨g, 1, none⟩ = some (.string s) := Lb.out.box.cell 1
  have qvb2 : vb.cell? ⟨g, 2, none⟩ = some (.int .i64 0) := Lb.out.box.cell 2
  have zb : vb.frozen? ⟨g, 2, none⟩ = false := Lb.out.box.free 2
  clear lf tn KB
  clear hc2
  go_wp2_with fail
  refine callsName (fun WKC hW => ?_)
  have KC : Hid (Tk w b 37 #[.int .i64 0, .string ⟨#[]⟩, .int .i64 0] R g #[.int .i64 k, .string s, .int .i64 n] WKC) := by rw [← hW]; exact Lib.hid (Lb.out.put 2 (.int .i64 n))
  clear hW Lb zb qvb0 qvb1 qvb2
  refine (stock.scheck_calls k n s WKC (by have := HB.out; unfold maxLen; omega)).mono ?_
  rw [HCK.out]
  rintro en x1 ⟨rfl, bx⟩
  have K1 := Lib.hid (KC.out.below bx)
  clear bx KC
  go_wp2_with fail
  refine (K1.out.left.err).mono ?_
  rintro en x2 ⟨rfl, rfl⟩
  have qx10 : x1.cell? ⟨g, 0, none⟩ = some (.int .i64 k) := K1.out.box.cell 0
  have qx11 : x1.cell? ⟨g, 1, none⟩ = some (.string s) := K1.out.box.cell 1
  have qx12 : x1.cell? ⟨g, 2, none⟩ = some (.int .i64 n) := K1.out.box.cell 2
  go_wp2_with (first
    | ((with_reducible refine at_store (.tmp 2) ?_); refine wpList_store_all (o := ⟨none, _, _, _, _, _⟩) rfl 37 (.tmp 2) (.tmp 25) rfl w.heap.size #[.int .i64 k, .string s, .int .i64 n] #[.int .i64 0, .string ⟨#[]⟩, .int .i64 0] rfl rfl _ K1.out.res (by kernel_rfl) rfl (by simp [Value.oneCell']) ?_; intro Wb HWb TWb)
    | fail)
  exact bodyPost_ret (v := .agg #[.int .i64 k, .string s, .int .i64 n]) (results_cell_row rfl _ _ w.heap.size 37 _ _ _ rfl HWb Tryz.underlying37 rfl (by kernel_rfl)) rfl
    ⟨rfl, K1.out.left.turn TWb (by have := K1.out.ord; omega), K1.out.turn.trans TWb (fun j hj e => by omega)⟩

set_option maxRecDepth 100000 in
set_option maxHeartbeats 4000000 in
theorem ttake1 (a n : Int) (x : ByteArray) (ho : GT ⟨1, a, x, n⟩) (b : Nat) (R : List UInt8) (w : World) (hL : Left w b (opT ⟨1, a, x, n⟩ ++ R)) :
    Calls Tryz.prog 157 #[.pointer (some ⟨b, 0, none⟩)] w (TakeO w b R #[.int .i64 1, .int .i64 a, .string x, .int .i64 n]) := by
  obtain ⟨h0, h1, h2⟩ := text.chk_ok ho
  have hck : text.chk 1 a x.size n = 0 := ho
  dsimp only at h0 h1 h2
  unfold opT at hL
  dsimp only at hL
  rw [if_pos rfl] at hL
  have hn0 : n = 0 := by omega
  subst hn0
  have h3 : 1 ≤ (x.size : Int) ∧ (x.size : Int) ≤ 40 := by omega
  simp only [List.append_assoc] at hL
  obtain ⟨R2, hR2⟩ : ∃ R2, R2 = enc x.size ++ (x.data.toList ++ R) := ⟨_, rfl⟩
  rw [← hR2] at hL
  obtain ⟨R1, hR1⟩ : ∃ R1, R1 = enc a.toNat ++ R2 := ⟨_, rfl⟩
  rw [← hR1] at hL
  have HR1 := Lib.hid hR1
  have HR2 := Lib.hid hR2
  have HLF := Lib.hid hL
  have HKT : Hid ((((1 : Int).toNat : Nat) : Int) = 1) := Lib.hid (by decide)
  have HAT : Hid (((a.toNat : Nat) : Int) = a) := Lib.hid (by omega)
  have HCK := Lib.hid hck
  have HB := Lib.hid (show _ ∧ _ ∧ _ from ⟨h0, h1, h3⟩)
  clear ho hL hR1 hR2 hck h0 h1 h2 h3
  go_enter Tryz.func157, Tryz.ntmps157
  go_wp2_with fail
  refine callsName (fun W hW => ?_)
  have H0 : Hid (Left W b (enc (1 : Int).toNat ++ R1) ∧ Has W w.heap.size 33 #[.int .i64 0, .int .i64 0, .string ⟨#[]⟩, .int .i64 0] ∧ Turn (fun k => k = b) w W ∧ b < w.heap.size) := by rw [← hW]; exact Lib.hid ⟨HLF.out.alloc _, made_at _ _ rfl, (Turn.refl _ w).alloc _, HLF.out.lt⟩
  clear hW HLF
  have hc := H0.out.1.upto 2 (by omega) (by decide)
  rw [HKT.out] at hc
  refine hc.mono ?_
  rintro en w1 ⟨rfl, l1, t1⟩
  have H1 : Hid (Left w1 b R1 ∧ Has w1 w.heap.size 33 #[.int .i64 0, .int .i64 0, .string ⟨#[]⟩, .int .i64 0] ∧ Turn (fun k => k = b) w w1 ∧ b < w.heap.size) := Lib.hid ⟨l1, H0.out.2.1.turn t1 (by have := H0.out.2.2.2; omega), H0.out.2.2.1.trans t1 (fun _ _ e => e), H0.out.2.2.2⟩
  clear l1 t1 H0 hc
  obtain ⟨g, hg⟩ : ∃ g, g = w1.heap.size := ⟨_, rfl⟩
  have HG := Lib.hid hg
  clear hg
  go_wp2_with fail
  refine callsName (fun W hW => ?_)
  have K0 : Hid (Tk w b 33 #[.int .i64 0, .int .i64 0, .string ⟨#[]⟩, .int .i64 0] R1 g #[.int .i64 1, .int .i64 0, .string ⟨#[]⟩, .int .i64 0] W) := by
    rw [← hW]
    exact Lib.hid ⟨H1.out.1.alloc _, H1.out.2.1.alloc _, made_at _ _ HG.out, H1.out.2.2.1.alloc _, H1.out.2.2.2, by rw [HG.out]; exact H1.out.2.1.lt⟩
  rw [← HG.out]
  clear hW H1 HG
  have K0' : Hid (Tk w b 33 #[.int .i64 0, .int .i64 0, .string ⟨#[]⟩, .int .i64 0] (enc a.toNat ++ R2) g #[.int .i64 1, .int .i64 0, .string ⟨#[]⟩, .int .i64 0] W) := by rw [← HR1.out]; exact K0
  clear K0
  have hc1 := K0'.out.left.upto 200 (by have := HB.out; omega) (by decide)
  rw [HAT.out] at hc1
  refine (hc1).mono ?_
  rintro en va ⟨rfl, lf, tn⟩
  have La := Lib.hid (K0'.out.read lf tn)
  have qva0 : va.cell? ⟨g, 0, none⟩ = some (.int .i64 1) := La.out.box.cell 0
  have qva1 : va.cell? ⟨g, 1, none⟩ = some (.int .i64 0) := La.out.box.cell 1
  have qva2 : va.cell? ⟨g, 2, none⟩ = some (.string ⟨#[]⟩) := La.out.box.cell 2
  have qva3 : va.cell? ⟨g, 3, none⟩ = some (.int .i64 0) := La.out.box.cell 3
  have za : va.frozen? ⟨g, 1, none⟩ = false := La.out.box.free 1
  clear lf tn K0'
  clear hc1
  rw [HR2.out] at La
  go_wp2_with fail
  refine callsName (fun WKB hW => ?_)
  have KB : Hid (Tk w b 33 #[.int .i64 0, .int .i64 0, .string ⟨#[]⟩, .int .i64 0] (enc x.size ++ (x.data.toList ++ R)) g #[.int .i64 1, .int .i64 a, .string ⟨#[]⟩, .int .i64 0] WKB) := by rw [← hW]; exact Lib.hid (La.out.put 1 (.int .i64 a))
  clear hW La za qva0 qva1 qva2 qva3
  refine (KB.out.left.str 40 (by have := HB.out; omega) (by decide)).mono ?_
  rintro en vb ⟨rfl, lf, tn⟩
  have Lb := Lib.hid (KB.out.read lf tn)
  have qvb0 : vb.cell? ⟨g, 0, none⟩ = some (.int .i64 1) := Lb.out.box.cell 0
  have qvb1 : vb.cell? ⟨g, 1, none⟩ = some (.int .i64 a) := Lb.out.box.cell 1
  have qvb2 : vb.cell? ⟨g, 2, none⟩ = some (.string ⟨#[]⟩) := Lb.out.box.cell 2
  have qvb3 : vb.cell? ⟨g, 3, none⟩ = some (.int .i64 0) := Lb.out.box.cell 3
  have zb : vb.frozen? ⟨g, 2, none⟩ = false := Lb.out.box.free 2
  clear lf tn KB
  go_wp2_with fail
  refine callsName (fun WKC hW => ?_)
  have KC : Hid (Tk w b 33 #[.int .i64 0, .int .i64 0, .string ⟨#[]⟩, .int .i64 0] R g #[.int .i64 1, .int .i64 a, .string x, .int .i64 0] WKC) := by rw [← hW]; exact Lib.hid (Lb.out.put 2 (.string x))
  clear hW Lb zb qvb0 qvb1 qvb2 qvb3
  refine (text.check_calls 1 a 0 x WKC (by have := HB.out; unfold maxLen; omega)).mono ?_
  rw [HCK.out]
  rintro en x1 ⟨rfl, bx⟩
  have K1 := Lib.hid (KC.out.below bx)
  clear bx KC
  go_wp2_with fail
  refine (K1.out.left.err).mono ?_
  rintro en x2 ⟨rfl, rfl⟩
  have qx10 : x1.cell? ⟨g, 0, none⟩ = some (.int .i64 1) := K1.out.box.cell 0
  have qx11 : x1.cell? ⟨g, 1, none⟩ = some (.int .i64 a) := K1.out.box.cell 1
  have qx12 : x1.cell? ⟨g, 2, none⟩ = some (.string x) := K1.out.box.cell 2
  have qx13 : x1.cell? ⟨g, 3, none⟩ = some (.int .i64 0) := K1.out.box.cell 3
  go_wp2_with (first
    | ((with_reducible refine at_store (.tmp 2) ?_); refine wpList_store_all (o := ⟨none, _, _, _, _, _⟩) rfl 33 (.tmp 2) (.tmp 31) rfl w.heap.size #[.int .i64 1, .int .i64 a, .string x, .int .i64 0] #[.int .i64 0, .int .i64 0, .string ⟨#[]⟩, .int .i64 0] rfl rfl _ K1.out.res (by kernel_rfl) rfl (by simp [Value.oneCell']) ?_; intro Wb HWb TWb)
    | fail)
  exact bodyPost_ret (v := .agg #[.int .i64 1, .int .i64 a, .string x, .int .i64 0]) (results_cell_row rfl _ _ w.heap.size 33 _ _ _ rfl HWb Tryz.underlying33 rfl (by kernel_rfl)) rfl
    ⟨rfl, K1.out.left.turn TWb (by have := K1.out.ord; omega), K1.out.turn.trans TWb (fun j hj e => by omega)⟩

set_option maxRecDepth 100000 in
set_option maxHeartbeats 4000000 in
theorem ttake2 (a n : Int) (x : ByteArray) (ho : GT ⟨2, a, x, n⟩) (b : Nat) (R : List UInt8) (w : World) (hL : Left w b (opT ⟨2, a, x, n⟩ ++ R)) :
    Calls Tryz.prog 157 #[.pointer (some ⟨b, 0, none⟩)] w (TakeO w b R #[.int .i64 2, .int .i64 a, .string x, .int .i64 n]) := by
  obtain ⟨h0, h1, h2⟩ := text.chk_ok ho
  have hck : text.chk 2 a x.size n = 0 := ho
  dsimp only at h0 h1 h2
  unfold opT at hL
  dsimp only at hL
  rw [if_neg (by decide)] at hL
  obtain rfl : x = ⟨#[]⟩ := nil_ba x (by omega)
  have h3 : 1 ≤ n ∧ n ≤ 40 := by omega
  have HNT : Hid (((n.toNat : Nat) : Int) = n) := Lib.hid (by omega)
  simp only [List.append_assoc] at hL
  obtain ⟨R2, hR2⟩ : ∃ R2, R2 = enc n.toNat ++ R := ⟨_, rfl⟩
  rw [← hR2] at hL
  obtain ⟨R1, hR1⟩ : ∃ R1, R1 = enc a.toNat ++ R2 := ⟨_, rfl⟩
  rw [← hR1] at hL
  have HR1 := Lib.hid hR1
  have HR2 := Lib.hid hR2
  have HLF := Lib.hid hL
  have HKT : Hid ((((2 : Int).toNat : Nat) : Int) = 2) := Lib.hid (by decide)
  have HAT : Hid (((a.toNat : Nat) : Int) = a) := Lib.hid (by omega)
  have HCK := Lib.hid hck
  have HB := Lib.hid (show _ ∧ _ ∧ _ from ⟨h0, h1, h3⟩)
  clear ho hL hR1 hR2 hck h0 h1 h2 h3
  go_enter Tryz.func157, Tryz.ntmps157
  go_wp2_with fail
  refine callsName (fun W hW => ?_)
  have H0 : Hid (Left W b (enc (2 : Int).toNat ++ R1) ∧ Has W w.heap.size 33 #[.int .i64 0, .int .i64 0, .string ⟨#[]⟩, .int .i64 0] ∧ Turn (fun k => k = b) w W ∧ b < w.heap.size) := by rw [← hW]; exact Lib.hid ⟨HLF.out.alloc _, made_at _ _ rfl, (Turn.refl _ w).alloc _, HLF.out.lt⟩
  clear hW HLF
  have hc := H0.out.1.upto 2 (by omega) (by decide)
  rw [HKT.out] at hc
  refine hc.mono ?_
  rintro en w1 ⟨rfl, l1, t1⟩
  have H1 : Hid (Left w1 b R1 ∧ Has w1 w.heap.size 33 #[.int .i64 0, .int .i64 0, .string ⟨#[]⟩, .int .i64 0] ∧ Turn (fun k => k = b) w w1 ∧ b < w.heap.size) := Lib.hid ⟨l1, H0.out.2.1.turn t1 (by have := H0.out.2.2.2; omega), H0.out.2.2.1.trans t1 (fun _ _ e => e), H0.out.2.2.2⟩
  clear l1 t1 H0 hc
  obtain ⟨g, hg⟩ : ∃ g, g = w1.heap.size := ⟨_, rfl⟩
  have HG := Lib.hid hg
  clear hg
  go_wp2_with fail
  refine callsName (fun W hW => ?_)
  have K0 : Hid (Tk w b 33 #[.int .i64 0, .int .i64 0, .string ⟨#[]⟩, .int .i64 0] R1 g #[.int .i64 2, .int .i64 0, .string ⟨#[]⟩, .int .i64 0] W) := by
    rw [← hW]
    exact Lib.hid ⟨H1.out.1.alloc _, H1.out.2.1.alloc _, made_at _ _ HG.out, H1.out.2.2.1.alloc _, H1.out.2.2.2, by rw [HG.out]; exact H1.out.2.1.lt⟩
  rw [← HG.out]
  clear hW H1 HG
  have K0' : Hid (Tk w b 33 #[.int .i64 0, .int .i64 0, .string ⟨#[]⟩, .int .i64 0] (enc a.toNat ++ R2) g #[.int .i64 2, .int .i64 0, .string ⟨#[]⟩, .int .i64 0] W) := by rw [← HR1.out]; exact K0
  clear K0
  have hc1 := K0'.out.left.upto 200 (by have := HB.out; omega) (by decide)
  rw [HAT.out] at hc1
  refine (hc1).mono ?_
  rintro en va ⟨rfl, lf, tn⟩
  have La := Lib.hid (K0'.out.read lf tn)
  have qva0 : va.cell? ⟨g, 0, none⟩ = some (.int .i64 2) := La.out.box.cell 0
  have qva1 : va.cell? ⟨g, 1, none⟩ = some (.int .i64 0) := La.out.box.cell 1
  have qva2 : va.cell? ⟨g, 2, none⟩ = some (.string ⟨#[]⟩) := La.out.box.cell 2
  have qva3 : va.cell? ⟨g, 3, none⟩ = some (.int .i64 0) := La.out.box.cell 3
  have za : va.frozen? ⟨g, 1, none⟩ = false := La.out.box.free 1
  clear lf tn K0'
  clear hc1
  rw [HR2.out] at La
  go_wp2_with fail
  refine callsName (fun WKB hW => ?_)
  have KB : Hid (Tk w b 33 #[.int .i64 0, .int .i64 0, .string ⟨#[]⟩, .int .i64 0] (enc n.toNat ++ R) g #[.int .i64 2, .int .i64 a, .string ⟨#[]⟩, .int .i64 0] WKB) := by rw [← hW]; exact Lib.hid (La.out.put 1 (.int .i64 a))
  clear hW La za qva0 qva1 qva2 qva3
  have hc2 := KB.out.left.upto 40 (by have := HB.out; omega) (by decide)
  rw [HNT.out] at hc2
  refine (hc2).mono ?_
  rintro en vb ⟨rfl, lf, tn⟩
  have Lb := Lib.hid (KB.out.read lf tn)
  have qvb0 : vb.cell? ⟨g, 0, none⟩ = some (.int .i64 2) := Lb.out.box.cell 0
  have qvb1 : vb.cell? ⟨g, 1, none⟩ = some (.int .i64 a) := Lb.out.box.cell 1
  have qvb2 : vb.cell? ⟨g, 2, none⟩ = some (.string ⟨#[]⟩) := Lb.out.box.cell 2
  have qvb3 : vb.cell? ⟨g, 3, none⟩ = some (.int .i64 0) := Lb.out.box.cell 3
  have zb : vb.frozen? ⟨g, 3, none⟩ = false := Lb.out.box.free 3
  clear lf tn KB
  clear hc2
  go_wp2_with fail
  refine callsName (fun WKC hW => ?_)
  have KC : Hid (Tk w b 33 #[.int .i64 0, .int .i64 0, .string ⟨#[]⟩, .int .i64 0] R g #[.int .i64 2, .int .i64 a, .string ⟨#[]⟩, .int .i64 n] WKC) := by rw [← hW]; exact Lib.hid (Lb.out.put 3 (.int .i64 n))
  clear hW Lb zb qvb0 qvb1 qvb2 qvb3
  refine (text.check_calls 2 a n ⟨#[]⟩ WKC (by unfold maxLen; show (0 : Nat) ≤ _; omega)).mono ?_
  rw [HCK.out]
  rintro en x1 ⟨rfl, bx⟩
  have K1 := Lib.hid (KC.out.below bx)
  clear bx KC
  go_wp2_with fail
  refine (K1.out.left.err).mono ?_
  rintro en x2 ⟨rfl, rfl⟩
  have qx10 : x1.cell? ⟨g, 0, none⟩ = some (.int .i64 2) := K1.out.box.cell 0
  have qx11 : x1.cell? ⟨g, 1, none⟩ = some (.int .i64 a) := K1.out.box.cell 1
  have qx12 : x1.cell? ⟨g, 2, none⟩ = some (.string ⟨#[]⟩) := K1.out.box.cell 2
  have qx13 : x1.cell? ⟨g, 3, none⟩ = some (.int .i64 n) := K1.out.box.cell 3
  go_wp2_with (first
    | ((with_reducible refine at_store (.tmp 2) ?_); refine wpList_store_all (o := ⟨none, _, _, _, _, _⟩) rfl 33 (.tmp 2) (.tmp 31) rfl w.heap.size #[.int .i64 2, .int .i64 a, .string ⟨#[]⟩, .int .i64 n] #[.int .i64 0, .int .i64 0, .string ⟨#[]⟩, .int .i64 0] rfl rfl _ K1.out.res (by kernel_rfl) rfl (by simp [Value.oneCell']) ?_; intro Wb HWb TWb)
    | fail)
  exact bodyPost_ret (v := .agg #[.int .i64 2, .int .i64 a, .string ⟨#[]⟩, .int .i64 n]) (results_cell_row rfl _ _ w.heap.size 33 _ _ _ rfl HWb Tryz.underlying33 rfl (by kernel_rfl)) rfl
    ⟨rfl, K1.out.left.turn TWb (by have := K1.out.ord; omega), K1.out.turn.trans TWb (fun j hj e => by omega)⟩

set_option maxRecDepth 100000 in
set_option maxHeartbeats 4000000 in
theorem ltake1 (k n : Int) (s t : ByteArray) (ho : GL ⟨k, s, t, n⟩) (hk : k = 1 ∨ k = 2) (b : Nat) (R : List UInt8) (w : World) (hL : Left w b (opL ⟨k, s, t, n⟩ ++ R)) :
    Calls Tryz.prog 158 #[.pointer (some ⟨b, 0, none⟩)] w (TakeO w b R #[.int .i64 k, .string s, .string t, .int .i64 n]) := by
  obtain ⟨h0, h1, h2, h3, h4, h5⟩ := gl_parts ho
  have hck : chkL k s t n = 0 := ho
  dsimp only at h0 h1 h2 h3 h4 h5
  unfold opL at hL
  dsimp only at hL
  rw [if_neg (by omega)] at hL
  obtain ⟨rfl, rfl⟩ := h5 (by omega)
  have hkb : (k == 3) = false := by rcases hk with rfl | rfl <;> rfl
  simp only [List.append_assoc, List.nil_append] at hL
  obtain ⟨R2, hR2⟩ : ∃ R2, R2 = R := ⟨_, rfl⟩
  rw [← hR2] at hL
  obtain ⟨R1, hR1⟩ : ∃ R1, R1 = enc s.size ++ (s.data.toList ++ R2) := ⟨_, rfl⟩
  rw [← hR1] at hL
  have HR1 := Lib.hid hR1
  have HR2 := Lib.hid hR2
  have HLF := Lib.hid hL
  have HKT : Hid ((((k : Int).toNat : Nat) : Int) = k) := Lib.hid (by omega)
  have HCK := Lib.hid hck
  have HB := Lib.hid (show _ ∧ _ ∧ _ ∧ _ from ⟨h1, h2, h3, h4⟩)
  clear ho hL hR1 hR2 hck h0 h1 h2 h3 h4 h5
  go_enter Tryz.func158, Tryz.ntmps158
  go_wp2_with fail
  refine callsName (fun W hW => ?_)
  have H0 : Hid (Left W b (enc (k : Int).toNat ++ R1) ∧ Has W w.heap.size 35 #[.int .i64 0, .string ⟨#[]⟩, .string ⟨#[]⟩, .int .i64 0] ∧ Turn (fun k => k = b) w W ∧ b < w.heap.size) := by rw [← hW]; exact Lib.hid ⟨HLF.out.alloc _, made_at _ _ rfl, (Turn.refl _ w).alloc _, HLF.out.lt⟩
  clear hW HLF
  have hc := H0.out.1.upto 3 (by omega) (by decide)
  rw [HKT.out] at hc
  refine hc.mono ?_
  rintro en w1 ⟨rfl, l1, t1⟩
  have H1 : Hid (Left w1 b R1 ∧ Has w1 w.heap.size 35 #[.int .i64 0, .string ⟨#[]⟩, .string ⟨#[]⟩, .int .i64 0] ∧ Turn (fun k => k = b) w w1 ∧ b < w.heap.size) := Lib.hid ⟨l1, H0.out.2.1.turn t1 (by have := H0.out.2.2.2; omega), H0.out.2.2.1.trans t1 (fun _ _ e => e), H0.out.2.2.2⟩
  clear l1 t1 H0 hc
  obtain ⟨g, hg⟩ : ∃ g, g = w1.heap.size := ⟨_, rfl⟩
  have HG := Lib.hid hg
  clear hg
  go_wp2_with fail
  refine callsName (fun W hW => ?_)
  have K0 : Hid (Tk w b 35 #[.int .i64 0, .string ⟨#[]⟩, .string ⟨#[]⟩, .int .i64 0] R1 g #[.int .i64 k, .string ⟨#[]⟩, .string ⟨#[]⟩, .int .i64 0] W) := by
    rw [← hW]
    exact Lib.hid ⟨H1.out.1.alloc _, H1.out.2.1.alloc _, made_at _ _ HG.out, H1.out.2.2.1.alloc _, H1.out.2.2.2, by rw [HG.out]; exact H1.out.2.1.lt⟩
  rw [← HG.out]
  clear hW H1 HG
  have K0' : Hid (Tk w b 35 #[.int .i64 0, .string ⟨#[]⟩, .string ⟨#[]⟩, .int .i64 0] (enc s.size ++ (s.data.toList ++ R2)) g #[.int .i64 k, .string ⟨#[]⟩, .string ⟨#[]⟩, .int .i64 0] W) := by rw [← HR1.out]; exact K0
  clear K0
  refine (K0'.out.left.str 12 (by have := HB.out; omega) (by decide)).mono ?_
  rintro en va ⟨rfl, lf, tn⟩
  have La := Lib.hid (K0'.out.read lf tn)
  have qva0 : va.cell? ⟨g, 0, none⟩ = some (.int .i64 k) := La.out.box.cell 0
  have qva1 : va.cell? ⟨g, 1, none⟩ = some (.string ⟨#[]⟩) := La.out.box.cell 1
  have qva2 : va.cell? ⟨g, 2, none⟩ = some (.string ⟨#[]⟩) := La.out.box.cell 2
  have qva3 : va.cell? ⟨g, 3, none⟩ = some (.int .i64 0) := La.out.box.cell 3
  have za : va.frozen? ⟨g, 1, none⟩ = false := La.out.box.free 1
  clear lf tn K0'
  rw [HR2.out] at La
  go_wp2_with fail
  refine callsName (fun WKC hW => ?_)
  have KC : Hid (Tk w b 35 #[.int .i64 0, .string ⟨#[]⟩, .string ⟨#[]⟩, .int .i64 0] R g #[.int .i64 k, .string s, .string ⟨#[]⟩, .int .i64 0] WKC) := by rw [← hW]; exact Lib.hid (La.out.put 1 (.string s))
  clear hW La za qva0 qva1 qva2 qva3
  refine (lcheck_calls k 0 s ⟨#[]⟩ WKC (by have := HB.out; unfold maxLen; omega) (by unfold maxLen; show (0 : Nat) ≤ _; omega)).mono ?_
  rw [HCK.out]
  rintro en x1 ⟨rfl, bx⟩
  have K1 := Lib.hid (KC.out.below bx)
  clear bx KC
  go_wp2_with fail
  refine (K1.out.left.err).mono ?_
  rintro en x2 ⟨rfl, rfl⟩
  have qx10 : x1.cell? ⟨g, 0, none⟩ = some (.int .i64 k) := K1.out.box.cell 0
  have qx11 : x1.cell? ⟨g, 1, none⟩ = some (.string s) := K1.out.box.cell 1
  have qx12 : x1.cell? ⟨g, 2, none⟩ = some (.string ⟨#[]⟩) := K1.out.box.cell 2
  have qx13 : x1.cell? ⟨g, 3, none⟩ = some (.int .i64 0) := K1.out.box.cell 3
  go_wp2_with (first
    | ((with_reducible refine at_store (.tmp 2) ?_); refine wpList_store_all (o := ⟨none, _, _, _, _, _⟩) rfl 35 (.tmp 2) (.tmp 31) rfl w.heap.size #[.int .i64 k, .string s, .string ⟨#[]⟩, .int .i64 0] #[.int .i64 0, .string ⟨#[]⟩, .string ⟨#[]⟩, .int .i64 0] rfl rfl _ K1.out.res (by kernel_rfl) rfl (by simp [Value.oneCell']) ?_; intro Wb HWb TWb)
    | fail)
  exact bodyPost_ret (v := .agg #[.int .i64 k, .string s, .string ⟨#[]⟩, .int .i64 0]) (results_cell_row rfl _ _ w.heap.size 35 _ _ _ rfl HWb Tryz.underlying35 rfl (by kernel_rfl)) rfl
    ⟨rfl, K1.out.left.turn TWb (by have := K1.out.ord; omega), K1.out.turn.trans TWb (fun j hj e => by omega)⟩

set_option maxRecDepth 100000 in
set_option maxHeartbeats 4000000 in
theorem ltake3 (k n : Int) (s t : ByteArray) (ho : GL ⟨k, s, t, n⟩) (hk : k = 3) (b : Nat) (R : List UInt8) (w : World) (hL : Left w b (opL ⟨k, s, t, n⟩ ++ R)) :
    Calls Tryz.prog 158 #[.pointer (some ⟨b, 0, none⟩)] w (TakeO w b R #[.int .i64 k, .string s, .string t, .int .i64 n]) := by
  obtain ⟨h0, h1, h2, h3, h4, h5⟩ := gl_parts ho
  have hck : chkL k s t n = 0 := ho
  dsimp only at h0 h1 h2 h3 h4 h5
  unfold opL at hL
  dsimp only at hL
  subst hk
  rw [if_pos rfl] at hL
  simp only [List.append_assoc] at hL
  obtain ⟨R2, hR2⟩ : ∃ R2, R2 = enc t.size ++ (t.data.toList ++ (enc n.toNat ++ R)) := ⟨_, rfl⟩
  rw [← hR2] at hL
  have HNT : Hid (((n.toNat : Nat) : Int) = n) := Lib.hid (by omega)
  obtain ⟨R1, hR1⟩ : ∃ R1, R1 = enc s.size ++ (s.data.toList ++ R2) := ⟨_, rfl⟩
  rw [← hR1] at hL
  have HR1 := Lib.hid hR1
  have HR2 := Lib.hid hR2
  have HLF := Lib.hid hL
  have HKT : Hid ((((3 : Int).toNat : Nat) : Int) = 3) := Lib.hid (by omega)
  have HCK := Lib.hid hck
  have HB := Lib.hid (show _ ∧ _ ∧ _ ∧ _ from ⟨h1, h2, h3, h4⟩)
  clear ho hL hR1 hR2 hck h0 h1 h2 h3 h4 h5
  go_enter Tryz.func158, Tryz.ntmps158
  go_wp2_with fail
  refine callsName (fun W hW => ?_)
  have H0 : Hid (Left W b (enc (3 : Int).toNat ++ R1) ∧ Has W w.heap.size 35 #[.int .i64 0, .string ⟨#[]⟩, .string ⟨#[]⟩, .int .i64 0] ∧ Turn (fun k => k = b) w W ∧ b < w.heap.size) := by rw [← hW]; exact Lib.hid ⟨HLF.out.alloc _, made_at _ _ rfl, (Turn.refl _ w).alloc _, HLF.out.lt⟩
  clear hW HLF
  have hc := H0.out.1.upto 3 (by omega) (by decide)
  rw [HKT.out] at hc
  refine hc.mono ?_
  rintro en w1 ⟨rfl, l1, t1⟩
  have H1 : Hid (Left w1 b R1 ∧ Has w1 w.heap.size 35 #[.int .i64 0, .string ⟨#[]⟩, .string ⟨#[]⟩, .int .i64 0] ∧ Turn (fun k => k = b) w w1 ∧ b < w.heap.size) := Lib.hid ⟨l1, H0.out.2.1.turn t1 (by have := H0.out.2.2.2; omega), H0.out.2.2.1.trans t1 (fun _ _ e => e), H0.out.2.2.2⟩
  clear l1 t1 H0 hc
  obtain ⟨g, hg⟩ : ∃ g, g = w1.heap.size := ⟨_, rfl⟩
  have HG := Lib.hid hg
  clear hg
  go_wp2_with fail
  refine callsName (fun W hW => ?_)
  have K0 : Hid (Tk w b 35 #[.int .i64 0, .string ⟨#[]⟩, .string ⟨#[]⟩, .int .i64 0] R1 g #[.int .i64 3, .string ⟨#[]⟩, .string ⟨#[]⟩, .int .i64 0] W) := by
    rw [← hW]
    exact Lib.hid ⟨H1.out.1.alloc _, H1.out.2.1.alloc _, made_at _ _ HG.out, H1.out.2.2.1.alloc _, H1.out.2.2.2, by rw [HG.out]; exact H1.out.2.1.lt⟩
  rw [← HG.out]
  clear hW H1 HG
  have K0' : Hid (Tk w b 35 #[.int .i64 0, .string ⟨#[]⟩, .string ⟨#[]⟩, .int .i64 0] (enc s.size ++ (s.data.toList ++ R2)) g #[.int .i64 3, .string ⟨#[]⟩, .string ⟨#[]⟩, .int .i64 0] W) := by rw [← HR1.out]; exact K0
  clear K0
  refine (K0'.out.left.str 12 (by have := HB.out; omega) (by decide)).mono ?_
  rintro en va ⟨rfl, lf, tn⟩
  have La := Lib.hid (K0'.out.read lf tn)
  have qva0 : va.cell? ⟨g, 0, none⟩ = some (.int .i64 3) := La.out.box.cell 0
  have qva1 : va.cell? ⟨g, 1, none⟩ = some (.string ⟨#[]⟩) := La.out.box.cell 1
  have qva2 : va.cell? ⟨g, 2, none⟩ = some (.string ⟨#[]⟩) := La.out.box.cell 2
  have qva3 : va.cell? ⟨g, 3, none⟩ = some (.int .i64 0) := La.out.box.cell 3
  have za : va.frozen? ⟨g, 1, none⟩ = false := La.out.box.free 1
  clear lf tn K0'
  rw [HR2.out] at La
  go_wp2_with fail
  refine callsName (fun WKB hW => ?_)
  have KB : Hid (Tk w b 35 #[.int .i64 0, .string ⟨#[]⟩, .string ⟨#[]⟩, .int .i64 0] (enc t.size ++ (t.data.toList ++ (enc n.toNat ++ R))) g #[.int .i64 3, .string s, .string ⟨#[]⟩, .int .i64 0] WKB) := by rw [← hW]; exact Lib.hid (La.out.put 1 (.string s))
  clear hW La za qva0 qva1 qva2 qva3
  refine (KB.out.left.str 12 (by have := HB.out; omega) (by decide)).mono ?_
  rintro en vb ⟨rfl, lf, tn⟩
  have Lb := Lib.hid (KB.out.read lf tn)
  have qvb0 : vb.cell? ⟨g, 0, none⟩ = some (.int .i64 3) := Lb.out.box.cell 0
  have qvb1 : vb.cell? ⟨g, 1, none⟩ = some (.string s) := Lb.out.box.cell 1
  have qvb2 : vb.cell? ⟨g, 2, none⟩ = some (.string ⟨#[]⟩) := Lb.out.box.cell 2
  have qvb3 : vb.cell? ⟨g, 3, none⟩ = some (.int .i64 0) := Lb.out.box.cell 3
  have zb : vb.frozen? ⟨g, 2, none⟩ = false := Lb.out.box.free 2
  clear lf tn KB
  go_wp2_with fail
  refine callsName (fun WKD hW => ?_)
  have KD : Hid (Tk w b 35 #[.int .i64 0, .string ⟨#[]⟩, .string ⟨#[]⟩, .int .i64 0] (enc n.toNat ++ R) g #[.int .i64 3, .string s, .string t, .int .i64 0] WKD) := by rw [← hW]; exact Lib.hid (Lb.out.put 2 (.string t))
  clear hW Lb zb qvb0 qvb1 qvb2 qvb3
  have hc2 := KD.out.left.upto 1099511627776 (by have := HB.out; omega) (by decide)
  rw [HNT.out] at hc2
  refine (hc2).mono ?_
  rintro en vc ⟨rfl, lf, tn⟩
  have Lc := Lib.hid (KD.out.read lf tn)
  have qvc0 : vc.cell? ⟨g, 0, none⟩ = some (.int .i64 3) := Lc.out.box.cell 0
  have qvc1 : vc.cell? ⟨g, 1, none⟩ = some (.string s) := Lc.out.box.cell 1
  have qvc2 : vc.cell? ⟨g, 2, none⟩ = some (.string t) := Lc.out.box.cell 2
  have qvc3 : vc.cell? ⟨g, 3, none⟩ = some (.int .i64 0) := Lc.out.box.cell 3
  have zc : vc.frozen? ⟨g, 3, none⟩ = false := Lc.out.box.free 3
  clear lf tn KD
  clear hc2
  go_wp2_with fail
  refine callsName (fun WKC hW => ?_)
  have KC : Hid (Tk w b 35 #[.int .i64 0, .string ⟨#[]⟩, .string ⟨#[]⟩, .int .i64 0] R g #[.int .i64 3, .string s, .string t, .int .i64 n] WKC) := by rw [← hW]; exact Lib.hid (Lc.out.put 3 (.int .i64 n))
  clear hW Lc zc qvc0 qvc1 qvc2 qvc3
  refine (lcheck_calls 3 n s t WKC (by have := HB.out; unfold maxLen; omega) (by have := HB.out; unfold maxLen; omega)).mono ?_
  rw [HCK.out]
  rintro en x1 ⟨rfl, bx⟩
  have K1 := Lib.hid (KC.out.below bx)
  clear bx KC
  go_wp2_with fail
  refine (K1.out.left.err).mono ?_
  rintro en x2 ⟨rfl, rfl⟩
  have qx10 : x1.cell? ⟨g, 0, none⟩ = some (.int .i64 3) := K1.out.box.cell 0
  have qx11 : x1.cell? ⟨g, 1, none⟩ = some (.string s) := K1.out.box.cell 1
  have qx12 : x1.cell? ⟨g, 2, none⟩ = some (.string t) := K1.out.box.cell 2
  have qx13 : x1.cell? ⟨g, 3, none⟩ = some (.int .i64 n) := K1.out.box.cell 3
  go_wp2_with (first
    | ((with_reducible refine at_store (.tmp 2) ?_); refine wpList_store_all (o := ⟨none, _, _, _, _, _⟩) rfl 35 (.tmp 2) (.tmp 31) rfl w.heap.size #[.int .i64 3, .string s, .string t, .int .i64 n] #[.int .i64 0, .string ⟨#[]⟩, .string ⟨#[]⟩, .int .i64 0] rfl rfl _ K1.out.res (by kernel_rfl) rfl (by simp [Value.oneCell']) ?_; intro Wb HWb TWb)
    | fail)
  exact bodyPost_ret (v := .agg #[.int .i64 3, .string s, .string t, .int .i64 n]) (results_cell_row rfl _ _ w.heap.size 35 _ _ _ rfl HWb Tryz.underlying35 rfl (by kernel_rfl)) rfl
    ⟨rfl, K1.out.left.turn TWb (by have := K1.out.ord; omega), K1.out.turn.trans TWb (fun j hj e => by omega)⟩
end Go.Proofs.YtcdedkgkingbdaaGreatDoor.rep
