/- Texts laid into one: ObjA, ObjB. -/
import Derived.Test.YtcdedkgkingbdaaGreatDoorQ022
import Derived.Test.YtcdedkgkingbdaaGreatDoorQ024
import Derived.Test.YtcdedkgkingbdaaGreatDoorQ025
section
/- object: the methods of the three objects behind their interface; Kind, Do, Clone of each; New. -/
namespace Go.Proofs.YtcdedkgkingbdaaGreatDoor.object
open Go.RowKit Go.Maps Go.Sort

/-- An object as its struct of one pointer. -/
abbrev pv (d : Nat) : Value := .agg #[.pointer (some ⟨d, 0, none⟩)]

theorem m_dkind (x d : Nat) (w : World) : (method (x + 1) 169 (pv d) "Kind").run Tryz.prog w = .ok (215, pv d) w := by kernel_rfl
theorem m_ddo (x d : Nat) (w : World) : (method (x + 1) 169 (pv d) "Do").run Tryz.prog w = .ok (214, pv d) w := by kernel_rfl
theorem m_dclone (x d : Nat) (w : World) : (method (x + 1) 169 (pv d) "Clone").run Tryz.prog w = .ok (213, pv d) w := by kernel_rfl
theorem m_dsave (x d : Nat) (w : World) : (method (x + 1) 169 (pv d) "Save").run Tryz.prog w = .ok (210, .pointer (some ⟨d, 0, none⟩)) w := by kernel_rfl
theorem m_akind (x d : Nat) (w : World) : (method (x + 1) 173 (pv d) "Kind").run Tryz.prog w = .ok (242, pv d) w := by kernel_rfl
theorem m_ado (x d : Nat) (w : World) : (method (x + 1) 173 (pv d) "Do").run Tryz.prog w = .ok (241, pv d) w := by kernel_rfl
theorem m_aclone (x d : Nat) (w : World) : (method (x + 1) 173 (pv d) "Clone").run Tryz.prog w = .ok (240, pv d) w := by kernel_rfl
theorem m_asave (x d : Nat) (w : World) : (method (x + 1) 173 (pv d) "Save").run Tryz.prog w = .ok (217, .pointer (some ⟨d, 0, none⟩)) w := by kernel_rfl
theorem m_gkind (x d : Nat) (w : World) : (method (x + 1) 177 (pv d) "Kind").run Tryz.prog w = .ok (255, pv d) w := by kernel_rfl
theorem m_gdo (x d : Nat) (w : World) : (method (x + 1) 177 (pv d) "Do").run Tryz.prog w = .ok (254, pv d) w := by kernel_rfl
theorem m_gclone (x d : Nat) (w : World) : (method (x + 1) 177 (pv d) "Clone").run Tryz.prog w = .ok (253, pv d) w := by kernel_rfl
theorem m_gsave (x d : Nat) (w : World) : (method (x + 1) 177 (pv d) "Save").run Tryz.prog w = .ok (244, .pointer (some ⟨d, 0, none⟩)) w := by kernel_rfl

set_option maxHeartbeats 400000 in
theorem dkind_calls (v : Nat) (w : World) : Calls Tryz.prog 215 #[pv v] w fun en w' => en = .returned (.int .i64 1) ∧ Below w.heap.size w w' := by
  go_enter Tryz.func215, Tryz.ntmps215
  go_wp2_with fail
  go_ret
  exact ⟨rfl, new_box _ _⟩
set_option maxHeartbeats 400000 in
theorem akind_calls (v : Nat) (w : World) : Calls Tryz.prog 242 #[pv v] w fun en w' => en = .returned (.int .i64 2) ∧ Below w.heap.size w w' := by
  go_enter Tryz.func242, Tryz.ntmps242
  go_wp2_with fail
  go_ret
  exact ⟨rfl, new_box _ _⟩
set_option maxHeartbeats 400000 in
theorem gkind_calls (v : Nat) (w : World) : Calls Tryz.prog 255 #[pv v] w fun en w' => en = .returned (.int .i64 3) ∧ Below w.heap.size w w' := by
  go_enter Tryz.func255, Tryz.ntmps255
  go_wp2_with fail
  go_ret
  exact ⟨rfl, new_box _ _⟩

/-- An op. -/
structure OpO where
  k : Int
  t : text.OpV
  l : OpL
  s : stock.OpS

def OpO.cells (o : OpO) : Array Value :=
  #[.int .i64 o.k, .int .i64 o.t.k, .int .i64 o.t.a, .string o.t.x, .int .i64 o.t.n, .int .i64 o.l.k, .string o.l.s, .string o.l.t, .int .i64 o.l.n, .int .i64 o.s.k, .string o.s.s, .int .i64 o.s.n]
def OpO.Short (o : OpO) : Prop := o.t.x.size ≤ maxLen ∧ o.l.Short ∧ o.s.Short

/-- What Do answers. -/
abbrev rv (e : Int) (g : ByteArray) : Value := .agg #[.int .i64 e, .string g]

theorem tdo_any (d : Nat) (s : ByteArray) (o : text.OpV) (w : World) (h : text.Dc w d s) (hs : s.size ≤ 200) (hx : o.x.size ≤ maxLen) :
    Calls Tryz.prog 209 #[.pointer (some ⟨d, 0, none⟩), .agg #[.int .i64 o.k, .int .i64 o.a, .string o.x, .int .i64 o.n]] w fun en w' => text.DoPost d w (text.doV s o) en w' := text.do_calls d s o.k o.a o.x o.n w h hs hx

set_option maxRecDepth 100000 in
set_option maxHeartbeats 1000000 in
theorem ddo_other (d : Nat) (o : OpO) (w : World) (hk : o.k ≠ 1) :
    Calls Tryz.prog 214 #[pv d, .agg o.cells] w fun en w' => en = .returned (rv 5 ⟨#[]⟩) ∧ Below w.heap.size w w' := by
  obtain ⟨k, t, l, z⟩ := o
  have hk' : (k != 1) = true := by simpa using hk
  clear hk
  unfold OpO.cells
  go_enter Tryz.func214, Tryz.ntmps214
  go_wp2_with fail
  refine bodyPost_ret (v := rv 5 ⟨#[]⟩) (by simp [results, Tryz.results214, go_sem]) rfl ⟨rfl, turn_box ?_⟩
  repeat (first | exact Turn.refl _ _ | refine Turn.drew ?_ | refine Turn.alloc ?_ _ | refine Turn.put ?_ (fun h => by omega) _ _)

set_option maxRecDepth 100000 in
set_option maxHeartbeats 1000000 in
theorem ddo_calls (d : Nat) (s : ByteArray) (o : OpO) (w : World) (h : text.Dc w d s) (hs : s.size ≤ 200) (hk : o.k = 1) (ho : o.Short) :
    Calls Tryz.prog 214 #[pv d, .agg o.cells] w fun en w' => en = .returned (rv (text.doV s o.t).2.2 (text.doV s o.t).2.1) ∧ text.Dc w' d (text.doV s o.t).1 ∧ w.grownBy w' (some d) := by
  obtain ⟨k, t, l, z⟩ := o
  obtain rfl : k = 1 := hk
  obtain ⟨hx, hl, hz⟩ := ho
  have hx' : t.x.size ≤ maxLen := hx
  have hl' : l.Short := hl
  have hz' : z.Short := hz
  have H := Lib.hid h
  have hlt : Hid (d < w.heap.size) := h.lt
  clear h
  clear hx hl hz
  unfold OpO.cells
  go_enter Tryz.func214, Tryz.ntmps214
  go_wp2_with fail
  refine callsName (fun W hW => ?_)
  obtain ⟨p, ep⟩ : ∃ p, p = w.heap.size + 2 := ⟨_, rfl⟩
  have HP : Hid (Has W p 57 #[.int .i64 0, .string ⟨#[]⟩]) := by show Has _ _ _ _; rw [← hW, ep]; exact made_at _ _ (by simp)
  have GW : Hid (w.grownBy W (some d)) := by show World.grownBy _ _ _; rw [← hW]; exact grown_alloc (grown_alloc (grown_alloc (grown_refl w _) _) _) _
  have HW : Hid (text.Dc W d s) := by show Has _ _ _ _; rw [← hW]; exact ((H.out.alloc _).alloc _).alloc _
  have hpd : p ≠ d := by have := hlt.out; omega
  have hwp : w.heap.size ≤ p := by omega
  rw [← ep]
  clear hW ep
  refine (tdo_any d s t W HW.out hs hx').mono ?_
  rintro en w1 ⟨rfl, h1, g1⟩
  have HP1 : Hid (Has w1 p 57 #[.int .i64 0, .string ⟨#[]⟩]) := Lib.hid (HP.out.grown g1 (by intro e; injection e with e; exact hpd e))
  have G1 := Lib.hid (grown_trans GW.out g1)
  have H1 := Lib.hid h1
  have f0 : w1.frozen? ⟨p, 0, none⟩ = false := HP1.out.free 0
  have f1 : w1.frozen? ⟨p, 1, none⟩ = false := HP1.out.free 1
  have y0 : w1.cell? ⟨p, 0, none⟩ = some (.int .i64 0) := HP1.out.cell 0
  have y1 : w1.cell? ⟨p, 1, none⟩ = some (.string ⟨#[]⟩) := HP1.out.cell 1
  clear h1 g1 HP GW
  go_wp2_with fail
  have E3 : Has ((w1.setCell ⟨p, 0, none⟩ (.int .i64 ((text.doV s t).2.2))).setCell ⟨p, 1, none⟩ (.string ((text.doV s t).2.1))) p 57 #[.int .i64 ((text.doV s t).2.2), .string ((text.doV s t).2.1)] := by
    simpa using (HP1.out.put 0 (.int .i64 ((text.doV s t).2.2))).put 1 (.string ((text.doV s t).2.1))
  have G3 : Hid (w.grownBy ((w1.setCell ⟨p, 0, none⟩ (.int .i64 ((text.doV s t).2.2))).setCell ⟨p, 1, none⟩ (.string ((text.doV s t).2.1))) (some d)) := grown_put (grown_put G1.out (.inr hwp) _) (.inr hwp) _
  have S3 := Lib.hid (show text.Dc ((w1.setCell ⟨p, 0, none⟩ (.int .i64 ((text.doV s t).2.2))).setCell ⟨p, 1, none⟩ (.string ((text.doV s t).2.1))) d (text.doV s t).1 from (Has.far (Has.far H1.out (p := ⟨p, 0, none⟩) (Ne.symm hpd) _) (p := ⟨p, 1, none⟩) (Ne.symm hpd) _))
  generalize (w1.setCell ⟨p, 0, none⟩ (.int .i64 ((text.doV s t).2.2))).setCell ⟨p, 1, none⟩ (.string ((text.doV s t).2.1)) = W2 at *
  have w0 : W2.cell? ⟨p, 0, none⟩ = some (.int .i64 ((text.doV s t).2.2)) := E3.cell 0
  have w1 : W2.cell? ⟨p, 1, none⟩ = some (.string ((text.doV s t).2.1)) := E3.cell 1
  exact bodyPost_ret (v := rv ((text.doV s t).2.2) ((text.doV s t).2.1)) (by simp [results, Tryz.results214, go_sem, w0, w1]) rfl ⟨rfl, S3.out, G3.out⟩

set_option maxRecDepth 100000 in
set_option maxHeartbeats 1000000 in
theorem ado_other (d : Nat) (o : OpO) (w : World) (hk : o.k ≠ 2) :
    Calls Tryz.prog 241 #[pv d, .agg o.cells] w fun en w' => en = .returned (rv 5 ⟨#[]⟩) ∧ Below w.heap.size w w' := by
  obtain ⟨k, t, l, z⟩ := o
  have hk' : (k != 2) = true := by simpa using hk
  clear hk
  unfold OpO.cells
  go_enter Tryz.func241, Tryz.ntmps241
  go_wp2_with fail
  refine bodyPost_ret (v := rv 5 ⟨#[]⟩) (by simp [results, Tryz.results241, go_sem]) rfl ⟨rfl, turn_box ?_⟩
  repeat (first | exact Turn.refl _ _ | refine Turn.drew ?_ | refine Turn.alloc ?_ _ | refine Turn.put ?_ (fun h => by omega) _ _)

set_option maxRecDepth 100000 in
set_option maxHeartbeats 1000000 in
theorem ado_calls (d : Nat) (m : Nat) {H : Type} (D : DataW H) (o : OpO) (w : World) (h : Bk w d m D) (I : InvF D) (hk : o.k = 2) (ho : o.Short) :
    Calls Tryz.prog 241 #[pv d, .agg o.cells] w fun en w' => en = .returned (rv (doO D o.l).2 ⟨#[]⟩) ∧ Bk w' d m (doO D o.l).1 ∧ w.grownBy w' (some m) := by
  obtain ⟨k, t, l, z⟩ := o
  obtain rfl : k = 2 := hk
  obtain ⟨hx, hl, hz⟩ := ho
  have hx' : t.x.size ≤ maxLen := hx
  have hl' : l.Short := hl
  have hz' : z.Short := hz
  have HB := Lib.hid h
  have hlt : Hid (d < w.heap.size ∧ m < w.heap.size) := ⟨h.box.lt, World.ownsMap.lt h.map⟩
  clear h
  clear hx hl hz
  unfold OpO.cells
  go_enter Tryz.func241, Tryz.ntmps241
  go_wp2_with fail
  refine callsName (fun W hW => ?_)
  obtain ⟨p, ep⟩ : ∃ p, p = w.heap.size + 2 := ⟨_, rfl⟩
  have HP : Hid (Has W p 57 #[.int .i64 0, .string ⟨#[]⟩]) := by show Has _ _ _ _; rw [← hW, ep]; exact made_at _ _ (by simp)
  have GW : Hid (w.grownBy W (some m)) := by show World.grownBy _ _ _; rw [← hW]; exact grown_alloc (grown_alloc (grown_alloc (grown_refl w _) _) _) _
  have HW : Hid (Bk W d m D) := by show Bk _ _ _ _; rw [← hW]; exact ((HB.out.more (new_box _ _)).more (new_box _ _)).more (new_box _ _)
  have hpd : p ≠ m := by have := hlt.out.2; omega
  have hpp : p ≠ d := by have := hlt.out.1; omega
  have hwp : w.heap.size ≤ p := by omega
  rw [← ep]
  clear hW ep
  refine (bdo_any d m D l W HW.out I hl').mono ?_
  rintro en w1 ⟨rfl, h1, g1⟩
  have HP1 : Hid (Has w1 p 57 #[.int .i64 0, .string ⟨#[]⟩]) := Lib.hid (HP.out.grown g1 (by intro e; injection e with e; exact hpd e))
  have G1 := Lib.hid (grown_trans GW.out g1)
  have H1 := Lib.hid h1
  have f0 : w1.frozen? ⟨p, 0, none⟩ = false := HP1.out.free 0
  have f1 : w1.frozen? ⟨p, 1, none⟩ = false := HP1.out.free 1
  have y0 : w1.cell? ⟨p, 0, none⟩ = some (.int .i64 0) := HP1.out.cell 0
  have y1 : w1.cell? ⟨p, 1, none⟩ = some (.string ⟨#[]⟩) := HP1.out.cell 1
  clear h1 g1 HP GW
  go_wp2_with fail
  have E3 : Has ((w1.setCell ⟨p, 0, none⟩ (.int .i64 ((doO D l).2))).setCell ⟨p, 1, none⟩ (.string (⟨#[]⟩))) p 57 #[.int .i64 ((doO D l).2), .string (⟨#[]⟩)] := by
    simpa using (HP1.out.put 0 (.int .i64 ((doO D l).2))).put 1 (.string (⟨#[]⟩))
  have G3 : Hid (w.grownBy ((w1.setCell ⟨p, 0, none⟩ (.int .i64 ((doO D l).2))).setCell ⟨p, 1, none⟩ (.string (⟨#[]⟩))) (some m)) := grown_put (grown_put G1.out (.inr hwp) _) (.inr hwp) _
  have S3 := Lib.hid (show Bk ((w1.setCell ⟨p, 0, none⟩ (.int .i64 ((doO D l).2))).setCell ⟨p, 1, none⟩ (.string (⟨#[]⟩))) d m (doO D l).1 from H1.out.turn (((Turn.refl (fun j => j = p) w1).put (fun _ => rfl) 0 _).put (fun _ => rfl) 1 _) (fun e => hpp e.symm) (fun e => hpd e.symm))
  generalize (w1.setCell ⟨p, 0, none⟩ (.int .i64 ((doO D l).2))).setCell ⟨p, 1, none⟩ (.string (⟨#[]⟩)) = W2 at *
  have w0 : W2.cell? ⟨p, 0, none⟩ = some (.int .i64 ((doO D l).2)) := E3.cell 0
  have w1 : W2.cell? ⟨p, 1, none⟩ = some (.string (⟨#[]⟩)) := E3.cell 1
  exact bodyPost_ret (v := rv ((doO D l).2) (⟨#[]⟩)) (by simp [results, Tryz.results241, go_sem, w0, w1]) rfl ⟨rfl, S3.out, G3.out⟩

set_option maxRecDepth 100000 in
set_option maxHeartbeats 1000000 in
theorem gdo_other (d : Nat) (o : OpO) (w : World) (hk : o.k ≠ 3) :
    Calls Tryz.prog 254 #[pv d, .agg o.cells] w fun en w' => en = .returned (rv 5 ⟨#[]⟩) ∧ Below w.heap.size w w' := by
  obtain ⟨k, t, l, z⟩ := o
  have hk' : (k != 3) = true := by simpa using hk
  clear hk
  unfold OpO.cells
  go_enter Tryz.func254, Tryz.ntmps254
  go_wp2_with fail
  refine bodyPost_ret (v := rv 5 ⟨#[]⟩) (by simp [results, Tryz.results254, go_sem]) rfl ⟨rfl, turn_box ?_⟩
  repeat (first | exact Turn.refl _ _ | refine Turn.drew ?_ | refine Turn.alloc ?_ _ | refine Turn.put ?_ (fun h => by omega) _ _)

set_option maxRecDepth 100000 in
set_option maxHeartbeats 1000000 in
theorem gdo_calls (d : Nat) (m : Nat) {H : Type} (D : DataW H) (o : OpO) (w : World) (h : stock.Sk w d m D) (I : stock.InvS D) (hk : o.k = 3) (ho : o.Short) :
    Calls Tryz.prog 254 #[pv d, .agg o.cells] w fun en w' => en = .returned (rv (stock.doO D o.s).2 ⟨#[]⟩) ∧ stock.Sk w' d m (stock.doO D o.s).1 ∧ w.grownBy w' (some m) := by
  obtain ⟨k, t, l, z⟩ := o
  obtain rfl : k = 3 := hk
  obtain ⟨hx, hl, hz⟩ := ho
  have hx' : t.x.size ≤ maxLen := hx
  have hl' : l.Short := hl
  have hz' : z.Short := hz
  have HB := Lib.hid h
  have hlt : Hid (d < w.heap.size ∧ m < w.heap.size) := ⟨h.box.lt, World.ownsMap.lt h.map⟩
  clear h
  clear hx hl hz
  unfold OpO.cells
  go_enter Tryz.func254, Tryz.ntmps254
  go_wp2_with fail
  refine callsName (fun W hW => ?_)
  obtain ⟨p, ep⟩ : ∃ p, p = w.heap.size + 2 := ⟨_, rfl⟩
  have HP : Hid (Has W p 57 #[.int .i64 0, .string ⟨#[]⟩]) := by show Has _ _ _ _; rw [← hW, ep]; exact made_at _ _ (by simp)
  have GW : Hid (w.grownBy W (some m)) := by show World.grownBy _ _ _; rw [← hW]; exact grown_alloc (grown_alloc (grown_alloc (grown_refl w _) _) _) _
  have HW : Hid (stock.Sk W d m D) := by show stock.Sk _ _ _ _; rw [← hW]; exact ((HB.out.more (new_box _ _)).more (new_box _ _)).more (new_box _ _)
  have hpd : p ≠ m := by have := hlt.out.2; omega
  have hpp : p ≠ d := by have := hlt.out.1; omega
  have hwp : w.heap.size ≤ p := by omega
  rw [← ep]
  clear hW ep
  refine (stock.sdo_any d m D z W HW.out I hz').mono ?_
  rintro en w1 ⟨rfl, h1, g1⟩
  have HP1 : Hid (Has w1 p 57 #[.int .i64 0, .string ⟨#[]⟩]) := Lib.hid (HP.out.grown g1 (by intro e; injection e with e; exact hpd e))
  have G1 := Lib.hid (grown_trans GW.out g1)
  have H1 := Lib.hid h1
  have f0 : w1.frozen? ⟨p, 0, none⟩ = false := HP1.out.free 0
  have f1 : w1.frozen? ⟨p, 1, none⟩ = false := HP1.out.free 1
  have y0 : w1.cell? ⟨p, 0, none⟩ = some (.int .i64 0) := HP1.out.cell 0
  have y1 : w1.cell? ⟨p, 1, none⟩ = some (.string ⟨#[]⟩) := HP1.out.cell 1
  clear h1 g1 HP GW
  go_wp2_with fail
  have E3 : Has ((w1.setCell ⟨p, 0, none⟩ (.int .i64 ((stock.doO D z).2))).setCell ⟨p, 1, none⟩ (.string (⟨#[]⟩))) p 57 #[.int .i64 ((stock.doO D z).2), .string (⟨#[]⟩)] := by
    simpa using (HP1.out.put 0 (.int .i64 ((stock.doO D z).2))).put 1 (.string (⟨#[]⟩))
  have G3 : Hid (w.grownBy ((w1.setCell ⟨p, 0, none⟩ (.int .i64 ((stock.doO D z).2))).setCell ⟨p, 1, none⟩ (.string (⟨#[]⟩))) (some m)) := grown_put (grown_put G1.out (.inr hwp) _) (.inr hwp) _
  have S3 := Lib.hid (show stock.Sk ((w1.setCell ⟨p, 0, none⟩ (.int .i64 ((stock.doO D z).2))).setCell ⟨p, 1, none⟩ (.string (⟨#[]⟩))) d m (stock.doO D z).1 from H1.out.turn (((Turn.refl (fun j => j = p) w1).put (fun _ => rfl) 0 _).put (fun _ => rfl) 1 _) (fun e => hpp e.symm) (fun e => hpd e.symm))
  generalize (w1.setCell ⟨p, 0, none⟩ (.int .i64 ((stock.doO D z).2))).setCell ⟨p, 1, none⟩ (.string (⟨#[]⟩)) = W2 at *
  have w0 : W2.cell? ⟨p, 0, none⟩ = some (.int .i64 ((stock.doO D z).2)) := E3.cell 0
  have w1 : W2.cell? ⟨p, 1, none⟩ = some (.string (⟨#[]⟩)) := E3.cell 1
  exact bodyPost_ret (v := rv ((stock.doO D z).2) (⟨#[]⟩)) (by simp [results, Tryz.results254, go_sem, w0, w1]) rfl ⟨rfl, S3.out, G3.out⟩

end Go.Proofs.YtcdedkgkingbdaaGreatDoor.object
end

section
/- object: an object of any kind behind its interface: what it holds, what Do makes of it, its face; New, Clone. -/
namespace Go.Proofs.YtcdedkgkingbdaaGreatDoor.object
open Go.RowKit Go.Maps Go.Sort

/-- What an object holds. -/
inductive Ob where
  | doc (s : ByteArray)
  | led (D : DataW Unit)
  | sto (D : DataW Unit)

def Ob.kd : Ob → Int
  | .doc _ => 1
  | .led _ => 2
  | .sto _ => 3
def Ob.save : Ob → ByteArray
  | .doc s => text.encT s
  | .led D => saveB D
  | .sto D => saveB D
/-- An op of its kind done: the object, the error, what went. -/
def Ob.did : Ob → OpO → Ob × Int × ByteArray
  | .doc s, o => (.doc (text.doV s o.t).1, (text.doV s o.t).2.2, (text.doV s o.t).2.1)
  | .led D, o => (.led (doO D o.l).1, (doO D o.l).2, ⟨#[]⟩)
  | .sto D, o => (.sto (stock.doO D o.s).1, (stock.doO D o.s).2, ⟨#[]⟩)
def Ob.act (x : Ob) (o : OpO) : Ob × Int × ByteArray := if o.k = x.kd then x.did o else (x, 5, ⟨#[]⟩)

/-- An object behind its interface, whose blocks lie from lo on, below hi. -/
def St (w : World) (v : Value) (lo hi : Nat) : Ob → Prop
  | .doc s => ∃ d, v = .iface 169 (pv d) ∧ lo ≤ d ∧ d < hi ∧ text.Dc w d s ∧ s.size ≤ 200
  | .led D => ∃ d m, v = .iface 173 (pv d) ∧ lo ≤ d ∧ d < hi ∧ lo ≤ m ∧ m < hi ∧ Bk w d m D ∧ InvF D
  | .sto D => ∃ d m, v = .iface 177 (pv d) ∧ lo ≤ d ∧ d < hi ∧ lo ≤ m ∧ m < hi ∧ stock.Sk w d m D ∧ stock.InvS D

theorem St.turn {w w' : World} {v : Value} {lo hi : Nat} {x : Ob} (h : St w v lo hi x) {F : Nat → Prop} (t : Turn F w w') (hF : ∀ j, lo ≤ j → j < hi → ¬ F j) : St w' v lo hi x := by
  cases x with
  | doc s =>
    obtain ⟨d, e, h1, h2, h3, h4⟩ := h
    exact ⟨d, e, h1, h2, Has.turn h3 t (hF d h1 h2), h4⟩
  | led D =>
    obtain ⟨d, m, e, h1, h2, h3, h4, h5, h6⟩ := h
    exact ⟨d, m, e, h1, h2, h3, h4, h5.turn t (hF d h1 h2) (hF m h3 h4), h6⟩
  | sto D =>
    obtain ⟨d, m, e, h1, h2, h3, h4, h5, h6⟩ := h
    exact ⟨d, m, e, h1, h2, h3, h4, h5.turn t (hF d h1 h2) (hF m h3 h4), h6⟩

theorem St.below {w w' : World} {v : Value} {lo hi : Nat} {x : Ob} (h : St w v lo hi x) (b : Below w.heap.size w w') (hh : hi ≤ w.heap.size) : St w' v lo hi x :=
  h.turn (Turn.of_below b (F := fun j => w.heap.size ≤ j) (fun _ _ e => e)) (fun j _ h2 e => by omega)

/-- The calls of an object through its interface. -/
structure Face (v : Value) (lo hi : Nat) (k : Int) (T : TypeId) (d : Nat) (fK fD fC fS : FuncId) : Prop where
  is : v = .iface T (pv d)
  mK : ∀ (x : Nat) (w : World), (method (x + 1) T (pv d) "Kind").run Tryz.prog w = .ok (fK, pv d) w
  mD : ∀ (x : Nat) (w : World), (method (x + 1) T (pv d) "Do").run Tryz.prog w = .ok (fD, pv d) w
  mC : ∀ (x : Nat) (w : World), (method (x + 1) T (pv d) "Clone").run Tryz.prog w = .ok (fC, pv d) w
  mS : ∀ (x : Nat) (w : World), (method (x + 1) T (pv d) "Save").run Tryz.prog w = .ok (fS, .pointer (some ⟨d, 0, none⟩)) w
  eK : ∀ args w, (callFunc fK args).run Tryz.prog w = .ok (.enter fK args) w
  eD : ∀ args w, (callFunc fD args).run Tryz.prog w = .ok (.enter fD args) w
  eS : ∀ args w, (callFunc fS args).run Tryz.prog w = .ok (.enter fS args) w
  cK : ∀ w, Calls Tryz.prog fK #[pv d] w fun en w' => en = .returned (.int .i64 k) ∧ Below w.heap.size w w'
  cD : ∀ (w : World) (x : Ob) (o : OpO), St w v lo hi x → hi ≤ w.heap.size → o.Short → Calls Tryz.prog fD #[pv d, .agg o.cells] w fun en w' =>
    en = .returned (rv (x.act o).2.1 (x.act o).2.2) ∧ St w' v lo hi (x.act o).1 ∧ Turn (fun j => lo ≤ j ∧ j < hi) w w'
  cS : ∀ (w : World) (x : Ob), St w v lo hi x → Calls Tryz.prog fS #[.pointer (some ⟨d, 0, none⟩)] w fun en w' => en = .returned (.string x.save) ∧ Below w.heap.size w w'

theorem face_of {w : World} {v : Value} {lo hi : Nat} {x : Ob} (h : St w v lo hi x) : ∃ T d fK fD fC fS, Face v lo hi x.kd T d fK fD fC fS := by
  cases x with
  | doc s =>
    obtain ⟨d, rfl, h1, h2, h3, h4⟩ := h
    refine ⟨_, d, 215, 214, 213, 210, rfl, fun x w => m_dkind x d w, fun x w => m_ddo x d w, fun x w => m_dclone x d w, fun x w => m_dsave x d w,
      enters_of Tryz.func215 (by kernel_rfl) rfl, enters_of Tryz.func214 (by kernel_rfl) rfl, enters_of Tryz.func210 (by kernel_rfl) rfl, fun w => dkind_calls d w, fun W y o hy hh ho => ?_, fun W y hy => ?_⟩
    · cases y with
      | doc s' =>
        obtain ⟨d', e, k1, k2, k3, k4⟩ := hy
        obtain rfl : d = d' := by injection e with _ e; injection e with e; simpa using e
        by_cases hk : o.k = 1
        · refine (ddo_calls d s' o W k3 k4 hk ho).mono ?_
          rintro en w' ⟨rfl, g1, g2⟩
          rw [show (Ob.doc s').act o = (Ob.doc s').did o from if_pos hk]
          exact ⟨rfl, ⟨d, rfl, k1, k2, g1, text.do_size k4⟩, Turn.of_grown g2 ⟨k1, k2⟩⟩
        · refine (ddo_other d o W hk).mono ?_
          rintro en w' ⟨rfl, b⟩
          rw [show (Ob.doc s').act o = (.doc s', 5, ⟨#[]⟩) from if_neg hk]
          exact ⟨rfl, St.below (x := .doc s') ⟨d, rfl, k1, k2, k3, k4⟩ b hh, (Turn.of_below b (F := fun j => lo ≤ j ∧ j < hi ∧ W.heap.size ≤ j) (fun j hj e => by omega)).more (fun j _ e => ⟨e.1, e.2.1⟩)⟩
      | led D => obtain ⟨d', m, e, _⟩ := hy; exact absurd e (by intro e; injection e with e; exact absurd e (by decide))
      | sto D => obtain ⟨d', m, e, _⟩ := hy; exact absurd e (by intro e; injection e with e; exact absurd e (by decide))
    · cases y with
      | doc s' =>
        obtain ⟨d', e, k1, k2, k3, k4⟩ := hy
        obtain rfl : d = d' := by injection e with _ e; injection e with e; simpa using e
        exact text.dsave_calls d s' W k3 k4
      | led D => obtain ⟨d', m, e, _⟩ := hy; exact absurd e (by intro e; injection e with e; exact absurd e (by decide))
      | sto D => obtain ⟨d', m, e, _⟩ := hy; exact absurd e (by intro e; injection e with e; exact absurd e (by decide))
  | led D0 =>
    obtain ⟨d, m, rfl, h1, h2, _⟩ := h
    refine ⟨_, d, 242, 241, 240, 217, rfl, fun x w => m_akind x d w, fun x w => m_ado x d w, fun x w => m_aclone x d w, fun x w => m_asave x d w,
      enters_of Tryz.func242 (by kernel_rfl) rfl, enters_of Tryz.func241 (by kernel_rfl) rfl, enters_of Tryz.func217 (by kernel_rfl) rfl, fun w => akind_calls d w, fun W y o hy hh ho => ?_, fun W y hy => ?_⟩
    · cases y with
      | led D =>
        obtain ⟨d', m', e, k1, k2, k3, k4, k5, k6⟩ := hy
        obtain rfl : d = d' := by injection e with _ e; injection e with e; simpa using e
        by_cases hk : o.k = 2
        · refine (ado_calls d m' D o W k5 k6 hk ho).mono ?_
          rintro en w' ⟨rfl, g1, g2⟩
          rw [show (Ob.led D).act o = (Ob.led D).did o from if_pos hk]
          exact ⟨rfl, ⟨d, m', rfl, k1, k2, k3, k4, g1, invF_doO k6 _⟩, Turn.of_grown g2 ⟨k3, k4⟩⟩
        · refine (ado_other d o W hk).mono ?_
          rintro en w' ⟨rfl, b⟩
          rw [show (Ob.led D).act o = (.led D, 5, ⟨#[]⟩) from if_neg hk]
          exact ⟨rfl, St.below (x := .led D) ⟨d, m', rfl, k1, k2, k3, k4, k5, k6⟩ b hh, (Turn.of_below b (F := fun j => lo ≤ j ∧ j < hi ∧ W.heap.size ≤ j) (fun j hj e => by omega)).more (fun j _ e => ⟨e.1, e.2.1⟩)⟩
      | doc s => obtain ⟨d', e, _⟩ := hy; exact absurd e (by intro e; injection e with e; exact absurd e (by decide))
      | sto D => obtain ⟨d', m, e, _⟩ := hy; exact absurd e (by intro e; injection e with e; exact absurd e (by decide))
    · cases y with
      | led D =>
        obtain ⟨d', m', e, k1, k2, k3, k4, k5, k6⟩ := hy
        obtain rfl : d = d' := by injection e with _ e; injection e with e; simpa using e
        exact bsave_calls d m' D W k5 k6
      | doc s => obtain ⟨d', e, _⟩ := hy; exact absurd e (by intro e; injection e with e; exact absurd e (by decide))
      | sto D => obtain ⟨d', m, e, _⟩ := hy; exact absurd e (by intro e; injection e with e; exact absurd e (by decide))
  | sto D0 =>
    obtain ⟨d, m, rfl, h1, h2, _⟩ := h
    refine ⟨_, d, 255, 254, 253, 244, rfl, fun x w => m_gkind x d w, fun x w => m_gdo x d w, fun x w => m_gclone x d w, fun x w => m_gsave x d w,
      enters_of Tryz.func255 (by kernel_rfl) rfl, enters_of Tryz.func254 (by kernel_rfl) rfl, enters_of Tryz.func244 (by kernel_rfl) rfl, fun w => gkind_calls d w, fun W y o hy hh ho => ?_, fun W y hy => ?_⟩
    · cases y with
      | sto D =>
        obtain ⟨d', m', e, k1, k2, k3, k4, k5, k6⟩ := hy
        obtain rfl : d = d' := by injection e with _ e; injection e with e; simpa using e
        by_cases hk : o.k = 3
        · refine (gdo_calls d m' D o W k5 k6 hk ho).mono ?_
          rintro en w' ⟨rfl, g1, g2⟩
          rw [show (Ob.sto D).act o = (Ob.sto D).did o from if_pos hk]
          exact ⟨rfl, ⟨d, m', rfl, k1, k2, k3, k4, g1, stock.invS_doO k6 _⟩, Turn.of_grown g2 ⟨k3, k4⟩⟩
        · refine (gdo_other d o W hk).mono ?_
          rintro en w' ⟨rfl, b⟩
          rw [show (Ob.sto D).act o = (.sto D, 5, ⟨#[]⟩) from if_neg hk]
          exact ⟨rfl, St.below (x := .sto D) ⟨d, m', rfl, k1, k2, k3, k4, k5, k6⟩ b hh, (Turn.of_below b (F := fun j => lo ≤ j ∧ j < hi ∧ W.heap.size ≤ j) (fun j hj e => by omega)).more (fun j _ e => ⟨e.1, e.2.1⟩)⟩
      | doc s => obtain ⟨d', e, _⟩ := hy; exact absurd e (by intro e; injection e with e; exact absurd e (by decide))
      | led D => obtain ⟨d', m, e, _⟩ := hy; exact absurd e (by intro e; injection e with e; exact absurd e (by decide))
    · cases y with
      | sto D =>
        obtain ⟨d', m', e, k1, k2, k3, k4, k5, k6⟩ := hy
        obtain rfl : d = d' := by injection e with _ e; injection e with e; simpa using e
        exact stock.ssave_calls d m' D W k5 k6
      | doc s => obtain ⟨d', e, _⟩ := hy; exact absurd e (by intro e; injection e with e; exact absurd e (by decide))
      | led D => obtain ⟨d', m, e, _⟩ := hy; exact absurd e (by intro e; injection e with e; exact absurd e (by decide))

/-- A first object of a kind. -/
def first : Int → Ob := fun k => if k = 1 then .doc ⟨#[]⟩ else if k = 2 then .led D0 else .sto (.map [])

def NewPost (k : Int) (w : World) (en : Ending) (w' : World) : Prop :=
  ∃ v, en = .returned v ∧ St w' v w.heap.size w'.heap.size (first k) ∧ Below w.heap.size w w'

set_option maxRecDepth 100000 in
set_option maxHeartbeats 1000000 in
theorem onew_calls (k : Int) (w : World) (hk : k = 1 ∨ k = 2 ∨ k = 3) : Calls Tryz.prog 38 #[.int .i64 k] w fun en w' => NewPost k w en w' := by
  rcases hk with rfl | rfl | rfl
  · go_enter Tryz.func38, Tryz.ntmps38
    go_wp2_with fail
    refine (text.dnew_calls w).mono ?_
    rintro en w1 ⟨rfl, h1, g1⟩
    have H1 := Lib.hid h1
    have hl := h1.lt
    clear h1
    go_wp2_with fail
    go_ret
    exact ⟨_, rfl, ⟨w.heap.size, rfl, Nat.le_refl _, hl, H1.out, Nat.zero_le _⟩, below_none g1 (Nat.le_refl _)⟩
  · go_enter Tryz.func38, Tryz.ntmps38
    go_wp2_with fail
    refine (bnew_calls (H := Unit) w).mono ?_
    rintro en w1 ⟨d, m, rfl, h1, b1, hd, hm⟩
    have H1 := Lib.hid h1
    have B1 := Lib.hid b1
    clear h1 b1
    go_wp2_with fail
    go_ret
    exact ⟨_, rfl, ⟨d, m, rfl, hd, H1.out.box.lt, hm, World.ownsMap.lt H1.out.map, H1.out, invF_new⟩, B1.out⟩
  · go_enter Tryz.func38, Tryz.ntmps38
    go_wp2_with fail
    refine (stock.snew_calls (H := Unit) w).mono ?_
    rintro en w1 ⟨d, m, rfl, h1, b1, hd, hm⟩
    have H1 := Lib.hid h1
    have B1 := Lib.hid b1
    clear h1 b1
    go_wp2_with fail
    go_ret
    exact ⟨_, rfl, ⟨d, m, rfl, hd, H1.out.box.lt, hm, World.ownsMap.lt H1.out.map, H1.out, stock.invS_new⟩, B1.out⟩

end Go.Proofs.YtcdedkgkingbdaaGreatDoor.object
end

