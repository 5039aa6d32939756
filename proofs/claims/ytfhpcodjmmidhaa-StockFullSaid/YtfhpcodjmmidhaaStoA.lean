/- stock: a shelf whose map reads as D; what New, Count, add, take give. -/
import Derived.Test.YtfhpcodjmmidhaaLedO
namespace Go.Proofs.Ytfhpcodjmmidhaa.stock
open Go.RowKit Go.Maps Go.Sort

section
variable {H : Type}

/-- The shelf at block d, whose map is in block m. -/
structure Sk (w : World) (d m : Nat) (D : DataW H) : Prop where
  box : Has w d 109 #[.map (some m)]
  map : Mp w m D

theorem Sk.kept {w w' : World} {d m : Nat} {D : DataW H} {row : Option Nat} (h : Sk w d m D) (hg : w.grownBy w' row) (h1 : some d ≠ row) (h2 : some m ≠ row) : Sk w' d m D :=
  ⟨h.box.grown hg h1, h.map.kept hg h2⟩
theorem Sk.turned {w w' : World} {d m : Nat} {D D' : DataW H} {n : Nat} (h : Sk w d m D) (hm : w'.ownsMap Try.prog 9 (plainElem Try.prog 3) m n D') (ht : w.mapTurned w' m) : Sk w' d m D' :=
  ⟨h.box.grown ht.grown (fun e => h.map.ne h.box (by injection e with e; exact e.symm)), ownsMap_tight hm⟩
theorem Sk.turn {w w' : World} {d m : Nat} {D : DataW H} {F : Nat → Prop} (h : Sk w d m D) (t : Turn F w w') (hd : ¬ F d) (hm : ¬ F m) : Sk w' d m D := ⟨h.box.turn t hd, h.map.turn t hm⟩
theorem Sk.more {w w' : World} {d m : Nat} {D : DataW H} (h : Sk w d m D) (hb : Below w.heap.size w w') : Sk w' d m D :=
  h.kept (below_any hb none) (by simp) (by simp)

set_option maxHeartbeats 400000 in
theorem scount_calls (d m : Nat) (D : DataW H) (s : ByteArray) (w : World) (h : Sk w d m D) (hs : s.size ≤ maxLen) :
    Calls Try.prog 32 #[.pointer (some ⟨d, 0, none⟩), .string s] w fun en w' => en = .returned (.int .i64 (amt D s)) ∧ w' = w := by
  have hkey := kS_of hs
  have c0 : w.cell? ⟨d, 0, none⟩ = some (.map (some m)) := h.box.cell 0
  obtain ⟨q, hq, hat, _⟩ := World.ownsMap.lookup_int h.map strKeyed Try.underlying88 Try.underlying3 (zeroInt w) hkey
  obtain rfl : amt D s = q := amt_of hat
  clear h hs hat
  go_enter Try.func32, Try.ntmps32
  go_wp2_with fail
  go_ret
  exact ⟨rfl, rfl⟩

/-- add, take of the program: the map, the error. -/
def adS (D : DataW H) (s : ByteArray) (n : Int) : DataW H × Int :=
  if isIn D s = false ∧ 16 ≤ Maps.size D then (D, 7) else if 1099511627776 < amt D s + n then (D, 10) else (D.put (kS s) (nI (amt D s + n)), 0)
def tkS (D : DataW H) (s : ByteArray) (n : Int) : DataW H × Int :=
  if isIn D s = false then (D, 8) else if amt D s < n then (D, 11) else if amt D s = n then (D.del (kS s), 0) else (D.put (kS s) (nI (amt D s - n)), 0)

def SPost (d m : Nat) (w : World) (r : DataW H × Int) (en : Ending) (w' : World) : Prop :=
  en = .returned (.int .i64 r.2) ∧ Sk w' d m r.1 ∧ w.grownBy w' (some m)

set_option maxRecDepth 100000 in
set_option maxHeartbeats 1000000 in
theorem sadd_calls (d m : Nat) (D : DataW H) (s : ByteArray) (n : Int) (w : World) (h : Sk w d m D) (hs : s.size ≤ maxLen) (hD : Maps.size D < maxLen)
    (hn : 0 ≤ n) (hn' : n ≤ 1099511627776) (ha : 0 ≤ amt D s) (ha' : amt D s ≤ 1099511627776) :
    Calls Try.prog 62 #[.pointer (some ⟨d, 0, none⟩), .string s, .int .i64 n] w fun en w' => SPost d m w (adS D s n) en w' := by
  have hkey := kS_of hs
  have c0 : w.cell? ⟨d, 0, none⟩ = some (.map (some m)) := h.box.cell 0
  have hown : w.ownsMap Try.prog 9 (plainElem Try.prog 3) m (Maps.size D) D := h.map
  have B := Lib.hid h
  have hlen := hown.len Try.underlying88 3
  have hw1 : (Lit.int .i64 (amt D s + n)).wf = true := wf64 (by omega) (by omega)
  obtain ⟨w1, hrun1, hown1, hturn1⟩ := hown.store strKeyed Try.underlying88 hD hkey (plainElem_int Try.underlying3 hw1)
  have B1 := Lib.hid (B.out.turned hown1 hturn1)
  have G1 := Lib.hid hturn1.grown
  generalize h1 : amt D s = a at *
  have H1 := Lib.hid h1
  clear h hs hown1 hturn1 hw1 h1
  cases hi : isIn D s
  · have hi' : Maps.has D (kS s) = false := hi
    by_cases h2 : 16 ≤ Maps.size D
    · have E : Hid (adS D s n = (D, 7)) := if_pos ⟨hi, h2⟩
      have h2' : (16 : Int) ≤ (Maps.size D : Int) := by omega
      clear hi h2
      go_enter Try.func62, Try.ntmps62
      go_wp2_with (first
        | (at_lookup; refine wpList_lookup_own_ok_int _ rfl _ _ 88 rfl 9 3 .i64 strKeyed Try.underlying88 Try.underlying3 (zeroInt _) m (Maps.size D) D rfl hown _ _ rfl hkey ?_; intro c hat hwc)
        | fail)
      go_ret
      rw [E.out]
      exact ⟨rfl, B.out, grown_refl w _⟩
    · have h2' : (Maps.size D : Int) < (16 : Int) := by omega
      have hno : ¬ (isIn D s = false ∧ 16 ≤ Maps.size D) := fun e => h2 e.2
      by_cases h3 : 1099511627776 < a + n
      · have E : Hid (adS D s n = (D, 10)) := by show _ = _; unfold adS; rw [if_neg hno, H1.out, if_pos h3]
        clear hi h2 hno
        go_enter Try.func62, Try.ntmps62
        go_wp2_with (first
          | (at_lookup; refine wpList_lookup_own_ok_int _ rfl _ _ 88 rfl 9 3 .i64 strKeyed Try.underlying88 Try.underlying3 (zeroInt _) m (Maps.size D) D rfl hown _ _ rfl hkey ?_; intro c hat hwc; obtain rfl : c = a := (amt_of hat).symm.trans H1.out)
            | fail)
        go_ret
        rw [E.out]
        exact ⟨rfl, B.out, grown_refl w _⟩
      · have E : Hid (adS D s n = (D.put (kS s) (nI (a + n)), 0)) := by show _ = _; unfold adS; rw [if_neg hno, H1.out, if_neg h3]
        have h3' : a + n ≤ 1099511627776 := by omega
        clear hi h2 hno h3
        go_enter Try.func62, Try.ntmps62
        go_wp2_with (first
          | (at_lookup; refine wpList_lookup_own_ok_int _ rfl _ _ 88 rfl 9 3 .i64 strKeyed Try.underlying88 Try.underlying3 (zeroInt _) m (Maps.size D) D rfl hown _ _ rfl hkey ?_; intro c hat hwc; obtain rfl : c = a := (amt_of hat).symm.trans H1.out)
            | fail)
        go_ret
        rw [E.out]
        exact ⟨rfl, B1.out, G1.out⟩
  · have hi' : Maps.has D (kS s) = true := hi
    have hno : ¬ (isIn D s = false ∧ 16 ≤ Maps.size D) := fun e => by rw [hi] at e; exact absurd e.1 (by decide)
    by_cases h3 : 1099511627776 < a + n
    · have E : Hid (adS D s n = (D, 10)) := by show _ = _; unfold adS; rw [if_neg hno, H1.out, if_pos h3]
      clear hi hno
      go_enter Try.func62, Try.ntmps62
      go_wp2_with (first
        | (at_lookup; refine wpList_lookup_own_ok_int _ rfl _ _ 88 rfl 9 3 .i64 strKeyed Try.underlying88 Try.underlying3 (zeroInt _) m (Maps.size D) D rfl hown _ _ rfl hkey ?_; intro c hat hwc; obtain rfl : c = a := (amt_of hat).symm.trans H1.out)
        | fail)
      go_ret
      rw [E.out]
      exact ⟨rfl, B.out, grown_refl w _⟩
    · have E : Hid (adS D s n = (D.put (kS s) (nI (a + n)), 0)) := by show _ = _; unfold adS; rw [if_neg hno, H1.out, if_neg h3]
      have h3' : a + n ≤ 1099511627776 := by omega
      clear hi hno h3
      go_enter Try.func62, Try.ntmps62
      go_wp2_with (first
        | (at_lookup; refine wpList_lookup_own_ok_int _ rfl _ _ 88 rfl 9 3 .i64 strKeyed Try.underlying88 Try.underlying3 (zeroInt _) m (Maps.size D) D rfl hown _ _ rfl hkey ?_; intro c hat hwc; obtain rfl : c = a := (amt_of hat).symm.trans H1.out)
        | fail)
      go_ret
      rw [E.out]
      exact ⟨rfl, B1.out, G1.out⟩

set_option maxRecDepth 100000 in
set_option maxHeartbeats 1000000 in
theorem stake_calls (d m : Nat) (D : DataW H) (s : ByteArray) (n : Int) (w : World) (h : Sk w d m D) (hs : s.size ≤ maxLen) (hD : Maps.size D < maxLen)
    (hn : 0 ≤ n) (hn' : n ≤ 1099511627776) (ha : 0 ≤ amt D s) (ha' : amt D s ≤ 1099511627776) :
    Calls Try.prog 63 #[.pointer (some ⟨d, 0, none⟩), .string s, .int .i64 n] w fun en w' => SPost d m w (tkS D s n) en w' := by
  have hkey := kS_of hs
  have c0 : w.cell? ⟨d, 0, none⟩ = some (.map (some m)) := h.box.cell 0
  have hown : w.ownsMap Try.prog 9 (plainElem Try.prog 3) m (Maps.size D) D := h.map
  have B := Lib.hid h
  have hw1 : (Lit.int .i64 (amt D s - n)).wf = true := wf64 (by omega) (by omega)
  obtain ⟨w1, hrun1, hown1, hturn1⟩ := hown.store strKeyed Try.underlying88 hD hkey (plainElem_int Try.underlying3 hw1)
  have B1 := Lib.hid (B.out.turned hown1 hturn1)
  have G1 := Lib.hid hturn1.grown
  generalize h1 : amt D s = a at *
  have H1 := Lib.hid h1
  clear h hs hown1 hturn1 hw1 h1
  cases hi : isIn D s
  · have hi' : Maps.has D (kS s) = false := hi
    have E : Hid (tkS D s n = (D, 8)) := if_pos hi
    clear hi
    go_enter Try.func63, Try.ntmps63
    go_wp2_with (first
      | (at_lookup; refine wpList_lookup_own_ok_int _ rfl _ _ 88 rfl 9 3 .i64 strKeyed Try.underlying88 Try.underlying3 (zeroInt _) m (Maps.size D) D rfl hown _ _ rfl hkey ?_; intro c hat hwc)
      | go_in)
    go_ret
    rw [E.out]
    exact ⟨rfl, B.out, grown_refl w _⟩
  · have hi' : Maps.has D (kS s) = true := hi
    have hno : ¬ (isIn D s = false) := fun e => by rw [hi] at e; exact absurd e (by decide)
    by_cases h2 : a < n
    · have E : Hid (tkS D s n = (D, 11)) := by show _ = _; unfold tkS; rw [if_neg hno, H1.out, if_pos h2]
      clear hi hno
      go_enter Try.func63, Try.ntmps63
      go_wp2_with (first
        | (at_lookup; refine wpList_lookup_own_ok_int _ rfl _ _ 88 rfl 9 3 .i64 strKeyed Try.underlying88 Try.underlying3 (zeroInt _) m (Maps.size D) D rfl hown _ _ rfl hkey ?_; intro c hat hwc; obtain rfl : c = a := (amt_of hat).symm.trans H1.out)
        | go_in)
      go_ret
      rw [E.out]
      exact ⟨rfl, B.out, grown_refl w _⟩
    · have h2' : n ≤ a := by omega
      by_cases h3 : a = n
      · have E : Hid (tkS D s n = (D.del (kS s), 0)) := by show _ = _; unfold tkS; rw [if_neg hno, H1.out, if_neg h2, if_pos h3]
        subst h3
        clear hi hno h2 hrun1 B1 G1
        go_enter Try.func63, Try.ntmps63
        go_wp2_with (first
          | (at_lookup; refine wpList_lookup_own_ok_int _ rfl _ _ 88 rfl 9 3 .i64 strKeyed Try.underlying88 Try.underlying3 (zeroInt _) m (Maps.size D) D rfl hown _ _ rfl hkey ?_; intro c hat hwc; obtain rfl : a = c := H1.out.symm.trans (amt_of hat))
          | (at_delete; refine wpList_delete_own _ rfl _ _ 88 9 rfl 3 strKeyed Try.underlying88 _ m (Maps.size D) D rfl hown _ _ rfl hkey ?_; intro w2 hown2 hturn2)
          | go_in)
        go_ret
        rw [E.out]
        exact ⟨rfl, B.out.turned hown2 hturn2, hturn2.grown⟩
      · have E : Hid (tkS D s n = (D.put (kS s) (nI (a - n)), 0)) := by show _ = _; unfold tkS; rw [if_neg hno, H1.out, if_neg h2, if_neg h3]
        have h3' : (a == n) = false := by simpa using h3
        clear hi hno h2 h3
        go_enter Try.func63, Try.ntmps63
        go_wp2_with (first
          | (at_lookup; refine wpList_lookup_own_ok_int _ rfl _ _ 88 rfl 9 3 .i64 strKeyed Try.underlying88 Try.underlying3 (zeroInt _) m (Maps.size D) D rfl hown _ _ rfl hkey ?_; intro c hat hwc; obtain rfl : c = a := (amt_of hat).symm.trans H1.out)
          | fail)
        go_ret
        rw [E.out]
        exact ⟨rfl, B1.out, G1.out⟩

def SNewPost (H : Type) (w : World) (en : Ending) (w' : World) : Prop :=
  ∃ d m, en = .returned (.pointer (some ⟨d, 0, none⟩)) ∧ Sk (H := H) w' d m (.map []) ∧ Below w.heap.size w w' ∧ w.heap.size ≤ d ∧ w.heap.size ≤ m

set_option maxRecDepth 100000 in
set_option maxHeartbeats 400000 in
theorem snew_calls (w : World) : Calls Try.prog 25 #[] w fun en w' => SNewPost H w en w' := by
  have hrun0 := run_makeMap (P := Try.prog) 88 w
  have hown := World.ownsMap_made (H := H) w Try.prog 9 (plainElem Try.prog 3)
  go_enter Try.func25, Try.ntmps25
  go_wp2_with fail
  go_ret
  refine ⟨w.heap.size + 1, w.heap.size, rfl, ⟨made_at _ _ (by simp), (show Mp _ _ (DataW.map []) from ownsMap_tight hown).alloc _⟩, ?_, by omega, Nat.le_refl _⟩
  exact ((Below.refl w.heap.size w).alloc (Nat.le_refl _) _).alloc (by simp) _

end
end Go.Proofs.Ytfhpcodjmmidhaa.stock
