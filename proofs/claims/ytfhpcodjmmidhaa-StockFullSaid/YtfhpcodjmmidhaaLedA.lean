/- ledger: what New, Has, open, close, move give, of a book whose map reads as D. -/
import Derived.Test.YtfhpcodjmmidhaaReg
import Derived.Maps.OwnSet
import Derived.Deep.QuietTactic
import Derived.BigQuiet
import Derived.IntWalk
namespace Go.Proofs.Ytfhpcodjmmidhaa
open Go.RowKit Go.Maps

section
variable {H : Type}

abbrev kS (s : ByteArray) : Lit := .string s.data.toList
abbrev nI (n : Int) : DataW H := .lit (.int .i64 n)

theorem kS_key (s : ByteArray) : WideAt.IsKeyLit (kS s) := by simp [WideAt.IsKeyLit]
theorem kS_inj {s t : ByteArray} (h : kS s = kS t) : s = t := by
  cases s; cases t; simp [kS] at h; rw [h]
theorem strKeyed : Keyed Try.prog 9 := string_keyed Try.underlying9
theorem kS_of {s : ByteArray} (h : s.size ≤ maxLen) : keyOf Try.prog 9 (.string s) = some (kS s) := WideMaps.keyOf_string_mk Try.underlying9 h
theorem zeroInt (w : World) : (zeroValue 3).run Try.prog w = .ok (.int .i64 0) w := by kernel_rfl

/-- What is under a name; 0 where nothing is. -/
def amt (D : DataW H) (s : ByteArray) : Int := match D.atKey (kS s) (nI 0) with | .lit (.int _ n) => n | _ => 0
/-- Is the name there? -/
def isIn (D : DataW H) (s : ByteArray) : Bool := Maps.has D (kS s)

theorem amt_of {D : DataW H} {s : ByteArray} {c : Int} (h : D.atKey (kS s) (.lit (.int .i64 0)) = .lit (.int .i64 c)) : amt D s = c := by
  unfold amt nI; rw [h]

/-- Block m is a map from names to amounts that reads as D. -/
def Mp (w : World) (m : Nat) (D : DataW H) : Prop := w.ownsMap Try.prog 9 (plainElem Try.prog 3) m (Maps.size D) D

/-- The bound is the number of entries itself. -/
theorem ownsMap_tight {P : Program} {k : TypeId} {R : Value → Option (DataW H × List MemPlace)} {w : World} {b n : Nat} {D : DataW H} (h : w.ownsMap P k R b n D) : w.ownsMap P k R b (Maps.size D) D := by
  obtain ⟨es, clock, hb, F, _, rfl⟩ := h
  exact ⟨es, clock, hb, F, by simp [Maps.size, length_sorted], rfl⟩

/-- The book at block d, whose map is in block m. -/
structure Bk (w : World) (d m : Nat) (D : DataW H) : Prop where
  box : Has w d 90 #[.map (some m)]
  map : Mp w m D

theorem Bk.kept {w w' : World} {d m : Nat} {D : DataW H} {row : Option Nat} (h : Bk w d m D) (hg : w.grownBy w' row) (h1 : some d ≠ row) (h2 : some m ≠ row) : Bk w' d m D :=
  ⟨h.box.grown hg h1, h.map.kept hg h2⟩

theorem Mp.ne {w : World} {d m : Nat} {D : DataW H} {t : TypeId} {cs : Array Value} (h : Mp w m D) (hb : Has w d t cs) : m ≠ d := by
  rintro rfl
  obtain ⟨es, clock, h1, _⟩ := h
  unfold Has at hb
  rw [h1] at hb
  cases hb

/-- The map alone has turned. -/
theorem Bk.turned {w w' : World} {d m : Nat} {D D' : DataW H} {n : Nat} (h : Bk w d m D) (hm : w'.ownsMap Try.prog 9 (plainElem Try.prog 3) m n D') (ht : w.mapTurned w' m) : Bk w' d m D' :=
  ⟨h.box.grown ht.grown (fun e => h.map.ne h.box (by injection e with e; exact e.symm)), ownsMap_tight hm⟩

def HasPost (D : DataW H) (s : ByteArray) (w : World) (en : Ending) (w' : World) : Prop :=
  en = .returned (.tuple #[.int .i64 (amt D s), .bool (isIn D s)]) ∧ w' = w

set_option maxHeartbeats 400000 in
theorem bhas_calls (d m : Nat) (D : DataW H) (s : ByteArray) (w : World) (h : Bk w d m D) (hs : s.size ≤ maxLen) :
    Calls Try.prog 22 #[.pointer (some ⟨d, 0, none⟩), .string s] w fun en w' => HasPost D s w en w' := by
  have hkey := kS_of hs
  have c0 : w.cell? ⟨d, 0, none⟩ = some (.map (some m)) := h.box.cell 0
  have hown : w.ownsMap Try.prog 9 (plainElem Try.prog 3) m (Maps.size D) D := h.map
  clear h hs
  go_enter Try.func22, Try.ntmps22
  go_wp2_with (first
    | (at_lookup; refine wpList_lookup_own_ok_int _ rfl _ _ 88 rfl 9 3 .i64 strKeyed Try.underlying88 Try.underlying3 (zeroInt _) m (Maps.size D) D rfl hown _ _ rfl hkey ?_; intro c hat hwc)
    | go_in)
  go_ret2
  exact ⟨by rw [amt_of hat]; rfl, rfl⟩

/-- What a call that may turn the book gives. -/
def BPost (d m : Nat) (w : World) (r : DataW H × Int) (en : Ending) (w' : World) : Prop :=
  en = .returned (.int .i64 r.2) ∧ Bk w' d m r.1 ∧ w.mapTurned w' m

/-- open, close, move of the program: the map, the error. -/
def opn (D : DataW H) (s : ByteArray) : DataW H × Int :=
  if isIn D s = true then (D, 9) else if 16 < Maps.size D then (D, 7) else (D.put (kS s) (nI 0), 0)
def cls (D : DataW H) (s : ByteArray) : DataW H × Int :=
  if isIn D s = false then (D, 8) else if amt D s ≠ 0 then (D, 11) else (D.del (kS s), 0)
def mov (D : DataW H) (s t : ByteArray) (n : Int) : DataW H × Int :=
  if isIn D s = false then (D, 8) else if isIn D t = false then (D, 8)
  else if s ≠ .empty ∧ amt D s < n then (D, 11) else if t ≠ .empty ∧ 1099511627776 < amt D t + n then (D, 10)
  else ((D.put (kS s) (nI (amt D s - n))).put (kS t) (nI (amt D t + n)), 0)

set_option maxRecDepth 100000 in
set_option maxHeartbeats 400000 in
theorem bopen_calls (d m : Nat) (D : DataW H) (s : ByteArray) (w : World) (h : Bk w d m D) (hs : s.size ≤ maxLen) (hD : Maps.size D < maxLen) :
    Calls Try.prog 49 #[.pointer (some ⟨d, 0, none⟩), .string s] w fun en w' => BPost d m w (opn D s) en w' := by
  have hkey := kS_of hs
  have c0 : w.cell? ⟨d, 0, none⟩ = some (.map (some m)) := h.box.cell 0
  have hown : w.ownsMap Try.prog 9 (plainElem Try.prog 3) m (Maps.size D) D := h.map
  have B := Lib.hid h
  clear h hs
  cases hi : isIn D s
  · have hi' : Maps.has D (kS s) = false := hi
    by_cases h2 : 16 < Maps.size D
    · have E := Lib.hid (show opn D s = (D, 7) by unfold opn; rw [if_neg (by rw [hi]; simp), if_pos h2])
      have h2' : (16 : Int) < (Maps.size D : Int) := by omega
      clear hi h2
      go_enter Try.func49, Try.ntmps49
      go_wp2_with (first
        | (at_lookup; refine wpList_lookup_own_ok_int _ rfl _ _ 88 rfl 9 3 .i64 strKeyed Try.underlying88 Try.underlying3 (zeroInt _) m (Maps.size D) D rfl hown _ _ rfl hkey ?_; intro c hat hwc)
        | (at_len; refine wpList_len_own _ rfl _ 88 rfl 9 3 Try.underlying88 _ m (Maps.size D) D rfl hown ?_)
        | go_in)
      go_ret
      rw [show opn D s = _ from E]
      exact ⟨rfl, B, hown.turned_refl⟩
    · have E := Lib.hid (show opn D s = (D.put (kS s) (nI 0), 0) by unfold opn; rw [if_neg (by rw [hi]; simp), if_neg h2])
      have h2' : (Maps.size D : Int) ≤ (16 : Int) := by omega
      clear hi h2
      go_enter Try.func49, Try.ntmps49
      go_wp2_with (first
        | (at_lookup; refine wpList_lookup_own_ok_int _ rfl _ _ 88 rfl 9 3 .i64 strKeyed Try.underlying88 Try.underlying3 (zeroInt _) m (Maps.size D) D rfl hown _ _ rfl hkey ?_; intro c hat hwc)
        | (at_len; refine wpList_len_own _ rfl _ 88 rfl 9 3 Try.underlying88 _ m (Maps.size D) D rfl hown ?_)
        | (at_mapUpdate; refine wpList_mapUpdate_in _ rfl _ _ _ 88 rfl 9 3 strKeyed Try.underlying88 _ m (Maps.size D) D rfl hown hD _ _ _ rfl rfl hkey _ [] (plainElem_int Try.underlying3 (by decide)) ?_; intro w1 hown1 hturn1)
        | go_in)
      go_ret
      rw [show opn D s = _ from E]
      exact ⟨rfl, B.turned hown1 hturn1, hturn1⟩
  · have hi' : Maps.has D (kS s) = true := hi
    have E := Lib.hid (show opn D s = (D, 9) by unfold opn; rw [if_pos hi])
    clear hi
    go_enter Try.func49, Try.ntmps49
    go_wp2_with (first
      | (at_lookup; refine wpList_lookup_own_ok_int _ rfl _ _ 88 rfl 9 3 .i64 strKeyed Try.underlying88 Try.underlying3 (zeroInt _) m (Maps.size D) D rfl hown _ _ rfl hkey ?_; intro c hat hwc)
      | go_in)
    go_ret
    rw [show opn D s = _ from E]
    exact ⟨rfl, B, hown.turned_refl⟩

set_option maxRecDepth 100000 in
set_option maxHeartbeats 400000 in
theorem bclose_calls (d m : Nat) (D : DataW H) (s : ByteArray) (w : World) (h : Bk w d m D) (hs : s.size ≤ maxLen) :
    Calls Try.prog 50 #[.pointer (some ⟨d, 0, none⟩), .string s] w fun en w' => BPost d m w (cls D s) en w' := by
  have hkey := kS_of hs
  have c0 : w.cell? ⟨d, 0, none⟩ = some (.map (some m)) := h.box.cell 0
  have hown : w.ownsMap Try.prog 9 (plainElem Try.prog 3) m (Maps.size D) D := h.map
  have B := Lib.hid h
  clear h hs
  cases hi : isIn D s
  · have hi' : Maps.has D (kS s) = false := hi
    have E := Lib.hid (show cls D s = (D, 8) by unfold cls; rw [if_pos hi])
    clear hi
    go_enter Try.func50, Try.ntmps50
    go_wp2_with (first
      | (at_lookup; refine wpList_lookup_own_ok_int _ rfl _ _ 88 rfl 9 3 .i64 strKeyed Try.underlying88 Try.underlying3 (zeroInt _) m (Maps.size D) D rfl hown _ _ rfl hkey ?_; intro c hat hwc)
      | go_in)
    go_ret
    rw [show cls D s = _ from E]
    exact ⟨rfl, B, hown.turned_refl⟩
  · have hi' : Maps.has D (kS s) = true := hi
    by_cases h2 : amt D s = 0
    · have E := Lib.hid (show cls D s = (D.del (kS s), 0) by unfold cls; rw [if_neg (by rw [hi]; simp), if_neg (by simpa using h2)])
      have E2 := Lib.hid h2
      clear hi h2
      go_enter Try.func50, Try.ntmps50
      go_wp2_with (first
        | (at_lookup; refine wpList_lookup_own_ok_int _ rfl _ _ 88 rfl 9 3 .i64 strKeyed Try.underlying88 Try.underlying3 (zeroInt _) m (Maps.size D) D rfl hown _ _ rfl hkey ?_; intro c hat hwc; obtain rfl : c = 0 := (amt_of hat).symm.trans E2)
        | (at_delete; refine wpList_delete_own _ rfl _ _ 88 9 rfl 3 strKeyed Try.underlying88 _ m (Maps.size D) D rfl hown _ _ rfl hkey ?_; intro w1 hown1 hturn1)
        | go_in)
      go_ret
      rw [show cls D s = _ from E]
      exact ⟨rfl, B.turned hown1 hturn1, hturn1⟩
    · have E := Lib.hid (show cls D s = (D, 11) by unfold cls; rw [if_neg (by rw [hi]; simp), if_pos h2])
      have E2 := Lib.hid h2
      clear hi h2
      go_enter Try.func50, Try.ntmps50
      go_wp2_with (first
        | (at_lookup; refine wpList_lookup_own_ok_int _ rfl _ _ 88 rfl 9 3 .i64 strKeyed Try.underlying88 Try.underlying3 (zeroInt _) m (Maps.size D) D rfl hown _ _ rfl hkey ?_; intro c hat hwc; have hc : (c != 0) = true := by { have hz : c ≠ 0 := fun e => E2 ((amt_of hat).trans e); simpa using hz })
        | go_in)
      go_ret
      rw [show cls D s = _ from E]
      exact ⟨rfl, B, hown.turned_refl⟩

end
end Go.Proofs.Ytfhpcodjmmidhaa
