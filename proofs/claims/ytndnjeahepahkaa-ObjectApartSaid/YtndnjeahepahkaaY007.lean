/- Texts laid into one: ObjB, ObjO, ObjC, ObjD, ObjE, Inv, ObjF. -/
import Derived.Test.YtndnjeahepahkaaY006
import Derived.Test.YtndnjeahepahkaaY003
section
/- object: an object of any kind behind its interface: what it holds, what Do makes of it, its face; New, Clone. -/
namespace Go.Proofs.Ytndnjeahepahkaa.object
open Go.RowKit Go.Maps Go.Sort

/-- What an object holds. -/
inductive Ob where
  | doc (s : ByteArray)
  | led (D : DataW Unit)
  | sto (D : DataW Unit)

def Ob.kd : Ob → Int
  | .doc _ => 1
  | .led _ => 2
  | .sto _ => 3
def Ob.save : Ob → ByteArray
  | .doc s => text.encT s
  | .led D => saveB D
  | .sto D => saveB D
/-- An op of its kind done: the object, the error, what went. -/
def Ob.did : Ob → OpO → Ob × Int × ByteArray
  | .doc s, o => (.doc (text.doV s o.t).1, (text.doV s o.t).2.2, (text.doV s o.t).2.1)
  | .led D, o => (.led (doO D o.l).1, (doO D o.l).2, ⟨#[]⟩)
  | .sto D, o => (.sto (stock.doO D o.s).1, (stock.doO D o.s).2, ⟨#[]⟩)
def Ob.act (x : Ob) (o : OpO) : Ob × Int × ByteArray := if o.k = x.kd then x.did o else (x, 5, ⟨#[]⟩)

/-- An object behind its interface, whose blocks lie from lo on, below hi. -/
def St (w : World) (v : Value) (lo hi : Nat) : Ob → Prop
  | .doc s => ∃ d, v = .iface 61 (pv d) ∧ lo ≤ d ∧ d < hi ∧ text.Dc w d s ∧ s.size ≤ 200
  | .led D => ∃ d m, v = .iface 65 (pv d) ∧ lo ≤ d ∧ d < hi ∧ lo ≤ m ∧ m < hi ∧ Bk w d m D ∧ InvF D
  | .sto D => ∃ d m, v = .iface 69 (pv d) ∧ lo ≤ d ∧ d < hi ∧ lo ≤ m ∧ m < hi ∧ stock.Sk w d m D ∧ stock.InvS D

theorem St.turn {w w' : World} {v : Value} {lo hi : Nat} {x : Ob} (h : St w v lo hi x) {F : Nat → Prop} (t : Turn F w w') (hF : ∀ j, lo ≤ j → j < hi → ¬ F j) : St w' v lo hi x := by
  cases x with
  | doc s =>
    obtain ⟨d, e, h1, h2, h3, h4⟩ := h
    exact ⟨d, e, h1, h2, Has.turn h3 t (hF d h1 h2), h4⟩
  | led D =>
    obtain ⟨d, m, e, h1, h2, h3, h4, h5, h6⟩ := h
    exact ⟨d, m, e, h1, h2, h3, h4, h5.turn t (hF d h1 h2) (hF m h3 h4), h6⟩
  | sto D =>
    obtain ⟨d, m, e, h1, h2, h3, h4, h5, h6⟩ := h
    exact ⟨d, m, e, h1, h2, h3, h4, h5.turn t (hF d h1 h2) (hF m h3 h4), h6⟩

theorem St.below {w w' : World} {v : Value} {lo hi : Nat} {x : Ob} (h : St w v lo hi x) (b : Below w.heap.size w w') (hh : hi ≤ w.heap.size) : St w' v lo hi x :=
  h.turn (Turn.of_below b (F := fun j => w.heap.size ≤ j) (fun _ _ e => e)) (fun j _ h2 e => by omega)

/-- The calls of an object through its interface. -/
structure Face (v : Value) (lo hi : Nat) (k : Int) (T : TypeId) (d : Nat) (fK fD fC fS : FuncId) : Prop where
  is : v = .iface T (pv d)
  mK : ∀ (x : Nat) (w : World), (method (x + 1) T (pv d) "Kind").run Try.prog w = .ok (fK, pv d) w
  mD : ∀ (x : Nat) (w : World), (method (x + 1) T (pv d) "Do").run Try.prog w = .ok (fD, pv d) w
  mC : ∀ (x : Nat) (w : World), (method (x + 1) T (pv d) "Clone").run Try.prog w = .ok (fC, pv d) w
  mS : ∀ (x : Nat) (w : World), (method (x + 1) T (pv d) "Save").run Try.prog w = .ok (fS, .pointer (some ⟨d, 0, none⟩)) w
  eK : ∀ args w, (callFunc fK args).run Try.prog w = .ok (.enter fK args) w
  eD : ∀ args w, (callFunc fD args).run Try.prog w = .ok (.enter fD args) w
  eC : ∀ args w, (callFunc fC args).run Try.prog w = .ok (.enter fC args) w
  eS : ∀ args w, (callFunc fS args).run Try.prog w = .ok (.enter fS args) w
  cK : ∀ w, Calls Try.prog fK #[pv d] w fun en w' => en = .returned (.int .i64 k) ∧ Below w.heap.size w w'
  cD : ∀ (w : World) (x : Ob) (o : OpO), St w v lo hi x → hi ≤ w.heap.size → o.Short → Calls Try.prog fD #[pv d, .agg o.cells] w fun en w' =>
    en = .returned (rv (x.act o).2.1 (x.act o).2.2) ∧ St w' v lo hi (x.act o).1 ∧ Turn (fun j => lo ≤ j ∧ j < hi) w w'
  cS : ∀ (w : World) (x : Ob), St w v lo hi x → Calls Try.prog fS #[.pointer (some ⟨d, 0, none⟩)] w fun en w' => en = .returned (.string x.save) ∧ Below w.heap.size w w'

theorem face_of {w : World} {v : Value} {lo hi : Nat} {x : Ob} (h : St w v lo hi x) : ∃ T d fK fD fC fS, Face v lo hi x.kd T d fK fD fC fS := by
  cases x with
  | doc s =>
    obtain ⟨d, rfl, h1, h2, h3, h4⟩ := h
    refine ⟨_, d, 65, 64, 63, 57, rfl, fun x w => m_dkind x d w, fun x w => m_ddo x d w, fun x w => m_dclone x d w, fun x w => m_dsave x d w,
      enters_of Try.func65 (by kernel_rfl) rfl, enters_of Try.func64 (by kernel_rfl) rfl, enters_of Try.func63 (by kernel_rfl) rfl, enters_of Try.func57 (by kernel_rfl) rfl, fun w => dkind_calls d w, fun W y o hy hh ho => ?_, fun W y hy => ?_⟩
    · cases y with
      | doc s' =>
        obtain ⟨d', e, k1, k2, k3, k4⟩ := hy
        obtain rfl : d = d' := by injection e with _ e; injection e with e; simpa using e
        by_cases hk : o.k = 1
        · refine (ddo_calls d s' o W k3 k4 hk ho).mono ?_
          rintro en w' ⟨rfl, g1, g2⟩
          rw [show (Ob.doc s').act o = (Ob.doc s').did o from if_pos hk]
          exact ⟨rfl, ⟨d, rfl, k1, k2, g1, text.do_size k4⟩, Turn.of_grown g2 ⟨k1, k2⟩⟩
        · refine (ddo_other d o W hk).mono ?_
          rintro en w' ⟨rfl, b⟩
          rw [show (Ob.doc s').act o = (.doc s', 5, ⟨#[]⟩) from if_neg hk]
          exact ⟨rfl, St.below (x := .doc s') ⟨d, rfl, k1, k2, k3, k4⟩ b hh, (Turn.of_below b (F := fun j => lo ≤ j ∧ j < hi ∧ W.heap.size ≤ j) (fun j hj e => by omega)).more (fun j _ e => ⟨e.1, e.2.1⟩)⟩
      | led D => obtain ⟨d', m, e, _⟩ := hy; exact absurd e (by intro e; injection e with e; exact absurd e (by decide))
      | sto D => obtain ⟨d', m, e, _⟩ := hy; exact absurd e (by intro e; injection e with e; exact absurd e (by decide))
    · cases y with
      | doc s' =>
        obtain ⟨d', e, k1, k2, k3, k4⟩ := hy
        obtain rfl : d = d' := by injection e with _ e; injection e with e; simpa using e
        exact text.dsave_calls d s' W k3 k4
      | led D => obtain ⟨d', m, e, _⟩ := hy; exact absurd e (by intro e; injection e with e; exact absurd e (by decide))
      | sto D => obtain ⟨d', m, e, _⟩ := hy; exact absurd e (by intro e; injection e with e; exact absurd e (by decide))
  | led D0 =>
    obtain ⟨d, m, rfl, h1, h2, _⟩ := h
    refine ⟨_, d, 103, 102, 101, 75, rfl, fun x w => m_akind x d w, fun x w => m_ado x d w, fun x w => m_aclone x d w, fun x w => m_asave x d w,
      enters_of Try.func103 (by kernel_rfl) rfl, enters_of Try.func102 (by kernel_rfl) rfl, enters_of Try.func101 (by kernel_rfl) rfl, enters_of Try.func75 (by kernel_rfl) rfl, fun w => akind_calls d w, fun W y o hy hh ho => ?_, fun W y hy => ?_⟩
    · cases y with
      | led D =>
        obtain ⟨d', m', e, k1, k2, k3, k4, k5, k6⟩ := hy
        obtain rfl : d = d' := by injection e with _ e; injection e with e; simpa using e
        by_cases hk : o.k = 2
        · refine (ado_calls d m' D o W k5 k6 hk ho).mono ?_
          rintro en w' ⟨rfl, g1, g2⟩
          rw [show (Ob.led D).act o = (Ob.led D).did o from if_pos hk]
          exact ⟨rfl, ⟨d, m', rfl, k1, k2, k3, k4, g1, invF_doO k6 _⟩, Turn.of_grown g2 ⟨k3, k4⟩⟩
        · refine (ado_other d o W hk).mono ?_
          rintro en w' ⟨rfl, b⟩
          rw [show (Ob.led D).act o = (.led D, 5, ⟨#[]⟩) from if_neg hk]
          exact ⟨rfl, St.below (x := .led D) ⟨d, m', rfl, k1, k2, k3, k4, k5, k6⟩ b hh, (Turn.of_below b (F := fun j => lo ≤ j ∧ j < hi ∧ W.heap.size ≤ j) (fun j hj e => by omega)).more (fun j _ e => ⟨e.1, e.2.1⟩)⟩
      | doc s => obtain ⟨d', e, _⟩ := hy; exact absurd e (by intro e; injection e with e; exact absurd e (by decide))
      | sto D => obtain ⟨d', m, e, _⟩ := hy; exact absurd e (by intro e; injection e with e; exact absurd e (by decide))
    · cases y with
      | led D =>
        obtain ⟨d', m', e, k1, k2, k3, k4, k5, k6⟩ := hy
        obtain rfl : d = d' := by injection e with _ e; injection e with e; simpa using e
        exact bsave_calls d m' D W k5 k6
      | doc s => obtain ⟨d', e, _⟩ := hy; exact absurd e (by intro e; injection e with e; exact absurd e (by decide))
      | sto D => obtain ⟨d', m, e, _⟩ := hy; exact absurd e (by intro e; injection e with e; exact absurd e (by decide))
  | sto D0 =>
    obtain ⟨d, m, rfl, h1, h2, _⟩ := h
    refine ⟨_, d, 118, 117, 116, 107, rfl, fun x w => m_gkind x d w, fun x w => m_gdo x d w, fun x w => m_gclone x d w, fun x w => m_gsave x d w,
      enters_of Try.func118 (by kernel_rfl) rfl, enters_of Try.func117 (by kernel_rfl) rfl, enters_of Try.func116 (by kernel_rfl) rfl, enters_of Try.func107 (by kernel_rfl) rfl, fun w => gkind_calls d w, fun W y o hy hh ho => ?_, fun W y hy => ?_⟩
    · cases y with
      | sto D =>
        obtain ⟨d', m', e, k1, k2, k3, k4, k5, k6⟩ := hy
        obtain rfl : d = d' := by injection e with _ e; injection e with e; simpa using e
        by_cases hk : o.k = 3
        · refine (gdo_calls d m' D o W k5 k6 hk ho).mono ?_
          rintro en w' ⟨rfl, g1, g2⟩
          rw [show (Ob.sto D).act o = (Ob.sto D).did o from if_pos hk]
          exact ⟨rfl, ⟨d, m', rfl, k1, k2, k3, k4, g1, stock.invS_doO k6 _⟩, Turn.of_grown g2 ⟨k3, k4⟩⟩
        · refine (gdo_other d o W hk).mono ?_
          rintro en w' ⟨rfl, b⟩
          rw [show (Ob.sto D).act o = (.sto D, 5, ⟨#[]⟩) from if_neg hk]
          exact ⟨rfl, St.below (x := .sto D) ⟨d, m', rfl, k1, k2, k3, k4, k5, k6⟩ b hh, (Turn.of_below b (F := fun j => lo ≤ j ∧ j < hi ∧ W.heap.size ≤ j) (fun j hj e => by omega)).more (fun j _ e => ⟨e.1, e.2.1⟩)⟩
      | doc s => obtain ⟨d', e, _⟩ := hy; exact absurd e (by intro e; injection e with e; exact absurd e (by decide))
      | led D => obtain ⟨d', m, e, _⟩ := hy; exact absurd e (by intro e; injection e with e; exact absurd e (by decide))
    · cases y with
      | sto D =>
        obtain ⟨d', m', e, k1, k2, k3, k4, k5, k6⟩ := hy
        obtain rfl : d = d' := by injection e with _ e; injection e with e; simpa using e
        exact stock.ssave_calls d m' D W k5 k6
      | doc s => obtain ⟨d', e, _⟩ := hy; exact absurd e (by intro e; injection e with e; exact absurd e (by decide))
      | led D => obtain ⟨d', m, e, _⟩ := hy; exact absurd e (by intro e; injection e with e; exact absurd e (by decide))

/-- A first object of a kind. -/
def first : Int → Ob := fun k => if k = 1 then .doc ⟨#[]⟩ else if k = 2 then .led D0 else .sto (.map [])

def NewPost (k : Int) (w : World) (en : Ending) (w' : World) : Prop :=
  ∃ v, en = .returned v ∧ St w' v w.heap.size w'.heap.size (first k) ∧ Below w.heap.size w w'

set_option maxRecDepth 100000 in
set_option maxHeartbeats 1000000 in
theorem onew_calls (k : Int) (w : World) (hk : k = 1 ∨ k = 2 ∨ k = 3) : Calls Try.prog 8 #[.int .i64 k] w fun en w' => NewPost k w en w' := by
  rcases hk with rfl | rfl | rfl
  · go_enter Try.func8, Try.ntmps8
    go_wp2_with fail
    refine (text.dnew_calls w).mono ?_
    rintro en w1 ⟨rfl, h1, g1⟩
    have H1 := Lib.hid h1
    have hl := h1.lt
    clear h1
    go_wp2_with fail
    go_ret
    exact ⟨_, rfl, ⟨w.heap.size, rfl, Nat.le_refl _, hl, H1.out, Nat.zero_le _⟩, below_none g1 (Nat.le_refl _)⟩
  · go_enter Try.func8, Try.ntmps8
    go_wp2_with fail
    refine (bnew_calls (H := Unit) w).mono ?_
    rintro en w1 ⟨d, m, rfl, h1, b1, hd, hm⟩
    have H1 := Lib.hid h1
    have B1 := Lib.hid b1
    clear h1 b1
    go_wp2_with fail
    go_ret
    exact ⟨_, rfl, ⟨d, m, rfl, hd, H1.out.box.lt, hm, World.ownsMap.lt H1.out.map, H1.out, invF_new⟩, B1.out⟩
  · go_enter Try.func8, Try.ntmps8
    go_wp2_with fail
    refine (stock.snew_calls (H := Unit) w).mono ?_
    rintro en w1 ⟨d, m, rfl, h1, b1, hd, hm⟩
    have H1 := Lib.hid h1
    have B1 := Lib.hid b1
    clear h1 b1
    go_wp2_with fail
    go_ret
    exact ⟨_, rfl, ⟨d, m, rfl, hd, H1.out.box.lt, hm, World.ownsMap.lt H1.out.map, H1.out, stock.invS_new⟩, B1.out⟩

end Go.Proofs.Ytndnjeahepahkaa.object
end

section
/- object: ops that are handed in, in a slice or by value (a struct of structs). -/
namespace Go.Proofs.Ytndnjeahepahkaa.object
open Go.ChangeShapes Go.WideShapes Go.ChangeAt Go.RowKit Go.Maps

/-- The elements of a slice that is handed in, as cells that read. -/
theorem opened_raw {H : Type} {enc : TypeId × Value → H} {P : Program} {w : World} {spare : Nat → Bool} {held : Bool} {t e : TypeId} {n0 : Nat}
    (ht : P.underlying t = some (.slice e)) (hC : P.cellsOf e = n0) (h0 : 0 < n0)
    {a : Option Addr} {len cap : Nat} {d : DataW H} {p : List MemPlace} (h : DataW.Trod enc P w 0 spare held t (.slice a len cap) d p) :
    len ≤ cap ∧ cap ≤ maxLen ∧ ∀ i, i < len → ∃ b o, a = some ⟨b, o, none⟩ ∧ b < w.heap.size ∧ ∃ (cs : List Value) (n : Nat) (y : DataW H × List MemPlace), cs.length = n0 ∧ DataW.trod enc P w 0 spare held n e cs = some y ∧
      ∀ j v, cs[j]? = some v → w.cell? ⟨b, o + i * n0 + j, none⟩ = some v := by
  obtain ⟨fuel, h⟩ := h
  rcases Go.Deep.open_slice ht h with ⟨hn, _⟩ | ⟨g, l, c, m, n, D, Pl, hn, _, hlc, hcm, hm, _, hall⟩
  · simp [Value.cells] at hn
    obtain ⟨rfl, rfl, rfl⟩ := hn
    exact ⟨Nat.le_refl _, Nat.zero_le _, fun i hi => absurd hi (Nat.not_lt_zero _)⟩
  · simp [Value.cells] at hn
    obtain ⟨rfl, rfl, rfl⟩ := hn
    refine ⟨hlc, hcm, fun i hi => ?_⟩
    obtain ⟨cs, hc, hd⟩ := hall i (by rw [hm]; split <;> omega)
    rw [hC] at hc
    obtain ⟨_, hcl, hat⟩ := World.cells?_some hc
    obtain ⟨gb, go, gs⟩ := g
    have hcell : ∀ j, j < n0 → ∃ v, cs[j]? = some v ∧ w.cell? (((⟨gb, go, gs⟩ : Addr).add (i * n0)).add j) = some v := fun j hj => by
      have hv : cs[j]? = some (cs[j]'(by omega)) := List.getElem?_eq_getElem (by omega)
      exact ⟨_, hv, by rw [hat j hj, hv]⟩
    have hs : gs = none := by
      obtain ⟨cs0, hc0, _⟩ := hall 0 (by rw [hm]; split <;> omega)
      rw [hC, Nat.zero_mul] at hc0
      obtain ⟨_, hcl0, hat0⟩ := World.cells?_some hc0
      have hv : cs0[0]? = some (cs0[0]'(by omega)) := List.getElem?_eq_getElem (by omega)
      have h1 := World.cell?_spot ((hat0 0 h0).trans hv)
      simpa [Addr.add] using h1
    subst hs
    have hb : gb < w.heap.size := by
      obtain ⟨v, _, hv⟩ := hcell 0 h0
      rw [Addr.add_mid, Addr.add_mid] at hv
      rcases Nat.lt_or_ge gb w.heap.size with k | k
      · exact k
      · unfold World.cell? at hv
        simp [Array.getElem?_eq_none k] at hv
    refine ⟨gb, go, rfl, hb, cs, _, _, hcl, hd, fun j v hj => ?_⟩
    have hjl : j < cs.length := (List.getElem?_eq_some_iff.1 hj).1
    obtain ⟨v', hv', hw⟩ := hcell j (by omega)
    rw [hj] at hv'
    injection hv' with hv'
    subst hv'
    rw [Addr.add_mid, Addr.add_mid] at hw
    exact hw

theorem len12 {cs : List Value} (h : cs.length = 12) : ∃ c0 c1 c2 c3 c4 c5 c6 c7 c8 c9 c10 c11, cs = [c0, c1, c2, c3, c4, c5, c6, c7, c8, c9, c10, c11] := by
  match cs, h with
  | [c0, c1, c2, c3, c4, c5, c6, c7, c8, c9, c10, c11], _ => exact ⟨c0, c1, c2, c3, c4, c5, c6, c7, c8, c9, c10, c11, rfl⟩

/-- Bounds of an op that is handed in. -/
def OpO.Fits (o : OpO) : Prop := o.t.x.size ≤ maxLen ∧ o.l.s.size ≤ maxLen ∧ o.l.t.size ≤ maxLen ∧ o.s.s.size ≤ maxLen

set_option maxRecDepth 100000 in
theorem op_of {H : Type} {enc : TypeId × Value → H} {w : World} {spare : Nat → Bool} {held : Bool} {cs : List Value} {n : Nat} {y : DataW H × List MemPlace} (hl : cs.length = 12) (h : DataW.trod enc Try.prog w 0 spare held n 35 cs = some y) :
    ∃ o : OpO, o.Fits ∧ cs = o.cells.toList := by
  obtain ⟨c0, c1, c2, c3, c4, c5, c6, c7, c8, c9, c10, c11, rfl⟩ := len12 hl
  have lt1 : ∀ {m : Nat} {t : TypeId} {l : List Value} {x : Option (DataW H × List MemPlace)} {k : Nat} {ys : List (DataW H × List MemPlace)}, DataW.trod enc Try.prog w 0 spare held m t l = ys[k]? → k < ys.length → ∃ z, DataW.trod enc Try.prog w 0 spare held m t l = some z := fun h1 h2 => ⟨_, h1.trans (List.getElem?_eq_getElem h2)⟩
  obtain ⟨xs, k, _, _, _, hxl, hf⟩ := DataW.trod_struct Try.underlying35 h
  have hxl' : xs.length = 4 := hxl
  obtain ⟨z0, t0⟩ := lt1 (x := none) (hf 0 _ rfl) (by omega)
  obtain ⟨z1, t1⟩ := lt1 (x := none) (hf 1 _ rfl) (by omega)
  obtain ⟨z2, t2⟩ := lt1 (x := none) (hf 2 _ rfl) (by omega)
  obtain ⟨z3, t3⟩ := lt1 (x := none) (hf 3 _ rfl) (by omega)
  obtain ⟨as', ka, _, _, _, hal, ha⟩ := DataW.trod_struct Try.underlying29 (cs := [c1, c2, c3, c4]) t1
  obtain ⟨bs, kb, _, _, _, hbl, hb⟩ := DataW.trod_struct Try.underlying31 (cs := [c5, c6, c7, c8]) t2
  obtain ⟨ds, kd, _, _, _, hdl, hd⟩ := DataW.trod_struct Try.underlying33 (cs := [c9, c10, c11]) t3
  have hal' : as'.length = 4 := hal
  have hbl' : bs.length = 4 := hbl
  have hdl' : ds.length = 3 := hdl
  obtain ⟨_, a0⟩ := lt1 (x := none) (ha 0 _ rfl) (by omega)
  obtain ⟨_, a1⟩ := lt1 (x := none) (ha 1 _ rfl) (by omega)
  obtain ⟨_, a2⟩ := lt1 (x := none) (ha 2 _ rfl) (by omega)
  obtain ⟨_, a3⟩ := lt1 (x := none) (ha 3 _ rfl) (by omega)
  obtain ⟨_, b0⟩ := lt1 (x := none) (hb 0 _ rfl) (by omega)
  obtain ⟨_, b1⟩ := lt1 (x := none) (hb 1 _ rfl) (by omega)
  obtain ⟨_, b2⟩ := lt1 (x := none) (hb 2 _ rfl) (by omega)
  obtain ⟨_, b3⟩ := lt1 (x := none) (hb 3 _ rfl) (by omega)
  obtain ⟨_, d0⟩ := lt1 (x := none) (hd 0 _ rfl) (by omega)
  obtain ⟨_, d1⟩ := lt1 (x := none) (hd 1 _ rfl) (by omega)
  obtain ⟨_, d2⟩ := lt1 (x := none) (hd 2 _ rfl) (by omega)
  obtain ⟨k0, e0, _, _⟩ := DataW.trod_int Try.underlying3 (show DataW.trod enc Try.prog w 0 spare held _ 3 [c0] = _ from t0)
  obtain ⟨tk, e1, _, _⟩ := DataW.trod_int Try.underlying3 (show DataW.trod enc Try.prog w 0 spare held _ 3 [c1] = _ from a0)
  obtain ⟨ta, e2, _, _⟩ := DataW.trod_int Try.underlying3 (show DataW.trod enc Try.prog w 0 spare held _ 3 [c2] = _ from a1)
  obtain ⟨tx, e3, _, hx⟩ := DataW.trod_string Try.underlying9 (show DataW.trod enc Try.prog w 0 spare held _ 9 [c3] = _ from a2)
  obtain ⟨tn, e4, _, _⟩ := DataW.trod_int Try.underlying3 (show DataW.trod enc Try.prog w 0 spare held _ 3 [c4] = _ from a3)
  obtain ⟨lk, e5, _, _⟩ := DataW.trod_int Try.underlying3 (show DataW.trod enc Try.prog w 0 spare held _ 3 [c5] = _ from b0)
  obtain ⟨ls, e6, _, hs⟩ := DataW.trod_string Try.underlying9 (show DataW.trod enc Try.prog w 0 spare held _ 9 [c6] = _ from b1)
  obtain ⟨lt, e7, _, ht⟩ := DataW.trod_string Try.underlying9 (show DataW.trod enc Try.prog w 0 spare held _ 9 [c7] = _ from b2)
  obtain ⟨ln, e8, _, _⟩ := DataW.trod_int Try.underlying3 (show DataW.trod enc Try.prog w 0 spare held _ 3 [c8] = _ from b3)
  obtain ⟨sk, e9, _, _⟩ := DataW.trod_int Try.underlying3 (show DataW.trod enc Try.prog w 0 spare held _ 3 [c9] = _ from d0)
  obtain ⟨ss, e10, _, hss⟩ := DataW.trod_string Try.underlying9 (show DataW.trod enc Try.prog w 0 spare held _ 9 [c10] = _ from d1)
  obtain ⟨sn, e11, _, _⟩ := DataW.trod_int Try.underlying3 (show DataW.trod enc Try.prog w 0 spare held _ 3 [c11] = _ from d2)
  simp only [List.cons.injEq, and_true] at e0 e1 e2 e3 e4 e5 e6 e7 e8 e9 e10 e11
  subst e0; subst e1; subst e2; subst e3; subst e4; subst e5; subst e6; subst e7; subst e8; subst e9; subst e10; subst e11
  exact ⟨⟨k0, ⟨tk, ta, tx, tn⟩, ⟨lk, ls, lt, ln⟩, ⟨sk, ss, sn⟩⟩, ⟨hx, hs, ht, hss⟩, rfl⟩

/-- A slice of ops that is handed in. -/
def ArgO (w : World) (a : Option Addr) (len : Nat) : Prop :=
  len ≤ maxLen ∧ ∀ i, i < len → ∃ b p, a = some ⟨b, p, none⟩ ∧ b < w.heap.size ∧ ∃ o : OpO, o.Fits ∧ ∀ j v, o.cells[j]? = some v → w.cell? ⟨b, p + i * 12 + j, none⟩ = some v

set_option maxRecDepth 100000 in
theorem openedO {H : Type} {enc : TypeId × Value → H} {w : World} {spare : Nat → Bool} {held : Bool} {a : Option Addr} {len cap : Nat} {d : DataW H} {p : List MemPlace} (h : DataW.Trod enc Try.prog w 0 spare held 22 (.slice a len cap) d p) : ArgO w a len := by
  obtain ⟨h1, h2, h3⟩ := opened_raw (n0 := 12) Try.underlying22 (by kernel_rfl) (by decide) h
  refine ⟨Nat.le_trans h1 h2, fun i hi => ?_⟩
  obtain ⟨b, q, e, hb, cs, n, y, hl, hd, hc⟩ := h3 i hi
  obtain ⟨o, ho, rfl⟩ := op_of hl hd
  exact ⟨b, q, e, hb, o, ho, fun j v hj => hc j v (by rw [Array.getElem?_toList]; exact hj)⟩

theorem ArgO.turn {w wr : World} {a : Option Addr} {len : Nat} (h : ArgO w a len) (t : Turn (fun j => w.heap.size ≤ j) w wr) : ArgO wr a len := by
  refine ⟨h.1, fun i hi => ?_⟩
  obtain ⟨b, q, e, hb, o, ho, hc⟩ := h.2 i hi
  exact ⟨b, q, e, Nat.lt_of_lt_of_le hb t.size, o, ho, fun j v hj => (Turn.cell t (p := ⟨b, q + i * 12 + j, none⟩) hb (fun h3 => Nat.not_lt_of_le h3 hb)).trans (hc j v hj)⟩

set_option maxRecDepth 100000 in
/-- An op that is handed in by value. -/
theorem openedV {H : Type} {enc : TypeId × Value → H} {w W : World} {spare : Nat → Bool} {held : Bool} {r : Reach} {b0 : Nat} {v : Value} {d : DataW H} {p : List MemPlace} (hw : Value.okWide Try.prog W r b0 35 v) (h : DataW.Trod enc Try.prog w 0 spare held 35 v d p) :
    ∃ o : OpO, o.Fits ∧ v = .agg o.cells := by
  obtain ⟨cs, rfl, hz⟩ := okWide_struct Try.underlying35 hw
  obtain ⟨fuel, h⟩ := h
  have hz' : cs.size = 12 := hz
  obtain ⟨o, ho, e⟩ := op_of (show cs.toList.length = 12 by simpa using hz') h
  exact ⟨o, ho, by congr 1; exact Array.toList_inj.1 e⟩

end Go.Proofs.Ytndnjeahepahkaa.object
end

section
/- object: the law's own Few, Kind; Check of another kind. -/
namespace Go.Proofs.Ytndnjeahepahkaa.object
open Go.RowKit Go.Maps

theorem set12 {w : World} {g : Nat} {t : TypeId} {cs cs2 : Array Value} (h : Has w g t cs) (i : Nat) (v : Value) (e : cs.setIfInBounds i v = cs2) : Has (w.setCell ⟨g, i, none⟩ v) g t cs2 := e ▸ Proofs.Ytndnjeahepahkaa.Has.put h i v

def zT : text.OpV := ⟨0, 0, ⟨#[]⟩, 0⟩
def zL : OpL := ⟨0, ⟨#[]⟩, ⟨#[]⟩, 0⟩
def zS : stock.OpS := ⟨0, ⟨#[]⟩, 0⟩
def fewT (t : text.OpV) : text.OpV := ⟨t.k, t.a, text.cutB t.x 45, t.n⟩
/-- Short texts, and just the op of its kind. -/
def OpO.few (o : OpO) : OpO := if o.k = 1 then ⟨1, fewT o.t, zL, zS⟩ else if o.k = 2 then ⟨2, zT, o.l.few, zS⟩ else if o.k = 3 then ⟨3, zT, zL, o.s.few⟩ else ⟨o.k, zT, zL, zS⟩
theorem OpO.few_k (o : OpO) : o.few.k = o.k := by
  unfold OpO.few
  split
  · rename_i h; exact h.symm
  · split
    · rename_i h; exact h.symm
    · split
      · rename_i h; exact h.symm
      · rfl
theorem z_short : zT.x.size ≤ maxLen ∧ zL.Short ∧ zS.Short := ⟨Nat.zero_le _, ⟨Nat.zero_le _, Nat.zero_le _⟩, Nat.zero_le _⟩
theorem OpL.few_is (o : OpL) : o.few.Short := Proofs.Ytndnjeahepahkaa.few_short o
theorem OpO.few_short (o : OpO) : o.few.Short := by
  obtain ⟨z1, z2, z3⟩ := z_short
  unfold OpO.few
  split
  · exact ⟨by have := text.cutB_size o.t.x 45; show (text.cutB o.t.x 45).size ≤ maxLen; unfold maxLen; omega, z2, z3⟩
  · split
    · exact ⟨z1, OpL.few_is o.l, z3⟩
    · split
      · exact ⟨z1, z2, stock.few_short _⟩
      · exact ⟨z1, z2, z3⟩

set_option maxHeartbeats 400000 in
theorem lkind_calls (n : Int) (w : World) : Calls Try.prog 7 #[.int .i64 n] w fun en w' => en = .returned (.int .i64 (1 + (n.tmod 3 + 3).tmod 3)) ∧ w = w' := by
  go_enter Try.func7, Try.ntmps7
  go_wp2_with fail
  go_ret
  refine ⟨?_, rfl⟩
  have e1 : wrap64 (n.tmod 3 + 3) = n.tmod 3 + 3 := by have := Int.tmod_lt_of_pos n (show (0:Int) < 3 by decide); have := Int.lt_tmod_of_pos n (show (0:Int) < 3 by decide); unfold wrap64; omega
  have e2 : wrap64 (1 + (n.tmod 3 + 3).tmod 3) = 1 + (n.tmod 3 + 3).tmod 3 := by have := Int.tmod_lt_of_pos (n.tmod 3 + 3) (show (0:Int) < 3 by decide); have := Int.lt_tmod_of_pos (n.tmod 3 + 3) (show (0:Int) < 3 by decide); unfold wrap64; omega
  show Ending.returned (.int .i64 (wrap64 (1 + (wrap64 (n.tmod 3 + 3)).tmod 3))) = _
  rw [e1, e2]

set_option maxRecDepth 100000 in
set_option maxHeartbeats 1000000 in
theorem ocheck_other (o : OpO) (k : Int) (w : World) (hk : o.k ≠ k) : Calls Try.prog 15 #[.agg o.cells, .int .i64 k] w fun en w' => en = .returned (.int .i64 5) ∧ Below w.heap.size w w' := by
  obtain ⟨k', t, l, z⟩ := o
  have hk' : (k' != k) = true := by simpa using hk
  clear hk
  unfold OpO.cells
  go_enter Try.func15, Try.ntmps15
  go_wp2_with fail
  go_ret
  exact ⟨rfl, new_box _ _⟩

set_option maxRecDepth 100000 in
set_option maxHeartbeats 1000000 in
theorem ofew1 (o : OpO) (w : World) (ho : o.Fits) (hk : o.k = 1) :
    Calls Try.prog 9 #[.agg o.cells] w fun en w' => en = .returned (.agg o.few.cells) ∧ Below w.heap.size w w' := by
  · obtain ⟨k, t, l, z⟩ := o
    obtain rfl : k = 1 := hk
    obtain ⟨hx, hs, ht, hss⟩ := ho
    have HX : Hid (t.x.size ≤ maxLen) := Lib.hid hx
    have HS : Hid (l.s.size ≤ maxLen) := Lib.hid hs
    have HT : Hid (l.t.size ≤ maxLen) := Lib.hid ht
    have HSS : Hid (z.s.size ≤ maxLen) := Lib.hid hss
    have HF : Hid ((OpO.mk 1 t l z).few = ⟨1, fewT t, zL, zS⟩) := rfl
    clear hx hs ht hss
    rw [HF.out]
    unfold OpO.cells
    go_enter Try.func9, Try.ntmps9
    go_wp2_with fail
    refine callsName (fun W hW => ?_)
    obtain ⟨p, ep⟩ : ∃ p, p = w.heap.size + 1 := ⟨_, rfl⟩
    have HQ : Hid (Has W (p + 1) 35 #[.int .i64 1, .int .i64 0, .int .i64 0, .string ⟨#[]⟩, .int .i64 0, .int .i64 0, .string ⟨#[]⟩, .string ⟨#[]⟩, .int .i64 0, .int .i64 0, .string ⟨#[]⟩, .int .i64 0]) := by
      show Has _ _ _ _
      rw [← hW, ep]
      exact made_at _ _ (by simp)
    have HP : Hid (Has W p 35 #[.int .i64 0, .int .i64 0, .int .i64 0, .string ⟨#[]⟩, .int .i64 0, .int .i64 0, .string ⟨#[]⟩, .string ⟨#[]⟩, .int .i64 0, .int .i64 0, .string ⟨#[]⟩, .int .i64 0]) := by
      show Has _ _ _ _
      rw [← hW, ep]
      exact (made_at _ _ (by simp)).alloc _
    have T0 : Hid (Turn (fun k => w.heap.size ≤ k) w W) := by
      show Turn _ _ _
      rw [← hW]
      repeat (first | exact Turn.refl _ _ | refine Turn.alloc ?_ _ | refine Turn.put ?_ (fun h => by omega) _ _)
    have hwp : w.heap.size < p := by omega
    rw [← ep]
    clear hW ep
    refine (text.few_calls t.k t.a t.n t.x W HX.out).mono ?_
    rintro en w1 ⟨rfl, b1⟩
    have HP1 := Lib.hid (HP.out.below b1 HP.out.lt)
    have HQ1 := Lib.hid (HQ.out.below b1 HQ.out.lt)
    have T1 : Hid (Turn (fun k => w.heap.size ≤ k) w w1) := Lib.hid (T0.out.trans (Turn.of_below b1 (F := fun j => W.heap.size ≤ j) (fun _ _ e => e)) (fun j _ e => Nat.le_trans T0.out.size e))
    clear b1 HP HQ T0
    have c0 : w1.cell? ⟨p + 1, 0, none⟩ = some (.int .i64 1) := HQ1.out.cell 0
    have f0 : w1.frozen? ⟨p + 1, 0, none⟩ = false := HQ1.out.free 0
    have y0 : w1.cell? ⟨p, 0, none⟩ = some (.int .i64 0) := HP1.out.cell 0
    have g0 : w1.frozen? ⟨p, 0, none⟩ = false := HP1.out.free 0
    have c1 : w1.cell? ⟨p + 1, 1, none⟩ = some (.int .i64 0) := HQ1.out.cell 1
    have f1 : w1.frozen? ⟨p + 1, 1, none⟩ = false := HQ1.out.free 1
    have y1 : w1.cell? ⟨p, 1, none⟩ = some (.int .i64 0) := HP1.out.cell 1
    have g1 : w1.frozen? ⟨p, 1, none⟩ = false := HP1.out.free 1
    have c2 : w1.cell? ⟨p + 1, 2, none⟩ = some (.int .i64 0) := HQ1.out.cell 2
    have f2 : w1.frozen? ⟨p + 1, 2, none⟩ = false := HQ1.out.free 2
    have y2 : w1.cell? ⟨p, 2, none⟩ = some (.int .i64 0) := HP1.out.cell 2
    have g2 : w1.frozen? ⟨p, 2, none⟩ = false := HP1.out.free 2
    have c3 : w1.cell? ⟨p + 1, 3, none⟩ = some (.string ⟨#[]⟩) := HQ1.out.cell 3
    have f3 : w1.frozen? ⟨p + 1, 3, none⟩ = false := HQ1.out.free 3
    have y3 : w1.cell? ⟨p, 3, none⟩ = some (.string ⟨#[]⟩) := HP1.out.cell 3
    have g3 : w1.frozen? ⟨p, 3, none⟩ = false := HP1.out.free 3
    have c4 : w1.cell? ⟨p + 1, 4, none⟩ = some (.int .i64 0) := HQ1.out.cell 4
    have f4 : w1.frozen? ⟨p + 1, 4, none⟩ = false := HQ1.out.free 4
    have y4 : w1.cell? ⟨p, 4, none⟩ = some (.int .i64 0) := HP1.out.cell 4
    have g4 : w1.frozen? ⟨p, 4, none⟩ = false := HP1.out.free 4
    have c5 : w1.cell? ⟨p + 1, 5, none⟩ = some (.int .i64 0) := HQ1.out.cell 5
    have f5 : w1.frozen? ⟨p + 1, 5, none⟩ = false := HQ1.out.free 5
    have y5 : w1.cell? ⟨p, 5, none⟩ = some (.int .i64 0) := HP1.out.cell 5
    have g5 : w1.frozen? ⟨p, 5, none⟩ = false := HP1.out.free 5
    have c6 : w1.cell? ⟨p + 1, 6, none⟩ = some (.string ⟨#[]⟩) := HQ1.out.cell 6
    have f6 : w1.frozen? ⟨p + 1, 6, none⟩ = false := HQ1.out.free 6
    have y6 : w1.cell? ⟨p, 6, none⟩ = some (.string ⟨#[]⟩) := HP1.out.cell 6
    have g6 : w1.frozen? ⟨p, 6, none⟩ = false := HP1.out.free 6
    have c7 : w1.cell? ⟨p + 1, 7, none⟩ = some (.string ⟨#[]⟩) := HQ1.out.cell 7
    have f7 : w1.frozen? ⟨p + 1, 7, none⟩ = false := HQ1.out.free 7
    have y7 : w1.cell? ⟨p, 7, none⟩ = some (.string ⟨#[]⟩) := HP1.out.cell 7
    have g7 : w1.frozen? ⟨p, 7, none⟩ = false := HP1.out.free 7
    have c8 : w1.cell? ⟨p + 1, 8, none⟩ = some (.int .i64 0) := HQ1.out.cell 8
    have f8 : w1.frozen? ⟨p + 1, 8, none⟩ = false := HQ1.out.free 8
    have y8 : w1.cell? ⟨p, 8, none⟩ = some (.int .i64 0) := HP1.out.cell 8
    have g8 : w1.frozen? ⟨p, 8, none⟩ = false := HP1.out.free 8
    have c9 : w1.cell? ⟨p + 1, 9, none⟩ = some (.int .i64 0) := HQ1.out.cell 9
    have f9 : w1.frozen? ⟨p + 1, 9, none⟩ = false := HQ1.out.free 9
    have y9 : w1.cell? ⟨p, 9, none⟩ = some (.int .i64 0) := HP1.out.cell 9
    have g9 : w1.frozen? ⟨p, 9, none⟩ = false := HP1.out.free 9
    have c10 : w1.cell? ⟨p + 1, 10, none⟩ = some (.string ⟨#[]⟩) := HQ1.out.cell 10
    have f10 : w1.frozen? ⟨p + 1, 10, none⟩ = false := HQ1.out.free 10
    have y10 : w1.cell? ⟨p, 10, none⟩ = some (.string ⟨#[]⟩) := HP1.out.cell 10
    have g10 : w1.frozen? ⟨p, 10, none⟩ = false := HP1.out.free 10
    have c11 : w1.cell? ⟨p + 1, 11, none⟩ = some (.int .i64 0) := HQ1.out.cell 11
    have f11 : w1.frozen? ⟨p + 1, 11, none⟩ = false := HQ1.out.free 11
    have y11 : w1.cell? ⟨p, 11, none⟩ = some (.int .i64 0) := HP1.out.cell 11
    have g11 : w1.frozen? ⟨p, 11, none⟩ = false := HP1.out.free 11
    go_wp2_with fail
    have E3 : Has ((((((((((((((((w1.setCell ⟨p + 1, 1, none⟩ (.int .i64 t.k)).setCell ⟨p + 1, 2, none⟩ (.int .i64 t.a)).setCell ⟨p + 1, 3, none⟩ (.string (text.cutB t.x 45))).setCell ⟨p + 1, 4, none⟩ (.int .i64 t.n)).setCell ⟨p, 0, none⟩ (.int .i64 1)).setCell ⟨p, 1, none⟩ (.int .i64 t.k)).setCell ⟨p, 2, none⟩ (.int .i64 t.a)).setCell ⟨p, 3, none⟩ (.string (text.cutB t.x 45))).setCell ⟨p, 4, none⟩ (.int .i64 t.n)).setCell ⟨p, 5, none⟩ (.int .i64 0)).setCell ⟨p, 6, none⟩ (.string ⟨#[]⟩)).setCell ⟨p, 7, none⟩ (.string ⟨#[]⟩)).setCell ⟨p, 8, none⟩ (.int .i64 0)).setCell ⟨p, 9, none⟩ (.int .i64 0)).setCell ⟨p, 10, none⟩ (.string ⟨#[]⟩)).setCell ⟨p, 11, none⟩ (.int .i64 0)) p 35 #[.int .i64 1, .int .i64 t.k, .int .i64 t.a, .string (text.cutB t.x 45), .int .i64 t.n, .int .i64 0, .string ⟨#[]⟩, .string ⟨#[]⟩, .int .i64 0, .int .i64 0, .string ⟨#[]⟩, .int .i64 0] := (set12 (set12 (set12 (set12 (set12 (set12 (set12 (set12 (set12 (set12 (set12 (set12 (Has.far (Has.far (Has.far (Has.far HP1.out (p := ⟨p + 1, 1, none⟩) (Nat.succ_ne_self p).symm (.int .i64 t.k)) (p := ⟨p + 1, 2, none⟩) (Nat.succ_ne_self p).symm (.int .i64 t.a)) (p := ⟨p + 1, 3, none⟩) (Nat.succ_ne_self p).symm (.string (text.cutB t.x 45))) (p := ⟨p + 1, 4, none⟩) (Nat.succ_ne_self p).symm (.int .i64 t.n)) 0 (.int .i64 1) (cs2 := #[.int .i64 1, .int .i64 0, .int .i64 0, .string ⟨#[]⟩, .int .i64 0, .int .i64 0, .string ⟨#[]⟩, .string ⟨#[]⟩, .int .i64 0, .int .i64 0, .string ⟨#[]⟩, .int .i64 0]) rfl) 1 (.int .i64 t.k) (cs2 := #[.int .i64 1, .int .i64 t.k, .int .i64 0, .string ⟨#[]⟩, .int .i64 0, .int .i64 0, .string ⟨#[]⟩, .string ⟨#[]⟩, .int .i64 0, .int .i64 0, .string ⟨#[]⟩, .int .i64 0]) rfl) 2 (.int .i64 t.a) (cs2 := #[.int .i64 1, .int .i64 t.k, .int .i64 t.a, .string ⟨#[]⟩, .int .i64 0, .int .i64 0, .string ⟨#[]⟩, .string ⟨#[]⟩, .int .i64 0, .int .i64 0, .string ⟨#[]⟩, .int .i64 0]) rfl) 3 (.string (text.cutB t.x 45)) (cs2 := #[.int .i64 1, .int .i64 t.k, .int .i64 t.a, .string (text.cutB t.x 45), .int .i64 0, .int .i64 0, .string ⟨#[]⟩, .string ⟨#[]⟩, .int .i64 0, .int .i64 0, .string ⟨#[]⟩, .int .i64 0]) rfl) 4 (.int .i64 t.n) (cs2 := #[.int .i64 1, .int .i64 t.k, .int .i64 t.a, .string (text.cutB t.x 45), .int .i64 t.n, .int .i64 0, .string ⟨#[]⟩, .string ⟨#[]⟩, .int .i64 0, .int .i64 0, .string ⟨#[]⟩, .int .i64 0]) rfl) 5 (.int .i64 0) (cs2 := #[.int .i64 1, .int .i64 t.k, .int .i64 t.a, .string (text.cutB t.x 45), .int .i64 t.n, .int .i64 0, .string ⟨#[]⟩, .string ⟨#[]⟩, .int .i64 0, .int .i64 0, .string ⟨#[]⟩, .int .i64 0]) rfl) 6 (.string ⟨#[]⟩) (cs2 := #[.int .i64 1, .int .i64 t.k, .int .i64 t.a, .string (text.cutB t.x 45), .int .i64 t.n, .int .i64 0, .string ⟨#[]⟩, .string ⟨#[]⟩, .int .i64 0, .int .i64 0, .string ⟨#[]⟩, .int .i64 0]) rfl) 7 (.string ⟨#[]⟩) (cs2 := #[.int .i64 1, .int .i64 t.k, .int .i64 t.a, .string (text.cutB t.x 45), .int .i64 t.n, .int .i64 0, .string ⟨#[]⟩, .string ⟨#[]⟩, .int .i64 0, .int .i64 0, .string ⟨#[]⟩, .int .i64 0]) rfl) 8 (.int .i64 0) (cs2 := #[.int .i64 1, .int .i64 t.k, .int .i64 t.a, .string (text.cutB t.x 45), .int .i64 t.n, .int .i64 0, .string ⟨#[]⟩, .string ⟨#[]⟩, .int .i64 0, .int .i64 0, .string ⟨#[]⟩, .int .i64 0]) rfl) 9 (.int .i64 0) (cs2 := #[.int .i64 1, .int .i64 t.k, .int .i64 t.a, .string (text.cutB t.x 45), .int .i64 t.n, .int .i64 0, .string ⟨#[]⟩, .string ⟨#[]⟩, .int .i64 0, .int .i64 0, .string ⟨#[]⟩, .int .i64 0]) rfl) 10 (.string ⟨#[]⟩) (cs2 := #[.int .i64 1, .int .i64 t.k, .int .i64 t.a, .string (text.cutB t.x 45), .int .i64 t.n, .int .i64 0, .string ⟨#[]⟩, .string ⟨#[]⟩, .int .i64 0, .int .i64 0, .string ⟨#[]⟩, .int .i64 0]) rfl) 11 (.int .i64 0) (cs2 := #[.int .i64 1, .int .i64 t.k, .int .i64 t.a, .string (text.cutB t.x 45), .int .i64 t.n, .int .i64 0, .string ⟨#[]⟩, .string ⟨#[]⟩, .int .i64 0, .int .i64 0, .string ⟨#[]⟩, .int .i64 0]) rfl)
    have T3 : Hid (Turn (fun k => w.heap.size ≤ k) w ((((((((((((((((w1.setCell ⟨p + 1, 1, none⟩ (.int .i64 t.k)).setCell ⟨p + 1, 2, none⟩ (.int .i64 t.a)).setCell ⟨p + 1, 3, none⟩ (.string (text.cutB t.x 45))).setCell ⟨p + 1, 4, none⟩ (.int .i64 t.n)).setCell ⟨p, 0, none⟩ (.int .i64 1)).setCell ⟨p, 1, none⟩ (.int .i64 t.k)).setCell ⟨p, 2, none⟩ (.int .i64 t.a)).setCell ⟨p, 3, none⟩ (.string (text.cutB t.x 45))).setCell ⟨p, 4, none⟩ (.int .i64 t.n)).setCell ⟨p, 5, none⟩ (.int .i64 0)).setCell ⟨p, 6, none⟩ (.string ⟨#[]⟩)).setCell ⟨p, 7, none⟩ (.string ⟨#[]⟩)).setCell ⟨p, 8, none⟩ (.int .i64 0)).setCell ⟨p, 9, none⟩ (.int .i64 0)).setCell ⟨p, 10, none⟩ (.string ⟨#[]⟩)).setCell ⟨p, 11, none⟩ (.int .i64 0))) := (Turn.put (Turn.put (Turn.put (Turn.put (Turn.put (Turn.put (Turn.put (Turn.put (Turn.put (Turn.put (Turn.put (Turn.put (Turn.put (Turn.put (Turn.put (Turn.put T1.out (fun h => by omega) _ _) (fun h => by omega) _ _) (fun h => by omega) _ _) (fun h => by omega) _ _) (fun h => by omega) _ _) (fun h => by omega) _ _) (fun h => by omega) _ _) (fun h => by omega) _ _) (fun h => by omega) _ _) (fun h => by omega) _ _) (fun h => by omega) _ _) (fun h => by omega) _ _) (fun h => by omega) _ _) (fun h => by omega) _ _) (fun h => by omega) _ _) (fun h => by omega) _ _)
    generalize ((((((((((((((((w1.setCell ⟨p + 1, 1, none⟩ (.int .i64 t.k)).setCell ⟨p + 1, 2, none⟩ (.int .i64 t.a)).setCell ⟨p + 1, 3, none⟩ (.string (text.cutB t.x 45))).setCell ⟨p + 1, 4, none⟩ (.int .i64 t.n)).setCell ⟨p, 0, none⟩ (.int .i64 1)).setCell ⟨p, 1, none⟩ (.int .i64 t.k)).setCell ⟨p, 2, none⟩ (.int .i64 t.a)).setCell ⟨p, 3, none⟩ (.string (text.cutB t.x 45))).setCell ⟨p, 4, none⟩ (.int .i64 t.n)).setCell ⟨p, 5, none⟩ (.int .i64 0)).setCell ⟨p, 6, none⟩ (.string ⟨#[]⟩)).setCell ⟨p, 7, none⟩ (.string ⟨#[]⟩)).setCell ⟨p, 8, none⟩ (.int .i64 0)).setCell ⟨p, 9, none⟩ (.int .i64 0)).setCell ⟨p, 10, none⟩ (.string ⟨#[]⟩)).setCell ⟨p, 11, none⟩ (.int .i64 0)) = W2 at *
    have w100 : W2.cell? ⟨p, 0, none⟩ = some (.int .i64 1) := E3.cell 0
    have w101 : W2.cell? ⟨p, 1, none⟩ = some (.int .i64 t.k) := E3.cell 1
    have w102 : W2.cell? ⟨p, 2, none⟩ = some (.int .i64 t.a) := E3.cell 2
    have w103 : W2.cell? ⟨p, 3, none⟩ = some (.string (text.cutB t.x 45)) := E3.cell 3
    have w104 : W2.cell? ⟨p, 4, none⟩ = some (.int .i64 t.n) := E3.cell 4
    have w105 : W2.cell? ⟨p, 5, none⟩ = some (.int .i64 0) := E3.cell 5
    have w106 : W2.cell? ⟨p, 6, none⟩ = some (.string ⟨#[]⟩) := E3.cell 6
    have w107 : W2.cell? ⟨p, 7, none⟩ = some (.string ⟨#[]⟩) := E3.cell 7
    have w108 : W2.cell? ⟨p, 8, none⟩ = some (.int .i64 0) := E3.cell 8
    have w109 : W2.cell? ⟨p, 9, none⟩ = some (.int .i64 0) := E3.cell 9
    have w110 : W2.cell? ⟨p, 10, none⟩ = some (.string ⟨#[]⟩) := E3.cell 10
    have w111 : W2.cell? ⟨p, 11, none⟩ = some (.int .i64 0) := E3.cell 11
    exact bodyPost_ret (v := .agg #[.int .i64 1, .int .i64 t.k, .int .i64 t.a, .string (text.cutB t.x 45), .int .i64 t.n, .int .i64 0, .string ⟨#[]⟩, .string ⟨#[]⟩, .int .i64 0, .int .i64 0, .string ⟨#[]⟩, .int .i64 0]) (by simp [results, Try.results9, go_sem, w100, w101, w102, w103, w104, w105, w106, w107, w108, w109, w110, w111]) rfl ⟨rfl, turn_box T3.out⟩

set_option maxRecDepth 100000 in
set_option maxHeartbeats 1000000 in
theorem ofew2 (o : OpO) (w : World) (ho : o.Fits) (hk : o.k = 2) :
    Calls Try.prog 9 #[.agg o.cells] w fun en w' => en = .returned (.agg o.few.cells) ∧ Below w.heap.size w w' := by
  · obtain ⟨k, t, l, z⟩ := o
    obtain rfl : k = 2 := hk
    obtain ⟨hx, hs, ht, hss⟩ := ho
    have HX : Hid (t.x.size ≤ maxLen) := Lib.hid hx
    have HS : Hid (l.s.size ≤ maxLen) := Lib.hid hs
    have HT : Hid (l.t.size ≤ maxLen) := Lib.hid ht
    have HSS : Hid (z.s.size ≤ maxLen) := Lib.hid hss
    have HF : Hid ((OpO.mk 2 t l z).few = ⟨2, zT, l.few, zS⟩) := rfl
    clear hx hs ht hss
    rw [HF.out]
    unfold OpO.cells
    go_enter Try.func9, Try.ntmps9
    go_wp2_with fail
    refine callsName (fun W hW => ?_)
    obtain ⟨p, ep⟩ : ∃ p, p = w.heap.size + 1 := ⟨_, rfl⟩
    have HQ : Hid (Has W (p + 1) 35 #[.int .i64 2, .int .i64 0, .int .i64 0, .string ⟨#[]⟩, .int .i64 0, .int .i64 0, .string ⟨#[]⟩, .string ⟨#[]⟩, .int .i64 0, .int .i64 0, .string ⟨#[]⟩, .int .i64 0]) := by
      show Has _ _ _ _
      rw [← hW, ep]
      exact made_at _ _ (by simp)
    have HP : Hid (Has W p 35 #[.int .i64 0, .int .i64 0, .int .i64 0, .string ⟨#[]⟩, .int .i64 0, .int .i64 0, .string ⟨#[]⟩, .string ⟨#[]⟩, .int .i64 0, .int .i64 0, .string ⟨#[]⟩, .int .i64 0]) := by
      show Has _ _ _ _
      rw [← hW, ep]
      exact (made_at _ _ (by simp)).alloc _
    have T0 : Hid (Turn (fun k => w.heap.size ≤ k) w W) := by
      show Turn _ _ _
      rw [← hW]
      repeat (first | exact Turn.refl _ _ | refine Turn.alloc ?_ _ | refine Turn.put ?_ (fun h => by omega) _ _)
    have hwp : w.heap.size < p := by omega
    rw [← ep]
    clear hW ep
    refine (lfew_any l W HS.out HT.out).mono ?_
    rintro en w1 ⟨rfl, b1⟩
    have HP1 := Lib.hid (HP.out.below b1 HP.out.lt)
    have HQ1 := Lib.hid (HQ.out.below b1 HQ.out.lt)
    have T1 : Hid (Turn (fun k => w.heap.size ≤ k) w w1) := Lib.hid (T0.out.trans (Turn.of_below b1 (F := fun j => W.heap.size ≤ j) (fun _ _ e => e)) (fun j _ e => Nat.le_trans T0.out.size e))
    clear b1 HP HQ T0
    have c0 : w1.cell? ⟨p + 1, 0, none⟩ = some (.int .i64 2) := HQ1.out.cell 0
    have f0 : w1.frozen? ⟨p + 1, 0, none⟩ = false := HQ1.out.free 0
    have y0 : w1.cell? ⟨p, 0, none⟩ = some (.int .i64 0) := HP1.out.cell 0
    have g0 : w1.frozen? ⟨p, 0, none⟩ = false := HP1.out.free 0
    have c1 : w1.cell? ⟨p + 1, 1, none⟩ = some (.int .i64 0) := HQ1.out.cell 1
    have f1 : w1.frozen? ⟨p + 1, 1, none⟩ = false := HQ1.out.free 1
    have y1 : w1.cell? ⟨p, 1, none⟩ = some (.int .i64 0) := HP1.out.cell 1
    have g1 : w1.frozen? ⟨p, 1, none⟩ = false := HP1.out.free 1
    have c2 : w1.cell? ⟨p + 1, 2, none⟩ = some (.int .i64 0) := HQ1.out.cell 2
    have f2 : w1.frozen? ⟨p + 1, 2, none⟩ = false := HQ1.out.free 2
    have y2 : w1.cell? ⟨p, 2, none⟩ = some (.int .i64 0) := HP1.out.cell 2
    have g2 : w1.frozen? ⟨p, 2, none⟩ = false := HP1.out.free 2
    have c3 : w1.cell? ⟨p + 1, 3, none⟩ = some (.string ⟨#[]⟩) := HQ1.out.cell 3
    have f3 : w1.frozen? ⟨p + 1, 3, none⟩ = false := HQ1.out.free 3
    have y3 : w1.cell? ⟨p, 3, none⟩ = some (.string ⟨#[]⟩) := HP1.out.cell 3
    have g3 : w1.frozen? ⟨p, 3, none⟩ = false := HP1.out.free 3
    have c4 : w1.cell? ⟨p + 1, 4, none⟩ = some (.int .i64 0) := HQ1.out.cell 4
    have f4 : w1.frozen? ⟨p + 1, 4, none⟩ = false := HQ1.out.free 4
    have y4 : w1.cell? ⟨p, 4, none⟩ = some (.int .i64 0) := HP1.out.cell 4
    have g4 : w1.frozen? ⟨p, 4, none⟩ = false := HP1.out.free 4
    have c5 : w1.cell? ⟨p + 1, 5, none⟩ = some (.int .i64 0) := HQ1.out.cell 5
    have f5 : w1.frozen? ⟨p + 1, 5, none⟩ = false := HQ1.out.free 5
    have y5 : w1.cell? ⟨p, 5, none⟩ = some (.int .i64 0) := HP1.out.cell 5
    have g5 : w1.frozen? ⟨p, 5, none⟩ = false := HP1.out.free 5
    have c6 : w1.cell? ⟨p + 1, 6, none⟩ = some (.string ⟨#[]⟩) := HQ1.out.cell 6
    have f6 : w1.frozen? ⟨p + 1, 6, none⟩ = false := HQ1.out.free 6
    have y6 : w1.cell? ⟨p, 6, none⟩ = some (.string ⟨#[]⟩) := HP1.out.cell 6
    have g6 : w1.frozen? ⟨p, 6, none⟩ = false := HP1.out.free 6
    have c7 : w1.cell? ⟨p + 1, 7, none⟩ = some (.string ⟨#[]⟩) := HQ1.out.cell 7
    have f7 : w1.frozen? ⟨p + 1, 7, none⟩ = false := HQ1.out.free 7
    have y7 : w1.cell? ⟨p, 7, none⟩ = some (.string ⟨#[]⟩) := HP1.out.cell 7
    have g7 : w1.frozen? ⟨p, 7, none⟩ = false := HP1.out.free 7
    have c8 : w1.cell? ⟨p + 1, 8, none⟩ = some (.int .i64 0) := HQ1.out.cell 8
    have f8 : w1.frozen? ⟨p + 1, 8, none⟩ = false := HQ1.out.free 8
    have y8 : w1.cell? ⟨p, 8, none⟩ = some (.int .i64 0) := HP1.out.cell 8
    have g8 : w1.frozen? ⟨p, 8, none⟩ = false := HP1.out.free 8
    have c9 : w1.cell? ⟨p + 1, 9, none⟩ = some (.int .i64 0) := HQ1.out.cell 9
    have f9 : w1.frozen? ⟨p + 1, 9, none⟩ = false := HQ1.out.free 9
    have y9 : w1.cell? ⟨p, 9, none⟩ = some (.int .i64 0) := HP1.out.cell 9
    have g9 : w1.frozen? ⟨p, 9, none⟩ = false := HP1.out.free 9
    have c10 : w1.cell? ⟨p + 1, 10, none⟩ = some (.string ⟨#[]⟩) := HQ1.out.cell 10
    have f10 : w1.frozen? ⟨p + 1, 10, none⟩ = false := HQ1.out.free 10
    have y10 : w1.cell? ⟨p, 10, none⟩ = some (.string ⟨#[]⟩) := HP1.out.cell 10
    have g10 : w1.frozen? ⟨p, 10, none⟩ = false := HP1.out.free 10
    have c11 : w1.cell? ⟨p + 1, 11, none⟩ = some (.int .i64 0) := HQ1.out.cell 11
    have f11 : w1.frozen? ⟨p + 1, 11, none⟩ = false := HQ1.out.free 11
    have y11 : w1.cell? ⟨p, 11, none⟩ = some (.int .i64 0) := HP1.out.cell 11
    have g11 : w1.frozen? ⟨p, 11, none⟩ = false := HP1.out.free 11
    go_wp2_with fail
    have E3 : Has ((((((((((((((((w1.setCell ⟨p + 1, 5, none⟩ (.int .i64 l.few.k)).setCell ⟨p + 1, 6, none⟩ (.string l.few.s)).setCell ⟨p + 1, 7, none⟩ (.string l.few.t)).setCell ⟨p + 1, 8, none⟩ (.int .i64 l.few.n)).setCell ⟨p, 0, none⟩ (.int .i64 2)).setCell ⟨p, 1, none⟩ (.int .i64 0)).setCell ⟨p, 2, none⟩ (.int .i64 0)).setCell ⟨p, 3, none⟩ (.string ⟨#[]⟩)).setCell ⟨p, 4, none⟩ (.int .i64 0)).setCell ⟨p, 5, none⟩ (.int .i64 l.few.k)).setCell ⟨p, 6, none⟩ (.string l.few.s)).setCell ⟨p, 7, none⟩ (.string l.few.t)).setCell ⟨p, 8, none⟩ (.int .i64 l.few.n)).setCell ⟨p, 9, none⟩ (.int .i64 0)).setCell ⟨p, 10, none⟩ (.string ⟨#[]⟩)).setCell ⟨p, 11, none⟩ (.int .i64 0)) p 35 #[.int .i64 2, .int .i64 0, .int .i64 0, .string ⟨#[]⟩, .int .i64 0, .int .i64 l.few.k, .string l.few.s, .string l.few.t, .int .i64 l.few.n, .int .i64 0, .string ⟨#[]⟩, .int .i64 0] := (set12 (set12 (set12 (set12 (set12 (set12 (set12 (set12 (set12 (set12 (set12 (set12 (Has.far (Has.far (Has.far (Has.far HP1.out (p := ⟨p + 1, 5, none⟩) (Nat.succ_ne_self p).symm (.int .i64 l.few.k)) (p := ⟨p + 1, 6, none⟩) (Nat.succ_ne_self p).symm (.string l.few.s)) (p := ⟨p + 1, 7, none⟩) (Nat.succ_ne_self p).symm (.string l.few.t)) (p := ⟨p + 1, 8, none⟩) (Nat.succ_ne_self p).symm (.int .i64 l.few.n)) 0 (.int .i64 2) (cs2 := #[.int .i64 2, .int .i64 0, .int .i64 0, .string ⟨#[]⟩, .int .i64 0, .int .i64 0, .string ⟨#[]⟩, .string ⟨#[]⟩, .int .i64 0, .int .i64 0, .string ⟨#[]⟩, .int .i64 0]) rfl) 1 (.int .i64 0) (cs2 := #[.int .i64 2, .int .i64 0, .int .i64 0, .string ⟨#[]⟩, .int .i64 0, .int .i64 0, .string ⟨#[]⟩, .string ⟨#[]⟩, .int .i64 0, .int .i64 0, .string ⟨#[]⟩, .int .i64 0]) rfl) 2 (.int .i64 0) (cs2 := #[.int .i64 2, .int .i64 0, .int .i64 0, .string ⟨#[]⟩, .int .i64 0, .int .i64 0, .string ⟨#[]⟩, .string ⟨#[]⟩, .int .i64 0, .int .i64 0, .string ⟨#[]⟩, .int .i64 0]) rfl) 3 (.string ⟨#[]⟩) (cs2 := #[.int .i64 2, .int .i64 0, .int .i64 0, .string ⟨#[]⟩, .int .i64 0, .int .i64 0, .string ⟨#[]⟩, .string ⟨#[]⟩, .int .i64 0, .int .i64 0, .string ⟨#[]⟩, .int .i64 0]) rfl) 4 (.int .i64 0) (cs2 := #[.int .i64 2, .int .i64 0, .int .i64 0, .string ⟨#[]⟩, .int .i64 0, .int .i64 0, .string ⟨#[]⟩, .string ⟨#[]⟩, .int .i64 0, .int .i64 0, .string ⟨#[]⟩, .int .i64 0]) rfl) 5 (.int .i64 l.few.k) (cs2 := #[.int .i64 2, .int .i64 0, .int .i64 0, .string ⟨#[]⟩, .int .i64 0, .int .i64 l.few.k, .string ⟨#[]⟩, .string ⟨#[]⟩, .int .i64 0, .int .i64 0, .string ⟨#[]⟩, .int .i64 0]) rfl) 6 (.string l.few.s) (cs2 := #[.int .i64 2, .int .i64 0, .int .i64 0, .string ⟨#[]⟩, .int .i64 0, .int .i64 l.few.k, .string l.few.s, .string ⟨#[]⟩, .int .i64 0, .int .i64 0, .string ⟨#[]⟩, .int .i64 0]) rfl) 7 (.string l.few.t) (cs2 := #[.int .i64 2, .int .i64 0, .int .i64 0, .string ⟨#[]⟩, .int .i64 0, .int .i64 l.few.k, .string l.few.s, .string l.few.t, .int .i64 0, .int .i64 0, .string ⟨#[]⟩, .int .i64 0]) rfl) 8 (.int .i64 l.few.n) (cs2 := #[.int .i64 2, .int .i64 0, .int .i64 0, .string ⟨#[]⟩, .int .i64 0, .int .i64 l.few.k, .string l.few.s, .string l.few.t, .int .i64 l.few.n, .int .i64 0, .string ⟨#[]⟩, .int .i64 0]) rfl) 9 (.int .i64 0) (cs2 := #[.int .i64 2, .int .i64 0, .int .i64 0, .string ⟨#[]⟩, .int .i64 0, .int .i64 l.few.k, .string l.few.s, .string l.few.t, .int .i64 l.few.n, .int .i64 0, .string ⟨#[]⟩, .int .i64 0]) rfl) 10 (.string ⟨#[]⟩) (cs2 := #[.int .i64 2, .int .i64 0, .int .i64 0, .string ⟨#[]⟩, .int .i64 0, .int .i64 l.few.k, .string l.few.s, .string l.few.t, .int .i64 l.few.n, .int .i64 0, .string ⟨#[]⟩, .int .i64 0]) rfl) 11 (.int .i64 0) (cs2 := #[.int .i64 2, .int .i64 0, .int .i64 0, .string ⟨#[]⟩, .int .i64 0, .int .i64 l.few.k, .string l.few.s, .string l.few.t, .int .i64 l.few.n, .int .i64 0, .string ⟨#[]⟩, .int .i64 0]) rfl)
    have T3 : Hid (Turn (fun k => w.heap.size ≤ k) w ((((((((((((((((w1.setCell ⟨p + 1, 5, none⟩ (.int .i64 l.few.k)).setCell ⟨p + 1, 6, none⟩ (.string l.few.s)).setCell ⟨p + 1, 7, none⟩ (.string l.few.t)).setCell ⟨p + 1, 8, none⟩ (.int .i64 l.few.n)).setCell ⟨p, 0, none⟩ (.int .i64 2)).setCell ⟨p, 1, none⟩ (.int .i64 0)).setCell ⟨p, 2, none⟩ (.int .i64 0)).setCell ⟨p, 3, none⟩ (.string ⟨#[]⟩)).setCell ⟨p, 4, none⟩ (.int .i64 0)).setCell ⟨p, 5, none⟩ (.int .i64 l.few.k)).setCell ⟨p, 6, none⟩ (.string l.few.s)).setCell ⟨p, 7, none⟩ (.string l.few.t)).setCell ⟨p, 8, none⟩ (.int .i64 l.few.n)).setCell ⟨p, 9, none⟩ (.int .i64 0)).setCell ⟨p, 10, none⟩ (.string ⟨#[]⟩)).setCell ⟨p, 11, none⟩ (.int .i64 0))) := (Turn.put (Turn.put (Turn.put (Turn.put (Turn.put (Turn.put (Turn.put (Turn.put (Turn.put (Turn.put (Turn.put (Turn.put (Turn.put (Turn.put (Turn.put (Turn.put T1.out (fun h => by omega) _ _) (fun h => by omega) _ _) (fun h => by omega) _ _) (fun h => by omega) _ _) (fun h => by omega) _ _) (fun h => by omega) _ _) (fun h => by omega) _ _) (fun h => by omega) _ _) (fun h => by omega) _ _) (fun h => by omega) _ _) (fun h => by omega) _ _) (fun h => by omega) _ _) (fun h => by omega) _ _) (fun h => by omega) _ _) (fun h => by omega) _ _) (fun h => by omega) _ _)
    generalize ((((((((((((((((w1.setCell ⟨p + 1, 5, none⟩ (.int .i64 l.few.k)).setCell ⟨p + 1, 6, none⟩ (.string l.few.s)).setCell ⟨p + 1, 7, none⟩ (.string l.few.t)).setCell ⟨p + 1, 8, none⟩ (.int .i64 l.few.n)).setCell ⟨p, 0, none⟩ (.int .i64 2)).setCell ⟨p, 1, none⟩ (.int .i64 0)).setCell ⟨p, 2, none⟩ (.int .i64 0)).setCell ⟨p, 3, none⟩ (.string ⟨#[]⟩)).setCell ⟨p, 4, none⟩ (.int .i64 0)).setCell ⟨p, 5, none⟩ (.int .i64 l.few.k)).setCell ⟨p, 6, none⟩ (.string l.few.s)).setCell ⟨p, 7, none⟩ (.string l.few.t)).setCell ⟨p, 8, none⟩ (.int .i64 l.few.n)).setCell ⟨p, 9, none⟩ (.int .i64 0)).setCell ⟨p, 10, none⟩ (.string ⟨#[]⟩)).setCell ⟨p, 11, none⟩ (.int .i64 0)) = W2 at *
    have w100 : W2.cell? ⟨p, 0, none⟩ = some (.int .i64 2) := E3.cell 0
    have w101 : W2.cell? ⟨p, 1, none⟩ = some (.int .i64 0) := E3.cell 1
    have w102 : W2.cell? ⟨p, 2, none⟩ = some (.int .i64 0) := E3.cell 2
    have w103 : W2.cell? ⟨p, 3, none⟩ = some (.string ⟨#[]⟩) := E3.cell 3
    have w104 : W2.cell? ⟨p, 4, none⟩ = some (.int .i64 0) := E3.cell 4
    have w105 : W2.cell? ⟨p, 5, none⟩ = some (.int .i64 l.few.k) := E3.cell 5
    have w106 : W2.cell? ⟨p, 6, none⟩ = some (.string l.few.s) := E3.cell 6
    have w107 : W2.cell? ⟨p, 7, none⟩ = some (.string l.few.t) := E3.cell 7
    have w108 : W2.cell? ⟨p, 8, none⟩ = some (.int .i64 l.few.n) := E3.cell 8
    have w109 : W2.cell? ⟨p, 9, none⟩ = some (.int .i64 0) := E3.cell 9
    have w110 : W2.cell? ⟨p, 10, none⟩ = some (.string ⟨#[]⟩) := E3.cell 10
    have w111 : W2.cell? ⟨p, 11, none⟩ = some (.int .i64 0) := E3.cell 11
    exact bodyPost_ret (v := .agg #[.int .i64 2, .int .i64 0, .int .i64 0, .string ⟨#[]⟩, .int .i64 0, .int .i64 l.few.k, .string l.few.s, .string l.few.t, .int .i64 l.few.n, .int .i64 0, .string ⟨#[]⟩, .int .i64 0]) (by simp [results, Try.results9, go_sem, w100, w101, w102, w103, w104, w105, w106, w107, w108, w109, w110, w111]) rfl ⟨rfl, turn_box T3.out⟩

set_option maxRecDepth 100000 in
set_option maxHeartbeats 1000000 in
theorem ofew3 (o : OpO) (w : World) (ho : o.Fits) (hk : o.k = 3) :
    Calls Try.prog 9 #[.agg o.cells] w fun en w' => en = .returned (.agg o.few.cells) ∧ Below w.heap.size w w' := by
  · obtain ⟨k, t, l, z⟩ := o
    obtain rfl : k = 3 := hk
    obtain ⟨hx, hs, ht, hss⟩ := ho
    have HX : Hid (t.x.size ≤ maxLen) := Lib.hid hx
    have HS : Hid (l.s.size ≤ maxLen) := Lib.hid hs
    have HT : Hid (l.t.size ≤ maxLen) := Lib.hid ht
    have HSS : Hid (z.s.size ≤ maxLen) := Lib.hid hss
    have HF : Hid ((OpO.mk 3 t l z).few = ⟨3, zT, zL, z.few⟩) := rfl
    clear hx hs ht hss
    rw [HF.out]
    unfold OpO.cells
    go_enter Try.func9, Try.ntmps9
    go_wp2_with fail
    refine callsName (fun W hW => ?_)
    obtain ⟨p, ep⟩ : ∃ p, p = w.heap.size + 1 := ⟨_, rfl⟩
    have HQ : Hid (Has W (p + 1) 35 #[.int .i64 3, .int .i64 0, .int .i64 0, .string ⟨#[]⟩, .int .i64 0, .int .i64 0, .string ⟨#[]⟩, .string ⟨#[]⟩, .int .i64 0, .int .i64 0, .string ⟨#[]⟩, .int .i64 0]) := by
      show Has _ _ _ _
      rw [← hW, ep]
      exact made_at _ _ (by simp)
    have HP : Hid (Has W p 35 #[.int .i64 0, .int .i64 0, .int .i64 0, .string ⟨#[]⟩, .int .i64 0, .int .i64 0, .string ⟨#[]⟩, .string ⟨#[]⟩, .int .i64 0, .int .i64 0, .string ⟨#[]⟩, .int .i64 0]) := by
      show Has _ _ _ _
      rw [← hW, ep]
      exact (made_at _ _ (by simp)).alloc _
    have T0 : Hid (Turn (fun k => w.heap.size ≤ k) w W) := by
      show Turn _ _ _
      rw [← hW]
      repeat (first | exact Turn.refl _ _ | refine Turn.alloc ?_ _ | refine Turn.put ?_ (fun h => by omega) _ _)
    have hwp : w.heap.size < p := by omega
    rw [← ep]
    clear hW ep
    refine (stock.sfew_any z W HSS.out).mono ?_
    rintro en w1 ⟨rfl, b1⟩
    have HP1 := Lib.hid (HP.out.below b1 HP.out.lt)
    have HQ1 := Lib.hid (HQ.out.below b1 HQ.out.lt)
    have T1 : Hid (Turn (fun k => w.heap.size ≤ k) w w1) := Lib.hid (T0.out.trans (Turn.of_below b1 (F := fun j => W.heap.size ≤ j) (fun _ _ e => e)) (fun j _ e => Nat.le_trans T0.out.size e))
    clear b1 HP HQ T0
    have c0 : w1.cell? ⟨p + 1, 0, none⟩ = some (.int .i64 3) := HQ1.out.cell 0
    have f0 : w1.frozen? ⟨p + 1, 0, none⟩ = false := HQ1.out.free 0
    have y0 : w1.cell? ⟨p, 0, none⟩ = some (.int .i64 0) := HP1.out.cell 0
    have g0 : w1.frozen? ⟨p, 0, none⟩ = false := HP1.out.free 0
    have c1 : w1.cell? ⟨p + 1, 1, none⟩ = some (.int .i64 0) := HQ1.out.cell 1
    have f1 : w1.frozen? ⟨p + 1, 1, none⟩ = false := HQ1.out.free 1
    have y1 : w1.cell? ⟨p, 1, none⟩ = some (.int .i64 0) := HP1.out.cell 1
    have g1 : w1.frozen? ⟨p, 1, none⟩ = false := HP1.out.free 1
    have c2 : w1.cell? ⟨p + 1, 2, none⟩ = some (.int .i64 0) := HQ1.out.cell 2
    have f2 : w1.frozen? ⟨p + 1, 2, none⟩ = false := HQ1.out.free 2
    have y2 : w1.cell? ⟨p, 2, none⟩ = some (.int .i64 0) := HP1.out.cell 2
    have g2 : w1.frozen? ⟨p, 2, none⟩ = false := HP1.out.free 2
    have c3 : w1.cell? ⟨p + 1, 3, none⟩ = some (.string ⟨#[]⟩) := HQ1.out.cell 3
    have f3 : w1.frozen? ⟨p + 1, 3, none⟩ = false := HQ1.out.free 3
    have y3 : w1.cell? ⟨p, 3, none⟩ = some (.string ⟨#[]⟩) := HP1.out.cell 3
    have g3 : w1.frozen? ⟨p, 3, none⟩ = false := HP1.out.free 3
    have c4 : w1.cell? ⟨p + 1, 4, none⟩ = some (.int .i64 0) := HQ1.out.cell 4
    have f4 : w1.frozen? ⟨p + 1, 4, none⟩ = false := HQ1.out.free 4
    have y4 : w1.cell? ⟨p, 4, none⟩ = some (.int .i64 0) := HP1.out.cell 4
    have g4 : w1.frozen? ⟨p, 4, none⟩ = false := HP1.out.free 4
    have c5 : w1.cell? ⟨p + 1, 5, none⟩ = some (.int .i64 0) := HQ1.out.cell 5
    have f5 : w1.frozen? ⟨p + 1, 5, none⟩ = false := HQ1.out.free 5
    have y5 : w1.cell? ⟨p, 5, none⟩ = some (.int .i64 0) := HP1.out.cell 5
    have g5 : w1.frozen? ⟨p, 5, none⟩ = false := HP1.out.free 5
    have c6 : w1.cell? ⟨p + 1, 6, none⟩ = some (.string ⟨#[]⟩) := HQ1.out.cell 6
    have f6 : w1.frozen? ⟨p + 1, 6, none⟩ = false := HQ1.out.free 6
    have y6 : w1.cell? ⟨p, 6, none⟩ = some (.string ⟨#[]⟩) := HP1.out.cell 6
    have g6 : w1.frozen? ⟨p, 6, none⟩ = false := HP1.out.free 6
    have c7 : w1.cell? ⟨p + 1, 7, none⟩ = some (.string ⟨#[]⟩) := HQ1.out.cell 7
    have f7 : w1.frozen? ⟨p + 1, 7, none⟩ = false := HQ1.out.free 7
    have y7 : w1.cell? ⟨p, 7, none⟩ = some (.string ⟨#[]⟩) := HP1.out.cell 7
    have g7 : w1.frozen? ⟨p, 7, none⟩ = false := HP1.out.free 7
    have c8 : w1.cell? ⟨p + 1, 8, none⟩ = some (.int .i64 0) := HQ1.out.cell 8
    have f8 : w1.frozen? ⟨p + 1, 8, none⟩ = false := HQ1.out.free 8
    have y8 : w1.cell? ⟨p, 8, none⟩ = some (.int .i64 0) := HP1.out.cell 8
    have g8 : w1.frozen? ⟨p, 8, none⟩ = false := HP1.out.free 8
    have c9 : w1.cell? ⟨p + 1, 9, none⟩ = some (.int .i64 0) := HQ1.out.cell 9
    have f9 : w1.frozen? ⟨p + 1, 9, none⟩ = false := HQ1.out.free 9
    have y9 : w1.cell? ⟨p, 9, none⟩ = some (.int .i64 0) := HP1.out.cell 9
    have g9 : w1.frozen? ⟨p, 9, none⟩ = false := HP1.out.free 9
    have c10 : w1.cell? ⟨p + 1, 10, none⟩ = some (.string ⟨#[]⟩) := HQ1.out.cell 10
    have f10 : w1.frozen? ⟨p + 1, 10, none⟩ = false := HQ1.out.free 10
    have y10 : w1.cell? ⟨p, 10, none⟩ = some (.string ⟨#[]⟩) := HP1.out.cell 10
    have g10 : w1.frozen? ⟨p, 10, none⟩ = false := HP1.out.free 10
    have c11 : w1.cell? ⟨p + 1, 11, none⟩ = some (.int .i64 0) := HQ1.out.cell 11
    have f11 : w1.frozen? ⟨p + 1, 11, none⟩ = false := HQ1.out.free 11
    have y11 : w1.cell? ⟨p, 11, none⟩ = some (.int .i64 0) := HP1.out.cell 11
    have g11 : w1.frozen? ⟨p, 11, none⟩ = false := HP1.out.free 11
    go_wp2_with fail
    have E3 : Has (((((((((((((((w1.setCell ⟨p + 1, 9, none⟩ (.int .i64 z.few.k)).setCell ⟨p + 1, 10, none⟩ (.string z.few.s)).setCell ⟨p + 1, 11, none⟩ (.int .i64 z.few.n)).setCell ⟨p, 0, none⟩ (.int .i64 3)).setCell ⟨p, 1, none⟩ (.int .i64 0)).setCell ⟨p, 2, none⟩ (.int .i64 0)).setCell ⟨p, 3, none⟩ (.string ⟨#[]⟩)).setCell ⟨p, 4, none⟩ (.int .i64 0)).setCell ⟨p, 5, none⟩ (.int .i64 0)).setCell ⟨p, 6, none⟩ (.string ⟨#[]⟩)).setCell ⟨p, 7, none⟩ (.string ⟨#[]⟩)).setCell ⟨p, 8, none⟩ (.int .i64 0)).setCell ⟨p, 9, none⟩ (.int .i64 z.few.k)).setCell ⟨p, 10, none⟩ (.string z.few.s)).setCell ⟨p, 11, none⟩ (.int .i64 z.few.n)) p 35 #[.int .i64 3, .int .i64 0, .int .i64 0, .string ⟨#[]⟩, .int .i64 0, .int .i64 0, .string ⟨#[]⟩, .string ⟨#[]⟩, .int .i64 0, .int .i64 z.few.k, .string z.few.s, .int .i64 z.few.n] := (set12 (set12 (set12 (set12 (set12 (set12 (set12 (set12 (set12 (set12 (set12 (set12 (Has.far (Has.far (Has.far HP1.out (p := ⟨p + 1, 9, none⟩) (Nat.succ_ne_self p).symm (.int .i64 z.few.k)) (p := ⟨p + 1, 10, none⟩) (Nat.succ_ne_self p).symm (.string z.few.s)) (p := ⟨p + 1, 11, none⟩) (Nat.succ_ne_self p).symm (.int .i64 z.few.n)) 0 (.int .i64 3) (cs2 := #[.int .i64 3, .int .i64 0, .int .i64 0, .string ⟨#[]⟩, .int .i64 0, .int .i64 0, .string ⟨#[]⟩, .string ⟨#[]⟩, .int .i64 0, .int .i64 0, .string ⟨#[]⟩, .int .i64 0]) rfl) 1 (.int .i64 0) (cs2 := #[.int .i64 3, .int .i64 0, .int .i64 0, .string ⟨#[]⟩, .int .i64 0, .int .i64 0, .string ⟨#[]⟩, .string ⟨#[]⟩, .int .i64 0, .int .i64 0, .string ⟨#[]⟩, .int .i64 0]) rfl) 2 (.int .i64 0) (cs2 := #[.int .i64 3, .int .i64 0, .int .i64 0, .string ⟨#[]⟩, .int .i64 0, .int .i64 0, .string ⟨#[]⟩, .string ⟨#[]⟩, .int .i64 0, .int .i64 0, .string ⟨#[]⟩, .int .i64 0]) rfl) 3 (.string ⟨#[]⟩) (cs2 := #[.int .i64 3, .int .i64 0, .int .i64 0, .string ⟨#[]⟩, .int .i64 0, .int .i64 0, .string ⟨#[]⟩, .string ⟨#[]⟩, .int .i64 0, .int .i64 0, .string ⟨#[]⟩, .int .i64 0]) rfl) 4 (.int .i64 0) (cs2 := #[.int .i64 3, .int .i64 0, .int .i64 0, .string ⟨#[]⟩, .int .i64 0, .int .i64 0, .string ⟨#[]⟩, .string ⟨#[]⟩, .int .i64 0, .int .i64 0, .string ⟨#[]⟩, .int .i64 0]) rfl) 5 (.int .i64 0) (cs2 := #[.int .i64 3, .int .i64 0, .int .i64 0, .string ⟨#[]⟩, .int .i64 0, .int .i64 0, .string ⟨#[]⟩, .string ⟨#[]⟩, .int .i64 0, .int .i64 0, .string ⟨#[]⟩, .int .i64 0]) rfl) 6 (.string ⟨#[]⟩) (cs2 := #[.int .i64 3, .int .i64 0, .int .i64 0, .string ⟨#[]⟩, .int .i64 0, .int .i64 0, .string ⟨#[]⟩, .string ⟨#[]⟩, .int .i64 0, .int .i64 0, .string ⟨#[]⟩, .int .i64 0]) rfl) 7 (.string ⟨#[]⟩) (cs2 := #[.int .i64 3, .int .i64 0, .int .i64 0, .string ⟨#[]⟩, .int .i64 0, .int .i64 0, .string ⟨#[]⟩, .string ⟨#[]⟩, .int .i64 0, .int .i64 0, .string ⟨#[]⟩, .int .i64 0]) rfl) 8 (.int .i64 0) (cs2 := #[.int .i64 3, .int .i64 0, .int .i64 0, .string ⟨#[]⟩, .int .i64 0, .int .i64 0, .string ⟨#[]⟩, .string ⟨#[]⟩, .int .i64 0, .int .i64 0, .string ⟨#[]⟩, .int .i64 0]) rfl) 9 (.int .i64 z.few.k) (cs2 := #[.int .i64 3, .int .i64 0, .int .i64 0, .string ⟨#[]⟩, .int .i64 0, .int .i64 0, .string ⟨#[]⟩, .string ⟨#[]⟩, .int .i64 0, .int .i64 z.few.k, .string ⟨#[]⟩, .int .i64 0]) rfl) 10 (.string z.few.s) (cs2 := #[.int .i64 3, .int .i64 0, .int .i64 0, .string ⟨#[]⟩, .int .i64 0, .int .i64 0, .string ⟨#[]⟩, .string ⟨#[]⟩, .int .i64 0, .int .i64 z.few.k, .string z.few.s, .int .i64 0]) rfl) 11 (.int .i64 z.few.n) (cs2 := #[.int .i64 3, .int .i64 0, .int .i64 0, .string ⟨#[]⟩, .int .i64 0, .int .i64 0, .string ⟨#[]⟩, .string ⟨#[]⟩, .int .i64 0, .int .i64 z.few.k, .string z.few.s, .int .i64 z.few.n]) rfl)
    have T3 : Hid (Turn (fun k => w.heap.size ≤ k) w (((((((((((((((w1.setCell ⟨p + 1, 9, none⟩ (.int .i64 z.few.k)).setCell ⟨p + 1, 10, none⟩ (.string z.few.s)).setCell ⟨p + 1, 11, none⟩ (.int .i64 z.few.n)).setCell ⟨p, 0, none⟩ (.int .i64 3)).setCell ⟨p, 1, none⟩ (.int .i64 0)).setCell ⟨p, 2, none⟩ (.int .i64 0)).setCell ⟨p, 3, none⟩ (.string ⟨#[]⟩)).setCell ⟨p, 4, none⟩ (.int .i64 0)).setCell ⟨p, 5, none⟩ (.int .i64 0)).setCell ⟨p, 6, none⟩ (.string ⟨#[]⟩)).setCell ⟨p, 7, none⟩ (.string ⟨#[]⟩)).setCell ⟨p, 8, none⟩ (.int .i64 0)).setCell ⟨p, 9, none⟩ (.int .i64 z.few.k)).setCell ⟨p, 10, none⟩ (.string z.few.s)).setCell ⟨p, 11, none⟩ (.int .i64 z.few.n))) := (Turn.put (Turn.put (Turn.put (Turn.put (Turn.put (Turn.put (Turn.put (Turn.put (Turn.put (Turn.put (Turn.put (Turn.put (Turn.put (Turn.put (Turn.put T1.out (fun h => by omega) _ _) (fun h => by omega) _ _) (fun h => by omega) _ _) (fun h => by omega) _ _) (fun h => by omega) _ _) (fun h => by omega) _ _) (fun h => by omega) _ _) (fun h => by omega) _ _) (fun h => by omega) _ _) (fun h => by omega) _ _) (fun h => by omega) _ _) (fun h => by omega) _ _) (fun h => by omega) _ _) (fun h => by omega) _ _) (fun h => by omega) _ _)
    generalize (((((((((((((((w1.setCell ⟨p + 1, 9, none⟩ (.int .i64 z.few.k)).setCell ⟨p + 1, 10, none⟩ (.string z.few.s)).setCell ⟨p + 1, 11, none⟩ (.int .i64 z.few.n)).setCell ⟨p, 0, none⟩ (.int .i64 3)).setCell ⟨p, 1, none⟩ (.int .i64 0)).setCell ⟨p, 2, none⟩ (.int .i64 0)).setCell ⟨p, 3, none⟩ (.string ⟨#[]⟩)).setCell ⟨p, 4, none⟩ (.int .i64 0)).setCell ⟨p, 5, none⟩ (.int .i64 0)).setCell ⟨p, 6, none⟩ (.string ⟨#[]⟩)).setCell ⟨p, 7, none⟩ (.string ⟨#[]⟩)).setCell ⟨p, 8, none⟩ (.int .i64 0)).setCell ⟨p, 9, none⟩ (.int .i64 z.few.k)).setCell ⟨p, 10, none⟩ (.string z.few.s)).setCell ⟨p, 11, none⟩ (.int .i64 z.few.n)) = W2 at *
    have w100 : W2.cell? ⟨p, 0, none⟩ = some (.int .i64 3) := E3.cell 0
    have w101 : W2.cell? ⟨p, 1, none⟩ = some (.int .i64 0) := E3.cell 1
    have w102 : W2.cell? ⟨p, 2, none⟩ = some (.int .i64 0) := E3.cell 2
    have w103 : W2.cell? ⟨p, 3, none⟩ = some (.string ⟨#[]⟩) := E3.cell 3
    have w104 : W2.cell? ⟨p, 4, none⟩ = some (.int .i64 0) := E3.cell 4
    have w105 : W2.cell? ⟨p, 5, none⟩ = some (.int .i64 0) := E3.cell 5
    have w106 : W2.cell? ⟨p, 6, none⟩ = some (.string ⟨#[]⟩) := E3.cell 6
    have w107 : W2.cell? ⟨p, 7, none⟩ = some (.string ⟨#[]⟩) := E3.cell 7
    have w108 : W2.cell? ⟨p, 8, none⟩ = some (.int .i64 0) := E3.cell 8
    have w109 : W2.cell? ⟨p, 9, none⟩ = some (.int .i64 z.few.k) := E3.cell 9
    have w110 : W2.cell? ⟨p, 10, none⟩ = some (.string z.few.s) := E3.cell 10
    have w111 : W2.cell? ⟨p, 11, none⟩ = some (.int .i64 z.few.n) := E3.cell 11
    exact bodyPost_ret (v := .agg #[.int .i64 3, .int .i64 0, .int .i64 0, .string ⟨#[]⟩, .int .i64 0, .int .i64 0, .string ⟨#[]⟩, .string ⟨#[]⟩, .int .i64 0, .int .i64 z.few.k, .string z.few.s, .int .i64 z.few.n]) (by simp [results, Try.results9, go_sem, w100, w101, w102, w103, w104, w105, w106, w107, w108, w109, w110, w111]) rfl ⟨rfl, turn_box T3.out⟩

set_option maxRecDepth 100000 in
set_option maxHeartbeats 1000000 in
theorem ofew0 (o : OpO) (w : World) (h1 : o.k ≠ 1) (h2 : o.k ≠ 2) (h3 : o.k ≠ 3) :
    Calls Try.prog 9 #[.agg o.cells] w fun en w' => en = .returned (.agg o.few.cells) ∧ Below w.heap.size w w' := by
  obtain ⟨k, t, l, z⟩ := o
  have HF : Hid ((OpO.mk k t l z).few = ⟨k, zT, zL, zS⟩) := by show _ = _; unfold OpO.few; rw [if_neg h1, if_neg h2, if_neg h3]
  have k1 : (k == 1) = false := by simpa using h1
  have k2 : (k == 2) = false := by simpa using h2
  have k3 : (k == 3) = false := by simpa using h3
  clear h1 h2 h3
  rw [HF.out]
  unfold OpO.cells
  go_enter Try.func9, Try.ntmps9
  go_wp2_with fail
  refine bodyPost_ret (v := .agg #[.int .i64 k, .int .i64 0, .int .i64 0, .string ⟨#[]⟩, .int .i64 0, .int .i64 0, .string ⟨#[]⟩, .string ⟨#[]⟩, .int .i64 0, .int .i64 0, .string ⟨#[]⟩, .int .i64 0]) (by simp [results, Try.results9, go_sem]) rfl ⟨rfl, turn_box ?_⟩
  repeat (first | exact Turn.refl _ _ | refine Turn.drew ?_ | refine Turn.alloc ?_ _ | refine Turn.put ?_ (fun h => by omega) _ _)

theorem ofew_calls (o : OpO) (w : World) (ho : o.Fits) :
    Calls Try.prog 9 #[.agg o.cells] w fun en w' => en = .returned (.agg o.few.cells) ∧ Below w.heap.size w w' := by
  by_cases h1 : o.k = 1
  · exact ofew1 o w ho h1
  by_cases h2 : o.k = 2
  · exact ofew2 o w ho h2
  by_cases h3 : o.k = 3
  · exact ofew3 o w ho h3
  exact ofew0 o w h1 h2 h3

end Go.Proofs.Ytndnjeahepahkaa.object
end

section
/- object: Clone of each kind: another one that says the same, of blocks of its own. -/
namespace Go.Proofs.Ytndnjeahepahkaa.object
open Go.RowKit Go.Maps

/-- Two objects that say the same. -/
def Ob.Like : Ob → Ob → Prop
  | .doc s, .doc s' => s = s'
  | .led D, .led D' => Alike D D'
  | .sto D, .sto D' => Alike D D'
  | _, _ => False

theorem Ob.Like.save {x y : Ob} (h : x.Like y) : x.save = y.save := by
  cases x <;> cases y
  case doc.doc s s' => exact congrArg text.encT h
  case led.led D D' => exact Alike.saveB h
  case sto.sto D D' => exact Alike.saveB h
  all_goals exact h.elim
theorem Ob.Like.kd {x y : Ob} (h : x.Like y) : x.kd = y.kd := by
  cases x <;> cases y
  case doc.doc s s' => rfl
  case led.led D D' => rfl
  case sto.sto D D' => rfl
  all_goals exact h.elim

def ClonePost (x : Ob) (w : World) (en : Ending) (w' : World) : Prop :=
  ∃ v y, en = .returned v ∧ St w' v w.heap.size w'.heap.size y ∧ y.Like x ∧ Below w.heap.size w w'

set_option maxRecDepth 100000 in
set_option maxHeartbeats 1000000 in
theorem dclone_calls (d : Nat) (s : ByteArray) (w : World) (h : text.Dc w d s) (hs : s.size ≤ 200) :
    Calls Try.prog 63 #[pv d] w fun en w' => ClonePost (.doc s) w en w' := by
  have H := Lib.hid h
  have hlt := Lib.hid h.lt
  clear h
  go_enter Try.func63, Try.ntmps63
  go_wp2_with fail
  refine (text.dsave_calls d s _ (Has.alloc H.out _) hs).mono ?_
  rintro en w1 ⟨rfl, b1⟩
  have B1 : Hid (Below w.heap.size w w1) := Lib.hid ((new_box w _).trans (b1.mono (by simp)))
  clear b1
  go_wp2_with fail
  refine (text.dload_calls s w1 hs).mono ?_
  rintro en w2 ⟨e, rfl, h2, h3, b2⟩
  have B2 : Hid (Below w.heap.size w w2) := Lib.hid (B1.out.trans (b2.mono B1.out.size))
  have H3 := Lib.hid h3
  have hz := Nat.le_trans B1.out.size h2
  clear h3 b2 h2
  go_wp2_with fail
  go_ret
  exact ⟨_, .doc s, rfl, ⟨e, rfl, hz, Has.lt H3.out, H3.out, hs⟩, rfl, B2.out⟩

set_option maxRecDepth 100000 in
set_option maxHeartbeats 1000000 in
theorem aclone_calls (d m : Nat) (D : DataW Unit) (w : World) (h : Bk w d m D) (I : InvF D) :
    Calls Try.prog 101 #[pv d] w fun en w' => ClonePost (.led D) w en w' := by
  have H := Lib.hid h
  have II := Lib.hid I
  clear h I
  go_enter Try.func101, Try.ntmps101
  go_wp2_with fail
  refine (bsave_calls d m D _ (H.out.more (new_box _ _)) II.out).mono ?_
  rintro en w1 ⟨rfl, b1⟩
  have B1 : Hid (Below w.heap.size w w1) := Lib.hid ((new_box w _).trans (b1.mono (by simp)))
  clear b1
  go_wp2_with fail
  refine (bload_calls D w1 II.out).mono ?_
  rintro en w2 ⟨e, n, E, rfl, h2, al, b2, hd, hm⟩
  have B2 : Hid (Below w.heap.size w w2) := Lib.hid (B1.out.trans (b2.mono B1.out.size))
  have H2 := Lib.hid h2
  have AL := Lib.hid al
  have hz := Nat.le_trans B1.out.size hd
  have hz2 := Nat.le_trans B1.out.size hm
  clear h2 b2 al hd hm
  go_wp2_with fail
  go_ret
  exact ⟨_, .led E, rfl, ⟨e, n, rfl, hz, H2.out.box.lt, hz2, World.ownsMap.lt H2.out.map, H2.out, AL.out.inv II.out⟩, AL.out, B2.out⟩

set_option maxRecDepth 100000 in
set_option maxHeartbeats 1000000 in
theorem gclone_calls (d m : Nat) (D : DataW Unit) (w : World) (h : stock.Sk w d m D) (I : stock.InvS D) :
    Calls Try.prog 116 #[pv d] w fun en w' => ClonePost (.sto D) w en w' := by
  have H := Lib.hid h
  have II := Lib.hid I
  clear h I
  go_enter Try.func116, Try.ntmps116
  go_wp2_with fail
  refine (stock.ssave_calls d m D _ (H.out.more (new_box _ _)) II.out).mono ?_
  rintro en w1 ⟨rfl, b1⟩
  have B1 : Hid (Below w.heap.size w w1) := Lib.hid ((new_box w _).trans (b1.mono (by simp)))
  clear b1
  go_wp2_with fail
  refine (stock.sload_calls D w1 II.out).mono ?_
  rintro en w2 ⟨e, n, E, rfl, h2, al, b2, hd, hm⟩
  have B2 : Hid (Below w.heap.size w w2) := Lib.hid (B1.out.trans (b2.mono B1.out.size))
  have H2 := Lib.hid h2
  have AL := Lib.hid al
  have hz := Nat.le_trans B1.out.size hd
  have hz2 := Nat.le_trans B1.out.size hm
  clear h2 b2 al hd hm
  go_wp2_with fail
  go_ret
  exact ⟨_, .sto E, rfl, ⟨e, n, rfl, hz, H2.out.box.lt, hz2, World.ownsMap.lt H2.out.map, H2.out, stock.Alike.invS AL.out II.out⟩, AL.out, B2.out⟩

end Go.Proofs.Ytndnjeahepahkaa.object
end

section
/- object: the laws' own awake answers true. -/
namespace Go.Proofs.Ytndnjeahepahkaa.object
open Go.RowKit Go.Maps Go.Sort

set_option maxRecDepth 100000 in
set_option maxHeartbeats 1000000 in
theorem onew_nil (w : World) : Calls Try.prog 8 #[.int .i64 4] w fun en w' => en = .returned .nilIface ∧ w = w' := by
  go_enter Try.func8, Try.ntmps8
  go_wp2_with fail
  go_ret
  exact ⟨rfl, rfl⟩

set_option maxRecDepth 100000 in
set_option maxHeartbeats 1000000 in
theorem apart_self (o : OpO) (w : World) (hk : o.k = 3) : Calls Try.prog 13 #[.agg o.cells, .agg o.cells] w fun en w' => en = .returned (.bool false) ∧ Below w.heap.size w w' := by
  obtain ⟨k, t, l, z⟩ := o
  obtain rfl : k = 3 := hk
  unfold OpO.cells
  go_enter Try.func13, Try.ntmps13
  go_wp2_with fail
  go_ret
  refine ⟨rfl, turn_box ?_⟩
  repeat (first | exact Turn.refl _ _ | refine Turn.drew ?_ | refine Turn.alloc ?_ _ | refine Turn.put ?_ (fun h => by omega) _ _)

abbrev nutL : List UInt8 := [110, 117, 116]
def opNut : OpO := ⟨3, zT, zL, ⟨1, ⟨#[110, 117, 116]⟩, 2⟩⟩
def DNut : DataW Unit := (stock.doO (.map []) opNut.s).1
theorem nut_ok : (stock.doO (.map [] : DataW Unit) opNut.s).2 = 0 :=
  (stock.doS_ok stock.invS_new).2 ⟨stock.chkS_of (.inl rfl) stock.nut_ne (by decide) (by decide) (by decide), fun _ => ⟨fun _ => by show (0 : Nat) < 16; omega, by show amt (.map []) _ + 2 ≤ _; rw [amt_absent rfl]; decide⟩, fun e => absurd (show (1 : Int) = 2 from e) (by decide)⟩
theorem nut_amt (x : ByteArray) : amt DNut x = if x = ⟨#[110, 117, 116]⟩ then 2 else 0 := by
  have := stock.doS_amt (H := Unit) stock.invS_new nut_ok x
  refine this.trans ?_
  rw [amt_absent rfl]
  show 0 + stock.dltS 1 ⟨#[110, 117, 116]⟩ 2 x = _
  unfold stock.dltS
  simp
theorem nut_inv : stock.InvS DNut := stock.invS_doO stock.invS_new _
theorem nut_names : namesD DNut = [nutL] := by
  have hp : (namesD DNut).Perm [nutL] := by
    refine (List.perm_ext_iff_of_nodup (names_nodup nut_inv.good) (by simp)).2 (fun x => ?_)
    rw [mem_namesD nut_inv.good, nut_inv.isIn_iff, nut_amt, List.mem_singleton]
    constructor
    · rintro ⟨_, h⟩
      by_cases hx : (⟨x.toArray⟩ : ByteArray) = ⟨#[110, 117, 116]⟩
      · have := congrArg (fun b : ByteArray => b.data.toList) hx
        simpa using this
      · rw [if_neg hx] at h; omega
    · rintro rfl
      exact ⟨by simp, by rw [if_pos rfl]; decide⟩
  exact List.perm_singleton.1 hp
theorem enc_small (n : Nat) (h : n < 128) : enc n = [UInt8.ofNat n] := by
  unfold enc
  rw [show n / 128 = 0 by omega, hi_zero, show n % 128 = n by omega]
  rfl
theorem nut_save : saveB DNut = ⟨#[1, 3, 110, 117, 116, 2]⟩ := by
  have ha : amtL DNut nutL = 2 := (nut_amt _).trans (if_pos rfl)
  unfold saveB saveL
  rw [nut_names]
  simp only [List.flatMap_cons, List.flatMap_nil, List.length_singleton, List.append_nil]
  unfold pieceD
  rw [ha, enc_small 1 (by decide), enc_small _ (by decide), enc_small _ (by decide)]
  rfl

theorem opNut_short : opNut.Short := ⟨z_short.1, z_short.2.1, by show (3 : Nat) ≤ 14; omega⟩

set_option maxRecDepth 100000 in
set_option maxHeartbeats 2000000 in
theorem oawake_any (w : World) : Calls Try.prog 6 #[] w fun en w' => en = .returned (.bool true) ∧ Below w.heap.size w w' := by
  go_enter Try.func6, Try.ntmps6
  go_wp2_with fail
  refine (onew_calls 3 w (.inr (.inr rfl))).mono ?_
  rintro en w1 ⟨v, rfl, st, b1⟩
  have st' : St w1 v w.heap.size w1.heap.size (.sto (.map [])) := st
  obtain ⟨d, m, rfl, h1, h2, h3, h4, h5, h6⟩ := st'
  have H1 : Hid (stock.Own1 Unit w d m (.map []) w1) := ⟨h5, h6, h1, h3, Turn.of_below b1 (fun _ _ e => e)⟩
  clear st h1 h2 h3 h4 h5 h6 b1
  have mk := fun x w => m_gkind x d w
  have md := fun x w => m_gdo x d w
  have mc := fun x w => m_gclone x d w
  go_wp2_with fail
  refine (gkind_calls d w1).mono ?_
  rintro en w2 ⟨rfl, b2⟩
  have H2 := Lib.hid (H1.out.below b2)
  clear b2 H1
  go_wp2_with fail
  refine (onew_nil w2).mono ?_
  rintro en w3 ⟨rfl, rfl⟩
  go_wp2_with fail
  refine callsName (fun W hW => ?_)
  obtain ⟨p, ep⟩ : ∃ p, p = w2.heap.size := ⟨_, rfl⟩
  have HO : Hid (Has W p 35 opNut.cells) := by show Has _ _ _ _; rw [← hW, ep]; exact Has.made _ _ _
  have HW := Lib.hid (H2.out.more (V' := W) (by rw [← hW]; exact (Turn.refl _ _).alloc _))
  rw [← ep]
  clear hW ep H2
  refine (gdo_calls d m (.map []) opNut W HW.out.bk HW.out.inv rfl opNut_short).mono ?_
  rintro en w3 ⟨rfl, h3, g3⟩
  rw [nut_ok]
  have HO3 : Hid (Has w3 p 35 opNut.cells) := Lib.hid (HO.out.grown g3 (fun e => by injection e with e; exact HW.out.bk.map.ne HO.out e.symm))
  have H3 : Hid (stock.Own1 Unit w d m DNut w3) := HW.out.did h3 nut_inv g3
  clear h3 g3 HO HW
  go_wp2_with fail
  refine callsName (fun W hW => ?_)
  obtain ⟨q, eq⟩ : ∃ q, q = w3.heap.size := ⟨_, rfl⟩
  have HQ : Hid (Has W q 40 #[.int .i64 0, .string ⟨#[]⟩]) := by show Has _ _ _ _; rw [← hW, eq]; exact Has.made _ _ _
  have HO4 : Hid (Has W p 35 opNut.cells) := by show Has _ _ _ _; rw [← hW]; exact HO3.out.alloc _
  have HW := Lib.hid (H3.out.more (V' := W) (by rw [← hW]; exact (Turn.refl _ _).alloc _))
  rw [← eq]
  clear hW eq H3 HO3
  refine (gdo_other d ⟨1, zT, zL, zS⟩ W (by decide)).mono ?_
  rintro en w4 ⟨rfl, b4⟩
  have H4 := Lib.hid (HW.out.below b4)
  have HO5 := Lib.hid (HO4.out.below b4 HO4.out.lt)
  have HQ5 := Lib.hid (HQ.out.below b4 HQ.out.lt)
  clear b4 HW HO4 HQ
  go_wp2_with fail
  refine callsName (fun W hW => ?_)
  obtain ⟨r, er⟩ : ∃ r, r = w4.heap.size := ⟨_, rfl⟩
  have HR : Hid (Has W r 40 #[.int .i64 5, .string ⟨#[]⟩]) := by show Has _ _ _ _; rw [← hW, er]; exact Has.made _ _ _
  have HO6 : Hid (Has W p 35 opNut.cells) := by show Has _ _ _ _; rw [← hW]; exact HO5.out.alloc _
  have HQ6 : Hid (Has W q 40 #[.int .i64 0, .string ⟨#[]⟩]) := by show Has _ _ _ _; rw [← hW]; exact HQ5.out.alloc _
  have HW := Lib.hid (H4.out.more (V' := W) (by rw [← hW]; exact (Turn.refl _ _).alloc _))
  rw [← er]
  clear hW er H4 HO5 HQ5
  refine (gclone_calls d m DNut W HW.out.bk nut_inv).mono ?_
  rintro en w5 ⟨v, y, rfl, st, lk, b5⟩
  have H5 := Lib.hid (HW.out.below b5)
  have HO7 := Lib.hid (HO6.out.below b5 HO6.out.lt)
  have HQ7 := Lib.hid (HQ6.out.below b5 HQ6.out.lt)
  have HR7 := Lib.hid (HR.out.below b5 HR.out.lt)
  cases y with
  | doc s => exact lk.elim
  | led D => exact lk.elim
  | sto E =>
    have hsv : saveB E = ⟨#[1, 3, 110, 117, 116, 2]⟩ := (Alike.saveB (show Alike E DNut from lk)).trans nut_save
    obtain ⟨e, n, rfl, k1, k2, k3, k4, k5, k6⟩ := st
    have K5 := Lib.hid k5
    have K6 := Lib.hid k6
    have HSV := Lib.hid hsv
    clear b5 HW HO6 HQ6 HR lk k1 k2 k3 k4 k5 k6 hsv
    have ms := fun x w => m_gsave x e w
    have x0 : w5.cell? ⟨q, 0, none⟩ = some (.int .i64 0) := HQ7.out.cell 0
    have x1 : w5.cell? ⟨r, 0, none⟩ = some (.int .i64 5) := HR7.out.cell 0
    go_wp2_with fail
    refine (stock.ssave_calls e n E w5 K5.out K6.out).mono ?_
    rw [HSV.out]
    rintro en w6 ⟨rfl, b6⟩
    have H6 := Lib.hid (H5.out.below b6)
    have HO8 := Lib.hid (HO7.out.below b6 HO7.out.lt)
    clear b6 H5 HO7 HQ7 HR7 x0 x1 K5
    have z0 : w6.cell? ⟨p, 0, none⟩ = some (.int .i64 3) := HO8.out.cell 0
    have z1 : w6.cell? ⟨p, 1, none⟩ = some (.int .i64 0) := HO8.out.cell 1
    have z2 : w6.cell? ⟨p, 2, none⟩ = some (.int .i64 0) := HO8.out.cell 2
    have z3 : w6.cell? ⟨p, 3, none⟩ = some (.string ⟨#[]⟩) := HO8.out.cell 3
    have z4 : w6.cell? ⟨p, 4, none⟩ = some (.int .i64 0) := HO8.out.cell 4
    have z5 : w6.cell? ⟨p, 5, none⟩ = some (.int .i64 0) := HO8.out.cell 5
    have z6 : w6.cell? ⟨p, 6, none⟩ = some (.string ⟨#[]⟩) := HO8.out.cell 6
    have z7 : w6.cell? ⟨p, 7, none⟩ = some (.string ⟨#[]⟩) := HO8.out.cell 7
    have z8 : w6.cell? ⟨p, 8, none⟩ = some (.int .i64 0) := HO8.out.cell 8
    have z9 : w6.cell? ⟨p, 9, none⟩ = some (.int .i64 1) := HO8.out.cell 9
    have z10 : w6.cell? ⟨p, 10, none⟩ = some (.string ⟨#[110, 117, 116]⟩) := HO8.out.cell 10
    have z11 : w6.cell? ⟨p, 11, none⟩ = some (.int .i64 2) := HO8.out.cell 11
    go_wp2_with fail
    refine (apart_self opNut w6 rfl).mono ?_
    rintro en w7 ⟨rfl, b7⟩
    have H7 := Lib.hid (H6.out.below b7)
    clear b7 H6
    go_wp2_with fail
    go_ret
    exact ⟨rfl, H7.out.ends⟩

end Go.Proofs.Ytndnjeahepahkaa.object
end

section
/- A method called through an interface value inside a region: one operation of it. Of no program. -/
namespace Go.Proofs.Ytndnjeahepahkaa
open Go.RowKit

section
variable {P : Program} {ops : Array Oper} {Q : Exit → Act → World → Prop} {md : Region.Mode} {S : World → Prop}

theorem wpOp_invoke (d : Option Tmp) {i : Nat} {o : Oper} {K : Act → World → Prop} {a : Act} {w : World} (hi : ops[i]? = some o) (hd : o.dst = d) (hw : Region.wanted o (yielded ops a.tmps) = true)
    (x : Operand) (name : String) (t : TypeId) (u : Value) (hx : a.eval x = .iface t u) (f : FuncId) (r : Value)
    (hm : (method (P.types.size + Made.depth) t u name).run P w = .ok (f, r) w)
    (he0 : ∀ args w, (callFunc f args).run P w = .ok (.enter f args) w) (xs : Array Operand) (ts : Array TypeId)
    (ho : o.op = .call { callee := .invoke x name, args := xs, argTypes := ts }) (vs : Array Value) (hv : xs.map a.eval = vs) {R : Ending → World → Prop} (hc : Calls P f (#[r] ++ vs) w R)
    (h : ∀ en w', R en w' → ∃ v, en = .returned v ∧ K (a.put d v) w') : wpOp P ops Q i K a w := by
  subst hd
  have he : (execOp a.eval o).run P w = .ok (.enter f (#[r] ++ vs)) w := by
    simp only [execOp, ho]
    have h2 : ((#[Value.iface t u] : Array Value) ++ vs).extract 1 ((#[Value.iface t u] : Array Value) ++ vs).size = vs := by
      apply Array.ext'
      simp [List.extract]
    have h3 : ((#[Value.iface t u] : Array Value) ++ vs)[0]? = some (.iface t u) := by rw [Array.getElem?_append_left (by simp)]; rfl
    have hs : (invoke (.fn (.method name) #[]) (#[Value.iface t u] ++ vs)).run P w = .ok (.enter f (#[r] ++ vs)) w := by
      simp only [invoke, h3, h2, callMethod]
      simp [hm, he0]
    simp only [resolve, hv, hx]
    simpa using hs
  unfold wpOp
  simp only [hi, hw, if_true]
  refine .inl ?_
  unfold Oper.wp
  rw [he, Oper.upon_enter]
  refine hc.mono ?_
  intro en w' hR
  obtain ⟨v, rfl, hK⟩ := h en w' hR
  exact hK

end
end Go.Proofs.Ytndnjeahepahkaa
end

section
/- object: what the check of a method value reads behind an object's interface; the names of the calls of it. -/
namespace Go.Proofs.Ytndnjeahepahkaa.object
open Go.RowKit Go.Maps Go.Sort

theorem na_doc (x d : Nat) (w : World) : (nilAhead (x + 1) 61 (pv d) "Do").run Try.prog w = .ok (some false) w := by kernel_rfl
theorem na_led (x d : Nat) (w : World) : (nilAhead (x + 1) 65 (pv d) "Do").run Try.prog w = .ok (some false) w := by kernel_rfl
theorem na_sto (x d : Nat) (w : World) : (nilAhead (x + 1) 69 (pv d) "Do").run Try.prog w = .ok (some false) w := by kernel_rfl

theorem na_any {w : World} {v : Value} {lo hi : Nat} {x : Ob} (h : St w v lo hi x) {T : TypeId} {d : Nat} (e : v = .iface T (pv d)) :
    ∀ (y : Nat) (w : World), (nilAhead (y + 1) T (pv d) "Do").run Try.prog w = .ok (some false) w := by
  cases x with
  | doc s =>
    obtain ⟨d', e', _⟩ := h
    rw [e'] at e
    injection e with e1 e2
    subst e1
    exact fun y w => na_doc y d w
  | led D =>
    obtain ⟨d', m, e', _⟩ := h
    rw [e'] at e
    injection e with e1 e2
    subst e1
    exact fun y w => na_led y d w
  | sto D =>
    obtain ⟨d', m, e', _⟩ := h
    rw [e'] at e
    injection e with e1 e2
    subst e1
    exact fun y w => na_sto y d w

/-- Which kind the laws take for a number. -/
theorem kind_of (n : Int) : 1 + (n.tmod 3 + 3).tmod 3 = 1 ∨ 1 + (n.tmod 3 + 3).tmod 3 = 2 ∨ 1 + (n.tmod 3 + 3).tmod 3 = 3 := by
  have h1 := Int.emod_nonneg (n.tmod 3 + 3) (show (3 : Int) ≠ 0 by decide)
  have h2 := Int.emod_lt_of_pos (n.tmod 3 + 3) (show (0 : Int) < 3 by decide)
  have h3 : 0 ≤ n.tmod 3 + 3 := by
    have := Int.lt_tmod_of_pos n (show (0 : Int) < 3 by decide)
    omega
  rw [Int.tmod_eq_emod_of_nonneg h3]
  omega

end Go.Proofs.Ytndnjeahepahkaa.object
end

