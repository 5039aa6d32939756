/- tower: a list beside the document's own: what lasts in TowerPlays. -/
import Derived.Test.YtbimdcjbpbpljaaDoorTowV
import Derived.Test.YtbimdcjbpbpljaaDoorOpen
namespace Go.Proofs.YtbimdcjbpbpljaaDoor.tow
open Go Go.ChangeShapes Go.WideShapes Go.ChangeAt Go.RowKit Go.Proofs.YtbimdcjbpbpljaaDoor.tws

set_option maxHeartbeats 400000 in
theorem cut_any (s : ByteArray) (n : Nat) (w : World) (hn : n ≤ 1000000) (_hs : s.size ≤ maxLen) :
    Calls Tryd.prog 11 #[.string s, .int .i64 n] w fun en w' => en = .returned (.string (s.extract 0 n)) ∧ w = w' := by
  unfold maxLen at _hs
  by_cases h : n < s.size
  · go_enter Tryd.func11, Tryd.ntmps11
    go_wp2
    go_ret
    exact ⟨rfl, rfl⟩
  · have e : s.extract 0 n = s := by
      apply ByteArray.ext
      simp [ByteArray.data_extract]
      omega
    have E := Lib.hid e
    clear e
    go_enter Tryd.func11, Tryd.ntmps11
    go_wp2
    go_ret
    rw [E.out]
    exact ⟨rfl, rfl⟩

/-- The acts of a slice that is handed in. -/
def ArgA (w : World) (a : Option Addr) (len : Nat) : Prop :=
  len ≤ maxLen ∧ ∀ i, i < len → ∃ b o, a = some ⟨b, o, none⟩ ∧ b < w.heap.size ∧ ∃ (k p t : Int) (x : ByteArray), x.size ≤ maxLen ∧ (-9223372036854775808 ≤ p ∧ p ≤ 9223372036854775807) ∧
    w.cell? ⟨b, o + i * 4, none⟩ = some (.int .i64 k) ∧ w.cell? ⟨b, o + i * 4 + 1, none⟩ = some (.int .i64 p) ∧ w.cell? ⟨b, o + i * 4 + 2, none⟩ = some (.int .i64 t) ∧ w.cell? ⟨b, o + i * 4 + 3, none⟩ = some (.string x)
theorem openedA {H : Type} {enc : TypeId × Value → H} {w : World} {spare : Nat → Bool} {held : Bool} {a : Option Addr} {len cap : Nat} {d : DataW H} {p : List MemPlace} (h : DataW.Trod enc Tryd.prog w 0 spare held 22 (.slice a len cap) d p) : ArgA w a len := by
  obtain ⟨h1, h2, h3⟩ := opened_rows Tryd.underlying22 Tryd.underlying28 (by kernel_rfl) (by kernel_rfl) (by decide) h
  refine ⟨Nat.le_trans h1 h2, fun i hi => ?_⟩
  obtain ⟨b, o, e, hb, hf⟩ := h3 i hi
  obtain ⟨v0, n0, y0, c0, t0⟩ := hf 0 _ rfl
  obtain ⟨v1, n1, y1, c1, t1⟩ := hf 1 _ rfl
  obtain ⟨v2, n2, y2, c2, t2⟩ := hf 2 _ rfl
  obtain ⟨v3, n3, y3, c3, t3⟩ := hf 3 _ rfl
  obtain ⟨k, ek, _, _⟩ := DataW.trod_int Tryd.underlying3 t0
  obtain ⟨t, et, _, hwf⟩ := DataW.trod_int Tryd.underlying3 t1
  obtain ⟨n, en, _, _⟩ := DataW.trod_int Tryd.underlying3 t2
  obtain ⟨x, ex, _, hx⟩ := DataW.trod_string Tryd.underlying9 t3
  simp only [List.cons.injEq, and_true] at ek et ex en
  subst ek; subst et; subst ex; subst en
  exact ⟨b, o, e, hb, k, t, n, x, hx, wf_i64 hwf, c0, c1, c2, c3⟩
theorem ArgA.turn {w wr : World} {a : Option Addr} {len : Nat} (h : ArgA w a len) (t : Below w.heap.size w wr) : ArgA wr a len := by
  refine ⟨h.1, fun i hi => ?_⟩
  obtain ⟨b, o, e, hb, k, p, n, x, hx, hp, c0, c1, c2, c3⟩ := h.2 i hi
  have ht : ∀ q : Nat, wr.cell? ⟨b, q, none⟩ = w.cell? ⟨b, q, none⟩ := fun q => by unfold World.cell?; rw [t.block b hb]
  exact ⟨b, o, e, Nat.lt_of_lt_of_le hb t.size, k, p, n, x, hx, hp, by rw [ht]; exact c0, by rw [ht]; exact c1, by rw [ht]; exact c2, by rw [ht]; exact c3⟩

/-- The list at b keeps l, the slice v reads as m; q is a block of an act's cells (if there is one). -/
structure St (w : World) (b : Nat) (l : List It) (v : Value) (m : List It) (q : Option (Nat × Array Value)) (w' : World) : Prop where
  tw : ∃ F : Nat → Prop, Tw w' b l F ∧ (∀ k, F k → w.heap.size ≤ k ∧ k < w'.heap.size) ∧ (∀ k, v.ownBlock = some k → w.heap.size ≤ k ∧ ¬ F k) ∧ ∀ x, q = some x → Has w' x.1 28 x.2 ∧ ¬ F x.1
  ones : Ones w' v m
  bel : Below w.heap.size w w'
theorem act_one : (34 : Nat) ≠ 28 := by decide
section
variable {w w' w2 : World} {b : Nat} {l m : List It} {v : Value} {q : Option (Nat × Array Value)}
theorem St.more (h : St w b l v m q w') (bb : Below w'.heap.size w' w2) : St w b l v m q w2 := by
  obtain ⟨F, h1, h2, h3, h4⟩ := h.tw
  exact ⟨⟨F, h1.below bb, fun k hk => ⟨(h2 k hk).1, Nat.lt_of_lt_of_le (h2 k hk).2 bb.size⟩, h3, fun x hx => ⟨(h4 x hx).1.below bb (h4 x hx).1.lt, (h4 x hx).2⟩⟩, h.ones.below bb, h.bel.trans (bb.mono h.bel.size)⟩
theorem St.act (h : St w b l v m q w') (cs : Array Value) : St w b l v m (some (w'.heap.size, cs)) (w'.alloc (.cells cs 28)) := by
  have bb : Below w'.heap.size w' (w'.alloc (.cells cs 28)) := (Below.refl _ _).alloc (Nat.le_refl _) _
  obtain ⟨F, h1, h2, h3, h4⟩ := h.tw
  refine ⟨⟨F, h1.below bb, fun k hk => ⟨(h2 k hk).1, Nat.lt_of_lt_of_le (h2 k hk).2 bb.size⟩, h3, fun x hx => ?_⟩, h.ones.below bb, h.bel.trans (bb.mono h.bel.size)⟩
  injection hx with hx
  subst hx
  exact ⟨made_at _ _ rfl, fun e => by have := (h2 _ e).2; simp at this⟩
theorem St.has {g : Nat} {cs : Array Value} (h : St w b l v m (some (g, cs)) w') : Has w' g 28 cs := by obtain ⟨F, _, _, _, h4⟩ := h.tw; exact (h4 _ rfl).1
theorem St.tw_ (h : St w b l v m q w') : ∃ F, Tw w' b l F := by obtain ⟨F, h1, _⟩ := h.tw; exact ⟨F, h1⟩
theorem St.none_ (h : St w b l v m q w') : St w b l v m none w' := by
  obtain ⟨F, h1, h2, h3, h4⟩ := h.tw
  exact ⟨⟨F, h1, h2, h3, fun x hx => by cases hx⟩, h.ones, h.bel⟩

theorem St.put (h : St w b l v m q w') {Bz : Nat} (hZ : Tz Bz w') (a : Int) (s : ByteArray) (hl : l.length ≤ 100000) (ha : -9223372036854775808 ≤ a ∧ a ≤ 9223372036854775807) :
    Calls Tryd.prog 12 #[.pointer (some ⟨b, 0, none⟩), .int .i64 a, .string s] w' fun en w2 => ∃ was, en = .returned (.bool was) ∧ (was = true ↔ ∃ x ∈ l, x.1 = a) ∧ St w b (insK a s l) v m q w2 := by
  obtain ⟨F, h1, h2, h3, h4⟩ := h.tw
  refine (h1.put_calls hZ a s hl ha).mono ?_
  rintro en w2 ⟨was, rfl, e, k1, t⟩
  refine ⟨was, rfl, e, ⟨⟨fun k => (F k ∨ w'.heap.size ≤ k) ∧ k < w2.heap.size, k1.more (fun k hk e => ⟨e, hk⟩), fun k hk => ⟨?_, hk.2⟩, fun k hk => ⟨(h3 k hk).1, fun e => ?_⟩, fun x hx => ⟨(h4 x hx).1.turn t (h4 x hx).2, fun e => ?_⟩⟩, h.ones.turn t (fun k hk => (h3 k hk).2), h.bel.trans (t.below h.bel.size (fun j hj e => by have := (h2 j e).1; omega))⟩⟩
  · rcases hk.1 with e | e
    · exact (h2 k e).1
    · exact Nat.le_trans h.bel.size e
  · rcases e.1 with e | e
    · exact (h3 k hk).2 e
    · have := h.ones.lt hk; omega
  · rcases e.1 with e | e
    · exact (h4 x hx).2 e
    · have := (h4 x hx).1.lt; omega
theorem St.cut (h : St w b l v m q w') (a t : Int) (hl : l.length ≤ 100000) :
    Calls Tryd.prog 14 #[.pointer (some ⟨b, 0, none⟩), .int .i64 a, .int .i64 t] w' fun en w2 => en = .returned (.int .i64 ((l.length : Int) - (cutK a t l).length)) ∧ St w b (cutK a t l) v m q w2 := by
  obtain ⟨F, h1, h2, h3, h4⟩ := h.tw
  refine (h1.cut_calls a t hl).mono ?_
  rintro en w2 ⟨rfl, k1, t⟩
  exact ⟨rfl, ⟨⟨F, k1, fun k hk => ⟨(h2 k hk).1, Nat.lt_of_lt_of_le (h2 k hk).2 t.size⟩, h3, fun x hx => ⟨(h4 x hx).1.turn t (h4 x hx).2, (h4 x hx).2⟩⟩, h.ones.turn t (fun k hk => (h3 k hk).2), h.bel.trans (t.below h.bel.size (fun j hj e => by have := (h2 j e).1; omega))⟩⟩
/-- The document's own list is another one, in new memory. -/
theorem St.other (h : St w b l v m q w') {u : Value} {m2 : List It} (bb : Below w'.heap.size w' w2) (hu : Ones w2 u m2) (hn : ∀ g, u.ownBlock = some g → w'.heap.size ≤ g) : St w b l u m2 q w2 := by
  have h' := h.more bb
  obtain ⟨F, h1, h2, h3, h4⟩ := h.tw
  exact ⟨⟨F, h1.below bb, fun k hk => ⟨(h2 k hk).1, Nat.lt_of_lt_of_le (h2 k hk).2 bb.size⟩, fun k hk => ⟨Nat.le_trans h.bel.size (hn k hk), fun e => by have := (h2 k e).2; have := hn k hk; omega⟩, fun x hx => ⟨(h4 x hx).1.below bb (h4 x hx).1.lt, (h4 x hx).2⟩⟩, hu, h'.bel⟩
end

theorem levK_zero (l : List It) : levK 0 l = l.map (·.1) := by
  unfold levK
  rw [List.filter_eq_self.2 (fun x _ => decide_eq_true (show 0 < hgt _ from (hgt_bounds _).1))]

set_option maxRecDepth 100000 in
set_option maxHeartbeats 1000000 in
theorem wversions_calls {w : World} {b : Nat} {l : List It} {F : Nat → Prop} (h : Tw w b l F) (hl : l.length ≤ 100000) :
    Calls Tryd.prog 20 #[.pointer (some ⟨b, 0, none⟩)] w (IntsPost w (l.map (·.1))) := by
  have H := Lib.hid h
  clear h
  go_enter Tryd.func20, Tryd.ntmps20
  go_wp2_with fail
  refine (Tw.level_calls H.out 0 (by decide) hl).mono ?_
  rw [levK_zero]
  rintro en w2 ⟨v, rfl, i2, n2, b2⟩
  have R := Lib.hid (And.intro i2 (And.intro n2 b2))
  clear i2 n2 b2
  go_wp2_with fail
  go_ret
  exact ⟨v, rfl, R.out.1, R.out.2.1, R.out.2.2⟩
end Go.Proofs.YtbimdcjbpbpljaaDoor.tow
