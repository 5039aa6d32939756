/- object: an op's bytes: Put of each kind. -/
import Derived.Test.YtcdedkgkingbdaaGreatDoorQ028
import Derived.Test.YtcdedkgkingbdaaGreatDoorQ019
import Derived.Test.YtcdedkgkingbdaaGreatDoorQ009
namespace Go.Proofs.YtcdedkgkingbdaaGreatDoor.rep
open Go Go.RowKit Go.Proofs.YtcdedkgkingbdaaGreatDoor.object

/-- The bytes of an op of each kind. -/
def opT (t : text.OpV) : List UInt8 := enc t.k.toNat ++ (enc t.a.toNat ++ (if t.k = 1 then enc t.x.size ++ t.x.data.toList else enc t.n.toNat))
def opL (l : OpL) : List UInt8 := enc l.k.toNat ++ (enc l.s.size ++ (l.s.data.toList ++ (if l.k = 3 then enc l.t.size ++ (l.t.data.toList ++ enc l.n.toNat) else [])))
def opS (s : stock.OpS) : List UInt8 := enc s.k.toNat ++ (enc s.s.size ++ (s.s.data.toList ++ enc s.n.toNat))
def opB (o : OpO) : List UInt8 := enc o.k.toNat ++ (if o.k = 1 then opT o.t else if o.k = 2 then opL o.l else opS o.s)

/-- An op that may be, of its kind: what is of the other kinds is zero. -/
def GT (t : text.OpV) : Prop := text.chk t.k t.a t.x.size t.n = 0
def GL (l : OpL) : Prop := chkL l.k l.s l.t l.n = 0
def GS (s : stock.OpS) : Prop := stock.chkS s.k s.s s.n = 0
def OpO.Good (o : OpO) : Prop := (o.k = 1 ∧ GT o.t ∧ o.l = zL ∧ o.s = zS) ∨ (o.k = 2 ∧ GL o.l ∧ o.t = zT ∧ o.s = zS) ∨ (o.k = 3 ∧ GS o.s ∧ o.t = zT ∧ o.l = zL)

theorem gl_parts {l : OpL} (h : GL l) : (l.k = 1 ∨ l.k = 2 ∨ l.k = 3) ∧ l.s.size ≤ 12 ∧ l.t.size ≤ 12 ∧ 0 ≤ l.n ∧ l.n ≤ 1099511627776 ∧ (l.k ≠ 3 → l.t = ⟨#[]⟩ ∧ l.n = 0) := by
  unfold GL chkL at h
  split at h
  · rename_i hk
    split at h
    · rename_i h2
      refine ⟨by omega, h2.2.2.2.1, h2.2.2.2.2, by omega, by omega, fun _ => ⟨nil_of h2.2.1, h2.2.2.1⟩⟩
    · omega
  · split at h
    · split at h
      · rename_i h1 h2
        exact ⟨by omega, h2.2.2.2.1, h2.2.2.2.2, by omega, by omega, fun h => absurd h1 h⟩
      · omega
    · omega

theorem wrap_u64 {a : Int} (h : 0 ≤ a) (h2 : a < 18446744073709551616) : IntKind.u64.wrap a = a := by
  show a % 18446744073709551616 = a
  omega
/-- While an op is put: the writer, the op's own box. -/
structure Pu (w : World) (b : Nat) (r : Option Nat) (T : TypeId) (cs : Array Value) (xs : List UInt8) (V : World) : Prop where
  wr : ∃ r', Wr V b r' xs ∧ (r' = r ∨ ∃ k, r' = some k ∧ w.heap.size < k)
  box : Has V w.heap.size T cs
  turn : Turn (fun k => k = b ∨ some k = r) w V
  lt : b < w.heap.size ∧ ∀ k, r = some k → k < w.heap.size
def PuS (w : World) (b : Nat) (r : Option Nat) (T : TypeId) (cs : Array Value) (V : World) : Prop := ∃ xs, Pu w b r T cs xs V
def PutPost (w : World) (b : Nat) (r : Option Nat) (xs : List UInt8) (w' : World) : Prop :=
  ∃ r', Wr w' b r' xs ∧ (r' = r ∨ ∃ k, r' = some k ∧ w.heap.size ≤ k) ∧ Turn (fun k => k = b ∨ some k = r) w w'

theorem wr_parts {w : World} {b : Nat} {r : Option Nat} {xs : List UInt8} (h : Wr w b r xs) : b < w.heap.size ∧ ∀ k, r = some k → k < w.heap.size ∧ k ≠ b := by
  obtain ⟨v, h1, h2, h3, h4⟩ := h
  refine ⟨h1.lt, fun k hk => ⟨?_, fun e => h4 (by rw [hk, e])⟩⟩
  rw [hk] at h3
  exact own_lt h2 h3
theorem wr_mov {F : Nat → Prop} {w w' : World} {b : Nat} {r : Option Nat} {xs : List UInt8} (h : Wr w b r xs) (t : Turn F w w') (hb : ¬ F b) (hr : ∀ k, r = some k → ¬ F k) : Wr w' b r xs := by
  obtain ⟨v, h1, h2, h3, h4⟩ := h
  exact ⟨v, h1.turn t hb, own_turn h2 t (fun k hk => hr k (by rw [← h3, hk])), h3, h4⟩

section
variable {w V : World} {b : Nat} {r : Option Nat} {T : TypeId} {cs : Array Value} {xs : List UInt8}
theorem Pu.start (h : Wr w b r xs) : Pu w b r T cs xs (w.alloc (.cells cs T)) :=
  ⟨⟨r, wr_mov h (F := fun k => w.heap.size ≤ k) ((Turn.refl _ w).alloc _) (by have := (wr_parts h).1; omega) (fun k hk e => by have := ((wr_parts h).2 k hk).1; omega), .inl rfl⟩, made_at _ _ rfl, (Turn.refl _ w).alloc _, (wr_parts h).1, fun k hk => ((wr_parts h).2 k hk).1⟩
theorem Pu.drew (h : Pu w b r T cs xs V) : Pu w b r T cs xs V.drew := by
  obtain ⟨r', h1, h2⟩ := h.wr
  exact ⟨⟨r', wr_mov h1 (F := fun _ => False) (Turn.refl _ V).drew (fun e => e) (fun _ _ e => e), h2⟩, h.box.drew, h.turn.drew, h.lt⟩
theorem Pu.did {ys : List UInt8} {V' : World} (h : Pu w b r T cs xs V) {r1 : Option Nat} (h1 : r1 = r ∨ ∃ k, r1 = some k ∧ w.heap.size < k) (p : ∃ r', Wr V' b r' ys ∧ (r' = r1 ∨ ∃ k, r' = some k ∧ V.heap.size ≤ k) ∧ Turn (fun k => k = b ∨ some k = r1) V V') : Pu w b r T cs ys V' := by
  obtain ⟨r', a1, a2, t⟩ := p
  have hlt := h.box.lt
  refine ⟨⟨r', a1, ?_⟩, h.box.turn t (fun e => ?_), h.turn.trans t (fun j hj e => ?_), h.lt⟩
  · rcases a2 with e | ⟨k, e, hk⟩
    · rw [e]; exact h1
    · exact .inr ⟨k, e, by omega⟩
  · rcases e with e | e
    · have := h.lt.1; omega
    · rcases h1 with e1 | ⟨k, e1, hk⟩
      · have := h.lt.2 _ (e1.symm.trans e.symm); omega
      · rw [e1] at e; injection e with e; omega
  · rcases e with e | e
    · exact .inl e
    · rcases h1 with e1 | ⟨k, e1, hk⟩
      · exact .inr (e.trans e1)
      · rw [e1] at e; injection e with e; omega
theorem Pu.num (h : Pu w b r T cs xs V) (n : Int) (hn : 0 ≤ n) (hn2 : n < 18446744073709551616) (hl : xs.length ≤ 1000000) :
    Calls Tryz.prog 75 #[.pointer (some ⟨b, 0, none⟩), .int .u64 n] V fun en V' => en = .returned (.pointer (some ⟨b, 0, none⟩)) ∧ Pu w b r T cs (xs ++ enc n.toNat) V' := by
  obtain ⟨r', h1, h2⟩ := h.wr
  exact (wnum_int b r' xs n V hn hn2 h1 hl).mono fun en V' p => ⟨p.1, h.did h2 p.2⟩
theorem Pu.str (h : Pu w b r T cs xs V) (s : ByteArray) (hs : s.size ≤ 1000000) (hl : xs.length ≤ 1000000) :
    Calls Tryz.prog 161 #[.pointer (some ⟨b, 0, none⟩), .string s] V fun en V' => en = .returned (.pointer (some ⟨b, 0, none⟩)) ∧ Pu w b r T cs (xs ++ enc s.size ++ s.data.toList) V' := by
  obtain ⟨r', h1, h2⟩ := h.wr
  exact (wstr_any b r' xs s V h1 hl hs).mono fun en V' p => ⟨p.1, h.did h2 p.2⟩
theorem Pu.any (h : Pu w b r T cs xs V) : PuS w b r T cs V := ⟨xs, h⟩
theorem Pu.ends (h : Pu w b r T cs xs V) : PutPost w b r xs V := by
  obtain ⟨r', h1, h2⟩ := h.wr
  exact ⟨r', h1, h2.imp id (fun ⟨k, e, hk⟩ => ⟨k, e, by omega⟩), h.turn⟩
end
theorem wp_named {P : Program} {c : Code} {Q : Exit → Act → World → Prop} {a : Act} {w : World} (h : ∀ V, w = V → c.wp P Q a V) : c.wp P Q a w := h w rfl

set_option maxRecDepth 100000 in
set_option maxHeartbeats 4000000 in
theorem tput_calls (o : text.OpV) (ho : GT o) (b : Nat) (r : Option Nat) (xs : List UInt8) (w : World) (hl : xs.length ≤ 900000) (hW : Wr w b r xs) :
    Calls Tryz.prog 117 #[.agg #[.int .i64 o.k, .int .i64 o.a, .string o.x, .int .i64 o.n], .pointer (some ⟨b, 0, none⟩)] w fun en w' => en = .returned (.tuple #[]) ∧ PutPost w b r (xs ++ opT o) w' := by
  obtain ⟨k, a, x, n⟩ := o
  obtain ⟨h0, h1, h2⟩ := text.chk_ok ho
  dsimp only at h0 h1 h2
  unfold opT
  dsimp only
  have HS : Hid (Pu w b r 33 #[.int .i64 k, .int .i64 a, .string x, .int .i64 n] xs (w.alloc (.cells #[.int .i64 k, .int .i64 a, .string x, .int .i64 n] 33))) := Lib.hid (Pu.start hW)
  have ha : max a 0 = a := by omega
  have hal : (enc a.toNat).length ≤ 11 := enc_len _ (by omega)
  have hkl : (enc k.toNat).length ≤ 11 := enc_len _ (by omega)
  have HL := Lib.hid (show _ ∧ _ ∧ _ from ⟨hl, hal, hkl⟩)
  have HA := Lib.hid (show _ ∧ _ from ⟨h0, h1⟩)
  clear hW hl hal hkl ho
  rcases h2 with ⟨rfl, h2, h3, rfl⟩ | ⟨rfl, h2, h3, h4⟩
  · go_enter Tryz.func117, Tryz.ntmps117
    go_wp2_with fail
    refine wp_named (fun W hW => ?_)
    rw [hW] at HS
    clear hW
    refine Go.wp_region_held (S := (PuS w b r 33 #[.int .i64 1, .int .i64 a, .string x, .int .i64 0])) (by kernel_rfl) ?_
    have P0 := HS.out.drew
    have S0 := P0.any
    refine held_take 0 (some 4) (v := .pointer (some ⟨b, 0, none⟩)) rfl rfl (by kernel_rfl) (by kernel_rfl) (by kernel_rfl) (fun _ _ _ h => h) (.inl ⟨by kernel_rfl, fun V hV => by rfl⟩) S0 ?_
    simp only [Act.put, List.setIfInBounds_toArray, List.set_cons_zero, List.set_cons_succ]
    refine held_take 1 (some 5) (v := .pointer (some ⟨w.heap.size, 0, none⟩)) rfl rfl (by kernel_rfl) (by kernel_rfl) (by kernel_rfl) (fun _ _ _ h => h) (.inl ⟨by kernel_rfl, fun V hV => by go_simp⟩) S0 ?_
    simp only [Act.put, List.setIfInBounds_toArray, List.set_cons_zero, List.set_cons_succ]
    refine held_take 2 (some 6) (v := .int .i64 1) rfl rfl (by kernel_rfl) (by kernel_rfl) (by kernel_rfl) (fun _ _ _ h => h) (.inl ⟨by kernel_rfl, fun V hV => by obtain ⟨ys, hV⟩ := hV; have c0 : V.cell? ⟨w.heap.size, 0, none⟩ = some (.int .i64 1) := hV.box.cell 0; go_simp⟩) S0 ?_
    simp only [Act.put, List.setIfInBounds_toArray, List.set_cons_zero, List.set_cons_succ]
    refine held_take 3 (some 7) (v := .int .u64 1) rfl rfl (by kernel_rfl) (by kernel_rfl) (by kernel_rfl) (fun _ _ _ h => h) (.inl ⟨by kernel_rfl, fun V hV => by first | (go_simp; done) | (go_simp; rfl)⟩) S0 ?_
    simp only [Act.put, List.setIfInBounds_toArray, List.set_cons_zero, List.set_cons_succ]
    refine held_take 5 (some 9) (v := .pointer (some ⟨w.heap.size, 1, none⟩)) rfl rfl (by kernel_rfl) (by kernel_rfl) (by kernel_rfl) (fun _ _ _ h => h) (.inl ⟨by kernel_rfl, fun V hV => by go_simp⟩) S0 ?_
    simp only [Act.put, List.setIfInBounds_toArray, List.set_cons_zero, List.set_cons_succ]
    refine held_take 6 (some 10) (v := .int .i64 a) rfl rfl (by kernel_rfl) (by kernel_rfl) (by kernel_rfl) (fun _ _ _ h => h) (.inl ⟨by kernel_rfl, fun V hV => by obtain ⟨ys, hV⟩ := hV; have c0 : V.cell? ⟨w.heap.size, 1, none⟩ = some (.int .i64 a) := hV.box.cell 1; go_simp⟩) S0 ?_
    simp only [Act.put, List.setIfInBounds_toArray, List.set_cons_zero, List.set_cons_succ]
    refine held_take 7 (some 11) (v := .int .i64 a) rfl rfl (by kernel_rfl) (by kernel_rfl) (by kernel_rfl) (fun _ _ _ h => h) (.inl ⟨by kernel_rfl, fun V hV => by first | (go_simp; done) | (go_simp; exact ha)⟩) S0 ?_
    simp only [Act.put, List.setIfInBounds_toArray, List.set_cons_zero, List.set_cons_succ]
    refine held_take 8 (some 12) (v := .int .u64 a) rfl rfl (by kernel_rfl) (by kernel_rfl) (by kernel_rfl) (fun _ _ _ h => h) (.inl ⟨by kernel_rfl, fun V hV => by have hwa : IntKind.u64.wrap a = a := wrap_u64 HA.out.1 (by have := HA.out.2; omega); first | (go_simp; done) | (go_simp; exact hwa)⟩) S0 ?_
    simp only [Act.put, List.setIfInBounds_toArray, List.set_cons_zero, List.set_cons_succ]
    refine held_one (i := 4) (by kernel_rfl) ?_
    refine wpOp_call (some 8) rfl rfl (by kernel_rfl) 75 Tryz.f75 Tryz.func75 (by kernel_rfl) (by kernel_rfl) _ _ rfl #[.pointer (some ⟨b, 0, none⟩), .int .u64 1] (by first | (simp [Act.eval]; done) | (simp [Act.eval, Act.put]; done)) (P0.num 1 (by decide) (by decide) (by have := HL.out; omega)) ?_
    rintro en w1 ⟨rfl, P1⟩
    have S1 := P1.any
    refine ⟨.pointer (some ⟨b, 0, none⟩), rfl, S1, ?_⟩
    simp only [Act.put, List.setIfInBounds_toArray, List.set_cons_zero, List.set_cons_succ]
    refine held_one (i := 9) (by kernel_rfl) ?_
    refine wpOp_call (some 13) rfl rfl (by kernel_rfl) 75 Tryz.f75 Tryz.func75 (by kernel_rfl) (by kernel_rfl) _ _ rfl #[.pointer (some ⟨b, 0, none⟩), .int .u64 a] (by first | (simp [Act.eval]; done) | (simp [Act.eval, Act.put]; done)) (P1.num a HA.out.1 (by have := HA.out; omega) (by have := HL.out; have : (enc (1 : Int).toNat).length ≤ 11 := HL.out.2.2; rw [List.length_append]; omega)) ?_
    rintro en w2 ⟨rfl, P2⟩
    have S2 := P2.any
    refine ⟨.pointer (some ⟨b, 0, none⟩), rfl, S2, ?_⟩
    simp only [Act.put, List.setIfInBounds_toArray, List.set_cons_zero, List.set_cons_succ]
    refine wpAnyH_done (by kernel_rfl) ?_ _
    have HP : Hid (Pu w b r 33 _ _ w2) := Lib.hid P2
    have c0 : w2.cell? ⟨w.heap.size, 0, none⟩ = some (.int .i64 1) := P2.box.cell 0
    have c2 : w2.cell? ⟨w.heap.size, 2, none⟩ = some (.string x) := P2.box.cell 2
    clear P0 P1 P2 S0 S1 S2 HS
    go_wp2_with fail
    refine (HP.out.str x (by omega) (by have := HL.out; have : (enc (1 : Int).toNat).length ≤ 11 := HL.out.2.2; rw [List.length_append, List.length_append]; omega)).mono ?_
    rintro en w3 ⟨rfl, P3⟩
    have H3 := Lib.hid P3.ends
    clear P3 HP
    go_wp2_with fail
    go_end0
    refine ⟨rfl, ?_⟩
    have h := H3.out
    simpa [List.append_assoc] using h
  · go_enter Tryz.func117, Tryz.ntmps117
    go_wp2_with fail
    refine wp_named (fun W hW => ?_)
    rw [hW] at HS
    clear hW
    refine Go.wp_region_held (S := (PuS w b r 33 #[.int .i64 2, .int .i64 a, .string x, .int .i64 n])) (by kernel_rfl) ?_
    have P0 := HS.out.drew
    have S0 := P0.any
    refine held_take 0 (some 4) (v := .pointer (some ⟨b, 0, none⟩)) rfl rfl (by kernel_rfl) (by kernel_rfl) (by kernel_rfl) (fun _ _ _ h => h) (.inl ⟨by kernel_rfl, fun V hV => by rfl⟩) S0 ?_
    simp only [Act.put, List.setIfInBounds_toArray, List.set_cons_zero, List.set_cons_succ]
    refine held_take 1 (some 5) (v := .pointer (some ⟨w.heap.size, 0, none⟩)) rfl rfl (by kernel_rfl) (by kernel_rfl) (by kernel_rfl) (fun _ _ _ h => h) (.inl ⟨by kernel_rfl, fun V hV => by go_simp⟩) S0 ?_
    simp only [Act.put, List.setIfInBounds_toArray, List.set_cons_zero, List.set_cons_succ]
    refine held_take 2 (some 6) (v := .int .i64 2) rfl rfl (by kernel_rfl) (by kernel_rfl) (by kernel_rfl) (fun _ _ _ h => h) (.inl ⟨by kernel_rfl, fun V hV => by obtain ⟨ys, hV⟩ := hV; have c0 : V.cell? ⟨w.heap.size, 0, none⟩ = some (.int .i64 2) := hV.box.cell 0; go_simp⟩) S0 ?_
    simp only [Act.put, List.setIfInBounds_toArray, List.set_cons_zero, List.set_cons_succ]
    refine held_take 3 (some 7) (v := .int .u64 2) rfl rfl (by kernel_rfl) (by kernel_rfl) (by kernel_rfl) (fun _ _ _ h => h) (.inl ⟨by kernel_rfl, fun V hV => by first | (go_simp; done) | (go_simp; rfl)⟩) S0 ?_
    simp only [Act.put, List.setIfInBounds_toArray, List.set_cons_zero, List.set_cons_succ]
    refine held_take 5 (some 9) (v := .pointer (some ⟨w.heap.size, 1, none⟩)) rfl rfl (by kernel_rfl) (by kernel_rfl) (by kernel_rfl) (fun _ _ _ h => h) (.inl ⟨by kernel_rfl, fun V hV => by go_simp⟩) S0 ?_
    simp only [Act.put, List.setIfInBounds_toArray, List.set_cons_zero, List.set_cons_succ]
    refine held_take 6 (some 10) (v := .int .i64 a) rfl rfl (by kernel_rfl) (by kernel_rfl) (by kernel_rfl) (fun _ _ _ h => h) (.inl ⟨by kernel_rfl, fun V hV => by obtain ⟨ys, hV⟩ := hV; have c0 : V.cell? ⟨w.heap.size, 1, none⟩ = some (.int .i64 a) := hV.box.cell 1; go_simp⟩) S0 ?_
    simp only [Act.put, List.setIfInBounds_toArray, List.set_cons_zero, List.set_cons_succ]
    refine held_take 7 (some 11) (v := .int .i64 a) rfl rfl (by kernel_rfl) (by kernel_rfl) (by kernel_rfl) (fun _ _ _ h => h) (.inl ⟨by kernel_rfl, fun V hV => by first | (go_simp; done) | (go_simp; exact ha)⟩) S0 ?_
    simp only [Act.put, List.setIfInBounds_toArray, List.set_cons_zero, List.set_cons_succ]
    refine held_take 8 (some 12) (v := .int .u64 a) rfl rfl (by kernel_rfl) (by kernel_rfl) (by kernel_rfl) (fun _ _ _ h => h) (.inl ⟨by kernel_rfl, fun V hV => by have hwa : IntKind.u64.wrap a = a := wrap_u64 HA.out.1 (by have := HA.out.2; omega); first | (go_simp; done) | (go_simp; exact hwa)⟩) S0 ?_
    simp only [Act.put, List.setIfInBounds_toArray, List.set_cons_zero, List.set_cons_succ]
    refine held_one (i := 4) (by kernel_rfl) ?_
    refine wpOp_call (some 8) rfl rfl (by kernel_rfl) 75 Tryz.f75 Tryz.func75 (by kernel_rfl) (by kernel_rfl) _ _ rfl #[.pointer (some ⟨b, 0, none⟩), .int .u64 2] (by first | (simp [Act.eval]; done) | (simp [Act.eval, Act.put]; done)) (P0.num 2 (by decide) (by decide) (by have := HL.out; omega)) ?_
    rintro en w1 ⟨rfl, P1⟩
    have S1 := P1.any
    refine ⟨.pointer (some ⟨b, 0, none⟩), rfl, S1, ?_⟩
    simp only [Act.put, List.setIfInBounds_toArray, List.set_cons_zero, List.set_cons_succ]
    refine held_one (i := 9) (by kernel_rfl) ?_
    refine wpOp_call (some 13) rfl rfl (by kernel_rfl) 75 Tryz.f75 Tryz.func75 (by kernel_rfl) (by kernel_rfl) _ _ rfl #[.pointer (some ⟨b, 0, none⟩), .int .u64 a] (by first | (simp [Act.eval]; done) | (simp [Act.eval, Act.put]; done)) (P1.num a HA.out.1 (by have := HA.out; omega) (by have := HL.out; have : (enc (2 : Int).toNat).length ≤ 11 := HL.out.2.2; rw [List.length_append]; omega)) ?_
    rintro en w2 ⟨rfl, P2⟩
    have S2 := P2.any
    refine ⟨.pointer (some ⟨b, 0, none⟩), rfl, S2, ?_⟩
    simp only [Act.put, List.setIfInBounds_toArray, List.set_cons_zero, List.set_cons_succ]
    refine wpAnyH_done (by kernel_rfl) ?_ _
    have HP : Hid (Pu w b r 33 _ _ w2) := Lib.hid P2
    have c0 : w2.cell? ⟨w.heap.size, 0, none⟩ = some (.int .i64 2) := P2.box.cell 0
    have c2 : w2.cell? ⟨w.heap.size, 3, none⟩ = some (.int .i64 n) := P2.box.cell 3
    have hn : max n 0 = n := by omega
    have hwn : IntKind.u64.wrap n = n := wrap_u64 (by omega) (by omega)
    clear P0 P1 P2 S0 S1 S2 HS
    go_wp2_with fail
    refine (HP.out.num n (by omega) (by omega) (by have := HL.out; have : (enc (2 : Int).toNat).length ≤ 11 := HL.out.2.2; rw [List.length_append, List.length_append]; omega)).mono ?_
    rintro en w3 ⟨rfl, P3⟩
    have H3 := Lib.hid P3.ends
    clear P3 HP
    go_wp2_with fail
    go_end0
    refine ⟨rfl, ?_⟩
    have h := H3.out
    simpa [List.append_assoc] using h

set_option maxRecDepth 100000 in
set_option maxHeartbeats 4000000 in
theorem sput_calls (o : stock.OpS) (ho : GS o) (b : Nat) (r : Option Nat) (xs : List UInt8) (w : World) (hl : xs.length ≤ 900000) (hW : Wr w b r xs) :
    Calls Tryz.prog 119 #[.agg #[.int .i64 o.k, .string o.s, .int .i64 o.n], .pointer (some ⟨b, 0, none⟩)] w fun en w' => en = .returned (.tuple #[]) ∧ PutPost w b r (xs ++ opS o) w' := by
  obtain ⟨k, s, n⟩ := o
  obtain ⟨h0, _, h2, h3, h4⟩ := stock.chkS_ok ho
  dsimp only at h0 h2 h3 h4 ⊢
  unfold opS
  have HS : Hid (Pu w b r 37 #[.int .i64 k, .string s, .int .i64 n] xs (w.alloc (.cells #[.int .i64 k, .string s, .int .i64 n] 37))) := Lib.hid (Pu.start hW)
  have hn : max n 0 = n := by omega
  have hkl : (enc k.toNat).length ≤ 11 := enc_len _ (by omega)
  have hsl : (enc s.size).length ≤ 11 := enc_len _ (by omega)
  have hsz : s.data.toList.length = s.size := by simp
  have HL := Lib.hid (show _ ∧ _ ∧ _ ∧ _ from ⟨hl, hkl, hsl, hsz⟩)
  have HA := Lib.hid (show _ ∧ _ ∧ _ ∧ _ from ⟨h0, h2, h3, h4⟩)
  clear hW hl hkl hsl hsz ho h0 h2 h3 h4
  go_enter Tryz.func119, Tryz.ntmps119
  go_wp2_with fail
  refine wp_named (fun W hW => ?_)
  rw [hW] at HS
  clear hW
  refine Go.wp_region_held (S := (PuS w b r 37 #[.int .i64 k, .string s, .int .i64 n])) (by kernel_rfl) ?_
  have P0 := HS.out.drew
  have S0 := P0.any
  refine held_take 0 (some 4) (v := .pointer (some ⟨b, 0, none⟩)) rfl rfl (by kernel_rfl) (by kernel_rfl) (by kernel_rfl) (fun _ _ _ h => h) (.inl ⟨by kernel_rfl, fun V hV => by rfl⟩) S0 ?_
  simp only [Act.put, List.setIfInBounds_toArray, List.set_cons_zero, List.set_cons_succ]
  refine held_take 1 (some 5) (v := .pointer (some ⟨w.heap.size, 0, none⟩)) rfl rfl (by kernel_rfl) (by kernel_rfl) (by kernel_rfl) (fun _ _ _ h => h) (.inl ⟨by kernel_rfl, fun V hV => by go_simp⟩) S0 ?_
  simp only [Act.put, List.setIfInBounds_toArray, List.set_cons_zero, List.set_cons_succ]
  refine held_take 2 (some 6) (v := .int .i64 k) rfl rfl (by kernel_rfl) (by kernel_rfl) (by kernel_rfl) (fun _ _ _ h => h) (.inl ⟨by kernel_rfl, fun V hV => by obtain ⟨ys, hV⟩ := hV; have c0 : V.cell? ⟨w.heap.size, 0, none⟩ = some (.int .i64 k) := hV.box.cell 0; go_simp⟩) S0 ?_
  simp only [Act.put, List.setIfInBounds_toArray, List.set_cons_zero, List.set_cons_succ]
  refine held_take 3 (some 7) (v := .int .u64 k) rfl rfl (by kernel_rfl) (by kernel_rfl) (by kernel_rfl) (fun _ _ _ h => h) (.inl ⟨by kernel_rfl, fun V hV => by have hwa : IntKind.u64.wrap k = k := wrap_u64 (by have := HA.out.1; omega) (by have := HA.out.1; omega); first | (go_simp; done) | (go_simp; exact hwa)⟩) S0 ?_
  simp only [Act.put, List.setIfInBounds_toArray, List.set_cons_zero, List.set_cons_succ]
  refine held_take 5 (some 9) (v := .pointer (some ⟨w.heap.size, 1, none⟩)) rfl rfl (by kernel_rfl) (by kernel_rfl) (by kernel_rfl) (fun _ _ _ h => h) (.inl ⟨by kernel_rfl, fun V hV => by go_simp⟩) S0 ?_
  simp only [Act.put, List.setIfInBounds_toArray, List.set_cons_zero, List.set_cons_succ]
  refine held_take 6 (some 10) (v := .string s) rfl rfl (by kernel_rfl) (by kernel_rfl) (by kernel_rfl) (fun _ _ _ h => h) (.inl ⟨by kernel_rfl, fun V hV => by obtain ⟨ys, hV⟩ := hV; have c0 : V.cell? ⟨w.heap.size, 1, none⟩ = some (.string s) := hV.box.cell 1; go_simp⟩) S0 ?_
  simp only [Act.put, List.setIfInBounds_toArray, List.set_cons_zero, List.set_cons_succ]
  refine held_take 8 (some 12) (v := .pointer (some ⟨w.heap.size, 2, none⟩)) rfl rfl (by kernel_rfl) (by kernel_rfl) (by kernel_rfl) (fun _ _ _ h => h) (.inl ⟨by kernel_rfl, fun V hV => by go_simp⟩) S0 ?_
  simp only [Act.put, List.setIfInBounds_toArray, List.set_cons_zero, List.set_cons_succ]
  refine held_take 9 (some 13) (v := .int .i64 n) rfl rfl (by kernel_rfl) (by kernel_rfl) (by kernel_rfl) (fun _ _ _ h => h) (.inl ⟨by kernel_rfl, fun V hV => by obtain ⟨ys, hV⟩ := hV; have c0 : V.cell? ⟨w.heap.size, 2, none⟩ = some (.int .i64 n) := hV.box.cell 2; go_simp⟩) S0 ?_
  simp only [Act.put, List.setIfInBounds_toArray, List.set_cons_zero, List.set_cons_succ]
  refine held_take 10 (some 14) (v := .int .i64 n) rfl rfl (by kernel_rfl) (by kernel_rfl) (by kernel_rfl) (fun _ _ _ h => h) (.inl ⟨by kernel_rfl, fun V hV => by first | (go_simp; done) | (go_simp; exact hn)⟩) S0 ?_
  simp only [Act.put, List.setIfInBounds_toArray, List.set_cons_zero, List.set_cons_succ]
  refine held_take 11 (some 15) (v := .int .u64 n) rfl rfl (by kernel_rfl) (by kernel_rfl) (by kernel_rfl) (fun _ _ _ h => h) (.inl ⟨by kernel_rfl, fun V hV => by have hwa : IntKind.u64.wrap n = n := wrap_u64 (by have := HA.out; omega) (by have := HA.out; omega); first | (go_simp; done) | (go_simp; exact hwa)⟩) S0 ?_
  simp only [Act.put, List.setIfInBounds_toArray, List.set_cons_zero, List.set_cons_succ]
  refine held_one (i := 4) (by kernel_rfl) ?_
  refine wpOp_call (some 8) rfl rfl (by kernel_rfl) 75 Tryz.f75 Tryz.func75 (by kernel_rfl) (by kernel_rfl) _ _ rfl #[.pointer (some ⟨b, 0, none⟩), .int .u64 k] (by first | (simp [Act.eval]; done) | (simp [Act.eval, Act.put]; done)) (P0.num k (by have := HA.out.1; omega) (by have := HA.out.1; omega) (by have := HL.out; omega)) ?_
  rintro en w1 ⟨rfl, P1⟩
  have S1 := P1.any
  refine ⟨.pointer (some ⟨b, 0, none⟩), rfl, S1, ?_⟩
  simp only [Act.put, List.setIfInBounds_toArray, List.set_cons_zero, List.set_cons_succ]
  refine held_one (i := 7) (by kernel_rfl) ?_
  refine wpOp_call (some 11) rfl rfl (by kernel_rfl) 161 Tryz.f161 Tryz.func161 (by kernel_rfl) (by kernel_rfl) _ _ rfl #[.pointer (some ⟨b, 0, none⟩), .string s] (by first | (simp [Act.eval]; done) | (simp [Act.eval, Act.put]; done)) (P1.str s (by have := HA.out; omega) (by have := HL.out; rw [List.length_append]; omega)) ?_
  rintro en w2 ⟨rfl, P2⟩
  have S2 := P2.any
  refine ⟨.pointer (some ⟨b, 0, none⟩), rfl, S2, ?_⟩
  simp only [Act.put, List.setIfInBounds_toArray, List.set_cons_zero, List.set_cons_succ]
  refine held_one (i := 12) (by kernel_rfl) ?_
  refine wpOp_call (some 16) rfl rfl (by kernel_rfl) 75 Tryz.f75 Tryz.func75 (by kernel_rfl) (by kernel_rfl) _ _ rfl #[.pointer (some ⟨b, 0, none⟩), .int .u64 n] (by first | (simp [Act.eval]; done) | (simp [Act.eval, Act.put]; done)) (P2.num n (by have := HA.out; omega) (by have := HA.out; omega) (by have := HL.out; have := HA.out; simp only [List.length_append]; omega)) ?_
  rintro en w3 ⟨rfl, P3⟩
  have S3 := P3.any
  refine ⟨.pointer (some ⟨b, 0, none⟩), rfl, S3, ?_⟩
  simp only [Act.put, List.setIfInBounds_toArray, List.set_cons_zero, List.set_cons_succ]
  refine wpAnyH_done (by kernel_rfl) ?_ _
  have H3 := Lib.hid P3.ends
  clear P0 P1 P2 P3 S0 S1 S2 S3 HS
  go_wp2_with fail
  go_end0
  refine ⟨rfl, ?_⟩
  have h := H3.out
  simpa only [List.append_assoc] using h

set_option maxRecDepth 100000 in
set_option maxHeartbeats 4000000 in
theorem lput_calls (o : OpL) (ho : GL o) (b : Nat) (r : Option Nat) (xs : List UInt8) (w : World) (hl : xs.length ≤ 900000) (hW : Wr w b r xs) :
    Calls Tryz.prog 118 #[.agg #[.int .i64 o.k, .string o.s, .string o.t, .int .i64 o.n], .pointer (some ⟨b, 0, none⟩)] w fun en w' => en = .returned (.tuple #[]) ∧ PutPost w b r (xs ++ opL o) w' := by
  obtain ⟨k, s, t, n⟩ := o
  obtain ⟨h0, h1, h2, h3, h4, _⟩ := gl_parts ho
  dsimp only at h0 h1 h2 h3 h4 ⊢
  unfold opL
  dsimp only
  obtain ⟨tl, htl⟩ : ∃ tl, tl = (if k = 3 then enc t.size ++ (t.data.toList ++ enc n.toNat) else []) := ⟨_, rfl⟩
  rw [← htl]
  have HTL := Lib.hid htl
  clear htl
  have HS : Hid (Pu w b r 35 #[.int .i64 k, .string s, .string t, .int .i64 n] xs (w.alloc (.cells #[.int .i64 k, .string s, .string t, .int .i64 n] 35))) := Lib.hid (Pu.start hW)
  have hn : max n 0 = n := by omega
  have hkl : (enc k.toNat).length ≤ 11 := enc_len _ (by omega)
  have hsl : (enc s.size).length ≤ 11 := enc_len _ (by omega)
  have htl : (enc t.size).length ≤ 11 := enc_len _ (by omega)
  have hsz : s.data.toList.length = s.size ∧ t.data.toList.length = t.size := by simp
  have HL := Lib.hid (show _ ∧ _ ∧ _ ∧ _ ∧ _ from ⟨hl, hkl, hsl, htl, hsz⟩)
  have HA := Lib.hid (show _ ∧ _ ∧ _ ∧ _ ∧ _ from ⟨h0, h1, h2, h3, h4⟩)
  clear hW hl hkl hsl htl hsz ho h0 h1 h2 h3 h4
  go_enter Tryz.func118, Tryz.ntmps118
  go_wp2_with fail
  refine wp_named (fun W hW => ?_)
  rw [hW] at HS
  clear hW
  refine Go.wp_region_held (S := (PuS w b r 35 #[.int .i64 k, .string s, .string t, .int .i64 n])) (by kernel_rfl) ?_
  have P0 := HS.out.drew
  have S0 := P0.any
  refine held_take 0 (some 4) (v := .pointer (some ⟨b, 0, none⟩)) rfl rfl (by kernel_rfl) (by kernel_rfl) (by kernel_rfl) (fun _ _ _ h => h) (.inl ⟨by kernel_rfl, fun V hV => by rfl⟩) S0 ?_
  simp only [Act.put, List.setIfInBounds_toArray, List.set_cons_zero, List.set_cons_succ]
  refine held_take 1 (some 5) (v := .pointer (some ⟨w.heap.size, 0, none⟩)) rfl rfl (by kernel_rfl) (by kernel_rfl) (by kernel_rfl) (fun _ _ _ h => h) (.inl ⟨by kernel_rfl, fun V hV => by go_simp⟩) S0 ?_
  simp only [Act.put, List.setIfInBounds_toArray, List.set_cons_zero, List.set_cons_succ]
  refine held_take 2 (some 6) (v := .int .i64 k) rfl rfl (by kernel_rfl) (by kernel_rfl) (by kernel_rfl) (fun _ _ _ h => h) (.inl ⟨by kernel_rfl, fun V hV => by obtain ⟨ys, hV⟩ := hV; have c0 : V.cell? ⟨w.heap.size, 0, none⟩ = some (.int .i64 k) := hV.box.cell 0; go_simp⟩) S0 ?_
  simp only [Act.put, List.setIfInBounds_toArray, List.set_cons_zero, List.set_cons_succ]
  refine held_take 3 (some 7) (v := .int .u64 k) rfl rfl (by kernel_rfl) (by kernel_rfl) (by kernel_rfl) (fun _ _ _ h => h) (.inl ⟨by kernel_rfl, fun V hV => by have hwa : IntKind.u64.wrap k = k := wrap_u64 (by have := HA.out.1; omega) (by have := HA.out.1; omega); first | (go_simp; done) | (go_simp; exact hwa)⟩) S0 ?_
  simp only [Act.put, List.setIfInBounds_toArray, List.set_cons_zero, List.set_cons_succ]
  refine held_take 5 (some 9) (v := .pointer (some ⟨w.heap.size, 1, none⟩)) rfl rfl (by kernel_rfl) (by kernel_rfl) (by kernel_rfl) (fun _ _ _ h => h) (.inl ⟨by kernel_rfl, fun V hV => by go_simp⟩) S0 ?_
  simp only [Act.put, List.setIfInBounds_toArray, List.set_cons_zero, List.set_cons_succ]
  refine held_take 6 (some 10) (v := .string s) rfl rfl (by kernel_rfl) (by kernel_rfl) (by kernel_rfl) (fun _ _ _ h => h) (.inl ⟨by kernel_rfl, fun V hV => by obtain ⟨ys, hV⟩ := hV; have c0 : V.cell? ⟨w.heap.size, 1, none⟩ = some (.string s) := hV.box.cell 1; go_simp⟩) S0 ?_
  simp only [Act.put, List.setIfInBounds_toArray, List.set_cons_zero, List.set_cons_succ]
  refine held_one (i := 4) (by kernel_rfl) ?_
  refine wpOp_call (some 8) rfl rfl (by kernel_rfl) 75 Tryz.f75 Tryz.func75 (by kernel_rfl) (by kernel_rfl) _ _ rfl #[.pointer (some ⟨b, 0, none⟩), .int .u64 k] (by first | (simp [Act.eval]; done) | (simp [Act.eval, Act.put]; done)) (P0.num k (by have := HA.out.1; omega) (by have := HA.out.1; omega) (by have := HL.out; omega)) ?_
  rintro en w1 ⟨rfl, P1⟩
  have S1 := P1.any
  refine ⟨.pointer (some ⟨b, 0, none⟩), rfl, S1, ?_⟩
  simp only [Act.put, List.setIfInBounds_toArray, List.set_cons_zero, List.set_cons_succ]
  refine held_one (i := 7) (by kernel_rfl) ?_
  refine wpOp_call (some 11) rfl rfl (by kernel_rfl) 161 Tryz.f161 Tryz.func161 (by kernel_rfl) (by kernel_rfl) _ _ rfl #[.pointer (some ⟨b, 0, none⟩), .string s] (by first | (simp [Act.eval]; done) | (simp [Act.eval, Act.put]; done)) (P1.str s (by have := HA.out; omega) (by have := HL.out; rw [List.length_append]; omega)) ?_
  rintro en w2 ⟨rfl, P2⟩
  have S2 := P2.any
  refine ⟨.pointer (some ⟨b, 0, none⟩), rfl, S2, ?_⟩
  simp only [Act.put, List.setIfInBounds_toArray, List.set_cons_zero, List.set_cons_succ]
  refine wpAnyH_done (by kernel_rfl) ?_ _
  have HP := Lib.hid P2
  have c0 : w2.cell? ⟨w.heap.size, 0, none⟩ = some (.int .i64 k) := P2.box.cell 0
  clear P0 P1 P2 S0 S1 S2 HS
  by_cases hk : k = 3
  · subst hk
    go_wp2_with fail
    refine Go.wp_region_held (S := (PuS w b r 35 #[.int .i64 3, .string s, .string t, .int .i64 n])) (by kernel_rfl) ?_
    have P0 := HP.out.drew
    have S0 := P0.any
    clear HP c0
    refine held_take 0 (some 15) (v := .pointer (some ⟨b, 0, none⟩)) rfl rfl (by kernel_rfl) (by kernel_rfl) (by kernel_rfl) (fun _ _ _ h => h) (.inl ⟨by kernel_rfl, fun V hV => by rfl⟩) S0 ?_
    simp only [Act.put, List.setIfInBounds_toArray, List.set_cons_zero, List.set_cons_succ]
    refine held_take 1 (some 16) (v := .pointer (some ⟨w.heap.size, 2, none⟩)) rfl rfl (by kernel_rfl) (by kernel_rfl) (by kernel_rfl) (fun _ _ _ h => h) (.inl ⟨by kernel_rfl, fun V hV => by go_simp⟩) S0 ?_
    simp only [Act.put, List.setIfInBounds_toArray, List.set_cons_zero, List.set_cons_succ]
    refine held_take 2 (some 17) (v := .string t) rfl rfl (by kernel_rfl) (by kernel_rfl) (by kernel_rfl) (fun _ _ _ h => h) (.inl ⟨by kernel_rfl, fun V hV => by obtain ⟨ys, hV⟩ := hV; have c0 : V.cell? ⟨w.heap.size, 2, none⟩ = some (.string t) := hV.box.cell 2; go_simp⟩) S0 ?_
    simp only [Act.put, List.setIfInBounds_toArray, List.set_cons_zero, List.set_cons_succ]
    refine held_take 4 (some 19) (v := .pointer (some ⟨w.heap.size, 3, none⟩)) rfl rfl (by kernel_rfl) (by kernel_rfl) (by kernel_rfl) (fun _ _ _ h => h) (.inl ⟨by kernel_rfl, fun V hV => by go_simp⟩) S0 ?_
    simp only [Act.put, List.setIfInBounds_toArray, List.set_cons_zero, List.set_cons_succ]
    refine held_take 5 (some 20) (v := .int .i64 n) rfl rfl (by kernel_rfl) (by kernel_rfl) (by kernel_rfl) (fun _ _ _ h => h) (.inl ⟨by kernel_rfl, fun V hV => by obtain ⟨ys, hV⟩ := hV; have c0 : V.cell? ⟨w.heap.size, 3, none⟩ = some (.int .i64 n) := hV.box.cell 3; go_simp⟩) S0 ?_
    simp only [Act.put, List.setIfInBounds_toArray, List.set_cons_zero, List.set_cons_succ]
    refine held_take 6 (some 21) (v := .int .i64 n) rfl rfl (by kernel_rfl) (by kernel_rfl) (by kernel_rfl) (fun _ _ _ h => h) (.inl ⟨by kernel_rfl, fun V hV => by first | (go_simp; done) | (go_simp; exact hn)⟩) S0 ?_
    simp only [Act.put, List.setIfInBounds_toArray, List.set_cons_zero, List.set_cons_succ]
    refine held_take 7 (some 22) (v := .int .u64 n) rfl rfl (by kernel_rfl) (by kernel_rfl) (by kernel_rfl) (fun _ _ _ h => h) (.inl ⟨by kernel_rfl, fun V hV => by have hwa : IntKind.u64.wrap n = n := wrap_u64 (by have := HA.out; omega) (by have := HA.out; omega); first | (go_simp; done) | (go_simp; exact hwa)⟩) S0 ?_
    simp only [Act.put, List.setIfInBounds_toArray, List.set_cons_zero, List.set_cons_succ]
    refine held_one (i := 3) (by kernel_rfl) ?_
    refine wpOp_call (some 18) rfl rfl (by kernel_rfl) 161 Tryz.f161 Tryz.func161 (by kernel_rfl) (by kernel_rfl) _ _ rfl #[.pointer (some ⟨b, 0, none⟩), .string t] (by first | (simp [Act.eval]; done) | (simp [Act.eval, Act.put]; done)) (P0.str t (by have := HA.out; omega) (by have := HL.out; have := HA.out; simp only [List.length_append]; omega)) ?_
    rintro en w3 ⟨rfl, P1⟩
    have S1 := P1.any
    refine ⟨.pointer (some ⟨b, 0, none⟩), rfl, S1, ?_⟩
    simp only [Act.put, List.setIfInBounds_toArray, List.set_cons_zero, List.set_cons_succ]
    refine held_one (i := 8) (by kernel_rfl) ?_
    refine wpOp_call (some 23) rfl rfl (by kernel_rfl) 75 Tryz.f75 Tryz.func75 (by kernel_rfl) (by kernel_rfl) _ _ rfl #[.pointer (some ⟨b, 0, none⟩), .int .u64 n] (by first | (simp [Act.eval]; done) | (simp [Act.eval, Act.put]; done)) (P1.num n (by have := HA.out; omega) (by have := HA.out; omega) (by have := HL.out; have := HA.out; simp only [List.length_append]; omega)) ?_
    rintro en w4 ⟨rfl, P2⟩
    have S2 := P2.any
    refine ⟨.pointer (some ⟨b, 0, none⟩), rfl, S2, ?_⟩
    simp only [Act.put, List.setIfInBounds_toArray, List.set_cons_zero, List.set_cons_succ]
    refine wpAnyH_done (by kernel_rfl) ?_ _
    have H3 := Lib.hid P2.ends
    clear P0 P1 P2 S0 S1 S2
    go_wp2_with fail
    go_end0
    refine ⟨rfl, ?_⟩
    have h := H3.out
    have e : tl = enc t.size ++ (t.data.toList ++ enc n.toNat) := HTL.out.trans (by first | rw [if_pos rfl] | rw [if_pos trivial])
    rw [e]
    simpa only [List.append_assoc] using h
  · have hkb : (k == 3) = false := by simpa using hk
    go_wp2_with fail
    go_end0
    refine ⟨rfl, ?_⟩
    have h := HP.out.ends
    have e := HTL.out
    rw [if_neg hk] at e
    rw [e]
    simpa only [List.append_assoc, List.append_nil] using h

set_option maxRecDepth 100000 in
set_option maxHeartbeats 4000000 in
theorem oput_calls (o : OpO) (ho : OpO.Good o) (b : Nat) (r : Option Nat) (xs : List UInt8) (w : World) (hl : xs.length ≤ 800000) (hW : Wr w b r xs) :
    Calls Tryz.prog 76 #[.agg o.cells, .pointer (some ⟨b, 0, none⟩)] w fun en w' => en = .returned (.tuple #[]) ∧ PutPost w b r (xs ++ opB o) w' := by
  obtain ⟨k, ⟨tk, ta, tx, tn⟩, ⟨lk, ls, lt, ln⟩, ⟨sk, ss, sn⟩⟩ := o
  show Calls Tryz.prog 76 #[.agg #[.int .i64 k, .int .i64 tk, .int .i64 ta, .string tx, .int .i64 tn, .int .i64 lk, .string ls, .string lt, .int .i64 ln, .int .i64 sk, .string ss, .int .i64 sn], .pointer (some ⟨b, 0, none⟩)] w _
  have HS : Hid (Pu w b r 39 #[.int .i64 k, .int .i64 tk, .int .i64 ta, .string tx, .int .i64 tn, .int .i64 lk, .string ls, .string lt, .int .i64 ln, .int .i64 sk, .string ss, .int .i64 sn] xs (w.alloc (.cells #[.int .i64 k, .int .i64 tk, .int .i64 ta, .string tx, .int .i64 tn, .int .i64 lk, .string ls, .string lt, .int .i64 ln, .int .i64 sk, .string ss, .int .i64 sn] 39))) := Lib.hid (Pu.start hW)
  have hkk : k = 1 ∨ k = 2 ∨ k = 3 := by rcases ho with h | h | h <;> (have := h.1; dsimp only at this; omega)
  have HO := Lib.hid ho
  have HL := Lib.hid hl
  unfold opB
  dsimp only
  clear hW hl ho
  rcases hkk with rfl | rfl | rfl
  · have hg : GT ⟨tk, ta, tx, tn⟩ := by
      rcases HO.out with h | h | h
      all_goals first | exact h.2.1 | (exfalso; have h1 := h.1; dsimp only at h1; omega)
    have HG := Lib.hid hg
    clear hg
    go_enter Tryz.func76, Tryz.ntmps76
    have c0 : ∀ cs : Array Value, cs[0]? = some (.int .i64 1) → (w.alloc (.cells cs 39)).cell? ⟨w.heap.size, 0, none⟩ = some (.int .i64 1) := fun cs h => ((made_at _ _ rfl : Has _ w.heap.size 39 cs).cell 0).trans h
    go_wp2_with fail
    refine callsName (fun W hW => ?_)
    rw [hW] at HS
    clear hW c0
    refine (HS.out.num 1 (by decide) (by decide) (by have := HL.out; omega)).mono ?_
    rintro en w1 ⟨rfl, P1⟩
    have c0 : w1.cell? ⟨w.heap.size, 0, none⟩ = some (.int .i64 1) := P1.box.cell 0
    have c1 : w1.cell? ⟨w.heap.size, 1, none⟩ = some (.int .i64 tk) := P1.box.cell 1
    have c2 : w1.cell? ⟨w.heap.size, 2, none⟩ = some (.int .i64 ta) := P1.box.cell 2
    have c3 : w1.cell? ⟨w.heap.size, 3, none⟩ = some (.string tx) := P1.box.cell 3
    have c4 : w1.cell? ⟨w.heap.size, 4, none⟩ = some (.int .i64 tn) := P1.box.cell 4
    have HP := Lib.hid P1
    clear P1 HS
    go_wp2_with fail
    obtain ⟨r1, h1, h2⟩ := HP.out.wr
    have HR := Lib.hid (show _ ∧ _ from ⟨h1, h2⟩)
    clear h1 h2
    refine (tput_calls (⟨tk, ta, tx, tn⟩ : text.OpV) HG.out b r1 _ w1 (by have := HL.out; have := enc_len (1 : Int).toNat (by decide); rw [List.length_append]; omega) HR.out.1).mono ?_
    rintro en w2 ⟨rfl, p⟩
    have H3 := Lib.hid (HP.out.did HR.out.2 p).ends
    clear p HP HR
    go_wp2_with fail
    go_end0
    refine ⟨rfl, ?_⟩
    have h := H3.out
    simpa [List.append_assoc] using h
  · have hg : GL ⟨lk, ls, lt, ln⟩ := by
      rcases HO.out with h | h | h
      all_goals first | exact h.2.1 | (exfalso; have h1 := h.1; dsimp only at h1; omega)
    have HG := Lib.hid hg
    clear hg
    go_enter Tryz.func76, Tryz.ntmps76
    have c0 : ∀ cs : Array Value, cs[0]? = some (.int .i64 2) → (w.alloc (.cells cs 39)).cell? ⟨w.heap.size, 0, none⟩ = some (.int .i64 2) := fun cs h => ((made_at _ _ rfl : Has _ w.heap.size 39 cs).cell 0).trans h
    go_wp2_with fail
    refine callsName (fun W hW => ?_)
    rw [hW] at HS
    clear hW c0
    refine (HS.out.num 2 (by decide) (by decide) (by have := HL.out; omega)).mono ?_
    rintro en w1 ⟨rfl, P1⟩
    have c0 : w1.cell? ⟨w.heap.size, 0, none⟩ = some (.int .i64 2) := P1.box.cell 0
    have c5 : w1.cell? ⟨w.heap.size, 5, none⟩ = some (.int .i64 lk) := P1.box.cell 5
    have c6 : w1.cell? ⟨w.heap.size, 6, none⟩ = some (.string ls) := P1.box.cell 6
    have c7 : w1.cell? ⟨w.heap.size, 7, none⟩ = some (.string lt) := P1.box.cell 7
    have c8 : w1.cell? ⟨w.heap.size, 8, none⟩ = some (.int .i64 ln) := P1.box.cell 8
    have HP := Lib.hid P1
    clear P1 HS
    go_wp2_with fail
    obtain ⟨r1, h1, h2⟩ := HP.out.wr
    have HR := Lib.hid (show _ ∧ _ from ⟨h1, h2⟩)
    clear h1 h2
    refine (lput_calls (⟨lk, ls, lt, ln⟩ : OpL) HG.out b r1 _ w1 (by have := HL.out; have := enc_len (2 : Int).toNat (by decide); rw [List.length_append]; omega) HR.out.1).mono ?_
    rintro en w2 ⟨rfl, p⟩
    have H3 := Lib.hid (HP.out.did HR.out.2 p).ends
    clear p HP HR
    go_wp2_with fail
    go_end0
    refine ⟨rfl, ?_⟩
    have h := H3.out
    simpa [List.append_assoc] using h
  · have hg : GS ⟨sk, ss, sn⟩ := by
      rcases HO.out with h | h | h
      all_goals first | exact h.2.1 | (exfalso; have h1 := h.1; dsimp only at h1; omega)
    have HG := Lib.hid hg
    clear hg
    go_enter Tryz.func76, Tryz.ntmps76
    have c0 : ∀ cs : Array Value, cs[0]? = some (.int .i64 3) → (w.alloc (.cells cs 39)).cell? ⟨w.heap.size, 0, none⟩ = some (.int .i64 3) := fun cs h => ((made_at _ _ rfl : Has _ w.heap.size 39 cs).cell 0).trans h
    go_wp2_with fail
    refine callsName (fun W hW => ?_)
    rw [hW] at HS
    clear hW c0
    refine (HS.out.num 3 (by decide) (by decide) (by have := HL.out; omega)).mono ?_
    rintro en w1 ⟨rfl, P1⟩
    have c0 : w1.cell? ⟨w.heap.size, 0, none⟩ = some (.int .i64 3) := P1.box.cell 0
    have c9 : w1.cell? ⟨w.heap.size, 9, none⟩ = some (.int .i64 sk) := P1.box.cell 9
    have c10 : w1.cell? ⟨w.heap.size, 10, none⟩ = some (.string ss) := P1.box.cell 10
    have c11 : w1.cell? ⟨w.heap.size, 11, none⟩ = some (.int .i64 sn) := P1.box.cell 11
    have HP := Lib.hid P1
    clear P1 HS
    go_wp2_with fail
    obtain ⟨r1, h1, h2⟩ := HP.out.wr
    have HR := Lib.hid (show _ ∧ _ from ⟨h1, h2⟩)
    clear h1 h2
    refine (sput_calls (⟨sk, ss, sn⟩ : stock.OpS) HG.out b r1 _ w1 (by have := HL.out; have := enc_len (3 : Int).toNat (by decide); rw [List.length_append]; omega) HR.out.1).mono ?_
    rintro en w2 ⟨rfl, p⟩
    have H3 := Lib.hid (HP.out.did HR.out.2 p).ends
    clear p HP HR
    go_wp2_with fail
    go_end0
    refine ⟨rfl, ?_⟩
    have h := H3.out
    simpa [List.append_assoc] using h
end Go.Proofs.YtcdedkgkingbdaaGreatDoor.rep
