/- Texts laid into one: RepE, RepF. -/
import Derived.Test.YtcdedkgkingbdaaGreatDoorQ034
import Derived.Test.YtcdedkgkingbdaaGreatDoorQ038
import Derived.Test.YtcdedkgkingbdaaGreatDoorQ039
import Derived.Maps.OwnSet
import Derived.Test.YtcdedkgkingbdaaGreatDoorQ012
section
/- replay: a line in memory; what it answers of itself. -/
namespace Go.Proofs.YtcdedkgkingbdaaGreatDoor.rep
open Go Go.RowKit Go.Maps Go.Proofs.YtcdedkgkingbdaaGreatDoor.object Go.Proofs.YtcdedkgkingbdaaGreatDoor.prn Go.Proofs.YtcdedkgkingbdaaGreatDoor.tws

/-- Each element stands for itself. -/
def anyR (v : Value) : Option (DataW Value × List MemPlace) := some (.held v, [])
/-- The bytes of a line's commands. -/
def texts (C : List Cm) : List ByteArray := C.map fun c => cmdT c.o c.f
theorem texts_len (C : List Cm) : (texts C).length = C.length := by simp [texts]
theorem texts_app (C D : List Cm) : texts (C ++ D) = texts C ++ texts D := by simp [texts]
theorem texts_at {C : List Cm} {i : Nat} {c : Cm} (h : C[i]? = some c) : (texts C)[i]? = some (cmdT c.o c.f) := by
  unfold texts
  rw [List.getElem?_map, h]; rfl

/-- Which versions are kept whole, and as what. -/
def MarkAt (k : Int) (C : List Cm) (fl n : Nat) (x : Int × ByteArray) : Prop := ∃ v : Nat, (v = fl ∨ (fl < v ∧ v % 4 = 0)) ∧ v ≤ n ∧ x = ((v : Int), (fold k C v).save)
def Marks (k : Int) (C : List Cm) (fl : Nat) (l : List (Int × ByteArray)) : Prop := ∀ x, x ∈ l ↔ MarkAt k C fl C.length x
theorem keys_len : ∀ {l : List (Int × ByteArray)} {a b : Int}, l.Pairwise (fun x y => x.1 < y.1) → (∀ x ∈ l, a ≤ x.1 ∧ x.1 ≤ b) → (l.length : Int) ≤ max (b - a + 1) 0
  | [], _, _, _, _ => by simp; omega
  | x :: l, a, b, h, hb => by
    obtain ⟨h1, h2⟩ := List.pairwise_cons.1 h
    have hx := hb x (by simp)
    have ih := keys_len (a := x.1 + 1) (b := b) h2 (fun y hy => ⟨by have := h1 y hy; omega, (hb y (by simp [hy])).2⟩)
    rw [List.length_cons]
    omega
theorem Marks.len {k : Int} {C : List Cm} {fl : Nat} {l : List (Int × ByteArray)} (h : Marks k C fl l) (hs : l.Pairwise (fun x y => x.1 < y.1)) : l.length ≤ C.length + 1 := by
  have := keys_len (a := 0) (b := C.length) hs (fun x hx => by
    obtain ⟨v, _, h2, rfl⟩ := (h x).1 hx
    exact ⟨by show (0 : Int) ≤ (v : Int); omega, by show (v : Int) ≤ _; omega⟩)
  omega

/-- A line at b: its vault, its object, its list of versions, its map of what was taken back (of nothing). -/
structure Lp (B : Nat) (w : World) (b vb tb m : Nat) (v : Value) (lo hi : Nat) (y : Ob) (k : Int) (C : List Cm) (fl : Nat) (l : List (Int × ByteArray)) (F1 F2 : Nat → Prop) : Prop where
  own : Has w b 53 #[.pointer (some ⟨vb, 0, none⟩), v, .pointer (some ⟨tb, 0, none⟩), .map (some m)]
  va : Va B F1 w vb (texts C) fl
  st : St w v lo hi y
  like : y.Like (fold k C C.length)
  tw : Tw w tb l F2
  mp : w.ownsMap Tryz.prog 3 anyR m 0 (.map [])
  did : Did k C
  kk : k = 1 ∨ k = 2 ∨ k = 3
  marks : Marks k C fl l
  fln : fl ≤ C.length
/-- The blocks of its own. -/
def Fp (b m lo hi : Nat) (F1 F2 : Nat → Prop) (j : Nat) : Prop := j = b ∨ j = m ∨ (lo ≤ j ∧ j < hi) ∨ F1 j ∨ F2 j
structure Ap (B : Nat) (w : World) (b m lo hi : Nat) (F1 F2 : Nat → Prop) : Prop where
  rng : B ≤ lo ∧ hi ≤ w.heap.size
  hb : B ≤ b ∧ B ≤ m ∧ b ≠ m
  h1 : ∀ j, F1 j → B ≤ j ∧ j < w.heap.size ∧ j ≠ b ∧ j ≠ m ∧ ¬ (lo ≤ j ∧ j < hi) ∧ ¬ F2 j
  h2 : ∀ j, F2 j → B ≤ j ∧ j < w.heap.size ∧ j ≠ b ∧ j ≠ m ∧ ¬ (lo ≤ j ∧ j < hi)
  ho : ∀ j, lo ≤ j → j < hi → j ≠ b ∧ j ≠ m
/-- A line of these commands, its floor fl; its blocks are of F. -/
def Ln (B : Nat) (F : Nat → Prop) (w : World) (b : Nat) (k : Int) (C : List Cm) (fl : Nat) : Prop :=
  ∃ vb tb m v lo hi y l F1 F2, Lp B w b vb tb m v lo hi y k C fl l F1 F2 ∧ Ap B w b m lo hi F1 F2 ∧ ∀ j, Fp b m lo hi F1 F2 j → F j

section
variable {B : Nat} {F G : Nat → Prop} {w w' : World} {b vb tb m lo hi fl : Nat} {v : Value} {y : Ob} {k : Int} {C : List Cm} {l : List (Int × ByteArray)} {F1 F2 : Nat → Prop}
theorem map_lt (h : w.ownsMap Tryz.prog 3 anyR m 0 (.map [])) : m < w.heap.size := World.ownsMap.lt h
theorem Lp.turn (h : Lp B w b vb tb m v lo hi y k C fl l F1 F2) (t : Turn G w w') (hG : ∀ j, Fp b m lo hi F1 F2 j → j < w.heap.size → ¬ G j) (hB : ∀ j, G j → B ≤ j) (hhi : hi ≤ w.heap.size) : Lp B w' b vb tb m v lo hi y k C fl l F1 F2 :=
  ⟨h.own.turn t (hG b (.inl rfl) h.own.lt), h.va.turn t (fun j hj hl => hG j (.inr (.inr (.inr (.inl hj)))) hl) hB, h.st.turn t (fun j h1 h2 => hG j (.inr (.inr (.inl ⟨h1, h2⟩))) (by omega)), h.like, h.tw.turn t (fun j hl hj => hG j (.inr (.inr (.inr (.inr hj)))) hl), by
    obtain ⟨es, clock, h1, h2⟩ := h.mp
    exact ⟨es, clock, (t.block m (map_lt h.mp) (hG m (.inr (.inl rfl)) (map_lt h.mp))).trans h1, h2⟩, h.did, h.kk, h.marks, h.fln⟩
theorem Ap.turn (h : Ap B w b m lo hi F1 F2) (t : w.heap.size ≤ w'.heap.size) : Ap B w' b m lo hi F1 F2 :=
  ⟨⟨h.rng.1, by have := h.rng.2; omega⟩, h.hb, fun j hj => ⟨(h.h1 j hj).1, by have := (h.h1 j hj).2.1; omega, (h.h1 j hj).2.2⟩, fun j hj => ⟨(h.h2 j hj).1, by have := (h.h2 j hj).2.1; omega, (h.h2 j hj).2.2⟩, h.ho⟩
theorem Ln.turn (h : Ln B F w b k C fl) (t : Turn G w w') (hG : ∀ j, F j → j < w.heap.size → ¬ G j) (hB : ∀ j, G j → B ≤ j) : Ln B F w' b k C fl := by
  obtain ⟨vb, tb, m, v, lo, hi, y, l, F1, F2, h1, h2, h3⟩ := h
  exact ⟨vb, tb, m, v, lo, hi, y, l, F1, F2, h1.turn t (fun j hj hl => hG j (h3 j hj) hl) hB h2.rng.2, h2.turn t.size, h3⟩
theorem Ln.rt (h : Ln B F w b k C fl) : dig.Rt B w := by
  obtain ⟨vb, tb, m, v, lo, hi, y, l, F1, F2, h1, h2, h3⟩ := h
  exact h1.va.rt
theorem Ln.below (h : Ln B F w b k C fl) (t : Below w.heap.size w w') : Ln B F w' b k C fl :=
  h.turn (Turn.of_below (F := fun k => w.heap.size ≤ k) t (fun _ _ h => h)) (fun j _ h1 h2 => by omega) (fun j hj => Nat.le_trans h.rt.size hj)
theorem Ln.more (h : Ln B F w b k C fl) (hG : ∀ j, j < w.heap.size → F j → G j) : Ln B G w b k C fl := by
  obtain ⟨vb, tb, m, v, lo, hi, y, l, F1, F2, h1, h2, h3⟩ := h
  refine ⟨vb, tb, m, v, lo, hi, y, l, F1, F2, h1, h2, fun j hj => hG j ?_ (h3 j hj)⟩
  rcases hj with rfl | rfl | ⟨_, hj⟩ | hj | hj
  · exact h1.own.lt
  · exact map_lt h1.mp
  · have := h2.rng.2; omega
  · exact (h2.h1 j hj).2.1
  · exact (h2.h2 j hj).2.1
theorem Ln.fln (h : Ln B F w b k C fl) : fl ≤ C.length := by
  obtain ⟨vb, tb, m, v, lo, hi, y, l, F1, F2, h1, h2, h3⟩ := h
  exact h1.fln
theorem Ln.did (h : Ln B F w b k C fl) : Did k C := by
  obtain ⟨vb, tb, m, v, lo, hi, y, l, F1, F2, h1, h2, h3⟩ := h
  exact h1.did
theorem Ln.kk (h : Ln B F w b k C fl) : k = 1 ∨ k = 2 ∨ k = 3 := by
  obtain ⟨vb, tb, m, v, lo, hi, y, l, F1, F2, h1, h2, h3⟩ := h
  exact h1.kk
/-- Its vault, at its own cell. -/
theorem Ln.vault (h : Ln B F w b k C fl) : ∃ vb F1, w.cell? ⟨b, 0, none⟩ = some (.pointer (some ⟨vb, 0, none⟩)) ∧ Va B F1 w vb (texts C) fl ∧ ∀ j, F1 j → F j := by
  obtain ⟨vb, tb, m, v, lo, hi, y, l, F1, F2, h1, h2, h3⟩ := h
  exact ⟨vb, F1, h1.own.cell 0, h1.va, fun j hj => h3 j (.inr (.inr (.inr (.inl hj))))⟩

set_option maxRecDepth 100000 in
set_option maxHeartbeats 1000000 in
theorem Ln.kind_calls (h : Ln B F w b k C fl) : Calls Tryz.prog 24 #[.pointer (some ⟨b, 0, none⟩)] w fun en w' => en = .returned (.int .i64 k) ∧ Below w.heap.size w w' := by
  obtain ⟨vb, tb, m, v, lo, hi, y, l, F1, F2, h1, h2, h3⟩ := h
  obtain ⟨T, d, fK, fD, fC, fS, Fc⟩ := face_of h1.st
  have hk : y.kd = k := h1.like.kd.trans (fold_kd h1.kk C _)
  have e1 : w.cell? ⟨b, 1, none⟩ = some (.iface T (pv d)) := by rw [← Fc.is]; exact h1.own.cell 1
  have mk := Fc.mK
  have ek := Fc.eK
  have HC := Lib.hid (hk ▸ Fc.cK w)
  clear h1 h2 h3 Fc hk
  go_enter Tryz.func24, Tryz.ntmps24
  go_wp2_with fail
  refine HC.out.mono ?_
  rintro en w1 ⟨rfl, b1⟩
  have B1 := Lib.hid b1
  clear b1
  go_wp2_with fail
  go_ret
  exact ⟨rfl, B1.out⟩
set_option maxRecDepth 100000 in
set_option maxHeartbeats 1000000 in
theorem Ln.save_calls (h : Ln B F w b k C fl) : Calls Tryz.prog 25 #[.pointer (some ⟨b, 0, none⟩)] w fun en w' => en = .returned (.string (fold k C C.length).save) ∧ Below w.heap.size w w' := by
  obtain ⟨vb, tb, m, v, lo, hi, y, l, F1, F2, h1, h2, h3⟩ := h
  obtain ⟨T, d, fK, fD, fC, fS, Fc⟩ := face_of h1.st
  have e1 : w.cell? ⟨b, 1, none⟩ = some (.iface T (pv d)) := by rw [← Fc.is]; exact h1.own.cell 1
  have mk := Fc.mS
  have ek := Fc.eS
  have HC := Lib.hid (h1.like.save ▸ Fc.cS w y h1.st)
  clear h1 h2 h3 Fc
  go_enter Tryz.func25, Tryz.ntmps25
  go_wp2_with fail
  refine HC.out.mono ?_
  rintro en w1 ⟨rfl, b1⟩
  have B1 := Lib.hid b1
  clear b1
  go_wp2_with fail
  go_ret
  exact ⟨rfl, B1.out⟩

/-- Why a version isn't there; 0: it is. -/
def wrongE (n fl : Nat) (x : Int) : Int := if x < 0 ∨ x > n then 13 else if x < fl then 14 else 0
set_option maxRecDepth 100000 in
set_option maxHeartbeats 2000000 in
theorem Ln.wrong_calls (h : Ln B F w b k C fl) (x : Int) : Calls Tryz.prog 62 #[.pointer (some ⟨b, 0, none⟩), .int .i64 x] w fun en w' => en = .returned (.int .i64 (wrongE C.length fl x)) ∧ w = w' := by
  obtain ⟨vb, F1, e0, va, _⟩ := h.vault
  have HL : Hid (Calls Tryz.prog 15 #[.pointer (some ⟨vb, 0, none⟩)] w fun en w' => en = .returned (.int .i64 C.length) ∧ w = w') := Lib.hid (by have := va.len_calls; rw [texts_len] at this; exact this)
  have HF := Lib.hid va.floor_calls
  clear h va
  unfold wrongE
  by_cases h1 : x < 0
  · rw [if_pos (.inl h1)]
    go_enter Tryz.func62, Tryz.ntmps62
    go_wp2_with fail
    go_ret
    exact ⟨rfl, rfl⟩
  by_cases h2 : x > C.length
  · rw [if_pos (.inr h2)]
    go_enter Tryz.func62, Tryz.ntmps62
    go_wp2_with fail
    refine HL.out.mono ?_
    rintro en w1 ⟨rfl, rfl⟩
    go_wp2_with fail
    go_ret
    exact ⟨rfl, rfl⟩
  rw [if_neg (by omega)]
  by_cases h3 : x < fl
  · rw [if_pos h3]
    go_enter Tryz.func62, Tryz.ntmps62
    go_wp2_with fail
    refine HL.out.mono ?_
    rintro en w1 ⟨rfl, rfl⟩
    go_wp2_with fail
    refine HF.out.mono ?_
    rintro en w1 ⟨rfl, rfl⟩
    go_wp2_with fail
    go_ret
    exact ⟨rfl, rfl⟩
  · rw [if_neg h3]
    go_enter Tryz.func62, Tryz.ntmps62
    go_wp2_with fail
    refine HL.out.mono ?_
    rintro en w1 ⟨rfl, rfl⟩
    go_wp2_with fail
    refine HF.out.mono ?_
    rintro en w1 ⟨rfl, rfl⟩
    go_wp2_with fail
    go_ret
    exact ⟨rfl, rfl⟩

set_option maxRecDepth 100000 in
set_option maxHeartbeats 4000000 in
theorem Ln.command_ok (h : Ln B F w b k C fl) (i : Nat) (hi : fl ≤ i) (c : Cm) (hc : C[i]? = some c) :
    Calls Tryz.prog 29 #[.pointer (some ⟨b, 0, none⟩), .int .i64 i] w fun en w' => en = .returned (.tuple #[.agg (cmdC c.o c.f), .nilIface]) ∧ Below w.heap.size w w' := by
  obtain ⟨vb, F1, e0, va, _⟩ := h.vault
  obtain ⟨hg, _, hf⟩ := h.did i c hc
  have HA := fun V (b : Below w.heap.size w V) => Lib.hid ((va.below b).at_ok i hi _ (texts_at hc))
  have HA := Lib.hid HA
  obtain ⟨⟨ok, ⟨tk, ta, tx, tn⟩, ⟨lk, ls, lt, ln⟩, ⟨sk, ss, sn⟩⟩, f⟩ := c
  obtain ⟨o, ho⟩ : ∃ o : OpO, o = ⟨ok, ⟨tk, ta, tx, tn⟩, ⟨lk, ls, lt, ln⟩, ⟨sk, ss, sn⟩⟩ := ⟨_, rfl⟩
  have HP : Hid (∀ V, Calls Tryz.prog 73 #[.string (cmdT o f), .int .i64 9223372036854775807] V fun en w' => en = .returned (.tuple #[.agg #[.int .i64 ok, .int .i64 tk, .int .i64 ta, .string tx, .int .i64 tn, .int .i64 lk, .string ls, .string lt, .int .i64 ln, .int .i64 sk, .string ss, .int .i64 sn, .int .i64 f], .nilIface]) ∧ Below V.heap.size V w') := Lib.hid fun V => by
    have := parse_calls _ hg f hf 9223372036854775807 (by have : f < 1000000000 := hf; omega) (by omega) V
    rw [ho]
    exact this
  show Calls Tryz.prog 29 #[.pointer (some ⟨b, 0, none⟩), .int .i64 i] w fun en w' => en = .returned (.tuple #[.agg #[.int .i64 ok, .int .i64 tk, .int .i64 ta, .string tx, .int .i64 tn, .int .i64 lk, .string ls, .string lt, .int .i64 ln, .int .i64 sk, .string ss, .int .i64 sn, .int .i64 f], .nilIface]) ∧ Below w.heap.size w w'
  dsimp only at HA
  rw [← ho] at HA
  have e0' : ∀ O, (w.alloc O).cell? ⟨b, 0, none⟩ = some (.pointer (some ⟨vb, 0, none⟩)) := fun O => by
    have hlt : b < w.heap.size := by
      obtain ⟨_, _, _, _, _, _, _, _, _, _, h1, _⟩ := h
      exact h1.own.lt
    rw [World.cell?_alloc_lt _ _ _ hlt]; exact e0
  clear h va hg hf hc ho e0
  go_enter Tryz.func29, Tryz.ntmps29
  go_wp2_with fail
  refine callsName (fun W hW => ?_)
  have P0 : Hid (Below w.heap.size w W ∧ Has W w.heap.size 60 #[.int .i64 0, .int .i64 0, .int .i64 0, .string ⟨#[]⟩, .int .i64 0, .int .i64 0, .string ⟨#[]⟩, .string ⟨#[]⟩, .int .i64 0, .int .i64 0, .string ⟨#[]⟩, .int .i64 0, .int .i64 0]) := by rw [← hW]; exact Lib.hid ⟨(Below.refl _ _).alloc (Nat.le_refl _) _, made_at _ _ rfl⟩
  clear hW e0'
  refine (HA.out W P0.out.1).out.mono ?_
  rintro en w1 ⟨rfl, b1⟩
  have P1 := Lib.hid (show _ ∧ _ from ⟨P0.out.1.trans (b1.mono P0.out.1.size), P0.out.2.below b1 P0.out.2.lt⟩)
  clear b1 P0 HA
  go_wp2_with fail
  refine (HP.out w1).mono ?_
  rintro en w2 ⟨rfl, b2⟩
  have P2 := Lib.hid (show _ ∧ _ from ⟨P1.out.1.trans (b2.mono P1.out.1.size), P1.out.2.below b2 P1.out.2.lt⟩)
  clear b2 P1 HP
  go_wp2_with (first
    | ((with_reducible refine at_store (.tmp 4) ?_); refine wpList_store_all (o := ⟨none, _, _, _, _, _⟩) rfl 60 (.tmp 4) (.tmp 23) rfl w.heap.size #[.int .i64 ok, .int .i64 tk, .int .i64 ta, .string tx, .int .i64 tn, .int .i64 lk, .string ls, .string lt, .int .i64 ln, .int .i64 sk, .string ss, .int .i64 sn, .int .i64 f] #[.int .i64 0, .int .i64 0, .int .i64 0, .string ⟨#[]⟩, .int .i64 0, .int .i64 0, .string ⟨#[]⟩, .string ⟨#[]⟩, .int .i64 0, .int .i64 0, .string ⟨#[]⟩, .int .i64 0, .int .i64 0] rfl rfl _ P2.out.2 (by kernel_rfl) rfl (by simp [Value.oneCell']) ?_; intro Wb HWb TWb)
    | fail)
  exact bodyPost_ret (v := .tuple #[.agg #[.int .i64 ok, .int .i64 tk, .int .i64 ta, .string tx, .int .i64 tn, .int .i64 lk, .string ls, .string lt, .int .i64 ln, .int .i64 sk, .string ss, .int .i64 sn, .int .i64 f], .nilIface]) (results_cell_tmp rfl _ _ w.heap.size 60 _ _ _ rfl HWb Tryz.underlying60 rfl (by kernel_rfl) _ rfl) rfl
    ⟨rfl, P2.out.1.trans (TWb.below P2.out.1.size (fun j hj e => by omega))⟩
end
end Go.Proofs.YtcdedkgkingbdaaGreatDoor.rep
end

section
/- replay: a version of a line: the object that it was then; its bytes. -/
namespace Go.Proofs.YtcdedkgkingbdaaGreatDoor.rep
open Go Go.RowKit Go.Maps Go.Proofs.YtcdedkgkingbdaaGreatDoor.object Go.Proofs.YtcdedkgkingbdaaGreatDoor.prn Go.Proofs.YtcdedkgkingbdaaGreatDoor.tws

theorem good_short {o : OpO} (h : OpO.Good o) : o.Short := by
  rcases h with ⟨hk, hg, h1, h2⟩ | ⟨hk, hg, h1, h2⟩ | ⟨hk, hg, h1, h2⟩
  · obtain ⟨_, _, h3⟩ := text.chk_ok hg
    refine ⟨by unfold maxLen; omega, ?_, ?_⟩
    · rw [h1]; exact z_short.2.1
    · rw [h2]; exact z_short.2.2
  · obtain ⟨_, h3, h4, _⟩ := gl_parts hg
    refine ⟨?_, ⟨by omega, by omega⟩, ?_⟩
    · rw [h1]; exact z_short.1
    · rw [h2]; exact z_short.2.2
  · obtain ⟨_, _, h3, _⟩ := stock.chkS_ok hg
    refine ⟨?_, ?_, ?_⟩
    · rw [h1]; exact z_short.1
    · rw [h2]; exact z_short.2.1
    · show o.s.s.size ≤ 14; omega

/-- The version that is kept whole nearest below one. -/
theorem floor_mark {k : Int} {C : List Cm} {fl : Nat} {l : List (Int × ByteArray)} (h : Marks k C fl l) (hfl : fl ≤ C.length) {v : Nat} (hv : fl ≤ v) :
    ∃ u : Nat, floorK v l = ((u : Int), (fold k C u).save, true) ∧ fl ≤ u ∧ u ≤ v ∧ u ≤ C.length := by
  have hm : ((fl : Int), (fold k C fl).save) ∈ l := (h _).2 ⟨fl, .inl rfl, hfl, rfl⟩
  have hf : ((fl : Int), (fold k C fl).save) ∈ l.filter (fun x => decide (x.1 ≤ (v : Int))) := List.mem_filter.2 ⟨hm, decide_eq_true (by show (fl : Int) ≤ v; omega)⟩
  unfold floorK
  rcases hL : (l.filter (fun x => decide (x.1 ≤ (v : Int)))).getLast? with _ | x
  · rw [List.getLast?_eq_none_iff] at hL
    rw [hL] at hf
    cases hf
  · have hx := List.mem_of_getLast? hL
    obtain ⟨h1, h2⟩ := List.mem_filter.1 hx
    obtain ⟨u, h3, h4, rfl⟩ := (h x).1 h1
    have h5 : (u : Int) ≤ v := of_decide_eq_true h2
    exact ⟨u, by simp only [hL], by omega, by omega, h4⟩

theorem St.wide {w : World} {v : Value} {lo hi lo2 hi2 : Nat} {x : Ob} (h : St w v lo hi x) (h1 : lo2 ≤ lo) (h2 : hi ≤ hi2) : St w v lo2 hi2 x := by
  cases x with
  | doc s => obtain ⟨d, a, b, c, e⟩ := h; exact ⟨d, a, by omega, by omega, e⟩
  | led D => obtain ⟨d, m, a, b, c, e, f, g⟩ := h; exact ⟨d, m, a, by omega, by omega, by omega, by omega, g⟩
  | sto D => obtain ⟨d, m, a, b, c, e, f, g⟩ := h; exact ⟨d, m, a, by omega, by omega, by omega, by omega, g⟩

theorem load_op {w : World} {g : Nat} {v0 v1 v2 v3 v4 v5 v6 v7 v8 v9 v10 v11 v12 : Value} (h : Has w g 60 #[v0, v1, v2, v3, v4, v5, v6, v7, v8, v9, v10, v11, v12]) :
    (Instr.loadAt 39 (.pointer (some ⟨g, 0, none⟩))).run Tryz.prog w = .ok (.agg #[v0, v1, v2, v3, v4, v5, v6, v7, v8, v9, v10, v11]) w :=
  run_loadAt_mid w g 0 39 [v0, v1, v2, v3, v4, v5, v6, v7, v8, v9, v10, v11] _ (fun j v hj => by
    rw [Nat.zero_add, h.cell]
    have hj' : j < 12 := (List.getElem?_eq_some_iff.1 hj).1
    rw [← hj]
    rcases j with _ | _ | _ | _ | _ | _ | _ | _ | _ | _ | _ | _ | j <;> first | rfl | omega) Tryz.underlying39 rfl (by kernel_rfl)
/-- While a version is made. -/
structure Vs (B : Nat) (F : Nat → Prop) (w : World) (b : Nat) (k : Int) (C : List Cm) (fl : Nat) (u : Value) (lo hi i : Nat) (y : Ob) (V : World) : Prop where
  ln : Ln B F V b k C fl
  st : St V u lo hi y
  like : y.Like (fold k C i)
  hi : hi ≤ V.heap.size
  bel : Below w.heap.size w V
  lo : w.heap.size ≤ lo
  tight : ∀ j, F j → j < w.heap.size
  bs : B ≤ w.heap.size
section
variable {B : Nat} {F : Nat → Prop} {w V V' : World} {b lo hi fl i : Nat} {u : Value} {y y' : Ob} {k : Int} {C : List Cm}
theorem Vs.below (h : Vs B F w b k C fl u lo hi i y V) (t : Below V.heap.size V V') : Vs B F w b k C fl u lo hi i y V' :=
  ⟨h.ln.below t, h.st.below t h.hi, h.like, Nat.le_trans h.hi t.size, h.bel.trans (t.mono h.bel.size), h.lo, h.tight, h.bs⟩
theorem Vs.did {i' : Nat} (h : Vs B F w b k C fl u lo hi i y V) (s : St V' u lo hi y') (t : Turn (fun j => lo ≤ j ∧ j < hi) V V') (l : y'.Like (fold k C i')) : Vs B F w b k C fl u lo hi i' y' V' :=
  ⟨h.ln.turn t (fun j hj _ e => by have := h.tight j hj; have := h.lo; omega) (fun j e => by have := h.bs; have := h.lo; omega), s, l, Nat.le_trans h.hi t.size, h.bel.trans (t.below h.bel.size (fun j hj e => by have := h.lo; omega)), h.lo, h.tight, h.bs⟩

def VersPost (w : World) (x : Ob) (en : Ending) (w' : World) : Prop :=
  ∃ u y, en = .returned u ∧ St w' u w.heap.size w'.heap.size y ∧ y.Like x ∧ Below w.heap.size w w'

set_option maxRecDepth 100000 in
set_option maxHeartbeats 4000000 in
theorem Ln.version_calls (h0 : Ln B F w b k C fl) (v : Nat) (hv : fl ≤ v) (hn : v ≤ C.length) (hC : C.length ≤ 10000) :
    Calls Tryz.prog 63 #[.pointer (some ⟨b, 0, none⟩), .int .i64 v] w (VersPost w (fold k C v)) := by
  have h : Ln B (fun j => F j ∧ j < w.heap.size) w b k C fl := h0.more fun j hl hj => ⟨hj, hl⟩
  have HLN := Lib.hid h
  obtain ⟨vb, tb, m, vv, lo, hi, y, l, F1, F2, h1, h2, h3⟩ := h
  obtain ⟨u, hu, hu1, hu2, hu3⟩ := floor_mark h1.marks h1.fln hv
  have hlen := h1.marks.len h1.tw.sorted
  have HT : Hid (Calls Tryz.prog 68 #[.pointer (some ⟨tb, 0, none⟩), .int .i64 v] w fun en w' => en = .returned (.tuple #[.int .i64 u, .string (fold k C u).save, .bool true]) ∧ Below w.heap.size w w') := Lib.hid (by
    have := h1.tw.floor_calls (v : Int) (by omega)
    rw [hu] at this
    exact this)
  have e2 : w.cell? ⟨b, 2, none⟩ = some (.pointer (some ⟨tb, 0, none⟩)) := h1.own.cell 2
  have HV := Lib.hid (show _ ∧ _ ∧ _ ∧ _ ∧ _ ∧ _ from ⟨hv, hn, hu1, hu2, hu3, h1.va.rt.size⟩)
  have HC : Hid (v ≤ 10000) := Lib.hid (by omega)
  have hk : (fold k C u).kd = k := fold_kd h1.kk C u
  obtain ⟨s, hs⟩ : ∃ s, s = (fold k C u).save := ⟨_, rfl⟩
  have HLD : Hid (∀ V, Calls Tryz.prog 106 #[.int .i64 k, .string s] V (LoadPost (fold k C u) V)) := Lib.hid fun V => by
    have := oload_calls (fold k C u) (fold_inv k C u) V
    rw [hk, ← hs] at this
    exact this
  rw [← hs] at HT
  clear h1 h2 h3 h0 hlen hu hv hn hu1 hu2 hu3 hk hs hC
  go_enter Tryz.func63, Tryz.ntmps63
  go_wp2_with fail
  refine HT.out.mono ?_
  rintro en w1 ⟨rfl, b1⟩
  have P1 := Lib.hid (show _ ∧ _ from ⟨HLN.out.below b1, b1⟩)
  clear b1 HT e2
  go_wp2_with fail
  refine (P1.out.1.kind_calls).mono ?_
  rintro en w2 ⟨rfl, b2⟩
  have P2 := Lib.hid (show _ ∧ _ from ⟨P1.out.1.below b2, P1.out.2.trans (b2.mono P1.out.2.size)⟩)
  clear b2 P1
  go_wp2_with fail
  refine (HLD.out w2).mono ?_
  rintro en w3 ⟨u8, y8, rfl, st8, lk8, b3⟩
  obtain ⟨T, d, fK, fD, fC, fS, Fc⟩ := face_of st8
  obtain rfl := Fc.is
  have P3 : Hid (Vs B (fun j => F j ∧ j < w.heap.size) w b k C fl (.iface T (pv d)) w2.heap.size w3.heap.size u y8 w3) := Lib.hid ⟨P2.out.1.below b3, st8, lk8, Nat.le_refl _, P2.out.2.trans (b3.mono P2.out.2.size), P2.out.2.size, fun j hj => hj.2, HV.out.2.2.2.2.2⟩
  have md := Fc.mD
  have ed := Fc.eD
  have HFC := Lib.hid Fc.cD
  obtain ⟨lo8, hlo8⟩ : ∃ x, x = w2.heap.size := ⟨_, rfl⟩
  obtain ⟨hi8, hhi8⟩ : ∃ x, x = w3.heap.size := ⟨_, rfl⟩
  rw [← hlo8, ← hhi8] at P3 HFC
  clear st8 lk8 b3 P2 HLN HLD Fc hlo8 hhi8
  go_wp2_with fail
  go_loopw [10] (fun x wr => ∃ (i : Nat) (y : Ob), x = .int .i64 i ∧ u ≤ i ∧ i ≤ v ∧ Hid (Vs B (fun j => F j ∧ j < w.heap.size) w b k C fl (.iface T (pv d)) lo8 hi8 i y wr)) (fun x _ => v - (intOf x).toNat)
  case atStart => exact ⟨u, y8, rfl, Nat.le_refl _, HV.out.2.2.2.1, P3⟩
  case round =>
    obtain ⟨i, y, rfl, hui, hiv, HS⟩ := hrel
    by_cases hlt : i < v
    · have hli : (i : Int) < (v : Int) := by omega
      have hib : (i : Int) ≤ 10000 := by have := HC.out; omega
      obtain ⟨c, hc⟩ : ∃ c, C[i]? = some c := ⟨_, List.getElem?_eq_getElem (by have := HV.out; omega)⟩
      have hgd := HS.out.ln.did i c hc
      have hst := good_short hgd.1
      have hnx := fold_succ (k := k) hc
      have hcm := HS.out.ln.command_ok i (by have := HV.out; omega) c hc
      have HR := Lib.hid (show _ ∧ _ from ⟨hst, hnx⟩)
      obtain ⟨⟨ok, ⟨tk, ta, tx, tn⟩, ⟨lk, ls, lt, ln⟩, ⟨sk, ss, sn⟩⟩, f⟩ := c
      have HCM : Hid (Calls Tryz.prog 29 #[.pointer (some ⟨b, 0, none⟩), .int .i64 i] wr fun en w' => en = .returned (.tuple #[.agg #[.int .i64 ok, .int .i64 tk, .int .i64 ta, .string tx, .int .i64 tn, .int .i64 lk, .string ls, .string lt, .int .i64 ln, .int .i64 sk, .string ss, .int .i64 sn, .int .i64 f], .nilIface]) ∧ Below wr.heap.size wr w') := Lib.hid hcm
      clear hc hgd hst hnx hcm hlt P3
      go_wp2_with fail
      refine HCM.out.mono ?_
      rintro en w4 ⟨rfl, b4⟩
      have P4 := Lib.hid (HS.out.below b4)
      clear b4 HS HCM
      go_wp2_with (first
        | ((with_reducible refine at_store (.tmp 11) ?_); refine wpList_store_all (o := ⟨none, _, _, _, _, _⟩) rfl 60 (.tmp 11) (.tmp 40) rfl w4.heap.size #[.int .i64 ok, .int .i64 tk, .int .i64 ta, .string tx, .int .i64 tn, .int .i64 lk, .string ls, .string lt, .int .i64 ln, .int .i64 sk, .string ss, .int .i64 sn, .int .i64 f] #[.int .i64 0, .int .i64 0, .int .i64 0, .string ⟨#[]⟩, .int .i64 0, .int .i64 0, .string ⟨#[]⟩, .string ⟨#[]⟩, .int .i64 0, .int .i64 0, .string ⟨#[]⟩, .int .i64 0, .int .i64 0] rfl rfl _ (made_at _ _ rfl) (by kernel_rfl) rfl (by simp [Value.oneCell']) ?_; intro Wa HWa TWa;
           (have P5 := Lib.hid (P4.out.below (((Below.refl _ _).alloc (Nat.le_refl _) _).trans (TWa.below (by simp) (fun j hj e => by omega))));
            have hld : Hid ((Instr.loadAt 39 (.pointer (some ⟨w4.heap.size, 0, none⟩))).run Tryz.prog Wa = .ok (.agg #[.int .i64 ok, .int .i64 tk, .int .i64 ta, .string tx, .int .i64 tn, .int .i64 lk, .string ls, .string lt, .int .i64 ln, .int .i64 sk, .string ss, .int .i64 sn]) Wa) := Lib.hid (load_op HWa)))
        | ((with_reducible refine at_op 44 ?_); refine dig.wpList_load_if (o := ⟨some 44, _, _, _, _, _⟩) (by kernel_rfl) 39 (.tmp 43) rfl (.pointer (some ⟨w4.heap.size, 0, none⟩)) rfl hld.out ?_)
        | fail)
      clear HWa TWa P4 hld
      refine (HFC.out Wa y ⟨ok, ⟨tk, ta, tx, tn⟩, ⟨lk, ls, lt, ln⟩, ⟨sk, ss, sn⟩⟩ P5.out.st P5.out.hi HR.out.1).mono ?_
      rintro en w6 ⟨rfl, s6, t6⟩
      have P6 : Hid (Vs B (fun j => F j ∧ j < w.heap.size) w b k C fl (.iface T (pv d)) lo8 hi8 (i + 1) _ w6) := Lib.hid (P5.out.did s6 t6 (by rw [HR.out.2]; exact (like_act P5.out.like (fold_inv k C i) _).1))
      clear s6 t6 P5 HR
      go_wp2_with fail
      refine ⟨⟨i + 1, _, by rw [Int.natCast_add]; rfl, by omega, by omega, P6⟩, ?_⟩
      show v - ((i : Int) + 1).toNat < v - ((i : Int)).toNat
      omega
    · obtain rfl : i = v := by omega
      have hli : ¬ (i : Int) < (i : Int) := by omega
      clear P3
      go_wp2_with fail
      go_ret
      exact ⟨_, y, rfl, St.wide HS.out.st HS.out.lo HS.out.hi, HS.out.like, HS.out.bel⟩

/-- An error of one step. -/
def OneE (w : World) (s : ByteArray) (x E : Int) (v : Value) (w' : World) : Prop := ∃ q, v = flt.ev [⟨q, s, x⟩] E ∧ w.heap.size ≤ q ∧ flt.Er w'.heap.size w' [⟨q, s, x⟩] E ∧ Below w.heap.size w w'
def versionB : ByteArray := ⟨#[118, 101, 114, 115, 105, 111, 110]⟩

set_option maxRecDepth 100000 in
set_option maxHeartbeats 2000000 in
theorem Ln.asof_ok (h : Ln B F w b k C fl) (v : Nat) (hv : fl ≤ v) (hn : v ≤ C.length) (hC : C.length ≤ 10000) :
    Calls Tryz.prog 21 #[.pointer (some ⟨b, 0, none⟩), .int .i64 v] w fun en w' => en = .returned (.tuple #[.string (fold k C v).save, .nilIface]) ∧ Below w.heap.size w w' := by
  have HW : Hid (Calls Tryz.prog 62 #[.pointer (some ⟨b, 0, none⟩), .int .i64 v] w fun en w' => en = .returned (.int .i64 0) ∧ w = w') := Lib.hid (by
    have := h.wrong_calls (v : Int)
    rw [show wrongE C.length fl (v : Int) = 0 by unfold wrongE; rw [if_neg (by omega), if_neg (by omega)]] at this
    exact this)
  have HV := Lib.hid (h.version_calls v hv hn hC)
  clear h hv hn hC
  go_enter Tryz.func21, Tryz.ntmps21
  go_wp2_with fail
  refine HW.out.mono ?_
  rintro en w1 ⟨rfl, rfl⟩
  go_wp2_with fail
  refine HV.out.mono ?_
  rintro en w2 ⟨u, y, rfl, st, lk, b2⟩
  obtain ⟨T, d, fK, fD, fC, fS, Fc⟩ := face_of st
  obtain rfl := Fc.is
  have ms := Fc.mS
  have es := Fc.eS
  have HS := Lib.hid (lk.save ▸ Fc.cS w2 y st)
  have B2 := Lib.hid b2
  clear st lk b2 Fc
  go_wp2_with fail
  refine HS.out.mono ?_
  rintro en w3 ⟨rfl, b3⟩
  have B3 := Lib.hid (B2.out.trans (b3.mono B2.out.size))
  clear b3
  go_wp2_with fail
  go_ret2
  exact ⟨rfl, B3.out⟩

set_option maxRecDepth 100000 in
set_option maxHeartbeats 2000000 in
theorem Ln.asof_bad (h : Ln B F w b k C fl) (x E : Int) (hE : wrongE C.length fl x = E) (h0 : E ≠ 0) :
    Calls Tryz.prog 21 #[.pointer (some ⟨b, 0, none⟩), .int .i64 x] w fun en w' => ∃ e, en = .returned (.tuple #[.string ⟨#[]⟩, e]) ∧ OneE w versionB x E e w' := by
  have HW := Lib.hid (h.wrong_calls x)
  rw [hE] at HW
  have HI : Hid (∀ V, Calls Tryz.prog 57 #[.string ⟨#[118, 101, 114, 115, 105, 111, 110]⟩, .int .i64 x, .iface 55 (.int .i64 E)] V fun en w' => en = .returned (flt.ev [⟨V.heap.size, versionB, x⟩] E) ∧ w' = V.alloc (.cells #[.string versionB, .int .i64 x, flt.ev [] E] 204)) := Lib.hid fun V => flt.in_calls [] E versionB x V h0
  have hb : (E != 0) = true := by simpa using h0
  clear h hE h0
  go_enter Tryz.func21, Tryz.ntmps21
  go_wp2_with fail
  refine HW.out.mono ?_
  rintro en w1 ⟨rfl, rfl⟩
  go_wp2_with fail
  refine (HI.out _).mono ?_
  rintro en w2 ⟨rfl, rfl⟩
  have R : Hid (OneE w versionB x E (flt.ev [⟨w.heap.size, versionB, x⟩] E) (w.alloc (.cells #[.string versionB, .int .i64 x, flt.ev [] E] 204))) := Lib.hid ⟨_, rfl, Nat.le_refl _, ⟨⟨made_at _ _ rfl, by simp⟩, trivial⟩, (Below.refl _ _).alloc (Nat.le_refl _) _⟩
  go_wp2_with fail
  go_ret2
  exact ⟨_, rfl, R.out⟩
end
end Go.Proofs.YtcdedkgkingbdaaGreatDoor.rep
end

