/- cells: a memory made since w, with counts that are small; the laws' Cut. -/
import Derived.Test.YtlbpephbigikcabCelC
namespace Go.Proofs.Ytlbpephbigikcab.cel
open Go Go.RowKit Go.Maps

section
variable {H : Type}

theorem kI_inj {x y : Int} (h : kI x = kI y) : x = y := by
  simpa [kI] using h

theorem cnt_put {D : DataW H} (hD : IsMap D) (p q v : Int) : cnt (D.put (kI p) (nI v)) q = if q = p then v else cnt D q := by
  by_cases h : q = p
  · subst h; rw [if_pos rfl]; exact cnt_of (atKey_put_same hD (by simp [WideAt.IsKeyLit]) _ _)
  · rw [if_neg h]; unfold cnt; rw [atKey_put_other (fun e => h (kI_inj e))]

theorem cnt_none (q : Int) : cnt (.map [] : DataW H) q = 0 := rfl

/-- A memory made since w. -/
structure Own (w : World) (d c m n : Nat) (T : Nat → ByteArray) (N : Nat → Int) (D : DataW H) (a : Int) (V : World) : Prop where
  mem : Mem V d c m n T N D a
  nd : w.heap.size ≤ d
  nc : w.heap.size ≤ c
  nm : w.heap.size ≤ m
  turn : Turn (fun j => w.heap.size ≤ j) w V
  tidy : Tidy D
  a0 : 0 ≤ a
  size : (Maps.size D : Int) ≤ a
  cn : ∀ p, 0 ≤ cnt D p ∧ cnt D p ≤ a
  sw : ∀ j, 0 ≤ N j ∧ N j ≤ a

section
variable {w V V' : World} {d c m n : Nat} {T : Nat → ByteArray} {N : Nat → Int} {D : DataW H} {a : Int}

theorem Own.below (h : Own w d c m n T N D a V) (hb : Below V.heap.size V V') : Own w d c m n T N D a V' :=
  ⟨h.mem.below hb, h.nd, h.nc, h.nm, h.turn.trans (Turn.of_below hb (F := fun j => V.heap.size ≤ j) (fun _ _ e => e)) (fun _ _ e => Nat.le_trans h.turn.size e), h.tidy, h.a0, h.size, h.cn, h.sw⟩

theorem Own.drew (h : Own w d c m n T N D a V) : Own w d c m n T N D a V.drew := ⟨h.mem.drew, h.nd, h.nc, h.nm, h.turn.drew, h.tidy, h.a0, h.size, h.cn, h.sw⟩

/-- Another block turns that is new since w, and none of its own. -/
theorem Own.other {F : Nat → Prop} (h : Own w d c m n T N D a V) (t : Turn F V V') (hF : ∀ j, F j → w.heap.size ≤ j) (h1 : ¬ F d) (h2 : ¬ F c) (h3 : ¬ F m) : Own w d c m n T N D a V' :=
  ⟨h.mem.turn t h1 h2 h3, h.nd, h.nc, h.nm, h.turn.trans t (fun j _ e => hF j e), h.tidy, h.a0, h.size, h.cn, h.sw⟩

theorem Own.ends (h : Own w d c m n T N D a V) : Below w.heap.size w V := h.turn.below (Nat.le_refl _) (fun _ hj e => by omega)

theorem own_new {e : Ending} (hw : Turn (fun j => w.heap.size ≤ j) w V) (h : NewPost H n V e V') : ∃ d c m, e = .returned (.pointer (some ⟨d, 0, none⟩)) ∧ Own w d c m n noT noN (.map [] : DataW H) 0 V' ∧ V.heap.size ≤ d ∧ V.heap.size ≤ c ∧ V.heap.size ≤ m := by
  obtain ⟨d, c, m, rfl, M, b, h1, h2, h3⟩ := h
  have hz := hw.size
  exact ⟨d, c, m, rfl, ⟨M, Nat.le_trans hz h1, Nat.le_trans hz h2, Nat.le_trans hz h3, hw.trans (Turn.of_below b (F := fun j => V.heap.size ≤ j) (fun _ _ e => e)) (fun j _ e => Nat.le_trans hz e), tidy_empty, by omega, by simp [Maps.size], fun p => by rw [cnt_none]; omega, fun j => by simp [noN]⟩, h1, h2, h3⟩

/-- The counts behind one more of p. -/
def more1 (D : DataW H) (p : Int) : DataW H := D.put (kI p) (nI (cnt D p + 1))

theorem cnt_more {D : DataW H} (hD : IsMap D) (p q : Int) : cnt (more1 D p) q = if q = p then cnt D p + 1 else cnt D q := cnt_put hD p q _

theorem Own.done (h : Own w d c m n T N D a V) {p k : Int} {j : Nat} {old new : ByteArray} {e : Ending} (hp : DoPost d c m n j T N D a p k old new V e V') :
    e = .returned (.tuple #[.string (T j), .bool (did k (T j) old), .int .i64 0]) ∧ Own w d c m n (upd T j (aftT k (T j) old new)) (upd N j (aftN k (T j) old (N j))) (more1 D p) (a + 1) V' := by
  obtain ⟨rfl, M, t⟩ := hp
  refine ⟨rfl, M, h.nd, h.nc, h.nm, h.turn.trans t (fun i _ e => by have := h.nd; have := h.nc; have := h.nm; rcases e with rfl | rfl | rfl <;> assumption), h.tidy.put (by simp [WideAt.IsKeyLit]) _, by have := h.a0; omega, ?_, fun q => ?_, fun i => ?_⟩
  · have := h.size
    show ((Maps.size (D.put (kI p) (nI (cnt D p + 1))) : Nat) : Int) ≤ a + 1
    rw [size_put h.tidy]
    split <;> omega
  · rw [cnt_more h.tidy.isMap]
    have h1 := h.cn p
    have h2 := h.cn q
    split <;> omega
  · unfold upd
    have h1 := h.sw j
    have h2 := h.sw i
    split
    · unfold aftN; split <;> omega
    · omega

/-- An access, in words of what comes out. -/
def DidPost (w : World) (d c m n : Nat) (T : Nat → ByteArray) (N : Nat → Int) (D : DataW H) (a : Int) (t : ByteArray) (b : Bool) (en : Ending) (w' : World) : Prop :=
  en = .returned (.tuple #[.string t, .bool b, .int .i64 0]) ∧ Own w d c m n T N D a w'

def DidPostT (w : World) (d c m n : Nat) (T : Nat → ByteArray) (N : Nat → Int) (D : DataW H) (a : Int) (t : ByteArray) (b : Bool) (V : World) (en : Ending) (w' : World) : Prop :=
  en = .returned (.tuple #[.string t, .bool b, .int .i64 0]) ∧ Own w d c m n T N D a w' ∧ Turn (fun b => b = d ∨ b = c ∨ b = m) V w'

theorem Own.do_turn (h : Own w d c m n T N D a V) (p k : Int) (j : Nat) (old new : ByteArray) (hj : j < n) (hk1 : 1 ≤ k) (hk3 : k ≤ 3) (hp : Fits p) (ha : a ≤ 1000000)
    (t : ByteArray) (ht : T j = t) (b : Bool) (hb : did k t old = b) (T' : Nat → ByteArray) (hT : upd T j (aftT k t old new) = T') (N' : Nat → Int) (hN : upd N j (aftN k t old (N j)) = N') :
    Calls Try.prog 42 #[.pointer (some ⟨d, 0, none⟩), .int .i64 p, .agg #[.int .i64 k, .int .i64 (j : Int), .string old, .string new]] V (DidPostT w d c m n T' N' (more1 D p) (a + 1) t b V) := by
  have h1 := h.cn p
  have h2 := h.sw j
  have h3 := h.a0
  have h4 := h.size
  refine (h.mem.do_calls p k j old new hj hk1 hk3 hp (by unfold maxLen; omega) (by omega) (by omega) (by omega) (by omega) (by omega) (by omega)).mono ?_
  intro en w' hP
  have := h.done hP
  subst ht hb hT hN
  exact ⟨this.1, this.2, hP.2.2⟩

theorem Own.do_any (h : Own w d c m n T N D a V) (p k : Int) (j : Nat) (old new : ByteArray) (hj : j < n) (hk1 : 1 ≤ k) (hk3 : k ≤ 3) (hp : Fits p) (ha : a ≤ 1000000)
    (t : ByteArray) (ht : T j = t) (b : Bool) (hb : did k t old = b) (T' : Nat → ByteArray) (hT : upd T j (aftT k t old new) = T') (N' : Nat → Int) (hN : upd N j (aftN k t old (N j)) = N') :
    Calls Try.prog 42 #[.pointer (some ⟨d, 0, none⟩), .int .i64 p, .agg #[.int .i64 k, .int .i64 (j : Int), .string old, .string new]] V (DidPost w d c m n T' N' (more1 D p) (a + 1) t b) :=
  (h.do_turn p k j old new hj hk1 hk3 hp ha t ht b hb T' hT N' hN).mono fun _ _ hP => ⟨hP.1, hP.2.1⟩

theorem Own.look (h : Own w d c m n T N D a V) (k : Int) (t : ByteArray) (ht : textAt n T k = t) : Calls Try.prog 17 #[.pointer (some ⟨d, 0, none⟩), .int .i64 k] V fun en w' => en = .returned (.string t) ∧ w' = V := by
  subst ht; exact h.mem.look_calls k
theorem Own.swaps (h : Own w d c m n T N D a V) (k x : Int) (hx : swapsAt n N k = x) : Calls Try.prog 37 #[.pointer (some ⟨d, 0, none⟩), .int .i64 k] V fun en w' => en = .returned (.int .i64 x) ∧ w' = V := by
  subst hx; exact h.mem.swaps_calls k
theorem text_at {n j : Nat} (T : Nat → ByteArray) (h : j < n) : textAt n T (j : Int) = T j := by
  unfold textAt; rw [if_pos ⟨by omega, by omega⟩, Int.toNat_natCast]
theorem swaps_at {n j : Nat} (N : Nat → Int) (h : j < n) : swapsAt n N (j : Int) = N j := by
  unfold swapsAt; rw [if_pos ⟨by omega, by omega⟩, Int.toNat_natCast]

theorem cut_calls (s : ByteArray) (n : Nat) (w : World) (hn : n ≤ 1000000) (_hs : s.size ≤ maxLen) :
    Calls Try.prog 32 #[.string s, .int .i64 n] w fun en w' => en = .returned (.string (s.extract 0 n)) ∧ w' = w := by
  unfold maxLen at _hs
  by_cases h : n < s.size
  · go_enter Try.func32, Try.ntmps32
    go_wp2
    go_ret
    exact ⟨rfl, rfl⟩
  · have e : s.extract 0 n = s := by
      apply ByteArray.ext
      simp [ByteArray.data_extract]
      omega
    have E := Lib.hid e
    clear e
    go_enter Try.func32, Try.ntmps32
    go_wp2
    go_ret
    rw [E.out]
    exact ⟨rfl, rfl⟩

end
end
end Go.Proofs.Ytlbpephbigikcab.cel
