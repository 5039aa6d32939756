/- Texts laid into one: Base, WireR, WireQ, Arr, Reg, LedA, LedB. -/
import Derived.Test.YtndnjeahepahkaaRows
import Derived.WalkKit
import Derived.WalkSpells
import Derived.WalkLawsBesides
import Derived.Deep.AppendLies
import Derived.Deep.RegionLaw
import Derived.Deep.Draws
import Derived.Deep.LoopGhost
import Derived.Lib.Hide
import Derived.Laws.CopyOwn
import Derived.ChangeKeysEq
import Derived.Deep.MidRow
import Derived.Maps.OwnSet
import Derived.Deep.QuietTactic
import Derived.BigQuiet
import Derived.IntWalk
section
/- Small words for memory, over every program: a block that is known whole, and what stays when one block turns. -/
namespace Go.Proofs.Ytndnjeahepahkaa
open Go.RowKit

/-- Block g of world w is just the cells cs, of element type t, and may be written. -/
def Has (w : World) (g : Nat) (t : TypeId) (cs : Array Value) : Prop := w.heap[g]? = some (.cells cs t (0, 0))

section
variable {w w' w1 : World} {g b : Nat} {t : TypeId} {cs : Array Value}

theorem Has.lt (h : Has w g t cs) : g < w.heap.size := by
  rcases Nat.lt_or_ge g w.heap.size with k | k
  · exact k
  · unfold Has at h; rw [Array.getElem?_eq_none k] at h; cases h

theorem Has.cell (h : Has w g t cs) (i : Nat) : w.cell? ⟨g, i, none⟩ = cs[i]? := by
  unfold Has at h
  simp [World.cell?, h]

theorem Has.free (h : Has w g t cs) (i : Nat) : w.frozen? ⟨g, i, none⟩ = false := by
  unfold Has at h
  simp [World.frozen?, h]

theorem Has.made (w : World) (t : TypeId) (cs : Array Value) : Has (w.alloc (.cells cs t)) w.heap.size t cs := heap_alloc_new w _

theorem Has.drew (h : Has w g t cs) : Has w.drew g t cs := h

theorem Has.keep (h : Has w g t cs) (e : w'.heap[g]? = w.heap[g]?) : Has w' g t cs := e.trans h

theorem Has.alloc (h : Has w g t cs) (o : Obj) : Has (w.alloc o) g t cs := h.keep (Below.heap_alloc w o g h.lt)

theorem Has.put (h : Has w g t cs) (i : Nat) (u : Value) : Has (w.setCell ⟨g, i, none⟩ u) g t (cs.setIfInBounds i u) := by
  unfold Has at h ⊢
  simp [World.setCell, Array.getElem?_modify, h]

theorem Has.far (h : Has w g t cs) {p : Addr} (hp : g ≠ p.block) (u : Value) : Has (w.setCell p u) g t cs := h.keep (Below.heap_setCell w p u g hp)

theorem Has.below {B : Nat} (h : Has w g t cs) (hb : Below B w w') (hg : g < B) : Has w' g t cs := h.keep (hb.block g hg)

theorem Has.grown {r : Option Nat} (h : Has w g t cs) (hb : w.grownBy w' r) (hg : some g ≠ r) : Has w' g t cs := h.keep (hb.block g h.lt hg)

theorem Has.uniq {t' : TypeId} {cs' : Array Value} (h : Has w g t cs) (h' : Has w g t' cs') : cs = cs' ∧ t = t' := by
  unfold Has at h h'
  rw [h] at h'
  injection h' with h'
  injection h' with h1 h2
  exact ⟨h1, h2⟩

/-- Only block b turns (and new blocks come). -/
theorem grown_refl (w : World) (r : Option Nat) : w.grownBy w r := World.grownBy.refl w r

theorem grown_drew {r : Option Nat} (h : w.grownBy w' r) : w.grownBy w'.drew r := ⟨h.os, h.tape, h.output, h.size, h.block⟩

theorem grown_drewN {r : Option Nat} (h : w.grownBy w' r) (n : Nat) : w.grownBy (w'.drewN n) r := ⟨h.os, h.tape, h.output, h.size, h.block⟩

theorem grown_alloc {r : Option Nat} (h : w.grownBy w' r) (o : Obj) : w.grownBy (w'.alloc o) r :=
  ⟨h.os, h.tape, h.output, Nat.le_trans h.size (by simp), fun i hi hne => (Below.heap_alloc w' o i (Nat.lt_of_lt_of_le hi h.size)).trans (h.block i hi hne)⟩

theorem grown_put (h : w.grownBy w' (some b)) {p : Addr} (hp : p.block = b ∨ w.heap.size ≤ p.block) (u : Value) : w.grownBy (w'.setCell p u) (some b) :=
  ⟨h.os, h.tape, h.output, by simpa [World.setCell] using h.size, fun i hi hne => (Below.heap_setCell w' p u i (by
    rintro rfl
    rcases hp with hp | hp
    · exact hne (by rw [hp])
    · omega)).trans (h.block i hi hne)⟩

theorem grown_own (h : w.grownBy w' (some b)) (i : Nat) (u : Value) : w.grownBy (w'.setCell ⟨b, i, none⟩ u) (some b) := grown_put h (.inl rfl) u

theorem grown_below {B : Nat} (h : Below B w w') (r : Option Nat) (hB : w.heap.size ≤ B) : w.grownBy w' r :=
  ⟨h.os, h.tape, h.output, h.size, fun i hi _ => h.block i (by omega)⟩

theorem grown_trans {r : Option Nat} (h : w.grownBy w1 r) (k : w1.grownBy w' r) : w.grownBy w' r :=
  ⟨k.os.trans h.os, k.tape.trans h.tape, k.output.trans h.output, Nat.le_trans h.size k.size,
    fun i hi hne => (k.block i (Nat.lt_of_lt_of_le hi h.size) hne).trans (h.block i hi hne)⟩

/-- What turns one block that is not below B leaves all below B. -/
theorem below_grown {B : Nat} (h : w.grownBy w' (some b)) (hb : B ≤ b) (hB : B ≤ w.heap.size) : Below B w w' :=
  ⟨h.os, h.tape, h.output, h.size, fun i hi => h.block i (by omega) (by intro e; injection e; omega)⟩

theorem below_none {B : Nat} (h : w.grownBy w' none) (hB : B ≤ w.heap.size) : Below B w w' :=
  ⟨h.os, h.tape, h.output, h.size, fun i hi => h.block i (by omega) (by simp)⟩
end

/-- From w to w' only blocks of F turn, and new ones come. -/
structure Turn (F : Nat → Prop) (w w' : World) : Prop where
  os : w'.os = w.os
  tape : w'.tape = w.tape
  output : w'.output = w.output
  size : w.heap.size ≤ w'.heap.size
  block : ∀ k, k < w.heap.size → ¬ F k → w'.heap[k]? = w.heap[k]?

section
variable {F G : Nat → Prop} {w w' w1 : World}

theorem Turn.refl (F : Nat → Prop) (w : World) : Turn F w w := ⟨rfl, rfl, rfl, Nat.le_refl _, fun _ _ _ => rfl⟩
theorem Turn.drew (h : Turn F w w') : Turn F w w'.drew := ⟨h.os, h.tape, h.output, h.size, h.block⟩
theorem Turn.drewN (h : Turn F w w') (n : Nat) : Turn F w (w'.drewN n) := ⟨h.os, h.tape, h.output, h.size, h.block⟩
theorem Turn.alloc (h : Turn F w w') (o : Obj) : Turn F w (w'.alloc o) :=
  ⟨h.os, h.tape, h.output, Nat.le_trans h.size (by simp), fun i hi hne => (Below.heap_alloc w' o i (Nat.lt_of_lt_of_le hi h.size)).trans (h.block i hi hne)⟩
theorem Turn.put (h : Turn F w w') {b : Nat} (hb : b < w.heap.size → F b) (i : Nat) (u : Value) : Turn F w (w'.setCell ⟨b, i, none⟩ u) :=
  ⟨h.os, h.tape, h.output, by simpa [World.setCell] using h.size, fun k hk hne => (Below.heap_setCell w' ⟨b, i, none⟩ u k (by
    rintro rfl
    exact hne (hb hk))).trans (h.block k hk hne)⟩
theorem Turn.grown (h : Turn F w w') {r : Option Nat} (k : w'.grownBy w1 r) (hr : ∀ j, r = some j → j < w.heap.size → F j) : Turn F w w1 :=
  ⟨k.os.trans h.os, k.tape.trans h.tape, k.output.trans h.output, Nat.le_trans h.size k.size, fun i hi hne =>
    (k.block i (Nat.lt_of_lt_of_le hi h.size) (fun e => hne (hr i e.symm hi))).trans (h.block i hi hne)⟩
/-- What turns behind may be new, or be of F. -/
theorem Turn.trans (h : Turn F w w1) (k : Turn G w1 w') (hG : ∀ j, j < w.heap.size → G j → F j) : Turn F w w' :=
  ⟨k.os.trans h.os, k.tape.trans h.tape, k.output.trans h.output, Nat.le_trans h.size k.size,
    fun i hi hne => (k.block i (Nat.lt_of_lt_of_le hi h.size) (fun g => hne (hG i hi g))).trans (h.block i hi hne)⟩
theorem Turn.more (h : Turn G w w') (hG : ∀ j, j < w.heap.size → G j → F j) : Turn F w w' :=
  ⟨h.os, h.tape, h.output, h.size, fun i hi hne => h.block i hi (fun g => hne (hG i hi g))⟩
theorem Turn.of_below {B : Nat} (h : Below B w w') (hB : ∀ j, j < w.heap.size → B ≤ j → F j) : Turn F w w' :=
  ⟨h.os, h.tape, h.output, h.size, fun i hi hne => h.block i (by
    rcases Nat.lt_or_ge i B with k | k
    · exact k
    · exact absurd (hB i hi k) hne)⟩
theorem Turn.of_grown {b : Nat} (h : w.grownBy w' (some b)) (hb : F b) : Turn F w w' :=
  ⟨h.os, h.tape, h.output, h.size, fun i hi hne => h.block i hi (by intro e; injection e with e; subst e; exact hne hb)⟩
theorem Turn.below {B : Nat} (h : Turn F w w') (hB : B ≤ w.heap.size) (hF : ∀ j, j < B → ¬ F j) : Below B w w' :=
  ⟨h.os, h.tape, h.output, h.size, fun i hi => h.block i (by omega) (hF i hi)⟩
theorem Has.turn {g : Nat} {t : TypeId} {cs : Array Value} (h : Has w g t cs) (k : Turn F w w') (hg : ¬ F g) : Has w' g t cs := h.keep (k.block g h.lt hg)
end

theorem ret_int {k : IntKind} {a b : Int} (h : a = b) : Ending.returned (.int k a) = .returned (.int k b) := by rw [h]
theorem ret_bool {a b : Bool} (h : a = b) : Ending.returned (.bool a) = .returned (.bool b) := by rw [h]
theorem ret_str {a b : ByteArray} (h : a = b) : Ending.returned (.string a) = .returned (.string b) := by rw [h]

end Go.Proofs.Ytndnjeahepahkaa
end

section
/- What each call of wire's Reader does: the bytes that are left and the error's number, behind it. -/
namespace Go.Proofs.Ytndnjeahepahkaa
open Go.RowKit

/-- A reader at block b: what is left, the error's number. -/
abbrev Rd (w : World) (b : Nat) (s : ByteArray) (e : Int) : Prop := Has w b 127 #[.string s, .int .i64 e]

theorem Rd.left {w : World} {b : Nat} {s : ByteArray} {e : Int} (h : Rd w b s e) (s' : ByteArray) : Rd (w.setCell ⟨b, 0, none⟩ (.string s')) b s' e := by
  have := h.put 0 (.string s')
  simpa using this
theorem Rd.err {w : World} {b : Nat} {s : ByteArray} {e : Int} (h : Rd w b s e) (e' : Int) : Rd (w.setCell ⟨b, 1, none⟩ (.int .i64 e')) b s e' := by
  have := h.put 1 (.int .i64 e')
  simpa using this

set_option maxHeartbeats 400000 in
theorem read_any (s : ByteArray) (w : World) :
    Calls Try.prog 67 #[.string s] w fun en w' => en = .returned (.pointer (some ⟨w.heap.size, 0, none⟩)) ∧ Rd w' w.heap.size s 0 ∧ Below w.heap.size w w' := by
  go_enter Try.func67, Try.ntmps67
  go_wp2
  go_ret
  exact ⟨rfl, Has.made _ _ _, (Below.refl _ _).alloc (Nat.le_refl _) _⟩

/-- The error's number behind a Fail: the first one stays. -/
def first (e k : Int) : Int := if e = 0 then k else e
theorem first_zero (k : Int) : first 0 k = k := rfl
theorem first_some {e : Int} (h : e ≠ 0) (k : Int) : first e k = e := if_neg h

set_option maxHeartbeats 400000 in
theorem fail_any (b : Nat) (s : ByteArray) (e k : Int) (w : World) (h : Rd w b s e) :
    Calls Try.prog 72 #[.pointer (some ⟨b, 0, none⟩), .int .i64 k] w fun en w' => en = .returned (.tuple #[]) ∧ Rd w' b ⟨#[]⟩ (first e k) ∧ w.grownBy w' (some b) := by
  have c0 : w.cell? ⟨b, 0, none⟩ = some (.string s) := h.cell 0
  have c1 : w.cell? ⟨b, 1, none⟩ = some (.int .i64 e) := h.cell 1
  have f0 := h.free 0
  have f1 := h.free 1
  have H := Lib.hid h
  clear h
  by_cases he : e = 0
  · subst he
    rw [first_zero]
    go_enter Try.func72, Try.ntmps72
    go_wp2
    go_end0
    exact ⟨rfl, (H.out.err k).left ⟨#[]⟩, grown_own (grown_own (grown_refl w _) 1 _) 0 _⟩
  · have he' : (e == 0) = false := by simpa using he
    rw [first_some he]
    go_enter Try.func72, Try.ntmps72
    go_wp2
    go_end0
    exact ⟨rfl, H.out.left ⟨#[]⟩, grown_own (grown_refl w _) 0 _⟩

/-- The error's number at the end: ErrForm, if something is left. -/
def endE (s : ByteArray) (e : Int) : Int := if s.data.toList = [] then e else first e 2

set_option maxHeartbeats 400000 in
theorem end_any (b : Nat) (s : ByteArray) (e : Int) (w : World) (h : Rd w b s e) :
    Calls Try.prog 69 #[.pointer (some ⟨b, 0, none⟩)] w fun en w' => en = .returned (.int .i64 (endE s e)) ∧ Rd w' b ⟨#[]⟩ (endE s e) ∧ w.grownBy w' (some b) := by
  have c0 : w.cell? ⟨b, 0, none⟩ = some (.string s) := h.cell 0
  have c1 : w.cell? ⟨b, 1, none⟩ = some (.int .i64 e) := h.cell 1
  by_cases hs : s.data.toList = []
  · have he : endE s e = e := if_pos hs
    rw [he]
    have hs' : s = ⟨#[]⟩ := by
      cases s with | mk d => simp at hs; rw [hs]
    subst hs'
    have H := Lib.hid h
    clear h he
    go_enter Try.func69, Try.ntmps69
    go_wp2
    go_ret
    exact ⟨rfl, H.out, grown_refl w _⟩
  · have he : endE s e = first e 2 := if_neg hs
    rw [he]
    have hs1 : s.toList.isEmpty = false := by rw [ByteArray.toList_eq]; simpa using hs
    have hs2 : (!s.toList.isEmpty) = true := by rw [hs1]; rfl
    have H := Lib.hid h
    clear h he c1 hs
    go_enter Try.func69, Try.ntmps69
    go_wp2_with fail
    refine (fail_any b s e 2 w H.out).mono ?_
    rintro en w1 ⟨rfl, h1, g1⟩
    have c1 : w1.cell? ⟨b, 1, none⟩ = some (.int .i64 (first e 2)) := h1.cell 1
    have H1 := Lib.hid h1
    clear h1
    go_wp2
    go_ret
    exact ⟨rfl, H1.out, g1⟩

/-- How a number is read: the error's number (0: none), the number, how many bytes. i: how many bytes went before, n: what they make. -/
def dec (i n : Nat) : List UInt8 → Nat × Nat × Nat
  | [] => (1, 0, 0)
  | b :: t =>
    if (i = 0 ∧ b.toNat = 128) ∨ 144115188075855872 ≤ n then (2, 0, 0)
    else if b.toNat < 128 then (0, n * 128 + b.toNat % 128, i + 1)
    else dec (i + 1) (n * 128 + b.toNat % 128) t

def restOf (s : ByteArray) (r : Nat × Nat × Nat) : ByteArray := if r.1 = 0 then s.extract r.2.2 s.size else ⟨#[]⟩
def errOf (e : Int) (r : Nat × Nat × Nat) : Int := if r.1 = 0 then e else first e (r.1 : Nat)

/-- What a number's taking leaves. -/
def NumPost (b : Nat) (s : ByteArray) (e : Int) (w : World) (r : Nat × Nat × Nat) (en : Ending) (w' : World) : Prop :=
  en = .returned (.int .u64 (r.2.1 : Nat)) ∧ Rd w' b (restOf s r) (errOf e r) ∧ w.grownBy w' (some b)

theorem andnot_7 (b : UInt8) : bits .andNot .u8 (b.toNat : Int) 128 = (b.toNat : Int) % 128 := by
  have h := u8_andNot_nat b.toNat 128 b.toNat_lt (by omega)
  have e : b.toNat &&& (255 - 128) = b.toNat % 128 := Nat.and_two_pow_sub_one_eq_mod b.toNat 7
  rw [e] at h
  simpa using h

theorem or_7 (N : Nat) (b : UInt8) (h : N < 144115188075855872) : bits .or .u64 ((N : Int) * 128) ((b.toNat : Int) % 128) = (N : Int) * 128 + (b.toNat : Int) % 128 := by
  have h' := u64_or_nat (N * 128) (b.toNat % 128) (by omega) (by omega)
  have e : N * 128 ||| b.toNat % 128 = N * 128 + b.toNat % 128 := by
    have := Nat.shiftLeft_add_eq_or_of_lt (a := N) (b := b.toNat % 128) (i := 7) (by omega)
    rw [Nat.shiftLeft_eq] at this
    exact this.symm
  rw [e] at h'
  simpa using h'

theorem drop_at (s : ByteArray) (k : Nat) (h : k < s.size) : s.data.toList.drop k = s[k] :: s.data.toList.drop (k + 1) := by
  rw [List.drop_eq_getElem_cons (by simpa using h)]
  rfl

set_option maxRecDepth 100000 in
set_option maxHeartbeats 1000000 in
theorem num_any (b : Nat) (s : ByteArray) (e : Int) (w : World) (hs : s.size ≤ maxLen) (h : Rd w b s e) :
    Calls Try.prog 73 #[.pointer (some ⟨b, 0, none⟩)] w fun en w' => NumPost b s e w (dec 0 0 s.data.toList) en w' := by
  have c0 : w.cell? ⟨b, 0, none⟩ = some (.string s) := h.cell 0
  have f0 := h.free 0
  unfold maxLen at hs
  have H := Lib.hid h
  clear h
  go_enter Try.func73, Try.ntmps73
  go_wp2_with fail
  go_loop [3, 4] (fun n i => ∃ k N : Nat, k ≤ s.size ∧ i = .int .i64 k ∧ n = .int .u64 N ∧ Hid (dec 0 0 s.data.toList = dec k N (s.data.toList.drop k))) (fun _ i => s.size - (intOf i).toNat)
  case atStart => exact ⟨0, 0, Nat.zero_le _, rfl, rfl, by rfl⟩
  case round =>
    obtain ⟨k, N, hk, rfl, rfl, HD⟩ := hrel
    by_cases hlt : k < s.size
    · have hd := drop_at s k hlt
      by_cases hN : 144115188075855872 ≤ N
      · have HE : Hid (dec 0 0 s.data.toList = (2, 0, 0)) := by rw [HD.out, hd, dec, if_pos (.inr hN)]; exact rfl
        clear hd
        have hN1 : ((N : Int) / 144115188075855872 != 0) = true := by simp; omega
        have HH := Lib.hid hN
        clear hN
        have hw : (k = 0 ∧ s[k].toNat = 128) ∨ (k = 0 ∧ ¬ s[k].toNat = 128) ∨ ¬ k = 0 := by omega
        rcases hw with ⟨rfl, hb⟩ | ⟨rfl, hb⟩ | hk0
        · have hb1 : ((s[0].toNat : Int) == 128) = true := by rw [hb]; rfl
          clear hb
          go_wp2_with fail
          refine (fail_any b s e 2 w H.out).mono ?_
          rintro en w1 ⟨rfl, h1, g1⟩
          have H1 := Lib.hid h1
          clear h1
          go_wp2
          go_ret
          rw [HE.out]
          exact ⟨rfl, H1.out, g1⟩
        · have hb1 : ((s[0].toNat : Int) == 128) = false := by simp; omega
          clear hb
          go_wp2_with fail
          refine (fail_any b s e 2 w H.out).mono ?_
          rintro en w1 ⟨rfl, h1, g1⟩
          have H1 := Lib.hid h1
          clear h1
          go_wp2
          go_ret
          rw [HE.out]
          exact ⟨rfl, H1.out, g1⟩
        · have hk1 : ((k : Int) == 0) = false := by simpa using hk0
          go_wp2_with fail
          refine (fail_any b s e 2 w H.out).mono ?_
          rintro en w1 ⟨rfl, h1, g1⟩
          have H1 := Lib.hid h1
          clear h1
          go_wp2
          go_ret
          rw [HE.out]
          exact ⟨rfl, H1.out, g1⟩
      · by_cases hk0 : k = 0
        · subst hk0
          have hN1 : ((N : Int) / 144115188075855872 != 0) = false := by simp; omega
          have hx := andnot_7 s[0]
          have hy := or_7 N s[0] (by omega)
          by_cases hb2 : s[0].toNat = 128
          · have HE : Hid (dec 0 0 s.data.toList = (2, 0, 0)) := by rw [HD.out, hd, dec, if_pos (.inl ⟨rfl, hb2⟩)]; exact rfl
            have hb1 : ((s[0].toNat : Int) == 128) = true := by rw [hb2]; rfl
            clear hb2 hd hx hy
            go_wp2_with fail
            refine (fail_any b s e 2 w H.out).mono ?_
            rintro en w1 ⟨rfl, h1, g1⟩
            have H1 := Lib.hid h1
            clear h1
            go_wp2
            go_ret
            rw [HE.out]
            exact ⟨rfl, H1.out, g1⟩
          · have hb1 : ((s[0].toNat : Int) == 128) = false := by simp; omega
            by_cases hb : s[0].toNat < 128
            · have HE : Hid (dec 0 0 s.data.toList = (0, N * 128 + s[0].toNat % 128, 0 + 1)) := by rw [HD.out, hd, dec, if_neg (by omega), if_pos hb]; exact rfl
              clear hd
              go_wp2_with fail
              go_ret
              rw [HE.out]
              exact ⟨rfl, H.out.left _, grown_own (grown_refl w _) 0 _⟩
            · have HE : Hid (dec 0 0 s.data.toList = dec (0 + 1) (N * 128 + s[0].toNat % 128) (s.data.toList.drop (0 + 1))) := by rw [HD.out, hd, dec, if_neg (by omega), if_neg hb]; exact rfl
              clear hd
              go_wp2_with fail
              go_round
              case rel => exact ⟨0 + 1, N * 128 + s[0].toNat % 128, by omega, by go_num, by go_num, HE⟩
              case measure => simp [intOf]; omega
        · have hk1 : ((k : Int) == 0) = false := by simpa using hk0
          have hN1 : ((N : Int) / 144115188075855872 != 0) = false := by simp; omega
          have hx := andnot_7 s[k]
          have hy := or_7 N s[k] (by omega)
          by_cases hb : s[k].toNat < 128
          · have HE : Hid (dec 0 0 s.data.toList = (0, N * 128 + s[k].toNat % 128, k + 1)) := by rw [HD.out, hd, dec, if_neg (by omega), if_pos hb]; exact rfl
            clear hd
            go_wp2_with fail
            go_ret
            rw [HE.out]
            exact ⟨rfl, H.out.left _, grown_own (grown_refl w _) 0 _⟩
          · have HE : Hid (dec 0 0 s.data.toList = dec (k + 1) (N * 128 + s[k].toNat % 128) (s.data.toList.drop (k + 1))) := by rw [HD.out, hd, dec, if_neg (by omega), if_neg hb]; exact rfl
            clear hd
            go_wp2_with fail
            go_round
            case rel => exact ⟨k + 1, N * 128 + s[k].toNat % 128, by omega, by go_num, by go_num, HE⟩
            case measure => simp [intOf]; omega
    · have HE : Hid (dec 0 0 s.data.toList = (1, 0, 0)) := by rw [HD.out, List.drop_of_length_le (by simp; omega)]; exact rfl
      go_wp2_with fail
      refine (fail_any b s e 1 w H.out).mono ?_
      rintro en w1 ⟨rfl, h1, g1⟩
      have H1 := Lib.hid h1
      clear h1
      go_wp2
      go_ret
      rw [HE.out]
      exact ⟨rfl, H1.out, g1⟩

end Go.Proofs.Ytndnjeahepahkaa
end

section
/- What wire's Reader's Err gives. -/
namespace Go.Proofs.Ytndnjeahepahkaa
open Go.RowKit

set_option maxHeartbeats 400000 in
theorem err_any (b : Nat) (s : ByteArray) (e : Int) (w : World) (h : Rd w b s e) :
    Calls Try.prog 105 #[.pointer (some ⟨b, 0, none⟩)] w fun en w' => en = .returned (.int .i64 e) ∧ w = w' := by
  have c1 : w.cell? ⟨b, 1, none⟩ = some (.int .i64 e) := h.cell 1
  clear h
  go_enter Try.func105, Try.ntmps105
  go_wp2
  go_ret
  exact ⟨rfl, rfl⟩


end Go.Proofs.Ytndnjeahepahkaa
end

section
/- Arrays of bytes in memory: a block that is known whole, what copies and stores of a whole array make of it. -/
namespace Go.Proofs.Ytndnjeahepahkaa
open Go.RowKit

def byteV (c : UInt8) : Value := .int .u8 (c.toNat : Nat)

/-- The cells of bytes. -/
def cellsOf (xs : List UInt8) : Array Value := (xs.map byteV).toArray

theorem cellsOf_size (xs : List UInt8) : (cellsOf xs).size = xs.length := by simp [cellsOf]
theorem cellsOf_one (xs : List UInt8) : (cellsOf xs).all (·.oneCell') = true := by
  rw [Array.all_eq_true_iff_forall_mem]
  intro v hv
  simp [cellsOf] at hv
  obtain ⟨c, _, rfl⟩ := hv
  rfl

/-- Bytes laid over others from the first on: what copy makes of an array. -/
def over (old s : List UInt8) : List UInt8 := s.take old.length ++ old.drop s.length

theorem over_length (old s : List UInt8) : (over old s).length = old.length := by
  unfold over
  simp
  omega

section
variable {P : Program}

theorem take_min (l : List UInt8) (k : Nat) : l.take (min l.length k) = l.take k := by
  rcases Nat.le_total l.length k with h | h
  · rw [Nat.min_eq_left h, List.take_of_length_le (Nat.le_refl _), List.take_of_length_le h]
  · rw [Nat.min_eq_right h]

theorem byteV_one (l : List UInt8) : ∀ v ∈ l.map byteV, v.oneCell' = true := by
  intro v hv
  obtain ⟨c, _, rfl⟩ := List.mem_map.1 hv
  rfl

theorem run_copy_str (w : World) (dT sT ty elem : TypeId) (g dCap : Nat) (s : ByteArray) (old : List UInt8) (t : TypeId)
    (hu : P.underlying dT = some (.slice elem)) (hs : (P.info? elem).map (·.size) = some 1)
    (hg : Has w g t (cellsOf old)) :
    (Builtin.copy_ #[dT, sT] ty #[.slice (some ⟨g, 0, none⟩) old.length dCap, .string s]).run P w =
      .ok (goInt ((min s.size old.length : Nat) : Int)) (w.setRow g (cellsOf (over old s.data.toList))) := by
  have hz : s.size = s.data.toList.length := by simp
  have hst := run_storeCells_at P g 0 t ((s.data.toList.take old.length).map byteV) 0 (cellsOf old) w hg (by simp [cellsOf]; exact Nat.min_le_left _ _) (byteV_one _)
  have hcells : ((s.extract 0 (min s.size old.length)).data.map fun b => Value.int .u8 (b.toNat : Nat)).toList = (s.data.toList.take old.length).map byteV := by
    rw [← take_min, ← hz]
    simp only [ByteArray.data_extract, Array.toList_map, Array.toList_extract, List.extract_eq_take_drop, List.drop_zero, Nat.sub_zero]
    rfl
  have hrow : (List.take (0 + 0) (cellsOf old).toList ++ (s.data.toList.take old.length).map byteV ++ List.drop (0 + 0 + ((s.data.toList.take old.length).map byteV).length) (cellsOf old).toList).toArray = cellsOf (over old s.data.toList) := by
    unfold cellsOf over
    simp only [Nat.add_zero, Nat.zero_add, List.take_zero, List.nil_append, List.length_map, List.length_take, List.map_append, List.map_take, List.map_drop]
    congr 1
    congr 1
    rcases Nat.le_total s.data.toList.length old.length with h | h
    · rw [Nat.min_eq_right h]
    · rw [Nat.min_eq_left h, List.drop_of_length_le (by simp), List.drop_of_length_le (by simpa using h)]
  rw [hrow] at hst
  cases hq : P.info? elem with
  | none => simp [hq] at hs
  | some i =>
    have hi : i.size = 1 := by simpa [hq] using hs
    simp only [Builtin.copy_]
    simp [run_underlying hu, Builtin.lenOf, Builtin.firstCells, sizeOf, typeInfo, hq, -ByteArray.data_extract, -Array.toList_map, -Array.toList_extract, -Array.map_extract]
    have e : s.size.min old.length = min s.size old.length := rfl
    rw [e, hcells, hst]
    simp [Result.andThen]

theorem Has.row {w : World} {g : Nat} {t : TypeId} {old : Array Value} (h : Has w g t old) (cs : Array Value) : Has (w.setRow g cs) g t cs := setRow_heap w g old cs t (0, 0) h
theorem Turn.row {F : Nat → Prop} {w w' : World} (h : Turn F w w') {g : Nat} (hg : g < w.heap.size → F g) (cs : Array Value) : Turn F w (w'.setRow g cs) :=
  ⟨h.os, h.tape, h.output, by simpa using h.size, fun k hk hne => (setRow_other w' g k cs (by rintro rfl; exact hne (hg hk))).trans (h.block k hk hne)⟩

theorem turn_row (w : World) (g : Nat) (cs : Array Value) : Turn (fun k => k = g) w (w.setRow g cs) := Turn.row (F := fun k => k = g) (Turn.refl _ _) (fun _ => rfl) _

/-- copy of a string into an array's head: the array's cells behind it, in a world that is a letter. -/
theorem wpList_copy_str {w : World} {ops : Array Oper} {rest : List Oper} {o : Oper} {a : Act} {Q : Exit → Act → World → Prop} (hgd : o.guard = none) (d x : Operand) (dT sT : TypeId)
    (ho : o.op = .call { callee := .builtin .copy, args := #[d, x], argTypes := #[dT, sT] }) (elem : TypeId) (hu : P.underlying dT = some (.slice elem)) (hsz : (P.info? elem).map (·.size) = some 1)
    (g dCap : Nat) (s : ByteArray) (old : List UInt8) (hd : a.eval d = .slice (some ⟨g, 0, none⟩) old.length dCap) (hs : a.eval x = .string s)
    (t : TypeId) (hg : Has w g t (cellsOf old))
    (h : ∀ w', Has w' g t (cellsOf (over old s.data.toList)) → Turn (fun k => k = g) w w' → wpList P ops Q rest (a.put o.dst (goInt ((min s.size old.length : Nat) : Int))) w') : wpList P ops Q (o :: rest) a w := by
  refine wpList_plain hgd fun K hK => ?_
  have hrun := run_copy_str (P := P) w dT sT o.type elem g dCap s old t hu hsz hg
  unfold Oper.wp
  simp [execOp, ho, resolve, invoke, builtin, hd, hs, hrun, Result.andThen]
  exact hK _ _ (by have := h _ (hg.row _) (turn_row _ _ _); simpa using this)

/-- The same as one step of a region that draws its order. -/
theorem step_copy_str {w : World} {ops : Array Oper} {o : Oper} {a : Act} {K : Act → World → Prop} {Q : Exit → Act → World → Prop} {E : Prop} (hgd : o.guard = none) (d x : Operand) (dT sT : TypeId)
    (ho : o.op = .call { callee := .builtin .copy, args := #[d, x], argTypes := #[dT, sT] }) (elem : TypeId) (hu : P.underlying dT = some (.slice elem)) (hsz : (P.info? elem).map (·.size) = some 1)
    (g dCap : Nat) (s : ByteArray) (old : List UInt8) (hd : a.eval d = .slice (some ⟨g, 0, none⟩) old.length dCap) (hs : a.eval x = .string s)
    (t : TypeId) (hg : Has w g t (cellsOf old))
    (h : ∀ w', Has w' g t (cellsOf (over old s.data.toList)) → Turn (fun k => k = g) w w' → K (a.put o.dst (goInt ((min s.size old.length : Nat) : Int))) w') :
    if Region.wanted o (yielded ops a.tmps) = true then Oper.wp P o a w K Q else E := by
  have hw : Region.wanted o (yielded ops a.tmps) = true := by simp [Region.wanted, hgd]
  rw [if_pos hw]
  have hrun := run_copy_str (P := P) w dT sT o.type elem g dCap s old t hu hsz hg
  unfold Oper.wp
  simp [execOp, ho, resolve, invoke, builtin, hd, hs, hrun, Result.andThen]
  exact h _ (hg.row _) (turn_row _ _ _)

/-- A whole array is stored: its block behind it, in a world that is a letter. -/
theorem wpList_store_arr {w : World} {ops : Array Oper} {rest : List Oper} {o : Oper} {a : Act} {Q : Exit → Act → World → Prop} (hgd : o.guard = none) (ty : TypeId) (x y : Operand) (ho : o.op = .store ty x y)
    (g : Nat) (xs old : List UInt8) (hx : a.eval x = .pointer (some ⟨g, 0, none⟩)) (hy : a.eval y = .agg (cellsOf xs))
    (t : TypeId) (hg : Has w g t (cellsOf old)) (n : Nat) (hi : (P.info? ty).map (·.size) = some n) (hn : old.length = n) (hl : xs.length = n)
    (h : ∀ w', Has w' g t (cellsOf xs) → Turn (fun k => k = g) w w' → wpList P ops Q rest (a.put o.dst undef) w') : wpList P ops Q (o :: rest) a w :=
  wpList_store_row hgd ty x y ho g (cellsOf xs) hx hy t (cellsOf old) hg (by rw [hi, cellsOf_size, hl]) (by rw [cellsOf_size, cellsOf_size, hl, hn]) (cellsOf_one xs)
    (h _ (hg.row _) (turn_row _ _ _))

/-- A whole array is loaded. -/
theorem wpList_load_arr {w : World} {ops : Array Oper} {rest : List Oper} {o : Oper} {a : Act} {Q : Exit → Act → World → Prop} (hgd : o.guard = none) (ty : TypeId) (x : Operand) (ho : o.op = .load ty x)
    (g : Nat) (hx : a.eval x = .pointer (some ⟨g, 0, none⟩)) (t : TypeId) (xs : List UInt8) (e : TypeId) (n : Nat) (hg : Has w g t (cellsOf xs))
    (hu : P.underlying ty = some (.array n e)) (hi : (P.info? ty).map (·.size) = some n) (hl : xs.length = n)
    (h : wpList P ops Q rest (a.put o.dst (.agg (cellsOf xs))) w) : wpList P ops Q (o :: rest) a w :=
  wpList_load_row hgd ty x ho g hx t (cellsOf xs) (0, 0) _ hg hu rfl (by rw [hi, cellsOf_size, hl]) h

theorem Has.range {w : World} {g : Nat} {t : TypeId} {cs : List Value} (h : Has w g t cs.toArray) : w.rangeAt g 0 cs := fun j v hj => by
  rw [Nat.zero_add, h.cell j]
  simpa using hj

theorem cells_at (xs : List UInt8) (i : Nat) (c : UInt8) (h : xs[i]? = some c) : (cellsOf xs)[i]? = some (byteV c) := by
  simp [cellsOf, h]

theorem run_eqItems_bytes (d : Nat) {e : TypeId} (hu : P.underlying e = some (.int .u8)) (xs ys : List UInt8) (w : World) : ∀ is : List Nat, (∀ i ∈ is, i < xs.length ∧ i < ys.length) →
    (Op.eqItems (d + 1) e 1 (cellsOf xs) (cellsOf ys) is).run P w = .ok (is.all fun i => xs[i]? == ys[i]?) w
  | [], _ => by simp [Op.eqItems]
  | i :: is, h => by
    obtain ⟨hx, hy⟩ := h i (by simp)
    have ih := run_eqItems_bytes d hu xs ys w is (fun j hj => h j (by simp [hj]))
    have hk : P.plainKey e = true := by unfold Program.plainKey; simp [hu]
    have p1 := run_part_plain (P := P) w hk (cells_at xs i _ (List.getElem?_eq_getElem hx))
    have p2 := run_part_plain (P := P) w hk (cells_at ys i _ (List.getElem?_eq_getElem hy))
    have p3 : (Op.equalIn (d + 1) e (byteV xs[i]) (byteV ys[i])).run P w = .ok (xs[i] == ys[i]) w := by
      have e1 : ((xs[i].toNat : Int) == (ys[i].toNat : Int)) = (xs[i] == ys[i]) := by
        rw [Bool.eq_iff_iff, beq_iff_eq, beq_iff_eq]
        constructor
        · intro h
          exact UInt8.toNat_inj.1 (by omega)
        · intro h
          rw [h]
      rw [← e1]
      exact run_equalIn_int w d e .u8 .u8 _ _ hu
    simp only [Op.eqItems, Nat.mul_one, Sem.run_bind, p1, p2, p3, Result.andThen_ok]
    rw [List.all_cons, List.getElem?_eq_getElem hx, List.getElem?_eq_getElem hy]
    cases hc : (xs[i] == ys[i])
    · have : (some xs[i] == some ys[i]) = false := by simpa using hc
      rw [this]
      simp
    · have : (some xs[i] == some ys[i]) = true := by simpa using hc
      rw [this]
      simpa using ih

/-- Two arrays of bytes are the same just if their bytes are. -/
theorem run_equalIn_bytes (d : Nat) {t e : TypeId} (n : Nat) (hu : P.underlying t = some (.array n e)) (he : P.underlying e = some (.int .u8)) (hs : (P.info? e).map (·.size) = some 1) (xs ys : List UInt8) (hx : xs.length = n) (hy : ys.length = n) (w : World) :
    (Op.equalIn (d + 2) t (.agg (cellsOf xs)) (.agg (cellsOf ys))).run P w = .ok (xs == ys) w := by
  cases hi : P.info? e with
  | none => simp [hi] at hs
  | some i =>
    have hc : P.cellsOf e = 1 := by simp [hi] at hs; simp [Program.cellsOf, hi, hs]
    rw [run_equalIn_array w (d + 1) (cellsOf xs) (cellsOf ys) hu hi, hc, run_eqItems_bytes d he xs ys w _ (fun i hi => by have := List.mem_range.1 hi; omega)]
    congr 1
    rw [Bool.eq_iff_iff, List.all_eq_true, beq_iff_eq]
    constructor
    · intro h
      apply List.ext_getElem?
      intro j
      by_cases hj : j < n
      · exact beq_iff_eq.1 (h j (List.mem_range.2 hj))
      · rw [List.getElem?_eq_none (by omega), List.getElem?_eq_none (by omega)]
    · intro h j _
      rw [h]
      simp

end
end Go.Proofs.Ytndnjeahepahkaa
end

section
/- Steps of a region that draws its order: a call by its contract. -/
namespace Go.Proofs.Ytndnjeahepahkaa
open Go.RowKit
theorem Has.one {w : World} {g : Nat} {t : TypeId} {a : Value} (h : Has w g t #[a]) : w.cell? ⟨g, 0, none⟩ = some a ∧ w.frozen? ⟨g, 0, none⟩ = false := ⟨h.cell 0, h.free 0⟩
theorem Has.two {w : World} {g : Nat} {t : TypeId} {a b : Value} (h : Has w g t #[a, b]) : w.cell? ⟨g, 0, none⟩ = some a ∧ w.cell? ⟨g, 1, none⟩ = some b ∧ w.frozen? ⟨g, 0, none⟩ = false ∧ w.frozen? ⟨g, 1, none⟩ = false := ⟨h.cell 0, h.cell 1, h.free 0, h.free 1⟩
theorem Turn.grownBy {w w' : World} {b : Nat} (h : Turn (fun k => k = b ∨ w.heap.size ≤ k) w w') : w.grownBy w' (some b) :=
  ⟨h.os, h.tape, h.output, h.size, fun k hk hne => h.block k hk (fun h => by
    rcases h with h | h
    · exact hne (by rw [h])
    · omega)⟩
theorem Turn.cell {F : Nat → Prop} {w w' : World} (h : Turn F w w') {p : Addr} (hp : p.block < w.heap.size) (hF : ¬ F p.block) : w'.cell? p = w.cell? p := by
  have := h.block p.block hp hF
  unfold World.cell?
  rw [this]
theorem made_at {w : World} {g : Nat} (t : TypeId) (cs : Array Value) (h : g = w.heap.size) : Has (w.alloc (.cells cs t)) g t cs := h ▸ Has.made w t cs

section
variable {P : Program}

/-- Guards: they hold at once where the next operation is that load, that store; they do nothing. -/
theorem at_op (d : Tmp) {op : Op} {t : TypeId} {p : String} {af : Array _} {ops : Array Oper} {rest : List Oper} {a : Act} {w : World} {Q : Exit → Act → World → Prop}
    (h : wpList P ops Q (⟨some d, op, t, p, af, none⟩ :: rest) a w) : wpList P ops Q (⟨some d, op, t, p, af, none⟩ :: rest) a w := h
theorem at_store (x : Operand) {ty : TypeId} {y : Operand} {t : TypeId} {p : String} {af : Array _} {ops : Array Oper} {rest : List Oper} {a : Act} {w : World} {Q : Exit → Act → World → Prop}
    (h : wpList P ops Q (⟨none, .store ty x y, t, p, af, none⟩ :: rest) a w) : wpList P ops Q (⟨none, .store ty x y, t, p, af, none⟩ :: rest) a w := h

/-- A call of a Go function as one step of a region that draws its order: by its contract. -/
theorem step_call {w : World} {ops : Array Oper} {o : Oper} {a : Act} {K : Act → World → Prop} {Q : Exit → Act → World → Prop} {E : Prop} (hgd : o.guard = none) (f : FuncId) (fn : Func) (hfn : P.funcs[f]? = some fn) (hname : (fn.name == "runtime.NumGoroutine") = false) (hb : fn.body.isNone = false) (xs : Array Operand) (ts : Array TypeId)
    (ho : o.op = .call { callee := .value (.func f), args := xs, argTypes := ts }) (vs : Array Value) (hv : xs.map a.eval = vs) {R : Ending → World → Prop} (hc : Calls P f vs w R)
    (h : ∀ en w', R en w' → ∃ v, en = .returned v ∧ K (a.put o.dst v) w') :
    if Region.wanted o (yielded ops a.tmps) = true then Oper.wp P o a w K Q else E := by
  have hw : Region.wanted o (yielded ops a.tmps) = true := by simp [Region.wanted, hgd]
  rw [if_pos hw]
  have hf : a.eval (.func f) = .func (.func f) #[] #[] := rfl
  have he : (execOp a.eval o).run P w = .ok (.enter f vs) w := by
    simp only [execOp, ho]
    have h1 : fn.name ≠ "runtime.NumGoroutine" := by simpa using hname
    simp [resolve, hv, hf, Deferred.ofValue, invoke, callFunc, hfn, h1]
    intro hn
    simp [hn] at hb
  unfold Oper.wp
  rw [he, Oper.upon_enter]
  refine hc.mono ?_
  intro en w' hR
  obtain ⟨v, rfl, hK⟩ := h en w' hR
  exact hK

end
end Go.Proofs.Ytndnjeahepahkaa
end

section
/- ledger: what New, Has, open, close, move give, of a book whose map reads as D. -/
namespace Go.Proofs.Ytndnjeahepahkaa
open Go.RowKit Go.Maps

section
variable {H : Type}

abbrev kS (s : ByteArray) : Lit := .string s.data.toList
abbrev nI (n : Int) : DataW H := .lit (.int .i64 n)

theorem kS_key (s : ByteArray) : WideAt.IsKeyLit (kS s) := by simp [WideAt.IsKeyLit]
theorem kS_inj {s t : ByteArray} (h : kS s = kS t) : s = t := by
  cases s; cases t; simp [kS] at h; rw [h]
theorem strKeyed : Keyed Try.prog 9 := string_keyed Try.underlying9
theorem kS_of {s : ByteArray} (h : s.size ≤ maxLen) : keyOf Try.prog 9 (.string s) = some (kS s) := WideMaps.keyOf_string_mk Try.underlying9 h
theorem zeroInt (w : World) : (zeroValue 3).run Try.prog w = .ok (.int .i64 0) w := by kernel_rfl

/-- What is under a name; 0 where nothing is. -/
def amt (D : DataW H) (s : ByteArray) : Int := match D.atKey (kS s) (nI 0) with | .lit (.int _ n) => n | _ => 0
/-- Is the name there? -/
def isIn (D : DataW H) (s : ByteArray) : Bool := Maps.has D (kS s)

theorem amt_of {D : DataW H} {s : ByteArray} {c : Int} (h : D.atKey (kS s) (.lit (.int .i64 0)) = .lit (.int .i64 c)) : amt D s = c := by
  unfold amt nI; rw [h]

/-- Block m is a map from names to amounts that reads as D. -/
def Mp (w : World) (m : Nat) (D : DataW H) : Prop := w.ownsMap Try.prog 9 (plainElem Try.prog 3) m (Maps.size D) D

/-- The bound is the number of entries itself. -/
theorem ownsMap_tight {P : Program} {k : TypeId} {R : Value → Option (DataW H × List MemPlace)} {w : World} {b n : Nat} {D : DataW H} (h : w.ownsMap P k R b n D) : w.ownsMap P k R b (Maps.size D) D := by
  obtain ⟨es, clock, hb, F, _, rfl⟩ := h
  exact ⟨es, clock, hb, F, by simp [Maps.size, length_sorted], rfl⟩

/-- The book at block d, whose map is in block m. -/
structure Bk (w : World) (d m : Nat) (D : DataW H) : Prop where
  box : Has w d 87 #[.map (some m)]
  map : Mp w m D

theorem Bk.kept {w w' : World} {d m : Nat} {D : DataW H} {row : Option Nat} (h : Bk w d m D) (hg : w.grownBy w' row) (h1 : some d ≠ row) (h2 : some m ≠ row) : Bk w' d m D :=
  ⟨h.box.grown hg h1, h.map.kept hg h2⟩

theorem Mp.ne {w : World} {d m : Nat} {D : DataW H} {t : TypeId} {cs : Array Value} (h : Mp w m D) (hb : Has w d t cs) : m ≠ d := by
  rintro rfl
  obtain ⟨es, clock, h1, _⟩ := h
  unfold Has at hb
  rw [h1] at hb
  cases hb

/-- The map alone has turned. -/
theorem Bk.turned {w w' : World} {d m : Nat} {D D' : DataW H} {n : Nat} (h : Bk w d m D) (hm : w'.ownsMap Try.prog 9 (plainElem Try.prog 3) m n D') (ht : w.mapTurned w' m) : Bk w' d m D' :=
  ⟨h.box.grown ht.grown (fun e => h.map.ne h.box (by injection e with e; exact e.symm)), ownsMap_tight hm⟩

/-- What a call that may turn the book gives. -/
def BPost (d m : Nat) (w : World) (r : DataW H × Int) (en : Ending) (w' : World) : Prop :=
  en = .returned (.int .i64 r.2) ∧ Bk w' d m r.1 ∧ w.mapTurned w' m

/-- open, close, move of the program: the map, the error. -/
def opn (D : DataW H) (s : ByteArray) : DataW H × Int :=
  if isIn D s = true then (D, 9) else if 16 < Maps.size D then (D, 7) else (D.put (kS s) (nI 0), 0)
def cls (D : DataW H) (s : ByteArray) : DataW H × Int :=
  if isIn D s = false then (D, 8) else if amt D s ≠ 0 then (D, 11) else (D.del (kS s), 0)
def mov (D : DataW H) (s t : ByteArray) (n : Int) : DataW H × Int :=
  if isIn D s = false then (D, 8) else if isIn D t = false then (D, 8)
  else if s ≠ .empty ∧ amt D s < n then (D, 11) else if t ≠ .empty ∧ 1099511627776 < amt D t + n then (D, 10)
  else ((D.put (kS s) (nI (amt D s - n))).put (kS t) (nI (amt D t + n)), 0)

set_option maxRecDepth 100000 in
set_option maxHeartbeats 400000 in
theorem bopen_calls (d m : Nat) (D : DataW H) (s : ByteArray) (w : World) (h : Bk w d m D) (hs : s.size ≤ maxLen) (hD : Maps.size D < maxLen) :
    Calls Try.prog 76 #[.pointer (some ⟨d, 0, none⟩), .string s] w fun en w' => BPost d m w (opn D s) en w' := by
  have hkey := kS_of hs
  have c0 : w.cell? ⟨d, 0, none⟩ = some (.map (some m)) := h.box.cell 0
  have hown : w.ownsMap Try.prog 9 (plainElem Try.prog 3) m (Maps.size D) D := h.map
  have B := Lib.hid h
  clear h hs
  cases hi : isIn D s
  · have hi' : Maps.has D (kS s) = false := hi
    by_cases h2 : 16 < Maps.size D
    · have E := Lib.hid (show opn D s = (D, 7) by unfold opn; rw [if_neg (by rw [hi]; simp), if_pos h2])
      have h2' : (16 : Int) < (Maps.size D : Int) := by omega
      clear hi h2
      go_enter Try.func76, Try.ntmps76
      go_wp2_with (first
        | (at_lookup; refine wpList_lookup_own_ok_int _ rfl _ _ 85 rfl 9 3 .i64 strKeyed Try.underlying85 Try.underlying3 (zeroInt _) m (Maps.size D) D rfl hown _ _ rfl hkey ?_; intro c hat hwc)
        | (at_len; refine wpList_len_own _ rfl _ 85 rfl 9 3 Try.underlying85 _ m (Maps.size D) D rfl hown ?_)
        | go_in)
      go_ret
      rw [show opn D s = _ from E]
      exact ⟨rfl, B, hown.turned_refl⟩
    · have E := Lib.hid (show opn D s = (D.put (kS s) (nI 0), 0) by unfold opn; rw [if_neg (by rw [hi]; simp), if_neg h2])
      have h2' : (Maps.size D : Int) ≤ (16 : Int) := by omega
      clear hi h2
      go_enter Try.func76, Try.ntmps76
      go_wp2_with (first
        | (at_lookup; refine wpList_lookup_own_ok_int _ rfl _ _ 85 rfl 9 3 .i64 strKeyed Try.underlying85 Try.underlying3 (zeroInt _) m (Maps.size D) D rfl hown _ _ rfl hkey ?_; intro c hat hwc)
        | (at_len; refine wpList_len_own _ rfl _ 85 rfl 9 3 Try.underlying85 _ m (Maps.size D) D rfl hown ?_)
        | (at_mapUpdate; refine wpList_mapUpdate_in _ rfl _ _ _ 85 rfl 9 3 strKeyed Try.underlying85 _ m (Maps.size D) D rfl hown hD _ _ _ rfl rfl hkey _ [] (plainElem_int Try.underlying3 (by decide)) ?_; intro w1 hown1 hturn1)
        | go_in)
      go_ret
      rw [show opn D s = _ from E]
      exact ⟨rfl, B.turned hown1 hturn1, hturn1⟩
  · have hi' : Maps.has D (kS s) = true := hi
    have E := Lib.hid (show opn D s = (D, 9) by unfold opn; rw [if_pos hi])
    clear hi
    go_enter Try.func76, Try.ntmps76
    go_wp2_with (first
      | (at_lookup; refine wpList_lookup_own_ok_int _ rfl _ _ 85 rfl 9 3 .i64 strKeyed Try.underlying85 Try.underlying3 (zeroInt _) m (Maps.size D) D rfl hown _ _ rfl hkey ?_; intro c hat hwc)
      | go_in)
    go_ret
    rw [show opn D s = _ from E]
    exact ⟨rfl, B, hown.turned_refl⟩

set_option maxRecDepth 100000 in
set_option maxHeartbeats 400000 in
theorem bclose_calls (d m : Nat) (D : DataW H) (s : ByteArray) (w : World) (h : Bk w d m D) (hs : s.size ≤ maxLen) :
    Calls Try.prog 77 #[.pointer (some ⟨d, 0, none⟩), .string s] w fun en w' => BPost d m w (cls D s) en w' := by
  have hkey := kS_of hs
  have c0 : w.cell? ⟨d, 0, none⟩ = some (.map (some m)) := h.box.cell 0
  have hown : w.ownsMap Try.prog 9 (plainElem Try.prog 3) m (Maps.size D) D := h.map
  have B := Lib.hid h
  clear h hs
  cases hi : isIn D s
  · have hi' : Maps.has D (kS s) = false := hi
    have E := Lib.hid (show cls D s = (D, 8) by unfold cls; rw [if_pos hi])
    clear hi
    go_enter Try.func77, Try.ntmps77
    go_wp2_with (first
      | (at_lookup; refine wpList_lookup_own_ok_int _ rfl _ _ 85 rfl 9 3 .i64 strKeyed Try.underlying85 Try.underlying3 (zeroInt _) m (Maps.size D) D rfl hown _ _ rfl hkey ?_; intro c hat hwc)
      | go_in)
    go_ret
    rw [show cls D s = _ from E]
    exact ⟨rfl, B, hown.turned_refl⟩
  · have hi' : Maps.has D (kS s) = true := hi
    by_cases h2 : amt D s = 0
    · have E := Lib.hid (show cls D s = (D.del (kS s), 0) by unfold cls; rw [if_neg (by rw [hi]; simp), if_neg (by simpa using h2)])
      have E2 := Lib.hid h2
      clear hi h2
      go_enter Try.func77, Try.ntmps77
      go_wp2_with (first
        | (at_lookup; refine wpList_lookup_own_ok_int _ rfl _ _ 85 rfl 9 3 .i64 strKeyed Try.underlying85 Try.underlying3 (zeroInt _) m (Maps.size D) D rfl hown _ _ rfl hkey ?_; intro c hat hwc; obtain rfl : c = 0 := (amt_of hat).symm.trans E2)
        | (at_delete; refine wpList_delete_own _ rfl _ _ 85 9 rfl 3 strKeyed Try.underlying85 _ m (Maps.size D) D rfl hown _ _ rfl hkey ?_; intro w1 hown1 hturn1)
        | go_in)
      go_ret
      rw [show cls D s = _ from E]
      exact ⟨rfl, B.turned hown1 hturn1, hturn1⟩
    · have E := Lib.hid (show cls D s = (D, 11) by unfold cls; rw [if_neg (by rw [hi]; simp), if_pos h2])
      have E2 := Lib.hid h2
      clear hi h2
      go_enter Try.func77, Try.ntmps77
      go_wp2_with (first
        | (at_lookup; refine wpList_lookup_own_ok_int _ rfl _ _ 85 rfl 9 3 .i64 strKeyed Try.underlying85 Try.underlying3 (zeroInt _) m (Maps.size D) D rfl hown _ _ rfl hkey ?_; intro c hat hwc; have hc : (c != 0) = true := by { have hz : c ≠ 0 := fun e => E2 ((amt_of hat).trans e); simpa using hz })
        | go_in)
      go_ret
      rw [show cls D s = _ from E]
      exact ⟨rfl, B, hown.turned_refl⟩

end
end Go.Proofs.Ytndnjeahepahkaa
end

section
/- ledger: what move, New give. -/
namespace Go.Proofs.Ytndnjeahepahkaa
open Go.RowKit Go.Maps

section
variable {H : Type}

theorem wf64 {x : Int} (h : -9223372036854775808 ≤ x) (h' : x ≤ 9223372036854775807) : (Lit.int .i64 x).wf = true := by
  have e1 : IntKind.i64.min = -9223372036854775808 := by decide
  have e2 : IntKind.i64.max = 9223372036854775807 := by decide
  simp [Lit.wf, e1, e2]
  exact ⟨h, h'⟩
theorem grown_cell {w w' : World} {d m : Nat} {v : Value} (h : w.grownBy w' (some m)) (hd : d < w.heap.size) (hne : m ≠ d) (hc : w.cell? ⟨d, 0, none⟩ = some v) : w'.cell? ⟨d, 0, none⟩ = some v := by
  have := h.block d hd (fun e => hne (by injection e with e; exact e.symm))
  unfold World.cell? at hc ⊢
  rw [this]; exact hc

theorem emp_iff {s : ByteArray} : s = .empty ↔ s.toList = [] := by
  rw [ByteArray.toList_eq]
  constructor
  · rintro rfl; rfl
  · intro h
    exact WideShapes.bytes_inj (h.trans rfl)
theorem or_of {α : Type} {l : List α} {p : Prop} (h : (!l.isEmpty) = false ∨ p) : l = [] ∨ p := by simpa using h

set_option maxRecDepth 100000 in
set_option maxHeartbeats 400000 in
theorem bmove_calls (d m : Nat) (D : DataW H) (s t : ByteArray) (n : Int) (w : World) (h : Bk w d m D) (hs : s.size ≤ maxLen) (ht : t.size ≤ maxLen) (hD : Maps.size D + 1 < maxLen)
    (hn : 0 ≤ n) (hn' : n ≤ 1099511627776) (ha : -1152921504606846976 ≤ amt D s) (ha' : amt D s ≤ 1152921504606846976) (hb : -1152921504606846976 ≤ amt D t) (hb' : amt D t ≤ 1152921504606846976) :
    Calls Try.prog 78 #[.pointer (some ⟨d, 0, none⟩), .string s, .string t, .int .i64 n] w fun en w' => BPost d m w (mov D s t n) en w' := by
  have hks := kS_of hs
  have hkt := kS_of ht
  have c0 : w.cell? ⟨d, 0, none⟩ = some (.map (some m)) := h.box.cell 0
  have hown : w.ownsMap Try.prog 9 (plainElem Try.prog 3) m (Maps.size D) D := h.map
  have B := Lib.hid h
  clear h hs ht
  cases hi : isIn D s
  · have hi' : Maps.has D (kS s) = false := hi
    have E := Lib.hid (show mov D s t n = (D, 8) by unfold mov; rw [if_pos hi])
    clear hi
    go_enter Try.func78, Try.ntmps78
    go_wp2_with (first
      | (at_lookup; refine wpList_lookup_own_ok_int _ rfl _ _ 85 rfl 9 3 .i64 strKeyed Try.underlying85 Try.underlying3 (zeroInt _) m (Maps.size D) D rfl hown _ _ rfl hks ?_; intro c hat hwc)
      | go_in)
    go_ret
    rw [show mov D s t n = _ from E]
    exact ⟨rfl, B, hown.turned_refl⟩
  have hi' : Maps.has D (kS s) = true := hi
  have n1 : ¬ (isIn D s = false) := by rw [hi]; simp
  clear hi
  cases hj : isIn D t
  · have hj' : Maps.has D (kS t) = false := hj
    have E := Lib.hid (show mov D s t n = (D, 8) by unfold mov; rw [if_neg n1, if_pos hj])
    clear hj n1
    go_enter Try.func78, Try.ntmps78
    go_wp2_with (first
      | (at_lookup; refine wpList_lookup_own_ok_int _ rfl _ _ 85 rfl 9 3 .i64 strKeyed Try.underlying85 Try.underlying3 (zeroInt _) m (Maps.size D) D rfl hown _ _ rfl hks ?_; intro c hat hwc)
      | (at_lookup; refine wpList_lookup_own_ok_int _ rfl _ _ 85 rfl 9 3 .i64 strKeyed Try.underlying85 Try.underlying3 (zeroInt _) m (Maps.size D) D rfl hown _ _ rfl hkt ?_; intro c2 hat2 hwc2)
      | go_in)
    go_ret
    rw [show mov D s t n = _ from E]
    exact ⟨rfl, B, hown.turned_refl⟩
  have hj' : Maps.has D (kS t) = true := hj
  have n2 : ¬ (isIn D t = false) := by rw [hj]; simp
  clear hj
  have E0 : mov D s t n = if s ≠ .empty ∧ amt D s < n then (D, 11) else if t ≠ .empty ∧ 1099511627776 < amt D t + n then (D, 10)
    else ((D.put (kS s) (nI (amt D s - n))).put (kS t) (nI (amt D t + n)), 0) := by unfold mov; rw [if_neg n1, if_neg n2]
  clear n1 n2
  generalize h1 : amt D s = a at *
  generalize h2 : amt D t = b at *
  have H1 := Lib.hid h1
  have H2 := Lib.hid h2
  simp only [ne_eq, emp_iff] at E0
  have E1 := Lib.hid (show ¬ s.toList = [] → a < n → mov D s t n = (D, 11) from fun e1 e2 => by rw [E0, if_pos ⟨e1, e2⟩])
  have E2 := Lib.hid (show s.toList = [] ∨ n ≤ a → ¬ t.toList = [] → 1099511627776 < b + n → mov D s t n = (D, 10) from fun e1 e2 e3 => by
    rw [E0, if_neg (fun h => e1.elim h.1 (fun h2 => by have := h.2; omega)), if_pos ⟨e2, e3⟩])
  have E3 := Lib.hid (show s.toList = [] ∨ n ≤ a → t.toList = [] ∨ b + n ≤ 1099511627776 → mov D s t n = ((D.put (kS s) (nI (a - n))).put (kS t) (nI (b + n)), 0) from fun e1 e2 => by
    rw [E0, if_neg (fun h => e1.elim h.1 (fun h2 => by have := h.2; omega)), if_neg (fun h => e2.elim h.1 (fun h2 => by have := h.2; omega))])
  clear h1 h2 E0
  go_enter Try.func78, Try.ntmps78
  have hw1 : (Lit.int .i64 (a - n)).wf = true := wf64 (by omega) (by omega)
  have hw2 : (Lit.int .i64 (b + n)).wf = true := wf64 (by omega) (by omega)
  have hD1 : Maps.size D < maxLen := by omega
  obtain ⟨w1, hrun1, hown1, hturn1⟩ := hown.store strKeyed Try.underlying85 hD1 hks (plainElem_int Try.underlying3 hw1)
  obtain ⟨w2, hrun2, hown2, hturn2⟩ := hown1.store strKeyed Try.underlying85 hD hkt (plainElem_int Try.underlying3 hw2)
  have c1 := grown_cell hturn1.grown (B.box.lt) (B.map.ne B.box) c0
  have B2 := Lib.hid (B.turned hown2 (hturn1.trans hturn2))
  have T2 := Lib.hid (hturn1.trans hturn2)
  have T0 := Lib.hid hown.turned_refl
  clear hown1 hown2 hturn1 hturn2
  go_wp2_with (first
    | (at_lookup; refine wpList_lookup_own_ok_int _ rfl _ _ 85 rfl 9 3 .i64 strKeyed Try.underlying85 Try.underlying3 (zeroInt _) m (Maps.size D) D rfl hown _ _ rfl hks ?_; intro c hat hwc; obtain rfl : c = a := (amt_of hat).symm.trans H1)
    | (at_lookup; refine wpList_lookup_own_ok_int _ rfl _ _ 85 rfl 9 3 .i64 strKeyed Try.underlying85 Try.underlying3 (zeroInt _) m (Maps.size D) D rfl hown _ _ rfl hkt ?_; intro c2 hat2 hwc2; obtain rfl : c2 = b := (amt_of hat2).symm.trans H2)
    | fail)
  all_goals
    go_ret
    first
      | (rw [show mov D s t n = _ from E1 (by assumption) (show (!s.toList.isEmpty) = true ∧ c < n by assumption).2]; exact ⟨rfl, B, T0⟩)
      | (rw [show mov D s t n = _ from E2 (by first | exact Or.inl (by assumption) | exact or_of (by assumption)) (by assumption) (show (!t.toList.isEmpty) = true ∧ 1099511627776 < c2 + n by assumption).2]; exact ⟨rfl, B, T0⟩)
      | (rw [show mov D s t n = _ from E3 (by first | exact Or.inl (by assumption) | exact or_of (by assumption)) (by first | exact Or.inl (by assumption) | exact or_of (by assumption))]; exact ⟨rfl, B2, T2⟩)

end
end Go.Proofs.Ytndnjeahepahkaa
end

