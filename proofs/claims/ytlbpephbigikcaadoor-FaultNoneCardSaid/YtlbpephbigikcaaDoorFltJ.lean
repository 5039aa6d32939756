/- fault: law 3's number, Cut; steps that are handed in; wrapped. -/
import Derived.Test.YtlbpephbigikcaaDoorFltI
import Derived.Test.YtlbpephbigikcaaDoorOpen
import Derived.Lib.ItoaWalk
namespace Go.Proofs.YtlbpephbigikcaaDoor.flt
open Go Go.RowKit Go.Extern.Stop Go.Stop Go.Extern Go.ChangeShapes Go.WideShapes Go.ChangeAt

/-- The law's number. -/
def num (n : Int) : Int := 1 + (n.tmod 20 + 20).tmod 20
theorem num_range (n : Int) : 1 ≤ num n ∧ num n ≤ 20 := by
  unfold num
  have h1 := Int.tmod_lt_of_pos n (b := 20) (by decide)
  have h2 := Int.lt_tmod_of_pos n (b := 20) (by decide)
  have h3 := Int.tmod_lt_of_pos (n.tmod 20 + 20) (b := 20) (by decide)
  have h4 := Int.tmod_nonneg (a := n.tmod 20 + 20) 20 (by omega)
  omega
theorem number_calls (n : Int) (w : World) : Calls Tryd.prog 10 #[.int .i64 n] w fun en w' => en = .returned (.int .i64 (num n)) ∧ w = w' := by
  have h1 := Int.tmod_lt_of_pos n (b := 20) (by decide)
  have h2 := Int.lt_tmod_of_pos n (b := 20) (by decide)
  have h3 := Int.tmod_lt_of_pos (n.tmod 20 + 20) (b := 20) (by decide)
  have h4 := Int.tmod_nonneg (a := n.tmod 20 + 20) 20 (by omega)
  obtain ⟨a, ha⟩ : ∃ a, a = n.tmod 20 := ⟨_, rfl⟩
  rw [← ha] at h1 h2 h3 h4
  obtain ⟨b, hb⟩ : ∃ b, b = (a + 20).tmod 20 := ⟨_, rfl⟩
  rw [← hb] at h3 h4
  have e1 : n.tmod 20 = a := ha.symm
  have e2 : (a + 20).tmod 20 = b := hb.symm
  have HN := Lib.hid (show num n = 1 + b by unfold num; rw [e1, e2])
  clear ha hb
  go_enter Tryd.func10, Tryd.ntmps10
  go_wp2_with fail
  go_ret
  exact ⟨by rw [HN.out]; rfl, rfl⟩

/-- A name, cut to ten bytes. -/
def cut10 (s : ByteArray) : ByteArray := if 10 < s.size then s.extract 0 10 else s
theorem cut10_size (s : ByteArray) : (cut10 s).size ≤ 10 := by
  unfold cut10
  split
  · rw [ByteArray.size_extract]; omega
  · omega
theorem cut_calls (s : ByteArray) (w : World) (_hs : s.size ≤ maxLen) : Calls Tryd.prog 18 #[.string s, .int .i64 10] w fun en w' => en = .returned (.string (cut10 s)) ∧ w = w' := by
  by_cases h : 10 < s.size
  · have HC := Lib.hid (show cut10 s = s.extract 0 10 from if_pos h)
    have h2 : (10 : Int) < (s.size : Int) := by omega
    go_enter Tryd.func18, Tryd.ntmps18
    go_wp2_with fail
    go_ret
    exact ⟨by rw [HC.out]; rfl, rfl⟩
  · have HC := Lib.hid (show cut10 s = s from if_neg h)
    have h2 : ¬ (10 : Int) < (s.size : Int) := by omega
    go_enter Tryd.func18, Tryd.ntmps18
    go_wp2_with fail
    go_ret
    exact ⟨by rw [HC.out]; rfl, rfl⟩

/-- The steps T of a slice that is handed in: names and places. -/
def ArgT (w : World) (a : Option Addr) (len : Nat) (T : Nat → ByteArray × Int) : Prop :=
  len ≤ maxLen ∧ ∀ i, i < len → ∃ b o, a = some ⟨b, o, none⟩ ∧ b < w.heap.size ∧ (T i).1.size ≤ maxLen ∧
    w.cell? ⟨b, o + i * 2, none⟩ = some (.string (T i).1) ∧ w.cell? ⟨b, o + i * 2 + 1, none⟩ = some (.int .i64 (T i).2)

theorem openedT {H : Type} {enc : TypeId × Value → H} {w : World} {spare : Nat → Bool} {held : Bool} {a : Option Addr} {len cap : Nat} {d : DataW H} {p : List MemPlace} (h : DataW.Trod enc Tryd.prog w 0 spare held 22 (.slice a len cap) d p) : ∃ T, ArgT w a len T := by
  obtain ⟨h1, h2, h3⟩ := opened_rows Tryd.underlying22 Tryd.underlying38 (by kernel_rfl) (by kernel_rfl) (by decide) h
  have key : ∀ i, i < len → ∃ t : ByteArray × Int, ∃ b o, a = some ⟨b, o, none⟩ ∧ b < w.heap.size ∧ t.1.size ≤ maxLen ∧
      w.cell? ⟨b, o + i * 2, none⟩ = some (.string t.1) ∧ w.cell? ⟨b, o + i * 2 + 1, none⟩ = some (.int .i64 t.2) := fun i hi => by
    obtain ⟨b, o, e, hb, hf⟩ := h3 i hi
    obtain ⟨v0, n0, y0, c0, t0⟩ := hf 0 _ rfl
    obtain ⟨v1, n1, y1, c1, t1⟩ := hf 1 _ rfl
    obtain ⟨x, ex, _, hx⟩ := DataW.trod_string Tryd.underlying9 t0
    obtain ⟨n, en, _, _⟩ := DataW.trod_int Tryd.underlying3 t1
    simp only [List.cons.injEq, and_true] at ex en
    subst ex; subst en
    exact ⟨(x, n), b, o, e, hb, hx, c0, c1⟩
  refine ⟨fun i => if hi : i < len then Classical.choose (key i hi) else (⟨#[]⟩, 0), Nat.le_trans h1 h2, fun i hi => ?_⟩
  have hs := Classical.choose_spec (key i hi)
  simp only [dif_pos hi]
  exact hs

theorem ArgT.below {w wr : World} {a : Option Addr} {len : Nat} {T : Nat → ByteArray × Int} (h : ArgT w a len T) (t : Below w.heap.size w wr) : ArgT wr a len T := by
  refine ⟨h.1, fun i hi => ?_⟩
  obtain ⟨b, o, e, hb, hs, c0, c1⟩ := h.2 i hi
  have ht : ∀ q : Nat, wr.cell? ⟨b, q, none⟩ = w.cell? ⟨b, q, none⟩ := fun q => by
    unfold World.cell?
    rw [t.block b hb]
  exact ⟨b, o, e, Nat.lt_of_lt_of_le hb t.size, hs, by rw [ht]; exact c0, by rw [ht]; exact c1⟩

/-- A place, not below -2^62. -/
def low62 (x : Int) : Int := max x (-4611686018427387904)
/-- The cells of the first i steps, cut. -/
def rowT (T : Nat → ByteArray × Int) : Nat → List Value
  | 0 => []
  | i + 1 => rowT T i ++ [.string (cut10 (T i).1), .int .i64 (low62 (T i).2)]

theorem stepInfo : ∃ i z, Tryd.prog.info? 38 = some i ∧ i.zero = some z ∧ i.size = 2 ∧ z.cells.size = 2 ∧ i.bytes = 24 := by
  have h2 : (Tryd.prog.info? 38).map (fun i => (i.zero.map (fun z => z.cells.size), i.size, i.bytes)) = some (some 2, 2, 24) := by kernel_rfl
  obtain ⟨i, hi, e⟩ := Option.map_eq_some_iff.1 h2
  simp only [Prod.mk.injEq] at e
  obtain ⟨e1, e2, e3⟩ := e
  obtain ⟨z, hz, e4⟩ := Option.map_eq_some_iff.1 e1
  exact ⟨i, z, hi, hz, e2, e4, e3⟩

def Few (w : World) (T : Nat → ByteArray × Int) (i : Nat) (v : Value) (wr : World) : Prop :=
  Seg wr 38 2 v i (rowT T i) ∧ (∀ x, v.ownBlock = some x → w.heap.size ≤ x) ∧ Below w.heap.size w wr

theorem rowT_len (T : Nat → ByteArray × Int) : ∀ i, (rowT T i).length = i * 2
  | 0 => rfl
  | i + 1 => by
    show (rowT T i ++ [_, _]).length = _
    rw [List.length_append, rowT_len T i]
    show i * 2 + 2 = _
    omega
theorem rowT_get {T : Nat → ByteArray × Int} {i k : Nat} (h : k < i) : (rowT T i)[k * 2]? = some (.string (cut10 (T k).1)) ∧ (rowT T i)[k * 2 + 1]? = some (.int .i64 (low62 (T k).2)) := by
  induction i with
  | zero => omega
  | succ i ih =>
    show (rowT T i ++ [_, _])[_]? = _ ∧ (rowT T i ++ [_, _])[_]? = _
    rcases Nat.lt_or_ge k i with h1 | h1
    · rw [List.getElem?_append_left (by rw [rowT_len]; omega), List.getElem?_append_left (by rw [rowT_len]; omega)]
      exact ih h1
    · obtain rfl : k = i := by omega
      rw [List.getElem?_append_right (by rw [rowT_len]; omega), List.getElem?_append_right (by rw [rowT_len]; omega), rowT_len]
      rw [show k * 2 - k * 2 = 0 by omega, show k * 2 + 1 - k * 2 = 1 by omega]
      exact ⟨rfl, rfl⟩

/-- The steps L are those from j on, cut. -/
def Mt (T : Nat → ByteArray × Int) : Nat → List Sp → Prop
  | _, [] => True
  | j, x :: r => (x.s = cut10 (T j).1 ∧ x.a = low62 (T j).2) ∧ Mt T (j + 1) r

/-- An error in new memory: a number in the first six steps, cut; and these steps. -/
def WrapPost (w : World) (T : Nat → ByteArray × Int) (len : Nat) (n : Int) (en : Ending) (w' : World) : Prop :=
  ∃ (m : Nat) (L : List Sp) (v : Value), en = .returned (.tuple #[ev L (num n), v]) ∧ m ≤ 6 ∧ m ≤ len ∧ (m = 6 ∨ m = len) ∧ L.length = m ∧ Mt T 0 L ∧ Er w'.heap.size w' L (num n) ∧ Few w T m v w'

set_option maxRecDepth 100000 in
set_option maxHeartbeats 4000000 in
theorem wrapped_calls (B : Nat) (a : Option Addr) (len c : Nat) (T : Nat → ByteArray × Int) (n : Int) (w : World) (hT : Et B w) (hA : ArgT w a len T) :
    Calls Tryd.prog 9 #[.slice a len c, .int .i64 n] w (WrapPost w T len n) := by
  obtain ⟨z0i, z0, hi0, hz0, hz1, hz2, hz3⟩ := stepInfo
  have HI0 := Lib.hid hi0
  have HZ0 := Lib.hid hz0
  have HT := Lib.hid hT
  have HA := Lib.hid hA
  have hlen : (len : Int) ≤ 9223372036854775807 := by have := hA.1; unfold maxLen at this; omega
  clear hi0 hz0 hT hA
  go_enter Tryd.func9, Tryd.ntmps9
  go_wp2_with fail
  go_name_world W hW
  have F0 : Hid (Few w T 0 (.slice (some ⟨w.heap.size, 0, none⟩) 0 0) W) := by
    rw [← hW]
    exact Lib.hid ⟨⟨rfl, .inr ⟨w.heap.size, 0, 0, #[], rfl, heap_alloc_new w _, Nat.le_refl _, Nat.zero_le _, Nat.le_refl _, rfl⟩⟩, fun x hx => by injection hx with hx; exact Nat.le_of_eq hx, (Below.refl _ w).alloc (Nat.le_refl _) _⟩
  clear hW
  go_loopw [6, 7] (fun v x wr => ∃ i : Nat, x = .int .i64 i ∧ i ≤ 6 ∧ i ≤ len ∧ Hid (Few w T i v wr)) (fun _ x _ => 6 - (intOf x).toNat)
  case atStart => exact ⟨0, rfl, by omega, by omega, F0⟩
  case round =>
    obtain ⟨i, rfl, hi, hil, HF⟩ := hrel
    by_cases h12 : i < len ∧ i < 6
    · have h1 := h12.1
      have h1b : (i : Int) < (len : Int) := by omega
      have h2b : (i : Int) < 6 := by omega
      obtain ⟨b, o, rfl, hb, hs, c0, c1⟩ := (HA.out.below HF.out.2.2).2 i h1
      have HS := Lib.hid hs
      obtain ⟨s, hs1⟩ : ∃ s, s = (T i).1 := ⟨_, rfl⟩
      obtain ⟨x, hx1⟩ : ∃ x, x = (T i).2 := ⟨_, rfl⟩
      rw [← hs1] at c0 HS
      rw [← hx1] at c1
      have HSX := Lib.hid (And.intro hs1 hx1)
      clear hs hs1 hx1 hb
      go_wp2_with fail
      have HBF : Hid (w.heap.size ≤ wr.heap.size) := Lib.hid HF.out.2.2.size
      go_region_law (first
        | (refine step_call rfl 18 Tryd.f18 Tryd.func18 (by kernel_rfl) (by kernel_rfl) _ _ rfl #[.string s, .int .i64 10] (by first | (simp [Act.eval]; done) | (simp [Act.eval, Act.put]; done)) (cut_calls s _ HS.out) ?_
           rintro en w4 ⟨rfl, rfl⟩
           refine ⟨_, rfl, ?_⟩)
        | (refine step_append_seg _ rfl (.tmp 21) (.tmp 35) 22 rfl 38 z0i z0 2 24 Tryd.underlying22 HI0.out HZ0.out hz1 hz3 hz2 (by decide) u6 i (rowT T i) (by simp [Act.eval]) (by first | exact (HF.out.1.alloc _).drew | exact HF.out.1.drew.alloc _) ⟨wr.heap.size, 0, none⟩ 1 1 [.string (cut10 s), .int .i64 (max x (-4611686018427387904))] (by simp [Act.eval]) rfl (by exact World.news_of_block (heap_alloc_new _ _)) (by simp [Value.oneCell']) (by decide) (by unfold maxLen; omega) (by omega) _ rfl ?_
           intro g off cp w2 hown hg hat hlt
           have F2 : Hid (Few w T (i + 1) (.slice (some ⟨g, off, none⟩) (i + 1) cp) w2) := by
             refine Lib.hid ⟨?_, fun y hy => ?_, ?_⟩
             · have e : rowT T (i + 1) = rowT T i ++ [.string (cut10 s), .int .i64 (max x (-4611686018427387904))] := by
                 rw [HSX.out.1, HSX.out.2]
                 rfl
               rw [e]
               exact hown
             · injection hy with hy
               subst hy
               rcases hat with h | h
               · exact HF.out.2.1 _ h
               · rw [h]; exact Nat.le_trans HBF.out (by simp)
             · have b0 : ∀ o, Below w.heap.size w (wr.alloc o).drew := fun o => (HF.out.2.2.alloc HBF.out o).drew
               first | exact (b0 _).trans (below_own hg HF.out.2.1 (Nat.le_trans HBF.out (by simp))) | exact (HF.out.2.2.drew.alloc HBF.out _).trans (below_own hg HF.out.2.1 (Nat.le_trans HBF.out (by simp)))
           clear hown hg hat hlt))
      all_goals
        go_wp2_with fail
        refine ⟨⟨i + 1, by rw [Int.natCast_add]; rfl, by omega, by omega, F2⟩, ?_⟩
        show 6 - ((i : Int) + 1).toNat < 6 - ((i : Int)).toNat
        omega
    · have HM : Hid (i = 6 ∨ i = len) := Lib.hid (by omega)
      obtain ⟨q, cq, hq, hq1, hq2⟩ := HF.out.1.slice
      subst hq
      have hi6 : (i : Int) ≤ 6 := by omega
      by_cases h1 : i < len
      case' pos =>
        have h1b : (i : Int) < (len : Int) := by omega
        have h2b : ¬ (i : Int) < 6 := by omega
      case' neg =>
        have h1b : ¬ (i : Int) < (len : Int) := by omega
      all_goals
        clear hlen h12
        go_wp2_with (first
          | (go_at_call 10; refine (number_calls n _).mono ?_; rintro en w1 ⟨rfl, rfl⟩)
          | fail)
        go_loopw [8, 9] (fun e x W => ∃ (j : Nat) (L : List Sp), x = .int .i64 ((j : Int) - 1) ∧ e = ev L (num n) ∧ j ≤ 6 ∧ Hid (j + L.length = i) ∧ Hid (Mt T j L ∧ Er W.heap.size W L (num n) ∧ Few w T i (.slice q i cq) W)) (fun _ x _ => (intOf x + 1).toNat)
        case atStart => exact ⟨i, [], rfl, rfl, by omega, Lib.hid (by simp), Lib.hid ⟨trivial, trivial, HF.out⟩⟩
        case round =>
          obtain ⟨j, L, rfl, rfl, hj, HJ, HS⟩ := hrel
          by_cases hj0 : j = 0
          · subst hj0
            go_wp2_with fail
            go_ret2
            exact ⟨i, L, _, rfl, hi, hil, HM.out, by have := HJ.out; omega, HS.out.1, HS.out.2.1, HS.out.2.2⟩
          · obtain ⟨k, rfl⟩ : ∃ k, j = k + 1 := ⟨j - 1, by omega⟩
            have hki : k < i := by have := HJ.out; omega
            rw [show (((k + 1 : Nat) : Int) - 1) = (k : Int) by omega]
            obtain ⟨g, off, c', e, hg, _, _, hcells⟩ := HS.out.2.2.1.cells (by omega)
            injection e with e1 e2 e3
            subst e1
            subst e3
            clear e2
            have c0 : wr.cell? ⟨g, off + k * 2, none⟩ = some (.string (cut10 (T k).1)) := hcells (k * 2) _ (rowT_get hki).1
            have c1 : wr.cell? ⟨g, off + k * 2 + 1, none⟩ = some (.int .i64 (low62 (T k).2)) := hcells (k * 2 + 1) _ (rowT_get hki).2
            have hkb : (k : Int) < (i : Int) := by omega
            have hk0 : ¬ (k : Int) < 0 := by omega
            obtain ⟨s, hs1⟩ : ∃ s, s = cut10 (T k).1 := ⟨_, rfl⟩
            obtain ⟨x, hx1⟩ : ∃ x, x = low62 (T k).2 := ⟨_, rfl⟩
            rw [← hs1] at c0
            rw [← hx1] at c1
            have HSX := Lib.hid (And.intro hs1 hx1)
            clear hs1 hx1 hcells hg
            have hne : num n ≠ 0 := by have := (num_range n).1; omega
            have HNE := Lib.hid hne
            clear hne
            have hEv := Lib.hid (Eq.refl (ev L (num n)))
            go_wp2_with fail
            go_region_law (refine step_call rfl 17 Tryd.f17 Tryd.func17 (by kernel_rfl) (by kernel_rfl) _ _ rfl #[.string s, .int .i64 x, ev L (num n)] (by first | (simp [Act.eval]; done) | (simp [Act.eval, Act.put]; done)) (in_calls L (num n) s x _ HNE.out) ?_
                           rintro en w4 ⟨rfl, hw4⟩
                           have F4 : Hid (Mt T k (⟨wr.heap.size, s, x⟩ :: L) ∧ Er w4.heap.size w4 (⟨wr.heap.size, s, x⟩ :: L) (num n) ∧ Few w T i (.slice (some ⟨g, off, none⟩) i cq) w4) := by
                             have bw : Below wr.heap.size wr w4 := by rw [hw4]; first | exact (Below.refl _ wr).alloc (Nat.le_refl _) _ | exact ((Below.refl _ wr).drew).alloc (Nat.le_refl _) _
                             have hm : Has w4 wr.heap.size 47 #[.string s, .int .i64 x, ev L (num n)] := by rw [hw4]; exact Has.made _ _ _
                             refine Lib.hid ⟨⟨HSX.out, HS.out.1⟩, ⟨⟨hm, hm.lt⟩, (HS.out.2.1.below bw (Nat.le_refl _)).more bw.size⟩, ?_, HS.out.2.2.2.1, HS.out.2.2.2.2.trans (below_less bw HS.out.2.2.2.2.size)⟩
                             exact HS.out.2.2.1.below bw (fun b hb => HS.out.2.2.1.lt hb)
                           clear hw4
                           refine ⟨_, rfl, ?_⟩)
            all_goals
              go_wp2_with fail
              refine ⟨⟨k, ⟨wr.heap.size, s, x⟩ :: L, rfl, rfl, by omega, Lib.hid (by have := HJ.out; simp only [List.length_cons]; omega), F4⟩, ?_⟩
              show ((k : Int) - 1 + 1).toNat < ((k : Int) + 1).toNat
              omega
end Go.Proofs.YtlbpephbigikcaaDoor.flt
