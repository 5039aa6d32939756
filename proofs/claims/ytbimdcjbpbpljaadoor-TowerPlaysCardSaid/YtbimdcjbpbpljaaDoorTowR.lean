/- tower: the document's own list: Put, Cut. -/
import Derived.Test.YtbimdcjbpbpljaaDoorTwsF
import Derived.Deep.AppendLies
namespace Go.Proofs.YtbimdcjbpbpljaaDoor.tow
open Go Go.RowKit Go.Proofs.YtbimdcjbpbpljaaDoor.tws

abbrev It := Int × ByteArray
def oc (L : List It) : List Value := L.flatMap (fun x => [.int .i64 x.1, .string x.2])
theorem oc_get (L : List It) (i : Nat) (x : It) (h : L[i]? = some x) : (oc L)[i * 2]? = some (.int .i64 x.1) ∧ (oc L)[i * 2 + 1]? = some (.string x.2) := by
  induction L generalizing i with
  | nil => simp at h
  | cons p L ih =>
    have e : oc (p :: L) = [.int .i64 p.1, .string p.2] ++ oc L := rfl
    cases i with
    | zero => simp at h; subst h; simp [e]
    | succ i =>
      have h2 := ih i (by simpa using h)
      have hl : [Value.int .i64 p.1, Value.string p.2].length = 2 := rfl
      rw [e, List.getElem?_append_right (by rw [hl]; omega), List.getElem?_append_right (by rw [hl]; omega), hl]
      have e1 : (i + 1) * 2 - 2 = i * 2 := by omega
      have e2 : (i + 1) * 2 + 1 - 2 = i * 2 + 1 := by omega
      rw [e1, e2]
      exact h2

/-- The slice v, which is owned, reads as the list L. -/
def Ones (w : World) (v : Value) (L : List It) : Prop := w.ownsRow 0 34 2 v L.length (oc L)
theorem Ones.slice {w : World} {v : Value} {L : List It} (h : Ones w v L) : ∃ a c, v = .slice a L.length c := own_slice h
theorem Ones.turn {F : Nat → Prop} {w w' : World} {v : Value} {L : List It} (h : Ones w v L) (t : Turn F w w') (hr : ∀ k, v.ownBlock = some k → ¬ F k) : Ones w' v L := own_turn h t hr
theorem Ones.lt {w : World} {v : Value} {L : List It} (h : Ones w v L) {k : Nat} (hk : v.ownBlock = some k) : k < w.heap.size := own_lt h hk
theorem Ones.below {w w' : World} {v : Value} {L : List It} (h : Ones w v L) (t : Below w.heap.size w w') : Ones w' v L :=
  h.turn (Turn.of_below (F := fun k => w.heap.size ≤ k) t (fun _ _ h => h)) (fun k hk e => by have := h.lt hk; omega)
theorem Ones.at_ {w : World} {v : Value} {L : List It} (h : Ones w v L) {i : Nat} {x : It} (hx : L[i]? = some x) : ∃ g c, v = .slice (some ⟨g, 0, none⟩) L.length c ∧ g < w.heap.size ∧ w.cell? ⟨g, i * 2, none⟩ = some (.int .i64 x.1) ∧ w.cell? ⟨g, i * 2 + 1, none⟩ = some (.string x.2) := by
  obtain ⟨g, c, e, h1, h2, hc⟩ := own_cell h (by have := (List.getElem?_eq_some_iff.1 hx).1; omega)
  obtain ⟨k1, k2⟩ := oc_get L i x hx
  exact ⟨g, c, e, h.lt (by rw [e]; rfl), hc _ _ k1, hc _ _ k2⟩

theorem zeroOne : ∃ i z, Tryd.prog.info? 34 = some i ∧ i.zero = some z ∧ i.size = 2 ∧ z.cells.size = 2 ∧ i.bytes = 24 := by
  have h2 : (Tryd.prog.info? 34).map (fun i => (i.zero.map (fun z => z.cells.size), i.size, i.bytes)) = some (some 2, 2, 24) := by kernel_rfl
  obtain ⟨i, hi, e⟩ := Option.map_eq_some_iff.1 h2
  simp at e
  obtain ⟨⟨z, hz, hz2⟩, h3, h4⟩ := e
  exact ⟨i, z, hi, hz, h3, hz2, h4⟩
theorem oneCell_one (x : It) : ∀ u ∈ [Value.int .i64 x.1, Value.string x.2], u.oneCell' = true := by
  intro u hu
  simp only [List.mem_cons, List.not_mem_nil, or_false] at hu
  rcases hu with rfl | rfl <;> rfl

/-- A row that grows, in new memory. -/
structure Grow (w : World) (B : Nat) (v : Value) (O : List It) (wr : World) : Prop where
  own : Ones wr v O
  new : ∀ b, v.ownBlock = some b → B ≤ b
  low : w.heap.size ≤ B
  big : B ≤ wr.heap.size
  turn : Turn (fun j => w.heap.size ≤ j) w wr
theorem Grow.more {w wr w' : World} {B : Nat} {v : Value} {O : List It} (h : Grow w B v O wr) (t : Turn (fun j => wr.heap.size ≤ j) wr w') : Grow w B v O w' :=
  ⟨own_turn h.own t (fun _ hb => Nat.not_le_of_lt (own_lt h.own hb)), h.new, h.low, Nat.le_trans h.big t.size, h.turn.trans t (fun _ _ e => Nat.le_trans h.turn.size e)⟩
theorem Grow.push {w wr w' : World} {B : Nat} {v : Value} {O : List It} (h : Grow w B v O wr) (x : It) {g cap : Nat} (hown : w'.ownsRow 0 34 2 (.slice (some ⟨g, 0, none⟩) (O.length + 1) cap) (O.length + 1) (oc O ++ [.int .i64 x.1, .string x.2])) (hg : wr.grownBy w' v.ownBlock) (hat : v.ownBlock = some g ∨ g = wr.heap.size) :
    Grow w B (.slice (some ⟨g, 0, none⟩) (O.length + 1) cap) (O ++ [x]) w' := by
  refine ⟨?_, ?_, h.low, Nat.le_trans h.big hg.size, h.turn.grown hg (fun j e _ => Nat.le_trans h.low (h.new j e))⟩
  · unfold Ones
    rw [List.length_append]
    have e : oc (O ++ [x]) = oc O ++ [.int .i64 x.1, .string x.2] := by simp [oc]
    rw [e]
    exact hown
  · intro b hb
    injection hb with hb
    obtain rfl : g = b := hb
    rcases hat with k | k
    · exact h.new _ k
    · rw [k]; exact h.big
theorem Grow.new_ (w : World) {g : Nat} {wr : World} (hg : Has wr g 34 #[]) (hn : w.heap.size ≤ g) (t : Turn (fun j => w.heap.size ≤ j) w wr) : Grow w g (.slice (some ⟨g, 0, none⟩) 0 0) [] wr :=
  ⟨⟨rfl, .inr ⟨_, 0, #[], rfl, Nat.zero_le _, hg, Nat.le_refl _, Nat.zero_le _, rfl, rfl⟩⟩, fun b hb => by injection hb with hb; obtain rfl : g = b := hb; exact Nat.le_refl _, hn, Nat.le_of_lt hg.lt, t⟩

theorem insK_more {a : Int} {v : ByteArray} : ∀ {l : List It}, (∃ z ∈ l, a ≤ z.1) → ∀ R, insK a v (l ++ R) = insK a v l ++ R
  | [], h, R => by obtain ⟨z, hz, _⟩ := h; cases hz
  | x :: l, h, R => by
    rw [List.cons_append, insK_cons, insK_cons]
    by_cases h1 : x.1 < a
    · rw [if_pos h1, if_pos h1, insK_more (by
        obtain ⟨z, hz, e⟩ := h
        rcases List.mem_cons.1 hz with rfl | hz
        · omega
        · exact ⟨z, hz, e⟩) R, List.cons_append]
    · rw [if_neg h1, if_neg h1]
      by_cases h2 : x.1 = a
      · rw [if_pos h2, if_pos h2, List.cons_append]
      · rw [if_neg h2, if_neg h2]; rfl
theorem insK_end {a : Int} {v : ByteArray} : ∀ {l : List It}, (∀ x ∈ l, x.1 < a) → ∀ R, insK a v (l ++ R) = l ++ insK a v R
  | [], _, R => rfl
  | x :: l, h, R => by
    rw [List.cons_append, insK_cons, if_pos (h x (by simp)), insK_end (fun y hy => h y (by simp [hy])) R]
    rfl
theorem take_one {L : List It} {k : Nat} {y : It} (h : L[k]? = some y) : L.take (k + 1) = L.take k ++ [y] := by
  have hk := (List.getElem?_eq_some_iff.1 h).1
  have e := (List.getElem?_eq_some_iff.1 h).2
  rw [List.take_succ_eq_append_getElem hk, e]
theorem take_lt {L : List It} (hs : L.Pairwise (fun x y => x.1 < y.1)) {k : Nat} {y : It} (h : L[k]? = some y) : ∀ z ∈ L.take k, z.1 < y.1 := by
  intro z hz
  have e : L.take (k + 1) = L.take k ++ [y] := take_one h
  have h2 := hs.sublist (List.take_sublist (k + 1) L)
  rw [e] at h2
  exact (List.pairwise_append.1 h2).2.2 z hz y (by simp)

/-- What stands in out behind k of them. -/
def PutS (a : Int) (v : ByteArray) (L : List It) (k : Nat) (d was : Bool) (O : List It) : Prop :=
  (was = true ↔ ∃ y ∈ L.take k, y.1 = a) ∧ ((d = true ∧ O = insK a v (L.take k) ∧ ∃ z ∈ L.take k, a ≤ z.1) ∨ (d = false ∧ O = L.take k ∧ ∀ y ∈ L.take k, y.1 < a))

section
variable {a : Int} {v : ByteArray} {L : List It} {k : Nat} {d was : Bool} {O : List It} {y : It}
theorem PutS.was_step (h : PutS a v L k d was O) (hy : L[k]? = some y) : ((was || decide (y.1 = a)) = true ↔ ∃ z ∈ L.take (k + 1), z.1 = a) := by
  rw [take_one hy, Bool.or_eq_true, h.1, decide_eq_true_iff]
  constructor
  · rintro (⟨z, hz, e⟩ | e)
    · exact ⟨z, by simp [hz], e⟩
    · exact ⟨y, by simp, e⟩
  · rintro ⟨z, hz, e⟩
    rcases List.mem_append.1 hz with hz | hz
    · exact .inl ⟨z, hz, e⟩
    · rw [List.mem_singleton.1 hz] at e; exact .inr e
theorem PutS.late (h : PutS a v L k true was O) (hs : L.Pairwise (fun x y => x.1 < y.1)) (hy : L[k]? = some y) : a < y.1 ∧ PutS a v L (k + 1) true was (O ++ [y]) := by
  rcases h.2 with ⟨_, hO, z, hz, hza⟩ | ⟨e, _⟩
  · have := take_lt hs hy z hz
    refine ⟨by omega, ?_, .inl ⟨rfl, ?_, z, by rw [take_one hy]; simp [hz], hza⟩⟩
    · have := h.was_step hy
      rw [show decide (y.1 = a) = false from decide_eq_false (by omega), Bool.or_false] at this
      exact this
    · rw [take_one hy, insK_more ⟨z, hz, hza⟩, hO]
  · cases e
theorem PutS.low (h : PutS a v L k false was O) (hy : L[k]? = some y) (hlt : y.1 < a) : PutS a v L (k + 1) false was (O ++ [y]) := by
  rcases h.2 with ⟨e, _⟩ | ⟨_, hO, hA⟩
  · cases e
  · refine ⟨?_, .inr ⟨rfl, by rw [take_one hy, hO], fun z hz => ?_⟩⟩
    · have := h.was_step hy
      rw [show decide (y.1 = a) = false from decide_eq_false (by omega), Bool.or_false] at this
      exact this
    · rw [take_one hy] at hz
      rcases List.mem_append.1 hz with hz | hz
      · exact hA z hz
      · rw [List.mem_singleton.1 hz]; exact hlt
theorem PutS.same (h : PutS a v L k false was O) (hy : L[k]? = some y) (he : y.1 = a) : PutS a v L (k + 1) true true (O ++ [(a, v)]) := by
  rcases h.2 with ⟨e, _⟩ | ⟨_, hO, hA⟩
  · cases e
  · refine ⟨⟨fun _ => ⟨y, by rw [take_one hy]; simp, he⟩, fun _ => rfl⟩, .inl ⟨rfl, ?_, y, by rw [take_one hy]; simp, by omega⟩⟩
    rw [take_one hy, insK_end hA, hO, insK_cons, if_neg (by omega), if_pos he]
theorem PutS.high (h : PutS a v L k false was O) (hy : L[k]? = some y) (hlt : a < y.1) : PutS a v L (k + 1) true was (O ++ [(a, v)] ++ [y]) := by
  rcases h.2 with ⟨e, _⟩ | ⟨_, hO, hA⟩
  · cases e
  · refine ⟨?_, .inl ⟨rfl, ?_, y, by rw [take_one hy]; simp, by omega⟩⟩
    · have := h.was_step hy
      rw [show decide (y.1 = a) = false from decide_eq_false (by omega), Bool.or_false] at this
      exact this
    · rw [take_one hy, insK_end hA, hO, insK_cons, if_neg (by omega), if_neg (by omega), List.append_assoc]
      rfl
end

def RPutPost (w : World) (L : List It) (a : Int) (v : ByteArray) (en : Ending) (w' : World) : Prop :=
  ∃ u was, en = .returned (.tuple #[u, .bool was]) ∧ (was = true ↔ ∃ y ∈ L, y.1 = a) ∧ Ones w' u (insK a v L) ∧ (∀ g, u.ownBlock = some g → w.heap.size ≤ g) ∧ Below w.heap.size w w'

set_option maxRecDepth 100000 in
set_option maxHeartbeats 2000000 in
theorem rput_calls (u : Value) (L : List It) (a : Int) (v : ByteArray) (w : World) (h : Ones w u L) (hs : L.Pairwise (fun x y => x.1 < y.1)) (hl : L.length ≤ 1000) :
    Calls Tryd.prog 13 #[u, .agg #[.int .i64 a, .string v]] w (RPutPost w L a v) := by
  obtain ⟨i0, z0, hi0, hz0, hz1, hz2, hz3⟩ := zeroOne
  have HI0 := Lib.hid hi0
  have HZ0 := Lib.hid hz0
  have HZ1 := Lib.hid hz1
  have HZ2 := Lib.hid hz2
  have HZ3 := Lib.hid hz3
  have H := Lib.hid h
  have HS := Lib.hid hs
  obtain ⟨ad, c, rfl⟩ := h.slice
  clear hi0 hz0 hz1 hz2 hz3 h hs
  go_enter Tryd.func13, Tryd.ntmps13
  go_wp2_with fail
  go_name_world W0 hW0
  have T0 : Turn (fun j => w.heap.size ≤ j) w W0 := by rw [← hW0]; exact ((Turn.refl _ w).alloc _).alloc _
  have HX : Hid (Has W0 w.heap.size 34 #[.int .i64 a, .string v]) := by rw [← hW0]; exact (Has.made _ _ _).alloc _
  have HG : Hid (Grow w (w.heap.size + 1) (.slice (some ⟨w.heap.size + 1, 0, none⟩) 0 0) [] W0) := Grow.new_ w (by rw [← hW0]; exact made_at _ _ (by simp)) (Nat.le_succ _) T0
  clear hW0 T0
  go_loopw [6, 7, 8, 14] (fun o x d i wr => ∃ (k : Nat) (d' was : Bool) (O : List It), i = .int .i64 k ∧ d = .bool d' ∧ x = .bool was ∧ k ≤ L.length ∧ O.length ≤ 2 * k ∧ Hid (PutS a v L k d' was O) ∧ Hid (Grow w (w.heap.size + 1) o O wr) ∧ Hid (Has wr w.heap.size 34 #[.int .i64 a, .string v])) (fun _ _ _ i _ => L.length - (intOf i).toNat)
  case atStart => exact ⟨0, false, false, [], rfl, rfl, rfl, Nat.zero_le _, Nat.le_refl _, Lib.hid ⟨by simp, .inr ⟨rfl, rfl, by simp⟩⟩, HG, HX⟩
  case round =>
    obtain ⟨k, d', was, O, rfl, rfl, rfl, hk, hO, HA, HG1, HX1⟩ := hrel
    clear HG HX
    by_cases hkl : k < L.length
    · obtain ⟨y, hy⟩ : ∃ y, L[k]? = some y := ⟨L[k], List.getElem?_eq_getElem hkl⟩
      have hop : Ones wr (.slice ad L.length c) L := H.out.turn HG1.out.turn (fun g e => Nat.not_le_of_lt (H.out.lt e))
      obtain ⟨g, c', ev, hgl, c0, c1⟩ := hop.at_ hy
      injection ev with ev1 ev2 ev3
      subst ev1
      clear ev2 ev3 hop
      have HY := Lib.hid hy
      have h1 : (k : Int) < (L.length : Int) := by omega
      have h0 : (0 : Int) ≤ (k : Int) := by omega
      have x0 : wr.cell? ⟨w.heap.size, 0, none⟩ = some (.int .i64 a) := HX1.out.cell 0
      have x1 : wr.cell? ⟨w.heap.size, 1, none⟩ = some (.string v) := HX1.out.cell 1
      have hxl := HX1.out.lt
      have hO' : O.length ≤ 2000 := by omega
      clear hy
      obtain ⟨o, ho⟩ : ∃ o, o = u6 := ⟨_, rfl⟩
      rw [← ho] at HG1 ⊢
      clear ho
      have G2 := Lib.hid (HG1.out.more (w' := wr.alloc (.cells #[.int .i64 y.1, .string y.2] 34)) ((Turn.refl _ _).alloc _))
      have X2 := Lib.hid (HX1.out.alloc (.cells #[.int .i64 y.1, .string y.2] 34))
      have Y2 : Hid (Has (wr.alloc (.cells #[.int .i64 y.1, .string y.2] 34)) wr.heap.size 34 #[.int .i64 y.1, .string y.2]) := Lib.hid (Has.made _ _ _)
      have hnx := Lib.hid (fun e => absurd (HG1.out.new _ e) (by omega) : o.ownBlock ≠ some w.heap.size)
      have hny := Lib.hid (fun e => absurd (own_lt HG1.out.own e) (by omega) : o.ownBlock ≠ some wr.heap.size)
      cases d' with
      | true =>
        obtain ⟨hay, hA2⟩ := HA.out.late HS.out HY.out
        have A2 := Lib.hid hA2
        have hne : (y.1 == a) = false := beq_eq_false_iff_ne.2 (by omega)
        have hne2 : (y.1 != a) = true := by rw [bne, hne]; rfl
        clear HA hA2 hay
        go_wp2_with (at_builtin
                     refine wpList_append_lies _ rfl (.tmp 41) (.tmp 43) 26 rfl 0 34 i0 z0 2 24 Tryd.underlying26 HI0.out HZ0.out HZ1.out HZ3.out HZ2.out (by decide) _ O.length _ rfl (by exact (G2.out.more ((Turn.refl _ _).alloc _)).own) ⟨wr.heap.size + 1, 0, none⟩ 1 1 [.int .i64 y.1, .string y.2] rfl rfl (by exact World.news_of_block (made_at _ _ (by simp))) (oneCell_one y) (by decide) (by unfold maxLen; omega) (by omega) (Nat.zero_le _) _ rfl ?_
                     intro g3 cap3 w3 hown hg hat hlt
                     have G3 := Lib.hid ((G2.out.more ((Turn.refl _ _).alloc _)).push y hown hg hat)
                     have X3 := Lib.hid ((X2.out.alloc _).grown hg (fun e => hnx.out e.symm))
                     clear hown hg hat hlt G2 X2)
        refine ⟨⟨k + 1, true, was, O ++ [y], by rw [Int.natCast_add]; rfl, rfl, rfl, by omega, by rw [List.length_append, List.length_singleton]; omega, A2, G3, X3⟩, ?_⟩
        show L.length - ((k : Int) + 1).toNat < L.length - ((k : Int)).toNat
        omega
      | false =>
        rcases (show y.1 < a ∨ y.1 = a ∨ a < y.1 by omega) with hlo | heq | hhi
        · have A2 := Lib.hid (HA.out.low HY.out hlo)
          have hne : (y.1 == a) = false := beq_eq_false_iff_ne.2 (by omega)
          have hne2 : (y.1 != a) = true := by rw [bne, hne]; rfl
          have hle : ¬ a ≤ y.1 := by omega
          clear HA hlo
          go_wp2_with (at_builtin
                       refine wpList_append_lies _ rfl (.tmp 41) (.tmp 43) 26 rfl 0 34 i0 z0 2 24 Tryd.underlying26 HI0.out HZ0.out HZ1.out HZ3.out HZ2.out (by decide) _ O.length _ rfl (by exact (G2.out.more ((Turn.refl _ _).alloc _)).own) ⟨wr.heap.size + 1, 0, none⟩ 1 1 [.int .i64 y.1, .string y.2] rfl rfl (by exact World.news_of_block (made_at _ _ (by simp))) (oneCell_one y) (by decide) (by unfold maxLen; omega) (by omega) (Nat.zero_le _) _ rfl ?_
                       intro g3 cap3 w3 hown hg hat hlt
                       have G3 := Lib.hid ((G2.out.more ((Turn.refl _ _).alloc _)).push y hown hg hat)
                       have X3 := Lib.hid ((X2.out.alloc _).grown hg (fun e => hnx.out e.symm))
                       clear hown hg hat hlt G2 X2)
          refine ⟨⟨k + 1, false, was, O ++ [y], by rw [Int.natCast_add]; rfl, rfl, rfl, by omega, by rw [List.length_append, List.length_singleton]; omega, A2, G3, X3⟩, ?_⟩
          show L.length - ((k : Int) + 1).toNat < L.length - ((k : Int)).toNat
          omega
        · have A2 := Lib.hid (HA.out.same HY.out heq)
          have hne : (y.1 == a) = true := beq_iff_eq.2 heq
          have hne2 : (y.1 != a) = false := by rw [bne, hne]; rfl
          have hle : a ≤ y.1 := by omega
          clear HA heq
          go_wp2_with (at_builtin
                       refine wpList_append_lies _ rfl (.tmp 32) (.tmp 34) 26 rfl 0 34 i0 z0 2 24 Tryd.underlying26 HI0.out HZ0.out HZ1.out HZ3.out HZ2.out (by decide) _ O.length _ rfl (by exact (G2.out.more ((Turn.refl _ _).alloc _)).own) ⟨wr.heap.size + 1, 0, none⟩ 1 1 [.int .i64 (a, v).1, .string (a, v).2] rfl rfl (by exact World.news_of_block (made_at _ _ (by simp))) (oneCell_one (a, v)) (by decide) (by unfold maxLen; omega) (by omega) (Nat.zero_le _) _ rfl ?_
                       intro g3 cap3 w3 hown hg hat hlt3
                       have G3 := Lib.hid ((G2.out.more ((Turn.refl _ _).alloc _)).push (a, v) hown hg hat)
                       have X3 := Lib.hid ((X2.out.alloc _).grown hg (fun e => hnx.out e.symm))
                       have x30 : w3.cell? ⟨w.heap.size, 0, none⟩ = some (.int .i64 a) := X3.out.cell 0
                       have Y3 := (Y2.out.alloc (.cells #[.int .i64 a, .string v] 34)).grown hg (fun e => hny.out e.symm)
                       have y0 : w3.cell? ⟨wr.heap.size, 0, none⟩ = some (.int .i64 y.1) := Y3.cell 0
                       clear hown hg hat hlt3 G2 X2 Y2 Y3)
          refine ⟨⟨k + 1, true, true, O ++ [(a, v)], by rw [Int.natCast_add]; rfl, rfl, rfl, by omega, by rw [List.length_append, List.length_singleton]; omega, A2, G3, X3⟩, ?_⟩
          show L.length - ((k : Int) + 1).toNat < L.length - ((k : Int)).toNat
          omega
        · have A2 := Lib.hid (HA.out.high HY.out hhi)
          have hl1 : Hid ((O ++ [(a, v)]).length = O.length + 1) := Lib.hid (by simp)
          have hne : (y.1 == a) = false := beq_eq_false_iff_ne.2 (by omega)
          have hne2 : (y.1 != a) = true := by rw [bne, hne]; rfl
          have hle : a ≤ y.1 := by omega
          clear HA hhi
          go_wp2_with (first
                    | (at_builtin
                       refine wpList_append_lies _ rfl (.tmp 32) (.tmp 34) 26 rfl 0 34 i0 z0 2 24 Tryd.underlying26 HI0.out HZ0.out HZ1.out HZ3.out HZ2.out (by decide) _ O.length _ rfl (by exact (G2.out.more ((Turn.refl _ _).alloc _)).own) ⟨wr.heap.size + 1, 0, none⟩ 1 1 [.int .i64 (a, v).1, .string (a, v).2] rfl rfl (by exact World.news_of_block (made_at _ _ (by simp))) (oneCell_one (a, v)) (by decide) (by unfold maxLen; omega) (by omega) (Nat.zero_le _) _ rfl ?_
                       intro g3 cap3 w3 hown hg hat hlt3
                       have G3 := Lib.hid ((G2.out.more ((Turn.refl _ _).alloc _)).push (a, v) hown hg hat)
                       have X3 := Lib.hid ((X2.out.alloc _).grown hg (fun e => hnx.out e.symm))
                       have x30 : w3.cell? ⟨w.heap.size, 0, none⟩ = some (.int .i64 a) := X3.out.cell 0
                       have Y3 := (Y2.out.alloc (.cells #[.int .i64 a, .string v] 34)).grown hg (fun e => hny.out e.symm)
                       have y0 : w3.cell? ⟨wr.heap.size, 0, none⟩ = some (.int .i64 y.1) := Y3.cell 0
                       have y1 : w3.cell? ⟨wr.heap.size, 1, none⟩ = some (.string y.2) := Y3.cell 1
                       clear hown hg hat hlt3 G2 X2 Y2 Y3)
                    | (at_builtin
                       refine wpList_append_lies _ rfl (.tmp 41) (.tmp 43) 26 rfl 0 34 i0 z0 2 24 Tryd.underlying26 HI0.out HZ0.out HZ1.out HZ3.out HZ2.out (by decide) _ (O.length + 1) _ rfl (by have h := (G3.out.more (w' := w3.alloc (.cells #[.int .i64 y.1, .string y.2] 34)) ((Turn.refl _ _).alloc _)).own; unfold Ones at h; rw [hl1.out] at h; exact h) ⟨w3.heap.size, 0, none⟩ 1 1 [.int .i64 y.1, .string y.2] rfl rfl (by exact World.news_of_block (Has.made _ _ _)) (oneCell_one y) (by decide) (by unfold maxLen; omega) (by omega) (Nat.zero_le _) _ rfl ?_
                       intro g4 cap4 w4 hown hg hat hlt4
                       have hnx3 : Value.ownBlock (.slice (some ⟨g3, 0, none⟩) (O.length + 1) cap3) ≠ some w.heap.size := fun e => absurd (G3.out.new _ e) (by omega)
                       have G4 : Hid (Grow w (w.heap.size + 1) (.slice (some ⟨g4, 0, none⟩) (O.length + 1 + 1) cap4) (O ++ [(a, v)] ++ [y]) w4) := Lib.hid (by
                         have h := (G3.out.more (w' := w3.alloc (.cells #[.int .i64 y.1, .string y.2] 34)) ((Turn.refl _ _).alloc _)).push (g := g4) (cap := cap4) (w' := w4) y (by rw [hl1.out]; exact hown) hg hat
                         rw [hl1.out] at h
                         exact h)
                       have X4 := Lib.hid ((X3.out.alloc (.cells #[.int .i64 y.1, .string y.2] 34)).grown hg (fun e => hnx3 e.symm))
                       clear hown hg hat hlt4 G3 X3 hnx3))
          refine ⟨⟨k + 1, true, was, _, by rw [Int.natCast_add]; rfl, rfl, rfl, by omega, by rw [List.length_append, List.length_append, List.length_singleton, List.length_singleton]; omega, A2, G4, X4⟩, ?_⟩
          show L.length - ((k : Int) + 1).toNat < L.length - ((k : Int)).toNat
          omega
    · obtain rfl : k = L.length := by omega
      have h1 : ¬ (L.length : Int) < (L.length : Int) := by omega
      have hO' : O.length ≤ 2000 := by omega
      have x0 : wr.cell? ⟨w.heap.size, 0, none⟩ = some (.int .i64 a) := HX1.out.cell 0
      have x1 : wr.cell? ⟨w.heap.size, 1, none⟩ = some (.string v) := HX1.out.cell 1
      have hW : Hid (was = true ↔ ∃ y ∈ L, y.1 = a) := Lib.hid (by have := HA.out.1; rw [List.take_length] at this; exact this)
      obtain ⟨o, ho⟩ : ∃ o, o = u6 := ⟨_, rfl⟩
      rw [← ho] at HG1 ⊢
      clear HX1 ho
      cases d' with
      | true =>
        have e : Hid (insK a v L = O) := Lib.hid (by
          rcases HA.out.2 with ⟨_, h, _⟩ | ⟨h, _⟩
          · rw [List.take_length] at h; exact h.symm
          · cases h)
        clear HA
        go_wp2_with fail
        go_ret2
        exact ⟨o, was, rfl, hW.out, by rw [e.out]; exact HG1.out.own, fun g hg => Nat.le_trans HG1.out.low (HG1.out.new g hg), HG1.out.turn.below (Nat.le_refl _) (fun j hj e => by omega)⟩
      | false =>
        have e : Hid (insK a v L = O ++ [(a, v)]) := Lib.hid (by
          rcases HA.out.2 with ⟨h, _⟩ | ⟨_, h, h2⟩
          · cases h
          · rw [List.take_length] at h h2
            have h3 := insK_end (v := v) h2 []
            rw [List.append_nil] at h3
            rw [h3, h]
            rfl)
        clear HA
        go_wp2_with (at_builtin
                     refine wpList_append_lies _ rfl (.tmp 48) (.tmp 50) 26 rfl 0 34 i0 z0 2 24 Tryd.underlying26 HI0.out HZ0.out HZ1.out HZ3.out HZ2.out (by decide) _ O.length _ rfl (by exact (HG1.out.more ((Turn.refl _ _).alloc _)).own) ⟨wr.heap.size, 0, none⟩ 1 1 [.int .i64 (a, v).1, .string (a, v).2] rfl rfl (by exact World.news_of_block (Has.made _ _ _)) (oneCell_one (a, v)) (by decide) (by unfold maxLen; omega) (by omega) (Nat.zero_le _) _ rfl ?_
                     intro g3 cap3 w3 hown hg hat hlt3
                     have G3 := Lib.hid ((HG1.out.more ((Turn.refl _ _).alloc _)).push (a, v) hown hg hat)
                     clear hown hg hat hlt3 HG1)
        go_ret2
        exact ⟨_, was, rfl, hW.out, by rw [e.out]; exact G3.out.own, fun g hg => Nat.le_trans G3.out.low (G3.out.new g hg), G3.out.turn.below (Nat.le_refl _) (fun j hj e => by omega)⟩

set_option maxRecDepth 100000 in
set_option maxHeartbeats 2000000 in
theorem rcut_calls (u : Value) (L : List It) (f t : Int) (w : World) (h : Ones w u L) (hl : L.length ≤ 1000) :
    Calls Tryd.prog 15 #[u, .int .i64 f, .int .i64 t] w fun en w' => ∃ u', en = .returned u' ∧ Ones w' u' (cutK f t L) ∧ (∀ g, u'.ownBlock = some g → w.heap.size ≤ g) ∧ Below w.heap.size w w' := by
  obtain ⟨i0, z0, hi0, hz0, hz1, hz2, hz3⟩ := zeroOne
  have HI0 := Lib.hid hi0
  have HZ0 := Lib.hid hz0
  have HZ1 := Lib.hid hz1
  have HZ2 := Lib.hid hz2
  have HZ3 := Lib.hid hz3
  have H := Lib.hid h
  obtain ⟨ad, c, rfl⟩ := h.slice
  clear hi0 hz0 hz1 hz2 hz3 h
  go_enter Tryd.func15, Tryd.ntmps15
  go_wp2_with fail
  go_name_world W0 hW0
  have T0 : Turn (fun j => w.heap.size ≤ j) w W0 := by rw [← hW0]; exact (Turn.refl _ w).alloc _
  have HG : Hid (Grow w w.heap.size (.slice (some ⟨w.heap.size, 0, none⟩) 0 0) [] W0) := Grow.new_ w (by rw [← hW0]; exact made_at _ _ (by simp)) (Nat.le_refl _) T0
  clear hW0 T0
  go_loopw [7, 13] (fun o i wr => ∃ k : Nat, i = .int .i64 k ∧ k ≤ L.length ∧ Hid (Grow w w.heap.size o (cutK f t (L.take k)) wr)) (fun _ i _ => L.length - (intOf i).toNat)
  case atStart => exact ⟨0, rfl, Nat.zero_le _, HG⟩
  case round =>
    obtain ⟨k, rfl, hk, HG1⟩ := hrel
    clear HG
    obtain ⟨o, ho⟩ : ∃ o, o = u7 := ⟨_, rfl⟩
    rw [← ho] at HG1 ⊢
    clear ho
    by_cases hkl : k < L.length
    · obtain ⟨y, hy⟩ : ∃ y, L[k]? = some y := ⟨L[k], List.getElem?_eq_getElem hkl⟩
      have hop : Ones wr (.slice ad L.length c) L := H.out.turn HG1.out.turn (fun g e => Nat.not_le_of_lt (H.out.lt e))
      obtain ⟨g, c', ev, hgl, c0, c1⟩ := hop.at_ hy
      injection ev with ev1 ev2 ev3
      subst ev1
      clear ev2 ev3 hop
      have HY := Lib.hid hy
      have h1 : (k : Int) < (L.length : Int) := by omega
      have h0 : (0 : Int) ≤ (k : Int) := by omega
      have HO : Hid ((cutK f t (L.take k)).length ≤ 1000) := Lib.hid (Nat.le_trans (List.length_filter_le _ _) (by rw [List.length_take]; omega))
      clear hy
      have G2 := Lib.hid (HG1.out.more (w' := wr.alloc (.cells #[.int .i64 y.1, .string y.2] 34)) ((Turn.refl _ _).alloc _))
      rcases (show (y.1 < f ∧ cutK f t (L.take (k + 1)) = cutK f t (L.take k) ++ [y]) ∨ (¬ y.1 < f ∧ t ≤ y.1 ∧ cutK f t (L.take (k + 1)) = cutK f t (L.take k) ++ [y]) ∨ (¬ y.1 < f ∧ ¬ t ≤ y.1 ∧ cutK f t (L.take (k + 1)) = cutK f t (L.take k)) from by
        rw [take_one HY.out]
        unfold cutK
        rw [List.filter_append]
        by_cases q1 : y.1 < f
        · refine .inl ⟨q1, ?_⟩
          simp [show ¬ f ≤ y.1 by omega]
        · by_cases q2 : t ≤ y.1
          · refine .inr (.inl ⟨q1, q2, ?_⟩)
            simp [show ¬ y.1 < t by omega]
          · refine .inr (.inr ⟨q1, q2, ?_⟩)
            simp [show f ≤ y.1 by omega, show y.1 < t by omega]) with ⟨q1, hq⟩ | ⟨q1, q2, hq⟩ | ⟨q1, q2, hq⟩
      rotate_left 2
      · have HQ := Lib.hid hq
        clear hq
        go_wp2_with fail
        refine ⟨⟨k + 1, by rw [Int.natCast_add]; rfl, by omega, Lib.hid (by rw [HQ.out]; exact G2.out)⟩, ?_⟩
        show L.length - ((k : Int) + 1).toNat < L.length - ((k : Int)).toNat
        omega
      all_goals
        have HQ := Lib.hid hq
        clear hq
        obtain ⟨O, hOO⟩ : ∃ O, O = cutK f t (L.take k) := ⟨_, rfl⟩
        rw [← hOO] at HQ HO G2 HG1
        clear hOO
        go_wp2_with (at_builtin
                     refine wpList_append_lies _ rfl (.tmp 27) (.tmp 29) 26 rfl 0 34 i0 z0 2 24 Tryd.underlying26 HI0.out HZ0.out HZ1.out HZ3.out HZ2.out (by decide) _ O.length _ rfl (by exact (G2.out.more ((Turn.refl _ _).alloc _)).own) ⟨wr.heap.size + 1, 0, none⟩ 1 1 [.int .i64 y.1, .string y.2] rfl rfl (by exact World.news_of_block (made_at _ _ (by simp))) (oneCell_one y) (by decide) (by unfold maxLen; have := HO.out; omega) (by have := HO.out; omega) (Nat.zero_le _) _ rfl ?_
                     intro g3 cap3 w3 hown hg hat hlt
                     have G3 := Lib.hid ((G2.out.more ((Turn.refl _ _).alloc _)).push y hown hg hat)
                     clear hown hg hat hlt G2)
        refine ⟨⟨k + 1, by rw [Int.natCast_add]; rfl, by omega, Lib.hid (by rw [HQ.out]; exact G3.out)⟩, ?_⟩
        show L.length - ((k : Int) + 1).toNat < L.length - ((k : Int)).toNat
        omega
    · obtain rfl : k = L.length := by omega
      have h1 : ¬ (L.length : Int) < (L.length : Int) := by omega
      have G2 : Hid (Grow w w.heap.size o (cutK f t L) wr) := Lib.hid (by have := HG1.out; rw [List.take_length] at this; exact this)
      clear HG1
      go_wp2_with fail
      go_ret
      exact ⟨o, rfl, G2.out.own, G2.out.new, G2.out.turn.below (Nat.le_refl _) (fun j hj e => by omega)⟩
end Go.Proofs.YtbimdcjbpbpljaaDoor.tow
