/- fault: Itoa below ten, the Builder off the library, (*Fault).Error at places below ten. -/
import Derived.Test.YtlbpephbigikcaaDoorFltE
import Derived.StillTailTactics
import Derived.Test.YtlbpephbigikcaaDoorFltG
namespace Go.Proofs.YtlbpephbigikcaaDoor.flt
open Go Go.RowKit Go.Extern.Stop Go.Stop Go.Extern Go.Shelf

/-- A digit's text. -/
def dig (a : Nat) : ByteArray := ⟨#[UInt8.ofNat (48 + a)]⟩

set_option maxRecDepth 100000 in
set_option maxHeartbeats 2000000 in
theorem itoa_calls (a : Nat) (w : World) (h : a < 10) : Calls Tryd.prog 38 #[.int .i64 a] w fun en w' => en = .returned (.string (dig a)) ∧ w = w' := by
  rcases a with _ | _ | _ | _ | _ | _ | _ | _ | _ | _ | a
  case succ => omega
  all_goals
    go_enter Tryd.func38, Tryd.ntmps38
    go_wp2
    go_ret
    exact ⟨rfl, rfl⟩

theorem write_calls (B b : Nat) (bs : List Value) (s : ByteArray) (w : World) (h : Lib.IsBuilder 86 5 B b bs w) (hlen : bs.length + s.size ≤ 140737488355328) (hB : B ≤ w.heap.size) :
    Calls Tryd.prog 37 #[.pointer (some ⟨b, 0, none⟩), .string s] w fun e w' => e = .returned (.tuple #[.int .i64 s.size, .nilIface]) ∧ (Lib.IsBuilder 86 5 B b (bs ++ Lib.strCells s) w' ∧ Below B w w') :=
  (Any.Builder_WriteString { Tryd.lays156 with } Tryd.extra156 B b bs s w h hlen hB).mono fun _ _ h => ⟨h.1, .inr h.2.1, h.2.2⟩
theorem string_calls (B b : Nat) (l : List UInt8) (w : World) (h : Lib.IsBuilder 86 5 B b (Lib.byteCells l) w) (hB : B ≤ w.heap.size) :
    Calls Tryd.prog 39 #[.pointer (some ⟨b, 0, none⟩)] w fun e w' => e = .returned (.string ⟨l.toArray⟩) ∧ Below B w w' :=
  Any.Builder_String_any { Tryd.lays156 with } Tryd.extra156 B b l w h hB

theorem still_tail_at {P : Program} {id : Nat} {Q : Exit → Act → World → Prop} {a : Act} {w : World} {l : List Oper} (V : World) (hV : V = w.drew) (n : Nat) (hm : P.follows .mixedOrders = true) (hB : Region.lexTailB .any l.toArray n = true)
    (h : wpStill P l.toArray V (fun a' => wpList P l.toArray Q (l.drop n) a' V) (l.take n) a) : (Code.region id l.toArray true).wp P Q a w := by
  subst hV
  exact wp_region_still_tail n hm hB h

/-- A step as Error tells it. -/
def stepB (x : Sp) : ByteArray := x.s ++ ⟨#[32]⟩ ++ dig x.a.toNat ++ ⟨#[58, 32]⟩
def stepsL (L : List Sp) : List UInt8 := (L.map fun x => (stepB x).data.toList).flatten
/-- Steps that Error tells without a table: places below ten, names that are no longer than a thousand bytes. -/
def Low (L : List Sp) : Prop := L.length ≤ 1000 ∧ ∀ x ∈ L, x.s.size ≤ 1000 ∧ ∃ p : Nat, p < 10 ∧ x.a = p

theorem word_size (n : Int) : (word n).size ≤ 1000 := by
  unfold word
  split
  · have h : ∀ i : Nat, (words.getD i ⟨#[]⟩).size ≤ 1000 := fun i => by
      rcases i with _ | _ | _ | _ | _ | _ | _ | _ | _ | _ | _ | _ | _ | _ | _ | _ | _ | _ | _ | _ | i <;> first | exact (show (⟨#[]⟩ : ByteArray).size ≤ 1000 by decide) | decide
    exact h _
  · decide
theorem stepB_size (x : Sp) : (stepB x).size = x.s.size + 4 := by
  unfold stepB
  rw [ByteArray.size_append, ByteArray.size_append, ByteArray.size_append]
  rfl
theorem stepsL_len : ∀ {L : List Sp}, (∀ x ∈ L, x.s.size ≤ 1000) → (stepsL L).length ≤ 1010 * L.length
  | [], _ => Nat.le_refl _
  | x :: r, h => by
    have h1 := stepsL_len (L := r) (fun y hy => h y (List.mem_cons_of_mem _ hy))
    have h2 := h x (List.mem_cons_self ..)
    have h3 : (stepsL (x :: r)).length = (stepB x).size + (stepsL r).length := by
      unfold stepsL
      rw [List.map_cons, List.flatten_cons, List.length_append]
      rfl
    rw [h3, stepB_size, List.length_cons]
    omega
theorem Er.tail_of {B : Nat} {w : World} {n : Int} {L l r : List Sp} (h : Er B w L n) (e : l ++ r = L) : Er B w r n := Er.tail (l := l) (by rw [e]; exact h)
theorem builder_below {b : Nat} {bs : List Value} {w w' : World} (h : Lib.IsBuilder 86 5 b b bs w) (k : Below w.heap.size w w') : Lib.IsBuilder 86 5 b b bs w' := by
  have key : ∀ p, Lib.BuilderAt 86 5 b b p bs w → Lib.BuilderAt 86 5 b b p bs w' := fun p h => by
    obtain ⟨h1, v, h2, h3, h4⟩ := h
    have lt : b < w.heap.size := (show Has w b 86 #[p, v] from h2).lt
    exact ⟨h1, v, (k.block b lt).trans h2, h3.kept (grown_below k none (Nat.le_refl _)) (by cases v.ownBlock <;> simp), h4⟩
  exact h.imp (key _) (key _)

set_option maxRecDepth 100000 in
set_option maxHeartbeats 4000000 in
theorem error_calls (B : Nat) (x : Sp) (r : List Sp) (n : Int) (w : World) (hT : Et B w) (hE : Er B w (x :: r) n) (hL : Low (x :: r)) (h1 : 1 ≤ n) (h2 : n ≤ 20) :
    Calls Tryd.prog 25 #[.pointer (some ⟨x.b, 0, none⟩)] w fun en w' => en = .returned (.string ⟨(stepsL (x :: r) ++ (word n).data.toList).toArray⟩) ∧ Below w.heap.size w w' := by
  have HT := Lib.hid hT
  have HE := Lib.hid hE
  have HL := Lib.hid hL
  have HN := Lib.hid (And.intro h1 h2)
  have HB := Lib.hid hT.size
  clear hT hE hL h1 h2
  go_enter Tryd.func25, Tryd.ntmps25
  go_wp2_with fail
  go_name_world W hW
  have B0 : Below w.heap.size w W := by rw [← hW]; exact (Below.refl _ w).alloc (Nat.le_refl _) _
  have I0 : Lib.IsBuilder 86 5 w.heap.size w.heap.size [] W := by rw [← hW]; exact Lib.fresh_isBuilder 86 5 w
  clear hW
  have BB0 := Lib.hid B0
  have II0 := Lib.hid I0
  clear B0 I0
  go_loopg [4, 5] (x :: r).length (fun k l g wr => ∃ (done rest : List Sp) (y : Sp), rest.length = k ∧ g = top rest ∧ l = .pointer (some ⟨y.b, 0, none⟩) ∧ Hid (done ++ rest = x :: r) ∧ Hid (done = [] ∨ done.getLast? = some y) ∧ Hid (Lib.IsBuilder 86 5 w.heap.size w.heap.size (Lib.byteCells (stepsL done)) wr ∧ Below w.heap.size w wr))
  case atStart => exact ⟨[], x :: r, x, rfl, rfl, rfl, Lib.hid rfl, Lib.hid (.inl rfl), Lib.hid ⟨II0.out, BB0.out⟩⟩
  case round =>
    obtain ⟨done, rest, y, hk, rfl, rfl, HA, HY, HS⟩ := hrel
    have HE2 := Lib.hid (HE.out.below HS.out.2 HB.out)
    have HT2 := Lib.hid (HT.out.below HS.out.2 HB.out)
    cases rest with
    | nil =>
      rw [show top [] = .pointer none from rfl]
      have hy : done.getLast? = some y := by
        rcases HY.out with h | h
        · have := HA.out
          rw [h] at this
          cases this
        · exact h
      obtain ⟨d, hd⟩ : ∃ d, done = d ++ [y] := by
        obtain ⟨d, hd⟩ := List.getLast?_eq_some_iff.1 hy
        exact ⟨d, hd⟩
      have hx := HE2.out.tail_of (l := d) (r := [y]) (by rw [← HA.out, List.append_nil, hd])
      have c2 : wr.cell? ⟨y.b, 2, none⟩ = some (.iface 28 (.int .i64 n)) := (hx.1.1.cell 2).trans rfl
      have mE : ∀ (x : Nat) (w : World), (Go.method (x + 1) 28 (.int .i64 n) "Error").run Tryd.prog w = .ok (12, .int .i64 n) w := fun x w => by kernel_rfl
      have HDN : Hid (done = x :: r) := Lib.hid (by have := HA.out; rw [List.append_nil] at this; exact this)
      clear hx hd hy
      obtain ⟨wd, hwd⟩ : ∃ wd, wd = word n := ⟨_, rfl⟩
      have HW : Hid (wd = word n ∧ wd.size ≤ 1000) := Lib.hid ⟨hwd, by rw [hwd]; exact word_size n⟩
      clear hwd
      have HZ : Hid ((Lib.byteCells (stepsL done)).length + wd.size ≤ 140737488355328) := Lib.hid (by
        have h1 := stepsL_len (L := done) (fun y hy => (HL.out.2 y (by rw [← HDN.out]; exact hy)).1)
        have h2 := HL.out.1
        have h3 := HW.out.2
        rw [← HDN.out] at h2
        rw [Lib.byteCells_length]
        omega)
      go_wp2_with (first
        | (go_at_call 12; refine (err_calls n _ HN.out.1 HN.out.2).mono ?_; rw [← HW.out.1]; rintro en w1 ⟨rfl, b1⟩; have B1 := Lib.hid b1; clear b1)
        | (go_at_call 37; refine (write_calls w.heap.size w.heap.size _ wd _ (builder_below HS.out.1 B1.out) HZ.out (Nat.le_trans HS.out.2.size B1.out.size)).mono ?_; rintro en w2 ⟨rfl, i2, b2⟩; have I2 := Lib.hid i2; have B2 := Lib.hid b2; clear i2 b2)
        | (go_at_call 39; refine (string_calls w.heap.size w.heap.size (stepsL done ++ wd.data.toList) _ (by rw [Lib.byteCells_append, ← Lib.strCells_eq]; exact I2.out) (Nat.le_trans HS.out.2.size (Nat.le_trans B1.out.size B2.out.size))).mono ?_; rintro en w3 ⟨rfl, b3⟩; have B3 := Lib.hid b3; clear b3)
        | fail)
      go_ret
      exact ⟨by rw [← HW.out.1, ← HDN.out]; rfl, ((HS.out.2.trans (below_less B1.out HS.out.2.size)).trans B2.out).trans B3.out⟩
    | cons z rest =>
      rw [show top (z :: rest) = .pointer (some ⟨z.b, 0, none⟩) from rfl]
      have hz : Er B wr (z :: rest) n := by
        have := HE2.out
        rw [← HA.out] at this
        exact Er.tail this
      have hzl : z.s.size ≤ 1000 ∧ ∃ p : Nat, p < 10 ∧ z.a = p := HL.out.2 z (by rw [← HA.out]; simp)
      obtain ⟨hzs, p, hp, ha⟩ := hzl
      have c0 : wr.cell? ⟨z.b, 0, none⟩ = some (.string z.s) := (hz.1.1.cell 0).trans rfl
      have c1 : wr.cell? ⟨z.b, 1, none⟩ = some (.int .i64 p) := (hz.1.1.cell 1).trans (by rw [← ha]; rfl)
      have hh := Lib.hid hz.1
      have hr := Lib.hid hz.2
      have HP := Lib.hid (And.intro hp ha)
      clear hz hp ha
      go_wp2_with fail
      obtain ⟨V, hV⟩ : ∃ V, V = wr.drew := ⟨_, rfl⟩
      refine still_tail_at V hV 12 (by kernel_rfl) (by kernel_rfl) ?_
      have BV : Hid (Lib.IsBuilder 86 5 w.heap.size w.heap.size (Lib.byteCells (stepsL done)) V ∧ Below w.heap.size w V) := by
        rw [hV]
        exact Lib.hid ⟨HS.out.1, HS.out.2.drew⟩
      have d0 : V.cell? ⟨z.b, 0, none⟩ = some (.string z.s) := by rw [hV]; exact c0
      have d1 : V.cell? ⟨z.b, 1, none⟩ = some (.int .i64 p) := by rw [hV]; exact c1
      have hd : (dig p).size = 1 := rfl
      have hb1 : ¬ 9223372036854775807 < z.s.size + 1 := by omega
      have hb2 : ¬ 9223372036854775807 < z.s.size + 1 + (dig p).size := by omega
      have hb3 : ¬ 9223372036854775807 < z.s.size + 1 + (dig p).size + 2 := by omega
      clear hd
      clear hV c0 c1 HS
      simp only [List.take_succ_cons, List.take_zero, List.drop_succ_cons, List.drop_zero]
      repeat still_step
      still_call ((itoa_calls p _ HP.out.1).mono fun _ _ h => ⟨h.1, h.2.symm⟩)
      repeat still_step
      refine wpStill_nil ?_
      clear hb1 hb2 hb3 d0 d1
      have HQ : Hid (z.s ++ ⟨#[32]⟩ ++ dig p ++ ⟨#[58, 32]⟩ = stepB z) := Lib.hid (by unfold stepB; rw [HP.out.2]; rfl)
      obtain ⟨q, hq⟩ : ∃ q, q = z.s ++ ⟨#[32]⟩ ++ dig p ++ ⟨#[58, 32]⟩ := ⟨_, rfl⟩
      rw [← hq] at HQ ⊢
      clear hq
      have HM : Hid (done.length + (rest.length + 1) = r.length + 1) := Lib.hid (by
        have := congrArg List.length HA.out
        simpa using this)
      have HZ : Hid ((Lib.byteCells (stepsL done)).length + q.size ≤ 140737488355328) := Lib.hid (by
        have h1 := stepsL_len (L := done) (fun y hy => (HL.out.2 y (by rw [← HA.out]; exact List.mem_append_left _ hy)).1)
        have h2 := HL.out.1
        have h3 : q.size = z.s.size + 4 := by rw [HQ.out, stepB_size]
        have h4 := HM.out
        rw [Lib.byteCells_length, h3]
        simp only [List.length_cons] at h2
        omega)
      clear hzs
      go_wp2_with (first
        | (go_at_call 37; refine (write_calls w.heap.size w.heap.size _ q _ BV.out.1 HZ.out BV.out.2.size).mono ?_; rintro en w1 ⟨rfl, i1, b1⟩;
           have I1 := Lib.hid i1; have B1 := Lib.hid (And.intro b1 (below_less b1 HB.out));
           have c2 : w1.cell? ⟨z.b, 2, none⟩ = some (ev rest n) := by
             have hz2 : Has w1 z.b 47 #[.string z.s, .int .i64 z.a, ev rest n] := (((HE.out.tail_of HA.out).1.1.below BV.out.2 (Nat.lt_of_lt_of_le (HE.out.tail_of HA.out).1.2 HB.out)).below b1 (Nat.lt_of_lt_of_le (HE.out.tail_of HA.out).1.2 HB.out))
             exact (hz2.cell 2).trans rfl
           clear i1 b1)
        | (go_at_call 36; refine (itself_calls B rest n _ (HT.out.below (BV.out.2.trans B1.out.1) HB.out)).mono ?_; rintro en w2 ⟨rfl, b2⟩; have B2 := Lib.hid b2; clear b2)
        | fail)
      go_roundg rest.length
      case measure => rw [← hk]; simp
      case rel =>
        refine ⟨done ++ [z], rest, z, rfl, rfl, rfl, Lib.hid (by rw [← HA.out]; simp), Lib.hid (.inr (by simp)), Lib.hid ⟨?_, (BV.out.2.trans B1.out.1).trans (below_less B2.out (Nat.le_trans BV.out.2.size B1.out.1.size))⟩⟩
        have e : Lib.byteCells (stepsL (done ++ [z])) = Lib.byteCells (stepsL done) ++ Lib.strCells q := by
          rw [HQ.out, Lib.strCells_eq, ← Lib.byteCells_append]
          congr 1
          unfold stepsL
          simp
        rw [e]
        exact builder_below I1.out B2.out
end Go.Proofs.YtlbpephbigikcaaDoor.flt
