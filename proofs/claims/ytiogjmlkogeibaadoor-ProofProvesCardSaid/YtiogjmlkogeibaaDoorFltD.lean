/- fault: In, Where. -/
import Derived.Test.YtiogjmlkogeibaaDoorFltC
import Derived.Test.YtiogjmlkogeibaaDoorRow
import Derived.Test.YtiogjmlkogeibaaDoorReg
import Derived.Test.YtiogjmlkogeibaaDoorOwn
namespace Go.Proofs.YtiogjmlkogeibaaDoor.flt
open Go Go.RowKit Go.Extern.Stop Go.Stop Go.Extern

theorem eqE (n m : Int) (w : World) : (binOp .eql 35 (.iface 38 (.int .i64 n)) (.iface 38 (.int .i64 m))).run Tryd.prog w = .ok (.bool (n == m)) w := by kernel_rfl

theorem in_calls (L : List Sp) (n : Int) (s : ByteArray) (a : Int) (w : World) (hn : n ≠ 0) : Calls Tryd.prog 21 #[.string s, .int .i64 a, ev L n] w
    fun en w' => en = .returned (ev (⟨w.heap.size, s, a⟩ :: L) n) ∧ w' = w.alloc (.cells #[.string s, .int .i64 a, ev L n] 70) := by
  cases L with
  | nil =>
    rw [show ev [] n = .iface 38 (.int .i64 n) from rfl]
    have hne := fun w => eqE n 0 w
    have h0 : (n == 0) = false := by simpa using hn
    rw [h0] at hne
    clear hn h0
    go_enter Tryd.func21, Tryd.ntmps21
    go_wp2
    go_ret
    exact ⟨rfl, rfl⟩
  | cons x r =>
    rw [show ev (x :: r) n = .iface 68 (.pointer (some ⟨x.b, 0, none⟩)) from rfl]
    have hne := fun w => run_eql_iface_types (P := Tryd.prog) 68 38 (.pointer (some ⟨x.b, 0, none⟩)) (.int .i64 0) Tryd.underlying35 (by decide) w
    go_enter Tryd.func21, Tryd.ntmps21
    go_wp2
    go_ret
    exact ⟨rfl, rfl⟩
theorem in_ok (s : ByteArray) (a : Int) (w : World) : Calls Tryd.prog 21 #[.string s, .int .i64 a, .iface 38 (.int .i64 0)] w fun en w' => en = .returned .nilIface ∧ w = w' := by
  have hne : ∀ w, (binOp .eql 35 (.iface 38 (.int .i64 0)) (.iface 38 (.int .i64 0))).run Tryd.prog w = .ok (.bool true) w := fun w => eqE 0 0 w
  go_enter Tryd.func21, Tryd.ntmps21
  go_wp2
  go_ret
  exact ⟨rfl, rfl⟩
theorem in_nil (s : ByteArray) (a : Int) (w : World) : Calls Tryd.prog 21 #[.string s, .int .i64 a, .nilIface] w fun en w' => en = .returned .nilIface ∧ w = w' := by
  go_enter Tryd.func21, Tryd.ntmps21
  go_wp2
  go_ret
  exact ⟨rfl, rfl⟩

def intOf : Value → Int
  | .int _ x => x
  | _ => 0

theorem strInfo : ∃ i z, Tryd.prog.info? 9 = some i ∧ i.zero = some z ∧ i.size = 1 ∧ z.cells.size = 1 ∧ i.bytes = 16 := by
  have h2 : (Tryd.prog.info? 9).map (fun i => (i.zero.map (fun z => z.cells.size), i.size, i.bytes)) = some (some 1, 1, 16) := by kernel_rfl
  obtain ⟨i, hi, e⟩ := Option.map_eq_some_iff.1 h2
  simp only [Prod.mk.injEq] at e
  obtain ⟨e1, e2, e3⟩ := e
  obtain ⟨z, hz, e4⟩ := Option.map_eq_some_iff.1 e1
  exact ⟨i, z, hi, hz, e2, e4, e3⟩

/-- The names of an error's steps, as values. -/
def names (L : List Sp) : List Value := L.map fun x => .string x.s
/-- The place of the innermost step; -1: there is none. -/
def place (L : List Sp) : Int := match L.getLast? with | some x => x.a | none => -1
theorem place_snoc (L : List Sp) (x : Sp) : place (L ++ [x]) = x.a := by unfold place; simp

theorem names_snoc (L : List Sp) (x : Sp) : names (L ++ [x]) = names L ++ [.string x.s] := by unfold names; simp
theorem below_own {B : Nat} {w w' : World} {v : Value} (h : w.grownBy w' v.ownBlock) (hv : ∀ x, v.ownBlock = some x → B ≤ x) (hB : B ≤ w.heap.size) : Below B w w' :=
  ⟨h.os, h.tape, h.output, h.size, fun i hi => h.block i (by omega) (fun e => by have := hv i e.symm; omega)⟩

theorem below_less {B C : Nat} {w w' : World} (h : Below C w w') (hB : B ≤ C) : Below B w w' := ⟨h.os, h.tape, h.output, h.size, fun i hi => h.block i (by omega)⟩

/-- Steps were answered, in new memory, and a place. -/
def WherePost (w : World) (B : Nat) (L : List Sp) (en : Ending) (w' : World) : Prop :=
  ∃ v, en = .returned (.tuple #[v, .int .i64 (place L)]) ∧ Seg w' 9 1 v L.length (names L) ∧ (∀ x, v.ownBlock = some x → B ≤ x) ∧ Below B w w'

theorem Er.tail {B : Nat} {w : World} {n : Int} : ∀ {l r : List Sp}, Er B w (l ++ r) n → Er B w r n
  | [], _, h => h
  | _ :: _, _, h => Er.tail h.2

set_option maxRecDepth 100000 in
set_option maxHeartbeats 2000000 in
theorem where_calls (B : Nat) (L : List Sp) (n : Int) (w : World) (hT : Et B w) (hE : Er B w L n) (hl : L.length ≤ 1000000) :
    Calls Tryd.prog 31 #[ev L n] w (WherePost w B L) := by
  obtain ⟨z0i, z0, hi0, hz0, hz1, hz2, hz3⟩ := strInfo
  have HI0 := Lib.hid hi0
  have HZ0 := Lib.hid hz0
  have HT := Lib.hid hT
  have HE := Lib.hid hE
  have HB : Hid (B ≤ w.heap.size) := Lib.hid hT.size
  clear hi0 hz0 hT hE
  go_enter Tryd.func31, Tryd.ntmps31
  go_wp2_with (first
    | (go_at_call 47; refine (outermost_calls B L n _ HT.out).mono ?_; rintro en w1 ⟨rfl, b1⟩)
    | fail)
  have HB1 := Lib.hid (below_less b1 HB.out)
  clear b1
  go_loopg [4, 5, 6] L.length (fun k v a p wr => ∃ done rest : List Sp, rest.length = k ∧ a = .int .i64 (place done) ∧ p = top rest ∧ Hid (done ++ rest = L) ∧ Hid (Seg wr 9 1 v done.length (names done) ∧ (∀ x, v.ownBlock = some x → B ≤ x) ∧ Below B w wr))
  case atStart => exact ⟨[], L, rfl, rfl, rfl, Lib.hid rfl, Lib.hid ⟨Seg.nil _ _ _, (fun x (hx : (Value.slice none 0 0).ownBlock = some x) => by cases hx), HB1.out⟩⟩
  case round =>
    obtain ⟨done, rest, hk, rfl, rfl, HA, HS⟩ := hrel
    cases rest with
    | nil =>
      rw [show top [] = .pointer none from rfl]
      go_wp2_with fail
      go_ret2
      have e : done = L := by have := HA.out; rw [List.append_nil] at this; exact this
      rw [← e]
      exact ⟨_, rfl, HS.out⟩
    | cons x r =>
      rw [show top (x :: r) = .pointer (some ⟨x.b, 0, none⟩) from rfl]
      have hcell := Lib.hid (Er.below (B := B) (C := B) (L := L) HE.out HS.out.2.2 (Nat.le_refl B))
      rw [← HA.out] at hcell
      have hx : Er B wr (x :: r) n := Er.tail hcell.out
      have c0 : wr.cell? ⟨x.b, 0, none⟩ = some (.string x.s) := (hx.1.1.cell 0).trans rfl
      have hh := Lib.hid hx.1
      have hr := Lib.hid hx.2
      clear hx hcell
      have hlen : done.length + (r.length + 1) ≤ 1000000 := by
        have := congrArg List.length HA.out
        rw [List.length_append, List.length_cons] at this
        omega
      go_wp2_with (first
        | ((with_reducible refine at_op 22 ?_); refine wpList_append_seg (o := ⟨some 22, _, _, _, _, _⟩) _ rfl (.tmp 16) (.tmp 21) 22 rfl 9 z0i z0 1 16 Tryd.underlying22 HI0.out HZ0.out hz1 hz3 hz2 (by decide) u4 done.length (names done) rfl (HS.out.1.alloc _) ⟨wr.heap.size, 0, none⟩ 1 1 [.string x.s] rfl rfl (World.news_of_block (heap_alloc_new _ _)) (by simp [Value.oneCell']) (by decide) (by unfold maxLen; omega) (by omega) _ rfl ?_;
           intro g off cp w4 hown hgrow hat hlt;
           have B4 : Hid (Below B wr w4) := Lib.hid (((Below.refl B wr).alloc (Nat.le_trans HB.out HS.out.2.2.size) _).trans (below_own hgrow HS.out.2.1 (Nat.le_trans (Nat.le_trans HB.out HS.out.2.2.size) (by simp))));
           have BW : Hid (Below B w w4) := Lib.hid (HS.out.2.2.trans B4.out);
           have HT4 := Lib.hid (HT.out.below BW.out (Nat.le_refl B));
           have c1 : w4.cell? ⟨x.b, 1, none⟩ = some (.int .i64 x.a) := ((hh.out.1.below B4.out hh.out.2).cell 1).trans rfl;
           have c2 : w4.cell? ⟨x.b, 2, none⟩ = some (ev r n) := ((hh.out.1.below B4.out hh.out.2).cell 2).trans rfl;
           have OW := Lib.hid hown;
           have AT : Hid (∀ y, some g = some y → B ≤ y) := Lib.hid (fun y hy => by
             injection hy with hy
             subst hy
             rcases hat with h | h
             · exact HS.out.2.1 _ h
             · rw [h]; exact Nat.le_trans (Nat.le_trans HB.out HS.out.2.2.size) (by simp));
           clear hown hgrow hat hlt c0 hh)
        | (go_at_call 47; refine (outermost_calls B r n _ HT4.out).mono ?_; rintro en w5 ⟨rfl, b5⟩)
        | fail)
      go_roundg r.length
      case measure => rw [← hk]; simp
      case rel =>
        refine ⟨done ++ [x], r, rfl, by rw [place_snoc], rfl, Lib.hid (by rw [← HA.out]; simp), Lib.hid ⟨?_, fun y hy => AT.out y hy, BW.out.trans (below_less b5 HT4.out.size)⟩⟩
        rw [List.length_append, names_snoc]
        exact Seg.below OW.out b5 (fun y hy => OW.out.lt hy)
end Go.Proofs.YtiogjmlkogeibaaDoor.flt
