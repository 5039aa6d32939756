/- Texts laid into one: Ints, TowN, TwsD. -/
import Derived.Test.YtcdedkgkingbdaaGreatDoorQ029
import Derived.Test.YtcdedkgkingbdaaGreatDoorQ000
import Derived.ChangeSlices
import Derived.ProofKit
import Derived.OpenShut
import Derived.Deep.MidRow
import Derived.Deep.SlicePairs
import Derived.ChangeOld
import Derived.Test.YtcdedkgkingbdaaGreatDoorQ034
import Derived.Lib.ItoaWalk
import Derived.Test.YtcdedkgkingbdaaGreatDoorQ036
import Derived.LaidEqlPtr
section
/- A slice of numbers that is handed in: what a law may read of it. -/
namespace Go.Proofs.YtcdedkgkingbdaaGreatDoor
open Go.ChangeShapes Go.WideShapes Go.ChangeAt Go.RowKit

/-- The numbers T lie from a on. -/
def ArgI (w : World) (a : Option Addr) (len cap : Nat) (T : Nat → Int) : Prop :=
  len ≤ cap ∧ cap ≤ maxLen ∧ ∀ i, i < len → ∃ b o, a = some ⟨b, o, none⟩ ∧ b < w.heap.size ∧ w.cell? ⟨b, o + i, none⟩ = some (.int .i64 (T i)) ∧ -9223372036854775808 ≤ T i ∧ T i ≤ 9223372036854775807

theorem openedI {H : Type} {enc : TypeId × Value → H} {w : World} {spare : Nat → Bool} {held : Bool} {a : Option Addr} {len cap : Nat} {d : DataW H} {p : List MemPlace} (h : DataW.Trod enc Tryz.prog w 0 spare held 44 (.slice a len cap) d p) : ∃ T, ArgI w a len cap T := by
  obtain ⟨fuel, h⟩ := h
  rcases open_ints Tryz.underlying44 Tryz.underlying3 (by kernel_rfl) h with ⟨hn, _⟩ | ⟨g, l, c, zs, hn, _, hlc, hcm, hm, _, hall, hwf⟩
  · simp [Value.cells] at hn
    obtain ⟨rfl, rfl, rfl⟩ := hn
    exact ⟨fun _ => 0, Nat.le_refl _, Nat.zero_le _, fun i hi => absurd hi (Nat.not_lt_zero _)⟩
  · simp [Value.cells] at hn
    obtain ⟨rfl, rfl, rfl⟩ := hn
    refine ⟨fun i => zs.getD i 0, hlc, hcm, fun i hi => ?_⟩
    have hi' : i < zs.length := by rw [hm]; split <;> omega
    have h0 := hall i hi'
    have hs : g.spot = none := by
      have h00 := hall 0 (by omega)
      simpa [Addr.add] using World.cell?_spot h00
    obtain ⟨gb, go, gs⟩ := g
    obtain rfl : gs = none := hs
    have e0 : (⟨gb, go, none⟩ : Addr).add i = ⟨gb, go + i, none⟩ := Addr.add_mid _ _ _
    rw [e0] at h0
    have hw : (Lit.int .i64 (zs.getD i 0)).wf = true := hwf _ (by
      have : zs.getD i 0 = zs[i] := by simp [hi']
      rw [this]; exact List.getElem_mem hi')
    have hb : gb < w.heap.size := by
      rcases Nat.lt_or_ge gb w.heap.size with k | k
      · exact k
      · unfold World.cell? at h0
        simp [Array.getElem?_eq_none k] at h0
    exact ⟨gb, go, rfl, hb, h0, (wf_i64 hw).1, (wf_i64 hw).2⟩

end Go.Proofs.YtcdedkgkingbdaaGreatDoor
end

section
/- tower: slices of numbers that a call has made; the laws' same and has. -/
namespace Go.Proofs.YtcdedkgkingbdaaGreatDoor.tow
open Go Go.RowKit

def lenOf : Value → Nat
  | .slice _ n _ => n
  | _ => 0

/-- A slice of numbers that is owned. -/
def Ints (w : World) (v : Value) (L : List Int) : Prop := w.ownsRow 0 3 1 v L.length (L.map (Value.int .i64))

theorem Ints.slice {w : World} {v : Value} {L : List Int} (h : Ints w v L) : ∃ a c, v = .slice a L.length c := own_slice h
theorem Ints.turn {F : Nat → Prop} {w w' : World} {v : Value} {L : List Int} (h : Ints w v L) (t : Turn F w w') (hr : ∀ k, v.ownBlock = some k → ¬ F k) : Ints w' v L := own_turn h t hr
theorem Ints.lt {w : World} {v : Value} {L : List Int} (h : Ints w v L) {k : Nat} (hk : v.ownBlock = some k) : k < w.heap.size := own_lt h hk
theorem Ints.below {w w' : World} {v : Value} {L : List Int} (h : Ints w v L) (t : Below w.heap.size w w') : Ints w' v L :=
  h.turn (Turn.of_below (F := fun k => w.heap.size ≤ k) t (fun _ _ h => h)) (fun k hk e => by have := h.lt hk; omega)
theorem Ints.nil (w : World) : Ints w (.slice none 0 0) [] := ⟨rfl, .inl ⟨rfl, rfl⟩⟩
theorem Ints.cell {w : World} {v : Value} {L : List Int} (h : Ints w v L) (i : Nat) (hi : i < L.length) : ∃ g c, v = .slice (some ⟨g, 0, none⟩) L.length c ∧ L.length ≤ c ∧ c ≤ maxLen ∧ ∀ j x, L[j]? = some x → w.cell? ⟨g, j, none⟩ = some (.int .i64 x) := by
  obtain ⟨g, c, e, h1, h2, hc⟩ := own_cell h (by omega)
  exact ⟨g, c, e, h1, h2, fun j x hj => hc j _ (by rw [List.getElem?_map, hj]; rfl)⟩

theorem zeroInt : ∃ i z, Tryz.prog.info? 3 = some i ∧ i.zero = some z ∧ i.size = 1 ∧ z.cells.size = 1 ∧ i.bytes = 8 := by
  have h2 : (Tryz.prog.info? 3).map (fun i => (i.zero.map (fun z => z.cells.size), i.size, i.bytes)) = some (some 1, 1, 8) := by kernel_rfl
  obtain ⟨i, hi, e⟩ := Option.map_eq_some_iff.1 h2
  simp at e
  obtain ⟨⟨z, hz, hz2⟩, h3, h4⟩ := e
  exact ⟨i, z, hi, hz, h3, hz2, h4⟩

end Go.Proofs.YtcdedkgkingbdaaGreatDoor.tow
end

section
/- tower over string: Floor, Steps, Level. -/
namespace Go.Proofs.YtcdedkgkingbdaaGreatDoor.tws
open Go Go.RowKit Go.Proofs.YtcdedkgkingbdaaGreatDoor.tow

section
variable {P : Program} (w : World)
theorem run_neq_ptr_same {tp te : TypeId} {j : TypeInfo} (a : Addr) (hp : P.underlying tp = some (.pointer te)) (hte : P.info? te = some j) :
    (binOp .neq tp (.pointer (some a)) (.pointer (some a))).run P w = .ok (.bool false) w := by
  have h : ∀ d : Nat, (Op.equalIn (d + 1) tp (.pointer (some a)) (.pointer (some a))).run P w = .ok true w := fun d => by
    simp [Op.equalIn, run_underlying hp, sizeOf, typeInfo, hte, run_sameAddr_same]
  simp only [binOp]
  simp [Op.equal, Op.maxDepth, h 9999]
theorem run_neq_ptr_other {tp te : TypeId} {j : TypeInfo} {a b : Addr} {ca cb : Array Value} {ta tb : TypeId} (hp : P.underlying tp = some (.pointer te)) (hte : P.info? te = some j) (hsz : j.size ≠ 0)
    (hne : a ≠ b) (ha : w.heap[a.block]? = some (.cells ca ta (0, 0))) (hb : w.heap[b.block]? = some (.cells cb tb (0, 0))) :
    (binOp .neq tp (.pointer (some a)) (.pointer (some b))).run P w = .ok (.bool true) w := by
  have h : ∀ d : Nat, (Op.equalIn (d + 1) tp (.pointer (some a)) (.pointer (some b))).run P w = .ok false w := fun d => by
    simp [Op.equalIn, run_underlying hp, sizeOf, typeInfo, hte, hsz, run_sameAddr_other w hne ha hb]
  simp only [binOp]
  simp [Op.equal, Op.maxDepth, h 9999]
end
theorem nodeInfo : ∃ j, Tryz.prog.info? 181 = some j ∧ j.size ≠ 0 := by
  have h2 : (Tryz.prog.info? 181).map (·.size) = some 3 := by kernel_rfl
  obtain ⟨i, hi, e⟩ := Option.map_eq_some_iff.1 h2
  exact ⟨i, hi, by omega⟩

/-- What Floor answers where A are those that aren't above. -/
def floorV (A : List N) : Value := match A.getLast? with
  | none => .tuple #[.int .i64 0, Value.string (⟨#[]⟩ : ByteArray), .bool false]
  | some c => .tuple #[.int .i64 c.a, Value.string c.v, .bool true]

set_option maxRecDepth 100000 in
set_option maxHeartbeats 2000000 in
theorem floor_calls (b : Nat) (hd : N) (A B : List N) (a : Int) (w : World) (hS : Sk w b hd (A ++ B)) (hA : ∀ x ∈ A, x.a ≤ a) (hB : ∀ x ∈ B, a < x.a) (hl : (A ++ B).length ≤ 100000) :
    Calls Tryz.prog 68 #[.pointer (some ⟨b, 0, none⟩), .int .i64 a] w fun en w' => en = .returned (floorV A) ∧ Below w.heap.size w w' := by
  have HS := Lib.hid hS
  have HA := Lib.hid hA
  have HB := Lib.hid hB
  have HL := Lib.hid hl
  have hmf : ∀ fn first cap w, (Instr.makeFunc fn first cap).run Tryz.prog w = .ok (.func fn first cap) w := fun _ _ _ _ => rfl
  clear hS hA hB hl
  go_enter Tryz.func68, Tryz.ntmps68
  go_wp2_with fail
  refine calls_let (fun W hW => ?_)
  have P0 : Hid (Has W w.heap.size 3 #[.int .i64 a] ∧ Below w.heap.size w W ∧ Sk W b hd (A ++ B)) := by
    have bb : Below w.heap.size w W := by rw [← hW]; exact (Below.refl _ _).alloc (Nat.le_refl _) _
    exact Lib.hid ⟨by rw [← hW]; exact made_at _ _ rfl, bb, HS.out.below bb⟩
  clear hW
  refine (search_calls 109 _ Tryz.func109 (by kernel_rfl) (by kernel_rfl) w.heap.size (fun x => decide (x ≤ a)) b hd A B W P0.out.2.2 (fun x w' hb => clos_floor x a _ w' (P0.out.1.below hb P0.out.1.lt)) (fun x hx => decide_eq_true (HA.out x hx)) (fun x hx => decide_eq_false (by have := HB.out x hx; omega)) (by have := HL.out; rw [List.length_append] at this; omega)).mono ?_
  rintro en w1 ⟨G, rfl, hE, b1⟩
  have P1 : Hid (Has w1 w.heap.size 3 #[.int .i64 a] ∧ Below w.heap.size w w1 ∧ Sk w1 b hd (A ++ B) ∧ Ends (hd :: A) G 0 ∧ w.heap.size < w1.heap.size) := Lib.hid ⟨P0.out.1.below b1 P0.out.1.lt, P0.out.2.1.trans (b1.mono P0.out.2.1.size), P0.out.2.2.below b1, hE, Nat.lt_of_lt_of_le P0.out.1.lt b1.size⟩
  clear hE b1 P0
  go_wp2_with (first
    | ((with_reducible refine at_store (.tmp 7) ?_); refine wpList_store_cells (o := ⟨none, _, _, _, _, _⟩) rfl 184 _ _ rfl w1.heap.size (endsC G 0) (endsC (fun _ => 0) 10) rfl rfl _ (made_at _ _ rfl) (arrSize _ _) (by rw [endsC_size, endsC_size]) (endsC_one _ _) ?_; intro W2 HW2 TW2;
       (have hu : Hid (Pu w b hd A B w.heap.size w1.heap.size a G W2) := (by
          have bb : Below w1.heap.size w1 W2 := ((Below.refl _ _).alloc (Nat.le_refl _) _).trans (TW2.below (by simp) (fun j hj e => by omega))
          exact Lib.hid ⟨P1.out.2.2.1.below bb, P1.out.2.1.trans (bb.mono P1.out.2.1.size), HW2, P1.out.1.below bb P1.out.1.lt, ⟨Nat.le_refl _, P1.out.2.1.size⟩, P1.out.2.2.2.1⟩));
       (obtain ⟨c, hX, hg, ce, hc, hk1, hk2, cr0⟩ := hu.out.last);
       (have cc0 := hc.cell 0); (have cc1 := hc.cell 1); (simp only [List.getElem?_toArray, List.getElem?_cons_succ, List.getElem?_cons_zero] at cc0 cc1);
       (have HX := Lib.hid hX); clear HW2 TW2 hX hg hc hk1 hk2 cr0)
    | fail)
  have cb : W2.cell? ⟨b, 0, none⟩ = some (.pointer (some ⟨hd.g, 0, none⟩)) := hu.out.sk.list.cell 0
  clear P1
  by_cases hA0 : A = []
  · have hc : c = hd := by
      obtain ⟨X, e⟩ := HX.out
      rw [hA0] at e
      cases X with
      | nil => rw [List.nil_append, List.cons.injEq] at e; exact e.1.symm
      | cons x X => exact absurd (congrArg List.length e) (by simp)
    have HV : Hid (floorV A = .tuple #[.int .i64 hd.a, Value.string hd.v, .bool false]) := Lib.hid (by rw [hA0, HS.out.h0.1, HS.out.h0.2]; rfl)
    subst hc
    have hbn : ∀ n, (binOp .neq 178 (.pointer (some ⟨c.g, 0, none⟩)) (.pointer (some ⟨c.g, 0, none⟩))).run Tryz.prog (W2.drewN n) = .ok (.bool false) (W2.drewN n) := fun n => by
      obtain ⟨j, hj, _⟩ := nodeInfo
      exact run_neq_ptr_same _ _ Tryz.underlying178 hj
    clear hA0
    go_quiet (fail)
    go_wp2_with fail
    go_ret3
    exact ⟨by rw [HV.out]; rfl, (hu.out.drewN nq).bel⟩
  · have hcA : A.getLast? = some c ∧ c.g ≠ hd.g := by
      obtain ⟨X, e⟩ := HX.out
      cases X with
      | nil => rw [List.nil_append, List.cons.injEq] at e; exact absurd e.2 hA0
      | cons x X =>
        rw [List.cons_append, List.cons.injEq] at e
        refine ⟨by rw [e.2]; simp, fun eg => ?_⟩
        have := HS.out.gs
        rw [e.2, List.map_cons, List.nodup_cons] at this
        exact this.1 (by rw [← eg]; simp)
    have HV : Hid (floorV A = .tuple #[.int .i64 c.a, Value.string c.v, .bool true]) := Lib.hid (by unfold floorV; rw [hcA.1])
    have hbn : ∀ n, (binOp .neq 178 (.pointer (some ⟨c.g, 0, none⟩)) (.pointer (some ⟨hd.g, 0, none⟩))).run Tryz.prog (W2.drewN n) = .ok (.bool true) (W2.drewN n) := fun n => by
      obtain ⟨j, hj, hsz⟩ := nodeInfo
      obtain ⟨X, e⟩ := HX.out
      obtain ⟨m1, _⟩ := hu.out.sk.at_ e
      obtain ⟨_, m2, _⟩ := hu.out.sk.node (x := hd) (by simp)
      exact run_neq_ptr_other _ Tryz.underlying178 hj hsz (fun e => hcA.2 (by injection e)) m1 m2
    clear hA0 hcA
    go_quiet (fail)
    go_wp2_with fail
    go_ret3
    exact ⟨by rw [HV.out]; rfl, (hu.out.drewN nq).bel⟩

/-- The versions on a level. -/
def lev (h : Nat) (ns : List N) : List Int := (ns.filter (fun x => decide (h < x.k))).map (·.a)
theorem lev_low {h : Nat} {l : List N} (hl : ∀ y ∈ l, y.k ≤ h) : lev h l = [] := by
  unfold lev
  rw [List.filter_eq_nil_iff.2 (fun y hy => by have := hl y hy; simpa using this)]
  rfl
theorem lev_append (h : Nat) (l m : List N) : lev h (l ++ m) = lev h l ++ lev h m := by simp [lev]
theorem lev_cons {h : Nat} {x : N} (hx : h < x.k) (l : List N) : lev h (x :: l) = x.a :: lev h l := by simp [lev, hx]
theorem lev_len (h : Nat) (l : List N) : (lev h l).length ≤ l.length := by
  unfold lev; rw [List.length_map]; exact List.length_filter_le _ _

/-- Numbers were answered, in new memory. -/
def IntsPost (w : World) (L : List Int) (en : Ending) (w' : World) : Prop := ∃ v, en = .returned v ∧ Ints w' v L ∧ (∀ k, v.ownBlock = some k → w.heap.size ≤ k) ∧ Below w.heap.size w w'

/-- Where Level stands. -/
structure Lv (w : World) (ns : List N) (h : Nat) (R : List N) (v : Value) (wr : World) : Prop where
  split : ∃ P, ns = P ++ R ∧ Ints wr v (lev h P)
  new : ∀ k, v.ownBlock = some k → w.heap.size ≤ k
  bel : Below w.heap.size w wr

set_option maxRecDepth 100000 in
set_option maxHeartbeats 2000000 in
theorem level_calls (b : Nat) (hd : N) (ns : List N) (h : Nat) (w : World) (hS : Sk w b hd ns) (hh : h < 10) (hl : ns.length ≤ 100000) :
    Calls Tryz.prog 101 #[.pointer (some ⟨b, 0, none⟩), .int .i64 h] w (IntsPost w (lev h ns)) := by
  have HS := Lib.hid hS
  have HL := Lib.hid hl
  have cb : w.cell? ⟨b, 0, none⟩ = some (.pointer (some ⟨hd.g, 0, none⟩)) := hS.list.cell 0
  have ch : w.cell? ⟨hd.g, 2, none⟩ = some (.slice (some ⟨hd.r, 0, none⟩) 10 10) := by have := (hS.lay.at_ (X := [])).1.cell 2; rw [hS.hk] at this; exact this
  obtain ⟨u, hu⟩ : ∃ u, ptrV (nx h ns) = .pointer u := by cases nx h ns <;> exact ⟨_, rfl⟩
  have cr : w.cell? ⟨hd.r, h, none⟩ = some (.pointer u) := by rw [(hS.lay.at_ (X := [])).2.cell, rowT_at (by rw [hS.hk]; exact hh), List.append_nil, hu]
  have hh1 : (h : Int) < 10 := by omega
  have hh0 : (0 : Int) ≤ (h : Int) := by omega
  have hh2 : ¬ (h : Int) < 0 := by omega
  have hh3 : ¬ (10 : Int) ≤ (h : Int) := by omega
  have HU := Lib.hid hu
  have HH := Lib.hid hh
  clear hS hl hu hh
  go_enter Tryz.func101, Tryz.ntmps101
  go_wp2_with fail
  go_loopw [5, 6] (fun v x wr => ∃ R u, x = .pointer u ∧ ptrV (nx h R) = .pointer u ∧ Hid (Lv w ns h R v wr)) (fun v _ _ => ns.length - lenOf v)
  case atStart => exact ⟨ns, u, rfl, HU.out, Lib.hid ⟨⟨[], rfl, Ints.nil _⟩, (by intro k hk; cases hk), Below.refl _ _⟩⟩
  case round =>
    obtain ⟨R, u2, rfl, hu2, HV⟩ := hrel
    obtain ⟨v, hv⟩ : ∃ v, v = u5 := ⟨_, rfl⟩
    rw [← hv] at HV ⊢
    clear hv
    clear cb ch cr HU
    rcases nx_cases h R with ⟨e, hR⟩ | ⟨l1, y, l2, hR, hy, h1, e⟩
    · rw [e] at hu2
      injection hu2 with hu2
      subst hu2
      have HE : Hid (∀ P, ns = P ++ R → lev h ns = lev h P) := Lib.hid (fun P e => by rw [e, lev_append, lev_low hR, List.append_nil])
      clear hR e
      obtain ⟨P, eP, hI⟩ := HV.out.split
      have HP : Hid (Ints wr v (lev h ns)) := Lib.hid (by rw [HE.out P eP]; exact hI)
      clear eP hI
      go_wp2_with fail
      go_ret
      exact ⟨v, rfl, HP.out, HV.out.new, HV.out.bel⟩
    · rw [e] at hu2
      injection hu2 with hu2
      subst hu2
      obtain ⟨P, eP, hI⟩ := HV.out.split
      have hyn : y ∈ ns := by rw [eP, hR]; simp
      obtain ⟨cs, m1, _⟩ := HS.out.node (x := y) (by simp [hyn])
      have m1' := m1.below HV.out.bel m1.lt
      have cy0 : wr.cell? ⟨y.g, 0, none⟩ = some (.int .i64 y.a) := m1'.cell 0
      have HY : Hid (ns = (P ++ l1) ++ y :: l2 ∧ (∀ z ∈ l1, z.k ≤ h) ∧ h < y.k) := Lib.hid ⟨by rw [eP, hR]; simp, h1, hy⟩
      have HI := Lib.hid hI
      have hlen : (lev h P).length + 1 ≤ ns.length := by
        have h1 := lev_len h P
        have h2 := congrArg List.length eP
        rw [hR] at h2
        simp only [List.length_append, List.length_cons] at h2
        omega
      have HLEN := Lib.hid hlen
      have hyg := m1'.lt
      clear eP hI hyn m1 m1' hR h1 hy e hlen
      obtain ⟨i0, z0, hi0, hz0, hz1, hz2, hz3⟩ := tow.zeroInt
      have HI0 := Lib.hid hi0
      have HZ0 := Lib.hid hz0
      clear hi0 hz0
      go_wp2_with ((with_reducible refine at_op 38 ?_); refine wpList_append_lies (o := ⟨some 38, _, _, _, _, _⟩) _ rfl (.tmp 32) (.tmp 37) 44 rfl 0 3 i0 z0 1 8 Tryz.underlying44 HI0.out HZ0.out hz1 hz3 hz2 (by decide) v (lev h P).length _ (by simp [Act.eval]) (by exact HI.out.alloc _) ⟨wr.heap.size, 0, none⟩ 1 1 [.int .i64 y.a] (by simp [Act.eval]) rfl (by exact World.news_of_block (Has.made _ _ _)) (by intro u hu; rw [List.mem_singleton.1 hu]; rfl) (by decide) (by unfold maxLen; have := HLEN.out; have := HL.out; omega) (by have := HLEN.out; have := HL.out; omega) (Nat.zero_le _) _ rfl ?_)
      intro g2 cap2 w3 hown hg hat hlt
      have hnew : w.heap.size ≤ g2 := by
        rcases hat with e | e
        · exact HV.out.new g2 e
        · have := HV.out.bel.size; omega
      have B3 : Hid (Below w.heap.size w w3 ∧ Ints w3 (.slice (some ⟨g2, 0, none⟩) ((lev h P).length + 1) cap2) (lev h P ++ [y.a]) ∧ w.heap.size ≤ g2) := by
        have t3 : Turn (fun k => w.heap.size ≤ k) wr w3 := ((Turn.refl _ wr).alloc _).grown hg (fun j e _ => HV.out.new j e)
        refine Lib.hid ⟨HV.out.bel.trans (t3.below HV.out.bel.size (fun j hj e => by omega)), ?_, hnew⟩
        unfold Ints
        have e1 : (lev h P ++ [y.a]).length = (lev h P).length + 1 := by simp
        have e2 : (lev h P ++ [y.a]).map (Value.int .i64) = (lev h P).map (Value.int .i64) ++ [.int .i64 y.a] := by simp
        rw [e1, e2]
        exact hown
      have hlay := HS.out.lay
      rw [HY.out.1] at hlay
      obtain ⟨m1, m2⟩ := Lay.at_ (X := hd :: (P ++ l1)) hlay
      have c2 : w3.cell? ⟨y.g, 2, none⟩ = some (.slice (some ⟨y.r, 0, none⟩) y.k y.k) := (m1.below B3.out.1 m1.lt).cell 2
      obtain ⟨u3, hu3⟩ : ∃ u, ptrV (nx h l2) = .pointer u := by cases nx h l2 <;> exact ⟨_, rfl⟩
      have c3 : w3.cell? ⟨y.r, h, none⟩ = some (.pointer u3) := by rw [(m2.below B3.out.1 m2.lt).cell, rowT_at HY.out.2.2, List.append_nil, hu3]
      have hyk : (h : Int) < (y.k : Int) := by have := HY.out.2.2; omega
      have hyk2 : (y.k : Int) ≤ 10 := by have := HS.out.kle y (by rw [HY.out.1]; simp); omega
      have HU3 := Lib.hid hu3
      clear hown hg hat hlt hnew hlay m1 m2 hu3
      go_wp2_with fail
      refine ⟨⟨l2, u3, rfl, HU3.out, Lib.hid ⟨⟨P ++ l1 ++ [y], by rw [HY.out.1]; simp, ?_⟩, (by intro k hk; injection hk with hk; rw [← hk]; exact B3.out.2.2), B3.out.1⟩⟩, ?_⟩
      · rw [lev_append, lev_append, lev_low HY.out.2.1, lev_cons HY.out.2.2, List.append_nil]
        exact B3.out.2.1
      · have hv : lenOf v = (lev h P).length := by obtain ⟨a0, c0, e⟩ := HI.out.slice; rw [e]; rfl
        have := HLEN.out
        rw [hv]
        show ns.length - ((lev h P).length + 1) < ns.length - (lev h P).length
        omega

end Go.Proofs.YtcdedkgkingbdaaGreatDoor.tws
end

