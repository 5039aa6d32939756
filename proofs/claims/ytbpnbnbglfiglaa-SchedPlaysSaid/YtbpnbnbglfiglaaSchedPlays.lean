/- SchedPlays: for any paces and any acts the law answers true, and its arguments read afterwards as they did. Conditions: none. -/
import Derived.Test.YtbpnbnbglfiglaaSchX
import Derived.Test.YtbpnbnbglfiglaaRaw
import Derived.BigQuiet
import Derived.ProofKit
import Derived.OpenShut
import Derived.ChangeOld
namespace Go.Proofs.Ytbpnbnbglfiglaa.schedPlays
open Go Go.ChangeShapes Go.WideShapes Go.ChangeAt Go.RowKit Go.Proofs.Ytbpnbnbglfiglaa.sch

/-- An act that is handed in. -/
structure Ac where
  kind : Int
  who : Int
  n : Int
theorem len3 {cs : List Value} (h : cs.length = 3) : ∃ c0 c1 c2, cs = [c0, c1, c2] := by
  match cs, h with
  | [c0, c1, c2], _ => exact ⟨c0, c1, c2, rfl⟩
set_option maxRecDepth 100000 in
theorem ac_of {H : Type} {enc : TypeId × Value → H} {w : World} {spare : Nat → Bool} {held : Bool} {cs : List Value} {n : Nat} {y : DataW H × List MemPlace} (hl : cs.length = 3) (h : DataW.trod enc Try.prog w 0 spare held n 33 cs = some y) :
    ∃ x : Ac, cs = [.int .i64 x.kind, .int .i64 x.who, .int .i64 x.n] := by
  obtain ⟨c0, c1, c2, rfl⟩ := len3 hl
  have lt1 : ∀ {m : Nat} {t : TypeId} {l : List Value} {k : Nat} {ys : List (DataW H × List MemPlace)}, DataW.trod enc Try.prog w 0 spare held m t l = ys[k]? → k < ys.length → ∃ z, DataW.trod enc Try.prog w 0 spare held m t l = some z := fun h1 h2 => ⟨_, h1.trans (List.getElem?_eq_getElem h2)⟩
  obtain ⟨xs, k, _, _, _, hxl, hf⟩ := DataW.trod_struct Try.underlying33 h
  have hxl' : xs.length = 3 := hxl
  obtain ⟨z0, t0⟩ := lt1 (hf 0 _ rfl) (by omega)
  obtain ⟨z1, t1⟩ := lt1 (hf 1 _ rfl) (by omega)
  obtain ⟨z2, t2⟩ := lt1 (hf 2 _ rfl) (by omega)
  obtain ⟨k0, e0, _⟩ := DataW.trod_int Try.underlying3 (show DataW.trod enc Try.prog w 0 spare held _ 3 [c0] = _ from t0)
  obtain ⟨k1, e1, _⟩ := DataW.trod_int Try.underlying3 (show DataW.trod enc Try.prog w 0 spare held _ 3 [c1] = _ from t1)
  obtain ⟨k2, e2, _⟩ := DataW.trod_int Try.underlying3 (show DataW.trod enc Try.prog w 0 spare held _ 3 [c2] = _ from t2)
  simp only [List.cons.injEq, and_true] at e0 e1 e2
  subst e0; subst e1; subst e2
  exact ⟨⟨k0, k1, k2⟩, rfl⟩
/-- A slice of acts that is handed in. -/
def ArgA (w : World) (a : Option Addr) (len : Nat) (T : Nat → Ac) : Prop :=
  ∀ i, i < len → ∃ b p, a = some ⟨b, p, none⟩ ∧ b < w.heap.size ∧ w.cell? ⟨b, p + i * 3, none⟩ = some (.int .i64 (T i).kind) ∧ w.cell? ⟨b, p + i * 3 + 1, none⟩ = some (.int .i64 (T i).who) ∧ w.cell? ⟨b, p + i * 3 + 2, none⟩ = some (.int .i64 (T i).n)
set_option maxRecDepth 100000 in
theorem openedA {H : Type} {enc : TypeId × Value → H} {w : World} {spare : Nat → Bool} {held : Bool} {a : Option Addr} {len cap : Nat} {d : DataW H} {p : List MemPlace} (h : DataW.Trod enc Try.prog w 0 spare held 23 (.slice a len cap) d p) : ∃ T, ArgA w a len T := by
  obtain ⟨_, _, h3⟩ := opened_raw (n0 := 3) Try.underlying23 (by kernel_rfl) (by decide) h
  have key : ∀ i, i < len → ∃ x : Ac, ∃ b p, a = some ⟨b, p, none⟩ ∧ b < w.heap.size ∧ w.cell? ⟨b, p + i * 3, none⟩ = some (.int .i64 x.kind) ∧ w.cell? ⟨b, p + i * 3 + 1, none⟩ = some (.int .i64 x.who) ∧ w.cell? ⟨b, p + i * 3 + 2, none⟩ = some (.int .i64 x.n) := fun i hi => by
    obtain ⟨b, q, e, hb, cs, n, y, hl, hd, hc⟩ := h3 i hi
    obtain ⟨x, rfl⟩ := ac_of hl hd
    exact ⟨x, b, q, e, hb, hc 0 _ rfl, hc 1 _ rfl, hc 2 _ rfl⟩
  refine ⟨fun i => if hi : i < len then Classical.choose (key i hi) else ⟨0, 0, 0⟩, fun i hi => ?_⟩
  have hs := Classical.choose_spec (key i hi)
  simp only [dif_pos hi]
  exact hs

theorem madeD_from : ∀ (l : List Int) (d : Dc), (l.foldl pushD d).c = d.c + l.length
  | [], d => by simp
  | p :: l, d => by
    rw [List.foldl_cons, madeD_from l]
    have : (pushD d p).c = d.c + 1 := by unfold pushD sch.due; split <;> rfl
    rw [this, List.length_cons]
    omega
theorem madeD_c (l : List Int) : (madeD l).c = l.length := by
  have := madeD_from l dc0
  have e : dc0.c = 0 := rfl
  unfold madeD
  omega
theorem _root_.Go.Proofs.Ytbpnbnbglfiglaa.sch.Bo.fresh {w V : World} {s q : Nat} {r : Option Nat} {v : Value} {a : Ab} {pa : Option Addr} {pn pc : Nat} {la : Option Addr} {ln lc : Nat} {d : Dc} {k : Int} (h : Bo w s q r v a pa pn pc la ln lc d k V) {x : Nat} (hx : V.heap.size ≤ x) : ¬ (v.ownBlock = some x ∨ x = s ∨ x = q ∨ r = some x) := by
  intro e
  rcases e with e | e | e | e
  · have := own_lt h.nw.sc.pac e; omega
  · have := h.nw.sc.own.lt; omega
  · obtain ⟨cs, hq⟩ := qs_box h.nw.sc.qs
    have := hq.lt
    omega
  · obtain ⟨cs, hq⟩ := qs_row h.nw.sc.qs x e
    have := hq.lt
    omega
/-- A schedule, and the document's in its box. -/
structure Lw (w : World) (bx s q : Nat) (v : Value) (n : Nat) (r : Option Nat) (a : Ab) (pa : Option Addr) (pn pc : Nat) (la : Option Addr) (ln lc : Nat) (d : Dc) (k : Int) (V : World) : Prop where
  bo : Bo w s q r v a pa pn pc la ln lc d k V
  box : Has V bx 30 (dsC pa pn pc la ln lc d.T d.c)
  hw : w.heap.size ≤ bx
  len : a.P.length = n
theorem Lw.below {w V V' : World} {bx s q n : Nat} {v : Value} {r : Option Nat} {a : Ab} {pa la : Option Addr} {pn pc ln lc : Nat} {d : Dc} {k : Int} (h : Lw w bx s q v n r a pa pn pc la ln lc d k V) (hb : Below V.heap.size V V') : Lw w bx s q v n r a pa pn pc la ln lc d k V' :=
  ⟨h.bo.below hb, h.box.below hb h.box.lt, h.hw, h.len⟩
theorem Bo.more {w V : World} {s q : Nat} {r : Option Nat} {v : Value} {a : Ab} {pa la : Option Addr} {pn pc ln lc : Nat} {d : Dc} {k k' : Int} (h : Bo w s q r v a pa pn pc la ln lc d k V) (hk : k ≤ k') : Bo w s q r v a pa pn pc la ln lc d k' V :=
  ⟨h.nw, h.dm, h.like, h.inv.more hk, h.c0, by have := h.ck; omega, h.ap⟩
theorem nxA_len {k : Int} {a : Ab} (h : sch.Inv k a.P.length a) : (nxA a).P.length = a.P.length := by
  cases e : a.S with
  | nil => rw [(nx_nil dc0 e).1]
  | cons x t =>
    obtain ⟨i, h1, _, _, _, _, _, h7, _⟩ := h.next e
    rw [(nx_cons dc0 e h1).1, h7]
def Lp (w : World) (bx s q : Nat) (v : Value) (n : Nat) (k : Int) (V : World) : Prop := ∃ (r : Option Nat) (a : Ab) (pa : Option Addr) (pn pc : Nat) (la : Option Addr) (ln lc : Nat) (d : Dc), Lw w bx s q v n r a pa pn pc la ln lc d k V

set_option maxRecDepth 100000 in
set_option maxHeartbeats 4000000 in
theorem plays_any (ad : Option Addr) (len cap : Nat) (T0 : Nat → Int) (ac : Option Addr) (lenA capA : Nat) (X : Nat → Ac) (w : World) (hA : ArgI w ad len cap T0) (hX : ArgA w ac lenA X) : Calls Try.prog 3 #[.slice ad len cap, .slice ac lenA capA] w fun en w' => en = .returned (.bool true) ∧ Below w.heap.size w w' := by
  have HA := Lib.hid hA
  have HX := Lib.hid hX
  obtain ⟨n, hn⟩ : ∃ n, n = min len 6 := ⟨_, rfl⟩
  have hn6 : n ≤ 6 := by omega
  have HN := Lib.hid hn
  clear hA hn hX
  go_enter Try.func3, Try.ntmps3
  go_wp2_with (first
    | (go_at_call 5; refine (awake_calls w).mono ?_; rintro en w1 ⟨rfl, b1⟩
       have hA1 : ArgI w1 ad len cap T0 := ⟨HA.out.1, HA.out.2.1, fun i hi => by
         obtain ⟨b, o, e, hb, hc, hr⟩ := HA.out.2.2 i hi
         have := b1.size
         exact ⟨b, o, e, by omega, (Turn.cell (p := ⟨b, o + i, none⟩) (Turn.of_below b1 (F := fun j => w.heap.size ≤ j) (fun _ _ e => e)) hb (Nat.not_le_of_lt hb)).trans hc, hr⟩⟩
       have T1 : Hid (Turn (fun j => w.heap.size ≤ j) w w1) := Lib.hid (Turn.of_below b1 (fun _ _ e => e))
       have HF1 := Lib.hid (few_calls ad len cap w1 hA1.1 hA1.2.1)
       have HS1 : Hid (Sl w1 ad (lst T0 n)) := Lib.hid (Sl.of_arg hA1 (by have := HN.out; omega))
       clear b1 hA1)
    | (go_at_call 6; refine HF1.out.mono ?_; rw [← HN.out]; rintro en w2 ⟨rfl, rfl⟩)
    | (go_at_call 7
       refine (sch.new_calls w1 ad n cap (lst T0 n) (lst_len T0 n) (by omega) HS1.out).mono ?_
       rintro en w4 ⟨s, q, r, v, rfl, n4⟩
       have hI4 := (made_inv (lst T0 n) (by rw [lst_len]; omega))
       have S4 := Lib.hid (HS1.out.turn n4.turn)
       have N4 := Lib.hid (n4.since T1.out)
       have I4 : Hid (sch.Inv 10 (made (lst T0 n)).P.length (made (lst T0 n)) ∧ (made (lst T0 n)).P.length = n) := Lib.hid (by
         have h1 := hI4.1
         have h2 := hI4.2.1
         rw [lst_len] at h1
         exact ⟨h1.more (by omega), by rw [h2, List.length_map, lst_len]⟩)
       have hdn := dnew_calls (lst T0 n) ad cap w4 S4.out (by rw [lst_len]; omega)
       rw [lst_len] at hdn
       have HDN := Lib.hid hdn
       clear n4 hI4 S4 hdn HF1 HS1)
    | (go_at_call 8; refine HDN.out.mono ?_
       rintro en w5 ⟨pa, pn, pc, la, ln, lc, rfl, d5, b5, lo5⟩
       have K5 : Hid (Bo w s q r v (made (lst T0 n)) pa pn pc la ln lc (madeD (lst T0 n)) 10 w5) := Lib.hid ⟨N4.out.below b5, d5, like_made _ (by rw [lst_len]; omega), I4.out.1, by
           have := madeD_c (lst T0 n); omega, by have := madeD_c (lst T0 n); rw [lst_len] at this; omega, fun b hb e => by have h1 := lo5 b hb; have h2 := own_lt N4.out.sc.pac e; omega⟩
       clear d5 b5 lo5 HDN)
    | fail)
  go_name_world W6 hW6
  obtain ⟨bx, hbx⟩ : ∃ bx, bx = w5.heap.size := ⟨_, rfl⟩
  rw [← hbx]
  have L6 : Hid (Lp w bx s q v n 10 W6) := by
    rw [← hW6]
    have b6 : Below w5.heap.size w5 (w5.alloc (.cells (dsC pa pn pc la ln lc (madeD (lst T0 n)).T (madeD (lst T0 n)).c) 30)) := (Below.refl _ w5).alloc (Nat.le_refl _) _
    exact Lib.hid ⟨_, _, _, _, _, _, _, _, _, K5.out.below b6, by rw [hbx]; exact Has.made _ _ _, by rw [hbx]; exact K5.out.nw.turn.size, I4.out.2⟩
  clear hW6 hbx K5 N4 I4 T1
  go_wp2_with fail
  go_loopw [7] (fun x wr => ∃ (j : Nat), x = .int .i64 j ∧ j ≤ 60 ∧ Hid (Lp w bx s q v n (10 + 18 * j) wr)) (fun x _ => 60 - (RowKit.intOf x).toNat)
  case atStart => exact ⟨0, rfl, by omega, by simpa using L6⟩
  case round =>
    clear L6
    obtain ⟨j, rfl, hj, HL⟩ := hrel
    obtain ⟨r, a, pa, pn, pc, la, ln, lc, d, hLw⟩ := HL.out
    have HS := Lib.hid hLw
    clear hLw HL
    by_cases hjl : j < lenA
    · have j1 : (j : Int) < (lenA : Int) := by omega
      by_cases hj6 : j < 60
      · have j2 : (j : Int) < 60 := by omega
        have j0 : (0 : Int) ≤ (j : Int) := by omega
        have hmeas : 60 - ((j : Int) + 1).toNat < 60 - ((j : Int)).toNat := by omega
        have HME := Lib.hid hmeas
        obtain ⟨ab, ap, rfl, hab, ca0, ca1, ca2⟩ := HX.out j hjl
        have tw := HS.out.bo.nw.turn
        have cb0 : wr.cell? ⟨ab, ap + j * 3, none⟩ = some (.int .i64 (X j).kind) := (tw.cell hab (by simpa using hab)).trans ca0
        have cb1 : wr.cell? ⟨ab, ap + j * 3 + 1, none⟩ = some (.int .i64 (X j).who) := (tw.cell hab (by simpa using hab)).trans ca1
        have cb2 : wr.cell? ⟨ab, ap + j * 3 + 2, none⟩ = some (.int .i64 (X j).n) := (tw.cell hab (by simpa using hab)).trans ca2
        obtain ⟨xj, hxj⟩ : ∃ x, x = X j := ⟨_, rfl⟩
        rw [← hxj] at cb0 cb1 cb2 ca0 ca1 ca2
        clear hxj
        obtain ⟨kd, who, an⟩ := xj
        dsimp only at cb0 cb1 cb2
        have HSB := Lib.hid HS.out.bo
        obtain ⟨T, hT⟩ : ∃ T, T = d.T := ⟨_, rfl⟩
        obtain ⟨cc, hcc⟩ : ∃ cc, cc = d.c := ⟨_, rfl⟩
        have hbx0 := HS.out.box
        rw [← hT, ← hcc] at hbx0
        have x0 : wr.cell? ⟨bx, 0, none⟩ = some (.slice pa pn pc) := hbx0.cell 0
        have x1 : wr.cell? ⟨bx, 1, none⟩ = some (.slice la ln lc) := hbx0.cell 1
        have x2 : wr.cell? ⟨bx, 2, none⟩ = some (.int .i64 T) := hbx0.cell 2
        have x3 : wr.cell? ⟨bx, 3, none⟩ = some (.int .i64 cc) := hbx0.cell 3
        have hbl : bx < wr.heap.size := hbx0.lt
        have hK0 : (0 : Int) ≤ 10 + 18 * (j : Int) := by omega
        have hK1 : (10 : Int) + 18 * (j : Int) ≤ 1100 := by omega
        have hKK : (10 : Int) + 18 * ((j + 1 : Nat) : Int) = 10 + 18 * (j : Int) + 18 := by omega
        obtain ⟨K, hK⟩ : ∃ K, K = (10 : Int) + 18 * (j : Int) := ⟨_, rfl⟩
        rw [← hK] at HS HSB hK0 hK1 hKK
        have HKK := Lib.hid (And.intro hKK (And.intro hK0 hK1))
        have HT := Lib.hid (And.intro hT hcc)
        have SU : Hid (Lw w bx s q v n r a pa pn pc la ln lc d K (wr.alloc (.cells #[.int .i64 kd, .int .i64 who, .int .i64 an] 33))) := Lib.hid (HS.out.below ((Below.refl _ wr).alloc (Nat.le_refl _) _))
        clear ca0 ca1 ca2 tw hT hcc hbx0 hmeas hK0 hK1 hKK hK HS
        by_cases k1 : kd = 1
        · subst k1
          have hn := lnext_calls SU.out.bo (by have := HKK.out; omega) HKK.out.2.1
          rw [← HT.out.1, ← HT.out.2] at hn
          have HNX := Lib.hid hn
          clear hn
          go_wp2_with (first
            | (go_at_call 9; refine HNX.out.mono ?_; rintro en w3 ⟨r3, la3, ln3, lc3, rfl, bo3, t3⟩
               (have K3 : Hid (Bo w s q r3 v (nxA a) pa pn pc la3 ln3 lc3 (nxD a d) (K + 2) w3 ∧ Has w3 bx 30 (dsC pa pn pc la ln lc d.T d.c)) := Lib.hid ⟨bo3, SU.out.bo.nw.box SU.out.box t3⟩)
               (clear bo3 t3))
            | ((with_reducible refine at_store (.tmp 6) ?_); refine wpList_store_ds (o := ⟨none, _, _, _, _, _⟩) rfl _ _ rfl bx rfl rfl K3.out.2 (by simp [Value.oneCell']) ?_; intro W7 h7 t7)
            | fail)
          have K7 : Hid (Lw w bx s q v n r3 (nxA a) pa pn pc la3 ln3 lc3 (nxD a d) (K + 18) W7) := Lib.hid ⟨Bo.more (K3.out.1.boxed K3.out.2 SU.out.hw t7) (by omega), h7, SU.out.hw, by rw [nxA_len SU.out.bo.inv]; exact SU.out.len⟩
          clear h7 t7 K3 SU HNX x0 x1 x2 x3 hbl cb0 cb1 cb2
          have hT7 : Hid (((nxD a d).T = (nxA a).T) ∧ (nxA a).S.length = ln3) := Lib.hid ⟨K7.out.bo.like.T, by have h1 := K7.out.bo.like.rel.len; have h2 := K7.out.bo.dm.ln_; omega⟩
          obtain ⟨T7, hT7e⟩ : ∃ T7, T7 = (nxD a d).T := ⟨_, rfl⟩
          have hbox7 := K7.out.box
          rw [← hT7e] at hbox7
          have z1 : W7.cell? ⟨bx, 1, none⟩ = some (.slice la3 ln3 lc3) := hbox7.cell 1
          have z2 : W7.cell? ⟨bx, 2, none⟩ = some (.int .i64 T7) := hbox7.cell 2
          have z3 : W7.cell? ⟨s, 0, none⟩ = some (.pointer (some ⟨q, 0, none⟩)) := K7.out.bo.nw.sc.c0
          have hbx7 : bx < W7.heap.size := hbox7.lt
          have n1 : (T7 != T7) = false := by simp
          have n2 : ((ln3 : Int) != (ln3 : Int)) = false := by simp
          have HTK : ∀ nn, Hid (Calls Try.prog 13 #[.pointer (some ⟨s, 0, none⟩)] (W7.drewN nn) fun en w' => en = .returned (.int .i64 T7) ∧ W7.drewN nn = w') := fun nn => Lib.hid (by
            have h1 := tick_calls (K7.out.bo.nw.drewN nn).sc
            rw [← hT7.out.1, ← hT7e] at h1
            exact h1)
          have HQL : ∀ nn, Hid (Calls Try.prog 14 #[.pointer (some ⟨q, 0, none⟩)] (W7.drewN nn) fun en w' => en = .returned (.int .i64 ln3) ∧ W7.drewN nn = w') := fun nn => Lib.hid (by
            have h1 := qs_len q r3 _ _ _ (K7.out.bo.nw.drewN nn).sc.qs
            rw [hT7.out.2] at h1
            exact h1)
          clear hbox7 hT7e hT7
          go_quiet (first | (refine Calls.quiet_of_same ((HTK _).out.mono fun _ _ h => ⟨h.1, h.2.symm⟩)) | (refine Calls.quiet_of_same ((HQL _).out.mono fun _ _ h => ⟨h.1, h.2.symm⟩)))
          go_wp2_with fail
          exact ⟨⟨j + 1, by rw [Int.natCast_add]; rfl, by omega, Lib.hid (by rw [HKK.out.1]; exact ⟨r3, nxA a, pa, pn, pc, la3, ln3, lc3, nxD a d, K7.out.below ⟨rfl, rfl, rfl, Nat.le_refl _, fun _ _ => rfl⟩⟩)⟩, HME.out⟩
        · have e1 : (kd == 1) = false := by simpa using k1
          by_cases k2 : kd = 2
          · subst k2
            by_cases hw0 : who < 0
            · have HST := Lib.hid (set_out SU.out.bo.nw.sc who an (.inl hw0))
              go_wp2_with (first
                | (go_at_call 10; refine HST.out.mono ?_; rintro en w3 ⟨rfl, rfl⟩)
                | fail)
              have K7 : Hid (Lw w bx s q v n r a pa pn pc la ln lc d (K + 18) _) := Lib.hid ⟨Bo.more SU.out.bo (by omega), SU.out.box, SU.out.hw, SU.out.len⟩
              clear SU HST x0 x1 x2 x3 hbl cb0 cb1 cb2
              have hT7 : Hid (((d).T = (a).T) ∧ (a).S.length = ln) := Lib.hid ⟨K7.out.bo.like.T, by have h1 := K7.out.bo.like.rel.len; have h2 := K7.out.bo.dm.ln_; omega⟩
              obtain ⟨T7, hT7e⟩ : ∃ T7, T7 = (d).T := ⟨_, rfl⟩
              have hbox7 := K7.out.box
              rw [← hT7e] at hbox7
              have z1 : (wr.alloc (.cells #[.int .i64 2, .int .i64 who, .int .i64 an] 33)).cell? ⟨bx, 1, none⟩ = some (.slice la ln lc) := hbox7.cell 1
              have z2 : (wr.alloc (.cells #[.int .i64 2, .int .i64 who, .int .i64 an] 33)).cell? ⟨bx, 2, none⟩ = some (.int .i64 T7) := hbox7.cell 2
              have z3 : (wr.alloc (.cells #[.int .i64 2, .int .i64 who, .int .i64 an] 33)).cell? ⟨s, 0, none⟩ = some (.pointer (some ⟨q, 0, none⟩)) := K7.out.bo.nw.sc.c0
              have hbx7 : bx < (wr.alloc (.cells #[.int .i64 2, .int .i64 who, .int .i64 an] 33)).heap.size := hbox7.lt
              have n1 : (T7 != T7) = false := by simp
              have n2 : ((ln : Int) != (ln : Int)) = false := by simp
              have HTK : ∀ nn, Hid (Calls Try.prog 13 #[.pointer (some ⟨s, 0, none⟩)] ((wr.alloc (.cells #[.int .i64 2, .int .i64 who, .int .i64 an] 33)).drewN nn) fun en w' => en = .returned (.int .i64 T7) ∧ (wr.alloc (.cells #[.int .i64 2, .int .i64 who, .int .i64 an] 33)).drewN nn = w') := fun nn => Lib.hid (by
                have h1 := tick_calls (K7.out.bo.nw.drewN nn).sc
                rw [← hT7.out.1, ← hT7e] at h1
                exact h1)
              have HQL : ∀ nn, Hid (Calls Try.prog 14 #[.pointer (some ⟨q, 0, none⟩)] ((wr.alloc (.cells #[.int .i64 2, .int .i64 who, .int .i64 an] 33)).drewN nn) fun en w' => en = .returned (.int .i64 ln) ∧ (wr.alloc (.cells #[.int .i64 2, .int .i64 who, .int .i64 an] 33)).drewN nn = w') := fun nn => Lib.hid (by
                have h1 := qs_len q r _ _ _ (K7.out.bo.nw.drewN nn).sc.qs
                rw [hT7.out.2] at h1
                exact h1)
              clear hbox7 hT7e hT7
              go_quiet (first | (refine Calls.quiet_of_same ((HTK _).out.mono fun _ _ h => ⟨h.1, h.2.symm⟩)) | (refine Calls.quiet_of_same ((HQL _).out.mono fun _ _ h => ⟨h.1, h.2.symm⟩)))
              go_wp2_with fail
              exact ⟨⟨j + 1, by rw [Int.natCast_add]; rfl, by omega, Lib.hid (by rw [HKK.out.1]; exact ⟨r, a, pa, pn, pc, la, ln, lc, d, K7.out.below ⟨rfl, rfl, rfl, Nat.le_refl _, fun _ _ => rfl⟩⟩)⟩, HME.out⟩
            · by_cases hwn : (n : Int) ≤ who
              · have HST := Lib.hid (set_out SU.out.bo.nw.sc who an (.inr (by rw [SU.out.len]; exact hwn)))
                go_wp2_with (first
                  | (go_at_call 10; refine HST.out.mono ?_; rintro en w3 ⟨rfl, rfl⟩)
                  | fail)
                have K7 : Hid (Lw w bx s q v n r a pa pn pc la ln lc d (K + 18) _) := Lib.hid ⟨Bo.more SU.out.bo (by omega), SU.out.box, SU.out.hw, SU.out.len⟩
                clear SU HST x0 x1 x2 x3 hbl cb0 cb1 cb2
                have hT7 : Hid (((d).T = (a).T) ∧ (a).S.length = ln) := Lib.hid ⟨K7.out.bo.like.T, by have h1 := K7.out.bo.like.rel.len; have h2 := K7.out.bo.dm.ln_; omega⟩
                obtain ⟨T7, hT7e⟩ : ∃ T7, T7 = (d).T := ⟨_, rfl⟩
                have hbox7 := K7.out.box
                rw [← hT7e] at hbox7
                have z1 : (wr.alloc (.cells #[.int .i64 2, .int .i64 who, .int .i64 an] 33)).cell? ⟨bx, 1, none⟩ = some (.slice la ln lc) := hbox7.cell 1
                have z2 : (wr.alloc (.cells #[.int .i64 2, .int .i64 who, .int .i64 an] 33)).cell? ⟨bx, 2, none⟩ = some (.int .i64 T7) := hbox7.cell 2
                have z3 : (wr.alloc (.cells #[.int .i64 2, .int .i64 who, .int .i64 an] 33)).cell? ⟨s, 0, none⟩ = some (.pointer (some ⟨q, 0, none⟩)) := K7.out.bo.nw.sc.c0
                have hbx7 : bx < (wr.alloc (.cells #[.int .i64 2, .int .i64 who, .int .i64 an] 33)).heap.size := hbox7.lt
                have n1 : (T7 != T7) = false := by simp
                have n2 : ((ln : Int) != (ln : Int)) = false := by simp
                have HTK : ∀ nn, Hid (Calls Try.prog 13 #[.pointer (some ⟨s, 0, none⟩)] ((wr.alloc (.cells #[.int .i64 2, .int .i64 who, .int .i64 an] 33)).drewN nn) fun en w' => en = .returned (.int .i64 T7) ∧ (wr.alloc (.cells #[.int .i64 2, .int .i64 who, .int .i64 an] 33)).drewN nn = w') := fun nn => Lib.hid (by
                  have h1 := tick_calls (K7.out.bo.nw.drewN nn).sc
                  rw [← hT7.out.1, ← hT7e] at h1
                  exact h1)
                have HQL : ∀ nn, Hid (Calls Try.prog 14 #[.pointer (some ⟨q, 0, none⟩)] ((wr.alloc (.cells #[.int .i64 2, .int .i64 who, .int .i64 an] 33)).drewN nn) fun en w' => en = .returned (.int .i64 ln) ∧ (wr.alloc (.cells #[.int .i64 2, .int .i64 who, .int .i64 an] 33)).drewN nn = w') := fun nn => Lib.hid (by
                  have h1 := qs_len q r _ _ _ (K7.out.bo.nw.drewN nn).sc.qs
                  rw [hT7.out.2] at h1
                  exact h1)
                clear hbox7 hT7e hT7
                go_quiet (first | (refine Calls.quiet_of_same ((HTK _).out.mono fun _ _ h => ⟨h.1, h.2.symm⟩)) | (refine Calls.quiet_of_same ((HQL _).out.mono fun _ _ h => ⟨h.1, h.2.symm⟩)))
                go_wp2_with fail
                exact ⟨⟨j + 1, by rw [Int.natCast_add]; rfl, by omega, Lib.hid (by rw [HKK.out.1]; exact ⟨r, a, pa, pn, pc, la, ln, lc, d, K7.out.below ⟨rfl, rfl, rfl, Nat.le_refl _, fun _ _ => rfl⟩⟩)⟩, HME.out⟩
              · obtain ⟨i, rfl⟩ : ∃ i : Nat, who = i := ⟨who.toNat, by omega⟩
                have hil : i < a.P.length := by rw [SU.out.len]; omega
                have HIL := Lib.hid hil
                have HST := Lib.hid (SU.out.bo.nw.set_in SU.out.bo.inv (by have := HKK.out; omega) i hil an)
                clear hil
                go_wp2_with (first
                  | (go_at_call 10; refine HST.out.mono ?_; rintro en w3 ⟨rfl, r3, n3, rr3, t3'⟩
                     have t3 := t3'.more (F := fun j => v.ownBlock = some j ∨ j = s ∨ j = q ∨ r = some j) (fun _ _ e => e.elim .inl (fun e => .inr (.inr e)))
                     have hd3 := SU.out.bo.nw.keeps SU.out.bo.dm SU.out.bo.ap t3
                     (have K3 : Hid (Nw w s q r3 v (setP a i an) w3 ∧ Has w3 bx 30 (dsC pa pn pc la ln lc T cc)) := Lib.hid ⟨n3, by rw [HT.out.1, HT.out.2]; exact SU.out.bo.nw.box SU.out.box t3⟩)
                     have y0 : w3.cell? ⟨bx, 0, none⟩ = some (.slice pa pn pc) := K3.out.2.cell 0
                     have y1 : w3.cell? ⟨bx, 1, none⟩ = some (.slice la ln lc) := K3.out.2.cell 1
                     have y2 : w3.cell? ⟨bx, 2, none⟩ = some (.int .i64 T) := K3.out.2.cell 2
                     have y3 : w3.cell? ⟨bx, 3, none⟩ = some (.int .i64 cc) := K3.out.2.cell 3
                     have hab3 : w3.cell? ⟨wr.heap.size, 1, none⟩ = some (.int .i64 i) := (t3.cell (by simp) (HSB.out.fresh (Nat.le_refl _))).trans ((Has.made wr 33 #[.int .i64 2, .int .i64 i, .int .i64 an]).cell 1)
                     have hac3 : w3.cell? ⟨wr.heap.size, 2, none⟩ = some (.int .i64 an) := (t3.cell (by simp) (HSB.out.fresh (Nat.le_refl _))).trans ((Has.made wr 33 #[.int .i64 2, .int .i64 i, .int .i64 an]).cell 2)
                     have hds := hd3.set i (by rw [SU.out.bo.like.P]; exact HIL.out) an (by rw [SU.out.bo.like.T]; exact SU.out.bo.inv.t0) (by rw [SU.out.bo.like.T]; have := SU.out.bo.inv.tk; have := HKK.out; omega) SU.out.bo.c0 (by have := SU.out.bo.ck; have := HKK.out; omega) (by have := SU.out.bo.inv.few_due (by have := HKK.out; omega) SU.out.bo.like; omega) (by have := SU.out.bo.inv.few; rw [SU.out.bo.like.P]; omega)
                     rw [← HT.out.1, ← HT.out.2] at hds
                     have HDS := Lib.hid hds
                     clear n3 rr3 t3 t3' hd3 hds x0 x1 x2 x3)
                  | (go_at_call 11; refine HDS.out.mono ?_
                     rintro en w4 ⟨pa4, pn4, pc4, la4, ln4, lc4, rfl, hd4, b4, lo4⟩
                     (have K4 : Hid (Dm w4 pa4 pn4 pc4 la4 ln4 lc4 (setD d i an) ∧ Nw w s q r3 v (setP a i an) w4 ∧ Has w4 bx 30 (dsC pa pn pc la ln lc T cc) ∧ (∀ b, (Value.slice pa4 pn4 pc4).ownBlock = some b → v.ownBlock ≠ some b)) := Lib.hid ⟨hd4, K3.out.1.below b4, K3.out.2.below b4 K3.out.2.lt, fun b hb e => by have h1 := lo4 b hb; have h2 := own_lt K3.out.1.sc.pac e; omega⟩)
                     clear hd4 b4 lo4 K3 y0 y1 y2 y3 hab3 hac3)
                  | ((with_reducible refine at_store (.tmp 6) ?_); refine wpList_store_ds (o := ⟨none, _, _, _, _, _⟩) rfl _ _ rfl bx rfl rfl K4.out.2.2.1 (by simp [Value.oneCell']) ?_; intro W7 h7 t7)
                  | fail)
                have K7 : Hid (Lw w bx s q v n r3 (setP a i an) pa4 pn4 pc4 la4 ln4 lc4 (setD d i an) (K + 18) W7) := Lib.hid (by
                  obtain ⟨i1, i2, i3⟩ := SU.out.bo.inv.setP an HIL.out
                  have hl2 : (setP a i an).P.length = a.P.length := by rw [i2, List.length_set]
                  have hcd : (setD d i an).c = d.c + 1 := by unfold setD sch.due; split <;> rfl
                  have hc0 := SU.out.bo.c0
                  have hck := SU.out.bo.ck
                  have hbo : Bo w s q r3 v (setP a i an) pa4 pn4 pc4 la4 ln4 lc4 (setD d i an) (K + 1) w4 := ⟨K4.out.2.1, K4.out.1, SU.out.bo.like.setP SU.out.bo.inv i an, by rw [hl2]; exact i1, by omega, by omega, K4.out.2.2.2⟩
                  exact ⟨Bo.more (hbo.boxed K4.out.2.2.1 SU.out.hw t7) (by omega), h7, SU.out.hw, by rw [hl2]; exact SU.out.len⟩)
                clear h7 t7 K4 SU HST HDS hbl cb0 cb1 cb2
                have hT7 : Hid (((setD d i an).T = (setP a i an).T) ∧ (setP a i an).S.length = ln4) := Lib.hid ⟨K7.out.bo.like.T, by have h1 := K7.out.bo.like.rel.len; have h2 := K7.out.bo.dm.ln_; omega⟩
                obtain ⟨T7, hT7e⟩ : ∃ T7, T7 = (setD d i an).T := ⟨_, rfl⟩
                have hbox7 := K7.out.box
                rw [← hT7e] at hbox7
                have z1 : W7.cell? ⟨bx, 1, none⟩ = some (.slice la4 ln4 lc4) := hbox7.cell 1
                have z2 : W7.cell? ⟨bx, 2, none⟩ = some (.int .i64 T7) := hbox7.cell 2
                have z3 : W7.cell? ⟨s, 0, none⟩ = some (.pointer (some ⟨q, 0, none⟩)) := K7.out.bo.nw.sc.c0
                have hbx7 : bx < W7.heap.size := hbox7.lt
                have n1 : (T7 != T7) = false := by simp
                have n2 : ((ln4 : Int) != (ln4 : Int)) = false := by simp
                have HTK : ∀ nn, Hid (Calls Try.prog 13 #[.pointer (some ⟨s, 0, none⟩)] (W7.drewN nn) fun en w' => en = .returned (.int .i64 T7) ∧ W7.drewN nn = w') := fun nn => Lib.hid (by
                  have h1 := tick_calls (K7.out.bo.nw.drewN nn).sc
                  rw [← hT7.out.1, ← hT7e] at h1
                  exact h1)
                have HQL : ∀ nn, Hid (Calls Try.prog 14 #[.pointer (some ⟨q, 0, none⟩)] (W7.drewN nn) fun en w' => en = .returned (.int .i64 ln4) ∧ W7.drewN nn = w') := fun nn => Lib.hid (by
                  have h1 := qs_len q r3 _ _ _ (K7.out.bo.nw.drewN nn).sc.qs
                  rw [hT7.out.2] at h1
                  exact h1)
                clear hbox7 hT7e hT7
                go_quiet (first | (refine Calls.quiet_of_same ((HTK _).out.mono fun _ _ h => ⟨h.1, h.2.symm⟩)) | (refine Calls.quiet_of_same ((HQL _).out.mono fun _ _ h => ⟨h.1, h.2.symm⟩)))
                go_wp2_with fail
                exact ⟨⟨j + 1, by rw [Int.natCast_add]; rfl, by omega, Lib.hid (by rw [HKK.out.1]; exact ⟨r3, setP a i an, pa4, pn4, pc4, la4, ln4, lc4, setD d i an, K7.out.below ⟨rfl, rfl, rfl, Nat.le_refl _, fun _ _ => rfl⟩⟩)⟩, HME.out⟩
          · have e2 : (kd == 2) = false := by simpa using k2
            by_cases k3 : kd = 3
            · subst k3
              obtain ⟨a3, d3, hlen3, hp⟩ := lpicks_calls SU.out.bo (by have := HKK.out; omega) HKK.out.2.1 an
              rw [← HT.out.1, ← HT.out.2] at hp
              have HPK := Lib.hid hp
              have HL3 := Lib.hid hlen3
              clear hp hlen3
              go_wp2_with (first
                | (go_at_call 12; refine HPK.out.mono ?_; rintro en w3 ⟨r3, la3, ln3, lc3, rfl, bo3, t3⟩
                   (have K3 : Hid (Bo w s q r3 v a3 pa pn pc la3 ln3 lc3 d3 (K + 18) w3 ∧ Has w3 bx 30 (dsC pa pn pc la ln lc d.T d.c) ∧ a3.P.length = a.P.length) := Lib.hid ⟨bo3, SU.out.bo.nw.box SU.out.box t3, HL3.out⟩)
                   (clear bo3 t3))
                | ((with_reducible refine at_store (.tmp 6) ?_); refine wpList_store_ds (o := ⟨none, _, _, _, _, _⟩) rfl _ _ rfl bx rfl rfl K3.out.2.1 (by simp [Value.oneCell']) ?_; intro W7 h7 t7)
                | fail)
              have K7 : Hid (Lw w bx s q v n r3 a3 pa pn pc la3 ln3 lc3 d3 (K + 18) W7) := Lib.hid ⟨K3.out.1.boxed K3.out.2.1 SU.out.hw t7, h7, SU.out.hw, by rw [K3.out.2.2]; exact SU.out.len⟩
              clear h7 t7 K3 SU HPK x0 x1 x2 x3 hbl cb0 cb1 cb2
              have hT7 : Hid (((d3).T = (a3).T) ∧ (a3).S.length = ln3) := Lib.hid ⟨K7.out.bo.like.T, by have h1 := K7.out.bo.like.rel.len; have h2 := K7.out.bo.dm.ln_; omega⟩
              obtain ⟨T7, hT7e⟩ : ∃ T7, T7 = (d3).T := ⟨_, rfl⟩
              have hbox7 := K7.out.box
              rw [← hT7e] at hbox7
              have z1 : W7.cell? ⟨bx, 1, none⟩ = some (.slice la3 ln3 lc3) := hbox7.cell 1
              have z2 : W7.cell? ⟨bx, 2, none⟩ = some (.int .i64 T7) := hbox7.cell 2
              have z3 : W7.cell? ⟨s, 0, none⟩ = some (.pointer (some ⟨q, 0, none⟩)) := K7.out.bo.nw.sc.c0
              have hbx7 : bx < W7.heap.size := hbox7.lt
              have n1 : (T7 != T7) = false := by simp
              have n2 : ((ln3 : Int) != (ln3 : Int)) = false := by simp
              have HTK : ∀ nn, Hid (Calls Try.prog 13 #[.pointer (some ⟨s, 0, none⟩)] (W7.drewN nn) fun en w' => en = .returned (.int .i64 T7) ∧ W7.drewN nn = w') := fun nn => Lib.hid (by
                have h1 := tick_calls (K7.out.bo.nw.drewN nn).sc
                rw [← hT7.out.1, ← hT7e] at h1
                exact h1)
              have HQL : ∀ nn, Hid (Calls Try.prog 14 #[.pointer (some ⟨q, 0, none⟩)] (W7.drewN nn) fun en w' => en = .returned (.int .i64 ln3) ∧ W7.drewN nn = w') := fun nn => Lib.hid (by
                have h1 := qs_len q r3 _ _ _ (K7.out.bo.nw.drewN nn).sc.qs
                rw [hT7.out.2] at h1
                exact h1)
              clear hbox7 hT7e hT7
              go_quiet (first | (refine Calls.quiet_of_same ((HTK _).out.mono fun _ _ h => ⟨h.1, h.2.symm⟩)) | (refine Calls.quiet_of_same ((HQL _).out.mono fun _ _ h => ⟨h.1, h.2.symm⟩)))
              go_wp2_with fail
              exact ⟨⟨j + 1, by rw [Int.natCast_add]; rfl, by omega, Lib.hid (by rw [HKK.out.1]; exact ⟨r3, a3, pa, pn, pc, la3, ln3, lc3, d3, K7.out.below ⟨rfl, rfl, rfl, Nat.le_refl _, fun _ _ => rfl⟩⟩)⟩, HME.out⟩
            · have e3 : (kd == 3) = false := by simpa using k3
              go_wp2_with fail
              have K7 : Hid (Lw w bx s q v n r a pa pn pc la ln lc d (K + 18) _) := Lib.hid ⟨Bo.more SU.out.bo (by omega), SU.out.box, SU.out.hw, SU.out.len⟩
              clear SU x0 x1 x2 x3 hbl cb0 cb1 cb2
              have hT7 : Hid (((d).T = (a).T) ∧ (a).S.length = ln) := Lib.hid ⟨K7.out.bo.like.T, by have h1 := K7.out.bo.like.rel.len; have h2 := K7.out.bo.dm.ln_; omega⟩
              obtain ⟨T7, hT7e⟩ : ∃ T7, T7 = (d).T := ⟨_, rfl⟩
              have hbox7 := K7.out.box
              rw [← hT7e] at hbox7
              have z1 : (wr.alloc (.cells #[.int .i64 kd, .int .i64 who, .int .i64 an] 33)).cell? ⟨bx, 1, none⟩ = some (.slice la ln lc) := hbox7.cell 1
              have z2 : (wr.alloc (.cells #[.int .i64 kd, .int .i64 who, .int .i64 an] 33)).cell? ⟨bx, 2, none⟩ = some (.int .i64 T7) := hbox7.cell 2
              have z3 : (wr.alloc (.cells #[.int .i64 kd, .int .i64 who, .int .i64 an] 33)).cell? ⟨s, 0, none⟩ = some (.pointer (some ⟨q, 0, none⟩)) := K7.out.bo.nw.sc.c0
              have hbx7 : bx < (wr.alloc (.cells #[.int .i64 kd, .int .i64 who, .int .i64 an] 33)).heap.size := hbox7.lt
              have n1 : (T7 != T7) = false := by simp
              have n2 : ((ln : Int) != (ln : Int)) = false := by simp
              have HTK : ∀ nn, Hid (Calls Try.prog 13 #[.pointer (some ⟨s, 0, none⟩)] ((wr.alloc (.cells #[.int .i64 kd, .int .i64 who, .int .i64 an] 33)).drewN nn) fun en w' => en = .returned (.int .i64 T7) ∧ (wr.alloc (.cells #[.int .i64 kd, .int .i64 who, .int .i64 an] 33)).drewN nn = w') := fun nn => Lib.hid (by
                have h1 := tick_calls (K7.out.bo.nw.drewN nn).sc
                rw [← hT7.out.1, ← hT7e] at h1
                exact h1)
              have HQL : ∀ nn, Hid (Calls Try.prog 14 #[.pointer (some ⟨q, 0, none⟩)] ((wr.alloc (.cells #[.int .i64 kd, .int .i64 who, .int .i64 an] 33)).drewN nn) fun en w' => en = .returned (.int .i64 ln) ∧ (wr.alloc (.cells #[.int .i64 kd, .int .i64 who, .int .i64 an] 33)).drewN nn = w') := fun nn => Lib.hid (by
                have h1 := qs_len q r _ _ _ (K7.out.bo.nw.drewN nn).sc.qs
                rw [hT7.out.2] at h1
                exact h1)
              clear hbox7 hT7e hT7
              go_quiet (first | (refine Calls.quiet_of_same ((HTK _).out.mono fun _ _ h => ⟨h.1, h.2.symm⟩)) | (refine Calls.quiet_of_same ((HQL _).out.mono fun _ _ h => ⟨h.1, h.2.symm⟩)))
              go_wp2_with fail
              exact ⟨⟨j + 1, by rw [Int.natCast_add]; rfl, by omega, Lib.hid (by rw [HKK.out.1]; exact ⟨r, a, pa, pn, pc, la, ln, lc, d, K7.out.below ⟨rfl, rfl, rfl, Nat.le_refl _, fun _ _ => rfl⟩⟩)⟩, HME.out⟩
      · have j2 : ¬ (j : Int) < 60 := by omega
        go_wp2_with fail
        go_ret
        exact ⟨rfl, HS.out.bo.nw.ends⟩
    · have j1 : ¬ (j : Int) < (lenA : Int) := by omega
      go_wp2_with fail
      go_ret
      exact ⟨rfl, HS.out.bo.nw.ends⟩

def Arg0 (w : World) (a : Option Addr) (len cap : Nat) : Prop := ∃ T, ArgI w a len cap T
def Arg1 (w : World) (a : Option Addr) (len _cap : Nat) : Prop := ∃ T, ArgA w a len T

theorem walk (a0 : Option Addr) (len0 cap0 : Nat) (a1 : Option Addr) (len1 cap1 : Nat) (w : World) (w0 : Arg0 w a0 len0 cap0) (w1 : Arg1 w a1 len1 cap1) :
    Calls Try.prog 3 #[.slice a0 len0 cap0, .slice a1 len1 cap1] w fun en w' => en = .returned (.bool true) ∧ Below w.heap.size w w' := by
  obtain ⟨T, hT⟩ := w0
  obtain ⟨X, hX⟩ := w1
  exact plays_any a0 len0 cap0 T a1 len1 cap1 X w hT hX

theorem opened0 {H : Type} {enc : TypeId × Value → H} {w : World} {spare : Nat → Bool} {held : Bool} {a : Option Addr} {len cap : Nat} {d : DataW H} {p : List MemPlace} (h : DataW.Trod enc Try.prog w 0 spare held 22 (.slice a len cap) d p) : Arg0 w a len cap := openedI h
theorem opened1 {H : Type} {enc : TypeId × Value → H} {w : World} {spare : Nat → Bool} {held : Bool} {a : Option Addr} {len cap : Nat} {d : DataW H} {p : List MemPlace} (h : DataW.Trod enc Try.prog w 0 spare held 23 (.slice a len cap) d p) : Arg1 w a len cap := openedA h

theorem own : ownKnob Try.prog.godebug = none := by kernel_rfl
theorem laidOut : laidOutB Try.prog = true := by kernel_rfl

set_option maxRecDepth 100000 in
theorem lifted (os : Os) (started : os.Started) (H : Type) (enc : TypeId × Value → H) :
    ReturnsInHanded {} Try.checked os 3 .any (Rows.schedPlaysSpec.pre6 enc Try.prog Try.f3 Rows.schedPlaysRow.domain false) (Rows.schedPlaysSpec.post enc Try.prog Try.f3 false true false false) := by
  refine returnsInHanded_of_change (C := Try.checked) own started (by kernel_rfl) Try.func3
    (ChangeSpec.witness6 (enc := enc) (C := Try.checked) false ⟨#[], #[.slice none 0 0, .slice none 0 0], []⟩ 8 (by kernel_rfl) (by kernel_rfl) (by kernel_rfl) (by kernel_rfl)) ?_
  intro W base args ds gs before hval0 hW _ _
  have hval : ∀ (j : Nat) t v, Try.f3.params[j]? = some t → args[j]? = some v → Value.okWide Try.prog W .any base t v := hval0
  have hW' := hW
  obtain ⟨p, q, hA0, hV, rfl, _, _⟩ := hW
  have hA : DataW.TrodAll enc Try.prog W 0 (fun _ => true) true Try.f3.params.toList args.toList ds p := hA0
  rw [Try.params3] at hA hval
  obtain ⟨v0, vs0, d0, ds0, p0, q0, hargs, rfl, rfl, h0, r0⟩ := trodAll_cons hA
  obtain ⟨v1, vs1, d1, ds1, p1, q1, rfl, rfl, rfl, h1, r1⟩ := trodAll_cons r0
  obtain ⟨rfl, rfl, rfl⟩ := trodAll_nil r1
  obtain rfl : args = #[v0, v1] := by cases args; simp_all
  obtain ⟨rfl, rfl⟩ := trodVars_none hV
  obtain ⟨a0, len0, cap0, rfl⟩ := okWide_slice Try.underlying22 (hval 0 22 v0 rfl rfl)
  have k0 := h0
  have lt0 : ∀ x ∈ p0, x.block < W.heap.size := by obtain ⟨m, hm⟩ := k0; exact DataW.trod_lt m _ _ _ hm
  have w0 : Arg0 W a0 len0 cap0 := opened0 h0
  obtain ⟨a1, len1, cap1, rfl⟩ := okWide_slice Try.underlying23 (hval 1 23 v1 rfl rfl)
  have k1 := h1
  have lt1 : ∀ x ∈ p1, x.block < W.heap.size := by obtain ⟨m, hm⟩ := k1; exact DataW.trod_lt m _ _ _ hm
  have w1 : Arg1 W a1 len1 cap1 := opened1 h1
  clear hA0 hval0
  refine (walk a0 len0 cap0 a1 len1 cap1 W w0 w1).mono fun e W' ⟨he, bel⟩ => ?_
  subst he
  exact ⟨_, rfl, _, _, _, [], _, [], hW', trodAll_mk1 (shut_bool Try.underlying4 _), (trodAll_cons_mk (Below.trod laidOut (by kernel_rfl) (of_decide_eq_true (by kernel_rfl)) k0 bel lt0) (trodAll_cons_mk (Below.trod laidOut (by kernel_rfl) (of_decide_eq_true (by kernel_rfl)) k1 bel lt1) trodAll_mk0)), rfl, bel.frame _, fun h => by cases h⟩

theorem over : Rows.schedPlaysRow.holds Try.pinned (OpenSpec.ofChange Rows.schedPlaysSpec) :=
  OpenClaim.holds_of_wide 3 Try.f3 rfl rfl rfl rfl rfl rfl rfl ⟨rfl, rfl, rfl, rfl, rfl⟩ rfl rfl rfl rfl rfl (by kernel_rfl) Try.func3 (by kernel_rfl)
    (of_decide_eq_true (by kernel_rfl)) (by unfold Func.isWrapper; first | (rw [if_pos (by decide +kernel)]; kernel_rfl) | (rw [if_neg (by decide +kernel)]; exact ⟨rfl, rfl⟩))
    (fun os started H enc _ => lifted os started H enc)

theorem proved : Rows.SchedPlaysSaid := over

end Go.Proofs.Ytbpnbnbglfiglaa.schedPlays
