/- the document's digest: a block is taken in. -/
import Derived.Test.YtiogjmlkogeibaaDoorDigP
namespace Go.Proofs.YtiogjmlkogeibaaDoor.dig
open Go Go.RowKit

/-- Words lie behind a slice, in a block below B. -/
def Lies (w : World) (B : Nat) (g n : Nat) (l : List Int) : Prop := g < B ∧ l.length = n ∧ ∀ j x, l[j]? = some x → w.cell? ⟨g, j, none⟩ = some (.int .u32 x)
theorem Lies.below {w w' : World} {B B' g n : Nat} {l : List Int} (h : Lies w B g n l) (b : Below B' w w') (hB : B ≤ B') : Lies w' B g n l :=
  ⟨h.1, h.2.1, fun j x hx => by
    rw [← h.2.2 j x hx]
    unfold World.cell?
    rw [b.block g (Nat.lt_of_lt_of_le h.1 hB)]⟩

theorem Row.set {w : World} {base g n cap : Nat} {l : List Int} (h : Row w base (.slice (some ⟨g, 0, none⟩) n cap) l) (i : Nat) (x : Int) : Row (w.setCell ⟨g, i, none⟩ (.int .u32 x)) base (.slice (some ⟨g, 0, none⟩) n cap) (l.set i x) := by
  obtain ⟨h1, h2⟩ := h
  refine ⟨by simp, .inr ?_⟩
  rcases h2 with ⟨e, _⟩ | ⟨g', cap', cur, e1, e2, e3, e4, e5, e6, e7⟩
  · cases e
  · injection e1 with a1 a2 a3
    injection a1 with a1
    injection a1 with a1
    subst a1
    have hh : Has w g 87 cur := e3
    refine ⟨g, cap', cur.setIfInBounds i (.int .u32 x), by rw [List.length_set, a2, a3], e2, hh.put i _, by rw [List.length_set]; exact e4, e5, by simpa using e6, ?_⟩
    rw [List.length_set, List.map_set, ← e7, Array.toList_setIfInBounds, List.take_set]
    rfl

theorem Row.weak {w : World} {base base' : Nat} {v : Value} {l : List Int} (h : Row w base v l) (hb : base' ≤ base) : Row w base' v l :=
  ⟨h.1, h.2.imp id (fun ⟨g, cap, cur, e1, e2, e3⟩ => ⟨g, cap, cur, e1, Nat.le_trans hb e2, e3⟩)⟩
theorem Row.cur {w : World} {base g n cap : Nat} {l : List Int} (h : Row w base (.slice (some ⟨g, 0, none⟩) n cap) l) : ∃ cur, Has w g 87 cur ∧ cur.toList.take l.length = l.map wordV := by
  rcases h.2 with ⟨e, _⟩ | ⟨g', cap', cur, e1, e2, e3, e4, e5, e6, e7⟩
  · cases e
  · injection e1 with a1 a2 a3
    injection a1 with a1
    injection a1 with a1
    subst a1
    exact ⟨cur, e3, by rw [Nat.mul_one] at e7; exact e7⟩
theorem Row.free {w : World} {base g n cap : Nat} {l : List Int} (h : Row w base (.slice (some ⟨g, 0, none⟩) n cap) l) (i : Nat) : w.frozen? ⟨g, i, none⟩ = false := by
  obtain ⟨cur, h1, _⟩ := h.cur
  exact h1.free i
theorem Row.at {w : World} {base g n cap : Nat} {l : List Int} (h : Row w base (.slice (some ⟨g, 0, none⟩) n cap) l) (i : Nat) (x : Int) (hx : l[i]? = some x) : w.cell? ⟨g, i, none⟩ = some (.int .u32 x) := by
  obtain ⟨cur, h1, h2⟩ := h.cur
  have hi : i < l.length := (List.getElem?_eq_some_iff.1 hx).1
  rw [h1.cell, ← Array.getElem?_toList, ← List.getElem?_take_of_lt (j := l.length) hi, h2, List.getElem?_map, hx]
  rfl
theorem plus_comm (o p : Oct) : o.plus p = p.plus o := by
  unfold Oct.plus ad
  simp only [Int.add_comm]
theorem xa_eq (o : Oct) (k w : Int) : (o.h + bits .xor .u32 (bits .and .u32 o.e o.f) (bits .and .u32 (bits .xor .u32 4294967295 o.e) o.g) + k + w + bits .xor .u32 (bits .xor .u32 (rot 6 o.e) (rot 11 o.e)) (rot 25 o.e) + (bits .xor .u32 (bits .xor .u32 (bits .and .u32 o.a o.b) (bits .and .u32 o.a o.c)) (bits .and .u32 o.b o.c) + bits .xor .u32 (bits .xor .u32 (rot 2 o.a) (rot 13 o.a)) (rot 22 o.a))) % 4294967296 = ad (xOf o k w) (yOf o) := by
  rw [← xOf_eq, ← yOf_eq]
  unfold ad
  omega
theorem xe_eq (o : Oct) (k w : Int) : (o.d + (o.h + bits .xor .u32 (bits .and .u32 o.e o.f) (bits .and .u32 (bits .xor .u32 4294967295 o.e) o.g) + k + w + bits .xor .u32 (bits .xor .u32 (rot 6 o.e) (rot 11 o.e)) (rot 25 o.e))) % 4294967296 = ad o.d (xOf o k w) := by
  rw [← xOf_eq]
  unfold ad
  omega
theorem code_named {P : Program} {c : Code} {Q : Exit → Act → World → Prop} {a : Act} {w : World} (h : ∀ W, w = W → c.wp P Q a W) : c.wp P Q a w := h w rfl
theorem comp_list (o : Oct) (xs : List UInt8) : (comp o xs).list = added o (rounds o (spreadL xs) 64) 8 := rfl

set_option maxRecDepth 100000 in
set_option maxHeartbeats 2000000 in
theorem rblock_calls (o : Oct) (b c : Nat) (s : ByteArray) (hs : s.size = 64) (hW : o.W) (w : World) (hv : Lies w w.heap.size b 8 o.list) :
    Calls Tryd.prog 43 #[.slice (some ⟨b, 0, none⟩) 8 c, .string s] w fun en w' => ∃ v, en = .returned v ∧ Row w' w.heap.size v (comp o s.data.toList).list ∧ Below w.heap.size w w' := by
  have HW := Lib.hid hW
  have HV := Lib.hid hv
  have HS := Lib.hid hs
  obtain ⟨i0, hi0, e⟩ := Option.map_eq_some_iff.1 u32Info
  simp only [Prod.mk.injEq] at e
  obtain ⟨hz0, hz1, hz2⟩ := e
  have HI := Lib.hid hi0
  have HZ0 := Lib.hid hz0
  have HZ1 := Lib.hid hz1
  have HZ2 := Lib.hid hz2
  clear hi0 hz0 hz1 hz2 hs hW hv
  go_enter Tryd.func43, Tryd.ntmps43
  go_wp2_with fail
  refine (rkeys_calls w).mono ?_
  rintro en w1 ⟨rfl, hk, b1⟩
  have K1 : Hid (Lies w1 w1.heap.size w.heap.size 64 keys ∧ Below w.heap.size w w1) := Lib.hid ⟨⟨hk.lt, rfl, fun j x hx => by rw [hk.cell]; exact wordsOf_at _ _ _ hx⟩, b1⟩
  clear hk b1
  go_wp2_with fail
  refine (rspread_calls s HS.out w1).mono ?_
  rintro en w2 ⟨v2, rfl, hr2, b2⟩
  obtain ⟨gs, cs, rfl, hc2⟩ := Row.cells hr2 (by rw [spreadL_length]; omega)
  have K2 : Hid (Lies w2 w2.heap.size w.heap.size 64 keys ∧ Lies w2 w2.heap.size gs 64 (spreadL s.data.toList) ∧ Lies w2 w2.heap.size b 8 o.list ∧ Below w.heap.size w w2) := by
    refine Lib.hid ⟨?_, ⟨?_, spreadL_length _, hc2⟩, ?_, K1.out.2.trans (b2.mono K1.out.2.size)⟩
    · obtain ⟨a1, a2, a3⟩ := K1.out.1.below b2 (Nat.le_refl _)
      exact ⟨Nat.lt_of_lt_of_le a1 b2.size, a2, a3⟩
    · exact own_lt (b := gs) ⟨hr2.1, hr2.2.imp id (fun ⟨g, cap, cur, e1, _, e3⟩ => ⟨g, cap, cur, e1, Nat.zero_le _, e3⟩)⟩ rfl
    · obtain ⟨a1, a2, a3⟩ := (HV.out.below K1.out.2 (Nat.le_refl _)).below b2 K1.out.2.size
      exact ⟨Nat.lt_of_lt_of_le a1 (Nat.le_trans K1.out.2.size b2.size), a2, a3⟩
  rw [spreadL_length]
  clear hr2 hc2 b2 K1
  have hnews : ∀ j u, (o.list.map wordV)[j]? = some u → (w2.alloc (.cells #[] 87)).cell? ((⟨b, 0, none⟩ : Addr).add j) = some u := by
    intro j u hu
    rw [List.getElem?_map] at hu
    cases hq : o.list[j]? with
    | none => rw [hq] at hu; cases hu
    | some x =>
      rw [hq] at hu
      injection hu with hu
      rw [← hu, Addr.add_mid, Nat.zero_add]
      have h1 := K2.out.2.2.1
      have h2 := (h1.below ((Below.refl w2.heap.size w2).alloc (Nat.le_refl _) (.cells #[] 87)) (Nat.le_refl _)).2.2 j x hq
      exact h2
  have HNW := Lib.hid hnews
  clear hnews
  go_wp2_with (at_builtin; refine wpList_append_own _ rfl (.tmp 17) (.tmp 18) 88 rfl w2.heap.size 87 i0 (.int .u32 0) 1 4 Tryd.underlying88 HI.out HZ0.out HZ1.out HZ2.out rfl (by decide) (.slice (some ⟨w2.heap.size, 0, none⟩) 0 0) 0 [] rfl ⟨rfl, .inr ⟨w2.heap.size, 0, _, rfl, Nat.le_refl _, made_at _ _ rfl, Nat.le_refl _, by unfold maxLen; omega, rfl, rfl⟩⟩ ⟨b, 0, none⟩ 8 c (o.list.map wordV) rfl rfl HNW.out (by simp [wordV, Value.oneCell', Oct.list]) (by unfold maxLen; omega) (by omega) (by simp) ?_)
  intro t w3 hown hgr _
  have K3 : Hid (Row w3 w2.heap.size t o.list ∧ Below w2.heap.size w2 w3 ∧ w2.heap.size ≤ w3.heap.size) := by
    have hb1 := (Below.refl w2.heap.size w2).alloc (Nat.le_refl _) (.cells #[] 87)
    refine Lib.hid ⟨hown, hb1.trans ⟨hgr.os, hgr.tape, hgr.output, hgr.size, fun j hj => hgr.block j (by simp; omega) (fun e => by injection e with e; exact Nat.lt_irrefl _ (e ▸ hj))⟩, by have := hgr.size; simp at this; omega⟩
  clear hown hgr HNW
  generalize hB0 : w2.heap.size = B0 at *
  have HB0 := Lib.hid hB0
  clear hB0
  go_wp2_with fail
  go_loopw [7, 8] (fun t i wr => ∃ (k : Nat) (r : Oct), i = .int .i64 k ∧ k ≤ 64 ∧ Hid (r = rounds o (spreadL s.data.toList) k) ∧ Hid (Row wr B0 t r.list ∧ Below B0 w2 wr ∧ B0 ≤ wr.heap.size)) (fun _ i _ => 64 - (intOf i).toNat)
  case atStart => exact ⟨0, o, rfl, by omega, rfl, K3⟩
  case round =>
    obtain ⟨k, r, rfl, hk, hr, HR⟩ := hrel
    clear K3
    have hrW : r.W := by rw [hr.out]; exact W_rounds _ _ HW.out _
    have HE := Lib.hid (hrW r.e (by simp [Oct.list]))
    have HA := Lib.hid (hrW r.a (by simp [Oct.list]))
    clear hrW
    obtain ⟨g, cap, rfl, hcell⟩ := Row.cells HR.out.1 (by rw [Oct.list_length]; omega)
    by_cases h64 : k < 64
    · have hk1 : (k : Int) < 64 := by omega
      have hk0 : (0 : Int) ≤ (k : Int) := by omega
      have hkey : keys[k]? = some (keys.getD k 0) := by
        rw [List.getD_eq_getElem?_getD, List.getElem?_eq_getElem (show k < keys.length from h64), Option.getD_some]
      have ck : wr.cell? ⟨w.heap.size, k, none⟩ = some (.int .u32 (keys.getD k 0)) := (K2.out.1.below HR.out.2.1 (Nat.le_refl _)).2.2 k _ hkey
      have cw : wr.cell? ⟨gs, k, none⟩ = some (.int .u32 (wordAt s.data.toList k)) := (K2.out.2.1.below HR.out.2.1 (Nat.le_refl _)).2.2 k _ (spread_at _ _ h64)
      have HR1 : Hid (round r (keys.getD k 0) (wordAt s.data.toList k) = rounds o (spreadL s.data.toList) (k + 1)) := by
        show _ = _
        rw [rounds, ← hr.out]
        rfl
      generalize keys.getD k 0 = key at *
      generalize wordAt s.data.toList k = word at *
      obtain ⟨ra, rb, rc, rd, re, rf, rg, rh⟩ := r
      have z0 : wr.cell? ⟨g, 0, none⟩ = some (.int .u32 ra) := hcell 0 _ rfl
      have z1 : wr.cell? ⟨g, 1, none⟩ = some (.int .u32 rb) := hcell 1 _ rfl
      have z2 : wr.cell? ⟨g, 2, none⟩ = some (.int .u32 rc) := hcell 2 _ rfl
      have z3 : wr.cell? ⟨g, 3, none⟩ = some (.int .u32 rd) := hcell 3 _ rfl
      have z4 : wr.cell? ⟨g, 4, none⟩ = some (.int .u32 re) := hcell 4 _ rfl
      have z5 : wr.cell? ⟨g, 5, none⟩ = some (.int .u32 rf) := hcell 5 _ rfl
      have z6 : wr.cell? ⟨g, 6, none⟩ = some (.int .u32 rg) := hcell 6 _ rfl
      have z7 : wr.cell? ⟨g, 7, none⟩ = some (.int .u32 rh) := hcell 7 _ rfl
      have hl8 : (Oct.list ⟨ra, rb, rc, rd, re, rf, rg, rh⟩).length = 8 := rfl
      rw [hl8]
      clear hcell hkey hl8
      have hsg : IntKind.u32.signed = false := rfl
      have hmx : IntKind.u32.max = 4294967295 := rfl
      go_wp2_with fail
      go_quiet ((refine Calls.quiet_of ((rturn_int _ _ HE.out (by omega) (by omega) _).mono fun _ _ h => ⟨h.1, 1, h.2⟩)))
      clear hsg hmx ck cw
      go_wp2_with fail
      refine code_named (fun W3 hW3 => ?_)
      have HR3 : Hid (Below B0 w2 W3 ∧ B0 ≤ W3.heap.size) := by
        rw [← hW3]
        exact Lib.hid ⟨⟨HR.out.2.1.os, HR.out.2.1.tape, HR.out.2.1.output, HR.out.2.1.size, HR.out.2.1.block⟩, HR.out.2.2⟩
      have z0 : W3.cell? ⟨g, 0, none⟩ = some (.int .u32 ra) := by rw [← hW3]; exact z0
      have z1 : W3.cell? ⟨g, 1, none⟩ = some (.int .u32 rb) := by rw [← hW3]; exact z1
      have z2 : W3.cell? ⟨g, 2, none⟩ = some (.int .u32 rc) := by rw [← hW3]; exact z2
      have z3 : W3.cell? ⟨g, 3, none⟩ = some (.int .u32 rd) := by rw [← hW3]; exact z3
      have z4 : W3.cell? ⟨g, 4, none⟩ = some (.int .u32 re) := by rw [← hW3]; exact z4
      have z5 : W3.cell? ⟨g, 5, none⟩ = some (.int .u32 rf) := by rw [← hW3]; exact z5
      have z6 : W3.cell? ⟨g, 6, none⟩ = some (.int .u32 rg) := by rw [← hW3]; exact z6
      have z7 : W3.cell? ⟨g, 7, none⟩ = some (.int .u32 rh) := by rw [← hW3]; exact z7
      clear hW3 HR
      go_quiet ((refine Calls.quiet_of ((rturn_int _ _ HA.out (by omega) (by omega) _).mono fun _ _ h => ⟨h.1, 1, h.2⟩)))
      go_wp2_with fail
      refine code_named (fun W4 hW4 => ?_)
      have HR4 : Hid (Below B0 w2 W4 ∧ B0 ≤ W4.heap.size) := by
        rw [← hW4]
        exact Lib.hid ⟨⟨HR3.out.1.os, HR3.out.1.tape, HR3.out.1.output, HR3.out.1.size, HR3.out.1.block⟩, HR3.out.2⟩
      have z0 : W4.cell? ⟨g, 0, none⟩ = some (.int .u32 ra) := by rw [← hW4]; exact z0
      have z1 : W4.cell? ⟨g, 1, none⟩ = some (.int .u32 rb) := by rw [← hW4]; exact z1
      have z2 : W4.cell? ⟨g, 2, none⟩ = some (.int .u32 rc) := by rw [← hW4]; exact z2
      have z3 : W4.cell? ⟨g, 3, none⟩ = some (.int .u32 rd) := by rw [← hW4]; exact z3
      have z4 : W4.cell? ⟨g, 4, none⟩ = some (.int .u32 re) := by rw [← hW4]; exact z4
      have z5 : W4.cell? ⟨g, 5, none⟩ = some (.int .u32 rf) := by rw [← hW4]; exact z5
      have z6 : W4.cell? ⟨g, 6, none⟩ = some (.int .u32 rg) := by rw [← hW4]; exact z6
      have z7 : W4.cell? ⟨g, 7, none⟩ = some (.int .u32 rh) := by rw [← hW4]; exact z7
      clear hW4 HR3
      obtain ⟨V, hV⟩ : ∃ V, V = W4.drew := ⟨_, rfl⟩
      refine still_tail_at V hV 22 (by kernel_rfl) (by kernel_rfl) ?_
      have HRV : Hid (Below B0 w2 V ∧ B0 ≤ V.heap.size) := by
        rw [hV]
        exact Lib.hid ⟨HR4.out.1.drew, HR4.out.2⟩
      have z0 : V.cell? ⟨g, 0, none⟩ = some (.int .u32 ra) := by rw [hV]; exact z0
      have z1 : V.cell? ⟨g, 1, none⟩ = some (.int .u32 rb) := by rw [hV]; exact z1
      have z2 : V.cell? ⟨g, 2, none⟩ = some (.int .u32 rc) := by rw [hV]; exact z2
      have z3 : V.cell? ⟨g, 3, none⟩ = some (.int .u32 rd) := by rw [hV]; exact z3
      have z4 : V.cell? ⟨g, 4, none⟩ = some (.int .u32 re) := by rw [hV]; exact z4
      have z5 : V.cell? ⟨g, 5, none⟩ = some (.int .u32 rf) := by rw [hV]; exact z5
      have z6 : V.cell? ⟨g, 6, none⟩ = some (.int .u32 rg) := by rw [hV]; exact z6
      have z7 : V.cell? ⟨g, 7, none⟩ = some (.int .u32 rh) := by rw [hV]; exact z7
      clear hV HR4
      simp only [List.take_succ_cons, List.take_zero, List.drop_succ_cons, List.drop_zero]
      repeat still_step
      refine wpStill_nil ?_
      clear z0 z1 z2 z3 z4 z5 z6 z7
      go_wp2_with fail
      have ea := xa_eq ⟨ra, rb, rc, rd, re, rf, rg, rh⟩ key word
      have ee := xe_eq ⟨ra, rb, rc, rd, re, rf, rg, rh⟩ key word
      dsimp only at ea ee
      rw [ea, ee]
      refine ⟨⟨k + 1, round ⟨ra, rb, rc, rd, re, rf, rg, rh⟩ key word, by rw [Int.natCast_add]; rfl, by omega, HR1, ?_⟩, ?_⟩
      · exact Lib.hid ⟨⟨rfl, .inr ⟨V.heap.size, 8, _, rfl, HRV.out.2, made_at _ _ rfl, Nat.le_refl _, by unfold maxLen; omega, rfl, rfl⟩⟩, HRV.out.1.alloc HRV.out.2 _, by have := HRV.out.2; simp; omega⟩
      · show 64 - ((k : Int) + 1).toNat < 64 - ((k : Int)).toNat
        omega
    · obtain rfl : k = 64 := by omega
      rw [Oct.list_length] at HR ⊢
      have HG : Hid (B0 ≤ g) := Lib.hid (own_base HR.out.1 rfl)
      have S1 : Hid (Row wr B0 (.slice (some ⟨g, 0, none⟩) 8 cap) (added r o 0) ∧ Below B0 w2 wr ∧ B0 ≤ wr.heap.size) := HR
      clear HR hcell HE HA
      go_wp2_with fail
      go_loopw [13] (fun i wr => ∃ k : Nat, i = .int .i64 k ∧ k ≤ 8 ∧ Hid (Row wr B0 (.slice (some ⟨g, 0, none⟩) 8 cap) (added r o k) ∧ Below B0 w2 wr ∧ B0 ≤ wr.heap.size)) (fun i _ => 8 - (intOf i).toNat)
      case atStart => exact ⟨0, rfl, by omega, S1⟩
      case round =>
        obtain ⟨k, rfl, hk, HR⟩ := hrel
        clear S1
        by_cases h8 : k < 8
        · have hk1 : (k : Int) < 8 := by omega
          have hk0 : (0 : Int) ≤ (k : Int) := by omega
          have c0 : wr.cell? ⟨g, k, none⟩ = some (.int .u32 (r.list.getD k 0)) := Row.at HR.out.1 k _ (added_get r o k h8)
          have f0 : wr.frozen? ⟨g, k, none⟩ = false := Row.free HR.out.1 k
          have hol : o.list[k]? = some (o.list.getD k 0) := by
            rw [List.getD_eq_getElem?_getD, List.getElem?_eq_getElem (show k < o.list.length from h8), Option.getD_some]
          have d0 : wr.cell? ⟨b, k, none⟩ = some (.int .u32 (o.list.getD k 0)) := (K2.out.2.2.1.below HR.out.2.1 (Nat.le_refl _)).2.2 k _ hol
          have hbg : b ≠ g := by have h1 := K2.out.2.2.1.1; have h2 := HG.out; omega
          have hst := added_step r o k h8
          have HP := Lib.hid (HR.out.1.set k ((r.list.getD k 0 + o.list.getD k 0) % 4294967296))
          have HST := Lib.hid hst
          generalize r.list.getD k 0 = x at *
          generalize o.list.getD k 0 = y at *
          clear hst hol
          go_wp2_with fail
          go_region
          go_wp2_with fail
          refine ⟨⟨k + 1, by rw [Int.natCast_add]; rfl, by omega, ?_⟩, ?_⟩
          · rw [← HST.out]
            exact Lib.hid ⟨HP.out, (HR.out.2.1.setCell (by have := HG.out; simp; omega) _).drew, by have := HR.out.2.2; simpa [World.setCell] using this⟩
          · show 8 - ((k : Int) + 1).toNat < 8 - ((k : Int)).toNat
            omega
        · obtain rfl : k = 8 := by omega
          go_wp2_with fail
          go_ret
          refine ⟨_, rfl, ?_, ?_⟩
          · rw [comp, ← hr.out, plus_comm]
            exact HR.out.1.weak (by rw [← HB0.out]; exact K2.out.2.2.2.size)
          · exact K2.out.2.2.2.trans (HR.out.2.1.mono (by rw [← HB0.out]; exact K2.out.2.2.2.size))
end Go.Proofs.YtiogjmlkogeibaaDoor.dig
