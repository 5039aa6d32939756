/- What wire's Writer's other calls do: Int, Str, Sum, Sums. -/
import Derived.Test.YtigojpjmncclaaaWireW
import Derived.Test.YtigojpjmncclaaaAppS
import Derived.Test.YtigojpjmncclaaaSumA
import Derived.Lib.ItoaWalk
import Derived.Deep.MidRow
namespace Go.Proofs.Ytigojpjmncclaaa
open Go.RowKit

/-- Bytes were appended to a writer's own, and the slice was laid back. -/
theorem Wr.close {w W1 w2 : World} {b : Nat} {v v' : Value} {r : Option Nat} {ys : List UInt8} (hb : Has w b 29 #[v]) (hv : v.ownBlock = r) (hne : r ≠ some b)
    (hT : Turn (fun _ => False) w W1) (hg : W1.grownBy w2 v.ownBlock) (hown : w2.ownsRow 0 5 1 v' ys.length (ys.map byteV)) (hat : v'.ownBlock = v.ownBlock ∨ ∃ k, v'.ownBlock = some k ∧ w.heap.size ≤ k) :
    WrPost w b r ys (.returned (.pointer (some ⟨b, 0, none⟩))) (w2.setCell ⟨b, 0, none⟩ v') := by
  have hbl := hb.lt
  have hnb : v'.ownBlock ≠ some b := by
    rcases hat with h | ⟨k, h, hk⟩
    · rw [h, hv]; exact hne
    · rw [h]; intro e; injection e with e; omega
  have hT2 : Turn (fun k => k = b ∨ some k = r) w w2 :=
    (hT.more (fun _ _ h => h.elim)).grown hg (fun j hj _ => .inr (by rw [← hj, hv]))
  have hb2 : Has w2 b 29 #[v] := (hb.turn hT (fun h => h)).grown hg (by rw [hv]; exact fun h => hne h.symm)
  refine ⟨rfl, v'.ownBlock, ⟨v', by simpa using hb2.put 0 v', ?_, rfl, hnb⟩, by rw [← hv]; exact hat, hT2.put (fun _ => .inl rfl) 0 _⟩
  refine ⟨hown.1, ?_⟩
  rcases hown.2 with h | ⟨g', cap', cur, h1, h2, h3, h4⟩
  · exact .inl h
  · have e : g' ≠ b := by rintro rfl; exact hnb (by rw [h1]; rfl)
    exact .inr ⟨g', cap', cur, h1, h2, (Below.heap_setCell w2 _ _ g' e).trans h3, h4⟩

theorem wnum_int (b : Nat) (r : Option Nat) (xs : List UInt8) (x : Int) (w : World) (h0 : 0 ≤ x) (hx : x < 18446744073709551616) (h : Wr w b r xs) (hl : xs.length ≤ 1000000) :
    Calls Try.prog 9 #[.pointer (some ⟨b, 0, none⟩), .int .u64 x] w fun en w' => WrPost w b r (xs ++ enc x.toNat) en w' := by
  obtain ⟨n, rfl⟩ := Int.eq_ofNat_of_zero_le h0
  exact wnum_any b r xs n w (by omega) h hl

/-- A number that may be below 0, as one that isn't. -/
def zz (n : Int) : Nat := if n < 0 then (2 * (-(n + 1)) + 1).toNat else (2 * n).toNat

theorem enc_len (n : Nat) (h : n < 18446744073709551616) : (enc n).length ≤ 11 := by
  unfold enc
  rw [List.length_append, List.length_singleton]
  have := hi_len 10 (n / 128) (by omega)
  omega

set_option maxRecDepth 100000 in
set_option maxHeartbeats 400000 in
theorem wint_any (b : Nat) (r : Option Nat) (xs : List UInt8) (n : Int) (w : World) (h : Wr w b r xs) (hl : xs.length ≤ 1000000) (hn0 : -9223372036854775808 ≤ n) (hn1 : n ≤ 9223372036854775807) :
    Calls Try.prog 10 #[.pointer (some ⟨b, 0, none⟩), .int .i64 n] w fun en w' => WrPost w b r (xs ++ enc (zz n)) en w' := by
  by_cases hn : n < 0
  · have E : Hid (zz n = (2 * (-(n + 1)) + 1).toNat) := if_pos hn
    go_enter Try.func10, Try.ntmps10
    go_wp2_with fail
    refine (wnum_int b r xs _ w (by omega) (by omega) h hl).mono ?_
    rintro en w1 ⟨rfl, r1, h1, hr1, t1⟩
    rw [← E.out] at h1
    have H1 := Lib.hid h1
    have HR1 := Lib.hid hr1
    clear h1 hr1
    go_wp2_with fail
    go_ret
    exact ⟨rfl, r1, H1.out, HR1.out, t1⟩
  · have E : Hid (zz n = (2 * n).toNat) := if_neg hn
    have hn' : 0 ≤ n := by omega
    go_enter Try.func10, Try.ntmps10
    go_wp2_with fail
    refine (wnum_int b r xs _ w (by omega) (by omega) h hl).mono ?_
    rintro en w1 ⟨rfl, r1, h1, hr1, t1⟩
    rw [← E.out] at h1
    have H1 := Lib.hid h1
    have HR1 := Lib.hid hr1
    clear h1 hr1
    go_wp2_with fail
    go_ret
    exact ⟨rfl, r1, H1.out, HR1.out, t1⟩

theorem WrPost.trans {w w1 w2 : World} {b : Nat} {r r1 : Option Nat} {xs : List UInt8} {en : Ending} (hr : r1 = r ∨ ∃ k, r1 = some k ∧ w.heap.size ≤ k) (ht : Turn (fun k => k = b ∨ some k = r) w w1)
    (h : WrPost w1 b r1 xs en w2) : WrPost w b r xs en w2 := by
  obtain ⟨he, r2, h2, hr2, t2⟩ := h
  refine ⟨he, r2, h2, ?_, ht.trans t2 (fun j hj h => ?_)⟩
  · rcases hr2 with h | ⟨k, h, hk⟩
    · subst h; exact hr
    · exact .inr ⟨k, h, Nat.le_trans ht.size hk⟩
  · rcases h with h | h
    · exact .inl h
    · rcases hr with e | ⟨k, e, hk⟩
      · exact .inr (by rw [← e]; exact h)
      · rw [e] at h; injection h with h; omega

set_option maxRecDepth 100000 in
set_option maxHeartbeats 400000 in
theorem wstr_any (b : Nat) (r : Option Nat) (xs : List UInt8) (s : ByteArray) (w : World) (h : Wr w b r xs) (hl : xs.length ≤ 1000000) (hs : s.size ≤ 1000000) :
    Calls Try.prog 11 #[.pointer (some ⟨b, 0, none⟩), .string s] w fun en w' => WrPost w b r (xs ++ enc s.size ++ s.data.toList) en w' := by
  obtain ⟨i0, hi0, hz0, hz1, hz2⟩ := info_parts Try.infoByte
  have hel := enc_len s.size (by omega)
  go_enter Try.func11, Try.ntmps11
  go_wp2_with fail
  refine (wnum_int b r xs _ w (by omega) (by omega) h hl).mono ?_
  rintro en w1 ⟨rfl, r1, h1, hr1, t1⟩
  simp only [Int.toNat_natCast] at h1
  generalize hzs : xs ++ enc s.size = zs at h1
  have hzl : zs.length ≤ 1000011 := by rw [← hzs, List.length_append]; omega
  have HZS := Lib.hid hzs
  clear hzs
  obtain ⟨v, hb, ho, hv, hne⟩ := h1
  have c0 : w1.cell? ⟨b, 0, none⟩ = some v := hb.cell 0
  have HB := Lib.hid hb
  have HO := Lib.hid ho
  have HV := Lib.hid hv
  have HNE := Lib.hid hne
  have HR1 := Lib.hid hr1
  have T1 := Lib.hid t1
  have K1 : zs.length + s.size ≤ maxLen := by unfold maxLen; omega
  have K2 : zs.length + s.size ≤ 140737488355328 := by omega
  have HK1 := Lib.hid K1
  have HK2 := Lib.hid K2
  clear hb ho hv hne h hr1 t1 K1 K2
  go_wp2_with ((with_reducible refine at_op 16 ?_); refine wpList_append_str (o := ⟨some 16, _, _, _, _, _⟩) rfl (.tmp 14) (.tmp 15) 27 9 rfl 0 5 i0 Try.underlying27 Try.underlying9 hi0 hz0 hz1 hz2 v zs.length _ rfl HO.out s rfl HK1.out HK2.out (Nat.zero_le _) ?_)
  intro v' w2 hown hg hat
  have c2 : w2.cell? ⟨b, 0, none⟩ = some v := (HB.out.grown hg (by rw [HV.out]; exact fun h => HNE.out h.symm)).cell 0
  have f2 : w2.frozen? ⟨b, 0, none⟩ = false := (HB.out.grown hg (by rw [HV.out]; exact fun h => HNE.out h.symm)).free 0
  have HOWN := Lib.hid hown
  have HG := Lib.hid hg
  have HAT := Lib.hid hat
  obtain ⟨a', m', c', rfl⟩ : ∃ a' m' c', v' = .slice a' m' c' := by
    rcases hown.2 with ⟨h, _⟩ | ⟨g', cap', cur, h, _⟩
    · exact ⟨_, _, _, h⟩
    · exact ⟨_, _, _, h⟩
  clear hown hg hat c0
  go_wp2_with fail
  go_ret
  rw [HZS.out]
  have hc := Wr.close (ys := zs ++ s.data.toList) HB.out HV.out HNE.out (Turn.refl _ w1) HG.out (by
    have e1 : (zs ++ s.data.toList).length = zs.length + s.size := by simp
    have e2 : (zs ++ s.data.toList).map byteV = zs.map byteV ++ Lib.strCells s := by rw [List.map_append, strCells_eq]
    rw [e1, e2]
    exact HOWN.out) (HAT.out.imp id (fun h => ⟨_, h, Nat.le_refl _⟩))
  exact WrPost.trans HR1.out T1.out hc

set_option maxRecDepth 100000 in
set_option maxHeartbeats 1000000 in
theorem wsum_any (b : Nat) (r : Option Nat) (xs ys : List UInt8) (w : World) (h : Wr w b r xs) (hl : xs.length ≤ 1000000) (hy : ys.length = 32) :
    Calls Try.prog 12 #[.pointer (some ⟨b, 0, none⟩), .agg (cellsOf ys)] w fun en w' => WrPost w b r (xs ++ ys) en w' := by
  obtain ⟨i0, hi0, hz0, hz1, hz2⟩ := info_parts Try.infoByte
  obtain ⟨v, hb, ho, hv, hne⟩ := h
  have K1 : xs.length + 32 ≤ maxLen := by unfold maxLen; omega
  have K2 : (xs.length + 32) * 1 ≤ 140737488355328 := by omega
  have HK1 := Lib.hid K1
  have HK2 := Lib.hid K2
  clear K1 K2
  go_enter Try.func12, Try.ntmps12
  go_wp2_with fail
  go_name_world W hW
  have hbx : Has W w.heap.size 25 (cellsOf ys) := by rw [← hW]; exact Has.made _ _ _
  have hbW : Has W b 29 #[v] := by rw [← hW]; exact hb.alloc _
  have hoW : W.ownsRow 0 5 1 v xs.length (xs.map byteV) := by rw [← hW]; exact ho.alloc _
  have hTW : Turn (fun _ => False) w W := by rw [← hW]; exact (Turn.refl _ w).alloc _
  have c0 : W.cell? ⟨b, 0, none⟩ = some v := hbW.cell 0
  have hbl := hb.lt
  have HB := Lib.hid hb
  have HBX := Lib.hid hbx
  have HBW := Lib.hid hbW
  have HO := Lib.hid hoW
  have HV := Lib.hid hv
  have HNE := Lib.hid hne
  have HT := Lib.hid hTW
  clear hW hb ho hv hne hbW hoW hTW hbx
  go_region_law (refine step_append_lies _ rfl (.tmp 9) (.tmp 10) 27 rfl 0 5 i0 (.int .u8 0) 1 1 Try.underlying27 hi0 hz0 hz1 hz2 rfl (by decide) v xs.length _ (by simp [Act.eval]) (by exact HO.out.drew) ⟨w.heap.size, 0, none⟩ 32 32 (ys.map byteV) (by simp [Act.eval]) (by simp [hy]) (by exact World.news_of_block HBX.out.drew) (byteV_one _) (by decide) (by exact HK1.out) (by exact HK2.out) (Nat.zero_le _) _ rfl ?_
                 intro g cap w2 hown hg hat hlt
                 have c2 : w2.cell? ⟨b, 0, none⟩ = some v := (HBW.out.drew.grown hg (by rw [HV.out]; exact fun h => HNE.out h.symm)).cell 0
                 have f2 : w2.frozen? ⟨b, 0, none⟩ = false := (HBW.out.drew.grown hg (by rw [HV.out]; exact fun h => HNE.out h.symm)).free 0
                 have HOWN := Lib.hid hown
                 have HG := Lib.hid hg
                 have HAT := Lib.hid hat
                 clear hown hg hat hlt c0)
  all_goals
    go_wp2_with fail
    go_ret
    exact Wr.close (ys := xs ++ ys) HB.out HV.out HNE.out HT.out.drew HG.out (by
      have e1 : (xs ++ ys).length = xs.length + 32 := by rw [List.length_append, hy]
      have e2 : (xs ++ ys).map byteV = xs.map byteV ++ ys.map byteV := List.map_append
      rw [e1, e2]
      exact HOWN.out) (HAT.out.imp (fun h => h.symm) (fun h => ⟨g, rfl, by rw [h]; exact HT.out.size⟩))

/-- A slice of sums: its bytes lie in one block, from the first cell on. -/
def SumsAt (w : World) (sp : Option Addr) (L : List (List UInt8)) : Prop :=
  (∀ x ∈ L, x.length = 32) ∧ (L = [] ∨ ∃ g, sp = some ⟨g, 0, none⟩ ∧ w.rangeAt g 0 (L.flatten.map byteV))

theorem flatten_at : ∀ (L : List (List UInt8)) (i : Nat), (∀ x ∈ L, x.length = 32) → (h : i < L.length) → ∀ j u, (L[i].map byteV)[j]? = some u → (L.flatten.map byteV)[32 * i + j]? = some u
  | [], _, _, h => by simp at h
  | x :: L, 0, hl, _ => fun j u hj => by
    rw [List.flatten_cons, List.map_append, List.getElem?_append_left]
    · simpa using hj
    · have := (List.getElem?_eq_some_iff.1 hj).1
      simpa using this
  | x :: L, i + 1, hl, h => fun j u hj => by
    have hx : x.length = 32 := hl x (by simp)
    rw [List.flatten_cons, List.map_append, List.getElem?_append_right (by simp; omega)]
    have := flatten_at L i (fun y hy => hl y (by simp [hy])) (by simpa using h) j u (by simpa using hj)
    rw [List.length_map, hx, show 32 * (i + 1) + j - 32 = 32 * i + j by omega]
    exact this

theorem SumsAt.elem {w : World} {sp : Option Addr} {L : List (List UInt8)} (h : SumsAt w sp L) (i : Nat) (hi : i < L.length) : ∃ g, sp = some ⟨g, 0, none⟩ ∧ w.rangeAt g (i * 32) (L[i].map byteV) := by
  rcases h.2 with h0 | ⟨g, hg, hr⟩
  · subst h0; simp at hi
  · refine ⟨g, hg, fun j u hj => ?_⟩
    have := hr (32 * i + j) u (flatten_at L i h.1 hi j u hj)
    rw [show i * 32 + j = 0 + (32 * i + j) by omega]
    exact this

theorem SumsAt.turn {F : Nat → Prop} {w w' : World} {sp : Option Addr} {L : List (List UInt8)} (h : SumsAt w sp L) (t : Turn F w w') (hF : ∀ g, sp = some ⟨g, 0, none⟩ → ¬ F g) : SumsAt w' sp L := by
  refine ⟨h.1, h.2.imp id (fun ⟨g, hg, hr⟩ => ⟨g, hg, fun j u hj => ?_⟩)⟩
  have := hr j u hj
  have hlt := World.block_lt_of_cell? w _ this
  rw [t.cell (p := ⟨g, 0 + j, none⟩) hlt (hF g hg)]
  exact this

theorem Wr.turn {F : Nat → Prop} {w w' : World} {b : Nat} {r : Option Nat} {xs : List UInt8} (h : Wr w b r xs) (t : Turn F w w') (hb : ¬ F b) (hr : ∀ k, r = some k → ¬ F k) : Wr w' b r xs := by
  obtain ⟨v, h1, h2, h3, h4⟩ := h
  refine ⟨v, h1.turn t hb, ⟨h2.1, ?_⟩, h3, h4⟩
  rcases h2.2 with h | ⟨g, cap, cur, e1, e2, e3, e4⟩
  · exact .inl h
  · have hg : g < w.heap.size := by
      rcases Nat.lt_or_ge g w.heap.size with k | k
      · exact k
      · rw [Array.getElem?_eq_none k] at e3; cases e3
    exact .inr ⟨g, cap, cur, e1, e2, (t.block g hg (hr g (by rw [← h3, e1]; rfl))).trans e3, e4⟩

theorem Wr.row_lt {w : World} {b : Nat} {r : Option Nat} {xs : List UInt8} (h : Wr w b r xs) {k : Nat} (hk : r = some k) : k < w.heap.size := by
  obtain ⟨v, h1, h2, h3, h4⟩ := h
  rcases h2.2 with ⟨h, _⟩ | ⟨g, cap, cur, e1, e2, e3, e4⟩
  · rw [h] at h3; subst hk; cases h3
  · rw [e1] at h3
    have : g = k := by rw [hk] at h3; injection h3
    subst this
    rcases Nat.lt_or_ge g w.heap.size with k | k
    · exact k
    · rw [Array.getElem?_eq_none k] at e3; cases e3

theorem flatten_len : ∀ (L : List (List UInt8)), (∀ x ∈ L, x.length = 32) → L.flatten.length = 32 * L.length
  | [], _ => rfl
  | x :: L, h => by
    rw [List.flatten_cons, List.length_append, h x (by simp), flatten_len L (fun y hy => h y (by simp [hy])), List.length_cons]
    omega

theorem take_flatten (L : List (List UInt8)) (k : Nat) (h : k < L.length) : (L.take (k + 1)).flatten = (L.take k).flatten ++ L[k] := by
  rw [List.take_succ_eq_append_getElem h, List.flatten_append]
  simp

/-- A whole array is loaded out of a range. -/
theorem wpList_load_at {P : Program} {w : World} {ops : Array Oper} {rest : List Oper} {o : Oper} {a : Act} {Q : Exit → Act → World → Prop} (hgd : o.guard = none) (ty : TypeId) (x : Operand) (ho : o.op = .load ty x)
    (g off : Nat) (hx : a.eval x = .pointer (some ⟨g, off, none⟩)) (xs : List UInt8) (e : TypeId) (n : Nat) (hg : w.rangeAt g off (xs.map byteV))
    (hu : P.underlying ty = some (.array n e)) (hi : (P.info? ty).map (·.size) = some n) (hl : xs.length = n)
    (h : wpList P ops Q rest (a.put o.dst (.agg (cellsOf xs))) w) : wpList P ops Q (o :: rest) a w :=
  wpList_load_mid hgd ty x ho g off hx (xs.map byteV) _ hg hu rfl (by rw [hi, List.length_map, hl]) h

set_option maxRecDepth 100000 in
set_option maxHeartbeats 1000000 in
theorem wsums_any (b : Nat) (r : Option Nat) (xs : List UInt8) (sp : Option Addr) (cap : Nat) (L : List (List UInt8)) (w : World) (h : Wr w b r xs) (hl : xs.length ≤ 1000) (hL : L.length ≤ 1000) (hs : SumsAt w sp L)
    (hd : ∀ g, sp = some ⟨g, 0, none⟩ → g ≠ b ∧ some g ≠ r ∧ g < w.heap.size) :
    Calls Try.prog 13 #[.pointer (some ⟨b, 0, none⟩), .slice sp L.length cap] w fun en w' => WrPost w b r (xs ++ enc L.length ++ L.flatten) en w' := by
  have hel := enc_len L.length (by omega)
  go_enter Try.func13, Try.ntmps13
  go_wp2_with fail
  refine (wnum_int b r xs _ w (by omega) (by omega) h (by omega)).mono ?_
  rintro en w1 ⟨rfl, r1, h1, hr1, t1⟩
  simp only [Int.toNat_natCast] at h1
  have HP : Hid (WrPost w b r (xs ++ enc L.length ++ (L.take 0).flatten) (.returned (.pointer (some ⟨b, 0, none⟩))) w1) := ⟨rfl, r1, by simpa using h1, hr1, t1⟩
  have HS := Lib.hid hs
  clear h h1 hr1 t1 hs
  go_wp2_with fail
  go_loopw [14] (fun i wr => ∃ k : Nat, k ≤ L.length ∧ i = .int .i64 k ∧ Hid (WrPost w b r (xs ++ enc L.length ++ (L.take k).flatten) (.returned (.pointer (some ⟨b, 0, none⟩))) wr)) (fun i _ => L.length - (intOf i).toNat)
  case atStart => exact ⟨0, Nat.zero_le _, rfl, HP⟩
  case round =>
    clear HP
    obtain ⟨k, hk, rfl, HP⟩ := hrel
    by_cases hlt : k < L.length
    · obtain ⟨_, r2, h2, hr2, t2⟩ := HP.out
      obtain ⟨g, rfl, hg⟩ := (HS.out.turn t2 (fun g hg h => by
        obtain ⟨d1, d2, _⟩ := hd g hg
        rcases h with h | h
        · exact d1 h
        · exact d2 h)).elem k hlt
      have hx : L[k].length = 32 := HS.out.1 _ (List.getElem_mem hlt)
      have hyl : (xs ++ enc L.length ++ (L.take k).flatten).length ≤ 1000000 := by
        rw [List.length_append, List.length_append, flatten_len _ (fun y hy => HS.out.1 y (List.mem_of_mem_take hy)), List.length_take]
        omega
      have htf := take_flatten L k hlt
      have HTF := Lib.hid htf
      have HYL := Lib.hid hyl
      have HX := Lib.hid hx
      have HG := Lib.hid hg
      have H2 := Lib.hid h2
      have HR2 := Lib.hid hr2
      have T2 := Lib.hid t2
      clear h2 hr2 t2 hg hx htf hyl
      generalize L[k] = x at *
      go_wp2_with (first
        | ((with_reducible refine at_op 17 ?_); refine wpList_load_at (o := ⟨some 17, _, _, _, _, _⟩) rfl 25 (.tmp 16) rfl g (k * 32) (by simp [Act.eval]) x 5 32 HG.out Try.underlying25 Try.infoSum HX.out ?_)
        | ((with_reducible refine at_store (.tmp 6) ?_); refine wpList_store_arr (o := ⟨none, _, _, _, _, _⟩) rfl 25 (.tmp 6) (.tmp 17) rfl wr.heap.size x zeros rfl rfl 25 (made_zeros_at _ _ rfl) 32 Try.infoSum zeros_length HX.out ?_))
      intro w3 z3 t3
      have h3 : Wr w3 b r2 (xs ++ enc L.length ++ (L.take k).flatten) := by
        have ha : Wr (wr.alloc (.cells (cellsOf zeros) 25)) b r2 (xs ++ enc L.length ++ (L.take k).flatten) := H2.out.turn (alloc_only _ _) (fun h => h) (fun _ _ h => h)
        obtain ⟨_, hb2, _⟩ := H2.out
        have hbl := hb2.lt
        exact ha.turn t3 (by omega) (fun j hj => by have := H2.out.row_lt hj; omega)
      have t4 : Turn (fun j => j = b ∨ some j = r) w w3 := (T2.out.alloc _).trans t3 (fun j hj h => by have := T2.out.size; omega)
      have H3 := Lib.hid h3
      have Z3 := Lib.hid z3
      have T4 := Lib.hid t4
      clear h3 z3 t3 t4
      go_wp2_with ((with_reducible refine at_op 19 ?_); refine wpList_load_arr (o := ⟨some 19, _, _, _, _, _⟩) rfl 25 (.tmp 6) rfl wr.heap.size rfl 25 x 5 32 Z3.out Try.underlying25 Try.infoSum HX.out ?_)
      refine (wsum_any b r2 _ x w3 H3.out HYL.out HX.out).mono ?_
      intro en w4 hp
      have he := hp.1
      subst he
      have hp' : WrPost w b r (xs ++ enc L.length ++ (L.take (k + 1)).flatten) (.returned (.pointer (some ⟨b, 0, none⟩))) w4 := by
        rw [HTF.out, ← List.append_assoc]
        exact WrPost.trans HR2.out T4.out hp
      have HP' := Lib.hid hp'
      clear hp hp'
      go_wp2_with fail
      go_roundw
      case rel => exact ⟨k + 1, by omega, by go_num, HP'⟩
      case measure => simp [intOf]; omega
    · obtain rfl : k = L.length := by omega
      have hp := HP.out
      rw [List.take_length] at hp
      have HP' := Lib.hid hp
      clear hp HP
      go_wp2_with fail
      go_ret
      exact HP'.out

end Go.Proofs.Ytigojpjmncclaaa
