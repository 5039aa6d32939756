/- Texts laid into one: DigLA, DigM, Row, TreeM, Flat, TreeN, TreeA. -/
import Derived.Test.YthbncejbcegmgaaDoorY001
import Derived.Lib.LaidTab
import Derived.Deep.MidRow
import Derived.Test.YthbncejbcegmgaaDoorY000
import Derived.Lib.TrailingZeros
section
/- digest: Cut; what the row's list gives. -/
namespace Go.Proofs.YthbncejbcegmgaaDoor.dig
open Go Go.RowKit

theorem gRounds : Tryd.prog.globalNamed "hindsight/digest.rounds" = some 2 := by kernel_rfl
theorem gRoundsType : (Tryd.prog.globals[2]?).map (·.type) = some 141 := by kernel_rfl
theorem cellsWords : Tryd.prog.cellsOf 141 = 64 := by kernel_rfl
theorem cellsU32 : Tryd.prog.cellsOf 131 = 1 := by kernel_rfl
theorem rk_of_laid {W : World} {rest : List (String × DataW Unit)} (h : laidMet Tryd.prog (("hindsight/digest.rounds", Rows.laid_hindsight_digest_rounds) :: rest) W) : Rk W := by
  have ht : Lib.TabIs Tryd.prog W "hindsight/digest.rounds" .u32 keys := Lib.tabIs_of_head (rest := rest) gRounds gRoundsType Tryd.underlying141 Tryd.underlying131 cellsU32 cellsWords h
  intro i x hx
  have hi : i < keys.length := (List.getElem?_eq_some_iff.1 hx).1
  have := ht.cell gRounds i hi
  rw [this]
  have e : keys.getD i 0 = x := by
    rw [List.getD_eq_getElem?_getD, hx]
    rfl
  rw [wordV]
  exact congrArg (fun z => some (Value.int .u32 z)) e

set_option maxHeartbeats 400000 in
theorem cut_any (s : ByteArray) (n : Nat) (w : World) (hn : n ≤ 1000000) (_hs : s.size ≤ maxLen) :
    Calls Tryd.prog 8 #[.string s, .int .i64 n] w fun en w' => en = .returned (.string (s.extract 0 n)) ∧ w = w' := by
  unfold maxLen at _hs
  by_cases h : n < s.size
  · go_enter Tryd.func8, Tryd.ntmps8
    go_wp2
    go_ret
    exact ⟨rfl, rfl⟩
  · have e : s.extract 0 n = s := by
      apply ByteArray.ext
      simp [ByteArray.data_extract]
      omega
    have E := Lib.hid e
    clear e
    go_enter Tryd.func8, Tryd.ntmps8
    go_wp2
    go_ret
    rw [E.out]
    exact ⟨rfl, rfl⟩
end Go.Proofs.YthbncejbcegmgaaDoor.dig
end

section
/- digest: two Hashes side by side; equal sums. -/
namespace Go.Proofs.YthbncejbcegmgaaDoor.dig
open Go Go.RowKit

theorem cut_size (s : ByteArray) (n : Nat) : ∃ t, s.extract 0 n = t ∧ t.size ≤ n := ⟨_, rfl, by simp [ByteArray.size_extract]; omega⟩

theorem Hs.below {w w' : World} {h : Nat} {xs : List UInt8} {B : Nat} (k : Hs w h xs) (b : Below B w w') (hh : h < B) : Hs w' h xs := by
  obtain ⟨bs, h1, h2, h3⟩ := k
  exact ⟨bs, h1, h2, h3.below b hh⟩
theorem Hs.lt {w : World} {h : Nat} {xs : List UInt8} (k : Hs w h xs) : h < w.heap.size := by
  obtain ⟨bs, _, _, h3⟩ := k
  exact h3.lt
theorem Hs.grown {w w' : World} {h g : Nat} {xs : List UInt8} (k : Hs w h xs) (b : w.grownBy w' (some g)) (hh : h ≠ g) : Hs w' h xs := by
  obtain ⟨bs, h1, h2, h3⟩ := k
  exact ⟨bs, h1, h2, h3.grown b (fun e => hh (by injection e))⟩

/-- One Hash that was made since w. -/
structure One (w w' : World) (h : Nat) (xs : List UInt8) : Prop where
  one : Hs w' h xs
  rk : Rk w'
  lo : w.heap.size ≤ h
  below : Below w.heap.size w w'
theorem One.made {w w1 w2 : World} {h : Nat} (b : Below w.heap.size w w1) (ax : Ax w1 h [] w2) (b2 : Below w1.heap.size w1 w2) (l : w1.heap.size ≤ h) (_m : h < w2.heap.size) : One w w2 h [] :=
  ⟨ax.st, ax.rk, Nat.le_trans b.size l, b.trans (b2.mono b.size)⟩

theorem One.bel {w w' w2 : World} {h : Nat} {xs : List UInt8} (t : One w w' h xs) (b : Below w'.heap.size w' w2) : One w w2 h xs :=
  ⟨t.one.below b t.one.lt, t.rk.below b, t.lo, t.below.trans (b.mono t.below.size)⟩
theorem One.drew {w w' : World} {h : Nat} {xs : List UInt8} (t : One w w' h xs) : One w w'.drew h xs :=
  t.bel (Below.refl _ _).drew
theorem One.made_more {w w' w2 : World} {h : Nat} {xs : List UInt8} {o : Obj} (t : One w w' h xs) (b : Turn (fun k => k = w'.heap.size) (w'.alloc o) w2) : One w w2 h xs :=
  t.bel (((Below.refl _ _).alloc (Nat.le_refl _) o).trans (b.below (by simp) (fun j hj e => by omega)))


structure Two (w w' : World) (h1 h2 : Nat) (xs ys : List UInt8) : Prop where
  one : Hs w' h1 xs
  two : Hs w' h2 ys
  rk : Rk w'
  lo1 : w.heap.size ≤ h1
  lo2 : w.heap.size ≤ h2
  ne : h1 ≠ h2
  below : Below w.heap.size w w'
section
variable {w w' w2 : World} {h1 h2 : Nat} {xs ys : List UInt8}
theorem Two.made (o : One w w' h1 xs) (ax : Ax w' h2 [] w2) (b2 : Below w'.heap.size w' w2) (l : w'.heap.size ≤ h2) (_m : h2 < w2.heap.size) : Two w w2 h1 h2 xs [] :=
  ⟨o.one.below b2 o.one.lt, ax.st, ax.rk, o.lo, Nat.le_trans o.below.size l, by have := o.one.lt; omega, o.below.trans (b2.mono o.below.size)⟩
theorem Two.ax1 (t : Two w w' h1 h2 xs ys) (hg : 2 < w.heap.size) : Ax w' h1 xs w' := ⟨t.one, t.rk, by have := t.lo1; omega, grown_refl _ _⟩
theorem Two.ax2 (t : Two w w' h1 h2 xs ys) (hg : 2 < w.heap.size) : Ax w' h2 ys w' := ⟨t.two, t.rk, by have := t.lo2; omega, grown_refl _ _⟩
theorem Two.add1 {zs : List UInt8} (t : Two w w' h1 h2 xs ys) (ax : Ax w' h1 zs w2) : Two w w2 h1 h2 zs ys :=
  ⟨ax.st, t.two.grown ax.turn (fun e => t.ne e.symm), ax.rk, t.lo1, t.lo2, t.ne, t.below.trans (below_grown ax.turn t.lo1 t.below.size)⟩
theorem Two.add2 {zs : List UInt8} (t : Two w w' h1 h2 xs ys) (ax : Ax w' h2 zs w2) : Two w w2 h1 h2 xs zs :=
  ⟨t.one.grown ax.turn t.ne, ax.st, ax.rk, t.lo1, t.lo2, t.ne, t.below.trans (below_grown ax.turn t.lo2 t.below.size)⟩
theorem Two.bel (t : Two w w' h1 h2 xs ys) (b : Below w'.heap.size w' w2) : Two w w2 h1 h2 xs ys :=
  ⟨t.one.below b t.one.lt, t.two.below b t.two.lt, t.rk.below b, t.lo1, t.lo2, t.ne, t.below.trans (b.mono t.below.size)⟩
end

theorem run_eql_sum (xs ys : List UInt8) (hx : xs.length = 32) (hy : ys.length = 32) (w : World) : (binOp .eql 33 (.agg (cellsOf xs)) (.agg (cellsOf ys))).run Tryd.prog w = .ok (.bool (xs == ys)) w := by
  simp only [binOp]
  have := run_equalIn_bytes (P := Tryd.prog) 9998 (t := 33) (e := 5) 32 Tryd.underlying33 Tryd.underlying5 (by kernel_rfl) xs ys hx hy w
  simp [Op.equal, Op.maxDepth, this]
theorem run_eql_same (xs : List UInt8) (hx : xs.length = 32) (w : World) : (binOp .eql 33 (.agg (cellsOf xs)) (.agg (cellsOf xs))).run Tryd.prog w = .ok (.bool true) w := by
  rw [run_eql_sum xs xs hx hx w]
  simp
end Go.Proofs.YthbncejbcegmgaaDoor.dig
end

section
/- Slices that lie anywhere in a block of their own (also behind what was cut off ahead of them): what keeps them, what stands in them, append. Of no program. -/
namespace Go.Proofs.YthbncejbcegmgaaDoor
open Go.RowKit

/-- The value v is a slice of n elements, each of size cells, of type e; in them stands xs. -/
def Seg (w : World) (e : TypeId) (size : Nat) (v : Value) (n : Nat) (xs : List Value) : Prop :=
  xs.length = n * size ∧ ((v = .slice none 0 0 ∧ n = 0) ∨ ∃ g off cap cur, v = .slice (some ⟨g, off, none⟩) n cap ∧ w.heap[g]? = some (.cells cur e (0, 0)) ∧ n ≤ cap ∧ cap ≤ maxLen ∧ off + cap * size ≤ cur.size ∧ (cur.toList.drop off).take (n * size) = xs)

section
variable {w w' : World} {e : TypeId} {size n : Nat} {v : Value} {xs : List Value}

theorem Seg.nil (w : World) (e : TypeId) (size : Nat) : Seg w e size (.slice none 0 0) 0 [] := ⟨by simp, .inl ⟨rfl, rfl⟩⟩

theorem Seg.of_own {base : Nat} (h : w.ownsRow base e size v n xs) : Seg w e size v n xs := by
  refine ⟨h.1, ?_⟩
  rcases h.2 with k | ⟨g, cap, cur, e1, _, e3, e4, e5, e6, e7⟩
  · exact .inl k
  · exact .inr ⟨g, 0, cap, cur, e1, e3, e4, e5, by rw [e6]; omega, by simpa using e7⟩

theorem Seg.lt {b : Nat} (h : Seg w e size v n xs) (hb : v.ownBlock = some b) : b < w.heap.size := by
  rcases h.2 with ⟨rfl, _⟩ | ⟨g, off, cap, cur, rfl, hg, _⟩
  · cases hb
  · injection hb with hb
    subst hb
    rcases Nat.lt_or_ge g w.heap.size with k | k
    · exact k
    · rw [Array.getElem?_eq_none k] at hg; cases hg

theorem Seg.keep (h : Seg w e size v n xs) (k : ∀ b, v.ownBlock = some b → w'.heap[b]? = w.heap[b]?) : Seg w' e size v n xs := by
  refine ⟨h.1, ?_⟩
  rcases h.2 with h2 | ⟨g, off, cap, cur, e1, e2, e3⟩
  · exact .inl h2
  · exact .inr ⟨g, off, cap, cur, e1, (k g (by rw [e1]; rfl)).trans e2, e3⟩

theorem Seg.turn {F : Nat → Prop} (h : Seg w e size v n xs) (t : Turn F w w') (hr : ∀ b, v.ownBlock = some b → ¬ F b) : Seg w' e size v n xs :=
  h.keep fun b hb => t.block b (h.lt hb) (hr b hb)

theorem Seg.below {B : Nat} (h : Seg w e size v n xs) (t : Below B w w') (hB : ∀ b, v.ownBlock = some b → b < B) : Seg w' e size v n xs :=
  h.keep fun b hb => t.block b (hB b hb)

theorem Seg.drew (h : Seg w e size v n xs) : Seg w.drew e size v n xs := h
theorem Seg.alloc (h : Seg w e size v n xs) (o : Obj) : Seg (w.alloc o) e size v n xs := h.keep fun b hb => Below.heap_alloc w o b (h.lt hb)

theorem Seg.ne {b : Nat} {t : TypeId} {cs : Array Value} (h : Seg w e size v n xs) (hb : Has w b t cs) (hne : e ≠ t) : v.ownBlock ≠ some b := by
  rcases h.2 with ⟨rfl, _⟩ | ⟨g, off, cap, cur, rfl, hg, _⟩
  · intro k; cases k
  · intro k
    injection k with k
    obtain rfl : g = b := k
    have hg' : Has w g e cur := hg
    exact hne (hg'.uniq hb).2

theorem Seg.apart {e' : TypeId} {size' n' : Nat} {v' : Value} {xs' : List Value} (h : Seg w e size v n xs) (h' : Seg w e' size' v' n' xs') (hne : e ≠ e') : ∀ b, v.ownBlock = some b → v'.ownBlock ≠ some b := by
  intro b hb
  rcases h.2 with ⟨rfl, _⟩ | ⟨g, off, cap, cur, rfl, hg, _⟩
  · cases hb
  · injection hb with hb
    obtain rfl : g = b := hb
    have hg' : Has w g e cur := hg
    exact h'.ne hg' (fun k => hne k.symm)

/-- What stands in it. -/
theorem Seg.cells (h : Seg w e size v n xs) (hn : 0 < n) : ∃ g off c, v = .slice (some ⟨g, off, none⟩) n c ∧ g < w.heap.size ∧ n ≤ c ∧ c ≤ maxLen ∧ ∀ j u, xs[j]? = some u → w.cell? ⟨g, off + j, none⟩ = some u := by
  rcases h.2 with ⟨_, h0⟩ | ⟨g, off, cap, cur, rfl, hg, hc1, hc2, _, hx⟩
  · omega
  · refine ⟨g, off, cap, rfl, h.lt rfl, hc1, hc2, fun j u hj => ?_⟩
    have hg' : Has w g e cur := hg
    rw [hg'.cell, ← Array.getElem?_toList]
    have hjl : j < xs.length := by
      rcases Nat.lt_or_ge j xs.length with k | k
      · exact k
      · rw [List.getElem?_eq_none k] at hj; cases hj
    have hl : xs.length ≤ n * size := by rw [h.1]; exact Nat.le_refl _
    rw [← hx, List.getElem?_take_of_lt (by omega), List.getElem?_drop] at hj
    exact hj

theorem Seg.slice (h : Seg w e size v n xs) : ∃ a c, v = .slice a n c ∧ n ≤ c ∧ c ≤ maxLen := by
  rcases h.2 with ⟨h1, h2⟩ | ⟨g, off, cap, cur, rfl, hg, hc1, hc2, _⟩
  · exact ⟨none, 0, by rw [h1, h2], by omega, by unfold maxLen; omega⟩
  · exact ⟨_, _, rfl, hc1, hc2⟩

/-- What is behind the first k. -/
theorem Seg.behind {g off c : Nat} (h : Seg w e size (.slice (some ⟨g, off, none⟩) n c) n xs) (k : Nat) (hk : k ≤ n) : Seg w e size (.slice (some ⟨g, off + k * size, none⟩) (n - k) (c - k)) (n - k) (xs.drop (k * size)) := by
  rcases h.2 with ⟨h1, _⟩ | ⟨g', off', cap, cur, h1, hg, hc1, hc2, hc3, hx⟩
  · cases h1
  · simp only [Value.slice.injEq, Option.some.injEq, Addr.mk.injEq, and_true, true_and] at h1
    obtain ⟨⟨rfl, rfl⟩, rfl⟩ := h1
    refine ⟨by rw [List.length_drop, h.1, Nat.sub_mul], .inr ⟨g, _, c - k, cur, rfl, hg, by omega, by omega, ?_, ?_⟩⟩
    · have : k * size + (c - k) * size = c * size := by rw [← Nat.add_mul, Nat.add_sub_cancel' (by omega)]
      omega
    · rw [← hx, List.drop_take, List.drop_drop, Nat.sub_mul]

/-- A cell of it is written. -/
theorem Seg.put {g off c : Nat} (h : Seg w e size (.slice (some ⟨g, off, none⟩) n c) n xs) (j : Nat) (u : Value) : Seg (w.setCell ⟨g, off + j, none⟩ u) e size (.slice (some ⟨g, off, none⟩) n c) n (xs.set j u) := by
  rcases h.2 with ⟨h1, _⟩ | ⟨g', off', cap, cur, h1, hg, hc1, hc2, hc3, hx⟩
  · cases h1
  · simp only [Value.slice.injEq, Option.some.injEq, Addr.mk.injEq, and_true, true_and] at h1
    obtain ⟨⟨rfl, rfl⟩, rfl⟩ := h1
    have hg' : Has w g e cur := hg
    refine ⟨by rw [List.length_set, h.1], .inr ⟨g, off, c, _, rfl, hg'.put (off + j) u, hc1, hc2, by simpa using hc3, ?_⟩⟩
    rw [Array.toList_setIfInBounds, ← hx, List.drop_set, if_neg (by omega), Nat.add_sub_cancel_left, List.take_set]

theorem Seg.free {g off c : Nat} (h : Seg w e size (.slice (some ⟨g, off, none⟩) n c) n xs) (j : Nat) : w.frozen? ⟨g, j, none⟩ = false := by
  rcases h.2 with ⟨h1, _⟩ | ⟨g', off', cap, cur, h1, hg, _⟩
  · cases h1
  · simp only [Value.slice.injEq, Option.some.injEq, Addr.mk.injEq, and_true, true_and] at h1
    obtain ⟨⟨rfl, rfl⟩, rfl⟩ := h1
    have hg' : Has w g e cur := hg
    exact hg'.free j
end

section
variable {P : Program} (w : World)

theorem run_append_roomy (t ty e : TypeId) (i : TypeInfo) (ht : P.underlying t = some (.slice e)) (hi : P.info? e = some i)
    (g off sLen sCap : Nat) (cur : Array Value) (hg : w.heap[g]? = some (.cells cur e (0, 0)))
    (a : Addr) (m c : Nat) (news : List Value) (hl : news.length = m * i.size) (hnews : ∀ j u, news[j]? = some u → w.cell? (a.add j) = some u) (h1 : ∀ u ∈ news, u.oneCell' = true)
    (hroom : sLen + m ≤ sCap) (hfit : off + sLen * i.size + news.length ≤ cur.size) :
    (Builtin.append_ #[t, t] ty #[.slice (some ⟨g, off, none⟩) sLen sCap, .slice (some a) m c]).run P w =
      .ok (.slice (some ⟨g, off, none⟩) (sLen + m) sCap) (w.setRow g (cur.toList.take (off + sLen * i.size) ++ news ++ cur.toList.drop (off + sLen * i.size + news.length)).toArray) := by
  have hf := run_firstCells_some (P := P) w i.size m a m c news hl hnews
  have hst := run_storeCells_at P g (off + sLen * i.size) e news 0 cur w hg (by simpa using hfit) h1
  simp only [Nat.add_zero] at hst
  have ha : (⟨g, off, none⟩ : Addr).add (sLen * i.size) = ⟨g, off + sLen * i.size, none⟩ := by unfold Addr.add; split <;> simp_all
  simp [Builtin.append_, run_underlying ht, sizeOf, typeInfo, hi, Builtin.lenOf, hroom, hf, ha, hst]

theorem run_append_seg (t ty : TypeId) (e : TypeId) (i : TypeInfo) (z : Value) (size bytes : Nat) (ht : P.underlying t = some (.slice e)) (hi : P.info? e = some i) (hz : i.zero = some z)
    (hsize : i.size = size) (hby : i.bytes = bytes) (hzs : z.cells.size = size) (hsz : 0 < size)
    (v : Value) (n : Nat) (xs : List Value) (hown : Seg w e size v n xs)
    (a : Addr) (m c : Nat) (news : List Value) (hl : news.length = m * size) (hnews : ∀ j u, news[j]? = some u → w.cell? (a.add j) = some u) (h1 : ∀ u ∈ news, u.oneCell' = true)
    (hm : 0 < m) (h63 : n + m ≤ maxLen) (hbytes : (n + m) * bytes ≤ 140737488355328) (H : Nat) (hH : w.heap.size = H) :
    ∃ g off cap w', (Builtin.append_ #[t, t] ty #[v, .slice (some a) m c]).run P w = .ok (.slice (some ⟨g, off, none⟩) (n + m) cap) w' ∧
      Seg w' e size (.slice (some ⟨g, off, none⟩) (n + m) cap) (n + m) (xs ++ news) ∧ w.grownBy w' v.ownBlock ∧ (v.ownBlock = some g ∨ g = H) ∧ g < w'.heap.size := by
  subst hsize
  subst hby
  have hlen : (xs ++ news).length = (n + m) * i.size := by rw [List.length_append, hown.1, hl, Nat.add_mul]
  have hsmall : n + m ≤ 9223372036854775807 := by simp only [maxLen] at h63; omega
  rcases hown.2 with ⟨rfl, rfl⟩ | ⟨g, off, cap, cur, rfl, hg, hnc, hcm, hcs, htake⟩
  · obtain ⟨g, cap, w', hr, h2, h3, h4, h5⟩ := run_append_lies (P := P) w t ty 0 e i z i.size i.bytes ht hi hz rfl rfl hzs hsz (.slice none 0 0) 0 xs ⟨hown.1, .inl ⟨rfl, rfl⟩⟩ a m c news hl hnews h1 hm h63 hbytes (Nat.zero_le _) H hH
    exact ⟨g, 0, cap, w', hr, .of_own h2, h3, h4, h5⟩
  · by_cases hroom : n + m ≤ cap
    · have hfit : off + n * i.size + news.length ≤ cur.size := by
        have h2 : (n + m) * i.size ≤ cap * i.size := Nat.mul_le_mul_right _ hroom
        rw [Nat.add_mul] at h2
        rw [hl]
        omega
      have hr := run_append_roomy (P := P) w t ty e i ht hi g off n cap cur hg a m c news hl hnews h1 hroom hfit
      have hgl : g < w.heap.size := hown.lt rfl
      refine ⟨g, off, cap, _, hr, ⟨hlen, .inr ⟨g, off, cap, _, rfl, setRow_heap w g cur _ e _ hg, hroom, hcm, ?_, ?_⟩⟩, ⟨rfl, rfl, rfl, by simp, fun k _ hk => setRow_other w g k _ (fun e => hk (by simp [Value.ownBlock, e]))⟩, .inl rfl, by simpa [World.setRow] using hgl⟩
      · simp only [List.size_toArray, List.length_append, List.length_take, List.length_drop, Array.length_toList]
        omega
      · have h3 : (cur.toList.take (off + n * i.size)).drop off = xs := by rw [List.drop_take, ← htake]; congr 1; omega
        have h4 : off ≤ (cur.toList.take (off + n * i.size)).length := by simp only [List.length_take, Array.length_toList]; omega
        show (List.drop off (cur.toList.take (off + n * i.size) ++ news ++ cur.toList.drop (off + n * i.size + news.length))).take _ = _
        rw [List.append_assoc, List.drop_append_of_le_length h4, h3, ← List.append_assoc, ← hlen]
        exact List.take_left
    · have holds : ∀ j u, xs[j]? = some u → w.cell? ((⟨g, off, none⟩ : Addr).add j) = some u := by
        intro j u hj
        by_cases hn : 0 < n
        · obtain ⟨g', off', c', hv, _, _, _, hc⟩ := hown.cells hn
          simp only [Value.slice.injEq, Option.some.injEq, Addr.mk.injEq, and_true, true_and] at hv
          obtain ⟨⟨rfl, rfl⟩, rfl⟩ := hv
          have ha : (⟨g, off, none⟩ : Addr).add j = ⟨g, off + j, none⟩ := by unfold Addr.add; split <;> simp_all
          rw [ha]
          exact hc j u hj
        · obtain rfl : n = 0 := by omega
          have hx : xs = [] := List.eq_nil_of_length_eq_zero (by simpa using hown.1)
          rw [hx] at hj
          cases hj
      have hr := run_append_grow (P := P) w t ty e i z ht hi hz ⟨g, off, none⟩ n cap xs hown.1 holds a m c news hl hnews (by omega) (by omega) (growslice_fits (by omega) hbytes)
      refine ⟨_, 0, _, _, hr, ⟨hlen, .inr ⟨w.heap.size, 0, _, _, rfl, heap_alloc_new w.drew _, grownCap_ge w (n + m) cap e, grownCap_le_maxLen w (n + m) cap e h63, ?_, ?_⟩⟩, ⟨rfl, rfl, rfl, by simp, fun k hk _ => Below.heap_alloc w.drew _ k hk⟩, .inr hH, by simp⟩
      · have hge := grownCap_ge w (n + m) cap e
        have h5 : (n + m) * i.size + (grownCap w (n + m) cap e - (n + m)) * i.size = grownCap w (n + m) cap e * i.size := by rw [← Nat.add_mul, Nat.add_sub_cancel' hge]
        simp only [Array.size_append, List.size_toArray, size_zeroCells, hzs, hown.1, hl]
        rw [Nat.add_mul] at h5
        omega
      · simp only [Array.toList_append, List.append_assoc, List.drop_zero]
        rw [← List.append_assoc, ← hlen]
        exact List.take_left

/-- At the operation. -/
theorem wp_append_seg {o : Oper} {a : Act} {K : Act → World → Prop} {Q : Exit → Act → World → Prop} (s x : Operand) (t : TypeId)
    (ho : o.op = .call { callee := .builtin .append, args := #[s, x], argTypes := #[t, t] })
    (e : TypeId) (i : TypeInfo) (z : Value) (size bytes : Nat) (ht : P.underlying t = some (.slice e)) (hi : P.info? e = some i) (hz : i.zero = some z)
    (hsize : i.size = size) (hby : i.bytes = bytes) (hzs : z.cells.size = size) (hsz : 0 < size)
    (v : Value) (n : Nat) (xs : List Value) (hs : a.eval s = v) (hown : Seg w e size v n xs)
    (ad : Addr) (m c : Nat) (news : List Value) (hx : a.eval x = .slice (some ad) m c) (hl : news.length = m * size) (hnews : ∀ j u, news[j]? = some u → w.cell? (ad.add j) = some u) (h1 : ∀ u ∈ news, u.oneCell' = true)
    (hm : 0 < m) (h63 : n + m ≤ maxLen) (hbytes : (n + m) * bytes ≤ 140737488355328) (H : Nat) (hH : w.heap.size = H)
    (h : ∀ g off cap w', Seg w' e size (.slice (some ⟨g, off, none⟩) (n + m) cap) (n + m) (xs ++ news) → w.grownBy w' v.ownBlock → (v.ownBlock = some g ∨ g = H) → g < w'.heap.size → K (a.put o.dst (.slice (some ⟨g, off, none⟩) (n + m) cap)) w') : o.wp P a w K Q := by
  obtain ⟨g, off, cap, w', hr, h2, h3, h4, h5⟩ := run_append_seg (P := P) w t o.type e i z size bytes ht hi hz hsize hby hzs hsz v n xs hown ad m c news hl hnews h1 hm h63 hbytes H hH
  unfold Oper.wp execOp
  simp only [ho, resolve, invoke, builtin, Sem.run_bind, Sem.run_pure, Result.andThen_ok, List.map_toArray, List.map_cons, List.map_nil, hs, hx, hr]
  exact h g off cap w' h2 h3 h4 h5

/-- At the list of a plain region's operations. -/
theorem wpList_append_seg {ops : Array Oper} {rest : List Oper} {o : Oper} {a : Act} {Q : Exit → Act → World → Prop} (hgd : o.guard = none) (s x : Operand) (t : TypeId)
    (ho : o.op = .call { callee := .builtin .append, args := #[s, x], argTypes := #[t, t] })
    (e : TypeId) (i : TypeInfo) (z : Value) (size bytes : Nat) (ht : P.underlying t = some (.slice e)) (hi : P.info? e = some i) (hz : i.zero = some z)
    (hsize : i.size = size) (hby : i.bytes = bytes) (hzs : z.cells.size = size) (hsz : 0 < size)
    (v : Value) (n : Nat) (xs : List Value) (hs : a.eval s = v) (hown : Seg w e size v n xs)
    (ad : Addr) (m c : Nat) (news : List Value) (hx : a.eval x = .slice (some ad) m c) (hl : news.length = m * size) (hnews : ∀ j u, news[j]? = some u → w.cell? (ad.add j) = some u) (h1 : ∀ u ∈ news, u.oneCell' = true)
    (hm : 0 < m) (h63 : n + m ≤ maxLen) (hbytes : (n + m) * bytes ≤ 140737488355328) (H : Nat) (hH : w.heap.size = H)
    (h : ∀ g off cap w', Seg w' e size (.slice (some ⟨g, off, none⟩) (n + m) cap) (n + m) (xs ++ news) → w.grownBy w' v.ownBlock → (v.ownBlock = some g ∨ g = H) → g < w'.heap.size → wpList P ops Q rest (a.put o.dst (.slice (some ⟨g, off, none⟩) (n + m) cap)) w') : wpList P ops Q (o :: rest) a w :=
  wpList_plain hgd fun _ hK => wp_append_seg w s x t ho e i z size bytes ht hi hz hsize hby hzs hsz v n xs hs hown ad m c news hx hl hnews h1 hm h63 hbytes H hH fun g off cap w' h2 h3 h4 h5 => hK _ _ (h g off cap w' h2 h3 h4 h5)

/-- At a step of a region that draws its order. -/
theorem step_append_seg {ops : Array Oper} {o : Oper} {a : Act} {K : Act → World → Prop} {Q : Exit → Act → World → Prop} {E : Prop} (hgd : o.guard = none) (s x : Operand) (t : TypeId)
    (ho : o.op = .call { callee := .builtin .append, args := #[s, x], argTypes := #[t, t] })
    (e : TypeId) (i : TypeInfo) (z : Value) (size bytes : Nat) (ht : P.underlying t = some (.slice e)) (hi : P.info? e = some i) (hz : i.zero = some z)
    (hsize : i.size = size) (hby : i.bytes = bytes) (hzs : z.cells.size = size) (hsz : 0 < size)
    (v : Value) (n : Nat) (xs : List Value) (hs : a.eval s = v) (hown : Seg w e size v n xs)
    (ad : Addr) (m c : Nat) (news : List Value) (hx : a.eval x = .slice (some ad) m c) (hl : news.length = m * size) (hnews : ∀ j u, news[j]? = some u → w.cell? (ad.add j) = some u) (h1 : ∀ u ∈ news, u.oneCell' = true)
    (hm : 0 < m) (h63 : n + m ≤ maxLen) (hbytes : (n + m) * bytes ≤ 140737488355328) (H : Nat) (hH : w.heap.size = H)
    (h : ∀ g off cap w', Seg w' e size (.slice (some ⟨g, off, none⟩) (n + m) cap) (n + m) (xs ++ news) → w.grownBy w' v.ownBlock → (v.ownBlock = some g ∨ g = H) → g < w'.heap.size → K (a.put o.dst (.slice (some ⟨g, off, none⟩) (n + m) cap)) w') :
    if Region.wanted o (yielded ops a.tmps) = true then Oper.wp P o a w K Q else E := by
  have hw : Region.wanted o (yielded ops a.tmps) = true := by simp [Region.wanted, hgd]
  rw [if_pos hw]
  exact wp_append_seg w s x t ho e i z size bytes ht hi hz hsize hby hzs hsz v n xs hs hown ad m c news hx hl hnews h1 hm h63 hbytes H hH h
end
end Go.Proofs.YthbncejbcegmgaaDoor
end

section
/- tree, proof: the mathematics of halves, roots, proofs. -/
namespace Go.Proofs.YthbncejbcegmgaaDoor.dig
open Go

/-- The root over n leaves, 1 and more, from one on. -/
def rt (f : Nat → List UInt8) (a n : Nat) : List UInt8 :=
  if _h : 2 ≤ n then nodeS (rt f a (half n)) (rt f (a + half n) (n - half n)) else f a
termination_by n
decreasing_by
  · exact half_lt _h
  · have := half_pos n; omega
theorem rt_one (f : Nat → List UInt8) (a : Nat) : rt f a 1 = f a := by rw [rt, dif_neg (by omega)]
theorem rt_two (f : Nat → List UInt8) (a : Nat) {n : Nat} (h : 2 ≤ n) : rt f a n = nodeS (rt f a (half n)) (rt f (a + half n) (n - half n)) := by rw [rt, dif_pos h]
theorem rt_pow (f : Nat → List UInt8) (a j : Nat) : rt f a (2 ^ (j + 1)) = nodeS (rt f a (2 ^ j)) (rt f (a + 2 ^ j) (2 ^ j)) := by
  have h0 : 0 < 2 ^ j := Nat.pow_pos (by decide)
  rw [rt_two f a (n := 2 ^ (j + 1)) (by rw [Nat.pow_succ]; omega), half_pow, show 2 ^ (j + 1) - 2 ^ j = 2 ^ j by rw [Nat.pow_succ]; omega]
theorem rt_congr (f g : Nat → List UInt8) : ∀ (n a : Nat), 0 < n → (∀ i, a ≤ i → i < a + n → f i = g i) → rt f a n = rt g a n := by
  intro n
  induction n using Nat.strongRecOn with
  | _ n ih =>
    intro a h0 h
    by_cases h2 : 2 ≤ n
    · have := half_pos n
      have := half_lt h2
      rw [rt_two f a h2, rt_two g a h2, ih (half n) (by omega) a (by omega) (fun i h1 h3 => h i h1 (by omega)), ih (n - half n) (by omega) _ (by omega) (fun i h1 h3 => h i (by omega) (by omega))]
    · obtain rfl : n = 1 := by omega
      rw [rt_one, rt_one]
      exact h a (Nat.le_refl _) (by omega)
theorem rt_length (f : Nat → List UInt8) : ∀ (n a : Nat), (∀ i, a ≤ i → i < a + n → (f i).length = 32) → 0 < n → (rt f a n).length = 32 := by
  intro n a h h0
  by_cases h2 : 2 ≤ n
  · rw [rt_two f a h2]
    exact nodeS_length _ _
  · obtain rfl : n = 1 := by omega
    rw [rt_one]
    exact h a (Nat.le_refl _) (by omega)

/-- The root over all of n leaves. -/
def rtAll (f : Nat → List UInt8) (n : Nat) : List UInt8 := if n = 0 then sum [] else rt f 0 n

/-- What comes of a leaf's sum, the i-th of n, by sums from outside in. -/
def up (x : List UInt8) : Nat → Nat → List (List UInt8) → List UInt8 × Bool
  | _, n, [] => (x, n == 1)
  | i, n, o :: r => if n = 1 then (x, false) else
    if i < half n then (nodeS (up x i (half n) r).1 o, (up x i (half n) r).2)
    else (nodeS o (up x (i - half n) (n - half n) r).1, (up x (i - half n) (n - half n) r).2)

/-- What comes of the roots over the first m and all n, by sums from outside in; old: the root over the first m. -/
def both (old : List UInt8) : Nat → Nat → Bool → List (List UInt8) → List UInt8 × List UInt8 × Bool
  | m, n, first, [] => (old, old, m == n && first)
  | m, n, first, o :: r => if m = n then (if first then (old, old, false) else (o, o, r.isEmpty)) else
    if m ≤ half n then
      let p := both old m (half n) first r
      (p.1, nodeS p.2.1 o, p.2.2)
    else
      let p := both old (m - half n) (n - half n) false r
      (nodeS o p.1, nodeS o p.2.1, p.2.2)

/-- The proof of the i-th among n from one on, from within out. -/
def path (f : Nat → List UInt8) (i a n : Nat) : List (List UInt8) :=
  if _h : 2 ≤ n then (if i < half n then path f i a (half n) ++ [rt f (a + half n) (n - half n)] else path f (i - half n) (a + half n) (n - half n) ++ [rt f a (half n)]) else []
termination_by n
decreasing_by
  · exact half_lt _h
  · have := half_pos n; omega

/-- The proof of the first m among n from one on, from within out. -/
def steps (f : Nat → List UInt8) (m a n : Nat) (first : Bool) : List (List UInt8) :=
  if m = n then (if first then [] else [rt f a n]) else
  if _h : 2 ≤ n then (if m ≤ half n then steps f m a (half n) first ++ [rt f (a + half n) (n - half n)] else steps f (m - half n) (a + half n) (n - half n) false ++ [rt f a (half n)]) else []
termination_by n
decreasing_by
  · exact half_lt _h
  · have := half_pos n; omega
theorem half_pow_le {n D : Nat} (h2 : 2 ≤ n) (h : n ≤ 2 ^ D) : ∃ d, D = d + 1 ∧ half n ≤ 2 ^ d ∧ n - half n ≤ 2 ^ d := by
  have l2 := half_ge h2
  cases D with
  | zero => simp at h; omega
  | succ d =>
    have h3 : half n ≤ 2 ^ d := by
      unfold half
      refine Nat.pow_le_pow_right (by decide) ?_
      have : Nat.log2 (n - 1) < d + 1 := (Nat.log2_lt (by omega)).2 (by omega)
      omega
    exact ⟨d, rfl, h3, by omega⟩
theorem path_le (f : Nat → List UInt8) : ∀ (D n a i : Nat), n ≤ 2 ^ D → (path f i a n).length ≤ D := by
  intro D
  induction D with
  | zero => intro n a i h; rw [path, dif_neg (by simp at h; omega)]; simp
  | succ d ih =>
    intro n a i h
    rw [path]
    split
    · rename_i h2
      obtain ⟨d', e, h3, h4⟩ := half_pow_le h2 h
      obtain rfl : d = d' := by omega
      split
      · rw [List.length_append]; have := ih _ a i h3; simp; omega
      · rw [List.length_append]; have := ih _ (a + half n) (i - half n) h4; simp; omega
    · simp
theorem steps_le (f : Nat → List UInt8) : ∀ (D n a m : Nat) (first : Bool), n ≤ 2 ^ D → (steps f m a n first).length ≤ D + 1 := by
  intro D
  induction D with
  | zero =>
    intro n a m first h
    rw [steps]
    split
    · split <;> simp
    · rw [dif_neg (by simp at h; omega)]; simp
  | succ d ih =>
    intro n a m first h
    rw [steps]
    split
    · split <;> simp
    · split
      · rename_i h2
        obtain ⟨d', e, h3, h4⟩ := half_pow_le h2 h
        obtain rfl : d = d' := by omega
        split
        · rw [List.length_append]; have := ih _ a m first h3; simp; omega
        · rw [List.length_append]; have := ih _ (a + half n) (m - half n) false h4; simp; omega
      · simp
end Go.Proofs.YthbncejbcegmgaaDoor.dig
end

section
/- Lists that are made of pieces of one length. Of no program. -/
namespace Go.Proofs.YthbncejbcegmgaaDoor

/-- The pieces of k places, from a on. -/
def flat {α : Type} (g : Nat → List α) (a k : Nat) : List α := (List.range' a k).flatMap g

section
variable {α : Type} {g h : Nat → List α} {a k w : Nat}

theorem flat_zero (g : Nat → List α) (a : Nat) : flat g a 0 = [] := rfl
theorem flat_succ (g : Nat → List α) (a k : Nat) : flat g a (k + 1) = g a ++ flat g (a + 1) k := by
  unfold flat
  rw [List.range'_succ, List.flatMap_cons]
theorem flat_snoc (g : Nat → List α) (a k : Nat) : flat g a (k + 1) = flat g a k ++ g (a + k) := by
  unfold flat
  rw [List.range'_concat, List.flatMap_append]
  simp
theorem flat_add (g : Nat → List α) (a k m : Nat) : flat g a (k + m) = flat g a k ++ flat g (a + k) m := by
  induction m with
  | zero => simp [flat_zero]
  | succ m ih => rw [← Nat.add_assoc, flat_snoc, ih, flat_snoc, List.append_assoc, Nat.add_assoc]
theorem flat_congr (e : ∀ i, a ≤ i → i < a + k → g i = h i) : flat g a k = flat h a k := by
  induction k with
  | zero => rfl
  | succ k ih => rw [flat_snoc, flat_snoc, ih (fun i h1 h2 => e i h1 (by omega)), e (a + k) (by omega) (by omega)]
theorem flat_len (e : ∀ i, a ≤ i → i < a + k → (g i).length = w) : (flat g a k).length = k * w := by
  induction k with
  | zero => simp [flat_zero]
  | succ k ih => rw [flat_snoc, List.length_append, ih (fun i h1 h2 => e i h1 (by omega)), e (a + k) (by omega) (by omega), Nat.succ_mul]
theorem flat_get (e : ∀ i, a ≤ i → i < a + k → (g i).length = w) {j r : Nat} (hj : j < k) (hr : r < w) : (flat g a k)[j * w + r]? = (g (a + j))[r]? := by
  obtain ⟨m, rfl⟩ : ∃ m, k = j + (m + 1) := ⟨k - j - 1, by omega⟩
  have h1 : (flat g a j).length = j * w := flat_len (fun i h1 h2 => e i h1 (by omega))
  rw [flat_add, List.getElem?_append_right (by omega), h1, Nat.add_sub_cancel_left, flat_succ, List.getElem?_append_left (by rw [e (a + j) (by omega) (by omega)]; exact hr)]
theorem flat_drop (e : ∀ i, a ≤ i → i < a + k → (g i).length = w) {m : Nat} (hm : m ≤ k) : (flat g a k).drop (m * w) = flat g (a + m) (k - m) := by
  obtain ⟨q, rfl⟩ : ∃ q, k = m + q := ⟨k - m, by omega⟩
  have h1 : (flat g a m).length = m * w := flat_len (fun i h1 h2 => e i h1 (by omega))
  rw [flat_add, ← h1, List.drop_left, Nat.add_sub_cancel_left]
theorem flat_take (e : ∀ i, a ≤ i → i < a + k → (g i).length = w) {m : Nat} (hm : m ≤ k) : (flat g a k).take (m * w) = flat g a m := by
  obtain ⟨q, rfl⟩ : ∃ q, k = m + q := ⟨k - m, by omega⟩
  have h1 : (flat g a m).length = m * w := flat_len (fun i h1 h2 => e i h1 (by omega))
  rw [flat_add, ← h1, List.take_left]
theorem flat_set (e : ∀ i, a ≤ i → i < a + k → (g i).length = w) {j r : Nat} (hj : j < k) (hr : r < w) (u : α) : (flat g a k).set (j * w + r) u = flat (fun i => if i = a + j then (g i).set r u else g i) a k := by
  obtain ⟨m, rfl⟩ : ∃ m, k = j + (m + 1) := ⟨k - j - 1, by omega⟩
  have h1 : (flat g a j).length = j * w := flat_len (fun i h1 h2 => e i h1 (by omega))
  have e1 : flat (fun i => if i = a + j then (g i).set r u else g i) a j = flat g a j := flat_congr (fun i h1 h2 => by rw [if_neg (by omega)])
  have e2 : flat (fun i => if i = a + j then (g i).set r u else g i) (a + j + 1) m = flat g (a + j + 1) m := flat_congr (fun i h1 h2 => by rw [if_neg (by omega)])
  have e3 := flat_add (fun i => if i = a + j then (g i).set r u else g i) a j (m + 1)
  rw [flat_succ, e1, e2, if_pos rfl] at e3
  rw [e3, flat_add g a j (m + 1), flat_succ g, List.set_append_right _ _ (by omega), h1, Nat.add_sub_cancel_left, List.set_append_left _ _ (by rw [e (a + j) (by omega) (by omega)]; exact hr)]
end
end Go.Proofs.YthbncejbcegmgaaDoor
end

section
/- tree: the mathematics of rows: how many there are, what is gone of them, what is still there. -/
namespace Go.Proofs.YthbncejbcegmgaaDoor.dig
open Go

/-- How many rows a tree of n leaves has. -/
def tops (n : Nat) : Nat := if n = 0 then 0 else Nat.log2 n + 1
theorem lt_tops {j n : Nat} : j < tops n ↔ 2 ^ j ≤ n := by
  unfold tops
  by_cases h : n = 0
  · subst h
    have := Nat.pow_pos (n := j) (show 0 < 2 by decide)
    simp
  · rw [if_neg h, ← Nat.le_log2 h]
    omega
theorem tops_le {n k : Nat} (h : n < 2 ^ k) : tops n ≤ k := by
  rcases Nat.lt_or_ge k (tops n) with h1 | h1
  · have := lt_tops.1 h1; omega
  · exact h1
theorem tops_small {n : Nat} (h : n < 4294967296) : tops n ≤ 32 := tops_le (by simpa using h)
theorem div_zero {n j : Nat} (h : tops n ≤ j) : n / 2 ^ j = 0 := by
  refine Nat.div_eq_of_lt ?_
  rcases Nat.lt_or_ge n (2 ^ j) with h1 | h1
  · exact h1
  · have := lt_tops.2 h1; omega
theorem div_pos {n j : Nat} (h : j < tops n) : 0 < n / 2 ^ j := Nat.div_pos (lt_tops.1 h) (Nat.pow_pos (by decide))
theorem half_div (n j : Nat) : n / 2 ^ (j + 1) = n / 2 ^ j / 2 := by rw [Nat.pow_succ, Nat.div_div_eq_div_mul]

/-- How many of row j are gone, where the floor is fl. -/
def gone (fl j : Nat) : Nat := 2 * (fl / 2 ^ (j + 1))
theorem gone_le {fl n : Nat} (j : Nat) (h : fl ≤ n) : gone fl j ≤ n / 2 ^ j := by
  unfold gone
  rw [half_div]
  have := Nat.div_le_div_right (c := 2 ^ j) h
  omega
theorem gone_zero (j : Nat) : gone 0 j = 0 := by unfold gone; simp
theorem gone_mono {fl fl' : Nat} (j : Nat) (h : fl ≤ fl') : gone fl j ≤ gone fl' j := by
  unfold gone
  have := Nat.div_le_div_right (c := 2 ^ (j + 1)) h
  omega

/-- What adding a leaf does, row by row. -/
theorem add_div {n j : Nat} (h : 2 ^ j ∣ n + 1) : (n + 1) / 2 ^ j = n / 2 ^ j + 1 := by
  obtain ⟨q, hq⟩ := h
  have h0 : 0 < 2 ^ j := Nat.pow_pos (by decide)
  rw [hq, Nat.mul_div_cancel_left _ h0]
  have hq0 : q ≠ 0 := by rintro rfl; simp at hq
  obtain ⟨p, rfl⟩ : ∃ p, q = p + 1 := ⟨q - 1, by omega⟩
  congr 1
  symm
  rw [Nat.mul_add, Nat.mul_one] at hq
  refine Nat.div_eq_of_lt_le ?_ ?_
  · rw [Nat.mul_comm]; omega
  · rw [Nat.succ_mul, Nat.mul_comm p]; omega
theorem add_place {n j : Nat} (h : 2 ^ j ∣ n + 1) : n / 2 ^ j * 2 ^ j = n + 1 - 2 ^ j := by
  have h1 := add_div h
  have h2 := Nat.div_mul_cancel h
  rw [h1, Nat.succ_mul] at h2
  omega
theorem add_next {n j : Nat} (h : 2 ^ j ∣ n + 1) (ho : n / 2 ^ j % 2 = 1) : 2 ^ (j + 1) ∣ n + 1 := by
  have h1 := add_div h
  have h2 := Nat.div_mul_cancel h
  rw [h1] at h2
  obtain ⟨p, hp⟩ : ∃ p, n / 2 ^ j + 1 = 2 * p := ⟨(n / 2 ^ j + 1) / 2, by omega⟩
  rw [hp] at h2
  exact ⟨p, by rw [Nat.pow_succ, Nat.mul_assoc, ← h2, Nat.mul_comm]⟩
theorem add_rest {n j i : Nat} (h : 2 ^ j ∣ n + 1) (he : n / 2 ^ j % 2 = 0) (hi : j < i) : (n + 1) / 2 ^ i = n / 2 ^ i := by
  have h1 := add_div h
  obtain ⟨d, rfl⟩ : ∃ d, i = j + 1 + d := ⟨i - j - 1, by omega⟩
  have h2 : (n + 1) / 2 ^ (j + 1) = n / 2 ^ (j + 1) := by rw [half_div, half_div, h1]; omega
  rw [Nat.pow_add, ← Nat.div_div_eq_div_mul, ← Nat.div_div_eq_div_mul, h2]
theorem add_tops {n j : Nat} (h : 2 ^ j ∣ n + 1) : j ≤ tops n := by
  rcases Nat.lt_or_ge (tops n) j with h1 | h1
  · have h2 : ¬ tops n < tops n := Nat.lt_irrefl _
    rw [lt_tops] at h2
    have h3 : 2 ^ (tops n + 1) ≤ 2 ^ j := Nat.pow_le_pow_right (by decide) h1
    have h4 := Nat.le_of_dvd (by omega) h
    rw [Nat.pow_succ] at h3
    have : 0 < 2 ^ tops n := Nat.pow_pos (by decide)
    omega
  · exact h1
theorem add_top {n : Nat} (h : 2 ^ tops n ∣ n + 1) : n + 1 = 2 ^ tops n := by
  have h2 : ¬ tops n < tops n := Nat.lt_irrefl _
  rw [lt_tops] at h2
  have h4 := Nat.le_of_dvd (by omega) h
  omega
theorem tops_pow (j : Nat) : tops (2 ^ j) = j + 1 := by
  have h1 : j < tops (2 ^ j) := lt_tops.2 (Nat.le_refl _)
  have h2 : tops (2 ^ j) ≤ j + 1 := tops_le (Nat.pow_lt_pow_right (by decide) (Nat.lt_succ_self _))
  omega
theorem tops_same {n j : Nat} (h : 2 ^ j ∣ n + 1) (he : n / 2 ^ j % 2 = 0) (hj : j < tops n) : tops (n + 1) = tops n := by
  have h1 : tops n ≤ tops (n + 1) := by
    rcases Nat.lt_or_ge (tops (n + 1)) (tops n) with h1 | h1
    · have h2 := lt_tops.1 h1
      have h3 : ¬ tops (n + 1) < tops (n + 1) := Nat.lt_irrefl _
      rw [lt_tops] at h3
      omega
    · exact h1
  rcases Nat.lt_or_ge (tops n) (tops (n + 1)) with h2 | h2
  · have h3 := div_pos h2
    rw [add_rest h he hj, div_zero (Nat.le_refl _)] at h3
    omega
  · omega

/-- What of the leaves from a on, n of them, is needed for their root is there: the floor is fl. -/
def Av (fl a n : Nat) : Prop :=
  (∃ j, n = 2 ^ j ∧ 2 ^ (j + 1) ∣ a ∧ fl < a + 2 ^ (j + 1)) ∨ (0 < n ∧ ∃ K, 2 ^ K ∣ a ∧ n < 2 ^ K ∧ fl ≤ a + n) ∨ (0 < n ∧ ∃ K, 2 ^ K ∣ a ∧ n ≤ 2 ^ K ∧ fl < a + n)
theorem Av.pos {fl a n : Nat} (h : Av fl a n) : 0 < n := by
  rcases h with ⟨j, rfl, _⟩ | ⟨h, _⟩ | ⟨h, _⟩
  · exact Nat.pow_pos (by decide)
  · exact h
  · exact h
theorem dvd_of_le {a i j : Nat} (h : 2 ^ j ∣ a) (hi : i ≤ j) : 2 ^ i ∣ a := Nat.dvd_trans (Nat.pow_dvd_pow 2 hi) h
theorem pow_lt_iff {i j : Nat} (h : 2 ^ i < 2 ^ j) : i < j := (Nat.pow_lt_pow_iff_right (by decide)).1 h
/-- A whole subtree is in its row. -/
theorem Av.row {fl a j : Nat} (h : Av fl a (2 ^ j)) : 2 ^ j ∣ a ∧ gone fl j ≤ a / 2 ^ j := by
  have key : ∀ (a : Nat), 2 ^ j ∣ a → fl < (a / 2 ^ j / 2 + 1) * 2 ^ (j + 1) → gone fl j ≤ a / 2 ^ j := by
    intro a _ h2
    have h3 : fl / 2 ^ (j + 1) < a / 2 ^ j / 2 + 1 := Nat.div_lt_of_lt_mul (by rw [Nat.mul_comm]; exact h2)
    unfold gone
    omega
  have even : ∀ (a : Nat), 2 ^ (j + 1) ∣ a → fl < a + 2 ^ (j + 1) → gone fl j ≤ a / 2 ^ j := by
    intro a h1 h2
    refine key a (dvd_of_le h1 (Nat.le_succ _)) ?_
    rw [← half_div, Nat.succ_mul, Nat.div_mul_cancel h1]
    exact h2
  have h0 : 0 < 2 ^ j := Nat.pow_pos (by decide)
  rcases h with ⟨i, hi, h1, h2⟩ | ⟨_, K, h1, h2, h3⟩ | ⟨_, K, h1, h2, h3⟩
  · obtain rfl : j = i := (Nat.pow_right_inj (by decide)).1 hi
    exact ⟨dvd_of_le h1 (Nat.le_succ _), even a h1 h2⟩
  · have := pow_lt_iff h2
    refine ⟨dvd_of_le h1 (by omega), even a (dvd_of_le h1 this) ?_⟩
    rw [Nat.pow_succ]; omega
  · have hK : j ≤ K := (Nat.pow_le_pow_iff_right (by decide)).1 h2
    have hd := dvd_of_le h1 hK
    refine ⟨hd, key a hd ?_⟩
    have e1 := Nat.div_mul_cancel hd
    have e2 : a / 2 ^ j < (a / 2 ^ j / 2 + 1) * 2 := by omega
    have e3 : (a / 2 ^ j + 1) * 2 ^ j ≤ (a / 2 ^ j / 2 + 1) * 2 * 2 ^ j := Nat.mul_le_mul_right _ e2
    rw [Nat.succ_mul, e1] at e3
    rw [Nat.pow_succ, Nat.mul_comm (2 ^ j) 2, ← Nat.mul_assoc]
    omega
/-- Of more than a whole subtree both halves are there. -/
theorem Av.halves {fl a n : Nat} (h : Av fl a n) (h2 : 2 ≤ n) (hp : ∀ j, n ≠ 2 ^ j) : Av fl a (half n) ∧ Av fl (a + half n) (n - half n) := by
  have l1 := half_lt h2
  have l2 := half_ge h2
  have l3 : n ≠ 2 * half n := fun e => hp (Nat.log2 (n - 1) + 1) (by rw [Nat.pow_succ, Nat.mul_comm]; exact e)
  have e1 : half n = 2 ^ Nat.log2 (n - 1) := rfl
  generalize Nat.log2 (n - 1) = i at *
  have h3 : ∃ K, 2 ^ K ∣ a ∧ n ≤ 2 ^ K ∧ fl ≤ a + n := by
    rcases h with ⟨j, hj, _⟩ | ⟨_, K, h1, h2, h3⟩ | ⟨_, K, h1, h2, h3⟩
    · exact absurd hj (hp j)
    · exact ⟨K, h1, by omega, h3⟩
    · exact ⟨K, h1, h2, by omega⟩
  obtain ⟨K, h4, h5, h6⟩ := h3
  have hiK : i < K := pow_lt_iff (by omega)
  refine ⟨.inl ⟨i, e1, dvd_of_le h4 hiK, by rw [Nat.pow_succ]; omega⟩, .inr (.inl ⟨by omega, i, ?_, by omega, by omega⟩)⟩
  rw [e1]
  exact (Nat.dvd_add_iff_left (Nat.dvd_refl _)).1 (dvd_of_le h4 (Nat.le_of_lt hiK))
end Go.Proofs.YthbncejbcegmgaaDoor.dig
end

section
/- tree: what a tree is in memory. -/
namespace Go.Proofs.YthbncejbcegmgaaDoor.dig
open Go Go.RowKit

/-- The tables that are laid: digest's rounds, and that of trailing zeros; their blocks lie below B. -/
structure Rt (B : Nat) (w : World) : Prop where
  rk : Rk w
  tz : ∀ (i x : Nat), Lib.deBruijn64tab[i]? = some x → w.cell? ⟨1, i, none⟩ = some (.int .u8 (x : Int))
  lo : 2 < B ∧ 1 < B
  size : B ≤ w.heap.size
theorem Rt.keep {B : Nat} {w w' : World} (h : Rt B w) (s : w.heap.size ≤ w'.heap.size) (e : ∀ k, k < B → w'.heap[k]? = w.heap[k]?) : Rt B w' :=
  ⟨h.rk.keep (e _ h.lo.1), fun i x hx => by
    have := h.tz i x hx
    unfold World.cell? at *
    rw [e _ h.lo.2]
    exact this, h.lo, Nat.le_trans h.size s⟩
theorem Rt.below {B C : Nat} {w w' : World} (h : Rt B w) (b : Below C w w') (hC : B ≤ C) : Rt B w' := h.keep b.size fun k hk => b.block k (by omega)
theorem Rt.turn {B : Nat} {F : Nat → Prop} {w w' : World} (h : Rt B w) (t : Turn F w w') (hF : ∀ k, F k → B ≤ k) : Rt B w' :=
  h.keep t.size fun k hk => t.block k (by have := h.size; omega) (fun f => by have := hF k f; omega)

/-- The cells of the j-th row's sum number i; a row's own cells. -/
def nodeC (f : Nat → List UInt8) (j i : Nat) : List Value := (cellsOf (rt f (i * 2 ^ j) (2 ^ j))).toList
def rowC (g : Nat → Nat) (sv : Nat → Value) (idle : Nat → Nat) (j : Nat) : List Value := [.int .i64 (g j), sv j, .int .i64 (idle j)]
theorem rowC_len (g : Nat → Nat) (sv : Nat → Value) (idle : Nat → Nat) (j : Nat) : (rowC g sv idle j).length = 3 := rfl

/-- A tree at b, of n leaves, its floor fl, with K rows: of the j-th the first g j are gone, c j is how many there were ever. Its blocks are of F. -/
structure Raw (F : Nat → Prop) (w : World) (b n fl K : Nat) (g c : Nat → Nat) (f : Nat → List UInt8) (rv : Value) (sv : Nat → Value) (idle : Nat → Nat) : Prop where
  tree : Has w b 77 #[.int .i64 n, .int .i64 fl, rv]
  rows : Seg w 107 3 rv K (flat (rowC g sv idle) 0 K)
  sums : ∀ j, j < K → Seg w 33 32 (sv j) (c j - g j) (flat (nodeC f j) (g j) (c j - g j))
  apart : ∀ i j, i < K → j < K → i ≠ j → ∀ x, (sv i).ownBlock = some x → (sv j).ownBlock ≠ some x
  fb : F b
  fr : ∀ x, rv.ownBlock = some x → F x
  fs : ∀ j, j < K → ∀ x, (sv j).ownBlock = some x → F x
  idle : ∀ j, j < K → idle j ≤ 1000000

section
variable {F G : Nat → Prop} {w w' : World} {b n fl K : Nat} {g c : Nat → Nat} {f : Nat → List UInt8} {rv : Value} {sv : Nat → Value} {idle : Nat → Nat}

theorem Raw.turn (h : Raw F w b n fl K g c f rv sv idle) (t : Turn G w w') (hG : ∀ k, F k → k < w.heap.size → ¬ G k) : Raw F w' b n fl K g c f rv sv idle :=
  ⟨h.tree.turn t (hG _ h.fb h.tree.lt), h.rows.turn t (fun x hx => hG x (h.fr x hx) (h.rows.lt hx)), fun j hj => (h.sums j hj).turn t (fun x hx => hG x (h.fs j hj x hx) ((h.sums j hj).lt hx)), h.apart, h.fb, h.fr, h.fs, h.idle⟩
theorem Raw.below (h : Raw F w b n fl K g c f rv sv idle) (t : Below w.heap.size w w') : Raw F w' b n fl K g c f rv sv idle :=
  h.turn (Turn.of_below (F := fun k => w.heap.size ≤ k) t (fun _ _ h => h)) (fun k _ h1 h2 => by omega)
theorem Raw.drew (h : Raw F w b n fl K g c f rv sv idle) : Raw F w.drew b n fl K g c f rv sv idle := ⟨h.tree, h.rows, h.sums, h.apart, h.fb, h.fr, h.fs, h.idle⟩
theorem Raw.alloc (h : Raw F w b n fl K g c f rv sv idle) (o : Obj) : Raw F (w.alloc o) b n fl K g c f rv sv idle :=
  h.below ((Below.refl _ _).alloc (Nat.le_refl _) o)
theorem Raw.more (h : Raw F w b n fl K g c f rv sv idle) (hG : ∀ k, k < w.heap.size → F k → G k) : Raw G w b n fl K g c f rv sv idle :=
  ⟨h.tree, h.rows, h.sums, h.apart, hG _ h.tree.lt h.fb, fun x hx => hG x (h.rows.lt hx) (h.fr x hx), fun j hj x hx => hG x ((h.sums j hj).lt hx) (h.fs j hj x hx), h.idle⟩
end

/-- A tree of n leaves, whose sums are f; its floor is fl. -/
structure Tr (B : Nat) (F : Nat → Prop) (w : World) (b n fl : Nat) (f : Nat → List UInt8) : Prop where
  raw : ∃ rv sv idle, Raw F w b n fl (tops n) (gone fl) (fun j => n / 2 ^ j) f rv sv idle
  rt : Rt B w
  hF : ∀ k, F k → B ≤ k
  len : ∀ i, (f i).length = 32
  small : n ≤ 1000000
  floor : fl ≤ n

section
variable {B : Nat} {F G : Nat → Prop} {w w' : World} {b n fl : Nat} {f : Nat → List UInt8}
theorem Tr.turn (h : Tr B F w b n fl f) (t : Turn G w w') (hG : ∀ k, F k → k < w.heap.size → ¬ G k) (hB : ∀ k, G k → B ≤ k) : Tr B F w' b n fl f := by
  obtain ⟨rv, sv, idle, r⟩ := h.raw
  exact ⟨⟨rv, sv, idle, r.turn t hG⟩, h.rt.turn t hB, h.hF, h.len, h.small, h.floor⟩
theorem Tr.below (h : Tr B F w b n fl f) (t : Below w.heap.size w w') : Tr B F w' b n fl f := by
  obtain ⟨rv, sv, idle, r⟩ := h.raw
  exact ⟨⟨rv, sv, idle, r.below t⟩, h.rt.below t h.rt.size, h.hF, h.len, h.small, h.floor⟩
theorem Tr.drew (h : Tr B F w b n fl f) : Tr B F w.drew b n fl f := h.below (Below.refl _ _).drew
theorem Tr.alloc (h : Tr B F w b n fl f) (o : Obj) : Tr B F (w.alloc o) b n fl f := h.below ((Below.refl _ _).alloc (Nat.le_refl _) o)
theorem Tr.more (h : Tr B F w b n fl f) (hG : ∀ k, k < w.heap.size → F k → G k) (hB : ∀ k, G k → B ≤ k) : Tr B G w b n fl f := by
  obtain ⟨rv, sv, idle, r⟩ := h.raw
  exact ⟨⟨rv, sv, idle, r.more hG⟩, h.rt, hB, h.len, h.small, h.floor⟩
theorem Tr.head (h : Tr B F w b n fl f) : ∃ rv, Has w b 77 #[.int .i64 n, .int .i64 fl, rv] := by
  obtain ⟨rv, sv, idle, r⟩ := h.raw
  exact ⟨rv, r.tree⟩
theorem Tr.lt (h : Tr B F w b n fl f) : b < w.heap.size := by
  obtain ⟨rv, e⟩ := h.head
  exact e.lt
end

theorem rt_len {f : Nat → List UInt8} (h : ∀ i, (f i).length = 32) (a n : Nat) (h0 : 0 < n) : (rt f a n).length = 32 := rt_length f n a (fun i _ _ => h i) h0
theorem nodeC_len {f : Nat → List UInt8} (h : ∀ i, (f i).length = 32) (j i : Nat) : (nodeC f j i).length = 32 := by
  unfold nodeC
  rw [Array.length_toList, cellsOf_size, rt_len h _ _ (Nat.pow_pos (by decide))]

/-- A row of a tree: its address, its cells, and the sum number i in it. -/
theorem Tr.row {B : Nat} {F : Nat → Prop} {w : World} {b n fl : Nat} {f : Nat → List UInt8} (h : Tr B F w b n fl f) {j : Nat} (hj : j < tops n) : ∃ R o C, Has w b 77 #[.int .i64 n, .int .i64 fl, .slice (some ⟨R, o, none⟩) (tops n) C] ∧
    ∃ v, w.cell? ⟨R, o + j * 3, none⟩ = some (.int .i64 (gone fl j)) ∧ w.cell? ⟨R, o + (j * 3 + 1), none⟩ = some v ∧ R < w.heap.size ∧
      Seg w 33 32 v (n / 2 ^ j - gone fl j) (flat (nodeC f j) (gone fl j) (n / 2 ^ j - gone fl j)) := by
  obtain ⟨rv, sv, idle, r⟩ := h.raw
  obtain ⟨R, o, C, rfl, hR, _, _, hc⟩ := r.rows.cells (by omega)
  have g0 := flat_get (g := rowC (gone fl) sv idle) (a := 0) (k := tops n) (w := 3) (fun i _ _ => rowC_len _ _ _ i) hj (r := 0) (by omega)
  have g1 := flat_get (g := rowC (gone fl) sv idle) (a := 0) (k := tops n) (w := 3) (fun i _ _ => rowC_len _ _ _ i) hj (r := 1) (by omega)
  rw [Nat.zero_add] at g0 g1
  exact ⟨R, o, C, r.tree, sv j, hc _ _ g0, hc _ _ g1, hR, r.sums j hj⟩
end Go.Proofs.YthbncejbcegmgaaDoor.dig
end

