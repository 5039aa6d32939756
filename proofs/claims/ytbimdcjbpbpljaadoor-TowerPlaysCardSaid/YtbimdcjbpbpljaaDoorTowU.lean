/- tower: the document's own list: Floor, Level; the law's versions. -/
import Derived.Test.YtbimdcjbpbpljaaDoorTowR
import Derived.Laws.ResultCell
namespace Go.Proofs.YtbimdcjbpbpljaaDoor.tow
open Go Go.RowKit Go.Proofs.YtbimdcjbpbpljaaDoor.tws

/-- Numbers that grow, in new memory. -/
structure GrowI (w : World) (B : Nat) (v : Value) (O : List Int) (wr : World) : Prop where
  own : Ints wr v O
  new : ∀ b, v.ownBlock = some b → B ≤ b
  low : w.heap.size ≤ B
  big : B ≤ wr.heap.size
  turn : Turn (fun j => w.heap.size ≤ j) w wr
theorem GrowI.more {w wr w' : World} {B : Nat} {v : Value} {O : List Int} (h : GrowI w B v O wr) (t : Turn (fun j => wr.heap.size ≤ j) wr w') : GrowI w B v O w' :=
  ⟨own_turn h.own t (fun _ hb => Nat.not_le_of_lt (own_lt h.own hb)), h.new, h.low, Nat.le_trans h.big t.size, h.turn.trans t (fun _ _ e => Nat.le_trans h.turn.size e)⟩
theorem GrowI.push {w wr w' : World} {B : Nat} {v : Value} {O : List Int} (h : GrowI w B v O wr) (x : Int) {g cap : Nat} (hown : w'.ownsRow 0 3 1 (.slice (some ⟨g, 0, none⟩) (O.length + 1) cap) (O.length + 1) (O.map (Value.int .i64) ++ [.int .i64 x])) (hg : wr.grownBy w' v.ownBlock) (hat : v.ownBlock = some g ∨ g = wr.heap.size) :
    GrowI w B (.slice (some ⟨g, 0, none⟩) (O.length + 1) cap) (O ++ [x]) w' := by
  refine ⟨?_, ?_, h.low, Nat.le_trans h.big hg.size, h.turn.grown hg (fun j e _ => Nat.le_trans h.low (h.new j e))⟩
  · unfold Ints
    rw [List.length_append]
    have e : (O ++ [x]).map (Value.int .i64) = O.map (Value.int .i64) ++ [.int .i64 x] := by simp
    rw [e]
    exact hown
  · intro b hb
    injection hb with hb
    obtain rfl : g = b := hb
    rcases hat with k | k
    · exact h.new _ k
    · rw [k]; exact h.big
theorem GrowI.new_ (w : World) {g : Nat} {wr : World} (hg : Has wr g 3 #[]) (hn : w.heap.size ≤ g) (t : Turn (fun j => w.heap.size ≤ j) w wr) : GrowI w g (.slice (some ⟨g, 0, none⟩) 0 0) [] wr :=
  ⟨⟨rfl, .inr ⟨_, 0, #[], rfl, Nat.zero_le _, hg, Nat.le_refl _, Nat.zero_le _, rfl, rfl⟩⟩, fun b hb => by injection hb with hb; obtain rfl : g = b := hb; exact Nat.le_refl _, hn, Nat.le_of_lt hg.lt, t⟩

def IntsPost (w : World) (L : List Int) (en : Ending) (w' : World) : Prop := ∃ v, en = .returned v ∧ Ints w' v L ∧ (∀ k, v.ownBlock = some k → w.heap.size ≤ k) ∧ Below w.heap.size w w'

/-- The versions on a level, of any number. -/
def levI (h : Int) (L : List It) : List Int := (L.filter (fun x => decide (0 ≤ h) && decide (h < (hgt x.1 : Int)))).map (·.1)
theorem levI_nat (h : Nat) (L : List It) : levI h L = levK h L := by
  unfold levI levK
  congr 1
  refine List.filter_congr fun x _ => ?_
  have : decide ((0 : Int) ≤ (h : Int)) = true := decide_eq_true (by omega)
  rw [this, Bool.true_and]
  by_cases h1 : h < hgt x.1
  · rw [decide_eq_true h1, decide_eq_true (by omega)]
  · rw [decide_eq_false h1, decide_eq_false (by omega)]

set_option maxRecDepth 100000 in
set_option maxHeartbeats 2000000 in
theorem rlevel_calls (u : Value) (L : List It) (h : Int) (w : World) (hu : Ones w u L) (hl : L.length ≤ 1000) (hn : ∀ x ∈ L, x.1 ≤ 9223372036854775807) (hh : -100 ≤ h ∧ h ≤ 100) :
    Calls Tryd.prog 24 #[u, .int .i64 h] w (IntsPost w (levI h L)) := by
  obtain ⟨i0, z0, hi0, hz0, hz1, hz2, hz3⟩ := zeroInt
  have HI0 := Lib.hid hi0
  have HZ0 := Lib.hid hz0
  have HZ1 := Lib.hid hz1
  have HZ2 := Lib.hid hz2
  have HZ3 := Lib.hid hz3
  have H := Lib.hid hu
  have HNUM := Lib.hid hn
  obtain ⟨hh1, hh2⟩ := hh
  obtain ⟨ad, c, rfl⟩ := hu.slice
  clear hi0 hz0 hz1 hz2 hz3 hu hn
  go_enter Tryd.func24, Tryd.ntmps24
  go_wp2_with fail
  go_name_world W0 hW0
  have T0 : Turn (fun j => w.heap.size ≤ j) w W0 := by rw [← hW0]; exact (Turn.refl _ w).alloc _
  have HG : Hid (GrowI w w.heap.size (.slice (some ⟨w.heap.size, 0, none⟩) 0 0) [] W0) := GrowI.new_ w (by rw [← hW0]; exact made_at _ _ (by simp)) (Nat.le_refl _) T0
  clear hW0 T0
  go_loopw [5, 11] (fun o i wr => ∃ k : Nat, i = .int .i64 k ∧ k ≤ L.length ∧ Hid (GrowI w w.heap.size o (levI h (L.take k)) wr)) (fun _ i _ => L.length - (intOf i).toNat)
  case atStart => exact ⟨0, rfl, Nat.zero_le _, HG⟩
  case round =>
    obtain ⟨k, rfl, hk, HG1⟩ := hrel
    clear HG
    obtain ⟨o, ho⟩ : ∃ o, o = u5 := ⟨_, rfl⟩
    rw [← ho] at HG1 ⊢
    clear ho
    by_cases hkl : k < L.length
    · obtain ⟨y, hy⟩ : ∃ y, L[k]? = some y := ⟨L[k], List.getElem?_eq_getElem hkl⟩
      have hop : Ones wr (.slice ad L.length c) L := H.out.turn HG1.out.turn (fun g e => Nat.not_le_of_lt (H.out.lt e))
      obtain ⟨g, c', ev, hgl, c0, c1⟩ := hop.at_ hy
      injection ev with ev1 ev2 ev3
      subst ev1
      clear ev2 ev3 hop
      have HY := Lib.hid hy
      have h1 : (k : Int) < (L.length : Int) := by omega
      have h0 : (0 : Int) ≤ (k : Int) := by omega
      have HO : Hid ((levI h (L.take k)).length ≤ 1000) := Lib.hid (by unfold levI; rw [List.length_map]; exact Nat.le_trans (List.length_filter_le _ _) (by rw [List.length_take]; omega))
      have hyn : y.1 ≤ 9223372036854775807 := HNUM.out y (List.mem_of_getElem? hy)
      have HYN := Lib.hid hyn
      clear hy hyn
      have G2 := Lib.hid (HG1.out.more (w' := wr.alloc (.cells #[.int .i64 y.1, .string y.2] 34)) ((Turn.refl _ _).alloc _))
      have hstep : Hid (levI h (L.take (k + 1)) = levI h (L.take k) ++ if 0 ≤ h ∧ h < (hgt y.1 : Int) then [y.1] else []) := Lib.hid (by
        rw [take_one HY.out]
        unfold levI
        rw [List.filter_append, List.map_append]
        congr 1
        by_cases q : 0 ≤ h ∧ h < (hgt y.1 : Int)
        · rw [if_pos q]; simp [q.1, q.2]
        · rw [if_neg q]
          by_cases q0 : 0 ≤ h
          · simp [q0, show ¬ h < (hgt y.1 : Int) from fun e => q ⟨q0, e⟩]
          · simp [q0])
      by_cases q0 : 0 ≤ h
      · obtain ⟨K, hK⟩ : ∃ K, hgt y.1 = K := ⟨_, rfl⟩
        rw [hK] at hstep
        have HK := Lib.hid hK
        have hKb := hgt_bounds y.1
        rw [hK] at hKb
        have hK1 : (K : Int) ≤ 10 := by omega
        have hK0 : (0 : Int) ≤ (K : Int) := by omega
        clear hK hKb
        go_wp2_with fail
        refine (rheight_calls y.1 _ HYN.out).mono ?_
        rw [HK.out]
        rintro en w2 ⟨rfl, rfl⟩
        by_cases q1 : h < (K : Int)
        · have HQ : Hid (levI h (L.take (k + 1)) = levI h (L.take k) ++ [y.1]) := Lib.hid (by rw [hstep.out, if_pos ⟨q0, q1⟩])
          obtain ⟨O, hOO⟩ : ∃ O, O = levI h (L.take k) := ⟨_, rfl⟩
          rw [← hOO] at HQ HO G2 HG1
          clear hOO hstep
          go_wp2_with (at_builtin
                       refine wpList_append_lies _ rfl (.tmp 24) (.tmp 27) 43 rfl 0 3 i0 z0 1 8 Tryd.underlying43 HI0.out HZ0.out HZ1.out HZ3.out HZ2.out (by decide) _ O.length _ rfl (by exact (G2.out.more ((Turn.refl _ _).alloc _)).own) ⟨wr.heap.size + 1, 0, none⟩ 1 1 [.int .i64 y.1] rfl rfl (by exact World.news_of_block (made_at _ _ (by simp))) (by intro u hu; rw [List.mem_singleton.1 hu]; rfl) (by decide) (by unfold maxLen; have := HO.out; omega) (by have := HO.out; omega) (Nat.zero_le _) _ rfl ?_
                       intro g3 cap3 w3 hown hg hat hlt
                       have G3 := Lib.hid ((G2.out.more ((Turn.refl _ _).alloc _)).push y.1 hown hg hat)
                       clear hown hg hat hlt G2)
          refine ⟨⟨k + 1, by rw [Int.natCast_add]; rfl, by omega, Lib.hid (by rw [HQ.out]; exact G3.out)⟩, ?_⟩
          show L.length - ((k : Int) + 1).toNat < L.length - ((k : Int)).toNat
          omega
        · have HQ : Hid (levI h (L.take (k + 1)) = levI h (L.take k)) := Lib.hid (by rw [hstep.out, if_neg (fun e => q1 e.2), List.append_nil])
          clear hstep
          go_wp2_with fail
          refine ⟨⟨k + 1, by rw [Int.natCast_add]; rfl, by omega, Lib.hid (by rw [HQ.out]; exact G2.out)⟩, ?_⟩
          show L.length - ((k : Int) + 1).toNat < L.length - ((k : Int)).toNat
          omega
      · have HQ : Hid (levI h (L.take (k + 1)) = levI h (L.take k)) := Lib.hid (by rw [hstep.out, if_neg (fun e => q0 e.1), List.append_nil])
        clear hstep
        go_wp2_with fail
        refine ⟨⟨k + 1, by rw [Int.natCast_add]; rfl, by omega, Lib.hid (by rw [HQ.out]; exact G2.out)⟩, ?_⟩
        show L.length - ((k : Int) + 1).toNat < L.length - ((k : Int)).toNat
        omega
    · obtain rfl : k = L.length := by omega
      have h1 : ¬ (L.length : Int) < (L.length : Int) := by omega
      have G2 : Hid (GrowI w w.heap.size o (levI h L) wr) := Lib.hid (by have := HG1.out; rw [List.take_length] at this; exact this)
      clear HG1
      go_wp2_with fail
      go_ret
      exact ⟨o, rfl, G2.out.own, G2.out.new, G2.out.turn.below (Nat.le_refl _) (fun j hj e => by omega)⟩

set_option maxRecDepth 100000 in
set_option maxHeartbeats 2000000 in
theorem versions_calls (u : Value) (L : List It) (w : World) (hu : Ones w u L) (hl : L.length ≤ 1000) :
    Calls Tryd.prog 21 #[u] w (IntsPost w (L.map (·.1))) := by
  obtain ⟨i0, z0, hi0, hz0, hz1, hz2, hz3⟩ := zeroInt
  have HI0 := Lib.hid hi0
  have HZ0 := Lib.hid hz0
  have HZ1 := Lib.hid hz1
  have HZ2 := Lib.hid hz2
  have HZ3 := Lib.hid hz3
  have H := Lib.hid hu
  obtain ⟨ad, c, rfl⟩ := hu.slice
  clear hi0 hz0 hz1 hz2 hz3 hu
  go_enter Tryd.func21, Tryd.ntmps21
  go_wp2_with fail
  go_name_world W0 hW0
  have T0 : Turn (fun j => w.heap.size ≤ j) w W0 := by rw [← hW0]; exact (Turn.refl _ w).alloc _
  have HG : Hid (GrowI w w.heap.size (.slice (some ⟨w.heap.size, 0, none⟩) 0 0) [] W0) := GrowI.new_ w (by rw [← hW0]; exact made_at _ _ (by simp)) (Nat.le_refl _) T0
  clear hW0 T0
  go_loopw [3, 9] (fun o i wr => ∃ k : Nat, i = .int .i64 k ∧ k ≤ L.length ∧ Hid (GrowI w w.heap.size o ((L.take k).map (·.1)) wr)) (fun _ i _ => L.length - (intOf i).toNat)
  case atStart => exact ⟨0, rfl, Nat.zero_le _, HG⟩
  case round =>
    obtain ⟨k, rfl, hk, HG1⟩ := hrel
    clear HG
    obtain ⟨o, ho⟩ : ∃ o, o = u3 := ⟨_, rfl⟩
    rw [← ho] at HG1 ⊢
    clear ho
    by_cases hkl : k < L.length
    · obtain ⟨y, hy⟩ : ∃ y, L[k]? = some y := ⟨L[k], List.getElem?_eq_getElem hkl⟩
      have hop : Ones wr (.slice ad L.length c) L := H.out.turn HG1.out.turn (fun g e => Nat.not_le_of_lt (H.out.lt e))
      obtain ⟨g, c', ev, hgl, c0, c1⟩ := hop.at_ hy
      injection ev with ev1 ev2 ev3
      subst ev1
      clear ev2 ev3 hop
      have h1 : (k : Int) < (L.length : Int) := by omega
      have h0 : (0 : Int) ≤ (k : Int) := by omega
      have HQ : Hid ((L.take (k + 1)).map (·.1) = (L.take k).map (·.1) ++ [y.1]) := Lib.hid (by rw [take_one hy, List.map_append]; rfl)
      have HO : Hid (((L.take k).map (·.1)).length ≤ 1000) := Lib.hid (by rw [List.length_map, List.length_take]; omega)
      have G2 := Lib.hid (HG1.out.more (w' := wr.alloc (.cells #[.int .i64 y.1, .string y.2] 34)) ((Turn.refl _ _).alloc _))
      obtain ⟨O, hOO⟩ : ∃ O, O = (L.take k).map (·.1) := ⟨_, rfl⟩
      rw [← hOO] at HQ HO G2 HG1
      clear hOO hy
      go_wp2_with (at_builtin
                   refine wpList_append_lies _ rfl (.tmp 13) (.tmp 16) 43 rfl 0 3 i0 z0 1 8 Tryd.underlying43 HI0.out HZ0.out HZ1.out HZ3.out HZ2.out (by decide) _ O.length _ rfl (by exact (G2.out.more ((Turn.refl _ _).alloc _)).own) ⟨wr.heap.size + 1, 0, none⟩ 1 1 [.int .i64 y.1] rfl rfl (by exact World.news_of_block (made_at _ _ (by simp))) (by intro u hu; rw [List.mem_singleton.1 hu]; rfl) (by decide) (by unfold maxLen; have := HO.out; omega) (by have := HO.out; omega) (Nat.zero_le _) _ rfl ?_
                   intro g3 cap3 w3 hown hg hat hlt
                   have G3 := Lib.hid ((G2.out.more ((Turn.refl _ _).alloc _)).push y.1 hown hg hat)
                   clear hown hg hat hlt G2)
      refine ⟨⟨k + 1, by rw [Int.natCast_add]; rfl, by omega, Lib.hid (by rw [HQ.out]; exact G3.out)⟩, ?_⟩
      show L.length - ((k : Int) + 1).toNat < L.length - ((k : Int)).toNat
      omega
    · obtain rfl : k = L.length := by omega
      have h1 : ¬ (L.length : Int) < (L.length : Int) := by omega
      have G2 : Hid (GrowI w w.heap.size o (L.map (·.1)) wr) := Lib.hid (by have := HG1.out; rw [List.take_length] at this; exact this)
      clear HG1
      go_wp2_with fail
      go_ret
      exact ⟨o, rfl, G2.out.own, G2.out.new, G2.out.turn.below (Nat.le_refl _) (fun j hj e => by omega)⟩

/-- The last one of the first k that isn't above. -/
def lastK (a : Int) (L : List It) : It := ((L.filter (fun x => decide (x.1 ≤ a))).getLast?).getD (0, ⟨#[]⟩)
def anyK (a : Int) (L : List It) : Bool := ((L.filter (fun x => decide (x.1 ≤ a))).getLast?).isSome
theorem floorK_last (a : Int) (L : List It) : floorK a L = ((lastK a L).1, (lastK a L).2, anyK a L) := by
  unfold floorK lastK anyK
  cases (L.filter (fun x => decide (x.1 ≤ a))).getLast? <;> rfl
theorem lastK_step (a : Int) (L : List It) (y : It) : lastK a (L ++ [y]) = (if y.1 ≤ a then y else lastK a L) ∧ anyK a (L ++ [y]) = (if y.1 ≤ a then true else anyK a L) := by
  unfold lastK anyK
  rw [List.filter_append]
  by_cases h : y.1 ≤ a
  · simp [h]
  · simp [h]

theorem res_cell2 {P : Program} {fn : Func} {p q : Tmp} {ty : TypeId} (h : fn.results = #[.cell p ty, .tmp q]) (tmps : Array Value) (w : World) (g : Nat) (t : TypeId) (cs : Array Value) (fr : Nat × Nat) (d : TypeDesc)
    (hp : tmps.getD p undef = .pointer (some ⟨g, 0, none⟩)) (hg : w.heap[g]? = some (.cells cs t fr))
    (hu : P.underlying ty = some d) (hd : (match d with | .struct _ | .array _ _ => true | _ => false) = true) (hi : (P.info? ty).map (·.size) = some cs.size) (v : Value) (hq : tmps.getD q undef = v) :
    (results fn tmps).run P w = .ok (.tuple #[.agg cs, v]) w := by
  have hp' : tmps[p]?.getD undef = .pointer (some ⟨g, 0, none⟩) := by simpa using hp
  have hq' : tmps[q]?.getD undef = v := by simpa using hq
  simp [results, h, hp', hq', asAddr, run_loadVar_row w g t ty cs fr d hg hu hd hi]

set_option maxRecDepth 100000 in
set_option maxHeartbeats 2000000 in
theorem rfloor_calls (u : Value) (L : List It) (a : Int) (w : World) (hu : Ones w u L) (hl : L.length ≤ 1000) :
    Calls Tryd.prog 17 #[u, .int .i64 a] w fun en w' => en = .returned (.tuple #[.agg #[.int .i64 (lastK a L).1, .string (lastK a L).2], .bool (anyK a L)]) ∧ Below w.heap.size w w' := by
  have H := Lib.hid hu
  obtain ⟨ad, c, rfl⟩ := hu.slice
  clear hu
  go_enter Tryd.func17, Tryd.ntmps17
  go_wp2_with fail
  go_name_world W0 hW0
  have T0 : Hid (Turn (fun j => w.heap.size ≤ j) w W0 ∧ Has W0 w.heap.size 34 #[.int .i64 0, .string ⟨#[]⟩] ∧ Has W0 (w.heap.size + 1) 34 #[.int .i64 (lastK a (L.take 0)).1, .string (lastK a (L.take 0)).2]) := by
    rw [← hW0]
    exact Lib.hid ⟨((Turn.refl _ w).alloc _).alloc _, (Has.made _ _ _).alloc _, made_at _ _ (by simp)⟩
  clear hW0
  go_loopw [7, 13] (fun b i wr => ∃ k : Nat, i = .int .i64 k ∧ b = .bool (anyK a (L.take k)) ∧ k ≤ L.length ∧ Hid (Turn (fun j => w.heap.size ≤ j) w wr ∧ Has wr w.heap.size 34 #[.int .i64 0, .string ⟨#[]⟩] ∧ Has wr (w.heap.size + 1) 34 #[.int .i64 (lastK a (L.take k)).1, .string (lastK a (L.take k)).2])) (fun _ i _ => L.length - (intOf i).toNat)
  case atStart => exact ⟨0, rfl, rfl, Nat.zero_le _, T0⟩
  case round =>
    clear T0
    obtain ⟨k, rfl, rfl, hk, HT⟩ := hrel
    have r0 : wr.cell? ⟨w.heap.size + 1, 0, none⟩ = some (.int .i64 (lastK a (L.take k)).1) := HT.out.2.2.cell 0
    have r1 : wr.cell? ⟨w.heap.size + 1, 1, none⟩ = some (.string (lastK a (L.take k)).2) := HT.out.2.2.cell 1
    have f0 : wr.frozen? ⟨w.heap.size + 1, 0, none⟩ = false := HT.out.2.2.free 0
    have f1 : wr.frozen? ⟨w.heap.size + 1, 1, none⟩ = false := HT.out.2.2.free 1
    have hlt1 := HT.out.2.2.lt
    by_cases hkl : k < L.length
    · obtain ⟨y, hy⟩ : ∃ y, L[k]? = some y := ⟨L[k], List.getElem?_eq_getElem hkl⟩
      have hop : Ones wr (.slice ad L.length c) L := H.out.turn HT.out.1 (fun g e => Nat.not_le_of_lt (H.out.lt e))
      obtain ⟨g, c', ev, hgl, c0, c1⟩ := hop.at_ hy
      injection ev with ev1 ev2 ev3
      subst ev1
      clear ev2 ev3 hop
      have h1 : (k : Int) < (L.length : Int) := by omega
      have h0 : (0 : Int) ≤ (k : Int) := by omega
      have hst := lastK_step a (L.take k) y
      rw [← take_one hy] at hst
      have HST := Lib.hid hst
      clear hst hy
      have A2 : Hid (Turn (fun j => w.heap.size ≤ j) w (wr.alloc (.cells #[.int .i64 y.1, .string y.2] 34)) ∧ Has (wr.alloc (.cells #[.int .i64 y.1, .string y.2] 34)) w.heap.size 34 #[.int .i64 0, .string ⟨#[]⟩] ∧ Has (wr.alloc (.cells #[.int .i64 y.1, .string y.2] 34)) (w.heap.size + 1) 34 #[.int .i64 (lastK a (L.take k)).1, .string (lastK a (L.take k)).2]) :=
        Lib.hid ⟨HT.out.1.alloc _, HT.out.2.1.alloc _, HT.out.2.2.alloc _⟩
      obtain ⟨P, hP⟩ : ∃ P, P = lastK a (L.take k) := ⟨_, rfl⟩
      obtain ⟨Q, hQ⟩ : ∃ Q, Q = anyK a (L.take k) := ⟨_, rfl⟩
      rw [← hP] at r0 r1 A2 HST
      rw [← hQ] at HST ⊢
      have B2 := HT
      rw [← hP] at B2
      clear hP hQ HT
      by_cases q : y.1 ≤ a
      · have e1 := HST.out.1
        have e2 := HST.out.2
        rw [if_pos q] at e1 e2
        have E1 := Lib.hid (And.intro e1 e2)
        clear e1 e2 HST
        go_wp2_with fail
        refine ⟨⟨k + 1, by rw [Int.natCast_add]; rfl, by rw [E1.out.2], by omega, Lib.hid ⟨((B2.out.1.put (fun _ => by omega) _ _).put (fun _ => by omega) _ _).alloc _, ((B2.out.2.1.far (by show w.heap.size ≠ w.heap.size + 1; omega) _).far (by show w.heap.size ≠ w.heap.size + 1; omega) _).alloc _, ?_⟩⟩, ?_⟩
        · rw [E1.out.1]
          have := (B2.out.2.2.put 0 (.int .i64 y.1)).put 1 (.string y.2)
          exact Has.alloc (by simpa using this) _
        · show L.length - ((k : Int) + 1).toNat < L.length - ((k : Int)).toNat
          omega
      · have e1 := HST.out.1
        have e2 := HST.out.2
        rw [if_neg q] at e1 e2
        have E1 := Lib.hid (And.intro e1 e2)
        clear e1 e2 HST
        go_wp2_with fail
        refine ⟨⟨k + 1, by rw [Int.natCast_add]; rfl, by rw [E1.out.2], by omega, Lib.hid ⟨A2.out.1, A2.out.2.1, by rw [E1.out.1]; exact A2.out.2.2⟩⟩, ?_⟩
        show L.length - ((k : Int) + 1).toNat < L.length - ((k : Int)).toNat
        omega
    · obtain rfl : k = L.length := by omega
      have h1 : ¬ (L.length : Int) < (L.length : Int) := by omega
      have z0 : wr.cell? ⟨w.heap.size, 0, none⟩ = some (.int .i64 0) := HT.out.2.1.cell 0
      have z1 : wr.cell? ⟨w.heap.size, 1, none⟩ = some (.string ⟨#[]⟩) := HT.out.2.1.cell 1
      have g0 : wr.frozen? ⟨w.heap.size, 0, none⟩ = false := HT.out.2.1.free 0
      have g1 : wr.frozen? ⟨w.heap.size, 1, none⟩ = false := HT.out.2.1.free 1
      rw [List.take_length] at r0 r1 ⊢
      have T2 : Hid (Turn (fun j => w.heap.size ≤ j) w wr ∧ Has wr w.heap.size 34 #[.int .i64 0, .string ⟨#[]⟩]) := Lib.hid ⟨HT.out.1, HT.out.2.1⟩
      obtain ⟨P, hP⟩ : ∃ P, P = lastK a L := ⟨_, rfl⟩
      obtain ⟨Q, hQ⟩ : ∃ Q, Q = anyK a L := ⟨_, rfl⟩
      rw [← hP] at r0 r1
      have HPQ := Lib.hid (And.intro hP hQ)
      rw [← hQ]
      clear hP hQ HT f0 f1
      go_wp2_with fail
      have hr : Has ((wr.setCell ⟨w.heap.size, 0, none⟩ (.int .i64 P.1)).setCell ⟨w.heap.size, 1, none⟩ (.string P.2)) w.heap.size 34 #[.int .i64 P.1, .string P.2] := by
        have := (T2.out.2.put 0 (.int .i64 P.1)).put 1 (.string P.2)
        simpa using this
      refine bodyPost_ret (v := .tuple #[.agg #[.int .i64 P.1, .string P.2], .bool Q]) (res_cell2 rfl _ _ w.heap.size 34 _ (0, 0) _ rfl hr Tryd.underlying34 rfl (by kernel_rfl) _ rfl) rfl ?_
      rw [← HPQ.out.1, ← HPQ.out.2]
      exact ⟨rfl, ((T2.out.1.put (fun _ => by omega) _ _).put (fun _ => by omega) _ _).below (Nat.le_refl _) (fun j hj e => by omega)⟩
end Go.Proofs.YtbimdcjbpbpljaaDoor.tow
