/- Texts laid into one: PruT, PathN, PruS. -/
import Derived.Test.YtiobdhkadbipkaaDoorY011
import Derived.Test.YtiobdhkadbipkaaDoorY007
section
/- proof: a proof's bytes. -/
namespace Go.Proofs.YtiobdhkadbipkaaDoor.prf
open Go Go.RowKit Go.Proofs.YtiobdhkadbipkaaDoor.dig

/-- A proof's bytes. -/
def txt (K I N : Nat) (l : List (List UInt8)) : List UInt8 := enc K ++ enc I ++ enc N ++ enc l.length ++ l.flatten
/-- The first k of three numbers. -/
def pre (K I N k : Nat) : List UInt8 := (if 0 < k then enc K else []) ++ (if 1 < k then enc I else []) ++ (if 2 < k then enc N else [])
def nth (K I N k : Nat) : Nat := if k = 0 then K else if k = 1 then I else N
theorem pre_next (K I N k : Nat) (h : k < 3) : pre K I N (k + 1) = pre K I N k ++ enc (nth K I N k) := by
  have : k = 0 ∨ k = 1 ∨ k = 2 := by omega
  rcases this with rfl | rfl | rfl <;> simp [pre, nth]
theorem pre_len (K I N k : Nat) (hK : K < 1000000000) (hI : I < 1000000000) (hN : N < 1000000000) : (pre K I N k).length ≤ 33 := by
  have h1 := enc_len K (by omega)
  have h2 := enc_len I (by omega)
  have h3 := enc_len N (by omega)
  unfold pre
  simp only [List.length_append]
  split <;> split <;> split <;> simp <;> omega

/-- What lasts while the numbers are put. -/
def Tx (w : World) (K I N k : Nat) (v : Value) (W : World) : Prop :=
  ∃ r, Wr W (w.heap.size + 1) r (pre K I N k) ∧ (r = none ∨ ∃ j, r = some j ∧ w.heap.size + 3 ≤ j) ∧ Has W w.heap.size 58 #[.int .i64 K, .int .i64 I, .int .i64 N, v] ∧ Has W (w.heap.size + 2) 3 #[.int .i64 K, .int .i64 I, .int .i64 N] ∧ Below w.heap.size w W

set_option maxRecDepth 100000 in
set_option maxHeartbeats 2000000 in
theorem text_calls (K I N : Nat) (hK : K < 1000000000) (hI : I < 1000000000) (hN : N < 1000000000) (l : List (List UInt8)) (hl : l.length ≤ 1000) (a : Option Addr) (c : Nat) (w : World) (hs : ws.SumsAt w a l) (hlt : ∀ g off, a = some ⟨g, off, none⟩ → g < w.heap.size) :
    Calls Tryd.prog 30 #[.agg (prC K I N (.slice a l.length c))] w fun en w' => en = .returned (.string ⟨(txt K I N l).toArray⟩) ∧ Below w.heap.size w w' := by
  obtain ⟨m, hm⟩ : ∃ m, m = l.length := ⟨_, rfl⟩
  have HM := Lib.hid (show _ ∧ _ ∧ _ ∧ _ ∧ _ from ⟨hm, hl, hs, hlt, (⟨hK, hI, hN⟩ : K < 1000000000 ∧ I < 1000000000 ∧ N < 1000000000)⟩)
  rw [← hm]
  clear hm hl hs hlt hK hI hN
  go_enter Tryd.func30, Tryd.ntmps30
  go_wp2_with fail
  go_name_world W hW
  have T0 : Hid (Tx w K I N 0 (.slice a m c) W) := by
    rw [← hW]
    refine Lib.hid ⟨none, ⟨.slice none 0 0, (made_at _ _ (by simp)).alloc _, ⟨by simp [pre], .inl ⟨rfl, by simp [pre]⟩⟩, rfl, by simp⟩, .inl rfl, ((made_at _ _ rfl).alloc _).alloc _, made_at _ _ (by simp), (((Below.refl _ _).alloc (Nat.le_refl _) _).alloc (by simp) _).alloc (by simp; omega) _⟩
  clear hW
  go_loopw [14] (fun i wr => ∃ k : Nat, i = .int .i64 k ∧ k ≤ 3 ∧ Hid (Tx w K I N k (.slice a m c) wr)) (fun i _ => 3 - (intOf i).toNat)
  case atStart => exact ⟨0, rfl, by omega, T0⟩
  case round =>
    obtain ⟨k, rfl, hk, HT⟩ := hrel
    clear T0
    have hk0 : (0 : Int) ≤ (k : Int) := by omega
    by_cases hk3 : k < 3
    · have hk1 : (k : Int) < 3 := by omega
      obtain ⟨r, hw, hr, hp, hi, hb⟩ := HT.out
      obtain ⟨x, hx⟩ : ∃ x, x = nth K I N k := ⟨_, rfl⟩
      have hx9 : x < 1000000000 := by
        obtain ⟨_, _, _, _, h1, h2, h3⟩ := HM.out
        rw [hx]; unfold nth
        split
        · exact h1
        · split
          · exact h2
          · exact h3
      have k0 : wr.cell? ⟨w.heap.size + 2, k, none⟩ = some (.int .i64 x) := by
        rw [hi.cell, hx]
        have : k = 0 ∨ k = 1 ∨ k = 2 := by omega
        rcases this with rfl | rfl | rfl <;> rfl
      have hm0 : max (x : Int) 0 = (x : Int) := by omega
      have HW := Lib.hid (show _ ∧ _ ∧ _ ∧ _ ∧ _ ∧ _ from ⟨hw, hr, hp, hi, hb, hx⟩)
      clear hw hr hp hi hb hx HT
      go_wp2_with fail
      have hpl := pre_len K I N k HM.out.2.2.2.2.1 HM.out.2.2.2.2.2.1 HM.out.2.2.2.2.2.2
      refine (wnum_any (w.heap.size + 1) r (pre K I N k) x wr (by omega) HW.out.1 (by omega)).mono ?_
      rintro en w2 ⟨rfl, r2, h2, hr2, t2⟩
      have T2 : Hid (Tx w K I N (k + 1) (.slice a m c) w2) := by
        obtain ⟨hw, hr, hp, hi, hb, hx⟩ := HW.out
        have hsz := hi.lt
        have hnr : ∀ j, some j = r → w.heap.size + 3 ≤ j := fun j hj => by
          rcases hr with h | ⟨j', h, hj'⟩
          · rw [h] at hj; cases hj
          · rw [h] at hj; injection hj with hj; omega
        refine Lib.hid ⟨r2, by rw [pre_next _ _ _ _ hk3, ← hx]; exact h2, ?_, hp.turn t2 (fun e => ?_), hi.turn t2 (fun e => ?_), hb.trans (t2.below hb.size (fun j hj e => ?_))⟩
        · rcases hr2 with h | ⟨j, h, hj⟩
          · rw [h]; exact hr
          · exact .inr ⟨j, h, by omega⟩
        · rcases e with e | e
          · omega
          · have := hnr _ e; omega
        · rcases e with e | e
          · omega
          · have := hnr _ e; omega
        · rcases e with e | e
          · omega
          · have := hnr _ e; omega
      clear h2 hr2 t2 HW k0 hm0 hpl
      go_wp2_with fail
      refine ⟨⟨k + 1, by rw [Int.natCast_add]; rfl, by omega, T2⟩, ?_⟩
      show 3 - ((k : Int) + 1).toNat < 3 - ((k : Int)).toNat
      omega
    · obtain rfl : k = 3 := by omega
      obtain ⟨r, hw, hr, hp, hi, hb⟩ := HT.out
      have k3 : wr.cell? ⟨w.heap.size, 3, none⟩ = some (.slice a m c) := hp.cell 3
      have hpl := pre_len K I N 3 HM.out.2.2.2.2.1 HM.out.2.2.2.2.2.1 HM.out.2.2.2.2.2.2
      have hnr : ∀ j, some j = r → w.heap.size + 3 ≤ j := fun j hj => by
        rcases hr with h | ⟨j', h, hj'⟩
        · rw [h] at hj; cases hj
        · rw [h] at hj; injection hj with hj; omega
      have hss : ws.SumsAt wr a l := HM.out.2.2.1.turn (Turn.of_below (F := fun j => w.heap.size ≤ j) hb (fun _ _ h => h)) (fun g off e h => by have := HM.out.2.2.2.1 g off e; omega)
      have hcall := ws.wsums_any (w.heap.size + 1) r (pre K I N 3) a c l wr hw (by omega) HM.out.2.1 hss (fun g off e => by
        have h1 := HM.out.2.2.2.1 g off e
        have h2 := hb.size
        exact ⟨by omega, fun e2 => by have := hnr g e2; omega, by omega⟩)
      rw [← HM.out.1] at hcall
      have HC := Lib.hid hcall
      have HB := Lib.hid (show _ ∧ _ ∧ _ from ⟨hb, hnr, hp.lt⟩)
      clear hcall hss hnr hpl hw hr hp hi hb HT
      go_wp2_with fail
      refine HC.out.mono ?_
      rintro en w2 ⟨rfl, r2, h2, hr2, t2⟩
      have H2 := Lib.hid (show _ ∧ _ from ⟨h2, t2⟩)
      clear h2 hr2 t2 HC k3
      go_wp2_with fail
      refine (text_any (w.heap.size + 1) r2 _ w2 H2.out.1).mono ?_
      rintro en w3 ⟨rfl, rfl⟩
      go_wp2_with fail
      go_ret
      refine ⟨?_, HB.out.1.trans (H2.out.2.below HB.out.1.size (fun j hj e => ?_))⟩
      · have e : pre K I N 3 ++ (enc m ++ l.flatten) = txt K I N l := by rw [HM.out.1]; simp [pre, txt]
        rw [e]
        rfl
      · rcases e with e | e
        · omega
        · have := HB.out.2.1 _ e; omega
end Go.Proofs.YtiobdhkadbipkaaDoor.prf
end

section
/- fault: Path of no error. -/
namespace Go.Proofs.YtiobdhkadbipkaaDoor.prf
open Go Go.RowKit

def okB : ByteArray := ⟨#[111, 107]⟩
set_option maxRecDepth 100000 in
set_option maxHeartbeats 1000000 in
theorem err_zero (w : World) : Calls Tryd.prog 49 #[.int .i64 0] w fun en w' => en = .returned (.string okB) ∧ Below w.heap.size w w' := by
  go_enter Tryd.func49, Tryd.ntmps49
  go_wp2_with fail
  go_name_world W hW
  have hT : Has W w.heap.size 119 flt.tab := by rw [← hW]; exact Has.made w 119 _
  have hB : Below w.heap.size w W := by rw [← hW]; exact (Below.refl _ w).alloc (Nat.le_refl _) _
  clear hW
  have HT := Lib.hid hT
  have HB := Lib.hid hB
  clear hT hB
  go_loopw [27] (fun x wr => ∃ i : Nat, x = .int .i64 i ∧ i ≤ 20 ∧ Hid (Has wr w.heap.size 119 flt.tab ∧ Below w.heap.size w wr)) (fun x _ => 20 - (intOf x).toNat)
  case atStart => exact ⟨0, rfl, by omega, Lib.hid ⟨HT.out, HB.out⟩⟩
  case round =>
    obtain ⟨i, rfl, hi, HS⟩ := hrel
    by_cases hlt : i < 20
    · have c0 : wr.cell? ⟨w.heap.size, i * 2, none⟩ = some (.int .i64 ((i : Int) + 1)) := by rw [Nat.mul_comm]; exact (HS.out.1.cell _).trans (flt.tab0 ⟨i, hlt⟩)
      have c1 : wr.cell? ⟨w.heap.size, i * 2 + 1, none⟩ = some (.string (flt.words.getD i ⟨#[]⟩)) := by rw [Nat.mul_comm]; exact (HS.out.1.cell _).trans (flt.tab1 ⟨i, hlt⟩)
      have hi2 : (i : Int) < 20 := by omega
      have hi3 : (0 : Int) ≤ (i : Int) := by omega
      obtain ⟨s, hs⟩ : ∃ s, s = flt.words.getD i ⟨#[]⟩ := ⟨_, rfl⟩
      rw [← hs] at c1
      have hq : ¬ (i : Int) + 1 = 0 := by omega
      clear hs
      go_wp2_with fail
      refine ⟨⟨i + 1, by rw [Int.natCast_add]; rfl, by omega, Lib.hid ⟨HS.out.1.alloc _, HS.out.2.alloc HS.out.2.size _⟩⟩, ?_⟩
      show 20 - ((i : Int) + 1).toNat < 20 - ((i : Int)).toNat
      omega
    · have hi2 : ¬ (i : Int) < 20 := by omega
      go_wp2_with fail
      go_ret
      exact ⟨rfl, HS.out.2⟩

theorem as_nil (t : Value) (w : World) : Calls Tryd.prog 70 #[.nilIface, t] w fun en w' => en = .returned (.bool false) ∧ w = w' := by
  go_enter Tryd.func70, Tryd.ntmps70
  go_wp2
  go_ret
  exact ⟨rfl, rfl⟩
theorem outermost_nil (w : World) : Calls Tryd.prog 66 #[.nilIface] w fun en w' => en = .returned (.pointer none) ∧ Below w.heap.size w w' := by
  go_enter Tryd.func66, Tryd.ntmps66
  go_wp2_with (go_at_call 70; refine (as_nil _ _).mono ?_; rintro en w1 ⟨rfl, rfl⟩)
  go_ret
  exact ⟨rfl, (Below.refl w.heap.size w).alloc (Nat.le_refl _) _⟩
set_option maxRecDepth 100000 in
set_option maxHeartbeats 1000000 in
theorem where_nil (w : World) : Calls Tryd.prog 46 #[.nilIface] w fun en w' => en = .returned (.tuple #[.slice none 0 0, .int .i64 (-1)]) ∧ Below w.heap.size w w' := by
  go_enter Tryd.func46, Tryd.ntmps46
  go_wp2_with fail
  refine (outermost_nil w).mono ?_
  rintro en w1 ⟨rfl, b1⟩
  have B1 := Lib.hid b1
  clear b1
  go_wp2_with fail
  go_loopg [4, 5, 6] 0 (fun k v a p wr => k = 0 ∧ v = .slice none 0 0 ∧ a = .int .i64 (-1) ∧ p = .pointer none ∧ wr = w1)
  case atStart => exact ⟨rfl, rfl, rfl, rfl, rfl⟩
  case round =>
    obtain ⟨-, rfl, rfl, rfl, rfl⟩ := hrel
    go_wp2_with fail
    go_ret2
    exact ⟨rfl, B1.out⟩

theorem of_nil (w : World) : Calls Tryd.prog 48 #[.nilIface] w fun en w' => en = .returned (.int .i64 0) ∧ Below w.heap.size w w' := by
  go_enter Tryd.func48, Tryd.ntmps48
  go_wp2_with fail
  go_ret
  exact ⟨rfl, Below.refl _ _⟩

/-- What Path tells of no error. -/
def nilPath : ByteArray := ⟨(Lib.join [okB.data.toList] [47]).toArray⟩

set_option maxRecDepth 100000 in
set_option maxHeartbeats 2000000 in
theorem path_nil (w : World) : Calls Tryd.prog 28 #[.nilIface] w fun en w' => en = .returned (.string nilPath) ∧ Below w.heap.size w w' := by
  obtain ⟨z0i, z0, hi0, hz0, hz1, hz2, hz3⟩ := flt.strInfo
  have HI0 := Lib.hid hi0
  have HZ0 := Lib.hid hz0
  clear hi0 hz0
  obtain ⟨wd, hwd⟩ : ∃ wd, wd = okB := ⟨_, rfl⟩
  have HWD := Lib.hid hwd
  clear hwd
  go_enter Tryd.func28, Tryd.ntmps28
  go_wp2_with fail
  refine (where_nil w).mono ?_
  rintro en w1 ⟨rfl, b1⟩
  go_wp2_with fail
  refine (of_nil w1).mono ?_
  rintro en w2 ⟨rfl, b2⟩
  have B2 : Hid (Below w.heap.size w w2) := Lib.hid (b1.trans (b2.mono b1.size))
  clear b1 b2
  go_wp2_with fail
  refine (err_zero w2).mono ?_
  rw [← HWD.out]
  rintro en w3 ⟨rfl, b3⟩
  have B3 : Hid (Below w.heap.size w w3) := Lib.hid (B2.out.trans (b3.mono B2.out.size))
  clear b3 B2
  go_wp2_with (first
    | ((with_reducible refine at_op 15 ?_); refine wpList_append_seg (o := ⟨some 15, _, _, _, _, _⟩) _ rfl (.tmp 10) (.tmp 14) 22 rfl 9 z0i z0 1 16 Tryd.underlying22 HI0.out HZ0.out hz1 hz3 hz2 (by decide) (.slice none 0 0) 0 [] rfl (Seg.nil _ _ _) ⟨w3.heap.size, 0, none⟩ 1 1 [.string wd] rfl rfl (World.news_of_block (heap_alloc_new _ _)) (by simp [Value.oneCell']) (by decide) (by unfold maxLen; omega) (by omega) _ rfl ?_
       intro g off cp w4 hown hgrow hat hlt
       (have OW := Lib.hid hown)
       (have B4 : Hid (Below w.heap.size w w4) := Lib.hid ((B3.out.alloc B3.out.size _).trans (flt.below_own hgrow (fun y hy => by cases hy) (Nat.le_trans B3.out.size (by simp)))))
       (clear hown hgrow hat hlt))
    | (go_at_call 47; refine (flt.join_calls w4 g off cp [wd] 1 (by simp) (by exact OW.out) (by omega) (by rw [HWD.out]; decide)).mono ?_; rintro en w5 ⟨rfl, b5⟩)
    | fail)
  go_ret
  refine ⟨?_, B4.out.trans (flt.below_less b5 B4.out.size)⟩
  unfold nilPath
  rw [← HWD.out]
  rfl
end Go.Proofs.YtiobdhkadbipkaaDoor.prf
end

section
/- prune: what At and Leaf tell, of one place of a vault with any floor; two vaults of one law. -/
namespace Go.Proofs.YtiobdhkadbipkaaDoor.prn
open Go Go.RowKit Go.Proofs.YtiobdhkadbipkaaDoor.dig Go.Proofs.YtiobdhkadbipkaaDoor.prf

/-- An error's path is told so, now and later. -/
def PathIs (W : World) (e : Value) (pt : ByteArray) : Prop := ∀ V, Below W.heap.size W V → Calls Tryd.prog 28 #[e] V fun en w' => en = .returned (.string pt) ∧ Below V.heap.size V w'
/-- A proof's bytes are these, now and later. -/
def TextIs (W : World) (p : Value) (t : ByteArray) : Prop := ∀ V, Below W.heap.size W V → Calls Tryd.prog 30 #[p] V fun en w' => en = .returned (.string t) ∧ Below V.heap.size V w'
theorem PathIs.below {W W' : World} {e : Value} {pt : ByteArray} (h : PathIs W e pt) (b : Below W.heap.size W W') : PathIs W' e pt := fun V hV => h V (b.trans (hV.mono b.size))
theorem TextIs.below {W W' : World} {e : Value} {pt : ByteArray} (h : TextIs W e pt) (b : Below W.heap.size W W') : TextIs W' e pt := fun V hV => h V (b.trans (hV.mono b.size))

theorem PathIs.nil (W : World) : PathIs W .nilIface nilPath := fun V _ => path_nil V
theorem PathIs.err {W : World} (hP : Pw W) {b : Nat} {s : ByteArray} {a n : Int} (he : flt.Er W.heap.size W [⟨b, s, a⟩] n) (h1 : 1 ≤ n) (h2 : n ≤ 20) (hs : s.size ≤ 1000) : PathIs W (flt.ev [⟨b, s, a⟩] n) (flt.pathB [⟨b, s, a⟩] n) :=
  fun _ hV => path_one (hP.below hV) ((he.below hV (Nat.le_refl _)).more hV.size) h1 h2 hs

section
variable {B : Nat} {F : Nat → Prop} {w : World} {vb fl : Nat} {L : List ByteArray}

/-- What At tells of a place that there is. -/
def atS (L : List ByteArray) (fl i : Nat) : ByteArray := if fl ≤ i then (L[i]?).getD ⟨#[]⟩ else ⟨#[]⟩
def atP (fl i : Nat) : ByteArray := if fl ≤ i then nilPath else ⟨#[99, 111, 109, 109, 97, 110, 100, 47, 112, 114, 117, 110, 101, 100]⟩
theorem Va.at_tells (h : Va B F w vb L fl) (hP : Pw w) (i : Nat) (hi : i < L.length) :
    Calls Tryd.prog 27 #[.pointer (some ⟨vb, 0, none⟩), .int .i64 i] w fun en w' => ∃ e, en = .returned (.tuple #[.string (atS L fl i), e]) ∧ Below w.heap.size w w' ∧ PathIs w' e (atP fl i) := by
  unfold atS atP
  by_cases hf : fl ≤ i
  · rw [if_pos hf, if_pos hf]
    obtain ⟨s, hs⟩ : ∃ s, L[i]? = some s := ⟨_, List.getElem?_eq_getElem hi⟩
    refine (h.at_ok i hf s hs).mono ?_
    rintro en w' ⟨rfl, b⟩
    rw [hs]
    exact ⟨_, rfl, b, PathIs.nil _⟩
  · rw [if_neg hf, if_neg hf]
    refine (h.at_pruned i (by omega)).mono ?_
    rintro en w' ⟨b, rfl, hb, he, bl⟩
    refine ⟨_, rfl, bl, ?_⟩
    have := PathIs.err (hP.below bl) he (by decide) (by decide) (by decide)
    rwa [path_pruned] at this

theorem path_leaf_pruned (b : Nat) (a : Int) : flt.pathB [⟨b, leafNm, a⟩] 14 = ⟨#[108, 101, 97, 102, 47, 112, 114, 117, 110, 101, 100]⟩ := by rfl

/-- What Leaf tells of a place that there is. -/
def lfP (fl i : Nat) : ByteArray := if fl ≤ i then nilPath else ⟨#[108, 101, 97, 102, 47, 112, 114, 117, 110, 101, 100]⟩
def lfT (L : List ByteArray) (fl i n : Nat) : ByteArray := if fl ≤ i then ⟨(txt 1 i n (path (leafF L) i 0 n)).toArray⟩ else ⟨(txt 0 0 0 []).toArray⟩
theorem Va.leaf_tells (h : Va B F w vb L fl) (hN : L.length < 1024) (hP : Pw w) (i n : Nat) (hn : n ≤ L.length) (hi : i < n) :
    Calls Tryd.prog 29 #[.pointer (some ⟨vb, 0, none⟩), .int .i64 i, .int .i64 n] w fun en w' => ∃ K I N a l c e, en = .returned (.tuple #[.agg (prC K I N (.slice a l c)), e]) ∧ Below w.heap.size w w' ∧ PathIs w' e (lfP fl i) ∧ TextIs w' (.agg (prC K I N (.slice a l c))) (lfT L fl i n) := by
  unfold lfP lfT
  by_cases hf : fl ≤ i
  · rw [if_pos hf, if_pos hf]
    refine (h.leaf hN i n hn hi hf).mono ?_
    rintro en w' ⟨a, c, rfl, s, o, b⟩
    refine ⟨1, i, n, a, _, c, .nilIface, rfl, b, PathIs.nil _, fun V hV => ?_⟩
    have hal := path_all (leafF_len L) n i 0
    have hll : (path (leafF L) i 0 n).length ≤ 1000 := Nat.le_trans (path_le (leafF L) 10 n 0 i (by omega)) (by omega)
    have hss : ws.SumsAt V a (path (leafF L) i 0 n) := by
      refine ⟨hal, ?_⟩
      have sv := s.below hV (fun x hx => s.lt hx)
      by_cases h0 : (path (leafF L) i 0 n) = []
      · exact .inl h0
      · have h1 : 0 < (path (leafF L) i 0 n).length := List.length_pos_iff.2 h0
        obtain ⟨g, off, c', e, hg, _, _, hc⟩ := sv.cells h1
        simp only [Value.slice.injEq] at e
        refine .inr ⟨g, off, e.1, fun j u hj => hc j u ?_⟩
        rw [← hj]
        unfold sumsC
        rw [List.map_flatten, List.flatMap_def]
    exact text_calls 1 i n (by omega) (by omega) (by omega) _ hll a c V hss (fun g off e => by
      subst e
      exact Nat.lt_of_lt_of_le (s.lt rfl) hV.size)
  · rw [if_neg hf, if_neg hf]
    refine (h.leaf_low i n hn hi (by omega)).mono ?_
    rintro en w' ⟨b, rfl, hb, he, bl⟩
    refine ⟨0, 0, 0, none, 0, 0, _, rfl, bl, ?_, fun V hV => ?_⟩
    · have := PathIs.err (hP.below bl) he (by decide) (by decide) (by decide)
      rwa [path_leaf_pruned] at this
    · exact text_calls 0 0 0 (by omega) (by omega) (by omega) [] (by simp) none 0 V ⟨fun _ hx => absurd hx List.not_mem_nil, .inl rfl⟩ (fun g off e => by cases e)
end

/-- Two vaults of the same texts, with floors m1, m2. -/
structure Pa (B : Nat) (w : World) (a b : Nat) (L : List ByteArray) (m1 m2 : Nat) (W : World) : Prop where
  ex : ∃ F G, Va B F W a L m1 ∧ Va B G W b L m2 ∧ (∀ j, F j → ¬ G j) ∧ (∀ j, F j → j < W.heap.size) ∧ (∀ j, G j → j < W.heap.size)
  bel : Below w.heap.size w W
  lo : w.heap.size ≤ B
section
variable {B : Nat} {w W W' : World} {a b m1 m2 : Nat} {L : List ByteArray}
theorem Pa.swap (h : Pa B w a b L m1 m2 W) : Pa B w b a L m2 m1 W := by
  obtain ⟨F, G, h1, h2, h3, h4, h5⟩ := h.ex
  exact ⟨⟨G, F, h2, h1, fun j hg hf => h3 j hf hg, h5, h4⟩, h.bel, h.lo⟩
theorem Pa.below (h : Pa B w a b L m1 m2 W) (bb : Below W.heap.size W W') : Pa B w a b L m1 m2 W' := by
  obtain ⟨F, G, h1, h2, h3, h4, h5⟩ := h.ex
  exact ⟨⟨F, G, h1.below bb, h2.below bb, h3, fun j hj => Nat.lt_of_lt_of_le (h4 j hj) bb.size, fun j hj => Nat.lt_of_lt_of_le (h5 j hj) bb.size⟩, h.bel.trans (bb.mono h.bel.size), h.lo⟩
theorem Pa.keep (h : Pa B w a b L m1 m2 W) (p : Nat) (hp : m1 ≤ p) (hn : p ≤ L.length) :
    Calls Tryd.prog 24 #[.pointer (some ⟨a, 0, none⟩), .int .i64 p] W fun en w' => en = .returned .nilIface ∧ Pa B w a b L p m2 w' := by
  obtain ⟨F, G, h1, h2, h3, h4, h5⟩ := h.ex
  refine (h1.keep p hp hn).mono ?_
  rintro en w' ⟨rfl, v, t⟩
  refine ⟨rfl, ⟨_, G, v.tight, h2.turn t (fun j hg _ hf => h3 j hf hg) (fun j hf => h1.hF j hf), fun j hj hg => ?_, fun j hj => hj.2, fun j hj => Nat.lt_of_lt_of_le (h5 j hj) t.size⟩, h.bel.trans (t.below h.bel.size (fun j hj hf => by have := h1.hF j hf; have := h.lo; omega)), h.lo⟩
  rcases hj.1 with hf | hf
  · exact h3 j hf hg
  · have := h5 j hg; omega
/-- The same texts come to either. -/
theorem Pa.add_first (h : Pa B w a b [] m1 m2 W) (sa : Option Addr) (c : Nat) (M : List ByteArray) (hM : Strs W (.slice sa M.length c) M) (hv : ∀ x, (Value.slice sa M.length c).ownBlock = some x → x < B) (hn : M.length < 1000000) :
    Calls Tryd.prog 21 #[.pointer (some ⟨a, 0, none⟩), .slice sa M.length c] W fun en w' => en = .returned (.tuple #[]) ∧ (∃ F G, Va B F w' a M m1 ∧ Va B G w' b [] m2 ∧ (∀ j, F j → ¬ G j) ∧ (∀ j, F j → j < w'.heap.size) ∧ (∀ j, G j → j < w'.heap.size) ∧ Below w.heap.size w w' ∧ w.heap.size ≤ B) ∧ Strs w' (.slice sa M.length c) M := by
  obtain ⟨F, G, h1, h2, h3, h4, h5⟩ := h.ex
  refine (h1.add sa c M hM (fun x hx hf => by have := hv x hx; have := h1.hF x hf; omega) (by simpa using hn)).mono ?_
  rintro en w' ⟨rfl, v, t⟩
  rw [List.nil_append] at v
  refine ⟨rfl, ⟨_, G, v.tight, h2.turn t (fun j hg _ hf => h3 j hf hg) (fun j hf => h1.hF j hf), fun j hj hg => ?_, fun j hj => hj.2, fun j hj => Nat.lt_of_lt_of_le (h5 j hj) t.size, h.bel.trans (t.below h.bel.size (fun j hj hf => by have := h1.hF j hf; have := h.lo; omega)), h.lo⟩, ⟨hM.1.turn t (fun x hx hf => by have := hv x hx; have := h1.hF x hf; omega), hM.2⟩⟩
  rcases hj.1 with hf | hf
  · exact h3 j hf hg
  · have := h5 j hg; omega
theorem Pa.add_second {M : List ByteArray} (h : ∃ F G, Va B F W a M m1 ∧ Va B G W b [] m2 ∧ (∀ j, F j → ¬ G j) ∧ (∀ j, F j → j < W.heap.size) ∧ (∀ j, G j → j < W.heap.size) ∧ Below w.heap.size w W ∧ w.heap.size ≤ B) (sa : Option Addr) (c : Nat) (hM : Strs W (.slice sa M.length c) M) (hv : ∀ x, (Value.slice sa M.length c).ownBlock = some x → x < B) (hn : M.length < 1000000) :
    Calls Tryd.prog 21 #[.pointer (some ⟨b, 0, none⟩), .slice sa M.length c] W fun en w' => en = .returned (.tuple #[]) ∧ Pa B w a b M m1 m2 w' := by
  obtain ⟨F, G, h1, h2, h3, h4, h5, h6, h7⟩ := h
  refine (h2.add sa c M hM (fun x hx hf => by have := hv x hx; have := h2.hF x hf; omega) (by simpa using hn)).mono ?_
  rintro en w' ⟨rfl, v, t⟩
  rw [List.nil_append] at v
  refine ⟨rfl, ⟨F, _, h1.turn t (fun j hf _ hg => h3 j hf hg) (fun j hf => h2.hF j hf), v.tight, fun j hf hj => ?_, fun j hj => Nat.lt_of_lt_of_le (h4 j hj) t.size, fun j hj => hj.2⟩, h6.trans (t.below h6.size (fun j hj hf => by have := h2.hF j hf; omega)), h7⟩
  rcases hj.1 with hg | hg
  · exact h3 j hf hg
  · have := h4 j hf; omega
end
end Go.Proofs.YtiobdhkadbipkaaDoor.prn
end

