/- Texts laid into one: Bs, Tst, PrfUS. -/
import Derived.Test.YthbncejbcegmgaaDoorY003
import Derived.Test.YthbncejbcegmgaaDoorY001
import Derived.Test.YthbncejbcegmgaaDoorY010S
import Derived.Lib.ItoaWalk
section
/- Out of RefL: bs, bs_list, bs_size, bs_inj. -/
namespace Go.Proofs.YthbncejbcegmgaaDoor.prf
open Go Go.RowKit Go.Proofs.YthbncejbcegmgaaDoor.dig

/-- Bytes as a text. -/
def bs (x : List UInt8) : ByteArray := ⟨x.toArray⟩
theorem bs_list (x : List UInt8) : (bs x).data.toList = x := by simp [bs]
theorem bs_size (x : List UInt8) : (bs x).size = x.length := by simp [bs, ByteArray.size]
theorem bs_inj {x y : List UInt8} : bs x = bs y ↔ x = y := ⟨fun h => by rw [← bs_list x, ← bs_list y, h], fun h => by rw [h]⟩
end Go.Proofs.YthbncejbcegmgaaDoor.prf
end

section
/- Out of PrfR: Tst, Tst.slice, Tst.below, Tst.cons. -/
namespace Go.Proofs.YthbncejbcegmgaaDoor.prf
open Go Go.RowKit Go.Proofs.YthbncejbcegmgaaDoor.dig

/-- Sums as texts in memory, r: the last one first. -/
def Tst (w : World) (v : Value) (r : List (List UInt8)) : Prop := Seg w 9 1 v r.length (r.reverse.map fun x => Value.string (bs x)) ∧ ∀ x ∈ r, x.length = 32
theorem Tst.slice {w : World} {v : Value} {r : List (List UInt8)} (h : Tst w v r) : ∃ a c, v = .slice a r.length c ∧ r.length ≤ c ∧ c ≤ maxLen := h.1.slice
theorem Tst.below {w w' : World} {v : Value} {r : List (List UInt8)} (h : Tst w v r) (b : Below w.heap.size w w') : Tst w' v r := ⟨h.1.below b (fun _ e => h.1.lt e), h.2⟩
theorem Tst.cons {w : World} {a : Option Addr} {n c : Nat} {s : List UInt8} {r : List (List UInt8)} (h : Tst w (.slice a n c) (s :: r)) : Tst w (.slice a r.length c) r ∧ n = r.length + 1 ∧ n ≤ c ∧ c ≤ maxLen ∧ s.length = 32 ∧ ∃ g off, a = some ⟨g, off, none⟩ ∧ g < w.heap.size ∧ w.cell? ⟨g, off + r.length, none⟩ = some (.string (bs s)) := by
  have hs : s.length = 32 := h.2 s (by simp)
  have hr : ∀ x ∈ r, x.length = 32 := fun x hx => h.2 x (by simp [hx])
  have hlen : (r.reverse.map fun x => Value.string (bs x)).length = r.length * 1 := by simp
  obtain ⟨a', c', e, h1, h2⟩ := h.1.slice
  simp only [Value.slice.injEq] at e
  obtain ⟨rfl, e2, rfl⟩ := e
  rw [List.length_cons] at e2 h1
  subst e2
  have hseg : Seg w 9 1 (.slice a (r.length + 1) c) (r.length + 1) ((r.reverse.map fun x => Value.string (bs x)) ++ [.string (bs s)]) := by
    have := h.1
    rwa [List.reverse_cons, List.map_append, List.length_cons] at this
  obtain ⟨g, off, c2, e3, hg, _, _, hc⟩ := hseg.cells (by omega)
  simp only [Value.slice.injEq] at e3
  obtain ⟨rfl, _, rfl⟩ := e3
  refine ⟨⟨?_, hr⟩, rfl, h1, h2, hs, g, off, rfl, hg, ?_⟩
  · have := Seg.front hseg r.length (by omega) (by simp)
    rwa [List.take_left' hlen] at this
  · exact hc r.length _ (by rw [List.getElem?_append_right (by omega)]; simp)
end Go.Proofs.YthbncejbcegmgaaDoor.prf
end

section
/- Out of PrfU: pad, pad_len, pad_self, Zl, infoB1, lsum_calls, strInfo, Sq, Sq.below, SumsPost, lsums_calls. -/
namespace Go.Proofs.YthbncejbcegmgaaDoor.prf
open Go Go.RowKit Go.Proofs.YthbncejbcegmgaaDoor.dig

/-- Thirty-two bytes of a text: zeros behind it. -/
def pad (s : List UInt8) : List UInt8 := over (List.replicate 32 0) s
theorem pad_len (s : List UInt8) : (pad s).length = 32 := by rw [pad, over_length, List.length_replicate]
theorem pad_self {s : List UInt8} (h : s.length = 32) : pad s = s := by
  unfold pad over
  rw [List.length_replicate, List.take_of_length_le (by omega), List.drop_of_length_le (by rw [List.length_replicate]; omega), List.append_nil]
theorem Zl : (List.replicate 32 (0 : UInt8)).length = 32 := by simp
theorem infoB1 : (Tryd.prog.info? 5).map (·.size) = some 1 := by kernel_rfl

set_option maxRecDepth 100000 in
set_option maxHeartbeats 400000 in
theorem lsum_calls (s : ByteArray) (w : World) : Calls Tryd.prog 15 #[.string s] w fun en w' => en = .returned (.agg (cellsOf (pad s.data.toList))) ∧ Below w.heap.size w w' := by
  go_enter Tryd.func15, Tryd.ntmps15
  go_wp2_with (first
    | ((with_reducible refine at_op 6 ?_); refine wpList_copy_str (o := ⟨some 6, _, _, _, _, _⟩) rfl (.tmp 4) (.tmp 5) 74 9 rfl 5 Tryd.underlying74 infoB1 (w.heap.size + 1) 32 s (List.replicate 32 0) rfl rfl 33 (made_at _ _ (by simp)) ?_; intro w1 h1 t1
       (have K1 : Hid (Has w1 w.heap.size 33 (cellsOf (List.replicate 32 0)) ∧ Has w1 (w.heap.size + 1) 33 (cellsOf (pad s.data.toList)) ∧ Turn (fun k => w.heap.size ≤ k) w w1) := Lib.hid ⟨((made_at _ _ rfl).alloc _).turn t1 (by omega), h1, (((Turn.refl _ w).alloc _).alloc _).trans t1 (fun j hj e => by omega)⟩)
       (clear h1 t1))
    | ((with_reducible refine at_op 7 ?_); refine wpList_load_arr (o := ⟨some 7, _, _, _, _, _⟩) rfl 33 (.tmp 3) rfl (w.heap.size + 1) rfl 33 (pad s.data.toList) 5 32 K1.out.2.1 Tryd.underlying33 (by kernel_rfl) (pad_len _) ?_)
    | ((with_reducible refine at_store (.tmp 2) ?_); refine wpList_store_arr (o := ⟨none, _, _, _, _, _⟩) rfl 33 (.tmp 2) (.tmp 7) rfl w.heap.size (pad s.data.toList) (List.replicate 32 0) rfl rfl 33 K1.out.1 32 (by kernel_rfl) Zl (pad_len _) ?_; intro w2 h2 t2
       (have K2 : Hid (Has w2 w.heap.size 33 (cellsOf (pad s.data.toList)) ∧ Below w.heap.size w w2) := Lib.hid ⟨h2, (K1.out.2.2.trans t2 (fun j hj e => by omega)).below (Nat.le_refl _) (fun j hj e => by omega)⟩)
       (clear h2 t2))
    | fail)
  exact bodyPost_ret (v := .agg (cellsOf (pad s.data.toList))) (results_cell_row rfl _ _ w.heap.size 33 _ _ _ rfl K2.out.1 Tryd.underlying33 rfl (by rw [cellsOf_size, pad_len]; kernel_rfl)) rfl ⟨rfl, K2.out.2⟩

theorem strInfo : ∃ i z, Tryd.prog.info? 9 = some i ∧ i.zero = some z ∧ i.size = 1 ∧ z.cells.size = 1 ∧ i.bytes = 16 := by
  have h2 : (Tryd.prog.info? 9).map (fun i => (i.zero.map (fun z => z.cells.size), i.size, i.bytes)) = some (some 1, 1, 16) := by kernel_rfl
  obtain ⟨i, hi, e⟩ := Option.map_eq_some_iff.1 h2
  simp only [Prod.mk.injEq] at e
  obtain ⟨e1, e2, e3⟩ := e
  obtain ⟨z, hz, e4⟩ := Option.map_eq_some_iff.1 e1
  exact ⟨i, z, hi, hz, e2, e4, e3⟩

/-- What lasts while Sums makes both rows. -/
structure Sq (w : World) (o t : Value) (r : List (List UInt8)) (V : World) : Prop where
  so : Seg V 33 32 o r.length (sumsC r.reverse)
  st : Seg V 9 1 t r.length (r.reverse.map fun x => Value.string (bs x))
  lo : ∀ b, o.ownBlock = some b → w.heap.size ≤ b
  lt : ∀ b, t.ownBlock = some b → w.heap.size ≤ b
  len : ∀ x ∈ r, x.length = 32
  bel : Below w.heap.size w V
theorem Sq.below {w V V' : World} {o t : Value} {r : List (List UInt8)} (h : Sq w o t r V) (b : Below V.heap.size V V') : Sq w o t r V' :=
  ⟨h.so.below b (fun _ e => h.so.lt e), h.st.below b (fun _ e => h.st.lt e), h.lo, h.lt, h.len, h.bel.trans (b.mono h.bel.size)⟩
/-- What Sums answers: one row as sums, one as texts. -/
def SumsPost (w : World) (en : Ending) (w' : World) : Prop :=
  ∃ (o t : Value) (r : List (List UInt8)), en = .returned (.tuple #[o, t]) ∧ r.length ≤ 12 ∧ SmS w' o r ∧ Tst w' t r ∧ (∀ b, o.ownBlock = some b → w.heap.size ≤ b) ∧ (∀ b, t.ownBlock = some b → w.heap.size ≤ b) ∧ Below w.heap.size w w'

set_option maxRecDepth 100000 in
set_option maxHeartbeats 4000000 in
theorem lsums_calls (a : Option Addr) (len cap : Nat) (T : Nat → ByteArray) (w : World) (hA : ArgS w a len cap T) : Calls Tryd.prog 9 #[.slice a len cap] w (SumsPost w) := by
  have HA := Lib.hid hA
  have hlen : (len : Int) ≤ 9223372036854775807 := by have := hA.1; have := hA.2.1; unfold maxLen at this; omega
  clear hA
  go_enter Tryd.func9, Tryd.ntmps9
  go_wp2_with fail
  go_name_world W hW
  have S0 : Hid (Sq w (.slice (some ⟨w.heap.size, 0, none⟩) 0 0) (.slice (some ⟨w.heap.size + 1, 0, none⟩) 0 0) [] W) := by
    rw [← hW]
    exact Lib.hid ⟨Seg.of_has (n := 0) (size := 32) ((made_at _ _ rfl).alloc _) (by simp) (by decide), Seg.of_has (n := 0) (size := 1) (made_at _ _ (by simp)) (by simp) (by decide), fun x hx => by have e : w.heap.size = x := (by simpa [Value.ownBlock] using hx); omega, fun x hx => by have e : w.heap.size + 1 = x := (by simpa [Value.ownBlock] using hx); omega, fun x hx => (by cases hx), ((Below.refl _ _).alloc (Nat.le_refl _) _).alloc (by simp) _⟩
  clear hW
  go_loopw [4, 5, 6] (fun o t i wr => ∃ (k : Nat) (r : List (List UInt8)), i = .int .i64 k ∧ k ≤ 12 ∧ r.length = k ∧ Hid (Sq w o t r wr)) (fun _ _ i _ => 12 - (intOf i).toNat)
  case atStart => exact ⟨0, [], rfl, by omega, rfl, S0⟩
  case round =>
    obtain ⟨k, r, rfl, hk, hr, HS⟩ := hrel
    clear S0
    have hk0 : (0 : Int) ≤ (k : Int) := by omega
    have hk12 : (k : Int) ≤ 12 := by omega
    by_cases hkl : k < len ∧ k < 12
    · obtain ⟨h1, h2⟩ := hkl
      have h1' : (k : Int) < (len : Int) := by omega
      have h2' : (k : Int) < 12 := by omega
      obtain ⟨gb, go, ha, hgb, hcell, hsz⟩ := HA.out.2.2 k h1
      subst ha
      have c0 : wr.cell? ⟨gb, go + k, none⟩ = some (.string (T k)) := by
        rw [← hcell]; unfold World.cell?; rw [HS.out.bel.block gb hgb]
      obtain ⟨t0, ht0⟩ : ∃ t0, t0 = T k := ⟨_, rfl⟩
      rw [← ht0] at c0
      obtain ⟨x, hx⟩ : ∃ x, x = pad t0.data.toList := ⟨_, rfl⟩
      have HX : Hid (x.length = 32) := Lib.hid (by rw [hx, pad_len])
      have HC : ∀ V, Hid (Calls Tryd.prog 15 #[.string t0] V fun en w' => en = .returned (.agg (cellsOf x)) ∧ Below V.heap.size V w') := fun V => Lib.hid (by rw [hx]; exact lsum_calls t0 V)
      have HR := Lib.hid hr
      clear hcell hsz ht0 hx hr
      obtain ⟨i0, z0, hi0, hz0, hz1, hz2, hz3⟩ := sumInfo
      obtain ⟨i1, z1, hi1, hz4, hz5, hz6, hz7⟩ := strInfo
      have HI0 := Lib.hid hi0
      have HZ0 := Lib.hid hz0
      have HI1 := Lib.hid hi1
      have HZ1 := Lib.hid hz4
      clear hi0 hz0 hi1 hz4
      go_wp2_with fail
      refine (HC wr).out.mono ?_
      rintro en w1 ⟨rfl, b1⟩
      have S1 := Lib.hid (HS.out.below b1)
      clear b1 HC HS
      go_wp2_with (first
        | ((with_reducible refine at_store (.tmp 7) ?_); refine wpList_store_arr (o := ⟨none, _, _, _, _, _⟩) rfl 33 _ _ rfl w1.heap.size x (List.replicate 32 0) rfl rfl _ (made_at _ _ rfl) 32 (by kernel_rfl) Zl HX.out ?_; intro W2 HW2 TW2
           (have S2 : Hid (Sq w u4 u5 r W2 ∧ Has W2 w1.heap.size 33 (cellsOf x)) := Lib.hid ⟨S1.out.below (((Below.refl _ w1).alloc (Nat.le_refl _) _).trans (TW2.below (by simp) (fun j hj e => by omega))), HW2⟩)
           (have L2 : Hid (∀ b, u4.ownBlock = some b → b < w1.heap.size) := Lib.hid (fun b hb => S1.out.so.lt hb))
           (clear TW2 HW2 S1))
        | ((with_reducible refine at_op 26 ?_); refine wpList_load_arr (o := ⟨some 26, _, _, _, _, _⟩) rfl 33 _ rfl w1.heap.size rfl 33 x 5 32 S2.out.2 Tryd.underlying33 (by kernel_rfl) HX.out ?_)
        | ((with_reducible refine at_op 27 ?_); refine wpList_build_one (o := ⟨some 27, _, _, _, _, _⟩) rfl 26 33 _ rfl i0 z0 Tryd.underlying26 HI0.out HZ0.out (cellsOf x) rfl (by rw [hz1, cellsOf_size, HX.out]) (by rw [cellsOf_size, HX.out]; decide) (by rw [cellsOf_size, HX.out]; decide) W2.heap.size rfl ?_; intro W3 HW3 BW3
           (have S3 : Hid (Sq w u4 u5 r W3 ∧ Has W3 w1.heap.size 33 (cellsOf x) ∧ Has W3 W2.heap.size 33 (cellsOf x) ∧ W2.heap.size ≤ W3.heap.size) := Lib.hid ⟨S2.out.1.below BW3, S2.out.2.below BW3 S2.out.2.lt, HW3, BW3.size⟩)
           (have LW : Hid (w.heap.size ≤ W2.heap.size) := Lib.hid S2.out.1.bel.size)
           (clear HW3 BW3 S2))
        | ((with_reducible refine at_op 28 ?_); refine wpList_append_seg (o := ⟨some 28, _, _, _, _, _⟩) _ rfl (.tmp 25) (.tmp 27) 26 rfl 33 i0 z0 32 32 Tryd.underlying26 HI0.out HZ0.out hz1 hz3 hz2 (by decide) u4 r.length (sumsC r.reverse) rfl S3.out.1.so ⟨W2.heap.size, 0, none⟩ 1 1 (x.map byteV) rfl (by rw [List.length_map, HX.out]) (World.news_of_block S3.out.2.2.1) (byteV_one _) (by decide) (by have := HR.out; unfold maxLen; omega) (by have := HR.out; omega) _ rfl ?_
           intro g off cp w4 hown hgrow hat hlt
           (have S4 : Hid (Seg w4 33 32 (.slice (some ⟨g, off, none⟩) (r.length + 1) cp) (r.length + 1) (sumsC r.reverse ++ x.map byteV) ∧ Seg w4 9 1 u5 r.length (r.reverse.map fun x => Value.string (bs x)) ∧ Has w4 w1.heap.size 33 (cellsOf x) ∧ (w.heap.size ≤ g) ∧ Below w.heap.size w w4) := Lib.hid (by
             have t4 : Turn (fun j => u4.ownBlock = some j) W3 w4 := ⟨hgrow.os, hgrow.tape, hgrow.output, hgrow.size, fun j hj e => hgrow.block j hj (fun e2 => e e2.symm)⟩
             refine ⟨hown, S3.out.1.st.turn t4 (fun b hb e => S3.out.1.so.apart S3.out.1.st (by decide) b e hb), S3.out.2.1.turn t4 (fun e => by have := L2.out _ e; omega), ?_, S3.out.1.bel.trans (t4.below S3.out.1.bel.size (fun j hj e => by have := S3.out.1.lo j e; omega))⟩
             rcases hat with h | h
             · exact S3.out.1.lo g h
             · rw [h]; exact S3.out.1.bel.size))
           (have ca : (convert 74 9 (.slice (some ⟨w1.heap.size, 0, none⟩) 32 32)).run Tryd.prog w4 = .ok (.string (bs x)) w4 := by
             have := run_str_arr (P := Tryd.prog) 74 9 5 Tryd.underlying74 Tryd.underlying5 Tryd.underlying9 w1.heap.size 33 x 32 w4 S4.out.2.2.1
             rwa [HX.out] at this)
           (have G4 := Lib.hid (And.intro S3.out.1.lt S3.out.1.len))
           (clear hown hgrow hat hlt S3 L2))
        | ((with_reducible refine at_op 33 ?_); refine wpList_append_seg (o := ⟨some 33, _, _, _, _, _⟩) _ rfl (.tmp 29) (.tmp 32) 22 rfl 9 i1 z1 1 16 Tryd.underlying22 HI1.out HZ1.out hz5 hz7 hz6 (by decide) u5 r.length (r.reverse.map fun x => Value.string (bs x)) rfl (S4.out.2.1.alloc _) ⟨w4.heap.size, 0, none⟩ 1 1 [.string (bs x)] rfl rfl (World.news_of_block (heap_alloc_new _ _)) (by simp [Value.oneCell']) (by decide) (by have := HR.out; unfold maxLen; omega) (by have := HR.out; omega) _ rfl ?_
           intro g2 off2 cp2 w5 hown hgrow hat hlt
           (have S5 : Hid (Sq w (.slice (some ⟨g, off, none⟩) (r.length + 1) cp) (.slice (some ⟨g2, off2, none⟩) (r.length + 1) cp2) (x :: r) w5) := Lib.hid (by
             have t5 : Turn (fun j => u5.ownBlock = some j ∨ w4.heap.size ≤ j) w4 w5 := ((Turn.refl _ w4).alloc _).trans ⟨hgrow.os, hgrow.tape, hgrow.output, hgrow.size, fun j hj e => hgrow.block j hj (fun e2 => e e2.symm)⟩ (fun j _ e => .inl e)
             have hlt4 : ∀ b, (Value.slice (some ⟨g, off, none⟩) (r.length + 1) cp).ownBlock = some b → b < w4.heap.size := fun b hb => S4.out.1.lt hb
             refine ⟨?_, ?_, fun b hb => ?_, fun b hb => ?_, fun y hy => ?_, ?_⟩
             · rw [List.length_cons, List.reverse_cons, sumsC_snoc]
               exact S4.out.1.turn t5 (fun b hb e => by
                 rcases e with e | e
                 · exact S4.out.1.apart S4.out.2.1 (by decide) b hb e
                 · have := hlt4 b hb; omega)
             · rw [List.length_cons, List.reverse_cons, List.map_append]; exact hown
             · have e : g = b := by simpa [Value.ownBlock] using hb
               rw [← e]; exact S4.out.2.2.2.1
             · have e : g2 = b := by simpa [Value.ownBlock] using hb
               rw [← e]
               rcases hat with h | h
               · exact G4.out.1 g2 h
               · rw [h]; exact Nat.le_trans S4.out.2.2.2.2.size (by simp)
             · rcases List.mem_cons.1 hy with rfl | hy
               · exact HX.out
               · exact G4.out.2 y hy
             · exact S4.out.2.2.2.2.trans (t5.below S4.out.2.2.2.2.size (fun j hj e => by
                 rcases e with e | e
                 · have := G4.out.1 j e; omega
                 · have := S4.out.2.2.2.2.size; omega))))
           (clear hown hgrow hat hlt S4 ca G4))
        | fail)
      have hR := HR.out
      refine ⟨⟨k + 1, x :: r, by rw [Int.natCast_add]; rfl, by omega, by rw [List.length_cons, hR], ?_⟩, ?_⟩
      · exact S5
      · show 12 - ((k : Int) + 1).toNat < 12 - ((k : Int)).toNat
        omega
    · have HS' : Hid (SumsPost w (.returned (.tuple #[u4, u5])) wr) := Lib.hid ⟨_, _, r, rfl, by omega, ⟨HS.out.so, HS.out.len⟩, ⟨HS.out.st, HS.out.len⟩, HS.out.lo, HS.out.lt, HS.out.bel⟩
      by_cases hk1 : k < len
      · have h2' : ¬ (k : Int) < 12 := by omega
        have h1' : (k : Int) < (len : Int) := by omega
        go_wp2_with fail
        go_ret2
        exact HS'.out
      · have h1' : ¬ (k : Int) < (len : Int) := by omega
        go_wp2_with fail
        go_ret2
        exact HS'.out
end Go.Proofs.YthbncejbcegmgaaDoor.prf
end

