/- proof: bothRoots. -/
import Derived.Test.YtiogjmlkogeibaaDoorPrfA
import Derived.Test.YtiogjmlkogeibaaDoorLate
namespace Go.Proofs.YtiogjmlkogeibaaDoor.prf
open Go Go.RowKit Go.Proofs.YtiogjmlkogeibaaDoor.dig

/-- A head's cells. -/
def headC (n : Int) (o : List UInt8) : Array Value := (Value.int .i64 n :: o.map byteV).toArray
theorem headC_size (n : Int) (o : List UInt8) : (headC n o).size = o.length + 1 := by simp [headC]
theorem Has.num {w : World} {g : Nat} {n : Int} {o : List UInt8} (h : Has w g 33 (headC n o)) : w.cell? ⟨g, 0, none⟩ = some (.int .i64 n) := by rw [h.cell]; rfl
theorem Has.root {w : World} {g : Nat} {n : Int} {o : List UInt8} (h : Has w g 33 (headC n o)) : w.rangeAt g 1 (o.map byteV) := fun j u hj => by
  rw [h.cell]
  have : (headC n o)[1 + j]? = (o.map byteV)[j]? := by simp [headC, Nat.add_comm]
  rw [this, hj]
theorem Has.load_root {w : World} {g : Nat} {n : Int} {o : List UInt8} (h : Has w g 33 (headC n o)) (ho : o.length = 32) : (Instr.loadAt 27 (.pointer (some ⟨g, 1, none⟩))).run Tryd.prog w = .ok (.agg (cellsOf o)) w :=
  run_loadAt_mid w g 1 27 (o.map byteV) _ (Has.root h) Tryd.underlying27 rfl (by rw [List.length_map, ho]; kernel_rfl)

theorem results_two {P : Program} {fn : Func} {p q r : Tmp} {ty : TypeId} (h : fn.results = #[.cell p ty, .cell q ty, .tmp r]) (tmps : Array Value) (w : World) (g g2 : Nat) (t : TypeId) (cs cs2 : Array Value) (fr fr2 : Nat × Nat) (d : TypeDesc)
    (hp : tmps.getD p undef = .pointer (some ⟨g, 0, none⟩)) (hg : w.heap[g]? = some (.cells cs t fr)) (hq : tmps.getD q undef = .pointer (some ⟨g2, 0, none⟩)) (hg2 : w.heap[g2]? = some (.cells cs2 t fr2))
    (hu : P.underlying ty = some d) (hd : (match d with | .struct _ | .array _ _ => true | _ => false) = true) (hi : (P.info? ty).map (·.size) = some cs.size) (hi2 : (P.info? ty).map (·.size) = some cs2.size) (v : Value) (hr : tmps.getD r undef = v) :
    (results fn tmps).run P w = .ok (.tuple #[.agg cs, .agg cs2, v]) w := by
  have hp' : tmps[p]?.getD undef = .pointer (some ⟨g, 0, none⟩) := by simpa using hp
  have hq' : tmps[q]?.getD undef = .pointer (some ⟨g2, 0, none⟩) := by simpa using hq
  have hr' : tmps[r]?.getD undef = v := by simpa using hr
  simp [results, h, hp', hq', hr', asAddr, run_loadVar_row w g t ty cs fr d hg hu hd hi, run_loadVar_row w g2 t ty cs2 fr2 d hg2 hu hd hi2]

/-- What lasts in bothRoots: the elder head in its box, the two results' cells. -/
structure Bo (w : World) (N : Int) (o y1 y2 : List UInt8) (W : World) : Prop where
  bel : Below w.heap.size w W
  hd : Has W w.heap.size 33 (headC N o)
  r1 : Has W (w.heap.size + 1) 27 (cellsOf y1)
  r2 : Has W (w.heap.size + 1 + 1) 27 (cellsOf y2)
section
variable {w W W' : World} {N : Int} {o y1 y2 y : List UInt8}
theorem Bo.below (h : Bo w N o y1 y2 W) (b : Below W.heap.size W W') : Bo w N o y1 y2 W' :=
  ⟨h.bel.trans (b.mono h.bel.size), h.hd.below b h.hd.lt, h.r1.below b h.r1.lt, h.r2.below b h.r2.lt⟩
theorem Bo.drew (h : Bo w N o y1 y2 W) : Bo w N o y1 y2 W.drew := h.below (Below.refl _ _).drew
theorem Bo.made (w : World) (N : Int) (o : List UInt8) : Bo w N o Z Z (((w.alloc (.cells (headC N o) 33)).alloc (.cells (cellsOf Z) 27)).alloc (.cells (cellsOf Z) 27)) :=
  ⟨(((Below.refl _ _).alloc (Nat.le_refl _) _).alloc (by simp) _).alloc (by simp; omega) _, ((made_at _ _ rfl).alloc _).alloc _, (made_at _ _ (by simp)).alloc _, made_at _ _ (by simp)⟩
theorem Bo.st1 (h : Bo w N o y1 y2 W) (hW : Has W' (w.heap.size + 1) 27 (cellsOf y)) (t : Turn (fun k => k = w.heap.size + 1) W W') : Bo w N o y y2 W' :=
  ⟨h.bel.trans (t.below h.bel.size (fun j hj e => by omega)), h.hd.turn t (by omega), hW, h.r2.turn t (by omega)⟩
theorem Bo.st2 (h : Bo w N o y1 y2 W) (hW : Has W' (w.heap.size + 1 + 1) 27 (cellsOf y)) (t : Turn (fun k => k = w.heap.size + 1 + 1) W W') : Bo w N o y1 y W' :=
  ⟨h.bel.trans (t.below h.bel.size (fun j hj e => by omega)), h.hd.turn t (by omega), h.r1.turn t (by omega), hW⟩
/-- A stretch's exit. -/
theorem Bo.ret {fn : Func} {tmps : Array Value} {b : Bool} (h : Bo w N o y1 y2 W) (hf : fn.results = #[.cell 8 27, .cell 9 27, .tmp 10]) (h1 : y1.length = 32) (h2 : y2.length = 32)
    (hp : tmps.getD 8 undef = .pointer (some ⟨w.heap.size + 1, 0, none⟩)) (hq : tmps.getD 9 undef = .pointer (some ⟨w.heap.size + 1 + 1, 0, none⟩)) (hr : tmps.getD 10 undef = .bool b) :
    (results fn tmps).run Tryd.prog W = .ok (.tuple #[.agg (cellsOf y1), .agg (cellsOf y2), .bool b]) W :=
  results_two hf tmps W _ _ 27 _ _ _ _ _ hp h.r1 hq h.r2 Tryd.underlying27 rfl (by rw [cellsOf_size, h1]; kernel_rfl) (by rw [cellsOf_size, h2]; kernel_rfl) _ hr
end

theorem wp_region_held {P : Program} {ops : Array Oper} {Q : Exit → Act → World → Prop} {id : Nat} {a : Act} {w : World} (S : World → Prop) (V : World) (hV : V = w.drew) (hm : P.follows .mixedOrders = true)
    (h : wpAnyH P .any ops Q S ops.size (Array.replicate ops.size false) a V) : (Code.region id ops true).wp P Q a w := by
  subst hV
  exact wp_region_any hm (wpAny_of_held _ _ _ _ h)

set_option maxRecDepth 100000 in
set_option maxHeartbeats 1000000 in
theorem both_first {o : List UInt8} (ho : o.length = 32) (n : Nat) (hn : n ≤ 1000000) (a : Option Addr) (l c : Nat) (w : World) (e : Bool) (he : ((l : Int) == 0) = e) :
    Calls Tryd.prog 37 #[.agg (headC n o), .int .i64 0, .int .i64 n, .slice a l c] w fun en w' => en = .returned (.tuple #[.agg (cellsOf o), .agg (cellsOf o), .bool e]) ∧ Below w.heap.size w w' := by
  have HO := Lib.hid ho
  have hn1 : (n : Int) ≤ 1000000 := by omega
  clear ho hn
  have c0 : ∀ A B, (((w.alloc (.cells (headC n o) 33)).alloc A).alloc B).cell? ⟨w.heap.size, 0, none⟩ = some (.int .i64 n) := fun A B => Has.num (((made_at _ _ rfl).alloc A).alloc B)
  go_enter Tryd.func37, Tryd.ntmps37
  go_wp2_with fail
  go_name_world W hW
  have B0 : Hid (Bo w n o Z Z W) := by rw [← hW]; exact Lib.hid (Bo.made w n o)
  clear hW c0
  obtain ⟨V, hV⟩ : ∃ V, V = W.drew := ⟨_, rfl⟩
  refine wp_region_held (fun V => V.rangeAt w.heap.size 1 (o.map byteV)) V hV (by kernel_rfl) ?_
  have BV : Hid (Bo w n o Z Z V) := by rw [hV]; exact Lib.hid B0.out.drew
  clear hV B0
  have hS : V.rangeAt w.heap.size 1 (o.map byteV) := Has.root BV.out.hd
  have hSt : ∀ (k : Nat) (V' : World), Turn (fun j => j = k) V V' → w.heap.size < k → V'.rangeAt w.heap.size 1 (o.map byteV) := fun k V' t hk => Has.root (BV.out.hd.turn t (by omega))
  have hSt2 : ∀ (k : Nat) {V1 : World} (V' : World), Turn (fun j => j = k) V1 V' → w.heap.size < k → V1.rangeAt w.heap.size 1 (o.map byteV) → V'.rangeAt w.heap.size 1 (o.map byteV) := fun k V1 V' t hk h j u hj => by
    have h1 := h j u hj
    rw [← h1]
    unfold World.cell?
    have hlt : w.heap.size < V1.heap.size := by
      rcases Nat.lt_or_ge w.heap.size V1.heap.size with q | q
      · exact q
      · unfold World.cell? at h1; simp [Array.getElem?_eq_none q] at h1
    rw [t.block w.heap.size hlt (by omega)]
  refine held_take 0 (some 25) (v := .pointer (some ⟨w.heap.size, 1, none⟩)) rfl rfl (by kernel_rfl) (by kernel_rfl) (by kernel_rfl) (fun _ _ _ h => h) (.inl ⟨by kernel_rfl, fun V hV => by go_simp⟩) hS ?_
  refine held_take 1 (some 26) (v := .agg (cellsOf o)) rfl rfl (by kernel_rfl) (by kernel_rfl) (by kernel_rfl) (fun _ _ _ h => h) (.inl ⟨by kernel_rfl, fun V hV => by exact exec_load 27 (.tmp 25) rfl (.pointer (some ⟨w.heap.size, 1, none⟩)) rfl (run_loadAt_mid V w.heap.size 1 27 (o.map byteV) _ hV Tryd.underlying27 rfl (by rw [List.length_map, HO.out]; kernel_rfl))⟩) hS ?_
  refine held_take 2 (some 27) (v := .pointer (some ⟨w.heap.size, 1, none⟩)) rfl rfl (by kernel_rfl) (by kernel_rfl) (by kernel_rfl) (fun _ _ _ h => h) (.inl ⟨by kernel_rfl, fun V hV => by go_simp⟩) hS ?_
  refine held_take 3 (some 28) (v := .agg (cellsOf o)) rfl rfl (by kernel_rfl) (by kernel_rfl) (by kernel_rfl) (fun _ _ _ h => h) (.inl ⟨by kernel_rfl, fun V hV => by exact exec_load 27 (.tmp 27) rfl (.pointer (some ⟨w.heap.size, 1, none⟩)) rfl (run_loadAt_mid V w.heap.size 1 27 (o.map byteV) _ hV Tryd.underlying27 rfl (by rw [List.length_map, HO.out]; kernel_rfl))⟩) hS ?_
  refine held_take 4 (some 29) (v := .slice a l c) rfl rfl (by kernel_rfl) (by kernel_rfl) (by kernel_rfl) (fun _ _ _ h => h) (.inl ⟨by kernel_rfl, fun V hV => by go_simp⟩) hS ?_
  refine held_take 5 (some 30) (v := .int .i64 l) rfl rfl (by kernel_rfl) (by kernel_rfl) (by kernel_rfl) (fun _ _ _ h => h) (.inl ⟨by kernel_rfl, fun V hV => by go_simp⟩) hS ?_
  refine held_take 6 (some 31) (v := .bool e) rfl rfl (by kernel_rfl) (by kernel_rfl) (by kernel_rfl) (fun _ _ _ h => h) (.inl ⟨by kernel_rfl, fun V hV => by go_simp⟩) hS ?_
  simp only [Act.put, List.setIfInBounds_toArray]
  refine held_one (i := 7) (by kernel_rfl) ?_
  refine wpOp_wp rfl (by kernel_rfl) ?_
  refine wp_store_row 27 _ _ rfl (w.heap.size + 1) (cellsOf o) rfl rfl 27 (cellsOf Z) BV.out.r1 (by rw [cellsOf_size, HO.out]; kernel_rfl) (by rw [cellsOf_size, cellsOf_size, HO.out, Z_len]) (cellsOf_one _) ?_
  have HW2 : Has (V.setRow (w.heap.size + 1) (cellsOf o)) (w.heap.size + 1) 27 (cellsOf o) := BV.out.r1.row _
  have TW2 : Turn (fun k => k = w.heap.size + 1) V (V.setRow (w.heap.size + 1) (cellsOf o)) := turn_row _ _ _
  have B2 := Lib.hid (BV.out.st1 HW2 TW2)
  have hS2 := hSt _ _ TW2 (by omega)
  clear HW2 TW2
  generalize V.setRow (w.heap.size + 1) (cellsOf o) = W2 at *
  refine ⟨hS2, ?_⟩
  simp only [Act.put]
  refine held_one (i := 8) (by kernel_rfl) ?_
  refine wpOp_wp rfl (by kernel_rfl) ?_
  refine wp_store_row 27 _ _ rfl (w.heap.size + 1 + 1) (cellsOf o) rfl rfl 27 (cellsOf Z) B2.out.r2 (by rw [cellsOf_size, HO.out]; kernel_rfl) (by rw [cellsOf_size, cellsOf_size, HO.out, Z_len]) (cellsOf_one _) ?_
  have HW3 : Has (W2.setRow (w.heap.size + 1 + 1) (cellsOf o)) (w.heap.size + 1 + 1) 27 (cellsOf o) := B2.out.r2.row _
  have TW3 : Turn (fun k => k = w.heap.size + 1 + 1) W2 (W2.setRow (w.heap.size + 1 + 1) (cellsOf o)) := turn_row _ _ _
  have B3 := Lib.hid (B2.out.st2 HW3 TW3)
  have hS3 := hSt2 _ _ TW3 (by omega) hS2
  clear HW3 TW3
  generalize W2.setRow (w.heap.size + 1 + 1) (cellsOf o) = W3 at *
  refine ⟨hS3, ?_⟩
  simp only [Act.put]
  refine held_take 9 (some 10) (v := .bool e) rfl rfl (by kernel_rfl) (by kernel_rfl) (by kernel_rfl) (fun _ _ _ h => h) (.inl ⟨by kernel_rfl, fun V hV => by go_simp⟩) hS3 ?_
  simp only [Act.put]
  refine wpAnyH_done (by kernel_rfl) ?_ _
  go_wp2_with fail
  exact bodyPost_ret (B3.out.ret rfl HO.out HO.out rfl rfl rfl) rfl ⟨rfl, B3.out.bel⟩

set_option maxRecDepth 100000 in
set_option maxHeartbeats 2000000 in
theorem both_none (o : List UInt8) (N f n m : Nat) (hN : N = f + m) (hn : n ≤ 1000000) (hf : f ≤ 1000000) (hm : m ≤ n) (hnf : ¬ (m = n ∧ f = 0)) (a : Option Addr) (c : Nat) (w : World) :
    Calls Tryd.prog 37 #[.agg (headC N o), .int .i64 f, .int .i64 n, .slice a 0 c] w fun en w' => en = .returned (.tuple #[.agg (cellsOf Z), .agg (cellsOf Z), .bool false]) ∧ Below w.heap.size w w' := by
  have e1 : (N : Int) - (f : Int) = (m : Int) := by omega
  have e2 : (m : Int) ≤ 1000000 := by omega
  have e3 : (N : Int) ≤ 2000000 := by omega
  have e4 : (n : Int) ≤ 1000000 := by omega
  have e5 : (f : Int) ≤ 1000000 := by omega
  obtain ⟨b, hb⟩ : ∃ b, ((m : Int) == (n : Int)) = b := ⟨_, rfl⟩
  obtain ⟨b2, hb2⟩ : ∃ b, ((f : Int) == 0) = b := ⟨_, rfl⟩
  have hbb : (b && b2) = false := by
    cases b
    · rfl
    · cases b2
      · rfl
      · rw [beq_iff_eq] at hb hb2; exact absurd ⟨by omega, by omega⟩ hnf
  clear hN hn hf hm hnf
  cases b
  · have c0 : ∀ A B, (((w.alloc (.cells (headC N o) 33)).alloc A).alloc B).cell? ⟨w.heap.size, 0, none⟩ = some (.int .i64 N) := fun A B => Has.num (((made_at _ _ rfl).alloc A).alloc B)
    go_enter Tryd.func37, Tryd.ntmps37
    go_wp2_with fail
    refine callsName (fun W hW => ?_)
    have B0 : Hid (Bo w N o Z Z W) := by rw [← hW]; exact Lib.hid (Bo.made w N o)
    clear hW c0
    refine (split_none a c W).mono ?_
    rintro en w1 ⟨rfl, b1⟩
    have B1 := Lib.hid (B0.out.below b1)
    clear B0 b1
    go_wp2_with (first
      | ((with_reducible refine at_store (.tmp 12) ?_); refine wpList_store_arr (o := ⟨none, _, _, _, _, _⟩) rfl 27 _ _ rfl (w1.heap.size) Z Z rfl rfl _ (made_at _ _ rfl) 32 (by kernel_rfl) Z_len Z_len ?_; intro W2 HW2 TW2
         (have B2 : Hid (Bo w N o Z Z W2 ∧ Has W2 w1.heap.size 27 (cellsOf Z)) := Lib.hid ⟨B1.out.below (((Below.refl _ w1).alloc (Nat.le_refl _) _).trans (TW2.below (by simp) (fun j hj e => by omega))), HW2⟩)
         (clear TW2 HW2 B1))
      | ((with_reducible refine at_store (.tmp 8) ?_); refine wpList_store_arr (o := ⟨none, _, _, _, _, _⟩) rfl 27 _ _ rfl (w.heap.size + 1) Z Z rfl rfl _ B2.out.1.r1 32 (by kernel_rfl) Z_len Z_len ?_; intro W3 HW3 TW3
         (have B3 := Lib.hid (B2.out.1.st1 HW3 TW3))
         (clear TW3 HW3 B2))
      | ((with_reducible refine at_store (.tmp 9) ?_); refine wpList_store_arr (o := ⟨none, _, _, _, _, _⟩) rfl 27 _ _ rfl (w.heap.size + 1 + 1) Z Z rfl rfl _ B3.out.r2 32 (by kernel_rfl) Z_len Z_len ?_; intro W4 HW4 TW4
         (have B4 := Lib.hid (B3.out.st2 HW4 TW4))
         (clear TW4 HW4 B3))
      | fail)
    exact bodyPost_ret (B4.out.ret rfl Z_len Z_len rfl rfl rfl) rfl ⟨rfl, B4.out.bel⟩
  · have hb3 : b2 = false := by simpa using hbb
    subst hb3
    have c0 : ∀ A B, (((w.alloc (.cells (headC N o) 33)).alloc A).alloc B).cell? ⟨w.heap.size, 0, none⟩ = some (.int .i64 N) := fun A B => Has.num (((made_at _ _ rfl).alloc A).alloc B)
    go_enter Tryd.func37, Tryd.ntmps37
    go_wp2_with fail
    refine callsName (fun W hW => ?_)
    have B0 : Hid (Bo w N o Z Z W) := by rw [← hW]; exact Lib.hid (Bo.made w N o)
    clear hW c0
    refine (split_none a c W).mono ?_
    rintro en w1 ⟨rfl, b1⟩
    have B1 := Lib.hid (B0.out.below b1)
    clear B0 b1
    go_wp2_with (first
      | ((with_reducible refine at_store (.tmp 12) ?_); refine wpList_store_arr (o := ⟨none, _, _, _, _, _⟩) rfl 27 _ _ rfl (w1.heap.size) Z Z rfl rfl _ (made_at _ _ rfl) 32 (by kernel_rfl) Z_len Z_len ?_; intro W2 HW2 TW2
         (have B2 : Hid (Bo w N o Z Z W2 ∧ Has W2 w1.heap.size 27 (cellsOf Z)) := Lib.hid ⟨B1.out.below (((Below.refl _ w1).alloc (Nat.le_refl _) _).trans (TW2.below (by simp) (fun j hj e => by omega))), HW2⟩)
         (clear TW2 HW2 B1))
      | ((with_reducible refine at_store (.tmp 8) ?_); refine wpList_store_arr (o := ⟨none, _, _, _, _, _⟩) rfl 27 _ _ rfl (w.heap.size + 1) Z Z rfl rfl _ B2.out.1.r1 32 (by kernel_rfl) Z_len Z_len ?_; intro W3 HW3 TW3
         (have B3 := Lib.hid (B2.out.1.st1 HW3 TW3))
         (clear TW3 HW3 B2))
      | ((with_reducible refine at_store (.tmp 9) ?_); refine wpList_store_arr (o := ⟨none, _, _, _, _, _⟩) rfl 27 _ _ rfl (w.heap.size + 1 + 1) Z Z rfl rfl _ B3.out.r2 32 (by kernel_rfl) Z_len Z_len ?_; intro W4 HW4 TW4
         (have B4 := Lib.hid (B3.out.st2 HW4 TW4))
         (clear TW4 HW4 B3))
      | fail)
    exact bodyPost_ret (B4.out.ret rfl Z_len Z_len rfl rfl rfl) rfl ⟨rfl, B4.out.bel⟩
end Go.Proofs.YtiogjmlkogeibaaDoor.prf
