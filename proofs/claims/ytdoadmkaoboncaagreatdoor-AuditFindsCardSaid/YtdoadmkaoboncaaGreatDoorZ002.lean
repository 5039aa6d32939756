/- Texts laid into one: PrfG, PrfH, PrfI, PrfJ, PrfY, AudA, HeadQ, AudB, ClaA. -/
import Derived.Test.YtdoadmkaoboncaaGreatDoorZ001
import Derived.Test.YtdoadmkaoboncaaGreatDoorDigM
import Derived.Test.YtdoadmkaoboncaaGreatDoorAny
import Derived.Test.YtdoadmkaoboncaaGreatDoorFltDI
import Derived.Test.YtdoadmkaoboncaaGreatDoorZ000
import Derived.Test.YtdoadmkaoboncaaGreatDoorSums
import Derived.Test.YtdoadmkaoboncaaGreatDoorDigI
import Derived.StillTailTactics
section
/- proof: elder. -/
namespace Go.Proofs.YtdoadmkaoboncaaGreatDoor.prf
open Go Go.RowKit Go.Proofs.YtdoadmkaoboncaaGreatDoor.dig

theorem Has.load_sum {w : World} {g : Nat} {o : List UInt8} (h : Has w g 38 (cellsOf o)) (ho : o.length = 32) : (Instr.loadAt 38 (.pointer (some ⟨g, 0, none⟩))).run Tryz.prog w = .ok (.agg (cellsOf o)) w :=
  run_loadAt_mid w g 0 38 (o.map byteV) _ (Has.range h) Tryz.underlying38 rfl (by rw [List.length_map, ho]; kernel_rfl)

set_option maxRecDepth 100000 in
set_option maxHeartbeats 1000000 in
theorem elder_same {old root : List UInt8} (ho : old.length = 32) (hr : root.length = 32) (n : Int) (a : Option Addr) (l c : Nat) (w : World) (e : Bool) (he : ((l : Int) == 0) = e) :
    Calls Tryz.prog 68 #[.agg (headC n old), .agg (headC n root), .slice a l c] w fun en w' => en = .returned (.bool (e && (old == root))) ∧ Below w.heap.size w w' := by
  have HO := Lib.hid ho
  have HRT := Lib.hid hr
  have hq : ∀ w, (binOp .eql 38 (.agg (cellsOf old)) (.agg (cellsOf root))).run Tryz.prog w = .ok (.bool (old == root)) w := run_eql_sum old root ho hr
  clear ho hr
  have c0 : ∀ A, ((w.alloc (.cells (headC n old) 41)).alloc A).cell? ⟨w.heap.size, 0, none⟩ = some (.int .i64 n) := fun A => Has.num ((made_at _ _ rfl).alloc A)
  have c1 : ∀ A, ((w.alloc A).alloc (.cells (headC n root) 41)).cell? ⟨w.heap.size + 1, 0, none⟩ = some (.int .i64 n) := fun A => Has.num (made_at _ _ (by simp))
  cases e
  · go_enter Tryz.func68, Tryz.ntmps68
    go_wp2_with fail
    go_ret
    exact ⟨rfl, ((Below.refl _ _).alloc (Nat.le_refl _) _).alloc (by simp) _⟩
  · go_enter Tryz.func68, Tryz.ntmps68
    go_wp2_with (first
      | ((with_reducible refine at_opg 20 ?_); refine wpList_load_if (by kernel_rfl) 38 _ rfl (.pointer (some ⟨w.heap.size, 1, none⟩)) rfl (Has.load_root ((made_at _ _ rfl).alloc _) HO.out) ?_)
      | ((with_reducible refine at_opg 22 ?_); refine wpList_load_if (by kernel_rfl) 38 _ rfl (.pointer (some ⟨w.heap.size + 1, 1, none⟩)) rfl (Has.load_root (made_at _ _ (by simp)) HRT.out) ?_)
      | fail)
    go_ret
    exact ⟨rfl, ((Below.refl _ _).alloc (Nat.le_refl _) _).alloc (by simp) _⟩

set_option maxRecDepth 100000 in
set_option maxHeartbeats 2000000 in
theorem elder_zero {old root : List UInt8} (ho : old.length = 32) (n : Int) (hn : n ≠ 0) (a : Option Addr) (l c : Nat) (w : World) (hR : Rk w) (e : Bool) (he : ((l : Int) == 0) = e) :
    Calls Tryz.prog 68 #[.agg (headC 0 old), .agg (headC n root), .slice a l c] w fun en w' => en = .returned (.bool (e && (old == sum []))) ∧ Below w.heap.size w w' := by
  have HO := Lib.hid ho
  have HR := Lib.hid hR
  have n0 : ((0 : Int) == n) = false := by rw [beq_eq_false_iff_ne]; omega
  have n1 : ¬ (0 : Int) = n := by omega
  have hq : ∀ w, (binOp .eql 38 (.agg (cellsOf old)) (.agg (cellsOf (sum [])))).run Tryz.prog w = .ok (.bool (old == sum [])) w := run_eql_sum old (sum []) ho (sum_length _)
  obtain ⟨z, hz⟩ : ∃ z, z = sum [] := ⟨_, rfl⟩
  have HZ := Lib.hid hz
  rw [← hz] at hq ⊢
  clear ho hR hn hz
  have c0 : ∀ A, ((w.alloc (.cells (headC 0 old) 41)).alloc A).cell? ⟨w.heap.size, 0, none⟩ = some (.int .i64 0) := fun A => Has.num ((made_at _ _ rfl).alloc A)
  have c1 : ∀ A, ((w.alloc A).alloc (.cells (headC n root) 41)).cell? ⟨w.heap.size + 1, 0, none⟩ = some (.int .i64 n) := fun A => Has.num (made_at _ _ (by simp))
  go_enter Tryz.func68, Tryz.ntmps68
  go_wp2_with fail
  go_name_world W hW
  have B0 : Hid (Below w.heap.size w W ∧ Has W w.heap.size 41 (headC 0 old)) := by rw [← hW]; exact Lib.hid ⟨((Below.refl _ _).alloc (Nat.le_refl _) _).alloc (by simp) _, (made_at _ _ rfl).alloc _⟩
  clear hW c0 c1
  have C : Hid (∀ V, (Below w.heap.size w V ∧ Has V w.heap.size 41 (headC 0 old)) → Calls Tryz.prog 53 #[.string ⟨#[]⟩] V fun en w' => en = .returned (.agg (cellsOf z)) ∧ (Below w.heap.size w w' ∧ Has w' w.heap.size 41 (headC 0 old))) := Lib.hid fun V hV =>
    (dig.of_calls ⟨#[]⟩ V (HR.out.below hV.1) (by decide)).mono fun _ _ p => ⟨by rw [p.1, HZ.out], hV.1.trans (p.2.mono hV.1.size), hV.2.below p.2 hV.2.lt⟩
  cases e
  · refine wp_region_S (S := fun V => Below w.heap.size w V ∧ Has V w.heap.size 41 (headC 0 old)) (by kernel_rfl) ⟨B0.out.1.drew, B0.out.2.drew⟩ ?_
    refine AnyS.pure 0 (some 28) rfl rfl (by kernel_rfl) (by kernel_rfl) (by kernel_rfl) (fun _ _ _ h => h) (by kernel_rfl) (fun _ _ => rfl) ?_
    refine AnyS.pure 1 (some 29) (v := .int .i64 l) rfl rfl (by kernel_rfl) (by kernel_rfl) (by kernel_rfl) (fun _ _ _ h => h) (by kernel_rfl) (fun V _ => by go_simp) ?_
    refine AnyS.pure 2 (some 30) (v := .bool false) rfl rfl (by kernel_rfl) (by kernel_rfl) (by kernel_rfl) (fun _ _ _ h => h) (by kernel_rfl) (fun V _ => by go_simp) ?_
    refine AnyS.pure 3 (some 31) rfl rfl (by kernel_rfl) (by kernel_rfl) (by kernel_rfl) (fun _ _ _ h => h) (by kernel_rfl) (fun _ _ => rfl) ?_
    refine AnyS.skip 4 (some 32) rfl rfl (by kernel_rfl) (by kernel_rfl) (by kernel_rfl) (fun _ _ _ h => h) (by kernel_rfl) ?_
    refine AnyS.skip 5 (some 33) rfl rfl (by kernel_rfl) (by kernel_rfl) (by kernel_rfl) (fun _ _ _ h => h) (by kernel_rfl) ?_
    refine AnyS.skip 6 (some 34) rfl rfl (by kernel_rfl) (by kernel_rfl) (by kernel_rfl) (fun _ _ _ h => h) (by kernel_rfl) ?_
    refine AnyS.skip 7 (some 35) rfl rfl (by kernel_rfl) (by kernel_rfl) (by kernel_rfl) (fun _ _ _ h => h) (by kernel_rfl) ?_
    simp only [Act.put, List.setIfInBounds_toArray, List.set_cons_zero, List.set_cons_succ]
    refine AnyS.pure 8 (some 36) (v := .bool false) rfl rfl (by kernel_rfl) (by kernel_rfl) (by kernel_rfl) (fun _ _ _ h => h) (by kernel_rfl) (fun V _ => by go_simp) ?_
    refine AnyS.pure 9 (some 6) rfl rfl (by kernel_rfl) (by kernel_rfl) (by kernel_rfl) (fun _ _ _ h => h) (by kernel_rfl) (fun _ _ => rfl) ?_
    simp only [Act.put]
    refine AnyS.done (by kernel_rfl) (fun V hV => ?_) _
    have HV := Lib.hid hV
    clear hV B0 C
    go_wp2_with fail
    go_ret
    exact ⟨rfl, HV.out.1⟩
  · refine wp_region_S (S := fun V => Below w.heap.size w V ∧ Has V w.heap.size 41 (headC 0 old)) (by kernel_rfl) ⟨B0.out.1.drew, B0.out.2.drew⟩ ?_
    refine AnyS.pure 0 (some 28) rfl rfl (by kernel_rfl) (by kernel_rfl) (by kernel_rfl) (fun _ _ _ h => h) (by kernel_rfl) (fun _ _ => rfl) ?_
    refine AnyS.pure 1 (some 29) (v := .int .i64 l) rfl rfl (by kernel_rfl) (by kernel_rfl) (by kernel_rfl) (fun _ _ _ h => h) (by kernel_rfl) (fun V _ => by go_simp) ?_
    refine AnyS.pure 2 (some 30) (v := .bool true) rfl rfl (by kernel_rfl) (by kernel_rfl) (by kernel_rfl) (fun _ _ _ h => h) (by kernel_rfl) (fun V _ => by go_simp) ?_
    refine AnyS.pure 3 (some 31) rfl rfl (by kernel_rfl) (by kernel_rfl) (by kernel_rfl) (fun _ _ _ h => h) (by kernel_rfl) (fun _ _ => rfl) ?_
    refine AnyS.pure 4 (some 32) (v := .pointer (some ⟨w.heap.size, 1, none⟩)) rfl rfl (by kernel_rfl) (by kernel_rfl) (by kernel_rfl) (fun _ _ _ h => h) (by kernel_rfl) (fun V _ => by go_simp) ?_
    refine AnyS.pure 5 (some 33) (v := .agg (cellsOf old)) rfl rfl (by kernel_rfl) (by kernel_rfl) (by kernel_rfl) (fun _ _ _ h => h) (by kernel_rfl) (fun V hV => by exact exec_load 38 (.tmp 32) rfl (.pointer (some ⟨w.heap.size, 1, none⟩)) rfl (Has.load_root hV.2 HO.out)) ?_
    refine AnyS.call 6 (some 34) (.agg (cellsOf z)) rfl rfl (by kernel_rfl) (by kernel_rfl) (by kernel_rfl) (fun _ _ _ h => h) (by kernel_rfl) 53 Tryz.f53 Tryz.func53 (by kernel_rfl) (by kernel_rfl) _ _ rfl #[.string ⟨#[]⟩] (by first | (simp [Act.eval]; done) | (simp [Act.eval, Act.put]; done)) (fun V hV => C.out V hV) ?_
    simp only [Act.put, List.setIfInBounds_toArray, List.set_cons_zero, List.set_cons_succ]
    refine AnyS.pure 7 (some 35) (v := .bool (old == z)) rfl rfl (by kernel_rfl) (by kernel_rfl) (by kernel_rfl) (fun _ _ _ h => h) (by kernel_rfl) (fun V _ => by go_simp) ?_
    refine AnyS.pure 8 (some 36) (v := .bool (old == z)) rfl rfl (by kernel_rfl) (by kernel_rfl) (by kernel_rfl) (fun _ _ _ h => h) (by kernel_rfl) (fun V _ => by go_simp) ?_
    refine AnyS.pure 9 (some 6) rfl rfl (by kernel_rfl) (by kernel_rfl) (by kernel_rfl) (fun _ _ _ h => h) (by kernel_rfl) (fun _ _ => rfl) ?_
    refine AnyS.done (by kernel_rfl) (fun V hV => ?_) _
    have HV := Lib.hid hV
    clear hV B0 C
    go_wp2_with fail
    go_ret
    exact ⟨rfl, HV.out.1⟩
end Go.Proofs.YtdoadmkaoboncaaGreatDoor.prf
end

section
/- proof: elder, of an elder head over some leaves. -/
namespace Go.Proofs.YtdoadmkaoboncaaGreatDoor.prf
open Go Go.RowKit Go.Proofs.YtdoadmkaoboncaaGreatDoor.dig

set_option maxRecDepth 100000 in
set_option maxHeartbeats 2000000 in
theorem elder_more {old root t1 t2 : List UInt8} {tb : Bool} (ho : old.length = 32) (hr : root.length = 32) (ht1 : t1.length = 32) (ht2 : t2.length = 32) (m n : Int) (hm : m ≠ 0) (hmn : m ≠ n) (a : Option Addr) (l c : Nat) (w : World)
    (hb : ∀ V, Below w.heap.size w V → Calls Tryz.prog 97 #[.agg (headC m old), .int .i64 0, .int .i64 n, .slice a l c] V (BothPost V (t1, t2, tb))) :
    Calls Tryz.prog 68 #[.agg (headC m old), .agg (headC n root), .slice a l c] w fun en w' => en = .returned (.bool (tb && (t1 == old) && (t2 == root))) ∧ Below w.heap.size w w' := by
  have HO := Lib.hid ho
  have HRT := Lib.hid hr
  have HT1 := Lib.hid ht1
  have HT2 := Lib.hid ht2
  have HB := Lib.hid hb
  have q1 : ∀ w, (binOp .eql 38 (.agg (cellsOf t1)) (.agg (cellsOf old))).run Tryz.prog w = .ok (.bool (t1 == old)) w := run_eql_sum t1 old ht1 ho
  have q2 : ∀ w, (binOp .eql 38 (.agg (cellsOf t2)) (.agg (cellsOf root))).run Tryz.prog w = .ok (.bool (t2 == root)) w := run_eql_sum t2 root ht2 hr
  obtain ⟨b1, hb1⟩ : ∃ b, (t1 == old) = b := ⟨_, rfl⟩
  obtain ⟨b2, hb2⟩ : ∃ b, (t2 == root) = b := ⟨_, rfl⟩
  rw [hb1] at q1
  rw [hb2] at q2
  rw [hb1, hb2]
  have n0 : (m == n) = false := by rw [beq_eq_false_iff_ne]; exact hmn
  have n1 : (m == 0) = false := by rw [beq_eq_false_iff_ne]; exact hm
  clear ho hr ht1 ht2 hb hb1 hb2
  have key : tb = false ∨ (tb = true ∧ b1 = false) ∨ (tb = true ∧ b1 = true) := by cases tb <;> cases b1 <;> simp
  rcases key with rfl | ⟨rfl, rfl⟩ | ⟨rfl, rfl⟩
  all_goals
    have c0 : ∀ A, ((w.alloc (.cells (headC m old) 41)).alloc A).cell? ⟨w.heap.size, 0, none⟩ = some (.int .i64 m) := fun A => Has.num ((made_at _ _ rfl).alloc A)
    have c1 : ∀ A, ((w.alloc A).alloc (.cells (headC n root) 41)).cell? ⟨w.heap.size + 1, 0, none⟩ = some (.int .i64 n) := fun A => Has.num (made_at _ _ (by simp))
    go_enter Tryz.func68, Tryz.ntmps68
    go_wp2_with (first
      | ((with_reducible refine at_op 38 ?_); refine wpList_load_row (o := ⟨some 38, _, _, _, _, _⟩) rfl 41 _ rfl w.heap.size rfl 41 (headC m old) (0, 0) _ ((made_at _ _ rfl).alloc _) Tryz.underlying41 rfl (by rw [headC_size, HO.out]; kernel_rfl) ?_)
      | fail)
    refine callsName (fun W hW => ?_)
    have B0 : Hid (Below w.heap.size w W ∧ Has W w.heap.size 41 (headC m old) ∧ Has W (w.heap.size + 1) 41 (headC n root)) := by rw [← hW]; exact Lib.hid ⟨((Below.refl _ _).alloc (Nat.le_refl _) _).alloc (by simp) _, (made_at _ _ rfl).alloc _, made_at _ _ (by simp)⟩
    clear hW c0 c1
    refine (HB.out W B0.out.1).mono ?_
    rintro en w1 ⟨rfl, b1'⟩
    have B1 : Hid (Below w.heap.size w w1 ∧ Has w1 w.heap.size 41 (headC m old) ∧ Has w1 (w.heap.size + 1) 41 (headC n root)) := Lib.hid ⟨B0.out.1.trans (b1'.mono B0.out.1.size), B0.out.2.1.below b1' B0.out.2.1.lt, B0.out.2.2.below b1' B0.out.2.2.lt⟩
    clear B0 b1' HB
    go_wp2_with (first
      | ((with_reducible refine at_store (.tmp 7) ?_); refine wpList_store_arr (o := ⟨none, _, _, _, _, _⟩) rfl 38 _ _ rfl w1.heap.size t1 Z rfl rfl _ ((made_at _ _ rfl).alloc _) 32 (by kernel_rfl) Z_len HT1.out ?_; intro W2 HW2 TW2
         (have B2 : Hid (Below w.heap.size w W2 ∧ Has W2 w.heap.size 41 (headC m old) ∧ Has W2 (w.heap.size + 1) 41 (headC n root) ∧ Has W2 w1.heap.size 38 (cellsOf t1) ∧ Has W2 (w1.heap.size + 1) 38 (cellsOf Z)) := Lib.hid (by
           have b2 : Below w1.heap.size w1 W2 := (((Below.refl _ _).alloc (Nat.le_refl _) _).alloc (by simp) _).trans (TW2.below (by simp; omega) (fun j hj e => by omega))
           exact ⟨B1.out.1.trans (b2.mono B1.out.1.size), B1.out.2.1.below b2 B1.out.2.1.lt, B1.out.2.2.below b2 B1.out.2.2.lt, HW2, (made_at _ _ (by simp)).turn TW2 (by omega)⟩))
         (clear TW2 HW2))
      | ((with_reducible refine at_store (.tmp 8) ?_); refine wpList_store_arr (o := ⟨none, _, _, _, _, _⟩) rfl 38 _ _ rfl (w1.heap.size + 1) t2 Z rfl rfl _ B2.out.2.2.2.2 32 (by kernel_rfl) Z_len HT2.out ?_; intro W3 HW3 TW3
         (have B3 : Hid (Below w.heap.size w W3 ∧ Has W3 w.heap.size 41 (headC m old) ∧ Has W3 (w.heap.size + 1) 41 (headC n root) ∧ Has W3 w1.heap.size 38 (cellsOf t1) ∧ Has W3 (w1.heap.size + 1) 38 (cellsOf t2)) := Lib.hid (by
           have l1 := B1.out.2.2.lt
           have l2 := B1.out.2.1.lt
           have l3 := B2.out.2.2.2.1.lt
           exact ⟨B2.out.1.trans (TW3.below B2.out.1.size (fun j hj e => by omega)), B2.out.2.1.turn TW3 (by omega), B2.out.2.2.1.turn TW3 (by omega), B2.out.2.2.2.1.turn TW3 (by omega), HW3⟩))
         (clear TW3 HW3 B2))
      | ((with_reducible refine at_opg 48 ?_); refine wpList_load_if (by rfl) 38 _ rfl (.pointer (some ⟨w1.heap.size, 0, none⟩)) rfl (Has.load_sum B3.out.2.2.2.1 HT1.out) ?_)
      | ((with_reducible refine at_opg 50 ?_); refine wpList_load_if (by rfl) 38 _ rfl (.pointer (some ⟨w.heap.size, 1, none⟩)) rfl (Has.load_root B3.out.2.1 HO.out) ?_)
      | ((with_reducible refine at_opg 54 ?_); refine wpList_load_if (by rfl) 38 _ rfl (.pointer (some ⟨w1.heap.size + 1, 0, none⟩)) rfl (Has.load_sum B3.out.2.2.2.2 HT2.out) ?_)
      | ((with_reducible refine at_opg 56 ?_); refine wpList_load_if (by rfl) 38 _ rfl (.pointer (some ⟨w.heap.size + 1, 1, none⟩)) rfl (Has.load_root B3.out.2.2.1 HRT.out) ?_)
      | fail)
    go_ret
    exact ⟨rfl, B3.out.1⟩
end Go.Proofs.YtdoadmkaoboncaaGreatDoor.prf
end

section
/- proof: Inclusion; what an error of one step is. -/
namespace Go.Proofs.YtdoadmkaoboncaaGreatDoor.prf
open Go Go.RowKit Go.Proofs.YtdoadmkaoboncaaGreatDoor.dig

theorem run_neq_sum (xs ys : List UInt8) (hx : xs.length = 32) (hy : ys.length = 32) (w : World) : (binOp .neq 38 (.agg (cellsOf xs)) (.agg (cellsOf ys))).run Tryz.prog w = .ok (.bool (!(xs == ys))) w := by
  simp only [binOp]
  have := run_equalIn_bytes (P := Tryz.prog) 9998 (t := 38) (e := 5) 32 Tryz.underlying38 Tryz.underlying5 (by kernel_rfl) xs ys hx hy w
  simp [Op.equal, Op.maxDepth, this]

/-- No error, or a number with one step around it. -/
def IsErr (w : World) (v : Value) (s : ByteArray) (a E : Int) : Prop :=
  (E = 0 ∧ v = .nilIface) ∨ (E ≠ 0 ∧ ∃ b, v = flt.ev [⟨b, s, a⟩] E ∧ flt.Er w.heap.size w [⟨b, s, a⟩] E)
theorem IsErr.below {w w' : World} {v : Value} {s : ByteArray} {a E : Int} (h : IsErr w v s a E) (b : Below w.heap.size w w') : IsErr w' v s a E :=
  h.imp id fun ⟨h1, x, h2, h3⟩ => ⟨h1, x, h2, (h3.below b (Nat.le_refl _)).more b.size⟩
theorem IsErr.ok (w : World) (s : ByteArray) (a : Int) : IsErr w .nilIface s a 0 := .inl ⟨rfl, rfl⟩
/-- What makes an error answers one. -/
def ErrPost (w : World) (s : ByteArray) (a E : Int) (en : Ending) (w' : World) : Prop := ∃ v, en = .returned v ∧ IsErr w' v s a E ∧ Below w.heap.size w w'
theorem in_post (s : ByteArray) (a E : Int) (hE : E ≠ 0) (w : World) : Calls Tryz.prog 37 #[.string s, .int .i64 a, flt.ev [] E] w (ErrPost w s a E) := by
  refine (flt.in_calls [] E s a w hE).mono ?_
  rintro en w' ⟨rfl, rfl⟩
  refine ⟨_, rfl, .inr ⟨hE, _, rfl, ⟨⟨Has.made _ _ _, by simp⟩, trivial⟩⟩, (Below.refl _ _).alloc (Nat.le_refl _) _⟩

set_option maxRecDepth 100000 in
set_option maxHeartbeats 1000000 in
theorem incl_out (leaf : ByteArray) (i n : Int) (root : List UInt8) (h : i < 0 ∨ n ≤ i) (v : Value) (w : World) : Calls Tryz.prog 54 #[.string leaf, .int .i64 i, .agg (headC n root), v] w (ErrPost w ⟨#[108, 101, 97, 102]⟩ i 6) := by
  have c0 : (w.alloc (.cells (headC n root) 41)).cell? ⟨w.heap.size, 0, none⟩ = some (.int .i64 n) := Has.num (made_at _ _ rfl)
  have HI := fun V => Lib.hid (in_post ⟨#[108, 101, 97, 102]⟩ i 6 (by decide) V)
  by_cases h0 : i < 0
  · clear h
    go_enter Tryz.func54, Tryz.ntmps54
    go_wp2_with fail
    refine (HI _).out.mono ?_
    rintro en w1 ⟨v, rfl, he, b⟩
    go_wp2_with fail
    go_ret
    exact ⟨v, rfl, he, ((Below.refl _ _).alloc (Nat.le_refl _) _).trans (b.mono (by simp))⟩
  · have h1 : n ≤ i := h.resolve_left h0
    clear h
    go_enter Tryz.func54, Tryz.ntmps54
    go_wp2_with fail
    refine (HI _).out.mono ?_
    rintro en w1 ⟨v, rfl, he, b⟩
    go_wp2_with fail
    go_ret
    exact ⟨v, rfl, he, ((Below.refl _ _).alloc (Nat.le_refl _) _).trans (b.mono (by simp))⟩

/-- What lasts while Inclusion reckons. -/
structure Ic (w : World) (n : Int) (root : List UInt8) (V : World) : Prop where
  bel : Below w.heap.size w V
  hd : Has V w.heap.size 41 (headC n root)
theorem Ic.below {w V V' : World} {n : Int} {root : List UInt8} (h : Ic w n root V) (b : Below V.heap.size V V') : Ic w n root V' := ⟨h.bel.trans (b.mono h.bel.size), h.hd.below b h.hd.lt⟩
theorem Ic.drew {w V : World} {n : Int} {root : List UInt8} (h : Ic w n root V) : Ic w n root V.drew := h.below (Below.refl _ _).drew

set_option maxRecDepth 100000 in
set_option maxHeartbeats 4000000 in
theorem incl_in {leaf : ByteArray} {root lf u1 : List UInt8} {ub : Bool} (hr : root.length = 32) (h1 : u1.length = 32) (i n : Nat) (hi : i < n) (_hn : n ≤ 1000000) (a : Option Addr) (l c : Nat) (w : World)
    (hl : ∀ V, Below w.heap.size w V → Calls Tryz.prog 75 #[.string leaf] V fun en w' => en = .returned (.agg (cellsOf lf)) ∧ Below V.heap.size V w')
    (hc : ∀ V, Below w.heap.size w V → Calls Tryz.prog 80 #[.agg (cellsOf lf), .int .i64 i, .int .i64 n, .slice a l c] V fun en w' => en = .returned (.tuple #[.agg (cellsOf u1), .bool ub]) ∧ Below V.heap.size V w') :
    Calls Tryz.prog 54 #[.string leaf, .int .i64 i, .agg (headC n root), .slice a l c] w (ErrPost w ⟨#[108, 101, 97, 102]⟩ i (if ub = true ∧ u1 = root then 0 else 12)) := by
  have HR := Lib.hid hr
  have H1 := Lib.hid h1
  have HL := Lib.hid hl
  have HC := Lib.hid hc
  obtain ⟨b1, hb1⟩ : ∃ b, (u1 == root) = b := ⟨_, rfl⟩
  have q1 : ∀ w, (binOp .neq 38 (.agg (cellsOf u1)) (.agg (cellsOf root))).run Tryz.prog w = .ok (.bool (!b1)) w := fun w => by rw [run_neq_sum u1 root h1 hr w, hb1]
  obtain ⟨E, hE⟩ : ∃ E : Int, E = if ub = true ∧ u1 = root then 0 else 12 := ⟨_, rfl⟩
  rw [← hE]
  have key : (ub = false ∧ E = 12) ∨ (ub = true ∧ b1 = false ∧ E = 12) ∨ (ub = true ∧ b1 = true ∧ E = 0) := by
    cases ub
    · exact .inl ⟨rfl, by rw [hE, if_neg (by simp)]⟩
    · cases b1
      · exact .inr (.inl ⟨rfl, rfl, by rw [hE, if_neg (fun e => by rw [e.2] at hb1; simp at hb1)]⟩)
      · exact .inr (.inr ⟨rfl, rfl, by rw [hE, if_pos ⟨rfl, by simpa using hb1⟩]⟩)
  have HI := fun V => Lib.hid (in_post ⟨#[108, 101, 97, 102]⟩ i 12 (by decide) V)
  have KEY := Lib.hid key
  have i0 : (0 : Int) ≤ (i : Int) := by omega
  have i1 : (i : Int) < (n : Int) := by omega
  clear hr h1 hl hc hb1 hE key hi
  have c0 : (w.alloc (.cells (headC n root) 41)).cell? ⟨w.heap.size, 0, none⟩ = some (.int .i64 n) := Has.num (made_at _ _ rfl)
  go_enter Tryz.func54, Tryz.ntmps54
  go_wp2_with fail
  go_name_world W hW
  have B0 : Hid (Ic w n root W) := by rw [← hW]; exact Lib.hid ⟨(Below.refl _ _).alloc (Nat.le_refl _) _, made_at _ _ rfl⟩
  clear hW c0
  obtain ⟨V0, hV0⟩ : ∃ V, V = W.drew := ⟨_, rfl⟩
  refine wp_region_held (fun V => Ic w n root V) V0 hV0 (by kernel_rfl) ?_
  have S0 : Ic w n root V0 := by rw [hV0]; exact B0.out.drew
  clear hV0 B0
  refine held_take 0 (some 23) (v := .string leaf) rfl rfl (by kernel_rfl) (by kernel_rfl) (by kernel_rfl) (fun _ _ _ h => h) (.inl ⟨by kernel_rfl, fun V hV => by go_simp⟩) S0 ?_
  refine held_take 2 (some 25) (v := .int .i64 i) rfl rfl (by kernel_rfl) (by kernel_rfl) (by kernel_rfl) (fun _ _ _ h => h) (.inl ⟨by kernel_rfl, fun V hV => by go_simp⟩) S0 ?_
  refine held_take 3 (some 26) (v := .pointer (some ⟨w.heap.size, 0, none⟩)) rfl rfl (by kernel_rfl) (by kernel_rfl) (by kernel_rfl) (fun _ _ _ h => h) (.inl ⟨by kernel_rfl, fun V hV => by go_simp⟩) S0 ?_
  refine held_take 4 (some 27) (v := .int .i64 n) rfl rfl (by kernel_rfl) (by kernel_rfl) (by kernel_rfl) (fun _ _ _ h => h) (.inl ⟨by kernel_rfl, fun V hV => by have c0 := Has.num hV.hd; go_simp⟩) S0 ?_
  refine held_take 5 (some 28) (v := .slice a l c) rfl rfl (by kernel_rfl) (by kernel_rfl) (by kernel_rfl) (fun _ _ _ h => h) (.inl ⟨by kernel_rfl, fun V hV => by go_simp⟩) S0 ?_
  simp only [Act.put, List.setIfInBounds_toArray, List.set_cons_zero, List.set_cons_succ]
  refine held_two (i := 1) (j := 10) (by kernel_rfl) ?_ ?_
  · refine wpOp_call (some 24) rfl rfl (by kernel_rfl) 75 Tryz.f75 Tryz.func75 (by kernel_rfl) (by kernel_rfl) _ _ rfl #[.string leaf] (by first | (simp [Act.eval]; done) | (simp [Act.eval, Act.put]; done)) (HL.out V0 S0.bel) ?_
    rintro en V1 ⟨rfl, b⟩
    have S1 := S0.below b
    clear b
    refine ⟨_, rfl, S1, ?_⟩
    simp only [Act.put, List.setIfInBounds_toArray, List.set_cons_zero, List.set_cons_succ]
    refine held_two (i := 6) (j := 10) (by kernel_rfl) ?_ ?_
    · refine wpOp_call (some 29) rfl rfl (by kernel_rfl) 80 Tryz.f80 Tryz.func80 (by kernel_rfl) (by kernel_rfl) _ _ rfl #[.agg (cellsOf lf), .int .i64 i, .int .i64 n, .slice a l c] (by first | (simp [Act.eval]; done) | (simp [Act.eval, Act.put]; done)) (HC.out V1 S1.bel) ?_
      rintro en V2 ⟨rfl, b⟩
      have S2 := S1.below b
      clear b
      refine ⟨_, rfl, S2, ?_⟩
      simp only [Act.put, List.setIfInBounds_toArray, List.set_cons_zero, List.set_cons_succ]
      refine held_take 7 (some 22) (v := .tuple #[.agg (cellsOf u1), .bool ub]) rfl rfl (by kernel_rfl) (by kernel_rfl) (by kernel_rfl) (fun _ _ _ h => h) (.inl ⟨by kernel_rfl, fun V hV => by go_simp⟩) S2 ?_
      refine held_take 8 (some 30) (v := .agg (cellsOf u1)) rfl rfl (by kernel_rfl) (by kernel_rfl) (by kernel_rfl) (fun _ _ _ h => h) (.inl ⟨by kernel_rfl, fun V hV => by go_simp⟩) S2 ?_
      refine held_take 9 (some 31) (v := .bool ub) rfl rfl (by kernel_rfl) (by kernel_rfl) (by kernel_rfl) (fun _ _ _ h => h) (.inl ⟨by kernel_rfl, fun V hV => by go_simp⟩) S2 ?_
      simp only [Act.put, List.setIfInBounds_toArray, List.set_cons_zero, List.set_cons_succ]
      refine held_one (i := 10) (by kernel_rfl) ?_
      refine wpOp_value (some 9) (v := .pointer (some ⟨V2.heap.size, 0, none⟩)) (w' := V2.alloc (.cells (cellsOf Z) 38)) rfl rfl (by kernel_rfl) (by go_simp; rfl) ?_
      have S3 : Ic w n root (V2.alloc (.cells (cellsOf Z) 38)) := S2.below ((Below.refl _ _).alloc (Nat.le_refl _) _)
      have G3 : Has (V2.alloc (.cells (cellsOf Z) 38)) V2.heap.size 38 (cellsOf Z) := made_at _ _ rfl
      have L3 : w.heap.size < V2.heap.size := S2.hd.lt
      generalize V2.alloc (.cells (cellsOf Z) 38) = V3 at *
      generalize V2.heap.size = g at *
      refine ⟨S3, ?_⟩
      simp only [Act.put, List.setIfInBounds_toArray, List.set_cons_zero, List.set_cons_succ]
      refine held_one (i := 11) (by kernel_rfl) ?_
      refine wpOp_wp rfl (by kernel_rfl) ?_
      refine wp_store_row 38 _ _ rfl g (cellsOf u1) rfl rfl 38 (cellsOf Z) G3 (by rw [cellsOf_size, H1.out]; kernel_rfl) (by rw [cellsOf_size, cellsOf_size, H1.out, Z_len]) (cellsOf_one _) ?_
      have HW : Has (V3.setRow g (cellsOf u1)) g 38 (cellsOf u1) := G3.row _
      have TW : Turn (fun k => k = g) V3 (V3.setRow g (cellsOf u1)) := turn_row _ _ _
      have SW : Ic w n root (V3.setRow g (cellsOf u1)) := ⟨S3.bel.trans (TW.below S3.bel.size (fun j hj e => by have := L3; omega)), S3.hd.turn TW (by have := L3; omega)⟩
      clear TW
      generalize V3.setRow g (cellsOf u1) = W9 at *
      refine ⟨SW, ?_⟩
      simp only [Act.put]
      refine held_take 12 (some 10) (v := .bool ub) rfl rfl (by kernel_rfl) (by kernel_rfl) (by kernel_rfl) (fun _ _ _ h => h) (.inl ⟨by kernel_rfl, fun V hV => by go_simp⟩) SW ?_
      simp only [Act.put]
      refine wpAnyH_done (by kernel_rfl) ?_ _
      have HSW := Lib.hid SW
      have HHW := Lib.hid HW
      clear SW HW
      rcases KEY.out with ⟨rfl, rfl⟩ | ⟨rfl, rfl, rfl⟩ | ⟨rfl, rfl, rfl⟩
      · go_wp2_with fail
        refine (HI _).out.mono ?_
        rintro en w1 ⟨v, rfl, he, b⟩
        go_wp2_with fail
        go_ret
        exact ⟨v, rfl, he, HSW.out.bel.trans (b.mono HSW.out.bel.size)⟩
      · go_wp2_with (first
          | ((with_reducible refine at_opg 35 ?_); refine wpList_load_if (by kernel_rfl) 38 _ rfl (.pointer (some ⟨g, 0, none⟩)) rfl (Has.load_sum HHW.out H1.out) ?_)
          | ((with_reducible refine at_opg 37 ?_); refine wpList_load_if (by kernel_rfl) 38 _ rfl (.pointer (some ⟨w.heap.size, 1, none⟩)) rfl (Has.load_root HSW.out.hd HR.out) ?_)
          | fail)
        refine (HI _).out.mono ?_
        rintro en w1 ⟨v, rfl, he, b⟩
        go_wp2_with fail
        go_ret
        exact ⟨v, rfl, he, HSW.out.bel.trans (b.mono HSW.out.bel.size)⟩
      · go_wp2_with (first
          | ((with_reducible refine at_opg 35 ?_); refine wpList_load_if (by kernel_rfl) 38 _ rfl (.pointer (some ⟨g, 0, none⟩)) rfl (Has.load_sum HHW.out H1.out) ?_)
          | ((with_reducible refine at_opg 37 ?_); refine wpList_load_if (by kernel_rfl) 38 _ rfl (.pointer (some ⟨w.heap.size, 1, none⟩)) rfl (Has.load_root HSW.out.hd HR.out) ?_)
          | fail)
        go_ret
        exact ⟨_, rfl, IsErr.ok _ _ _, HSW.out.bel⟩
    · refine wpOp_value (some 9) (v := .pointer (some ⟨V1.heap.size, 0, none⟩)) (w' := V1.alloc (.cells (cellsOf Z) 38)) rfl rfl (by kernel_rfl) (by go_simp; rfl) ?_
      have S2 : Ic w n root (V1.alloc (.cells (cellsOf Z) 38)) := S1.below ((Below.refl _ _).alloc (Nat.le_refl _) _)
      have G2 : Has (V1.alloc (.cells (cellsOf Z) 38)) V1.heap.size 38 (cellsOf Z) := made_at _ _ rfl
      have L2 : w.heap.size < V1.heap.size := S1.hd.lt
      generalize V1.alloc (.cells (cellsOf Z) 38) = V2 at *
      generalize V1.heap.size = g at *
      refine ⟨S2, ?_⟩
      simp only [Act.put, List.setIfInBounds_toArray, List.set_cons_zero, List.set_cons_succ]
      refine held_one (i := 6) (by kernel_rfl) ?_
      refine wpOp_call (some 29) rfl rfl (by kernel_rfl) 80 Tryz.f80 Tryz.func80 (by kernel_rfl) (by kernel_rfl) _ _ rfl #[.agg (cellsOf lf), .int .i64 i, .int .i64 n, .slice a l c] (by first | (simp [Act.eval]; done) | (simp [Act.eval, Act.put]; done)) (HC.out V2 S2.bel) ?_
      rintro en V3 ⟨rfl, b⟩
      have S3 := S2.below b
      have G3 : Has V3 g 38 (cellsOf Z) := G2.below b G2.lt
      clear b
      refine ⟨_, rfl, S3, ?_⟩
      simp only [Act.put, List.setIfInBounds_toArray, List.set_cons_zero, List.set_cons_succ]
      refine held_take 7 (some 22) (v := .tuple #[.agg (cellsOf u1), .bool ub]) rfl rfl (by kernel_rfl) (by kernel_rfl) (by kernel_rfl) (fun _ _ _ h => h) (.inl ⟨by kernel_rfl, fun V hV => by go_simp⟩) S3 ?_
      refine held_take 8 (some 30) (v := .agg (cellsOf u1)) rfl rfl (by kernel_rfl) (by kernel_rfl) (by kernel_rfl) (fun _ _ _ h => h) (.inl ⟨by kernel_rfl, fun V hV => by go_simp⟩) S3 ?_
      refine held_take 9 (some 31) (v := .bool ub) rfl rfl (by kernel_rfl) (by kernel_rfl) (by kernel_rfl) (fun _ _ _ h => h) (.inl ⟨by kernel_rfl, fun V hV => by go_simp⟩) S3 ?_
      simp only [Act.put, List.setIfInBounds_toArray, List.set_cons_zero, List.set_cons_succ]
      refine held_one (i := 11) (by kernel_rfl) ?_
      refine wpOp_wp rfl (by kernel_rfl) ?_
      refine wp_store_row 38 _ _ rfl g (cellsOf u1) rfl rfl 38 (cellsOf Z) G3 (by rw [cellsOf_size, H1.out]; kernel_rfl) (by rw [cellsOf_size, cellsOf_size, H1.out, Z_len]) (cellsOf_one _) ?_
      have HW : Has (V3.setRow g (cellsOf u1)) g 38 (cellsOf u1) := G3.row _
      have TW : Turn (fun k => k = g) V3 (V3.setRow g (cellsOf u1)) := turn_row _ _ _
      have SW : Ic w n root (V3.setRow g (cellsOf u1)) := ⟨S3.bel.trans (TW.below S3.bel.size (fun j hj e => by have := L2; omega)), S3.hd.turn TW (by have := L2; omega)⟩
      clear TW
      generalize V3.setRow g (cellsOf u1) = W9 at *
      refine ⟨SW, ?_⟩
      simp only [Act.put]
      refine held_take 12 (some 10) (v := .bool ub) rfl rfl (by kernel_rfl) (by kernel_rfl) (by kernel_rfl) (fun _ _ _ h => h) (.inl ⟨by kernel_rfl, fun V hV => by go_simp⟩) SW ?_
      simp only [Act.put]
      refine wpAnyH_done (by kernel_rfl) ?_ _
      have HSW := Lib.hid SW
      have HHW := Lib.hid HW
      clear SW HW
      rcases KEY.out with ⟨rfl, rfl⟩ | ⟨rfl, rfl, rfl⟩ | ⟨rfl, rfl, rfl⟩
      · go_wp2_with fail
        refine (HI _).out.mono ?_
        rintro en w1 ⟨v, rfl, he, b⟩
        go_wp2_with fail
        go_ret
        exact ⟨v, rfl, he, HSW.out.bel.trans (b.mono HSW.out.bel.size)⟩
      · go_wp2_with (first
          | ((with_reducible refine at_opg 35 ?_); refine wpList_load_if (by kernel_rfl) 38 _ rfl (.pointer (some ⟨g, 0, none⟩)) rfl (Has.load_sum HHW.out H1.out) ?_)
          | ((with_reducible refine at_opg 37 ?_); refine wpList_load_if (by kernel_rfl) 38 _ rfl (.pointer (some ⟨w.heap.size, 1, none⟩)) rfl (Has.load_root HSW.out.hd HR.out) ?_)
          | fail)
        refine (HI _).out.mono ?_
        rintro en w1 ⟨v, rfl, he, b⟩
        go_wp2_with fail
        go_ret
        exact ⟨v, rfl, he, HSW.out.bel.trans (b.mono HSW.out.bel.size)⟩
      · go_wp2_with (first
          | ((with_reducible refine at_opg 35 ?_); refine wpList_load_if (by kernel_rfl) 38 _ rfl (.pointer (some ⟨g, 0, none⟩)) rfl (Has.load_sum HHW.out H1.out) ?_)
          | ((with_reducible refine at_opg 37 ?_); refine wpList_load_if (by kernel_rfl) 38 _ rfl (.pointer (some ⟨w.heap.size, 1, none⟩)) rfl (Has.load_root HSW.out.hd HR.out) ?_)
          | fail)
        go_ret
        exact ⟨_, rfl, IsErr.ok _ _ _, HSW.out.bel⟩
  · refine wpOp_value (some 9) (v := .pointer (some ⟨V0.heap.size, 0, none⟩)) (w' := V0.alloc (.cells (cellsOf Z) 38)) rfl rfl (by kernel_rfl) (by go_simp; rfl) ?_
    have S1 : Ic w n root (V0.alloc (.cells (cellsOf Z) 38)) := S0.below ((Below.refl _ _).alloc (Nat.le_refl _) _)
    have G1 : Has (V0.alloc (.cells (cellsOf Z) 38)) V0.heap.size 38 (cellsOf Z) := made_at _ _ rfl
    have L1 : w.heap.size < V0.heap.size := S0.hd.lt
    generalize V0.alloc (.cells (cellsOf Z) 38) = V1 at *
    generalize V0.heap.size = g at *
    refine ⟨S1, ?_⟩
    simp only [Act.put, List.setIfInBounds_toArray, List.set_cons_zero, List.set_cons_succ]
    refine held_one (i := 1) (by kernel_rfl) ?_
    refine wpOp_call (some 24) rfl rfl (by kernel_rfl) 75 Tryz.f75 Tryz.func75 (by kernel_rfl) (by kernel_rfl) _ _ rfl #[.string leaf] (by first | (simp [Act.eval]; done) | (simp [Act.eval, Act.put]; done)) (HL.out V1 S1.bel) ?_
    rintro en V2 ⟨rfl, b⟩
    have S2 := S1.below b
    have G2 : Has V2 g 38 (cellsOf Z) := G1.below b G1.lt
    clear b
    refine ⟨_, rfl, S2, ?_⟩
    simp only [Act.put, List.setIfInBounds_toArray, List.set_cons_zero, List.set_cons_succ]
    refine held_one (i := 6) (by kernel_rfl) ?_
    refine wpOp_call (some 29) rfl rfl (by kernel_rfl) 80 Tryz.f80 Tryz.func80 (by kernel_rfl) (by kernel_rfl) _ _ rfl #[.agg (cellsOf lf), .int .i64 i, .int .i64 n, .slice a l c] (by first | (simp [Act.eval]; done) | (simp [Act.eval, Act.put]; done)) (HC.out V2 S2.bel) ?_
    rintro en V3 ⟨rfl, b⟩
    have S3 := S2.below b
    have G3 : Has V3 g 38 (cellsOf Z) := G2.below b G2.lt
    clear b
    refine ⟨_, rfl, S3, ?_⟩
    simp only [Act.put, List.setIfInBounds_toArray, List.set_cons_zero, List.set_cons_succ]
    refine held_take 7 (some 22) (v := .tuple #[.agg (cellsOf u1), .bool ub]) rfl rfl (by kernel_rfl) (by kernel_rfl) (by kernel_rfl) (fun _ _ _ h => h) (.inl ⟨by kernel_rfl, fun V hV => by go_simp⟩) S3 ?_
    refine held_take 8 (some 30) (v := .agg (cellsOf u1)) rfl rfl (by kernel_rfl) (by kernel_rfl) (by kernel_rfl) (fun _ _ _ h => h) (.inl ⟨by kernel_rfl, fun V hV => by go_simp⟩) S3 ?_
    refine held_take 9 (some 31) (v := .bool ub) rfl rfl (by kernel_rfl) (by kernel_rfl) (by kernel_rfl) (fun _ _ _ h => h) (.inl ⟨by kernel_rfl, fun V hV => by go_simp⟩) S3 ?_
    simp only [Act.put, List.setIfInBounds_toArray, List.set_cons_zero, List.set_cons_succ]
    refine held_one (i := 11) (by kernel_rfl) ?_
    refine wpOp_wp rfl (by kernel_rfl) ?_
    refine wp_store_row 38 _ _ rfl g (cellsOf u1) rfl rfl 38 (cellsOf Z) G3 (by rw [cellsOf_size, H1.out]; kernel_rfl) (by rw [cellsOf_size, cellsOf_size, H1.out, Z_len]) (cellsOf_one _) ?_
    have HW : Has (V3.setRow g (cellsOf u1)) g 38 (cellsOf u1) := G3.row _
    have TW : Turn (fun k => k = g) V3 (V3.setRow g (cellsOf u1)) := turn_row _ _ _
    have SW : Ic w n root (V3.setRow g (cellsOf u1)) := ⟨S3.bel.trans (TW.below S3.bel.size (fun j hj e => by have := L1; omega)), S3.hd.turn TW (by have := L1; omega)⟩
    clear TW
    generalize V3.setRow g (cellsOf u1) = W9 at *
    refine ⟨SW, ?_⟩
    simp only [Act.put]
    refine held_take 12 (some 10) (v := .bool ub) rfl rfl (by kernel_rfl) (by kernel_rfl) (by kernel_rfl) (fun _ _ _ h => h) (.inl ⟨by kernel_rfl, fun V hV => by go_simp⟩) SW ?_
    simp only [Act.put]
    refine wpAnyH_done (by kernel_rfl) ?_ _
    have HSW := Lib.hid SW
    have HHW := Lib.hid HW
    clear SW HW
    rcases KEY.out with ⟨rfl, rfl⟩ | ⟨rfl, rfl, rfl⟩ | ⟨rfl, rfl, rfl⟩
    · go_wp2_with fail
      refine (HI _).out.mono ?_
      rintro en w1 ⟨v, rfl, he, b⟩
      go_wp2_with fail
      go_ret
      exact ⟨v, rfl, he, HSW.out.bel.trans (b.mono HSW.out.bel.size)⟩
    · go_wp2_with (first
        | ((with_reducible refine at_opg 35 ?_); refine wpList_load_if (by kernel_rfl) 38 _ rfl (.pointer (some ⟨g, 0, none⟩)) rfl (Has.load_sum HHW.out H1.out) ?_)
        | ((with_reducible refine at_opg 37 ?_); refine wpList_load_if (by kernel_rfl) 38 _ rfl (.pointer (some ⟨w.heap.size, 1, none⟩)) rfl (Has.load_root HSW.out.hd HR.out) ?_)
        | fail)
      refine (HI _).out.mono ?_
      rintro en w1 ⟨v, rfl, he, b⟩
      go_wp2_with fail
      go_ret
      exact ⟨v, rfl, he, HSW.out.bel.trans (b.mono HSW.out.bel.size)⟩
    · go_wp2_with (first
        | ((with_reducible refine at_opg 35 ?_); refine wpList_load_if (by kernel_rfl) 38 _ rfl (.pointer (some ⟨g, 0, none⟩)) rfl (Has.load_sum HHW.out H1.out) ?_)
        | ((with_reducible refine at_opg 37 ?_); refine wpList_load_if (by kernel_rfl) 38 _ rfl (.pointer (some ⟨w.heap.size, 1, none⟩)) rfl (Has.load_root HSW.out.hd HR.out) ?_)
        | fail)
      go_ret
      exact ⟨_, rfl, IsErr.ok _ _ _, HSW.out.bel⟩
end Go.Proofs.YtdoadmkaoboncaaGreatDoor.prf
end

section
/- proof: Inclusion, elder, Consistency whole. -/
namespace Go.Proofs.YtdoadmkaoboncaaGreatDoor.prf
open Go Go.RowKit Go.Proofs.YtdoadmkaoboncaaGreatDoor.dig

theorem incl_calls (leaf : ByteArray) (i n : Int) (root : List UInt8) (hr : root.length = 32) (hn : n ≤ 1000000) (r : List (List UInt8)) (a : Option Addr) (c : Nat) (w : World) (hR : Rk w) (hS : Sms w (.slice a r.length c) r) (hl : leaf.size < 1000000000000000000) :
    Calls Tryz.prog 54 #[.string leaf, .int .i64 i, .agg (headC n root), .slice a r.length c] w (ErrPost w ⟨#[108, 101, 97, 102]⟩ i (inclE leaf.data.toList i n root r)) := by
  by_cases h : i < 0 ∨ n ≤ i
  · unfold inclE
    rw [if_pos h]
    exact incl_out leaf i n root h _ w
  · unfold inclE
    rw [if_neg h]
    have hi : i = (i.toNat : Int) := by omega
    have hn' : n = (n.toNat : Int) := by omega
    obtain ⟨j, hj⟩ : ∃ j, j = i.toNat := ⟨_, rfl⟩
    obtain ⟨k, hk⟩ : ∃ k, k = n.toNat := ⟨_, rfl⟩
    rw [← hj] at hi ⊢
    rw [← hk] at hn' ⊢
    subst hi hn'
    have hjk : j < k := by omega
    exact incl_in hr (up_len Z_len (leafS_length _) r j k) j k hjk (by omega) a _ c w (fun V b => leaf_calls leaf V (hR.below b) hl)
      (fun V b => rootOf_calls (leafS_length _) r j k a c V (hR.below b) (hS.below b) hjk (by omega))

theorem elder_calls {old root : List UInt8} (ho : old.length = 32) (hr : root.length = 32) (m n : Nat) (hm : m ≤ n) (hn : n ≤ 1000000) (r : List (List UInt8)) (a : Option Addr) (c : Nat) (w : World) (hR : Rk w) (hS : Sms w (.slice a r.length c) r) :
    Calls Tryz.prog 68 #[.agg (headC m old), .agg (headC n root), .slice a r.length c] w fun en w' => en = .returned (.bool (elderB m old n root r)) ∧ Below w.heap.size w w' := by
  unfold elderB
  by_cases h : m = n
  · subst h
    rw [if_pos rfl]
    exact elder_same ho hr m a _ c w _ (isEmpty_len r)
  · rw [if_neg h]
    by_cases h0 : m = 0
    · subst h0
      rw [if_pos rfl]
      exact elder_zero ho n (by omega) a _ c w hR _ (isEmpty_len r)
    · rw [if_neg h0]
      obtain ⟨l1, l2⟩ := both_len Z_len ho r true m n hS.2
      exact elder_more ho hr l1 l2 m n (by omega) (by omega) a _ c w (fun V b => both_calls ho r m 0 m n a c V (hR.below b) (hS.below b) (by omega) (by omega) hm hn (by omega))

set_option maxRecDepth 100000 in
set_option maxHeartbeats 1000000 in
theorem cons_out (m n : Int) (old root : List UInt8) (h : m < 0 ∨ n < m) (v : Value) (w : World) : Calls Tryz.prog 40 #[.agg (headC m old), .agg (headC n root), v] w (ErrPost w ⟨#[112, 114, 101, 102, 105, 120]⟩ m 6) := by
  have c0 : ∀ A, ((w.alloc (.cells (headC m old) 41)).alloc A).cell? ⟨w.heap.size, 0, none⟩ = some (.int .i64 m) := fun A => Has.num ((made_at _ _ rfl).alloc A)
  have c1 : ∀ A, ((w.alloc A).alloc (.cells (headC n root) 41)).cell? ⟨w.heap.size + 1, 0, none⟩ = some (.int .i64 n) := fun A => Has.num (made_at _ _ (by simp))
  have HI := fun V => Lib.hid (in_post ⟨#[112, 114, 101, 102, 105, 120]⟩ m 6 (by decide) V)
  by_cases h0 : m < 0
  · clear h
    go_enter Tryz.func40, Tryz.ntmps40
    go_wp2_with fail
    refine (HI _).out.mono ?_
    rintro en w1 ⟨v, rfl, he, b⟩
    go_wp2_with fail
    go_ret
    exact ⟨v, rfl, he, (((Below.refl _ _).alloc (Nat.le_refl _) _).alloc (by simp) _).trans (b.mono (by simp; omega))⟩
  · have h1 : n < m := h.resolve_left h0
    clear h
    go_enter Tryz.func40, Tryz.ntmps40
    go_wp2_with fail
    refine (HI _).out.mono ?_
    rintro en w1 ⟨v, rfl, he, b⟩
    go_wp2_with fail
    go_ret
    exact ⟨v, rfl, he, (((Below.refl _ _).alloc (Nat.le_refl _) _).alloc (by simp) _).trans (b.mono (by simp; omega))⟩

set_option maxRecDepth 100000 in
set_option maxHeartbeats 1000000 in
theorem cons_in {m n : Int} {old root : List UInt8} (ho : old.length = 32) (hr : root.length = 32) (h0 : 0 ≤ m) (h1 : m ≤ n) (v : Value) (w : World) (e : Bool)
    (hc : ∀ V, Below w.heap.size w V → Calls Tryz.prog 68 #[.agg (headC m old), .agg (headC n root), v] V fun en w' => en = .returned (.bool e) ∧ Below V.heap.size V w') :
    Calls Tryz.prog 40 #[.agg (headC m old), .agg (headC n root), v] w (ErrPost w ⟨#[112, 114, 101, 102, 105, 120]⟩ m (if e = true then 0 else 12)) := by
  have HO := Lib.hid ho
  have HRT := Lib.hid hr
  have HC := Lib.hid hc
  clear ho hr hc
  have c0 : ∀ A, ((w.alloc (.cells (headC m old) 41)).alloc A).cell? ⟨w.heap.size, 0, none⟩ = some (.int .i64 m) := fun A => Has.num ((made_at _ _ rfl).alloc A)
  have c1 : ∀ A, ((w.alloc A).alloc (.cells (headC n root) 41)).cell? ⟨w.heap.size + 1, 0, none⟩ = some (.int .i64 n) := fun A => Has.num (made_at _ _ (by simp))
  have HI := fun V => Lib.hid (in_post ⟨#[112, 114, 101, 102, 105, 120]⟩ m 12 (by decide) V)
  cases e
  all_goals
    go_enter Tryz.func40, Tryz.ntmps40
    go_wp2_with (first
      | ((with_reducible refine at_op 21 ?_); refine wpList_load_row (o := ⟨some 21, _, _, _, _, _⟩) rfl 41 _ rfl w.heap.size rfl 41 (headC m old) (0, 0) _ ((made_at _ _ rfl).alloc _) Tryz.underlying41 rfl (by rw [headC_size, HO.out]; kernel_rfl) ?_)
      | ((with_reducible refine at_op 22 ?_); refine wpList_load_row (o := ⟨some 22, _, _, _, _, _⟩) rfl 41 _ rfl (w.heap.size + 1) rfl 41 (headC n root) (0, 0) _ (made_at _ _ (by simp)) Tryz.underlying41 rfl (by rw [headC_size, HRT.out]; kernel_rfl) ?_)
      | fail)
    refine callsName (fun W hW => ?_)
    have B0 : Hid (Below w.heap.size w W ∧ Has W w.heap.size 41 (headC m old)) := by rw [← hW]; exact Lib.hid ⟨((Below.refl _ _).alloc (Nat.le_refl _) _).alloc (by simp) _, (made_at _ _ rfl).alloc _⟩
    clear hW c0 c1
    refine (HC.out W B0.out.1).mono ?_
    rintro en w1 ⟨rfl, b⟩
    have B1 : Hid (Below w.heap.size w w1 ∧ Has w1 w.heap.size 41 (headC m old)) := Lib.hid ⟨B0.out.1.trans (b.mono B0.out.1.size), B0.out.2.below b B0.out.2.lt⟩
    clear b B0 HC
    have c0 := Has.num B1.out.2
  · go_wp2_with fail
    refine (HI _).out.mono ?_
    rintro en w2 ⟨v, rfl, he, b⟩
    go_wp2_with fail
    go_ret
    exact ⟨v, rfl, he, B1.out.1.trans (b.mono B1.out.1.size)⟩
  · go_wp2_with fail
    go_ret
    exact ⟨_, rfl, IsErr.ok _ _ _, B1.out.1⟩

theorem cons_calls {old root : List UInt8} (ho : old.length = 32) (hr : root.length = 32) (m n : Int) (hn : n ≤ 1000000) (r : List (List UInt8)) (a : Option Addr) (c : Nat) (w : World) (hR : Rk w) (hS : Sms w (.slice a r.length c) r) :
    Calls Tryz.prog 40 #[.agg (headC m old), .agg (headC n root), .slice a r.length c] w (ErrPost w ⟨#[112, 114, 101, 102, 105, 120]⟩ m (consE m old n root r)) := by
  unfold consE
  by_cases h : m < 0 ∨ n < m
  · rw [if_pos h]; exact cons_out m n old root h _ w
  · rw [if_neg h]
    have hm : m = (m.toNat : Int) := by omega
    have hn' : n = (n.toNat : Int) := by omega
    obtain ⟨j, hj⟩ : ∃ j, j = m.toNat := ⟨_, rfl⟩
    obtain ⟨k, hk⟩ : ∃ k, k = n.toNat := ⟨_, rfl⟩
    rw [← hj] at hm ⊢
    rw [← hk] at hn' ⊢
    subst hm hn'
    exact cons_in ho hr (by omega) (by omega) _ w _ (fun V b => elder_calls ho hr j k (by omega) (by omega) r a c V (hR.below b) (hS.below b))
end Go.Proofs.YtdoadmkaoboncaaGreatDoor.prf
end

section
/- proof: Proves. -/
namespace Go.Proofs.YtdoadmkaoboncaaGreatDoor.prf
open Go Go.RowKit Go.Proofs.YtdoadmkaoboncaaGreatDoor.dig

def leafB : ByteArray := ⟨#[108, 101, 97, 102]⟩
def prefixB : ByteArray := ⟨#[112, 114, 101, 102, 105, 120]⟩
def proofB : ByteArray := ⟨#[112, 114, 111, 111, 102]⟩
/-- Which question a proof puts: 1: of a leaf, 2: of a prefix, 0: none. -/
def kindOf (K I N m n : Int) : Nat := if K = 1 ∧ N = n then 1 else if K = 2 ∧ N = n ∧ I = m then 2 else 0

set_option maxRecDepth 100000 in
set_option maxHeartbeats 2000000 in
theorem proves_leaf {old root : List UInt8} (hr : root.length = 32) (leaf : ByteArray) (I N m : Int) (v : Value) (w : World) (E : Int)
    (hc : ∀ V, Below w.heap.size w V → Calls Tryz.prog 54 #[.string leaf, .int .i64 I, .agg (headC N root), v] V (ErrPost V leafB I E)) :
    Calls Tryz.prog 27 #[.agg (prC 1 I N v), .string leaf, .agg (headC m old), .agg (headC N root)] w (ErrPost w leafB I E) := by
  have HR := Lib.hid hr
  have HC := Lib.hid hc
  clear hr hc
  have p0 : ∀ A B, (((w.alloc (.cells (prC 1 I N v) 25)).alloc A).alloc B).cell? ⟨w.heap.size, 0, none⟩ = some (.int .i64 1) := fun A B => (((made_at _ _ rfl).alloc A).alloc B).cell 0
  have p1 : ∀ A B, (((w.alloc (.cells (prC 1 I N v) 25)).alloc A).alloc B).cell? ⟨w.heap.size, 1, none⟩ = some (.int .i64 I) := fun A B => (((made_at _ _ rfl).alloc A).alloc B).cell 1
  have p2 : ∀ A B, (((w.alloc (.cells (prC 1 I N v) 25)).alloc A).alloc B).cell? ⟨w.heap.size, 2, none⟩ = some (.int .i64 N) := fun A B => (((made_at _ _ rfl).alloc A).alloc B).cell 2
  have p3 : ∀ A B, (((w.alloc (.cells (prC 1 I N v) 25)).alloc A).alloc B).cell? ⟨w.heap.size, 3, none⟩ = some v := fun A B => (((made_at _ _ rfl).alloc A).alloc B).cell 3
  have n0 : ∀ A B, (((w.alloc A).alloc B).alloc (.cells (headC N root) 41)).cell? ⟨w.heap.size + 1 + 1, 0, none⟩ = some (.int .i64 N) := fun A B => Has.num (made_at _ _ (by simp))
  go_enter Tryz.func27, Tryz.ntmps27
  go_wp2_with (first
    | ((with_reducible refine at_op 23 ?_); refine wpList_load_row (o := ⟨some 23, _, _, _, _, _⟩) rfl 41 _ rfl (w.heap.size + 1 + 1) rfl 41 (headC N root) (0, 0) _ (made_at _ _ (by simp)) Tryz.underlying41 rfl (by rw [headC_size, HR.out]; kernel_rfl) ?_)
    | fail)
  have bw : ∀ A B C, Below w.heap.size w (((w.alloc A).alloc B).alloc C) := fun A B C => (((Below.refl _ _).alloc (Nat.le_refl _) _).alloc (by simp) _).alloc (by simp; omega) _
  refine (HC.out _ (bw _ _ _)).mono ?_
  rintro en w1 ⟨e, rfl, he, b⟩
  have B1 : Hid (Below w.heap.size w w1) := Lib.hid ((bw _ _ _).trans (b.mono (bw _ _ _).size))
  have HE := Lib.hid he
  clear b he bw p0 p1 p2 p3 n0
  go_wp2_with fail
  go_ret
  exact ⟨e, rfl, HE.out, B1.out⟩

set_option maxRecDepth 100000 in
set_option maxHeartbeats 2000000 in
theorem proves_prefix {old root : List UInt8} (ho : old.length = 32) (hr : root.length = 32) (leaf : ByteArray) (I N : Int) (v : Value) (w : World) (E : Int)
    (hc : ∀ V, Below w.heap.size w V → Calls Tryz.prog 40 #[.agg (headC I old), .agg (headC N root), v] V (ErrPost V prefixB I E)) :
    Calls Tryz.prog 27 #[.agg (prC 2 I N v), .string leaf, .agg (headC I old), .agg (headC N root)] w (ErrPost w prefixB I E) := by
  have HO := Lib.hid ho
  have HR := Lib.hid hr
  have HC := Lib.hid hc
  clear ho hr hc
  have p0 : ∀ A B, (((w.alloc (.cells (prC 2 I N v) 25)).alloc A).alloc B).cell? ⟨w.heap.size, 0, none⟩ = some (.int .i64 2) := fun A B => (((made_at _ _ rfl).alloc A).alloc B).cell 0
  have p1 : ∀ A B, (((w.alloc (.cells (prC 2 I N v) 25)).alloc A).alloc B).cell? ⟨w.heap.size, 1, none⟩ = some (.int .i64 I) := fun A B => (((made_at _ _ rfl).alloc A).alloc B).cell 1
  have p2 : ∀ A B, (((w.alloc (.cells (prC 2 I N v) 25)).alloc A).alloc B).cell? ⟨w.heap.size, 2, none⟩ = some (.int .i64 N) := fun A B => (((made_at _ _ rfl).alloc A).alloc B).cell 2
  have p3 : ∀ A B, (((w.alloc (.cells (prC 2 I N v) 25)).alloc A).alloc B).cell? ⟨w.heap.size, 3, none⟩ = some v := fun A B => (((made_at _ _ rfl).alloc A).alloc B).cell 3
  have m0 : ∀ A B, (((w.alloc A).alloc (.cells (headC I old) 41)).alloc B).cell? ⟨w.heap.size + 1, 0, none⟩ = some (.int .i64 I) := fun A B => Has.num ((made_at _ _ (by simp)).alloc _)
  have n0 : ∀ A B, (((w.alloc A).alloc B).alloc (.cells (headC N root) 41)).cell? ⟨w.heap.size + 1 + 1, 0, none⟩ = some (.int .i64 N) := fun A B => Has.num (made_at _ _ (by simp))
  go_enter Tryz.func27, Tryz.ntmps27
  go_wp2_with (first
    | ((with_reducible refine at_op 45 ?_); refine wpList_load_row (o := ⟨some 45, _, _, _, _, _⟩) rfl 41 _ rfl (w.heap.size + 1) rfl 41 (headC I old) (0, 0) _ ((made_at _ _ (by simp)).alloc _) Tryz.underlying41 rfl (by rw [headC_size, HO.out]; kernel_rfl) ?_)
    | ((with_reducible refine at_op 46 ?_); refine wpList_load_row (o := ⟨some 46, _, _, _, _, _⟩) rfl 41 _ rfl (w.heap.size + 1 + 1) rfl 41 (headC N root) (0, 0) _ (made_at _ _ (by simp)) Tryz.underlying41 rfl (by rw [headC_size, HR.out]; kernel_rfl) ?_)
    | fail)
  have bw : ∀ A B C, Below w.heap.size w (((w.alloc A).alloc B).alloc C) := fun A B C => (((Below.refl _ _).alloc (Nat.le_refl _) _).alloc (by simp) _).alloc (by simp; omega) _
  refine (HC.out _ (bw _ _ _)).mono ?_
  rintro en w1 ⟨e, rfl, he, b⟩
  have B1 : Hid (Below w.heap.size w w1) := Lib.hid ((bw _ _ _).trans (b.mono (bw _ _ _).size))
  have HE := Lib.hid he
  clear b he bw p0 p1 p2 p3 m0 n0
  go_wp2_with fail
  go_ret
  exact ⟨e, rfl, HE.out, B1.out⟩

set_option maxRecDepth 100000 in
set_option maxHeartbeats 4000000 in
theorem proves_none {old root : List UInt8} (leaf : ByteArray) (K I N m n : Int) (hk : kindOf K I N m n = 0) (v : Value) (w : World) :
    Calls Tryz.prog 27 #[.agg (prC K I N v), .string leaf, .agg (headC m old), .agg (headC n root)] w (ErrPost w proofB N 4) := by
  have HI := fun V => Lib.hid (in_post proofB N 4 (by decide) V)
  have p0 : ∀ A B, (((w.alloc (.cells (prC K I N v) 25)).alloc A).alloc B).cell? ⟨w.heap.size, 0, none⟩ = some (.int .i64 K) := fun A B => (((made_at _ _ rfl).alloc A).alloc B).cell 0
  have p1 : ∀ A B, (((w.alloc (.cells (prC K I N v) 25)).alloc A).alloc B).cell? ⟨w.heap.size, 1, none⟩ = some (.int .i64 I) := fun A B => (((made_at _ _ rfl).alloc A).alloc B).cell 1
  have p2 : ∀ A B, (((w.alloc (.cells (prC K I N v) 25)).alloc A).alloc B).cell? ⟨w.heap.size, 2, none⟩ = some (.int .i64 N) := fun A B => (((made_at _ _ rfl).alloc A).alloc B).cell 2
  have m0 : ∀ A B, (((w.alloc A).alloc (.cells (headC m old) 41)).alloc B).cell? ⟨w.heap.size + 1, 0, none⟩ = some (.int .i64 m) := fun A B => Has.num ((made_at _ _ (by simp)).alloc _)
  have n0 : ∀ A B, (((w.alloc A).alloc B).alloc (.cells (headC n root) 41)).cell? ⟨w.heap.size + 1 + 1, 0, none⟩ = some (.int .i64 n) := fun A B => Has.num (made_at _ _ (by simp))
  have key : (K = 1 ∧ (N == n) = false) ∨ (K = 2 ∧ (N == n) = false) ∨ (K = 2 ∧ N = n ∧ (I == m) = false) ∨ ((K == 1) = false ∧ (K == 2) = false) := by
    unfold kindOf at hk
    by_cases h1 : K = 1
    · by_cases h2 : N = n
      · rw [if_pos ⟨h1, h2⟩] at hk; cases hk
      · exact .inl ⟨h1, by simpa using h2⟩
    · rw [if_neg (fun h => h1 h.1)] at hk
      by_cases h3 : K = 2
      · by_cases h2 : N = n
        · by_cases h4 : I = m
          · rw [if_pos ⟨h3, h2, h4⟩] at hk; cases hk
          · exact .inr (.inr (.inl ⟨h3, h2, by simpa using h4⟩))
        · exact .inr (.inl ⟨h3, by simpa using h2⟩)
      · exact .inr (.inr (.inr ⟨by simpa using h1, by simpa using h3⟩))
  have bw : Hid (∀ A B C, Below w.heap.size w (((w.alloc A).alloc B).alloc C)) := Lib.hid fun A B C => (((Below.refl _ _).alloc (Nat.le_refl _) _).alloc (by simp) _).alloc (by simp; omega) _
  clear hk
  rcases key with ⟨rfl, h1⟩ | ⟨rfl, h1⟩ | ⟨rfl, rfl, h1⟩ | ⟨h1, h2⟩
  all_goals
    go_enter Tryz.func27, Tryz.ntmps27
    go_wp2_with fail
    refine (HI _).out.mono ?_
    rintro en w1 ⟨e, rfl, he, b⟩
    have B1 : Hid (Below w.heap.size w w1) := Lib.hid ((bw.out _ _ _).trans (b.mono (bw.out _ _ _).size))
    have HE := Lib.hid he
    clear b he p0 p1 p2 m0 n0
    go_wp2_with fail
    go_ret
    exact ⟨e, rfl, HE.out, B1.out⟩
end Go.Proofs.YtdoadmkaoboncaaGreatDoor.prf
end

section
/- audit: Leaf, where it refuses, and where what is proved is so, or is gone. -/
namespace Go.Proofs.YtdoadmkaoboncaaGreatDoor.aud
open Go Go.RowKit Go.Proofs.YtdoadmkaoboncaaGreatDoor.dig Go.Proofs.YtdoadmkaoboncaaGreatDoor.prf Go.Proofs.YtdoadmkaoboncaaGreatDoor.prn

/-- A verdict's cells. -/
abbrev verC (k : Int) (a b : ByteArray) : Array Value := #[.int .i64 k, .string a, .string b]

section
variable {B : Nat} {F : Nat → Prop} {w : World} {vb fl : Nat} {L : List ByteArray}

set_option maxRecDepth 100000 in
set_option maxHeartbeats 2000000 in
theorem aleaf_nohead (h : Va B F w vb L fl) (text : ByteArray) (K I N : Int) (v : Value) (E : Int) (hx : (E = 6 ∧ (N < 0 ∨ N > L.length)) ∨ (E = 14 ∧ 0 ≤ N ∧ N ≤ L.length ∧ N < fl)) :
    Calls Tryz.prog 11 #[.pointer (some ⟨vb, 0, none⟩), .string text, .agg (prC K I N v)] w fun en w' => en = .returned (.agg (verC 0 ⟨#[]⟩ ⟨#[]⟩)) ∧ Below w.heap.size w w' := by
  have H := Lib.hid h
  have HX := Lib.hid hx
  have p2 : ∀ A, ((w.alloc (.cells (prC K I N v) 25)).alloc A).cell? ⟨w.heap.size, 2, none⟩ = some (.int .i64 N) := fun A => ((made_at _ _ rfl).alloc A).cell 2
  clear h hx
  go_enter Tryz.func11, Tryz.ntmps11
  go_wp2_with fail
  refine callsName (fun W hW => ?_)
  have B0 : Hid (Below w.heap.size w W ∧ Has W (w.heap.size + 1) 46 (verC 0 ⟨#[]⟩ ⟨#[]⟩)) := by rw [← hW]; exact Lib.hid ⟨((Below.refl _ _).alloc (Nat.le_refl _) _).alloc (by simp) _, made_at _ _ (by simp)⟩
  clear hW p2
  refine ((H.out.below B0.out.1).head_err N E HX.out).mono ?_
  obtain ⟨q, hq⟩ : ∃ q : List UInt8, q = List.replicate 32 0 := ⟨_, rfl⟩
  have QL : Hid (q.length = 32) := Lib.hid (by rw [hq]; simp)
  have HQ := Lib.hid hq
  rw [← hq]
  clear hq
  rintro en w1 ⟨b, rfl, hb, her, b1⟩
  have hev : flt.ev [⟨b, headNm, N⟩] E = .iface 125 (.pointer (some ⟨b, 0, none⟩)) := rfl
  rw [hev]
  have S1 : Hid (Below w.heap.size w w1 ∧ Has w1 (w.heap.size + 1) 46 (verC 0 ⟨#[]⟩ ⟨#[]⟩)) := Lib.hid ⟨B0.out.1.trans (b1.mono B0.out.1.size), B0.out.2.below b1 B0.out.2.lt⟩
  clear b1 B0 her hb hev
  go_wp2_with (first
    | ((with_reducible refine at_store (.tmp 7) ?_); refine wpList_store_head (o := ⟨none, _, _, _, _, _⟩) rfl (.tmp 7) (.tmp 19) rfl w1.heap.size 0 0 q (List.replicate 32 0) rfl rfl (made_at _ _ rfl) QL.out (by simp) ?_; intro Wb HWb TWb;
       (have S2 : Hid (Below w.heap.size w Wb ∧ Has Wb (w.heap.size + 1) 46 (verC 0 ⟨#[]⟩ ⟨#[]⟩)) := (by
         have bb : Below w1.heap.size w1 Wb := ((Below.refl _ _).alloc (Nat.le_refl _) _).trans (TWb.below (by simp) (fun j hj e => by omega))
         exact Lib.hid ⟨S1.out.1.trans (bb.mono S1.out.1.size), S1.out.2.below bb S1.out.2.lt⟩));
       clear HWb TWb S1)
    | ((with_reducible refine at_store (.tmp 6) ?_); refine wpList_store_cells (o := ⟨none, _, _, _, _, _⟩) rfl 46 (.tmp 6) (.tmp 36) rfl (w.heap.size + 1) (verC 0 ⟨#[]⟩ ⟨#[]⟩) (verC 0 ⟨#[]⟩ ⟨#[]⟩) rfl rfl _ S2.out.2 (by kernel_rfl) rfl (by simp [verC, Value.oneCell']) ?_; intro W9 HW9 TW9)
    | fail)
  exact bodyPost_ret (v := .agg (verC 0 ⟨#[]⟩ ⟨#[]⟩)) (results_cell_row rfl _ _ (w.heap.size + 1) 46 _ _ _ rfl HW9 Tryz.underlying46 rfl (by kernel_rfl)) rfl
    ⟨rfl, S2.out.1.trans (TW9.below S2.out.1.size (fun j hj e => by omega))⟩

/-- How a look at a leaf's proof ends, if it doesn't end with a clash; E: what Proves answers, 1 of a proof of another kind. -/
def EndsL (L : List ByteArray) (fl : Nat) (text : ByteArray) (I E k : Int) : Prop :=
  (E ≠ 0 ∧ k = 0) ∨ (E = 0 ∧ ∃ i : Nat, I = i ∧ ((i < fl ∧ k = 3) ∨ (fl ≤ i ∧ L[i]? = some text ∧ k = 1)))

set_option maxRecDepth 100000 in
set_option maxHeartbeats 4000000 in
theorem aleaf_ok (h : Va B F w vb L fl) (hN : L.length < 1024) (text : ByteArray) (hts : text.size < 1000000000000000000) (K I : Int) (n : Nat) (hf : fl ≤ n) (hn : n ≤ L.length) (r : List (List UInt8)) (a : Option Addr) (c : Nat) (hS : Sms w (.slice a r.length c) r)
    (E k : Int) (hE : E = if K = 1 then inclE text.data.toList I n (rtAll (leafF L) n) r else 1) (hk : EndsL L fl text I E k) :
    Calls Tryz.prog 11 #[.pointer (some ⟨vb, 0, none⟩), .string text, .agg (prC K I n (.slice a r.length c))] w fun en w' => en = .returned (.agg (verC k ⟨#[]⟩ ⟨#[]⟩)) ∧ Below w.heap.size w w' := by
  have H := Lib.hid h
  have HK := Lib.hid hk
  have HE := Lib.hid hE
  have HNN := Lib.hid (show _ ∧ _ ∧ _ ∧ _ from ⟨hN, hf, hn, hts⟩)
  have HS := Lib.hid hS
  have RL : Hid ((rtAll (leafF L) n).length = 32) := Lib.hid (rtAll_len (leafF_len L) n)
  obtain ⟨R, hR⟩ : ∃ R, R = rtAll (leafF L) n := ⟨_, rfl⟩
  obtain ⟨lr, hlr⟩ : ∃ lr, lr = r.length := ⟨_, rfl⟩
  have HLR := Lib.hid hlr
  rw [← hR] at RL HE
  rw [← hlr] at HS ⊢
  have HR := Lib.hid hR
  have p2 : ∀ A, ((w.alloc (.cells (prC K I n (.slice a lr c)) 25)).alloc A).cell? ⟨w.heap.size, 2, none⟩ = some (.int .i64 n) := fun A => ((made_at _ _ rfl).alloc A).cell 2
  clear h hk hE hN hf hn hS hR hlr hts
  go_enter Tryz.func11, Tryz.ntmps11
  go_wp2_with fail
  refine callsName (fun W hW => ?_)
  have B0 : Hid (Below w.heap.size w W ∧ Has W (w.heap.size + 1) 46 (verC 0 ⟨#[]⟩ ⟨#[]⟩) ∧ Has W w.heap.size 25 (prC K I n (.slice a lr c))) := by rw [← hW]; exact Lib.hid ⟨((Below.refl _ _).alloc (Nat.le_refl _) _).alloc (by simp) _, made_at _ _ (by simp), (made_at _ _ rfl).alloc _⟩
  clear hW p2
  refine ((H.out.below B0.out.1).head HNN.out.1 n HNN.out.2.1 HNN.out.2.2.1).mono ?_
  rw [← HR.out]
  rintro en w1 ⟨rfl, b1⟩
  have S1 : Hid (Below w.heap.size w w1 ∧ Has w1 (w.heap.size + 1) 46 (verC 0 ⟨#[]⟩ ⟨#[]⟩) ∧ Has w1 w.heap.size 25 (prC K I n (.slice a lr c))) := Lib.hid ⟨B0.out.1.trans (b1.mono B0.out.1.size), B0.out.2.1.below b1 B0.out.2.1.lt, B0.out.2.2.below b1 B0.out.2.2.lt⟩
  clear b1 B0
  have hkk : (K == 1) = decide (K = 1) := by by_cases h : K = 1 <;> simp [h]
  by_cases hK : K = 1
  · subst hK
    clear hkk
    rw [if_pos rfl] at HE
    go_wp2_with (first
      | ((with_reducible refine at_store (.tmp 7) ?_); refine wpList_store_head (o := ⟨none, _, _, _, _, _⟩) rfl (.tmp 7) (.tmp 19) rfl w1.heap.size n 0 R (List.replicate 32 0) rfl rfl (made_at _ _ rfl) RL.out (by simp) ?_; intro Wb HWb TWb;
         (have S2 : Hid (Below w.heap.size w Wb ∧ Has Wb (w.heap.size + 1) 46 (verC 0 ⟨#[]⟩ ⟨#[]⟩) ∧ Has Wb w.heap.size 25 (prC 1 I n (.slice a lr c)) ∧ Has Wb w1.heap.size 41 (headC n R)) := (by
           have bb : Below w1.heap.size w1 Wb := ((Below.refl _ _).alloc (Nat.le_refl _) _).trans (TWb.below (by simp) (fun j hj e => by omega))
           exact Lib.hid ⟨S1.out.1.trans (bb.mono S1.out.1.size), S1.out.2.1.below bb S1.out.2.1.lt, S1.out.2.2.below bb S1.out.2.2.lt, HWb⟩));
         have q0 : Wb.cell? ⟨w.heap.size, 0, none⟩ = some (.int .i64 1) := S2.out.2.2.1.cell 0;
         have q1 : Wb.cell? ⟨w.heap.size, 1, none⟩ = some (.int .i64 I) := S2.out.2.2.1.cell 1;
         have q2 : Wb.cell? ⟨w.heap.size, 2, none⟩ = some (.int .i64 n) := S2.out.2.2.1.cell 2;
         have q3 : Wb.cell? ⟨w.heap.size, 3, none⟩ = some (.slice a lr c) := S2.out.2.2.1.cell 3;
         have hlh : (Instr.loadAt 41 (.pointer (some ⟨w1.heap.size, 0, none⟩))).run Tryz.prog Wb = .ok (.agg (headC n R)) Wb := prf.Has.load_hd S2.out.2.2.2 RL.out;
         clear HWb TWb S1)
      | ((with_reducible refine at_opg 32 ?_); refine wpList_load_if (o := ⟨some 32, _, _, _, _, _⟩) (by kernel_rfl) 41 (.tmp 7) rfl (.pointer (some ⟨w1.heap.size, 0, none⟩)) rfl hlh ?_)
      | fail)
    have HPV : Hid (Calls Tryz.prog 27 #[.agg (prC 1 I n (.slice a lr c)), .string text, .agg (headC 0 (List.replicate 32 0)), .agg (headC n R)] Wb (ErrPost Wb leafB I E)) := Lib.hid (by
      refine proves_leaf (old := List.replicate 32 0) (root := R) RL.out text I n 0 (.slice a lr c) Wb E (fun U hU => ?_)
      have h1 := incl_calls text I n R RL.out (by have := HNN.out; omega) r a c U ((H.out.below (S2.out.1.trans (hU.mono S2.out.1.size))).rt.rk) (by rw [← HLR.out]; exact HS.out.below (S2.out.1.trans (hU.mono S2.out.1.size))) HNN.out.2.2.2
      rw [← HLR.out, ← HE.out] at h1
      exact h1)
    refine HPV.out.mono ?_
    rintro en w2 ⟨e, rfl, he, b2⟩
    have S3 : Hid (Below w.heap.size w w2 ∧ Has w2 (w.heap.size + 1) 46 (verC 0 ⟨#[]⟩ ⟨#[]⟩) ∧ Has w2 w.heap.size 25 (prC 1 I n (.slice a lr c)) ∧ Has w2 w1.heap.size 41 (headC n R)) :=
      Lib.hid ⟨S2.out.1.trans (b2.mono S2.out.1.size), S2.out.2.1.below b2 S2.out.2.1.lt, S2.out.2.2.1.below b2 S2.out.2.2.1.lt, S2.out.2.2.2.below b2 S2.out.2.2.2.lt⟩
    have HER := Lib.hid he
    clear b2 S2 HPV q0 q1 q2 q3 hlh he
    by_cases hE0 : E = 0
    · subst hE0
      obtain rfl : e = .nilIface := by
        rcases HER.out with ⟨_, h⟩ | ⟨h, _⟩
        · exact h
        · exact absurd rfl h
      obtain ⟨i, rfl, hk⟩ : ∃ i : Nat, I = i ∧ ((i < fl ∧ k = 3) ∨ (fl ≤ i ∧ L[i]? = some text ∧ k = 1)) := by
        rcases HK.out with h | h
        · exact absurd rfl h.1
        · exact h.2
      have q1 : w2.cell? ⟨w.heap.size, 1, none⟩ = some (.int .i64 i) := S3.out.2.2.1.cell 1
      go_wp2_with fail
      rcases hk with ⟨h1, rfl⟩ | ⟨h1, h2, rfl⟩
      · refine ((H.out.below S3.out.1).at_pruned i h1).mono ?_
        rintro en w3 ⟨b, rfl, hb, her, b3⟩
        have hev : flt.ev [⟨b, commandB, (i : Int)⟩] 14 = .iface 125 (.pointer (some ⟨b, 0, none⟩)) := rfl
        rw [hev]
        have S4 : Hid (Below w.heap.size w w3 ∧ Has w3 (w.heap.size + 1) 46 (verC 0 ⟨#[]⟩ ⟨#[]⟩)) := Lib.hid ⟨S3.out.1.trans (b3.mono S3.out.1.size), S3.out.2.1.below b3 S3.out.2.1.lt⟩
        clear b3 S3 her hb hev q1
        go_wp2_with (first
          | ((with_reducible refine at_store (.tmp 6) ?_); refine wpList_store_cells (o := ⟨none, _, _, _, _, _⟩) rfl 46 (.tmp 6) (.tmp 46) rfl (w.heap.size + 1) (verC 3 ⟨#[]⟩ ⟨#[]⟩) (verC 0 ⟨#[]⟩ ⟨#[]⟩) rfl rfl _ S4.out.2 (by kernel_rfl) rfl (by simp [verC, Value.oneCell']) ?_; intro W9 HW9 TW9)
          | fail)
        exact bodyPost_ret (v := .agg (verC 3 ⟨#[]⟩ ⟨#[]⟩)) (results_cell_row rfl _ _ (w.heap.size + 1) 46 _ _ _ rfl HW9 Tryz.underlying46 rfl (by kernel_rfl)) rfl
          ⟨rfl, S4.out.1.trans (TW9.below S4.out.1.size (fun j hj e => by omega))⟩
      · refine ((H.out.below S3.out.1).at_ok i h1 text h2).mono ?_
        rintro en w3 ⟨rfl, b3⟩
        have S4 : Hid (Below w.heap.size w w3 ∧ Has w3 (w.heap.size + 1) 46 (verC 0 ⟨#[]⟩ ⟨#[]⟩)) := Lib.hid ⟨S3.out.1.trans (b3.mono S3.out.1.size), S3.out.2.1.below b3 S3.out.2.1.lt⟩
        clear b3 S3 q1
        have hss : (text.toList == text.toList) = true := by simp
        go_wp2_with (first
          | ((with_reducible refine at_store (.tmp 6) ?_); refine wpList_store_cells (o := ⟨none, _, _, _, _, _⟩) rfl 46 (.tmp 6) (.tmp 50) rfl (w.heap.size + 1) (verC 1 ⟨#[]⟩ ⟨#[]⟩) (verC 0 ⟨#[]⟩ ⟨#[]⟩) rfl rfl _ S4.out.2 (by kernel_rfl) rfl (by simp [verC, Value.oneCell']) ?_; intro W9 HW9 TW9)
          | fail)
        exact bodyPost_ret (v := .agg (verC 1 ⟨#[]⟩ ⟨#[]⟩)) (results_cell_row rfl _ _ (w.heap.size + 1) 46 _ _ _ rfl HW9 Tryz.underlying46 rfl (by kernel_rfl)) rfl
          ⟨rfl, S4.out.1.trans (TW9.below S4.out.1.size (fun j hj e => by omega))⟩
    · obtain ⟨b, rfl⟩ : ∃ b, e = .iface 125 (.pointer (some ⟨b, 0, none⟩)) := by
        rcases HER.out with ⟨h, _⟩ | ⟨_, b, h, _⟩
        · exact absurd h hE0
        · exact ⟨b, h⟩
      obtain rfl : k = 0 := by
        rcases HK.out with h | h
        · exact h.2
        · exact absurd h.1 hE0
      clear hE0
      go_wp2_with (first
        | ((with_reducible refine at_store (.tmp 6) ?_); refine wpList_store_cells (o := ⟨none, _, _, _, _, _⟩) rfl 46 (.tmp 6) (.tmp 36) rfl (w.heap.size + 1) (verC 0 ⟨#[]⟩ ⟨#[]⟩) (verC 0 ⟨#[]⟩ ⟨#[]⟩) rfl rfl _ S3.out.2.1 (by kernel_rfl) rfl (by simp [verC, Value.oneCell']) ?_; intro W9 HW9 TW9)
        | fail)
      exact bodyPost_ret (v := .agg (verC 0 ⟨#[]⟩ ⟨#[]⟩)) (results_cell_row rfl _ _ (w.heap.size + 1) 46 _ _ _ rfl HW9 Tryz.underlying46 rfl (by kernel_rfl)) rfl
        ⟨rfl, S3.out.1.trans (TW9.below S3.out.1.size (fun j hj e => by omega))⟩
  · rw [if_neg hK] at HE
    obtain rfl : k = 0 := by
      rcases HK.out with h | h
      · exact h.2
      · have := HE.out; omega
    have hK1 : (K != 1) = true := by simpa using hK
    have hK2 : (K == 1) = false := by simpa using hK
    clear hK hkk
    go_wp2_with (first
      | ((with_reducible refine at_store (.tmp 7) ?_); refine wpList_store_head (o := ⟨none, _, _, _, _, _⟩) rfl (.tmp 7) (.tmp 19) rfl w1.heap.size n 0 R (List.replicate 32 0) rfl rfl (made_at _ _ rfl) RL.out (by simp) ?_; intro Wb HWb TWb;
         (have S2 : Hid (Below w.heap.size w Wb ∧ Has Wb (w.heap.size + 1) 46 (verC 0 ⟨#[]⟩ ⟨#[]⟩) ∧ Has Wb w.heap.size 25 (prC K I n (.slice a lr c))) := (by
           have bb : Below w1.heap.size w1 Wb := ((Below.refl _ _).alloc (Nat.le_refl _) _).trans (TWb.below (by simp) (fun j hj e => by omega))
           exact Lib.hid ⟨S1.out.1.trans (bb.mono S1.out.1.size), S1.out.2.1.below bb S1.out.2.1.lt, S1.out.2.2.below bb S1.out.2.2.lt⟩));
         have q0 : Wb.cell? ⟨w.heap.size, 0, none⟩ = some (.int .i64 K) := S2.out.2.2.cell 0;
         clear HWb TWb S1)
      | ((with_reducible refine at_store (.tmp 6) ?_); refine wpList_store_cells (o := ⟨none, _, _, _, _, _⟩) rfl 46 (.tmp 6) (.tmp 36) rfl (w.heap.size + 1) (verC 0 ⟨#[]⟩ ⟨#[]⟩) (verC 0 ⟨#[]⟩ ⟨#[]⟩) rfl rfl _ S2.out.2.1 (by kernel_rfl) rfl (by simp [verC, Value.oneCell']) ?_; intro W9 HW9 TW9)
      | fail)
    exact bodyPost_ret (v := .agg (verC 0 ⟨#[]⟩ ⟨#[]⟩)) (results_cell_row rfl _ _ (w.heap.size + 1) 46 _ _ _ rfl HW9 Tryz.underlying46 rfl (by kernel_rfl)) rfl
      ⟨rfl, S2.out.1.trans (TW9.below S2.out.1.size (fun j hj e => by omega))⟩
end
end Go.Proofs.YtdoadmkaoboncaaGreatDoor.aud
end

section
/- proof: heads compared. -/
namespace Go.Proofs.YtdoadmkaoboncaaGreatDoor.prf
open Go Go.RowKit Go.Proofs.YtdoadmkaoboncaaGreatDoor.dig

theorem headFields : ∃ f0 f1 : Field, (Tryz.prog.fieldsOf 41).toList = [f0, f1] ∧ f0.name = "N" ∧ f0.type = 3 ∧ f0.offset = 0 ∧ f1.name = "Root" ∧ f1.type = 38 ∧ f1.offset = 1 := by
  have h : (Tryz.prog.fieldsOf 41).toList.map (fun f => (f.name, f.type, f.offset)) = [("N", 3, 0), ("Root", 38, 1)] := by kernel_rfl
  generalize (Tryz.prog.fieldsOf 41).toList = l at h
  rcases l with _ | ⟨f0, _ | ⟨f1, _ | ⟨f2, l⟩⟩⟩
  · simp at h
  · simp at h
  · simp only [List.map_cons, List.map_nil, List.cons.injEq, Prod.mk.injEq, and_true] at h
    exact ⟨f0, f1, rfl, h.1.1, h.1.2.1, h.1.2.2, h.2.1, h.2.2.1, h.2.2.2⟩
  · simp at h

theorem headC_cut (n : Int) (xs : List UInt8) (h : xs.length = 32) : (headC n xs).extract 1 (1 + 32) = cellsOf xs := by
  unfold headC cellsOf
  apply Array.toList_inj.1
  simp [h, List.take_of_length_le]

theorem hq_p0 (n : Int) (xs : List UInt8) (w : World) : (part 3 (headC n xs) 0).run Tryz.prog w = .ok (.int .i64 n) w := by
  have h0 : (headC n xs)[0]? = some (.int .i64 n) := by simp [headC]
  simp [part, Tryz.isAgg3, h0]
theorem hq_q0 (n : Int) (xs : List UInt8) (hx : xs.length = 32) (w : World) : (part 38 (headC n xs) 1).run Tryz.prog w = .ok (.agg (cellsOf xs)) w := by
  have h0 := headC_cut n xs hx
  simp only [part, Sem.run_bind, Tryz.isAgg38, Tryz.sizeOf38, Result.andThen_ok, if_true, Sem.run_pure, h0]
theorem eqFields_cons {P : Program} (d : Nat) (xs ys : Array Value) (f : Field) (fs : List Field) (hn : f.name ≠ "_") (a b : Value) (r : Bool) (w : World)
    (ha : (part f.type xs f.offset).run P w = .ok a w) (hb : (part f.type ys f.offset).run P w = .ok b w) (hr : (Op.equalIn d f.type a b).run P w = .ok r w) :
    (Op.eqFields d xs ys (f :: fs)).run P w = if r = true then (Op.eqFields d xs ys fs).run P w else .ok false w := by
  rw [Op.eqFields, if_pos hn]
  simp only [Sem.run_bind, ha, hb, hr, Result.andThen_ok]
  cases r <;> simp
theorem hq_fields (d : Nat) (n m : Int) (xs ys : List UInt8) (hx : xs.length = 32) (hy : ys.length = 32) (w : World) (f0 f1 : Field) (a1 : f0.name = "N") (a2 : f0.type = 3) (a3 : f0.offset = 0) (b1 : f1.name = "Root") (b2 : f1.type = 38) (b3 : f1.offset = 1) :
    (Op.eqFields (d + 2) (headC n xs) (headC m ys) [f0, f1]).run Tryz.prog w = .ok (n == m && xs == ys) w := by
  have hs := run_equalIn_bytes (P := Tryz.prog) d (t := 38) (e := 5) 32 Tryz.underlying38 Tryz.underlying5 (by kernel_rfl) xs ys hx hy w
  have hi : (Op.equalIn (d + 2) 3 (.int .i64 n) (.int .i64 m)).run Tryz.prog w = .ok (n == m) w := run_equalIn_int w (P := Tryz.prog) (d + 1) 3 .i64 .i64 n m Tryz.underlying3
  rw [eqFields_cons (d + 2) _ _ f0 [f1] (by rw [a1]; decide) (.int .i64 n) (.int .i64 m) (n == m) w (by rw [a2, a3]; exact hq_p0 n xs w) (by rw [a2, a3]; exact hq_p0 m ys w) (by rw [a2]; exact hi)]
  rw [eqFields_cons (d + 2) _ _ f1 [] (by rw [b1]; decide) (.agg (cellsOf xs)) (.agg (cellsOf ys)) (xs == ys) w (by rw [b2, b3]; exact hq_q0 n xs hx w) (by rw [b2, b3]; exact hq_q0 m ys hy w) (by rw [b2]; exact hs)]
  have h0 : (Op.eqFields (d + 2) (headC n xs) (headC m ys) []).run Tryz.prog w = .ok true w := by unfold Op.eqFields; simp
  rw [h0]
  cases n == m <;> cases xs == ys <;> simp
theorem run_equalIn_head (d : Nat) (n m : Int) (xs ys : List UInt8) (hx : xs.length = 32) (hy : ys.length = 32) (w : World) :
    (Op.equalIn (d + 2 + 1) 41 (.agg (headC n xs)) (.agg (headC m ys))).run Tryz.prog w = .ok (n == m && xs == ys) w := by
  rw [run_equalIn_struct w (d + 2) 41 _ _ (by kernel_rfl) (by kernel_rfl)]
  obtain ⟨f0, f1, hf, a1, a2, a3, b1, b2, b3⟩ := headFields
  rw [hf]
  exact hq_fields d n m xs ys hx hy w f0 f1 a1 a2 a3 b1 b2 b3
theorem run_eql_head (n m : Int) (xs ys : List UInt8) (hx : xs.length = 32) (hy : ys.length = 32) (w : World) :
    (binOp .eql 41 (.agg (headC n xs)) (.agg (headC m ys))).run Tryz.prog w = .ok (.bool (n == m && xs == ys)) w := by
  rw [run_eql_struct, run_equalIn_head 9997 n m xs ys hx hy]
  rfl
theorem run_eql_head_same (n : Int) (xs : List UInt8) (hx : xs.length = 32) (w : World) :
    (binOp .eql 41 (.agg (headC n xs)) (.agg (headC n xs))).run Tryz.prog w = .ok (.bool true) w := by
  rw [run_eql_head n n xs xs hx hx]
  simp
end Go.Proofs.YtdoadmkaoboncaaGreatDoor.prf
end

section
/- audit: Prefix, where it refuses, and where what is proved is so, or is gone. -/
namespace Go.Proofs.YtdoadmkaoboncaaGreatDoor.aud
open Go Go.RowKit Go.Proofs.YtdoadmkaoboncaaGreatDoor.dig Go.Proofs.YtdoadmkaoboncaaGreatDoor.prf Go.Proofs.YtdoadmkaoboncaaGreatDoor.prn

section
variable {B : Nat} {F : Nat → Prop} {w : World} {vb fl : Nat} {L : List ByteArray}

set_option maxRecDepth 100000 in
set_option maxHeartbeats 2000000 in
theorem aprefix_nohead (h : Va B F w vb L fl) (m : Int) {old : List UInt8} (_ho : old.length = 32) (K I N : Int) (v : Value) (E : Int) (hx : (E = 6 ∧ (N < 0 ∨ N > L.length)) ∨ (E = 14 ∧ 0 ≤ N ∧ N ≤ L.length ∧ N < fl)) :
    Calls Tryz.prog 13 #[.pointer (some ⟨vb, 0, none⟩), .agg (headC m old), .agg (prC K I N v)] w fun en w' => en = .returned (.agg (verC 0 ⟨#[]⟩ ⟨#[]⟩)) ∧ Below w.heap.size w w' := by
  have H := Lib.hid h
  have HX := Lib.hid hx
  have p2 : ∀ A C, (((w.alloc A).alloc (.cells (prC K I N v) 25)).alloc C).cell? ⟨w.heap.size + 1, 2, none⟩ = some (.int .i64 N) := fun A C => ((made_at _ _ (by simp)).alloc _).cell 2
  clear h hx
  go_enter Tryz.func13, Tryz.ntmps13
  go_wp2_with fail
  refine callsName (fun W hW => ?_)
  have B0 : Hid (Below w.heap.size w W ∧ Has W (w.heap.size + 1 + 1) 46 (verC 0 ⟨#[]⟩ ⟨#[]⟩)) := by rw [← hW]; exact Lib.hid ⟨(((Below.refl _ _).alloc (Nat.le_refl _) _).alloc (by simp) _).alloc (by simp; omega) _, made_at _ _ (by simp)⟩
  clear hW p2
  refine ((H.out.below B0.out.1).head_err N E HX.out).mono ?_
  obtain ⟨q, hq⟩ : ∃ q : List UInt8, q = List.replicate 32 0 := ⟨_, rfl⟩
  have QL : Hid (q.length = 32) := Lib.hid (by rw [hq]; simp)
  rw [← hq]
  clear hq
  rintro en w1 ⟨b, rfl, hb, her, b1⟩
  have hev : flt.ev [⟨b, headNm, N⟩] E = .iface 125 (.pointer (some ⟨b, 0, none⟩)) := rfl
  rw [hev]
  have S1 : Hid (Below w.heap.size w w1 ∧ Has w1 (w.heap.size + 1 + 1) 46 (verC 0 ⟨#[]⟩ ⟨#[]⟩)) := Lib.hid ⟨B0.out.1.trans (b1.mono B0.out.1.size), B0.out.2.below b1 B0.out.2.lt⟩
  clear b1 B0 her hb hev
  go_wp2_with (first
    | ((with_reducible refine at_store (.tmp 7) ?_); refine wpList_store_head (o := ⟨none, _, _, _, _, _⟩) rfl (.tmp 7) (.tmp 18) rfl w1.heap.size 0 0 q (List.replicate 32 0) rfl rfl (made_at _ _ rfl) QL.out (by simp) ?_; intro Wb HWb TWb;
       (have S2 : Hid (Below w.heap.size w Wb ∧ Has Wb (w.heap.size + 1 + 1) 46 (verC 0 ⟨#[]⟩ ⟨#[]⟩)) := (by
         have bb : Below w1.heap.size w1 Wb := ((Below.refl _ _).alloc (Nat.le_refl _) _).trans (TWb.below (by simp) (fun j hj e => by omega))
         exact Lib.hid ⟨S1.out.1.trans (bb.mono S1.out.1.size), S1.out.2.below bb S1.out.2.lt⟩));
       clear HWb TWb S1)
    | ((with_reducible refine at_store (.tmp 6) ?_); refine wpList_store_cells (o := ⟨none, _, _, _, _, _⟩) rfl 46 (.tmp 6) (.tmp 34) rfl (w.heap.size + 1 + 1) (verC 0 ⟨#[]⟩ ⟨#[]⟩) (verC 0 ⟨#[]⟩ ⟨#[]⟩) rfl rfl _ S2.out.2 (by kernel_rfl) rfl (by simp [verC, Value.oneCell']) ?_; intro W9 HW9 TW9)
    | fail)
  exact bodyPost_ret (v := .agg (verC 0 ⟨#[]⟩ ⟨#[]⟩)) (results_cell_row rfl _ _ (w.heap.size + 1 + 1) 46 _ _ _ rfl HW9 Tryz.underlying46 rfl (by kernel_rfl)) rfl
    ⟨rfl, S2.out.1.trans (TW9.below S2.out.1.size (fun j hj e => by omega))⟩

/-- How a look at a prefix's proof ends, if it ends without a look at the commands; E: what Proves answers, 1 of a proof of another kind. -/
def EndsP (L : List ByteArray) (fl : Nat) (m : Int) (old : List UInt8) (E k : Int) : Prop :=
  (E ≠ 0 ∧ k = 0) ∨ (E = 0 ∧ ∃ j : Nat, m = j ∧ j ≤ L.length ∧ ((j < fl ∧ k = 3) ∨ (fl ≤ j ∧ old = rtAll (leafF L) j ∧ k = 1)))
/-- What Proves answers of a prefix's proof. -/
def provE (K I m : Int) (old : List UInt8) (n : Int) (root : List UInt8) (r : List (List UInt8)) : Int := if K = 2 then (if I = m then consE m old n root r else 4) else 1

set_option maxRecDepth 100000 in
set_option maxHeartbeats 4000000 in
theorem aprefix_ok (h : Va B F w vb L fl) (hN : L.length < 1024) (m : Int) {old : List UInt8} (ho : old.length = 32) (K I : Int) (n : Nat) (hf : fl ≤ n) (hn : n ≤ L.length) (r : List (List UInt8)) (a : Option Addr) (c : Nat) (hS : Sms w (.slice a r.length c) r)
    (E k : Int) (hE : E = provE K I m old n (rtAll (leafF L) n) r) (hk : EndsP L fl m old E k) :
    Calls Tryz.prog 13 #[.pointer (some ⟨vb, 0, none⟩), .agg (headC m old), .agg (prC K I n (.slice a r.length c))] w fun en w' => en = .returned (.agg (verC k ⟨#[]⟩ ⟨#[]⟩)) ∧ Below w.heap.size w w' := by
  have H := Lib.hid h
  have HK := Lib.hid hk
  have HE := Lib.hid hE
  have HNN := Lib.hid (show _ ∧ _ ∧ _ from ⟨hN, hf, hn⟩)
  have HS := Lib.hid hS
  have HO := Lib.hid ho
  have RL : Hid ((rtAll (leafF L) n).length = 32) := Lib.hid (rtAll_len (leafF_len L) n)
  obtain ⟨R, hR⟩ : ∃ R, R = rtAll (leafF L) n := ⟨_, rfl⟩
  obtain ⟨lr, hlr⟩ : ∃ lr, lr = r.length := ⟨_, rfl⟩
  have HLR := Lib.hid hlr
  rw [← hR] at RL HE
  rw [← hlr] at HS ⊢
  have HR := Lib.hid hR
  have p2 : ∀ A C, (((w.alloc A).alloc (.cells (prC K I n (.slice a lr c)) 25)).alloc C).cell? ⟨w.heap.size + 1, 2, none⟩ = some (.int .i64 n) := fun A C => ((made_at _ _ (by simp)).alloc _).cell 2
  clear h hk hE hN hf hn hS hR hlr ho
  go_enter Tryz.func13, Tryz.ntmps13
  go_wp2_with fail
  refine callsName (fun W hW => ?_)
  have B0 : Hid (Below w.heap.size w W ∧ Has W (w.heap.size + 1 + 1) 46 (verC 0 ⟨#[]⟩ ⟨#[]⟩) ∧ Has W (w.heap.size + 1) 25 (prC K I n (.slice a lr c)) ∧ Has W w.heap.size 41 (headC m old)) := by
    rw [← hW]
    exact Lib.hid ⟨(((Below.refl _ _).alloc (Nat.le_refl _) _).alloc (by simp) _).alloc (by simp; omega) _, made_at _ _ (by simp), (made_at _ _ (by simp)).alloc _, ((made_at _ _ rfl).alloc _).alloc _⟩
  clear hW p2
  refine ((H.out.below B0.out.1).head HNN.out.1 n HNN.out.2.1 HNN.out.2.2).mono ?_
  rw [← HR.out]
  rintro en w1 ⟨rfl, b1⟩
  have S1 : Hid (Below w.heap.size w w1 ∧ Has w1 (w.heap.size + 1 + 1) 46 (verC 0 ⟨#[]⟩ ⟨#[]⟩) ∧ Has w1 (w.heap.size + 1) 25 (prC K I n (.slice a lr c)) ∧ Has w1 w.heap.size 41 (headC m old)) := Lib.hid ⟨B0.out.1.trans (b1.mono B0.out.1.size), B0.out.2.1.below b1 B0.out.2.1.lt, B0.out.2.2.1.below b1 B0.out.2.2.1.lt, B0.out.2.2.2.below b1 B0.out.2.2.2.lt⟩
  clear b1 B0
  by_cases hK : K = 2
  · subst hK
    go_wp2_with (first
      | ((with_reducible refine at_store (.tmp 7) ?_); refine wpList_store_head (o := ⟨none, _, _, _, _, _⟩) rfl (.tmp 7) (.tmp 18) rfl w1.heap.size n 0 R (List.replicate 32 0) rfl rfl (made_at _ _ rfl) RL.out (by simp) ?_; intro Wb HWb TWb;
         (have S2 : Hid (Below w.heap.size w Wb ∧ Has Wb (w.heap.size + 1 + 1) 46 (verC 0 ⟨#[]⟩ ⟨#[]⟩) ∧ Has Wb (w.heap.size + 1) 25 (prC 2 I n (.slice a lr c)) ∧ Has Wb w.heap.size 41 (headC m old) ∧ Has Wb w1.heap.size 41 (headC n R)) := (by
           have bb : Below w1.heap.size w1 Wb := ((Below.refl _ _).alloc (Nat.le_refl _) _).trans (TWb.below (by simp) (fun j hj e => by omega))
           exact Lib.hid ⟨S1.out.1.trans (bb.mono S1.out.1.size), S1.out.2.1.below bb S1.out.2.1.lt, S1.out.2.2.1.below bb S1.out.2.2.1.lt, S1.out.2.2.2.below bb S1.out.2.2.2.lt, HWb⟩));
         have q0 : Wb.cell? ⟨w.heap.size + 1, 0, none⟩ = some (.int .i64 2) := S2.out.2.2.1.cell 0;
         have q1 : Wb.cell? ⟨w.heap.size + 1, 1, none⟩ = some (.int .i64 I) := S2.out.2.2.1.cell 1;
         have q2 : Wb.cell? ⟨w.heap.size + 1, 2, none⟩ = some (.int .i64 n) := S2.out.2.2.1.cell 2;
         have q3 : Wb.cell? ⟨w.heap.size + 1, 3, none⟩ = some (.slice a lr c) := S2.out.2.2.1.cell 3;
         have hlh : (Instr.loadAt 41 (.pointer (some ⟨w1.heap.size, 0, none⟩))).run Tryz.prog Wb = .ok (.agg (headC n R)) Wb := prf.Has.load_hd S2.out.2.2.2.2 RL.out;
         have hlo : (Instr.loadAt 41 (.pointer (some ⟨w.heap.size, 0, none⟩))).run Tryz.prog Wb = .ok (.agg (headC m old)) Wb := prf.Has.load_hd S2.out.2.2.2.1 HO.out;
         clear HWb TWb S1)
      | ((with_reducible refine at_opg 29 ?_); refine wpList_load_if (o := ⟨some 29, _, _, _, _, _⟩) (by kernel_rfl) 41 (.tmp 4) rfl (.pointer (some ⟨w.heap.size, 0, none⟩)) rfl hlo ?_)
      | ((with_reducible refine at_opg 30 ?_); refine wpList_load_if (o := ⟨some 30, _, _, _, _, _⟩) (by kernel_rfl) 41 (.tmp 7) rfl (.pointer (some ⟨w1.heap.size, 0, none⟩)) rfl hlh ?_)
      | fail)
    have HPV : Hid (Calls Tryz.prog 27 #[.agg (prC 2 I n (.slice a lr c)), .string ⟨#[]⟩, .agg (headC m old), .agg (headC n R)] Wb fun en w' => ∃ e, en = .returned e ∧ ((E = 0 ∧ e = .nilIface) ∨ (E ≠ 0 ∧ ∃ b, e = .iface 125 (.pointer (some ⟨b, 0, none⟩)))) ∧ Below Wb.heap.size Wb w') := Lib.hid (by
      have conv : ∀ {s : ByteArray} {x : Int} {en : Ending} {w' : World}, ErrPost Wb s x E en w' → ∃ e, en = .returned e ∧ ((E = 0 ∧ e = .nilIface) ∨ (E ≠ 0 ∧ ∃ b, e = .iface 125 (.pointer (some ⟨b, 0, none⟩)))) ∧ Below Wb.heap.size Wb w' := by
        rintro s x en w' ⟨e, rfl, he, b⟩
        refine ⟨e, rfl, ?_, b⟩
        rcases he with h | ⟨h, bb, rfl, _⟩
        · exact .inl h
        · exact .inr ⟨h, bb, rfl⟩
      have hE := HE.out
      unfold provE at hE
      rw [if_pos rfl] at hE
      by_cases hI : I = m
      · subst hI
        rw [if_pos rfl] at hE
        refine (proves_prefix HO.out RL.out ⟨#[]⟩ I n (.slice a lr c) Wb E (fun U hU => ?_)).mono fun _ _ => conv
        have h1 := cons_calls HO.out RL.out I n (by have := HNN.out; omega) r a c U ((H.out.below (S2.out.1.trans (hU.mono S2.out.1.size))).rt.rk) (by rw [← HLR.out]; exact HS.out.below (S2.out.1.trans (hU.mono S2.out.1.size)))
        rw [← HLR.out, ← hE] at h1
        exact h1
      · rw [if_neg hI] at hE
        have h1 := proves_none (old := old) (root := R) ⟨#[]⟩ 2 I n m n (by unfold kindOf; rw [if_neg (by omega), if_neg (by omega)]) (.slice a lr c) Wb
        rw [← hE] at h1
        exact h1.mono fun _ _ => conv)
    refine HPV.out.mono ?_
    rintro en w2 ⟨e, rfl, he, b2⟩
    have S3 : Hid (Below w.heap.size w w2 ∧ Has w2 (w.heap.size + 1 + 1) 46 (verC 0 ⟨#[]⟩ ⟨#[]⟩) ∧ Has w2 w.heap.size 41 (headC m old)) :=
      Lib.hid ⟨S2.out.1.trans (b2.mono S2.out.1.size), S2.out.2.1.below b2 S2.out.2.1.lt, S2.out.2.2.2.1.below b2 S2.out.2.2.2.1.lt⟩
    have HER := Lib.hid he
    clear b2 S2 HPV q0 q1 q2 q3 hlh hlo he
    by_cases hE0 : E = 0
    · subst hE0
      obtain rfl : e = .nilIface := by
        rcases HER.out with ⟨_, h⟩ | ⟨h, _⟩
        · exact h
        · exact absurd rfl h
      obtain ⟨j, rfl, hjl, hk⟩ : ∃ j : Nat, m = j ∧ j ≤ L.length ∧ ((j < fl ∧ k = 3) ∨ (fl ≤ j ∧ old = rtAll (leafF L) j ∧ k = 1)) := by
        rcases HK.out with h | h
        · exact absurd rfl h.1
        · exact h.2
      have q1 : w2.cell? ⟨w.heap.size, 0, none⟩ = some (.int .i64 j) := prf.Has.num S3.out.2.2
      go_wp2_with fail
      rcases hk with ⟨h1, rfl⟩ | ⟨h1, h2, rfl⟩
      · refine ((H.out.below S3.out.1).head_err j 14 (.inr ⟨rfl, by omega, by omega, by omega⟩)).mono ?_
        obtain ⟨q, hq⟩ : ∃ q : List UInt8, q = List.replicate 32 0 := ⟨_, rfl⟩
        have QL : Hid (q.length = 32) := Lib.hid (by rw [hq]; simp)
        rw [← hq]
        clear hq
        rintro en w3 ⟨b, rfl, hb, her, b3⟩
        have hev : flt.ev [⟨b, headNm, (j : Int)⟩] 14 = .iface 125 (.pointer (some ⟨b, 0, none⟩)) := rfl
        rw [hev]
        have S4 : Hid (Below w.heap.size w w3 ∧ Has w3 (w.heap.size + 1 + 1) 46 (verC 0 ⟨#[]⟩ ⟨#[]⟩)) := Lib.hid ⟨S3.out.1.trans (b3.mono S3.out.1.size), S3.out.2.1.below b3 S3.out.2.1.lt⟩
        clear b3 S3 her hb hev q1
        go_wp2_with (first
          | ((with_reducible refine at_store (.tmp 9) ?_); refine wpList_store_head (o := ⟨none, _, _, _, _, _⟩) rfl (.tmp 9) (.tmp 40) rfl w3.heap.size 0 0 q (List.replicate 32 0) rfl rfl (made_at _ _ rfl) QL.out (by simp) ?_; intro Wc HWb TWb;
             (have S5 : Hid (Below w.heap.size w Wc ∧ Has Wc (w.heap.size + 1 + 1) 46 (verC 0 ⟨#[]⟩ ⟨#[]⟩)) := (by
               have bb : Below w3.heap.size w3 Wc := ((Below.refl _ _).alloc (Nat.le_refl _) _).trans (TWb.below (by simp) (fun j hj e => by omega))
               exact Lib.hid ⟨S4.out.1.trans (bb.mono S4.out.1.size), S4.out.2.below bb S4.out.2.lt⟩));
             clear HWb TWb S4)
          | ((with_reducible refine at_store (.tmp 6) ?_); refine wpList_store_cells (o := ⟨none, _, _, _, _, _⟩) rfl 46 (.tmp 6) (.tmp 44) rfl (w.heap.size + 1 + 1) (verC 3 ⟨#[]⟩ ⟨#[]⟩) (verC 0 ⟨#[]⟩ ⟨#[]⟩) rfl rfl _ S5.out.2 (by kernel_rfl) rfl (by simp [verC, Value.oneCell']) ?_; intro W9 HW9 TW9)
          | fail)
        exact bodyPost_ret (v := .agg (verC 3 ⟨#[]⟩ ⟨#[]⟩)) (results_cell_row rfl _ _ (w.heap.size + 1 + 1) 46 _ _ _ rfl HW9 Tryz.underlying46 rfl (by kernel_rfl)) rfl
          ⟨rfl, S5.out.1.trans (TW9.below S5.out.1.size (fun j hj e => by omega))⟩
      · refine ((H.out.below S3.out.1).head HNN.out.1 j h1 hjl).mono ?_
        rw [← h2]
        clear h1 h2 hjl
        rintro en w3 ⟨rfl, b3⟩
        have S4 : Hid (Below w.heap.size w w3 ∧ Has w3 (w.heap.size + 1 + 1) 46 (verC 0 ⟨#[]⟩ ⟨#[]⟩) ∧ Has w3 w.heap.size 41 (headC j old)) := Lib.hid ⟨S3.out.1.trans (b3.mono S3.out.1.size), S3.out.2.1.below b3 S3.out.2.1.lt, S3.out.2.2.below b3 S3.out.2.2.lt⟩
        clear b3 S3 q1
        have he := fun V => run_eql_head_same (j : Int) old HO.out V
        have hh1 : Hid ((headC (j : Int) old).size = 33) := Lib.hid (by rw [headC_size, HO.out])
        go_wp2_with (first
          | ((with_reducible refine at_store (.tmp 9) ?_); refine wpList_store_head (o := ⟨none, _, _, _, _, _⟩) rfl (.tmp 9) (.tmp 40) rfl w3.heap.size j 0 old (List.replicate 32 0) rfl rfl (made_at _ _ rfl) HO.out (by simp) ?_; intro Wc HWb TWb;
             (have S5 : Hid (Below w.heap.size w Wc ∧ Has Wc (w.heap.size + 1 + 1) 46 (verC 0 ⟨#[]⟩ ⟨#[]⟩) ∧ Has Wc w.heap.size 41 (headC j old) ∧ Has Wc w3.heap.size 41 (headC j old)) := (by
               have bb : Below w3.heap.size w3 Wc := ((Below.refl _ _).alloc (Nat.le_refl _) _).trans (TWb.below (by simp) (fun j hj e => by omega))
               exact Lib.hid ⟨S4.out.1.trans (bb.mono S4.out.1.size), S4.out.2.1.below bb S4.out.2.1.lt, S4.out.2.2.below bb S4.out.2.2.lt, HWb⟩));
             clear HWb TWb S4)
          | ((with_reducible refine at_op 45 ?_); refine wpList_load_row (o := ⟨some 45, _, _, _, _, _⟩) rfl 41 _ rfl w3.heap.size rfl 41 (headC j old) (0, 0) _ S5.out.2.2.2 Tryz.underlying41 rfl (by rw [hh1.out]; kernel_rfl) ?_)
          | ((with_reducible refine at_op 46 ?_); refine wpList_load_row (o := ⟨some 46, _, _, _, _, _⟩) rfl 41 _ rfl w.heap.size rfl 41 (headC j old) (0, 0) _ S5.out.2.2.1 Tryz.underlying41 rfl (by rw [hh1.out]; kernel_rfl) ?_)
          | ((with_reducible refine at_store (.tmp 6) ?_); refine wpList_store_cells (o := ⟨none, _, _, _, _, _⟩) rfl 46 (.tmp 6) (.tmp 48) rfl (w.heap.size + 1 + 1) (verC 1 ⟨#[]⟩ ⟨#[]⟩) (verC 0 ⟨#[]⟩ ⟨#[]⟩) rfl rfl _ S5.out.2.1 (by kernel_rfl) rfl (by simp [verC, Value.oneCell']) ?_; intro W9 HW9 TW9)
          | fail)
        exact bodyPost_ret (v := .agg (verC 1 ⟨#[]⟩ ⟨#[]⟩)) (results_cell_row rfl _ _ (w.heap.size + 1 + 1) 46 _ _ _ rfl HW9 Tryz.underlying46 rfl (by kernel_rfl)) rfl
          ⟨rfl, S5.out.1.trans (TW9.below S5.out.1.size (fun j hj e => by omega))⟩
    · obtain ⟨b, rfl⟩ : ∃ b, e = .iface 125 (.pointer (some ⟨b, 0, none⟩)) := by
        rcases HER.out with ⟨h, _⟩ | ⟨_, b, h⟩
        · exact absurd h hE0
        · exact ⟨b, h⟩
      obtain rfl : k = 0 := by
        rcases HK.out with h | h
        · exact h.2
        · exact absurd h.1 hE0
      clear hE0
      go_wp2_with (first
        | ((with_reducible refine at_store (.tmp 6) ?_); refine wpList_store_cells (o := ⟨none, _, _, _, _, _⟩) rfl 46 (.tmp 6) (.tmp 34) rfl (w.heap.size + 1 + 1) (verC 0 ⟨#[]⟩ ⟨#[]⟩) (verC 0 ⟨#[]⟩ ⟨#[]⟩) rfl rfl _ S3.out.2.1 (by kernel_rfl) rfl (by simp [verC, Value.oneCell']) ?_; intro W9 HW9 TW9)
        | fail)
      exact bodyPost_ret (v := .agg (verC 0 ⟨#[]⟩ ⟨#[]⟩)) (results_cell_row rfl _ _ (w.heap.size + 1 + 1) 46 _ _ _ rfl HW9 Tryz.underlying46 rfl (by kernel_rfl)) rfl
        ⟨rfl, S3.out.1.trans (TW9.below S3.out.1.size (fun j hj e => by omega))⟩
  · have hE := HE.out
    unfold provE at hE
    rw [if_neg hK] at hE
    obtain rfl : k = 0 := by
      rcases HK.out with h | h
      · exact h.2
      · have := h.1; omega
    have hK1 : (K != 2) = true := by simpa using hK
    have hK2 : (K == 2) = false := by simpa using hK
    clear hK hE
    go_wp2_with (first
      | ((with_reducible refine at_store (.tmp 7) ?_); refine wpList_store_head (o := ⟨none, _, _, _, _, _⟩) rfl (.tmp 7) (.tmp 18) rfl w1.heap.size n 0 R (List.replicate 32 0) rfl rfl (made_at _ _ rfl) RL.out (by simp) ?_; intro Wb HWb TWb;
         (have S2 : Hid (Below w.heap.size w Wb ∧ Has Wb (w.heap.size + 1 + 1) 46 (verC 0 ⟨#[]⟩ ⟨#[]⟩) ∧ Has Wb (w.heap.size + 1) 25 (prC K I n (.slice a lr c))) := (by
           have bb : Below w1.heap.size w1 Wb := ((Below.refl _ _).alloc (Nat.le_refl _) _).trans (TWb.below (by simp) (fun j hj e => by omega))
           exact Lib.hid ⟨S1.out.1.trans (bb.mono S1.out.1.size), S1.out.2.1.below bb S1.out.2.1.lt, S1.out.2.2.1.below bb S1.out.2.2.1.lt⟩));
         have q0 : Wb.cell? ⟨w.heap.size + 1, 0, none⟩ = some (.int .i64 K) := S2.out.2.2.cell 0;
         clear HWb TWb S1)
      | ((with_reducible refine at_store (.tmp 6) ?_); refine wpList_store_cells (o := ⟨none, _, _, _, _, _⟩) rfl 46 (.tmp 6) (.tmp 34) rfl (w.heap.size + 1 + 1) (verC 0 ⟨#[]⟩ ⟨#[]⟩) (verC 0 ⟨#[]⟩ ⟨#[]⟩) rfl rfl _ S2.out.2.1 (by kernel_rfl) rfl (by simp [verC, Value.oneCell']) ?_; intro W9 HW9 TW9)
      | fail)
    exact bodyPost_ret (v := .agg (verC 0 ⟨#[]⟩ ⟨#[]⟩)) (results_cell_row rfl _ _ (w.heap.size + 1 + 1) 46 _ _ _ rfl HW9 Tryz.underlying46 rfl (by kernel_rfl)) rfl
      ⟨rfl, S2.out.1.trans (TW9.below S2.out.1.size (fun j hj e => by omega))⟩
end
end Go.Proofs.YtdoadmkaoboncaaGreatDoor.aud
end

section
/- clash: under, Is. -/
namespace Go.Proofs.YtdoadmkaoboncaaGreatDoor.clash
open Go Go.RowKit Go.Proofs.YtdoadmkaoboncaaGreatDoor.dig

/-- The text under the Node of two sums. -/
def underS (a b : List UInt8) : ByteArray := ⟨(1 :: (a ++ b)).toArray⟩
theorem underS_of (a b : List UInt8) : (⟨#[1]⟩ ++ (⟨a.toArray⟩ : ByteArray) ++ (⟨b.toArray⟩ : ByteArray) : ByteArray) = underS a b := by
  apply ByteArray.ext
  simp [underS, ByteArray.data_append]

set_option maxRecDepth 100000 in
set_option maxHeartbeats 1000000 in
theorem under_calls (a b : List UInt8) (w : World) (ha : a.length = 32) (hb : b.length = 32) :
    Calls Tryz.prog 109 #[.agg (cellsOf a), .agg (cellsOf b)] w fun en w' => en = .returned (.string (underS a b)) ∧ Below w.heap.size w w' := by
  have HA := Lib.hid ha
  have HB := Lib.hid hb
  clear ha hb
  obtain ⟨sa, hsa⟩ : ∃ sa : ByteArray, sa = ⟨a.toArray⟩ := ⟨_, rfl⟩
  obtain ⟨sb, hsb⟩ : ∃ sb : ByteArray, sb = ⟨b.toArray⟩ := ⟨_, rfl⟩
  have za : sa.size = 32 := by rw [hsa]; simpa [ByteArray.size] using HA.out
  have zb : sb.size = 32 := by rw [hsb]; simpa [ByteArray.size] using HB.out
  have HU : Hid ((⟨#[1]⟩ : ByteArray) ++ sa ++ sb = underS a b) := Lib.hid (by rw [hsa, hsb]; exact underS_of a b)
  have HSA := Lib.hid hsa
  have HSB := Lib.hid hsb
  clear hsa hsb
  go_enter Tryz.func109, Tryz.ntmps109
  go_wp2_with fail
  go_name_world W hW
  have B0 : Below w.heap.size w W := by rw [← hW]; exact ((Below.refl _ _).alloc (Nat.le_refl _) _).alloc (by simp) _
  have PA : Has W w.heap.size 38 (cellsOf a) := by rw [← hW]; exact Has.alloc (made_at _ _ rfl) _
  have PB : Has W (w.heap.size + 1) 38 (cellsOf b) := by rw [← hW]; exact made_at _ _ (by simp)
  clear hW
  have ca := run_str_arr (P := Tryz.prog) 51 9 5 Tryz.underlying51 Tryz.underlying5 Tryz.underlying9 _ _ a 32 W.drew PA.drew
  have cb := run_str_arr (P := Tryz.prog) 51 9 5 Tryz.underlying51 Tryz.underlying5 Tryz.underlying9 _ _ b 32 W.drew PB.drew
  rw [HA.out, ← HSA.out] at ca
  rw [HB.out, ← HSB.out] at cb
  have hul := Tryz.underlying38
  have BB := Lib.hid B0.drew
  clear PA PB B0
  have e1 : (⟨#[1]⟩ : ByteArray).size = 1 := rfl
  have e2 : ((⟨#[1]⟩ : ByteArray) ++ sa).size = 33 := by rw [ByteArray.size_append, za]; rfl
  refine wp_region_still_lit (by kernel_rfl) (by kernel_rfl) ?_
  repeat still_step
  refine wpStill_nil ?_
  clear ca cb hul e1 e2
  go_wp2_with fail
  go_ret
  rw [HU.out]
  exact ⟨rfl, BB.out⟩

theorem run_equal_sum' (xs ys : List UInt8) (hx : xs.length = 32) (hy : ys.length = 32) (w : World) : (Op.equalIn 10000 38 (.agg (cellsOf xs)) (.agg (cellsOf ys))).run Tryz.prog w = .ok (xs == ys) w := by
  have := run_equalIn_bytes (P := Tryz.prog) 9998 (t := 38) (e := 5) 32 Tryz.underlying38 Tryz.underlying5 (by kernel_rfl) xs ys hx hy w
  simpa using this

/-- Are two texts a clash? -/
def clashB (s t : ByteArray) : Bool := decide (s ≠ t) && (sum s.data.toList == sum t.data.toList)
theorem clashB_self (s : ByteArray) : clashB s s = false := by simp [clashB]

/-- What lasts while a pair is looked at. -/
structure PairS (w : World) (g : Nat) (s t : ByteArray) (V : World) : Prop where
  rk : Rk V
  own : Has V g 44 #[.string s, .string t]
  bel : Below w.heap.size w V
theorem PairS.below {w V V' : World} {g : Nat} {s t : ByteArray} (h : PairS w g s t V) (b : Below V.heap.size V V') : PairS w g s t V' :=
  ⟨h.rk.below b, h.own.below b h.own.lt, h.bel.trans (b.mono h.bel.size)⟩

set_option maxRecDepth 100000 in
set_option maxHeartbeats 1000000 in
theorem is_calls (s t : ByteArray) (w : World) (hR : Rk w) (hs : s.size < 1000000000) (ht : t.size < 1000000000) :
    Calls Tryz.prog 26 #[.agg #[.string s, .string t]] w fun en w' => en = .returned (.bool (clashB s t)) ∧ Below w.heap.size w w' := by
  have HR := Lib.hid hR
  clear hR
  by_cases he : s = t
  · subst he
    rw [clashB_self]
    go_enter Tryz.func26, Tryz.ntmps26
    go_wp2_with fail
    go_name_world W hW
    have P0 : Hid (PairS w w.heap.size s s W) := by
      have b0 : Below w.heap.size w W := by rw [← hW]; exact (Below.refl _ _).alloc (Nat.le_refl _) _
      exact Lib.hid ⟨HR.out.below b0, by rw [← hW]; exact made_at _ _ rfl, b0⟩
    clear hW HR
    have c0 : W.cell? ⟨w.heap.size, 0, none⟩ = some (.string s) := P0.out.own.cell 0
    have c1 : W.cell? ⟨w.heap.size, 1, none⟩ = some (.string s) := P0.out.own.cell 1
    go_quiet (fail)
    go_wp2_with fail
    go_ret
    exact ⟨rfl, ⟨P0.out.bel.os, P0.out.bel.tape, P0.out.bel.output, P0.out.bel.size, P0.out.bel.block⟩⟩
  · have hq : clashB s t = (sum s.data.toList == sum t.data.toList) := by simp [clashB, he]
    rw [hq]
    have hne : ¬ s.toList = t.toList := fun e => he (by
      rw [ByteArray.toList_eq, ByteArray.toList_eq] at e
      apply ByteArray.ext
      exact Array.toList_inj.1 e)
    have HQ := Lib.hid hq
    clear hq
    go_enter Tryz.func26, Tryz.ntmps26
    go_wp2_with fail
    go_name_world W hW
    have P0 : Hid (PairS w w.heap.size s t W) := by
      have b0 : Below w.heap.size w W := by rw [← hW]; exact (Below.refl _ _).alloc (Nat.le_refl _) _
      exact Lib.hid ⟨HR.out.below b0, by rw [← hW]; exact made_at _ _ rfl, b0⟩
    clear hW HR
    refine wp_region_S (S := PairS w w.heap.size s t) (by kernel_rfl) (P0.out.below (Below.refl _ _).drew) ?_
    refine AnyS.pure 0 (some 3) (v := .pointer (some ⟨w.heap.size, 0, none⟩)) rfl rfl (by kernel_rfl) (by kernel_rfl) (by kernel_rfl) (fun _ _ _ h => h) (by kernel_rfl) (fun V _ => by go_simp) ?_
    refine AnyS.pure 1 (some 4) (v := .string s) rfl rfl (by kernel_rfl) (by kernel_rfl) (by kernel_rfl) (fun _ _ _ h => h) (by kernel_rfl) (fun V hV => by have c0 := hV.own.cell 0; have c1 := hV.own.cell 1; simp at c0 c1; go_simp) ?_
    refine AnyS.pure 2 (some 5) (v := .pointer (some ⟨w.heap.size, 1, none⟩)) rfl rfl (by kernel_rfl) (by kernel_rfl) (by kernel_rfl) (fun _ _ _ h => h) (by kernel_rfl) (fun V _ => by go_simp) ?_
    refine AnyS.pure 3 (some 6) (v := .string t) rfl rfl (by kernel_rfl) (by kernel_rfl) (by kernel_rfl) (fun _ _ _ h => h) (by kernel_rfl) (fun V hV => by have c0 := hV.own.cell 0; have c1 := hV.own.cell 1; simp at c0 c1; go_simp) ?_
    refine AnyS.pure 4 (some 7) (v := .bool true) rfl rfl (by kernel_rfl) (by kernel_rfl) (by kernel_rfl) (fun _ _ _ h => h) (by kernel_rfl) (fun V _ => by go_simp) ?_
    refine AnyS.pure 5 (some 8) rfl rfl (by kernel_rfl) (by kernel_rfl) (by kernel_rfl) (fun _ _ _ h => h) (by kernel_rfl) (fun _ _ => rfl) ?_
    refine AnyS.pure 6 (some 9) (v := .pointer (some ⟨w.heap.size, 0, none⟩)) rfl rfl (by kernel_rfl) (by kernel_rfl) (by kernel_rfl) (fun _ _ _ h => h) (by kernel_rfl) (fun V _ => by go_simp) ?_
    refine AnyS.pure 7 (some 10) (v := .string s) rfl rfl (by kernel_rfl) (by kernel_rfl) (by kernel_rfl) (fun _ _ _ h => h) (by kernel_rfl) (fun V hV => by have c0 := hV.own.cell 0; have c1 := hV.own.cell 1; simp at c0 c1; go_simp) ?_
    refine AnyS.pure 9 (some 12) (v := .pointer (some ⟨w.heap.size, 1, none⟩)) rfl rfl (by kernel_rfl) (by kernel_rfl) (by kernel_rfl) (fun _ _ _ h => h) (by kernel_rfl) (fun V _ => by go_simp) ?_
    refine AnyS.pure 10 (some 13) (v := .string t) rfl rfl (by kernel_rfl) (by kernel_rfl) (by kernel_rfl) (fun _ _ _ h => h) (by kernel_rfl) (fun V hV => by have c0 := hV.own.cell 0; have c1 := hV.own.cell 1; simp at c0 c1; go_simp) ?_
    refine AnyS.call 8 (some 11) (.agg (cellsOf (sum s.data.toList))) rfl rfl (by kernel_rfl) (by kernel_rfl) (by kernel_rfl) (fun _ _ _ h => h) (by kernel_rfl) 53 Tryz.f53 Tryz.func53 (by kernel_rfl) (by kernel_rfl) _ _ rfl #[.string s] (by first | (simp [Act.eval]; done) | (simp [Act.eval, Act.put]; done)) (fun V hV => (of_calls s V hV.rk (by omega)).mono (fun _ _ h => ⟨h.1, hV.below h.2⟩)) ?_
    simp only [Act.put, List.setIfInBounds_toArray, List.set_cons_zero, List.set_cons_succ]
    refine AnyS.call 11 (some 14) (.agg (cellsOf (sum t.data.toList))) rfl rfl (by kernel_rfl) (by kernel_rfl) (by kernel_rfl) (fun _ _ _ h => h) (by kernel_rfl) 53 Tryz.f53 Tryz.func53 (by kernel_rfl) (by kernel_rfl) _ _ rfl #[.string t] (by first | (simp [Act.eval]; done) | (simp [Act.eval, Act.put]; done)) (fun V hV => (of_calls t V hV.rk (by omega)).mono (fun _ _ h => ⟨h.1, hV.below h.2⟩)) ?_
    simp only [Act.put, List.setIfInBounds_toArray, List.set_cons_zero, List.set_cons_succ]
    refine AnyS.pure 12 (some 15) (v := .bool (sum s.data.toList == sum t.data.toList)) rfl rfl (by kernel_rfl) (by kernel_rfl) (by kernel_rfl) (fun _ _ _ h => h) (by kernel_rfl) (fun V _ => by have he := run_equal_sum' (sum s.data.toList) (sum t.data.toList) (sum_length _) (sum_length _) V; go_simp) ?_
    refine AnyS.pure 13 (some 16) (v := .bool (sum s.data.toList == sum t.data.toList)) rfl rfl (by kernel_rfl) (by kernel_rfl) (by kernel_rfl) (fun _ _ _ h => h) (by kernel_rfl) (fun V _ => by go_simp) ?_
    refine AnyS.pure 14 (some 2) rfl rfl (by kernel_rfl) (by kernel_rfl) (by kernel_rfl) (fun _ _ _ h => h) (by kernel_rfl) (fun _ _ => rfl) ?_
    refine AnyS.done (by kernel_rfl) (fun V hV => ?_) _
    have HB := Lib.hid hV.bel
    clear hV P0
    go_wp2_with fail
    go_ret
    exact ⟨rfl, HB.out⟩
end Go.Proofs.YtdoadmkaoboncaaGreatDoor.clash
end

