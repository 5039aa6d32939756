/- ledger: what Few gives. -/
import Derived.Test.YtfhpcodjmmidhaaLedQ
import Derived.Test.YtfhpcodjmmidhaaHold
namespace Go.Proofs.Ytfhpcodjmmidhaa
open Go.RowKit Go.Maps

def few14 (s : ByteArray) : ByteArray := s.extract 0 14
theorem few14_size (s : ByteArray) : (few14 s).size ≤ 14 := by
  unfold few14
  rw [ByteArray.size_extract]
  omega

theorem cut14_any (s : ByteArray) (w : World) (hs : s.size ≤ maxLen) : Calls Try.prog 31 #[.string s, .int .i64 14] w fun en w' => en = .returned (.string (few14 s)) ∧ w = w' := cut_any s 14 w (by omega) hs

set_option maxRecDepth 100000 in
set_option maxHeartbeats 1000000 in
theorem lfew_calls (k n : Int) (s t : ByteArray) (w : World) (hs : s.size ≤ maxLen) (ht : t.size ≤ maxLen) :
    Calls Try.prog 15 #[.agg #[.int .i64 k, .string s, .string t, .int .i64 n]] w fun en w' => en = .returned (.agg #[.int .i64 k, .string (few14 s), .string (few14 t), .int .i64 n]) ∧ Below w.heap.size w w' := by
  have HS := fun W => Lib.hid (cut14_any s W hs)
  have HT := fun W => Lib.hid (cut14_any t W ht)
  clear hs ht
  go_enter Try.func15, Try.ntmps15
  go_wp2_with fail
  go_name_world W hW
  obtain ⟨p, ep⟩ : ∃ p, p = w.heap.size := ⟨_, rfl⟩
  have H1 : Hid (Has W p 29 #[.int .i64 k, .string s, .string t, .int .i64 n]) := by show Has _ _ _ _; rw [← hW, ep]; exact (Has.made _ _ _).alloc _
  have H2 : Hid (Has W (p + 1) 29 #[.int .i64 0, .string ⟨#[]⟩, .string ⟨#[]⟩, .int .i64 0]) := by show Has _ _ _ _; rw [← hW, ep]; exact made_at _ _ (by simp)
  have T0 : Hid (Turn (fun k => w.heap.size ≤ k) w W) := by show Turn _ _ _; rw [← hW]; exact ((Turn.refl _ _).alloc _).alloc _
  rw [← ep]
  have hq : Hid (w.heap.size ≤ p) := Nat.le_of_eq ep.symm
  have c1 : W.cell? ⟨p, 1, none⟩ = some (.string s) := H1.out.cell 1
  have c2 : W.cell? ⟨p, 2, none⟩ = some (.string t) := H1.out.cell 2
  have f1 : W.frozen? ⟨p, 1, none⟩ = false := H1.out.free 1
  have f2 : W.frozen? ⟨p, 2, none⟩ = false := H1.out.free 2
  clear hW ep
  go_wp2_with fail
  refine wp_region_quiet (fun V => Has V p 29 #[.int .i64 k, .string s, .string t, .int .i64 n]) [7, 9] (by kernel_rfl) ?_
  have hC : (fun V => Has V p 29 #[.int .i64 k, .string s, .string t, .int .i64 n]) W.drew := H1.out.drew
  clear c1 c2 f1 f2
  refine quiet_take 0 (some 3) (v := .pointer (some ⟨p, 1, none⟩)) rfl rfl (by kernel_rfl) (by kernel_rfl) (by kernel_rfl) (fun _ _ _ h => h) (by kernel_rfl) (by kernel_rfl) (by kernel_rfl) (fun V _ => by go_simp) hC ?_
  refine quiet_take 1 (some 4) (v := .string s) rfl rfl (by kernel_rfl) (by kernel_rfl) (by kernel_rfl) (fun _ _ _ h => h) (by kernel_rfl) (by kernel_rfl) (by kernel_rfl) (fun V hV => by have c1 := Has.cell hV 1; go_simp) hC ?_
  refine quiet_call 2 (some 5) (.string (few14 s)) rfl rfl (by kernel_rfl) (by kernel_rfl) (by kernel_rfl) (fun _ _ _ h => h) (by kernel_rfl) (by kernel_rfl) (by kernel_rfl) 31 Try.f31 Try.func31 (by kernel_rfl) (by kernel_rfl) _ _ rfl #[.string s, .int .i64 14] (by first | (simp [Act.eval]; done) | (simp [Act.eval, Act.put]; done)) (fun V _ => (HS V).out) hC ?_
  refine quiet_take 3 (some 6) (v := .pointer (some ⟨p, 2, none⟩)) rfl rfl (by kernel_rfl) (by kernel_rfl) (by kernel_rfl) (fun _ _ _ h => h) (by kernel_rfl) (by kernel_rfl) (by kernel_rfl) (fun V _ => by go_simp) hC ?_
  refine quiet_take 4 (some 7) (v := .string t) rfl rfl (by kernel_rfl) (by kernel_rfl) (by kernel_rfl) (fun _ _ _ h => h) (by kernel_rfl) (by kernel_rfl) (by kernel_rfl) (fun V hV => by have c1 := Has.cell hV 2; go_simp) hC ?_
  refine quiet_call 5 (some 8) (.string (few14 t)) rfl rfl (by kernel_rfl) (by kernel_rfl) (by kernel_rfl) (fun _ _ _ h => h) (by kernel_rfl) (by kernel_rfl) (by kernel_rfl) 31 Try.f31 Try.func31 (by kernel_rfl) (by kernel_rfl) _ _ rfl #[.string t, .int .i64 14] (by first | (simp [Act.eval]; done) | (simp [Act.eval, Act.put]; done)) (fun V _ => (HT V).out) hC ?_
  simp only [Act.put, List.setIfInBounds_toArray, List.set_cons_zero, List.set_cons_succ]
  refine quiet_one (i := 6) (by kernel_rfl) ?_
  refine wpOp_value (some 9) (v := .pointer (some ⟨p, 1, none⟩)) (w' := W.drew) rfl rfl (by kernel_rfl) (by go_simp) ⟨fun _ => hC, ?_⟩
  have f1 : W.frozen? ⟨p, 1, none⟩ = false := H1.out.free 1
  have f2 : W.frozen? ⟨p, 2, none⟩ = false := H1.out.free 2
  have k1 : W.cell? ⟨p, 1, none⟩ = some (.string s) := H1.out.cell 1
  have k2 : W.cell? ⟨p, 2, none⟩ = some (.string t) := H1.out.cell 2
  refine quiet_one (i := 7) (by kernel_rfl) ?_
  refine wpOp_skip (w' := (W.setCell ⟨p, 1, none⟩ (.string (few14 s))).drew) rfl rfl (by kernel_rfl) (by go_simp) ⟨(fun h => by cases h), ?_⟩
  refine quiet_one (i := 8) (by kernel_rfl) ?_
  refine wpOp_value (some 10) (v := .pointer (some ⟨p, 2, none⟩)) (w' := (W.setCell ⟨p, 1, none⟩ (.string (few14 s))).drew) rfl rfl (by kernel_rfl) (by go_simp) ⟨(fun h => by cases h), ?_⟩
  refine quiet_one (i := 9) (by kernel_rfl) ?_
  refine wpOp_skip (w' := ((W.setCell ⟨p, 1, none⟩ (.string (few14 s))).setCell ⟨p, 2, none⟩ (.string (few14 t))).drew) rfl rfl (by kernel_rfl) (by go_simp) ⟨(fun h => by cases h), ?_⟩
  refine quiet_done (by kernel_rfl) ?_ _
  have E1 : Hid (Has (((W.setCell ⟨p, 1, none⟩ (.string (few14 s))).setCell ⟨p, 2, none⟩ (.string (few14 t))).drew) p 29 #[.int .i64 k, .string (few14 s), .string (few14 t), .int .i64 n]) := by
    show Has _ _ _ _
    simpa using ((H1.out.put 1 (.string (few14 s))).put 2 (.string (few14 t))).drew
  have E2 : Hid (Has (((W.setCell ⟨p, 1, none⟩ (.string (few14 s))).setCell ⟨p, 2, none⟩ (.string (few14 t))).drew) (p + 1) 29 #[.int .i64 0, .string ⟨#[]⟩, .string ⟨#[]⟩, .int .i64 0]) := 
    ((H2.out.far (p := ⟨p, 1, none⟩) (Nat.succ_ne_self p) _).far (p := ⟨p, 2, none⟩) (Nat.succ_ne_self p) _).drew
  have T1 : Hid (Turn (fun k => w.heap.size ≤ k) w (((W.setCell ⟨p, 1, none⟩ (.string (few14 s))).setCell ⟨p, 2, none⟩ (.string (few14 t))).drew)) :=
    ((T0.out.put (fun h => by have := hq.out; omega) 1 _).put (fun h => by have := hq.out; omega) 2 _).drew
  generalize ((W.setCell ⟨p, 1, none⟩ (.string (few14 s))).setCell ⟨p, 2, none⟩ (.string (few14 t))).drew = W1 at *
  have x0 : W1.cell? ⟨p, 0, none⟩ = some (.int .i64 k) := E1.out.cell 0
  have x1 : W1.cell? ⟨p, 1, none⟩ = some (.string (few14 s)) := E1.out.cell 1
  have x2 : W1.cell? ⟨p, 2, none⟩ = some (.string (few14 t)) := E1.out.cell 2
  have x3 : W1.cell? ⟨p, 3, none⟩ = some (.int .i64 n) := E1.out.cell 3
  have y0 : W1.cell? ⟨p + 1, 0, none⟩ = some (.int .i64 0) := E2.out.cell 0
  have y1 : W1.cell? ⟨p + 1, 1, none⟩ = some (.string ⟨#[]⟩) := E2.out.cell 1
  have y2 : W1.cell? ⟨p + 1, 2, none⟩ = some (.string ⟨#[]⟩) := E2.out.cell 2
  have y3 : W1.cell? ⟨p + 1, 3, none⟩ = some (.int .i64 0) := E2.out.cell 3
  have z0 : W1.frozen? ⟨p + 1, 0, none⟩ = false := E2.out.free 0
  have z1 : W1.frozen? ⟨p + 1, 1, none⟩ = false := E2.out.free 1
  have z2 : W1.frozen? ⟨p + 1, 2, none⟩ = false := E2.out.free 2
  have z3 : W1.frozen? ⟨p + 1, 3, none⟩ = false := E2.out.free 3
  go_wp2_with fail
  have E3 : Has ((((W1.setCell ⟨p + 1, 0, none⟩ (.int .i64 k)).setCell ⟨p + 1, 1, none⟩ (.string (few14 s))).setCell ⟨p + 1, 2, none⟩ (.string (few14 t))).setCell ⟨p + 1, 3, none⟩ (.int .i64 n)) (p + 1) 29 #[.int .i64 k, .string (few14 s), .string (few14 t), .int .i64 n] := by
    simpa using (((E2.out.put 0 (.int .i64 k)).put 1 (.string (few14 s))).put 2 (.string (few14 t))).put 3 (.int .i64 n)
  have T3 : Hid (Turn (fun k => w.heap.size ≤ k) w ((((W1.setCell ⟨p + 1, 0, none⟩ (.int .i64 k)).setCell ⟨p + 1, 1, none⟩ (.string (few14 s))).setCell ⟨p + 1, 2, none⟩ (.string (few14 t))).setCell ⟨p + 1, 3, none⟩ (.int .i64 n))) :=
    (((T1.out.put (fun h => by have := hq.out; omega) _ _).put (fun h => by have := hq.out; omega) _ _).put (fun h => by have := hq.out; omega) _ _).put (fun h => by have := hq.out; omega) _ _
  generalize (((W1.setCell ⟨p + 1, 0, none⟩ (.int .i64 k)).setCell ⟨p + 1, 1, none⟩ (.string (few14 s))).setCell ⟨p + 1, 2, none⟩ (.string (few14 t))).setCell ⟨p + 1, 3, none⟩ (.int .i64 n) = W2 at *
  have w0 : W2.cell? ⟨p + 1, 0, none⟩ = some (.int .i64 k) := E3.cell 0
  have w1 : W2.cell? ⟨p + 1, 1, none⟩ = some (.string (few14 s)) := E3.cell 1
  have w2 : W2.cell? ⟨p + 1, 2, none⟩ = some (.string (few14 t)) := E3.cell 2
  have w3 : W2.cell? ⟨p + 1, 3, none⟩ = some (.int .i64 n) := E3.cell 3
  exact bodyPost_ret (v := .agg #[.int .i64 k, .string (few14 s), .string (few14 t), .int .i64 n]) (by simp [results, Try.results15, go_sem, w0, w1, w2, w3]) rfl ⟨rfl, turn_box T3.out⟩

end Go.Proofs.Ytfhpcodjmmidhaa
