/- Texts laid into one: PruC, PruDA, PruE, Head, PruF, PruHZ, PrfM, PruM, PruHI. -/
import Derived.Test.YtdoadmkaoboncaaGreatDoorPruB
import Derived.Test.YtdoadmkaoboncaaGreatDoorDigM
import Derived.Test.YtdoadmkaoboncaaGreatDoorBld
import Derived.Test.YtdoadmkaoboncaaGreatDoorAny
import Derived.Test.YtdoadmkaoboncaaGreatDoorDigH
import Derived.Test.YtdoadmkaoboncaaGreatDoorHalf
import Derived.Test.YtdoadmkaoboncaaGreatDoorTreeM
import Derived.Test.YtdoadmkaoboncaaGreatDoorLeaf
section
/- prune: copied, At. -/
namespace Go.Proofs.YtdoadmkaoboncaaGreatDoor.prn
open Go Go.RowKit Go.Proofs.YtdoadmkaoboncaaGreatDoor.dig

/-- An error was answered beside another value: a step more around n. -/
def PairErr (w : World) (v : Value) (s : ByteArray) (a n : Int) (en : Ending) (w' : World) : Prop :=
  ∃ b, en = .returned (.tuple #[v, flt.ev [⟨b, s, a⟩] n]) ∧ w.heap.size ≤ b ∧ flt.Er w'.heap.size w' [⟨b, s, a⟩] n ∧ Below w.heap.size w w'
/-- An error alone was answered. -/
def OneErr (w : World) (s : ByteArray) (a n : Int) (en : Ending) (w' : World) : Prop :=
  ∃ b, en = .returned (flt.ev [⟨b, s, a⟩] n) ∧ w.heap.size ≤ b ∧ flt.Er w'.heap.size w' [⟨b, s, a⟩] n ∧ Below w.heap.size w w'

def commandB : ByteArray := ⟨#[99, 111, 109, 109, 97, 110, 100]⟩

set_option maxRecDepth 100000 in
set_option maxHeartbeats 1000000 in
theorem copied_calls (v : Value) (m : Nat) (xs : List Value) (w : World) (hs : Seg w 9 1 v m xs) (h1 : ∀ u ∈ xs, u.oneCell' = true) (hm : m ≤ 1000000) :
    Calls Tryz.prog 52 #[v] w fun en w' => ∃ y, en = .returned y ∧ Seg w' 9 1 y m xs ∧ (∀ x, y.ownBlock = some x → w.heap.size ≤ x) ∧ Below w.heap.size w w' := by
  obtain ⟨i, z, hi, hz, hsz, hzs, hby⟩ := flt.strInfo
  obtain ⟨a, c, rfl, _, _⟩ := hs.slice
  have HS := Lib.hid hs
  have H1 := Lib.hid h1
  clear hs h1
  go_enter Tryz.func52, Tryz.ntmps52
  go_wp2_with (first | ((with_reducible refine at_op 4 ?_); refine wpList_append_new (o := ⟨some 4, _, _, _, _, _⟩) _ rfl (.const (.slice none 0 0)) (.tmp 3) 22 rfl 9 i z 1 16 Tryz.underlying22 hi hz hsz hby hzs (by omega) rfl _ m xs rfl HS.out H1.out (by unfold maxLen; omega) (by omega) ?_; intro y W2 s2 b2 o2) | fail)
  go_ret
  exact ⟨y, rfl, s2, o2, b2⟩

section
variable {B : Nat} {F : Nat → Prop} {w : World} {vb fl : Nat} {L : List ByteArray}

set_option maxRecDepth 100000 in
set_option maxHeartbeats 1000000 in
theorem Va.at_ok (h : Va B F w vb L fl) (i : Nat) (hi : fl ≤ i) (s : ByteArray) (hs : L[i]? = some s) :
    Calls Tryz.prog 28 #[.pointer (some ⟨vb, 0, none⟩), .int .i64 i] w fun en w' => en = .returned (.tuple #[.string s, .nilIface]) ∧ Below w.heap.size w w' := by
  obtain ⟨T, tb, first, cv, r⟩ := h.raw
  have hil : i < L.length := (List.getElem?_eq_some_iff.1 hs).1
  have hsm := h.small
  have hfi : first ≤ i := Nat.le_trans r.first hi
  obtain ⟨g, off, c, rfl, hg, hc1, hc2, hcell⟩ := r.seg.cells (by omega)
  have c0 := hcell _ _ (keptC_at r.first hi hs)
  have e1 := r.own.cell 1
  have e2 := r.own.cell 2
  simp at e1 e2
  have HL := Lib.hid h.len_calls
  have HF := Lib.hid h.floor_calls
  obtain ⟨n, hn⟩ : ∃ n, n = L.length := ⟨_, rfl⟩
  obtain ⟨k, hk⟩ : ∃ k, k = i - first := ⟨_, rfl⟩
  obtain ⟨m, hm⟩ : ∃ m, m = L.length - first := ⟨_, rfl⟩
  rw [← hk] at c0
  rw [← hm] at e2 hc1
  rw [← hn] at HL
  have h1 : ¬ (i : Int) < 0 := by omega
  have h2 : ¬ (i : Int) ≥ (n : Int) := by omega
  have h3 : ¬ (i : Int) < (fl : Int) := by omega
  have h4 : IntKind.i64.wrap ((i : Int) - (first : Int)) = (k : Int) := by rw [show (i : Int) - (first : Int) = (k : Int) by omega]; exact IntWalk.i64_in _ ⟨by omega, by omega⟩
  have h5 : (i : Int) - (first : Int) = (k : Int) := by omega
  have h6 : (k : Int) < (m : Int) := by omega
  have h7 : (0 : Int) ≤ (k : Int) := by omega
  have h8 : (m : Int) ≤ 1000000 := by omega
  clear r h hcell hs hn hk hm hil hsm hfi hc1 hc2 hg hi
  go_enter Tryz.func28, Tryz.ntmps28
  go_wp2_with fail
  refine HL.out.mono ?_
  rintro en w1 ⟨rfl, rfl⟩
  go_wp2_with fail
  refine HF.out.mono ?_
  rintro en w1 ⟨rfl, rfl⟩
  go_wp2_with fail
  go_region
  go_wp2_with fail
  go_ret2
  exact ⟨rfl, (Below.refl _ _).drew⟩
end
end Go.Proofs.YtdoadmkaoboncaaGreatDoor.prn
end

section
/- Out of PruD: Va.at_future, Va.at_pruned. -/
namespace Go.Proofs.YtdoadmkaoboncaaGreatDoor.prn
open Go Go.RowKit Go.Proofs.YtdoadmkaoboncaaGreatDoor.dig

section
variable {B : Nat} {F : Nat → Prop} {w : World} {vb fl : Nat} {L : List ByteArray}
set_option maxRecDepth 100000 in
set_option maxHeartbeats 1000000 in
theorem Va.at_future (h : Va B F w vb L fl) (x : Int) (hx : x < 0 ∨ x ≥ L.length) :
    Calls Tryz.prog 28 #[.pointer (some ⟨vb, 0, none⟩), .int .i64 x] w (PairErr w (.string ⟨#[]⟩) commandB x 13) := by
  have HL := Lib.hid h.len_calls
  obtain ⟨n, hn⟩ : ∃ n, n = L.length := ⟨_, rfl⟩
  rw [← hn] at HL hx
  clear hn h
  by_cases h1 : x < 0
  · clear hx
    go_enter Tryz.func28, Tryz.ntmps28
    go_wp2_with fail
    refine (flt.in_calls [] 13 commandB x _ (by decide)).mono ?_
    rintro en w2 ⟨rfl, rfl⟩
    go_wp2_with fail
    go_ret2
    exact ⟨_, rfl, Nat.le_refl _, ⟨⟨made_at _ _ rfl, by simp⟩, trivial⟩, (Below.refl _ _).alloc (Nat.le_refl _) _⟩
  · have h2 : x ≥ (n : Int) := by omega
    clear hx
    go_enter Tryz.func28, Tryz.ntmps28
    go_wp2_with fail
    refine HL.out.mono ?_
    rintro en w1 ⟨rfl, rfl⟩
    go_wp2_with fail
    refine (flt.in_calls [] 13 commandB x _ (by decide)).mono ?_
    rintro en w2 ⟨rfl, rfl⟩
    go_wp2_with fail
    go_ret2
    exact ⟨_, rfl, Nat.le_refl _, ⟨⟨made_at _ _ rfl, by simp⟩, trivial⟩, (Below.refl _ _).alloc (Nat.le_refl _) _⟩

set_option maxRecDepth 100000 in
set_option maxHeartbeats 1000000 in
theorem Va.at_pruned (h : Va B F w vb L fl) (i : Nat) (hi : i < fl) :
    Calls Tryz.prog 28 #[.pointer (some ⟨vb, 0, none⟩), .int .i64 i] w (PairErr w (.string ⟨#[]⟩) commandB i 14) := by
  have HL := Lib.hid h.len_calls
  have HF := Lib.hid h.floor_calls
  have hfl := h.floor_le
  obtain ⟨n, hn⟩ : ∃ n, n = L.length := ⟨_, rfl⟩
  rw [← hn] at HL hfl
  have h1 : ¬ (i : Int) < 0 := by omega
  have h2 : ¬ (i : Int) ≥ (n : Int) := by omega
  have h3 : (i : Int) < (fl : Int) := by omega
  clear hn h hi hfl
  go_enter Tryz.func28, Tryz.ntmps28
  go_wp2_with fail
  refine HL.out.mono ?_
  rintro en w1 ⟨rfl, rfl⟩
  go_wp2_with fail
  refine HF.out.mono ?_
  rintro en w1 ⟨rfl, rfl⟩
  go_wp2_with fail
  refine (flt.in_calls [] 14 commandB i _ (by decide)).mono ?_
  rintro en w2 ⟨rfl, rfl⟩
  go_wp2_with fail
  go_ret2
  exact ⟨_, rfl, Nat.le_refl _, ⟨⟨made_at _ _ rfl, by simp⟩, trivial⟩, (Below.refl _ _).alloc (Nat.le_refl _) _⟩
end
end Go.Proofs.YtdoadmkaoboncaaGreatDoor.prn
end

section
/- prune: Keep. -/
namespace Go.Proofs.YtdoadmkaoboncaaGreatDoor.prn
open Go Go.RowKit Go.Proofs.YtdoadmkaoboncaaGreatDoor.dig

def floorB : ByteArray := ⟨#[102, 108, 111, 111, 114]⟩

theorem zeroC_str (k : Nat) : zeroC (Value.string ByteArray.empty).cells k = List.replicate k (Value.string ByteArray.empty) := by
  have : (Value.string ByteArray.empty).cells = #[Value.string ByteArray.empty] := rfl
  rw [this]
  unfold zeroC Builtin.zeroCells
  refine List.ext_getElem (by simp) fun i h1 h2 => ?_
  simp [Nat.mod_one]

/-- What is kept, when more is blank. -/
theorem keptC_clear {L : List ByteArray} {fl first p : Nat} (h1 : first ≤ fl) (h2 : fl ≤ p) :
    (keptC L fl first).take ((fl - first) * 1) ++ zeroC (Value.string ByteArray.empty).cells (p - fl) ++ (keptC L fl first).drop ((fl - first + (p - fl)) * 1) = keptC L p first := by
  rw [zeroC_str, Nat.mul_one, Nat.mul_one]
  unfold keptC
  rw [List.take_append_of_le_length (by rw [List.length_replicate]; exact Nat.le_refl _), List.take_of_length_le (by rw [List.length_replicate]; exact Nat.le_refl _), List.replicate_append_replicate,
    List.drop_append, List.drop_of_length_le (by rw [List.length_replicate]; omega), List.nil_append, List.length_replicate, ← List.map_drop, List.drop_drop]
  congr 2
  · omega
  · congr 1; omega

/-- clear(s[u:v]). -/
theorem clear_mid {w : World} {g off m cc : Nat} {xs : List Value} (h : Seg w 9 1 (.slice (some ⟨g, off, none⟩) m cc) m xs) (u v : Nat) (huv : u ≤ v) (hvm : v ≤ m) :
    ∃ q W2, (if cc = u then (some ⟨g, off, none⟩ : Option Addr) else some ⟨g, off + u, none⟩) = q ∧ (Builtin.clear_ #[22] 0 #[.slice q (v - u) (cc - u)]).run Tryz.prog w = .ok (.tuple #[]) W2 ∧
      Seg W2 9 1 (.slice (some ⟨g, off, none⟩) m cc) m (xs.take (u * 1) ++ zeroC (Value.string ByteArray.empty).cells (v - u) ++ xs.drop ((u + (v - u)) * 1)) ∧ w.grownBy W2 (some g) := by
  obtain ⟨a, c', e, hc1, hc2⟩ := h.slice
  simp only [Value.slice.injEq] at e
  obtain ⟨_, _, rfl⟩ := e
  have hzv : ∀ w, (zeroValue 9).run Tryz.prog w = .ok (.string ByteArray.empty) w := fun _ => by kernel_rfl
  have hone : ∀ x ∈ (Value.string ByteArray.empty).cells, x.oneCell' = true := fun x hx => by
    have e : x = Value.string ByteArray.empty := by simpa [Value.cells] using hx
    rw [e]; rfl
  by_cases hc : cc = u
  · have e1 : v - u = 0 := by omega
    obtain ⟨W2, hr, s2, t2⟩ := run_clear_seg (P := Tryz.prog) w 22 0 9 (.string ByteArray.empty) 1 Tryz.underlying22 hzv (by kernel_rfl) hone g off m cc xs h 0 0 (cc - u) (by omega)
    rw [if_pos hc, e1]
    refine ⟨_, W2, rfl, by simpa using hr, ?_, t2⟩
    have e2 : xs.take (u * 1) ++ zeroC (Value.string ByteArray.empty).cells 0 ++ xs.drop ((u + 0) * 1) = xs.take (0 * 1) ++ zeroC (Value.string ByteArray.empty).cells 0 ++ xs.drop ((0 + 0) * 1) := by
      rw [show zeroC (Value.string ByteArray.empty).cells 0 = [] from List.eq_nil_of_length_eq_zero (by rw [zeroC_len, Nat.zero_mul]), List.append_nil, List.append_nil, Nat.add_zero, List.take_append_drop, List.take_append_drop]
    rw [e2]
    exact s2
  · obtain ⟨W2, hr, s2, t2⟩ := run_clear_seg (P := Tryz.prog) w 22 0 9 (.string ByteArray.empty) 1 Tryz.underlying22 hzv (by kernel_rfl) hone g off m cc xs h u (v - u) (cc - u) (by omega)
    rw [if_neg hc]
    refine ⟨_, W2, rfl, by simpa using hr, s2, t2⟩
/-- s[k:], as the walk tells it. -/
theorem rest_mid {w : World} {g off m cc : Nat} {xs : List Value} (h : Seg w 9 1 (.slice (some ⟨g, off, none⟩) m cc) m xs) (k : Nat) (hk : k ≤ m) :
    ∃ q, (if cc = k then (some ⟨g, off, none⟩ : Option Addr) else some ⟨g, off + k, none⟩) = q ∧ Seg w 9 1 (.slice q (m - k) (cc - k)) (m - k) (xs.drop k) := by
  have h1 := Seg.rest h k hk
  rw [Nat.mul_one] at h1
  refine ⟨_, rfl, ?_⟩
  by_cases hc : cc = k
  · rw [if_pos hc] at h1 ⊢; exact h1
  · rw [if_neg hc] at h1 ⊢; exact h1

section
variable {B : Nat} {F T : Nat → Prop} {w W : World} {vb tb fl first : Nat} {L : List ByteArray} {cv : Value}

theorem Va.keep_arg (h : Va B F w vb L fl) (x : Int) (hx : x < 0 ∨ x > L.length) (hx6 : -9223372036854775808 ≤ x ∧ x ≤ 9223372036854775807) :
    Calls Tryz.prog 25 #[.pointer (some ⟨vb, 0, none⟩), .int .i64 x] w (OneErr w floorB x 4) := by
  have HF := Lib.hid h.floor_calls
  obtain ⟨T, tb, first, cv, r⟩ := h.raw
  have e0 := r.own.cell 0
  simp at e0
  have HT := Lib.hid (r.tree.forget_arg x hx hx6)
  clear h r hx hx6
  go_enter Tryz.func25, Tryz.ntmps25
  go_wp2_with fail
  refine HF.out.mono ?_
  rintro en w1 ⟨rfl, rfl⟩
  go_wp2_with fail
  refine HT.out.mono ?_
  rintro en w1 ⟨rfl, rfl⟩
  go_wp2_with fail
  refine (flt.in_calls [] 4 floorB x _ (by decide)).mono ?_
  rintro en w2 ⟨rfl, rfl⟩
  go_wp2_with fail
  go_ret
  exact ⟨_, rfl, Nat.le_refl _, ⟨⟨made_at _ _ rfl, by simp⟩, trivial⟩, (Below.refl _ _).alloc (Nat.le_refl _) _⟩

theorem Va.keep_low (h : Va B F w vb L fl) (p : Nat) (hp : p < fl) :
    Calls Tryz.prog 25 #[.pointer (some ⟨vb, 0, none⟩), .int .i64 p] w (OneErr w floorB p 14) := by
  have HF := Lib.hid h.floor_calls
  obtain ⟨T, tb, first, cv, r⟩ := h.raw
  have e0 := r.own.cell 0
  simp at e0
  have HT := Lib.hid (r.tree.forget_low p hp)
  clear h r hp
  go_enter Tryz.func25, Tryz.ntmps25
  go_wp2_with fail
  refine HF.out.mono ?_
  rintro en w1 ⟨rfl, rfl⟩
  go_wp2_with fail
  refine HT.out.mono ?_
  rintro en w1 ⟨rfl, rfl⟩
  go_wp2_with fail
  refine (flt.in_calls [] 14 floorB p _ (by decide)).mono ?_
  rintro en w2 ⟨rfl, rfl⟩
  go_wp2_with fail
  go_ret
  exact ⟨_, rfl, Nat.le_refl _, ⟨⟨made_at _ _ rfl, by simp⟩, trivial⟩, (Below.refl _ _).alloc (Nat.le_refl _) _⟩

/-- What Keep comes to. -/
def KeepPost (B : Nat) (F : Nat → Prop) (w : World) (vb : Nat) (L : List ByteArray) (p : Nat) (en : Ending) (w' : World) : Prop :=
  en = .returned .nilIface ∧ Va B (fun k => F k ∨ w.heap.size ≤ k) w' vb L p ∧ Turn F w w'

set_option maxRecDepth 100000 in
set_option maxHeartbeats 2000000 in
theorem Va.keep (h : Va B F w vb L fl) (p : Nat) (hp : fl ≤ p) (hn : p ≤ L.length) :
    Calls Tryz.prog 25 #[.pointer (some ⟨vb, 0, none⟩), .int .i64 p] w (KeepPost B F w vb L p) := by
  have HF := Lib.hid h.floor_calls
  have hsm := h.small
  have H := Lib.hid h
  obtain ⟨T, tb, first, cv, r⟩ := h.raw
  have e0 := r.own.cell 0
  simp at e0
  have hff := r.first
  have HT := Lib.hid (r.tree.forget p hp hn)
  have HR := Lib.hid r
  have HN := Lib.hid (show _ ∧ _ ∧ _ ∧ _ from ⟨hp, hn, hsm, hff⟩)
  clear h r
  obtain ⟨u, hu⟩ : ∃ u, u = fl - first := ⟨_, rfl⟩
  obtain ⟨v, hv⟩ : ∃ v, v = p - first := ⟨_, rfl⟩
  obtain ⟨m, hm⟩ : ∃ m, m = L.length - first := ⟨_, rfl⟩
  have h3 : (fl : Int) - (first : Int) = (u : Int) := by omega
  have h4 : (p : Int) - (first : Int) = (v : Int) := by omega
  have h5 : (u : Int) ≤ (v : Int) := by omega
  have h6 : (v : Int) ≤ (m : Int) := by omega
  have h8 : (m : Int) ≤ 1000000 := by omega
  have HU := Lib.hid (show _ ∧ _ ∧ _ from ⟨hu, hv, hm⟩)
  clear hp hn hsm hff hu hv hm
  go_enter Tryz.func25, Tryz.ntmps25
  go_wp2_with fail
  refine HF.out.mono ?_
  rintro en w1 ⟨rfl, rfl⟩
  go_wp2_with fail
  refine HT.out.mono ?_
  rintro en w1 ⟨rfl, t1, u1⟩
  have own1 := HR.out.own.turn u1 HR.out.fv.2
  have seg1 := HR.out.seg.turn u1 (fun x hx => (HR.out.fc x hx).2)
  rw [← HU.out.2.2] at seg1
  obtain ⟨ca, cc, hcv, hc1, hc2⟩ := seg1.slice
  subst hcv
  have e1 := own1.cell 1
  have e2 := own1.cell 2
  simp at e1 e2
  have hzv : ∀ w, (zeroValue 9).run Tryz.prog w = .ok (.string ByteArray.empty) w := fun _ => by kernel_rfl
  have h9 : (cc : Int) ≤ 9223372036854775807 := by unfold maxLen at hc2; omega
  have h10 : (m : Int) ≤ (cc : Int) := by omega
  have T1 := Lib.hid (show _ ∧ _ ∧ _ ∧ _ from ⟨t1, u1, own1, seg1⟩)
  have HZ := Lib.hid hzv
  clear t1 u1 own1 seg1 hzv HT HF e0 hc1 hc2
  go_wp2_with fail
  obtain ⟨V, hV⟩ : ∃ V, V = w1.drew := ⟨_, rfl⟩
  rcases T1.out.2.2.2.form with ⟨hcv, hm0, _⟩ | ⟨g, off, c', hcv⟩
  · simp only [Value.slice.injEq] at hcv
    obtain ⟨rfl, rfl, rfl⟩ := hcv
    obtain rfl : v = 0 := by omega
    obtain rfl : u = 0 := by omega
    have w0 : IntKind.i64.wrap 0 = 0 := by decide
    refine still_tail_at V hV 11 (by kernel_rfl) (by kernel_rfl) ?_
    have d1 : V.cell? ⟨vb, 1, none⟩ = some (.int .i64 first) := by rw [hV]; exact e1
    have d2 : V.cell? ⟨vb, 2, none⟩ = some (.slice none 0 0) := by rw [hV]; exact e2
    have hr : (Builtin.clear_ #[22] 0 #[.slice none 0 0]).run Tryz.prog V = .ok (.tuple #[]) V := by simp [Builtin.clear_, run_underlying Tryz.underlying22]
    have HV := Lib.hid hV
    clear hV e1 e2
    simp only [List.take_succ_cons, List.take_zero, List.drop_succ_cons, List.drop_zero]
    repeat still_step
    refine wpStill_nil ?_
    have M0 : Hid (Vr B F T w vb tb fl first L (.slice none 0 0) ∧ Turn T w V ∧ Has V vb 87 #[.pointer (some ⟨tb, 0, none⟩), .int .i64 first, .slice none 0 0] ∧ Tr B (fun k => T k ∨ w.heap.size ≤ k) V tb L.length p (leafF L)) := by
      rw [HV.out]
      exact Lib.hid ⟨HR.out, T1.out.2.1.drew, T1.out.2.2.1.drew, T1.out.1.drew⟩
    clear hm0
    go_wp2_with fail
    go_ret
    have r := M0.out.1
    have hl := r.own.lt
    refine ⟨rfl, ⟨⟨fun k => (T k ∨ w.heap.size ≤ k) ∧ k < V.heap.size ∧ k ≠ vb, tb, first, .slice none 0 0, M0.out.2.2.1, ?_, ?_, Nat.le_trans r.first HN.out.1, ⟨.inl r.fv.1, fun e => e.2.2 rfl⟩, fun k hk => hk.1.imp (r.ft k) id, fun x hx => by cases hx⟩, fun k hk => ?_, H.out.short⟩, M0.out.2.1.more (fun j _ h1 => r.ft j h1)⟩
    · refine M0.out.2.2.2.more (fun k h1 h2 => ⟨h2, h1, fun e => ?_⟩) (fun k hk => ?_)
      · subst e
        rcases h2 with h2 | h2
        · exact r.fv.2 h2
        · omega
      · rcases hk.1 with h1 | h1
        · exact H.out.hF k (r.ft k h1)
        · have := H.out.rt.size; omega
    · have e1 : L.length - first = 0 := HU.out.2.2.symm
      have e2 : keptC L p first = [] := List.eq_nil_of_length_eq_zero (by rw [keptC_len (Nat.le_trans r.first HN.out.1) HN.out.2.1, e1])
      rw [e1, e2]
      exact Seg.nil _ _ _
    · rcases hk with h1 | h1
      · exact H.out.hF k h1
      · have := H.out.rt.size; omega
  · simp only [Value.slice.injEq] at hcv
    obtain ⟨rfl, _, rfl⟩ := hcv
    have w1' : IntKind.i64.wrap (u : Int) = (u : Int) := IntWalk.i64_in _ ⟨by omega, by omega⟩
    have w2' : IntKind.i64.wrap (v : Int) = (v : Int) := IntWalk.i64_in _ ⟨by omega, by omega⟩
    have h11 : (v : Int) ≤ (cc : Int) := by omega
    have w3' : max (v : Int) 0 = (v : Int) := by omega
    refine still_tail_at V hV 12 (by kernel_rfl) (by kernel_rfl) ?_
    have d1 : V.cell? ⟨vb, 1, none⟩ = some (.int .i64 first) := by rw [hV]; exact e1
    have d2 : V.cell? ⟨vb, 2, none⟩ = some (.slice (some ⟨g, off, none⟩) m cc) := by rw [hV]; exact e2
    have M0 : Hid (Turn T w V ∧ Has V vb 87 #[.pointer (some ⟨tb, 0, none⟩), .int .i64 first, .slice (some ⟨g, off, none⟩) m cc] ∧ Tr B (fun k => T k ∨ w.heap.size ≤ k) V tb L.length p (leafF L) ∧ Seg V 9 1 (.slice (some ⟨g, off, none⟩) m cc) m (keptC L fl first)) := by
      rw [hV]
      exact Lib.hid ⟨T1.out.2.1.drew, T1.out.2.2.1.drew, T1.out.1.drew, T1.out.2.2.2.drew⟩
    obtain ⟨q, W2, hq, hr, s2, g2⟩ := clear_mid M0.out.2.2.2 u v (by omega) (by omega)
    rw [show v - u = p - fl by have := HU.out; have := HN.out; omega] at s2
    rw [show u = fl - first from HU.out.1, keptC_clear HN.out.2.2.2 HN.out.1] at s2
    have hne : g ≠ vb := fun e => T1.out.2.2.2.ne T1.out.2.2.1 (by decide) (by rw [e]; rfl)
    have own2 := M0.out.2.1.grown g2 (fun e => hne (by injection e with e; exact e.symm))
    have U2 : Turn (fun k => k = g ∨ k = vb) V W2 := (Turn.refl _ V).grown g2 (fun j hj _ => .inl (by injection hj with hj; exact hj.symm))
    have k2 := own2.cell 2
    simp at k2
    have M2 := Lib.hid (show _ ∧ _ ∧ _ from ⟨own2, U2, s2⟩)
    clear hV e1 e2 own2 U2 s2 g2
    simp only [List.take_succ_cons, List.take_zero, List.drop_succ_cons, List.drop_zero]
    repeat still_step
    refine wpStill_nil ?_
    clear hq d1 d2
    have r := HR.out
    have hl := r.own.lt
    have hT' : Tr B (fun k => (T k ∨ w.heap.size ≤ k) ∧ k < V.heap.size ∧ k ≠ vb ∧ k ≠ g) W2 tb L.length p (leafF L) :=
      (M0.out.2.2.1.more (G := fun k => (T k ∨ w.heap.size ≤ k) ∧ k < V.heap.size ∧ k ≠ vb ∧ k ≠ g) (fun k h1 h2 => ⟨h2, h1, fun e => by
        subst e
        rcases h2 with h2 | h2
        · exact r.fv.2 h2
        · omega, fun e => by
        subst e
        rcases h2 with h2 | h2
        · exact (r.fc k rfl).2 h2
        · have := r.seg.lt (b := k) rfl; omega⟩) (fun k hk => by
        rcases hk.1 with h1 | h1
        · exact H.out.hF k (r.ft k h1)
        · have := H.out.rt.size; omega)).turn M2.out.2.1 (fun k hk _ e => by
        rcases e with e | e
        · exact hk.2.2.2 e
        · exact hk.2.2.1 e) (fun k e => by
        rcases e with rfl | rfl
        · exact H.out.hF _ (r.fc _ rfl).1
        · exact H.out.hF _ r.fv.1)
    have hfF : ∀ k, (F k ∨ w.heap.size ≤ k) → B ≤ k := fun k hk => by
      rcases hk with h1 | h1
      · exact H.out.hF k h1
      · have := H.out.rt.size; omega
    have tw : Turn F w W2 := (M0.out.1.more (fun j _ h1 => r.ft j h1)).trans M2.out.2.1 (fun j _ e => by
        rcases e with rfl | rfl
        · exact (r.fc _ rfl).1
        · exact r.fv.1)
    have HX := Lib.hid (show _ ∧ _ ∧ _ from ⟨hT', hfF, tw⟩)
    clear hT' hfF tw r hl
    by_cases hgt : (v : Int) > (m : Int) - (v : Int)
    · obtain ⟨q2, hq2, s3⟩ := rest_mid M2.out.2.2 v (by omega)
      rw [show v = p - first from HU.out.2.1, keptC_drop] at s3
      rw [← show v = p - first from HU.out.2.1] at s3
      have HC := Lib.hid (copied_calls _ _ _ W2 s3 keptC_one (by omega))
      clear s3
      go_wp2_with fail
      refine HC.out.mono ?_
      rintro en w3 ⟨y, rfl, s3, o3, b3⟩
      obtain ⟨ya, yc, rfl, _, _⟩ := s3.slice
      have own3 := M2.out.1.below b3 M2.out.1.lt
      have f1 := own3.cell 1
      have f2 := own3.cell 2
      have f3 := own3.free 1
      have f4 := own3.free 2
      simp at f1 f2
      have M3 := Lib.hid (show _ ∧ _ ∧ _ ∧ _ from ⟨own3, s3, o3, b3⟩)
      have f5 : (w3.setCell ⟨vb, 2, none⟩ (.slice ya (m - v) yc)).cell? ⟨vb, 1, none⟩ = some (.int .i64 first) := by
        have := (own3.put 2 (.slice ya (m - v) yc)).cell 1
        simpa using this
      have f6 : (w3.setCell ⟨vb, 2, none⟩ (.slice ya (m - v) yc)).frozen? ⟨vb, 1, none⟩ = false := (own3.put 2 (.slice ya (m - v) yc)).free 1
      clear own3 s3 o3 b3 hq2 k2 HC hr
      go_wp2_with fail
      go_ret
      have own5 := (M3.out.1.put 2 (.slice ya (m - v) yc)).put 1 (.int .i64 p)
      have hl2 := M2.out.1.lt
      have U5 : Turn (fun k => k = vb ∨ W2.heap.size ≤ k) W2 ((w3.setCell ⟨vb, 2, none⟩ (.slice ya (m - v) yc)).setCell ⟨vb, 1, none⟩ (.int .i64 p)) :=
        ((Turn.of_below (F := fun k => k = vb ∨ W2.heap.size ≤ k) M3.out.2.2.2 (fun _ _ h => .inr h)).put (fun _ => .inl rfl) 2 _).put (fun _ => .inl rfl) 1 _
      have hvs := HX.out.1.rt.size
      have hyv : (Value.slice ya (m - v) yc).ownBlock ≠ some vb := fun e => by have := M3.out.2.2.1 vb e; omega
      refine ⟨rfl, ⟨⟨fun k => ((T k ∨ w.heap.size ≤ k) ∧ k < V.heap.size ∧ k ≠ vb ∧ k ≠ g) ∧ k < W2.heap.size, tb, p, .slice ya (m - v) yc, by simpa using own5, ?_, ?_, Nat.le_refl _, ⟨.inl HR.out.fv.1, fun e => e.1.2.2.1 rfl⟩, fun k hk => hk.1.1.imp (HR.out.ft k) id, fun x hx => ?_⟩, HX.out.2.1, H.out.short⟩, ?_⟩
      · refine (HX.out.1.more (fun k h1 h2 => ⟨h2, h1⟩) (fun k hk => HX.out.1.hF k hk.1)).turn U5 (fun k hk _ e => ?_) (fun k e => ?_)
        · rcases e with rfl | e
          · exact hk.1.2.2.1 rfl
          · have := hk.2; omega
        · rcases e with rfl | e
          · exact H.out.hF _ HR.out.fv.1
          · omega
      · rw [show m - v = L.length - p by have := HU.out; have := HN.out; omega] at hyv ⊢
        have s3 := M3.out.2.1
        rw [show m - v = L.length - p by have := HU.out; have := HN.out; omega] at s3
        exact Seg.far (Seg.far s3 hyv _) hyv _
      · have := M3.out.2.2.1 x hx
        have h1 := HX.out.2.2.size
        exact ⟨.inr (by omega), fun e => by have := e.2; omega⟩
      · exact HX.out.2.2.trans U5 (fun j h1 e => by
          rcases e with rfl | e
          · exact HR.out.fv.1
          · have := HX.out.2.2.size; omega)
    · go_wp2_with fail
      go_ret
      refine ⟨rfl, ⟨⟨_, tb, first, .slice (some ⟨g, off, none⟩) m cc, M2.out.1, HX.out.1, ?_, Nat.le_trans HN.out.2.2.2 HN.out.1, ⟨.inl HR.out.fv.1, fun e => e.2.2.1 rfl⟩, fun k hk => hk.1.imp (HR.out.ft k) id, fun x hx => ?_⟩, HX.out.2.1, H.out.short⟩, HX.out.2.2⟩
      · rw [← HU.out.2.2]; exact M2.out.2.2
      · have e : g = x := by injection hx
        subst e
        exact ⟨.inl (HR.out.fc g rfl).1, fun e => e.2.2.2 rfl⟩
end
end Go.Proofs.YtdoadmkaoboncaaGreatDoor.prn
end

section
/- proof: heads as values: their cells, built, loaded, stored. -/
namespace Go.Proofs.YtdoadmkaoboncaaGreatDoor.prf
open Go Go.RowKit Go.Proofs.YtdoadmkaoboncaaGreatDoor.dig

/-- A proof's cells. -/
abbrev prC (K I N : Int) (v : Value) : Array Value := #[.int .i64 K, .int .i64 I, .int .i64 N, v]
/-- A head's cells. -/
def headC (n : Int) (o : List UInt8) : Array Value := (Value.int .i64 n :: o.map byteV).toArray
theorem headC_size (n : Int) (o : List UInt8) : (headC n o).size = o.length + 1 := by simp [headC]
theorem Has.num {w : World} {g : Nat} {n : Int} {o : List UInt8} (h : Has w g 41 (headC n o)) : w.cell? ⟨g, 0, none⟩ = some (.int .i64 n) := by rw [h.cell]; rfl
theorem Has.root {w : World} {g : Nat} {n : Int} {o : List UInt8} (h : Has w g 41 (headC n o)) : w.rangeAt g 1 (o.map byteV) := fun j u hj => by
  rw [h.cell]
  have : (headC n o)[1 + j]? = (o.map byteV)[j]? := by simp [headC, Nat.add_comm]
  rw [this, hj]
theorem Has.load_root {w : World} {g : Nat} {n : Int} {o : List UInt8} (h : Has w g 41 (headC n o)) (ho : o.length = 32) : (Instr.loadAt 38 (.pointer (some ⟨g, 1, none⟩))).run Tryz.prog w = .ok (.agg (cellsOf o)) w :=
  run_loadAt_mid w g 1 38 (o.map byteV) _ (Has.root h) Tryz.underlying38 rfl (by rw [List.length_map, ho]; kernel_rfl)

theorem list32 (xs : List UInt8) (h : xs.length = 32) : xs = (List.range 32).map (fun i => xs.getD i 0) := by
  apply List.ext_getElem?
  intro i
  by_cases hi : i < 32
  · rw [List.getElem?_map, List.getElem?_range hi, List.getElem?_eq_getElem (by omega)]
    simp [List.getD_eq_getElem?_getD, List.getElem?_eq_getElem (show i < xs.length by omega)]
  · rw [List.getElem?_eq_none (by omega), List.getElem?_eq_none (by simp; omega)]
theorem built_head (n : Int) (xs : List UInt8) (h : xs.length = 32) : Tryz.prog.built 41 [(0, .int .i64 n), (1, .agg (cellsOf xs))] = some (headC n xs) := by
  rw [list32 xs h]
  generalize (fun i => xs.getD i 0) = f
  kernel_rfl
theorem run_head (n : Int) (xs : List UInt8) (h : xs.length = 32) (w : World) : (Instr.build 41 #[(0, .int .i64 n), (1, .agg (cellsOf xs))]).run Tryz.prog w = .ok (.agg (headC n xs)) w :=
  run_build w 41 _ _ (built_head n xs h)
theorem headC_all (n : Int) (xs : List UInt8) : (headC n xs).all (·.oneCell') = true := by
  rw [Array.all_eq_true_iff_forall_mem]
  intro v hv
  simp only [headC, List.mem_toArray, List.mem_cons, List.mem_map] at hv
  rcases hv with rfl | ⟨c, _, rfl⟩ <;> rfl
/-- A whole head is stored. -/
theorem wpList_store_head {ops : Array Oper} {rest : List Oper} {o : Oper} {a : Act} {w : World} {Q : Exit → Act → World → Prop} (hgd : o.guard = none) (x y : Operand) (ho : o.op = .store 41 x y) (g : Nat) (n m : Int) (xs old : List UInt8) (hx : a.eval x = .pointer (some ⟨g, 0, none⟩)) (hy : a.eval y = .agg (headC n xs))
    (hg : Has w g 41 (headC m old)) (hl : xs.length = 32) (hl2 : old.length = 32) (h : ∀ w', Has w' g 41 (headC n xs) → Turn (fun k => k = g) w w' → wpList Tryz.prog ops Q rest (a.put o.dst undef) w') : wpList Tryz.prog ops Q (o :: rest) a w :=
  wpList_store_row hgd 41 x y ho g (headC n xs) hx hy 41 (headC m old) hg (by rw [headC_size, hl]; kernel_rfl) (by rw [headC_size, headC_size, hl, hl2]) (headC_all n xs) (h _ (hg.row _) (turn_row _ _ _))
theorem exec_head {ev : Operand → Value} {o : Oper} {w : World} (x y : Operand) (ho : o.op = .build 41 #[(0, x), (1, y)]) (n : Int) (xs : List UInt8) (hx : ev x = .int .i64 n) (hy : ev y = .agg (cellsOf xs)) (hl : xs.length = 32) :
    (execOp ev o).run Tryz.prog w = .ok (.value (.agg (headC n xs))) w := by
  have hr := run_head n xs hl w
  have he : (#[(0, x), (1, y)] : Array (Nat × Operand)).map (fun (i, x) => (i, ev x)) = #[(0, Value.int .i64 n), (1, Value.agg (cellsOf xs))] := by simp [hx, hy]
  unfold execOp
  simp only [ho, he, Sem.run_bind, hr, Result.andThen_ok, Sem.run_pure]
theorem wpList_head {ops : Array Oper} {rest : List Oper} {o : Oper} {a : Act} {w : World} {Q : Exit → Act → World → Prop} (hgd : o.guard = none) (x y : Operand) (ho : o.op = .build 41 #[(0, x), (1, y)]) (n : Int) (xs : List UInt8) (hx : a.eval x = .int .i64 n) (hy : a.eval y = .agg (cellsOf xs)) (hl : xs.length = 32)
    (h : wpList Tryz.prog ops Q rest (a.put o.dst (.agg (headC n xs))) w) : wpList Tryz.prog ops Q (o :: rest) a w :=
  wpList_plain hgd fun K hK => by
    unfold Oper.wp
    rw [exec_head x y ho n xs hx hy hl]
    exact hK _ _ h

theorem Has.load_hd {w : World} {g : Nat} {n : Int} {o : List UInt8} (h : Has w g 41 (headC n o)) (ho : o.length = 32) : (Instr.loadAt 41 (.pointer (some ⟨g, 0, none⟩))).run Tryz.prog w = .ok (.agg (headC n o)) w :=
  run_loadAt_mid w g 0 41 (Value.int .i64 n :: o.map byteV) _ (Has.range h) Tryz.underlying41 rfl (by rw [List.length_cons, List.length_map, ho]; kernel_rfl)
/-- An operation under a guard that holds. -/
theorem wpList_if {P : Program} {ops : Array Oper} {rest : List Oper} {o : Oper} {a : Act} {w : World} {Q : Exit → Act → World → Prop} (hw : Region.wanted o (yielded ops a.tmps) = true) (h : o.wp P a w (fun a' w' => wpList P ops Q rest a' w') Q) : wpList P ops Q (o :: rest) a w := by
  unfold wpList
  rw [if_pos hw]
  exact .inl h
end Go.Proofs.YtdoadmkaoboncaaGreatDoor.prf
end

section
/- prune: Head, answer, Leaf. -/
namespace Go.Proofs.YtdoadmkaoboncaaGreatDoor.prn
open Go Go.RowKit Go.Proofs.YtdoadmkaoboncaaGreatDoor.dig Go.Proofs.YtdoadmkaoboncaaGreatDoor.prf

def headNm : ByteArray := ⟨#[104, 101, 97, 100]⟩
def leafNm : ByteArray := ⟨#[108, 101, 97, 102]⟩

section
variable {B : Nat} {F : Nat → Prop} {w : World} {vb fl : Nat} {L : List ByteArray}

set_option maxRecDepth 100000 in
set_option maxHeartbeats 2000000 in
theorem Va.head (h : Va B F w vb L fl) (hN : L.length < 1024) (n : Nat) (hf : fl ≤ n) (hn : n ≤ L.length) :
    Calls Tryz.prog 15 #[.pointer (some ⟨vb, 0, none⟩), .int .i64 n] w fun en w' => en = .returned (.tuple #[.agg (headC n (rtAll (leafF L) n)), .nilIface]) ∧ Below w.heap.size w w' := by
  obtain ⟨T, tb, first, cv, r⟩ := h.raw
  have e0 : ∀ O, (w.alloc O).cell? ⟨vb, 0, none⟩ = some (.pointer (some ⟨tb, 0, none⟩)) := fun O => by
    have := (r.own.alloc O).cell 0
    simpa using this
  have HT := Lib.hid r.tree
  have hL := rtAll_len (leafF_len L) n
  obtain ⟨R, hR⟩ : ∃ R, R = rtAll (leafF L) n := ⟨_, rfl⟩
  rw [← hR] at hL ⊢
  have HL := Lib.hid hL
  have HR := Lib.hid hR
  clear hL hR
  have HN := Lib.hid (show _ ∧ _ ∧ _ from ⟨hN, hf, hn⟩)
  clear h r hN hf hn
  go_enter Tryz.func15, Tryz.ntmps15
  go_wp2_with fail
  refine callsName (fun W hW => ?_)
  have B0 : Hid (Below w.heap.size w W) := by rw [← hW]; exact Lib.hid ((Below.refl _ _).alloc (Nat.le_refl _) _)
  have Z0 : Hid (Has W w.heap.size 41 (headC 0 (List.replicate 32 0))) := by rw [← hW]; exact Lib.hid (made_at _ _ rfl)
  clear hW e0
  refine ((HT.out.below B0.out).root HN.out.1 n HN.out.2.2 HN.out.2.1).mono ?_
  rw [← HR.out]
  rintro en w1 ⟨rfl, b1⟩
  have S1 : Hid (Has w1 w.heap.size 41 (headC 0 (List.replicate 32 0)) ∧ Below w.heap.size w w1) := Lib.hid ⟨Z0.out.below b1 Z0.out.lt, B0.out.trans (b1.mono B0.out.size)⟩
  clear b1 Z0 B0
  have HRC : Hid ((cellsOf R).size = 32) := Lib.hid (by rw [cellsOf_size, HL.out])
  go_wp2_with (first
    | ((with_reducible refine at_store (.tmp 6) ?_); refine wpList_store_cells (o := ⟨none, _, _, _, _, _⟩) rfl 38 (.tmp 6) (.tmp 15) rfl w1.heap.size (cellsOf R) _ rfl rfl _ (made_at _ _ rfl) (HRC.out.symm ▸ (by kernel_rfl)) (HRC.out.symm ▸ rfl) (cellsOf_one _) ?_; intro W8 HW8 TW8;
       (have S2 : Hid (Has W8 w.heap.size 41 (headC 0 (List.replicate 32 0)) ∧ Below w.heap.size w W8 ∧ Has W8 w1.heap.size 38 (cellsOf R)) := (by
         have bb : Below w1.heap.size w1 W8 := ((Below.refl _ _).alloc (Nat.le_refl _) _).trans (TW8.below (by simp) (fun j hj e => by omega))
         exact Lib.hid ⟨S1.out.1.below bb S1.out.1.lt, S1.out.2.trans (bb.mono S1.out.2.size), HW8⟩));
       clear S1 HW8 TW8)
    | ((with_reducible refine at_op 25 ?_); refine wpList_load_row (o := ⟨some 25, _, _, _, _, _⟩) rfl 38 _ rfl w1.heap.size rfl 38 (cellsOf R) (0, 0) _ S2.out.2.2 Tryz.underlying38 rfl (by rw [HRC.out]; kernel_rfl) ?_)
    | ((with_reducible refine at_op 26 ?_); refine wpList_head (o := ⟨some 26, _, _, _, _, _⟩) rfl (.tmp 24) (.tmp 25) rfl n R rfl rfl HL.out ?_)
    | ((with_reducible refine at_store (.tmp 4) ?_); refine wpList_store_head (o := ⟨none, _, _, _, _, _⟩) rfl (.tmp 4) (.tmp 26) rfl w.heap.size n 0 R (List.replicate 32 0) rfl rfl S2.out.1 HL.out (by simp) ?_; intro W9 HW9 TW9)
    | fail)
  exact bodyPost_ret (v := .tuple #[.agg (headC n R), .nilIface]) (results_cell_tmp rfl _ _ w.heap.size 41 _ _ _ rfl HW9 Tryz.underlying41 rfl (by rw [headC_size, HL.out]; kernel_rfl) _ rfl) rfl ⟨rfl, S2.out.2.1.trans (TW9.below S2.out.2.1.size (fun j hj e => by omega))⟩

set_option maxRecDepth 100000 in
set_option maxHeartbeats 1000000 in
theorem answer_ok (s : ByteArray) (K I N : Int) (a : Option Addr) (n c : Nat) (w : World) :
    Calls Tryz.prog 39 #[.string s, .agg (prC K I N (.slice a n c)), .int .i64 0] w fun en w' => en = .returned (.tuple #[.agg (prC K I N (.slice a n c)), .nilIface]) ∧ Below w.heap.size w w' := by
  go_enter Tryz.func39, Tryz.ntmps39
  go_wp2_with fail
  exact bodyPost_ret (v := .tuple #[.agg (prC K I N (.slice a n c)), .nilIface]) (results_cell_tmp rfl _ _ (w.heap.size + 1) 25 _ _ _ rfl (made_at _ _ (by simp)) Tryz.underlying25 rfl (by kernel_rfl) _ rfl) rfl
    ⟨rfl, ((Below.refl _ _).alloc (Nat.le_refl _) _).alloc (by simp) _⟩

set_option maxRecDepth 100000 in
set_option maxHeartbeats 1000000 in
theorem answer_err (s : ByteArray) (K I N : Int) (v : Value) (E : Int) (hE : E ≠ 0) (w : World) :
    Calls Tryz.prog 39 #[.string s, .agg (prC K I N v), .int .i64 E] w (PairErr w (.agg (prC 0 0 0 (.slice none 0 0))) s I E) := by
  go_enter Tryz.func39, Tryz.ntmps39
  go_wp2_with fail
  refine (flt.in_calls [] E s I _ hE).mono ?_
  rintro en w2 ⟨rfl, rfl⟩
  go_wp2_with fail
  exact bodyPost_ret (v := .tuple #[.agg (prC 0 0 0 (.slice none 0 0)), flt.ev [⟨w.heap.size + 1 + 1, s, I⟩] E]) (results_cell_tmp rfl _ _ (w.heap.size + 1) 25 _ _ _ rfl ((made_at _ _ (by simp)).alloc _) Tryz.underlying25 rfl (by kernel_rfl) _ rfl) rfl
    ⟨w.heap.size + 1 + 1, rfl, by omega, ⟨⟨made_at _ _ (by simp), by simp⟩, trivial⟩, (((Below.refl _ _).alloc (Nat.le_refl _) _).alloc (by simp) _).alloc (by simp; omega) _⟩

section
variable {B : Nat} {F : Nat → Prop} {w : World} {vb fl : Nat} {L : List ByteArray}
/-- A proof was answered, of these sums. -/
def ProofPost (w : World) (K I N : Int) (l : List (List UInt8)) (en : Ending) (w' : World) : Prop :=
  ∃ a c, en = .returned (.tuple #[.agg (prC K I N (.slice a l.length c)), .nilIface]) ∧ Seg w' 38 32 (.slice a l.length c) l.length (sumsC l) ∧ (∀ x, (Value.slice a l.length c).ownBlock = some x → w.heap.size ≤ x) ∧ Below w.heap.size w w'

set_option maxRecDepth 100000 in
set_option maxHeartbeats 2000000 in
theorem Va.leaf (h : Va B F w vb L fl) (hN : L.length < 1024) (i n : Nat) (hn : n ≤ L.length) (hi : i < n) (hf : fl ≤ i) :
    Calls Tryz.prog 23 #[.pointer (some ⟨vb, 0, none⟩), .int .i64 i, .int .i64 n] w (ProofPost w 1 i n (path (leafF L) i 0 n)) := by
  obtain ⟨T, tb, first, cv, r⟩ := h.raw
  have e0 : ∀ O, (w.alloc O).cell? ⟨vb, 0, none⟩ = some (.pointer (some ⟨tb, 0, none⟩)) := fun O => by
    have := (r.own.alloc O).cell 0
    simpa using this
  have HT := Lib.hid r.tree
  have HN := Lib.hid (show _ ∧ _ ∧ _ ∧ _ from ⟨hN, hn, hi, hf⟩)
  obtain ⟨l, hl⟩ : ∃ l, l = path (leafF L) i 0 n := ⟨_, rfl⟩
  rw [← hl]
  have HL := Lib.hid hl
  clear h r hN hf hn hi hl
  go_enter Tryz.func23, Tryz.ntmps23
  go_wp2_with fail
  refine callsName (fun W hW => ?_)
  have B0 : Hid (Below w.heap.size w W) := by rw [← hW]; exact Lib.hid ((Below.refl _ _).alloc (Nat.le_refl _) _)
  have Z0 : Hid (Has W w.heap.size 25 (prC 0 0 0 (.slice none 0 0))) := by rw [← hW]; exact Lib.hid (made_at _ _ rfl)
  clear hW e0
  refine ((HT.out.below B0.out).inclusion HN.out.1 i n HN.out.2.1 HN.out.2.2.1 HN.out.2.2.2).mono ?_
  rw [← HL.out]
  rintro en w1 ⟨v, rfl, s1, o1, b1⟩
  obtain ⟨a, c, rfl, _, _⟩ := s1.slice
  have S1 : Hid (Has w1 w.heap.size 25 (prC 0 0 0 (.slice none 0 0)) ∧ Below w.heap.size w w1 ∧ Seg w1 38 32 (.slice a l.length c) l.length (sumsC l) ∧ (∀ x, (Value.slice a l.length c).ownBlock = some x → w.heap.size ≤ x)) :=
    Lib.hid ⟨Z0.out.below b1 Z0.out.lt, B0.out.trans (b1.mono B0.out.size), s1, fun x hx => Nat.le_trans B0.out.size (o1 x hx)⟩
  clear b1 Z0 B0 s1 o1
  obtain ⟨m, hm⟩ : ∃ m, m = l.length := ⟨_, rfl⟩
  have HM := Lib.hid hm
  rw [← hm] at S1 ⊢
  clear hm
  go_wp2_with fail
  refine (answer_ok leafNm 1 i n a m c w1).mono ?_
  rintro en w2 ⟨rfl, b2⟩
  have S2 : Hid (Has w2 w.heap.size 25 (prC 0 0 0 (.slice none 0 0)) ∧ Below w.heap.size w w2 ∧ Seg w2 38 32 (.slice a m c) m (sumsC l)) := Lib.hid ⟨S1.out.1.below b2 S1.out.1.lt, S1.out.2.1.trans (b2.mono S1.out.2.1.size), S1.out.2.2.1.below b2 (fun x hx => S1.out.2.2.1.lt hx)⟩
  clear b2
  go_wp2_with (first
    | ((with_reducible refine at_store (.tmp 6) ?_); refine wpList_store_cells (o := ⟨none, _, _, _, _, _⟩) rfl 25 (.tmp 6) (.tmp 26) rfl w.heap.size (prC 1 i n (.slice a m c)) (prC 0 0 0 (.slice none 0 0)) rfl rfl _ S2.out.1 (by kernel_rfl) rfl (by simp [prC, Value.oneCell']) ?_; intro W9 HW9 TW9)
    | fail)
  have B9 := S2.out.2.1.trans (TW9.below S2.out.2.1.size (fun j hj e => by omega))
  exact bodyPost_ret (v := .tuple #[.agg (prC 1 i n (.slice a m c)), .nilIface]) (results_cell_tmp rfl _ _ w.heap.size 25 _ _ _ rfl HW9 Tryz.underlying25 rfl (by kernel_rfl) _ rfl) rfl
    ⟨a, c, by rw [← HM.out], by rw [← HM.out]; exact S2.out.2.2.turn TW9 (fun x hx e => S2.out.2.2.ne S2.out.1 (by decide) (by rw [hx, e])), by rw [← HM.out]; exact S1.out.2.2.2, B9⟩

set_option maxRecDepth 100000 in
set_option maxHeartbeats 2000000 in
theorem Va.leaf_err (h : Va B F w vb L fl) (x n : Int) (E : Int) (hE : E ≠ 0) (hc : ∀ tb V, (∃ T, Tr B T V tb L.length fl (leafF L)) → Calls Tryz.prog 49 #[.pointer (some ⟨tb, 0, none⟩), .int .i64 x, .int .i64 n] V fun en w' => en = .returned (.tuple #[.slice none 0 0, .int .i64 E]) ∧ V = w') :
    Calls Tryz.prog 23 #[.pointer (some ⟨vb, 0, none⟩), .int .i64 x, .int .i64 n] w (PairErr w (.agg (prC 0 0 0 (.slice none 0 0))) leafNm x E) := by
  obtain ⟨T, tb, first, cv, r⟩ := h.raw
  have e0 : ∀ O, (w.alloc O).cell? ⟨vb, 0, none⟩ = some (.pointer (some ⟨tb, 0, none⟩)) := fun O => by
    have := (r.own.alloc O).cell 0
    simpa using this
  have HT := Lib.hid r.tree
  have HC := Lib.hid hc
  have HE := Lib.hid hE
  clear h r hE hc
  go_enter Tryz.func23, Tryz.ntmps23
  go_wp2_with fail
  refine callsName (fun W hW => ?_)
  have B0 : Hid (Below w.heap.size w W) := by rw [← hW]; exact Lib.hid ((Below.refl _ _).alloc (Nat.le_refl _) _)
  have Z0 : Hid (Has W w.heap.size 25 (prC 0 0 0 (.slice none 0 0))) := by rw [← hW]; exact Lib.hid (made_at _ _ rfl)
  clear hW e0
  refine (HC.out tb W ⟨T, HT.out.below B0.out⟩).mono ?_
  rintro en w1 ⟨rfl, rfl⟩
  go_wp2_with fail
  refine (answer_err leafNm 1 x n (.slice none 0 0) E HE.out W).mono ?_
  rintro en w2 ⟨b, rfl, hb, her, b2⟩
  have S2 := Lib.hid (show _ ∧ _ ∧ _ ∧ _ from ⟨Z0.out.below b2 Z0.out.lt, B0.out.trans (b2.mono B0.out.size), Nat.le_trans B0.out.size hb, her⟩)
  clear b2 Z0 B0 hb her
  go_wp2_with (first
    | ((with_reducible refine at_store (.tmp 6) ?_); refine wpList_store_cells (o := ⟨none, _, _, _, _, _⟩) rfl 25 (.tmp 6) (.tmp 26) rfl w.heap.size (prC 0 0 0 (.slice none 0 0)) (prC 0 0 0 (.slice none 0 0)) rfl rfl _ S2.out.1 (by kernel_rfl) rfl (by simp [prC, Value.oneCell']) ?_; intro W9 HW9 TW9)
    | fail)
  have B9 := S2.out.2.1.trans (TW9.below S2.out.2.1.size (fun j hj e => by omega))
  exact bodyPost_ret (v := .tuple #[.agg (prC 0 0 0 (.slice none 0 0)), flt.ev [⟨b, leafNm, x⟩] E]) (results_cell_tmp rfl _ _ w.heap.size 25 _ _ _ rfl HW9 Tryz.underlying25 rfl (by kernel_rfl) _ rfl) rfl
    ⟨b, rfl, S2.out.2.2.1, by
      have he := S2.out.2.2.2
      refine ⟨⟨he.1.1.turn TW9 (fun e => ?_), by have := he.1.2; have := TW9.size; omega⟩, trivial⟩
      have e1 : b = w.heap.size := e
      have h1 := he.1.1
      rw [e1] at h1
      exact absurd (h1.uniq S2.out.1).2 (by decide), B9⟩
end
end
end Go.Proofs.YtdoadmkaoboncaaGreatDoor.prn
end

section
/- Out of PruHd: exec_load_of, exec_eql_of, built_zero, exec_zero_head. -/
namespace Go.Proofs.YtdoadmkaoboncaaGreatDoor.prn
open Go Go.RowKit Go.Proofs.YtdoadmkaoboncaaGreatDoor.dig Go.Proofs.YtdoadmkaoboncaaGreatDoor.prf

theorem exec_load_of {P : Program} {ev : Operand → Value} {o : Oper} {ty : TypeId} {x : Operand} (ho : o.op = .load ty x) {p v : Value} (hp : ev x = p) {w : World} (h : (Instr.loadAt ty p).run P w = .ok v w) : (execOp ev o).run P w = .ok (.value v) w := by
  unfold execOp
  simp only [ho, hp, Sem.run_bind, h, Result.andThen_ok, Sem.run_pure]
theorem exec_eql_of {P : Program} {ev : Operand → Value} {o : Oper} {ty ty2 : TypeId} {x y : Operand} (ho : o.op = .binOp .eql ty x y ty2) {a b v : Value} (hx : ev x = a) (hy : ev y = b) {w : World} (h : (binOp .eql ty a b).run P w = .ok v w) (hg : (eqGuard .eql ty x y a b).run P w = .ok () w) : (execOp ev o).run P w = .ok (.value v) w := by
  unfold execOp
  simp only [ho, hx, hy, Sem.run_bind, hg, h, Result.andThen_ok, Sem.run_pure]
theorem built_zero : Tryz.prog.built 41 [] = some (headC 0 (List.replicate 32 0)) := by kernel_rfl
set_option maxRecDepth 100000 in
theorem exec_zero_head {ev : Operand → Value} {o : Oper} {w : World} (ho : o.op = .build 41 #[]) : (execOp ev o).run Tryz.prog w = .ok (.value (.agg (headC 0 (List.replicate 32 0)))) w := by
  have hr := run_build (P := Tryz.prog) w 41 #[] _ built_zero
  unfold execOp
  simp only [ho, Sem.run_bind, Sem.run_pure]
  simp [hr]
end Go.Proofs.YtdoadmkaoboncaaGreatDoor.prn
end

section
/- proof: what sums prove (the mathematics). -/
namespace Go.Proofs.YtdoadmkaoboncaaGreatDoor.prf
open Go Go.Proofs.YtdoadmkaoboncaaGreatDoor.dig

/-- The root over n leaves, of the i-th one's sum x and of sums, the outermost first; z: what stands for none. -/
def up (z x : List UInt8) : List (List UInt8) → Nat → Nat → List UInt8 × Bool
  | [], _, n => if n = 1 then (x, true) else (z, false)
  | s :: r, i, n => if n = 1 then (x, false) else if i < half n then (nodeS (up z x r i (half n)).1 s, (up z x r i (half n)).2) else (nodeS s (up z x r (i - half n) (n - half n)).1, (up z x r (i - half n) (n - half n)).2)

theorem up_one (z x : List UInt8) (r : List (List UInt8)) (i : Nat) : up z x r i 1 = (x, r.isEmpty) := by
  cases r <;> simp [up]
theorem up_nil (z x : List UInt8) (i : Nat) {n : Nat} (h : n ≠ 1) : up z x [] i n = (z, false) := by simp [up, h]
theorem up_left (z x s : List UInt8) (r : List (List UInt8)) {i n : Nat} (h : n ≠ 1) (hi : i < half n) : up z x (s :: r) i n = (nodeS (up z x r i (half n)).1 s, (up z x r i (half n)).2) := by
  rw [up, if_neg h, if_pos hi]
theorem up_right (z x s : List UInt8) (r : List (List UInt8)) {i n : Nat} (h : n ≠ 1) (hi : ¬ i < half n) : up z x (s :: r) i n = (nodeS s (up z x r (i - half n) (n - half n)).1, (up z x r (i - half n) (n - half n)).2) := by
  rw [up, if_neg h, if_neg hi]

theorem up_len {z x : List UInt8} (hz : z.length = 32) (hx : x.length = 32) : ∀ (r : List (List UInt8)) (i n : Nat), (up z x r i n).1.length = 32
  | [], i, n => by by_cases h : n = 1 <;> simp [up, h, hz, hx]
  | s :: r, i, n => by
    by_cases h : n = 1
    · simp [up, h, hx]
    · by_cases hi : i < half n
      · rw [up_left z x s r h hi]; exact nodeS_length _ _
      · rw [up_right z x s r h hi]; exact nodeS_length _ _

/-- What stands for none matters in none that is right. -/
theorem up_any (z z' x : List UInt8) : ∀ (r : List (List UInt8)) (i n : Nat), (up z x r i n).2 = (up z' x r i n).2 ∧ ((up z x r i n).2 = true → (up z x r i n).1 = (up z' x r i n).1)
  | [], i, n => by by_cases h : n = 1 <;> simp [up, h]
  | s :: r, i, n => by
    by_cases h : n = 1
    · simp [up, h]
    · by_cases hi : i < half n
      · rw [up_left z x s r h hi, up_left z' x s r h hi]
        obtain ⟨h1, h2⟩ := up_any z z' x r i (half n)
        exact ⟨h1, fun e => by show nodeS _ _ = nodeS _ _; rw [h2 e]⟩
      · rw [up_right z x s r h hi, up_right z' x s r h hi]
        obtain ⟨h1, h2⟩ := up_any z z' x r (i - half n) (n - half n)
        exact ⟨h1, fun e => by show nodeS _ _ = nodeS _ _; rw [h2 e]⟩

/-- As many sums as it takes are a matter of their number alone. -/
theorem up_count (z x z' x' : List UInt8) : ∀ (r r' : List (List UInt8)) (i n : Nat), r.length = r'.length → (up z x r i n).2 = (up z' x' r' i n).2
  | [], [], i, n, _ => by by_cases h : n = 1 <;> simp [up, h]
  | s :: r, s' :: r', i, n, hl => by
    have hl' : r.length = r'.length := by simpa using hl
    by_cases h : n = 1
    · simp [up, h]
    · by_cases hi : i < half n
      · rw [up_left z x s r h hi, up_left z' x' s' r' h hi]; exact up_count z x z' x' r r' i (half n) hl'
      · rw [up_right z x s r h hi, up_right z' x' s' r' h hi]; exact up_count z x z' x' r r' (i - half n) (n - half n) hl'
  | [], _ :: _, _, _, hl => by cases hl
  | _ :: _, [], _, _, hl => by cases hl

/-- Of one number of leaves and one place there is one number of sums that it takes. -/
theorem up_more (z x z' x' : List UInt8) : ∀ (r r' : List (List UInt8)) (i n : Nat), (up z x r i n).2 = true → r.length ≠ r'.length → (up z' x' r' i n).2 = false
  | [], [], i, n, _, hl => by exact absurd rfl hl
  | s :: r, s' :: r', i, n, ho, hl => by
    have hl' : r.length ≠ r'.length := by simpa using hl
    by_cases h : n = 1
    · simp [up, h]
    · by_cases hi : i < half n
      · rw [up_left z x s r h hi] at ho; rw [up_left z' x' s' r' h hi]; exact up_more z x z' x' r r' i (half n) ho hl'
      · rw [up_right z x s r h hi] at ho; rw [up_right z' x' s' r' h hi]; exact up_more z x z' x' r r' (i - half n) (n - half n) ho hl'
  | [], s' :: r', i, n, ho, _ => by
    by_cases h : n = 1
    · simp [up, h]
    · rw [up_nil z x i h] at ho; cases ho
  | s :: r, [], i, n, ho, _ => by
    by_cases h : n = 1
    · rw [up, if_pos h] at ho; cases ho
    · rw [up_nil z' x' i h]

/-- The roots over the first m and over all n leaves; o: the first one's, f: it is known. -/
def both (z o : List UInt8) : List (List UInt8) → Bool → Nat → Nat → List UInt8 × List UInt8 × Bool
  | [], f, m, n => if m = n ∧ f = true then (o, o, true) else (z, z, false)
  | s :: r, f, m, n => if m = n ∧ f = true then (o, o, false) else if m = n then (s, s, r.isEmpty) else if m ≤ half n then ((both z o r f m (half n)).1, nodeS (both z o r f m (half n)).2.1 s, (both z o r f m (half n)).2.2) else (nodeS s (both z o r false (m - half n) (n - half n)).1, nodeS s (both z o r false (m - half n) (n - half n)).2.1, (both z o r false (m - half n) (n - half n)).2.2)

theorem both_known (z o : List UInt8) (r : List (List UInt8)) (n : Nat) : both z o r true n n = (o, o, r.isEmpty) := by cases r <;> simp [both]
theorem both_nil (z o : List UInt8) (f : Bool) {m n : Nat} (h : ¬ (m = n ∧ f = true)) : both z o [] f m n = (z, z, false) := by rw [both, if_neg h]
theorem both_all (z o s : List UInt8) (r : List (List UInt8)) (n : Nat) : both z o (s :: r) false n n = (s, s, r.isEmpty) := by simp [both]
theorem both_left (z o s : List UInt8) (r : List (List UInt8)) (f : Bool) {m n : Nat} (h : m ≠ n) (hm : m ≤ half n) : both z o (s :: r) f m n = ((both z o r f m (half n)).1, nodeS (both z o r f m (half n)).2.1 s, (both z o r f m (half n)).2.2) := by
  rw [both, if_neg (fun e => h e.1), if_neg h, if_pos hm]
theorem both_right (z o s : List UInt8) (r : List (List UInt8)) (f : Bool) {m n : Nat} (h : m ≠ n) (hm : ¬ m ≤ half n) : both z o (s :: r) f m n = (nodeS s (both z o r false (m - half n) (n - half n)).1, nodeS s (both z o r false (m - half n) (n - half n)).2.1, (both z o r false (m - half n) (n - half n)).2.2) := by
  rw [both, if_neg (fun e => h e.1), if_neg h, if_neg hm]

theorem both_len {z o : List UInt8} (hz : z.length = 32) (ho : o.length = 32) : ∀ (r : List (List UInt8)) (f : Bool) (m n : Nat), (∀ x ∈ r, x.length = 32) → (both z o r f m n).1.length = 32 ∧ (both z o r f m n).2.1.length = 32
  | [], f, m, n, _ => by by_cases h : m = n ∧ f = true <;> simp [both, h, hz, ho]
  | s :: r, f, m, n, hr => by
    have hs := hr s (by simp)
    have hr' : ∀ x ∈ r, x.length = 32 := fun x hx => hr x (by simp [hx])
    by_cases h : m = n
    · subst h
      cases f
      · rw [both_all]; exact ⟨hs, hs⟩
      · rw [both_known]; exact ⟨ho, ho⟩
    · by_cases hm : m ≤ half n
      · rw [both_left z o s r f h hm]; exact ⟨(both_len hz ho r f m (half n) hr').1, nodeS_length _ _⟩
      · rw [both_right z o s r f h hm]; exact ⟨nodeS_length _ _, nodeS_length _ _⟩

theorem both_any (z z' o : List UInt8) : ∀ (r : List (List UInt8)) (f : Bool) (m n : Nat), (both z o r f m n).2.2 = (both z' o r f m n).2.2 ∧ ((both z o r f m n).2.2 = true → (both z o r f m n).1 = (both z' o r f m n).1 ∧ (both z o r f m n).2.1 = (both z' o r f m n).2.1)
  | [], f, m, n => by by_cases h : m = n ∧ f = true <;> simp [both, h]
  | s :: r, f, m, n => by
    by_cases h : m = n
    · subst h
      cases f
      · rw [both_all, both_all]; exact ⟨rfl, fun _ => ⟨rfl, rfl⟩⟩
      · rw [both_known, both_known]; exact ⟨rfl, fun _ => ⟨rfl, rfl⟩⟩
    · by_cases hm : m ≤ half n
      · rw [both_left z o s r f h hm, both_left z' o s r f h hm]
        obtain ⟨h1, h2⟩ := both_any z z' o r f m (half n)
        exact ⟨h1, fun e => ⟨(h2 e).1, by show nodeS _ _ = nodeS _ _; rw [(h2 e).2]⟩⟩
      · rw [both_right z o s r f h hm, both_right z' o s r f h hm]
        obtain ⟨h1, h2⟩ := both_any z z' o r false (m - half n) (n - half n)
        exact ⟨h1, fun e => ⟨by show nodeS _ _ = nodeS _ _; rw [(h2 e).1], by show nodeS _ _ = nodeS _ _; rw [(h2 e).2]⟩⟩

/-- Do sums prove a leaf: 0, 6 (no such place) or 12. -/
def inclE (leaf : List UInt8) (i n : Int) (root : List UInt8) (r : List (List UInt8)) : Int :=
  if i < 0 ∨ n ≤ i then 6 else if (up (List.replicate 32 0) (leafS leaf) r i.toNat n.toNat).2 = true ∧ (up (List.replicate 32 0) (leafS leaf) r i.toNat n.toNat).1 = root then 0 else 12

/-- Do they prove an elder head, of no more leaves? -/
def elderB (m : Nat) (old : List UInt8) (n : Nat) (root : List UInt8) (r : List (List UInt8)) : Bool :=
  if m = n then r.isEmpty && (old == root) else if m = 0 then r.isEmpty && (old == sum []) else
    (both (List.replicate 32 0) old r true m n).2.2 && ((both (List.replicate 32 0) old r true m n).1 == old) && ((both (List.replicate 32 0) old r true m n).2.1 == root)
def consE (m : Int) (old : List UInt8) (n : Int) (root : List UInt8) (r : List (List UInt8)) : Int :=
  if m < 0 ∨ n < m then 6 else if elderB m.toNat old n.toNat root r = true then 0 else 12
end Go.Proofs.YtdoadmkaoboncaaGreatDoor.prf
end

section
/- prune: the mathematics: what a tree's proof of a leaf, and of a prefix, comes to. -/
namespace Go.Proofs.YtdoadmkaoboncaaGreatDoor.prn
open Go Go.Proofs.YtdoadmkaoboncaaGreatDoor.dig Go.Proofs.YtdoadmkaoboncaaGreatDoor.prf

/-- The proof of a leaf comes to the root. -/
theorem up_path (z : List UInt8) (f : Nat → List UInt8) : ∀ (n i a : Nat), i < n → up z (f (a + i)) (path f i a n).reverse i n = (rt f a n, true) := by
  intro n
  induction n using Nat.strongRecOn with
  | _ n ih =>
    intro i a hi
    by_cases h2 : 2 ≤ n
    · have hp := half_pos n
      have hl := half_lt h2
      rw [path, dif_pos h2, rt_two f a h2]
      by_cases hh : i < half n
      · rw [if_pos hh, List.reverse_append, List.reverse_singleton, List.singleton_append, up_left _ _ _ _ (by omega) hh, ih (half n) hl i a hh]
      · rw [if_neg hh, List.reverse_append, List.reverse_singleton, List.singleton_append, up_right _ _ _ _ (by omega) hh]
        have h3 := ih (n - half n) (by omega) (i - half n) (a + half n) (by omega)
        rw [show a + half n + (i - half n) = a + i by omega] at h3
        rw [h3]
    · obtain rfl : n = 1 := by omega
      obtain rfl : i = 0 := by omega
      rw [path, dif_neg h2, List.reverse_nil, up_one, rt_one]
      rfl

/-- The proof of a prefix comes to both roots. -/
theorem both_steps (z o : List UInt8) (f : Nat → List UInt8) : ∀ (n m a : Nat) (first : Bool), 0 < m → m ≤ n → (first = true → o = rt f a m) →
    both z o (steps f m a n first).reverse first m n = (rt f a m, rt f a n, true) := by
  intro n
  induction n using Nat.strongRecOn with
  | _ n ih =>
    intro m a first h0 hm ho
    by_cases he : m = n
    · subst he
      rw [steps, if_pos rfl]
      cases first
      · rw [if_neg (by simp), List.reverse_singleton, both_all]
        rfl
      · rw [if_pos rfl, List.reverse_nil, both_known, ho rfl]
        rfl
    · have h2 : 2 ≤ n := by omega
      have hp := half_pos n
      have hl := half_lt h2
      rw [steps, if_neg he, dif_pos h2, rt_two f a h2]
      by_cases hh : m ≤ half n
      · rw [if_pos hh, List.reverse_append, List.reverse_singleton, List.singleton_append, both_left _ _ _ _ _ he hh, ih (half n) hl m a first h0 hh ho]
      · rw [if_neg hh, List.reverse_append, List.reverse_singleton, List.singleton_append, both_right _ _ _ _ _ he hh]
        have h3 := ih (n - half n) (by omega) (m - half n) (a + half n) false (by omega) (by omega) (fun h => by cases h)
        rw [h3]
        have hg := half_ge h2
        have e : half m = half n := half_of (j := Nat.log2 (n - 1)) (by show half n < m; omega) (by rw [Nat.pow_succ]; show m ≤ half n * 2; omega)
        have h4 := rt_two f a (n := m) (by omega)
        rw [e] at h4
        rw [h4]
end Go.Proofs.YtdoadmkaoboncaaGreatDoor.prn
end

section
/- Out of PruH: dig.Tr.inclusion_range, Va.leaf_range, Va.leaf_low, incl_path. -/
namespace Go.Proofs.YtdoadmkaoboncaaGreatDoor.prn
open Go Go.RowKit Go.Proofs.YtdoadmkaoboncaaGreatDoor.dig Go.Proofs.YtdoadmkaoboncaaGreatDoor.prf

section
variable {B : Nat} {F : Nat → Prop} {w : World} {b vb N fl : Nat} {f : Nat → List UInt8} {L : List ByteArray}
set_option maxRecDepth 100000 in
set_option maxHeartbeats 1000000 in
theorem _root_.Go.Proofs.YtdoadmkaoboncaaGreatDoor.dig.Tr.inclusion_range (hT : Tr B F w b N fl f) (x n : Int) (h : n < 0 ∨ n > N ∨ x < 0 ∨ x ≥ n) :
    Calls Tryz.prog 49 #[.pointer (some ⟨b, 0, none⟩), .int .i64 x, .int .i64 n] w fun en w' => en = .returned (.tuple #[.slice none 0 0, .int .i64 6]) ∧ w = w' := by
  obtain ⟨rv, hh⟩ := hT.head
  have e0 := hh.cell 0
  simp at e0
  clear hT hh
  by_cases h1 : n < 0
  · clear h
    go_enter Tryz.func49, Tryz.ntmps49
    go_wp2_with fail
    go_ret2
    exact ⟨rfl, rfl⟩
  by_cases h2 : n > (N : Int)
  · clear h
    go_enter Tryz.func49, Tryz.ntmps49
    go_wp2_with fail
    go_ret2
    exact ⟨rfl, rfl⟩
  by_cases h3 : x < 0
  · clear h
    go_enter Tryz.func49, Tryz.ntmps49
    go_wp2_with fail
    go_ret2
    exact ⟨rfl, rfl⟩
  · have h4 : x ≥ n := by omega
    clear h
    go_enter Tryz.func49, Tryz.ntmps49
    go_wp2_with fail
    go_ret2
    exact ⟨rfl, rfl⟩

theorem Va.leaf_range (h : Va B F w vb L fl) (x n : Int) (hx : n < 0 ∨ n > L.length ∨ x < 0 ∨ x ≥ n) :
    Calls Tryz.prog 23 #[.pointer (some ⟨vb, 0, none⟩), .int .i64 x, .int .i64 n] w (PairErr w (.agg (prC 0 0 0 (.slice none 0 0))) leafNm x 6) :=
  h.leaf_err x n 6 (by decide) fun _ _ ⟨_, tr⟩ => tr.inclusion_range x n hx
theorem Va.leaf_low (h : Va B F w vb L fl) (i n : Nat) (hn : n ≤ L.length) (hi : i < n) (hf : i < fl) :
    Calls Tryz.prog 23 #[.pointer (some ⟨vb, 0, none⟩), .int .i64 i, .int .i64 n] w (PairErr w (.agg (prC 0 0 0 (.slice none 0 0))) leafNm i 14) :=
  h.leaf_err i n 14 (by decide) fun _ _ ⟨_, tr⟩ => tr.inclusion_low i n hn hi hf

/-- What a vault's own proof of a leaf proves. -/
theorem incl_path {L : List ByteArray} {i n : Nat} (hi : i < n) {s : ByteArray} (hs : L[i]? = some s) : inclE s.data.toList i n (rtAll (leafF L) n) (path (leafF L) i 0 n).reverse = 0 := by
  have h := up_path (List.replicate 32 0) (leafF L) n i 0 hi
  rw [Nat.zero_add, leafF_at L i s hs] at h
  unfold inclE
  rw [if_neg (by omega), Int.toNat_natCast, Int.toNat_natCast, h]
  exact if_pos ⟨rfl, by unfold rtAll; rw [if_neg (by omega)]⟩
end
end Go.Proofs.YtdoadmkaoboncaaGreatDoor.prn
end

