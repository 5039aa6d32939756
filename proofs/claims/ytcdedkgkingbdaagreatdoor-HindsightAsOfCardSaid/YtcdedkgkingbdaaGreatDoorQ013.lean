/- Texts laid into one: PruC, PruDA, PruE, Head. -/
import Derived.Test.YtcdedkgkingbdaaGreatDoorQ012
import Derived.Test.YtcdedkgkingbdaaGreatDoorQ005
import Derived.Test.YtcdedkgkingbdaaGreatDoorQ006
section
/- prune: copied, At. -/
namespace Go.Proofs.YtcdedkgkingbdaaGreatDoor.prn
open Go Go.RowKit Go.Proofs.YtcdedkgkingbdaaGreatDoor.dig

/-- An error was answered beside another value: a step more around n. -/
def PairErr (w : World) (v : Value) (s : ByteArray) (a n : Int) (en : Ending) (w' : World) : Prop :=
  ∃ b, en = .returned (.tuple #[v, flt.ev [⟨b, s, a⟩] n]) ∧ w.heap.size ≤ b ∧ flt.Er w'.heap.size w' [⟨b, s, a⟩] n ∧ Below w.heap.size w w'
def commandB : ByteArray := ⟨#[99, 111, 109, 109, 97, 110, 100]⟩

set_option maxRecDepth 100000 in
set_option maxHeartbeats 1000000 in
theorem copied_calls (v : Value) (m : Nat) (xs : List Value) (w : World) (hs : Seg w 9 1 v m xs) (h1 : ∀ u ∈ xs, u.oneCell' = true) (hm : m ≤ 1000000) :
    Calls Tryz.prog 103 #[v] w fun en w' => ∃ y, en = .returned y ∧ Seg w' 9 1 y m xs ∧ (∀ x, y.ownBlock = some x → w.heap.size ≤ x) ∧ Below w.heap.size w w' := by
  obtain ⟨i, z, hi, hz, hsz, hzs, hby⟩ := flt.strInfo
  obtain ⟨a, c, rfl, _, _⟩ := hs.slice
  have HS := Lib.hid hs
  have H1 := Lib.hid h1
  clear hs h1
  go_enter Tryz.func103, Tryz.ntmps103
  go_wp2_with (first | ((with_reducible refine at_op 4 ?_); refine wpList_append_new (o := ⟨some 4, _, _, _, _, _⟩) _ rfl (.const (.slice none 0 0)) (.tmp 3) 74 rfl 9 i z 1 16 Tryz.underlying74 hi hz hsz hby hzs (by omega) rfl _ m xs rfl HS.out H1.out (by unfold maxLen; omega) (by omega) ?_; intro y W2 s2 b2 o2) | fail)
  go_ret
  exact ⟨y, rfl, s2, o2, b2⟩

section
variable {B : Nat} {F : Nat → Prop} {w : World} {vb fl : Nat} {L : List ByteArray}

set_option maxRecDepth 100000 in
set_option maxHeartbeats 1000000 in
theorem Va.at_ok (h : Va B F w vb L fl) (i : Nat) (hi : fl ≤ i) (s : ByteArray) (hs : L[i]? = some s) :
    Calls Tryz.prog 34 #[.pointer (some ⟨vb, 0, none⟩), .int .i64 i] w fun en w' => en = .returned (.tuple #[.string s, .nilIface]) ∧ Below w.heap.size w w' := by
  obtain ⟨T, tb, first, cv, r⟩ := h.raw
  have hil : i < L.length := (List.getElem?_eq_some_iff.1 hs).1
  have hsm := h.small
  have hfi : first ≤ i := Nat.le_trans r.first hi
  obtain ⟨g, off, c, rfl, hg, hc1, hc2, hcell⟩ := r.seg.cells (by omega)
  have c0 := hcell _ _ (keptC_at r.first hi hs)
  have e1 := r.own.cell 1
  have e2 := r.own.cell 2
  simp at e1 e2
  have HL := Lib.hid h.len_calls
  have HF := Lib.hid h.floor_calls
  obtain ⟨n, hn⟩ : ∃ n, n = L.length := ⟨_, rfl⟩
  obtain ⟨k, hk⟩ : ∃ k, k = i - first := ⟨_, rfl⟩
  obtain ⟨m, hm⟩ : ∃ m, m = L.length - first := ⟨_, rfl⟩
  rw [← hk] at c0
  rw [← hm] at e2 hc1
  rw [← hn] at HL
  have h1 : ¬ (i : Int) < 0 := by omega
  have h2 : ¬ (i : Int) ≥ (n : Int) := by omega
  have h3 : ¬ (i : Int) < (fl : Int) := by omega
  have h4 : IntKind.i64.wrap ((i : Int) - (first : Int)) = (k : Int) := by rw [show (i : Int) - (first : Int) = (k : Int) by omega]; exact IntWalk.i64_in _ ⟨by omega, by omega⟩
  have h5 : (i : Int) - (first : Int) = (k : Int) := by omega
  have h6 : (k : Int) < (m : Int) := by omega
  have h7 : (0 : Int) ≤ (k : Int) := by omega
  have h8 : (m : Int) ≤ 1000000 := by omega
  clear r h hcell hs hn hk hm hil hsm hfi hc1 hc2 hg hi
  go_enter Tryz.func34, Tryz.ntmps34
  go_wp2_with fail
  refine HL.out.mono ?_
  rintro en w1 ⟨rfl, rfl⟩
  go_wp2_with fail
  refine HF.out.mono ?_
  rintro en w1 ⟨rfl, rfl⟩
  go_wp2_with fail
  go_region
  go_wp2_with fail
  go_ret2
  exact ⟨rfl, (Below.refl _ _).drew⟩
end
end Go.Proofs.YtcdedkgkingbdaaGreatDoor.prn
end

section
/- Out of PruD: Va.at_future, Va.at_pruned. -/
namespace Go.Proofs.YtcdedkgkingbdaaGreatDoor.prn
open Go Go.RowKit Go.Proofs.YtcdedkgkingbdaaGreatDoor.dig

section
variable {B : Nat} {F : Nat → Prop} {w : World} {vb fl : Nat} {L : List ByteArray}
set_option maxRecDepth 100000 in
set_option maxHeartbeats 1000000 in
theorem Va.at_future (h : Va B F w vb L fl) (x : Int) (hx : x < 0 ∨ x ≥ L.length) :
    Calls Tryz.prog 34 #[.pointer (some ⟨vb, 0, none⟩), .int .i64 x] w (PairErr w (.string ⟨#[]⟩) commandB x 13) := by
  have HL := Lib.hid h.len_calls
  obtain ⟨n, hn⟩ : ∃ n, n = L.length := ⟨_, rfl⟩
  rw [← hn] at HL hx
  clear hn h
  by_cases h1 : x < 0
  · clear hx
    go_enter Tryz.func34, Tryz.ntmps34
    go_wp2_with fail
    refine (flt.in_calls [] 13 commandB x _ (by decide)).mono ?_
    rintro en w2 ⟨rfl, rfl⟩
    go_wp2_with fail
    go_ret2
    exact ⟨_, rfl, Nat.le_refl _, ⟨⟨made_at _ _ rfl, by simp⟩, trivial⟩, (Below.refl _ _).alloc (Nat.le_refl _) _⟩
  · have h2 : x ≥ (n : Int) := by omega
    clear hx
    go_enter Tryz.func34, Tryz.ntmps34
    go_wp2_with fail
    refine HL.out.mono ?_
    rintro en w1 ⟨rfl, rfl⟩
    go_wp2_with fail
    refine (flt.in_calls [] 13 commandB x _ (by decide)).mono ?_
    rintro en w2 ⟨rfl, rfl⟩
    go_wp2_with fail
    go_ret2
    exact ⟨_, rfl, Nat.le_refl _, ⟨⟨made_at _ _ rfl, by simp⟩, trivial⟩, (Below.refl _ _).alloc (Nat.le_refl _) _⟩

set_option maxRecDepth 100000 in
set_option maxHeartbeats 1000000 in
theorem Va.at_pruned (h : Va B F w vb L fl) (i : Nat) (hi : i < fl) :
    Calls Tryz.prog 34 #[.pointer (some ⟨vb, 0, none⟩), .int .i64 i] w (PairErr w (.string ⟨#[]⟩) commandB i 14) := by
  have HL := Lib.hid h.len_calls
  have HF := Lib.hid h.floor_calls
  have hfl := h.floor_le
  obtain ⟨n, hn⟩ : ∃ n, n = L.length := ⟨_, rfl⟩
  rw [← hn] at HL hfl
  have h1 : ¬ (i : Int) < 0 := by omega
  have h2 : ¬ (i : Int) ≥ (n : Int) := by omega
  have h3 : (i : Int) < (fl : Int) := by omega
  clear hn h hi hfl
  go_enter Tryz.func34, Tryz.ntmps34
  go_wp2_with fail
  refine HL.out.mono ?_
  rintro en w1 ⟨rfl, rfl⟩
  go_wp2_with fail
  refine HF.out.mono ?_
  rintro en w1 ⟨rfl, rfl⟩
  go_wp2_with fail
  refine (flt.in_calls [] 14 commandB i _ (by decide)).mono ?_
  rintro en w2 ⟨rfl, rfl⟩
  go_wp2_with fail
  go_ret2
  exact ⟨_, rfl, Nat.le_refl _, ⟨⟨made_at _ _ rfl, by simp⟩, trivial⟩, (Below.refl _ _).alloc (Nat.le_refl _) _⟩
end
end Go.Proofs.YtcdedkgkingbdaaGreatDoor.prn
end

section
/- prune: Keep. -/
namespace Go.Proofs.YtcdedkgkingbdaaGreatDoor.prn
open Go Go.RowKit Go.Proofs.YtcdedkgkingbdaaGreatDoor.dig

theorem zeroC_str (k : Nat) : zeroC (Value.string ByteArray.empty).cells k = List.replicate k (Value.string ByteArray.empty) := by
  have : (Value.string ByteArray.empty).cells = #[Value.string ByteArray.empty] := rfl
  rw [this]
  unfold zeroC Builtin.zeroCells
  refine List.ext_getElem (by simp) fun i h1 h2 => ?_
  simp [Nat.mod_one]

/-- What is kept, when more is blank. -/
theorem keptC_clear {L : List ByteArray} {fl first p : Nat} (h1 : first ≤ fl) (h2 : fl ≤ p) :
    (keptC L fl first).take ((fl - first) * 1) ++ zeroC (Value.string ByteArray.empty).cells (p - fl) ++ (keptC L fl first).drop ((fl - first + (p - fl)) * 1) = keptC L p first := by
  rw [zeroC_str, Nat.mul_one, Nat.mul_one]
  unfold keptC
  rw [List.take_append_of_le_length (by rw [List.length_replicate]; exact Nat.le_refl _), List.take_of_length_le (by rw [List.length_replicate]; exact Nat.le_refl _), List.replicate_append_replicate,
    List.drop_append, List.drop_of_length_le (by rw [List.length_replicate]; omega), List.nil_append, List.length_replicate, ← List.map_drop, List.drop_drop]
  congr 2
  · omega
  · congr 1; omega

/-- clear(s[u:v]). -/
theorem clear_mid {w : World} {g off m cc : Nat} {xs : List Value} (h : Seg w 9 1 (.slice (some ⟨g, off, none⟩) m cc) m xs) (u v : Nat) (huv : u ≤ v) (hvm : v ≤ m) :
    ∃ q W2, (if cc = u then (some ⟨g, off, none⟩ : Option Addr) else some ⟨g, off + u, none⟩) = q ∧ (Builtin.clear_ #[74] 0 #[.slice q (v - u) (cc - u)]).run Tryz.prog w = .ok (.tuple #[]) W2 ∧
      Seg W2 9 1 (.slice (some ⟨g, off, none⟩) m cc) m (xs.take (u * 1) ++ zeroC (Value.string ByteArray.empty).cells (v - u) ++ xs.drop ((u + (v - u)) * 1)) ∧ w.grownBy W2 (some g) := by
  obtain ⟨a, c', e, hc1, hc2⟩ := h.slice
  simp only [Value.slice.injEq] at e
  obtain ⟨_, _, rfl⟩ := e
  have hzv : ∀ w, (zeroValue 9).run Tryz.prog w = .ok (.string ByteArray.empty) w := fun _ => by kernel_rfl
  have hone : ∀ x ∈ (Value.string ByteArray.empty).cells, x.oneCell' = true := fun x hx => by
    have e : x = Value.string ByteArray.empty := by simpa [Value.cells] using hx
    rw [e]; rfl
  by_cases hc : cc = u
  · have e1 : v - u = 0 := by omega
    obtain ⟨W2, hr, s2, t2⟩ := run_clear_seg (P := Tryz.prog) w 74 0 9 (.string ByteArray.empty) 1 Tryz.underlying74 hzv (by kernel_rfl) hone g off m cc xs h 0 0 (cc - u) (by omega)
    rw [if_pos hc, e1]
    refine ⟨_, W2, rfl, by simpa using hr, ?_, t2⟩
    have e2 : xs.take (u * 1) ++ zeroC (Value.string ByteArray.empty).cells 0 ++ xs.drop ((u + 0) * 1) = xs.take (0 * 1) ++ zeroC (Value.string ByteArray.empty).cells 0 ++ xs.drop ((0 + 0) * 1) := by
      rw [show zeroC (Value.string ByteArray.empty).cells 0 = [] from List.eq_nil_of_length_eq_zero (by rw [zeroC_len, Nat.zero_mul]), List.append_nil, List.append_nil, Nat.add_zero, List.take_append_drop, List.take_append_drop]
    rw [e2]
    exact s2
  · obtain ⟨W2, hr, s2, t2⟩ := run_clear_seg (P := Tryz.prog) w 74 0 9 (.string ByteArray.empty) 1 Tryz.underlying74 hzv (by kernel_rfl) hone g off m cc xs h u (v - u) (cc - u) (by omega)
    rw [if_neg hc]
    refine ⟨_, W2, rfl, by simpa using hr, s2, t2⟩
/-- s[k:], as the walk tells it. -/
theorem rest_mid {w : World} {g off m cc : Nat} {xs : List Value} (h : Seg w 9 1 (.slice (some ⟨g, off, none⟩) m cc) m xs) (k : Nat) (hk : k ≤ m) :
    ∃ q, (if cc = k then (some ⟨g, off, none⟩ : Option Addr) else some ⟨g, off + k, none⟩) = q ∧ Seg w 9 1 (.slice q (m - k) (cc - k)) (m - k) (xs.drop k) := by
  have h1 := Seg.rest h k hk
  rw [Nat.mul_one] at h1
  refine ⟨_, rfl, ?_⟩
  by_cases hc : cc = k
  · rw [if_pos hc] at h1 ⊢; exact h1
  · rw [if_neg hc] at h1 ⊢; exact h1

section
variable {B : Nat} {F T : Nat → Prop} {w W : World} {vb tb fl first : Nat} {L : List ByteArray} {cv : Value}

/-- What Keep comes to. -/
def KeepPost (B : Nat) (F : Nat → Prop) (w : World) (vb : Nat) (L : List ByteArray) (p : Nat) (en : Ending) (w' : World) : Prop :=
  en = .returned .nilIface ∧ Va B (fun k => F k ∨ w.heap.size ≤ k) w' vb L p ∧ Turn F w w'

set_option maxRecDepth 100000 in
set_option maxHeartbeats 2000000 in
theorem Va.keep (h : Va B F w vb L fl) (p : Nat) (hp : fl ≤ p) (hn : p ≤ L.length) :
    Calls Tryz.prog 58 #[.pointer (some ⟨vb, 0, none⟩), .int .i64 p] w (KeepPost B F w vb L p) := by
  have HF := Lib.hid h.floor_calls
  have hsm := h.small
  have H := Lib.hid h
  obtain ⟨T, tb, first, cv, r⟩ := h.raw
  have e0 := r.own.cell 0
  simp at e0
  have hff := r.first
  have HT := Lib.hid (r.tree.forget p hp hn)
  have HR := Lib.hid r
  have HN := Lib.hid (show _ ∧ _ ∧ _ ∧ _ from ⟨hp, hn, hsm, hff⟩)
  clear h r
  obtain ⟨u, hu⟩ : ∃ u, u = fl - first := ⟨_, rfl⟩
  obtain ⟨v, hv⟩ : ∃ v, v = p - first := ⟨_, rfl⟩
  obtain ⟨m, hm⟩ : ∃ m, m = L.length - first := ⟨_, rfl⟩
  have h3 : (fl : Int) - (first : Int) = (u : Int) := by omega
  have h4 : (p : Int) - (first : Int) = (v : Int) := by omega
  have h5 : (u : Int) ≤ (v : Int) := by omega
  have h6 : (v : Int) ≤ (m : Int) := by omega
  have h8 : (m : Int) ≤ 1000000 := by omega
  have HU := Lib.hid (show _ ∧ _ ∧ _ from ⟨hu, hv, hm⟩)
  clear hp hn hsm hff hu hv hm
  go_enter Tryz.func58, Tryz.ntmps58
  go_wp2_with fail
  refine HF.out.mono ?_
  rintro en w1 ⟨rfl, rfl⟩
  go_wp2_with fail
  refine HT.out.mono ?_
  rintro en w1 ⟨rfl, t1, u1⟩
  have own1 := HR.out.own.turn u1 HR.out.fv.2
  have seg1 := HR.out.seg.turn u1 (fun x hx => (HR.out.fc x hx).2)
  rw [← HU.out.2.2] at seg1
  obtain ⟨ca, cc, hcv, hc1, hc2⟩ := seg1.slice
  subst hcv
  have e1 := own1.cell 1
  have e2 := own1.cell 2
  simp at e1 e2
  have hzv : ∀ w, (zeroValue 9).run Tryz.prog w = .ok (.string ByteArray.empty) w := fun _ => by kernel_rfl
  have h9 : (cc : Int) ≤ 9223372036854775807 := by unfold maxLen at hc2; omega
  have h10 : (m : Int) ≤ (cc : Int) := by omega
  have T1 := Lib.hid (show _ ∧ _ ∧ _ ∧ _ from ⟨t1, u1, own1, seg1⟩)
  have HZ := Lib.hid hzv
  clear t1 u1 own1 seg1 hzv HT HF e0 hc1 hc2
  go_wp2_with fail
  obtain ⟨V, hV⟩ : ∃ V, V = w1.drew := ⟨_, rfl⟩
  rcases T1.out.2.2.2.form with ⟨hcv, hm0, _⟩ | ⟨g, off, c', hcv⟩
  · simp only [Value.slice.injEq] at hcv
    obtain ⟨rfl, rfl, rfl⟩ := hcv
    obtain rfl : v = 0 := by omega
    obtain rfl : u = 0 := by omega
    have w0 : IntKind.i64.wrap 0 = 0 := by decide
    refine still_tail_at V hV 11 (by kernel_rfl) (by kernel_rfl) ?_
    have d1 : V.cell? ⟨vb, 1, none⟩ = some (.int .i64 first) := by rw [hV]; exact e1
    have d2 : V.cell? ⟨vb, 2, none⟩ = some (.slice none 0 0) := by rw [hV]; exact e2
    have hr : (Builtin.clear_ #[74] 0 #[.slice none 0 0]).run Tryz.prog V = .ok (.tuple #[]) V := by simp [Builtin.clear_, run_underlying Tryz.underlying74]
    have HV := Lib.hid hV
    clear hV e1 e2
    simp only [List.take_succ_cons, List.take_zero, List.drop_succ_cons, List.drop_zero]
    repeat still_step
    refine wpStill_nil ?_
    have M0 : Hid (Vr B F T w vb tb fl first L (.slice none 0 0) ∧ Turn T w V ∧ Has V vb 128 #[.pointer (some ⟨tb, 0, none⟩), .int .i64 first, .slice none 0 0] ∧ Tr B (fun k => T k ∨ w.heap.size ≤ k) V tb L.length p (leafF L)) := by
      rw [HV.out]
      exact Lib.hid ⟨HR.out, T1.out.2.1.drew, T1.out.2.2.1.drew, T1.out.1.drew⟩
    clear hm0
    go_wp2_with fail
    go_ret
    have r := M0.out.1
    have hl := r.own.lt
    refine ⟨rfl, ⟨⟨fun k => (T k ∨ w.heap.size ≤ k) ∧ k < V.heap.size ∧ k ≠ vb, tb, first, .slice none 0 0, M0.out.2.2.1, ?_, ?_, Nat.le_trans r.first HN.out.1, ⟨.inl r.fv.1, fun e => e.2.2 rfl⟩, fun k hk => hk.1.imp (r.ft k) id, fun x hx => by cases hx⟩, fun k hk => ?_, H.out.short⟩, M0.out.2.1.more (fun j _ h1 => r.ft j h1)⟩
    · refine M0.out.2.2.2.more (fun k h1 h2 => ⟨h2, h1, fun e => ?_⟩) (fun k hk => ?_)
      · subst e
        rcases h2 with h2 | h2
        · exact r.fv.2 h2
        · omega
      · rcases hk.1 with h1 | h1
        · exact H.out.hF k (r.ft k h1)
        · have := H.out.rt.size; omega
    · have e1 : L.length - first = 0 := HU.out.2.2.symm
      have e2 : keptC L p first = [] := List.eq_nil_of_length_eq_zero (by rw [keptC_len (Nat.le_trans r.first HN.out.1) HN.out.2.1, e1])
      rw [e1, e2]
      exact Seg.nil _ _ _
    · rcases hk with h1 | h1
      · exact H.out.hF k h1
      · have := H.out.rt.size; omega
  · simp only [Value.slice.injEq] at hcv
    obtain ⟨rfl, _, rfl⟩ := hcv
    have w1' : IntKind.i64.wrap (u : Int) = (u : Int) := IntWalk.i64_in _ ⟨by omega, by omega⟩
    have w2' : IntKind.i64.wrap (v : Int) = (v : Int) := IntWalk.i64_in _ ⟨by omega, by omega⟩
    have h11 : (v : Int) ≤ (cc : Int) := by omega
    have w3' : max (v : Int) 0 = (v : Int) := by omega
    refine still_tail_at V hV 12 (by kernel_rfl) (by kernel_rfl) ?_
    have d1 : V.cell? ⟨vb, 1, none⟩ = some (.int .i64 first) := by rw [hV]; exact e1
    have d2 : V.cell? ⟨vb, 2, none⟩ = some (.slice (some ⟨g, off, none⟩) m cc) := by rw [hV]; exact e2
    have M0 : Hid (Turn T w V ∧ Has V vb 128 #[.pointer (some ⟨tb, 0, none⟩), .int .i64 first, .slice (some ⟨g, off, none⟩) m cc] ∧ Tr B (fun k => T k ∨ w.heap.size ≤ k) V tb L.length p (leafF L) ∧ Seg V 9 1 (.slice (some ⟨g, off, none⟩) m cc) m (keptC L fl first)) := by
      rw [hV]
      exact Lib.hid ⟨T1.out.2.1.drew, T1.out.2.2.1.drew, T1.out.1.drew, T1.out.2.2.2.drew⟩
    obtain ⟨q, W2, hq, hr, s2, g2⟩ := clear_mid M0.out.2.2.2 u v (by omega) (by omega)
    rw [show v - u = p - fl by have := HU.out; have := HN.out; omega] at s2
    rw [show u = fl - first from HU.out.1, keptC_clear HN.out.2.2.2 HN.out.1] at s2
    have hne : g ≠ vb := fun e => T1.out.2.2.2.ne T1.out.2.2.1 (by decide) (by rw [e]; rfl)
    have own2 := M0.out.2.1.grown g2 (fun e => hne (by injection e with e; exact e.symm))
    have U2 : Turn (fun k => k = g ∨ k = vb) V W2 := (Turn.refl _ V).grown g2 (fun j hj _ => .inl (by injection hj with hj; exact hj.symm))
    have k2 := own2.cell 2
    simp at k2
    have M2 := Lib.hid (show _ ∧ _ ∧ _ from ⟨own2, U2, s2⟩)
    clear hV e1 e2 own2 U2 s2 g2
    simp only [List.take_succ_cons, List.take_zero, List.drop_succ_cons, List.drop_zero]
    repeat still_step
    refine wpStill_nil ?_
    clear hq d1 d2
    have r := HR.out
    have hl := r.own.lt
    have hT' : Tr B (fun k => (T k ∨ w.heap.size ≤ k) ∧ k < V.heap.size ∧ k ≠ vb ∧ k ≠ g) W2 tb L.length p (leafF L) :=
      (M0.out.2.2.1.more (G := fun k => (T k ∨ w.heap.size ≤ k) ∧ k < V.heap.size ∧ k ≠ vb ∧ k ≠ g) (fun k h1 h2 => ⟨h2, h1, fun e => by
        subst e
        rcases h2 with h2 | h2
        · exact r.fv.2 h2
        · omega, fun e => by
        subst e
        rcases h2 with h2 | h2
        · exact (r.fc k rfl).2 h2
        · have := r.seg.lt (b := k) rfl; omega⟩) (fun k hk => by
        rcases hk.1 with h1 | h1
        · exact H.out.hF k (r.ft k h1)
        · have := H.out.rt.size; omega)).turn M2.out.2.1 (fun k hk _ e => by
        rcases e with e | e
        · exact hk.2.2.2 e
        · exact hk.2.2.1 e) (fun k e => by
        rcases e with rfl | rfl
        · exact H.out.hF _ (r.fc _ rfl).1
        · exact H.out.hF _ r.fv.1)
    have hfF : ∀ k, (F k ∨ w.heap.size ≤ k) → B ≤ k := fun k hk => by
      rcases hk with h1 | h1
      · exact H.out.hF k h1
      · have := H.out.rt.size; omega
    have tw : Turn F w W2 := (M0.out.1.more (fun j _ h1 => r.ft j h1)).trans M2.out.2.1 (fun j _ e => by
        rcases e with rfl | rfl
        · exact (r.fc _ rfl).1
        · exact r.fv.1)
    have HX := Lib.hid (show _ ∧ _ ∧ _ from ⟨hT', hfF, tw⟩)
    clear hT' hfF tw r hl
    by_cases hgt : (v : Int) > (m : Int) - (v : Int)
    · obtain ⟨q2, hq2, s3⟩ := rest_mid M2.out.2.2 v (by omega)
      rw [show v = p - first from HU.out.2.1, keptC_drop] at s3
      rw [← show v = p - first from HU.out.2.1] at s3
      have HC := Lib.hid (copied_calls _ _ _ W2 s3 keptC_one (by omega))
      clear s3
      go_wp2_with fail
      refine HC.out.mono ?_
      rintro en w3 ⟨y, rfl, s3, o3, b3⟩
      obtain ⟨ya, yc, rfl, _, _⟩ := s3.slice
      have own3 := M2.out.1.below b3 M2.out.1.lt
      have f1 := own3.cell 1
      have f2 := own3.cell 2
      have f3 := own3.free 1
      have f4 := own3.free 2
      simp at f1 f2
      have M3 := Lib.hid (show _ ∧ _ ∧ _ ∧ _ from ⟨own3, s3, o3, b3⟩)
      have f5 : (w3.setCell ⟨vb, 2, none⟩ (.slice ya (m - v) yc)).cell? ⟨vb, 1, none⟩ = some (.int .i64 first) := by
        have := (own3.put 2 (.slice ya (m - v) yc)).cell 1
        simpa using this
      have f6 : (w3.setCell ⟨vb, 2, none⟩ (.slice ya (m - v) yc)).frozen? ⟨vb, 1, none⟩ = false := (own3.put 2 (.slice ya (m - v) yc)).free 1
      clear own3 s3 o3 b3 hq2 k2 HC hr
      go_wp2_with fail
      go_ret
      have own5 := (M3.out.1.put 2 (.slice ya (m - v) yc)).put 1 (.int .i64 p)
      have hl2 := M2.out.1.lt
      have U5 : Turn (fun k => k = vb ∨ W2.heap.size ≤ k) W2 ((w3.setCell ⟨vb, 2, none⟩ (.slice ya (m - v) yc)).setCell ⟨vb, 1, none⟩ (.int .i64 p)) :=
        ((Turn.of_below (F := fun k => k = vb ∨ W2.heap.size ≤ k) M3.out.2.2.2 (fun _ _ h => .inr h)).put (fun _ => .inl rfl) 2 _).put (fun _ => .inl rfl) 1 _
      have hvs := HX.out.1.rt.size
      have hyv : (Value.slice ya (m - v) yc).ownBlock ≠ some vb := fun e => by have := M3.out.2.2.1 vb e; omega
      refine ⟨rfl, ⟨⟨fun k => ((T k ∨ w.heap.size ≤ k) ∧ k < V.heap.size ∧ k ≠ vb ∧ k ≠ g) ∧ k < W2.heap.size, tb, p, .slice ya (m - v) yc, by simpa using own5, ?_, ?_, Nat.le_refl _, ⟨.inl HR.out.fv.1, fun e => e.1.2.2.1 rfl⟩, fun k hk => hk.1.1.imp (HR.out.ft k) id, fun x hx => ?_⟩, HX.out.2.1, H.out.short⟩, ?_⟩
      · refine (HX.out.1.more (fun k h1 h2 => ⟨h2, h1⟩) (fun k hk => HX.out.1.hF k hk.1)).turn U5 (fun k hk _ e => ?_) (fun k e => ?_)
        · rcases e with rfl | e
          · exact hk.1.2.2.1 rfl
          · have := hk.2; omega
        · rcases e with rfl | e
          · exact H.out.hF _ HR.out.fv.1
          · omega
      · rw [show m - v = L.length - p by have := HU.out; have := HN.out; omega] at hyv ⊢
        have s3 := M3.out.2.1
        rw [show m - v = L.length - p by have := HU.out; have := HN.out; omega] at s3
        exact Seg.far (Seg.far s3 hyv _) hyv _
      · have := M3.out.2.2.1 x hx
        have h1 := HX.out.2.2.size
        exact ⟨.inr (by omega), fun e => by have := e.2; omega⟩
      · exact HX.out.2.2.trans U5 (fun j h1 e => by
          rcases e with rfl | e
          · exact HR.out.fv.1
          · have := HX.out.2.2.size; omega)
    · go_wp2_with fail
      go_ret
      refine ⟨rfl, ⟨⟨_, tb, first, .slice (some ⟨g, off, none⟩) m cc, M2.out.1, HX.out.1, ?_, Nat.le_trans HN.out.2.2.2 HN.out.1, ⟨.inl HR.out.fv.1, fun e => e.2.2.1 rfl⟩, fun k hk => hk.1.imp (HR.out.ft k) id, fun x hx => ?_⟩, HX.out.2.1, H.out.short⟩, HX.out.2.2⟩
      · rw [← HU.out.2.2]; exact M2.out.2.2
      · have e : g = x := by injection hx
        subst e
        exact ⟨.inl (HR.out.fc g rfl).1, fun e => e.2.2.2 rfl⟩
end
end Go.Proofs.YtcdedkgkingbdaaGreatDoor.prn
end

section
/- proof: heads as values: their cells, built, loaded, stored. -/
namespace Go.Proofs.YtcdedkgkingbdaaGreatDoor.prf
open Go Go.RowKit Go.Proofs.YtcdedkgkingbdaaGreatDoor.dig

/-- A proof's cells. -/
abbrev prC (K I N : Int) (v : Value) : Array Value := #[.int .i64 K, .int .i64 I, .int .i64 N, v]
/-- A head's cells. -/
def headC (n : Int) (o : List UInt8) : Array Value := (Value.int .i64 n :: o.map byteV).toArray
theorem headC_size (n : Int) (o : List UInt8) : (headC n o).size = o.length + 1 := by simp [headC]
theorem Has.num {w : World} {g : Nat} {n : Int} {o : List UInt8} (h : Has w g 86 (headC n o)) : w.cell? ⟨g, 0, none⟩ = some (.int .i64 n) := by rw [h.cell]; rfl
theorem Has.root {w : World} {g : Nat} {n : Int} {o : List UInt8} (h : Has w g 86 (headC n o)) : w.rangeAt g 1 (o.map byteV) := fun j u hj => by
  rw [h.cell]
  have : (headC n o)[1 + j]? = (o.map byteV)[j]? := by simp [headC, Nat.add_comm]
  rw [this, hj]
theorem Has.load_root {w : World} {g : Nat} {n : Int} {o : List UInt8} (h : Has w g 86 (headC n o)) (ho : o.length = 32) : (Instr.loadAt 84 (.pointer (some ⟨g, 1, none⟩))).run Tryz.prog w = .ok (.agg (cellsOf o)) w :=
  run_loadAt_mid w g 1 84 (o.map byteV) _ (Has.root h) Tryz.underlying84 rfl (by rw [List.length_map, ho]; kernel_rfl)

theorem list32 (xs : List UInt8) (h : xs.length = 32) : xs = (List.range 32).map (fun i => xs.getD i 0) := by
  apply List.ext_getElem?
  intro i
  by_cases hi : i < 32
  · rw [List.getElem?_map, List.getElem?_range hi, List.getElem?_eq_getElem (by omega)]
    simp [List.getD_eq_getElem?_getD, List.getElem?_eq_getElem (show i < xs.length by omega)]
  · rw [List.getElem?_eq_none (by omega), List.getElem?_eq_none (by simp; omega)]
theorem built_head (n : Int) (xs : List UInt8) (h : xs.length = 32) : Tryz.prog.built 86 [(0, .int .i64 n), (1, .agg (cellsOf xs))] = some (headC n xs) := by
  rw [list32 xs h]
  generalize (fun i => xs.getD i 0) = f
  kernel_rfl
theorem run_head (n : Int) (xs : List UInt8) (h : xs.length = 32) (w : World) : (Instr.build 86 #[(0, .int .i64 n), (1, .agg (cellsOf xs))]).run Tryz.prog w = .ok (.agg (headC n xs)) w :=
  run_build w 86 _ _ (built_head n xs h)
theorem headC_all (n : Int) (xs : List UInt8) : (headC n xs).all (·.oneCell') = true := by
  rw [Array.all_eq_true_iff_forall_mem]
  intro v hv
  simp only [headC, List.mem_toArray, List.mem_cons, List.mem_map] at hv
  rcases hv with rfl | ⟨c, _, rfl⟩ <;> rfl
/-- A whole head is stored. -/
theorem wpList_store_head {ops : Array Oper} {rest : List Oper} {o : Oper} {a : Act} {w : World} {Q : Exit → Act → World → Prop} (hgd : o.guard = none) (x y : Operand) (ho : o.op = .store 86 x y) (g : Nat) (n m : Int) (xs old : List UInt8) (hx : a.eval x = .pointer (some ⟨g, 0, none⟩)) (hy : a.eval y = .agg (headC n xs))
    (hg : Has w g 86 (headC m old)) (hl : xs.length = 32) (hl2 : old.length = 32) (h : ∀ w', Has w' g 86 (headC n xs) → Turn (fun k => k = g) w w' → wpList Tryz.prog ops Q rest (a.put o.dst undef) w') : wpList Tryz.prog ops Q (o :: rest) a w :=
  wpList_store_row hgd 86 x y ho g (headC n xs) hx hy 86 (headC m old) hg (by rw [headC_size, hl]; kernel_rfl) (by rw [headC_size, headC_size, hl, hl2]) (headC_all n xs) (h _ (hg.row _) (turn_row _ _ _))
theorem exec_head {ev : Operand → Value} {o : Oper} {w : World} (x y : Operand) (ho : o.op = .build 86 #[(0, x), (1, y)]) (n : Int) (xs : List UInt8) (hx : ev x = .int .i64 n) (hy : ev y = .agg (cellsOf xs)) (hl : xs.length = 32) :
    (execOp ev o).run Tryz.prog w = .ok (.value (.agg (headC n xs))) w := by
  have hr := run_head n xs hl w
  have he : (#[(0, x), (1, y)] : Array (Nat × Operand)).map (fun (i, x) => (i, ev x)) = #[(0, Value.int .i64 n), (1, Value.agg (cellsOf xs))] := by simp [hx, hy]
  unfold execOp
  simp only [ho, he, Sem.run_bind, hr, Result.andThen_ok, Sem.run_pure]
theorem wpList_head {ops : Array Oper} {rest : List Oper} {o : Oper} {a : Act} {w : World} {Q : Exit → Act → World → Prop} (hgd : o.guard = none) (x y : Operand) (ho : o.op = .build 86 #[(0, x), (1, y)]) (n : Int) (xs : List UInt8) (hx : a.eval x = .int .i64 n) (hy : a.eval y = .agg (cellsOf xs)) (hl : xs.length = 32)
    (h : wpList Tryz.prog ops Q rest (a.put o.dst (.agg (headC n xs))) w) : wpList Tryz.prog ops Q (o :: rest) a w :=
  wpList_plain hgd fun K hK => by
    unfold Oper.wp
    rw [exec_head x y ho n xs hx hy hl]
    exact hK _ _ h

theorem Has.load_hd {w : World} {g : Nat} {n : Int} {o : List UInt8} (h : Has w g 86 (headC n o)) (ho : o.length = 32) : (Instr.loadAt 86 (.pointer (some ⟨g, 0, none⟩))).run Tryz.prog w = .ok (.agg (headC n o)) w :=
  run_loadAt_mid w g 0 86 (Value.int .i64 n :: o.map byteV) _ (Has.range h) Tryz.underlying86 rfl (by rw [List.length_cons, List.length_map, ho]; kernel_rfl)
/-- An operation under a guard that holds. -/
theorem wpList_if {P : Program} {ops : Array Oper} {rest : List Oper} {o : Oper} {a : Act} {w : World} {Q : Exit → Act → World → Prop} (hw : Region.wanted o (yielded ops a.tmps) = true) (h : o.wp P a w (fun a' w' => wpList P ops Q rest a' w') Q) : wpList P ops Q (o :: rest) a w := by
  unfold wpList
  rw [if_pos hw]
  exact .inl h
end Go.Proofs.YtcdedkgkingbdaaGreatDoor.prf
end

