/- prune: New, Len, Floor, Add. -/
import Derived.Test.YtdoadmkaoboncaaGreatDoorPruA
namespace Go.Proofs.YtdoadmkaoboncaaGreatDoor.prn
open Go Go.RowKit Go.Proofs.YtdoadmkaoboncaaGreatDoor.dig

section
variable {B : Nat} {F : Nat → Prop} {w : World} {vb fl : Nat} {L : List ByteArray}

set_option maxHeartbeats 400000 in
theorem Va.len_calls (h : Va B F w vb L fl) : Calls Tryz.prog 55 #[.pointer (some ⟨vb, 0, none⟩)] w fun en w' => en = .returned (.int .i64 L.length) ∧ w = w' := by
  obtain ⟨T, tb, first, cv, r⟩ := h.raw
  have e0 := r.own.cell 0
  simp at e0
  have HT := Lib.hid r.tree.len_calls
  clear r h
  go_enter Tryz.func55, Tryz.ntmps55
  go_wp2_with fail
  refine HT.out.mono ?_
  rintro en w1 ⟨rfl, rfl⟩
  go_wp2_with fail
  go_ret
  exact ⟨rfl, rfl⟩

set_option maxHeartbeats 400000 in
theorem Va.floor_calls (h : Va B F w vb L fl) : Calls Tryz.prog 50 #[.pointer (some ⟨vb, 0, none⟩)] w fun en w' => en = .returned (.int .i64 fl) ∧ w = w' := by
  obtain ⟨T, tb, first, cv, r⟩ := h.raw
  have e0 := r.own.cell 0
  simp at e0
  have HT := Lib.hid r.tree.floor_calls
  clear r h
  go_enter Tryz.func50, Tryz.ntmps50
  go_wp2_with fail
  refine HT.out.mono ?_
  rintro en w1 ⟨rfl, rfl⟩
  go_wp2_with fail
  go_ret
  exact ⟨rfl, rfl⟩
end

set_option maxHeartbeats 1000000 in
theorem vnew_calls (B : Nat) (w : World) (hR : Rt B w) :
    Calls Tryz.prog 21 #[] w fun en w' => ∃ b, en = .returned (.pointer (some ⟨b, 0, none⟩)) ∧ w.heap.size ≤ b ∧ Va B (fun k => w.heap.size ≤ k) w' b [] 0 ∧ Below w.heap.size w w' := by
  have HT := Lib.hid (tnew_calls B (leafF []) w hR (leafF_len []))
  have HR := Lib.hid hR
  clear hR
  go_enter Tryz.func21, Tryz.ntmps21
  go_wp2_with fail
  refine HT.out.mono ?_
  rintro en w1 ⟨tb, rfl, htb, t1, b1⟩
  have T1 := Lib.hid (show _ ∧ _ ∧ _ from ⟨htb, t1, b1⟩)
  clear htb t1 b1
  go_wp2_with fail
  go_ret
  have hl := T1.out.2.1.lt
  have hs := T1.out.2.2.size
  refine ⟨w1.heap.size, rfl, hs, ⟨⟨fun k => k = tb, tb, 0, .slice none 0 0, made_at _ _ rfl, T1.out.2.1.alloc _, Seg.nil _ _ _, Nat.le_refl _, ⟨hs, fun e => ?_⟩, fun k hk => ?_, fun x hx => by cases hx⟩, fun k hk => Nat.le_trans HR.out.size hk, fun s hs => by cases hs⟩, T1.out.2.2.alloc hs _⟩
  · have e : w1.heap.size = tb := e
    omega
  · rw [show k = tb from hk]; exact T1.out.1

section
variable {B : Nat} {F : Nat → Prop} {w : World} {vb fl : Nat} {L : List ByteArray}

set_option maxRecDepth 100000 in
set_option maxHeartbeats 2000000 in
theorem Va.add (h : Va B F w vb L fl) (a : Option Addr) (c : Nat) (M : List ByteArray) (hM : Strs w (.slice a M.length c) M)
    (hv : ∀ x, (Value.slice a M.length c).ownBlock = some x → ¬ F x) (hn : L.length + M.length < 1000000) :
    Calls Tryz.prog 22 #[.pointer (some ⟨vb, 0, none⟩), .slice a M.length c] w fun en w' => en = .returned (.tuple #[]) ∧ Va B (fun k => F k ∨ w.heap.size ≤ k) w' vb (L ++ M) fl ∧ Turn F w w' := by
  obtain ⟨T, tb, first, cv, r⟩ := h.raw
  have e0 := r.own.cell 0
  simp at e0
  obtain ⟨i0, z0, hi0, hz0, hz1, hz2, hz3⟩ := flt.strInfo
  have hfl : fl ≤ L.length := r.tree.floor
  have tr0 := r.tree.fcongr (f' := leafF (L ++ M)) (fun i hi => (leafF_app L M i hi).symm) (leafF_len _)
  have HT := Lib.hid (tr0.append_calls a c M hM (fun x hx hT => hv x hx (r.ft x hT)) (fun i s hs => by
    rw [leafF_at (L ++ M) (L.length + i) s (by rw [List.getElem?_append_right (by omega), Nat.add_sub_cancel_left]; exact hs)]) hn)
  obtain ⟨m, hm⟩ : ∃ m, m = M.length := ⟨_, rfl⟩
  obtain ⟨ca, cc, hcv, _, _⟩ := r.seg.slice
  have H := Lib.hid (show _ ∧ _ ∧ _ ∧ _ ∧ _ ∧ _ ∧ _ from ⟨h, r, hM, hv, hn, hi0, hz0⟩)
  clear h r hM hv hn hi0 hz0 tr0
  rw [← hm] at HT H ⊢
  have HM := Lib.hid hm
  clear hm
  subst hcv
  go_enter Tryz.func22, Tryz.ntmps22
  go_wp2_with fail
  refine HT.out.mono ?_
  rintro en w1 ⟨rfl, t1, u1⟩
  obtain ⟨h, r, hM, hv, hn, _, _⟩ := H.out
  have own1 := r.own.turn u1 r.fv.2
  have seg1 := r.seg.turn u1 (fun x hx => (r.fc x hx).2)
  have hM1 := hM.1.turn u1 (fun x hx hT => hv x hx (r.ft x hT))
  rw [← HM.out] at hM1
  have e1 := own1.cell 0
  have e2 := own1.cell 2
  simp at e1 e2
  have fz := own1.free 2
  have T1 := Lib.hid (show _ ∧ _ ∧ _ ∧ _ ∧ _ from ⟨t1, u1, own1, seg1, hM1⟩)
  clear t1 u1 own1 seg1 hM1 h r hM hv hn e0 HT
  go_wp2_with (first
    | ((with_reducible refine at_op 16 ?_); refine wpList_append_every (o := ⟨some 16, _, _, _, _, _⟩) _ rfl (.tmp 14) (.tmp 15) 22 rfl 9 i0 z0 1 16 Tryz.underlying22 H.out.2.2.2.2.2.1 H.out.2.2.2.2.2.2 hz1 hz3 hz2 (by decide) _ (L.length - first) (keptC L fl first) rfl T1.out.2.2.2.1 _ m (M.map Value.string) rfl T1.out.2.2.2.2 (fun u hu => by obtain ⟨s, _, rfl⟩ := List.mem_map.1 hu; rfl) (by have := H.out.2.2.2.2.1; unfold maxLen; omega) (by have := H.out.2.2.2.2.1; omega) ?_;
       intro y w2 hs2 hg2 hb2
       obtain ⟨ya, yc, rfl, _, _⟩ := hs2.slice
       have T2 := Lib.hid (show _ ∧ _ ∧ _ from ⟨hs2, hg2, hb2⟩)
       have own2 : Hid (Has w2 vb 87 #[.pointer (some ⟨tb, 0, none⟩), .int .i64 first, .slice ca (L.length - first) cc]) := Lib.hid (T1.out.2.2.1.grown hg2 (fun e => T1.out.2.2.2.1.ne T1.out.2.2.1 (by decide) e.symm))
       have e3 := own2.out.cell 2
       have f3 := own2.out.free 2
       simp at e3
       clear hs2 hg2 hb2)
    | fail)
  go_end0
  obtain ⟨h, r, hM, hv, hn, _, _⟩ := H.out
  have hsz := T1.out.2.1.size
  have hvl := r.own.lt
  have hlen : (L ++ M).length = L.length + m := by rw [List.length_append, ← HM.out]
  have hcvb : (Value.slice ca (L.length - first) cc).ownBlock ≠ some vb := r.seg.ne r.own (by decide)
  have hy : ∀ x, (Value.slice ya (L.length - first + m) yc).ownBlock = some x → (Value.slice ca (L.length - first) cc).ownBlock = some x ∨ w1.heap.size ≤ x := T2.out.2.2
  have U2 : Turn (fun k => (Value.slice ca (L.length - first) cc).ownBlock = some k ∨ k = vb) w1 (w2.setCell ⟨vb, 2, none⟩ (.slice ya (L.length - first + m) yc)) :=
    ((Turn.refl _ w1).grown T2.out.2.1 (fun j hj _ => .inl hj)).put (fun _ => .inr rfl) 2 _
  refine ⟨rfl, ⟨⟨fun k => (T k ∨ w.heap.size ≤ k) ∧ k < w1.heap.size, tb, first, .slice ya (L.length - first + m) yc, ?_, ?_, ?_, r.first, ⟨.inl r.fv.1, fun e => ?_⟩, fun k hk => ?_, fun x hx => ?_⟩, fun k hk => ?_, fun s hs => ?_⟩, ?_⟩
  · have := own2.out.put 2 (.slice ya (L.length - first + m) yc)
    simpa using this
  · rw [hlen]
    refine (T1.out.1.more (G := fun k => (T k ∨ w.heap.size ≤ k) ∧ k < w1.heap.size) (fun k h1 h2 => ⟨h2, h1⟩) (fun k hk => T1.out.1.hF k hk.1)).turn U2 (fun k hk _ hg => ?_) (fun k hg => ?_)
    · rcases hg with hg | rfl
      · rcases hk.1 with h1 | h1
        · exact (r.fc k hg).2 h1
        · have := r.seg.lt hg; omega
      · rcases hk.1 with h1 | h1
        · exact r.fv.2 h1
        · omega
    · rcases hg with hg | rfl
      · exact h.hF _ (r.fc k hg).1
      · exact h.hF _ r.fv.1
  · have h1 := T2.out.1
    rw [keptC_app hfl] at h1
    have e : (L ++ M).length - first = L.length - first + m := by have := r.first; omega
    rw [e]
    exact Seg.far h1 (fun e => by
      rcases hy vb e with h2 | h2
      · exact hcvb h2
      · omega) _
  · rcases e.1 with h1 | h1
    · exact r.fv.2 h1
    · omega
  · exact hk.1.imp (r.ft k) id
  · rcases hy x hx with h1 | h1
    · refine ⟨.inl (r.fc x h1).1, fun e => ?_⟩
      rcases e.1 with h2 | h2
      · exact (r.fc x h1).2 h2
      · have := r.seg.lt h1; omega
    · exact ⟨.inr (by omega), fun e => by have := e.2; omega⟩
  · rcases hk with h1 | h1
    · exact h.hF k h1
    · have := h.rt.size; omega
  · rcases List.mem_append.1 hs with h1 | h1
    · exact h.short s h1
    · exact hM.2 s h1
  · refine (T1.out.2.1.more (fun j _ h1 => r.ft j h1)).trans U2 (fun j _ hg => ?_)
    rcases hg with hg | rfl
    · exact (r.fc j hg).1
    · exact r.fv.1
end
end Go.Proofs.YtdoadmkaoboncaaGreatDoor.prn
