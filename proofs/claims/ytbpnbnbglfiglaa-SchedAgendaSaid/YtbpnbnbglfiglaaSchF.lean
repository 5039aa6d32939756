/- sched: an agenda's Take. -/
import Derived.Test.YtbpnbnbglfiglaaSchE
namespace Go.Proofs.Ytbpnbnbglfiglaa.sch
open Go Go.RowKit Go.Maps

section
variable {w W W' : World} {g m : Nat} {D : DataW Value} {V : Int → Value} {L : Int → List ByteArray}

theorem take_none (h : Ag w g m D V L W) (who : Int) (hw : Fits who) (hL : L who = []) : Calls Try.prog 20 #[.pointer (some ⟨g, 0, none⟩), .int .i64 who] W fun en W' => en = .returned (.tuple #[.string ⟨#[]⟩, .bool false]) ∧ W = W' := by
  have c0 : W.cell? ⟨g, 0, none⟩ = some (.map (some m)) := h.box.cell 0
  have hl := h.look who hw
  obtain ⟨a, c, hv, _⟩ := (h.seg who).slice
  rw [hv, hL] at hl
  have hl' : (Instr.lookup 48 (.map (some m)) (.int .i64 who) false).run Try.prog W = .ok (.slice a 0 c) W := hl
  clear h hv hl
  go_enter Try.func20, Try.ntmps20
  go_wp2_with fail
  exact bodyPost_ret (v := .tuple #[.string ⟨#[]⟩, .bool false]) (by simp [results, Try.results20, go_sem]) rfl ⟨rfl, rfl⟩

set_option maxRecDepth 100000 in
/-- Deleted. -/
theorem Ag.drop (h : Ag w g m D V L W) (who : Int) (hw : Fits who) : ∃ W', (Builtin.delete_ #[48, 3] 0 #[.map (some m), .int .i64 who]).run Try.prog W = .ok (.tuple #[]) W' ∧ Ag w g m (D.del (kI who)) (updI V who nilS) (updI L who []) W' ∧ W.grownBy W' (some m) := by
  have hown : W.ownsMap Try.prog 3 anyR m (Maps.size D) D := h.map
  obtain ⟨W', hrun, hown', hturn⟩ := hown.drop intKeyed Try.underlying48 (kI_of hw) 0
  have hg := hturn.grown
  have hgm : m ≠ g := h.map.ne h.box
  have t : Turn (fun j => j = m) W W' := (Turn.refl _ W).grown hg (fun j e _ => by injection e with e; exact e.symm)
  refine ⟨W', hrun, ⟨h.box.turn t (fun e => hgm e.symm), mv_tight hown', fun x hx => ?_, fun x => ?_, fun x => ?_, fun x y b hxy hb hb2 => ?_, h.ng, h.nm, fun x b hb => ?_, h.turn.trans t (fun j _ e => by rw [e]; exact h.nm)⟩, hg⟩
  · by_cases e : x = who
    · subst e
      rw [updI_same]
      exact atKey_del_same _
    · rw [updI_other _ _ e, atKey_del_other (fun h => e (kI_inj h))]
      exact h.at_ x hx
  · by_cases e : x = who
    · subst e
      rw [updI_same, has_del_same]
      exact ⟨fun h => (by cases h), fun h => absurd rfl h⟩
    · rw [updI_other _ _ e, has_del_other (fun h => e (kI_inj h))]
      exact h.has x
  · by_cases e : x = who
    · subst e
      rw [updI_same, updI_same]
      exact Seg.nil _ _ _
    · rw [updI_other _ _ e, updI_other _ _ e]
      exact (h.seg x).turn t (fun b hb e2 => h.map.seg (h.seg x) (by rw [hb, e2]))
  · by_cases e : x = who
    · subst e
      rw [updI_same] at hb; cases hb
    · rw [updI_other _ _ e] at hb
      by_cases e2 : y = who
      · subst e2
        rw [updI_same] at hb2; cases hb2
      · rw [updI_other _ _ e2] at hb2
        exact h.apart x y b hxy hb hb2
  · by_cases e : x = who
    · subst e
      rw [updI_same] at hb; cases hb
    · rw [updI_other _ _ e] at hb
      exact h.nv x b hb

def TakePost (w : World) (g m : Nat) (V : Int → Value) (L : Int → List ByteArray) (D : DataW Value) (who : Int) (s : ByteArray) (t : List ByteArray) (W : World) (en : Ending) (W' : World) : Prop :=
  en = .returned (.tuple #[.string s, .bool true]) ∧ ∃ D' v, Ag w g m D' (updI V who v) (updI L who t) W' ∧ (∀ b, v.ownBlock = some b → (V who).ownBlock = some b) ∧ Maps.size D' ≤ Maps.size D + 1 ∧ Turn (Kin g m V) W W'

theorem sizeD_put {D : DataW Value} (h : Tidy D) (x : Int) (d : DataW Value) : Maps.size (D.put (kI x) d) ≤ Maps.size D + 1 := by
  rw [size_put h]; split <;> omega
theorem sizeD_del {D : DataW Value} (h : Tidy D) (x : Int) : Maps.size (D.del (kI x)) ≤ Maps.size D := by
  have := size_del (k := kI x) h; omega

set_option maxRecDepth 100000 in
set_option maxHeartbeats 4000000 in
theorem take_last (h : Ag w g m D V L W) (who : Int) (hw : Fits who) (s : ByteArray) (hL : L who = [s]) :
    Calls Try.prog 20 #[.pointer (some ⟨g, 0, none⟩), .int .i64 who] W (TakePost w g m V L D who s [] W) := by
  have c0 : W.cell? ⟨g, 0, none⟩ = some (.map (some m)) := h.box.cell 0
  have hl := h.look who hw
  have hseg := h.seg who
  rw [hL] at hseg
  obtain ⟨b, o, c, hv, hb, hc1, hc2, hcell⟩ := hseg.cells (by simp)
  have c1 : W.cell? ⟨b, o, none⟩ = some (.string s) := hcell 0 (.string s) rfl
  rw [hv] at hl
  have hl' : (Instr.lookup 48 (.map (some m)) (.int .i64 who) false).run Try.prog W = .ok (.slice (some ⟨b, o, none⟩) 1 c) W := hl
  have hty : Tidy D := World.ownsMap.tidy (show W.ownsMap Try.prog 3 anyR m (Maps.size D) D from h.map) intKeyed
  obtain ⟨W3, hrun3, A3, hg3⟩ := h.drop who hw
  have P3 : Hid (TakePost w g m V L D who s [] W (.returned (.tuple #[.string s, .bool true])) W3) := Lib.hid ⟨rfl, _, nilS, A3, fun b hb => (by cases hb), by have := sizeD_del hty who; omega, (Turn.refl (Kin g m V) W).grown hg3 (fun j e _ => by injection e with e; exact .inr (.inl e.symm))⟩
  clear h hv hl hL hseg hcell A3 hg3 hty hb hc1 hc2
  go_enter Try.func20, Try.ntmps20
  go_wp2_with fail
  exact bodyPost_ret (v := .tuple #[.string s, .bool true]) (by simp [results, Try.results20, go_sem]) rfl P3.out

set_option maxRecDepth 100000 in
set_option maxHeartbeats 4000000 in
theorem take_more (h : Ag w g m D V L W) (who : Int) (hw : Fits who) (s : ByteArray) (t : List ByteArray) (hL : L who = s :: t) (ht : t ≠ []) (ht1 : t.length ≤ 1000) (hs : Maps.size D < 1000000) :
    Calls Try.prog 20 #[.pointer (some ⟨g, 0, none⟩), .int .i64 who] W (TakePost w g m V L D who s t W) := by
  have c0 : W.cell? ⟨g, 0, none⟩ = some (.map (some m)) := h.box.cell 0
  have hl := h.look who hw
  have hseg := h.seg who
  obtain ⟨k, hk⟩ : ∃ k, t.length = k + 1 := ⟨t.length - 1, by cases t with | nil => exact absurd rfl ht | cons _ _ => simp⟩
  have hLl : (L who).length = k + 2 := by rw [hL, List.length_cons, hk]
  rw [hLl, hL] at hseg
  obtain ⟨b, o, c, hv, hb, hc1, hc2, hcell⟩ := hseg.cells (by omega)
  have c1 : W.cell? ⟨b, o, none⟩ = some (.string s) := hcell 0 (.string s) rfl
  rw [hv] at hl hseg
  have hfr : ∀ (V' : World) (o' : Nat), V'.heap[b]? = W.heap[b]? → V'.frozen? ⟨b, o', none⟩ = false := fun V' o' e => by
    rcases hseg.2 with ⟨e0, _⟩ | ⟨g', off', cap', cur, e0, hg', _⟩
    · cases e0
    · injection e0 with e0
      injection e0 with e0
      injection e0 with e0
      subst e0
      exact Has.free (e.trans hg') o'
  have f1 : W.frozen? ⟨b, o, none⟩ = false := hfr W o rfl
  have hbg : b ≠ g := fun e => (h.seg who).ne h.box (by decide) (by rw [hv, ← e]; rfl)
  have hbm : b ≠ m := fun e => h.map.seg (h.seg who) (by rw [hv, ← e]; rfl)
  have hvb : (V who).ownBlock = some b := by rw [hv]; rfl
  have t2 : Turn (fun j => j = b) W (W.setCell ⟨b, o, none⟩ (.string ⟨#[]⟩)) := (Turn.refl (fun j => j = b) W).put (fun _ => rfl) o _
  have hseg2 : Seg (W.setCell ⟨b, o, none⟩ (.string ⟨#[]⟩)) 9 1 (.slice (some ⟨b, o + 1, none⟩) (k + 1) (c - 1)) t.length (strs t) := by
    have h1 := hseg.put 0 (.string ⟨#[]⟩)
    have h2 := h1.behind 1 (by omega)
    rw [Nat.mul_one] at h2
    rw [hk]
    exact h2
  have hty : Tidy D := World.ownsMap.tidy (show W.ownsMap Try.prog 3 anyR m (Maps.size D) D from h.map) intKeyed
  obtain ⟨W3, hrun3, A3, hg3⟩ := Ag.store (w := w) (W := (W.setCell ⟨b, o, none⟩ (.string ⟨#[]⟩)).drew) (g := g) (m := m) (D := D) (V := V) (L := L) (v := .slice (some ⟨b, o + 1, none⟩) (k + 1) (c - 1)) (l := t) (h.box.turn t2.drew (fun e => hbg e.symm)) (h.map.keep (t2.drew.block m h.map.lt (fun e => hbm e.symm))) h.at_ h.has who hw
    (fun x hx => (h.seg x).turn t2.drew (fun b' hb' e => h.apart x who b' hx hb' (by rw [e]; exact hvb))) hseg2.drew
    (by
      intro x y b' hxy hb' hb2
      have key : ∀ x, (updI V who (.slice (some ⟨b, o + 1, none⟩) (k + 1) (c - 1)) x).ownBlock = (V x).ownBlock := fun x => by
        by_cases e : x = who
        · subst e; rw [updI_same]; exact hvb.symm
        · rw [updI_other _ _ e]
      rw [key] at hb' hb2
      exact h.apart x y b' hxy hb' hb2)
    ht h.ng h.nm
    (by
      intro x b' hb'
      by_cases e : x = who
      · subst e
        rw [updI_same] at hb'
        obtain rfl : b = b' := by injection hb' with hb'
        exact h.nv x b hvb
      · rw [updI_other _ _ e] at hb'
        exact h.nv x b' hb')
    (h.turn.trans t2.drew (fun j _ e => by rw [e]; exact h.nv who b hvb)) hs
  have P3 : Hid (TakePost w g m V L D who s t W (.returned (.tuple #[.string s, .bool true])) W3) := Lib.hid ⟨rfl, _, _, A3, fun b' hb' => (by
      obtain rfl : b = b' := by injection hb' with hb'
      exact hvb), sizeD_put hty who _, (t2.drew.more (F := Kin g m V) (fun j _ e => by rw [e]; exact .inr (.inr ⟨who, hvb⟩))).grown hg3 (fun j e _ => by injection e with e; exact .inr (.inl e.symm))⟩
  have c0' : (W.setCell ⟨b, o, none⟩ (.string ⟨#[]⟩)).cell? ⟨g, 0, none⟩ = some (.map (some m)) := (h.box.turn t2 (fun e => hbg e.symm)).cell 0
  have hl' : (Instr.lookup 48 (.map (some m)) (.int .i64 who) false).run Try.prog W = .ok (.slice (some ⟨b, o, none⟩) (k + 2) c) W := hl
  have hc1' : (1 : Int) ≤ (c : Int) := by omega
  have hc2' : (c : Int) ≤ 9223372036854775807 := by unfold maxLen at hc2; omega
  have hk1 : ((k + 2 : Nat) : Int) ≤ 1002 := by omega
  have hk2 : ((k + 2 : Nat) : Int) ≤ (c : Int) := by omega
  clear h hv hl hL hseg hcell A3 hg3 hty hb hc1 hc2 hseg2 t2 hvb hbm hbg hfr ht ht1 hk hLl hs
  go_enter Try.func20, Try.ntmps20
  go_wp2_with fail
  go_region
  all_goals
    go_wp2_with fail
    exact bodyPost_ret (v := .tuple #[.string s, .bool true]) (by simp [results, Try.results20, go_sem]) rfl P3.out
end
end Go.Proofs.Ytbpnbnbglfiglaa.sch
