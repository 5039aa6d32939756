/- Texts laid into one: RepG, Strs. -/
import Derived.Test.YtcdedkgkingbdaaGreatDoorQ040
import Derived.Test.YtcdedkgkingbdaaGreatDoorQ012
import Derived.Test.YtcdedkgkingbdaaGreatDoorQ029
import Derived.Carry
import Derived.Test.YtcdedkgkingbdaaGreatDoorQ000
import Derived.SliceStrings
import Derived.ProofKit
import Derived.OpenShut
import Derived.Deep.MidRow
import Derived.Deep.SlicePairs
import Derived.ChangeOld
section
/- replay: a new line. -/
namespace Go.Proofs.YtcdedkgkingbdaaGreatDoor.rep
open Go Go.RowKit Go.Maps Go.Proofs.YtcdedkgkingbdaaGreatDoor.object Go.Proofs.YtcdedkgkingbdaaGreatDoor.prn Go.Proofs.YtcdedkgkingbdaaGreatDoor.tws

theorem tz_of {B : Nat} {w : World} (h : dig.Rt B w) : tow.Tz B w := ⟨h.tz, h.lo.2, h.size⟩
theorem wp_region_heldV {P : Program} {ops : Array Oper} {Q : Exit → Act → World → Prop} {id : Nat} {a : Act} {w : World} (S : World → Prop) (V : World) (hV : V = w.drew) (hm : P.follows .mixedOrders = true)
    (h : wpAnyH P .any ops Q S ops.size (Array.replicate ops.size false) a V) : (Code.region id ops true).wp P Q a w := by
  subst hV
  exact wp_region_any hm (wpAny_of_held _ _ _ _ h)

/-- A line's parts, while it is made, or goes on. -/
structure Lq (B : Nat) (w0 : World) (b vb tb m : Nat) (v : Value) (lo hi : Nat) (y : Ob) (L : List ByteArray) (fl : Nat) (l : List (Int × ByteArray)) (F1 F2 : Nat → Prop) (V : World) : Prop where
  own : Has V b 53 #[.pointer (some ⟨vb, 0, none⟩), v, .pointer (some ⟨tb, 0, none⟩), .map (some m)]
  va : Va B F1 V vb L fl
  st : St V v lo hi y
  tw : Tw V tb l F2
  mp : V.ownsMap Tryz.prog 3 anyR m 0 (.map [])
  ap : Ap B V b m lo hi F1 F2
  bel : Below w0.heap.size w0 V
section
variable {B : Nat} {w0 V V' : World} {b vb tb m lo hi fl : Nat} {v : Value} {y : Ob} {L : List ByteArray} {l : List (Int × ByteArray)} {F1 F2 G : Nat → Prop}
theorem Lq.turn (h : Lq B w0 b vb tb m v lo hi y L fl l F1 F2 V) (t : Turn G V V') (hG : ∀ j, Fp b m lo hi F1 F2 j → j < V.heap.size → ¬ G j) (hB : ∀ j, G j → B ≤ j) (h0 : ∀ j, G j → w0.heap.size ≤ j) : Lq B w0 b vb tb m v lo hi y L fl l F1 F2 V' :=
  ⟨h.own.turn t (hG b (.inl rfl) h.own.lt), h.va.turn t (fun j hj hl => hG j (.inr (.inr (.inr (.inl hj)))) hl) hB, h.st.turn t (fun j h1 h2 => hG j (.inr (.inr (.inl ⟨h1, h2⟩))) (by have := h.ap.rng.2; omega)), h.tw.turn t (fun j hl hj => hG j (.inr (.inr (.inr (.inr hj)))) hl), by
    obtain ⟨es, clock, h1, h2⟩ := h.mp
    exact ⟨es, clock, (t.block m (map_lt h.mp) (hG m (.inr (.inl rfl)) (map_lt h.mp))).trans h1, h2⟩, h.ap.turn t.size, h.bel.trans (t.below h.bel.size (fun j hj e => by have := h0 j e; omega))⟩
theorem Lq.below (h : Lq B w0 b vb tb m v lo hi y L fl l F1 F2 V) (t : Below V.heap.size V V') : Lq B w0 b vb tb m v lo hi y L fl l F1 F2 V' :=
  h.turn (Turn.of_below (F := fun k => V.heap.size ≤ k) t (fun _ _ h => h)) (fun j _ h1 h2 => by omega) (fun j hj => Nat.le_trans h.va.rt.size hj) (fun j hj => Nat.le_trans h.bel.size hj)
/-- Bytes of the object now. -/
theorem save_parts (h1 : V.cell? ⟨b, 1, none⟩ = some v) (hs : St V v lo hi y) : Calls Tryz.prog 25 #[.pointer (some ⟨b, 0, none⟩)] V fun en w' => en = .returned (.string y.save) ∧ Below V.heap.size V w' := by
  obtain ⟨T, d, fK, fD, fC, fS, Fc⟩ := face_of hs
  have e1 : V.cell? ⟨b, 1, none⟩ = some (.iface T (pv d)) := by rw [← Fc.is]; exact h1
  have mk := Fc.mS
  have ek := Fc.eS
  have HC := Lib.hid (Fc.cS V y hs)
  clear h1 hs Fc
  set_option maxRecDepth 100000 in
  go_enter Tryz.func25, Tryz.ntmps25
  go_wp2_with fail
  refine HC.out.mono ?_
  rintro en w1 ⟨rfl, b1⟩
  have B1 := Lib.hid b1
  clear b1
  go_wp2_with fail
  go_ret
  exact ⟨rfl, B1.out⟩
end

theorem marks_new (k : Int) : Marks k [] 0 (insK 0 (object.first k).save []) := fun x => by
  show x ∈ [((0 : Int), (object.first k).save)] ↔ _
  rw [List.mem_singleton]
  constructor
  · rintro rfl
    exact ⟨0, .inl rfl, Nat.le_refl _, by rw [fold_zero]; rfl⟩
  · rintro ⟨v, _, h2, rfl⟩
    have h2 : v ≤ 0 := h2
    obtain rfl : v = 0 := by omega
    rw [fold_zero]; rfl

set_option maxRecDepth 100000 in
set_option maxHeartbeats 4000000 in
theorem lnew_calls (B : Nat) (w : World) (hR : dig.Rt B w) (k : Int) (hk : k = 1 ∨ k = 2 ∨ k = 3) :
    Calls Tryz.prog 10 #[.int .i64 k] w fun en w' => ∃ b, en = .returned (.pointer (some ⟨b, 0, none⟩)) ∧ w.heap.size ≤ b ∧ Ln B (fun j => w.heap.size ≤ j) w' b k [] 0 ∧ Below w.heap.size w w' := by
  have HK := Lib.hid hk
  have HR := Lib.hid hR
  have hrun0 := fun W => run_makeMap (P := Tryz.prog) 51 W
  clear hk hR
  go_enter Tryz.func10, Tryz.ntmps10
  go_wp2_with fail
  refine (onew_calls k w HK.out).mono ?_
  rintro en w1 ⟨v, rfl, st1, b1⟩
  obtain ⟨T, d, fK, fD, fC, fS, Fc⟩ := face_of st1
  obtain rfl := Fc.is
  have ms := Fc.mS
  have es := Fc.eS
  have HFS := Lib.hid Fc.cS
  have P1 := Lib.hid (show _ ∧ _ from ⟨st1, b1⟩)
  clear st1 b1 Fc
  go_wp2_with fail
  refine (vnew_calls B w1 (HR.out.below P1.out.2 HR.out.size)).mono ?_
  rintro en w2 ⟨vb, rfl, hvb, va2, b2⟩
  have P2 : Hid (St w2 (.iface T (pv d)) w.heap.size w1.heap.size (object.first k) ∧ Va B (fun j => w1.heap.size ≤ j ∧ j < w2.heap.size) w2 vb [] 0 ∧ Below w.heap.size w w2 ∧ w.heap.size ≤ w1.heap.size ∧ w1.heap.size ≤ w2.heap.size) := Lib.hid ⟨P1.out.1.below b2 (Nat.le_refl _), va2.tight, P1.out.2.trans (b2.mono P1.out.2.size), P1.out.2.size, b2.size⟩
  clear hvb va2 b2 P1
  go_wp2_with fail
  refine (tw_new w2).mono ?_
  rintro en w3 ⟨tb, rfl, htb, tw3, b3⟩
  have P3 : Hid (St w3 (.iface T (pv d)) w.heap.size w1.heap.size (object.first k) ∧ Va B (fun j => w1.heap.size ≤ j ∧ j < w2.heap.size) w3 vb [] 0 ∧ Tw w3 tb [] (fun j => w2.heap.size ≤ j ∧ j < w3.heap.size) ∧ Below w.heap.size w w3 ∧ w.heap.size ≤ w1.heap.size ∧ w1.heap.size ≤ w2.heap.size ∧ w2.heap.size ≤ w3.heap.size) :=
    Lib.hid ⟨P2.out.1.below b3 P2.out.2.2.2.2, P2.out.2.1.below b3, tw3.more (fun j h1 h2 => ⟨h2, h1⟩), P2.out.2.2.1.trans (b3.mono P2.out.2.2.1.size), P2.out.2.2.2.1, P2.out.2.2.2.2, b3.size⟩
  clear htb tw3 b3 P2
  go_wp2_with fail
  refine wp_named (fun W hW => ?_)
  have Q0 : Hid (Lq B w (w3.heap.size + 1) vb tb w3.heap.size (.iface T (pv d)) w.heap.size w1.heap.size (object.first k) [] 0 [] (fun j => w1.heap.size ≤ j ∧ j < w2.heap.size) (fun j => w2.heap.size ≤ j ∧ j < w3.heap.size) W) := by
    obtain ⟨h1, h2, h3, h4, h5, h6, h7⟩ := P3.out
    have hb := HR.out.size
    have bb : Below w3.heap.size w3 W := by rw [← hW]; exact ((Below.refl _ _).alloc (Nat.le_refl _) _).alloc (by simp) _
    have hsz : W.heap.size = w3.heap.size + 2 := by rw [← hW]; simp
    refine Lib.hid ⟨by rw [← hW]; exact made_at _ _ (by simp), h2.below bb, h1.below bb (by omega), h3.below bb, ?_, ⟨⟨hb, by omega⟩, ⟨by omega, by omega, by omega⟩, fun j hj => ⟨by omega, by omega, by omega, by omega, by omega, by omega⟩, fun j hj => ⟨by omega, by omega, by omega, by omega, by omega⟩, fun j a1 a2 => ⟨by omega, by omega⟩⟩, h4.trans (bb.mono h4.size)⟩
    rw [← hW]
    exact (World.ownsMap_made w3 Tryz.prog 3 anyR).alloc _
  have hlt := Lib.hid (show _ ∧ _ ∧ _ ∧ _ from ⟨P3.out.2.2.2.2.1, P3.out.2.2.2.2.2.1, P3.out.2.2.2.2.2.2, HR.out.size⟩)
  obtain ⟨b, hb⟩ : ∃ b, b = w3.heap.size + 1 := ⟨_, rfl⟩
  rw [← hb] at Q0 ⊢
  have HBB : Hid (w.heap.size ≤ b ∧ w.heap.size ≤ w3.heap.size) := Lib.hid ⟨by have := hlt.out; omega, by have := hlt.out; omega⟩
  clear hW P3 hb hrun0
  obtain ⟨V, hV⟩ : ∃ V, V = W.drew := ⟨_, rfl⟩
  refine wp_region_heldV (fun V => Has V b 53 #[.pointer (some ⟨vb, 0, none⟩), .iface T (pv d), .pointer (some ⟨tb, 0, none⟩), .map (some w3.heap.size)]) V hV (by kernel_rfl) ?_
  have Q1 := Q0.out.below (V' := V) (by rw [hV]; exact (Below.refl _ _).drew)
  have S0 := Q1.own
  clear hV Q0
  refine held_take 0 (some 15) (v := .pointer (some ⟨b, 0, none⟩)) rfl rfl (by kernel_rfl) (by kernel_rfl) (by kernel_rfl) (fun _ _ _ h => h) (.inl ⟨by kernel_rfl, fun V hV => by rfl⟩) S0 ?_
  simp only [Act.put, List.setIfInBounds_toArray, List.set_cons_zero, List.set_cons_succ]
  refine held_take 1 (some 16) (v := .pointer (some ⟨b, 0, none⟩)) rfl rfl (by kernel_rfl) (by kernel_rfl) (by kernel_rfl) (fun _ _ _ h => h) (.inl ⟨by kernel_rfl, fun V hV => by go_simp⟩) S0 ?_
  simp only [Act.put, List.setIfInBounds_toArray, List.set_cons_zero, List.set_cons_succ]
  refine held_take 2 (some 17) (v := .pointer (some ⟨b, 2, none⟩)) rfl rfl (by kernel_rfl) (by kernel_rfl) (by kernel_rfl) (fun _ _ _ h => h) (.inl ⟨by kernel_rfl, fun V hV => by go_simp⟩) S0 ?_
  simp only [Act.put, List.setIfInBounds_toArray, List.set_cons_zero, List.set_cons_succ]
  refine held_take 3 (some 18) (v := .pointer (some ⟨tb, 0, none⟩)) rfl rfl (by kernel_rfl) (by kernel_rfl) (by kernel_rfl) (fun _ _ _ h => h) (.inl ⟨by kernel_rfl, fun V hV => by have c2 : V.cell? ⟨b, 2, none⟩ = some (.pointer (some ⟨tb, 0, none⟩)) := hV.cell 2; go_simp⟩) S0 ?_
  simp only [Act.put, List.setIfInBounds_toArray, List.set_cons_zero, List.set_cons_succ]
  refine held_take 4 (some 19) (v := .iface T (pv d)) rfl rfl (by kernel_rfl) (by kernel_rfl) (by kernel_rfl) (fun _ _ _ h => h) (.inl ⟨by kernel_rfl, fun V hV => by rfl⟩) S0 ?_
  simp only [Act.put, List.setIfInBounds_toArray, List.set_cons_zero, List.set_cons_succ]
  refine held_one (i := 5) (by kernel_rfl) ?_
  refine wpOp_invoke (some 20) rfl rfl (by kernel_rfl) (.tmp 19) "Save" T (pv d) (by first | (simp [Act.eval]; done) | (simp [Act.eval, Act.put]; done)) fS (.pointer (some ⟨d, 0, none⟩)) (ms _ _) es #[] #[] rfl #[] (by simp) (HFS.out _ _ Q1.st) ?_
  rintro en w6 ⟨rfl, b6⟩
  have Q2 := Q1.below b6
  have S1 := Q2.own
  clear b6 Q1 S0
  refine ⟨_, rfl, S1, ?_⟩
  simp only [Act.put, List.setIfInBounds_toArray, List.set_cons_zero, List.set_cons_succ]
  refine held_one (i := 6) (by kernel_rfl) ?_
  refine wpOp_call (some 21) rfl rfl (by kernel_rfl) 41 Tryz.f41 Tryz.func41 (by kernel_rfl) (by kernel_rfl) _ _ rfl #[.pointer (some ⟨tb, 0, none⟩), .int .i64 0, .string (object.first k).save] (by first | (simp [Act.eval]; done) | (simp [Act.eval, Act.put]; done)) (Q2.tw.put_calls (tz_of Q2.va.rt) 0 (object.first k).save (by simp) (by omega)) ?_
  rintro en w7 ⟨was, rfl, _, tw7, t7⟩
  have S2 : Has w7 b 53 #[.pointer (some ⟨vb, 0, none⟩), .iface T (pv d), .pointer (some ⟨tb, 0, none⟩), .map (some w3.heap.size)] := S1.turn t7 (fun e => by have := (Q2.ap.h2 _ e).2.2.1; omega)
  have FIN : Hid (Ln B (fun j => w.heap.size ≤ j) w7 b k [] 0 ∧ Below w.heap.size w w7) := by
    have hx := hlt.out
    have ha := Q2.ap
    have hsz := t7.size
    have hq := Q2.bel.size
    have hvt := Q2.va.turn t7 (fun j hj _ e => (ha.h1 j hj).2.2.2.2.2 e) (fun j e => (ha.h2 j e).1)
    refine Lib.hid ⟨⟨vb, tb, w3.heap.size, .iface T (pv d), w.heap.size, w1.heap.size, object.first k, insK 0 (object.first k).save [], _, fun j => (w2.heap.size ≤ j ∧ j < w3.heap.size) ∨ (w6.heap.size ≤ j ∧ j < w7.heap.size), ⟨S2, hvt, Q2.st.turn t7 (fun j a1 a2 e => (ha.h2 j e).2.2.2.2 ⟨a1, a2⟩), by rw [show ([] : List Cm).length = 0 from rfl, fold_zero]; exact Ob.Like.refl (inv_first k), tw7.more (fun j h1 h2 => h2.imp id (fun h => ⟨h, h1⟩)), ?_, Did.nil k, HK.out, marks_new k, Nat.le_refl _⟩, ⟨⟨ha.rng.1, by have := ha.rng.2; omega⟩, ha.hb, fun j hj => ⟨(ha.h1 j hj).1, by have := (ha.h1 j hj).2.1; omega, (ha.h1 j hj).2.2.1, (ha.h1 j hj).2.2.2.1, (ha.h1 j hj).2.2.2.2.1, fun e => by rcases e with e | e; (exact (ha.h1 j hj).2.2.2.2.2 e); (have := (ha.h1 j hj).2.1; omega)⟩, fun j hj => ?_, ha.ho⟩, fun j hj => ?_⟩, Q2.bel.trans (t7.below hq (fun j hj e => by omega))⟩
    · obtain ⟨es, clock, e1, e2⟩ := Q2.mp
      exact ⟨es, clock, (t7.block _ (map_lt Q2.mp) (fun e => (ha.h2 _ e).2.2.2.1 rfl)).trans e1, e2⟩
    · rcases hj with e | e
      · exact ⟨(ha.h2 j e).1, by have := (ha.h2 j e).2.1; omega, (ha.h2 j e).2.2.1, (ha.h2 j e).2.2.2.1, (ha.h2 j e).2.2.2.2⟩
      · have hbl := S1.lt; have hml := map_lt Q2.mp; have := ha.rng.2; exact ⟨by omega, by omega, by omega, by omega, by omega⟩
    · show w.heap.size ≤ j; have := HBB.out; rcases hj with rfl | rfl | e | e | e | e <;> omega
  clear Q2 S1 tw7 t7
  refine ⟨_, rfl, S2, ?_⟩
  simp only [Act.put, List.setIfInBounds_toArray, List.set_cons_zero, List.set_cons_succ]
  refine wpAnyH_done (by kernel_rfl) ?_ _
  clear S2
  go_wp2_with fail
  go_ret
  exact ⟨b, rfl, HBB.out.1, FIN.out.1, FIN.out.2⟩
end Go.Proofs.YtcdedkgkingbdaaGreatDoor.rep
end

section
/- A slice of strings that is handed in: what a law may read of it. -/
namespace Go.Proofs.YtcdedkgkingbdaaGreatDoor
open Go.ChangeShapes Go.WideShapes Go.ChangeAt Go.RowKit

end Go.Proofs.YtcdedkgkingbdaaGreatDoor
end

