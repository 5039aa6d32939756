/- Texts laid into one: PruF, FltA. -/
import Derived.Test.YtcdedkgkingbdaaGreatDoorQ013
import Derived.Test.YtcdedkgkingbdaaGreatDoorQ000
import Derived.LaidEql
import Derived.Stop.Asserts
import Derived.RowKitTokens
section
/- prune: Head, answer, Leaf. -/
namespace Go.Proofs.YtcdedkgkingbdaaGreatDoor.prn
open Go Go.RowKit Go.Proofs.YtcdedkgkingbdaaGreatDoor.dig Go.Proofs.YtcdedkgkingbdaaGreatDoor.prf

def leafNm : ByteArray := ⟨#[108, 101, 97, 102]⟩

section
variable {B : Nat} {F : Nat → Prop} {w : World} {vb fl : Nat} {L : List ByteArray}

set_option maxRecDepth 100000 in
set_option maxHeartbeats 2000000 in
theorem Va.head (h : Va B F w vb L fl) (hN : L.length < 1024) (n : Nat) (hf : fl ≤ n) (hn : n ≤ L.length) :
    Calls Tryz.prog 32 #[.pointer (some ⟨vb, 0, none⟩), .int .i64 n] w fun en w' => en = .returned (.tuple #[.agg (headC n (rtAll (leafF L) n)), .nilIface]) ∧ Below w.heap.size w w' := by
  obtain ⟨T, tb, first, cv, r⟩ := h.raw
  have e0 : ∀ O, (w.alloc O).cell? ⟨vb, 0, none⟩ = some (.pointer (some ⟨tb, 0, none⟩)) := fun O => by
    have := (r.own.alloc O).cell 0
    simpa using this
  have HT := Lib.hid r.tree
  have hL := rtAll_len (leafF_len L) n
  obtain ⟨R, hR⟩ : ∃ R, R = rtAll (leafF L) n := ⟨_, rfl⟩
  rw [← hR] at hL ⊢
  have HL := Lib.hid hL
  have HR := Lib.hid hR
  clear hL hR
  have HN := Lib.hid (show _ ∧ _ ∧ _ from ⟨hN, hf, hn⟩)
  clear h r hN hf hn
  go_enter Tryz.func32, Tryz.ntmps32
  go_wp2_with fail
  refine callsName (fun W hW => ?_)
  have B0 : Hid (Below w.heap.size w W) := by rw [← hW]; exact Lib.hid ((Below.refl _ _).alloc (Nat.le_refl _) _)
  have Z0 : Hid (Has W w.heap.size 86 (headC 0 (List.replicate 32 0))) := by rw [← hW]; exact Lib.hid (made_at _ _ rfl)
  clear hW e0
  refine ((HT.out.below B0.out).root HN.out.1 n HN.out.2.2 HN.out.2.1).mono ?_
  rw [← HR.out]
  rintro en w1 ⟨rfl, b1⟩
  have S1 : Hid (Has w1 w.heap.size 86 (headC 0 (List.replicate 32 0)) ∧ Below w.heap.size w w1) := Lib.hid ⟨Z0.out.below b1 Z0.out.lt, B0.out.trans (b1.mono B0.out.size)⟩
  clear b1 Z0 B0
  have HRC : Hid ((cellsOf R).size = 32) := Lib.hid (by rw [cellsOf_size, HL.out])
  go_wp2_with (first
    | ((with_reducible refine at_store (.tmp 6) ?_); refine wpList_store_cells (o := ⟨none, _, _, _, _, _⟩) rfl 84 (.tmp 6) (.tmp 15) rfl w1.heap.size (cellsOf R) _ rfl rfl _ (made_at _ _ rfl) (HRC.out.symm ▸ (by kernel_rfl)) (HRC.out.symm ▸ rfl) (cellsOf_one _) ?_; intro W8 HW8 TW8;
       (have S2 : Hid (Has W8 w.heap.size 86 (headC 0 (List.replicate 32 0)) ∧ Below w.heap.size w W8 ∧ Has W8 w1.heap.size 84 (cellsOf R)) := (by
         have bb : Below w1.heap.size w1 W8 := ((Below.refl _ _).alloc (Nat.le_refl _) _).trans (TW8.below (by simp) (fun j hj e => by omega))
         exact Lib.hid ⟨S1.out.1.below bb S1.out.1.lt, S1.out.2.trans (bb.mono S1.out.2.size), HW8⟩));
       clear S1 HW8 TW8)
    | ((with_reducible refine at_op 25 ?_); refine wpList_load_row (o := ⟨some 25, _, _, _, _, _⟩) rfl 84 _ rfl w1.heap.size rfl 84 (cellsOf R) (0, 0) _ S2.out.2.2 Tryz.underlying84 rfl (by rw [HRC.out]; kernel_rfl) ?_)
    | ((with_reducible refine at_op 26 ?_); refine wpList_head (o := ⟨some 26, _, _, _, _, _⟩) rfl (.tmp 24) (.tmp 25) rfl n R rfl rfl HL.out ?_)
    | ((with_reducible refine at_store (.tmp 4) ?_); refine wpList_store_head (o := ⟨none, _, _, _, _, _⟩) rfl (.tmp 4) (.tmp 26) rfl w.heap.size n 0 R (List.replicate 32 0) rfl rfl S2.out.1 HL.out (by simp) ?_; intro W9 HW9 TW9)
    | fail)
  exact bodyPost_ret (v := .tuple #[.agg (headC n R), .nilIface]) (results_cell_tmp rfl _ _ w.heap.size 86 _ _ _ rfl HW9 Tryz.underlying86 rfl (by rw [headC_size, HL.out]; kernel_rfl) _ rfl) rfl ⟨rfl, S2.out.2.1.trans (TW9.below S2.out.2.1.size (fun j hj e => by omega))⟩

set_option maxRecDepth 100000 in
set_option maxHeartbeats 1000000 in
theorem answer_ok (s : ByteArray) (K I N : Int) (a : Option Addr) (n c : Nat) (w : World) :
    Calls Tryz.prog 80 #[.string s, .agg (prC K I N (.slice a n c)), .int .i64 0] w fun en w' => en = .returned (.tuple #[.agg (prC K I N (.slice a n c)), .nilIface]) ∧ Below w.heap.size w w' := by
  go_enter Tryz.func80, Tryz.ntmps80
  go_wp2_with fail
  exact bodyPost_ret (v := .tuple #[.agg (prC K I N (.slice a n c)), .nilIface]) (results_cell_tmp rfl _ _ (w.heap.size + 1) 93 _ _ _ rfl (made_at _ _ (by simp)) Tryz.underlying93 rfl (by kernel_rfl) _ rfl) rfl
    ⟨rfl, ((Below.refl _ _).alloc (Nat.le_refl _) _).alloc (by simp) _⟩

set_option maxRecDepth 100000 in
set_option maxHeartbeats 1000000 in
theorem answer_err (s : ByteArray) (K I N : Int) (v : Value) (E : Int) (hE : E ≠ 0) (w : World) :
    Calls Tryz.prog 80 #[.string s, .agg (prC K I N v), .int .i64 E] w (PairErr w (.agg (prC 0 0 0 (.slice none 0 0))) s I E) := by
  go_enter Tryz.func80, Tryz.ntmps80
  go_wp2_with fail
  refine (flt.in_calls [] E s I _ hE).mono ?_
  rintro en w2 ⟨rfl, rfl⟩
  go_wp2_with fail
  exact bodyPost_ret (v := .tuple #[.agg (prC 0 0 0 (.slice none 0 0)), flt.ev [⟨w.heap.size + 1 + 1, s, I⟩] E]) (results_cell_tmp rfl _ _ (w.heap.size + 1) 93 _ _ _ rfl ((made_at _ _ (by simp)).alloc _) Tryz.underlying93 rfl (by kernel_rfl) _ rfl) rfl
    ⟨w.heap.size + 1 + 1, rfl, by omega, ⟨⟨made_at _ _ (by simp), by simp⟩, trivial⟩, (((Below.refl _ _).alloc (Nat.le_refl _) _).alloc (by simp) _).alloc (by simp; omega) _⟩

section
variable {B : Nat} {F : Nat → Prop} {w : World} {vb fl : Nat} {L : List ByteArray}
/-- A proof was answered, of these sums. -/
def ProofPost (w : World) (K I N : Int) (l : List (List UInt8)) (en : Ending) (w' : World) : Prop :=
  ∃ a c, en = .returned (.tuple #[.agg (prC K I N (.slice a l.length c)), .nilIface]) ∧ Seg w' 84 32 (.slice a l.length c) l.length (sumsC l) ∧ (∀ x, (Value.slice a l.length c).ownBlock = some x → w.heap.size ≤ x) ∧ Below w.heap.size w w'

set_option maxRecDepth 100000 in
set_option maxHeartbeats 2000000 in
theorem Va.leaf (h : Va B F w vb L fl) (hN : L.length < 1024) (i n : Nat) (hn : n ≤ L.length) (hi : i < n) (hf : fl ≤ i) :
    Calls Tryz.prog 35 #[.pointer (some ⟨vb, 0, none⟩), .int .i64 i, .int .i64 n] w (ProofPost w 1 i n (path (leafF L) i 0 n)) := by
  obtain ⟨T, tb, first, cv, r⟩ := h.raw
  have e0 : ∀ O, (w.alloc O).cell? ⟨vb, 0, none⟩ = some (.pointer (some ⟨tb, 0, none⟩)) := fun O => by
    have := (r.own.alloc O).cell 0
    simpa using this
  have HT := Lib.hid r.tree
  have HN := Lib.hid (show _ ∧ _ ∧ _ ∧ _ from ⟨hN, hn, hi, hf⟩)
  obtain ⟨l, hl⟩ : ∃ l, l = path (leafF L) i 0 n := ⟨_, rfl⟩
  rw [← hl]
  have HL := Lib.hid hl
  clear h r hN hf hn hi hl
  go_enter Tryz.func35, Tryz.ntmps35
  go_wp2_with fail
  refine callsName (fun W hW => ?_)
  have B0 : Hid (Below w.heap.size w W) := by rw [← hW]; exact Lib.hid ((Below.refl _ _).alloc (Nat.le_refl _) _)
  have Z0 : Hid (Has W w.heap.size 93 (prC 0 0 0 (.slice none 0 0))) := by rw [← hW]; exact Lib.hid (made_at _ _ rfl)
  clear hW e0
  refine ((HT.out.below B0.out).inclusion HN.out.1 i n HN.out.2.1 HN.out.2.2.1 HN.out.2.2.2).mono ?_
  rw [← HL.out]
  rintro en w1 ⟨v, rfl, s1, o1, b1⟩
  obtain ⟨a, c, rfl, _, _⟩ := s1.slice
  have S1 : Hid (Has w1 w.heap.size 93 (prC 0 0 0 (.slice none 0 0)) ∧ Below w.heap.size w w1 ∧ Seg w1 84 32 (.slice a l.length c) l.length (sumsC l) ∧ (∀ x, (Value.slice a l.length c).ownBlock = some x → w.heap.size ≤ x)) :=
    Lib.hid ⟨Z0.out.below b1 Z0.out.lt, B0.out.trans (b1.mono B0.out.size), s1, fun x hx => Nat.le_trans B0.out.size (o1 x hx)⟩
  clear b1 Z0 B0 s1 o1
  obtain ⟨m, hm⟩ : ∃ m, m = l.length := ⟨_, rfl⟩
  have HM := Lib.hid hm
  rw [← hm] at S1 ⊢
  clear hm
  go_wp2_with fail
  refine (answer_ok leafNm 1 i n a m c w1).mono ?_
  rintro en w2 ⟨rfl, b2⟩
  have S2 : Hid (Has w2 w.heap.size 93 (prC 0 0 0 (.slice none 0 0)) ∧ Below w.heap.size w w2 ∧ Seg w2 84 32 (.slice a m c) m (sumsC l)) := Lib.hid ⟨S1.out.1.below b2 S1.out.1.lt, S1.out.2.1.trans (b2.mono S1.out.2.1.size), S1.out.2.2.1.below b2 (fun x hx => S1.out.2.2.1.lt hx)⟩
  clear b2
  go_wp2_with (first
    | ((with_reducible refine at_store (.tmp 6) ?_); refine wpList_store_cells (o := ⟨none, _, _, _, _, _⟩) rfl 93 (.tmp 6) (.tmp 26) rfl w.heap.size (prC 1 i n (.slice a m c)) (prC 0 0 0 (.slice none 0 0)) rfl rfl _ S2.out.1 (by kernel_rfl) rfl (by simp [prC, Value.oneCell']) ?_; intro W9 HW9 TW9)
    | fail)
  have B9 := S2.out.2.1.trans (TW9.below S2.out.2.1.size (fun j hj e => by omega))
  exact bodyPost_ret (v := .tuple #[.agg (prC 1 i n (.slice a m c)), .nilIface]) (results_cell_tmp rfl _ _ w.heap.size 93 _ _ _ rfl HW9 Tryz.underlying93 rfl (by kernel_rfl) _ rfl) rfl
    ⟨a, c, by rw [← HM.out], by rw [← HM.out]; exact S2.out.2.2.turn TW9 (fun x hx e => S2.out.2.2.ne S2.out.1 (by decide) (by rw [hx, e])), by rw [← HM.out]; exact S1.out.2.2.2, B9⟩

set_option maxRecDepth 100000 in
set_option maxHeartbeats 2000000 in
theorem Va.leaf_err (h : Va B F w vb L fl) (x n : Int) (E : Int) (hE : E ≠ 0) (hc : ∀ tb V, (∃ T, Tr B T V tb L.length fl (leafF L)) → Calls Tryz.prog 79 #[.pointer (some ⟨tb, 0, none⟩), .int .i64 x, .int .i64 n] V fun en w' => en = .returned (.tuple #[.slice none 0 0, .int .i64 E]) ∧ V = w') :
    Calls Tryz.prog 35 #[.pointer (some ⟨vb, 0, none⟩), .int .i64 x, .int .i64 n] w (PairErr w (.agg (prC 0 0 0 (.slice none 0 0))) leafNm x E) := by
  obtain ⟨T, tb, first, cv, r⟩ := h.raw
  have e0 : ∀ O, (w.alloc O).cell? ⟨vb, 0, none⟩ = some (.pointer (some ⟨tb, 0, none⟩)) := fun O => by
    have := (r.own.alloc O).cell 0
    simpa using this
  have HT := Lib.hid r.tree
  have HC := Lib.hid hc
  have HE := Lib.hid hE
  clear h r hE hc
  go_enter Tryz.func35, Tryz.ntmps35
  go_wp2_with fail
  refine callsName (fun W hW => ?_)
  have B0 : Hid (Below w.heap.size w W) := by rw [← hW]; exact Lib.hid ((Below.refl _ _).alloc (Nat.le_refl _) _)
  have Z0 : Hid (Has W w.heap.size 93 (prC 0 0 0 (.slice none 0 0))) := by rw [← hW]; exact Lib.hid (made_at _ _ rfl)
  clear hW e0
  refine (HC.out tb W ⟨T, HT.out.below B0.out⟩).mono ?_
  rintro en w1 ⟨rfl, rfl⟩
  go_wp2_with fail
  refine (answer_err leafNm 1 x n (.slice none 0 0) E HE.out W).mono ?_
  rintro en w2 ⟨b, rfl, hb, her, b2⟩
  have S2 := Lib.hid (show _ ∧ _ ∧ _ ∧ _ from ⟨Z0.out.below b2 Z0.out.lt, B0.out.trans (b2.mono B0.out.size), Nat.le_trans B0.out.size hb, her⟩)
  clear b2 Z0 B0 hb her
  go_wp2_with (first
    | ((with_reducible refine at_store (.tmp 6) ?_); refine wpList_store_cells (o := ⟨none, _, _, _, _, _⟩) rfl 93 (.tmp 6) (.tmp 26) rfl w.heap.size (prC 0 0 0 (.slice none 0 0)) (prC 0 0 0 (.slice none 0 0)) rfl rfl _ S2.out.1 (by kernel_rfl) rfl (by simp [prC, Value.oneCell']) ?_; intro W9 HW9 TW9)
    | fail)
  have B9 := S2.out.2.1.trans (TW9.below S2.out.2.1.size (fun j hj e => by omega))
  exact bodyPost_ret (v := .tuple #[.agg (prC 0 0 0 (.slice none 0 0)), flt.ev [⟨b, leafNm, x⟩] E]) (results_cell_tmp rfl _ _ w.heap.size 93 _ _ _ rfl HW9 Tryz.underlying93 rfl (by kernel_rfl) _ rfl) rfl
    ⟨b, rfl, S2.out.2.2.1, by
      have he := S2.out.2.2.2
      refine ⟨⟨he.1.1.turn TW9 (fun e => ?_), by have := he.1.2; have := TW9.size; omega⟩, trivial⟩
      have e1 : b = w.heap.size := e
      have h1 := he.1.1
      rw [e1] at h1
      exact absurd (h1.uniq S2.out.1).2 (by decide), B9⟩
end
end
end Go.Proofs.YtcdedkgkingbdaaGreatDoor.prn
end

section
/- fault: closed facts on reflectlite's entries at this program's types, and the assertions of errors.As: targets **Fault and *Errno, errors of a *Fault and of an Errno. -/
namespace Go.Proofs.YtcdedkgkingbdaaGreatDoor.flt
open Go Go.RowKit Go.Extern.Stop Go.Stop Go.Extern

/-- The handle of a type. -/
abbrev hd (t : Nat) : Value := .pointer (some ⟨5, t, none⟩)

theorem valueOfPPF (t : Addr) (w : World) : (ReflectliteValue.unpack (.iface 297 (.pointer (some t)))).run Tryz.prog w
    = .ok (.agg #[.pointer (some ⟨5, 297, none⟩), .pointer (some ⟨w.heap.size, 0, none⟩), .int .u64 150]) (w.alloc (.cells #[.pointer (some t)] 297)) := by kernel_rfl
theorem valueOfPErrno (t : Addr) (w : World) : (ReflectliteValue.unpack (.iface 190 (.pointer (some t)))).run Tryz.prog w
    = .ok (.agg #[.pointer (some ⟨5, 190, none⟩), .pointer (some ⟨w.heap.size, 0, none⟩), .int .u64 150]) (w.alloc (.cells #[.pointer (some t)] 190)) := by kernel_rfl
theorem valueOfPF (t : Addr) (w : World) : (ReflectliteValue.unpack (.iface 202 (.pointer (some t)))).run Tryz.prog w
    = .ok (.agg #[.pointer (some ⟨5, 202, none⟩), .pointer (some ⟨w.heap.size, 0, none⟩), .int .u64 150]) (w.alloc (.cells #[.pointer (some t)] 202)) := by kernel_rfl
theorem valueOfErrno (n : Int) (w : World) : (ReflectliteValue.unpack (.iface 55 (.int .i64 n))).run Tryz.prog w
    = .ok (.agg #[.pointer (some ⟨5, 55, none⟩), .pointer (some ⟨w.heap.size, 0, none⟩), .int .u64 130]) (w.alloc (.cells #[.int .i64 n] 55)) := by kernel_rfl

theorem typePPF (a : Addr) (w : World) : (ReflectliteValue.methodAny (ReflectliteValue.valueError "reflectlite.Value.Type" 0) (fun t _ _ _ => ReflectliteType.toType t) #[.agg #[.pointer (some ⟨5, 297, none⟩), .pointer (some a), .int .u64 150]]).run Tryz.prog w
    = .ok (.iface 300 (.agg #[.pointer (some ⟨5, 297, none⟩)])) w := by kernel_rfl
theorem typePErrno (a : Addr) (w : World) : (ReflectliteValue.methodAny (ReflectliteValue.valueError "reflectlite.Value.Type" 0) (fun t _ _ _ => ReflectliteType.toType t) #[.agg #[.pointer (some ⟨5, 190, none⟩), .pointer (some a), .int .u64 150]]).run Tryz.prog w
    = .ok (.iface 300 (.agg #[.pointer (some ⟨5, 190, none⟩)])) w := by kernel_rfl

theorem methodKind (x : Nat) (h : Value) (w : World) : (Go.method (x + 1) 300 (.agg #[h]) "Kind").run Tryz.prog w = .ok (204, h) w := by kernel_rfl
theorem methodElem (x : Nat) (h : Value) (w : World) : (Go.method (x + 1) 300 (.agg #[h]) "Elem").run Tryz.prog w = .ok (266, .agg #[h]) w := by kernel_rfl
theorem methodImpl (x : Nat) (h : Value) (w : World) : (Go.method (x + 1) 300 (.agg #[h]) "Implements").run Tryz.prog w = .ok (267, .agg #[h]) w := by kernel_rfl
theorem methodAssign (x : Nat) (h : Value) (w : World) : (Go.method (x + 1) 300 (.agg #[h]) "AssignableTo").run Tryz.prog w = .ok (264, .agg #[h]) w := by kernel_rfl
theorem methodUnwrap (x : Nat) (a : Addr) (w : World) : (Go.method (x + 1) 202 (.pointer (some a)) "Unwrap").run Tryz.prog w = .ok (257, .pointer (some a)) w := by kernel_rfl

theorem kindPPF (w : World) : ((ReflectliteType.abiMethod fun t => (fun a : Nat => Value.int IntKind.u8 (a : Int)) <$> Rtype.kind t) #[.pointer (some ⟨5, 297, none⟩)]).run Tryz.prog w = .ok (.int .u8 22) w := by kernel_rfl
theorem kindPErrno (w : World) : ((ReflectliteType.abiMethod fun t => (fun a : Nat => Value.int IntKind.u8 (a : Int)) <$> Rtype.kind t) #[.pointer (some ⟨5, 190, none⟩)]).run Tryz.prog w = .ok (.int .u8 22) w := by kernel_rfl
theorem kindPF (w : World) : ((ReflectliteType.abiMethod fun t => (fun a : Nat => Value.int IntKind.u8 (a : Int)) <$> Rtype.kind t) #[.pointer (some ⟨5, 202, none⟩)]).run Tryz.prog w = .ok (.int .u8 22) w := by kernel_rfl
theorem kindErrno (w : World) : ((ReflectliteType.abiMethod fun t => (fun a : Nat => Value.int IntKind.u8 (a : Int)) <$> Rtype.kind t) #[.pointer (some ⟨5, 55, none⟩)]).run Tryz.prog w = .ok (.int .u8 2) w := by kernel_rfl

theorem elemPPF (w : World) : (ReflectliteType.method ReflectliteType.elem #[.agg #[.pointer (some ⟨5, 297, none⟩)]]).run Tryz.prog w = .ok (.iface 300 (.agg #[.pointer (some ⟨5, 202, none⟩)])) w := by kernel_rfl
theorem elemPErrno (w : World) : (ReflectliteType.method ReflectliteType.elem #[.agg #[.pointer (some ⟨5, 190, none⟩)]]).run Tryz.prog w = .ok (.iface 300 (.agg #[.pointer (some ⟨5, 55, none⟩)])) w := by kernel_rfl
theorem implPF (w : World) : (ReflectliteType.relation "Implements" ReflectliteType.implements_ #[.agg #[.pointer (some ⟨5, 202, none⟩)], .iface 300 (.agg #[.pointer (some ⟨5, 63, none⟩)])]).run Tryz.prog w = .ok (.bool true) w := by kernel_rfl
theorem implErrno (w : World) : (ReflectliteType.relation "Implements" ReflectliteType.implements_ #[.agg #[.pointer (some ⟨5, 55, none⟩)], .iface 300 (.agg #[.pointer (some ⟨5, 63, none⟩)])]).run Tryz.prog w = .ok (.bool true) w := by kernel_rfl
theorem typeOfPF (v : Value) (w : World) : (ReflectliteType.typeOf #[.iface 202 v]).run Tryz.prog w = .ok (.iface 300 (.agg #[.pointer (some ⟨5, 202, none⟩)])) w := by kernel_rfl
theorem typeOfErrno (v : Value) (w : World) : (ReflectliteType.typeOf #[.iface 55 v]).run Tryz.prog w = .ok (.iface 300 (.agg #[.pointer (some ⟨5, 55, none⟩)])) w := by kernel_rfl
theorem assignPFPF (w : World) : (ReflectliteType.relation "AssignableTo" ReflectliteType.assignableTo #[.agg #[.pointer (some ⟨5, 202, none⟩)], .iface 300 (.agg #[.pointer (some ⟨5, 202, none⟩)])]).run Tryz.prog w = .ok (.bool true) w := by kernel_rfl
theorem assignEE (w : World) : (ReflectliteType.relation "AssignableTo" ReflectliteType.assignableTo #[.agg #[.pointer (some ⟨5, 55, none⟩)], .iface 300 (.agg #[.pointer (some ⟨5, 55, none⟩)])]).run Tryz.prog w = .ok (.bool true) w := by kernel_rfl
theorem assignEPF (w : World) : (ReflectliteType.relation "AssignableTo" ReflectliteType.assignableTo #[.agg #[.pointer (some ⟨5, 55, none⟩)], .iface 300 (.agg #[.pointer (some ⟨5, 202, none⟩)])]).run Tryz.prog w = .ok (.bool false) w := by kernel_rfl
theorem assignPFE (w : World) : (ReflectliteType.relation "AssignableTo" ReflectliteType.assignableTo #[.agg #[.pointer (some ⟨5, 202, none⟩)], .iface 300 (.agg #[.pointer (some ⟨5, 55, none⟩)])]).run Tryz.prog w = .ok (.bool false) w := by kernel_rfl

theorem rlm (z : Sem Value) (f : TypeId → Addr → Nat → Nat → Sem Value) (v : Value) :
    ReflectliteValue.method z f #[v] = (do match ← ReflectliteValue.parts v with | none => z | some (t, a, fl) => f t a fl (fl % 32)) := rfl
theorem partsPPF (a : Addr) (w : World) : (ReflectliteValue.parts (.agg #[.pointer (some ⟨5, 297, none⟩), .pointer (some a), .int .u64 150])).run Tryz.prog w = .ok (some (297, a, 150)) w := by kernel_rfl
theorem partsPErrno (a : Addr) (w : World) : (ReflectliteValue.parts (.agg #[.pointer (some ⟨5, 190, none⟩), .pointer (some a), .int .u64 150])).run Tryz.prog w = .ok (some (190, a, 150)) w := by kernel_rfl
theorem isNilPPF (a p : Addr) (W : World) (ha : W.cell? a = some (.pointer (some p))) :
    (ReflectliteValue.method (ReflectliteValue.valueError "reflectlite.Value.IsNil" 0) ReflectliteValue.isNil #[.agg #[.pointer (some ⟨5, 297, none⟩), .pointer (some a), .int .u64 150]]).run Tryz.prog W = .ok (.bool false) W := by
  rw [rlm]
  simp only [Sem.run_bind, partsPPF, Result.andThen]
  simp [ReflectliteValue.isNil, loadVar, isAgg, underlying, Tryz.underlying297, ha, Result.andThen]
theorem isNilPErrno (a p : Addr) (W : World) (ha : W.cell? a = some (.pointer (some p))) :
    (ReflectliteValue.method (ReflectliteValue.valueError "reflectlite.Value.IsNil" 0) ReflectliteValue.isNil #[.agg #[.pointer (some ⟨5, 190, none⟩), .pointer (some a), .int .u64 150]]).run Tryz.prog W = .ok (.bool false) W := by
  rw [rlm]
  simp only [Sem.run_bind, partsPErrno, Result.andThen]
  simp [ReflectliteValue.isNil, loadVar, isAgg, underlying, Tryz.underlying190, ha, Result.andThen]
theorem elemOfPPF (w : World) : (Rtype.elem? 297).run Tryz.prog w = .ok (some 202) w := by kernel_rfl
theorem elemOfPErrno (w : World) : (Rtype.elem? 190).run Tryz.prog w = .ok (some 55) w := by kernel_rfl
theorem mkPF (p : Addr) (w : World) : (ReflectliteValue.mk 202 p ReflectliteValue.flagAddr).run Tryz.prog w = .ok (.agg #[.pointer (some ⟨5, 202, none⟩), .pointer (some p), .int .u64 406]) w := by kernel_rfl
theorem mkErrno (p : Addr) (w : World) : (ReflectliteValue.mk 55 p ReflectliteValue.flagAddr).run Tryz.prog w = .ok (.agg #[.pointer (some ⟨5, 55, none⟩), .pointer (some p), .int .u64 386]) w := by kernel_rfl
theorem elemVPPF (a p : Addr) (W : World) (ha : W.cell? a = some (.pointer (some p))) :
    (ReflectliteValue.method (ReflectliteValue.valueError "reflectlite.Value.Elem" 0) ReflectliteValue.elem #[.agg #[.pointer (some ⟨5, 297, none⟩), .pointer (some a), .int .u64 150]]).run Tryz.prog W
      = .ok (.agg #[.pointer (some ⟨5, 202, none⟩), .pointer (some p), .int .u64 406]) W := by
  rw [rlm]
  simp only [Sem.run_bind, partsPPF, Result.andThen]
  simp [ReflectliteValue.elem, loadVar, isAgg, underlying, Tryz.underlying297, ha, Result.andThen, elemOfPPF, mkPF]
theorem elemVPErrno (a p : Addr) (W : World) (ha : W.cell? a = some (.pointer (some p))) :
    (ReflectliteValue.method (ReflectliteValue.valueError "reflectlite.Value.Elem" 0) ReflectliteValue.elem #[.agg #[.pointer (some ⟨5, 190, none⟩), .pointer (some a), .int .u64 150]]).run Tryz.prog W
      = .ok (.agg #[.pointer (some ⟨5, 55, none⟩), .pointer (some p), .int .u64 386]) W := by
  rw [rlm]
  simp only [Sem.run_bind, partsPErrno, Result.andThen]
  simp [ReflectliteValue.elem, loadVar, isAgg, underlying, Tryz.underlying190, ha, Result.andThen, elemOfPErrno, mkErrno]
theorem rls (v x : Value) : ReflectliteValue.set #[v, x] = (do
    let (some (dst, a, fl), some (src, b, _)) := (← ReflectliteValue.parts v, ← ReflectliteValue.parts x)
      | unsupported (.noEntry "extern/(internal/reflectlite.Value).Set.zeroValue")
    if fl / ReflectliteValue.flagAddr % 2 == 0 then unsupported (.noEntry "extern/(internal/reflectlite.Value).Set.unaddressable")
    let val ← loadVar src b
    if ← Rtype.directlyAssignable dst src then storeVar dst a val
    else if ← Rtype.implements dst src then
      if (← Rtype.kind src) == 20 then
        match val with
        | .nilIface => unsupported (.noEntry "extern/reflectlite: a nil value of one interface type handed on as a value of another")
        | _ => storeVar dst a val
      else storeVar dst a (.iface src val)
    else panicString ("reflectlite.Set: value of type " ++ (← Rtype.spelt src) ++ " is not assignable to type " ++ (← Rtype.spelt dst))
    pure (.tuple #[])) := rfl
theorem partsPFa (a : Addr) (w : World) : (ReflectliteValue.parts (.agg #[.pointer (some ⟨5, 202, none⟩), .pointer (some a), .int .u64 406])).run Tryz.prog w = .ok (some (202, a, 406)) w := by kernel_rfl
theorem partsPF (a : Addr) (w : World) : (ReflectliteValue.parts (.agg #[.pointer (some ⟨5, 202, none⟩), .pointer (some a), .int .u64 150])).run Tryz.prog w = .ok (some (202, a, 150)) w := by kernel_rfl
theorem directPF (w : World) : (Rtype.directlyAssignable 202 202).run Tryz.prog w = .ok true w := by kernel_rfl
theorem partsEa (a : Addr) (w : World) : (ReflectliteValue.parts (.agg #[.pointer (some ⟨5, 55, none⟩), .pointer (some a), .int .u64 386])).run Tryz.prog w = .ok (some (55, a, 386)) w := by kernel_rfl
theorem partsE (a : Addr) (w : World) : (ReflectliteValue.parts (.agg #[.pointer (some ⟨5, 55, none⟩), .pointer (some a), .int .u64 130])).run Tryz.prog w = .ok (some (55, a, 130)) w := by kernel_rfl
theorem directE (w : World) : (Rtype.directlyAssignable 55 55).run Tryz.prog w = .ok true w := by kernel_rfl
theorem setPF (ta b e : Addr) (old : Value) (W : World) (hb : W.cell? b = some (.pointer (some e))) (ht : W.cell? ta = some old) (hf : W.frozen? ta = false) :
    (ReflectliteValue.set #[.agg #[.pointer (some ⟨5, 202, none⟩), .pointer (some ta), .int .u64 406], .agg #[.pointer (some ⟨5, 202, none⟩), .pointer (some b), .int .u64 150]]).run Tryz.prog W
      = .ok (.tuple #[]) (W.setCell ta (.pointer (some e))) := by
  rw [rls]
  simp only [Sem.run_bind, partsPFa, partsPF, Result.andThen]
  simp [ReflectliteValue.flagAddr, loadVar, isAgg, underlying, Tryz.underlying202, hb, Result.andThen, directPF, storeVar, Value.cells, storeCells, Addr.add]
  rw [run_store Tryz.prog W ta _ _ (by rfl)]
  simp [ht, hf]
theorem setE (ta b : Addr) (n : Int) (old : Value) (W : World) (hb : W.cell? b = some (.int .i64 n)) (ht : W.cell? ta = some old) (hf : W.frozen? ta = false) :
    (ReflectliteValue.set #[.agg #[.pointer (some ⟨5, 55, none⟩), .pointer (some ta), .int .u64 386], .agg #[.pointer (some ⟨5, 55, none⟩), .pointer (some b), .int .u64 130]]).run Tryz.prog W
      = .ok (.tuple #[]) (W.setCell ta (.int .i64 n)) := by
  rw [rls]
  simp only [Sem.run_bind, partsEa, partsE, Result.andThen]
  simp [ReflectliteValue.flagAddr, loadVar, isAgg, underlying, Tryz.underlying55, hb, Result.andThen, directE, storeVar, Value.cells, storeCells, Addr.add]
  rw [run_store Tryz.prog W ta _ _ (by rfl)]
  simp [ht, hf]

/-- What may be asserted of the two makes of errors. -/
theorem noAsPF (v : Value) (xT : TypeId) (w : World) : (Instr.typeAssert (.iface 202 v) xT 305 true).run Tryz.prog w = .ok (.tuple #[.nilIface, .bool false]) w := run_typeAssert_lacksB Tryz.underlying305 (by kernel_rfl) (by kernel_rfl) v xT w
theorem noAsE (v : Value) (xT : TypeId) (w : World) : (Instr.typeAssert (.iface 55 v) xT 305 true).run Tryz.prog w = .ok (.tuple #[.nilIface, .bool false]) w := run_typeAssert_lacksB Tryz.underlying305 (by kernel_rfl) (by kernel_rfl) v xT w
theorem unPF (v : Value) (xT : TypeId) (w : World) : (Instr.typeAssert (.iface 202 v) xT 308 true).run Tryz.prog w = .ok (.tuple #[.iface 202 v, .bool true]) w := run_typeAssert_hasB Tryz.underlying308 (by kernel_rfl) v xT w
theorem noUnE (v : Value) (xT : TypeId) (w : World) : (Instr.typeAssert (.iface 55 v) xT 308 true).run Tryz.prog w = .ok (.tuple #[.nilIface, .bool false]) w := run_typeAssert_lacksB Tryz.underlying308 (by kernel_rfl) (by kernel_rfl) v xT w
theorem noUnsE (v : Value) (xT : TypeId) (w : World) : (Instr.typeAssert (.iface 55 v) xT 310 true).run Tryz.prog w = .ok (.tuple #[.nilIface, .bool false]) w := run_typeAssert_lacksB Tryz.underlying310 (by kernel_rfl) (by kernel_rfl) v xT w
end Go.Proofs.YtcdedkgkingbdaaGreatDoor.flt
end

