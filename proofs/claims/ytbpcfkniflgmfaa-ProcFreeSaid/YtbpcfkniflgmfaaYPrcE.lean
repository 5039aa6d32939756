/- proc: read, swap: a process's accesses. -/
import Derived.Test.YtbpcfkniflgmfaaY004
namespace Go.Proofs.Ytbpcfkniflgmfaa.prc
open Go Go.RowKit Go.Maps

/-- The memory's blocks. -/
def Mb (d c m : Nat) (j : Nat) : Prop := j = d ∨ j = c ∨ j = m

section
variable {w V V' : World} {d c m P L K b i : Nat} {A : Ab} {x : Px}

theorem own_block_ne {n : Nat} {T : Nat → ByteArray} {N : Nat → Int} {D : DataW Unit} {a : Int} {g : Nat} {t : TypeId} {cs : Array Value} (h : cel.Own w d c m n T N D a V) (hb : Has V g t cs) (h1 : t ≠ 102) (h2 : t ≠ 99) : ¬ Mb d c m g := by
  rintro (rfl | rfl | rfl)
  · exact h1 (hb.uniq h.mem.box).2
  · exact h2 (hb.uniq h.mem.row).2
  · exact h.mem.map.ne hb rfl

theorem Mm.below (h : Mm w d c m P L A K V) (hb : Below V.heap.size V V') : Mm w d c m P L A K V' := by
  obtain ⟨D, a, h1, h2⟩ := h
  exact ⟨D, a, h1.below hb, h2⟩
theorem Mm.drew (h : Mm w d c m P L A K V) : Mm w d c m P L A K V.drew := by
  obtain ⟨D, a, h1, h2⟩ := h
  exact ⟨D, a, h1.drew, h2⟩
theorem Mm.more (h : Mm w d c m P L A K V) {K' : Nat} (hK : K ≤ K') : Mm w d c m P L A K' V := by
  obtain ⟨D, a, h1, h2⟩ := h
  exact ⟨D, a, h1, by omega⟩
theorem Mm.ne (h : Mm w d c m P L A K V) {g : Nat} {t : TypeId} {cs : Array Value} (hb : Has V g t cs) (h1 : t ≠ 102) (h2 : t ≠ 99) : ¬ Mb d c m g := by
  obtain ⟨D, a, k1, _⟩ := h
  exact own_block_ne k1 hb h1 h2
/-- Another block turns, made since w, that is none of its own. -/
theorem Mm.other {F : Nat → Prop} (h : Mm w d c m P L A K V) (t : Turn F V V') (hF : ∀ j, F j → w.heap.size ≤ j) (hn : ∀ j, F j → ¬ Mb d c m j) : Mm w d c m P L A K V' := by
  obtain ⟨D, a, h1, h2⟩ := h
  exact ⟨D, a, h1.other t hF (fun e => hn _ e (.inl rfl)) (fun e => hn _ e (.inr (.inl rfl))) (fun e => hn _ e (.inr (.inr rfl))), h2⟩

theorem Pr.apart (h : Pr V b x) (hm : Mm w d c m P L A K V) : ¬ Mb d c m b := hm.ne h (by decide) (by decide)

def ReadPost (w : World) (d c m P L : Nat) (A : Ab) (K : Nat) (b : Nat) (x : Px) (t : ByteArray) (V : World) (en : Ending) (w' : World) : Prop :=
  en = .returned (.string t) ∧ Pr w' b x ∧ Mm w d c m P L A K w' ∧ Turn (Mb d c m) V w'

theorem fits_who {i : Nat} (h : i ≤ 63) : cel.Fits (i : Int) := ⟨by omega, by omega⟩

set_option maxRecDepth 100000 in
theorem read_calls (h : Pr V b x) (hM : Mm w d c m P L A K V) (hi : x.who = i) (h63 : i ≤ 63) (hK : K ≤ 900000) (j : Nat) (hj : j < P + L) (t : ByteArray) (ht : cellT P A j = t) :
    Calls Try.prog 51 #[.pointer (some ⟨b, 0, none⟩), .pointer (some ⟨d, 0, none⟩), .int .i64 j] V (ReadPost w d c m P L A (K + 1) b x t V) := by
  have H := Lib.hid h
  have hap := Lib.hid (h.apart hM)
  obtain ⟨D, a, ho, ha⟩ := hM
  have HO := Lib.hid ho
  have HA := Lib.hid ha
  have c2 : V.cell? ⟨b, 2, none⟩ = some (.int .i64 i) := by rw [← hi]; exact h.c2
  have hc := Lib.hid (ho.do_turn (i : Int) 1 j ⟨#[]⟩ ⟨#[]⟩ hj (by decide) (by decide) (fits_who h63) (by omega) t ht true rfl (cellT P A) (by rw [show cel.aftT 1 t ⟨#[]⟩ ⟨#[]⟩ = t from if_pos rfl, ← ht, cel.upd_self]) (cellN P A) (by rw [show cel.aftN 1 t ⟨#[]⟩ (cellN P A j) = cellN P A j from if_neg (fun e => absurd e.1 (by decide)), cel.upd_self]))
  clear h ho ha hi ht
  go_enter Try.func51, Try.ntmps51
  go_wp2_with (first
    | (go_at_call 48; refine hc.out.mono ?_; rintro en w1 ⟨rfl, h1, t1⟩
       have H1 := Lib.hid (And.intro h1 t1)
       clear h1 t1)
    | fail)
  go_ret
  exact ⟨rfl, H.out.turn H1.out.2 hap.out, ⟨_, _, H1.out.1, by have := HA.out; omega⟩, H1.out.2⟩

/-- What the slot holds behind a Swap, and the memory. -/
def swA (A : Ab) (k : Nat) (o : Rc) : Ab := match A.S k with | some _ => A | none => { A with S := up A.S k (some o) }
def swR (A : Ab) (k : Nat) (o : Rc) : Rc := match A.S k with | some r => r | none => o

def SwapPost (w : World) (d c m P L : Nat) (A' : Ab) (K : Nat) (b : Nat) (x : Px) (r : Rc) (V : World) (en : Ending) (w' : World) : Prop :=
  en = .returned (.string (tx r)) ∧ Pr w' b x ∧ Mm w d c m P L A' K w' ∧ Turn (Mb d c m) V w'

set_option maxRecDepth 100000 in
set_option maxHeartbeats 2000000 in
theorem swap_calls (h : Pr V b x) (hM : Mm w d c m P L A K V) (hi : x.who = i) (h63 : i ≤ 63) (hK : K ≤ 900000) (k : Nat) (hk : k < L) (hP : x.procs = P) (hs : x.seen = k) (hPb : P ≤ 64) (hLb : L ≤ 256) (o : Rc) (ho : x.offer = tx o) :
    Calls Try.prog 56 #[.pointer (some ⟨b, 0, none⟩), .pointer (some ⟨d, 0, none⟩)] V (SwapPost w d c m P L (swA A k o) (K + 1) b x (swR A k o) V) := by
  have H := Lib.hid h
  have HM := Lib.hid hM
  have c2 : V.cell? ⟨b, 2, none⟩ = some (.int .i64 i) := by rw [← hi]; exact h.c2
  have c71 : V.cell? ⟨b, 71, none⟩ = some (.string (tx o)) := by rw [← ho]; exact h.c71
  have hsl := slot_calls (w := V.drew) h.drew (by rw [hP]; omega) (by rw [hP]; omega) (by rw [hs]; omega) (by rw [hs]; omega)
  rw [hP, hs, show (P : Int) + (k : Int) = ((P + k : Nat) : Int) by omega] at hsl
  have HSL := Lib.hid hsl
  have HO := Lib.hid ho
  have H63 := Lib.hid h63
  have HI := Lib.hid hi
  have hb : b < V.heap.size := Has.lt h
  have hT : Hid (cellT P A (P + k) = txo (A.S k)) := Lib.hid (cellT_slot P A k)
  have hN : Hid (cellN P A (P + k) = match A.S k with | none => 0 | some _ => 1) := Lib.hid (cellN_slot P A k)
  clear h hM hsl hi ho h63
  cases hS : A.S k with
  | none =>
    have hA' : Hid (swA A k o = { A with S := up A.S k (some o) } ∧ swR A k o = o) := Lib.hid ⟨by unfold swA; rw [hS], by unfold swR; rw [hS]⟩
    rw [hS] at hT hN
    have hcall : ∀ V', Mm w d c m P L A K V' → Calls Try.prog 48 #[.pointer (some ⟨d, 0, none⟩), .int .i64 i, .agg #[.int .i64 3, .int .i64 ((P + k : Nat) : Int), .string ⟨#[]⟩, .string (tx o)]] V' (fun en w' => en = .returned (.tuple #[.string ⟨#[]⟩, .bool true, .int .i64 0]) ∧ Mm w d c m P L (swA A k o) (K + 1) w' ∧ Turn (Mb d c m) V' w') := fun V' hM' => by
      obtain ⟨D, a, h1, h2⟩ := hM'
      refine (h1.do_turn (i : Int) 3 (P + k) ⟨#[]⟩ (tx o) (by omega) (by decide) (by decide) (fits_who H63.out) (by omega) ⟨#[]⟩ hT.out true (by unfold cel.did; simp) (cellT P (swA A k o)) ?_ (cellN P (swA A k o)) ?_).mono ?_
      · rw [show cel.aftT 3 ⟨#[]⟩ ⟨#[]⟩ (tx o) = tx o by unfold cel.aftT; simp, hA'.out.1]
        exact cellT_setS P A k o
      · rw [show cel.aftN 3 ⟨#[]⟩ ⟨#[]⟩ (cellN P A (P + k)) = cellN P A (P + k) + 1 from if_pos ⟨rfl, rfl⟩, hN.out, hA'.out.1]
        exact cellN_setS P A k o
      · rintro en w' ⟨rfl, h3, h4⟩
        exact ⟨rfl, ⟨_, _, h3, by omega⟩, h4⟩
    have HC := Lib.hid hcall
    have HS := Lib.hid hS
    clear hcall hS
    go_enter Try.func56, Try.ntmps56
    go_wp2_with fail
    go_region_law (first
      | (refine step_call rfl 52 Try.f52 Try.func52 (by kernel_rfl) (by kernel_rfl) _ _ rfl #[.pointer (some ⟨b, 0, none⟩)] (by first | (simp [Act.eval]; done) | (simp [Act.eval, Act.put]; done)) (by exact HSL.out) ?_
         rintro en w2 ⟨rfl, b2⟩
         have B2 : Hid (Below V.heap.size V w2) := Lib.hid (below_of_drew b2)
         have d2 : w2.cell? ⟨b, 2, none⟩ = some (.int .i64 i) := by rw [← HI.out]; exact (H.out.below B2.out).c2
         have d71 : w2.cell? ⟨b, 71, none⟩ = some (.string (tx o)) := by rw [← HO.out]; exact (H.out.below B2.out).c71
         clear b2
         refine ⟨_, rfl, ?_⟩)
      | (refine step_call rfl 48 Try.f48 Try.func48 (by kernel_rfl) (by kernel_rfl) _ _ rfl #[.pointer (some ⟨d, 0, none⟩), .int .i64 i, .agg #[.int .i64 3, .int .i64 ((P + k : Nat) : Int), .string ⟨#[]⟩, .string (tx o)]] (by first | (simp [Act.eval]; done) | (simp [Act.eval, Act.put]; done)) (by exact HC.out w2 (HM.out.below B2.out)) ?_
         rintro en w3 ⟨rfl, m3, t3⟩
         have M3 := Lib.hid m3
         have P3 : Hid (Pr w3 b x) := Lib.hid ((H.out.below B2.out).turn t3 ((H.out.below B2.out).apart (HM.out.below B2.out)))
         have T3 : Hid (Turn (Mb d c m) V w3) := Lib.hid ((Turn.of_below B2.out (F := Mb d c m) (fun j h1 h2 => absurd h2 (by omega))).trans t3 (fun _ _ e => e))
         have e71 : w3.cell? ⟨b, 71, none⟩ = some (.string (tx o)) := by rw [← HO.out]; exact P3.out.c71
         clear m3 t3 d2 d71
         refine ⟨_, rfl, ?_⟩))
    all_goals
      go_wp2_with fail
      go_ret
      refine ⟨by rw [hA'.out.2]; rfl, P3.out, M3.out, T3.out⟩
  | some r =>
    have hA' : Hid (swA A k o = A ∧ swR A k o = r) := Lib.hid ⟨by unfold swA; rw [hS], by unfold swR; rw [hS]⟩
    rw [hS] at hT hN
    have hcall : ∀ V', Mm w d c m P L A K V' → Calls Try.prog 48 #[.pointer (some ⟨d, 0, none⟩), .int .i64 i, .agg #[.int .i64 3, .int .i64 ((P + k : Nat) : Int), .string ⟨#[]⟩, .string (tx o)]] V' (fun en w' => en = .returned (.tuple #[.string (tx r), .bool false, .int .i64 0]) ∧ Mm w d c m P L (swA A k o) (K + 1) w' ∧ Turn (Mb d c m) V' w') := fun V' hM' => by
      obtain ⟨D, a, h1, h2⟩ := hM'
      refine (h1.do_turn (i : Int) 3 (P + k) ⟨#[]⟩ (tx o) (by omega) (by decide) (by decide) (fits_who H63.out) (by omega) (tx r) hT.out false (by unfold cel.did; rw [if_pos rfl]; exact decide_eq_false (tx_ne r)) (cellT P (swA A k o)) ?_ (cellN P (swA A k o)) ?_).mono ?_
      · rw [show cel.aftT 3 (tx r) ⟨#[]⟩ (tx o) = tx r by unfold cel.aftT; rw [if_neg (by decide), if_pos rfl, if_neg (tx_ne r)], hA'.out.1, ← show cellT P A (P + k) = tx r from hT.out, cel.upd_self]
      · rw [show cel.aftN 3 (tx r) ⟨#[]⟩ (cellN P A (P + k)) = cellN P A (P + k) from if_neg (fun e => tx_ne r e.2), hA'.out.1, cel.upd_self]
      · rintro en w' ⟨rfl, h3, h4⟩
        exact ⟨rfl, ⟨_, _, h3, by omega⟩, h4⟩
    have HC := Lib.hid hcall
    have HS := Lib.hid hS
    clear hcall hS
    go_enter Try.func56, Try.ntmps56
    go_wp2_with fail
    go_region_law (first
      | (refine step_call rfl 52 Try.f52 Try.func52 (by kernel_rfl) (by kernel_rfl) _ _ rfl #[.pointer (some ⟨b, 0, none⟩)] (by first | (simp [Act.eval]; done) | (simp [Act.eval, Act.put]; done)) (by exact HSL.out) ?_
         rintro en w2 ⟨rfl, b2⟩
         have B2 : Hid (Below V.heap.size V w2) := Lib.hid (below_of_drew b2)
         have d2 : w2.cell? ⟨b, 2, none⟩ = some (.int .i64 i) := by rw [← HI.out]; exact (H.out.below B2.out).c2
         have d71 : w2.cell? ⟨b, 71, none⟩ = some (.string (tx o)) := by rw [← HO.out]; exact (H.out.below B2.out).c71
         clear b2
         refine ⟨_, rfl, ?_⟩)
      | (refine step_call rfl 48 Try.f48 Try.func48 (by kernel_rfl) (by kernel_rfl) _ _ rfl #[.pointer (some ⟨d, 0, none⟩), .int .i64 i, .agg #[.int .i64 3, .int .i64 ((P + k : Nat) : Int), .string ⟨#[]⟩, .string (tx o)]] (by first | (simp [Act.eval]; done) | (simp [Act.eval, Act.put]; done)) (by exact HC.out w2 (HM.out.below B2.out)) ?_
         rintro en w3 ⟨rfl, m3, t3⟩
         have M3 := Lib.hid m3
         have P3 : Hid (Pr w3 b x) := Lib.hid ((H.out.below B2.out).turn t3 ((H.out.below B2.out).apart (HM.out.below B2.out)))
         have T3 : Hid (Turn (Mb d c m) V w3) := Lib.hid ((Turn.of_below B2.out (F := Mb d c m) (fun j h1 h2 => absurd h2 (by omega))).trans t3 (fun _ _ e => e))
         have e71 : w3.cell? ⟨b, 71, none⟩ = some (.string (tx o)) := by rw [← HO.out]; exact P3.out.c71
         clear m3 t3 d2 d71
         refine ⟨_, rfl, ?_⟩))
    all_goals
      go_wp2_with fail
      go_ret
      refine ⟨by rw [hA'.out.2]; rfl, P3.out, M3.out, T3.out⟩


end
end Go.Proofs.Ytbpcfkniflgmfaa.prc
