/- proc: Begin, Head, see, decided, choose. -/
import Derived.Test.YtlbpephbigikcabPrcC
namespace Go.Proofs.Ytlbpephbigikcab.prc
open Go Go.RowKit

section
variable {w : World} {b : Nat} {x : Px}

theorem busy_begin (h : Pr w b x) (hn : x.next ≠ 0) (s : ByteArray) : Calls Try.prog 27 #[.pointer (some ⟨b, 0, none⟩), .string s] w fun en w' => en = .returned (.int .i64 20) ∧ w = w' := by
  have H := Lib.hid h
  have e : (x.next == 0) = false := beq_eq_false_iff_ne.2 hn
  have E := Lib.hid e
  clear h hn e
  go_enter Try.func27, Try.ntmps27
  go_wp2_with (first
    | (go_at_call 20; refine (idle_calls H.out).mono ?_; rw [E.out]; rintro en w1 ⟨rfl, rfl⟩)
    | fail)
  go_ret
  exact ⟨rfl, rfl⟩

theorem busy_head (h : Pr w b x) (hn : x.next ≠ 0) : Calls Try.prog 29 #[.pointer (some ⟨b, 0, none⟩)] w fun en w' => en = .returned (.int .i64 20) ∧ w = w' := by
  have H := Lib.hid h
  have e : (x.next == 0) = false := beq_eq_false_iff_ne.2 hn
  have E := Lib.hid e
  clear h hn e
  go_enter Try.func29, Try.ntmps29
  go_wp2_with (first
    | (go_at_call 20; refine (idle_calls H.out).mono ?_; rw [E.out]; rintro en w1 ⟨rfl, rfl⟩)
    | fail)
  go_ret
  exact ⟨rfl, rfl⟩

theorem big_begin (h : Pr w b x) (hn : x.next = 0) (s : ByteArray) (hs : 1024 < s.size) (_hm : s.size ≤ maxLen) : Calls Try.prog 27 #[.pointer (some ⟨b, 0, none⟩), .string s] w fun en w' => en = .returned (.int .i64 3) ∧ w = w' := by
  have H := Lib.hid h
  have e : (x.next == 0) = true := by rw [hn]; rfl
  have E := Lib.hid e
  have hs1 : (1024 : Int) < (s.size : Int) := by omega
  unfold maxLen at _hm
  clear h hn e
  go_enter Try.func27, Try.ntmps27
  go_wp2_with (first
    | (go_at_call 20; refine (idle_calls H.out).mono ?_; rw [E.out]; rintro en w1 ⟨rfl, rfl⟩)
    | fail)
  go_ret
  exact ⟨rfl, rfl⟩

def headX (x : Px) : Px := toHeadX x
def HeadPost (b : Nat) (x : Px) (w : World) (en : Ending) (w' : World) : Prop :=
  en = .returned (.int .i64 0) ∧ Pr w' b (headX x) ∧ Turn (fun j => j = b) w w'

theorem head_calls (h : Pr w b x) (hn : x.next = 0) : Calls Try.prog 29 #[.pointer (some ⟨b, 0, none⟩)] w (HeadPost b x w) := by
  have H := Lib.hid h
  have e : (x.next == 0) = true := by rw [hn]; rfl
  have E := Lib.hid e
  clear h hn e
  go_enter Try.func29, Try.ntmps29
  go_wp2_with (first
    | (go_at_call 20; refine (idle_calls H.out).mono ?_; rw [E.out]; rintro en w1 ⟨rfl, rfl⟩)
    | (go_at_call 52; refine (toHead_calls H.out).mono ?_; rintro en w2 ⟨rfl, h2, t2⟩; have H2 := Lib.hid (And.intro h2 t2); clear h2 t2)
    | fail)
  go_ret
  exact ⟨rfl, H2.out⟩

def beginX (x : Px) (i n : Nat) (s : ByteArray) : Px := { x with seq := (n + 1 : Nat), own := tx ⟨i, n + 1, s⟩, next := 1 }
def BeginPost (b : Nat) (x : Px) (i n : Nat) (s : ByteArray) (w : World) (en : Ending) (w' : World) : Prop :=
  en = .returned (.int .i64 0) ∧ Pr w' b (beginX x i n s) ∧ Turn (fun j => j = b) w w'

set_option maxHeartbeats 1000000 in
theorem begin_calls (h : Pr w b x) (hn : x.next = 0) (i n : Nat) (hi : x.who = i) (hq : x.seq = n) (s : ByteArray) (hf : (⟨i, n + 1, s⟩ : Rc).Fits) : Calls Try.prog 27 #[.pointer (some ⟨b, 0, none⟩), .string s] w (BeginPost b x i n s w) := by
  have H := Lib.hid h
  have e : (x.next == 0) = true := by rw [hn]; rfl
  have E := Lib.hid e
  have hs1 : ¬ (1024 : Int) < (s.size : Int) := by have : s.size ≤ 1024 := hf.2.2; omega
  have hq1 : (n : Int) ≤ 1099511627776 := by have : n + 1 ≤ 1099511627776 := hf.2.1; omega
  have hq0 : (0 : Int) ≤ (n : Int) := by omega
  have c3 : w.cell? ⟨b, 3, none⟩ = some (.int .i64 n) := by rw [← hq]; exact h.c3
  have f3 := h.free 3
  have HF := Lib.hid hf
  have HI := Lib.hid hi
  have P3 : Hid (Pr (w.setCell ⟨b, 3, none⟩ (.int .i64 ((n : Int) + 1))) b { x with seq := (n : Int) + 1 }) := Lib.hid (h.putSeq _)
  have T3 : Hid (Turn (fun j => j = b) w (w.setCell ⟨b, 3, none⟩ (.int .i64 ((n : Int) + 1)))) := Lib.hid ((Turn.refl (fun j => j = b) w).put (fun _ => rfl) 3 _)
  clear h hn e hf hi hq
  go_enter Try.func27, Try.ntmps27
  go_wp2_with (first
    | (go_at_call 20; refine (idle_calls H.out).mono ?_; rw [E.out]; rintro en w1 ⟨rfl, rfl⟩)
    | fail)
  go_name_world W hW
  rw [hW] at P3 T3
  have d2 : W.cell? ⟨b, 2, none⟩ = some (.int .i64 i) := by have := P3.out.c2; rw [this]; show some (Value.int .i64 x.who) = _; rw [HI.out]
  have d3 : W.cell? ⟨b, 3, none⟩ = some (.int .i64 ((n : Int) + 1)) := P3.out.c3
  clear hW c3 f3 H
  have hn1 : ((n + 1 : Nat) : Int) = (n : Int) + 1 := by omega
  have ht := Lib.hid (text_calls ⟨i, n + 1, s⟩ W.drew HF.out)
  rw [hn1] at ht
  go_region_law (refine step_call rfl 19 Try.f19 Try.func19 (by kernel_rfl) (by kernel_rfl) _ _ rfl #[.agg #[.int .i64 i, .int .i64 ((n : Int) + 1), .string s]] (by first | (simp [Act.eval]; done) | (simp [Act.eval, Act.put]; done)) (by exact ht.out) ?_
                 rintro en w2 ⟨rfl, b2⟩
                 have P4 := Lib.hid (P3.out.below (below_of_drew b2))
                 have T4 : Hid (Turn (fun j => j = b) w w2) := Lib.hid (T3.out.trans (Turn.of_below (below_of_drew b2) (F := fun j => W.heap.size ≤ j) (fun _ _ h => h)) (fun j h1 h2 => absurd h2 (by have := T3.out.size; omega)))
                 have c70 := P4.out.c70
                 have f70 := P4.out.free 70
                 clear b2 d2 d3
                 refine ⟨_, rfl, ?_⟩)
  all_goals
    have P5 := Lib.hid (P4.out.putOwn (tx ⟨i, n + 1, s⟩))
    have T5 := Lib.hid (T4.out.put (b := b) (fun _ => rfl) 70 (.string (tx ⟨i, n + 1, s⟩)))
    have c4 := P5.out.c4
    have f4 := P5.out.free 4
    go_wp2_with fail
    go_ret
    refine ⟨rfl, ?_, T5.out.put (fun _ => rfl) 4 _⟩
    unfold beginX
    rw [hn1]
    exact P5.out.putNext 1

theorem parse_some (r : Rc) (w : World) (hr : r.Fits) : Calls Try.prog 36 #[.string (tx r)] w fun en w' => en = .returned (.tuple #[.agg #[.int .i64 r.who, .int .i64 r.seq, .string r.body], .int .i64 0]) ∧ Below w.heap.size w w' := by
  refine (parse_calls (tx r) w (by have := tx_size r hr; unfold maxLen; omega)).mono ?_
  rintro en w' ⟨who, seq, body, e, h1, h2, h3⟩
  rw [parse_tx r hr] at h1
  simp only [Prod.mk.injEq] at h1
  obtain ⟨rfl, rfl, rfl, rfl⟩ := h1
  rcases h3 with ⟨_, h3⟩ | ⟨h3, _⟩
  · exact ⟨h3, h2⟩
  · exact absurd rfl h3

theorem parse_empty (w : World) : Calls Try.prog 36 #[.string ⟨#[]⟩] w fun en w' => (∃ e : Int, e ≠ 0 ∧ en = .returned (.tuple #[.agg #[.int .i64 0, .int .i64 0, .string ⟨#[]⟩], .int .i64 e])) ∧ Below w.heap.size w w' := by
  refine (parse_calls ⟨#[]⟩ w (Nat.zero_le _)).mono ?_
  rintro en w' ⟨who, seq, body, e, h1, h2, h3⟩
  obtain ⟨e0, h4, h5⟩ := parse_none
  rw [h4] at h1
  simp only [Prod.mk.injEq] at h1
  obtain ⟨rfl, rfl, rfl, rfl⟩ := h1
  rcases h3 with ⟨h3, _⟩ | ⟨h3, h6⟩
  · exact absurd h3 h5
  · exact ⟨⟨_, h3, h6⟩, h2⟩

theorem quiet_turn {w w1 : World} (b1 : Below w.heap.size w w1) (b : Nat) : Turn (fun j => j = b) w w1 :=
  Turn.of_below b1 (F := fun j => j = b) (fun j h1 h2 => absurd h2 (by omega))

/-- It has seen one slot more. -/
def seeX (x : Px) (r : Rc) : Px := { x with last := fun k => if k = r.who then (if x.last k < r.seq then (r.seq : Int) else x.last k) else x.last k, seen := x.seen + 1 }
def SeePost (b : Nat) (x : Px) (r : Rc) (w : World) (en : Ending) (w' : World) : Prop := en = .returned (.tuple #[]) ∧ Pr w' b (seeX x r) ∧ Turn (fun j => j = b) w w'

set_option maxHeartbeats 2000000 in
theorem see_calls (h : Pr w b x) (r : Rc) (hr : r.Fits) (h1 : 0 ≤ x.seen) (h2 : x.seen ≤ 1000) : Calls Try.prog 51 #[.pointer (some ⟨b, 0, none⟩), .string (tx r)] w (SeePost b x r w) := by
  have H := Lib.hid h
  have hb : b < w.heap.size := Has.lt h
  have HR := Lib.hid hr
  obtain ⟨t, ht⟩ : ∃ t, t = tx r := ⟨_, rfl⟩
  have HP := Lib.hid (parse_some r w hr)
  rw [← ht] at HP ⊢
  obtain ⟨i, n, s⟩ := r
  have hi1 : (i : Int) < 64 := by have : i ≤ 63 := hr.1; omega
  have hi0 : (0 : Int) ≤ (i : Int) := by omega
  have hi2 : i < 64 := by omega
  obtain ⟨m, hm⟩ : ∃ m : Int, (if x.last i < (n : Int) then (n : Int) else x.last i) = m := ⟨_, rfl⟩
  have HM := Lib.hid hm
  obtain ⟨la, hla⟩ : ∃ la, la = x.last i := ⟨_, rfl⟩
  rw [← hla] at hm
  have HLA := Lib.hid hla
  obtain ⟨sn, hsn⟩ : ∃ sn, sn = x.seen := ⟨_, rfl⟩
  rw [← hsn] at h1 h2
  have HSN := Lib.hid hsn
  clear h ht hla hsn hr
  dsimp only at HP
  go_enter Try.func51, Try.ntmps51
  go_wp2_with (first
    | (go_at_call 36; refine HP.out.mono ?_; rintro en w1 ⟨rfl, b1⟩
       have B1 := Lib.hid b1
       clear b1)
    | fail)
  go_name_world W hW
  have P1 : Hid (Pr W b x) := by rw [← hW]; exact Lib.hid ((H.out.below B1.out).alloc _)
  have R1 : Hid (Has W w1.heap.size 53 #[.int .i64 i, .int .i64 n, .string s]) := by rw [← hW]; exact Lib.hid (Has.made _ _ _)
  have T1 : Hid (Turn (fun j => j = b) w W) := by rw [← hW]; exact Lib.hid ((quiet_turn B1.out b).alloc _)
  have hne : w1.heap.size ≠ b := by have := B1.out.size; omega
  clear hW B1 H HP
  generalize w1.heap.size = q at *
  have r0 : W.cell? ⟨q, 0, none⟩ = some (.int .i64 i) := R1.out.cell 0
  have r1 : W.cell? ⟨q, 1, none⟩ = some (.int .i64 n) := R1.out.cell 1
  have cl : W.cell? ⟨b, 6 + i, none⟩ = some (.int .i64 la) := by rw [HLA.out]; exact P1.out.cl hi2
  have fl : W.frozen? ⟨b, 6 + i, none⟩ = false := P1.out.free _
  go_region
  all_goals
    have P2 := Lib.hid ((P1.out.putLast hi2 m).drew)
    have T2 := Lib.hid ((T1.out.put (b := b) (fun _ => rfl) (6 + i) (.int .i64 m)).drew)
    have c5 : ((W.setCell ⟨b, 6 + i, none⟩ (.int .i64 m)).drew).cell? ⟨b, 5, none⟩ = some (.int .i64 sn) := by rw [HSN.out]; exact P2.out.c5
    have f5 := P2.out.free 5
    have hE : Hid (({ ({ x with last := fun j => if j = i then m else x.last j } : Px) with seen := sn + 1 } : Px) = seeX x ⟨i, n, s⟩) := by
      refine Lib.hid ?_
      have hf : (fun j => if j = i then m else x.last j) = fun k => if k = i then (if x.last k < (n : Int) then (n : Int) else x.last k) else x.last k := by
        funext k
        by_cases e : k = i
        · subst e
          rw [if_pos rfl, if_pos rfl, HM.out]
        · rw [if_neg e, if_neg e]
      unfold seeX
      rw [HSN.out, hf]
    generalize (W.setCell ⟨b, 6 + i, none⟩ (.int .i64 m)).drew = W2 at *
    clear hm r0 r1 cl fl
    go_wp2_with fail
    go_end0
    exact ⟨rfl, by rw [← hE.out]; exact P2.out.putSeen (sn + 1), T2.out.put (fun _ => rfl) 5 _⟩

/-- The slot is decided: it is done, or goes on. -/
def decX (x : Px) (r : Rc) : Px := if tx r = x.own then (seeX x r).idle else toSlotX (seeX x r)
def decD (x : Px) (r : Rc) : Bool := decide (tx r = x.own) || decide (x.slots ≤ x.seen + 1)
def decF (x : Px) (r : Rc) : Bool := !decide (tx r = x.own) && decide (x.slots ≤ x.seen + 1)
def decS (x : Px) (r : Rc) : Int := if tx r = x.own then x.seen else 0
def DecPost (b : Nat) (x : Px) (r : Rc) (w : World) (en : Ending) (w' : World) : Prop := EndPost b (decX x r) (decD x r) (decF x r) (decS x r) w en w'

theorem bytes_list {s t : ByteArray} (h : s.toList = t.toList) : s = t := by
  rw [ByteArray.toList_eq, ByteArray.toList_eq] at h
  cases s; cases t
  simp at h
  rw [h]
theorem bytes_ne {s t : ByteArray} (h : s ≠ t) : (s.toList == t.toList) = false := beq_eq_false_iff_ne.2 fun e => h (bytes_list e)

set_option maxHeartbeats 2000000 in
theorem decided_calls (h : Pr w b x) (r : Rc) (hr : r.Fits) (h1 : 0 ≤ x.seen) (h2 : x.seen ≤ 1000) : Calls Try.prog 46 #[.pointer (some ⟨b, 0, none⟩), .string (tx r)] w (DecPost b x r w) := by
  have H := Lib.hid h
  have hb : b < w.heap.size := Has.lt h
  have HR := Lib.hid hr
  obtain ⟨t, ht⟩ : ∃ t, t = tx r := ⟨_, rfl⟩
  have HSEE := Lib.hid (see_calls (h.alloc (.cells #[.bool false, .bool false, .int .i64 0] 36)) r hr h1 h2)
  rw [← ht] at HSEE ⊢
  have HT := Lib.hid ht
  obtain ⟨own, hown⟩ : ∃ own, own = x.own := ⟨_, rfl⟩
  have HOWN := Lib.hid hown
  obtain ⟨sn, hsn⟩ : ∃ sn, sn = x.seen := ⟨_, rfl⟩
  rw [← hsn] at h1 h2
  have HSN := Lib.hid hsn
  clear h ht hown hsn hr
  by_cases he : t = own
  · have hee : (t.toList == own.toList) = true := by rw [he]; exact beq_self_eq_true _
    have hq : Hid (decX x r = (seeX x r).idle ∧ decD x r = true ∧ decF x r = false ∧ decS x r = sn) := by
      have e : tx r = x.own := by rw [← HT.out, he, HOWN.out]
      refine Lib.hid ⟨if_pos e, by unfold decD; rw [decide_eq_true e]; rfl, by unfold decF; rw [decide_eq_true e]; rfl, ?_⟩
      unfold decS
      rw [if_pos e, HSN.out]
    replace he := Lib.hid he
    go_enter Try.func46, Try.ntmps46
    go_wp2_with (first
      | (go_at_call 51; refine HSEE.out.mono ?_; rintro en w1 ⟨rfl, h1', t1⟩
         have P1 := Lib.hid h1'
         have E1 := Lib.hid ((Has.made w 36 _).turn t1 (fun e => by omega))
         have T1 : Hid (Turn (fun j => j = b) w w1) := Lib.hid (((Turn.refl (fun j => j = b) w).alloc _).trans t1 (fun _ _ e => e))
         have c70 : w1.cell? ⟨b, 70, none⟩ = some (.string own) := by rw [HOWN.out]; exact h1'.c70
         have c5 : w1.cell? ⟨b, 5, none⟩ = some (.int .i64 (sn + 1)) := by rw [HSN.out]; exact h1'.c5
         clear h1' t1)
      | (go_at_call 50; refine (done_calls P1.out false false sn).mono ?_; rintro en w2 ⟨rfl, h2', t2⟩
         have P2 := Lib.hid h2'
         have E2 := Lib.hid (E1.out.turn t2 (fun e => by omega))
         have T2 : Hid (Turn (fun j => j = b) w w2) := Lib.hid (T1.out.trans t2 (fun _ _ e => e))
         obtain ⟨k0, k1, k2, z0, z1, z2⟩ := endAt E2.out
         clear h2' t2)
      | fail)
    obtain ⟨hE, hP, hT⟩ := end_fin (d := true) (f := false) (s := sn) E2.out (Nat.le_refl _) hb P2.out T2.out
    refine bodyPost_ret (res_end rfl _ _ w.heap.size true false sn rfl hE) rfl ⟨?_, by rw [hq.out.1]; exact hP, hT⟩
    rw [hq.out.2.1, hq.out.2.2.1, hq.out.2.2.2]
  · have hee : (t.toList == own.toList) = false := bytes_ne he
    have hq : Hid (decX x r = toSlotX (seeX x r) ∧ decD x r = decide ((seeX x r).slots ≤ (seeX x r).seen) ∧ decF x r = decide ((seeX x r).slots ≤ (seeX x r).seen) ∧ decS x r = 0) := by
      have e : ¬ tx r = x.own := by rw [← HT.out, ← HOWN.out]; exact he
      refine Lib.hid ⟨if_neg e, by unfold decD; rw [decide_eq_false e]; rfl, by unfold decF; rw [decide_eq_false e]; rfl, if_neg e⟩
    replace he := Lib.hid he
    obtain ⟨dd, hdd⟩ : ∃ dd, dd = decide ((seeX x r).slots ≤ (seeX x r).seen) := ⟨_, rfl⟩
    rw [← hdd] at hq
    have HDD := Lib.hid hdd
    clear hdd
    go_enter Try.func46, Try.ntmps46
    go_wp2_with (first
      | (go_at_call 51; refine HSEE.out.mono ?_; rintro en w1 ⟨rfl, h1', t1⟩
         have P1 := Lib.hid h1'
         have E1 := Lib.hid ((Has.made w 36 _).turn t1 (fun e => by omega))
         have T1 : Hid (Turn (fun j => j = b) w w1) := Lib.hid (((Turn.refl (fun j => j = b) w).alloc _).trans t1 (fun _ _ e => e))
         have c70 : w1.cell? ⟨b, 70, none⟩ = some (.string own) := by rw [HOWN.out]; exact h1'.c70
         clear h1' t1)
      | (go_at_call 43; refine (toSlot_calls P1.out).mono ?_; unfold ToSlotPost; rw [← HDD.out]; rintro en w2 ⟨rfl, h2', t2⟩
         have P2 := Lib.hid h2'
         have E2 := Lib.hid (E1.out.turn t2 (fun e => by omega))
         have T2 : Hid (Turn (fun j => j = b) w w2) := Lib.hid (T1.out.trans t2 (fun _ _ e => e))
         obtain ⟨k0, k1, k2, z0, z1, z2⟩ := endAt E2.out
         clear h2' t2)
      | fail)
    obtain ⟨hE, hP, hT⟩ := end_fin (d := dd) (f := dd) (s := 0) E2.out (Nat.le_refl _) hb P2.out T2.out
    refine bodyPost_ret (res_end rfl _ _ w.heap.size dd dd 0 rfl hE) rfl ⟨?_, by rw [hq.out.1]; exact hP, hT⟩
    rw [hq.out.2.1, hq.out.2.2.1, hq.out.2.2.2]

/-- What it offers: a wish that isn't decided yet, else its own record. -/
def chooseX (x : Px) : Option Rc → ByteArray
  | some r => if x.last r.who < (r.seq : Int) then tx r else x.own
  | none => x.own
def txo : Option Rc → ByteArray
  | none => ⟨#[]⟩
  | some r => tx r
def ChoosePost (x : Px) (o : Option Rc) (w : World) (en : Ending) (w' : World) : Prop := en = .returned (.string (chooseX x o)) ∧ Below w.heap.size w w'

theorem below_drewN {B : Nat} {w w' : World} (h : Below B w w') (n : Nat) : Below B w (w'.drewN n) := ⟨h.os, h.tape, h.output, h.size, h.block⟩

set_option maxHeartbeats 2000000 in
theorem choose_none (h : Pr w b x) : Calls Try.prog 47 #[.pointer (some ⟨b, 0, none⟩), .string ⟨#[]⟩] w (ChoosePost x none w) := by
  have H := Lib.hid h
  have hb := Has.lt h
  clear h
  go_enter Try.func47, Try.ntmps47
  go_wp2_with (first
    | (go_at_call 36; refine (parse_empty _).mono ?_; rintro en w1 ⟨⟨e, he, rfl⟩, b1⟩
       have he' : (e == 0) = false := beq_eq_false_iff_ne.2 he
       have HB := Lib.hid b1
       have c70 := (H.out.below b1).c70
       have hb1 : b < w1.heap.size := Nat.lt_of_lt_of_le hb b1.size
       clear b1)
    | fail)
  go_quiet (fail)
  rename_i nq
  go_wp2_with fail
  go_ret
  exact ⟨rfl, below_drewN (HB.out.alloc HB.out.size _) nq⟩

set_option maxHeartbeats 2000000 in
theorem choose_some (h : Pr w b x) (r : Rc) (hr : r.Fits) : Calls Try.prog 47 #[.pointer (some ⟨b, 0, none⟩), .string (tx r)] w (ChoosePost x (some r) w) := by
  have H := Lib.hid h
  have hb : b < w.heap.size := Has.lt h
  obtain ⟨t, ht⟩ : ∃ t, t = tx r := ⟨_, rfl⟩
  have HP := Lib.hid (parse_some r w hr)
  rw [← ht] at HP ⊢
  have HT := Lib.hid ht
  obtain ⟨i, n, s⟩ := r
  have hi1 : (i : Int) < 64 := by have : i ≤ 63 := hr.1; omega
  have hi0 : (0 : Int) ≤ (i : Int) := by omega
  have hi2 : i < 64 := by omega
  obtain ⟨la, hla⟩ : ∃ la, la = x.last i := ⟨_, rfl⟩
  have HLA := Lib.hid hla
  clear h ht hla hr
  dsimp only at HP
  by_cases hc : la < (n : Int)
  case' pos =>
    have hE : Hid (chooseX x (some ⟨i, n, s⟩) = t) := Lib.hid (by rw [HT.out]; show (if x.last i < (n : Int) then _ else _) = _; rw [← HLA.out, if_pos hc])
    have hcb : decide (la < (n : Int)) = true := decide_eq_true hc
  case' neg =>
    have hE : Hid (chooseX x (some ⟨i, n, s⟩) = x.own) := Lib.hid (by show (if x.last i < (n : Int) then _ else _) = _; rw [← HLA.out, if_neg hc])
    have hcb : decide (la < (n : Int)) = false := decide_eq_false hc
  all_goals
    go_enter Try.func47, Try.ntmps47
    go_wp2_with (first
      | (go_at_call 36; refine HP.out.mono ?_; rintro en w1 ⟨rfl, b1⟩
         have HB := Lib.hid b1
         have c70 := (H.out.below b1).c70
         have hb1 : b < w1.heap.size := Nat.lt_of_lt_of_le hb b1.size
         have cl : w1.cell? ⟨b, 6 + i, none⟩ = some (.int .i64 la) := by rw [HLA.out]; exact (H.out.below b1).cl hi2
         clear b1)
      | fail)
    go_quiet (fail)
    rename_i nq
    go_wp2_with fail
    go_ret
    exact ⟨by rw [hE.out]; rfl, below_drewN (HB.out.alloc HB.out.size _) nq⟩

theorem choose_calls (h : Pr w b x) (o : Option Rc) (ho : ∀ r, o = some r → r.Fits) : Calls Try.prog 47 #[.pointer (some ⟨b, 0, none⟩), .string (txo o)] w (ChoosePost x o w) := by
  cases o with
  | none => exact choose_none h
  | some r => exact choose_some h r (ho r rfl)

end
end Go.Proofs.Ytlbpephbigikcab.prc
