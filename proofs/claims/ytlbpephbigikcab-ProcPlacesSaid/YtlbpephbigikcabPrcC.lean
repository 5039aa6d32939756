/- proc: a record's bytes: Text and Parse. -/
import Derived.Test.YtlbpephbigikcabPrcB
import Derived.Test.YtlbpephbigikcabPrcN
import Derived.Test.YtlbpephbigikcabWireS
import Derived.Test.YtlbpephbigikcabWireT
import Derived.Test.YtlbpephbigikcabWireP
namespace Go.Proofs.Ytlbpephbigikcab.prc
open Go Go.RowKit

/-- A record's bytes. -/
def txL (r : Rc) : List UInt8 := enc r.who ++ (enc r.seq ++ (enc r.body.size ++ r.body.data.toList))
def tx (r : Rc) : ByteArray := ⟨(txL r).toArray⟩

/-- A record that may be. -/
def Rc.Fits (r : Rc) : Prop := r.who ≤ 63 ∧ r.seq ≤ 1099511627776 ∧ r.body.size ≤ 1024

theorem txL_len (r : Rc) (h : r.Fits) : (txL r).length ≤ 1060 := by
  obtain ⟨h1, h2, h3⟩ := h
  unfold txL
  have a1 := enc_len r.who (by omega)
  have a2 := enc_len r.seq (by omega)
  have a3 := enc_len r.body.size (by omega)
  have a4 : r.body.data.toList.length = r.body.size := by simp
  simp only [List.length_append]
  omega
theorem tx_size (r : Rc) (h : r.Fits) : (tx r).size ≤ 1060 := by
  show (txL r).toArray.size ≤ _
  rw [List.size_toArray]
  exact txL_len r h

theorem enc_ne (n : Nat) : enc n ≠ [] := by unfold enc; simp
theorem tx_ne (r : Rc) : tx r ≠ ⟨#[]⟩ := by
  intro e
  have h : (txL r).toArray = #[] := congrArg ByteArray.data e
  have h2 : txL r = [] := by simpa using h
  unfold txL at h2
  exact enc_ne _ (List.append_eq_nil_iff.1 h2).1

theorem wr_made (w : World) : Wr (w.alloc (.cells #[.slice none 0 0] 80)) w.heap.size none [] :=
  ⟨_, Has.made _ _ _, World.ownsRow_nil _ 0 _ 1, rfl, by intro h; cases h⟩
theorem wr_made1 (w : World) (o : Obj) : Wr ((w.alloc o).alloc (.cells #[.slice none 0 0] 80)) (w.heap.size + 1) none [] :=
  ⟨_, Has.made1 _ _ _ _, World.ownsRow_nil _ 0 _ 1, rfl, by intro h; cases h⟩

theorem bytes_of_list {s : ByteArray} {l : List UInt8} (h : s.data.toList = l) : s = ⟨l.toArray⟩ := by
  apply ByteArray.ext
  apply Array.ext'
  simpa using h

set_option maxRecDepth 100000 in
set_option maxHeartbeats 1000000 in
theorem text_calls (r : Rc) (w : World) (hr : r.Fits) : Calls Try.prog 19 #[.agg #[.int .i64 r.who, .int .i64 r.seq, .string r.body]] w (ret1 (.string (tx r)) w) := by
  obtain ⟨who, seq, body⟩ := r
  obtain ⟨h1, h2, h3⟩ := hr
  dsimp only at h1 h2 h3 ⊢
  have hw0 : ¬ (who : Int) < 0 := by omega
  have hs0 : ¬ (seq : Int) < 0 := by omega
  have hw1 : (who : Int) ≤ 63 := by omega
  have hs1 : (seq : Int) ≤ 1099511627776 := by omega
  go_enter Try.func19, Try.ntmps19
  go_wp2_with fail
  refine (wnum_int (w.heap.size + 1) none [] (who : Int) _ (by omega) (by omega) (wr_made1 w _) (by simp)).mono ?_
  rintro en w1 ⟨rfl, r1, h1w, hr1, t1⟩
  rw [List.nil_append, Int.toNat_natCast] at h1w
  have X1 := Lib.hid (((Has.made w 53 #[.int .i64 who, .int .i64 seq, .string body]).alloc (.cells #[.slice none 0 0] 80)).turn t1 (fun e => by rcases e with e | e; (omega); (cases e)))
  have B1 : Hid (Below w.heap.size w w1) := Lib.hid (((((Below.refl _ w).alloc (Nat.le_refl _) (.cells #[.int .i64 who, .int .i64 seq, .string body] 53)).alloc (by simp) (.cells #[.slice none 0 0] 80))).trans (t1.below (by simp; omega) (fun j hj h => by rcases h with h | h; (omega); (cases h))))
  have hz1 : w.heap.size + 2 ≤ w1.heap.size := by have := t1.size; simpa using this
  have H1 := Lib.hid h1w
  have R1 : Hid (∀ k, some k = r1 → w.heap.size + 2 ≤ k) := Lib.hid (fun k hk => by
    rcases hr1 with e | ⟨k', e, h⟩
    · rw [e] at hk; cases hk
    · rw [e] at hk; injection hk with hk; subst hk; simpa using h)
  have c1 : w1.cell? ⟨w.heap.size, 1, none⟩ = some (.int .i64 seq) := X1.out.cell 1
  clear h1w hr1 t1
  go_wp2_with fail
  refine (wnum_int (w.heap.size + 1) r1 (enc who) (seq : Int) _ (by omega) (by omega) H1.out (by have := enc_len who (by omega); omega)).mono ?_
  rintro en w2 ⟨rfl, r2, h2w, hr2, t2⟩
  rw [Int.toNat_natCast] at h2w
  have X2 := Lib.hid (X1.out.turn t2 (fun e => by
    rcases e with e | e
    · omega
    · have := R1.out _ e; omega))
  have B2 : Hid (Below w.heap.size w w2) := Lib.hid (B1.out.trans (t2.below (by omega) (fun j hj h => by rcases h with h | h; (omega); (have := R1.out _ h; omega))))
  have hz2 : w.heap.size + 2 ≤ w2.heap.size := Nat.le_trans hz1 t2.size
  have H2 := Lib.hid h2w
  have R2 : Hid (∀ k, some k = r2 → w.heap.size + 2 ≤ k) := Lib.hid (fun k hk => by
    rcases hr2 with e | ⟨k', e, h⟩
    · exact R1.out k (hk.trans e)
    · rw [e] at hk; injection hk with hk; subst hk; omega)
  have c2 : w2.cell? ⟨w.heap.size, 2, none⟩ = some (.string body) := X2.out.cell 2
  clear h2w hr2 t2 H1 X1 B1 c1
  go_wp2_with fail
  refine (wstr_any (w.heap.size + 1) r2 (enc who ++ enc seq) body _ H2.out (by have := enc_len who (by omega); have := enc_len seq (by omega); rw [List.length_append]; omega) (by omega)).mono ?_
  rintro en w3 ⟨rfl, r3, h3w, hr3, t3⟩
  have H3 := Lib.hid h3w
  have B3 : Hid (Below w.heap.size w w3) := Lib.hid (B2.out.trans (t3.below (by omega) (fun j hj h => by rcases h with h | h; (omega); (have := R2.out _ h; omega))))
  clear h3w hr3 t3 H2 X2 B2 c2
  go_wp2_with fail
  refine (text_any _ _ _ _ H3.out).mono ?_
  rintro en w4 ⟨rfl, rfl⟩
  go_wp2_with fail
  go_ret
  refine ⟨?_, B3.out⟩
  unfold tx txL
  rfl

/-- What Parse makes of any bytes. -/
def parse1 (s : ByteArray) : Nat × Nat × ByteArray × Int :=
  ((upto 63 s 0).1, (upto 1099511627776 (upto 63 s 0).2.1 (upto 63 s 0).2.2).1, (strN 1024 (upto 1099511627776 (upto 63 s 0).2.1 (upto 63 s 0).2.2).2.1 (upto 1099511627776 (upto 63 s 0).2.1 (upto 63 s 0).2.2).2.2).1,
    endE (strN 1024 (upto 1099511627776 (upto 63 s 0).2.1 (upto 63 s 0).2.2).2.1 (upto 1099511627776 (upto 63 s 0).2.1 (upto 63 s 0).2.2).2.2).2.1 (strN 1024 (upto 1099511627776 (upto 63 s 0).2.1 (upto 63 s 0).2.2).2.1 (upto 1099511627776 (upto 63 s 0).2.1 (upto 63 s 0).2.2).2.2).2.2)

theorem parse_tx (r : Rc) (h : r.Fits) : parse1 (tx r) = (r.who, r.seq, r.body, 0) := by
  obtain ⟨h1, h2, h3⟩ := h
  have e1 : upto 63 (tx r) 0 = (r.who, ⟨(enc r.seq ++ (enc r.body.size ++ r.body.data.toList)).toArray⟩, 0) := upto_enc r.who _ 63 (by omega) (by omega)
  have e2 : upto 1099511627776 ⟨(enc r.seq ++ (enc r.body.size ++ r.body.data.toList)).toArray⟩ 0 = (r.seq, ⟨(enc r.body.size ++ r.body.data.toList).toArray⟩, 0) := upto_enc r.seq _ 1099511627776 (by omega) (by omega)
  have hl : r.body.data.toList.length = r.body.size := by simp
  have e3 : strN 1024 ⟨(enc r.body.size ++ r.body.data.toList).toArray⟩ 0 = (⟨r.body.data.toList.toArray⟩, ⟨([] : List UInt8).toArray⟩, 0) := by
    have := strN_enc r.body.data.toList [] 1024 (by rw [hl]; omega) (by rw [hl]; omega)
    rw [List.append_nil, hl] at this
    exact this
  unfold parse1
  simp only [e1, e2, e3]
  rfl

theorem tx_inj {r s : Rc} (hr : r.Fits) (hs : s.Fits) (h : tx r = tx s) : r = s := by
  have e := parse_tx r hr
  rw [h, parse_tx s hs] at e
  simp only [Prod.mk.injEq, and_true] at e
  obtain ⟨e1, e2, e3⟩ := e
  cases r; cases s
  simp only at e1 e2 e3
  rw [e1, e2, e3]

theorem upto_err (most : Int) (e : Int) (he : e ≠ 0) : upto most ⟨#[]⟩ e = (0, ⟨#[]⟩, e) := by
  have h : dec 0 0 ([] : List UInt8) = (1, 0, 0) := rfl
  unfold upto
  show (if ((dec 0 0 ([] : List UInt8)).2.1 : Int) ≤ max most 0 then _ else _) = _
  rw [h]
  have e1 : errOf e (1, 0, 0) = e := by unfold errOf; rw [if_neg (by decide), first_some he]
  have e2 : restOf ⟨#[]⟩ (1, 0, 0) = ⟨#[]⟩ := by unfold restOf; rw [if_neg (by decide)]
  split
  · rw [e1, e2]
  · rw [e1, first_some he]

theorem parse_none : ∃ e : Int, parse1 ⟨#[]⟩ = (0, 0, ⟨#[]⟩, e) ∧ e ≠ 0 := by
  have e1 : upto 63 ⟨#[]⟩ 0 = (0, ⟨#[]⟩, 1) := by
    have h : dec 0 0 ([] : List UInt8) = (1, 0, 0) := rfl
    unfold upto
    show (if ((dec 0 0 ([] : List UInt8)).2.1 : Int) ≤ max 63 0 then _ else _) = _
    rw [h]
    rfl
  have e3 : strN 1024 ⟨#[]⟩ 1 = (⟨#[]⟩, ⟨#[]⟩, 1) := by
    unfold strN
    rw [upto_err 1024 1 (by decide)]
    rfl
  refine ⟨1, ?_, by decide⟩
  unfold parse1
  simp only [e1, upto_err 1099511627776 1 (by decide), e3]
  rfl

def ParsePost (s : ByteArray) (w : World) (en : Ending) (w' : World) : Prop :=
  ∃ who seq body e, parse1 s = (who, seq, body, e) ∧ Below w.heap.size w w' ∧
    ((e = 0 ∧ en = .returned (.tuple #[.agg #[.int .i64 (who : Nat), .int .i64 (seq : Nat), .string body], .int .i64 0])) ∨ (e ≠ 0 ∧ en = .returned (.tuple #[.agg #[.int .i64 0, .int .i64 0, .string ⟨#[]⟩], .int .i64 e])))

theorem res_rec {fn : Func} {t u : Tmp} (h : fn.results = #[.cell t 53, .tmp u]) (tmps : Array Value) (w : World) (g : Nat) (a b : Int) (s : ByteArray) (v : Value) (hx : tmps.getD t undef = .pointer (some ⟨g, 0, none⟩)) (hv : tmps.getD u undef = v)
    (hE : Has w g 53 #[.int .i64 a, .int .i64 b, .string s]) :
    (results fn tmps).run Try.prog w = .ok (.tuple #[.agg #[.int .i64 a, .int .i64 b, .string s], v]) w := by
  have c0 : w.cell? ⟨g, 0, none⟩ = some (.int .i64 a) := hE.cell 0
  have c1 : w.cell? ⟨g, 1, none⟩ = some (.int .i64 b) := hE.cell 1
  have c2 : w.cell? ⟨g, 2, none⟩ = some (.string s) := hE.cell 2
  subst hv
  rw [Array.getD_eq_getD_getElem?] at hx
  simp [results, h, hx, go_sem, c0, c1, c2]

set_option maxRecDepth 100000 in
set_option maxHeartbeats 2000000 in
theorem parse_calls (s : ByteArray) (w : World) (hs : s.size ≤ maxLen) : Calls Try.prog 36 #[.string s] w (ParsePost s w) := by
  obtain ⟨p, hp⟩ : ∃ p, p = parse1 s := ⟨_, rfl⟩
  have z1 := upto_size 63 s 0
  have z2 := upto_size 1099511627776 (upto 63 s 0).2.1 (upto 63 s 0).2.2
  have HP := Lib.hid hp
  unfold parse1 at hp
  obtain ⟨a, ha⟩ : ∃ a, a = upto 63 s 0 := ⟨_, rfl⟩
  rw [← ha] at hp z1 z2
  obtain ⟨b, hb⟩ : ∃ b, b = upto 1099511627776 a.2.1 a.2.2 := ⟨_, rfl⟩
  rw [← hb] at hp z2
  obtain ⟨c, hc⟩ : ∃ c, c = strN 1024 b.2.1 b.2.2 := ⟨_, rfl⟩
  rw [← hc] at hp
  obtain ⟨n1, s1, e1⟩ := a
  obtain ⟨n2, s2, e2⟩ := b
  obtain ⟨t3, s3, e3⟩ := c
  dsimp only at hp z1 z2 hb hc
  obtain ⟨e4, he4⟩ : ∃ e4, e4 = endE s3 e3 := ⟨_, rfl⟩
  rw [← he4] at hp
  have HA := Lib.hid ha
  have HB := Lib.hid hb
  have HC := Lib.hid hc
  have HE4 := Lib.hid he4
  have HPP := Lib.hid hp
  have hs1 : Hid (s1.size ≤ maxLen) := Lib.hid (Nat.le_trans z1 hs)
  have hs2 : Hid (s2.size ≤ maxLen) := Lib.hid (Nat.le_trans z2 hs1.out)
  have HS := Lib.hid hs
  clear hp z1 z2 ha hb hc he4 hs
  go_enter Try.func36, Try.ntmps36
  go_wp2_with fail
  refine (read_any s _).mono ?_
  have hz : (w.alloc (.cells #[.int .i64 0, .int .i64 0, .string ⟨#[]⟩] 53)).heap.size = w.heap.size + 1 := by simp
  rw [hz]
  rintro en w1 ⟨rfl, h1, b1⟩
  have H1 := Lib.hid h1
  have G1 : Hid (Has w1 w.heap.size 53 #[.int .i64 0, .int .i64 0, .string ⟨#[]⟩]) := Lib.hid ((Has.made w 53 _).below b1 (by omega))
  have B1 : Hid (Below w.heap.size w w1) := Lib.hid (((Below.refl _ w).alloc (Nat.le_refl _) _).trans (b1.mono (by omega)))
  clear h1 b1 hz
  obtain ⟨g, hg⟩ : ∃ g, g = w.heap.size := ⟨_, rfl⟩
  rw [← hg] at H1 G1 B1 ⊢
  have HG := Lib.hid hg
  clear hg
  go_wp2_with fail
  refine (upto_any (g + 1) s 0 63 w1 HS.out H1.out (by omega) (by omega)).mono ?_
  rw [← HA.out]
  rintro en w2 ⟨rfl, h2, g2⟩
  dsimp only at h2 ⊢
  have H2 := Lib.hid h2
  have G2 := Lib.hid (G1.out.grown g2 (by intro e; injection e with e; omega))
  have B2 : Hid (Below g w w2) := Lib.hid (Below.grown B1.out g2 (by have := B1.out.size; have := HG.out; omega) (fun k e => by injection e with e; omega))
  clear h2 g2 G1 B1 H1
  go_wp2_with fail
  refine calls_name (fun W3 hW3 => ?_)
  obtain ⟨q, hq⟩ : ∃ q, q = w2.heap.size := ⟨_, rfl⟩
  have hgq : g + 1 < q := by have := H2.out.lt; omega
  have Q3 : Hid (Has W3 q 53 #[.int .i64 n1, .int .i64 0, .string ⟨#[]⟩]) := by rw [← hW3, hq]; exact Lib.hid (Has.made _ _ _)
  have H3 : Hid (Rd W3 (g + 1) s1 e1) := by rw [← hW3]; exact Lib.hid (H2.out.alloc _)
  have G3 : Hid (Has W3 g 53 #[.int .i64 0, .int .i64 0, .string ⟨#[]⟩]) := by rw [← hW3]; exact Lib.hid (G2.out.alloc _)
  have B3 : Hid (Below g w W3) := by rw [← hW3]; exact Lib.hid (B2.out.alloc (by omega) _)
  rw [← hq]
  clear hW3 hq H2 G2 B2
  refine (upto_any (g + 1) s1 e1 1099511627776 W3 hs1.out H3.out (by omega) (by omega)).mono ?_
  rw [← HB.out]
  rintro en w4 ⟨rfl, h4, g4⟩
  dsimp only at h4 ⊢
  have H4 := Lib.hid h4
  have G4 := Lib.hid (G3.out.grown g4 (by intro e; injection e with e; omega))
  have Q4 := Lib.hid (Q3.out.grown g4 (by intro e; injection e with e; omega))
  have B4 : Hid (Below g w w4) := Lib.hid (Below.grown B3.out g4 (by have := Q3.out.lt; omega) (fun k e => by injection e with e; omega))
  have q1 : w4.cell? ⟨q, 1, none⟩ = some (.int .i64 0) := Q4.out.cell 1
  have z1 : w4.frozen? ⟨q, 1, none⟩ = false := Q4.out.free 1
  clear h4 g4 G3 B3 H3 Q3
  go_wp2_with fail
  refine calls_name (fun W5 hW5 => ?_)
  have Q5 : Hid (Has W5 q 53 #[.int .i64 n1, .int .i64 n2, .string ⟨#[]⟩]) := by
    rw [← hW5]
    have := Q4.out.put 1 (.int .i64 n2)
    exact Lib.hid (by simpa using this)
  have H5 : Hid (Rd W5 (g + 1) s2 e2) := by rw [← hW5]; exact Lib.hid (H4.out.far (by show g + 1 ≠ q; omega) _)
  have G5 : Hid (Has W5 g 53 #[.int .i64 0, .int .i64 0, .string ⟨#[]⟩]) := by rw [← hW5]; exact Lib.hid (G4.out.far (by show g ≠ q; omega) _)
  have B5 : Hid (Below g w W5) := by rw [← hW5]; exact Lib.hid (B4.out.setCell (by show g ≤ q; omega) _)
  clear hW5 q1 z1 Q4 H4 G4 B4
  refine (str_any (g + 1) s2 e2 1024 W5 hs2.out H5.out (by omega) (by omega)).mono ?_
  rw [← HC.out]
  rintro en w6 ⟨rfl, h6, g6⟩
  dsimp only at h6 ⊢
  have H6 := Lib.hid h6
  have G6 := Lib.hid (G5.out.grown g6 (by intro e; injection e with e; omega))
  have Q6 := Lib.hid (Q5.out.grown g6 (by intro e; injection e with e; omega))
  have B6 : Hid (Below g w w6) := Lib.hid (Below.grown B5.out g6 (by have := Q5.out.lt; omega) (fun k e => by injection e with e; omega))
  have q2 : w6.cell? ⟨q, 2, none⟩ = some (.string ⟨#[]⟩) := Q6.out.cell 2
  have z2 : w6.frozen? ⟨q, 2, none⟩ = false := Q6.out.free 2
  clear h6 g6 G5 B5 H5 Q5
  go_wp2_with fail
  refine calls_name (fun W7 hW7 => ?_)
  have Q7 : Hid (Has W7 q 53 #[.int .i64 n1, .int .i64 n2, .string t3]) := by
    rw [← hW7]
    have := Q6.out.put 2 (.string t3)
    exact Lib.hid (by simpa using this)
  have H7 : Hid (Rd W7 (g + 1) s3 e3) := by rw [← hW7]; exact Lib.hid (H6.out.far (by show g + 1 ≠ q; omega) _)
  have G7 : Hid (Has W7 g 53 #[.int .i64 0, .int .i64 0, .string ⟨#[]⟩]) := by rw [← hW7]; exact Lib.hid (G6.out.far (by show g ≠ q; omega) _)
  have B7 : Hid (Below g w W7) := by rw [← hW7]; exact Lib.hid (B6.out.setCell (by show g ≤ q; omega) _)
  clear hW7 q2 z2 Q6 H6 G6 B6
  refine (end_any (g + 1) s3 e3 W7 H7.out).mono ?_
  rw [← HE4.out]
  rintro en w8 ⟨rfl, h8, g8⟩
  have G8 := Lib.hid (G7.out.grown g8 (by intro e; injection e with e; omega))
  have Q8 := Lib.hid (Q7.out.grown g8 (by intro e; injection e with e; omega))
  have B8 : Hid (Below g w w8) := Lib.hid (Below.grown B7.out g8 (by have := Q7.out.lt; omega) (fun k e => by injection e with e; omega))
  have q0 : w8.cell? ⟨q, 0, none⟩ = some (.int .i64 n1) := Q8.out.cell 0
  have q1 : w8.cell? ⟨q, 1, none⟩ = some (.int .i64 n2) := Q8.out.cell 1
  have q2 : w8.cell? ⟨q, 2, none⟩ = some (.string t3) := Q8.out.cell 2
  have y0 : w8.cell? ⟨g, 0, none⟩ = some (.int .i64 0) := G8.out.cell 0
  have y1 : w8.cell? ⟨g, 1, none⟩ = some (.int .i64 0) := G8.out.cell 1
  have y2 : w8.cell? ⟨g, 2, none⟩ = some (.string ⟨#[]⟩) := G8.out.cell 2
  have z0 : w8.frozen? ⟨g, 0, none⟩ = false := G8.out.free 0
  have z1 : w8.frozen? ⟨g, 1, none⟩ = false := G8.out.free 1
  have z2 : w8.frozen? ⟨g, 2, none⟩ = false := G8.out.free 2
  clear h8 g8 G7 B7 H7 Q7
  by_cases hz : e4 = 0
  · have HZ := Lib.hid hz
    go_wp2_with fail
    have E9 := ((G8.out.put 0 (.int .i64 n1)).put 1 (.int .i64 n2)).put 2 (.string t3)
    have E10 : Has (((w8.setCell ⟨g, 0, none⟩ (.int .i64 n1)).setCell ⟨g, 1, none⟩ (.int .i64 n2)).setCell ⟨g, 2, none⟩ (.string t3)) g 53 #[.int .i64 n1, .int .i64 n2, .string t3] := by simpa using E9
    refine bodyPost_ret (res_rec rfl _ _ g n1 n2 t3 (.int .i64 0) rfl rfl E10) rfl ⟨n1, n2, t3, e4, by rw [← HP.out, HPP.out], ?_, .inl ⟨HZ.out, rfl⟩⟩
    rw [← HG.out]
    exact ((B8.out.setCell (Nat.le_refl _) _).setCell (Nat.le_refl _) _).setCell (Nat.le_refl _) _
  · have HZ := Lib.hid hz
    go_wp2_with fail
    have E9 := ((G8.out.put 0 (.int .i64 0)).put 1 (.int .i64 0)).put 2 (.string ⟨#[]⟩)
    have E10 : Has (((w8.setCell ⟨g, 0, none⟩ (.int .i64 0)).setCell ⟨g, 1, none⟩ (.int .i64 0)).setCell ⟨g, 2, none⟩ (.string ⟨#[]⟩)) g 53 #[.int .i64 0, .int .i64 0, .string ⟨#[]⟩] := by simpa using E9
    refine bodyPost_ret (res_rec rfl _ _ g 0 0 ⟨#[]⟩ (.int .i64 e4) rfl rfl E10) rfl ⟨n1, n2, t3, e4, by rw [← HP.out, HPP.out], ?_, .inr ⟨HZ.out, rfl⟩⟩
    rw [← HG.out]
    exact ((B8.out.setCell (Nat.le_refl _) _).setCell (Nat.le_refl _) _).setCell (Nat.le_refl _) _
end Go.Proofs.Ytlbpephbigikcab.prc
