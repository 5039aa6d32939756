/- What wire's Reader takes again of what its Writer has put. -/
import Derived.Test.YtigojpjmncclaaaSumB
import Derived.Test.YtigojpjmncclaaaWireX
import Derived.Test.YtigojpjmncclaaaBuild
namespace Go.Proofs.Ytigojpjmncclaaa
open Go.RowKit

theorem hi_nil (m : Nat) : (hi m).length = 0 → m = 0 := by
  intro h
  rw [hi] at h
  by_cases hm : m = 0
  · exact hm
  · rw [if_neg hm] at h; simp at h

theorem dec_hi (m : Nat) : m < 144115188075855872 → ∀ l, dec 0 0 (hi m ++ l) = dec (hi m).length m l := by
  induction m using Nat.strongRecOn with
  | ind m ih =>
    intro hm l
    by_cases h0 : m = 0
    · subst h0; rw [hi_zero]; rfl
    · have hh : hi m = hi (m / 128) ++ [UInt8.ofNat (128 + m % 128)] := by
        conv => lhs; rw [hi, if_neg h0]
      rw [hh, List.append_assoc, ih (m / 128) (by omega) (by omega), List.singleton_append, dec]
      have hb : (UInt8.ofNat (128 + m % 128)).toNat = 128 + m % 128 := by simp; omega
      rw [hb, if_neg, if_neg (by omega)]
      · rw [List.length_append, List.length_singleton]
        congr 1
        omega
      · rintro (⟨h1, h2⟩ | h1)
        · have := hi_nil _ h1
          omega
        · omega

theorem dec_of_enc (n : Nat) (hn : n < 18446744073709551616) (t : List UInt8) : dec 0 0 (enc n ++ t) = (0, n, (enc n).length) := by
  unfold enc
  rw [List.append_assoc, dec_hi (n / 128) (by omega), List.singleton_append, dec]
  have hb : (UInt8.ofNat (n % 128)).toNat = n % 128 := by simp; omega
  rw [hb, if_neg, if_pos (by omega)]
  · rw [List.length_append, List.length_singleton]
    congr 2
    omega
  · rintro (⟨_, h2⟩ | h1) <;> omega

theorem extract_drop (a t : List UInt8) : (⟨(a ++ t).toArray⟩ : ByteArray).extract a.length (⟨(a ++ t).toArray⟩ : ByteArray).size = ⟨t.toArray⟩ := by
  apply ByteArray.ext
  apply Array.toList_inj.1
  have : (⟨(a ++ t).toArray⟩ : ByteArray).size = a.length + t.length := by show (a ++ t).toArray.size = _; simp
  rw [this]
  simp [ByteArray.data_extract]

theorem extract_head (a t : List UInt8) : (⟨(a ++ t).toArray⟩ : ByteArray).extract 0 a.length = ⟨a.toArray⟩ := by
  apply ByteArray.ext
  apply Array.toList_inj.1
  simp [ByteArray.data_extract]

theorem text_size (a : List UInt8) : (⟨a.toArray⟩ : ByteArray).size = a.length := by show a.toArray.size = _; simp

/-- v is taken, t is left, no error. -/
def GotPost (b : Nat) (t : List UInt8) (w : World) (v : Value) (en : Ending) (w' : World) : Prop :=
  en = .returned v ∧ Rd w' b ⟨t.toArray⟩ 0 ∧ w.grownBy w' (some b)

theorem rnum_got (b n : Nat) (t : List UInt8) (w : World) (hn : n < 18446744073709551616) (hl : (enc n ++ t).length ≤ 1000000) (h : Rd w b ⟨(enc n ++ t).toArray⟩ 0) :
    Calls Try.prog 21 #[.pointer (some ⟨b, 0, none⟩)] w fun en w' => GotPost b t w (.int .u64 n) en w' :=
  (num_any b _ 0 w (by rw [text_size]; unfold maxLen; omega) h).mono fun en w' hp => by
    obtain ⟨h1, h2, h3⟩ := hp
    have e : dec 0 0 (⟨(enc n ++ t).toArray⟩ : ByteArray).data.toList = (0, n, (enc n).length) := dec_of_enc n hn t
    rw [e] at h1 h2
    exact ⟨h1, by have := extract_drop (enc n) t; rw [← this]; exact h2, h3⟩

theorem unz_zz (k : Int) : unz (zz k) = k := by
  unfold unz zz
  by_cases hk : k < 0
  · rw [if_pos hk, if_pos (by omega)]; omega
  · rw [if_neg hk, if_neg (by omega)]; omega

theorem rint_got (b : Nat) (k : Int) (t : List UInt8) (w : World) (hn0 : -9223372036854775808 ≤ k) (hn1 : k ≤ 9223372036854775807) (hl : (enc (zz k) ++ t).length ≤ 1000000) (h : Rd w b ⟨(enc (zz k) ++ t).toArray⟩ 0) :
    Calls Try.prog 23 #[.pointer (some ⟨b, 0, none⟩)] w fun en w' => GotPost b t w (.int .i64 k) en w' :=
  (rint_any b _ 0 w (by rw [text_size]; unfold maxLen; omega) h).mono fun en w' hp => by
    obtain ⟨h1, h2, h3⟩ := hp
    have e : dec 0 0 (⟨(enc (zz k) ++ t).toArray⟩ : ByteArray).data.toList = (0, zz k, (enc (zz k)).length) := dec_of_enc (zz k) (by unfold zz; split <;> omega) t
    rw [e] at h1 h2
    refine ⟨by rw [h1]; show Ending.returned (.int .i64 (unz (zz k))) = _; rw [unz_zz], by have := extract_drop (enc (zz k)) t; rw [← this]; exact h2, h3⟩

theorem upto_got (n : Nat) (t : List UInt8) (most : Int) (hn : n < 18446744073709551616) (hm : (n : Int) ≤ most) : upto most ⟨(enc n ++ t).toArray⟩ 0 = (n, ⟨t.toArray⟩, 0) := by
  have e : dec 0 0 (⟨(enc n ++ t).toArray⟩ : ByteArray).data.toList = (0, n, (enc n).length) := dec_of_enc n hn t
  unfold upto
  rw [e]
  show (if (n : Int) ≤ max most 0 then (n, restOf _ (0, n, (enc n).length), errOf 0 (0, n, (enc n).length)) else _) = _
  rw [if_pos (by omega)]
  have := extract_drop (enc n) t
  rw [← this]
  rfl

theorem rstr_got (b : Nat) (s : ByteArray) (t : List UInt8) (most : Int) (w : World) (hs : (s.size : Int) ≤ most) (hm1 : most ≤ 1000) (hl : (enc s.size ++ (s.data.toList ++ t)).length ≤ 1000000) (h : Rd w b ⟨(enc s.size ++ (s.data.toList ++ t)).toArray⟩ 0) :
    Calls Try.prog 22 #[.pointer (some ⟨b, 0, none⟩), .int .i64 most] w fun en w' => GotPost b t w (.string s) en w' :=
  (str_any b _ 0 most w (by rw [text_size]; unfold maxLen; omega) h (by omega) (by omega)).mono fun en w' hp => by
    have e : strN most ⟨(enc s.size ++ (s.data.toList ++ t)).toArray⟩ 0 = (s, ⟨t.toArray⟩, 0) := by
      unfold strN
      rw [upto_got s.size _ most (by omega) hs]
      have hsz : s.size = s.data.toList.length := by simp
      have hle : s.size ≤ (⟨(s.data.toList ++ t).toArray⟩ : ByteArray).size := by rw [text_size (s.data.toList ++ t), List.length_append]; omega
      show takeN s.size ⟨(s.data.toList ++ t).toArray⟩ 0 = _
      rw [takeN, if_pos hle, hsz, extract_head, extract_drop]
    rw [e] at hp
    exact hp

theorem sum32_of (x : List UInt8) (hx : x.length = 32) : sum32 ⟨x.toArray⟩ = x := by
  unfold sum32 over
  rw [zeros_length]
  have : (⟨x.toArray⟩ : ByteArray).data.toList = x := by simp
  rw [this, List.take_of_length_le (by omega), List.drop_of_length_le (by rw [zeros_length]; omega), List.append_nil]

theorem takeN_got (x t : List UInt8) (hx : x.length = 32) : takeN 32 ⟨(x ++ t).toArray⟩ 0 = (⟨x.toArray⟩, ⟨t.toArray⟩, 0) := by
  rw [takeN, if_pos (by rw [text_size, List.length_append]; omega)]
  have h1 := extract_head x t
  have h2 := extract_drop x t
  rw [hx] at h1 h2
  rw [h1, h2]

theorem rsum_got (b : Nat) (x t : List UInt8) (w : World) (hx : x.length = 32) (hl : (x ++ t).length ≤ 1000000) (h : Rd w b ⟨(x ++ t).toArray⟩ 0) :
    Calls Try.prog 24 #[.pointer (some ⟨b, 0, none⟩)] w fun en w' => GotPost b t w (.agg (cellsOf x)) en w' :=
  (rsum_any b _ 0 w (by rw [text_size]; unfold maxLen; omega) h).mono fun en w' hp => by
    rw [takeN_got x t hx] at hp
    obtain ⟨h1, h2, h3⟩ := hp
    exact ⟨by rw [h1]; show Ending.returned (.agg (cellsOf (sum32 ⟨x.toArray⟩))) = _; rw [sum32_of x hx], h2, h3⟩

/-- A slice of sums that is owned: as many, in row r. -/
def Own (w : World) (v : Value) (L : List (List UInt8)) : Prop := (∀ x ∈ L, x.length = 32) ∧ w.ownsRow 0 25 32 v L.length (L.flatten.map byteV)

theorem Own.nil (w : World) : Own w (.slice none 0 0) [] := ⟨by simp, World.ownsRow_nil w 0 _ 32⟩

theorem Own.slice {w : World} {v : Value} {L : List (List UInt8)} (h : Own w v L) : ∃ a c, v = .slice a L.length c := by
  rcases h.2.2 with ⟨h1, h2⟩ | ⟨g, cap, cur, h1, _⟩
  · exact ⟨none, 0, by rw [h1, h2]⟩
  · exact ⟨_, _, h1⟩

theorem Own.turn {F : Nat → Prop} {w w' : World} {v : Value} {L : List (List UInt8)} (h : Own w v L) (t : Turn F w w') (hr : ∀ k, v.ownBlock = some k → ¬ F k) : Own w' v L := by
  refine ⟨h.1, h.2.1, ?_⟩
  rcases h.2.2 with h | ⟨g, cap, cur, e1, e2, e3, e4⟩
  · exact .inl h
  · have hg : g < w.heap.size := by
      rcases Nat.lt_or_ge g w.heap.size with k | k
      · exact k
      · rw [Array.getElem?_eq_none k] at e3; cases e3
    exact .inr ⟨g, cap, cur, e1, e2, (t.block g hg (hr g (by rw [e1]; rfl))).trans e3, e4⟩

theorem Own.row_lt {w : World} {v : Value} {L : List (List UInt8)} (h : Own w v L) {k : Nat} (hk : v.ownBlock = some k) : k < w.heap.size := by
  rcases h.2.2 with ⟨h, _⟩ | ⟨g, cap, cur, e1, e2, e3, e4⟩
  · rw [h] at hk; cases hk
  · rw [e1] at hk
    have : g = k := by injection hk
    subst this
    rcases Nat.lt_or_ge g w.heap.size with k | k
    · exact k
    · rw [Array.getElem?_eq_none k] at e3; cases e3

/-- A literal of one sum is laid, and appended to sums that are owned. -/
theorem wpList_build_one {w : World} {ops : Array Oper} {rest : List Oper} {o : Oper} {a : Act} {Q : Exit → Act → World → Prop} (hgd : o.guard = none) (y : Operand) (ho : o.op = .buildSlice 42 1 #[(0, y)])
    (x : List UInt8) (hx : x.length = 32) (hy : a.eval y = .agg (cellsOf x))
    (h : wpList Try.prog ops Q rest (a.put o.dst (.slice (some ⟨w.heap.size, 0, none⟩) 1 1)) (w.alloc (.cells (cellsOf x) 25))) : wpList Try.prog ops Q (o :: rest) a w := by
  refine wpList_plain hgd fun K hK => ?_
  have hr := run_build_sums [x] (by intro z hz; rcases List.mem_cons.1 hz with rfl | hz; exact hx; cases hz) (by simp) (by simp) w #[(0, .agg (cellsOf x))] rfl
  have e : ([x] : List (List UInt8)).flatten = x := by simp
  rw [e] at hr
  have hr' : (Instr.buildSlice 42 1 #[(0, .agg (cellsOf x))]).run Try.prog w = .ok (.slice (some ⟨w.heap.size, 0, none⟩) 1 1) (w.alloc (.cells (cellsOf x) 25)) := hr
  unfold Oper.wp execOp
  have e2 : (#[(0, y)] : Array (Nat × Operand)).map (fun (i, x) => (i, a.eval x)) = #[(0, .agg (cellsOf x))] := by simp [hy]
  simp only [ho, e2, Sem.run_bind, hr', Result.andThen_ok]
  exact hK _ _ h

/-- One sum more. -/
theorem wpList_append_one {w : World} {ops : Array Oper} {rest : List Oper} {o : Oper} {a : Act} {Q : Exit → Act → World → Prop} (hgd : o.guard = none) (sl y : Operand)
    (ho : o.op = .call { callee := .builtin .append, args := #[sl, y], argTypes := #[42, 42] })
    (v : Value) (L : List (List UInt8)) (x : List UInt8) (g : Nat) (hs : a.eval sl = v) (hy : a.eval y = .slice (some ⟨g, 0, none⟩) 1 1) (hown : Own w v L) (hx : x.length = 32) (hg : Has w g 25 (cellsOf x)) (hL : L.length ≤ 1000)
    (h : ∀ v' w', Own w' v' (L ++ [x]) → w.grownBy w' v.ownBlock → (v'.ownBlock = v.ownBlock ∨ v'.ownBlock = some w.heap.size) → wpList Try.prog ops Q rest (a.put o.dst v') w') : wpList Try.prog ops Q (o :: rest) a w := by
  obtain ⟨i, z, hi, hz, h1, h2, h3⟩ := Try.zeroSum
  refine wpList_append_lies w hgd sl y 42 ho 0 25 i z 32 32 Try.underlying42 hi hz h1 h3 h2 (by decide) v L.length _ hs hown.2 ⟨g, 0, none⟩ 1 1 (x.map byteV) hy (by simp [hx]) (by exact World.news_of_block hg) (byteV_one _) (by decide) (by unfold maxLen; omega) (by omega) (Nat.zero_le _) _ rfl ?_
  intro g' cap w' ho' hg' hat hlt
  refine h _ w' ⟨?_, ?_⟩ hg' (hat.imp (fun e => by rw [e]; rfl) (fun e => by rw [e]; rfl))
  · intro y hy
    rcases List.mem_append.1 hy with hy | hy
    · exact hown.1 y hy
    · obtain rfl := List.mem_singleton.1 hy
      exact hx
  · have e1 : (L ++ [x]).length = L.length + 1 := by simp
    have e2 : (L ++ [x]).flatten.map byteV = L.flatten.map byteV ++ x.map byteV := by simp
    rw [e1, e2]
    exact ho'

end Go.Proofs.Ytigojpjmncclaaa
