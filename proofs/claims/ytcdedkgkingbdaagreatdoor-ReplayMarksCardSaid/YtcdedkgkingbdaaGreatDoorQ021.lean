/- Texts laid into one: WireU, Dec, WireP, LedP, LedQ. -/
import Derived.Test.YtcdedkgkingbdaaGreatDoorQ020
import Derived.Test.YtcdedkgkingbdaaGreatDoorQ018
import Derived.Test.YtcdedkgkingbdaaGreatDoorQ019
section
/- What wire's Reader gives where a bound is named: Upto, take, Str. -/
namespace Go.Proofs.YtcdedkgkingbdaaGreatDoor
open Go.RowKit

/-- What Upto answers, leaves and tells. -/
def upto (most : Int) (s : ByteArray) (e : Int) : Nat × ByteArray × Int :=
  let r := dec 0 0 s.data.toList
  if (r.2.1 : Int) ≤ max most 0 then (r.2.1, restOf s r, errOf e r) else (0, ⟨#[]⟩, first (errOf e r) 3)

def UptoPost (b : Nat) (w : World) (r : Nat × ByteArray × Int) (en : Ending) (w' : World) : Prop :=
  en = .returned (.int .i64 (r.1 : Nat)) ∧ Rd w' b r.2.1 r.2.2 ∧ w.grownBy w' (some b)

set_option maxRecDepth 100000 in
set_option maxHeartbeats 400000 in
theorem upto_any (b : Nat) (s : ByteArray) (e most : Int) (w : World) (hs : s.size ≤ maxLen) (h : Rd w b s e) (hm0 : -9223372036854775808 ≤ most) (hm1 : most ≤ 9223372036854775807) :
    Calls Tryz.prog 112 #[.pointer (some ⟨b, 0, none⟩), .int .i64 most] w fun en w' => UptoPost b w (upto most s e) en w' := by
  have hlt := dec_lt s.data.toList 0 0 (by omega)
  generalize hu : upto most s e = u
  generalize hr : dec 0 0 s.data.toList = r at hlt
  unfold upto at hu
  rw [hr] at hu
  have HU := Lib.hid hu
  have HR := Lib.hid hr
  clear hu hr
  obtain ⟨r1, n, r3⟩ := r
  have hn : n < 18446744073709551616 := hlt
  clear hlt
  by_cases hc : (n : Int) ≤ max most 0
  · have E : Hid (u = (n, restOf s (r1, n, r3), errOf e (r1, n, r3))) := by show _ = _; rw [← HU.out, if_pos hc]
    clear HU
    by_cases h0 : most < 0
    · obtain rfl : n = 0 := by omega
      clear hc
      go_enter Tryz.func112, Tryz.ntmps112
      go_wp2_with fail
      refine (num_any b s e w hs h).mono ?_
      rw [HR.out]
      rintro en w1 ⟨rfl, h1, g1⟩
      have H1 := Lib.hid h1
      clear h1 HR
      go_wp2_with fail
      go_ret
      rw [E.out]
      exact ⟨rfl, H1.out, g1⟩
    · have h0' : 0 ≤ most := by omega
      have hc' : (n : Int) ≤ most := by omega
      have hc2 : ¬ most < (n : Int) := by omega
      clear hc
      go_enter Tryz.func112, Tryz.ntmps112
      go_wp2_with fail
      refine (num_any b s e w hs h).mono ?_
      rw [HR.out]
      rintro en w1 ⟨rfl, h1, g1⟩
      have H1 := Lib.hid h1
      clear h1 HR
      go_wp2_with fail
      go_ret
      rw [E.out]
      exact ⟨rfl, H1.out, g1⟩
  · have E : Hid (u = (0, ⟨#[]⟩, first (errOf e (r1, n, r3)) 3)) := by show _ = _; rw [← HU.out, if_neg hc]
    clear HU
    have hc2 : most < (n : Int) := by omega
    have hc3 : 0 < (n : Int) := by omega
    clear hc
    by_cases h0 : most < 0
    · go_enter Tryz.func112, Tryz.ntmps112
      go_wp2_with fail
      refine (num_any b s e w hs h).mono ?_
      rw [HR.out]
      rintro en w1 ⟨rfl, h1, g1⟩
      have H1 := Lib.hid h1
      clear h1 HR
      go_wp2_with fail
      refine (fail_any _ _ _ _ _ H1.out).mono ?_
      rintro en w2 ⟨rfl, h2, g2⟩
      have H2 := Lib.hid h2
      clear h2
      go_wp2_with fail
      go_ret
      rw [E.out]
      exact ⟨rfl, H2.out, grown_trans g1 g2⟩
    · have h0' : 0 ≤ most := by omega
      go_enter Tryz.func112, Tryz.ntmps112
      go_wp2_with fail
      refine (num_any b s e w hs h).mono ?_
      rw [HR.out]
      rintro en w1 ⟨rfl, h1, g1⟩
      have H1 := Lib.hid h1
      clear h1 HR
      go_wp2_with fail
      refine (fail_any _ _ _ _ _ H1.out).mono ?_
      rintro en w2 ⟨rfl, h2, g2⟩
      have H2 := Lib.hid h2
      clear h2
      go_wp2_with fail
      go_ret
      rw [E.out]
      exact ⟨rfl, H2.out, grown_trans g1 g2⟩

/-- What the next n bytes are, what stays, the error's number. -/
def takeN (n : Nat) (s : ByteArray) (e : Int) : ByteArray × ByteArray × Int :=
  if n ≤ s.size then (s.extract 0 n, s.extract n s.size, e) else (⟨#[]⟩, ⟨#[]⟩, first e 1)

def TakePost (b : Nat) (w : World) (r : ByteArray × ByteArray × Int) (en : Ending) (w' : World) : Prop :=
  en = .returned (.string r.1) ∧ Rd w' b r.2.1 r.2.2 ∧ w.grownBy w' (some b)

set_option maxRecDepth 100000 in
set_option maxHeartbeats 400000 in
theorem take_any (b n : Nat) (s : ByteArray) (e : Int) (w : World) (_hs : s.size ≤ maxLen) (h : Rd w b s e) (_hn : n ≤ 9223372036854775807) :
    Calls Tryz.prog 186 #[.pointer (some ⟨b, 0, none⟩), .int .i64 n] w fun en w' => TakePost b w (takeN n s e) en w' := by
  have c0 : w.cell? ⟨b, 0, none⟩ = some (.string s) := h.cell 0
  have f0 := h.free 0
  unfold maxLen at _hs
  have H := Lib.hid h
  clear h
  by_cases hc : n ≤ s.size
  · have E : Hid (takeN n s e = (s.extract 0 n, s.extract n s.size, e)) := if_pos hc
    go_enter Tryz.func186, Tryz.ntmps186
    go_wp2_with fail
    go_ret
    rw [E.out]
    exact ⟨rfl, H.out.left _, grown_own (grown_refl w _) 0 _⟩
  · have E : Hid (takeN n s e = (⟨#[]⟩, ⟨#[]⟩, first e 1)) := if_neg hc
    go_enter Tryz.func186, Tryz.ntmps186
    go_wp2_with fail
    refine (fail_any _ _ _ _ _ H.out).mono ?_
    rintro en w2 ⟨rfl, h2, g2⟩
    have H2 := Lib.hid h2
    clear h2
    go_wp2_with fail
    go_ret
    rw [E.out]
    exact ⟨rfl, H2.out, g2⟩

theorem rest_size (s : ByteArray) (r : Nat × Nat × Nat) : (restOf s r).size ≤ s.size := by
  unfold restOf
  split
  · rw [ByteArray.size_extract]; omega
  · exact Nat.zero_le _

theorem upto_size (most : Int) (s : ByteArray) (e : Int) : (upto most s e).2.1.size ≤ s.size := by
  unfold upto
  simp only
  split
  · exact rest_size _ _
  · exact Nat.zero_le _

theorem upto_le (most : Int) (s : ByteArray) (e : Int) (hm1 : most ≤ 9223372036854775807) : (upto most s e).1 ≤ 9223372036854775807 := by
  unfold upto
  simp only
  split
  · show (dec 0 0 s.data.toList).2.1 ≤ _
    omega
  · exact Nat.zero_le _

/-- What Str answers, leaves and tells. -/
def strN (most : Int) (s : ByteArray) (e : Int) : ByteArray × ByteArray × Int := takeN (upto most s e).1 (upto most s e).2.1 (upto most s e).2.2

set_option maxRecDepth 100000 in
set_option maxHeartbeats 400000 in
theorem str_any (b : Nat) (s : ByteArray) (e most : Int) (w : World) (hs : s.size ≤ maxLen) (h : Rd w b s e) (hm0 : -9223372036854775808 ≤ most) (hm1 : most ≤ 9223372036854775807) :
    Calls Tryz.prog 176 #[.pointer (some ⟨b, 0, none⟩), .int .i64 most] w fun en w' => TakePost b w (strN most s e) en w' := by
  have hz := upto_size most s e
  have hl := upto_le most s e hm1
  have HT : Hid (strN most s e = takeN (upto most s e).1 (upto most s e).2.1 (upto most s e).2.2) := rfl
  go_enter Tryz.func176, Tryz.ntmps176
  go_wp2_with fail
  refine (upto_any b s e most w hs h hm0 hm1).mono ?_
  generalize upto most s e = u at *
  obtain ⟨n, s1, e1⟩ := u
  have hl' : n ≤ 9223372036854775807 := hl
  have hz' : s1.size ≤ maxLen := by have : s1.size ≤ s.size := hz; omega
  rintro en w1 ⟨rfl, h1, g1⟩
  have H1 := Lib.hid h1
  clear h1 hz hl
  go_wp2_with fail
  refine (take_any b n s1 e1 w1 hz' H1.out hl').mono ?_
  generalize takeN n s1 e1 = t at *
  rintro en w2 ⟨rfl, h2, g2⟩
  have H2 := Lib.hid h2
  clear h2 H1
  go_wp2_with fail
  go_ret
  rw [HT.out]
  exact ⟨rfl, H2.out, grown_trans g1 g2⟩

end Go.Proofs.YtcdedkgkingbdaaGreatDoor
end

section
/- A number's bytes are read as that number. -/
namespace Go.Proofs.YtcdedkgkingbdaaGreatDoor
open Go.RowKit

theorem hi_nil (m : Nat) : (hi m).length = 0 → m = 0 := by
  intro h
  rw [hi] at h
  by_cases hm : m = 0
  · exact hm
  · rw [if_neg hm] at h; simp at h

theorem dec_hi (m : Nat) : m < 144115188075855872 → ∀ l, dec 0 0 (hi m ++ l) = dec (hi m).length m l := by
  induction m using Nat.strongRecOn with
  | ind m ih =>
    intro hm l
    by_cases h0 : m = 0
    · subst h0; rw [hi_zero]; rfl
    · have hh : hi m = hi (m / 128) ++ [UInt8.ofNat (128 + m % 128)] := by
        conv => lhs; rw [hi, if_neg h0]
      rw [hh, List.append_assoc, ih (m / 128) (by omega) (by omega), List.singleton_append, dec]
      have hb : (UInt8.ofNat (128 + m % 128)).toNat = 128 + m % 128 := by simp; omega
      rw [hb, if_neg, if_neg (by omega)]
      · rw [List.length_append, List.length_singleton]
        congr 1
        omega
      · rintro (⟨h1, h2⟩ | h1)
        · have := hi_nil _ h1
          omega
        · omega

theorem dec_of_enc (n : Nat) (hn : n < 18446744073709551616) (t : List UInt8) : dec 0 0 (enc n ++ t) = (0, n, (enc n).length) := by
  unfold enc
  rw [List.append_assoc, dec_hi (n / 128) (by omega), List.singleton_append, dec]
  have hb : (UInt8.ofNat (n % 128)).toNat = n % 128 := by simp; omega
  rw [hb, if_neg, if_pos (by omega)]
  · rw [List.length_append, List.length_singleton]
    congr 2
    omega
  · rintro (⟨_, h2⟩ | h1) <;> omega

theorem extract_drop (a t : List UInt8) : (⟨(a ++ t).toArray⟩ : ByteArray).extract a.length (⟨(a ++ t).toArray⟩ : ByteArray).size = ⟨t.toArray⟩ := by
  apply ByteArray.ext
  apply Array.toList_inj.1
  have : (⟨(a ++ t).toArray⟩ : ByteArray).size = a.length + t.length := by show (a ++ t).toArray.size = _; simp
  rw [this]
  simp [ByteArray.data_extract]

theorem extract_head (a t : List UInt8) : (⟨(a ++ t).toArray⟩ : ByteArray).extract 0 a.length = ⟨a.toArray⟩ := by
  apply ByteArray.ext
  apply Array.toList_inj.1
  simp [ByteArray.data_extract]

theorem text_size (a : List UInt8) : (⟨a.toArray⟩ : ByteArray).size = a.length := by show a.toArray.size = _; simp

end Go.Proofs.YtcdedkgkingbdaaGreatDoor
end

section
/- What is put is taken: a number, a text at the head of what is left (no program's walk). -/
namespace Go.Proofs.YtcdedkgkingbdaaGreatDoor
open Go.RowKit

theorem upto_enc (n : Nat) (R : List UInt8) (most : Int) (h : (n : Int) ≤ max most 0) (hn : n < 18446744073709551616) : upto most ⟨(enc n ++ R).toArray⟩ 0 = (n, ⟨R.toArray⟩, 0) := by
  have e : dec 0 0 (⟨(enc n ++ R).toArray⟩ : ByteArray).data.toList = (0, n, (enc n).length) := by
    have := dec_of_enc n hn R
    simpa using this
  unfold upto
  simp only [e]
  rw [if_pos h]
  have hr : restOf ⟨(enc n ++ R).toArray⟩ (0, n, (enc n).length) = ⟨R.toArray⟩ := by
    unfold restOf
    rw [if_pos rfl]
    exact extract_drop (enc n) R
  rw [hr]
  rfl

theorem strN_enc (x R : List UInt8) (most : Int) (h : (x.length : Int) ≤ max most 0) (hn : x.length < 18446744073709551616) : strN most ⟨(enc x.length ++ (x ++ R)).toArray⟩ 0 = (⟨x.toArray⟩, ⟨R.toArray⟩, 0) := by
  unfold strN
  rw [upto_enc x.length (x ++ R) most h hn]
  unfold takeN
  rw [if_pos (by rw [text_size, List.length_append]; omega), extract_head]
  have := extract_drop x R
  rw [this]

theorem end_nil : endE ⟨([] : List UInt8).toArray⟩ 0 = 0 := rfl

end Go.Proofs.YtcdedkgkingbdaaGreatDoor
end

section
/- ledger: what was saved is loaded (no program's walk). -/
namespace Go.Proofs.YtcdedkgkingbdaaGreatDoor
open Go.RowKit Go.Maps Go.Sort

section
variable {H : Type}

theorem names_nodup {D : DataW H} (g : Good D) : (namesD D).Nodup :=
  ((List.mergeSort_perm _ _).nodup_iff).2 ((nodup_strKeys g).filter _)

theorem names_lt {D : DataW H} (g : Good D) : (namesD D).Pairwise (· < ·) := by
  have tr : ∀ a b c : List UInt8, leB a b = true → leB b c = true → leB a c = true := fun a b c h1 h2 => by simp only [leB, decide_eq_true_eq] at *; exact List.le_trans h1 h2
  have to : ∀ a b : List UInt8, (leB a b || leB b a) = true := fun a b => by simp only [leB, Bool.or_eq_true, decide_eq_true_eq]; exact List.le_total a b
  have h1 : (namesD D).Pairwise (fun a b => leB a b = true) := List.pairwise_mergeSort tr to _
  refine (h1.and (names_nodup g)).imp (fun {a b} h => ?_)
  obtain ⟨h2, h3⟩ := h
  simp only [leB, decide_eq_true_eq] at h2
  by_cases h : a < b
  · exact h
  · exact absurd (List.le_antisymm h2 (List.not_lt.1 h)) h3

/-- The name ahead of number k. -/
def aheadD (D : DataW H) (k : Nat) : List UInt8 := if k = 0 then [] else (namesD D)[k - 1]?.getD []

theorem ahead_lt {D : DataW H} (g : Good D) (k : Nat) (hk : k < (namesD D).length) : ¬ (namesD D)[k] ≤ aheadD D k := by
  have hm := ((mem_namesD g _).1 (List.getElem_mem hk)).1
  unfold aheadD
  by_cases h : k = 0
  · rw [if_pos h]
    intro h2
    apply hm
    generalize (namesD D)[k] = y at *
    cases y with
    | nil => rfl
    | cons a b => exact absurd (List.nil_lt_cons a b) h2
  · rw [if_neg h, List.getElem?_eq_getElem (by omega)]
    have h1 := List.pairwise_iff_getElem.1 (names_lt g) (k - 1) k (by omega) hk (by omega)
    show ¬ _ ≤ (namesD D)[k - 1]
    exact fun h2 => h2 h1

theorem ahead_next {D : DataW H} (k : Nat) (hk : k < (namesD D).length) : aheadD D (k + 1) = (namesD D)[k] := by
  unfold aheadD
  rw [if_neg (by omega), Nat.add_sub_cancel, List.getElem?_eq_getElem hk]
  rfl

/-- The first k names are in. -/
structure Got (D Dk : DataW H) (k : Nat) : Prop where
  good : Good Dk
  size : Maps.size Dk ≤ k + 1
  isIn : ∀ s : ByteArray, isIn Dk s = true ↔ s = .empty ∨ s.data.toList ∈ (namesD D).take k
  amt : ∀ s : ByteArray, amt Dk s = if s = .empty then - sumL D ((namesD D).take k) else if s.data.toList ∈ (namesD D).take k then amt D s else 0

theorem got_new (D : DataW H) : Got D D0 0 := by
  have hm : IsMap (.map [] : DataW H) := isMap_empty
  refine ⟨good_empty.put _ _, ?_, fun s => ?_, fun s => ?_⟩
  · show Maps.size ((DataW.map []).put (kS ⟨#[]⟩) (nI 0)) ≤ 1
    rw [size_put tidy_empty]
    split <;> simp [Maps.size]
  · have : Proofs.YtcdedkgkingbdaaGreatDoor.isIn (D0 (H := H)) s = if s = ⟨#[]⟩ then true else Proofs.YtcdedkgkingbdaaGreatDoor.isIn (.map []) s := isIn_put hm ⟨#[]⟩ s (nI 0)
    rw [this]
    constructor
    · intro h
      split at h
      · rename_i h1; exact .inl h1
      · cases h
    · rintro (h | h)
      · exact if_pos h
      · simp at h
  · have : Proofs.YtcdedkgkingbdaaGreatDoor.amt (D0 (H := H)) s = if s = ⟨#[]⟩ then 0 else Proofs.YtcdedkgkingbdaaGreatDoor.amt (.map []) s := amt_put hm ⟨#[]⟩ s 0
    rw [this]
    by_cases h : s = .empty
    · rw [if_pos h, if_pos (by exact h)]; simp [sumL]
    · rw [if_neg h, if_neg (by exact h), if_neg (by simp)]
      exact amt_absent rfl

theorem got_next {D Dk : DataW H} (I : InvF D) {k : Nat} (h : Got D Dk k) (hk : k < (namesD D).length) :
    Got D ((Dk.put (kS ⟨(namesD D)[k].toArray⟩) (nI (amtL D (namesD D)[k]))).put (kS .empty) (nI (amt Dk .empty - amtL D (namesD D)[k]))) (k + 1) := by
  have hx := (mem_namesD I.good _).1 (List.getElem_mem hk)
  have hT : (namesD D).take (k + 1) = (namesD D).take k ++ [(namesD D)[k]] := (List.take_append_getElem hk).symm
  have hnd := names_nodup I.good
  generalize hxe : (namesD D)[k] = x at *
  have hne : (⟨x.toArray⟩ : ByteArray) ≠ .empty := empty_toArray hx.1
  have hm := h.good.tidy.isMap
  have hm2 : IsMap (Dk.put (kS ⟨x.toArray⟩) (nI (amtL D x))) := hm.put _ _
  have hof : ∀ s : ByteArray, s = ⟨x.toArray⟩ ↔ s.data.toList = x := fun s => ⟨fun e => by rw [e], fun e => by rw [← e]⟩
  have hin : Proofs.YtcdedkgkingbdaaGreatDoor.isIn (Dk.put (kS ⟨x.toArray⟩) (nI (amtL D x))) .empty = true := by
    rw [isIn_put hm, if_neg (fun e => hne e.symm)]
    exact (h.isIn _).2 (.inl rfl)
  refine ⟨(h.good.put _ _).put _ _, ?_, fun s => ?_, fun s => ?_⟩
  · rw [size_put (h.good.put _ _).tidy, if_pos (show has _ _ = true from hin), size_put h.good.tidy]
    have := h.size
    split <;> omega
  · rw [isIn_put hm2, isIn_put hm, hT, List.mem_append, List.mem_singleton, ← hof s]
    by_cases h1 : s = .empty
    · simp [h1]
    · rw [if_neg h1]
      by_cases h2 : s = ⟨x.toArray⟩
      · simp [h2]
      · rw [if_neg h2, h.isIn s]
        simp [h1, h2]
  · rw [amt_put hm2, amt_put hm, hT]
    by_cases h1 : s = .empty
    · rw [if_pos h1, if_pos h1, sumL_snoc, h.amt, if_pos rfl]
      omega
    · rw [if_neg h1, if_neg h1]
      by_cases h2 : s = ⟨x.toArray⟩
      · rw [if_pos h2, if_pos (by rw [(hof s).1 h2]; simp), h2]
        rfl
      · rw [if_neg h2, h.amt s, if_neg h1]
        have : (s.data.toList ∈ (namesD D).take k ++ [x]) ↔ s.data.toList ∈ (namesD D).take k := by
          rw [List.mem_append, List.mem_singleton, ← hof s]
          simp [h2]
        simp only [this]

theorem got_all {D Dk : DataW H} (I : InvF D) (h : Got D Dk (namesD D).length) : Alike Dk D := by
  refine ⟨h.good, I.good, fun s => ?_⟩
  have hi := h.isIn s
  have ha := h.amt s
  rw [List.take_of_length_le (Nat.le_refl _)] at hi ha
  have hs : s = ⟨s.data.toList.toArray⟩ := by simp
  by_cases h1 : s = .empty
  · subst h1
    rw [if_pos rfl] at ha
    refine ⟨(hi.2 (.inl rfl)).trans I.house.symm, ?_⟩
    rw [ha, (house_amt I).1]
  · rw [if_neg h1] at ha
    have hl : s.data.toList ≠ [] := fun e => h1 (by rw [hs, e]; rfl)
    have hm := mem_namesD I.good s.data.toList
    rw [← hs] at hm
    cases h2 : isIn D s
    · have hn : s.data.toList ∉ namesD D := fun e => by have := (hm.1 e).2; rw [h2] at this; cases this
      rw [if_neg hn] at ha
      refine ⟨?_, by rw [ha, amt_absent h2]⟩
      cases h3 : isIn Dk s
      · rfl
      · rcases hi.1 h3 with h | h
        · exact absurd h h1
        · exact absurd h hn
    · have hn : s.data.toList ∈ namesD D := hm.2 ⟨hl, h2⟩
      rw [if_pos hn] at ha
      exact ⟨hi.2 (.inr hn), ha⟩

theorem Alike.sum {D D' : DataW H} (h : Alike D D') : sumD D = sumD D' := by
  unfold sumD
  rw [sumL_perm D h.perm]
  have : Proofs.YtcdedkgkingbdaaGreatDoor.amtL D = Proofs.YtcdedkgkingbdaaGreatDoor.amtL D' := funext h.amtL
  unfold sumL
  rw [this]

theorem Alike.inv {D D' : DataW H} (h : Alike D D') (I : InvF D') : InvF D := by
  refine ⟨h.l, ⟨h.l.tidy, by rw [h.size]; exact I.inv.size, fun s hs => by rw [(h.same s).2]; exact I.inv.lo s hs, fun s hs => by rw [(h.same s).2]; exact I.inv.hi s hs⟩,
    fun s hs => I.keys s (by rw [← (h.same s).1]; exact hs), by rw [(h.same _).1]; exact I.house, by rw [h.sum]; exact I.sum⟩

/-- What is left of the bytes behind k names. -/
def leftD (D : DataW H) (k : Nat) : List UInt8 := ((namesD D).drop k).flatMap (pieceD D)
theorem left_step (D : DataW H) (k : Nat) (hk : k < (namesD D).length) : leftD D k = enc (namesD D)[k].length ++ ((namesD D)[k] ++ (enc (amtL D (namesD D)[k]).toNat ++ leftD D (k + 1))) := by
  unfold leftD
  rw [List.drop_eq_getElem_cons hk, List.flatMap_cons]
  simp [pieceD]
theorem left_end (D : DataW H) : leftD D (namesD D).length = [] := by
  unfold leftD
  rw [List.drop_of_length_le (Nat.le_refl _)]
  rfl
theorem left_len {D : DataW H} (I : InvF D) (k : Nat) : (leftD D k).length ≤ 34 * (namesD D).length := by
  unfold leftD
  have := lflat_len (pieceD D) 34 ((namesD D).drop k) (fun y hy => (piece_len I (List.mem_of_mem_drop hy)).1)
  rw [List.length_drop] at this
  exact Nat.le_trans this (Nat.mul_le_mul_left _ (Nat.sub_le _ _))

end
end Go.Proofs.YtcdedkgkingbdaaGreatDoor
end

section
/- ledger: what Load gives of what was saved. -/
namespace Go.Proofs.YtcdedkgkingbdaaGreatDoor
open Go.RowKit Go.Maps Go.Sort

section
variable {H : Type}

/-- Where Load's reading stands. -/
structure LJ (w : World) (b d m : Nat) (s : List UInt8) (D : DataW H) (V : World) : Prop where
  rd : Rd V b ⟨s.toArray⟩ 0
  bk : Bk V d m D
  tn : Turn (fun k => w.heap.size ≤ k) w V
  bl : w.heap.size ≤ b
  dl : w.heap.size ≤ d
  ml : w.heap.size ≤ m

section
variable {w V V' : World} {b d m : Nat} {s s' : List UInt8} {D D' : DataW H}
theorem LJ.read (s' : List UInt8) (h : LJ w b d m s D V) (hr : Rd V' b ⟨s'.toArray⟩ 0) (g : V.grownBy V' (some b)) : LJ w b d m s' D V' := by
  have hbl := h.bl
  refine ⟨hr, h.bk.kept g (fun e => ?_) (fun e => ?_), h.tn.grown g (fun j e _ => by injection e with e; omega), h.bl, h.dl, h.ml⟩
  · injection e with e
    have := h.bk.box
    rw [e] at this
    exact absurd (this.uniq h.rd).2 (by decide)
  · injection e with e
    exact h.bk.map.ne h.rd e
theorem LJ.put (h : LJ w b d m s D V) (hm : Mp V' m D') (t : V.mapTurned V' m) : LJ w b d m s D' V' := by
  have hml := h.ml
  refine ⟨h.rd.grown t.grown (fun e => ?_), h.bk.turned hm t, h.tn.grown t.grown (fun j e _ => by injection e with e; omega), h.bl, h.dl, h.ml⟩
  injection e with e
  exact h.bk.map.ne h.rd e.symm
end

def BLoadPost (D : DataW H) (w : World) (en : Ending) (w' : World) : Prop :=
  ∃ (d m : Nat) (D' : DataW H), en = .returned (.tuple #[.pointer (some ⟨d, 0, none⟩), .int .i64 0]) ∧ Bk w' d m D' ∧ Alike D' D ∧ Below w.heap.size w w' ∧ w.heap.size ≤ d ∧ w.heap.size ≤ m

theorem got_house {D Dk : DataW H} (I : InvF D) {k : Nat} (h : Got D Dk k) (hk : k ≤ 16) : -17592186044416 ≤ amt Dk .empty ∧ amt Dk .empty ≤ 0 := by
  have h1 := h.amt .empty
  rw [if_pos rfl] at h1
  have h2 := sumL_lo D ((namesD D).take k) (fun x hx => (piece_len I (List.mem_of_mem_take hx)).2.2.1) (fun x hx => (piece_len I (List.mem_of_mem_take hx)).2.2.2)
  rw [List.length_take] at h2
  omega
theorem bytesLess_eq' : ∀ x y : List UInt8, Op.bytesLess x y = decide (x < y)
  | [], [] => by simp [Op.bytesLess]
  | [], b :: y => by simp [Op.bytesLess]
  | a :: x, [] => by simp [Op.bytesLess]
  | a :: x, b :: y => by
    rw [Op.bytesLess, bytesLess_eq' x y]
    by_cases h1 : a < b
    · simp [h1, List.cons_lt_cons_iff]
    · by_cases h2 : a = b
      · subst h2; simp
      · simp [h1, h2, List.cons_lt_cons_iff]
theorem less_not {x y : List UInt8} (h : ¬ x ≤ y) : (Op.bytesLess x y || x == y) = false := by
  rw [bytesLess_eq']
  have h1 : ¬ x < y := fun e => h (List.le_of_lt e)
  have h2 : x ≠ y := fun e => h (e ▸ List.le_refl _)
  rw [decide_eq_false h1]
  simpa using h2

set_option maxRecDepth 100000 in
set_option maxHeartbeats 1000000 in
theorem bload_calls (D : DataW H) (w : World) (I : InvF D) :
    Calls Tryz.prog 149 #[.string (saveB D)] w fun en w' => BLoadPost D w en w' := by
  have hnl : (namesD D).length ≤ 16 := by have := namesD_len I; have := I.inv.size; omega
  have hS : saveB D = ⟨(enc (namesD D).length ++ leftD D 0).toArray⟩ := by unfold saveB saveL leftD; rw [List.drop_zero]
  have hSz : (⟨(enc (namesD D).length ++ leftD D 0).toArray⟩ : ByteArray).size ≤ maxLen := by
    have e1 := enc_len (namesD D).length (by omega)
    have e2 := left_len I 0
    rw [text_size, List.length_append]
    unfold maxLen
    omega
  have hU := upto_enc (namesD D).length (leftD D 0) 16 (by omega) (by omega)
  rw [hS]
  have II := Lib.hid I
  have HU := Lib.hid hU
  have HSZ := Lib.hid hSz
  clear hS hSz hU
  go_enter Tryz.func149, Tryz.ntmps149
  go_wp2_with fail
  refine (read_any _ w).mono ?_
  rintro en w1 ⟨rfl, h1, b1⟩
  have H1 := Lib.hid h1
  have B1 := Lib.hid b1
  clear h1 b1
  go_wp2_with fail
  refine (bnew_calls (H := H) w1).mono ?_
  rintro en w2 ⟨d, m, rfl, h2, b2, hd2, hm2⟩
  have hsz := H1.out.lt
  have HJ2 : Hid (LJ w w.heap.size d m (enc (namesD D).length ++ leftD D 0) D0 w2) :=
    ⟨H1.out.below b2 hsz, h2, (Turn.of_below (F := fun j => w.heap.size ≤ j) B1.out (fun _ _ e => e)).trans (Turn.of_below b2 (F := fun j => w1.heap.size ≤ j) (fun _ _ e => e)) (fun j hj e => by omega), Nat.le_refl _, by omega, by omega⟩
  clear h2 b2 H1 B1
  go_wp2_with fail
  refine (upto_any w.heap.size _ 0 16 w2 HSZ.out HJ2.out.rd (by omega) (by omega)).mono ?_
  rw [HU.out]
  rintro en w3 ⟨rfl, h3, g3⟩
  have HJ3 : Hid (LJ w w.heap.size d m (leftD D 0) D0 w3) := HJ2.out.read _ h3 g3
  clear h3 g3 HJ2 HU HSZ
  generalize hn : (namesD D).length = n at *
  have HN := Lib.hid hn
  clear hn
  go_wp2_with fail
  go_loopw [6, 15] (fun ah i wr => ∃ (k : Nat) (Dk : DataW H), i = .int .i64 k ∧ k ≤ n ∧ ah = .string ⟨(aheadD D k).toArray⟩ ∧ Hid (Got D Dk k) ∧ Hid (LJ w w.heap.size d m (leftD D k) Dk wr))
    (fun _ i _ => n - (intOf i).toNat)
  case atStart => exact ⟨0, D0, rfl, Nat.zero_le _, rfl, got_new D, HJ3⟩
  case round =>
    obtain ⟨k, Dk, rfl, hk, rfl, HG, HJ⟩ := hrel
    by_cases hlt : k < n
    · have hkl : k < (namesD D).length := by rw [HN.out]; exact hlt
      have HL := left_step D k hkl
      have HX := Lib.hid (got_next II.out HG.out hkl)
      have HM := piece_len II.out (List.getElem_mem hkl)
      have HMX : Hid ((namesD D)[k] ≠ []) := ((mem_namesD II.out.good _).1 (List.getElem_mem hkl)).1
      have HA := less_not (ahead_lt II.out.good k hkl)
      have HE : Hid (aheadD D (k + 1) = (namesD D)[k]) := ahead_next k hkl
      have HLE := left_len II.out k
      generalize (namesD D)[k] = x at *
      generalize amtL D x = A at *
      obtain ⟨N, rfl⟩ := Int.eq_ofNat_of_zero_le HM.2.2.1
      simp only [Int.toNat_natCast] at HL
      have hwA : (Lit.int .i64 ((N : Int))).wf = true := wf64 (by omega) (by omega)
      have hUp := upto_enc N (leftD D (k + 1)) 1099511627776 (by omega) (by omega)
      have hSt := strN_enc x (enc N ++ leftD D (k + 1)) 12 (by omega) (by omega)
      have hZ : (⟨(enc x.length ++ (x ++ (enc N ++ leftD D (k + 1)))).toArray⟩ : ByteArray).size ≤ maxLen := by
        have e3 := HN.out
        rw [← HL, text_size]; unfold maxLen; omega
      have hZ2 : (⟨(enc N ++ leftD D (k + 1)).toArray⟩ : ByteArray).size ≤ maxLen := by
        have e1 := enc_len N (by omega)
        have e2 := left_len II.out (k + 1)
        have e3 := HN.out
        rw [text_size, List.length_append]
        unfold maxLen
        omega
      rw [HL] at HJ
      have HUP := Lib.hid hUp
      have HST := Lib.hid hSt
      have HZ := Lib.hid hZ
      have HZ2 := Lib.hid hZ2
      have HMM := Lib.hid HM
      clear HL hUp hSt hZ hZ2 HM HLE
      go_wp2_with fail
      refine (str_any w.heap.size _ 0 12 _ HZ.out HJ.out.rd (by omega) (by omega)).mono ?_
      rw [HST.out]
      rintro en v1 ⟨rfl, k1, g1⟩
      have HJ1 : Hid (LJ w w.heap.size d m (enc N ++ leftD D (k + 1)) Dk v1) := HJ.out.read _ k1 g1
      clear k1 g1
      go_wp2_with fail
      refine (upto_any w.heap.size _ 0 1099511627776 v1 HZ2.out HJ1.out.rd (by omega) (by omega)).mono ?_
      rw [HUP.out]
      rintro en v2 ⟨rfl, k2, g2⟩
      have HJ2 : Hid (LJ w w.heap.size d m (leftD D (k + 1)) Dk v2) := HJ1.out.read _ k2 g2
      clear k2 g2
      go_wp2_with fail
      refine (err_any w.heap.size _ 0 v2 HJ2.out.rd).mono ?_
      rintro en v3 ⟨rfl, rfl⟩
      have hksz : Maps.size Dk + 1 < maxLen := by have := HG.out.size; unfold maxLen; omega
      have hkx : keyOf Tryz.prog 9 (.string ⟨x.toArray⟩) = some (kS ⟨x.toArray⟩) := kS_of (by have := HMM.out.2.1; rw [text_size]; unfold maxLen; omega)
      have hk0 : keyOf Tryz.prog 9 (.string ⟨#[]⟩) = some (kS ⟨#[]⟩) := kS_of (Nat.zero_le _)
      have c0 : v2.cell? ⟨d, 0, none⟩ = some (.map (some m)) := HJ2.out.bk.box.cell 0
      obtain ⟨v4, hrun4, hown4, hturn4⟩ := World.ownsMap.store HJ2.out.bk.map strKeyed Tryz.underlying238 (Nat.lt_of_succ_lt hksz) hkx (plainElem_int Tryz.underlying3 hwA)
      have HJ4 : Hid (LJ w w.heap.size d m (leftD D (k + 1)) (Dk.put (kS ⟨x.toArray⟩) (nI N)) v4) := HJ2.out.put (ownsMap_tight hown4) hturn4
      have hm := HG.out.good.tidy.isMap
      have hne : (⟨x.toArray⟩ : ByteArray) ≠ .empty := empty_toArray HMX.out
      have ha4 : amt (Dk.put (kS ⟨x.toArray⟩) (nI N)) .empty = amt Dk .empty := by rw [amt_put hm, if_neg (fun e => hne e.symm)]
      obtain ⟨q, hq, hat, _⟩ := World.ownsMap.lookup_int HJ4.out.bk.map strKeyed Tryz.underlying238 Tryz.underlying3 (zeroInt v4) hk0
      obtain rfl : q = amt Dk .empty := ((amt_of hat).symm.trans ha4)
      have c4 : v4.cell? ⟨d, 0, none⟩ = some (.map (some m)) := HJ4.out.bk.box.cell 0
      obtain ⟨hb1, hb2⟩ := got_house II.out HG.out (by omega)
      have hN2 := HMM.out.2.2.2
      have hwB : (Lit.int .i64 (amt Dk .empty - N)).wf = true := wf64 (by omega) (by omega)
      obtain ⟨v5, hrun5, hown5, hturn5⟩ := World.ownsMap.store hown4 strKeyed Tryz.underlying238 hksz hk0 (plainElem_int Tryz.underlying3 hwB)
      have HJ5 : Hid (LJ w w.heap.size d m (leftD D (k + 1)) ((Dk.put (kS ⟨x.toArray⟩) (nI N)).put (kS .empty) (nI (amt Dk .empty - N))) v5) := HJ4.out.put (ownsMap_tight hown5) hturn5
      generalize amt Dk .empty = B at *
      have hs1 : -9223372036854775808 ≤ B - (N : Int) := by omega
      have hs2 : B - (N : Int) ≤ 9223372036854775807 := by omega
      clear hown4 hturn4 hown5 hturn5 hat hkx hk0 hm hne ha4 hwA hwB HJ4 HJ2 HJ1
      go_wp2_with fail
      go_roundw
      case rel => exact ⟨k + 1, _, by go_num, by omega, by rw [HE.out], HX, HJ5⟩
      case measure => simp [intOf]; omega
    · obtain rfl : k = n := by omega
      have E : leftD D k = [] := by rw [← HN.out]; exact left_end D
      have HQ : Hid (Alike Dk D) := got_all II.out (by rw [HN.out]; exact HG.out)
      rw [E] at HJ
      clear E
      go_wp2_with fail
      refine (end_any w.heap.size _ 0 _ HJ.out.rd).mono ?_
      rw [end_nil]
      rintro en w6 ⟨rfl, h6, g6⟩
      have HJ6 := Lib.hid (HJ.out.read [] h6 g6)
      clear h6 g6
      go_wp2_with fail
      go_ret2
      exact ⟨d, m, Dk, rfl, HJ6.out.bk, HQ.out, HJ6.out.tn.below (Nat.le_refl _) (fun j hj e => by omega), HJ6.out.dl, HJ6.out.ml⟩

end
end Go.Proofs.YtcdedkgkingbdaaGreatDoor
end

