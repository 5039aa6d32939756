/- proof: an error's path; Proves. -/
import Derived.Test.YtiogjmlkogeibaaDoorPrfV
import Derived.Test.YtiogjmlkogeibaaDoorPrfW
import Derived.Test.YtiogjmlkogeibaaDoorFltG
namespace Go.Proofs.YtiogjmlkogeibaaDoor.prf
open Go Go.RowKit Go.Proofs.YtiogjmlkogeibaaDoor.dig

def okB : ByteArray := ⟨#[111, 107]⟩
set_option maxRecDepth 100000 in
set_option maxHeartbeats 1000000 in
theorem err_zero (w : World) : Calls Tryd.prog 33 #[.int .i64 0] w fun en w' => en = .returned (.string okB) ∧ Below w.heap.size w w' := by
  go_enter Tryd.func33, Tryd.ntmps33
  go_wp2_with fail
  go_name_world W hW
  have hT : Has W w.heap.size 101 flt.tab := by rw [← hW]; exact Has.made w 101 _
  have hB : Below w.heap.size w W := by rw [← hW]; exact (Below.refl _ w).alloc (Nat.le_refl _) _
  clear hW
  have HT := Lib.hid hT
  have HB := Lib.hid hB
  clear hT hB
  go_loopw [27] (fun x wr => ∃ i : Nat, x = .int .i64 i ∧ i ≤ 20 ∧ Hid (Has wr w.heap.size 101 flt.tab ∧ Below w.heap.size w wr)) (fun x _ => 20 - (intOf x).toNat)
  case atStart => exact ⟨0, rfl, by omega, Lib.hid ⟨HT.out, HB.out⟩⟩
  case round =>
    obtain ⟨i, rfl, hi, HS⟩ := hrel
    by_cases hlt : i < 20
    · have c0 : wr.cell? ⟨w.heap.size, i * 2, none⟩ = some (.int .i64 ((i : Int) + 1)) := by rw [Nat.mul_comm]; exact (HS.out.1.cell _).trans (flt.tab0 ⟨i, hlt⟩)
      have c1 : wr.cell? ⟨w.heap.size, i * 2 + 1, none⟩ = some (.string (flt.words.getD i ⟨#[]⟩)) := by rw [Nat.mul_comm]; exact (HS.out.1.cell _).trans (flt.tab1 ⟨i, hlt⟩)
      have hi2 : (i : Int) < 20 := by omega
      have hi3 : (0 : Int) ≤ (i : Int) := by omega
      obtain ⟨s, hs⟩ : ∃ s, s = flt.words.getD i ⟨#[]⟩ := ⟨_, rfl⟩
      rw [← hs] at c1
      have hq : ¬ (i : Int) + 1 = 0 := by omega
      clear hs
      go_wp2_with fail
      refine ⟨⟨i + 1, by rw [Int.natCast_add]; rfl, by omega, Lib.hid ⟨HS.out.1.alloc _, HS.out.2.alloc HS.out.2.size _⟩⟩, ?_⟩
      show 20 - ((i : Int) + 1).toNat < 20 - ((i : Int)).toNat
      omega
    · have hi2 : ¬ (i : Int) < 20 := by omega
      go_wp2_with fail
      go_ret
      exact ⟨rfl, HS.out.2⟩

theorem as_nil (t : Value) (w : World) : Calls Tryd.prog 24 #[.nilIface, t] w fun en w' => en = .returned (.bool false) ∧ w = w' := by
  go_enter Tryd.func24, Tryd.ntmps24
  go_wp2
  go_ret
  exact ⟨rfl, rfl⟩
theorem outermost_nil (w : World) : Calls Tryd.prog 47 #[.nilIface] w fun en w' => en = .returned (.pointer none) ∧ Below w.heap.size w w' := by
  go_enter Tryd.func47, Tryd.ntmps47
  go_wp2_with (go_at_call 24; refine (as_nil _ _).mono ?_; rintro en w1 ⟨rfl, rfl⟩)
  go_ret
  exact ⟨rfl, (Below.refl w.heap.size w).alloc (Nat.le_refl _) _⟩
set_option maxRecDepth 100000 in
set_option maxHeartbeats 1000000 in
theorem where_nil (w : World) : Calls Tryd.prog 31 #[.nilIface] w fun en w' => en = .returned (.tuple #[.slice none 0 0, .int .i64 (-1)]) ∧ Below w.heap.size w w' := by
  go_enter Tryd.func31, Tryd.ntmps31
  go_wp2_with fail
  refine (outermost_nil w).mono ?_
  rintro en w1 ⟨rfl, b1⟩
  have B1 := Lib.hid b1
  clear b1
  go_wp2_with fail
  go_loopg [4, 5, 6] 0 (fun k v a p wr => k = 0 ∧ v = .slice none 0 0 ∧ a = .int .i64 (-1) ∧ p = .pointer none ∧ wr = w1)
  case atStart => exact ⟨rfl, rfl, rfl, rfl, rfl⟩
  case round =>
    obtain ⟨-, rfl, rfl, rfl, rfl⟩ := hrel
    go_wp2_with fail
    go_ret2
    exact ⟨rfl, B1.out⟩

theorem of_nil (w : World) : Calls Tryd.prog 13 #[.nilIface] w fun en w' => en = .returned (.int .i64 0) ∧ Below w.heap.size w w' := by
  go_enter Tryd.func13, Tryd.ntmps13
  go_wp2_with fail
  go_ret
  exact ⟨rfl, Below.refl _ _⟩

/-- What Path tells of no error. -/
def nilPath : ByteArray := ⟨(Lib.join [okB.data.toList] [47]).toArray⟩

set_option maxRecDepth 100000 in
set_option maxHeartbeats 2000000 in
theorem path_nil (w : World) : Calls Tryd.prog 19 #[.nilIface] w fun en w' => en = .returned (.string nilPath) ∧ Below w.heap.size w w' := by
  obtain ⟨z0i, z0, hi0, hz0, hz1, hz2, hz3⟩ := flt.strInfo
  have HI0 := Lib.hid hi0
  have HZ0 := Lib.hid hz0
  clear hi0 hz0
  obtain ⟨wd, hwd⟩ : ∃ wd, wd = okB := ⟨_, rfl⟩
  have HWD := Lib.hid hwd
  clear hwd
  go_enter Tryd.func19, Tryd.ntmps19
  go_wp2_with fail
  refine (where_nil w).mono ?_
  rintro en w1 ⟨rfl, b1⟩
  go_wp2_with fail
  refine (of_nil w1).mono ?_
  rintro en w2 ⟨rfl, b2⟩
  have B2 : Hid (Below w.heap.size w w2) := Lib.hid (b1.trans (b2.mono b1.size))
  clear b1 b2
  go_wp2_with fail
  refine (err_zero w2).mono ?_
  rw [← HWD.out]
  rintro en w3 ⟨rfl, b3⟩
  have B3 : Hid (Below w.heap.size w w3) := Lib.hid (B2.out.trans (b3.mono B2.out.size))
  clear b3 B2
  go_wp2_with (first
    | ((with_reducible refine at_op 15 ?_); refine wpList_append_seg (o := ⟨some 15, _, _, _, _, _⟩) _ rfl (.tmp 10) (.tmp 14) 22 rfl 9 z0i z0 1 16 Tryd.underlying22 HI0.out HZ0.out hz1 hz3 hz2 (by decide) (.slice none 0 0) 0 [] rfl (Seg.nil _ _ _) ⟨w3.heap.size, 0, none⟩ 1 1 [.string wd] rfl rfl (World.news_of_block (heap_alloc_new _ _)) (by simp [Value.oneCell']) (by decide) (by unfold maxLen; omega) (by omega) _ rfl ?_
       intro g off cp w4 hown hgrow hat hlt
       (have OW := Lib.hid hown)
       (have B4 : Hid (Below w.heap.size w w4) := Lib.hid ((B3.out.alloc B3.out.size _).trans (flt.below_own hgrow (fun y hy => by cases hy) (Nat.le_trans B3.out.size (by simp)))))
       (clear hown hgrow hat hlt))
    | (go_at_call 32; refine (flt.join_calls w4 g off cp [wd] 1 (by simp) (by exact OW.out) (by omega) (by rw [HWD.out]; decide)).mono ?_; rintro en w5 ⟨rfl, b5⟩)
    | fail)
  go_ret
  refine ⟨?_, B4.out.trans (flt.below_less b5 B4.out.size)⟩
  unfold nilPath
  rw [← HWD.out]
  rfl

/-- What Path tells of an error of one step. -/
def pth (s : ByteArray) (E : Int) : ByteArray := if E = 0 then nilPath else flt.pathB [⟨0, s, 0⟩] E
theorem path_err {w : World} {v : Value} {s : ByteArray} {a E : Int} (hT : flt.Et w.heap.size w) (h : IsErr w v s a E) (h0 : 0 ≤ E) (h1 : E ≤ 20) (hs : s.size ≤ 1000) : Calls Tryd.prog 19 #[v] w fun en w' => en = .returned (.string (pth s E)) ∧ Below w.heap.size w w' := by
  rcases h with ⟨rfl, rfl⟩ | ⟨hE, b, rfl, h⟩
  · exact path_nil w
  · have e : flt.pathB [⟨b, s, a⟩] E = pth s E := by unfold pth; rw [if_neg hE]; rfl
    rw [← e]
    refine flt.path_calls w.heap.size _ E w hT h (by show 1 ≤ 1000000; omega) (by omega) h1 ?_
    have hw : (flt.word E).data.toList.length ≤ 1000 := by
      unfold flt.word
      rw [if_pos (by omega)]
      have : ∀ i : Fin 20, (flt.words.getD i.val ⟨#[]⟩).data.toList.length ≤ 1000 := by decide
      exact this ⟨(E - 1).toNat, by omega⟩
    have h2 : s.data.toList.length ≤ 1000 := by simpa using hs
    show (Lib.join [s.data.toList, (flt.word E).data.toList] [47]).length ≤ _
    have h3 : (Lib.join [s.data.toList, (flt.word E).data.toList] [47]).length = s.data.toList.length + 1 + (flt.word E).data.toList.length := by
      simp [Lib.join]
      try omega
    omega
end Go.Proofs.YtiogjmlkogeibaaDoor.prf
