/- fault: strings.Join and the Builder, off the library. -/
import Derived.Test.YtiogjmlkogeibaaDoorFltD
import Derived.Lib.ItoaWalk
import Derived.Shelf.Lay
import Derived.Shelf.Strings.Builder1
import Derived.Shelf.Strings.Builder2
import Derived.Shelf.Strings.OnBuilder
namespace Go.Proofs
open Go.Shelf
shelf_lay Lays.n156 Nm 156 at Tryd as Tryd.lays156
theorem Tryd.extra156 : Builder.Extra Tryd.prog Tryd.lays156_ren where
  sizeBuilder := by kernel_rfl
  liesBuilder := by kernel_rfl
  t5 := Tryd.underlying5
  a5 := Tryd.isAgg5
  z5 := Tryd.sizeOf5
  v5 := Tryd.zeroValue5
  infoByte := by kernel_rfl
  cellsByte := by kernel_rfl
  sizeByte := by kernel_rfl
  neB5 := by decide
end Go.Proofs
namespace Go.Proofs.YtiogjmlkogeibaaDoor.flt
open Go Go.RowKit Go.Extern.Stop Go.Stop Go.Extern

/-- The words of the numbers, from 1 on. -/
def words : List ByteArray := [⟨#[101, 110, 100]⟩, ⟨#[102, 111, 114, 109]⟩, ⟨#[98, 105, 103]⟩, ⟨#[97, 114, 103]⟩, ⟨#[107, 105, 110, 100]⟩, ⟨#[114, 97, 110, 103, 101]⟩, ⟨#[102, 117, 108, 108]⟩, ⟨#[110, 111, 110, 101]⟩, ⟨#[116, 104, 101, 114, 101]⟩, ⟨#[111, 118, 101, 114, 102, 108, 111, 119]⟩, ⟨#[115, 104, 111, 114, 116]⟩, ⟨#[112, 114, 111, 111, 102]⟩, ⟨#[102, 117, 116, 117, 114, 101]⟩, ⟨#[112, 114, 117, 110, 101, 100]⟩, ⟨#[98, 114, 97, 110, 99, 104]⟩, ⟨#[117, 110, 100, 111, 110, 101]⟩, ⟨#[102, 105, 120, 101, 100]⟩, ⟨#[99, 111, 110, 102, 108, 105, 99, 116]⟩, ⟨#[100, 105, 118, 101, 114, 103, 101, 100]⟩, ⟨#[98, 117, 115, 121]⟩]
/-- The word of a number. -/
def word (n : Int) : ByteArray := if 1 ≤ n ∧ n ≤ 20 then words.getD (n - 1).toNat ⟨#[]⟩ else ⟨#[111, 107]⟩

def tab : Array Value := (words.zipIdx.flatMap fun (s, i) => [Value.int .i64 ((i : Int) + 1), .string s]).toArray
theorem tab0 : ∀ i : Fin 20, tab[2 * i.val]? = some (.int .i64 ((i.val : Int) + 1)) := by
  intro i
  rcases i with ⟨i, hi⟩
  rcases i with _ | _ | _ | _ | _ | _ | _ | _ | _ | _ | _ | _ | _ | _ | _ | _ | _ | _ | _ | _ | i <;> first | rfl | omega
theorem tab1 : ∀ i : Fin 20, tab[2 * i.val + 1]? = some (.string (words.getD i.val ⟨#[]⟩)) := by
  intro i
  rcases i with ⟨i, hi⟩
  rcases i with _ | _ | _ | _ | _ | _ | _ | _ | _ | _ | _ | _ | _ | _ | _ | _ | _ | _ | _ | _ | i <;> first | rfl | omega

set_option maxRecDepth 100000 in
set_option maxHeartbeats 2000000 in
theorem err_calls (n : Int) (w : World) (h1 : 1 ≤ n) (h2 : n ≤ 20) : Calls Tryd.prog 33 #[.int .i64 n] w fun en w' => en = .returned (.string (word n)) ∧ Below w.heap.size w w' := by
  go_enter Tryd.func33, Tryd.ntmps33
  go_wp2_with fail
  go_name_world W hW
  have hT : Has W w.heap.size 101 tab := by rw [← hW]; exact Has.made w 101 _
  have hB : Below w.heap.size w W := by rw [← hW]; exact (Below.refl _ w).alloc (Nat.le_refl _) _
  clear hW
  have HT := Lib.hid hT
  have HB := Lib.hid hB
  have HN := Lib.hid (And.intro h1 h2)
  clear hT hB
  go_loopw [27] (fun x wr => ∃ i : Nat, x = .int .i64 i ∧ i ≤ 20 ∧ Hid ((i : Int) < n) ∧ Hid (Has wr w.heap.size 101 tab ∧ Below w.heap.size w wr)) (fun x _ => 20 - (intOf x).toNat)
  case atStart => exact ⟨0, rfl, by omega, Lib.hid (by show (0 : Int) < n; omega), Lib.hid ⟨HT.out, HB.out⟩⟩
  case round =>
    obtain ⟨i, rfl, hi, HI, HS⟩ := hrel
    have hlt : i < 20 := by have := HI.out; omega
    have c0 : wr.cell? ⟨w.heap.size, i * 2, none⟩ = some (.int .i64 ((i : Int) + 1)) := by rw [Nat.mul_comm]; exact (HS.out.1.cell _).trans (tab0 ⟨i, hlt⟩)
    have c1 : wr.cell? ⟨w.heap.size, i * 2 + 1, none⟩ = some (.string (words.getD i ⟨#[]⟩)) := by rw [Nat.mul_comm]; exact (HS.out.1.cell _).trans (tab1 ⟨i, hlt⟩)
    have hi2 : (i : Int) < 20 := by omega
    obtain ⟨s, hs⟩ : ∃ s, s = words.getD i ⟨#[]⟩ := ⟨_, rfl⟩
    rw [← hs] at c1
    have HSS := Lib.hid hs
    clear hs
    by_cases hq : (i : Int) + 1 = n
    · have HQ := Lib.hid hq
      go_wp2_with fail
      go_ret
      refine ⟨?_, HS.out.2.alloc HS.out.2.size _⟩
      rw [HSS.out]
      have e : word n = words.getD i ⟨#[]⟩ := by
        unfold word
        rw [if_pos HN.out, ← HQ.out]
        congr 1
        omega
      rw [e]
      rfl
    · have HQ := Lib.hid hq
      go_wp2_with fail
      refine ⟨⟨i + 1, by rw [Int.natCast_add]; rfl, by omega, Lib.hid (by have := HI.out; have := HQ.out; omega), Lib.hid ⟨HS.out.1.alloc _, HS.out.2.alloc HS.out.2.size _⟩⟩, ?_⟩
      show 20 - ((i : Int) + 1).toNat < 20 - ((i : Int)).toNat
      omega

theorem names_map (L : List Sp) (wd : ByteArray) : names L ++ [Value.string wd] = (L.map (fun x => x.s) ++ [wd]).map Value.string := by unfold names; simp

/-- strings.Join of strings that lie in a row. -/
theorem join_calls (w : World) (g off c : Nat) (xs : List ByteArray) (n : Nat) (hn : xs.length = n) (h : Seg w 9 1 (.slice (some ⟨g, off, none⟩) n c) n (xs.map Value.string)) (hle : n ≤ 140737488355328)
    (hlen : (Lib.join (xs.map (·.data.toList)) [47]).length ≤ 140737488355328) :
    Calls Tryd.prog 32 #[.slice (some ⟨g, off, none⟩) n c, .string ⟨#[47]⟩] w fun e w' => e = .returned (.string ⟨(Lib.join (xs.map (·.data.toList)) [47]).toArray⟩) ∧ Below w.heap.size w w' := by
  subst hn
  have hc : xs.length ≤ c := by
    obtain ⟨a, c', e, h1, _⟩ := h.slice
    injection e with e1 e2 e3
    omega
  refine Any.strings_Join Tryd.lays156 Tryd.extra156 g off c xs ⟨#[47]⟩ w (fun j x hj => ?_) (h.lt rfl) hle hc hlen
  have h0 : 0 < xs.length := by
    have := (List.getElem?_eq_some_iff.1 hj).1
    omega
  obtain ⟨g', off', c', e, _, _, _, hcells⟩ := h.cells h0
  injection e with e1 e2 e3
  injection e1 with e1
  injection e1 with e4 e5
  subst e4 e5
  exact hcells j _ (by rw [List.getElem?_map, hj]; rfl)

/-- The steps' names and the number's word, with slashes between. -/
def pathB (L : List Sp) (n : Int) : ByteArray := ⟨(Lib.join ((L.map (fun x => x.s.data.toList)) ++ [(word n).data.toList]) [47]).toArray⟩

set_option maxRecDepth 100000 in
set_option maxHeartbeats 2000000 in
theorem path_calls (B : Nat) (L : List Sp) (n : Int) (w : World) (hT : Et B w) (hE : Er B w L n) (hl : L.length ≤ 1000000) (h1 : 1 ≤ n) (h2 : n ≤ 20)
    (hsz : (Lib.join ((L.map (fun x => x.s.data.toList)) ++ [(word n).data.toList]) [47]).length ≤ 140737488355328) :
    Calls Tryd.prog 19 #[ev L n] w fun en w' => en = .returned (.string (pathB L n)) ∧ Below B w w' := by
  obtain ⟨z0i, z0, hi0, hz0, hz1, hz2, hz3⟩ := strInfo
  have HI0 := Lib.hid hi0
  have HZ0 := Lib.hid hz0
  have HT := Lib.hid hT
  have HE := Lib.hid hE
  have HN := Lib.hid (And.intro h1 h2)
  have HSZ := Lib.hid hsz
  have HB : Hid (B ≤ w.heap.size) := Lib.hid hT.size
  clear hi0 hz0 hT hE h1 h2 hsz
  obtain ⟨wd, hwd⟩ : ∃ wd, wd = word n := ⟨_, rfl⟩
  have HWD := Lib.hid hwd
  clear hwd
  go_enter Tryd.func19, Tryd.ntmps19
  go_wp2_with (first
    | (go_at_call 31; refine (where_calls B L n _ HT.out HE.out hl).mono ?_; rintro en w1 ⟨v, rfl, hS, hO, b1⟩;
       have HS := Lib.hid (And.intro hS hO); have B1 := Lib.hid b1; clear hS hO b1)
    | (go_at_call 13; refine (of_calls B L n _ (HT.out.below B1.out (Nat.le_refl B)) (HE.out.below B1.out (Nat.le_refl B))).mono ?_; rintro en w2 ⟨rfl, b2⟩;
       have B2 := Lib.hid b2; clear b2)
    | (go_at_call 33; refine (err_calls n _ HN.out.1 HN.out.2).mono ?_; rw [← HWD.out]; rintro en w3 ⟨rfl, b3⟩;
       have B3 := Lib.hid b3; clear b3;
       have HS3 := Lib.hid ((HS.out.1.below B2.out (fun b hb => HS.out.1.lt hb)).below B3.out (fun b hb => Nat.lt_of_lt_of_le (HS.out.1.lt hb) B2.out.size));
       have SZ3 : Hid (B ≤ w3.heap.size) := Lib.hid (Nat.le_trans HB.out (Nat.le_trans B1.out.size (Nat.le_trans B2.out.size B3.out.size))))
    | ((with_reducible refine at_op 15 ?_); refine wpList_append_seg (o := ⟨some 15, _, _, _, _, _⟩) _ rfl (.tmp 10) (.tmp 14) 22 rfl 9 z0i z0 1 16 Tryd.underlying22 HI0.out HZ0.out hz1 hz3 hz2 (by decide) v L.length (names L) rfl (HS3.out.alloc _) ⟨w3.heap.size, 0, none⟩ 1 1 [.string wd] rfl rfl (World.news_of_block (heap_alloc_new _ _)) (by simp [Value.oneCell']) (by decide) (by unfold maxLen; omega) (by omega) _ rfl ?_;
       intro g off cp w4 hown hgrow hat hlt;
       have OW := Lib.hid hown; have GR := Lib.hid hgrow; have LT := Lib.hid hlt; clear hown hgrow hat hlt)
    | (go_at_call 32; refine (join_calls w4 g off cp (L.map (fun x => x.s) ++ [wd]) (L.length + 1) (by simp) (by rw [names_map] at OW; exact OW.out) (by omega) (by rw [HWD.out, List.map_append, List.map_map]; exact HSZ.out)).mono ?_; rintro en w5 ⟨rfl, b5⟩)
    | fail)
  go_ret
  refine ⟨?_, ?_⟩
  · unfold pathB
    rw [← HWD.out]
    rfl
  · have b4 : Below B w3 w4 := ((Below.refl B w3).alloc SZ3.out _).trans (below_own GR.out (fun y hy => HS.out.2 y hy) (Nat.le_trans SZ3.out (by simp)))
    have s1 := B1.out.size
    have s2 := B2.out.size
    have s3 := b4.size
    exact (((B1.out.trans (below_less B2.out (by have := HB.out; omega))).trans (below_less B3.out (by have := HB.out; omega))).trans b4).trans (below_less b5 (by have := SZ3.out; omega))
end Go.Proofs.YtiogjmlkogeibaaDoor.flt
