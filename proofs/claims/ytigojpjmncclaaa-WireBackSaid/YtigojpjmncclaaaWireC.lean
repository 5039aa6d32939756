/- What wire's Reader takes as sums of what its Writer has put as sums. -/
import Derived.Test.YtigojpjmncclaaaWireB
import Derived.Lib.ItoaWalk
namespace Go.Proofs.Ytigojpjmncclaaa
open Go.RowKit

/-- The sums L are taken, t is left, no error; what is answered lies in a row that is new. -/
def SumsPost (b : Nat) (L : List (List UInt8)) (t : List UInt8) (w : World) (en : Ending) (w' : World) : Prop :=
  ∃ v, en = .returned v ∧ Own w' v L ∧ (∀ k, v.ownBlock = some k → w.heap.size ≤ k) ∧ Rd w' b ⟨t.toArray⟩ 0 ∧ w.grownBy w' (some b)

set_option maxRecDepth 100000 in
set_option maxHeartbeats 1000000 in
theorem rsums_got (b : Nat) (L : List (List UInt8)) (t : List UInt8) (most : Int) (w : World) (hL : ∀ x ∈ L, x.length = 32) (hm : (L.length : Int) ≤ most) (hm1 : most ≤ 1000) (ht : t.length ≤ 1000)
    (h : Rd w b ⟨(enc L.length ++ (L.flatten ++ t)).toArray⟩ 0) :
    Calls Try.prog 20 #[.pointer (some ⟨b, 0, none⟩), .int .i64 most] w fun en w' => SumsPost b L t w en w' := by
  have hel := enc_len L.length (by omega)
  have hfl := flatten_len L hL
  have hbl := h.lt
  go_enter Try.func20, Try.ntmps20
  go_wp2_with fail
  refine (upto_any b _ 0 most w (by rw [text_size]; simp only [List.length_append]; unfold maxLen; omega) h (by omega) (by omega)).mono ?_
  rw [upto_got L.length (L.flatten ++ t) most (by omega) hm]
  rintro en w1 ⟨rfl, h1, g1⟩
  obtain ⟨S, hS⟩ : ∃ S : ByteArray, S = ⟨(L.flatten ++ t).toArray⟩ := ⟨_, rfl⟩
  have hq : (L.length : Int) ≤ (S.size : Int) / 32 := by
    have : S.size = (L.flatten ++ t).length := by rw [hS, text_size]
    rw [List.length_append] at this
    omega
  have hS1 : S.size ≤ 1000000 := by
    have : S.size = (L.flatten ++ t).length := by rw [hS, text_size]
    rw [List.length_append] at this
    omega
  have c0 : w1.cell? ⟨b, 0, none⟩ = some (.string S) := by rw [hS]; exact h1.cell 0
  have H1 : Hid (Rd w1 b ⟨((L.drop 0).flatten ++ t).toArray⟩ 0) := h1
  have T1 : Hid (Turn (fun k => k = b ∨ w.heap.size ≤ k) w w1) := (Turn.refl _ w).grown g1 (fun j hj _ => .inl (by injection hj with hj; exact hj.symm))
  have HL := Lib.hid hL
  have HFL := Lib.hid hfl
  clear h h1 g1 hS hL hfl hel
  go_wp2_with fail
  clear c0
  go_loopw [6, 21] (fun l i wr => ∃ (k : Nat) (v : Value), k ≤ L.length ∧ i = .int .i64 k ∧ v = l ∧ Hid (Own wr v (L.take k)) ∧ Hid (∀ j, v.ownBlock = some j → w.heap.size ≤ j) ∧ Hid (Rd wr b ⟨((L.drop k).flatten ++ t).toArray⟩ 0) ∧ Hid (Turn (fun k => k = b ∨ w.heap.size ≤ k) w wr)) (fun _ i _ => L.length - (intOf i).toNat)
  case atStart => exact ⟨0, .slice none 0 0, Nat.zero_le _, rfl, rfl, Own.nil w1, (fun j hj => by cases hj), H1, T1⟩
  case round =>
    clear H1 T1
    obtain ⟨k, v, hk, rfl, rfl, HO, HN, HR, HT⟩ := hrel
    by_cases hlt : k < L.length
    · have hx : L[k].length = 32 := HL.out _ (List.getElem_mem hlt)
      have htk : L.take (k + 1) = L.take k ++ [L[k]] := List.take_succ_eq_append_getElem hlt
      have hdk : (L.drop k).flatten ++ t = L[k] ++ ((L.drop (k + 1)).flatten ++ t) := by rw [List.drop_eq_getElem_cons hlt, List.flatten_cons, List.append_assoc]
      have hdl : ((L.drop (k + 1)).flatten ++ t).length ≤ 100000 := by
        rw [List.length_append, flatten_len _ (fun y hy => HL.out y (List.mem_of_mem_drop hy)), List.length_drop]
        omega
      have HTK := Lib.hid htk
      have HX := Lib.hid hx
      have HDL := Lib.hid hdl
      have HR' : Hid (Rd wr b ⟨(L[k] ++ ((L.drop (k + 1)).flatten ++ t)).toArray⟩ 0) := by
        have := HR.out
        rw [hdk] at this
        exact this
      clear htk hdk hx HR hdl
      generalize L[k] = x at *
      go_wp2_with fail
      refine (rsum_got b x _ wr HX.out (by rw [List.length_append, HX.out]; have := HDL.out; omega) HR'.out).mono ?_
      rintro en w2 ⟨rfl, h2, g2⟩
      have hbr := HR'.out.lt
      have hsz := HT.out.size
      have O2 : Hid (Own w2 v (L.take k)) := HO.out.turn (Turn.of_grown (F := fun j => j = b) g2 rfl) (fun j hj => by have := HN.out j hj; omega)
      have T2 : Hid (Turn (fun k => k = b ∨ w.heap.size ≤ k) w w2) := HT.out.grown g2 (fun j hj _ => .inl (by injection hj with hj; exact hj.symm))
      have H2 := Lib.hid h2
      clear h2 g2 HR' HO HT
      go_wp2_with (first
        | ((with_reducible refine at_op 26 ?_); refine wpList_build_one (o := ⟨some 26, _, _, _, _, _⟩) rfl (.tmp 25) rfl x HX.out rfl ?_)
        | ((with_reducible refine at_op 27 ?_); refine wpList_append_one (o := ⟨some 27, _, _, _, _, _⟩) rfl (.tmp 23) (.tmp 26) rfl v (L.take k) x w2.heap.size rfl rfl (O2.out.turn (alloc_only _ _) (fun _ _ h => h)) HX.out (Has.made _ _ _) (by rw [List.length_take]; omega) ?_))
      intro v' w3 o3 g3 p3
      have hN' : ∀ j, v'.ownBlock = some j → w.heap.size ≤ j := fun j hj => by
        rcases p3 with e | e
        · exact HN.out j (by rw [← e]; exact hj)
        · rw [e] at hj; injection hj with hj; have := T2.out.size; omega
      have h3 : Rd w3 b ⟨((L.drop (k + 1)).flatten ++ t).toArray⟩ 0 := (H2.out.alloc _).grown g3 (fun e => by have := HN.out b e.symm; omega)
      have t3 : Turn (fun k => k = b ∨ w.heap.size ≤ k) w w3 := (T2.out.alloc _).grown g3 (fun j hj _ => .inr (HN.out j hj))
      have O3 : Hid (Own w3 v' (L.take (k + 1))) := by rw [HTK.out]; exact o3
      have N3 := Lib.hid hN'
      have H3 := Lib.hid h3
      have T3 := Lib.hid t3
      obtain ⟨a', c', hv'⟩ := o3.slice
      clear o3 g3 p3 hN' h3 t3 O2 T2 H2 HN HTK
      go_wp2_with fail
      go_roundw
      case rel => exact ⟨k + 1, v', by omega, by go_num, rfl, O3, N3, H3, T3⟩
      case measure => simp [intOf]; omega
    · obtain rfl : k = L.length := by omega
      have e1 : (L.drop L.length).flatten ++ t = t := by simp
      have e2 : L.take L.length = L := List.take_length
      have HR' : Hid (Rd wr b ⟨t.toArray⟩ 0) := by have := HR.out; rw [e1] at this; exact this
      have HO' : Hid (Own wr v L) := by have := HO.out; rw [e2] at this; exact this
      clear e1 e2 HR HO
      go_wp2_with fail
      go_ret
      exact ⟨v, rfl, HO'.out, HN.out, HR'.out, HT.out.grownBy⟩

end Go.Proofs.Ytigojpjmncclaaa
