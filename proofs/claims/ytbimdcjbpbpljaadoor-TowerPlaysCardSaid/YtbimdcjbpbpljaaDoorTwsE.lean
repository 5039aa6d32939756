/- tower over string: Cut. -/
import Derived.Test.YtbimdcjbpbpljaaDoorTwsD
namespace Go.Proofs.YtbimdcjbpbpljaaDoor.tws
open Go Go.RowKit Go.Proofs.YtbimdcjbpbpljaaDoor.tow

/-- While what is cut goes: A stays, on level i R i is behind it; M and C lie as they did. -/
structure Cu (w : World) (b : Nat) (hd : N) (A D : List N) (e : Nat) (G : Nat → Nat) (T : Nat → List N) (W : World) : Prop where
  lay : Lay W 62 59 Value.string T (hd :: A)
  layD : Lay W 62 59 Value.string (fun _ => []) D
  list : Has W b 64 #[.pointer (some ⟨hd.g, 0, none⟩), .int .i64 (A ++ D).length]
  arr : Has W e 65 (endsC G 0)
  turn : Turn (Foot b hd (A ++ D)) w W

section
variable {w W : World} {b e h0 : Nat} {hd x : N} {A D : List N} {G : Nat → Nat} {T T' : Nat → List N}

theorem Cu.congr (h : Cu w b hd A D e G T W) (he : ∀ i, nx i (T i) = nx i (T' i)) : Cu w b hd A D e G T' W := ⟨h.lay.congr he, h.layD, h.list, h.arr, h.turn⟩

/-- A level's end is turned to what is behind. -/
theorem Cu.step (h : Cu w b hd A D e G T W) (hS : Sk w b hd (A ++ D)) (hE : Ends (hd :: A) G 0) (hk : h0 < 10) (hT : ∀ i, i ≠ h0 → nx i (T i) = nx i (T' i)) :
    ∃ c : N, W.cell? ⟨e, h0, none⟩ = some (.pointer (some ⟨c.g, 0, none⟩)) ∧ W.cell? ⟨c.g, 2, none⟩ = some (.slice (some ⟨c.r, 0, none⟩) c.k c.k) ∧ h0 < c.k ∧ c.k ≤ 10 ∧
      W.cell? ⟨c.r, h0, none⟩ = some (ptrV (nx h0 (T h0))) ∧ W.frozen? ⟨c.r, h0, none⟩ = false ∧
      Cu w b hd A D e G T' (W.setCell ⟨c.r, h0, none⟩ (ptrV (nx h0 (T' h0)))) := by
  obtain ⟨c, hO, hg⟩ := hE h0 (Nat.zero_le _) hk
  have hO2 := hO
  obtain ⟨X, Y, eX, hc, hY⟩ := hO
  have hl := h.lay
  rw [eX] at hl
  obtain ⟨m1, m2⟩ := hl.at_
  have hcm : c ∈ hd :: A := by rw [eX]; simp
  have hcm2 : c ∈ hd :: (A ++ D) := by
    simp only [List.mem_cons, List.mem_append] at hcm ⊢
    rcases hcm with h | h
    · exact .inl h
    · exact .inr (.inl h)
  have hrs : ((hd :: A).map (·.r)).Nodup := by
    have := hS.rs
    rw [← List.cons_append, List.map_append] at this
    exact (List.nodup_append.1 this).1
  have hrD : ∀ x ∈ D, x.r ≠ c.r := by
    have := hS.rs
    rw [← List.cons_append, List.map_append] at this
    intro x hx e
    exact (List.nodup_append.1 this).2.2 c.r (List.mem_map_of_mem hcm) x.r (List.mem_map_of_mem hx) e.symm
  refine ⟨c, ?_, m1.cell 2, hc, hS.kle c hcm2, ?_, m2.free h0, ?_⟩
  · rw [h.arr.cell, endsC_at G hk, hg]
  · rw [m2.cell, rowT_at hc, nx_low hY]
  · refine ⟨h.lay.set hO2 node_ptr.1 hrs hT, ?_, ?_, ?_, h.turn.put (fun _ => .inr ⟨c, hcm2, .inr rfl⟩) _ _⟩
    · exact h.layD.far (fun x hx => ⟨h.layD.not_g m2 (fun e => node_ptr.1 e.symm) x hx, hrD x hx⟩) _
    · exact h.list.far (fun e => node_ptr.2.2 (by
        have h2 := h.list
        rw [show b = c.r from e] at h2
        exact (h2.uniq m2).2)) _
    · exact h.arr.far (fun e2 => arr_ptr (by
        have h2 := h.arr
        rw [show e = c.r from e2] at h2
        exact (h2.uniq m2).2)) _

/-- All of M is gone. -/
theorem cut_done {M C : List N} (h : Cu w b hd A (M ++ C) e G (fun _ => C) W) (hS : Sk w b hd (A ++ (M ++ C))) :
    Sk (W.setCell ⟨b, 1, none⟩ (.int .i64 (((A ++ (M ++ C)).length : Int) - M.length))) b hd (A ++ C) ∧ Turn (Foot b hd (A ++ (M ++ C))) w (W.setCell ⟨b, 1, none⟩ (.int .i64 (((A ++ (M ++ C)).length : Int) - M.length))) ∧
      ∀ k, Foot b hd (A ++ C) k → Foot b hd (A ++ (M ++ C)) k := by
  have hsub : (hd :: (A ++ C)).Sublist (hd :: (A ++ (M ++ C))) := ((List.Sublist.refl A).append (List.sublist_append_right M C)).cons_cons hd
  have hsub2 : (A ++ C).Sublist (A ++ (M ++ C)) := (List.Sublist.refl A).append (List.sublist_append_right M C)
  have hl2 : Lay W 62 59 Value.string (fun _ => []) (hd :: (A ++ C)) := by
    have h2 := (Lay.append.1 h.layD).2
    exact (Lay.append (T := fun _ => ([] : List N)) (A := hd :: A) (B := C)).2 ⟨by simpa using h.lay, h2⟩
  refine ⟨⟨?_, ?_, hS.rs.sublist (hsub.map _), hS.gs.sublist (hsub.map _), hS.hk, hS.h0, fun x hx => hS.ks x (hsub2.subset hx), hS.up.sublist hsub2, fun x hx => hS.num x (hsub2.subset hx)⟩, h.turn.put (fun _ => .inl rfl) _ _, ?_⟩
  · have := h.list.put 1 (.int .i64 (((A ++ (M ++ C)).length : Int) - M.length))
    have e2 : (((A ++ C).length : Nat) : Int) = ((A ++ (M ++ C)).length : Int) - M.length := by simp only [List.length_append]; omega
    rw [e2]
    simpa using this
  · exact hl2.far (fun x hx => ⟨hl2.not_g h.list node_ptr.2.1 x hx, hl2.not_r h.list node_ptr.2.2 x hx⟩) _
  · intro k hf
    rcases hf with e | ⟨x, hx, hf⟩
    · exact .inl e
    · exact .inr ⟨x, hsub.subset hx, hf⟩
end

def CutRes (w : World) (b : Nat) (hd : N) (A M C : List N) (en : Ending) (w' : World) : Prop :=
  en = .returned (.int .i64 M.length) ∧ Sk w' b hd (A ++ C) ∧ Turn (Foot b hd (A ++ (M ++ C))) w w' ∧ ∀ k, Foot b hd (A ++ C) k → Foot b hd (A ++ (M ++ C)) k

set_option maxRecDepth 100000 in
set_option maxHeartbeats 2000000 in
theorem cut_calls (b : Nat) (hd : N) (A M C : List N) (a t : Int) (w : World) (hS : Sk w b hd (A ++ (M ++ C))) (hA : ∀ x ∈ A, x.a < a) (hB : ∀ x ∈ M ++ C, a ≤ x.a) (hM : ∀ x ∈ M, x.a < t) (hC : ∀ x, C.head? = some x → t ≤ x.a) (hl : (A ++ (M ++ C)).length ≤ 100000) :
    Calls Tryd.prog 14 #[.pointer (some ⟨b, 0, none⟩), .int .i64 a, .int .i64 t] w (CutRes w b hd A M C) := by
  have HS := Lib.hid hS
  have HA := Lib.hid hA
  have HB := Lib.hid hB
  have HM := Lib.hid hM
  have HC := Lib.hid hC
  have HL := Lib.hid hl
  have hmf : ∀ fn first cap w, (Instr.makeFunc fn first cap).run Tryd.prog w = .ok (.func fn first cap) w := fun _ _ _ _ => rfl
  clear hS hA hB hM hC hl
  go_enter Tryd.func14, Tryd.ntmps14
  go_wp2_with fail
  refine calls_let (fun W hW => ?_)
  have P0 : Hid (Has W w.heap.size 3 #[.int .i64 a] ∧ Below w.heap.size w W ∧ Sk W b hd (A ++ (M ++ C))) := by
    have bb : Below w.heap.size w W := by rw [← hW]; exact (Below.refl _ _).alloc (Nat.le_refl _) _
    exact Lib.hid ⟨by rw [← hW]; exact made_at _ _ rfl, bb, HS.out.below bb⟩
  clear hW
  refine (search_calls 38 _ Tryd.func38 (by kernel_rfl) (by kernel_rfl) w.heap.size (fun x => decide (x < a)) b hd A (M ++ C) W P0.out.2.2 (fun x w' hb => clos_cut x a _ w' (P0.out.1.below hb P0.out.1.lt)) (fun x hx => decide_eq_true (HA.out x hx)) (fun x hx => decide_eq_false (by have := HB.out x hx; omega)) (by have := HL.out; rw [List.length_append] at this; omega)).mono ?_
  rintro en w1 ⟨G, rfl, hE, b1⟩
  have P1 : Hid (Has w1 w.heap.size 3 #[.int .i64 a] ∧ Below w.heap.size w w1 ∧ Sk w1 b hd (A ++ (M ++ C)) ∧ Ends (hd :: A) G 0 ∧ w.heap.size < w1.heap.size) := Lib.hid ⟨P0.out.1.below b1 P0.out.1.lt, P0.out.2.1.trans (b1.mono P0.out.2.1.size), P0.out.2.2.below b1, hE, Nat.lt_of_lt_of_le P0.out.1.lt b1.size⟩
  clear hE b1 P0
  go_wp2_with (first
    | ((with_reducible refine at_store (.tmp 7) ?_); refine wpList_store_cells (o := ⟨none, _, _, _, _, _⟩) rfl 65 _ _ rfl w1.heap.size (endsC G 0) (endsC (fun _ => 0) 10) rfl rfl _ (made_at _ _ rfl) (arrSize _ _) (by rw [endsC_size, endsC_size]) (endsC_one _ _) ?_; intro W2 HW2 TW2;
       (have hu : Hid (Pu w b hd A (M ++ C) w.heap.size w1.heap.size a G W2) := (by
          have bb : Below w1.heap.size w1 W2 := ((Below.refl _ _).alloc (Nat.le_refl _) _).trans (TW2.below (by simp) (fun j hj e => by omega))
          exact Lib.hid ⟨P1.out.2.2.1.below bb, P1.out.2.1.trans (bb.mono P1.out.2.1.size), HW2, P1.out.1.below bb P1.out.1.lt, ⟨Nat.le_refl _, P1.out.2.1.size⟩, P1.out.2.2.2.1⟩));
       (obtain ⟨c, hX, hg, ce, hc, hk1, hk2, cr0⟩ := hu.out.last); (obtain ⟨x0, hx0⟩ : ∃ x0, ptrV ((M ++ C).head?.map (·.g)) = .pointer x0 := (by cases (M ++ C).head? <;> exact ⟨_, rfl⟩)); (have cr : W2.cell? ⟨c.r, 0, none⟩ = some (.pointer x0) := (by rw [← hx0]; exact cr0)); (have HX0 := Lib.hid hx0); clear hx0 cr0;
       (have cc := hc.cell 2); (simp only [List.getElem?_toArray, List.getElem?_cons_succ, List.getElem?_cons_zero] at cc);
       (have HX := Lib.hid (And.intro hX hg)); (have hk1' : (0 : Int) < (c.k : Int) := (by omega)); clear HW2 TW2 hX hg hc)
    | fail)
  obtain ⟨e, he⟩ : ∃ e, e = w1.heap.size := ⟨_, rfl⟩
  rw [← he] at hu ce ⊢
  clear he P1
  have C0 : Hid (Cu w b hd A (M ++ C) e G (fun _ => M ++ C) W2) := by
    have hl := (Lay.append (T := fun _ => ([] : List N)) (A := hd :: A) (B := M ++ C)).1 hu.out.sk.lay
    exact Lib.hid ⟨hl.1.congr (fun i => by simp), hl.2, hu.out.sk.list, hu.out.arr, Turn.of_below (F := Foot b hd (A ++ (M ++ C))) hu.out.bel (fun j hj e => by omega)⟩
  have HE := Lib.hid hu.out.ends
  clear hu ce cc cr hk1 hk2 hk1' HX
  go_loopw [9, 10] (fun n x wr => ∃ (M1 M2 : List N) (u : Option Addr), n = .int .i64 (M1.length : Nat) ∧ x = .pointer u ∧ Hid (M = M1 ++ M2) ∧ Hid (ptrV ((M2 ++ C).head?.map (·.g)) = .pointer u) ∧ Hid (Cu w b hd A (M ++ C) e G (fun _ => M2 ++ C) wr)) (fun n _ _ => M.length - (intOf n).toNat)
  case atStart => exact ⟨[], M, x0, rfl, rfl, Lib.hid rfl, HX0, C0⟩
  case round =>
    clear C0 HX0
    obtain ⟨M1, M2, u, rfl, rfl, HM12, HU, HC1⟩ := hrel
    have hlen := congrArg List.length HM12.out
    rw [List.length_append] at hlen
    have hml : M.length ≤ 100000 := by have := HL.out; simp only [List.length_append] at this; omega
    cases M2 with
    | nil =>
      have hMe : M1 = M := by have := HM12.out; rw [List.append_nil] at this; exact this.symm
      subst hMe
      have hd' : Hid (Sk (wr.setCell ⟨b, 1, none⟩ (.int .i64 (((A ++ (M1 ++ C)).length : Int) - M1.length))) b hd (A ++ C) ∧ Turn (Foot b hd (A ++ (M1 ++ C))) w (wr.setCell ⟨b, 1, none⟩ (.int .i64 (((A ++ (M1 ++ C)).length : Int) - M1.length))) ∧
        ∀ k, Foot b hd (A ++ C) k → Foot b hd (A ++ (M1 ++ C)) k) := Lib.hid (cut_done HC1.out HS.out)
      obtain ⟨n, hn⟩ : ∃ n, n = (A ++ (M1 ++ C)).length := ⟨_, rfl⟩
      have c1 : wr.cell? ⟨b, 1, none⟩ = some (.int .i64 n) := by rw [hn]; exact HC1.out.list.cell 1
      have f1 : wr.frozen? ⟨b, 1, none⟩ = false := HC1.out.list.free 1
      rw [← hn] at hd'
      have hn2 : (n : Int) ≤ 100000 := by have := HL.out; omega
      have hn3 : (M1.length : Int) ≤ (n : Int) := by rw [hn]; simp only [List.length_append]; omega
      obtain ⟨m, hm⟩ : ∃ m, m = M1.length := ⟨_, rfl⟩
      rw [← hm] at hd' hn3 ⊢
      have HMM := Lib.hid hm
      have hm0 : (0 : Int) ≤ (m : Int) := by omega
      have hm2 : (m : Int) ≤ 100000 := by omega
      clear hn hm hml hlen
      cases C with
      | nil =>
        obtain rfl : u = none := by have h := HU.out; change Value.pointer none = Value.pointer u at h; injection h with h; exact h.symm
        clear HU HC1 HC
        go_wp2_with fail
        go_ret
        exact ⟨by rw [← HMM.out]; rfl, hd'.out⟩
      | cons y C =>
        obtain rfl : u = some ⟨y.g, 0, none⟩ := by have h := HU.out; change Value.pointer (some ⟨y.g, 0, none⟩) = Value.pointer u at h; injection h with h; exact h.symm
        have hy : t ≤ y.a := HC.out y rfl
        have hy2 : ¬ y.a < t := by omega
        have cy : wr.cell? ⟨y.g, 0, none⟩ = some (.int .i64 y.a) := by
          have hl := HC1.out.layD
          exact hl.at_.1.cell 0
        clear HU HC1 HC hy
        go_wp2_with fail
        go_ret
        exact ⟨by rw [← HMM.out]; rfl, hd'.out⟩
    | cons x M2 =>
      obtain rfl : u = some ⟨x.g, 0, none⟩ := by have h := HU.out; change Value.pointer (some ⟨x.g, 0, none⟩) = Value.pointer u at h; injection h with h; exact h.symm
      have hxt : x.a < t := HM.out x (by rw [HM12.out]; simp)
      have hxm : x ∈ hd :: (A ++ (M ++ C)) := by rw [HM12.out]; simp
      have hxk : x.k ≤ 10 := HS.out.kle x hxm
      have hxk0 : 0 < x.k := HS.out.kpos x (by rw [HM12.out]; simp)
      have hl := HC1.out.layD
      rw [HM12.out, List.append_assoc, List.cons_append] at hl
      obtain ⟨m1, m2⟩ := hl.at_
      have cx0 : wr.cell? ⟨x.g, 0, none⟩ = some (.int .i64 x.a) := m1.cell 0
      have cx2 : wr.cell? ⟨x.g, 2, none⟩ = some (.slice (some ⟨x.r, 0, none⟩) x.k x.k) := m1.cell 2
      have hk1 : (x.k : Int) ≤ 10 := by omega
      have hk0 : (0 : Int) < (x.k : Int) := by omega
      have HK := Lib.hid hxk
      have HK0 := Lib.hid hxk0
      have hm1 : (M1.length : Int) + 1 ≤ 100000 := by rw [List.length_cons] at hlen; omega
      have hm0 : (0 : Int) ≤ (M1.length : Int) := by omega
      have HLEN : Hid (M1.length < M.length) := Lib.hid (by rw [List.length_cons] at hlen; omega)
      clear hl m1 m2 hxm hxk hxk0 HU hml hlen
      go_wp2_with fail
      go_loopw [47] (fun i wv => ∃ h0 : Nat, i = .int .i64 h0 ∧ h0 ≤ x.k ∧ Hid (Cu w b hd A (M ++ C) e G (fun i => if i < h0 then M2 ++ C else x :: (M2 ++ C)) wv)) (fun i _ => x.k - (intOf i).toNat)
      case atStart => exact ⟨0, rfl, Nat.zero_le _, Lib.hid (HC1.out.congr (fun i => by simp))⟩
      case round =>
        clear HC1 cx0 cx2
        obtain ⟨h0, rfl, hh, HI⟩ := hrel
        have hl := HI.out.layD
        rw [HM12.out, List.append_assoc, List.cons_append] at hl
        obtain ⟨m1, m2⟩ := hl.at_
        by_cases hlt : h0 < x.k
        · have hlt1 : (h0 : Int) < (x.k : Int) := by omega
          have hlt0 : (0 : Int) ≤ (h0 : Int) := by omega
          have hlt2 : (h0 : Int) < 10 := by have := HK.out; omega
          obtain ⟨d, c0, c1, hdk, hdk2, c2, f2, hI⟩ := HI.out.step (h0 := h0) (T' := fun i => if i < h0 + 1 then M2 ++ C else x :: (M2 ++ C)) HS.out HE.out (by have := HK.out; omega) (fun i hi => by
            by_cases h1 : i < h0
            · simp only [h1, if_true, show i < h0 + 1 by omega]
            · simp only [h1, if_false, show ¬ i < h0 + 1 by omega])
          have hdk1 : (h0 : Int) < (d.k : Int) := by omega
          have hdk3 : (d.k : Int) ≤ 10 := by omega
          obtain ⟨u, hu⟩ : ∃ u, ptrV (nx h0 (M2 ++ C)) = .pointer u := by cases nx h0 (M2 ++ C) <;> exact ⟨_, rfl⟩
          have cxr : wr.cell? ⟨x.r, h0, none⟩ = some (.pointer u) := by rw [m2.cell, rowT_at hlt, List.append_nil, hu]
          have e1 : nx h0 ((fun i => if i < h0 + 1 then M2 ++ C else x :: (M2 ++ C)) h0) = nx h0 (M2 ++ C) := by simp only [Nat.lt_succ_self, if_true]
          rw [e1, hu] at hI
          have e2 : nx h0 ((fun i => if i < h0 then M2 ++ C else x :: (M2 ++ C)) h0) = some x.g := by simp only [Nat.lt_irrefl, if_false]; exact nx_hit hlt _
          rw [e2] at c2
          change wr.cell? _ = some (.pointer (some ⟨x.g, 0, none⟩)) at c2
          have HI2 := Lib.hid hI
          clear hl m1 m2 hdk hdk2 hu e1 e2 hI hlt HI
          go_wp2_with fail
          refine ⟨⟨h0 + 1, by rw [Int.natCast_add]; rfl, by omega, HI2⟩, ?_⟩
          show x.k - ((h0 : Int) + 1).toNat < x.k - ((h0 : Int)).toNat
          omega
        · have hk : h0 = x.k := by omega
          subst hk
          have h1 : ¬ (x.k : Int) < (x.k : Int) := by omega
          have cx2 : wr.cell? ⟨x.g, 2, none⟩ = some (.slice (some ⟨x.r, 0, none⟩) x.k x.k) := m1.cell 2
          obtain ⟨u, hu⟩ : ∃ u, ptrV ((M2 ++ C).head?.map (·.g)) = .pointer u := by cases (M2 ++ C).head? <;> exact ⟨_, rfl⟩
          have cxr : wr.cell? ⟨x.r, 0, none⟩ = some (.pointer u) := by
            rw [m2.cell, rowT_at HK0.out, List.append_nil, nx_zero (fun z hz => HS.out.kpos z (by rw [HM12.out]; rcases List.mem_append.1 hz with h | h <;> simp [h])), hu]
          have HU := Lib.hid hu
          have HI2 : Hid (Cu w b hd A (M ++ C) e G (fun _ => M2 ++ C) wr) := Lib.hid (HI.out.congr (fun i => by
            by_cases h2 : i < x.k
            · simp only [h2, if_true]
            · simp only [h2, if_false]; exact nx_miss h2 _))
          clear hl m1 m2 hu hlt HI hh
          go_wp2_with fail
          refine ⟨⟨M1 ++ [x], M2, u, by rw [List.length_append]; rfl, rfl, Lib.hid (by rw [HM12.out]; simp), HU, HI2⟩, ?_⟩
          show M.length - ((M1.length : Int) + 1).toNat < M.length - ((M1.length : Int)).toNat
          have := HLEN.out
          omega
end Go.Proofs.YtbimdcjbpbpljaaDoor.tws
