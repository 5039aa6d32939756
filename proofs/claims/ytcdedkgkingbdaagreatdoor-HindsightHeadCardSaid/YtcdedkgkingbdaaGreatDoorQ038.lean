/- Texts laid into one: TwsE, TowK, TwsF, TreeS. -/
import Derived.Test.YtcdedkgkingbdaaGreatDoorQ037
import Derived.Test.YtcdedkgkingbdaaGreatDoorQ034
import Derived.Test.YtcdedkgkingbdaaGreatDoorQ009
import Derived.Test.YtcdedkgkingbdaaGreatDoorQ011
section
/- tower over string: Cut. -/
namespace Go.Proofs.YtcdedkgkingbdaaGreatDoor.tws
open Go Go.RowKit Go.Proofs.YtcdedkgkingbdaaGreatDoor.tow

/-- While what is cut goes: A stays, on level i R i is behind it; M and C lie as they did. -/
structure Cu (w : World) (b : Nat) (hd : N) (A D : List N) (e : Nat) (G : Nat → Nat) (T : Nat → List N) (W : World) : Prop where
  lay : Lay W 181 178 Value.string T (hd :: A)
  layD : Lay W 181 178 Value.string (fun _ => []) D
  list : Has W b 183 #[.pointer (some ⟨hd.g, 0, none⟩), .int .i64 (A ++ D).length]
  arr : Has W e 184 (endsC G 0)
  turn : Turn (Foot b hd (A ++ D)) w W

section
variable {w W : World} {b e h0 : Nat} {hd x : N} {A D : List N} {G : Nat → Nat} {T T' : Nat → List N}

theorem Cu.congr (h : Cu w b hd A D e G T W) (he : ∀ i, nx i (T i) = nx i (T' i)) : Cu w b hd A D e G T' W := ⟨h.lay.congr he, h.layD, h.list, h.arr, h.turn⟩

/-- A level's end is turned to what is behind. -/
theorem Cu.step (h : Cu w b hd A D e G T W) (hS : Sk w b hd (A ++ D)) (hE : Ends (hd :: A) G 0) (hk : h0 < 10) (hT : ∀ i, i ≠ h0 → nx i (T i) = nx i (T' i)) :
    ∃ c : N, W.cell? ⟨e, h0, none⟩ = some (.pointer (some ⟨c.g, 0, none⟩)) ∧ W.cell? ⟨c.g, 2, none⟩ = some (.slice (some ⟨c.r, 0, none⟩) c.k c.k) ∧ h0 < c.k ∧ c.k ≤ 10 ∧
      W.cell? ⟨c.r, h0, none⟩ = some (ptrV (nx h0 (T h0))) ∧ W.frozen? ⟨c.r, h0, none⟩ = false ∧
      Cu w b hd A D e G T' (W.setCell ⟨c.r, h0, none⟩ (ptrV (nx h0 (T' h0)))) := by
  obtain ⟨c, hO, hg⟩ := hE h0 (Nat.zero_le _) hk
  have hO2 := hO
  obtain ⟨X, Y, eX, hc, hY⟩ := hO
  have hl := h.lay
  rw [eX] at hl
  obtain ⟨m1, m2⟩ := hl.at_
  have hcm : c ∈ hd :: A := by rw [eX]; simp
  have hcm2 : c ∈ hd :: (A ++ D) := by
    simp only [List.mem_cons, List.mem_append] at hcm ⊢
    rcases hcm with h | h
    · exact .inl h
    · exact .inr (.inl h)
  have hrs : ((hd :: A).map (·.r)).Nodup := by
    have := hS.rs
    rw [← List.cons_append, List.map_append] at this
    exact (List.nodup_append.1 this).1
  have hrD : ∀ x ∈ D, x.r ≠ c.r := by
    have := hS.rs
    rw [← List.cons_append, List.map_append] at this
    intro x hx e
    exact (List.nodup_append.1 this).2.2 c.r (List.mem_map_of_mem hcm) x.r (List.mem_map_of_mem hx) e.symm
  refine ⟨c, ?_, m1.cell 2, hc, hS.kle c hcm2, ?_, m2.free h0, ?_⟩
  · rw [h.arr.cell, endsC_at G hk, hg]
  · rw [m2.cell, rowT_at hc, nx_low hY]
  · refine ⟨h.lay.set hO2 node_ptr.1 hrs hT, ?_, ?_, ?_, h.turn.put (fun _ => .inr ⟨c, hcm2, .inr rfl⟩) _ _⟩
    · exact h.layD.far (fun x hx => ⟨h.layD.not_g m2 (fun e => node_ptr.1 e.symm) x hx, hrD x hx⟩) _
    · exact h.list.far (fun e => node_ptr.2.2 (by
        have h2 := h.list
        rw [show b = c.r from e] at h2
        exact (h2.uniq m2).2)) _
    · exact h.arr.far (fun e2 => arr_ptr (by
        have h2 := h.arr
        rw [show e = c.r from e2] at h2
        exact (h2.uniq m2).2)) _

/-- All of M is gone. -/
theorem cut_done {M C : List N} (h : Cu w b hd A (M ++ C) e G (fun _ => C) W) (hS : Sk w b hd (A ++ (M ++ C))) :
    Sk (W.setCell ⟨b, 1, none⟩ (.int .i64 (((A ++ (M ++ C)).length : Int) - M.length))) b hd (A ++ C) ∧ Turn (Foot b hd (A ++ (M ++ C))) w (W.setCell ⟨b, 1, none⟩ (.int .i64 (((A ++ (M ++ C)).length : Int) - M.length))) ∧
      ∀ k, Foot b hd (A ++ C) k → Foot b hd (A ++ (M ++ C)) k := by
  have hsub : (hd :: (A ++ C)).Sublist (hd :: (A ++ (M ++ C))) := ((List.Sublist.refl A).append (List.sublist_append_right M C)).cons_cons hd
  have hsub2 : (A ++ C).Sublist (A ++ (M ++ C)) := (List.Sublist.refl A).append (List.sublist_append_right M C)
  have hl2 : Lay W 181 178 Value.string (fun _ => []) (hd :: (A ++ C)) := by
    have h2 := (Lay.append.1 h.layD).2
    exact (Lay.append (T := fun _ => ([] : List N)) (A := hd :: A) (B := C)).2 ⟨by simpa using h.lay, h2⟩
  refine ⟨⟨?_, ?_, hS.rs.sublist (hsub.map _), hS.gs.sublist (hsub.map _), hS.hk, hS.h0, fun x hx => hS.ks x (hsub2.subset hx), hS.up.sublist hsub2, fun x hx => hS.num x (hsub2.subset hx)⟩, h.turn.put (fun _ => .inl rfl) _ _, ?_⟩
  · have := h.list.put 1 (.int .i64 (((A ++ (M ++ C)).length : Int) - M.length))
    have e2 : (((A ++ C).length : Nat) : Int) = ((A ++ (M ++ C)).length : Int) - M.length := by simp only [List.length_append]; omega
    rw [e2]
    simpa using this
  · exact hl2.far (fun x hx => ⟨hl2.not_g h.list node_ptr.2.1 x hx, hl2.not_r h.list node_ptr.2.2 x hx⟩) _
  · intro k hf
    rcases hf with e | ⟨x, hx, hf⟩
    · exact .inl e
    · exact .inr ⟨x, hsub.subset hx, hf⟩
end

def CutRes (w : World) (b : Nat) (hd : N) (A M C : List N) (en : Ending) (w' : World) : Prop :=
  en = .returned (.int .i64 M.length) ∧ Sk w' b hd (A ++ C) ∧ Turn (Foot b hd (A ++ (M ++ C))) w w' ∧ ∀ k, Foot b hd (A ++ C) k → Foot b hd (A ++ (M ++ C)) k

set_option maxRecDepth 100000 in
set_option maxHeartbeats 2000000 in
theorem cut_calls (b : Nat) (hd : N) (A M C : List N) (a t : Int) (w : World) (hS : Sk w b hd (A ++ (M ++ C))) (hA : ∀ x ∈ A, x.a < a) (hB : ∀ x ∈ M ++ C, a ≤ x.a) (hM : ∀ x ∈ M, x.a < t) (hC : ∀ x, C.head? = some x → t ≤ x.a) (hl : (A ++ (M ++ C)).length ≤ 100000) :
    Calls Tryz.prog 59 #[.pointer (some ⟨b, 0, none⟩), .int .i64 a, .int .i64 t] w (CutRes w b hd A M C) := by
  have HS := Lib.hid hS
  have HA := Lib.hid hA
  have HB := Lib.hid hB
  have HM := Lib.hid hM
  have HC := Lib.hid hC
  have HL := Lib.hid hl
  have hmf : ∀ fn first cap w, (Instr.makeFunc fn first cap).run Tryz.prog w = .ok (.func fn first cap) w := fun _ _ _ _ => rfl
  clear hS hA hB hM hC hl
  go_enter Tryz.func59, Tryz.ntmps59
  go_wp2_with fail
  refine calls_let (fun W hW => ?_)
  have P0 : Hid (Has W w.heap.size 3 #[.int .i64 a] ∧ Below w.heap.size w W ∧ Sk W b hd (A ++ (M ++ C))) := by
    have bb : Below w.heap.size w W := by rw [← hW]; exact (Below.refl _ _).alloc (Nat.le_refl _) _
    exact Lib.hid ⟨by rw [← hW]; exact made_at _ _ rfl, bb, HS.out.below bb⟩
  clear hW
  refine (search_calls 104 _ Tryz.func104 (by kernel_rfl) (by kernel_rfl) w.heap.size (fun x => decide (x < a)) b hd A (M ++ C) W P0.out.2.2 (fun x w' hb => clos_cut x a _ w' (P0.out.1.below hb P0.out.1.lt)) (fun x hx => decide_eq_true (HA.out x hx)) (fun x hx => decide_eq_false (by have := HB.out x hx; omega)) (by have := HL.out; rw [List.length_append] at this; omega)).mono ?_
  rintro en w1 ⟨G, rfl, hE, b1⟩
  have P1 : Hid (Has w1 w.heap.size 3 #[.int .i64 a] ∧ Below w.heap.size w w1 ∧ Sk w1 b hd (A ++ (M ++ C)) ∧ Ends (hd :: A) G 0 ∧ w.heap.size < w1.heap.size) := Lib.hid ⟨P0.out.1.below b1 P0.out.1.lt, P0.out.2.1.trans (b1.mono P0.out.2.1.size), P0.out.2.2.below b1, hE, Nat.lt_of_lt_of_le P0.out.1.lt b1.size⟩
  clear hE b1 P0
  go_wp2_with (first
    | ((with_reducible refine at_store (.tmp 7) ?_); refine wpList_store_cells (o := ⟨none, _, _, _, _, _⟩) rfl 184 _ _ rfl w1.heap.size (endsC G 0) (endsC (fun _ => 0) 10) rfl rfl _ (made_at _ _ rfl) (arrSize _ _) (by rw [endsC_size, endsC_size]) (endsC_one _ _) ?_; intro W2 HW2 TW2;
       (have hu : Hid (Pu w b hd A (M ++ C) w.heap.size w1.heap.size a G W2) := (by
          have bb : Below w1.heap.size w1 W2 := ((Below.refl _ _).alloc (Nat.le_refl _) _).trans (TW2.below (by simp) (fun j hj e => by omega))
          exact Lib.hid ⟨P1.out.2.2.1.below bb, P1.out.2.1.trans (bb.mono P1.out.2.1.size), HW2, P1.out.1.below bb P1.out.1.lt, ⟨Nat.le_refl _, P1.out.2.1.size⟩, P1.out.2.2.2.1⟩));
       (obtain ⟨c, hX, hg, ce, hc, hk1, hk2, cr0⟩ := hu.out.last); (obtain ⟨x0, hx0⟩ : ∃ x0, ptrV ((M ++ C).head?.map (·.g)) = .pointer x0 := (by cases (M ++ C).head? <;> exact ⟨_, rfl⟩)); (have cr : W2.cell? ⟨c.r, 0, none⟩ = some (.pointer x0) := (by rw [← hx0]; exact cr0)); (have HX0 := Lib.hid hx0); clear hx0 cr0;
       (have cc := hc.cell 2); (simp only [List.getElem?_toArray, List.getElem?_cons_succ, List.getElem?_cons_zero] at cc);
       (have HX := Lib.hid (And.intro hX hg)); (have hk1' : (0 : Int) < (c.k : Int) := (by omega)); clear HW2 TW2 hX hg hc)
    | fail)
  obtain ⟨e, he⟩ : ∃ e, e = w1.heap.size := ⟨_, rfl⟩
  rw [← he] at hu ce ⊢
  clear he P1
  have C0 : Hid (Cu w b hd A (M ++ C) e G (fun _ => M ++ C) W2) := by
    have hl := (Lay.append (T := fun _ => ([] : List N)) (A := hd :: A) (B := M ++ C)).1 hu.out.sk.lay
    exact Lib.hid ⟨hl.1.congr (fun i => by simp), hl.2, hu.out.sk.list, hu.out.arr, Turn.of_below (F := Foot b hd (A ++ (M ++ C))) hu.out.bel (fun j hj e => by omega)⟩
  have HE := Lib.hid hu.out.ends
  clear hu ce cc cr hk1 hk2 hk1' HX
  go_loopw [9, 10] (fun n x wr => ∃ (M1 M2 : List N) (u : Option Addr), n = .int .i64 (M1.length : Nat) ∧ x = .pointer u ∧ Hid (M = M1 ++ M2) ∧ Hid (ptrV ((M2 ++ C).head?.map (·.g)) = .pointer u) ∧ Hid (Cu w b hd A (M ++ C) e G (fun _ => M2 ++ C) wr)) (fun n _ _ => M.length - (intOf n).toNat)
  case atStart => exact ⟨[], M, x0, rfl, rfl, Lib.hid rfl, HX0, C0⟩
  case round =>
    clear C0 HX0
    obtain ⟨M1, M2, u, rfl, rfl, HM12, HU, HC1⟩ := hrel
    have hlen := congrArg List.length HM12.out
    rw [List.length_append] at hlen
    have hml : M.length ≤ 100000 := by have := HL.out; simp only [List.length_append] at this; omega
    cases M2 with
    | nil =>
      have hMe : M1 = M := by have := HM12.out; rw [List.append_nil] at this; exact this.symm
      subst hMe
      have hd' : Hid (Sk (wr.setCell ⟨b, 1, none⟩ (.int .i64 (((A ++ (M1 ++ C)).length : Int) - M1.length))) b hd (A ++ C) ∧ Turn (Foot b hd (A ++ (M1 ++ C))) w (wr.setCell ⟨b, 1, none⟩ (.int .i64 (((A ++ (M1 ++ C)).length : Int) - M1.length))) ∧
        ∀ k, Foot b hd (A ++ C) k → Foot b hd (A ++ (M1 ++ C)) k) := Lib.hid (cut_done HC1.out HS.out)
      obtain ⟨n, hn⟩ : ∃ n, n = (A ++ (M1 ++ C)).length := ⟨_, rfl⟩
      have c1 : wr.cell? ⟨b, 1, none⟩ = some (.int .i64 n) := by rw [hn]; exact HC1.out.list.cell 1
      have f1 : wr.frozen? ⟨b, 1, none⟩ = false := HC1.out.list.free 1
      rw [← hn] at hd'
      have hn2 : (n : Int) ≤ 100000 := by have := HL.out; omega
      have hn3 : (M1.length : Int) ≤ (n : Int) := by rw [hn]; simp only [List.length_append]; omega
      obtain ⟨m, hm⟩ : ∃ m, m = M1.length := ⟨_, rfl⟩
      rw [← hm] at hd' hn3 ⊢
      have HMM := Lib.hid hm
      have hm0 : (0 : Int) ≤ (m : Int) := by omega
      have hm2 : (m : Int) ≤ 100000 := by omega
      clear hn hm hml hlen
      cases C with
      | nil =>
        obtain rfl : u = none := by have h := HU.out; change Value.pointer none = Value.pointer u at h; injection h with h; exact h.symm
        clear HU HC1 HC
        go_wp2_with fail
        go_ret
        exact ⟨by rw [← HMM.out]; rfl, hd'.out⟩
      | cons y C =>
        obtain rfl : u = some ⟨y.g, 0, none⟩ := by have h := HU.out; change Value.pointer (some ⟨y.g, 0, none⟩) = Value.pointer u at h; injection h with h; exact h.symm
        have hy : t ≤ y.a := HC.out y rfl
        have hy2 : ¬ y.a < t := by omega
        have cy : wr.cell? ⟨y.g, 0, none⟩ = some (.int .i64 y.a) := by
          have hl := HC1.out.layD
          exact hl.at_.1.cell 0
        clear HU HC1 HC hy
        go_wp2_with fail
        go_ret
        exact ⟨by rw [← HMM.out]; rfl, hd'.out⟩
    | cons x M2 =>
      obtain rfl : u = some ⟨x.g, 0, none⟩ := by have h := HU.out; change Value.pointer (some ⟨x.g, 0, none⟩) = Value.pointer u at h; injection h with h; exact h.symm
      have hxt : x.a < t := HM.out x (by rw [HM12.out]; simp)
      have hxm : x ∈ hd :: (A ++ (M ++ C)) := by rw [HM12.out]; simp
      have hxk : x.k ≤ 10 := HS.out.kle x hxm
      have hxk0 : 0 < x.k := HS.out.kpos x (by rw [HM12.out]; simp)
      have hl := HC1.out.layD
      rw [HM12.out, List.append_assoc, List.cons_append] at hl
      obtain ⟨m1, m2⟩ := hl.at_
      have cx0 : wr.cell? ⟨x.g, 0, none⟩ = some (.int .i64 x.a) := m1.cell 0
      have cx2 : wr.cell? ⟨x.g, 2, none⟩ = some (.slice (some ⟨x.r, 0, none⟩) x.k x.k) := m1.cell 2
      have hk1 : (x.k : Int) ≤ 10 := by omega
      have hk0 : (0 : Int) < (x.k : Int) := by omega
      have HK := Lib.hid hxk
      have HK0 := Lib.hid hxk0
      have hm1 : (M1.length : Int) + 1 ≤ 100000 := by rw [List.length_cons] at hlen; omega
      have hm0 : (0 : Int) ≤ (M1.length : Int) := by omega
      have HLEN : Hid (M1.length < M.length) := Lib.hid (by rw [List.length_cons] at hlen; omega)
      clear hl m1 m2 hxm hxk hxk0 HU hml hlen
      go_wp2_with fail
      go_loopw [47] (fun i wv => ∃ h0 : Nat, i = .int .i64 h0 ∧ h0 ≤ x.k ∧ Hid (Cu w b hd A (M ++ C) e G (fun i => if i < h0 then M2 ++ C else x :: (M2 ++ C)) wv)) (fun i _ => x.k - (intOf i).toNat)
      case atStart => exact ⟨0, rfl, Nat.zero_le _, Lib.hid (HC1.out.congr (fun i => by simp))⟩
      case round =>
        clear HC1 cx0 cx2
        obtain ⟨h0, rfl, hh, HI⟩ := hrel
        have hl := HI.out.layD
        rw [HM12.out, List.append_assoc, List.cons_append] at hl
        obtain ⟨m1, m2⟩ := hl.at_
        by_cases hlt : h0 < x.k
        · have hlt1 : (h0 : Int) < (x.k : Int) := by omega
          have hlt0 : (0 : Int) ≤ (h0 : Int) := by omega
          have hlt2 : (h0 : Int) < 10 := by have := HK.out; omega
          obtain ⟨d, c0, c1, hdk, hdk2, c2, f2, hI⟩ := HI.out.step (h0 := h0) (T' := fun i => if i < h0 + 1 then M2 ++ C else x :: (M2 ++ C)) HS.out HE.out (by have := HK.out; omega) (fun i hi => by
            by_cases h1 : i < h0
            · simp only [h1, if_true, show i < h0 + 1 by omega]
            · simp only [h1, if_false, show ¬ i < h0 + 1 by omega])
          have hdk1 : (h0 : Int) < (d.k : Int) := by omega
          have hdk3 : (d.k : Int) ≤ 10 := by omega
          obtain ⟨u, hu⟩ : ∃ u, ptrV (nx h0 (M2 ++ C)) = .pointer u := by cases nx h0 (M2 ++ C) <;> exact ⟨_, rfl⟩
          have cxr : wr.cell? ⟨x.r, h0, none⟩ = some (.pointer u) := by rw [m2.cell, rowT_at hlt, List.append_nil, hu]
          have e1 : nx h0 ((fun i => if i < h0 + 1 then M2 ++ C else x :: (M2 ++ C)) h0) = nx h0 (M2 ++ C) := by simp only [Nat.lt_succ_self, if_true]
          rw [e1, hu] at hI
          have e2 : nx h0 ((fun i => if i < h0 then M2 ++ C else x :: (M2 ++ C)) h0) = some x.g := by simp only [Nat.lt_irrefl, if_false]; exact nx_hit hlt _
          rw [e2] at c2
          change wr.cell? _ = some (.pointer (some ⟨x.g, 0, none⟩)) at c2
          have HI2 := Lib.hid hI
          clear hl m1 m2 hdk hdk2 hu e1 e2 hI hlt HI
          go_wp2_with fail
          refine ⟨⟨h0 + 1, by rw [Int.natCast_add]; rfl, by omega, HI2⟩, ?_⟩
          show x.k - ((h0 : Int) + 1).toNat < x.k - ((h0 : Int)).toNat
          omega
        · have hk : h0 = x.k := by omega
          subst hk
          have h1 : ¬ (x.k : Int) < (x.k : Int) := by omega
          have cx2 : wr.cell? ⟨x.g, 2, none⟩ = some (.slice (some ⟨x.r, 0, none⟩) x.k x.k) := m1.cell 2
          obtain ⟨u, hu⟩ : ∃ u, ptrV ((M2 ++ C).head?.map (·.g)) = .pointer u := by cases (M2 ++ C).head? <;> exact ⟨_, rfl⟩
          have cxr : wr.cell? ⟨x.r, 0, none⟩ = some (.pointer u) := by
            rw [m2.cell, rowT_at HK0.out, List.append_nil, nx_zero (fun z hz => HS.out.kpos z (by rw [HM12.out]; rcases List.mem_append.1 hz with h | h <;> simp [h])), hu]
          have HU := Lib.hid hu
          have HI2 : Hid (Cu w b hd A (M ++ C) e G (fun _ => M2 ++ C) wr) := Lib.hid (HI.out.congr (fun i => by
            by_cases h2 : i < x.k
            · simp only [h2, if_true]
            · simp only [h2, if_false]; exact nx_miss h2 _))
          clear hl m1 m2 hu hlt HI hh
          go_wp2_with fail
          refine ⟨⟨M1 ++ [x], M2, u, by rw [List.length_append]; rfl, rfl, Lib.hid (by rw [HM12.out]; simp), HU, HI2⟩, ?_⟩
          show M.length - ((M1.length : Int) + 1).toNat < M.length - ((M1.length : Int)).toNat
          have := HLEN.out
          omega
end Go.Proofs.YtcdedkgkingbdaaGreatDoor.tws
end

section
/- tower: how many a search goes past, by heights alone. -/
namespace Go.Proofs.YtcdedkgkingbdaaGreatDoor.tow
open Go Go.RowKit

end Go.Proofs.YtcdedkgkingbdaaGreatDoor.tow
end

section
/- tower over string: a list, and what is kept in it: each call by what it answers of that. -/
namespace Go.Proofs.YtcdedkgkingbdaaGreatDoor.tws
open Go Go.RowKit Go.Proofs.YtcdedkgkingbdaaGreatDoor.tow

/-- At b a list keeps l; its blocks are of F. -/
def Tw (w : World) (b : Nat) (l : List (Int × ByteArray)) (F : Nat → Prop) : Prop := ∃ hd ns, Sk w b hd ns ∧ ns.map kv = l ∧ ∀ k, Foot b hd ns k → F k

section
variable {w w' : World} {b : Nat} {l : List (Int × ByteArray)} {F G : Nat → Prop}

theorem Tw.turn (h : Tw w b l F) (t : Turn G w w') (hG : ∀ k, k < w.heap.size → F k → ¬ G k) : Tw w' b l F := by
  obtain ⟨hd, ns, h1, h2, h3⟩ := h
  exact ⟨hd, ns, h1.turn t (fun k hk => hG k (h1.foot_lt hk) (h3 k hk)), h2, h3⟩
theorem Tw.below (h : Tw w b l F) (t : Below w.heap.size w w') : Tw w' b l F :=
  h.turn (Turn.of_below (F := fun k => w.heap.size ≤ k) t (fun _ _ h => h)) (fun k hk _ e => by omega)
theorem Tw.more (h : Tw w b l F) (hG : ∀ k, k < w.heap.size → F k → G k) : Tw w b l G := by
  obtain ⟨hd, ns, h1, h2, h3⟩ := h
  exact ⟨hd, ns, h1, h2, fun k hk => hG k (h1.foot_lt hk) (h3 k hk)⟩
theorem Tw.sorted (h : Tw w b l F) : l.Pairwise (fun x y => x.1 < y.1) := by
  obtain ⟨hd, ns, h1, rfl, h3⟩ := h
  exact List.pairwise_map.2 h1.up
theorem Tw.num (h : Tw w b l F) : ∀ x ∈ l, -9223372036854775808 ≤ x.1 ∧ x.1 ≤ 9223372036854775807 := by
  obtain ⟨hd, ns, h1, rfl, h3⟩ := h
  intro x hx
  obtain ⟨y, hy, rfl⟩ := List.mem_map.1 hx
  exact h1.num y hy

theorem tw_new (w : World) : Calls Tryz.prog 40 #[] w fun en w' => ∃ b, en = .returned (.pointer (some ⟨b, 0, none⟩)) ∧ w.heap.size ≤ b ∧ Tw w' b [] (fun k => w.heap.size ≤ k) ∧ Below w.heap.size w w' :=
  (new_calls w).mono fun _ _ ⟨b, hd, e, h1, h2, h3⟩ => ⟨b, e, h2 b (.inl rfl), ⟨hd, [], h1, rfl, h2⟩, h3⟩

/-- A list parts at a bound. -/
theorem part (p : Int → Bool) (hp : ∀ x y : Int, x < y → p y = true → p x = true) : ∀ {ns : List N}, ns.Pairwise (fun x y => x.a < y.a) → ∃ A B, ns = A ++ B ∧ (∀ x ∈ A, p x.a = true) ∧ (∀ x ∈ B, p x.a = false)
  | [], _ => ⟨[], [], rfl, by simp, by simp⟩
  | x :: ns, h => by
    obtain ⟨h1, h2⟩ := List.pairwise_cons.1 h
    by_cases hx : p x.a = true
    · obtain ⟨A, B, e, hA, hB⟩ := part p hp h2
      refine ⟨x :: A, B, by rw [e]; rfl, fun y hy => ?_, hB⟩
      rcases List.mem_cons.1 hy with rfl | hy
      · exact hx
      · exact hA y hy
    · refine ⟨[], x :: ns, rfl, by simp, fun y hy => ?_⟩
      rcases List.mem_cons.1 hy with rfl | hy
      · simpa using hx
      · cases hpy : p y.a with
        | false => rfl
        | true => exact absurd (hp _ _ (h1 y hy) hpy) hx
theorem part_map {A B : List N} (p : Int → Bool) (hA : ∀ x ∈ A, p x.a = true) (hB : ∀ x ∈ B, p x.a = false) : ((A ++ B).map kv).filter (fun x => p x.1) = A.map kv := by
  rw [List.map_append, List.filter_append, List.filter_eq_self.2, List.filter_eq_nil_iff.2, List.append_nil]
  · intro x hx
    obtain ⟨y, hy, rfl⟩ := List.mem_map.1 hx
    have := hB y hy
    show ¬ p y.a = true
    rw [this]; simp
  · intro x hx
    obtain ⟨y, hy, rfl⟩ := List.mem_map.1 hx
    exact hA y hy

def TPut (w : World) (b : Nat) (l : List (Int × ByteArray)) (F : Nat → Prop) (a : Int) (v : ByteArray) (en : Ending) (w' : World) : Prop :=
  ∃ was, en = .returned (.bool was) ∧ (was = true ↔ ∃ x ∈ l, x.1 = a) ∧ Tw w' b (insK a v l) (fun k => F k ∨ w.heap.size ≤ k) ∧ Turn F w w'

theorem Tw.put_calls (h : Tw w b l F) {Bz : Nat} (hZ : Tz Bz w) (a : Int) (v : ByteArray) (hl : l.length ≤ 100000) (ha : -9223372036854775808 ≤ a ∧ a ≤ 9223372036854775807) :
    Calls Tryz.prog 41 #[.pointer (some ⟨b, 0, none⟩), .int .i64 a, Value.string v] w (TPut w b l F a v) := by
  obtain ⟨hd, ns, h1, rfl, h3⟩ := h
  obtain ⟨A, B, rfl, hA, hB⟩ := part (fun x => decide (x < a)) (fun x y hxy h => by simp at h ⊢; omega) h1.up
  rw [List.length_map] at hl
  refine (tws.put_calls Bz b hd A B a v w h1 hZ (fun x hx => of_decide_eq_true (hA x hx)) (fun x hx => by have := of_decide_eq_false (hB x hx); omega) hl ha).mono ?_
  rintro en w' ⟨ns', was, rfl, p⟩
  refine ⟨was, rfl, ?_, ⟨hd, ns', p.sk, p.kvs, fun k hk => (p.foot k hk).imp (h3 k) id⟩, p.turn.more (fun k _ hk => h3 k hk)⟩
  rw [p.was]
  constructor
  · rintro ⟨x, hx, e⟩; exact ⟨kv x, List.mem_map_of_mem hx, e⟩
  · rintro ⟨x, hx, e⟩
    obtain ⟨y, hy, rfl⟩ := List.mem_map.1 hx
    exact ⟨y, hy, e⟩

/-- What Floor answers. -/
def floorK (a : Int) (l : List (Int × ByteArray)) : Int × ByteArray × Bool := match (l.filter (fun x => decide (x.1 ≤ a))).getLast? with
  | none => (0, (⟨#[]⟩ : ByteArray), false)
  | some x => (x.1, x.2, true)

theorem Tw.floor_calls (h : Tw w b l F) (a : Int) (hl : l.length ≤ 100000) :
    Calls Tryz.prog 68 #[.pointer (some ⟨b, 0, none⟩), .int .i64 a] w fun en w' => en = .returned (.tuple #[.int .i64 (floorK a l).1, Value.string (floorK a l).2.1, .bool (floorK a l).2.2]) ∧ Below w.heap.size w w' := by
  obtain ⟨hd, ns, h1, rfl, h3⟩ := h
  obtain ⟨A, B, rfl, hA, hB⟩ := part (fun x => decide (x ≤ a)) (fun x y hxy h => by simp at h ⊢; omega) h1.up
  rw [List.length_map] at hl
  refine (tws.floor_calls b hd A B a w h1 (fun x hx => of_decide_eq_true (hA x hx)) (fun x hx => by have := of_decide_eq_false (hB x hx); omega) hl).mono ?_
  rintro en w' ⟨rfl, hb⟩
  refine ⟨?_, hb⟩
  have e := part_map (fun x => decide (x ≤ a)) hA hB
  unfold floorK floorV
  rw [e, List.getLast?_map]
  cases A.getLast? <;> rfl

/-- The versions on a level. -/
def levK (h : Nat) (l : List (Int × ByteArray)) : List Int := (l.filter (fun x => decide (h < hgt x.1))).map (·.1)
theorem Tw.level_calls (hT : Tw w b l F) (h : Nat) (hh : h < 10) (hl : l.length ≤ 100000) :
    Calls Tryz.prog 101 #[.pointer (some ⟨b, 0, none⟩), .int .i64 h] w (IntsPost w (levK h l)) := by
  obtain ⟨hd, ns, h1, rfl, h3⟩ := hT
  rw [List.length_map] at hl
  have e : levK h (ns.map kv) = lev h ns := by
    unfold levK lev
    rw [List.filter_map, List.map_map]
    have : ns.filter ((fun x : Int × ByteArray => decide (h < hgt x.1)) ∘ kv) = ns.filter (fun x => decide (h < x.k)) := List.filter_congr fun x hx => by
      show decide (h < hgt x.a) = _
      rw [h1.ks x hx]
    rw [this]
    rfl
  rw [e]
  exact tws.level_calls b hd ns h w h1 hh hl

/-- What is left of a list that is cut. -/
def cutK (a t : Int) (l : List (Int × ByteArray)) : List (Int × ByteArray) := l.filter (fun x => !(decide (a ≤ x.1) && decide (x.1 < t)))

def TCut (w : World) (b : Nat) (l : List (Int × ByteArray)) (F : Nat → Prop) (a t : Int) (en : Ending) (w' : World) : Prop :=
  en = .returned (.int .i64 ((l.length : Int) - (cutK a t l).length)) ∧ Tw w' b (cutK a t l) F ∧ Turn F w w'

theorem Tw.cut_calls (h : Tw w b l F) (a t : Int) (hl : l.length ≤ 100000) :
    Calls Tryz.prog 59 #[.pointer (some ⟨b, 0, none⟩), .int .i64 a, .int .i64 t] w (TCut w b l F a t) := by
  obtain ⟨hd, ns, h1, rfl, h3⟩ := h
  obtain ⟨A, B, rfl, hA, hB⟩ := part (fun x => decide (x < a)) (fun x y hxy h => by simp at h ⊢; omega) h1.up
  obtain ⟨M, C, rfl, hM, hC⟩ := part (fun x => decide (x < t)) (fun x y hxy h => by simp at h ⊢; omega) (List.pairwise_append.1 h1.up).2.1
  rw [List.length_map] at hl
  refine (tws.cut_calls b hd A M C a t w h1 (fun x hx => of_decide_eq_true (hA x hx)) (fun x hx => by have := of_decide_eq_false (hB x hx); omega) (fun x hx => of_decide_eq_true (hM x hx)) (fun x hx => by
    have hxc : x ∈ C := List.mem_of_mem_head? (by rw [hx]; rfl)
    have := of_decide_eq_false (hC x hxc); omega) hl).mono ?_
  rintro en w' ⟨rfl, k1, k2, k3⟩
  have e : cutK a t ((A ++ (M ++ C)).map kv) = (A ++ C).map kv := by
    unfold cutK
    rw [List.map_append, List.map_append, List.map_append, List.filter_append, List.filter_append, List.filter_eq_self.2, List.filter_eq_nil_iff.2, List.filter_eq_self.2, List.nil_append]
    · intro x hx
      obtain ⟨y, hy, rfl⟩ := List.mem_map.1 hx
      have h1 : decide (y.a < t) = false := hC y hy
      show (!(decide (a ≤ y.a) && decide (y.a < t))) = true
      rw [h1, Bool.and_false]; rfl
    · intro x hx
      obtain ⟨y, hy, rfl⟩ := List.mem_map.1 hx
      have h1 : decide (y.a < t) = true := hM y hy
      have h2 : decide (a ≤ y.a) = true := decide_eq_true (by have := of_decide_eq_false (hB y (by simp [hy])); omega)
      show ¬ (!(decide (a ≤ y.a) && decide (y.a < t))) = true
      rw [h1, h2]; simp
    · intro x hx
      obtain ⟨y, hy, rfl⟩ := List.mem_map.1 hx
      have h2 : decide (a ≤ y.a) = false := decide_eq_false (by have := of_decide_eq_true (hA y hy); omega)
      show (!(decide (a ≤ y.a) && decide (y.a < t))) = true
      rw [h2, Bool.false_and]; rfl
  refine ⟨?_, ⟨hd, A ++ C, k1, e.symm, fun k hk => h3 k (k3 k hk)⟩, k2.more (fun k _ hk => h3 k hk)⟩
  rw [e]
  congr 2
  simp only [List.length_map, List.length_append]
  omega
end

theorem mem_insK {a : Int} {v : ByteArray} : ∀ {l : List (Int × ByteArray)}, l.Pairwise (fun x y => x.1 < y.1) → ∀ x, x ∈ insK a v l ↔ x = (a, v) ∨ (x ∈ l ∧ x.1 ≠ a)
  | [], _, x => by simp [insK]
  | y :: l, h, x => by
    obtain ⟨h1, h2⟩ := List.pairwise_cons.1 h
    rw [insK_cons]
    by_cases c1 : y.1 < a
    · rw [if_pos c1, List.mem_cons, mem_insK h2 x, List.mem_cons]
      constructor
      · rintro (rfl | h | ⟨h, k⟩)
        · exact .inr ⟨.inl rfl, by omega⟩
        · exact .inl h
        · exact .inr ⟨.inr h, k⟩
      · rintro (h | ⟨h | h, k⟩)
        · exact .inr (.inl h)
        · exact .inl h
        · exact .inr (.inr ⟨h, k⟩)
    · rw [if_neg c1]
      by_cases c2 : y.1 = a
      · rw [if_pos c2, List.mem_cons, List.mem_cons]
        constructor
        · rintro (h | h)
          · exact .inl h
          · exact .inr ⟨.inr h, by have := h1 x h; omega⟩
        · rintro (h | ⟨h | h, k⟩)
          · exact .inl h
          · rw [h] at k; exact absurd c2 k
          · exact .inr h
      · rw [if_neg c2, List.mem_cons, List.mem_cons]
        constructor
        · rintro (h | h | h)
          · exact .inl h
          · rw [h]; exact .inr ⟨.inl rfl, c2⟩
          · exact .inr ⟨.inr h, by have := h1 x h; omega⟩
        · rintro (h | ⟨h, _⟩)
          · exact .inl h
          · exact .inr h
theorem length_insK (a : Int) (v : ByteArray) : ∀ l : List (Int × ByteArray), (insK a v l).length ≤ l.length + 1
  | [] => by simp [insK]
  | y :: l => by
    rw [insK_cons]
    have := length_insK a v l
    split
    · simp only [List.length_cons]; omega
    · split <;> simp only [List.length_cons] <;> omega

end Go.Proofs.YtcdedkgkingbdaaGreatDoor.tws
end

section
/- tree: row.first; Clone. -/
namespace Go.Proofs.YtcdedkgkingbdaaGreatDoor.dig
open Go Go.RowKit

/-- A row was answered, in new memory: of the first x. -/
def FirstPost (w : World) (g x : Nat) (f : Nat → List UInt8) (j : Nat) (en : Ending) (w' : World) : Prop :=
  ∃ y, en = .returned (.agg #[.int .i64 g, y, .int .i64 0]) ∧ Seg w' 84 32 y (x - g) (flat (nodeC f j) g (x - g)) ∧ (∀ b, y.ownBlock = some b → w.heap.size ≤ b) ∧ Below w.heap.size w w'

set_option maxRecDepth 100000 in
set_option maxHeartbeats 2000000 in
theorem first_calls (R o j g c x : Nat) (v : Value) (f : Nat → List UInt8) (w : World) (k0 : w.cell? ⟨R, o, none⟩ = some (.int .i64 g)) (k1 : w.cell? ⟨R, o + 1, none⟩ = some v) (hR : R < w.heap.size)
    (hs : Seg w 84 32 v (c - g) (flat (nodeC f j) g (c - g))) (hg : g ≤ x) (hx : x ≤ c) (hc : c ≤ 1000000) (hlen : ∀ i, (f i).length = 32) :
    Calls Tryz.prog 151 #[.pointer (some ⟨R, o, none⟩), .int .i64 x] w (FirstPost w g x f j) := by
  obtain ⟨a, cc, hv, hc1, hc2⟩ := hs.slice
  subst hv
  have hfr : Seg w 84 32 (.slice a (x - g) cc) (x - g) (flat (nodeC f j) g (x - g)) := by
    rcases hs.2 with ⟨h1, h2⟩ | ⟨gg, off, cap, cur, h1, h2, h3, h4, h5, h6⟩
    · simp only [Value.slice.injEq] at h1
      obtain ⟨rfl, h3, rfl⟩ := h1
      rw [show x - g = 0 by omega]
      exact Seg.nil _ _ _
    · simp only [Value.slice.injEq] at h1
      obtain ⟨rfl, _, rfl⟩ := h1
      refine ⟨flat_len (fun i _ _ => nodeC_len hlen j i), .inr ⟨gg, off, cc, cur, rfl, h2, by omega, h4, h5, ?_⟩⟩
      rw [← flat_take (k := c - g) (fun i _ _ => nodeC_len hlen j i) (show x - g ≤ c - g by omega), ← h6, List.take_take]
      congr 1
      have : (x - g) * 32 ≤ (c - g) * 32 := Nat.mul_le_mul_right _ (by omega)
      omega
  obtain ⟨d, hd⟩ : ∃ d, d = x - g := ⟨_, rfl⟩
  obtain ⟨m, hm⟩ : ∃ m, m = c - g := ⟨_, rfl⟩
  have hd1 : (x : Int) - (g : Int) = (d : Int) := by omega
  have hdm : (d : Int) ≤ (m : Int) := by omega
  have hd0 : (0 : Int) ≤ (d : Int) := by omega
  have hm6 : m ≤ 1000000 := by omega
  have hd6 : (d : Int) ≤ 1000000 := by omega
  have i0 : IntKind.i64.wrap (d : Int) = (d : Int) := IntWalk.i64_in _ ⟨by omega, by omega⟩
  have hmc : (m : Int) ≤ (cc : Int) := by omega
  have hcc6 : (cc : Int) ≤ 9223372036854775807 := by unfold maxLen at hc2; omega
  have hdc : (d : Int) ≤ (cc : Int) := by omega
  unfold FirstPost
  rw [← hd] at hfr ⊢
  rw [← hm] at k1
  have HS := Lib.hid hfr
  have HD := Lib.hid (show _ ∧ _ from ⟨hd, hm⟩)
  clear hs hfr hd hm hc1 hc2 hg hx
  go_enter Tryz.func151, Tryz.ntmps151
  go_wp2_with fail
  go_name_world W hW
  have B0 : Below w.heap.size w W := by rw [← hW]; exact (Below.refl _ _).alloc (Nat.le_refl _) _
  have Z0 : Has W w.heap.size 218 #[.int .i64 0, .slice none 0 0, .int .i64 0] := by rw [← hW]; exact made_at _ _ rfl
  have hs0 : W.heap.size = w.heap.size + 1 := by rw [← hW]; simp
  have d0 : W.cell? ⟨R, o, none⟩ = some (.int .i64 g) := by rw [← k0]; unfold World.cell?; rw [B0.block R hR]
  have d1 : W.cell? ⟨R, o + 1, none⟩ = some (.slice a m cc) := by rw [← k1]; unfold World.cell?; rw [B0.block R hR]
  have hc5 := copied_calls (.slice a d cc) d _ W.drew ((HS.out.below B0 (fun x hx => HS.out.lt hx)).drew) sum_one (by omega)
  have HC := Lib.hid hc5
  have HB := Lib.hid (show _ ∧ _ from ⟨B0, Z0⟩)
  have hRW : R < W.heap.size := by omega
  clear hW k0 k1 hc5 B0 Z0
  go_region_law (refine step_call rfl 174 Tryz.f174 Tryz.func174 (by kernel_rfl) (by kernel_rfl) _ _ rfl #[.slice a d cc] (by first | (simp [Act.eval]; done) | (simp [Act.eval, Act.put]; done)) (by exact HC.out) ?_
                 rintro en w5 ⟨y, rfl, s5, o5, b5⟩
                 obtain ⟨ya, yc, rfl, _, _⟩ := s5.slice
                 have k5 : w5.cell? ⟨R, o, none⟩ = some (.int .i64 g) := by rw [← d0]; unfold World.cell?; rw [b5.block R hRW]; rfl
                 have Z5 : Has w5 w.heap.size 218 #[.int .i64 0, .slice none 0 0, .int .i64 0] := (HB.out.2.drew).below b5 (by show w.heap.size < W.heap.size; omega)
                 have z0 := Z5.cell 0
                 have z1 := Z5.cell 1
                 have z2 := Z5.cell 2
                 have zf := Z5.free
                 simp at z0 z1 z2
                 have S5 := Lib.hid (show _ ∧ _ ∧ _ ∧ _ from ⟨s5, o5, b5, Z5⟩)
                 clear s5 o5 b5 Z5
                 refine ⟨_, rfl, ?_⟩)
  all_goals
    have T0 : Turn (fun k => w.heap.size ≤ k) w w5 := (Turn.of_below (F := fun k => w.heap.size ≤ k) HB.out.1 (fun _ _ h => h)).drew.trans (Turn.of_below (F := fun k => W.heap.size ≤ k) S5.out.2.2.1 (fun _ _ h => h)) (fun k h1 h2 => by omega)
    have T7 := ((T0.put (b := w.heap.size) (fun _ => Nat.le_refl _) 0 (.int .i64 g)).put (b := w.heap.size) (fun _ => Nat.le_refl _) 1 (.slice ya d yc)).put (b := w.heap.size) (fun _ => Nat.le_refl _) 2 (.int .i64 0)
    have hown : ∀ x, (Value.slice ya d yc).ownBlock = some x → W.heap.size ≤ x := fun x hx => S5.out.2.1 x hx
    have hne : (Value.slice ya d yc).ownBlock ≠ some w.heap.size := fun e => by have := hown _ e; omega
    have s7 := Seg.far (Seg.far (Seg.far S5.out.1 (p := ⟨w.heap.size, 0, none⟩) hne (.int .i64 g)) (p := ⟨w.heap.size, 1, none⟩) hne (.slice ya d yc)) (p := ⟨w.heap.size, 2, none⟩) hne (.int .i64 0)
    have Z7 : Has _ w.heap.size 218 #[.int .i64 g, .slice ya d yc, .int .i64 0] := ((S5.out.2.2.2.put 0 (.int .i64 g)).put 1 (.slice ya d yc)).put 2 (.int .i64 0)
    have N := Lib.hid (show _ ∧ _ ∧ _ from ⟨s7, T7, Z7⟩)
    generalize ((w5.setCell ⟨w.heap.size, 0, none⟩ (.int .i64 g)).setCell ⟨w.heap.size, 1, none⟩ (.slice ya d yc)).setCell ⟨w.heap.size, 2, none⟩ (.int .i64 0) = W7 at N ⊢
    clear T0 T7 s7 Z7 z0 z1 z2 zf k5 hne d0 d1 hs0
    have y0 := N.out.2.2.cell 0
    have y1 := N.out.2.2.cell 1
    have y2 := N.out.2.2.cell 2
    simp at y0 y1 y2
    go_wp2_with fail
    refine bodyPost_ret (v := .agg #[.int .i64 g, .slice ya d yc, .int .i64 0]) (by simp [results, Tryz.results151, go_sem, y0, y1, y2]) rfl ?_
    exact ⟨_, rfl, N.out.1, fun x hx => Nat.le_trans HB.out.1.size (hown x hx), N.out.2.1.below (Nat.le_refl _) (fun k hk h => by omega)⟩
end Go.Proofs.YtcdedkgkingbdaaGreatDoor.dig
end

