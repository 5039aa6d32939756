/- tower over string: Put. -/
import Derived.Test.YtcdedkgkingbdaaGreatDoorQ035
import Derived.Test.YtcdedkgkingbdaaGreatDoorQ010
import Derived.BigQuiet
namespace Go.Proofs.YtcdedkgkingbdaaGreatDoor.tws
open Go Go.RowKit Go.Proofs.YtcdedkgkingbdaaGreatDoor.tow

theorem calls_let {P : Program} {f : FuncId} {args : Array Value} {w : World} {Q : Ending → World → Prop} (h : ∀ W, w = W → Calls P f args W Q) : Calls P f args w Q := h w rfl

theorem arr_ptr : (184 : Nat) ≠ 178 := by decide

/-- What stands while a version is put: the list, where each level ends, what is asked. -/
structure Pu (w : World) (b : Nat) (hd : N) (A B : List N) (p e : Nat) (a : Int) (G : Nat → Nat) (W : World) : Prop where
  sk : Sk W b hd (A ++ B)
  bel : Below w.heap.size w W
  arr : Has W e 184 (endsC G 0)
  box : Has W p 3 #[.int .i64 a]
  new : w.heap.size ≤ p ∧ w.heap.size ≤ e
  ends : Ends (hd :: A) G 0
theorem Pu.drewN {w W : World} {b : Nat} {hd : N} {A B : List N} {p e : Nat} {a : Int} {G : Nat → Nat} (h : Pu w b hd A B p e a G W) (n : Nat) : Pu w b hd A B p e a G (W.drewN n) := ⟨h.sk.drewN n, below_drewN h.bel n, h.arr, h.box, h.new, h.ends⟩
theorem Pu.drew {w W : World} {b : Nat} {hd : N} {A B : List N} {p e : Nat} {a : Int} {G : Nat → Nat} (h : Pu w b hd A B p e a G W) : Pu w b hd A B p e a G W.drew := ⟨h.sk.drew, h.bel.drew, h.arr, h.box, h.new, h.ends⟩

theorem endsC_at (G : Nat → Nat) {h : Nat} (hh : h < 10) : (endsC G 0)[h]? = some (.pointer (some ⟨G h, 0, none⟩)) := by simp [endsC, hh, ptrV]

/-- Where the lowest level ends: what is behind that. -/
theorem Pu.last {w W : World} {b : Nat} {hd : N} {A B : List N} {p e : Nat} {a : Int} {G : Nat → Nat} (h : Pu w b hd A B p e a G W) :
    ∃ c : N, (∃ X, hd :: A = X ++ [c]) ∧ c.g = G 0 ∧ W.cell? ⟨e, 0, none⟩ = some (.pointer (some ⟨c.g, 0, none⟩)) ∧ Has W c.g 181 #[.int .i64 c.a, .string c.v, .slice (some ⟨c.r, 0, none⟩) c.k c.k] ∧ 0 < c.k ∧ c.k ≤ 10 ∧ W.cell? ⟨c.r, 0, none⟩ = some (ptrV (B.head?.map (·.g))) := by
  obtain ⟨c, ⟨X, Y, eX, hc, hY⟩, hg⟩ := h.ends 0 (Nat.le_refl _) (by decide)
  have hYn : Y = [] := by
    cases Y with
    | nil => rfl
    | cons y Y =>
      exfalso
      have h1 := hY y (by simp)
      have h2 : y ∈ A := by
        cases X with
        | nil => rw [List.nil_append, List.cons.injEq] at eX; rw [eX.2]; simp
        | cons x X => rw [List.cons_append, List.cons.injEq] at eX; rw [eX.2]; simp
      have := h.sk.kpos y (by simp [h2])
      omega
  subst hYn
  obtain ⟨m1, m2⟩ := h.sk.at_ eX
  refine ⟨c, ⟨X, eX⟩, hg, ?_, m1, hc, h.sk.kle c ?_, ?_⟩
  · rw [h.arr.cell, endsC_at G (by decide), hg]
  · have : c ∈ hd :: A := by rw [eX]; simp
    simp only [List.mem_cons, List.mem_append] at this ⊢
    rcases this with h | h
    · exact .inl h
    · exact .inr (.inl h)
  · rw [m2.cell, rowT_at hc, List.append_nil, List.nil_append, nx_zero (fun x hx => h.sk.kpos x (by simp [hx]))]

def kv (x : N) : Int × ByteArray := (x.a, x.v)
/-- What is kept of a version is put into the list. -/
def insK (a : Int) (v : ByteArray) : List (Int × ByteArray) → List (Int × ByteArray)
  | [] => [(a, v)]
  | x :: l => if x.1 < a then x :: insK a v l else if x.1 = a then (a, v) :: l else (a, v) :: x :: l
theorem insK_cons (a : Int) (v : ByteArray) (x : Int × ByteArray) (l : List (Int × ByteArray)) : insK a v (x :: l) = if x.1 < a then x :: insK a v l else if x.1 = a then (a, v) :: l else (a, v) :: x :: l := rfl
theorem insK_low {a : Int} {v : ByteArray} {A : List N} (hA : ∀ x ∈ A, x.a < a) (l : List (Int × ByteArray)) : insK a v (A.map kv ++ l) = A.map kv ++ insK a v l := by
  induction A with
  | nil => rfl
  | cons x A ih =>
    have h1 : (kv x).1 < a := hA x (by simp)
    rw [List.map_cons, List.cons_append, insK_cons, if_pos h1, ih (fun y hy => hA y (by simp [hy])), List.cons_append]

structure PutPost (w : World) (b : Nat) (hd : N) (ns : List N) (a : Int) (v : ByteArray) (ns' : List N) (was : Bool) (w' : World) : Prop where
  sk : Sk w' b hd ns'
  kvs : ns'.map kv = insK a v (ns.map kv)
  was : was = true ↔ ∃ x ∈ ns, x.a = a
  turn : Turn (Foot b hd ns) w w'
  foot : ∀ k, Foot b hd ns' k → Foot b hd ns k ∨ w.heap.size ≤ k

def PutRes (w : World) (b : Nat) (hd : N) (ns : List N) (a : Int) (v : ByteArray) (en : Ending) (w' : World) : Prop := ∃ ns' was, en = .returned (.bool was) ∧ PutPost w b hd ns a v ns' was w'

/-- While the new one is laid into the levels below h0. -/
structure Ins (w : World) (b : Nat) (hd : N) (A B : List N) (e : Nat) (nd : N) (G : Nat → Nat) (h0 : Nat) (W : World) : Prop where
  lay : Lay W 181 178 Value.string (fun i => if i < h0 then nd :: B else B) (hd :: A)
  layB : Lay W 181 178 Value.string (fun _ => []) B
  list : Has W b 183 #[.pointer (some ⟨hd.g, 0, none⟩), .int .i64 (A ++ B).length]
  node : Has W nd.g 181 #[.int .i64 nd.a, .string nd.v, .slice (some ⟨nd.r, 0, none⟩) nd.k nd.k]
  row : Has W nd.r 178 (rowT nd.k ([] : List N) (fun i => if i < h0 then B else []))
  arr : Has W e 184 (endsC G 0)
  turn : Turn (Foot b hd (A ++ B)) w W
  new : w.heap.size ≤ nd.g ∧ w.heap.size ≤ nd.r

section
variable {w W : World} {b e h0 : Nat} {hd nd : N} {A B : List N} {G : Nat → Nat}

theorem Ins.drew (h : Ins w b hd A B e nd G h0 W) : Ins w b hd A B e nd G h0 W.drew :=
  ⟨h.lay.turn (F := fun _ => False) ((Turn.refl _ _).drew) (fun _ _ => ⟨id, id⟩), h.layB.turn (F := fun _ => False) ((Turn.refl _ _).drew) (fun _ _ => ⟨id, id⟩), h.list, h.node, h.row, h.arr, h.turn.drew, h.new⟩

/-- What the level's step reads, and what it makes. -/
theorem Ins.step (h : Ins w b hd A B e nd G h0 W) (hS : Sk w b hd (A ++ B)) (hE : Ends (hd :: A) G 0) (hk : h0 < nd.k) (hk10 : nd.k ≤ 10) :
    ∃ c : N, W.cell? ⟨e, h0, none⟩ = some (.pointer (some ⟨c.g, 0, none⟩)) ∧ W.cell? ⟨c.g, 2, none⟩ = some (.slice (some ⟨c.r, 0, none⟩) c.k c.k) ∧ h0 < c.k ∧ c.k ≤ 10 ∧
      W.cell? ⟨c.r, h0, none⟩ = some (ptrV (nx h0 B)) ∧ W.frozen? ⟨c.r, h0, none⟩ = false ∧ c.r ≠ nd.r ∧
      Ins w b hd A B e nd G (h0 + 1) ((W.setCell ⟨nd.r, h0, none⟩ (ptrV (nx h0 B))).setCell ⟨c.r, h0, none⟩ (.pointer (some ⟨nd.g, 0, none⟩))) := by
  obtain ⟨c, hO, hg⟩ := hE h0 (Nat.zero_le _) (by omega)
  have hO2 := hO
  obtain ⟨X, Y, eX, hc, hY⟩ := hO
  have hl := h.lay
  rw [eX] at hl
  obtain ⟨m1, m2⟩ := hl.at_
  have hcm : c ∈ hd :: A := by rw [eX]; simp
  have hcm2 : c ∈ hd :: (A ++ B) := by
    simp only [List.mem_cons, List.mem_append] at hcm ⊢
    rcases hcm with h | h
    · exact .inl h
    · exact .inr (.inl h)
  have hcr : c.r < w.heap.size := (hS.lay.mem hcm2).2
  have hne : c.r ≠ nd.r := by have := h.new.2; omega
  have hrs : ((hd :: A).map (·.r)).Nodup := by
    have := hS.rs
    rw [← List.cons_append, List.map_append] at this
    exact (List.nodup_append.1 this).1
  have hrB : ∀ x ∈ B, x.r ≠ c.r := by
    have := hS.rs
    rw [← List.cons_append, List.map_append] at this
    intro x hx e
    exact (List.nodup_append.1 this).2.2 c.r (List.mem_map_of_mem hcm) x.r (List.mem_map_of_mem hx) e.symm
  have hold : ∀ x ∈ hd :: (A ++ B), x.g < w.heap.size ∧ x.r < w.heap.size := fun x hx => hS.lay.mem hx
  have inA : ∀ x ∈ hd :: A, x ∈ hd :: (A ++ B) := fun x hx => by
    simp only [List.mem_cons, List.mem_append] at hx ⊢
    rcases hx with h | h
    · exact .inl h
    · exact .inr (.inl h)
  refine ⟨c, ?_, m1.cell 2, hc, hS.kle c hcm2, ?_, m2.free h0, hne, ?_⟩
  · rw [h.arr.cell, endsC_at G (by omega), hg]
  · rw [m2.cell, rowT_at hc, nx_low hY, if_neg (Nat.lt_irrefl _)]
  · have hb1 : ∀ (u : Value) (i : Nat) (b2 : Nat) (t : TypeId) (cs : Array Value), b2 ≠ nd.r → Has W b2 t cs → Has (W.setCell ⟨nd.r, i, none⟩ u) b2 t cs := fun u i b2 t cs hne h => h.far hne u
    have l1 : Lay (W.setCell ⟨nd.r, h0, none⟩ (ptrV (nx h0 B))) 181 178 Value.string (fun i => if i < h0 then nd :: B else B) (hd :: A) :=
      h.lay.far (fun x hx => by have := hold x (inA x hx); have := h.new.2; constructor <;> (show _ ≠ nd.r; omega)) _
    have l2 : Lay (W.setCell ⟨nd.r, h0, none⟩ (ptrV (nx h0 B))) 181 178 Value.string (fun _ => []) B :=
      h.layB.far (fun x hx => by have := hold x (by simp [hx]); have := h.new.2; constructor <;> (show _ ≠ nd.r; omega)) _
    have hb : b < w.heap.size := hS.list.lt
    have l3 := l1.set (T' := fun i => if i < h0 + 1 then nd :: B else B) hO2 node_ptr.1 hrs (fun i hi => by
      by_cases h1 : i < h0
      · simp only [h1, if_true, show i < h0 + 1 by omega]
      · simp only [h1, if_false, show ¬ i < h0 + 1 by omega])
    have ev : ptrV (nx h0 (if h0 < h0 + 1 then nd :: B else B)) = .pointer (some ⟨nd.g, 0, none⟩) := by rw [if_pos (Nat.lt_succ_self _), nx_hit hk]; rfl
    rw [show ptrV (nx h0 ((fun i => if i < h0 + 1 then nd :: B else B) h0)) = _ from ev] at l3
    have hcb : b ≠ c.r := fun e => by
      have := (hS.lay.at_ (X := []) (c := hd)).1
      have h2 := hS.list
      obtain ⟨cs, _, m⟩ := hS.node hcm2
      rw [e] at h2
      exact node_ptr.2.2 (h2.uniq m).2
    refine ⟨l3, ?_, ?_, ?_, ?_, ?_, ?_, h.new⟩
    · exact l2.far (fun x hx => ⟨by
        obtain ⟨cs, n1, n2⟩ := hS.node (x := x) (by simp [hx])
        obtain ⟨cs2, _, m⟩ := hS.node hcm2
        intro e
        have e : x.g = c.r := e
        rw [e] at n1
        exact node_ptr.1 (n1.uniq m).2, hrB x hx⟩) _
    · exact (h.list.far (by show b ≠ nd.r; have := h.new.2; omega) _).far hcb _
    · refine (h.node.far ?_ _).far (by show nd.g ≠ c.r; have := h.new.1; omega) _
      intro e
      have n1 := h.node
      have e : nd.g = nd.r := e
      rw [e] at n1
      exact node_ptr.1 (n1.uniq h.row).2
    · have r1 := h.row.put h0 (ptrV (nx h0 B))
      rw [rowT_set (T' := fun i => if i < h0 + 1 then B else []) [] [] _ (fun i hi hne => by
        by_cases h1 : i < h0
        · simp only [h1, if_true, show i < h0 + 1 by omega]
        · simp only [h1, if_false, show ¬ i < h0 + 1 by omega]) _ (fun _ => by rw [List.nil_append, if_pos (Nat.lt_succ_self _)])] at r1
      exact r1.far (fun e => hne e.symm) _
    · refine (h.arr.far ?_ _).far ?_ _
      · intro e2
        have e2 : e = nd.r := e2
        have n1 := h.arr
        rw [e2] at n1
        exact arr_ptr (n1.uniq h.row).2
      · intro e2
        have e2 : e = c.r := e2
        have n1 := h.arr
        rw [e2] at n1
        exact arr_ptr (n1.uniq m2).2
    · exact (h.turn.put (fun hh => by have := h.new.2; omega) _ _).put (fun _ => .inr ⟨c, hcm2, .inr rfl⟩) _ _
end

theorem Pu.more {w W W' : World} {b p e : Nat} {hd : N} {A B : List N} {a : Int} {G : Nat → Nat} (h : Pu w b hd A B p e a G W) (bb : Below W.heap.size W W') : Pu w b hd A B p e a G W' :=
  ⟨h.sk.below bb, h.bel.trans (bb.mono h.bel.size), h.arr.below bb h.arr.lt, h.box.below bb h.box.lt, h.new, h.ends⟩

/-- At first the new one is in no level. -/
theorem Pu.ins {w W W4 : World} {b p e : Nat} {hd : N} {A B : List N} {a : Int} {G : Nat → Nat} (h : Pu w b hd A B p e a G W) (v : ByteArray) (K : Nat)
    (hW : W4 = ((W.alloc (.cells (rowT K ([] : List N) (fun _ => [])) 178)).alloc (.cells #[.int .i64 a, Value.string v, .slice (some ⟨W.heap.size, 0, none⟩) K K] 181)).drew) :
    Ins w b hd A B e ⟨a, v, K, W.heap.size + 1, W.heap.size⟩ G 0 W4 := by
  have b1 : Below W.heap.size W W4 := by rw [hW]; exact (((Below.refl _ _).alloc (Nat.le_refl _) _).alloc (by simp) _).drew
  have hs := h.sk.below b1
  have hl := (Lay.append (T := fun _ => ([] : List N)) (A := hd :: A) (B := B)).1 hs.lay
  refine ⟨hl.1.congr (fun i => by simp), hl.2, hs.list, ?_, ?_, h.arr.below b1 h.arr.lt, ?_, ?_⟩
  · rw [hW]; exact made_at _ _ (by simp)
  · rw [hW]; exact (made_at _ _ rfl).alloc _
  · exact Turn.of_below (F := Foot b hd (A ++ B)) (h.bel.trans (b1.mono h.bel.size)) (fun j hj e => by omega)
  · have := h.bel.size; exact ⟨by show _ ≤ W.heap.size + 1; omega, this⟩

/-- The version was there. -/
theorem put_there {w W : World} {b : Nat} {hd y : N} {A B : List N} {a : Int} (v : ByteArray) (hS : Sk W b hd (A ++ y :: B)) (hA : ∀ x ∈ A, x.a < a) (hy : y.a = a) (hb : Below w.heap.size w W) (h0 : Sk w b hd (A ++ y :: B)) :
    PutPost w b hd (A ++ y :: B) a v (A ++ { y with v := v } :: B) true (W.setCell ⟨y.g, 1, none⟩ (Value.string v)) := by
  have e1 : ∀ (f : N → Nat), (∀ y v, f { y with v := v } = f y) → (hd :: (A ++ { y with v := v } :: B)).map f = (hd :: (A ++ y :: B)).map f := fun f hf => by simp [hf y v]
  have hl : Lay (W.setCell ⟨y.g, 1, none⟩ (Value.string v)) 181 178 Value.string (fun _ => []) ((hd :: A) ++ { y with v := v } :: B) := Lay.value (X := hd :: A) hS.lay node_ptr.1 hS.gs v
  have hmem : ∀ x ∈ A ++ { y with v := v } :: B, ∃ z ∈ A ++ y :: B, x.a = z.a ∧ x.k = z.k ∧ x.g = z.g ∧ x.r = z.r := fun x hx => by
    rcases List.mem_append.1 hx with hx | hx
    · exact ⟨x, by simp [hx], rfl, rfl, rfl, rfl⟩
    · rcases List.mem_cons.1 hx with rfl | hx
      · exact ⟨y, by simp, rfl, rfl, rfl, rfl⟩
      · exact ⟨x, by simp [hx], rfl, rfl, rfl, rfl⟩
  refine ⟨⟨?_, hl, ?_, ?_, hS.hk, hS.h0, ?_, ?_, ?_⟩, ?_, ?_, ?_, ?_⟩
  · have := hS.list.far (p := ⟨y.g, 1, none⟩) (fun e => by
      obtain ⟨cs, n1, n2⟩ := hS.node (x := y) (by simp)
      have h2 := hS.list
      rw [show b = y.g from e] at h2
      exact node_ptr.2.1 (h2.uniq n1).2) (Value.string v)
    simpa using this
  · rw [e1 (·.r) (fun _ _ => rfl)]; exact hS.rs
  · rw [e1 (·.g) (fun _ _ => rfl)]; exact hS.gs
  · intro x hx
    obtain ⟨z, hz, e1, e2, _⟩ := hmem x hx
    rw [e1, e2]; exact hS.ks z hz
  · have := hS.up
    rw [List.pairwise_append, List.pairwise_cons] at this ⊢
    refine ⟨this.1, ⟨this.2.1.1, this.2.1.2⟩, fun x hx z hz => ?_⟩
    rcases List.mem_cons.1 hz with rfl | hz
    · exact this.2.2 x hx y (by simp)
    · exact this.2.2 x hx z (by simp [hz])
  · intro x hx
    obtain ⟨z, hz, e1, _⟩ := hmem x hx
    rw [e1]; exact hS.num z hz
  · rw [List.map_append, List.map_append, insK_low hA, List.map_cons, List.map_cons, insK_cons]
    rw [if_neg (by show ¬ y.a < a; omega), if_pos (by exact hy)]
    congr 2
    show (y.a, v) = (a, v)
    rw [hy]
  · exact ⟨fun _ => ⟨y, by simp, hy⟩, fun _ => rfl⟩
  · exact (Turn.of_below (F := Foot b hd (A ++ y :: B)) hb (fun j hj e => by omega)).put (fun _ => .inr ⟨y, by simp, .inl rfl⟩) _ _
  · intro k hk
    refine .inl ?_
    rcases hk with rfl | ⟨x, hx, hk⟩
    · exact .inl rfl
    · rcases List.mem_cons.1 hx with rfl | hx
      · exact .inr ⟨x, by simp, hk⟩
      · obtain ⟨z, hz, _, _, e3, e4⟩ := hmem x hx
        exact .inr ⟨z, by simp [hz], by rw [← e3, ← e4]; exact hk⟩

/-- The new one is laid in on all levels. -/
theorem put_new {w W : World} {b e : Nat} {hd nd : N} {A B : List N} {G : Nat → Nat} (hI : Ins w b hd A B e nd G nd.k W) (hS : Sk w b hd (A ++ B)) (hA : ∀ x ∈ A, x.a < nd.a) (hB : ∀ x ∈ B, nd.a < x.a) (hk : nd.k = hgt nd.a) (hn : -9223372036854775808 ≤ nd.a ∧ nd.a ≤ 9223372036854775807) :
    PutPost w b hd (A ++ B) nd.a nd.v (A ++ nd :: B) false (W.setCell ⟨b, 1, none⟩ (.int .i64 ((A ++ B).length + 1))) := by
  have hl1 : Lay W 181 178 Value.string (fun _ => nd :: B) (hd :: A) := hI.lay.congr (fun i => by
    by_cases h1 : i < nd.k
    · simp only [h1, if_true]
    · simp only [h1, if_false]; rw [nx_miss h1])
  have hrow : Has W nd.r 178 (rowT nd.k B (fun _ => [])) := by
    have := hI.row
    rw [rowT_congr (l' := B) (T' := fun _ => []) (fun i hi => by simp only [hi, if_true, List.nil_append, List.append_nil])] at this
    exact this
  have hl2 : Lay W 181 178 Value.string (fun _ => []) (hd :: (A ++ nd :: B)) := by
    have := (Lay.append (T := fun _ => ([] : List N)) (A := hd :: A) (B := nd :: B)).2 ⟨by simpa using hl1, hI.node, hrow, hI.layB⟩
    exact this
  have hold : ∀ x ∈ hd :: (A ++ B), x.g < w.heap.size ∧ x.r < w.heap.size := fun x hx => hS.lay.mem hx
  have perm : ∀ (f : N → Nat), ((hd :: (A ++ nd :: B)).map f).Perm (f nd :: (hd :: (A ++ B)).map f) := fun f => by
    have : (hd :: (A ++ nd :: B)).Perm (nd :: hd :: (A ++ B)) := (List.perm_middle.cons hd).trans (List.Perm.swap _ _ _)
    simpa using this.map f
  have hb : b < w.heap.size := hS.list.lt
  refine ⟨⟨?_, ?_, ?_, ?_, hS.hk, hS.h0, ?_, ?_, ?_⟩, ?_, ?_, ?_, ?_⟩
  · have := hI.list.put 1 (.int .i64 ((A ++ B).length + 1))
    have e : (((A ++ nd :: B).length : Nat) : Int) = ((A ++ B).length : Nat) + 1 := by simp; omega
    rw [e]
    simpa using this
  · exact hl2.far (fun x hx => ⟨hl2.not_g hI.list node_ptr.2.1 x hx, hl2.not_r hI.list node_ptr.2.2 x hx⟩) _
  · rw [(perm (·.r)).nodup_iff, List.nodup_cons]
    refine ⟨fun hm => ?_, hS.rs⟩
    obtain ⟨x, hx, e⟩ := List.mem_map.1 hm
    have := (hold x hx).2
    have := hI.new.2
    have e : x.r = nd.r := e
    omega
  · rw [(perm (·.g)).nodup_iff, List.nodup_cons]
    refine ⟨fun hm => ?_, hS.gs⟩
    obtain ⟨x, hx, e⟩ := List.mem_map.1 hm
    have := (hold x hx).1
    have := hI.new.1
    have e : x.g = nd.g := e
    omega
  · intro x hx
    rcases List.mem_append.1 hx with hx | hx
    · exact hS.ks x (by simp [hx])
    · rcases List.mem_cons.1 hx with rfl | hx
      · exact hk
      · exact hS.ks x (by simp [hx])
  · have := hS.up
    rw [List.pairwise_append] at this ⊢
    refine ⟨this.1, List.pairwise_cons.2 ⟨hB, this.2.1⟩, fun x hx z hz => ?_⟩
    rcases List.mem_cons.1 hz with rfl | hz
    · exact hA x hx
    · exact this.2.2 x hx z hz
  · intro x hx
    rcases List.mem_append.1 hx with hx | hx
    · exact hS.num x (by simp [hx])
    · rcases List.mem_cons.1 hx with rfl | hx
      · exact hn
      · exact hS.num x (by simp [hx])
  · rw [List.map_append, List.map_append, insK_low hA, List.map_cons]
    cases B with
    | nil => rfl
    | cons y B =>
      have := hB y (by simp)
      rw [List.map_cons, insK_cons, if_neg (by show ¬ y.a < nd.a; omega), if_neg (by show ¬ y.a = nd.a; omega)]
      rfl
  · constructor
    · intro e; cases e
    · rintro ⟨x, hx, e⟩
      exfalso
      rcases List.mem_append.1 hx with hx | hx
      · have := hA x hx; omega
      · have := hB x hx; omega
  · exact hI.turn.put (fun _ => .inl rfl) _ _
  · intro k hf
    rcases hf with e | ⟨x, hx, hf⟩
    · exact .inl (.inl e)
    · rcases List.mem_cons.1 hx with e | hx
      · exact .inl (.inr ⟨x, by simp [e], hf⟩)
      · rcases List.mem_append.1 hx with hx | hx
        · exact .inl (.inr ⟨x, by simp [hx], hf⟩)
        · rcases List.mem_cons.1 hx with e | hx
          · have := hI.new
            right
            rw [e] at hf
            rcases hf with e | e
            · rw [e]; exact this.1
            · rw [e]; exact this.2
          · exact .inl (.inr ⟨x, by simp [hx], hf⟩)

set_option maxRecDepth 100000 in
set_option maxHeartbeats 2000000 in
theorem put_calls (Bz b : Nat) (hd : N) (A B : List N) (a : Int) (v : ByteArray) (w : World) (hS : Sk w b hd (A ++ B)) (hZ : Tz Bz w) (hA : ∀ x ∈ A, x.a < a) (hB : ∀ x ∈ B, a ≤ x.a) (hl : (A ++ B).length ≤ 100000) (ha : -9223372036854775808 ≤ a ∧ a ≤ 9223372036854775807) :
    Calls Tryz.prog 41 #[.pointer (some ⟨b, 0, none⟩), .int .i64 a, .string v] w (PutRes w b hd (A ++ B) a v) := by
  have HS := Lib.hid hS
  have HZ := Lib.hid hZ
  have HA := Lib.hid hA
  have HB := Lib.hid hB
  have HL := Lib.hid hl
  obtain ⟨ha1, ha2⟩ := ha
  have hmf : ∀ fn first cap w, (Instr.makeFunc fn first cap).run Tryz.prog w = .ok (.func fn first cap) w := fun _ _ _ _ => rfl
  clear hS hZ hA hB hl
  go_enter Tryz.func41, Tryz.ntmps41
  go_wp2_with fail
  refine calls_let (fun W hW => ?_)
  have P0 : Hid (Has W w.heap.size 3 #[.int .i64 a] ∧ Below w.heap.size w W ∧ Sk W b hd (A ++ B)) := by
    have bb : Below w.heap.size w W := by rw [← hW]; exact (Below.refl _ _).alloc (Nat.le_refl _) _
    exact Lib.hid ⟨by rw [← hW]; exact made_at _ _ rfl, bb, HS.out.below bb⟩
  clear hW
  refine (search_calls 90 _ Tryz.func90 (by kernel_rfl) (by kernel_rfl) w.heap.size (fun x => decide (x < a)) b hd A B W P0.out.2.2 (fun x w' hb => clos_put x a _ w' (P0.out.1.below hb P0.out.1.lt)) (fun x hx => decide_eq_true (HA.out x hx)) (fun x hx => decide_eq_false (by have := HB.out x hx; omega)) (by have := HL.out; rw [List.length_append] at this; omega)).mono ?_
  rintro en w1 ⟨G, rfl, hE, b1⟩
  have P1 : Hid (Has w1 w.heap.size 3 #[.int .i64 a] ∧ Below w.heap.size w w1 ∧ Sk w1 b hd (A ++ B) ∧ Ends (hd :: A) G 0 ∧ w.heap.size < w1.heap.size) := Lib.hid ⟨P0.out.1.below b1 P0.out.1.lt, P0.out.2.1.trans (b1.mono P0.out.2.1.size), P0.out.2.2.below b1, hE, Nat.lt_of_lt_of_le P0.out.1.lt b1.size⟩
  clear hE b1 P0
  go_wp2_with (first
    | ((with_reducible refine at_store (.tmp 7) ?_); refine wpList_store_cells (o := ⟨none, _, _, _, _, _⟩) rfl 184 _ _ rfl w1.heap.size (endsC G 0) (endsC (fun _ => 0) 10) rfl rfl _ (made_at _ _ rfl) (arrSize _ _) (by rw [endsC_size, endsC_size]) (endsC_one _ _) ?_; intro W2 HW2 TW2;
       (have hu : Hid (Pu w b hd A B w.heap.size w1.heap.size a G W2) := (by
          have bb : Below w1.heap.size w1 W2 := ((Below.refl _ _).alloc (Nat.le_refl _) _).trans (TW2.below (by simp) (fun j hj e => by omega))
          exact Lib.hid ⟨P1.out.2.2.1.below bb, P1.out.2.1.trans (bb.mono P1.out.2.1.size), HW2, P1.out.1.below bb P1.out.1.lt, ⟨Nat.le_refl _, P1.out.2.1.size⟩, P1.out.2.2.2.1⟩));
       (obtain ⟨c, hX, hg, ce, hc, hk1, hk2, cr0⟩ := hu.out.last); (obtain ⟨x0, hx0⟩ : ∃ x0, x0 = ptrV (B.head?.map (·.g)) := ⟨_, rfl⟩); (have cr : W2.cell? ⟨c.r, 0, none⟩ = some x0 := (by rw [hx0]; exact cr0)); (have HX0 := Lib.hid hx0); clear hx0 cr0;
       (have cc := hc.cell 2); (simp only [List.getElem?_toArray, List.getElem?_cons_succ, List.getElem?_cons_zero] at cc);
       (have HX := Lib.hid (And.intro hX hg)); (have hk1' : (0 : Int) < (c.k : Int) := (by omega)); clear HW2 TW2 hX hg hc)
    | fail)
  obtain ⟨e, he⟩ : ∃ e, e = w1.heap.size := ⟨_, rfl⟩
  rw [← he] at hu ce ⊢
  clear he P1
  obtain ⟨p, hp⟩ : ∃ p, p = w.heap.size := ⟨_, rfl⟩
  have HP := Lib.hid hp
  have bx : W2.cell? ⟨p, 0, none⟩ = some (.int .i64 a) := by rw [hp]; exact hu.out.box.cell 0
  rw [← hp] at hu ⊢
  clear hp
  rcases (show (∃ y B', B = y :: B' ∧ y.a = a) ∨ (B = [] ∧ ∀ x ∈ B, a < x.a) ∨ (∃ y B', B = y :: B' ∧ y.a ≠ a ∧ ∀ x ∈ B, a < x.a) from by
    cases B with
    | nil => exact .inr (.inl ⟨rfl, fun x hx => by cases hx⟩)
    | cons y B' =>
      by_cases hya : y.a = a
      · exact .inl ⟨y, B', rfl, hya⟩
      · refine .inr (.inr ⟨y, B', rfl, hya, fun x hx => ?_⟩)
        have h1 := HB.out y (by simp)
        rcases List.mem_cons.1 hx with rfl | hx2
        · omega
        · have h2 := (List.pairwise_append.1 HS.out.up).2.1
          have := (List.pairwise_cons.1 h2).1 x hx2
          omega) with ⟨y, B', rfl, hya⟩ | ⟨hB0, hlt⟩ | ⟨y, B', hB0, hya, hlt⟩
  · obtain rfl : x0 = .pointer (some ⟨y.g, 0, none⟩) := HX0.out
    obtain ⟨_, my, _⟩ := (hu.out.sk.node (x := y) (by simp))
    have cy : W2.cell? ⟨y.g, 0, none⟩ = some (.int .i64 y.a) := my.cell 0
    have cv : W2.cell? ⟨y.g, 1, none⟩ = some (Value.string y.v) := my.cell 1
    have fv : W2.frozen? ⟨y.g, 1, none⟩ = false := my.free 1
    clear HX0
    have hb : (y.a == a) = true := beq_iff_eq.2 hya
    have HY := Lib.hid hya
    clear hya my
    go_quiet (fail)
    go_wp2_with fail
    go_ret
    exact ⟨_, true, rfl, put_there v (hu.out.drewN nq).sk HA.out HY.out (hu.out.drewN nq).bel HS.out⟩
  case' inr.inl =>
    obtain rfl : x0 = .pointer none := by rw [HX0.out, hB0]; rfl
    have HLT := Lib.hid hlt
    clear HX0 hlt hB0
    go_quiet (fail)
    go_wp2_with fail
  case' inr.inr =>
    obtain rfl : x0 = .pointer (some ⟨y.g, 0, none⟩) := by rw [HX0.out, hB0]; rfl
    obtain ⟨_, my, _⟩ := (hu.out.sk.node (x := y) (by rw [hB0]; simp))
    have cy : W2.cell? ⟨y.g, 0, none⟩ = some (.int .i64 y.a) := my.cell 0
    clear HX0
    have hb : (y.a == a) = false := beq_eq_false_iff_ne.2 hya
    have HLT := Lib.hid hlt
    clear hya my hlt hB0
    go_quiet (fail)
    go_wp2_with fail
    clear hb cy
  all_goals
    have HU2 := Lib.hid (hu.out.drewN nq)
    have bx2 : (W2.drewN nq).cell? ⟨p, 0, none⟩ = some (.int .i64 a) := HU2.out.box.cell 0
    generalize W2.drewN nq = W3 at *
    obtain ⟨K, hK⟩ : ∃ K, K = hgt a := ⟨_, rfl⟩
    have hK1 := hgt_bounds a
    rw [← hK] at hK1
    have hmk := make_row K hK1.2
    have HH := Lib.hid (fun W' (hw : Below w.heap.size w W') => by rw [hK]; exact height_calls Bz a W' (HZ.out.below hw HZ.out.size) ha2 : ∀ W', Below w.heap.size w W' → Calls Tryz.prog 91 #[.int .i64 a] W' fun en w' => en = .returned (.int .i64 K) ∧ W' = w')
    have HK := Lib.hid hK
    clear hK hu bx cr cc ce hk1 hk2 hk1' bx2
    refine wp_region_quiet (fun V => Pu w b hd A B p e a G V) [] (by kernel_rfl) ?_
    have hC : (fun V => Pu w b hd A B p e a G V) W3.drew := HU2.out.drew
    refine quiet_take 0 (some 39) (v := .int .i64 a) rfl rfl (by kernel_rfl) (by kernel_rfl) (by kernel_rfl) (fun _ _ _ h => h) (by kernel_rfl) (by kernel_rfl) (by kernel_rfl) (fun V hV => by have c1 := (Pu.box hV).cell 0; go_simp) hC ?_
    refine quiet_take 1 (some 40) (v := Value.string v) rfl rfl (by kernel_rfl) (by kernel_rfl) (by kernel_rfl) (fun _ _ _ h => h) (by kernel_rfl) (by kernel_rfl) (by kernel_rfl) (fun V _ => rfl) hC ?_
    refine quiet_take 2 (some 41) (v := .int .i64 a) rfl rfl (by kernel_rfl) (by kernel_rfl) (by kernel_rfl) (fun _ _ _ h => h) (by kernel_rfl) (by kernel_rfl) (by kernel_rfl) (fun V hV => by have c1 := (Pu.box hV).cell 0; go_simp) hC ?_
    refine quiet_call 3 (some 42) (.int .i64 K) rfl rfl (by kernel_rfl) (by kernel_rfl) (by kernel_rfl) (fun _ _ _ h => h) (by kernel_rfl) (by kernel_rfl) (by kernel_rfl) 91 Tryz.f91 Tryz.func91 (by kernel_rfl) (by kernel_rfl) _ _ rfl #[.int .i64 a] (by first | (simp [Act.eval]; done) | (simp [Act.eval, Act.put]; done)) (fun V hV => HH.out V (Pu.bel hV)) hC ?_
    simp only [Act.put, List.setIfInBounds_toArray, List.set_cons_zero, List.set_cons_succ]
    refine quiet_one (i := 4) (by kernel_rfl) ?_
    refine wpOp_value (some 43) (v := .slice (some ⟨W3.heap.size, 0, none⟩) K K) (w' := (W3.alloc (.cells (rowT K ([] : List N) (fun _ => [])) 178)).drew) rfl rfl (by kernel_rfl) (by go_simp) ⟨fun _ => HU2.out.more (((Below.refl _ _).alloc (Nat.le_refl _) _).drew), ?_⟩
    refine quiet_one (i := 5) (by kernel_rfl) ?_
    refine wpOp_value (some 44) (v := .agg #[.int .i64 a, Value.string v, .slice (some ⟨W3.heap.size, 0, none⟩) K K]) (w' := (W3.alloc (.cells (rowT K ([] : List N) (fun _ => [])) 178)).drew) rfl rfl (by kernel_rfl) (by go_simp) ⟨fun _ => HU2.out.more (((Below.refl _ _).alloc (Nat.le_refl _) _).drew), ?_⟩
    refine quiet_one (i := 6) (by kernel_rfl) ?_
    refine wpOp_value (some 45) (v := .pointer (some ⟨W3.heap.size + 1, 0, none⟩)) (w' := ((W3.alloc (.cells (rowT K ([] : List N) (fun _ => [])) 178)).alloc (.cells #[.int .i64 a, Value.string v, .slice (some ⟨W3.heap.size, 0, none⟩) K K] 181)).drew) rfl rfl (by kernel_rfl) (by go_simp) ⟨fun _ => HU2.out.more ((((Below.refl _ _).alloc (Nat.le_refl _) _).alloc (by simp) _).drew), ?_⟩
    refine quiet_one (i := 7) (by kernel_rfl) ?_
    refine wpOp_value (some 10) (v := .pointer (some ⟨W3.heap.size + 1, 0, none⟩)) (w' := ((W3.alloc (.cells (rowT K ([] : List N) (fun _ => [])) 178)).alloc (.cells #[.int .i64 a, Value.string v, .slice (some ⟨W3.heap.size, 0, none⟩) K K] 181)).drew) rfl rfl (by kernel_rfl) (by go_simp) ⟨fun _ => HU2.out.more ((((Below.refl _ _).alloc (Nat.le_refl _) _).alloc (by simp) _).drew), ?_⟩
    refine quiet_done (by kernel_rfl) ?_ _
    simp only [Act.put, List.setIfInBounds_toArray, List.set_cons_zero, List.set_cons_succ]
    clear hC
    generalize hW4 : ((W3.alloc (.cells (rowT K ([] : List N) (fun _ => [])) 178)).alloc (.cells #[.int .i64 a, Value.string v, .slice (some ⟨W3.heap.size, 0, none⟩) K K] 181)).drew = W4
    have I0 := Lib.hid (HU2.out.ins v K hW4.symm)
    have HN := Lib.hid (HU2.out.ends)
    obtain ⟨nd, hnd⟩ : ∃ nd : N, nd = ⟨a, v, K, W3.heap.size + 1, W3.heap.size⟩ := ⟨_, rfl⟩
    rw [← hnd] at I0
    have HND := Lib.hid hnd
    have ndg : W3.heap.size + 1 = nd.g := by rw [hnd]
    have ndr : W3.heap.size = nd.r := by rw [hnd]
    have c3 : W4.cell? ⟨nd.g, 2, none⟩ = some (.slice (some ⟨nd.r, 0, none⟩) K K) := by have := I0.out.node.cell 2; rw [hnd] at this ⊢; exact this
    rw [ndg, ndr]
    clear hW4 hmk HH HU2 hnd ndg ndr
    go_wp2_with fail
    have HE := Lib.hid (show nd.a = a ∧ nd.v = v ∧ nd.k = K by rw [HND.out]; exact ⟨rfl, rfl, rfl⟩)
    have hK2 : (K : Int) ≤ 10 := by omega
    have hK3 : (0 : Int) ≤ (K : Int) := by omega
    clear HND
    go_loopw [51] (fun i wr => ∃ h0 : Nat, i = .int .i64 h0 ∧ h0 ≤ K ∧ Hid (Ins w b hd A B e nd G h0 wr)) (fun i _ => K - (intOf i).toNat)
    case atStart => exact ⟨0, rfl, Nat.zero_le _, I0⟩
    case round =>
      clear I0 c3
      obtain ⟨h0, rfl, hh, HI⟩ := hrel
      by_cases hlt : h0 < K
      · have hlt1 : (h0 : Int) < (K : Int) := by omega
        have hlt2 : (h0 : Int) < 10 := by omega
        have hlt0 : (0 : Int) ≤ (h0 : Int) := by omega
        obtain ⟨d, c0, c1, hdk, hdk2, c2, f2, hne, hI⟩ := HI.out.step HS.out HN.out (by rw [HE.out.2.2]; exact hlt) (by rw [HE.out.2.2]; omega)
        have hdk1 : (h0 : Int) < (d.k : Int) := by omega
        have hdk3 : (d.k : Int) ≤ 10 := by omega
        obtain ⟨u, hu⟩ : ∃ u, ptrV (nx h0 B) = .pointer u := by cases nx h0 B <;> exact ⟨_, rfl⟩
        rw [hu] at c2 hI
        have HI2 := Lib.hid hI
        have c3 : wr.cell? ⟨nd.g, 2, none⟩ = some (.slice (some ⟨nd.r, 0, none⟩) K K) := by have := HI.out.node.cell 2; rw [HE.out.2.2] at this; exact this
        have c4 : wr.cell? ⟨nd.r, h0, none⟩ = some (.pointer none) := by
          rw [HI.out.row.cell, rowT_at (by rw [HE.out.2.2]; exact hlt), if_neg (Nat.lt_irrefl _)]; rfl
        have f4 : wr.frozen? ⟨nd.r, h0, none⟩ = false := HI.out.row.free h0
        have hne2 : nd.r ≠ d.r := fun e => hne e.symm
        clear hu hI hlt hdk hdk2
        go_wp2_with fail
        go_region
        all_goals
          go_wp2_with fail
          refine ⟨⟨h0 + 1, by rw [Int.natCast_add]; rfl, by omega, Lib.hid HI2.out.drew⟩, ?_⟩
          show K - ((h0 : Int) + 1).toNat < K - ((h0 : Int)).toNat
          omega
      · obtain rfl : h0 = K := by omega
        have h1 : ¬ (h0 : Int) < (h0 : Int) := by omega
        have hi2 : Ins w b hd A B e nd G nd.k wr := by rw [HE.out.2.2]; exact HI.out
        obtain ⟨n, hn⟩ : ∃ n, n = (A ++ B).length := ⟨_, rfl⟩
        have c1 : wr.cell? ⟨b, 1, none⟩ = some (.int .i64 n) := by rw [hn]; exact HI.out.list.cell 1
        have f1 : wr.frozen? ⟨b, 1, none⟩ = false := HI.out.list.free 1
        have HI3 := Lib.hid hi2
        have hln : (n : Int) ≤ 100000 := by have := HL.out; omega
        have hln0 : (0 : Int) ≤ (n : Int) := by omega
        have HNN := Lib.hid hn
        clear hn
        clear hi2
        go_wp2_with fail
        go_ret
        have hpost := put_new HI3.out HS.out (fun x hx => by rw [HE.out.1]; exact HA.out x hx) (fun x hx => by rw [HE.out.1]; exact HLT.out x hx) (by rw [HE.out.1, HE.out.2.2]; exact HK.out) (by rw [HE.out.1]; exact ⟨ha1, ha2⟩)
        rw [HE.out.1, HE.out.2.1, ← HNN.out] at hpost
        exact ⟨_, false, rfl, hpost⟩
end Go.Proofs.YtcdedkgkingbdaaGreatDoor.tws
