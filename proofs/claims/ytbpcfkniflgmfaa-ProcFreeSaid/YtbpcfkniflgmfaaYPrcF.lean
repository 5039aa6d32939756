/- proc: Step, by what it is at. -/
import Derived.Test.YtbpcfkniflgmfaaYPrcE
namespace Go.Proofs.Ytbpcfkniflgmfaa.prc
open Go Go.RowKit Go.Maps

/-- What lasts while a process steps: its block, the memory, the answer's block. -/
structure Sx (w V0 : World) (d c m P L : Nat) (A : Ab) (K b : Nat) (x : Px) (V : World) : Prop where
  pr : Pr V b x
  mm : Mm w d c m P L A K V
  e : Has V V0.heap.size 42 #[.bool false, .bool false, .int .i64 0]
  turn : Turn (fun j => j = b ∨ Mb d c m j) V0 V
  lo : w.heap.size ≤ b
  hi : b < V0.heap.size

def StepPost (w : World) (d c m P L : Nat) (A : Ab) (K b : Nat) (y : Px) (dn fl : Bool) (s : Int) (V0 : World) (en : Ending) (w' : World) : Prop :=
  en = .returned (.agg #[.bool dn, .bool fl, .int .i64 s]) ∧ Pr w' b y ∧ Mm w d c m P L A K w' ∧ Turn (fun j => j = b ∨ Mb d c m j) V0 w'

section
variable {w V0 V V' : World} {d c m P L K b i : Nat} {A : Ab} {x : Px}

theorem sx_start (h : Pr V0 b x) (hm : Mm w d c m P L A K V0) (hb : w.heap.size ≤ b) : Sx w V0 d c m P L A K b x (V0.alloc (.cells #[.bool false, .bool false, .int .i64 0] 42)) :=
  ⟨h.alloc _, hm.below (box_below _ _), Has.made _ _ _, (Turn.refl _ _).alloc _, hb, Has.lt h⟩

theorem Sx.below (h : Sx w V0 d c m P L A K b x V) (hb : Below V.heap.size V V') : Sx w V0 d c m P L A K b x V' :=
  ⟨h.pr.below hb, h.mm.below hb, h.e.below hb h.e.lt, h.turn.trans (Turn.of_below hb (F := fun j => V.heap.size ≤ j) (fun _ _ e => e)) (fun j h1 h2 => absurd h2 (by have := h.turn.size; omega)), h.lo, h.hi⟩

theorem Sx.drew (h : Sx w V0 d c m P L A K b x V) : Sx w V0 d c m P L A K b x V.drew :=
  ⟨h.pr.drew, h.mm.drew, h.e.drew, h.turn.drew, h.lo, h.hi⟩

theorem Sx.access {A' : Ab} {K' : Nat} {y : Px} (h : Sx w V0 d c m P L A K b x V) (hp : Pr V' b y) (hm : Mm w d c m P L A' K' V') (t : Turn (Mb d c m) V V') : Sx w V0 d c m P L A' K' b y V' :=
  ⟨hp, hm, h.e.turn t (h.mm.ne h.e (by decide) (by decide)), h.turn.trans t (fun _ _ e => .inr e), h.lo, h.hi⟩

theorem Sx.own {y : Px} (h : Sx w V0 d c m P L A K b x V) (hp : Pr V' b y) (t : Turn (fun j => j = b) V V') : Sx w V0 d c m P L A K b y V' :=
  ⟨hp, h.mm.other t (fun j e => by rw [e]; exact h.lo) (fun j e => by rw [e]; exact h.pr.apart h.mm), h.e.turn t (fun e => by have := h.hi; omega), h.turn.trans t (fun _ _ e => .inl e), h.lo, h.hi⟩

theorem Sx.fin (h : Sx w V0 d c m P L A K b x V) (dn fl : Bool) (s : Int) :
    Has (((V.setCell ⟨V0.heap.size, 0, none⟩ (.bool dn)).setCell ⟨V0.heap.size, 1, none⟩ (.bool fl)).setCell ⟨V0.heap.size, 2, none⟩ (.int .i64 s)) V0.heap.size 42 #[.bool dn, .bool fl, .int .i64 s] ∧
    Pr (((V.setCell ⟨V0.heap.size, 0, none⟩ (.bool dn)).setCell ⟨V0.heap.size, 1, none⟩ (.bool fl)).setCell ⟨V0.heap.size, 2, none⟩ (.int .i64 s)) b x ∧
    Mm w d c m P L A K (((V.setCell ⟨V0.heap.size, 0, none⟩ (.bool dn)).setCell ⟨V0.heap.size, 1, none⟩ (.bool fl)).setCell ⟨V0.heap.size, 2, none⟩ (.int .i64 s)) ∧
    Turn (fun j => j = b ∨ Mb d c m j) V0 (((V.setCell ⟨V0.heap.size, 0, none⟩ (.bool dn)).setCell ⟨V0.heap.size, 1, none⟩ (.bool fl)).setCell ⟨V0.heap.size, 2, none⟩ (.int .i64 s)) := by
  have t : Turn (fun j => j = V0.heap.size) V (((V.setCell ⟨V0.heap.size, 0, none⟩ (.bool dn)).setCell ⟨V0.heap.size, 1, none⟩ (.bool fl)).setCell ⟨V0.heap.size, 2, none⟩ (.int .i64 s)) :=
    (((Turn.refl (fun j => j = V0.heap.size) V).put (fun _ => rfl) 0 _).put (fun _ => rfl) 1 _).put (fun _ => rfl) 2 _
  have hlo := h.lo
  have hhi := h.hi
  refine ⟨?_, h.pr.turn t (fun e => by omega), h.mm.other t (fun j e => by omega) (fun j e => by rw [e]; exact h.mm.ne h.e (by decide) (by decide)), h.turn.trans t (fun j h1 e => absurd e (by omega))⟩
  have := ((h.e.put 0 (.bool dn)).put 1 (.bool fl)).put 2 (.int .i64 s)
  simpa using this

theorem step_done {W : World} {a : Act} {dn fl : Bool} {s : Int} {y : Px} {A' : Ab} {K' : Nat} (h : Sx w V0 d c m P L A' K' b y V) (hW : W = ((V.setCell ⟨V0.heap.size, 0, none⟩ (.bool dn)).setCell ⟨V0.heap.size, 1, none⟩ (.bool fl)).setCell ⟨V0.heap.size, 2, none⟩ (.int .i64 s))
    (hx : a.tmps.getD 4 undef = .pointer (some ⟨V0.heap.size, 0, none⟩)) (hd : a.defers = []) : bodyPost Try.prog Try.f16 (StepPost w d c m P L A' K' b y dn fl s V0) Exit.ret a W := by
  subst hW
  obtain ⟨h1, h2, h3, h4⟩ := h.fin dn fl s
  exact bodyPost_ret (res_end rfl _ _ V0.heap.size dn fl s hx h1) hd ⟨rfl, h2, h3, h4⟩

end
end Go.Proofs.Ytbpcfkniflgmfaa.prc
