/- proof: bothRoots whole. -/
import Derived.Test.YtiogjmlkogeibaaDoorPrfD
import Derived.Test.YtiogjmlkogeibaaDoorPrfE
namespace Go.Proofs.YtiogjmlkogeibaaDoor.prf
open Go Go.RowKit Go.Proofs.YtiogjmlkogeibaaDoor.dig

theorem both_calls {o : List UInt8} (ho : o.length = 32) : ∀ (r : List (List UInt8)) (N f m n : Nat) (a : Option Addr) (c : Nat) (w : World), Rk w → Sms w (.slice a r.length c) r → N = f + m → 1 ≤ m → m ≤ n → n ≤ 1000000 → f + n ≤ 1000000 →
    Calls Tryd.prog 37 #[.agg (headC N o), .int .i64 f, .int .i64 n, .slice a r.length c] w (BothPost w (both Z o r (decide (f = 0)) m n)) := by
  intro r
  induction r with
  | nil =>
    intro N f m n a c w hR hS hN hm0 hm hn hf
    by_cases h : m = n ∧ f = 0
    · obtain ⟨rfl, rfl⟩ := h
      have e : both Z o [] (decide ((0 : Nat) = 0)) m m = (o, o, true) := both_known Z o [] m
      rw [e]
      obtain rfl : N = m := by omega
      exact both_first ho N hn a 0 c w true rfl
    · rw [both_nil _ _ _ (fun e => h ⟨e.1, of_decide_eq_true e.2⟩)]
      exact both_none o N f n m hN hn (by omega) hm h a c w
  | cons s r ih =>
    intro N f m n a c w hR hS hN hm0 hm hn hf
    by_cases h : m = n
    · subst h
      by_cases h0 : f = 0
      · subst h0
        have e : both Z o (s :: r) (decide ((0 : Nat) = 0)) m m = (o, o, false) := both_known Z o (s :: r) m
        rw [e]
        obtain rfl : N = m := by omega
        exact both_first ho N hn a _ c w false (isEmpty_len (s :: r))
      · rw [decide_eq_false h0, both_all]
        exact both_whole ho N f m hN hn (by omega) h0 s r a c w hS
    · have h2 : 2 ≤ n := by omega
      have h1 := half_lt h2
      have hl := fun x (hx : x ∈ r) => hS.2 x (by simp [hx])
      by_cases hk : m ≤ half n
      · obtain ⟨l1, l2⟩ := both_len Z_len ho r (decide (f = 0)) m (half n) hl
        rw [both_left _ _ _ _ _ h hk]
        exact both_lower ho N f n m (half n) rfl hN hn (by omega) h hm h2 hk s r a c _ _ _ l1 l2 w hR hS (fun V hR' hS' => ih N f m (half n) a c V hR' hS' hN hm0 hk (by omega) (by omega))
      · obtain ⟨l1, l2⟩ := both_len Z_len ho r false (m - half n) (n - half n) hl
        rw [both_right _ _ _ _ _ h hk]
        exact both_upper ho N f n m (half n) rfl hN hn (by omega) h hm h2 hk s r a c _ _ _ l1 l2 w hR hS (fun V hR' hS' => by
          have h0 := half_pos n
          have := ih N (f + half n) (m - half n) (n - half n) a c V hR' hS' (by omega) (by omega) (by omega) (by omega) (by omega)
          rwa [decide_eq_false (by omega)] at this)
end Go.Proofs.YtiogjmlkogeibaaDoor.prf
