/- SHA-256, over the numbers as the walk writes them: words, rounds, blocks, sums. Of no program. -/
import Derived.Test.YtdoadmkaoboncaaGreatDoorOwn
namespace Go.Proofs.YtdoadmkaoboncaaGreatDoor.dig
open Go Go.RowKit

def W (x : Int) : Prop := 0 ≤ x ∧ x < 4294967296

theorem u32_wrap (x : Int) : IntKind.u32.wrap x = x % 4294967296 := by
  unfold IntKind.wrap
  simp [IntKind.bits, IntKind.signed]

theorem W_wrap (x : Int) : W (IntKind.u32.wrap x) := by
  rw [u32_wrap]
  unfold W
  omega

theorem W_bits (op : BinOp) (x y : Int) : W (bits op .u32 x y) := by
  unfold bits
  exact W_wrap _

/-- To the right, round and round. -/
def rot (n : Nat) (x : Int) : Int := x / 2 ^ n + x % 2 ^ n * 2 ^ (32 - n)

theorem toNat_ofInt (x : Int) (h : W x) : (BitVec.ofInt 32 x).toNat = x.toNat := by
  unfold W at h
  rw [BitVec.toNat_ofInt]
  rw [Int.emod_eq_of_lt h.1 (by simpa using h.2)]

theorem or_nat (a b : Nat) (ha : a < 4294967296) (hb : b < 4294967296) : bits .or .u32 (a : Int) (b : Int) = ((a ||| b : Nat) : Int) := by
  unfold bits
  rw [u32_wrap]
  show ((BitVec.ofInt 32 (a : Int) ||| BitVec.ofInt 32 (b : Int)).toNat : Int) % 4294967296 = _
  rw [BitVec.toNat_or, toNat_ofInt _ ⟨by omega, by omega⟩, toNat_ofInt _ ⟨by omega, by omega⟩, Int.toNat_natCast, Int.toNat_natCast]
  have := Nat.or_lt_two_pow (n := 32) (x := a) (y := b) (by simpa using ha) (by simpa using hb)
  omega

theorem or_low (a b i : Nat) (hb : b < 2 ^ i) (h : 2 ^ i * a + b < 4294967296) : bits .or .u32 (((2 ^ i * a : Nat)) : Int) (b : Int) = ((2 ^ i * a + b : Nat) : Int) := by
  rw [or_nat _ _ (by omega) (by omega), Nat.two_pow_add_eq_or_of_lt hb]

theorem rot_code (n : Nat) (x : Int) (hx : W x) (h1 : 1 ≤ n) (h2 : n ≤ 31) : bits .or .u32 (IntKind.u32.wrap (x * 2 ^ (32 - n))) (x / 2 ^ n) = rot n x := by
  obtain ⟨a, rfl⟩ := Int.eq_ofNat_of_zero_le hx.1
  have hx2 : a < 4294967296 := by have := hx.2; omega
  have e1 : (4294967296 : Nat) = 2 ^ n * 2 ^ (32 - n) := by rw [← Nat.pow_add, show n + (32 - n) = 32 by omega]
  have e2 : IntKind.u32.wrap ((a : Int) * 2 ^ (32 - n)) = ((2 ^ (32 - n) * (a % 2 ^ n) : Nat) : Int) := by
    rw [u32_wrap]
    have : ((a : Int) * 2 ^ (32 - n)) = ((a * 2 ^ (32 - n) : Nat) : Int) := by simp
    rw [this, show (4294967296 : Int) = ((4294967296 : Nat) : Int) from rfl, ← Int.natCast_emod, e1, Nat.mul_mod_mul_right, Nat.mul_comm]
  have e3 : (a : Int) / 2 ^ n = ((a / 2 ^ n : Nat) : Int) := by simp
  have hlt : a / 2 ^ n < 2 ^ (32 - n) := by
    rw [Nat.div_lt_iff_lt_mul (Nat.two_pow_pos n), Nat.mul_comm, ← e1]
    exact hx2
  have hm : a % 2 ^ n < 2 ^ n := Nat.mod_lt _ (Nat.two_pow_pos n)
  have hs : 2 ^ (32 - n) * (a % 2 ^ n) + a / 2 ^ n < 4294967296 := by
    rw [e1]
    calc 2 ^ (32 - n) * (a % 2 ^ n) + a / 2 ^ n < 2 ^ (32 - n) * (a % 2 ^ n) + 2 ^ (32 - n) := by omega
      _ = 2 ^ (32 - n) * (a % 2 ^ n + 1) := by rw [Nat.mul_add, Nat.mul_one]
      _ ≤ 2 ^ (32 - n) * 2 ^ n := Nat.mul_le_mul_left _ (by omega)
      _ = 2 ^ n * 2 ^ (32 - n) := Nat.mul_comm _ _
  rw [e2, e3, or_low _ _ _ hlt hs]
  unfold rot
  rw [Int.natCast_add, Int.natCast_mul]
  simp [Int.mul_comm]
  omega

theorem rot_ref (n : Nat) (x : Int) (hx : W x) (h1 : 1 ≤ n) (h2 : n ≤ 31) : IntKind.u32.wrap (x / 2 ^ n + IntKind.u32.wrap (x * 2 ^ (32 - n))) = rot n x := by
  obtain ⟨a, rfl⟩ := Int.eq_ofNat_of_zero_le hx.1
  have hx2 : a < 4294967296 := by have := hx.2; omega
  have e1 : (4294967296 : Nat) = 2 ^ n * 2 ^ (32 - n) := by rw [← Nat.pow_add, show n + (32 - n) = 32 by omega]
  have e2 : IntKind.u32.wrap ((a : Int) * 2 ^ (32 - n)) = ((a % 2 ^ n * 2 ^ (32 - n) : Nat) : Int) := by
    rw [u32_wrap]
    have : ((a : Int) * 2 ^ (32 - n)) = ((a * 2 ^ (32 - n) : Nat) : Int) := by simp
    rw [this, show (4294967296 : Int) = ((4294967296 : Nat) : Int) from rfl, ← Int.natCast_emod, e1, Nat.mul_mod_mul_right]
  have e3 : (a : Int) / 2 ^ n = ((a / 2 ^ n : Nat) : Int) := by simp
  have hlt : a / 2 ^ n < 2 ^ (32 - n) := by
    rw [Nat.div_lt_iff_lt_mul (Nat.two_pow_pos n), Nat.mul_comm, ← e1]
    exact hx2
  have hm : a % 2 ^ n < 2 ^ n := Nat.mod_lt _ (Nat.two_pow_pos n)
  have hs : a % 2 ^ n * 2 ^ (32 - n) + a / 2 ^ n < 4294967296 := by
    rw [e1]
    calc a % 2 ^ n * 2 ^ (32 - n) + a / 2 ^ n < a % 2 ^ n * 2 ^ (32 - n) + 2 ^ (32 - n) := by omega
      _ = (a % 2 ^ n + 1) * 2 ^ (32 - n) := by rw [Nat.add_mul, Nat.one_mul]
      _ ≤ 2 ^ n * 2 ^ (32 - n) := Nat.mul_le_mul_right _ (by omega)
  have e4 : rot n (a : Int) = ((a % 2 ^ n * 2 ^ (32 - n) + a / 2 ^ n : Nat) : Int) := by
    unfold rot
    rw [Int.natCast_add, Int.natCast_mul]
    simp
    omega
  rw [e2, e3, e4, u32_wrap, ← Int.natCast_add, show (4294967296 : Int) = ((4294967296 : Nat) : Int) from rfl, ← Int.natCast_emod, Nat.mod_eq_of_lt (by omega), Nat.add_comm]

theorem W_rot (n : Nat) (x : Int) (hx : W x) (h1 : 1 ≤ n) (h2 : n ≤ 31) : W (rot n x) := by
  rw [← rot_code n x hx h1 h2]
  exact W_bits _ _ _

theorem and31 (n : Int) : bits .and .u64 n 31 = n % 32 := by
  unfold bits
  have h1 : IntKind.u64.wrap = fun n : Int => n % 18446744073709551616 := by
    funext n; unfold IntKind.wrap; simp [IntKind.bits, IntKind.signed]
  rw [h1]
  show (((BitVec.ofInt 64 n &&& BitVec.ofInt 64 31).toNat : Nat) : Int) % 18446744073709551616 = n % 32
  rw [BitVec.toNat_and, BitVec.toNat_ofInt, BitVec.toNat_ofInt]
  have e : ((31 : Int) % ((2 ^ 64 : Nat) : Int)).toNat = 2 ^ 5 - 1 := by decide
  rw [e, Nat.and_two_pow_sub_one_eq_mod]
  omega

/-- Eight bits further left, and a byte. -/
theorem push_code (x : Int) (b : UInt8) (hx : 0 ≤ x) (h2 : x < 16777216) : bits .or .u32 (IntKind.u32.wrap (x * 256)) (b.toNat : Int) = x * 256 + (b.toNat : Int) := by
  obtain ⟨a, rfl⟩ := Int.eq_ofNat_of_zero_le hx
  have hb := b.toNat_lt
  have e : IntKind.u32.wrap ((a : Int) * 256) = ((2 ^ 8 * a : Nat) : Int) := by rw [u32_wrap]; omega
  rw [e, or_low a b.toNat 8 (by omega) (by omega)]
  omega

def xo (a b : Int) : Int := bits .xor .u32 a b
def an (a b : Int) : Int := bits .and .u32 a b
def ad (a b : Int) : Int := (a + b) % 4294967296
theorem W_xo (a b : Int) : W (xo a b) := W_bits _ _ _
theorem W_an (a b : Int) : W (an a b) := W_bits _ _ _
theorem W_ad (a b : Int) : W (ad a b) := by
  unfold ad W
  omega

/-- The words behind the first sixteen. -/
def next (x16 x7 p q : Int) : Int := ad (ad (ad x16 x7) (xo (xo (rot 7 p) (rot 18 p)) (p / 8))) (xo (xo (rot 17 q) (rot 19 q)) (q / 1024))
def ext (l : List Int) : List Int := l ++ [next (l.getD (l.length - 16) 0) (l.getD (l.length - 7) 0) (l.getD (l.length - 15) 0) (l.getD (l.length - 2) 0)]
def exts : Nat → List Int → List Int
  | 0, l => l
  | n + 1, l => ext (exts n l)

def pk (xs : List UInt8) : Int := xs.foldl (fun a b => a * 256 + (b.toNat : Int)) 0
/-- The first sixteen. -/
def firsts (xs : List UInt8) : List Int := (List.range 16).map fun i => pk ((xs.drop (4 * i)).take 4)
def spreadL (xs : List UInt8) : List Int := exts 48 (firsts xs)

def keys : List Int := [
  0x428a2f98, 0x71374491, 0xb5c0fbcf, 0xe9b5dba5, 0x3956c25b, 0x59f111f1, 0x923f82a4, 0xab1c5ed5,
  0xd807aa98, 0x12835b01, 0x243185be, 0x550c7dc3, 0x72be5d74, 0x80deb1fe, 0x9bdc06a7, 0xc19bf174,
  0xe49b69c1, 0xefbe4786, 0x0fc19dc6, 0x240ca1cc, 0x2de92c6f, 0x4a7484aa, 0x5cb0a9dc, 0x76f988da,
  0x983e5152, 0xa831c66d, 0xb00327c8, 0xbf597fc7, 0xc6e00bf3, 0xd5a79147, 0x06ca6351, 0x14292967,
  0x27b70a85, 0x2e1b2138, 0x4d2c6dfc, 0x53380d13, 0x650a7354, 0x766a0abb, 0x81c2c92e, 0x92722c85,
  0xa2bfe8a1, 0xa81a664b, 0xc24b8b70, 0xc76c51a3, 0xd192e819, 0xd6990624, 0xf40e3585, 0x106aa070,
  0x19a4c116, 0x1e376c08, 0x2748774c, 0x34b0bcb5, 0x391c0cb3, 0x4ed8aa4a, 0x5b9cca4f, 0x682e6ff3,
  0x748f82ee, 0x78a5636f, 0x84c87814, 0x8cc70208, 0x90befffa, 0xa4506ceb, 0xbef9a3f7, 0xc67178f2]
def start : List Int := [0x6a09e667, 0xbb67ae85, 0x3c6ef372, 0xa54ff53a, 0x510e527f, 0x9b05688c, 0x1f83d9ab, 0x5be0cd19]

structure Oct where
  a : Int
  b : Int
  c : Int
  d : Int
  e : Int
  f : Int
  g : Int
  h : Int

def xOf (o : Oct) (k w : Int) : Int :=
  ad (ad (ad (ad o.h (xo (an o.e o.f) (an (xo 4294967295 o.e) o.g))) k) w) (xo (xo (rot 6 o.e) (rot 11 o.e)) (rot 25 o.e))
def yOf (o : Oct) : Int :=
  ad (xo (xo (an o.a o.b) (an o.a o.c)) (an o.b o.c)) (xo (xo (rot 2 o.a) (rot 13 o.a)) (rot 22 o.a))
def round (o : Oct) (k w : Int) : Oct := ⟨ad (xOf o k w) (yOf o), o.a, o.b, o.c, ad o.d (xOf o k w), o.e, o.f, o.g⟩
def rounds (o : Oct) (ws : List Int) : Nat → Oct
  | 0 => o
  | n + 1 => round (rounds o ws n) (keys.getD n 0) (ws.getD n 0)
def Oct.list (o : Oct) : List Int := [o.a, o.b, o.c, o.d, o.e, o.f, o.g, o.h]
def Oct.plus (o p : Oct) : Oct := ⟨ad o.a p.a, ad o.b p.b, ad o.c p.c, ad o.d p.d, ad o.e p.e, ad o.f p.f, ad o.g p.g, ad o.h p.h⟩
/-- Eight words behind 64 bytes. -/
def comp (o : Oct) (xs : List UInt8) : Oct := o.plus (rounds o (spreadL xs) 64)
def start8 : Oct := ⟨0x6a09e667, 0xbb67ae85, 0x3c6ef372, 0xa54ff53a, 0x510e527f, 0x9b05688c, 0x1f83d9ab, 0x5be0cd19⟩
/-- Behind k blocks. -/
def wd (xs : List UInt8) : Nat → Oct
  | 0 => start8
  | k + 1 => comp (wd xs k) ((xs.drop (64 * k)).take 64)
def by4 (x : Int) : List UInt8 := [UInt8.ofNat (x / 16777216).toNat, UInt8.ofNat (x / 65536 % 256).toNat, UInt8.ofNat (x / 256 % 256).toNat, UInt8.ofNat (x % 256).toNat]
def be8 (n : Nat) : List UInt8 := [UInt8.ofNat (n / 72057594037927936), UInt8.ofNat (n / 281474976710656), UInt8.ofNat (n / 1099511627776), UInt8.ofNat (n / 4294967296), UInt8.ofNat (n / 16777216), UInt8.ofNat (n / 65536), UInt8.ofNat (n / 256), UInt8.ofNat n]
/-- What follows n bytes. -/
def ending (n : Nat) : List UInt8 := 128 :: List.replicate ((119 - n % 64) % 64) 0 ++ be8 (8 * n)
def full (xs : List UInt8) : List UInt8 := xs ++ ending xs.length
def sum (xs : List UInt8) : List UInt8 := (wd (full xs) ((full xs).length / 64)).list.flatMap by4
def dig1 (n : UInt8) : UInt8 := if n < 10 then 48 + n else 87 + n
def hex (xs : List UInt8) : List UInt8 := xs.flatMap fun c => [dig1 (c / 16), dig1 (c % 16)]

set_option maxRecDepth 100000 in
theorem abc_hex : hex (sum [97, 98, 99]) = [98, 97, 55, 56, 49, 54, 98, 102, 56, 102, 48, 49, 99, 102, 101, 97, 52, 49, 52, 49, 52, 48, 100, 101, 53, 100, 97, 101, 50, 50, 50, 51, 98, 48, 48, 51, 54, 49, 97, 51, 57, 54, 49, 55, 55, 97, 57, 99, 98, 52, 49, 48, 102, 102, 54, 49, 102, 50, 48, 48, 49, 53, 97, 100] := by
  kernel_rfl

theorem ext_length (l : List Int) : (ext l).length = l.length + 1 := by simp [ext]
theorem exts_length : ∀ (n : Nat) (l : List Int), (exts n l).length = l.length + n
  | 0, l => rfl
  | n + 1, l => by rw [exts, ext_length, exts_length n l]; omega
theorem firsts_length (xs : List UInt8) : (firsts xs).length = 16 := by simp [firsts]
theorem spreadL_length (xs : List UInt8) : (spreadL xs).length = 64 := by rw [spreadL, exts_length, firsts_length]
theorem wd_congr (xs ys : List UInt8) : ∀ k, xs.take (64 * k) = ys.take (64 * k) → wd xs k = wd ys k
  | 0, _ => rfl
  | k + 1, h => by
    have h1 : xs.take (64 * k) = ys.take (64 * k) := by
      have := congrArg (List.take (64 * k)) h
      rwa [List.take_take, List.take_take, Nat.min_eq_left (by omega)] at this
    have h2 : (xs.drop (64 * k)).take 64 = (ys.drop (64 * k)).take 64 := by
      have := congrArg (List.drop (64 * k)) h
      rwa [List.drop_take, List.drop_take, show 64 * (k + 1) - 64 * k = 64 by omega] at this
    rw [wd, wd, wd_congr xs ys k h1, h2]
theorem be8_length (n : Nat) : (be8 n).length = 8 := rfl
theorem ending_length (n : Nat) : (ending n).length = (119 - n % 64) % 64 + 9 := by simp [ending, be8]
theorem full_mod (xs : List UInt8) : (full xs).length % 64 = 0 := by
  unfold full
  rw [List.length_append, ending_length]
  omega
theorem by4_length (x : Int) : (by4 x).length = 4 := rfl
theorem flat4 : ∀ l : List Int, (l.flatMap by4).length = 4 * l.length
  | [] => rfl
  | x :: t => by rw [List.flatMap_cons, List.length_append, flat4 t, by4_length, List.length_cons]; omega
theorem Oct.list_length (o : Oct) : o.list.length = 8 := rfl
theorem sum_length (xs : List UInt8) : (sum xs).length = 32 := by
  unfold sum
  rw [flat4, Oct.list_length]
def Oct.W (o : Oct) : Prop := ∀ x ∈ o.list, dig.W x
theorem W_round (o : Oct) (k w : Int) (h : o.W) : (round o k w).W := by
  unfold Oct.W Oct.list round at *
  simp at *
  exact ⟨W_ad _ _, h.1, h.2.1, h.2.2.1, W_ad _ _, h.2.2.2.2.1, h.2.2.2.2.2.1, h.2.2.2.2.2.2.1⟩
theorem W_rounds (o : Oct) (ws : List Int) (h : o.W) : ∀ n, (rounds o ws n).W
  | 0 => h
  | n + 1 => W_round _ _ _ (W_rounds o ws h n)
theorem W_comp (o : Oct) (xs : List UInt8) : (comp o xs).W := by
  unfold Oct.W Oct.list comp Oct.plus
  simp
  exact ⟨W_ad _ _, W_ad _ _, W_ad _ _, W_ad _ _, W_ad _ _, W_ad _ _, W_ad _ _, W_ad _ _⟩
theorem W_start8 : start8.W := by
  unfold Oct.W Oct.list start8 dig.W
  decide
theorem W_wd (xs : List UInt8) : ∀ k, (wd xs k).W
  | 0 => W_start8
  | _ + 1 => W_comp _ _
theorem W_next (a b p q : Int) : W (next a b p q) := W_ad _ _
theorem pk_lt : ∀ (xs : List UInt8), 0 ≤ pk xs ∧ pk xs < 256 ^ xs.length := by
  intro xs
  unfold pk
  suffices h : ∀ (xs : List UInt8) (a : Int) (m : Nat), 0 ≤ a → a < (256 : Int) ^ m → 0 ≤ xs.foldl (fun a b => a * 256 + (b.toNat : Int)) a ∧ xs.foldl (fun a b => a * 256 + (b.toNat : Int)) a < 256 ^ (m + xs.length) by
    have := h xs 0 0 (by omega) (by decide)
    simpa using this
  intro xs
  induction xs with
  | nil => intro a m h1 h2; simpa using ⟨h1, h2⟩
  | cons b t ih =>
    intro a m h1 h2
    have hb := b.toNat_lt
    have := ih (a * 256 + (b.toNat : Int)) (m + 1) (by omega) (by rw [Int.pow_succ]; omega)
    rw [List.foldl_cons, List.length_cons, show m + (t.length + 1) = m + 1 + t.length by omega]
    exact this
theorem W_firsts (xs : List UInt8) : ∀ x ∈ firsts xs, W x := by
  intro x hx
  unfold firsts at hx
  rw [List.mem_map] at hx
  obtain ⟨i, _, rfl⟩ := hx
  obtain ⟨h1, h2⟩ := pk_lt (((xs.drop (4 * i)).take 4))
  have hl : (((xs.drop (4 * i)).take 4)).length ≤ 4 := by simp; omega
  refine ⟨h1, Int.lt_of_lt_of_le h2 ?_⟩
  generalize (((xs.drop (4 * i)).take 4)).length = m at hl
  have : m = 0 ∨ m = 1 ∨ m = 2 ∨ m = 3 ∨ m = 4 := by omega
  rcases this with rfl | rfl | rfl | rfl | rfl <;> decide
theorem W_exts (l : List Int) (h : ∀ x ∈ l, W x) : ∀ n, ∀ x ∈ exts n l, W x
  | 0 => h
  | n + 1 => by
    intro x hx
    rw [exts, ext, List.mem_append] at hx
    rcases hx with hx | hx
    · exact W_exts l h n x hx
    · rw [List.mem_singleton] at hx
      rw [hx]
      exact W_next _ _ _ _
theorem W_spreadL (xs : List UInt8) : ∀ x ∈ spreadL xs, W x := W_exts _ (W_firsts xs) 48
/-- The k-th of the words that are there stays. -/
theorem exts_get (l : List Int) : ∀ (n m i : Nat), m ≤ n → i < l.length + m → (exts n l)[i]? = (exts m l)[i]?
  | 0, m, i, h, _ => by obtain rfl : m = 0 := by omega
                        rfl
  | n + 1, m, i, h, hi => by
    by_cases e : m = n + 1
    · rw [e]
    · rw [exts, ext, List.getElem?_append_left (by rw [exts_length]; omega), exts_get l n m i (by omega) hi]
end Go.Proofs.YtdoadmkaoboncaaGreatDoor.dig
