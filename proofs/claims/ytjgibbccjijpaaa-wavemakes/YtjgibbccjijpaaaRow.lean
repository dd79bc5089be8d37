/-
  Plain mathematics of bit vectors laid in words of 64 bits, of no program: the bits, how many of them are one, what makes a vector valid. No condition but what each theorem names.
-/
import Derived.Test.YtjgibbccjijpaaaWords
namespace Go.Proofs.Ytjgibbccjijpaaa.Words
open Go Go.RowKit

/-- How many of the numbers below n have the property. -/
def tally (p : Nat → Bool) : Nat → Nat
  | 0 => 0
  | n + 1 => tally p n + (p n).toNat

theorem tally_succ (p : Nat → Bool) (n : Nat) : tally p (n + 1) = tally p n + (p n).toNat := rfl
theorem tally_le (p : Nat → Bool) (n : Nat) : tally p n ≤ n := by
  induction n with
  | zero => simp [tally]
  | succ n ih => simp only [tally]; cases p n <;> simp <;> omega
theorem tally_congr {p q : Nat → Bool} {n : Nat} (h : ∀ i, i < n → p i = q i) : tally p n = tally q n := by
  induction n with
  | zero => rfl
  | succ n ih => rw [tally, tally, ih fun i hi => h i (by omega), h n (by omega)]
theorem tally_add (p : Nat → Bool) (a b : Nat) : tally p (a + b) = tally p a + tally (fun i => p (a + i)) b := by
  induction b with
  | zero => rfl
  | succ b ih => rw [← Nat.add_assoc, tally, tally, ih]; omega
theorem tally_mono (p : Nat → Bool) {a b : Nat} (h : a ≤ b) : tally p a ≤ tally p b := by
  obtain ⟨c, rfl⟩ := Nat.exists_eq_add_of_le h
  rw [tally_add]; omega
theorem tally_not (p : Nat → Bool) (n : Nat) : tally p n + tally (fun i => !p i) n = n := by
  induction n with
  | zero => rfl
  | succ n ih => rw [tally, tally]; cases p n <;> simp <;> omega
theorem cnt_tally (x k : Nat) : cnt x k = tally x.testBit k := by
  induction k with
  | zero => rfl
  | succ k ih => rw [cnt, tally, ih]

/-- Bit i of the vector. -/
def bit (ws : List Nat) (i : Nat) : Bool := (ws.getD (i / 64) 0).testBit (i % 64)

theorem bit_word (ws : List Nat) (j k : Nat) (hk : k < 64) : bit ws (64 * j + k) = (ws.getD j 0).testBit k := by
  unfold bit
  rw [show (64 * j + k) / 64 = j by omega, show (64 * j + k) % 64 = k by omega]

theorem tally_word (ws : List Nat) (j m : Nat) (hm : m ≤ 64) : tally (bit ws) (64 * j + m) = tally (bit ws) (64 * j) + cnt (ws.getD j 0) m := by
  rw [tally_add, cnt_tally]
  congr 1
  exact tally_congr fun i hi => bit_word ws j i (by omega)

/-- One word more. -/
theorem tally_step (ws : List Nat) (r j : Nat) : tally (bit ws) (min r (64 * (j + 1))) = tally (bit ws) (min r (64 * j)) + cnt (ws.getD j 0) (min (r - 64 * j) 64) := by
  by_cases h : r ≤ 64 * j
  · rw [show min r (64 * (j + 1)) = r by omega, show min r (64 * j) = r by omega, show min (r - 64 * j) 64 = 0 by omega]; rfl
  · rw [show min r (64 * (j + 1)) = 64 * j + min (r - 64 * j) 64 by omega, show min r (64 * j) = 64 * j by omega]
    exact tally_word ws j _ (by omega)

/-- What makes a vector of n bits valid. -/
structure Valid (n : Nat) (ws : List Nat) : Prop where
  hi : n ≤ 4096
  len : ws.length = (n + 63) / 64
  top : ∀ i, n ≤ i → i < 64 * ws.length → bit ws i = false

theorem andNot_mask (x m : Nat) (hx : x < 18446744073709551616) (hm : m ≤ 64) : bits .andNot .u64 (x : Int) ((2 ^ m - 1 : Nat) : Int) = ((x / 2 ^ m * 2 ^ m : Nat) : Int) := by
  have hp : 2 ^ m ≤ 2 ^ 64 := Nat.pow_le_pow_right (by decide) hm
  have h1 : 1 ≤ 2 ^ m := Nat.one_le_two_pow
  rw [u64_andNot_nat x _ hx (by omega)]
  congr 1
  apply Nat.eq_of_testBit_eq
  intro i
  rw [Nat.testBit_and, Nat.testBit_mul_two_pow, Nat.testBit_div_two_pow, show 18446744073709551615 - (2 ^ m - 1) = 2 ^ 64 - (2 ^ m - 1 + 1) by omega, Nat.testBit_two_pow_sub_succ (by omega), Nat.testBit_two_pow_sub_one]
  by_cases h : i < 64
  · by_cases h2 : m ≤ i
    · simp [h, h2, show ¬ i < m by omega]
    · simp [h2, show i < m by omega]
  · have hb : x.testBit i = false := Nat.testBit_lt_two_pow (Nat.lt_of_lt_of_le (show x < 2 ^ 64 from hx) (Nat.pow_le_pow_right (by decide) (by omega)))
    by_cases h2 : m ≤ i
    · simp [h, hb, h2]
    · simp [h2, hb]

theorem mask_lt (m : Nat) (hm : m ≤ 64) : 2 ^ m - 1 < 18446744073709551616 := by
  have hp : 2 ^ m ≤ 2 ^ 64 := Nat.pow_le_pow_right (by decide) hm
  omega

/-- Nothing beyond m, bit by bit. -/
theorem high_zero (x m : Nat) (hx : x < 18446744073709551616) : x / 2 ^ m * 2 ^ m = 0 ↔ ∀ i, m ≤ i → i < 64 → x.testBit i = false := by
  have h1 : 0 < 2 ^ m := Nat.two_pow_pos m
  constructor
  · intro h i hi _
    have : x / 2 ^ m = 0 := by
      rcases Nat.mul_eq_zero.1 h with h | h
      · exact h
      · omega
    have e : (x / 2 ^ m).testBit (i - m) = x.testBit i := by rw [Nat.testBit_div_two_pow]; congr 1; omega
    rw [← e, this]; simp
  · intro h
    have : x / 2 ^ m = 0 := by
      apply Nat.eq_of_testBit_eq
      intro i
      rw [Nat.testBit_div_two_pow, Nat.zero_testBit]
      by_cases h2 : i + m < 64
      · exact h _ (by omega) h2
      · exact Nat.testBit_lt_two_pow (Nat.lt_of_lt_of_le (show x < 2 ^ 64 from hx) (Nat.pow_le_pow_right (by decide) (by omega)))
    rw [this]; simp

/-- The test of the last word. -/
theorem valid_last (n : Nat) (ws : List Nat) (j x : Nat) (hn : n ≤ 4096) (hl : ws.length = (n + 63) / 64) (hj : ws.length = j + 1) (hx : ws[j]? = some x) (hlt : x < 18446744073709551616) :
    Valid n ws ↔ x / 2 ^ min (n - 64 * j) 64 * 2 ^ min (n - 64 * j) 64 = 0 := by
  have hg : ws.getD j 0 = x := by simp [List.getD, hx]
  rw [high_zero x _ hlt]
  constructor
  · intro h i hi hi2
    have := h.top (64 * j + i) (by omega) (by omega)
    rwa [bit_word ws j i hi2, hg] at this
  · intro h
    refine ⟨hn, hl, fun i h1 h2 => ?_⟩
    have e : i = 64 * j + (i - 64 * j) := by omega
    rw [e, bit_word ws j _ (by omega), hg]
    exact h _ (by omega) (by omega)

theorem valid_nil : Valid 0 [] := ⟨by omega, rfl, fun i _ h => by simp at h⟩

/-- The mask of a word's bits below m. -/
theorem mask_int (m : Nat) (h : m ≤ 64) : IntKind.u64.wrap (IntKind.u64.wrap (2 ^ m) - 1) = ((2 ^ m - 1 : Nat) : Int) := by
  have e : ((2 : Int) ^ m) = ((2 ^ m : Nat) : Int) := by simp
  rw [e, IntKind.wrap_u64, IntKind.wrap_u64]
  have h1 : 1 ≤ 2 ^ m := Nat.one_le_two_pow
  have hp : 2 ^ m ≤ 9223372036854775808 ∨ 2 ^ m = 18446744073709551616 := by
    by_cases h : m = 64
    · right; rw [h]
    · left; exact Nat.pow_le_pow_right (n := 2) (j := 63) (by decide) (by omega)
  generalize 2 ^ m = p at *
  omega

theorem and_mask_int (x m : Nat) (hx : x < 18446744073709551616) (hm : m ≤ 64) : bits BinOp.and IntKind.u64 (x : Int) ((2 ^ m - 1 : Nat) : Int) = ((x % 2 ^ m : Nat) : Int) := by
  rw [bits_and_u64_nat x _ hx (mask_lt m hm), Nat.and_two_pow_sub_one_eq_mod]
end Go.Proofs.Ytjgibbccjijpaaa.Words
