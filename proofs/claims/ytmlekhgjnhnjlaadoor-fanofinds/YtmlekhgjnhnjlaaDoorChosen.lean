/-
  Plain mathematics of 64-bit words: the place of the one bit that has k one bits below it; taking the lowest one bit away; the number of trailing zeros. Of no program; no condition but what each theorem names.
-/
import Derived.Test.YtmlekhgjnhnjlaaDoorWords
import Derived.Lib.TrailingZeros
namespace Go.Proofs.YtmlekhgjnhnjlaaDoor.Words
open Go Go.RowKit

/-- Where there are more than k one bits, one of them has just k below it. -/
theorem chosen (x k : Nat) : ∀ m, k < cnt x m → ∃ i, i < m ∧ x.testBit i = true ∧ cnt x i = k
  | 0, h => by simp [cnt] at h
  | m + 1, h => by
    rw [cnt_succ] at h
    by_cases hk : k < cnt x m
    · obtain ⟨i, hi, hb, hc⟩ := chosen x k m hk
      exact ⟨i, by omega, hb, hc⟩
    · cases hb : x.testBit m
      · rw [hb] at h; simp at h; omega
      · rw [hb] at h; simp at h
        exact ⟨m, by omega, hb, by omega⟩

theorem cnt_lt_of_bit (x i m : Nat) (h : i < m) (hb : x.testBit i = true) : cnt x i < cnt x m := by
  have h1 : cnt x (i + 1) = cnt x i + 1 := by rw [cnt_succ, hb]; rfl
  have h2 := cnt_mono x (i + 1) m (by omega)
  omega

/-- y is x without its j lowest one bits. -/
def Without (x j y : Nat) : Prop := ∀ i, y.testBit i = (x.testBit i && decide (j ≤ cnt x i))

theorem without_zero (x : Nat) : Without x 0 x := fun i => by simp

theorem without_low (x j y p : Nat) (h : Without x j y) (hb : x.testBit p = true) (hc : cnt x p = j) : (∀ i, i < p → y.testBit i = false) ∧ y.testBit p = true := by
  refine ⟨fun i hi => ?_, ?_⟩
  · rw [h i]
    cases hx : x.testBit i
    · rfl
    · have := cnt_lt_of_bit x i p hi hx
      simp; omega
  · rw [h p, hb, hc]; simp

/-- A number whose lowest one bit is bit p. -/
theorem lowest_form (y p : Nat) (h0 : ∀ i, i < p → y.testBit i = false) (h1 : y.testBit p = true) : y = 2 ^ (p + 1) * (y / 2 ^ (p + 1)) + 2 ^ p := by
  have hm : y % 2 ^ (p + 1) = 2 ^ p := by
    apply Nat.eq_of_testBit_eq
    intro i
    rw [Nat.testBit_mod_two_pow, Nat.testBit_two_pow]
    by_cases hi : i < p
    · rw [h0 i hi]; simp; omega
    · by_cases e : i = p
      · subst e; rw [h1]; simp
      · have a1 : decide (i < p + 1) = false := by simp; omega
        have a2 : decide (p = i) = false := by simp; omega
        rw [a1, a2]; rfl
  have := Nat.div_add_mod y (2 ^ (p + 1))
  rw [hm] at this
  exact this.symm

theorem clear_lowest (y p : Nat) (h0 : ∀ i, i < p → y.testBit i = false) (h1 : y.testBit p = true) (i : Nat) : (y &&& (y - 1)).testBit i = (y.testBit i && decide (p < i)) := by
  have hy := lowest_form y p h0 h1
  have hpos : 0 < 2 ^ p := Nat.two_pow_pos p
  have hp2 : 2 ^ (p + 1) = 2 * 2 ^ p := by rw [Nat.pow_succ]; omega
  generalize hm : y / 2 ^ (p + 1) = m at *
  have hy1 : y - 1 = 2 ^ (p + 1) * m + (2 ^ p - 1) := by omega
  rw [Nat.testBit_and]
  by_cases hi : p < i
  · have hd : decide (p < i) = true := by simpa using hi
    rw [hd, hy1]
    have e1 : y.testBit i = m.testBit (i - (p + 1)) := by
      rw [hy, Nat.testBit_two_pow_mul_add _ (by omega), if_neg (by omega)]
    have e2 : (2 ^ (p + 1) * m + (2 ^ p - 1)).testBit i = m.testBit (i - (p + 1)) := by
      rw [Nat.testBit_two_pow_mul_add _ (by omega), if_neg (by omega)]
    rw [e1, e2]; simp
  · have hd : decide (p < i) = false := by simpa using hi
    rw [hd, hy1]
    have e2 : (2 ^ (p + 1) * m + (2 ^ p - 1)).testBit i = decide (i < p) := by
      rw [Nat.testBit_two_pow_mul_add _ (by omega), if_pos (by omega), Nat.testBit_two_pow_sub_one]
    rw [e2]
    by_cases hip : i < p
    · rw [h0 i hip]; rfl
    · have : decide (i < p) = false := by simpa using hip
      rw [this]

theorem without_succ (x j y p : Nat) (h : Without x j y) (hb : x.testBit p = true) (hc : cnt x p = j) : Without x (j + 1) (y &&& (y - 1)) := by
  obtain ⟨h0, h1⟩ := without_low x j y p h hb hc
  intro i
  rw [clear_lowest y p h0 h1 i, h i]
  cases hx : x.testBit i
  · rfl
  · simp only [Bool.true_and]
    by_cases hi : p < i
    · have h2 := cnt_lt_of_bit x p i hi hb
      have a1 : decide (p < i) = true := by simpa using hi
      have a2 : decide (j ≤ cnt x i) = true := by simp; omega
      have a3 : decide (j + 1 ≤ cnt x i) = true := by simp; omega
      rw [a1, a2, a3]; rfl
    · have h2 := cnt_mono x i p (by omega)
      have a1 : decide (p < i) = false := by simpa using hi
      have a3 : decide (j + 1 ≤ cnt x i) = false := by simp; omega
      rw [a1, a3]; simp

theorem without_ne (x j y p : Nat) (h : Without x j y) (hb : x.testBit p = true) (hc : cnt x p = j) : y ≠ 0 := by
  intro e
  have := (without_low x j y p h hb hc).2
  rw [e] at this
  simp at this

/-- The number of trailing zeros is the place of the lowest one bit. -/
theorem ctz_lowest (y p : Nat) (hy : y < 18446744073709551616) (h0 : ∀ i, i < p → y.testBit i = false) (h1 : y.testBit p = true) : Lib.ctz 64 y = p := by
  have hne : y ≠ 0 := by intro e; rw [e] at h1; simp at h1
  obtain ⟨m, hm, hk⟩ := Lib.ctzFrom_spec 64 y (by omega) hy
  have e : Lib.ctz 64 y = Lib.ctzFrom 64 y := by simp [Lib.ctz, hne]
  rw [e]
  generalize Lib.ctzFrom 64 y = c at *
  have hb : ∀ i, y.testBit i = (decide (c ≤ i) && (2 * m + 1).testBit (i - c)) := by
    intro i
    rw [hm, Nat.mul_comm (2 ^ c), Nat.testBit_mul_two_pow]
  rcases Nat.lt_trichotomy c p with h | h | h
  · have := h0 c h
    rw [hb c] at this
    simp [Nat.testBit_zero] at this
  · exact h
  · rw [hb p] at h1
    have a1 : decide (c ≤ p) = false := by simp; omega
    rw [a1] at h1
    simp at h1

theorem clear_int (y : Nat) (hy : y < 18446744073709551616) (h : y ≠ 0) : bits BinOp.and IntKind.u64 (y : Int) ((y : Int) - 1) = ((y &&& (y - 1) : Nat) : Int) := by
  have e : ((y : Int) - 1) = ((y - 1 : Nat) : Int) := by omega
  rw [e, bits_and_u64_nat _ _ hy (by omega)]

theorem clear_lt (y : Nat) (hy : y < 18446744073709551616) : y &&& (y - 1) < 18446744073709551616 := Nat.lt_of_le_of_lt Nat.and_le_left hy

/-- The place in the table that names p. -/
def spot (p : Nat) : Nat := 2 ^ p * 285870213051353865 % 18446744073709551616 / 288230376151711744

theorem spot_int (y p : Nat) (hy : y < 18446744073709551616) (h0 : ∀ i, i < p → y.testBit i = false) (h1 : y.testBit p = true) :
    IntKind.u64.wrap (bits BinOp.and IntKind.u64 (y : Int) (IntKind.u64.wrap (-(y : Int))) * 285870213051353865) / 288230376151711744 = (spot p : Int) := by
  have hne : y ≠ 0 := by intro e; rw [e] at h1; simp at h1
  have hl := (Lib.lowest_bit 64 y hne hy).1
  rw [ctz_lowest y p hy h0 h1] at hl
  have hneg : IntKind.u64.wrap (-(y : Int)) = ((2 ^ 64 - y : Nat) : Int) := by rw [IntKind.wrap_u64]; omega
  rw [hneg, bits_and_u64_nat y (2 ^ 64 - y) hy (by omega), hl, IntKind.wrap_u64]
  unfold spot
  generalize 2 ^ p = q
  omega

theorem spot_ok (p : Nat) (hp : p < 64) : spot p < 64 ∧ Lib.deBruijn64tab.getD (spot p) 0 = p := Lib.deBruijn64_at p hp
end Go.Proofs.YtmlekhgjnhnjlaaDoor.Words
