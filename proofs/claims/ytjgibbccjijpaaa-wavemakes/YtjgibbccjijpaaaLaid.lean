/-
  Plain mathematics of bools laid in words of 64 bits, of no program: the words after i of them are laid, one step more, what bits they have. No condition but what each theorem names.
-/
import Derived.Test.YtjgibbccjijpaaaRow
namespace Go.Proofs.Ytjgibbccjijpaaa.Words
open Go Go.RowKit

/-- The number whose bits below k are p's. -/
def packTo (p : Nat → Bool) : Nat → Nat
  | 0 => 0
  | k + 1 => packTo p k + (p k).toNat * 2 ^ k

theorem packTo_lt (p : Nat → Bool) (k : Nat) : packTo p k < 2 ^ k := by
  induction k with
  | zero => simp [packTo]
  | succ k ih => rw [packTo, Nat.pow_succ]; cases p k <;> simp <;> omega

theorem packTo_bit (p : Nat → Bool) (k i : Nat) : (packTo p k).testBit i = (decide (i < k) && p i) := by
  induction k with
  | zero => simp [packTo]
  | succ k ih =>
    have hl := packTo_lt p k
    have e : packTo p (k + 1) = 2 ^ k * (p k).toNat + packTo p k := by rw [packTo, Nat.mul_comm]; omega
    rw [e, Nat.testBit_two_pow_mul_add _ hl]
    by_cases h : i < k
    · rw [if_pos h, ih]; simp [h, show i < k + 1 by omega]
    · rw [if_neg h]
      by_cases h2 : i = k
      · subst h2; cases hp : p i <;> simp
      · rw [show decide (i < k + 1) = false by simp; omega]
        cases p k
        · simp
        · rw [Nat.testBit_lt_two_pow (show (true : Bool).toNat < 2 ^ (i - k) from Nat.lt_of_lt_of_le (show 1 < 2 ^ 1 by decide) (Nat.pow_le_pow_right (by decide) (by omega)))]; rfl

theorem pack_word (p : Nat → Bool) (k : Nat) (h : k ≤ 64) : packTo p k < 18446744073709551616 :=
  Nat.lt_of_lt_of_le (packTo_lt p k) (Nat.pow_le_pow_right (n := 2) (j := 64) (by decide) h)

/-- The words, m of them, after i bools are laid. -/
def laid (l : List Bool) (i m : Nat) : List Nat := (List.range m).map fun j => packTo (fun b => l.getD (64 * j + b) false) (min 64 (i - 64 * j))

/-- The words of a list of bools. -/
def rowOf (l : List Bool) : List Nat := laid l l.length ((l.length + 63) / 64)

theorem laid_length (l : List Bool) (i m : Nat) : (laid l i m).length = m := by simp [laid]
theorem laid_get (l : List Bool) (i m j : Nat) (h : j < m) : (laid l i m)[j]? = some (packTo (fun b => l.getD (64 * j + b) false) (min 64 (i - 64 * j))) := by
  unfold laid
  rw [List.getElem?_map, List.getElem?_range h]; rfl
theorem laid_word (l : List Bool) (i m : Nat) : ∀ x ∈ laid l i m, x < 18446744073709551616 := by
  intro x hx
  obtain ⟨j, _, rfl⟩ := List.mem_map.1 hx
  exact pack_word _ _ (by omega)
theorem laid_zero (l : List Bool) (m : Nat) : laid l 0 m = List.replicate m 0 := by
  unfold laid
  apply List.ext_getElem?
  intro j
  by_cases h : j < m
  · rw [List.getElem?_map, List.getElem?_range h, List.getElem?_replicate, if_pos h]; simp [packTo]
  · rw [List.getElem?_eq_none (by simpa using h), List.getElem?_eq_none (by simpa using h)]

/-- One bool more. -/
theorem laid_step (l : List Bool) (i m : Nat) (h : i / 64 < m) :
    laid l (i + 1) m = (laid l i m).set (i / 64) (packTo (fun b => l.getD (64 * (i / 64) + b) false) (i % 64) + (l.getD i false).toNat * 2 ^ (i % 64)) := by
  apply List.ext_getElem?
  intro j
  by_cases hj : j < m
  · rw [laid_get _ _ _ _ hj]
    by_cases e : i / 64 = j
    · subst e
      rw [List.getElem?_set_self (by rw [laid_length]; exact h)]
      rw [show min 64 (i + 1 - 64 * (i / 64)) = i % 64 + 1 by omega, packTo, show 64 * (i / 64) + i % 64 = i by omega]
    · rw [List.getElem?_set_ne e, laid_get _ _ _ _ hj, show min 64 (i + 1 - 64 * j) = min 64 (i - 64 * j) by omega]
  · rw [List.getElem?_eq_none (by rw [laid_length]; omega), List.getElem?_eq_none (by rw [List.length_set, laid_length]; omega)]

theorem laid_at (l : List Bool) (i m : Nat) (h : i / 64 < m) : (laid l i m)[i / 64]? = some (packTo (fun b => l.getD (64 * (i / 64) + b) false) (i % 64)) := by
  rw [laid_get _ _ _ _ h, show min 64 (i - 64 * (i / 64)) = i % 64 by omega]

/-- A false bool lays nothing. -/
theorem laid_skip (l : List Bool) (i m : Nat) (h : i / 64 < m) (hb : l.getD i false = false) : laid l (i + 1) m = laid l i m := by
  rw [laid_step l i m h, hb]
  apply List.ext_getElem?
  intro j
  by_cases e : i / 64 = j
  · subst e
    rw [List.getElem?_set_self (by rw [laid_length]; exact h), laid_at l i m h]; simp
  · rw [List.getElem?_set_ne e]

/-- One word more, still empty. -/
theorem laid_more (l : List Bool) (i m : Nat) (h : i ≤ 64 * m) : laid l i (m + 1) = laid l i m ++ [0] := by
  unfold laid
  rw [List.range_succ, List.map_append, List.map_cons, List.map_nil, show min 64 (i - 64 * m) = 0 by omega]; rfl

theorem rowOf_length (l : List Bool) : (rowOf l).length = (l.length + 63) / 64 := laid_length _ _ _
theorem rowOf_word (l : List Bool) : ∀ x ∈ rowOf l, x < 18446744073709551616 := laid_word _ _ _

theorem rowOf_bit (l : List Bool) (i : Nat) (h : i < 64 * ((l.length + 63) / 64)) : bit (rowOf l) i = l.getD i false := by
  have hd : (rowOf l).getD (i / 64) 0 = packTo (fun b => l.getD (64 * (i / 64) + b) false) (min 64 (l.length - 64 * (i / 64))) := by
    unfold rowOf
    rw [List.getD, laid_get _ _ _ _ (by omega)]; rfl
  unfold bit
  rw [hd, packTo_bit, show 64 * (i / 64) + i % 64 = i by omega]
  by_cases hl : i < l.length
  · rw [show decide (i % 64 < min 64 (l.length - 64 * (i / 64))) = true by simp; omega]; rfl
  · rw [List.getD, List.getElem?_eq_none (by omega)]; simp

theorem rowOf_valid (l : List Bool) (h : l.length ≤ 4096) : Valid l.length (rowOf l) :=
  ⟨h, rowOf_length l, fun i h1 h2 => by
    rw [rowOf_length] at h2
    rw [rowOf_bit l i h2, List.getD, List.getElem?_eq_none h1]; rfl⟩

/-- How many of the first k bools are true, of a list and of its vector. -/
theorem tally_row (l : List Bool) (k : Nat) (h : k ≤ l.length) : tally (bit (rowOf l)) k = tally (fun i => l.getD i false) k :=
  tally_congr fun i hi => rowOf_bit l i (by omega)

theorem tally_join (a b : List Bool) (k : Nat) (h : k ≤ a.length + b.length) : tally (bit (rowOf a)) (min k a.length) + tally (bit (rowOf b)) (k - a.length) = tally (bit (rowOf (a ++ b))) k := by
  rw [tally_row a _ (by omega), tally_row b _ (by omega), tally_row (a ++ b) k (by simpa using h)]
  have hl : ∀ i, i < a.length → (a ++ b).getD i false = a.getD i false := fun i hi => by simp [List.getD, List.getElem?_append_left hi]
  by_cases hk : k ≤ a.length
  · rw [show min k a.length = k by omega, show k - a.length = 0 by omega]
    exact tally_congr fun i hi => (hl i (by omega)).symm
  · obtain ⟨d, rfl⟩ := Nat.exists_eq_add_of_le (show a.length ≤ k by omega)
    rw [show min (a.length + d) a.length = a.length by omega, show a.length + d - a.length = d by omega, tally_add]
    congr 1
    · exact tally_congr fun i hi => (hl i hi).symm
    · exact tally_congr fun i hi => by simp [List.getD, List.getElem?_append_right (show a.length ≤ a.length + i by omega)]

theorem or_bit_int (x k : Nat) (hk : k < 64) (hx : x < 2 ^ k) : bits BinOp.or IntKind.u64 (x : Int) (IntKind.u64.wrap (2 ^ k)) = ((x + 2 ^ k : Nat) : Int) := by
  have hp : 2 ^ k ≤ 9223372036854775808 := Nat.pow_le_pow_right (n := 2) (j := 63) (by decide) (by omega)
  have e : ((2 : Int) ^ k) = ((2 ^ k : Nat) : Int) := by simp
  have e2 : IntKind.u64.wrap ((2 ^ k : Nat) : Int) = ((2 ^ k : Nat) : Int) := by
    rw [IntKind.wrap_u64]
    generalize 2 ^ k = p at *
    omega
  rw [e, e2, bits_or_u64_nat x _ (by omega) (by omega)]
  congr 1
  have := Nat.two_pow_add_eq_or_of_lt hx 1
  rw [Nat.mul_one] at this
  rw [Nat.or_comm, ← this]; omega

theorem add_bit_int (x k : Nat) (hk : k < 64) (hx : x < 2 ^ k) : IntKind.u64.wrap ((x : Int) + IntKind.u64.wrap (2 ^ k)) = ((x + 2 ^ k : Nat) : Int) := by
  have hp : 2 ^ k ≤ 9223372036854775808 := Nat.pow_le_pow_right (n := 2) (j := 63) (by decide) (by omega)
  have e : ((2 : Int) ^ k) = ((2 ^ k : Nat) : Int) := by simp
  rw [e, IntKind.wrap_u64, IntKind.wrap_u64]
  generalize 2 ^ k = p at *
  omega
end Go.Proofs.Ytjgibbccjijpaaa.Words
