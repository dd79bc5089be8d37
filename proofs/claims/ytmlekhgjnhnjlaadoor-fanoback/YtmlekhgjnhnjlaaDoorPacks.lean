/-
  Plain mathematics of packed arrays, of no program: numbers of a fixed number of bits laid in words of 64 bits, what makes an array valid, reading and laying a number over a word's end, the number of bits that a number needs. No condition but what each theorem names.
-/
import Derived.Test.YtmlekhgjnhnjlaaDoorLaid
import Derived.Lib.BitFns
namespace Go.Proofs.YtmlekhgjnhnjlaaDoor.Words
open Go Go.RowKit

/-- What makes a packed array of n numbers with d bits each valid. -/
structure PValid (n d : Nat) (ws : List Nat) : Prop where
  hi : n ≤ 300
  wide : d ≤ 62
  len : ws.length = (n * d + 63) / 64
  top : ∀ i, n * d ≤ i → i < 64 * ws.length → bit ws i = false

theorem mul_bound {n d : Nat} (hn : n ≤ 300) (hd : d ≤ 62) : n * d ≤ 18600 := Nat.mul_le_mul hn hd

/-- Nothing beyond m, bit by bit. -/
theorem high_zero2 (x m : Nat) (hx : x < 18446744073709551616) : x / 2 ^ m = 0 ↔ ∀ i, m ≤ i → i < 64 → x.testBit i = false := by
  rw [← high_zero x m hx]
  constructor
  · intro h; rw [h]; simp
  · intro h
    rcases Nat.mul_eq_zero.1 h with h | h
    · exact h
    · have := Nat.two_pow_pos m; omega

/-- The test of the last word. -/
theorem pvalid_last (n d : Nat) (ws : List Nat) (j x : Nat) (hn : n ≤ 300) (hd : d ≤ 62) (hl : ws.length = (n * d + 63) / 64) (hj : ws.length = j + 1) (hx : ws[j]? = some x) (hlt : x < 18446744073709551616) :
    PValid n d ws ↔ x / 2 ^ (n * d - 64 * j) = 0 := by
  have hg : ws.getD j 0 = x := by simp [List.getD, hx]
  rw [high_zero2 x _ hlt]
  generalize hu : n * d = u at *
  constructor
  · intro h i hi hi2
    have := h.top (64 * j + i) (by omega) (by omega)
    rwa [bit_word ws j i hi2, hg] at this
  · intro h
    refine ⟨hn, hd, by rw [hu]; exact hl, fun i h1 h2 => ?_⟩
    have e : i = 64 * j + (i - 64 * j) := by omega
    rw [e, bit_word ws j _ (by omega), hg]
    exact h _ (by omega) (by omega)

theorem pvalid_nil (n d : Nat) (hn : n ≤ 300) (hd : d ≤ 62) (h : n * d = 0) : PValid n d [] := ⟨hn, hd, by rw [h]; rfl, fun i _ h => by simp at h⟩

/-- Number i of an array. -/
def numAt (ws : List Nat) (d i : Nat) : Nat := packTo (fun k => bit ws (i * d + k)) d

theorem numAt_lt (ws : List Nat) (d i : Nat) : numAt ws d i < 2 ^ d := packTo_lt _ _
theorem pow62 {d : Nat} (h : d ≤ 62) : 2 ^ d ≤ 4611686018427387904 := Nat.pow_le_pow_right (n := 2) (j := 62) (by decide) h

/-- Reading a number over a word's end. -/
theorem num_two (ws : List Nat) (d s j a b : Nat) (hd : d ≤ 62) (ha : ws.getD j 0 = a) (hb : ws.getD (j + 1) 0 = b) (hal : a < 18446744073709551616) (hs : s < 64) :
    (a / 2 ^ s ||| b * 2 ^ (64 - s) % 2 ^ 64) % 2 ^ d = packTo (fun k => bit ws (64 * j + s + k)) d := by
  apply Nat.eq_of_testBit_eq
  intro k
  rw [Nat.testBit_mod_two_pow, packTo_bit]
  by_cases hk : k < d
  · simp only [hk, decide_true, Bool.true_and]
    rw [Nat.testBit_or, Nat.testBit_div_two_pow, Nat.testBit_mod_two_pow, Nat.testBit_mul_two_pow]
    by_cases hl : s + k < 64
    · rw [Nat.add_assoc, bit_word ws j (s + k) hl, ha, Nat.add_comm s k]
      simp [show ¬ 64 - s ≤ k by omega]
    · rw [show 64 * j + s + k = 64 * (j + 1) + (k - (64 - s)) by omega, bit_word ws (j + 1) _ (by omega), hb]
      have hz : a.testBit (k + s) = false := Nat.testBit_lt_two_pow (Nat.lt_of_lt_of_le (show a < 2 ^ 64 from hal) (Nat.pow_le_pow_right (by decide) (by omega)))
      rw [hz]
      simp [show k < 64 by omega, show 64 - s ≤ k by omega]
  · simp [hk]

/-- Reading a number inside a word. -/
theorem num_one (ws : List Nat) (d s j a : Nat) (ha : ws.getD j 0 = a) (hs : s + d ≤ 64) :
    a / 2 ^ s % 2 ^ d = packTo (fun k => bit ws (64 * j + s + k)) d := by
  apply Nat.eq_of_testBit_eq
  intro k
  rw [Nat.testBit_mod_two_pow, packTo_bit]
  by_cases hk : k < d
  · simp only [hk, decide_true, Bool.true_and]
    rw [Nat.testBit_div_two_pow, Nat.add_assoc, bit_word ws j (s + k) (by omega), ha, Nat.add_comm s k]
  · simp [hk]

/-- The bits of numbers with d bits each, one behind the other. -/
def bitsOf (d : Nat) (l : List Nat) : List Bool := (List.range (l.length * d)).map fun p => (l.getD (p / d) 0).testBit (p % d)

/-- The words of a packed array. -/
def packWords (d : Nat) (l : List Nat) : List Nat := rowOf (bitsOf d l)

theorem bitsOf_length (d : Nat) (l : List Nat) : (bitsOf d l).length = l.length * d := by simp [bitsOf]

theorem place_lt {i n d k : Nat} (hi : i < n) (hk : k < d) : i * d + k < n * d := by
  have h1 : (i + 1) * d ≤ n * d := Nat.mul_le_mul_right d hi
  rw [Nat.add_mul, Nat.one_mul] at h1
  omega

theorem bitsOf_get (d : Nat) (l : List Nat) (i k : Nat) (hi : i < l.length) (hk : k < d) : (bitsOf d l).getD (i * d + k) false = (l.getD i 0).testBit k := by
  have hlt := place_lt hi hk
  unfold bitsOf
  rw [List.getD, List.getElem?_map, List.getElem?_range hlt]
  have e1 : (i * d + k) / d = i := by rw [Nat.mul_comm, Nat.mul_add_div (by omega), Nat.div_eq_of_lt hk]; rfl
  have e2 : (i * d + k) % d = k := by rw [Nat.mul_comm, Nat.mul_add_mod, Nat.mod_eq_of_lt hk]
  simp only [Option.map_some, Option.getD_some]
  rw [e1, e2]

theorem packWords_length (d : Nat) (l : List Nat) : (packWords d l).length = (l.length * d + 63) / 64 := by
  unfold packWords; rw [rowOf_length, bitsOf_length]
theorem packWords_word (d : Nat) (l : List Nat) : ∀ x ∈ packWords d l, x < 18446744073709551616 := rowOf_word _

theorem packWords_valid (d : Nat) (l : List Nat) (hn : l.length ≤ 300) (hd : d ≤ 62) : PValid l.length d (packWords d l) :=
  ⟨hn, hd, packWords_length d l, fun i h1 h2 => by
    rw [packWords_length] at h2
    unfold packWords
    rw [rowOf_bit _ i (by rw [bitsOf_length]; exact h2), List.getD, List.getElem?_eq_none (by rw [bitsOf_length]; exact h1)]; rfl⟩

/-- Every number comes back. -/
theorem packWords_num (d : Nat) (l : List Nat) (i : Nat) (hi : i < l.length) (hx : l.getD i 0 < 2 ^ d) : numAt (packWords d l) d i = l.getD i 0 := by
  unfold numAt
  apply Nat.eq_of_testBit_eq
  intro k
  rw [packTo_bit]
  by_cases hk : k < d
  · have hp := place_lt hi hk
    simp only [hk, decide_true, Bool.true_and]
    unfold packWords
    rw [rowOf_bit _ _ (by rw [bitsOf_length]; generalize l.length * d = u at *; omega), bitsOf_get d l i k hi hk]
  · simp only [hk, decide_false, Bool.false_and]
    exact (Nat.testBit_lt_two_pow (Nat.lt_of_lt_of_le hx (Nat.pow_le_pow_right (by decide) (by omega)))).symm

/-- The bits of a laid word. -/
theorem laid_bit (l : List Bool) (i j b : Nat) (hb : b < 64) : (packTo (fun b => l.getD (64 * j + b) false) (min 64 (i - 64 * j))).testBit b = (decide (64 * j + b < i) && l.getD (64 * j + b) false) := by
  rw [packTo_bit]
  congr 1
  simp only [decide_eq_decide]
  omega

/-- A number more, word by word. -/
def addAt (s j v p : Nat) : Nat := if p = j then v * 2 ^ s % 2 ^ 64 else if p = j + 1 then v / 2 ^ (64 - s) else 0

theorem addAt_bit (s j v p b : Nat) (hs : s < 64) (hv : v < 2 ^ 62) (hb : b < 64) : (addAt s j v p).testBit b = (decide (64 * j + s ≤ 64 * p + b) && v.testBit (64 * p + b - (64 * j + s))) := by
  unfold addAt
  by_cases h1 : p = j
  · rw [if_pos h1, Nat.testBit_mod_two_pow, Nat.testBit_mul_two_pow, h1, show 64 * j + b - (64 * j + s) = b - s by omega]
    simp [hb]
  · rw [if_neg h1]
    by_cases h2 : p = j + 1
    · rw [if_pos h2, Nat.testBit_div_two_pow, h2, show 64 * (j + 1) + b - (64 * j + s) = b + (64 - s) by omega, show decide (64 * j + s ≤ 64 * (j + 1) + b) = true by simp; omega]
      rfl
    · rw [if_neg h2, Nat.zero_testBit]
      by_cases h3 : 64 * j + s ≤ 64 * p + b
      · rw [Nat.testBit_lt_two_pow (Nat.lt_of_lt_of_le hv (Nat.pow_le_pow_right (by decide) (by omega)))]; simp
      · simp [h3]

/-- The words behind number i, out of those ahead of it. -/
theorem laid_num (d : Nat) (l : List Nat) (i p m : Nat) (hi : i < l.length) (hd : d ≤ 62) (hv : l.getD i 0 < 2 ^ d) (hp : p < m) :
    (laid (bitsOf d l) ((i + 1) * d) m).getD p 0 = (laid (bitsOf d l) (i * d) m).getD p 0 ||| addAt (i * d % 64) (i * d / 64) (l.getD i 0) p := by
  rw [List.getD, List.getD, laid_get _ _ _ _ hp, laid_get _ _ _ _ hp]
  simp only [Option.getD_some]
  have hv2 : l.getD i 0 < 2 ^ 62 := Nat.lt_of_lt_of_le hv (Nat.pow_le_pow_right (by decide) hd)
  apply Nat.eq_of_testBit_eq
  intro b
  rw [Nat.testBit_or]
  by_cases hb : b < 64
  · rw [laid_bit _ _ _ _ hb, laid_bit _ _ _ _ hb, addAt_bit _ _ _ _ _ (by omega) hv2 hb, show 64 * (i * d / 64) + i * d % 64 = i * d by omega]
    by_cases h1 : 64 * p + b < i * d
    · have h2 : 64 * p + b < (i + 1) * d := by rw [Nat.add_mul]; omega
      simp [h1, h2, show ¬ i * d ≤ 64 * p + b by omega]
    · obtain ⟨k, hk⟩ : ∃ k, 64 * p + b = i * d + k := ⟨64 * p + b - i * d, by omega⟩
      rw [hk, show i * d + k - i * d = k by omega]
      by_cases h2 : k < d
      · rw [bitsOf_get d l i k hi h2]
        have h3 : i * d + k < (i + 1) * d := by rw [Nat.add_mul]; omega
        simp [h3]
      · have h3 : ¬ i * d + k < (i + 1) * d := by rw [Nat.add_mul]; omega
        rw [Nat.testBit_lt_two_pow (Nat.lt_of_lt_of_le hv (Nat.pow_le_pow_right (by decide) (by omega)))]
        simp [h3, show ¬ i * d + k < i * d by omega]
  · have hz : ∀ y : Nat, y < 2 ^ 64 → y.testBit b = false := fun y hy => Nat.testBit_lt_two_pow (Nat.lt_of_lt_of_le hy (Nat.pow_le_pow_right (by decide) (by omega)))
    rw [hz _ (pack_word _ _ (by omega)), hz _ (pack_word _ _ (by omega)), hz]
    · rfl
    · unfold addAt
      split
      · exact Nat.mod_lt _ (by decide)
      · split
        · exact Nat.lt_of_le_of_lt (Nat.div_le_self _ _) (Nat.lt_of_lt_of_le hv2 (by decide))
        · decide

/-- What the words become where v is or'ed in at place s of word j. -/
def laidOn (ws : List Nat) (s j v : Nat) : List Nat :=
  if v = 0 then ws
  else if v / 2 ^ (64 - s) = 0 then ws.set j (ws.getD j 0 ||| v * 2 ^ s % 2 ^ 64)
  else (ws.set j (ws.getD j 0 ||| v * 2 ^ s % 2 ^ 64)).set (j + 1) (ws.getD (j + 1) 0 ||| v / 2 ^ (64 - s))

theorem getD_set (ws : List Nat) (j p x : Nat) (hj : j < ws.length) : (ws.set j x).getD p 0 = if p = j then x else ws.getD p 0 := by
  rw [List.getD, List.getD]
  by_cases e : p = j
  · subst e; rw [if_pos rfl, List.getElem?_set_self hj]; rfl
  · rw [if_neg e, List.getElem?_set_ne (fun h => e h.symm)]

/-- The place of a number's words. -/
theorem words_room (d n i v m : Nat) (hi : i < n) (hm : n * d ≤ 64 * m) (hv : v < 2 ^ d) (h0 : v ≠ 0) : i * d / 64 < m ∧ (v / 2 ^ (64 - i * d % 64) ≠ 0 → i * d / 64 + 1 < m) := by
  have h1 : (i + 1) * d ≤ n * d := Nat.mul_le_mul_right d hi
  rw [Nat.add_mul, Nat.one_mul] at h1
  have hd : 0 < d := by
    rcases Nat.eq_zero_or_pos d with e | e
    · subst e; simp at hv; omega
    · exact e
  refine ⟨by omega, fun h => ?_⟩
  have h2 : 64 - i * d % 64 < d := by
    rcases Nat.lt_or_ge (64 - i * d % 64) d with h3 | h3
    · exact h3
    · exact absurd (Nat.div_eq_of_lt (Nat.lt_of_lt_of_le hv (Nat.pow_le_pow_right (by decide) h3))) h
  omega

/-- One number more. -/
theorem laid_put (d : Nat) (l : List Nat) (i m : Nat) (hi : i < l.length) (hd : d ≤ 62) (hv : l.getD i 0 < 2 ^ d) (hm : l.length * d ≤ 64 * m) :
    laid (bitsOf d l) ((i + 1) * d) m = laidOn (laid (bitsOf d l) (i * d) m) (i * d % 64) (i * d / 64) (l.getD i 0) := by
  have key := fun p (hp : p < m) => laid_num d l i p m hi hd hv hp
  have hroom := words_room d l.length i (l.getD i 0) m hi hm hv
  have hlen := laid_length (bitsOf d l) (i * d) m
  have hlen2 := laid_length (bitsOf d l) ((i + 1) * d) m
  generalize laid (bitsOf d l) ((i + 1) * d) m = new at *
  generalize laid (bitsOf d l) (i * d) m = old at *
  generalize l.getD i 0 = v at *
  generalize i * d % 64 = s at *
  generalize i * d / 64 = j at *
  have hext : ∀ ys : List Nat, ys.length = m → (∀ p, p < m → new.getD p 0 = ys.getD p 0) → new = ys := by
    intro ys hy h
    apply List.ext_getElem?
    intro p
    by_cases hp : p < m
    · have := h p hp
      rw [List.getD, List.getD, List.getElem?_eq_getElem (by omega), List.getElem?_eq_getElem (by omega)] at this
      rw [List.getElem?_eq_getElem (by omega), List.getElem?_eq_getElem (by omega)]
      exact congrArg some this
    · rw [List.getElem?_eq_none (by omega), List.getElem?_eq_none (by omega)]
  unfold laidOn
  by_cases h0 : v = 0
  · rw [if_pos h0]
    refine hext _ hlen fun p hp => ?_
    rw [key p hp, h0]
    simp [addAt]
  · rw [if_neg h0]
    obtain ⟨r1, r2⟩ := hroom h0
    by_cases hz : v / 2 ^ (64 - s) = 0
    · rw [if_pos hz]
      refine hext _ (by rw [List.length_set]; exact hlen) fun p hp => ?_
      rw [key p hp, getD_set _ _ _ _ (by omega)]
      unfold addAt
      by_cases h1 : p = j
      · rw [if_pos h1, if_pos h1, h1]
      · rw [if_neg h1, if_neg h1, hz]; simp
    · rw [if_neg hz]
      have r3 := r2 hz
      refine hext _ (by rw [List.length_set, List.length_set]; exact hlen) fun p hp => ?_
      rw [key p hp, getD_set _ _ _ _ (by rw [List.length_set]; omega), getD_set _ _ _ _ (by omega)]
      unfold addAt
      by_cases h1 : p = j
      · rw [if_pos h1, if_pos h1, if_neg (by omega), h1]
      · rw [if_neg h1, if_neg h1]
        by_cases h2 : p = j + 1
        · rw [if_pos h2, if_pos h2, h2]
        · rw [if_neg h2, if_neg h2]; simp

theorem laidOn_length (ws : List Nat) (s j v : Nat) : (laidOn ws s j v).length = ws.length := by
  unfold laidOn
  split
  · rfl
  · split <;> simp

/-- How many bits a number needs. -/
theorem bitLen_lt (x : Nat) (hx : x < 18446744073709551616) (k : Nat) : Lib.bitLen x ≤ k ↔ x < 2 ^ k := by
  have aux : ∀ f x k, x < 2 ^ f → (Lib.bitLenAux f x ≤ k ↔ x < 2 ^ k) := by
    intro f
    induction f with
    | zero => intro x k h; have : x = 0 := by simpa using h
              subst this; simp [Lib.bitLenAux, Nat.two_pow_pos]
    | succ f ih =>
      intro x k h
      rw [Lib.bitLenAux]
      by_cases h0 : x = 0
      · subst h0; simp [Nat.two_pow_pos]
      · rw [if_neg h0]
        cases k with
        | zero => simp; omega
        | succ k =>
          rw [show 1 + Lib.bitLenAux f (x / 2) ≤ k + 1 ↔ Lib.bitLenAux f (x / 2) ≤ k by omega, ih (x / 2) k (by rw [Nat.pow_succ] at h; omega), Nat.pow_succ]
          omega
  exact aux 64 x k hx
end Go.Proofs.YtmlekhgjnhnjlaaDoor.Words
