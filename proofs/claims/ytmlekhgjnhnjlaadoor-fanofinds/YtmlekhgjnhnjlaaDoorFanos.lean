/-
  Plain mathematics of the Elias-Fano encoding, of no program: its width, the places of its one bits, reading it back. No condition but what each theorem names.
-/
import Derived.Test.YtmlekhgjnhnjlaaDoorRow
namespace Go.Proofs.YtmlekhgjnhnjlaaDoor.Words
open Go Go.RowKit

/-- The largest w from 1 to k with n * 2^w at most B, or 0. -/
def fwTo (n B : Nat) : Nat → Nat
  | 0 => 0
  | k + 1 => if 0 < n ∧ n * 2 ^ (k + 1) ≤ B then k + 1 else fwTo n B k
/-- The width. -/
def fw (n B : Nat) : Nat := fwTo n B 20

theorem fwTo_le (n B : Nat) : ∀ k, fwTo n B k ≤ k
  | 0 => Nat.le_refl _
  | k + 1 => by
    rw [fwTo]
    split
    · exact Nat.le_refl _
    · have := fwTo_le n B k; omega
theorem fw_le (n B : Nat) : fw n B ≤ 20 := fwTo_le n B 20
theorem fw_zero (B : Nat) : fw 0 B = 0 := by
  have aux : ∀ k, fwTo 0 B k = 0 := by
    intro k
    induction k with
    | zero => rfl
    | succ k ih => rw [fwTo, if_neg (by omega)]; exact ih
  exact aux 20

theorem fwTo_spec (n B : Nat) : ∀ k, (fwTo n B k = 0 ∨ n * 2 ^ fwTo n B k ≤ B) ∧ (0 < n → ∀ j, fwTo n B k < j → j ≤ k → B < n * 2 ^ j)
  | 0 => ⟨.inl rfl, fun _ j h1 h2 => by omega⟩
  | k + 1 => by
    obtain ⟨h1, h2⟩ := fwTo_spec n B k
    rw [fwTo]
    split
    · rename_i h
      exact ⟨.inr h.2, fun _ j h3 h4 => by omega⟩
    · rename_i h
      refine ⟨h1, fun hn j h3 h4 => ?_⟩
      by_cases e : j = k + 1
      · subst e
        rcases Nat.lt_or_ge B (n * 2 ^ (k + 1)) with h5 | h5
        · exact h5
        · exact absurd ⟨hn, h5⟩ h
      · exact h2 hn j h3 (by omega)

/-- What the width is. -/
theorem fw_spec {n B : Nat} (hn : 0 < n) (hB : B ≤ 1048576) : (fw n B = 0 ∨ n * 2 ^ fw n B ≤ B) ∧ B < n * 2 ^ (fw n B + 1) := by
  obtain ⟨h1, h2⟩ := fwTo_spec n B 20
  refine ⟨h1, ?_⟩
  by_cases h : fw n B < 20
  · exact h2 hn _ (Nat.lt_succ_self _) h
  · have e : fw n B = 20 := by have := fw_le n B; omega
    rw [e]
    have h3 : 1 * 2 ^ 21 ≤ n * 2 ^ 21 := Nat.mul_le_mul_right _ hn
    omega

/-- No other number is. -/
theorem fw_uniq {n B w : Nat} (hn : 0 < n) (hB : B ≤ 1048576) (h1 : w = 0 ∨ n * 2 ^ w ≤ B) (h2 : B < n * 2 ^ (w + 1)) : w = fw n B := by
  obtain ⟨g1, g2⟩ := fw_spec hn hB
  generalize fw n B = v at *
  have key : ∀ a b : Nat, (b = 0 ∨ n * 2 ^ b ≤ B) → B < n * 2 ^ (a + 1) → b ≤ a := by
    intro a b hb ha
    rcases Nat.lt_or_ge a b with h | h
    · have h3 : n * 2 ^ (a + 1) ≤ n * 2 ^ b := Nat.mul_le_mul_left _ (Nat.pow_le_pow_right (by decide) h)
      rcases hb with hb | hb
      · omega
      · omega
    · exact h
  have := key w v g1 h2
  have := key v w h1 g2
  omega

/-- The high part is short. -/
theorem fw_high {n B : Nat} (hn : 0 < n) (hB : B ≤ 1048576) : B / 2 ^ fw n B < 2 * n := by
  obtain ⟨_, h⟩ := fw_spec hn hB
  rw [Nat.pow_succ] at h
  rw [Nat.div_lt_iff_lt_mul (Nat.two_pow_pos _)]
  have e : 2 * n * 2 ^ fw n B = n * (2 ^ fw n B * 2) := by rw [Nat.mul_comm 2 n, Nat.mul_assoc, Nat.mul_comm 2]
  rw [e]
  exact h

/-- A sequence that does not fall, of numbers at most B. -/
structure Rises (B : Nat) (l : List Nat) : Prop where
  le : ∀ i, i < l.length → l.getD i 0 ≤ B
  up : ∀ i, i + 1 < l.length → l.getD i 0 ≤ l.getD (i + 1) 0

theorem Rises.mono {B : Nat} {l : List Nat} (h : Rises B l) : ∀ j i, i ≤ j → j < l.length → l.getD i 0 ≤ l.getD j 0 := by
  intro j
  induction j with
  | zero => intro i hi _; obtain rfl : i = 0 := by omega
            exact Nat.le_refl _
  | succ j ih =>
    intro i hi hj
    by_cases e : i = j + 1
    · subst e; exact Nat.le_refl _
    · exact Nat.le_trans (ih i (by omega) (by omega)) (h.up j hj)

/-- The place of element i's one bit. -/
def fpos (w : Nat) (l : List Nat) (i : Nat) : Nat := l.getD i 0 / 2 ^ w + i

theorem fpos_lt {B : Nat} {l : List Nat} (h : Rises B l) (w : Nat) {i j : Nat} (hij : i < j) (hj : j < l.length) : fpos w l i < fpos w l j := by
  have := Nat.div_le_div_right (c := 2 ^ w) (h.mono j i (by omega) hj)
  unfold fpos
  omega

theorem fpos_hi {B : Nat} {l : List Nat} (h : Rises B l) (w : Nat) {i : Nat} (hi : i < l.length) : fpos w l i < B / 2 ^ w + l.length + 1 := by
  have := Nat.div_le_div_right (c := 2 ^ w) (h.le i hi)
  unfold fpos
  omega

/-- Is the bit at place p one, of the first n elements? -/
def fbit (w : Nat) (l : List Nat) (n p : Nat) : Bool := (List.range n).any fun i => fpos w l i == p

theorem fbit_iff (w : Nat) (l : List Nat) (n p : Nat) : fbit w l n p = true ↔ ∃ i, i < n ∧ fpos w l i = p := by
  unfold fbit
  rw [List.any_eq_true]
  constructor
  · rintro ⟨i, hi, e⟩
    exact ⟨i, List.mem_range.1 hi, by simpa using e⟩
  · rintro ⟨i, hi, e⟩
    exact ⟨i, List.mem_range.2 hi, by simpa using e⟩

/-- One element more. -/
theorem fbit_succ (w : Nat) (l : List Nat) (n p : Nat) : fbit w l (n + 1) p = (fbit w l n p || fpos w l n == p) := by
  unfold fbit
  rw [List.range_succ, List.any_append]
  simp

/-- The bits of the high part, of the first n elements: of all, n is the length. -/
def fhighTo (B : Nat) (l : List Nat) (n : Nat) : List Bool := (List.range (B / 2 ^ fw l.length B + l.length + 1)).map (fbit (fw l.length B) l n)
def fhigh (B : Nat) (l : List Nat) : List Bool := if l = [] then [] else fhighTo B l l.length

theorem fhighTo_length (B : Nat) (l : List Nat) (n : Nat) : (fhighTo B l n).length = B / 2 ^ fw l.length B + l.length + 1 := by simp [fhighTo]

theorem fhighTo_zero (B : Nat) (l : List Nat) : fhighTo B l 0 = List.replicate (B / 2 ^ fw l.length B + l.length + 1) false := by
  unfold fhighTo
  apply List.ext_getElem?
  intro p
  simp only [List.getElem?_map, List.getElem?_replicate]
  by_cases h : p < B / 2 ^ fw l.length B + l.length + 1
  · rw [List.getElem?_range h, if_pos h]
    rfl
  · rw [List.getElem?_eq_none (by simpa using h), if_neg h]
    rfl

theorem fhighTo_step {B : Nat} (l : List Nat) (n : Nat) : fhighTo B l (n + 1) = (fhighTo B l n).set (fpos (fw l.length B) l n) true := by
  unfold fhighTo
  apply List.ext_getElem?
  intro p
  rw [List.getElem?_set]
  simp only [List.getElem?_map, List.length_map, List.length_range]
  by_cases h : p < B / 2 ^ fw l.length B + l.length + 1
  · rw [List.getElem?_range h]
    simp only [Option.map_some]
    rw [fbit_succ]
    by_cases e : fpos (fw l.length B) l n = p
    · rw [if_pos e, e, if_pos h]
      simp
    · rw [if_neg e]
      simp [e]
  · rw [List.getElem?_eq_none (by simpa using h)]
    by_cases e : fpos (fw l.length B) l n = p
    · rw [if_pos e, e, if_neg h]
      rfl
    · rw [if_neg e]
      rfl

/-- How many one bits lie before p: so many elements have theirs there. -/
theorem ftally {B : Nat} {l : List Nat} (hR : Rises B l) (w p : Nat) : ∃ k, k ≤ l.length ∧ tally (fbit w l l.length) p = k ∧ (∀ i, i < k → fpos w l i < p) ∧ ∀ i, k ≤ i → i < l.length → p ≤ fpos w l i := by
  induction p with
  | zero => exact ⟨0, Nat.zero_le _, rfl, (fun i h => by omega), fun i _ _ => Nat.zero_le _⟩
  | succ p ih =>
    obtain ⟨k, hk, ht, h1, h2⟩ := ih
    have hs := tally_succ (fbit w l l.length) p
    by_cases hb : fbit w l l.length p = true
    · obtain ⟨i, hi, e⟩ := (fbit_iff w l l.length p).1 hb
      have hki : i = k := by
        rcases Nat.lt_trichotomy i k with h | h | h
        · have := h1 i h; omega
        · exact h
        · have := fpos_lt hR w h hi
          have := h2 k (Nat.le_refl _) (by omega)
          omega
      subst hki
      refine ⟨i + 1, hi, by rw [hs, ht, hb]; rfl, fun j hj => ?_, fun j h3 h4 => ?_⟩
      · by_cases ej : j = i
        · rw [ej]; omega
        · have := h1 j (by omega); omega
      · have := fpos_lt hR w (show i < j by omega) h4
        omega
    · have hb' : fbit w l l.length p = false := by simpa using hb
      refine ⟨k, hk, by rw [hs, ht, hb']; rfl, fun j hj => (by have := h1 j hj; omega), fun j h3 h4 => ?_⟩
      have := h2 j h3 h4
      have hne : fpos w l j ≠ p := fun e => hb ((fbit_iff w l l.length p).2 ⟨j, h4, e⟩)
      omega

/-- At element i's one bit there are i before it. -/
theorem ftally_at {B : Nat} {l : List Nat} (hR : Rises B l) (w : Nat) {i : Nat} (hi : i < l.length) : tally (fbit w l l.length) (fpos w l i) = i := by
  obtain ⟨k, hk, ht, h1, h2⟩ := ftally hR w (fpos w l i)
  rw [ht]
  rcases Nat.lt_trichotomy i k with h | h | h
  · have := h1 i h; omega
  · exact h.symm
  · have := h2 k (Nat.le_refl _) (by omega)
    have := fpos_lt hR w h hi
    omega

theorem ftally_all {B : Nat} {l : List Nat} (hR : Rises B l) (w : Nat) : tally (fbit w l l.length) (B / 2 ^ w + l.length + 1) = l.length := by
  obtain ⟨k, hk, ht, h1, h2⟩ := ftally hR w (B / 2 ^ w + l.length + 1)
  rw [ht]
  rcases Nat.lt_or_ge k l.length with h | h
  · have := h2 k (Nat.le_refl _) h
    have := fpos_hi hR w h
    omega
  · omega

/-- An element out of its place and its low bits. -/
theorem fvalue (w x i : Nat) : (x / 2 ^ w + i - i) * 2 ^ w + x % 2 ^ w = x := by
  rw [Nat.add_sub_cancel, Nat.mul_comm]
  exact Nat.div_add_mod x (2 ^ w)

/-- What is read of the places before p, of bits b and low parts f. -/
def fread (w : Nat) (f : Nat → Nat) (b : Nat → Bool) : Nat → List Nat
  | 0 => []
  | p + 1 => if b p then fread w f b p ++ [(p - tally b p) * 2 ^ w + f (tally b p)] else fread w f b p

theorem fread_length (w : Nat) (f : Nat → Nat) (b : Nat → Bool) : ∀ p, (fread w f b p).length = tally b p
  | 0 => rfl
  | p + 1 => by
    rw [fread, tally_succ]
    cases h : b p
    · simp [fread_length w f b p]
    · simp [fread_length w f b p]

/-- Numbers come back. -/
theorem fread_back {B : Nat} {l : List Nat} (hR : Rises B l) (w : Nat) (f : Nat → Nat) (hf : ∀ i, i < l.length → f i = l.getD i 0 % 2 ^ w) (p : Nat) : fread w f (fbit w l l.length) p = l.take (tally (fbit w l l.length) p) := by
  induction p with
  | zero => rfl
  | succ p ih =>
    rw [fread, tally_succ]
    cases hb : fbit w l l.length p
    · simpa using ih
    · obtain ⟨i, hi, e⟩ := (fbit_iff w l l.length p).1 hb
      have ht : tally (fbit w l l.length) p = i := by rw [← e]; exact ftally_at hR w hi
      rw [ih, ht]
      simp only [if_true, Bool.toNat_true]
      rw [List.take_add_one, hf i hi, ← e]
      unfold fpos
      rw [fvalue]
      have : l[i]? = some (l.getD i 0) := by rw [List.getD, List.getElem?_eq_getElem hi]; rfl
      rw [this]
      rfl

theorem fread_all {B : Nat} {l : List Nat} (hR : Rises B l) (w : Nat) (f : Nat → Nat) (hf : ∀ i, i < l.length → f i = l.getD i 0 % 2 ^ w) : fread w f (fbit w l l.length) (B / 2 ^ w + l.length + 1) = l := by
  rw [fread_back hR w f hf, ftally_all hR w, List.take_length]
end Go.Proofs.YtmlekhgjnhnjlaaDoor.Words
