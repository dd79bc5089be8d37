/-
  Plain mathematics of range maximum queries, of no program: the place of the first greatest number of a range, the sparse table, the parents of the Cartesian tree, what lies above a place. No condition but what each theorem names.
-/
import Derived.Test.YtefgfkicacbmeaaWords
namespace Go.Proofs.Ytefgfkicacbmeaa.Words
open Go Go.RowKit

/-- t is the first place of a greatest number from a to b, both within. -/
structure IsTop (f : Nat → Int) (a b t : Nat) : Prop where
  lo : a ≤ t
  hi : t ≤ b
  le : ∀ j, a ≤ j → j ≤ b → f j ≤ f t
  lt : ∀ j, a ≤ j → j < t → f j < f t

theorem IsTop.uniq {f : Nat → Int} {a b t u : Nat} (h : IsTop f a b t) (k : IsTop f a b u) : t = u := by
  rcases Nat.lt_trichotomy t u with e | e | e
  · have h1 := k.lt t h.lo e
    have h2 := h.le u k.lo k.hi
    omega
  · exact e
  · have h1 := h.lt u k.lo e
    have h2 := k.le t h.lo h.hi
    omega

theorem IsTop.one (f : Nat → Int) (a : Nat) : IsTop f a a a :=
  ⟨Nat.le_refl _, Nat.le_refl _, fun j h1 h2 => by rw [show j = a by omega]; exact Int.le_refl _, fun j h1 h2 => by omega⟩

/-- One place more. -/
theorem IsTop.more {f : Nat → Int} {a b t : Nat} (h : IsTop f a b t) : IsTop f a (b + 1) (if f t < f (b + 1) then b + 1 else t) := by
  have h0 := h.lo
  have h1 := h.hi
  by_cases hc : f t < f (b + 1)
  · rw [if_pos hc]
    refine ⟨by omega, Nat.le_refl _, fun j h2 h3 => ?_, fun j h2 h3 => ?_⟩
    · by_cases e : j = b + 1
      · rw [e]; exact Int.le_refl _
      · have := h.le j h2 (by omega); omega
    · have := h.le j h2 (by omega); omega
  · rw [if_neg hc]
    refine ⟨h0, by omega, fun j h2 h3 => ?_, h.lt⟩
    by_cases e : j = b + 1
    · rw [e]; omega
    · exact h.le j h2 (by omega)

/-- The first greatest from a on, of n + 1 places. -/
def topN (f : Nat → Int) (a : Nat) : Nat → Nat
  | 0 => a
  | n + 1 => if f (topN f a n) < f (a + n + 1) then a + n + 1 else topN f a n

theorem topN_is (f : Nat → Int) (a : Nat) : ∀ n, IsTop f a (a + n) (topN f a n)
  | 0 => IsTop.one f a
  | n + 1 => (topN_is f a n).more

/-- Of two ranges that meet or overlap. -/
theorem IsTop.join {f : Nat → Int} {a b c d t u : Nat} (h : IsTop f a c t) (k : IsTop f d b u) (h1 : a ≤ d) (h2 : d ≤ c + 1) (h3 : c ≤ b) : IsTop f a b (if f t < f u then u else t) := by
  have t0 := h.lo
  have t1 := h.hi
  have u0 := k.lo
  have u1 := k.hi
  by_cases hc : f t < f u
  · rw [if_pos hc]
    have hcu : c < u := by
      rcases Nat.lt_or_ge c u with e | e
      · exact e
      · have := h.le u (by omega) e; omega
    refine ⟨by omega, u1, fun j h4 h5 => ?_, fun j h4 h5 => ?_⟩
    · by_cases e : j ≤ c
      · have := h.le j h4 e; omega
      · exact k.le j (by omega) h5
    · by_cases e : j ≤ c
      · have := h.le j h4 e; omega
      · exact k.lt j (by omega) h5
  · rw [if_neg hc]
    refine ⟨t0, by omega, fun j h4 h5 => ?_, h.lt⟩
    by_cases e : j ≤ c
    · exact h.le j h4 e
    · have := k.le j (by omega) h5; omega

/-- A part that holds the top has it as its top. -/
theorem IsTop.part {f : Nat → Int} {a b c d t : Nat} (h : IsTop f a b t) (h1 : a ≤ c) (h2 : c ≤ t) (h3 : t ≤ d) (h4 : d ≤ b) : IsTop f c d t :=
  ⟨h2, h3, fun j h5 h6 => h.le j (by omega) (by omega), fun j h5 h6 => h.lt j (by omega) h6⟩

/-- How many rows a table over n numbers has: those k with 2^k at most n. -/
def lev (n : Nat) : Nat := if n = 0 then 0 else Nat.log2 n + 1

theorem lev_iff (n k : Nat) : k < lev n ↔ 2 ^ k ≤ n := by
  unfold lev
  by_cases h : n = 0
  · rw [if_pos h, h]
    have := Nat.two_pow_pos k
    omega
  · rw [if_neg h, Nat.lt_succ_iff]
    exact Nat.le_log2 h

/-- Row k of the table over n numbers: n + 1 - 2^k places. -/
def spRow (f : Nat → Int) (n k : Nat) : List Nat := (List.range (n + 1 - 2 ^ k)).map fun i => topN f i (2 ^ k - 1)
/-- The table. -/
def spTab (f : Nat → Int) (n : Nat) : List (List Nat) := (List.range (lev n)).map (spRow f n)

theorem spRow_length (f : Nat → Int) (n k : Nat) : (spRow f n k).length = n + 1 - 2 ^ k := by simp [spRow]
theorem spTab_length (f : Nat → Int) (n : Nat) : (spTab f n).length = lev n := by simp [spTab]
theorem spTab_get (f : Nat → Int) (n k : Nat) (h : k < lev n) : (spTab f n)[k]? = some (spRow f n k) := by
  unfold spTab
  rw [List.getElem?_map, List.getElem?_range h]
  rfl
theorem spRow_get (f : Nat → Int) (n k i : Nat) (h : i + 2 ^ k ≤ n) : (spRow f n k)[i]? = some (topN f i (2 ^ k - 1)) := by
  unfold spRow
  rw [List.getElem?_map, List.getElem?_range (by omega)]
  rfl
theorem spRow_top (f : Nat → Int) (n k i x : Nat) (h : (spRow f n k)[i]? = some x) : i + 2 ^ k ≤ n ∧ IsTop f i (i + 2 ^ k - 1) x := by
  have hp := Nat.two_pow_pos k
  have hi : i < (spRow f n k).length := by
    rcases Nat.lt_or_ge i (spRow f n k).length with e | e
    · exact e
    · rw [List.getElem?_eq_none e] at h; cases h
  rw [spRow_length] at hi
  have h1 : i + 2 ^ k ≤ n := by omega
  rw [spRow_get f n k i h1] at h
  have := topN_is f i (2 ^ k - 1)
  rw [Option.some.inj h, show i + (2 ^ k - 1) = i + 2 ^ k - 1 by omega] at this
  exact ⟨h1, this⟩

/-- A row out of the one before it. -/
theorem topN_double (f : Nat → Int) (i k : Nat) : topN f i (2 ^ (k + 1) - 1) = if f (topN f i (2 ^ k - 1)) < f (topN f (i + 2 ^ k) (2 ^ k - 1)) then topN f (i + 2 ^ k) (2 ^ k - 1) else topN f i (2 ^ k - 1) := by
  have hp := Nat.two_pow_pos k
  have h1 := topN_is f i (2 ^ k - 1)
  have h2 := topN_is f (i + 2 ^ k) (2 ^ k - 1)
  have h3 := topN_is f i (2 ^ (k + 1) - 1)
  have hj := h1.join h2 (by omega) (by omega) (by omega)
  rw [show i + (2 ^ (k + 1) - 1) = i + 2 ^ k + (2 ^ k - 1) by rw [Nat.pow_succ]; omega] at h3
  exact h3.uniq hj

/-- A range's top out of the two rows' entries that cover it. -/
theorem topN_cover (f : Nat → Int) (a n k : Nat) (h1 : 2 ^ k ≤ n + 1) (h2 : n + 1 ≤ 2 * 2 ^ k) : topN f a n = if f (topN f a (2 ^ k - 1)) < f (topN f (a + n + 1 - 2 ^ k) (2 ^ k - 1)) then topN f (a + n + 1 - 2 ^ k) (2 ^ k - 1) else topN f a (2 ^ k - 1) := by
  have hp := Nat.two_pow_pos k
  have g1 := topN_is f a (2 ^ k - 1)
  have g2 := topN_is f (a + n + 1 - 2 ^ k) (2 ^ k - 1)
  rw [show a + n + 1 - 2 ^ k + (2 ^ k - 1) = a + n by omega] at g2
  exact (topN_is f a n).uniq (g1.join g2 (by omega) (by omega) (by omega))
end Go.Proofs.Ytefgfkicacbmeaa.Words
