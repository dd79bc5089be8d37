/-
  Plain mathematics of the Cartesian tree, of no program: the parent of a place, found part by part, is told by the nearest places with greater numbers; what lies above a place; where the ways of two places meet. No condition but what each theorem names.
-/
import Derived.Test.YtfijlcaiklhpiaaTops
import Derived.Test.YtfijlcaiklhpiaaRow
namespace Go.Proofs.Ytfijlcaiklhpiaa.Words
open Go Go.RowKit

/-- The parent of place i in the tree of the places from a up to b (b left out), under p; part by part. -/
def par (f : Nat → Int) : Nat → Nat → Nat → Int → Nat → Int
  | 0, _, _, p, _ => p
  | k + 1, a, b, p, i =>
    if b ≤ a then p
    else if i = topN f a (b - a - 1) then p
    else if i < topN f a (b - a - 1) then par f k a (topN f a (b - a - 1)) (topN f a (b - a - 1) : Nat) i
    else par f k (topN f a (b - a - 1) + 1) b (topN f a (b - a - 1) : Nat) i

/-- The nearest place before i, from a on, whose number is not below that of i; that there is none. -/
structure IsL (f : Nat → Int) (a i l : Nat) : Prop where
  lo : a ≤ l
  hi : l < i
  ge : f i ≤ f l
  btw : ∀ j, l < j → j < i → f j < f i
def NoL (f : Nat → Int) (a i : Nat) : Prop := ∀ j, a ≤ j → j < i → f j < f i
/-- The nearest place behind i, before b, whose number is above that of i; that there is none. -/
structure IsR (f : Nat → Int) (b i r : Nat) : Prop where
  lo : i < r
  hi : r < b
  gt : f i < f r
  btw : ∀ j, i < j → j < r → f j ≤ f i
def NoR (f : Nat → Int) (b i : Nat) : Prop := ∀ j, i < j → j < b → f j ≤ f i

theorem l_or (f : Nat → Int) (a i : Nat) : NoL f a i ∨ ∃ l, IsL f a i l := by
  have aux : ∀ k, k ≤ i → (∀ j, i - k ≤ j → j < i → a ≤ j → f j < f i) ∨ ∃ l, IsL f a i l := by
    intro k
    induction k with
    | zero => exact fun _ => .inl fun j h1 h2 _ => by omega
    | succ k ih =>
      intro hk
      rcases ih (by omega) with h | h
      · by_cases ha : a ≤ i - (k + 1)
        · by_cases hc : f (i - (k + 1)) < f i
          · refine .inl fun j h1 h2 h3 => ?_
            by_cases e : j = i - (k + 1)
            · rw [e]; exact hc
            · exact h j (by omega) h2 h3
          · exact .inr ⟨i - (k + 1), ha, by omega, by omega, fun j h1 h2 => h j (by omega) h2 (by omega)⟩
        · exact .inl fun j h1 h2 h3 => h j (by omega) h2 h3
      · exact .inr h
  rcases aux i (Nat.le_refl _) with h | h
  · exact .inl fun j h1 h2 => h j (by omega) h2 h1
  · exact .inr h

theorem r_or (f : Nat → Int) (b i : Nat) : NoR f b i ∨ ∃ r, IsR f b i r := by
  induction b with
  | zero => exact .inl fun j h1 h2 => by omega
  | succ b ih =>
    rcases ih with h | ⟨r, h⟩
    · by_cases hib : i < b
      · by_cases hc : f b ≤ f i
        · refine .inl fun j h1 h2 => ?_
          by_cases e : j = b
          · rw [e]; exact hc
          · exact h j h1 (by omega)
        · exact .inr ⟨b, hib, Nat.lt_succ_self _, by omega, fun j h1 h2 => h j h1 h2⟩
      · exact .inl fun j h1 h2 => by omega
    · exact .inr ⟨r, h.lo, by have := h.hi; omega, h.gt, h.btw⟩

theorem IsL.uniq {f : Nat → Int} {a i l m : Nat} (h : IsL f a i l) (k : IsL f a i m) : l = m := by
  rcases Nat.lt_trichotomy l m with e | e | e
  · have h1 := h.btw m e k.hi
    have h2 := k.ge
    omega
  · exact e
  · have h1 := k.btw l e h.hi
    have h2 := h.ge
    omega
theorem IsR.uniq {f : Nat → Int} {b i r s : Nat} (h : IsR f b i r) (k : IsR f b i s) : r = s := by
  rcases Nat.lt_trichotomy r s with e | e | e
  · have h1 := k.btw r h.lo e
    have h2 := h.gt
    omega
  · exact e
  · have h1 := h.btw s k.lo e
    have h2 := k.gt
    omega
theorem IsL.none {f : Nat → Int} {a i l : Nat} (h : IsL f a i l) (k : NoL f a i) : False := by
  have h1 := k l h.lo h.hi
  have h2 := h.ge
  omega
theorem IsR.none {f : Nat → Int} {b i r : Nat} (h : IsR f b i r) (k : NoR f b i) : False := by
  have h1 := k r h.lo h.hi
  have h2 := h.gt
  omega

/-- x is the parent of i. -/
def IsPar (f : Nat → Int) (a b : Nat) (p : Int) (i : Nat) (x : Int) : Prop :=
  (NoL f a i ∧ NoR f b i ∧ x = p) ∨ (∃ l, IsL f a i l ∧ NoR f b i ∧ x = (l : Nat)) ∨ (∃ r, NoL f a i ∧ IsR f b i r ∧ x = (r : Nat)) ∨ (∃ l r, IsL f a i l ∧ IsR f b i r ∧ x = if f l < f r then (l : Int) else (r : Int))

theorem IsPar.uniq {f : Nat → Int} {a b : Nat} {p : Int} {i : Nat} {x y : Int} (h : IsPar f a b p i x) (k : IsPar f a b p i y) : x = y := by
  rcases h with ⟨h1, h2, rfl⟩ | ⟨l, h1, h2, rfl⟩ | ⟨r, h1, h2, rfl⟩ | ⟨l, r, h1, h2, rfl⟩
  · rcases k with ⟨k1, k2, rfl⟩ | ⟨m, k1, k2, rfl⟩ | ⟨s, k1, k2, rfl⟩ | ⟨m, s, k1, k2, rfl⟩
    · rfl
    · exact (k1.none h1).elim
    · exact (k2.none h2).elim
    · exact (k1.none h1).elim
  · rcases k with ⟨k1, k2, rfl⟩ | ⟨m, k1, k2, rfl⟩ | ⟨s, k1, k2, rfl⟩ | ⟨m, s, k1, k2, rfl⟩
    · exact (h1.none k1).elim
    · rw [h1.uniq k1]
    · exact (h1.none k1).elim
    · exact (k2.none h2).elim
  · rcases k with ⟨k1, k2, rfl⟩ | ⟨m, k1, k2, rfl⟩ | ⟨s, k1, k2, rfl⟩ | ⟨m, s, k1, k2, rfl⟩
    · exact (h2.none k2).elim
    · exact (k1.none h1).elim
    · rw [h2.uniq k2]
    · exact (k1.none h1).elim
  · rcases k with ⟨k1, k2, rfl⟩ | ⟨m, k1, k2, rfl⟩ | ⟨s, k1, k2, rfl⟩ | ⟨m, s, k1, k2, rfl⟩
    · exact (h1.none k1).elim
    · exact (h2.none k2).elim
    · exact (h1.none k1).elim
    · rw [h1.uniq k1, h2.uniq k2]

/-- The parent, part by part, is that of the nearest greater places. -/
theorem par_is (f : Nat → Int) : ∀ (k a b : Nat) (p : Int) (i : Nat), a ≤ i → i < b → b - a ≤ k → IsPar f a b p i (par f k a b p i)
  | 0, a, b, p, i, h1, h2, h3 => by omega
  | k + 1, a, b, p, i, h1, h2, h3 => by
    have ht := topN_is f a (b - a - 1)
    rw [show a + (b - a - 1) = b - 1 by omega] at ht
    rw [par, if_neg (by omega)]
    generalize topN f a (b - a - 1) = t at *
    have t0 := ht.lo
    have t1 := ht.hi
    by_cases e : i = t
    · rw [if_pos e]
      subst e
      exact .inl ⟨fun j h4 h5 => ht.lt j h4 h5, fun j h4 h5 => ht.le j (by omega) (by omega), rfl⟩
    · rw [if_neg e]
      by_cases hl : i < t
      · rw [if_pos hl]
        have ih := par_is f k a t (t : Nat) i h1 hl (by omega)
        generalize par f k a t (t : Nat) i = x at *
        have hft : f i < f t := ht.lt i h1 hl
        rcases ih with ⟨k1, k2, rfl⟩ | ⟨l, k1, k2, rfl⟩ | ⟨r, k1, k2, rfl⟩ | ⟨l, r, k1, k2, rfl⟩
        · exact .inr (.inr (.inl ⟨t, k1, ⟨hl, by omega, hft, fun j h4 h5 => k2 j h4 h5⟩, rfl⟩))
        · refine .inr (.inr (.inr ⟨l, t, k1, ⟨hl, by omega, hft, fun j h4 h5 => k2 j h4 h5⟩, ?_⟩))
          rw [if_pos (ht.lt l k1.lo (by have := k1.hi; omega))]
        · exact .inr (.inr (.inl ⟨r, k1, ⟨k2.lo, by have := k2.hi; omega, k2.gt, k2.btw⟩, rfl⟩))
        · exact .inr (.inr (.inr ⟨l, r, k1, ⟨k2.lo, by have := k2.hi; omega, k2.gt, k2.btw⟩, rfl⟩))
      · rw [if_neg hl]
        have ih := par_is f k (t + 1) b (t : Nat) i (by omega) h2 (by omega)
        generalize par f k (t + 1) b (t : Nat) i = x at *
        have hft : f i ≤ f t := ht.le i h1 (by omega)
        rcases ih with ⟨k1, k2, rfl⟩ | ⟨l, k1, k2, rfl⟩ | ⟨r, k1, k2, rfl⟩ | ⟨l, r, k1, k2, rfl⟩
        · exact .inr (.inl ⟨t, ⟨t0, by omega, hft, fun j h4 h5 => k1 j (by omega) h5⟩, k2, rfl⟩)
        · exact .inr (.inl ⟨l, ⟨by have := k1.lo; omega, k1.hi, k1.ge, k1.btw⟩, k2, rfl⟩)
        · refine .inr (.inr (.inr ⟨t, r, ⟨t0, by omega, hft, fun j h4 h5 => k1 j (by omega) h5⟩, k2, ?_⟩))
          have h4 := ht.le r (by have := k2.lo; omega) (by have := k2.hi; omega)
          rw [if_neg (by omega)]
        · exact .inr (.inr (.inr ⟨l, r, ⟨by have := k1.lo; omega, k1.hi, k1.ge, k1.btw⟩, k2, rfl⟩))

/-- The parent in the tree of n numbers; -1 at the root. -/
def parOf (f : Nat → Int) (n i : Nat) : Int := par f n 0 n (-1) i
theorem parOf_is (f : Nat → Int) {n i : Nat} (h : i < n) : IsPar f 0 n (-1) i (parOf f n i) := par_is f n 0 n (-1) i (Nat.zero_le _) h (by omega)
theorem parOf_of {f : Nat → Int} {n i : Nat} (h : i < n) {x : Int} (hx : IsPar f 0 n (-1) i x) : parOf f n i = x := (parOf_is f h).uniq hx

/-- j lies above i, or is i: it is the top of all from one to the other. -/
def Abv (f : Nat → Int) (i j : Nat) : Prop := IsTop f (min i j) (max i j) j

theorem Abv.self (f : Nat → Int) (i : Nat) : Abv f i i := by
  unfold Abv
  rw [Nat.min_self, Nat.max_self]
  exact IsTop.one f i
theorem abv_left {f : Nat → Int} {i j : Nat} (h : j ≤ i) : Abv f i j ↔ ∀ k, j ≤ k → k ≤ i → f k ≤ f j := by
  unfold Abv
  rw [Nat.min_eq_right h, Nat.max_eq_left h]
  exact ⟨fun hh => hh.le, fun hh => ⟨Nat.le_refl _, h, hh, fun k h1 h2 => by omega⟩⟩
theorem abv_right {f : Nat → Int} {i j : Nat} (h : i ≤ j) : Abv f i j ↔ ∀ k, i ≤ k → k < j → f k < f j := by
  unfold Abv
  rw [Nat.min_eq_left h, Nat.max_eq_right h]
  refine ⟨fun hh => hh.lt, fun hh => ⟨h, Nat.le_refl _, fun k h1 h2 => ?_, hh⟩⟩
  by_cases e : k = j
  · rw [e]; exact Int.le_refl _
  · have := hh k h1 (by omega); omega

/-- The parent lies above, within the numbers, and is not i. -/
theorem par_above {f : Nat → Int} {n i : Nat} {x : Int} (h : IsPar f 0 n (-1) i x) (hi : i < n) : x = -1 ∨ ∃ p : Nat, x = p ∧ p < n ∧ p ≠ i ∧ Abv f i p ∧ f i ≤ f p := by
  have left : ∀ l, IsL f 0 i l → Abv f i l := fun l h1 => (abv_left (Nat.le_of_lt h1.hi)).2 fun k h2 h3 => by
    by_cases e : k = l
    · rw [e]; exact Int.le_refl _
    · by_cases e2 : k = i
      · rw [e2]; exact h1.ge
      · have h4 := h1.btw k (by omega) (by omega)
        have h5 := h1.ge
        omega
  have right : ∀ r, IsR f n i r → Abv f i r := fun r h1 => (abv_right (Nat.le_of_lt h1.lo)).2 fun k h2 h3 => by
    by_cases e : k = i
    · rw [e]; exact h1.gt
    · have h4 := h1.btw k (by omega) h3
      have h5 := h1.gt
      omega
  rcases h with ⟨_, _, rfl⟩ | ⟨l, h1, _, rfl⟩ | ⟨r, _, h2, rfl⟩ | ⟨l, r, h1, h2, rfl⟩
  · exact .inl rfl
  · exact .inr ⟨l, rfl, by have := h1.hi; omega, by have := h1.hi; omega, left l h1, h1.ge⟩
  · exact .inr ⟨r, rfl, h2.hi, by have := h2.lo; omega, right r h2, Int.le_of_lt h2.gt⟩
  · by_cases hc : f l < f r
    · rw [if_pos hc]
      exact .inr ⟨l, rfl, by have := h1.hi; omega, by have := h1.hi; omega, left l h1, h1.ge⟩
    · rw [if_neg hc]
      exact .inr ⟨r, rfl, h2.hi, by have := h2.lo; omega, right r h2, Int.le_of_lt h2.gt⟩

/-- What lies above a place and is not it lies above its parent, or is the parent. -/
theorem above_par {f : Nat → Int} {n i j : Nat} {x : Int} (h : IsPar f 0 n (-1) i x) (hj : j < n) (hne : j ≠ i) (ha : Abv f i j) : ∃ p : Nat, x = p ∧ Abv f p j := by
  rcases Nat.lt_or_ge j i with hji | hji
  · have hA := (abv_left (Nat.le_of_lt hji)).1 ha
    -- j stands before i: there is a nearest one on the left, from j on
    have hjl : ∀ l, IsL f 0 i l → j ≤ l := fun l h1 => by
      rcases Nat.lt_or_ge l j with e | e
      · have h2 := h1.btw j e hji
        have h3 := hA i (by omega) (Nat.le_refl _)
        omega
      · exact e
    have noL : ¬ NoL f 0 i := fun hn => by
      have h2 := hn j (Nat.zero_le _) hji
      have h3 := hA i (by omega) (Nat.le_refl _)
      omega
    have left : ∀ l, IsL f 0 i l → Abv f l j := fun l h1 => (abv_left (hjl l h1)).2 fun k h2 h3 => hA k h2 (by have := h1.hi; omega)
    rcases h with ⟨h1, _, rfl⟩ | ⟨l, h1, _, rfl⟩ | ⟨r, h1, _, rfl⟩ | ⟨l, r, h1, h2, rfl⟩
    · exact absurd h1 noL
    · exact ⟨l, rfl, left l h1⟩
    · exact absurd h1 noL
    · by_cases hc : f l < f r
      · rw [if_pos hc]
        exact ⟨l, rfl, left l h1⟩
      · rw [if_neg hc]
        refine ⟨r, rfl, (abv_left (by have := h2.lo; omega)).2 fun k h3 h4 => ?_⟩
        have hl := hA l (hjl l h1) (by have := h1.hi; omega)
        by_cases e : k ≤ i
        · exact hA k h3 e
        · by_cases e2 : k = r
          · rw [e2]; omega
          · have h5 := h2.btw k (by omega) (by omega)
            have h6 := hA i (by omega) (Nat.le_refl _)
            omega
  · have hij : i < j := by omega
    have hA := (abv_right (Nat.le_of_lt hij)).1 ha
    have hrj : ∀ r, IsR f n i r → r ≤ j := fun r h1 => by
      rcases Nat.lt_or_ge j r with e | e
      · have h2 := h1.btw j hij e
        have h3 := hA i (Nat.le_refl _) hij
        omega
      · exact e
    have noR : ¬ NoR f n i := fun hn => by
      have h2 := hn j hij hj
      have h3 := hA i (Nat.le_refl _) hij
      omega
    have right : ∀ r, IsR f n i r → Abv f r j := fun r h1 => (abv_right (hrj r h1)).2 fun k h2 h3 => hA k (by have := h1.lo; omega) h3
    rcases h with ⟨_, h1, rfl⟩ | ⟨l, _, h1, rfl⟩ | ⟨r, _, h1, rfl⟩ | ⟨l, r, h1, h2, rfl⟩
    · exact absurd h1 noR
    · exact absurd h1 noR
    · exact ⟨r, rfl, right r h1⟩
    · by_cases hc : f l < f r
      · rw [if_pos hc]
        refine ⟨l, rfl, (abv_right (by have := h1.hi; omega)).2 fun k h3 h4 => ?_⟩
        have hrr : f r ≤ f j := by
          by_cases e : r = j
          · rw [e]; exact Int.le_refl _
          · exact Int.le_of_lt (hA r (by have := h2.lo; omega) (by have := hrj r h2; omega))
        by_cases e : i ≤ k
        · exact hA k e h4
        · by_cases e2 : k = l
          · rw [e2]; omega
          · have h5 := h1.btw k (by omega) (by omega)
            have h6 := hA i (Nat.le_refl _) hij
            omega
      · rw [if_neg hc]
        exact ⟨r, rfl, right r h2⟩

theorem Abv.ge {f : Nat → Int} {i j : Nat} (h : Abv f i j) : f i ≤ f j := by
  rcases Nat.le_total i j with e | e
  · by_cases e2 : i = j
    · rw [e2]; exact Int.le_refl _
    · exact Int.le_of_lt ((abv_right e).1 h i (Nat.le_refl _) (by omega))
  · exact (abv_left e).1 h i e (Nat.le_refl _)

/-- What lies above what lies above. -/
theorem Abv.trans {f : Nat → Int} {i j k : Nat} (h : Abv f i j) (g : Abv f j k) : Abv f i k := by
  have hij := h.ge
  have hjk := g.ge
  rcases Nat.le_total i j with a | a <;> rcases Nat.le_total j k with b | b
  · rw [abv_right a] at h
    rw [abv_right b] at g
    refine (abv_right (by omega)).2 fun q h1 h2 => ?_
    by_cases e : q < j
    · have := h q h1 e; omega
    · exact g q (by omega) h2
  · rw [abv_right a] at h
    rw [abv_left b] at g
    rcases Nat.le_total i k with c | c
    · refine (abv_right c).2 fun q h1 h2 => ?_
      have h3 := h q h1 (by omega)
      omega
    · refine (abv_left c).2 fun q h1 h2 => g q h1 (by omega)
  · rw [abv_left a] at h
    rw [abv_right b] at g
    rcases Nat.le_total i k with c | c
    · refine (abv_right c).2 fun q h1 h2 => g q (by omega) h2
    · refine (abv_left c).2 fun q h1 h2 => ?_
      have h3 := h q (by omega) h2
      omega
  · rw [abv_left a] at h
    rw [abv_left b] at g
    refine (abv_left (by omega)).2 fun q h1 h2 => ?_
    by_cases e : q ≤ j
    · exact g q h1 e
    · have := h q (by omega) h2; omega

theorem Abv.antisymm {f : Nat → Int} {i j : Nat} (h : Abv f i j) (g : Abv f j i) : i = j := by
  have h1 := h.ge
  have h2 := g.ge
  rcases Nat.lt_trichotomy i j with e | e | e
  · have := (abv_right (Nat.le_of_lt e)).1 h i (Nat.le_refl _) e; omega
  · exact e
  · have := (abv_right (Nat.le_of_lt e)).1 g j (Nat.le_refl _) e; omega

/-- The top of a range lies above both its ends. -/
theorem top_above {f : Nat → Int} {i k t : Nat} (h : IsTop f i k t) : Abv f i t ∧ Abv f k t :=
  ⟨(abv_right h.lo).2 fun q h1 h2 => h.lt q h1 h2, (abv_left h.hi).2 fun q h1 h2 => h.le q (by have := h.lo; omega) h2⟩

/-- Where the ways of two places meet is the top of all between them. -/
theorem meets {f : Nat → Int} {i k t x : Nat} (h : IsTop f i k t) (h1 : Abv f k x) (h2 : Abv f i x) (h3 : Abv f x t) : x = t := by
  have hge := h3.ge
  have t0 := h.lo
  have t1 := h.hi
  rcases Nat.lt_or_ge x i with a | a
  · have g1 := (abv_left (by omega)).1 h1 t (by omega) t1
    have g2 := (abv_right (by omega)).1 h3 x (Nat.le_refl _) (by omega)
    omega
  · rcases Nat.lt_or_ge k x with b | b
    · have g1 := (abv_right (by omega)).1 h2 t (by omega) (by omega)
      omega
    · have hx : IsTop f i k x := ⟨a, b, fun q g1 g2 => by
        by_cases e : q < x
        · exact Int.le_of_lt ((abv_right a).1 h2 q g1 e)
        · exact (abv_left b).1 h1 q (by omega) g2, fun q g1 g2 => (abv_right a).1 h2 q g1 g2⟩
      exact hx.uniq h

theorem tally_imp {p q : Nat → Bool} {n : Nat} (h : ∀ j, j < n → p j = true → q j = true) : tally p n ≤ tally q n := by
  induction n with
  | zero => exact Nat.le_refl _
  | succ n ih =>
    have h1 := ih fun j hj => h j (by omega)
    have h2 := h n (by omega)
    rw [tally, tally]
    cases hp : p n
    · simp; omega
    · rw [h2 hp]; simp; omega
theorem tally_less {p q : Nat → Bool} {n x : Nat} (h : ∀ j, j < n → p j = true → q j = true) (hx : x < n) (h1 : p x = false) (h2 : q x = true) : tally p n < tally q n := by
  induction n with
  | zero => omega
  | succ n ih =>
    rw [tally, tally]
    by_cases e : x = n
    · subst e
      have h3 := tally_imp (n := x) fun j hj => h j (by omega)
      rw [h1, h2]
      simp
      omega
    · have h3 := ih (fun j hj => h j (by omega)) (by omega)
      have h4 := h n (by omega)
      cases hp : p n
      · simp; omega
      · rw [h4 hp]; simp; omega

/-- How many of n places lie above x. -/
noncomputable def cntAbv (f : Nat → Int) (n x : Nat) : Nat := tally (fun j => @decide (Abv f x j) (Classical.propDecidable _)) n

theorem cntAbv_le (f : Nat → Int) (n x : Nat) : cntAbv f n x ≤ n := tally_le _ _
/-- Above a place that lies above x, and is not x, there are fewer. -/
theorem cntAbv_lt {f : Nat → Int} {n x p : Nat} (hx : x < n) (h : Abv f x p) (hne : p ≠ x) : cntAbv f n p < cntAbv f n x := by
  unfold cntAbv
  refine tally_less (x := x) (fun j hj hp => ?_) hx ?_ ?_
  · exact @decide_eq_true _ (Classical.propDecidable _) (h.trans (@of_decide_eq_true _ (Classical.propDecidable _) hp))
  · exact @decide_eq_false _ (Classical.propDecidable _) fun hp => hne (hp.antisymm h)
  · exact @decide_eq_true _ (Classical.propDecidable _) (Abv.self f x)
end Go.Proofs.Ytfijlcaiklhpiaa.Words
