/-
  Plain mathematics of two walks upwards in the Cartesian tree, of no program: what the first has seen, where the second stands. No condition but what each theorem names.
-/
import Derived.Test.YtfijlcaiklhpiaaStack
namespace Go.Proofs.Ytfijlcaiklhpiaa.Words
open Go Go.RowKit

/-- The parent of a place: none, or a place above it. -/
theorem parOf_cases (f : Nat → Int) {n p : Nat} (hp : p < n) : parOf f n p = -1 ∨ ∃ q : Nat, parOf f n p = q ∧ q < n ∧ q ≠ p ∧ Abv f p q ∧ f p ≤ f q := par_above (parOf_is f hp) hp

/-- What lies above a place: it, and what lies above its parent. -/
theorem abv_iff {f : Nat → Int} {n p q r : Nat} (hp : p < n) (hr : r < n) (h : parOf f n p = (q : Nat)) : Abv f p r ↔ r = p ∨ Abv f q r := by
  have ha : Abv f p q := by
    rcases parOf_cases f hp with e | ⟨q', e, _, _, ha, _⟩
    · rw [e] at h; omega
    · rw [e] at h
      obtain rfl : q' = q := by omega
      exact ha
  constructor
  · intro h1
    by_cases e : r = p
    · exact .inl e
    · obtain ⟨q', e1, e2⟩ := above_par (parOf_is f hp) hr e h1
      rw [h] at e1
      obtain rfl : q = q' := by omega
      exact .inr e2
  · rintro (rfl | h1)
    · exact Abv.self f r
    · exact ha.trans h1
/-- Above the root lies nothing else. -/
theorem abv_root {f : Nat → Int} {n p r : Nat} (hp : p < n) (hr : r < n) (h : parOf f n p = -1) : Abv f p r ↔ r = p := by
  constructor
  · intro h1
    by_cases e : r = p
    · exact e
    · obtain ⟨q', e1, _⟩ := above_par (parOf_is f hp) hr e h1
      rw [h] at e1
      omega
  · rintro rfl
    exact Abv.self f r

/-- What a walk from i has seen that stands at x: all above i that do not lie above x. -/
structure Seen (f : Nat → Int) (n i : Nat) (x : Int) (ab : List Bool) : Prop where
  len : ab.length = n
  seen : (x = -1 ∧ ∀ q, q < n → (ab.getD q false = true ↔ Abv f i q)) ∨ ∃ p : Nat, x = p ∧ p < n ∧ Abv f i p ∧ ∀ q, q < n → (ab.getD q false = true ↔ Abv f i q ∧ ¬ Abv f p q)

theorem Seen.start (f : Nat → Int) {n i : Nat} (hi : i < n) : Seen f n i (i : Nat) (List.replicate n false) :=
  ⟨by simp, .inr ⟨i, rfl, hi, Abv.self f i, fun q hq => by
    rw [List.getD, List.getElem?_replicate, if_pos hq]
    exact ⟨(fun h => by cases h), fun h => absurd h.1 h.2⟩⟩⟩
theorem Seen.at_ {f : Nat → Int} {n i p : Nat} {ab : List Bool} (h : Seen f n i (p : Nat) ab) : p < n ∧ Abv f i p ∧ ∀ q, q < n → (ab.getD q false = true ↔ Abv f i q ∧ ¬ Abv f p q) := by
  rcases h.seen with ⟨e, _⟩ | ⟨p', e, h1⟩
  · omega
  · obtain rfl : p = p' := by omega
    exact h1
theorem Seen.done {f : Nat → Int} {n i : Nat} {ab : List Bool} (h : Seen f n i (-1) ab) : ∀ q, q < n → (ab.getD q false = true ↔ Abv f i q) := by
  rcases h.seen with ⟨_, h1⟩ | ⟨p', e, _⟩
  · exact h1
  · omega
theorem Seen.step {f : Nat → Int} {n i p : Nat} {ab : List Bool} (h : Seen f n i (p : Nat) ab) : Seen f n i (parOf f n p) (ab.set p true) := by
  obtain ⟨hp, hip, hs⟩ := h.at_
  have hlen := h.len
  have hset : ∀ q, q < n → ((ab.set p true).getD q false = true ↔ (Abv f i q ∧ ¬ Abv f p q) ∨ q = p) := fun q hq => by
    rw [← hs q hq]
    by_cases e : p = q
    · subst e
      rw [List.getD, List.getElem?_set_self (by omega)]
      simp
    · rw [List.getD, List.getElem?_set_ne e, ← List.getD]
      exact ⟨fun h => .inl h, fun h => by
        rcases h with h | h
        · exact h
        · exact absurd h.symm e⟩
  refine ⟨by rw [List.length_set]; exact hlen, ?_⟩
  rcases parOf_cases f hp with e | ⟨p', e, hp', hne, ha, _⟩
  · refine .inl ⟨e, fun q hq => ?_⟩
    rw [hset q hq, abv_root hp hq e]
    constructor
    · rintro (h1 | rfl)
      · exact h1.1
      · exact hip
    · intro h1
      by_cases e2 : q = p
      · exact .inr e2
      · exact .inl ⟨h1, e2⟩
  · refine .inr ⟨p', e, hp', hip.trans ha, fun q hq => ?_⟩
    rw [hset q hq, abv_iff hp hq e]
    constructor
    · rintro (h1 | rfl)
      · exact ⟨h1.1, fun h2 => h1.2 (.inr h2)⟩
      · exact ⟨hip, fun h2 => hne (ha.antisymm h2).symm⟩
    · rintro ⟨h1, h2⟩
      by_cases e2 : q = p
      · exact .inr e2
      · exact .inl ⟨h1, fun h3 => by
          rcases h3 with h3 | h3
          · exact e2 h3
          · exact h2 h3⟩

/-- One step of the count. -/
theorem cnt_step {f : Nat → Int} {n p q c : Nat} (hp : p < n) (h : parOf f n p = (q : Nat)) (hc : c + cntAbv f n p ≤ n) : c + 1 + cntAbv f n q ≤ n := by
  rcases parOf_cases f hp with e | ⟨q', e, _, hne, ha, _⟩
  · rw [e] at h; omega
  · rw [e] at h
    obtain rfl : q' = q := by omega
    have := cntAbv_lt (n := n) hp ha hne
    omega

/-- The second walk: it stands above k, and below the top. -/
theorem walk_step {f : Nat → Int} {n i k t p : Nat} (ht : IsTop f i k t) (htn : t < n) (hp : p < n) (h1 : Abv f k p) (h2 : Abv f p t) (hno : ¬ Abv f i p) : ∃ q : Nat, parOf f n p = q ∧ q < n ∧ Abv f k q ∧ Abv f q t := by
  have hne : t ≠ p := fun e => hno (by rw [← e]; exact (top_above ht).1)
  obtain ⟨q, e1, e2⟩ := above_par (parOf_is f hp) htn hne h2
  rcases parOf_cases f hp with e | ⟨q', e, hq, _, ha, _⟩
  · rw [e] at e1; omega
  · rw [e] at e1
    obtain rfl : q' = q := by omega
    exact ⟨q', e, hq, h1.trans ha, e2⟩
end Go.Proofs.Ytfijlcaiklhpiaa.Words
