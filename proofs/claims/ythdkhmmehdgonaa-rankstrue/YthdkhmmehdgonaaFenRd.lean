/-
  What the small functions of package fen, and the document's, return: contracts, walked over the translated text. No condition but what each theorem names.
-/
import Derived.Test.YthdkhmmehdgonaaFens
import Derived.Test.YthdkhmmehdgonaaPop
import Derived.Test.YthdkhmmehdgonaaMem
import Derived.Deep.QuietTactic
import Derived.BigQuiet
import Derived.IntWalk
namespace Go.Proofs.Ythdkhmmehdgonaa
open Go.RowKit Words

theorem Words.bits_or_i64_nat (a b : Nat) (ha : a < 4611686018427387904) (hb : b < 4611686018427387904) : bits .or .i64 (a : Int) (b : Int) = ((a ||| b : Nat) : Int) := by
  have hx : a ||| b < 2 ^ 62 := Nat.or_lt_two_pow ha hb
  have h1 : (BitVec.ofInt 64 (a : Int)).toNat = a := by
    rw [BitVec.ofInt_natCast, BitVec.toNat_ofNat]; exact Nat.mod_eq_of_lt (by omega)
  have h2 : (BitVec.ofInt 64 (b : Int)).toNat = b := by
    rw [BitVec.ofInt_natCast, BitVec.toNat_ofNat]; exact Nat.mod_eq_of_lt (by omega)
  show IntKind.i64.wrap ((BitVec.ofInt 64 (a : Int) ||| BitVec.ofInt 64 (b : Int)).toNat : Int) = _
  rw [BitVec.toNat_or, h1, h2, IntKind.wrap_i64]
  generalize a ||| b = c at *
  have : c < 4611686018427387904 := hx
  omega



/-- A number within a limit. -/
def In (L x : Int) : Prop := -L ≤ x ∧ x ≤ L
instance (L x : Int) : Decidable (In L x) := inferInstanceAs (Decidable (_ ∧ _))
/-- All numbers of a list are. -/
def Win (L : Int) (l : List Int) : Prop := ∀ x ∈ l, In L x
instance (L : Int) (l : List Int) : Decidable (Win L l) := inferInstanceAs (Decidable (∀ x ∈ l, In L x))
/-- A valid tree. -/
def Valid (l : List Int) : Prop := l.length ≤ 300 ∧ Win 1099511627776 l
instance (l : List Int) : Decidable (Valid l) := inferInstanceAs (Decidable (_ ∧ _))

theorem Win.at0 {L : Int} {l : List Int} (h : Win L l) (c : Nat) (hc : c < l.length) : -L ≤ at0 l c ∧ at0 l c ≤ L := h _ (List.mem_of_getElem? (at0_some l c hc))
theorem win_of {L : Int} {l : List Int} (h : ∀ c, c < l.length → -L ≤ at0 l c ∧ at0 l c ≤ L) : Win L l := fun x hx => by
  obtain ⟨i, hi, rfl⟩ := List.getElem_of_mem hx
  have := h i hi
  rwa [at0_get l i _ (List.getElem?_eq_getElem hi)] at this


/-- The first of a list at which p holds. -/
theorem first_of (p : Int → Bool) (l : List Int) : ∃ i, i ≤ l.length ∧ (∀ k x, k < i → l[k]? = some x → p x = false) ∧ (∀ x, l[i]? = some x → p x = true) ∧ l.any p = decide (i < l.length) := by
  induction l with
  | nil => exact ⟨0, Nat.le_refl _, (fun k x h _ => by omega), (fun x h => by cases h), rfl⟩
  | cons a l ih =>
    by_cases h : p a = true
    · refine ⟨0, Nat.zero_le _, (fun k x h _ => by omega), (fun x hx => ?_), by simp [h]⟩
      obtain rfl : a = x := by simpa using hx
      exact h
    · obtain ⟨i, h1, h2, h3, h4⟩ := ih
      refine ⟨i + 1, by simp; omega, fun k x hk hx => ?_, (fun x hx => h3 x (by simpa using hx)), ?_⟩
      · cases k with
        | zero =>
          obtain rfl : a = x := by simpa using hx
          simpa using h
        | succ k => exact h2 k x (by omega) (by simpa using hx)
      · rw [List.any_cons, h4]
        simp [h]



end Go.Proofs.Ythdkhmmehdgonaa
