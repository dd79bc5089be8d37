/-
  Plain mathematics of selecting in a bit vector, of no program: the place that has exactly k places of its kind before it; a word's marked bits. No condition but what each theorem names.
-/
import Derived.Test.YtmlekhgjnhnjlaaDoorRow
import Derived.Test.YtmlekhgjnhnjlaaDoorChosen
namespace Go.Proofs.YtmlekhgjnhnjlaaDoor.Words
open Go Go.RowKit

theorem tally_hit (p : Nat → Bool) (k : Nat) : ∀ m, k < tally p m → ∃ i, i < m ∧ p i = true ∧ tally p i = k
  | 0, h => by simp [tally] at h
  | m + 1, h => by
    by_cases hm : k < tally p m
    · obtain ⟨i, hi, h1, h2⟩ := tally_hit p k m hm
      exact ⟨i, by omega, h1, h2⟩
    · rw [tally] at h
      cases hp : p m with
      | false => rw [hp] at h; simp at h; omega
      | true => rw [hp] at h; simp at h; exact ⟨m, by omega, hp, by omega⟩

theorem tally_lt (p : Nat → Bool) {i m : Nat} (h : i < m) (hp : p i = true) : tally p i < tally p m := by
  have h1 : tally p (i + 1) ≤ tally p m := tally_mono p (by omega)
  rw [tally, hp] at h1
  simp at h1
  omega

/-- The bits of a vector of m bits that are of the kind asked for. -/
def kind (ws : List Nat) (m : Nat) (one : Bool) (i : Nat) : Bool := decide (i < m) && (bit ws i == one)

theorem kind_in (ws : List Nat) (m : Nat) (one : Bool) {i : Nat} (h : i < m) : kind ws m one i = (bit ws i == one) := by simp [kind, h]
theorem kind_out (ws : List Nat) (m : Nat) (one : Bool) {i : Nat} (h : m ≤ i) : kind ws m one i = false := by simp [kind, Nat.not_lt.2 h]

theorem tally_kind_past (ws : List Nat) (m : Nat) (one : Bool) {i : Nat} (h : m ≤ i) : tally (kind ws m one) i = tally (kind ws m one) m := by
  obtain ⟨d, rfl⟩ := Nat.exists_eq_add_of_le h
  rw [tally_add]
  have : tally (fun i => kind ws m one (m + i)) d = 0 := by
    induction d with
    | zero => rfl
    | succ d ih => rw [tally, ih (by omega), kind_out ws m one (by omega)]; rfl
  omega

/-- A word with a one bit for each bit of its part of the vector that is of the kind. -/
def marks (ws : List Nat) (m : Nat) (one : Bool) (j y : Nat) : Prop := y < 18446744073709551616 ∧ ∀ b, b < 64 → y.testBit b = kind ws m one (64 * j + b)

theorem marks_true (ws : List Nat) (m j x : Nat) (hV : Valid m ws) (hx : ws[j]? = some x) (hlt : x < 18446744073709551616) : marks ws m true j x := by
  refine ⟨hlt, fun b hb => ?_⟩
  have hj : j < ws.length := (List.getElem?_eq_some_iff.1 hx).1
  have hw : bit ws (64 * j + b) = x.testBit b := by rw [bit_word ws j b hb]; simp [List.getD, hx]
  by_cases h : 64 * j + b < m
  · rw [kind_in ws m true h, hw]; simp
  · rw [kind_out ws m true (by omega), ← hw]
    exact hV.top _ (by omega) (by omega)

theorem marks_false (ws : List Nat) (m j x : Nat) (hx : ws[j]? = some x) (hlt : x < 18446744073709551616) : marks ws m false j ((18446744073709551615 - x) % 2 ^ min (m - 64 * j) 64) := by
  refine ⟨mod_lt_word _ _ (by omega), fun b hb => ?_⟩
  have hw : bit ws (64 * j + b) = x.testBit b := by rw [bit_word ws j b hb]; simp [List.getD, hx]
  rw [Nat.testBit_mod_two_pow, show 18446744073709551615 - x = 2 ^ 64 - (x + 1) by omega, Nat.testBit_two_pow_sub_succ (show x < 2 ^ 64 from hlt)]
  by_cases h : 64 * j + b < m
  · rw [kind_in ws m false h, hw, show decide (b < min (m - 64 * j) 64) = true by simp; omega, show decide (b < 64) = true by simpa using hb]
    cases x.testBit b <;> rfl
  · rw [kind_out ws m false (by omega), show decide (b < min (m - 64 * j) 64) = false by simp; omega]; rfl

theorem marks_cnt (ws : List Nat) (m : Nat) (one : Bool) (j y : Nat) (h : marks ws m one j y) (b : Nat) (hb : b ≤ 64) : tally (kind ws m one) (64 * j + b) = tally (kind ws m one) (64 * j) + cnt y b := by
  rw [tally_add, cnt_tally]
  congr 1
  exact tally_congr fun i hi => (h.2 i (by omega)).symm

theorem tally_kind_true (ws : List Nat) (m i : Nat) (h : i ≤ m) : tally (kind ws m true) i = tally (bit ws) i :=
  tally_congr fun j hj => by rw [kind_in ws m true (by omega)]; simp
theorem tally_kind_false (ws : List Nat) (m i : Nat) (h : i ≤ m) : tally (kind ws m false) i + tally (bit ws) i = i := by
  have e : tally (kind ws m false) i = tally (fun j => !bit ws j) i := tally_congr fun j hj => by rw [kind_in ws m false (by omega)]; simp
  have := tally_not (bit ws) i
  omega

theorem not_int (x : Nat) (hx : x < 18446744073709551616) : bits BinOp.xor IntKind.u64 IntKind.u64.max (x : Int) = ((18446744073709551615 - x : Nat) : Int) := by
  have e : IntKind.u64.max = ((18446744073709551615 : Nat) : Int) := by decide
  rw [e, bits_xor_u64_nat _ _ (by decide) hx]
  congr 1
  have e2 : 18446744073709551615 - x = 2 ^ 64 - (x + 1) := by omega
  rw [e2]
  apply Nat.eq_of_testBit_eq
  intro i
  rw [Nat.testBit_two_pow_sub_succ (show x < 2 ^ 64 from hx), Nat.testBit_xor, show (18446744073709551615 : Nat) = 2 ^ 64 - 1 from rfl, Nat.testBit_two_pow_sub_one]
  by_cases hi : i < 64
  · have hd : decide (i < 64) = true := by simpa using hi
    rw [hd]; simp
  · have hd : decide (i < 64) = false := by simpa using hi
    have hb : x.testBit i = false := Nat.testBit_lt_two_pow (Nat.lt_of_lt_of_le (show x < 2 ^ 64 from hx) (Nat.pow_le_pow_right (by decide) (by omega)))
    rw [hd, hb]; rfl
end Go.Proofs.YtmlekhgjnhnjlaaDoor.Words
