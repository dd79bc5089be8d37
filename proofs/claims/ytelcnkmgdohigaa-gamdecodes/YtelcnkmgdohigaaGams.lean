/-
  Plain mathematics of Elias's gamma and delta codes, of no program: the digits of a number, its codes, how many bits they have, reading them back. No condition but what each theorem names.
-/
import Derived.Test.YtelcnkmgdohigaaRow
import Derived.Lib.BitFns
namespace Go.Proofs.Ytelcnkmgdohigaa.Words
open Go Go.RowKit

/-- How many bits a number needs. -/
theorem blen_lt (x : Nat) (hx : x < 18446744073709551616) (k : Nat) : Lib.bitLen x ≤ k ↔ x < 2 ^ k := by
  have aux : ∀ f x k, x < 2 ^ f → (Lib.bitLenAux f x ≤ k ↔ x < 2 ^ k) := by
    intro f
    induction f with
    | zero => intro x k h; have : x = 0 := by simpa using h
              subst this; simp [Lib.bitLenAux, Nat.two_pow_pos]
    | succ f ih =>
      intro x k h
      rw [Lib.bitLenAux]
      by_cases h0 : x = 0
      · subst h0; simp [Nat.two_pow_pos]
      · rw [if_neg h0]
        cases k with
        | zero => simp; omega
        | succ k =>
          rw [show 1 + Lib.bitLenAux f (x / 2) ≤ k + 1 ↔ Lib.bitLenAux f (x / 2) ≤ k by omega, ih (x / 2) k (by rw [Nat.pow_succ] at h; omega), Nat.pow_succ]
          omega
  exact aux 64 x k hx

/-- The length of a number that has a code. -/
theorem blen_code {n : Nat} (h0 : 1 ≤ n) (h1 : n ≤ 2097151) : 1 ≤ Lib.bitLen n ∧ Lib.bitLen n ≤ 21 := by
  constructor
  · rcases Nat.eq_zero_or_pos (Lib.bitLen n) with h | h
    · have := (blen_lt n (by omega) 0).1 (by omega)
      simp at this
      omega
    · exact h
  · exact (blen_lt n (by omega) 21).2 (by omega)

theorem blen_range {n : Nat} (h0 : 1 ≤ n) (h1 : n ≤ 2097151) : 2 ^ (Lib.bitLen n - 1) ≤ n ∧ n < 2 ^ Lib.bitLen n := by
  obtain ⟨a, b⟩ := blen_code h0 h1
  refine ⟨?_, (blen_lt n (by omega) _).1 (Nat.le_refl _)⟩
  rcases Nat.lt_or_ge n (2 ^ (Lib.bitLen n - 1)) with h | h
  · have := (blen_lt n (by omega) _).2 h
    omega
  · exact h

theorem blen_mono {a b : Nat} (h : a ≤ b) (h1 : b ≤ 2097151) : Lib.bitLen a ≤ Lib.bitLen b :=
  (blen_lt a (by omega) _).2 (Nat.lt_of_le_of_lt h ((blen_lt b (by omega) _).1 (Nat.le_refl _)))

/-- The last c binary digits of n, the most significant one first. -/
def dig (n c : Nat) : List Bool := (List.range c).map fun i => n.testBit (c - 1 - i)

theorem dig_length (n c : Nat) : (dig n c).length = c := by simp [dig]
theorem dig_get (n c i : Nat) (h : i < c) : (dig n c)[i]? = some (n.testBit (c - 1 - i)) := by
  unfold dig
  rw [List.getElem?_map, List.getElem?_range h]; rfl
theorem dig_succ (n c : Nat) : dig n (c + 1) = n.testBit c :: dig n c := by
  unfold dig
  rw [List.range_succ_eq_map, List.map_cons, List.map_map]
  congr 1
  apply List.map_congr_left
  intro i _
  simp only [Function.comp]
  congr 1
  omega

/-- The number with a 1 ahead of these digits. -/
def val (l : List Bool) : Nat := l.foldl (fun x b => 2 * x + b.toNat) 1

theorem val_snoc (l : List Bool) (b : Bool) : val (l ++ [b]) = 2 * val l + b.toNat := by simp [val, List.foldl_append]

theorem val_lt (l : List Bool) : val l < 2 ^ (l.length + 1) ∧ 2 ^ l.length ≤ val l := by
  have aux : ∀ (l : List Bool) (a : Nat), l.foldl (fun x b => 2 * x + b.toNat) a < (a + 1) * 2 ^ l.length ∧ a * 2 ^ l.length ≤ l.foldl (fun x b => 2 * x + b.toNat) a := by
    intro l
    induction l with
    | nil => intro a; simp
    | cons b l ih =>
      intro a
      rw [List.foldl_cons]
      obtain ⟨h1, h2⟩ := ih (2 * a + b.toNat)
      have hb : b.toNat ≤ 1 := by cases b <;> decide
      have e : 2 ^ (b :: l).length = 2 * 2 ^ l.length := by rw [List.length_cons, Nat.pow_succ, Nat.mul_comm]
      rw [e]
      constructor
      · refine Nat.lt_of_lt_of_le h1 ?_
        rw [← Nat.mul_assoc]
        exact Nat.mul_le_mul_right _ (by omega)
      · refine Nat.le_trans ?_ h2
        rw [← Nat.mul_assoc]
        exact Nat.mul_le_mul_right _ (by omega)
  have h := aux l 1
  unfold val
  rw [Nat.pow_succ]
  omega

theorem val_dig {n : Nat} (h0 : 1 ≤ n) (h1 : n ≤ 2097151) : val (dig n (Lib.bitLen n - 1)) = n := by
  have aux : ∀ c a, (dig n c).foldl (fun x b => 2 * x + b.toNat) a = a * 2 ^ c + n % 2 ^ c := by
    intro c
    induction c with
    | zero => intro a; simp [dig, Nat.mod_one]
    | succ c ih =>
      intro a
      rw [dig_succ, List.foldl_cons, ih, Nat.toNat_testBit, Nat.mod_pow_succ, Nat.pow_succ, Nat.add_mul, Nat.mul_comm (2 ^ c) 2, ← Nat.mul_assoc, Nat.mul_comm a 2, Nat.mul_comm (2 ^ c) (n / 2 ^ c % 2)]
      omega
  obtain ⟨a, b⟩ := blen_range h0 h1
  obtain ⟨c, d⟩ := blen_code h0 h1
  unfold val
  rw [aux]
  generalize hL : Lib.bitLen n = L at *
  obtain ⟨k, rfl⟩ : ∃ k, L = k + 1 := ⟨L - 1, by omega⟩
  rw [Nat.add_sub_cancel] at *
  rw [Nat.pow_succ] at b
  have hm := Nat.mod_add_div n (2 ^ k)
  have hd : n / 2 ^ k = 1 := by
    apply Nat.div_eq_of_lt_le
    · omega
    · omega
  rw [hd] at hm
  omega

theorem top_bit {n : Nat} (h0 : 1 ≤ n) (h1 : n ≤ 2097151) : n.testBit (Lib.bitLen n - 1) = true := by
  obtain ⟨a, b⟩ := blen_range h0 h1
  obtain ⟨c, d⟩ := blen_code h0 h1
  rw [Nat.testBit_eq_decide_div_mod_eq]
  obtain ⟨k, hk⟩ : ∃ k, Lib.bitLen n = k + 1 := ⟨Lib.bitLen n - 1, by omega⟩
  rw [hk, Nat.add_sub_cancel]
  rw [hk, Nat.add_sub_cancel] at a
  rw [hk, Nat.pow_succ] at b
  have hd : n / 2 ^ k = 1 := by
    apply Nat.div_eq_of_lt_le
    · omega
    · omega
  rw [hd]; rfl

/-- The gamma code of a number. -/
def gam (n : Nat) : List Bool := List.replicate (Lib.bitLen n - 1) false ++ dig n (Lib.bitLen n)
/-- The delta code of a number. -/
def del (n : Nat) : List Bool := gam (Lib.bitLen n) ++ dig n (Lib.bitLen n - 1)
/-- The code of a number: of kind 1 gamma, else delta. -/
def codeOf (k n : Nat) : List Bool := if k = 1 then gam n else del n
/-- How many bits the code has. -/
def costOf (k n : Nat) : Nat := if k = 1 then 2 * Lib.bitLen n - 1 else 2 * Lib.bitLen (Lib.bitLen n) - 1 + Lib.bitLen n - 1

theorem gam_length (n : Nat) : (gam n).length = 2 * Lib.bitLen n - 1 := by simp [gam, dig_length]; omega
theorem del_length {n : Nat} (h0 : 1 ≤ n) (h1 : n ≤ 2097151) : (del n).length = 2 * Lib.bitLen (Lib.bitLen n) - 1 + Lib.bitLen n - 1 := by
  obtain ⟨a, b⟩ := blen_code h0 h1
  simp [del, gam_length, dig_length]; omega
theorem codeOf_length {n : Nat} (k : Nat) (h0 : 1 ≤ n) (h1 : n ≤ 2097151) : (codeOf k n).length = costOf k n := by
  unfold codeOf costOf
  split
  · exact gam_length n
  · exact del_length h0 h1

theorem costOf_bound {n : Nat} (k : Nat) (h0 : 1 ≤ n) (h1 : n ≤ 2097151) : 1 ≤ costOf k n ∧ costOf k n ≤ 41 := by
  obtain ⟨a, b⟩ := blen_code h0 h1
  obtain ⟨c, d⟩ := blen_code (n := Lib.bitLen n) a (by omega)
  have e : Lib.bitLen (Lib.bitLen n) ≤ 5 := (blen_lt _ (by omega) 5).2 (by omega)
  unfold costOf
  split <;> omega

theorem costOf_mono (k : Nat) {a b : Nat} (h0 : 1 ≤ a) (h : a ≤ b) (h1 : b ≤ 2097151) : costOf k a ≤ costOf k b := by
  have m1 := blen_mono h h1
  obtain ⟨a1, a2⟩ := blen_code h0 (by omega)
  obtain ⟨b1, b2⟩ := blen_code (n := b) (by omega) h1
  have m2 := blen_mono m1 (by omega)
  unfold costOf
  split <;> omega

/-- Reading c digits: the number with a 1 ahead, the error, what is behind. -/
def digs (c : Nat) (l : List Bool) : Nat × Nat × List Bool := if l.length < c then (0, 5, []) else (val (l.take c), 0, l.drop c)
/-- Reading a gamma code behind z zeros, f more may be read. -/
def gnextA : Nat → Nat → List Bool → Nat × Nat × List Bool
  | 0, _, _ => (0, 2, [])
  | _ + 1, _, [] => (0, 5, [])
  | _ + 1, z, true :: r => digs z r
  | f + 1, z, false :: r => gnextA f (z + 1) r
def gnext (l : List Bool) : Nat × Nat × List Bool := gnextA 21 0 l
/-- Reading a code; its number may still be too great. -/
def number (k : Nat) (l : List Bool) : Nat × Nat × List Bool :=
  if (gnext l).2.1 ≠ 0 then (0, (gnext l).2.1, []) else if k = 1 then gnext l else if 21 < (gnext l).1 then (0, 2, []) else digs ((gnext l).1 - 1) (gnext l).2.2
/-- Reading a code. -/
def numR (k : Nat) (l : List Bool) : Nat × Nat × List Bool :=
  if (number k l).2.1 ≠ 0 then (0, (number k l).2.1, []) else if 1048576 < (number k l).1 then (0, 2, []) else number k l
/-- Reading all codes, f at the most, behind those that were read. -/
def decA (k : Nat) : Nat → List Bool → List Nat → List Nat × Nat
  | 0, _, acc => (acc, 0)
  | f + 1, l, acc => if l = [] then (acc, 0) else if (numR k l).2.1 ≠ 0 then ([], (numR k l).2.1) else decA k f (numR k l).2.2 (acc ++ [(numR k l).1])
/-- What the document asks of Decode, of the bits of a valid vector. -/
def decoded (k : Nat) (l : List Bool) : List Nat × Nat :=
  if (decA k l.length l []).2 ≠ 0 then ([], (decA k l.length l []).2) else if 300 < (decA k l.length l []).1.length then ([], 1) else decA k l.length l []

theorem digs_len {c : Nat} {l : List Bool} (h : (digs c l).2.1 = 0) : (digs c l).2.2.length ≤ l.length := by
  unfold digs at *
  split at h
  · simp at h
  · rename_i h2; rw [if_neg h2]; simp

theorem gnextA_len : ∀ (f z : Nat) (l : List Bool), (gnextA f z l).2.1 = 0 → (gnextA f z l).2.2.length < l.length
  | 0, _, _, h => by simp [gnextA] at h
  | _ + 1, _, [], h => by simp [gnextA] at h
  | _ + 1, z, true :: r, h => by
    rw [gnextA] at *
    have := digs_len h
    simp; omega
  | f + 1, z, false :: r, h => by
    rw [gnextA] at *
    have := gnextA_len f (z + 1) r h
    simp; omega

theorem number_len {k : Nat} {l : List Bool} (h : (number k l).2.1 = 0) : (number k l).2.2.length < l.length := by
  unfold number at *
  split at h
  · rename_i h1; exact absurd h h1
  · rename_i h1
    have h1' : (gnext l).2.1 = 0 := by simpa using h1
    have hg := gnextA_len 21 0 l h1'
    change (gnext l).2.2.length < l.length at hg
    rw [if_neg h1]
    split at h
    · rename_i h2; rw [if_pos h2]; exact hg
    · rename_i h2
      rw [if_neg h2]
      split at h
      · simp at h
      · rename_i h3
        rw [if_neg h3]
        have := digs_len h
        omega

theorem numR_len {k : Nat} {l : List Bool} (h : (numR k l).2.1 = 0) : (numR k l).2.2.length < l.length := by
  unfold numR at *
  split at h
  · rename_i h1; exact absurd h h1
  · rename_i h1
    rw [if_neg h1]
    split at h
    · simp at h
    · rename_i h2; rw [if_neg h2]; exact number_len (by simpa using h1)

theorem digs_bound (c : Nat) (l : List Bool) : (digs c l).1 < 2 ^ (c + 1) := by
  unfold digs
  split
  · exact Nat.two_pow_pos _
  · rename_i h
    have := (val_lt (l.take c)).1
    rwa [List.length_take, Nat.min_eq_left (by omega)] at this

theorem digs_pos {c : Nat} {l : List Bool} (h : (digs c l).2.1 = 0) : 1 ≤ (digs c l).1 := by
  unfold digs at *
  split at h
  · simp at h
  · rename_i h2
    rw [if_neg h2]
    exact Nat.le_trans (Nat.two_pow_pos _) (val_lt (l.take c)).2

theorem gnextA_bound : ∀ (f z : Nat) (l : List Bool), f + z = 21 → (gnextA f z l).1 < 2097152
  | 0, _, _, _ => by simp [gnextA]
  | _ + 1, _, [], _ => by simp [gnextA]
  | f + 1, z, true :: r, h => by
    rw [gnextA]
    exact Nat.lt_of_lt_of_le (digs_bound z r) (Nat.pow_le_pow_right (n := 2) (j := 21) (by decide) (by omega))
  | f + 1, z, false :: r, h => by
    rw [gnextA]
    exact gnextA_bound f (z + 1) r (by omega)
theorem gnextA_pos : ∀ (f z : Nat) (l : List Bool), (gnextA f z l).2.1 = 0 → 1 ≤ (gnextA f z l).1
  | 0, _, _, h => by simp [gnextA] at h
  | _ + 1, _, [], h => by simp [gnextA] at h
  | f + 1, z, true :: r, h => by
    rw [gnextA] at *
    exact digs_pos h
  | f + 1, z, false :: r, h => by
    rw [gnextA] at *
    exact gnextA_pos f (z + 1) r h
theorem gnext_bound (l : List Bool) : (gnext l).1 < 2097152 := gnextA_bound 21 0 l rfl
theorem gnext_pos {l : List Bool} (h : (gnext l).2.1 = 0) : 1 ≤ (gnext l).1 := gnextA_pos 21 0 l h

theorem number_bound (k : Nat) (l : List Bool) : (number k l).1 < 2097152 := by
  unfold number
  split
  · exact Nat.zero_lt_of_lt (show 0 < 2097152 by decide)
  · split
    · exact gnext_bound l
    · split
      · decide
      · exact Nat.lt_of_lt_of_le (digs_bound _ _) (Nat.pow_le_pow_right (n := 2) (j := 21) (by decide) (by omega))

/-- What the document's own way comes to: a gamma code's number that is too great ends it before its length is looked at. -/
theorem numR_two (l : List Bool) : numR 2 l = if (numR 1 l).2.1 ≠ 0 then (0, (numR 1 l).2.1, []) else if 21 < (numR 1 l).1 then (0, 2, []) else
    if (digs ((numR 1 l).1 - 1) (numR 1 l).2.2).2.1 ≠ 0 then (0, (digs ((numR 1 l).1 - 1) (numR 1 l).2.2).2.1, []) else if 1048576 < (digs ((numR 1 l).1 - 1) (numR 1 l).2.2).1 then (0, 2, []) else digs ((numR 1 l).1 - 1) (numR 1 l).2.2 := by
  unfold numR number
  generalize gnext l = T
  obtain ⟨n, e, r⟩ := T
  simp only
  by_cases he : e = 0
  · subst he
    by_cases h1 : 1048576 < n
    · simp [h1, show 21 < n by omega]
    · by_cases h2 : 21 < n
      · simp [h1, h2]
      · simp [h1, h2]
  · simp [he]

/-! ### Reading back -/

theorem digs_code (n c : Nat) (r : List Bool) : digs c (dig n c ++ r) = (val (dig n c), 0, r) := by
  unfold digs
  rw [if_neg (by rw [List.length_append, dig_length]; omega), List.take_left' (dig_length n c), List.drop_left' (dig_length n c)]

theorem gnextA_zeros (r : List Bool) : ∀ (d f z : Nat), d ≤ f → gnextA f z (List.replicate d false ++ r) = gnextA (f - d) (z + d) r
  | 0, f, z, _ => by simp
  | d + 1, 0, z, h => by omega
  | d + 1, f + 1, z, h => by
    rw [List.replicate_succ, List.cons_append, gnextA, gnextA_zeros r d f (z + 1) (by omega)]
    congr 1 <;> omega

theorem gnext_gam {n : Nat} (h0 : 1 ≤ n) (h1 : n ≤ 2097151) (r : List Bool) : gnext (gam n ++ r) = (n, 0, r) := by
  obtain ⟨a, b⟩ := blen_code h0 h1
  have ht := top_bit h0 h1
  have hv := val_dig h0 h1
  unfold gnext gam
  rw [List.append_assoc, gnextA_zeros _ _ _ _ (by omega)]
  obtain ⟨c, hc⟩ : ∃ c, Lib.bitLen n = c + 1 := ⟨Lib.bitLen n - 1, by omega⟩
  rw [hc, Nat.add_sub_cancel] at ht hv ⊢
  obtain ⟨f, hf⟩ : ∃ f, 21 - c = f + 1 := ⟨20 - c, by omega⟩
  rw [hf, dig_succ, ht, List.cons_append, gnextA, Nat.zero_add, digs_code, hv]

theorem number_code (k : Nat) {n : Nat} (h0 : 1 ≤ n) (h1 : n ≤ 2097151) (r : List Bool) : number k (codeOf k n ++ r) = (n, 0, r) := by
  obtain ⟨a, b⟩ := blen_code h0 h1
  unfold codeOf
  by_cases hk : k = 1
  · subst hk
    rw [if_pos rfl]
    unfold number
    rw [gnext_gam h0 h1]
    simp
  · rw [if_neg hk]
    unfold number del
    rw [List.append_assoc, gnext_gam a (by omega)]
    simp only [hk]
    rw [if_neg (by decide), if_neg (by decide), if_neg (by omega), digs_code, val_dig h0 h1]

theorem numR_code (k : Nat) {n : Nat} (h0 : 1 ≤ n) (h1 : n ≤ 1048576) (r : List Bool) : numR k (codeOf k n ++ r) = (n, 0, r) := by
  unfold numR
  rw [number_code k h0 (by omega)]
  rw [if_neg (by simp), if_neg (by simp; omega)]

/-- The codes of numbers, one behind the other. -/
def codes (k : Nat) (l : List Nat) : List Bool := l.flatMap (codeOf k)

theorem codes_snoc (k : Nat) (l : List Nat) (n : Nat) : codes k (l ++ [n]) = codes k l ++ codeOf k n := by simp [codes, List.flatMap_append]

theorem decA_codes (k : Nat) : ∀ (l : List Nat) (f : Nat) (acc : List Nat), (∀ n ∈ l, 1 ≤ n ∧ n ≤ 1048576) → (codes k l).length ≤ f → decA k f (codes k l) acc = (acc ++ l, 0)
  | [], 0, acc, _, _ => by simp [decA]
  | [], f + 1, acc, _, _ => by simp [codes, decA]
  | n :: l, f, acc, h, hf => by
    obtain ⟨h0, h1⟩ := h n (List.mem_cons_self)
    have hlen := codeOf_length k h0 (show n ≤ 2097151 by omega)
    have hb := (costOf_bound k h0 (show n ≤ 2097151 by omega)).1
    have e : codes k (n :: l) = codeOf k n ++ codes k l := by simp [codes]
    rw [e] at hf ⊢
    rw [List.length_append] at hf
    obtain ⟨f, rfl⟩ : ∃ f', f = f' + 1 := ⟨f - 1, by omega⟩
    rw [decA, if_neg (by intro h; have := congrArg List.length h; rw [List.length_append, List.length_nil] at this; omega), numR_code k h0 h1, if_neg (by simp), decA_codes k l f _ (fun m hm => h m (List.mem_cons_of_mem _ hm)) (by omega)]
    simp

theorem codes_length (k : Nat) (l : List Nat) (h : ∀ n ∈ l, 1 ≤ n ∧ n ≤ 1048576) : (codes k l).length = (l.map (costOf k)).sum := by
  induction l with
  | nil => rfl
  | cons n l ih =>
    obtain ⟨h0, h1⟩ := h n (List.mem_cons_self)
    have := codeOf_length k h0 (show n ≤ 2097151 by omega)
    have e : codes k (n :: l) = codeOf k n ++ codes k l := by simp [codes]
    rw [e, List.length_append, this, ih fun m hm => h m (List.mem_cons_of_mem _ hm)]
    simp

theorem costs_le (k : Nat) (l : List Nat) (h : ∀ n ∈ l, 1 ≤ n ∧ n ≤ 1048576) : (l.map (costOf k)).sum ≤ 41 * l.length := by
  induction l with
  | nil => simp
  | cons n l ih =>
    obtain ⟨h0, h1⟩ := h n (List.mem_cons_self)
    have := (costOf_bound k h0 (show n ≤ 2097151 by omega)).2
    have := ih fun m hm => h m (List.mem_cons_of_mem _ hm)
    simp
    omega

/-- Numbers come back from their codes. -/
theorem decoded_codes (k : Nat) (l : List Nat) (h : ∀ n ∈ l, 1 ≤ n ∧ n ≤ 1048576) (hl : l.length ≤ 300) : decoded k (codes k l) = (l, 0) := by
  unfold decoded
  rw [decA_codes k l _ [] h (Nat.le_refl _)]
  simp
  omega

/-- No code begins another one. -/
theorem prefix_free (k : Nat) {m n : Nat} (hm : 1 ≤ m ∧ m ≤ 1048576) (hn : 1 ≤ n ∧ n ≤ 1048576) (r : List Bool) (h : codeOf k n = codeOf k m ++ r) : m = n := by
  have h1 := numR_code k hn.1 hn.2 []
  rw [List.append_nil, h, numR_code k hm.1 hm.2] at h1
  exact congrArg Prod.fst h1
end Go.Proofs.Ytelcnkmgdohigaa.Words
