/-
  Plain mathematics of 64-bit words: exchanging ever greater groups of bits turns a word round; the document's sum of single bits is the same word; how counts of one bits add up. Of no program; no condition but what each theorem names.
-/
import Derived.Test.YtjdgejjpkjhdjaaWords
namespace Go.Proofs.Ytjdgejjpkjhdjaa.Words
open Go Go.RowKit

/-- One exchange: groups of s bits change places. -/
def swapTo (s j : Nat) : Nat := if j / s % 2 = 0 then j + s else j - s

theorem step_bit (s m x j : Nat) (hj : j < 64) (h : ∀ i : Fin 64, m.testBit i.val = (i.val / s % 2 == 0) ∧ (decide (s ≤ i.val) && m.testBit (i.val - s)) = (i.val / s % 2 == 1)) :
    ((x / 2 ^ s &&& m) ||| ((x &&& m) * 2 ^ s % 2 ^ 64)).testBit j = x.testBit (swapTo s j) := by
  obtain ⟨h1, h2⟩ := h ⟨j, hj⟩
  simp only at h1 h2
  rw [Nat.testBit_or, Nat.testBit_and, Nat.testBit_div_two_pow, Nat.testBit_mod_two_pow, Nat.mul_comm, Nat.testBit_two_pow_mul, Nat.testBit_and, h1]
  unfold swapTo
  have hlt : decide (j < 64) = true := by simpa using hj
  by_cases hs : s ≤ j
  · have hs' : decide (j ≥ s) = true := by simpa using hs
    have hs'' : decide (s ≤ j) = true := by simpa using hs
    rw [hs''] at h2
    rw [Bool.true_and] at h2
    rw [hs', hlt, h2]
    by_cases e : j / s % 2 = 0
    · have e1 : (j / s % 2 == 1) = false := by simp; omega
      have e0 : (j / s % 2 == 0) = true := by simpa using e
      rw [e1, e0, if_pos e]; simp
    · have e1 : (j / s % 2 == 1) = true := by simp; omega
      have e0 : (j / s % 2 == 0) = false := by simpa using e
      rw [e1, e0, if_neg e]; simp
  · have hs' : decide (j ≥ s) = false := by simpa using hs
    have hs'' : decide (s ≤ j) = false := by simpa using hs
    rw [hs''] at h2
    rw [Bool.false_and] at h2
    have e : j / s % 2 = 0 := by
      have e1 : ¬ j / s % 2 = 1 := by
        intro c
        rw [c] at h2
        simp at h2
      omega
    have e0 : (j / s % 2 == 0) = true := by simpa using e
    rw [hs', e0, if_pos e]; simp

theorem mask1 : ∀ i : Fin 64, (6148914691236517205 : Nat).testBit i.val = (i.val / 1 % 2 == 0) ∧ (decide (1 ≤ i.val) && (6148914691236517205 : Nat).testBit (i.val - 1)) = (i.val / 1 % 2 == 1) := by decide +kernel
theorem mask2 : ∀ i : Fin 64, (3689348814741910323 : Nat).testBit i.val = (i.val / 2 % 2 == 0) ∧ (decide (2 ≤ i.val) && (3689348814741910323 : Nat).testBit (i.val - 2)) = (i.val / 2 % 2 == 1) := by decide +kernel
theorem mask4 : ∀ i : Fin 64, (1085102592571150095 : Nat).testBit i.val = (i.val / 4 % 2 == 0) ∧ (decide (4 ≤ i.val) && (1085102592571150095 : Nat).testBit (i.val - 4)) = (i.val / 4 % 2 == 1) := by decide +kernel
theorem mask8 : ∀ i : Fin 64, (71777214294589695 : Nat).testBit i.val = (i.val / 8 % 2 == 0) ∧ (decide (8 ≤ i.val) && (71777214294589695 : Nat).testBit (i.val - 8)) = (i.val / 8 % 2 == 1) := by decide +kernel
theorem mask16 : ∀ i : Fin 64, (281470681808895 : Nat).testBit i.val = (i.val / 16 % 2 == 0) ∧ (decide (16 ≤ i.val) && (281470681808895 : Nat).testBit (i.val - 16)) = (i.val / 16 % 2 == 1) := by decide +kernel
theorem mask32 : ∀ i : Fin 64, (4294967295 : Nat).testBit i.val = (i.val / 32 % 2 == 0) ∧ (decide (32 ≤ i.val) && (4294967295 : Nat).testBit (i.val - 32)) = (i.val / 32 % 2 == 1) := by decide +kernel

theorem round_trip : ∀ i : Fin 64, swapTo 32 i.val < 64 ∧ swapTo 16 (swapTo 32 i.val) < 64 ∧ swapTo 8 (swapTo 16 (swapTo 32 i.val)) < 64 ∧ swapTo 4 (swapTo 8 (swapTo 16 (swapTo 32 i.val))) < 64 ∧
    swapTo 2 (swapTo 4 (swapTo 8 (swapTo 16 (swapTo 32 i.val)))) < 64 ∧ swapTo 1 (swapTo 2 (swapTo 4 (swapTo 8 (swapTo 16 (swapTo 32 i.val))))) = 63 - i.val := by decide +kernel

/-- One exchange, as the Go text has it. -/
theorem swap_int (x m p : Nat) (hx : x < 18446744073709551616) (hm : m < 18446744073709551616) :
    bits BinOp.or IntKind.u64 (bits BinOp.and IntKind.u64 ((x : Int) / (p : Int)) (m : Int)) (IntKind.u64.wrap (bits BinOp.and IntKind.u64 (x : Int) (m : Int) * (p : Int))) = (((x / p &&& m) ||| ((x &&& m) * p % 18446744073709551616) : Nat) : Int) := by
  have e1 : ((x : Int) / (p : Int)) = ((x / p : Nat) : Int) := (Int.natCast_ediv x p).symm
  have hl : x / p < 18446744073709551616 := Nat.lt_of_le_of_lt (Nat.div_le_self _ _) hx
  have hr : x &&& m < 18446744073709551616 := Nat.lt_of_le_of_lt Nat.and_le_left hx
  have hr2 : x / p &&& m < 18446744073709551616 := Nat.lt_of_le_of_lt Nat.and_le_left hl
  have e2 : IntKind.u64.wrap (((x &&& m : Nat) : Int) * (p : Int)) = (((x &&& m) * p % 18446744073709551616 : Nat) : Int) := by
    rw [IntKind.wrap_u64, Int.natCast_emod, Int.natCast_mul]; rfl
  rw [e1, bits_and_u64_nat _ _ hl hm, bits_and_u64_nat _ _ hx hm, e2, bits_or_u64_nat _ _ hr2 (Nat.mod_lt _ (by decide))]

theorem or_lt (a b : Nat) (ha : a < 18446744073709551616) : a ||| (b % 18446744073709551616) < 18446744073709551616 :=
  Nat.or_lt_two_pow (n := 64) ha (Nat.mod_lt _ (by decide))

/-- The last exchange has no mask. -/
theorem last_swap (x : Nat) (hx : x < 18446744073709551616) : (x / 4294967296) ||| (x * 4294967296 % 18446744073709551616) = (x / 2 ^ 32 &&& 4294967295) ||| ((x &&& 4294967295) * 2 ^ 32 % 2 ^ 64) := by
  have a1 : x / 2 ^ 32 &&& 4294967295 = x / 2 ^ 32 % 2 ^ 32 := Nat.and_two_pow_sub_one_eq_mod (x / 2 ^ 32) 32
  have a2 : x &&& 4294967295 = x % 2 ^ 32 := Nat.and_two_pow_sub_one_eq_mod x 32
  rw [a1, a2]
  have b1 : x / 2 ^ 32 % 2 ^ 32 = x / 4294967296 := by omega
  have b2 : x % 2 ^ 32 * 2 ^ 32 % 2 ^ 64 = x * 4294967296 % 18446744073709551616 := by omega
  rw [b1, b2]

/-- The word turned round: what the Go text computes, step by step, and its bits. -/
theorem turn_steps (x : Nat) (hx : x < 18446744073709551616) : ∃ y1 y2 y3 y4 y5 y6 : Nat,
    bits BinOp.or IntKind.u64 (bits BinOp.and IntKind.u64 ((x : Int) / 2) 6148914691236517205) (IntKind.u64.wrap (bits BinOp.and IntKind.u64 (x : Int) 6148914691236517205 * 2)) = (y1 : Int) ∧
    bits BinOp.or IntKind.u64 (bits BinOp.and IntKind.u64 ((y1 : Int) / 4) 3689348814741910323) (IntKind.u64.wrap (bits BinOp.and IntKind.u64 (y1 : Int) 3689348814741910323 * 4)) = (y2 : Int) ∧
    bits BinOp.or IntKind.u64 (bits BinOp.and IntKind.u64 ((y2 : Int) / 16) 1085102592571150095) (IntKind.u64.wrap (bits BinOp.and IntKind.u64 (y2 : Int) 1085102592571150095 * 16)) = (y3 : Int) ∧
    bits BinOp.or IntKind.u64 (bits BinOp.and IntKind.u64 ((y3 : Int) / 256) 71777214294589695) (IntKind.u64.wrap (bits BinOp.and IntKind.u64 (y3 : Int) 71777214294589695 * 256)) = (y4 : Int) ∧
    bits BinOp.or IntKind.u64 (bits BinOp.and IntKind.u64 ((y4 : Int) / 65536) 281470681808895) (IntKind.u64.wrap (bits BinOp.and IntKind.u64 (y4 : Int) 281470681808895 * 65536)) = (y5 : Int) ∧
    bits BinOp.or IntKind.u64 ((y5 : Int) / 4294967296) (IntKind.u64.wrap ((y5 : Int) * 4294967296)) = (y6 : Int) ∧
    y6 < 18446744073709551616 ∧ ∀ i, i < 64 → y6.testBit i = x.testBit (63 - i) := by
  have l1 := or_lt (x / 2 &&& 6148914691236517205) ((x &&& 6148914691236517205) * 2) (Nat.lt_of_le_of_lt Nat.and_le_right (by decide))
  have s1 := swap_int x 6148914691236517205 2 hx (by decide)
  have t1 := fun j hj => step_bit 1 6148914691236517205 x j hj mask1
  obtain ⟨y1, hy1⟩ : ∃ y, y = (x / 2 &&& 6148914691236517205) ||| ((x &&& 6148914691236517205) * 2 % 18446744073709551616) := ⟨_, rfl⟩
  rw [← hy1] at l1 s1
  have l2 := or_lt (y1 / 4 &&& 3689348814741910323) ((y1 &&& 3689348814741910323) * 4) (Nat.lt_of_le_of_lt Nat.and_le_right (by decide))
  have s2 := swap_int y1 3689348814741910323 4 l1 (by decide)
  have t2 := fun j hj => step_bit 2 3689348814741910323 y1 j hj mask2
  obtain ⟨y2, hy2⟩ : ∃ y, y = (y1 / 4 &&& 3689348814741910323) ||| ((y1 &&& 3689348814741910323) * 4 % 18446744073709551616) := ⟨_, rfl⟩
  rw [← hy2] at l2 s2
  have l3 := or_lt (y2 / 16 &&& 1085102592571150095) ((y2 &&& 1085102592571150095) * 16) (Nat.lt_of_le_of_lt Nat.and_le_right (by decide))
  have s3 := swap_int y2 1085102592571150095 16 l2 (by decide)
  have t3 := fun j hj => step_bit 4 1085102592571150095 y2 j hj mask4
  obtain ⟨y3, hy3⟩ : ∃ y, y = (y2 / 16 &&& 1085102592571150095) ||| ((y2 &&& 1085102592571150095) * 16 % 18446744073709551616) := ⟨_, rfl⟩
  rw [← hy3] at l3 s3
  have l4 := or_lt (y3 / 256 &&& 71777214294589695) ((y3 &&& 71777214294589695) * 256) (Nat.lt_of_le_of_lt Nat.and_le_right (by decide))
  have s4 := swap_int y3 71777214294589695 256 l3 (by decide)
  have t4 := fun j hj => step_bit 8 71777214294589695 y3 j hj mask8
  obtain ⟨y4, hy4⟩ : ∃ y, y = (y3 / 256 &&& 71777214294589695) ||| ((y3 &&& 71777214294589695) * 256 % 18446744073709551616) := ⟨_, rfl⟩
  rw [← hy4] at l4 s4
  have l5 := or_lt (y4 / 65536 &&& 281470681808895) ((y4 &&& 281470681808895) * 65536) (Nat.lt_of_le_of_lt Nat.and_le_right (by decide))
  have s5 := swap_int y4 281470681808895 65536 l4 (by decide)
  have t5 := fun j hj => step_bit 16 281470681808895 y4 j hj mask16
  obtain ⟨y5, hy5⟩ : ∃ y, y = (y4 / 65536 &&& 281470681808895) ||| ((y4 &&& 281470681808895) * 65536 % 18446744073709551616) := ⟨_, rfl⟩
  rw [← hy5] at l5 s5
  have l6 := or_lt (y5 / 4294967296) (y5 * 4294967296) (Nat.lt_of_le_of_lt (Nat.div_le_self _ _) l5)
  have t6 := fun j hj => step_bit 32 4294967295 y5 j hj mask32
  have z6 := last_swap y5 l5
  have s6 : bits BinOp.or IntKind.u64 ((y5 : Int) / 4294967296) (IntKind.u64.wrap ((y5 : Int) * 4294967296)) = (((y5 / 4294967296) ||| (y5 * 4294967296 % 18446744073709551616) : Nat) : Int) := by
    have e1 : ((y5 : Int) / 4294967296) = ((y5 / 4294967296 : Nat) : Int) := by omega
    have e2 : IntKind.u64.wrap ((y5 : Int) * 4294967296) = ((y5 * 4294967296 % 18446744073709551616 : Nat) : Int) := by rw [IntKind.wrap_u64]; omega
    rw [e1, e2, bits_or_u64_nat _ _ (by omega) (by omega)]
  obtain ⟨y6, hy6⟩ : ∃ y, y = (y5 / 4294967296) ||| (y5 * 4294967296 % 18446744073709551616) := ⟨_, rfl⟩
  rw [← hy6] at l6 s6
  refine ⟨y1, y2, y3, y4, y5, y6, s1, s2, s3, s4, s5, s6, l6, ?_⟩
  intro i hi
  obtain ⟨r1, r2, r3, r4, r5, r6⟩ := round_trip ⟨i, hi⟩
  simp only at r1 r2 r3 r4 r5 r6
  have u1 : ∀ j, j < 64 → y1.testBit j = x.testBit (swapTo 1 j) := fun j hj => by rw [hy1]; exact t1 j hj
  have u2 : ∀ j, j < 64 → y2.testBit j = y1.testBit (swapTo 2 j) := fun j hj => by rw [hy2]; exact t2 j hj
  have u3 : ∀ j, j < 64 → y3.testBit j = y2.testBit (swapTo 4 j) := fun j hj => by rw [hy3]; exact t3 j hj
  have u4 : ∀ j, j < 64 → y4.testBit j = y3.testBit (swapTo 8 j) := fun j hj => by rw [hy4]; exact t4 j hj
  have u5 : ∀ j, j < 64 → y5.testBit j = y4.testBit (swapTo 16 j) := fun j hj => by rw [hy5]; exact t5 j hj
  have u6 : y6.testBit i = y5.testBit (swapTo 32 i) := by rw [hy6, z6]; exact t6 i hi
  rw [u6, u5 _ r1, u4 _ r2, u3 _ r3, u2 _ r4, u1 _ r5, r6]

/-! ### The document's turn: a sum of single bits -/

def turnTo (x : Nat) : Nat → Nat
  | 0 => 0
  | k + 1 => if x.testBit k then turnTo x k + 2 ^ (63 - k) else turnTo x k

theorem turnTo_spec (x k : Nat) (hk : k ≤ 64) : turnTo x k % 2 ^ (64 - k) = 0 ∧ turnTo x k < 18446744073709551616 ∧ ∀ i, i < 64 → (turnTo x k).testBit i = (decide (63 - i < k) && x.testBit (63 - i)) := by
  induction k with
  | zero => exact ⟨by simp [turnTo], by simp [turnTo], fun i _ => by simp [turnTo]⟩
  | succ k ih =>
    obtain ⟨h1, h2, h3⟩ := ih (by omega)
    have hp : 2 ^ (64 - k) = 2 * 2 ^ (63 - k) := by rw [show 64 - k = (63 - k) + 1 by omega, Nat.pow_succ]; omega
    have hq : 2 ^ (64 - (k + 1)) = 2 ^ (63 - k) := by rw [show 64 - (k + 1) = 63 - k by omega]
    have hpos : 0 < 2 ^ (63 - k) := Nat.two_pow_pos _
    have hd : turnTo x k % 2 ^ (63 - k) = 0 := by
      rw [hp] at h1
      exact Nat.mod_eq_zero_of_dvd (Nat.dvd_trans (Nat.dvd_mul_left _ _) (Nat.dvd_of_mod_eq_zero h1))
    by_cases hb : x.testBit k = true
    · have he : turnTo x (k + 1) = turnTo x k + 2 ^ (63 - k) := by simp [turnTo, hb]
      have hj : turnTo x k ||| 2 ^ (63 - k) = turnTo x k + 2 ^ (63 - k) := nat_join (64 - k) _ _ h1 (by rw [hp]; omega)
      rw [he, hq]
      refine ⟨by rw [Nat.add_mod_right]; exact hd, ?_, ?_⟩
      · rw [← hj]; exact Nat.or_lt_two_pow (n := 64) h2 (Nat.pow_lt_pow_right (by decide) (by omega))
      · intro i hi
        rw [← hj, Nat.testBit_or, h3 i hi, Nat.testBit_two_pow]
        by_cases e : 63 - k = i
        · subst e
          have e2 : 63 - (63 - k) = k := by omega
          rw [e2, hb]; simp
        · have e3 : decide (63 - k = i) = false := by simpa using e
          have e4 : decide (63 - i < k) = decide (63 - i < k + 1) := by
            rw [decide_eq_decide]; omega
          rw [e3, e4]; simp
    · have hb' : x.testBit k = false := by simpa using hb
      have he : turnTo x (k + 1) = turnTo x k := by simp [turnTo, hb']
      rw [he, hq]
      refine ⟨hd, h2, ?_⟩
      intro i hi
      rw [h3 i hi]
      by_cases e : 63 - i = k
      · rw [e, hb']; simp
      · have e4 : decide (63 - i < k) = decide (63 - i < k + 1) := by
          rw [decide_eq_decide]; omega
        rw [e4]

theorem turn_skip (x j : Nat) (hb : x.testBit j = false) : turnTo x (j + 1) = turnTo x j := by simp [turnTo, hb]

theorem turn_add (x j : Nat) (hj : j < 64) (hb : x.testBit j = true) : IntKind.u64.wrap ((turnTo x j : Int) + IntKind.u64.wrap (2 ^ (63 - j))) = (turnTo x (j + 1) : Int) := by
  have he : turnTo x (j + 1) = turnTo x j + 2 ^ (63 - j) := by simp [turnTo, hb]
  have hl := (turnTo_spec x (j + 1) (by omega)).2.1
  have e : ((2 : Int) ^ (63 - j)) = ((2 ^ (63 - j) : Nat) : Int) := by simp
  rw [he] at hl ⊢
  rw [e, IntKind.wrap_u64, IntKind.wrap_u64]
  generalize 2 ^ (63 - j) = p at *
  omega

theorem turn_unique (x y : Nat) (hy : y < 18446744073709551616) (h : ∀ i, i < 64 → y.testBit i = x.testBit (63 - i)) : y = turnTo x 64 := by
  obtain ⟨_, h2, h3⟩ := turnTo_spec x 64 (Nat.le_refl _)
  apply Nat.eq_of_testBit_eq
  intro i
  by_cases hi : i < 64
  · rw [h i hi, h3 i hi]
    have : decide (63 - i < 64) = true := by simp; omega
    rw [this]; simp
  · have p : ∀ z, z < 18446744073709551616 → z.testBit i = false := fun z hz =>
      Nat.testBit_lt_two_pow (Nat.lt_of_lt_of_le (show z < 2 ^ 64 from hz) (Nat.pow_le_pow_right (by decide) (by omega)))
    rw [p y hy, p _ h2]

theorem turn_bit (x i : Nat) (hi : i < 64) : (turnTo x 64).testBit i = x.testBit (63 - i) := by
  rw [(turnTo_spec x 64 (Nat.le_refl _)).2.2 i hi]
  have : decide (63 - i < 64) = true := by simp; omega
  rw [this]; simp

theorem turn_lt (x : Nat) : turnTo x 64 < 18446744073709551616 := (turnTo_spec x 64 (Nat.le_refl _)).2.1

/-- Turned twice a word is what it was. -/
theorem turn_twice (x : Nat) (hx : x < 18446744073709551616) : turnTo (turnTo x 64) 64 = x := by
  refine (turn_unique _ x hx ?_).symm
  intro i hi
  rw [turn_bit x (63 - i) (by omega), show 63 - (63 - i) = i by omega]

theorem turn_one : turnTo 1 64 = 9223372036854775808 := by decide +kernel

theorem cnt_turn (x k : Nat) (hk : k ≤ 64) : cnt (turnTo x 64) k + cnt x (64 - k) = cnt x 64 := by
  induction k with
  | zero => simp [cnt]
  | succ k ih =>
    have h := ih (by omega)
    rw [cnt_succ, turn_bit x k (by omega)]
    have e : 64 - k = (64 - (k + 1)) + 1 := by omega
    rw [e, cnt_succ, show 64 - (k + 1) = 63 - k by omega] at h
    rw [show 64 - (k + 1) = 63 - k by omega]
    omega

/-! ### Counts add up -/

theorem cnt_or_and (x v k : Nat) : cnt x k + cnt v k = cnt (x ||| v) k + cnt (x &&& v) k := by
  induction k with
  | zero => rfl
  | succ k ih =>
    simp only [cnt_succ, Nat.testBit_or, Nat.testBit_and]
    cases x.testBit k <;> cases v.testBit k <;> simp <;> omega

theorem cnt_xor (x v k : Nat) : cnt (x ^^^ v) k + cnt (x &&& v) k = cnt (x ||| v) k := by
  induction k with
  | zero => rfl
  | succ k ih =>
    simp only [cnt_succ, Nat.testBit_or, Nat.testBit_and, Nat.testBit_xor]
    cases x.testBit k <;> cases v.testBit k <;> simp <;> omega

theorem not_int (x : Nat) (hx : x < 18446744073709551616) : bits BinOp.xor IntKind.u64 IntKind.u64.max (x : Int) = ((18446744073709551615 - x : Nat) : Int) := by
  have e : IntKind.u64.max = ((18446744073709551615 : Nat) : Int) := by decide
  rw [e, bits_xor_u64_nat _ _ (by decide) hx]
  congr 1
  have e2 : 18446744073709551615 - x = 2 ^ 64 - (x + 1) := by omega
  rw [e2]
  apply Nat.eq_of_testBit_eq
  intro i
  rw [Nat.testBit_two_pow_sub_succ (show x < 2 ^ 64 from hx), Nat.testBit_xor, show (18446744073709551615 : Nat) = 2 ^ 64 - 1 from rfl, Nat.testBit_two_pow_sub_one]
  by_cases hi : i < 64
  · have hd : decide (i < 64) = true := by simpa using hi
    rw [hd]; simp
  · have hd : decide (i < 64) = false := by simpa using hi
    have hb : x.testBit i = false := Nat.testBit_lt_two_pow (Nat.lt_of_lt_of_le (show x < 2 ^ 64 from hx) (Nat.pow_le_pow_right (by decide) (by omega)))
    rw [hd, hb]; rfl

theorem cnt_not (x k : Nat) (hx : x < 18446744073709551616) (hk : k ≤ 64) : cnt x k + cnt (18446744073709551615 - x) k = k := by
  have e : 18446744073709551615 - x = 2 ^ 64 - (x + 1) := by omega
  have hb : ∀ i, i < 64 → (18446744073709551615 - x).testBit i = !x.testBit i := by
    intro i hi
    rw [e, Nat.testBit_two_pow_sub_succ (show x < 2 ^ 64 from hx)]
    have hd : decide (i < 64) = true := by simpa using hi
    rw [hd]; rfl
  clear e
  generalize 18446744073709551615 - x = z at *
  induction k with
  | zero => rfl
  | succ k ih =>
    have h := ih (by omega)
    rw [cnt_succ, cnt_succ, hb k (by omega)]
    cases x.testBit k <;> simp <;> omega
end Go.Proofs.Ytjdgejjpkjhdjaa.Words
