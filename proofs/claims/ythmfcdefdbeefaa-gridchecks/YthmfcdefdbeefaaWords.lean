/-
  Plain mathematics of 64-bit words, of no program: how many one bits a number has below a place ('cnt'), that the parallel sum of adjacent bits counts them, that the exchange of ever greater groups turns a word round. Numbers are natural numbers; no condition but what each theorem names.
-/
import Derived.Laws.Bits64b
import Derived.Laws.BitsAllLaws
import Derived.Laws.BitsLemmas
import Derived.RowKit
namespace Go.Proofs.Ythmfcdefdbeefaa.Words
open Go Go.RowKit

/-- How many of the bits 0 .. k-1 of x are one. -/
def cnt (x : Nat) : Nat → Nat
  | 0 => 0
  | k + 1 => cnt x k + (x.testBit k).toNat

theorem cnt_le (x k : Nat) : cnt x k ≤ k := by
  induction k with
  | zero => simp [cnt]
  | succ k ih => simp only [cnt]; cases x.testBit k <;> simp <;> omega

theorem cnt_succ (x k : Nat) : cnt x (k + 1) = cnt x k + (x.testBit k).toNat := rfl

theorem cnt_mono (x k m : Nat) (h : k ≤ m) : cnt x k ≤ cnt x m := by
  induction m with
  | zero => have : k = 0 := by omega
            subst this; exact Nat.le_refl _
  | succ m ih =>
    by_cases e : k = m + 1
    · subst e; exact Nat.le_refl _
    · have := ih (by omega); rw [cnt_succ]; omega

theorem cnt_congr (x y k : Nat) (h : ∀ i, i < k → x.testBit i = y.testBit i) : cnt x k = cnt y k := by
  induction k with
  | zero => rfl
  | succ k ih => rw [cnt_succ, cnt_succ, ih (fun i hi => h i (by omega)), h k (by omega)]

theorem cnt_add (x a b : Nat) : cnt x (a + b) = cnt x a + cnt (x / 2 ^ a) b := by
  induction b with
  | zero => simp [cnt]
  | succ b ih => rw [← Nat.add_assoc, cnt_succ, cnt_succ, ih, Nat.testBit_div_two_pow]; rw [Nat.add_comm b a]; omega

theorem cnt_mod (x a : Nat) : cnt (x % 2 ^ a) a = cnt x a :=
  cnt_congr _ _ _ fun i hi => by rw [Nat.testBit_mod_two_pow]; simp [hi]

/-- Behind a cut at i there is nothing more. -/
theorem cnt_cut (x i k : Nat) (h : i ≤ k) : cnt (x % 2 ^ i) k = cnt x i := by
  obtain ⟨d, rfl⟩ : ∃ d, k = i + d := ⟨k - i, by omega⟩
  rw [cnt_add, cnt_mod]
  have hz : x % 2 ^ i / 2 ^ i = 0 := Nat.div_eq_of_lt (Nat.mod_lt _ (Nat.two_pow_pos i))
  rw [hz]
  have : ∀ d, cnt 0 d = 0 := by
    intro d
    induction d with
    | zero => rfl
    | succ d ih => rw [cnt_succ, ih]; simp
  rw [this]; rfl

theorem cnt_zero_of (x k : Nat) (h : cnt x k = 0) : ∀ i, i < k → x.testBit i = false := by
  induction k with
  | zero => intro i hi; omega
  | succ k ih =>
    rw [cnt_succ] at h
    intro i hi
    by_cases e : i = k
    · subst e; cases hb : x.testBit i
      · rfl
      · rw [hb] at h; simp at h
    · exact ih (by omega) i (by omega)

/-! ### The parallel sum -/

def mk (c : Nat) : Nat → Nat
  | 0 => 0
  | n + 1 => c + 256 * mk c n

theorem and_split (a c m : Nat) (hc : c < 256) : a &&& (c + 256 * m) = ((a % 256) &&& c) + 256 * ((a / 256) &&& m) := by
  have h1 : (a &&& (c + 256 * m)) % 2 ^ 8 = a % 2 ^ 8 &&& (c + 256 * m) % 2 ^ 8 := Nat.and_mod_two_pow
  have h2 : (a &&& (c + 256 * m)) / 2 ^ 8 = a / 2 ^ 8 &&& (c + 256 * m) / 2 ^ 8 := Nat.and_div_two_pow
  have e1 : (c + 256 * m) % 2 ^ 8 = c := by omega
  have e2 : (c + 256 * m) / 2 ^ 8 = m := by omega
  rw [e1] at h1
  rw [e2] at h2
  have e3 : a % 2 ^ 8 = a % 256 := by omega
  have e4 : a / 2 ^ 8 = a / 256 := by omega
  rw [e3] at h1
  rw [e4] at h2
  omega

def a1 (b : Nat) : Nat := (b / 2 &&& 85) + (b &&& 85)
def a2 (b : Nat) : Nat := (b / 4 &&& 51) + (b &&& 51)
def s1 (n x : Nat) : Nat := (x / 2 &&& mk 85 n) + (x &&& mk 85 n)
def s2 (n x : Nat) : Nat := (x / 4 &&& mk 51 n) + (x &&& mk 51 n)
def s3 (n x : Nat) : Nat := (x / 16 + x) &&& mk 15 n

theorem cross1 : ∀ v : Fin 512, (v.val / 2 &&& 85) = (v.val % 256 / 2 &&& 85) := by decide +kernel
theorem cross2 : ∀ v : Fin 1024, (v.val / 4 &&& 51) = (v.val % 256 / 4 &&& 51) := by decide +kernel
theorem bytes : ∀ b : Fin 256, a1 b.val < 256 ∧ a2 (a1 b.val) % 16 ≤ 4 ∧ a2 (a1 b.val) / 16 ≤ 4 ∧ a2 (a1 b.val) / 16 + a2 (a1 b.val) % 16 = cnt b.val 8 := by decide +kernel

theorem s1_succ (n x : Nat) : s1 (n + 1) x = a1 (x % 256) + 256 * s1 n (x / 256) := by
  unfold s1 a1
  rw [mk, and_split _ _ _ (by decide), and_split _ _ _ (by decide)]
  have h := cross1 ⟨x % 512, Nat.mod_lt _ (by decide)⟩
  simp only at h
  have e1 : x % 512 / 2 = x / 2 % 256 := by omega
  have e2 : x % 512 % 256 = x % 256 := by omega
  have e3 : x / 2 / 256 = x / 256 / 2 := by omega
  rw [e1, e2] at h
  rw [h, e3]
  omega

theorem s2_succ (n x : Nat) : s2 (n + 1) x = a2 (x % 256) + 256 * s2 n (x / 256) := by
  unfold s2 a2
  rw [mk, and_split _ _ _ (by decide), and_split _ _ _ (by decide)]
  have h := cross2 ⟨x % 1024, Nat.mod_lt _ (by decide)⟩
  simp only at h
  have e1 : x % 1024 / 4 = x / 4 % 256 := by omega
  have e2 : x % 1024 % 256 = x % 256 := by omega
  have e3 : x / 4 / 256 = x / 256 / 4 := by omega
  rw [e1, e2] at h
  rw [h, e3]
  omega

theorem s12_succ (n x : Nat) : s2 (n + 1) (s1 (n + 1) x) = a2 (a1 (x % 256)) + 256 * s2 n (s1 n (x / 256)) := by
  have hb := (bytes ⟨x % 256, Nat.mod_lt _ (by decide)⟩).1
  simp only at hb
  rw [s2_succ, s1_succ]
  have e1 : (a1 (x % 256) + 256 * s1 n (x / 256)) % 256 = a1 (x % 256) := by omega
  have e2 : (a1 (x % 256) + 256 * s1 n (x / 256)) / 256 = s1 n (x / 256) := by omega
  rw [e1, e2]

theorem s12_low (n x : Nat) : s2 n (s1 n x) % 16 ≤ 4 := by
  cases n with
  | zero => simp [s2, mk]
  | succ n =>
    rw [s12_succ]
    have hb := (bytes ⟨x % 256, Nat.mod_lt _ (by decide)⟩).2.1
    simp only at hb
    omega

theorem s123_succ (n x : Nat) : s3 (n + 1) (s2 (n + 1) (s1 (n + 1) x)) = cnt (x % 256) 8 + 256 * s3 n (s2 n (s1 n (x / 256))) := by
  have hl := s12_low n (x / 256)
  rw [s12_succ]
  obtain ⟨_, hb1, hb2, hb3⟩ := bytes ⟨x % 256, Nat.mod_lt _ (by decide)⟩
  simp only at hb1 hb2 hb3
  rw [← hb3]
  generalize a2 (a1 (x % 256)) = t at *
  generalize s2 n (s1 n (x / 256)) = y at *
  unfold s3
  rw [mk, and_split _ _ _ (by decide), nat_mask4]
  have e1 : ((t + 256 * y) / 16 + (t + 256 * y)) % 256 % 16 = t / 16 + t % 16 := by omega
  have e2 : ((t + 256 * y) / 16 + (t + 256 * y)) / 256 = y / 16 + y := by omega
  rw [e1, e2]

theorem cnt_bytes (x n : Nat) : cnt x (8 + n) = cnt (x % 256) 8 + cnt (x / 256) n := by
  rw [cnt_add]; rw [← cnt_mod x 8]

/-- The eight bytes' counts, as they lie behind the third step. -/
theorem s123_eight (x : Nat) : ∃ p0 p1 p2 p3 p4 p5 p6 p7 : Nat, p0 ≤ 8 ∧ p1 ≤ 8 ∧ p2 ≤ 8 ∧ p3 ≤ 8 ∧ p4 ≤ 8 ∧ p5 ≤ 8 ∧ p6 ≤ 8 ∧ p7 ≤ 8 ∧
    s3 8 (s2 8 (s1 8 x)) = p0 + 256 * (p1 + 256 * (p2 + 256 * (p3 + 256 * (p4 + 256 * (p5 + 256 * (p6 + 256 * p7)))))) ∧ cnt x 64 = p0 + (p1 + (p2 + (p3 + (p4 + (p5 + (p6 + p7)))))) := by
  refine ⟨cnt (x % 256) 8, cnt (x / 256 % 256) 8, cnt (x / 256 / 256 % 256) 8, cnt (x / 256 / 256 / 256 % 256) 8, cnt (x / 256 / 256 / 256 / 256 % 256) 8, cnt (x / 256 / 256 / 256 / 256 / 256 % 256) 8, cnt (x / 256 / 256 / 256 / 256 / 256 / 256 % 256) 8, cnt (x / 256 / 256 / 256 / 256 / 256 / 256 / 256 % 256) 8, cnt_le _ 8, cnt_le _ 8, cnt_le _ 8, cnt_le _ 8, cnt_le _ 8, cnt_le _ 8, cnt_le _ 8, cnt_le _ 8, ?_, ?_⟩
  · rw [s123_succ, s123_succ, s123_succ, s123_succ, s123_succ, s123_succ, s123_succ, s123_succ]
    simp [s3, mk]
  · rw [cnt_bytes x 56, cnt_bytes _ 48, cnt_bytes _ 40, cnt_bytes _ 32, cnt_bytes _ 24, cnt_bytes _ 16, cnt_bytes _ 8, ← cnt_mod (x / 256 / 256 / 256 / 256 / 256 / 256 / 256) 8]

theorem swar_end (p0 p1 p2 p3 p4 p5 p6 p7 y : Nat) (b0 : p0 ≤ 8) (b1 : p1 ≤ 8) (b2 : p2 ≤ 8) (b3 : p3 ≤ 8) (b4 : p4 ≤ 8) (b5 : p5 ≤ 8) (b6 : p6 ≤ 8) (b7 : p7 ≤ 8)
    (e : y = p0 + 256 * (p1 + 256 * (p2 + 256 * (p3 + 256 * (p4 + 256 * (p5 + 256 * (p6 + 256 * p7))))))) :
    ∃ r, y + y / 256 + (y + y / 256) / 65536 + (y + y / 256 + (y + y / 256) / 65536) / 4294967296 = r ∧ r < 9223372036854775808 ∧ r % 128 = p0 + (p1 + (p2 + (p3 + (p4 + (p5 + (p6 + p7)))))) := by
  obtain ⟨Y4, h4⟩ : ∃ Y, Y = p4 + 256 * (p5 + 256 * (p6 + 256 * p7)) := ⟨_, rfl⟩
  obtain ⟨Y3, h3⟩ : ∃ Y, Y = p3 + 256 * Y4 := ⟨_, rfl⟩
  obtain ⟨Y2, h2⟩ : ∃ Y, Y = p2 + 256 * Y3 := ⟨_, rfl⟩
  obtain ⟨Y5, h5⟩ : ∃ Y, Y = p5 + 256 * (p6 + 256 * p7) := ⟨_, rfl⟩
  rw [← h4, ← h3, ← h2] at e
  have e1 : y / 256 = p1 + 256 * Y2 := by omega
  have e2 : (y + y / 256) / 65536 = Y2 + Y3 := by rw [e1]; omega
  have h6 : Y4 = p4 + 256 * Y5 := by omega
  have hlow : y + y / 256 + (y + y / 256) / 65536 = (p0 + p1 + p2 + p3) + 256 * (p1 + p2 + p3 + p4) + 65536 * (p2 + p3 + 256 * (p3 + p4) + (Y4 + Y5)) + 4294967296 * (Y4 + Y5) := by rw [e2, e1]; omega
  have h45 : Y4 + Y5 = (p4 + p5) + 256 * (p5 + p6) + 65536 * (p6 + 256 * p7 + p7) := by omega
  obtain ⟨T, hT⟩ : ∃ T, T = p6 + 256 * p7 + p7 := ⟨_, rfl⟩
  rw [← hT] at h45
  have e3 : (y + y / 256 + (y + y / 256) / 65536) / 4294967296 = Y4 + Y5 + T := by rw [hlow, h45]; clear hlow e e1 e2 h2 h3 h4 h5 h6; omega
  rw [e3, hlow]
  refine ⟨_, rfl, ?_, ?_⟩
  · rw [h45]; clear hlow e e1 e2 e3 h2 h3 h4 h5 h6 h45; omega
  · rw [h45, hT]; clear hlow e e1 e2 e3 h2 h3 h4 h5 h6 h45; omega

theorem mk85 : mk 85 8 = 6148914691236517205 := by decide
theorem mk51 : mk 51 8 = 3689348814741910323 := by decide
theorem mk15 : mk 15 8 = 1085102592571150095 := by decide

theorem wrap_sum (a b : Nat) (h : a + b < 18446744073709551616) : IntKind.u64.wrap ((a : Int) + (b : Int)) = ((a + b : Nat) : Int) := by
  rw [IntKind.wrap_u64]; omega

theorem i64_in63 (n : Int) (h0 : 0 ≤ n) (h : n < 2 ^ 63) : IntKind.i64.wrap n = n := by
  have h' : n < 9223372036854775808 := h
  rw [IntKind.wrap_i64]; omega

theorem and127 (r : Nat) (h : r < 9223372036854775808) : bits BinOp.and IntKind.i64 (wrap64 (r : Int)) 127 = ((r % 128 : Nat) : Int) := by
  have hw : wrap64 (r : Int) = (r : Int) := by unfold wrap64; omega
  have h0 : (0 : Int) ≤ (r : Int) := by omega
  have h1 : (r : Int) < 9223372036854775808 := by omega
  have hm := bits_mask .i64 63 (by decide) i64_in63 7 (by decide) (r : Int) h0 h1
  rw [hw]
  have hm2 : bits BinOp.and IntKind.i64 (r : Int) 127 = (r : Int) % 128 := hm
  rw [hm2]; omega

/-- What the Go text computes of x, step by step, is the count. -/
theorem ones_steps (x : Nat) (hx : x < 18446744073709551616) : ∃ y1 y2 y3 y4 y5 y6 : Nat,
    IntKind.u64.wrap (bits BinOp.and IntKind.u64 ((x : Int) / 2) 6148914691236517205 + bits BinOp.and IntKind.u64 (x : Int) 6148914691236517205) = (y1 : Int) ∧
    IntKind.u64.wrap (bits BinOp.and IntKind.u64 ((y1 : Int) / 4) 3689348814741910323 + bits BinOp.and IntKind.u64 (y1 : Int) 3689348814741910323) = (y2 : Int) ∧
    bits BinOp.and IntKind.u64 (IntKind.u64.wrap ((y2 : Int) / 16 + (y2 : Int))) 1085102592571150095 = (y3 : Int) ∧
    IntKind.u64.wrap ((y3 : Int) + (y3 : Int) / 256) = (y4 : Int) ∧
    IntKind.u64.wrap ((y4 : Int) + (y4 : Int) / 65536) = (y5 : Int) ∧
    IntKind.u64.wrap ((y5 : Int) + (y5 : Int) / 4294967296) = (y6 : Int) ∧
    bits BinOp.and IntKind.i64 (wrap64 (y6 : Int)) 127 = (cnt x 64 : Int) := by
  obtain ⟨p0, p1, p2, p3, p4, p5, p6, p7, b0, b1, b2, b3, b4, b5, b6, b7, e, ec⟩ := s123_eight x
  have l1 : x / 2 &&& mk 85 8 ≤ mk 85 8 := Nat.and_le_right
  have l2 : x &&& mk 85 8 ≤ mk 85 8 := Nat.and_le_right
  have l3 : s1 8 x / 4 &&& mk 51 8 ≤ mk 51 8 := Nat.and_le_right
  have l4 : s1 8 x &&& mk 51 8 ≤ mk 51 8 := Nat.and_le_right
  rw [mk85] at l1 l2
  rw [mk51] at l3 l4
  have d1 : s1 8 x = (x / 2 &&& 6148914691236517205) + (x &&& 6148914691236517205) := by unfold s1; rw [mk85]
  have d2 : s2 8 (s1 8 x) = (s1 8 x / 4 &&& 3689348814741910323) + (s1 8 x &&& 3689348814741910323) := by unfold s2; rw [mk51]
  have d3 : s3 8 (s2 8 (s1 8 x)) = (s2 8 (s1 8 x) / 16 + s2 8 (s1 8 x)) &&& 1085102592571150095 := by unfold s3; rw [mk15]
  generalize s3 8 (s2 8 (s1 8 x)) = y3 at *
  generalize s2 8 (s1 8 x) = y2 at *
  generalize s1 8 x = y1 at *
  have i1 : ((x : Int) / 2) = ((x / 2 : Nat) : Int) := by omega
  have i2 : ((y1 : Int) / 4) = ((y1 / 4 : Nat) : Int) := by omega
  have i3 : IntKind.u64.wrap ((y2 : Int) / 16 + (y2 : Int)) = ((y2 / 16 + y2 : Nat) : Int) := by rw [IntKind.wrap_u64]; omega
  have n1 := bits_and_u64_nat (x / 2) 6148914691236517205 (by omega) (by decide)
  have n2 := bits_and_u64_nat x 6148914691236517205 hx (by decide)
  have n3 := bits_and_u64_nat (y1 / 4) 3689348814741910323 (by omega) (by decide)
  have n4 := bits_and_u64_nat y1 3689348814741910323 (by omega) (by decide)
  have n5 := bits_and_u64_nat (y2 / 16 + y2) 1085102592571150095 (by omega) (by decide)
  refine ⟨y1, y2, y3, y3 + y3 / 256, y3 + y3 / 256 + (y3 + y3 / 256) / 65536, y3 + y3 / 256 + (y3 + y3 / 256) / 65536 + (y3 + y3 / 256 + (y3 + y3 / 256) / 65536) / 4294967296, ?_, ?_, ?_, ?_, ?_, ?_, ?_⟩
  · rw [i1]; erw [n1, n2]; rw [wrap_sum _ _ (by omega), ← d1]
  · rw [i2]; erw [n3, n4]; rw [wrap_sum _ _ (by omega), ← d2]
  · rw [i3]; erw [n5]; rw [d3]
  all_goals clear d1 d2 d3 n1 n2 n3 n4 n5 i1 i2 i3 l1 l2 l3 l4
  all_goals
    have hr := swar_end p0 p1 p2 p3 p4 p5 p6 p7 y3 b0 b1 b2 b3 b4 b5 b6 b7 e
    rw [← ec] at hr
    clear e ec b0 b1 b2 b3 b4 b5 b6 b7
    obtain ⟨r, hr0, hr1, hr2⟩ := hr
    generalize h4 : y3 / 256 = d4 at *
    generalize h5 : (y3 + d4) / 65536 = d5 at *
    generalize h6 : (y3 + d4 + d5) / 4294967296 = d6 at *
  · rw [show ((y3 : Int) / 256) = ((d4 : Nat) : Int) by omega]; exact wrap_sum _ _ (by omega)
  · rw [show (((y3 + d4 : Nat) : Int) / 65536) = ((d5 : Nat) : Int) by omega]; exact wrap_sum _ _ (by omega)
  · rw [show (((y3 + d4 + d5 : Nat) : Int) / 4294967296) = ((d6 : Nat) : Int) by omega]; exact wrap_sum _ _ (by omega)
  · rw [hr0, and127 r hr1, hr2]

/-! ### Single bits, and the mask of the low bits -/

theorem bit_one (x i : Nat) (hx : x < 18446744073709551616) : (bits BinOp.and IntKind.u64 ((x : Int) / 2 ^ i) 1 == 1) = x.testBit i := by
  have e : ((x : Int) / 2 ^ i) = ((x / 2 ^ i : Nat) : Int) := by simp
  have hl : x / 2 ^ i < 18446744073709551616 := Nat.lt_of_le_of_lt (Nat.div_le_self _ _) hx
  have h := bits_and_u64_nat (x / 2 ^ i) 1 hl (by decide)
  rw [e]
  have h2 : bits BinOp.and IntKind.u64 ((x / 2 ^ i : Nat) : Int) 1 = ((x / 2 ^ i &&& 1 : Nat) : Int) := h
  rw [h2, nat_mask1, Nat.testBit_eq_decide_div_mod_eq]
  by_cases h1 : x / 2 ^ i % 2 = 1
  · simp [h1]
  · have h0 : x / 2 ^ i % 2 = 0 := by omega
    simp [h0]

theorem low_mask (x i : Nat) (hx : x < 18446744073709551616) (hi : i ≤ 64) :
    bits BinOp.and IntKind.u64 (x : Int) (IntKind.u64.wrap (IntKind.u64.wrap (2 ^ i) - 1)) = ((x % 2 ^ i : Nat) : Int) := by
  have key : IntKind.u64.wrap (IntKind.u64.wrap (2 ^ i) - 1) = ((2 ^ i - 1 : Nat) : Int) := by
    have hp : 2 ^ i ≤ 9223372036854775808 ∨ 2 ^ i = 18446744073709551616 := by
      by_cases h : i = 64
      · right; rw [h]
      · left; exact Nat.pow_le_pow_right (n := 2) (j := 63) (by decide) (by omega)
    have h1 : 1 ≤ 2 ^ i := Nat.one_le_two_pow
    have e : ((2 : Int) ^ i) = ((2 ^ i : Nat) : Int) := by simp
    rw [e, IntKind.wrap_u64, IntKind.wrap_u64]
    generalize 2 ^ i = p at *
    omega
  have hlt : 2 ^ i - 1 < 18446744073709551616 := by
    have hp : 2 ^ i ≤ 2 ^ 64 := Nat.pow_le_pow_right (by decide) hi
    omega
  rw [key, bits_and_u64_nat x _ hx hlt, Nat.and_two_pow_sub_one_eq_mod]

theorem mod_lt_word (x i : Nat) (hx : x < 18446744073709551616) : x % 2 ^ i < 18446744073709551616 := Nat.lt_of_le_of_lt (Nat.mod_le _ _) hx
end Go.Proofs.Ythmfcdefdbeefaa.Words
