/-
  Plain mathematics of 64-bit words, of no program: how many one bits a number has below a place ('cnt'), that the parallel sum of adjacent bits counts them, that the exchange of ever greater groups turns a word round. Numbers are natural numbers; no condition but what each theorem names. Plain mathematics of bit vectors laid in words of 64 bits, of no program: the bits, how many of them are one, what makes a vector valid. Plain mathematics of bools laid in words of 64 bits, of no program: the words after i of them are laid, one step more, what bits they have. Plain mathematics of wavelet matrices, of no program: the numbers of a matrix, where a level sends the numbers of a range, how many numbers of a range are less than or equal to a number, the one with index k in the sorted range, the matrix of a list. Plain mathematics of wavelet matrices and lists, of no program: the matrix of a list, the list of a matrix, ranges of it, sorted. Plain mathematics of distinct numbers in increasing order, and of ranks. Plain mathematics of packed arrays, of no program: numbers of a fixed number of bits laid in words of 64 bits, what makes an array valid, reading and laying a number over a word's end, the number of bits that a number needs. No condition but what each theorem names.
-/
import Derived.Laws.Bits64b
import Derived.Laws.BitsAllLaws
import Derived.Laws.BitsLemmas
import Derived.RowKit
import Derived.Lib.SlicesCompact
import Derived.Lib.BitFns
namespace Go.Proofs.Ythmfcdefdbeefaa.Words
open Go Go.RowKit

/-- How many of the bits 0 .. k-1 of x are one. -/
def cnt (x : Nat) : Nat → Nat
  | 0 => 0
  | k + 1 => cnt x k + (x.testBit k).toNat

theorem cnt_le (x k : Nat) : cnt x k ≤ k := by
  induction k with
  | zero => simp [cnt]
  | succ k ih => simp only [cnt]; cases x.testBit k <;> simp <;> omega

theorem cnt_succ (x k : Nat) : cnt x (k + 1) = cnt x k + (x.testBit k).toNat := rfl

theorem cnt_mono (x k m : Nat) (h : k ≤ m) : cnt x k ≤ cnt x m := by
  induction m with
  | zero => have : k = 0 := by omega
            subst this; exact Nat.le_refl _
  | succ m ih =>
    by_cases e : k = m + 1
    · subst e; exact Nat.le_refl _
    · have := ih (by omega); rw [cnt_succ]; omega

theorem cnt_congr (x y k : Nat) (h : ∀ i, i < k → x.testBit i = y.testBit i) : cnt x k = cnt y k := by
  induction k with
  | zero => rfl
  | succ k ih => rw [cnt_succ, cnt_succ, ih (fun i hi => h i (by omega)), h k (by omega)]

theorem cnt_add (x a b : Nat) : cnt x (a + b) = cnt x a + cnt (x / 2 ^ a) b := by
  induction b with
  | zero => simp [cnt]
  | succ b ih => rw [← Nat.add_assoc, cnt_succ, cnt_succ, ih, Nat.testBit_div_two_pow]; rw [Nat.add_comm b a]; omega

theorem cnt_mod (x a : Nat) : cnt (x % 2 ^ a) a = cnt x a :=
  cnt_congr _ _ _ fun i hi => by rw [Nat.testBit_mod_two_pow]; simp [hi]

/-- Behind a cut at i there is nothing more. -/
theorem cnt_cut (x i k : Nat) (h : i ≤ k) : cnt (x % 2 ^ i) k = cnt x i := by
  obtain ⟨d, rfl⟩ : ∃ d, k = i + d := ⟨k - i, by omega⟩
  rw [cnt_add, cnt_mod]
  have hz : x % 2 ^ i / 2 ^ i = 0 := Nat.div_eq_of_lt (Nat.mod_lt _ (Nat.two_pow_pos i))
  rw [hz]
  have : ∀ d, cnt 0 d = 0 := by
    intro d
    induction d with
    | zero => rfl
    | succ d ih => rw [cnt_succ, ih]; simp
  rw [this]; rfl

theorem cnt_zero_of (x k : Nat) (h : cnt x k = 0) : ∀ i, i < k → x.testBit i = false := by
  induction k with
  | zero => intro i hi; omega
  | succ k ih =>
    rw [cnt_succ] at h
    intro i hi
    by_cases e : i = k
    · subst e; cases hb : x.testBit i
      · rfl
      · rw [hb] at h; simp at h
    · exact ih (by omega) i (by omega)

/-! ### The parallel sum -/

def mk (c : Nat) : Nat → Nat
  | 0 => 0
  | n + 1 => c + 256 * mk c n

theorem and_split (a c m : Nat) (hc : c < 256) : a &&& (c + 256 * m) = ((a % 256) &&& c) + 256 * ((a / 256) &&& m) := by
  have h1 : (a &&& (c + 256 * m)) % 2 ^ 8 = a % 2 ^ 8 &&& (c + 256 * m) % 2 ^ 8 := Nat.and_mod_two_pow
  have h2 : (a &&& (c + 256 * m)) / 2 ^ 8 = a / 2 ^ 8 &&& (c + 256 * m) / 2 ^ 8 := Nat.and_div_two_pow
  have e1 : (c + 256 * m) % 2 ^ 8 = c := by omega
  have e2 : (c + 256 * m) / 2 ^ 8 = m := by omega
  rw [e1] at h1
  rw [e2] at h2
  have e3 : a % 2 ^ 8 = a % 256 := by omega
  have e4 : a / 2 ^ 8 = a / 256 := by omega
  rw [e3] at h1
  rw [e4] at h2
  omega

def a1 (b : Nat) : Nat := (b / 2 &&& 85) + (b &&& 85)
def a2 (b : Nat) : Nat := (b / 4 &&& 51) + (b &&& 51)
def s1 (n x : Nat) : Nat := (x / 2 &&& mk 85 n) + (x &&& mk 85 n)
def s2 (n x : Nat) : Nat := (x / 4 &&& mk 51 n) + (x &&& mk 51 n)
def s3 (n x : Nat) : Nat := (x / 16 + x) &&& mk 15 n

theorem cross1 : ∀ v : Fin 512, (v.val / 2 &&& 85) = (v.val % 256 / 2 &&& 85) := by decide +kernel
theorem cross2 : ∀ v : Fin 1024, (v.val / 4 &&& 51) = (v.val % 256 / 4 &&& 51) := by decide +kernel
theorem bytes : ∀ b : Fin 256, a1 b.val < 256 ∧ a2 (a1 b.val) % 16 ≤ 4 ∧ a2 (a1 b.val) / 16 ≤ 4 ∧ a2 (a1 b.val) / 16 + a2 (a1 b.val) % 16 = cnt b.val 8 := by decide +kernel

theorem s1_succ (n x : Nat) : s1 (n + 1) x = a1 (x % 256) + 256 * s1 n (x / 256) := by
  unfold s1 a1
  rw [mk, and_split _ _ _ (by decide), and_split _ _ _ (by decide)]
  have h := cross1 ⟨x % 512, Nat.mod_lt _ (by decide)⟩
  simp only at h
  have e1 : x % 512 / 2 = x / 2 % 256 := by omega
  have e2 : x % 512 % 256 = x % 256 := by omega
  have e3 : x / 2 / 256 = x / 256 / 2 := by omega
  rw [e1, e2] at h
  rw [h, e3]
  omega

theorem s2_succ (n x : Nat) : s2 (n + 1) x = a2 (x % 256) + 256 * s2 n (x / 256) := by
  unfold s2 a2
  rw [mk, and_split _ _ _ (by decide), and_split _ _ _ (by decide)]
  have h := cross2 ⟨x % 1024, Nat.mod_lt _ (by decide)⟩
  simp only at h
  have e1 : x % 1024 / 4 = x / 4 % 256 := by omega
  have e2 : x % 1024 % 256 = x % 256 := by omega
  have e3 : x / 4 / 256 = x / 256 / 4 := by omega
  rw [e1, e2] at h
  rw [h, e3]
  omega

theorem s12_succ (n x : Nat) : s2 (n + 1) (s1 (n + 1) x) = a2 (a1 (x % 256)) + 256 * s2 n (s1 n (x / 256)) := by
  have hb := (bytes ⟨x % 256, Nat.mod_lt _ (by decide)⟩).1
  simp only at hb
  rw [s2_succ, s1_succ]
  have e1 : (a1 (x % 256) + 256 * s1 n (x / 256)) % 256 = a1 (x % 256) := by omega
  have e2 : (a1 (x % 256) + 256 * s1 n (x / 256)) / 256 = s1 n (x / 256) := by omega
  rw [e1, e2]

theorem s12_low (n x : Nat) : s2 n (s1 n x) % 16 ≤ 4 := by
  cases n with
  | zero => simp [s2, mk]
  | succ n =>
    rw [s12_succ]
    have hb := (bytes ⟨x % 256, Nat.mod_lt _ (by decide)⟩).2.1
    simp only at hb
    omega

theorem s123_succ (n x : Nat) : s3 (n + 1) (s2 (n + 1) (s1 (n + 1) x)) = cnt (x % 256) 8 + 256 * s3 n (s2 n (s1 n (x / 256))) := by
  have hl := s12_low n (x / 256)
  rw [s12_succ]
  obtain ⟨_, hb1, hb2, hb3⟩ := bytes ⟨x % 256, Nat.mod_lt _ (by decide)⟩
  simp only at hb1 hb2 hb3
  rw [← hb3]
  generalize a2 (a1 (x % 256)) = t at *
  generalize s2 n (s1 n (x / 256)) = y at *
  unfold s3
  rw [mk, and_split _ _ _ (by decide), nat_mask4]
  have e1 : ((t + 256 * y) / 16 + (t + 256 * y)) % 256 % 16 = t / 16 + t % 16 := by omega
  have e2 : ((t + 256 * y) / 16 + (t + 256 * y)) / 256 = y / 16 + y := by omega
  rw [e1, e2]

theorem cnt_bytes (x n : Nat) : cnt x (8 + n) = cnt (x % 256) 8 + cnt (x / 256) n := by
  rw [cnt_add]; rw [← cnt_mod x 8]

/-- The eight bytes' counts, as they lie behind the third step. -/
theorem s123_eight (x : Nat) : ∃ p0 p1 p2 p3 p4 p5 p6 p7 : Nat, p0 ≤ 8 ∧ p1 ≤ 8 ∧ p2 ≤ 8 ∧ p3 ≤ 8 ∧ p4 ≤ 8 ∧ p5 ≤ 8 ∧ p6 ≤ 8 ∧ p7 ≤ 8 ∧
    s3 8 (s2 8 (s1 8 x)) = p0 + 256 * (p1 + 256 * (p2 + 256 * (p3 + 256 * (p4 + 256 * (p5 + 256 * (p6 + 256 * p7)))))) ∧ cnt x 64 = p0 + (p1 + (p2 + (p3 + (p4 + (p5 + (p6 + p7)))))) := by
  refine ⟨cnt (x % 256) 8, cnt (x / 256 % 256) 8, cnt (x / 256 / 256 % 256) 8, cnt (x / 256 / 256 / 256 % 256) 8, cnt (x / 256 / 256 / 256 / 256 % 256) 8, cnt (x / 256 / 256 / 256 / 256 / 256 % 256) 8, cnt (x / 256 / 256 / 256 / 256 / 256 / 256 % 256) 8, cnt (x / 256 / 256 / 256 / 256 / 256 / 256 / 256 % 256) 8, cnt_le _ 8, cnt_le _ 8, cnt_le _ 8, cnt_le _ 8, cnt_le _ 8, cnt_le _ 8, cnt_le _ 8, cnt_le _ 8, ?_, ?_⟩
  · rw [s123_succ, s123_succ, s123_succ, s123_succ, s123_succ, s123_succ, s123_succ, s123_succ]
    simp [s3, mk]
  · rw [cnt_bytes x 56, cnt_bytes _ 48, cnt_bytes _ 40, cnt_bytes _ 32, cnt_bytes _ 24, cnt_bytes _ 16, cnt_bytes _ 8, ← cnt_mod (x / 256 / 256 / 256 / 256 / 256 / 256 / 256) 8]

theorem swar_end (p0 p1 p2 p3 p4 p5 p6 p7 y : Nat) (b0 : p0 ≤ 8) (b1 : p1 ≤ 8) (b2 : p2 ≤ 8) (b3 : p3 ≤ 8) (b4 : p4 ≤ 8) (b5 : p5 ≤ 8) (b6 : p6 ≤ 8) (b7 : p7 ≤ 8)
    (e : y = p0 + 256 * (p1 + 256 * (p2 + 256 * (p3 + 256 * (p4 + 256 * (p5 + 256 * (p6 + 256 * p7))))))) :
    ∃ r, y + y / 256 + (y + y / 256) / 65536 + (y + y / 256 + (y + y / 256) / 65536) / 4294967296 = r ∧ r < 9223372036854775808 ∧ r % 128 = p0 + (p1 + (p2 + (p3 + (p4 + (p5 + (p6 + p7)))))) := by
  obtain ⟨Y4, h4⟩ : ∃ Y, Y = p4 + 256 * (p5 + 256 * (p6 + 256 * p7)) := ⟨_, rfl⟩
  obtain ⟨Y3, h3⟩ : ∃ Y, Y = p3 + 256 * Y4 := ⟨_, rfl⟩
  obtain ⟨Y2, h2⟩ : ∃ Y, Y = p2 + 256 * Y3 := ⟨_, rfl⟩
  obtain ⟨Y5, h5⟩ : ∃ Y, Y = p5 + 256 * (p6 + 256 * p7) := ⟨_, rfl⟩
  rw [← h4, ← h3, ← h2] at e
  have e1 : y / 256 = p1 + 256 * Y2 := by omega
  have e2 : (y + y / 256) / 65536 = Y2 + Y3 := by rw [e1]; omega
  have h6 : Y4 = p4 + 256 * Y5 := by omega
  have hlow : y + y / 256 + (y + y / 256) / 65536 = (p0 + p1 + p2 + p3) + 256 * (p1 + p2 + p3 + p4) + 65536 * (p2 + p3 + 256 * (p3 + p4) + (Y4 + Y5)) + 4294967296 * (Y4 + Y5) := by rw [e2, e1]; omega
  have h45 : Y4 + Y5 = (p4 + p5) + 256 * (p5 + p6) + 65536 * (p6 + 256 * p7 + p7) := by omega
  obtain ⟨T, hT⟩ : ∃ T, T = p6 + 256 * p7 + p7 := ⟨_, rfl⟩
  rw [← hT] at h45
  have e3 : (y + y / 256 + (y + y / 256) / 65536) / 4294967296 = Y4 + Y5 + T := by rw [hlow, h45]; clear hlow e e1 e2 h2 h3 h4 h5 h6; omega
  rw [e3, hlow]
  refine ⟨_, rfl, ?_, ?_⟩
  · rw [h45]; clear hlow e e1 e2 e3 h2 h3 h4 h5 h6 h45; omega
  · rw [h45, hT]; clear hlow e e1 e2 e3 h2 h3 h4 h5 h6 h45; omega

theorem mk85 : mk 85 8 = 6148914691236517205 := by decide
theorem mk51 : mk 51 8 = 3689348814741910323 := by decide
theorem mk15 : mk 15 8 = 1085102592571150095 := by decide

theorem wrap_sum (a b : Nat) (h : a + b < 18446744073709551616) : IntKind.u64.wrap ((a : Int) + (b : Int)) = ((a + b : Nat) : Int) := by
  rw [IntKind.wrap_u64]; omega

theorem i64_in63 (n : Int) (h0 : 0 ≤ n) (h : n < 2 ^ 63) : IntKind.i64.wrap n = n := by
  have h' : n < 9223372036854775808 := h
  rw [IntKind.wrap_i64]; omega

theorem and127 (r : Nat) (h : r < 9223372036854775808) : bits BinOp.and IntKind.i64 (wrap64 (r : Int)) 127 = ((r % 128 : Nat) : Int) := by
  have hw : wrap64 (r : Int) = (r : Int) := by unfold wrap64; omega
  have h0 : (0 : Int) ≤ (r : Int) := by omega
  have h1 : (r : Int) < 9223372036854775808 := by omega
  have hm := bits_mask .i64 63 (by decide) i64_in63 7 (by decide) (r : Int) h0 h1
  rw [hw]
  have hm2 : bits BinOp.and IntKind.i64 (r : Int) 127 = (r : Int) % 128 := hm
  rw [hm2]; omega

/-- What the Go text computes of x, step by step, is the count. -/
theorem ones_steps (x : Nat) (hx : x < 18446744073709551616) : ∃ y1 y2 y3 y4 y5 y6 : Nat,
    IntKind.u64.wrap (bits BinOp.and IntKind.u64 ((x : Int) / 2) 6148914691236517205 + bits BinOp.and IntKind.u64 (x : Int) 6148914691236517205) = (y1 : Int) ∧
    IntKind.u64.wrap (bits BinOp.and IntKind.u64 ((y1 : Int) / 4) 3689348814741910323 + bits BinOp.and IntKind.u64 (y1 : Int) 3689348814741910323) = (y2 : Int) ∧
    bits BinOp.and IntKind.u64 (IntKind.u64.wrap ((y2 : Int) / 16 + (y2 : Int))) 1085102592571150095 = (y3 : Int) ∧
    IntKind.u64.wrap ((y3 : Int) + (y3 : Int) / 256) = (y4 : Int) ∧
    IntKind.u64.wrap ((y4 : Int) + (y4 : Int) / 65536) = (y5 : Int) ∧
    IntKind.u64.wrap ((y5 : Int) + (y5 : Int) / 4294967296) = (y6 : Int) ∧
    bits BinOp.and IntKind.i64 (wrap64 (y6 : Int)) 127 = (cnt x 64 : Int) := by
  obtain ⟨p0, p1, p2, p3, p4, p5, p6, p7, b0, b1, b2, b3, b4, b5, b6, b7, e, ec⟩ := s123_eight x
  have l1 : x / 2 &&& mk 85 8 ≤ mk 85 8 := Nat.and_le_right
  have l2 : x &&& mk 85 8 ≤ mk 85 8 := Nat.and_le_right
  have l3 : s1 8 x / 4 &&& mk 51 8 ≤ mk 51 8 := Nat.and_le_right
  have l4 : s1 8 x &&& mk 51 8 ≤ mk 51 8 := Nat.and_le_right
  rw [mk85] at l1 l2
  rw [mk51] at l3 l4
  have d1 : s1 8 x = (x / 2 &&& 6148914691236517205) + (x &&& 6148914691236517205) := by unfold s1; rw [mk85]
  have d2 : s2 8 (s1 8 x) = (s1 8 x / 4 &&& 3689348814741910323) + (s1 8 x &&& 3689348814741910323) := by unfold s2; rw [mk51]
  have d3 : s3 8 (s2 8 (s1 8 x)) = (s2 8 (s1 8 x) / 16 + s2 8 (s1 8 x)) &&& 1085102592571150095 := by unfold s3; rw [mk15]
  generalize s3 8 (s2 8 (s1 8 x)) = y3 at *
  generalize s2 8 (s1 8 x) = y2 at *
  generalize s1 8 x = y1 at *
  have i1 : ((x : Int) / 2) = ((x / 2 : Nat) : Int) := by omega
  have i2 : ((y1 : Int) / 4) = ((y1 / 4 : Nat) : Int) := by omega
  have i3 : IntKind.u64.wrap ((y2 : Int) / 16 + (y2 : Int)) = ((y2 / 16 + y2 : Nat) : Int) := by rw [IntKind.wrap_u64]; omega
  have n1 := bits_and_u64_nat (x / 2) 6148914691236517205 (by omega) (by decide)
  have n2 := bits_and_u64_nat x 6148914691236517205 hx (by decide)
  have n3 := bits_and_u64_nat (y1 / 4) 3689348814741910323 (by omega) (by decide)
  have n4 := bits_and_u64_nat y1 3689348814741910323 (by omega) (by decide)
  have n5 := bits_and_u64_nat (y2 / 16 + y2) 1085102592571150095 (by omega) (by decide)
  refine ⟨y1, y2, y3, y3 + y3 / 256, y3 + y3 / 256 + (y3 + y3 / 256) / 65536, y3 + y3 / 256 + (y3 + y3 / 256) / 65536 + (y3 + y3 / 256 + (y3 + y3 / 256) / 65536) / 4294967296, ?_, ?_, ?_, ?_, ?_, ?_, ?_⟩
  · rw [i1]; erw [n1, n2]; rw [wrap_sum _ _ (by omega), ← d1]
  · rw [i2]; erw [n3, n4]; rw [wrap_sum _ _ (by omega), ← d2]
  · rw [i3]; erw [n5]; rw [d3]
  all_goals clear d1 d2 d3 n1 n2 n3 n4 n5 i1 i2 i3 l1 l2 l3 l4
  all_goals
    have hr := swar_end p0 p1 p2 p3 p4 p5 p6 p7 y3 b0 b1 b2 b3 b4 b5 b6 b7 e
    rw [← ec] at hr
    clear e ec b0 b1 b2 b3 b4 b5 b6 b7
    obtain ⟨r, hr0, hr1, hr2⟩ := hr
    generalize h4 : y3 / 256 = d4 at *
    generalize h5 : (y3 + d4) / 65536 = d5 at *
    generalize h6 : (y3 + d4 + d5) / 4294967296 = d6 at *
  · rw [show ((y3 : Int) / 256) = ((d4 : Nat) : Int) by omega]; exact wrap_sum _ _ (by omega)
  · rw [show (((y3 + d4 : Nat) : Int) / 65536) = ((d5 : Nat) : Int) by omega]; exact wrap_sum _ _ (by omega)
  · rw [show (((y3 + d4 + d5 : Nat) : Int) / 4294967296) = ((d6 : Nat) : Int) by omega]; exact wrap_sum _ _ (by omega)
  · rw [hr0, and127 r hr1, hr2]

/-! ### Single bits, and the mask of the low bits -/

theorem bit_one (x i : Nat) (hx : x < 18446744073709551616) : (bits BinOp.and IntKind.u64 ((x : Int) / 2 ^ i) 1 == 1) = x.testBit i := by
  have e : ((x : Int) / 2 ^ i) = ((x / 2 ^ i : Nat) : Int) := by simp
  have hl : x / 2 ^ i < 18446744073709551616 := Nat.lt_of_le_of_lt (Nat.div_le_self _ _) hx
  have h := bits_and_u64_nat (x / 2 ^ i) 1 hl (by decide)
  rw [e]
  have h2 : bits BinOp.and IntKind.u64 ((x / 2 ^ i : Nat) : Int) 1 = ((x / 2 ^ i &&& 1 : Nat) : Int) := h
  rw [h2, nat_mask1, Nat.testBit_eq_decide_div_mod_eq]
  by_cases h1 : x / 2 ^ i % 2 = 1
  · simp [h1]
  · have h0 : x / 2 ^ i % 2 = 0 := by omega
    simp [h0]

theorem low_mask (x i : Nat) (hx : x < 18446744073709551616) (hi : i ≤ 64) :
    bits BinOp.and IntKind.u64 (x : Int) (IntKind.u64.wrap (IntKind.u64.wrap (2 ^ i) - 1)) = ((x % 2 ^ i : Nat) : Int) := by
  have key : IntKind.u64.wrap (IntKind.u64.wrap (2 ^ i) - 1) = ((2 ^ i - 1 : Nat) : Int) := by
    have hp : 2 ^ i ≤ 9223372036854775808 ∨ 2 ^ i = 18446744073709551616 := by
      by_cases h : i = 64
      · right; rw [h]
      · left; exact Nat.pow_le_pow_right (n := 2) (j := 63) (by decide) (by omega)
    have h1 : 1 ≤ 2 ^ i := Nat.one_le_two_pow
    have e : ((2 : Int) ^ i) = ((2 ^ i : Nat) : Int) := by simp
    rw [e, IntKind.wrap_u64, IntKind.wrap_u64]
    generalize 2 ^ i = p at *
    omega
  have hlt : 2 ^ i - 1 < 18446744073709551616 := by
    have hp : 2 ^ i ≤ 2 ^ 64 := Nat.pow_le_pow_right (by decide) hi
    omega
  rw [key, bits_and_u64_nat x _ hx hlt, Nat.and_two_pow_sub_one_eq_mod]

theorem mod_lt_word (x i : Nat) (hx : x < 18446744073709551616) : x % 2 ^ i < 18446744073709551616 := Nat.lt_of_le_of_lt (Nat.mod_le _ _) hx
end Go.Proofs.Ythmfcdefdbeefaa.Words

namespace Go.Proofs.Ythmfcdefdbeefaa.Words
open Go Go.RowKit

/-- How many of the numbers below n have the property. -/
def tally (p : Nat → Bool) : Nat → Nat
  | 0 => 0
  | n + 1 => tally p n + (p n).toNat

theorem tally_succ (p : Nat → Bool) (n : Nat) : tally p (n + 1) = tally p n + (p n).toNat := rfl
theorem tally_le (p : Nat → Bool) (n : Nat) : tally p n ≤ n := by
  induction n with
  | zero => simp [tally]
  | succ n ih => simp only [tally]; cases p n <;> simp <;> omega
theorem tally_congr {p q : Nat → Bool} {n : Nat} (h : ∀ i, i < n → p i = q i) : tally p n = tally q n := by
  induction n with
  | zero => rfl
  | succ n ih => rw [tally, tally, ih fun i hi => h i (by omega), h n (by omega)]
theorem tally_add (p : Nat → Bool) (a b : Nat) : tally p (a + b) = tally p a + tally (fun i => p (a + i)) b := by
  induction b with
  | zero => rfl
  | succ b ih => rw [← Nat.add_assoc, tally, tally, ih]; omega
theorem tally_mono (p : Nat → Bool) {a b : Nat} (h : a ≤ b) : tally p a ≤ tally p b := by
  obtain ⟨c, rfl⟩ := Nat.exists_eq_add_of_le h
  rw [tally_add]; omega
theorem tally_not (p : Nat → Bool) (n : Nat) : tally p n + tally (fun i => !p i) n = n := by
  induction n with
  | zero => rfl
  | succ n ih => rw [tally, tally]; cases p n <;> simp <;> omega
theorem cnt_tally (x k : Nat) : cnt x k = tally x.testBit k := by
  induction k with
  | zero => rfl
  | succ k ih => rw [cnt, tally, ih]

/-- Bit i of the vector. -/
def bit (ws : List Nat) (i : Nat) : Bool := (ws.getD (i / 64) 0).testBit (i % 64)

theorem bit_word (ws : List Nat) (j k : Nat) (hk : k < 64) : bit ws (64 * j + k) = (ws.getD j 0).testBit k := by
  unfold bit
  rw [show (64 * j + k) / 64 = j by omega, show (64 * j + k) % 64 = k by omega]

theorem tally_word (ws : List Nat) (j m : Nat) (hm : m ≤ 64) : tally (bit ws) (64 * j + m) = tally (bit ws) (64 * j) + cnt (ws.getD j 0) m := by
  rw [tally_add, cnt_tally]
  congr 1
  exact tally_congr fun i hi => bit_word ws j i (by omega)

/-- One word more. -/
theorem tally_step (ws : List Nat) (r j : Nat) : tally (bit ws) (min r (64 * (j + 1))) = tally (bit ws) (min r (64 * j)) + cnt (ws.getD j 0) (min (r - 64 * j) 64) := by
  by_cases h : r ≤ 64 * j
  · rw [show min r (64 * (j + 1)) = r by omega, show min r (64 * j) = r by omega, show min (r - 64 * j) 64 = 0 by omega]; rfl
  · rw [show min r (64 * (j + 1)) = 64 * j + min (r - 64 * j) 64 by omega, show min r (64 * j) = 64 * j by omega]
    exact tally_word ws j _ (by omega)

/-- What makes a vector of n bits valid. -/
structure Valid (n : Nat) (ws : List Nat) : Prop where
  hi : n ≤ 4096
  len : ws.length = (n + 63) / 64
  top : ∀ i, n ≤ i → i < 64 * ws.length → bit ws i = false

theorem andNot_mask (x m : Nat) (hx : x < 18446744073709551616) (hm : m ≤ 64) : bits .andNot .u64 (x : Int) ((2 ^ m - 1 : Nat) : Int) = ((x / 2 ^ m * 2 ^ m : Nat) : Int) := by
  have hp : 2 ^ m ≤ 2 ^ 64 := Nat.pow_le_pow_right (by decide) hm
  have h1 : 1 ≤ 2 ^ m := Nat.one_le_two_pow
  rw [u64_andNot_nat x _ hx (by omega)]
  congr 1
  apply Nat.eq_of_testBit_eq
  intro i
  rw [Nat.testBit_and, Nat.testBit_mul_two_pow, Nat.testBit_div_two_pow, show 18446744073709551615 - (2 ^ m - 1) = 2 ^ 64 - (2 ^ m - 1 + 1) by omega, Nat.testBit_two_pow_sub_succ (by omega), Nat.testBit_two_pow_sub_one]
  by_cases h : i < 64
  · by_cases h2 : m ≤ i
    · simp [h, h2, show ¬ i < m by omega]
    · simp [h2, show i < m by omega]
  · have hb : x.testBit i = false := Nat.testBit_lt_two_pow (Nat.lt_of_lt_of_le (show x < 2 ^ 64 from hx) (Nat.pow_le_pow_right (by decide) (by omega)))
    by_cases h2 : m ≤ i
    · simp [h, hb, h2]
    · simp [h2, hb]

theorem mask_lt (m : Nat) (hm : m ≤ 64) : 2 ^ m - 1 < 18446744073709551616 := by
  have hp : 2 ^ m ≤ 2 ^ 64 := Nat.pow_le_pow_right (by decide) hm
  omega

/-- Nothing beyond m, bit by bit. -/
theorem high_zero (x m : Nat) (hx : x < 18446744073709551616) : x / 2 ^ m * 2 ^ m = 0 ↔ ∀ i, m ≤ i → i < 64 → x.testBit i = false := by
  have h1 : 0 < 2 ^ m := Nat.two_pow_pos m
  constructor
  · intro h i hi _
    have : x / 2 ^ m = 0 := by
      rcases Nat.mul_eq_zero.1 h with h | h
      · exact h
      · omega
    have e : (x / 2 ^ m).testBit (i - m) = x.testBit i := by rw [Nat.testBit_div_two_pow]; congr 1; omega
    rw [← e, this]; simp
  · intro h
    have : x / 2 ^ m = 0 := by
      apply Nat.eq_of_testBit_eq
      intro i
      rw [Nat.testBit_div_two_pow, Nat.zero_testBit]
      by_cases h2 : i + m < 64
      · exact h _ (by omega) h2
      · exact Nat.testBit_lt_two_pow (Nat.lt_of_lt_of_le (show x < 2 ^ 64 from hx) (Nat.pow_le_pow_right (by decide) (by omega)))
    rw [this]; simp

/-- The test of the last word. -/
theorem valid_last (n : Nat) (ws : List Nat) (j x : Nat) (hn : n ≤ 4096) (hl : ws.length = (n + 63) / 64) (hj : ws.length = j + 1) (hx : ws[j]? = some x) (hlt : x < 18446744073709551616) :
    Valid n ws ↔ x / 2 ^ min (n - 64 * j) 64 * 2 ^ min (n - 64 * j) 64 = 0 := by
  have hg : ws.getD j 0 = x := by simp [List.getD, hx]
  rw [high_zero x _ hlt]
  constructor
  · intro h i hi hi2
    have := h.top (64 * j + i) (by omega) (by omega)
    rwa [bit_word ws j i hi2, hg] at this
  · intro h
    refine ⟨hn, hl, fun i h1 h2 => ?_⟩
    have e : i = 64 * j + (i - 64 * j) := by omega
    rw [e, bit_word ws j _ (by omega), hg]
    exact h _ (by omega) (by omega)

theorem valid_nil : Valid 0 [] := ⟨by omega, rfl, fun i _ h => by simp at h⟩

/-- The mask of a word's bits below m. -/
theorem mask_int (m : Nat) (h : m ≤ 64) : IntKind.u64.wrap (IntKind.u64.wrap (2 ^ m) - 1) = ((2 ^ m - 1 : Nat) : Int) := by
  have e : ((2 : Int) ^ m) = ((2 ^ m : Nat) : Int) := by simp
  rw [e, IntKind.wrap_u64, IntKind.wrap_u64]
  have h1 : 1 ≤ 2 ^ m := Nat.one_le_two_pow
  have hp : 2 ^ m ≤ 9223372036854775808 ∨ 2 ^ m = 18446744073709551616 := by
    by_cases h : m = 64
    · right; rw [h]
    · left; exact Nat.pow_le_pow_right (n := 2) (j := 63) (by decide) (by omega)
  generalize 2 ^ m = p at *
  omega

theorem and_mask_int (x m : Nat) (hx : x < 18446744073709551616) (hm : m ≤ 64) : bits BinOp.and IntKind.u64 (x : Int) ((2 ^ m - 1 : Nat) : Int) = ((x % 2 ^ m : Nat) : Int) := by
  rw [bits_and_u64_nat x _ hx (mask_lt m hm), Nat.and_two_pow_sub_one_eq_mod]
end Go.Proofs.Ythmfcdefdbeefaa.Words

namespace Go.Proofs.Ythmfcdefdbeefaa.Words
open Go Go.RowKit

/-- The number whose bits below k are p's. -/
def packTo (p : Nat → Bool) : Nat → Nat
  | 0 => 0
  | k + 1 => packTo p k + (p k).toNat * 2 ^ k

theorem packTo_lt (p : Nat → Bool) (k : Nat) : packTo p k < 2 ^ k := by
  induction k with
  | zero => simp [packTo]
  | succ k ih => rw [packTo, Nat.pow_succ]; cases p k <;> simp <;> omega

theorem packTo_bit (p : Nat → Bool) (k i : Nat) : (packTo p k).testBit i = (decide (i < k) && p i) := by
  induction k with
  | zero => simp [packTo]
  | succ k ih =>
    have hl := packTo_lt p k
    have e : packTo p (k + 1) = 2 ^ k * (p k).toNat + packTo p k := by rw [packTo, Nat.mul_comm]; omega
    rw [e, Nat.testBit_two_pow_mul_add _ hl]
    by_cases h : i < k
    · rw [if_pos h, ih]; simp [h, show i < k + 1 by omega]
    · rw [if_neg h]
      by_cases h2 : i = k
      · subst h2; cases hp : p i <;> simp
      · rw [show decide (i < k + 1) = false by simp; omega]
        cases p k
        · simp
        · rw [Nat.testBit_lt_two_pow (show (true : Bool).toNat < 2 ^ (i - k) from Nat.lt_of_lt_of_le (show 1 < 2 ^ 1 by decide) (Nat.pow_le_pow_right (by decide) (by omega)))]; rfl

theorem pack_word (p : Nat → Bool) (k : Nat) (h : k ≤ 64) : packTo p k < 18446744073709551616 :=
  Nat.lt_of_lt_of_le (packTo_lt p k) (Nat.pow_le_pow_right (n := 2) (j := 64) (by decide) h)

/-- The words, m of them, after i bools are laid. -/
def laid (l : List Bool) (i m : Nat) : List Nat := (List.range m).map fun j => packTo (fun b => l.getD (64 * j + b) false) (min 64 (i - 64 * j))

/-- The words of a list of bools. -/
def rowOf (l : List Bool) : List Nat := laid l l.length ((l.length + 63) / 64)

theorem laid_length (l : List Bool) (i m : Nat) : (laid l i m).length = m := by simp [laid]
theorem laid_get (l : List Bool) (i m j : Nat) (h : j < m) : (laid l i m)[j]? = some (packTo (fun b => l.getD (64 * j + b) false) (min 64 (i - 64 * j))) := by
  unfold laid
  rw [List.getElem?_map, List.getElem?_range h]; rfl
theorem laid_word (l : List Bool) (i m : Nat) : ∀ x ∈ laid l i m, x < 18446744073709551616 := by
  intro x hx
  obtain ⟨j, _, rfl⟩ := List.mem_map.1 hx
  exact pack_word _ _ (by omega)
theorem laid_zero (l : List Bool) (m : Nat) : laid l 0 m = List.replicate m 0 := by
  unfold laid
  apply List.ext_getElem?
  intro j
  by_cases h : j < m
  · rw [List.getElem?_map, List.getElem?_range h, List.getElem?_replicate, if_pos h]; simp [packTo]
  · rw [List.getElem?_eq_none (by simpa using h), List.getElem?_eq_none (by simpa using h)]

/-- One bool more. -/
theorem laid_step (l : List Bool) (i m : Nat) (h : i / 64 < m) :
    laid l (i + 1) m = (laid l i m).set (i / 64) (packTo (fun b => l.getD (64 * (i / 64) + b) false) (i % 64) + (l.getD i false).toNat * 2 ^ (i % 64)) := by
  apply List.ext_getElem?
  intro j
  by_cases hj : j < m
  · rw [laid_get _ _ _ _ hj]
    by_cases e : i / 64 = j
    · subst e
      rw [List.getElem?_set_self (by rw [laid_length]; exact h)]
      rw [show min 64 (i + 1 - 64 * (i / 64)) = i % 64 + 1 by omega, packTo, show 64 * (i / 64) + i % 64 = i by omega]
    · rw [List.getElem?_set_ne e, laid_get _ _ _ _ hj, show min 64 (i + 1 - 64 * j) = min 64 (i - 64 * j) by omega]
  · rw [List.getElem?_eq_none (by rw [laid_length]; omega), List.getElem?_eq_none (by rw [List.length_set, laid_length]; omega)]

theorem laid_at (l : List Bool) (i m : Nat) (h : i / 64 < m) : (laid l i m)[i / 64]? = some (packTo (fun b => l.getD (64 * (i / 64) + b) false) (i % 64)) := by
  rw [laid_get _ _ _ _ h, show min 64 (i - 64 * (i / 64)) = i % 64 by omega]

/-- A false bool lays nothing. -/
theorem laid_skip (l : List Bool) (i m : Nat) (h : i / 64 < m) (hb : l.getD i false = false) : laid l (i + 1) m = laid l i m := by
  rw [laid_step l i m h, hb]
  apply List.ext_getElem?
  intro j
  by_cases e : i / 64 = j
  · subst e
    rw [List.getElem?_set_self (by rw [laid_length]; exact h), laid_at l i m h]; simp
  · rw [List.getElem?_set_ne e]

/-- One word more, still empty. -/
theorem laid_more (l : List Bool) (i m : Nat) (h : i ≤ 64 * m) : laid l i (m + 1) = laid l i m ++ [0] := by
  unfold laid
  rw [List.range_succ, List.map_append, List.map_cons, List.map_nil, show min 64 (i - 64 * m) = 0 by omega]; rfl

theorem rowOf_length (l : List Bool) : (rowOf l).length = (l.length + 63) / 64 := laid_length _ _ _
theorem rowOf_word (l : List Bool) : ∀ x ∈ rowOf l, x < 18446744073709551616 := laid_word _ _ _

theorem rowOf_bit (l : List Bool) (i : Nat) (h : i < 64 * ((l.length + 63) / 64)) : bit (rowOf l) i = l.getD i false := by
  have hd : (rowOf l).getD (i / 64) 0 = packTo (fun b => l.getD (64 * (i / 64) + b) false) (min 64 (l.length - 64 * (i / 64))) := by
    unfold rowOf
    rw [List.getD, laid_get _ _ _ _ (by omega)]; rfl
  unfold bit
  rw [hd, packTo_bit, show 64 * (i / 64) + i % 64 = i by omega]
  by_cases hl : i < l.length
  · rw [show decide (i % 64 < min 64 (l.length - 64 * (i / 64))) = true by simp; omega]; rfl
  · rw [List.getD, List.getElem?_eq_none (by omega)]; simp

theorem rowOf_valid (l : List Bool) (h : l.length ≤ 4096) : Valid l.length (rowOf l) :=
  ⟨h, rowOf_length l, fun i h1 h2 => by
    rw [rowOf_length] at h2
    rw [rowOf_bit l i h2, List.getD, List.getElem?_eq_none h1]; rfl⟩

/-- How many of the first k bools are true, of a list and of its vector. -/
theorem tally_row (l : List Bool) (k : Nat) (h : k ≤ l.length) : tally (bit (rowOf l)) k = tally (fun i => l.getD i false) k :=
  tally_congr fun i hi => rowOf_bit l i (by omega)

theorem tally_join (a b : List Bool) (k : Nat) (h : k ≤ a.length + b.length) : tally (bit (rowOf a)) (min k a.length) + tally (bit (rowOf b)) (k - a.length) = tally (bit (rowOf (a ++ b))) k := by
  rw [tally_row a _ (by omega), tally_row b _ (by omega), tally_row (a ++ b) k (by simpa using h)]
  have hl : ∀ i, i < a.length → (a ++ b).getD i false = a.getD i false := fun i hi => by simp [List.getD, List.getElem?_append_left hi]
  by_cases hk : k ≤ a.length
  · rw [show min k a.length = k by omega, show k - a.length = 0 by omega]
    exact tally_congr fun i hi => (hl i (by omega)).symm
  · obtain ⟨d, rfl⟩ := Nat.exists_eq_add_of_le (show a.length ≤ k by omega)
    rw [show min (a.length + d) a.length = a.length by omega, show a.length + d - a.length = d by omega, tally_add]
    congr 1
    · exact tally_congr fun i hi => (hl i hi).symm
    · exact tally_congr fun i hi => by simp [List.getD, List.getElem?_append_right (show a.length ≤ a.length + i by omega)]

theorem or_bit_int (x k : Nat) (hk : k < 64) (hx : x < 2 ^ k) : bits BinOp.or IntKind.u64 (x : Int) (IntKind.u64.wrap (2 ^ k)) = ((x + 2 ^ k : Nat) : Int) := by
  have hp : 2 ^ k ≤ 9223372036854775808 := Nat.pow_le_pow_right (n := 2) (j := 63) (by decide) (by omega)
  have e : ((2 : Int) ^ k) = ((2 ^ k : Nat) : Int) := by simp
  have e2 : IntKind.u64.wrap ((2 ^ k : Nat) : Int) = ((2 ^ k : Nat) : Int) := by
    rw [IntKind.wrap_u64]
    generalize 2 ^ k = p at *
    omega
  rw [e, e2, bits_or_u64_nat x _ (by omega) (by omega)]
  congr 1
  have := Nat.two_pow_add_eq_or_of_lt hx 1
  rw [Nat.mul_one] at this
  rw [Nat.or_comm, ← this]; omega

theorem add_bit_int (x k : Nat) (hk : k < 64) (hx : x < 2 ^ k) : IntKind.u64.wrap ((x : Int) + IntKind.u64.wrap (2 ^ k)) = ((x + 2 ^ k : Nat) : Int) := by
  have hp : 2 ^ k ≤ 9223372036854775808 := Nat.pow_le_pow_right (n := 2) (j := 63) (by decide) (by omega)
  have e : ((2 : Int) ^ k) = ((2 ^ k : Nat) : Int) := by simp
  rw [e, IntKind.wrap_u64, IntKind.wrap_u64]
  generalize 2 ^ k = p at *
  omega
end Go.Proofs.Ythmfcdefdbeefaa.Words

namespace Go.Proofs.Ythmfcdefdbeefaa.Words
open Go Go.RowKit

/-- How many zeros a level of n bits has. -/
def zr (n : Nat) (b : Nat → Bool) : Nat := n - tally b n
/-- Where the next level has the number at place i. -/
def tos (n : Nat) (b : Nat → Bool) (i : Nat) : Nat := if b i then zr n b + tally b i else i - tally b i
/-- The number at place i of the first of these levels. -/
def val (n : Nat) : List (Nat → Bool) → Nat → Nat
  | [], _ => 0
  | b :: bs, i => (b i).toNat * 2 ^ bs.length + val n bs (tos n b i)

theorem val_lt (n : Nat) (bs : List (Nat → Bool)) : ∀ i, val n bs i < 2 ^ bs.length := by
  induction bs with
  | nil => intro i; simp [val]
  | cons b bs ih =>
    intro i
    have := ih (tos n b i)
    rw [val, List.length_cons, Nat.pow_succ]
    cases b i <;> simp <;> omega

/-- How many of the numbers of the places from f to t - 1 have the property. -/
def num (n : Nat) (bs : List (Nat → Bool)) (p : Nat → Bool) (f t : Nat) : Int := (tally (fun i => p (val n bs i)) t : Int) - (tally (fun i => p (val n bs i)) f : Int)

theorem part_tally (n : Nat) (b : Nat → Bool) (bs : List (Nat → Bool)) (p : Nat → Bool) (t : Nat) :
    tally (fun i => p (val n (b :: bs) i)) t + tally (fun j => p (2 ^ bs.length + val n bs j)) (zr n b) =
      tally (fun j => p (val n bs j)) (t - tally b t) + tally (fun j => p (2 ^ bs.length + val n bs j)) (zr n b + tally b t) := by
  induction t with
  | zero => simp [tally]
  | succ t ih =>
    have hle := tally_le b t
    rw [tally_succ (fun i => p (val n (b :: bs) i)), tally_succ b]
    cases hb : b t
    · have e : val n (b :: bs) t = val n bs (t - tally b t) := by rw [val, tos, hb]; simp
      rw [e]
      simp only [Bool.toNat_false, Nat.add_zero]
      rw [show t + 1 - tally b t = (t - tally b t) + 1 by omega, tally_succ]
      omega
    · have e : val n (b :: bs) t = 2 ^ bs.length + val n bs (zr n b + tally b t) := by rw [val, tos, hb]; simp
      rw [e]
      simp only [Bool.toNat_true]
      rw [show t + 1 - (tally b t + 1) = t - tally b t by omega, ← Nat.add_assoc, tally_succ (fun j => p (2 ^ bs.length + val n bs j))]
      omega

/-- A level parts the numbers of a range. -/
theorem num_part (n : Nat) (b : Nat → Bool) (bs : List (Nat → Bool)) (p : Nat → Bool) (f t : Nat) :
    num n (b :: bs) p f t = num n bs p (f - tally b f) (t - tally b t) + num n bs (fun v => p (2 ^ bs.length + v)) (zr n b + tally b f) (zr n b + tally b t) := by
  have h1 := part_tally n b bs p f
  have h2 := part_tally n b bs p t
  simp only [num]
  omega

theorem tally_all (p : Nat → Bool) (t : Nat) (h : ∀ i, i < t → p i = true) : tally p t = t := by
  induction t with
  | zero => rfl
  | succ t ih => rw [tally, ih fun i hi => h i (by omega), h t (by omega)]; rfl
theorem tally_none (p : Nat → Bool) (t : Nat) (h : ∀ i, i < t → p i = false) : tally p t = 0 := by
  induction t with
  | zero => rfl
  | succ t ih => rw [tally, ih fun i hi => h i (by omega), h t (by omega)]; rfl
theorem num_all (n : Nat) (bs : List (Nat → Bool)) (p : Nat → Bool) (f t : Nat) (h : ∀ v, v < 2 ^ bs.length → p v = true) : num n bs p f t = (t : Int) - f := by
  unfold num
  rw [tally_all _ t fun i _ => h _ (val_lt n bs i), tally_all _ f fun i _ => h _ (val_lt n bs i)]
theorem num_none (n : Nat) (bs : List (Nat → Bool)) (p : Nat → Bool) (f t : Nat) (h : ∀ v, v < 2 ^ bs.length → p v = false) : num n bs p f t = 0 := by
  unfold num
  rw [tally_none _ t fun i _ => h _ (val_lt n bs i), tally_none _ f fun i _ => h _ (val_lt n bs i)]; rfl
theorem num_congr (n : Nat) (bs : List (Nat → Bool)) (p q : Nat → Bool) (f t : Nat) (h : ∀ v, v < 2 ^ bs.length → p v = q v) : num n bs p f t = num n bs q f t := by
  unfold num
  rw [tally_congr (q := fun i => q (val n bs i)) (n := t) fun i _ => h _ (val_lt n bs i), tally_congr (q := fun i => q (val n bs i)) (n := f) fun i _ => h _ (val_lt n bs i)]

theorem tally_step_le (p : Nat → Bool) (f t : Nat) (h : f ≤ t) : tally p t ≤ tally p f + (t - f) := by
  obtain ⟨c, rfl⟩ := Nat.exists_eq_add_of_le h
  rw [tally_add]
  have := tally_le (fun i => p (f + i)) c
  omega
theorem num_nonneg (n : Nat) (bs : List (Nat → Bool)) (p : Nat → Bool) (f t : Nat) (h : f ≤ t) : 0 ≤ num n bs p f t := by
  unfold num
  have := tally_mono (fun i => p (val n bs i)) h
  omega
theorem num_le (n : Nat) (bs : List (Nat → Bool)) (p : Nat → Bool) (f t : Nat) (h : f ≤ t) : num n bs p f t ≤ (t : Int) - f := by
  unfold num
  have := tally_step_le (fun i => p (val n bs i)) f t h
  omega
/-- How many differ less where less have the property. -/
theorem tally_imp (p q : Nat → Bool) (h : ∀ i, p i = true → q i = true) (f t : Nat) (hft : f ≤ t) : (tally p t : Int) - tally p f ≤ (tally q t : Int) - tally q f := by
  obtain ⟨c, rfl⟩ := Nat.exists_eq_add_of_le hft
  rw [tally_add, tally_add]
  have : tally (fun i => p (f + i)) c ≤ tally (fun i => q (f + i)) c := by
    clear hft
    induction c with
    | zero => simp [tally]
    | succ c ih =>
      rw [tally, tally]
      cases hp : p (f + c)
      · simp; omega
      · rw [h _ hp]; simp; omega
  omega
theorem num_imp (n : Nat) (bs : List (Nat → Bool)) (p q : Nat → Bool) (h : ∀ v, p v = true → q v = true) (f t : Nat) (hft : f ≤ t) : num n bs p f t ≤ num n bs q f t := by
  unfold num
  exact tally_imp _ _ (fun i => h _) f t hft

/-- How many are less than x. -/
def less (n : Nat) (bs : List (Nat → Bool)) (x : Nat) (f t : Nat) : Int := num n bs (fun v => decide (v < x)) f t
/-- How many are x. -/
def same (n : Nat) (bs : List (Nat → Bool)) (x : Nat) (f t : Nat) : Int := num n bs (fun v => decide (v = x)) f t

theorem less_mono (n : Nat) (bs : List (Nat → Bool)) (x y : Nat) (h : x ≤ y) (f t : Nat) (hft : f ≤ t) : less n bs x f t ≤ less n bs y f t :=
  num_imp n bs _ _ (fun v hv => by simp at hv ⊢; omega) f t hft
theorem less_big (n : Nat) (bs : List (Nat → Bool)) (x : Nat) (h : 2 ^ bs.length ≤ x) (f t : Nat) : less n bs x f t = (t : Int) - f := num_all n bs _ f t fun v hv => by simp; omega
theorem same_big (n : Nat) (bs : List (Nat → Bool)) (x : Nat) (h : 2 ^ bs.length ≤ x) (f t : Nat) : same n bs x f t = 0 := num_none n bs _ f t fun v hv => by simp; omega
theorem less_zero (n : Nat) (bs : List (Nat → Bool)) (f t : Nat) : less n bs 0 f t = 0 := num_none n bs _ f t fun v hv => by simp
theorem less_nonneg (n : Nat) (bs : List (Nat → Bool)) (x f t : Nat) (h : f ≤ t) : 0 ≤ less n bs x f t := num_nonneg _ _ _ _ _ h
theorem less_le (n : Nat) (bs : List (Nat → Bool)) (x f t : Nat) (h : f ≤ t) : less n bs x f t ≤ (t : Int) - f := num_le _ _ _ _ _ h
theorem less_nil (n f t : Nat) : less n [] 0 f t = 0 := less_zero n [] f t
theorem same_nil (n f t : Nat) : same n [] 0 f t = (t : Int) - f := num_all n [] _ f t fun v hv => by simp at hv ⊢; exact hv

/-- One level of a comparison: the digit is 0. -/
theorem less_zero_digit (n : Nat) (b : Nat → Bool) (bs : List (Nat → Bool)) (x : Nat) (hx : x < 2 ^ bs.length) (f t : Nat) :
    less n (b :: bs) x f t = less n bs x (f - tally b f) (t - tally b t) := by
  unfold less
  rw [num_part, num_none n bs (fun v => decide (2 ^ bs.length + v < x)) _ _ (fun v _ => by simp; omega)]
  omega
theorem same_zero_digit (n : Nat) (b : Nat → Bool) (bs : List (Nat → Bool)) (x : Nat) (hx : x < 2 ^ bs.length) (f t : Nat) :
    same n (b :: bs) x f t = same n bs x (f - tally b f) (t - tally b t) := by
  unfold same
  rw [num_part, num_none n bs (fun v => decide (2 ^ bs.length + v = x)) _ _ (fun v _ => by simp; omega)]
  omega
/-- .. the digit is 1. -/
theorem less_one_digit (n : Nat) (b : Nat → Bool) (bs : List (Nat → Bool)) (x : Nat) (f t : Nat) :
    less n (b :: bs) (2 ^ bs.length + x) f t = ((t - tally b t : Nat) : Int) - ((f - tally b f : Nat) : Int) + less n bs x (zr n b + tally b f) (zr n b + tally b t) := by
  unfold less
  rw [num_part, num_all n bs (fun v => decide (v < 2 ^ bs.length + x)) _ _ (fun v _ => by simp; omega), num_congr n bs (fun v => decide (2 ^ bs.length + v < 2 ^ bs.length + x)) (fun v => decide (v < x)) _ _ (fun v _ => by simp)]
theorem same_one_digit (n : Nat) (b : Nat → Bool) (bs : List (Nat → Bool)) (x : Nat) (f t : Nat) :
    same n (b :: bs) (2 ^ bs.length + x) f t = same n bs x (zr n b + tally b f) (zr n b + tally b t) := by
  unfold same
  rw [num_part, num_none n bs (fun v => decide (v = 2 ^ bs.length + x)) _ _ (fun v _ => by simp; omega), num_congr n bs (fun v => decide (2 ^ bs.length + v = 2 ^ bs.length + x)) (fun v => decide (v = x)) _ _ (fun v _ => by simp)]
  omega

/-- The number with index k in the sorted list of the numbers from f to t - 1. -/
def kv (n : Nat) : List (Nat → Bool) → Nat → Nat → Nat → Nat
  | [], _, _, _ => 0
  | b :: bs, f, t, k =>
    if k < (t - tally b t) - (f - tally b f) then kv n bs (f - tally b f) (t - tally b t) k
    else 2 ^ bs.length + kv n bs (zr n b + tally b f) (zr n b + tally b t) (k - ((t - tally b t) - (f - tally b f)))

theorem kv_lt (n : Nat) (bs : List (Nat → Bool)) : ∀ f t k, kv n bs f t k < 2 ^ bs.length := by
  induction bs with
  | nil => intro f t k; simp [kv]
  | cons b bs ih =>
    intro f t k
    rw [kv, List.length_cons, Nat.pow_succ]
    split
    · have := ih (f - tally b f) (t - tally b t) k; omega
    · have := ih (zr n b + tally b f) (zr n b + tally b t) (k - ((t - tally b t) - (f - tally b f))); omega

theorem zeros_mono (b : Nat → Bool) {f t : Nat} (h : f ≤ t) : f - tally b f ≤ t - tally b t := by
  have := tally_step_le b f t h
  have := tally_le b f
  omega

theorem kv_spec (n : Nat) (bs : List (Nat → Bool)) : ∀ f t k, f ≤ t → k < t - f → less n bs (kv n bs f t k) f t ≤ k ∧ (k : Int) < less n bs (kv n bs f t k + 1) f t := by
  induction bs with
  | nil =>
    intro f t k h hk
    rw [kv, less_zero, less_big n [] (0 + 1) (by simp) f t]
    omega
  | cons b bs ih =>
    intro f t k h hk
    have hz := zeros_mono b h
    have ho := tally_mono b h
    have hl1 := tally_le b f
    have hl2 := tally_le b t
    rw [kv]
    split
    · rename_i hlt
      have hv := kv_lt n bs (f - tally b f) (t - tally b t) k
      obtain ⟨h1, h2⟩ := ih (f - tally b f) (t - tally b t) k hz hlt
      refine ⟨by rw [less_zero_digit n b bs _ hv]; exact h1, ?_⟩
      by_cases hs : kv n bs (f - tally b f) (t - tally b t) k + 1 < 2 ^ bs.length
      · rw [less_zero_digit n b bs _ hs]; exact h2
      · rw [show kv n bs (f - tally b f) (t - tally b t) k + 1 = 2 ^ bs.length + 0 by omega, less_one_digit, less_zero]
        omega
    · rename_i hlt
      obtain ⟨h1, h2⟩ := ih (zr n b + tally b f) (zr n b + tally b t) (k - ((t - tally b t) - (f - tally b f))) (by omega) (by omega)
      rw [less_one_digit, Nat.add_assoc, less_one_digit]
      omega

/-- There is one such number alone. -/
theorem kth_unique (n : Nat) (bs : List (Nat → Bool)) (f t : Nat) (k : Int) (u v : Nat) (h : f ≤ t) (h1 : less n bs u f t ≤ k) (h2 : k < less n bs (u + 1) f t) (g1 : less n bs v f t ≤ k) (g2 : k < less n bs (v + 1) f t) : u = v := by
  rcases Nat.lt_trichotomy u v with e | e | e
  · have := less_mono n bs (u + 1) v e f t h; omega
  · exact e
  · have := less_mono n bs (v + 1) u e f t h; omega

/-- Among the numbers of a range that are counted is one. -/
theorem tally_some (p : Nat → Bool) (f t : Nat) (h : tally p f < tally p t) : ∃ i, f ≤ i ∧ i < t ∧ p i = true := by
  induction t with
  | zero => simp [tally] at h
  | succ t ih =>
    rw [tally] at h
    by_cases hft : f ≤ t
    · cases hp : p t
      · rw [hp] at h
        obtain ⟨i, h1, h2, h3⟩ := ih (by simpa using h)
        exact ⟨i, h1, by omega, h3⟩
      · exact ⟨t, hft, by omega, hp⟩
    · have := tally_mono p (show t + 1 ≤ f by omega)
      rw [tally] at this; omega
theorem num_some (n : Nat) (bs : List (Nat → Bool)) (p : Nat → Bool) (f t : Nat) (h : 0 < num n bs p f t) : ∃ i, f ≤ i ∧ i < t ∧ p (val n bs i) = true := by
  unfold num at h
  exact tally_some _ f t (by omega)

theorem same_less (n : Nat) (bs : List (Nat → Bool)) (x f t : Nat) : less n bs (x + 1) f t = less n bs x f t + same n bs x f t := by
  have key : ∀ m, tally (fun i => decide (val n bs i < x + 1)) m = tally (fun i => decide (val n bs i < x)) m + tally (fun i => decide (val n bs i = x)) m := by
    intro m
    induction m with
    | zero => rfl
    | succ m ih =>
      rw [tally, tally, tally, ih]
      rcases Nat.lt_trichotomy (val n bs m) x with e | e | e
      · simp [show val n bs m < x + 1 by omega, e, show ¬ val n bs m = x by omega]; omega
      · simp [e]; omega
      · simp [show ¬ val n bs m < x + 1 by omega, show ¬ val n bs m < x by omega, show ¬ val n bs m = x by omega]
  simp only [less, same, num]
  rw [key t, key f]
  omega

/-- The number of one place. -/
theorem kv_one (n : Nat) (bs : List (Nat → Bool)) (i : Nat) : kv n bs i (i + 1) 0 = val n bs i := by
  obtain ⟨h1, h2⟩ := kv_spec n bs i (i + 1) 0 (by omega) (by omega)
  refine kth_unique n bs i (i + 1) 0 _ _ (by omega) h1 h2 ?_ ?_
  · simp [less, num, tally]
  · simp [less, num, tally]; omega

theorem num_cut (n : Nat) (bs : List (Nat → Bool)) (p : Nat → Bool) (f m t : Nat) : num n bs p f m + num n bs p m t = num n bs p f t := by unfold num; omega
end Go.Proofs.Ythmfcdefdbeefaa.Words

namespace Go.Proofs.Ythmfcdefdbeefaa.Words
open Go Go.RowKit

/-- The numbers in the order of the next level. -/
def nxt (p : Nat) (l : List Nat) : List Nat := l.filter (fun x => !x.testBit p) ++ l.filter (fun x => x.testBit p)
/-- The bits of a level. -/
def digs10 (p : Nat) (l : List Nat) : List Bool := l.map fun x => x.testBit p
/-- The levels of the matrix of a list. -/
def levs : Nat → List Nat → List (List Bool)
  | 0, _ => []
  | L + 1, l => digs10 L l :: levs L (nxt L l)
/-- A level as a function. -/
def lf (r : List Bool) : Nat → Bool := fun i => r.getD i false

theorem bit_rowOf (r : List Bool) : bit (rowOf r) = lf r := by
  funext i
  by_cases h : i < 64 * ((r.length + 63) / 64)
  · exact rowOf_bit r i h
  · unfold bit lf
    rw [List.getD_eq_getElem?_getD, List.getD_eq_getElem?_getD, List.getElem?_eq_none (show (rowOf r).length ≤ i / 64 by rw [rowOf_length]; omega), List.getElem?_eq_none (show r.length ≤ i by omega)]
    simp

theorem nxt_length (p : Nat) (l : List Nat) : (nxt p l).length = l.length := by
  unfold nxt
  rw [List.length_append, ← List.countP_eq_length_filter, ← List.countP_eq_length_filter]
  induction l with
  | nil => rfl
  | cons x l ih => rw [List.countP_cons, List.countP_cons, List.length_cons]; cases x.testBit p <;> simp <;> omega
theorem levs_length (L : Nat) : ∀ l, (levs L l).length = L := by
  induction L with
  | zero => intro l; rfl
  | succ L ih => intro l; simp [levs, ih]
theorem levs_each (L : Nat) : ∀ l, ∀ r ∈ levs L l, r.length = l.length := by
  induction L with
  | zero => intro l r h; simp [levs] at h
  | succ L ih =>
    intro l r h
    rw [levs, List.mem_cons] at h
    rcases h with rfl | h
    · simp [digs10]
    · rw [ih _ r h, nxt_length]

theorem tally_count (l : List Nat) (p : Nat → Bool) (i : Nat) : tally (lf (l.map p)) i = (l.take i).countP p := by
  induction i with
  | zero => rfl
  | succ i ih =>
    rw [tally, ih]
    by_cases h : i < l.length
    · rw [List.take_succ_eq_append_getElem h, List.countP_append, List.countP_singleton]
      simp only [lf, List.getD_eq_getElem?_getD, List.getElem?_map, List.getElem?_eq_getElem h, Option.map_some, Option.getD_some]
      cases p l[i] <;> rfl
    · rw [List.take_of_length_le (by omega), List.take_of_length_le (by omega)]
      simp [lf, List.getD_eq_getElem?_getD, List.getElem?_eq_none (show l.length ≤ i by omega)]

theorem filter_at (l : List Nat) (p : Nat → Bool) (i x : Nat) (h : l[i]? = some x) (hp : p x = true) : (l.filter p)[(l.take i).countP p]? = some x := by
  obtain ⟨hi, rfl⟩ := List.getElem?_eq_some_iff.1 h
  have e : l.filter p = (l.take i).filter p ++ (l.drop i).filter p := by rw [← List.filter_append, List.take_append_drop]
  rw [e, List.getElem?_append_right (by rw [List.countP_eq_length_filter]; exact Nat.le_refl _), List.countP_eq_length_filter, Nat.sub_self, List.drop_eq_getElem_cons hi, List.filter_cons_of_pos hp]
  rfl

/-- Where the next level has a number. -/
theorem nxt_at (p : Nat) (l : List Nat) (i x : Nat) (h : l[i]? = some x) : (nxt p l)[tos l.length (lf (digs10 p l)) i]? = some x := by
  obtain ⟨hi, hx⟩ := List.getElem?_eq_some_iff.1 h
  have hb : lf (digs10 p l) i = x.testBit p := by simp [lf, digs10, List.getD_eq_getElem?_getD, List.getElem?_map, h]
  have hn : ∀ m, tally (lf (digs10 p l)) m = (l.take m).countP (fun x => x.testBit p) := fun m => tally_count l _ m
  have hc : ∀ m, (l.take m).countP (fun x => !x.testBit p) + (l.take m).countP (fun x => x.testBit p) = (l.take m).length := by
    intro m
    induction l.take m with
    | nil => rfl
    | cons y t ih => rw [List.countP_cons, List.countP_cons, List.length_cons]; cases y.testBit p <;> simp <;> omega
  have hc1 := hc i
  have hc2 := hc l.length
  rw [List.take_length] at hc2
  rw [List.length_take, Nat.min_eq_left (by omega)] at hc1
  unfold tos zr
  rw [hb, hn, hn, List.take_length]
  unfold nxt
  cases hp : x.testBit p
  · rw [if_neg (by simp)]
    have hf := filter_at l (fun x => !x.testBit p) i x h (by simp [hp])
    rw [show i - (l.take i).countP (fun x => x.testBit p) = (l.take i).countP (fun x => !x.testBit p) by omega]
    rw [List.getElem?_append_left (List.getElem?_eq_some_iff.1 hf).1]
    exact hf
  · rw [if_pos rfl]
    have hf := filter_at l (fun x => x.testBit p) i x h hp
    rw [List.getElem?_append_right (by rw [← List.countP_eq_length_filter]; omega), ← List.countP_eq_length_filter (p := fun x : Nat => !x.testBit p)]
    rw [show l.length - l.countP (fun x => x.testBit p) + (l.take i).countP (fun x => x.testBit p) - l.countP (fun x => !x.testBit p) = (l.take i).countP (fun x => x.testBit p) by omega]
    exact hf

/-- The matrix of a list has its numbers. -/
theorem val_levs (L : Nat) : ∀ (l : List Nat) (i x : Nat), l[i]? = some x → val l.length ((levs L l).map lf) i = x % 2 ^ L := by
  induction L with
  | zero => intro l i x h; simp [levs, val, Nat.mod_one]
  | succ L ih =>
    intro l i x h
    have hx := nxt_at L l i x h
    have hb : lf (digs10 L l) i = x.testBit L := by simp [lf, digs10, List.getD_eq_getElem?_getD, List.getElem?_map, h]
    have e := ih (nxt L l) _ x hx
    rw [nxt_length] at e
    rw [levs, List.map_cons, val, e, hb, List.length_map, levs_length, Nat.pow_succ, Nat.mod_mul, Nat.toNat_testBit, Nat.mul_comm, Nat.add_comm]

/-- The list of a matrix. -/
def lsI (n : Nat) (bs : List (Nat → Bool)) : List Int := (List.range n).map fun i => (val n bs i : Int)
theorem lsI_length (n : Nat) (bs : List (Nat → Bool)) : (lsI n bs).length = n := by simp [lsI]
theorem lsI_at (n : Nat) (bs : List (Nat → Bool)) (i : Nat) (h : i < n) : (lsI n bs)[i]? = some (val n bs i : Int) := by
  unfold lsI; rw [List.getElem?_map, List.getElem?_range h]; rfl
/-- A range of it. -/
def rng (n : Nat) (bs : List (Nat → Bool)) (a b : Nat) : List Int := ((lsI n bs).drop a).take (b - a)
theorem rng_length (n : Nat) (bs : List (Nat → Bool)) (a b : Nat) (hb : b ≤ n) : (rng n bs a b).length = b - a := by
  unfold rng; rw [List.length_take, List.length_drop, lsI_length]; omega

/-- How many are less than x, whatever x. -/
def lessI (n : Nat) (bs : List (Nat → Bool)) (x : Int) (f t : Nat) : Int := num n bs (fun v => decide ((v : Int) < x)) f t
def sameI (n : Nat) (bs : List (Nat → Bool)) (x : Int) (f t : Nat) : Int := num n bs (fun v => decide ((v : Int) = x)) f t
theorem lessI_nat (n : Nat) (bs : List (Nat → Bool)) (x f t : Nat) : lessI n bs (x : Int) f t = less n bs x f t := num_congr n bs _ _ f t fun v _ => by simp
theorem sameI_nat (n : Nat) (bs : List (Nat → Bool)) (x f t : Nat) : sameI n bs (x : Int) f t = same n bs x f t := num_congr n bs _ _ f t fun v _ => by simp; omega
theorem lessI_neg (n : Nat) (bs : List (Nat → Bool)) (x : Int) (h : x < 0) (f t : Nat) : lessI n bs x f t = 0 := num_none n bs _ f t fun v _ => by simp; omega
theorem sameI_neg (n : Nat) (bs : List (Nat → Bool)) (x : Int) (h : x < 0) (f t : Nat) : sameI n bs x f t = 0 := num_none n bs _ f t fun v _ => by simp; omega
theorem lessI_mono (n : Nat) (bs : List (Nat → Bool)) (x y : Int) (h : x ≤ y) (f t : Nat) (hft : f ≤ t) : lessI n bs x f t ≤ lessI n bs y f t :=
  num_imp n bs _ _ (fun v hv => by simp at hv ⊢; omega) f t hft
theorem lessI_succ (n : Nat) (bs : List (Nat → Bool)) (x f t : Nat) : lessI n bs ((x : Int) + 1) f t = less n bs (x + 1) f t := lessI_nat n bs (x + 1) f t

theorem tally_take (n : Nat) (bs : List (Nat → Bool)) (q : Int → Bool) (t : Nat) (h : t ≤ n) : tally (fun i => q (val n bs i : Int)) t = ((lsI n bs).take t).countP q := by
  induction t with
  | zero => rfl
  | succ t ih =>
    have hl : t < (lsI n bs).length := by rw [lsI_length]; omega
    have hg : (lsI n bs)[t] = (val n bs t : Int) := Option.some.inj ((List.getElem?_eq_getElem hl).symm.trans (lsI_at n bs t (by omega)))
    rw [tally, ih (by omega), List.take_succ_eq_append_getElem hl, List.countP_append, List.countP_singleton, hg]
    cases q (val n bs t : Int) <;> rfl
/-- Counting in a range is counting in its list. -/
theorem num_count (n : Nat) (bs : List (Nat → Bool)) (q : Int → Bool) (a b : Nat) (hab : a ≤ b) (hb : b ≤ n) : num n bs (fun v => q (v : Int)) a b = ((rng n bs a b).countP q : Int) := by
  unfold num
  rw [tally_take n bs q b hb, tally_take n bs q a (by omega)]
  have e : (lsI n bs).take b = (lsI n bs).take a ++ rng n bs a b := by
    have := List.take_add (l := lsI n bs) (i := a) (j := b - a)
    rw [show a + (b - a) = b by omega] at this
    exact this
  rw [e, List.countP_append]
  omega

/-- In a sorted list, the element with index k. -/
theorem sorted_kth (s : List Int) (h : s.Pairwise (· ≤ ·)) (k : Nat) (x : Int) (hx : s[k]? = some x) : s.countP (fun z => decide (z < x)) ≤ k ∧ k < s.countP (fun z => decide (z < x + 1)) := by
  obtain ⟨hk, rfl⟩ := List.getElem?_eq_some_iff.1 hx
  have e : s = s.take k ++ s[k] :: s.drop (k + 1) := by rw [← List.drop_eq_getElem_cons hk, List.take_append_drop]
  have hp := h
  rw [e, List.pairwise_append] at hp
  obtain ⟨_, hp2, hp3⟩ := hp
  rw [List.pairwise_cons] at hp2
  have hlen : (s.take k).length = k := by rw [List.length_take]; omega
  generalize s[k] = x at *
  generalize s.take k = t at *
  generalize s.drop (k + 1) = d at *
  subst e
  rw [List.countP_append, List.countP_append]
  constructor
  · have h0 : (x :: d).countP (fun z => decide (z < x)) = 0 := by
      rw [List.countP_eq_zero]
      intro z hz
      rcases List.mem_cons.1 hz with rfl | hz
      · simp
      · have := hp2.1 z hz; simp; omega
    have := List.countP_le_length (p := fun z : Int => decide (z < x)) (l := t)
    omega
  · have h1 : t.countP (fun z => decide (z < x + 1)) = t.length := by
      rw [List.countP_eq_length]
      intro z hz
      have := hp3 z hz x (by simp)
      simp; omega
    rw [h1, List.countP_cons_of_pos (by simp; omega)]
    omega

/-- In the sorted list of a range, the element with index k is what the matrix gives. -/
theorem sorted_kv (n : Nat) (bs : List (Nat → Bool)) (a b k : Nat) (hab : a ≤ b) (hb : b ≤ n) (s : List Int) (hs : s.Pairwise (· ≤ ·)) (hp : s.Perm (rng n bs a b)) (x : Int) (hx : s[k]? = some x) : x = (kv n bs a b k : Int) := by
  obtain ⟨h1, h2⟩ := sorted_kth s hs k x hx
  have hk : k < b - a := by have := (List.getElem?_eq_some_iff.1 hx).1; rw [hp.length_eq, rng_length n bs a b hb] at this; exact this
  have hm : x ∈ rng n bs a b := hp.mem_iff.1 (List.mem_of_getElem? hx)
  obtain ⟨v, rfl⟩ : ∃ v : Nat, x = v := by
    have h2 := List.mem_of_mem_drop (List.mem_of_mem_take hm)
    obtain ⟨i, _, rfl⟩ := List.mem_map.1 h2
    exact ⟨_, rfl⟩
  rw [hp.countP_eq, ← Int.ofNat_le, ← num_count n bs _ a b hab hb] at h1
  rw [hp.countP_eq, ← Int.ofNat_lt, ← num_count n bs _ a b hab hb] at h2
  have g1 : less n bs v a b ≤ k := by rw [← lessI_nat]; exact h1
  have g2 : (k : Int) < less n bs (v + 1) a b := by rw [← lessI_succ]; exact h2
  obtain ⟨f1, f2⟩ := kv_spec n bs a b k hab hk
  exact congrArg _ (kth_unique n bs a b k v _ hab g1 g2 f1 f2)

/-- Where the numbers of a sorted list come to x. -/
theorem sorted_cut (s : List Int) (hs : s.Pairwise (· ≤ ·)) (x : Int) (m : Nat) (hm : m ≤ s.length) (h1 : ∀ j z, j < m → s[j]? = some z → z < x) (h2 : ∀ z, s[m]? = some z → x ≤ z) : s.countP (fun z => decide (z < x)) = m := by
  have e : s.countP (fun z => decide (z < x)) = (s.take m).countP (fun z => decide (z < x)) + (s.drop m).countP (fun z => decide (z < x)) := by rw [← List.countP_append, List.take_append_drop]
  rw [e]
  have t1 : (s.take m).countP (fun z => decide (z < x)) = (s.take m).length := by
    rw [List.countP_eq_length]
    intro z hz
    obtain ⟨j, hj⟩ := List.getElem?_of_mem hz
    rw [List.getElem?_take] at hj
    split at hj
    · rename_i hjm; simpa using h1 j z hjm hj
    · cases hj
  have t2 : (s.drop m).countP (fun z => decide (z < x)) = 0 := by
    rw [List.countP_eq_zero]
    intro z hz
    rcases Nat.lt_or_ge m s.length with hl | hl
    · have hd := List.drop_eq_getElem_cons hl
      have hx := h2 _ (List.getElem?_eq_getElem hl)
      have hp : (s.drop m).Pairwise (· ≤ ·) := hs.sublist (List.drop_sublist _ _)
      rw [hd, List.pairwise_cons] at hp
      rw [hd] at hz
      rcases List.mem_cons.1 hz with rfl | hz
      · simp; omega
      · have := hp.1 z hz; simp; omega
    · rw [List.drop_eq_nil_of_le hl] at hz; cases hz
  rw [t1, t2, List.length_take]
  omega
end Go.Proofs.Ythmfcdefdbeefaa.Words

namespace Go.Proofs.Ythmfcdefdbeefaa
open Go.Lib

/-- How many are less than x. -/
def cntL (l : List Int) (x : Int) : Nat := l.countP (fun y => decide (y < x))
theorem cntL_le (l : List Int) (x : Int) : cntL l x ≤ l.length := List.countP_le_length
theorem cntL_perm {l k : List Int} (h : l.Perm k) (x : Int) : cntL l x = cntL k x := h.countP_eq _

/-! ### compact of a list that does not fall -/
theorem comp_inv (d : Array Int) (hs : ∀ i j, i ≤ j → j < d.size → d[i]! ≤ d[j]!) : ∀ m, m ≤ d.size →
    (compactUpTo d m).Pairwise (· < ·) ∧ (∀ x, x ∈ compactUpTo d m ↔ ∃ j, j < m ∧ d[j]! = x) := by
  intro m
  induction m with
  | zero =>
    intro _
    have e : compactUpTo d 0 = [] := rfl
    rw [e]
    refine ⟨List.Pairwise.nil, fun x => ?_⟩
    constructor
    · intro h; cases h
    · rintro ⟨j, h, _⟩; omega
  | succ m ih =>
    intro hm
    obtain ⟨h1, h2⟩ := ih (by omega)
    rw [compactUpTo_succ]
    by_cases hk : keeps d m = true
    · rw [if_pos hk]
      have hk2 : m = 0 ∨ d[m]! ≠ d[m - 1]! := by simpa [keeps] using hk
      refine ⟨List.pairwise_append.2 ⟨h1, List.pairwise_singleton _ _, fun a ha b hb => ?_⟩, fun x => ?_⟩
      · rw [List.mem_singleton] at hb
        subst hb
        obtain ⟨j, hj, rfl⟩ := (h2 a).1 ha
        rcases hk2 with h0 | h0
        · omega
        · have ha1 := hs j (m - 1) (by omega) (by omega)
          have ha2 := hs (m - 1) m (by omega) (by omega)
          omega
      · rw [List.mem_append, List.mem_singleton, h2]
        constructor
        · rintro (⟨j, hj, e⟩ | rfl)
          · exact ⟨j, by omega, e⟩
          · exact ⟨m, by omega, rfl⟩
        · rintro ⟨j, hj, rfl⟩
          by_cases e : j = m
          · subst e; exact .inr rfl
          · exact .inl ⟨j, by omega, rfl⟩
    · rw [if_neg hk, List.append_nil]
      have hk2 : ¬ (m = 0 ∨ d[m]! ≠ d[m - 1]!) := by simpa [keeps] using hk
      have hm0 : m ≠ 0 := fun e => hk2 (.inl e)
      have he : d[m]! = d[m - 1]! := by
        rcases Decidable.em (d[m]! = d[m - 1]!) with e | e
        · exact e
        · exact absurd (.inr e) hk2
      refine ⟨h1, fun x => ?_⟩
      rw [h2]
      constructor
      · rintro ⟨j, hj, e⟩
        exact ⟨j, by omega, e⟩
      · rintro ⟨j, hj, rfl⟩
        by_cases e : j = m
        · subst e; exact ⟨j - 1, by omega, he.symm⟩
        · exact ⟨j, by omega, rfl⟩

theorem comp_spec {l : List Int} (hs : l.Pairwise (· ≤ ·)) : (compact l).Pairwise (· < ·) ∧ ∀ x, x ∈ compact l ↔ x ∈ l := by
  have hsz : l.toArray.size = l.length := by simp
  have hg : ∀ i (h : i < l.length), l.toArray[i]! = l[i] := fun i h => by rw [getElem!_pos l.toArray i (by rw [hsz]; exact h)]; simp
  obtain ⟨h1, h2⟩ := comp_inv l.toArray (fun i j hij hj => by
    rw [hsz] at hj
    rw [hg i (by omega), hg j hj]
    rcases Nat.lt_or_ge i j with h | h
    · exact List.pairwise_iff_getElem.1 hs i j (by omega) hj h
    · obtain rfl : i = j := by omega
      exact Int.le_refl _) l.length (by rw [hsz]; exact Nat.le_refl _)
  refine ⟨h1, fun x => ?_⟩
  unfold compact
  rw [h2]
  constructor
  · rintro ⟨j, hj, rfl⟩
    rw [hg j hj]
    exact List.getElem_mem hj
  · intro hx
    obtain ⟨j, hj, rfl⟩ := List.getElem_of_mem hx
    exact ⟨j, hj, hg j hj⟩

/-- The sorted list (as the library's sort leaves it). -/
def srtd (l : List Int) : List Int := l.mergeSort fun x y => decide (x ≤ y)
theorem srtd_perm (l : List Int) : (srtd l).Perm l := List.mergeSort_perm _ _
theorem srtd_sorted (l : List Int) : (srtd l).Pairwise (· ≤ ·) := by
  have h := List.pairwise_mergeSort (le := fun x y : Int => decide (x ≤ y)) (fun a b c h1 h2 => by simp only [decide_eq_true_eq] at *; omega) (fun a b => by simp only [Bool.or_eq_true, decide_eq_true_eq]; omega) l
  exact h.imp (fun h => by simpa using h)

/-- The distinct numbers in increasing order. -/
def dst (l : List Int) : List Int := compact (srtd l)
theorem dst_lt (l : List Int) : (dst l).Pairwise (· < ·) := (comp_spec (srtd_sorted l)).1
theorem dst_mem (l : List Int) (x : Int) : x ∈ dst l ↔ x ∈ l := ((comp_spec (srtd_sorted l)).2 x).trans (srtd_perm l).mem_iff
theorem comp_length_le (l : List Int) : (compact l).length ≤ l.length := by
  unfold compact compactUpTo
  rw [List.length_map]
  exact Nat.le_trans (List.length_filter_le _ _) (by simp)
theorem dst_length_le (l : List Int) : (dst l).length ≤ l.length := Nat.le_trans (comp_length_le _) (Nat.le_of_eq (srtd_perm l).length_eq)

theorem lt_nodup {l : List Int} (h : l.Pairwise (· < ·)) : l.Nodup := h.imp fun h e => by omega
theorem rise_le {l : List Int} (h : l.Pairwise (· < ·)) : l.Pairwise (· ≤ ·) := h.imp fun h => by omega
/-- Two strictly increasing lists of the same numbers are one. -/
theorem lt_ext {l k : List Int} (h1 : l.Pairwise (· < ·)) (h2 : k.Pairwise (· < ·)) (h : ∀ x, x ∈ l ↔ x ∈ k) : l = k :=
  List.Perm.eq_of_pairwise (le := (· ≤ ·)) (fun _ _ _ _ h1 h2 => Int.le_antisymm h1 h2) (rise_le h1) (rise_le h2) ((List.perm_ext_iff_of_nodup (lt_nodup h1) (lt_nodup h2)).2 h)

/-- In a strictly increasing list as many are less than an element as stand before it. -/
theorem cnt_at {s : List Int} (hs : s.Pairwise (· < ·)) {p : Nat} {x : Int} (h : s[p]? = some x) : cntL s x = p := by
  obtain ⟨hp, e⟩ := List.getElem?_eq_some_iff.1 h
  have sp : s = s.take p ++ s.drop p := (List.take_append_drop p s).symm
  unfold cntL
  rw [sp, List.countP_append]
  have h1 : (s.take p).countP (fun y => decide (y < x)) = p := by
    have : (s.take p).countP (fun y => decide (y < x)) = (s.take p).length := List.countP_eq_length.2 fun y hy => by
      obtain ⟨j, hj, rfl⟩ := List.getElem_of_mem hy
      rw [List.length_take] at hj
      rw [List.getElem_take, ← e]
      simpa using List.pairwise_iff_getElem.1 hs j p (by omega) hp (by omega)
    rw [this, List.length_take]
    omega
  have h2 : (s.drop p).countP (fun y => decide (y < x)) = 0 := List.countP_eq_zero.2 fun y hy => by
    obtain ⟨j, hj, rfl⟩ := List.getElem_of_mem hy
    rw [List.length_drop] at hj
    rw [List.getElem_drop, ← e]
    have : s[p] ≤ s[p + j] := by
      rcases Nat.eq_zero_or_pos j with h0 | h0
      · subst h0; exact Int.le_refl _
      · exact Int.le_of_lt (List.pairwise_iff_getElem.1 hs p (p + j) hp (by omega) (by omega))
    simpa using this
  rw [h1, h2]
  rfl
theorem at_cnt {s : List Int} (hs : s.Pairwise (· < ·)) {x : Int} (h : x ∈ s) : s[cntL s x]? = some x := by
  obtain ⟨p, hp, rfl⟩ := List.getElem_of_mem h
  have e : s[p]? = some s[p] := List.getElem?_eq_getElem hp
  rw [cnt_at hs e]
  exact e
/-- One number more is less than x + 1, if x is there. -/
theorem cnt_next {s : List Int} (hs : s.Pairwise (· < ·)) {x : Int} (h : x ∈ s) : cntL s (x + 1) = cntL s x + 1 := by
  obtain ⟨p, hp, rfl⟩ := List.getElem_of_mem h
  rw [cnt_at hs (List.getElem?_eq_getElem hp)]
  by_cases h2 : p + 1 < s.length
  · rw [show p + 1 = cntL s s[p + 1] from (cnt_at hs (List.getElem?_eq_getElem h2)).symm]
    unfold cntL
    refine List.countP_congr fun y hy => ?_
    obtain ⟨j, hj, rfl⟩ := List.getElem_of_mem hy
    have a1 := List.pairwise_iff_getElem.1 hs p (p + 1) hp h2 (by omega)
    have a2 : j ≤ p → s[j] ≤ s[p] := fun hjp => by
      rcases Nat.lt_or_ge j p with h | h
      · exact Int.le_of_lt (List.pairwise_iff_getElem.1 hs j p hj hp h)
      · obtain rfl : j = p := by omega
        exact Int.le_refl _
    have a3 : p + 1 ≤ j → s[p + 1] ≤ s[j] := fun hjp => by
      rcases Nat.lt_or_ge (p + 1) j with h | h
      · exact Int.le_of_lt (List.pairwise_iff_getElem.1 hs (p + 1) j h2 hj h)
      · obtain rfl : j = p + 1 := by omega
        exact Int.le_refl _
    simp only [decide_eq_true_eq]
    constructor
    · intro h
      rcases Nat.lt_or_ge p j with h3 | h3
      · have := a3 h3; omega
      · have := a2 h3; omega
    · intro h
      rcases Nat.lt_or_ge p j with h3 | h3
      · have := a3 h3; omega
      · have := a2 h3; omega
  · have e : p + 1 = s.length := by omega
    unfold cntL
    rw [e]
    refine List.countP_eq_length.2 fun y hy => ?_
    obtain ⟨j, hj, rfl⟩ := List.getElem_of_mem hy
    have : s[j] ≤ s[p] := by
      rcases Nat.lt_or_ge j p with h | h
      · exact Int.le_of_lt (List.pairwise_iff_getElem.1 hs j p hj hp h)
      · obtain rfl : j = p := by omega
        exact Int.le_refl _
    simp only [decide_eq_true_eq]
    omega
theorem cnt_lt {s : List Int} (hs : s.Pairwise (· < ·)) {x : Int} (h : x ∈ s) : cntL s x < s.length := by
  obtain ⟨p, hp, rfl⟩ := List.getElem_of_mem h
  rw [cnt_at hs (List.getElem?_eq_getElem hp)]
  exact hp

/-- The ranks of a list. -/
def rks (l : List Int) : List Int := l.map fun x => (cntL (dst l) x : Int)
theorem rks_length (l : List Int) : (rks l).length = l.length := by simp [rks]
theorem rks_get {l : List Int} {i : Nat} {x : Int} (h : l[i]? = some x) : (rks l)[i]? = some (cntL (dst l) x : Int) := by unfold rks; rw [List.getElem?_map, h]; rfl
/-- The numbers from 0 up. -/
def upto (n : Nat) : List Int := (List.range n).map fun x : Nat => (x : Int)
theorem upto_length (n : Nat) : (upto n).length = n := by simp [upto]
theorem upto_get (n i : Nat) (h : i < n) : (upto n)[i]? = some (i : Int) := by unfold upto; rw [List.getElem?_map, List.getElem?_range h]; rfl
theorem upto_lt (n : Nat) : (upto n).Pairwise (· < ·) := by
  unfold upto
  rw [List.pairwise_map]
  exact List.pairwise_lt_range.imp fun h => by omega
theorem upto_mem (n : Nat) (x : Int) : x ∈ upto n ↔ 0 ≤ x ∧ x < n := by
  unfold upto
  rw [List.mem_map]
  constructor
  · rintro ⟨k, hk, rfl⟩
    have := List.mem_range.1 hk
    omega
  · intro h
    exact ⟨x.toNat, List.mem_range.2 (by omega), by omega⟩
/-- The ranks are all the numbers below the count of the distinct ones. -/
theorem dst_rks (l : List Int) : dst (rks l) = upto (dst l).length := by
  refine lt_ext (dst_lt _) (upto_lt _) fun x => ?_
  rw [dst_mem, upto_mem]
  unfold rks
  rw [List.mem_map]
  constructor
  · rintro ⟨y, hy, rfl⟩
    have := cnt_lt (dst_lt l) ((dst_mem l y).2 hy)
    omega
  · rintro ⟨h1, h2⟩
    have hx : x.toNat < (dst l).length := by omega
    refine ⟨(dst l)[x.toNat], (dst_mem l _).1 (List.getElem_mem hx), ?_⟩
    rw [cnt_at (dst_lt l) (List.getElem?_eq_getElem hx)]
    omega
/-- Ranks of ranks are ranks. -/
theorem rks_rks (l : List Int) : rks (rks l) = rks l := by
  apply List.ext_getElem?
  intro i
  by_cases hi : i < l.length
  · have hx : l[i]? = some l[i] := List.getElem?_eq_getElem hi
    have h1 := rks_get hx
    rw [rks_get h1, h1, dst_rks, cnt_at (upto_lt _) (upto_get _ (cntL (dst l) l[i]) (cnt_lt (dst_lt l) ((dst_mem l _).2 (List.getElem_mem hi))))]
  · rw [List.getElem?_eq_none (by rw [rks_length, rks_length]; omega), List.getElem?_eq_none (by rw [rks_length]; omega)]

/-! ### The document's way: the kinds in the order in which they come -/
def kin (l : List Int) : List Int := l.foldl (fun ks x => if x ∈ ks then ks else ks ++ [x]) []
theorem kin_nil : kin [] = [] := rfl
theorem kin_snoc (l : List Int) (x : Int) : kin (l ++ [x]) = if x ∈ kin l then kin l else kin l ++ [x] := by
  unfold kin
  rw [List.foldl_append]
  rfl
theorem kin_step {l : List Int} {i : Nat} {x : Int} (h : l[i]? = some x) : kin (l.take (i + 1)) = if x ∈ kin (l.take i) then kin (l.take i) else kin (l.take i) ++ [x] := by
  rw [List.take_add_one, h]
  exact kin_snoc _ _
theorem kin_spec (l : List Int) : ∀ i, (kin (l.take i)).Nodup ∧ (∀ x, x ∈ kin (l.take i) ↔ x ∈ l.take i) ∧ (kin (l.take i)).length ≤ i := by
  intro i
  induction i with
  | zero => exact ⟨List.nodup_nil, fun x => Iff.rfl, Nat.le_refl _⟩
  | succ i ih =>
    obtain ⟨h1, h2, h3⟩ := ih
    by_cases hi : i < l.length
    · have hx : l[i]? = some l[i] := List.getElem?_eq_getElem hi
      rw [kin_step hx, List.take_add_one, hx]
      by_cases hm : l[i] ∈ kin (l.take i)
      · rw [if_pos hm]
        refine ⟨h1, fun x => ?_, by omega⟩
        rw [List.mem_append, Option.toList_some, List.mem_singleton, h2]
        exact ⟨Or.inl, fun h => h.elim id fun e => by rw [e]; exact (h2 _).1 hm⟩
      · rw [if_neg hm]
        refine ⟨?_, fun x => ?_, by simp; omega⟩
        · rw [List.nodup_append]
          exact ⟨h1, List.nodup_cons.2 ⟨by simp, List.nodup_nil⟩, fun a ha b hb e => hm (by rw [List.mem_singleton] at hb; rw [← hb, ← e]; exact ha)⟩
        · rw [List.mem_append, List.mem_append, Option.toList_some, List.mem_singleton, h2]
    · rw [List.take_of_length_le (by omega)] at h1 h2 h3 ⊢
      exact ⟨h1, h2, by omega⟩
theorem kin_perm (l : List Int) : (kin l).Perm (dst l) := by
  have h := kin_spec l l.length
  rw [List.take_length] at h
  exact (List.perm_ext_iff_of_nodup h.1 (lt_nodup (dst_lt l))).2 fun x => by rw [h.2.1, dst_mem]
theorem kin_len (l : List Int) : (kin l).length = (dst l).length := (kin_perm l).length_eq
theorem kin_cnt (l : List Int) (x : Int) : cntL (kin l) x = cntL (dst l) x := cntL_perm (kin_perm l) x

/-- A row in which the numbers met already stand at their places. -/
def laidK (s k : List Int) : List Int := s.map fun x => if x ∈ k then x else 0
theorem laidK_length (s k : List Int) : (laidK s k).length = s.length := by simp [laidK]
theorem laidK_nil (s : List Int) : laidK s [] = List.replicate s.length 0 := by
  unfold laidK
  rw [List.eq_replicate_iff]
  refine ⟨by simp, fun b hb => ?_⟩
  obtain ⟨x, _, rfl⟩ := List.mem_map.1 hb
  simp
theorem laidK_step {s : List Int} (hs : s.Pairwise (· < ·)) (k : List Int) {x : Int} (hx : x ∈ s) : (laidK s k).set (cntL s x) x = laidK s (k ++ [x]) := by
  have hp := cnt_lt hs hx
  have hat := at_cnt hs hx
  apply List.ext_getElem?
  intro i
  unfold laidK
  by_cases e : cntL s x = i
  · subst e
    rw [List.getElem?_set_self (by rw [List.length_map]; exact hp), List.getElem?_map, hat]
    simp
  · rw [List.getElem?_set_ne e, List.getElem?_map, List.getElem?_map]
    cases hi : s[i]? with
    | none => rfl
    | some y =>
      have hne : y ≠ x := fun e2 => by subst e2; exact e (cnt_at hs hi)
      simp [hne]
theorem laidK_all {s k : List Int} (h : ∀ x, x ∈ s → x ∈ k) : laidK s k = s := by
  unfold laidK
  conv => rhs; rw [← List.map_id s]
  exact List.map_congr_left fun x hx => if_pos (h x hx)
theorem laidK_kin (l : List Int) : laidK (dst l) (kin l) = dst l := laidK_all fun _ hx => (kin_perm l).mem_iff.2 hx

/-! ### Strictly increasing, by neighbours -/
/-- The first i numbers rise. -/
def IncTo (l : List Int) (i : Nat) : Prop := ∀ j, j + 1 < i → j + 1 < l.length → l.getD j 0 < l.getD (j + 1) 0
theorem incTo_lt {l : List Int} (h : IncTo l l.length) : l.Pairwise (· < ·) := by
  rw [List.pairwise_iff_getElem]
  have aux : ∀ k i, (hi : i + k + 1 < l.length) → l[i]'(by omega) < l[i + k + 1] := by
    intro k
    induction k with
    | zero =>
      intro i hi
      have := h i hi hi
      simpa [List.getD_eq_getElem?_getD, List.getElem?_eq_getElem hi, List.getElem?_eq_getElem (show i < l.length by omega)] using this
    | succ k ih =>
      intro i hi
      have a1 := ih i (by omega)
      have a2 := h (i + k + 1) (by omega) (by omega)
      rw [List.getD_eq_getElem?_getD, List.getD_eq_getElem?_getD, List.getElem?_eq_getElem (show i + k + 1 < l.length by omega), List.getElem?_eq_getElem (show i + k + 1 + 1 < l.length by omega)] at a2
      simp only [Option.getD_some] at a2
      have e : i + (k + 1) + 1 = i + k + 1 + 1 := by omega
      simp only [e]
      omega
  intro i j hi hj hij
  have := aux (j - i - 1) i (by omega)
  simpa [show i + (j - i - 1) + 1 = j by omega] using this
/-- Whether a list is strictly increasing. -/
def inc (l : List Int) : Bool := decide (l.Pairwise (· < ·))
theorem inc_yes {l : List Int} (h : IncTo l l.length) : inc l = true := decide_eq_true (incTo_lt h)
theorem inc_of {l : List Int} (h : l.Pairwise (· < ·)) : inc l = true := decide_eq_true h
theorem inc_lt {l : List Int} (h : inc l = true) : l.Pairwise (· < ·) := of_decide_eq_true h
theorem inc_no {l : List Int} {i : Nat} {x y : Int} (h0 : l[i]? = some x) (h1 : l[i + 1]? = some y) (h : y ≤ x) : inc l = false := decide_eq_false fun hp => by
  obtain ⟨a, e1⟩ := List.getElem?_eq_some_iff.1 h0
  obtain ⟨b, e2⟩ := List.getElem?_eq_some_iff.1 h1
  have := List.pairwise_iff_getElem.1 hp i (i + 1) a b (by omega)
  omega
theorem IncTo.zero (l : List Int) : IncTo l 0 := fun j h => by omega
theorem IncTo.one (l : List Int) : IncTo l 1 := fun j h => by omega
theorem IncTo.step {l : List Int} {i : Nat} {x y : Int} (h : IncTo l (i + 1)) (h0 : l[i]? = some x) (h1 : l[i + 1]? = some y) (hlt : x < y) : IncTo l (i + 2) := fun j hj hl => by
  by_cases e : j = i
  · subst e
    rw [List.getD_eq_getElem?_getD, List.getD_eq_getElem?_getD, h0, h1]
    exact hlt
  · exact h j (by omega) hl
theorem IncTo.past {l : List Int} {i : Nat} (h : IncTo l i) (hi : l.length ≤ i) : inc l = true := inc_yes fun j h1 h2 => h j (by omega) h2

/-- Counting along a list. -/
theorem cntL_take {l : List Int} {i : Nat} {v : Int} (h : l[i]? = some v) (x : Int) : cntL (l.take (i + 1)) x = cntL (l.take i) x + if v < x then 1 else 0 := by
  unfold cntL
  rw [List.take_add_one, h, Option.toList_some, List.countP_append, List.countP_singleton]
  simp
end Go.Proofs.Ythmfcdefdbeefaa

namespace Go.Proofs.Ythmfcdefdbeefaa.Words
open Go Go.RowKit

/-- What makes a packed array of n numbers with d bits each valid. -/
structure PValid (n d : Nat) (ws : List Nat) : Prop where
  hi : n ≤ 300
  wide : d ≤ 62
  len : ws.length = (n * d + 63) / 64
  top : ∀ i, n * d ≤ i → i < 64 * ws.length → bit ws i = false

theorem mul_bound {n d : Nat} (hn : n ≤ 300) (hd : d ≤ 62) : n * d ≤ 18600 := Nat.mul_le_mul hn hd

/-- Nothing beyond m, bit by bit. -/
theorem high_zero2 (x m : Nat) (hx : x < 18446744073709551616) : x / 2 ^ m = 0 ↔ ∀ i, m ≤ i → i < 64 → x.testBit i = false := by
  rw [← high_zero x m hx]
  constructor
  · intro h; rw [h]; simp
  · intro h
    rcases Nat.mul_eq_zero.1 h with h | h
    · exact h
    · have := Nat.two_pow_pos m; omega

/-- The test of the last word. -/
theorem pvalid_last (n d : Nat) (ws : List Nat) (j x : Nat) (hn : n ≤ 300) (hd : d ≤ 62) (hl : ws.length = (n * d + 63) / 64) (hj : ws.length = j + 1) (hx : ws[j]? = some x) (hlt : x < 18446744073709551616) :
    PValid n d ws ↔ x / 2 ^ (n * d - 64 * j) = 0 := by
  have hg : ws.getD j 0 = x := by simp [List.getD, hx]
  rw [high_zero2 x _ hlt]
  generalize hu : n * d = u at *
  constructor
  · intro h i hi hi2
    have := h.top (64 * j + i) (by omega) (by omega)
    rwa [bit_word ws j i hi2, hg] at this
  · intro h
    refine ⟨hn, hd, by rw [hu]; exact hl, fun i h1 h2 => ?_⟩
    have e : i = 64 * j + (i - 64 * j) := by omega
    rw [e, bit_word ws j _ (by omega), hg]
    exact h _ (by omega) (by omega)

theorem pvalid_nil (n d : Nat) (hn : n ≤ 300) (hd : d ≤ 62) (h : n * d = 0) : PValid n d [] := ⟨hn, hd, by rw [h]; rfl, fun i _ h => by simp at h⟩

/-- Number i of an array. -/
def numAt (ws : List Nat) (d i : Nat) : Nat := packTo (fun k => bit ws (i * d + k)) d

theorem numAt_lt (ws : List Nat) (d i : Nat) : numAt ws d i < 2 ^ d := packTo_lt _ _
theorem pow62 {d : Nat} (h : d ≤ 62) : 2 ^ d ≤ 4611686018427387904 := Nat.pow_le_pow_right (n := 2) (j := 62) (by decide) h

/-- Reading a number over a word's end. -/
theorem num_two (ws : List Nat) (d s j a b : Nat) (hd : d ≤ 62) (ha : ws.getD j 0 = a) (hb : ws.getD (j + 1) 0 = b) (hal : a < 18446744073709551616) (hs : s < 64) :
    (a / 2 ^ s ||| b * 2 ^ (64 - s) % 2 ^ 64) % 2 ^ d = packTo (fun k => bit ws (64 * j + s + k)) d := by
  apply Nat.eq_of_testBit_eq
  intro k
  rw [Nat.testBit_mod_two_pow, packTo_bit]
  by_cases hk : k < d
  · simp only [hk, decide_true, Bool.true_and]
    rw [Nat.testBit_or, Nat.testBit_div_two_pow, Nat.testBit_mod_two_pow, Nat.testBit_mul_two_pow]
    by_cases hl : s + k < 64
    · rw [Nat.add_assoc, bit_word ws j (s + k) hl, ha, Nat.add_comm s k]
      simp [show ¬ 64 - s ≤ k by omega]
    · rw [show 64 * j + s + k = 64 * (j + 1) + (k - (64 - s)) by omega, bit_word ws (j + 1) _ (by omega), hb]
      have hz : a.testBit (k + s) = false := Nat.testBit_lt_two_pow (Nat.lt_of_lt_of_le (show a < 2 ^ 64 from hal) (Nat.pow_le_pow_right (by decide) (by omega)))
      rw [hz]
      simp [show k < 64 by omega, show 64 - s ≤ k by omega]
  · simp [hk]

/-- Reading a number inside a word. -/
theorem num_one (ws : List Nat) (d s j a : Nat) (ha : ws.getD j 0 = a) (hs : s + d ≤ 64) :
    a / 2 ^ s % 2 ^ d = packTo (fun k => bit ws (64 * j + s + k)) d := by
  apply Nat.eq_of_testBit_eq
  intro k
  rw [Nat.testBit_mod_two_pow, packTo_bit]
  by_cases hk : k < d
  · simp only [hk, decide_true, Bool.true_and]
    rw [Nat.testBit_div_two_pow, Nat.add_assoc, bit_word ws j (s + k) (by omega), ha, Nat.add_comm s k]
  · simp [hk]

/-- The bits of numbers with d bits each, one behind the other. -/
def bitsOf (d : Nat) (l : List Nat) : List Bool := (List.range (l.length * d)).map fun p => (l.getD (p / d) 0).testBit (p % d)

/-- The words of a packed array. -/
def packWords (d : Nat) (l : List Nat) : List Nat := rowOf (bitsOf d l)

theorem bitsOf_length (d : Nat) (l : List Nat) : (bitsOf d l).length = l.length * d := by simp [bitsOf]

theorem place_lt {i n d k : Nat} (hi : i < n) (hk : k < d) : i * d + k < n * d := by
  have h1 : (i + 1) * d ≤ n * d := Nat.mul_le_mul_right d hi
  rw [Nat.add_mul, Nat.one_mul] at h1
  omega

theorem bitsOf_get (d : Nat) (l : List Nat) (i k : Nat) (hi : i < l.length) (hk : k < d) : (bitsOf d l).getD (i * d + k) false = (l.getD i 0).testBit k := by
  have hlt := place_lt hi hk
  unfold bitsOf
  rw [List.getD, List.getElem?_map, List.getElem?_range hlt]
  have e1 : (i * d + k) / d = i := by rw [Nat.mul_comm, Nat.mul_add_div (by omega), Nat.div_eq_of_lt hk]; rfl
  have e2 : (i * d + k) % d = k := by rw [Nat.mul_comm, Nat.mul_add_mod, Nat.mod_eq_of_lt hk]
  simp only [Option.map_some, Option.getD_some]
  rw [e1, e2]

theorem packWords_length (d : Nat) (l : List Nat) : (packWords d l).length = (l.length * d + 63) / 64 := by
  unfold packWords; rw [rowOf_length, bitsOf_length]
theorem packWords_word (d : Nat) (l : List Nat) : ∀ x ∈ packWords d l, x < 18446744073709551616 := rowOf_word _

theorem packWords_valid (d : Nat) (l : List Nat) (hn : l.length ≤ 300) (hd : d ≤ 62) : PValid l.length d (packWords d l) :=
  ⟨hn, hd, packWords_length d l, fun i h1 h2 => by
    rw [packWords_length] at h2
    unfold packWords
    rw [rowOf_bit _ i (by rw [bitsOf_length]; exact h2), List.getD, List.getElem?_eq_none (by rw [bitsOf_length]; exact h1)]; rfl⟩

/-- Every number comes back. -/
theorem packWords_num (d : Nat) (l : List Nat) (i : Nat) (hi : i < l.length) (hx : l.getD i 0 < 2 ^ d) : numAt (packWords d l) d i = l.getD i 0 := by
  unfold numAt
  apply Nat.eq_of_testBit_eq
  intro k
  rw [packTo_bit]
  by_cases hk : k < d
  · have hp := place_lt hi hk
    simp only [hk, decide_true, Bool.true_and]
    unfold packWords
    rw [rowOf_bit _ _ (by rw [bitsOf_length]; generalize l.length * d = u at *; omega), bitsOf_get d l i k hi hk]
  · simp only [hk, decide_false, Bool.false_and]
    exact (Nat.testBit_lt_two_pow (Nat.lt_of_lt_of_le hx (Nat.pow_le_pow_right (by decide) (by omega)))).symm

/-- The bits of a laid word. -/
theorem laid_bit (l : List Bool) (i j b : Nat) (hb : b < 64) : (packTo (fun b => l.getD (64 * j + b) false) (min 64 (i - 64 * j))).testBit b = (decide (64 * j + b < i) && l.getD (64 * j + b) false) := by
  rw [packTo_bit]
  congr 1
  simp only [decide_eq_decide]
  omega

/-- A number more, word by word. -/
def addAt (s j v p : Nat) : Nat := if p = j then v * 2 ^ s % 2 ^ 64 else if p = j + 1 then v / 2 ^ (64 - s) else 0

theorem addAt_bit (s j v p b : Nat) (hs : s < 64) (hv : v < 2 ^ 62) (hb : b < 64) : (addAt s j v p).testBit b = (decide (64 * j + s ≤ 64 * p + b) && v.testBit (64 * p + b - (64 * j + s))) := by
  unfold addAt
  by_cases h1 : p = j
  · rw [if_pos h1, Nat.testBit_mod_two_pow, Nat.testBit_mul_two_pow, h1, show 64 * j + b - (64 * j + s) = b - s by omega]
    simp [hb]
  · rw [if_neg h1]
    by_cases h2 : p = j + 1
    · rw [if_pos h2, Nat.testBit_div_two_pow, h2, show 64 * (j + 1) + b - (64 * j + s) = b + (64 - s) by omega, show decide (64 * j + s ≤ 64 * (j + 1) + b) = true by simp; omega]
      rfl
    · rw [if_neg h2, Nat.zero_testBit]
      by_cases h3 : 64 * j + s ≤ 64 * p + b
      · rw [Nat.testBit_lt_two_pow (Nat.lt_of_lt_of_le hv (Nat.pow_le_pow_right (by decide) (by omega)))]; simp
      · simp [h3]

/-- The words behind number i, out of those ahead of it. -/
theorem laid_num (d : Nat) (l : List Nat) (i p m : Nat) (hi : i < l.length) (hd : d ≤ 62) (hv : l.getD i 0 < 2 ^ d) (hp : p < m) :
    (laid (bitsOf d l) ((i + 1) * d) m).getD p 0 = (laid (bitsOf d l) (i * d) m).getD p 0 ||| addAt (i * d % 64) (i * d / 64) (l.getD i 0) p := by
  rw [List.getD, List.getD, laid_get _ _ _ _ hp, laid_get _ _ _ _ hp]
  simp only [Option.getD_some]
  have hv2 : l.getD i 0 < 2 ^ 62 := Nat.lt_of_lt_of_le hv (Nat.pow_le_pow_right (by decide) hd)
  apply Nat.eq_of_testBit_eq
  intro b
  rw [Nat.testBit_or]
  by_cases hb : b < 64
  · rw [laid_bit _ _ _ _ hb, laid_bit _ _ _ _ hb, addAt_bit _ _ _ _ _ (by omega) hv2 hb, show 64 * (i * d / 64) + i * d % 64 = i * d by omega]
    by_cases h1 : 64 * p + b < i * d
    · have h2 : 64 * p + b < (i + 1) * d := by rw [Nat.add_mul]; omega
      simp [h1, h2, show ¬ i * d ≤ 64 * p + b by omega]
    · obtain ⟨k, hk⟩ : ∃ k, 64 * p + b = i * d + k := ⟨64 * p + b - i * d, by omega⟩
      rw [hk, show i * d + k - i * d = k by omega]
      by_cases h2 : k < d
      · rw [bitsOf_get d l i k hi h2]
        have h3 : i * d + k < (i + 1) * d := by rw [Nat.add_mul]; omega
        simp [h3]
      · have h3 : ¬ i * d + k < (i + 1) * d := by rw [Nat.add_mul]; omega
        rw [Nat.testBit_lt_two_pow (Nat.lt_of_lt_of_le hv (Nat.pow_le_pow_right (by decide) (by omega)))]
        simp [h3, show ¬ i * d + k < i * d by omega]
  · have hz : ∀ y : Nat, y < 2 ^ 64 → y.testBit b = false := fun y hy => Nat.testBit_lt_two_pow (Nat.lt_of_lt_of_le hy (Nat.pow_le_pow_right (by decide) (by omega)))
    rw [hz _ (pack_word _ _ (by omega)), hz _ (pack_word _ _ (by omega)), hz]
    · rfl
    · unfold addAt
      split
      · exact Nat.mod_lt _ (by decide)
      · split
        · exact Nat.lt_of_le_of_lt (Nat.div_le_self _ _) (Nat.lt_of_lt_of_le hv2 (by decide))
        · decide

/-- What the words become where v is or'ed in at place s of word j. -/
def laidOn (ws : List Nat) (s j v : Nat) : List Nat :=
  if v = 0 then ws
  else if v / 2 ^ (64 - s) = 0 then ws.set j (ws.getD j 0 ||| v * 2 ^ s % 2 ^ 64)
  else (ws.set j (ws.getD j 0 ||| v * 2 ^ s % 2 ^ 64)).set (j + 1) (ws.getD (j + 1) 0 ||| v / 2 ^ (64 - s))

theorem getD_set (ws : List Nat) (j p x : Nat) (hj : j < ws.length) : (ws.set j x).getD p 0 = if p = j then x else ws.getD p 0 := by
  rw [List.getD, List.getD]
  by_cases e : p = j
  · subst e; rw [if_pos rfl, List.getElem?_set_self hj]; rfl
  · rw [if_neg e, List.getElem?_set_ne (fun h => e h.symm)]

/-- The place of a number's words. -/
theorem words_room (d n i v m : Nat) (hi : i < n) (hm : n * d ≤ 64 * m) (hv : v < 2 ^ d) (h0 : v ≠ 0) : i * d / 64 < m ∧ (v / 2 ^ (64 - i * d % 64) ≠ 0 → i * d / 64 + 1 < m) := by
  have h1 : (i + 1) * d ≤ n * d := Nat.mul_le_mul_right d hi
  rw [Nat.add_mul, Nat.one_mul] at h1
  have hd : 0 < d := by
    rcases Nat.eq_zero_or_pos d with e | e
    · subst e; simp at hv; omega
    · exact e
  refine ⟨by omega, fun h => ?_⟩
  have h2 : 64 - i * d % 64 < d := by
    rcases Nat.lt_or_ge (64 - i * d % 64) d with h3 | h3
    · exact h3
    · exact absurd (Nat.div_eq_of_lt (Nat.lt_of_lt_of_le hv (Nat.pow_le_pow_right (by decide) h3))) h
  omega

/-- One number more. -/
theorem laid_put (d : Nat) (l : List Nat) (i m : Nat) (hi : i < l.length) (hd : d ≤ 62) (hv : l.getD i 0 < 2 ^ d) (hm : l.length * d ≤ 64 * m) :
    laid (bitsOf d l) ((i + 1) * d) m = laidOn (laid (bitsOf d l) (i * d) m) (i * d % 64) (i * d / 64) (l.getD i 0) := by
  have key := fun p (hp : p < m) => laid_num d l i p m hi hd hv hp
  have hroom := words_room d l.length i (l.getD i 0) m hi hm hv
  have hlen := laid_length (bitsOf d l) (i * d) m
  have hlen2 := laid_length (bitsOf d l) ((i + 1) * d) m
  generalize laid (bitsOf d l) ((i + 1) * d) m = new at *
  generalize laid (bitsOf d l) (i * d) m = old at *
  generalize l.getD i 0 = v at *
  generalize i * d % 64 = s at *
  generalize i * d / 64 = j at *
  have hext : ∀ ys : List Nat, ys.length = m → (∀ p, p < m → new.getD p 0 = ys.getD p 0) → new = ys := by
    intro ys hy h
    apply List.ext_getElem?
    intro p
    by_cases hp : p < m
    · have := h p hp
      rw [List.getD, List.getD, List.getElem?_eq_getElem (by omega), List.getElem?_eq_getElem (by omega)] at this
      rw [List.getElem?_eq_getElem (by omega), List.getElem?_eq_getElem (by omega)]
      exact congrArg some this
    · rw [List.getElem?_eq_none (by omega), List.getElem?_eq_none (by omega)]
  unfold laidOn
  by_cases h0 : v = 0
  · rw [if_pos h0]
    refine hext _ hlen fun p hp => ?_
    rw [key p hp, h0]
    simp [addAt]
  · rw [if_neg h0]
    obtain ⟨r1, r2⟩ := hroom h0
    by_cases hz : v / 2 ^ (64 - s) = 0
    · rw [if_pos hz]
      refine hext _ (by rw [List.length_set]; exact hlen) fun p hp => ?_
      rw [key p hp, getD_set _ _ _ _ (by omega)]
      unfold addAt
      by_cases h1 : p = j
      · rw [if_pos h1, if_pos h1, h1]
      · rw [if_neg h1, if_neg h1, hz]; simp
    · rw [if_neg hz]
      have r3 := r2 hz
      refine hext _ (by rw [List.length_set, List.length_set]; exact hlen) fun p hp => ?_
      rw [key p hp, getD_set _ _ _ _ (by rw [List.length_set]; omega), getD_set _ _ _ _ (by omega)]
      unfold addAt
      by_cases h1 : p = j
      · rw [if_pos h1, if_pos h1, if_neg (by omega), h1]
      · rw [if_neg h1, if_neg h1]
        by_cases h2 : p = j + 1
        · rw [if_pos h2, if_pos h2, h2]
        · rw [if_neg h2, if_neg h2]; simp

theorem laidOn_length (ws : List Nat) (s j v : Nat) : (laidOn ws s j v).length = ws.length := by
  unfold laidOn
  split
  · rfl
  · split <;> simp

/-- How many bits a number needs. -/
theorem bitLen_lt (x : Nat) (hx : x < 18446744073709551616) (k : Nat) : Lib.bitLen x ≤ k ↔ x < 2 ^ k := by
  have aux : ∀ f x k, x < 2 ^ f → (Lib.bitLenAux f x ≤ k ↔ x < 2 ^ k) := by
    intro f
    induction f with
    | zero => intro x k h; have : x = 0 := by simpa using h
              subst this; simp [Lib.bitLenAux, Nat.two_pow_pos]
    | succ f ih =>
      intro x k h
      rw [Lib.bitLenAux]
      by_cases h0 : x = 0
      · subst h0; simp [Nat.two_pow_pos]
      · rw [if_neg h0]
        cases k with
        | zero => simp; omega
        | succ k =>
          rw [show 1 + Lib.bitLenAux f (x / 2) ≤ k + 1 ↔ Lib.bitLenAux f (x / 2) ≤ k by omega, ih (x / 2) k (by rw [Nat.pow_succ] at h; omega), Nat.pow_succ]
          omega
  exact aux 64 x k hx
end Go.Proofs.Ythmfcdefdbeefaa.Words
